import Derived.Test.YtfjbijpagaipnaaGreatDoorC03
/- grid.Matrix.withoutFirstRow. -/
namespace Go.Proofs.YtfjbijpagaipnaaGreatDoor
open Go.RowKit

def skip (col j : Nat) : Nat := if j < col then j else j + 1
/-- ms is what stays of zs (c columns) without the first row and the column col. -/
def MinorTo (r c col rr k : Nat) (zs ms : List Int) : Prop := ∀ i j, i < r - 1 → j < c - 1 → (i + 1 < rr ∨ (i + 1 = rr ∧ skip col j < k)) → ms.getD (i * (c - 1) + j) 0 = zs.getD ((i + 1) * c + skip col j) 0
theorem idx_inj {d i j i' j' : Nat} (hj : j < d) (hj' : j' < d) (h : i * d + j = i' * d + j') : i = i' ∧ j = j' := by
  have h1 : (i * d + j) / d = i := by rw [Nat.mul_comm, Nat.mul_add_div (by omega), Nat.div_eq_of_lt hj]; omega
  have h2 : (i' * d + j') / d = i' := by rw [Nat.mul_comm, Nat.mul_add_div (by omega), Nat.div_eq_of_lt hj']; omega
  have h3 : i = i' := by rw [← h1, ← h2, h]
  subst h3
  exact ⟨rfl, by omega⟩
theorem MinorTo.step {r c col rr k t : Nat} {zs ms : List Int} (h : MinorTo r c col rr k zs ms) (hl : ms.length = (r - 1) * (c - 1)) (hrr : 1 ≤ rr) (ht : t < c - 1) (hs : skip col t = k) :
    MinorTo r c col rr (k + 1) zs (ms.set ((rr - 1) * (c - 1) + t) (zs.getD (rr * c + k) 0)) := by
  intro i j hi hj hd
  by_cases he : i = rr - 1 ∧ j = t
  · obtain ⟨rfl, rfl⟩ := he
    have : (rr - 1) * (c - 1) + j < ms.length := by rw [hl]; exact idx_lt hi hj
    rw [hs, show rr - 1 + 1 = rr from by omega]
    simp [List.getD, this]
  · have hne : (rr - 1) * (c - 1) + t ≠ i * (c - 1) + j := fun e => by
      obtain ⟨a, b⟩ := idx_inj ht hj e
      exact he ⟨a.symm, b.symm⟩
    rw [show (ms.set ((rr - 1) * (c - 1) + t) (zs.getD (rr * c + k) 0)).getD (i * (c - 1) + j) 0 = ms.getD (i * (c - 1) + j) 0 from by simp [List.getD, List.getElem?_set_ne hne]]
    refine h i j hi hj ?_
    rcases hd with hd | ⟨hd1, hd2⟩
    · exact .inl hd
    · refine .inr ⟨hd1, ?_⟩
      have h1 : j ≠ t := fun e => he ⟨by omega, e⟩
      have h2 : skip col j ≠ k := by
        intro e
        rw [← hs] at e
        unfold skip at e
        split at e <;> split at e <;> omega
      omega
theorem MinorTo.pass {r c col rr : Nat} {zs ms : List Int} (h : MinorTo r c col rr col zs ms) : MinorTo r c col rr (col + 1) zs ms := by
  intro i j hi hj hd
  refine h i j hi hj ?_
  rcases hd with hd | ⟨hd1, hd2⟩
  · exact .inl hd
  · refine .inr ⟨hd1, ?_⟩
    unfold skip at hd2 ⊢
    split at hd2
    · rw [if_pos (by omega)]; omega
    · omega
theorem MinorTo.next {r c col rr : Nat} {zs ms : List Int} (h : MinorTo r c col rr c zs ms) : MinorTo r c col (rr + 1) 0 zs ms := by
  intro i j hi hj hd
  refine h i j hi hj ?_
  rcases hd with hd | ⟨_, hd2⟩
  · by_cases hir : i + 1 < rr
    · exact .inl hir
    · refine .inr ⟨by omega, ?_⟩
      unfold skip
      split <;> omega
  · omega
theorem MinorTo.pass' {r c col rr k : Nat} {zs ms : List Int} (h : MinorTo r c col rr k zs ms) (hk : k = col) : MinorTo r c col rr (k + 1) zs ms := by subst hk; exact h.pass
theorem MinorTo.next' {r c col rr k : Nat} {zs ms : List Int} (h : MinorTo r c col rr k zs ms) (hk : k = c) : MinorTo r c col (rr + 1) 0 zs ms := by subst hk; exact h.next
theorem MinorTo.start (r c col : Nat) (zs ms : List Int) : MinorTo r c col 1 0 zs ms := by
  intro i j hi hj hd
  rcases hd with hd | ⟨_, hd2⟩ <;> omega

theorem grown_below {W a b : World} {g : Option Nat} (h : W.grownBy a g) (hb : Below a.heap.size a b) : W.grownBy b g :=
  ⟨hb.os.trans h.os, hb.tape.trans h.tape, hb.output.trans h.output, Nat.le_trans h.size hb.size, fun k hk hne => (hb.block k (Nat.lt_of_lt_of_le hk h.size)).trans (h.block k hk hne)⟩
theorem grown_trans {W a b : World} {g : Option Nat} (h : W.grownBy a g) (k : a.grownBy b g) : W.grownBy b g :=
  ⟨k.os.trans h.os, k.tape.trans h.tape, k.output.trans h.output, Nat.le_trans h.size k.size, fun i hi hne => (k.block i (Nat.lt_of_lt_of_le hi h.size) hne).trans (h.block i hi hne)⟩
theorem IsI.shape {w : World} {v : Value} {z : Int} {L : Nat} (h : IsI w v z L) : ∃ nb ao n cap, v = .agg #[.bool nb, .slice ao n cap] := by
  obtain ⟨sl, xs, rfl, h2, h3, h4, h5⟩ := h
  obtain ⟨ao, cap, rfl, -⟩ := h5.open_
  exact ⟨_, _, _, _, rfl⟩
def MinorOf (r c col : Nat) (zs ms : List Int) : Prop := ∀ i j, i < r - 1 → j < c - 1 → ms.getD (i * (c - 1) + j) 0 = zs.getD ((i + 1) * c + skip col j) 0

set_option maxRecDepth 100000 in
set_option maxHeartbeats 4000000 in
theorem minor_any (v : Value) (r c col : Nat) (zs : List Int) (L : Nat) (w : World) (hm : IsM w v r c zs L) (hr1 : 1 ≤ r) (hcol : col < c) :
    Calls Tryz.prog 223 #[v, .int .i64 col] w fun e w' => ∃ x, e = .returned x ∧ (∃ ms, IsM w' x (r - 1) (c - 1) ms L ∧ MinorOf r c col zs ms) ∧ Below w.heap.size w w' := by
  have HM := Hid.mk hm
  obtain ⟨hr, hc, sl, rfl, hg0⟩ := hm
  obtain ⟨ao, cap, rfl, -⟩ := hg0.shape
  clear hg0
  obtain ⟨N, hN⟩ : ∃ N, N = r * c := ⟨_, rfl⟩
  rw [← hN] at HM ⊢
  clear hN
  obtain ⟨R, hR⟩ : ∃ R, R = r - 1 := ⟨_, rfl⟩
  obtain ⟨C, hC⟩ : ∃ C, C = c - 1 := ⟨_, rfl⟩
  have hR1 : R + 1 ≤ r := by omega
  have hR2 : r ≤ R + 1 := by omega
  have hC1 : C + 1 ≤ c := by omega
  have hC2 : c ≤ C + 1 := by omega
  have HR := Hid.mk (And.intro hR hC)
  clear hR hC
  go_enter Tryz.func223, Tryz.ntmps223
  go_wp2_with fail
  rw [show ((r : Int) - 1) = (R : Int) from by omega, show ((c : Int) - 1) = (C : Int) from by omega]
  refine (noughts_any R C _ (by omega) (by omega)).mono ?_
  rintro e w2 ⟨g, rfl, hgn, hg, hb⟩
  obtain ⟨hc2, hf2⟩ := bcell hb
  have hsz2 : w.heap.size + 1 < w2.heap.size := by have := hb.size; simp at this; omega
  have hgn2 : w.heap.size + 2 ≤ g := by simpa using hgn
  have hgl : g < w2.heap.size := hg.ty.lt
  have hbw : Below w.heap.size w w2 := by
    refine Below.trans ?_ (hb.mono (by simp <;> omega))
    repeat (first | exact Below.refl _ _ | refine Below.alloc ?_ (by simp <;> omega) _)
  go_wp2_with fail
  obtain ⟨W3, hW3⟩ : ∃ W3, W3 = w2.alloc (.cells #[.int .i64 R, .int .i64 C, .slice (some ⟨g, 0, none⟩) (R * C) (R * C)] 76) := ⟨_, rfl⟩
  rw [← hW3]
  have m0 : W3.cell? ⟨w.heap.size, 0, none⟩ = some (.int .i64 r) := by rw [hW3]; exact cell1 (by rw [hc2 _ _ (by simp <;> omega)]; simp) _
  have m1 : W3.cell? ⟨w.heap.size, 1, none⟩ = some (.int .i64 c) := by rw [hW3]; exact cell1 (by rw [hc2 _ _ (by simp <;> omega)]; simp) _
  have m2 : W3.cell? ⟨w.heap.size, 2, none⟩ = some (.slice ao N cap) := by rw [hW3]; exact cell1 (by rw [hc2 _ _ (by simp <;> omega)]; simp) _
  have p0 : W3.cell? ⟨w2.heap.size, 0, none⟩ = some (.int .i64 R) := by rw [hW3]; simp
  have p1 : W3.cell? ⟨w2.heap.size, 1, none⟩ = some (.int .i64 C) := by rw [hW3]; simp
  have p2 : W3.cell? ⟨w2.heap.size, 2, none⟩ = some (.slice (some ⟨g, 0, none⟩) (R * C) (R * C)) := by rw [hW3]; simp
  have hS : W3.heap.size = w2.heap.size + 1 := by rw [hW3]; simp
  have hG3 : Grid W3 (.slice (some ⟨g, 0, none⟩) (R * C) (R * C)) (R * C) (List.replicate (R * C) 0) L := by
    rw [hW3]; exact (hg.mono (Nat.zero_le _)).below ((Below.refl _ _).alloc (Nat.le_refl _) _)
  have hB3 : Below w.heap.size w W3 := by rw [hW3]; exact hbw.alloc (by omega) _
  have hRes : W3.heap[w.heap.size + 1]? = some (.cells #[.int .i64 0, .int .i64 0, .slice none 0 0] 76 (0, 0)) := by
    rw [hW3, Below.heap_alloc _ _ _ (by omega), hb.block _ (by simp)]
    have := heap_alloc_new (w.alloc (.cells #[.int .i64 r, .int .i64 c, .slice ao N cap] 76)) (.cells #[.int .i64 0, .int .i64 0, .slice none 0 0] 76)
    simpa using this
  have FM := Hid.mk (And.intro m0 (And.intro m1 m2))
  have FP := Hid.mk (And.intro p0 (And.intro p1 p2))
  have FR := Hid.mk hRes
  have HS := Hid.mk hS
  clear m0 m1 m2 p0 p1 p2 hRes hc2 hf2 hW3 hg hb hbw hS hgn
  go_loopw [6] (fun i wr => ∃ (rr : Nat) (ms : List Int), 1 ≤ rr ∧ rr ≤ r ∧ i = .int .i64 rr ∧ Grid wr (.slice (some ⟨g, 0, none⟩) (R * C) (R * C)) (R * C) ms L ∧ W3.grownBy wr (some g) ∧ Below w.heap.size w wr ∧ Hid (MinorTo r c col rr 0 zs ms)) (fun i _ => r - (intOf i).toNat)
  case atStart => exact ⟨1, _, Nat.le_refl _, hr1, rfl, hG3, World.grownBy.refl _ _, hB3, Hid.mk (MinorTo.start _ _ _ _ _)⟩
  case round =>
    clear hG3 hB3
    obtain ⟨rr, ms, hrr1, hrr2, rfl, hG, hgr, hB, HI⟩ := hrel
    have q0 := hgr.cell FM.out.1 (by simp; omega)
    have q1 := hgr.cell FM.out.2.1 (by simp; omega)
    have q2 := hgr.cell FM.out.2.2 (by simp; omega)
    by_cases hrr : rr < r
    · go_wp2_with fail
      go_loopw [7] (fun i ws => ∃ (k : Nat) (ms : List Int), k ≤ c ∧ i = .int .i64 k ∧ Grid ws (.slice (some ⟨g, 0, none⟩) (R * C) (R * C)) (R * C) ms L ∧ W3.grownBy ws (some g) ∧ Below w.heap.size w ws ∧ Hid (MinorTo r c col rr k zs ms)) (fun i _ => c - (intOf i).toNat)
      case atStart => exact ⟨0, ms, Nat.zero_le _, rfl, hG, hgr, hB, HI⟩
      case round =>
        clear hG hgr hB q0 q1 q2 HI
        obtain ⟨k, ms, hk, rfl, hG, hgr, hB, HI⟩ := hrel
        have q0 := hgr.cell FM.out.1 (by simp; omega)
        have q1 := hgr.cell FM.out.2.1 (by simp; omega)
        have q2 := hgr.cell FM.out.2.2 (by simp; omega)
        by_cases hkc : k < c
        · go_wp2_with fail
          refine (at_in _ r c rr k zs L _ (HM.out.below hB) hrr hkc).mono ?_
          rintro e w4 ⟨x, rfl, hx, hb4⟩
          obtain ⟨nb, bo, n, ecap, rfl⟩ := hx.shape
          have hG4 := hG.below hb4
          have hgr4 := grown_below hgr hb4
          have hB4 : Below w.heap.size w w4 := hB.trans (hb4.mono hB.size)
          clear hG hgr hB hb4 q0 q1 q2
          have W5b := (Below.refl w4.heap.size w4).alloc (Nat.le_refl _) (.cells #[.bool nb, .slice bo n ecap] 94)
          have s0 := cell1 (hgr4.cell FP.out.1 (by simp; omega)) (.cells #[.bool nb, .slice bo n ecap] 94)
          have s1 := cell1 (hgr4.cell FP.out.2.1 (by simp; omega)) (.cells #[.bool nb, .slice bo n ecap] 94)
          have s2 := cell1 (hgr4.cell FP.out.2.2 (by simp; omega)) (.cells #[.bool nb, .slice bo n ecap] 94)
          have S := Hid.mk (And.intro s0 (And.intro s1 s2))
          have W5 := Hid.mk W5b
          clear s0 s1 s2 W5b
          have hms : ms.length = R * C := hG4.1
          have hend : ∀ (t : Nat) (w6 : World) (z : Int), z = zs.getD (rr * c + k) 0 → t < C → skip col t = k → Grid w6 (.slice (some ⟨g, 0, none⟩) (R * C) (R * C)) (R * C) (ms.set ((rr - 1) * C + t) z) L → (w4.alloc (.cells #[.bool nb, .slice bo n ecap] 94)).grownBy w6 (some g) →
              Grid w6 (.slice (some ⟨g, 0, none⟩) (R * C) (R * C)) (R * C) (ms.set ((rr - 1) * C + t) z) L ∧ W3.grownBy w6 (some g) ∧ Below w.heap.size w w6 ∧ MinorTo r c col rr (k + 1) zs (ms.set ((rr - 1) * C + t) z) := by
            intro t w6 z hz ht hs h1 h2
            subst hz
            refine ⟨h1, grown_trans (grown_below hgr4 W5.out) h2, ?_, ?_⟩
            · refine ((hB4.trans (W5.out.mono hB4.size))).grown h2 (by have := hB4.size; simp; omega) ?_
              intro j hj
              simp at hj
              omega
            · have e := HR.out
              have := HI.out.step (t := t) (by rw [hms, e.1, e.2]) hrr1 (by omega) hs
              rw [← e.2] at this
              exact this
          have HE := Hid.mk hend
          clear hend
          by_cases h1 : k < col
          · go_wp2_with fail
            rw [show ((rr : Int) - 1) = ((rr - 1 : Nat) : Int) from by omega]
            refine (set_in w2.heap.size g R C (R * C) (rr - 1) k ms L _ (zs.getD (rr * c + k) 0) _ S.out.1 S.out.2.1 S.out.2.2 (hG4.below W5.out) (hx.below W5.out) (by omega) (by omega) (by omega) (by omega)).mono ?_
            rintro e w6 ⟨rfl, a1, a2, -⟩
            obtain ⟨b1, b2, b3, b4⟩ := HE.out k w6 _ rfl (by omega) (by unfold skip; rw [if_pos h1]) a1 a2
            clear a1 a2 hG4 hgr4 hB4 hx
            go_wp2_with fail
            go_roundw
            case rel => exact ⟨k + 1, _, by omega, by go_num, b1, b2, b3, Hid.mk b4⟩
            case measure => simp [intOf]; omega
          · by_cases h2 : col < k
            · go_wp2_with fail
              rw [show ((rr : Int) - 1) = ((rr - 1 : Nat) : Int) from by omega, show ((k : Int) - 1) = ((k - 1 : Nat) : Int) from by omega]
              refine (set_in w2.heap.size g R C (R * C) (rr - 1) (k - 1) ms L _ (zs.getD (rr * c + k) 0) _ S.out.1 S.out.2.1 S.out.2.2 (hG4.below W5.out) (hx.below W5.out) (by omega) (by omega) (by omega) (by omega)).mono ?_
              rintro e w6 ⟨rfl, a1, a2, -⟩
              obtain ⟨b1, b2, b3, b4⟩ := HE.out (k - 1) w6 _ rfl (by omega) (by unfold skip; rw [if_neg (by omega)]; omega) a1 a2
              clear a1 a2 hG4 hgr4 hB4 hx
              go_wp2_with fail
              go_roundw
              case rel => exact ⟨k + 1, _, by omega, by go_num, b1, b2, b3, Hid.mk b4⟩
              case measure => simp [intOf]; omega
            · go_wp2_with fail
              go_roundw
              case rel => exact ⟨k + 1, ms, by omega, by go_num, hG4.below W5.out, grown_below hgr4 W5.out, hB4.trans (W5.out.mono hB4.size), Hid.mk (HI.out.pass' (by omega))⟩
              case measure => simp [intOf]; omega
        · go_wp2_with fail
          go_roundw
          case rel => exact ⟨rr + 1, ms, by omega, by omega, by go_num, hG, hgr, hB, Hid.mk (HI.out.next' (by omega))⟩
          case measure => simp [intOf]; omega
    · have s0 := hgr.cell FP.out.1 (by simp; omega)
      have s1 := hgr.cell FP.out.2.1 (by simp; omega)
      have s2 := hgr.cell FP.out.2.2 (by simp; omega)
      have hres : wr.heap[w.heap.size + 1]? = some (.cells #[.int .i64 0, .int .i64 0, .slice none 0 0] 76 (0, 0)) := by
        rw [hgr.block _ (by have := HS.out; omega) (by simp; omega)]; exact FR.out
      have r0 : wr.cell? ⟨w.heap.size + 1, 0, none⟩ = some (.int .i64 0) := by simp [World.cell?, hres]
      have r1 : wr.cell? ⟨w.heap.size + 1, 1, none⟩ = some (.int .i64 0) := by simp [World.cell?, hres]
      have r2 : wr.cell? ⟨w.heap.size + 1, 2, none⟩ = some (.slice none 0 0) := by simp [World.cell?, hres]
      have z0 : wr.frozen? ⟨w.heap.size + 1, 0, none⟩ = false := by simp [World.frozen?, hres]
      have z1 : wr.frozen? ⟨w.heap.size + 1, 1, none⟩ = false := by simp [World.frozen?, hres]
      have z2 : wr.frozen? ⟨w.heap.size + 1, 2, none⟩ = false := by simp [World.frozen?, hres]
      have HT : Hid (Ty wr (w.heap.size + 1) 76) := Hid.mk ⟨_, _, hres⟩
      clear hres
      go_wp2_with fail
      refine bodyPost_ret (v := .agg #[.int .i64 R, .int .i64 C, .slice (some ⟨g, 0, none⟩) (R * C) (R * C)]) ?_ rfl ?_
      · (simp [results, Tryz.results223, go_sem, r0, r1, r2]; done)
      · obtain ⟨e1, e2⟩ := HR.out
        subst e1
        subst e2
        refine ⟨_, rfl, ⟨ms, ⟨by omega, by omega, _, rfl, hG.keep (KT.setCell (KT.setCell (KT.setCell (KT.refl _) HT.out (by decide) (by decide) _) (HT.out.setCell _ _) (by decide) (by decide) _) ((HT.out.setCell _ _).setCell _ _) (by decide) (by decide) _)⟩, ?_⟩, ?_⟩
        · intro i j hi hj
          exact HI.out i j hi hj (.inl (by omega))
        · exact ((hB.setCell (by simp) _).setCell (by simp) _).setCell (by simp) _
end Go.Proofs.YtfjbijpagaipnaaGreatDoor

/- grid.Matrix.Fits, matrices.tooBig, of matrices that fit. -/
namespace Go.Proofs.YtfjbijpagaipnaaGreatDoor
open Go.RowKit

set_option maxRecDepth 100000 in
set_option maxHeartbeats 2000000 in
theorem fits_yes (v : Value) (r c : Nat) (zs : List Int) (L : Nat) (w : World) (hm : IsM w v r c zs L) (hr : r ≤ 4) (hc : c ≤ 4) (hL : L ≤ 1000000000) (hz : ∀ t, t < r * c → (zs.getD t 0).natAbs < 281474976710656) :
    Calls Tryz.prog 76 #[v, .int .i64 4, .int .i64 48] w fun e w' => e = .returned (.bool true) ∧ Below w.heap.size w w' := by
  have HM := Hid.mk hm
  have HZ := Hid.mk hz
  obtain ⟨_, _, sl, rfl, hg⟩ := hm
  obtain ⟨ao, cap, rfl, hcap, hcm, hao⟩ := hg.shape
  have hrc : r * c ≤ 16 := Nat.mul_le_mul hr hc
  have HG := Hid.mk hg
  have HA := Hid.mk hao
  clear hg hz hao
  obtain ⟨N, hN⟩ : ∃ N, N = r * c := ⟨_, rfl⟩
  rw [← hN] at hcap hrc HG HZ HA ⊢
  clear hN HM
  go_enter Tryz.func76, Tryz.ntmps76
  go_wp2_with fail
  obtain ⟨W0, hW0⟩ : ∃ W0, W0 = w.alloc (.cells #[.int .i64 r, .int .i64 c, .slice ao N cap] 76) := ⟨_, rfl⟩
  rw [← hW0]
  have m2 : W0.cell? ⟨w.heap.size, 2, none⟩ = some (.slice ao N cap) := by rw [hW0]; simp
  have hB0 : Below w.heap.size w W0 := by rw [hW0]; exact (Below.refl _ _).alloc (Nat.le_refl _) _
  have FM := Hid.mk m2
  clear m2 hW0
  go_loopw [7] (fun i wr => ∃ k : Nat, k ≤ N ∧ i = .int .i64 k ∧ Below W0.heap.size W0 wr) (fun i _ => N - (intOf i).toNat)
  case atStart => exact ⟨0, Nat.zero_le _, rfl, Below.refl _ _⟩
  case round =>
    obtain ⟨k, hk, rfl, hB⟩ := hrel
    have m2 := cell_later hB FM.out
    by_cases hkN : k < N
    · obtain ⟨g, rfl⟩ := HA.out k hkN
      have hGr := (HG.out.below hB0).below hB
      obtain ⟨nb, bo, m, ecap, c1, c2, hI⟩ := hGr.cell k hkN
      rw [Nat.mul_comm 2] at c1 c2
      have HB := Hid.mk hB
      have HI := Hid.mk hI
      clear hB hI hGr
      go_wp2_with fail
      refine (bits_any _ _ _ _ HI.out hL).mono ?_
      rintro e w2 ⟨b, rfl, hb, hb2⟩
      have hbb : b ≤ 48 := (hb 48).2 (HZ.out k hkN)
      have hB2 : Below W0.heap.size W0 w2 := HB.out.trans (hb2.mono HB.out.size)
      clear hb hb2
      go_wp2_with fail
      go_roundw
      case rel => exact ⟨k + 1, by omega, by go_num, hB2⟩
      case measure => simp [intOf]; omega
    · go_wp2_with fail
      go_ret
      exact ⟨rfl, hB0.trans (hB.mono hB0.size)⟩

set_option maxRecDepth 100000 in
set_option maxHeartbeats 2000000 in
theorem tooBig_no (v : Value) (r c : Nat) (zs : List Int) (L : Nat) (w : World) (hm : IsM w v r c zs L) (hr : r ≤ 4) (hc : c ≤ 4) (hL : L ≤ 1000000000) (hz : ∀ t, t < r * c → (zs.getD t 0).natAbs < 281474976710656) :
    Calls Tryz.prog 44 #[v] w fun e w' => e = .returned (.bool false) ∧ Below w.heap.size w w' := by
  have HM := Hid.mk hm
  have HZ := Hid.mk hz
  obtain ⟨_, _, sl, rfl, hg⟩ := hm
  obtain ⟨ao, cap, rfl, -⟩ := hg.shape
  clear hg hz
  obtain ⟨N, hN⟩ : ∃ N, N = r * c := ⟨_, rfl⟩
  rw [← hN] at HM ⊢
  rw [hN] at HM
  have HN := Hid.mk hN
  rw [← hN] at HM
  clear hN
  go_enter Tryz.func44, Tryz.ntmps44
  go_wp2_with fail
  refine (fits_yes _ r c zs L _ (HM.out.below ((Below.refl _ _).alloc (Nat.le_refl _) _)) hr hc hL HZ.out).mono ?_
  rintro e w2 ⟨rfl, hb⟩
  go_wp2_with fail
  go_ret
  exact ⟨rfl, ((Below.refl w.heap.size w).alloc (Nat.le_refl _) _).trans (hb.mono (by simp))⟩
end Go.Proofs.YtfjbijpagaipnaaGreatDoor

/- matrices.Store, filled from its first slot on: place, find, room, keep. -/
namespace Go.Proofs.YtfjbijpagaipnaaGreatDoor
open Go.RowKit

/-- The store at block b holds the matrices ms, in order; none was freed. -/
def St (w : World) (b : Nat) (ms : List (Nat × Nat × Value)) : Prop :=
  ms.length ≤ 24 ∧ ∃ arr, w.heap[b]? = some (.cells arr 109 (0, 0)) ∧ arr.size = 121 ∧ arr[120]? = some (.int .i64 (ms.length : Nat)) ∧
    (∀ i, i < ms.length → arr[i * 5]? = some (.bool true) ∧ arr[i * 5 + 1]? = some (.int .i64 (i : Nat)) ∧ arr[i * 5 + 2]? = some (.int .i64 ((ms.getD i (0, 0, .slice none 0 0)).1 : Nat)) ∧ arr[i * 5 + 3]? = some (.int .i64 ((ms.getD i (0, 0, .slice none 0 0)).2.1 : Nat)) ∧ arr[i * 5 + 4]? = some (ms.getD i (0, 0, .slice none 0 0)).2.2) ∧
    (∀ i, ms.length ≤ i → i < 24 → arr[i * 5]? = some (.bool false))
theorem St.lt {w : World} {b : Nat} {ms : List (Nat × Nat × Value)} (h : St w b ms) : b < w.heap.size := by
  obtain ⟨_, arr, h1, _⟩ := h
  exact (Array.getElem?_eq_some_iff.1 h1).1
theorem St.ty {w : World} {b : Nat} {ms : List (Nat × Nat × Value)} (h : St w b ms) : Ty w b 109 := by
  obtain ⟨_, arr, h1, _⟩ := h
  exact ⟨_, _, h1⟩
theorem St.below {w w' : World} {b : Nat} {ms : List (Nat × Nat × Value)} (h : St w b ms) (hb : Below w.heap.size w w') : St w' b ms := by
  have hl := h.lt
  obtain ⟨h0, arr, h1, h2⟩ := h
  exact ⟨h0, arr, by rw [hb.block b hl]; exact h1, h2⟩
theorem St.cell {w : World} {b : Nat} {ms : List (Nat × Nat × Value)} (h : St w b ms) : ∃ arr : Array Value, arr.size = 121 ∧ (∀ j, w.cell? ⟨b, j, none⟩ = arr[j]?) ∧ (∀ j, w.frozen? ⟨b, j, none⟩ = false) ∧ arr[120]? = some (.int .i64 (ms.length : Nat)) ∧
    (∀ i, i < ms.length → arr[i * 5]? = some (.bool true) ∧ arr[i * 5 + 1]? = some (.int .i64 (i : Nat)) ∧ arr[i * 5 + 2]? = some (.int .i64 ((ms.getD i (0, 0, .slice none 0 0)).1 : Nat)) ∧ arr[i * 5 + 3]? = some (.int .i64 ((ms.getD i (0, 0, .slice none 0 0)).2.1 : Nat)) ∧ arr[i * 5 + 4]? = some (ms.getD i (0, 0, .slice none 0 0)).2.2) ∧
    (∀ i, ms.length ≤ i → i < 24 → arr[i * 5]? = some (.bool false)) := by
  obtain ⟨h0, arr, h1, h2, h3, h4, h5⟩ := h
  exact ⟨arr, h2, fun j => by simp [World.cell?, h1], fun j => by simp [World.frozen?, h1], h3, h4, h5⟩

set_option maxRecDepth 100000 in
set_option maxHeartbeats 2000000 in
theorem place_ok (b h : Nat) (ms : List (Nat × Nat × Value)) (w : World) (hst : St w b ms) (hh : h < ms.length) :
    Calls Tryz.prog 75 #[.pointer (some ⟨b, 0, none⟩), .int .i64 h] w fun e w' => e = .returned (.int .i64 h) ∧ w' = w := by
  have hl := hst.1
  obtain ⟨arr, h2, hc, hf, h3, h4, h5⟩ := hst.cell
  have HC := Hid.mk (And.intro hc h4)
  clear hst hc hf h3 h4 h5 h2
  go_enter Tryz.func75, Tryz.ntmps75
  go_wp2_with fail
  go_loop [5] (fun i => ∃ k : Nat, k ≤ h ∧ i = .int .i64 k) (fun i => h - (intOf i).toNat)
  case atStart => exact ⟨0, Nat.zero_le _, rfl⟩
  case round =>
    obtain ⟨k, hk, rfl⟩ := hrel
    obtain ⟨e0, e1, -, -, -⟩ := HC.out.2 k (by omega)
    have c0 : w.cell? ⟨b, k * 5, none⟩ = some (.bool true) := by rw [HC.out.1]; exact e0
    have c1 : w.cell? ⟨b, k * 5 + 1, none⟩ = some (.int .i64 (k : Nat)) := by rw [HC.out.1]; exact e1
    clear e0 e1
    by_cases hkh : k = h
    · have hb : ((k : Int) == (h : Int)) = true := beq_iff_eq.2 (by omega)
      have HK := Hid.mk hkh
      clear hkh
      go_wp2_with fail
      go_ret
      exact ⟨ret_int (by have := HK.out; omega), rfl⟩
    · have hb : ((k : Int) == (h : Int)) = false := beq_eq_false_iff_ne.2 (by omega)
      have hkl : k < h := by omega
      clear hkh
      go_wp2_with fail
      go_round
      case rel => exact ⟨k + 1, by omega, by go_num⟩
      case measure => simp [intOf]; omega

set_option maxRecDepth 100000 in
set_option maxHeartbeats 2000000 in
theorem room_ok (b : Nat) (ms : List (Nat × Nat × Value)) (w : World) (hst : St w b ms) :
    Calls Tryz.prog 47 #[.pointer (some ⟨b, 0, none⟩)] w fun e w' => e = .returned (.int .i64 (24 - (ms.length : Int))) ∧ w' = w := by
  have hl := hst.1
  obtain ⟨arr, h2, hc, hf, h3, h4, h5⟩ := hst.cell
  have HC := Hid.mk (And.intro hc (And.intro h4 h5))
  clear hst hc hf h3 h4 h5 h2
  go_enter Tryz.func47, Tryz.ntmps47
  go_wp2_with fail
  go_loop [3, 4] (fun f i => ∃ k ff : Nat, k ≤ 24 ∧ i = .int .i64 k ∧ f = .int .i64 ff ∧ ff ≤ k ∧ Hid (ff = k - ms.length)) (fun _ i => 24 - (intOf i).toNat)
  case atStart => exact ⟨0, 0, by omega, rfl, rfl, by omega, Hid.mk (by omega)⟩
  case round =>
    obtain ⟨k, ff, hk, rfl, rfl, hff, HI⟩ := hrel
    by_cases hk24 : k < 24
    · by_cases hkm : k < ms.length
      · have c0 : w.cell? ⟨b, k * 5, none⟩ = some (.bool true) := by rw [HC.out.1]; exact (HC.out.2.1 k hkm).1
        go_wp2_with fail
        go_round
        case rel => exact ⟨k + 1, ff, by omega, by go_num, rfl, by omega, Hid.mk (by have := HI.out; omega)⟩
        case measure => simp [intOf]; omega
      · have c0 : w.cell? ⟨b, k * 5, none⟩ = some (.bool false) := by rw [HC.out.1]; exact HC.out.2.2 k (by omega) hk24
        go_wp2_with fail
        go_round
        case rel => exact ⟨k + 1, ff + 1, by omega, by go_num, by go_num, by omega, Hid.mk (by have := HI.out; omega)⟩
        case measure => simp [intOf]; omega
    · go_wp2_with fail
      go_ret
      exact ⟨ret_int (by have := HI.out; omega), rfl⟩

set_option maxRecDepth 100000 in
set_option maxHeartbeats 2000000 in
theorem find_ok (b h r c : Nat) (ao : Option Addr) (n cap : Nat) (ms : List (Nat × Nat × Value)) (w : World) (hst : St w b ms) (hh : h < ms.length) (hm : ms.getD h (0, 0, .slice none 0 0) = (r, c, .slice ao n cap)) :
    Calls Tryz.prog 41 #[.pointer (some ⟨b, 0, none⟩), .int .i64 h] w fun e w' => e = .returned (.tuple #[.agg #[.int .i64 r, .int .i64 c, .slice ao n cap], .bool true]) ∧ Below w.heap.size w w' := by
  have hl := hst.1
  have hbl := hst.lt
  obtain ⟨arr, h2, hc, hf, h3, h4, h5⟩ := hst.cell
  obtain ⟨e0, e1, e2, e3, e4⟩ := h4 h hh
  rw [hm] at e2 e3 e4
  have c2 : w.cell? ⟨b, h * 5 + 2, none⟩ = some (.int .i64 r) := by rw [hc]; exact e2
  have c3 : w.cell? ⟨b, h * 5 + 3, none⟩ = some (.int .i64 c) := by rw [hc]; exact e3
  have c4 : w.cell? ⟨b, h * 5 + 4, none⟩ = some (.slice ao n cap) := by rw [hc]; exact e4
  have d2 := cell1 c2
  have d3 := cell1 c3
  have d4 := cell1 c4
  have HS := Hid.mk hst
  clear hst hc hf h3 h4 h5 h2 e0 e1 e2 e3 e4 hm
  go_enter Tryz.func41, Tryz.ntmps41
  go_wp2_with fail
  refine (place_ok b h ms _ (HS.out.below ((Below.refl _ _).alloc (Nat.le_refl _) _)) hh).mono ?_
  rintro e w' ⟨rfl, rfl⟩
  go_wp2_with fail
  refine bodyPost_ret (v := .tuple #[.agg #[.int .i64 r, .int .i64 c, .slice ao n cap], .bool true]) ?_ rfl ?_
  · (simp [results, Tryz.results41, go_sem]; done)
  · exact ⟨rfl, by repeat (first | exact Below.refl _ _ | refine Below.alloc ?_ (by simp <;> omega) _)⟩
end Go.Proofs.YtfjbijpagaipnaaGreatDoor
