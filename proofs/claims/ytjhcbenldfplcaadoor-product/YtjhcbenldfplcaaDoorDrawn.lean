/- matriceskeep.dice.drawn. -/
import Derived.Test.YtjhcbenldfplcaaDoorDice
import Derived.Test.YtjhcbenldfplcaaDoorKDet
namespace Go.Proofs.YtjhcbenldfplcaaDoor
open Go.RowKit

/-- A row's entries are at the most m in amount. -/
def RowIn (c : Nat) (f : Nat → Int) (m : Int) : Prop := ∀ j, j < c → -m ≤ f j ∧ f j ≤ m
theorem RowIn.upd {c : Nat} {f : Nat → Int} {m : Int} (h : RowIn c f m) (j : Nat) (z : Int) (h1 : -m ≤ z) (h2 : z ≤ m) : RowIn c (upd f j z) m := by
  intro k hk
  unfold Proofs.YtjhcbenldfplcaaDoor.upd
  split
  · exact ⟨h1, h2⟩
  · exact h k hk
/-- Rows, each at the most twice what the one before it is. -/
def RowsIn (n c : Nat) (e : Nat → Nat → Int) : Prop := ∀ i, i < n → RowIn c (e i) (9 * 2 ^ i)
theorem IRow.grown {w w' : World} {g c p : Nat} {f : Nat → Int} (h : IRow w g c f) (hg : w.grownBy w' (some p)) (hp : p ≠ g) : IRow w' g c f := by
  unfold IRow
  rw [hg.block g h.lt (fun e => hp (by injection e with e; exact e.symm))]; exact h
theorem IRow.below {B : Nat} {w w' : World} {g c : Nat} {f : Nat → Int} (h : IRow w g c f) (hb : Below B w w') (hB : g < B) : IRow w' g c f := by
  unfold IRow
  rw [hb.block g hB]; exact h
/-- A row in the making at block G: what has turned since wr is the dice alone. -/
def RS (wr ws : World) (d G c : Nat) (M : Int) : Prop := ∃ f, IRow ws G c f ∧ RowIn c f M ∧ Di ws d ∧ wr.grownBy ws (some d)
theorem RS.under {wr ws ws' : World} {d G c : Nat} {M : Int} (h : RS wr ws d G c M) (hd : d ≠ G) (hdi : Di ws' d) (hg : ws.grownBy ws' (some d)) : RS wr ws' d G c M := by
  obtain ⟨f, h1, h2, h3, h4⟩ := h
  exact ⟨f, h1.grown hg hd, h2, hdi, grown_trans h4 hg⟩
theorem grown_store {W w : World} {row : Option Nat} {p i : Nat} {x : Value} (h : W.grownBy w row) (hp : W.heap.size ≤ p) : W.grownBy (w.setCell ⟨p, i, none⟩ x) row := by
  refine ⟨h.os, h.tape, h.output, by have := h.size; simp [World.setCell]; omega, fun k hk hne => ?_⟩
  rw [Below.heap_setCell _ _ _ _ (by simp; omega)]
  exact h.block k hk hne
theorem Di.store {w : World} {d g j : Nat} (h : Di w d) (hd : d ≠ g) (u : Value) : Di (w.setCell ⟨g, j, none⟩ u) d := by
  obtain ⟨x, h1, h2⟩ := h
  exact ⟨x, h1, by rw [Below.heap_setCell _ _ _ _ (by simpa using hd)]; exact h2⟩
theorem RS.store {wr ws : World} {d G c : Nat} {M : Int} (h : RS wr ws d G c M) (hd : d ≠ G) (hG : wr.heap.size ≤ G) (j : Nat) (z : Int) (h1 : -M ≤ z) (h2 : z ≤ M) : RS wr (ws.setCell ⟨G, j, none⟩ (.int .i64 z)) d G c M := by
  obtain ⟨f, e1, e2, e3, e4⟩ := h
  exact ⟨_, e1.stored j z, e2.upd j z h1 h2, e3.store hd _, grown_store e4 hG⟩
theorem RS.cell {wr ws : World} {d G c : Nat} {M : Int} (h : RS wr ws d G c M) (j : Nat) (hj : j < c) : (∃ z, ws.cell? ⟨G, j, none⟩ = some (.int .i64 z)) ∧ ws.frozen? ⟨G, j, none⟩ = false := by
  obtain ⟨f, e1, -⟩ := h
  exact ⟨⟨_, e1.cell j hj⟩, e1.frozen j⟩
theorem RS.mono {wr ws : World} {d G c : Nat} {M M' : Int} (h : RS wr ws d G c M) (hM : M ≤ M') : RS wr ws d G c M' := by
  obtain ⟨f, e1, e2, e3⟩ := h
  exact ⟨f, e1, fun j hj => by have := e2 j hj; omega, e3⟩
theorem grown_own {w ws w5 : World} {d : Nat} {row : Option Nat} (h : w.grownBy ws (some d)) (hg : ws.grownBy w5 row) (hr : ∀ k, row = some k → w.heap.size ≤ k) : w.grownBy w5 (some d) := by
  have hsz := h.size
  exact ⟨hg.os.trans h.os, hg.tape.trans h.tape, hg.output.trans h.output, Nat.le_trans hsz hg.size, fun k hk hne => (hg.block k (by omega) (fun e => by have := hr k e.symm; omega)).trans (h.block k hk hne)⟩
theorem Di.own {w w' : World} {d B : Nat} {row : Option Nat} (h : Di w d) (hg : w.grownBy w' row) (hr : ∀ k, row = some k → B ≤ k) (hd : d < B) : Di w' d := by
  have hl := h.lt
  obtain ⟨x, h1, h2⟩ := h
  exact ⟨x, h1, by rw [hg.block d hl (fun e => by have := hr d e.symm; omega)]; exact h2⟩
theorem RowsIn.next {k c : Nat} {e : Nat → Nat → Int} {f : Nat → Int} {M : Int} (h : RowsIn k c e) (hf : RowIn c f M) (hM : M ≤ 9 * 2 ^ k) : RowsIn (k + 1) c (fun i => if i = k then f else e i) := by
  intro i hi
  by_cases hik : i = k
  · subst hik
    simp only [if_true]
    intro j hj
    have := hf j hj
    omega
  · simp only [hik, if_false]; exact h i (by omega)
theorem pow_box (k : Nat) (hk : k < 3) : (9 : Int) * 2 ^ k ≤ 36 ∧ (9 : Int) ≤ 9 * 2 ^ k := by
  obtain rfl | rfl | rfl : k = 0 ∨ k = 1 ∨ k = 2 := by omega
  all_goals decide
theorem pow_next (k : Nat) : (9 : Int) * 2 ^ (k + 1) = 2 * (9 * 2 ^ k) := by rw [Int.pow_succ]; omega

set_option maxRecDepth 100000 in
set_option maxHeartbeats 4000000 in
theorem drawn_any (d r c : Nat) (w : World) (h : Di w d) (hr : r ≤ 3) (hc : c ≤ 3) :
    Calls Tryd.prog 8 #[.pointer (some ⟨d, 0, none⟩), .int .i64 r, .int .i64 c] w fun x w' => ∃ v gs e, x = .returned v ∧ Mat w.heap.size w' v r c gs e ∧ RowsIn r c e ∧ Di w' d ∧ w.grownBy w' (some d) := by
  have hdl := h.lt
  have H := Hid.mk h
  clear h
  go_enter Tryd.func8, Tryd.ntmps8
  go_wp2_with fail
  go_loopw [7, 8] (fun v i wr => ∃ (k : Nat) (gs : Nat → Nat) (e : Nat → Nat → Int), k ≤ r ∧ i = .int .i64 k ∧ Mat w.heap.size wr v k c gs e ∧ RowsIn k c e ∧ Di wr d ∧ w.grownBy wr (some d)) (fun _ i _ => r - (intOf i).toNat)
  case atStart => exact ⟨0, fun _ => 0, fun _ _ => 0, Nat.zero_le _, rfl, Mat.nil _ _ _ _ _, fun i hi => by omega, H.out, World.grownBy.refl _ _⟩
  case round =>
    rename World => wr0
    obtain ⟨k, gs, e, hk, rfl, hm, hin, hdi, hgr⟩ := hrel
    have hwr := hgr.size
    have K := Hid.mk (And.intro hm (And.intro hin (And.intro hdi hgr)))
    by_cases hkr : k < r
    · obtain ⟨M, hM⟩ : ∃ M : Int, M = 9 * 2 ^ k := ⟨_, rfl⟩
      have hMb := pow_box k (by omega)
      rw [← hM] at hMb
      obtain ⟨hM1, hM2⟩ := hMb
      have HM := Hid.mk hM
      have hdw : d ≠ wr0.heap.size := by omega
      by_cases hk0 : 0 < k
      · rcases hm.shape with ⟨rfl, h0⟩ | ⟨g, cap, rfl, hcap1, hcap2, -, hgl, -, -⟩
        · omega
        clear hm hin hdi hgr hM
        go_wp2_with (at_make; refine make_row _ rfl _ _ rfl _ _ c rfl rfl rfl rfl (by omega) ?_)
        intro w1 hrow hb1 hsz1
        have R1 : RS wr0 w1 d wr0.heap.size c M := ⟨_, hrow, fun j hj => by constructor <;> (simp; omega), K.out.2.2.1.below hb1 K.out.2.2.1.lt, grown_below (World.grownBy.refl _ _) hb1⟩
        have HR := Hid.mk R1
        clear hrow hb1 R1
        go_wp2_with fail
        go_loopw [10] (fun i ws => ∃ j : Nat, j ≤ c ∧ i = .int .i64 j ∧ RS wr0 ws d wr0.heap.size c M) (fun i _ => c - (intOf i).toNat)
        case atStart => exact ⟨0, Nat.zero_le _, rfl, HR.out⟩
        case round =>
          clear HR
          obtain ⟨j, hj, rfl, hrs⟩ := hrel
          have HR := Hid.mk hrs
          clear hrs
          by_cases hjc : j < c
          · go_wp2_with fail
            refine (under_any d 19 _ HR.out.choose_spec.2.2.1 (by omega) (by omega)).mono ?_
            rintro x w2 ⟨⟨u, rfl, hu⟩, hd2, hg2⟩
            have R2 := HR.out.under hdw hd2 hg2
            obtain ⟨⟨z, c1⟩, f1⟩ := R2.cell j hjc
            have HR2 := Hid.mk R2
            clear R2 hd2 hg2 HR
            go_wp2_with fail
            go_roundw
            case measure => simp [intOf]; omega
            case rel => exact ⟨j + 1, by omega, by go_num, HR2.out.store hdw (Nat.le_refl _) j _ (by omega) (by omega)⟩
          · go_wp2_with fail
            refine (under_any d 4 _ HR.out.choose_spec.2.2.1 (by omega) (by omega)).mono ?_
            rintro x w2 ⟨⟨u, rfl, hu⟩, hd2, hg2⟩
            have R2 := HR.out.under hdw hd2 hg2
            have HR2 := Hid.mk R2
            clear R2 hd2 hg2 HR
            by_cases hu0 : u = 0
            · subst hu0
              go_wp2_with fail
              go_loopw [13] (fun i ws => ∃ j : Nat, j ≤ c ∧ i = .int .i64 j ∧ RS wr0 ws d wr0.heap.size c M) (fun i _ => c - (intOf i).toNat)
              case atStart => exact ⟨0, Nat.zero_le _, rfl, HR2.out⟩
              case round =>
                clear HR2
                obtain ⟨j2, hj2, rfl, hrs⟩ := hrel
                have HR2 := Hid.mk hrs
                clear hrs
                by_cases hjc2 : j2 < c
                · obtain ⟨⟨z, c1⟩, f1⟩ := HR2.out.cell j2 hjc2
                  have hM2' := K.out.1.keep (KB.of_grown HR2.out.choose_spec.2.2.2 K.out.2.2.1.ty (by decide) (by decide))
                  have c2 := hM2'.cell (k - 1) (by omega)
                  have c3 := (hM2'.2 (k - 1) (by omega)).cell j2 hjc2
                  have bz := K.out.2.1 (k - 1) (by omega) j2 hjc2
                  have hpn := pow_next (k - 1)
                  rw [show k - 1 + 1 = k from by omega, ← HM.out] at hpn
                  generalize gs (k - 1) = G1 at c2 c3
                  generalize e (k - 1) j2 = zz at c3 bz
                  have b1 : -M ≤ 2 * zz := by omega
                  have b2 : 2 * zz ≤ M := by omega
                  clear hM2' hpn bz
                  go_wp2_with fail
                  go_roundw
                  case measure => simp [intOf]; omega
                  case rel => exact ⟨j2 + 1, by omega, by go_num, HR2.out.store hdw (Nat.le_refl _) j2 _ b1 b2⟩
                · skip
                  obtain ⟨f, q1, q2, q3, q4⟩ := HR2.out
                  have Q := Hid.mk (And.intro q1 (And.intro q2 (And.intro q3 q4)))
                  clear q1 q2 q3 q4 HR2
                  go_wp2_with (at_builtin; refine append_row _ rfl (.tmp 59) (.tmp 61) rfl w.heap.size _ k c gs e rfl ?_ ⟨_, 0, none⟩ rfl wr0.heap.size f ?_ ?_ (by omega) ?_ ?_)
                  · exact (K.out.1.keep (KB.of_grown Q.out.2.2.2 K.out.2.2.1.ty (by decide) (by decide))).keep (KB.of_below ((Below.refl _ _).alloc (Nat.le_refl _) _))
                  · simp [Addr.add]
                  · exact Q.out.1.below ((Below.refl _ _).alloc (Nat.le_refl _) _) Q.out.1.lt
                  · have := Q.out.2.2.2.size; simp; omega
                  intro v' w5 hM5 _ hg5 hown
                  have hg6 := grown_own (grown_below (grown_trans K.out.2.2.2 Q.out.2.2.2) ((Below.refl _ _).alloc (Nat.le_refl _) _)) hg5 hown
                  have hd6 := (Q.out.2.2.1.below ((Below.refl _ _).alloc (Nat.le_refl _) _) Q.out.2.2.1.lt).own hg5 hown hdl
                  have HF := Hid.mk (And.intro hM5 (And.intro (K.out.2.1.next Q.out.2.1 (Int.le_of_eq HM.out)) (And.intro hd6 hg6)))
                  clear hM5 hg5 hown hg6 hd6
                  go_wp2_with fail
                  go_roundw
                  case measure => simp [intOf]; omega
                  case rel => exact ⟨k + 1, _, _, by omega, by go_num, HF.out.1, HF.out.2.1, HF.out.2.2.1, HF.out.2.2.2⟩
            · have hub : ((u : Int) == 0) = false := beq_eq_false_iff_ne.2 (by omega)
              clear hu0
              obtain ⟨f, q1, q2, q3, q4⟩ := HR2.out
              have Q := Hid.mk (And.intro q1 (And.intro q2 (And.intro q3 q4)))
              clear q1 q2 q3 q4 HR2
              go_wp2_with (at_builtin; refine append_row _ rfl (.tmp 59) (.tmp 61) rfl w.heap.size _ k c gs e rfl ?_ ⟨_, 0, none⟩ rfl wr0.heap.size f ?_ ?_ (by omega) ?_ ?_)
              · exact (K.out.1.keep (KB.of_grown Q.out.2.2.2 K.out.2.2.1.ty (by decide) (by decide))).keep (KB.of_below ((Below.refl _ _).alloc (Nat.le_refl _) _))
              · simp [Addr.add]
              · exact Q.out.1.below ((Below.refl _ _).alloc (Nat.le_refl _) _) Q.out.1.lt
              · have := Q.out.2.2.2.size; simp; omega
              intro v' w5 hM5 _ hg5 hown
              have hg6 := grown_own (grown_below (grown_trans K.out.2.2.2 Q.out.2.2.2) ((Below.refl _ _).alloc (Nat.le_refl _) _)) hg5 hown
              have hd6 := (Q.out.2.2.1.below ((Below.refl _ _).alloc (Nat.le_refl _) _) Q.out.2.2.1.lt).own hg5 hown hdl
              have HF := Hid.mk (And.intro hM5 (And.intro (K.out.2.1.next Q.out.2.1 (Int.le_of_eq HM.out)) (And.intro hd6 hg6)))
              clear hM5 hg5 hown hg6 hd6
              go_wp2_with fail
              go_roundw
              case measure => simp [intOf]; omega
              case rel => exact ⟨k + 1, _, _, by omega, by go_num, HF.out.1, HF.out.2.1, HF.out.2.2.1, HF.out.2.2.2⟩
      · have hk00 : decide (0 < k) = false := by simp; omega
        clear hm hin hdi hgr hM hk0
        go_wp2_with (at_make; refine make_row _ rfl _ _ rfl _ _ c rfl rfl rfl rfl (by omega) ?_)
        intro w1 hrow hb1 hsz1
        have R1 : RS wr0 w1 d wr0.heap.size c M := ⟨_, hrow, fun j hj => by constructor <;> (simp; omega), K.out.2.2.1.below hb1 K.out.2.2.1.lt, grown_below (World.grownBy.refl _ _) hb1⟩
        have HR := Hid.mk R1
        clear hrow hb1 R1
        go_wp2_with fail
        go_loopw [10] (fun i ws => ∃ j : Nat, j ≤ c ∧ i = .int .i64 j ∧ RS wr0 ws d wr0.heap.size c M) (fun i _ => c - (intOf i).toNat)
        case atStart => exact ⟨0, Nat.zero_le _, rfl, HR.out⟩
        case round =>
          clear HR
          obtain ⟨j, hj, rfl, hrs⟩ := hrel
          have HR := Hid.mk hrs
          clear hrs
          by_cases hjc : j < c
          · go_wp2_with fail
            refine (under_any d 19 _ HR.out.choose_spec.2.2.1 (by omega) (by omega)).mono ?_
            rintro x w2 ⟨⟨u, rfl, hu⟩, hd2, hg2⟩
            have R2 := HR.out.under hdw hd2 hg2
            obtain ⟨⟨z, c1⟩, f1⟩ := R2.cell j hjc
            have HR2 := Hid.mk R2
            clear R2 hd2 hg2 HR
            go_wp2_with fail
            go_roundw
            case measure => simp [intOf]; omega
            case rel => exact ⟨j + 1, by omega, by go_num, HR2.out.store hdw (Nat.le_refl _) j _ (by omega) (by omega)⟩
          · go_wp2_with fail
            refine (under_any d 4 _ HR.out.choose_spec.2.2.1 (by omega) (by omega)).mono ?_
            rintro x w2 ⟨⟨u, rfl, hu⟩, hd2, hg2⟩
            have R2 := HR.out.under hdw hd2 hg2
            have HR2 := Hid.mk R2
            clear R2 hd2 hg2 HR
            by_cases hu0 : u = 0
            · subst hu0
              obtain ⟨f, q1, q2, q3, q4⟩ := HR2.out
              have Q := Hid.mk (And.intro q1 (And.intro q2 (And.intro q3 q4)))
              clear q1 q2 q3 q4 HR2
              go_wp2_with (at_builtin; refine append_row _ rfl (.tmp 59) (.tmp 61) rfl w.heap.size _ k c gs e rfl ?_ ⟨_, 0, none⟩ rfl wr0.heap.size f ?_ ?_ (by omega) ?_ ?_)
              · exact (K.out.1.keep (KB.of_grown Q.out.2.2.2 K.out.2.2.1.ty (by decide) (by decide))).keep (KB.of_below ((Below.refl _ _).alloc (Nat.le_refl _) _))
              · simp [Addr.add]
              · exact Q.out.1.below ((Below.refl _ _).alloc (Nat.le_refl _) _) Q.out.1.lt
              · have := Q.out.2.2.2.size; simp; omega
              intro v' w5 hM5 _ hg5 hown
              have hg6 := grown_own (grown_below (grown_trans K.out.2.2.2 Q.out.2.2.2) ((Below.refl _ _).alloc (Nat.le_refl _) _)) hg5 hown
              have hd6 := (Q.out.2.2.1.below ((Below.refl _ _).alloc (Nat.le_refl _) _) Q.out.2.2.1.lt).own hg5 hown hdl
              have HF := Hid.mk (And.intro hM5 (And.intro (K.out.2.1.next Q.out.2.1 (Int.le_of_eq HM.out)) (And.intro hd6 hg6)))
              clear hM5 hg5 hown hg6 hd6
              go_wp2_with fail
              go_roundw
              case measure => simp [intOf]; omega
              case rel => exact ⟨k + 1, _, _, by omega, by go_num, HF.out.1, HF.out.2.1, HF.out.2.2.1, HF.out.2.2.2⟩
            · have hub : ((u : Int) == 0) = false := beq_eq_false_iff_ne.2 (by omega)
              clear hu0
              obtain ⟨f, q1, q2, q3, q4⟩ := HR2.out
              have Q := Hid.mk (And.intro q1 (And.intro q2 (And.intro q3 q4)))
              clear q1 q2 q3 q4 HR2
              go_wp2_with (at_builtin; refine append_row _ rfl (.tmp 59) (.tmp 61) rfl w.heap.size _ k c gs e rfl ?_ ⟨_, 0, none⟩ rfl wr0.heap.size f ?_ ?_ (by omega) ?_ ?_)
              · exact (K.out.1.keep (KB.of_grown Q.out.2.2.2 K.out.2.2.1.ty (by decide) (by decide))).keep (KB.of_below ((Below.refl _ _).alloc (Nat.le_refl _) _))
              · simp [Addr.add]
              · exact Q.out.1.below ((Below.refl _ _).alloc (Nat.le_refl _) _) Q.out.1.lt
              · have := Q.out.2.2.2.size; simp; omega
              intro v' w5 hM5 _ hg5 hown
              have hg6 := grown_own (grown_below (grown_trans K.out.2.2.2 Q.out.2.2.2) ((Below.refl _ _).alloc (Nat.le_refl _) _)) hg5 hown
              have hd6 := (Q.out.2.2.1.below ((Below.refl _ _).alloc (Nat.le_refl _) _) Q.out.2.2.1.lt).own hg5 hown hdl
              have HF := Hid.mk (And.intro hM5 (And.intro (K.out.2.1.next Q.out.2.1 (Int.le_of_eq HM.out)) (And.intro hd6 hg6)))
              clear hM5 hg5 hown hg6 hd6
              go_wp2_with fail
              go_roundw
              case measure => simp [intOf]; omega
              case rel => exact ⟨k + 1, _, _, by omega, by go_num, HF.out.1, HF.out.2.1, HF.out.2.2.1, HF.out.2.2.2⟩
    · have hke : k = r := by omega
      have HK := Hid.mk hke
      clear hm hin hdi hgr hke
      go_wp2_with fail
      go_ret
      have hke := HK.out
      subst hke
      exact ⟨_, gs, e, rfl, K.out⟩
end Go.Proofs.YtjhcbenldfplcaaDoor
