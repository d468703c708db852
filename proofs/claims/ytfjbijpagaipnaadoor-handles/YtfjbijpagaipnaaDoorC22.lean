import Derived.Test.YtfjbijpagaipnaaDoorC21
import Derived.Test.YtfjbijpagaipnaaDoorC06
import Derived.Test.YtfjbijpagaipnaaDoorC11
import Derived.Deep.CutRange
import Derived.Deep.LoopGhost
namespace Go.Proofs.YtfjbijpagaipnaaDoor
open Go.RowKit
theorem GridB.nilLit (B : Nat) (w : World) (L : Nat) (hB : B ≤ w.heap.size) : GridB B (w.alloc (.cells #[] 78)) (.slice (some ⟨w.heap.size, 0, none⟩) 0 0) 0 [] L := by
 have := World.ownsRow_lit (base := B) (e := 78) (size := 2) w #[] 0 hB (by simp [maxLen]) rfl
 exact ⟨rfl, _, by simpa using this, fun i hi => by omega⟩
set_option maxRecDepth 100000 in
set_option maxHeartbeats 4000000 in
theorem over_new (v u : Value) (r q c : Nat) (zs ys : List Int) (L : Nat) (w : World) (hm : IsM w v r c zs L) (hn : IsM w u q c ys L) (hrq : r + q ≤ 99) :
 Calls Tryd.prog 46 #[v, u] w fun e w' => ∃ g, e = .returned (.agg #[.int .i64 ((r + q : Nat) : Int), .int .i64 c, .slice (some ⟨g, 0, none⟩) ((r + q) * c) ((r + q) * c)]) ∧ w.heap.size ≤ g ∧ Grid w' (.slice (some ⟨g, 0, none⟩) ((r + q) * c) ((r + q) * c)) ((r + q) * c) (zs ++ ys) L ∧ Below w.heap.size w w' := by
 obtain ⟨hr, hc, sl, rfl, hg0⟩ := hm
 obtain ⟨hq, -, tl, rfl, hg1⟩ := hn
 obtain ⟨ao, cap, rfl, hcap, hcm, -⟩ := hg0.shape
 obtain ⟨bo, dap, rfl, hdap, hdm, -⟩ := hg1.shape
 have HG := Hid.mk (And.intro hg0 hg1)
 clear hg0 hg1
 obtain ⟨N, hN⟩ : ∃ N, N = r * c := ⟨_, rfl⟩
 obtain ⟨M, hM⟩ : ∃ M, M = q * c := ⟨_, rfl⟩
 have hN2 : N ≤ 9801 := by rw [hN]; exact Nat.mul_le_mul hr hc
 have hM2 : M ≤ 9801 := by rw [hM]; exact Nat.mul_le_mul hq hc
 have hNM : N + M ≤ 9801 := by rw [hN, hM, ← Nat.add_mul]; exact Nat.mul_le_mul hrq hc
 rw [← hN] at HG hcap ⊢
 rw [← hM] at HG hdap ⊢
 have HN := Hid.mk (And.intro hN hM)
 clear hN hM
 go_enter Tryd.func46, Tryd.ntmps46
 go_wp2_with fail
 obtain ⟨W0, hW0⟩ : ∃ W0, W0 = ((w.alloc (.cells #[.int .i64 r, .int .i64 c, .slice ao N cap] 63)).alloc (.cells #[.int .i64 q, .int .i64 c, .slice bo M dap] 63)).alloc (.cells #[.int .i64 0, .int .i64 0, .slice none 0 0] 63) := ⟨_, rfl⟩
 have hs0 : W0.heap.size = w.heap.size + 3 := by rw [hW0]; simp
 have hb0 : Below w.heap.size w W0 := by rw [hW0]; repeat (first | exact Below.refl _ _ | refine Below.alloc ?_ (by simp <;> omega) _)
 have hm0 : Trio W0 w.heap.size (.int .i64 r) (.int .i64 c) (.slice ao N cap) := by
  rw [hW0]
  exact ⟨cell1 (cell1 (new_cell _ _ _ _ _ (by simp) rfl) _) _, cell1 (cell1 (new_cell _ _ _ _ _ (by simp) rfl) _) _, cell1 (cell1 (new_cell _ _ _ _ _ (by simp) rfl) _) _⟩
 have hn0 : Trio W0 (w.heap.size + 1) (.int .i64 q) (.int .i64 c) (.slice bo M dap) := by
  rw [hW0]
  exact ⟨cell1 (new_cell _ _ _ _ _ (by simp) rfl) _, cell1 (new_cell _ _ _ _ _ (by simp) rfl) _, cell1 (new_cell _ _ _ _ _ (by simp) rfl) _⟩
 have hR0 : W0.heap[w.heap.size + 2]? = some (.cells #[.int .i64 0, .int .i64 0, .slice none 0 0] 63 (0, 0)) := by
  rw [hW0]
  have := heap_alloc_new ((w.alloc (.cells #[.int .i64 r, .int .i64 c, .slice ao N cap] 63)).alloc (.cells #[.int .i64 q, .int .i64 c, .slice bo M dap] 63)) (.cells #[.int .i64 0, .int .i64 0, .slice none 0 0] 63)
  simpa using this
 have hlit := GridB.nilLit W0.heap.size W0 L (Nat.le_refl _)
 have hbl := (Below.refl W0.heap.size W0).alloc (Nat.le_refl _) (.cells #[] 78)
 have K0 := Hid.mk (And.intro hb0 (And.intro hm0 (And.intro hn0 (And.intro hR0 (And.intro (HG.out.1.below hb0) (And.intro (HG.out.2.below hb0) (And.intro hlit hbl)))))))
 rw [← hW0]
 have hsz : w.heap.size + 1 + 1 + 1 = W0.heap.size := by omega
 rw [hsz]
 have hs1 : w.heap.size + 3 ≤ W0.heap.size := by omega
 have hs2 : W0.heap.size ≤ w.heap.size + 3 := by omega
 clear hb0 hm0 hn0 hR0 hW0 hlit hbl hsz hs0
 go_loopw [5, 6] (fun cv i wr => ∃ k : Nat, k ≤ N ∧ i = .int .i64 k ∧ Hid (∃ co cc, cv = .slice co k cc ∧ GridB W0.heap.size wr (.slice co k cc) k (zs.take k) L ∧ Below W0.heap.size W0 wr)) (fun _ i _ => N - (intOf i).toNat)
 case atStart => exact ⟨0, Nat.zero_le _, rfl, Hid.mk ⟨_, _, rfl, by simpa using K0.out.2.2.2.2.2.2.1, K0.out.2.2.2.2.2.2.2⟩⟩
 case round =>
  obtain ⟨k, hk, rfl, HI0⟩ := hrel
  obtain ⟨co, cc, rfl, hGB, hBB⟩ := HI0.out
  have HI := Hid.mk (And.intro hGB hBB)
  clear hGB hBB HI0
  obtain ⟨-, -, q2⟩ := K0.out.2.1.later HI.out.2
  have hwr := HI.out.2.size
  by_cases hkN : k < N
  ·have hki : (k : Int) < (N : Int) := by omega
   obtain ⟨g1, nb1, so1, n1, cp1, rfl, c1, c2, hI1⟩ := (K0.out.2.2.2.2.1.below HI.out.2).at2 k hkN
   have hzl : zs.length = N := K0.out.2.2.2.2.1.1
   have hba := (Below.refl wr.heap.size wr).alloc (Nat.le_refl _) (.cells #[.bool nb1, .slice so1 n1 cp1] 78)
   have KI := Hid.mk (And.intro (hI1.below hba) (And.intro hba hzl))
   clear hI1 hba hzl
   go_wp2_with (at_builtin; refine append_int _ rfl (.tmp 16) (.tmp 22) rfl W0.heap.size _ k (zs.take k) L rfl ?_ ⟨_, 0, none⟩ rfl (.bool nb1) (.slice so1 n1 cp1) (zs.getD k 0) ?_ ?_ rfl rfl ?_ (by omega) ?_ ?_)
   ·exact HI.out.1.keep (KT.of_below KI.out.2.1)
   ·simp [Addr.add]
   ·simp [Addr.add]
   ·exact KI.out.1
   ·simp; omega
   intro v' w' hgb hgr
   have hlt := HI.out.1.lt
   obtain ⟨co', cc', hv', -⟩ := hgb.grid.shape
   subst hv'
   have hbw' : Below W0.heap.size W0 w' := (HI.out.2.trans (KI.out.2.1.mono hwr)).grown hgr (by simp; omega) (fun j hj => (hlt j hj).1)
   have K2 := Hid.mk (And.intro hgb hbw')
   clear hgb hgr hlt hbw'
   go_wp2_with fail
   go_roundw
   case measure => simp [intOf]; omega
   case rel =>
    refine ⟨k + 1, by omega, by go_num, Hid.mk ⟨co', cc', rfl, ?_, K2.out.2⟩⟩
    have e : zs.take (k + 1) = zs.take k ++ [zs.getD k 0] := by
     rw [List.take_succ_eq_append_getElem (by have := KI.out.2.2; omega)]
     simp [List.getD, show k < zs.length from by have := KI.out.2.2; omega]
    rw [e]
    exact K2.out.1
  ·have hki : ¬ (k : Int) < (N : Int) := by omega
   have hkk : k = N := by omega
   have HKK := Hid.mk hkk
   clear hkk
   go_wp2_with fail
   have HI1 : Hid (GridB W0.heap.size wr (.slice co N cc) N zs L ∧ Below W0.heap.size W0 wr ∧ k = N) := Hid.mk (by
    have h := HI.out
    have e := HKK.out
    have hzl : zs.length = N := K0.out.2.2.2.2.1.1
    rw [e, List.take_of_length_le (by omega)] at h
    exact ⟨h.1, h.2, e⟩)
   rw [HI1.out.2.2]
   clear q2
   rename World => w1
   go_loopw [5, 7] (fun cv i wr => ∃ k : Nat, k ≤ M ∧ i = .int .i64 k ∧ Hid (∃ co cc, cv = .slice co (N + k) cc ∧ GridB W0.heap.size wr (.slice co (N + k) cc) (N + k) (zs ++ ys.take k) L ∧ Below W0.heap.size W0 wr)) (fun _ i _ => M - (intOf i).toNat)
   case atStart => exact ⟨0, Nat.zero_le _, rfl, Hid.mk ⟨co, cc, rfl, by simpa using HI1.out.1, HI1.out.2.1⟩⟩
   case round =>
    rename World => wr
    obtain ⟨l, hl, rfl, HJ0⟩ := hrel
    obtain ⟨do_, dc, rfl, hGB, hBB⟩ := HJ0.out
    have HJ := Hid.mk (And.intro hGB hBB)
    clear hGB hBB HJ0
    obtain ⟨-, -, q2⟩ := K0.out.2.2.1.later HJ.out.2
    have hwr2 := HJ.out.2.size
    by_cases hlM : l < M
    ·have hli : (l : Int) < (M : Int) := by omega
     obtain ⟨g2, nb2, so2, n2, cp2, rfl, c1, c2, hI2⟩ := (K0.out.2.2.2.2.2.1.below HJ.out.2).at2 l hlM
     have hyl : ys.length = M := K0.out.2.2.2.2.2.1.1
     have hba := (Below.refl wr.heap.size wr).alloc (Nat.le_refl _) (.cells #[.bool nb2, .slice so2 n2 cp2] 78)
     have KJ := Hid.mk (And.intro (hI2.below hba) (And.intro hba hyl))
     clear hI2 hba hyl
     go_wp2_with (at_builtin; refine append_int _ rfl (.tmp 31) (.tmp 37) rfl W0.heap.size _ (N + l) (zs ++ ys.take l) L rfl ?_ ⟨_, 0, none⟩ rfl (.bool nb2) (.slice so2 n2 cp2) (ys.getD l 0) ?_ ?_ rfl rfl ?_ (by omega) ?_ ?_)
     ·exact HJ.out.1.keep (KT.of_below KJ.out.2.1)
     ·simp [Addr.add]
     ·simp [Addr.add]
     ·exact KJ.out.1
     ·simp; omega
     intro v' w' hgb hgr
     have hlt := HJ.out.1.lt
     obtain ⟨co', cc', hv', -⟩ := hgb.grid.shape
     subst hv'
     have hbw' : Below W0.heap.size W0 w' := (HJ.out.2.trans (KJ.out.2.1.mono hwr2)).grown hgr (by simp; omega) (fun j hj => (hlt j hj).1)
     have K2 := Hid.mk (And.intro hgb hbw')
     clear hgb hgr hlt hbw'
     go_wp2_with fail
     go_roundw
     case measure => simp [intOf]; omega
     case rel =>
      refine ⟨l + 1, by omega, by go_num, Hid.mk ⟨co', cc', rfl, ?_, K2.out.2⟩⟩
      have e : zs ++ ys.take (l + 1) = zs ++ (ys.take l ++ [ys[l]?.getD 0]) := by
       rw [List.take_succ_eq_append_getElem (by have := KJ.out.2.2; omega)]
       simp [show l < ys.length from by have := KJ.out.2.2; omega]
      rw [e, ← Nat.add_assoc]
      exact K2.out.1
    ·have hli : ¬ (l : Int) < (M : Int) := by omega
     have HLL : Hid (l = M) := Hid.mk (by omega)
     obtain ⟨p0, p1, -⟩ := K0.out.2.1.later HJ.out.2
     obtain ⟨p3, p4, -⟩ := K0.out.2.2.1.later HJ.out.2
     go_wp2_with fail
     have hGr : Grid wr (.slice do_ (N + l) dc) ((r + q) * c) (zs ++ ys) L ∧ ((r : Int) + (q : Int)) = ((r + q : Nat) : Int) := by
      have h := HJ.out.1.grid
      have e := HLL.out
      have hyl : ys.length = M := K0.out.2.2.2.2.2.1.1
      rw [e, List.take_of_length_le (by omega)] at h
      rw [e, show (r + q) * c = N + M from by rw [HN.out.1, HN.out.2, Nat.add_mul]]
      exact ⟨h, by omega⟩
     rw [hGr.2]
     refine (fromCells_new (r + q) c _ (zs ++ ys) L _ hrq hc hGr.1).mono ?_
     rintro e9 w5 ⟨g5, rfl, hg5, hG5, hb5⟩
     have hR : w5.heap[w.heap.size + 2]? = some (.cells #[.int .i64 0, .int .i64 0, .slice none 0 0] 63 (0, 0)) := ((hb5.block _ (by omega)).trans (HJ.out.2.block _ (by omega))).trans K0.out.2.2.2.1
     have r0 : w5.cell? ⟨w.heap.size + 1 + 1, 0, none⟩ = some (.int .i64 0) := by simp [World.cell?, hR]
     have r1 : w5.cell? ⟨w.heap.size + 1 + 1, 1, none⟩ = some (.int .i64 0) := by simp [World.cell?, hR]
     have r2 : w5.cell? ⟨w.heap.size + 1 + 1, 2, none⟩ = some (.slice none 0 0) := by simp [World.cell?, hR]
     have f0 : ∀ o, w5.frozen? ⟨w.heap.size + 1 + 1, o, none⟩ = false := fun o => by simp [World.frozen?, hR]
     have HT : Hid (Ty w5 (w.heap.size + 1 + 1) 63) := Hid.mk ⟨_, _, hR⟩
     have hbw := (K0.out.1.trans (HJ.out.2.mono (by omega))).trans (hb5.mono (by omega))
     have hg5' : w.heap.size + 1 + 1 < g5 := by omega
     have K5 := Hid.mk (And.intro hG5 hbw)
     clear hG5 hR hbw hb5 hGr
     obtain ⟨RC, hRC⟩ : ∃ RC, RC = (r + q) * c := ⟨_, rfl⟩
     rw [← hRC] at K5 ⊢
     have HRC := Hid.mk hRC
     clear hRC
     go_wp2_with fail
     refine bodyPost_ret (v := .agg #[.int .i64 ((r : Int) + (q : Int)), .int .i64 c, .slice (some ⟨g5, 0, none⟩) RC RC]) ?_ rfl ?_
     ·(simp [results, Tryd.results46, go_sem, r0, r1, r2]; done)
     ·have k3 : ∀ v0 v1 v2 : Value, KT w5 (((w5.setCell ⟨w.heap.size + 1 + 1, 0, none⟩ v0).setCell ⟨w.heap.size + 1 + 1, 1, none⟩ v1).setCell ⟨w.heap.size + 1 + 1, 2, none⟩ v2) := fun v0 v1 v2 => KT.setCell (KT.setCell (KT.setCell (KT.refl _) HT.out (by decide) (by decide) v0) (HT.out.setCell ⟨w.heap.size + 1 + 1, 0, none⟩ v0) (by decide) (by decide) v1) ((HT.out.setCell ⟨w.heap.size + 1 + 1, 0, none⟩ v0).setCell ⟨w.heap.size + 1 + 1, 1, none⟩ v1) (by decide) (by decide) v2
      have hr2 : ((r : Int) + (q : Int)) = ((r + q : Nat) : Int) := by omega
      rw [hr2]
      have eRC := HRC.out
      subst eRC
      refine ⟨g5, rfl, by omega, K5.out.1.keep (k3 _ _ _), ((K5.out.2.setCell (by simp; omega) _).setCell (by simp; omega) _).setCell (by simp; omega) _⟩
open Go.RowKit
theorem size8 {r c : Nat} (hr : r ≤ 8) (hc : c ≤ 4) : hB r 48 c ≤ 32 * 20000 ∧ uB r 48 c ≤ 32 * 20000 := by
 have key : ∀ r : Fin 9, ∀ c : Fin 5, hB r.val 48 c.val ≤ 32 * 20000 ∧ uB r.val 48 c.val ≤ 32 * 20000 := by decide
 exact key ⟨r, by omega⟩ ⟨c, by omega⟩
theorem ent_top {r c : Nat} {zs : List Int} (ys : List Int) (hl : zs.length = r * c) {i j : Nat} (hi : i < r) (hj : j < c) : ent c (zs ++ ys) i j = ent c zs i j := by
 have := idx_lt hi hj
 unfold ent
 rw [List.getD, List.getD, List.getElem?_append_left (by omega)]
theorem ent_low {r c : Nat} {zs : List Int} (ys : List Int) (hl : zs.length = r * c) (i j : Nat) : ent c (zs ++ ys) (r + i) j = ent c ys i j := by
 have : (r + i) * c + j = r * c + (i * c + j) := by rw [Nat.add_mul]; omega
 unfold ent
 rw [this, List.getD, List.getD, List.getElem?_append_right (by omega), hl, Nat.add_sub_cancel_left]
def BasisIs (r c : Nat) (zs : List Int) (k : Nat) (bs : List Int) : Prop :=
 bs.length = k * c ∧ ∃ pc hs us ws, EchSt r c k pc (ent c hs) ∧ EInv (ent c zs) (ent c hs) (ent r us) (ent r ws) r c ∧ ∀ i j, i < k → j < c → ent c bs i j = ent c hs i j
def SumRel (ms : List Hm) (nx : Nat) (g h k e : Int) (ms' : List Hm) (nx' : Nat) : Prop :=
 (((∀ i, i < 24 → ∀ x, ms.getD i none = some x → (x.1 : Int) ≠ g) ∨ (∀ i, i < 24 → ∀ x, ms.getD i none = some x → (x.1 : Int) ≠ h)) ∧ k = -1 ∧ e = 2 ∧ ms' = ms ∧ nx' = nx) ∨
 ∃ i hd r q zs j hd' r' c ys, i < 24 ∧ ms.getD i none = some (hd, r, q, zs) ∧ ((hd : Nat) : Int) = g ∧ j < 24 ∧ ms.getD j none = some (hd', r', c, ys) ∧ ((hd' : Nat) : Int) = h ∧
   ((q ≠ c ∧ k = -1 ∧ e = 3 ∧ ms' = ms ∧ nx' = nx) ∨ (q = c ∧ ¬ (FitsP r q zs ∧ FitsP r' c ys) ∧ k = -1 ∧ e = 4 ∧ ms' = ms ∧ nx' = nx) ∨
    (q = c ∧ (FitsP r q zs ∧ FitsP r' c ys) ∧ (∀ i, i < 24 → ms.getD i none ≠ none) ∧ k = -1 ∧ e = 5 ∧ ms' = ms ∧ nx' = nx) ∨
    (q = c ∧ (FitsP r q zs ∧ FitsP r' c ys) ∧ k = (nx : Int) ∧ e = 0 ∧ ∃ n rk bs, BasisIs (r + r') q (zs ++ ys) rk bs ∧ FreeAt ms n ∧ ms' = ms.set n (some (nx, rk, q, bs)) ∧ nx' = nx + 1))
theorem AlikeRel.badS {w : World} {ms : List Hm} {g h : Int} {m n : Value} {e : Int} (nx : Nat) (H : AlikeRel w ms g h m n e) (he : e ≠ 0) : SumRel ms nx g h (-1) e ms nx := by
 rcases H with ⟨h1, rfl⟩ | ⟨i, hd, r, q, zs, j, hd', r', c, ys, h1, h2, h3, h4, h5, h6, h7⟩
 ·exact .inl ⟨h1, rfl, rfl, rfl, rfl⟩
 ·refine .inr ⟨i, hd, r, q, zs, j, hd', r', c, ys, h1, h2, h3, h4, h5, h6, ?_⟩
  rcases h7 with ⟨a, rfl⟩ | ⟨a, a', rfl⟩ | ⟨-, -, a, -⟩
  ·exact .inl ⟨a, rfl, rfl, rfl, rfl⟩
  ·exact .inr (.inl ⟨a, a', rfl, rfl, rfl, rfl⟩)
  ·exact absurd a he
set_option maxRecDepth 100000 in
set_option maxHeartbeats 4000000 in
theorem sum_held (b : Nat) (g h : Int) (ms : List Hm) (nx : Nat) (v0 : World) (hst : Held v0 b ms nx) (hnx : nx < 1000000) :
 Calls Tryd.prog 18 #[.pointer (some ⟨b, 0, none⟩), .int .i64 g, .int .i64 h] v0 fun x w' => ∃ k e ms' nx', x = .returned (.tuple #[.int .i64 k, .int .i64 e]) ∧ SumRel ms nx g h k e ms' nx' ∧ Held w' b ms' nx' ∧ Fr b v0 w' := by
 have hm24 := hst.1
 have H0 := Hid.mk hst
 clear hst
 go_enter Tryd.func18, Tryd.ntmps18
 go_wp2_with fail
 refine (alike_held b g h ms nx _ H0.out).mono ?_
 rintro x w1 ⟨a1, a2, b1, b2, o1, o2, n1, n2, p1, p2, e, rfl, hR, hb1⟩
 have K1 := Hid.mk (And.intro hR hb1)
 have hw1 := hb1.size
 clear hR hb1
 by_cases he : e = 0
 ·subst he
  obtain ⟨i, hd, r, q, zs, j, hd', r', ys, hF, hfit, rfl, rfl, rfl, rfl, m1, m2⟩ := K1.out.1.ok
  have hbB := ((Below.refl w1.heap.size w1).alloc (Nat.le_refl _) (.cells #[.int .i64 r, .int .i64 q, .slice o1 n1 p1] 63)).alloc (by simp) (.cells #[.int .i64 r', .int .i64 q, .slice o2 n2 p2] 63)
  have HF := Hid.mk (And.intro hF (And.intro hfit (And.intro (m1.below hbB) (m2.below hbB))))
  have HB := Hid.mk (K1.out.2.trans (hbB.mono hw1))
  have hT1 : Trio ((w1.alloc (.cells #[.int .i64 r, .int .i64 q, .slice o1 n1 p1] 63)).alloc (.cells #[.int .i64 r', .int .i64 q, .slice o2 n2 p2] 63)) w1.heap.size (.int .i64 r) (.int .i64 q) (.slice o1 n1 p1) := ⟨by simp, by simp, by simp⟩
  have hT2 : Trio ((w1.alloc (.cells #[.int .i64 r, .int .i64 q, .slice o1 n1 p1] 63)).alloc (.cells #[.int .i64 r', .int .i64 q, .slice o2 n2 p2] 63)) (w1.heap.size + 1) (.int .i64 r') (.int .i64 q) (.slice o2 n2 p2) := ⟨by simp, by simp, by simp⟩
  have HT := Hid.mk (And.intro hT1 hT2)
  clear hF hfit m1 m2 hbB hT1 hT2
  go_wp2_with fail
  obtain ⟨X, hX⟩ : ∃ X, X = (w1.alloc (.cells #[.int .i64 r, .int .i64 q, .slice o1 n1 p1] 63)).alloc (.cells #[.int .i64 r', .int .i64 q, .slice o2 n2 p2] 63) := ⟨_, rfl⟩
  have hsX : X.heap.size = w1.heap.size + 2 := by rw [hX]; simp
  rw [← hX] at HF HB HT ⊢
  clear hX
  refine (room_held b ms nx _ (H0.out.below HB.out)).mono ?_
  rintro e X ⟨rfl, rfl⟩
  obtain ⟨rm, hrm⟩ : ∃ rm, rm = ms.countP Option.isNone := ⟨_, rfl⟩
  have HRM := Hid.mk hrm
  rw [← hrm]
  clear hrm
  by_cases h0 : rm = 0
  ·subst h0
   go_wp2_with fail
   go_ret2
   exact ⟨_, _, ms, nx, rfl, .inr ⟨i, hd, r, q, zs, j, hd', r', q, ys, HF.out.1.1, HF.out.1.2.1, HF.out.1.2.2.1, HF.out.1.2.2.2.1, HF.out.1.2.2.2.2.1, HF.out.1.2.2.2.2.2, .inr (.inr (.inl ⟨rfl, HF.out.2.1, full_of_room hm24 HRM.out.symm, rfl, rfl, rfl, rfl⟩))⟩, H0.out.below HB.out, Fr.of_below HB.out⟩
  ·obtain ⟨nf, hnf⟩ := free_of_room hm24 (show 0 < ms.countP Option.isNone from by have := HRM.out; omega)
   have HNF := Hid.mk hnf
   have h0' : ¬ ((rm : Int) < 1) := by omega
   clear hnf h0
   obtain ⟨⟨x0, x1, x2⟩, y0, y1, y2⟩ := id HT.out
   have hr4 := HF.out.2.1.1.1
   have hr4' := HF.out.2.1.2.1
   have hq4 := HF.out.2.1.1.2.1
   go_wp2_with fail
   refine (over_new _ _ r r' q zs ys 2 _ HF.out.2.2.1 HF.out.2.2.2 (by omega)).mono ?_
   rintro e w3 ⟨go, rfl, -, hG, hb3⟩
   have hl1 := HF.out.2.2.1.len
   have hl2 := HF.out.2.2.2.len
   have hM3 : IsM w3 (.agg #[.int .i64 ((r + r' : Nat) : Int), .int .i64 q, .slice (some ⟨go, 0, none⟩) ((r + r') * q) ((r + r') * q)]) (r + r') q (zs ++ ys) 2 := ⟨by omega, by omega, _, rfl, hG⟩
   have hfe : ∀ i j, i < r + r' → j < q → (ent q (zs ++ ys) i j).natAbs < 2 ^ 48 := fun i j hi hj => by
    by_cases h : i < r
    ·rw [ent_top ys hl1 h hj]; exact HF.out.2.1.1.ent i j h hj
    ·rw [show i = r + (i - r) by omega, ent_low ys hl1]; exact HF.out.2.1.2.ent _ j (by omega) hj
   have K3 := Hid.mk (And.intro hM3 (And.intro hfe hb3))
   clear hG hb3 hM3 hfe x0 x1 x2 y0 y1 y2
   go_wp2_with fail
   refine (gech_any _ (r + r') q (zs ++ ys) 48 20000 _ (K3.out.1.mono (by omega)) (by omega) (by omega) K3.out.2.1 (by omega) (size8 (by omega) hq4).1 (size8 (by omega) hq4).2).mono ?_
   rintro e w4 ⟨v4, k, pc, hs, us, ws, rfl, hIF, hk, hE, -, hb4, -⟩
   have HE1 := Hid.mk (And.intro hk hE)
   have hkr := hk.le
   obtain ⟨sH, sU, sW, rfl, m3, m4, m5⟩ := id hIF
   obtain ⟨oH, cH, rfl⟩ := m3.slice
   obtain ⟨oU, cU, rfl⟩ := m4.slice
   obtain ⟨oW, cW, rfl⟩ := m5.slice
   clear m3 m4 m5 hk hE
   have HI := Hid.mk (And.intro hIF (K3.out.2.2.trans (hb4.mono K3.out.2.2.size)))
   clear hIF hb4
   go_wp2_with fail
   refine (basis_any _ (r + r') q k hs us ws 20000 _ HI.out.1 hkr).mono ?_
   rintro e w5 ⟨v5, bs, rfl, hM5, hbs, hb5⟩
   have hX5 : Below X.heap.size X w5 := HI.out.2.trans (hb5.mono HI.out.2.size)
   obtain ⟨-, -, s5, rfl, hg5⟩ := id hM5
   obtain ⟨o5, c5, rfl, -⟩ := hg5.shape
   have K5 := Hid.mk (And.intro hM5 (And.intro (show BasisIs (r + r') q (zs ++ ys) k bs from ⟨hM5.len, pc, hs, us, ws, HE1.out.1, HE1.out.2, hbs⟩) (HB.out.trans (hX5.mono HB.out.size))))
   clear hg5 hM5 hbs hb5 hX5 HI
   obtain ⟨N5, hN5⟩ : ∃ N5, N5 = k * q := ⟨_, rfl⟩
   rw [← hN5] at K5 ⊢
   clear hN5
   go_wp2_with fail
   have hb55 := (Below.refl w5.heap.size w5).alloc (Nat.le_refl _) (.cells #[.int .i64 k, .int .i64 q, .slice o5 N5 c5] 63)
   have hbA := K5.out.2.2.trans (hb55.mono K5.out.2.2.size)
   refine (keep_held b k q o5 N5 c5 bs ms nx nf _ (H0.out.below hbA) ((K5.out.1.below hb55).mono (by omega)) HNF.out hnx).mono ?_
   rintro e w6 ⟨rfl, hH6, hF6⟩
   have K7 := Hid.mk (And.intro hH6 ((Fr.of_below hbA).trans hF6))
   clear hH6 hF6 hbA hb55
   go_wp2_with fail
   go_ret2
   exact ⟨_, _, _, nx + 1, rfl, .inr ⟨i, hd, r, q, zs, j, hd', r', q, ys, HF.out.1.1, HF.out.1.2.1, HF.out.1.2.2.1, HF.out.1.2.2.2.1, HF.out.1.2.2.2.2.1, HF.out.1.2.2.2.2.2, .inr (.inr (.inr ⟨rfl, HF.out.2.1, rfl, rfl, nf, k, bs, K5.out.2.1, HNF.out, rfl, rfl⟩))⟩, K7.out.1, K7.out.2⟩
 ·have HE := Hid.mk he
  have hbe : (e == 0) = false := by simpa using he
  have hbB := ((Below.refl w1.heap.size w1).alloc (Nat.le_refl _) (.cells #[.int .i64 a1, .int .i64 a2, .slice o1 n1 p1] 63)).alloc (by simp) (.cells #[.int .i64 b1, .int .i64 b2, .slice o2 n2 p2] 63)
  have HB := Hid.mk (K1.out.2.trans (hbB.mono hw1))
  clear hbB
  go_wp2_with fail
  go_ret2
  exact ⟨-1, e, ms, nx, rfl, K1.out.1.badS nx HE.out, H0.out.below HB.out, Fr.of_below HB.out⟩
open Go.RowKit
theorem at_first (v : Value) (r c col : Nat) (zs : List Int) (L : Nat) (w : World) (hm : IsM w v r c zs L) (h1 : 0 < r) (h2 : col < c) :
 Calls Tryd.prog 60 #[v, .int .i64 0, .int .i64 col] w fun e w' => ∃ x, e = .returned x ∧ IntOut w w' x (zs.getD col 0) L := by
 have := at_in v r c 0 col zs L w hm h1 h2
 rw [Nat.zero_mul, Nat.zero_add] at this
 exact this
theorem Boxes.other {w : World} {b d r c p : Nat} {sl : Value} {nb : Bool} {s x y : Value} (h : Boxes w b d r c sl nb s) (h1 : p ≠ b) (h2 : p ≠ d) : Boxes ((w.setCell ⟨p, 0, none⟩ x).setCell ⟨p, 1, none⟩ y) b d r c sl nb s := by
 have o : ∀ i j : Nat, (⟨p, i, none⟩ : Addr) ≠ ⟨b, j, none⟩ := fun i j e => h1 (by injection e)
 have o2 : ∀ i j : Nat, (⟨p, i, none⟩ : Addr) ≠ ⟨d, j, none⟩ := fun i j e => h2 (by injection e)
 obtain ⟨a1, a2, a3, a4, a5, a6, a7⟩ := h
 refine ⟨?_, ?_, ?_, ?_, ?_, by simpa using a6, by simpa using a7⟩
 ·rw [World.cell?_setCell_other _ _ _ _ (o _ _), World.cell?_setCell_other _ _ _ _ (o _ _)]; exact a1
 ·rw [World.cell?_setCell_other _ _ _ _ (o _ _), World.cell?_setCell_other _ _ _ _ (o _ _)]; exact a2
 ·rw [World.cell?_setCell_other _ _ _ _ (o _ _), World.cell?_setCell_other _ _ _ _ (o _ _)]; exact a3
 ·rw [World.cell?_setCell_other _ _ _ _ (o2 _ _), World.cell?_setCell_other _ _ _ _ (o2 _ _)]; exact a4
 ·rw [World.cell?_setCell_other _ _ _ _ (o2 _ _), World.cell?_setCell_other _ _ _ _ (o2 _ _)]; exact a5
def PartOut (w4 : World) (z : Int) (L : Nat) (p : Value) (wx : World) : Prop := ∃ (pb : Nat) (nq : Bool) (qo : Option Addr) (mq qcap : Nat), p = .pointer (some ⟨pb, 0, none⟩) ∧ w4.heap.size ≤ pb ∧ Duo wx pb (.bool nq) (.slice qo mq qcap) ∧ IsI wx (.agg #[.bool nq, .slice qo mq qcap]) z L ∧ Below w4.heap.size w4 wx
theorem PartOut.made {w4 w6 : World} {z : Int} {L : Nat} {nq : Bool} {qo : Option Addr} {mq qcap : Nat} (hq : IsI w6 (.agg #[.bool nq, .slice qo mq qcap]) z L) (hb : Below w4.heap.size w4 w6) :
 PartOut w4 z L (.pointer (some ⟨w6.heap.size, 0, none⟩)) (w6.alloc (.cells #[.bool nq, .slice qo mq qcap] 78)) :=
 ⟨_, nq, qo, mq, qcap, rfl, hb.size, Duo.new _ _ _ rfl, hq.below ((Below.refl _ _).alloc (Nat.le_refl _) _), hb.alloc hb.size _⟩
theorem PartOut.stored {w4 w6 : World} {z : Int} {L b : Nat} {nq : Bool} {qo : Option Addr} {mq qcap : Nat} {x y : Value} (ht : Duo w6 b x y) (hle : w4.heap.size ≤ b) (hq : IsI w6 (.agg #[.bool nq, .slice qo mq qcap]) z L) (hb : Below w4.heap.size w4 w6) :
 PartOut w4 z L (.pointer (some ⟨b, 0, none⟩)) ((w6.setCell ⟨b, 0, none⟩ (.bool nq)).setCell ⟨b, 1, none⟩ (.slice qo mq qcap)) :=
 ⟨_, nq, qo, mq, qcap, rfl, hle, ht.put _ _, hq.keep (KU.setCell (KU.setCell (KU.refl _) ht.ty (by decide) _) (ht.ty.setCell _ _) (by decide) _), (hb.setCell hle _).setCell hle _⟩
theorem sum_next {n k : Nat} {f : Nat → Nat → Int} {S : Int} (h : S = sumF k fun c => signed c (f 0 c * detF n fun i j => f (i + 1) (skip c j))) :
 S + signed k (f 0 k * detF n fun i j => f (i + 1) (skip k j)) = sumF (k + 1) fun c => signed c (f 0 c * detF n fun i j => f (i + 1) (skip c j)) := by rw [sumF, h]
set_option maxRecDepth 100000 in
set_option maxHeartbeats 4000000 in
theorem det_succ (n : Nat) (ih : DetSaid n) : DetSaid (n + 1) := by
 intro v zs f L w hm hrep hl hL
 have HIH := Hid.mk ih
 have HREP := Hid.mk hrep
 have HLD := Hid.mk hl
 have HM := Hid.mk hm
 clear ih hrep hl
 obtain ⟨hr, _, sl, rfl, hg0⟩ := hm
 obtain ⟨ao, cap, rfl, -⟩ := hg0.shape
 clear hg0
 obtain ⟨R, hR⟩ : ∃ R, R = n + 1 := ⟨_, rfl⟩
 obtain ⟨N, hN⟩ : ∃ N, N = (n + 1) * (n + 1) := ⟨_, rfl⟩
 rw [← hN] at HM ⊢
 rw [← hR] at HM hr ⊢
 have HR := Hid.mk hR
 have hR0 : 0 < R := by omega
 have hne : ((R : Int) == 0) = false := beq_eq_false_iff_ne.2 (by omega)
 clear hR hN
 go_enter Tryd.func38, Tryd.ntmps38
 go_wp2_with (go_at_call 37; refine (isSquare_raw _ _ _ _ _ _).mono ?_; rintro e w' ⟨rfl, rfl⟩)
 obtain ⟨W1, hW1⟩ : ∃ W1, W1 = (((w.alloc (.cells #[.int .i64 R, .int .i64 R, .slice ao N cap] 63)).alloc (.cells #[.bool false, .slice none 0 0] 78)).alloc (.cells #[.int .i64 R, .int .i64 R, .slice ao N cap] 63)).alloc (.cells #[.bool false, .slice none 0 0] 78) := ⟨_, rfl⟩
 rw [← hW1]
 have hB1 : Below w.heap.size w W1 := by
  rw [hW1]
  repeat (first | exact Below.refl _ _ | refine Below.alloc ?_ (by simp <;> omega) _)
 have hx1 : Boxes W1 w.heap.size (w.heap.size + 1 + 1 + 1) R R (.slice ao N cap) false (.slice none 0 0) := by
  rw [hW1]
  refine ⟨?_, ?_, ?_, ?_, ?_, ?_, ?_⟩
  ·exact cell3 (by simp) _ _ _
  ·exact cell3 (by simp) _ _ _
  ·exact cell3 (by simp) _ _ _
  ·exact new_cell _ _ _ _ _ (by simp) rfl
  ·exact new_cell _ _ _ _ _ (by simp) rfl
  ·exact new_frozen _ _ _ _ _ (by simp)
  ·exact new_frozen _ _ _ _ _ (by simp)
 have hty1 : Ty W1 (w.heap.size + 1 + 1 + 1) 78 := by rw [hW1]; exact Ty.at_ _ _ _ (by simp)
 have hres : W1.heap[w.heap.size + 1]? = some (.cells #[.bool false, .slice none 0 0] 78 (0, 0)) := by
  rw [hW1, Below.heap_alloc _ _ _ (by simp), Below.heap_alloc _ _ _ (by simp)]
  have := heap_alloc_new (w.alloc (.cells #[.int .i64 R, .int .i64 R, .slice ao N cap] 63)) (.cells #[.bool false, .slice none 0 0] 78)
  simpa using this
 have hS : W1.heap.size = w.heap.size + 4 := by rw [hW1]; simp
 obtain ⟨sb, hsb⟩ : ∃ sb, sb = w.heap.size + 1 + 1 + 1 := ⟨_, rfl⟩
 rw [← hsb] at hx1 hty1 ⊢
 have hsb1 : w.heap.size + 3 ≤ sb := by omega
 have hsb2 : sb ≤ w.heap.size + 3 := by omega
 have FR := Hid.mk hres
 have HS := Hid.mk hS
 clear hW1 hres hS hsb
 go_loopg [4] R (fun gk i wr => ∃ (k : Nat) (S : Int) (nb : Bool) (bo : Option Addr) (m ecap : Nat), k ≤ R ∧ i = .int .i64 k ∧ Ty wr sb 78 ∧ Boxes wr w.heap.size sb R R (.slice ao N cap) nb (.slice bo m ecap) ∧ IsI wr (.agg #[.bool nb, .slice bo m ecap]) S (L + LD L n + k) ∧ W1.grownBy wr (some sb) ∧ Below w.heap.size w wr ∧
  Hid (gk = R - k ∧ S = sumF k fun c => signed c (f 0 c * detF n fun i j => f (i + 1) (skip c j))))
 case atStart => exact ⟨0, 0, _, _, _, _, Nat.zero_le _, rfl, hty1, hx1, IsI.zero _ _, World.grownBy.refl _ _, hB1, Hid.mk ⟨by omega, rfl⟩⟩
 case round =>
  clear hx1 hB1 hty1
  obtain ⟨k, S, nb, bo, m, ecap, hk, rfl, hty, hx, hI, hgr, hB, HSUM⟩ := hrel
  obtain ⟨m0, m1, m2, s0, s1, z0, z1⟩ := id hx
  have HX := Hid.mk hx
  have HTY := Hid.mk hty
  clear hty
  have HI := Hid.mk hI
  have HG := Hid.mk hgr
  have HB := Hid.mk hB
  clear hx hI hgr hB
  by_cases hkR : k < R
  ·go_wp2_with fail
   refine (minor_any _ R R k zs L _ ((HR.out ▸ HM.out : IsM w _ R R zs L).below HB.out) (by omega) hkR).mono ?_
   rintro e w2 ⟨x, rfl, ⟨ms, hms, hmo⟩, hb2⟩
   have HTY2 := Hid.mk (HTY.out.below hb2 HTY.out.lt)
   have hrep2 : Rep n ms fun i j => f (i + 1) (skip k j) := HREP.out.minor (HR.out ▸ hmo)
   have hms2 : IsM w2 x n n ms L := by have := HR.out; subst this; exact hms
   obtain ⟨g1, g2, sl2, rfl, hg2⟩ := id hms2
   obtain ⟨co, dcap, rfl, -⟩ := hg2.shape
   have hx2 := HX.out.below hb2
   have hI2 := HI.out.below hb2
   have hgr2 := grown_below HG.out hb2
   have hB2 : Below w.heap.size w w2 := HB.out.trans (hb2.mono HB.out.size)
   clear m0 m1 m2 s0 s1 z0 z1 HX HI HG HB hg2 hms hmo hb2
   have H2 := Hid.mk (And.intro hms2 (And.intro hrep2 (And.intro hx2 (And.intro hI2 (And.intro hgr2 hB2)))))
   clear hms2 hrep2 hx2 hI2 hgr2 hB2
   go_wp2_with fail
   refine (HIH.out _ ms (fun i j => f (i + 1) (skip k j)) L _ (H2.out.1.below ((Below.refl _ _).alloc (Nat.le_refl _) _)) H2.out.2.1 (by have := HLD.out; have := LD_mono L n; omega) hL).mono ?_
   rintro e w4 ⟨rest, rfl, hrest, hb4⟩
   obtain ⟨nr, eo, me, fcap, rfl⟩ := hrest.shape
   have h24 : Below w2.heap.size w2 w4 := ((Below.refl w2.heap.size w2).alloc (Nat.le_refl _) _).trans (hb4.mono (by simp))
   obtain ⟨-, -, hx2, hI2, hgr2, hB2⟩ := H2.out
   have HTS := Hid.mk (HTY2.out.below h24 HTY2.out.lt)
   have hx4 := hx2.below h24
   have hI4 := hI2.below h24
   have hgr4 := grown_below hgr2 h24
   have hB4 : Below w.heap.size w w4 := hB2.trans (h24.mono hB2.size)
   have hM4 : IsM w4 (.agg #[.int .i64 R, .int .i64 R, .slice ao N cap]) R R zs L := (HR.out ▸ HM.out : IsM w _ R R zs L).below hB4
   obtain ⟨m0, m1, m2, s0, s1, z0, z1⟩ := id hx4
   have m0' := cell1 m0
   have m1' := cell1 m1
   have m2' := cell1 m2
   have hlt := hx4.lt
   have H4 := Hid.mk (And.intro hx4 (And.intro hI4 (And.intro hgr4 (And.intro hB4 (And.intro hM4 hrest)))))
   clear H2 hx2 hI2 hgr2 hB2 hx4 hI4 hgr4 hB4 hM4 hrest hb4 h24 m0 m1 m2 s0 s1 z0 z1
   obtain ⟨hlt1, hlt2⟩ := hlt
   go_upto_region 11 with fail
   go_cut [7] from 17 to 40 (fun p wx => PartOut w4 (zs.getD k 0 * detF n fun i j => f (i + 1) (skip k j)) (L + LD L n) p wx)
   case first =>
    go_region_with (first
     | (go_at_call 60; go_must (refine (at_first _ R R k zs L _ (H4.out.2.2.2.2.1.below (by repeat (first | exact Below.refl _ _ | refine Below.drew ?_ | refine Below.alloc ?_ (by simp <;> omega) _))) hR0 hkR).mono ?_; rintro e w5 ⟨y, rfl, hy, hb5⟩; obtain ⟨ny, fo, mf, gcap, rfl⟩ := hy.shape; obtain ⟨hc5, hf5⟩ := bcell hb5; have hsz5 : w4.heap.size < w5.heap.size := (by have := hb5.size; simp at this; omega); try (have TW5 := Hid.mk (Duo.below (Duo.drew (Duo.new (w4.alloc _) (.bool false) (.slice none 0 0) (b := w4.heap.size + 1) (by simp))) hb5 (by simp)); obtain ⟨a1, a2, a3, a4⟩ := TW5.out.cells; have l5 : w4.heap.size + 1 < w5.heap.size := TW5.out.ty.lt)))
     | (go_at_call 61; go_must (refine (mul_any _ _ _ _ L (LD L n) _ (hy.below (by repeat (first | exact Below.refl _ _ | refine Below.alloc ?_ (by first | omega | (simp <;> omega)) _))) (H4.out.2.2.2.2.2.below (by repeat (first | exact Below.refl _ _ | refine Below.trans ?_ (hb5.mono (by first | omega | (simp <;> omega))) | refine Below.drew ?_ | refine Below.alloc ?_ (by first | omega | (simp <;> omega)) _))) (by omega) (by have := HLD.out; have := LD_mono L n; omega)).mono ?_; rintro e w6 ⟨q, rfl, hq, hb6⟩; have HB46 : Hid (Below w4.heap.size w4 w6) := Hid.mk (Below.trans (by repeat (first | exact Below.refl _ _ | refine Below.trans ?_ (hb5.mono (by first | omega | (simp <;> omega))) | refine Below.drew ?_ | refine Below.alloc ?_ (by first | omega | (simp <;> omega)) _)) (hb6.mono (by first | omega | (simp <;> omega)))); obtain ⟨nq, qo, mq, qcap, rfl⟩ := hq.shape; obtain ⟨hc6, hf6⟩ := bcell hb6; have hsz6 := hb6.size; try (have TW := Hid.mk (Duo.below (Duo.new w5 (.bool false) (.slice none 0 0) rfl) hb6 (by simp)); obtain ⟨t1, t2, t3, t4⟩ := TW.out.cells); try (have TW := Hid.mk (TW5.out.below hb6 (by have := TW5.out.ty.lt; omega)); obtain ⟨t1, t2, t3, t4⟩ := TW.out.cells))))
    all_goals
     go_wp2_with fail
     go_meet
     case rel =>
      first
       | exact PartOut.made hq HB46.out
       | exact PartOut.stored TW.out (Nat.le_of_lt hsz5) hq HB46.out
       | exact PartOut.stored TW.out (Nat.le_succ _) hq HB46.out
       | exact PartOut.stored (TW5.out.below hb6 l5) (Nat.le_succ _) hq HB46.out
   case rest =>
    obtain ⟨pb, nq, qo, mq, qcap, rfl, hpb, hTwo, hq, hbc⟩ := hcut
    obtain ⟨hx4, hI4, hgr4, hB4, -, -⟩ := H4.out
    have hxC := hx4.below hbc
    have hIC := hI4.below hbc
    have hgC := grown_below hgr4 hbc
    have hBC : Below w.heap.size w wc := hB4.trans (hbc.mono hB4.size)
    have hTC : Ty wc sb 78 := HTS.out.below hbc HTS.out.lt
    have hf0 : zs.getD k 0 = f 0 k := by have := HREP.out 0 k (by omega) (by have := HR.out; omega); simpa using this
    have hltp : pb < wc.heap.size := hTwo.ty.lt
    rw [hf0] at hq
    clear H4 hx4 hI4 hgr4 hB4 hbc m0' m1' m2' hf0
    by_cases hodd : k % 2 = 1
    ·have hod : ((k : Int) % 2 == 1) = true := beq_iff_eq.2 (by omega)
     have HZZ0 : Hid (-(f 0 k * detF n fun i j => f (i + 1) (skip k j)) = signed k (f 0 k * detF n fun i j => f (i + 1) (skip k j))) := Hid.mk (by unfold signed; rw [if_pos hodd])
     clear hodd
     have HC := Hid.mk (And.intro hxC (And.intro hIC (And.intro hgC (And.intro hBC (And.intro hTC (And.intro hTwo hq))))))
     obtain ⟨t1, t2, t3, t4⟩ := hTwo.cells
     clear hxC hIC hgC hBC hTC hTwo hq
     go_wp2_with fail
     refine (neg_any _ _ _ _ HC.out.2.2.2.2.2.2).mono ?_
     rintro e w7 ⟨r, rfl, hr, hb7⟩
     obtain ⟨nz7, oz7, mz7, cz7, rfl⟩ := hr.shape
     obtain ⟨hxC, hIC, hgC, hBC, hTC, hTwo, -⟩ := HC.out
     have hT7 := hTwo.below hb7 hltp
     have hx7 := hxC.below hb7
     obtain ⟨t5, t6, t7, t8⟩ := hT7.cells
     have hku : KU w7 ((w7.setCell ⟨pb, 0, none⟩ (.bool nz7)).setCell ⟨pb, 1, none⟩ (.slice oz7 mz7 cz7)) := KU.setCell (KU.setCell (KU.refl _) hT7.ty (by decide) _) (hT7.ty.setCell _ _) (by decide) _
     have hPX : IsI ((w7.setCell ⟨pb, 0, none⟩ (.bool nz7)).setCell ⟨pb, 1, none⟩ (.slice oz7 mz7 cz7)) (.agg #[.bool nz7, .slice oz7 mz7 cz7]) (-(f 0 k * detF n fun i j => f (i + 1) (skip k j))) (L + LD L n) := hr.keep hku
     have hIX := (hIC.below hb7).keep hku
     have hxX : Boxes ((w7.setCell ⟨pb, 0, none⟩ (.bool nz7)).setCell ⟨pb, 1, none⟩ (.slice oz7 mz7 cz7)) w.heap.size sb R R (.slice ao N cap) nb (.slice bo m ecap) := hx7.other (by omega) (by omega)
     have hgX : W1.grownBy ((w7.setCell ⟨pb, 0, none⟩ (.bool nz7)).setCell ⟨pb, 1, none⟩ (.slice oz7 mz7 cz7)) (some sb) := grown_new (grown_below hgC hb7) (by have := HS.out; omega)
     have hBX : Below w.heap.size w ((w7.setCell ⟨pb, 0, none⟩ (.bool nz7)).setCell ⟨pb, 1, none⟩ (.slice oz7 mz7 cz7)) := ((hBC.trans (hb7.mono hBC.size)).setCell (by simp; omega) _).setCell (by simp; omega) _
     have hTX := ((hTC.below hb7 hTC.lt).setCell ⟨pb, 0, none⟩ (.bool nz7)).setCell ⟨pb, 1, none⟩ (.slice oz7 mz7 cz7)
     obtain ⟨q0, q1, q2, q3, q4, q5, q6⟩ := id hxX
     obtain ⟨y1, y2, y3, y4⟩ := (hT7.put (.bool nz7) (.slice oz7 mz7 cz7)).cells
     generalize hzz : -(f 0 k * detF n fun i j => f (i + 1) (skip k j)) = zz at hPX HZZ0
     have HZZ := HZZ0
     clear HZZ0 hzz hr hb7 hT7 hx7 hku hxC hIC hgC hBC hTC hTwo t1 t2 t3 t4
     have P := Hid.mk (And.intro hPX (And.intro hIX (And.intro hxX (And.intro hgX (And.intro hBX hTX)))))
     clear hPX hIX hxX hgX hBX hTX HC
     go_wp2_with fail
     obtain ⟨hPX, hIX, hxX, hgX, hBX, hTX⟩ := P.out
     refine (add_any _ _ S zz (L + LD L n + k) (L + LD L n) _ hIX hPX (by have := HLD.out; rw [LD] at this; omega) (by have := HLD.out; rw [LD] at this; omega)).mono ?_
     rintro e w9 ⟨r2, rfl, hr2, hb9⟩
     obtain ⟨nb2, bo2, m2, ec2, rfl⟩ := hr2.shape
     have hx9 := hxX.below hb9
     have hg9 := grown_below hgX hb9
     have hB9 : Below w.heap.size w w9 := hBX.trans (hb9.mono hBX.size)
     obtain ⟨-, -, -, s0, s1, z0, z1⟩ := id hx9
     have hty9 : Ty w9 sb 78 := hTX.below hb9 hTX.lt
     have H9 := Hid.mk (And.intro hx9 (And.intro hg9 (And.intro hB9 (And.intro hr2 hty9))))
     clear hx9 hg9 hB9 hr2 hty9 hb9 hxX hIX hPX hgX hBX hTX P t5 t6 t7 t8 q0 q1 q2 q3 q4 q5 q6 y1 y2 y3 y4
     go_wp2_with fail
     go_roundg (R - (k + 1))
     case measure => have := HSUM.out.1; omega
     case rel =>
      obtain ⟨hx9, hg9, hB9, hr2, hty9⟩ := H9.out
      refine ⟨k + 1, S + zz, nb2, bo2, m2, ec2, by omega, by go_num, (hty9.setCell _ _).setCell _ _, hx9.put (by omega), (hr2.mono (by omega)).keep (KU.setCell (KU.setCell (KU.refl _) hty9 (by decide) _) (hty9.setCell _ _) (by decide) _), grown_put2 hg9, (hB9.setCell (by simp; omega) _).setCell (by simp; omega) _, Hid.mk ⟨rfl, ?_⟩⟩
      rw [← sum_next HSUM.out.2, HZZ.out]
    ·have hod : ((k : Int) % 2 == 1) = false := beq_eq_false_iff_ne.2 (by omega)
     have HZZ0 : Hid ((f 0 k * detF n fun i j => f (i + 1) (skip k j)) = signed k (f 0 k * detF n fun i j => f (i + 1) (skip k j))) := Hid.mk (by unfold signed; rw [if_neg hodd])
     clear hodd
     obtain ⟨q0, q1, q2, q3, q4, q5, q6⟩ := id hxC
     obtain ⟨y1, y2, y3, y4⟩ := hTwo.cells
     generalize hzz : (f 0 k * detF n fun i j => f (i + 1) (skip k j)) = zz at hq HZZ0
     have HZZ : Hid (zz = signed k (f 0 k * detF n fun i j => f (i + 1) (skip k j))) := Hid.mk (by rw [hzz]; exact HZZ0.out)
     have P := Hid.mk (And.intro hq (And.intro hIC (And.intro hxC (And.intro hgC (And.intro hBC hTC)))))
     clear HZZ0 hzz hq hIC hxC hgC hBC hTC hTwo
     go_wp2_with fail
     obtain ⟨hPX, hIX, hxX, hgX, hBX, hTX⟩ := P.out
     refine (add_any _ _ S zz (L + LD L n + k) (L + LD L n) _ hIX hPX (by have := HLD.out; rw [LD] at this; omega) (by have := HLD.out; rw [LD] at this; omega)).mono ?_
     rintro e w9 ⟨r2, rfl, hr2, hb9⟩
     obtain ⟨nb2, bo2, m2, ec2, rfl⟩ := hr2.shape
     have hx9 := hxX.below hb9
     have hg9 := grown_below hgX hb9
     have hB9 : Below w.heap.size w w9 := hBX.trans (hb9.mono hBX.size)
     obtain ⟨-, -, -, s0, s1, z0, z1⟩ := id hx9
     have hty9 : Ty w9 sb 78 := hTX.below hb9 hTX.lt
     have H9 := Hid.mk (And.intro hx9 (And.intro hg9 (And.intro hB9 (And.intro hr2 hty9))))
     clear hx9 hg9 hB9 hr2 hty9 hb9 hxX hIX hPX hgX hBX hTX P q0 q1 q2 q3 q4 q5 q6 y1 y2 y3 y4
     go_wp2_with fail
     go_roundg (R - (k + 1))
     case measure => have := HSUM.out.1; omega
     case rel =>
      obtain ⟨hx9, hg9, hB9, hr2, hty9⟩ := H9.out
      refine ⟨k + 1, S + zz, nb2, bo2, m2, ec2, by omega, by go_num, (hty9.setCell _ _).setCell _ _, hx9.put (by omega), (hr2.mono (by omega)).keep (KU.setCell (KU.setCell (KU.refl _) hty9 (by decide) _) (hty9.setCell _ _) (by decide) _), grown_put2 hg9, (hB9.setCell (by simp; omega) _).setCell (by simp; omega) _, Hid.mk ⟨rfl, ?_⟩⟩
      rw [← sum_next HSUM.out.2, HZZ.out]
  ·have hres : wr.heap[w.heap.size + 1]? = some (.cells #[.bool false, .slice none 0 0] 78 (0, 0)) := by
    rw [HG.out.block _ (by have := HS.out; omega) (by simp; omega)]; exact FR.out
   have hTr : Duo wr (w.heap.size + 1) (.bool false) (.slice none 0 0) := hres
   obtain ⟨r0, r1, r2, r3⟩ := hTr.cells
   have HTR := Hid.mk hTr
   clear hres hTr
   go_wp2_with fail
   refine bodyPost_ret (v := .agg #[.bool nb, .slice bo m ecap]) ?_ rfl ?_
   ·(simp [results, Tryd.results38, go_sem, r0, r1]; done)
   ·have hkk : k = n + 1 := by have := HR.out; omega
    refine ⟨_, rfl, ?_, (HB.out.setCell (by simp) _).setCell (by simp) _⟩
    have h1 : S = detF R f := by rw [HSUM.out.2, hkk, HR.out, detF]
    rw [← h1]
    refine (HI.out.mono ?_).keep (KU.setCell (KU.setCell (KU.refl _) HTR.out.ty (by decide) _) (HTR.out.ty.setCell _ _) (by decide) _)
    rw [HR.out, LD, hkk]
    exact Nat.le_refl _
theorem det_any (n : Nat) : DetSaid n := by
 induction n with
 | zero => exact det_zero
 | succ n ih => exact det_succ n ih
end Go.Proofs.YtfjbijpagaipnaaDoor
