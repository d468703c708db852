import Derived.Test.YtfjbijpagaipnaaDoorS18
import Derived.Test.YtfjbijpagaipnaaDoorS05
import Derived.Test.YtfjbijpagaipnaaDoorS09
import Derived.Deep.CutRange
import Derived.Deep.LoopGhost
import Derived.Test.YtfjbijpagaipnaaDoorS08
import Derived.Lib.ItoaLen
import Derived.Test.YtfjbijpagaipnaaDoorS07
namespace Go.Proofs.YtfjbijpagaipnaaDoor
open Go.RowKit
theorem GridB.nilLit (B : Nat) (w : World) (L : Nat) (hB : B ≤ w.heap.size) : GridB B (w.alloc (.cells #[] 78)) (.slice (some ⟨w.heap.size, 0, none⟩) 0 0) 0 [] L := by
 have := World.ownsRow_lit (base := B) (e := 78) (size := 2) w #[] 0 hB (by simp [maxLen]) rfl
 exact ⟨rfl, _, by simpa using this, fun i hi => by omega⟩
set_option maxRecDepth 100000 in
set_option maxHeartbeats 4000000 in
theorem over_new (v u : Value) (r q c : Nat) (zs ys : List Int) (L : Nat) (w : World) (hm : IsM w v r c zs L) (hn : IsM w u q c ys L) (hrq : r + q ≤ 99) :
 Calls Tryd.prog 46 #[v, u] w fun e w' => ∃ g, e = .returned (.agg #[.int .i64 ((r + q : Nat) : Int), .int .i64 c, .slice (some ⟨g, 0, none⟩) ((r + q) * c) ((r + q) * c)]) ∧ w.heap.size ≤ g ∧ Grid w' (.slice (some ⟨g, 0, none⟩) ((r + q) * c) ((r + q) * c)) ((r + q) * c) (zs ++ ys) L ∧ Below w.heap.size w w' := by
 obtain ⟨hr, hc, sl, rfl, hg0⟩ := hm
 obtain ⟨hq, -, tl, rfl, hg1⟩ := hn
 obtain ⟨ao, cap, rfl, hcap, hcm, -⟩ := hg0.shape
 obtain ⟨bo, dap, rfl, hdap, hdm, -⟩ := hg1.shape
 have HG := Hid.mk (And.intro hg0 hg1)
 clear hg0 hg1
 obtain ⟨N, hN⟩ : ∃ N, N = r * c := ⟨_, rfl⟩
 obtain ⟨M, hM⟩ : ∃ M, M = q * c := ⟨_, rfl⟩
 have hN2 : N ≤ 9801 := by rw [hN]; exact Nat.mul_le_mul hr hc
 have hM2 : M ≤ 9801 := by rw [hM]; exact Nat.mul_le_mul hq hc
 have hNM : N + M ≤ 9801 := by rw [hN, hM, ← Nat.add_mul]; exact Nat.mul_le_mul hrq hc
 rw [← hN] at HG hcap ⊢
 rw [← hM] at HG hdap ⊢
 have HN := Hid.mk (And.intro hN hM)
 clear hN hM
 go_enter Tryd.func46, Tryd.ntmps46
 go_wp2_with fail
 obtain ⟨W0, hW0⟩ : ∃ W0, W0 = ((w.alloc (.cells #[.int .i64 r, .int .i64 c, .slice ao N cap] 63)).alloc (.cells #[.int .i64 q, .int .i64 c, .slice bo M dap] 63)).alloc (.cells #[.int .i64 0, .int .i64 0, .slice none 0 0] 63) := ⟨_, rfl⟩
 have hs0 : W0.heap.size = w.heap.size + 3 := by rw [hW0]; simp
 have hb0 : Below w.heap.size w W0 := by rw [hW0]; repeat (first | exact Below.refl _ _ | refine Below.alloc ?_ (by simp <;> omega) _)
 have hm0 : Trio W0 w.heap.size (.int .i64 r) (.int .i64 c) (.slice ao N cap) := by
  rw [hW0]
  exact ⟨cell1 (cell1 (new_cell _ _ _ _ _ (by simp) rfl) _) _, cell1 (cell1 (new_cell _ _ _ _ _ (by simp) rfl) _) _, cell1 (cell1 (new_cell _ _ _ _ _ (by simp) rfl) _) _⟩
 have hn0 : Trio W0 (w.heap.size + 1) (.int .i64 q) (.int .i64 c) (.slice bo M dap) := by
  rw [hW0]
  exact ⟨cell1 (new_cell _ _ _ _ _ (by simp) rfl) _, cell1 (new_cell _ _ _ _ _ (by simp) rfl) _, cell1 (new_cell _ _ _ _ _ (by simp) rfl) _⟩
 have hR0 : W0.heap[w.heap.size + 2]? = some (.cells #[.int .i64 0, .int .i64 0, .slice none 0 0] 63 (0, 0)) := by
  rw [hW0]
  have := heap_alloc_new ((w.alloc (.cells #[.int .i64 r, .int .i64 c, .slice ao N cap] 63)).alloc (.cells #[.int .i64 q, .int .i64 c, .slice bo M dap] 63)) (.cells #[.int .i64 0, .int .i64 0, .slice none 0 0] 63)
  simpa using this
 have hlit := GridB.nilLit W0.heap.size W0 L (Nat.le_refl _)
 have hbl := (Below.refl W0.heap.size W0).alloc (Nat.le_refl _) (.cells #[] 78)
 have K0 := Hid.mk (And.intro hb0 (And.intro hm0 (And.intro hn0 (And.intro hR0 (And.intro (HG.out.1.below hb0) (And.intro (HG.out.2.below hb0) (And.intro hlit hbl)))))))
 rw [← hW0]
 have hsz : w.heap.size + 1 + 1 + 1 = W0.heap.size := by omega
 rw [hsz]
 have hs1 : w.heap.size + 3 ≤ W0.heap.size := by omega
 have hs2 : W0.heap.size ≤ w.heap.size + 3 := by omega
 clear hb0 hm0 hn0 hR0 hW0 hlit hbl hsz hs0
 go_loopw [5, 6] (fun cv i wr => ∃ k : Nat, k ≤ N ∧ i = .int .i64 k ∧ Hid (∃ co cc, cv = .slice co k cc ∧ GridB W0.heap.size wr (.slice co k cc) k (zs.take k) L ∧ Below W0.heap.size W0 wr)) (fun _ i _ => N - (intOf i).toNat)
 case atStart => exact ⟨0, Nat.zero_le _, rfl, Hid.mk ⟨_, _, rfl, by simpa using K0.out.2.2.2.2.2.2.1, K0.out.2.2.2.2.2.2.2⟩⟩
 case round =>
  obtain ⟨k, hk, rfl, HI0⟩ := hrel
  obtain ⟨co, cc, rfl, hGB, hBB⟩ := HI0.out
  have HI := Hid.mk (And.intro hGB hBB)
  clear hGB hBB HI0
  obtain ⟨-, -, q2⟩ := K0.out.2.1.later HI.out.2
  have hwr := HI.out.2.size
  by_cases hkN : k < N
  ·have hki : (k : Int) < (N : Int) := by omega
   obtain ⟨g1, nb1, so1, n1, cp1, rfl, c1, c2, hI1⟩ := (K0.out.2.2.2.2.1.below HI.out.2).at2 k hkN
   have hzl : zs.length = N := K0.out.2.2.2.2.1.1
   have hba := (Below.refl wr.heap.size wr).alloc (Nat.le_refl _) (.cells #[.bool nb1, .slice so1 n1 cp1] 78)
   have KI := Hid.mk (And.intro (hI1.below hba) (And.intro hba hzl))
   clear hI1 hba hzl
   go_wp2_with (at_builtin; refine append_int _ rfl (.tmp 16) (.tmp 22) rfl W0.heap.size _ k (zs.take k) L rfl ?_ ⟨_, 0, none⟩ rfl (.bool nb1) (.slice so1 n1 cp1) (zs.getD k 0) ?_ ?_ rfl rfl ?_ (by omega) ?_ ?_)
   ·exact HI.out.1.keep (KT.of_below KI.out.2.1)
   ·simp [Addr.add]
   ·simp [Addr.add]
   ·exact KI.out.1
   ·simp; omega
   intro v' w' hgb hgr
   have hlt := HI.out.1.lt
   obtain ⟨co', cc', hv', -⟩ := hgb.grid.shape
   subst hv'
   have hbw' : Below W0.heap.size W0 w' := (HI.out.2.trans (KI.out.2.1.mono hwr)).grown hgr (by simp; omega) (fun j hj => (hlt j hj).1)
   have K2 := Hid.mk (And.intro hgb hbw')
   clear hgb hgr hlt hbw'
   go_wp2_with fail
   go_roundw
   case measure => simp [intOf]; omega
   case rel =>
    refine ⟨k + 1, by omega, by go_num, Hid.mk ⟨co', cc', rfl, ?_, K2.out.2⟩⟩
    have e : zs.take (k + 1) = zs.take k ++ [zs.getD k 0] := by
     rw [List.take_succ_eq_append_getElem (by have := KI.out.2.2; omega)]
     simp [List.getD, show k < zs.length from by have := KI.out.2.2; omega]
    rw [e]
    exact K2.out.1
  ·have hki : ¬ (k : Int) < (N : Int) := by omega
   have hkk : k = N := by omega
   have HKK := Hid.mk hkk
   clear hkk
   go_wp2_with fail
   have HI1 : Hid (GridB W0.heap.size wr (.slice co N cc) N zs L ∧ Below W0.heap.size W0 wr ∧ k = N) := Hid.mk (by
    have h := HI.out
    have e := HKK.out
    have hzl : zs.length = N := K0.out.2.2.2.2.1.1
    rw [e, List.take_of_length_le (by omega)] at h
    exact ⟨h.1, h.2, e⟩)
   rw [HI1.out.2.2]
   clear q2
   rename World => w1
   go_loopw [5, 7] (fun cv i wr => ∃ k : Nat, k ≤ M ∧ i = .int .i64 k ∧ Hid (∃ co cc, cv = .slice co (N + k) cc ∧ GridB W0.heap.size wr (.slice co (N + k) cc) (N + k) (zs ++ ys.take k) L ∧ Below W0.heap.size W0 wr)) (fun _ i _ => M - (intOf i).toNat)
   case atStart => exact ⟨0, Nat.zero_le _, rfl, Hid.mk ⟨co, cc, rfl, by simpa using HI1.out.1, HI1.out.2.1⟩⟩
   case round =>
    rename World => wr
    obtain ⟨l, hl, rfl, HJ0⟩ := hrel
    obtain ⟨do_, dc, rfl, hGB, hBB⟩ := HJ0.out
    have HJ := Hid.mk (And.intro hGB hBB)
    clear hGB hBB HJ0
    obtain ⟨-, -, q2⟩ := K0.out.2.2.1.later HJ.out.2
    have hwr2 := HJ.out.2.size
    by_cases hlM : l < M
    ·have hli : (l : Int) < (M : Int) := by omega
     obtain ⟨g2, nb2, so2, n2, cp2, rfl, c1, c2, hI2⟩ := (K0.out.2.2.2.2.2.1.below HJ.out.2).at2 l hlM
     have hyl : ys.length = M := K0.out.2.2.2.2.2.1.1
     have hba := (Below.refl wr.heap.size wr).alloc (Nat.le_refl _) (.cells #[.bool nb2, .slice so2 n2 cp2] 78)
     have KJ := Hid.mk (And.intro (hI2.below hba) (And.intro hba hyl))
     clear hI2 hba hyl
     go_wp2_with (at_builtin; refine append_int _ rfl (.tmp 31) (.tmp 37) rfl W0.heap.size _ (N + l) (zs ++ ys.take l) L rfl ?_ ⟨_, 0, none⟩ rfl (.bool nb2) (.slice so2 n2 cp2) (ys.getD l 0) ?_ ?_ rfl rfl ?_ (by omega) ?_ ?_)
     ·exact HJ.out.1.keep (KT.of_below KJ.out.2.1)
     ·simp [Addr.add]
     ·simp [Addr.add]
     ·exact KJ.out.1
     ·simp; omega
     intro v' w' hgb hgr
     have hlt := HJ.out.1.lt
     obtain ⟨co', cc', hv', -⟩ := hgb.grid.shape
     subst hv'
     have hbw' : Below W0.heap.size W0 w' := (HJ.out.2.trans (KJ.out.2.1.mono hwr2)).grown hgr (by simp; omega) (fun j hj => (hlt j hj).1)
     have K2 := Hid.mk (And.intro hgb hbw')
     clear hgb hgr hlt hbw'
     go_wp2_with fail
     go_roundw
     case measure => simp [intOf]; omega
     case rel =>
      refine ⟨l + 1, by omega, by go_num, Hid.mk ⟨co', cc', rfl, ?_, K2.out.2⟩⟩
      have e : zs ++ ys.take (l + 1) = zs ++ (ys.take l ++ [ys[l]?.getD 0]) := by
       rw [List.take_succ_eq_append_getElem (by have := KJ.out.2.2; omega)]
       simp [show l < ys.length from by have := KJ.out.2.2; omega]
      rw [e, ← Nat.add_assoc]
      exact K2.out.1
    ·have hli : ¬ (l : Int) < (M : Int) := by omega
     have HLL : Hid (l = M) := Hid.mk (by omega)
     obtain ⟨p0, p1, -⟩ := K0.out.2.1.later HJ.out.2
     obtain ⟨p3, p4, -⟩ := K0.out.2.2.1.later HJ.out.2
     go_wp2_with fail
     have hGr : Grid wr (.slice do_ (N + l) dc) ((r + q) * c) (zs ++ ys) L ∧ ((r : Int) + (q : Int)) = ((r + q : Nat) : Int) := by
      have h := HJ.out.1.grid
      have e := HLL.out
      have hyl : ys.length = M := K0.out.2.2.2.2.2.1.1
      rw [e, List.take_of_length_le (by omega)] at h
      rw [e, show (r + q) * c = N + M from by rw [HN.out.1, HN.out.2, Nat.add_mul]]
      exact ⟨h, by omega⟩
     rw [hGr.2]
     refine (fromCells_new (r + q) c _ (zs ++ ys) L _ hrq hc hGr.1).mono ?_
     rintro e9 w5 ⟨g5, rfl, hg5, hG5, hb5⟩
     have hR : w5.heap[w.heap.size + 2]? = some (.cells #[.int .i64 0, .int .i64 0, .slice none 0 0] 63 (0, 0)) := ((hb5.block _ (by omega)).trans (HJ.out.2.block _ (by omega))).trans K0.out.2.2.2.1
     have r0 : w5.cell? ⟨w.heap.size + 1 + 1, 0, none⟩ = some (.int .i64 0) := by simp [World.cell?, hR]
     have r1 : w5.cell? ⟨w.heap.size + 1 + 1, 1, none⟩ = some (.int .i64 0) := by simp [World.cell?, hR]
     have r2 : w5.cell? ⟨w.heap.size + 1 + 1, 2, none⟩ = some (.slice none 0 0) := by simp [World.cell?, hR]
     have f0 : ∀ o, w5.frozen? ⟨w.heap.size + 1 + 1, o, none⟩ = false := fun o => by simp [World.frozen?, hR]
     have HT : Hid (Ty w5 (w.heap.size + 1 + 1) 63) := Hid.mk ⟨_, _, hR⟩
     have hbw := (K0.out.1.trans (HJ.out.2.mono (by omega))).trans (hb5.mono (by omega))
     have hg5' : w.heap.size + 1 + 1 < g5 := by omega
     have K5 := Hid.mk (And.intro hG5 hbw)
     clear hG5 hR hbw hb5 hGr
     obtain ⟨RC, hRC⟩ : ∃ RC, RC = (r + q) * c := ⟨_, rfl⟩
     rw [← hRC] at K5 ⊢
     have HRC := Hid.mk hRC
     clear hRC
     go_wp2_with fail
     refine bodyPost_ret (v := .agg #[.int .i64 ((r : Int) + (q : Int)), .int .i64 c, .slice (some ⟨g5, 0, none⟩) RC RC]) ?_ rfl ?_
     ·(simp [results, Tryd.results46, go_sem, r0, r1, r2]; done)
     ·have k3 : ∀ v0 v1 v2 : Value, KT w5 (((w5.setCell ⟨w.heap.size + 1 + 1, 0, none⟩ v0).setCell ⟨w.heap.size + 1 + 1, 1, none⟩ v1).setCell ⟨w.heap.size + 1 + 1, 2, none⟩ v2) := fun v0 v1 v2 => KT.setCell (KT.setCell (KT.setCell (KT.refl _) HT.out (by decide) (by decide) v0) (HT.out.setCell ⟨w.heap.size + 1 + 1, 0, none⟩ v0) (by decide) (by decide) v1) ((HT.out.setCell ⟨w.heap.size + 1 + 1, 0, none⟩ v0).setCell ⟨w.heap.size + 1 + 1, 1, none⟩ v1) (by decide) (by decide) v2
      have hr2 : ((r : Int) + (q : Int)) = ((r + q : Nat) : Int) := by omega
      rw [hr2]
      have eRC := HRC.out
      subst eRC
      refine ⟨g5, rfl, by omega, K5.out.1.keep (k3 _ _ _), ((K5.out.2.setCell (by simp; omega) _).setCell (by simp; omega) _).setCell (by simp; omega) _⟩
open Go.RowKit
theorem size8 {r c : Nat} (hr : r ≤ 8) (hc : c ≤ 4) : hB r 48 c ≤ 32 * 20000 ∧ uB r 48 c ≤ 32 * 20000 := by
 have key : ∀ r : Fin 9, ∀ c : Fin 5, hB r.val 48 c.val ≤ 32 * 20000 ∧ uB r.val 48 c.val ≤ 32 * 20000 := by decide
 exact key ⟨r, by omega⟩ ⟨c, by omega⟩
theorem ent_top {r c : Nat} {zs : List Int} (ys : List Int) (hl : zs.length = r * c) {i j : Nat} (hi : i < r) (hj : j < c) : ent c (zs ++ ys) i j = ent c zs i j := by
 have := idx_lt hi hj
 unfold ent
 rw [List.getD, List.getD, List.getElem?_append_left (by omega)]
theorem ent_low {r c : Nat} {zs : List Int} (ys : List Int) (hl : zs.length = r * c) (i j : Nat) : ent c (zs ++ ys) (r + i) j = ent c ys i j := by
 have : (r + i) * c + j = r * c + (i * c + j) := by rw [Nat.add_mul]; omega
 unfold ent
 rw [this, List.getD, List.getD, List.getElem?_append_right (by omega), hl, Nat.add_sub_cancel_left]
def BasisIs (r c : Nat) (zs : List Int) (k : Nat) (bs : List Int) : Prop :=
 bs.length = k * c ∧ ∃ pc hs us ws, EchSt r c k pc (ent c hs) ∧ EInv (ent c zs) (ent c hs) (ent r us) (ent r ws) r c ∧ ∀ i j, i < k → j < c → ent c bs i j = ent c hs i j
def SumRel (ms : List Hm) (nx : Nat) (g h k e : Int) (ms' : List Hm) (nx' : Nat) : Prop :=
 (((∀ i, i < 24 → ∀ x, ms.getD i none = some x → (x.1 : Int) ≠ g) ∨ (∀ i, i < 24 → ∀ x, ms.getD i none = some x → (x.1 : Int) ≠ h)) ∧ k = -1 ∧ e = 2 ∧ ms' = ms ∧ nx' = nx) ∨
 ∃ i hd r q zs j hd' r' c ys, i < 24 ∧ ms.getD i none = some (hd, r, q, zs) ∧ ((hd : Nat) : Int) = g ∧ j < 24 ∧ ms.getD j none = some (hd', r', c, ys) ∧ ((hd' : Nat) : Int) = h ∧
   ((q ≠ c ∧ k = -1 ∧ e = 3 ∧ ms' = ms ∧ nx' = nx) ∨ (q = c ∧ ¬ (FitsP r q zs ∧ FitsP r' c ys) ∧ k = -1 ∧ e = 4 ∧ ms' = ms ∧ nx' = nx) ∨
    (q = c ∧ (FitsP r q zs ∧ FitsP r' c ys) ∧ (∀ i, i < 24 → ms.getD i none ≠ none) ∧ k = -1 ∧ e = 5 ∧ ms' = ms ∧ nx' = nx) ∨
    (q = c ∧ (FitsP r q zs ∧ FitsP r' c ys) ∧ k = (nx : Int) ∧ e = 0 ∧ ∃ n rk bs, BasisIs (r + r') q (zs ++ ys) rk bs ∧ FreeAt ms n ∧ ms' = ms.set n (some (nx, rk, q, bs)) ∧ nx' = nx + 1))
theorem AlikeRel.badS {w : World} {ms : List Hm} {g h : Int} {m n : Value} {e : Int} (nx : Nat) (H : AlikeRel w ms g h m n e) (he : e ≠ 0) : SumRel ms nx g h (-1) e ms nx := by
 rcases H with ⟨h1, rfl⟩ | ⟨i, hd, r, q, zs, j, hd', r', c, ys, h1, h2, h3, h4, h5, h6, h7⟩
 ·exact .inl ⟨h1, rfl, rfl, rfl, rfl⟩
 ·refine .inr ⟨i, hd, r, q, zs, j, hd', r', c, ys, h1, h2, h3, h4, h5, h6, ?_⟩
  rcases h7 with ⟨a, rfl⟩ | ⟨a, a', rfl⟩ | ⟨-, -, a, -⟩
  ·exact .inl ⟨a, rfl, rfl, rfl, rfl⟩
  ·exact .inr (.inl ⟨a, a', rfl, rfl, rfl, rfl⟩)
  ·exact absurd a he
set_option maxRecDepth 100000 in
set_option maxHeartbeats 4000000 in
theorem sum_held (b : Nat) (g h : Int) (ms : List Hm) (nx : Nat) (v0 : World) (hst : Held v0 b ms nx) (hnx : nx < 1000000) :
 Calls Tryd.prog 18 #[.pointer (some ⟨b, 0, none⟩), .int .i64 g, .int .i64 h] v0 fun x w' => ∃ k e ms' nx', x = .returned (.tuple #[.int .i64 k, .int .i64 e]) ∧ SumRel ms nx g h k e ms' nx' ∧ Held w' b ms' nx' ∧ Fr b v0 w' := by
 have hm24 := hst.1
 have H0 := Hid.mk hst
 clear hst
 go_enter Tryd.func18, Tryd.ntmps18
 go_wp2_with fail
 refine (alike_held b g h ms nx _ H0.out).mono ?_
 rintro x w1 ⟨a1, a2, b1, b2, o1, o2, n1, n2, p1, p2, e, rfl, hR, hb1⟩
 have K1 := Hid.mk (And.intro hR hb1)
 have hw1 := hb1.size
 clear hR hb1
 by_cases he : e = 0
 ·subst he
  obtain ⟨i, hd, r, q, zs, j, hd', r', ys, hF, hfit, rfl, rfl, rfl, rfl, m1, m2⟩ := K1.out.1.ok
  have hbB := ((Below.refl w1.heap.size w1).alloc (Nat.le_refl _) (.cells #[.int .i64 r, .int .i64 q, .slice o1 n1 p1] 63)).alloc (by simp) (.cells #[.int .i64 r', .int .i64 q, .slice o2 n2 p2] 63)
  have HF := Hid.mk (And.intro hF (And.intro hfit (And.intro (m1.below hbB) (m2.below hbB))))
  have HB := Hid.mk (K1.out.2.trans (hbB.mono hw1))
  have hT1 : Trio ((w1.alloc (.cells #[.int .i64 r, .int .i64 q, .slice o1 n1 p1] 63)).alloc (.cells #[.int .i64 r', .int .i64 q, .slice o2 n2 p2] 63)) w1.heap.size (.int .i64 r) (.int .i64 q) (.slice o1 n1 p1) := ⟨by simp, by simp, by simp⟩
  have hT2 : Trio ((w1.alloc (.cells #[.int .i64 r, .int .i64 q, .slice o1 n1 p1] 63)).alloc (.cells #[.int .i64 r', .int .i64 q, .slice o2 n2 p2] 63)) (w1.heap.size + 1) (.int .i64 r') (.int .i64 q) (.slice o2 n2 p2) := ⟨by simp, by simp, by simp⟩
  have HT := Hid.mk (And.intro hT1 hT2)
  clear hF hfit m1 m2 hbB hT1 hT2
  go_wp2_with fail
  obtain ⟨X, hX⟩ : ∃ X, X = (w1.alloc (.cells #[.int .i64 r, .int .i64 q, .slice o1 n1 p1] 63)).alloc (.cells #[.int .i64 r', .int .i64 q, .slice o2 n2 p2] 63) := ⟨_, rfl⟩
  have hsX : X.heap.size = w1.heap.size + 2 := by rw [hX]; simp
  rw [← hX] at HF HB HT ⊢
  clear hX
  refine (room_held b ms nx _ (H0.out.below HB.out)).mono ?_
  rintro e X ⟨rfl, rfl⟩
  obtain ⟨rm, hrm⟩ : ∃ rm, rm = ms.countP Option.isNone := ⟨_, rfl⟩
  have HRM := Hid.mk hrm
  rw [← hrm]
  clear hrm
  by_cases h0 : rm = 0
  ·subst h0
   go_wp2_with fail
   go_ret2
   exact ⟨_, _, ms, nx, rfl, .inr ⟨i, hd, r, q, zs, j, hd', r', q, ys, HF.out.1.1, HF.out.1.2.1, HF.out.1.2.2.1, HF.out.1.2.2.2.1, HF.out.1.2.2.2.2.1, HF.out.1.2.2.2.2.2, .inr (.inr (.inl ⟨rfl, HF.out.2.1, full_of_room hm24 HRM.out.symm, rfl, rfl, rfl, rfl⟩))⟩, H0.out.below HB.out, Fr.of_below HB.out⟩
  ·obtain ⟨nf, hnf⟩ := free_of_room hm24 (show 0 < ms.countP Option.isNone from by have := HRM.out; omega)
   have HNF := Hid.mk hnf
   have h0' : ¬ ((rm : Int) < 1) := by omega
   clear hnf h0
   obtain ⟨⟨x0, x1, x2⟩, y0, y1, y2⟩ := id HT.out
   have hr4 := HF.out.2.1.1.1
   have hr4' := HF.out.2.1.2.1
   have hq4 := HF.out.2.1.1.2.1
   go_wp2_with fail
   refine (over_new _ _ r r' q zs ys 2 _ HF.out.2.2.1 HF.out.2.2.2 (by omega)).mono ?_
   rintro e w3 ⟨go, rfl, -, hG, hb3⟩
   have hl1 := HF.out.2.2.1.len
   have hl2 := HF.out.2.2.2.len
   have hM3 : IsM w3 (.agg #[.int .i64 ((r + r' : Nat) : Int), .int .i64 q, .slice (some ⟨go, 0, none⟩) ((r + r') * q) ((r + r') * q)]) (r + r') q (zs ++ ys) 2 := ⟨by omega, by omega, _, rfl, hG⟩
   have hfe : ∀ i j, i < r + r' → j < q → (ent q (zs ++ ys) i j).natAbs < 2 ^ 48 := fun i j hi hj => by
    by_cases h : i < r
    ·rw [ent_top ys hl1 h hj]; exact HF.out.2.1.1.ent i j h hj
    ·rw [show i = r + (i - r) by omega, ent_low ys hl1]; exact HF.out.2.1.2.ent _ j (by omega) hj
   have K3 := Hid.mk (And.intro hM3 (And.intro hfe hb3))
   clear hG hb3 hM3 hfe x0 x1 x2 y0 y1 y2
   go_wp2_with fail
   refine (gech_any _ (r + r') q (zs ++ ys) 48 20000 _ (K3.out.1.mono (by omega)) (by omega) (by omega) K3.out.2.1 (by omega) (size8 (by omega) hq4).1 (size8 (by omega) hq4).2).mono ?_
   rintro e w4 ⟨v4, k, pc, hs, us, ws, rfl, hIF, hk, hE, -, hb4, -⟩
   have HE1 := Hid.mk (And.intro hk hE)
   have hkr := hk.le
   obtain ⟨sH, sU, sW, rfl, m3, m4, m5⟩ := id hIF
   obtain ⟨oH, cH, rfl⟩ := m3.slice
   obtain ⟨oU, cU, rfl⟩ := m4.slice
   obtain ⟨oW, cW, rfl⟩ := m5.slice
   clear m3 m4 m5 hk hE
   have HI := Hid.mk (And.intro hIF (K3.out.2.2.trans (hb4.mono K3.out.2.2.size)))
   clear hIF hb4
   go_wp2_with fail
   refine (basis_any _ (r + r') q k hs us ws 20000 _ HI.out.1 hkr).mono ?_
   rintro e w5 ⟨v5, bs, rfl, hM5, hbs, hb5⟩
   have hX5 : Below X.heap.size X w5 := HI.out.2.trans (hb5.mono HI.out.2.size)
   obtain ⟨-, -, s5, rfl, hg5⟩ := id hM5
   obtain ⟨o5, c5, rfl, -⟩ := hg5.shape
   have K5 := Hid.mk (And.intro hM5 (And.intro (show BasisIs (r + r') q (zs ++ ys) k bs from ⟨hM5.len, pc, hs, us, ws, HE1.out.1, HE1.out.2, hbs⟩) (HB.out.trans (hX5.mono HB.out.size))))
   clear hg5 hM5 hbs hb5 hX5 HI
   obtain ⟨N5, hN5⟩ : ∃ N5, N5 = k * q := ⟨_, rfl⟩
   rw [← hN5] at K5 ⊢
   clear hN5
   go_wp2_with fail
   have hb55 := (Below.refl w5.heap.size w5).alloc (Nat.le_refl _) (.cells #[.int .i64 k, .int .i64 q, .slice o5 N5 c5] 63)
   have hbA := K5.out.2.2.trans (hb55.mono K5.out.2.2.size)
   refine (keep_held b k q o5 N5 c5 bs ms nx nf _ (H0.out.below hbA) ((K5.out.1.below hb55).mono (by omega)) HNF.out hnx).mono ?_
   rintro e w6 ⟨rfl, hH6, hF6⟩
   have K7 := Hid.mk (And.intro hH6 ((Fr.of_below hbA).trans hF6))
   clear hH6 hF6 hbA hb55
   go_wp2_with fail
   go_ret2
   exact ⟨_, _, _, nx + 1, rfl, .inr ⟨i, hd, r, q, zs, j, hd', r', q, ys, HF.out.1.1, HF.out.1.2.1, HF.out.1.2.2.1, HF.out.1.2.2.2.1, HF.out.1.2.2.2.2.1, HF.out.1.2.2.2.2.2, .inr (.inr (.inr ⟨rfl, HF.out.2.1, rfl, rfl, nf, k, bs, K5.out.2.1, HNF.out, rfl, rfl⟩))⟩, K7.out.1, K7.out.2⟩
 ·have HE := Hid.mk he
  have hbe : (e == 0) = false := by simpa using he
  have hbB := ((Below.refl w1.heap.size w1).alloc (Nat.le_refl _) (.cells #[.int .i64 a1, .int .i64 a2, .slice o1 n1 p1] 63)).alloc (by simp) (.cells #[.int .i64 b1, .int .i64 b2, .slice o2 n2 p2] 63)
  have HB := Hid.mk (K1.out.2.trans (hbB.mono hw1))
  clear hbB
  go_wp2_with fail
  go_ret2
  exact ⟨-1, e, ms, nx, rfl, K1.out.1.badS nx HE.out, H0.out.below HB.out, Fr.of_below HB.out⟩
open Go.RowKit
open Go.RowKit R
def RkRel (ms : List Hm) (h z e : Int) : Prop :=
 ((∀ i, i < 24 → ∀ x, ms.getD i none = some x → (x.1 : Int) ≠ h) ∧ z = -1 ∧ e = 2) ∨
 ∃ i hd r c zs, i < 24 ∧ ms.getD i none = some (hd, r, c, zs) ∧ ((hd : Nat) : Int) = h ∧ ((¬ FitsP r c zs ∧ z = -1 ∧ e = 4) ∨ (FitsP r c zs ∧ e = 0 ∧ ∃ k : Nat, z = (k : Int) ∧ RankIs (gz c zs) r c k))
set_option maxRecDepth 100000 in
set_option maxHeartbeats 2000000 in
theorem rank_held (b : Nat) (h : Int) (ms : List Hm) (nx : Nat) (w : World) (hst : Held w b ms nx) :
 Calls Tryd.prog 28 #[.pointer (some ⟨b, 0, none⟩), .int .i64 h] w fun x w' => ∃ z e, x = .returned (.tuple #[.int .i64 z, .int .i64 e]) ∧ RkRel ms h z e ∧ Below w.heap.size w w' := by
 have H := Hid.mk hst
 clear hst
 go_enter Tryd.func28, Tryd.ntmps28
 go_wp2_with fail
 refine (find_held b h ms nx _ H.out).mono ?_
 rintro e w1 ⟨⟨r, c, ao, n, cap, ok, rfl, hf⟩, hb1⟩
 have hbA := (Below.refl w1.heap.size w1).alloc (Nat.le_refl _) (.cells #[.int .i64 r, .int .i64 c, .slice ao n cap] 63)
 have hbw := hb1.trans (hbA.mono hb1.size)
 have hw1 := hb1.size
 rcases id hf with ⟨rfl, i, hd, zs, hi, hgi, hgh, hM⟩ | ⟨rfl, hno⟩
 ·have K1 := Hid.mk (And.intro (hM.below hbA) (And.intro hbw (And.intro hi (And.intro hgi hgh))))
  clear hf hM hb1 hbA hbw hi hgi hgh
  go_wp2_with fail
  refine (tooBig_any _ r c zs 200000000 _ K1.out.1 (by omega)).mono ?_
  rintro e w2 ⟨fb, rfl, hfo, hb2⟩
  have hs2 : w1.heap.size + 1 ≤ w2.heap.size := by have := hb2.size; simpa using this
  have m0 : w2.cell? ⟨w1.heap.size, 0, none⟩ = some (.int .i64 r) := cell_later hb2 (by simp)
  have m1 : w2.cell? ⟨w1.heap.size, 1, none⟩ = some (.int .i64 c) := cell_later hb2 (by simp)
  have m2 : w2.cell? ⟨w1.heap.size, 2, none⟩ = some (.slice ao n cap) := cell_later hb2 (by simp)
  have K2 := Hid.mk (And.intro (K1.out.1.below hb2) (And.intro (K1.out.2.1.trans (hb2.mono K1.out.2.1.size)) hfo))
  clear hb2 hfo
  cases fb
  ·have HNF : Hid (¬ FitsP r c zs) := Hid.mk (fun h => by have := K2.out.2.2.2 h; cases this)
   go_wp2_with fail
   go_ret2
   exact ⟨_, _, rfl, .inr ⟨i, hd, r, c, zs, K1.out.2.2.1, K1.out.2.2.2.1, K1.out.2.2.2.2, .inl ⟨HNF.out, rfl, rfl⟩⟩, K2.out.2.1⟩
  ·have HFP : Hid (FitsP r c zs) := Hid.mk (K2.out.2.2.1 rfl)
   go_wp2_with fail
   refine (gech_fit _ r c zs 2 _ (K2.out.1.tight HFP.out) HFP.out.1 HFP.out.2.1 HFP.out.ent (by omega)).mono ?_
   rintro e w3 ⟨v3, k, pc, hs, us, ws, rfl, ⟨sH, sU, sW, rfl, m3, m4, m5⟩, hk, hE, -, hb3, -⟩
   obtain ⟨oH, cH, rfl⟩ := m3.slice
   obtain ⟨oU, cU, rfl⟩ := m4.slice
   obtain ⟨oW, cW, rfl⟩ := m5.slice
   clear m3 m4 m5
   have K3 := Hid.mk (And.intro (ech_rankIs hk hE HFP.out.1 HFP.out.2.1) (K2.out.2.1.trans (hb3.mono K2.out.2.1.size)))
   clear hk hE hb3 m0 m1 m2
   have hfd := field_rank (.int .i64 r) (.int .i64 c) (.slice oH (r * c) cH) (.int .i64 r) (.int .i64 r) (.slice oU (r * r) cU) (.int .i64 r) (.int .i64 r) (.slice oW (r * r) cW) (k : Int)
   go_wp2_with fail
   go_ret2
   exact ⟨_, _, rfl, .inr ⟨i, hd, r, c, zs, K1.out.2.2.1, K1.out.2.2.2.1, K1.out.2.2.2.2, .inr ⟨HFP.out, rfl, k, rfl, K3.out.1⟩⟩, K3.out.2⟩
 ·have KN := Hid.mk (And.intro hno hbw)
  clear hno hbw hb1 hbA hf
  go_wp2_with fail
  go_ret2
  exact ⟨_, _, rfl, .inl ⟨KN.out.1, rfl, rfl⟩, KN.out.2⟩
open Go.RowKit
theorem hm_ext {a b : List Hm} (h : a.length = 24) (h' : b.length = 24) (he : ∀ k, k < 24 → a.getD k none = b.getD k none) : a = b := by
 apply List.ext_getElem (by omega)
 intro k h1 h2
 have := he k (by omega)
 rw [List.getD, List.getD, List.getElem?_eq_getElem h1, List.getElem?_eq_getElem h2] at this
 simpa using this
open Go.RowKit
theorem itoa_digit (n : Nat) (h : n < 10) : Lib.itoa (n : Int) = [UInt8.ofNat (48 + n)] := by rw [Lib.itoa_nonneg, Lib.decDigits_one h]
theorem itoa_more (n : Nat) (h : ¬ n < 10) : Lib.itoa (n : Int) = Lib.itoa ((n / 10 : Nat) : Int) ++ [UInt8.ofNat (48 + n % 10)] := by
 rw [Lib.itoa_nonneg, Lib.itoa_nonneg, decDigits_big h]
theorem byte_str (w : World) (d : Nat) (hd : d < 10) (z : Int) (hz : z = 48 + (d : Int)) (bt : UInt8) (hbt : bt = UInt8.ofNat (48 + d)) :
 (convert 92 9 (.slice (some ⟨w.heap.size, 0, none⟩) 1 1)).run Tryd.prog (w.alloc (.cells #[.int .u8 z] 5)) = .ok (.string ⟨[bt].toArray⟩) (w.alloc (.cells #[.int .u8 z] 5)) := by
 subst hbt
 have h := run_convert_bytes_back (P := Tryd.prog) (w.alloc (.cells #[.int .u8 z] 5)) 92 9 5 ⟨w.heap.size, 0, none⟩ 1 [UInt8.ofNat (48 + d)] Tryd.underlying92 Tryd.underlying5 Tryd.underlying9 (fun j hj => by
  have hj0 : j = 0 := by simpa using hj
  subst hj0
  rw [Lib.add_plain, World.cell?_alloc_new]
  have e : ((UInt8.ofNat (48 + d)).toNat : Int) = z := by
   rw [hz, UInt8.toNat_ofNat', Nat.mod_eq_of_lt (by omega)]; omega
  simp only [List.getElem_cons_zero]
  rw [e]
  rfl)
 exact h
set_option maxRecDepth 100000 in
set_option maxHeartbeats 1000000 in
theorem number_nat (f : Nat) : ∀ (n : Nat) (w : World), n ≤ f → n ≤ 4611686018427387904 →
 Calls Tryd.prog 25 #[.int .i64 n] w fun e w' => e = .returned (.string ⟨(Lib.itoa (n : Int)).toArray⟩) ∧ Below w.heap.size w w' := by
 induction f with
 | zero =>
   intro n w hf hn
   have h0 : n < 10 := by omega
   obtain ⟨bt, hbt⟩ : ∃ bt, bt = UInt8.ofNat (48 + n % 10) := ⟨_, rfl⟩
   have hcv := byte_str w (n % 10) (by omega) (48 + (n : Int) % 10) (by omega) bt hbt
   have HBT := Hid.mk hbt
   clear hbt
   go_enter Tryd.func25, Tryd.ntmps25
   go_wp2_with fail
   go_ret
   refine ⟨?_, (Below.refl _ _).alloc (Nat.le_refl _) _⟩
   rw [itoa_digit n h0]
   exact ret_str (by rw [HBT.out, Nat.mod_eq_of_lt h0])
 | succ f ih =>
   intro n w hf hn
   by_cases h0 : n < 10
   ·obtain ⟨bt, hbt⟩ : ∃ bt, bt = UInt8.ofNat (48 + n % 10) := ⟨_, rfl⟩
    have hcv := byte_str w (n % 10) (by omega) (48 + (n : Int) % 10) (by omega) bt hbt
    have HBT := Hid.mk hbt
    clear hbt
    clear ih
    go_enter Tryd.func25, Tryd.ntmps25
    go_wp2_with fail
    go_ret
    refine ⟨?_, (Below.refl _ _).alloc (Nat.le_refl _) _⟩
    rw [itoa_digit n h0]
    exact ret_str (by rw [HBT.out, Nat.mod_eq_of_lt h0])
   ·obtain ⟨bt, hbt⟩ : ∃ bt, bt = UInt8.ofNat (48 + n % 10) := ⟨_, rfl⟩
    have hcv := byte_str w (n % 10) (by omega) (48 + (n : Int) % 10) (by omega) bt hbt
    have HBT := Hid.mk hbt
    clear hbt
    have HIH := Hid.mk ih
    clear ih
    have hlen : (Lib.itoa ((n / 10 : Nat) : Int)).length ≤ 40 := by
     have := Lib.itoa_length_le ((n / 10 : Nat) : Int) (by omega) (by omega)
     omega
    go_enter Tryd.func25, Tryd.ntmps25
    go_wp2_with fail
    rw [show (n : Int) / 10 = ((n / 10 : Nat) : Int) from by omega]
    refine (HIH.out (n / 10) _ (by omega) (by omega)).mono ?_
    rintro e w2 ⟨rfl, hb⟩
    generalize hT : Lib.itoa ((n / 10 : Nat) : Int) = T at *
    have HT := Hid.mk hT
    clear hT
    go_wp2_with fail
    go_ret
    refine ⟨?_, ((Below.refl w.heap.size w).alloc (Nat.le_refl _) _).trans (hb.mono (by simp))⟩
    rw [itoa_more n h0, HT.out, ← HBT.out]
    exact ret_str (str_app T [bt])
theorem number_any (z : Int) (w : World) (h1 : -4611686018427387904 ≤ z) (h2 : z ≤ 4611686018427387904) :
 Calls Tryd.prog 25 #[.int .i64 z] w fun e w' => e = .returned (.string ⟨(Lib.itoa z).toArray⟩) ∧ Below w.heap.size w w' := by
 by_cases hz : z < 0
 ·obtain ⟨u, rfl⟩ : ∃ u : Nat, z = -(u : Int) := ⟨z.natAbs, by omega⟩
  have hu : 1 ≤ u := by omega
  have hlen : (Lib.itoa (u : Int)).length ≤ 40 := by
   have := Lib.itoa_length_le (u : Int) (by omega) (by omega)
   omega
  go_enter Tryd.func25, Tryd.ntmps25
  go_wp2_with fail
  refine (number_nat u u _ (Nat.le_refl _) (by omega)).mono ?_
  rintro e w2 ⟨rfl, hb⟩
  generalize hT : Lib.itoa (u : Int) = T at *
  have HT := Hid.mk hT
  clear hT
  go_wp2_with fail
  go_ret
  refine ⟨?_, hb⟩
  rw [Lib.itoa_neg u hu, ← Lib.itoa_nonneg, HT.out]
  exact ret_str (str_app [45] _)
 ·obtain ⟨u, rfl⟩ : ∃ u : Nat, z = (u : Int) := ⟨z.natAbs, by omega⟩
  exact number_nat u u w (Nat.le_refl _) (by omega)
open Go.RowKit
open Go.RowKit
def icells (c : Nat) (f : Nat → Int) : List Value := (List.range c).map fun j => Value.int .i64 (f j)
def rowV (c g : Nat) : Value := .slice (some ⟨g, 0, none⟩) c c
def IRow (w : World) (g c : Nat) (f : Nat → Int) : Prop := w.heap[g]? = some (.cells (icells c f).toArray 3 (0, 0))
theorem IRow.lt {w : World} {g c : Nat} {f : Nat → Int} (h : IRow w g c f) : g < w.heap.size := (Array.getElem?_eq_some_iff.1 h).1
theorem IRow.cell {w : World} {g c : Nat} {f : Nat → Int} (h : IRow w g c f) (j : Nat) (hj : j < c) : w.cell? ⟨g, j, none⟩ = some (.int .i64 (f j)) := by
 unfold IRow at h
 simp [World.cell?, h, icells, hj]
theorem IRow.frozen {w : World} {g c : Nat} {f : Nat → Int} (h : IRow w g c f) (j : Nat) : w.frozen? ⟨g, j, none⟩ = false := by
 unfold IRow at h
 simp [World.frozen?, h]
def upd (f : Nat → Int) (j : Nat) (z : Int) : Nat → Int := fun k => if k = j then z else f k
theorem icells_set (c : Nat) (f : Nat → Int) (j : Nat) (z : Int) : (icells c f).set j (.int .i64 z) = icells c (upd f j z) := by
 apply List.ext_getElem?
 intro k
 simp only [icells, List.getElem?_set, List.length_map, List.length_range, List.getElem?_map, upd]
 by_cases hk : j = k
 ·subst hk
  by_cases hc : j < c
  ·simp [hc]
  ·simp [hc]
 ·have hk' : ¬ k = j := fun e => hk e.symm
  by_cases hc : k < c
  ·simp [hk, hk', hc]
  ·simp [hk, hc]
theorem IRow.stored {w : World} {g c : Nat} {f : Nat → Int} (h : IRow w g c f) (j : Nat) (z : Int) : IRow (w.setCell ⟨g, j, none⟩ (.int .i64 z)) g c (upd f j z) := by
 unfold IRow at *
 rw [heap_setCell_same _ _ _ _ _ _ h, ← icells_set]
 simp
theorem Tryd.info3' : (Tryd.prog.info? 3).map (fun i => (i.zero, i.size, i.bytes)) = some (some (.int .i64 0), 1, 8) := by kernel_rfl
theorem Tryd.info37' : (Tryd.prog.info? 37).map (fun i => (i.zero, i.size, i.bytes)) = some (some (.slice none 0 0), 1, 24) := by kernel_rfl
theorem make_row (w : World) {ops : Array Oper} {rest : List Oper} {o : Oper} {a : Act} {Q : Exit → Act → World → Prop}
 (hg : o.guard = none) (l c : Operand) (hop : o.op = Op.makeSlice 37 l c) (L C : Int) (n : Nat) (hl : a.eval l = .int .i64 L) (hc : a.eval c = .int .i64 C) (hL : L = (n : Int)) (hC : C = (n : Int)) (b : n ≤ 1000000000)
 (hK : ∀ w', IRow w' w.heap.size n (fun _ => 0) → Below w.heap.size w w' → w.heap.size < w'.heap.size → wpList Tryd.prog ops Q rest (a.put o.dst (.slice (some ⟨w.heap.size, 0, none⟩) n n)) w') :
 wpList Tryd.prog ops Q (o :: rest) a w := by
 obtain ⟨i, hi, hz0, hz1, hz2⟩ := info_parts Tryd.info3'
 refine wpList_make_full w hg l c 37 hop 0 3 i (.int .i64 0) 1 Tryd.underlying37 hi hz0 hz1 .i64 .i64 L C n hl hc hL hC (by rw [hz2]; omega) (by unfold maxLen; omega) (Nat.zero_le _) ?_
 intro w' hown hgrow
 rw [show (Value.int IntKind.i64 0).cells = #[.int .i64 0] from rfl, toList_madeCells_one, Nat.mul_one] at hown
 refine hK w' ?_ ((Below.refl _ _).grown hgrow (Nat.le_refl _) (by simp)) (World.ownsRow.lt hown _ rfl).2
 rcases hown.2 with ⟨h1, _⟩ | ⟨g, cap, cur, h1, h2, h3, h4, h5, h6, h7⟩
 ·simp at h1
 ·simp only [Value.slice.injEq, Option.some.injEq, Addr.mk.injEq, and_true, true_and] at h1
  obtain ⟨rfl, rfl⟩ := h1
  unfold IRow
  rw [h3]
  have h8 : cur.toList = icells n (fun _ => 0) := by
   rw [List.take_of_length_le (by simp [h6])] at h7
   rw [h7]
   simp [icells, List.map_const']
  rw [← h8]
def rcells (n c : Nat) (gs : Nat → Nat) : List Value := (List.range n).map fun i => rowV c (gs i)
def Mat (B : Nat) (w : World) (v : Value) (n c : Nat) (gs : Nat → Nat) (e : Nat → Nat → Int) : Prop := w.ownsRow B 37 1 v n (rcells n c gs) ∧ ∀ i, i < n → IRow w (gs i) c (e i)
def KB (B : Nat) (w w' : World) : Prop := ∀ (i : Nat) (arr : Array Value) (t : TypeId), i < B → (t = 3 ∨ t = 37) → w.heap[i]? = some (.cells arr t (0, 0)) → w'.heap[i]? = some (.cells arr t (0, 0))
theorem KB.of_below {B : Nat} {w w' : World} (h : Below B w w') : KB B w w' := fun i arr t hi _ h0 => by rw [h.block i hi]; exact h0
theorem KB.of_grown {B : Nat} {w w' : World} {p : Nat} {t : TypeId} (h : w.grownBy w' (some p)) (ht : Ty w p t) (h1 : t ≠ 3) (h2 : t ≠ 37) : KB B w w' := by
 intro i arr u _ hu h0
 rw [h.block i (Array.getElem?_eq_some_iff.1 h0).1 ?_]
 ·exact h0
 ·intro e
  injection e with e
  subst e
  obtain ⟨c, fr, h3⟩ := ht
  rw [h0] at h3
  simp only [Option.some.injEq, Obj.cells.injEq] at h3
  rcases hu with rfl | rfl
  ·exact h1 h3.2.1.symm
  ·exact h2 h3.2.1.symm
theorem IRow.keep {B : Nat} {w w' : World} {g c : Nat} {f : Nat → Int} (h : IRow w g c f) (hk : KB B w w') (hg : g < B) : IRow w' g c f := hk g _ _ hg (.inl rfl) h
theorem Mat.keep {B : Nat} {w w' : World} {v : Value} {n c : Nat} {gs : Nat → Nat} {e : Nat → Nat → Int} (h : Mat B w v n c gs e) (hk : KB w.heap.size w w') : Mat B w' v n c gs e := by
 refine ⟨⟨h.1.1, ?_⟩, fun i hi => (h.2 i hi).keep hk (h.2 i hi).lt⟩
 rcases h.1.2 with h2 | ⟨g, cap, cur, hv, hg, hh, r⟩
 ·exact .inl h2
 ·exact .inr ⟨g, cap, cur, hv, hg, hk g cur _ (Array.getElem?_eq_some_iff.1 hh).1 (.inr rfl) hh, r⟩
theorem Mat.nil (B : Nat) (w : World) (c : Nat) (gs : Nat → Nat) (e : Nat → Nat → Int) : Mat B w (.slice none 0 0) 0 c gs e := ⟨World.ownsRow_nil _ _ _ _, fun i hi => by omega⟩
theorem Mat.shape {B : Nat} {w : World} {v : Value} {n c : Nat} {gs : Nat → Nat} {e : Nat → Nat → Int} (h : Mat B w v n c gs e) :
 (v = .slice none 0 0 ∧ n = 0) ∨ ∃ g cap, v = .slice (some ⟨g, 0, none⟩) n cap ∧ n ≤ cap ∧ cap ≤ 9223372036854775807 ∧ B ≤ g ∧ g < w.heap.size ∧ Ty w g 37 ∧ ∀ i, i < n → w.cell? ⟨g, i, none⟩ = some (.slice (some ⟨gs i, 0, none⟩) c c) ∧ w.frozen? ⟨g, i, none⟩ = false := by
 rcases h.1.2 with h2 | ⟨g, cap, cur, rfl, hg, hh, h1, h3, h4, h5⟩
 ·exact .inl h2
 ·refine .inr ⟨g, cap, rfl, h1, by simpa [maxLen] using h3, hg, (Array.getElem?_eq_some_iff.1 hh).1, ⟨_, _, hh⟩, fun i hi => ⟨?_, ?_⟩⟩
  ·rw [World.ownsRow.cellAt h.1 i (by omega)]
   simp [rcells, hi, rowV]
  ·exact World.ownsRow.frozenAt h.1 i
theorem Mat.cell {B : Nat} {w : World} {n c cap g : Nat} {gs : Nat → Nat} {e : Nat → Nat → Int} (h : Mat B w (.slice (some ⟨g, 0, none⟩) n cap) n c gs e) (i : Nat) (hi : i < n) :
 w.cell? ⟨g, i, none⟩ = some (.slice (some ⟨gs i, 0, none⟩) c c) := by
 rw [World.ownsRow.cellAt h.1 i (by omega)]
 simp [rcells, hi, rowV]
theorem rcells_snoc (n c : Nat) (gs : Nat → Nat) (g : Nat) : rcells n c gs ++ [rowV c g] = rcells (n + 1) c (fun i => if i = n then g else gs i) := by
 unfold rcells
 rw [List.range_succ, List.map_append, List.map_singleton]
 simp only [if_true]
 congr 1
 apply List.map_congr_left
 intro i hi
 have := List.mem_range.1 hi
 rw [if_neg (by omega)]
theorem append_row (w : World) {ops : Array Oper} {rest : List Oper} {o : Oper} {a : Act} {Q : Exit → Act → World → Prop} (hgd : o.guard = none) (s x : Operand)
 (ho : o.op = .call { callee := .builtin .append, args := #[s, x], argTypes := #[51, 51] }) (B : Nat) (v : Value) (n c : Nat) (gs : Nat → Nat) (e : Nat → Nat → Int) (hs : a.eval s = v) (hm : Mat B w v n c gs e)
 (ad : Addr) (hx : a.eval x = .slice (some ad) 1 1) (g : Nat) (f : Nat → Int) (h0 : w.cell? (ad.add 0) = some (.slice (some ⟨g, 0, none⟩) c c)) (hr : IRow w g c f) (hn : n ≤ 10000) (hB : B ≤ w.heap.size)
 (hK : ∀ v' w', Mat B w' v' (n + 1) c (fun i => if i = n then g else gs i) (fun i => if i = n then f else e i) → KB B w w' → w.grownBy w' v.ownBlock → (∀ k, v.ownBlock = some k → B ≤ k) → wpList Tryd.prog ops Q rest (a.put o.dst v') w') : wpList Tryd.prog ops Q (o :: rest) a w := by
 obtain ⟨i, hi, hz0, hz1, hz2⟩ := info_parts Tryd.info37'
 have hlt := World.ownsRow.lt hm.1
 have hty : ∀ k, v.ownBlock = some k → Ty w k 37 := by
  intro k hk
  rcases hm.1.2 with ⟨rfl, _⟩ | ⟨g, cap, cur, rfl, hg, hh, r⟩
  ·simp [Value.ownBlock] at hk
  ·simp [Value.ownBlock] at hk
   subst hk
   exact ⟨_, _, hh⟩
 refine wpList_append_own w hgd s x 51 ho B 37 i (.slice none 0 0) 1 24 Tryd.underlying51 hi hz0 hz1 hz2 rfl (by decide) v n (rcells n c gs) hs hm.1 ad 1 1 [rowV c g] hx rfl ?_ ?_ ?_ ?_ hB ?_
 ·intro j u hj
  match j, hj with
  | 0, hj => simp at hj; subst hj; exact h0
 ·intro u hu; simp at hu; subst hu; rfl
 ·unfold maxLen; omega
 ·omega
 ·intro v' w' k1 k2 _
  have key : ∀ (b : Nat) (f' : Nat → Int), IRow w b c f' → IRow w' b c f' := by
   intro b f' hb
   unfold IRow
   rw [k2.block b hb.lt ?_]
   ·exact hb
   ·intro e
    obtain ⟨cc, fr, h3⟩ := hty b e.symm
    unfold IRow at hb
    rw [hb] at h3
    simp at h3
  refine hK v' w' ⟨by rw [← rcells_snoc]; exact k1, fun j hj => ?_⟩ ?_ k2 (fun k hk => (hlt k hk).1)
  ·by_cases hjn : j = n
   ·simp only [hjn, if_true]; exact key _ _ hr
   ·simp only [hjn, if_false]; exact key _ _ (hm.2 j (by omega))
  ·intro b arr t hb _ h1
   rw [k2.block b (Array.getElem?_eq_some_iff.1 h1).1 ?_]
   ·exact h1
   ·intro e; have := (hlt b e.symm).1; omega
end Go.Proofs.YtfjbijpagaipnaaDoor
