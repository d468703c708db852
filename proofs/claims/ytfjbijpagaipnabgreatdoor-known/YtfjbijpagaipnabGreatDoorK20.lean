import Derived.Test.YtfjbijpagaipnabGreatDoorK04
import Derived.Test.YtfjbijpagaipnabGreatDoorK15
import Derived.Test.YtfjbijpagaipnabGreatDoorK19
import Derived.Deep.RegionHeld3
namespace Go.Proofs.YtfjbijpagaipnabGreatDoor
open Go.RowKit
def ProdTo (r q c a e : Nat) (zs ys ms : List Int) : Prop := ∀ i j, i < r → j < c → (i < a ∨ (i = a ∧ j < e)) → ms.getD (i * c + j) 0 = dot (fun i j => zs.getD (i * q + j) 0) (fun i j => ys.getD (i * c + j) 0) i j q
theorem ProdTo.step {r q c a e : Nat} {zs ys ms : List Int} (h : ProdTo r q c a e zs ys ms) (hl : ms.length = r * c) (ha : a < r) (he : e < c) {z : Int} (hz : z = dot (fun i j => zs.getD (i * q + j) 0) (fun i j => ys.getD (i * c + j) 0) a e q) : ProdTo r q c a (e + 1) zs ys (ms.set (a * c + e) z) := by
 intro i j hi hj hd
 by_cases hij : i = a ∧ j = e
 ·obtain ⟨rfl, rfl⟩ := hij
  have : i * c + j < ms.length := by rw [hl]; exact idx_lt hi hj
  rw [← hz]
  simp [List.getD, this]
 ·have hne : a * c + e ≠ i * c + j := fun e' => by
   obtain ⟨h1, h2⟩ := idx_inj he hj e'
   exact hij ⟨h1.symm, h2.symm⟩
  rw [show (ms.set (a * c + e) z).getD (i * c + j) 0 = ms.getD (i * c + j) 0 from by simp [List.getD, List.getElem?_set_ne hne]]
  exact h i j hi hj (by omega)
theorem ProdTo.row {r q c a e : Nat} {zs ys ms : List Int} (h : ProdTo r q c a e zs ys ms) (he : c ≤ e) : ProdTo r q c (a + 1) 0 zs ys ms := fun i j hi hj hd => h i j hi hj (by omega)
def ProdOf (r q c : Nat) (zs ys ms : List Int) : Prop := ∀ i j, i < r → j < c → ms.getD (i * c + j) 0 = dot (fun i j => zs.getD (i * q + j) 0) (fun i j => ys.getD (i * c + j) 0) i j q
theorem set_rc (p g r c RC row col : Nat) (hRC : RC = r * c) (zs : List Int) (L : Nat) (x : Value) (z : Int) (w : World) (p0 : w.cell? ⟨p, 0, none⟩ = some (.int .i64 r)) (p1 : w.cell? ⟨p, 1, none⟩ = some (.int .i64 c))
 (p2 : w.cell? ⟨p, 2, none⟩ = some (.slice (some ⟨g, 0, none⟩) RC RC)) (hg : Grid w (.slice (some ⟨g, 0, none⟩) RC RC) RC zs L) (hx : IsI w x z L) (hr : r ≤ 99) (hc : c ≤ 99) (h1 : row < r) (h2 : col < c) :
 Calls Tryz.prog 92 #[.pointer (some ⟨p, 0, none⟩), .int .i64 row, .int .i64 col, x] w fun e w' => e = .returned (.tuple #[]) ∧ Grid w' (.slice (some ⟨g, 0, none⟩) RC RC) RC (zs.set (row * c + col) z) L ∧ w.grownBy w' (some g) ∧ KU w w' := by
 subst hRC
 exact set_in p g r c (r * c) row col zs L x z w p0 p1 p2 hg hx hr hc h1 h2
set_option maxRecDepth 100000 in
set_option maxHeartbeats 4000000 in
theorem gtimes_new (v u : Value) (r q c : Nat) (zs ys : List Int) (L : Nat) (w : World) (hm : IsM w v r q zs L) (hn : IsM w u q c ys L) (hL : L ≤ 200000000) :
 Calls Tryz.prog 86 #[v, u] w fun e w' => ∃ g ms, e = .returned (.agg #[.int .i64 r, .int .i64 c, .slice (some ⟨g, 0, none⟩) (r * c) (r * c)]) ∧ w.heap.size ≤ g ∧ Grid w' (.slice (some ⟨g, 0, none⟩) (r * c) (r * c)) (r * c) ms (L + L + 1 + q) ∧ ProdOf r q c zs ys ms ∧ Below w.heap.size w w' := by
 have HM := Hid.mk hm
 have HN := Hid.mk hn
 obtain ⟨hr, hq, sl, rfl, hg0⟩ := hm
 obtain ⟨ao, cap, rfl, -⟩ := hg0.shape
 obtain ⟨-, hc, sl', rfl, hg1⟩ := hn
 obtain ⟨bo, dap, rfl, -⟩ := hg1.shape
 clear hg0 hg1
 obtain ⟨N, hN⟩ : ∃ N, N = r * q := ⟨_, rfl⟩
 rw [← hN] at HM ⊢
 obtain ⟨M, hM⟩ : ∃ M, M = q * c := ⟨_, rfl⟩
 rw [← hM] at HN ⊢
 clear hN hM
 obtain ⟨RC, hRC⟩ : ∃ RC, RC = r * c := ⟨_, rfl⟩
 have HRC := Hid.mk hRC
 obtain ⟨W0, hW0⟩ : ∃ W0, W0 = ((w.alloc (.cells #[.int .i64 r, .int .i64 q, .slice ao N cap] 66)).alloc (.cells #[.int .i64 q, .int .i64 c, .slice bo M dap] 66)).alloc (.cells #[.int .i64 0, .int .i64 0, .slice none 0 0] 66) := ⟨_, rfl⟩
 have hz0 : W0.heap.size = w.heap.size + 3 := by rw [hW0]; simp
 have hm0 : Trio W0 w.heap.size (.int .i64 r) (.int .i64 q) (.slice ao N cap) := by
  rw [hW0]
  exact ⟨cell1 (cell1 (new_cell _ _ _ _ _ (by simp) rfl) _) _, cell1 (cell1 (new_cell _ _ _ _ _ (by simp) rfl) _) _, cell1 (cell1 (new_cell _ _ _ _ _ (by simp) rfl) _) _⟩
 have hn0 : Trio W0 (w.heap.size + 1) (.int .i64 q) (.int .i64 c) (.slice bo M dap) := by
  rw [hW0]
  exact ⟨cell1 (new_cell _ _ _ _ _ (by simp) rfl) _, cell1 (new_cell _ _ _ _ _ (by simp) rfl) _, cell1 (new_cell _ _ _ _ _ (by simp) rfl) _⟩
 have hr0 : W0.heap[w.heap.size + 2]? = some (.cells #[.int .i64 0, .int .i64 0, .slice none 0 0] 66 (0, 0)) := by
  rw [hW0]
  have := heap_alloc_new ((w.alloc (.cells #[.int .i64 r, .int .i64 q, .slice ao N cap] 66)).alloc (.cells #[.int .i64 q, .int .i64 c, .slice bo M dap] 66)) (.cells #[.int .i64 0, .int .i64 0, .slice none 0 0] 66)
  simpa using this
 have hb0 : Below w.heap.size w W0 := by
  rw [hW0]
  repeat (first | exact Below.refl _ _ | refine Below.alloc ?_ (by simp <;> omega) _)
 have F0 := Hid.mk (And.intro hm0 (And.intro hn0 (And.intro hr0 (And.intro hb0 (And.intro hz0 hW0)))))
 clear hm0 hn0 hr0 hb0 hz0 hW0 hRC
 go_enter Tryz.func86, Tryz.ntmps86
 go_wp2_with fail
 rw [← F0.out.2.2.2.2.2]
 refine (noughts_any r c _ hr hc).mono ?_
 rintro e w2 ⟨g, rfl, hgn, hg, hb⟩
 rw [← HRC.out] at hg ⊢
 have hz0 := F0.out.2.2.2.2.1
 have hbw : Below w.heap.size w w2 := F0.out.2.2.2.1.trans (hb.mono (by omega))
 have hgl : g < w2.heap.size := hg.ty.lt
 have hw2 := hb.size
 have F2 := Hid.mk (And.intro hg (And.intro hb hbw))
 clear hg hb hbw
 go_wp2_with fail
 obtain ⟨W3, hW3⟩ : ∃ W3, W3 = w2.alloc (.cells #[.int .i64 r, .int .i64 c, .slice (some ⟨g, 0, none⟩) RC RC] 66) := ⟨_, rfl⟩
 rw [← hW3]
 have hb23 : Below w2.heap.size w2 W3 := by rw [hW3]; exact (Below.refl _ _).alloc (Nat.le_refl _) _
 have hm3 : Trio W3 w.heap.size (.int .i64 r) (.int .i64 q) (.slice ao N cap) := (F0.out.1.later F2.out.2.1).later hb23
 have hn3 : Trio W3 (w.heap.size + 1) (.int .i64 q) (.int .i64 c) (.slice bo M dap) := (F0.out.2.1.later F2.out.2.1).later hb23
 have hp3 : Trio W3 w2.heap.size (.int .i64 r) (.int .i64 c) (.slice (some ⟨g, 0, none⟩) RC RC) := by
  rw [hW3]
  exact ⟨new_cell _ _ _ _ _ rfl rfl, new_cell _ _ _ _ _ rfl rfl, new_cell _ _ _ _ _ rfl rfl⟩
 have hres : W3.heap[w.heap.size + 2]? = some (.cells #[.int .i64 0, .int .i64 0, .slice none 0 0] 66 (0, 0)) := by
  rw [hb23.block _ (by omega), F2.out.2.1.block _ (by omega)]
  exact F0.out.2.2.1
 have hG3 : Grid W3 (.slice (some ⟨g, 0, none⟩) RC RC) RC (List.replicate RC 0) (L + L + 1 + q) := (F2.out.1.mono (Nat.zero_le _)).below hb23
 have hS : W3.heap.size = w2.heap.size + 1 := by rw [hW3]; simp
 have hB3 : Below w.heap.size w W3 := F2.out.2.2.trans (hb23.mono (by omega))
 have F3 := Hid.mk (And.intro hm3 (And.intro hn3 (And.intro hp3 (And.intro hres (And.intro hG3 (And.intro hS hB3))))))
 clear hm3 hn3 hp3 hres hG3 hB3 hW3 hb23
 go_loopw [6] (fun i wr => ∃ (a : Nat) (ms : List Int), a ≤ r ∧ i = .int .i64 a ∧ Grid wr (.slice (some ⟨g, 0, none⟩) RC RC) RC ms (L + L + 1 + q) ∧ W3.grownBy wr (some g) ∧ Below w.heap.size w wr ∧ Hid (ProdTo r q c a 0 zs ys ms)) (fun i _ => r - (intOf i).toNat)
 case atStart => exact ⟨0, _, Nat.zero_le _, rfl, F3.out.2.2.2.2.1, World.grownBy.refl _ _, F3.out.2.2.2.2.2.2, Hid.mk (fun i j _ _ hd => by omega)⟩
 case round =>
  obtain ⟨a, ms, ha, rfl, hG, hgr, hB, HI⟩ := hrel
  obtain ⟨q0, q1, q2⟩ := F3.out.1.grown hgr (by omega)
  have K := Hid.mk (And.intro hG (And.intro hgr hB))
  clear hG hgr hB
  by_cases har : a < r
  ·have hai : (a : Int) < (r : Int) := by omega
   go_wp2_with fail
   go_loopw [7] (fun i ws => ∃ (e : Nat) (ms : List Int), e ≤ c ∧ i = .int .i64 e ∧ Grid ws (.slice (some ⟨g, 0, none⟩) RC RC) RC ms (L + L + 1 + q) ∧ W3.grownBy ws (some g) ∧ Below w.heap.size w ws ∧ Hid (ProdTo r q c a e zs ys ms)) (fun i _ => c - (intOf i).toNat)
   case atStart => exact ⟨0, ms, Nat.zero_le _, rfl, K.out.1, K.out.2.1, K.out.2.2, HI⟩
   case round =>
    rename World => ws
    clear q0 q1 q2
    obtain ⟨e, ms, he, rfl, hG, hgr, hB, HI2⟩ := hrel
    obtain ⟨q0, q1, q2⟩ := F3.out.1.grown hgr (by omega)
    obtain ⟨p0, p1, p2⟩ := F3.out.2.1.grown hgr (by omega)
    have hwr := hB.size
    have K2 := Hid.mk (And.intro hG (And.intro hgr hB))
    clear hG hgr hB
    by_cases hec : e < c
    ·have hei : (e : Int) < (c : Int) := by omega
     go_wp2_with fail
     refine (dotm_any _ _ r q c a e zs ys L _ (HM.out.below K2.out.2.2) (HN.out.below K2.out.2.2) har hec hL).mono ?_
     rintro e9 w4 ⟨x, rfl, hx, hb4⟩
     obtain ⟨nb, so, n, ecap, rfl⟩ := hx.shape
     have hw4 := hb4.size
     have W5b := (Below.refl w4.heap.size w4).alloc (Nat.le_refl _) (.cells #[.bool nb, .slice so n ecap] 79)
     have hbA : Below ws.heap.size ws (w4.alloc (.cells #[.bool nb, .slice so n ecap] 79)) := hb4.trans (W5b.mono hw4)
     have hgrA := grown_below K2.out.2.1 hbA
     obtain ⟨s0, s1, s2⟩ := F3.out.2.2.1.grown hgrA (by omega)
     have K4 := Hid.mk (And.intro (And.intro s0 (And.intro s1 s2)) (And.intro (K2.out.1.below hbA) (And.intro (hx.below W5b) (And.intro hgrA (K2.out.2.2.trans (hbA.mono hwr))))))
     clear hx hb4 W5b hbA hgrA q0 q1 q2 p0 p1 p2
     go_wp2_with fail
     refine (set_rc w2.heap.size g r c RC a e HRC.out ms (L + L + 1 + q) _ _ _ K4.out.1.1 K4.out.1.2.1 K4.out.1.2.2 K4.out.2.1 K4.out.2.2.1 (by omega) (by omega) (by omega) (by omega)).mono ?_
     rintro e9 w6 ⟨rfl, a1, a2, -⟩
     have K6 := Hid.mk (And.intro a1 (And.intro (grown_trans K4.out.2.2.2.1 a2) (K4.out.2.2.2.2.grown a2 (by simp; omega) (fun j hj => by simp at hj; omega))))
     clear a1 a2 s0 s1 s2
     go_wp2_with fail
     go_roundw
     case measure => simp [intOf]; omega
     case rel =>
      refine ⟨e + 1, _, by omega, by go_num, K6.out.1, K6.out.2.1, K6.out.2.2, Hid.mk (HI2.out.step ?_ har hec rfl)⟩
      rw [← HRC.out]
      exact K2.out.1.1
    ·go_wp2_with fail
     go_roundw
     case measure => simp [intOf]; omega
     case rel => exact ⟨a + 1, ms, by omega, by go_num, K2.out.1, K2.out.2.1, K2.out.2.2, Hid.mk (HI2.out.row (by omega))⟩
  ·obtain ⟨s0, s1, s2⟩ := F3.out.2.2.1.grown K.out.2.1 (by omega)
   have hres : wr.heap[w.heap.size + 2]? = some (.cells #[.int .i64 0, .int .i64 0, .slice none 0 0] 66 (0, 0)) := by
    rw [K.out.2.1.block _ (by have := F3.out.2.2.2.2.2.1; omega) (by simp; omega)]; exact F3.out.2.2.2.1
   have r0 : wr.cell? ⟨w.heap.size + 1 + 1, 0, none⟩ = some (.int .i64 0) := by simp [World.cell?, hres]
   have r1 : wr.cell? ⟨w.heap.size + 1 + 1, 1, none⟩ = some (.int .i64 0) := by simp [World.cell?, hres]
   have r2 : wr.cell? ⟨w.heap.size + 1 + 1, 2, none⟩ = some (.slice none 0 0) := by simp [World.cell?, hres]
   have z0 : wr.frozen? ⟨w.heap.size + 1 + 1, 0, none⟩ = false := by simp [World.frozen?, hres]
   have z1 : wr.frozen? ⟨w.heap.size + 1 + 1, 1, none⟩ = false := by simp [World.frozen?, hres]
   have z2 : wr.frozen? ⟨w.heap.size + 1 + 1, 2, none⟩ = false := by simp [World.frozen?, hres]
   have HT : Hid (Ty wr (w.heap.size + 1 + 1) 66) := Hid.mk ⟨_, _, hres⟩
   clear hres
   go_wp2_with fail
   refine bodyPost_ret (v := .agg #[.int .i64 r, .int .i64 c, .slice (some ⟨g, 0, none⟩) RC RC]) ?_ rfl ?_
   ·(simp [results, Tryz.results86, go_sem, r0, r1, r2]; done)
   ·refine ⟨g, ms, by rw [← HRC.out], by omega, ?_, fun i j hi hj => HI.out i j hi hj (.inl (by omega)), ((K.out.2.2.setCell (by simp; omega) _).setCell (by simp; omega) _).setCell (by simp; omega) _⟩
    have hG := K.out.1.keep (KT.setCell (KT.setCell (KT.setCell (KT.refl _) HT.out (by decide) (by decide) (.int .i64 r)) (HT.out.setCell ⟨w.heap.size + 1 + 1, 0, none⟩ (.int .i64 r)) (by decide) (by decide) (.int .i64 c)) ((HT.out.setCell ⟨w.heap.size + 1 + 1, 0, none⟩ (.int .i64 r)).setCell ⟨w.heap.size + 1 + 1, 1, none⟩ (.int .i64 c)) (by decide) (by decide) (.slice (some ⟨g, 0, none⟩) RC RC) (o := 2))
    rw [← HRC.out]
    exact hG
theorem gtimes_any (v u : Value) (r q c : Nat) (zs ys : List Int) (L : Nat) (w : World) (hm : IsM w v r q zs L) (hn : IsM w u q c ys L) (hL : L ≤ 200000000) :
 Calls Tryz.prog 86 #[v, u] w fun e w' => ∃ x, e = .returned x ∧ (∃ ms, IsM w' x r c ms (L + L + 1 + q) ∧ ProdOf r q c zs ys ms) ∧ Below w.heap.size w w' := by
 refine (gtimes_new v u r q c zs ys L w hm hn hL).mono ?_
 rintro e w' ⟨g, ms, rfl, -, hG, hP, hb⟩
 exact ⟨_, rfl, ⟨ms, ⟨hm.1, hn.2.1, _, rfl, hG⟩, hP⟩, hb⟩
open Go.RowKit
def DgM (w : World) (p r c : Nat) (sD sU sS sV sT : Value) : Prop := w.heap[p]? = some (.cells #[.int .i64 r, .int .i64 c, sD, .int .i64 r, .int .i64 r, sU, .int .i64 r, .int .i64 r, sS, .int .i64 c, .int .i64 c, sV, .int .i64 c, .int .i64 c, sT] 83 (0, 0))
theorem DgM.lt {w : World} {p r c : Nat} {sD sU sS sV sT : Value} (h : DgM w p r c sD sU sS sV sT) : p < w.heap.size := (Array.getElem?_eq_some_iff.1 h).1
theorem DgM.ty {w : World} {p r c : Nat} {sD sU sS sV sT : Value} (h : DgM w p r c sD sU sS sV sT) : Ty w p 83 := ⟨_, _, h⟩
theorem DgM.below {w w' : World} {p r c n : Nat} {sD sU sS sV sT : Value} (h : DgM w p r c sD sU sS sV sT) (hb : Below n w w') (hn : p < n) : DgM w' p r c sD sU sS sV sT := (hb.block p hn).trans h
theorem DgM.cells {w : World} {p r c : Nat} {sD sU sS sV sT : Value} (h : DgM w p r c sD sU sS sV sT) :
 w.cell? ⟨p, 0, none⟩ = some (.int .i64 r) ∧ w.cell? ⟨p, 1, none⟩ = some (.int .i64 c) ∧ w.cell? ⟨p, 2, none⟩ = some (sD) ∧ w.cell? ⟨p, 3, none⟩ = some (.int .i64 r) ∧ w.cell? ⟨p, 4, none⟩ = some (.int .i64 r) ∧ w.cell? ⟨p, 5, none⟩ = some (sU) ∧ w.cell? ⟨p, 6, none⟩ = some (.int .i64 r) ∧ w.cell? ⟨p, 7, none⟩ = some (.int .i64 r) ∧ w.cell? ⟨p, 8, none⟩ = some (sS) ∧ w.cell? ⟨p, 9, none⟩ = some (.int .i64 c) ∧ w.cell? ⟨p, 10, none⟩ = some (.int .i64 c) ∧ w.cell? ⟨p, 11, none⟩ = some (sV) ∧ w.cell? ⟨p, 12, none⟩ = some (.int .i64 c) ∧ w.cell? ⟨p, 13, none⟩ = some (.int .i64 c) ∧ w.cell? ⟨p, 14, none⟩ = some (sT) ∧ ∀ o, w.frozen? ⟨p, o, none⟩ = false := by
 unfold DgM at h
 refine ⟨?_, ?_, ?_, ?_, ?_, ?_, ?_, ?_, ?_, ?_, ?_, ?_, ?_, ?_, ?_, fun o => ?_⟩ <;> simp [World.cell?, World.frozen?, h]
abbrev put3 (w : World) (p o : Nat) (x y z : Value) : World := ((w.setCell ⟨p, o, none⟩ x).setCell ⟨p, o + 1, none⟩ y).setCell ⟨p, o + 2, none⟩ z
theorem put3_block {w : World} {p o : Nat} {xs : Array Value} {t : TypeId} (h : w.heap[p]? = some (.cells xs t (0, 0))) (x y z : Value) : (put3 w p o x y z).heap[p]? = some (.cells (((xs.setIfInBounds o x).setIfInBounds (o + 1) y).setIfInBounds (o + 2) z) t (0, 0)) := by
 rw [heap_setCell_same _ _ _ _ _ _ (heap_setCell_same _ _ _ _ _ _ (heap_setCell_same _ _ _ _ _ _ h))]
theorem put3_fr {w : World} {p : Nat} {t : TypeId} (ht : Ty w p t) (h1 : t ≠ 144) (h2 : t ≠ 79) (o : Nat) (x y z : Value) : Fr p w (put3 w p o x y z) :=
 ⟨grown_trans (grown_trans (grown_cell _ _ _ _) (grown_cell _ _ _ _)) (grown_cell _ _ _ _), KT.setCell (KT.setCell (KT.setCell (KT.refl _) ht h1 h2 x) (ht.setCell ⟨p, o, none⟩ x) h1 h2 y) ((ht.setCell ⟨p, o, none⟩ x).setCell ⟨p, o + 1, none⟩ y) h1 h2 z⟩
theorem DgM.putD {w : World} {p r c : Nat} {sD sU sS sV sT : Value} (h : DgM w p r c sD sU sS sV sT) (s : Value) : DgM (put3 w p 0 (.int .i64 r) (.int .i64 c) s) p r c s sU sS sV sT := (put3_block h _ _ _).trans rfl
theorem DgM.putU {w : World} {p r c : Nat} {sD sU sS sV sT : Value} (h : DgM w p r c sD sU sS sV sT) (s : Value) : DgM (put3 w p 3 (.int .i64 r) (.int .i64 r) s) p r c sD s sS sV sT := (put3_block h _ _ _).trans rfl
theorem DgM.putS {w : World} {p r c : Nat} {sD sU sS sV sT : Value} (h : DgM w p r c sD sU sS sV sT) (s : Value) : DgM (put3 w p 6 (.int .i64 r) (.int .i64 r) s) p r c sD sU s sV sT := (put3_block h _ _ _).trans rfl
theorem DgM.putV {w : World} {p r c : Nat} {sD sU sS sV sT : Value} (h : DgM w p r c sD sU sS sV sT) (s : Value) : DgM (put3 w p 9 (.int .i64 c) (.int .i64 c) s) p r c sD sU sS s sT := (put3_block h _ _ _).trans rfl
theorem DgM.putT {w : World} {p r c : Nat} {sD sU sS sV sT : Value} (h : DgM w p r c sD sU sS sV sT) (s : Value) : DgM (put3 w p 12 (.int .i64 c) (.int .i64 c) s) p r c sD sU sS sV s := (put3_block h _ _ _).trans rfl
def RfM (w : World) (q r c k : Nat) (sH sA sB : Value) : Prop := w.heap[q]? = some (.cells #[.int .i64 r, .int .i64 c, sH, .int .i64 r, .int .i64 r, sA, .int .i64 r, .int .i64 r, sB, .int .i64 k] 74 (0, 0))
theorem RfM.lt {w : World} {q r c k : Nat} {sH sA sB : Value} (h : RfM w q r c k sH sA sB) : q < w.heap.size := (Array.getElem?_eq_some_iff.1 h).1
theorem RfM.below {w w' : World} {q r c k n : Nat} {sH sA sB : Value} (h : RfM w q r c k sH sA sB) (hb : Below n w w') (hn : q < n) : RfM w' q r c k sH sA sB := (hb.block q hn).trans h
theorem RfM.fr {w w' : World} {p q r c k : Nat} {sH sA sB : Value} (h : RfM w q r c k sH sA sB) (hf : Fr p w w') (hn : q ≠ p) : RfM w' q r c k sH sA sB := (hf.1.block q h.lt (by simpa using hn)).trans h
theorem RfM.cells {w : World} {q r c k : Nat} {sH sA sB : Value} (h : RfM w q r c k sH sA sB) : w.cell? ⟨q, 0, none⟩ = some (.int .i64 r) ∧ w.cell? ⟨q, 1, none⟩ = some (.int .i64 c) ∧ w.cell? ⟨q, 2, none⟩ = some sH ∧ w.cell? ⟨q, 3, none⟩ = some (.int .i64 r) ∧ w.cell? ⟨q, 4, none⟩ = some (.int .i64 r) ∧ w.cell? ⟨q, 5, none⟩ = some sA ∧ w.cell? ⟨q, 6, none⟩ = some (.int .i64 r) ∧ w.cell? ⟨q, 7, none⟩ = some (.int .i64 r) ∧ w.cell? ⟨q, 8, none⟩ = some sB := by
 unfold RfM at h
 refine ⟨?_, ?_, ?_, ?_, ?_, ?_, ?_, ?_, ?_⟩ <;> simp [World.cell?, h]
theorem IsM.fr {w w' : World} {v : Value} {r c L p : Nat} {zs : List Int} (h : IsM w v r c zs L) (hf : Fr p w w') : IsM w' v r c zs L := h.keepT hf.2
theorem IsM.lng {w : World} {v : Value} {r c L : Nat} {zs : List Int} (h : IsM w v r c zs L) : zs.length = r * c := by
 obtain ⟨_, _, sl, _, h3⟩ := h
 exact h3.1
theorem DgM.put {w : World} {p r c : Nat} {sD sU sS sV sT : Value} (h : DgM w p r c sD sU sS sV sT) (o : Nat) (x y z : Value) : Fr p w (put3 w p o x y z) := put3_fr h.ty (by decide) (by decide) o x y z
theorem dot_bits {X Y : Nat → Nat → Int} {i j u x : Nat} : ∀ n, n ≤ 8 → (∀ k, k < n → (X i k).natAbs < 2 ^ u) → (∀ k, k < n → (Y k j).natAbs < 2 ^ x) → (dot X Y i j n).natAbs < 2 ^ (x + u + 4) := by
 intro n hn h1 h2
 have key : ∀ m, m ≤ n → (dot X Y i j m).natAbs ≤ m * 2 ^ (x + u) := by
  intro m
  induction m with
  | zero => intro _; simp [dot]
  | succ m ih =>
    intro hm
    rw [dot, Nat.succ_mul]
    have e1 := ih (by omega)
    have e2 : (X i m * Y m j).natAbs ≤ 2 ^ (x + u) := by
     rw [Int.natAbs_mul, Nat.pow_add, Nat.mul_comm]
     exact Nat.mul_le_mul (Nat.le_of_lt (h2 m (by omega))) (Nat.le_of_lt (h1 m (by omega)))
    omega
 have h3 := key n (Nat.le_refl _)
 have h4 : n * 2 ^ (x + u) ≤ 8 * 2 ^ (x + u) := Nat.mul_le_mul_right _ hn
 have h5 : 2 ^ (x + u + 4) = 16 * 2 ^ (x + u) := by rw [Nat.pow_add]; omega
 have h6 : 0 < 2 ^ (x + u) := Nat.pow_pos (by decide)
 omega
def BitsTo (n : Nat) (xs ys : List Int) (u : Nat) : Prop := ∀ x, (∀ i j, i < n → j < n → (ent n xs i j).natAbs < 2 ^ x) → ∀ i j, i < n → j < n → (ent n ys i j).natAbs < 2 ^ (x + u + 4)
theorem pow_up {z u v : Nat} (h : z < 2 ^ u) (huv : u ≤ v) : z < 2 ^ v := Nat.lt_of_lt_of_le h (Nat.pow_le_pow_right (by decide) huv)
def RowsTo (r c : Nat) (ds us ss ds' us' ss' : List Int) : Prop := ∃ k a b, EcTo r c (ent c ds) c k (e3 r c ds' a b) ∧ a.length = r * r ∧ b.length = r * r ∧ ds'.length = r * c ∧ us'.length = r * r ∧ ss'.length = r * r ∧ ProdOf r r r a us us' ∧ ProdOf r r r ss b ss' ∧
 (∃ pc, EchSt r c k pc (ent c ds')) ∧ EInv (ent c ds) (ent c ds') (ent r a) (ent r b) r c
set_option maxRecDepth 100000 in
set_option maxHeartbeats 4000000 in
theorem formRows_any (p r c : Nat) (oD oU oS : Option Addr) (nD nU nS cD cU cS : Nat) (sV sT : Value) (ds us ss : List Int) (β L K : Nat) (w : World) (hp : DgM w p r c (.slice oD nD cD) (.slice oU nU cU) (.slice oS nS cS) sV sT)
 (hD : IsM w (.agg #[.int .i64 r, .int .i64 c, .slice oD nD cD]) r c ds L) (hU : IsM w (.agg #[.int .i64 r, .int .i64 r, .slice oU nU cU]) r r us K) (hS : IsM w (.agg #[.int .i64 r, .int .i64 r, .slice oS nS cS]) r r ss K)
 (hr : r ≤ 8) (hc : c ≤ 8) (hβ : ∀ i j, i < r → j < c → (ent c ds i j).natAbs < 2 ^ β) (hL : L ≤ 60000000) (h1 : hB r β c ≤ 32 * L) (h2 : uB r β c ≤ 32 * L) (hLK : L ≤ K) (hK : K ≤ 200000000) :
 Calls Tryz.prog 71 #[.pointer (some ⟨p, 0, none⟩)] w fun e w' => e = .returned (.tuple #[]) ∧ ∃ (oD' oU' oS' : Option Addr) (nD' nU' nS' cD' cU' cS' : Nat) (ds' us' ss' : List Int), DgM w' p r c (.slice oD' nD' cD') (.slice oU' nU' cU') (.slice oS' nS' cS') sV sT ∧
  IsM w' (.agg #[.int .i64 r, .int .i64 c, .slice oD' nD' cD']) r c ds' L ∧ IsM w' (.agg #[.int .i64 r, .int .i64 r, .slice oU' nU' cU']) r r us' (K + K + 1 + r) ∧ IsM w' (.agg #[.int .i64 r, .int .i64 r, .slice oS' nS' cS']) r r ss' (K + K + 1 + r) ∧ RowsTo r c ds us ss ds' us' ss' ∧ Fr p w w' ∧ (∀ i j, i < r → j < c → (ent c ds' i j).natAbs < 2 ^ hB r β c) ∧ BitsTo r us us' (uB r β c) ∧ BitsTo r ss ss' (uB r β c) := by
 have H := Hid.mk (And.intro hp (And.intro hD (And.intro hU hS)))
 obtain ⟨x0, x1, x2, -⟩ := hp.cells
 have hpl := hp.lt
 clear hp hD hU hS
 go_enter Tryz.func71, Tryz.ntmps71
 go_wp2_with fail
 refine (gech_any _ r c ds β L _ H.out.2.1 hr hc hβ hL h1 h2).mono ?_
 rintro e w1 ⟨v, k, pc, hs, as1, bs, rfl, hIF, hst, hE, hEB, hb1, hrun⟩
 obtain ⟨sH, sA, sB, rfl, mH, mA, mB⟩ := hIF
 obtain ⟨oH, cH, rfl⟩ := mH.slice
 obtain ⟨oA, cA, rfl⟩ := mA.slice
 obtain ⟨oB, cB, rfl⟩ := mB.slice
 obtain ⟨NH, hNH⟩ : ∃ NH, NH = r * c := ⟨_, rfl⟩
 obtain ⟨NA, hNA⟩ : ∃ NA, NA = r * r := ⟨_, rfl⟩
 rw [← hNH] at mH ⊢
 rw [← hNA] at mA mB ⊢
 have HN := Hid.mk (And.intro hNH hNA)
 clear hNH hNA
 have hb11 := (Below.refl w1.heap.size w1).alloc (Nat.le_refl _) (.cells #[.int .i64 r, .int .i64 c, .slice oH NH cH, .int .i64 r, .int .i64 r, .slice oA NA cA, .int .i64 r, .int .i64 r, .slice oB NA cB, .int .i64 k] 74)
 have hb12 := hb1.trans (hb11.mono hb1.size)
 have hw1 := hb1.size
 have hp1 := H.out.1.below hb12 hpl
 obtain ⟨z0, z1, z2, -, -, -, -, -, -, -, -, -, -, -, -, zf⟩ := hp1.cells
 have hne : p ≠ w1.heap.size := by omega
 have hR1 : RfM (w1.alloc (.cells #[.int .i64 r, .int .i64 c, .slice oH NH cH, .int .i64 r, .int .i64 r, .slice oA NA cA, .int .i64 r, .int .i64 r, .slice oB NA cB, .int .i64 k] 74)) w1.heap.size r c k (.slice oH NH cH) (.slice oA NA cA) (.slice oB NA cB) := heap_alloc_new w1 _
 have hfA := hp1.put 0 (.int .i64 r) (.int .i64 c) (.slice oH NH cH)
 have hF0 : Fr p w (w1.alloc (.cells #[.int .i64 r, .int .i64 c, .slice oH NH cH, .int .i64 r, .int .i64 r, .slice oA NA cA, .int .i64 r, .int .i64 r, .slice oB NA cB, .int .i64 k] 74)) := Fr.of_below hb12
 have K1 := Hid.mk (And.intro ((mH.below hb11).fr hfA) (And.intro ((mA.below hb11).fr hfA) (And.intro ((mB.below hb11).fr hfA) (And.intro (hp1.putD (.slice oH NH cH)) (And.intro (hR1.fr hfA (Ne.symm hne)) (hF0.trans hfA))))))
 have KM := Hid.mk (And.intro hst (And.intro hE (And.intro hrun hEB)))
 clear mH mA mB hst hE hrun hEB hb1 hb11 hb12 hp1 x0 x1 x2 hR1 hfA hF0
 go_wp2_with fail
 obtain ⟨X, hX⟩ : ∃ X, X = put3 (w1.alloc (.cells #[.int .i64 r, .int .i64 c, .slice oH NH cH, .int .i64 r, .int .i64 r, .slice oA NA cA, .int .i64 r, .int .i64 r, .slice oB NA cB, .int .i64 k] 74)) p 0 (.int .i64 r) (.int .i64 c) (.slice oH NH cH) := ⟨_, rfl⟩
 rw [← hX] at K1
 simp only [put3, Nat.zero_add] at hX
 rw [← hX]
 clear hX z0 z1 z2 zf
 have hplX := K1.out.2.2.2.1.lt
 have HC := Hid.mk (show ∀ w', Below X.heap.size X w' → w'.cell? ⟨w1.heap.size, 3, none⟩ = some (.int .i64 r) ∧ w'.cell? ⟨w1.heap.size, 4, none⟩ = some (.int .i64 r) ∧ w'.cell? ⟨w1.heap.size, 5, none⟩ = some (.slice oA NA cA) ∧ w'.cell? ⟨p, 3, none⟩ = some (.int .i64 r) ∧ w'.cell? ⟨p, 4, none⟩ = some (.int .i64 r) ∧ w'.cell? ⟨p, 5, none⟩ = some (.slice oU nU cU) from fun w' hb => by
  obtain ⟨-, -, -, z3, z4, z5, -⟩ := (K1.out.2.2.2.1.below hb hplX).cells
  obtain ⟨-, -, -, y3, y4, y5, -⟩ := (K1.out.2.2.2.2.1.below hb K1.out.2.2.2.2.1.lt).cells
  exact ⟨y3, y4, y5, z3, z4, z5⟩)
 obtain ⟨y3, y4, y5, z3, z4, z5⟩ := HC.out X (Below.refl _ _)
 go_region_with (go_at_call 86; refine (gtimes_any _ _ r r r as1 us K _ ((K1.out.2.1.below (Below.refl _ _).drew).mono hLK) ((H.out.2.2.1.fr K1.out.2.2.2.2.2).below (Below.refl _ _).drew) hK).mono ?_; rintro e w2 ⟨v2, rfl, ⟨us2, hM2, hP2⟩, hb2⟩; obtain ⟨-, -, s2, rfl, hg2⟩ := id hM2; obtain ⟨o2, c2, rfl, -⟩ := hg2.shape; have hbX2 : Below X.heap.size X w2 := ((Below.refl _ _).drew).trans hb2; have hz2 := (K1.out.2.2.2.1.below hbX2 hplX).cells; clear hb2 hg2)
 all_goals
  have hp2 := K1.out.2.2.2.1.below hbX2 hplX
  have hf2 := hp2.put 3 (.int .i64 r) (.int .i64 r) (.slice o2 (r * r) c2)
  have hq2 := (K1.out.2.2.2.2.1.below hbX2 K1.out.2.2.2.2.1.lt).fr hf2 (Ne.symm hne)
  have hF2 : Fr p X (put3 w2 p 3 (.int .i64 r) (.int .i64 r) (.slice o2 (r * r) c2)) := (Fr.of_below hbX2).trans hf2
  have K2 := Hid.mk (And.intro (hM2.fr hf2) (And.intro hP2 (And.intro (show DgM (put3 w2 p 3 (.int .i64 r) (.int .i64 r) (.slice o2 (r * r) c2)) p r c (.slice oH NH cH) (.slice o2 (r * r) c2) (.slice oS nS cS) sV sT from hp2.putU _) (And.intro hq2 hF2))))
  clear hM2 hP2 hbX2 hp2 hf2 hq2 hF2 hz2 y3 y4 y5 z3 z4 z5
  go_wp2_with fail
  obtain ⟨Y, hY⟩ : ∃ Y, Y = put3 w2 p 3 (.int .i64 r) (.int .i64 r) (.slice o2 (r * r) c2) := ⟨_, rfl⟩
  rw [← hY] at K2
  simp only [put3, Nat.reduceAdd] at hY
  rw [← hY]
  clear hY
  have hplY := K2.out.2.2.1.lt
  obtain ⟨-, -, -, -, -, -, z6, z7, z8, -⟩ := K2.out.2.2.1.cells
  obtain ⟨-, -, -, -, -, -, y6, y7, y8⟩ := K2.out.2.2.2.1.cells
  go_region_with (go_at_call 86; refine (gtimes_any _ _ r r r ss bs K _ (((H.out.2.2.2.fr K1.out.2.2.2.2.2).fr K2.out.2.2.2.2).below (Below.refl _ _).drew) (((K1.out.2.2.1.fr K2.out.2.2.2.2).below (Below.refl _ _).drew).mono hLK) hK).mono ?_; rintro e w3 ⟨v3, rfl, ⟨ss2, hM3, hP3⟩, hb3⟩; obtain ⟨-, -, s3, rfl, hg3⟩ := id hM3; obtain ⟨o3, c3, rfl, -⟩ := hg3.shape; have hbY3 : Below Y.heap.size Y w3 := ((Below.refl _ _).drew).trans hb3; have hz3 := (K2.out.2.2.1.below hbY3 hplY).cells; clear hb3 hg3)
  all_goals
   have hp3 := K2.out.2.2.1.below hbY3 hplY
   have hf3 := hp3.put 6 (.int .i64 r) (.int .i64 r) (.slice o3 (r * r) c3)
   have hF3 : Fr p Y (put3 w3 p 6 (.int .i64 r) (.int .i64 r) (.slice o3 (r * r) c3)) := (Fr.of_below hbY3).trans hf3
   have K3 := Hid.mk (And.intro (hM3.fr hf3) (And.intro hP3 (And.intro (show DgM (put3 w3 p 6 (.int .i64 r) (.int .i64 r) (.slice o3 (r * r) c3)) p r c (.slice oH NH cH) (.slice o2 (r * r) c2) (.slice o3 (r * r) c3) sV sT from hp3.putS _) hF3)))
   clear hM3 hP3 hbY3 hp3 hf3 hF3 hz3 y6 y7 y8 z6 z7 z8
   go_wp2_with fail
   go_end0
   refine ⟨rfl, _, _, _, _, _, _, _, _, _, hs, us2, ss2, K3.out.2.2.1, ?_, (K2.out.1).fr K3.out.2.2.2, K3.out.1, ⟨k, as1, bs, KM.out.2.2.1, ?_, ?_, ?_, ?_, ?_, K2.out.2.1, K3.out.2.1, ⟨pc, KM.out.1⟩, KM.out.2.1⟩, (K1.out.2.2.2.2.2.trans K2.out.2.2.2.2).trans K3.out.2.2.2, fun i j hi hj => pow_up (KM.out.2.2.2.h i j hi hj) (hB_mono r β KM.out.1.te), fun x hx i j hi hj => ?_, fun x hx i j hi hj => ?_⟩
   ·exact (K1.out.1.fr K2.out.2.2.2.2).fr K3.out.2.2.2
   ·exact K1.out.2.1.lng
   ·exact K1.out.2.2.1.lng
   ·exact K1.out.1.lng
   ·exact K2.out.1.lng
   ·exact K3.out.1.lng
   ·rw [show ent r us2 i j = dot (ent r as1) (ent r us) i j r from K2.out.2.1 i j hi hj]
    exact dot_bits r hr (fun l hl => pow_up (KM.out.2.2.2.u i l hi hl) (uB_mono r β KM.out.1.te)) (fun l hl => hx l j hl hj)
   ·rw [show ent r ss2 i j = dot (ent r ss) (ent r bs) i j r from K3.out.2.1 i j hi hj, show x + uB r β c + 4 = uB r β c + x + 4 by omega]
    exact dot_bits r hr (fun l hl => hx i l hi hl) (fun l hl => pow_up (KM.out.2.2.2.w l j hl hj) (uB_mono r β KM.out.1.te))
end Go.Proofs.YtfjbijpagaipnabGreatDoor
