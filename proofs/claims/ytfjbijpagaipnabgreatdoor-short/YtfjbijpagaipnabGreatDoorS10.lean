import Derived.Test.YtfjbijpagaipnabGreatDoorS03
import Derived.Test.YtfjbijpagaipnabGreatDoorS01
import Derived.Test.YtfjbijpagaipnabGreatDoorS09
import Derived.Deep.RegionLawGrows
import Derived.Deep.RegionHeld3
namespace Go.Proofs.YtfjbijpagaipnabGreatDoor
open Go.RowKit
theorem new_cell (w : World) (c : Array Value) (t : TypeId) (i b : Nat) {v : Value} (hb : b = w.heap.size) (h : c[i]? = some v) : (w.alloc (.cells c t)).cell? ⟨b, i, none⟩ = some v := by
 rw [hb, World.cell?_alloc_new]; exact h
theorem new_frozen (w : World) (c : Array Value) (t : TypeId) (i b : Nat) (hb : b = w.heap.size) : (w.alloc (.cells c t)).frozen? ⟨b, i, none⟩ = false := by
 rw [hb]; exact World.frozen?_alloc_new _ _ _ _
def Duo (w : World) (b : Nat) (x y : Value) : Prop := w.heap[b]? = some (.cells #[x, y] 79 (0, 0))
theorem Duo.below {B : Nat} {w w' : World} {b : Nat} {x y : Value} (h : Duo w b x y) (hb : Below B w w') (hB : b < B) : Duo w' b x y := by unfold Duo; rw [hb.block b hB]; exact h
theorem Duo.new (w : World) (x y : Value) {b : Nat} (hb : b = w.heap.size) : Duo (w.alloc (.cells #[x, y] 79)) b x y := by rw [hb]; exact heap_alloc_new w _
theorem Duo.drew {w : World} {b : Nat} {x y : Value} (h : Duo w b x y) : Duo w.drew b x y := h
theorem Duo.put {w : World} {b : Nat} {x y : Value} (h : Duo w b x y) (x' y' : Value) : Duo ((w.setCell ⟨b, 0, none⟩ x').setCell ⟨b, 1, none⟩ y') b x' y' := by
 unfold Duo at *
 rw [heap_setCell_same _ _ _ _ _ _ (heap_setCell_same _ _ _ _ _ _ h)]
 simp
theorem Duo.ty {w : World} {b : Nat} {x y : Value} (h : Duo w b x y) : Ty w b 79 := ⟨_, _, h⟩
theorem Duo.cells {w : World} {b : Nat} {x y : Value} (h : Duo w b x y) : w.cell? ⟨b, 0, none⟩ = some x ∧ w.cell? ⟨b, 1, none⟩ = some y ∧ w.frozen? ⟨b, 0, none⟩ = false ∧ w.frozen? ⟨b, 1, none⟩ = false := by
 unfold Duo at h
 refine ⟨?_, ?_, ?_, ?_⟩ <;> simp [World.cell?, World.frozen?, h]
theorem IsI.duo {w : World} {v : Value} {z : Int} {L b : Nat} {x y : Value} (h : IsI w v z L) (hd : Duo w b x y) (x' y' : Value) : IsI ((w.setCell ⟨b, 0, none⟩ x').setCell ⟨b, 1, none⟩ y') v z L := h.keep (KU.setCell (KU.setCell (KU.refl _) hd.ty (by decide) _) (hd.ty.setCell _ _) (by decide) _)
theorem grown_new {W w : World} {row : Option Nat} {p i j : Nat} {x y : Value} (h : W.grownBy w row) (hp : W.heap.size ≤ p) : W.grownBy ((w.setCell ⟨p, i, none⟩ x).setCell ⟨p, j, none⟩ y) row := by
 refine ⟨h.os, h.tape, h.output, by have := h.size; simp [World.setCell]; omega, fun k hk hne => ?_⟩
 rw [Below.heap_setCell _ _ _ _ (by simp; omega), Below.heap_setCell _ _ _ _ (by simp; omega)]
 exact h.block k hk hne
theorem grown_put2 {W w : World} {b i j : Nat} {x y : Value} (h : W.grownBy w (some b)) : W.grownBy ((w.setCell ⟨b, i, none⟩ x).setCell ⟨b, j, none⟩ y) (some b) := by
 refine grown_trans h ⟨rfl, rfl, rfl, by simp [World.setCell], fun k _ hne => ?_⟩
 rw [Below.heap_setCell _ _ _ _ (fun e => hne (by simp [e])), Below.heap_setCell _ _ _ _ (fun e => hne (by simp [e]))]
def dot (f g : Nat → Nat → Int) (i j : Nat) : Nat → Int
 | 0 => 0
 | t + 1 => dot f g i j t + f i t * g t j
theorem dot_congr {f g f' g' : Nat → Nat → Int} {i j : Nat} (t : Nat) (h1 : ∀ k, k < t → f i k = f' i k) (h2 : ∀ k, k < t → g k j = g' k j) : dot f g i j t = dot f' g' i j t := by
 induction t with
 | zero => rfl
 | succ t ih => rw [dot, dot, ih (fun k hk => h1 k (by omega)) (fun k hk => h2 k (by omega)), h1 t (by omega), h2 t (by omega)]
open Go.RowKit
def Trio (w : World) (b : Nat) (x y z : Value) : Prop := w.cell? ⟨b, 0, none⟩ = some x ∧ w.cell? ⟨b, 1, none⟩ = some y ∧ w.cell? ⟨b, 2, none⟩ = some z
theorem Trio.later {w w' : World} {b : Nat} {x y z : Value} (h : Trio w b x y z) (hb : Below w.heap.size w w') : Trio w' b x y z := ⟨cell_later hb h.1, cell_later hb h.2.1, cell_later hb h.2.2⟩
theorem Trio.grown {w w' : World} {b s : Nat} {x y z : Value} (h : Trio w b x y z) (hg : w.grownBy w' (some s)) (hne : b ≠ s) : Trio w' b x y z := ⟨hg.cell h.1 (by simpa using hne), hg.cell h.2.1 (by simpa using hne), hg.cell h.2.2 (by simpa using hne)⟩
set_option maxRecDepth 100000 in
set_option maxHeartbeats 4000000 in
theorem dotm_any (v u : Value) (r q c row col : Nat) (zs ys : List Int) (L : Nat) (w : World) (hm : IsM w v r q zs L) (hn : IsM w u q c ys L) (hrow : row < r) (hcol : col < c) (hL : L ≤ 200000000) :
 Calls Tryz.prog 129 #[v, .int .i64 row, u, .int .i64 col] w fun e w' => ∃ x, e = .returned x ∧ IntOut w w' x (dot (fun i j => zs.getD (i * q + j) 0) (fun i j => ys.getD (i * c + j) 0) row col q) (L + L + 1 + q) := by
 have HM := Hid.mk hm
 have HN := Hid.mk hn
 obtain ⟨hr, hq, sl, rfl, hg0⟩ := hm
 obtain ⟨ao, cap, rfl, -⟩ := hg0.shape
 obtain ⟨-, hc, sl', rfl, hg1⟩ := hn
 obtain ⟨bo, dap, rfl, -⟩ := hg1.shape
 clear hg0 hg1
 obtain ⟨N, hN⟩ : ∃ N, N = r * q := ⟨_, rfl⟩
 rw [← hN] at HM ⊢
 obtain ⟨M, hM⟩ : ∃ M, M = q * c := ⟨_, rfl⟩
 rw [← hM] at HN ⊢
 clear hN hM
 go_enter Tryz.func129, Tryz.ntmps129
 go_wp2_with fail
 obtain ⟨W1, hW1⟩ : ∃ W1, W1 = (((w.alloc (.cells #[.int .i64 r, .int .i64 q, .slice ao N cap] 66)).alloc (.cells #[.int .i64 q, .int .i64 c, .slice bo M dap] 66)).alloc (.cells #[.bool false, .slice none 0 0] 79)).alloc (.cells #[.bool false, .slice none 0 0] 79) := ⟨_, rfl⟩
 rw [← hW1]
 have hB1 : Below w.heap.size w W1 := by
  rw [hW1]
  repeat (first | exact Below.refl _ _ | refine Below.alloc ?_ (by simp <;> omega) _)
 have hm1 : Trio W1 w.heap.size (.int .i64 r) (.int .i64 q) (.slice ao N cap) := by
  rw [hW1]
  exact ⟨cell3 (by simp) _ _ _, cell3 (by simp) _ _ _, cell3 (by simp) _ _ _⟩
 have hn1 : Trio W1 (w.heap.size + 1) (.int .i64 q) (.int .i64 c) (.slice bo M dap) := by
  rw [hW1]
  exact ⟨cell1 (cell1 (new_cell _ _ _ _ _ (by simp) rfl) _) _, cell1 (cell1 (new_cell _ _ _ _ _ (by simp) rfl) _) _, cell1 (cell1 (new_cell _ _ _ _ _ (by simp) rfl) _) _⟩
 have hd1 : Duo W1 (w.heap.size + 1 + 1 + 1) (.bool false) (.slice none 0 0) := by rw [hW1]; exact Duo.new _ _ _ (by simp)
 have hres : Duo W1 (w.heap.size + 1 + 1) (.bool false) (.slice none 0 0) := by
  rw [hW1]
  exact (Duo.new _ _ _ (by simp)).below ((Below.refl _ _).alloc (Nat.le_refl _) _) (by simp)
 obtain ⟨sb, hsb⟩ : ∃ sb, sb = w.heap.size + 1 + 1 + 1 := ⟨_, rfl⟩
 rw [← hsb] at hd1 ⊢
 have hsb1 : w.heap.size + 3 ≤ sb := by omega
 have hS1 : W1.heap.size = sb + 1 := by rw [hW1, hsb]; simp
 have FF := Hid.mk (And.intro hm1 (And.intro hn1 (And.intro hres hS1)))
 have H1 := Hid.mk (And.intro hd1 hB1)
 have HSB := Hid.mk hsb
 clear hm1 hn1 hres hd1 hB1 hW1 hS1 hsb
 go_loopw [10] (fun i wr => ∃ (t : Nat) (nb : Bool) (so : Option Addr) (n ecap : Nat), t ≤ q ∧ i = .int .i64 t ∧ Duo wr sb (.bool nb) (.slice so n ecap) ∧ IsI wr (.agg #[.bool nb, .slice so n ecap]) (dot (fun i j => zs.getD (i * q + j) 0) (fun i j => ys.getD (i * c + j) 0) row col t) (L + L + 1 + t) ∧ W1.grownBy wr (some sb) ∧ Below w.heap.size w wr) (fun i _ => q - (intOf i).toNat)
 case atStart => exact ⟨0, _, _, _, _, Nat.zero_le _, rfl, H1.out.1, IsI.zero _ _, World.grownBy.refl _ _, H1.out.2⟩
 case round =>
  obtain ⟨t, nb, so, n, ecap, ht, rfl, hD, hI, hgr, hB⟩ := hrel
  obtain ⟨q0, q1, q2⟩ := FF.out.1.grown hgr (by omega)
  have hnT := FF.out.2.1.grown hgr (by omega)
  have hwr := hB.size
  have K := Hid.mk (And.intro hD (And.intro hI (And.intro hgr (And.intro hB hnT))))
  clear hD hI hgr hB hnT
  by_cases htq : t < q
  ·have hti : (t : Int) < (q : Int) := by omega
   go_wp2_with fail
   refine (at_in _ r q row t zs L _ (HM.out.below K.out.2.2.2.1) hrow htq).mono ?_
   rintro e w4 ⟨x, rfl, hx, hb4⟩
   obtain ⟨nb1, so1, n1, cp1, rfl⟩ := hx.shape
   have hbA : Below wr.heap.size wr (w4.alloc (.cells #[.bool nb1, .slice so1 n1 cp1] 79)) := hb4.alloc hb4.size _
   have hl4 := (Duo.new w4 (.bool nb1) (.slice so1 n1 cp1) rfl)
   have hxa := hx.below ((Below.refl w4.heap.size w4).alloc (Nat.le_refl _) (.cells #[.bool nb1, .slice so1 n1 cp1] 79))
   obtain ⟨e0, e1, e2⟩ := K.out.2.2.2.2.later hbA
   have hw4 := hb4.size
   have KA := Hid.mk (And.intro hbA (And.intro hl4 hxa))
   clear hbA hl4 hxa hx hb4 q0 q1 q2
   go_wp2_with fail
   refine (at_in _ q c t col ys L _ (HN.out.below (K.out.2.2.2.1.trans (KA.out.1.mono hwr))) htq hcol).mono ?_
   rintro e w5 ⟨x, rfl, hx, hb5⟩
   obtain ⟨nb2, so2, n2, cp2, rfl⟩ := hx.shape
   have hbB : Below wr.heap.size wr (w5.alloc (.cells #[.bool nb2, .slice so2 n2 cp2] 79)) := (KA.out.1.trans (hb5.mono (by simp; omega))).alloc (by have := hb5.size; simp at this; omega) _
   have hb55 := (Below.refl w5.heap.size w5).alloc (Nat.le_refl _) (.cells #[.bool nb2, .slice so2 n2 cp2] 79)
   have hlt4 : w4.heap.size < w5.heap.size := by have := hb5.size; simp at this; omega
   have hl5 := (KA.out.2.1.below hb5 (by simp)).below hb55 hlt4
   obtain ⟨d1, d2, -, -⟩ := hl5.cells
   have KB := Hid.mk (And.intro hbB (And.intro ((KA.out.2.2.below hb5).below hb55) (hx.below hb55)))
   clear hx hb5 hbB hb55 hl5 e0 e1 e2
   go_wp2_with fail
   refine (mul_any _ _ (zs.getD (row * q + t) 0) (ys.getD (t * c + col) 0) L L _ KB.out.2.1 KB.out.2.2 (by omega) (by omega)).mono ?_
   rintro e w6 ⟨x, rfl, hx, hb6⟩
   obtain ⟨nb3, so3, n3, cp3, rfl⟩ := hx.shape
   have hw5 : wr.heap.size ≤ w5.heap.size := by omega
   have hbC : Below wr.heap.size wr (w6.alloc (.cells #[.bool nb3, .slice so3 n3 cp3] 79)) := (KB.out.1.trans (hb6.mono (by simp; omega))).alloc (by have := hb6.size; simp at this; omega) _
   have hb66 := (Below.refl w6.heap.size w6).alloc (Nat.le_refl _) (.cells #[.bool nb3, .slice so3 n3 cp3] 79)
   have hD6 := K.out.1.below hbC (Array.getElem?_eq_some_iff.1 K.out.1).1
   have hI6 := K.out.2.1.below hbC
   clear d1 d2
   obtain ⟨d1, d2, d3, d4⟩ := hD6.cells
   have KC := Hid.mk (And.intro hbC (And.intro hD6 (And.intro hI6 (hx.below hb66))))
   clear hx hb6 hbC hb66 hD6 hI6
   go_wp2_with fail
   refine (add_any _ _ _ (zs.getD (row * q + t) 0 * ys.getD (t * c + col) 0) (L + L + 1 + t) (L + L) _ KC.out.2.2.1 KC.out.2.2.2 (by omega) (by omega)).mono ?_
   rintro e w7 ⟨x, rfl, hx, hb7⟩
   obtain ⟨nb4, so4, n4, cp4, rfl⟩ := hx.shape
   have hlt6 : sb < (w6.alloc (.cells #[.bool nb3, .slice so3 n3 cp3] 79)).heap.size := (Array.getElem?_eq_some_iff.1 KC.out.2.1).1
   have hbD : Below wr.heap.size wr w7 := KC.out.1.trans (hb7.mono KC.out.1.size)
   have hD7 := KC.out.2.1.below hb7 hlt6
   clear d1 d2 d3 d4
   obtain ⟨d1, d2, d3, d4⟩ := hD7.cells
   have KD := Hid.mk (And.intro hbD (And.intro hD7 hx))
   clear hx hb7 hbD hD7 hlt6
   go_wp2_with fail
   go_roundw
   case measure => simp [intOf]; omega
   case rel =>
    refine ⟨t + 1, nb4, so4, n4, cp4, by omega, by go_num, KD.out.2.1.put _ _, ?_, grown_put2 (grown_below K.out.2.2.1 KD.out.1), ((K.out.2.2.2.1.trans (KD.out.1.mono hwr)).setCell (by simp; omega) _).setCell (by simp; omega) _⟩
    exact (KD.out.2.2.duo KD.out.2.1 _ _).mono (by omega)
  ·have hte : t = q := by omega
   subst hte
   obtain ⟨d1, d2, d3, d4⟩ := K.out.1.cells
   have hR := FF.out.2.2.1
   have hRb : wr.heap[w.heap.size + 1 + 1]? = W1.heap[w.heap.size + 1 + 1]? := K.out.2.2.1.block _ (by have := FF.out.2.2.2; omega) (by have := HSB.out; simp; omega)
   have hRD : Duo wr (w.heap.size + 1 + 1) (.bool false) (.slice none 0 0) := by unfold Duo; rw [hRb]; exact hR
   have hcell := (hRD.put (.bool nb) (.slice so n ecap)).cells
   have HR := Hid.mk (And.intro hRD hcell)
   obtain ⟨r1, r2, r3, r4⟩ := hRD.cells
   clear hR hRb hRD hcell
   go_wp2_with fail
   obtain ⟨g1, g2, -, -⟩ := HR.out.2
   refine bodyPost_ret (v := .agg #[.bool nb, .slice so n ecap]) ?_ rfl ?_
   ·(simp [results, Tryz.results129, go_sem, g1, g2]; done)
   ·exact ⟨_, rfl, K.out.2.1.duo HR.out.1 _ _, (K.out.2.2.2.1.setCell (by simp; omega) _).setCell (by simp; omega) _⟩
open Go.RowKit
def ProdTo (r q c a e : Nat) (zs ys ms : List Int) : Prop := ∀ i j, i < r → j < c → (i < a ∨ (i = a ∧ j < e)) → ms.getD (i * c + j) 0 = dot (fun i j => zs.getD (i * q + j) 0) (fun i j => ys.getD (i * c + j) 0) i j q
theorem ProdTo.step {r q c a e : Nat} {zs ys ms : List Int} (h : ProdTo r q c a e zs ys ms) (hl : ms.length = r * c) (ha : a < r) (he : e < c) {z : Int} (hz : z = dot (fun i j => zs.getD (i * q + j) 0) (fun i j => ys.getD (i * c + j) 0) a e q) : ProdTo r q c a (e + 1) zs ys (ms.set (a * c + e) z) := by
 intro i j hi hj hd
 by_cases hij : i = a ∧ j = e
 ·obtain ⟨rfl, rfl⟩ := hij
  have : i * c + j < ms.length := by rw [hl]; exact idx_lt hi hj
  rw [← hz]
  simp [List.getD, this]
 ·have hne : a * c + e ≠ i * c + j := fun e' => by
   obtain ⟨h1, h2⟩ := idx_inj he hj e'
   exact hij ⟨h1.symm, h2.symm⟩
  rw [show (ms.set (a * c + e) z).getD (i * c + j) 0 = ms.getD (i * c + j) 0 from by simp [List.getD, List.getElem?_set_ne hne]]
  exact h i j hi hj (by omega)
theorem ProdTo.row {r q c a e : Nat} {zs ys ms : List Int} (h : ProdTo r q c a e zs ys ms) (he : c ≤ e) : ProdTo r q c (a + 1) 0 zs ys ms := fun i j hi hj hd => h i j hi hj (by omega)
def ProdOf (r q c : Nat) (zs ys ms : List Int) : Prop := ∀ i j, i < r → j < c → ms.getD (i * c + j) 0 = dot (fun i j => zs.getD (i * q + j) 0) (fun i j => ys.getD (i * c + j) 0) i j q
theorem set_rc (p g r c RC row col : Nat) (hRC : RC = r * c) (zs : List Int) (L : Nat) (x : Value) (z : Int) (w : World) (p0 : w.cell? ⟨p, 0, none⟩ = some (.int .i64 r)) (p1 : w.cell? ⟨p, 1, none⟩ = some (.int .i64 c))
 (p2 : w.cell? ⟨p, 2, none⟩ = some (.slice (some ⟨g, 0, none⟩) RC RC)) (hg : Grid w (.slice (some ⟨g, 0, none⟩) RC RC) RC zs L) (hx : IsI w x z L) (hr : r ≤ 99) (hc : c ≤ 99) (h1 : row < r) (h2 : col < c) :
 Calls Tryz.prog 92 #[.pointer (some ⟨p, 0, none⟩), .int .i64 row, .int .i64 col, x] w fun e w' => e = .returned (.tuple #[]) ∧ Grid w' (.slice (some ⟨g, 0, none⟩) RC RC) RC (zs.set (row * c + col) z) L ∧ w.grownBy w' (some g) ∧ KU w w' := by
 subst hRC
 exact set_in p g r c (r * c) row col zs L x z w p0 p1 p2 hg hx hr hc h1 h2
set_option maxRecDepth 100000 in
set_option maxHeartbeats 4000000 in
theorem gtimes_new (v u : Value) (r q c : Nat) (zs ys : List Int) (L : Nat) (w : World) (hm : IsM w v r q zs L) (hn : IsM w u q c ys L) (hL : L ≤ 200000000) :
 Calls Tryz.prog 86 #[v, u] w fun e w' => ∃ g ms, e = .returned (.agg #[.int .i64 r, .int .i64 c, .slice (some ⟨g, 0, none⟩) (r * c) (r * c)]) ∧ w.heap.size ≤ g ∧ Grid w' (.slice (some ⟨g, 0, none⟩) (r * c) (r * c)) (r * c) ms (L + L + 1 + q) ∧ ProdOf r q c zs ys ms ∧ Below w.heap.size w w' := by
 have HM := Hid.mk hm
 have HN := Hid.mk hn
 obtain ⟨hr, hq, sl, rfl, hg0⟩ := hm
 obtain ⟨ao, cap, rfl, -⟩ := hg0.shape
 obtain ⟨-, hc, sl', rfl, hg1⟩ := hn
 obtain ⟨bo, dap, rfl, -⟩ := hg1.shape
 clear hg0 hg1
 obtain ⟨N, hN⟩ : ∃ N, N = r * q := ⟨_, rfl⟩
 rw [← hN] at HM ⊢
 obtain ⟨M, hM⟩ : ∃ M, M = q * c := ⟨_, rfl⟩
 rw [← hM] at HN ⊢
 clear hN hM
 obtain ⟨RC, hRC⟩ : ∃ RC, RC = r * c := ⟨_, rfl⟩
 have HRC := Hid.mk hRC
 obtain ⟨W0, hW0⟩ : ∃ W0, W0 = ((w.alloc (.cells #[.int .i64 r, .int .i64 q, .slice ao N cap] 66)).alloc (.cells #[.int .i64 q, .int .i64 c, .slice bo M dap] 66)).alloc (.cells #[.int .i64 0, .int .i64 0, .slice none 0 0] 66) := ⟨_, rfl⟩
 have hz0 : W0.heap.size = w.heap.size + 3 := by rw [hW0]; simp
 have hm0 : Trio W0 w.heap.size (.int .i64 r) (.int .i64 q) (.slice ao N cap) := by
  rw [hW0]
  exact ⟨cell1 (cell1 (new_cell _ _ _ _ _ (by simp) rfl) _) _, cell1 (cell1 (new_cell _ _ _ _ _ (by simp) rfl) _) _, cell1 (cell1 (new_cell _ _ _ _ _ (by simp) rfl) _) _⟩
 have hn0 : Trio W0 (w.heap.size + 1) (.int .i64 q) (.int .i64 c) (.slice bo M dap) := by
  rw [hW0]
  exact ⟨cell1 (new_cell _ _ _ _ _ (by simp) rfl) _, cell1 (new_cell _ _ _ _ _ (by simp) rfl) _, cell1 (new_cell _ _ _ _ _ (by simp) rfl) _⟩
 have hr0 : W0.heap[w.heap.size + 2]? = some (.cells #[.int .i64 0, .int .i64 0, .slice none 0 0] 66 (0, 0)) := by
  rw [hW0]
  have := heap_alloc_new ((w.alloc (.cells #[.int .i64 r, .int .i64 q, .slice ao N cap] 66)).alloc (.cells #[.int .i64 q, .int .i64 c, .slice bo M dap] 66)) (.cells #[.int .i64 0, .int .i64 0, .slice none 0 0] 66)
  simpa using this
 have hb0 : Below w.heap.size w W0 := by
  rw [hW0]
  repeat (first | exact Below.refl _ _ | refine Below.alloc ?_ (by simp <;> omega) _)
 have F0 := Hid.mk (And.intro hm0 (And.intro hn0 (And.intro hr0 (And.intro hb0 (And.intro hz0 hW0)))))
 clear hm0 hn0 hr0 hb0 hz0 hW0 hRC
 go_enter Tryz.func86, Tryz.ntmps86
 go_wp2_with fail
 rw [← F0.out.2.2.2.2.2]
 refine (noughts_any r c _ hr hc).mono ?_
 rintro e w2 ⟨g, rfl, hgn, hg, hb⟩
 rw [← HRC.out] at hg ⊢
 have hz0 := F0.out.2.2.2.2.1
 have hbw : Below w.heap.size w w2 := F0.out.2.2.2.1.trans (hb.mono (by omega))
 have hgl : g < w2.heap.size := hg.ty.lt
 have hw2 := hb.size
 have F2 := Hid.mk (And.intro hg (And.intro hb hbw))
 clear hg hb hbw
 go_wp2_with fail
 obtain ⟨W3, hW3⟩ : ∃ W3, W3 = w2.alloc (.cells #[.int .i64 r, .int .i64 c, .slice (some ⟨g, 0, none⟩) RC RC] 66) := ⟨_, rfl⟩
 rw [← hW3]
 have hb23 : Below w2.heap.size w2 W3 := by rw [hW3]; exact (Below.refl _ _).alloc (Nat.le_refl _) _
 have hm3 : Trio W3 w.heap.size (.int .i64 r) (.int .i64 q) (.slice ao N cap) := (F0.out.1.later F2.out.2.1).later hb23
 have hn3 : Trio W3 (w.heap.size + 1) (.int .i64 q) (.int .i64 c) (.slice bo M dap) := (F0.out.2.1.later F2.out.2.1).later hb23
 have hp3 : Trio W3 w2.heap.size (.int .i64 r) (.int .i64 c) (.slice (some ⟨g, 0, none⟩) RC RC) := by
  rw [hW3]
  exact ⟨new_cell _ _ _ _ _ rfl rfl, new_cell _ _ _ _ _ rfl rfl, new_cell _ _ _ _ _ rfl rfl⟩
 have hres : W3.heap[w.heap.size + 2]? = some (.cells #[.int .i64 0, .int .i64 0, .slice none 0 0] 66 (0, 0)) := by
  rw [hb23.block _ (by omega), F2.out.2.1.block _ (by omega)]
  exact F0.out.2.2.1
 have hG3 : Grid W3 (.slice (some ⟨g, 0, none⟩) RC RC) RC (List.replicate RC 0) (L + L + 1 + q) := (F2.out.1.mono (Nat.zero_le _)).below hb23
 have hS : W3.heap.size = w2.heap.size + 1 := by rw [hW3]; simp
 have hB3 : Below w.heap.size w W3 := F2.out.2.2.trans (hb23.mono (by omega))
 have F3 := Hid.mk (And.intro hm3 (And.intro hn3 (And.intro hp3 (And.intro hres (And.intro hG3 (And.intro hS hB3))))))
 clear hm3 hn3 hp3 hres hG3 hB3 hW3 hb23
 go_loopw [6] (fun i wr => ∃ (a : Nat) (ms : List Int), a ≤ r ∧ i = .int .i64 a ∧ Grid wr (.slice (some ⟨g, 0, none⟩) RC RC) RC ms (L + L + 1 + q) ∧ W3.grownBy wr (some g) ∧ Below w.heap.size w wr ∧ Hid (ProdTo r q c a 0 zs ys ms)) (fun i _ => r - (intOf i).toNat)
 case atStart => exact ⟨0, _, Nat.zero_le _, rfl, F3.out.2.2.2.2.1, World.grownBy.refl _ _, F3.out.2.2.2.2.2.2, Hid.mk (fun i j _ _ hd => by omega)⟩
 case round =>
  obtain ⟨a, ms, ha, rfl, hG, hgr, hB, HI⟩ := hrel
  obtain ⟨q0, q1, q2⟩ := F3.out.1.grown hgr (by omega)
  have K := Hid.mk (And.intro hG (And.intro hgr hB))
  clear hG hgr hB
  by_cases har : a < r
  ·have hai : (a : Int) < (r : Int) := by omega
   go_wp2_with fail
   go_loopw [7] (fun i ws => ∃ (e : Nat) (ms : List Int), e ≤ c ∧ i = .int .i64 e ∧ Grid ws (.slice (some ⟨g, 0, none⟩) RC RC) RC ms (L + L + 1 + q) ∧ W3.grownBy ws (some g) ∧ Below w.heap.size w ws ∧ Hid (ProdTo r q c a e zs ys ms)) (fun i _ => c - (intOf i).toNat)
   case atStart => exact ⟨0, ms, Nat.zero_le _, rfl, K.out.1, K.out.2.1, K.out.2.2, HI⟩
   case round =>
    rename World => ws
    clear q0 q1 q2
    obtain ⟨e, ms, he, rfl, hG, hgr, hB, HI2⟩ := hrel
    obtain ⟨q0, q1, q2⟩ := F3.out.1.grown hgr (by omega)
    obtain ⟨p0, p1, p2⟩ := F3.out.2.1.grown hgr (by omega)
    have hwr := hB.size
    have K2 := Hid.mk (And.intro hG (And.intro hgr hB))
    clear hG hgr hB
    by_cases hec : e < c
    ·have hei : (e : Int) < (c : Int) := by omega
     go_wp2_with fail
     refine (dotm_any _ _ r q c a e zs ys L _ (HM.out.below K2.out.2.2) (HN.out.below K2.out.2.2) har hec hL).mono ?_
     rintro e9 w4 ⟨x, rfl, hx, hb4⟩
     obtain ⟨nb, so, n, ecap, rfl⟩ := hx.shape
     have hw4 := hb4.size
     have W5b := (Below.refl w4.heap.size w4).alloc (Nat.le_refl _) (.cells #[.bool nb, .slice so n ecap] 79)
     have hbA : Below ws.heap.size ws (w4.alloc (.cells #[.bool nb, .slice so n ecap] 79)) := hb4.trans (W5b.mono hw4)
     have hgrA := grown_below K2.out.2.1 hbA
     obtain ⟨s0, s1, s2⟩ := F3.out.2.2.1.grown hgrA (by omega)
     have K4 := Hid.mk (And.intro (And.intro s0 (And.intro s1 s2)) (And.intro (K2.out.1.below hbA) (And.intro (hx.below W5b) (And.intro hgrA (K2.out.2.2.trans (hbA.mono hwr))))))
     clear hx hb4 W5b hbA hgrA q0 q1 q2 p0 p1 p2
     go_wp2_with fail
     refine (set_rc w2.heap.size g r c RC a e HRC.out ms (L + L + 1 + q) _ _ _ K4.out.1.1 K4.out.1.2.1 K4.out.1.2.2 K4.out.2.1 K4.out.2.2.1 (by omega) (by omega) (by omega) (by omega)).mono ?_
     rintro e9 w6 ⟨rfl, a1, a2, -⟩
     have K6 := Hid.mk (And.intro a1 (And.intro (grown_trans K4.out.2.2.2.1 a2) (K4.out.2.2.2.2.grown a2 (by simp; omega) (fun j hj => by simp at hj; omega))))
     clear a1 a2 s0 s1 s2
     go_wp2_with fail
     go_roundw
     case measure => simp [intOf]; omega
     case rel =>
      refine ⟨e + 1, _, by omega, by go_num, K6.out.1, K6.out.2.1, K6.out.2.2, Hid.mk (HI2.out.step ?_ har hec rfl)⟩
      rw [← HRC.out]
      exact K2.out.1.1
    ·go_wp2_with fail
     go_roundw
     case measure => simp [intOf]; omega
     case rel => exact ⟨a + 1, ms, by omega, by go_num, K2.out.1, K2.out.2.1, K2.out.2.2, Hid.mk (HI2.out.row (by omega))⟩
  ·obtain ⟨s0, s1, s2⟩ := F3.out.2.2.1.grown K.out.2.1 (by omega)
   have hres : wr.heap[w.heap.size + 2]? = some (.cells #[.int .i64 0, .int .i64 0, .slice none 0 0] 66 (0, 0)) := by
    rw [K.out.2.1.block _ (by have := F3.out.2.2.2.2.2.1; omega) (by simp; omega)]; exact F3.out.2.2.2.1
   have r0 : wr.cell? ⟨w.heap.size + 1 + 1, 0, none⟩ = some (.int .i64 0) := by simp [World.cell?, hres]
   have r1 : wr.cell? ⟨w.heap.size + 1 + 1, 1, none⟩ = some (.int .i64 0) := by simp [World.cell?, hres]
   have r2 : wr.cell? ⟨w.heap.size + 1 + 1, 2, none⟩ = some (.slice none 0 0) := by simp [World.cell?, hres]
   have z0 : wr.frozen? ⟨w.heap.size + 1 + 1, 0, none⟩ = false := by simp [World.frozen?, hres]
   have z1 : wr.frozen? ⟨w.heap.size + 1 + 1, 1, none⟩ = false := by simp [World.frozen?, hres]
   have z2 : wr.frozen? ⟨w.heap.size + 1 + 1, 2, none⟩ = false := by simp [World.frozen?, hres]
   have HT : Hid (Ty wr (w.heap.size + 1 + 1) 66) := Hid.mk ⟨_, _, hres⟩
   clear hres
   go_wp2_with fail
   refine bodyPost_ret (v := .agg #[.int .i64 r, .int .i64 c, .slice (some ⟨g, 0, none⟩) RC RC]) ?_ rfl ?_
   ·(simp [results, Tryz.results86, go_sem, r0, r1, r2]; done)
   ·refine ⟨g, ms, by rw [← HRC.out], by omega, ?_, fun i j hi hj => HI.out i j hi hj (.inl (by omega)), ((K.out.2.2.setCell (by simp; omega) _).setCell (by simp; omega) _).setCell (by simp; omega) _⟩
    have hG := K.out.1.keep (KT.setCell (KT.setCell (KT.setCell (KT.refl _) HT.out (by decide) (by decide) (.int .i64 r)) (HT.out.setCell ⟨w.heap.size + 1 + 1, 0, none⟩ (.int .i64 r)) (by decide) (by decide) (.int .i64 c)) ((HT.out.setCell ⟨w.heap.size + 1 + 1, 0, none⟩ (.int .i64 r)).setCell ⟨w.heap.size + 1 + 1, 1, none⟩ (.int .i64 c)) (by decide) (by decide) (.slice (some ⟨g, 0, none⟩) RC RC) (o := 2))
    rw [← HRC.out]
    exact hG
theorem gtimes_any (v u : Value) (r q c : Nat) (zs ys : List Int) (L : Nat) (w : World) (hm : IsM w v r q zs L) (hn : IsM w u q c ys L) (hL : L ≤ 200000000) :
 Calls Tryz.prog 86 #[v, u] w fun e w' => ∃ x, e = .returned x ∧ (∃ ms, IsM w' x r c ms (L + L + 1 + q) ∧ ProdOf r q c zs ys ms) ∧ Below w.heap.size w w' := by
 refine (gtimes_new v u r q c zs ys L w hm hn hL).mono ?_
 rintro e w' ⟨g, ms, rfl, -, hG, hP, hb⟩
 exact ⟨_, rfl, ⟨ms, ⟨hm.1, hn.2.1, _, rfl, hG⟩, hP⟩, hb⟩
open Go.RowKit
open Go.RowKit
open Go.RowKit
open Go.RowKit
theorem IsI.tight {w : World} {v : Value} {z : Int} {L : Nat} (h : IsI w v z L) (hz : z.natAbs < 281474976710656) : IsI w v z 2 := by
 obtain ⟨sl, xs, h1, h2, h3, h4, h5⟩ := h
 refine ⟨sl, xs, h1, h2, h3, ?_, h5⟩
 rcases Nat.lt_or_ge 2 xs.length with h6 | h6
 ·exfalso
  have h7 := Lim_ge h2 (by intro e; rw [e] at h6; simp at h6)
  have h8 : 4294967296 ^ 2 ≤ 4294967296 ^ (xs.length - 1) := Nat.pow_le_pow_right (by decide) (by omega)
  omega
 ·exact h6
theorem IsM.tight {w : World} {v : Value} {r c L : Nat} {zs : List Int} (h : IsM w v r c zs L) (hf : FitsP r c zs) : IsM w v r c zs 2 := by
 obtain ⟨h1, h2, sl, h3, h4, cs, h5, h6⟩ := h
 refine ⟨h1, h2, sl, h3, h4, cs, h5, fun i hi => ?_⟩
 obtain ⟨a, b, e1, e2, e3⟩ := h6 i hi
 exact ⟨a, b, e1, e2, e3.tight (hf.2.2 i hi)⟩
def prodL (r q c : Nat) (zs ys : List Int) : List Int := (List.range (r * c)).map fun t => dot (fun i j => zs.getD (i * q + j) 0) (fun i j => ys.getD (i * c + j) 0) (t / c) (t % c) q
theorem prodL_len (r q c : Nat) (zs ys : List Int) : (prodL r q c zs ys).length = r * c := by simp [prodL]
theorem prodL_at {r q c : Nat} {zs ys : List Int} {i j : Nat} (hi : i < r) (hj : j < c) : (prodL r q c zs ys).getD (i * c + j) 0 = dot (fun i j => zs.getD (i * q + j) 0) (fun i j => ys.getD (i * c + j) 0) i j q := by
 have h1 : (i * c + j) / c = i := by rw [Nat.mul_comm, Nat.mul_add_div (by omega), Nat.div_eq_of_lt hj]; omega
 have h2 : (i * c + j) % c = j := by rw [Nat.mul_comm, Nat.mul_add_mod]; exact Nat.mod_eq_of_lt hj
 have h3 : i * c + j < r * c := idx_lt hi hj
 unfold prodL
 rw [List.getD, List.getElem?_map, List.getElem?_range h3]
 simp only [Option.map_some, Option.getD_some, h1, h2]
theorem prodL_eq {r q c : Nat} {zs ys ms : List Int} (hl : ms.length = r * c) (h : ProdOf r q c zs ys ms) : ms = prodL r q c zs ys := by
 apply List.ext_getElem (by rw [hl, prodL_len])
 intro t h1 h2
 have hc : 0 < c := by
  rcases Nat.eq_zero_or_pos c with h0 | h0
  ·subst h0; rw [Nat.mul_zero] at hl; omega
  ·exact h0
 have ht : t < r * c := by omega
 have h3 : t / c < r := by rw [Nat.div_lt_iff_lt_mul hc]; exact ht
 have h4 := Nat.mod_lt t hc
 have h5 : t / c * c + t % c = t := by rw [Nat.mul_comm]; exact Nat.div_add_mod t c
 have h6 := h (t / c) (t % c) h3 h4
 rw [← prodL_at h3 h4, h5] at h6
 simpa [List.getD, List.getElem?_eq_getElem h1, List.getElem?_eq_getElem h2] using h6
def TimesRel (ms : List Hm) (nx : Nat) (g h k e : Int) (ms' : List Hm) (nx' : Nat) : Prop :=
 (((∀ i, i < 24 → ∀ x, ms.getD i none = some x → (x.1 : Int) ≠ g) ∨ (∀ i, i < 24 → ∀ x, ms.getD i none = some x → (x.1 : Int) ≠ h)) ∧ k = -1 ∧ e = 2 ∧ ms' = ms ∧ nx' = nx) ∨
 ∃ i hd r q zs j hd' q' c ys, i < 24 ∧ ms.getD i none = some (hd, r, q, zs) ∧ ((hd : Nat) : Int) = g ∧ j < 24 ∧ ms.getD j none = some (hd', q', c, ys) ∧ ((hd' : Nat) : Int) = h ∧
   ((q ≠ q' ∧ k = -1 ∧ e = 3 ∧ ms' = ms ∧ nx' = nx) ∨ (q = q' ∧ ¬ (FitsP r q zs ∧ FitsP q' c ys) ∧ k = -1 ∧ e = 4 ∧ ms' = ms ∧ nx' = nx) ∨
    (q = q' ∧ (FitsP r q zs ∧ FitsP q' c ys) ∧ (∀ i, i < 24 → ms.getD i none ≠ none) ∧ k = -1 ∧ e = 5 ∧ ms' = ms ∧ nx' = nx) ∨
    (q = q' ∧ (FitsP r q zs ∧ FitsP q' c ys) ∧ k = (nx : Int) ∧ e = 0 ∧ ∃ n, FreeAt ms n ∧ ms' = ms.set n (some (nx, r, c, prodL r q c zs ys)) ∧ nx' = nx + 1))
set_option maxRecDepth 100000 in
set_option maxHeartbeats 4000000 in
theorem times_one (b : Nat) (g h : Int) (ms : List Hm) (nx : Nat) (w : World) (hst : Held w b ms nx) (hnx : nx < 1000000) :
 Calls Tryz.prog 48 #[.pointer (some ⟨b, 0, none⟩), .int .i64 g, .int .i64 h] w fun x w' => ∃ k e ms' nx', x = .returned (.tuple #[.int .i64 k, .int .i64 e]) ∧ TimesRel ms nx g h k e ms' nx' ∧ Held w' b ms' nx' ∧ Fr b w w' := by
 have hm24 := hst.1
 have H := Hid.mk hst
 clear hst
 go_enter Tryz.func48, Tryz.ntmps48
 go_wp2_with fail
 refine (find_held b g ms nx _ H.out).mono ?_
 rintro e w1 ⟨⟨r, q, ao, n, cap, ok, rfl, hf⟩, hb1⟩
 have K1 := Hid.mk (And.intro hf hb1)
 have hw1 := hb1.size
 clear hf hb1
 go_wp2_with fail
 have hbA : Below w.heap.size w (w1.alloc (.cells #[.int .i64 r, .int .i64 q, .slice ao n cap] 66)) := K1.out.2.alloc hw1 _
 refine (find_held b h ms nx _ (H.out.below hbA)).mono ?_
 rintro e w2 ⟨⟨r', c, bo, n', cap', ok', rfl, hf2⟩, hb2⟩
 have hT1 : Trio (w1.alloc (.cells #[.int .i64 r, .int .i64 q, .slice ao n cap] 66)) w1.heap.size (.int .i64 r) (.int .i64 q) (.slice ao n cap) := ⟨new_cell _ _ _ _ _ rfl rfl, new_cell _ _ _ _ _ rfl rfl, new_cell _ _ _ _ _ rfl rfl⟩
 have hb22 := (Below.refl w2.heap.size w2).alloc (Nat.le_refl _) (.cells #[.int .i64 r', .int .i64 c, .slice bo n' cap'] 66)
 have hT2 := (hT1.later hb2).later hb22
 have hT3 : Trio (w2.alloc (.cells #[.int .i64 r', .int .i64 c, .slice bo n' cap'] 66)) w2.heap.size (.int .i64 r') (.int .i64 c) (.slice bo n' cap') := ⟨new_cell _ _ _ _ _ rfl rfl, new_cell _ _ _ _ _ rfl rfl, new_cell _ _ _ _ _ rfl rfl⟩
 have hbB : Below w.heap.size w w2 := hbA.trans (hb2.mono hbA.size)
 have hf1' := ((K1.out.1.below ((Below.refl _ _).alloc (Nat.le_refl _) (.cells #[.int .i64 r, .int .i64 q, .slice ao n cap] 66))).below hb2).below hb22
 have hf2' := hf2.below hb22
 have hbC : Below w.heap.size w (w2.alloc (.cells #[.int .i64 r', .int .i64 c, .slice bo n' cap'] 66)) := hbB.alloc hbB.size _
 have hlt : w1.heap.size < w2.heap.size := by have := hb2.size; simp at this; omega
 have K2 := Hid.mk (And.intro hf1' (And.intro hf2' (And.intro hbC (And.intro hT2 hT3))))
 clear hf2 hb2 hT1 hb22 hT2 hT3 hbB hf1' hf2' hbC hbA
 obtain ⟨X, hX⟩ : ∃ X, X = w2.alloc (.cells #[.int .i64 r', .int .i64 c, .slice bo n' cap'] 66) := ⟨_, rfl⟩
 have HX := Hid.mk hX
 rw [← hX] at K2
 clear hX
 have hsX : X.heap.size = w2.heap.size + 1 := by rw [HX.out]; simp
 rcases id K2.out.1 with ⟨rfl, i, hd, zs, hi, hgi, hgh, hM⟩ | ⟨rfl, hno⟩
 ·rcases id K2.out.2.1 with ⟨rfl, i', hd', ys, hi', hgi', hgh', hM'⟩ | ⟨rfl, hno⟩
  ·have HF := Hid.mk (And.intro (And.intro hi (And.intro hgi (And.intro hgh hM))) (And.intro hi' (And.intro hgi' (And.intro hgh' hM'))))
   have HC := Hid.mk (show ∀ w', Below X.heap.size X w' → w'.cell? ⟨w1.heap.size, 0, none⟩ = some (.int .i64 r) ∧ w'.cell? ⟨w1.heap.size, 1, none⟩ = some (.int .i64 q) ∧ w'.cell? ⟨w1.heap.size, 2, none⟩ = some (.slice ao n cap) ∧ w'.cell? ⟨w2.heap.size, 0, none⟩ = some (.int .i64 r') ∧ w'.cell? ⟨w2.heap.size, 1, none⟩ = some (.int .i64 c) ∧ w'.cell? ⟨w2.heap.size, 2, none⟩ = some (.slice bo n' cap') from
    fun w' hb => ⟨(K2.out.2.2.2.1.later hb).1, (K2.out.2.2.2.1.later hb).2.1, (K2.out.2.2.2.1.later hb).2.2, (K2.out.2.2.2.2.later hb).1, (K2.out.2.2.2.2.later hb).2.1, (K2.out.2.2.2.2.later hb).2.2⟩)
   clear hi hgi hgh hM hi' hgi' hgh' hM'
   obtain ⟨iqr, hiqr⟩ : ∃ iqr, iqr = ((q : Int) == (r' : Int)) := ⟨_, rfl⟩
   have HQ := Hid.mk hiqr
   go_upto_region 5 with fail
   rw [← HX.out]
   go_cut [35] from 31 to 35 (fun x wx => x = .bool (!iqr) ∧ Below X.heap.size X wx)
   case first =>
    go_region_held3 (fun w' => w'.cell? ⟨w1.heap.size, 0, none⟩ = some (.int .i64 r) ∧ w'.cell? ⟨w1.heap.size, 1, none⟩ = some (.int .i64 q) ∧ w'.cell? ⟨w1.heap.size, 2, none⟩ = some (.slice ao n cap) ∧ w'.cell? ⟨w2.heap.size, 0, none⟩ = some (.int .i64 r') ∧ w'.cell? ⟨w2.heap.size, 1, none⟩ = some (.int .i64 c) ∧ w'.cell? ⟨w2.heap.size, 2, none⟩ = some (.slice bo n' cap'))
     (exact HC.out _ (by first | exact (Below.refl _ _).drew | exact ((Below.refl _ _).alloc (Nat.le_refl _) _).drew | exact (((Below.refl _ _).alloc (Nat.le_refl _) _).alloc (by simp) _).drew))
     (first
       | (go_at_call 84; refine (cols_raw _ _ _ _ _ _).mono ?_; rintro e w' ⟨rfl, rfl⟩)
       | (go_at_call 85; refine (rows_raw _ _ _ _ _ _).mono ?_; rintro e w' ⟨rfl, rfl⟩))
    all_goals
     go_wp2_with fail
     go_meet
     case rel =>
      exact ⟨by rw [HQ.out]; rfl, (((Below.refl _ _).alloc (Nat.le_refl _) _).alloc (by simp) _).drew⟩
   case rest =>
    obtain ⟨rfl, hbx⟩ := hcut
    have hbw : Below w.heap.size w wc := K2.out.2.2.1.trans (hbx.mono K2.out.2.2.1.size)
    obtain ⟨a0, a1, a2, a3, a4, a5⟩ := HC.out wc hbx
    have K3 := Hid.mk (And.intro hbx hbw)
    have hwc := hbx.size
    clear hbx hbw hiqr
    cases iqr
    ·have HNE : Hid (q ≠ r') := Hid.mk (fun e => by have := HQ.out; rw [e] at this; simp at this)
     go_wp2_with fail
     go_ret2
     exact ⟨_, _, ms, nx, rfl, .inr ⟨i, hd, r, q, zs, i', hd', r', c, ys, HF.out.1.1, HF.out.1.2.1, HF.out.1.2.2.1, HF.out.2.1, HF.out.2.2.1, HF.out.2.2.2.1, .inl ⟨HNE.out, rfl, rfl, rfl, rfl⟩⟩, H.out.below K3.out.2, Fr.of_below K3.out.2⟩
    ·have hqr : q = r' := by have := HQ.out; have h2 := beq_iff_eq.1 this.symm; omega
     have HQR := Hid.mk hqr
     clear hqr
     go_wp2_with fail
     refine (tooBig_any _ r q zs 200000000 _ (HF.out.1.2.2.2.below K3.out.1) (by omega)).mono ?_
     rintro e w3 ⟨fb, rfl, hfo, hb3⟩
     have hbX3 : Below X.heap.size X w3 := K3.out.1.trans (hb3.mono hwc)
     clear a0 a1 a2 a3 a4 a5
     obtain ⟨a0, a1, a2, a3, a4, a5⟩ := HC.out w3 hbX3
     have hw3 := hbX3.size
     have K4 := Hid.mk (And.intro hbX3 (And.intro (K2.out.2.2.1.trans (hbX3.mono K2.out.2.2.1.size)) hfo))
     clear hb3 hbX3 hfo
     cases fb
     ·have HNF : Hid (¬ FitsP r q zs) := Hid.mk (fun h => by have := K4.out.2.2.2 h; cases this)
      go_wp2_with fail
      go_ret2
      exact ⟨_, _, ms, nx, rfl, .inr ⟨i, hd, r, q, zs, i', hd', r', c, ys, HF.out.1.1, HF.out.1.2.1, HF.out.1.2.2.1, HF.out.2.1, HF.out.2.2.1, HF.out.2.2.2.1, .inr (.inl ⟨HQR.out, fun h => HNF.out h.1, rfl, rfl, rfl, rfl⟩)⟩, H.out.below K4.out.2.1, Fr.of_below K4.out.2.1⟩
     ·go_wp2_with fail
      refine (tooBig_any _ r' c ys 200000000 _ (HF.out.2.2.2.2.below K4.out.1) (by omega)).mono ?_
      rintro e w4 ⟨fb, rfl, hfo, hb4⟩
      have hbX4 : Below X.heap.size X w4 := K4.out.1.trans (hb4.mono hw3)
      clear a0 a1 a2 a3 a4 a5
      obtain ⟨a0, a1, a2, a3, a4, a5⟩ := HC.out w4 hbX4
      have hw4 := hbX4.size
      have K5 := Hid.mk (And.intro hbX4 (And.intro (K2.out.2.2.1.trans (hbX4.mono K2.out.2.2.1.size)) hfo))
      clear hb4 hbX4 hfo
      cases fb
      ·have HNF : Hid (¬ FitsP r' c ys) := Hid.mk (fun h => by have := K5.out.2.2.2 h; cases this)
       go_wp2_with fail
       go_ret2
       exact ⟨_, _, ms, nx, rfl, .inr ⟨i, hd, r, q, zs, i', hd', r', c, ys, HF.out.1.1, HF.out.1.2.1, HF.out.1.2.2.1, HF.out.2.1, HF.out.2.2.1, HF.out.2.2.2.1, .inr (.inl ⟨HQR.out, fun h => HNF.out h.2, rfl, rfl, rfl, rfl⟩)⟩, H.out.below K5.out.2.1, Fr.of_below K5.out.2.1⟩
      ·have HFF : Hid (FitsP r q zs ∧ FitsP r' c ys) := Hid.mk ⟨K4.out.2.2.1 rfl, K5.out.2.2.1 rfl⟩
       go_wp2_with fail
       refine (room_held b ms nx _ (H.out.below K5.out.2.1)).mono ?_
       rintro e w' ⟨rfl, rfl⟩
       obtain ⟨rm, hrm⟩ : ∃ rm, rm = ms.countP Option.isNone := ⟨_, rfl⟩
       have HRM := Hid.mk hrm
       rw [← hrm]
       clear hrm
       by_cases h0 : rm = 0
       ·subst h0
        go_wp2_with fail
        go_ret2
        exact ⟨_, _, ms, nx, rfl, .inr ⟨i, hd, r, q, zs, i', hd', r', c, ys, HF.out.1.1, HF.out.1.2.1, HF.out.1.2.2.1, HF.out.2.1, HF.out.2.2.1, HF.out.2.2.2.1, .inr (.inr (.inl ⟨HQR.out, HFF.out, full_of_room hm24 HRM.out.symm, rfl, rfl, rfl, rfl⟩))⟩, H.out.below K5.out.2.1, Fr.of_below K5.out.2.1⟩
       ·obtain ⟨nf, hnf⟩ := free_of_room hm24 (show 0 < ms.countP Option.isNone from by have := HRM.out; omega)
        have HNF := Hid.mk hnf
        have h0' : ¬ ((rm : Int) < 1) := by omega
        clear hnf h0
        have hMl := (HF.out.1.2.2.2.below K5.out.1).tight HFF.out.1
        have hMr := (HF.out.2.2.2.2.below K5.out.1).tight HFF.out.2
        rw [← HQR.out] at hMr
        have HMM := Hid.mk (And.intro hMl hMr)
        clear hMl hMr
        have hqr4 : r' = q := HQR.out.symm
        go_wp2_with fail
        refine (gtimes_any _ _ r q c zs ys 2 _ HMM.out.1 HMM.out.2 (by omega)).mono ?_
        rintro e w5 ⟨x, rfl, ⟨msl, hMp, hpo⟩, hb5⟩
        obtain ⟨hr9, hc9, sl0, rfl, hg⟩ := id hMp
        obtain ⟨co, ecap, rfl, -⟩ := hg.shape
        have hml := prodL_eq hg.1 hpo
        rw [hml] at hMp
        obtain ⟨N5, hN5⟩ : ∃ N5, N5 = r * c := ⟨_, rfl⟩
        rw [← hN5] at hMp ⊢
        have hq4 := HFF.out.1.2.1
        have hbw5 : Below w.heap.size w w5 := K5.out.2.1.trans (hb5.mono (by have := K5.out.2.1.size; omega))
        have K6 := Hid.mk (And.intro hMp hbw5)
        clear hg hml hpo hMp hN5 hb5 hbw5 a0 a1 a2 a3 a4 a5
        go_wp2_with fail
        have hbA : Below w.heap.size w (w5.alloc (.cells #[.int .i64 r, .int .i64 c, .slice co N5 ecap] 66)) := K6.out.2.alloc K6.out.2.size _
        have hMk : IsM (w5.alloc (.cells #[.int .i64 r, .int .i64 c, .slice co N5 ecap] 66)) (.agg #[.int .i64 r, .int .i64 c, .slice co N5 ecap]) r c (prodL r q c zs ys) 200000000 := by
         obtain ⟨x1, x2, x3, x4, x5⟩ := K6.out.1.below ((Below.refl _ _).alloc (Nat.le_refl _) (.cells #[.int .i64 r, .int .i64 c, .slice co N5 ecap] 66))
         exact ⟨x1, x2, x3, x4, x5.mono (by omega)⟩
        refine (keep_held b r c co N5 ecap (prodL r q c zs ys) ms nx nf _ (H.out.below hbA) hMk HNF.out hnx).mono ?_
        rintro e w6 ⟨rfl, hH6, hF6⟩
        have K7 := Hid.mk (And.intro hH6 ((Fr.of_below hbA).trans hF6))
        clear hH6 hF6 hbA hMk
        go_wp2_with fail
        go_ret2
        exact ⟨_, _, _, nx + 1, rfl, .inr ⟨i, hd, r, q, zs, i', hd', r', c, ys, HF.out.1.1, HF.out.1.2.1, HF.out.1.2.2.1, HF.out.2.1, HF.out.2.2.1, HF.out.2.2.2.1, .inr (.inr (.inr ⟨HQR.out, HFF.out, rfl, rfl, nf, HNF.out, rfl, rfl⟩))⟩, K7.out.1, K7.out.2⟩
  ·have KN := Hid.mk hno
   clear hno
   go_wp2_with fail
   go_ret2
   rw [← HX.out]
   exact ⟨_, _, ms, nx, rfl, .inl ⟨.inr KN.out, rfl, rfl, rfl, rfl⟩, H.out.below K2.out.2.2.1, Fr.of_below K2.out.2.2.1⟩
 ·have KN := Hid.mk hno
  clear hno
  go_wp2_with fail
  go_ret2
  rw [← HX.out]
  exact ⟨_, _, ms, nx, rfl, .inl ⟨.inl KN.out, rfl, rfl, rfl, rfl⟩, H.out.below K2.out.2.2.1, Fr.of_below K2.out.2.2.1⟩
end Go.Proofs.YtfjbijpagaipnabGreatDoor
