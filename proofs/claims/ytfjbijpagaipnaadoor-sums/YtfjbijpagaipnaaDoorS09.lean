import Derived.Test.YtfjbijpagaipnaaDoorS03
import Derived.Test.YtfjbijpagaipnaaDoorS01
import Derived.Test.YtfjbijpagaipnaaDoorS08
import Derived.Deep.RegionLawGrows
import Derived.Deep.RegionHeld3
namespace Go.Proofs.YtfjbijpagaipnaaDoor
open Go.RowKit
theorem new_cell (w : World) (c : Array Value) (t : TypeId) (i b : Nat) {v : Value} (hb : b = w.heap.size) (h : c[i]? = some v) : (w.alloc (.cells c t)).cell? ⟨b, i, none⟩ = some v := by
 rw [hb, World.cell?_alloc_new]; exact h
def Duo (w : World) (b : Nat) (x y : Value) : Prop := w.heap[b]? = some (.cells #[x, y] 78 (0, 0))
theorem Duo.below {B : Nat} {w w' : World} {b : Nat} {x y : Value} (h : Duo w b x y) (hb : Below B w w') (hB : b < B) : Duo w' b x y := by unfold Duo; rw [hb.block b hB]; exact h
theorem Duo.new (w : World) (x y : Value) {b : Nat} (hb : b = w.heap.size) : Duo (w.alloc (.cells #[x, y] 78)) b x y := by rw [hb]; exact heap_alloc_new w _
theorem Duo.drew {w : World} {b : Nat} {x y : Value} (h : Duo w b x y) : Duo w.drew b x y := h
theorem Duo.put {w : World} {b : Nat} {x y : Value} (h : Duo w b x y) (x' y' : Value) : Duo ((w.setCell ⟨b, 0, none⟩ x').setCell ⟨b, 1, none⟩ y') b x' y' := by
 unfold Duo at *
 rw [heap_setCell_same _ _ _ _ _ _ (heap_setCell_same _ _ _ _ _ _ h)]
 simp
theorem Duo.ty {w : World} {b : Nat} {x y : Value} (h : Duo w b x y) : Ty w b 78 := ⟨_, _, h⟩
theorem Duo.cells {w : World} {b : Nat} {x y : Value} (h : Duo w b x y) : w.cell? ⟨b, 0, none⟩ = some x ∧ w.cell? ⟨b, 1, none⟩ = some y ∧ w.frozen? ⟨b, 0, none⟩ = false ∧ w.frozen? ⟨b, 1, none⟩ = false := by
 unfold Duo at h
 refine ⟨?_, ?_, ?_, ?_⟩ <;> simp [World.cell?, World.frozen?, h]
theorem IsI.duo {w : World} {v : Value} {z : Int} {L b : Nat} {x y : Value} (h : IsI w v z L) (hd : Duo w b x y) (x' y' : Value) : IsI ((w.setCell ⟨b, 0, none⟩ x').setCell ⟨b, 1, none⟩ y') v z L := h.keep (KU.setCell (KU.setCell (KU.refl _) hd.ty (by decide) _) (hd.ty.setCell _ _) (by decide) _)
theorem grown_put2 {W w : World} {b i j : Nat} {x y : Value} (h : W.grownBy w (some b)) : W.grownBy ((w.setCell ⟨b, i, none⟩ x).setCell ⟨b, j, none⟩ y) (some b) := by
 refine grown_trans h ⟨rfl, rfl, rfl, by simp [World.setCell], fun k _ hne => ?_⟩
 rw [Below.heap_setCell _ _ _ _ (fun e => hne (by simp [e])), Below.heap_setCell _ _ _ _ (fun e => hne (by simp [e]))]
def dot (f g : Nat → Nat → Int) (i j : Nat) : Nat → Int
 | 0 => 0
 | t + 1 => dot f g i j t + f i t * g t j
theorem dot_congr {f g f' g' : Nat → Nat → Int} {i j : Nat} (t : Nat) (h1 : ∀ k, k < t → f i k = f' i k) (h2 : ∀ k, k < t → g k j = g' k j) : dot f g i j t = dot f' g' i j t := by
 induction t with
 | zero => rfl
 | succ t ih => rw [dot, dot, ih (fun k hk => h1 k (by omega)) (fun k hk => h2 k (by omega)), h1 t (by omega), h2 t (by omega)]
open Go.RowKit
def Trio (w : World) (b : Nat) (x y z : Value) : Prop := w.cell? ⟨b, 0, none⟩ = some x ∧ w.cell? ⟨b, 1, none⟩ = some y ∧ w.cell? ⟨b, 2, none⟩ = some z
theorem Trio.later {w w' : World} {b : Nat} {x y z : Value} (h : Trio w b x y z) (hb : Below w.heap.size w w') : Trio w' b x y z := ⟨cell_later hb h.1, cell_later hb h.2.1, cell_later hb h.2.2⟩
theorem Trio.grown {w w' : World} {b s : Nat} {x y z : Value} (h : Trio w b x y z) (hg : w.grownBy w' (some s)) (hne : b ≠ s) : Trio w' b x y z := ⟨hg.cell h.1 (by simpa using hne), hg.cell h.2.1 (by simpa using hne), hg.cell h.2.2 (by simpa using hne)⟩
set_option maxRecDepth 100000 in
set_option maxHeartbeats 4000000 in
theorem dotm_any (v u : Value) (r q c row col : Nat) (zs ys : List Int) (L : Nat) (w : World) (hm : IsM w v r q zs L) (hn : IsM w u q c ys L) (hrow : row < r) (hcol : col < c) (hL : L ≤ 200000000) :
 Calls Tryd.prog 69 #[v, .int .i64 row, u, .int .i64 col] w fun e w' => ∃ x, e = .returned x ∧ IntOut w w' x (dot (fun i j => zs.getD (i * q + j) 0) (fun i j => ys.getD (i * c + j) 0) row col q) (L + L + 1 + q) := by
 have HM := Hid.mk hm
 have HN := Hid.mk hn
 obtain ⟨hr, hq, sl, rfl, hg0⟩ := hm
 obtain ⟨ao, cap, rfl, -⟩ := hg0.shape
 obtain ⟨-, hc, sl', rfl, hg1⟩ := hn
 obtain ⟨bo, dap, rfl, -⟩ := hg1.shape
 clear hg0 hg1
 obtain ⟨N, hN⟩ : ∃ N, N = r * q := ⟨_, rfl⟩
 rw [← hN] at HM ⊢
 obtain ⟨M, hM⟩ : ∃ M, M = q * c := ⟨_, rfl⟩
 rw [← hM] at HN ⊢
 clear hN hM
 go_enter Tryd.func69, Tryd.ntmps69
 go_wp2_with fail
 obtain ⟨W1, hW1⟩ : ∃ W1, W1 = (((w.alloc (.cells #[.int .i64 r, .int .i64 q, .slice ao N cap] 63)).alloc (.cells #[.int .i64 q, .int .i64 c, .slice bo M dap] 63)).alloc (.cells #[.bool false, .slice none 0 0] 78)).alloc (.cells #[.bool false, .slice none 0 0] 78) := ⟨_, rfl⟩
 rw [← hW1]
 have hB1 : Below w.heap.size w W1 := by
  rw [hW1]
  repeat (first | exact Below.refl _ _ | refine Below.alloc ?_ (by simp <;> omega) _)
 have hm1 : Trio W1 w.heap.size (.int .i64 r) (.int .i64 q) (.slice ao N cap) := by
  rw [hW1]
  exact ⟨cell3 (by simp) _ _ _, cell3 (by simp) _ _ _, cell3 (by simp) _ _ _⟩
 have hn1 : Trio W1 (w.heap.size + 1) (.int .i64 q) (.int .i64 c) (.slice bo M dap) := by
  rw [hW1]
  exact ⟨cell1 (cell1 (new_cell _ _ _ _ _ (by simp) rfl) _) _, cell1 (cell1 (new_cell _ _ _ _ _ (by simp) rfl) _) _, cell1 (cell1 (new_cell _ _ _ _ _ (by simp) rfl) _) _⟩
 have hd1 : Duo W1 (w.heap.size + 1 + 1 + 1) (.bool false) (.slice none 0 0) := by rw [hW1]; exact Duo.new _ _ _ (by simp)
 have hres : Duo W1 (w.heap.size + 1 + 1) (.bool false) (.slice none 0 0) := by
  rw [hW1]
  exact (Duo.new _ _ _ (by simp)).below ((Below.refl _ _).alloc (Nat.le_refl _) _) (by simp)
 obtain ⟨sb, hsb⟩ : ∃ sb, sb = w.heap.size + 1 + 1 + 1 := ⟨_, rfl⟩
 rw [← hsb] at hd1 ⊢
 have hsb1 : w.heap.size + 3 ≤ sb := by omega
 have hS1 : W1.heap.size = sb + 1 := by rw [hW1, hsb]; simp
 have FF := Hid.mk (And.intro hm1 (And.intro hn1 (And.intro hres hS1)))
 have H1 := Hid.mk (And.intro hd1 hB1)
 have HSB := Hid.mk hsb
 clear hm1 hn1 hres hd1 hB1 hW1 hS1 hsb
 go_loopw [10] (fun i wr => ∃ (t : Nat) (nb : Bool) (so : Option Addr) (n ecap : Nat), t ≤ q ∧ i = .int .i64 t ∧ Duo wr sb (.bool nb) (.slice so n ecap) ∧ IsI wr (.agg #[.bool nb, .slice so n ecap]) (dot (fun i j => zs.getD (i * q + j) 0) (fun i j => ys.getD (i * c + j) 0) row col t) (L + L + 1 + t) ∧ W1.grownBy wr (some sb) ∧ Below w.heap.size w wr) (fun i _ => q - (intOf i).toNat)
 case atStart => exact ⟨0, _, _, _, _, Nat.zero_le _, rfl, H1.out.1, IsI.zero _ _, World.grownBy.refl _ _, H1.out.2⟩
 case round =>
  obtain ⟨t, nb, so, n, ecap, ht, rfl, hD, hI, hgr, hB⟩ := hrel
  obtain ⟨q0, q1, q2⟩ := FF.out.1.grown hgr (by omega)
  have hnT := FF.out.2.1.grown hgr (by omega)
  have hwr := hB.size
  have K := Hid.mk (And.intro hD (And.intro hI (And.intro hgr (And.intro hB hnT))))
  clear hD hI hgr hB hnT
  by_cases htq : t < q
  ·have hti : (t : Int) < (q : Int) := by omega
   go_wp2_with fail
   refine (at_in _ r q row t zs L _ (HM.out.below K.out.2.2.2.1) hrow htq).mono ?_
   rintro e w4 ⟨x, rfl, hx, hb4⟩
   obtain ⟨nb1, so1, n1, cp1, rfl⟩ := hx.shape
   have hbA : Below wr.heap.size wr (w4.alloc (.cells #[.bool nb1, .slice so1 n1 cp1] 78)) := hb4.alloc hb4.size _
   have hl4 := (Duo.new w4 (.bool nb1) (.slice so1 n1 cp1) rfl)
   have hxa := hx.below ((Below.refl w4.heap.size w4).alloc (Nat.le_refl _) (.cells #[.bool nb1, .slice so1 n1 cp1] 78))
   obtain ⟨e0, e1, e2⟩ := K.out.2.2.2.2.later hbA
   have hw4 := hb4.size
   have KA := Hid.mk (And.intro hbA (And.intro hl4 hxa))
   clear hbA hl4 hxa hx hb4 q0 q1 q2
   go_wp2_with fail
   refine (at_in _ q c t col ys L _ (HN.out.below (K.out.2.2.2.1.trans (KA.out.1.mono hwr))) htq hcol).mono ?_
   rintro e w5 ⟨x, rfl, hx, hb5⟩
   obtain ⟨nb2, so2, n2, cp2, rfl⟩ := hx.shape
   have hbB : Below wr.heap.size wr (w5.alloc (.cells #[.bool nb2, .slice so2 n2 cp2] 78)) := (KA.out.1.trans (hb5.mono (by simp; omega))).alloc (by have := hb5.size; simp at this; omega) _
   have hb55 := (Below.refl w5.heap.size w5).alloc (Nat.le_refl _) (.cells #[.bool nb2, .slice so2 n2 cp2] 78)
   have hlt4 : w4.heap.size < w5.heap.size := by have := hb5.size; simp at this; omega
   have hl5 := (KA.out.2.1.below hb5 (by simp)).below hb55 hlt4
   obtain ⟨d1, d2, -, -⟩ := hl5.cells
   have KB := Hid.mk (And.intro hbB (And.intro ((KA.out.2.2.below hb5).below hb55) (hx.below hb55)))
   clear hx hb5 hbB hb55 hl5 e0 e1 e2
   go_wp2_with fail
   refine (mul_any _ _ (zs.getD (row * q + t) 0) (ys.getD (t * c + col) 0) L L _ KB.out.2.1 KB.out.2.2 (by omega) (by omega)).mono ?_
   rintro e w6 ⟨x, rfl, hx, hb6⟩
   obtain ⟨nb3, so3, n3, cp3, rfl⟩ := hx.shape
   have hw5 : wr.heap.size ≤ w5.heap.size := by omega
   have hbC : Below wr.heap.size wr (w6.alloc (.cells #[.bool nb3, .slice so3 n3 cp3] 78)) := (KB.out.1.trans (hb6.mono (by simp; omega))).alloc (by have := hb6.size; simp at this; omega) _
   have hb66 := (Below.refl w6.heap.size w6).alloc (Nat.le_refl _) (.cells #[.bool nb3, .slice so3 n3 cp3] 78)
   have hD6 := K.out.1.below hbC (Array.getElem?_eq_some_iff.1 K.out.1).1
   have hI6 := K.out.2.1.below hbC
   clear d1 d2
   obtain ⟨d1, d2, d3, d4⟩ := hD6.cells
   have KC := Hid.mk (And.intro hbC (And.intro hD6 (And.intro hI6 (hx.below hb66))))
   clear hx hb6 hbC hb66 hD6 hI6
   go_wp2_with fail
   refine (add_any _ _ _ (zs.getD (row * q + t) 0 * ys.getD (t * c + col) 0) (L + L + 1 + t) (L + L) _ KC.out.2.2.1 KC.out.2.2.2 (by omega) (by omega)).mono ?_
   rintro e w7 ⟨x, rfl, hx, hb7⟩
   obtain ⟨nb4, so4, n4, cp4, rfl⟩ := hx.shape
   have hlt6 : sb < (w6.alloc (.cells #[.bool nb3, .slice so3 n3 cp3] 78)).heap.size := (Array.getElem?_eq_some_iff.1 KC.out.2.1).1
   have hbD : Below wr.heap.size wr w7 := KC.out.1.trans (hb7.mono KC.out.1.size)
   have hD7 := KC.out.2.1.below hb7 hlt6
   clear d1 d2 d3 d4
   obtain ⟨d1, d2, d3, d4⟩ := hD7.cells
   have KD := Hid.mk (And.intro hbD (And.intro hD7 hx))
   clear hx hb7 hbD hD7 hlt6
   go_wp2_with fail
   go_roundw
   case measure => simp [intOf]; omega
   case rel =>
    refine ⟨t + 1, nb4, so4, n4, cp4, by omega, by go_num, KD.out.2.1.put _ _, ?_, grown_put2 (grown_below K.out.2.2.1 KD.out.1), ((K.out.2.2.2.1.trans (KD.out.1.mono hwr)).setCell (by simp; omega) _).setCell (by simp; omega) _⟩
    exact (KD.out.2.2.duo KD.out.2.1 _ _).mono (by omega)
  ·have hte : t = q := by omega
   subst hte
   obtain ⟨d1, d2, d3, d4⟩ := K.out.1.cells
   have hR := FF.out.2.2.1
   have hRb : wr.heap[w.heap.size + 1 + 1]? = W1.heap[w.heap.size + 1 + 1]? := K.out.2.2.1.block _ (by have := FF.out.2.2.2; omega) (by have := HSB.out; simp; omega)
   have hRD : Duo wr (w.heap.size + 1 + 1) (.bool false) (.slice none 0 0) := by unfold Duo; rw [hRb]; exact hR
   have hcell := (hRD.put (.bool nb) (.slice so n ecap)).cells
   have HR := Hid.mk (And.intro hRD hcell)
   obtain ⟨r1, r2, r3, r4⟩ := hRD.cells
   clear hR hRb hRD hcell
   go_wp2_with fail
   obtain ⟨g1, g2, -, -⟩ := HR.out.2
   refine bodyPost_ret (v := .agg #[.bool nb, .slice so n ecap]) ?_ rfl ?_
   ·(simp [results, Tryd.results69, go_sem, g1, g2]; done)
   ·exact ⟨_, rfl, K.out.2.1.duo HR.out.1 _ _, (K.out.2.2.2.1.setCell (by simp; omega) _).setCell (by simp; omega) _⟩
open Go.RowKit
def ProdTo (r q c a e : Nat) (zs ys ms : List Int) : Prop := ∀ i j, i < r → j < c → (i < a ∨ (i = a ∧ j < e)) → ms.getD (i * c + j) 0 = dot (fun i j => zs.getD (i * q + j) 0) (fun i j => ys.getD (i * c + j) 0) i j q
theorem ProdTo.step {r q c a e : Nat} {zs ys ms : List Int} (h : ProdTo r q c a e zs ys ms) (hl : ms.length = r * c) (ha : a < r) (he : e < c) {z : Int} (hz : z = dot (fun i j => zs.getD (i * q + j) 0) (fun i j => ys.getD (i * c + j) 0) a e q) : ProdTo r q c a (e + 1) zs ys (ms.set (a * c + e) z) := by
 intro i j hi hj hd
 by_cases hij : i = a ∧ j = e
 ·obtain ⟨rfl, rfl⟩ := hij
  have : i * c + j < ms.length := by rw [hl]; exact idx_lt hi hj
  rw [← hz]
  simp [List.getD, this]
 ·have hne : a * c + e ≠ i * c + j := fun e' => by
   obtain ⟨h1, h2⟩ := idx_inj he hj e'
   exact hij ⟨h1.symm, h2.symm⟩
  rw [show (ms.set (a * c + e) z).getD (i * c + j) 0 = ms.getD (i * c + j) 0 from by simp [List.getD, List.getElem?_set_ne hne]]
  exact h i j hi hj (by omega)
theorem ProdTo.row {r q c a e : Nat} {zs ys ms : List Int} (h : ProdTo r q c a e zs ys ms) (he : c ≤ e) : ProdTo r q c (a + 1) 0 zs ys ms := fun i j hi hj hd => h i j hi hj (by omega)
def ProdOf (r q c : Nat) (zs ys ms : List Int) : Prop := ∀ i j, i < r → j < c → ms.getD (i * c + j) 0 = dot (fun i j => zs.getD (i * q + j) 0) (fun i j => ys.getD (i * c + j) 0) i j q
theorem set_rc (p g r c RC row col : Nat) (hRC : RC = r * c) (zs : List Int) (L : Nat) (x : Value) (z : Int) (w : World) (p0 : w.cell? ⟨p, 0, none⟩ = some (.int .i64 r)) (p1 : w.cell? ⟨p, 1, none⟩ = some (.int .i64 c))
 (p2 : w.cell? ⟨p, 2, none⟩ = some (.slice (some ⟨g, 0, none⟩) RC RC)) (hg : Grid w (.slice (some ⟨g, 0, none⟩) RC RC) RC zs L) (hx : IsI w x z L) (hr : r ≤ 99) (hc : c ≤ 99) (h1 : row < r) (h2 : col < c) :
 Calls Tryd.prog 70 #[.pointer (some ⟨p, 0, none⟩), .int .i64 row, .int .i64 col, x] w fun e w' => e = .returned (.tuple #[]) ∧ Grid w' (.slice (some ⟨g, 0, none⟩) RC RC) RC (zs.set (row * c + col) z) L ∧ w.grownBy w' (some g) ∧ KU w w' := by
 subst hRC
 exact set_in p g r c (r * c) row col zs L x z w p0 p1 p2 hg hx hr hc h1 h2
set_option maxRecDepth 100000 in
set_option maxHeartbeats 4000000 in
theorem gtimes_new (v u : Value) (r q c : Nat) (zs ys : List Int) (L : Nat) (w : World) (hm : IsM w v r q zs L) (hn : IsM w u q c ys L) (hL : L ≤ 200000000) :
 Calls Tryd.prog 44 #[v, u] w fun e w' => ∃ g ms, e = .returned (.agg #[.int .i64 r, .int .i64 c, .slice (some ⟨g, 0, none⟩) (r * c) (r * c)]) ∧ w.heap.size ≤ g ∧ Grid w' (.slice (some ⟨g, 0, none⟩) (r * c) (r * c)) (r * c) ms (L + L + 1 + q) ∧ ProdOf r q c zs ys ms ∧ Below w.heap.size w w' := by
 have HM := Hid.mk hm
 have HN := Hid.mk hn
 obtain ⟨hr, hq, sl, rfl, hg0⟩ := hm
 obtain ⟨ao, cap, rfl, -⟩ := hg0.shape
 obtain ⟨-, hc, sl', rfl, hg1⟩ := hn
 obtain ⟨bo, dap, rfl, -⟩ := hg1.shape
 clear hg0 hg1
 obtain ⟨N, hN⟩ : ∃ N, N = r * q := ⟨_, rfl⟩
 rw [← hN] at HM ⊢
 obtain ⟨M, hM⟩ : ∃ M, M = q * c := ⟨_, rfl⟩
 rw [← hM] at HN ⊢
 clear hN hM
 obtain ⟨RC, hRC⟩ : ∃ RC, RC = r * c := ⟨_, rfl⟩
 have HRC := Hid.mk hRC
 obtain ⟨W0, hW0⟩ : ∃ W0, W0 = ((w.alloc (.cells #[.int .i64 r, .int .i64 q, .slice ao N cap] 63)).alloc (.cells #[.int .i64 q, .int .i64 c, .slice bo M dap] 63)).alloc (.cells #[.int .i64 0, .int .i64 0, .slice none 0 0] 63) := ⟨_, rfl⟩
 have hz0 : W0.heap.size = w.heap.size + 3 := by rw [hW0]; simp
 have hm0 : Trio W0 w.heap.size (.int .i64 r) (.int .i64 q) (.slice ao N cap) := by
  rw [hW0]
  exact ⟨cell1 (cell1 (new_cell _ _ _ _ _ (by simp) rfl) _) _, cell1 (cell1 (new_cell _ _ _ _ _ (by simp) rfl) _) _, cell1 (cell1 (new_cell _ _ _ _ _ (by simp) rfl) _) _⟩
 have hn0 : Trio W0 (w.heap.size + 1) (.int .i64 q) (.int .i64 c) (.slice bo M dap) := by
  rw [hW0]
  exact ⟨cell1 (new_cell _ _ _ _ _ (by simp) rfl) _, cell1 (new_cell _ _ _ _ _ (by simp) rfl) _, cell1 (new_cell _ _ _ _ _ (by simp) rfl) _⟩
 have hr0 : W0.heap[w.heap.size + 2]? = some (.cells #[.int .i64 0, .int .i64 0, .slice none 0 0] 63 (0, 0)) := by
  rw [hW0]
  have := heap_alloc_new ((w.alloc (.cells #[.int .i64 r, .int .i64 q, .slice ao N cap] 63)).alloc (.cells #[.int .i64 q, .int .i64 c, .slice bo M dap] 63)) (.cells #[.int .i64 0, .int .i64 0, .slice none 0 0] 63)
  simpa using this
 have hb0 : Below w.heap.size w W0 := by
  rw [hW0]
  repeat (first | exact Below.refl _ _ | refine Below.alloc ?_ (by simp <;> omega) _)
 have F0 := Hid.mk (And.intro hm0 (And.intro hn0 (And.intro hr0 (And.intro hb0 (And.intro hz0 hW0)))))
 clear hm0 hn0 hr0 hb0 hz0 hW0 hRC
 go_enter Tryd.func44, Tryd.ntmps44
 go_wp2_with fail
 rw [← F0.out.2.2.2.2.2]
 refine (noughts_any r c _ hr hc).mono ?_
 rintro e w2 ⟨g, rfl, hgn, hg, hb⟩
 rw [← HRC.out] at hg ⊢
 have hz0 := F0.out.2.2.2.2.1
 have hbw : Below w.heap.size w w2 := F0.out.2.2.2.1.trans (hb.mono (by omega))
 have hgl : g < w2.heap.size := hg.ty.lt
 have hw2 := hb.size
 have F2 := Hid.mk (And.intro hg (And.intro hb hbw))
 clear hg hb hbw
 go_wp2_with fail
 obtain ⟨W3, hW3⟩ : ∃ W3, W3 = w2.alloc (.cells #[.int .i64 r, .int .i64 c, .slice (some ⟨g, 0, none⟩) RC RC] 63) := ⟨_, rfl⟩
 rw [← hW3]
 have hb23 : Below w2.heap.size w2 W3 := by rw [hW3]; exact (Below.refl _ _).alloc (Nat.le_refl _) _
 have hm3 : Trio W3 w.heap.size (.int .i64 r) (.int .i64 q) (.slice ao N cap) := (F0.out.1.later F2.out.2.1).later hb23
 have hn3 : Trio W3 (w.heap.size + 1) (.int .i64 q) (.int .i64 c) (.slice bo M dap) := (F0.out.2.1.later F2.out.2.1).later hb23
 have hp3 : Trio W3 w2.heap.size (.int .i64 r) (.int .i64 c) (.slice (some ⟨g, 0, none⟩) RC RC) := by
  rw [hW3]
  exact ⟨new_cell _ _ _ _ _ rfl rfl, new_cell _ _ _ _ _ rfl rfl, new_cell _ _ _ _ _ rfl rfl⟩
 have hres : W3.heap[w.heap.size + 2]? = some (.cells #[.int .i64 0, .int .i64 0, .slice none 0 0] 63 (0, 0)) := by
  rw [hb23.block _ (by omega), F2.out.2.1.block _ (by omega)]
  exact F0.out.2.2.1
 have hG3 : Grid W3 (.slice (some ⟨g, 0, none⟩) RC RC) RC (List.replicate RC 0) (L + L + 1 + q) := (F2.out.1.mono (Nat.zero_le _)).below hb23
 have hS : W3.heap.size = w2.heap.size + 1 := by rw [hW3]; simp
 have hB3 : Below w.heap.size w W3 := F2.out.2.2.trans (hb23.mono (by omega))
 have F3 := Hid.mk (And.intro hm3 (And.intro hn3 (And.intro hp3 (And.intro hres (And.intro hG3 (And.intro hS hB3))))))
 clear hm3 hn3 hp3 hres hG3 hB3 hW3 hb23
 go_loopw [6] (fun i wr => ∃ (a : Nat) (ms : List Int), a ≤ r ∧ i = .int .i64 a ∧ Grid wr (.slice (some ⟨g, 0, none⟩) RC RC) RC ms (L + L + 1 + q) ∧ W3.grownBy wr (some g) ∧ Below w.heap.size w wr ∧ Hid (ProdTo r q c a 0 zs ys ms)) (fun i _ => r - (intOf i).toNat)
 case atStart => exact ⟨0, _, Nat.zero_le _, rfl, F3.out.2.2.2.2.1, World.grownBy.refl _ _, F3.out.2.2.2.2.2.2, Hid.mk (fun i j _ _ hd => by omega)⟩
 case round =>
  obtain ⟨a, ms, ha, rfl, hG, hgr, hB, HI⟩ := hrel
  obtain ⟨q0, q1, q2⟩ := F3.out.1.grown hgr (by omega)
  have K := Hid.mk (And.intro hG (And.intro hgr hB))
  clear hG hgr hB
  by_cases har : a < r
  ·have hai : (a : Int) < (r : Int) := by omega
   go_wp2_with fail
   go_loopw [7] (fun i ws => ∃ (e : Nat) (ms : List Int), e ≤ c ∧ i = .int .i64 e ∧ Grid ws (.slice (some ⟨g, 0, none⟩) RC RC) RC ms (L + L + 1 + q) ∧ W3.grownBy ws (some g) ∧ Below w.heap.size w ws ∧ Hid (ProdTo r q c a e zs ys ms)) (fun i _ => c - (intOf i).toNat)
   case atStart => exact ⟨0, ms, Nat.zero_le _, rfl, K.out.1, K.out.2.1, K.out.2.2, HI⟩
   case round =>
    rename World => ws
    clear q0 q1 q2
    obtain ⟨e, ms, he, rfl, hG, hgr, hB, HI2⟩ := hrel
    obtain ⟨q0, q1, q2⟩ := F3.out.1.grown hgr (by omega)
    obtain ⟨p0, p1, p2⟩ := F3.out.2.1.grown hgr (by omega)
    have hwr := hB.size
    have K2 := Hid.mk (And.intro hG (And.intro hgr hB))
    clear hG hgr hB
    by_cases hec : e < c
    ·have hei : (e : Int) < (c : Int) := by omega
     go_wp2_with fail
     refine (dotm_any _ _ r q c a e zs ys L _ (HM.out.below K2.out.2.2) (HN.out.below K2.out.2.2) har hec hL).mono ?_
     rintro e9 w4 ⟨x, rfl, hx, hb4⟩
     obtain ⟨nb, so, n, ecap, rfl⟩ := hx.shape
     have hw4 := hb4.size
     have W5b := (Below.refl w4.heap.size w4).alloc (Nat.le_refl _) (.cells #[.bool nb, .slice so n ecap] 78)
     have hbA : Below ws.heap.size ws (w4.alloc (.cells #[.bool nb, .slice so n ecap] 78)) := hb4.trans (W5b.mono hw4)
     have hgrA := grown_below K2.out.2.1 hbA
     obtain ⟨s0, s1, s2⟩ := F3.out.2.2.1.grown hgrA (by omega)
     have K4 := Hid.mk (And.intro (And.intro s0 (And.intro s1 s2)) (And.intro (K2.out.1.below hbA) (And.intro (hx.below W5b) (And.intro hgrA (K2.out.2.2.trans (hbA.mono hwr))))))
     clear hx hb4 W5b hbA hgrA q0 q1 q2 p0 p1 p2
     go_wp2_with fail
     refine (set_rc w2.heap.size g r c RC a e HRC.out ms (L + L + 1 + q) _ _ _ K4.out.1.1 K4.out.1.2.1 K4.out.1.2.2 K4.out.2.1 K4.out.2.2.1 (by omega) (by omega) (by omega) (by omega)).mono ?_
     rintro e9 w6 ⟨rfl, a1, a2, -⟩
     have K6 := Hid.mk (And.intro a1 (And.intro (grown_trans K4.out.2.2.2.1 a2) (K4.out.2.2.2.2.grown a2 (by simp; omega) (fun j hj => by simp at hj; omega))))
     clear a1 a2 s0 s1 s2
     go_wp2_with fail
     go_roundw
     case measure => simp [intOf]; omega
     case rel =>
      refine ⟨e + 1, _, by omega, by go_num, K6.out.1, K6.out.2.1, K6.out.2.2, Hid.mk (HI2.out.step ?_ har hec rfl)⟩
      rw [← HRC.out]
      exact K2.out.1.1
    ·go_wp2_with fail
     go_roundw
     case measure => simp [intOf]; omega
     case rel => exact ⟨a + 1, ms, by omega, by go_num, K2.out.1, K2.out.2.1, K2.out.2.2, Hid.mk (HI2.out.row (by omega))⟩
  ·obtain ⟨s0, s1, s2⟩ := F3.out.2.2.1.grown K.out.2.1 (by omega)
   have hres : wr.heap[w.heap.size + 2]? = some (.cells #[.int .i64 0, .int .i64 0, .slice none 0 0] 63 (0, 0)) := by
    rw [K.out.2.1.block _ (by have := F3.out.2.2.2.2.2.1; omega) (by simp; omega)]; exact F3.out.2.2.2.1
   have r0 : wr.cell? ⟨w.heap.size + 1 + 1, 0, none⟩ = some (.int .i64 0) := by simp [World.cell?, hres]
   have r1 : wr.cell? ⟨w.heap.size + 1 + 1, 1, none⟩ = some (.int .i64 0) := by simp [World.cell?, hres]
   have r2 : wr.cell? ⟨w.heap.size + 1 + 1, 2, none⟩ = some (.slice none 0 0) := by simp [World.cell?, hres]
   have z0 : wr.frozen? ⟨w.heap.size + 1 + 1, 0, none⟩ = false := by simp [World.frozen?, hres]
   have z1 : wr.frozen? ⟨w.heap.size + 1 + 1, 1, none⟩ = false := by simp [World.frozen?, hres]
   have z2 : wr.frozen? ⟨w.heap.size + 1 + 1, 2, none⟩ = false := by simp [World.frozen?, hres]
   have HT : Hid (Ty wr (w.heap.size + 1 + 1) 63) := Hid.mk ⟨_, _, hres⟩
   clear hres
   go_wp2_with fail
   refine bodyPost_ret (v := .agg #[.int .i64 r, .int .i64 c, .slice (some ⟨g, 0, none⟩) RC RC]) ?_ rfl ?_
   ·(simp [results, Tryd.results44, go_sem, r0, r1, r2]; done)
   ·refine ⟨g, ms, by rw [← HRC.out], by omega, ?_, fun i j hi hj => HI.out i j hi hj (.inl (by omega)), ((K.out.2.2.setCell (by simp; omega) _).setCell (by simp; omega) _).setCell (by simp; omega) _⟩
    have hG := K.out.1.keep (KT.setCell (KT.setCell (KT.setCell (KT.refl _) HT.out (by decide) (by decide) (.int .i64 r)) (HT.out.setCell ⟨w.heap.size + 1 + 1, 0, none⟩ (.int .i64 r)) (by decide) (by decide) (.int .i64 c)) ((HT.out.setCell ⟨w.heap.size + 1 + 1, 0, none⟩ (.int .i64 r)).setCell ⟨w.heap.size + 1 + 1, 1, none⟩ (.int .i64 c)) (by decide) (by decide) (.slice (some ⟨g, 0, none⟩) RC RC) (o := 2))
    rw [← HRC.out]
    exact hG
theorem gtimes_any (v u : Value) (r q c : Nat) (zs ys : List Int) (L : Nat) (w : World) (hm : IsM w v r q zs L) (hn : IsM w u q c ys L) (hL : L ≤ 200000000) :
 Calls Tryd.prog 44 #[v, u] w fun e w' => ∃ x, e = .returned x ∧ (∃ ms, IsM w' x r c ms (L + L + 1 + q) ∧ ProdOf r q c zs ys ms) ∧ Below w.heap.size w w' := by
 refine (gtimes_new v u r q c zs ys L w hm hn hL).mono ?_
 rintro e w' ⟨g, ms, rfl, -, hG, hP, hb⟩
 exact ⟨_, rfl, ⟨ms, ⟨hm.1, hn.2.1, _, rfl, hG⟩, hP⟩, hb⟩
open Go.RowKit
open Go.RowKit
open Go.RowKit
open Go.RowKit
theorem IsI.tight {w : World} {v : Value} {z : Int} {L : Nat} (h : IsI w v z L) (hz : z.natAbs < 281474976710656) : IsI w v z 2 := by
 obtain ⟨sl, xs, h1, h2, h3, h4, h5⟩ := h
 refine ⟨sl, xs, h1, h2, h3, ?_, h5⟩
 rcases Nat.lt_or_ge 2 xs.length with h6 | h6
 ·exfalso
  have h7 := Lim_ge h2 (by intro e; rw [e] at h6; simp at h6)
  have h8 : 4294967296 ^ 2 ≤ 4294967296 ^ (xs.length - 1) := Nat.pow_le_pow_right (by decide) (by omega)
  omega
 ·exact h6
theorem IsM.tight {w : World} {v : Value} {r c L : Nat} {zs : List Int} (h : IsM w v r c zs L) (hf : FitsP r c zs) : IsM w v r c zs 2 := by
 obtain ⟨h1, h2, sl, h3, h4, cs, h5, h6⟩ := h
 refine ⟨h1, h2, sl, h3, h4, cs, h5, fun i hi => ?_⟩
 obtain ⟨a, b, e1, e2, e3⟩ := h6 i hi
 exact ⟨a, b, e1, e2, e3.tight (hf.2.2 i hi)⟩
def prodL (r q c : Nat) (zs ys : List Int) : List Int := (List.range (r * c)).map fun t => dot (fun i j => zs.getD (i * q + j) 0) (fun i j => ys.getD (i * c + j) 0) (t / c) (t % c) q
theorem prodL_len (r q c : Nat) (zs ys : List Int) : (prodL r q c zs ys).length = r * c := by simp [prodL]
theorem prodL_at {r q c : Nat} {zs ys : List Int} {i j : Nat} (hi : i < r) (hj : j < c) : (prodL r q c zs ys).getD (i * c + j) 0 = dot (fun i j => zs.getD (i * q + j) 0) (fun i j => ys.getD (i * c + j) 0) i j q := by
 have h1 : (i * c + j) / c = i := by rw [Nat.mul_comm, Nat.mul_add_div (by omega), Nat.div_eq_of_lt hj]; omega
 have h2 : (i * c + j) % c = j := by rw [Nat.mul_comm, Nat.mul_add_mod]; exact Nat.mod_eq_of_lt hj
 have h3 : i * c + j < r * c := idx_lt hi hj
 unfold prodL
 rw [List.getD, List.getElem?_map, List.getElem?_range h3]
 simp only [Option.map_some, Option.getD_some, h1, h2]
theorem prodL_eq {r q c : Nat} {zs ys ms : List Int} (hl : ms.length = r * c) (h : ProdOf r q c zs ys ms) : ms = prodL r q c zs ys := by
 apply List.ext_getElem (by rw [hl, prodL_len])
 intro t h1 h2
 have hc : 0 < c := by
  rcases Nat.eq_zero_or_pos c with h0 | h0
  ·subst h0; rw [Nat.mul_zero] at hl; omega
  ·exact h0
 have ht : t < r * c := by omega
 have h3 : t / c < r := by rw [Nat.div_lt_iff_lt_mul hc]; exact ht
 have h4 := Nat.mod_lt t hc
 have h5 : t / c * c + t % c = t := by rw [Nat.mul_comm]; exact Nat.div_add_mod t c
 have h6 := h (t / c) (t % c) h3 h4
 rw [← prodL_at h3 h4, h5] at h6
 simpa [List.getD, List.getElem?_eq_getElem h1, List.getElem?_eq_getElem h2] using h6
open Go.RowKit
abbrev set6 (V : World) (A B : Nat) (x1 x2 x3 y1 y2 y3 : Value) : World := (((((V.setCell ⟨A, 0, none⟩ x1).setCell ⟨A, 1, none⟩ x2).setCell ⟨A, 2, none⟩ x3).setCell ⟨B, 0, none⟩ y1).setCell ⟨B, 1, none⟩ y2).setCell ⟨B, 2, none⟩ y3
theorem set3_trio {V : World} {A : Nat} {u1 u2 u3 : Value} (h : Trio V A u1 u2 u3) (x1 x2 x3 : Value) : Trio (((V.setCell ⟨A, 0, none⟩ x1).setCell ⟨A, 1, none⟩ x2).setCell ⟨A, 2, none⟩ x3) A x1 x2 x3 := by
 obtain ⟨h0, h1, h2⟩ := h
 have o := fun (i j : Nat) (h : i ≠ j) (W : World) (v : Value) => World.cell?_setCell_other (w := W) (v := v) (a := ⟨A, i, none⟩) (b := ⟨A, j, none⟩) (fun e => h (congrArg Addr.off e))
 refine ⟨?_, ?_, ?_⟩
 ·exact (o 2 0 (by decide) _ _).trans ((o 1 0 (by decide) _ _).trans (World.cell?_setCell_same _ _ _ h0))
 ·exact (o 2 1 (by decide) _ _).trans (World.cell?_setCell_same _ _ _ ((o 0 1 (by decide) _ _).trans h1))
 ·exact World.cell?_setCell_same _ _ _ ((o 1 2 (by decide) _ _).trans ((o 0 2 (by decide) _ _).trans h2))
theorem set3_far {V : World} {A B : Nat} {u1 u2 u3 : Value} (h : Trio V A u1 u2 u3) (hne : B ≠ A) (x1 x2 x3 : Value) : Trio (((V.setCell ⟨B, 0, none⟩ x1).setCell ⟨B, 1, none⟩ x2).setCell ⟨B, 2, none⟩ x3) A u1 u2 u3 := by
 obtain ⟨h0, h1, h2⟩ := h
 have o := fun (i j : Nat) (W : World) (v : Value) => World.cell?_setCell_other (w := W) (v := v) (a := ⟨B, i, none⟩) (b := ⟨A, j, none⟩) (fun e => hne (congrArg Addr.block e))
 exact ⟨(o 2 0 _ _).trans ((o 1 0 _ _).trans ((o 0 0 _ _).trans h0)), (o 2 1 _ _).trans ((o 1 1 _ _).trans ((o 0 1 _ _).trans h1)), (o 2 2 _ _).trans ((o 1 2 _ _).trans ((o 0 2 _ _).trans h2))⟩
theorem set6_trio {V : World} {A B : Nat} {u1 u2 u3 v1 v2 v3 : Value} (hA : Trio V A u1 u2 u3) (hB : Trio V B v1 v2 v3) (hne : A ≠ B) (x1 x2 x3 y1 y2 y3 : Value) :
 Trio (set6 V A B x1 x2 x3 y1 y2 y3) A x1 x2 x3 ∧ Trio (set6 V A B x1 x2 x3 y1 y2 y3) B y1 y2 y3 :=
 ⟨set3_far (set3_trio hA x1 x2 x3) hne.symm y1 y2 y3, set3_trio (set3_far hB hne x1 x2 x3) y1 y2 y3⟩
theorem set6_below {V W : World} {n A B : Nat} (h : Below n W V) (hA : n ≤ A) (hB : n ≤ B) (x1 x2 x3 y1 y2 y3 : Value) : Below n W (set6 V A B x1 x2 x3 y1 y2 y3) :=
 (((((h.setCell hA x1).setCell hA x2).setCell hA x3).setCell hB y1).setCell hB y2).setCell hB y3
theorem set6_KT (V : World) {A B : Nat} {s t : TypeId} (hA : Ty V A s) (hB : Ty V B t) (s1 : s ≠ 117) (s2 : s ≠ 78) (t1 : t ≠ 117) (t2 : t ≠ 78) (x1 x2 x3 y1 y2 y3 : Value) : KT V (set6 V A B x1 x2 x3 y1 y2 y3) := by
 have a1 := hA.setCell ⟨A, 0, none⟩ x1
 have a2 := a1.setCell ⟨A, 1, none⟩ x2
 have b3 := ((hB.setCell ⟨A, 0, none⟩ x1).setCell ⟨A, 1, none⟩ x2).setCell ⟨A, 2, none⟩ x3
 have b4 := b3.setCell ⟨B, 0, none⟩ y1
 have b5 := b4.setCell ⟨B, 1, none⟩ y2
 exact (((((((KT.refl V).setCell hA s1 s2 x1).setCell a1 s1 s2 x2).setCell a2 s1 s2 x3).setCell b3 t1 t2 y1).setCell b4 t1 t2 y2).setCell b5 t1 t2 y3)
end Go.Proofs.YtfjbijpagaipnaaDoor
