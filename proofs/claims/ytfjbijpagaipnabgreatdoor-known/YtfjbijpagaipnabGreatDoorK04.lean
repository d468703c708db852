import Derived.Test.YtfjbijpagaipnabGreatDoorK03
namespace Go.Proofs.YtfjbijpagaipnabGreatDoor
open Go.RowKit
def Trio (w : World) (b : Nat) (x y z : Value) : Prop := w.cell? ⟨b, 0, none⟩ = some x ∧ w.cell? ⟨b, 1, none⟩ = some y ∧ w.cell? ⟨b, 2, none⟩ = some z
theorem Trio.later {w w' : World} {b : Nat} {x y z : Value} (h : Trio w b x y z) (hb : Below w.heap.size w w') : Trio w' b x y z := ⟨cell_later hb h.1, cell_later hb h.2.1, cell_later hb h.2.2⟩
theorem Trio.grown {w w' : World} {b s : Nat} {x y z : Value} (h : Trio w b x y z) (hg : w.grownBy w' (some s)) (hne : b ≠ s) : Trio w' b x y z := ⟨hg.cell h.1 (by simpa using hne), hg.cell h.2.1 (by simpa using hne), hg.cell h.2.2 (by simpa using hne)⟩
set_option maxRecDepth 100000 in
set_option maxHeartbeats 4000000 in
theorem dotm_any (v u : Value) (r q c row col : Nat) (zs ys : List Int) (L : Nat) (w : World) (hm : IsM w v r q zs L) (hn : IsM w u q c ys L) (hrow : row < r) (hcol : col < c) (hL : L ≤ 200000000) :
 Calls Tryz.prog 129 #[v, .int .i64 row, u, .int .i64 col] w fun e w' => ∃ x, e = .returned x ∧ IntOut w w' x (dot (fun i j => zs.getD (i * q + j) 0) (fun i j => ys.getD (i * c + j) 0) row col q) (L + L + 1 + q) := by
 have HM := Hid.mk hm
 have HN := Hid.mk hn
 obtain ⟨hr, hq, sl, rfl, hg0⟩ := hm
 obtain ⟨ao, cap, rfl, -⟩ := hg0.shape
 obtain ⟨-, hc, sl', rfl, hg1⟩ := hn
 obtain ⟨bo, dap, rfl, -⟩ := hg1.shape
 clear hg0 hg1
 obtain ⟨N, hN⟩ : ∃ N, N = r * q := ⟨_, rfl⟩
 rw [← hN] at HM ⊢
 obtain ⟨M, hM⟩ : ∃ M, M = q * c := ⟨_, rfl⟩
 rw [← hM] at HN ⊢
 clear hN hM
 go_enter Tryz.func129, Tryz.ntmps129
 go_wp2_with fail
 obtain ⟨W1, hW1⟩ : ∃ W1, W1 = (((w.alloc (.cells #[.int .i64 r, .int .i64 q, .slice ao N cap] 66)).alloc (.cells #[.int .i64 q, .int .i64 c, .slice bo M dap] 66)).alloc (.cells #[.bool false, .slice none 0 0] 79)).alloc (.cells #[.bool false, .slice none 0 0] 79) := ⟨_, rfl⟩
 rw [← hW1]
 have hB1 : Below w.heap.size w W1 := by
  rw [hW1]
  repeat (first | exact Below.refl _ _ | refine Below.alloc ?_ (by simp <;> omega) _)
 have hm1 : Trio W1 w.heap.size (.int .i64 r) (.int .i64 q) (.slice ao N cap) := by
  rw [hW1]
  exact ⟨cell3 (by simp) _ _ _, cell3 (by simp) _ _ _, cell3 (by simp) _ _ _⟩
 have hn1 : Trio W1 (w.heap.size + 1) (.int .i64 q) (.int .i64 c) (.slice bo M dap) := by
  rw [hW1]
  exact ⟨cell1 (cell1 (new_cell _ _ _ _ _ (by simp) rfl) _) _, cell1 (cell1 (new_cell _ _ _ _ _ (by simp) rfl) _) _, cell1 (cell1 (new_cell _ _ _ _ _ (by simp) rfl) _) _⟩
 have hd1 : Duo W1 (w.heap.size + 1 + 1 + 1) (.bool false) (.slice none 0 0) := by rw [hW1]; exact Duo.new _ _ _ (by simp)
 have hres : Duo W1 (w.heap.size + 1 + 1) (.bool false) (.slice none 0 0) := by
  rw [hW1]
  exact (Duo.new _ _ _ (by simp)).below ((Below.refl _ _).alloc (Nat.le_refl _) _) (by simp)
 obtain ⟨sb, hsb⟩ : ∃ sb, sb = w.heap.size + 1 + 1 + 1 := ⟨_, rfl⟩
 rw [← hsb] at hd1 ⊢
 have hsb1 : w.heap.size + 3 ≤ sb := by omega
 have hS1 : W1.heap.size = sb + 1 := by rw [hW1, hsb]; simp
 have FF := Hid.mk (And.intro hm1 (And.intro hn1 (And.intro hres hS1)))
 have H1 := Hid.mk (And.intro hd1 hB1)
 have HSB := Hid.mk hsb
 clear hm1 hn1 hres hd1 hB1 hW1 hS1 hsb
 go_loopw [10] (fun i wr => ∃ (t : Nat) (nb : Bool) (so : Option Addr) (n ecap : Nat), t ≤ q ∧ i = .int .i64 t ∧ Duo wr sb (.bool nb) (.slice so n ecap) ∧ IsI wr (.agg #[.bool nb, .slice so n ecap]) (dot (fun i j => zs.getD (i * q + j) 0) (fun i j => ys.getD (i * c + j) 0) row col t) (L + L + 1 + t) ∧ W1.grownBy wr (some sb) ∧ Below w.heap.size w wr) (fun i _ => q - (intOf i).toNat)
 case atStart => exact ⟨0, _, _, _, _, Nat.zero_le _, rfl, H1.out.1, IsI.zero _ _, World.grownBy.refl _ _, H1.out.2⟩
 case round =>
  obtain ⟨t, nb, so, n, ecap, ht, rfl, hD, hI, hgr, hB⟩ := hrel
  obtain ⟨q0, q1, q2⟩ := FF.out.1.grown hgr (by omega)
  have hnT := FF.out.2.1.grown hgr (by omega)
  have hwr := hB.size
  have K := Hid.mk (And.intro hD (And.intro hI (And.intro hgr (And.intro hB hnT))))
  clear hD hI hgr hB hnT
  by_cases htq : t < q
  ·have hti : (t : Int) < (q : Int) := by omega
   go_wp2_with fail
   refine (at_in _ r q row t zs L _ (HM.out.below K.out.2.2.2.1) hrow htq).mono ?_
   rintro e w4 ⟨x, rfl, hx, hb4⟩
   obtain ⟨nb1, so1, n1, cp1, rfl⟩ := hx.shape
   have hbA : Below wr.heap.size wr (w4.alloc (.cells #[.bool nb1, .slice so1 n1 cp1] 79)) := hb4.alloc hb4.size _
   have hl4 := (Duo.new w4 (.bool nb1) (.slice so1 n1 cp1) rfl)
   have hxa := hx.below ((Below.refl w4.heap.size w4).alloc (Nat.le_refl _) (.cells #[.bool nb1, .slice so1 n1 cp1] 79))
   obtain ⟨e0, e1, e2⟩ := K.out.2.2.2.2.later hbA
   have hw4 := hb4.size
   have KA := Hid.mk (And.intro hbA (And.intro hl4 hxa))
   clear hbA hl4 hxa hx hb4 q0 q1 q2
   go_wp2_with fail
   refine (at_in _ q c t col ys L _ (HN.out.below (K.out.2.2.2.1.trans (KA.out.1.mono hwr))) htq hcol).mono ?_
   rintro e w5 ⟨x, rfl, hx, hb5⟩
   obtain ⟨nb2, so2, n2, cp2, rfl⟩ := hx.shape
   have hbB : Below wr.heap.size wr (w5.alloc (.cells #[.bool nb2, .slice so2 n2 cp2] 79)) := (KA.out.1.trans (hb5.mono (by simp; omega))).alloc (by have := hb5.size; simp at this; omega) _
   have hb55 := (Below.refl w5.heap.size w5).alloc (Nat.le_refl _) (.cells #[.bool nb2, .slice so2 n2 cp2] 79)
   have hlt4 : w4.heap.size < w5.heap.size := by have := hb5.size; simp at this; omega
   have hl5 := (KA.out.2.1.below hb5 (by simp)).below hb55 hlt4
   obtain ⟨d1, d2, -, -⟩ := hl5.cells
   have KB := Hid.mk (And.intro hbB (And.intro ((KA.out.2.2.below hb5).below hb55) (hx.below hb55)))
   clear hx hb5 hbB hb55 hl5 e0 e1 e2
   go_wp2_with fail
   refine (mul_any _ _ (zs.getD (row * q + t) 0) (ys.getD (t * c + col) 0) L L _ KB.out.2.1 KB.out.2.2 (by omega) (by omega)).mono ?_
   rintro e w6 ⟨x, rfl, hx, hb6⟩
   obtain ⟨nb3, so3, n3, cp3, rfl⟩ := hx.shape
   have hw5 : wr.heap.size ≤ w5.heap.size := by omega
   have hbC : Below wr.heap.size wr (w6.alloc (.cells #[.bool nb3, .slice so3 n3 cp3] 79)) := (KB.out.1.trans (hb6.mono (by simp; omega))).alloc (by have := hb6.size; simp at this; omega) _
   have hb66 := (Below.refl w6.heap.size w6).alloc (Nat.le_refl _) (.cells #[.bool nb3, .slice so3 n3 cp3] 79)
   have hD6 := K.out.1.below hbC (Array.getElem?_eq_some_iff.1 K.out.1).1
   have hI6 := K.out.2.1.below hbC
   clear d1 d2
   obtain ⟨d1, d2, d3, d4⟩ := hD6.cells
   have KC := Hid.mk (And.intro hbC (And.intro hD6 (And.intro hI6 (hx.below hb66))))
   clear hx hb6 hbC hb66 hD6 hI6
   go_wp2_with fail
   refine (add_any _ _ _ (zs.getD (row * q + t) 0 * ys.getD (t * c + col) 0) (L + L + 1 + t) (L + L) _ KC.out.2.2.1 KC.out.2.2.2 (by omega) (by omega)).mono ?_
   rintro e w7 ⟨x, rfl, hx, hb7⟩
   obtain ⟨nb4, so4, n4, cp4, rfl⟩ := hx.shape
   have hlt6 : sb < (w6.alloc (.cells #[.bool nb3, .slice so3 n3 cp3] 79)).heap.size := (Array.getElem?_eq_some_iff.1 KC.out.2.1).1
   have hbD : Below wr.heap.size wr w7 := KC.out.1.trans (hb7.mono KC.out.1.size)
   have hD7 := KC.out.2.1.below hb7 hlt6
   clear d1 d2 d3 d4
   obtain ⟨d1, d2, d3, d4⟩ := hD7.cells
   have KD := Hid.mk (And.intro hbD (And.intro hD7 hx))
   clear hx hb7 hbD hD7 hlt6
   go_wp2_with fail
   go_roundw
   case measure => simp [intOf]; omega
   case rel =>
    refine ⟨t + 1, nb4, so4, n4, cp4, by omega, by go_num, KD.out.2.1.put _ _, ?_, grown_put2 (grown_below K.out.2.2.1 KD.out.1), ((K.out.2.2.2.1.trans (KD.out.1.mono hwr)).setCell (by simp; omega) _).setCell (by simp; omega) _⟩
    exact (KD.out.2.2.duo KD.out.2.1 _ _).mono (by omega)
  ·have hte : t = q := by omega
   subst hte
   obtain ⟨d1, d2, d3, d4⟩ := K.out.1.cells
   have hR := FF.out.2.2.1
   have hRb : wr.heap[w.heap.size + 1 + 1]? = W1.heap[w.heap.size + 1 + 1]? := K.out.2.2.1.block _ (by have := FF.out.2.2.2; omega) (by have := HSB.out; simp; omega)
   have hRD : Duo wr (w.heap.size + 1 + 1) (.bool false) (.slice none 0 0) := by unfold Duo; rw [hRb]; exact hR
   have hcell := (hRD.put (.bool nb) (.slice so n ecap)).cells
   have HR := Hid.mk (And.intro hRD hcell)
   obtain ⟨r1, r2, r3, r4⟩ := hRD.cells
   clear hR hRb hRD hcell
   go_wp2_with fail
   obtain ⟨g1, g2, -, -⟩ := HR.out.2
   refine bodyPost_ret (v := .agg #[.bool nb, .slice so n ecap]) ?_ rfl ?_
   ·(simp [results, Tryz.results129, go_sem, g1, g2]; done)
   ·exact ⟨_, rfl, K.out.2.1.duo HR.out.1 _ _, (K.out.2.2.2.1.setCell (by simp; omega) _).setCell (by simp; omega) _⟩
open Go.RowKit
def Tri (w : World) (b o : Nat) (x y z : Value) : Prop := w.cell? ⟨b, o, none⟩ = some x ∧ w.cell? ⟨b, o + 1, none⟩ = some y ∧ w.cell? ⟨b, o + 2, none⟩ = some z
theorem Tri.later {w w' : World} {b o : Nat} {x y z : Value} (h : Tri w b o x y z) (hb : Below w.heap.size w w') : Tri w' b o x y z := ⟨cell_later hb h.1, cell_later hb h.2.1, cell_later hb h.2.2⟩
theorem Tri.grown {w w' : World} {b o s : Nat} {x y z : Value} (h : Tri w b o x y z) (hg : w.grownBy w' (some s)) (hne : b ≠ s) : Tri w' b o x y z := ⟨hg.cell h.1 (by simpa using hne), hg.cell h.2.1 (by simpa using hne), hg.cell h.2.2 (by simpa using hne)⟩
set_option maxRecDepth 100000 in
set_option maxHeartbeats 2000000 in
theorem set_o (p o g r c cap row col : Nat) (zs : List Int) (L : Nat) (x : Value) (z : Int) (w : World) (hp : Tri w p o (.int .i64 r) (.int .i64 c) (.slice (some ⟨g, 0, none⟩) (r * c) cap)) (hg : Grid w (.slice (some ⟨g, 0, none⟩) (r * c) cap) (r * c) zs L) (hx : IsI w x z L) (hr : r ≤ 99) (hc : c ≤ 99) (h1 : row < r) (h2 : col < c) :
 Calls Tryz.prog 92 #[.pointer (some ⟨p, o, none⟩), .int .i64 row, .int .i64 col, x] w fun e w' => e = .returned (.tuple #[]) ∧ Grid w' (.slice (some ⟨g, 0, none⟩) (r * c) cap) (r * c) (zs.set (row * c + col) z) L ∧ w.grownBy w' (some g) ∧ KU w w' := by
 obtain ⟨p0, p1, p2⟩ := hp
 have hk := idx_lt h1 h2
 obtain ⟨nb, bo, m, ecap, c1, c2, -⟩ := hg.cell _ hk
 have f1 := hg.frozen (2 * (row * c + col))
 have f2 := hg.frozen (2 * (row * c + col) + 1)
 have hgl : g < w.heap.size := World.block_lt_of_cell? w _ c1
 have hh := hasB_in h1 h2
 obtain ⟨b1, b2⟩ := idx_bd hr hc h1
 obtain ⟨sl, xs, rfl, q2, q3, q4, q5⟩ := id hx
 obtain ⟨ao, dcap, rfl, -⟩ := q5.open_
 rw [Nat.mul_comm 2] at c1 c2 f1 f2
 have d1 := cell2 c1
 have d2 := cell2 c2
 have d3 := frozen2 f1 hgl
 have d4 := frozen2 f2 hgl
 have d5 : ∀ v, ∀ o1 o2, (((w.setCell ⟨g, (row * c + col) * 2, none⟩ v).alloc o1).alloc o2).cell? ⟨g, (row * c + col) * 2 + 1, none⟩ = some (.slice bo m ecap) := fun v => cell2 (by rw [World.cell?_setCell_other _ _ _ _ (by simp)]; exact c2)
 have d6 : ∀ v, ∀ o1 o2, (((w.setCell ⟨g, (row * c + col) * 2, none⟩ v).alloc o1).alloc o2).frozen? ⟨g, (row * c + col) * 2 + 1, none⟩ = false := fun v => frozen2 (by rw [World.frozen?_setCell]; exact f2) (by simp [World.setCell]; exact hgl)
 have e0 := cell2 p0
 have e1 := cell2 p1
 have e2 := cell2 p2
 have e0' := cell1 p0
 have e1' := cell1 p1
 have e2' := cell1 p2
 have HX := Hid.mk hx
 have HG := Hid.mk hg
 have HK := Hid.mk hk
 clear hx hg q2 q3 q4 q5 p0 p1 p2 c1 c2 f1 f2
 obtain ⟨nz, hnz⟩ : ∃ nz, nz = decide (z < 0) := ⟨_, rfl⟩
 rw [← hnz] at HX ⊢
 clear hnz
 obtain ⟨N, hN⟩ : ∃ N, N = r * c := ⟨_, rfl⟩
 rw [← hN] at hk e2 e2' HG ⊢
 have hk2 : (row : Int) * (c : Int) + (col : Int) < (N : Int) := by rw [← Int.natCast_mul]; omega
 clear hN HK
 go_enter Tryz.func92, Tryz.ntmps92
 go_wp2_with (go_at_call 99; refine (has_raw _ _ _ _ _ _ _ _).mono ?_; rintro e w' ⟨rfl, rfl⟩; rw [hh])
 go_region
 all_goals
  go_end0
  obtain ⟨S1, S2⟩ := HG.out.stored _ hk HX.out
  rw [Nat.mul_comm 2] at S1 S2
  refine ⟨rfl, ?_, ?_, ?_⟩
  ·refine S1.below ?_
   repeat (first | exact Below.refl _ _ | refine Below.drew ?_ | refine Below.alloc ?_ (by simp <;> omega) _)
  ·refine grown_set2 (i := (row * c + col) * 2) (j := (row * c + col) * 2 + 1) (a := .bool nz) (b := .slice ao xs.length dcap) ?_
   repeat (first | exact Below.refl _ _ | refine Below.drew ?_ | refine Below.alloc ?_ (by simp <;> omega) _)
  ·refine S2.trans (KU.of_below ?_)
   repeat (first | exact Below.refl _ _ | refine Below.drew ?_ | refine Below.alloc ?_ (by simp <;> omega) _)
structure MatO (w : World) (p o g r c : Nat) (zs : List Int) (L : Nat) : Prop where
 hr : r ≤ 99
 hc : c ≤ 99
 tri : Tri w p o (.int .i64 r) (.int .i64 c) (.slice (some ⟨g, 0, none⟩) (r * c) (r * c))
 grid : Grid w (.slice (some ⟨g, 0, none⟩) (r * c) (r * c)) (r * c) zs L
theorem MatO.isM {w : World} {p o g r c L : Nat} {zs : List Int} (h : MatO w p o g r c zs L) : IsM w (.agg #[.int .i64 r, .int .i64 c, .slice (some ⟨g, 0, none⟩) (r * c) (r * c)]) r c zs L := ⟨h.hr, h.hc, _, rfl, h.grid⟩
theorem MatO.later {w w' : World} {p o g r c L : Nat} {zs : List Int} (h : MatO w p o g r c zs L) (hb : Below w.heap.size w w') : MatO w' p o g r c zs L := ⟨h.hr, h.hc, h.tri.later hb, h.grid.below hb⟩
theorem MatO.mono {w : World} {p o g r c L M : Nat} {zs : List Int} (h : MatO w p o g r c zs L) (hLM : L ≤ M) : MatO w p o g r c zs M := by
 refine ⟨h.hr, h.hc, h.tri, ?_⟩
 obtain ⟨h0, cs, h1, h2⟩ := h.grid
 refine ⟨h0, cs, h1, fun i hi => ?_⟩
 obtain ⟨a, b, e1, e2, e3⟩ := h2 i hi
 exact ⟨a, b, e1, e2, e3.mono hLM⟩
theorem MatO.len {w : World} {p o g r c L : Nat} {zs : List Int} (h : MatO w p o g r c zs L) : zs.length = r * c := h.grid.1
theorem MatO.glt {w : World} {p o g r c L : Nat} {zs : List Int} (h : MatO w p o g r c zs L) : g < w.heap.size := h.grid.ty.lt
theorem MatO.plt {w : World} {p o g r c L : Nat} {zs : List Int} (h : MatO w p o g r c zs L) : p < w.heap.size := World.block_lt_of_cell? w _ h.tri.1
theorem set_m (p o g r c row col : Nat) (zs : List Int) (L : Nat) (x : Value) (z : Int) (w : World) (hm : MatO w p o g r c zs L) (hpg : p ≠ g) (hx : IsI w x z L) (h1 : row < r) (h2 : col < c) :
 Calls Tryz.prog 92 #[.pointer (some ⟨p, o, none⟩), .int .i64 row, .int .i64 col, x] w fun e w' => e = .returned (.tuple #[]) ∧ MatO w' p o g r c (zs.set (row * c + col) z) L ∧ w.grownBy w' (some g) ∧ KU w w' := by
 refine (set_o p o g r c (r * c) row col zs L x z w hm.tri hm.grid hx hm.hr hm.hc h1 h2).mono ?_
 rintro e w' ⟨rfl, a, b, d⟩
 exact ⟨rfl, ⟨hm.hr, hm.hc, hm.tri.grown b hpg, a⟩, b, d⟩
def ent (c : Nat) (zs : List Int) (i j : Nat) : Int := zs.getD (i * c + j) 0
theorem ent_set (ms : List Int) (r c : Nat) (hl : ms.length = r * c) (a e i j : Nat) (z : Int) (ha : a < r) (he : e < c) (hj : j < c) : ent c (ms.set (a * c + e) z) i j = if i = a ∧ j = e then z else ent c ms i j := by
 unfold ent
 by_cases h : i = a ∧ j = e
 ·obtain ⟨rfl, rfl⟩ := h
  have : i * c + j < ms.length := by rw [hl]; exact idx_lt ha he
  rw [if_pos ⟨rfl, rfl⟩]
  simp [List.getD, this]
 ·rw [if_neg h]
  have hne : a * c + e ≠ i * c + j := fun e' => by
   obtain ⟨h1, h2⟩ := idx_inj he hj e'
   exact h ⟨h1.symm, h2.symm⟩
  simp [List.getD, List.getElem?_set_ne hne]
open Go.RowKit
theorem KU.of_grown {w w' : World} {g : Nat} {t : TypeId} (h : w.grownBy w' (some g)) (ht : Ty w g t) (hne : t ≠ 144) : KU w w' := by
 intro b arr hb
 rw [h.block b (Array.getElem?_eq_some_iff.1 hb).1 ?_]
 ·exact hb
 ·intro e
  simp only [Option.some.injEq] at e
  subst e
  obtain ⟨c, fr, hc⟩ := ht
  rw [hb] at hc
  simp only [Option.some.injEq, Obj.cells.injEq] at hc
  exact hne hc.2.1.symm
theorem Grid.grown {w w' : World} {g : Nat} {sl : Value} {n L : Nat} {zs : List Int} (h : Grid w sl n zs L) (hg : w.grownBy w' (some g)) (hn : ∀ a m c, sl = .slice (some a) m c → a.block ≠ g) (hk : KU w w') : Grid w' sl n zs L := by
 obtain ⟨h0, cs, h1, h2⟩ := h
 refine ⟨h0, cs, ⟨h1.1, ?_⟩, fun i hi => ?_⟩
 ·rcases h1.2 with h3 | ⟨g', cap, cur, hv, hg', hh, r⟩
  ·exact .inl h3
  ·exact .inr ⟨g', cap, cur, hv, hg', by rw [hg.block g' (Array.getElem?_eq_some_iff.1 hh).1 (by simpa using hn _ _ _ hv)]; exact hh, r⟩
 ·obtain ⟨a, b, e1, e2, e3⟩ := h2 i hi
  exact ⟨a, b, e1, e2, e3.keep hk⟩
theorem MatO.other {w w' : World} {p o g g' r c L : Nat} {zs : List Int} (h : MatO w p o g r c zs L) (hg : w.grownBy w' (some g')) (hk : KU w w') (hp : p ≠ g') (hne : g ≠ g') : MatO w' p o g r c zs L :=
 ⟨h.hr, h.hc, h.tri.grown hg hp, h.grid.grown hg (fun a m c e => by
   simp only [Value.slice.injEq, Option.some.injEq] at e
   obtain ⟨rfl, -, -⟩ := e
   exact hne) hk⟩
def sw (a b i : Nat) : Nat := if i = a then b else if i = b then a else i
def SwTo (r c a b e : Nat) (zs ms : List Int) : Prop := ∀ i j, i < r → j < c → ent c ms i j = ent c zs (if j < e then sw a b i else i) j
theorem SwTo.step {r c a b e : Nat} {zs ms : List Int} (h : SwTo r c a b e zs ms) (hl : ms.length = r * c) (ha : a < r) (hb : b < r) (he : e < c) {u l : Int} (hu : u = ent c ms a e) (hlo : l = ent c ms b e) : SwTo r c a b (e + 1) zs ((ms.set (a * c + e) l).set (b * c + e) u) := by
 intro i j hi hj
 rw [ent_set _ r c (by simpa using hl) b e i j u hb he hj, ent_set ms r c hl a e i j l ha he hj]
 have hua := h a e ha he
 have hlb := h b e hb he
 rw [if_neg (Nat.lt_irrefl e)] at hua hlb
 by_cases hje : j = e
 ·subst hje
  rw [if_pos (Nat.lt_succ_self j)]
  by_cases hib : i = b
  ·rw [if_pos ⟨hib, rfl⟩, hu, hua, hib]
   unfold sw
   by_cases hba : b = a
   ·rw [if_pos hba, hba]
   ·rw [if_neg hba, if_pos rfl]
  ·rw [if_neg (fun h => hib h.1)]
   by_cases hia : i = a
   ·rw [if_pos ⟨hia, rfl⟩, hlo, hlb, hia]
    unfold sw
    rw [if_pos rfl]
   ·rw [if_neg (fun h => hia h.1), h i j hi hj, if_neg (Nat.lt_irrefl j)]
    unfold sw
    rw [if_neg hia, if_neg hib]
 ·rw [if_neg (fun h => hje h.2), if_neg (fun h => hje h.2), h i j hi hj]
  by_cases hlt : j < e
  ·rw [if_pos hlt, if_pos (by omega)]
  ·rw [if_neg hlt, if_neg (by omega)]
def StepO (w w' : World) (p o g r c : Nat) (f : Nat → Nat → Int) (L : Nat) : Prop := (∃ ms, MatO w' p o g r c ms L ∧ ∀ i j, i < r → j < c → ent c ms i j = f i j) ∧ w.grownBy w' (some g)
set_option maxRecDepth 100000 in
set_option maxHeartbeats 4000000 in
theorem swapRows_any (p o g r c a b : Nat) (zs : List Int) (L : Nat) (w : World) (hm : MatO w p o g r c zs L) (hpg : p ≠ g) (ha : a < r) (hb : b < r) :
 Calls Tryz.prog 133 #[.pointer (some ⟨p, o, none⟩), .int .i64 a, .int .i64 b] w fun e w' => e = .returned (.tuple #[]) ∧ StepO w w' p o g r c (fun i j => ent c zs (sw a b i) j) L := by
 have H := Hid.mk hm
 have hr := hm.hr
 have hc := hm.hc
 clear hm
 go_enter Tryz.func133, Tryz.ntmps133
 go_wp2_with fail
 go_loopw [6] (fun i wr => ∃ (e : Nat) (ms : List Int), e ≤ c ∧ i = .int .i64 e ∧ Hid (MatO wr p o g r c ms L ∧ w.grownBy wr (some g) ∧ SwTo r c a b e zs ms)) (fun i _ => c - (intOf i).toNat)
 case atStart => exact ⟨0, zs, Nat.zero_le _, rfl, Hid.mk ⟨H.out, World.grownBy.refl _ _, fun i j _ _ => by simp⟩⟩
 case round =>
  obtain ⟨e, ms, he, rfl, HI⟩ := hrel
  obtain ⟨q0, q1, q2⟩ := HI.out.1.tri
  have hgl := HI.out.1.glt
  have hpl := HI.out.1.plt
  by_cases hec : e < c
  ·have hei : (e : Int) < (c : Int) := by omega
   go_wp2_with fail
   refine (at_in _ r c a e ms L _ HI.out.1.isM ha hec).mono ?_
   rintro e9 w1 ⟨x, rfl, hx, hb1⟩
   obtain ⟨nb1, so1, n1, cp1, rfl⟩ := hx.shape
   have hb11 := (Below.refl w1.heap.size w1).alloc (Nat.le_refl _) (.cells #[.bool nb1, .slice so1 n1 cp1] 79)
   have hbA := hb1.trans (hb11.mono hb1.size)
   have hw1 := hb1.size
   obtain ⟨d0, d1, d2⟩ := HI.out.1.tri.later hbA
   have K1 := Hid.mk (And.intro hbA (And.intro (hx.below hb11) (Duo.new w1 (.bool nb1) (.slice so1 n1 cp1) rfl)))
   clear hx hb1 hb11 hbA q0 q1 q2
   go_wp2_with fail
   refine (at_in _ r c b e ms L _ (HI.out.1.isM.below K1.out.1) hb hec).mono ?_
   rintro e9 w2 ⟨x, rfl, hx, hb2⟩
   obtain ⟨nb2, so2, n2, cp2, rfl⟩ := hx.shape
   have hs2 : w1.heap.size + 1 ≤ w2.heap.size := by have := hb2.size; simpa using this
   have hb22 := (Below.refl w2.heap.size w2).alloc (Nat.le_refl _) (.cells #[.bool nb2, .slice so2 n2 cp2] 79)
   have hbB := K1.out.1.trans ((hb2.trans (hb22.mono hb2.size)).mono (by simp; omega))
   have hU := (K1.out.2.2.below hb2 (by simp)).below hb22 (by omega)
   have K2 := Hid.mk (And.intro hbB (And.intro (hx.below hb22) (And.intro ((K1.out.2.1.below hb2).below hb22) hU)))
   clear hx hb2 hb22 hbB hU d0 d1 d2
   go_wp2_with fail
   refine (set_m p o g r c a e ms L _ _ _ (HI.out.1.later K2.out.1) hpg K2.out.2.1 ha hec).mono ?_
   rintro e9 w3 ⟨rfl, hM3, hgr3, hku3⟩
   have hU3 : Duo w3 w1.heap.size (.bool nb1) (.slice so1 n1 cp1) := by
    unfold Duo
    rw [hgr3.block _ (by simp; omega) (by simp; omega)]
    exact K2.out.2.2.2
   obtain ⟨u0, u1, -, -⟩ := hU3.cells
   have K3 := Hid.mk (And.intro hM3 (And.intro hgr3 (K2.out.2.2.1.keep hku3)))
   clear hM3 hgr3 hku3 hU3
   go_wp2_with fail
   refine (set_m p o g r c b e _ L _ _ _ K3.out.1 hpg K3.out.2.2 hb hec).mono ?_
   rintro e9 w4 ⟨rfl, hM4, hgr4, -⟩
   have K4 := Hid.mk (And.intro hM4 (grown_trans (grown_trans (grown_below HI.out.2.1 K2.out.1) K3.out.2.1) hgr4))
   clear hM4 hgr4 u0 u1
   go_wp2_with fail
   go_roundw
   case measure => simp [intOf]; omega
   case rel => exact ⟨e + 1, _, by omega, by go_num, Hid.mk ⟨K4.out.1, K4.out.2, HI.out.2.2.step HI.out.1.len ha hb hec rfl rfl⟩⟩
  ·have hei : ¬ (e : Int) < (c : Int) := by omega
   have hee : e = c := by omega
   have HEE := Hid.mk hee
   clear hee
   go_wp2_with fail
   go_end0
   refine ⟨rfl, ⟨ms, HI.out.1, fun i j hi hj => ?_⟩, HI.out.2.1⟩
   rw [HI.out.2.2 i j hi hj, if_pos (by have := HEE.out; omega)]
def SwCTo (r c a b e : Nat) (zs ms : List Int) : Prop := ∀ i j, i < r → j < c → ent c ms i j = ent c zs i (if i < e then sw a b j else j)
theorem SwCTo.step {r c a b e : Nat} {zs ms : List Int} (h : SwCTo r c a b e zs ms) (hl : ms.length = r * c) (ha : a < c) (hb : b < c) (he : e < r) {u l : Int} (hu : u = ent c ms e a) (hlo : l = ent c ms e b) : SwCTo r c a b (e + 1) zs ((ms.set (e * c + a) l).set (e * c + b) u) := by
 intro i j hi hj
 rw [ent_set _ r c (by simpa using hl) e b i j u he hb hj, ent_set ms r c hl e a i j l he ha hj]
 have hua := h e a he ha
 have hlb := h e b he hb
 rw [if_neg (Nat.lt_irrefl e)] at hua hlb
 by_cases hie : i = e
 ·subst hie
  rw [if_pos (Nat.lt_succ_self i)]
  by_cases hjb : j = b
  ·rw [if_pos ⟨rfl, hjb⟩, hu, hua, hjb]
   unfold sw
   by_cases hba : b = a
   ·rw [if_pos hba, hba]
   ·rw [if_neg hba, if_pos rfl]
  ·rw [if_neg (fun h => hjb h.2)]
   by_cases hja : j = a
   ·rw [if_pos ⟨rfl, hja⟩, hlo, hlb, hja]
    unfold sw
    rw [if_pos rfl]
   ·rw [if_neg (fun h => hja h.2), h i j hi hj, if_neg (Nat.lt_irrefl i)]
    unfold sw
    rw [if_neg hja, if_neg hjb]
 ·rw [if_neg (fun h => hie h.1), if_neg (fun h => hie h.1), h i j hi hj]
  by_cases hlt : i < e
  ·rw [if_pos hlt, if_pos (by omega)]
  ·rw [if_neg hlt, if_neg (by omega)]
set_option maxRecDepth 100000 in
set_option maxHeartbeats 4000000 in
theorem swapCols_any (p o g r c a b : Nat) (zs : List Int) (L : Nat) (w : World) (hm : MatO w p o g r c zs L) (hpg : p ≠ g) (ha : a < c) (hb : b < c) :
 Calls Tryz.prog 134 #[.pointer (some ⟨p, o, none⟩), .int .i64 a, .int .i64 b] w fun e w' => e = .returned (.tuple #[]) ∧ StepO w w' p o g r c (fun i j => ent c zs i (sw a b j)) L := by
 have H := Hid.mk hm
 have hr := hm.hr
 have hc := hm.hc
 clear hm
 go_enter Tryz.func134, Tryz.ntmps134
 go_wp2_with fail
 go_loopw [6] (fun i wr => ∃ (e : Nat) (ms : List Int), e ≤ r ∧ i = .int .i64 e ∧ Hid (MatO wr p o g r c ms L ∧ w.grownBy wr (some g) ∧ SwCTo r c a b e zs ms)) (fun i _ => r - (intOf i).toNat)
 case atStart => exact ⟨0, zs, Nat.zero_le _, rfl, Hid.mk ⟨H.out, World.grownBy.refl _ _, fun i j _ _ => by simp⟩⟩
 case round =>
  obtain ⟨e, ms, he, rfl, HI⟩ := hrel
  obtain ⟨q0, q1, q2⟩ := HI.out.1.tri
  have hgl := HI.out.1.glt
  have hpl := HI.out.1.plt
  by_cases hec : e < r
  ·have hei : (e : Int) < (r : Int) := by omega
   go_wp2_with fail
   refine (at_in _ r c e a ms L _ HI.out.1.isM hec ha).mono ?_
   rintro e9 w1 ⟨x, rfl, hx, hb1⟩
   obtain ⟨nb1, so1, n1, cp1, rfl⟩ := hx.shape
   have hb11 := (Below.refl w1.heap.size w1).alloc (Nat.le_refl _) (.cells #[.bool nb1, .slice so1 n1 cp1] 79)
   have hbA := hb1.trans (hb11.mono hb1.size)
   have hw1 := hb1.size
   obtain ⟨d0, d1, d2⟩ := HI.out.1.tri.later hbA
   have K1 := Hid.mk (And.intro hbA (And.intro (hx.below hb11) (Duo.new w1 (.bool nb1) (.slice so1 n1 cp1) rfl)))
   clear hx hb1 hb11 hbA q0 q1 q2
   go_wp2_with fail
   refine (at_in _ r c e b ms L _ (HI.out.1.isM.below K1.out.1) hec hb).mono ?_
   rintro e9 w2 ⟨x, rfl, hx, hb2⟩
   obtain ⟨nb2, so2, n2, cp2, rfl⟩ := hx.shape
   have hs2 : w1.heap.size + 1 ≤ w2.heap.size := by have := hb2.size; simpa using this
   have hb22 := (Below.refl w2.heap.size w2).alloc (Nat.le_refl _) (.cells #[.bool nb2, .slice so2 n2 cp2] 79)
   have hbB := K1.out.1.trans ((hb2.trans (hb22.mono hb2.size)).mono (by simp; omega))
   have hU := (K1.out.2.2.below hb2 (by simp)).below hb22 (by omega)
   have K2 := Hid.mk (And.intro hbB (And.intro (hx.below hb22) (And.intro ((K1.out.2.1.below hb2).below hb22) hU)))
   clear hx hb2 hb22 hbB hU d0 d1 d2
   go_wp2_with fail
   refine (set_m p o g r c e a ms L _ _ _ (HI.out.1.later K2.out.1) hpg K2.out.2.1 hec ha).mono ?_
   rintro e9 w3 ⟨rfl, hM3, hgr3, hku3⟩
   have hU3 : Duo w3 w1.heap.size (.bool nb1) (.slice so1 n1 cp1) := by
    unfold Duo
    rw [hgr3.block _ (by simp; omega) (by simp; omega)]
    exact K2.out.2.2.2
   obtain ⟨u0, u1, -, -⟩ := hU3.cells
   have K3 := Hid.mk (And.intro hM3 (And.intro hgr3 (K2.out.2.2.1.keep hku3)))
   clear hM3 hgr3 hku3 hU3
   go_wp2_with fail
   refine (set_m p o g r c e b _ L _ _ _ K3.out.1 hpg K3.out.2.2 hec hb).mono ?_
   rintro e9 w4 ⟨rfl, hM4, hgr4, -⟩
   have K4 := Hid.mk (And.intro hM4 (grown_trans (grown_trans (grown_below HI.out.2.1 K2.out.1) K3.out.2.1) hgr4))
   clear hM4 hgr4 u0 u1
   go_wp2_with fail
   go_roundw
   case measure => simp [intOf]; omega
   case rel => exact ⟨e + 1, _, by omega, by go_num, Hid.mk ⟨K4.out.1, K4.out.2, HI.out.2.2.step HI.out.1.len ha hb hec rfl rfl⟩⟩
  ·have hei : ¬ (e : Int) < (r : Int) := by omega
   have hee : e = r := by omega
   have HEE := Hid.mk hee
   clear hee
   go_wp2_with fail
   go_end0
   refine ⟨rfl, ⟨ms, HI.out.1, fun i j hi hj => ?_⟩, HI.out.2.1⟩
   rw [HI.out.2.2 i j hi hj, if_pos (by have := HEE.out; omega)]
open Go.RowKit
set_option maxRecDepth 100000 in
set_option maxHeartbeats 4000000 in
theorem turnRow_any (p o g r c a : Nat) (zs : List Int) (L : Nat) (w : World) (hm : MatO w p o g r c zs L) (hpg : p ≠ g) (ha : a < r) :
 Calls Tryz.prog 137 #[.pointer (some ⟨p, o, none⟩), .int .i64 a] w fun e w' => e = .returned (.tuple #[]) ∧ StepO w w' p o g r c (fun i j => if i = a then -ent c zs i j else ent c zs i j) L := by
 have H := Hid.mk hm
 have hr := hm.hr
 have hc := hm.hc
 obtain ⟨F, hF⟩ : ∃ F : Nat → Nat → Int, F = fun i j => if i = a then -ent c zs i j else ent c zs i j := ⟨_, rfl⟩
 rw [← hF]
 have HF := Hid.mk hF
 clear hm hF
 go_enter Tryz.func137, Tryz.ntmps137
 go_wp2_with fail
 go_loopw [4] (fun i wr => ∃ (e : Nat) (ms : List Int), e ≤ c ∧ i = .int .i64 e ∧ Hid (MatO wr p o g r c ms L ∧ w.grownBy wr (some g) ∧ ∀ i j, i < r → j < c → ent c ms i j = if j < e then F i j else ent c zs i j)) (fun i _ => c - (intOf i).toNat)
 case atStart => exact ⟨0, zs, Nat.zero_le _, rfl, Hid.mk ⟨H.out, World.grownBy.refl _ _, fun i j _ _ => by simp⟩⟩
 case round =>
  obtain ⟨e, ms, he, rfl, HI⟩ := hrel
  obtain ⟨q0, q1, q2⟩ := HI.out.1.tri
  have hgl := HI.out.1.glt
  have hpl := HI.out.1.plt
  by_cases hec : e < c
  ·have hei : (e : Int) < (c : Int) := by omega
   go_wp2_with fail
   refine (at_in _ r c a e ms L _ HI.out.1.isM ha hec).mono ?_
   rintro e9 w1 ⟨x, rfl, hx, hb1⟩
   obtain ⟨nb1, so1, n1, cp1, rfl⟩ := hx.shape
   have K1 := Hid.mk (And.intro hx hb1)
   have hw1 := hb1.size
   clear hx hb1
   go_wp2_with fail
   refine (neg_any _ _ L _ K1.out.1).mono ?_
   rintro e9 w2 ⟨x, rfl, hx, hb2⟩
   obtain ⟨nb2, so2, n2, cp2, rfl⟩ := hx.shape
   have hw2 := hb2.size
   have hb22 := (Below.refl w2.heap.size w2).alloc (Nat.le_refl _) (.cells #[.bool nb2, .slice so2 n2 cp2] 79)
   have hbB := K1.out.2.trans ((hb2.trans (hb22.mono hw2)).mono hw1)
   have K2 := Hid.mk (And.intro hbB (hx.below hb22))
   clear hx hb2 hb22 hbB q0 q1 q2
   go_wp2_with fail
   refine (set_m p o g r c a e ms L _ _ _ (HI.out.1.later K2.out.1) hpg K2.out.2 ha hec).mono ?_
   rintro e9 w3 ⟨rfl, hM3, hgr3, -⟩
   have K3 := Hid.mk (And.intro hM3 (grown_trans (grown_below HI.out.2.1 K2.out.1) hgr3))
   clear hM3 hgr3
   go_wp2_with fail
   go_roundw
   case measure => simp [intOf]; omega
   case rel =>
    refine ⟨e + 1, _, by omega, by go_num, Hid.mk ⟨K3.out.1, K3.out.2, fun i j hi hj => ?_⟩⟩
    rw [ent_set ms r c HI.out.1.len a e i j _ ha hec hj]
    have h1 := HI.out.2.2 i j hi hj
    have h2 := HI.out.2.2 a e ha hec
    rw [if_neg (Nat.lt_irrefl e)] at h2
    by_cases hij : i = a ∧ j = e
    ·obtain ⟨rfl, rfl⟩ := hij
     rw [if_pos ⟨rfl, rfl⟩, if_pos (Nat.lt_succ_self j), HF.out]
     show -ent c ms i j = _
     rw [h2]
     exact (if_pos rfl).symm
    ·rw [if_neg hij, h1]
     by_cases hje : j < e
     ·rw [if_pos hje, if_pos (by omega)]
     ·rw [if_neg hje]
      by_cases hj2 : j < e + 1
      ·rw [if_pos hj2, HF.out]
       show _ = if i = a then _ else _
       rw [if_neg (fun hia => hij ⟨hia, by omega⟩)]
      ·rw [if_neg hj2]
  ·have hei : ¬ (e : Int) < (c : Int) := by omega
   have hee : e = c := by omega
   have HEE := Hid.mk hee
   clear hee
   go_wp2_with fail
   go_end0
   refine ⟨rfl, ⟨ms, HI.out.1, fun i j hi hj => ?_⟩, HI.out.2.1⟩
   rw [HI.out.2.2 i j hi hj, if_pos (by have := HEE.out; omega)]
set_option maxRecDepth 100000 in
set_option maxHeartbeats 4000000 in
theorem turnCol_any (p o g r c a : Nat) (zs : List Int) (L : Nat) (w : World) (hm : MatO w p o g r c zs L) (hpg : p ≠ g) (ha : a < c) :
 Calls Tryz.prog 138 #[.pointer (some ⟨p, o, none⟩), .int .i64 a] w fun e w' => e = .returned (.tuple #[]) ∧ StepO w w' p o g r c (fun i j => if j = a then -ent c zs i j else ent c zs i j) L := by
 have H := Hid.mk hm
 have hr := hm.hr
 have hc := hm.hc
 obtain ⟨F, hF⟩ : ∃ F : Nat → Nat → Int, F = fun i j => if j = a then -ent c zs i j else ent c zs i j := ⟨_, rfl⟩
 rw [← hF]
 have HF := Hid.mk hF
 clear hm hF
 go_enter Tryz.func138, Tryz.ntmps138
 go_wp2_with fail
 go_loopw [4] (fun i wr => ∃ (e : Nat) (ms : List Int), e ≤ r ∧ i = .int .i64 e ∧ Hid (MatO wr p o g r c ms L ∧ w.grownBy wr (some g) ∧ ∀ i j, i < r → j < c → ent c ms i j = if i < e then F i j else ent c zs i j)) (fun i _ => r - (intOf i).toNat)
 case atStart => exact ⟨0, zs, Nat.zero_le _, rfl, Hid.mk ⟨H.out, World.grownBy.refl _ _, fun i j _ _ => by simp⟩⟩
 case round =>
  obtain ⟨e, ms, he, rfl, HI⟩ := hrel
  obtain ⟨q0, q1, q2⟩ := HI.out.1.tri
  have hgl := HI.out.1.glt
  have hpl := HI.out.1.plt
  by_cases hec : e < r
  ·have hei : (e : Int) < (r : Int) := by omega
   go_wp2_with fail
   refine (at_in _ r c e a ms L _ HI.out.1.isM hec ha).mono ?_
   rintro e9 w1 ⟨x, rfl, hx, hb1⟩
   obtain ⟨nb1, so1, n1, cp1, rfl⟩ := hx.shape
   have K1 := Hid.mk (And.intro hx hb1)
   have hw1 := hb1.size
   clear hx hb1
   go_wp2_with fail
   refine (neg_any _ _ L _ K1.out.1).mono ?_
   rintro e9 w2 ⟨x, rfl, hx, hb2⟩
   obtain ⟨nb2, so2, n2, cp2, rfl⟩ := hx.shape
   have hw2 := hb2.size
   have hb22 := (Below.refl w2.heap.size w2).alloc (Nat.le_refl _) (.cells #[.bool nb2, .slice so2 n2 cp2] 79)
   have hbB := K1.out.2.trans ((hb2.trans (hb22.mono hw2)).mono hw1)
   have K2 := Hid.mk (And.intro hbB (hx.below hb22))
   clear hx hb2 hb22 hbB q0 q1 q2
   go_wp2_with fail
   refine (set_m p o g r c e a ms L _ _ _ (HI.out.1.later K2.out.1) hpg K2.out.2 hec ha).mono ?_
   rintro e9 w3 ⟨rfl, hM3, hgr3, -⟩
   have K3 := Hid.mk (And.intro hM3 (grown_trans (grown_below HI.out.2.1 K2.out.1) hgr3))
   clear hM3 hgr3
   go_wp2_with fail
   go_roundw
   case measure => simp [intOf]; omega
   case rel =>
    refine ⟨e + 1, _, by omega, by go_num, Hid.mk ⟨K3.out.1, K3.out.2, fun i j hi hj => ?_⟩⟩
    rw [ent_set ms r c HI.out.1.len e a i j _ hec ha hj]
    have h1 := HI.out.2.2 i j hi hj
    have h2 := HI.out.2.2 e a hec ha
    rw [if_neg (Nat.lt_irrefl e)] at h2
    by_cases hij : i = e ∧ j = a
    ·obtain ⟨rfl, rfl⟩ := hij
     rw [if_pos ⟨rfl, rfl⟩, if_pos (Nat.lt_succ_self i), HF.out]
     show -ent c ms i j = _
     rw [h2]
     exact (if_pos rfl).symm
    ·rw [if_neg hij, h1]
     by_cases hje : i < e
     ·rw [if_pos hje, if_pos (by omega)]
     ·rw [if_neg hje]
      by_cases hj2 : i < e + 1
      ·rw [if_pos hj2, HF.out]
       show _ = if j = a then _ else _
       rw [if_neg (fun hja => hij ⟨by omega, hja⟩)]
      ·rw [if_neg hj2]
  ·have hei : ¬ (e : Int) < (r : Int) := by omega
   have hee : e = r := by omega
   have HEE := Hid.mk hee
   clear hee
   go_wp2_with fail
   go_end0
   refine ⟨rfl, ⟨ms, HI.out.1, fun i j hi hj => ?_⟩, HI.out.2.1⟩
   rw [HI.out.2.2 i j hi hj, if_pos (by have := HEE.out; omega)]
end Go.Proofs.YtfjbijpagaipnabGreatDoor
