/- notation.reader: entry, side, where the text goes on as it should. -/
import Derived.Test.YtjhcbenldfplcaaDoorRd
import Derived.Test.YtjhcbenldfplcaaDoorDet
namespace Go.Proofs.YtjhcbenldfplcaaDoor
open Go.RowKit

/-- A box with two cells, of a whole number. -/
def Two (w : World) (b : Nat) (x y : Value) : Prop := w.heap[b]? = some (.cells #[x, y] 66 (0, 0))
theorem Two.lt {w : World} {b : Nat} {x y : Value} (h : Two w b x y) : b < w.heap.size := (Array.getElem?_eq_some_iff.1 h).1
theorem Two.below {w w' : World} {b : Nat} {x y : Value} (h : Two w b x y) (hb : Below w.heap.size w w') : Two w' b x y := by unfold Two; rw [hb.block b h.lt]; exact h
theorem Two.fr {w w' : World} {p b : Nat} {x y : Value} (h : Two w b x y) (hf : Fr p w w') (hne : b ≠ p) : Two w' b x y := by unfold Two; rw [hf.1.block b h.lt (by simpa using hne)]; exact h
theorem Two.new (w : World) (x y : Value) {b : Nat} (hb : b = w.heap.size) : Two (w.alloc (.cells #[x, y] 66)) b x y := by rw [hb]; exact heap_alloc_new w _
theorem Two.ty {w : World} {b : Nat} {x y : Value} (h : Two w b x y) : Ty w b 66 := ⟨_, _, h⟩
theorem Two.cells {w : World} {b : Nat} {x y : Value} (h : Two w b x y) : w.cell? ⟨b, 0, none⟩ = some x ∧ w.cell? ⟨b, 1, none⟩ = some y ∧ w.frozen? ⟨b, 0, none⟩ = false ∧ w.frozen? ⟨b, 1, none⟩ = false := by
  unfold Two at h
  refine ⟨?_, ?_, ?_, ?_⟩ <;> simp [World.cell?, World.frozen?, h]
theorem Fr.setNew {p b o : Nat} {w w' : World} (h : Fr p w w') (hb : w.heap.size ≤ b) (u : Value) : Fr p w (w'.setCell ⟨b, o, none⟩ u) := by
  refine ⟨⟨h.1.os, h.1.tape, h.1.output, by have := h.1.size; simp [World.setCell]; omega, fun k hk hne => ?_⟩, fun i arr hi => ?_, fun i arr hi => ?_⟩
  · rw [Below.heap_setCell _ _ _ _ (by simp; omega)]; exact h.1.block k hk hne
  · have := (Array.getElem?_eq_some_iff.1 hi).1
    rw [Below.heap_setCell _ _ _ _ (by simp; omega)]; exact h.2.1 i arr hi
  · have := (Array.getElem?_eq_some_iff.1 hi).1
    rw [Below.heap_setCell _ _ _ _ (by simp; omega)]; exact h.2.2 i arr hi
theorem Fr.alloc {p : Nat} {w w' : World} (h : Fr p w w') (o : Obj) : Fr p w (w'.alloc o) := h.trans (Fr.of_below ((Below.refl _ _).alloc (Nat.le_refl _) _))
theorem Rd.setOther {w : World} {p b o : Nat} {s : ByteArray} {q : Nat} (h : Rd w p s q) (hne : b ≠ p) (u : Value) : Rd (w.setCell ⟨b, o, none⟩ u) p s q := by
  unfold Rd; rw [Below.heap_setCell _ _ _ _ (by simp; omega)]; exact h

theorem Rd.move0 {w : World} {p : Nat} {s : ByteArray} {q : Nat} (h : Rd w p s q) {z : Int} {q' : Nat} (hz : z = q') : Rd (w.setCell ⟨p, 1, none⟩ (.int .i64 z)) p s q' ∧ Fr p w (w.setCell ⟨p, 1, none⟩ (.int .i64 z)) := h.move hz 0
/-- The token of a whole number. -/
def Tok (tk : List UInt8) (z : Int) : Prop := (Run tk ∧ z = decval tk) ∨ (∃ ds, tk = 45 :: ds ∧ Run ds ∧ ds ≠ [48] ∧ z = -(decval ds : Int))

set_option maxRecDepth 100000 in
set_option maxHeartbeats 2000000 in
theorem entry_plus (p : Nat) (s : ByteArray) (a : Nat) (tk l : List UInt8) (w : World) (h : Rd w p s a) (hr : Rem s a (tk ++ l)) (hs : s.size ≤ 4000) (hd : Run tk) (hl : Stops l) :
    Calls Tryd.prog 54 #[.pointer (some ⟨p, 0, none⟩)] w fun e w' => ∃ x, e = .returned x ∧ IsI w' x (decval tk) tk.length ∧ Rd w' p s (a + tk.length) ∧ Fr p w w' := by
  have H := Hid.mk h
  have HR := Hid.mk hr
  have HD := Hid.mk hd
  have HL := Hid.mk hl
  have hpl := h.lt
  obtain ⟨d, r, hdr⟩ : ∃ d r, tk = d :: r := by
    cases tk with
    | nil => exact absurd rfl hd.1
    | cons d r => exact ⟨d, r, rfl⟩
  have hrem : Rem s a (d :: (r ++ l)) := by rw [← List.cons_append, ← hdr]; exact hr
  have hdd := hd.2.1 d (by rw [hdr]; simp)
  have hb : ((d.toNat : Int) == 45) = false := beq_eq_false_iff_ne.2 (by omega)
  have htl : tk.length ≤ s.size := by have := hr.app.1; omega
  have HREM := Hid.mk hrem
  clear h hr hd hl hdr hrem hdd
  go_enter Tryd.func54, Tryd.ntmps54
  go_wp2_with fail
  refine (sees_some p s a 45 d (r ++ l) _ (H.out.below ((Below.refl _ _).alloc (Nat.le_refl _) _)) HREM.out (by omega)).mono ?_
  rintro e w' ⟨rfl, n, rfl⟩
  rw [hb]
  have hT0 : Two ((w.alloc (.cells #[.bool false, .slice none 0 0] 66)).drewN n) w.heap.size (.bool false) (.slice none 0 0) := Two.new w _ _ rfl
  have hF0 : Fr p w ((w.alloc (.cells #[.bool false, .slice none 0 0] 66)).drewN n) := Fr.of_below (below_drewN ((Below.refl _ _).alloc (Nat.le_refl _) _) _)
  have hR0 : Rd ((w.alloc (.cells #[.bool false, .slice none 0 0] 66)).drewN n) p s a := H.out.below (below_drewN ((Below.refl _ _).alloc (Nat.le_refl _) _) _)
  have H0 := Hid.mk (And.intro hT0 (And.intro hF0 hR0))
  clear hT0 hF0 hR0
  go_wp2_with fail
  refine (digits_ok p s a tk l _ H0.out.2.2 HR.out (by omega) HD.out HL.out).mono ?_
  rintro e w2 ⟨rfl, hR2, hF2⟩
  have hT2 := H0.out.1.fr hF2 (by omega)
  have hF2' := H0.out.2.1.trans hF2
  have H2 := Hid.mk (And.intro hT2 (And.intro hF2' hR2))
  clear H0 hT2 hF2 hR2 hF2'
  go_wp2_with fail
  refine (fromDigits_any ⟨tk.toArray⟩ _ (by show tk.toArray.size ≤ 4000; simp; omega) (by simpa using HD.out.2.1)).mono ?_
  rintro e w3 ⟨x, rfl, hx, hb3⟩
  obtain ⟨nb, bo, m, ecap, rfl⟩ := hx.shape
  have hT3 := H2.out.1.below hb3
  obtain ⟨t1, t2, t3, t4⟩ := hT3.cells
  have H3 := Hid.mk (And.intro hT3 (And.intro (H2.out.2.1.trans (Fr.of_below hb3)) (And.intro (H2.out.2.2.below hb3) hx)))
  clear hT3 hx hb3 H2
  go_wp2_with fail
  refine bodyPost_ret (v := .agg #[.bool nb, .slice bo m ecap]) ?_ rfl ?_
  · (simp [results, Tryd.results54, go_sem, t1, t2]; done)
  · obtain ⟨hT3, hF3, hR3, hx⟩ := H3.out
    refine ⟨_, rfl, ?_, (hR3.setOther (by omega) _).setOther (by omega) _, (hF3.setNew (Nat.le_refl _) _).setNew (Nat.le_refl _) _⟩
    have hx' : IsI w3 (.agg #[.bool nb, .slice bo m ecap]) (decval tk) tk.length := hx
    exact hx'.keep (KU.setCell (KU.setCell (KU.refl _) hT3.ty (by decide) _) (hT3.ty.setCell _ _) (by decide) _)

set_option maxRecDepth 100000 in
set_option maxHeartbeats 2000000 in
theorem entry_minus (p : Nat) (s : ByteArray) (a : Nat) (ds l : List UInt8) (w : World) (h : Rd w p s a) (hr : Rem s a (45 :: (ds ++ l))) (hs : s.size ≤ 4000) (hd : Run ds) (hl : Stops l) (hne : ds ≠ [48]) :
    Calls Tryd.prog 54 #[.pointer (some ⟨p, 0, none⟩)] w fun e w' => ∃ x, e = .returned x ∧ IsI w' x (-(decval ds : Int)) ds.length ∧ Rd w' p s (a + 1 + ds.length) ∧ Fr p w w' := by
  have H := Hid.mk h
  have HR := Hid.mk hr
  have HD := Hid.mk hd
  have HL := Hid.mk hl
  have hpl := h.lt
  obtain ⟨hq, -, hr1⟩ := hr.cons
  have HR1 := Hid.mk hr1
  have hb : (((45 : UInt8).toNat : Int) == 45) = true := by decide
  have htl : ds.length ≤ s.size := by have := hr1.app.1; omega
  have HNE := Hid.mk hne
  clear h hr hd hl hr1 hne
  go_enter Tryd.func54, Tryd.ntmps54
  go_wp2_with fail
  refine (sees_some p s a 45 45 (ds ++ l) _ (H.out.below ((Below.refl _ _).alloc (Nat.le_refl _) _)) HR.out (by omega)).mono ?_
  rintro e w' ⟨rfl, n, rfl⟩
  rw [hb]
  obtain ⟨X, hX⟩ : ∃ X, X = (w.alloc (.cells #[.bool false, .slice none 0 0] 66)).drewN n := ⟨_, rfl⟩
  have hT0 : Two X w.heap.size (.bool false) (.slice none 0 0) := by rw [hX]; exact Two.new w _ _ rfl
  have hF0 : Fr p w X := by rw [hX]; exact Fr.of_below (below_drewN ((Below.refl _ _).alloc (Nat.le_refl _) _) _)
  have hR0 : Rd X p s a := by rw [hX]; exact H.out.below (below_drewN ((Below.refl _ _).alloc (Nat.le_refl _) _) _)
  obtain ⟨c0, c1, c2, c3, c4⟩ := hR0.cells
  rw [← hX]
  have H0 := Hid.mk (And.intro hT0 (And.intro hF0 hR0))
  clear hT0 hF0 hR0 hX
  go_wp2_with fail
  have M := H0.out.2.2.move0 (z := (a : Int) + 1) (q' := a + 1) (by omega)
  refine (digits_ok p s (a + 1) ds l _ M.1 HR1.out (by omega) HD.out HL.out).mono ?_
  rintro e w2 ⟨rfl, hR2, hF2⟩
  have hT2 := (H0.out.1.fr M.2 (by omega)).fr hF2 (by omega)
  have hF2' := (H0.out.2.1.trans M.2).trans hF2
  have H2 := Hid.mk (And.intro hT2 (And.intro hF2' hR2))
  clear H0 hT2 hF2 hR2 hF2' M c0 c1 c2 c3 c4
  have hne : (ds == [48]) = false := beq_eq_false_iff_ne.2 HNE.out
  go_wp2_with fail
  refine (fromDigits_any ⟨ds.toArray⟩ _ (by show ds.toArray.size ≤ 4000; simp; omega) (by simpa using HD.out.2.1)).mono ?_
  rintro e w3 ⟨x, rfl, hx, hb3⟩
  have H3 := Hid.mk (And.intro (H2.out.1.below hb3) (And.intro (H2.out.2.1.trans (Fr.of_below hb3)) (And.intro (H2.out.2.2.below hb3) hx)))
  clear hx hb3 H2
  go_wp2_with fail
  refine (neg_any _ _ _ _ H3.out.2.2.2).mono ?_
  rintro e w4 ⟨y, rfl, hy, hb4⟩
  obtain ⟨nb, bo, m, ecap, rfl⟩ := hy.shape
  have hT4 := H3.out.1.below hb4
  obtain ⟨t1, t2, t3, t4⟩ := hT4.cells
  have H4 := Hid.mk (And.intro hT4 (And.intro (H3.out.2.1.trans (Fr.of_below hb4)) (And.intro (H3.out.2.2.1.below hb4) hy)))
  clear hT4 hy hb4 H3
  go_wp2_with fail
  refine bodyPost_ret (v := .agg #[.bool nb, .slice bo m ecap]) ?_ rfl ?_
  · (simp [results, Tryd.results54, go_sem, t1, t2]; done)
  · obtain ⟨hT3, hF3, hR3, hx⟩ := H4.out
    have hx' : IsI w4 (.agg #[.bool nb, .slice bo m ecap]) (-(decval ds : Int)) ds.length := hx
    exact ⟨_, rfl, hx'.keep (KU.setCell (KU.setCell (KU.refl _) hT3.ty (by decide) _) (hT3.ty.setCell _ _) (by decide) _), (hR3.setOther (by omega) _).setOther (by omega) _, (hF3.setNew (Nat.le_refl _) _).setNew (Nat.le_refl _) _⟩
theorem entry_ok (p : Nat) (s : ByteArray) (a : Nat) (tk l : List UInt8) (z : Int) (w : World) (h : Rd w p s a) (hr : Rem s a (tk ++ l)) (hs : s.size ≤ 4000) (ht : Tok tk z) (hl : Stops l) :
    Calls Tryd.prog 54 #[.pointer (some ⟨p, 0, none⟩)] w fun e w' => ∃ x, e = .returned x ∧ IsI w' x z tk.length ∧ Rd w' p s (a + tk.length) ∧ Fr p w w' := by
  rcases ht with ⟨h1, rfl⟩ | ⟨ds, rfl, h1, h2, rfl⟩
  · exact entry_plus p s a tk l w h hr hs h1 hl
  · refine (entry_minus p s a ds l w h hr hs h1 hl h2).mono ?_
    rintro e w' ⟨x, rfl, hx, hR, hF⟩
    exact ⟨x, rfl, hx.mono (by simp), by rw [List.length_cons, show a + (ds.length + 1) = a + 1 + ds.length from by omega]; exact hR, hF⟩
end Go.Proofs.YtjhcbenldfplcaaDoor
