import Derived.Test.YtfjbijpagaipnaaGreatDoorC04
import Derived.Test.YtfjbijpagaipnaaGreatDoorC07
/- grid.Matrix.Det. -/
namespace Go.Proofs.YtfjbijpagaipnaaGreatDoor
open Go.RowKit

def sumF : Nat → (Nat → Int) → Int
  | 0, _ => 0
  | k + 1, f => sumF k f + f k
def signed (c : Nat) (z : Int) : Int := if c % 2 = 1 then -z else z
def detF : Nat → (Nat → Nat → Int) → Int
  | 0, _ => 1
  | n + 1, f => sumF (n + 1) fun c => signed c (f 0 c * detF n fun i j => f (i + 1) (skip c j))
/-- zs holds the matrix f, of n rows and columns. -/
def Rep (n : Nat) (zs : List Int) (f : Nat → Nat → Int) : Prop := ∀ i j, i < n → j < n → zs.getD (i * n + j) 0 = f i j
theorem Rep.minor {n col : Nat} {zs ms : List Int} {f : Nat → Nat → Int} (h : Rep (n + 1) zs f) (hm : MinorOf (n + 1) (n + 1) col zs ms) : Rep n ms fun i j => f (i + 1) (skip col j) := by
  intro i j hi hj
  have := hm i j (by omega) (by omega)
  simp only [Nat.add_sub_cancel] at this
  rw [this]
  exact h (i + 1) (skip col j) (by omega) (by unfold skip; split <;> omega)
/-- How many limbs a determinant's number takes at the most. -/
def LD (L : Nat) : Nat → Nat
  | 0 => 2
  | n + 1 => L + LD L n + (n + 1)
theorem LD_mono (L : Nat) (n : Nat) : LD L n ≤ LD L (n + 1) := by rw [LD]; omega

/-- The boxes of Det's own: the matrix at b, the sum at d. -/
def Boxes (w : World) (b d r c : Nat) (sl : Value) (nb : Bool) (s : Value) : Prop :=
  w.cell? ⟨b, 0, none⟩ = some (.int .i64 r) ∧ w.cell? ⟨b, 1, none⟩ = some (.int .i64 c) ∧ w.cell? ⟨b, 2, none⟩ = some sl ∧ w.cell? ⟨d, 0, none⟩ = some (.bool nb) ∧ w.cell? ⟨d, 1, none⟩ = some s ∧
    w.frozen? ⟨d, 0, none⟩ = false ∧ w.frozen? ⟨d, 1, none⟩ = false
theorem Boxes.lt {w : World} {b d r c : Nat} {sl : Value} {nb : Bool} {s : Value} (h : Boxes w b d r c sl nb s) : b < w.heap.size ∧ d < w.heap.size := ⟨World.block_lt_of_cell? w _ h.1, World.block_lt_of_cell? w _ h.2.2.2.1⟩
theorem Boxes.below {w w' : World} {b d r c : Nat} {sl : Value} {nb : Bool} {s : Value} (h : Boxes w b d r c sl nb s) (hb : Below w.heap.size w w') : Boxes w' b d r c sl nb s := by
  have hl := h.lt.2
  obtain ⟨h1, h2, h3, h4, h5, h6, h7⟩ := h
  exact ⟨cell_later hb h1, cell_later hb h2, cell_later hb h3, cell_later hb h4, cell_later hb h5, by rw [hb.frozen (p := ⟨d, 0, none⟩) hl]; exact h6, by rw [hb.frozen (p := ⟨d, 1, none⟩) hl]; exact h7⟩
/-- The sum is written. -/
theorem Boxes.put {w : World} {b d r c : Nat} {sl : Value} {nb nb' : Bool} {s s' : Value} (h : Boxes w b d r c sl nb s) (hne : b ≠ d) : Boxes ((w.setCell ⟨d, 0, none⟩ (.bool nb')).setCell ⟨d, 1, none⟩ s') b d r c sl nb' s' := by
  obtain ⟨h1, h2, h3, h4, h5, h6, h7⟩ := h
  have o : ∀ i j : Nat, (⟨d, i, none⟩ : Addr) ≠ ⟨b, j, none⟩ := fun i j e => hne (by injection e with e1; exact e1.symm)
  have e0 : (w.setCell ⟨d, 0, none⟩ (.bool nb')).cell? ⟨d, 0, none⟩ = some (.bool nb') := World.cell?_setCell_same _ _ _ h4
  have e1 : (w.setCell ⟨d, 0, none⟩ (.bool nb')).cell? ⟨d, 1, none⟩ = some s := by rw [World.cell?_setCell_other _ _ _ _ (by simp)]; exact h5
  refine ⟨?_, ?_, ?_, ?_, ?_, by simpa using h6, by simpa using h7⟩
  · rw [World.cell?_setCell_other _ _ _ _ (o _ _), World.cell?_setCell_other _ _ _ _ (o _ _)]; exact h1
  · rw [World.cell?_setCell_other _ _ _ _ (o _ _), World.cell?_setCell_other _ _ _ _ (o _ _)]; exact h2
  · rw [World.cell?_setCell_other _ _ _ _ (o _ _), World.cell?_setCell_other _ _ _ _ (o _ _)]; exact h3
  · rw [World.cell?_setCell_other _ _ _ _ (by simp)]; exact e0
  · exact World.cell?_setCell_same _ _ _ e1

def DetSaid (n : Nat) : Prop := ∀ (v : Value) (zs : List Int) (f : Nat → Nat → Int) (L : Nat) (w : World), IsM w v n n zs L → Rep n zs f → LD L n ≤ 10000 → L ≤ 5000 →
    Calls Tryz.prog 208 #[v] w fun e w' => ∃ x, e = .returned x ∧ IntOut w w' x (detF n f) (LD L n)

set_option maxRecDepth 100000 in
set_option maxHeartbeats 2000000 in
theorem det_zero : DetSaid 0 := by
  intro v zs f L w hm hrep hl hL
  obtain ⟨_, _, sl, rfl, hg⟩ := hm
  obtain ⟨ao, cap, rfl, -⟩ := hg.shape
  clear hg
  go_enter Tryz.func208, Tryz.ntmps208
  go_wp2_with (first | (go_at_call 207; refine (isSquare_raw _ _ _ _ _ _).mono ?_; rintro e w' ⟨rfl, rfl⟩))
  refine (fromOne_any _).mono ?_
  rintro e w1 ⟨r, rfl, hr, hb⟩
  obtain ⟨nb, bo, n, ecap, rfl⟩ := hr.shape
  obtain ⟨hc, hf⟩ := bcell hb
  have hty : Ty w1 (w.heap.size + 1) 94 := Ty.below (Ty.alloc (Ty.at_ _ _ _ (by simp)) _) hb (by simp)
  have hz : w.heap.size + 2 < w1.heap.size := by have := hb.size; simp at this; omega
  have HT := Hid.mk hty
  have HR := Hid.mk hr
  have HB := Hid.mk hb
  clear hb hr hty
  go_wp2_with fail
  refine bodyPost_ret (v := .agg #[.bool nb, .slice bo n ecap]) ?_ rfl ?_
  · (simp [results, Tryz.results208, go_sem, hc]; done)
  · refine ⟨_, rfl, HR.out.keep (KU.setCell (KU.setCell (KU.refl _) HT.out (by decide) _) (HT.out.setCell _ _) (by decide) _), ?_⟩
    refine Below.setCell (Below.setCell ?_ (by simp) _) (by simp) _
    refine Below.trans ?_ (HB.out.mono (by simp <;> omega))
    repeat (first | exact Below.refl _ _ | refine Below.alloc ?_ (by simp <;> omega) _)
end Go.Proofs.YtfjbijpagaipnaaGreatDoor

/- notation.reader: entry, side, where the text goes on as it should. -/
namespace Go.Proofs.YtfjbijpagaipnaaGreatDoor
open Go.RowKit

/-- A box with two cells, of a whole number. -/
def Two (w : World) (b : Nat) (x y : Value) : Prop := w.heap[b]? = some (.cells #[x, y] 94 (0, 0))
theorem Two.lt {w : World} {b : Nat} {x y : Value} (h : Two w b x y) : b < w.heap.size := (Array.getElem?_eq_some_iff.1 h).1
theorem Two.below {w w' : World} {b : Nat} {x y : Value} (h : Two w b x y) (hb : Below w.heap.size w w') : Two w' b x y := by unfold Two; rw [hb.block b h.lt]; exact h
theorem Two.fr {w w' : World} {p b : Nat} {x y : Value} (h : Two w b x y) (hf : Fr p w w') (hne : b ≠ p) : Two w' b x y := by unfold Two; rw [hf.1.block b h.lt (by simpa using hne)]; exact h
theorem Two.new (w : World) (x y : Value) {b : Nat} (hb : b = w.heap.size) : Two (w.alloc (.cells #[x, y] 94)) b x y := by rw [hb]; exact heap_alloc_new w _
theorem Two.ty {w : World} {b : Nat} {x y : Value} (h : Two w b x y) : Ty w b 94 := ⟨_, _, h⟩
theorem Two.cells {w : World} {b : Nat} {x y : Value} (h : Two w b x y) : w.cell? ⟨b, 0, none⟩ = some x ∧ w.cell? ⟨b, 1, none⟩ = some y ∧ w.frozen? ⟨b, 0, none⟩ = false ∧ w.frozen? ⟨b, 1, none⟩ = false := by
  unfold Two at h
  refine ⟨?_, ?_, ?_, ?_⟩ <;> simp [World.cell?, World.frozen?, h]
theorem Fr.setNew {p b o : Nat} {w w' : World} (h : Fr p w w') (hb : w.heap.size ≤ b) (u : Value) : Fr p w (w'.setCell ⟨b, o, none⟩ u) := by
  refine ⟨⟨h.1.os, h.1.tape, h.1.output, by have := h.1.size; simp [World.setCell]; omega, fun k hk hne => ?_⟩, fun i arr hi => ?_, fun i arr hi => ?_⟩
  · rw [Below.heap_setCell _ _ _ _ (by simp; omega)]; exact h.1.block k hk hne
  · have := (Array.getElem?_eq_some_iff.1 hi).1
    rw [Below.heap_setCell _ _ _ _ (by simp; omega)]; exact h.2.1 i arr hi
  · have := (Array.getElem?_eq_some_iff.1 hi).1
    rw [Below.heap_setCell _ _ _ _ (by simp; omega)]; exact h.2.2 i arr hi
theorem Fr.alloc {p : Nat} {w w' : World} (h : Fr p w w') (o : Obj) : Fr p w (w'.alloc o) := h.trans (Fr.of_below ((Below.refl _ _).alloc (Nat.le_refl _) _))
theorem Rd.setOther {w : World} {p b o : Nat} {s : ByteArray} {q : Nat} (h : Rd w p s q) (hne : b ≠ p) (u : Value) : Rd (w.setCell ⟨b, o, none⟩ u) p s q := by
  unfold Rd; rw [Below.heap_setCell _ _ _ _ (by simp; omega)]; exact h

theorem Rd.move0 {w : World} {p : Nat} {s : ByteArray} {q : Nat} (h : Rd w p s q) {z : Int} {q' : Nat} (hz : z = q') : Rd (w.setCell ⟨p, 1, none⟩ (.int .i64 z)) p s q' ∧ Fr p w (w.setCell ⟨p, 1, none⟩ (.int .i64 z)) := h.move hz 0
/-- The token of a whole number. -/
def Tok (tk : List UInt8) (z : Int) : Prop := (Run tk ∧ z = decval tk) ∨ (∃ ds, tk = 45 :: ds ∧ Run ds ∧ ds ≠ [48] ∧ z = -(decval ds : Int))

set_option maxRecDepth 100000 in
set_option maxHeartbeats 2000000 in
theorem entry_plus (p : Nat) (s : ByteArray) (a : Nat) (tk l : List UInt8) (w : World) (h : Rd w p s a) (hr : Rem s a (tk ++ l)) (hs : s.size ≤ 4000) (hd : Run tk) (hl : Stops l) :
    Calls Tryz.prog 186 #[.pointer (some ⟨p, 0, none⟩)] w fun e w' => ∃ x, e = .returned x ∧ IsI w' x (decval tk) tk.length ∧ Rd w' p s (a + tk.length) ∧ Fr p w w' := by
  have H := Hid.mk h
  have HR := Hid.mk hr
  have HD := Hid.mk hd
  have HL := Hid.mk hl
  have hpl := h.lt
  obtain ⟨d, r, hdr⟩ : ∃ d r, tk = d :: r := by
    cases tk with
    | nil => exact absurd rfl hd.1
    | cons d r => exact ⟨d, r, rfl⟩
  have hrem : Rem s a (d :: (r ++ l)) := by rw [← List.cons_append, ← hdr]; exact hr
  have hdd := hd.2.1 d (by rw [hdr]; simp)
  have hb : ((d.toNat : Int) == 45) = false := beq_eq_false_iff_ne.2 (by omega)
  have htl : tk.length ≤ s.size := by have := hr.app.1; omega
  have HREM := Hid.mk hrem
  clear h hr hd hl hdr hrem hdd
  go_enter Tryz.func186, Tryz.ntmps186
  go_wp2_with fail
  refine (sees_some p s a 45 d (r ++ l) _ (H.out.below ((Below.refl _ _).alloc (Nat.le_refl _) _)) HREM.out (by omega)).mono ?_
  rintro e w' ⟨rfl, n, rfl⟩
  rw [hb]
  have hT0 : Two ((w.alloc (.cells #[.bool false, .slice none 0 0] 94)).drewN n) w.heap.size (.bool false) (.slice none 0 0) := Two.new w _ _ rfl
  have hF0 : Fr p w ((w.alloc (.cells #[.bool false, .slice none 0 0] 94)).drewN n) := Fr.of_below (below_drewN ((Below.refl _ _).alloc (Nat.le_refl _) _) _)
  have hR0 : Rd ((w.alloc (.cells #[.bool false, .slice none 0 0] 94)).drewN n) p s a := H.out.below (below_drewN ((Below.refl _ _).alloc (Nat.le_refl _) _) _)
  have H0 := Hid.mk (And.intro hT0 (And.intro hF0 hR0))
  clear hT0 hF0 hR0
  go_wp2_with fail
  refine (digits_ok p s a tk l _ H0.out.2.2 HR.out (by omega) HD.out HL.out).mono ?_
  rintro e w2 ⟨rfl, hR2, hF2⟩
  have hT2 := H0.out.1.fr hF2 (by omega)
  have hF2' := H0.out.2.1.trans hF2
  have H2 := Hid.mk (And.intro hT2 (And.intro hF2' hR2))
  clear H0 hT2 hF2 hR2 hF2'
  go_wp2_with fail
  refine (fromDigits_any ⟨tk.toArray⟩ _ (by show tk.toArray.size ≤ 4000; simp; omega) (by simpa using HD.out.2.1)).mono ?_
  rintro e w3 ⟨x, rfl, hx, hb3⟩
  obtain ⟨nb, bo, m, ecap, rfl⟩ := hx.shape
  have hT3 := H2.out.1.below hb3
  obtain ⟨t1, t2, t3, t4⟩ := hT3.cells
  have H3 := Hid.mk (And.intro hT3 (And.intro (H2.out.2.1.trans (Fr.of_below hb3)) (And.intro (H2.out.2.2.below hb3) hx)))
  clear hT3 hx hb3 H2
  go_wp2_with fail
  refine bodyPost_ret (v := .agg #[.bool nb, .slice bo m ecap]) ?_ rfl ?_
  · (simp [results, Tryz.results186, go_sem, t1, t2]; done)
  · obtain ⟨hT3, hF3, hR3, hx⟩ := H3.out
    refine ⟨_, rfl, ?_, (hR3.setOther (by omega) _).setOther (by omega) _, (hF3.setNew (Nat.le_refl _) _).setNew (Nat.le_refl _) _⟩
    have hx' : IsI w3 (.agg #[.bool nb, .slice bo m ecap]) (decval tk) tk.length := hx
    exact hx'.keep (KU.setCell (KU.setCell (KU.refl _) hT3.ty (by decide) _) (hT3.ty.setCell _ _) (by decide) _)

set_option maxRecDepth 100000 in
set_option maxHeartbeats 2000000 in
theorem entry_minus (p : Nat) (s : ByteArray) (a : Nat) (ds l : List UInt8) (w : World) (h : Rd w p s a) (hr : Rem s a (45 :: (ds ++ l))) (hs : s.size ≤ 4000) (hd : Run ds) (hl : Stops l) (hne : ds ≠ [48]) :
    Calls Tryz.prog 186 #[.pointer (some ⟨p, 0, none⟩)] w fun e w' => ∃ x, e = .returned x ∧ IsI w' x (-(decval ds : Int)) ds.length ∧ Rd w' p s (a + 1 + ds.length) ∧ Fr p w w' := by
  have H := Hid.mk h
  have HR := Hid.mk hr
  have HD := Hid.mk hd
  have HL := Hid.mk hl
  have hpl := h.lt
  obtain ⟨hq, -, hr1⟩ := hr.cons
  have HR1 := Hid.mk hr1
  have hb : (((45 : UInt8).toNat : Int) == 45) = true := by decide
  have htl : ds.length ≤ s.size := by have := hr1.app.1; omega
  have HNE := Hid.mk hne
  clear h hr hd hl hr1 hne
  go_enter Tryz.func186, Tryz.ntmps186
  go_wp2_with fail
  refine (sees_some p s a 45 45 (ds ++ l) _ (H.out.below ((Below.refl _ _).alloc (Nat.le_refl _) _)) HR.out (by omega)).mono ?_
  rintro e w' ⟨rfl, n, rfl⟩
  rw [hb]
  obtain ⟨X, hX⟩ : ∃ X, X = (w.alloc (.cells #[.bool false, .slice none 0 0] 94)).drewN n := ⟨_, rfl⟩
  have hT0 : Two X w.heap.size (.bool false) (.slice none 0 0) := by rw [hX]; exact Two.new w _ _ rfl
  have hF0 : Fr p w X := by rw [hX]; exact Fr.of_below (below_drewN ((Below.refl _ _).alloc (Nat.le_refl _) _) _)
  have hR0 : Rd X p s a := by rw [hX]; exact H.out.below (below_drewN ((Below.refl _ _).alloc (Nat.le_refl _) _) _)
  obtain ⟨c0, c1, c2, c3, c4⟩ := hR0.cells
  rw [← hX]
  have H0 := Hid.mk (And.intro hT0 (And.intro hF0 hR0))
  clear hT0 hF0 hR0 hX
  go_wp2_with fail
  have M := H0.out.2.2.move0 (z := (a : Int) + 1) (q' := a + 1) (by omega)
  refine (digits_ok p s (a + 1) ds l _ M.1 HR1.out (by omega) HD.out HL.out).mono ?_
  rintro e w2 ⟨rfl, hR2, hF2⟩
  have hT2 := (H0.out.1.fr M.2 (by omega)).fr hF2 (by omega)
  have hF2' := (H0.out.2.1.trans M.2).trans hF2
  have H2 := Hid.mk (And.intro hT2 (And.intro hF2' hR2))
  clear H0 hT2 hF2 hR2 hF2' M c0 c1 c2 c3 c4
  have hne : (ds == [48]) = false := beq_eq_false_iff_ne.2 HNE.out
  go_wp2_with fail
  refine (fromDigits_any ⟨ds.toArray⟩ _ (by show ds.toArray.size ≤ 4000; simp; omega) (by simpa using HD.out.2.1)).mono ?_
  rintro e w3 ⟨x, rfl, hx, hb3⟩
  have H3 := Hid.mk (And.intro (H2.out.1.below hb3) (And.intro (H2.out.2.1.trans (Fr.of_below hb3)) (And.intro (H2.out.2.2.below hb3) hx)))
  clear hx hb3 H2
  go_wp2_with fail
  refine (neg_any _ _ _ _ H3.out.2.2.2).mono ?_
  rintro e w4 ⟨y, rfl, hy, hb4⟩
  obtain ⟨nb, bo, m, ecap, rfl⟩ := hy.shape
  have hT4 := H3.out.1.below hb4
  obtain ⟨t1, t2, t3, t4⟩ := hT4.cells
  have H4 := Hid.mk (And.intro hT4 (And.intro (H3.out.2.1.trans (Fr.of_below hb4)) (And.intro (H3.out.2.2.1.below hb4) hy)))
  clear hT4 hy hb4 H3
  go_wp2_with fail
  refine bodyPost_ret (v := .agg #[.bool nb, .slice bo m ecap]) ?_ rfl ?_
  · (simp [results, Tryz.results186, go_sem, t1, t2]; done)
  · obtain ⟨hT3, hF3, hR3, hx⟩ := H4.out
    have hx' : IsI w4 (.agg #[.bool nb, .slice bo m ecap]) (-(decval ds : Int)) ds.length := hx
    exact ⟨_, rfl, hx'.keep (KU.setCell (KU.setCell (KU.refl _) hT3.ty (by decide) _) (hT3.ty.setCell _ _) (by decide) _), (hR3.setOther (by omega) _).setOther (by omega) _, (hF3.setNew (Nat.le_refl _) _).setNew (Nat.le_refl _) _⟩
theorem entry_ok (p : Nat) (s : ByteArray) (a : Nat) (tk l : List UInt8) (z : Int) (w : World) (h : Rd w p s a) (hr : Rem s a (tk ++ l)) (hs : s.size ≤ 4000) (ht : Tok tk z) (hl : Stops l) :
    Calls Tryz.prog 186 #[.pointer (some ⟨p, 0, none⟩)] w fun e w' => ∃ x, e = .returned x ∧ IsI w' x z tk.length ∧ Rd w' p s (a + tk.length) ∧ Fr p w w' := by
  rcases ht with ⟨h1, rfl⟩ | ⟨ds, rfl, h1, h2, rfl⟩
  · exact entry_plus p s a tk l w h hr hs h1 hl
  · refine (entry_minus p s a ds l w h hr hs h1 hl h2).mono ?_
    rintro e w' ⟨x, rfl, hx, hR, hF⟩
    exact ⟨x, rfl, hx.mono (by simp), by rw [List.length_cons, show a + (ds.length + 1) = a + 1 + ds.length from by omega]; exact hR, hF⟩
end Go.Proofs.YtfjbijpagaipnaaGreatDoor

/- notation.reader: side, where the text goes on as it should. -/
namespace Go.Proofs.YtfjbijpagaipnaaGreatDoor
open Go.RowKit

theorem decval_mono (l : List UInt8) : ∀ (j k : Nat), k + j = l.length → decval (l.take k) ≤ decval l := by
  intro j
  induction j with
  | zero => intro k h; rw [List.take_of_length_le (by omega)]; exact Nat.le_refl _
  | succ j ih =>
    intro k h
    have h1 := ih (k + 1) (by omega)
    rw [decval_take l k (by omega)] at h1
    omega

set_option maxRecDepth 100000 in
set_option maxHeartbeats 2000000 in
theorem side_ok (p : Nat) (s : ByteArray) (a : Nat) (ds l : List UInt8) (w : World) (h : Rd w p s a) (hr : Rem s a (ds ++ l)) (hs : s.size ≤ 4000) (hd : Run ds) (hl : Stops l) (hv : decval ds ≤ 99) :
    Calls Tryz.prog 135 #[.pointer (some ⟨p, 0, none⟩)] w fun e w' => e = .returned (.int .i64 (decval ds)) ∧ Rd w' p s (a + ds.length) ∧ Fr p w w' := by
  have H := Hid.mk h
  have HR := Hid.mk hr
  have HD := Hid.mk hd
  have HL := Hid.mk hl
  have hdl : ds.length ≤ 4000 := by have := hr.app.1; omega
  clear h hr hd hl
  go_enter Tryz.func135, Tryz.ntmps135
  go_wp2_with fail
  refine (digits_ok p s a ds l _ H.out HR.out (by omega) HD.out HL.out).mono ?_
  rintro e w2 ⟨rfl, hR2, hF2⟩
  have H2 := Hid.mk (And.intro hR2 hF2)
  clear hR2 hF2
  obtain ⟨rb, hrb⟩ : ∃ rb : ByteArray, rb = ⟨ds.toArray⟩ := ⟨_, rfl⟩
  have hrs : rb.size = ds.length := by rw [hrb]; rfl
  have hrl : rb.data.toList = ds := by rw [hrb]
  have HB := Hid.mk (And.intro hrs hrl)
  have hrz : rb.size ≤ 4000 := by omega
  rw [← hrb]
  clear hrb hrs hrl
  go_wp2_with fail
  go_loop [4, 5] (fun v i => ∃ k sd : Nat, k ≤ rb.size ∧ i = .int .i64 k ∧ sd ≤ 99 ∧ v = .int .i64 sd ∧ Hid (sd = decval (ds.take k))) (fun _ i => rb.size - (intOf i).toNat)
  case atStart => exact ⟨0, 0, Nat.zero_le _, rfl, by omega, rfl, Hid.mk rfl⟩
  case round =>
    obtain ⟨k, sd, hk, rfl, hsd, rfl, HI⟩ := hrel
    by_cases hkr : k < rb.size
    · have hdd := dig_at rb (by rw [HB.out.2]; exact HD.out.2.1) k hkr
      obtain ⟨d1, d2⟩ := hdd
      have hnext : decval (ds.take (k + 1)) = 10 * sd + ((rb[k]'hkr).toNat - 48) := by
        have := decval_at rb k hkr
        rw [HB.out.2] at this
        rw [this, HI.out]
      have hle : decval (ds.take (k + 1)) ≤ 99 := Nat.le_trans (decval_mono ds (ds.length - (k + 1)) (k + 1) (by have := HB.out.1; omega)) hv
      have HN := Hid.mk hnext
      have hle2 : 10 * sd + ((rb[k]'hkr).toNat - 48) ≤ 99 := by omega
      clear hnext hle
      go_wp2_with fail
      go_round
      case rel => exact ⟨k + 1, 10 * sd + ((rb[k]'hkr).toNat - 48), by omega, by go_num, hle2, by go_num, Hid.mk HN.out.symm⟩
      case measure => simp [intOf]; omega
    · have hd0 : decide (k < rb.size) = false := by simp; omega
      have hd1 : decide ((k : Int) < (rb.size : Int)) = false := by simp; omega
      go_wp2_with fail
      go_ret
      refine ⟨ret_int ?_, H2.out.1, H2.out.2⟩
      have := HI.out
      rw [List.take_of_length_le (by have := HB.out.1; omega)] at this
      omega
end Go.Proofs.YtfjbijpagaipnaaGreatDoor

/- append(cells, entry): a row of whole numbers that grows. -/
namespace Go.Proofs.YtfjbijpagaipnaaGreatDoor
open Go.RowKit

def GridB (B : Nat) (w : World) (sl : Value) (n : Nat) (zs : List Int) (L : Nat) : Prop :=
  zs.length = n ∧ ∃ cs, w.ownsRow B 94 2 sl n cs ∧ ∀ i, i < n → ∃ a b, cs[2 * i]? = some a ∧ cs[2 * i + 1]? = some b ∧ IsI w (.agg #[a, b]) (zs.getD i 0) L
theorem GridB.grid {B : Nat} {w : World} {sl : Value} {n L : Nat} {zs : List Int} (h : GridB B w sl n zs L) : Grid w sl n zs L := by
  obtain ⟨h0, cs, h1, h2⟩ := h
  refine ⟨h0, cs, ⟨h1.1, ?_⟩, h2⟩
  rcases h1.2 with h3 | ⟨g, cap, cur, hv, _, r⟩
  · exact .inl h3
  · exact .inr ⟨g, cap, cur, hv, Nat.zero_le _, r⟩
theorem GridB.keep {B : Nat} {w W : World} {sl : Value} {n L : Nat} {zs : List Int} (h : GridB B w sl n zs L) (hk : KT w W) : GridB B W sl n zs L := by
  obtain ⟨h0, cs, h1, h2⟩ := h
  refine ⟨h0, cs, ⟨h1.1, ?_⟩, fun i hi => ?_⟩
  · rcases h1.2 with h3 | ⟨g, cap, cur, hv, hg, hh, r⟩
    · exact .inl h3
    · exact .inr ⟨g, cap, cur, hv, hg, hk.1 g cur hh, r⟩
  · obtain ⟨a, b, e1, e2, e3⟩ := h2 i hi
    exact ⟨a, b, e1, e2, e3.keep hk.2⟩
theorem GridB.lt {B : Nat} {w : World} {sl : Value} {n L : Nat} {zs : List Int} (h : GridB B w sl n zs L) : ∀ k, sl.ownBlock = some k → B ≤ k ∧ Ty w k 94 := by
  intro k hk
  obtain ⟨h0, cs, h1, h2⟩ := h
  rcases h1.2 with ⟨rfl, _⟩ | ⟨g, cap, cur, rfl, hg, hh, r⟩
  · simp [Value.ownBlock] at hk
  · simp [Value.ownBlock] at hk
    subst hk
    exact ⟨hg, _, _, hh⟩
theorem KU.grown {w w' : World} {row : Option Nat} (h : w.grownBy w' row) (ht : ∀ k, row = some k → Ty w k 94) : KU w w' := by
  intro b arr hb
  rw [h.block b (Array.getElem?_eq_some_iff.1 hb).1 ?_]
  · exact hb
  · intro e
    obtain ⟨c, fr, h2⟩ := ht b e.symm
    rw [hb] at h2
    simp at h2
theorem append_int (w : World) {ops : Array Oper} {rest : List Oper} {o : Oper} {a : Act} {Q : Exit → Act → World → Prop} (hgd : o.guard = none) (s x : Operand)
    (ho : o.op = .call { callee := .builtin .append, args := #[s, x], argTypes := #[74, 74] }) (B : Nat) (v : Value) (n : Nat) (zs : List Int) (L : Nat) (hs : a.eval s = v) (hg : GridB B w v n zs L)
    (ad : Addr) (hx : a.eval x = .slice (some ad) 1 1) (c1 c2 : Value) (z : Int) (h0 : w.cell? (ad.add 0) = some c1) (h1 : w.cell? (ad.add 1) = some c2) (o1 : c1.oneCell' = true) (o2 : c2.oneCell' = true) (hz : IsI w (.agg #[c1, c2]) z L) (hn : n ≤ 10000) (hB : B ≤ w.heap.size)
    (hK : ∀ v' w', GridB B w' v' (n + 1) (zs ++ [z]) L → w.grownBy w' v.ownBlock → wpList Tryz.prog ops Q rest (a.put o.dst v') w') : wpList Tryz.prog ops Q (o :: rest) a w := by
  obtain ⟨i, hi, hz0, hz1, hz2⟩ := info_parts Tryz.info94
  have hlt := hg.lt
  obtain ⟨g0, cs, g1, g2⟩ := hg
  refine wpList_append_own w hgd s x 74 ho B 94 i (.agg #[.bool false, .slice none 0 0]) 2 32 Tryz.underlying74 hi hz0 hz1 hz2 rfl (by decide) v n cs hs g1 ad 1 1 [c1, c2] hx rfl ?_ ?_ ?_ ?_ hB ?_
  · intro j u hj
    match j, hj with
    | 0, hj => simp at hj; subst hj; exact h0
    | 1, hj => simp at hj; subst hj; exact h1
  · intro u hu; simp at hu; rcases hu with rfl | rfl
    · exact o1
    · exact o2
  · unfold maxLen; omega
  · omega
  · intro v' w' k1 k2 _
    have hku := KU.grown k2 (fun k hk => (hlt k hk).2)
    have hcl : cs.length = n * 2 := g1.1
    refine hK v' w' ⟨by simp [g0], cs ++ [c1, c2], k1, fun j hj => ?_⟩ k2
    by_cases hjn : j < n
    · obtain ⟨a', b', e1, e2, e3⟩ := g2 j hjn
      refine ⟨a', b', by rw [List.getElem?_append_left (by omega)]; exact e1, by rw [List.getElem?_append_left (by omega)]; exact e2, ?_⟩
      rw [show (zs ++ [z]).getD j 0 = zs.getD j 0 from by simp [List.getD, List.getElem?_append_left (show j < zs.length from by omega)]]
      exact e3.keep hku
    · have hje : j = n := by omega
      subst hje
      refine ⟨c1, c2, ?_, ?_, ?_⟩
      · rw [List.getElem?_append_right (by omega), show 2 * j - cs.length = 0 from by omega]; rfl
      · rw [List.getElem?_append_right (by omega), show 2 * j + 1 - cs.length = 1 from by omega]; rfl
      · rw [show (zs ++ [z]).getD j 0 = z from by simp [List.getD, ← g0]]
        exact hz.keep hku
theorem Fr.grown {p : Nat} {w0 w w' : World} {row : Option Nat} (h : Fr p w0 w) (hg : w.grownBy w' row) (hr : ∀ k, row = some k → w0.heap.size ≤ k) : Fr p w0 w' := by
  have hsz := h.1.size
  have key : ∀ k, k < w0.heap.size → w'.heap[k]? = w.heap[k]? := fun k hk => hg.block k (by omega) (fun e => by have := hr k e.symm; omega)
  refine ⟨⟨hg.os.trans h.1.os, hg.tape.trans h.1.tape, hg.output.trans h.1.output, Nat.le_trans hsz hg.size, fun k hk hne => ?_⟩, fun i arr hi => ?_, fun i arr hi => ?_⟩
  · rw [key k hk]; exact h.1.block k hk hne
  · rw [key i (Array.getElem?_eq_some_iff.1 hi).1]; exact h.2.1 i arr hi
  · rw [key i (Array.getElem?_eq_some_iff.1 hi).1]; exact h.2.2 i arr hi
theorem Rd.grown {w w' : World} {p : Nat} {s : ByteArray} {q : Nat} {row : Option Nat} (h : Rd w p s q) (hg : w.grownBy w' row) (hne : row ≠ some p) : Rd w' p s q := by
  unfold Rd; rw [hg.block p h.lt (Ne.symm hne)]; exact h
end Go.Proofs.YtfjbijpagaipnaaGreatDoor
