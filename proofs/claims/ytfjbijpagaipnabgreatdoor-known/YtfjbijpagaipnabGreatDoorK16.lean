import Derived.Test.YtfjbijpagaipnabGreatDoorK15
namespace Go.Proofs.YtfjbijpagaipnabGreatDoor
open Go.RowKit
theorem cellS {w : World} {b i j : Nat} {u x : Value} (h : w.cell? ⟨b, j, none⟩ = some x) (hij : i ≠ j) : (w.setCell ⟨b, i, none⟩ u).cell? ⟨b, j, none⟩ = some x := by
 rw [World.cell?_setCell_other _ _ _ _ (fun e => hij (by injection e))]; exact h
theorem Fr.setOwn {b o : Nat} {w W : World} {t : TypeId} (h : Fr b w W) (ht : Ty W b t) (h1 : t ≠ 144) (h2 : t ≠ 79) (u : Value) : Fr b w (W.setCell ⟨b, o, none⟩ u) := by
 refine h.trans ⟨⟨rfl, rfl, rfl, by simp [World.setCell], fun k _ hne => ?_⟩, KT.setCell (KT.refl _) ht h1 h2 u⟩
 rw [Below.heap_setCell _ _ _ _ (fun e => hne (by simp [e]))]
theorem frozen1 {w : World} {a : Addr} (h : w.frozen? a = false) (hb : a.block < w.heap.size) : ∀ o1, (w.alloc o1).frozen? a = false := fun o1 => by
 rw [Below.frozen (w := w) (B := w.heap.size) ((Below.refl _ _).alloc (Nat.le_refl _) _) hb]; exact h
theorem frozenS {w : World} {b i j : Nat} {u : Value} (h : w.frozen? ⟨b, j, none⟩ = false) : (w.setCell ⟨b, i, none⟩ u).frozen? ⟨b, j, none⟩ = false := by simpa using h
theorem sizeS (w : World) (a : Addr) (u : Value) : (w.setCell a u).heap.size = w.heap.size := by simp [World.setCell]
theorem alloc_drew (X : World) (o : Obj) : Below X.heap.size X (X.alloc o).drew := ((Below.refl _ _).alloc (Nat.le_refl _) _).drew
open Go.RowKit
abbrev Slt := Option (Nat × Nat × Nat × Value)
def SlotIs (arr : Array Value) (i : Nat) : Slt → Prop
 | none => arr[i * 5]? = some (.bool false)
 | some x => arr[i * 5]? = some (.bool true) ∧ arr[i * 5 + 1]? = some (.int .i64 (x.1 : Nat)) ∧ arr[i * 5 + 2]? = some (.int .i64 (x.2.1 : Nat)) ∧ arr[i * 5 + 3]? = some (.int .i64 (x.2.2.1 : Nat)) ∧ arr[i * 5 + 4]? = some x.2.2.2
def Sg (w : World) (b : Nat) (sl : List Slt) (nx : Nat) : Prop :=
 sl.length = 24 ∧ ∃ arr, w.heap[b]? = some (.cells arr 103 (0, 0)) ∧ arr.size = 121 ∧ arr[120]? = some (.int .i64 (nx : Nat)) ∧ ∀ i, i < 24 → SlotIs arr i (sl.getD i none)
theorem Sg.lt {w : World} {b : Nat} {sl : List Slt} {nx : Nat} (h : Sg w b sl nx) : b < w.heap.size := by
 obtain ⟨_, arr, h1, _⟩ := h
 exact (Array.getElem?_eq_some_iff.1 h1).1
theorem Sg.ty {w : World} {b : Nat} {sl : List Slt} {nx : Nat} (h : Sg w b sl nx) : Ty w b 103 := by
 obtain ⟨_, arr, h1, _⟩ := h
 exact ⟨_, _, h1⟩
theorem Sg.of_block {w w' : World} {b : Nat} {sl : List Slt} {nx : Nat} (h : Sg w b sl nx) (hb : w'.heap[b]? = w.heap[b]?) : Sg w' b sl nx := by
 obtain ⟨h0, arr, h1, h2⟩ := h
 exact ⟨h0, arr, by rw [hb]; exact h1, h2⟩
theorem Sg.below {w w' : World} {b : Nat} {sl : List Slt} {nx : Nat} (h : Sg w b sl nx) (hb : Below w.heap.size w w') : Sg w' b sl nx := h.of_block (hb.block b h.lt)
theorem Sg.fr {w w' : World} {b p : Nat} {sl : List Slt} {nx : Nat} (h : Sg w b sl nx) (hf : Fr p w w') (hne : b ≠ p) : Sg w' b sl nx := h.of_block (hf.1.block b h.lt (by simpa using hne))
theorem Sg.cell {w : World} {b : Nat} {sl : List Slt} {nx : Nat} (h : Sg w b sl nx) : ∃ arr : Array Value, arr.size = 121 ∧ (∀ j, w.cell? ⟨b, j, none⟩ = arr[j]?) ∧ (∀ j, w.frozen? ⟨b, j, none⟩ = false) ∧ arr[120]? = some (.int .i64 (nx : Nat)) ∧
 (∀ i, i < 24 → SlotIs arr i (sl.getD i none)) := by
 obtain ⟨h0, arr, h1, h2, h3, h4⟩ := h
 exact ⟨arr, h2, fun j => by simp [World.cell?, h1], fun j => by simp [World.frozen?, h1], h3, h4⟩
def PlaceIs (sl : List Slt) (h i : Int) : Prop := (∃ k : Nat, k < 24 ∧ i = (k : Int) ∧ ∃ x, sl.getD k none = some x ∧ (x.1 : Int) = h) ∨ (i = -1 ∧ ∀ k, k < 24 → ∀ x, sl.getD k none = some x → (x.1 : Int) ≠ h)
set_option maxRecDepth 100000 in
set_option maxHeartbeats 2000000 in
theorem place_any (b : Nat) (h : Int) (sl : List Slt) (nx : Nat) (w : World) (hst : Sg w b sl nx) :
 Calls Tryz.prog 54 #[.pointer (some ⟨b, 0, none⟩), .int .i64 h] w fun e w' => (∃ i, e = .returned (.int .i64 i) ∧ PlaceIs sl h i) ∧ w' = w := by
 obtain ⟨arr, h2, hc, hf, h3, h4⟩ := hst.cell
 have HC := Hid.mk (And.intro hc h4)
 clear hst hc hf h3 h4 h2
 go_enter Tryz.func54, Tryz.ntmps54
 go_wp2_with fail
 go_loop [5] (fun i => ∃ k : Nat, k ≤ 24 ∧ i = .int .i64 k ∧ Hid (∀ j, j < k → ∀ x, sl.getD j none = some x → (x.1 : Int) ≠ h)) (fun i => 24 - (intOf i).toNat)
 case atStart => exact ⟨0, by omega, rfl, Hid.mk (fun j hj => absurd hj (by omega))⟩
 case round =>
  obtain ⟨k, hk, rfl, HI⟩ := hrel
  by_cases hk24 : k < 24
  ·have hs := HC.out.2 k hk24
   cases hx : sl.getD k none with
   | none =>
     rw [hx] at hs
     have c0 : w.cell? ⟨b, k * 5, none⟩ = some (.bool false) := by rw [HC.out.1]; exact hs
     have HX := Hid.mk hx
     clear hs hx
     go_wp2_with fail
     go_round
     case rel =>
      refine ⟨k + 1, by omega, by go_num, Hid.mk fun j hj x hjx => ?_⟩
      by_cases hjk : j = k
      ·subst hjk; rw [HX.out] at hjx; cases hjx
      ·exact HI.out j (by omega) x hjx
     case measure => simp [intOf]; omega
   | some x =>
     rw [hx] at hs
     obtain ⟨e0, e1, -, -, -⟩ := hs
     have c0 : w.cell? ⟨b, k * 5, none⟩ = some (.bool true) := by rw [HC.out.1]; exact e0
     have c1 : w.cell? ⟨b, k * 5 + 1, none⟩ = some (.int .i64 (x.1 : Nat)) := by rw [HC.out.1]; exact e1
     have HX := Hid.mk hx
     clear e0 e1 hx
     obtain ⟨hd, hhd⟩ : ∃ hd, hd = x.1 := ⟨_, rfl⟩
     rw [← hhd] at c1
     have HD := Hid.mk hhd
     clear hhd
     by_cases hkh : (hd : Int) = h
     ·have hb : ((hd : Int) == h) = true := beq_iff_eq.2 hkh
      have HK := Hid.mk hkh
      clear hkh
      go_wp2_with fail
      go_ret
      exact ⟨⟨_, rfl, .inl ⟨k, hk24, rfl, x, HX.out, by rw [← HD.out]; exact HK.out⟩⟩, rfl⟩
     ·have hb : ((hd : Int) == h) = false := beq_eq_false_iff_ne.2 hkh
      have HK := Hid.mk hkh
      clear hkh
      go_wp2_with fail
      go_round
      case rel =>
       refine ⟨k + 1, by omega, by go_num, Hid.mk fun j hj y hjy => ?_⟩
       by_cases hjk : j = k
       ·subst hjk
        rw [HX.out] at hjy
        cases hjy
        rw [← HD.out]; exact HK.out
       ·exact HI.out j (by omega) y hjy
      case measure => simp [intOf]; omega
  ·go_wp2_with fail
   go_ret
   exact ⟨⟨_, rfl, .inr ⟨rfl, fun j hj => HI.out j (by omega)⟩⟩, rfl⟩
theorem count_take (sl : List Slt) (k : Nat) (hk : k < sl.length) : (sl.take (k + 1)).countP Option.isNone = (sl.take k).countP Option.isNone + (if (sl.getD k none).isNone then 1 else 0) := by
 rw [List.take_add_one, List.countP_append, List.getElem?_eq_getElem hk]
 simp [List.getD, List.getElem?_eq_getElem hk]
set_option maxRecDepth 100000 in
set_option maxHeartbeats 2000000 in
theorem room_any (b : Nat) (sl : List Slt) (nx : Nat) (w : World) (hst : Sg w b sl nx) :
 Calls Tryz.prog 34 #[.pointer (some ⟨b, 0, none⟩)] w fun e w' => e = .returned (.int .i64 ((sl.countP Option.isNone : Nat) : Int)) ∧ w' = w := by
 have hl := hst.1
 obtain ⟨arr, h2, hc, hf, h3, h4⟩ := hst.cell
 have HC := Hid.mk (And.intro hc (And.intro h4 hl))
 clear hst hc hf h3 h4 h2 hl
 go_enter Tryz.func34, Tryz.ntmps34
 go_wp2_with fail
 go_loop [3, 4] (fun f i => ∃ k ff : Nat, k ≤ 24 ∧ i = .int .i64 k ∧ f = .int .i64 ff ∧ ff ≤ k ∧ Hid (ff = (sl.take k).countP Option.isNone)) (fun _ i => 24 - (intOf i).toNat)
 case atStart => exact ⟨0, 0, by omega, rfl, rfl, by omega, Hid.mk (by simp)⟩
 case round =>
  obtain ⟨k, ff, hk, rfl, rfl, hff, HI⟩ := hrel
  by_cases hk24 : k < 24
  ·have hs := HC.out.2.1 k hk24
   cases hx : sl.getD k none with
   | some x =>
     rw [hx] at hs
     have c0 : w.cell? ⟨b, k * 5, none⟩ = some (.bool true) := by rw [HC.out.1]; exact hs.1
     have HX := Hid.mk hx
     clear hs hx
     go_wp2_with fail
     go_round
     case rel => exact ⟨k + 1, ff, by omega, by go_num, rfl, by omega, Hid.mk (by rw [count_take sl k (by have := HC.out.2.2; omega), HX.out, ← HI.out]; simp)⟩
     case measure => simp [intOf]; omega
   | none =>
     rw [hx] at hs
     have c0 : w.cell? ⟨b, k * 5, none⟩ = some (.bool false) := by rw [HC.out.1]; exact hs
     have HX := Hid.mk hx
     clear hs hx
     go_wp2_with fail
     go_round
     case rel => exact ⟨k + 1, ff + 1, by omega, by go_num, by go_num, by omega, Hid.mk (by rw [count_take sl k (by have := HC.out.2.2; omega), HX.out, ← HI.out]; simp)⟩
     case measure => simp [intOf]; omega
  ·go_wp2_with fail
   go_ret
   refine ⟨ret_int ?_, rfl⟩
   have h1 := HI.out
   rw [List.take_of_length_le (by have := HC.out.2.2; omega)] at h1
   omega
def FindIs (sl : List Slt) (h : Int) (v : Value) (ok : Bool) : Prop := (ok = true ∧ ∃ k, k < 24 ∧ ∃ x, sl.getD k none = some x ∧ (x.1 : Int) = h ∧ v = .agg #[.int .i64 (x.2.1 : Nat), .int .i64 (x.2.2.1 : Nat), x.2.2.2]) ∨
 (ok = false ∧ v = .agg #[.int .i64 0, .int .i64 0, .slice none 0 0] ∧ ∀ k, k < 24 → ∀ x, sl.getD k none = some x → (x.1 : Int) ≠ h)
set_option maxRecDepth 100000 in
set_option maxHeartbeats 2000000 in
theorem find_any (b : Nat) (h : Int) (sl : List Slt) (nx : Nat) (w : World) (hst : Sg w b sl nx) (hsl : ∀ k x, sl.getD k none = some x → ∃ ao n cap, x.2.2.2 = .slice ao n cap) :
 Calls Tryz.prog 36 #[.pointer (some ⟨b, 0, none⟩), .int .i64 h] w fun e w' => (∃ v ok, e = .returned (.tuple #[v, .bool ok]) ∧ FindIs sl h v ok) ∧ Below w.heap.size w w' := by
 have hbl := hst.lt
 have HS := Hid.mk (And.intro hst hsl)
 clear hst hsl
 go_enter Tryz.func36, Tryz.ntmps36
 go_wp2_with fail
 refine (place_any b h sl nx _ (HS.out.1.below ((Below.refl _ _).alloc (Nat.le_refl _) _))).mono ?_
 rintro e w' ⟨⟨i, rfl, hi⟩, rfl⟩
 rcases hi with ⟨k, hk, rfl, x, hx, hxh⟩ | ⟨rfl, hno⟩
 ·obtain ⟨ao, n, cap, hv⟩ := HS.out.2 k x hx
  obtain ⟨arr, h2, hc, hf, h3, h4⟩ := HS.out.1.cell
  have hs := h4 k hk
  rw [hx] at hs
  obtain ⟨e0, e1, e2, e3, e4⟩ := hs
  obtain ⟨hd, r, c, v⟩ := x
  simp only at hv e2 e3 e4 hxh
  subst hv
  have d2 := cell1 (show w.cell? ⟨b, k * 5 + 2, none⟩ = some (.int .i64 r) from by rw [hc]; exact e2)
  have d3 := cell1 (show w.cell? ⟨b, k * 5 + 3, none⟩ = some (.int .i64 c) from by rw [hc]; exact e3)
  have d4 := cell1 (show w.cell? ⟨b, k * 5 + 4, none⟩ = some (.slice ao n cap) from by rw [hc]; exact e4)
  have HX := Hid.mk (And.intro hx hxh)
  clear hc hf h3 h4 h2 e0 e1 e2 e3 e4 hx hxh
  go_wp2_with fail
  refine bodyPost_ret (v := .tuple #[.agg #[.int .i64 r, .int .i64 c, .slice ao n cap], .bool true]) ?_ rfl ?_
  ·(simp [results, Tryz.results36, go_sem]; done)
  ·exact ⟨⟨_, _, rfl, .inl ⟨rfl, k, hk, _, HX.out.1, HX.out.2, rfl⟩⟩, by repeat (first | exact Below.refl _ _ | refine Below.alloc ?_ (by simp <;> omega) _)⟩
 ·have HN := Hid.mk hno
  clear hno
  go_wp2_with fail
  refine bodyPost_ret (v := .tuple #[.agg #[.int .i64 0, .int .i64 0, .slice none 0 0], .bool false]) ?_ rfl ?_
  ·(simp [results, Tryz.results36, go_sem]; done)
  ·exact ⟨⟨_, _, rfl, .inr ⟨rfl, rfl, HN.out⟩⟩, by repeat (first | exact Below.refl _ _ | refine Below.alloc ?_ (by simp <;> omega) _)⟩
open Go.RowKit
theorem SlotIs.same {arr arr' : Array Value} {i : Nat} {x : Slt} (h : SlotIs arr i x) (ho : ∀ j, i * 5 ≤ j → j ≤ i * 5 + 4 → arr'[j]? = arr[j]?) : SlotIs arr' i x := by
 cases x with
 | none => unfold SlotIs at *; rw [ho _ (by omega) (by omega)]; exact h
 | some y =>
   obtain ⟨a, b, c, d, e⟩ := h
   exact ⟨by rw [ho _ (by omega) (by omega)]; exact a, by rw [ho _ (by omega) (by omega)]; exact b, by rw [ho _ (by omega) (by omega)]; exact c, by rw [ho _ (by omega) (by omega)]; exact d, by rw [ho _ (by omega) (by omega)]; exact e⟩
theorem slt_set {sl : List Slt} {k i : Nat} {x : Slt} (hk : k < sl.length) : (sl.set k x).getD i none = if i = k then x else sl.getD i none := by
 by_cases h : i = k
 ·subst h; simp [List.getD, hk]
 ·have h' : ¬ k = i := fun e => h e.symm
  simp [List.getD, h, h']
theorem slots_set {arr arr' : Array Value} {sl : List Slt} {k : Nat} (hk : k < 24) (hl : sl.length = 24) (hs : ∀ i, i < 24 → SlotIs arr i (sl.getD i none)) (ho : ∀ j, (j < k * 5 ∨ k * 5 + 4 < j) → j < 120 → arr'[j]? = arr[j]?) (x : Slt) (hx : SlotIs arr' k x) :
 ∀ i, i < 24 → SlotIs arr' i ((sl.set k x).getD i none) := by
 intro i hi
 rw [slt_set (by omega)]
 by_cases h : i = k
 ·subst h; simpa using hx
 ·rw [if_neg h]
  exact (hs i hi).same (fun j h1 h2 => ho j (by omega) (by omega))
theorem arr_ne (a : Array Value) (i j : Nat) (v : Value) (h : i ≠ j) : (a.setIfInBounds i v)[j]? = a[j]? := Array.getElem?_setIfInBounds_ne h
theorem arr_eq (a : Array Value) (i : Nat) (v : Value) (h : i < a.size) : (a.setIfInBounds i v)[i]? = some v := by rw [Array.getElem?_setIfInBounds_self, if_pos h]
theorem Sg.push {w : World} {b : Nat} {sl : List Slt} {nx : Nat} (h : Sg w b sl nx) {k : Nat} (hk : k < 24) (r c : Nat) (v : Value) {u : Int} (hu : u = ((nx + 1 : Nat) : Int)) :
 Sg ((((((w.setCell ⟨b, 120, none⟩ (.int .i64 u)).setCell ⟨b, k * 5, none⟩ (.bool true)).setCell ⟨b, k * 5 + 1, none⟩ (.int .i64 (nx : Nat))).setCell ⟨b, k * 5 + 2, none⟩ (.int .i64 (r : Nat))).setCell ⟨b, k * 5 + 3, none⟩ (.int .i64 (c : Nat))).setCell ⟨b, k * 5 + 4, none⟩ v) b (sl.set k (some (nx, r, c, v))) (nx + 1) := by
 subst hu
 obtain ⟨h0, arr, h1, h2, h3, h4⟩ := h
 have e1 := heap_setCell_same w b 120 arr 103 (.int .i64 ((nx + 1 : Nat) : Int)) h1
 have e2 := heap_setCell_same _ b (k * 5) _ 103 (.bool true) e1
 have e3 := heap_setCell_same _ b (k * 5 + 1) _ 103 (.int .i64 (nx : Nat)) e2
 have e4 := heap_setCell_same _ b (k * 5 + 2) _ 103 (.int .i64 (r : Nat)) e3
 have e5 := heap_setCell_same _ b (k * 5 + 3) _ 103 (.int .i64 (c : Nat)) e4
 have e6 := heap_setCell_same _ b (k * 5 + 4) _ 103 v e5
 refine ⟨by simp [h0], _, e6, by simp [h2], ?_, slots_set hk h0 h4 (fun j hj hj2 => ?_) _ ⟨?_, ?_, ?_, ?_, ?_⟩⟩
 ·rw [arr_ne _ _ _ _ (by omega), arr_ne _ _ _ _ (by omega), arr_ne _ _ _ _ (by omega), arr_ne _ _ _ _ (by omega), arr_ne _ _ _ _ (by omega), arr_eq _ _ _ (by omega)]
 ·rw [arr_ne _ _ _ _ (by omega), arr_ne _ _ _ _ (by omega), arr_ne _ _ _ _ (by omega), arr_ne _ _ _ _ (by omega), arr_ne _ _ _ _ (by omega), arr_ne _ _ _ _ (by omega)]
 ·rw [arr_ne _ _ _ _ (by omega), arr_ne _ _ _ _ (by omega), arr_ne _ _ _ _ (by omega), arr_ne _ _ _ _ (by omega), arr_eq _ _ _ (by simp; omega)]
 ·rw [arr_ne _ _ _ _ (by omega), arr_ne _ _ _ _ (by omega), arr_ne _ _ _ _ (by omega), arr_eq _ _ _ (by simp; omega)]
 ·rw [arr_ne _ _ _ _ (by omega), arr_ne _ _ _ _ (by omega), arr_eq _ _ _ (by simp; omega)]
 ·rw [arr_ne _ _ _ _ (by omega), arr_eq _ _ _ (by simp; omega)]
 ·rw [arr_eq _ _ _ (by simp; omega)]
theorem Sg.frOwn {w : World} {b : Nat} (t0 : Ty w b 103) (u0 u1 u2 u3 u4 u5 : Value) (i1 i2 i3 i4 i5 : Nat) :
 Fr b w ((((((w.setCell ⟨b, 120, none⟩ u0).setCell ⟨b, i1, none⟩ u1).setCell ⟨b, i2, none⟩ u2).setCell ⟨b, i3, none⟩ u3).setCell ⟨b, i4, none⟩ u4).setCell ⟨b, i5, none⟩ u5) := by
 have t1 := t0.setCell ⟨b, 120, none⟩ u0
 have t2 := t1.setCell ⟨b, i1, none⟩ u1
 have t3 := t2.setCell ⟨b, i2, none⟩ u2
 have t4 := t3.setCell ⟨b, i3, none⟩ u3
 have t5 := t4.setCell ⟨b, i4, none⟩ u4
 have f1 := (Fr.refl b w).setOwn (o := 120) t0 (by decide) (by decide) u0
 have f2 := f1.setOwn (o := i1) t1 (by decide) (by decide) u1
 have f3 := f2.setOwn (o := i2) t2 (by decide) (by decide) u2
 have f4 := f3.setOwn (o := i3) t3 (by decide) (by decide) u3
 have f5 := f4.setOwn (o := i4) t4 (by decide) (by decide) u4
 exact f5.setOwn (o := i5) t5 (by decide) (by decide) u5
def FirstFree (sl : List Slt) (i : Nat) : Prop := i < 24 ∧ sl.getD i none = none ∧ ∀ j, j < i → sl.getD j none ≠ none
theorem FirstFree.exists {sl : List Slt} (hl : sl.length = 24) (h : 0 < sl.countP Option.isNone) : ∃ i, FirstFree sl i := by
 have : ∃ i, i < 24 ∧ sl.getD i none = none := by
  obtain ⟨x, hx, hn⟩ := List.countP_pos_iff.1 h
  obtain ⟨i, hi, he⟩ := List.mem_iff_getElem.1 hx
  refine ⟨i, by omega, ?_⟩
  rw [List.getD, List.getElem?_eq_getElem hi, he]
  cases x <;> simp_all
 obtain ⟨i, hi, he⟩ := this
 induction i using Nat.strongRecOn with
 | ind i ih =>
   by_cases h : ∃ j, j < i ∧ sl.getD j none = none
   ·obtain ⟨j, hj, hjn⟩ := h
    exact ih j hj (by omega) hjn
   ·exact ⟨i, hi, he, fun j hj hjn => h ⟨j, hj, hjn⟩⟩
set_option maxRecDepth 100000 in
set_option maxHeartbeats 1000000 in
theorem keep_any (b r c : Nat) (ao : Option Addr) (m cap : Nat) (sl : List Slt) (nx n : Nat) (w : World) (hst : Sg w b sl nx) (hn : FirstFree sl n) (hnx : nx ≤ 1000000000) :
 Calls Tryz.prog 35 #[.pointer (some ⟨b, 0, none⟩), .agg #[.int .i64 r, .int .i64 c, .slice ao m cap]] w fun e w' => e = .returned (.int .i64 (nx : Nat)) ∧ Sg w' b (sl.set n (some (nx, r, c, .slice ao m cap))) (nx + 1) ∧ Fr b w w' := by
 have hbl := hst.lt
 obtain ⟨arr, h2, hc, hf, h3, h4⟩ := hst.cell
 have HC := Hid.mk (And.intro hc (And.intro h4 hn))
 have HS := Hid.mk hst
 have hn24 : n < 24 := hn.1
 have n0 : w.cell? ⟨b, 120, none⟩ = some (.int .i64 (nx : Nat)) := by rw [hc]; exact h3
 have x0 : w.cell? ⟨b, n * 5, none⟩ = some (.bool false) := by
  have := h4 n hn.1
  rw [hn.2.1] at this
  rw [hc]; exact this
 clear hn
 obtain ⟨v1, x1⟩ : ∃ v1, w.cell? ⟨b, n * 5 + 1, none⟩ = some v1 := ⟨arr[n * 5 + 1]'(by omega), by rw [hc]; exact Array.getElem?_eq_getElem _⟩
 obtain ⟨v2, x2⟩ : ∃ v2, w.cell? ⟨b, n * 5 + 2, none⟩ = some v2 := ⟨arr[n * 5 + 2]'(by omega), by rw [hc]; exact Array.getElem?_eq_getElem _⟩
 obtain ⟨v3, x3⟩ : ∃ v3, w.cell? ⟨b, n * 5 + 3, none⟩ = some v3 := ⟨arr[n * 5 + 3]'(by omega), by rw [hc]; exact Array.getElem?_eq_getElem _⟩
 obtain ⟨v4, x4⟩ : ∃ v4, w.cell? ⟨b, n * 5 + 4, none⟩ = some v4 := ⟨arr[n * 5 + 4]'(by omega), by rw [hc]; exact Array.getElem?_eq_getElem _⟩
 have g120 := cell1 n0
 have z120 := frozen1 (hf 120) hbl
 have g0 : ∀ u, ∀ o, ((w.setCell ⟨b, 120, none⟩ u).alloc o).cell? ⟨b, n * 5, none⟩ = some (.bool false) := fun u => cell1 (cellS x0 (by omega))
 have g1 : ∀ u u0, ∀ o, (((w.setCell ⟨b, 120, none⟩ u).setCell ⟨b, n * 5, none⟩ u0).alloc o).cell? ⟨b, n * 5 + 1, none⟩ = some v1 := fun u u0 => cell1 (cellS (cellS x1 (by omega)) (by omega))
 have g2 : ∀ u u0 u1, ∀ o, ((((w.setCell ⟨b, 120, none⟩ u).setCell ⟨b, n * 5, none⟩ u0).setCell ⟨b, n * 5 + 1, none⟩ u1).alloc o).cell? ⟨b, n * 5 + 2, none⟩ = some v2 := fun u u0 u1 => cell1 (cellS (cellS (cellS x2 (by omega)) (by omega)) (by omega))
 have g3 : ∀ u u0 u1 u2, ∀ o, (((((w.setCell ⟨b, 120, none⟩ u).setCell ⟨b, n * 5, none⟩ u0).setCell ⟨b, n * 5 + 1, none⟩ u1).setCell ⟨b, n * 5 + 2, none⟩ u2).alloc o).cell? ⟨b, n * 5 + 3, none⟩ = some v3 := fun u u0 u1 u2 => cell1 (cellS (cellS (cellS (cellS x3 (by omega)) (by omega)) (by omega)) (by omega))
 have g4 : ∀ u u0 u1 u2 u3, ∀ o, ((((((w.setCell ⟨b, 120, none⟩ u).setCell ⟨b, n * 5, none⟩ u0).setCell ⟨b, n * 5 + 1, none⟩ u1).setCell ⟨b, n * 5 + 2, none⟩ u2).setCell ⟨b, n * 5 + 3, none⟩ u3).alloc o).cell? ⟨b, n * 5 + 4, none⟩ = some v4 := fun u u0 u1 u2 u3 => cell1 (cellS (cellS (cellS (cellS (cellS x4 (by omega)) (by omega)) (by omega)) (by omega)) (by omega))
 have z0 : ∀ u, ∀ o, ((w.setCell ⟨b, 120, none⟩ u).alloc o).frozen? ⟨b, n * 5, none⟩ = false := fun u => frozen1 (frozenS (hf _)) (by rw [sizeS]; exact hbl)
 have z1 : ∀ u u0, ∀ o, (((w.setCell ⟨b, 120, none⟩ u).setCell ⟨b, n * 5, none⟩ u0).alloc o).frozen? ⟨b, n * 5 + 1, none⟩ = false := fun u u0 => frozen1 (frozenS (frozenS (hf _))) (by rw [sizeS, sizeS]; exact hbl)
 have z2 : ∀ u u0 u1, ∀ o, ((((w.setCell ⟨b, 120, none⟩ u).setCell ⟨b, n * 5, none⟩ u0).setCell ⟨b, n * 5 + 1, none⟩ u1).alloc o).frozen? ⟨b, n * 5 + 2, none⟩ = false := fun u u0 u1 => frozen1 (frozenS (frozenS (frozenS (hf _)))) (by rw [sizeS, sizeS, sizeS]; exact hbl)
 have z3 : ∀ u u0 u1 u2, ∀ o, (((((w.setCell ⟨b, 120, none⟩ u).setCell ⟨b, n * 5, none⟩ u0).setCell ⟨b, n * 5 + 1, none⟩ u1).setCell ⟨b, n * 5 + 2, none⟩ u2).alloc o).frozen? ⟨b, n * 5 + 3, none⟩ = false := fun u u0 u1 u2 => frozen1 (frozenS (frozenS (frozenS (frozenS (hf _))))) (by rw [sizeS, sizeS, sizeS, sizeS]; exact hbl)
 have z4 : ∀ u u0 u1 u2 u3, ∀ o, ((((((w.setCell ⟨b, 120, none⟩ u).setCell ⟨b, n * 5, none⟩ u0).setCell ⟨b, n * 5 + 1, none⟩ u1).setCell ⟨b, n * 5 + 2, none⟩ u2).setCell ⟨b, n * 5 + 3, none⟩ u3).alloc o).frozen? ⟨b, n * 5 + 4, none⟩ = false := fun u u0 u1 u2 u3 => frozen1 (frozenS (frozenS (frozenS (frozenS (frozenS (hf _)))))) (by rw [sizeS, sizeS, sizeS, sizeS, sizeS]; exact hbl)
 have GG := Hid.mk (And.intro g120 (And.intro z120 (And.intro g0 (And.intro g1 (And.intro g2 (And.intro g3 (And.intro g4 (And.intro z0 (And.intro z1 (And.intro z2 (And.intro z3 z4)))))))))))
 clear g120 z120 g0 g1 g2 g3 g4 z0 z1 z2 z3 z4 x0 x1 x2 x3 x4 n0 hst hc hf h2 h3 h4
 go_enter Tryz.func35, Tryz.ntmps35
 go_wp2_with fail
 go_loop [5] (fun i => ∃ k : Nat, k ≤ n ∧ i = .int .i64 k) (fun i => n - (intOf i).toNat)
 case atStart => exact ⟨0, Nat.zero_le _, rfl⟩
 case round =>
  obtain ⟨k, hk, rfl⟩ := hrel
  by_cases hkn : k < n
  ·have c0 := cell1 (show w.cell? ⟨b, k * 5, none⟩ = some (.bool true) from by
    have h1 := HC.out.2.1 k (by omega)
    cases hx : sl.getD k none with
    | none => exact absurd hx (HC.out.2.2.2.2 k hkn)
    | some x => rw [hx] at h1; rw [HC.out.1]; exact h1.1)
   go_wp2_with fail
   go_round
   case rel => exact ⟨k + 1, by omega, by go_num⟩
   case measure => simp [intOf]; omega
  ·have hke : k = n := by omega
   have c0 := cell1 (show w.cell? ⟨b, n * 5, none⟩ = some (.bool false) from by
    have h1 := HC.out.2.1 n hn24
    rw [HC.out.2.2.2.1] at h1
    rw [HC.out.1]; exact h1)
   obtain ⟨g120, z120, g0, g1, g2, g3, g4, z0, z1, z2, z3, z4⟩ := GG.out
   subst hke
   go_wp2_with fail
   go_region
   all_goals
    go_wp2_with fail
    go_ret
    have P := HS.out.push hn24 r c (.slice ao m cap) (u := ((nx : Nat) : Int) + 1) (by omega)
    have F := Sg.frOwn HS.out.ty (.int .i64 (((nx : Nat) : Int) + 1)) (.bool true) (.int .i64 (nx : Nat)) (.int .i64 (r : Nat)) (.int .i64 (c : Nat)) (.slice ao m cap) (k * 5) (k * 5 + 1) (k * 5 + 2) (k * 5 + 3) (k * 5 + 4)
    exact ⟨rfl, P.below (alloc_drew _ _), F.trans (Fr.of_below (alloc_drew _ _))⟩
open Go.RowKit
def FitsP (r c : Nat) (zs : List Int) : Prop := r ≤ 4 ∧ c ≤ 4 ∧ ∀ t, t < r * c → (zs.getD t 0).natAbs < 281474976710656
def FitsOut (r c : Nat) (zs : List Int) (b : Bool) : Prop := b = true ↔ FitsP r c zs
set_option maxRecDepth 100000 in
set_option maxHeartbeats 2000000 in
theorem fits_any (v : Value) (r c : Nat) (zs : List Int) (L : Nat) (w : World) (hm : IsM w v r c zs L) (hL : L ≤ 1000000000) :
 Calls Tryz.prog 59 #[v, .int .i64 4, .int .i64 48] w fun e w' => ∃ b, e = .returned (.bool b) ∧ FitsOut r c zs b ∧ Below w.heap.size w w' := by
 obtain ⟨h99, h99', sl, rfl, hg⟩ := hm
 obtain ⟨ao, cap, rfl, hcap, hcm, hao⟩ := hg.shape
 have HG := Hid.mk hg
 have HA := Hid.mk hao
 have hrc : r * c ≤ 9801 := Nat.mul_le_mul h99 h99'
 clear hg hao
 obtain ⟨N, hN⟩ : ∃ N, N = r * c := ⟨_, rfl⟩
 have HN := Hid.mk hN
 rw [← hN] at hcap hrc HG HA ⊢
 clear hN
 by_cases hr : r ≤ 4
 ·by_cases hc : c ≤ 4
  ·go_enter Tryz.func59, Tryz.ntmps59
   go_wp2_with fail
   obtain ⟨W0, hW0⟩ : ∃ W0, W0 = w.alloc (.cells #[.int .i64 r, .int .i64 c, .slice ao N cap] 66) := ⟨_, rfl⟩
   rw [← hW0]
   have m2 : W0.cell? ⟨w.heap.size, 2, none⟩ = some (.slice ao N cap) := by rw [hW0]; simp
   have hB0 : Below w.heap.size w W0 := by rw [hW0]; exact (Below.refl _ _).alloc (Nat.le_refl _) _
   have FM := Hid.mk m2
   clear m2 hW0
   go_loopw [7] (fun i wr => ∃ k : Nat, k ≤ N ∧ i = .int .i64 k ∧ Below W0.heap.size W0 wr ∧ Hid (∀ t, t < k → (zs.getD t 0).natAbs < 281474976710656)) (fun i _ => N - (intOf i).toNat)
   case atStart => exact ⟨0, Nat.zero_le _, rfl, Below.refl _ _, Hid.mk (fun t ht => by omega)⟩
   case round =>
    obtain ⟨k, hk, rfl, hB, HI0⟩ := hrel
    have m2 := cell_later hB FM.out
    by_cases hkN : k < N
    ·obtain ⟨g, rfl⟩ := HA.out k hkN
     have hGr := (HG.out.below hB0).below hB
     obtain ⟨nb, bo, m, ecap, c1, c2, hI⟩ := hGr.cell k hkN
     rw [Nat.mul_comm 2] at c1 c2
     have HB := Hid.mk hB
     have HI := Hid.mk hI
     clear hB hI hGr
     go_wp2_with fail
     refine (bits_any _ _ _ _ HI.out hL).mono ?_
     rintro e w2 ⟨b, rfl, hb, hb2⟩
     have HBB := Hid.mk (hb 48)
     have hB2 : Below W0.heap.size W0 w2 := HB.out.trans (hb2.mono HB.out.size)
     clear hb hb2
     by_cases hbb : b ≤ 48
     ·go_wp2_with fail
      go_roundw
      case rel =>
       refine ⟨k + 1, by omega, by go_num, hB2, Hid.mk fun t ht => ?_⟩
       by_cases htk : t = k
       ·rw [htk]; exact HBB.out.1 hbb
       ·exact HI0.out t (by omega)
      case measure => simp [intOf]; omega
     ·have hbi : (48 : Int) < (b : Int) := by omega
      have HNB := Hid.mk hbb
      clear hbb
      go_wp2_with fail
      go_ret
      refine ⟨_, rfl, ⟨(fun h => by cases h), fun h => ?_⟩, hB0.trans (hB2.mono hB0.size)⟩
      exact absurd (HBB.out.2 (h.2.2 k (by rw [← HN.out]; exact hkN))) HNB.out
    ·go_wp2_with fail
     go_ret
     exact ⟨_, rfl, ⟨fun _ => ⟨hr, hc, fun t ht => HI0.out t (by rw [← HN.out] at ht; omega)⟩, fun _ => rfl⟩, hB0.trans (hB.mono hB0.size)⟩
  ·have hci : (4 : Int) < (c : Int) := by omega
   have HNC := Hid.mk hc
   clear hc
   go_enter Tryz.func59, Tryz.ntmps59
   go_wp2_with fail
   go_ret
   exact ⟨_, rfl, ⟨(fun h => by cases h), fun h => absurd h.2.1 HNC.out⟩, (Below.refl _ _).alloc (Nat.le_refl _) _⟩
 ·have hri : (4 : Int) < (r : Int) := by omega
  have HNR := Hid.mk hr
  clear hr
  go_enter Tryz.func59, Tryz.ntmps59
  go_wp2_with fail
  go_ret
  exact ⟨_, rfl, ⟨(fun h => by cases h), fun h => absurd h.1 HNR.out⟩, (Below.refl _ _).alloc (Nat.le_refl _) _⟩
set_option maxRecDepth 100000 in
set_option maxHeartbeats 2000000 in
theorem tooBig_any (v : Value) (r c : Nat) (zs : List Int) (L : Nat) (w : World) (hm : IsM w v r c zs L) (hL : L ≤ 1000000000) :
 Calls Tryz.prog 33 #[v] w fun e w' => ∃ b, e = .returned (.bool (!b)) ∧ FitsOut r c zs b ∧ Below w.heap.size w w' := by
 have HM := Hid.mk hm
 obtain ⟨_, _, sl, rfl, hg⟩ := hm
 obtain ⟨ao, cap, rfl, -⟩ := hg.shape
 clear hg
 obtain ⟨N, hN⟩ : ∃ N, N = r * c := ⟨_, rfl⟩
 rw [← hN] at HM ⊢
 clear hN
 go_enter Tryz.func33, Tryz.ntmps33
 go_wp2_with fail
 refine (fits_any _ r c zs L _ (HM.out.below ((Below.refl _ _).alloc (Nat.le_refl _) _)) hL).mono ?_
 rintro e w2 ⟨b, rfl, hf, hb⟩
 have HF := Hid.mk (And.intro hf hb)
 clear hf hb
 go_wp2_with fail
 go_ret
 exact ⟨_, rfl, HF.out.1, ((Below.refl w.heap.size w).alloc (Nat.le_refl _) _).trans (HF.out.2.mono (by simp))⟩
end Go.Proofs.YtfjbijpagaipnabGreatDoor
