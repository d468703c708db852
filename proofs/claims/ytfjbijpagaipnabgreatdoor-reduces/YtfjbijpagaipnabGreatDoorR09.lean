import Derived.Test.YtfjbijpagaipnabGreatDoorR08
import Derived.Test.YtfjbijpagaipnabGreatDoorR03
import Derived.Test.YtfjbijpagaipnabGreatDoorR07
namespace Go.Proofs.YtfjbijpagaipnabGreatDoor
open Go.RowKit
theorem SlotIs.same {arr arr' : Array Value} {i : Nat} {x : Slt} (h : SlotIs arr i x) (ho : ∀ j, i * 5 ≤ j → j ≤ i * 5 + 4 → arr'[j]? = arr[j]?) : SlotIs arr' i x := by
 cases x with
 | none => unfold SlotIs at *; rw [ho _ (by omega) (by omega)]; exact h
 | some y =>
   obtain ⟨a, b, c, d, e⟩ := h
   exact ⟨by rw [ho _ (by omega) (by omega)]; exact a, by rw [ho _ (by omega) (by omega)]; exact b, by rw [ho _ (by omega) (by omega)]; exact c, by rw [ho _ (by omega) (by omega)]; exact d, by rw [ho _ (by omega) (by omega)]; exact e⟩
theorem slt_set {sl : List Slt} {k i : Nat} {x : Slt} (hk : k < sl.length) : (sl.set k x).getD i none = if i = k then x else sl.getD i none := by
 by_cases h : i = k
 ·subst h; simp [List.getD, hk]
 ·have h' : ¬ k = i := fun e => h e.symm
  simp [List.getD, h, h']
theorem slots_set {arr arr' : Array Value} {sl : List Slt} {k : Nat} (hk : k < 24) (hl : sl.length = 24) (hs : ∀ i, i < 24 → SlotIs arr i (sl.getD i none)) (ho : ∀ j, (j < k * 5 ∨ k * 5 + 4 < j) → j < 120 → arr'[j]? = arr[j]?) (x : Slt) (hx : SlotIs arr' k x) :
 ∀ i, i < 24 → SlotIs arr' i ((sl.set k x).getD i none) := by
 intro i hi
 rw [slt_set (by omega)]
 by_cases h : i = k
 ·subst h; simpa using hx
 ·rw [if_neg h]
  exact (hs i hi).same (fun j h1 h2 => ho j (by omega) (by omega))
theorem arr_ne (a : Array Value) (i j : Nat) (v : Value) (h : i ≠ j) : (a.setIfInBounds i v)[j]? = a[j]? := Array.getElem?_setIfInBounds_ne h
theorem arr_eq (a : Array Value) (i : Nat) (v : Value) (h : i < a.size) : (a.setIfInBounds i v)[i]? = some v := by rw [Array.getElem?_setIfInBounds_self, if_pos h]
theorem Sg.push {w : World} {b : Nat} {sl : List Slt} {nx : Nat} (h : Sg w b sl nx) {k : Nat} (hk : k < 24) (r c : Nat) (v : Value) {u : Int} (hu : u = ((nx + 1 : Nat) : Int)) :
 Sg ((((((w.setCell ⟨b, 120, none⟩ (.int .i64 u)).setCell ⟨b, k * 5, none⟩ (.bool true)).setCell ⟨b, k * 5 + 1, none⟩ (.int .i64 (nx : Nat))).setCell ⟨b, k * 5 + 2, none⟩ (.int .i64 (r : Nat))).setCell ⟨b, k * 5 + 3, none⟩ (.int .i64 (c : Nat))).setCell ⟨b, k * 5 + 4, none⟩ v) b (sl.set k (some (nx, r, c, v))) (nx + 1) := by
 subst hu
 obtain ⟨h0, arr, h1, h2, h3, h4⟩ := h
 have e1 := heap_setCell_same w b 120 arr 103 (.int .i64 ((nx + 1 : Nat) : Int)) h1
 have e2 := heap_setCell_same _ b (k * 5) _ 103 (.bool true) e1
 have e3 := heap_setCell_same _ b (k * 5 + 1) _ 103 (.int .i64 (nx : Nat)) e2
 have e4 := heap_setCell_same _ b (k * 5 + 2) _ 103 (.int .i64 (r : Nat)) e3
 have e5 := heap_setCell_same _ b (k * 5 + 3) _ 103 (.int .i64 (c : Nat)) e4
 have e6 := heap_setCell_same _ b (k * 5 + 4) _ 103 v e5
 refine ⟨by simp [h0], _, e6, by simp [h2], ?_, slots_set hk h0 h4 (fun j hj hj2 => ?_) _ ⟨?_, ?_, ?_, ?_, ?_⟩⟩
 ·rw [arr_ne _ _ _ _ (by omega), arr_ne _ _ _ _ (by omega), arr_ne _ _ _ _ (by omega), arr_ne _ _ _ _ (by omega), arr_ne _ _ _ _ (by omega), arr_eq _ _ _ (by omega)]
 ·rw [arr_ne _ _ _ _ (by omega), arr_ne _ _ _ _ (by omega), arr_ne _ _ _ _ (by omega), arr_ne _ _ _ _ (by omega), arr_ne _ _ _ _ (by omega), arr_ne _ _ _ _ (by omega)]
 ·rw [arr_ne _ _ _ _ (by omega), arr_ne _ _ _ _ (by omega), arr_ne _ _ _ _ (by omega), arr_ne _ _ _ _ (by omega), arr_eq _ _ _ (by simp; omega)]
 ·rw [arr_ne _ _ _ _ (by omega), arr_ne _ _ _ _ (by omega), arr_ne _ _ _ _ (by omega), arr_eq _ _ _ (by simp; omega)]
 ·rw [arr_ne _ _ _ _ (by omega), arr_ne _ _ _ _ (by omega), arr_eq _ _ _ (by simp; omega)]
 ·rw [arr_ne _ _ _ _ (by omega), arr_eq _ _ _ (by simp; omega)]
 ·rw [arr_eq _ _ _ (by simp; omega)]
theorem Sg.wipe {w : World} {b : Nat} {sl : List Slt} {nx : Nat} (h : Sg w b sl nx) {k : Nat} (hk : k < 24) (u1 u2 u3 u4 : Value) :
 Sg (((((w.setCell ⟨b, k * 5, none⟩ (.bool false)).setCell ⟨b, k * 5 + 1, none⟩ u1).setCell ⟨b, k * 5 + 2, none⟩ u2).setCell ⟨b, k * 5 + 3, none⟩ u3).setCell ⟨b, k * 5 + 4, none⟩ u4) b (sl.set k none) nx := by
 obtain ⟨h0, arr, h1, h2, h3, h4⟩ := h
 have e2 := heap_setCell_same _ b (k * 5) _ 103 (.bool false) h1
 have e3 := heap_setCell_same _ b (k * 5 + 1) _ 103 u1 e2
 have e4 := heap_setCell_same _ b (k * 5 + 2) _ 103 u2 e3
 have e5 := heap_setCell_same _ b (k * 5 + 3) _ 103 u3 e4
 have e6 := heap_setCell_same _ b (k * 5 + 4) _ 103 u4 e5
 refine ⟨by simp [h0], _, e6, by simp [h2], ?_, slots_set hk h0 h4 (fun j hj hj2 => ?_) none ?_⟩
 ·rw [arr_ne _ _ _ _ (by omega), arr_ne _ _ _ _ (by omega), arr_ne _ _ _ _ (by omega), arr_ne _ _ _ _ (by omega), arr_ne _ _ _ _ (by omega)]; exact h3
 ·rw [arr_ne _ _ _ _ (by omega), arr_ne _ _ _ _ (by omega), arr_ne _ _ _ _ (by omega), arr_ne _ _ _ _ (by omega), arr_ne _ _ _ _ (by omega)]
 ·unfold SlotIs
  rw [arr_ne _ _ _ _ (by omega), arr_ne _ _ _ _ (by omega), arr_ne _ _ _ _ (by omega), arr_ne _ _ _ _ (by omega), arr_eq _ _ _ (by omega)]
theorem Sg.frOwn {w : World} {b : Nat} (t0 : Ty w b 103) (u0 u1 u2 u3 u4 u5 : Value) (i1 i2 i3 i4 i5 : Nat) :
 Fr b w ((((((w.setCell ⟨b, 120, none⟩ u0).setCell ⟨b, i1, none⟩ u1).setCell ⟨b, i2, none⟩ u2).setCell ⟨b, i3, none⟩ u3).setCell ⟨b, i4, none⟩ u4).setCell ⟨b, i5, none⟩ u5) := by
 have t1 := t0.setCell ⟨b, 120, none⟩ u0
 have t2 := t1.setCell ⟨b, i1, none⟩ u1
 have t3 := t2.setCell ⟨b, i2, none⟩ u2
 have t4 := t3.setCell ⟨b, i3, none⟩ u3
 have t5 := t4.setCell ⟨b, i4, none⟩ u4
 have f1 := (Fr.refl b w).setOwn (o := 120) t0 (by decide) (by decide) u0
 have f2 := f1.setOwn (o := i1) t1 (by decide) (by decide) u1
 have f3 := f2.setOwn (o := i2) t2 (by decide) (by decide) u2
 have f4 := f3.setOwn (o := i3) t3 (by decide) (by decide) u3
 have f5 := f4.setOwn (o := i4) t4 (by decide) (by decide) u4
 exact f5.setOwn (o := i5) t5 (by decide) (by decide) u5
theorem Sg.frOwn5 {w : World} {b : Nat} (t1 : Ty w b 103) (u1 u2 u3 u4 u5 : Value) (i1 i2 i3 i4 i5 : Nat) :
 Fr b w (((((w.setCell ⟨b, i1, none⟩ u1).setCell ⟨b, i2, none⟩ u2).setCell ⟨b, i3, none⟩ u3).setCell ⟨b, i4, none⟩ u4).setCell ⟨b, i5, none⟩ u5) := by
 have t2 := t1.setCell ⟨b, i1, none⟩ u1
 have t3 := t2.setCell ⟨b, i2, none⟩ u2
 have t4 := t3.setCell ⟨b, i3, none⟩ u3
 have t5 := t4.setCell ⟨b, i4, none⟩ u4
 have f2 := (Fr.refl b w).setOwn (o := i1) t1 (by decide) (by decide) u1
 have f3 := f2.setOwn (o := i2) t2 (by decide) (by decide) u2
 have f4 := f3.setOwn (o := i3) t3 (by decide) (by decide) u3
 have f5 := f4.setOwn (o := i4) t4 (by decide) (by decide) u4
 exact f5.setOwn (o := i5) t5 (by decide) (by decide) u5
def FirstFree (sl : List Slt) (i : Nat) : Prop := i < 24 ∧ sl.getD i none = none ∧ ∀ j, j < i → sl.getD j none ≠ none
theorem FirstFree.exists {sl : List Slt} (hl : sl.length = 24) (h : 0 < sl.countP Option.isNone) : ∃ i, FirstFree sl i := by
 have : ∃ i, i < 24 ∧ sl.getD i none = none := by
  obtain ⟨x, hx, hn⟩ := List.countP_pos_iff.1 h
  obtain ⟨i, hi, he⟩ := List.mem_iff_getElem.1 hx
  refine ⟨i, by omega, ?_⟩
  rw [List.getD, List.getElem?_eq_getElem hi, he]
  cases x <;> simp_all
 obtain ⟨i, hi, he⟩ := this
 induction i using Nat.strongRecOn with
 | ind i ih =>
   by_cases h : ∃ j, j < i ∧ sl.getD j none = none
   ·obtain ⟨j, hj, hjn⟩ := h
    exact ih j hj (by omega) hjn
   ·exact ⟨i, hi, he, fun j hj hjn => h ⟨j, hj, hjn⟩⟩
set_option maxRecDepth 100000 in
set_option maxHeartbeats 1000000 in
theorem keep_any (b r c : Nat) (ao : Option Addr) (m cap : Nat) (sl : List Slt) (nx n : Nat) (w : World) (hst : Sg w b sl nx) (hn : FirstFree sl n) (hnx : nx ≤ 1000000000) :
 Calls Tryz.prog 35 #[.pointer (some ⟨b, 0, none⟩), .agg #[.int .i64 r, .int .i64 c, .slice ao m cap]] w fun e w' => e = .returned (.int .i64 (nx : Nat)) ∧ Sg w' b (sl.set n (some (nx, r, c, .slice ao m cap))) (nx + 1) ∧ Fr b w w' := by
 have hbl := hst.lt
 obtain ⟨arr, h2, hc, hf, h3, h4⟩ := hst.cell
 have HC := Hid.mk (And.intro hc (And.intro h4 hn))
 have HS := Hid.mk hst
 have hn24 : n < 24 := hn.1
 have n0 : w.cell? ⟨b, 120, none⟩ = some (.int .i64 (nx : Nat)) := by rw [hc]; exact h3
 have x0 : w.cell? ⟨b, n * 5, none⟩ = some (.bool false) := by
  have := h4 n hn.1
  rw [hn.2.1] at this
  rw [hc]; exact this
 clear hn
 obtain ⟨v1, x1⟩ : ∃ v1, w.cell? ⟨b, n * 5 + 1, none⟩ = some v1 := ⟨arr[n * 5 + 1]'(by omega), by rw [hc]; exact Array.getElem?_eq_getElem _⟩
 obtain ⟨v2, x2⟩ : ∃ v2, w.cell? ⟨b, n * 5 + 2, none⟩ = some v2 := ⟨arr[n * 5 + 2]'(by omega), by rw [hc]; exact Array.getElem?_eq_getElem _⟩
 obtain ⟨v3, x3⟩ : ∃ v3, w.cell? ⟨b, n * 5 + 3, none⟩ = some v3 := ⟨arr[n * 5 + 3]'(by omega), by rw [hc]; exact Array.getElem?_eq_getElem _⟩
 obtain ⟨v4, x4⟩ : ∃ v4, w.cell? ⟨b, n * 5 + 4, none⟩ = some v4 := ⟨arr[n * 5 + 4]'(by omega), by rw [hc]; exact Array.getElem?_eq_getElem _⟩
 have g120 := cell1 n0
 have z120 := frozen1 (hf 120) hbl
 have g0 : ∀ u, ∀ o, ((w.setCell ⟨b, 120, none⟩ u).alloc o).cell? ⟨b, n * 5, none⟩ = some (.bool false) := fun u => cell1 (cellS x0 (by omega))
 have g1 : ∀ u u0, ∀ o, (((w.setCell ⟨b, 120, none⟩ u).setCell ⟨b, n * 5, none⟩ u0).alloc o).cell? ⟨b, n * 5 + 1, none⟩ = some v1 := fun u u0 => cell1 (cellS (cellS x1 (by omega)) (by omega))
 have g2 : ∀ u u0 u1, ∀ o, ((((w.setCell ⟨b, 120, none⟩ u).setCell ⟨b, n * 5, none⟩ u0).setCell ⟨b, n * 5 + 1, none⟩ u1).alloc o).cell? ⟨b, n * 5 + 2, none⟩ = some v2 := fun u u0 u1 => cell1 (cellS (cellS (cellS x2 (by omega)) (by omega)) (by omega))
 have g3 : ∀ u u0 u1 u2, ∀ o, (((((w.setCell ⟨b, 120, none⟩ u).setCell ⟨b, n * 5, none⟩ u0).setCell ⟨b, n * 5 + 1, none⟩ u1).setCell ⟨b, n * 5 + 2, none⟩ u2).alloc o).cell? ⟨b, n * 5 + 3, none⟩ = some v3 := fun u u0 u1 u2 => cell1 (cellS (cellS (cellS (cellS x3 (by omega)) (by omega)) (by omega)) (by omega))
 have g4 : ∀ u u0 u1 u2 u3, ∀ o, ((((((w.setCell ⟨b, 120, none⟩ u).setCell ⟨b, n * 5, none⟩ u0).setCell ⟨b, n * 5 + 1, none⟩ u1).setCell ⟨b, n * 5 + 2, none⟩ u2).setCell ⟨b, n * 5 + 3, none⟩ u3).alloc o).cell? ⟨b, n * 5 + 4, none⟩ = some v4 := fun u u0 u1 u2 u3 => cell1 (cellS (cellS (cellS (cellS (cellS x4 (by omega)) (by omega)) (by omega)) (by omega)) (by omega))
 have z0 : ∀ u, ∀ o, ((w.setCell ⟨b, 120, none⟩ u).alloc o).frozen? ⟨b, n * 5, none⟩ = false := fun u => frozen1 (frozenS (hf _)) (by rw [sizeS]; exact hbl)
 have z1 : ∀ u u0, ∀ o, (((w.setCell ⟨b, 120, none⟩ u).setCell ⟨b, n * 5, none⟩ u0).alloc o).frozen? ⟨b, n * 5 + 1, none⟩ = false := fun u u0 => frozen1 (frozenS (frozenS (hf _))) (by rw [sizeS, sizeS]; exact hbl)
 have z2 : ∀ u u0 u1, ∀ o, ((((w.setCell ⟨b, 120, none⟩ u).setCell ⟨b, n * 5, none⟩ u0).setCell ⟨b, n * 5 + 1, none⟩ u1).alloc o).frozen? ⟨b, n * 5 + 2, none⟩ = false := fun u u0 u1 => frozen1 (frozenS (frozenS (frozenS (hf _)))) (by rw [sizeS, sizeS, sizeS]; exact hbl)
 have z3 : ∀ u u0 u1 u2, ∀ o, (((((w.setCell ⟨b, 120, none⟩ u).setCell ⟨b, n * 5, none⟩ u0).setCell ⟨b, n * 5 + 1, none⟩ u1).setCell ⟨b, n * 5 + 2, none⟩ u2).alloc o).frozen? ⟨b, n * 5 + 3, none⟩ = false := fun u u0 u1 u2 => frozen1 (frozenS (frozenS (frozenS (frozenS (hf _))))) (by rw [sizeS, sizeS, sizeS, sizeS]; exact hbl)
 have z4 : ∀ u u0 u1 u2 u3, ∀ o, ((((((w.setCell ⟨b, 120, none⟩ u).setCell ⟨b, n * 5, none⟩ u0).setCell ⟨b, n * 5 + 1, none⟩ u1).setCell ⟨b, n * 5 + 2, none⟩ u2).setCell ⟨b, n * 5 + 3, none⟩ u3).alloc o).frozen? ⟨b, n * 5 + 4, none⟩ = false := fun u u0 u1 u2 u3 => frozen1 (frozenS (frozenS (frozenS (frozenS (frozenS (hf _)))))) (by rw [sizeS, sizeS, sizeS, sizeS, sizeS]; exact hbl)
 have GG := Hid.mk (And.intro g120 (And.intro z120 (And.intro g0 (And.intro g1 (And.intro g2 (And.intro g3 (And.intro g4 (And.intro z0 (And.intro z1 (And.intro z2 (And.intro z3 z4)))))))))))
 clear g120 z120 g0 g1 g2 g3 g4 z0 z1 z2 z3 z4 x0 x1 x2 x3 x4 n0 hst hc hf h2 h3 h4
 go_enter Tryz.func35, Tryz.ntmps35
 go_wp2_with fail
 go_loop [5] (fun i => ∃ k : Nat, k ≤ n ∧ i = .int .i64 k) (fun i => n - (intOf i).toNat)
 case atStart => exact ⟨0, Nat.zero_le _, rfl⟩
 case round =>
  obtain ⟨k, hk, rfl⟩ := hrel
  by_cases hkn : k < n
  ·have c0 := cell1 (show w.cell? ⟨b, k * 5, none⟩ = some (.bool true) from by
    have h1 := HC.out.2.1 k (by omega)
    cases hx : sl.getD k none with
    | none => exact absurd hx (HC.out.2.2.2.2 k hkn)
    | some x => rw [hx] at h1; rw [HC.out.1]; exact h1.1)
   go_wp2_with fail
   go_round
   case rel => exact ⟨k + 1, by omega, by go_num⟩
   case measure => simp [intOf]; omega
  ·have hke : k = n := by omega
   have c0 := cell1 (show w.cell? ⟨b, n * 5, none⟩ = some (.bool false) from by
    have h1 := HC.out.2.1 n hn24
    rw [HC.out.2.2.2.1] at h1
    rw [HC.out.1]; exact h1)
   obtain ⟨g120, z120, g0, g1, g2, g3, g4, z0, z1, z2, z3, z4⟩ := GG.out
   subst hke
   go_wp2_with fail
   go_region
   all_goals
    go_wp2_with fail
    go_ret
    have P := HS.out.push hn24 r c (.slice ao m cap) (u := ((nx : Nat) : Int) + 1) (by omega)
    have F := Sg.frOwn HS.out.ty (.int .i64 (((nx : Nat) : Int) + 1)) (.bool true) (.int .i64 (nx : Nat)) (.int .i64 (r : Nat)) (.int .i64 (c : Nat)) (.slice ao m cap) (k * 5) (k * 5 + 1) (k * 5 + 2) (k * 5 + 3) (k * 5 + 4)
    exact ⟨rfl, P.below (alloc_drew _ _), F.trans (Fr.of_below (alloc_drew _ _))⟩
def FreeOut (b : Nat) (sl : List Slt) (nx : Nat) (h : Int) (w w' : World) (e : Int) : Prop := (e = 0 ∧ ∃ k, k < 24 ∧ (∃ x, sl.getD k none = some x ∧ (x.1 : Int) = h) ∧ Sg w' b (sl.set k none) nx ∧ Fr b w w') ∨ (e = 2 ∧ w' = w ∧ ∀ k, k < 24 → ∀ x, sl.getD k none = some x → (x.1 : Int) ≠ h)
set_option maxRecDepth 100000 in
set_option maxHeartbeats 1000000 in
theorem free_any (b : Nat) (h : Int) (sl : List Slt) (nx : Nat) (w : World) (hst : Sg w b sl nx) :
 Calls Tryz.prog 29 #[.pointer (some ⟨b, 0, none⟩), .int .i64 h] w fun e w' => ∃ i : Int, e = .returned (.int .i64 i) ∧ FreeOut b sl nx h w w' i := by
 have hbl := hst.lt
 have HS := Hid.mk hst
 clear hst
 go_enter Tryz.func29, Tryz.ntmps29
 go_wp2_with fail
 refine (place_any b h sl nx _ HS.out).mono ?_
 rintro e w' ⟨⟨i, rfl, hi⟩, rfl⟩
 rcases hi with ⟨k, hk, rfl, x, hx, hxh⟩ | ⟨rfl, hno⟩
 ·obtain ⟨arr, h2, hc, hf, h3, h4⟩ := HS.out.cell
  have HX := Hid.mk (And.intro hx hxh)
  obtain ⟨v0, x0⟩ : ∃ v0, w'.cell? ⟨b, k * 5, none⟩ = some v0 := ⟨arr[k * 5]'(by omega), by rw [hc]; exact Array.getElem?_eq_getElem _⟩
  obtain ⟨v1, x1⟩ : ∃ v1, w'.cell? ⟨b, k * 5 + 1, none⟩ = some v1 := ⟨arr[k * 5 + 1]'(by omega), by rw [hc]; exact Array.getElem?_eq_getElem _⟩
  obtain ⟨v2, x2⟩ : ∃ v2, w'.cell? ⟨b, k * 5 + 2, none⟩ = some v2 := ⟨arr[k * 5 + 2]'(by omega), by rw [hc]; exact Array.getElem?_eq_getElem _⟩
  obtain ⟨v3, x3⟩ : ∃ v3, w'.cell? ⟨b, k * 5 + 3, none⟩ = some v3 := ⟨arr[k * 5 + 3]'(by omega), by rw [hc]; exact Array.getElem?_eq_getElem _⟩
  obtain ⟨v4, x4⟩ : ∃ v4, w'.cell? ⟨b, k * 5 + 4, none⟩ = some v4 := ⟨arr[k * 5 + 4]'(by omega), by rw [hc]; exact Array.getElem?_eq_getElem _⟩
  have y1 : ∀ u, (w'.setCell ⟨b, k * 5, none⟩ u).cell? ⟨b, k * 5 + 1, none⟩ = some v1 := fun u => cellS x1 (by omega)
  have y2 : ∀ u u1, ((w'.setCell ⟨b, k * 5, none⟩ u).setCell ⟨b, k * 5 + 1, none⟩ u1).cell? ⟨b, k * 5 + 2, none⟩ = some v2 := fun u u1 => cellS (cellS x2 (by omega)) (by omega)
  have y3 : ∀ u u1 u2, (((w'.setCell ⟨b, k * 5, none⟩ u).setCell ⟨b, k * 5 + 1, none⟩ u1).setCell ⟨b, k * 5 + 2, none⟩ u2).cell? ⟨b, k * 5 + 3, none⟩ = some v3 := fun u u1 u2 => cellS (cellS (cellS x3 (by omega)) (by omega)) (by omega)
  have y4 : ∀ u u1 u2 u3, ((((w'.setCell ⟨b, k * 5, none⟩ u).setCell ⟨b, k * 5 + 1, none⟩ u1).setCell ⟨b, k * 5 + 2, none⟩ u2).setCell ⟨b, k * 5 + 3, none⟩ u3).cell? ⟨b, k * 5 + 4, none⟩ = some v4 := fun u u1 u2 u3 => cellS (cellS (cellS (cellS x4 (by omega)) (by omega)) (by omega)) (by omega)
  have f0 := hf (k * 5)
  have f1 := hf (k * 5 + 1)
  have f2 := hf (k * 5 + 2)
  have f3 := hf (k * 5 + 3)
  have f4 := hf (k * 5 + 4)
  clear hc hf h3 h4 h2 hx hxh x1 x2 x3 x4
  go_wp2_with fail
  go_ret
  exact ⟨_, rfl, .inl ⟨rfl, k, hk, ⟨x, HX.out⟩, HS.out.wipe hk _ _ _ _, Sg.frOwn5 HS.out.ty _ _ _ _ _ _ _ _ _ _⟩⟩
 ·have HN := Hid.mk hno
  clear hno
  go_wp2_with fail
  go_ret
  exact ⟨_, rfl, .inr ⟨rfl, rfl, HN.out⟩⟩
open Go.RowKit
def FitsP (r c : Nat) (zs : List Int) : Prop := r ≤ 4 ∧ c ≤ 4 ∧ ∀ t, t < r * c → (zs.getD t 0).natAbs < 281474976710656
def FitsOut (r c : Nat) (zs : List Int) (b : Bool) : Prop := b = true ↔ FitsP r c zs
set_option maxRecDepth 100000 in
set_option maxHeartbeats 2000000 in
theorem fits_any (v : Value) (r c : Nat) (zs : List Int) (L : Nat) (w : World) (hm : IsM w v r c zs L) (hL : L ≤ 1000000000) :
 Calls Tryz.prog 59 #[v, .int .i64 4, .int .i64 48] w fun e w' => ∃ b, e = .returned (.bool b) ∧ FitsOut r c zs b ∧ Below w.heap.size w w' := by
 obtain ⟨h99, h99', sl, rfl, hg⟩ := hm
 obtain ⟨ao, cap, rfl, hcap, hcm, hao⟩ := hg.shape
 have HG := Hid.mk hg
 have HA := Hid.mk hao
 have hrc : r * c ≤ 9801 := Nat.mul_le_mul h99 h99'
 clear hg hao
 obtain ⟨N, hN⟩ : ∃ N, N = r * c := ⟨_, rfl⟩
 have HN := Hid.mk hN
 rw [← hN] at hcap hrc HG HA ⊢
 clear hN
 by_cases hr : r ≤ 4
 ·by_cases hc : c ≤ 4
  ·go_enter Tryz.func59, Tryz.ntmps59
   go_wp2_with fail
   obtain ⟨W0, hW0⟩ : ∃ W0, W0 = w.alloc (.cells #[.int .i64 r, .int .i64 c, .slice ao N cap] 66) := ⟨_, rfl⟩
   rw [← hW0]
   have m2 : W0.cell? ⟨w.heap.size, 2, none⟩ = some (.slice ao N cap) := by rw [hW0]; simp
   have hB0 : Below w.heap.size w W0 := by rw [hW0]; exact (Below.refl _ _).alloc (Nat.le_refl _) _
   have FM := Hid.mk m2
   clear m2 hW0
   go_loopw [7] (fun i wr => ∃ k : Nat, k ≤ N ∧ i = .int .i64 k ∧ Below W0.heap.size W0 wr ∧ Hid (∀ t, t < k → (zs.getD t 0).natAbs < 281474976710656)) (fun i _ => N - (intOf i).toNat)
   case atStart => exact ⟨0, Nat.zero_le _, rfl, Below.refl _ _, Hid.mk (fun t ht => by omega)⟩
   case round =>
    obtain ⟨k, hk, rfl, hB, HI0⟩ := hrel
    have m2 := cell_later hB FM.out
    by_cases hkN : k < N
    ·obtain ⟨g, rfl⟩ := HA.out k hkN
     have hGr := (HG.out.below hB0).below hB
     obtain ⟨nb, bo, m, ecap, c1, c2, hI⟩ := hGr.cell k hkN
     rw [Nat.mul_comm 2] at c1 c2
     have HB := Hid.mk hB
     have HI := Hid.mk hI
     clear hB hI hGr
     go_wp2_with fail
     refine (bits_any _ _ _ _ HI.out hL).mono ?_
     rintro e w2 ⟨b, rfl, hb, hb2⟩
     have HBB := Hid.mk (hb 48)
     have hB2 : Below W0.heap.size W0 w2 := HB.out.trans (hb2.mono HB.out.size)
     clear hb hb2
     by_cases hbb : b ≤ 48
     ·go_wp2_with fail
      go_roundw
      case rel =>
       refine ⟨k + 1, by omega, by go_num, hB2, Hid.mk fun t ht => ?_⟩
       by_cases htk : t = k
       ·rw [htk]; exact HBB.out.1 hbb
       ·exact HI0.out t (by omega)
      case measure => simp [intOf]; omega
     ·have hbi : (48 : Int) < (b : Int) := by omega
      have HNB := Hid.mk hbb
      clear hbb
      go_wp2_with fail
      go_ret
      refine ⟨_, rfl, ⟨(fun h => by cases h), fun h => ?_⟩, hB0.trans (hB2.mono hB0.size)⟩
      exact absurd (HBB.out.2 (h.2.2 k (by rw [← HN.out]; exact hkN))) HNB.out
    ·go_wp2_with fail
     go_ret
     exact ⟨_, rfl, ⟨fun _ => ⟨hr, hc, fun t ht => HI0.out t (by rw [← HN.out] at ht; omega)⟩, fun _ => rfl⟩, hB0.trans (hB.mono hB0.size)⟩
  ·have hci : (4 : Int) < (c : Int) := by omega
   have HNC := Hid.mk hc
   clear hc
   go_enter Tryz.func59, Tryz.ntmps59
   go_wp2_with fail
   go_ret
   exact ⟨_, rfl, ⟨(fun h => by cases h), fun h => absurd h.2.1 HNC.out⟩, (Below.refl _ _).alloc (Nat.le_refl _) _⟩
 ·have hri : (4 : Int) < (r : Int) := by omega
  have HNR := Hid.mk hr
  clear hr
  go_enter Tryz.func59, Tryz.ntmps59
  go_wp2_with fail
  go_ret
  exact ⟨_, rfl, ⟨(fun h => by cases h), fun h => absurd h.1 HNR.out⟩, (Below.refl _ _).alloc (Nat.le_refl _) _⟩
set_option maxRecDepth 100000 in
set_option maxHeartbeats 2000000 in
theorem tooBig_any (v : Value) (r c : Nat) (zs : List Int) (L : Nat) (w : World) (hm : IsM w v r c zs L) (hL : L ≤ 1000000000) :
 Calls Tryz.prog 33 #[v] w fun e w' => ∃ b, e = .returned (.bool (!b)) ∧ FitsOut r c zs b ∧ Below w.heap.size w w' := by
 have HM := Hid.mk hm
 obtain ⟨_, _, sl, rfl, hg⟩ := hm
 obtain ⟨ao, cap, rfl, -⟩ := hg.shape
 clear hg
 obtain ⟨N, hN⟩ : ∃ N, N = r * c := ⟨_, rfl⟩
 rw [← hN] at HM ⊢
 clear hN
 go_enter Tryz.func33, Tryz.ntmps33
 go_wp2_with fail
 refine (fits_any _ r c zs L _ (HM.out.below ((Below.refl _ _).alloc (Nat.le_refl _) _)) hL).mono ?_
 rintro e w2 ⟨b, rfl, hf, hb⟩
 have HF := Hid.mk (And.intro hf hb)
 clear hf hb
 go_wp2_with fail
 go_ret
 exact ⟨_, rfl, HF.out.1, ((Below.refl w.heap.size w).alloc (Nat.le_refl _) _).trans (HF.out.2.mono (by simp))⟩
open Go.RowKit
def Rb (w : World) (p : Nat) (s : ByteArray) (q : Nat) (bad : Bool) : Prop := w.heap[p]? = some (.cells #[.string s, .int .i64 q, .bool bad] 106 (0, 0))
theorem Rb.lt {w : World} {p : Nat} {s : ByteArray} {q : Nat} {bad : Bool} (h : Rb w p s q bad) : p < w.heap.size := (Array.getElem?_eq_some_iff.1 h).1
theorem Rb.ty {w : World} {p : Nat} {s : ByteArray} {q : Nat} {bad : Bool} (h : Rb w p s q bad) : Ty w p 106 := ⟨_, _, h⟩
theorem Rb.below {w w' : World} {p : Nat} {s : ByteArray} {q : Nat} {bad : Bool} (h : Rb w p s q bad) (hb : Below w.heap.size w w') : Rb w' p s q bad := by unfold Rb; rw [hb.block p h.lt]; exact h
theorem Rb.cells {w : World} {p : Nat} {s : ByteArray} {q : Nat} {bad : Bool} (h : Rb w p s q bad) : w.cell? ⟨p, 0, none⟩ = some (.string s) ∧ w.cell? ⟨p, 1, none⟩ = some (.int .i64 q) ∧ w.cell? ⟨p, 2, none⟩ = some (.bool bad) ∧ w.frozen? ⟨p, 1, none⟩ = false ∧ w.frozen? ⟨p, 2, none⟩ = false := by
 unfold Rb at h
 refine ⟨?_, ?_, ?_, ?_, ?_⟩ <;> simp [World.cell?, World.frozen?, h]
theorem Rb.frSet {w : World} {p : Nat} {s : ByteArray} {q : Nat} {bad : Bool} (h : Rb w p s q bad) (o : Nat) (u : Value) (n : Nat) : Fr p w ((w.setCell ⟨p, o, none⟩ u).drewN n) := by
 refine ⟨⟨rfl, rfl, rfl, by simp [World.setCell], fun k _ hne => ?_⟩, ?_⟩
 ·show (w.setCell ⟨p, o, none⟩ u).heap[k]? = _
  rw [Below.heap_setCell _ _ _ _ (fun e => hne (by simp [e]))]
 ·exact KT.setCell (KT.refl _) h.ty (by decide) (by decide) _
theorem Rb.move {w : World} {p : Nat} {s : ByteArray} {q : Nat} {bad : Bool} (h : Rb w p s q bad) {z : Int} {q' : Nat} (hz : z = q') (n : Nat) : Rb ((w.setCell ⟨p, 1, none⟩ (.int .i64 z)).drewN n) p s q' bad ∧ Fr p w ((w.setCell ⟨p, 1, none⟩ (.int .i64 z)).drewN n) := by
 subst hz
 refine ⟨?_, h.frSet _ _ _⟩
 show (w.setCell ⟨p, 1, none⟩ (.int .i64 q')).heap[p]? = _
 rw [heap_setCell_same _ _ _ _ _ _ h]
 simp
theorem Rb.fault {w : World} {p : Nat} {s : ByteArray} {q : Nat} {bad : Bool} (h : Rb w p s q bad) (n : Nat) : Rb ((w.setCell ⟨p, 2, none⟩ (.bool true)).drewN n) p s q true ∧ Fr p w ((w.setCell ⟨p, 2, none⟩ (.bool true)).drewN n) := by
 refine ⟨?_, h.frSet _ _ _⟩
 show (w.setCell ⟨p, 2, none⟩ (.bool true)).heap[p]? = _
 rw [heap_setCell_same _ _ _ _ _ _ h]
 simp
theorem Rb.setOther {w : World} {p b o : Nat} {s : ByteArray} {q : Nat} {bad : Bool} (h : Rb w p s q bad) (hne : b ≠ p) (u : Value) : Rb (w.setCell ⟨b, o, none⟩ u) p s q bad := by
 unfold Rb; rw [Below.heap_setCell _ _ _ _ (by simp; omega)]; exact h
theorem Rem.rest (s : ByteArray) (q : Nat) (hq : q ≤ s.size) : Rem s q (s.data.toList.drop q) := ⟨hq, rfl⟩
theorem split_digs (l : List UInt8) : ∃ ds r, l = ds ++ r ∧ Digs ds ∧ Stops r := by
 induction l with
 | nil => exact ⟨[], [], rfl, (fun c hc => by cases hc), .inl rfl⟩
 | cons x t ih =>
   by_cases h : 48 ≤ x.toNat ∧ x.toNat ≤ 57
   ·obtain ⟨ds, r, h1, h2, h3⟩ := ih
    refine ⟨x :: ds, r, by rw [h1]; rfl, fun c hc => ?_, h3⟩
    rcases List.mem_cons.1 hc with rfl | hc
    ·exact h
    ·exact h2 c hc
   ·exact ⟨[], x :: t, rfl, (fun c hc => by cases hc), .inr ⟨x, t, rfl, by omega⟩⟩
set_option maxRecDepth 100000 in
set_option maxHeartbeats 1000000 in
theorem sees_any (p : Nat) (s : ByteArray) (q : Nat) (bad : Bool) (c : UInt8) (w : World) (h : Rb w p s q bad) (hq : q ≤ s.size) (_hs : s.size ≤ 4611686018427387904) :
 Calls Tryz.prog 88 #[.pointer (some ⟨p, 0, none⟩), .int .u8 (c.toNat : Nat)] w fun e w' => (∃ b, e = .returned (.bool b) ∧ (b = true → ∃ l, Rem s q (c :: l)) ∧ (b = false → ∀ l, ¬ Rem s q (c :: l))) ∧ ∃ n, w' = w.drewN n := by
 obtain ⟨c0, c1, c2, -, -⟩ := h.cells
 by_cases hlt : q < s.size
 ·obtain ⟨x, hx⟩ : ∃ x, x = s[q]'hlt := ⟨_, rfl⟩
  have hx' : (s[q]'hlt).toNat = x.toNat := by rw [hx]
  have hqi : (q : Int) < (s.size : Int) := by omega
  have hrem : Rem s q (x :: s.data.toList.drop (q + 1)) := by
   refine ⟨hq, ?_⟩
   rw [List.drop_eq_getElem_cons (show q < s.data.toList.length from by simpa using hlt), hx]
   rfl
  have HR := Hid.mk hrem
  clear h hrem hx
  go_enter Tryz.func88, Tryz.ntmps88
  go_wp2_with fail
  go_quiet (fail)
  go_wp2_with fail
  go_ret
  refine ⟨⟨_, rfl, fun hb => ?_, fun hb l hl => ?_⟩, _, rfl⟩
  ·have e : x = c := UInt8.toNat_inj.1 (by have := beq_iff_eq.1 hb; omega)
   rw [← e]; exact ⟨_, HR.out⟩
  ·have h2 := HR.out.2
   rw [hl.2] at h2
   injection h2 with h2 _
   rw [h2] at hb
   simp at hb
 ·have hd0 : decide (q < s.size) = false := by simp; omega
  have hd1 : decide ((q : Int) < (s.size : Int)) = false := by simp; omega
  have hqe : q = s.size := by omega
  have HQ := Hid.mk hqe
  clear h hlt hqe
  go_enter Tryz.func88, Tryz.ntmps88
  go_wp2_with fail
  go_quiet (fail)
  go_wp2_with fail
  go_ret
  refine ⟨⟨_, rfl, (fun hb => by cases hb), fun _ l hl => ?_⟩, _, rfl⟩
  obtain ⟨h1, -⟩ := hl.cons
  have := HQ.out
  omega
set_option maxRecDepth 100000 in
set_option maxHeartbeats 1000000 in
theorem want_any (p : Nat) (s : ByteArray) (q : Nat) (bad : Bool) (c : UInt8) (w : World) (h : Rb w p s q bad) (hq : q ≤ s.size) (hs : s.size ≤ 4611686018427387904) :
 Calls Tryz.prog 56 #[.pointer (some ⟨p, 0, none⟩), .int .u8 (c.toNat : Nat)] w fun e w' => e = .returned (.tuple #[]) ∧ (∃ q' bad', Rb w' p s q' bad' ∧ q' ≤ s.size ∧ (bad' = false → bad = false ∧ q' = q + 1 ∧ ∃ l, Rem s q (c :: l))) ∧ Fr p w w' := by
 obtain ⟨c0, c1, c2, c3, c4⟩ := h.cells
 have H := Hid.mk h
 clear h
 go_enter Tryz.func56, Tryz.ntmps56
 go_wp2_with fail
 refine (sees_any p s q bad c _ H.out hq hs).mono ?_
 rintro e w' ⟨⟨b, rfl, hb1, hb2⟩, n, rfl⟩
 have HB := Hid.mk (And.intro hb1 hb2)
 clear hb1 hb2
 cases b
 ·go_wp2_with fail
  go_end0
  exact ⟨rfl, ⟨_, _, (H.out.fault n).1, hq, (fun e => by cases e)⟩, (H.out.fault n).2⟩
 ·obtain ⟨l, hl⟩ := HB.out.1 rfl
  obtain ⟨hlt, -, -⟩ := hl.cons
  have HL := Hid.mk hl
  clear hl
  go_wp2_with fail
  refine bodyPost_ret (v := .tuple #[]) ?_ rfl ?_
  ·(simp [results, Tryz.results56, go_sem]; done)
  ·have M := H.out.move (q' := q + 1) (z := (q : Int) + 1) (by omega) n
   exact ⟨rfl, ⟨_, _, M.1, by omega, fun e => ⟨e, rfl, l, HL.out⟩⟩, M.2⟩
set_option maxRecDepth 100000 in
set_option maxHeartbeats 4000000 in
theorem digits_any (p : Nat) (s : ByteArray) (a : Nat) (bad : Bool) (ds l : List UInt8) (w : World) (h : Rb w p s a bad) (hr : Rem s a (ds ++ l)) (hs : s.size ≤ 4611686018427387904) (hd : Digs ds) (hl : Stops l) :
 Calls Tryz.prog 87 #[.pointer (some ⟨p, 0, none⟩)] w fun e w' => e = .returned (.string ⟨ds.toArray⟩) ∧ (∃ bad', Rb w' p s (a + ds.length) bad' ∧ (bad' = false → bad = false ∧ Run ds)) ∧ Fr p w w' := by
 have H := Hid.mk h
 have HR := Hid.mk hr
 have HD := Hid.mk hd
 have HL := Hid.mk hl
 obtain ⟨c0, c1, c2, c3, c4⟩ := h.cells
 clear h hr hd hl
 go_enter Tryz.func87, Tryz.ntmps87
 go_wp2_with fail
 go_loopg [] ds.length (fun g wr => ∃ k q : Nat, k ≤ ds.length ∧ Rb wr p s q bad ∧ Fr p w wr ∧ Hid (q = a + k ∧ g = ds.length - k))
 case atStart => exact ⟨0, a, Nat.zero_le _, H.out, Fr.refl _ _, Hid.mk ⟨rfl, rfl⟩⟩
 case round =>
  clear c0 c1 c2 c3 c4
  obtain ⟨k, q, hk, hrd, hfr, HI⟩ := hrel
  obtain ⟨c0, c1, c2, c3, c4⟩ := hrd.cells
  have HRD := Hid.mk hrd
  have HFR := Hid.mk hfr
  clear hrd hfr
  by_cases hkd : k < ds.length
  ·obtain ⟨hq0, hx⟩ := HR.out.dig k hkd
   have hq : q < s.size := by rw [HI.out.1]; exact hq0
   have hd := HD.out _ (List.getElem_mem hkd)
   have hxq : s[q]'hq = ds[k] := by rw [← hx]; congr 1; exact HI.out.1
   rw [← hxq] at hd
   have d1 : (48 : Int) ≤ ((s[q]'hq).toNat : Int) := by omega
   have d2 : ((s[q]'hq).toNat : Int) ≤ 57 := by omega
   have hqi : (q : Int) < (s.size : Int) := by omega
   clear hd hxq hx hq0
   go_wp2_with fail
   go_quiet (fail)
   go_wp2_with fail
   go_roundg (ds.length - (k + 1))
   case measure => have := HI.out.2; omega
   case rel =>
    have M := HRD.out.move (q' := q + 1) (z := (q : Int) + 1) (by omega) nq
    exact ⟨k + 1, q + 1, by omega, M.1, HFR.out.trans M.2, Hid.mk ⟨by have := HI.out.1; omega, rfl⟩⟩
  ·have hkk : k = ds.length := by omega
   have hqq : q = a + ds.length := by rw [← hkk]; exact HI.out.1
   have HQ := Hid.mk hqq
   obtain ⟨rb, hrb⟩ : ∃ rb, s.extract a q = rb := ⟨_, rfl⟩
   have hrb2 : rb = ⟨ds.toArray⟩ := by rw [← hrb, hqq]; exact HR.out.cut
   have hrs : rb.size = ds.length := by rw [hrb2]; rfl
   have HRUN : Hid ((rb.size = 0) ∨ (rb.size = 1 ∧ Run ds) ∨ (1 < rb.size ∧ ∃ hz : 0 < rb.size, ((rb[0]'hz).toNat == 48) = false ∧ Run ds) ∨ (1 < rb.size ∧ ∃ hz : 0 < rb.size, ((rb[0]'hz).toNat == 48) = true)) := by
    refine Hid.mk ?_
    cases hds : ds with
    | nil => exact .inl (by rw [hrs, hds]; rfl)
    | cons d r =>
      cases r with
      | nil => exact .inr (.inl ⟨by rw [hrs, hds]; rfl, by simp, by rw [← hds]; exact HD.out, .inl rfl⟩)
      | cons d2 r2 =>
        have h1 : 1 < rb.size := by rw [hrs, hds]; simp
        have h4 : rb[0]'(by omega) = d := by subst hds; subst hrb2; rfl
        by_cases h5 : d.toNat = 48
        ·exact .inr (.inr (.inr ⟨h1, by omega, by rw [h4]; simp [h5]⟩))
        ·exact .inr (.inr (.inl ⟨h1, by omega, by rw [h4]; exact beq_eq_false_iff_ne.2 h5, by simp, by rw [← hds]; exact HD.out, .inr ⟨d, d2 :: r2, rfl, h5⟩⟩))
   have HRB := Hid.mk hrb2
   have haq : a ≤ q := by omega
   have hqs : q ≤ s.size := by have := HR.out.app; rw [hqq]; exact this.1
   have hrbs : rb.size ≤ 4611686018427387904 := by rw [hrs]; omega
   clear hrb2 hqq hkk hrs hkd
   have hstop : decide (q < s.size) = false ∨ (∃ hq : q < s.size, (s[q]'hq).toNat < 48) ∨ (∃ hq : q < s.size, 48 ≤ (s[q]'hq).toNat ∧ 57 < (s[q]'hq).toNat) := by
    rcases HL.out with hl | ⟨c, r, hl, hc⟩
    ·have h1 := HR.out.app
     rw [hl, ← HQ.out] at h1
     have := h1.nil
     exact .inl (by simp; omega)
    ·have h1 := HR.out.app
     rw [hl, ← HQ.out] at h1
     obtain ⟨hq, hx, -⟩ := h1.cons
     rcases hc with hc | hc
     ·exact .inr (.inl ⟨hq, by rw [hx]; exact hc⟩)
     ·exact .inr (.inr ⟨hq, by rw [hx]; omega, by rw [hx]; exact hc⟩)
   rcases hstop with hd0 | ⟨hq, hx⟩ | ⟨hq, hx1, hx2⟩
   case' inr.inl =>
    have hqi : (q : Int) < (s.size : Int) := by omega
    have e1 : decide ((48 : Int) ≤ ((s[q]'hq).toNat : Int)) = false := by simp; omega
    have e2 : decide (48 ≤ (s[q]'hq).toNat) = false := by simp; omega
   case' inr.inr =>
    have hqi : (q : Int) < (s.size : Int) := by omega
    have d1 : (48 : Int) ≤ ((s[q]'hq).toNat : Int) := by omega
    have e1 : decide (((s[q]'hq).toNat : Int) ≤ 57) = false := by simp; omega
    have e2 : decide ((s[q]'hq).toNat ≤ 57) = false := by simp; omega
   all_goals
    go_wp2_with fail
    go_quiet (fail)
    go_wp2_with fail
    go_quiet (fail)
    rcases HRUN.out with h1 | ⟨h1, hrun⟩ | ⟨h1, hz, g3, hrun⟩ | ⟨h1, hz, g3⟩
    ·have g1 : ((rb.size : Int) == 0) = true := beq_iff_eq.2 (by omega)
     go_wp2_with fail
     go_ret
     exact ⟨ret_str HRB.out, ⟨true, by rw [← HQ.out]; exact (HRD.out.fault _).1, (fun e => by cases e)⟩, HFR.out.trans (HRD.out.fault _).2⟩
    ·have g1 : ((rb.size : Int) == 0) = false := beq_eq_false_iff_ne.2 (by omega)
     have g2 : decide (1 < (rb.size : Int)) = false := by simp; omega
     have HRN := Hid.mk hrun
     clear hrun
     go_wp2_with fail
     go_ret
     exact ⟨ret_str HRB.out, ⟨bad, by rw [← HQ.out]; exact HRD.out.below (below_drewN (Below.refl _ _) _), fun e => ⟨e, HRN.out⟩⟩, HFR.out.trans (Fr.of_below (below_drewN (Below.refl _ _) _))⟩
    ·have g1 : ((rb.size : Int) == 0) = false := beq_eq_false_iff_ne.2 (by omega)
     have g2 : (1 : Int) < (rb.size : Int) := by omega
     have HRN := Hid.mk hrun
     clear hrun
     go_wp2_with fail
     go_ret
     exact ⟨ret_str HRB.out, ⟨bad, by rw [← HQ.out]; exact HRD.out.below (below_drewN (Below.refl _ _) _), fun e => ⟨e, HRN.out⟩⟩, HFR.out.trans (Fr.of_below (below_drewN (Below.refl _ _) _))⟩
    ·have g1 : ((rb.size : Int) == 0) = false := beq_eq_false_iff_ne.2 (by omega)
     have g2 : (1 : Int) < (rb.size : Int) := by omega
     go_wp2_with fail
     go_ret
     exact ⟨ret_str HRB.out, ⟨true, by rw [← HQ.out]; exact (HRD.out.fault _).1, (fun e => by cases e)⟩, HFR.out.trans (HRD.out.fault _).2⟩
end Go.Proofs.YtfjbijpagaipnabGreatDoor
