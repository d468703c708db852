import Derived.Test.YtfjbijpagaipnabGreatDoorT07
import Derived.Test.YtfjbijpagaipnabGreatDoorT03
import Derived.Test.YtfjbijpagaipnabGreatDoorT06
namespace Go.Proofs.YtfjbijpagaipnabGreatDoor
open Go.RowKit
theorem SlotIs.same {arr arr' : Array Value} {i : Nat} {x : Slt} (h : SlotIs arr i x) (ho : ∀ j, i * 5 ≤ j → j ≤ i * 5 + 4 → arr'[j]? = arr[j]?) : SlotIs arr' i x := by
 cases x with
 | none => unfold SlotIs at *; rw [ho _ (by omega) (by omega)]; exact h
 | some y =>
   obtain ⟨a, b, c, d, e⟩ := h
   exact ⟨by rw [ho _ (by omega) (by omega)]; exact a, by rw [ho _ (by omega) (by omega)]; exact b, by rw [ho _ (by omega) (by omega)]; exact c, by rw [ho _ (by omega) (by omega)]; exact d, by rw [ho _ (by omega) (by omega)]; exact e⟩
theorem slt_set {sl : List Slt} {k i : Nat} {x : Slt} (hk : k < sl.length) : (sl.set k x).getD i none = if i = k then x else sl.getD i none := by
 by_cases h : i = k
 ·subst h; simp [List.getD, hk]
 ·have h' : ¬ k = i := fun e => h e.symm
  simp [List.getD, h, h']
theorem slots_set {arr arr' : Array Value} {sl : List Slt} {k : Nat} (hk : k < 24) (hl : sl.length = 24) (hs : ∀ i, i < 24 → SlotIs arr i (sl.getD i none)) (ho : ∀ j, (j < k * 5 ∨ k * 5 + 4 < j) → j < 120 → arr'[j]? = arr[j]?) (x : Slt) (hx : SlotIs arr' k x) :
 ∀ i, i < 24 → SlotIs arr' i ((sl.set k x).getD i none) := by
 intro i hi
 rw [slt_set (by omega)]
 by_cases h : i = k
 ·subst h; simpa using hx
 ·rw [if_neg h]
  exact (hs i hi).same (fun j h1 h2 => ho j (by omega) (by omega))
theorem arr_ne (a : Array Value) (i j : Nat) (v : Value) (h : i ≠ j) : (a.setIfInBounds i v)[j]? = a[j]? := Array.getElem?_setIfInBounds_ne h
theorem arr_eq (a : Array Value) (i : Nat) (v : Value) (h : i < a.size) : (a.setIfInBounds i v)[i]? = some v := by rw [Array.getElem?_setIfInBounds_self, if_pos h]
theorem Sg.push {w : World} {b : Nat} {sl : List Slt} {nx : Nat} (h : Sg w b sl nx) {k : Nat} (hk : k < 24) (r c : Nat) (v : Value) {u : Int} (hu : u = ((nx + 1 : Nat) : Int)) :
 Sg ((((((w.setCell ⟨b, 120, none⟩ (.int .i64 u)).setCell ⟨b, k * 5, none⟩ (.bool true)).setCell ⟨b, k * 5 + 1, none⟩ (.int .i64 (nx : Nat))).setCell ⟨b, k * 5 + 2, none⟩ (.int .i64 (r : Nat))).setCell ⟨b, k * 5 + 3, none⟩ (.int .i64 (c : Nat))).setCell ⟨b, k * 5 + 4, none⟩ v) b (sl.set k (some (nx, r, c, v))) (nx + 1) := by
 subst hu
 obtain ⟨h0, arr, h1, h2, h3, h4⟩ := h
 have e1 := heap_setCell_same w b 120 arr 103 (.int .i64 ((nx + 1 : Nat) : Int)) h1
 have e2 := heap_setCell_same _ b (k * 5) _ 103 (.bool true) e1
 have e3 := heap_setCell_same _ b (k * 5 + 1) _ 103 (.int .i64 (nx : Nat)) e2
 have e4 := heap_setCell_same _ b (k * 5 + 2) _ 103 (.int .i64 (r : Nat)) e3
 have e5 := heap_setCell_same _ b (k * 5 + 3) _ 103 (.int .i64 (c : Nat)) e4
 have e6 := heap_setCell_same _ b (k * 5 + 4) _ 103 v e5
 refine ⟨by simp [h0], _, e6, by simp [h2], ?_, slots_set hk h0 h4 (fun j hj hj2 => ?_) _ ⟨?_, ?_, ?_, ?_, ?_⟩⟩
 ·rw [arr_ne _ _ _ _ (by omega), arr_ne _ _ _ _ (by omega), arr_ne _ _ _ _ (by omega), arr_ne _ _ _ _ (by omega), arr_ne _ _ _ _ (by omega), arr_eq _ _ _ (by omega)]
 ·rw [arr_ne _ _ _ _ (by omega), arr_ne _ _ _ _ (by omega), arr_ne _ _ _ _ (by omega), arr_ne _ _ _ _ (by omega), arr_ne _ _ _ _ (by omega), arr_ne _ _ _ _ (by omega)]
 ·rw [arr_ne _ _ _ _ (by omega), arr_ne _ _ _ _ (by omega), arr_ne _ _ _ _ (by omega), arr_ne _ _ _ _ (by omega), arr_eq _ _ _ (by simp; omega)]
 ·rw [arr_ne _ _ _ _ (by omega), arr_ne _ _ _ _ (by omega), arr_ne _ _ _ _ (by omega), arr_eq _ _ _ (by simp; omega)]
 ·rw [arr_ne _ _ _ _ (by omega), arr_ne _ _ _ _ (by omega), arr_eq _ _ _ (by simp; omega)]
 ·rw [arr_ne _ _ _ _ (by omega), arr_eq _ _ _ (by simp; omega)]
 ·rw [arr_eq _ _ _ (by simp; omega)]
theorem Sg.wipe {w : World} {b : Nat} {sl : List Slt} {nx : Nat} (h : Sg w b sl nx) {k : Nat} (hk : k < 24) (u1 u2 u3 u4 : Value) :
 Sg (((((w.setCell ⟨b, k * 5, none⟩ (.bool false)).setCell ⟨b, k * 5 + 1, none⟩ u1).setCell ⟨b, k * 5 + 2, none⟩ u2).setCell ⟨b, k * 5 + 3, none⟩ u3).setCell ⟨b, k * 5 + 4, none⟩ u4) b (sl.set k none) nx := by
 obtain ⟨h0, arr, h1, h2, h3, h4⟩ := h
 have e2 := heap_setCell_same _ b (k * 5) _ 103 (.bool false) h1
 have e3 := heap_setCell_same _ b (k * 5 + 1) _ 103 u1 e2
 have e4 := heap_setCell_same _ b (k * 5 + 2) _ 103 u2 e3
 have e5 := heap_setCell_same _ b (k * 5 + 3) _ 103 u3 e4
 have e6 := heap_setCell_same _ b (k * 5 + 4) _ 103 u4 e5
 refine ⟨by simp [h0], _, e6, by simp [h2], ?_, slots_set hk h0 h4 (fun j hj hj2 => ?_) none ?_⟩
 ·rw [arr_ne _ _ _ _ (by omega), arr_ne _ _ _ _ (by omega), arr_ne _ _ _ _ (by omega), arr_ne _ _ _ _ (by omega), arr_ne _ _ _ _ (by omega)]; exact h3
 ·rw [arr_ne _ _ _ _ (by omega), arr_ne _ _ _ _ (by omega), arr_ne _ _ _ _ (by omega), arr_ne _ _ _ _ (by omega), arr_ne _ _ _ _ (by omega)]
 ·unfold SlotIs
  rw [arr_ne _ _ _ _ (by omega), arr_ne _ _ _ _ (by omega), arr_ne _ _ _ _ (by omega), arr_ne _ _ _ _ (by omega), arr_eq _ _ _ (by omega)]
theorem Sg.frOwn {w : World} {b : Nat} (t0 : Ty w b 103) (u0 u1 u2 u3 u4 u5 : Value) (i1 i2 i3 i4 i5 : Nat) :
 Fr b w ((((((w.setCell ⟨b, 120, none⟩ u0).setCell ⟨b, i1, none⟩ u1).setCell ⟨b, i2, none⟩ u2).setCell ⟨b, i3, none⟩ u3).setCell ⟨b, i4, none⟩ u4).setCell ⟨b, i5, none⟩ u5) := by
 have t1 := t0.setCell ⟨b, 120, none⟩ u0
 have t2 := t1.setCell ⟨b, i1, none⟩ u1
 have t3 := t2.setCell ⟨b, i2, none⟩ u2
 have t4 := t3.setCell ⟨b, i3, none⟩ u3
 have t5 := t4.setCell ⟨b, i4, none⟩ u4
 have f1 := (Fr.refl b w).setOwn (o := 120) t0 (by decide) (by decide) u0
 have f2 := f1.setOwn (o := i1) t1 (by decide) (by decide) u1
 have f3 := f2.setOwn (o := i2) t2 (by decide) (by decide) u2
 have f4 := f3.setOwn (o := i3) t3 (by decide) (by decide) u3
 have f5 := f4.setOwn (o := i4) t4 (by decide) (by decide) u4
 exact f5.setOwn (o := i5) t5 (by decide) (by decide) u5
theorem Sg.frOwn5 {w : World} {b : Nat} (t1 : Ty w b 103) (u1 u2 u3 u4 u5 : Value) (i1 i2 i3 i4 i5 : Nat) :
 Fr b w (((((w.setCell ⟨b, i1, none⟩ u1).setCell ⟨b, i2, none⟩ u2).setCell ⟨b, i3, none⟩ u3).setCell ⟨b, i4, none⟩ u4).setCell ⟨b, i5, none⟩ u5) := by
 have t2 := t1.setCell ⟨b, i1, none⟩ u1
 have t3 := t2.setCell ⟨b, i2, none⟩ u2
 have t4 := t3.setCell ⟨b, i3, none⟩ u3
 have t5 := t4.setCell ⟨b, i4, none⟩ u4
 have f2 := (Fr.refl b w).setOwn (o := i1) t1 (by decide) (by decide) u1
 have f3 := f2.setOwn (o := i2) t2 (by decide) (by decide) u2
 have f4 := f3.setOwn (o := i3) t3 (by decide) (by decide) u3
 have f5 := f4.setOwn (o := i4) t4 (by decide) (by decide) u4
 exact f5.setOwn (o := i5) t5 (by decide) (by decide) u5
def FirstFree (sl : List Slt) (i : Nat) : Prop := i < 24 ∧ sl.getD i none = none ∧ ∀ j, j < i → sl.getD j none ≠ none
theorem FirstFree.exists {sl : List Slt} (hl : sl.length = 24) (h : 0 < sl.countP Option.isNone) : ∃ i, FirstFree sl i := by
 have : ∃ i, i < 24 ∧ sl.getD i none = none := by
  obtain ⟨x, hx, hn⟩ := List.countP_pos_iff.1 h
  obtain ⟨i, hi, he⟩ := List.mem_iff_getElem.1 hx
  refine ⟨i, by omega, ?_⟩
  rw [List.getD, List.getElem?_eq_getElem hi, he]
  cases x <;> simp_all
 obtain ⟨i, hi, he⟩ := this
 induction i using Nat.strongRecOn with
 | ind i ih =>
   by_cases h : ∃ j, j < i ∧ sl.getD j none = none
   ·obtain ⟨j, hj, hjn⟩ := h
    exact ih j hj (by omega) hjn
   ·exact ⟨i, hi, he, fun j hj hjn => h ⟨j, hj, hjn⟩⟩
set_option maxRecDepth 100000 in
set_option maxHeartbeats 1000000 in
theorem keep_any (b r c : Nat) (ao : Option Addr) (m cap : Nat) (sl : List Slt) (nx n : Nat) (w : World) (hst : Sg w b sl nx) (hn : FirstFree sl n) (hnx : nx ≤ 1000000000) :
 Calls Tryz.prog 35 #[.pointer (some ⟨b, 0, none⟩), .agg #[.int .i64 r, .int .i64 c, .slice ao m cap]] w fun e w' => e = .returned (.int .i64 (nx : Nat)) ∧ Sg w' b (sl.set n (some (nx, r, c, .slice ao m cap))) (nx + 1) ∧ Fr b w w' := by
 have hbl := hst.lt
 obtain ⟨arr, h2, hc, hf, h3, h4⟩ := hst.cell
 have HC := Hid.mk (And.intro hc (And.intro h4 hn))
 have HS := Hid.mk hst
 have hn24 : n < 24 := hn.1
 have n0 : w.cell? ⟨b, 120, none⟩ = some (.int .i64 (nx : Nat)) := by rw [hc]; exact h3
 have x0 : w.cell? ⟨b, n * 5, none⟩ = some (.bool false) := by
  have := h4 n hn.1
  rw [hn.2.1] at this
  rw [hc]; exact this
 clear hn
 obtain ⟨v1, x1⟩ : ∃ v1, w.cell? ⟨b, n * 5 + 1, none⟩ = some v1 := ⟨arr[n * 5 + 1]'(by omega), by rw [hc]; exact Array.getElem?_eq_getElem _⟩
 obtain ⟨v2, x2⟩ : ∃ v2, w.cell? ⟨b, n * 5 + 2, none⟩ = some v2 := ⟨arr[n * 5 + 2]'(by omega), by rw [hc]; exact Array.getElem?_eq_getElem _⟩
 obtain ⟨v3, x3⟩ : ∃ v3, w.cell? ⟨b, n * 5 + 3, none⟩ = some v3 := ⟨arr[n * 5 + 3]'(by omega), by rw [hc]; exact Array.getElem?_eq_getElem _⟩
 obtain ⟨v4, x4⟩ : ∃ v4, w.cell? ⟨b, n * 5 + 4, none⟩ = some v4 := ⟨arr[n * 5 + 4]'(by omega), by rw [hc]; exact Array.getElem?_eq_getElem _⟩
 have g120 := cell1 n0
 have z120 := frozen1 (hf 120) hbl
 have g0 : ∀ u, ∀ o, ((w.setCell ⟨b, 120, none⟩ u).alloc o).cell? ⟨b, n * 5, none⟩ = some (.bool false) := fun u => cell1 (cellS x0 (by omega))
 have g1 : ∀ u u0, ∀ o, (((w.setCell ⟨b, 120, none⟩ u).setCell ⟨b, n * 5, none⟩ u0).alloc o).cell? ⟨b, n * 5 + 1, none⟩ = some v1 := fun u u0 => cell1 (cellS (cellS x1 (by omega)) (by omega))
 have g2 : ∀ u u0 u1, ∀ o, ((((w.setCell ⟨b, 120, none⟩ u).setCell ⟨b, n * 5, none⟩ u0).setCell ⟨b, n * 5 + 1, none⟩ u1).alloc o).cell? ⟨b, n * 5 + 2, none⟩ = some v2 := fun u u0 u1 => cell1 (cellS (cellS (cellS x2 (by omega)) (by omega)) (by omega))
 have g3 : ∀ u u0 u1 u2, ∀ o, (((((w.setCell ⟨b, 120, none⟩ u).setCell ⟨b, n * 5, none⟩ u0).setCell ⟨b, n * 5 + 1, none⟩ u1).setCell ⟨b, n * 5 + 2, none⟩ u2).alloc o).cell? ⟨b, n * 5 + 3, none⟩ = some v3 := fun u u0 u1 u2 => cell1 (cellS (cellS (cellS (cellS x3 (by omega)) (by omega)) (by omega)) (by omega))
 have g4 : ∀ u u0 u1 u2 u3, ∀ o, ((((((w.setCell ⟨b, 120, none⟩ u).setCell ⟨b, n * 5, none⟩ u0).setCell ⟨b, n * 5 + 1, none⟩ u1).setCell ⟨b, n * 5 + 2, none⟩ u2).setCell ⟨b, n * 5 + 3, none⟩ u3).alloc o).cell? ⟨b, n * 5 + 4, none⟩ = some v4 := fun u u0 u1 u2 u3 => cell1 (cellS (cellS (cellS (cellS (cellS x4 (by omega)) (by omega)) (by omega)) (by omega)) (by omega))
 have z0 : ∀ u, ∀ o, ((w.setCell ⟨b, 120, none⟩ u).alloc o).frozen? ⟨b, n * 5, none⟩ = false := fun u => frozen1 (frozenS (hf _)) (by rw [sizeS]; exact hbl)
 have z1 : ∀ u u0, ∀ o, (((w.setCell ⟨b, 120, none⟩ u).setCell ⟨b, n * 5, none⟩ u0).alloc o).frozen? ⟨b, n * 5 + 1, none⟩ = false := fun u u0 => frozen1 (frozenS (frozenS (hf _))) (by rw [sizeS, sizeS]; exact hbl)
 have z2 : ∀ u u0 u1, ∀ o, ((((w.setCell ⟨b, 120, none⟩ u).setCell ⟨b, n * 5, none⟩ u0).setCell ⟨b, n * 5 + 1, none⟩ u1).alloc o).frozen? ⟨b, n * 5 + 2, none⟩ = false := fun u u0 u1 => frozen1 (frozenS (frozenS (frozenS (hf _)))) (by rw [sizeS, sizeS, sizeS]; exact hbl)
 have z3 : ∀ u u0 u1 u2, ∀ o, (((((w.setCell ⟨b, 120, none⟩ u).setCell ⟨b, n * 5, none⟩ u0).setCell ⟨b, n * 5 + 1, none⟩ u1).setCell ⟨b, n * 5 + 2, none⟩ u2).alloc o).frozen? ⟨b, n * 5 + 3, none⟩ = false := fun u u0 u1 u2 => frozen1 (frozenS (frozenS (frozenS (frozenS (hf _))))) (by rw [sizeS, sizeS, sizeS, sizeS]; exact hbl)
 have z4 : ∀ u u0 u1 u2 u3, ∀ o, ((((((w.setCell ⟨b, 120, none⟩ u).setCell ⟨b, n * 5, none⟩ u0).setCell ⟨b, n * 5 + 1, none⟩ u1).setCell ⟨b, n * 5 + 2, none⟩ u2).setCell ⟨b, n * 5 + 3, none⟩ u3).alloc o).frozen? ⟨b, n * 5 + 4, none⟩ = false := fun u u0 u1 u2 u3 => frozen1 (frozenS (frozenS (frozenS (frozenS (frozenS (hf _)))))) (by rw [sizeS, sizeS, sizeS, sizeS, sizeS]; exact hbl)
 have GG := Hid.mk (And.intro g120 (And.intro z120 (And.intro g0 (And.intro g1 (And.intro g2 (And.intro g3 (And.intro g4 (And.intro z0 (And.intro z1 (And.intro z2 (And.intro z3 z4)))))))))))
 clear g120 z120 g0 g1 g2 g3 g4 z0 z1 z2 z3 z4 x0 x1 x2 x3 x4 n0 hst hc hf h2 h3 h4
 go_enter Tryz.func35, Tryz.ntmps35
 go_wp2_with fail
 go_loop [5] (fun i => ∃ k : Nat, k ≤ n ∧ i = .int .i64 k) (fun i => n - (intOf i).toNat)
 case atStart => exact ⟨0, Nat.zero_le _, rfl⟩
 case round =>
  obtain ⟨k, hk, rfl⟩ := hrel
  by_cases hkn : k < n
  ·have c0 := cell1 (show w.cell? ⟨b, k * 5, none⟩ = some (.bool true) from by
    have h1 := HC.out.2.1 k (by omega)
    cases hx : sl.getD k none with
    | none => exact absurd hx (HC.out.2.2.2.2 k hkn)
    | some x => rw [hx] at h1; rw [HC.out.1]; exact h1.1)
   go_wp2_with fail
   go_round
   case rel => exact ⟨k + 1, by omega, by go_num⟩
   case measure => simp [intOf]; omega
  ·have hke : k = n := by omega
   have c0 := cell1 (show w.cell? ⟨b, n * 5, none⟩ = some (.bool false) from by
    have h1 := HC.out.2.1 n hn24
    rw [HC.out.2.2.2.1] at h1
    rw [HC.out.1]; exact h1)
   obtain ⟨g120, z120, g0, g1, g2, g3, g4, z0, z1, z2, z3, z4⟩ := GG.out
   subst hke
   go_wp2_with fail
   go_region
   all_goals
    go_wp2_with fail
    go_ret
    have P := HS.out.push hn24 r c (.slice ao m cap) (u := ((nx : Nat) : Int) + 1) (by omega)
    have F := Sg.frOwn HS.out.ty (.int .i64 (((nx : Nat) : Int) + 1)) (.bool true) (.int .i64 (nx : Nat)) (.int .i64 (r : Nat)) (.int .i64 (c : Nat)) (.slice ao m cap) (k * 5) (k * 5 + 1) (k * 5 + 2) (k * 5 + 3) (k * 5 + 4)
    exact ⟨rfl, P.below (alloc_drew _ _), F.trans (Fr.of_below (alloc_drew _ _))⟩
def FreeOut (b : Nat) (sl : List Slt) (nx : Nat) (h : Int) (w w' : World) (e : Int) : Prop := (e = 0 ∧ ∃ k, k < 24 ∧ (∃ x, sl.getD k none = some x ∧ (x.1 : Int) = h) ∧ Sg w' b (sl.set k none) nx ∧ Fr b w w') ∨ (e = 2 ∧ w' = w ∧ ∀ k, k < 24 → ∀ x, sl.getD k none = some x → (x.1 : Int) ≠ h)
set_option maxRecDepth 100000 in
set_option maxHeartbeats 1000000 in
theorem free_any (b : Nat) (h : Int) (sl : List Slt) (nx : Nat) (w : World) (hst : Sg w b sl nx) :
 Calls Tryz.prog 29 #[.pointer (some ⟨b, 0, none⟩), .int .i64 h] w fun e w' => ∃ i : Int, e = .returned (.int .i64 i) ∧ FreeOut b sl nx h w w' i := by
 have hbl := hst.lt
 have HS := Hid.mk hst
 clear hst
 go_enter Tryz.func29, Tryz.ntmps29
 go_wp2_with fail
 refine (place_any b h sl nx _ HS.out).mono ?_
 rintro e w' ⟨⟨i, rfl, hi⟩, rfl⟩
 rcases hi with ⟨k, hk, rfl, x, hx, hxh⟩ | ⟨rfl, hno⟩
 ·obtain ⟨arr, h2, hc, hf, h3, h4⟩ := HS.out.cell
  have HX := Hid.mk (And.intro hx hxh)
  obtain ⟨v0, x0⟩ : ∃ v0, w'.cell? ⟨b, k * 5, none⟩ = some v0 := ⟨arr[k * 5]'(by omega), by rw [hc]; exact Array.getElem?_eq_getElem _⟩
  obtain ⟨v1, x1⟩ : ∃ v1, w'.cell? ⟨b, k * 5 + 1, none⟩ = some v1 := ⟨arr[k * 5 + 1]'(by omega), by rw [hc]; exact Array.getElem?_eq_getElem _⟩
  obtain ⟨v2, x2⟩ : ∃ v2, w'.cell? ⟨b, k * 5 + 2, none⟩ = some v2 := ⟨arr[k * 5 + 2]'(by omega), by rw [hc]; exact Array.getElem?_eq_getElem _⟩
  obtain ⟨v3, x3⟩ : ∃ v3, w'.cell? ⟨b, k * 5 + 3, none⟩ = some v3 := ⟨arr[k * 5 + 3]'(by omega), by rw [hc]; exact Array.getElem?_eq_getElem _⟩
  obtain ⟨v4, x4⟩ : ∃ v4, w'.cell? ⟨b, k * 5 + 4, none⟩ = some v4 := ⟨arr[k * 5 + 4]'(by omega), by rw [hc]; exact Array.getElem?_eq_getElem _⟩
  have y1 : ∀ u, (w'.setCell ⟨b, k * 5, none⟩ u).cell? ⟨b, k * 5 + 1, none⟩ = some v1 := fun u => cellS x1 (by omega)
  have y2 : ∀ u u1, ((w'.setCell ⟨b, k * 5, none⟩ u).setCell ⟨b, k * 5 + 1, none⟩ u1).cell? ⟨b, k * 5 + 2, none⟩ = some v2 := fun u u1 => cellS (cellS x2 (by omega)) (by omega)
  have y3 : ∀ u u1 u2, (((w'.setCell ⟨b, k * 5, none⟩ u).setCell ⟨b, k * 5 + 1, none⟩ u1).setCell ⟨b, k * 5 + 2, none⟩ u2).cell? ⟨b, k * 5 + 3, none⟩ = some v3 := fun u u1 u2 => cellS (cellS (cellS x3 (by omega)) (by omega)) (by omega)
  have y4 : ∀ u u1 u2 u3, ((((w'.setCell ⟨b, k * 5, none⟩ u).setCell ⟨b, k * 5 + 1, none⟩ u1).setCell ⟨b, k * 5 + 2, none⟩ u2).setCell ⟨b, k * 5 + 3, none⟩ u3).cell? ⟨b, k * 5 + 4, none⟩ = some v4 := fun u u1 u2 u3 => cellS (cellS (cellS (cellS x4 (by omega)) (by omega)) (by omega)) (by omega)
  have f0 := hf (k * 5)
  have f1 := hf (k * 5 + 1)
  have f2 := hf (k * 5 + 2)
  have f3 := hf (k * 5 + 3)
  have f4 := hf (k * 5 + 4)
  clear hc hf h3 h4 h2 hx hxh x1 x2 x3 x4
  go_wp2_with fail
  go_ret
  exact ⟨_, rfl, .inl ⟨rfl, k, hk, ⟨x, HX.out⟩, HS.out.wipe hk _ _ _ _, Sg.frOwn5 HS.out.ty _ _ _ _ _ _ _ _ _ _⟩⟩
 ·have HN := Hid.mk hno
  clear hno
  go_wp2_with fail
  go_ret
  exact ⟨_, rfl, .inr ⟨rfl, rfl, HN.out⟩⟩
open Go.RowKit
def FitsP (r c : Nat) (zs : List Int) : Prop := r ≤ 4 ∧ c ≤ 4 ∧ ∀ t, t < r * c → (zs.getD t 0).natAbs < 281474976710656
def FitsOut (r c : Nat) (zs : List Int) (b : Bool) : Prop := b = true ↔ FitsP r c zs
set_option maxRecDepth 100000 in
set_option maxHeartbeats 2000000 in
theorem fits_any (v : Value) (r c : Nat) (zs : List Int) (L : Nat) (w : World) (hm : IsM w v r c zs L) (hL : L ≤ 1000000000) :
 Calls Tryz.prog 59 #[v, .int .i64 4, .int .i64 48] w fun e w' => ∃ b, e = .returned (.bool b) ∧ FitsOut r c zs b ∧ Below w.heap.size w w' := by
 obtain ⟨h99, h99', sl, rfl, hg⟩ := hm
 obtain ⟨ao, cap, rfl, hcap, hcm, hao⟩ := hg.shape
 have HG := Hid.mk hg
 have HA := Hid.mk hao
 have hrc : r * c ≤ 9801 := Nat.mul_le_mul h99 h99'
 clear hg hao
 obtain ⟨N, hN⟩ : ∃ N, N = r * c := ⟨_, rfl⟩
 have HN := Hid.mk hN
 rw [← hN] at hcap hrc HG HA ⊢
 clear hN
 by_cases hr : r ≤ 4
 ·by_cases hc : c ≤ 4
  ·go_enter Tryz.func59, Tryz.ntmps59
   go_wp2_with fail
   obtain ⟨W0, hW0⟩ : ∃ W0, W0 = w.alloc (.cells #[.int .i64 r, .int .i64 c, .slice ao N cap] 66) := ⟨_, rfl⟩
   rw [← hW0]
   have m2 : W0.cell? ⟨w.heap.size, 2, none⟩ = some (.slice ao N cap) := by rw [hW0]; simp
   have hB0 : Below w.heap.size w W0 := by rw [hW0]; exact (Below.refl _ _).alloc (Nat.le_refl _) _
   have FM := Hid.mk m2
   clear m2 hW0
   go_loopw [7] (fun i wr => ∃ k : Nat, k ≤ N ∧ i = .int .i64 k ∧ Below W0.heap.size W0 wr ∧ Hid (∀ t, t < k → (zs.getD t 0).natAbs < 281474976710656)) (fun i _ => N - (intOf i).toNat)
   case atStart => exact ⟨0, Nat.zero_le _, rfl, Below.refl _ _, Hid.mk (fun t ht => by omega)⟩
   case round =>
    obtain ⟨k, hk, rfl, hB, HI0⟩ := hrel
    have m2 := cell_later hB FM.out
    by_cases hkN : k < N
    ·obtain ⟨g, rfl⟩ := HA.out k hkN
     have hGr := (HG.out.below hB0).below hB
     obtain ⟨nb, bo, m, ecap, c1, c2, hI⟩ := hGr.cell k hkN
     rw [Nat.mul_comm 2] at c1 c2
     have HB := Hid.mk hB
     have HI := Hid.mk hI
     clear hB hI hGr
     go_wp2_with fail
     refine (bits_any _ _ _ _ HI.out hL).mono ?_
     rintro e w2 ⟨b, rfl, hb, hb2⟩
     have HBB := Hid.mk (hb 48)
     have hB2 : Below W0.heap.size W0 w2 := HB.out.trans (hb2.mono HB.out.size)
     clear hb hb2
     by_cases hbb : b ≤ 48
     ·go_wp2_with fail
      go_roundw
      case rel =>
       refine ⟨k + 1, by omega, by go_num, hB2, Hid.mk fun t ht => ?_⟩
       by_cases htk : t = k
       ·rw [htk]; exact HBB.out.1 hbb
       ·exact HI0.out t (by omega)
      case measure => simp [intOf]; omega
     ·have hbi : (48 : Int) < (b : Int) := by omega
      have HNB := Hid.mk hbb
      clear hbb
      go_wp2_with fail
      go_ret
      refine ⟨_, rfl, ⟨(fun h => by cases h), fun h => ?_⟩, hB0.trans (hB2.mono hB0.size)⟩
      exact absurd (HBB.out.2 (h.2.2 k (by rw [← HN.out]; exact hkN))) HNB.out
    ·go_wp2_with fail
     go_ret
     exact ⟨_, rfl, ⟨fun _ => ⟨hr, hc, fun t ht => HI0.out t (by rw [← HN.out] at ht; omega)⟩, fun _ => rfl⟩, hB0.trans (hB.mono hB0.size)⟩
  ·have hci : (4 : Int) < (c : Int) := by omega
   have HNC := Hid.mk hc
   clear hc
   go_enter Tryz.func59, Tryz.ntmps59
   go_wp2_with fail
   go_ret
   exact ⟨_, rfl, ⟨(fun h => by cases h), fun h => absurd h.2.1 HNC.out⟩, (Below.refl _ _).alloc (Nat.le_refl _) _⟩
 ·have hri : (4 : Int) < (r : Int) := by omega
  have HNR := Hid.mk hr
  clear hr
  go_enter Tryz.func59, Tryz.ntmps59
  go_wp2_with fail
  go_ret
  exact ⟨_, rfl, ⟨(fun h => by cases h), fun h => absurd h.1 HNR.out⟩, (Below.refl _ _).alloc (Nat.le_refl _) _⟩
set_option maxRecDepth 100000 in
set_option maxHeartbeats 2000000 in
theorem tooBig_any (v : Value) (r c : Nat) (zs : List Int) (L : Nat) (w : World) (hm : IsM w v r c zs L) (hL : L ≤ 1000000000) :
 Calls Tryz.prog 33 #[v] w fun e w' => ∃ b, e = .returned (.bool (!b)) ∧ FitsOut r c zs b ∧ Below w.heap.size w w' := by
 have HM := Hid.mk hm
 obtain ⟨_, _, sl, rfl, hg⟩ := hm
 obtain ⟨ao, cap, rfl, -⟩ := hg.shape
 clear hg
 obtain ⟨N, hN⟩ : ∃ N, N = r * c := ⟨_, rfl⟩
 rw [← hN] at HM ⊢
 clear hN
 go_enter Tryz.func33, Tryz.ntmps33
 go_wp2_with fail
 refine (fits_any _ r c zs L _ (HM.out.below ((Below.refl _ _).alloc (Nat.le_refl _) _)) hL).mono ?_
 rintro e w2 ⟨b, rfl, hf, hb⟩
 have HF := Hid.mk (And.intro hf hb)
 clear hf hb
 go_wp2_with fail
 go_ret
 exact ⟨_, rfl, HF.out.1, ((Below.refl w.heap.size w).alloc (Nat.le_refl _) _).trans (HF.out.2.mono (by simp))⟩
open Go.RowKit
open Go.RowKit
open Go.RowKit
theorem wbody_snoc (c : Nat) (x : List UInt8) : ∀ (l : List (List UInt8)) (t : Nat), bodyT c t (l ++ [x]) = bodyT c t l ++ ((if 0 < t + l.length ∧ (t + l.length) % c = 0 then [59] else []) ++ (32 :: x))
 | [], t => by simp [bodyT]
 | a :: l, t => by
   have := wbody_snoc c x l (t + 1)
   rw [List.cons_append, bodyT, bodyT, this, List.length_cons, show t + 1 + l.length = t + (l.length + 1) from by omega]
   simp [List.append_assoc]
def matT (r c : Nat) (zs : List Int) : List UInt8 := Lib.decDigits r ++ (120 :: (Lib.decDigits c ++ (58 :: bodyT c 0 (zs.map Lib.itoa))))
def partT (r c : Nat) (zs : List Int) (n : Nat) : List UInt8 := Lib.decDigits r ++ (120 :: (Lib.decDigits c ++ (58 :: bodyT c 0 ((zs.take n).map Lib.itoa))))
theorem partT_next {r c : Nat} {zs : List Int} {i j : Nat} (hj : j < c) (hn : i * c + j < zs.length) :
 partT r c zs (i * c + j + 1) = partT r c zs (i * c + j) ++ ((if 0 < i ∧ j = 0 then [59] else []) ++ (32 :: Lib.itoa (zs.getD (i * c + j) 0))) := by
 unfold partT
 have e : (zs.take (i * c + j + 1)).map Lib.itoa = (zs.take (i * c + j)).map Lib.itoa ++ [Lib.itoa (zs.getD (i * c + j) 0)] := by
  rw [List.take_add_one, List.getElem?_eq_getElem hn, List.map_append]
  simp [List.getD, List.getElem?_eq_getElem hn]
 rw [e, wbody_snoc]
 have h1 : ((zs.take (i * c + j)).map Lib.itoa).length = i * c + j := by rw [List.length_map, List.length_take]; omega
 rw [h1, Nat.zero_add]
 have h2 : (0 < i * c + j ∧ (i * c + j) % c = 0) ↔ (0 < i ∧ j = 0) := by
  rw [show (i * c + j) % c = j from by rw [Nat.mul_comm, Nat.mul_add_mod, Nat.mod_eq_of_lt hj]]
  constructor
  ·rintro ⟨a, rfl⟩
   refine ⟨?_, rfl⟩
   rcases Nat.eq_zero_or_pos i with h | h
   ·subst h; simp at a
   ·exact h
  ·rintro ⟨a, rfl⟩
   have := Nat.mul_le_mul a (Nat.le_refl c)
   exact ⟨by omega, rfl⟩
 simp only [h2]
 simp [List.append_assoc]
theorem partT_all {r c : Nat} {zs : List Int} {n : Nat} (hn : zs.length ≤ n) : partT r c zs n = matT r c zs := by
 unfold partT matT; rw [List.take_of_length_le hn]
theorem wstr_app (a b : List UInt8) : (⟨a.toArray⟩ : ByteArray) ++ ⟨b.toArray⟩ = ⟨(a ++ b).toArray⟩ := by
 apply ByteArray.ext
 simp [ByteArray.data_append]
theorem dec_le2 (n : Nat) (h : n < 100) : (Lib.decDigits n).length ≤ 2 := by
 by_cases h1 : n < 10
 ·rw [Lib.decDigits_one h1]; simp
 ·rw [decDigits_big h1, Lib.decDigits_one (by omega)]; simp
theorem part0 (r c : Nat) (zs : List Int) : Value.string ((⟨(Lib.decDigits r).toArray⟩ : ByteArray) ++ ⟨#[120]⟩ ++ ⟨(Lib.decDigits c).toArray⟩ ++ ⟨#[58]⟩) = .string ⟨(partT r c zs 0).toArray⟩ := by
 rw [show (⟨#[120]⟩ : ByteArray) = ⟨[(120 : UInt8)].toArray⟩ from rfl, show (⟨#[58]⟩ : ByteArray) = ⟨[(58 : UInt8)].toArray⟩ from rfl, wstr_app, wstr_app, wstr_app]
 simp [partT, bodyT]
theorem wval0 (T D : List UInt8) : Value.string ((⟨T.toArray⟩ : ByteArray) ++ (⟨#[32]⟩ ++ ⟨D.toArray⟩)) = .string ⟨(T ++ ([] ++ (32 :: D))).toArray⟩ := by
 rw [show (⟨#[32]⟩ : ByteArray) = ⟨[(32 : UInt8)].toArray⟩ from rfl, wstr_app, wstr_app]; rfl
theorem wval1 (T D : List UInt8) : Value.string ((⟨T.toArray⟩ : ByteArray) ++ ⟨#[59]⟩ ++ (⟨#[32]⟩ ++ ⟨D.toArray⟩)) = .string ⟨(T ++ ([59] ++ (32 :: D))).toArray⟩ := by
 rw [show (⟨#[32]⟩ : ByteArray) = ⟨[(32 : UInt8)].toArray⟩ from rfl, show (⟨#[59]⟩ : ByteArray) = ⟨[(59 : UInt8)].toArray⟩ from rfl, wstr_app, wstr_app, wstr_app]
 simp
theorem rret_w {s t : List UInt8} (h : s = t) : Ending.returned (.string ⟨s.toArray⟩) = .returned (.string ⟨t.toArray⟩) := by rw [h]
set_option maxHeartbeats 1000000 in
theorem rows_raw (r c : Int) (ao : Option Addr) (n cap : Nat) (w : World) :
 Calls Tryz.prog 85 #[.agg #[.int .i64 r, .int .i64 c, .slice ao n cap]] w fun e w' => e = .returned (.int .i64 r) ∧ w' = w.alloc (.cells #[.int .i64 r, .int .i64 c, .slice ao n cap] 66) := by
 go_enter Tryz.func85, Tryz.ntmps85
 go_wp2
 go_ret
 exact ⟨rfl, rfl⟩
set_option maxHeartbeats 1000000 in
theorem cols_raw (r c : Int) (ao : Option Addr) (n cap : Nat) (w : World) :
 Calls Tryz.prog 84 #[.agg #[.int .i64 r, .int .i64 c, .slice ao n cap]] w fun e w' => e = .returned (.int .i64 c) ∧ w' = w.alloc (.cells #[.int .i64 r, .int .i64 c, .slice ao n cap] 66) := by
 go_enter Tryz.func84, Tryz.ntmps84
 go_wp2
 go_ret
 exact ⟨rfl, rfl⟩
theorem itoa_len {w : World} {v : Value} {z : Int} {L : Nat} (h : IsI w v z L) (hL : L ≤ 200000000) : (Lib.itoa z).length ≤ 2400000001 := by
 obtain ⟨sl, xs, -, h2, h3, h4, -⟩ := h
 have hn : Lib.nDigits z.natAbs ≤ 2400000000 := by
  rw [← h3]
  have := nDigits_limbs h2.1
  omega
 rcases Int.lt_or_le z 0 with hz | hz
 ·have e : z = -((z.natAbs : Nat) : Int) := by omega
  rw [e, Lib.itoa_neg _ (by omega), List.length_cons, Lib.decDigits_length]; omega
 ·have e : z = ((z.natAbs : Nat) : Int) := by omega
  rw [e, Lib.itoa_nonneg, Lib.decDigits_length]; omega
def MBox (w : World) (b : Nat) (r c : Int) (sl : Value) : Prop := w.heap[b]? = some (.cells #[.int .i64 r, .int .i64 c, sl] 66 (0, 0))
theorem MBox.new (w : World) (r c : Int) (sl : Value) {b : Nat} (hb : b = w.heap.size) : MBox (w.alloc (.cells #[.int .i64 r, .int .i64 c, sl] 66)) b r c sl := by rw [hb]; exact heap_alloc_new w _
theorem MBox.below {B : Nat} {w w' : World} {b : Nat} {r c : Int} {sl : Value} (h : MBox w b r c sl) (hb : Below B w w') (hB : b < B) : MBox w' b r c sl := by unfold MBox; rw [hb.block b hB]; exact h
theorem MBox.cells {w : World} {b : Nat} {r c : Int} {sl : Value} (h : MBox w b r c sl) : w.cell? ⟨b, 0, none⟩ = some (.int .i64 r) ∧ w.cell? ⟨b, 1, none⟩ = some (.int .i64 c) ∧ w.cell? ⟨b, 2, none⟩ = some sl ∧ (∀ j, w.frozen? ⟨b, j, none⟩ = false) := by
 unfold MBox at h
 refine ⟨?_, ?_, ?_, fun j => ?_⟩ <;> simp [World.cell?, World.frozen?, h]
open Go.RowKit
open Go.RowKit
open Go.RowKit
theorem IsM.keepT {w w' : World} {v : Value} {r c L : Nat} {zs : List Int} (h : IsM w v r c zs L) (hk : KT w w') : IsM w' v r c zs L := by
 obtain ⟨h0, h1, sl, h2, h3⟩ := h
 exact ⟨h0, h1, sl, h2, h3.keep hk⟩
abbrev Hm := Option (Nat × Nat × Nat × List Int)
def SlotM (w : World) : Slt → Hm → Prop
 | none, none => True
 | some x, some y => x.1 = y.1 ∧ x.2.1 = y.2.1 ∧ x.2.2.1 = y.2.2.1 ∧ IsM w (.agg #[.int .i64 (x.2.1 : Nat), .int .i64 (x.2.2.1 : Nat), x.2.2.2]) y.2.1 y.2.2.1 y.2.2.2 200000000
 | _, _ => False
def Held (w : World) (b : Nat) (ms : List Hm) (nx : Nat) : Prop := ms.length = 24 ∧ nx ≤ 1000000 ∧ ∃ sl, Sg w b sl nx ∧ ∀ i, i < 24 → SlotM w (sl.getD i none) (ms.getD i none)
theorem SlotM.keep {w w' : World} {x : Slt} {y : Hm} (h : SlotM w x y) (hk : KT w w') : SlotM w' x y := by
 cases x with
 | none => cases y <;> exact h
 | some x => cases y with
   | none => exact h
   | some y => exact ⟨h.1, h.2.1, h.2.2.1, h.2.2.2.keepT hk⟩
theorem Held.lt {w : World} {b : Nat} {ms : List Hm} {nx : Nat} (h : Held w b ms nx) : b < w.heap.size := h.2.2.choose_spec.1.lt
theorem Held.ty {w : World} {b : Nat} {ms : List Hm} {nx : Nat} (h : Held w b ms nx) : Ty w b 103 := h.2.2.choose_spec.1.ty
theorem Held.below {w w' : World} {b : Nat} {ms : List Hm} {nx : Nat} (h : Held w b ms nx) (hb : Below w.heap.size w w') : Held w' b ms nx := by
 obtain ⟨h0, hn, sl, h1, h2⟩ := h
 exact ⟨h0, hn, sl, h1.below hb, fun i hi => (h2 i hi).keep (KT.of_below hb)⟩
theorem Held.fr {w w' : World} {b p : Nat} {ms : List Hm} {nx : Nat} (h : Held w b ms nx) (hf : Fr p w w') (hne : b ≠ p) : Held w' b ms nx := by
 obtain ⟨h0, hn, sl, h1, h2⟩ := h
 exact ⟨h0, hn, sl, h1.fr hf hne, fun i hi => (h2 i hi).keep hf.2⟩
theorem SlotM.none_iff {w : World} {x : Slt} {y : Hm} (h : SlotM w x y) : x = none ↔ y = none := by
 cases x <;> cases y <;> simp_all [SlotM]
theorem SlotM.shape {w : World} {x : Nat × Nat × Nat × Value} {y : Hm} (h : SlotM w (some x) y) : ∃ ao n cap, x.2.2.2 = .slice ao n cap := by
 cases y with
 | none => exact h.elim
 | some y =>
   obtain ⟨-, -, -, -, -, sl, h2, h3⟩ := h
   obtain ⟨ao, cap, rfl, -⟩ := h3.shape
   simp only [Value.agg.injEq, Array.mk.injEq, List.cons.injEq, and_true] at h2
   exact ⟨ao, _, cap, h2.2.2⟩
theorem getD_past24 {sl : List Slt} (h : sl.length = 24) {k : Nat} {x : Nat × Nat × Nat × Value} (hx : sl.getD k none = some x) : k < 24 := by
 rcases Nat.lt_or_ge k 24 with h1 | h1
 ·exact h1
 ·rw [List.getD, List.getElem?_eq_none (by omega)] at hx; cases hx
theorem hm_set {ms : List Hm} {k i : Nat} {x : Hm} (hk : k < ms.length) : (ms.set k x).getD i none = if i = k then x else ms.getD i none := by
 by_cases h : i = k
 ·subst h; simp [List.getD, hk]
 ·have h' : ¬ k = i := fun e => h e.symm
  simp [List.getD, h, h']
def FreeAt (ms : List Hm) (i : Nat) : Prop := i < 24 ∧ ms.getD i none = none ∧ ∀ j, j < i → ms.getD j none ≠ none
theorem FreeAt.uniq {ms : List Hm} {i j : Nat} (h : FreeAt ms i) (k : FreeAt ms j) : i = j := by
 rcases Nat.lt_trichotomy i j with h1 | h1 | h1
 ·exact absurd h.2.1 (k.2.2 i h1)
 ·exact h1
 ·exact absurd k.2.1 (h.2.2 j h1)
theorem FreeAt.of {w : World} {sl : List Slt} {ms : List Hm} (h : ∀ i, i < 24 → SlotM w (sl.getD i none) (ms.getD i none)) {i : Nat} (hf : FirstFree sl i) : FreeAt ms i :=
 ⟨hf.1, (h i hf.1).none_iff.1 hf.2.1, fun j hj e => hf.2.2 j hj ((h j (by have := hf.1; omega)).none_iff.2 e)⟩
theorem no_room {w : World} {sl : List Slt} {ms : List Hm} (hl : sl.length = 24) (h : ∀ i, i < 24 → SlotM w (sl.getD i none) (ms.getD i none)) (hc : sl.countP Option.isNone = 0) : ∀ i, i < 24 → ms.getD i none ≠ none := by
 intro i hi e
 have h1 := (h i hi).none_iff.2 e
 rw [List.countP_eq_zero] at hc
 have h2 := hc (sl[i]'(by omega)) (List.getElem_mem _)
 rw [List.getD, List.getElem?_eq_getElem (show i < sl.length from by omega)] at h1
 simp at h1
 simp [h1] at h2
def TypeOut (b : Nat) (r c : Nat) (zs : List Int) (ms : List Hm) (nx : Nat) (w w' : World) (h e : Int) : Prop :=
 (h = -1 ∧ e = 4 ∧ ¬ FitsP r c zs ∧ Below w.heap.size w w') ∨ (h = -1 ∧ e = 5 ∧ FitsP r c zs ∧ (∀ i, i < 24 → ms.getD i none ≠ none) ∧ Below w.heap.size w w') ∨
 (h = (nx : Int) ∧ e = 0 ∧ FitsP r c zs ∧ (∃ i, FreeAt ms i ∧ Held w' b (ms.set i (some (nx, r, c, zs))) (nx + 1)) ∧ Fr b w w')
set_option maxRecDepth 100000 in
set_option maxHeartbeats 2000000 in
theorem type_yes (b : Nat) (s : ByteArray) (r c : Nat) (zs : List Int) (ms : List Hm) (nx : Nat) (w : World) (hst : Held w b ms nx) (hnx : nx < 1000000) (hs : s.size ≤ 4000) (hr : r ≤ 99) (hc : c ≤ 99) (hw : Writes s r c zs 4000) :
 Calls Tryz.prog 15 #[.pointer (some ⟨b, 0, none⟩), .string s] w fun e w' => ∃ h e' : Int, e = .returned (.tuple #[.int .i64 h, .int .i64 e']) ∧ TypeOut b r c zs ms nx w w' h e' := by
 obtain ⟨hm24, -, sl, hsg, hsl⟩ := hst
 have HS := Hid.mk (And.intro hsg (And.intro hsl hm24))
 have HW := Hid.mk hw
 have hbl := hsg.lt
 clear hsg hsl hw hm24
 go_enter Tryz.func15, Tryz.ntmps15
 go_wp2_with fail
 refine (read_ok s r c zs 4000 _ hs hr hc HW.out).mono ?_
 rintro e w1 ⟨x, rfl, hx, hb1⟩
 obtain ⟨_, _, sl0, rfl, hg⟩ := id hx
 obtain ⟨ao, cap, rfl, -⟩ := hg.shape
 clear hg
 obtain ⟨N, hN⟩ : ∃ N, N = r * c := ⟨_, rfl⟩
 rw [← hN] at hx ⊢
 clear hN
 have K1 := Hid.mk (And.intro hx hb1)
 clear hx hb1
 go_wp2_with fail
 refine (tooBig_any _ r c zs 4000 _ (K1.out.1.below ((Below.refl _ _).alloc (Nat.le_refl _) _)) (by omega)).mono ?_
 rintro e w2 ⟨fb, rfl, hf, hb2⟩
 have h12 : Below w1.heap.size w1 w2 := ((Below.refl w1.heap.size w1).alloc (Nat.le_refl _) _).trans (hb2.mono (by simp))
 have h02 : Below w.heap.size w w2 := K1.out.2.trans (h12.mono K1.out.2.size)
 have m0 : w2.cell? ⟨w1.heap.size, 0, none⟩ = some (.int .i64 r) := cell_later hb2 (by simp)
 have m1 : w2.cell? ⟨w1.heap.size, 1, none⟩ = some (.int .i64 c) := cell_later hb2 (by simp)
 have m2 : w2.cell? ⟨w1.heap.size, 2, none⟩ = some (.slice ao N cap) := cell_later hb2 (by simp)
 have K2 := Hid.mk (And.intro (K1.out.1.below h12) (And.intro h02 hf))
 clear hb2 h12 h02 K1 hf
 cases fb
 ·have HNF : Hid (¬ FitsP r c zs) := Hid.mk (fun h => by have := K2.out.2.2.2 h; cases this)
  go_wp2_with fail
  go_ret2
  exact ⟨_, _, rfl, .inl ⟨rfl, rfl, HNF.out, K2.out.2.1⟩⟩
 ·have HFP : Hid (FitsP r c zs) := Hid.mk (K2.out.2.2.1 rfl)
  go_wp2_with fail
  refine (room_any b sl nx _ (HS.out.1.below K2.out.2.1)).mono ?_
  rintro e w' ⟨rfl, rfl⟩
  obtain ⟨rm, hrm⟩ : ∃ rm, rm = sl.countP Option.isNone := ⟨_, rfl⟩
  have HRM := Hid.mk hrm
  rw [← hrm]
  clear hrm
  by_cases h0 : rm = 0
  ·subst h0
   go_wp2_with fail
   go_ret2
   exact ⟨_, _, rfl, .inr (.inl ⟨rfl, rfl, HFP.out, no_room HS.out.1.1 HS.out.2.1 HRM.out.symm, K2.out.2.1⟩)⟩
  ·obtain ⟨n, hn⟩ := FirstFree.exists HS.out.1.1 (show 0 < sl.countP Option.isNone from by have := HRM.out; omega)
   have HFF := Hid.mk hn
   have h0' : ¬ ((rm : Int) < 1) := by omega
   clear hn h0
   go_wp2_with fail
   refine (keep_any b r c ao N cap sl nx n _ (HS.out.1.below K2.out.2.1) HFF.out (by omega)).mono ?_
   rintro e w3 ⟨rfl, hS3, hF3⟩
   have K3 := Hid.mk (And.intro hS3 (And.intro (K2.out.1.keepT hF3.2) ((Fr.of_below (p := b) K2.out.2.1).trans hF3)))
   clear hS3 hF3 K2 m0 m1 m2
   go_wp2_with fail
   go_ret2
   refine ⟨_, _, rfl, .inr (.inr ⟨rfl, rfl, HFP.out, ⟨n, FreeAt.of HS.out.2.1 HFF.out, ?_⟩, K3.out.2.2⟩)⟩
   refine ⟨by simp [HS.out.2.2], by omega, _, K3.out.1, fun i hi => ?_⟩
   rw [slt_set (by have := HS.out.1.1; have := HFF.out.1; omega), hm_set (by have := HS.out.2.2; have := HFF.out.1; omega)]
   by_cases hin : i = n
   ·rw [if_pos hin, if_pos hin]
    exact ⟨rfl, rfl, rfl, K3.out.2.1.mono (by omega)⟩
   ·rw [if_neg hin, if_neg hin]
    exact (HS.out.2.1 i hi).keep K3.out.2.2.2
end Go.Proofs.YtfjbijpagaipnabGreatDoor
