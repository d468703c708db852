/- Determinants of none to three rows: of products, of what is turned, of a row times f, of rows swapped. -/
import Derived.Test.YtjhcbenldfplcaaDoorTimes
import Derived.Test.YtjhcbenldfplcaaDoorDeskDet
namespace Go.Proofs.YtjhcbenldfplcaaDoor
open Go.RowKit

theorem dot1 (a b : Nat → Nat → Int) (i j : Nat) : dot a b i j 1 = a i 0 * b 0 j := by simp [dot, sumF]
theorem dot2 (a b : Nat → Nat → Int) (i j : Nat) : dot a b i j 2 = a i 0 * b 0 j + a i 1 * b 1 j := by simp [dot, sumF]
theorem dot3 (a b : Nat → Nat → Int) (i j : Nat) : dot a b i j 3 = a i 0 * b 0 j + a i 1 * b 1 j + a i 2 * b 2 j := by simp [dot, sumF]
theorem det_mul3 (a00 a01 a02 a10 a11 a12 a20 a21 a22 b00 b01 b02 b10 b11 b12 b20 b21 b22 : Int) :
    (a00 * b00 + a01 * b10 + a02 * b20) * ((a10 * b01 + a11 * b11 + a12 * b21) * (a20 * b02 + a21 * b12 + a22 * b22) - (a10 * b02 + a11 * b12 + a12 * b22) * (a20 * b01 + a21 * b11 + a22 * b21)) -
    (a00 * b01 + a01 * b11 + a02 * b21) * ((a10 * b00 + a11 * b10 + a12 * b20) * (a20 * b02 + a21 * b12 + a22 * b22) - (a10 * b02 + a11 * b12 + a12 * b22) * (a20 * b00 + a21 * b10 + a22 * b20)) +
    (a00 * b02 + a01 * b12 + a02 * b22) * ((a10 * b00 + a11 * b10 + a12 * b20) * (a20 * b01 + a21 * b11 + a22 * b21) - (a10 * b01 + a11 * b11 + a12 * b21) * (a20 * b00 + a21 * b10 + a22 * b20)) =
    (a00 * (a11 * a22 - a12 * a21) - a01 * (a10 * a22 - a12 * a20) + a02 * (a10 * a21 - a11 * a20)) * (b00 * (b11 * b22 - b12 * b21) - b01 * (b10 * b22 - b12 * b20) + b02 * (b10 * b21 - b11 * b20)) := by grind
theorem det_mul (n : Nat) (a b : Nat → Nat → Int) (hn : n ≤ 3) : detF n (fun i j => dot a b i j n) = detF n a * detF n b := by
  obtain rfl | rfl | rfl | rfl : n = 0 ∨ n = 1 ∨ n = 2 ∨ n = 3 := by omega
  · rfl
  · simp only [detF1, dot1]
  · simp only [detF2, dot2]; grind
  · simp only [detF3, dot3]
    exact det_mul3 _ _ _ _ _ _ _ _ _ _ _ _ _ _ _ _ _ _
theorem det_turn (n : Nat) (a : Nat → Nat → Int) (hn : n ≤ 3) : detF n (fun i j => a j i) = detF n a := by
  obtain rfl | rfl | rfl | rfl : n = 0 ∨ n = 1 ∨ n = 2 ∨ n = 3 := by omega
  · rfl
  · simp only [detF1]
  · simp only [detF2]; grind
  · simp only [detF3]; grind
theorem det_scale (n : Nat) (f : Int) (a : Nat → Nat → Int) (hn0 : 0 < n) (hn : n ≤ 3) : detF n (fun i j => if i = 0 then f * a i j else a i j) = f * detF n a := by
  obtain rfl | rfl | rfl : n = 1 ∨ n = 2 ∨ n = 3 := by omega
  · simp [detF1]
  · simp [detF2]; grind
  · simp [detF3]; grind
theorem det_scale_turn (n : Nat) (f : Int) (a : Nat → Nat → Int) (hn0 : 0 < n) (hn : n ≤ 3) : detF n (fun i j => if i = 0 then f * a j 0 else a j i) = f * detF n a := by
  rw [← det_turn n a hn, ← det_scale n f (fun i j => a j i) hn0 hn]
  congr 1
  funext i j
  by_cases h : i = 0
  · simp [h]
  · simp [h]
/-- Which row lies at place i when the first and the last are swapped. -/
def swp (n i : Nat) : Nat := if i = n - 1 then 0 else if i = 0 then n - 1 else i
theorem det_swap (n : Nat) (a : Nat → Nat → Int) (hn0 : 0 < n) (hn : n ≤ 3) : detF n (fun i j => a (swp n i) j) = if n = 1 then detF n a else -detF n a := by
  obtain rfl | rfl | rfl : n = 1 ∨ n = 2 ∨ n = 3 := by omega
  · simp [detF1, swp]
  · simp [detF2, swp]; grind
  · simp [detF3, swp]; grind
theorem det_box (n : Nat) (e : Nat → Nat → Int) (hn : n ≤ 3) (ht : Tiny n e) : -279936 ≤ detF n e ∧ detF n e ≤ 279936 := by
  have P : ∀ i j k l, i < n → j < n → k < n → l < n → -1296 ≤ e i j * e k l ∧ e i j * e k l ≤ 1296 := fun i j k l hi hj hk hl => mul_box (A := 36) (B := 36) (ht i j hi hj).1 (ht i j hi hj).2 (ht k l hk hl).1 (ht k l hk hl).2
  obtain rfl | rfl | rfl | rfl : n = 0 ∨ n = 1 ∨ n = 2 ∨ n = 3 := by omega
  · rw [detF0]; omega
  · rw [detF1]; have := ht 0 0 (by omega) (by omega); omega
  · rw [detF2]
    have := P 0 0 1 1 (by omega) (by omega) (by omega) (by omega)
    have := P 0 1 1 0 (by omega) (by omega) (by omega) (by omega)
    omega
  · rw [detF3]
    have D : ∀ j (x y : Int), j < 3 → (-1296 ≤ x ∧ x ≤ 1296) → (-1296 ≤ y ∧ y ≤ 1296) → -93312 ≤ e 0 j * (x - y) ∧ e 0 j * (x - y) ≤ 93312 := fun j x y hj hx hy =>
      mul_box (A := 36) (B := 2592) (ht 0 j (by omega) hj).1 (ht 0 j (by omega) hj).2 (by omega) (by omega)
    have d1 := D 0 _ _ (by omega) (P 1 1 2 2 (by omega) (by omega) (by omega) (by omega)) (P 1 2 2 1 (by omega) (by omega) (by omega) (by omega))
    have d2 := D 1 _ _ (by omega) (P 1 0 2 2 (by omega) (by omega) (by omega) (by omega)) (P 1 2 2 0 (by omega) (by omega) (by omega) (by omega))
    have d3 := D 2 _ _ (by omega) (P 1 0 2 1 (by omega) (by omega) (by omega) (by omega)) (P 1 1 2 0 (by omega) (by omega) (by omega) (by omega))
    omega
theorem RowsIn.tiny {n : Nat} {e : Nat → Nat → Int} (h : RowsIn n n e) (hn : n ≤ 3) : Tiny n e := by
  intro i j hi hj
  have h1 := h i hi j hj
  have h2 := pow_box i (by omega)
  omega
theorem Tiny.small {n : Nat} {e : Nat → Nat → Int} (h : Tiny n e) : Small n e := fun i j hi hj => by have := h i j hi hj; omega
theorem dot_small {n : Nat} {a b : Nat → Nat → Int} (hn : n ≤ 3) (ha : Tiny n a) (hb : Tiny n b) : Small n (fun i j => dot a b i j n) := fun i j hi hj => by
  have := dot_box ha hb hi hj n (Nat.le_refl _)
  show -1000000000 ≤ dot a b i j n ∧ dot a b i j n ≤ 1000000000
  omega
end Go.Proofs.YtjhcbenldfplcaaDoor
