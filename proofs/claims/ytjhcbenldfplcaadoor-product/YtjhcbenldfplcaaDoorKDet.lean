/- matriceskeep.det: of none to three rows. -/
import Derived.Test.YtjhcbenldfplcaaDoorMat
namespace Go.Proofs.YtjhcbenldfplcaaDoor
open Go.RowKit

theorem detF0 (e : Nat → Nat → Int) : detF 0 e = 1 := rfl
theorem detF1 (e : Nat → Nat → Int) : detF 1 e = e 0 0 := by simp [detF, sumF, signed]
theorem detF2 (e : Nat → Nat → Int) : detF 2 e = e 0 0 * e 1 1 - e 0 1 * e 1 0 := by simp [detF, sumF, signed, skip]; omega
theorem detF3 (e : Nat → Nat → Int) : detF 3 e = e 0 0 * (e 1 1 * e 2 2 - e 1 2 * e 2 1) - e 0 1 * (e 1 0 * e 2 2 - e 1 2 * e 2 0) + e 0 2 * (e 1 0 * e 2 1 - e 1 1 * e 2 0) := by
  simp [detF, sumF, signed, skip]
  grind
/-- Entries from -36 to 36. -/
def Tiny (n : Nat) (e : Nat → Nat → Int) : Prop := ∀ i j, i < n → j < n → -36 ≤ e i j ∧ e i j ≤ 36
theorem mul_box {a b : Int} {A B : Nat} (h1 : -(A : Int) ≤ a) (h2 : a ≤ A) (h3 : -(B : Int) ≤ b) (h4 : b ≤ B) : -((A * B : Nat) : Int) ≤ a * b ∧ a * b ≤ ((A * B : Nat) : Int) := by
  have h5 : (a * b).natAbs ≤ A * B := by
    rw [Int.natAbs_mul]
    exact Nat.mul_le_mul (by omega) (by omega)
  omega
set_option maxRecDepth 100000 in
set_option maxHeartbeats 2000000 in
theorem kdet_zero (w : World) : Calls Tryd.prog 12 #[.slice none 0 0] w fun x w' => x = .returned (.int .i64 1) ∧ Below w.heap.size w w' := by
  go_enter Tryd.func12, Tryd.ntmps12
  go_wp2_with fail
  go_ret
  exact ⟨rfl, Below.refl _ _⟩
set_option maxRecDepth 100000 in
set_option maxHeartbeats 2000000 in
theorem kdet_one (g cap g0 : Nat) (a00 : Int) (w : World) (c0 : w.cell? ⟨g, 0, none⟩ = some (.slice (some ⟨g0, 0, none⟩) 1 1)) (c00 : w.cell? ⟨g0, 0, none⟩ = some (.int .i64 a00)) :
    Calls Tryd.prog 12 #[.slice (some ⟨g, 0, none⟩) 1 cap] w fun x w' => x = .returned (.int .i64 a00) ∧ Below w.heap.size w w' := by
  go_enter Tryd.func12, Tryd.ntmps12
  go_wp2_with fail
  go_ret
  exact ⟨rfl, Below.refl _ _⟩
set_option maxRecDepth 100000 in
set_option maxHeartbeats 2000000 in
theorem kdet_two (g cap g0 g1 : Nat) (a00 a01 a10 a11 : Int) (w : World) (c0 : w.cell? ⟨g, 0, none⟩ = some (.slice (some ⟨g0, 0, none⟩) 2 2)) (c1 : w.cell? ⟨g, 1, none⟩ = some (.slice (some ⟨g1, 0, none⟩) 2 2)) (c00 : w.cell? ⟨g0, 0, none⟩ = some (.int .i64 a00)) (c01 : w.cell? ⟨g0, 1, none⟩ = some (.int .i64 a01)) (c10 : w.cell? ⟨g1, 0, none⟩ = some (.int .i64 a10)) (c11 : w.cell? ⟨g1, 1, none⟩ = some (.int .i64 a11))
    (b1 : -1296 ≤ a00 * a11 ∧ a00 * a11 ≤ 1296) (b2 : -1296 ≤ a01 * a10 ∧ a01 * a10 ≤ 1296) :
    Calls Tryd.prog 12 #[.slice (some ⟨g, 0, none⟩) 2 cap] w fun x w' => x = .returned (.int .i64 (a00 * a11 - a01 * a10)) ∧ Below w.heap.size w w' := by
  obtain ⟨b1, b1'⟩ := b1
  obtain ⟨b2, b2'⟩ := b2
  go_enter Tryd.func12, Tryd.ntmps12
  go_wp2_with fail
  go_quiet (fail)
  go_wp2_with fail
  go_ret
  exact ⟨rfl, below_drewN (Below.refl _ _) _⟩
set_option maxRecDepth 100000 in
set_option maxHeartbeats 2000000 in
theorem kdet_nought (g cap : Nat) (w : World) : Calls Tryd.prog 12 #[.slice (some ⟨g, 0, none⟩) 0 cap] w fun x w' => x = .returned (.int .i64 1) ∧ Below w.heap.size w w' := by
  go_enter Tryd.func12, Tryd.ntmps12
  go_wp2_with fail
  go_ret
  exact ⟨rfl, Below.refl _ _⟩
set_option maxRecDepth 100000 in
set_option maxHeartbeats 4000000 in
theorem kdet_three (g cap g0 g1 g2 : Nat) (a00 a01 a02 a10 a11 a12 a20 a21 a22 : Int) (w : World) (c0 : w.cell? ⟨g, 0, none⟩ = some (.slice (some ⟨g0, 0, none⟩) 3 3)) (c1 : w.cell? ⟨g, 1, none⟩ = some (.slice (some ⟨g1, 0, none⟩) 3 3)) (c2 : w.cell? ⟨g, 2, none⟩ = some (.slice (some ⟨g2, 0, none⟩) 3 3)) (c00 : w.cell? ⟨g0, 0, none⟩ = some (.int .i64 a00)) (c01 : w.cell? ⟨g0, 1, none⟩ = some (.int .i64 a01)) (c02 : w.cell? ⟨g0, 2, none⟩ = some (.int .i64 a02)) (c10 : w.cell? ⟨g1, 0, none⟩ = some (.int .i64 a10)) (c11 : w.cell? ⟨g1, 1, none⟩ = some (.int .i64 a11)) (c12 : w.cell? ⟨g1, 2, none⟩ = some (.int .i64 a12)) (c20 : w.cell? ⟨g2, 0, none⟩ = some (.int .i64 a20)) (c21 : w.cell? ⟨g2, 1, none⟩ = some (.int .i64 a21)) (c22 : w.cell? ⟨g2, 2, none⟩ = some (.int .i64 a22))
    (b0 : -1296 ≤ a11 * a22 ∧ a11 * a22 ≤ 1296) (b1 : -1296 ≤ a12 * a21 ∧ a12 * a21 ≤ 1296) (b2 : -1296 ≤ a10 * a22 ∧ a10 * a22 ≤ 1296) (b3 : -1296 ≤ a12 * a20 ∧ a12 * a20 ≤ 1296) (b4 : -1296 ≤ a10 * a21 ∧ a10 * a21 ≤ 1296) (b5 : -1296 ≤ a11 * a20 ∧ a11 * a20 ≤ 1296) (d0 : -93312 ≤ a00 * (a11 * a22 - a12 * a21) ∧ a00 * (a11 * a22 - a12 * a21) ≤ 93312) (d1 : -93312 ≤ a01 * (a10 * a22 - a12 * a20) ∧ a01 * (a10 * a22 - a12 * a20) ≤ 93312) (d2 : -93312 ≤ a02 * (a10 * a21 - a11 * a20) ∧ a02 * (a10 * a21 - a11 * a20) ≤ 93312) :
    Calls Tryd.prog 12 #[.slice (some ⟨g, 0, none⟩) 3 cap] w fun x w' => x = .returned (.int .i64 (a00 * (a11 * a22 - a12 * a21) - a01 * (a10 * a22 - a12 * a20) + a02 * (a10 * a21 - a11 * a20))) ∧ Below w.heap.size w w' := by
  obtain ⟨b0, b0'⟩ := b0
  obtain ⟨b1, b1'⟩ := b1
  obtain ⟨b2, b2'⟩ := b2
  obtain ⟨b3, b3'⟩ := b3
  obtain ⟨b4, b4'⟩ := b4
  obtain ⟨b5, b5'⟩ := b5
  obtain ⟨d0, d0'⟩ := d0
  obtain ⟨d1, d1'⟩ := d1
  obtain ⟨d2, d2'⟩ := d2
  go_enter Tryd.func12, Tryd.ntmps12
  go_wp2_with fail
  go_quiet (fail)
  go_wp2_with fail
  go_quiet (fail)
  go_wp2_with fail
  go_quiet (fail)
  go_wp2_with fail
  go_quiet (fail)
  go_wp2_with fail
  go_ret
  exact ⟨rfl, by repeat (first | exact Below.refl _ _ | refine below_drewN ?_ _)⟩
theorem kdet_any (B n : Nat) (v : Value) (gs : Nat → Nat) (e : Nat → Nat → Int) (w : World) (h : Mat B w v n n gs e) (hn : n ≤ 3) (ht : Tiny n e) :
    Calls Tryd.prog 12 #[v] w fun x w' => x = .returned (.int .i64 (detF n e)) ∧ Below w.heap.size w w' := by
  rcases h.shape with ⟨rfl, rfl⟩ | ⟨g, cap, rfl, -, -, -, -, -, -⟩
  · exact kdet_zero w
  · have P : ∀ i j k l, i < n → j < n → k < n → l < n → -1296 ≤ e i j * e k l ∧ e i j * e k l ≤ 1296 := fun i j k l hi hj hk hl => mul_box (A := 36) (B := 36) (ht i j hi hj).1 (ht i j hi hj).2 (ht k l hk hl).1 (ht k l hk hl).2
    match n, h, hn, ht, P with
    | 0, _, _, _, _ =>
      rw [detF0]
      exact kdet_nought g cap w
    | 1, h, _, _, _ =>
      rw [detF1]
      exact kdet_one g cap (gs 0) (e 0 0) w (h.cell 0 (by omega)) ((h.2 0 (by omega)).cell 0 (by omega))
    | 2, h, _, _, P =>
      rw [detF2]
      exact kdet_two g cap (gs 0) (gs 1) (e 0 0) (e 0 1) (e 1 0) (e 1 1) w (h.cell 0 (by omega)) (h.cell 1 (by omega)) ((h.2 0 (by omega)).cell 0 (by omega)) ((h.2 0 (by omega)).cell 1 (by omega)) ((h.2 1 (by omega)).cell 0 (by omega)) ((h.2 1 (by omega)).cell 1 (by omega))
        (P 0 0 1 1 (by omega) (by omega) (by omega) (by omega)) (P 0 1 1 0 (by omega) (by omega) (by omega) (by omega))
    | 3, h, _, ht, P =>
      have D : ∀ j (x y : Int), j < 3 → (-1296 ≤ x ∧ x ≤ 1296) → (-1296 ≤ y ∧ y ≤ 1296) → -93312 ≤ e 0 j * (x - y) ∧ e 0 j * (x - y) ≤ 93312 := fun j x y hj hx hy =>
        mul_box (A := 36) (B := 2592) (ht 0 j (by omega) hj).1 (ht 0 j (by omega) hj).2 (by omega) (by omega)
      have q1 := P 1 1 2 2 (by omega) (by omega) (by omega) (by omega)
      have q2 := P 1 2 2 1 (by omega) (by omega) (by omega) (by omega)
      have q3 := P 1 0 2 2 (by omega) (by omega) (by omega) (by omega)
      have q4 := P 1 2 2 0 (by omega) (by omega) (by omega) (by omega)
      have q5 := P 1 0 2 1 (by omega) (by omega) (by omega) (by omega)
      have q6 := P 1 1 2 0 (by omega) (by omega) (by omega) (by omega)
      rw [detF3]
      exact kdet_three g cap (gs 0) (gs 1) (gs 2) (e 0 0) (e 0 1) (e 0 2) (e 1 0) (e 1 1) (e 1 2) (e 2 0) (e 2 1) (e 2 2) w (h.cell 0 (by omega)) (h.cell 1 (by omega)) (h.cell 2 (by omega))
        ((h.2 0 (by omega)).cell 0 (by omega)) ((h.2 0 (by omega)).cell 1 (by omega)) ((h.2 0 (by omega)).cell 2 (by omega))
        ((h.2 1 (by omega)).cell 0 (by omega)) ((h.2 1 (by omega)).cell 1 (by omega)) ((h.2 1 (by omega)).cell 2 (by omega))
        ((h.2 2 (by omega)).cell 0 (by omega)) ((h.2 2 (by omega)).cell 1 (by omega)) ((h.2 2 (by omega)).cell 2 (by omega))
        q1 q2 q3 q4 q5 q6 (D 0 _ _ (by omega) q1 q2) (D 1 _ _ (by omega) q3 q4) (D 2 _ _ (by omega) q5 q6)
end Go.Proofs.YtjhcbenldfplcaaDoor
