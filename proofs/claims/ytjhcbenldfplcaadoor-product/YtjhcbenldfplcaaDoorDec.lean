/- Decimal numerals, nine digits at a time: plain. -/
import Derived.Lib.ItoaMem
namespace Go.Proofs.YtjhcbenldfplcaaDoor

def padD : Nat → Nat → List UInt8
  | 0, _ => []
  | k + 1, l => padD k (l / 10) ++ [UInt8.ofNat (48 + l % 10)]
theorem decDigits_big {u : Nat} (h : ¬ u < 10) : Lib.decDigits u = Lib.decDigits (u / 10) ++ [UInt8.ofNat (48 + u % 10)] := by
  rw [Lib.decDigits, dif_neg h]
theorem padD_zero (k : Nat) : padD k 0 = List.replicate k 48 := by
  induction k with
  | zero => rfl
  | succ k ih => rw [padD, Nat.zero_div, ih, List.replicate_succ']; rfl
theorem padD_eq (k l : Nat) (h : l < 10 ^ (k + 1)) : padD (k + 1) l = List.replicate (k + 1 - Lib.nDigits l) 48 ++ Lib.decDigits l := by
  induction k generalizing l with
  | zero =>
    have h1 : l < 10 := by simpa using h
    rw [Lib.nDigits_small h1, Lib.decDigits_one h1]
    simp [padD, Nat.mod_eq_of_lt h1]
  | succ k ih =>
    rw [padD]
    by_cases h1 : l < 10
    · rw [show l / 10 = 0 from by omega, padD_zero, Lib.nDigits_small h1, Lib.decDigits_one h1, Nat.mod_eq_of_lt h1]; rfl
    · have h2 : l / 10 < 10 ^ (k + 1) := by rw [Nat.pow_succ] at h; omega
      rw [ih _ h2, Lib.nDigits_big h1, decDigits_big h1, List.append_assoc]
      congr 2
      omega
theorem decDigits_split (k h l : Nat) (hh : 0 < h) (hl : l < 10 ^ k) : Lib.decDigits (h * 10 ^ k + l) = Lib.decDigits h ++ padD k l := by
  induction k generalizing l with
  | zero => simp [padD, show l = 0 from by simpa using hl]
  | succ k ih =>
    have h1 : 10 ≤ h * 10 ^ (k + 1) := by
      rw [Nat.pow_succ]
      have : 1 ≤ 10 ^ k := Nat.one_le_pow _ _ (by decide)
      have : 1 * 1 ≤ h * 10 ^ k := Nat.mul_le_mul hh this
      rw [← Nat.mul_assoc]
      omega
    have h2 : (h * 10 ^ (k + 1) + l) / 10 = h * 10 ^ k + l / 10 := by rw [Nat.pow_succ, ← Nat.mul_assoc]; omega
    have h3 : (h * 10 ^ (k + 1) + l) % 10 = l % 10 := by rw [Nat.pow_succ, ← Nat.mul_assoc]; omega
    rw [decDigits_big (by omega), h2, h3, ih _ (by rw [Nat.pow_succ] at hl; omega), padD, List.append_assoc]
/-- Nine digits cut off, the rest ahead of them. -/
theorem dec_chunk (r : Nat) (h : 0 < r / 1000000000) : Lib.decDigits r = Lib.decDigits (r / 1000000000) ++ (List.replicate (9 - Lib.nDigits (r % 1000000000)) 48 ++ Lib.decDigits (r % 1000000000)) := by
  have hl : r % 1000000000 < 10 ^ (8 + 1) := Nat.mod_lt _ (by decide)
  have h1 := decDigits_split 9 (r / 1000000000) (r % 1000000000) h hl
  rw [show r / 1000000000 * 10 ^ 9 + r % 1000000000 = r from Nat.div_add_mod' r 1000000000] at h1
  rw [h1, padD_eq 8 _ hl]
theorem nDigits_le9 (l : Nat) (h : l < 1000000000) : Lib.nDigits l ≤ 9 := by
  rcases Nat.lt_or_ge 9 (Lib.nDigits l) with h1 | h1
  · exfalso
    have h2 := congrArg List.length (padD_eq 8 l h)
    have h3 : ∀ k l, (padD k l).length = k := by
      intro k
      induction k with
      | zero => intro l; rfl
      | succ k ih => intro l; simp [padD, ih]
    rw [h3, List.length_append, List.length_replicate, Lib.decDigits_length] at h2
    omega
  · exact h1
end Go.Proofs.YtjhcbenldfplcaaDoor
