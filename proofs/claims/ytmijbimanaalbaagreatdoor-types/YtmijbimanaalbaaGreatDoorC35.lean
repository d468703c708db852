import Derived.Test.YtmijbimanaalbaaGreatDoorC14
/- How a plain number is written, and read again. -/
namespace Go.Proofs.YtmijbimanaalbaaGreatDoor
open Go.RowKit

theorem digit_nat (d : Nat) (h : d < 10) : (UInt8.ofNat (48 + d)).toNat = 48 + d := by rw [UInt8.toNat_ofNat', Nat.mod_eq_of_lt (by omega)]
theorem decDigits_facts (u : Nat) : Lib.decDigits u ≠ [] ∧ Digs (Lib.decDigits u) ∧ decval (Lib.decDigits u) = u ∧ (0 < u → ∃ d r, Lib.decDigits u = d :: r ∧ d.toNat ≠ 48) := by
  induction u using Nat.strongRecOn with
  | ind u ih =>
    by_cases h : u < 10
    · rw [Lib.decDigits_one h]
      refine ⟨by simp, ?_, ?_, fun h0 => ⟨_, _, rfl, ?_⟩⟩
      · intro c hc
        rw [List.mem_singleton] at hc
        rw [hc, digit_nat u h]; omega
      · have := digit_nat u h
        unfold decval
        simp only [List.foldl_cons, List.foldl_nil]
        rw [this]; omega
      · rw [digit_nat u h]; omega
    · obtain ⟨h1, h2, h3, h4⟩ := ih (u / 10) (by omega)
      rw [decDigits_big h]
      have hd := digit_nat (u % 10) (by omega)
      refine ⟨by simp, ?_, ?_, fun _ => ?_⟩
      · intro c hc
        rcases List.mem_append.1 hc with hc | hc
        · exact h2 c hc
        · rw [List.mem_singleton] at hc
          rw [hc, hd]; omega
      · rw [decval_snoc, h3, hd]; omega
      · obtain ⟨d, r, e1, e2⟩ := h4 (by omega)
        exact ⟨d, r ++ [UInt8.ofNat (48 + u % 10)], by rw [e1]; rfl, e2⟩
theorem decDigits_run (u : Nat) : Run (Lib.decDigits u) := by
  obtain ⟨h1, h2, h3, h4⟩ := decDigits_facts u
  refine ⟨h1, h2, ?_⟩
  rcases Nat.eq_zero_or_pos u with h | h
  · subst h
    exact .inl (by rw [Lib.decDigits_one (by decide)]; rfl)
  · exact .inr (h4 h)
theorem tok_itoa (z : Int) : Tok (Lib.itoa z) z := by
  by_cases hz : z < 0
  · obtain ⟨u, rfl⟩ : ∃ u : Nat, z = -(u : Int) := ⟨z.natAbs, by omega⟩
    have hu : 1 ≤ u := by omega
    rw [Lib.itoa_neg u hu]
    refine .inr ⟨_, rfl, decDigits_run u, ?_, by rw [(decDigits_facts u).2.2.1]⟩
    obtain ⟨d, r, e1, e2⟩ := (decDigits_facts u).2.2.2 hu
    rw [e1]
    intro e
    injection e with e3 e4
    subst e3
    exact e2 (by decide)
  · obtain ⟨u, rfl⟩ : ∃ u : Nat, z = (u : Int) := ⟨z.natAbs, by omega⟩
    rw [Lib.itoa_nonneg]
    exact .inl ⟨decDigits_run u, by rw [(decDigits_facts u).2.2.1]⟩
theorem run_itoa (n : Nat) : Run (Lib.itoa (n : Int)) ∧ decval (Lib.itoa (n : Int)) = n := by
  rw [Lib.itoa_nonneg]
  exact ⟨decDigits_run n, (decDigits_facts n).2.2.1⟩
end Go.Proofs.YtmijbimanaalbaaGreatDoor
