/- How a plain number is written, and read again. -/
import Derived.Test.YtjhcbenldfplcaaDoorRead
import Derived.Test.YtjhcbenldfplcaaDoorNumb
import Derived.Test.YtjhcbenldfplcaaDoorTypeDet
namespace Go.Proofs.YtjhcbenldfplcaaDoor
open Go.RowKit

theorem digit_nat (d : Nat) (h : d < 10) : (UInt8.ofNat (48 + d)).toNat = 48 + d := by rw [UInt8.toNat_ofNat', Nat.mod_eq_of_lt (by omega)]
theorem decDigits_facts (u : Nat) : Lib.decDigits u ≠ [] ∧ Digs (Lib.decDigits u) ∧ decval (Lib.decDigits u) = u ∧ (0 < u → ∃ d r, Lib.decDigits u = d :: r ∧ d.toNat ≠ 48) := by
  induction u using Nat.strongRecOn with
  | ind u ih =>
    by_cases h : u < 10
    · rw [Lib.decDigits_one h]
      refine ⟨by simp, ?_, ?_, fun h0 => ⟨_, _, rfl, ?_⟩⟩
      · intro c hc
        rw [List.mem_singleton] at hc
        rw [hc, digit_nat u h]; omega
      · have := digit_nat u h
        unfold decval
        simp only [List.foldl_cons, List.foldl_nil]
        rw [this]; omega
      · rw [digit_nat u h]; omega
    · obtain ⟨h1, h2, h3, h4⟩ := ih (u / 10) (by omega)
      rw [decDigits_big h]
      have hd := digit_nat (u % 10) (by omega)
      refine ⟨by simp, ?_, ?_, fun _ => ?_⟩
      · intro c hc
        rcases List.mem_append.1 hc with hc | hc
        · exact h2 c hc
        · rw [List.mem_singleton] at hc
          rw [hc, hd]; omega
      · rw [decval_snoc, h3, hd]; omega
      · obtain ⟨d, r, e1, e2⟩ := h4 (by omega)
        exact ⟨d, r ++ [UInt8.ofNat (48 + u % 10)], by rw [e1]; rfl, e2⟩
theorem decDigits_run (u : Nat) : Run (Lib.decDigits u) := by
  obtain ⟨h1, h2, h3, h4⟩ := decDigits_facts u
  refine ⟨h1, h2, ?_⟩
  rcases Nat.eq_zero_or_pos u with h | h
  · subst h
    exact .inl (by rw [Lib.decDigits_one (by decide)]; rfl)
  · exact .inr (h4 h)
theorem tok_itoa (z : Int) : Tok (Lib.itoa z) z := by
  by_cases hz : z < 0
  · obtain ⟨u, rfl⟩ : ∃ u : Nat, z = -(u : Int) := ⟨z.natAbs, by omega⟩
    have hu : 1 ≤ u := by omega
    rw [Lib.itoa_neg u hu]
    refine .inr ⟨_, rfl, decDigits_run u, ?_, by rw [(decDigits_facts u).2.2.1]⟩
    obtain ⟨d, r, e1, e2⟩ := (decDigits_facts u).2.2.2 hu
    rw [e1]
    intro e
    injection e with e3 e4
    subst e3
    exact e2 (by decide)
  · obtain ⟨u, rfl⟩ : ∃ u : Nat, z = (u : Int) := ⟨z.natAbs, by omega⟩
    rw [Lib.itoa_nonneg]
    exact .inl ⟨decDigits_run u, by rw [(decDigits_facts u).2.2.1]⟩
theorem run_itoa (n : Nat) : Run (Lib.itoa (n : Int)) ∧ decval (Lib.itoa (n : Int)) = n := by
  rw [Lib.itoa_nonneg]
  exact ⟨decDigits_run n, (decDigits_facts n).2.2.1⟩
theorem bodyT_snoc (c : Nat) (x : List UInt8) : ∀ (l : List (List UInt8)) (t : Nat), bodyT c t (l ++ [x]) = bodyT c t l ++ ((if 0 < t + l.length ∧ (t + l.length) % c = 0 then [59] else []) ++ (32 :: x))
  | [], t => by simp [bodyT]
  | a :: l, t => by
    have := bodyT_snoc c x l (t + 1)
    rw [List.cons_append, bodyT, bodyT, this, List.length_cons, show t + 1 + l.length = t + (l.length + 1) from by omega]
    simp [List.append_assoc]
/-- The tokens of a matrix. -/
def toks (r c : Nat) (e : Nat → Nat → Int) : List (List UInt8) := (List.range (r * c)).map fun t => Lib.itoa (e (t / c) (t % c))
def nums (r c : Nat) (e : Nat → Nat → Int) : List Int := (List.range (r * c)).map fun t => e (t / c) (t % c)
theorem toks_next {r c : Nat} (e : Nat → Nat → Int) {i j : Nat} (hi : i < r) (hj : j < c) :
    bodyT c 0 ((toks r c e).take (i * c + j + 1)) = bodyT c 0 ((toks r c e).take (i * c + j)) ++ ((if 0 < i ∧ j = 0 then [59] else []) ++ (32 :: Lib.itoa (e i j))) := by
  have hlt : i * c + j < r * c := by
    have := Nat.mul_le_mul_right c (Nat.succ_le_of_lt hi)
    rw [Nat.succ_mul] at this; omega
  have hl : (toks r c e).length = r * c := by simp [toks]
  rw [List.take_succ_eq_append_getElem (by omega), bodyT_snoc]
  have h1 : (i * c + j) / c = i := by rw [Nat.mul_comm, Nat.mul_add_div (by omega), Nat.div_eq_of_lt hj]; omega
  have h2 : (i * c + j) % c = j := by rw [Nat.mul_comm, Nat.mul_add_mod, Nat.mod_eq_of_lt hj]
  have h3 : (toks r c e)[i * c + j]'(by omega) = Lib.itoa (e i j) := by simp [toks, h1, h2]
  rw [h3, List.length_take, hl, Nat.min_eq_left (by omega), Nat.zero_add]
  simp only [sep_iff hj]
theorem writes_toks (r c : Nat) (e : Nat → Nat → Int) (s : ByteArray) (hb : ∀ i j, i < r → j < c → -9223372036854775808 ≤ e i j ∧ e i j ≤ 9223372036854775807)
    (hs : s.data.toList = Lib.itoa (r : Int) ++ (120 :: (Lib.itoa (c : Int) ++ (58 :: bodyT c 0 (toks r c e))))) : Writes s r c (nums r c e) 21 := by
  refine ⟨_, _, _, hs, (run_itoa r).1, (run_itoa c).1, (run_itoa r).2, (run_itoa c).2, by simp [toks], by simp [nums], fun t ht => ?_⟩
  have h1 : (toks r c e).getD t [] = Lib.itoa (e (t / c) (t % c)) := by simp [toks, List.getD, ht]
  have h2 : (nums r c e).getD t 0 = e (t / c) (t % c) := by simp [nums, List.getD, ht]
  rw [h1, h2]
  refine ⟨tok_itoa _, ?_⟩
  have hc : 0 < c := by rcases Nat.eq_zero_or_pos c with h | h; · subst h; simp at ht
                        · exact h
  have := hb (t / c) (t % c) (Nat.div_lt_of_lt_mul (by rw [Nat.mul_comm]; exact ht)) (Nat.mod_lt _ hc)
  exact Lib.itoa_length_le _ this.1 this.2
theorem rep_nums (n : Nat) (e : Nat → Nat → Int) : Rep n (nums n n e) e := by
  intro i j hi hj
  have hlt : i * n + j < n * n := by
    have := Nat.mul_le_mul_right n (Nat.succ_le_of_lt hi)
    rw [Nat.succ_mul] at this; omega
  have h1 : (i * n + j) / n = i := by rw [Nat.mul_comm, Nat.mul_add_div (by omega), Nat.div_eq_of_lt hj]; omega
  have h2 : (i * n + j) % n = j := by rw [Nat.mul_comm, Nat.mul_add_mod, Nat.mod_eq_of_lt hj]
  simp [nums, List.getD, hlt, h1, h2]
theorem low_nums (n : Nat) (e : Nat → Nat → Int) (hb : ∀ i j, i < n → j < n → (e i j).natAbs < 281474976710656) : Low (n * n) (nums n n e) := by
  intro t ht
  have hc : 0 < n := by rcases Nat.eq_zero_or_pos n with h | h; · subst h; simp at ht
                        · exact h
  have := hb (t / n) (t % n) (Nat.div_lt_of_lt_mul ht) (Nat.mod_lt _ hc)
  simpa [nums, List.getD, ht] using this
end Go.Proofs.YtjhcbenldfplcaaDoor
