/- whole.Int.Bits, whole.FromInt64 at 1. -/
import Derived.Test.YtjhcbenldfplcaaDoorInts
namespace Go.Proofs.YtjhcbenldfplcaaDoor
open Go.RowKit

/-- b is the number of bits of n. -/
def BitsOf (b n : Nat) : Prop := ∀ k, b ≤ k ↔ n < 2 ^ k
theorem bitsOf_zero : BitsOf 0 0 := fun k => ⟨fun _ => Nat.pow_pos (by decide), fun _ => Nat.zero_le _⟩
theorem bitsOf_mk {b n : Nat} (h1 : n < 2 ^ b) (h2 : b = 0 ∨ 2 ^ (b - 1) ≤ n) : BitsOf b n := by
  intro k
  constructor
  · intro hk
    exact Nat.lt_of_lt_of_le h1 (Nat.pow_le_pow_right (by decide) hk)
  · intro hk
    rcases h2 with h2 | h2
    · omega
    · rcases Nat.lt_or_ge k b with h3 | h3
      · have : 2 ^ k ≤ 2 ^ (b - 1) := Nat.pow_le_pow_right (by decide) (by omega)
        omega
      · exact h3
theorem pow32 (m : Nat) : 4294967296 ^ m = 2 ^ (32 * m) := by rw [Nat.pow_mul]
theorem bits_top {xs : List Nat} {j : Nat} (lo : Lo xs) (hn : 0 < xs.length) (ht : 0 < xs.getD (xs.length - 1) 0) (h1 : xs.getD (xs.length - 1) 0 < 2 ^ j) (h2 : j = 0 ∨ 2 ^ (j - 1) ≤ xs.getD (xs.length - 1) 0) : BitsOf ((xs.length - 1) * 32 + j) (val xs) := by
  have e := val_take_drop xs (xs.length - 1) (by omega)
  rw [drop_getD xs (xs.length - 1) (by omega), val_cons, show xs.length - 1 + 1 = xs.length from by omega, List.drop_length, val_nil, Nat.mul_zero, Nat.add_zero] at e
  have h3 := val_lt (Lo_take lo (xs.length - 1))
  rw [List.length_take, Nat.min_eq_left (by omega)] at h3
  generalize xs.getD (xs.length - 1) 0 = t at *
  rw [pow32] at e h3
  have hj : j ≠ 0 := by rintro rfl; simp at h1; omega
  refine bitsOf_mk ?_ (.inr ?_)
  · rw [Nat.mul_comm (xs.length - 1) 32, Nat.pow_add]
    have : 2 ^ (32 * (xs.length - 1)) * (t + 1) ≤ 2 ^ (32 * (xs.length - 1)) * 2 ^ j := Nat.mul_le_mul_left _ (by omega)
    rw [Nat.mul_add, Nat.mul_one] at this
    omega
  · rw [show (xs.length - 1) * 32 + j - 1 = 32 * (xs.length - 1) + (j - 1) from by omega, Nat.pow_add]
    have : 2 ^ (32 * (xs.length - 1)) * 2 ^ (j - 1) ≤ 2 ^ (32 * (xs.length - 1)) * t := Nat.mul_le_mul_left _ (h2.resolve_left hj)
    omega
theorem half_step {t q j : Nat} (hq : q = t / 2 ^ j) : q / 2 = t / 2 ^ (j + 1) := by rw [hq, Nat.div_div_eq_div_mul, Nat.pow_succ]
theorem half_low {t q j : Nat} (hq : q = t / 2 ^ j) (h : 0 < q) : 2 ^ j ≤ t := by
  rcases Nat.lt_or_ge t (2 ^ j) with h1 | h1
  · rw [Nat.div_eq_of_lt h1] at hq; omega
  · exact h1
theorem half_end {t q j : Nat} (hq : q = t / 2 ^ j) (h : q = 0) : t < 2 ^ j := by
  rcases Nat.lt_or_ge t (2 ^ j) with h1 | h1
  · exact h1
  · have := Nat.div_pos h1 (Nat.pow_pos (by decide)); omega
theorem half_bound {t j : Nat} (ht : t < 4294967296) (h : 2 ^ j ≤ t) : j < 32 := by
  rcases Nat.lt_or_ge j 32 with h1 | h1
  · exact h1
  · have : 2 ^ 32 ≤ 2 ^ j := Nat.pow_le_pow_right (by decide) h1
    omega

set_option maxRecDepth 100000 in
set_option maxHeartbeats 1000000 in
theorem bits_any (v : Value) (z : Int) (L : Nat) (w : World) (hv : IsI w v z L) (hL : L ≤ 30000) :
    Calls Tryd.prog 42 #[v] w fun e w' => ∃ b : Nat, e = .returned (.int .i64 b) ∧ BitsOf b z.natAbs ∧ Below w.heap.size w w' := by
  obtain ⟨sl, xs, rfl, h2, h3, h4, h5⟩ := hv
  obtain ⟨ao, cap, rfl, -, -, hcell, -, -⟩ := h5.open_
  by_cases hx : xs = []
  · subst hx
    have hz : z.natAbs = 0 := by rw [← h3]; rfl
    rw [hz]
    clear h2 h3 h5 hz hcell
    go_enter Tryd.func42, Tryd.ntmps42
    go_wp2_with fail
    go_ret
    exact ⟨0, rfl, bitsOf_zero, (Below.refl _ _).alloc (Nat.le_refl _) _⟩
  · have hn : 0 < xs.length := List.length_pos_iff.2 hx
    have hn2 : xs.length ≤ 30000 := by omega
    have ht := h2.2.resolve_left hx
    obtain ⟨b, rfl, hb⟩ := hcell (xs.length - 1) (by omega)
    have htl := Lo_get h2.1 (xs.length - 1)
    have hbt : b < w.heap.size := World.block_lt_of_cell? w _ hb
    obtain ⟨t, hteq⟩ : ∃ t, t = xs.getD (xs.length - 1) 0 := ⟨_, rfl⟩
    have HB := Hid.mk (fun j => @bits_top xs j h2.1 hn ht)
    rw [← hteq] at hb htl ht
    have HT := Hid.mk hteq
    have H3 := Hid.mk h3
    have hne : ((xs.length : Int) == 0) = false := beq_eq_false_iff_ne.2 (by omega)
    clear hcell h2 h3 h5 hx hteq
    go_enter Tryd.func42, Tryd.ntmps42
    go_wp2_with fail
    go_loop [4, 5] (fun c q => ∃ j qq : Nat, c = .int .i64 (((xs.length : Int) - 1) * 32 + j) ∧ q = .int .u32 qq ∧ qq ≤ t ∧ j ≤ 32 ∧ Hid (qq = t / 2 ^ j ∧ (j = 0 ∨ 2 ^ (j - 1) ≤ t))) (fun _ q => (intOf q).toNat)
    case atStart => exact ⟨0, t, by simp, rfl, Nat.le_refl _, by omega, Hid.mk ⟨by simp, .inl rfl⟩⟩
    case round =>
      obtain ⟨j, q, rfl, rfl, hq, hj, HI⟩ := hrel
      by_cases h0 : q = 0
      · have HQ := Hid.mk h0
        subst h0
        go_wp2_with fail
        go_ret
        refine ⟨(xs.length - 1) * 32 + j, ?_, ?_, (Below.refl _ _).alloc (Nat.le_refl _) _⟩
        · exact ret_int (by omega)
        · rw [← H3.out]
          refine HB.out j ?_ ?_
          · rw [← HT.out]; exact half_end HI.out.1 rfl
          · rw [← HT.out]; exact HI.out.2
      · have hq0 : 0 < q := by omega
        have hlow := half_low HI.out.1 hq0
        have hj32 := half_bound htl hlow
        have HLO := Hid.mk hlow
        clear hlow
        go_wp2_with fail
        go_round
        case rel => exact ⟨j + 1, q / 2, by go_num, by go_num, by omega, by omega, Hid.mk ⟨half_step HI.out.1, .inr HLO.out⟩⟩
        case measure => simp [intOf]; omega
theorem lit_own (w : World) : Own (w.alloc (.cells #[.int .u32 1, .int .u32 0] 86)) (.slice (some ⟨w.heap.size, 0, none⟩) 2 2) [1, 0] := by
  have := World.ownsRow_lit (base := 0) (e := 86) (size := 1) w #[.int .u32 1, .int .u32 0] 2 (Nat.zero_le _) (by simp [maxLen]) rfl
  simpa [Own, lcells] using this
theorem KU_swap (w : World) (c c' : Array Value) (o : Obj) : KU ((w.alloc (.cells c 66)).alloc o) ((w.alloc (.cells c' 66)).alloc o) := by
  intro b arr h
  change ((w.heap.push (.cells c 66)).push o)[b]? = _ at h
  change ((w.heap.push (.cells c' 66)).push o)[b]? = _
  simp only [Array.getElem?_push, Array.size_push] at h ⊢
  split at h
  · rename_i h1; rw [if_pos h1]; exact h
  · rename_i h1
    rw [if_neg h1]
    split at h
    · simp at h
    · rename_i h2; rw [if_neg h2]; exact h
set_option maxRecDepth 100000 in
set_option maxHeartbeats 1000000 in
theorem fromOne_any (w : World) :
    Calls Tryd.prog 29 #[.int .i64 1] w fun e w' => ∃ r, e = .returned r ∧ IntOut w w' r 1 2 := by
  go_enter Tryd.func29, Tryd.ntmps29
  go_wp2_with fail
  refine (trim_any _ [1, 0] _ ?_ (by intro x hx; simp at hx; omega)).mono ?_
  · have := lit_own (w.alloc (.cells #[.bool false, .slice none 0 0] 66))
    simpa using this
  rintro e w' ⟨⟨r, rfl, hr⟩, rfl⟩
  obtain ⟨zs, h1, h2, h3, h4⟩ := hr
  obtain ⟨co, ecap, rfl, -⟩ := h4.open_
  have H := Hid.mk (And.intro h1 (And.intro h2 (And.intro h3 h4)))
  clear h1 h2 h3 h4
  go_wp2_with fail
  refine bodyPost_ret (v := .agg #[.bool false, .slice co zs.length ecap]) ?_ rfl ?_
  · (simp [results, Tryd.results29, go_sem]; done)
  · obtain ⟨h1, h2, h3, h4⟩ := H.out
    refine ⟨_, rfl, IsI.mk' (by simp) h1 (by rw [h2]; simp [val]) (by simpa using h3) (h4.keep (KU_swap _ _ _ _)), ?_⟩
    repeat (first | exact Below.refl _ _ | refine Below.alloc ?_ (by simp <;> omega) _)
end Go.Proofs.YtjhcbenldfplcaaDoor
