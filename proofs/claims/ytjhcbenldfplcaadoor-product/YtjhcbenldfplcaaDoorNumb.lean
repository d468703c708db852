/- matriceskeep.number. -/
import Derived.Test.YtjhcbenldfplcaaDoorDecimal
import Derived.Lib.ItoaLen
namespace Go.Proofs.YtjhcbenldfplcaaDoor
open Go.RowKit

theorem itoa_digit (n : Nat) (h : n < 10) : Lib.itoa (n : Int) = [UInt8.ofNat (48 + n)] := by rw [Lib.itoa_nonneg, Lib.decDigits_one h]
theorem itoa_more (n : Nat) (h : ¬ n < 10) : Lib.itoa (n : Int) = Lib.itoa ((n / 10 : Nat) : Int) ++ [UInt8.ofNat (48 + n % 10)] := by
  rw [Lib.itoa_nonneg, Lib.itoa_nonneg, decDigits_big h]

theorem byte_str (w : World) (d : Nat) (hd : d < 10) (z : Int) (hz : z = 48 + (d : Int)) (bt : UInt8) (hbt : bt = UInt8.ofNat (48 + d)) :
    (convert 49 9 (.slice (some ⟨w.heap.size, 0, none⟩) 1 1)).run Tryd.prog (w.alloc (.cells #[.int .u8 z] 5)) = .ok (.string ⟨[bt].toArray⟩) (w.alloc (.cells #[.int .u8 z] 5)) := by
  subst hbt
  have h := run_convert_bytes_back (P := Tryd.prog) (w.alloc (.cells #[.int .u8 z] 5)) 49 9 5 ⟨w.heap.size, 0, none⟩ 1 [UInt8.ofNat (48 + d)] Tryd.underlying49 Tryd.underlying5 Tryd.underlying9 (fun j hj => by
    have hj0 : j = 0 := by simpa using hj
    subst hj0
    rw [Lib.add_plain, World.cell?_alloc_new]
    have e : ((UInt8.ofNat (48 + d)).toNat : Int) = z := by
      rw [hz, UInt8.toNat_ofNat', Nat.mod_eq_of_lt (by omega)]; omega
    simp only [List.getElem_cons_zero]
    rw [e]
    rfl)
  exact h
set_option maxRecDepth 100000 in
set_option maxHeartbeats 1000000 in
/-- number of what is not below 0. -/
theorem number_nat (f : Nat) : ∀ (n : Nat) (w : World), n ≤ f → n ≤ 4611686018427387904 →
    Calls Tryd.prog 13 #[.int .i64 n] w fun e w' => e = .returned (.string ⟨(Lib.itoa (n : Int)).toArray⟩) ∧ Below w.heap.size w w' := by
  induction f with
  | zero =>
    intro n w hf hn
    have h0 : n < 10 := by omega
    obtain ⟨bt, hbt⟩ : ∃ bt, bt = UInt8.ofNat (48 + n % 10) := ⟨_, rfl⟩
    have hcv := byte_str w (n % 10) (by omega) (48 + (n : Int) % 10) (by omega) bt hbt
    have HBT := Hid.mk hbt
    clear hbt
    go_enter Tryd.func13, Tryd.ntmps13
    go_wp2_with fail
    go_ret
    refine ⟨?_, (Below.refl _ _).alloc (Nat.le_refl _) _⟩
    rw [itoa_digit n h0]
    exact ret_str (by rw [HBT.out, Nat.mod_eq_of_lt h0])
  | succ f ih =>
    intro n w hf hn
    by_cases h0 : n < 10
    · obtain ⟨bt, hbt⟩ : ∃ bt, bt = UInt8.ofNat (48 + n % 10) := ⟨_, rfl⟩
      have hcv := byte_str w (n % 10) (by omega) (48 + (n : Int) % 10) (by omega) bt hbt
      have HBT := Hid.mk hbt
      clear hbt
      clear ih
      go_enter Tryd.func13, Tryd.ntmps13
      go_wp2_with fail
      go_ret
      refine ⟨?_, (Below.refl _ _).alloc (Nat.le_refl _) _⟩
      rw [itoa_digit n h0]
      exact ret_str (by rw [HBT.out, Nat.mod_eq_of_lt h0])
    · obtain ⟨bt, hbt⟩ : ∃ bt, bt = UInt8.ofNat (48 + n % 10) := ⟨_, rfl⟩
      have hcv := byte_str w (n % 10) (by omega) (48 + (n : Int) % 10) (by omega) bt hbt
      have HBT := Hid.mk hbt
      clear hbt
      have HIH := Hid.mk ih
      clear ih
      have hlen : (Lib.itoa ((n / 10 : Nat) : Int)).length ≤ 40 := by
        have := Lib.itoa_length_le ((n / 10 : Nat) : Int) (by omega) (by omega)
        omega
      go_enter Tryd.func13, Tryd.ntmps13
      go_wp2_with fail
      rw [show (n : Int) / 10 = ((n / 10 : Nat) : Int) from by omega]
      refine (HIH.out (n / 10) _ (by omega) (by omega)).mono ?_
      rintro e w2 ⟨rfl, hb⟩
      generalize hT : Lib.itoa ((n / 10 : Nat) : Int) = T at *
      have HT := Hid.mk hT
      clear hT
      go_wp2_with fail
      go_ret
      refine ⟨?_, ((Below.refl w.heap.size w).alloc (Nat.le_refl _) _).trans (hb.mono (by simp))⟩
      rw [itoa_more n h0, HT.out, ← HBT.out]
      exact ret_str (str_app T [bt])
theorem number_any (z : Int) (w : World) (h1 : -4611686018427387904 ≤ z) (h2 : z ≤ 4611686018427387904) :
    Calls Tryd.prog 13 #[.int .i64 z] w fun e w' => e = .returned (.string ⟨(Lib.itoa z).toArray⟩) ∧ Below w.heap.size w w' := by
  by_cases hz : z < 0
  · obtain ⟨u, rfl⟩ : ∃ u : Nat, z = -(u : Int) := ⟨z.natAbs, by omega⟩
    have hu : 1 ≤ u := by omega
    have hlen : (Lib.itoa (u : Int)).length ≤ 40 := by
      have := Lib.itoa_length_le (u : Int) (by omega) (by omega)
      omega
    go_enter Tryd.func13, Tryd.ntmps13
    go_wp2_with fail
    refine (number_nat u u _ (Nat.le_refl _) (by omega)).mono ?_
    rintro e w2 ⟨rfl, hb⟩
    generalize hT : Lib.itoa (u : Int) = T at *
    have HT := Hid.mk hT
    clear hT
    go_wp2_with fail
    go_ret
    refine ⟨?_, hb⟩
    rw [Lib.itoa_neg u hu, ← Lib.itoa_nonneg, HT.out]
    exact ret_str (str_app [45] _)
  · obtain ⟨u, rfl⟩ : ∃ u : Nat, z = (u : Int) := ⟨z.natAbs, by omega⟩
    exact number_nat u u w (Nat.le_refl _) (by omega)
end Go.Proofs.YtjhcbenldfplcaaDoor
