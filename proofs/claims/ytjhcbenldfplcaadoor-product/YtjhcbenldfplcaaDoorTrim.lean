/- whole.trim, whole.limbAt, whole.lessAmount: reads alone. -/
import Derived.Test.YtjhcbenldfplcaaDoorBase
namespace Go.Proofs.YtjhcbenldfplcaaDoor
open Go.RowKit

/-- What trim leaves of the limbs xs. -/
def TrimOut (w : World) (xs : List Nat) (v : Value) : Prop := ∃ ys, Lim ys ∧ val ys = val xs ∧ ys.length ≤ xs.length ∧ Own w v ys
set_option maxHeartbeats 400000 in
theorem trim_any (v : Value) (xs : List Nat) (w : World) (h : Own w v xs) (lo : Lo xs) :
    Calls Tryd.prog 43 #[v] w fun e w' => (∃ v', e = .returned v' ∧ TrimOut w xs v') ∧ w' = w := by
  obtain ⟨ao, cap, rfl, hc, hm, hcell, hnil, _⟩ := h.open_
  have HH := Hid.mk h
  clear h
  have HL := Hid.mk lo
  clear lo
  go_enter Tryd.func43, Tryd.ntmps43
  go_wp2
  go_loop [3] (fun n => ∃ k : Nat, k ≤ xs.length ∧ n = .int .i64 k ∧ ∀ x ∈ xs.drop k, x = 0) (fun n => (intOf n).toNat)
  case atStart => exact ⟨xs.length, Nat.le_refl _, rfl, by simp⟩
  case round =>
    obtain ⟨k, hk, rfl, hz⟩ := hrel
    by_cases h0 : k = 0
    · subst h0
      go_wp2
      go_ret
      have T := trim_spec HL.out 0 (Nat.zero_le _) hz (.inl rfl)
      exact ⟨⟨_, rfl, _, T.1, T.2.1, by omega, HH.out.cut 0 (Nat.zero_le _)⟩, rfl⟩
    · obtain ⟨b, rfl, hb⟩ := hcell (k - 1) (by omega)
      obtain ⟨x, hx⟩ : ∃ x, x = xs.getD (k - 1) 0 := ⟨_, rfl⟩
      rw [← hx] at hb
      clear hcell
      have HX := Hid.mk hx
      clear hx
      go_wp2
      · have hx0 : ((x : Int) == 0) = true := by assumption
        have hx1 : x = 0 := by simpa using hx0
        go_round
        case rel =>
          refine ⟨k - 1, by omega, by go_num, fun y hy => ?_⟩
          rw [drop_getD xs (k - 1) (by omega), ← HX.out, show k - 1 + 1 = k from by omega] at hy
          rcases List.mem_cons.1 hy with hy | hy
          · omega
          · exact hz y hy
        case measure => simp [intOf]; omega
      · have hx0 : ((x : Int) == 0) = false := by assumption
        have hx1 : x ≠ 0 := by simpa using hx0
        go_ret
        have T := trim_spec HL.out k hk hz (.inr (by rw [← HX.out]; omega))
        exact ⟨⟨_, rfl, _, T.1, T.2.1, by omega, HH.out.cut k hk⟩, rfl⟩

set_option maxHeartbeats 400000 in
/-- whole.limbAt: past the high end all are 0. -/
theorem limbAt_any (v : Value) (xs : List Nat) (i : Int) (w : World) (h : Own w v xs) (lo : Lo xs) (hi0 : 0 ≤ i) :
    Calls Tryd.prog 55 #[v, .int .i64 i] w fun e w' => e = .returned (.int .u64 ((xs.getD i.toNat 0 : Nat) : Int)) ∧ w' = w := by
  obtain ⟨ao, cap, rfl, hc, hm, hcell, hnil, _⟩ := h.open_
  obtain ⟨k, rfl⟩ := Int.eq_ofNat_of_zero_le hi0
  rw [Int.toNat_natCast]
  by_cases hk : k < xs.length
  · obtain ⟨b, rfl, hb⟩ := hcell k hk
    obtain ⟨x, hx⟩ : ∃ x, x = xs.getD k 0 := ⟨_, rfl⟩
    have hxl : x < 4294967296 := by rw [hx]; exact Lo_get lo k
    rw [← hx] at hb ⊢
    clear hcell hx
    go_enter Tryd.func55, Tryd.ntmps55
    go_wp2
    go_ret
    exact ⟨rfl, rfl⟩
  · have hx : xs.getD k 0 = 0 := by simp [List.getD, List.getElem?_eq_none (by omega : xs.length ≤ k)]
    rw [hx]
    clear hcell hx
    go_enter Tryd.func55, Tryd.ntmps55
    go_wp2
    go_ret
    exact ⟨rfl, rfl⟩
end Go.Proofs.YtjhcbenldfplcaaDoor
