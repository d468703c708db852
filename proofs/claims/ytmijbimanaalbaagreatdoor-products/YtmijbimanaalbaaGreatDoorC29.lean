import Derived.Test.YtmijbimanaalbaaGreatDoorC28
/- matricesref: plain, made: where the digits lie. -/
namespace Go.Proofs.YtmijbimanaalbaaGreatDoor.R
open Go.RowKit

/-- A row, cut short. -/
def Pre (v v' : Value) : Prop := ∃ ao n cap k, v = .slice ao n cap ∧ v' = .slice ao k cap
/-- The number's digits are that row's. -/
def MadeOf (v r : Value) : Prop := ∃ ao n cap k, v = .slice ao n cap ∧ ∃ b, r = .agg #[.bool b, .slice ao k cap]
theorem Pre.of {v : Value} {ao : Option Addr} {k cap : Nat} (h : Pre v (.slice ao k cap)) : ∀ b, MadeOf v (.agg #[.bool b, .slice ao k cap]) := by
  obtain ⟨ao', n, cap', k', h1, h2⟩ := h
  simp only [Value.slice.injEq] at h2
  obtain ⟨rfl, rfl, rfl⟩ := h2
  exact fun b => ⟨ao, n, cap, k, h1, b, rfl⟩
/-- The number's digits lie at block B or later. -/
def AtB (B : Nat) (v : Value) : Prop := ∀ x g o s n cap, v = .agg #[x, .slice (some ⟨g, o, s⟩) n cap] → B ≤ g
theorem AtB.none (B : Nat) (x : Value) (n cap : Nat) : AtB B (.agg #[x, .slice none n cap]) := by
  intro y g o s m c h
  simp at h
theorem AtB.mono {B B' : Nat} {v : Value} (h : AtB B v) (hB : B' ≤ B) : AtB B' v := fun x g o s n cap e => Nat.le_trans hB (h x g o s n cap e)
theorem AtB.at_ {B g : Nat} (hg : B ≤ g) (x : Value) (o : Nat) (s : Option Nat) (n cap : Nat) : AtB B (.agg #[x, .slice (some ⟨g, o, s⟩) n cap]) := by
  intro y g' o' s' m c h
  simp only [Value.agg.injEq, Array.mk.injEq, List.cons.injEq, Value.slice.injEq, Option.some.injEq, Addr.mk.injEq, and_true] at h
  omega
set_option maxHeartbeats 400000 in
theorem plain_at (v : Value) (xs : List Nat) (w : World) (h : Own w v xs) (lo : Lo xs) :
    Calls Tryz.prog 221 #[v] w fun e w' => (∃ v', e = .returned v' ∧ TrimOut v xs v' ∧ Pre v v') ∧ w' = w := by
  obtain ⟨ao, cap, rfl, hc, hm, hcell, hnil, _⟩ := h.open_
  have HH := Hid.mk h
  clear h
  have HL := Hid.mk lo
  clear lo
  go_enter Tryz.func221, Tryz.ntmps221
  go_wp2
  go_loop [3] (fun n => ∃ k : Nat, k ≤ xs.length ∧ n = .int .i64 k ∧ ∀ x ∈ xs.drop k, x = 0) (fun n => (intOf n).toNat)
  case atStart => exact ⟨xs.length, Nat.le_refl _, rfl, by simp⟩
  case round =>
    obtain ⟨k, hk, rfl, hz⟩ := hrel
    by_cases h0 : k = 0
    · subst h0
      go_wp2
      go_ret
      have T := trim_spec HL.out 0 (Nat.zero_le _) hz (.inl rfl)
      exact ⟨⟨_, rfl, ⟨_, T.1, T.2.1, by omega, fun W hW => hW.cut 0 (Nat.zero_le _)⟩, ⟨_, _, _, _, rfl, rfl⟩⟩, rfl⟩
    · obtain ⟨b, rfl, hb⟩ := hcell (k - 1) (by omega)
      obtain ⟨x, hx⟩ : ∃ x, x = xs.getD (k - 1) 0 := ⟨_, rfl⟩
      rw [← hx] at hb
      clear hcell
      have HX := Hid.mk hx
      clear hx
      go_wp2
      · have hx0 : ((x : Int) == 0) = true := by assumption
        have hx1 : x = 0 := by simpa using hx0
        go_round
        case rel =>
          refine ⟨k - 1, by omega, by go_num, fun y hy => ?_⟩
          rw [drop_getD xs (k - 1) (by omega), ← HX.out, show k - 1 + 1 = k from by omega] at hy
          rcases List.mem_cons.1 hy with hy | hy
          · omega
          · exact hz y hy
        case measure => simp [intOf]; omega
      · have hx0 : ((x : Int) == 0) = false := by assumption
        have hx1 : x ≠ 0 := by simpa using hx0
        go_ret
        have T := trim_spec HL.out k hk hz (.inr (by rw [← HX.out]; omega))
        exact ⟨⟨_, rfl, ⟨_, T.1, T.2.1, by omega, fun W hW => hW.cut k hk⟩, ⟨_, _, _, _, rfl, rfl⟩⟩, rfl⟩

set_option maxRecDepth 100000 in
theorem made_at (neg : Bool) (v : Value) (xs : List Nat) (w : World) (hv : Own w v xs) (lx : Lo xs) :
    Calls Tryz.prog 204 #[.bool neg, v] w fun e w' => ∃ r, e = .returned r ∧ IsN w' r (if neg then -(val xs : Int) else (val xs : Int)) xs.length ∧ Below w.heap.size w w' ∧ MadeOf v r := by
  have H := Hid.mk (And.intro hv lx)
  clear hv lx
  go_enter Tryz.func204, Tryz.ntmps204
  go_wp2_with fail
  refine (plain_at v xs _ (H.out.1.below ((Below.refl _ _).alloc (Nat.le_refl _) _)) H.out.2).mono ?_
  rintro e w' ⟨⟨u, rfl, hu, hpre⟩, rfl⟩
  obtain ⟨ys, h1, h2, h3, h4⟩ := hu
  obtain ⟨ao, cap, rfl, hc, hm, -⟩ := (h4 _ H.out.1).open_
  have HP := Hid.mk hpre.of
  clear hpre
  have K := Hid.mk (And.intro h1 (And.intro h2 (And.intro h3 h4)))
  clear h1 h2 h4
  have fin : ∀ (b : Bool) (W : World), Below w.heap.size w W → (b = true → ys ≠ []) → IsN W (.agg #[.bool b, .slice ao ys.length cap]) (if b then -(val xs : Int) else (val xs : Int)) xs.length := by
    intro b W hb hne
    obtain ⟨k1, k2, k3, k4⟩ := K.out
    exact ⟨b, _, ys, rfl, (k4 _ H.out.1).below hb, k1, hne, by rw [k2], k3⟩
  have HF := Hid.mk fin
  clear fin
  cases neg
  · go_wp2_with fail
    refine bodyPost_ret (v := .agg #[.bool false, .slice ao ys.length cap]) (by simp [results, Tryz.results204, go_sem]) rfl ?_
    exact ⟨_, rfl, HF.out false _ ((Below.refl _ _).alloc (Nat.le_refl _) _) (fun h => by cases h), (Below.refl _ _).alloc (Nat.le_refl _) _, HP.out _⟩
  · by_cases hy : 0 < ys.length
    · go_wp2_with fail
      refine bodyPost_ret (v := .agg #[.bool true, .slice ao ys.length cap]) (by simp [results, Tryz.results204, go_sem]) rfl ?_
      exact ⟨_, rfl, HF.out true _ ((Below.refl _ _).alloc (Nat.le_refl _) _) (fun _ e => by rw [e] at hy; simp at hy), (Below.refl _ _).alloc (Nat.le_refl _) _, HP.out _⟩
    · have hy' : decide (0 < ys.length) = false := decide_eq_false hy
      have hy0 : ys = [] := List.eq_nil_of_length_eq_zero (by omega)
      have H0 := Hid.mk hy0
      clear hy0
      go_wp2_with fail
      refine bodyPost_ret (v := .agg #[.bool false, .slice ao ys.length cap]) (by simp [results, Tryz.results204, go_sem]) rfl ?_
      have h0 : val xs = 0 := by rw [← K.out.2.1, H0.out]; rfl
      have := HF.out false (w.alloc (.cells #[.bool false, .slice ao ys.length cap] 138)) ((Below.refl _ _).alloc (Nat.le_refl _) _) (fun h => by cases h)
      refine ⟨_, rfl, ?_, (Below.refl _ _).alloc (Nat.le_refl _) _, HP.out _⟩
      rw [h0] at this ⊢
      exact this
end Go.Proofs.YtmijbimanaalbaaGreatDoor.R
