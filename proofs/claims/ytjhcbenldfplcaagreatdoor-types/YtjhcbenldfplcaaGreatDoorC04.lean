import Derived.Test.YtjhcbenldfplcaaGreatDoorC03
/- whole.Int: Add of unlike signs. -/
namespace Go.Proofs.YtjhcbenldfplcaaGreatDoor
open Go.RowKit

theorem Ty.drewN {w : World} {b : Nat} {t : TypeId} (h : Ty w b t) (n : Nat) : Ty (w.drewN n) b t := h
theorem len_of_val {xs ys : List Nat} (lx : Lim xs) (ly : Lim ys) (h : val ys ≤ val xs) : ys.length ≤ xs.length := by
  rcases Nat.lt_or_ge xs.length ys.length with h1 | h1
  · have := val_lt_of_length lx.1 ly h1; omega
  · exact h1

set_option maxRecDepth 100000 in
set_option maxHeartbeats 2000000 in
theorem add_less (nb : Bool) (ao bo : Option Addr) (cap dap : Nat) (xs ys : List Nat) (w : World) (hx : Own w (.slice ao xs.length cap) xs) (hy : Own w (.slice bo ys.length dap) ys) (lx : Lim xs) (ly : Lim ys) (by_ : ys.length ≤ 30000) (hlt : val xs < val ys) :
    Calls Tryz.prog 137 #[.agg #[.bool nb, .slice ao xs.length cap], .agg #[.bool (!nb), .slice bo ys.length dap]] w fun e w' => ∃ co n ecap, e = .returned (.agg #[.bool (!nb), .slice co n ecap]) ∧ NatOut w w' (.slice co n ecap) (val ys - val xs) ys.length := by
  have H := Hid.mk hx
  have K := Hid.mk hy
  have HL := Hid.mk (len_of_val ly lx (by omega))
  have HV := Hid.mk hlt
  clear hx hy
  have hd : decide (val xs < val ys) = true := by simpa using hlt
  clear hlt
  cases nb
  all_goals
    try rw [Bool.not_true]
    try rw [Bool.not_false]
    go_enter Tryz.func137, Tryz.ntmps137
    go_wp2_with fail
    refine (lessAmount_any _ _ xs ys _ (H.out.below ?_) (K.out.below ?_) lx ly).mono ?_
    · repeat (first | exact Below.refl _ _ | refine Below.drew ?_ | refine Below.alloc ?_ (by simp <;> omega) _)
    · repeat (first | exact Below.refl _ _ | refine Below.drew ?_ | refine Below.alloc ?_ (by simp <;> omega) _)
    rintro e w0 ⟨rfl, nd, rfl⟩
    rw [hd]
    go_wp2_with fail
    go_region_with (go_at_call 155; go_must (refine (subAmounts_any _ _ ys xs _ (K.out.below (by repeat (first | exact Below.refl _ _ | refine Below.drew ?_ | refine below_drewN ?_ _ | refine Below.alloc ?_ (by simp <;> omega) _))) (H.out.below (by repeat (first | exact Below.refl _ _ | refine Below.drew ?_ | refine below_drewN ?_ _ | refine Below.alloc ?_ (by simp <;> omega) _))) ly.1 lx.1 by_ (by have := HV.out; omega) HL.out).mono ?_; rintro e w1 ⟨r, rfl, hr⟩; obtain ⟨co, ecap, zs, rfl, hZ, hb⟩ := hr.shape; obtain ⟨hc, hf⟩ := bcell hb; have hty : Ty w1 (w.heap.size + 2) 121 := Ty.below (Ty.drewN (Ty.at_ _ _ _ (by simp)) _) hb (by simp); have hz : w.heap.size + 2 < w1.heap.size := hty.lt; have HT := Hid.mk hty; have HB := Hid.mk hb; clear hty hr hb))
    all_goals
      go_wp2_with fail
      first
        | (refine bodyPost_ret (v := .agg #[.bool true, .slice co zs.length ecap]) ?_ rfl ?_; focus (simp [results, Tryz.results137, go_sem, hc]; done))
        | (refine bodyPost_ret (v := .agg #[.bool false, .slice co zs.length ecap]) ?_ rfl ?_; focus (simp [results, Tryz.results137, go_sem, hc]; done))
      refine ⟨_, _, _, rfl, ⟨zs, hZ.out.1, hZ.out.2.1, hZ.out.2.2.1, hZ.out.2.2.2.keep (KU.setCell (KU.setCell (KU.refl _) HT.out (by decide) _) (HT.out.setCell _ _) (by decide) _)⟩, ?_⟩
      refine Below.trans ?_ (((Below.refl _ _).setCell (by simp <;> omega) _).setCell (by simp <;> omega) _)
      refine Below.trans ?_ (HB.out.mono (by simp <;> omega))
      repeat (first | exact Below.refl _ _ | refine Below.drew ?_ | refine below_drewN ?_ _ | refine Below.alloc ?_ (by simp <;> omega) _)

end Go.Proofs.YtjhcbenldfplcaaGreatDoor
