/- whole.Int: Add, whole. -/
import Derived.Test.YtjhcbenldfplcaaDoorIntAdd2
namespace Go.Proofs.YtjhcbenldfplcaaDoor
open Go.RowKit

set_option maxRecDepth 100000 in
set_option maxHeartbeats 2000000 in
theorem add_more (nb : Bool) (ao bo : Option Addr) (cap dap : Nat) (xs ys : List Nat) (w : World) (hx : Own w (.slice ao xs.length cap) xs) (hy : Own w (.slice bo ys.length dap) ys) (lx : Lim xs) (ly : Lim ys) (by_ : xs.length ≤ 30000) (hle : val ys ≤ val xs) :
    Calls Tryd.prog 34 #[.agg #[.bool nb, .slice ao xs.length cap], .agg #[.bool (!nb), .slice bo ys.length dap]] w fun e w' => ∃ co n ecap, e = .returned (.agg #[.bool (nb && decide (0 < n)), .slice co n ecap]) ∧ NatOut w w' (.slice co n ecap) (val xs - val ys) xs.length := by
  have H := Hid.mk hx
  have K := Hid.mk hy
  have HL := Hid.mk (len_of_val lx ly hle)
  have HV := Hid.mk hle
  clear hx hy
  have hd : decide (val xs < val ys) = false := by simp; omega
  clear hle
  cases nb
  all_goals
    try simp only [Bool.not_true, Bool.true_and]
    try simp only [Bool.not_false, Bool.false_and]
    go_enter Tryd.func34, Tryd.ntmps34
    go_wp2_with fail
    refine (lessAmount_any _ _ xs ys _ (H.out.below ?_) (K.out.below ?_) lx ly).mono ?_
    · repeat (first | exact Below.refl _ _ | refine Below.drew ?_ | refine Below.alloc ?_ (by simp <;> omega) _)
    · repeat (first | exact Below.refl _ _ | refine Below.drew ?_ | refine Below.alloc ?_ (by simp <;> omega) _)
    rintro e w0 ⟨rfl, nd, rfl⟩
    rw [hd]
    go_wp2_with fail
    refine (subAmounts_any _ _ xs ys _ (H.out.below ?_) (K.out.below ?_) lx.1 ly.1 by_ HV.out HL.out).mono ?_
    · repeat (first | exact Below.refl _ _ | refine Below.drew ?_ | refine below_drewN ?_ _ | refine Below.alloc ?_ (by simp <;> omega) _)
    · repeat (first | exact Below.refl _ _ | refine Below.drew ?_ | refine below_drewN ?_ _ | refine Below.alloc ?_ (by simp <;> omega) _)
    rintro e w1 ⟨r, rfl, hr⟩
    obtain ⟨co, ecap, zs, rfl, hZ, hb⟩ := hr.shape
    obtain ⟨hc, hf⟩ := bcell hb
    have hty : Ty w1 (w.heap.size + 2) 66 := Ty.below (Ty.drewN (Ty.at_ _ _ _ (by simp)) _) hb (by simp)
    have hz : w.heap.size + 2 < w1.heap.size := hty.lt
    have HT := Hid.mk hty
    have HB := Hid.mk hb
    clear hty hr hb
    go_wp2_with fail
    first
      | (refine bodyPost_ret (v := .agg #[.bool false, .slice co zs.length ecap]) ?_ rfl ?_; focus (simp [results, Tryd.results34, go_sem, hc]; done))
      | (refine bodyPost_ret (v := .agg #[.bool (decide (0 < zs.length)), .slice co zs.length ecap]) ?_ rfl ?_; focus (simp [results, Tryd.results34, go_sem, hc]; done))
    refine ⟨_, _, _, rfl, ⟨zs, hZ.out.1, hZ.out.2.1, hZ.out.2.2.1, hZ.out.2.2.2.keep (KU.setCell (KU.setCell (KU.refl _) HT.out (by decide) _) (HT.out.setCell _ _) (by decide) _)⟩, ?_⟩
    refine Below.trans ?_ (((Below.refl _ _).setCell (by simp <;> omega) _).setCell (by simp <;> omega) _)
    refine Below.trans ?_ (HB.out.mono (by simp <;> omega))
    repeat (first | exact Below.refl _ _ | refine Below.drew ?_ | refine below_drewN ?_ _ | refine Below.alloc ?_ (by simp <;> omega) _)
theorem IntOut.of_nat {w w' : World} {b : Bool} {sl : Value} {n L M : Nat} {z : Int} (h : NatOut w w' sl n L) (hz : n = z.natAbs) (hb : b = true ↔ z < 0) (hL : L ≤ M) : IntOut w w' (.agg #[.bool b, sl]) z M := by
  obtain ⟨⟨zs, a, c, d, e⟩, f⟩ := h
  exact ⟨IsI.mk' hb a (by omega) (by omega) e, f⟩
theorem add_any (v u : Value) (x y : Int) (L M : Nat) (w : World) (hv : IsI w v x L) (hu : IsI w u y M) (hL : L ≤ 30000) (hM : M ≤ 30000) :
    Calls Tryd.prog 34 #[v, u] w fun e w' => ∃ r, e = .returned r ∧ IntOut w w' r (x + y) (max L M + 1) := by
  obtain ⟨sl, xs, rfl, h2, h3, h4, h5⟩ := hv
  obtain ⟨tl, ys, rfl, k2, k3, k4, k5⟩ := hu
  obtain ⟨ao, cap, rfl, -⟩ := h5.open_
  obtain ⟨bo, dap, rfl, -⟩ := k5.open_
  by_cases hs : (x < 0 ↔ y < 0)
  · rw [show decide (y < 0) = decide (x < 0) from by simp only [hs]]
    refine (add_same _ _ _ _ _ xs ys w h5 k5 h2.1 k2.1 (by omega) (by omega)).mono ?_
    rintro e w' ⟨co, n, ecap, rfl, hr⟩
    exact ⟨_, rfl, IntOut.of_nat hr (by omega) (by simp; omega) (by omega)⟩
  · rw [show decide (y < 0) = !decide (x < 0) from by
      by_cases h1 : x < 0 <;> by_cases h2 : y < 0 <;> simp [h1, h2] <;> omega]
    by_cases hlt : val xs < val ys
    · refine (add_less _ _ _ _ _ xs ys w h5 k5 h2 k2 (by omega) hlt).mono ?_
      rintro e w' ⟨co, n, ecap, rfl, hr⟩
      exact ⟨_, rfl, IntOut.of_nat hr (by omega) (by simp; omega) (by omega)⟩
    · refine (add_more _ _ _ _ _ xs ys w h5 k5 h2 k2 (by omega) (by omega)).mono ?_
      rintro e w' ⟨co, n, ecap, rfl, hr⟩
      have hn : n = 0 ↔ val xs - val ys = 0 := by
        obtain ⟨⟨zs, a, c, d, e⟩, f⟩ := hr
        obtain ⟨co', ecap', hsl, -⟩ := e.open_
        simp only [Value.slice.injEq] at hsl
        rw [hsl.2.1, List.length_eq_zero_iff, ← Lim_zero a, c]
      exact ⟨_, rfl, IntOut.of_nat hr (by omega) (by simp; omega) (by omega)⟩
end Go.Proofs.YtjhcbenldfplcaaDoor
