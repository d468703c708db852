/- whole.Int: Mul. -/
import Derived.Test.YtjhcbenldfplcaaDoorInts
namespace Go.Proofs.YtjhcbenldfplcaaDoor
open Go.RowKit

theorem mul_sign {n : Nat} {x y : Int} (h : n = 0 ↔ x * y = 0) (hd : (x < 0 ∧ ¬ y < 0) ∨ (¬ x < 0 ∧ y < 0)) : decide (0 < n) = true ↔ x * y < 0 := by
  have h1 : x * y ≤ 0 := by
    rcases hd with ⟨a, b⟩ | ⟨a, b⟩
    · exact Int.mul_nonpos_of_nonpos_of_nonneg (by omega) (by omega)
    · exact Int.mul_nonpos_of_nonneg_of_nonpos (by omega) (by omega)
  rw [decide_eq_true_eq]
  omega
theorem mul_same {x y : Int} (hd : (x < 0 ∧ y < 0) ∨ (¬ x < 0 ∧ ¬ y < 0)) : false = true ↔ x * y < 0 := by
  have h1 : 0 ≤ x * y := by
    rcases hd with ⟨a, b⟩ | ⟨a, b⟩
    · exact Int.mul_nonneg_of_nonpos_of_nonpos (by omega) (by omega)
    · exact Int.mul_nonneg (by omega) (by omega)
  constructor
  · intro h; cases h
  · omega

set_option maxRecDepth 100000 in
set_option maxHeartbeats 2000000 in
theorem mul_any (v u : Value) (x y : Int) (L M : Nat) (w : World) (hv : IsI w v x L) (hu : IsI w u y M) (hL : L ≤ 15000) (hM : M ≤ 15000) :
    Calls Tryd.prog 32 #[v, u] w fun e w' => ∃ r, e = .returned r ∧ IntOut w w' r (x * y) (L + M) := by
  obtain ⟨sl, xs, rfl, h2, h3, h4, h5⟩ := hv
  obtain ⟨tl, ys, rfl, k2, k3, k4, k5⟩ := hu
  obtain ⟨ao, cap, rfl, -⟩ := h5.open_
  obtain ⟨bo, dap, rfl, -⟩ := k5.open_
  have H := Hid.mk (And.intro h2 (And.intro h3 (And.intro h4 h5)))
  have K := Hid.mk (And.intro k2 (And.intro k3 (And.intro k4 k5)))
  clear h2 h3 h4 h5 k2 k3 k4 k5
  by_cases hx : x < 0
  all_goals by_cases hy : y < 0
  all_goals
    have HX := Hid.mk hx
    have HY := Hid.mk hy
    simp only [hx, hy, decide_true, decide_false]
    clear hx hy
    go_enter Tryd.func32, Tryd.ntmps32
    go_wp2_with fail
    refine (mulAmounts_any _ _ xs ys _ (H.out.2.2.2.below ?_) (K.out.2.2.2.below ?_) H.out.1.1 K.out.1.1 (by have := H.out.2.2.1; omega) (by have := K.out.2.2.1; omega)).mono ?_
    · repeat (first | exact Below.refl _ _ | refine Below.alloc ?_ (by simp <;> omega) _)
    · repeat (first | exact Below.refl _ _ | refine Below.alloc ?_ (by simp <;> omega) _)
    rintro e w1 ⟨r, rfl, ⟨zs, lz, vz, nz, oz⟩, hb⟩
    obtain ⟨co, ecap, rfl, -⟩ := oz.open_
    obtain ⟨hc, hf⟩ := bcell hb
    have hty : Ty w1 (w.heap.size + 2) 66 := Ty.below (Ty.at_ _ _ _ (by simp)) hb (by simp)
    have hz : w.heap.size + 2 < w1.heap.size := hty.lt
    have hb0 : Below w.heap.size w w1 := Below.trans (by repeat (first | exact Below.refl _ _ | refine Below.alloc ?_ (by simp <;> omega) _)) (hb.mono (by simp <;> omega))
    have hzz : zs.length = 0 ↔ x * y = 0 := Lim_len_zero (z := x * y) lz (by rw [vz, H.out.2.1, K.out.2.1, Int.natAbs_mul])
    have hfin : ∀ (b : Bool) (W : World), (b = true ↔ x * y < 0) → KU w1 W → Below w.heap.size w1 W → IntOut w W (.agg #[.bool b, .slice co zs.length ecap]) (x * y) (L + M) := by
      intro b W hbb hk hW
      exact ⟨IsI.mk' hbb lz (by rw [vz, H.out.2.1, K.out.2.1, Int.natAbs_mul]) (by have := H.out.2.2.1; have := K.out.2.2.1; omega) (oz.keep hk), hb0.trans hW⟩
    have F := Hid.mk hfin
    have HZ := Hid.mk hzz
    have HT := Hid.mk hty
    clear hb hb0 lz vz nz oz hfin hzz hty
    go_wp2_with fail
    first
      | (refine bodyPost_ret (v := .agg #[.bool false, .slice co zs.length ecap]) ?_ rfl ?_
         · (simp [results, Tryd.results32, go_sem, hc]; done)
         · exact ⟨_, rfl, F.out _ _ (mul_same (by have := HX.out; have := HY.out; omega)) (KU.setCell (KU.setCell (KU.refl _) HT.out (by decide) _) (HT.out.setCell _ _) (by decide) _) (((Below.refl _ _).setCell (by simp <;> omega) _).setCell (by simp <;> omega) _)⟩)
      | (refine bodyPost_ret (v := .agg #[.bool (decide (0 < zs.length)), .slice co zs.length ecap]) ?_ rfl ?_
         · (simp [results, Tryd.results32, go_sem, hc]; done)
         · exact ⟨_, rfl, F.out _ _ (mul_sign HZ.out (by have := HX.out; have := HY.out; omega)) (KU.setCell (KU.setCell (KU.refl _) HT.out (by decide) _) (HT.out.setCell _ _) (by decide) _) (((Below.refl _ _).setCell (by simp <;> omega) _).setCell (by simp <;> omega) _)⟩)
end Go.Proofs.YtjhcbenldfplcaaDoor
