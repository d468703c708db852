/- whole.Int: Add. -/
import Derived.Test.YtjhcbenldfplcaaDoorInts
namespace Go.Proofs.YtjhcbenldfplcaaDoor
open Go.RowKit

theorem NatOut.shape {w w' : World} {v : Value} {n L : Nat} (h : NatOut w w' v n L) : ∃ co ecap zs, v = .slice co zs.length ecap ∧ Hid (Lim zs ∧ val zs = n ∧ zs.length ≤ L ∧ Own w' v zs) ∧ Below w.heap.size w w' := by
  obtain ⟨⟨zs, a, b, c, d⟩, e⟩ := h
  obtain ⟨co, ecap, hv, -⟩ := d.open_
  exact ⟨co, ecap, zs, hv, ⟨a, b, c, d⟩, e⟩
/-- What Add and Mul end with: the result's two cells are written into a box of the call's own. -/
theorem IntOut.fin {w w1 W : World} {b : Bool} {z : Int} {L : Nat} {co : Option Addr} {n ecap : Nat} {zs : List Nat} (hl : Lim zs) (hv : val zs = z.natAbs) (hn : zs.length ≤ L) (ho : Own w1 (.slice co n ecap) zs) (h0 : Below w.heap.size w w1)
    (hb : b = true ↔ z < 0) (hk : KU w1 W) (hW : Below w.heap.size w1 W) : IntOut w W (.agg #[.bool b, .slice co n ecap]) z L := ⟨IsI.mk' hb hl hv hn (ho.keep hk), h0.trans hW⟩

set_option maxRecDepth 100000 in
set_option maxHeartbeats 2000000 in
theorem add_same (nb : Bool) (ao bo : Option Addr) (cap dap : Nat) (xs ys : List Nat) (w : World) (hx : Own w (.slice ao xs.length cap) xs) (hy : Own w (.slice bo ys.length dap) ys) (lx : Lo xs) (ly : Lo ys) (bx : xs.length ≤ 30000) (by_ : ys.length ≤ 30000) :
    Calls Tryd.prog 34 #[.agg #[.bool nb, .slice ao xs.length cap], .agg #[.bool nb, .slice bo ys.length dap]] w fun e w' => ∃ co n ecap, e = .returned (.agg #[.bool nb, .slice co n ecap]) ∧ NatOut w w' (.slice co n ecap) (val xs + val ys) (max xs.length ys.length + 1) := by
  have H := Hid.mk hx
  have K := Hid.mk hy
  clear hx hy
  go_enter Tryd.func34, Tryd.ntmps34
  go_wp2_with fail
  go_region_with (go_at_call 48; go_must (refine (addAmounts_any _ _ xs ys _ (H.out.below (by repeat (first | exact Below.refl _ _ | refine Below.drew ?_ | refine Below.alloc ?_ (by simp <;> omega) _))) (K.out.below (by repeat (first | exact Below.refl _ _ | refine Below.drew ?_ | refine Below.alloc ?_ (by simp <;> omega) _))) lx ly bx by_).mono ?_; rintro e w1 ⟨r, rfl, hr⟩; obtain ⟨co, ecap, zs, rfl, hZ, hb⟩ := hr.shape; obtain ⟨hc, hf⟩ := bcell hb; have hty : Ty w1 (w.heap.size + 2) 66 := Ty.below (Ty.drew (Ty.at_ _ _ _ (by simp))) hb (by simp); have hz : w.heap.size + 2 < w1.heap.size := hty.lt; have HT := Hid.mk hty; have HB := Hid.mk hb; clear hty hr hb))
  all_goals
    go_wp2_with fail
    refine bodyPost_ret (v := .agg #[.bool nb, .slice co zs.length ecap]) ?_ rfl ?_
    · (simp [results, Tryd.results34, go_sem, hc]; done)
    · refine ⟨_, _, _, rfl, ⟨zs, hZ.out.1, hZ.out.2.1, hZ.out.2.2.1, hZ.out.2.2.2.keep (KU.setCell (KU.setCell (KU.refl _) HT.out (by decide) _) (HT.out.setCell _ _) (by decide) _)⟩, ?_⟩
      refine Below.trans ?_ (((Below.refl _ _).setCell (by simp <;> omega) _).setCell (by simp <;> omega) _)
      refine Below.trans ?_ (HB.out.mono (by simp <;> omega))
      repeat (first | exact Below.refl _ _ | refine Below.drew ?_ | refine Below.alloc ?_ (by simp <;> omega) _)
end Go.Proofs.YtjhcbenldfplcaaDoor
