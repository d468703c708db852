import Derived.Test.YtjhcbenldfplcaaGreatDoorC02
import Derived.Deep.RegionWith
/- whole.Int: IsZero, Neg. -/
namespace Go.Proofs.YtjhcbenldfplcaaGreatDoor
open Go.RowKit

/-- The value v is the whole number z, in at most L limbs. -/
def IsI (w : World) (v : Value) (z : Int) (L : Nat) : Prop := ∃ sl xs, v = .agg #[.bool (decide (z < 0)), sl] ∧ Lim xs ∧ val xs = z.natAbs ∧ xs.length ≤ L ∧ Own w sl xs
theorem IsI.below {w w' : World} {v : Value} {z : Int} {L : Nat} (h : IsI w v z L) (hb : Below w.heap.size w w') : IsI w' v z L := by
  obtain ⟨sl, xs, h1, h2, h3, h4, h5⟩ := h
  exact ⟨sl, xs, h1, h2, h3, h4, h5.below hb⟩
theorem IsI.keep {w w' : World} {v : Value} {z : Int} {L : Nat} (h : IsI w v z L) (hb : KU w w') : IsI w' v z L := by
  obtain ⟨sl, xs, h1, h2, h3, h4, h5⟩ := h
  exact ⟨sl, xs, h1, h2, h3, h4, h5.keep hb⟩
theorem IsI.mono {w : World} {v : Value} {z : Int} {L M : Nat} (h : IsI w v z L) (hLM : L ≤ M) : IsI w v z M := by
  obtain ⟨sl, xs, h1, h2, h3, h4, h5⟩ := h
  exact ⟨sl, xs, h1, h2, h3, by omega, h5⟩
theorem IsI.mk' {w : World} {b : Bool} {sl : Value} {z : Int} {L : Nat} {xs : List Nat} (hb : b = true ↔ z < 0) (h2 : Lim xs) (h3 : val xs = z.natAbs) (h4 : xs.length ≤ L) (h5 : Own w sl xs) : IsI w (.agg #[.bool b, sl]) z L := by
  refine ⟨sl, xs, ?_, h2, h3, h4, h5⟩
  rw [show b = decide (z < 0) from by rw [Bool.eq_iff_iff]; simpa using hb]
theorem neg_sign {n : Nat} {z : Int} (h : n = 0 ↔ z = 0) (h0 : ¬ z < 0) : (!((n : Int) == 0)) = true ↔ -z < 0 := by
  rw [Bool.not_eq_true', beq_eq_false_iff_ne]
  omega
theorem IsI.zero (w : World) (L : Nat) : IsI w (.agg #[.bool false, .slice none 0 0]) 0 L := ⟨_, [], rfl, ⟨Lo_nil, .inl rfl⟩, rfl, Nat.zero_le _, Own.nil w⟩
theorem Lim_len_zero {xs : List Nat} {z : Int} (h : Lim xs) (hv : val xs = z.natAbs) : xs.length = 0 ↔ z = 0 := by
  have := Lim_zero h
  rw [hv] at this
  rw [List.length_eq_zero_iff, ← this]
  omega

set_option maxHeartbeats 400000 in
theorem isZero_raw (nb : Bool) (ao : Option Addr) (n cap : Nat) (w : World) :
    Calls Tryz.prog 124 #[.agg #[.bool nb, .slice ao n cap]] w fun e w' => e = .returned (.bool ((n : Int) == 0)) ∧ w' = w.alloc (.cells #[.bool nb, .slice ao n cap] 121) := by
  go_enter Tryz.func124, Tryz.ntmps124
  go_wp2
  go_ret
  exact ⟨rfl, rfl⟩
/-- A call handed back the whole number z, in at most L limbs; nothing old has turned. -/
def IntOut (w w' : World) (v : Value) (z : Int) (L : Nat) : Prop := IsI w' v z L ∧ Below w.heap.size w w'

set_option maxHeartbeats 400000 in
theorem isZero_any (v : Value) (z : Int) (L : Nat) (w : World) (h : IsI w v z L) :
    Calls Tryz.prog 124 #[v] w fun e w' => e = .returned (.bool (decide (z = 0))) ∧ Below w.heap.size w w' := by
  obtain ⟨sl, xs, rfl, h2, h3, h4, h5⟩ := h
  obtain ⟨ao, cap, rfl, -⟩ := h5.open_
  refine (isZero_raw _ _ _ _ _).mono ?_
  rintro e w' ⟨rfl, rfl⟩
  refine ⟨?_, (Below.refl _ _).alloc (Nat.le_refl _) _⟩
  have := Lim_len_zero h2 h3
  congr 2
  rw [Bool.eq_iff_iff]
  simp only [beq_iff_eq, decide_eq_true_eq]
  omega

set_option maxRecDepth 100000 in
set_option maxHeartbeats 1000000 in
theorem neg_any (v : Value) (z : Int) (L : Nat) (w : World) (h : IsI w v z L) :
    Calls Tryz.prog 136 #[v] w fun e w' => ∃ r, e = .returned r ∧ IntOut w w' r (-z) L := by
  obtain ⟨sl, xs, rfl, h2, h3, h4, h5⟩ := h
  obtain ⟨ao, cap, rfl, -⟩ := h5.open_
  have H := Hid.mk (And.intro h2 (And.intro h3 (And.intro h4 h5)))
  have HZ := Hid.mk (Lim_len_zero h2 h3)
  clear h2 h3 h4 h5
  by_cases hz : z < 0
  · have hd : decide (z < 0) = true := by simpa using hz
    have HZ0 := Hid.mk hz
    clear hz
    rw [hd]
    go_enter Tryz.func136, Tryz.ntmps136
    go_wp2_with fail
    go_region_with (go_at_call 124; refine (isZero_raw _ _ _ _ _).mono ?_; rintro e w' ⟨rfl, rfl⟩)
    all_goals
      go_wp2_with fail
      refine bodyPost_ret (v := .agg #[.bool false, .slice ao xs.length cap]) (by simp [results, Tryz.results136, go_sem]) rfl ?_
      obtain ⟨h2, h3, h4, h5⟩ := H.out
      have hb : ∀ W, Below w.heap.size w W → IntOut w W (.agg #[.bool false, .slice ao xs.length cap]) (-z) L := fun W hW => ⟨⟨_, xs, by rw [show decide (-z < 0) = false from by have := HZ0.out; simp; omega], h2, by omega, h4, h5.below hW⟩, hW⟩
      refine ⟨_, rfl, hb _ ?_⟩
      exact (((Below.refl _ _).alloc (Nat.le_refl _) _).alloc (by simp) _).drew
  · have hd : decide (z < 0) = false := by simpa using hz
    have HZ0 := Hid.mk hz
    clear hz
    rw [hd]
    go_enter Tryz.func136, Tryz.ntmps136
    go_wp2_with fail
    go_region_with (go_at_call 124; refine (isZero_raw _ _ _ _ _).mono ?_; rintro e w' ⟨rfl, rfl⟩)
    all_goals
      go_wp2_with fail
      refine bodyPost_ret (v := .agg #[.bool (!((xs.length : Int) == 0)), .slice ao xs.length cap]) (by simp [results, Tryz.results136, go_sem]) rfl ?_
      obtain ⟨h2, h3, h4, h5⟩ := H.out
      have hb : ∀ W, Below w.heap.size w W → IntOut w W (.agg #[.bool (!((xs.length : Int) == 0)), .slice ao xs.length cap]) (-z) L := fun W hW => by
        have h6 := HZ.out
        have h7 := HZ0.out
        exact ⟨IsI.mk' (neg_sign h6 (by omega)) h2 (by omega) h4 (h5.below hW), hW⟩
      refine ⟨_, rfl, hb _ ?_⟩
      repeat (first | exact Below.refl _ _ | refine Below.drew ?_ | refine Below.alloc ?_ (by simp <;> omega) _)
end Go.Proofs.YtjhcbenldfplcaaGreatDoor

/- whole.Int: Add. -/
namespace Go.Proofs.YtjhcbenldfplcaaGreatDoor
open Go.RowKit

theorem NatOut.shape {w w' : World} {v : Value} {n L : Nat} (h : NatOut w w' v n L) : ∃ co ecap zs, v = .slice co zs.length ecap ∧ Hid (Lim zs ∧ val zs = n ∧ zs.length ≤ L ∧ Own w' v zs) ∧ Below w.heap.size w w' := by
  obtain ⟨⟨zs, a, b, c, d⟩, e⟩ := h
  obtain ⟨co, ecap, hv, -⟩ := d.open_
  exact ⟨co, ecap, zs, hv, ⟨a, b, c, d⟩, e⟩
/-- What Add and Mul end with: the result's two cells are written into a box of the call's own. -/
theorem IntOut.fin {w w1 W : World} {b : Bool} {z : Int} {L : Nat} {co : Option Addr} {n ecap : Nat} {zs : List Nat} (hl : Lim zs) (hv : val zs = z.natAbs) (hn : zs.length ≤ L) (ho : Own w1 (.slice co n ecap) zs) (h0 : Below w.heap.size w w1)
    (hb : b = true ↔ z < 0) (hk : KU w1 W) (hW : Below w.heap.size w1 W) : IntOut w W (.agg #[.bool b, .slice co n ecap]) z L := ⟨IsI.mk' hb hl hv hn (ho.keep hk), h0.trans hW⟩

set_option maxRecDepth 100000 in
set_option maxHeartbeats 2000000 in
theorem add_same (nb : Bool) (ao bo : Option Addr) (cap dap : Nat) (xs ys : List Nat) (w : World) (hx : Own w (.slice ao xs.length cap) xs) (hy : Own w (.slice bo ys.length dap) ys) (lx : Lo xs) (ly : Lo ys) (bx : xs.length ≤ 30000) (by_ : ys.length ≤ 30000) :
    Calls Tryz.prog 137 #[.agg #[.bool nb, .slice ao xs.length cap], .agg #[.bool nb, .slice bo ys.length dap]] w fun e w' => ∃ co n ecap, e = .returned (.agg #[.bool nb, .slice co n ecap]) ∧ NatOut w w' (.slice co n ecap) (val xs + val ys) (max xs.length ys.length + 1) := by
  have H := Hid.mk hx
  have K := Hid.mk hy
  clear hx hy
  go_enter Tryz.func137, Tryz.ntmps137
  go_wp2_with fail
  go_region_with (go_at_call 153; go_must (refine (addAmounts_any _ _ xs ys _ (H.out.below (by repeat (first | exact Below.refl _ _ | refine Below.drew ?_ | refine Below.alloc ?_ (by simp <;> omega) _))) (K.out.below (by repeat (first | exact Below.refl _ _ | refine Below.drew ?_ | refine Below.alloc ?_ (by simp <;> omega) _))) lx ly bx by_).mono ?_; rintro e w1 ⟨r, rfl, hr⟩; obtain ⟨co, ecap, zs, rfl, hZ, hb⟩ := hr.shape; obtain ⟨hc, hf⟩ := bcell hb; have hty : Ty w1 (w.heap.size + 2) 121 := Ty.below (Ty.drew (Ty.at_ _ _ _ (by simp))) hb (by simp); have hz : w.heap.size + 2 < w1.heap.size := hty.lt; have HT := Hid.mk hty; have HB := Hid.mk hb; clear hty hr hb))
  all_goals
    go_wp2_with fail
    refine bodyPost_ret (v := .agg #[.bool nb, .slice co zs.length ecap]) ?_ rfl ?_
    · (simp [results, Tryz.results137, go_sem, hc]; done)
    · refine ⟨_, _, _, rfl, ⟨zs, hZ.out.1, hZ.out.2.1, hZ.out.2.2.1, hZ.out.2.2.2.keep (KU.setCell (KU.setCell (KU.refl _) HT.out (by decide) _) (HT.out.setCell _ _) (by decide) _)⟩, ?_⟩
      refine Below.trans ?_ (((Below.refl _ _).setCell (by simp <;> omega) _).setCell (by simp <;> omega) _)
      refine Below.trans ?_ (HB.out.mono (by simp <;> omega))
      repeat (first | exact Below.refl _ _ | refine Below.drew ?_ | refine Below.alloc ?_ (by simp <;> omega) _)
end Go.Proofs.YtjhcbenldfplcaaGreatDoor
