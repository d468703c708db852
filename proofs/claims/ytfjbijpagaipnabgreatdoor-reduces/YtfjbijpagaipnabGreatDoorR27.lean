import Derived.Test.YtfjbijpagaipnabGreatDoorR26
import Derived.Test.YtfjbijpagaipnabGreatDoorR24
import Derived.Test.YtfjbijpagaipnabGreatDoorR02
import Derived.Deep.RegionHeld3
import Derived.Deep.CutRange
namespace Go.Proofs.YtfjbijpagaipnabGreatDoor
open Go.RowKit
theorem fdiv_same {x y : Int} (hs : (x < 0 ∧ y < 0) ∨ (¬ x < 0 ∧ ¬ y < 0)) : x.fdiv y = ((x.natAbs / y.natAbs : Nat) : Int) := by
 rcases hs with ⟨h1, h2⟩ | ⟨h1, h2⟩
 ·obtain ⟨a, rfl⟩ : ∃ a : Nat, x = -(a : Int) := ⟨x.natAbs, by omega⟩
  obtain ⟨b, rfl⟩ : ∃ b : Nat, y = -(b : Int) := ⟨y.natAbs, by omega⟩
  rw [Int.neg_fdiv_neg, Int.natAbs_neg, Int.natAbs_neg, Int.natAbs_natCast, Int.natAbs_natCast, Int.fdiv_eq_ediv_of_nonneg _ (by omega), Int.natCast_ediv]
 ·obtain ⟨a, rfl⟩ := Int.eq_ofNat_of_zero_le (show 0 ≤ x by omega)
  obtain ⟨b, rfl⟩ := Int.eq_ofNat_of_zero_le (show 0 ≤ y by omega)
  rw [Int.natAbs_natCast, Int.natAbs_natCast, Int.fdiv_eq_ediv_of_nonneg _ (by omega), Int.natCast_ediv]
theorem fdiv_off {x y : Int} (hy : y ≠ 0) (hs : (x < 0 ∧ ¬ y < 0) ∨ (¬ x < 0 ∧ y < 0)) : x.fdiv y = -((x.natAbs / y.natAbs + (if x.natAbs % y.natAbs = 0 then 0 else 1) : Nat) : Int) := by
 have key : ∀ a b : Nat, 0 < b → (-(a : Int)).fdiv (b : Int) = -((a / b + (if a % b = 0 then 0 else 1) : Nat) : Int) := by
  intro a b hb
  rw [Int.fdiv_eq_ediv_of_nonneg _ (by omega)]
  have h1 := Nat.div_add_mod a b
  have h2 := Nat.mod_lt a hb
  have h3 : (a : Int) = (b : Int) * ((a / b : Nat) : Int) + ((a % b : Nat) : Int) := by exact_mod_cast h1.symm
  split
  ·rename_i h
   refine Int.ediv_eq_of_eq_mul_left (by omega) ?_
   rw [h] at h3
   grind
  ·rename_i h
   have h4 : -(a : Int) = ((b : Int) - ((a % b : Nat) : Int)) + (b : Int) * (-((a / b + 1 : Nat) : Int)) := by
    rw [h3]; push_cast; grind
   rw [h4, Int.add_mul_ediv_left _ _ (by omega), Int.ediv_eq_zero_of_lt (by omega) (by omega)]
   omega
 rcases hs with ⟨h1, h2⟩ | ⟨h1, h2⟩
 ·obtain ⟨a, rfl⟩ : ∃ a : Nat, x = -(a : Int) := ⟨x.natAbs, by omega⟩
  obtain ⟨b, rfl⟩ := Int.eq_ofNat_of_zero_le (show 0 ≤ y by omega)
  rw [Int.natAbs_neg, Int.natAbs_natCast, Int.natAbs_natCast]
  exact key a b (by omega)
 ·obtain ⟨a, rfl⟩ := Int.eq_ofNat_of_zero_le (show 0 ≤ x by omega)
  obtain ⟨b, rfl⟩ : ∃ b : Nat, y = -(b : Int) := ⟨y.natAbs, by omega⟩
  rw [Int.natAbs_neg, Int.natAbs_natCast, Int.natAbs_natCast, ← Int.neg_fdiv_neg, Int.neg_neg]
  exact key a b (by omega)
set_option maxRecDepth 100000 in
set_option maxHeartbeats 2000000 in
theorem quot_zero (v u : Value) (x : Int) (L M : Nat) (w : World) (hv : IsI w v x L) (hu : IsI w u 0 M) :
 Calls Tryz.prog 135 #[v, u] w fun e w' => ∃ r, e = .returned r ∧ IntOut w w' r 0 0 := by
 obtain ⟨sl, xs, rfl, h2, h3, h4, h5⟩ := hv
 obtain ⟨tl, ys, rfl, k2, k3, k4, k5⟩ := hu
 obtain ⟨ao, cap, rfl, -⟩ := h5.open_
 obtain ⟨bo, dap, rfl, -⟩ := k5.open_
 have hy0 : ys.length = 0 := (Lim_len_zero k2 k3).2 rfl
 rw [hy0]
 clear h2 h3 h4 h5 k2 k3 k4 k5
 go_enter Tryz.func135, Tryz.ntmps135
 go_wp2_with (go_at_call 68; refine (isZero_raw _ _ _ _ _).mono ?_; rintro e w' ⟨rfl, rfl⟩)
 refine bodyPost_ret (v := .agg #[.bool false, .slice none 0 0]) ?_ rfl ?_
 ·(simp [results, Tryz.results135, go_sem]; done)
 ·refine ⟨_, rfl, IsI.zero _ _, ?_⟩
  repeat (first | exact Below.refl _ _ | refine Below.alloc ?_ (by simp <;> omega) _)
set_option maxRecDepth 100000 in
set_option maxHeartbeats 2000000 in
theorem quot_same (nb : Bool) (ao bo : Option Addr) (cap dap : Nat) (xs ys : List Nat) (w : World) (hx : Own w (.slice ao xs.length cap) xs) (hy : Own w (.slice bo ys.length dap) ys) (lx : Lim xs) (ly : Lim ys) (bx : xs.length ≤ 400000000) (by_ : ys.length ≤ 400000000) (hy0 : 0 < ys.length) :
 Calls Tryz.prog 135 #[.agg #[.bool nb, .slice ao xs.length cap], .agg #[.bool nb, .slice bo ys.length dap]] w fun e w' => ∃ co n ecap, e = .returned (.agg #[.bool false, .slice co n ecap]) ∧ NatOut w w' (.slice co n ecap) (val xs / val ys) xs.length := by
 have H := Hid.mk hx
 have K := Hid.mk hy
 have hyb : ((ys.length : Int) == 0) = false := beq_eq_false_iff_ne.2 (by omega)
 clear hx hy
 go_enter Tryz.func135, Tryz.ntmps135
 go_wp2_with (go_at_call 68; refine (isZero_raw _ _ _ _ _).mono ?_; rintro e w' ⟨rfl, rfl⟩; rw [hyb])
 refine (divAmounts_any _ _ xs ys _ (H.out.below ?_) (K.out.below ?_) lx ly bx by_).mono ?_
 ·repeat (first | exact Below.refl _ _ | refine Below.alloc ?_ (by simp <;> omega) _)
 ·repeat (first | exact Below.refl _ _ | refine Below.alloc ?_ (by simp <;> omega) _)
 rintro e w1 ⟨q, r, rfl, hq, hr⟩
 obtain ⟨co, ecap, zs, rfl, hZ, hb⟩ := hq.shape
 obtain ⟨ro, rcap, ls, rfl, hR, -⟩ := hr.shape
 obtain ⟨hc, hf⟩ := bcell hb
 have hty : Ty w1 (w.heap.size + 2) 79 := Ty.below (Ty.alloc (Ty.at_ _ _ _ (by simp)) _) hb (by simp)
 have hz : w.heap.size + 2 < w1.heap.size := hty.lt
 have HT := Hid.mk hty
 have HB := Hid.mk hb
 clear hty hr hq hb
 go_wp2_with fail
 refine bodyPost_ret (v := .agg #[.bool false, .slice co zs.length ecap]) ?_ rfl ?_
 ·(simp [results, Tryz.results135, go_sem, hc]; done)
 ·refine ⟨_, _, _, rfl, ⟨zs, hZ.out.1, hZ.out.2.1, hZ.out.2.2.1, hZ.out.2.2.2.keep (KU.setCell (KU.setCell (KU.refl _) HT.out (by decide) _) (HT.out.setCell _ _) (by decide) _)⟩, ?_⟩
  refine Below.trans ?_ (((Below.refl _ _).setCell (by simp <;> omega) _).setCell (by simp <;> omega) _)
  refine Below.trans ?_ (HB.out.mono (by simp <;> omega))
  repeat (first | exact Below.refl _ _ | refine Below.drew ?_ | refine Below.alloc ?_ (by simp <;> omega) _)
theorem lit_one (w : World) : Own (w.alloc (.cells #[.int .u32 1] 144)) (.slice (some ⟨w.heap.size, 0, none⟩) 1 1) [1] := by
 have := World.ownsRow_lit (base := 0) (e := 144) (size := 1) w #[.int .u32 1] 1 (Nat.zero_le _) (by simp [maxLen]) rfl
 simpa [Own, lcells] using this
set_option maxRecDepth 100000 in
set_option maxHeartbeats 2000000 in
theorem quot_off (nb : Bool) (ao bo : Option Addr) (cap dap : Nat) (xs ys : List Nat) (w : World) (hx : Own w (.slice ao xs.length cap) xs) (hy : Own w (.slice bo ys.length dap) ys) (lx : Lim xs) (ly : Lim ys) (bx : xs.length ≤ 400000000) (by_ : ys.length ≤ 400000000) (hy0 : 0 < ys.length) (E : Nat) (hE : Hid (E = val xs / val ys + (if val xs % val ys = 0 then 0 else 1))) :
 Calls Tryz.prog 135 #[.agg #[.bool nb, .slice ao xs.length cap], .agg #[.bool (!nb), .slice bo ys.length dap]] w fun e w' => ∃ co n ecap, e = .returned (.agg #[.bool (decide (0 < n)), .slice co n ecap]) ∧ NatOut w w' (.slice co n ecap) E (xs.length + 1) := by
 have H := Hid.mk hx
 have K := Hid.mk hy
 have hyb : ((ys.length : Int) == 0) = false := beq_eq_false_iff_ne.2 (by omega)
 clear hx hy
 cases nb
 all_goals
  try simp only [Bool.not_true]
  try simp only [Bool.not_false]
  go_enter Tryz.func135, Tryz.ntmps135
  go_wp2_with (go_at_call 68; refine (isZero_raw _ _ _ _ _).mono ?_; rintro e w' ⟨rfl, rfl⟩; rw [hyb])
  refine (divAmounts_any _ _ xs ys _ (H.out.below ?_) (K.out.below ?_) lx ly bx by_).mono ?_
  ·repeat (first | exact Below.refl _ _ | refine Below.alloc ?_ (by simp <;> omega) _)
  ·repeat (first | exact Below.refl _ _ | refine Below.alloc ?_ (by simp <;> omega) _)
  rintro e w1 ⟨q, r, rfl, hq, hr⟩
  obtain ⟨co, ecap, zs, rfl, hZ, hb⟩ := hq.shape
  obtain ⟨ro, rcap, ls, rfl, hR, -⟩ := hr.shape
  obtain ⟨hc, hf⟩ := bcell hb
  have hty : Ty w1 (w.heap.size + 2) 79 := Ty.below (Ty.alloc (Ty.at_ _ _ _ (by simp)) _) hb (by simp)
  have hz : w.heap.size + 2 < w1.heap.size := hty.lt
  have hb0 : Below w.heap.size w w1 := Below.trans (by repeat (first | exact Below.refl _ _ | refine Below.alloc ?_ (by simp <;> omega) _)) (hb.mono (by simp <;> omega))
  have hD1 : Duo w1 (w.heap.size + 1 + 1) (.bool false) (.slice none 0 0) := ((Duo.new _ _ _ (by simp)).below ((Below.refl _ _).alloc (Nat.le_refl _) _) (by simp)).below hb (by simp)
  have HD1 := Hid.mk hD1
  clear hD1
  have HT := Hid.mk hty
  have HB := Hid.mk hb0
  have hl0 : ls.length = 0 ↔ val xs % val ys = 0 := by rw [← hR.out.2.1, Lim_zero hR.out.1, List.length_eq_zero_iff]
  have HL0 := Hid.mk hl0
  clear hty hr hq hb hb0 hl0
  by_cases hl : ls.length = 0
  ·have HLL := Hid.mk hl
   have hl2 : decide (0 < ls.length) = false := by simp [hl]
   rw [hl]
   rw [hl] at hR
   clear hl hl2
   go_wp2_with fail
   refine bodyPost_ret (v := .agg #[.bool (decide (0 < zs.length)), .slice co zs.length ecap]) ?_ rfl ?_
   ·(simp [results, Tryz.results135, go_sem, hc]; done)
   ·have e0 := HL0.out.1 HLL.out
    have hE2 := hE.out
    rw [e0, if_pos rfl, Nat.add_zero] at hE2
    rw [hE2]
    refine ⟨_, _, _, rfl, ⟨zs, hZ.out.1, hZ.out.2.1, by have := hZ.out.2.2.1; omega, hZ.out.2.2.2.keep (KU.setCell (KU.setCell (KU.refl _) HT.out (by decide) _) (HT.out.setCell _ _) (by decide) _)⟩, ?_⟩
    exact HB.out.trans (((Below.refl _ _).setCell (by simp <;> omega) _).setCell (by simp <;> omega) _)
  ·have HLL := Hid.mk hl
   have hl2 : 0 < ls.length := by omega
   clear hl
   go_wp2_with fail
   have hb1 := (Below.refl w1.heap.size w1).alloc (Nat.le_refl _) (.cells #[.int .u32 1] 144)
   refine (addAmounts_any _ _ zs [1] _ (hZ.out.2.2.2.below hb1) (lit_one w1) hZ.out.1.1 (by intro x hx; simp at hx; omega) (by have := hZ.out.2.2.1; omega) (by simp)).mono ?_
   rintro e w2 ⟨r2, rfl, hr2⟩
   obtain ⟨co2, ecap2, zs2, rfl, hZ2, hb2⟩ := hr2.shape
   have hb12 := hb1.trans (hb2.mono hb1.size)
   have hw2 := hb12.size
   have hbB := HB.out.trans (hb12.mono HB.out.size)
   have hD : Duo w2 (w.heap.size + 1 + 1) (.bool false) (.slice none 0 0) := HD1.out.below hb12 (by omega)
   obtain ⟨d0, d1, d2, d3⟩ := hD.cells
   have HD := Hid.mk (And.intro hD hbB)
   clear hr2 hb1 hb2 hb12 hD hc hf hbB
   go_wp2_with fail
   obtain ⟨g1, g2, -, -⟩ := (HD.out.1.put (.bool (decide (0 < zs2.length))) (.slice co2 zs2.length ecap2)).cells
   refine bodyPost_ret (v := .agg #[.bool (decide (0 < zs2.length)), .slice co2 zs2.length ecap2]) ?_ rfl ?_
   ·(simp [results, Tryz.results135, go_sem, g1, g2]; done)
   ·have hE2 := hE.out
    rw [if_neg (fun h => HLL.out (HL0.out.2 h))] at hE2
    have a1 := hZ2.out.2.1
    have a2 := hZ2.out.2.2.1
    have a3 := hZ.out.2.1
    have a4 := hZ.out.2.2.1
    have a5 : xs.length ≠ 0 := by have := hR.out.2.2.1; omega
    simp [val] at a1 a2
    refine ⟨_, _, _, rfl, ⟨zs2, hZ2.out.1, by omega, by omega, hZ2.out.2.2.2.keep (KU.setCell (KU.setCell (KU.refl _) HD.out.1.ty (by decide) _) (HD.out.1.ty.setCell _ _) (by decide) _)⟩, ?_⟩
    exact (HD.out.2.setCell (by simp; omega) _).setCell (by simp; omega) _
theorem quot_any (v u : Value) (x y : Int) (L M : Nat) (w : World) (hv : IsI w v x L) (hu : IsI w u y M) (hL : L ≤ 400000000) (hM : M ≤ 400000000) :
 Calls Tryz.prog 135 #[v, u] w fun e w' => ∃ r, e = .returned r ∧ IntOut w w' r (x.fdiv y) (L + 1) := by
 by_cases hy : y = 0
 ·subst hy
  refine (quot_zero v u x L M w hv hu).mono ?_
  rintro e w' ⟨r, rfl, h1, h2⟩
  exact ⟨r, rfl, by rw [Int.fdiv_zero]; exact h1.mono (Nat.zero_le _), h2⟩
 ·obtain ⟨sl, xs, rfl, h2, h3, h4, h5⟩ := hv
  obtain ⟨tl, ys, rfl, k2, k3, k4, k5⟩ := hu
  obtain ⟨ao, cap, rfl, -⟩ := h5.open_
  obtain ⟨bo, dap, rfl, -⟩ := k5.open_
  have hy0 : 0 < ys.length := by have := Lim_len_zero k2 k3; omega
  by_cases hs : (x < 0 ↔ y < 0)
  ·rw [show decide (y < 0) = decide (x < 0) from by simp only [hs]]
   refine (quot_same _ _ _ _ _ xs ys w h5 k5 h2 k2 (by omega) (by omega) hy0).mono ?_
   rintro e w' ⟨co, n, ecap, rfl, hr⟩
   have e1 := fdiv_same (x := x) (y := y) (by omega)
   rw [h3, k3] at hr
   generalize x.natAbs / y.natAbs = q at *
   exact ⟨_, rfl, IntOut.of_nat hr (by rw [e1]; simp) (by rw [e1]; simp) (by omega)⟩
  ·rw [show decide (y < 0) = !decide (x < 0) from by
    by_cases h1 : x < 0 <;> by_cases h2 : y < 0 <;> simp [h1, h2] <;> omega]
   refine (quot_off _ _ _ _ _ xs ys w h5 k5 h2 k2 (by omega) (by omega) hy0 _ (Hid.mk rfl)).mono ?_
   rintro e w' ⟨co, n, ecap, rfl, hr⟩
   have e1 := fdiv_off (x := x) (y := y) hy (by omega)
   rw [h3, k3] at hr
   generalize x.natAbs / y.natAbs + (if x.natAbs % y.natAbs = 0 then 0 else 1) = q at *
   have hn : n = 0 ↔ x.fdiv y = 0 := by
    obtain ⟨⟨zs, a, c, d, e⟩, f⟩ := hr
    obtain ⟨co', ecap', hsl, -⟩ := e.open_
    simp only [Value.slice.injEq] at hsl
    rw [hsl.2.1, List.length_eq_zero_iff, ← Lim_zero a, c, e1]
    omega
   exact ⟨_, rfl, IntOut.of_nat hr (by rw [e1]; simp) (by rw [decide_eq_true_eq]; omega) (by omega)⟩
open Go.RowKit
set_option maxRecDepth 100000 in
set_option maxHeartbeats 400000 in
theorem isBelow_any (v : Value) (z : Int) (L : Nat) (w : World) (h : IsI w v z L) :
 Calls Tryz.prog 96 #[v] w fun e w' => e = .returned (.bool (decide (z < 0))) ∧ Below w.heap.size w w' := by
 obtain ⟨sl, xs, rfl, h2, h3, h4, h5⟩ := h
 obtain ⟨ao, cap, rfl, -⟩ := h5.open_
 clear h2 h3 h4 h5
 obtain ⟨nz, hnz⟩ : ∃ nz, nz = decide (z < 0) := ⟨_, rfl⟩
 rw [← hnz]
 clear hnz
 go_enter Tryz.func96, Tryz.ntmps96
 go_wp2
 go_ret
 exact ⟨rfl, (Below.refl _ _).alloc (Nat.le_refl _) _⟩
set_option maxRecDepth 100000 in
set_option maxHeartbeats 400000 in
theorem isSmaller_any (v u : Value) (x y : Int) (L M : Nat) (w : World) (hv : IsI w v x L) (hu : IsI w u y M) :
 Calls Tryz.prog 132 #[v, u] w fun e w' => e = .returned (.bool (decide (x.natAbs < y.natAbs))) ∧ Below w.heap.size w w' := by
 obtain ⟨sl, xs, rfl, h2, h3, h4, h5⟩ := hv
 obtain ⟨tl, ys, rfl, k2, k3, k4, k5⟩ := hu
 obtain ⟨ao, cap, rfl, -⟩ := h5.open_
 obtain ⟨bo, dap, rfl, -⟩ := k5.open_
 obtain ⟨nx, hnx⟩ : ∃ nx, nx = decide (x < 0) := ⟨_, rfl⟩
 obtain ⟨ny, hny⟩ : ∃ ny, ny = decide (y < 0) := ⟨_, rfl⟩
 rw [← hnx, ← hny, ← h3, ← k3]
 have H := Hid.mk (And.intro h2 h5)
 have K := Hid.mk (And.intro k2 k5)
 obtain ⟨d, hd⟩ : ∃ d, d = decide (val xs < val ys) := ⟨_, rfl⟩
 rw [← hd]
 have HD := Hid.mk hd
 clear h2 h3 h4 h5 k2 k3 k4 k5 hnx hny hd
 go_enter Tryz.func132, Tryz.ntmps132
 go_wp2_with fail
 refine (lessAmount_any _ _ xs ys _ (H.out.2.below ?_) (K.out.2.below ?_) H.out.1 K.out.1).mono ?_
 ·repeat (first | exact Below.refl _ _ | refine Below.drew ?_ | refine Below.alloc ?_ (by simp <;> omega) _)
 ·repeat (first | exact Below.refl _ _ | refine Below.drew ?_ | refine Below.alloc ?_ (by simp <;> omega) _)
 rintro e w0 ⟨rfl, nd, rfl⟩
 rw [← HD.out]
 go_wp2_with fail
 go_ret
 refine ⟨rfl, below_drewN ?_ _⟩
 repeat (first | exact Below.refl _ _ | refine Below.drew ?_ | refine Below.alloc ?_ (by simp <;> omega) _)
set_option maxRecDepth 100000 in
set_option maxHeartbeats 1000000 in
theorem sameAmount_any (v u : Value) (xs ys : List Nat) (w : World) (hv : Own w v xs) (hu : Own w u ys) :
 Calls Tryz.prog 187 #[v, u] w fun e w' => e = .returned (.bool (decide (xs = ys))) ∧ ∃ n, w' = w.drewN n := by
 obtain ⟨ao, cap, rfl, hc, hm, hcell, hnil, _⟩ := hv.open_
 obtain ⟨bo, dap, rfl, hd, hn, hdell, hdil, _⟩ := hu.open_
 clear hv hu hnil hdil
 obtain ⟨D, hD⟩ : ∃ D, D = decide (xs = ys) := ⟨_, rfl⟩
 rw [← hD]
 have HD := Hid.mk hD
 clear hD
 by_cases hl : xs.length = ys.length
 ·have HL := Hid.mk hl
  have hb : ((xs.length : Int) != (ys.length : Int)) = false := by simp [hl]
  clear hl
  go_enter Tryz.func187, Tryz.ntmps187
  go_wp2
  go_loopw [5] (fun i wr => ∃ k : Nat, k ≤ xs.length ∧ i = .int .i64 k ∧ (∃ n, wr = w.drewN n) ∧ Hid (xs.take k = ys.take k)) (fun i _ => xs.length - (intOf i).toNat)
  case atStart => exact ⟨0, Nat.zero_le _, rfl, ⟨0, rfl⟩, Hid.mk (by simp)⟩
  case round =>
   obtain ⟨k, hk, rfl, ⟨n, rfl⟩, HE⟩ := hrel
   by_cases h0 : k < xs.length
   ·obtain ⟨b, rfl, hb1⟩ := hcell k h0
    have hk1 : k < ys.length := by have := HL.out; omega
    obtain ⟨c, rfl, hc1⟩ := hdell k hk1
    obtain ⟨x, hx⟩ : ∃ x, x = xs.getD k 0 := ⟨_, rfl⟩
    obtain ⟨y, hy⟩ : ∃ y, y = ys.getD k 0 := ⟨_, rfl⟩
    rw [← hx] at hb1
    rw [← hy] at hc1
    have HX := Hid.mk hx
    have HY := Hid.mk hy
    clear hx hy hcell hdell
    by_cases hxy : x = y
    ·have hne : ((x : Int) != (y : Int)) = false := by simp [hxy]
     have HXY := Hid.mk hxy
     clear hxy
     go_wp2
     go_quiet (fail)
     go_wp2
     go_roundw
     case rel =>
      refine ⟨k + 1, by omega, by go_num, ⟨_, rfl⟩, Hid.mk ?_⟩
      rw [take_succ_getD xs k h0, take_succ_getD ys k hk1, ← HX.out, ← HY.out, HXY.out, HE.out]
     case measure => simp [intOf]; omega
    ·have hne : ((x : Int) != (y : Int)) = true := by simp; omega
     have HXY := Hid.mk hxy
     clear hxy
     go_wp2
     go_quiet (fail)
     go_wp2
     go_ret
     refine ⟨?_, _, by rw [World.drewN_drewN]⟩
     have : D = false := by
      rw [HD.out]
      refine decide_eq_false fun e => HXY.out ?_
      rw [HX.out, HY.out, e]
     rw [this]; rfl
   ·have h1 : xs.length ≤ k := by omega
    go_wp2
    go_ret
    refine ⟨?_, _, rfl⟩
    have : D = true := by
     rw [HD.out]
     refine decide_eq_true ?_
     have := HE.out
     rwa [List.take_of_length_le h1, List.take_of_length_le (by have := HL.out; omega)] at this
    rw [this]; rfl
 ·have hb : ((xs.length : Int) != (ys.length : Int)) = true := by simp; omega
  have HL := Hid.mk hl
  clear hl
  go_enter Tryz.func187, Tryz.ntmps187
  go_wp2
  go_ret
  have : D = false := by
   rw [HD.out]
   exact decide_eq_false fun e => HL.out (by rw [e])
  exact ⟨by rw [this]; rfl, 0, rfl⟩
theorem val_inj {xs ys : List Nat} (hx : Lim xs) (hy : Lim ys) (h : val xs = val ys) : xs = ys := by
 have hl : xs.length = ys.length := by
  rcases Nat.lt_trichotomy xs.length ys.length with h1 | h1 | h1
  ·have := val_lt_of_length hx.1 hy h1; omega
  ·exact h1
  ·have := val_lt_of_length hy.1 hx h1; omega
 have hlo := hx.1
 have hlo' := hy.1
 clear hx hy
 induction xs generalizing ys with
 | nil => cases ys with
   | nil => rfl
   | cons y s => simp at hl
 | cons x r ih => cases ys with
   | nil => simp at hl
   | cons y s =>
     rw [val_cons, val_cons] at h
     have h1 := hlo x (by simp)
     have h2 := hlo' y (by simp)
     have e1 : x = y := by omega
     have e2 : val r = val s := by omega
     rw [e1, ih e2 (by simpa using hl) (fun z hz => hlo z (by simp [hz])) (fun z hz => hlo' z (by simp [hz]))]
set_option maxRecDepth 100000 in
set_option maxHeartbeats 1000000 in
theorem isSame_any (v u : Value) (x y : Int) (L M : Nat) (w : World) (hv : IsI w v x L) (hu : IsI w u y M) :
 Calls Tryz.prog 128 #[v, u] w fun e w' => e = .returned (.bool (decide (x = y))) ∧ Below w.heap.size w w' := by
 obtain ⟨sl, xs, rfl, h2, h3, h4, h5⟩ := hv
 obtain ⟨tl, ys, rfl, k2, k3, k4, k5⟩ := hu
 obtain ⟨ao, cap, rfl, -⟩ := h5.open_
 obtain ⟨bo, dap, rfl, -⟩ := k5.open_
 have H := Hid.mk h5
 have K := Hid.mk k5
 obtain ⟨D, hD⟩ : ∃ D, D = decide (x = y) := ⟨_, rfl⟩
 rw [← hD]
 by_cases hs : (x < 0 ↔ y < 0)
 ·rw [show decide (y < 0) = decide (x < 0) from by simp only [hs]]
  have hxy : D = decide (xs = ys) := by
   rw [hD, decide_eq_decide]
   constructor
   ·rintro rfl; exact val_inj h2 k2 (by omega)
   ·rintro rfl; omega
  have HD := Hid.mk hxy
  obtain ⟨nx, hnx⟩ : ∃ nx, nx = decide (x < 0) := ⟨_, rfl⟩
  rw [← hnx]
  clear h2 h3 h4 h5 k2 k3 k4 k5 hnx hD hxy hs
  go_enter Tryz.func128, Tryz.ntmps128
  go_wp2_with fail
  refine (sameAmount_any _ _ xs ys _ (H.out.below ?_) (K.out.below ?_)).mono ?_
  ·repeat (first | exact Below.refl _ _ | refine Below.drew ?_ | refine Below.alloc ?_ (by simp <;> omega) _)
  ·repeat (first | exact Below.refl _ _ | refine Below.drew ?_ | refine Below.alloc ?_ (by simp <;> omega) _)
  rintro e w0 ⟨rfl, nd, rfl⟩
  rw [← HD.out]
  go_wp2_with fail
  go_ret
  refine ⟨rfl, below_drewN ?_ _⟩
  repeat (first | exact Below.refl _ _ | refine Below.drew ?_ | refine Below.alloc ?_ (by simp <;> omega) _)
 ·have hD2 : D = false := by rw [hD]; exact decide_eq_false (by rintro rfl; exact hs Iff.rfl)
  rw [hD2]
  obtain ⟨nx, hnx⟩ : ∃ nx, nx = decide (x < 0) := ⟨_, rfl⟩
  rw [show decide (y < 0) = !nx from by
   rw [hnx]
   by_cases h1 : x < 0 <;> by_cases h2 : y < 0 <;> simp [h1, h2] <;> omega, ← hnx]
  clear h2 h3 h4 h5 k2 k3 k4 k5 hnx hD hD2 hs
  cases nx
  all_goals
   try simp only [Bool.not_true]
   try simp only [Bool.not_false]
   go_enter Tryz.func128, Tryz.ntmps128
   go_wp2_with fail
   go_ret
   refine ⟨rfl, ?_⟩
   repeat (first | exact Below.refl _ _ | refine Below.drew ?_ | refine Below.alloc ?_ (by simp <;> omega) _)
open Go.RowKit
def Has (z : Int) (L : Nat) : Prop := ∃ w v, IsI w v z L
theorem Has.tighten {z : Int} {L M : Nat} {w : World} {v : Value} (h : Has z L) (hx : IsI w v z M) : IsI w v z L := by
 obtain ⟨w0, v0, sl0, ys, -, k2, k3, k4, -⟩ := h
 obtain ⟨sl, xs, h1, h2, h3, h4, h5⟩ := hx
 exact ⟨sl, xs, h1, h2, h3, Nat.le_trans (len_of_val k2 h2 (by omega)) k4, h5⟩
theorem Grid.has {w : World} {sl : Value} {n L : Nat} {zs : List Int} (h : Grid w sl n zs L) (i : Nat) (hi : i < n) : Has (zs.getD i 0) L := by
 obtain ⟨h0, cs, h1, h2⟩ := h
 obtain ⟨a, b, e1, e2, e3⟩ := h2 i hi
 exact ⟨w, _, e3⟩
theorem MatO.has {w : World} {p o g r c L : Nat} {zs : List Int} (h : MatO w p o g r c zs L) {i j : Nat} (hi : i < r) (hj : j < c) : Has (ent c zs i j) L := h.grid.has _ (idx_lt hi hj)
def PartIn (W : World) (z : Int) (L : Nat) (p : Value) (wx : World) : Prop := ∃ (pb : Nat) (nq : Bool) (qo : Option Addr) (mq qcap : Nat), p = .pointer (some ⟨pb, 0, none⟩) ∧ W.heap.size ≤ pb ∧ Duo wx pb (.bool nq) (.slice qo mq qcap) ∧ IsI wx (.agg #[.bool nq, .slice qo mq qcap]) z L ∧ Below W.heap.size W wx
theorem Duo.alloc_new (w : World) : Duo (w.alloc (.cells #[.bool false, .slice none 0 0] 79)) w.heap.size (.bool false) (.slice none 0 0) := Duo.new w _ _ rfl
set_option maxRecDepth 100000 in
theorem sub_any (v u : Value) (x y : Int) (L M : Nat) (w : World) (hv : IsI w v x L) (hu : IsI w u y M) (hL : L ≤ 1000000000) (hM : M ≤ 1000000000) :
 Calls Tryz.prog 145 #[v, u] w fun e w' => ∃ r, e = .returned r ∧ IntOut w w' r (x - y) (max L M + 1) := by
 obtain ⟨nb, ao, n, cap, rfl⟩ := hv.shape
 obtain ⟨nb', bo, n', cap', rfl⟩ := hu.shape
 have H := Hid.mk (And.intro hv hu)
 clear hv hu
 go_enter Tryz.func145, Tryz.ntmps145
 go_wp2_with fail
 obtain ⟨W0, hW0⟩ : ∃ W0, W0 = ((w.alloc (.cells #[.bool nb, .slice ao n cap] 79)).alloc (.cells #[.bool nb', .slice bo n' cap'] 79)).alloc (.cells #[.bool false, .slice none 0 0] 79) := ⟨_, rfl⟩
 have hz0 : W0.heap.size = w.heap.size + 3 := by rw [hW0]; simp
 have hb0 : Below w.heap.size w W0 := by rw [hW0]; repeat (first | exact Below.refl _ _ | refine Below.alloc ?_ (by simp <;> omega) _)
 have hA : Duo W0 w.heap.size (.bool nb) (.slice ao n cap) := by
  rw [hW0]
  exact ((Duo.new w _ _ rfl).below ((Below.refl _ _).alloc (Nat.le_refl _) _) (by simp)).below ((Below.refl _ _).alloc (Nat.le_refl _) _) (by simp; omega)
 have hR : Duo W0 (w.heap.size + 1 + 1) (.bool false) (.slice none 0 0) := by rw [hW0]; exact Duo.new _ _ _ (by simp)
 rw [← hW0]
 have F := Hid.mk (And.intro hA (And.intro hR hb0))
 clear hA hR hb0 hW0
 refine (neg_any _ y M _ (H.out.2.below F.out.2.2)).mono ?_
 rintro e w1 ⟨r1, rfl, hr1, hb1⟩
 obtain ⟨nb1, so1, n1, cp1, rfl⟩ := hr1.shape
 have hb11 := (Below.refl w1.heap.size w1).alloc (Nat.le_refl _) (.cells #[.bool nb1, .slice so1 n1 cp1] 79)
 have hw1 := hb1.size
 have hbA := hb1.trans (hb11.mono hw1)
 obtain ⟨a0, a1, -, -⟩ := (F.out.1.below hbA (by omega)).cells
 have K1 := Hid.mk (And.intro hbA (hr1.below hb11))
 clear hr1 hb1 hb11 hbA
 go_wp2_with fail
 refine (add_any _ _ x (-y) L M _ ((H.out.1.below F.out.2.2).below K1.out.1) K1.out.2 hL hM).mono ?_
 rintro e w2 ⟨r2, rfl, hr2, hb2⟩
 obtain ⟨nb2, so2, n2, cp2, rfl⟩ := hr2.shape
 have hbB : Below W0.heap.size W0 w2 := K1.out.1.trans (hb2.mono K1.out.1.size)
 have hR2 := F.out.2.1.below hbB (by omega)
 obtain ⟨s0, s1, s2, s3⟩ := hR2.cells
 have K2 := Hid.mk (And.intro hr2 (And.intro hR2 (F.out.2.2.trans (hbB.mono (by omega)))))
 clear hr2 hb2 hbB hR2 a0 a1
 go_wp2_with fail
 obtain ⟨g1, g2, -, -⟩ := (K2.out.2.1.put (.bool nb2) (.slice so2 n2 cp2)).cells
 refine bodyPost_ret (v := .agg #[.bool nb2, .slice so2 n2 cp2]) ?_ rfl ?_
 ·(simp [results, Tryz.results145, go_sem, g1, g2]; done)
 ·refine ⟨_, rfl, ?_, (K2.out.2.2.setCell (by simp; omega) _).setCell (by simp; omega) _⟩
  have := K2.out.1.duo K2.out.2.1 (.bool nb2) (.slice so2 n2 cp2)
  rwa [← Int.sub_eq_add_neg] at this
set_option maxRecDepth 100000 in
set_option maxHeartbeats 4000000 in
theorem takeRow_any (p o g r c a b : Nat) (zs : List Int) (L M : Nat) (x : Value) (z : Int) (w : World) (hm : MatO w p o g r c zs L) (hx : IsI w x z M) (hL : L ≤ 200000000) (hM : M ≤ 200000000) (hpg : p ≠ g) (ha : a < r) (hb : b < r) (hab : a ≠ b) :
 Calls Tryz.prog 108 #[.pointer (some ⟨p, o, none⟩), .int .i64 a, .int .i64 b, x] w fun e w' => e = .returned (.tuple #[]) ∧ StepO w w' p o g r c (fun i j => if i = a then ent c zs a j - ent c zs b j * z else ent c zs i j) (L + M + 1) := by
 have H := Hid.mk (And.intro (hm.mono (show L ≤ L + M + 1 by omega)) (And.intro hm hx))
 have hr := hm.hr
 have hc := hm.hc
 obtain ⟨nbx, sox, nx, cpx, rfl⟩ := hx.shape
 obtain ⟨F, hF⟩ : ∃ F : Nat → Nat → Int, F = fun i j => if i = a then ent c zs a j - ent c zs b j * z else ent c zs i j := ⟨_, rfl⟩
 rw [← hF]
 have HF := Hid.mk hF
 clear hm hF hx
 go_enter Tryz.func108, Tryz.ntmps108
 go_wp2_with fail
 obtain ⟨W1, hW1⟩ : ∃ W1, W1 = w.alloc (.cells #[.bool nbx, .slice sox nx cpx] 79) := ⟨_, rfl⟩
 have hb1 : Below w.heap.size w W1 := by rw [hW1]; exact (Below.refl _ _).alloc (Nat.le_refl _) _
 have hD1 : Duo W1 w.heap.size (.bool nbx) (.slice sox nx cpx) := by rw [hW1]; exact Duo.new w _ _ rfl
 have hs1 : W1.heap.size = w.heap.size + 1 := by rw [hW1]; simp
 have hgw : g < w.heap.size := H.out.1.glt
 rw [← hW1]
 have F1 := Hid.mk (And.intro hb1 (And.intro hD1 (H.out.2.2.below hb1)))
 clear hW1 hb1 hD1
 go_loopw [8] (fun i wr => ∃ (e : Nat) (ms : List Int), e ≤ c ∧ i = .int .i64 e ∧ Hid (MatO wr p o g r c ms (L + M + 1) ∧ W1.grownBy wr (some g) ∧ KU W1 wr ∧ ∀ i j, i < r → j < c → ent c ms i j = if j < e then F i j else ent c zs i j)) (fun i _ => c - (intOf i).toNat)
 case atStart => exact ⟨0, zs, Nat.zero_le _, rfl, Hid.mk ⟨H.out.1.later F1.out.1, World.grownBy.refl _ _, KU.refl _, fun i j _ _ => by simp⟩⟩
 case round =>
  obtain ⟨e, ms, he, rfl, HI⟩ := hrel
  obtain ⟨q0, q1, q2⟩ := HI.out.1.tri
  have hgl := HI.out.1.glt
  have hpl := HI.out.1.plt
  have hwr := HI.out.2.1.size
  have hB1 : Duo wr w.heap.size (.bool nbx) (.slice sox nx cpx) := by unfold Duo; rw [HI.out.2.1.block _ (by omega) (by simp; omega)]; exact F1.out.2.1
  have hI1 := F1.out.2.2.keep HI.out.2.2.1
  have K := Hid.mk (And.intro hB1 hI1)
  clear hB1 hI1
  by_cases hec : e < c
  ·have hei : (e : Int) < (c : Int) := by omega
   have HEA : Hid (Has (ms.getD (a * c + e) 0) L ∧ Has (ms.getD (b * c + e) 0) L ∧ ms.getD (a * c + e) 0 = ent c zs a e ∧ ms.getD (b * c + e) 0 = ent c zs b e) := Hid.mk (by
    have h1 := HI.out.2.2.2 a e ha hec
    have h2 := HI.out.2.2.2 b e hb hec
    rw [if_neg (Nat.lt_irrefl e)] at h1 h2
    have h3 : ms.getD (a * c + e) 0 = ent c zs a e := h1
    have h4 : ms.getD (b * c + e) 0 = ent c zs b e := h2
    rw [h3, h4]
    exact ⟨H.out.2.1.has ha hec, H.out.2.1.has hb hec, rfl, rfl⟩)
   have HC1 := Hid.mk (show ∀ w', Below wr.heap.size wr w' → w'.cell? ⟨p, o, none⟩ = some (.int .i64 r) ∧ w'.cell? ⟨p, o + 1, none⟩ = some (.int .i64 c) ∧ w'.cell? ⟨p, o + 2, none⟩ = some (.slice (some ⟨g, 0, none⟩) (r * c) (r * c)) ∧ w'.cell? ⟨w.heap.size, 0, none⟩ = some (.bool nbx) ∧ w'.cell? ⟨w.heap.size, 1, none⟩ = some (.slice sox nx cpx) from
    fun w' hb => ⟨(HI.out.1.tri.later hb).1, (HI.out.1.tri.later hb).2.1, (HI.out.1.tri.later hb).2.2, cell_later hb K.out.1.cells.1, cell_later hb K.out.1.cells.2.1⟩)
   go_upto_region 4 with fail
   go_cut [9] from 19 to 27 (fun pv wx => PartIn wr ((ms.getD (b * c + e) 0) * z) (L + M) pv wx)
   case first =>
    go_region_held3 (fun w' => w'.cell? ⟨p, o, none⟩ = some (.int .i64 r) ∧ w'.cell? ⟨p, o + 1, none⟩ = some (.int .i64 c) ∧ w'.cell? ⟨p, o + 2, none⟩ = some (.slice (some ⟨g, 0, none⟩) (r * c) (r * c)) ∧ w'.cell? ⟨w.heap.size, 0, none⟩ = some (.bool nbx) ∧ w'.cell? ⟨w.heap.size, 1, none⟩ = some (.slice sox nx cpx))
     (exact HC1.out _ (by first | exact hbW6 | exact hbW6.alloc hbW6.size _ | exact (hbW6.setCell (Nat.le_refl _) _).setCell (Nat.le_refl _) _ | exact (hbW6.setCell hw5s _).setCell hw5s _ | exact hbW5 | exact hbW5.alloc hbW5.size _ | exact (Below.refl _ _).drew | exact ((Below.refl _ _).alloc (Nat.le_refl _) _).drew))
     (first
       | (go_at_call 64; refine (at_in _ r c b e ms (L + M + 1) _ (HI.out.1.isM.below ((Below.refl _ _).drew)) (by assumption) hec).mono ?_; rintro e9 w5 ⟨x5, rfl, hx5, hb5⟩; replace hx5 := HEA.out.2.1.tighten hx5; obtain ⟨nb5, so5, n5, cp5, rfl⟩ := hx5.shape; have hbW5 : Below wr.heap.size wr w5 := ((Below.refl _ _).drew).trans hb5; clear hb5)
       | (go_at_call 64; refine (at_in _ r c b e ms (L + M + 1) _ (HI.out.1.isM.below (((Below.refl _ _).alloc (Nat.le_refl _) _).drew)) (by assumption) hec).mono ?_; rintro e9 w5 ⟨x5, rfl, hx5, hb5⟩; replace hx5 := HEA.out.2.1.tighten hx5; obtain ⟨nb5, so5, n5, cp5, rfl⟩ := hx5.shape; have hbW5 : Below wr.heap.size wr w5 := (((Below.refl _ _).alloc (Nat.le_refl _) _).drew).trans (hb5.mono (by simp)); have hD5 : Duo w5 wr.heap.size (.bool false) (.slice none 0 0) := Duo.below (Duo.drew (Duo.alloc_new wr)) hb5 (by simp); clear hb5)
       | (go_at_call 65; refine (mul_any _ _ (ms.getD (b * c + e) 0) z L M _ hx5 (K.out.2.below hbW5) (by omega) (by omega)).mono ?_; rintro e9 w6 ⟨x6, rfl, hx6, hb6⟩; obtain ⟨nb6, so6, n6, cp6, rfl⟩ := hx6.shape; have hbW6 : Below wr.heap.size wr w6 := hbW5.trans (hb6.mono hbW5.size); have hD6 : Duo w6 wr.heap.size (.bool false) (.slice none 0 0) := hD5.below hb6 (Array.getElem?_eq_some_iff.1 hD5).1; have hD6c := hD6.cells; clear hb6)
       | (go_at_call 65; refine (mul_any _ _ (ms.getD (b * c + e) 0) z L M _ hx5 (K.out.2.below hbW5) (by omega) (by omega)).mono ?_; rintro e9 w6 ⟨x6, rfl, hx6, hb6⟩; obtain ⟨nb6, so6, n6, cp6, rfl⟩ := hx6.shape; have hbW6 : Below wr.heap.size wr w6 := hbW5.trans (hb6.mono hbW5.size); clear hb6)
       | (go_at_call 65; refine (mul_any _ _ (ms.getD (b * c + e) 0) z L M _ (hx5.below ((Below.refl w5.heap.size w5).alloc (Nat.le_refl _) _)) ((K.out.2.below hbW5).below ((Below.refl w5.heap.size w5).alloc (Nat.le_refl _) _)) (by omega) (by omega)).mono ?_; rintro e9 w6 ⟨x6, rfl, hx6, hb6⟩; obtain ⟨nb6, so6, n6, cp6, rfl⟩ := hx6.shape; have hbW6 : Below wr.heap.size wr w6 := hbW5.trans ((((Below.refl w5.heap.size w5).alloc (Nat.le_refl _) _).trans (hb6.mono (by simp))).mono hbW5.size); have hw5s := hbW5.size; have hD6 : Duo w6 w5.heap.size (.bool false) (.slice none 0 0) := Duo.below (Duo.alloc_new w5) hb6 (by simp); have hD6c := hD6.cells; clear hb6))
    all_goals
     go_wp2_with fail
     go_meet
     case rel =>
      first
       | exact ⟨_, _, _, _, _, rfl, hbW6.size, Duo.new _ _ _ rfl, hx6.below ((Below.refl _ _).alloc (Nat.le_refl _) _), hbW6.alloc hbW6.size _⟩
       | exact ⟨_, _, _, _, _, rfl, Nat.le_refl _, hD6.put _ _, hx6.duo hD6 _ _, (hbW6.setCell (Nat.le_refl _) _).setCell (Nat.le_refl _) _⟩
       | exact ⟨_, _, _, _, _, rfl, hw5s, hD6.put _ _, hx6.duo hD6 _ _, (hbW6.setCell hw5s _).setCell hw5s _⟩
   case rest =>
    rename World => w3
    obtain ⟨pb3, nb3, so3, n3, cp3, rfl, hpb3, hD3, hI3, hb3⟩ := hcut
    have hw3 := hb3.size
    have K3 := Hid.mk (And.intro hD3 (And.intro hI3 hb3))
    have HC2 := Hid.mk (show ∀ w', Below w3.heap.size w3 w' → w'.cell? ⟨p, o, none⟩ = some (.int .i64 r) ∧ w'.cell? ⟨p, o + 1, none⟩ = some (.int .i64 c) ∧ w'.cell? ⟨p, o + 2, none⟩ = some (.slice (some ⟨g, 0, none⟩) (r * c) (r * c)) ∧ w'.cell? ⟨pb3, 0, none⟩ = some (.bool nb3) ∧ w'.cell? ⟨pb3, 1, none⟩ = some (.slice so3 n3 cp3) from
     fun w' hb => ⟨((HI.out.1.tri.later hb3).later hb).1, ((HI.out.1.tri.later hb3).later hb).2.1, ((HI.out.1.tri.later hb3).later hb).2.2, cell_later hb hD3.cells.1, cell_later hb hD3.cells.2.1⟩)
    clear hD3 hI3 hb3 q0 q1 q2
    go_upto_region 5 with fail
    go_cut [10] from 27 to 35 (fun pv wx => PartIn w3 ((ms.getD (a * c + e) 0) - (ms.getD (b * c + e) 0) * z) (L + M + 1) pv wx)
    case first =>
     go_region_held3 (fun w' => w'.cell? ⟨p, o, none⟩ = some (.int .i64 r) ∧ w'.cell? ⟨p, o + 1, none⟩ = some (.int .i64 c) ∧ w'.cell? ⟨p, o + 2, none⟩ = some (.slice (some ⟨g, 0, none⟩) (r * c) (r * c)) ∧ w'.cell? ⟨pb3, 0, none⟩ = some (.bool nb3) ∧ w'.cell? ⟨pb3, 1, none⟩ = some (.slice so3 n3 cp3))
      (exact HC2.out _ (by first | exact hbW6 | exact hbW6.alloc hbW6.size _ | exact (hbW6.setCell (Nat.le_refl _) _).setCell (Nat.le_refl _) _ | exact (hbW6.setCell hw5s _).setCell hw5s _ | exact hbW5 | exact hbW5.alloc hbW5.size _ | exact (Below.refl _ _).drew | exact ((Below.refl _ _).alloc (Nat.le_refl _) _).drew))
      (first
        | (go_at_call 64; refine (at_in _ r c a e ms (L + M + 1) _ ((HI.out.1.isM.below K3.out.2.2).below ((Below.refl _ _).drew)) (by assumption) hec).mono ?_; rintro e9 w5 ⟨x5, rfl, hx5, hb5⟩; replace hx5 := HEA.out.1.tighten hx5; obtain ⟨nb5, so5, n5, cp5, rfl⟩ := hx5.shape; have hbW5 : Below w3.heap.size w3 w5 := ((Below.refl _ _).drew).trans hb5; clear hb5)
        | (go_at_call 64; refine (at_in _ r c a e ms (L + M + 1) _ ((HI.out.1.isM.below K3.out.2.2).below (((Below.refl _ _).alloc (Nat.le_refl _) _).drew)) (by assumption) hec).mono ?_; rintro e9 w5 ⟨x5, rfl, hx5, hb5⟩; replace hx5 := HEA.out.1.tighten hx5; obtain ⟨nb5, so5, n5, cp5, rfl⟩ := hx5.shape; have hbW5 : Below w3.heap.size w3 w5 := (((Below.refl _ _).alloc (Nat.le_refl _) _).drew).trans (hb5.mono (by simp)); have hD5 : Duo w5 w3.heap.size (.bool false) (.slice none 0 0) := Duo.below (Duo.drew (Duo.alloc_new w3)) hb5 (by simp); clear hb5)
        | (go_at_call 145; refine (sub_any _ _ (ms.getD (a * c + e) 0) ((ms.getD (b * c + e) 0) * z) L (L + M) _ hx5 (K3.out.2.1.below hbW5) (by omega) (by omega)).mono ?_; rintro e9 w6 ⟨x6, rfl, hx6, hb6⟩; obtain ⟨nb6, so6, n6, cp6, rfl⟩ := hx6.shape; replace hx6 := hx6.mono (show max L (L + M) + 1 ≤ L + M + 1 by omega); have hbW6 : Below w3.heap.size w3 w6 := hbW5.trans (hb6.mono hbW5.size); have hD6 : Duo w6 w3.heap.size (.bool false) (.slice none 0 0) := hD5.below hb6 (Array.getElem?_eq_some_iff.1 hD5).1; have hD6c := hD6.cells; clear hb6)
        | (go_at_call 145; refine (sub_any _ _ (ms.getD (a * c + e) 0) ((ms.getD (b * c + e) 0) * z) L (L + M) _ hx5 (K3.out.2.1.below hbW5) (by omega) (by omega)).mono ?_; rintro e9 w6 ⟨x6, rfl, hx6, hb6⟩; obtain ⟨nb6, so6, n6, cp6, rfl⟩ := hx6.shape; replace hx6 := hx6.mono (show max L (L + M) + 1 ≤ L + M + 1 by omega); have hbW6 : Below w3.heap.size w3 w6 := hbW5.trans (hb6.mono hbW5.size); clear hb6)
        | (go_at_call 145; refine (sub_any _ _ (ms.getD (a * c + e) 0) ((ms.getD (b * c + e) 0) * z) L (L + M) _ (hx5.below ((Below.refl w5.heap.size w5).alloc (Nat.le_refl _) _)) ((K3.out.2.1.below hbW5).below ((Below.refl w5.heap.size w5).alloc (Nat.le_refl _) _)) (by omega) (by omega)).mono ?_; rintro e9 w6 ⟨x6, rfl, hx6, hb6⟩; obtain ⟨nb6, so6, n6, cp6, rfl⟩ := hx6.shape; replace hx6 := hx6.mono (show max L (L + M) + 1 ≤ L + M + 1 by omega); have hbW6 : Below w3.heap.size w3 w6 := hbW5.trans ((((Below.refl w5.heap.size w5).alloc (Nat.le_refl _) _).trans (hb6.mono (by simp))).mono hbW5.size); have hw5s := hbW5.size; have hD6 : Duo w6 w5.heap.size (.bool false) (.slice none 0 0) := Duo.below (Duo.alloc_new w5) hb6 (by simp); have hD6c := hD6.cells; clear hb6))
     all_goals
      go_wp2_with fail
      go_meet
      case rel =>
       first
        | exact ⟨_, _, _, _, _, rfl, hbW6.size, Duo.new _ _ _ rfl, hx6.below ((Below.refl _ _).alloc (Nat.le_refl _) _), hbW6.alloc hbW6.size _⟩
        | exact ⟨_, _, _, _, _, rfl, Nat.le_refl _, hD6.put _ _, hx6.duo hD6 _ _, (hbW6.setCell (Nat.le_refl _) _).setCell (Nat.le_refl _) _⟩
        | exact ⟨_, _, _, _, _, rfl, hw5s, hD6.put _ _, hx6.duo hD6 _ _, (hbW6.setCell hw5s _).setCell hw5s _⟩
    case rest =>
     rename World => w4
     obtain ⟨pb4, nb4, so4, n4, cp4, rfl, hpb4, hD4, hI4, hb4⟩ := hcut
     have hw4 := hb4.size
     have hb34 : Below wr.heap.size wr w4 := K3.out.2.2.trans (hb4.mono hw3)
     obtain ⟨y0, y1, -, -⟩ := hD4.cells
     have K4 := Hid.mk (And.intro hb34 hI4)
     clear hD4 hI4 hb4 hb34
     go_wp2_with fail
     refine (set_m p o g r c a e ms (L + M + 1) _ _ _ (HI.out.1.later K4.out.1) hpg K4.out.2 ha hec).mono ?_
     rintro e9 w8 ⟨rfl, hM8, hgr8, hku8⟩
     have K8 := Hid.mk (And.intro hM8 (And.intro (grown_trans (grown_below HI.out.2.1 K4.out.1) hgr8) ((HI.out.2.2.1.trans (KU.of_below K4.out.1)).trans hku8)))
     clear hM8 hgr8 hku8 y0 y1
     go_wp2_with fail
     go_roundw
     case measure => simp [intOf]; omega
     case rel =>
      refine ⟨e + 1, _, by omega, by go_num, Hid.mk ⟨K8.out.1, K8.out.2.1, K8.out.2.2, fun i j hi hj => ?_⟩⟩
      rw [ent_set ms r c HI.out.1.len a e i j _ ha hec hj]
      have h1 := HI.out.2.2.2 i j hi hj
      by_cases hij : i = a ∧ j = e
      ·obtain ⟨rfl, rfl⟩ := hij
       rw [if_pos ⟨rfl, rfl⟩, if_pos (Nat.lt_succ_self j), HF.out, HEA.out.2.2.1, HEA.out.2.2.2]
       exact (if_pos rfl).symm
      ·rw [if_neg hij, h1]
       by_cases hje : j < e
       ·rw [if_pos hje, if_pos (by omega)]
       ·rw [if_neg hje]
        by_cases hj2 : j < e + 1
        ·rw [if_pos hj2, HF.out]
         show _ = if i = a then _ else _
         rw [if_neg (fun hia => hij ⟨hia, by omega⟩)]
        ·rw [if_neg hj2]
  ·have hei : ¬ (e : Int) < (c : Int) := by omega
   have hee : e = c := by omega
   have HEE := Hid.mk hee
   clear hee
   go_wp2_with fail
   go_end0
   refine ⟨rfl, ⟨ms, HI.out.1, fun i j hi hj => ?_⟩, grown_trans (grown_below (World.grownBy.refl _ _) F1.out.1) HI.out.2.1⟩
   rw [HI.out.2.2.2 i j hi hj, if_pos (by have := HEE.out; omega)]
open Go.RowKit
end Go.Proofs.YtfjbijpagaipnabGreatDoor
