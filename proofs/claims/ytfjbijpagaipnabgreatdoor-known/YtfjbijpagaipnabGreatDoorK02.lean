import Derived.Test.YtfjbijpagaipnabGreatDoorK01
import Derived.Deep.QuietTactic
import Derived.BigQuiet
import Derived.Deep.RegionWith
namespace Go.Proofs.YtfjbijpagaipnabGreatDoor
open Go.RowKit
theorem drop_all_eq {xs ys : List Nat} (h : xs.drop 0 = ys.drop 0) : xs = ys := by simpa using h
set_option maxHeartbeats 400000 in
theorem lessAmount_any (v u : Value) (xs ys : List Nat) (w : World) (hv : Own w v xs) (hu : Own w u ys) (lx : Lim xs) (ly : Lim ys) :
 Calls Tryz.prog 102 #[v, u] w fun e w' => e = .returned (.bool (decide (val xs < val ys))) ∧ ∃ n, w' = w.drewN n := by
 obtain ⟨ao, cap, rfl, hc, hm, hcell, hnil, _⟩ := hv.open_
 obtain ⟨bo, dap, rfl, hd, hn, hdell, hdil, _⟩ := hu.open_
 clear hv hu hnil hdil
 by_cases hl : xs.length = ys.length
 ·have HL := Hid.mk hl
  have hb : ((xs.length : Int) != (ys.length : Int)) = false := by simp [hl]
  clear hl
  go_enter Tryz.func102, Tryz.ntmps102
  go_wp2
  go_loopw [5] (fun i wr => ∃ k : Nat, k ≤ xs.length ∧ i = .int .i64 ((k : Int) - 1) ∧ (∃ n, wr = w.drewN n) ∧ Hid (xs.drop k = ys.drop k)) (fun i _ => (intOf i + 1).toNat)
  case atStart => exact ⟨xs.length, Nat.le_refl _, rfl, ⟨0, rfl⟩, by rw [show xs.drop xs.length = [] from by simp, show ys.drop xs.length = [] from by rw [HL.out]; simp]; rfl⟩
  case round =>
   obtain ⟨k, hk, rfl, ⟨n, rfl⟩, HD⟩ := hrel
   by_cases h0 : k = 0
   ·subst h0
    go_wp2
    go_ret
    have := drop_all_eq HD.out
    exact ⟨by rw [this]; simp, n, rfl⟩
   ·obtain ⟨b, rfl, hb1⟩ := hcell (k - 1) (by omega)
    obtain ⟨c, rfl, hc1⟩ := hdell (k - 1) (by have := HL.out; omega)
    have hk1 : k - 1 < ys.length := by have := HL.out; omega
    obtain ⟨x, hx⟩ : ∃ x, x = xs.getD (k - 1) 0 := ⟨_, rfl⟩
    obtain ⟨y, hy⟩ : ∃ y, y = ys.getD (k - 1) 0 := ⟨_, rfl⟩
    rw [← hx] at hb1
    rw [← hy] at hc1
    have HX := Hid.mk hx
    have HY := Hid.mk hy
    clear hx hy hcell hdell
    by_cases hxy : x = y
    ·have hne : ((x : Int) != (y : Int)) = false := by simp [hxy]
     have HXY := Hid.mk hxy
     clear hxy
     go_wp2
     go_quiet (fail)
     go_wp2
     go_roundw
     case rel =>
      refine ⟨k - 1, by omega, by go_num, ⟨_, rfl⟩, Hid.mk ?_⟩
      rw [drop_getD xs (k - 1) (by omega), drop_getD ys (k - 1) hk1, ← HX.out, ← HY.out, HXY.out, show k - 1 + 1 = k from by omega, HD.out]
     case measure => simp [intOf]; omega
    ·have hne : ((x : Int) != (y : Int)) = true := by simp; omega
     have HXY := Hid.mk hxy
     clear hxy
     go_wp2
     go_quiet (fail)
     go_wp2
     go_quiet (fail)
     go_wp2
     go_ret
     refine ⟨?_, _, by rw [World.drewN_drewN, World.drewN_drewN]⟩
     have h1 := HX.out
     have h2 := HY.out
     have h3 := HXY.out
     have h4 : xs.drop (k - 1 + 1) = ys.drop (k - 1 + 1) := by rw [show k - 1 + 1 = k from by omega]; exact HD.out
     by_cases hlt : x < y
     ·have := val_cmp lx.1 HL.out (k - 1) (by omega) h4 (by omega)
      simp [hlt, this]
     ·have := val_cmp ly.1 HL.out.symm (k - 1) hk1 h4.symm (by omega)
      simp [hlt, show ¬ val xs < val ys from by omega]
 ·have hb : ((xs.length : Int) != (ys.length : Int)) = true := by simp; omega
  have HL := Hid.mk hl
  clear hl
  go_enter Tryz.func102, Tryz.ntmps102
  go_wp2
  go_ret
  refine ⟨?_, 0, rfl⟩
  have := HL.out
  by_cases hlt : xs.length < ys.length
  ·have := val_lt_of_length lx.1 ly hlt
   simp [hlt, this]
  ·have := val_lt_of_length ly.1 lx (by omega)
   simp [hlt, show ¬ val xs < val ys from by omega]
open Go.RowKit
def IsI (w : World) (v : Value) (z : Int) (L : Nat) : Prop := ∃ sl xs, v = .agg #[.bool (decide (z < 0)), sl] ∧ Lim xs ∧ val xs = z.natAbs ∧ xs.length ≤ L ∧ Own w sl xs
theorem IsI.below {w w' : World} {v : Value} {z : Int} {L : Nat} (h : IsI w v z L) (hb : Below w.heap.size w w') : IsI w' v z L := by
 obtain ⟨sl, xs, h1, h2, h3, h4, h5⟩ := h
 exact ⟨sl, xs, h1, h2, h3, h4, h5.below hb⟩
theorem IsI.keep {w w' : World} {v : Value} {z : Int} {L : Nat} (h : IsI w v z L) (hb : KU w w') : IsI w' v z L := by
 obtain ⟨sl, xs, h1, h2, h3, h4, h5⟩ := h
 exact ⟨sl, xs, h1, h2, h3, h4, h5.keep hb⟩
theorem IsI.mono {w : World} {v : Value} {z : Int} {L M : Nat} (h : IsI w v z L) (hLM : L ≤ M) : IsI w v z M := by
 obtain ⟨sl, xs, h1, h2, h3, h4, h5⟩ := h
 exact ⟨sl, xs, h1, h2, h3, by omega, h5⟩
theorem IsI.mk' {w : World} {b : Bool} {sl : Value} {z : Int} {L : Nat} {xs : List Nat} (hb : b = true ↔ z < 0) (h2 : Lim xs) (h3 : val xs = z.natAbs) (h4 : xs.length ≤ L) (h5 : Own w sl xs) : IsI w (.agg #[.bool b, sl]) z L := by
 refine ⟨sl, xs, ?_, h2, h3, h4, h5⟩
 rw [show b = decide (z < 0) from by rw [Bool.eq_iff_iff]; simpa using hb]
theorem neg_sign {n : Nat} {z : Int} (h : n = 0 ↔ z = 0) (h0 : ¬ z < 0) : (!((n : Int) == 0)) = true ↔ -z < 0 := by
 rw [Bool.not_eq_true', beq_eq_false_iff_ne]
 omega
theorem IsI.zero (w : World) (L : Nat) : IsI w (.agg #[.bool false, .slice none 0 0]) 0 L := ⟨_, [], rfl, ⟨Lo_nil, .inl rfl⟩, rfl, Nat.zero_le _, Own.nil w⟩
theorem Lim_len_zero {xs : List Nat} {z : Int} (h : Lim xs) (hv : val xs = z.natAbs) : xs.length = 0 ↔ z = 0 := by
 have := Lim_zero h
 rw [hv] at this
 rw [List.length_eq_zero_iff, ← this]
 omega
set_option maxHeartbeats 400000 in
theorem isZero_raw (nb : Bool) (ao : Option Addr) (n cap : Nat) (w : World) :
 Calls Tryz.prog 68 #[.agg #[.bool nb, .slice ao n cap]] w fun e w' => e = .returned (.bool ((n : Int) == 0)) ∧ w' = w.alloc (.cells #[.bool nb, .slice ao n cap] 79) := by
 go_enter Tryz.func68, Tryz.ntmps68
 go_wp2
 go_ret
 exact ⟨rfl, rfl⟩
def IntOut (w w' : World) (v : Value) (z : Int) (L : Nat) : Prop := IsI w' v z L ∧ Below w.heap.size w w'
set_option maxHeartbeats 400000 in
theorem isZero_any (v : Value) (z : Int) (L : Nat) (w : World) (h : IsI w v z L) :
 Calls Tryz.prog 68 #[v] w fun e w' => e = .returned (.bool (decide (z = 0))) ∧ Below w.heap.size w w' := by
 obtain ⟨sl, xs, rfl, h2, h3, h4, h5⟩ := h
 obtain ⟨ao, cap, rfl, -⟩ := h5.open_
 refine (isZero_raw _ _ _ _ _).mono ?_
 rintro e w' ⟨rfl, rfl⟩
 refine ⟨?_, (Below.refl _ _).alloc (Nat.le_refl _) _⟩
 have := Lim_len_zero h2 h3
 congr 2
 rw [Bool.eq_iff_iff]
 simp only [beq_iff_eq, decide_eq_true_eq]
 omega
set_option maxRecDepth 100000 in
set_option maxHeartbeats 1000000 in
theorem neg_any (v : Value) (z : Int) (L : Nat) (w : World) (h : IsI w v z L) :
 Calls Tryz.prog 66 #[v] w fun e w' => ∃ r, e = .returned r ∧ IntOut w w' r (-z) L := by
 obtain ⟨sl, xs, rfl, h2, h3, h4, h5⟩ := h
 obtain ⟨ao, cap, rfl, -⟩ := h5.open_
 have H := Hid.mk (And.intro h2 (And.intro h3 (And.intro h4 h5)))
 have HZ := Hid.mk (Lim_len_zero h2 h3)
 clear h2 h3 h4 h5
 by_cases hz : z < 0
 ·have hd : decide (z < 0) = true := by simpa using hz
  have HZ0 := Hid.mk hz
  clear hz
  rw [hd]
  go_enter Tryz.func66, Tryz.ntmps66
  go_wp2_with fail
  go_region_with (go_at_call 68; refine (isZero_raw _ _ _ _ _).mono ?_; rintro e w' ⟨rfl, rfl⟩)
  all_goals
   go_wp2_with fail
   refine bodyPost_ret (v := .agg #[.bool false, .slice ao xs.length cap]) (by simp [results, Tryz.results66, go_sem]) rfl ?_
   obtain ⟨h2, h3, h4, h5⟩ := H.out
   have hb : ∀ W, Below w.heap.size w W → IntOut w W (.agg #[.bool false, .slice ao xs.length cap]) (-z) L := fun W hW => ⟨⟨_, xs, by rw [show decide (-z < 0) = false from by have := HZ0.out; simp; omega], h2, by omega, h4, h5.below hW⟩, hW⟩
   refine ⟨_, rfl, hb _ ?_⟩
   exact (((Below.refl _ _).alloc (Nat.le_refl _) _).alloc (by simp) _).drew
 ·have hd : decide (z < 0) = false := by simpa using hz
  have HZ0 := Hid.mk hz
  clear hz
  rw [hd]
  go_enter Tryz.func66, Tryz.ntmps66
  go_wp2_with fail
  go_region_with (go_at_call 68; refine (isZero_raw _ _ _ _ _).mono ?_; rintro e w' ⟨rfl, rfl⟩)
  all_goals
   go_wp2_with fail
   refine bodyPost_ret (v := .agg #[.bool (!((xs.length : Int) == 0)), .slice ao xs.length cap]) (by simp [results, Tryz.results66, go_sem]) rfl ?_
   obtain ⟨h2, h3, h4, h5⟩ := H.out
   have hb : ∀ W, Below w.heap.size w W → IntOut w W (.agg #[.bool (!((xs.length : Int) == 0)), .slice ao xs.length cap]) (-z) L := fun W hW => by
    have h6 := HZ.out
    have h7 := HZ0.out
    exact ⟨IsI.mk' (neg_sign h6 (by omega)) h2 (by omega) h4 (h5.below hW), hW⟩
   refine ⟨_, rfl, hb _ ?_⟩
   repeat (first | exact Below.refl _ _ | refine Below.drew ?_ | refine Below.alloc ?_ (by simp <;> omega) _)
open Go.RowKit
theorem NatOut.shape {w w' : World} {v : Value} {n L : Nat} (h : NatOut w w' v n L) : ∃ co ecap zs, v = .slice co zs.length ecap ∧ Hid (Lim zs ∧ val zs = n ∧ zs.length ≤ L ∧ Own w' v zs) ∧ Below w.heap.size w w' := by
 obtain ⟨⟨zs, a, b, c, d⟩, e⟩ := h
 obtain ⟨co, ecap, hv, -⟩ := d.open_
 exact ⟨co, ecap, zs, hv, ⟨a, b, c, d⟩, e⟩
set_option maxRecDepth 100000 in
set_option maxHeartbeats 2000000 in
theorem add_same (nb : Bool) (ao bo : Option Addr) (cap dap : Nat) (xs ys : List Nat) (w : World) (hx : Own w (.slice ao xs.length cap) xs) (hy : Own w (.slice bo ys.length dap) ys) (lx : Lo xs) (ly : Lo ys) (bx : xs.length ≤ 1000000000) (by_ : ys.length ≤ 1000000000) :
 Calls Tryz.prog 67 #[.agg #[.bool nb, .slice ao xs.length cap], .agg #[.bool nb, .slice bo ys.length dap]] w fun e w' => ∃ co n ecap, e = .returned (.agg #[.bool nb, .slice co n ecap]) ∧ NatOut w w' (.slice co n ecap) (val xs + val ys) (max xs.length ys.length + 1) := by
 have H := Hid.mk hx
 have K := Hid.mk hy
 clear hx hy
 go_enter Tryz.func67, Tryz.ntmps67
 go_wp2_with fail
 go_region_with (go_at_call 101; go_must (refine (addAmounts_any _ _ xs ys _ (H.out.below (by repeat (first | exact Below.refl _ _ | refine Below.drew ?_ | refine Below.alloc ?_ (by simp <;> omega) _))) (K.out.below (by repeat (first | exact Below.refl _ _ | refine Below.drew ?_ | refine Below.alloc ?_ (by simp <;> omega) _))) lx ly bx by_).mono ?_; rintro e w1 ⟨r, rfl, hr⟩; obtain ⟨co, ecap, zs, rfl, hZ, hb⟩ := hr.shape; obtain ⟨hc, hf⟩ := bcell hb; have hty : Ty w1 (w.heap.size + 2) 79 := Ty.below (Ty.drew (Ty.at_ _ _ _ (by simp))) hb (by simp); have hz : w.heap.size + 2 < w1.heap.size := hty.lt; have HT := Hid.mk hty; have HB := Hid.mk hb; clear hty hr hb))
 all_goals
  go_wp2_with fail
  refine bodyPost_ret (v := .agg #[.bool nb, .slice co zs.length ecap]) ?_ rfl ?_
  ·(simp [results, Tryz.results67, go_sem, hc]; done)
  ·refine ⟨_, _, _, rfl, ⟨zs, hZ.out.1, hZ.out.2.1, hZ.out.2.2.1, hZ.out.2.2.2.keep (KU.setCell (KU.setCell (KU.refl _) HT.out (by decide) _) (HT.out.setCell _ _) (by decide) _)⟩, ?_⟩
   refine Below.trans ?_ (((Below.refl _ _).setCell (by simp <;> omega) _).setCell (by simp <;> omega) _)
   refine Below.trans ?_ (HB.out.mono (by simp <;> omega))
   repeat (first | exact Below.refl _ _ | refine Below.drew ?_ | refine Below.alloc ?_ (by simp <;> omega) _)
open Go.RowKit
theorem Ty.drewN {w : World} {b : Nat} {t : TypeId} (h : Ty w b t) (n : Nat) : Ty (w.drewN n) b t := h
theorem len_of_val {xs ys : List Nat} (lx : Lim xs) (ly : Lim ys) (h : val ys ≤ val xs) : ys.length ≤ xs.length := by
 rcases Nat.lt_or_ge xs.length ys.length with h1 | h1
 ·have := val_lt_of_length lx.1 ly h1; omega
 ·exact h1
set_option maxRecDepth 100000 in
set_option maxHeartbeats 2000000 in
theorem add_less (nb : Bool) (ao bo : Option Addr) (cap dap : Nat) (xs ys : List Nat) (w : World) (hx : Own w (.slice ao xs.length cap) xs) (hy : Own w (.slice bo ys.length dap) ys) (lx : Lim xs) (ly : Lim ys) (by_ : ys.length ≤ 1000000000) (hlt : val xs < val ys) :
 Calls Tryz.prog 67 #[.agg #[.bool nb, .slice ao xs.length cap], .agg #[.bool (!nb), .slice bo ys.length dap]] w fun e w' => ∃ co n ecap, e = .returned (.agg #[.bool (!nb), .slice co n ecap]) ∧ NatOut w w' (.slice co n ecap) (val ys - val xs) ys.length := by
 have H := Hid.mk hx
 have K := Hid.mk hy
 have HL := Hid.mk (len_of_val ly lx (by omega))
 have HV := Hid.mk hlt
 clear hx hy
 have hd : decide (val xs < val ys) = true := by simpa using hlt
 clear hlt
 cases nb
 all_goals
  try rw [Bool.not_true]
  try rw [Bool.not_false]
  go_enter Tryz.func67, Tryz.ntmps67
  go_wp2_with fail
  refine (lessAmount_any _ _ xs ys _ (H.out.below ?_) (K.out.below ?_) lx ly).mono ?_
  ·repeat (first | exact Below.refl _ _ | refine Below.drew ?_ | refine Below.alloc ?_ (by simp <;> omega) _)
  ·repeat (first | exact Below.refl _ _ | refine Below.drew ?_ | refine Below.alloc ?_ (by simp <;> omega) _)
  rintro e w0 ⟨rfl, nd, rfl⟩
  rw [hd]
  go_wp2_with fail
  go_region_with (go_at_call 103; go_must (refine (subAmounts_any _ _ ys xs _ (K.out.below (by repeat (first | exact Below.refl _ _ | refine Below.drew ?_ | refine below_drewN ?_ _ | refine Below.alloc ?_ (by simp <;> omega) _))) (H.out.below (by repeat (first | exact Below.refl _ _ | refine Below.drew ?_ | refine below_drewN ?_ _ | refine Below.alloc ?_ (by simp <;> omega) _))) ly.1 lx.1 by_ (by have := HV.out; omega) HL.out).mono ?_; rintro e w1 ⟨r, rfl, hr⟩; obtain ⟨co, ecap, zs, rfl, hZ, hb⟩ := hr.shape; obtain ⟨hc, hf⟩ := bcell hb; have hty : Ty w1 (w.heap.size + 2) 79 := Ty.below (Ty.drewN (Ty.at_ _ _ _ (by simp)) _) hb (by simp); have hz : w.heap.size + 2 < w1.heap.size := hty.lt; have HT := Hid.mk hty; have HB := Hid.mk hb; clear hty hr hb))
  all_goals
   go_wp2_with fail
   first
    | (refine bodyPost_ret (v := .agg #[.bool true, .slice co zs.length ecap]) ?_ rfl ?_; focus (simp [results, Tryz.results67, go_sem, hc]; done))
    | (refine bodyPost_ret (v := .agg #[.bool false, .slice co zs.length ecap]) ?_ rfl ?_; focus (simp [results, Tryz.results67, go_sem, hc]; done))
   refine ⟨_, _, _, rfl, ⟨zs, hZ.out.1, hZ.out.2.1, hZ.out.2.2.1, hZ.out.2.2.2.keep (KU.setCell (KU.setCell (KU.refl _) HT.out (by decide) _) (HT.out.setCell _ _) (by decide) _)⟩, ?_⟩
   refine Below.trans ?_ (((Below.refl _ _).setCell (by simp <;> omega) _).setCell (by simp <;> omega) _)
   refine Below.trans ?_ (HB.out.mono (by simp <;> omega))
   repeat (first | exact Below.refl _ _ | refine Below.drew ?_ | refine below_drewN ?_ _ | refine Below.alloc ?_ (by simp <;> omega) _)
open Go.RowKit
set_option maxRecDepth 100000 in
set_option maxHeartbeats 2000000 in
theorem add_more (nb : Bool) (ao bo : Option Addr) (cap dap : Nat) (xs ys : List Nat) (w : World) (hx : Own w (.slice ao xs.length cap) xs) (hy : Own w (.slice bo ys.length dap) ys) (lx : Lim xs) (ly : Lim ys) (by_ : xs.length ≤ 1000000000) (hle : val ys ≤ val xs) :
 Calls Tryz.prog 67 #[.agg #[.bool nb, .slice ao xs.length cap], .agg #[.bool (!nb), .slice bo ys.length dap]] w fun e w' => ∃ co n ecap, e = .returned (.agg #[.bool (nb && decide (0 < n)), .slice co n ecap]) ∧ NatOut w w' (.slice co n ecap) (val xs - val ys) xs.length := by
 have H := Hid.mk hx
 have K := Hid.mk hy
 have HL := Hid.mk (len_of_val lx ly hle)
 have HV := Hid.mk hle
 clear hx hy
 have hd : decide (val xs < val ys) = false := by simp; omega
 clear hle
 cases nb
 all_goals
  try simp only [Bool.not_true, Bool.true_and]
  try simp only [Bool.not_false, Bool.false_and]
  go_enter Tryz.func67, Tryz.ntmps67
  go_wp2_with fail
  refine (lessAmount_any _ _ xs ys _ (H.out.below ?_) (K.out.below ?_) lx ly).mono ?_
  ·repeat (first | exact Below.refl _ _ | refine Below.drew ?_ | refine Below.alloc ?_ (by simp <;> omega) _)
  ·repeat (first | exact Below.refl _ _ | refine Below.drew ?_ | refine Below.alloc ?_ (by simp <;> omega) _)
  rintro e w0 ⟨rfl, nd, rfl⟩
  rw [hd]
  go_wp2_with fail
  refine (subAmounts_any _ _ xs ys _ (H.out.below ?_) (K.out.below ?_) lx.1 ly.1 by_ HV.out HL.out).mono ?_
  ·repeat (first | exact Below.refl _ _ | refine Below.drew ?_ | refine below_drewN ?_ _ | refine Below.alloc ?_ (by simp <;> omega) _)
  ·repeat (first | exact Below.refl _ _ | refine Below.drew ?_ | refine below_drewN ?_ _ | refine Below.alloc ?_ (by simp <;> omega) _)
  rintro e w1 ⟨r, rfl, hr⟩
  obtain ⟨co, ecap, zs, rfl, hZ, hb⟩ := hr.shape
  obtain ⟨hc, hf⟩ := bcell hb
  have hty : Ty w1 (w.heap.size + 2) 79 := Ty.below (Ty.drewN (Ty.at_ _ _ _ (by simp)) _) hb (by simp)
  have hz : w.heap.size + 2 < w1.heap.size := hty.lt
  have HT := Hid.mk hty
  have HB := Hid.mk hb
  clear hty hr hb
  go_wp2_with fail
  first
   | (refine bodyPost_ret (v := .agg #[.bool false, .slice co zs.length ecap]) ?_ rfl ?_; focus (simp [results, Tryz.results67, go_sem, hc]; done))
   | (refine bodyPost_ret (v := .agg #[.bool (decide (0 < zs.length)), .slice co zs.length ecap]) ?_ rfl ?_; focus (simp [results, Tryz.results67, go_sem, hc]; done))
  refine ⟨_, _, _, rfl, ⟨zs, hZ.out.1, hZ.out.2.1, hZ.out.2.2.1, hZ.out.2.2.2.keep (KU.setCell (KU.setCell (KU.refl _) HT.out (by decide) _) (HT.out.setCell _ _) (by decide) _)⟩, ?_⟩
  refine Below.trans ?_ (((Below.refl _ _).setCell (by simp <;> omega) _).setCell (by simp <;> omega) _)
  refine Below.trans ?_ (HB.out.mono (by simp <;> omega))
  repeat (first | exact Below.refl _ _ | refine Below.drew ?_ | refine below_drewN ?_ _ | refine Below.alloc ?_ (by simp <;> omega) _)
theorem IntOut.of_nat {w w' : World} {b : Bool} {sl : Value} {n L M : Nat} {z : Int} (h : NatOut w w' sl n L) (hz : n = z.natAbs) (hb : b = true ↔ z < 0) (hL : L ≤ M) : IntOut w w' (.agg #[.bool b, sl]) z M := by
 obtain ⟨⟨zs, a, c, d, e⟩, f⟩ := h
 exact ⟨IsI.mk' hb a (by omega) (by omega) e, f⟩
theorem add_any (v u : Value) (x y : Int) (L M : Nat) (w : World) (hv : IsI w v x L) (hu : IsI w u y M) (hL : L ≤ 1000000000) (hM : M ≤ 1000000000) :
 Calls Tryz.prog 67 #[v, u] w fun e w' => ∃ r, e = .returned r ∧ IntOut w w' r (x + y) (max L M + 1) := by
 obtain ⟨sl, xs, rfl, h2, h3, h4, h5⟩ := hv
 obtain ⟨tl, ys, rfl, k2, k3, k4, k5⟩ := hu
 obtain ⟨ao, cap, rfl, -⟩ := h5.open_
 obtain ⟨bo, dap, rfl, -⟩ := k5.open_
 by_cases hs : (x < 0 ↔ y < 0)
 ·rw [show decide (y < 0) = decide (x < 0) from by simp only [hs]]
  refine (add_same _ _ _ _ _ xs ys w h5 k5 h2.1 k2.1 (by omega) (by omega)).mono ?_
  rintro e w' ⟨co, n, ecap, rfl, hr⟩
  exact ⟨_, rfl, IntOut.of_nat hr (by omega) (by simp; omega) (by omega)⟩
 ·rw [show decide (y < 0) = !decide (x < 0) from by
   by_cases h1 : x < 0 <;> by_cases h2 : y < 0 <;> simp [h1, h2] <;> omega]
  by_cases hlt : val xs < val ys
  ·refine (add_less _ _ _ _ _ xs ys w h5 k5 h2 k2 (by omega) hlt).mono ?_
   rintro e w' ⟨co, n, ecap, rfl, hr⟩
   exact ⟨_, rfl, IntOut.of_nat hr (by omega) (by simp; omega) (by omega)⟩
  ·refine (add_more _ _ _ _ _ xs ys w h5 k5 h2 k2 (by omega) (by omega)).mono ?_
   rintro e w' ⟨co, n, ecap, rfl, hr⟩
   have hn : n = 0 ↔ val xs - val ys = 0 := by
    obtain ⟨⟨zs, a, c, d, e⟩, f⟩ := hr
    obtain ⟨co', ecap', hsl, -⟩ := e.open_
    simp only [Value.slice.injEq] at hsl
    rw [hsl.2.1, List.length_eq_zero_iff, ← Lim_zero a, c]
   exact ⟨_, rfl, IntOut.of_nat hr (by omega) (by simp; omega) (by omega)⟩
open Go.RowKit
theorem mul_sign {n : Nat} {x y : Int} (h : n = 0 ↔ x * y = 0) (hd : (x < 0 ∧ ¬ y < 0) ∨ (¬ x < 0 ∧ y < 0)) : decide (0 < n) = true ↔ x * y < 0 := by
 have h1 : x * y ≤ 0 := by
  rcases hd with ⟨a, b⟩ | ⟨a, b⟩
  ·exact Int.mul_nonpos_of_nonpos_of_nonneg (by omega) (by omega)
  ·exact Int.mul_nonpos_of_nonneg_of_nonpos (by omega) (by omega)
 rw [decide_eq_true_eq]
 omega
theorem mul_same {x y : Int} (hd : (x < 0 ∧ y < 0) ∨ (¬ x < 0 ∧ ¬ y < 0)) : false = true ↔ x * y < 0 := by
 have h1 : 0 ≤ x * y := by
  rcases hd with ⟨a, b⟩ | ⟨a, b⟩
  ·exact Int.mul_nonneg_of_nonpos_of_nonpos (by omega) (by omega)
  ·exact Int.mul_nonneg (by omega) (by omega)
 constructor
 ·intro h; cases h
 ·omega
set_option maxRecDepth 100000 in
set_option maxHeartbeats 2000000 in
theorem mul_any (v u : Value) (x y : Int) (L M : Nat) (w : World) (hv : IsI w v x L) (hu : IsI w u y M) (hL : L ≤ 500000000) (hM : M ≤ 500000000) :
 Calls Tryz.prog 65 #[v, u] w fun e w' => ∃ r, e = .returned r ∧ IntOut w w' r (x * y) (L + M) := by
 obtain ⟨sl, xs, rfl, h2, h3, h4, h5⟩ := hv
 obtain ⟨tl, ys, rfl, k2, k3, k4, k5⟩ := hu
 obtain ⟨ao, cap, rfl, -⟩ := h5.open_
 obtain ⟨bo, dap, rfl, -⟩ := k5.open_
 have H := Hid.mk (And.intro h2 (And.intro h3 (And.intro h4 h5)))
 have K := Hid.mk (And.intro k2 (And.intro k3 (And.intro k4 k5)))
 clear h2 h3 h4 h5 k2 k3 k4 k5
 by_cases hx : x < 0
 all_goals by_cases hy : y < 0
 all_goals
  have HX := Hid.mk hx
  have HY := Hid.mk hy
  simp only [hx, hy, decide_true, decide_false]
  clear hx hy
  go_enter Tryz.func65, Tryz.ntmps65
  go_wp2_with fail
  refine (mulAmounts_any _ _ xs ys _ (H.out.2.2.2.below ?_) (K.out.2.2.2.below ?_) H.out.1.1 K.out.1.1 (by have := H.out.2.2.1; omega) (by have := K.out.2.2.1; omega)).mono ?_
  ·repeat (first | exact Below.refl _ _ | refine Below.alloc ?_ (by simp <;> omega) _)
  ·repeat (first | exact Below.refl _ _ | refine Below.alloc ?_ (by simp <;> omega) _)
  rintro e w1 ⟨r, rfl, ⟨zs, lz, vz, nz, oz⟩, hb⟩
  obtain ⟨co, ecap, rfl, -⟩ := oz.open_
  obtain ⟨hc, hf⟩ := bcell hb
  have hty : Ty w1 (w.heap.size + 2) 79 := Ty.below (Ty.at_ _ _ _ (by simp)) hb (by simp)
  have hz : w.heap.size + 2 < w1.heap.size := hty.lt
  have hb0 : Below w.heap.size w w1 := Below.trans (by repeat (first | exact Below.refl _ _ | refine Below.alloc ?_ (by simp <;> omega) _)) (hb.mono (by simp <;> omega))
  have hzz : zs.length = 0 ↔ x * y = 0 := Lim_len_zero (z := x * y) lz (by rw [vz, H.out.2.1, K.out.2.1, Int.natAbs_mul])
  have hfin : ∀ (b : Bool) (W : World), (b = true ↔ x * y < 0) → KU w1 W → Below w.heap.size w1 W → IntOut w W (.agg #[.bool b, .slice co zs.length ecap]) (x * y) (L + M) := by
   intro b W hbb hk hW
   exact ⟨IsI.mk' hbb lz (by rw [vz, H.out.2.1, K.out.2.1, Int.natAbs_mul]) (by have := H.out.2.2.1; have := K.out.2.2.1; omega) (oz.keep hk), hb0.trans hW⟩
  have F := Hid.mk hfin
  have HZ := Hid.mk hzz
  have HT := Hid.mk hty
  clear hb hb0 lz vz nz oz hfin hzz hty
  go_wp2_with fail
  first
   | (refine bodyPost_ret (v := .agg #[.bool false, .slice co zs.length ecap]) ?_ rfl ?_
      ·(simp [results, Tryz.results65, go_sem, hc]; done)
      ·exact ⟨_, rfl, F.out _ _ (mul_same (by have := HX.out; have := HY.out; omega)) (KU.setCell (KU.setCell (KU.refl _) HT.out (by decide) _) (HT.out.setCell _ _) (by decide) _) (((Below.refl _ _).setCell (by simp <;> omega) _).setCell (by simp <;> omega) _)⟩)
   | (refine bodyPost_ret (v := .agg #[.bool (decide (0 < zs.length)), .slice co zs.length ecap]) ?_ rfl ?_
      ·(simp [results, Tryz.results65, go_sem, hc]; done)
      ·exact ⟨_, rfl, F.out _ _ (mul_sign HZ.out (by have := HX.out; have := HY.out; omega)) (KU.setCell (KU.setCell (KU.refl _) HT.out (by decide) _) (HT.out.setCell _ _) (by decide) _) (((Below.refl _ _).setCell (by simp <;> omega) _).setCell (by simp <;> omega) _)⟩)
open Go.RowKit
def BitsOf (b n : Nat) : Prop := ∀ k, b ≤ k ↔ n < 2 ^ k
theorem bitsOf_zero : BitsOf 0 0 := fun k => ⟨fun _ => Nat.pow_pos (by decide), fun _ => Nat.zero_le _⟩
theorem bitsOf_mk {b n : Nat} (h1 : n < 2 ^ b) (h2 : b = 0 ∨ 2 ^ (b - 1) ≤ n) : BitsOf b n := by
 intro k
 constructor
 ·intro hk
  exact Nat.lt_of_lt_of_le h1 (Nat.pow_le_pow_right (by decide) hk)
 ·intro hk
  rcases h2 with h2 | h2
  ·omega
  ·rcases Nat.lt_or_ge k b with h3 | h3
   ·have : 2 ^ k ≤ 2 ^ (b - 1) := Nat.pow_le_pow_right (by decide) (by omega)
    omega
   ·exact h3
theorem pow32 (m : Nat) : 4294967296 ^ m = 2 ^ (32 * m) := by rw [Nat.pow_mul]
theorem bits_top {xs : List Nat} {j : Nat} (lo : Lo xs) (hn : 0 < xs.length) (ht : 0 < xs.getD (xs.length - 1) 0) (h1 : xs.getD (xs.length - 1) 0 < 2 ^ j) (h2 : j = 0 ∨ 2 ^ (j - 1) ≤ xs.getD (xs.length - 1) 0) : BitsOf ((xs.length - 1) * 32 + j) (val xs) := by
 have e := val_take_drop xs (xs.length - 1) (by omega)
 rw [drop_getD xs (xs.length - 1) (by omega), val_cons, show xs.length - 1 + 1 = xs.length from by omega, List.drop_length, val_nil, Nat.mul_zero, Nat.add_zero] at e
 have h3 := val_lt (Lo_take lo (xs.length - 1))
 rw [List.length_take, Nat.min_eq_left (by omega)] at h3
 generalize xs.getD (xs.length - 1) 0 = t at *
 rw [pow32] at e h3
 have hj : j ≠ 0 := by rintro rfl; simp at h1; omega
 refine bitsOf_mk ?_ (.inr ?_)
 ·rw [Nat.mul_comm (xs.length - 1) 32, Nat.pow_add]
  have : 2 ^ (32 * (xs.length - 1)) * (t + 1) ≤ 2 ^ (32 * (xs.length - 1)) * 2 ^ j := Nat.mul_le_mul_left _ (by omega)
  rw [Nat.mul_add, Nat.mul_one] at this
  omega
 ·rw [show (xs.length - 1) * 32 + j - 1 = 32 * (xs.length - 1) + (j - 1) from by omega, Nat.pow_add]
  have : 2 ^ (32 * (xs.length - 1)) * 2 ^ (j - 1) ≤ 2 ^ (32 * (xs.length - 1)) * t := Nat.mul_le_mul_left _ (h2.resolve_left hj)
  omega
theorem half_step {t q j : Nat} (hq : q = t / 2 ^ j) : q / 2 = t / 2 ^ (j + 1) := by rw [hq, Nat.div_div_eq_div_mul, Nat.pow_succ]
theorem half_low {t q j : Nat} (hq : q = t / 2 ^ j) (h : 0 < q) : 2 ^ j ≤ t := by
 rcases Nat.lt_or_ge t (2 ^ j) with h1 | h1
 ·rw [Nat.div_eq_of_lt h1] at hq; omega
 ·exact h1
theorem half_end {t q j : Nat} (hq : q = t / 2 ^ j) (h : q = 0) : t < 2 ^ j := by
 rcases Nat.lt_or_ge t (2 ^ j) with h1 | h1
 ·exact h1
 ·have := Nat.div_pos h1 (Nat.pow_pos (by decide)); omega
theorem half_bound {t j : Nat} (ht : t < 4294967296) (h : 2 ^ j ≤ t) : j < 32 := by
 rcases Nat.lt_or_ge j 32 with h1 | h1
 ·exact h1
 ·have : 2 ^ 32 ≤ 2 ^ j := Nat.pow_le_pow_right (by decide) h1
  omega
set_option maxRecDepth 100000 in
set_option maxHeartbeats 1000000 in
theorem bitsOf_any (v : Value) (xs : List Nat) (w : World) (h5 : Own w v xs) (h2 : Lim xs) (h4 : xs.length ≤ 1000000000) :
 Calls Tryz.prog 131 #[v] w fun e w' => ∃ b : Nat, e = .returned (.int .i64 b) ∧ BitsOf b (val xs) ∧ w' = w := by
 obtain ⟨ao, cap, rfl, -, -, hcell, -, -⟩ := h5.open_
 by_cases hx : xs = []
 ·subst hx
  rw [val_nil]
  clear h2 h5 hcell
  go_enter Tryz.func131, Tryz.ntmps131
  go_wp2_with fail
  go_ret
  exact ⟨0, rfl, bitsOf_zero, rfl⟩
 ·have hn : 0 < xs.length := List.length_pos_iff.2 hx
  have ht := h2.2.resolve_left hx
  obtain ⟨b, rfl, hb⟩ := hcell (xs.length - 1) (by omega)
  have htl := Lo_get h2.1 (xs.length - 1)
  have hbt : b < w.heap.size := World.block_lt_of_cell? w _ hb
  obtain ⟨t, hteq⟩ : ∃ t, t = xs.getD (xs.length - 1) 0 := ⟨_, rfl⟩
  have HB := Hid.mk (fun j => @bits_top xs j h2.1 hn ht)
  rw [← hteq] at hb htl ht
  have HT := Hid.mk hteq
  have hne : ((xs.length : Int) == 0) = false := beq_eq_false_iff_ne.2 (by omega)
  clear hcell h2 h5 hx hteq
  go_enter Tryz.func131, Tryz.ntmps131
  go_wp2_with fail
  go_loop [4, 5] (fun c q => ∃ j qq : Nat, c = .int .i64 (((xs.length : Int) - 1) * 32 + j) ∧ q = .int .u32 qq ∧ qq ≤ t ∧ j ≤ 32 ∧ Hid (qq = t / 2 ^ j ∧ (j = 0 ∨ 2 ^ (j - 1) ≤ t))) (fun _ q => (intOf q).toNat)
  case atStart => exact ⟨0, t, by simp, rfl, Nat.le_refl _, by omega, Hid.mk ⟨by simp, .inl rfl⟩⟩
  case round =>
   obtain ⟨j, q, rfl, rfl, hq, hj, HI⟩ := hrel
   by_cases h0 : q = 0
   ·have HQ := Hid.mk h0
    subst h0
    go_wp2_with fail
    go_ret
    refine ⟨(xs.length - 1) * 32 + j, ?_, ?_, rfl⟩
    ·exact ret_int (by omega)
    ·refine HB.out j ?_ ?_
     ·rw [← HT.out]; exact half_end HI.out.1 rfl
     ·rw [← HT.out]; exact HI.out.2
   ·have hq0 : 0 < q := by omega
    have hlow := half_low HI.out.1 hq0
    have hj32 := half_bound htl hlow
    have HLO := Hid.mk hlow
    clear hlow
    go_wp2_with fail
    go_round
    case rel => exact ⟨j + 1, q / 2, by go_num, by go_num, by omega, by omega, Hid.mk ⟨half_step HI.out.1, .inr HLO.out⟩⟩
    case measure => simp [intOf]; omega
set_option maxRecDepth 100000 in
set_option maxHeartbeats 1000000 in
theorem bits_any (v : Value) (z : Int) (L : Nat) (w : World) (hv : IsI w v z L) (hL : L ≤ 1000000000) :
 Calls Tryz.prog 91 #[v] w fun e w' => ∃ b : Nat, e = .returned (.int .i64 b) ∧ BitsOf b z.natAbs ∧ Below w.heap.size w w' := by
 obtain ⟨sl, xs, rfl, h2, h3, h4, h5⟩ := hv
 obtain ⟨ao, cap, rfl, -⟩ := h5.open_
 have H := Hid.mk (And.intro h2 (And.intro h3 (And.intro h4 h5)))
 clear h2 h3 h4 h5
 go_enter Tryz.func91, Tryz.ntmps91
 go_wp2_with fail
 have hb0 := (Below.refl w.heap.size w).alloc (Nat.le_refl _) (.cells #[.bool (decide (z < 0)), .slice ao xs.length cap] 79)
 refine (bitsOf_any _ xs _ (H.out.2.2.2.below hb0) H.out.1 (by have := H.out.2.2.1; omega)).mono ?_
 rintro e w' ⟨b, rfl, hB, rfl⟩
 have HB := Hid.mk hB
 have HB0 := Hid.mk hb0
 clear hB hb0
 go_wp2_with fail
 go_ret
 refine ⟨b, rfl, ?_, HB0.out⟩
 rw [← H.out.2.1]
 exact HB.out
theorem lit_own (w : World) : Own (w.alloc (.cells #[.int .u32 1, .int .u32 0] 144)) (.slice (some ⟨w.heap.size, 0, none⟩) 2 2) [1, 0] := by
 have := World.ownsRow_lit (base := 0) (e := 144) (size := 1) w #[.int .u32 1, .int .u32 0] 2 (Nat.zero_le _) (by simp [maxLen]) rfl
 simpa [Own, lcells] using this
theorem KU_swap (w : World) (c c' : Array Value) (o : Obj) : KU ((w.alloc (.cells c 79)).alloc o) ((w.alloc (.cells c' 79)).alloc o) := by
 intro b arr h
 change ((w.heap.push (.cells c 79)).push o)[b]? = _ at h
 change ((w.heap.push (.cells c' 79)).push o)[b]? = _
 simp only [Array.getElem?_push, Array.size_push] at h ⊢
 split at h
 ·rename_i h1; rw [if_pos h1]; exact h
 ·rename_i h1
  rw [if_neg h1]
  split at h
  ·simp at h
  ·rename_i h2; rw [if_neg h2]; exact h
set_option maxRecDepth 100000 in
set_option maxHeartbeats 1000000 in
theorem fromOne_any (w : World) :
 Calls Tryz.prog 62 #[.int .i64 1] w fun e w' => ∃ r, e = .returned r ∧ IntOut w w' r 1 2 := by
 go_enter Tryz.func62, Tryz.ntmps62
 go_wp2_with fail
 refine (trim_any _ [1, 0] _ ?_ (by intro x hx; simp at hx; omega)).mono ?_
 ·have := lit_own (w.alloc (.cells #[.bool false, .slice none 0 0] 79))
  simpa using this
 rintro e w' ⟨⟨r, rfl, hr⟩, rfl⟩
 obtain ⟨zs, h1, h2, h3, h4⟩ := hr
 obtain ⟨co, ecap, rfl, -⟩ := h4.open_
 have H := Hid.mk (And.intro h1 (And.intro h2 (And.intro h3 h4)))
 clear h1 h2 h3 h4
 go_wp2_with fail
 refine bodyPost_ret (v := .agg #[.bool false, .slice co zs.length ecap]) ?_ rfl ?_
 ·(simp [results, Tryz.results62, go_sem]; done)
 ·obtain ⟨h1, h2, h3, h4⟩ := H.out
  refine ⟨_, rfl, IsI.mk' (by simp) h1 (by rw [h2]; simp [val]) (by simpa using h3) (h4.keep (KU_swap _ _ _ _)), ?_⟩
  repeat (first | exact Below.refl _ _ | refine Below.alloc ?_ (by simp <;> omega) _)
end Go.Proofs.YtfjbijpagaipnabGreatDoor
