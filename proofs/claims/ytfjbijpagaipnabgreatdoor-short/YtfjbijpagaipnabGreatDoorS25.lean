import Derived.Test.YtfjbijpagaipnabGreatDoorS14
import Derived.Test.YtfjbijpagaipnabGreatDoorS13
import Derived.Test.YtfjbijpagaipnabGreatDoorS24
import Derived.Test.YtfjbijpagaipnabGreatDoorS02
import Derived.Test.YtfjbijpagaipnabGreatDoorS20
import Derived.Test.YtfjbijpagaipnabGreatDoorS10
import Derived.Test.YtfjbijpagaipnabGreatDoorS22
import Derived.Test.YtfjbijpagaipnabGreatDoorS15
namespace Go.Proofs.YtfjbijpagaipnabGreatDoor
open Go.RowKit
set_option maxRecDepth 100000 in
set_option maxHeartbeats 4000000 in
theorem near_any (v u : Value) (x y : Int) (L M : Nat) (w : World) (hv : IsI w v x L) (hu : IsI w u y M) (hy : 0 < y) (hL : L ≤ 100000000) (hM : M ≤ 100000000) :
 Calls Tryz.prog 185 #[v, u] w fun e w' => ∃ r, e = .returned r ∧ IntOut w w' r (nearF x y) (L + 4) := by
 obtain ⟨nb, ao, n, cap, rfl⟩ := hv.shape
 obtain ⟨nb', bo, n', cap', rfl⟩ := hu.shape
 have H := Hid.mk (And.intro hv hu)
 clear hv hu
 go_enter Tryz.func185, Tryz.ntmps185
 go_wp2_with fail
 obtain ⟨W0, hW0⟩ : ∃ W0, W0 = ((w.alloc (.cells #[.bool nb, .slice ao n cap] 79)).alloc (.cells #[.bool nb', .slice bo n' cap'] 79)).alloc (.cells #[.bool false, .slice none 0 0] 79) := ⟨_, rfl⟩
 have hz0 : W0.heap.size = w.heap.size + 3 := by rw [hW0]; simp
 have hb0 : Below w.heap.size w W0 := by rw [hW0]; repeat (first | exact Below.refl _ _ | refine Below.alloc ?_ (by simp <;> omega) _)
 have hA : Duo W0 w.heap.size (.bool nb) (.slice ao n cap) := by
  rw [hW0]
  exact ((Duo.new w _ _ rfl).below ((Below.refl _ _).alloc (Nat.le_refl _) _) (by simp)).below ((Below.refl _ _).alloc (Nat.le_refl _) _) (by simp; omega)
 have hB : Duo W0 (w.heap.size + 1) (.bool nb') (.slice bo n' cap') := by
  rw [hW0]
  exact (Duo.new _ _ _ (by simp)).below ((Below.refl _ _).alloc (Nat.le_refl _) _) (by simp)
 have hR : Duo W0 (w.heap.size + 1 + 1) (.bool false) (.slice none 0 0) := by rw [hW0]; exact Duo.new _ _ _ (by simp)
 rw [← hW0]
 have F := Hid.mk (And.intro hA (And.intro hB (And.intro hR (And.intro hb0 hz0))))
 clear hA hB hR hb0 hW0 hz0
 refine (isZero_any _ y M _ (H.out.2.below F.out.2.2.2.1)).mono ?_
 rintro e w1 ⟨rfl, hb1⟩
 have hy0 : decide (y = 0) = false := decide_eq_false (by omega)
 rw [hy0]
 have hs1 := hb1.size
 have hz1 := F.out.2.2.2.2
 obtain ⟨a0, a1, -, -⟩ := (F.out.1.below hb1 (by omega)).cells
 obtain ⟨b0, b1, -, -⟩ := (F.out.2.1.below hb1 (by omega)).cells
 have K1 := Hid.mk (And.intro hb1 hz1)
 clear hb1 hz1
 go_wp2_with fail
 refine (quot_any _ _ x y L M _ ((H.out.1.below F.out.2.2.2.1).below K1.out.1) ((H.out.2.below F.out.2.2.2.1).below K1.out.1) (by omega) (by omega)).mono ?_
 rintro e w2 ⟨r2, rfl, hr2, hb2⟩
 obtain ⟨nd, od, nl, cd, rfl⟩ := hr2.shape
 obtain ⟨dv, hdv⟩ : ∃ dv, dv = x.fdiv y := ⟨_, rfl⟩
 rw [← hdv] at hr2
 have HDV := Hid.mk hdv
 clear hdv
 have hb22 := (Below.refl w2.heap.size w2).alloc (Nat.le_refl _) (.cells #[.bool nd, .slice od nl cd] 79)
 have hbA : Below W0.heap.size W0 w2 := K1.out.1.trans (hb2.mono K1.out.1.size)
 obtain ⟨W2, hW2⟩ : ∃ W2, W2 = w2.alloc (.cells #[.bool nd, .slice od nl cd] 79) := ⟨_, rfl⟩
 have hD : Duo W2 w2.heap.size (.bool nd) (.slice od nl cd) := by rw [hW2]; exact Duo.new w2 _ _ rfl
 rw [← hW2] at hb22
 have hbB : Below W0.heap.size W0 W2 := hbA.trans (hb22.mono hbA.size)
 have hsz := hbA.size
 have hsz2 := hbB.size
 have hz1 := F.out.2.2.2.2
 have K2 : Hid (Duo W2 w.heap.size (.bool nb) (.slice ao n cap) ∧ Duo W2 (w.heap.size + 1) (.bool nb') (.slice bo n' cap') ∧ Duo W2 (w.heap.size + 1 + 1) (.bool false) (.slice none 0 0) ∧ Duo W2 w2.heap.size (.bool nd) (.slice od nl cd) ∧ IsI W2 (.agg #[.bool nb, .slice ao n cap]) x L ∧ IsI W2 (.agg #[.bool nb', .slice bo n' cap']) y M ∧ IsI W2 (.agg #[.bool nd, .slice od nl cd]) dv (L + 1) ∧ Below w.heap.size w W2 ∧ w.heap.size + 3 ≤ w2.heap.size ∧ w2.heap.size < W2.heap.size) :=
  Hid.mk ⟨F.out.1.below hbB (by omega), F.out.2.1.below hbB (by omega), F.out.2.2.1.below hbB (by omega), hD, (H.out.1.below F.out.2.2.2.1).below hbB, (H.out.2.below F.out.2.2.2.1).below hbB, hr2.below hb22, F.out.2.2.2.1.trans (hbB.mono (by omega)), by omega, by rw [hW2]; simp⟩
 have HW2 := Hid.mk hW2
 clear hr2 hb2 hb22 hbA hbB hD K1 a0 a1 b0 b1 hsz hsz2 hs1 hz1 hW2
 have HC : Hid (∀ w', Below W2.heap.size W2 w' → w'.cell? ⟨w.heap.size, 0, none⟩ = some (.bool nb) ∧ w'.cell? ⟨w.heap.size, 1, none⟩ = some (.slice ao n cap) ∧ w'.cell? ⟨w.heap.size + 1, 0, none⟩ = some (.bool nb') ∧ w'.cell? ⟨w.heap.size + 1, 1, none⟩ = some (.slice bo n' cap') ∧ w'.cell? ⟨w2.heap.size, 0, none⟩ = some (.bool nd) ∧ w'.cell? ⟨w2.heap.size, 1, none⟩ = some (.slice od nl cd)) := Hid.mk fun w' hb => by
  have h9 := K2.out.2.2.2.2.2.2.2.2
  obtain ⟨a0, a1, -, -⟩ := (K2.out.1.below hb (by omega)).cells
  obtain ⟨b0, b1, -, -⟩ := (K2.out.2.1.below hb (by omega)).cells
  obtain ⟨d0, d1, -, -⟩ := (K2.out.2.2.2.1.below hb (by omega)).cells
  exact ⟨a0, a1, b0, b1, d0, d1⟩
 go_upto_region 4 with fail
 rw [← HW2.out]
 go_cut [6] from 14 to 18 (fun pv wx => PartIn W2 (x - dv * y) (L + M + 3) pv wx)
 case first =>
  go_region_held3 (fun w' => w'.cell? ⟨w.heap.size, 0, none⟩ = some (.bool nb) ∧ w'.cell? ⟨w.heap.size, 1, none⟩ = some (.slice ao n cap) ∧ w'.cell? ⟨w.heap.size + 1, 0, none⟩ = some (.bool nb') ∧ w'.cell? ⟨w.heap.size + 1, 1, none⟩ = some (.slice bo n' cap') ∧ w'.cell? ⟨w2.heap.size, 0, none⟩ = some (.bool nd) ∧ w'.cell? ⟨w2.heap.size, 1, none⟩ = some (.slice od nl cd))
   (exact HC.out _ (by first | exact hbW6 | exact hbW6.alloc hbW6.size _ | exact (hbW6.setCell (Nat.le_refl _) _).setCell (Nat.le_refl _) _ | exact (hbW6.setCell hw5s _).setCell hw5s _ | exact hbW5 | exact hbW5.alloc hbW5.size _ | exact (Below.refl _ _).drew | exact ((Below.refl _ _).alloc (Nat.le_refl _) _).drew))
   (first
     | (go_at_call 65; refine (mul_any _ _ dv y (L + 1) M _ (K2.out.2.2.2.2.2.2.1.below ((Below.refl _ _).drew)) (K2.out.2.2.2.2.2.1.below ((Below.refl _ _).drew)) (by omega) (by omega)).mono ?_; rintro e9 w5 ⟨x5, rfl, hx5, hb5⟩; obtain ⟨nb5, so5, n5, cp5, rfl⟩ := hx5.shape; have hbW5 : Below W2.heap.size W2 w5 := ((Below.refl _ _).drew).trans hb5; clear hb5)
     | (go_at_call 65; refine (mul_any _ _ dv y (L + 1) M _ (K2.out.2.2.2.2.2.2.1.below (((Below.refl _ _).alloc (Nat.le_refl _) _).drew)) (K2.out.2.2.2.2.2.1.below (((Below.refl _ _).alloc (Nat.le_refl _) _).drew)) (by omega) (by omega)).mono ?_; rintro e9 w5 ⟨x5, rfl, hx5, hb5⟩; obtain ⟨nb5, so5, n5, cp5, rfl⟩ := hx5.shape; have hbW5 : Below W2.heap.size W2 w5 := (((Below.refl _ _).alloc (Nat.le_refl _) _).drew).trans (hb5.mono (by simp)); have hD5 : Duo w5 W2.heap.size (.bool false) (.slice none 0 0) := Duo.below (Duo.drew (Duo.alloc_new W2)) hb5 (by simp); clear hb5)
     | (go_at_call 145; refine (sub_any _ _ x (dv * y) L (L + 1 + M) _ (K2.out.2.2.2.2.1.below hbW5) hx5 (by omega) (by omega)).mono ?_; rintro e9 w6 ⟨x6, rfl, hx6, hb6⟩; obtain ⟨nb6, so6, n6, cp6, rfl⟩ := hx6.shape; replace hx6 := hx6.mono (show max L (L + 1 + M) + 1 ≤ L + M + 3 by omega); have hbW6 : Below W2.heap.size W2 w6 := hbW5.trans (hb6.mono hbW5.size); have hD6 : Duo w6 W2.heap.size (.bool false) (.slice none 0 0) := hD5.below hb6 (Array.getElem?_eq_some_iff.1 hD5).1; have hD6c := hD6.cells; clear hb6)
     | (go_at_call 145; refine (sub_any _ _ x (dv * y) L (L + 1 + M) _ (K2.out.2.2.2.2.1.below hbW5) hx5 (by omega) (by omega)).mono ?_; rintro e9 w6 ⟨x6, rfl, hx6, hb6⟩; obtain ⟨nb6, so6, n6, cp6, rfl⟩ := hx6.shape; replace hx6 := hx6.mono (show max L (L + 1 + M) + 1 ≤ L + M + 3 by omega); have hbW6 : Below W2.heap.size W2 w6 := hbW5.trans (hb6.mono hbW5.size); clear hb6)
     | (go_at_call 145; refine (sub_any _ _ x (dv * y) L (L + 1 + M) _ ((K2.out.2.2.2.2.1.below hbW5).below ((Below.refl w5.heap.size w5).alloc (Nat.le_refl _) _)) (hx5.below ((Below.refl w5.heap.size w5).alloc (Nat.le_refl _) _)) (by omega) (by omega)).mono ?_; rintro e9 w6 ⟨x6, rfl, hx6, hb6⟩; obtain ⟨nb6, so6, n6, cp6, rfl⟩ := hx6.shape; replace hx6 := hx6.mono (show max L (L + 1 + M) + 1 ≤ L + M + 3 by omega); have hbW6 : Below W2.heap.size W2 w6 := hbW5.trans ((((Below.refl w5.heap.size w5).alloc (Nat.le_refl _) _).trans (hb6.mono (by simp))).mono hbW5.size); have hw5s := hbW5.size; have hD6 : Duo w6 w5.heap.size (.bool false) (.slice none 0 0) := Duo.below (Duo.alloc_new w5) hb6 (by simp); have hD6c := hD6.cells; clear hb6))
  all_goals
   go_wp2_with fail
   go_meet
   case rel =>
    first
     | exact ⟨_, _, _, _, _, rfl, hbW6.size, Duo.new _ _ _ rfl, hx6.below ((Below.refl _ _).alloc (Nat.le_refl _) _), hbW6.alloc hbW6.size _⟩
     | exact ⟨_, _, _, _, _, rfl, Nat.le_refl _, hD6.put _ _, hx6.duo hD6 _ _, (hbW6.setCell (Nat.le_refl _) _).setCell (Nat.le_refl _) _⟩
     | exact ⟨_, _, _, _, _, rfl, hw5s, hD6.put _ _, hx6.duo hD6 _ _, (hbW6.setCell hw5s _).setCell hw5s _⟩
 case rest =>
  rename World => w3
  obtain ⟨pb, nl3, ol3, ml3, cl3, rfl, hpb, hD3, hI3, hb3⟩ := hcut
  obtain ⟨lf, hlf⟩ : ∃ lf, lf = x - dv * y := ⟨_, rfl⟩
  rw [← hlf] at hI3
  have HLF := Hid.mk hlf
  obtain ⟨e0, e1, -, -⟩ := hD3.cells
  have K3 := Hid.mk (And.intro hD3 (And.intro hI3 (And.intro hb3 hpb)))
  clear hD3 hI3 hb3 hlf hpb
  go_wp2_with fail
  refine (add_any _ _ lf lf (L + M + 3) (L + M + 3) _ K3.out.2.1 K3.out.2.1 (by omega) (by omega)).mono ?_
  rintro e w4 ⟨r4, rfl, hr4, hb4⟩
  obtain ⟨nt, ot, mt, ct, rfl⟩ := hr4.shape
  obtain ⟨W4, hW4⟩ : ∃ W4, W4 = w4.alloc (.cells #[.bool nt, .slice ot mt ct] 79) := ⟨_, rfl⟩
  have hb44 : Below w4.heap.size w4 W4 := by rw [hW4]; exact (Below.refl _ _).alloc (Nat.le_refl _) _
  have hD4 : Duo W4 w4.heap.size (.bool nt) (.slice ot mt ct) := by rw [hW4]; exact Duo.new w4 _ _ rfl
  have hb24 : Below W2.heap.size W2 W4 := K3.out.2.2.1.trans ((hb4.trans (hb44.mono hb4.size)).mono K3.out.2.2.1.size)
  have hIt := (hr4.below hb44)
  have h9 := K2.out.2.2.2.2.2.2.2.2
  have K4 : Hid (Duo W4 w4.heap.size (.bool nt) (.slice ot mt ct) ∧ IsI W4 (.agg #[.bool nt, .slice ot mt ct]) (lf + lf) (max (L + M + 3) (L + M + 3) + 1) ∧ Below W2.heap.size W2 W4 ∧ w4.heap.size < W4.heap.size ∧ W2.heap.size ≤ w4.heap.size) := Hid.mk ⟨hD4, hIt, hb24, by rw [hW4]; simp, Nat.le_trans K3.out.2.2.1.size hb4.size⟩
  obtain ⟨a0, a1, b0, b1, d0, d1⟩ := HC.out W4 hb24
  obtain ⟨t0, t1, -, -⟩ := hD4.cells
  have HW4 := Hid.mk hW4
  clear hr4 hb4 hb44 hD4 hb24 hIt hW4 e0 e1 h9
  obtain ⟨C, hC⟩ : ∃ C : Bool, C = decide (y < 2 * lf ∨ (dv < 0 ∧ 2 * lf = y)) := ⟨_, rfl⟩
  have HLB : Hid (0 ≤ lf ∧ lf < y) := Hid.mk (by rw [HLF.out, HDV.out]; exact fdiv_left hy)
  have HCC := Hid.mk hC
  clear hC
  go_upto_region 6 with fail
  rw [← HW4.out]
  go_cut [33] from 22 to 33 (fun xv wx => xv = .bool C ∧ Below W4.heap.size W4 wx)
  case first =>
   go_wp2_with fail
   refine (isSmaller_any _ _ y (lf + lf) M _ _ (K2.out.2.2.2.2.2.1.below K4.out.2.2.1) K4.out.2.1).mono ?_
   rintro e w5 ⟨rfl, hb5⟩
   have hl1 := HLB.out.1
   by_cases h1 : y < 2 * lf
   ·have hd : decide (y.natAbs < (lf + lf).natAbs) = true := decide_eq_true (by omega)
    rw [hd]
    have HX := Hid.mk (And.intro h1 hb5)
    clear h1 hb5 hd hl1
    go_wp2_with fail
    go_meet
    case rel => exact ⟨by rw [HCC.out]; exact congrArg Value.bool (decide_eq_true (.inl HX.out.1)).symm, HX.out.2⟩
   ·have hd : decide (y.natAbs < (lf + lf).natAbs) = false := decide_eq_false (by omega)
    rw [hd]
    have HX := Hid.mk (And.intro h1 hb5)
    clear h1 hb5 hd hl1
    obtain ⟨-, -, b0, b1, d0, d1⟩ := HC.out w5 (K4.out.2.2.1.trans (HX.out.2.mono K4.out.2.2.1.size))
    go_wp2_with fail
    refine (isBelow_any _ dv (L + 1) _ (K2.out.2.2.2.2.2.2.1.below (K4.out.2.2.1.trans (HX.out.2.mono K4.out.2.2.1.size)))).mono ?_
    rintro e w6 ⟨rfl, hb6⟩
    have hb46 : Below W4.heap.size W4 w6 := HX.out.2.trans (hb6.mono HX.out.2.size)
    by_cases h2 : dv < 0
    ·have hd : decide (dv < 0) = true := decide_eq_true h2
     rw [hd]
     have HY := Hid.mk (And.intro h2 hb46)
     clear h2 hb46 hd hb6 b0 b1 d0 d1 t0 t1
     obtain ⟨-, -, b0, b1, -, -⟩ := HC.out w6 (K4.out.2.2.1.trans (HY.out.2.mono K4.out.2.2.1.size))
     obtain ⟨t0, t1, -, -⟩ := (K4.out.1.below HY.out.2 K4.out.2.2.2.1).cells
     go_wp2_with fail
     refine (isSame_any _ _ (lf + lf) y _ M _ (K4.out.2.1.below HY.out.2) (K2.out.2.2.2.2.2.1.below (K4.out.2.2.1.trans (HY.out.2.mono K4.out.2.2.1.size)))).mono ?_
     rintro e w7 ⟨rfl, hb7⟩
     have hd : decide (lf + lf = y) = C := by
      rw [HCC.out]
      have h3 := HX.out.1
      have h4 := HY.out.1
      by_cases h5 : lf + lf = y
      ·rw [decide_eq_true h5, decide_eq_true (.inr ⟨h4, by omega⟩)]
      ·rw [decide_eq_false h5, decide_eq_false (fun h6 => by rcases h6 with h6 | ⟨-, h6⟩ <;> omega)]
     rw [hd]
     have HZ := Hid.mk (HY.out.2.trans (hb7.mono HY.out.2.size))
     clear hb7 hd
     go_wp2_with fail
     go_meet
     case rel => exact ⟨rfl, HZ.out⟩
    ·have hd : decide (dv < 0) = false := decide_eq_false h2
     rw [hd]
     have HY := Hid.mk (And.intro h2 hb46)
     clear h2 hb46 hd hb6
     go_wp2_with fail
     go_meet
     case rel => exact ⟨by rw [HCC.out]; exact congrArg Value.bool (decide_eq_false (fun h6 => by have h7 := HX.out.1; have h8 := HY.out.1; rcases h6 with h6 | ⟨h6, -⟩ <;> omega)).symm, HY.out.2⟩
  case rest =>
   obtain ⟨rfl, hbc⟩ := hcut
   have hb2c : Below W2.heap.size W2 wc := K4.out.2.2.1.trans (hbc.mono K4.out.2.2.1.size)
   have h9 := K2.out.2.2.2.2.2.2.2.2
   have hsc := hb2c.size
   have hnear : nearF x y = if C = true then dv + 1 else dv := by
    unfold nearF
    rw [← HDV.out, ← HLF.out, HCC.out]
    simp only [decide_eq_true_eq]
   have hRc := K2.out.2.2.1.below hb2c (by omega)
   have KC : Hid (Below w.heap.size w wc ∧ IsI wc (.agg #[.bool nd, .slice od nl cd]) dv (L + 1) ∧ Duo wc (w.heap.size + 1 + 1) (.bool false) (.slice none 0 0) ∧ Duo wc w2.heap.size (.bool nd) (.slice od nl cd) ∧ w.heap.size + 3 ≤ w2.heap.size ∧ w2.heap.size < wc.heap.size) := Hid.mk ⟨K2.out.2.2.2.2.2.2.2.1.trans (hb2c.mono (by omega)), K2.out.2.2.2.2.2.2.1.below hb2c, hRc, K2.out.2.2.2.1.below hb2c (by omega), by omega, by omega⟩
   have HNR := Hid.mk hnear
   clear hbc hb2c hnear a0 a1 b0 b1 d0 d1 t0 t1 hRc h9 hsc
   obtain ⟨d0, d1, -, -⟩ := KC.out.2.2.2.1.cells
   cases C
   ·obtain ⟨s0, s1, s2, s3⟩ := KC.out.2.2.1.cells
    go_wp2_with fail
    obtain ⟨g1, g2, -, -⟩ := (KC.out.2.2.1.put (.bool nd) (.slice od nl cd)).cells
    refine bodyPost_ret (v := .agg #[.bool nd, .slice od nl cd]) ?_ rfl ?_
    ·(simp [results, Tryz.results185, go_sem, g1, g2]; done)
    ·refine ⟨_, rfl, ?_, (KC.out.1.setCell (by simp; omega) _).setCell (by simp; omega) _⟩
     have h1 := KC.out.2.1.duo KC.out.2.2.1 (.bool nd) (.slice od nl cd)
     rw [HNR.out, if_neg (by simp)]
     exact h1.mono (by omega)
   ·go_upto_region 7 with fail
    go_region_with (first
     | (go_at_call 62; refine (fromOne_any _).mono ?_; rintro e9 w5 ⟨x5, rfl, hx5, hb5⟩; obtain ⟨nb5, so5, n5, cp5, rfl⟩ := hx5.shape; have hbW5 : Below wc.heap.size wc w5 := ((Below.refl _ _).drew).trans hb5; have hd5 := (KC.out.2.2.2.1.below hbW5 KC.out.2.2.2.2.2).cells; clear hb5)
     | (go_at_call 67; refine (add_any _ _ dv 1 (L + 1) 2 _ (KC.out.2.1.below hbW5) hx5 (by omega) (by omega)).mono ?_; rintro e9 w6 ⟨x6, rfl, hx6, hb6⟩; obtain ⟨nb6, so6, n6, cp6, rfl⟩ := hx6.shape; have hbW6 : Below wc.heap.size wc w6 := hbW5.trans (hb6.mono hbW5.size); have hR6 := KC.out.2.2.1.below hbW6 (by have := KC.out.2.2.2.2; omega); obtain ⟨s0, s1, s2, s3⟩ := hR6.cells; clear hb6))
    all_goals
     have KD := Hid.mk (And.intro hx6 (And.intro hR6 (KC.out.1.trans (hbW6.mono (by have := KC.out.1.size; omega)))))
     clear hx6 hR6 hbW6
     go_wp2_with fail
     obtain ⟨g1, g2, -, -⟩ := (KD.out.2.1.put (.bool nb6) (.slice so6 n6 cp6)).cells
     refine bodyPost_ret (v := .agg #[.bool nb6, .slice so6 n6 cp6]) ?_ rfl ?_
     ·(simp [results, Tryz.results185, go_sem, g1, g2]; done)
     ·refine ⟨_, rfl, ?_, (KD.out.2.2.setCell (by simp; omega) _).setCell (by simp; omega) _⟩
      have h1 := KD.out.1.duo KD.out.2.1 (.bool nb6) (.slice so6 n6 cp6)
      rw [HNR.out, if_pos trivial]
      exact h1.mono (by omega)
open Go.RowKit
theorem LD_le (L n : Nat) (hn : n ≤ 4) : LD L n ≤ 4 * L + 12 := by
 obtain rfl | rfl | rfl | rfl | rfl : n = 0 ∨ n = 1 ∨ n = 2 ∨ n = 3 ∨ n = 4 := by omega
 all_goals (simp only [LD]; omega)
theorem prod_ip {n c : Nat} {zs fs ms : List Int} (hf : ∀ i j, i < c → j < n → ent n fs i j = ent c zs j i) (hp : ProdOf n c n zs fs ms) : Rep n ms (fun i j => ipE c (ent c zs i) (ent c zs j)) := by
 intro i j hi hj
 have h1 := hp i j hi hj
 rw [h1]
 unfold ipE
 rw [dot_sm]
 exact sm_congr c fun k hk => by
  have := hf k j hk hj
  rw [← this]
  rfl
set_option maxRecDepth 100000 in
set_option maxHeartbeats 4000000 in
theorem volume_any (v : Value) (r c n : Nat) (zs : List Int) (L : Nat) (w : World) (hm : IsM w v r c zs L) (hn : n ≤ r) (hn4 : n ≤ 4) (hc4 : c ≤ 4) (hL : L ≤ 1000) :
 Calls Tryz.prog 184 #[v, .int .i64 n] w fun e w' => ∃ x, e = .returned x ∧ IntOut w w' x (volE c (ent c zs) n) (8 * L + 40) := by
 have HM := Hid.mk hm
 obtain ⟨hr, hc, sl, rfl, hg0⟩ := hm
 obtain ⟨ao, cap, rfl, -⟩ := hg0.shape
 obtain ⟨RC, hRC⟩ : ∃ RC, RC = r * c := ⟨_, rfl⟩
 rw [← hRC] at hg0 HM ⊢
 have HRC := Hid.mk hRC
 have HG := Hid.mk hg0
 clear hg0 hRC
 go_enter Tryz.func184, Tryz.ntmps184
 go_wp2_with fail
 obtain ⟨W0, hW0⟩ : ∃ W0, W0 = (w.alloc (.cells #[.int .i64 r, .int .i64 c, .slice ao RC cap] 66)).alloc (.cells #[.bool false, .slice none 0 0] 79) := ⟨_, rfl⟩
 have hz0 : W0.heap.size = w.heap.size + 2 := by rw [hW0]; simp
 have hb0 : Below w.heap.size w W0 := by rw [hW0]; repeat (first | exact Below.refl _ _ | refine Below.alloc ?_ (by simp <;> omega) _)
 have hR : Duo W0 (w.heap.size + 1) (.bool false) (.slice none 0 0) := by rw [hW0]; exact Duo.new _ _ _ (by simp)
 rw [← hW0]
 have F := Hid.mk (And.intro hR (And.intro hb0 hz0))
 clear hR hb0 hW0 hz0
 refine (fromCells_part n c RC _ zs L _ (by omega) hc (by rw [HRC.out]; exact Nat.mul_le_mul_right c hn) (HG.out.below F.out.2.1)).mono ?_
 rintro e w1 ⟨g, rfl, hg1, hG1, hb1⟩
 obtain ⟨NC, hNC⟩ : ∃ NC, NC = n * c := ⟨_, rfl⟩
 rw [← hNC] at hG1 ⊢
 obtain ⟨W1, hW1⟩ : ∃ W1, W1 = w1.alloc (.cells #[.int .i64 n, .int .i64 c, .slice (some ⟨g, 0, none⟩) NC NC] 66) := ⟨_, rfl⟩
 have hb11 : Below w1.heap.size w1 W1 := by rw [hW1]; exact (Below.refl _ _).alloc (Nat.le_refl _) _
 have hs1 := hb1.size
 have hz0 := F.out.2.2
 have hM1 : IsM W1 (.agg #[.int .i64 n, .int .i64 c, .slice (some ⟨g, 0, none⟩) NC NC]) n c (zs.take NC) L := by
  refine ⟨by omega, hc, .slice (some ⟨g, 0, none⟩) NC NC, rfl, ?_⟩
  have h1 := hG1.below hb11
  rw [hNC] at h1 ⊢
  exact h1
 have hB1 : W1.heap[w1.heap.size]? = some (.cells #[.int .i64 n, .int .i64 c, .slice (some ⟨g, 0, none⟩) NC NC] 66 (0, 0)) := by rw [hW1]; exact heap_alloc_new w1 _
 have hbW : Below W0.heap.size W0 W1 := hb1.trans (hb11.mono hs1)
 have HNC := Hid.mk hNC
 have HW1 := Hid.mk hW1
 have K1 : Hid (IsM W1 (.agg #[.int .i64 n, .int .i64 c, .slice (some ⟨g, 0, none⟩) NC NC]) n c (zs.take NC) L ∧ Duo W1 (w.heap.size + 1) (.bool false) (.slice none 0 0) ∧ Below w.heap.size w W1 ∧ w.heap.size + 2 ≤ w1.heap.size ∧ w1.heap.size < W1.heap.size) := Hid.mk ⟨hM1, F.out.1.below hbW (by omega), F.out.2.1.trans (hbW.mono (by omega)), by omega, by rw [hW1]; simp⟩
 have HC : Hid (∀ w', Below W1.heap.size W1 w' → w'.cell? ⟨w1.heap.size, 0, none⟩ = some (.int .i64 n) ∧ w'.cell? ⟨w1.heap.size, 1, none⟩ = some (.int .i64 c) ∧ w'.cell? ⟨w1.heap.size, 2, none⟩ = some (.slice (some ⟨g, 0, none⟩) NC NC)) := Hid.mk fun w' hb => by
  have h1 : w'.heap[w1.heap.size]? = _ := (hb.block _ (by rw [hW1]; simp)).trans hB1
  refine ⟨?_, ?_, ?_⟩ <;> simp [World.cell?, h1]
 clear hG1 hb1 hNC hW1 hb11 hs1 hz0 hM1 hB1 hbW hg1
 go_upto_region 2 with fail
 rw [← HW1.out]
 obtain ⟨x0, x1, x2⟩ := HC.out W1 (Below.refl _ _)
 go_region_with (first
  | (go_at_call 105; refine (flip_any _ n c (zs.take NC) L _ (K1.out.1.below (Below.refl _ _).drew)).mono ?_; rintro e9 w5 ⟨x5, fs, rfl, hx5, hf5, hb5⟩; have hbW5 : Below W1.heap.size W1 w5 := ((Below.refl _ _).drew).trans hb5; obtain ⟨y0, y1, y2⟩ := HC.out w5 hbW5; clear hb5)
  | (go_at_call 86; refine (gtimes_any _ _ n c n (zs.take NC) fs L _ (K1.out.1.below hbW5) hx5 (by omega)).mono ?_; rintro e9 w6 ⟨x6, rfl, ⟨ms, hx6, hp6⟩, hb6⟩; have hbW6 : Below W1.heap.size W1 w6 := hbW5.trans (hb6.mono hbW5.size); replace hp6 := prod_ip hf5 hp6; clear hb6)
  | (go_at_call 39; refine (det_any n _ ms _ (L + L + 1 + c) _ hx6 hp6 (by have := LD_le (L + L + 1 + c) n hn4; omega) (by omega)).mono ?_; rintro e9 w7 ⟨x7, rfl, hx7, hb7⟩; obtain ⟨nb7, so7, n7, cp7, rfl⟩ := hx7.shape; have hbW7 : Below W1.heap.size W1 w7 := hbW6.trans (hb7.mono hbW6.size); have hR7 := K1.out.2.1.below hbW7 (by have := K1.out.2.2.2; omega); obtain ⟨s0, s1, s2, s3⟩ := hR7.cells; clear hb7))
 all_goals
  have KD := Hid.mk (And.intro hx7 (And.intro hR7 (K1.out.2.2.1.trans (hbW7.mono (by have := K1.out.2.2.1.size; omega)))))
  clear hx7 hR7 hbW7
  go_wp2_with fail
  obtain ⟨g1, g2, -, -⟩ := (KD.out.2.1.put (.bool nb7) (.slice so7 n7 cp7)).cells
  refine bodyPost_ret (v := .agg #[.bool nb7, .slice so7 n7 cp7]) ?_ rfl ?_
  ·(simp [results, Tryz.results184, go_sem, g1, g2]; done)
  ·refine ⟨_, rfl, ?_, (KD.out.2.2.setCell (by simp) _).setCell (by simp) _⟩
   have h1 := KD.out.1.duo KD.out.2.1 (.bool nb7) (.slice so7 n7 cp7)
   have h2 : volE c (ent c zs) n = detF n (fun i j => ipE c (ent c (zs.take NC) i) (ent c (zs.take NC) j)) := by
    refine detF_upto n _ _ (fun i j hi hj => sm_congr c fun k hk => ?_)
    have e1 := idx_lt hi hk
    have e2 := idx_lt hj hk
    unfold ent
    rw [HNC.out]
    simp [List.getD, e1, e2]
   rw [h2]
   exact h1.mono (by have := LD_le (L + L + 1 + c) n hn4; omega)
open Go.RowKit
theorem prod_ip2 {n c : Nat} {zs ys fs ms : List Int} (hf : ∀ i j, i < c → j < n → ent n fs i j = ent c zs j i) (hp : ProdOf n c n ys fs ms) : Rep n ms (fun i j => ipE c (ent c ys i) (ent c zs j)) := by
 intro i j hi hj
 have h1 := hp i j hi hj
 rw [h1]
 unfold ipE
 rw [dot_sm]
 exact sm_congr c fun k hk => by
  have := hf k j hk hj
  rw [← this]
  rfl
set_option maxRecDepth 100000 in
set_option maxHeartbeats 4000000 in
theorem lean_any (v : Value) (r c row q : Nat) (zs : List Int) (L : Nat) (w : World) (hm : IsM w v r c zs L) (hrow : row < r) (hq : q < r) (hq4 : q ≤ 3) (hc4 : c ≤ 4) (hL : L ≤ 1000) :
 Calls Tryz.prog 183 #[v, .int .i64 row, .int .i64 q] w fun e w' => ∃ x, e = .returned x ∧ IntOut w w' x (lamE c (ent c zs) row q) (8 * L + 40) := by
 have HM := Hid.mk hm
 obtain ⟨hr, hc, sl, rfl, hg0⟩ := hm
 obtain ⟨ao, cap, rfl, -⟩ := hg0.shape
 obtain ⟨RC, hRC⟩ : ∃ RC, RC = r * c := ⟨_, rfl⟩
 rw [← hRC] at hg0 HM ⊢
 have HRC := Hid.mk hRC
 have HG := Hid.mk hg0
 obtain ⟨n, hn⟩ : ∃ n, n = q + 1 := ⟨_, rfl⟩
 have hqn : (q : Int) + 1 = (n : Nat) := by omega
 have HN := Hid.mk hn
 have hn4 : n ≤ 4 := by omega
 have hnr : n ≤ r := by omega
 have hqlt : q < n := by omega
 clear hg0 hRC hn
 go_enter Tryz.func183, Tryz.ntmps183
 go_wp2_with fail
 obtain ⟨W0, hW0⟩ : ∃ W0, W0 = (w.alloc (.cells #[.int .i64 r, .int .i64 c, .slice ao RC cap] 66)).alloc (.cells #[.bool false, .slice none 0 0] 79) := ⟨_, rfl⟩
 have hz0 : W0.heap.size = w.heap.size + 2 := by rw [hW0]; simp
 have hb0 : Below w.heap.size w W0 := by rw [hW0]; repeat (first | exact Below.refl _ _ | refine Below.alloc ?_ (by simp <;> omega) _)
 have hR : Duo W0 (w.heap.size + 1) (.bool false) (.slice none 0 0) := by rw [hW0]; exact Duo.new _ _ _ (by simp)
 have hT : Tri W0 w.heap.size 0 (.int .i64 r) (.int .i64 c) (.slice ao RC cap) := by
  have h1 : W0.heap[w.heap.size]? = some (.cells #[.int .i64 r, .int .i64 c, .slice ao RC cap] 66 (0, 0)) := by
   rw [hW0]
   exact (((Below.refl _ _).alloc (Nat.le_refl _) _).block _ (by simp)).trans (heap_alloc_new w _)
  refine ⟨?_, ?_, ?_⟩ <;> simp [World.cell?, h1]
 rw [← hW0]
 have F := Hid.mk (And.intro hR (And.intro hb0 (And.intro hz0 hT)))
 clear hR hb0 hW0 hz0 hT
 refine (fromCells_part n c RC _ zs L _ (by omega) hc (by rw [HRC.out]; exact Nat.mul_le_mul_right c hnr) (HG.out.below F.out.2.1)).mono ?_
 rintro e w1 ⟨g1, rfl, hg1, hG1, hb1⟩
 obtain ⟨NC, hNC⟩ : ∃ NC, NC = n * c := ⟨_, rfl⟩
 have HNC := Hid.mk hNC
 rw [← hNC] at hG1 ⊢
 obtain ⟨W1, hW1⟩ : ∃ W1, W1 = w1.alloc (.cells #[.int .i64 n, .int .i64 c, .slice (some ⟨g1, 0, none⟩) NC NC] 66) := ⟨_, rfl⟩
 have hb11 : Below w1.heap.size w1 W1 := by rw [hW1]; exact (Below.refl _ _).alloc (Nat.le_refl _) _
 have hs1 := hb1.size
 have hz0 := F.out.2.2.1
 have hM1 : IsM W1 (.agg #[.int .i64 n, .int .i64 c, .slice (some ⟨g1, 0, none⟩) NC NC]) n c (zs.take NC) L := by
  refine ⟨by omega, hc, .slice (some ⟨g1, 0, none⟩) NC NC, rfl, ?_⟩
  have h1 := hG1.below hb11
  rw [hNC] at h1 ⊢
  exact h1
 have hbW : Below W0.heap.size W0 W1 := hb1.trans (hb11.mono hs1)
 have hT1 : Tri W1 w1.heap.size 0 (.int .i64 n) (.int .i64 c) (.slice (some ⟨g1, 0, none⟩) NC NC) := by
  have h1 : W1.heap[w1.heap.size]? = some (.cells #[.int .i64 n, .int .i64 c, .slice (some ⟨g1, 0, none⟩) NC NC] 66 (0, 0)) := by rw [hW1]; exact heap_alloc_new w1 _
  refine ⟨?_, ?_, ?_⟩ <;> simp [World.cell?, h1]
 have hs11 : w1.heap.size < W1.heap.size := by rw [hW1]; simp
 have HW1 := Hid.mk hW1
 have K1 : Hid (IsM W1 (.agg #[.int .i64 n, .int .i64 c, .slice (some ⟨g1, 0, none⟩) NC NC]) n c (zs.take NC) L ∧ Tri W1 w1.heap.size 0 (.int .i64 n) (.int .i64 c) (.slice (some ⟨g1, 0, none⟩) NC NC) ∧ Below W0.heap.size W0 W1 ∧ Below w.heap.size w W1) := Hid.mk ⟨hM1, hT1, hbW, F.out.2.1.trans (hbW.mono (by omega))⟩
 obtain ⟨a0, a1, a2⟩ := F.out.2.2.2.later hbW
 simp only [Nat.zero_add] at a1 a2
 clear hG1 hb1 hNC hb11 hM1 hbW hg1 hT1 hW1
 go_upto_region 2 with fail
 rw [← HW1.out]
 go_wp2_with fail
 refine (fromCells_part n c RC _ zs L _ (by omega) hc (by rw [HRC.out]; exact Nat.mul_le_mul_right c hnr) (HG.out.below K1.out.2.2.2)).mono ?_
 rintro e w2 ⟨g, rfl, hg2, hG2, hb2⟩
 obtain ⟨W2, hW2⟩ : ∃ W2, W2 = w2.alloc (.cells #[.int .i64 n, .int .i64 c, .slice (some ⟨g, 0, none⟩) (n * c) (n * c)] 66) := ⟨_, rfl⟩
 have hb22 : Below w2.heap.size w2 W2 := by rw [hW2]; exact (Below.refl _ _).alloc (Nat.le_refl _) _
 have hs2 := hb2.size
 have hs22 : w2.heap.size < W2.heap.size := by rw [hW2]; simp
 have hg2l : g < w2.heap.size := hG2.ty.lt
 have hMO : MatO W2 w2.heap.size 0 g n c (zs.take (n * c)) L := by
  refine ⟨by omega, hc, ?_, hG2.below hb22⟩
  have h1 : W2.heap[w2.heap.size]? = some (.cells #[.int .i64 n, .int .i64 c, .slice (some ⟨g, 0, none⟩) (n * c) (n * c)] 66 (0, 0)) := by rw [hW2]; exact heap_alloc_new w2 _
  refine ⟨?_, ?_, ?_⟩ <;> simp [World.cell?, h1]
 have hb12 : Below W1.heap.size W1 W2 := hb2.trans (hb22.mono hs2)
 have HW2 := Hid.mk hW2
 have K2 : Hid (MatO W2 w2.heap.size 0 g n c (zs.take (n * c)) L ∧ Below W1.heap.size W1 W2 ∧ Below w.heap.size w W2) := Hid.mk ⟨hMO, hb12, K1.out.2.2.2.trans (hb12.mono (by omega))⟩
 have hpg : w2.heap.size ≠ g := by omega
 clear hG2 hb2 hW2 hb22 hMO hb12 a0 a1 a2
 go_upto_region 3 with fail
 rw [← HW2.out]
 go_wp2_with fail
 go_loopw [9] (fun iv wr => ∃ (e : Nat) (ns : List Int), e ≤ c ∧ iv = .int .i64 e ∧ Hid (MatO wr w2.heap.size 0 g n c ns L ∧ W2.grownBy wr (some g) ∧ ∀ i j, i < n → j < c → ent c ns i j = if i = q ∧ j < e then ent c zs row j else ent c zs i j)) (fun iv _ => c - (intOf iv).toNat)
 case atStart =>
  refine ⟨0, _, Nat.zero_le _, rfl, Hid.mk ⟨K2.out.1, World.grownBy.refl _ _, fun i j hi hj => ?_⟩⟩
  rw [if_neg (by omega)]
  unfold ent
  have := idx_lt hi hj
  simp [List.getD, this]
 case round =>
  rename World => wi
  obtain ⟨e, ns, he, rfl, HJ⟩ := hrel
  have hwi := HJ.out.2.1.size
  have hb1i : Below W1.heap.size W1 wi := K2.out.2.1.trans (below_of_grown HJ.out.2.1 (by omega) (by omega))
  have hbi : Below w.heap.size w wi := K1.out.2.2.2.trans (hb1i.mono (by omega))
  have hb0i : Below W0.heap.size W0 wi := K1.out.2.2.1.trans (hb1i.mono (by omega))
  obtain ⟨q0, q1, q2⟩ := F.out.2.2.2.later hb0i
  simp only [Nat.zero_add] at q1 q2
  have KI := Hid.mk (And.intro hbi (And.intro hb1i hb0i))
  clear hbi hb1i hb0i
  by_cases hec : e < c
  ·have hei : (e : Int) < (c : Int) := by omega
   go_wp2_with fail
   refine (at_in _ r c row e zs L _ (HM.out.below KI.out.1) hrow hec).mono ?_
   rintro e9 w3 ⟨x, rfl, hx, hb3⟩
   obtain ⟨nb2, so2, n2, cp2, rfl⟩ := hx.shape
   have hb33 := (Below.refl w3.heap.size w3).alloc (Nat.le_refl _) (.cells #[.bool nb2, .slice so2 n2 cp2] 79)
   have hbB := hb3.trans (hb33.mono hb3.size)
   have K3 := Hid.mk (And.intro hbB (hx.below hb33))
   clear hx hb3 hb33 hbB q0 q1 q2
   go_wp2_with fail
   refine (set_m w2.heap.size 0 g n c q e ns L _ _ _ (HJ.out.1.later K3.out.1) hpg K3.out.2 hqlt hec).mono ?_
   rintro e9 w4 ⟨rfl, hM4, hgr4, -⟩
   have K4 := Hid.mk (And.intro hM4 (grown_trans (grown_below HJ.out.2.1 K3.out.1) hgr4))
   clear hM4 hgr4
   go_wp2_with fail
   go_roundw
   case measure => simp [intOf]; omega
   case rel =>
    refine ⟨e + 1, _, by omega, by go_num, Hid.mk ⟨K4.out.1, K4.out.2, fun i j hi hj => ?_⟩⟩
    rw [ent_set ns n c HJ.out.1.len q e i j _ hqlt hec hj]
    by_cases hij : i = q ∧ j = e
    ·obtain ⟨rfl, rfl⟩ := hij
     rw [if_pos ⟨rfl, rfl⟩, if_pos ⟨rfl, by omega⟩]
     rfl
    ·rw [if_neg hij, HJ.out.2.2 i j hi hj]
     by_cases h1 : i = q ∧ j < e
     ·rw [if_pos h1, if_pos ⟨h1.1, by omega⟩]
     ·rw [if_neg h1, if_neg (fun h2 => by
       rcases h2 with ⟨h3, h4⟩
       exact (by by_cases h5 : j = e; exact hij ⟨h3, h5⟩; exact h1 ⟨h3, by omega⟩))]
  ·obtain rfl : e = c := by omega
   have hR : Duo wi (w.heap.size + 1) (.bool false) (.slice none 0 0) := F.out.1.below KI.out.2.2 (by omega)
   obtain ⟨y0, y1, y2⟩ := HJ.out.1.tri
   obtain ⟨z0, z1, z2⟩ := K1.out.2.1.later KI.out.2.1
   simp only [Nat.zero_add] at y1 y2 z1 z2
   have KR := Hid.mk hR
   have HC : Hid (∀ w', Below wi.heap.size wi w' → w'.cell? ⟨w2.heap.size, 0, none⟩ = some (.int .i64 n) ∧ w'.cell? ⟨w2.heap.size, 1, none⟩ = some (.int .i64 e) ∧ w'.cell? ⟨w2.heap.size, 2, none⟩ = some (.slice (some ⟨g, 0, none⟩) (n * e) (n * e))) := Hid.mk fun w' hb => by
    obtain ⟨h1, h2, h3⟩ := HJ.out.1.tri.later hb
    exact ⟨h1, by simpa using h2, by simpa using h3⟩
   clear hR
   obtain ⟨NE, hNE⟩ : ∃ NE, NE = n * e := ⟨_, rfl⟩
   have hMI := HJ.out.1.isM
   rw [← hNE] at y2 HC hMI
   have HMI := Hid.mk hMI
   clear hMI hNE
   go_upto_region 8 with fail
   go_region_with (first
    | (go_at_call 105; refine (flip_any _ n e (zs.take NC) L _ ((K1.out.1.below KI.out.2.1).below (Below.refl _ _).drew)).mono ?_; rintro e9 w5 ⟨x5, fs, rfl, hx5, hf5, hb5⟩; have hbW5 : Below wi.heap.size wi w5 := ((Below.refl _ _).drew).trans hb5; obtain ⟨u0, u1, u2⟩ := HC.out w5 hbW5; clear hb5)
    | (go_at_call 86; refine (gtimes_any _ _ n e n ns fs L _ (HMI.out.below hbW5) hx5 (by omega)).mono ?_; rintro e9 w6 ⟨x6, rfl, ⟨ms, hx6, hp6⟩, hb6⟩; have hbW6 : Below wi.heap.size wi w6 := hbW5.trans (hb6.mono hbW5.size); replace hp6 := prod_ip2 hf5 hp6; clear hb6)
    | (go_at_call 39; refine (det_any n _ ms _ (L + L + 1 + e) _ hx6 hp6 (by have := LD_le (L + L + 1 + e) n hn4; omega) (by omega)).mono ?_; rintro e9 w7 ⟨x7, rfl, hx7, hb7⟩; obtain ⟨nb7, so7, n7, cp7, rfl⟩ := hx7.shape; have hbW7 : Below wi.heap.size wi w7 := hbW6.trans (hb7.mono hbW6.size); have hR7 := KR.out.below hbW7 (by omega); obtain ⟨s0, s1, s2, s3⟩ := hR7.cells; clear hb7))
   all_goals
    have KD := Hid.mk (And.intro hx7 (And.intro hR7 (KI.out.1.trans (hbW7.mono (by have := KI.out.1.size; omega)))))
    clear hx7 hR7 hbW7
    go_wp2_with fail
    obtain ⟨g1', g2', -, -⟩ := (KD.out.2.1.put (.bool nb7) (.slice so7 n7 cp7)).cells
    refine bodyPost_ret (v := .agg #[.bool nb7, .slice so7 n7 cp7]) ?_ rfl ?_
    ·(simp [results, Tryz.results183, go_sem, g1', g2']; done)
    ·refine ⟨_, rfl, ?_, (KD.out.2.2.setCell (by simp) _).setCell (by simp) _⟩
     have h1 := KD.out.1.duo KD.out.2.1 (.bool nb7) (.slice so7 n7 cp7)
     have h2 : lamE e (ent e zs) row q = detF n (fun i j => ipE e (ent e ns i) (ent e (zs.take NC) j)) := by
      unfold lamE
      rw [← HN.out]
      refine detF_upto n _ _ (fun i j hi hj => sm_congr e fun k hk => ?_)
      have e1 := HJ.out.2.2 i k hi hk
      have e2 : ent e (zs.take NC) j k = ent e zs j k := by
       have := idx_lt hj hk
       unfold ent
       rw [HNC.out]
       simp [List.getD, this]
      rw [e1, e2]
      by_cases h3 : i = q
      ·rw [if_pos h3, if_pos ⟨h3, hk⟩]
      ·rw [if_neg h3, if_neg (fun h4 => h3 h4.1)]
     rw [h2]
     exact h1.mono (by have := LD_le (L + L + 1 + e) n hn4; omega)
end Go.Proofs.YtfjbijpagaipnabGreatDoor
