import Derived.Test.YtfjbijpagaipnabGreatDoorT12
import Derived.Test.YtfjbijpagaipnabGreatDoorT09
namespace Go.Proofs.YtfjbijpagaipnabGreatDoor
open Go.RowKit
set_option maxRecDepth 100000 in
set_option maxHeartbeats 4000000 in
theorem takeCol_any (p o g r c a b : Nat) (zs : List Int) (L M : Nat) (x : Value) (z : Int) (w : World) (hm : MatO w p o g r c zs L) (hx : IsI w x z M) (hL : L ≤ 200000000) (hM : M ≤ 200000000) (hpg : p ≠ g) (ha : a < c) (hb : b < c) (hab : a ≠ b) :
 Calls Tryz.prog 107 #[.pointer (some ⟨p, o, none⟩), .int .i64 a, .int .i64 b, x] w fun e w' => e = .returned (.tuple #[]) ∧ StepO w w' p o g r c (fun i j => if j = a then ent c zs i a - ent c zs i b * z else ent c zs i j) (L + M + 1) := by
 have H := Hid.mk (And.intro (hm.mono (show L ≤ L + M + 1 by omega)) (And.intro hm hx))
 have hr := hm.hr
 have hc := hm.hc
 obtain ⟨nbx, sox, nx, cpx, rfl⟩ := hx.shape
 obtain ⟨F, hF⟩ : ∃ F : Nat → Nat → Int, F = fun i j => if j = a then ent c zs i a - ent c zs i b * z else ent c zs i j := ⟨_, rfl⟩
 rw [← hF]
 have HF := Hid.mk hF
 clear hm hF hx
 go_enter Tryz.func107, Tryz.ntmps107
 go_wp2_with fail
 obtain ⟨W1, hW1⟩ : ∃ W1, W1 = w.alloc (.cells #[.bool nbx, .slice sox nx cpx] 79) := ⟨_, rfl⟩
 have hb1 : Below w.heap.size w W1 := by rw [hW1]; exact (Below.refl _ _).alloc (Nat.le_refl _) _
 have hD1 : Duo W1 w.heap.size (.bool nbx) (.slice sox nx cpx) := by rw [hW1]; exact Duo.new w _ _ rfl
 have hs1 : W1.heap.size = w.heap.size + 1 := by rw [hW1]; simp
 have hgw : g < w.heap.size := H.out.1.glt
 rw [← hW1]
 have F1 := Hid.mk (And.intro hb1 (And.intro hD1 (H.out.2.2.below hb1)))
 clear hW1 hb1 hD1
 go_loopw [8] (fun i wr => ∃ (e : Nat) (ms : List Int), e ≤ r ∧ i = .int .i64 e ∧ Hid (MatO wr p o g r c ms (L + M + 1) ∧ W1.grownBy wr (some g) ∧ KU W1 wr ∧ ∀ i j, i < r → j < c → ent c ms i j = if i < e then F i j else ent c zs i j)) (fun i _ => r - (intOf i).toNat)
 case atStart => exact ⟨0, zs, Nat.zero_le _, rfl, Hid.mk ⟨H.out.1.later F1.out.1, World.grownBy.refl _ _, KU.refl _, fun i j _ _ => by simp⟩⟩
 case round =>
  obtain ⟨e, ms, he, rfl, HI⟩ := hrel
  obtain ⟨q0, q1, q2⟩ := HI.out.1.tri
  have hgl := HI.out.1.glt
  have hpl := HI.out.1.plt
  have hwr := HI.out.2.1.size
  have hB1 : Duo wr w.heap.size (.bool nbx) (.slice sox nx cpx) := by unfold Duo; rw [HI.out.2.1.block _ (by omega) (by simp; omega)]; exact F1.out.2.1
  have hI1 := F1.out.2.2.keep HI.out.2.2.1
  have K := Hid.mk (And.intro hB1 hI1)
  clear hB1 hI1
  by_cases hec : e < r
  ·have hei : (e : Int) < (r : Int) := by omega
   have HEA : Hid (Has (ms.getD (e * c + a) 0) L ∧ Has (ms.getD (e * c + b) 0) L ∧ ms.getD (e * c + a) 0 = ent c zs e a ∧ ms.getD (e * c + b) 0 = ent c zs e b) := Hid.mk (by
    have h1 := HI.out.2.2.2 e a hec ha
    have h2 := HI.out.2.2.2 e b hec hb
    rw [if_neg (Nat.lt_irrefl e)] at h1 h2
    have h3 : ms.getD (e * c + a) 0 = ent c zs e a := h1
    have h4 : ms.getD (e * c + b) 0 = ent c zs e b := h2
    rw [h3, h4]
    exact ⟨H.out.2.1.has hec ha, H.out.2.1.has hec hb, rfl, rfl⟩)
   have HC1 := Hid.mk (show ∀ w', Below wr.heap.size wr w' → w'.cell? ⟨p, o, none⟩ = some (.int .i64 r) ∧ w'.cell? ⟨p, o + 1, none⟩ = some (.int .i64 c) ∧ w'.cell? ⟨p, o + 2, none⟩ = some (.slice (some ⟨g, 0, none⟩) (r * c) (r * c)) ∧ w'.cell? ⟨w.heap.size, 0, none⟩ = some (.bool nbx) ∧ w'.cell? ⟨w.heap.size, 1, none⟩ = some (.slice sox nx cpx) from
    fun w' hb => ⟨(HI.out.1.tri.later hb).1, (HI.out.1.tri.later hb).2.1, (HI.out.1.tri.later hb).2.2, cell_later hb K.out.1.cells.1, cell_later hb K.out.1.cells.2.1⟩)
   go_upto_region 4 with fail
   go_cut [9] from 19 to 27 (fun pv wx => PartIn wr ((ms.getD (e * c + b) 0) * z) (L + M) pv wx)
   case first =>
    go_region_held3 (fun w' => w'.cell? ⟨p, o, none⟩ = some (.int .i64 r) ∧ w'.cell? ⟨p, o + 1, none⟩ = some (.int .i64 c) ∧ w'.cell? ⟨p, o + 2, none⟩ = some (.slice (some ⟨g, 0, none⟩) (r * c) (r * c)) ∧ w'.cell? ⟨w.heap.size, 0, none⟩ = some (.bool nbx) ∧ w'.cell? ⟨w.heap.size, 1, none⟩ = some (.slice sox nx cpx))
     (exact HC1.out _ (by first | exact hbW6 | exact hbW6.alloc hbW6.size _ | exact (hbW6.setCell (Nat.le_refl _) _).setCell (Nat.le_refl _) _ | exact (hbW6.setCell hw5s _).setCell hw5s _ | exact hbW5 | exact hbW5.alloc hbW5.size _ | exact (Below.refl _ _).drew | exact ((Below.refl _ _).alloc (Nat.le_refl _) _).drew))
     (first
       | (go_at_call 64; refine (at_in _ r c e b ms (L + M + 1) _ (HI.out.1.isM.below ((Below.refl _ _).drew)) hec (by assumption)).mono ?_; rintro e9 w5 ⟨x5, rfl, hx5, hb5⟩; replace hx5 := HEA.out.2.1.tighten hx5; obtain ⟨nb5, so5, n5, cp5, rfl⟩ := hx5.shape; have hbW5 : Below wr.heap.size wr w5 := ((Below.refl _ _).drew).trans hb5; clear hb5)
       | (go_at_call 64; refine (at_in _ r c e b ms (L + M + 1) _ (HI.out.1.isM.below (((Below.refl _ _).alloc (Nat.le_refl _) _).drew)) hec (by assumption)).mono ?_; rintro e9 w5 ⟨x5, rfl, hx5, hb5⟩; replace hx5 := HEA.out.2.1.tighten hx5; obtain ⟨nb5, so5, n5, cp5, rfl⟩ := hx5.shape; have hbW5 : Below wr.heap.size wr w5 := (((Below.refl _ _).alloc (Nat.le_refl _) _).drew).trans (hb5.mono (by simp)); have hD5 : Duo w5 wr.heap.size (.bool false) (.slice none 0 0) := Duo.below (Duo.drew (Duo.alloc_new wr)) hb5 (by simp); clear hb5)
       | (go_at_call 65; refine (mul_any _ _ (ms.getD (e * c + b) 0) z L M _ hx5 (K.out.2.below hbW5) (by omega) (by omega)).mono ?_; rintro e9 w6 ⟨x6, rfl, hx6, hb6⟩; obtain ⟨nb6, so6, n6, cp6, rfl⟩ := hx6.shape; have hbW6 : Below wr.heap.size wr w6 := hbW5.trans (hb6.mono hbW5.size); have hD6 : Duo w6 wr.heap.size (.bool false) (.slice none 0 0) := hD5.below hb6 (Array.getElem?_eq_some_iff.1 hD5).1; have hD6c := hD6.cells; clear hb6)
       | (go_at_call 65; refine (mul_any _ _ (ms.getD (e * c + b) 0) z L M _ hx5 (K.out.2.below hbW5) (by omega) (by omega)).mono ?_; rintro e9 w6 ⟨x6, rfl, hx6, hb6⟩; obtain ⟨nb6, so6, n6, cp6, rfl⟩ := hx6.shape; have hbW6 : Below wr.heap.size wr w6 := hbW5.trans (hb6.mono hbW5.size); clear hb6)
       | (go_at_call 65; refine (mul_any _ _ (ms.getD (e * c + b) 0) z L M _ (hx5.below ((Below.refl w5.heap.size w5).alloc (Nat.le_refl _) _)) ((K.out.2.below hbW5).below ((Below.refl w5.heap.size w5).alloc (Nat.le_refl _) _)) (by omega) (by omega)).mono ?_; rintro e9 w6 ⟨x6, rfl, hx6, hb6⟩; obtain ⟨nb6, so6, n6, cp6, rfl⟩ := hx6.shape; have hbW6 : Below wr.heap.size wr w6 := hbW5.trans ((((Below.refl w5.heap.size w5).alloc (Nat.le_refl _) _).trans (hb6.mono (by simp))).mono hbW5.size); have hw5s := hbW5.size; have hD6 : Duo w6 w5.heap.size (.bool false) (.slice none 0 0) := Duo.below (Duo.alloc_new w5) hb6 (by simp); have hD6c := hD6.cells; clear hb6))
    all_goals
     go_wp2_with fail
     go_meet
     case rel =>
      first
       | exact ⟨_, _, _, _, _, rfl, hbW6.size, Duo.new _ _ _ rfl, hx6.below ((Below.refl _ _).alloc (Nat.le_refl _) _), hbW6.alloc hbW6.size _⟩
       | exact ⟨_, _, _, _, _, rfl, Nat.le_refl _, hD6.put _ _, hx6.duo hD6 _ _, (hbW6.setCell (Nat.le_refl _) _).setCell (Nat.le_refl _) _⟩
       | exact ⟨_, _, _, _, _, rfl, hw5s, hD6.put _ _, hx6.duo hD6 _ _, (hbW6.setCell hw5s _).setCell hw5s _⟩
   case rest =>
    rename World => w3
    obtain ⟨pb3, nb3, so3, n3, cp3, rfl, hpb3, hD3, hI3, hb3⟩ := hcut
    have hw3 := hb3.size
    have K3 := Hid.mk (And.intro hD3 (And.intro hI3 hb3))
    have HC2 := Hid.mk (show ∀ w', Below w3.heap.size w3 w' → w'.cell? ⟨p, o, none⟩ = some (.int .i64 r) ∧ w'.cell? ⟨p, o + 1, none⟩ = some (.int .i64 c) ∧ w'.cell? ⟨p, o + 2, none⟩ = some (.slice (some ⟨g, 0, none⟩) (r * c) (r * c)) ∧ w'.cell? ⟨pb3, 0, none⟩ = some (.bool nb3) ∧ w'.cell? ⟨pb3, 1, none⟩ = some (.slice so3 n3 cp3) from
     fun w' hb => ⟨((HI.out.1.tri.later hb3).later hb).1, ((HI.out.1.tri.later hb3).later hb).2.1, ((HI.out.1.tri.later hb3).later hb).2.2, cell_later hb hD3.cells.1, cell_later hb hD3.cells.2.1⟩)
    clear hD3 hI3 hb3 q0 q1 q2
    go_upto_region 5 with fail
    go_cut [10] from 27 to 35 (fun pv wx => PartIn w3 ((ms.getD (e * c + a) 0) - (ms.getD (e * c + b) 0) * z) (L + M + 1) pv wx)
    case first =>
     go_region_held3 (fun w' => w'.cell? ⟨p, o, none⟩ = some (.int .i64 r) ∧ w'.cell? ⟨p, o + 1, none⟩ = some (.int .i64 c) ∧ w'.cell? ⟨p, o + 2, none⟩ = some (.slice (some ⟨g, 0, none⟩) (r * c) (r * c)) ∧ w'.cell? ⟨pb3, 0, none⟩ = some (.bool nb3) ∧ w'.cell? ⟨pb3, 1, none⟩ = some (.slice so3 n3 cp3))
      (exact HC2.out _ (by first | exact hbW6 | exact hbW6.alloc hbW6.size _ | exact (hbW6.setCell (Nat.le_refl _) _).setCell (Nat.le_refl _) _ | exact (hbW6.setCell hw5s _).setCell hw5s _ | exact hbW5 | exact hbW5.alloc hbW5.size _ | exact (Below.refl _ _).drew | exact ((Below.refl _ _).alloc (Nat.le_refl _) _).drew))
      (first
        | (go_at_call 64; refine (at_in _ r c e a ms (L + M + 1) _ ((HI.out.1.isM.below K3.out.2.2).below ((Below.refl _ _).drew)) hec (by assumption)).mono ?_; rintro e9 w5 ⟨x5, rfl, hx5, hb5⟩; replace hx5 := HEA.out.1.tighten hx5; obtain ⟨nb5, so5, n5, cp5, rfl⟩ := hx5.shape; have hbW5 : Below w3.heap.size w3 w5 := ((Below.refl _ _).drew).trans hb5; clear hb5)
        | (go_at_call 64; refine (at_in _ r c e a ms (L + M + 1) _ ((HI.out.1.isM.below K3.out.2.2).below (((Below.refl _ _).alloc (Nat.le_refl _) _).drew)) hec (by assumption)).mono ?_; rintro e9 w5 ⟨x5, rfl, hx5, hb5⟩; replace hx5 := HEA.out.1.tighten hx5; obtain ⟨nb5, so5, n5, cp5, rfl⟩ := hx5.shape; have hbW5 : Below w3.heap.size w3 w5 := (((Below.refl _ _).alloc (Nat.le_refl _) _).drew).trans (hb5.mono (by simp)); have hD5 : Duo w5 w3.heap.size (.bool false) (.slice none 0 0) := Duo.below (Duo.drew (Duo.alloc_new w3)) hb5 (by simp); clear hb5)
        | (go_at_call 145; refine (sub_any _ _ (ms.getD (e * c + a) 0) ((ms.getD (e * c + b) 0) * z) L (L + M) _ hx5 (K3.out.2.1.below hbW5) (by omega) (by omega)).mono ?_; rintro e9 w6 ⟨x6, rfl, hx6, hb6⟩; obtain ⟨nb6, so6, n6, cp6, rfl⟩ := hx6.shape; replace hx6 := hx6.mono (show max L (L + M) + 1 ≤ L + M + 1 by omega); have hbW6 : Below w3.heap.size w3 w6 := hbW5.trans (hb6.mono hbW5.size); have hD6 : Duo w6 w3.heap.size (.bool false) (.slice none 0 0) := hD5.below hb6 (Array.getElem?_eq_some_iff.1 hD5).1; have hD6c := hD6.cells; clear hb6)
        | (go_at_call 145; refine (sub_any _ _ (ms.getD (e * c + a) 0) ((ms.getD (e * c + b) 0) * z) L (L + M) _ hx5 (K3.out.2.1.below hbW5) (by omega) (by omega)).mono ?_; rintro e9 w6 ⟨x6, rfl, hx6, hb6⟩; obtain ⟨nb6, so6, n6, cp6, rfl⟩ := hx6.shape; replace hx6 := hx6.mono (show max L (L + M) + 1 ≤ L + M + 1 by omega); have hbW6 : Below w3.heap.size w3 w6 := hbW5.trans (hb6.mono hbW5.size); clear hb6)
        | (go_at_call 145; refine (sub_any _ _ (ms.getD (e * c + a) 0) ((ms.getD (e * c + b) 0) * z) L (L + M) _ (hx5.below ((Below.refl w5.heap.size w5).alloc (Nat.le_refl _) _)) ((K3.out.2.1.below hbW5).below ((Below.refl w5.heap.size w5).alloc (Nat.le_refl _) _)) (by omega) (by omega)).mono ?_; rintro e9 w6 ⟨x6, rfl, hx6, hb6⟩; obtain ⟨nb6, so6, n6, cp6, rfl⟩ := hx6.shape; replace hx6 := hx6.mono (show max L (L + M) + 1 ≤ L + M + 1 by omega); have hbW6 : Below w3.heap.size w3 w6 := hbW5.trans ((((Below.refl w5.heap.size w5).alloc (Nat.le_refl _) _).trans (hb6.mono (by simp))).mono hbW5.size); have hw5s := hbW5.size; have hD6 : Duo w6 w5.heap.size (.bool false) (.slice none 0 0) := Duo.below (Duo.alloc_new w5) hb6 (by simp); have hD6c := hD6.cells; clear hb6))
     all_goals
      go_wp2_with fail
      go_meet
      case rel =>
       first
        | exact ⟨_, _, _, _, _, rfl, hbW6.size, Duo.new _ _ _ rfl, hx6.below ((Below.refl _ _).alloc (Nat.le_refl _) _), hbW6.alloc hbW6.size _⟩
        | exact ⟨_, _, _, _, _, rfl, Nat.le_refl _, hD6.put _ _, hx6.duo hD6 _ _, (hbW6.setCell (Nat.le_refl _) _).setCell (Nat.le_refl _) _⟩
        | exact ⟨_, _, _, _, _, rfl, hw5s, hD6.put _ _, hx6.duo hD6 _ _, (hbW6.setCell hw5s _).setCell hw5s _⟩
    case rest =>
     rename World => w4
     obtain ⟨pb4, nb4, so4, n4, cp4, rfl, hpb4, hD4, hI4, hb4⟩ := hcut
     have hw4 := hb4.size
     have hb34 : Below wr.heap.size wr w4 := K3.out.2.2.trans (hb4.mono hw3)
     obtain ⟨y0, y1, -, -⟩ := hD4.cells
     have K4 := Hid.mk (And.intro hb34 hI4)
     clear hD4 hI4 hb4 hb34
     go_wp2_with fail
     refine (set_m p o g r c e a ms (L + M + 1) _ _ _ (HI.out.1.later K4.out.1) hpg K4.out.2 hec ha).mono ?_
     rintro e9 w8 ⟨rfl, hM8, hgr8, hku8⟩
     have K8 := Hid.mk (And.intro hM8 (And.intro (grown_trans (grown_below HI.out.2.1 K4.out.1) hgr8) ((HI.out.2.2.1.trans (KU.of_below K4.out.1)).trans hku8)))
     clear hM8 hgr8 hku8 y0 y1
     go_wp2_with fail
     go_roundw
     case measure => simp [intOf]; omega
     case rel =>
      refine ⟨e + 1, _, by omega, by go_num, Hid.mk ⟨K8.out.1, K8.out.2.1, K8.out.2.2, fun i j hi hj => ?_⟩⟩
      rw [ent_set ms r c HI.out.1.len e a i j _ hec ha hj]
      have h1 := HI.out.2.2.2 i j hi hj
      by_cases hij : i = e ∧ j = a
      ·obtain ⟨rfl, rfl⟩ := hij
       rw [if_pos ⟨rfl, rfl⟩, if_pos (Nat.lt_succ_self i), HF.out, HEA.out.2.2.1, HEA.out.2.2.2]
       exact (if_pos rfl).symm
      ·rw [if_neg hij, h1]
       by_cases hje : i < e
       ·rw [if_pos hje, if_pos (by omega)]
       ·rw [if_neg hje]
        by_cases hj2 : i < e + 1
        ·rw [if_pos hj2, HF.out]
         show _ = if j = a then _ else _
         rw [if_neg (fun hja => hij ⟨by omega, hja⟩)]
        ·rw [if_neg hj2]
  ·have hei : ¬ (e : Int) < (r : Int) := by omega
   have hee : e = r := by omega
   have HEE := Hid.mk hee
   clear hee
   go_wp2_with fail
   go_end0
   refine ⟨rfl, ⟨ms, HI.out.1, fun i j hi hj => ?_⟩, grown_trans (grown_below (World.grownBy.refl _ _) F1.out.1) HI.out.2.1⟩
   rw [HI.out.2.2.2 i j hi hj, if_pos (by have := HEE.out; omega)]
def sm (f : Nat → Int) : Nat → Int
 | 0 => 0
 | t + 1 => sm f t + f t
theorem dot_sm (f g : Nat → Nat → Int) (i j t : Nat) : dot f g i j t = sm (fun k => f i k * g k j) t := by
 induction t with
 | zero => rfl
 | succ t ih => rw [dot, sm, ih]
theorem sm_congr {f g : Nat → Int} (t : Nat) (h : ∀ k, k < t → f k = g k) : sm f t = sm g t := by
 induction t with
 | zero => rfl
 | succ t ih => rw [sm, sm, ih (fun k hk => h k (by omega)), h t (by omega)]
theorem sm_lin (a b : Int) (f g : Nat → Int) (t : Nat) : sm (fun k => a * f k + b * g k) t = a * sm f t + b * sm g t := by
 induction t with
 | zero => simp [sm]
 | succ t ih => rw [sm, sm, sm, ih]; grind
theorem sm_zero {f : Nat → Int} (t : Nat) (h : ∀ k, k < t → f k = 0) : sm f t = 0 := by
 induction t with
 | zero => rfl
 | succ t ih => rw [sm, ih (fun k hk => h k (by omega)), h t (by omega)]; rfl
theorem sm_one {f : Nat → Int} (t a : Nat) (ha : a < t) (h : ∀ k, k < t → k ≠ a → f k = 0) : sm f t = f a := by
 induction t with
 | zero => omega
 | succ t ih =>
   rw [sm]
   by_cases hat : a = t
   ·subst hat
    rw [sm_zero a (fun k hk => h k (by omega) (by omega))]; omega
   ·rw [ih (by omega) (fun k hk hne => h k (by omega) hne), h t (by omega) (fun e => hat e.symm)]; omega
theorem sm_sub (f g : Nat → Int) (t : Nat) : sm f t - sm g t = sm (fun k => f k - g k) t := by
 induction t with
 | zero => rfl
 | succ t ih => rw [sm, sm, sm, ← ih]; omega
theorem sm_two {f g : Nat → Int} {t a b : Nat} (ha : a < t) (hb : b < t) (hab : a ≠ b) (h : ∀ k, k < t → k ≠ a → k ≠ b → f k = g k) (hs : f a + f b = g a + g b) : sm f t = sm g t := by
 have h1 := sm_sub f g t
 have key : ∀ t, a < t → b < t → ∀ d : Nat → Int, (∀ k, k < t → k ≠ a → k ≠ b → d k = 0) → sm d t = d a + d b := by
  intro t
  induction t with
  | zero => intro h; omega
  | succ t ih =>
    intro ha hb d hd
    rw [sm]
    by_cases hat : a = t
    ·subst hat
     rw [sm_one a b (by omega) (fun k hk hne => hd k (by omega) (by omega) hne)]; omega
    ·by_cases hbt : b = t
     ·subst hbt
      rw [sm_one b a (by omega) (fun k hk hne => hd k (by omega) hne (by omega))]
     ·rw [ih (by omega) (by omega) d (fun k hk h1 h2 => hd k (by omega) h1 h2), hd t (by omega) (fun e => hat e.symm) (fun e => hbt e.symm)]; omega
 have h2 := key t ha hb (fun k => f k - g k) (fun k hk h1 h2 => by show f k - g k = 0; rw [h k hk h1 h2]; omega)
 have h3 : (fun k => f k - g k) a + (fun k => f k - g k) b = 0 := by show f a - g a + (f b - g b) = 0; omega
 omega
def kd (i j : Nat) : Int := if i = j then 1 else 0
structure EInv (A H U W : Nat → Nat → Int) (r c : Nat) : Prop where
 ua : ∀ i j, i < r → j < c → dot U A i j r = H i j
 uw : ∀ i j, i < r → j < r → dot U W i j r = kd i j
 wu : ∀ i j, i < r → j < r → dot W U i j r = kd i j
 wh : ∀ i j, i < r → j < c → dot W H i j r = A i j
theorem EInv.start (A : Nat → Nat → Int) (r c : Nat) : EInv A A kd kd r c := by
 have h1 : ∀ (F : Nat → Nat → Int) i j, i < r → dot kd F i j r = F i j := by
  intro F i j hi
  rw [dot_sm, sm_one r i hi (fun k _ hne => by show kd i k * F k j = 0; unfold kd; rw [if_neg (fun e => hne e.symm)]; simp)]
  unfold kd; rw [if_pos rfl]; simp
 exact ⟨fun i j hi _ => h1 _ i j hi, fun i j hi _ => h1 _ i j hi, fun i j hi _ => h1 _ i j hi, fun i j hi _ => h1 _ i j hi⟩
theorem EInv.congr {A H U W A' H' U' W' : Nat → Nat → Int} {r c : Nat} (h : EInv A H U W r c) (hA : ∀ i j, i < r → j < c → A' i j = A i j) (hH : ∀ i j, i < r → j < c → H' i j = H i j) (hU : ∀ i j, i < r → j < r → U' i j = U i j) (hW : ∀ i j, i < r → j < r → W' i j = W i j) : EInv A' H' U' W' r c := by
 refine ⟨fun i j hi hj => ?_, fun i j hi hj => ?_, fun i j hi hj => ?_, fun i j hi hj => ?_⟩
 ·rw [hH i j hi hj, ← h.ua i j hi hj]; exact dot_congr r (fun k hk => hU i k hi hk) (fun k hk => hA k j hk hj)
 ·rw [← h.uw i j hi hj]; exact dot_congr r (fun k hk => hU i k hi hk) (fun k hk => hW k j hk hj)
 ·rw [← h.wu i j hi hj]; exact dot_congr r (fun k hk => hW i k hi hk) (fun k hk => hU k j hk hj)
 ·rw [hA i j hi hj, ← h.wh i j hi hj]; exact dot_congr r (fun k hk => hW i k hi hk) (fun k hk => hH k j hk hj)
def swq (a b i : Nat) : Nat := if i = a then b else if i = b then a else i
theorem swq_lt {a b i r : Nat} (ha : a < r) (hb : b < r) (hi : i < r) : swq a b i < r := by unfold swq; split <;> (try split) <;> omega
theorem swq_inj {a b i j : Nat} : swq a b i = swq a b j ↔ i = j := by
 unfold swq
 constructor
 ·intro h; split at h <;> split at h <;> (try split at h) <;> (try split at h) <;> omega
 ·rintro rfl; rfl
theorem EInv.swap {A H U W : Nat → Nat → Int} {r c : Nat} (h : EInv A H U W r c) {a b : Nat} (ha : a < r) (hb : b < r) : EInv A (fun i j => H (swq a b i) j) (fun i j => U (swq a b i) j) (fun i j => W i (swq a b j)) r c := by
 have hs : ∀ f : Nat → Int, sm (fun k => f (swq a b k)) r = sm f r := by
  intro f
  by_cases hab : a = b
  ·subst hab
   refine sm_congr r (fun k _ => ?_)
   unfold swq
   split <;> (try split) <;> simp_all
  ·refine sm_two ha hb hab (fun k _ h1 h2 => ?_) ?_
   ·unfold swq; rw [if_neg h1, if_neg h2]
   ·unfold swq; rw [if_pos rfl, if_neg (fun e => hab e.symm), if_pos rfl]; omega
 refine ⟨fun i j hi hj => ?_, fun i j hi hj => ?_, fun i j hi hj => ?_, fun i j hi hj => ?_⟩
 ·rw [← h.ua (swq a b i) j (swq_lt ha hb hi) hj, dot_sm, dot_sm]
 ·have := h.uw (swq a b i) (swq a b j) (swq_lt ha hb hi) (swq_lt ha hb hj)
  rw [dot_sm] at this ⊢
  rw [this]
  unfold kd
  simp only [swq_inj]
 ·have := h.wu i j hi hj
  rw [dot_sm] at this ⊢
  rw [← this]
  exact hs (fun k => W i k * U k j)
 ·have := h.wh i j hi hj
  rw [dot_sm] at this ⊢
  rw [← this]
  exact hs (fun k => W i k * H k j)
theorem EInv.turn {A H U W : Nat → Nat → Int} {r c : Nat} (h : EInv A H U W r c) (a : Nat) : EInv A (fun i j => if i = a then -H i j else H i j) (fun i j => if i = a then -U i j else U i j) (fun i j => if j = a then -W i j else W i j) r c := by
 have hn : ∀ (f : Nat → Int) t, sm (fun k => -f k) t = -sm f t := by
  intro f t
  induction t with
  | zero => rfl
  | succ t ih => rw [sm, sm, ih]; omega
 refine ⟨fun i j hi hj => ?_, fun i j hi hj => ?_, fun i j hi hj => ?_, fun i j hi hj => ?_⟩
 ·have := h.ua i j hi hj
  rw [dot_sm] at this ⊢
  by_cases hia : i = a
  ·simp only [hia, if_true] at this ⊢
   rw [← this, ← hn]
   exact sm_congr r (fun k _ => by grind)
  ·simp only [hia, if_false] at this ⊢
   exact this
 ·have := h.uw i j hi hj
  rw [dot_sm] at this ⊢
  by_cases hia : i = a <;> by_cases hja : j = a
  ·simp only [hia, hja, if_true] at this ⊢
   rw [← this]
   exact sm_congr r (fun k _ => by grind)
  ·have e0 : kd i j = 0 := by unfold kd; rw [if_neg (by omega)]
   rw [e0] at this ⊢
   simp only [hia, hja, if_true, if_false] at this ⊢
   have e1 := hn (fun k => U a k * W k j) r
   rw [this] at e1
   rw [show (0 : Int) = -0 from rfl, ← e1]
   exact sm_congr r (fun k _ => by grind)
  ·have e0 : kd i j = 0 := by unfold kd; rw [if_neg (by omega)]
   rw [e0] at this ⊢
   simp only [hia, hja, if_true, if_false] at this ⊢
   have e1 := hn (fun k => U i k * W k a) r
   rw [this] at e1
   rw [show (0 : Int) = -0 from rfl, ← e1]
   exact sm_congr r (fun k _ => by grind)
  ·simp only [hia, hja, if_false] at this ⊢
   exact this
 ·have := h.wu i j hi hj
  rw [dot_sm] at this ⊢
  rw [← this]
  refine sm_congr r (fun k _ => ?_)
  by_cases hka : k = a
  ·simp only [hka, if_true]; grind
  ·simp only [hka, if_false]
 ·have := h.wh i j hi hj
  rw [dot_sm] at this ⊢
  rw [← this]
  refine sm_congr r (fun k _ => ?_)
  by_cases hka : k = a
  ·simp only [hka, if_true]; grind
  ·simp only [hka, if_false]
theorem sm_take (u v x : Nat → Int) (z : Int) (r : Nat) : sm (fun k => (u k - v k * z) * x k) r = sm (fun k => u k * x k) r - z * sm (fun k => v k * x k) r := by
 induction r with
 | zero => simp [sm]
 | succ r ih => rw [sm, sm, sm, ih]; grind
theorem EInv.take {A H U W : Nat → Nat → Int} {r c : Nat} (h : EInv A H U W r c) {a b : Nat} (z : Int) (ha : a < r) (hb : b < r) (hab : a ≠ b) :
 EInv A (fun i j => if i = a then H a j - H b j * z else H i j) (fun i j => if i = a then U a j - U b j * z else U i j) (fun i j => if j = b then W i b - W i a * (-z) else W i j) r c := by
 have hba : b ≠ a := fun e => hab e.symm
 refine ⟨fun i j hi hj => ?_, fun i j hi hj => ?_, fun i j hi hj => ?_, fun i j hi hj => ?_⟩
 ·by_cases hia : i = a
  ·have h1 := h.ua a j ha hj
   have h2 := h.ua b j hb hj
   rw [dot_sm] at h1 h2 ⊢
   simp only [hia, if_true]
   rw [← h1, ← h2]
   have := sm_lin 1 (-z) (fun k => U a k * A k j) (fun k => U b k * A k j) r
   rw [show sm (fun k => U a k * A k j) r - sm (fun k => U b k * A k j) r * z = 1 * sm (fun k => U a k * A k j) r + -z * sm (fun k => U b k * A k j) r from by grind, ← this]
   exact sm_congr r (fun k _ => by grind)
  ·have h1 := h.ua i j hi hj
   rw [dot_sm] at h1 ⊢
   simp only [hia, if_false]
   exact h1
 ·have e1 : ∀ i', i' < r → dot (fun i j => U i j) (fun i j => if j = b then W i b - W i a * (-z) else W i j) i' j r = kd i' j + (if j = b then z * kd i' a else 0) := by
   intro i' hi'
   have h1 := h.uw i' j hi' hj
   have h2 := h.uw i' a hi' ha
   by_cases hjb : j = b
   ·rw [dot_sm] at h1 h2 ⊢
    simp only [hjb, if_true] at h1 ⊢
    rw [← h1, ← h2]
    have := sm_lin 1 z (fun k => U i' k * W k b) (fun k => U i' k * W k a) r
    rw [show sm (fun k => U i' k * W k b) r + z * sm (fun k => U i' k * W k a) r = 1 * sm (fun k => U i' k * W k b) r + z * sm (fun k => U i' k * W k a) r from by grind, ← this]
    exact sm_congr r (fun k _ => by grind)
   ·rw [dot_sm] at h1 ⊢
    simp only [hjb, if_false]
    rw [h1]; omega
  by_cases hia : i = a
  ·have h1 := e1 a ha
   have h2 := e1 b hb
   rw [dot_sm] at h1 h2 ⊢
   simp only [hia, if_true]
   refine (sm_take _ _ (fun k => if j = b then W k b - W k a * (-z) else W k j) z r).trans ?_
   rw [show sm (fun k => U a k * (fun k => if j = b then W k b - W k a * (-z) else W k j) k) r = kd a j + (if j = b then z * kd a a else 0) from h1, show sm (fun k => U b k * (fun k => if j = b then W k b - W k a * (-z) else W k j) k) r = kd b j + (if j = b then z * kd b a else 0) from h2]
   unfold kd
   by_cases hjb : j = b
   ·subst hjb
    simp only [if_true, if_neg hab, if_neg hba]
    omega
   ·simp only [if_neg hjb, if_neg (fun e : b = j => hjb e.symm)]
    omega
  ·have h1 := e1 i hi
   rw [dot_sm] at h1 ⊢
   simp only [hia, if_false]
   rw [h1]
   unfold kd
   rw [if_neg hia]
   split <;> omega
 ·have h1 := h.wu i j hi hj
  rw [dot_sm] at h1 ⊢
  rw [← h1]
  refine sm_two ha hb hab (fun k _ k1 k2 => ?_) ?_
  ·simp only [k1, k2, if_false]
  ·simp only [hab, hba, if_true, if_false]; grind
 ·have h1 := h.wh i j hi hj
  rw [dot_sm] at h1 ⊢
  rw [← h1]
  refine sm_two ha hb hab (fun k _ k1 k2 => ?_) ?_
  ·simp only [k1, k2, if_false]
  ·simp only [hab, hba, if_true, if_false]; grind
open Go.RowKit
theorem IsI.fit {w : World} {v : Value} {z : Int} {L K : Nat} (h : IsI w v z L) (hz : z.natAbs < 4294967296 ^ K) : IsI w v z K := by
 obtain ⟨sl, xs, h1, h2, h3, h4, h5⟩ := h
 refine ⟨sl, xs, h1, h2, h3, ?_, h5⟩
 rcases Nat.lt_or_ge K xs.length with hk | hk
 ·have := Lim_ge h2 (by rintro rfl; simp at hk)
  have : 4294967296 ^ K ≤ 4294967296 ^ (xs.length - 1) := Nat.pow_le_pow_right (by decide) (by omega)
  omega
 ·exact hk
theorem IsI.lt {w : World} {v : Value} {z : Int} {L : Nat} (h : IsI w v z L) : z.natAbs < 4294967296 ^ L := by
 obtain ⟨sl, xs, h1, h2, h3, h4, h5⟩ := h
 have := val_lt h2.1
 have : 4294967296 ^ xs.length ≤ 4294967296 ^ L := Nat.pow_le_pow_right (by decide) h4
 omega
theorem Has.lt {z : Int} {L : Nat} (h : Has z L) : z.natAbs < 4294967296 ^ L := by
 obtain ⟨w, v, h⟩ := h
 exact h.lt
theorem MatO.fit {w : World} {p o g r c L K : Nat} {zs : List Int} (h : MatO w p o g r c zs L) (hz : ∀ i j, i < r → j < c → (ent c zs i j).natAbs < 4294967296 ^ K) : MatO w p o g r c zs K := by
 refine ⟨h.hr, h.hc, h.tri, ?_⟩
 obtain ⟨h0, cs, h1, h2⟩ := h.grid
 refine ⟨h0, cs, h1, fun i hi => ?_⟩
 obtain ⟨a, b, e1, e2, e3⟩ := h2 i hi
 refine ⟨a, b, e1, e2, e3.fit ?_⟩
 have hc0 : 0 < c := by
  rcases Nat.eq_zero_or_pos c with h | h
  ·subst h; simp at hi
  ·exact h
 have := hz (i / c) (i % c) (Nat.div_lt_of_lt_mul (by rw [Nat.mul_comm]; exact hi)) (Nat.mod_lt _ hc0)
 unfold ent at this
 rwa [Nat.mul_comm, Nat.div_add_mod] at this
theorem Ty.grown {w w' : World} {b g : Nat} {t : TypeId} (h : Ty w b t) (hg : w.grownBy w' (some g)) (hne : b ≠ g) : Ty w' b t := by
 obtain ⟨c, fr, h⟩ := h
 exact ⟨c, fr, by rw [hg.block b (Array.getElem?_eq_some_iff.1 h).1 (by simpa using hne)]; exact h⟩
theorem grown_cell (w : World) (b o : Nat) (v : Value) : w.grownBy (w.setCell ⟨b, o, none⟩ v) (some b) :=
 ⟨rfl, rfl, rfl, by simp [World.setCell], fun k _ hne => Below.heap_setCell _ _ _ _ (fun e => hne (by simp [e]))⟩
theorem addr_ne {p q o : Nat} (h : q ≠ o) : (⟨p, q, none⟩ : Addr) ≠ ⟨p, o, none⟩ := fun e => by
 simp only [Addr.mk.injEq] at e
 exact h e.2.1
theorem MatO.beside {w : World} {p o g r c L q : Nat} {zs : List Int} {v : Value} (h : MatO w p o g r c zs L) (hpg : p ≠ g) (hq : o + 2 < q) (hk : KU w (w.setCell ⟨p, q, none⟩ v)) : MatO (w.setCell ⟨p, q, none⟩ v) p o g r c zs L :=
 ⟨h.hr, h.hc, ⟨(World.cell?_setCell_other _ _ _ _ (addr_ne (by omega))).trans h.tri.1, (World.cell?_setCell_other _ _ _ _ (addr_ne (by omega))).trans h.tri.2.1, (World.cell?_setCell_other _ _ _ _ (addr_ne (by omega))).trans h.tri.2.2⟩, h.grid.grown (grown_cell w p q v) (fun a m c e => by
   simp only [Value.slice.injEq, Option.some.injEq] at e
   obtain ⟨rfl, -, -⟩ := e
   exact fun e => hpg e.symm) hk⟩
structure FormO (w : World) (B p gH gU gW r c k : Nat) (hs us ws : List Int) (L : Nat) : Prop where
 H : MatO w p 0 gH r c hs L
 U : MatO w p 3 gU r r us L
 W : MatO w p 6 gW r r ws L
 rk : w.cell? ⟨p, 9, none⟩ = some (.int .i64 k)
 fr : w.frozen? ⟨p, 9, none⟩ = false
 ty : Ty w p 74
 d1 : p ≠ gH
 d2 : p ≠ gU
 d3 : p ≠ gW
 d4 : gH ≠ gU
 d5 : gH ≠ gW
 d6 : gU ≠ gW
 b1 : B ≤ gH
 b2 : B ≤ gU
 b3 : B ≤ gW
 b4 : B ≤ p
theorem FormO.later {w w' : World} {B p gH gU gW r c k : Nat} {hs us ws : List Int} {L : Nat} (h : FormO w B p gH gU gW r c k hs us ws L) (hb : Below w.heap.size w w') : FormO w' B p gH gU gW r c k hs us ws L :=
 ⟨h.H.later hb, h.U.later hb, h.W.later hb, cell_later hb h.rk, by rw [hb.frozen (p := ⟨p, 9, none⟩) h.H.plt]; exact h.fr, h.ty.below hb h.H.plt, h.d1, h.d2, h.d3, h.d4, h.d5, h.d6, h.b1, h.b2, h.b3, h.b4⟩
structure Chg3 (w w' : World) (g1 g2 g3 : Nat) : Prop where
 os : w'.os = w.os
 tape : w'.tape = w.tape
 output : w'.output = w.output
 size : w.heap.size ≤ w'.heap.size
 block : ∀ k, k < w.heap.size → k ≠ g1 → k ≠ g2 → k ≠ g3 → w'.heap[k]? = w.heap[k]?
theorem Chg3.refl (w : World) (g1 g2 g3 : Nat) : Chg3 w w g1 g2 g3 := ⟨rfl, rfl, rfl, Nat.le_refl _, fun _ _ _ _ _ => rfl⟩
theorem Chg3.trans {a b d : World} {g1 g2 g3 : Nat} (h : Chg3 a b g1 g2 g3) (k : Chg3 b d g1 g2 g3) : Chg3 a d g1 g2 g3 :=
 ⟨k.os.trans h.os, k.tape.trans h.tape, k.output.trans h.output, Nat.le_trans h.size k.size, fun i hi h1 h2 h3 => (k.block i (Nat.lt_of_lt_of_le hi h.size) h1 h2 h3).trans (h.block i hi h1 h2 h3)⟩
theorem Chg3.of_below {w w' : World} (g1 g2 g3 : Nat) (h : Below w.heap.size w w') : Chg3 w w' g1 g2 g3 := ⟨h.os, h.tape, h.output, h.size, fun k hk _ _ _ => h.block k hk⟩
theorem Chg3.of_grown {w w' : World} {g g1 g2 g3 : Nat} (h : w.grownBy w' (some g)) (hg : g = g1 ∨ g = g2 ∨ g = g3) : Chg3 w w' g1 g2 g3 :=
 ⟨h.os, h.tape, h.output, h.size, fun k hk h1 h2 h3 => h.block k hk (fun e => by injection e with e; omega)⟩
theorem Chg3.below {w w' : World} {g1 g2 g3 B : Nat} (h : Chg3 w w' g1 g2 g3) (b1 : B ≤ g1) (b2 : B ≤ g2) (b3 : B ≤ g3) (hB : B ≤ w.heap.size) : Below B w w' :=
 ⟨h.os, h.tape, h.output, h.size, fun k hk => h.block k (by omega) (by omega) (by omega) (by omega)⟩
theorem below_of_grown {w w' : World} {g B : Nat} (h : w.grownBy w' (some g)) (hB : B ≤ g) (hs : B ≤ w.heap.size) : Below B w w' :=
 (Below.refl B w).grown h hs (fun j hj => by simp at hj; omega)
theorem FormO.ble {w : World} {B p gH gU gW r c k : Nat} {hs us ws : List Int} {L : Nat} (h : FormO w B p gH gU gW r c k hs us ws L) : B ≤ w.heap.size := by
 have := h.H.plt
 have := h.b4
 omega
theorem FormO.setH {w w' : World} {B p gH gU gW r c k : Nat} {hs us ws hs' : List Int} {L : Nat} (h : FormO w B p gH gU gW r c k hs us ws L) (hm : MatO w' p 0 gH r c hs' L) (hg : w.grownBy w' (some gH)) : FormO w' B p gH gU gW r c k hs' us ws L ∧ Chg3 w w' gH gU gW := by
 have hk : KU w w' := KU.of_grown hg h.H.grid.ty (by decide)
 exact ⟨⟨hm, h.U.other hg hk h.d1 (fun e => h.d4 e.symm), h.W.other hg hk h.d1 (fun e => h.d5 e.symm), hg.cell h.rk (by simpa using h.d1), by rw [World.frozen?_of_block (hg.block p h.H.plt (by simpa using h.d1))]; exact h.fr, h.ty.grown hg h.d1, h.d1, h.d2, h.d3, h.d4, h.d5, h.d6, h.b1, h.b2, h.b3, h.b4⟩, Chg3.of_grown hg (.inl rfl)⟩
theorem FormO.setU {w w' : World} {B p gH gU gW r c k : Nat} {hs us ws us' : List Int} {L : Nat} (h : FormO w B p gH gU gW r c k hs us ws L) (hm : MatO w' p 3 gU r r us' L) (hg : w.grownBy w' (some gU)) : FormO w' B p gH gU gW r c k hs us' ws L ∧ Chg3 w w' gH gU gW := by
 have hk : KU w w' := KU.of_grown hg h.U.grid.ty (by decide)
 exact ⟨⟨h.H.other hg hk h.d2 h.d4, hm, h.W.other hg hk h.d2 (fun e => h.d6 e.symm), hg.cell h.rk (by simpa using h.d2), by rw [World.frozen?_of_block (hg.block p h.H.plt (by simpa using h.d2))]; exact h.fr, h.ty.grown hg h.d2, h.d1, h.d2, h.d3, h.d4, h.d5, h.d6, h.b1, h.b2, h.b3, h.b4⟩, Chg3.of_grown hg (.inr (.inl rfl))⟩
theorem FormO.setW {w w' : World} {B p gH gU gW r c k : Nat} {hs us ws ws' : List Int} {L : Nat} (h : FormO w B p gH gU gW r c k hs us ws L) (hm : MatO w' p 6 gW r r ws' L) (hg : w.grownBy w' (some gW)) : FormO w' B p gH gU gW r c k hs us ws' L ∧ Chg3 w w' gH gU gW := by
 have hk : KU w w' := KU.of_grown hg h.W.grid.ty (by decide)
 exact ⟨⟨h.H.other hg hk h.d3 h.d5, h.U.other hg hk h.d3 h.d6, hm, hg.cell h.rk (by simpa using h.d3), by rw [World.frozen?_of_block (hg.block p h.H.plt (by simpa using h.d3))]; exact h.fr, h.ty.grown hg h.d3, h.d1, h.d2, h.d3, h.d4, h.d5, h.d6, h.b1, h.b2, h.b3, h.b4⟩, Chg3.of_grown hg (.inr (.inr rfl))⟩
theorem FormO.mono {w : World} {B p gH gU gW r c k : Nat} {hs us ws : List Int} {L M : Nat} (h : FormO w B p gH gU gW r c k hs us ws L) (hLM : L ≤ M) : FormO w B p gH gU gW r c k hs us ws M :=
 ⟨h.H.mono hLM, h.U.mono hLM, h.W.mono hLM, h.rk, h.fr, h.ty, h.d1, h.d2, h.d3, h.d4, h.d5, h.d6, h.b1, h.b2, h.b3, h.b4⟩
theorem FormO.fit {w : World} {B p gH gU gW r c k : Nat} {hs us ws : List Int} {L K : Nat} (h : FormO w B p gH gU gW r c k hs us ws L) (h1 : ∀ i j, i < r → j < c → (ent c hs i j).natAbs < 4294967296 ^ K) (h2 : ∀ i j, i < r → j < r → (ent r us i j).natAbs < 4294967296 ^ K) (h3 : ∀ i j, i < r → j < r → (ent r ws i j).natAbs < 4294967296 ^ K) : FormO w B p gH gU gW r c k hs us ws K :=
 ⟨h.H.fit h1, h.U.fit h2, h.W.fit h3, h.rk, h.fr, h.ty, h.d1, h.d2, h.d3, h.d4, h.d5, h.d6, h.b1, h.b2, h.b3, h.b4⟩
theorem FormO.below {w w' : World} {B p gH gU gW r c k : Nat} {hs us ws : List Int} {L : Nat} (h : FormO w B p gH gU gW r c k hs us ws L) (hc : Chg3 w w' gH gU gW) : Below B w w' := hc.below h.b1 h.b2 h.b3 h.ble
theorem FormO.ku {w w' : World} {B p gH gU gW r c k : Nat} {hs us ws : List Int} {L : Nat} (h : FormO w B p gH gU gW r c k hs us ws L) (hc : Chg3 w w' gH gU gW) : KU w w' := by
 intro b arr hb
 have hb1 := (Array.getElem?_eq_some_iff.1 hb).1
 have key : ∀ g, Ty w g 79 → b ≠ g := by
  intro g hg e
  subst e
  obtain ⟨cc, fr, h2⟩ := hg
  rw [hb] at h2
  simp only [Option.some.injEq, Obj.cells.injEq] at h2
  exact absurd h2.2.1 (by decide)
 rw [hc.block b hb1 (key _ h.H.grid.ty) (key _ h.U.grid.ty) (key _ h.W.grid.ty)]
 exact hb
theorem FormO.rank {w : World} {B p gH gU gW r c k : Nat} {hs us ws : List Int} {L : Nat} (h : FormO w B p gH gU gW r c k hs us ws L) (m : Nat) {z : Int} (hz : z = (m : Int)) : FormO (w.setCell ⟨p, 9, none⟩ (.int .i64 z)) B p gH gU gW r c m hs us ws L ∧ Below B w (w.setCell ⟨p, 9, none⟩ (.int .i64 z)) := by
 subst hz
 have hk : KU w (w.setCell ⟨p, 9, none⟩ (.int .i64 m)) := KU.setCell (KU.refl _) h.ty (by decide) _
 refine ⟨⟨h.H.beside h.d1 (by omega) hk, h.U.beside h.d2 (by omega) hk, h.W.beside h.d3 (by omega) hk, ?_, by rw [World.frozen?_setCell]; exact h.fr, h.ty.setCell _ _, h.d1, h.d2, h.d3, h.d4, h.d5, h.d6, h.b1, h.b2, h.b3, h.b4⟩, (Below.refl B w).setCell h.b4 _⟩
 exact World.cell?_setCell_same _ _ _ h.rk
def FormS (w w' : World) (B p gH gU gW r c k : Nat) (fH fU fW : Nat → Nat → Int) (L : Nat) : Prop :=
 ∃ hs us ws, FormO w' B p gH gU gW r c k hs us ws L ∧ Chg3 w w' gH gU gW ∧ (∀ i j, i < r → j < c → ent c hs i j = fH i j) ∧ (∀ i j, i < r → j < r → ent r us i j = fU i j) ∧ (∀ i j, i < r → j < r → ent r ws i j = fW i j)
set_option maxRecDepth 100000 in
set_option maxHeartbeats 1000000 in
theorem fswap_any (B p gH gU gW r c k a b : Nat) (hs us ws : List Int) (L : Nat) (w : World) (h : FormO w B p gH gU gW r c k hs us ws L) (ha : a < r) (hb : b < r) :
 Calls Tryz.prog 94 #[.pointer (some ⟨p, 0, none⟩), .int .i64 a, .int .i64 b] w fun e w' => e = .returned (.tuple #[]) ∧ FormS w w' B p gH gU gW r c k (fun i j => ent c hs (swq a b i) j) (fun i j => ent r us (swq a b i) j) (fun i j => ent r ws i (swq a b j)) L := by
 have F := Hid.mk h
 clear h
 go_enter Tryz.func94, Tryz.ntmps94
 go_wp2_with fail
 refine (swapRows_any p 0 gH r c a b hs L _ F.out.H F.out.d1 ha hb).mono ?_
 rintro e w1 ⟨rfl, ⟨hs1, hM1, hf1⟩, hg1⟩
 obtain ⟨F1, b1⟩ := F.out.setH hM1 hg1
 have K1 := Hid.mk (And.intro F1 (And.intro b1 hf1))
 clear hM1 hf1 hg1 F1 b1
 go_wp2_with fail
 refine (swapRows_any p 3 gU r r a b us L _ K1.out.1.U F.out.d2 ha hb).mono ?_
 rintro e w2 ⟨rfl, ⟨us1, hM2, hf2⟩, hg2⟩
 obtain ⟨F2, b2⟩ := K1.out.1.setU hM2 hg2
 have K2 := Hid.mk (And.intro F2 (And.intro (K1.out.2.1.trans b2) hf2))
 clear hM2 hf2 hg2 F2 b2
 go_wp2_with fail
 refine (swapCols_any p 6 gW r r a b ws L _ K2.out.1.W F.out.d3 ha hb).mono ?_
 rintro e w3 ⟨rfl, ⟨ws1, hM3, hf3⟩, hg3⟩
 obtain ⟨F3, b3⟩ := K2.out.1.setW hM3 hg3
 have K3 := Hid.mk (And.intro F3 (And.intro (K2.out.2.1.trans b3) hf3))
 clear hM3 hf3 hg3 F3 b3
 go_wp2_with fail
 go_end0
 exact ⟨rfl, hs1, us1, ws1, K3.out.1, K3.out.2.1, K1.out.2.2, K2.out.2.2, K3.out.2.2⟩
set_option maxRecDepth 100000 in
set_option maxHeartbeats 1000000 in
theorem fturn_any (B p gH gU gW r c k a : Nat) (hs us ws : List Int) (L : Nat) (w : World) (h : FormO w B p gH gU gW r c k hs us ws L) (ha : a < r) :
 Calls Tryz.prog 97 #[.pointer (some ⟨p, 0, none⟩), .int .i64 a] w fun e w' => e = .returned (.tuple #[]) ∧ FormS w w' B p gH gU gW r c k (fun i j => if i = a then -ent c hs i j else ent c hs i j) (fun i j => if i = a then -ent r us i j else ent r us i j) (fun i j => if j = a then -ent r ws i j else ent r ws i j) L := by
 have F := Hid.mk h
 clear h
 have P : ∀ w' (hs1 us1 ws1 : List Int), FormO w' B p gH gU gW r c k hs1 us1 ws1 L → Chg3 w w' gH gU gW → (∀ i j, i < r → j < c → ent c hs1 i j = if i = a then -ent c hs i j else ent c hs i j) → (∀ i j, i < r → j < r → ent r us1 i j = if i = a then -ent r us i j else ent r us i j) → (∀ i j, i < r → j < r → ent r ws1 i j = if j = a then -ent r ws i j else ent r ws i j) → FormS w w' B p gH gU gW r c k (fun i j => if i = a then -ent c hs i j else ent c hs i j) (fun i j => if i = a then -ent r us i j else ent r us i j) (fun i j => if j = a then -ent r ws i j else ent r ws i j) L := fun w' hs1 us1 ws1 x1 x2 x3 x4 x5 => ⟨hs1, us1, ws1, x1, x2, x3, x4, x5⟩
 generalize FormS w = Z at P ⊢
 have HP := Hid.mk P
 clear P
 generalize (fun i j => if i = a then -ent c hs i j else ent c hs i j) = fH at HP ⊢
 generalize (fun i j => if i = a then -ent r us i j else ent r us i j) = fU at HP ⊢
 generalize (fun i j => if j = a then -ent r ws i j else ent r ws i j) = fW at HP ⊢
 go_enter Tryz.func97, Tryz.ntmps97
 go_wp2_with fail
 refine (turnRow_any p 0 gH r c a hs L _ F.out.H F.out.d1 ha).mono ?_
 rintro e w1 ⟨rfl, ⟨hs1, hM1, hf1⟩, hg1⟩
 obtain ⟨F1, b1⟩ := F.out.setH hM1 hg1
 have K1 := Hid.mk (And.intro F1 (And.intro b1 hf1))
 clear hM1 hf1 hg1 F1 b1
 go_wp2_with fail
 refine (turnRow_any p 3 gU r r a us L _ K1.out.1.U F.out.d2 ha).mono ?_
 rintro e w2 ⟨rfl, ⟨us1, hM2, hf2⟩, hg2⟩
 obtain ⟨F2, b2⟩ := K1.out.1.setU hM2 hg2
 have K2 := Hid.mk (And.intro F2 (And.intro (K1.out.2.1.trans b2) hf2))
 clear hM2 hf2 hg2 F2 b2
 go_wp2_with fail
 refine (turnCol_any p 6 gW r r a ws L _ K2.out.1.W F.out.d3 ha).mono ?_
 rintro e w3 ⟨rfl, ⟨ws1, hM3, hf3⟩, hg3⟩
 obtain ⟨F3, b3⟩ := K2.out.1.setW hM3 hg3
 have K3 := Hid.mk (And.intro F3 (And.intro (K2.out.2.1.trans b3) hf3))
 clear hM3 hf3 hg3 F3 b3
 go_wp2_with fail
 go_end0
 exact ⟨rfl, HP.out _ hs1 us1 ws1 K3.out.1 K3.out.2.1 K1.out.2.2 K2.out.2.2 K3.out.2.2⟩
end Go.Proofs.YtfjbijpagaipnabGreatDoor
