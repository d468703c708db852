import Derived.Test.YtfjbijpagaipnabGreatDoorK04
import Derived.Test.YtfjbijpagaipnabGreatDoorK05
import Derived.Deep.RegionHeld3
import Derived.Deep.CutRange
namespace Go.Proofs.YtfjbijpagaipnabGreatDoor
open Go.RowKit
def Has (z : Int) (L : Nat) : Prop := ∃ w v, IsI w v z L
theorem Has.tighten {z : Int} {L M : Nat} {w : World} {v : Value} (h : Has z L) (hx : IsI w v z M) : IsI w v z L := by
 obtain ⟨w0, v0, sl0, ys, -, k2, k3, k4, -⟩ := h
 obtain ⟨sl, xs, h1, h2, h3, h4, h5⟩ := hx
 exact ⟨sl, xs, h1, h2, h3, Nat.le_trans (len_of_val k2 h2 (by omega)) k4, h5⟩
theorem Grid.has {w : World} {sl : Value} {n L : Nat} {zs : List Int} (h : Grid w sl n zs L) (i : Nat) (hi : i < n) : Has (zs.getD i 0) L := by
 obtain ⟨h0, cs, h1, h2⟩ := h
 obtain ⟨a, b, e1, e2, e3⟩ := h2 i hi
 exact ⟨w, _, e3⟩
theorem MatO.has {w : World} {p o g r c L : Nat} {zs : List Int} (h : MatO w p o g r c zs L) {i j : Nat} (hi : i < r) (hj : j < c) : Has (ent c zs i j) L := h.grid.has _ (idx_lt hi hj)
def PartIn (W : World) (z : Int) (L : Nat) (p : Value) (wx : World) : Prop := ∃ (pb : Nat) (nq : Bool) (qo : Option Addr) (mq qcap : Nat), p = .pointer (some ⟨pb, 0, none⟩) ∧ W.heap.size ≤ pb ∧ Duo wx pb (.bool nq) (.slice qo mq qcap) ∧ IsI wx (.agg #[.bool nq, .slice qo mq qcap]) z L ∧ Below W.heap.size W wx
theorem Duo.alloc_new (w : World) : Duo (w.alloc (.cells #[.bool false, .slice none 0 0] 79)) w.heap.size (.bool false) (.slice none 0 0) := Duo.new w _ _ rfl
set_option maxRecDepth 100000 in
theorem sub_any (v u : Value) (x y : Int) (L M : Nat) (w : World) (hv : IsI w v x L) (hu : IsI w u y M) (hL : L ≤ 1000000000) (hM : M ≤ 1000000000) :
 Calls Tryz.prog 145 #[v, u] w fun e w' => ∃ r, e = .returned r ∧ IntOut w w' r (x - y) (max L M + 1) := by
 obtain ⟨nb, ao, n, cap, rfl⟩ := hv.shape
 obtain ⟨nb', bo, n', cap', rfl⟩ := hu.shape
 have H := Hid.mk (And.intro hv hu)
 clear hv hu
 go_enter Tryz.func145, Tryz.ntmps145
 go_wp2_with fail
 obtain ⟨W0, hW0⟩ : ∃ W0, W0 = ((w.alloc (.cells #[.bool nb, .slice ao n cap] 79)).alloc (.cells #[.bool nb', .slice bo n' cap'] 79)).alloc (.cells #[.bool false, .slice none 0 0] 79) := ⟨_, rfl⟩
 have hz0 : W0.heap.size = w.heap.size + 3 := by rw [hW0]; simp
 have hb0 : Below w.heap.size w W0 := by rw [hW0]; repeat (first | exact Below.refl _ _ | refine Below.alloc ?_ (by simp <;> omega) _)
 have hA : Duo W0 w.heap.size (.bool nb) (.slice ao n cap) := by
  rw [hW0]
  exact ((Duo.new w _ _ rfl).below ((Below.refl _ _).alloc (Nat.le_refl _) _) (by simp)).below ((Below.refl _ _).alloc (Nat.le_refl _) _) (by simp; omega)
 have hR : Duo W0 (w.heap.size + 1 + 1) (.bool false) (.slice none 0 0) := by rw [hW0]; exact Duo.new _ _ _ (by simp)
 rw [← hW0]
 have F := Hid.mk (And.intro hA (And.intro hR hb0))
 clear hA hR hb0 hW0
 refine (neg_any _ y M _ (H.out.2.below F.out.2.2)).mono ?_
 rintro e w1 ⟨r1, rfl, hr1, hb1⟩
 obtain ⟨nb1, so1, n1, cp1, rfl⟩ := hr1.shape
 have hb11 := (Below.refl w1.heap.size w1).alloc (Nat.le_refl _) (.cells #[.bool nb1, .slice so1 n1 cp1] 79)
 have hw1 := hb1.size
 have hbA := hb1.trans (hb11.mono hw1)
 obtain ⟨a0, a1, -, -⟩ := (F.out.1.below hbA (by omega)).cells
 have K1 := Hid.mk (And.intro hbA (hr1.below hb11))
 clear hr1 hb1 hb11 hbA
 go_wp2_with fail
 refine (add_any _ _ x (-y) L M _ ((H.out.1.below F.out.2.2).below K1.out.1) K1.out.2 hL hM).mono ?_
 rintro e w2 ⟨r2, rfl, hr2, hb2⟩
 obtain ⟨nb2, so2, n2, cp2, rfl⟩ := hr2.shape
 have hbB : Below W0.heap.size W0 w2 := K1.out.1.trans (hb2.mono K1.out.1.size)
 have hR2 := F.out.2.1.below hbB (by omega)
 obtain ⟨s0, s1, s2, s3⟩ := hR2.cells
 have K2 := Hid.mk (And.intro hr2 (And.intro hR2 (F.out.2.2.trans (hbB.mono (by omega)))))
 clear hr2 hb2 hbB hR2 a0 a1
 go_wp2_with fail
 obtain ⟨g1, g2, -, -⟩ := (K2.out.2.1.put (.bool nb2) (.slice so2 n2 cp2)).cells
 refine bodyPost_ret (v := .agg #[.bool nb2, .slice so2 n2 cp2]) ?_ rfl ?_
 ·(simp [results, Tryz.results145, go_sem, g1, g2]; done)
 ·refine ⟨_, rfl, ?_, (K2.out.2.2.setCell (by simp; omega) _).setCell (by simp; omega) _⟩
  have := K2.out.1.duo K2.out.2.1 (.bool nb2) (.slice so2 n2 cp2)
  rwa [← Int.sub_eq_add_neg] at this
set_option maxRecDepth 100000 in
set_option maxHeartbeats 4000000 in
theorem takeRow_any (p o g r c a b : Nat) (zs : List Int) (L M : Nat) (x : Value) (z : Int) (w : World) (hm : MatO w p o g r c zs L) (hx : IsI w x z M) (hL : L ≤ 200000000) (hM : M ≤ 200000000) (hpg : p ≠ g) (ha : a < r) (hb : b < r) (hab : a ≠ b) :
 Calls Tryz.prog 108 #[.pointer (some ⟨p, o, none⟩), .int .i64 a, .int .i64 b, x] w fun e w' => e = .returned (.tuple #[]) ∧ StepO w w' p o g r c (fun i j => if i = a then ent c zs a j - ent c zs b j * z else ent c zs i j) (L + M + 1) := by
 have H := Hid.mk (And.intro (hm.mono (show L ≤ L + M + 1 by omega)) (And.intro hm hx))
 have hr := hm.hr
 have hc := hm.hc
 obtain ⟨nbx, sox, nx, cpx, rfl⟩ := hx.shape
 obtain ⟨F, hF⟩ : ∃ F : Nat → Nat → Int, F = fun i j => if i = a then ent c zs a j - ent c zs b j * z else ent c zs i j := ⟨_, rfl⟩
 rw [← hF]
 have HF := Hid.mk hF
 clear hm hF hx
 go_enter Tryz.func108, Tryz.ntmps108
 go_wp2_with fail
 obtain ⟨W1, hW1⟩ : ∃ W1, W1 = w.alloc (.cells #[.bool nbx, .slice sox nx cpx] 79) := ⟨_, rfl⟩
 have hb1 : Below w.heap.size w W1 := by rw [hW1]; exact (Below.refl _ _).alloc (Nat.le_refl _) _
 have hD1 : Duo W1 w.heap.size (.bool nbx) (.slice sox nx cpx) := by rw [hW1]; exact Duo.new w _ _ rfl
 have hs1 : W1.heap.size = w.heap.size + 1 := by rw [hW1]; simp
 have hgw : g < w.heap.size := H.out.1.glt
 rw [← hW1]
 have F1 := Hid.mk (And.intro hb1 (And.intro hD1 (H.out.2.2.below hb1)))
 clear hW1 hb1 hD1
 go_loopw [8] (fun i wr => ∃ (e : Nat) (ms : List Int), e ≤ c ∧ i = .int .i64 e ∧ Hid (MatO wr p o g r c ms (L + M + 1) ∧ W1.grownBy wr (some g) ∧ KU W1 wr ∧ ∀ i j, i < r → j < c → ent c ms i j = if j < e then F i j else ent c zs i j)) (fun i _ => c - (intOf i).toNat)
 case atStart => exact ⟨0, zs, Nat.zero_le _, rfl, Hid.mk ⟨H.out.1.later F1.out.1, World.grownBy.refl _ _, KU.refl _, fun i j _ _ => by simp⟩⟩
 case round =>
  obtain ⟨e, ms, he, rfl, HI⟩ := hrel
  obtain ⟨q0, q1, q2⟩ := HI.out.1.tri
  have hgl := HI.out.1.glt
  have hpl := HI.out.1.plt
  have hwr := HI.out.2.1.size
  have hB1 : Duo wr w.heap.size (.bool nbx) (.slice sox nx cpx) := by unfold Duo; rw [HI.out.2.1.block _ (by omega) (by simp; omega)]; exact F1.out.2.1
  have hI1 := F1.out.2.2.keep HI.out.2.2.1
  have K := Hid.mk (And.intro hB1 hI1)
  clear hB1 hI1
  by_cases hec : e < c
  ·have hei : (e : Int) < (c : Int) := by omega
   have HEA : Hid (Has (ms.getD (a * c + e) 0) L ∧ Has (ms.getD (b * c + e) 0) L ∧ ms.getD (a * c + e) 0 = ent c zs a e ∧ ms.getD (b * c + e) 0 = ent c zs b e) := Hid.mk (by
    have h1 := HI.out.2.2.2 a e ha hec
    have h2 := HI.out.2.2.2 b e hb hec
    rw [if_neg (Nat.lt_irrefl e)] at h1 h2
    have h3 : ms.getD (a * c + e) 0 = ent c zs a e := h1
    have h4 : ms.getD (b * c + e) 0 = ent c zs b e := h2
    rw [h3, h4]
    exact ⟨H.out.2.1.has ha hec, H.out.2.1.has hb hec, rfl, rfl⟩)
   have HC1 := Hid.mk (show ∀ w', Below wr.heap.size wr w' → w'.cell? ⟨p, o, none⟩ = some (.int .i64 r) ∧ w'.cell? ⟨p, o + 1, none⟩ = some (.int .i64 c) ∧ w'.cell? ⟨p, o + 2, none⟩ = some (.slice (some ⟨g, 0, none⟩) (r * c) (r * c)) ∧ w'.cell? ⟨w.heap.size, 0, none⟩ = some (.bool nbx) ∧ w'.cell? ⟨w.heap.size, 1, none⟩ = some (.slice sox nx cpx) from
    fun w' hb => ⟨(HI.out.1.tri.later hb).1, (HI.out.1.tri.later hb).2.1, (HI.out.1.tri.later hb).2.2, cell_later hb K.out.1.cells.1, cell_later hb K.out.1.cells.2.1⟩)
   go_upto_region 4 with fail
   go_cut [9] from 19 to 27 (fun pv wx => PartIn wr ((ms.getD (b * c + e) 0) * z) (L + M) pv wx)
   case first =>
    go_region_held3 (fun w' => w'.cell? ⟨p, o, none⟩ = some (.int .i64 r) ∧ w'.cell? ⟨p, o + 1, none⟩ = some (.int .i64 c) ∧ w'.cell? ⟨p, o + 2, none⟩ = some (.slice (some ⟨g, 0, none⟩) (r * c) (r * c)) ∧ w'.cell? ⟨w.heap.size, 0, none⟩ = some (.bool nbx) ∧ w'.cell? ⟨w.heap.size, 1, none⟩ = some (.slice sox nx cpx))
     (exact HC1.out _ (by first | exact hbW6 | exact hbW6.alloc hbW6.size _ | exact (hbW6.setCell (Nat.le_refl _) _).setCell (Nat.le_refl _) _ | exact (hbW6.setCell hw5s _).setCell hw5s _ | exact hbW5 | exact hbW5.alloc hbW5.size _ | exact (Below.refl _ _).drew | exact ((Below.refl _ _).alloc (Nat.le_refl _) _).drew))
     (first
       | (go_at_call 64; refine (at_in _ r c b e ms (L + M + 1) _ (HI.out.1.isM.below ((Below.refl _ _).drew)) (by assumption) hec).mono ?_; rintro e9 w5 ⟨x5, rfl, hx5, hb5⟩; replace hx5 := HEA.out.2.1.tighten hx5; obtain ⟨nb5, so5, n5, cp5, rfl⟩ := hx5.shape; have hbW5 : Below wr.heap.size wr w5 := ((Below.refl _ _).drew).trans hb5; clear hb5)
       | (go_at_call 64; refine (at_in _ r c b e ms (L + M + 1) _ (HI.out.1.isM.below (((Below.refl _ _).alloc (Nat.le_refl _) _).drew)) (by assumption) hec).mono ?_; rintro e9 w5 ⟨x5, rfl, hx5, hb5⟩; replace hx5 := HEA.out.2.1.tighten hx5; obtain ⟨nb5, so5, n5, cp5, rfl⟩ := hx5.shape; have hbW5 : Below wr.heap.size wr w5 := (((Below.refl _ _).alloc (Nat.le_refl _) _).drew).trans (hb5.mono (by simp)); have hD5 : Duo w5 wr.heap.size (.bool false) (.slice none 0 0) := Duo.below (Duo.drew (Duo.alloc_new wr)) hb5 (by simp); clear hb5)
       | (go_at_call 65; refine (mul_any _ _ (ms.getD (b * c + e) 0) z L M _ hx5 (K.out.2.below hbW5) (by omega) (by omega)).mono ?_; rintro e9 w6 ⟨x6, rfl, hx6, hb6⟩; obtain ⟨nb6, so6, n6, cp6, rfl⟩ := hx6.shape; have hbW6 : Below wr.heap.size wr w6 := hbW5.trans (hb6.mono hbW5.size); have hD6 : Duo w6 wr.heap.size (.bool false) (.slice none 0 0) := hD5.below hb6 (Array.getElem?_eq_some_iff.1 hD5).1; have hD6c := hD6.cells; clear hb6)
       | (go_at_call 65; refine (mul_any _ _ (ms.getD (b * c + e) 0) z L M _ hx5 (K.out.2.below hbW5) (by omega) (by omega)).mono ?_; rintro e9 w6 ⟨x6, rfl, hx6, hb6⟩; obtain ⟨nb6, so6, n6, cp6, rfl⟩ := hx6.shape; have hbW6 : Below wr.heap.size wr w6 := hbW5.trans (hb6.mono hbW5.size); clear hb6)
       | (go_at_call 65; refine (mul_any _ _ (ms.getD (b * c + e) 0) z L M _ (hx5.below ((Below.refl w5.heap.size w5).alloc (Nat.le_refl _) _)) ((K.out.2.below hbW5).below ((Below.refl w5.heap.size w5).alloc (Nat.le_refl _) _)) (by omega) (by omega)).mono ?_; rintro e9 w6 ⟨x6, rfl, hx6, hb6⟩; obtain ⟨nb6, so6, n6, cp6, rfl⟩ := hx6.shape; have hbW6 : Below wr.heap.size wr w6 := hbW5.trans ((((Below.refl w5.heap.size w5).alloc (Nat.le_refl _) _).trans (hb6.mono (by simp))).mono hbW5.size); have hw5s := hbW5.size; have hD6 : Duo w6 w5.heap.size (.bool false) (.slice none 0 0) := Duo.below (Duo.alloc_new w5) hb6 (by simp); have hD6c := hD6.cells; clear hb6))
    all_goals
     go_wp2_with fail
     go_meet
     case rel =>
      first
       | exact ⟨_, _, _, _, _, rfl, hbW6.size, Duo.new _ _ _ rfl, hx6.below ((Below.refl _ _).alloc (Nat.le_refl _) _), hbW6.alloc hbW6.size _⟩
       | exact ⟨_, _, _, _, _, rfl, Nat.le_refl _, hD6.put _ _, hx6.duo hD6 _ _, (hbW6.setCell (Nat.le_refl _) _).setCell (Nat.le_refl _) _⟩
       | exact ⟨_, _, _, _, _, rfl, hw5s, hD6.put _ _, hx6.duo hD6 _ _, (hbW6.setCell hw5s _).setCell hw5s _⟩
   case rest =>
    rename World => w3
    obtain ⟨pb3, nb3, so3, n3, cp3, rfl, hpb3, hD3, hI3, hb3⟩ := hcut
    have hw3 := hb3.size
    have K3 := Hid.mk (And.intro hD3 (And.intro hI3 hb3))
    have HC2 := Hid.mk (show ∀ w', Below w3.heap.size w3 w' → w'.cell? ⟨p, o, none⟩ = some (.int .i64 r) ∧ w'.cell? ⟨p, o + 1, none⟩ = some (.int .i64 c) ∧ w'.cell? ⟨p, o + 2, none⟩ = some (.slice (some ⟨g, 0, none⟩) (r * c) (r * c)) ∧ w'.cell? ⟨pb3, 0, none⟩ = some (.bool nb3) ∧ w'.cell? ⟨pb3, 1, none⟩ = some (.slice so3 n3 cp3) from
     fun w' hb => ⟨((HI.out.1.tri.later hb3).later hb).1, ((HI.out.1.tri.later hb3).later hb).2.1, ((HI.out.1.tri.later hb3).later hb).2.2, cell_later hb hD3.cells.1, cell_later hb hD3.cells.2.1⟩)
    clear hD3 hI3 hb3 q0 q1 q2
    go_upto_region 5 with fail
    go_cut [10] from 27 to 35 (fun pv wx => PartIn w3 ((ms.getD (a * c + e) 0) - (ms.getD (b * c + e) 0) * z) (L + M + 1) pv wx)
    case first =>
     go_region_held3 (fun w' => w'.cell? ⟨p, o, none⟩ = some (.int .i64 r) ∧ w'.cell? ⟨p, o + 1, none⟩ = some (.int .i64 c) ∧ w'.cell? ⟨p, o + 2, none⟩ = some (.slice (some ⟨g, 0, none⟩) (r * c) (r * c)) ∧ w'.cell? ⟨pb3, 0, none⟩ = some (.bool nb3) ∧ w'.cell? ⟨pb3, 1, none⟩ = some (.slice so3 n3 cp3))
      (exact HC2.out _ (by first | exact hbW6 | exact hbW6.alloc hbW6.size _ | exact (hbW6.setCell (Nat.le_refl _) _).setCell (Nat.le_refl _) _ | exact (hbW6.setCell hw5s _).setCell hw5s _ | exact hbW5 | exact hbW5.alloc hbW5.size _ | exact (Below.refl _ _).drew | exact ((Below.refl _ _).alloc (Nat.le_refl _) _).drew))
      (first
        | (go_at_call 64; refine (at_in _ r c a e ms (L + M + 1) _ ((HI.out.1.isM.below K3.out.2.2).below ((Below.refl _ _).drew)) (by assumption) hec).mono ?_; rintro e9 w5 ⟨x5, rfl, hx5, hb5⟩; replace hx5 := HEA.out.1.tighten hx5; obtain ⟨nb5, so5, n5, cp5, rfl⟩ := hx5.shape; have hbW5 : Below w3.heap.size w3 w5 := ((Below.refl _ _).drew).trans hb5; clear hb5)
        | (go_at_call 64; refine (at_in _ r c a e ms (L + M + 1) _ ((HI.out.1.isM.below K3.out.2.2).below (((Below.refl _ _).alloc (Nat.le_refl _) _).drew)) (by assumption) hec).mono ?_; rintro e9 w5 ⟨x5, rfl, hx5, hb5⟩; replace hx5 := HEA.out.1.tighten hx5; obtain ⟨nb5, so5, n5, cp5, rfl⟩ := hx5.shape; have hbW5 : Below w3.heap.size w3 w5 := (((Below.refl _ _).alloc (Nat.le_refl _) _).drew).trans (hb5.mono (by simp)); have hD5 : Duo w5 w3.heap.size (.bool false) (.slice none 0 0) := Duo.below (Duo.drew (Duo.alloc_new w3)) hb5 (by simp); clear hb5)
        | (go_at_call 145; refine (sub_any _ _ (ms.getD (a * c + e) 0) ((ms.getD (b * c + e) 0) * z) L (L + M) _ hx5 (K3.out.2.1.below hbW5) (by omega) (by omega)).mono ?_; rintro e9 w6 ⟨x6, rfl, hx6, hb6⟩; obtain ⟨nb6, so6, n6, cp6, rfl⟩ := hx6.shape; replace hx6 := hx6.mono (show max L (L + M) + 1 ≤ L + M + 1 by omega); have hbW6 : Below w3.heap.size w3 w6 := hbW5.trans (hb6.mono hbW5.size); have hD6 : Duo w6 w3.heap.size (.bool false) (.slice none 0 0) := hD5.below hb6 (Array.getElem?_eq_some_iff.1 hD5).1; have hD6c := hD6.cells; clear hb6)
        | (go_at_call 145; refine (sub_any _ _ (ms.getD (a * c + e) 0) ((ms.getD (b * c + e) 0) * z) L (L + M) _ hx5 (K3.out.2.1.below hbW5) (by omega) (by omega)).mono ?_; rintro e9 w6 ⟨x6, rfl, hx6, hb6⟩; obtain ⟨nb6, so6, n6, cp6, rfl⟩ := hx6.shape; replace hx6 := hx6.mono (show max L (L + M) + 1 ≤ L + M + 1 by omega); have hbW6 : Below w3.heap.size w3 w6 := hbW5.trans (hb6.mono hbW5.size); clear hb6)
        | (go_at_call 145; refine (sub_any _ _ (ms.getD (a * c + e) 0) ((ms.getD (b * c + e) 0) * z) L (L + M) _ (hx5.below ((Below.refl w5.heap.size w5).alloc (Nat.le_refl _) _)) ((K3.out.2.1.below hbW5).below ((Below.refl w5.heap.size w5).alloc (Nat.le_refl _) _)) (by omega) (by omega)).mono ?_; rintro e9 w6 ⟨x6, rfl, hx6, hb6⟩; obtain ⟨nb6, so6, n6, cp6, rfl⟩ := hx6.shape; replace hx6 := hx6.mono (show max L (L + M) + 1 ≤ L + M + 1 by omega); have hbW6 : Below w3.heap.size w3 w6 := hbW5.trans ((((Below.refl w5.heap.size w5).alloc (Nat.le_refl _) _).trans (hb6.mono (by simp))).mono hbW5.size); have hw5s := hbW5.size; have hD6 : Duo w6 w5.heap.size (.bool false) (.slice none 0 0) := Duo.below (Duo.alloc_new w5) hb6 (by simp); have hD6c := hD6.cells; clear hb6))
     all_goals
      go_wp2_with fail
      go_meet
      case rel =>
       first
        | exact ⟨_, _, _, _, _, rfl, hbW6.size, Duo.new _ _ _ rfl, hx6.below ((Below.refl _ _).alloc (Nat.le_refl _) _), hbW6.alloc hbW6.size _⟩
        | exact ⟨_, _, _, _, _, rfl, Nat.le_refl _, hD6.put _ _, hx6.duo hD6 _ _, (hbW6.setCell (Nat.le_refl _) _).setCell (Nat.le_refl _) _⟩
        | exact ⟨_, _, _, _, _, rfl, hw5s, hD6.put _ _, hx6.duo hD6 _ _, (hbW6.setCell hw5s _).setCell hw5s _⟩
    case rest =>
     rename World => w4
     obtain ⟨pb4, nb4, so4, n4, cp4, rfl, hpb4, hD4, hI4, hb4⟩ := hcut
     have hw4 := hb4.size
     have hb34 : Below wr.heap.size wr w4 := K3.out.2.2.trans (hb4.mono hw3)
     obtain ⟨y0, y1, -, -⟩ := hD4.cells
     have K4 := Hid.mk (And.intro hb34 hI4)
     clear hD4 hI4 hb4 hb34
     go_wp2_with fail
     refine (set_m p o g r c a e ms (L + M + 1) _ _ _ (HI.out.1.later K4.out.1) hpg K4.out.2 ha hec).mono ?_
     rintro e9 w8 ⟨rfl, hM8, hgr8, hku8⟩
     have K8 := Hid.mk (And.intro hM8 (And.intro (grown_trans (grown_below HI.out.2.1 K4.out.1) hgr8) ((HI.out.2.2.1.trans (KU.of_below K4.out.1)).trans hku8)))
     clear hM8 hgr8 hku8 y0 y1
     go_wp2_with fail
     go_roundw
     case measure => simp [intOf]; omega
     case rel =>
      refine ⟨e + 1, _, by omega, by go_num, Hid.mk ⟨K8.out.1, K8.out.2.1, K8.out.2.2, fun i j hi hj => ?_⟩⟩
      rw [ent_set ms r c HI.out.1.len a e i j _ ha hec hj]
      have h1 := HI.out.2.2.2 i j hi hj
      by_cases hij : i = a ∧ j = e
      ·obtain ⟨rfl, rfl⟩ := hij
       rw [if_pos ⟨rfl, rfl⟩, if_pos (Nat.lt_succ_self j), HF.out, HEA.out.2.2.1, HEA.out.2.2.2]
       exact (if_pos rfl).symm
      ·rw [if_neg hij, h1]
       by_cases hje : j < e
       ·rw [if_pos hje, if_pos (by omega)]
       ·rw [if_neg hje]
        by_cases hj2 : j < e + 1
        ·rw [if_pos hj2, HF.out]
         show _ = if i = a then _ else _
         rw [if_neg (fun hia => hij ⟨hia, by omega⟩)]
        ·rw [if_neg hj2]
  ·have hei : ¬ (e : Int) < (c : Int) := by omega
   have hee : e = c := by omega
   have HEE := Hid.mk hee
   clear hee
   go_wp2_with fail
   go_end0
   refine ⟨rfl, ⟨ms, HI.out.1, fun i j hi hj => ?_⟩, grown_trans (grown_below (World.grownBy.refl _ _) F1.out.1) HI.out.2.1⟩
   rw [HI.out.2.2.2 i j hi hj, if_pos (by have := HEE.out; omega)]
open Go.RowKit
set_option maxRecDepth 100000 in
set_option maxHeartbeats 4000000 in
theorem takeCol_any (p o g r c a b : Nat) (zs : List Int) (L M : Nat) (x : Value) (z : Int) (w : World) (hm : MatO w p o g r c zs L) (hx : IsI w x z M) (hL : L ≤ 200000000) (hM : M ≤ 200000000) (hpg : p ≠ g) (ha : a < c) (hb : b < c) (hab : a ≠ b) :
 Calls Tryz.prog 107 #[.pointer (some ⟨p, o, none⟩), .int .i64 a, .int .i64 b, x] w fun e w' => e = .returned (.tuple #[]) ∧ StepO w w' p o g r c (fun i j => if j = a then ent c zs i a - ent c zs i b * z else ent c zs i j) (L + M + 1) := by
 have H := Hid.mk (And.intro (hm.mono (show L ≤ L + M + 1 by omega)) (And.intro hm hx))
 have hr := hm.hr
 have hc := hm.hc
 obtain ⟨nbx, sox, nx, cpx, rfl⟩ := hx.shape
 obtain ⟨F, hF⟩ : ∃ F : Nat → Nat → Int, F = fun i j => if j = a then ent c zs i a - ent c zs i b * z else ent c zs i j := ⟨_, rfl⟩
 rw [← hF]
 have HF := Hid.mk hF
 clear hm hF hx
 go_enter Tryz.func107, Tryz.ntmps107
 go_wp2_with fail
 obtain ⟨W1, hW1⟩ : ∃ W1, W1 = w.alloc (.cells #[.bool nbx, .slice sox nx cpx] 79) := ⟨_, rfl⟩
 have hb1 : Below w.heap.size w W1 := by rw [hW1]; exact (Below.refl _ _).alloc (Nat.le_refl _) _
 have hD1 : Duo W1 w.heap.size (.bool nbx) (.slice sox nx cpx) := by rw [hW1]; exact Duo.new w _ _ rfl
 have hs1 : W1.heap.size = w.heap.size + 1 := by rw [hW1]; simp
 have hgw : g < w.heap.size := H.out.1.glt
 rw [← hW1]
 have F1 := Hid.mk (And.intro hb1 (And.intro hD1 (H.out.2.2.below hb1)))
 clear hW1 hb1 hD1
 go_loopw [8] (fun i wr => ∃ (e : Nat) (ms : List Int), e ≤ r ∧ i = .int .i64 e ∧ Hid (MatO wr p o g r c ms (L + M + 1) ∧ W1.grownBy wr (some g) ∧ KU W1 wr ∧ ∀ i j, i < r → j < c → ent c ms i j = if i < e then F i j else ent c zs i j)) (fun i _ => r - (intOf i).toNat)
 case atStart => exact ⟨0, zs, Nat.zero_le _, rfl, Hid.mk ⟨H.out.1.later F1.out.1, World.grownBy.refl _ _, KU.refl _, fun i j _ _ => by simp⟩⟩
 case round =>
  obtain ⟨e, ms, he, rfl, HI⟩ := hrel
  obtain ⟨q0, q1, q2⟩ := HI.out.1.tri
  have hgl := HI.out.1.glt
  have hpl := HI.out.1.plt
  have hwr := HI.out.2.1.size
  have hB1 : Duo wr w.heap.size (.bool nbx) (.slice sox nx cpx) := by unfold Duo; rw [HI.out.2.1.block _ (by omega) (by simp; omega)]; exact F1.out.2.1
  have hI1 := F1.out.2.2.keep HI.out.2.2.1
  have K := Hid.mk (And.intro hB1 hI1)
  clear hB1 hI1
  by_cases hec : e < r
  ·have hei : (e : Int) < (r : Int) := by omega
   have HEA : Hid (Has (ms.getD (e * c + a) 0) L ∧ Has (ms.getD (e * c + b) 0) L ∧ ms.getD (e * c + a) 0 = ent c zs e a ∧ ms.getD (e * c + b) 0 = ent c zs e b) := Hid.mk (by
    have h1 := HI.out.2.2.2 e a hec ha
    have h2 := HI.out.2.2.2 e b hec hb
    rw [if_neg (Nat.lt_irrefl e)] at h1 h2
    have h3 : ms.getD (e * c + a) 0 = ent c zs e a := h1
    have h4 : ms.getD (e * c + b) 0 = ent c zs e b := h2
    rw [h3, h4]
    exact ⟨H.out.2.1.has hec ha, H.out.2.1.has hec hb, rfl, rfl⟩)
   have HC1 := Hid.mk (show ∀ w', Below wr.heap.size wr w' → w'.cell? ⟨p, o, none⟩ = some (.int .i64 r) ∧ w'.cell? ⟨p, o + 1, none⟩ = some (.int .i64 c) ∧ w'.cell? ⟨p, o + 2, none⟩ = some (.slice (some ⟨g, 0, none⟩) (r * c) (r * c)) ∧ w'.cell? ⟨w.heap.size, 0, none⟩ = some (.bool nbx) ∧ w'.cell? ⟨w.heap.size, 1, none⟩ = some (.slice sox nx cpx) from
    fun w' hb => ⟨(HI.out.1.tri.later hb).1, (HI.out.1.tri.later hb).2.1, (HI.out.1.tri.later hb).2.2, cell_later hb K.out.1.cells.1, cell_later hb K.out.1.cells.2.1⟩)
   go_upto_region 4 with fail
   go_cut [9] from 19 to 27 (fun pv wx => PartIn wr ((ms.getD (e * c + b) 0) * z) (L + M) pv wx)
   case first =>
    go_region_held3 (fun w' => w'.cell? ⟨p, o, none⟩ = some (.int .i64 r) ∧ w'.cell? ⟨p, o + 1, none⟩ = some (.int .i64 c) ∧ w'.cell? ⟨p, o + 2, none⟩ = some (.slice (some ⟨g, 0, none⟩) (r * c) (r * c)) ∧ w'.cell? ⟨w.heap.size, 0, none⟩ = some (.bool nbx) ∧ w'.cell? ⟨w.heap.size, 1, none⟩ = some (.slice sox nx cpx))
     (exact HC1.out _ (by first | exact hbW6 | exact hbW6.alloc hbW6.size _ | exact (hbW6.setCell (Nat.le_refl _) _).setCell (Nat.le_refl _) _ | exact (hbW6.setCell hw5s _).setCell hw5s _ | exact hbW5 | exact hbW5.alloc hbW5.size _ | exact (Below.refl _ _).drew | exact ((Below.refl _ _).alloc (Nat.le_refl _) _).drew))
     (first
       | (go_at_call 64; refine (at_in _ r c e b ms (L + M + 1) _ (HI.out.1.isM.below ((Below.refl _ _).drew)) hec (by assumption)).mono ?_; rintro e9 w5 ⟨x5, rfl, hx5, hb5⟩; replace hx5 := HEA.out.2.1.tighten hx5; obtain ⟨nb5, so5, n5, cp5, rfl⟩ := hx5.shape; have hbW5 : Below wr.heap.size wr w5 := ((Below.refl _ _).drew).trans hb5; clear hb5)
       | (go_at_call 64; refine (at_in _ r c e b ms (L + M + 1) _ (HI.out.1.isM.below (((Below.refl _ _).alloc (Nat.le_refl _) _).drew)) hec (by assumption)).mono ?_; rintro e9 w5 ⟨x5, rfl, hx5, hb5⟩; replace hx5 := HEA.out.2.1.tighten hx5; obtain ⟨nb5, so5, n5, cp5, rfl⟩ := hx5.shape; have hbW5 : Below wr.heap.size wr w5 := (((Below.refl _ _).alloc (Nat.le_refl _) _).drew).trans (hb5.mono (by simp)); have hD5 : Duo w5 wr.heap.size (.bool false) (.slice none 0 0) := Duo.below (Duo.drew (Duo.alloc_new wr)) hb5 (by simp); clear hb5)
       | (go_at_call 65; refine (mul_any _ _ (ms.getD (e * c + b) 0) z L M _ hx5 (K.out.2.below hbW5) (by omega) (by omega)).mono ?_; rintro e9 w6 ⟨x6, rfl, hx6, hb6⟩; obtain ⟨nb6, so6, n6, cp6, rfl⟩ := hx6.shape; have hbW6 : Below wr.heap.size wr w6 := hbW5.trans (hb6.mono hbW5.size); have hD6 : Duo w6 wr.heap.size (.bool false) (.slice none 0 0) := hD5.below hb6 (Array.getElem?_eq_some_iff.1 hD5).1; have hD6c := hD6.cells; clear hb6)
       | (go_at_call 65; refine (mul_any _ _ (ms.getD (e * c + b) 0) z L M _ hx5 (K.out.2.below hbW5) (by omega) (by omega)).mono ?_; rintro e9 w6 ⟨x6, rfl, hx6, hb6⟩; obtain ⟨nb6, so6, n6, cp6, rfl⟩ := hx6.shape; have hbW6 : Below wr.heap.size wr w6 := hbW5.trans (hb6.mono hbW5.size); clear hb6)
       | (go_at_call 65; refine (mul_any _ _ (ms.getD (e * c + b) 0) z L M _ (hx5.below ((Below.refl w5.heap.size w5).alloc (Nat.le_refl _) _)) ((K.out.2.below hbW5).below ((Below.refl w5.heap.size w5).alloc (Nat.le_refl _) _)) (by omega) (by omega)).mono ?_; rintro e9 w6 ⟨x6, rfl, hx6, hb6⟩; obtain ⟨nb6, so6, n6, cp6, rfl⟩ := hx6.shape; have hbW6 : Below wr.heap.size wr w6 := hbW5.trans ((((Below.refl w5.heap.size w5).alloc (Nat.le_refl _) _).trans (hb6.mono (by simp))).mono hbW5.size); have hw5s := hbW5.size; have hD6 : Duo w6 w5.heap.size (.bool false) (.slice none 0 0) := Duo.below (Duo.alloc_new w5) hb6 (by simp); have hD6c := hD6.cells; clear hb6))
    all_goals
     go_wp2_with fail
     go_meet
     case rel =>
      first
       | exact ⟨_, _, _, _, _, rfl, hbW6.size, Duo.new _ _ _ rfl, hx6.below ((Below.refl _ _).alloc (Nat.le_refl _) _), hbW6.alloc hbW6.size _⟩
       | exact ⟨_, _, _, _, _, rfl, Nat.le_refl _, hD6.put _ _, hx6.duo hD6 _ _, (hbW6.setCell (Nat.le_refl _) _).setCell (Nat.le_refl _) _⟩
       | exact ⟨_, _, _, _, _, rfl, hw5s, hD6.put _ _, hx6.duo hD6 _ _, (hbW6.setCell hw5s _).setCell hw5s _⟩
   case rest =>
    rename World => w3
    obtain ⟨pb3, nb3, so3, n3, cp3, rfl, hpb3, hD3, hI3, hb3⟩ := hcut
    have hw3 := hb3.size
    have K3 := Hid.mk (And.intro hD3 (And.intro hI3 hb3))
    have HC2 := Hid.mk (show ∀ w', Below w3.heap.size w3 w' → w'.cell? ⟨p, o, none⟩ = some (.int .i64 r) ∧ w'.cell? ⟨p, o + 1, none⟩ = some (.int .i64 c) ∧ w'.cell? ⟨p, o + 2, none⟩ = some (.slice (some ⟨g, 0, none⟩) (r * c) (r * c)) ∧ w'.cell? ⟨pb3, 0, none⟩ = some (.bool nb3) ∧ w'.cell? ⟨pb3, 1, none⟩ = some (.slice so3 n3 cp3) from
     fun w' hb => ⟨((HI.out.1.tri.later hb3).later hb).1, ((HI.out.1.tri.later hb3).later hb).2.1, ((HI.out.1.tri.later hb3).later hb).2.2, cell_later hb hD3.cells.1, cell_later hb hD3.cells.2.1⟩)
    clear hD3 hI3 hb3 q0 q1 q2
    go_upto_region 5 with fail
    go_cut [10] from 27 to 35 (fun pv wx => PartIn w3 ((ms.getD (e * c + a) 0) - (ms.getD (e * c + b) 0) * z) (L + M + 1) pv wx)
    case first =>
     go_region_held3 (fun w' => w'.cell? ⟨p, o, none⟩ = some (.int .i64 r) ∧ w'.cell? ⟨p, o + 1, none⟩ = some (.int .i64 c) ∧ w'.cell? ⟨p, o + 2, none⟩ = some (.slice (some ⟨g, 0, none⟩) (r * c) (r * c)) ∧ w'.cell? ⟨pb3, 0, none⟩ = some (.bool nb3) ∧ w'.cell? ⟨pb3, 1, none⟩ = some (.slice so3 n3 cp3))
      (exact HC2.out _ (by first | exact hbW6 | exact hbW6.alloc hbW6.size _ | exact (hbW6.setCell (Nat.le_refl _) _).setCell (Nat.le_refl _) _ | exact (hbW6.setCell hw5s _).setCell hw5s _ | exact hbW5 | exact hbW5.alloc hbW5.size _ | exact (Below.refl _ _).drew | exact ((Below.refl _ _).alloc (Nat.le_refl _) _).drew))
      (first
        | (go_at_call 64; refine (at_in _ r c e a ms (L + M + 1) _ ((HI.out.1.isM.below K3.out.2.2).below ((Below.refl _ _).drew)) hec (by assumption)).mono ?_; rintro e9 w5 ⟨x5, rfl, hx5, hb5⟩; replace hx5 := HEA.out.1.tighten hx5; obtain ⟨nb5, so5, n5, cp5, rfl⟩ := hx5.shape; have hbW5 : Below w3.heap.size w3 w5 := ((Below.refl _ _).drew).trans hb5; clear hb5)
        | (go_at_call 64; refine (at_in _ r c e a ms (L + M + 1) _ ((HI.out.1.isM.below K3.out.2.2).below (((Below.refl _ _).alloc (Nat.le_refl _) _).drew)) hec (by assumption)).mono ?_; rintro e9 w5 ⟨x5, rfl, hx5, hb5⟩; replace hx5 := HEA.out.1.tighten hx5; obtain ⟨nb5, so5, n5, cp5, rfl⟩ := hx5.shape; have hbW5 : Below w3.heap.size w3 w5 := (((Below.refl _ _).alloc (Nat.le_refl _) _).drew).trans (hb5.mono (by simp)); have hD5 : Duo w5 w3.heap.size (.bool false) (.slice none 0 0) := Duo.below (Duo.drew (Duo.alloc_new w3)) hb5 (by simp); clear hb5)
        | (go_at_call 145; refine (sub_any _ _ (ms.getD (e * c + a) 0) ((ms.getD (e * c + b) 0) * z) L (L + M) _ hx5 (K3.out.2.1.below hbW5) (by omega) (by omega)).mono ?_; rintro e9 w6 ⟨x6, rfl, hx6, hb6⟩; obtain ⟨nb6, so6, n6, cp6, rfl⟩ := hx6.shape; replace hx6 := hx6.mono (show max L (L + M) + 1 ≤ L + M + 1 by omega); have hbW6 : Below w3.heap.size w3 w6 := hbW5.trans (hb6.mono hbW5.size); have hD6 : Duo w6 w3.heap.size (.bool false) (.slice none 0 0) := hD5.below hb6 (Array.getElem?_eq_some_iff.1 hD5).1; have hD6c := hD6.cells; clear hb6)
        | (go_at_call 145; refine (sub_any _ _ (ms.getD (e * c + a) 0) ((ms.getD (e * c + b) 0) * z) L (L + M) _ hx5 (K3.out.2.1.below hbW5) (by omega) (by omega)).mono ?_; rintro e9 w6 ⟨x6, rfl, hx6, hb6⟩; obtain ⟨nb6, so6, n6, cp6, rfl⟩ := hx6.shape; replace hx6 := hx6.mono (show max L (L + M) + 1 ≤ L + M + 1 by omega); have hbW6 : Below w3.heap.size w3 w6 := hbW5.trans (hb6.mono hbW5.size); clear hb6)
        | (go_at_call 145; refine (sub_any _ _ (ms.getD (e * c + a) 0) ((ms.getD (e * c + b) 0) * z) L (L + M) _ (hx5.below ((Below.refl w5.heap.size w5).alloc (Nat.le_refl _) _)) ((K3.out.2.1.below hbW5).below ((Below.refl w5.heap.size w5).alloc (Nat.le_refl _) _)) (by omega) (by omega)).mono ?_; rintro e9 w6 ⟨x6, rfl, hx6, hb6⟩; obtain ⟨nb6, so6, n6, cp6, rfl⟩ := hx6.shape; replace hx6 := hx6.mono (show max L (L + M) + 1 ≤ L + M + 1 by omega); have hbW6 : Below w3.heap.size w3 w6 := hbW5.trans ((((Below.refl w5.heap.size w5).alloc (Nat.le_refl _) _).trans (hb6.mono (by simp))).mono hbW5.size); have hw5s := hbW5.size; have hD6 : Duo w6 w5.heap.size (.bool false) (.slice none 0 0) := Duo.below (Duo.alloc_new w5) hb6 (by simp); have hD6c := hD6.cells; clear hb6))
     all_goals
      go_wp2_with fail
      go_meet
      case rel =>
       first
        | exact ⟨_, _, _, _, _, rfl, hbW6.size, Duo.new _ _ _ rfl, hx6.below ((Below.refl _ _).alloc (Nat.le_refl _) _), hbW6.alloc hbW6.size _⟩
        | exact ⟨_, _, _, _, _, rfl, Nat.le_refl _, hD6.put _ _, hx6.duo hD6 _ _, (hbW6.setCell (Nat.le_refl _) _).setCell (Nat.le_refl _) _⟩
        | exact ⟨_, _, _, _, _, rfl, hw5s, hD6.put _ _, hx6.duo hD6 _ _, (hbW6.setCell hw5s _).setCell hw5s _⟩
    case rest =>
     rename World => w4
     obtain ⟨pb4, nb4, so4, n4, cp4, rfl, hpb4, hD4, hI4, hb4⟩ := hcut
     have hw4 := hb4.size
     have hb34 : Below wr.heap.size wr w4 := K3.out.2.2.trans (hb4.mono hw3)
     obtain ⟨y0, y1, -, -⟩ := hD4.cells
     have K4 := Hid.mk (And.intro hb34 hI4)
     clear hD4 hI4 hb4 hb34
     go_wp2_with fail
     refine (set_m p o g r c e a ms (L + M + 1) _ _ _ (HI.out.1.later K4.out.1) hpg K4.out.2 hec ha).mono ?_
     rintro e9 w8 ⟨rfl, hM8, hgr8, hku8⟩
     have K8 := Hid.mk (And.intro hM8 (And.intro (grown_trans (grown_below HI.out.2.1 K4.out.1) hgr8) ((HI.out.2.2.1.trans (KU.of_below K4.out.1)).trans hku8)))
     clear hM8 hgr8 hku8 y0 y1
     go_wp2_with fail
     go_roundw
     case measure => simp [intOf]; omega
     case rel =>
      refine ⟨e + 1, _, by omega, by go_num, Hid.mk ⟨K8.out.1, K8.out.2.1, K8.out.2.2, fun i j hi hj => ?_⟩⟩
      rw [ent_set ms r c HI.out.1.len e a i j _ hec ha hj]
      have h1 := HI.out.2.2.2 i j hi hj
      by_cases hij : i = e ∧ j = a
      ·obtain ⟨rfl, rfl⟩ := hij
       rw [if_pos ⟨rfl, rfl⟩, if_pos (Nat.lt_succ_self i), HF.out, HEA.out.2.2.1, HEA.out.2.2.2]
       exact (if_pos rfl).symm
      ·rw [if_neg hij, h1]
       by_cases hje : i < e
       ·rw [if_pos hje, if_pos (by omega)]
       ·rw [if_neg hje]
        by_cases hj2 : i < e + 1
        ·rw [if_pos hj2, HF.out]
         show _ = if j = a then _ else _
         rw [if_neg (fun hja => hij ⟨by omega, hja⟩)]
        ·rw [if_neg hj2]
  ·have hei : ¬ (e : Int) < (r : Int) := by omega
   have hee : e = r := by omega
   have HEE := Hid.mk hee
   clear hee
   go_wp2_with fail
   go_end0
   refine ⟨rfl, ⟨ms, HI.out.1, fun i j hi hj => ?_⟩, grown_trans (grown_below (World.grownBy.refl _ _) F1.out.1) HI.out.2.1⟩
   rw [HI.out.2.2.2 i j hi hj, if_pos (by have := HEE.out; omega)]
end Go.Proofs.YtfjbijpagaipnabGreatDoor
