import Derived.Test.YtfjbijpagaipnabDoorQ19
import Derived.Test.YtfjbijpagaipnabDoorQ30
import Derived.Deep.CutRange
import Derived.BigRegion
namespace Go.Proofs.YtfjbijpagaipnabDoor
open Go.RowKit
theorem detF0 (e : Nat → Nat → Int) : detF 0 e = 1 := rfl
theorem detF1 (e : Nat → Nat → Int) : detF 1 e = e 0 0 := by simp [detF, sumF, signed]
theorem detF2 (e : Nat → Nat → Int) : detF 2 e = e 0 0 * e 1 1 - e 0 1 * e 1 0 := by simp [detF, sumF, signed, skip]; omega
theorem detF3 (e : Nat → Nat → Int) : detF 3 e = e 0 0 * (e 1 1 * e 2 2 - e 1 2 * e 2 1) - e 0 1 * (e 1 0 * e 2 2 - e 1 2 * e 2 0) + e 0 2 * (e 1 0 * e 2 1 - e 1 1 * e 2 0) := by
 simp [detF, sumF, signed, skip]
 grind
def Tiny (n : Nat) (e : Nat → Nat → Int) : Prop := ∀ i j, i < n → j < n → -36 ≤ e i j ∧ e i j ≤ 36
theorem mul_box {a b : Int} {A B : Nat} (h1 : -(A : Int) ≤ a) (h2 : a ≤ A) (h3 : -(B : Int) ≤ b) (h4 : b ≤ B) : -((A * B : Nat) : Int) ≤ a * b ∧ a * b ≤ ((A * B : Nat) : Int) := by
 have h5 : (a * b).natAbs ≤ A * B := by
  rw [Int.natAbs_mul]
  exact Nat.mul_le_mul (by omega) (by omega)
 omega
set_option maxRecDepth 100000 in
set_option maxHeartbeats 2000000 in
theorem kdet_zero (w : World) : Calls Tryd.prog 17 #[.slice none 0 0] w fun x w' => x = .returned (.int .i64 1) ∧ Below w.heap.size w w' := by
 go_enter Tryd.func17, Tryd.ntmps17
 go_wp2_with fail
 go_ret
 exact ⟨rfl, Below.refl _ _⟩
set_option maxRecDepth 100000 in
set_option maxHeartbeats 2000000 in
theorem kdet_one (g cap g0 : Nat) (a00 : Int) (w : World) (c0 : w.cell? ⟨g, 0, none⟩ = some (.slice (some ⟨g0, 0, none⟩) 1 1)) (c00 : w.cell? ⟨g0, 0, none⟩ = some (.int .i64 a00)) :
 Calls Tryd.prog 17 #[.slice (some ⟨g, 0, none⟩) 1 cap] w fun x w' => x = .returned (.int .i64 a00) ∧ Below w.heap.size w w' := by
 go_enter Tryd.func17, Tryd.ntmps17
 go_wp2_with fail
 go_ret
 exact ⟨rfl, Below.refl _ _⟩
set_option maxRecDepth 100000 in
set_option maxHeartbeats 2000000 in
theorem kdet_two (g cap g0 g1 : Nat) (a00 a01 a10 a11 : Int) (w : World) (c0 : w.cell? ⟨g, 0, none⟩ = some (.slice (some ⟨g0, 0, none⟩) 2 2)) (c1 : w.cell? ⟨g, 1, none⟩ = some (.slice (some ⟨g1, 0, none⟩) 2 2)) (c00 : w.cell? ⟨g0, 0, none⟩ = some (.int .i64 a00)) (c01 : w.cell? ⟨g0, 1, none⟩ = some (.int .i64 a01)) (c10 : w.cell? ⟨g1, 0, none⟩ = some (.int .i64 a10)) (c11 : w.cell? ⟨g1, 1, none⟩ = some (.int .i64 a11))
 (b1 : -1296 ≤ a00 * a11 ∧ a00 * a11 ≤ 1296) (b2 : -1296 ≤ a01 * a10 ∧ a01 * a10 ≤ 1296) :
 Calls Tryd.prog 17 #[.slice (some ⟨g, 0, none⟩) 2 cap] w fun x w' => x = .returned (.int .i64 (a00 * a11 - a01 * a10)) ∧ Below w.heap.size w w' := by
 obtain ⟨b1, b1'⟩ := b1
 obtain ⟨b2, b2'⟩ := b2
 go_enter Tryd.func17, Tryd.ntmps17
 go_wp2_with fail
 go_quiet (fail)
 go_wp2_with fail
 go_ret
 exact ⟨rfl, below_drewN (Below.refl _ _) _⟩
set_option maxRecDepth 100000 in
set_option maxHeartbeats 2000000 in
theorem kdet_nought (g cap : Nat) (w : World) : Calls Tryd.prog 17 #[.slice (some ⟨g, 0, none⟩) 0 cap] w fun x w' => x = .returned (.int .i64 1) ∧ Below w.heap.size w w' := by
 go_enter Tryd.func17, Tryd.ntmps17
 go_wp2_with fail
 go_ret
 exact ⟨rfl, Below.refl _ _⟩
set_option maxRecDepth 100000 in
set_option maxHeartbeats 4000000 in
theorem kdet_three (g cap g0 g1 g2 : Nat) (a00 a01 a02 a10 a11 a12 a20 a21 a22 : Int) (w : World) (c0 : w.cell? ⟨g, 0, none⟩ = some (.slice (some ⟨g0, 0, none⟩) 3 3)) (c1 : w.cell? ⟨g, 1, none⟩ = some (.slice (some ⟨g1, 0, none⟩) 3 3)) (c2 : w.cell? ⟨g, 2, none⟩ = some (.slice (some ⟨g2, 0, none⟩) 3 3)) (c00 : w.cell? ⟨g0, 0, none⟩ = some (.int .i64 a00)) (c01 : w.cell? ⟨g0, 1, none⟩ = some (.int .i64 a01)) (c02 : w.cell? ⟨g0, 2, none⟩ = some (.int .i64 a02)) (c10 : w.cell? ⟨g1, 0, none⟩ = some (.int .i64 a10)) (c11 : w.cell? ⟨g1, 1, none⟩ = some (.int .i64 a11)) (c12 : w.cell? ⟨g1, 2, none⟩ = some (.int .i64 a12)) (c20 : w.cell? ⟨g2, 0, none⟩ = some (.int .i64 a20)) (c21 : w.cell? ⟨g2, 1, none⟩ = some (.int .i64 a21)) (c22 : w.cell? ⟨g2, 2, none⟩ = some (.int .i64 a22))
 (b0 : -1296 ≤ a11 * a22 ∧ a11 * a22 ≤ 1296) (b1 : -1296 ≤ a12 * a21 ∧ a12 * a21 ≤ 1296) (b2 : -1296 ≤ a10 * a22 ∧ a10 * a22 ≤ 1296) (b3 : -1296 ≤ a12 * a20 ∧ a12 * a20 ≤ 1296) (b4 : -1296 ≤ a10 * a21 ∧ a10 * a21 ≤ 1296) (b5 : -1296 ≤ a11 * a20 ∧ a11 * a20 ≤ 1296) (d0 : -93312 ≤ a00 * (a11 * a22 - a12 * a21) ∧ a00 * (a11 * a22 - a12 * a21) ≤ 93312) (d1 : -93312 ≤ a01 * (a10 * a22 - a12 * a20) ∧ a01 * (a10 * a22 - a12 * a20) ≤ 93312) (d2 : -93312 ≤ a02 * (a10 * a21 - a11 * a20) ∧ a02 * (a10 * a21 - a11 * a20) ≤ 93312) :
 Calls Tryd.prog 17 #[.slice (some ⟨g, 0, none⟩) 3 cap] w fun x w' => x = .returned (.int .i64 (a00 * (a11 * a22 - a12 * a21) - a01 * (a10 * a22 - a12 * a20) + a02 * (a10 * a21 - a11 * a20))) ∧ Below w.heap.size w w' := by
 obtain ⟨b0, b0'⟩ := b0
 obtain ⟨b1, b1'⟩ := b1
 obtain ⟨b2, b2'⟩ := b2
 obtain ⟨b3, b3'⟩ := b3
 obtain ⟨b4, b4'⟩ := b4
 obtain ⟨b5, b5'⟩ := b5
 obtain ⟨d0, d0'⟩ := d0
 obtain ⟨d1, d1'⟩ := d1
 obtain ⟨d2, d2'⟩ := d2
 go_enter Tryd.func17, Tryd.ntmps17
 go_wp2_with fail
 go_quiet (fail)
 go_wp2_with fail
 go_quiet (fail)
 go_wp2_with fail
 go_quiet (fail)
 go_wp2_with fail
 go_quiet (fail)
 go_wp2_with fail
 go_ret
 exact ⟨rfl, by repeat (first | exact Below.refl _ _ | refine below_drewN ?_ _)⟩
theorem kdet_any (B n : Nat) (v : Value) (gs : Nat → Nat) (e : Nat → Nat → Int) (w : World) (h : Mat B w v n n gs e) (hn : n ≤ 3) (ht : Tiny n e) :
 Calls Tryd.prog 17 #[v] w fun x w' => x = .returned (.int .i64 (detF n e)) ∧ Below w.heap.size w w' := by
 rcases h.shape with ⟨rfl, rfl⟩ | ⟨g, cap, rfl, -, -, -, -, -, -⟩
 ·exact kdet_zero w
 ·have P : ∀ i j k l, i < n → j < n → k < n → l < n → -1296 ≤ e i j * e k l ∧ e i j * e k l ≤ 1296 := fun i j k l hi hj hk hl => mul_box (A := 36) (B := 36) (ht i j hi hj).1 (ht i j hi hj).2 (ht k l hk hl).1 (ht k l hk hl).2
  match n, h, hn, ht, P with
  | 0, _, _, _, _ =>
    rw [detF0]
    exact kdet_nought g cap w
  | 1, h, _, _, _ =>
    rw [detF1]
    exact kdet_one g cap (gs 0) (e 0 0) w (h.cell 0 (by omega)) ((h.2 0 (by omega)).cell 0 (by omega))
  | 2, h, _, _, P =>
    rw [detF2]
    exact kdet_two g cap (gs 0) (gs 1) (e 0 0) (e 0 1) (e 1 0) (e 1 1) w (h.cell 0 (by omega)) (h.cell 1 (by omega)) ((h.2 0 (by omega)).cell 0 (by omega)) ((h.2 0 (by omega)).cell 1 (by omega)) ((h.2 1 (by omega)).cell 0 (by omega)) ((h.2 1 (by omega)).cell 1 (by omega))
     (P 0 0 1 1 (by omega) (by omega) (by omega) (by omega)) (P 0 1 1 0 (by omega) (by omega) (by omega) (by omega))
  | 3, h, _, ht, P =>
    have D : ∀ j (x y : Int), j < 3 → (-1296 ≤ x ∧ x ≤ 1296) → (-1296 ≤ y ∧ y ≤ 1296) → -93312 ≤ e 0 j * (x - y) ∧ e 0 j * (x - y) ≤ 93312 := fun j x y hj hx hy =>
     mul_box (A := 36) (B := 2592) (ht 0 j (by omega) hj).1 (ht 0 j (by omega) hj).2 (by omega) (by omega)
    have q1 := P 1 1 2 2 (by omega) (by omega) (by omega) (by omega)
    have q2 := P 1 2 2 1 (by omega) (by omega) (by omega) (by omega)
    have q3 := P 1 0 2 2 (by omega) (by omega) (by omega) (by omega)
    have q4 := P 1 2 2 0 (by omega) (by omega) (by omega) (by omega)
    have q5 := P 1 0 2 1 (by omega) (by omega) (by omega) (by omega)
    have q6 := P 1 1 2 0 (by omega) (by omega) (by omega) (by omega)
    rw [detF3]
    exact kdet_three g cap (gs 0) (gs 1) (gs 2) (e 0 0) (e 0 1) (e 0 2) (e 1 0) (e 1 1) (e 1 2) (e 2 0) (e 2 1) (e 2 2) w (h.cell 0 (by omega)) (h.cell 1 (by omega)) (h.cell 2 (by omega))
     ((h.2 0 (by omega)).cell 0 (by omega)) ((h.2 0 (by omega)).cell 1 (by omega)) ((h.2 0 (by omega)).cell 2 (by omega))
     ((h.2 1 (by omega)).cell 0 (by omega)) ((h.2 1 (by omega)).cell 1 (by omega)) ((h.2 1 (by omega)).cell 2 (by omega))
     ((h.2 2 (by omega)).cell 0 (by omega)) ((h.2 2 (by omega)).cell 1 (by omega)) ((h.2 2 (by omega)).cell 2 (by omega))
     q1 q2 q3 q4 q5 q6 (D 0 _ _ (by omega) q1 q2) (D 1 _ _ (by omega) q3 q4) (D 2 _ _ (by omega) q5 q6)
open Go.RowKit
theorem det_scale (n : Nat) (f : Int) (e : Nat → Nat → Int) (hn : n ≤ 3) : detF n (fun i j => f * e i j) = f ^ n * detF n e := by
 obtain rfl | rfl | rfl | rfl : n = 0 ∨ n = 1 ∨ n = 2 ∨ n = 3 := by omega
 ·simp [detF0]
 ·rw [detF1, detF1]; grind
 ·rw [detF2, detF2]; grind
 ·rw [detF3, detF3]; grind
theorem pow_box9 (n : Nat) (f : Int) (hn : n ≤ 3) (h1 : 1 ≤ f) (h2 : f ≤ 9) : 1 ≤ f ^ n ∧ f ^ n ≤ 729 := by
 obtain rfl | rfl | rfl | rfl | rfl | rfl | rfl | rfl | rfl : f = 1 ∨ f = 2 ∨ f = 3 ∨ f = 4 ∨ f = 5 ∨ f = 6 ∨ f = 7 ∨ f = 8 ∨ f = 9 := by omega
 all_goals
  obtain rfl | rfl | rfl | rfl : n = 0 ∨ n = 1 ∨ n = 2 ∨ n = 3 := by omega
  all_goals decide
def IS (w0 w : World) (B d b : Nat) (l : List KMx) (Bm : Nat) (m : Value) (n : Nat) (gm : Nat → Nat) (em : Nat → Nat → Int) : Prop := KL B w d b l ∧ Mat Bm w m n n gm em ∧ Below B w0 w
theorem IS.below {w0 w w' : World} {B d b : Nat} {l : List KMx} {Bm : Nat} {m : Value} {n : Nat} {gm : Nat → Nat} {em : Nat → Nat → Int} (h : IS w0 w B d b l Bm m n gm em) (hb : Below w.heap.size w w') : IS w0 w' B d b l Bm m n gm em :=
 ⟨h.1.below hb, h.2.1.keep (KB.of_below hb), h.2.2.trans (hb.mono h.1.lo)⟩
theorem IS.step {w0 w w' : World} {B d b : Nat} {l l' : List KMx} {Bm : Nat} {m : Value} {n : Nat} {gm : Nat → Nat} {em : Nat → Nat → Int} (h : IS w0 w B d b l Bm m n gm em) (hk : KL B w' d b l') (hF : Fr b w w') : IS w0 w' B d b l' Bm m n gm em :=
 ⟨hk, h.2.1.keep (h.1.kb3 hF), h.2.2.trans (h.1.fr3 hF)⟩
theorem IS.put {w0 w : World} {B d b : Nat} {l : List KMx} {Bm : Nat} {m : Value} {n : Nat} {gm : Nat → Nat} {em : Nat → Nat → Int} (h : IS w0 w B d b l Bm m n gm em) (hr : Rise n gm) (hlo : ∀ i, i < n → B ≤ gm i) {i : Nat} (hi : i < n) (j : Nat) (z : Int) : IS w0 (w.setCell ⟨gm i, j, none⟩ (.int .i64 z)) B d b l Bm m n gm (upE em i j z) :=
 ⟨h.1.stored (h.2.1.2 i hi).ty (hlo i hi) _, h.2.1.put hr hi j z, h.2.2.trans (Below.ofG (grown_set _ _ _ _) (hlo i hi) h.1.lo)⟩
theorem IS.drew {w0 w : World} {B d b : Nat} {l : List KMx} {Bm : Nat} {m : Value} {n : Nat} {gm : Nat → Nat} {em : Nat → Nat → Int} (h : IS w0 w B d b l Bm m n gm em) : IS w0 w.drew B d b l Bm m n gm em := ⟨h.1.drew, h.2.1.drew, h.2.2.drew⟩
theorem IS.same {w0 w : World} {B d b : Nat} {l : List KMx} {Bm : Nat} {m : Value} {n : Nat} {gm : Nat → Nat} {em em' : Nat → Nat → Int} (h : IS w0 w B d b l Bm m n gm em) (he : ∀ i j, i < n → j < n → em i j = em' i j) : IS w0 w B d b l Bm m n gm em' := ⟨h.1, h.2.1.same he, h.2.2⟩
set_option maxRecDepth 100000 in
set_option maxHeartbeats 8000000 in
theorem index_all (d B : Nat) (bb : Int) (w : World) (hd : Di w d) (ht : ∀ w', Below B w w' → Tab w') (hB : B ≤ d) (hb1 : -9223372036854775808 ≤ bb) (hb2 : bb ≤ 9223372036854775807) :
 Calls Tryd.prog 7 #[.pointer (some ⟨d, 0, none⟩), .int .i64 bb] w fun x w' => x = .returned (.bool true) ∧ Below B w w' := by
 have hdl := hd.lt
 have H := Hid.mk (And.intro hd ht)
 clear hd ht
 go_enter Tryd.func7, Tryd.ntmps7
 go_wp2_with fail
 refine (under_any d 4 _ H.out.1 (by omega) (by omega)).mono ?_
 rintro x w1 ⟨⟨n, rfl, hn⟩, hd1, hg1⟩
 have K1 := Hid.mk (And.intro hd1 (Below.ofG hg1 hB (by omega)))
 clear hd1 hg1
 have hn3 : n ≤ 3 := by omega
 go_wp2_with fail
 refine (drawn_rise d n n _ K1.out.1 hn3 hn3).mono ?_
 rintro x w2 ⟨m, gm, em, rfl, hM2, hin2, hd2, hg2, hri, hlo⟩
 have hB1 : B ≤ w1.heap.size := by have := K1.out.2.size; omega
 have K2 := Hid.mk (And.intro hM2 (K1.out.2.trans (Below.ofG hg2 hB hB1)))
 have HR : Hid (Rise n gm ∧ (∀ i, i < n → B ≤ gm i) ∧ TinyR n n em) := Hid.mk ⟨hri, fun i hi => Nat.le_trans hB1 (hlo i hi), hin2.tinyR hn3⟩
 clear hM2 hin2 hd2 hg2 hri hlo K1
 go_wp2_with fail
 refine (deskK_any _ (H.out.2 _ K2.out.2)).mono ?_
 rintro x w3 ⟨dk, b, rfl, hk3, hb3⟩
 rw [← stk_nil] at hk3
 have hB2 : B ≤ w2.heap.size := by have := K2.out.2.size; omega
 have hbel : Below B w w3 := K2.out.2.trans (hb3.mono hB2)
 have K3 : Hid (IS w w3 B dk b [] w1.heap.size m n gm em) := Hid.mk ⟨KL.weak hk3 hB2 (fun w' hw => H.out.2 w' (hbel.trans hw)), K2.out.1.keep (KB.of_below hb3), hbel⟩
 generalize w1.heap.size = Bm at K3
 clear hk3 hb3 hbel K2 hB2 hB1
 go_wp2_with fail
 refine (put_stk B dk b n n m em [] _ K3.out.1 (by simp) (K3.out.2.1.rd (by omega)) (by omega) (by omega) HR.out.2.2.small).mono ?_
 rintro x w4 ⟨rfl, hk4, hF4⟩
 have K4 := Hid.mk (K3.out.step hk4 hF4)
 clear hk4 hF4 K3
 go_wp2_with fail
 refine (kdet_any Bm n m gm em _ K4.out.2.1 hn3 HR.out.2.2).mono ?_
 rintro x w5 ⟨rfl, hb5⟩
 have K5 : Hid (IS w w5 B dk b [(n, n, nums n n em)] Bm m n gm em) := Hid.mk (K4.out.below hb5)
 clear hb5 K4
 have HF : Hid (FitsP n n (nums n n em)) := Hid.mk (nums_fits (by omega) (by omega) HR.out.2.2.small)
 obtain ⟨zm, hzm⟩ : ∃ zm, zm = nums n n em := ⟨_, rfl⟩
 rw [← hzm] at K5 HF
 have HZ : Hid (detF n (ent n zm) = detF n em) := Hid.mk (by rw [hzm]; exact detF_low n _ _ (fun i j hi hj => nums_ent _ hi hj))
 clear hzm
 obtain ⟨dz, hdz⟩ : ∃ dz, dz = detF n em := ⟨_, rfl⟩
 have hbx := det_small n em hn3 HR.out.2.2
 rw [← hdz] at hbx ⊢
 have HD := Hid.mk hdz
 clear hdz
 obtain ⟨k, hk⟩ : ∃ k : Nat, k = dz.natAbs := ⟨_, rfl⟩
 have hkb : k ≤ 279936 := by omega
 have HK := Hid.mk hk
 have hd1 : -279936 ≤ dz := by omega
 have hd2 : dz ≤ 279936 := by omega
 clear hbx
 go_upto_if 36 with fail
 go_cut [9] from 35 to 38 (fun x wx => x = .int .i64 (k : Nat) ∧ wx = w5)
 case first =>
  by_cases hneg : dz < 0
  ·have hkk : -dz = (k : Int) := by omega
   clear hk
   go_wp2_with fail
   go_meet
   case rel => exact ⟨by rw [← hkk], rfl⟩
  ·have HKK : Hid (dz = (k : Int)) := Hid.mk (by omega)
   clear hk
   go_wp2_with fail
   go_meet
   case rel => exact ⟨by rw [← HKK.out], rfl⟩
 case rest =>
  obtain ⟨rfl, rfl⟩ := hcut
  clear hk
  have c0 := K5.out.1.dk.cell
  go_wp2_with fail
  refine (index_stk B dk b 0 n n zm _ _ K5.out.1 (by simp) rfl HF.out).mono ?_
  rintro x w6 ⟨rk, hrk, rfl, hb6⟩
  have hT1 : k ≠ 0 → (⟨(Lib.itoa ((R.divF (ent n zm) n n rk : Nat) : Int)).toArray⟩ : ByteArray) = ⟨(Lib.itoa (k : Int)).toArray⟩ := by
   intro h0
   have h1 : rk = n := (sq_rank (by omega) hrk).2 (by have := HZ.out; have := HD.out; have := HK.out; omega)
   rw [h1, div_det, HZ.out, ← HD.out, ← HK.out]
  have HRK : Hid (rk = n ↔ k ≠ 0) := Hid.mk (by
   have h1 := sq_rank (by omega) hrk
   have h2 := HZ.out; have h3 := HD.out; have h4 := HK.out
   constructor
   ·intro h5; have := h1.1 h5; omega
   ·intro h5; exact h1.2 (by omega))
  have K6 := Hid.mk (K5.out.below hb6)
  clear hb6 K5 c0 hrk
  generalize (⟨(Lib.itoa ((R.divF (ent n zm) n n rk : Nat) : Int)).toArray⟩ : ByteArray) = T1 at hT1 ⊢
  go_wp2_with fail
  refine (number_nat k k _ (Nat.le_refl _) (by omega)).mono ?_
  rintro x w7 ⟨rfl, hb7⟩
  have K7 := Hid.mk (K6.out.below hb7)
  clear hb7 K6
  generalize (⟨(Lib.itoa (k : Int)).toArray⟩ : ByteArray) = T2 at hT1 ⊢
  go_upto_region 10 with fail
  go_cut [56] from 50 to 56 (fun x wx => x = .bool false ∧ wx = w7)
  case first =>
   by_cases h0 : k = 0
   ·have h0b : ((k : Int) != 0) = false := by simp [h0]
    clear h0
    go_wp2_with fail
    go_meet
    case rel => exact ⟨rfl, rfl⟩
   ·have h0b : ((k : Int) != 0) = true := by simp [h0]
    obtain rfl := hT1 h0
    clear h0
    go_wp2_with fail
    go_meet
    case rel => exact ⟨rfl, rfl⟩
  case rest =>
   obtain ⟨rfl, rfl⟩ := hcut
   clear hT1
   go_wp2_with fail
   refine (pick_any bb 9 _ hb1 hb2 (by omega) (by omega)).mono ?_
   rintro x w' ⟨⟨v, rfl, hv⟩, rfl⟩
   obtain ⟨f, hf⟩ : ∃ f : Int, f = 1 + (v : Int) := ⟨_, rfl⟩
   have hf1 : 1 ≤ f := by omega
   have hf9 : f ≤ 9 := by omega
   go_wp2_with fail
   rw [← hf]
   clear hf
   go_loopw [14, 15] (fun zv iv wr => ∃ i : Nat, i ≤ n ∧ iv = .int .i64 i ∧ zv = .int .i64 ((k : Int) * f ^ i) ∧ Hid (IS w wr B dk b [(n, n, zm)] Bm m n gm (scF f em i 0))) (fun _ iv _ => n - (intOf iv).toNat)
   case atStart => exact ⟨0, Nat.zero_le _, rfl, by simp, Hid.mk (K7.out.same (fun i j _ _ => (scF_zero f em i j).symm))⟩
   case round =>
    clear K7
    rename World => wr0
    obtain ⟨i, hi, rfl, rfl, K⟩ := hrel
    have hzb : 0 ≤ (k : Int) * f ^ i ∧ (k : Int) * f ^ i ≤ 204073344 := by
     have h1 := pow_box9 i f (by omega) hf1 hf9
     constructor
     ·exact Int.mul_nonneg (by omega) (by omega)
     ·exact Int.le_trans (Int.mul_le_mul (show (k : Int) ≤ 279936 by omega) h1.2 (by omega) (by omega)) (by decide)
    have hzn : (k : Int) * f ^ i * f = (k : Int) * f ^ (i + 1) := by rw [Int.pow_succ, Int.mul_assoc]
    by_cases hin : i < n
    ·obtain ⟨g, cap, hmm, hcap⟩ : ∃ g cap, m = .slice (some ⟨g, 0, none⟩) n cap ∧ n ≤ cap := by
      rcases K.out.2.1.shape with ⟨_, h0⟩ | ⟨g, cap, h1, h2, -⟩
      ·omega
      ·exact ⟨g, cap, h1, h2⟩
     subst hmm
     have HZN := Hid.mk hzn
     generalize hzz : (k : Int) * f ^ i = zz at hzb HZN
     obtain ⟨hz0, hz1⟩ := hzb
     have hzf := mul_boxR (A := 204073344) (B := 9) (a := zz) (b := f) (by omega) (by omega) (by omega) (by omega)
     obtain ⟨hzf1, hzf2⟩ := hzf
     simp only [Nat.reduceMul] at hzf1 hzf2
     clear hzn hzz
     go_wp2_with fail
     go_loopw [16] (fun jv ws => ∃ j : Nat, j ≤ n ∧ jv = .int .i64 j ∧ Hid (IS w ws B dk b [(n, n, zm)] Bm (.slice (some ⟨g, 0, none⟩) n cap) n gm (scF f em i j))) (fun jv _ => n - (intOf jv).toNat)
     case atStart => exact ⟨0, Nat.zero_le _, rfl, K⟩
     case round =>
      clear K
      rename World => ws
      obtain ⟨j, hj, rfl, K⟩ := hrel
      by_cases hjn : j < n
      ·have a0 := K.out.2.1.cell i hin
       have a1 := (K.out.2.1.2 i hin).cell j hjn
       have f1 := (K.out.2.1.2 i hin).frozen j
       rw [scF_here] at a1
       have hx := HR.out.2.2 i j hin hjn
       have hnx := ((K.out.put HR.out.1 HR.out.2.1 hin j (f * em i j)).same (fun a t _ _ => scF_next f em i j a t)).drew
       have HN := Hid.mk hnx
       have hp := mul_boxR (A := 9) (B := 36) (a := f) (b := em i j) (by omega) (by omega) hx.1 hx.2
       generalize gm i = G at a0 a1 f1 HN
       generalize em i j = y at a1 hx HN hp
       obtain ⟨hx1, hx2⟩ := hx
       obtain ⟨hp1, hp2⟩ := hp
       simp only [Nat.reduceMul] at hp1 hp2
       clear hnx
       go_wp2_with fail
       go_region
       all_goals go_wp2_with fail
       go_roundw
       case measure => simp [intOf]; omega
       case rel => exact ⟨j + 1, by omega, by go_num, HN⟩
      ·obtain rfl : j = n := by omega
       go_wp2_with fail
       go_roundw
       case measure => simp [intOf]; omega
       case rel => exact ⟨i + 1, by omega, by go_num, by rw [HZN.out], Hid.mk (K.out.same (fun a t _ ht => scF_row f em i j a t ht))⟩
    ·obtain rfl : i = n := by omega
     have hlz : ∃ zz : Nat, (zz : Int) = (k : Int) * f ^ i ∧ zz ≤ 204073344 := ⟨((k : Int) * f ^ i).toNat, by omega, by omega⟩
     obtain ⟨zz, hzz, hzz2⟩ := hlz
     rw [← hzz]
     have HZZ := Hid.mk hzz
     have K8 : Hid (IS w wr0 B dk b [(i, i, zm)] Bm m i gm (fun a t => f * em a t)) := Hid.mk (K.out.same (fun a t ha _ => scF_all f em ha t))
     have HS : Hid (SmallR i i (fun a t => f * em a t)) := Hid.mk (fun a t ha htt => by
      have hx := HR.out.2.2 a t ha htt
      have hp := mul_boxR (A := 9) (B := 36) (a := f) (b := em a t) (by omega) (by omega) hx.1 hx.2
      simp only [Nat.reduceMul] at hp
      show -1000000000 ≤ f * em a t ∧ f * em a t ≤ 1000000000
      omega)
     clear K hzb hzn hzz
     go_wp2_with fail
     refine (put_stk B dk b i i m (fun a t => f * em a t) [(i, i, zm)] _ K8.out.1 (by simp) (K8.out.2.1.rd (by omega)) (by omega) (by omega) HS.out).mono ?_
     rintro x w9 ⟨rfl, hk9, hF9⟩
     obtain ⟨zs, hzs⟩ : ∃ zs, zs = nums i i (fun a t => f * em a t) := ⟨_, rfl⟩
     rw [← hzs] at hk9
     have K9 : Hid (IS w w9 B dk b [(i, i, zm), (i, i, zs)] Bm m i gm (fun a t => f * em a t)) := Hid.mk (K8.out.step hk9 hF9)
     have HF2 : Hid (FitsP i i zs) := Hid.mk (by rw [hzs]; exact nums_fits (by omega) (by omega) HS.out)
     have HZ2 : Hid (detF i (ent i zs) = f ^ i * detF i em) := Hid.mk (by rw [hzs, detF_low i _ (fun a t => f * em a t) (fun a t ha htt => nums_ent _ ha htt)]; exact det_scale i f em (by omega))
     clear hk9 hF9 K8 hzs
     have c0 := K9.out.1.dk.cell
     go_wp2_with fail
     refine (index_stk B dk b 1 i i zs _ _ K9.out.1 (by simp) rfl HF2.out).mono ?_
     rintro x w10 ⟨rk2, hrk2, rfl, hb10⟩
     have hT3 : k ≠ 0 → (⟨(Lib.itoa ((R.divF (ent i zs) i i rk2 : Nat) : Int)).toArray⟩ : ByteArray) = ⟨(Lib.itoa (zz : Int)).toArray⟩ := by
      intro h0
      have h5 := pow_box9 i f (by omega) hf1 hf9
      have h6 : (f ^ i * detF i em).natAbs = zz := by
       have h7 := HZZ.out
       have h8 := HK.out
       have h9 := HD.out
       have h10 : ((f ^ i).natAbs : Int) = f ^ i := by omega
       have h11 : (((f ^ i * detF i em).natAbs : Nat) : Int) = (zz : Int) := by
        rw [Int.natAbs_mul, Int.natCast_mul, h10, h7, ← h9, ← h8, Int.mul_comm]
       omega
      have h12 : 0 < zz := by
       have h7 := HZZ.out
       have : (0 : Int) < (k : Int) * f ^ i := Int.mul_pos (by omega) (by omega)
       omega
      have h1 : rk2 = i := (sq_rank (by omega) hrk2).2 (by rw [HZ2.out]; intro e; rw [e] at h6; simp at h6; omega)
      rw [h1, div_det, HZ2.out, h6]
     have K10 := Hid.mk (K9.out.below hb10)
     clear hb10 K9 c0 hrk2
     generalize (⟨(Lib.itoa ((R.divF (ent i zs) i i rk2 : Nat) : Int)).toArray⟩ : ByteArray) = T3 at hT3 ⊢
     go_wp2_with fail
     refine (number_nat zz zz _ (Nat.le_refl _) (by omega)).mono ?_
     rintro x w11 ⟨rfl, hb11⟩
     have K11 := Hid.mk (K10.out.below hb11)
     clear hb11 K10
     generalize (⟨(Lib.itoa (zz : Int)).toArray⟩ : ByteArray) = T4 at hT3 ⊢
     have c0 := K11.out.1.dk.cell
     go_wp2_with fail
     refine (rank_stk B dk b 0 i i zm _ _ K11.out.1 (by simp) rfl HF.out).mono ?_
     rintro x w12 ⟨rk3, hrk3, rfl, hb12⟩
     have hr3 : rk3 = i ↔ k ≠ 0 := by
      have h1 := sq_rank (by omega) hrk3
      have h2 := HZ.out; have h3 := HD.out; have h4 := HK.out
      constructor
      ·intro h5; have := h1.1 h5; omega
      ·intro h5; exact h1.2 (by omega)
     have K12 := Hid.mk (K11.out.below hb12)
     clear hb12 K11 c0 hrk3
     by_cases h0 : k = 0
     ·have hk0 : ((k : Int) == 0) = true := by simp [h0]
      have hk1 : ((k : Int) != 0) = false := by simp [h0]
      have hri : ((rk3 : Int) == (i : Int)) = false := by
       simp only [beq_eq_false_iff_ne, ne_eq, Int.natCast_inj]
       intro e
       exact hr3.1 e h0
      clear h0 hr3 hT3
      go_wp2_with fail
      go_ret
      exact ⟨rfl, K12.out.2.2⟩
     ·have hk0 : ((k : Int) == 0) = false := by simp [h0]
      have hk1 : ((k : Int) != 0) = true := by simp [h0]
      have hri : ((rk3 : Int) == (i : Int)) = true := by rw [hr3.2 h0]; simp
      obtain rfl := hT3 h0
      clear h0 hr3
      go_wp2_with fail
      go_ret
      exact ⟨rfl, K12.out.2.2⟩
theorem Indices_any (a bb : Int) (w : World) (ha1 : -9223372036854775808 ≤ a) (ha2 : a ≤ 9223372036854775807) (hb1 : -9223372036854775808 ≤ bb) (hb2 : bb ≤ 9223372036854775807) (ht : Tab w) :
 Calls Tryd.prog 4 #[.int .i64 a, .int .i64 bb] w fun x w' => x = .returned (.bool true) ∧ Below w.heap.size w w' := by
 have HT := Hid.mk ht
 clear ht
 go_enter Tryd.func4, Tryd.ntmps4
 go_wp2_with fail
 refine (start_any a _ ha1 ha2).mono ?_
 rintro e w1 ⟨d, rfl, hd, hdb, hb⟩
 have H := Hid.mk (And.intro hd hb)
 clear hd hb
 go_wp2_with fail
 refine (index_all d w.heap.size bb _ H.out.1 (fun w' hw => HT.out.below (H.out.2.trans hw)) hdb hb1 hb2).mono ?_
 rintro e w2 ⟨rfl, hb2⟩
 have K := Hid.mk (H.out.2.trans hb2)
 clear hb2
 go_wp2_with fail
 go_ret
 exact ⟨rfl, K.out⟩
end Go.Proofs.YtfjbijpagaipnabDoor
