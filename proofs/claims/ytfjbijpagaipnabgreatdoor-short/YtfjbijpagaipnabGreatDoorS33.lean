import Derived.Test.YtfjbijpagaipnabGreatDoorS22
import Derived.Test.YtfjbijpagaipnabGreatDoorS24
import Derived.Test.YtfjbijpagaipnabGreatDoorS30
import Derived.Test.YtfjbijpagaipnabGreatDoorS31
import Derived.Test.YtfjbijpagaipnabGreatDoorS32
import Derived.Test.YtfjbijpagaipnabGreatDoorS19
import Derived.Lib.ItoaLen
import Derived.Test.YtfjbijpagaipnabGreatDoorS23
namespace Go.Proofs.YtfjbijpagaipnabGreatDoor
open Go.RowKit
theorem detF0 (e : Nat → Nat → Int) : detF 0 e = 1 := rfl
theorem detF1 (e : Nat → Nat → Int) : detF 1 e = e 0 0 := by simp [detF, sumF, signed]
theorem detF2 (e : Nat → Nat → Int) : detF 2 e = e 0 0 * e 1 1 - e 0 1 * e 1 0 := by simp [detF, sumF, signed, skip]; omega
theorem detF3 (e : Nat → Nat → Int) : detF 3 e = e 0 0 * (e 1 1 * e 2 2 - e 1 2 * e 2 1) - e 0 1 * (e 1 0 * e 2 2 - e 1 2 * e 2 0) + e 0 2 * (e 1 0 * e 2 1 - e 1 1 * e 2 0) := by
 simp [detF, sumF, signed, skip]
 grind
def Tiny (n : Nat) (e : Nat → Nat → Int) : Prop := ∀ i j, i < n → j < n → -36 ≤ e i j ∧ e i j ≤ 36
theorem mul_box {a b : Int} {A B : Nat} (h1 : -(A : Int) ≤ a) (h2 : a ≤ A) (h3 : -(B : Int) ≤ b) (h4 : b ≤ B) : -((A * B : Nat) : Int) ≤ a * b ∧ a * b ≤ ((A * B : Nat) : Int) := by
 have h5 : (a * b).natAbs ≤ A * B := by
  rw [Int.natAbs_mul]
  exact Nat.mul_le_mul (by omega) (by omega)
 omega
set_option maxRecDepth 100000 in
set_option maxHeartbeats 2000000 in
theorem kdet_zero (w : World) : Calls Tryz.prog 51 #[.slice none 0 0] w fun x w' => x = .returned (.int .i64 1) ∧ Below w.heap.size w w' := by
 go_enter Tryz.func51, Tryz.ntmps51
 go_wp2_with fail
 go_ret
 exact ⟨rfl, Below.refl _ _⟩
set_option maxRecDepth 100000 in
set_option maxHeartbeats 2000000 in
theorem kdet_one (g cap g0 : Nat) (a00 : Int) (w : World) (c0 : w.cell? ⟨g, 0, none⟩ = some (.slice (some ⟨g0, 0, none⟩) 1 1)) (c00 : w.cell? ⟨g0, 0, none⟩ = some (.int .i64 a00)) :
 Calls Tryz.prog 51 #[.slice (some ⟨g, 0, none⟩) 1 cap] w fun x w' => x = .returned (.int .i64 a00) ∧ Below w.heap.size w w' := by
 go_enter Tryz.func51, Tryz.ntmps51
 go_wp2_with fail
 go_ret
 exact ⟨rfl, Below.refl _ _⟩
set_option maxRecDepth 100000 in
set_option maxHeartbeats 2000000 in
theorem kdet_two (g cap g0 g1 : Nat) (a00 a01 a10 a11 : Int) (w : World) (c0 : w.cell? ⟨g, 0, none⟩ = some (.slice (some ⟨g0, 0, none⟩) 2 2)) (c1 : w.cell? ⟨g, 1, none⟩ = some (.slice (some ⟨g1, 0, none⟩) 2 2)) (c00 : w.cell? ⟨g0, 0, none⟩ = some (.int .i64 a00)) (c01 : w.cell? ⟨g0, 1, none⟩ = some (.int .i64 a01)) (c10 : w.cell? ⟨g1, 0, none⟩ = some (.int .i64 a10)) (c11 : w.cell? ⟨g1, 1, none⟩ = some (.int .i64 a11))
 (b1 : -1296 ≤ a00 * a11 ∧ a00 * a11 ≤ 1296) (b2 : -1296 ≤ a01 * a10 ∧ a01 * a10 ≤ 1296) :
 Calls Tryz.prog 51 #[.slice (some ⟨g, 0, none⟩) 2 cap] w fun x w' => x = .returned (.int .i64 (a00 * a11 - a01 * a10)) ∧ Below w.heap.size w w' := by
 obtain ⟨b1, b1'⟩ := b1
 obtain ⟨b2, b2'⟩ := b2
 go_enter Tryz.func51, Tryz.ntmps51
 go_wp2_with fail
 go_quiet (fail)
 go_wp2_with fail
 go_ret
 exact ⟨rfl, below_drewN (Below.refl _ _) _⟩
set_option maxRecDepth 100000 in
set_option maxHeartbeats 2000000 in
theorem kdet_nought (g cap : Nat) (w : World) : Calls Tryz.prog 51 #[.slice (some ⟨g, 0, none⟩) 0 cap] w fun x w' => x = .returned (.int .i64 1) ∧ Below w.heap.size w w' := by
 go_enter Tryz.func51, Tryz.ntmps51
 go_wp2_with fail
 go_ret
 exact ⟨rfl, Below.refl _ _⟩
set_option maxRecDepth 100000 in
set_option maxHeartbeats 4000000 in
theorem kdet_three (g cap g0 g1 g2 : Nat) (a00 a01 a02 a10 a11 a12 a20 a21 a22 : Int) (w : World) (c0 : w.cell? ⟨g, 0, none⟩ = some (.slice (some ⟨g0, 0, none⟩) 3 3)) (c1 : w.cell? ⟨g, 1, none⟩ = some (.slice (some ⟨g1, 0, none⟩) 3 3)) (c2 : w.cell? ⟨g, 2, none⟩ = some (.slice (some ⟨g2, 0, none⟩) 3 3)) (c00 : w.cell? ⟨g0, 0, none⟩ = some (.int .i64 a00)) (c01 : w.cell? ⟨g0, 1, none⟩ = some (.int .i64 a01)) (c02 : w.cell? ⟨g0, 2, none⟩ = some (.int .i64 a02)) (c10 : w.cell? ⟨g1, 0, none⟩ = some (.int .i64 a10)) (c11 : w.cell? ⟨g1, 1, none⟩ = some (.int .i64 a11)) (c12 : w.cell? ⟨g1, 2, none⟩ = some (.int .i64 a12)) (c20 : w.cell? ⟨g2, 0, none⟩ = some (.int .i64 a20)) (c21 : w.cell? ⟨g2, 1, none⟩ = some (.int .i64 a21)) (c22 : w.cell? ⟨g2, 2, none⟩ = some (.int .i64 a22))
 (b0 : -1296 ≤ a11 * a22 ∧ a11 * a22 ≤ 1296) (b1 : -1296 ≤ a12 * a21 ∧ a12 * a21 ≤ 1296) (b2 : -1296 ≤ a10 * a22 ∧ a10 * a22 ≤ 1296) (b3 : -1296 ≤ a12 * a20 ∧ a12 * a20 ≤ 1296) (b4 : -1296 ≤ a10 * a21 ∧ a10 * a21 ≤ 1296) (b5 : -1296 ≤ a11 * a20 ∧ a11 * a20 ≤ 1296) (d0 : -93312 ≤ a00 * (a11 * a22 - a12 * a21) ∧ a00 * (a11 * a22 - a12 * a21) ≤ 93312) (d1 : -93312 ≤ a01 * (a10 * a22 - a12 * a20) ∧ a01 * (a10 * a22 - a12 * a20) ≤ 93312) (d2 : -93312 ≤ a02 * (a10 * a21 - a11 * a20) ∧ a02 * (a10 * a21 - a11 * a20) ≤ 93312) :
 Calls Tryz.prog 51 #[.slice (some ⟨g, 0, none⟩) 3 cap] w fun x w' => x = .returned (.int .i64 (a00 * (a11 * a22 - a12 * a21) - a01 * (a10 * a22 - a12 * a20) + a02 * (a10 * a21 - a11 * a20))) ∧ Below w.heap.size w w' := by
 obtain ⟨b0, b0'⟩ := b0
 obtain ⟨b1, b1'⟩ := b1
 obtain ⟨b2, b2'⟩ := b2
 obtain ⟨b3, b3'⟩ := b3
 obtain ⟨b4, b4'⟩ := b4
 obtain ⟨b5, b5'⟩ := b5
 obtain ⟨d0, d0'⟩ := d0
 obtain ⟨d1, d1'⟩ := d1
 obtain ⟨d2, d2'⟩ := d2
 go_enter Tryz.func51, Tryz.ntmps51
 go_wp2_with fail
 go_quiet (fail)
 go_wp2_with fail
 go_quiet (fail)
 go_wp2_with fail
 go_quiet (fail)
 go_wp2_with fail
 go_quiet (fail)
 go_wp2_with fail
 go_ret
 exact ⟨rfl, by repeat (first | exact Below.refl _ _ | refine below_drewN ?_ _)⟩
theorem kdet_any (B n : Nat) (v : Value) (gs : Nat → Nat) (e : Nat → Nat → Int) (w : World) (h : Mat B w v n n gs e) (hn : n ≤ 3) (ht : Tiny n e) :
 Calls Tryz.prog 51 #[v] w fun x w' => x = .returned (.int .i64 (detF n e)) ∧ Below w.heap.size w w' := by
 rcases h.shape with ⟨rfl, rfl⟩ | ⟨g, cap, rfl, -, -, -, -, -, -⟩
 ·exact kdet_zero w
 ·have P : ∀ i j k l, i < n → j < n → k < n → l < n → -1296 ≤ e i j * e k l ∧ e i j * e k l ≤ 1296 := fun i j k l hi hj hk hl => mul_box (A := 36) (B := 36) (ht i j hi hj).1 (ht i j hi hj).2 (ht k l hk hl).1 (ht k l hk hl).2
  match n, h, hn, ht, P with
  | 0, _, _, _, _ =>
    rw [detF0]
    exact kdet_nought g cap w
  | 1, h, _, _, _ =>
    rw [detF1]
    exact kdet_one g cap (gs 0) (e 0 0) w (h.cell 0 (by omega)) ((h.2 0 (by omega)).cell 0 (by omega))
  | 2, h, _, _, P =>
    rw [detF2]
    exact kdet_two g cap (gs 0) (gs 1) (e 0 0) (e 0 1) (e 1 0) (e 1 1) w (h.cell 0 (by omega)) (h.cell 1 (by omega)) ((h.2 0 (by omega)).cell 0 (by omega)) ((h.2 0 (by omega)).cell 1 (by omega)) ((h.2 1 (by omega)).cell 0 (by omega)) ((h.2 1 (by omega)).cell 1 (by omega))
     (P 0 0 1 1 (by omega) (by omega) (by omega) (by omega)) (P 0 1 1 0 (by omega) (by omega) (by omega) (by omega))
  | 3, h, _, ht, P =>
    have D : ∀ j (x y : Int), j < 3 → (-1296 ≤ x ∧ x ≤ 1296) → (-1296 ≤ y ∧ y ≤ 1296) → -93312 ≤ e 0 j * (x - y) ∧ e 0 j * (x - y) ≤ 93312 := fun j x y hj hx hy =>
     mul_box (A := 36) (B := 2592) (ht 0 j (by omega) hj).1 (ht 0 j (by omega) hj).2 (by omega) (by omega)
    have q1 := P 1 1 2 2 (by omega) (by omega) (by omega) (by omega)
    have q2 := P 1 2 2 1 (by omega) (by omega) (by omega) (by omega)
    have q3 := P 1 0 2 2 (by omega) (by omega) (by omega) (by omega)
    have q4 := P 1 2 2 0 (by omega) (by omega) (by omega) (by omega)
    have q5 := P 1 0 2 1 (by omega) (by omega) (by omega) (by omega)
    have q6 := P 1 1 2 0 (by omega) (by omega) (by omega) (by omega)
    rw [detF3]
    exact kdet_three g cap (gs 0) (gs 1) (gs 2) (e 0 0) (e 0 1) (e 0 2) (e 1 0) (e 1 1) (e 1 2) (e 2 0) (e 2 1) (e 2 2) w (h.cell 0 (by omega)) (h.cell 1 (by omega)) (h.cell 2 (by omega))
     ((h.2 0 (by omega)).cell 0 (by omega)) ((h.2 0 (by omega)).cell 1 (by omega)) ((h.2 0 (by omega)).cell 2 (by omega))
     ((h.2 1 (by omega)).cell 0 (by omega)) ((h.2 1 (by omega)).cell 1 (by omega)) ((h.2 1 (by omega)).cell 2 (by omega))
     ((h.2 2 (by omega)).cell 0 (by omega)) ((h.2 2 (by omega)).cell 1 (by omega)) ((h.2 2 (by omega)).cell 2 (by omega))
     q1 q2 q3 q4 q5 q6 (D 0 _ _ (by omega) q1 q2) (D 1 _ _ (by omega) q3 q4) (D 2 _ _ (by omega) q5 q6)
open Go.RowKit
def RowIn (c : Nat) (f : Nat → Int) (m : Int) : Prop := ∀ j, j < c → -m ≤ f j ∧ f j ≤ m
theorem RowIn.upd {c : Nat} {f : Nat → Int} {m : Int} (h : RowIn c f m) (j : Nat) (z : Int) (h1 : -m ≤ z) (h2 : z ≤ m) : RowIn c (upd f j z) m := by
 intro k hk
 unfold Proofs.YtfjbijpagaipnabGreatDoor.upd
 split
 ·exact ⟨h1, h2⟩
 ·exact h k hk
def RowsIn (n c : Nat) (e : Nat → Nat → Int) : Prop := ∀ i, i < n → RowIn c (e i) (9 * 2 ^ i)
theorem IRow.grown {w w' : World} {g c p : Nat} {f : Nat → Int} (h : IRow w g c f) (hg : w.grownBy w' (some p)) (hp : p ≠ g) : IRow w' g c f := by
 unfold IRow
 rw [hg.block g h.lt (fun e => hp (by injection e with e; exact e.symm))]; exact h
theorem IRow.below {B : Nat} {w w' : World} {g c : Nat} {f : Nat → Int} (h : IRow w g c f) (hb : Below B w w') (hB : g < B) : IRow w' g c f := by
 unfold IRow
 rw [hb.block g hB]; exact h
def RwS (wr ws : World) (d G c : Nat) (M : Int) : Prop := ∃ f, IRow ws G c f ∧ RowIn c f M ∧ Di ws d ∧ wr.grownBy ws (some d)
theorem RwS.under {wr ws ws' : World} {d G c : Nat} {M : Int} (h : RwS wr ws d G c M) (hd : d ≠ G) (hdi : Di ws' d) (hg : ws.grownBy ws' (some d)) : RwS wr ws' d G c M := by
 obtain ⟨f, h1, h2, h3, h4⟩ := h
 exact ⟨f, h1.grown hg hd, h2, hdi, grown_trans h4 hg⟩
theorem grown_store {W w : World} {row : Option Nat} {p i : Nat} {x : Value} (h : W.grownBy w row) (hp : W.heap.size ≤ p) : W.grownBy (w.setCell ⟨p, i, none⟩ x) row := by
 refine ⟨h.os, h.tape, h.output, by have := h.size; simp [World.setCell]; omega, fun k hk hne => ?_⟩
 rw [Below.heap_setCell _ _ _ _ (by simp; omega)]
 exact h.block k hk hne
theorem Di.store {w : World} {d g j : Nat} (h : Di w d) (hd : d ≠ g) (u : Value) : Di (w.setCell ⟨g, j, none⟩ u) d := by
 obtain ⟨x, h1, h2⟩ := h
 exact ⟨x, h1, by rw [Below.heap_setCell _ _ _ _ (by simpa using hd)]; exact h2⟩
theorem RwS.store {wr ws : World} {d G c : Nat} {M : Int} (h : RwS wr ws d G c M) (hd : d ≠ G) (hG : wr.heap.size ≤ G) (j : Nat) (z : Int) (h1 : -M ≤ z) (h2 : z ≤ M) : RwS wr (ws.setCell ⟨G, j, none⟩ (.int .i64 z)) d G c M := by
 obtain ⟨f, e1, e2, e3, e4⟩ := h
 exact ⟨_, e1.stored j z, e2.upd j z h1 h2, e3.store hd _, grown_store e4 hG⟩
theorem RwS.cell {wr ws : World} {d G c : Nat} {M : Int} (h : RwS wr ws d G c M) (j : Nat) (hj : j < c) : (∃ z, ws.cell? ⟨G, j, none⟩ = some (.int .i64 z)) ∧ ws.frozen? ⟨G, j, none⟩ = false := by
 obtain ⟨f, e1, -⟩ := h
 exact ⟨⟨_, e1.cell j hj⟩, e1.frozen j⟩
theorem grown_own {w ws w5 : World} {d : Nat} {row : Option Nat} (h : w.grownBy ws (some d)) (hg : ws.grownBy w5 row) (hr : ∀ k, row = some k → w.heap.size ≤ k) : w.grownBy w5 (some d) := by
 have hsz := h.size
 exact ⟨hg.os.trans h.os, hg.tape.trans h.tape, hg.output.trans h.output, Nat.le_trans hsz hg.size, fun k hk hne => (hg.block k (by omega) (fun e => by have := hr k e.symm; omega)).trans (h.block k hk hne)⟩
theorem Di.own {w w' : World} {d B : Nat} {row : Option Nat} (h : Di w d) (hg : w.grownBy w' row) (hr : ∀ k, row = some k → B ≤ k) (hd : d < B) : Di w' d := by
 have hl := h.lt
 obtain ⟨x, h1, h2⟩ := h
 exact ⟨x, h1, by rw [hg.block d hl (fun e => by have := hr d e.symm; omega)]; exact h2⟩
theorem RowsIn.next {k c : Nat} {e : Nat → Nat → Int} {f : Nat → Int} {M : Int} (h : RowsIn k c e) (hf : RowIn c f M) (hM : M ≤ 9 * 2 ^ k) : RowsIn (k + 1) c (fun i => if i = k then f else e i) := by
 intro i hi
 by_cases hik : i = k
 ·subst hik
  simp only [if_true]
  intro j hj
  have := hf j hj
  omega
 ·simp only [hik, if_false]; exact h i (by omega)
theorem pow_box (k : Nat) (hk : k < 3) : (9 : Int) * 2 ^ k ≤ 36 ∧ (9 : Int) ≤ 9 * 2 ^ k := by
 obtain rfl | rfl | rfl : k = 0 ∨ k = 1 ∨ k = 2 := by omega
 all_goals decide
theorem pow_next (k : Nat) : (9 : Int) * 2 ^ (k + 1) = 2 * (9 * 2 ^ k) := by rw [Int.pow_succ]; omega
def Rise (n : Nat) (gs : Nat → Nat) : Prop := ∀ i j, i < j → j < n → gs i < gs j
theorem low_next {B X n : Nat} {gs : Nat → Nat} (h : ∀ i, i < n → B ≤ gs i) (hX : B ≤ X) : ∀ i, i < n + 1 → B ≤ (if i = n then X else gs i) := by
 intro i hi
 by_cases e0 : i = n
 ·simp only [e0, if_true]; exact hX
 ·simp only [e0, if_false]; exact h i (by omega)
theorem Rise.next {B : Nat} {w : World} {v : Value} {n c : Nat} {gs : Nat → Nat} {e : Nat → Nat → Int} (h : Rise n gs) (hm : Mat B w v n c gs e) : Rise (n + 1) (fun i => if i = n then w.heap.size else gs i) := by
 intro i j hij hj
 have hi : i ≠ n := by omega
 simp only [hi, if_false]
 by_cases e0 : j = n
 ·simp only [e0, if_true]
  exact (hm.2 i (by omega)).lt
 ·simp only [e0, if_false]
  exact h i j hij (by omega)
set_option maxRecDepth 100000 in
set_option maxHeartbeats 4000000 in
theorem drawn_rise (d r c : Nat) (w : World) (h : Di w d) (hr : r ≤ 3) (hc : c ≤ 3) :
 Calls Tryz.prog 25 #[.pointer (some ⟨d, 0, none⟩), .int .i64 r, .int .i64 c] w fun x w' => ∃ v gs e, x = .returned v ∧ Mat w.heap.size w' v r c gs e ∧ RowsIn r c e ∧ Di w' d ∧ w.grownBy w' (some d) ∧ Rise r gs ∧ ∀ i, i < r → w.heap.size ≤ gs i := by
 have hdl := h.lt
 have H := Hid.mk h
 clear h
 go_enter Tryz.func25, Tryz.ntmps25
 go_wp2_with fail
 go_loopw [7, 8] (fun v i wr => ∃ (k : Nat) (gs : Nat → Nat) (e : Nat → Nat → Int), k ≤ r ∧ i = .int .i64 k ∧ Mat w.heap.size wr v k c gs e ∧ RowsIn k c e ∧ Di wr d ∧ w.grownBy wr (some d) ∧ (Rise k gs ∧ ∀ i, i < k → w.heap.size ≤ gs i)) (fun _ i _ => r - (intOf i).toNat)
 case atStart => exact ⟨0, fun _ => 0, fun _ _ => 0, Nat.zero_le _, rfl, Mat.nil _ _ _ _ _, fun i hi => by omega, H.out, World.grownBy.refl _ _, fun i j hi hj => by omega, fun i hi => by omega⟩
 case round =>
  rename World => wr0
  obtain ⟨k, gs, e, hk, rfl, hm, hin, hdi, hgr, hri⟩ := hrel
  have HRI := Hid.mk hri
  clear hri
  have hwr := hgr.size
  have K := Hid.mk (And.intro hm (And.intro hin (And.intro hdi hgr)))
  by_cases hkr : k < r
  ·obtain ⟨M, hM⟩ : ∃ M : Int, M = 9 * 2 ^ k := ⟨_, rfl⟩
   have hMb := pow_box k (by omega)
   rw [← hM] at hMb
   obtain ⟨hM1, hM2⟩ := hMb
   have HM := Hid.mk hM
   have hdw : d ≠ wr0.heap.size := by omega
   by_cases hk0 : 0 < k
   ·rcases hm.shape with ⟨rfl, h0⟩ | ⟨g, cap, rfl, hcap1, hcap2, -, hgl, -, -⟩
    ·omega
    clear hm hin hdi hgr hM
    go_wp2_with (at_make; refine make_row _ rfl _ _ rfl _ _ c rfl rfl rfl rfl (by omega) ?_)
    intro w1 hrow hb1 hsz1
    have R1 : RwS wr0 w1 d wr0.heap.size c M := ⟨_, hrow, fun j hj => by constructor <;> (simp; omega), K.out.2.2.1.below hb1 K.out.2.2.1.lt, grown_below (World.grownBy.refl _ _) hb1⟩
    have HR := Hid.mk R1
    clear hrow hb1 R1
    go_wp2_with fail
    go_loopw [10] (fun i ws => ∃ j : Nat, j ≤ c ∧ i = .int .i64 j ∧ RwS wr0 ws d wr0.heap.size c M) (fun i _ => c - (intOf i).toNat)
    case atStart => exact ⟨0, Nat.zero_le _, rfl, HR.out⟩
    case round =>
     clear HR
     obtain ⟨j, hj, rfl, hrs⟩ := hrel
     have HR := Hid.mk hrs
     clear hrs
     by_cases hjc : j < c
     ·go_wp2_with fail
      refine (under_any d 19 _ HR.out.choose_spec.2.2.1 (by omega) (by omega)).mono ?_
      rintro x w2 ⟨⟨u, rfl, hu⟩, hd2, hg2⟩
      have R2 := HR.out.under hdw hd2 hg2
      obtain ⟨⟨z, c1⟩, f1⟩ := R2.cell j hjc
      have HR2 := Hid.mk R2
      clear R2 hd2 hg2 HR
      go_wp2_with fail
      go_roundw
      case measure => simp [intOf]; omega
      case rel => exact ⟨j + 1, by omega, by go_num, HR2.out.store hdw (Nat.le_refl _) j _ (by omega) (by omega)⟩
     ·go_wp2_with fail
      refine (under_any d 4 _ HR.out.choose_spec.2.2.1 (by omega) (by omega)).mono ?_
      rintro x w2 ⟨⟨u, rfl, hu⟩, hd2, hg2⟩
      have R2 := HR.out.under hdw hd2 hg2
      have HR2 := Hid.mk R2
      clear R2 hd2 hg2 HR
      by_cases hu0 : u = 0
      ·subst hu0
       go_wp2_with fail
       go_loopw [13] (fun i ws => ∃ j : Nat, j ≤ c ∧ i = .int .i64 j ∧ RwS wr0 ws d wr0.heap.size c M) (fun i _ => c - (intOf i).toNat)
       case atStart => exact ⟨0, Nat.zero_le _, rfl, HR2.out⟩
       case round =>
        clear HR2
        obtain ⟨j2, hj2, rfl, hrs⟩ := hrel
        have HR2 := Hid.mk hrs
        clear hrs
        by_cases hjc2 : j2 < c
        ·obtain ⟨⟨z, c1⟩, f1⟩ := HR2.out.cell j2 hjc2
         have hM2' := K.out.1.keep (KB.of_grown HR2.out.choose_spec.2.2.2 K.out.2.2.1.ty (by decide) (by decide))
         have c2 := hM2'.cell (k - 1) (by omega)
         have c3 := (hM2'.2 (k - 1) (by omega)).cell j2 hjc2
         have bz := K.out.2.1 (k - 1) (by omega) j2 hjc2
         have hpn := pow_next (k - 1)
         rw [show k - 1 + 1 = k from by omega, ← HM.out] at hpn
         generalize gs (k - 1) = G1 at c2 c3
         generalize e (k - 1) j2 = zz at c3 bz
         have b1 : -M ≤ 2 * zz := by omega
         have b2 : 2 * zz ≤ M := by omega
         clear hM2' hpn bz
         go_wp2_with fail
         go_roundw
         case measure => simp [intOf]; omega
         case rel => exact ⟨j2 + 1, by omega, by go_num, HR2.out.store hdw (Nat.le_refl _) j2 _ b1 b2⟩
        ·skip
         obtain ⟨f, q1, q2, q3, q4⟩ := HR2.out
         have Q := Hid.mk (And.intro q1 (And.intro q2 (And.intro q3 q4)))
         clear q1 q2 q3 q4 HR2
         go_wp2_with (at_builtin; refine append_row _ rfl (.tmp 59) (.tmp 61) rfl w.heap.size _ k c gs e rfl ?_ ⟨_, 0, none⟩ rfl wr0.heap.size f ?_ ?_ (by omega) ?_ ?_)
         ·exact (K.out.1.keep (KB.of_grown Q.out.2.2.2 K.out.2.2.1.ty (by decide) (by decide))).keep (KB.of_below ((Below.refl _ _).alloc (Nat.le_refl _) _))
         ·simp [Addr.add]
         ·exact Q.out.1.below ((Below.refl _ _).alloc (Nat.le_refl _) _) Q.out.1.lt
         ·have := Q.out.2.2.2.size; simp; omega
         intro v' w5 hM5 _ hg5 hown
         have hg6 := grown_own (grown_below (grown_trans K.out.2.2.2 Q.out.2.2.2) ((Below.refl _ _).alloc (Nat.le_refl _) _)) hg5 hown
         have hd6 := (Q.out.2.2.1.below ((Below.refl _ _).alloc (Nat.le_refl _) _) Q.out.2.2.1.lt).own hg5 hown hdl
         have HF := Hid.mk (And.intro hM5 (And.intro (K.out.2.1.next Q.out.2.1 (Int.le_of_eq HM.out)) (And.intro hd6 hg6)))
         clear hM5 hg5 hown hg6 hd6
         go_wp2_with fail
         go_roundw
         case measure => simp [intOf]; omega
         case rel => exact ⟨k + 1, _, _, by omega, by go_num, HF.out.1, HF.out.2.1, HF.out.2.2.1, HF.out.2.2.2, HRI.out.1.next K.out.1, low_next HRI.out.2 hwr⟩
      ·have hub : ((u : Int) == 0) = false := beq_eq_false_iff_ne.2 (by omega)
       clear hu0
       obtain ⟨f, q1, q2, q3, q4⟩ := HR2.out
       have Q := Hid.mk (And.intro q1 (And.intro q2 (And.intro q3 q4)))
       clear q1 q2 q3 q4 HR2
       go_wp2_with (at_builtin; refine append_row _ rfl (.tmp 59) (.tmp 61) rfl w.heap.size _ k c gs e rfl ?_ ⟨_, 0, none⟩ rfl wr0.heap.size f ?_ ?_ (by omega) ?_ ?_)
       ·exact (K.out.1.keep (KB.of_grown Q.out.2.2.2 K.out.2.2.1.ty (by decide) (by decide))).keep (KB.of_below ((Below.refl _ _).alloc (Nat.le_refl _) _))
       ·simp [Addr.add]
       ·exact Q.out.1.below ((Below.refl _ _).alloc (Nat.le_refl _) _) Q.out.1.lt
       ·have := Q.out.2.2.2.size; simp; omega
       intro v' w5 hM5 _ hg5 hown
       have hg6 := grown_own (grown_below (grown_trans K.out.2.2.2 Q.out.2.2.2) ((Below.refl _ _).alloc (Nat.le_refl _) _)) hg5 hown
       have hd6 := (Q.out.2.2.1.below ((Below.refl _ _).alloc (Nat.le_refl _) _) Q.out.2.2.1.lt).own hg5 hown hdl
       have HF := Hid.mk (And.intro hM5 (And.intro (K.out.2.1.next Q.out.2.1 (Int.le_of_eq HM.out)) (And.intro hd6 hg6)))
       clear hM5 hg5 hown hg6 hd6
       go_wp2_with fail
       go_roundw
       case measure => simp [intOf]; omega
       case rel => exact ⟨k + 1, _, _, by omega, by go_num, HF.out.1, HF.out.2.1, HF.out.2.2.1, HF.out.2.2.2, HRI.out.1.next K.out.1, low_next HRI.out.2 hwr⟩
   ·have hk00 : decide (0 < k) = false := by simp; omega
    clear hm hin hdi hgr hM hk0
    go_wp2_with (at_make; refine make_row _ rfl _ _ rfl _ _ c rfl rfl rfl rfl (by omega) ?_)
    intro w1 hrow hb1 hsz1
    have R1 : RwS wr0 w1 d wr0.heap.size c M := ⟨_, hrow, fun j hj => by constructor <;> (simp; omega), K.out.2.2.1.below hb1 K.out.2.2.1.lt, grown_below (World.grownBy.refl _ _) hb1⟩
    have HR := Hid.mk R1
    clear hrow hb1 R1
    go_wp2_with fail
    go_loopw [10] (fun i ws => ∃ j : Nat, j ≤ c ∧ i = .int .i64 j ∧ RwS wr0 ws d wr0.heap.size c M) (fun i _ => c - (intOf i).toNat)
    case atStart => exact ⟨0, Nat.zero_le _, rfl, HR.out⟩
    case round =>
     clear HR
     obtain ⟨j, hj, rfl, hrs⟩ := hrel
     have HR := Hid.mk hrs
     clear hrs
     by_cases hjc : j < c
     ·go_wp2_with fail
      refine (under_any d 19 _ HR.out.choose_spec.2.2.1 (by omega) (by omega)).mono ?_
      rintro x w2 ⟨⟨u, rfl, hu⟩, hd2, hg2⟩
      have R2 := HR.out.under hdw hd2 hg2
      obtain ⟨⟨z, c1⟩, f1⟩ := R2.cell j hjc
      have HR2 := Hid.mk R2
      clear R2 hd2 hg2 HR
      go_wp2_with fail
      go_roundw
      case measure => simp [intOf]; omega
      case rel => exact ⟨j + 1, by omega, by go_num, HR2.out.store hdw (Nat.le_refl _) j _ (by omega) (by omega)⟩
     ·go_wp2_with fail
      refine (under_any d 4 _ HR.out.choose_spec.2.2.1 (by omega) (by omega)).mono ?_
      rintro x w2 ⟨⟨u, rfl, hu⟩, hd2, hg2⟩
      have R2 := HR.out.under hdw hd2 hg2
      have HR2 := Hid.mk R2
      clear R2 hd2 hg2 HR
      by_cases hu0 : u = 0
      ·subst hu0
       obtain ⟨f, q1, q2, q3, q4⟩ := HR2.out
       have Q := Hid.mk (And.intro q1 (And.intro q2 (And.intro q3 q4)))
       clear q1 q2 q3 q4 HR2
       go_wp2_with (at_builtin; refine append_row _ rfl (.tmp 59) (.tmp 61) rfl w.heap.size _ k c gs e rfl ?_ ⟨_, 0, none⟩ rfl wr0.heap.size f ?_ ?_ (by omega) ?_ ?_)
       ·exact (K.out.1.keep (KB.of_grown Q.out.2.2.2 K.out.2.2.1.ty (by decide) (by decide))).keep (KB.of_below ((Below.refl _ _).alloc (Nat.le_refl _) _))
       ·simp [Addr.add]
       ·exact Q.out.1.below ((Below.refl _ _).alloc (Nat.le_refl _) _) Q.out.1.lt
       ·have := Q.out.2.2.2.size; simp; omega
       intro v' w5 hM5 _ hg5 hown
       have hg6 := grown_own (grown_below (grown_trans K.out.2.2.2 Q.out.2.2.2) ((Below.refl _ _).alloc (Nat.le_refl _) _)) hg5 hown
       have hd6 := (Q.out.2.2.1.below ((Below.refl _ _).alloc (Nat.le_refl _) _) Q.out.2.2.1.lt).own hg5 hown hdl
       have HF := Hid.mk (And.intro hM5 (And.intro (K.out.2.1.next Q.out.2.1 (Int.le_of_eq HM.out)) (And.intro hd6 hg6)))
       clear hM5 hg5 hown hg6 hd6
       go_wp2_with fail
       go_roundw
       case measure => simp [intOf]; omega
       case rel => exact ⟨k + 1, _, _, by omega, by go_num, HF.out.1, HF.out.2.1, HF.out.2.2.1, HF.out.2.2.2, HRI.out.1.next K.out.1, low_next HRI.out.2 hwr⟩
      ·have hub : ((u : Int) == 0) = false := beq_eq_false_iff_ne.2 (by omega)
       clear hu0
       obtain ⟨f, q1, q2, q3, q4⟩ := HR2.out
       have Q := Hid.mk (And.intro q1 (And.intro q2 (And.intro q3 q4)))
       clear q1 q2 q3 q4 HR2
       go_wp2_with (at_builtin; refine append_row _ rfl (.tmp 59) (.tmp 61) rfl w.heap.size _ k c gs e rfl ?_ ⟨_, 0, none⟩ rfl wr0.heap.size f ?_ ?_ (by omega) ?_ ?_)
       ·exact (K.out.1.keep (KB.of_grown Q.out.2.2.2 K.out.2.2.1.ty (by decide) (by decide))).keep (KB.of_below ((Below.refl _ _).alloc (Nat.le_refl _) _))
       ·simp [Addr.add]
       ·exact Q.out.1.below ((Below.refl _ _).alloc (Nat.le_refl _) _) Q.out.1.lt
       ·have := Q.out.2.2.2.size; simp; omega
       intro v' w5 hM5 _ hg5 hown
       have hg6 := grown_own (grown_below (grown_trans K.out.2.2.2 Q.out.2.2.2) ((Below.refl _ _).alloc (Nat.le_refl _) _)) hg5 hown
       have hd6 := (Q.out.2.2.1.below ((Below.refl _ _).alloc (Nat.le_refl _) _) Q.out.2.2.1.lt).own hg5 hown hdl
       have HF := Hid.mk (And.intro hM5 (And.intro (K.out.2.1.next Q.out.2.1 (Int.le_of_eq HM.out)) (And.intro hd6 hg6)))
       clear hM5 hg5 hown hg6 hd6
       go_wp2_with fail
       go_roundw
       case measure => simp [intOf]; omega
       case rel => exact ⟨k + 1, _, _, by omega, by go_num, HF.out.1, HF.out.2.1, HF.out.2.2.1, HF.out.2.2.2, HRI.out.1.next K.out.1, low_next HRI.out.2 hwr⟩
  ·have hke : k = r := by omega
   have HK := Hid.mk hke
   clear hm hin hdi hgr hke
   go_wp2_with fail
   go_ret
   have hke := HK.out
   subst hke
   exact ⟨_, gs, e, rfl, K.out.1, K.out.2.1, K.out.2.2.1, K.out.2.2.2, HRI.out.1, HRI.out.2⟩
open Go.RowKit R
theorem reduce_stk (B d b g r c : Nat) (zs : List Int) (l : List KMx) (w : World) (hk : KL B w d b l) (hl : l.length + 2 ≤ 24) (hg : l[g]? = some (r, c, zs)) (f : FitsP r c zs) :
 Calls Tryz.prog 46 #[.pointer (some ⟨b, 0, none⟩), .int .i64 g] w fun x w' => ∃ hb xs, x = .returned (.tuple #[.slice (some ⟨hb, 0, none⟩) 2 2, .int .i64 0]) ∧ RdRes r c zs xs ∧ xs.length = 2 ∧ KL B w' d b (l ++ xs) ∧ Fr b w w' ∧ ∀ j, j < 2 → w'.cell? ⟨hb, j, none⟩ = some (.int .i64 ((l.length + j : Nat) : Int)) := by
 refine (reduce_held b g (stk l) l.length w hk.held (by omega)).mono ?_
 rintro x w' ⟨v, e, ok, xs, rfl, hrel, hout⟩
 obtain ⟨rfl, h1, h2, h3, h4, hb, rfl, h5⟩ := many_stk hk hl hg f hrel hout
 exact ⟨hb, xs, rfl, h1, h2, h3, h4, h5⟩
theorem equal_stkF (B d b g h r r' c : Nat) (zs ys : List Int) (l : List KMx) (w : World) (hk : KL B w d b l) (hl : l.length ≤ 24) (hg : l[g]? = some (r, c, zs)) (hh : l[h]? = some (r', c, ys)) (f1 : FitsP r c zs) (f2 : FitsP r' c ys) :
 Calls Tryz.prog 47 #[.pointer (some ⟨b, 0, none⟩), .int .i64 g, .int .i64 h] w fun x w' => ∃ y : Bool, x = .returned (.tuple #[.bool y, .int .i64 0]) ∧ (y = true ↔ SpEq (ent c zs) (ent c ys) r r' c) ∧ HasF (ent c zs) r c ∧ Below w.heap.size w w' := by
 refine (equal_held b g h (stk l) l.length w hk.held).mono ?_
 rintro x w' ⟨y, e, rfl, hrel, hb⟩
 rcases hrel with ⟨h1, -⟩ | ⟨i, hd, r1, q1, zs1, j, hd', r1', c1, ys1, hi, hx, hxk, hj, hy, hyk, hrel⟩
 ·rcases h1 with h1 | h1
  ·exact (stk_no (by omega) hg h1).elim
  ·exact (stk_no (by omega) hh h1).elim
 ·have e1 := stk_is hi hx hxk hg
  have e2 := stk_is hj hy hyk hh
  simp only [Prod.mk.injEq] at e1 e2
  obtain ⟨rfl, rfl, rfl⟩ := e1
  obtain ⟨rfl, rfl, rfl⟩ := e2
  rcases hrel with ⟨h1, -⟩ | ⟨-, h1, -⟩ | ⟨-, -, rfl, h3, h4, -⟩
  ·exact absurd rfl h1
  ·exact absurd ⟨f1, f2⟩ h1
  ·exact ⟨y, rfl, h3, h4, hb⟩
theorem few_fits {r c : Nat} {zs : List Int} (hr : r ≤ 4) (hc : c ≤ 4) (h : ∀ i j, i < r → j < c → (ent c zs i j).natAbs ≤ 600000) : FitsP r c zs := by
 refine ⟨hr, hc, fun t ht => ?_⟩
 have hd := rect_div ht
 have h1 := h _ _ hd.1 hd.2
 have h2 : ent c zs (t / c) (t % c) = zs.getD t 0 := by
  unfold ent
  rw [Nat.mul_comm, Nat.div_add_mod]
 rw [h2] at h1
 omega
structure ShA (r c : Nat) (zs : List Int) (n : Nat) (rs ts : List Int) : Prop where
 nr : n ≤ r
 len : rs.length = n * c
 small : ∀ i j, i < n → j < c → (ent c rs i j).natAbs ≤ 600000
 same : SpEq (ent c zs) (ent c rs) r n c
 made : ∀ i j, i < n → j < c → sm (fun a => ent r ts i a * ent c zs a j) r = ent c rs i j
 tlen : ts.length = n * r
 first : ∀ i, i < r → (∃ j, j < c ∧ ent c zs i j ≠ 0) → 1 ≤ n ∧ ip c (ent c rs 0) (ent c rs 0) ≤ ((2 ^ (n - 1) : Nat) : Int) * ip c (ent c zs i) (ent c zs i)
 unit : r = c → HasF (ent c zs) r c → divF (ent c zs) r r r = 1 → n = r ∧ ∀ i, i < r → ip c (ent c rs i) (ent c rs i) = 1
theorem ip_le {c M : Nat} {x : Nat → Int} (h : ∀ j, j < c → (x j).natAbs ≤ M) : ip c x x ≤ ((c * (M * M) : Nat) : Int) := by
 induction c with
 | zero => simp [ip, sm]
 | succ c ih =>
   have h1 := ih (fun j hj => h j (by omega))
   have h2 := Nat.mul_le_mul (h c (by omega)) (h c (by omega))
   have h3 : (((x c).natAbs * (x c).natAbs : Nat) : Int) = x c * x c := Int.natAbs_mul_self' (x c)
   have h4 : ip (c + 1) x x = ip c x x + x c * x c := rfl
   have h5 : (c + 1) * (M * M) = c * (M * M) + M * M := by rw [Nat.add_mul, Nat.one_mul]
   rw [h4, h5]
   omega
theorem RdRes.all {r c : Nat} {zs : List Int} {xs : List KMx} (h : RdRes r c zs xs) (hr : r ≤ 3) (hc : c ≤ 3) (hz : ∀ i j, i < r → j < c → (ent c zs i j).natAbs ≤ 36) : ∃ n rs ts, xs = [(n, c, rs), (n, r, ts)] ∧ ShA r c zs n rs ts := by
 obtain ⟨n, kk, rs, ts, rfl, hR, hA, l1, l2⟩ := h
 refine ⟨n, rs, ts, rfl, ?_⟩
 obtain ⟨hn, z, hq⟩ := RdRes.small (X := 3888) (by omega) (fun i hi => by
  have := ip_le (M := 36) (fun j hj => hz i j hi hj)
  have : c * (36 * 36) ≤ 3 * (36 * 36) := Nat.mul_le_mul_right _ hc
  omega) hA
 have hkz := hq.kz
 refine ⟨hn, l1, fun i j hi hj => ?_, ⟨hR.back, fun i hi => ⟨ent r ts i, fun j hj => (hR.tm i j hi hj).symm⟩⟩, hR.tm, l2, fun i hi hne => first_short hq (hR.back i hi) hne, fun hrc hF hd => ?_⟩
 ·have h1 := hq.len i hi
  have h2 := ip_ge (ent c rs i) hj
  have h3 : (((ent c rs i j).natAbs * (ent c rs i j).natAbs : Nat) : Int) = ent c rs i j * ent c rs i j := Int.natAbs_mul_self' _
  have h4 : 3888 * 2 ^ (r - n) ≤ 3888 * 2 ^ 3 := Nat.mul_le_mul_left _ (Nat.pow_le_pow_right (by decide) (by omega))
  rcases Nat.lt_or_ge 600000 (ent c rs i j).natAbs with h5 | h5
  ·have h6 := Nat.mul_le_mul (Nat.le_of_lt h5) (Nat.le_of_lt h5)
   omega
  ·exact h5
 ·subst hrc
  have hrk := rank_of_div (by omega) (Nat.le_refl _) (show divF (ent r zs) r r r ≠ 0 by omega)
  obtain ⟨-, rfl⟩ := hR.rank hrk
  have hu := unit_span (by omega) hF hd
  have hs : ∀ i, i < n → Sp (ent n rs) n n (kd i) := fun i hi => (hu i hi).trans (fun a ha => hR.back a ha)
  exact ⟨rfl, unit_rows hq (by omega) (unit_vol (by omega) (hq.pos n (by omega)) hs)⟩
open Go.RowKit
def Sig (b : UInt8) : Prop := (48 ≤ b.toNat ∧ b.toNat ≤ 57) ∨ b.toNat = 45 ∨ b.toNat = 59 ∨ b.toNat = 32
theorem kitoa_sig (z : Int) : ∀ b ∈ Lib.itoa z, Sig b := by
 intro b hb
 unfold Lib.itoa at hb
 split at hb
 ·rcases List.mem_cons.1 hb with rfl | hb
  ·exact .inr (.inl rfl)
  ·exact .inl ((R.dval_dec _).2 b hb)
 ·exact .inl ((R.dval_dec _).2 b hb)
theorem kbody_sig (c : Nat) : ∀ (zs : List Int) (t : Nat), ∀ b ∈ bodyT c t (zs.map Lib.itoa), Sig b := by
 intro zs
 induction zs with
 | nil => intro t b hb; simp [bodyT] at hb
 | cons z r ih =>
   intro t b hb
   rw [List.map_cons, bodyT] at hb
   rcases List.mem_append.1 hb with hb | hb
   ·split at hb
    ·simp at hb; subst hb; exact .inr (.inr (.inl rfl))
    ·simp at hb
   ·rcases List.mem_cons.1 hb with rfl | hb
    ·exact .inr (.inr (.inr rfl))
    ·rcases List.mem_append.1 hb with hb | hb
     ·exact kitoa_sig z b hb
     ·exact ih (t + 1) b hb
theorem kbody_len (c : Nat) : ∀ (zs : List Int) (t : Nat), (∀ z ∈ zs, z.natAbs ≤ 1073741824) → (bodyT c t (zs.map Lib.itoa)).length ≤ 23 * zs.length := by
 intro zs
 induction zs with
 | nil => intro t _; simp [bodyT]
 | cons z r ih =>
   intro t h
   rw [List.map_cons, bodyT]
   have h1 := ih (t + 1) (fun y hy => h y (List.mem_cons_of_mem _ hy))
   have h2 := h z (List.mem_cons_self ..)
   have h3 := Lib.itoa_length_le z (by omega) (by omega)
   simp only [List.length_append, List.length_cons]
   split <;> simp <;> omega
theorem read_mat (n c : Nat) (rs : List Int) (w : World) (hn : n ≤ 3) (hc : c ≤ 3) (hl : rs.length = n * c) (hz : ∀ t, t < rs.length → (rs.getD t 0).natAbs ≤ 1073741824) :
 Calls Tryz.prog 49 #[.string ⟨(matT n c rs).toArray⟩] w fun e w' => ∃ v B', e = .returned (.tuple #[v, .bool true]) ∧ RMs w.heap.size B' w' v (if c = 0 then [] else rowsL rs c n) ∧ Below w.heap.size w w' := by
 obtain ⟨body, hbody⟩ : ∃ body, body = bodyT c 0 (rs.map Lib.itoa) := ⟨_, rfl⟩
 have hT : matT n c rs = UInt8.ofNat (48 + n) :: 120 :: UInt8.ofNat (48 + c) :: 58 :: body := by
  unfold matT
  rw [Lib.decDigits_one (by omega), Lib.decDigits_one (by omega), hbody]
  rfl
 have hmem : ∀ z ∈ rs, z.natAbs ≤ 1073741824 := fun z hzm => by
  obtain ⟨t, ht, rfl⟩ := List.mem_iff_getElem.1 hzm
  have := hz t ht
  rwa [List.getD, List.getElem?_eq_getElem ht] at this
 have hlen : body.length ≤ 23 * rs.length := by rw [hbody]; exact kbody_len c rs 0 hmem
 have h9 : rs.length ≤ 9 := by rw [hl]; exact Nat.mul_le_mul hn hc
 obtain ⟨S, hgo, hrows⟩ : ∃ S, PS.go ⟨[], [], 0, false, false⟩ body = some S ∧ S.rows = (if c = 0 then [] else rowsL rs c n) := by
  by_cases h0 : n = 0 ∨ c = 0
  ·have hrs : rs = [] := List.eq_nil_of_length_eq_zero (by rw [hl]; rcases h0 with h | h <;> simp [h])
   refine ⟨⟨[], [], 0, false, false⟩, by rw [hbody, hrs]; rfl, ?_⟩
   rcases h0 with h | h
   ·subst h; simp [PS.rows, PS.put, rowsL]
   ·rw [if_pos h]; rfl
  ·obtain ⟨S, h1, h2⟩ := mat_go (zs := rs) (r := n) (c := c) (by omega) (by omega) hl hz
   exact ⟨S, by rw [hbody]; exact h1, by rw [h2, if_neg (by omega)]⟩
 have hsz : (⟨(matT n c rs).toArray⟩ : ByteArray).size = body.length + 4 := by
  rw [hT]
  simp [ByteArray.size]
 have hget : ∀ j (hj : j < (⟨(matT n c rs).toArray⟩ : ByteArray).size), (⟨(matT n c rs).toArray⟩ : ByteArray)[j]'hj = (matT n c rs).getD j 0 := fun j hj => by
  have hj' : j < (matT n c rs).length := by simpa [ByteArray.size] using hj
  rw [List.getD, List.getElem?_eq_getElem hj']
  rfl
 refine (read_any ⟨(matT n c rs).toArray⟩ 3 S w (by omega) (by omega) ?_ ?_ ?_ ?_).mono ?_
 ·rw [hget, hT]; rfl
 ·intro j hj
  rw [hget, hT]
  obtain rfl | rfl | rfl : j = 0 ∨ j = 1 ∨ j = 2 := by omega
  ·show (UInt8.ofNat (48 + n)).toNat ≠ 58
   rw [UInt8.toNat_ofNat']; omega
  ·show (120 : UInt8).toNat ≠ 58
   decide
  ·show (UInt8.ofNat (48 + c)).toNat ≠ 58
   rw [UInt8.toNat_ofNat']; omega
 ·intro j hj h3
  rw [hget]
  have hjb : j - 4 < body.length := by omega
  have e : (matT n c rs).getD j 0 = body.getD (j - 4) 0 := by
   rw [hT, show j = (j - 4) + 4 by omega]
   rfl
  rw [e, List.getD, List.getElem?_eq_getElem hjb]
  exact kbody_sig c rs 0 _ (by rw [← hbody]; exact List.getElem_mem hjb)
 ·show PS.go _ ((matT n c rs).drop 4) = _
  rw [hT]
  exact hgo
 ·rintro e w' ⟨v, B', rfl, h1, h2⟩
  rw [hrows] at h1
  exact ⟨v, B', rfl, h1, h2⟩
open Go.RowKit
theorem detF_low : ∀ (n : Nat) (f g : Nat → Nat → Int), (∀ i j, i < n → j < n → f i j = g i j) → detF n f = detF n g := by
 intro n
 induction n with
 | zero => intro f g _; rfl
 | succ n ih =>
   intro f g h
   rw [detF, detF]
   refine R.sumF_congr (fun k hk => ?_)
   rw [h 0 k (by omega) hk, ih _ (fun i j => g (i + 1) (skip k j)) (fun i j hi hj => h (i + 1) (skip k j) (by omega) (by unfold skip; split <;> omega))]
theorem det_ranged (n : Nat) (f : Nat → Nat → Int) : detF n (fun i j => f ((List.range n).getD i 0) ((List.range n).getD j 0)) = detF n f :=
 detF_low n _ _ (fun i j hi hj => by simp [List.getD, hi, hj])
theorem div_det (n : Nat) (f : Nat → Nat → Int) : R.divF f n n n = (detF n f).natAbs := by
 unfold R.divF
 rw [R.chosenL_self]
 have h1 : R.minorF f (List.range n) (List.range n) = detF n f := by
  rw [R.minor_det f (List.range n) (List.range n) rfl, List.length_range]
  exact det_ranged n f
 simp [R.gA, R.gR, h1]
end Go.Proofs.YtfjbijpagaipnabGreatDoor
