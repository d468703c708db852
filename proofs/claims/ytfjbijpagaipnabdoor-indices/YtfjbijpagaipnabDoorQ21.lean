import Derived.Test.YtfjbijpagaipnabDoorQ19
import Derived.Test.YtfjbijpagaipnabDoorQ20
import Derived.Test.YtfjbijpagaipnabDoorQ09
import Derived.BigRegion
namespace Go.Proofs.YtfjbijpagaipnabDoor
open Go.RowKit
def RowIn (c : Nat) (f : Nat → Int) (m : Int) : Prop := ∀ j, j < c → -m ≤ f j ∧ f j ≤ m
theorem RowIn.upd {c : Nat} {f : Nat → Int} {m : Int} (h : RowIn c f m) (j : Nat) (z : Int) (h1 : -m ≤ z) (h2 : z ≤ m) : RowIn c (upd f j z) m := by
 intro k hk
 unfold Proofs.YtfjbijpagaipnabDoor.upd
 split
 ·exact ⟨h1, h2⟩
 ·exact h k hk
def RowsIn (n c : Nat) (e : Nat → Nat → Int) : Prop := ∀ i, i < n → RowIn c (e i) (9 * 2 ^ i)
theorem IRow.grown {w w' : World} {g c p : Nat} {f : Nat → Int} (h : IRow w g c f) (hg : w.grownBy w' (some p)) (hp : p ≠ g) : IRow w' g c f := by
 unfold IRow
 rw [hg.block g h.lt (fun e => hp (by injection e with e; exact e.symm))]; exact h
theorem IRow.below {B : Nat} {w w' : World} {g c : Nat} {f : Nat → Int} (h : IRow w g c f) (hb : Below B w w') (hB : g < B) : IRow w' g c f := by
 unfold IRow
 rw [hb.block g hB]; exact h
def RS (wr ws : World) (d G c : Nat) (M : Int) : Prop := ∃ f, IRow ws G c f ∧ RowIn c f M ∧ Di ws d ∧ wr.grownBy ws (some d)
theorem RS.under {wr ws ws' : World} {d G c : Nat} {M : Int} (h : RS wr ws d G c M) (hd : d ≠ G) (hdi : Di ws' d) (hg : ws.grownBy ws' (some d)) : RS wr ws' d G c M := by
 obtain ⟨f, h1, h2, h3, h4⟩ := h
 exact ⟨f, h1.grown hg hd, h2, hdi, grown_trans h4 hg⟩
theorem grown_store {W w : World} {row : Option Nat} {p i : Nat} {x : Value} (h : W.grownBy w row) (hp : W.heap.size ≤ p) : W.grownBy (w.setCell ⟨p, i, none⟩ x) row := by
 refine ⟨h.os, h.tape, h.output, by have := h.size; simp [World.setCell]; omega, fun k hk hne => ?_⟩
 rw [Below.heap_setCell _ _ _ _ (by simp; omega)]
 exact h.block k hk hne
theorem Di.store {w : World} {d g j : Nat} (h : Di w d) (hd : d ≠ g) (u : Value) : Di (w.setCell ⟨g, j, none⟩ u) d := by
 obtain ⟨x, h1, h2⟩ := h
 exact ⟨x, h1, by rw [Below.heap_setCell _ _ _ _ (by simpa using hd)]; exact h2⟩
theorem RS.store {wr ws : World} {d G c : Nat} {M : Int} (h : RS wr ws d G c M) (hd : d ≠ G) (hG : wr.heap.size ≤ G) (j : Nat) (z : Int) (h1 : -M ≤ z) (h2 : z ≤ M) : RS wr (ws.setCell ⟨G, j, none⟩ (.int .i64 z)) d G c M := by
 obtain ⟨f, e1, e2, e3, e4⟩ := h
 exact ⟨_, e1.stored j z, e2.upd j z h1 h2, e3.store hd _, grown_store e4 hG⟩
theorem RS.cell {wr ws : World} {d G c : Nat} {M : Int} (h : RS wr ws d G c M) (j : Nat) (hj : j < c) : (∃ z, ws.cell? ⟨G, j, none⟩ = some (.int .i64 z)) ∧ ws.frozen? ⟨G, j, none⟩ = false := by
 obtain ⟨f, e1, -⟩ := h
 exact ⟨⟨_, e1.cell j hj⟩, e1.frozen j⟩
theorem grown_own {w ws w5 : World} {d : Nat} {row : Option Nat} (h : w.grownBy ws (some d)) (hg : ws.grownBy w5 row) (hr : ∀ k, row = some k → w.heap.size ≤ k) : w.grownBy w5 (some d) := by
 have hsz := h.size
 exact ⟨hg.os.trans h.os, hg.tape.trans h.tape, hg.output.trans h.output, Nat.le_trans hsz hg.size, fun k hk hne => (hg.block k (by omega) (fun e => by have := hr k e.symm; omega)).trans (h.block k hk hne)⟩
theorem Di.own {w w' : World} {d B : Nat} {row : Option Nat} (h : Di w d) (hg : w.grownBy w' row) (hr : ∀ k, row = some k → B ≤ k) (hd : d < B) : Di w' d := by
 have hl := h.lt
 obtain ⟨x, h1, h2⟩ := h
 exact ⟨x, h1, by rw [hg.block d hl (fun e => by have := hr d e.symm; omega)]; exact h2⟩
theorem RowsIn.next {k c : Nat} {e : Nat → Nat → Int} {f : Nat → Int} {M : Int} (h : RowsIn k c e) (hf : RowIn c f M) (hM : M ≤ 9 * 2 ^ k) : RowsIn (k + 1) c (fun i => if i = k then f else e i) := by
 intro i hi
 by_cases hik : i = k
 ·subst hik
  simp only [if_true]
  intro j hj
  have := hf j hj
  omega
 ·simp only [hik, if_false]; exact h i (by omega)
theorem pow_box (k : Nat) (hk : k < 3) : (9 : Int) * 2 ^ k ≤ 36 ∧ (9 : Int) ≤ 9 * 2 ^ k := by
 obtain rfl | rfl | rfl : k = 0 ∨ k = 1 ∨ k = 2 := by omega
 all_goals decide
theorem pow_next (k : Nat) : (9 : Int) * 2 ^ (k + 1) = 2 * (9 * 2 ^ k) := by rw [Int.pow_succ]; omega
def Rise (n : Nat) (gs : Nat → Nat) : Prop := ∀ i j, i < j → j < n → gs i < gs j
theorem low_next {B X n : Nat} {gs : Nat → Nat} (h : ∀ i, i < n → B ≤ gs i) (hX : B ≤ X) : ∀ i, i < n + 1 → B ≤ (if i = n then X else gs i) := by
 intro i hi
 by_cases e0 : i = n
 ·simp only [e0, if_true]; exact hX
 ·simp only [e0, if_false]; exact h i (by omega)
theorem Rise.next {B : Nat} {w : World} {v : Value} {n c : Nat} {gs : Nat → Nat} {e : Nat → Nat → Int} (h : Rise n gs) (hm : Mat B w v n c gs e) : Rise (n + 1) (fun i => if i = n then w.heap.size else gs i) := by
 intro i j hij hj
 have hi : i ≠ n := by omega
 simp only [hi, if_false]
 by_cases e0 : j = n
 ·simp only [e0, if_true]
  exact (hm.2 i (by omega)).lt
 ·simp only [e0, if_false]
  exact h i j hij (by omega)
theorem Rise.ne {n : Nat} {gs : Nat → Nat} (h : Rise n gs) {i j : Nat} (hi : i < n) (hj : j < n) (hij : i ≠ j) : gs i ≠ gs j := by
 rcases Nat.lt_or_gt_of_ne hij with h1 | h1
 ·have := h i j h1 hj; omega
 ·have := h j i h1 hi; omega
set_option maxRecDepth 100000 in
set_option maxHeartbeats 4000000 in
theorem drawn_rise (d r c : Nat) (w : World) (h : Di w d) (hr : r ≤ 3) (hc : c ≤ 3) :
 Calls Tryd.prog 10 #[.pointer (some ⟨d, 0, none⟩), .int .i64 r, .int .i64 c] w fun x w' => ∃ v gs e, x = .returned v ∧ Mat w.heap.size w' v r c gs e ∧ RowsIn r c e ∧ Di w' d ∧ w.grownBy w' (some d) ∧ Rise r gs ∧ ∀ i, i < r → w.heap.size ≤ gs i := by
 have hdl := h.lt
 have H := Hid.mk h
 clear h
 go_enter Tryd.func10, Tryd.ntmps10
 go_wp2_with fail
 go_loopw [7, 8] (fun v i wr => ∃ (k : Nat) (gs : Nat → Nat) (e : Nat → Nat → Int), k ≤ r ∧ i = .int .i64 k ∧ Mat w.heap.size wr v k c gs e ∧ RowsIn k c e ∧ Di wr d ∧ w.grownBy wr (some d) ∧ (Rise k gs ∧ ∀ i, i < k → w.heap.size ≤ gs i)) (fun _ i _ => r - (intOf i).toNat)
 case atStart => exact ⟨0, fun _ => 0, fun _ _ => 0, Nat.zero_le _, rfl, Mat.nil _ _ _ _ _, fun i hi => by omega, H.out, World.grownBy.refl _ _, fun i j hi hj => by omega, fun i hi => by omega⟩
 case round =>
  rename World => wr0
  obtain ⟨k, gs, e, hk, rfl, hm, hin, hdi, hgr, hri⟩ := hrel
  have HRI := Hid.mk hri
  clear hri
  have hwr := hgr.size
  have K := Hid.mk (And.intro hm (And.intro hin (And.intro hdi hgr)))
  by_cases hkr : k < r
  ·obtain ⟨M, hM⟩ : ∃ M : Int, M = 9 * 2 ^ k := ⟨_, rfl⟩
   have hMb := pow_box k (by omega)
   rw [← hM] at hMb
   obtain ⟨hM1, hM2⟩ := hMb
   have HM := Hid.mk hM
   have hdw : d ≠ wr0.heap.size := by omega
   by_cases hk0 : 0 < k
   ·rcases hm.shape with ⟨rfl, h0⟩ | ⟨g, cap, rfl, hcap1, hcap2, -, hgl, -, -⟩
    ·omega
    clear hm hin hdi hgr hM
    go_wp2_with (at_make; refine make_row _ rfl _ _ rfl _ _ c rfl rfl rfl rfl (by omega) ?_)
    intro w1 hrow hb1 hsz1
    have R1 : RS wr0 w1 d wr0.heap.size c M := ⟨_, hrow, fun j hj => by constructor <;> (simp; omega), K.out.2.2.1.below hb1 K.out.2.2.1.lt, grown_below (World.grownBy.refl _ _) hb1⟩
    have HR := Hid.mk R1
    clear hrow hb1 R1
    go_wp2_with fail
    go_loopw [10] (fun i ws => ∃ j : Nat, j ≤ c ∧ i = .int .i64 j ∧ RS wr0 ws d wr0.heap.size c M) (fun i _ => c - (intOf i).toNat)
    case atStart => exact ⟨0, Nat.zero_le _, rfl, HR.out⟩
    case round =>
     clear HR
     obtain ⟨j, hj, rfl, hrs⟩ := hrel
     have HR := Hid.mk hrs
     clear hrs
     by_cases hjc : j < c
     ·go_wp2_with fail
      refine (under_any d 19 _ HR.out.choose_spec.2.2.1 (by omega) (by omega)).mono ?_
      rintro x w2 ⟨⟨u, rfl, hu⟩, hd2, hg2⟩
      have R2 := HR.out.under hdw hd2 hg2
      obtain ⟨⟨z, c1⟩, f1⟩ := R2.cell j hjc
      have HR2 := Hid.mk R2
      clear R2 hd2 hg2 HR
      go_wp2_with fail
      go_roundw
      case measure => simp [intOf]; omega
      case rel => exact ⟨j + 1, by omega, by go_num, HR2.out.store hdw (Nat.le_refl _) j _ (by omega) (by omega)⟩
     ·go_wp2_with fail
      refine (under_any d 4 _ HR.out.choose_spec.2.2.1 (by omega) (by omega)).mono ?_
      rintro x w2 ⟨⟨u, rfl, hu⟩, hd2, hg2⟩
      have R2 := HR.out.under hdw hd2 hg2
      have HR2 := Hid.mk R2
      clear R2 hd2 hg2 HR
      by_cases hu0 : u = 0
      ·subst hu0
       go_wp2_with fail
       go_loopw [13] (fun i ws => ∃ j : Nat, j ≤ c ∧ i = .int .i64 j ∧ RS wr0 ws d wr0.heap.size c M) (fun i _ => c - (intOf i).toNat)
       case atStart => exact ⟨0, Nat.zero_le _, rfl, HR2.out⟩
       case round =>
        clear HR2
        obtain ⟨j2, hj2, rfl, hrs⟩ := hrel
        have HR2 := Hid.mk hrs
        clear hrs
        by_cases hjc2 : j2 < c
        ·obtain ⟨⟨z, c1⟩, f1⟩ := HR2.out.cell j2 hjc2
         have hM2' := K.out.1.keep (KB.of_grown HR2.out.choose_spec.2.2.2 K.out.2.2.1.ty (by decide) (by decide))
         have c2 := hM2'.cell (k - 1) (by omega)
         have c3 := (hM2'.2 (k - 1) (by omega)).cell j2 hjc2
         have bz := K.out.2.1 (k - 1) (by omega) j2 hjc2
         have hpn := pow_next (k - 1)
         rw [show k - 1 + 1 = k from by omega, ← HM.out] at hpn
         generalize gs (k - 1) = G1 at c2 c3
         generalize e (k - 1) j2 = zz at c3 bz
         have b1 : -M ≤ 2 * zz := by omega
         have b2 : 2 * zz ≤ M := by omega
         clear hM2' hpn bz
         go_wp2_with fail
         go_roundw
         case measure => simp [intOf]; omega
         case rel => exact ⟨j2 + 1, by omega, by go_num, HR2.out.store hdw (Nat.le_refl _) j2 _ b1 b2⟩
        ·skip
         obtain ⟨f, q1, q2, q3, q4⟩ := HR2.out
         have Q := Hid.mk (And.intro q1 (And.intro q2 (And.intro q3 q4)))
         clear q1 q2 q3 q4 HR2
         go_wp2_with (at_builtin; refine append_row _ rfl (.tmp 59) (.tmp 61) rfl w.heap.size _ k c gs e rfl ?_ ⟨_, 0, none⟩ rfl wr0.heap.size f ?_ ?_ (by omega) ?_ ?_)
         ·exact (K.out.1.keep (KB.of_grown Q.out.2.2.2 K.out.2.2.1.ty (by decide) (by decide))).keep (KB.of_below ((Below.refl _ _).alloc (Nat.le_refl _) _))
         ·simp [Addr.add]
         ·exact Q.out.1.below ((Below.refl _ _).alloc (Nat.le_refl _) _) Q.out.1.lt
         ·have := Q.out.2.2.2.size; simp; omega
         intro v' w5 hM5 _ hg5 hown
         have hg6 := grown_own (grown_below (grown_trans K.out.2.2.2 Q.out.2.2.2) ((Below.refl _ _).alloc (Nat.le_refl _) _)) hg5 hown
         have hd6 := (Q.out.2.2.1.below ((Below.refl _ _).alloc (Nat.le_refl _) _) Q.out.2.2.1.lt).own hg5 hown hdl
         have HF := Hid.mk (And.intro hM5 (And.intro (K.out.2.1.next Q.out.2.1 (Int.le_of_eq HM.out)) (And.intro hd6 hg6)))
         clear hM5 hg5 hown hg6 hd6
         go_wp2_with fail
         go_roundw
         case measure => simp [intOf]; omega
         case rel => exact ⟨k + 1, _, _, by omega, by go_num, HF.out.1, HF.out.2.1, HF.out.2.2.1, HF.out.2.2.2, HRI.out.1.next K.out.1, low_next HRI.out.2 hwr⟩
      ·have hub : ((u : Int) == 0) = false := beq_eq_false_iff_ne.2 (by omega)
       clear hu0
       obtain ⟨f, q1, q2, q3, q4⟩ := HR2.out
       have Q := Hid.mk (And.intro q1 (And.intro q2 (And.intro q3 q4)))
       clear q1 q2 q3 q4 HR2
       go_wp2_with (at_builtin; refine append_row _ rfl (.tmp 59) (.tmp 61) rfl w.heap.size _ k c gs e rfl ?_ ⟨_, 0, none⟩ rfl wr0.heap.size f ?_ ?_ (by omega) ?_ ?_)
       ·exact (K.out.1.keep (KB.of_grown Q.out.2.2.2 K.out.2.2.1.ty (by decide) (by decide))).keep (KB.of_below ((Below.refl _ _).alloc (Nat.le_refl _) _))
       ·simp [Addr.add]
       ·exact Q.out.1.below ((Below.refl _ _).alloc (Nat.le_refl _) _) Q.out.1.lt
       ·have := Q.out.2.2.2.size; simp; omega
       intro v' w5 hM5 _ hg5 hown
       have hg6 := grown_own (grown_below (grown_trans K.out.2.2.2 Q.out.2.2.2) ((Below.refl _ _).alloc (Nat.le_refl _) _)) hg5 hown
       have hd6 := (Q.out.2.2.1.below ((Below.refl _ _).alloc (Nat.le_refl _) _) Q.out.2.2.1.lt).own hg5 hown hdl
       have HF := Hid.mk (And.intro hM5 (And.intro (K.out.2.1.next Q.out.2.1 (Int.le_of_eq HM.out)) (And.intro hd6 hg6)))
       clear hM5 hg5 hown hg6 hd6
       go_wp2_with fail
       go_roundw
       case measure => simp [intOf]; omega
       case rel => exact ⟨k + 1, _, _, by omega, by go_num, HF.out.1, HF.out.2.1, HF.out.2.2.1, HF.out.2.2.2, HRI.out.1.next K.out.1, low_next HRI.out.2 hwr⟩
   ·have hk00 : decide (0 < k) = false := by simp; omega
    clear hm hin hdi hgr hM hk0
    go_wp2_with (at_make; refine make_row _ rfl _ _ rfl _ _ c rfl rfl rfl rfl (by omega) ?_)
    intro w1 hrow hb1 hsz1
    have R1 : RS wr0 w1 d wr0.heap.size c M := ⟨_, hrow, fun j hj => by constructor <;> (simp; omega), K.out.2.2.1.below hb1 K.out.2.2.1.lt, grown_below (World.grownBy.refl _ _) hb1⟩
    have HR := Hid.mk R1
    clear hrow hb1 R1
    go_wp2_with fail
    go_loopw [10] (fun i ws => ∃ j : Nat, j ≤ c ∧ i = .int .i64 j ∧ RS wr0 ws d wr0.heap.size c M) (fun i _ => c - (intOf i).toNat)
    case atStart => exact ⟨0, Nat.zero_le _, rfl, HR.out⟩
    case round =>
     clear HR
     obtain ⟨j, hj, rfl, hrs⟩ := hrel
     have HR := Hid.mk hrs
     clear hrs
     by_cases hjc : j < c
     ·go_wp2_with fail
      refine (under_any d 19 _ HR.out.choose_spec.2.2.1 (by omega) (by omega)).mono ?_
      rintro x w2 ⟨⟨u, rfl, hu⟩, hd2, hg2⟩
      have R2 := HR.out.under hdw hd2 hg2
      obtain ⟨⟨z, c1⟩, f1⟩ := R2.cell j hjc
      have HR2 := Hid.mk R2
      clear R2 hd2 hg2 HR
      go_wp2_with fail
      go_roundw
      case measure => simp [intOf]; omega
      case rel => exact ⟨j + 1, by omega, by go_num, HR2.out.store hdw (Nat.le_refl _) j _ (by omega) (by omega)⟩
     ·go_wp2_with fail
      refine (under_any d 4 _ HR.out.choose_spec.2.2.1 (by omega) (by omega)).mono ?_
      rintro x w2 ⟨⟨u, rfl, hu⟩, hd2, hg2⟩
      have R2 := HR.out.under hdw hd2 hg2
      have HR2 := Hid.mk R2
      clear R2 hd2 hg2 HR
      by_cases hu0 : u = 0
      ·subst hu0
       obtain ⟨f, q1, q2, q3, q4⟩ := HR2.out
       have Q := Hid.mk (And.intro q1 (And.intro q2 (And.intro q3 q4)))
       clear q1 q2 q3 q4 HR2
       go_wp2_with (at_builtin; refine append_row _ rfl (.tmp 59) (.tmp 61) rfl w.heap.size _ k c gs e rfl ?_ ⟨_, 0, none⟩ rfl wr0.heap.size f ?_ ?_ (by omega) ?_ ?_)
       ·exact (K.out.1.keep (KB.of_grown Q.out.2.2.2 K.out.2.2.1.ty (by decide) (by decide))).keep (KB.of_below ((Below.refl _ _).alloc (Nat.le_refl _) _))
       ·simp [Addr.add]
       ·exact Q.out.1.below ((Below.refl _ _).alloc (Nat.le_refl _) _) Q.out.1.lt
       ·have := Q.out.2.2.2.size; simp; omega
       intro v' w5 hM5 _ hg5 hown
       have hg6 := grown_own (grown_below (grown_trans K.out.2.2.2 Q.out.2.2.2) ((Below.refl _ _).alloc (Nat.le_refl _) _)) hg5 hown
       have hd6 := (Q.out.2.2.1.below ((Below.refl _ _).alloc (Nat.le_refl _) _) Q.out.2.2.1.lt).own hg5 hown hdl
       have HF := Hid.mk (And.intro hM5 (And.intro (K.out.2.1.next Q.out.2.1 (Int.le_of_eq HM.out)) (And.intro hd6 hg6)))
       clear hM5 hg5 hown hg6 hd6
       go_wp2_with fail
       go_roundw
       case measure => simp [intOf]; omega
       case rel => exact ⟨k + 1, _, _, by omega, by go_num, HF.out.1, HF.out.2.1, HF.out.2.2.1, HF.out.2.2.2, HRI.out.1.next K.out.1, low_next HRI.out.2 hwr⟩
      ·have hub : ((u : Int) == 0) = false := beq_eq_false_iff_ne.2 (by omega)
       clear hu0
       obtain ⟨f, q1, q2, q3, q4⟩ := HR2.out
       have Q := Hid.mk (And.intro q1 (And.intro q2 (And.intro q3 q4)))
       clear q1 q2 q3 q4 HR2
       go_wp2_with (at_builtin; refine append_row _ rfl (.tmp 59) (.tmp 61) rfl w.heap.size _ k c gs e rfl ?_ ⟨_, 0, none⟩ rfl wr0.heap.size f ?_ ?_ (by omega) ?_ ?_)
       ·exact (K.out.1.keep (KB.of_grown Q.out.2.2.2 K.out.2.2.1.ty (by decide) (by decide))).keep (KB.of_below ((Below.refl _ _).alloc (Nat.le_refl _) _))
       ·simp [Addr.add]
       ·exact Q.out.1.below ((Below.refl _ _).alloc (Nat.le_refl _) _) Q.out.1.lt
       ·have := Q.out.2.2.2.size; simp; omega
       intro v' w5 hM5 _ hg5 hown
       have hg6 := grown_own (grown_below (grown_trans K.out.2.2.2 Q.out.2.2.2) ((Below.refl _ _).alloc (Nat.le_refl _) _)) hg5 hown
       have hd6 := (Q.out.2.2.1.below ((Below.refl _ _).alloc (Nat.le_refl _) _) Q.out.2.2.1.lt).own hg5 hown hdl
       have HF := Hid.mk (And.intro hM5 (And.intro (K.out.2.1.next Q.out.2.1 (Int.le_of_eq HM.out)) (And.intro hd6 hg6)))
       clear hM5 hg5 hown hg6 hd6
       go_wp2_with fail
       go_roundw
       case measure => simp [intOf]; omega
       case rel => exact ⟨k + 1, _, _, by omega, by go_num, HF.out.1, HF.out.2.1, HF.out.2.2.1, HF.out.2.2.2, HRI.out.1.next K.out.1, low_next HRI.out.2 hwr⟩
  ·have hke : k = r := by omega
   have HK := Hid.mk hke
   clear hm hin hdi hgr hke
   go_wp2_with fail
   go_ret
   have hke := HK.out
   subst hke
   exact ⟨_, gs, e, rfl, K.out.1, K.out.2.1, K.out.2.2.1, K.out.2.2.2, HRI.out.1, HRI.out.2⟩
open Go.RowKit
theorem Below.ofG {B p : Nat} {w w' : World} (h : w.grownBy w' (some p)) (hp : B ≤ p) (hB : B ≤ w.heap.size) : Below B w w' := ⟨h.os, h.tape, h.output, h.size, fun k hk => h.block k (by omega) (by intro e; injection e with e; omega)⟩
theorem mul_boxR {a b : Int} {A B : Nat} (h1 : -(A : Int) ≤ a) (h2 : a ≤ A) (h3 : -(B : Int) ≤ b) (h4 : b ≤ B) : -((A * B : Nat) : Int) ≤ a * b ∧ a * b ≤ ((A * B : Nat) : Int) := by
 have h5 : (a * b).natAbs ≤ A * B := by
  rw [Int.natAbs_mul]
  exact Nat.mul_le_mul (by omega) (by omega)
 omega
def TinyR (r c : Nat) (e : Nat → Nat → Int) : Prop := ∀ i j, i < r → j < c → -36 ≤ e i j ∧ e i j ≤ 36
theorem TinyR.small {r c : Nat} {e : Nat → Nat → Int} (h : TinyR r c e) : SmallR r c e := fun i j hi hj => by have := h i j hi hj; omega
theorem RowsIn.tinyR {r c : Nat} {e : Nat → Nat → Int} (h : RowsIn r c e) (hr : r ≤ 3) : TinyR r c e := by
 intro i j hi hj
 have h1 := h i hi j hj
 have h2 := pow_box i (by omega)
 omega
theorem dotR_next (ea eb : Nat → Nat → Int) (i j k : Nat) : dot ea eb i j (k + 1) = dot ea eb i j k + ea i k * eb k j := rfl
theorem dot_boxR {p q n : Nat} {ea eb : Nat → Nat → Int} (ha : TinyR p q ea) (hb : TinyR q n eb) {i j : Nat} (hi : i < p) (hj : j < n) : ∀ k, k ≤ q → -(1296 * (k : Int)) ≤ dot ea eb i j k ∧ dot ea eb i j k ≤ 1296 * (k : Int)
 | 0, _ => by simp [dot]
 | k + 1, hk => by
   have h1 := dot_boxR ha hb hi hj k (by omega)
   have h2 := mul_boxR (A := 36) (B := 36) (ha i k hi (by omega)).1 (ha i k hi (by omega)).2 (hb k j (by omega) hj).1 (hb k j (by omega) hj).2
   rw [dotR_next]
   omega
theorem dot_smallR {p q n : Nat} {ea eb : Nat → Nat → Int} (hq : q ≤ 3) (ha : TinyR p q ea) (hb : TinyR q n eb) : SmallR p n (fun i j => dot ea eb i j q) := fun i j hi hj => by
 have := dot_boxR ha hb hi hj q (Nat.le_refl _)
 constructor <;> (simp only []; omega)
def partF (n : Nat) (ea eb : Nat → Nat → Int) (i j k : Nat) : Nat → Int := fun t => if t < j then dot ea eb i t n else if t = j then dot ea eb i j k else 0
theorem partF_at (n : Nat) (ea eb : Nat → Nat → Int) (i j k : Nat) : partF n ea eb i j k j = dot ea eb i j k := by simp [partF]
theorem partF_next (n : Nat) (ea eb : Nat → Nat → Int) (i j k t : Nat) : upd (partF n ea eb i j k) j (dot ea eb i j k + ea i k * eb k j) t = partF n ea eb i j (k + 1) t := by
 unfold upd partF
 by_cases h : t = j
 ·subst h; simp [dotR_next]
 ·simp [h]
theorem partF_row (n : Nat) (ea eb : Nat → Nat → Int) (i j t : Nat) : partF n ea eb i j n t = partF n ea eb i (j + 1) 0 t := by
 unfold partF
 by_cases h : t < j
 ·simp [h, show t < j + 1 from by omega]
 ·by_cases h2 : t = j
  ·subst h2; simp
  ·simp [h, h2, show ¬ t < j + 1 from by omega, dot]
theorem Mat.same {B : Nat} {w : World} {v : Value} {n c : Nat} {gs : Nat → Nat} {e e' : Nat → Nat → Int} (h : Mat B w v n c gs e) (he : ∀ i j, i < n → j < c → e i j = e' i j) : Mat B w v n c gs e' :=
 ⟨h.1, fun i hi => (h.2 i hi).congr (fun j hj => he i j hi hj)⟩
def MadeR (wr0 ws : World) (c : Nat) (f : Nat → Int) : Prop := IRow ws wr0.heap.size c f ∧ Below wr0.heap.size wr0 ws
set_option maxRecDepth 100000 in
set_option maxHeartbeats 4000000 in
theorem times_rise0 (BA BB p q n ga capa gb capb : Nat) (gsa gsb : Nat → Nat) (ea eb : Nat → Nat → Int) (w : World) (hp : p ≤ 3) (hq : q ≤ 3) (hn : n ≤ 3) (hna : p ≤ capa) (_hnb : q ≤ capb)
 (ha : Mat BA w (.slice (some ⟨ga, 0, none⟩) p capa) p q gsa ea) (hb : Mat BB w (.slice (some ⟨gb, 0, none⟩) q capb) q n gsb eb) (hta : TinyR p q ea) (htb : TinyR q n eb) :
 Calls Tryd.prog 11 #[.slice (some ⟨ga, 0, none⟩) p capa, .slice (some ⟨gb, 0, none⟩) q capb, .int .i64 n] w fun x w' => ∃ v gs, x = .returned v ∧ Mat w.heap.size w' v p n gs (fun i j => dot ea eb i j q) ∧ Below w.heap.size w w' ∧ Rise p gs ∧ ∀ i, i < p → w.heap.size ≤ gs i := by
 have H := Hid.mk (And.intro ha (And.intro hb (And.intro hta htb)))
 clear ha hb hta htb
 go_enter Tryd.func11, Tryd.ntmps11
 go_wp2_with fail
 go_loopw [7, 8] (fun v i wr => ∃ (r : Nat) (gs : Nat → Nat), r ≤ p ∧ i = .int .i64 r ∧ Mat w.heap.size wr v r n gs (fun i j => dot ea eb i j q) ∧ Below w.heap.size w wr ∧ Hid (Rise r gs ∧ ∀ i, i < r → w.heap.size ≤ gs i)) (fun _ i _ => p - (intOf i).toNat)
 case atStart => exact ⟨0, fun _ => 0, Nat.zero_le _, rfl, Mat.nil _ _ _ _ _, Below.refl _ _, Hid.mk ⟨fun i j hi hj => by omega, fun i hi => by omega⟩⟩
 case round =>
  rename World => wr0
  obtain ⟨r, gs, hr, rfl, hm, hbel, HRI⟩ := hrel
  have hwr := hbel.size
  have K := Hid.mk (And.intro hm hbel)
  clear hm hbel
  by_cases hrn : r < p
  ·go_wp2_with (at_make; refine make_row _ rfl _ _ rfl _ _ n rfl rfl rfl rfl (by omega) ?_)
   intro w1 hrow hb1 hsz1
   have R1 : MadeR wr0 w1 n (partF q ea eb r 0 0) := ⟨hrow.congr (fun t _ => by unfold partF; simp [dot]), hb1⟩
   have HR := Hid.mk R1
   clear hrow hb1 R1
   go_wp2_with fail
   go_loopw [10] (fun i ws => ∃ j : Nat, j ≤ n ∧ i = .int .i64 j ∧ MadeR wr0 ws n (partF q ea eb r j 0)) (fun i _ => n - (intOf i).toNat)
   case atStart => exact ⟨0, Nat.zero_le _, rfl, HR.out⟩
   case round =>
    clear HR
    obtain ⟨j, hj, rfl, hrs⟩ := hrel
    have HR := Hid.mk hrs
    clear hrs
    by_cases hjn : j < n
    ·go_wp2_with fail
     go_loopw [11] (fun i ws => ∃ k : Nat, k ≤ q ∧ i = .int .i64 k ∧ MadeR wr0 ws n (partF q ea eb r j k)) (fun i _ => q - (intOf i).toNat)
     case atStart => exact ⟨0, Nat.zero_le _, rfl, HR.out⟩
     case round =>
      clear HR
      obtain ⟨k, hk, rfl, hrs⟩ := hrel
      have HR := Hid.mk hrs
      clear hrs
      by_cases hkn : k < q
      ·have hB2 := K.out.2.trans (HR.out.2.mono hwr)
       have hA := H.out.1.keep (KB.of_below hB2)
       have hB := H.out.2.1.keep (KB.of_below hB2)
       have a0 := hA.cell r hrn
       have a1 := (hA.2 r hrn).cell k hkn
       have b0 := hB.cell k hkn
       have b1 := (hB.2 k hkn).cell j hjn
       have c1 := HR.out.1.cell j hjn
       have f1 := HR.out.1.frozen j
       have x1 := mul_boxR (A := 36) (B := 36) (H.out.2.2.1 r k hrn hkn).1 (H.out.2.2.1 r k hrn hkn).2 (H.out.2.2.2 k j hkn hjn).1 (H.out.2.2.2 k j hkn hjn).2
       have x2 := dot_boxR H.out.2.2.1 H.out.2.2.2 hrn hjn k (by omega)
       rw [partF_at] at c1
       have hnx : IRow (wr.setCell ⟨wr0.heap.size, j, none⟩ (.int .i64 (dot ea eb r j k + ea r k * eb k j))) wr0.heap.size n (partF q ea eb r j (k + 1)) := (HR.out.1.stored j _).congr (fun t _ => partF_next q ea eb r j k t)
       have HN := Hid.mk hnx
       generalize gsa r = G1 at a0 a1
       generalize gsb k = G2 at b0 b1
       generalize ea r k = z1 at a1 x1 HN
       generalize eb k j = z2 at b1 x1 HN
       generalize dot ea eb r j k = z3 at c1 x2 HN
       obtain ⟨x11, x12⟩ := x1
       obtain ⟨x21, x22⟩ := x2
       have hk3 : (k : Int) ≤ 3 := by omega
       clear hA hB hB2 hnx
       go_wp2_with fail
       go_region
       all_goals go_wp2_with fail
       go_roundw
       case measure => simp [intOf]; omega
       case rel => exact ⟨k + 1, by omega, by go_num, HN.out, (HR.out.2.setCell (Nat.le_refl _) _).drew⟩
      ·have hke : k = q := by omega
       have HK := Hid.mk hke
       clear hke
       go_wp2_with fail
       go_roundw
       case measure => simp [intOf]; omega
       case rel => exact ⟨j + 1, by omega, by go_num, (by rw [HK.out] at HR; exact HR.out.1.congr (fun t _ => partF_row q ea eb r j t)), HR.out.2⟩
    ·have hje : j = n := by omega
     have HJ := Hid.mk hje
     clear hje
     go_wp2_with (at_builtin; refine append_row _ rfl _ _ rfl w.heap.size _ r n gs (fun i j => dot ea eb i j q) rfl ?_ ⟨_, 0, none⟩ rfl wr0.heap.size (fun t => dot ea eb r t q) ?_ ?_ (by omega) ?_ ?_)
     ·exact (K.out.1.keep (KB.of_below HR.out.2)).keep (KB.of_below ((Below.refl _ _).alloc (Nat.le_refl _) _))
     ·simp [Addr.add]
     ·refine IRow.below (IRow.congr HR.out.1 (fun t ht => ?_)) ((Below.refl _ _).alloc (Nat.le_refl _) _) HR.out.1.lt
      unfold partF
      rw [if_pos (by have := HJ.out; omega)]
     ·have := HR.out.2.size; simp; omega
     intro v' w5 hM5 _ hg5 hown
     have hb5 : Below w.heap.size w w5 := by
      have h1 := (K.out.2.trans (HR.out.2.mono hwr)).trans (((Below.refl _ _).alloc (Nat.le_refl _) (.cells #[.slice (some ⟨wr0.heap.size, 0, none⟩) n n] 37)).mono (by have := HR.out.2.size; omega))
      exact h1.grown hg5 (by have := HR.out.2.size; simp; omega) hown
     have HF := Hid.mk (And.intro hM5 hb5)
     clear hM5 hg5 hown hb5
     go_wp2_with fail
     go_roundw
     case measure => simp [intOf]; omega
     case rel => exact ⟨r + 1, _, by omega, by go_num, HF.out.1.same (fun i j _ _ => by split <;> simp_all), HF.out.2, Hid.mk ⟨HRI.out.1.next K.out.1, fun i hi => by
      by_cases e0 : i = r
      ·simp only [e0, if_true]; exact hwr
      ·simp only [e0, if_false]; exact HRI.out.2 i (by omega)⟩⟩
  ·have hke : r = p := by omega
   have HK := Hid.mk hke
   clear hke
   go_wp2_with fail
   go_ret
   have hke := HK.out
   subst hke
   exact ⟨_, gs, rfl, K.out.1, K.out.2, HRI.out⟩
theorem times_rise (BA BB p q n : Nat) (a b : Value) (gsa gsb : Nat → Nat) (ea eb : Nat → Nat → Int) (w : World) (hp0 : 0 < p) (hq0 : 0 < q) (hp : p ≤ 3) (hq : q ≤ 3) (hn : n ≤ 3)
 (ha : Mat BA w a p q gsa ea) (hb : Mat BB w b q n gsb eb) (hta : TinyR p q ea) (htb : TinyR q n eb) :
 Calls Tryd.prog 11 #[a, b, .int .i64 n] w fun x w' => ∃ v gs, x = .returned v ∧ Mat w.heap.size w' v p n gs (fun i j => dot ea eb i j q) ∧ Below w.heap.size w w' ∧ Rise p gs ∧ ∀ i, i < p → w.heap.size ≤ gs i := by
 rcases ha.shape with ⟨_, h0⟩ | ⟨ga, capa, rfl, h1, -⟩
 ·omega
 rcases hb.shape with ⟨_, h0⟩ | ⟨gb, capb, rfl, h3, -⟩
 ·omega
 exact times_rise0 BA BB p q n ga capa gb capb gsa gsb ea eb w hp hq hn h1 h3 ha hb hta htb
def upE (e : Nat → Nat → Int) (i j : Nat) (z : Int) : Nat → Nat → Int := fun a => if a = i then upd (e i) j z else e a
theorem own_ty {w : World} {B : Nat} {t t' : TypeId} {v : Value} {n p : Nat} {xs : List Value} (h : w.ownsRow B t 1 v n xs) (hp : Ty w p t') (ht : t ≠ t') : v.ownBlock = none ∨ v.ownBlock ≠ some p := by
 rcases h.2 with ⟨rfl, -⟩ | ⟨g, cap, cur, rfl, -, hh, -⟩
 ·exact .inl rfl
 ·right
  intro e
  simp only [Value.ownBlock, Option.some.injEq] at e
  subst e
  obtain ⟨c, fr, h2⟩ := hp
  rw [hh] at h2
  simp only [Option.some.injEq, Obj.cells.injEq] at h2
  exact ht h2.2.1
theorem grown_set (w : World) (p j : Nat) (u : Value) : w.grownBy (w.setCell ⟨p, j, none⟩ u) (some p) := ⟨rfl, rfl, rfl, by simp [World.setCell], fun k _ hne => Below.heap_setCell _ _ _ _ (fun e => hne (by simp [e]))⟩
theorem Mat.put {B : Nat} {w : World} {v : Value} {n c : Nat} {gs : Nat → Nat} {e : Nat → Nat → Int} (h : Mat B w v n c gs e) (hr : Rise n gs) {i : Nat} (hi : i < n) (j : Nat) (z : Int) : Mat B (w.setCell ⟨gs i, j, none⟩ (.int .i64 z)) v n c gs (upE e i j z) := by
 refine ⟨World.ownsRow.kept h.1 (grown_set _ _ _ _) (own_ty h.1 (h.2 i hi).ty (by decide)), fun a ha => ?_⟩
 unfold upE
 by_cases e0 : a = i
 ·subst e0; rw [if_pos rfl]; exact (h.2 a ha).stored j z
 ·rw [if_neg e0]; exact (h.2 a ha).other (hr.ne hi ha (Ne.symm e0)) _
theorem Mat.aside {B : Nat} {w : World} {v : Value} {n c p j : Nat} {gs : Nat → Nat} {e : Nat → Nat → Int} (h : Mat B w v n c gs e) (hp : Ty w p 3) (hne : ∀ i, i < n → p ≠ gs i) (u : Value) : Mat B (w.setCell ⟨p, j, none⟩ u) v n c gs e :=
 ⟨World.ownsRow.kept h.1 (grown_set _ _ _ _) (own_ty h.1 hp (by decide)), fun a ha => (h.2 a ha).other (hne a ha) _⟩
end Go.Proofs.YtfjbijpagaipnabDoor
