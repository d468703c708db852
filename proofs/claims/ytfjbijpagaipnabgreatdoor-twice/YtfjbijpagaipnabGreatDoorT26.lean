import Derived.Test.YtfjbijpagaipnabGreatDoorT19
import Derived.Test.YtfjbijpagaipnabGreatDoorT20
import Derived.Test.YtfjbijpagaipnabGreatDoorT09
import Derived.BigRegion
import Derived.Test.YtfjbijpagaipnabGreatDoorT25
import Derived.StillTailTactics
import Derived.Deep.CutRange
namespace Go.Proofs.YtfjbijpagaipnabGreatDoor
open Go.RowKit
def RowIn (c : Nat) (f : Nat → Int) (m : Int) : Prop := ∀ j, j < c → -m ≤ f j ∧ f j ≤ m
theorem RowIn.upd {c : Nat} {f : Nat → Int} {m : Int} (h : RowIn c f m) (j : Nat) (z : Int) (h1 : -m ≤ z) (h2 : z ≤ m) : RowIn c (upd f j z) m := by
 intro k hk
 unfold Proofs.YtfjbijpagaipnabGreatDoor.upd
 split
 ·exact ⟨h1, h2⟩
 ·exact h k hk
def RowsIn (n c : Nat) (e : Nat → Nat → Int) : Prop := ∀ i, i < n → RowIn c (e i) (9 * 2 ^ i)
theorem IRow.grown {w w' : World} {g c p : Nat} {f : Nat → Int} (h : IRow w g c f) (hg : w.grownBy w' (some p)) (hp : p ≠ g) : IRow w' g c f := by
 unfold IRow
 rw [hg.block g h.lt (fun e => hp (by injection e with e; exact e.symm))]; exact h
theorem IRow.below {B : Nat} {w w' : World} {g c : Nat} {f : Nat → Int} (h : IRow w g c f) (hb : Below B w w') (hB : g < B) : IRow w' g c f := by
 unfold IRow
 rw [hb.block g hB]; exact h
def RS (wr ws : World) (d G c : Nat) (M : Int) : Prop := ∃ f, IRow ws G c f ∧ RowIn c f M ∧ Di ws d ∧ wr.grownBy ws (some d)
theorem RS.under {wr ws ws' : World} {d G c : Nat} {M : Int} (h : RS wr ws d G c M) (hd : d ≠ G) (hdi : Di ws' d) (hg : ws.grownBy ws' (some d)) : RS wr ws' d G c M := by
 obtain ⟨f, h1, h2, h3, h4⟩ := h
 exact ⟨f, h1.grown hg hd, h2, hdi, grown_trans h4 hg⟩
theorem grown_store {W w : World} {row : Option Nat} {p i : Nat} {x : Value} (h : W.grownBy w row) (hp : W.heap.size ≤ p) : W.grownBy (w.setCell ⟨p, i, none⟩ x) row := by
 refine ⟨h.os, h.tape, h.output, by have := h.size; simp [World.setCell]; omega, fun k hk hne => ?_⟩
 rw [Below.heap_setCell _ _ _ _ (by simp; omega)]
 exact h.block k hk hne
theorem Di.store {w : World} {d g j : Nat} (h : Di w d) (hd : d ≠ g) (u : Value) : Di (w.setCell ⟨g, j, none⟩ u) d := by
 obtain ⟨x, h1, h2⟩ := h
 exact ⟨x, h1, by rw [Below.heap_setCell _ _ _ _ (by simpa using hd)]; exact h2⟩
theorem RS.store {wr ws : World} {d G c : Nat} {M : Int} (h : RS wr ws d G c M) (hd : d ≠ G) (hG : wr.heap.size ≤ G) (j : Nat) (z : Int) (h1 : -M ≤ z) (h2 : z ≤ M) : RS wr (ws.setCell ⟨G, j, none⟩ (.int .i64 z)) d G c M := by
 obtain ⟨f, e1, e2, e3, e4⟩ := h
 exact ⟨_, e1.stored j z, e2.upd j z h1 h2, e3.store hd _, grown_store e4 hG⟩
theorem RS.cell {wr ws : World} {d G c : Nat} {M : Int} (h : RS wr ws d G c M) (j : Nat) (hj : j < c) : (∃ z, ws.cell? ⟨G, j, none⟩ = some (.int .i64 z)) ∧ ws.frozen? ⟨G, j, none⟩ = false := by
 obtain ⟨f, e1, -⟩ := h
 exact ⟨⟨_, e1.cell j hj⟩, e1.frozen j⟩
theorem grown_own {w ws w5 : World} {d : Nat} {row : Option Nat} (h : w.grownBy ws (some d)) (hg : ws.grownBy w5 row) (hr : ∀ k, row = some k → w.heap.size ≤ k) : w.grownBy w5 (some d) := by
 have hsz := h.size
 exact ⟨hg.os.trans h.os, hg.tape.trans h.tape, hg.output.trans h.output, Nat.le_trans hsz hg.size, fun k hk hne => (hg.block k (by omega) (fun e => by have := hr k e.symm; omega)).trans (h.block k hk hne)⟩
theorem Di.own {w w' : World} {d B : Nat} {row : Option Nat} (h : Di w d) (hg : w.grownBy w' row) (hr : ∀ k, row = some k → B ≤ k) (hd : d < B) : Di w' d := by
 have hl := h.lt
 obtain ⟨x, h1, h2⟩ := h
 exact ⟨x, h1, by rw [hg.block d hl (fun e => by have := hr d e.symm; omega)]; exact h2⟩
theorem RowsIn.next {k c : Nat} {e : Nat → Nat → Int} {f : Nat → Int} {M : Int} (h : RowsIn k c e) (hf : RowIn c f M) (hM : M ≤ 9 * 2 ^ k) : RowsIn (k + 1) c (fun i => if i = k then f else e i) := by
 intro i hi
 by_cases hik : i = k
 ·subst hik
  simp only [if_true]
  intro j hj
  have := hf j hj
  omega
 ·simp only [hik, if_false]; exact h i (by omega)
theorem pow_box (k : Nat) (hk : k < 3) : (9 : Int) * 2 ^ k ≤ 36 ∧ (9 : Int) ≤ 9 * 2 ^ k := by
 obtain rfl | rfl | rfl : k = 0 ∨ k = 1 ∨ k = 2 := by omega
 all_goals decide
theorem pow_next (k : Nat) : (9 : Int) * 2 ^ (k + 1) = 2 * (9 * 2 ^ k) := by rw [Int.pow_succ]; omega
def Rise (n : Nat) (gs : Nat → Nat) : Prop := ∀ i j, i < j → j < n → gs i < gs j
theorem low_next {B X n : Nat} {gs : Nat → Nat} (h : ∀ i, i < n → B ≤ gs i) (hX : B ≤ X) : ∀ i, i < n + 1 → B ≤ (if i = n then X else gs i) := by
 intro i hi
 by_cases e0 : i = n
 ·simp only [e0, if_true]; exact hX
 ·simp only [e0, if_false]; exact h i (by omega)
theorem Rise.next {B : Nat} {w : World} {v : Value} {n c : Nat} {gs : Nat → Nat} {e : Nat → Nat → Int} (h : Rise n gs) (hm : Mat B w v n c gs e) : Rise (n + 1) (fun i => if i = n then w.heap.size else gs i) := by
 intro i j hij hj
 have hi : i ≠ n := by omega
 simp only [hi, if_false]
 by_cases e0 : j = n
 ·simp only [e0, if_true]
  exact (hm.2 i (by omega)).lt
 ·simp only [e0, if_false]
  exact h i j hij (by omega)
set_option maxRecDepth 100000 in
set_option maxHeartbeats 4000000 in
theorem drawn_rise (d r c : Nat) (w : World) (h : Di w d) (hr : r ≤ 3) (hc : c ≤ 3) :
 Calls Tryz.prog 25 #[.pointer (some ⟨d, 0, none⟩), .int .i64 r, .int .i64 c] w fun x w' => ∃ v gs e, x = .returned v ∧ Mat w.heap.size w' v r c gs e ∧ RowsIn r c e ∧ Di w' d ∧ w.grownBy w' (some d) ∧ Rise r gs ∧ ∀ i, i < r → w.heap.size ≤ gs i := by
 have hdl := h.lt
 have H := Hid.mk h
 clear h
 go_enter Tryz.func25, Tryz.ntmps25
 go_wp2_with fail
 go_loopw [7, 8] (fun v i wr => ∃ (k : Nat) (gs : Nat → Nat) (e : Nat → Nat → Int), k ≤ r ∧ i = .int .i64 k ∧ Mat w.heap.size wr v k c gs e ∧ RowsIn k c e ∧ Di wr d ∧ w.grownBy wr (some d) ∧ (Rise k gs ∧ ∀ i, i < k → w.heap.size ≤ gs i)) (fun _ i _ => r - (intOf i).toNat)
 case atStart => exact ⟨0, fun _ => 0, fun _ _ => 0, Nat.zero_le _, rfl, Mat.nil _ _ _ _ _, fun i hi => by omega, H.out, World.grownBy.refl _ _, fun i j hi hj => by omega, fun i hi => by omega⟩
 case round =>
  rename World => wr0
  obtain ⟨k, gs, e, hk, rfl, hm, hin, hdi, hgr, hri⟩ := hrel
  have HRI := Hid.mk hri
  clear hri
  have hwr := hgr.size
  have K := Hid.mk (And.intro hm (And.intro hin (And.intro hdi hgr)))
  by_cases hkr : k < r
  ·obtain ⟨M, hM⟩ : ∃ M : Int, M = 9 * 2 ^ k := ⟨_, rfl⟩
   have hMb := pow_box k (by omega)
   rw [← hM] at hMb
   obtain ⟨hM1, hM2⟩ := hMb
   have HM := Hid.mk hM
   have hdw : d ≠ wr0.heap.size := by omega
   by_cases hk0 : 0 < k
   ·rcases hm.shape with ⟨rfl, h0⟩ | ⟨g, cap, rfl, hcap1, hcap2, -, hgl, -, -⟩
    ·omega
    clear hm hin hdi hgr hM
    go_wp2_with (at_make; refine make_row _ rfl _ _ rfl _ _ c rfl rfl rfl rfl (by omega) ?_)
    intro w1 hrow hb1 hsz1
    have R1 : RS wr0 w1 d wr0.heap.size c M := ⟨_, hrow, fun j hj => by constructor <;> (simp; omega), K.out.2.2.1.below hb1 K.out.2.2.1.lt, grown_below (World.grownBy.refl _ _) hb1⟩
    have HR := Hid.mk R1
    clear hrow hb1 R1
    go_wp2_with fail
    go_loopw [10] (fun i ws => ∃ j : Nat, j ≤ c ∧ i = .int .i64 j ∧ RS wr0 ws d wr0.heap.size c M) (fun i _ => c - (intOf i).toNat)
    case atStart => exact ⟨0, Nat.zero_le _, rfl, HR.out⟩
    case round =>
     clear HR
     obtain ⟨j, hj, rfl, hrs⟩ := hrel
     have HR := Hid.mk hrs
     clear hrs
     by_cases hjc : j < c
     ·go_wp2_with fail
      refine (under_any d 19 _ HR.out.choose_spec.2.2.1 (by omega) (by omega)).mono ?_
      rintro x w2 ⟨⟨u, rfl, hu⟩, hd2, hg2⟩
      have R2 := HR.out.under hdw hd2 hg2
      obtain ⟨⟨z, c1⟩, f1⟩ := R2.cell j hjc
      have HR2 := Hid.mk R2
      clear R2 hd2 hg2 HR
      go_wp2_with fail
      go_roundw
      case measure => simp [intOf]; omega
      case rel => exact ⟨j + 1, by omega, by go_num, HR2.out.store hdw (Nat.le_refl _) j _ (by omega) (by omega)⟩
     ·go_wp2_with fail
      refine (under_any d 4 _ HR.out.choose_spec.2.2.1 (by omega) (by omega)).mono ?_
      rintro x w2 ⟨⟨u, rfl, hu⟩, hd2, hg2⟩
      have R2 := HR.out.under hdw hd2 hg2
      have HR2 := Hid.mk R2
      clear R2 hd2 hg2 HR
      by_cases hu0 : u = 0
      ·subst hu0
       go_wp2_with fail
       go_loopw [13] (fun i ws => ∃ j : Nat, j ≤ c ∧ i = .int .i64 j ∧ RS wr0 ws d wr0.heap.size c M) (fun i _ => c - (intOf i).toNat)
       case atStart => exact ⟨0, Nat.zero_le _, rfl, HR2.out⟩
       case round =>
        clear HR2
        obtain ⟨j2, hj2, rfl, hrs⟩ := hrel
        have HR2 := Hid.mk hrs
        clear hrs
        by_cases hjc2 : j2 < c
        ·obtain ⟨⟨z, c1⟩, f1⟩ := HR2.out.cell j2 hjc2
         have hM2' := K.out.1.keep (KB.of_grown HR2.out.choose_spec.2.2.2 K.out.2.2.1.ty (by decide) (by decide))
         have c2 := hM2'.cell (k - 1) (by omega)
         have c3 := (hM2'.2 (k - 1) (by omega)).cell j2 hjc2
         have bz := K.out.2.1 (k - 1) (by omega) j2 hjc2
         have hpn := pow_next (k - 1)
         rw [show k - 1 + 1 = k from by omega, ← HM.out] at hpn
         generalize gs (k - 1) = G1 at c2 c3
         generalize e (k - 1) j2 = zz at c3 bz
         have b1 : -M ≤ 2 * zz := by omega
         have b2 : 2 * zz ≤ M := by omega
         clear hM2' hpn bz
         go_wp2_with fail
         go_roundw
         case measure => simp [intOf]; omega
         case rel => exact ⟨j2 + 1, by omega, by go_num, HR2.out.store hdw (Nat.le_refl _) j2 _ b1 b2⟩
        ·skip
         obtain ⟨f, q1, q2, q3, q4⟩ := HR2.out
         have Q := Hid.mk (And.intro q1 (And.intro q2 (And.intro q3 q4)))
         clear q1 q2 q3 q4 HR2
         go_wp2_with (at_builtin; refine append_row _ rfl (.tmp 59) (.tmp 61) rfl w.heap.size _ k c gs e rfl ?_ ⟨_, 0, none⟩ rfl wr0.heap.size f ?_ ?_ (by omega) ?_ ?_)
         ·exact (K.out.1.keep (KB.of_grown Q.out.2.2.2 K.out.2.2.1.ty (by decide) (by decide))).keep (KB.of_below ((Below.refl _ _).alloc (Nat.le_refl _) _))
         ·simp [Addr.add]
         ·exact Q.out.1.below ((Below.refl _ _).alloc (Nat.le_refl _) _) Q.out.1.lt
         ·have := Q.out.2.2.2.size; simp; omega
         intro v' w5 hM5 _ hg5 hown
         have hg6 := grown_own (grown_below (grown_trans K.out.2.2.2 Q.out.2.2.2) ((Below.refl _ _).alloc (Nat.le_refl _) _)) hg5 hown
         have hd6 := (Q.out.2.2.1.below ((Below.refl _ _).alloc (Nat.le_refl _) _) Q.out.2.2.1.lt).own hg5 hown hdl
         have HF := Hid.mk (And.intro hM5 (And.intro (K.out.2.1.next Q.out.2.1 (Int.le_of_eq HM.out)) (And.intro hd6 hg6)))
         clear hM5 hg5 hown hg6 hd6
         go_wp2_with fail
         go_roundw
         case measure => simp [intOf]; omega
         case rel => exact ⟨k + 1, _, _, by omega, by go_num, HF.out.1, HF.out.2.1, HF.out.2.2.1, HF.out.2.2.2, HRI.out.1.next K.out.1, low_next HRI.out.2 hwr⟩
      ·have hub : ((u : Int) == 0) = false := beq_eq_false_iff_ne.2 (by omega)
       clear hu0
       obtain ⟨f, q1, q2, q3, q4⟩ := HR2.out
       have Q := Hid.mk (And.intro q1 (And.intro q2 (And.intro q3 q4)))
       clear q1 q2 q3 q4 HR2
       go_wp2_with (at_builtin; refine append_row _ rfl (.tmp 59) (.tmp 61) rfl w.heap.size _ k c gs e rfl ?_ ⟨_, 0, none⟩ rfl wr0.heap.size f ?_ ?_ (by omega) ?_ ?_)
       ·exact (K.out.1.keep (KB.of_grown Q.out.2.2.2 K.out.2.2.1.ty (by decide) (by decide))).keep (KB.of_below ((Below.refl _ _).alloc (Nat.le_refl _) _))
       ·simp [Addr.add]
       ·exact Q.out.1.below ((Below.refl _ _).alloc (Nat.le_refl _) _) Q.out.1.lt
       ·have := Q.out.2.2.2.size; simp; omega
       intro v' w5 hM5 _ hg5 hown
       have hg6 := grown_own (grown_below (grown_trans K.out.2.2.2 Q.out.2.2.2) ((Below.refl _ _).alloc (Nat.le_refl _) _)) hg5 hown
       have hd6 := (Q.out.2.2.1.below ((Below.refl _ _).alloc (Nat.le_refl _) _) Q.out.2.2.1.lt).own hg5 hown hdl
       have HF := Hid.mk (And.intro hM5 (And.intro (K.out.2.1.next Q.out.2.1 (Int.le_of_eq HM.out)) (And.intro hd6 hg6)))
       clear hM5 hg5 hown hg6 hd6
       go_wp2_with fail
       go_roundw
       case measure => simp [intOf]; omega
       case rel => exact ⟨k + 1, _, _, by omega, by go_num, HF.out.1, HF.out.2.1, HF.out.2.2.1, HF.out.2.2.2, HRI.out.1.next K.out.1, low_next HRI.out.2 hwr⟩
   ·have hk00 : decide (0 < k) = false := by simp; omega
    clear hm hin hdi hgr hM hk0
    go_wp2_with (at_make; refine make_row _ rfl _ _ rfl _ _ c rfl rfl rfl rfl (by omega) ?_)
    intro w1 hrow hb1 hsz1
    have R1 : RS wr0 w1 d wr0.heap.size c M := ⟨_, hrow, fun j hj => by constructor <;> (simp; omega), K.out.2.2.1.below hb1 K.out.2.2.1.lt, grown_below (World.grownBy.refl _ _) hb1⟩
    have HR := Hid.mk R1
    clear hrow hb1 R1
    go_wp2_with fail
    go_loopw [10] (fun i ws => ∃ j : Nat, j ≤ c ∧ i = .int .i64 j ∧ RS wr0 ws d wr0.heap.size c M) (fun i _ => c - (intOf i).toNat)
    case atStart => exact ⟨0, Nat.zero_le _, rfl, HR.out⟩
    case round =>
     clear HR
     obtain ⟨j, hj, rfl, hrs⟩ := hrel
     have HR := Hid.mk hrs
     clear hrs
     by_cases hjc : j < c
     ·go_wp2_with fail
      refine (under_any d 19 _ HR.out.choose_spec.2.2.1 (by omega) (by omega)).mono ?_
      rintro x w2 ⟨⟨u, rfl, hu⟩, hd2, hg2⟩
      have R2 := HR.out.under hdw hd2 hg2
      obtain ⟨⟨z, c1⟩, f1⟩ := R2.cell j hjc
      have HR2 := Hid.mk R2
      clear R2 hd2 hg2 HR
      go_wp2_with fail
      go_roundw
      case measure => simp [intOf]; omega
      case rel => exact ⟨j + 1, by omega, by go_num, HR2.out.store hdw (Nat.le_refl _) j _ (by omega) (by omega)⟩
     ·go_wp2_with fail
      refine (under_any d 4 _ HR.out.choose_spec.2.2.1 (by omega) (by omega)).mono ?_
      rintro x w2 ⟨⟨u, rfl, hu⟩, hd2, hg2⟩
      have R2 := HR.out.under hdw hd2 hg2
      have HR2 := Hid.mk R2
      clear R2 hd2 hg2 HR
      by_cases hu0 : u = 0
      ·subst hu0
       obtain ⟨f, q1, q2, q3, q4⟩ := HR2.out
       have Q := Hid.mk (And.intro q1 (And.intro q2 (And.intro q3 q4)))
       clear q1 q2 q3 q4 HR2
       go_wp2_with (at_builtin; refine append_row _ rfl (.tmp 59) (.tmp 61) rfl w.heap.size _ k c gs e rfl ?_ ⟨_, 0, none⟩ rfl wr0.heap.size f ?_ ?_ (by omega) ?_ ?_)
       ·exact (K.out.1.keep (KB.of_grown Q.out.2.2.2 K.out.2.2.1.ty (by decide) (by decide))).keep (KB.of_below ((Below.refl _ _).alloc (Nat.le_refl _) _))
       ·simp [Addr.add]
       ·exact Q.out.1.below ((Below.refl _ _).alloc (Nat.le_refl _) _) Q.out.1.lt
       ·have := Q.out.2.2.2.size; simp; omega
       intro v' w5 hM5 _ hg5 hown
       have hg6 := grown_own (grown_below (grown_trans K.out.2.2.2 Q.out.2.2.2) ((Below.refl _ _).alloc (Nat.le_refl _) _)) hg5 hown
       have hd6 := (Q.out.2.2.1.below ((Below.refl _ _).alloc (Nat.le_refl _) _) Q.out.2.2.1.lt).own hg5 hown hdl
       have HF := Hid.mk (And.intro hM5 (And.intro (K.out.2.1.next Q.out.2.1 (Int.le_of_eq HM.out)) (And.intro hd6 hg6)))
       clear hM5 hg5 hown hg6 hd6
       go_wp2_with fail
       go_roundw
       case measure => simp [intOf]; omega
       case rel => exact ⟨k + 1, _, _, by omega, by go_num, HF.out.1, HF.out.2.1, HF.out.2.2.1, HF.out.2.2.2, HRI.out.1.next K.out.1, low_next HRI.out.2 hwr⟩
      ·have hub : ((u : Int) == 0) = false := beq_eq_false_iff_ne.2 (by omega)
       clear hu0
       obtain ⟨f, q1, q2, q3, q4⟩ := HR2.out
       have Q := Hid.mk (And.intro q1 (And.intro q2 (And.intro q3 q4)))
       clear q1 q2 q3 q4 HR2
       go_wp2_with (at_builtin; refine append_row _ rfl (.tmp 59) (.tmp 61) rfl w.heap.size _ k c gs e rfl ?_ ⟨_, 0, none⟩ rfl wr0.heap.size f ?_ ?_ (by omega) ?_ ?_)
       ·exact (K.out.1.keep (KB.of_grown Q.out.2.2.2 K.out.2.2.1.ty (by decide) (by decide))).keep (KB.of_below ((Below.refl _ _).alloc (Nat.le_refl _) _))
       ·simp [Addr.add]
       ·exact Q.out.1.below ((Below.refl _ _).alloc (Nat.le_refl _) _) Q.out.1.lt
       ·have := Q.out.2.2.2.size; simp; omega
       intro v' w5 hM5 _ hg5 hown
       have hg6 := grown_own (grown_below (grown_trans K.out.2.2.2 Q.out.2.2.2) ((Below.refl _ _).alloc (Nat.le_refl _) _)) hg5 hown
       have hd6 := (Q.out.2.2.1.below ((Below.refl _ _).alloc (Nat.le_refl _) _) Q.out.2.2.1.lt).own hg5 hown hdl
       have HF := Hid.mk (And.intro hM5 (And.intro (K.out.2.1.next Q.out.2.1 (Int.le_of_eq HM.out)) (And.intro hd6 hg6)))
       clear hM5 hg5 hown hg6 hd6
       go_wp2_with fail
       go_roundw
       case measure => simp [intOf]; omega
       case rel => exact ⟨k + 1, _, _, by omega, by go_num, HF.out.1, HF.out.2.1, HF.out.2.2.1, HF.out.2.2.2, HRI.out.1.next K.out.1, low_next HRI.out.2 hwr⟩
  ·have hke : k = r := by omega
   have HK := Hid.mk hke
   clear hm hin hdi hgr hke
   go_wp2_with fail
   go_ret
   have hke := HK.out
   subst hke
   exact ⟨_, gs, e, rfl, K.out.1, K.out.2.1, K.out.2.2.1, K.out.2.2.2, HRI.out.1, HRI.out.2⟩
theorem drawn_any (d r c : Nat) (w : World) (h : Di w d) (hr : r ≤ 3) (hc : c ≤ 3) :
 Calls Tryz.prog 25 #[.pointer (some ⟨d, 0, none⟩), .int .i64 r, .int .i64 c] w fun x w' => ∃ v gs e, x = .returned v ∧ Mat w.heap.size w' v r c gs e ∧ RowsIn r c e ∧ Di w' d ∧ w.grownBy w' (some d) := by
 refine (drawn_rise d r c w h hr hc).mono ?_
 rintro x w' ⟨v, gs, e, h1, h2, h3, h4, h5, -⟩
 exact ⟨v, gs, e, h1, h2, h3, h4, h5⟩
open Go.RowKit
theorem Below.ofG {B p : Nat} {w w' : World} (h : w.grownBy w' (some p)) (hp : B ≤ p) (hB : B ≤ w.heap.size) : Below B w w' := ⟨h.os, h.tape, h.output, h.size, fun k hk => h.block k (by omega) (by intro e; injection e with e; omega)⟩
def TinyR (r c : Nat) (e : Nat → Nat → Int) : Prop := ∀ i j, i < r → j < c → -36 ≤ e i j ∧ e i j ≤ 36
theorem TinyR.small {r c : Nat} {e : Nat → Nat → Int} (h : TinyR r c e) : SmallR r c e := fun i j hi hj => by have := h i j hi hj; omega
theorem RowsIn.tinyR {r c : Nat} {e : Nat → Nat → Int} (h : RowsIn r c e) (hr : r ≤ 3) : TinyR r c e := by
 intro i j hi hj
 have h1 := h i hi j hj
 have h2 := pow_box i (by omega)
 omega
open Go.RowKit
def LC (w : World) (hb nx n : Nat) : Prop := hb < w.heap.size ∧ ∀ j, j < n → w.cell? ⟨hb, j, none⟩ = some (.int .i64 ((nx + j : Nat) : Int))
theorem LC.below {w w' : World} {hb nx n : Nat} (h : LC w hb nx n) (hB : Below w.heap.size w w') : LC w' hb nx n := ⟨by have := hB.size; have := h.1; omega, fun j hj => by rw [cell_block (hB.block hb h.1)]; exact h.2 j hj⟩
theorem LC.fr {w w' : World} {hb nx n b : Nat} (h : LC w hb nx n) (hF : Fr b w w') (hne : hb ≠ b) : LC w' hb nx n := ⟨by have := hF.1.size; have := h.1; omega, fun j hj => by rw [cell_block (hF.1.block hb h.1 (by simpa using hne))]; exact h.2 j hj⟩
theorem form_atE (B d b h k r c nx : Nat) (zs : List Int) (ms : List Hm) (w : World) (hk : KS B w d b ms nx) (hnx : nx < 900000) (hr : 3 ≤ ms.countP Option.isNone) (hk24 : k < 24) (ho : Only ms h k) (hg : ms.getD k none = some (h, r, c, zs)) (f : FitsP r c zs) (hP : ∀ xs : List KMx, xs.length = 3 → ∃ k1, k1 < 24 ∧ Only (puts ms nx xs) nx k1 ∧ (puts ms nx xs).getD k1 none = some (nx, xs.getD 0 (0, 0, []))) :
 Calls Tryz.prog 19 #[.pointer (some ⟨d, 0, none⟩), .int .i64 h, .bool false] w fun x w' => ∃ k pc hs us ws, EchIs r c zs k pc hs us ws ∧ x = .returned (.string ⟨(matT r c hs).toArray⟩) ∧ (∃ xs, xs.length = 3 ∧ KS B w' d b (puts ms nx xs) (nx + 3)) ∧ Fr b w w' := by
 have c0 := hk.dk.cell
 have H := Hid.mk (And.intro hk (And.intro ho (And.intro hg (And.intro f (And.intro hr hP)))))
 clear hk ho hg f hr hP
 go_enter Tryz.func19, Tryz.ntmps19
 go_wp2_with fail
 refine (echelon_at B d b h k r c nx zs ms _ H.out.1 hnx H.out.2.2.2.2.1 hk24 H.out.2.1 H.out.2.2.1 H.out.2.2.2.1).mono ?_
 rintro x w1 ⟨hb, xs, rfl, ⟨kk, pc, hs, us, ws, rfl, hE⟩, -, hk1, hF, -, hcell⟩
 have c1 := hcell 0 (by omega)
 rw [Nat.add_zero] at c1
 have K := Hid.mk (And.intro hE (And.intro hk1 hF))
 clear hE hk1 hF hcell c0
 obtain ⟨k1, hk1, ho1, hg1⟩ := H.out.2.2.2.2.2 [(r, c, hs), (r, r, us), (r, r, ws)] rfl
 have HG := Hid.mk (And.intro ho1 hg1)
 clear ho1 hg1
 go_wp2_with fail
 refine (shown_at B d b nx k1 r c (nx + 3) hs _ _ K.out.2.1 hk1 HG.out.1 HG.out.2).mono ?_
 rintro x w2 ⟨rfl, hb2⟩
 have K2 := Hid.mk (And.intro (K.out.2.1.below hb2) (K.out.2.2.trans (Fr.of_below hb2)))
 clear hb2
 generalize hT : (⟨(matT r c hs).toArray⟩ : ByteArray) = T
 have HT := Hid.mk hT
 clear hT
 go_wp2_with fail
 go_ret
 exact ⟨kk, pc, hs, us, ws, K.out.1, by rw [HT.out]; rfl, ⟨_, rfl, K2.out.1⟩, K2.out.2⟩
theorem form_atD (B d b h k r c nx : Nat) (zs : List Int) (ms : List Hm) (w : World) (hk : KS B w d b ms nx) (hnx : nx < 800000) (hr : 3 ≤ ms.countP Option.isNone) (hk24 : k < 24) (ho : Only ms h k) (hg : ms.getD k none = some (h, r, c, zs)) (f : FitsP r c zs)
 (hP : ∀ xs : List KMx, xs.length = 3 → 5 ≤ (puts ms nx xs).countP Option.isNone ∧ Only (puts ms nx xs) h k ∧ (puts ms nx xs).getD k none = some (h, r, c, zs) ∧ ∀ ys : List KMx, ys.length = 5 → ∃ k1, k1 < 24 ∧ Only (puts (puts ms nx xs) (nx + 3) ys) (nx + 3) k1 ∧ (puts (puts ms nx xs) (nx + 3) ys).getD k1 none = some (nx + 3, ys.getD 0 (0, 0, []))) :
 Calls Tryz.prog 19 #[.pointer (some ⟨d, 0, none⟩), .int .i64 h, .bool true] w fun x w' => ∃ y : D5, DgIs r c zs y ∧ y.d.length = r * c ∧ x = .returned (.string ⟨(matT r c y.d).toArray⟩) ∧ (∃ xs ys, xs.length = 3 ∧ ys.length = 5 ∧ KS B w' d b (puts (puts ms nx xs) (nx + 3) ys) (nx + 3 + 5)) ∧ Fr b w w' := by
 have c0 := hk.dk.cell
 have H := Hid.mk (And.intro hk (And.intro ho (And.intro hg (And.intro f (And.intro hr hP)))))
 clear hk ho hg f hr hP
 go_enter Tryz.func19, Tryz.ntmps19
 go_wp2_with fail
 refine (echelon_at B d b h k r c nx zs ms _ H.out.1 (by omega) H.out.2.2.2.2.1 hk24 H.out.2.1 H.out.2.2.1 H.out.2.2.2.1).mono ?_
 rintro x w1 ⟨hb, xs, rfl, -, hxl, hk1, hF, -, -⟩
 have K := Hid.mk (And.intro hk1 hF)
 have HX := Hid.mk hxl
 have HP := Hid.mk (H.out.2.2.2.2.2 xs hxl)
 clear hk1 hF c0 hxl
 have c0 := K.out.1.dk.cell
 go_wp2_with fail
 refine (diagonal_at B d b h k r c (nx + 3) zs _ _ K.out.1 (by omega) HP.out.1 hk24 HP.out.2.1 HP.out.2.2.1 H.out.2.2.2.1).mono ?_
 rintro x w2 ⟨hb', ys, rfl, ⟨y, rfl, hD, hlen⟩, -, hk2, hF2, -, hcell⟩
 have c1 := hcell 0 (by omega)
 rw [Nat.add_zero] at c1
 have K1 := Hid.mk (And.intro hD (And.intro hk2 (K.out.2.trans hF2)))
 have HY := Hid.mk hlen.1
 clear hD hk2 hF2 hcell c0 hlen
 obtain ⟨k1, hk1, ho1, hg1⟩ := HP.out.2.2.2 [(r, c, y.d), (r, r, y.u), (r, r, y.s), (c, c, y.v), (c, c, y.t)] rfl
 have HG := Hid.mk (And.intro ho1 hg1)
 clear ho1 hg1
 generalize hn3 : nx + 3 = n3 at c1 HG K1 ⊢
 have HN := Hid.mk hn3
 clear hn3
 go_wp2_with fail
 refine (shown_at B d b n3 k1 r c (n3 + 5) y.d _ _ K1.out.2.1 hk1 HG.out.1 HG.out.2).mono ?_
 rintro x w3 ⟨rfl, hb2⟩
 have K2 := Hid.mk (And.intro (K1.out.2.1.below hb2) (K1.out.2.2.trans (Fr.of_below hb2)))
 clear hb2
 generalize hT : (⟨(matT r c y.d).toArray⟩ : ByteArray) = T
 have HT := Hid.mk hT
 clear hT
 go_wp2_with fail
 go_ret
 exact ⟨y, K1.out.1, HY.out, by rw [HT.out]; rfl, ⟨xs, [(r, c, y.d), (r, r, y.u), (r, r, y.s), (c, c, y.v), (c, c, y.t)], HX.out, rfl, by rw [HN.out]; exact K2.out.1⟩, K2.out.2⟩
open Go.RowKit
theorem only_of {ms : List Hm} {h k : Nat} (hs : List (Option Nat)) (he : ms.map (Option.map Prod.fst) = hs) (hd : ∀ j, j < 24 → hs.getD j none = some h → j = k) : Only ms h k := by
 unfold Only
 rw [he]
 exact hd
def msA (X : KMx) : List Hm := some (0, X) :: List.replicate 23 none
def ms1 (X a b c : KMx) : List Hm := [some (0, X), some (1, a), some (2, b), some (3, c)] ++ List.replicate 20 none
def ms2 (X a b c p q s : KMx) : List Hm := [some (0, X), some (1, a), some (2, b), some (3, c), some (4, p), some (5, q), some (6, s)] ++ List.replicate 17 none
def ms3 (X p q s : KMx) : List Hm := [some (0, X), none, none, none, some (4, p), some (5, q), some (6, s)] ++ List.replicate 17 none
def ms4 (X a b c p q s : KMx) : List Hm := [some (0, X), some (7, a), some (8, b), some (9, c), some (4, p), some (5, q), some (6, s)] ++ List.replicate 17 none
def ms5 (X a b c p q s d0 d1 d2 d3 d4 : KMx) : List Hm := [some (0, X), some (7, a), some (8, b), some (9, c), some (4, p), some (5, q), some (6, s), some (10, d0), some (11, d1), some (12, d2), some (13, d3), some (14, d4)] ++ List.replicate 12 none
def ms6 (X a b c p q s d0 d1 d2 d3 d4 e0 e1 e2 : KMx) : List Hm := [some (0, X), some (7, a), some (8, b), some (9, c), some (4, p), some (5, q), some (6, s), some (10, d0), some (11, d1), some (12, d2), some (13, d3), some (14, d4), some (15, e0), some (16, e1), some (17, e2)] ++ List.replicate 9 none
def ms7 (X a b c p q s d0 d1 d2 d3 d4 e0 e1 e2 f0 f1 f2 f3 f4 : KMx) : List Hm := [some (0, X), some (7, a), some (8, b), some (9, c), some (4, p), some (5, q), some (6, s), some (10, d0), some (11, d1), some (12, d2), some (13, d3), some (14, d4), some (15, e0), some (16, e1), some (17, e2), some (18, f0), some (19, f1), some (20, f2), some (21, f3), some (22, f4)] ++ List.replicate 4 none
theorem len3 {xs : List KMx} (h : xs.length = 3) : ∃ a b c, xs = [a, b, c] := by
 match xs, h with
 | [a, b, c], _ => exact ⟨a, b, c, rfl⟩
theorem len5 {xs : List KMx} (h : xs.length = 5) : ∃ a b c d e, xs = [a, b, c, d, e] := by
 match xs, h with
 | [a, b, c, d, e], _ => exact ⟨a, b, c, d, e, rfl⟩
def frees (ms : List Hm) (s : Nat) : Nat → List Hm
 | 0 => ms
 | i + 1 => (frees ms s i).set (s + i) none
theorem free3 (X a b c p q s : KMx) : ∀ i, i < 3 → Only (frees (ms2 X a b c p q s) 1 i) (1 + i) (1 + i) ∧ ∃ y, (frees (ms2 X a b c p q s) 1 i).getD (1 + i) none = some (1 + i, y) := by
 intro i hi
 obtain rfl | rfl | rfl : i = 0 ∨ i = 1 ∨ i = 2 := by omega
 ·exact ⟨only_of [some 0, some 1, some 2, some 3, some 4, some 5, some 6, none, none, none, none, none, none, none, none, none, none, none, none, none, none, none, none, none] rfl (by decide), _, rfl⟩
 ·exact ⟨only_of [some 0, none, some 2, some 3, some 4, some 5, some 6, none, none, none, none, none, none, none, none, none, none, none, none, none, none, none, none, none] rfl (by decide), _, rfl⟩
 ·exact ⟨only_of [some 0, none, none, some 3, some 4, some 5, some 6, none, none, none, none, none, none, none, none, none, none, none, none, none, none, none, none, none] rfl (by decide), _, rfl⟩
theorem free5 (X a b c p q s d0 d1 d2 d3 d4 e0 e1 e2 f0 f1 f2 f3 f4 : KMx) : ∀ i, i < 5 → Only (frees (ms7 X a b c p q s d0 d1 d2 d3 d4 e0 e1 e2 f0 f1 f2 f3 f4) 7 i) (10 + i) (7 + i) ∧ ∃ y, (frees (ms7 X a b c p q s d0 d1 d2 d3 d4 e0 e1 e2 f0 f1 f2 f3 f4) 7 i).getD (7 + i) none = some (10 + i, y) := by
 intro i hi
 obtain rfl | rfl | rfl | rfl | rfl : i = 0 ∨ i = 1 ∨ i = 2 ∨ i = 3 ∨ i = 4 := by omega
 ·exact ⟨only_of [some 0, some 7, some 8, some 9, some 4, some 5, some 6, some 10, some 11, some 12, some 13, some 14, some 15, some 16, some 17, some 18, some 19, some 20, some 21, some 22, none, none, none, none] rfl (by decide), _, rfl⟩
 ·exact ⟨only_of [some 0, some 7, some 8, some 9, some 4, some 5, some 6, none, some 11, some 12, some 13, some 14, some 15, some 16, some 17, some 18, some 19, some 20, some 21, some 22, none, none, none, none] rfl (by decide), _, rfl⟩
 ·exact ⟨only_of [some 0, some 7, some 8, some 9, some 4, some 5, some 6, none, none, some 12, some 13, some 14, some 15, some 16, some 17, some 18, some 19, some 20, some 21, some 22, none, none, none, none] rfl (by decide), _, rfl⟩
 ·exact ⟨only_of [some 0, some 7, some 8, some 9, some 4, some 5, some 6, none, none, none, some 13, some 14, some 15, some 16, some 17, some 18, some 19, some 20, some 21, some 22, none, none, none, none] rfl (by decide), _, rfl⟩
 ·exact ⟨only_of [some 0, some 7, some 8, some 9, some 4, some 5, some 6, none, none, none, none, some 14, some 15, some 16, some 17, some 18, some 19, some 20, some 21, some 22, none, none, none, none] rfl (by decide), _, rfl⟩
theorem only0A (X : KMx) : Only (msA X) 0 0 := only_of [some 0, none, none, none, none, none, none, none, none, none, none, none, none, none, none, none, none, none, none, none, none, none, none, none] rfl (by decide)
theorem only1 (X a b c : KMx) : Only (ms1 X a b c) 1 1 := only_of [some 0, some 1, some 2, some 3, none, none, none, none, none, none, none, none, none, none, none, none, none, none, none, none, none, none, none, none] rfl (by decide)
theorem only2 (X a b c p q s : KMx) : Only (ms2 X a b c p q s) 4 4 := only_of [some 0, some 1, some 2, some 3, some 4, some 5, some 6, none, none, none, none, none, none, none, none, none, none, none, none, none, none, none, none, none] rfl (by decide)
theorem only3 (X p q s : KMx) : Only (ms3 X p q s) 0 0 := only_of [some 0, none, none, none, some 4, some 5, some 6, none, none, none, none, none, none, none, none, none, none, none, none, none, none, none, none, none] rfl (by decide)
theorem only4 (X a b c p q s : KMx) : Only (ms4 X a b c p q s) 0 0 := only_of [some 0, some 7, some 8, some 9, some 4, some 5, some 6, none, none, none, none, none, none, none, none, none, none, none, none, none, none, none, none, none] rfl (by decide)
theorem only5 (X a b c p q s d0 d1 d2 d3 d4 : KMx) : Only (ms5 X a b c p q s d0 d1 d2 d3 d4) 10 7 := only_of [some 0, some 7, some 8, some 9, some 4, some 5, some 6, some 10, some 11, some 12, some 13, some 14, none, none, none, none, none, none, none, none, none, none, none, none] rfl (by decide)
theorem only6 (X a b c p q s d0 d1 d2 d3 d4 e0 e1 e2 : KMx) : Only (ms6 X a b c p q s d0 d1 d2 d3 d4 e0 e1 e2) 10 7 := only_of [some 0, some 7, some 8, some 9, some 4, some 5, some 6, some 10, some 11, some 12, some 13, some 14, some 15, some 16, some 17, none, none, none, none, none, none, none, none, none] rfl (by decide)
theorem only7 (X a b c p q s d0 d1 d2 d3 d4 e0 e1 e2 f0 f1 f2 f3 f4 : KMx) : Only (ms7 X a b c p q s d0 d1 d2 d3 d4 e0 e1 e2 f0 f1 f2 f3 f4) 18 15 := only_of [some 0, some 7, some 8, some 9, some 4, some 5, some 6, some 10, some 11, some 12, some 13, some 14, some 15, some 16, some 17, some 18, some 19, some 20, some 21, some 22, none, none, none, none] rfl (by decide)
theorem cntA (X : KMx) : (msA X).countP Option.isNone = 23 := rfl
theorem cnt1 (X a b c : KMx) : (ms1 X a b c).countP Option.isNone = 20 := rfl
theorem cnt3 (X p q s : KMx) : (ms3 X p q s).countP Option.isNone = 20 := rfl
theorem cnt4 (X a b c p q s : KMx) : (ms4 X a b c p q s).countP Option.isNone = 17 := rfl
theorem cnt5 (X a b c p q s d0 d1 d2 d3 d4 : KMx) : (ms5 X a b c p q s d0 d1 d2 d3 d4).countP Option.isNone = 12 := rfl
theorem cnt6 (X a b c p q s d0 d1 d2 d3 d4 e0 e1 e2 : KMx) : (ms6 X a b c p q s d0 d1 d2 d3 d4 e0 e1 e2).countP Option.isNone = 9 := rfl
theorem putsA (X a b c : KMx) : puts (msA X) 1 [a, b, c] = ms1 X a b c := rfl
theorem puts1 (X a b c p q s : KMx) : puts (ms1 X a b c) 4 [p, q, s] = ms2 X a b c p q s := rfl
theorem puts3 (X p q s a b c : KMx) : puts (ms3 X p q s) 7 [a, b, c] = ms4 X a b c p q s := rfl
theorem puts4 (X a b c p q s d0 d1 d2 d3 d4 : KMx) : puts (ms4 X a b c p q s) 10 [d0, d1, d2, d3, d4] = ms5 X a b c p q s d0 d1 d2 d3 d4 := rfl
theorem puts5 (X a b c p q s d0 d1 d2 d3 d4 e0 e1 e2 : KMx) : puts (ms5 X a b c p q s d0 d1 d2 d3 d4) 15 [e0, e1, e2] = ms6 X a b c p q s d0 d1 d2 d3 d4 e0 e1 e2 := rfl
theorem puts6 (X a b c p q s d0 d1 d2 d3 d4 e0 e1 e2 f0 f1 f2 f3 f4 : KMx) : puts (ms6 X a b c p q s d0 d1 d2 d3 d4 e0 e1 e2) 18 [f0, f1, f2, f3, f4] = ms7 X a b c p q s d0 d1 d2 d3 d4 e0 e1 e2 f0 f1 f2 f3 f4 := rfl
theorem free3_all (X a b c p q s : KMx) : frees (ms2 X a b c p q s) 1 3 = ms3 X p q s := rfl
theorem atA (X : KMx) : (msA X).getD 0 none = some (0, X) := rfl
theorem at1 (X a b c : KMx) : (ms1 X a b c).getD 1 none = some (1, a) := rfl
theorem at2 (X a b c p q s : KMx) : (ms2 X a b c p q s).getD 4 none = some (4, p) := rfl
theorem at3 (X p q s : KMx) : (ms3 X p q s).getD 0 none = some (0, X) := rfl
theorem at4 (X a b c p q s : KMx) : (ms4 X a b c p q s).getD 0 none = some (0, X) := rfl
theorem at5 (X a b c p q s d0 d1 d2 d3 d4 : KMx) : (ms5 X a b c p q s d0 d1 d2 d3 d4).getD 7 none = some (10, d0) := rfl
theorem at6 (X a b c p q s d0 d1 d2 d3 d4 e0 e1 e2 : KMx) : (ms6 X a b c p q s d0 d1 d2 d3 d4 e0 e1 e2).getD 7 none = some (10, d0) := rfl
theorem at7 (X a b c p q s d0 d1 d2 d3 d4 e0 e1 e2 f0 f1 f2 f3 f4 : KMx) : (ms7 X a b c p q s d0 d1 d2 d3 d4 e0 e1 e2 f0 f1 f2 f3 f4).getD 15 none = some (18, f0) := rfl
def TSt (wr : World) (B d b : Nat) (X : KMx) (k : Nat) : Prop := (k = 0 ∧ KS B wr d b (msA X) 1) ∨ (k = 1 ∧ ∃ p q s, KS B wr d b (ms3 X p q s) 7) ∨ k = 2
theorem KS.frb {B : Nat} {w w' : World} {d b : Nat} {ms : List Hm} {nx : Nat} (h : KS B w d b ms nx) (hF : Fr b w w') : Below B w w' := hF.below h.hb h.lo
end Go.Proofs.YtfjbijpagaipnabGreatDoor
