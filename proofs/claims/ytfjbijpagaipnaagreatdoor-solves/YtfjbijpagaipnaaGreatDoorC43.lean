import Derived.Test.YtfjbijpagaipnaaGreatDoorC42
import Derived.Test.YtfjbijpagaipnaaGreatDoorC39
import Derived.Test.YtfjbijpagaipnaaGreatDoorC41
namespace Go.Proofs.YtfjbijpagaipnaaGreatDoor
open Go.RowKit
def SolS (r q : Nat) (zs ys : List Int) : Prop := Sp (ent r (flipL r q zs)) q r (ent r (flipL r 1 ys) 0)
def SolRel (ms : List Hm) (g h : Int) (y : Bool) (e : Int) (xs : List (Nat × Nat × List Int)) : Prop :=
 (((∀ i, i < 24 → ∀ x, ms.getD i none = some x → (x.1 : Int) ≠ g) ∨ (∀ i, i < 24 → ∀ x, ms.getD i none = some x → (x.1 : Int) ≠ h)) ∧ y = false ∧ e = 2 ∧ xs = []) ∨
 ∃ i hd r q zs j hd' r' c ys, i < 24 ∧ ms.getD i none = some (hd, r, q, zs) ∧ ((hd : Nat) : Int) = g ∧ j < 24 ∧ ms.getD j none = some (hd', r', c, ys) ∧ ((hd' : Nat) : Int) = h ∧
   ((¬ (c = 1 ∧ r' = r) ∧ y = false ∧ e = 3 ∧ xs = []) ∨ ((c = 1 ∧ r' = r) ∧ ¬ (FitsP r q zs ∧ FitsP r' c ys) ∧ y = false ∧ e = 4 ∧ xs = []) ∨
    ((c = 1 ∧ r' = r) ∧ (FitsP r q zs ∧ FitsP r' c ys) ∧ (¬ SolS r q zs ys ∧ HasF (ent r (flipL r q zs)) q r) ∧ y = false ∧ e = 0 ∧ xs = []) ∨
    ((c = 1 ∧ r' = r) ∧ (FitsP r q zs ∧ FitsP r' c ys) ∧ (SolS r q zs ys ∧ HasF (ent r (flipL r q zs)) q r) ∧ ms.countP Option.isNone < 2 ∧ y = false ∧ e = 5 ∧ xs = []) ∨
    ((c = 1 ∧ r' = r) ∧ (FitsP r q zs ∧ FitsP r' c ys) ∧ (SolS r q zs ys ∧ HasF (ent r (flipL r q zs)) q r) ∧ 2 ≤ ms.countP Option.isNone ∧ y = true ∧ e = 0 ∧ ∃ us nk ks, SolveIs r q zs ys us nk ks ∧ xs = [(q, 1, us), (nk, q, ks)]))
theorem MRow.two {w : World} {g : Nat} {x y : Nat × Nat × List Int} {o1 o2 : Option Addr} {m1 m2 c1 c2 : Nat} {t : TypeId} (hg : w.heap[g]? = some (.cells #[.int .i64 (x.1 : Nat), .int .i64 (x.2.1 : Nat), .slice o1 m1 c1, .int .i64 (y.1 : Nat), .int .i64 (y.2.1 : Nat), .slice o2 m2 c2] t (0, 0)))
 (h1 : IsM w (.agg #[.int .i64 (x.1 : Nat), .int .i64 (x.2.1 : Nat), .slice o1 m1 c1]) x.1 x.2.1 x.2.2 200000000) (h2 : IsM w (.agg #[.int .i64 (y.1 : Nat), .int .i64 (y.2.1 : Nat), .slice o2 m2 c2]) y.1 y.2.1 y.2.2 200000000) : MRow w g [x, y] := by
 intro j hj
 match j, hj with
 | 0, _ => exact ⟨o1, m1, c1, by simp [World.cell?, hg], by simp [World.cell?, hg], by simp [World.cell?, hg], h1⟩
 | 1, _ => exact ⟨o2, m2, c2, by simp [World.cell?, hg], by simp [World.cell?, hg], by simp [World.cell?, hg], h2⟩
set_option maxRecDepth 100000 in
set_option maxHeartbeats 4000000 in
theorem solve_held (b : Nat) (g h : Int) (ms : List Hm) (nx : Nat) (w : World) (hst : Held w b ms nx) (hnx : nx < 1000000 - 5) :
 Calls Tryz.prog 180 #[.pointer (some ⟨b, 0, none⟩), .int .i64 g, .int .i64 h] w fun x w' => ∃ y v e xs, x = .returned (.tuple #[.bool y, v, .int .i64 e]) ∧ SolRel ms g h y e xs ∧ ManyOut w w' b 2 nx ms y xs v := by
 have hm24 := hst.1
 have hbl := hst.lt
 have H := Hid.mk hst
 clear hst
 go_enter Tryz.func180, Tryz.ntmps180
 go_wp2_with fail
 refine (find_held b g ms nx _ H.out).mono ?_
 rintro e w1 ⟨⟨r, q, ao, n, cap, ok, rfl, hf⟩, hb1⟩
 have K1 := Hid.mk (And.intro hf hb1)
 have hw1 := hb1.size
 clear hf hb1
 go_wp2_with fail
 have hbA : Below w.heap.size w (w1.alloc (.cells #[.int .i64 r, .int .i64 q, .slice ao n cap] 76)) := K1.out.2.alloc hw1 _
 refine (find_held b h ms nx _ (H.out.below hbA)).mono ?_
 rintro e w2 ⟨⟨r', c, bo, n', cap', ok', rfl, hf2⟩, hb2⟩
 have hT1 : Trio (w1.alloc (.cells #[.int .i64 r, .int .i64 q, .slice ao n cap] 76)) w1.heap.size (.int .i64 r) (.int .i64 q) (.slice ao n cap) := ⟨new_cell _ _ _ _ _ rfl rfl, new_cell _ _ _ _ _ rfl rfl, new_cell _ _ _ _ _ rfl rfl⟩
 have hb22 := (Below.refl w2.heap.size w2).alloc (Nat.le_refl _) (.cells #[.int .i64 r', .int .i64 c, .slice bo n' cap'] 76)
 have hT2 := (hT1.later hb2).later hb22
 have hT3 : Trio (w2.alloc (.cells #[.int .i64 r', .int .i64 c, .slice bo n' cap'] 76)) w2.heap.size (.int .i64 r') (.int .i64 c) (.slice bo n' cap') := ⟨new_cell _ _ _ _ _ rfl rfl, new_cell _ _ _ _ _ rfl rfl, new_cell _ _ _ _ _ rfl rfl⟩
 have hbB : Below w.heap.size w w2 := hbA.trans (hb2.mono hbA.size)
 have hf1' := ((K1.out.1.below ((Below.refl _ _).alloc (Nat.le_refl _) (.cells #[.int .i64 r, .int .i64 q, .slice ao n cap] 76))).below hb2).below hb22
 have hf2' := hf2.below hb22
 have hbC : Below w.heap.size w (w2.alloc (.cells #[.int .i64 r', .int .i64 c, .slice bo n' cap'] 76)) := hbB.alloc hbB.size _
 have hlt : w1.heap.size < w2.heap.size := by have := hb2.size; simp at this; omega
 have K2 := Hid.mk (And.intro hf1' (And.intro hf2' (And.intro hbC (And.intro hT2 hT3))))
 clear hf2 hb2 hT1 hb22 hT2 hT3 hbB hf1' hf2' hbC hbA
 obtain ⟨X, hX⟩ : ∃ X, X = w2.alloc (.cells #[.int .i64 r', .int .i64 c, .slice bo n' cap'] 76) := ⟨_, rfl⟩
 have HX := Hid.mk hX
 rw [← hX] at K2
 clear hX
 have hsX : X.heap.size = w2.heap.size + 1 := by rw [HX.out]; simp
 rcases id K2.out.1 with ⟨rfl, i, hd, zs, hi, hgi, hgh, hM⟩ | ⟨rfl, hno⟩
 ·rcases id K2.out.2.1 with ⟨rfl, i', hd', ys, hi', hgi', hgh', hM'⟩ | ⟨rfl, hno⟩
  ·have HF := Hid.mk (And.intro (And.intro hi (And.intro hgi (And.intro hgh hM))) (And.intro hi' (And.intro hgi' (And.intro hgh' hM'))))
   have HC := Hid.mk (show ∀ w', Below X.heap.size X w' → w'.cell? ⟨w1.heap.size, 0, none⟩ = some (.int .i64 r) ∧ w'.cell? ⟨w1.heap.size, 1, none⟩ = some (.int .i64 q) ∧ w'.cell? ⟨w1.heap.size, 2, none⟩ = some (.slice ao n cap) ∧ w'.cell? ⟨w2.heap.size, 0, none⟩ = some (.int .i64 r') ∧ w'.cell? ⟨w2.heap.size, 1, none⟩ = some (.int .i64 c) ∧ w'.cell? ⟨w2.heap.size, 2, none⟩ = some (.slice bo n' cap') from
    fun w' hb => ⟨(K2.out.2.2.2.1.later hb).1, (K2.out.2.2.2.1.later hb).2.1, (K2.out.2.2.2.1.later hb).2.2, (K2.out.2.2.2.2.later hb).1, (K2.out.2.2.2.2.later hb).2.1, (K2.out.2.2.2.2.later hb).2.2⟩)
   clear hi hgi hgh hM hi' hgi' hgh' hM'
   go_upto_region 5 with fail
   rw [← HX.out]
   obtain ⟨iqr, hiqr⟩ : ∃ iqr, iqr = decide (c = 1 ∧ r' = r) := ⟨_, rfl⟩
   have HQ := Hid.mk hiqr
   clear hiqr
   go_cut [43] from 34 to 43 (fun x wx => x = .bool (!iqr) ∧ Below X.heap.size X wx)
   case first =>
    by_cases hr1 : (c : Int) = 1
    ·have hr2 : ((c : Int) != 1) = false := by simp [hr1]
     have HR := Hid.mk hr1
     clear hr1
     go_region_held3 (fun w' => w'.cell? ⟨w1.heap.size, 0, none⟩ = some (.int .i64 r) ∧ w'.cell? ⟨w1.heap.size, 1, none⟩ = some (.int .i64 q) ∧ w'.cell? ⟨w1.heap.size, 2, none⟩ = some (.slice ao n cap) ∧ w'.cell? ⟨w2.heap.size, 0, none⟩ = some (.int .i64 r') ∧ w'.cell? ⟨w2.heap.size, 1, none⟩ = some (.int .i64 c) ∧ w'.cell? ⟨w2.heap.size, 2, none⟩ = some (.slice bo n' cap'))
      (exact HC.out _ (by first | exact (Below.refl _ _).drew | exact ((Below.refl _ _).alloc (Nat.le_refl _) _).drew | exact (((Below.refl _ _).alloc (Nat.le_refl _) _).alloc (by simp) _).drew | exact ((((Below.refl _ _).alloc (Nat.le_refl _) _).alloc (by simp) _).alloc (by simp <;> omega) _).drew))
      (first
        | (go_at_call 43; refine (cols_raw _ _ _ _ _ _).mono ?_; rintro e w' ⟨rfl, rfl⟩)
        | (go_at_call 42; refine (rows_raw _ _ _ _ _ _).mono ?_; rintro e w' ⟨rfl, rfl⟩))
     all_goals
      go_wp2_with fail
      go_meet
      case rel =>
       refine ⟨?_, ((((Below.refl _ _).alloc (Nat.le_refl _) _).alloc (by simp) _).alloc (by simp <;> omega) _).drew⟩
       rw [HQ.out]
       have := HR.out
       by_cases h : r' = r
       ·rw [decide_eq_true (And.intro (by omega) h), h]; simp
       ·rw [decide_eq_false (fun e => h e.2)]; simp; omega
    ·have hr2 : ((c : Int) != 1) = true := by simp [hr1]
     have HR := Hid.mk hr1
     clear hr1
     obtain ⟨a0, a1, a2, a3, a4, a5⟩ := HC.out X (Below.refl _ _)
     go_region_with (go_at_call 43; refine (cols_raw _ _ _ _ _ _).mono ?_; rintro e w' ⟨rfl, rfl⟩)
     all_goals
      go_wp2_with fail
      go_meet
      case rel =>
       exact ⟨by rw [HQ.out, decide_eq_false (fun h => HR.out (by omega))]; rfl, ((Below.refl _ _).alloc (Nat.le_refl _) _).drew⟩
   case rest =>
    obtain ⟨rfl, hbx⟩ := hcut
    have hbw : Below w.heap.size w wc := K2.out.2.2.1.trans (hbx.mono K2.out.2.2.1.size)
    obtain ⟨a0, a1, a2, a3, a4, a5⟩ := HC.out wc hbx
    have K3 := Hid.mk (And.intro hbx hbw)
    have hwc := hbx.size
    clear hbx hbw
    cases iqr
    ·have HNE : Hid (¬ (c = 1 ∧ r' = r)) := Hid.mk (fun e => by have := HQ.out; rw [decide_eq_true e] at this; cases this)
     go_wp2_with fail
     go_ret3
     exact ⟨_, _, _, [], rfl, .inr ⟨i, hd, r, q, zs, i', hd', r', c, ys, HF.out.1.1, HF.out.1.2.1, HF.out.1.2.2.1, HF.out.2.1, HF.out.2.2.1, HF.out.2.2.2.1, .inl ⟨HNE.out, rfl, rfl, rfl⟩⟩, .inl ⟨rfl, rfl, H.out.below K3.out.2, Fr.of_below K3.out.2⟩⟩
    ·have hqr : c = 1 ∧ r' = r := of_decide_eq_true HQ.out.symm
     have HQR := Hid.mk hqr
     clear hqr
     go_wp2_with fail
     refine (tooBig_any _ r q zs 200000000 _ (HF.out.1.2.2.2.below K3.out.1) (by omega)).mono ?_
     rintro e w3 ⟨fb, rfl, hfo, hb3⟩
     have hbX3 : Below X.heap.size X w3 := K3.out.1.trans (hb3.mono hwc)
     clear a0 a1 a2 a3 a4 a5
     obtain ⟨a0, a1, a2, a3, a4, a5⟩ := HC.out w3 hbX3
     have hw3 := hbX3.size
     have K4 := Hid.mk (And.intro hbX3 (And.intro (K2.out.2.2.1.trans (hbX3.mono K2.out.2.2.1.size)) hfo))
     clear hb3 hbX3 hfo
     cases fb
     ·have HNF : Hid (¬ FitsP r q zs) := Hid.mk (fun h => by have := K4.out.2.2.2 h; cases this)
      go_wp2_with fail
      go_ret3
      exact ⟨_, _, _, [], rfl, .inr ⟨i, hd, r, q, zs, i', hd', r', c, ys, HF.out.1.1, HF.out.1.2.1, HF.out.1.2.2.1, HF.out.2.1, HF.out.2.2.1, HF.out.2.2.2.1, .inr (.inl ⟨HQR.out, fun h => HNF.out h.1, rfl, rfl, rfl⟩)⟩, .inl ⟨rfl, rfl, H.out.below K4.out.2.1, Fr.of_below K4.out.2.1⟩⟩
     ·go_wp2_with fail
      refine (tooBig_any _ r' c ys 200000000 _ (HF.out.2.2.2.2.below K4.out.1) (by omega)).mono ?_
      rintro e w4 ⟨fb, rfl, hfo, hb4⟩
      have hbX4 : Below X.heap.size X w4 := K4.out.1.trans (hb4.mono hw3)
      clear a0 a1 a2 a3 a4 a5
      obtain ⟨a0, a1, a2, a3, a4, a5⟩ := HC.out w4 hbX4
      have hw4 := hbX4.size
      have K5 := Hid.mk (And.intro hbX4 (And.intro (K2.out.2.2.1.trans (hbX4.mono K2.out.2.2.1.size)) hfo))
      clear hb4 hbX4 hfo
      cases fb
      ·have HNF : Hid (¬ FitsP r' c ys) := Hid.mk (fun h => by have := K5.out.2.2.2 h; cases this)
       go_wp2_with fail
       go_ret3
       exact ⟨_, _, _, [], rfl, .inr ⟨i, hd, r, q, zs, i', hd', r', c, ys, HF.out.1.1, HF.out.1.2.1, HF.out.1.2.2.1, HF.out.2.1, HF.out.2.2.1, HF.out.2.2.2.1, .inr (.inl ⟨HQR.out, fun h => HNF.out h.2, rfl, rfl, rfl⟩)⟩, .inl ⟨rfl, rfl, H.out.below K5.out.2.1, Fr.of_below K5.out.2.1⟩⟩
      ·have HFF : Hid (FitsP r q zs ∧ FitsP r' c ys) := Hid.mk ⟨K4.out.2.2.1 rfl, K5.out.2.2.1 rfl⟩
       have hMl := (HF.out.1.2.2.2.below K5.out.1).tight HFF.out.1
       have hMr := (HF.out.2.2.2.2.below K5.out.1).tight HFF.out.2
       have HMM := Hid.mk (And.intro hMl hMr)
       clear hMl hMr
       go_wp2_with fail
       have HM2 : Hid (IsM w4 (.agg #[.int .i64 r', .int .i64 c, .slice bo n' cap']) r 1 ys 2) := Hid.mk (by
        have h1 := HMM.out.2
        rw [HQR.out.1, HQR.out.2] at h1 ⊢
        exact h1)
       refine (solve_any _ _ r q zs ys _ HMM.out.1 HM2.out HFF.out.1.1 HFF.out.1.2.1 HFF.out.1.ent).mono ?_
       rintro e w5 ⟨z1, z2, x1, x2, o1, o2, n1, n2, p1, p2, ok, rfl, hiff, hhf, hyes, hb5⟩
       have hb05 : Below w.heap.size w w5 := K5.out.2.1.trans (hb5.mono K5.out.2.1.size)
       have hw5 := hb5.size
       have K6 := Hid.mk (And.intro hiff (And.intro hhf (And.intro hyes hb05)))
       clear hiff hhf hyes hb5 hb05 a0 a1 a2 a3 a4 a5
       cases ok
       ·have HNS : Hid (¬ SolS r q zs ys) := Hid.mk (fun h => by have := K6.out.1.2 h; cases this)
        have hbA : ∀ o1 o2, Below w.heap.size w ((w5.alloc o1).alloc o2) := fun o1 o2 => (K6.out.2.2.2.alloc K6.out.2.2.2.size _).alloc (by have := K6.out.2.2.2.size; simp; omega) _
        have HA := Hid.mk hbA
        clear hbA
        go_wp2_with fail
        go_ret3
        exact ⟨_, _, _, [], rfl, .inr ⟨i, hd, r, q, zs, i', hd', r', c, ys, HF.out.1.1, HF.out.1.2.1, HF.out.1.2.2.1, HF.out.2.1, HF.out.2.2.1, HF.out.2.2.2.1, .inr (.inr (.inl ⟨HQR.out, HFF.out, ⟨HNS.out, K6.out.2.1⟩, rfl, rfl, rfl⟩))⟩, .inl ⟨rfl, rfl, H.out.below (HA.out _ _), Fr.of_below (HA.out _ _)⟩⟩
       ·have HSP : Hid (SolS r q zs ys) := Hid.mk (K6.out.1.1 rfl)
        obtain ⟨us, nk, ks, hS, rfl, rfl, rfl, rfl, hM1, hM2⟩ := K6.out.2.2.1 rfl
        have K7 := Hid.mk (And.intro hS (And.intro hM1 hM2))
        clear hS hM1 hM2
        have hbA : ∀ o1 o2, Below w.heap.size w ((w5.alloc o1).alloc o2) := fun o1 o2 => (K6.out.2.2.2.alloc K6.out.2.2.2.size _).alloc (by have := K6.out.2.2.2.size; simp; omega) _
        have HA := Hid.mk hbA
        clear hbA
        go_wp2_with fail
        refine (room_held b ms nx _ (H.out.below (HA.out _ _))).mono ?_
        rintro e w' ⟨rfl, rfl⟩
        obtain ⟨rm, hrm⟩ : ∃ rm, rm = ms.countP Option.isNone := ⟨_, rfl⟩
        have HRM := Hid.mk hrm
        rw [← hrm]
        clear hrm
        by_cases h0 : rm < 2
        ·have h0' : ((rm : Int) < 2) := by omega
         go_wp2_with fail
         go_ret3
         exact ⟨_, _, _, [], rfl, .inr ⟨i, hd, r, q, zs, i', hd', r', c, ys, HF.out.1.1, HF.out.1.2.1, HF.out.1.2.2.1, HF.out.2.1, HF.out.2.2.1, HF.out.2.2.2.1, .inr (.inr (.inr (.inl ⟨HQR.out, HFF.out, ⟨HSP.out, K6.out.2.1⟩, by rw [← HRM.out]; exact h0, rfl, rfl, rfl⟩)))⟩, .inl ⟨rfl, rfl, H.out.below (HA.out _ _), Fr.of_below (HA.out _ _)⟩⟩
        ·have h0' : ¬ ((rm : Int) < 2) := by omega
         go_wp2_with fail
         obtain ⟨X, hX⟩ : ∃ X, X = ((w5.alloc (.cells #[.int .i64 q, .int .i64 1, .slice o1 n1 p1] 76)).alloc (.cells #[.int .i64 nk, .int .i64 q, .slice o2 n2 p2] 76)).alloc (.cells #[.int .i64 q, .int .i64 1, .slice o1 n1 p1, .int .i64 nk, .int .i64 q, .slice o2 n2 p2] 76) := ⟨_, rfl⟩
         rw [← hX]
         have hbX : Below w5.heap.size w5 X := by rw [hX]; exact (((Below.refl _ _).alloc (Nat.le_refl _) _).alloc (by simp) _).alloc (by simp <;> omega) _
         have hsX3 : X.heap.size = w5.heap.size + 1 + 1 + 1 := by rw [hX]; simp
         have hgX : X.heap[w5.heap.size + 1 + 1]? = some (.cells #[.int .i64 q, .int .i64 1, .slice o1 n1 p1, .int .i64 nk, .int .i64 q, .slice o2 n2 p2] 76 (0, 0)) := by
          rw [hX]
          have := heap_alloc_new ((w5.alloc (.cells #[.int .i64 q, .int .i64 1, .slice o1 n1 p1] 76)).alloc (.cells #[.int .i64 nk, .int .i64 q, .slice o2 n2 p2] 76)) (.cells #[.int .i64 q, .int .i64 1, .slice o1 n1 p1, .int .i64 nk, .int .i64 q, .slice o2 n2 p2] 76)
          simpa using this
         have hbwX := K6.out.2.2.2.trans (hbX.mono K6.out.2.2.2.size)
         have hrow : MRow X (w5.heap.size + 1 + 1) [(q, 1, us), (nk, q, ks)] := MRow.two (x := (q, 1, us)) (y := (nk, q, ks)) hgX (K7.out.2.1.below hbX) (K7.out.2.2.below hbX)
         have hw05 := K6.out.2.2.2.size
         have HX2 := Hid.mk (And.intro hbwX hrow)
         clear hX hbX hgX hbwX hrow
         refine (keepAll_held b (w5.heap.size + 1 + 1) 2 2 [(q, 1, us), (nk, q, ks)] ms nx _ (H.out.below HX2.out.1) HX2.out.2 rfl (by omega) (by omega) (by omega) (by have := HRM.out; omega) hnx).mono ?_
         rintro e w6 ⟨v6, rfl, hb6, zs6, rfl, k1, k2, k3, k4, k5, k6⟩
         have K8 := Hid.mk (And.intro k1 (And.intro k2 (And.intro k3 (And.intro k4 (And.intro k5 ((Fr.of_below HX2.out.1).trans k6))))))
         clear k1 k2 k3 k4 k5 k6
         go_wp2_with fail
         go_ret3
         exact ⟨_, _, _, [(q, 1, us), (nk, q, ks)], rfl, .inr ⟨i, hd, r, q, zs, i', hd', r', c, ys, HF.out.1.1, HF.out.1.2.1, HF.out.1.2.2.1, HF.out.2.1, HF.out.2.2.1, HF.out.2.2.2.1, .inr (.inr (.inr (.inr ⟨HQR.out, HFF.out, ⟨HSP.out, K6.out.2.1⟩, by have := HRM.out; omega, rfl, rfl, us, nk, ks, K7.out.1, rfl⟩)))⟩, .inr ⟨rfl, hb6, zs6, rfl, by have := HX2.out.1.size; have := K8.out.1; omega, K8.out.2.1, K8.out.2.2.1, K8.out.2.2.2.1, K8.out.2.2.2.2.1, K8.out.2.2.2.2.2⟩⟩
  ·have KN := Hid.mk hno
   clear hno
   go_wp2_with fail
   go_ret3
   rw [← HX.out]
   exact ⟨_, _, _, [], rfl, .inl ⟨.inr KN.out, rfl, rfl, rfl⟩, .inl ⟨rfl, rfl, H.out.below K2.out.2.2.1, Fr.of_below K2.out.2.2.1⟩⟩
 ·have KN := Hid.mk hno
  clear hno
  go_wp2_with fail
  go_ret3
  rw [← HX.out]
  exact ⟨_, _, _, [], rfl, .inl ⟨.inl KN.out, rfl, rfl, rfl⟩, .inl ⟨rfl, rfl, H.out.below K2.out.2.2.1, Fr.of_below K2.out.2.2.1⟩⟩
open Go.RowKit R
theorem SolRel.uniq {ms : List Hm} {g h : Int} {y y2 : Bool} {e e2 : Int} {xs1 xs2 : List (Nat × Nat × List Int)} (hd : Dst ms) (a : SolRel ms g h y e xs1) (b : SolRel ms g h y2 e2 xs2) : y = y2 ∧ e = e2 ∧ xs1 = xs2 := by
 rcases a with ⟨ha, rfl, rfl, rfl⟩ | ⟨i, hd1, r, q, zs, j, hd2, q', c, ys, hi, hx, hxg, hj, hy, hyh, ha⟩
 ·rcases b with ⟨hb, rfl, rfl, rfl⟩ | ⟨i, hd1, r, q, zs, j, hd2, q', c, ys, hi, hx, hxg, hj, hy, hyh, hb⟩
  ·exact ⟨rfl, rfl, rfl⟩
  ·rcases ha with ha | ha
   ·exact absurd hxg (ha i hi _ hx)
   ·exact absurd hyh (ha j hj _ hy)
 ·rcases b with ⟨hb, rfl, rfl, rfl⟩ | ⟨i', hd1', r', q1, zs', j', hd2', q1', c', ys', hi', hx', hxg', hj', hy', hyh', hb⟩
  ·rcases hb with hb | hb
   ·exact absurd hxg (hb i hi _ hx)
   ·exact absurd hyh (hb j hj _ hy)
  ·have e1 : i = i' := hd i i' _ _ hi hi' hx hx' (by show hd1 = hd1'; omega)
   have e2 : j = j' := hd j j' _ _ hj hj' hy hy' (by show hd2 = hd2'; omega)
   subst e1; subst e2
   rw [hx] at hx'
   rw [hy] at hy'
   simp only [Option.some.injEq, Prod.mk.injEq] at hx' hy'
   obtain ⟨rfl, rfl, rfl, rfl⟩ := hx'
   obtain ⟨rfl, rfl, rfl, rfl⟩ := hy'
   rcases ha with ⟨a1, rfl, rfl, rfl⟩ | ⟨a1, a2, rfl, rfl, rfl⟩ | ⟨a1, a2, a3, rfl, rfl, rfl⟩ | ⟨a1, a2, a3, a4, rfl, rfl, rfl⟩ | ⟨a1, a2, a3, a4, rfl, rfl, us, nk, ks, a5, rfl⟩
   ·rcases hb with ⟨b1, rfl, rfl, rfl⟩ | ⟨b1, _⟩ | ⟨b1, _⟩ | ⟨b1, _⟩ | ⟨b1, _⟩
    ·exact ⟨rfl, rfl, rfl⟩
    all_goals exact absurd b1 a1
   ·rcases hb with ⟨b1, _⟩ | ⟨b1, b2, rfl, rfl, rfl⟩ | ⟨b1, b2, _⟩ | ⟨b1, b2, _⟩ | ⟨b1, b2, _⟩
    ·exact absurd a1 b1
    ·exact ⟨rfl, rfl, rfl⟩
    all_goals exact absurd b2 a2
   ·rcases hb with ⟨b1, _⟩ | ⟨b1, b2, _⟩ | ⟨b1, b2, b3, rfl, rfl, rfl⟩ | ⟨b1, b2, b3, _⟩ | ⟨b1, b2, b3, _⟩
    ·exact absurd a1 b1
    ·exact absurd a2 b2
    ·exact ⟨rfl, rfl, rfl⟩
    all_goals exact absurd b3.1 a3.1
   ·rcases hb with ⟨b1, _⟩ | ⟨b1, b2, _⟩ | ⟨b1, b2, b3, _⟩ | ⟨b1, b2, b3, b4, rfl, rfl, rfl⟩ | ⟨b1, b2, b3, b4, _⟩
    ·exact absurd a1 b1
    ·exact absurd a2 b2
    ·exact absurd a3.1 b3.1
    ·exact ⟨rfl, rfl, rfl⟩
    ·omega
   ·rcases hb with ⟨b1, _⟩ | ⟨b1, b2, _⟩ | ⟨b1, b2, b3, _⟩ | ⟨b1, b2, b3, b4, _⟩ | ⟨b1, b2, b3, b4, rfl, rfl, us', nk', ks', b5, rfl⟩
    ·exact absurd a1 b1
    ·exact absurd a2 b2
    ·exact absurd a3.1 b3.1
    ·omega
    ·obtain ⟨rfl, rfl, rfl⟩ := a5.uniq b5
     exact ⟨rfl, rfl, rfl⟩
set_option maxRecDepth 100000 in
set_option maxHeartbeats 1000000 in
theorem twSolve_any (B T b1 b2 : Nat) (g h : Int) (ms : List Hm) (nx : Nat) (w : World) (hst : TwH B w T b1 b2 ms nx) (hd : Dst ms) (hnx : nx < 1000000 - 5) :
 Calls Tryz.prog 123 #[.pointer (some ⟨T, 0, none⟩), .int .i64 g, .int .i64 h] w fun x w' => ∃ y v e xs, x = .returned (.tuple #[.bool y, v, .int .i64 e]) ∧ SolRel ms g h y e xs ∧ TwMany B w w' T b1 b2 2 nx ms y xs v := by
 obtain ⟨c0, c1, c2, -⟩ := hst.1.cells
 have H := Hid.mk (And.intro hst hd)
 clear hst hd
 go_enter Tryz.func123, Tryz.ntmps123
 go_wp2_with fail
 refine (solve_held b1 g h ms nx _ H.out.1.2.1 hnx).mono ?_
 rintro x w1 ⟨y1, v1, e1, xs1, rfl, hrel1, ho1⟩
 have fr1 : Fr b1 w w1 := by rcases ho1 with ⟨-, -, -, f⟩ | ⟨-, _, _, _, _, _, _, _, _, f⟩ <;> exact f
 have hT1 : Tw w1 T b1 b2 false := H.out.1.1.of_block (fr1.1.block T H.out.1.1.lt (by simpa using H.out.1.1.ne H.out.1.2.1.ty))
 have hH2 : Held w1 b2 ms nx := H.out.1.2.2.1.fr fr1 (Ne.symm H.out.1.2.2.2.1)
 clear c0 c1 c2
 obtain ⟨c0, c1, c2, -⟩ := hT1.cells
 obtain ⟨o1, n1, p1, rfl⟩ : ∃ o n p, v1 = .slice o n p := by rcases ho1 with ⟨-, rfl, -⟩ | ⟨-, _, _, rfl, -⟩ <;> exact ⟨_, _, _, rfl⟩
 have K1 := Hid.mk (And.intro hH2 (And.intro hrel1 ho1))
 clear hT1 hH2 hrel1 ho1 fr1
 go_wp2_with fail
 refine (solve_held b2 g h ms nx _ K1.out.1 hnx).mono ?_
 rintro x w2 ⟨y2, v2, e2, xs2, rfl, hrel2, ho2⟩
 obtain ⟨rfl, rfl, rfl⟩ := SolRel.uniq H.out.2 K1.out.2.1 hrel2
 obtain ⟨o2, n2, p2, rfl⟩ : ∃ o n p, v2 = .slice o n p := by rcases ho2 with ⟨-, rfl, -⟩ | ⟨-, _, _, rfl, -⟩ <;> exact ⟨_, _, _, rfl⟩
 have K2 := Hid.mk (And.intro ho2 (TwMany.of_outs H.out.1 K1.out.2.2 ho2 (Below.refl _ _)).2)
 clear ho2 c0 c1 c2 hrel2
 obtain ⟨zs, z1, z2⟩ := K2.out.2
 have KZ := Hid.mk (And.intro z1 z2)
 clear z1 z2
 have i0 : (y1 == y1) = true := by simp
 have i2 : (e1 == e1) = true := by simp
 go_wp2_with fail
 refine (alike_same _ _ zs _ KZ.out.1 KZ.out.2).mono ?_
 rintro x w3 ⟨rfl, hb3⟩
 have K3 := Hid.mk hb3
 clear hb3
 go_wp2_with fail
 refine (like_true T _).mono ?_
 rintro x w' ⟨rfl, rfl⟩
 go_wp2_with fail
 go_ret3
 exact ⟨_, _, _, _, rfl, K1.out.2.1, (TwMany.of_outs H.out.1 K1.out.2.2 K2.out.1 K3.out).1⟩
end Go.Proofs.YtfjbijpagaipnaaGreatDoor
namespace Go.Proofs.YtfjbijpagaipnaaGreatDoor.R
theorem sumF_dvd {d : Int} : ∀ (n : Nat) (g : Nat → Int), (∀ k, k < n → d ∣ g k) → d ∣ sumF n g := by
 intro n
 induction n with
 | zero => intro g _; exact Int.dvd_zero d
 | succ n ih => intro g h; rw [sumF]; exact Int.dvd_add (ih g (fun k hk => h k (by omega))) (h n (by omega))
theorem mv_ahead {d : Int} {n m : Nat} {vs : List (Nat → Int)} (h : ∀ C : List Nat, C.length = m → (∀ x ∈ C, x < n) → d ∣ mv vs C) : ∀ (us : List (Nat → Int)) (C : List Nat), C.length = us.length + m → (∀ x ∈ C, x < n) → d ∣ mv (us ++ vs) C := by
 intro us
 induction us with
 | nil => intro C hC hx; exact h C (by simpa using hC) hx
 | cons u us ih =>
   intro C hC hx
   rw [List.cons_append, mv]
   refine sumF_dvd _ _ (fun k hk => ?_)
   have h1 := ih (C.eraseIdx k) (by rw [List.length_eraseIdx, if_pos hk]; simp at hC; omega) (fun x hx' => hx x (List.mem_of_mem_eraseIdx hx'))
   have h2 : d ∣ u (C.getD k 0) * mv (us ++ vs) (C.eraseIdx k) := Int.dvd_trans h1 (Int.dvd_mul_left _ _)
   unfold signed
   split
   ·exact Int.dvd_neg.2 h2
   ·exact h2
theorem ker_div {U W : Nat → Nat → Int} {n k : Nat} (hk : k ≤ n) (h4 : n ≤ 4) (hwu : ∀ i j, i < n → j < n → dot W U i j n = kd i j) : divF (fun i => U (k + i)) (n - k) n (n - k) = 1 := by
 have h1 := (div_dvd (divF (fun i => U (k + i)) (n - k) n (n - k)) _ _ _ _ (by omega)).1 (Nat.dvd_refl _)
 generalize hd : divF (fun i => U (k + i)) (n - k) n (n - k) = d at *
 have h2 : (d : Int) ∣ mv ((List.range n).map U) (List.range n) := by
  have e : (List.range n).map U = (List.range k).map U ++ (List.range (n - k)).map (fun i => U (k + i)) := by
   rw [show (List.range (n - k)).map (fun i => U (k + i)) = ((List.range (n - k)).map (fun i => k + i)).map U from by rw [List.map_map]; rfl, ← List.map_append, ← List.range_add, show k + (n - k) = n from by omega]
  rw [e]
  exact mv_ahead (n := n) (m := n - k) (fun C hC hx => chosenL_any (by omega) h1 (by simp) (fun x hx => List.mem_range.1 hx) hC hx) _ _ (by simp; omega) (fun x hx => List.mem_range.1 hx)
 have h3 : AllD (d : Int) U n (List.range n) := by
  intro R hR hr
  have := rise_all d U (List.range n) (by simpa using h4) n n [] (by simp) (fun R' hR' => by
   rw [chosenL_self, List.mem_singleton] at hR'
   rw [hR', List.append_nil]; exact h2) R (by simpa using hR) hr
  simpa using this
 have h5 := allD_comb h3 (fun i hi => comb_of_dot (g := kd) (c := n) (fun x hx => List.mem_range.1 hx) (fun j hj => hwu i j hi hj))
 have h6 := h5 (List.range n) rfl (fun x hx => List.mem_range.1 hx)
 rw [List.range_eq_range', mv_up n 0 (fun i j hij _ => by unfold kd; rw [if_neg (by omega)])] at h6
 have h7 : pr kd 0 n = 1 := by
  have key : ∀ n o, pr kd o n = 1 := by
   intro n
   induction n with
   | zero => intro o; rfl
   | succ n ih => intro o; rw [pr, ih]; unfold kd; simp
  exact key n 0
 rw [h7] at h6
 exact Nat.dvd_one.1 (Int.ofNat_dvd_left.1 h6)
theorem div_up {f : Nat → Nat → Int} {r c m : Nat} (hm : m + 1 ≤ 4) (h : divF f r c m = 0) : divF f r c (m + 1) = 0 := by
 rw [all_div f r c m (by omega), allV_iff] at h
 rw [all_div f r c (m + 1) hm]
 intro R hR hr C hC
 obtain ⟨c1, c2⟩ := chosenL_lt hC
 match R, hR with
 | x :: R', hR' =>
   have := mv_ahead (d := 0) (n := c) (m := m) (vs := R'.map f) (fun C' hC' hx => chosenL_any (by omega) h (by simpa using hR') (fun y hy => hr y (List.mem_cons_of_mem _ hy)) hC' hx) [f x] C (by simp; omega) c2
   exact Int.zero_dvd.1 (by simpa using this)
theorem rank_of_div {f : Nat → Nat → Int} {r c : Nat} (hr : r ≤ 4) (hc : r ≤ c) (h : divF f r c r ≠ 0) : RankIs f r c r := by
 refine ⟨Nat.le_refl _, hc, fun i hi h0 => ?_, .inl rfl⟩
 have key : ∀ t, i + 1 + t ≤ r → divF f r c (i + 1 + t) = 0 := by
  intro t
  induction t with
  | zero => intro _; exact h0
  | succ t ih => intro ht; exact div_up (m := i + 1 + t) (by omega) (ih (by omega))
 have := key (r - (i + 1)) (by omega)
 rw [show i + 1 + (r - (i + 1)) = r from by omega] at this
 exact h this
end Go.Proofs.YtfjbijpagaipnaaGreatDoor.R
namespace Go.Proofs.YtfjbijpagaipnaaGreatDoor
open Go.RowKit R
theorem div_eq {A O : Nat → Nat → Int} {r c m : Nat} (hm : m ≤ 4) (h : ∀ i j, i < r → j < c → A i j = O i j) : divF A r c m = divF O r c m := by
 refine div_same (fun i hi => ?_) (fun i hi => ?_) hm
 ·obtain ⟨x, hx⟩ := Sp.row O c hi
  exact ⟨x, fun j hj => (h i j hi hj).trans (hx j hj)⟩
 ·obtain ⟨x, hx⟩ := Sp.row A c hi
  exact ⟨x, fun j hj => (h i j hi hj).symm.trans (hx j hj)⟩
theorem RankIs.turn {f g : Nat → Nat → Int} {r c k : Nat} (h : RankIs f r c k) (hr : r ≤ 4) (hg : ∀ i j, i < c → j < r → g i j = f j i) : RankIs g c r k := by
 obtain ⟨h1, h2, h3, h4⟩ := h
 have e : ∀ m, m ≤ 4 → divF g c r m = divF f r c m := fun m hm => by
  rw [← div_tr f r c m hm]
  exact div_eq hm hg
 refine ⟨h2, h1, fun i hi => by rw [e (i + 1) (by omega)]; exact h3 i hi, ?_⟩
 by_cases a : k = c
 ·exact .inl a
 ·by_cases b : k = r
  ·exact .inr (.inl b)
  ·rcases h4 with h4 | h4 | h4
   ·exact absurd h4 b
   ·exact absurd h4 a
   ·exact .inr (.inr (by rw [e (k + 1) (by omega)]; exact h4))
theorem flip_fz (r c : Nat) (zs : List Int) {i j : Nat} (hi : i < c) (hj : j < r) : fz r (flipL r c zs) i j = fz c zs j i := (flipL_is r c zs).2 i j hi hj
theorem SolveIs.back {r c nk : Nat} {zs ys xs ks : List Int} (h : SolveIs r c zs ys xs nk ks) (hs : SolS r c zs ys) : ∀ i j, i < r → j < 1 → dot (fz c zs) (fz 1 xs) i j c = fz 1 ys i j := by
 obtain ⟨k, pc, hs', us, ws, hE, rfl, -, -, -, -⟩ := h
 intro i j hi hj
 obtain rfl : j = 0 := by omega
 have hM : MemIs c r (flipL r c zs) (flipL r 1 ys) (prodL 1 c c (shL (ent r hs') pc (ent r (flipL r 1 ys) 0) c k) us) := ⟨k, pc, hs', us, ws, hE, rfl⟩
 have h1 := hM.back hs 0 i (by omega) hi
 rw [flip_fz r 1 ys (by omega) hi] at h1
 rw [← h1, dot_sm, dot_sm]
 refine sm_congr c (fun l hl => ?_)
 rw [flip_fz r c zs hl hi, flip_fz 1 c _ hl (by omega), Int.mul_comm]
theorem SolveIs.kernel {r c nk : Nat} {zs ys xs ks : List Int} (h : SolveIs r c zs ys xs nk ks) (hr : r ≤ 4) (hc : c ≤ 4) : ∃ k, nk = c - k ∧ k ≤ c ∧ RankIs (fz c zs) r c k ∧ RankIs (fz c ks) nk c nk ∧ divF (fz c ks) nk c nk = 1 ∧ ∀ i j, i < nk → j < r → dot (fz c ks) (fz r (flipL r c zs)) i j c = 0 := by
 obtain ⟨k, pc, hs', us, ws, hE, -, rfl, hkc, hl, he⟩ := h
 have hd : divF (fz c ks) (c - k) c (c - k) = 1 := by
  rw [← ker_div (U := ent c us) (W := ent c ws) hkc hc hE.inv.wu]
  exact div_eq (by omega) he
 refine ⟨k, rfl, hkc, RankIs.turn (f := ent r (flipL r c zs)) (ech_rankIs hE.st hE.inv hc hr) hc (fun i j hi hj => ((flipL_is r c zs).2 j i hj hi).symm), rank_of_div (by omega) (by omega) (by rw [hd]; decide), hd, fun i j hi hj => ?_⟩
 have h1 : dot (fz c ks) (fz r (flipL r c zs)) i j c = dot (ent c us) (ent r (flipL r c zs)) (k + i) j c  := by
  rw [dot_sm, dot_sm]
  refine sm_congr c (fun l hl => ?_)
  rw [show fz c ks i l = ent c us (k + i) l from he i l hi hl]
  rfl
 rw [h1, hE.inv.ua (k + i) j (by omega) hj, hE.st.rest (k + i) (by omega) (by omega) j hj]
open Go.RowKit R
def PairG (P : Nat → Nat → Nat → Nat → Prop) (es : List Ent) (ms : List Hm) (g h : Int) (a b : Value) (want : Int) : Prop :=
 (((∀ i, i < 24 → ∀ x, ms.getD i none = some x → (x.1 : Int) ≠ g) ∨ (∀ i, i < 24 → ∀ x, ms.getD i none = some x → (x.1 : Int) ≠ h)) ∧ want = 2) ∨
 ∃ e1 e2 i r q zs j q' c ys, e1 ∈ es ∧ e2 ∈ es ∧ i < 24 ∧ ms.getD i none = some (e1.1, r, q, zs) ∧ ((e1.1 : Nat) : Int) = g ∧ j < 24 ∧ ms.getD j none = some (e2.1, q', c, ys) ∧ ((e2.1 : Nat) : Int) = h ∧
   ((¬ P r q q' c ∧ want = 3) ∨ (P r q q' c ∧ ¬ (FitsP r q zs ∧ FitsP q' c ys) ∧ want = 4) ∨ (P r q q' c ∧ (FitsP r q zs ∧ FitsP q' c ys) ∧ want = 0 ∧ a = .pointer (some ⟨e1.2.2, 0, none⟩) ∧ b = .pointer (some ⟨e2.2.2, 0, none⟩)))
theorem PairG.no {P : Nat → Nat → Nat → Nat → Prop} {es : List Ent} {ms : List Hm} {g h : Int} {a b : Value} {want : Int} (hp : PairG P es ms g h a b want) (hn : (∀ i, i < 24 → ∀ x, ms.getD i none = some x → (x.1 : Int) ≠ g) ∨ (∀ i, i < 24 → ∀ x, ms.getD i none = some x → (x.1 : Int) ≠ h)) : want = 2 := by
 rcases hp with ⟨-, rfl⟩ | ⟨e1, e2, i, r, q, zs, j, q', c, ys, m1, m2, hi, hx, hxg, hj, hy, hyh, hp⟩
 ·rfl
 ·rcases hn with hn | hn
  ·exact absurd hxg (hn i hi _ hx)
  ·exact absurd hyh (hn j hj _ hy)
theorem PairG.yes {P : Nat → Nat → Nat → Nat → Prop} {es : List Ent} {ms : List Hm} {g h : Int} {a b : Value} {want : Int} (hd : Dst ms) (hp : PairG P es ms g h a b want) {i d r q : Nat} {zs : List Int} {j d' q' c : Nat} {ys : List Int} (hi : i < 24) (hx : ms.getD i none = some (d, r, q, zs)) (hg : ((d : Nat) : Int) = g) (hj : j < 24) (hy : ms.getD j none = some (d', q', c, ys)) (hh : ((d' : Nat) : Int) = h) :
 ∃ e1 e2, e1 ∈ es ∧ e2 ∈ es ∧ e1.1 = d ∧ e2.1 = d' ∧ ((¬ P r q q' c ∧ want = 3) ∨ (P r q q' c ∧ ¬ (FitsP r q zs ∧ FitsP q' c ys) ∧ want = 4) ∨ (P r q q' c ∧ (FitsP r q zs ∧ FitsP q' c ys) ∧ want = 0 ∧ a = .pointer (some ⟨e1.2.2, 0, none⟩) ∧ b = .pointer (some ⟨e2.2.2, 0, none⟩))) := by
 rcases hp with ⟨hn, -⟩ | ⟨e1, e2, i2, r2, q2, zs2, j2, q2', c2, ys2, m1, m2, hi2, hx2, hxg2, hj2, hy2, hyh2, hp⟩
 ·rcases hn with hn | hn
  ·exact absurd hg (hn i hi _ hx)
  ·exact absurd hh (hn j hj _ hy)
 ·have e5 : i = i2 := hd i i2 _ _ hi hi2 hx hx2 (by show d = e1.1; omega)
  have e6 : j = j2 := hd j j2 _ _ hj hj2 hy hy2 (by show d' = e2.1; omega)
  subst e5; subst e6
  rw [hx] at hx2
  rw [hy] at hy2
  simp only [Option.some.injEq, Prod.mk.injEq] at hx2 hy2
  obtain ⟨rfl, rfl, rfl, rfl⟩ := hx2
  obtain ⟨rfl, rfl, rfl, rfl⟩ := hy2
  exact ⟨e1, e2, m1, m2, rfl, rfl, hp⟩
open Go.RowKit R
set_option maxRecDepth 100000 in
set_option maxHeartbeats 4000000 in
theorem pair_solve (B W T b1 b2 : Nat) (ms : List Hm) (nx : Nat) (es : List Ent) (g h : Int) (w : World) (hI : LInv B w W T b1 b2 ms nx es) :
 Calls Tryz.prog 122 #[.pointer (some ⟨W, 0, none⟩), .int .i64 g, .int .i64 h,  .int .i64 9] w fun x w' => (∃ a b want, x = .returned (.tuple #[a, b, .int .i64 want]) ∧ PairG (fun r _ q' c => c = 1 ∧ q' = r) es ms g h a b want) ∧ Below w.heap.size w w' := by
 have H := Hid.mk hI
 clear hI
 go_enter Tryz.func122, Tryz.ntmps122
 go_wp2_with fail
 refine (lfind_any B W T b1 b2 ms nx es g _ H.out).mono ?_
 rintro x w1 ⟨⟨v, rfl, hv⟩, hb1⟩
 have K1 := Hid.mk (And.intro hv hb1)
 have hw1 := hb1.size
 clear hv hb1
 obtain ⟨pv, rfl⟩ : ∃ pv, v = .pointer pv := by
  rcases K1.out.1 with ⟨rfl, -⟩ | ⟨e, -, -, rfl⟩ <;> exact ⟨_, rfl⟩
 go_wp2_with fail
 refine (lfind_any B W T b1 b2 ms nx es h _ (H.out.below K1.out.2)).mono ?_
 rintro x w2 ⟨⟨u, rfl, hu⟩, hb2⟩
 have hb02 : Below w.heap.size w w2 := K1.out.2.trans (hb2.mono hw1)
 obtain ⟨pu, rfl⟩ : ∃ pu, u = .pointer pu := by
  rcases hu with ⟨rfl, -⟩ | ⟨e, -, -, rfl⟩ <;> exact ⟨_, rfl⟩
 have K2 := Hid.mk (And.intro hu hb02)
 have hw2 := hb02.size
 clear hu hb2 hb02
 rcases K1.out.1 with ⟨hvn, hno⟩ | ⟨e1, he1, hg1, hve⟩
 ·injection hvn with hvn
  subst hvn
  have KN := Hid.mk hno
  clear hno
  go_wp2_with fail
  go_ret3
  exact ⟨⟨_, _, _, rfl, .inl ⟨.inl (FindL.none H.out KN.out), rfl⟩⟩, K2.out.2⟩
 ·injection hve with hve
  subst hve
  rcases K2.out.1 with ⟨hvn, hno⟩ | ⟨e2, he2, hg2, hve⟩
  ·injection hvn with hvn
   subst hvn
   have KN := Hid.mk hno
   clear hno
   go_wp2_with fail
   go_ret3
   exact ⟨⟨_, _, _, rfl, .inl ⟨.inr (FindL.none H.out KN.out), rfl⟩⟩, K2.out.2⟩
  ·injection hve with hve
   subst hve
   obtain ⟨i, r, q, zs, hi, hx⟩ := H.out.ent_of he1
   obtain ⟨j, q', c, ys, hj, hy⟩ := H.out.ent_of he2
   obtain ⟨-, hf1, lo1, hi1, hm1⟩ := (H.out.below K2.out.2).entry he1 hi hx rfl
   obtain ⟨-, hf2, lo2, hi2, hm2⟩ := (H.out.below K2.out.2).entry he2 hj hy rfl
   obtain ⟨gs1, hI1⟩ := hm1.isR
   obtain ⟨gs2, hI2⟩ := hm2.isR
   obtain ⟨p1, hp1⟩ : ∃ p1, p1 = e1.2.2 := ⟨_, rfl⟩
   obtain ⟨p2, hp2⟩ : ∃ p2, p2 = e2.2.2 := ⟨_, rfl⟩
   rw [← hp1] at hI1 ⊢
   rw [← hp2] at hI2 ⊢
   have HE := Hid.mk (And.intro (And.intro he1 (And.intro hg1 (And.intro hi (And.intro hx (And.intro hf1 (And.intro hI1 hp1)))))) (And.intro he2 (And.intro hg2 (And.intro hj (And.intro hy (And.intro hf2 (And.intro hI2 hp2)))))))
   obtain ⟨-, ao1, cap1, c0, c1, -⟩ := hI1.open_
   obtain ⟨-, ao2, cap2, d0, d1, -⟩ := hI2.open_
   clear he1 hg1 hi hx hf1 hI1 hp1 he2 hg2 hj hy hf2 hI2 hp2 hm1 hm2
   go_upto_region 5 with fail
   go_cut [13] from 28 to 37 (fun x wx => (∃ bb, x = .bool bb) ∧ Below w2.heap.size w2 wx)
   case first =>
    go_quiet (fail)
    all_goals
     go_wp2_with fail
     go_meet
     case rel => exact ⟨⟨_, rfl⟩, below_drewN (Below.refl _ _) _⟩
   case rest =>
    obtain ⟨⟨bb, rfl⟩, hb3⟩ := hcut
    have c0' := cell_later hb3 c0
    have d0' := cell_later hb3 d0
    have d1' := cell_later hb3 d1
    have K3 := Hid.mk hb3
    have hw3 := hb3.size
    clear hb3 c0 c1 d0 d1
    by_cases hq1 : c = 1
    case neg =>
     have HNE : Hid (¬ (c = 1 ∧ q' = r)) := Hid.mk (fun e => hq1 e.1)
     have hqb : ((c : Int) == 1) = false := beq_eq_false_iff_ne.2 (by omega)
     clear hq1
     go_wp2_with fail
     first
      | go_quiet (fail)
      | skip
     go_wp2_with fail
     go_ret3
     obtain ⟨⟨a1, a2, a3, a4, -⟩, ⟨b1, b2, b3, b4, -⟩⟩ := HE.out
     exact ⟨⟨_, _, _, rfl, .inr ⟨e1, e2, i, r, q, zs, j, q', c, ys, a1, b1, a3, a4, a2, b3, b4, b2, .inl ⟨HNE.out, rfl⟩⟩⟩, K2.out.2.trans ((below_drewN K3.out _).mono hw2)⟩
    have hqb : ((c : Int) == 1) = true := beq_iff_eq.2 (by omega)
    by_cases hq2 : q' = r
    case neg =>
     have HNE : Hid (¬ (c = 1 ∧ q' = r)) := Hid.mk (fun e => hq2 e.2)
     have hqc : ((r : Int) == (q' : Int)) = false := beq_eq_false_iff_ne.2 (by omega)
     clear hq1 hq2
     go_wp2_with fail
     first
      | go_quiet (fail)
      | skip
     go_wp2_with fail
     go_ret3
     obtain ⟨⟨a1, a2, a3, a4, -⟩, ⟨b1, b2, b3, b4, -⟩⟩ := HE.out
     exact ⟨⟨_, _, _, rfl, .inr ⟨e1, e2, i, r, q, zs, j, q', c, ys, a1, b1, a3, a4, a2, b3, b4, b2, .inl ⟨HNE.out, rfl⟩⟩⟩, K2.out.2.trans ((below_drewN K3.out _).mono hw2)⟩
    ·have HQE : Hid (c = 1 ∧ q' = r) := Hid.mk ⟨hq1, hq2⟩
     have hqc : ((r : Int) == (q' : Int)) = true := beq_iff_eq.2 (by omega)
     clear hq1 hq2
     go_wp2_with fail
     first
      | go_quiet (fail)
      | skip
     go_wp2_with fail
     refine (big_any p1 r q gs1 (fz q zs) lo1 40000000001 _ (HE.out.1.2.2.2.2.2.1.keep (KR.of_below (below_drewN K3.out _))) (by omega) HE.out.1.2.2.2.2.1.1 HE.out.1.2.2.2.2.1.2.1).mono ?_
     rintro x w5 ⟨bx, rfl, hbx, hb5⟩
     have hb25 : Below w2.heap.size w2 w5 := (below_drewN K3.out _).trans (hb5.mono (below_drewN K3.out _).size)
     have K5 := Hid.mk (And.intro hb25 (And.intro (show bx = true ↔ ¬ FitsP r q zs from by rw [← big_fits]; exact hbx) (K2.out.2.trans (hb25.mono hw2))))
     have hw5 := hb25.size
     clear hbx hb5 hb25
     go_wp2_with fail
     refine (big_any p2 q' c gs2 (fz c ys) lo2 40000000001 _ (HE.out.2.2.2.2.2.2.1.keep (KR.of_below K5.out.1)) (by omega) HE.out.2.2.2.2.2.1.1 HE.out.2.2.2.2.2.1.2.1).mono ?_
     rintro x w6 ⟨bq, rfl, hbq, hb6⟩
     have hb26 : Below w2.heap.size w2 w6 := K5.out.1.trans (hb6.mono hw5)
     have K6 := Hid.mk (And.intro (show bq = true ↔ ¬ FitsP q' c ys from by rw [← big_fits]; exact hbq) (K2.out.2.trans (hb26.mono hw2)))
     clear hbq hb6 hb26
     cases bx
     ·cases bq
      ·have HFF : Hid (FitsP r q zs ∧ FitsP q' c ys) := Hid.mk ⟨Classical.byContradiction fun h => (by have := K5.out.2.1.2 h; cases this), Classical.byContradiction fun h => (by have := K6.out.1.2 h; cases this)⟩
       go_wp2_with fail
       go_ret3
       obtain ⟨⟨a1, a2, a3, a4, -, -, a7⟩, ⟨b1, b2, b3, b4, -, -, b7⟩⟩ := HE.out
       exact ⟨⟨_, _, _, rfl, .inr ⟨e1, e2, i, r, q, zs, j, q', c, ys, a1, b1, a3, a4, a2, b3, b4, b2, .inr (.inr ⟨HQE.out, HFF.out, rfl, by rw [← a7]; rfl, by rw [← b7]; rfl⟩)⟩⟩, K6.out.2⟩
      ·have HNF : Hid (¬ (FitsP r q zs ∧ FitsP q' c ys)) := Hid.mk (fun h => K6.out.1.1 rfl h.2)
       go_wp2_with fail
       go_ret3
       obtain ⟨⟨a1, a2, a3, a4, -⟩, ⟨b1, b2, b3, b4, -⟩⟩ := HE.out
       exact ⟨⟨_, _, _, rfl, .inr ⟨e1, e2, i, r, q, zs, j, q', c, ys, a1, b1, a3, a4, a2, b3, b4, b2, .inr (.inl ⟨HQE.out, HNF.out, rfl⟩)⟩⟩, K6.out.2⟩
     ·have HNF : Hid (¬ (FitsP r q zs ∧ FitsP q' c ys)) := Hid.mk (fun h => K5.out.2.1.1 rfl h.1)
      go_wp2_with fail
      go_ret3
      obtain ⟨⟨a1, a2, a3, a4, -⟩, ⟨b1, b2, b3, b4, -⟩⟩ := HE.out
      exact ⟨⟨_, _, _, rfl, .inr ⟨e1, e2, i, r, q, zs, j, q', c, ys, a1, b1, a3, a4, a2, b3, b4, b2, .inr (.inl ⟨HQE.out, HNF.out, rfl⟩)⟩⟩, K6.out.2⟩
end Go.Proofs.YtfjbijpagaipnaaGreatDoor
