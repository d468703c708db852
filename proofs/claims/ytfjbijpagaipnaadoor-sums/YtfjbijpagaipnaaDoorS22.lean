import Derived.Test.YtfjbijpagaipnaaDoorS09
import Derived.Test.YtfjbijpagaipnaaDoorS21
import Derived.Test.YtfjbijpagaipnaaDoorS20
import Derived.Test.YtfjbijpagaipnaaDoorS19
import Derived.Test.YtfjbijpagaipnaaDoorS18
import Derived.Deep.RegionHeld3
import Derived.Test.YtfjbijpagaipnaaDoorS17
import Derived.Deep.CutRange
import Derived.BigQuiet
import Derived.StillTailTactics
namespace Go.Proofs.YtfjbijpagaipnaaDoor
open Go.RowKit
def Bx (w : World) (pb : Nat) : Prop := w.heap[pb]? = some (.cells #[.int .i64 0, .int .i64 0, .slice none 0 0] 63 (0, 0))
theorem Bx.new (w : World) : Bx (w.alloc (.cells #[.int .i64 0, .int .i64 0, .slice none 0 0] 63)) w.heap.size := heap_alloc_new w _
theorem Bx.drew {w : World} {pb : Nat} (h : Bx w pb) : Bx w.drew pb := h
theorem Bx.lt {w : World} {pb : Nat} (h : Bx w pb) : pb < w.heap.size := (Array.getElem?_eq_some_iff.1 h).1
theorem Bx.below {w w' : World} {pb n : Nat} (h : Bx w pb) (hb : Below n w w') (hn : pb < n) : Bx w' pb := (hb.block pb hn).trans h
theorem Bx.cells {w : World} {pb : Nat} (h : Bx w pb) : w.cell? ⟨pb, 0, none⟩ = some (.int .i64 0) ∧ w.cell? ⟨pb, 1, none⟩ = some (.int .i64 0) ∧ w.cell? ⟨pb, 2, none⟩ = some (.slice none 0 0) ∧ (∀ o, w.frozen? ⟨pb, o, none⟩ = false) := by
 unfold Bx at h
 refine ⟨?_, ?_, ?_, fun o => ?_⟩ <;> simp [World.cell?, World.frozen?, h]
theorem Bx.trio {w : World} {pb : Nat} (h : Bx w pb) : Trio w pb (.int .i64 0) (.int .i64 0) (.slice none 0 0) := ⟨h.cells.1, h.cells.2.1, h.cells.2.2.1⟩
theorem Bx.keep {w : World} {pb : Nat} (h : Bx w pb) (v0 v1 v2 : Value) : KT w (((w.setCell ⟨pb, 0, none⟩ v0).setCell ⟨pb, 1, none⟩ v1).setCell ⟨pb, 2, none⟩ v2) := by
 have hT : Ty w pb 63 := ⟨_, _, h⟩
 exact KT.setCell (KT.setCell (KT.setCell (KT.refl _) hT (by decide) (by decide) v0) (hT.setCell ⟨pb, 0, none⟩ v0) (by decide) (by decide) v1) ((hT.setCell ⟨pb, 0, none⟩ v0).setCell ⟨pb, 1, none⟩ v1) (by decide) (by decide) v2
theorem IsF.below {w w' : World} {v : Value} {r c k : Nat} {hs us ws : List Int} {L : Nat} (h : IsF w v r c k hs us ws L) (hb : Below w.heap.size w w') : IsF w' v r c k hs us ws L := by
 obtain ⟨s1, s2, s3, e, m1, m2, m3⟩ := h
 exact ⟨s1, s2, s3, e, m1.below hb, m2.below hb, m3.below hb⟩
theorem lx4 {k : Nat} (h : k ≤ 4) : 2 * lx 4000 k + 20 ≤ 200000000 := by
 obtain rfl | rfl | rfl | rfl | rfl : k = 0 ∨ k = 1 ∨ k = 2 ∨ k = 3 ∨ k = 4 := by omega
 all_goals decide
def CoefIn (X : World) (r : Nat) (xs : List Int) (L : Nat) (S : Prop) (p y : Value) (wx : World) : Prop := ∃ (pb : Nat) (a1 a2 : Int) (ox : Option Addr) (mx px : Nat) (ok : Bool), p = .pointer (some ⟨pb, 0, none⟩) ∧ y = .bool ok ∧ X.heap.size ≤ pb ∧ Trio wx pb (.int .i64 a1) (.int .i64 a2) (.slice ox mx px) ∧ (ok = true → IsM wx (.agg #[.int .i64 a1, .int .i64 a2, .slice ox mx px]) 1 r xs L) ∧ (ok = true ↔ S) ∧ Below X.heap.size X wx
def MemRel (ms : List Hm) (nx : Nat) (g h : Int) (y : Bool) (k e : Int) (ms' : List Hm) (nx' : Nat) : Prop :=
 (((∀ i, i < 24 → ∀ x, ms.getD i none = some x → (x.1 : Int) ≠ g) ∨ (∀ i, i < 24 → ∀ x, ms.getD i none = some x → (x.1 : Int) ≠ h)) ∧ y = false ∧ k = -1 ∧ e = 2 ∧ ms' = ms ∧ nx' = nx) ∨
 ∃ i hd r q zs j hd' r' c ys, i < 24 ∧ ms.getD i none = some (hd, r, q, zs) ∧ ((hd : Nat) : Int) = g ∧ j < 24 ∧ ms.getD j none = some (hd', r', c, ys) ∧ ((hd' : Nat) : Int) = h ∧
   ((¬ (r' = 1 ∧ c = q) ∧ y = false ∧ k = -1 ∧ e = 3 ∧ ms' = ms ∧ nx' = nx) ∨ ((r' = 1 ∧ c = q) ∧ ¬ (FitsP r q zs ∧ FitsP r' c ys) ∧ y = false ∧ k = -1 ∧ e = 4 ∧ ms' = ms ∧ nx' = nx) ∨
    ((r' = 1 ∧ c = q) ∧ (FitsP r q zs ∧ FitsP r' c ys) ∧ (¬ Sp (ent q zs) r q (ent q ys 0) ∧ HasF (ent q zs) r q) ∧ y = false ∧ k = -1 ∧ e = 0 ∧ ms' = ms ∧ nx' = nx) ∨
    ((r' = 1 ∧ c = q) ∧ (FitsP r q zs ∧ FitsP r' c ys) ∧ (Sp (ent q zs) r q (ent q ys 0) ∧ HasF (ent q zs) r q) ∧ (∀ i, i < 24 → ms.getD i none ≠ none) ∧ y = false ∧ k = -1 ∧ e = 5 ∧ ms' = ms ∧ nx' = nx) ∨
    ((r' = 1 ∧ c = q) ∧ (FitsP r q zs ∧ FitsP r' c ys) ∧ (Sp (ent q zs) r q (ent q ys 0) ∧ HasF (ent q zs) r q) ∧ y = true ∧ k = (nx : Int) ∧ e = 0 ∧ ∃ n xs, MemIs r q zs ys xs ∧ FreeAt ms n ∧ ms' = ms.set n (some (nx, 1, r, xs)) ∧ nx' = nx + 1))
set_option maxRecDepth 100000 in
set_option maxHeartbeats 4000000 in
theorem member_held (b : Nat) (g h : Int) (ms : List Hm) (nx : Nat) (w : World) (hst : Held w b ms nx) (hnx : nx < 1000000) :
 Calls Tryd.prog 27 #[.pointer (some ⟨b, 0, none⟩), .int .i64 g, .int .i64 h] w fun x w' => ∃ y k e ms' nx', x = .returned (.tuple #[.bool y, .int .i64 k, .int .i64 e]) ∧ MemRel ms nx g h y k e ms' nx' ∧ Held w' b ms' nx' ∧ Fr b w w' := by
 have hm24 := hst.1
 have H := Hid.mk hst
 clear hst
 go_enter Tryd.func27, Tryd.ntmps27
 go_wp2_with fail
 refine (find_held b g ms nx _ H.out).mono ?_
 rintro e w1 ⟨⟨r, q, ao, n, cap, ok, rfl, hf⟩, hb1⟩
 have K1 := Hid.mk (And.intro hf hb1)
 have hw1 := hb1.size
 clear hf hb1
 go_wp2_with fail
 have hbA : Below w.heap.size w (w1.alloc (.cells #[.int .i64 r, .int .i64 q, .slice ao n cap] 63)) := K1.out.2.alloc hw1 _
 refine (find_held b h ms nx _ (H.out.below hbA)).mono ?_
 rintro e w2 ⟨⟨r', c, bo, n', cap', ok', rfl, hf2⟩, hb2⟩
 have hT1 : Trio (w1.alloc (.cells #[.int .i64 r, .int .i64 q, .slice ao n cap] 63)) w1.heap.size (.int .i64 r) (.int .i64 q) (.slice ao n cap) := ⟨new_cell _ _ _ _ _ rfl rfl, new_cell _ _ _ _ _ rfl rfl, new_cell _ _ _ _ _ rfl rfl⟩
 have hb22 := (Below.refl w2.heap.size w2).alloc (Nat.le_refl _) (.cells #[.int .i64 r', .int .i64 c, .slice bo n' cap'] 63)
 have hT2 := (hT1.later hb2).later hb22
 have hT3 : Trio (w2.alloc (.cells #[.int .i64 r', .int .i64 c, .slice bo n' cap'] 63)) w2.heap.size (.int .i64 r') (.int .i64 c) (.slice bo n' cap') := ⟨new_cell _ _ _ _ _ rfl rfl, new_cell _ _ _ _ _ rfl rfl, new_cell _ _ _ _ _ rfl rfl⟩
 have hbB : Below w.heap.size w w2 := hbA.trans (hb2.mono hbA.size)
 have hf1' := ((K1.out.1.below ((Below.refl _ _).alloc (Nat.le_refl _) (.cells #[.int .i64 r, .int .i64 q, .slice ao n cap] 63))).below hb2).below hb22
 have hf2' := hf2.below hb22
 have hbC : Below w.heap.size w (w2.alloc (.cells #[.int .i64 r', .int .i64 c, .slice bo n' cap'] 63)) := hbB.alloc hbB.size _
 have hlt : w1.heap.size < w2.heap.size := by have := hb2.size; simp at this; omega
 have K2 := Hid.mk (And.intro hf1' (And.intro hf2' (And.intro hbC (And.intro hT2 hT3))))
 clear hf2 hb2 hT1 hb22 hT2 hT3 hbB hf1' hf2' hbC hbA
 obtain ⟨X, hX⟩ : ∃ X, X = w2.alloc (.cells #[.int .i64 r', .int .i64 c, .slice bo n' cap'] 63) := ⟨_, rfl⟩
 have HX := Hid.mk hX
 rw [← hX] at K2
 clear hX
 have hsX : X.heap.size = w2.heap.size + 1 := by rw [HX.out]; simp
 rcases id K2.out.1 with ⟨rfl, i, hd, zs, hi, hgi, hgh, hM⟩ | ⟨rfl, hno⟩
 ·rcases id K2.out.2.1 with ⟨rfl, i', hd', ys, hi', hgi', hgh', hM'⟩ | ⟨rfl, hno⟩
  ·have HF := Hid.mk (And.intro (And.intro hi (And.intro hgi (And.intro hgh hM))) (And.intro hi' (And.intro hgi' (And.intro hgh' hM'))))
   have HC := Hid.mk (show ∀ w', Below X.heap.size X w' → w'.cell? ⟨w1.heap.size, 0, none⟩ = some (.int .i64 r) ∧ w'.cell? ⟨w1.heap.size, 1, none⟩ = some (.int .i64 q) ∧ w'.cell? ⟨w1.heap.size, 2, none⟩ = some (.slice ao n cap) ∧ w'.cell? ⟨w2.heap.size, 0, none⟩ = some (.int .i64 r') ∧ w'.cell? ⟨w2.heap.size, 1, none⟩ = some (.int .i64 c) ∧ w'.cell? ⟨w2.heap.size, 2, none⟩ = some (.slice bo n' cap') from
    fun w' hb => ⟨(K2.out.2.2.2.1.later hb).1, (K2.out.2.2.2.1.later hb).2.1, (K2.out.2.2.2.1.later hb).2.2, (K2.out.2.2.2.2.later hb).1, (K2.out.2.2.2.2.later hb).2.1, (K2.out.2.2.2.2.later hb).2.2⟩)
   clear hi hgi hgh hM hi' hgi' hgh' hM'
   go_upto_region 5 with fail
   rw [← HX.out]
   obtain ⟨iqr, hiqr⟩ : ∃ iqr, iqr = decide (r' = 1 ∧ c = q) := ⟨_, rfl⟩
   have HQ := Hid.mk hiqr
   clear hiqr
   go_cut [42] from 33 to 42 (fun x wx => x = .bool (!iqr) ∧ Below X.heap.size X wx)
   case first =>
    by_cases hr1 : (r' : Int) = 1
    ·have hr2 : ((r' : Int) != 1) = false := by simp [hr1]
     have HR := Hid.mk hr1
     clear hr1
     go_region_held3 (fun w' => w'.cell? ⟨w1.heap.size, 0, none⟩ = some (.int .i64 r) ∧ w'.cell? ⟨w1.heap.size, 1, none⟩ = some (.int .i64 q) ∧ w'.cell? ⟨w1.heap.size, 2, none⟩ = some (.slice ao n cap) ∧ w'.cell? ⟨w2.heap.size, 0, none⟩ = some (.int .i64 r') ∧ w'.cell? ⟨w2.heap.size, 1, none⟩ = some (.int .i64 c) ∧ w'.cell? ⟨w2.heap.size, 2, none⟩ = some (.slice bo n' cap'))
      (exact HC.out _ (by first | exact (Below.refl _ _).drew | exact ((Below.refl _ _).alloc (Nat.le_refl _) _).drew | exact (((Below.refl _ _).alloc (Nat.le_refl _) _).alloc (by simp) _).drew | exact ((((Below.refl _ _).alloc (Nat.le_refl _) _).alloc (by simp) _).alloc (by simp <;> omega) _).drew))
      (first
        | (go_at_call 42; refine (cols_raw _ _ _ _ _ _).mono ?_; rintro e w' ⟨rfl, rfl⟩)
        | (go_at_call 43; refine (rows_raw _ _ _ _ _ _).mono ?_; rintro e w' ⟨rfl, rfl⟩))
     all_goals
      go_wp2_with fail
      go_meet
      case rel =>
       refine ⟨?_, ((((Below.refl _ _).alloc (Nat.le_refl _) _).alloc (by simp) _).alloc (by simp <;> omega) _).drew⟩
       rw [HQ.out]
       have := HR.out
       by_cases h : c = q
       ·rw [decide_eq_true (And.intro (by omega) h), h]; simp
       ·rw [decide_eq_false (fun e => h e.2)]; simp; omega
    ·have hr2 : ((r' : Int) != 1) = true := by simp [hr1]
     have HR := Hid.mk hr1
     clear hr1
     obtain ⟨a0, a1, a2, a3, a4, a5⟩ := HC.out X (Below.refl _ _)
     go_region_with (go_at_call 43; refine (rows_raw _ _ _ _ _ _).mono ?_; rintro e w' ⟨rfl, rfl⟩)
     all_goals
      go_wp2_with fail
      go_meet
      case rel =>
       exact ⟨by rw [HQ.out, decide_eq_false (fun h => HR.out (by omega))]; rfl, ((Below.refl _ _).alloc (Nat.le_refl _) _).drew⟩
   case rest =>
    obtain ⟨rfl, hbx⟩ := hcut
    have hbw : Below w.heap.size w wc := K2.out.2.2.1.trans (hbx.mono K2.out.2.2.1.size)
    obtain ⟨a0, a1, a2, a3, a4, a5⟩ := HC.out wc hbx
    have K3 := Hid.mk (And.intro hbx hbw)
    have hwc := hbx.size
    clear hbx hbw
    cases iqr
    ·have HNE : Hid (¬ (r' = 1 ∧ c = q)) := Hid.mk (fun e => by have := HQ.out; rw [decide_eq_true e] at this; cases this)
     go_wp2_with fail
     go_ret3
     exact ⟨_, _, _, ms, nx, rfl, .inr ⟨i, hd, r, q, zs, i', hd', r', c, ys, HF.out.1.1, HF.out.1.2.1, HF.out.1.2.2.1, HF.out.2.1, HF.out.2.2.1, HF.out.2.2.2.1, .inl ⟨HNE.out, rfl, rfl, rfl, rfl, rfl⟩⟩, H.out.below K3.out.2, Fr.of_below K3.out.2⟩
    ·have hqr : r' = 1 ∧ c = q := of_decide_eq_true HQ.out.symm
     have HQR := Hid.mk hqr
     clear hqr
     go_wp2_with fail
     refine (tooBig_any _ r q zs 200000000 _ (HF.out.1.2.2.2.below K3.out.1) (by omega)).mono ?_
     rintro e w3 ⟨fb, rfl, hfo, hb3⟩
     have hbX3 : Below X.heap.size X w3 := K3.out.1.trans (hb3.mono hwc)
     clear a0 a1 a2 a3 a4 a5
     obtain ⟨a0, a1, a2, a3, a4, a5⟩ := HC.out w3 hbX3
     have hw3 := hbX3.size
     have K4 := Hid.mk (And.intro hbX3 (And.intro (K2.out.2.2.1.trans (hbX3.mono K2.out.2.2.1.size)) hfo))
     clear hb3 hbX3 hfo
     cases fb
     ·have HNF : Hid (¬ FitsP r q zs) := Hid.mk (fun h => by have := K4.out.2.2.2 h; cases this)
      go_wp2_with fail
      go_ret3
      exact ⟨_, _, _, ms, nx, rfl, .inr ⟨i, hd, r, q, zs, i', hd', r', c, ys, HF.out.1.1, HF.out.1.2.1, HF.out.1.2.2.1, HF.out.2.1, HF.out.2.2.1, HF.out.2.2.2.1, .inr (.inl ⟨HQR.out, fun h => HNF.out h.1, rfl, rfl, rfl, rfl, rfl⟩)⟩, H.out.below K4.out.2.1, Fr.of_below K4.out.2.1⟩
     ·go_wp2_with fail
      refine (tooBig_any _ r' c ys 200000000 _ (HF.out.2.2.2.2.below K4.out.1) (by omega)).mono ?_
      rintro e w4 ⟨fb, rfl, hfo, hb4⟩
      have hbX4 : Below X.heap.size X w4 := K4.out.1.trans (hb4.mono hw3)
      clear a0 a1 a2 a3 a4 a5
      obtain ⟨a0, a1, a2, a3, a4, a5⟩ := HC.out w4 hbX4
      have hw4 := hbX4.size
      have K5 := Hid.mk (And.intro hbX4 (And.intro (K2.out.2.2.1.trans (hbX4.mono K2.out.2.2.1.size)) hfo))
      clear hb4 hbX4 hfo
      cases fb
      ·have HNF : Hid (¬ FitsP r' c ys) := Hid.mk (fun h => by have := K5.out.2.2.2 h; cases this)
       go_wp2_with fail
       go_ret3
       exact ⟨_, _, _, ms, nx, rfl, .inr ⟨i, hd, r, q, zs, i', hd', r', c, ys, HF.out.1.1, HF.out.1.2.1, HF.out.1.2.2.1, HF.out.2.1, HF.out.2.2.1, HF.out.2.2.2.1, .inr (.inl ⟨HQR.out, fun h => HNF.out h.2, rfl, rfl, rfl, rfl, rfl⟩)⟩, H.out.below K5.out.2.1, Fr.of_below K5.out.2.1⟩
      ·have HFF : Hid (FitsP r q zs ∧ FitsP r' c ys) := Hid.mk ⟨K4.out.2.2.1 rfl, K5.out.2.2.1 rfl⟩
       have hMl := (HF.out.1.2.2.2.below K5.out.1).tight HFF.out.1
       have hMr := (HF.out.2.2.2.2.below K5.out.1).tight HFF.out.2
       have HMM := Hid.mk (And.intro hMl hMr)
       clear hMl hMr
       go_wp2_with fail
       go_cut [13, 14] from 49 to 55 (fun p y wx => ∃ k pc hs us ws, EchIs r q zs k pc hs us ws ∧ CoefIn w4 r (prodL 1 r r (shL (ent q hs) pc (ent q ys 0) r k) us) 200000000 (∀ j, j < q → exV (ent q hs) pc (ent q ys 0) k j = 0) p y wx)
       case first =>
        have HM2 : Hid (IsM w4 (.agg #[.int .i64 r', .int .i64 c, .slice bo n' cap']) 1 q ys 4000) := Hid.mk (by
         have h1 := HMM.out.2
         rw [HQR.out.1, HQR.out.2] at h1 ⊢
         exact h1.mono (by omega))
        have HC4 : Hid (∀ w', Below w4.heap.size w4 w' → w'.cell? ⟨w1.heap.size, 0, none⟩ = some (.int .i64 r) ∧ w'.cell? ⟨w1.heap.size, 1, none⟩ = some (.int .i64 q) ∧ w'.cell? ⟨w1.heap.size, 2, none⟩ = some (.slice ao n cap) ∧ w'.cell? ⟨w2.heap.size, 0, none⟩ = some (.int .i64 r') ∧ w'.cell? ⟨w2.heap.size, 1, none⟩ = some (.int .i64 c) ∧ w'.cell? ⟨w2.heap.size, 2, none⟩ = some (.slice bo n' cap')) := Hid.mk (fun w' hb => HC.out w' (K5.out.1.trans (hb.mono hw4)))
        have hr4 : r ≤ 4 := HFF.out.1.1
        clear a0 a1 a2 a3 a4 a5
        go_region_held3 (fun w' => w'.cell? ⟨w1.heap.size, 0, none⟩ = some (.int .i64 r) ∧ w'.cell? ⟨w1.heap.size, 1, none⟩ = some (.int .i64 q) ∧ w'.cell? ⟨w1.heap.size, 2, none⟩ = some (.slice ao n cap) ∧ w'.cell? ⟨w2.heap.size, 0, none⟩ = some (.int .i64 r') ∧ w'.cell? ⟨w2.heap.size, 1, none⟩ = some (.int .i64 c) ∧ w'.cell? ⟨w2.heap.size, 2, none⟩ = some (.slice bo n' cap'))
         (exact HC4.out _ (by first | exact hbW6 | exact hbW6.alloc hbW6.size _ | exact hbW5 | exact hbW5.alloc hbW5.size _ | exact (Below.refl _ _).drew | exact ((Below.refl _ _).alloc (Nat.le_refl _) _).drew | exact ((hbW6.setCell (Nat.le_refl _) _).setCell (Nat.le_refl _) _).setCell (Nat.le_refl _) _ | exact ((hbW6.setCell hw5s _).setCell hw5s _).setCell hw5s _))
         (first
           | (go_at_call 35; refine (gech_fit _ r q zs 2 _ (HMM.out.1.below (Below.refl _ _).drew) HFF.out.1.1 HFF.out.1.2.1 HFF.out.1.ent (by omega)).mono ?_; rintro e9 w5 ⟨v5, k, pc, hs, us, ws, rfl, hIF, hk, hE, hEB, hb5, hrun⟩; obtain ⟨sH, sU, sW, rfl, m3, m4, m5⟩ := id hIF; have HE1 := Hid.mk (show EchIs r q zs k pc hs us ws from ⟨m3.len, m4.len, m5.len, hk, hE, hEB, hrun⟩); have hkr := hk.le; obtain ⟨oH, cH, rfl⟩ := m3.slice; obtain ⟨oU, cU, rfl⟩ := m4.slice; obtain ⟨oW, cW, rfl⟩ := m5.slice; clear m3 m4 m5 hk hE hEB hrun; have hbW5 : Below w4.heap.size w4 w5 := ((Below.refl _ _).drew).trans hb5; clear hb5)
           | (go_at_call 35; refine (gech_fit _ r q zs 2 _ (HMM.out.1.below ((Below.refl _ _).alloc (Nat.le_refl _) _).drew) HFF.out.1.1 HFF.out.1.2.1 HFF.out.1.ent (by omega)).mono ?_; rintro e9 w5 ⟨v5, k, pc, hs, us, ws, rfl, hIF, hk, hE, hEB, hb5, hrun⟩; obtain ⟨sH, sU, sW, rfl, m3, m4, m5⟩ := id hIF; have HE1 := Hid.mk (show EchIs r q zs k pc hs us ws from ⟨m3.len, m4.len, m5.len, hk, hE, hEB, hrun⟩); have hkr := hk.le; obtain ⟨oH, cH, rfl⟩ := m3.slice; obtain ⟨oU, cU, rfl⟩ := m4.slice; obtain ⟨oW, cW, rfl⟩ := m5.slice; clear m3 m4 m5 hk hE hEB hrun; have hbW5 : Below w4.heap.size w4 w5 := (((Below.refl _ _).alloc (Nat.le_refl _) _).drew).trans (hb5.mono (by simp)); have hD5 : Bx w5 w4.heap.size := Bx.below (Bx.drew (Bx.new w4)) hb5 (by simp); clear hb5)
           | (go_at_call 50; refine (express_any _ _ r q k pc hs us ws ys 4000 _ hIF (HM2.out.below hbW5) HE1.out.st (by omega) (by omega)).mono ?_; rintro e9 w6 ⟨z1, z2, ox, mx, px, ok, rfl, hx6, hiff, hb6⟩; have hbW6 : Below w4.heap.size w4 w6 := hbW5.trans (hb6.mono hbW5.size); have hD6 : Bx w6 w4.heap.size := hD5.below hb6 hD5.lt; have hD6c := hD6.cells; clear hb6)
           | (go_at_call 50; refine (express_any _ _ r q k pc hs us ws ys 4000 _ hIF (HM2.out.below hbW5) HE1.out.st (by omega) (by omega)).mono ?_; rintro e9 w6 ⟨z1, z2, ox, mx, px, ok, rfl, hx6, hiff, hb6⟩; have hbW6 : Below w4.heap.size w4 w6 := hbW5.trans (hb6.mono hbW5.size); clear hb6)
           | (go_at_call 50; refine (express_any _ _ r q k pc hs us ws ys 4000 _ (IsF.below hIF ((Below.refl w5.heap.size w5).alloc (Nat.le_refl _) _)) ((HM2.out.below hbW5).below ((Below.refl w5.heap.size w5).alloc (Nat.le_refl _) _)) HE1.out.st (by omega) (by omega)).mono ?_; rintro e9 w6 ⟨z1, z2, ox, mx, px, ok, rfl, hx6, hiff, hb6⟩; have hbW6 : Below w4.heap.size w4 w6 := hbW5.trans ((((Below.refl w5.heap.size w5).alloc (Nat.le_refl _) _).trans (hb6.mono (by simp))).mono hbW5.size); have hw5s := hbW5.size; have hD6 : Bx w6 w5.heap.size := Bx.below (Bx.new w5) hb6 (by simp); have hD6c := hD6.cells; clear hb6))
        all_goals
         go_wp2_with fail
         go_meet
         case rel =>
          have hL := lx4 (show k ≤ 4 by omega)
          first
           | exact ⟨k, pc, hs, us, ws, HE1.out, _, _, _, _, _, _, ok, rfl, rfl, hbW6.size, ⟨new_cell _ _ _ _ _ rfl rfl, new_cell _ _ _ _ _ rfl rfl, new_cell _ _ _ _ _ rfl rfl⟩, fun h => ((hx6 h).mono hL).below ((Below.refl _ _).alloc (Nat.le_refl _) _), hiff, hbW6.alloc hbW6.size _⟩
           | exact ⟨k, pc, hs, us, ws, HE1.out, _, _, _, _, _, _, ok, rfl, rfl, Nat.le_refl _, set3_trio hD6.trio _ _ _, fun h => ((hx6 h).mono hL).keepT (hD6.keep _ _ _), hiff, ((hbW6.setCell (Nat.le_refl _) _).setCell (Nat.le_refl _) _).setCell (Nat.le_refl _) _⟩
           | exact ⟨k, pc, hs, us, ws, HE1.out, _, _, _, _, _, _, ok, rfl, rfl, hw5s, set3_trio hD6.trio _ _ _, fun h => ((hx6 h).mono hL).keepT (hD6.keep _ _ _), hiff, ((hbW6.setCell hw5s _).setCell hw5s _).setCell hw5s _⟩
       case rest =>
        rename World => w6
        obtain ⟨k, pc, hs, us, ws, hEI, pb, z1, z2, ox, mx, px, ok, rfl, rfl, hpb, ⟨y0, y1, y2⟩, hM6, hiff, hb6⟩ := hcut
        have hb26 : Below w.heap.size w w6 := K5.out.2.1.trans (hb6.mono K5.out.2.1.size)
        have K6 := Hid.mk (And.intro hEI (And.intro hM6 (And.intro (hiff.trans (mem_iff hEI.st hEI.inv)) hb26)))
        have hw6 := hb6.size
        clear hEI hM6 hiff hb6 hb26 a0 a1 a2 a3 a4 a5
        cases ok
        ·have HNS : Hid (¬ Sp (ent q zs) r q (ent q ys 0)) := Hid.mk (fun h => by have := K6.out.2.2.1.2 h; cases this)
         go_wp2_with fail
         go_ret3
         exact ⟨_, _, _, ms, nx, rfl, .inr ⟨i, hd, r, q, zs, i', hd', r', c, ys, HF.out.1.1, HF.out.1.2.1, HF.out.1.2.2.1, HF.out.2.1, HF.out.2.2.1, HF.out.2.2.2.1, .inr (.inr (.inl ⟨HQR.out, HFF.out, ⟨HNS.out, _, _, _, _, _, K6.out.1.st, K6.out.1.inv⟩, rfl, rfl, rfl, rfl, rfl⟩))⟩, H.out.below K6.out.2.2.2, Fr.of_below K6.out.2.2.2⟩
        ·have HSP : Hid (Sp (ent q zs) r q (ent q ys 0)) := Hid.mk (K6.out.2.2.1.1 rfl)
         have hM7 := K6.out.2.1 rfl
         obtain ⟨-, -, sl7, e7, -⟩ := id hM7
         simp only [Value.agg.injEq, Array.mk.injEq, List.cons.injEq, Value.int.injEq, true_and, and_true] at e7
         obtain ⟨rfl, rfl, rfl⟩ := e7
         have HM7 := Hid.mk hM7
         clear hM7
         go_wp2_with fail
         refine (room_held b ms nx _ (H.out.below K6.out.2.2.2)).mono ?_
         rintro e w7 ⟨rfl, rfl⟩
         obtain ⟨rm, hrm⟩ : ∃ rm, rm = ms.countP Option.isNone := ⟨_, rfl⟩
         have HRM := Hid.mk hrm
         rw [← hrm]
         clear hrm
         by_cases h0 : rm = 0
         ·subst h0
          go_wp2_with fail
          go_ret3
          exact ⟨_, _, _, ms, nx, rfl, .inr ⟨i, hd, r, q, zs, i', hd', r', c, ys, HF.out.1.1, HF.out.1.2.1, HF.out.1.2.2.1, HF.out.2.1, HF.out.2.2.1, HF.out.2.2.2.1, .inr (.inr (.inr (.inl ⟨HQR.out, HFF.out, ⟨HSP.out, _, _, _, _, _, K6.out.1.st, K6.out.1.inv⟩, full_of_room hm24 HRM.out.symm, rfl, rfl, rfl, rfl, rfl⟩)))⟩, H.out.below K6.out.2.2.2, Fr.of_below K6.out.2.2.2⟩
         ·obtain ⟨nf, hnf⟩ := free_of_room hm24 (show 0 < ms.countP Option.isNone from by have := HRM.out; omega)
          have HNF := Hid.mk hnf
          have h0' : ¬ ((rm : Int) < 1) := by omega
          clear hnf h0
          go_wp2_with fail
          refine (keep_held b 1 r ox mx px _ ms nx nf _ (H.out.below K6.out.2.2.2) HM7.out HNF.out hnx).mono ?_
          rintro e w8 ⟨rfl, hH8, hF8⟩
          have K7 := Hid.mk (And.intro hH8 ((Fr.of_below K6.out.2.2.2).trans hF8))
          clear hH8 hF8
          go_wp2_with fail
          go_ret3
          exact ⟨_, _, _, _, nx + 1, rfl, .inr ⟨i, hd, r, q, zs, i', hd', r', c, ys, HF.out.1.1, HF.out.1.2.1, HF.out.1.2.2.1, HF.out.2.1, HF.out.2.2.1, HF.out.2.2.2.1, .inr (.inr (.inr (.inr ⟨HQR.out, HFF.out, ⟨HSP.out, _, _, _, _, _, K6.out.1.st, K6.out.1.inv⟩, rfl, rfl, rfl, nf, _, ⟨k, pc, hs, us, ws, K6.out.1, rfl⟩, HNF.out, rfl, rfl⟩)))⟩, K7.out.1, K7.out.2⟩
  ·have KN := Hid.mk hno
   clear hno
   go_wp2_with fail
   go_ret3
   rw [← HX.out]
   exact ⟨_, _, _, ms, nx, rfl, .inl ⟨.inr KN.out, rfl, rfl, rfl, rfl, rfl⟩, H.out.below K2.out.2.2.1, Fr.of_below K2.out.2.2.1⟩
 ·have KN := Hid.mk hno
  clear hno
  go_wp2_with fail
  go_ret3
  rw [← HX.out]
  exact ⟨_, _, _, ms, nx, rfl, .inl ⟨.inl KN.out, rfl, rfl, rfl, rfl, rfl⟩, H.out.below K2.out.2.2.1, Fr.of_below K2.out.2.2.1⟩
open Go.RowKit
open Go.RowKit R
open Go.RowKit R
open Go.RowKit R
open Go.RowKit R
open Go.RowKit R
open Go.RowKit R
open Go.RowKit R
end Go.Proofs.YtfjbijpagaipnaaDoor
namespace Go.Proofs.YtfjbijpagaipnaaDoor.R
open Go.RowKit
end Go.Proofs.YtfjbijpagaipnaaDoor.R
namespace Go.Proofs.YtfjbijpagaipnaaDoor
open Go.RowKit R
open Go.RowKit R
end Go.Proofs.YtfjbijpagaipnaaDoor
namespace Go.Proofs.YtfjbijpagaipnaaDoor.R
theorem chosen_in {k n : Nat} {R : List Nat} (hR : R ∈ chosenL k n) (h : ∀ x ∈ R, x < k) : R = List.range k := by
 have : R ∈ chosenL k k := by
  cases k with
  | zero => exact hR
  | succ k =>
    obtain ⟨Q, last, e, hQ, hl1, hl2⟩ := chosenL_last hR
    have : last = k := by have := h last (by rw [e]; simp); omega
    subst this
    rw [e]
    exact chosenL_snoc hQ (by omega)
 rw [chosenL_self, List.mem_singleton] at this
 exact this
def tr (X : Nat → Nat → Int) : Nat → Nat → Int := fun i j => X j i
theorem mv_tr (X : Nat → Nat → Int) (R C : List Nat) (hl : R.length = C.length) (h4 : R.length ≤ 4) : mv (R.map (tr X)) C = mv (C.map X) R := by
 match R, C, hl, h4 with
 | [], [], _, _ => rfl
 | [a], [x], _, _ => simp [mv, sumF, signed, tr]
 | [a, b], [x, y], _, _ => simp [mv, sumF, signed, tr]; grind
 | [a, b, c], [x, y, z], _, _ => simp [mv, sumF, signed, tr]; grind
 | [a, b, c, d], [x, y, z, u], _, _ => simp [mv, sumF, signed, tr]; grind
theorem chosenL_any {m n : Nat} {d : Int} {f : Nat → Nat → Int} {r : Nat} (hm : m ≤ 4) (h : ∀ C ∈ chosenL m n, AllD d f r C) {R C : List Nat} (hR : R.length = m) (hr : ∀ x ∈ R, x < r) (hC : C.length = m) (hc : ∀ x ∈ C, x < n) : d ∣ mv (R.map f) C := by
 have := rise_all d (tr f) R (by omega) m n [] (by simp [hR]) (fun C' hC' => by
  have h1 := chosenL_lt hC'
  rw [List.append_nil, mv_tr f C' R (by omega) (by omega)]
  exact h C' hC' R (by omega) hr) C hC hc
 rw [List.append_nil, mv_tr f C R (by omega) (by omega)] at this
 exact this
end Go.Proofs.YtfjbijpagaipnaaDoor.R
namespace Go.Proofs.YtfjbijpagaipnaaDoor
open Go.RowKit R
theorem Sp.to {H : Nat → Nat → Int} {k c : Nat} {v v' : Nat → Int} (h : Sp H k c v) (he : ∀ j, j < c → v' j = v j) : Sp H k c v' := by
 obtain ⟨x, hx⟩ := h
 exact ⟨x, fun j hj => by rw [he j hj]; exact hx j hj⟩
end Go.Proofs.YtfjbijpagaipnaaDoor
namespace Go.Proofs.YtfjbijpagaipnaaDoor.R
open Go.RowKit
theorem sumF_le (f : Nat → Int) (M : Nat) : ∀ k, (∀ i, i < k → (f i).natAbs ≤ M) → (sumF k f).natAbs ≤ k * M := by
 intro k
 induction k with
 | zero => intro _; simp [sumF]
 | succ k ih =>
   intro h
   rw [sumF, Nat.succ_mul]
   have h1 := ih (fun i hi => h i (by omega))
   have h2 := h k (by omega)
   omega
def fct : Nat → Nat
 | 0 => 1
 | n + 1 => (n + 1) * fct n
theorem mv_bound (B : Nat) : ∀ (vs : List (Nat → Int)) (C : List Nat), C.length = vs.length → (∀ v ∈ vs, ∀ x ∈ C, (v x).natAbs ≤ B) → (mv vs C).natAbs ≤ fct vs.length * B ^ vs.length := by
 intro vs
 induction vs with
 | nil => intro C _ _; simp [mv, fct]
 | cons v vs ih =>
   intro C hC h
   rw [mv]
   have hl : C.length = vs.length + 1 := by simpa using hC
   have key := sumF_le (fun k => signed k (v (C.getD k 0) * mv vs (C.eraseIdx k))) (B * (fct vs.length * B ^ vs.length)) C.length (fun k hk => ?_)
   ·refine Nat.le_trans key ?_
    rw [hl, List.length_cons, fct, Nat.pow_succ]
    refine Nat.le_of_eq ?_
    rw [Nat.mul_assoc, Nat.mul_comm B, Nat.mul_assoc]
   ·have hx : C.getD k 0 ∈ C := by
     rw [List.getD, List.getElem?_eq_getElem hk]
     exact List.getElem_mem _
    have h1 := h v (by simp) _ hx
    have h2 := ih (C.eraseIdx k) (by rw [List.length_eraseIdx_of_lt hk]; omega) (fun u hu x hx => h u (by simp [hu]) x (List.mem_of_mem_eraseIdx hx))
    have h3 : (signed k (v (C.getD k 0) * mv vs (C.eraseIdx k))).natAbs = (v (C.getD k 0)).natAbs * (mv vs (C.eraseIdx k)).natAbs := by
     unfold signed
     split
     ·rw [Int.natAbs_neg, Int.natAbs_mul]
     ·rw [Int.natAbs_mul]
    rw [h3]
    exact Nat.mul_le_mul h1 h2
open Go.RowKit
theorem form_all {r c k : Nat} {pc : Nat → Nat} {H : Nat → Nat → Int} (h : EchSt r c k pc H) (C : List Nat) (hC : C.length = k) (hc : ∀ x ∈ C, x < c) (h4 : k ≤ 4) : AllD (mv ((List.range k).map H) C) H r C := by
 intro R hR hr
 have := rise_all (mv ((List.range k).map H) C) H C (by omega) k r [] (by simp [hC]) (fun R' hR' => by
  rw [List.append_nil]
  obtain ⟨h1, h2⟩ := chosenL_lt hR'
  by_cases hall : ∀ x ∈ R', x < k
  ·rw [chosen_in hR' hall]
   exact Int.dvd_refl _
  ·have hex : ∃ x, x ∈ R' ∧ k ≤ x := Classical.byContradiction (fun hn => hall (fun x hx => Nat.lt_of_not_le (fun hle => hn ⟨x, hx, hle⟩)))
   obtain ⟨x, hx, hle⟩ := hex
   obtain ⟨xs, ys, he⟩ := List.append_of_mem hx
   have hlen : xs.length + ys.length + 1 = k := by have := congrArg List.length he; simp at this; omega
   rw [he, List.map_append, List.map_cons, mv_zero_row (H x) (ys.map H) (xs.map H) C (fun j hj => h.rest x hle (h2 x hx) j (hc j hj)) (by simp; omega)]
   exact Int.dvd_zero _) R (by omega) hr
 simpa using this
theorem form_minor {r c k B : Nat} {pc : Nat → Nat} {A H U W : Nat → Nat → Int} (h : EchSt r c k pc H) (hE : EInv A H U W r c) (hA : ∀ i j, i < r → j < c → (A i j).natAbs ≤ B) (C : List Nat) (hC : C.length = k) (hc : ∀ x ∈ C, x < c) (h4 : k ≤ 4) :
 (mv ((List.range k).map H) C).natAbs ≤ fct k * B ^ k := by
 have e1 := allD_comb (form_all h C hC hc h4) (fun i hi => comb_of_dot hc (fun j hj => hE.wh i j hi hj))
 by_cases h0 : AllD 0 A r C
 ·have e2 := allD_comb h0 (fun i hi => comb_of_dot hc (fun j hj => hE.ua i j hi hj))
  have e3 := e2 (List.range k) (by simp [hC]) (fun x hx => by have := List.mem_range.1 hx; have := h.le; omega)
  rw [Int.zero_dvd.1 e3]
  simp
 ·have : ∃ R : List Nat, R.length = C.length ∧ (∀ x ∈ R, x < r) ∧ mv (R.map A) C ≠ 0 := Classical.byContradiction (fun hn => h0 (fun R hR hr => by
   rw [Int.zero_dvd]
   exact Classical.byContradiction (fun hne => hn ⟨R, hR, hr, hne⟩)))
  obtain ⟨R, hR, hr, hne⟩ := this
  have e2 := e1 R hR hr
  have e3 := mv_bound B (R.map A) C (by simp [hR]) (fun v hv x hx => by
   obtain ⟨i, hi, rfl⟩ := List.mem_map.1 hv
   exact hA i x (hr i hi) (hc x hx))
  rw [List.length_map, hR, hC] at e3
  exact Nat.le_trans (Nat.le_of_dvd (Int.natAbs_pos.2 hne) (Int.natAbs_dvd_natAbs.2 e2)) e3
theorem le_of_mul {a b : Int} {M : Nat} (ha : 0 < a) (h : (a * b).natAbs ≤ M) : b.natAbs ≤ M := by
 rw [Int.natAbs_mul] at h
 have h1 : 1 ≤ a.natAbs := by omega
 have h2 := Nat.mul_le_mul_right b.natAbs h1
 omega
theorem mv2 (u v : Nat → Int) (i j : Nat) : mv [u, v] [i, j] = u i * v j - u j * v i := by
 simp [mv, sumF, signed, List.eraseIdx, Int.sub_eq_add_neg]
theorem mv1 (u : Nat → Int) (i : Nat) : mv [u] [i] = u i := by
 simp [mv, sumF, signed]
theorem mv3 (u v x : Nat → Int) (hv0 : v 0 = 0) (hx0 : x 0 = 0) (hx1 : x 1 = 0) : mv [u, v, x] [0, 1, 2] = u 0 * (v 1 * x 2) := by
 simp [mv, sumF, signed, List.eraseIdx, hv0, hx0, hx1]
theorem form_small {r c k B : Nat} {pc : Nat → Nat} {A H U W : Nat → Nat → Int} (h : EchSt r c k pc H) (hE : EInv A H U W r c) (hc3 : c ≤ 3) (hB : B ≤ 36) (hA : ∀ i j, i < r → j < c → (A i j).natAbs ≤ B) : ∀ i j, i < r → j < c → (H i j).natAbs ≤ 600000 := by
 have hk3 : k ≤ 3 := by have := h.te; omega
 have hkr := h.le
 have hM : ∀ C : List Nat, C.length = k → (∀ x ∈ C, x < c) → (mv ((List.range k).map H) C).natAbs ≤ 279936 := by
  intro C hC hc
  refine Nat.le_trans (form_minor h hE hA C hC hc (by omega)) ?_
  have h1 : B ^ k ≤ 36 ^ k := Nat.pow_le_pow_left hB k
  obtain rfl | rfl | rfl | rfl : k = 0 ∨ k = 1 ∨ k = 2 ∨ k = 3 := by omega
  ·simp [fct]
  ·simp only [fct]; omega
  ·simp only [fct]; omega
  ·simp only [fct]; omega
 intro i j hi hj
 by_cases hik : k ≤ i
 ·rw [h.rest i hik hi j hj]; simp
 obtain rfl | rfl | rfl | rfl : k = 0 ∨ k = 1 ∨ k = 2 ∨ k = 3 := by omega
 ·omega
 ·obtain rfl : i = 0 := by omega
  have := hM [j] rfl (by simpa using hj)
  simp only [List.range_one, List.map_cons, List.map_nil, mv1] at this
  omega
 ·have hM2 : ∀ a b, a < c → b < c → (H 0 a * H 1 b - H 0 b * H 1 a).natAbs ≤ 279936 := fun a b ha hb => by
   have := hM [a, b] rfl (by simp; exact ⟨ha, hb⟩)
   rw [show List.range 2 = [0, 1] from rfl] at this
   simpa only [List.map_cons, List.map_nil, mv2] using this
  have p0 := h.piv 0 (by omega)
  have p1 := h.piv 1 (by omega)
  have hup := h.up 0 1 (by omega) (by omega)
  have q1 := h.col 1 (by omega)
  have b1 := h.below 0 (by omega) 1 (by omega) (by omega)
  have a1 := h.above 1 (by omega) 0 (by omega)
  have l0 := h.left 0 (by omega)
  have l1 := h.left 1 (by omega)
  have d1 := hM2 (pc 0) (pc 1) (by omega) q1
  rw [b1, Int.mul_zero, Int.sub_zero] at d1
  have g1 := le_of_mul p0 d1
  have g0 := le_of_mul p1 (by rw [Int.mul_comm]; exact d1)
  generalize e0 : pc 0 = P0 at *
  generalize e1 : pc 1 = P1 at *
  have hcol : j = P0 ∨ j = P1 ∨ (j ≠ P0 ∧ j ≠ P1) := by omega
  obtain rfl | rfl : i = 0 ∨ i = 1 := by omega
  ·rcases hcol with rfl | rfl | ⟨n0, n1⟩
   ·omega
   ·omega
   ·by_cases hj0 : j < P0
    ·rw [l0 j hj0]; simp
    ·by_cases hj1 : j < P1
     ·have d2 := hM2 j P1 hj q1
      rw [l1 j hj1, Int.mul_zero, Int.sub_zero] at d2
      have := le_of_mul p1 (by rw [Int.mul_comm]; exact d2)
      omega
     ·have d2 := hM2 P0 j (by omega) hj
      rw [b1, Int.mul_zero, Int.sub_zero] at d2
      have y := le_of_mul p0 d2
      have d3 := hM2 P1 j q1 hj
      have e2 : (H 0 P1 * H 1 j).natAbs ≤ (H 1 P1).natAbs * 279936 := by
       rw [Int.natAbs_mul]
       exact Nat.mul_le_mul (by omega) y
      have e3 : (H 0 j * H 1 P1).natAbs ≤ 279936 + (H 1 P1).natAbs * 279936 := by omega
      rw [Int.natAbs_mul] at e3
      have e4 : 1 ≤ (H 1 P1).natAbs := by omega
      have e5 : (H 0 j).natAbs * (H 1 P1).natAbs ≤ 559872 * (H 1 P1).natAbs := by omega
      have := Nat.le_of_mul_le_mul_right e5 e4
      omega
  ·rcases hcol with rfl | rfl | ⟨n0, n1⟩
   ·rw [b1]; simp
   ·omega
   ·by_cases hj1 : j < P1
    ·rw [l1 j hj1]; simp
    ·have d2 := hM2 P0 j (by omega) hj
     rw [b1, Int.mul_zero, Int.sub_zero] at d2
     have y := le_of_mul p0 d2
     omega
 ·have c3 : c = 3 := by have := h.te; omega
  subst c3
  have u1 := h.up 0 1 (by omega) (by omega)
  have u2 := h.up 1 2 (by omega) (by omega)
  have q2 := h.col 2 (by omega)
  have e0 : pc 0 = 0 := by omega
  have e1 : pc 1 = 1 := by omega
  have e2 : pc 2 = 2 := by omega
  have p0 := h.piv 0 (by omega)
  have p1 := h.piv 1 (by omega)
  have p2 := h.piv 2 (by omega)
  have b01 := h.below 0 (by omega) 1 (by omega) (by omega)
  have b02 := h.below 0 (by omega) 2 (by omega) (by omega)
  have b12 := h.below 1 (by omega) 2 (by omega) (by omega)
  have a10 := h.above 1 (by omega) 0 (by omega)
  have a20 := h.above 2 (by omega) 0 (by omega)
  have a21 := h.above 2 (by omega) 1 (by omega)
  rw [e0] at p0 b01 b02
  rw [e1] at p1 b12 a10
  rw [e2] at p2 a20 a21
  have d := hM [0, 1, 2] rfl (by simp)
  rw [show List.range 3 = [0, 1, 2] from rfl, List.map_cons, List.map_cons, List.map_cons, List.map_nil, mv3 _ _ _ b01 b02 b12] at d
  have g := le_of_mul p0 d
  have g2 := le_of_mul p1 g
  have g1 := le_of_mul p2 (by rw [Int.mul_comm]; exact g)
  have g0 := le_of_mul (Int.mul_pos p1 p2) (by rw [Int.mul_comm]; exact d)
  obtain rfl | rfl | rfl : i = 0 ∨ i = 1 ∨ i = 2 := by omega
  ·obtain rfl | rfl | rfl : j = 0 ∨ j = 1 ∨ j = 2 := by omega
   ·omega
   ·omega
   ·omega
  ·obtain rfl | rfl | rfl : j = 0 ∨ j = 1 ∨ j = 2 := by omega
   ·rw [b01]; simp
   ·omega
   ·omega
  ·obtain rfl | rfl | rfl : j = 0 ∨ j = 1 ∨ j = 2 := by omega
   ·rw [b02]; simp
   ·rw [b12]; simp
   ·omega
theorem sumF_dvd {d : Int} : ∀ (n : Nat) (g : Nat → Int), (∀ k, k < n → d ∣ g k) → d ∣ sumF n g := by
 intro n
 induction n with
 | zero => intro g _; exact Int.dvd_zero d
 | succ n ih => intro g h; rw [sumF]; exact Int.dvd_add (ih g (fun k hk => h k (by omega))) (h n (by omega))
theorem mv_ahead {d : Int} {n m : Nat} {vs : List (Nat → Int)} (h : ∀ C : List Nat, C.length = m → (∀ x ∈ C, x < n) → d ∣ mv vs C) : ∀ (us : List (Nat → Int)) (C : List Nat), C.length = us.length + m → (∀ x ∈ C, x < n) → d ∣ mv (us ++ vs) C := by
 intro us
 induction us with
 | nil => intro C hC hx; exact h C (by simpa using hC) hx
 | cons u us ih =>
   intro C hC hx
   rw [List.cons_append, mv]
   refine sumF_dvd _ _ (fun k hk => ?_)
   have h1 := ih (C.eraseIdx k) (by rw [List.length_eraseIdx, if_pos hk]; simp at hC; omega) (fun x hx' => hx x (List.mem_of_mem_eraseIdx hx'))
   have h2 : d ∣ u (C.getD k 0) * mv (us ++ vs) (C.eraseIdx k) := Int.dvd_trans h1 (Int.dvd_mul_left _ _)
   unfold signed
   split
   ·exact Int.dvd_neg.2 h2
   ·exact h2
theorem div_up {f : Nat → Nat → Int} {r c m : Nat} (hm : m + 1 ≤ 4) (h : divF f r c m = 0) : divF f r c (m + 1) = 0 := by
 rw [all_div f r c m (by omega), allV_iff] at h
 rw [all_div f r c (m + 1) hm]
 intro R hR hr C hC
 obtain ⟨c1, c2⟩ := chosenL_lt hC
 match R, hR with
 | x :: R', hR' =>
   have := mv_ahead (d := 0) (n := c) (m := m) (vs := R'.map f) (fun C' hC' hx => chosenL_any (by omega) h (by simpa using hR') (fun y hy => hr y (List.mem_cons_of_mem _ hy)) hC' hx) [f x] C (by simp; omega) c2
   exact Int.zero_dvd.1 (by simpa using this)
end Go.Proofs.YtfjbijpagaipnaaDoor.R
