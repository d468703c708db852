import Derived.Test.YtfjbijpagaipnaaGreatDoorM10
import Derived.Test.YtfjbijpagaipnaaGreatDoorM23
import Derived.Test.YtfjbijpagaipnaaGreatDoorM22
namespace Go.Proofs.YtfjbijpagaipnaaGreatDoor
open Go.RowKit
def Bx (w : World) (pb : Nat) : Prop := w.heap[pb]? = some (.cells #[.int .i64 0, .int .i64 0, .slice none 0 0] 76 (0, 0))
theorem Bx.new (w : World) : Bx (w.alloc (.cells #[.int .i64 0, .int .i64 0, .slice none 0 0] 76)) w.heap.size := heap_alloc_new w _
theorem Bx.drew {w : World} {pb : Nat} (h : Bx w pb) : Bx w.drew pb := h
theorem Bx.lt {w : World} {pb : Nat} (h : Bx w pb) : pb < w.heap.size := (Array.getElem?_eq_some_iff.1 h).1
theorem Bx.below {w w' : World} {pb n : Nat} (h : Bx w pb) (hb : Below n w w') (hn : pb < n) : Bx w' pb := (hb.block pb hn).trans h
theorem Bx.cells {w : World} {pb : Nat} (h : Bx w pb) : w.cell? ⟨pb, 0, none⟩ = some (.int .i64 0) ∧ w.cell? ⟨pb, 1, none⟩ = some (.int .i64 0) ∧ w.cell? ⟨pb, 2, none⟩ = some (.slice none 0 0) ∧ (∀ o, w.frozen? ⟨pb, o, none⟩ = false) := by
 unfold Bx at h
 refine ⟨?_, ?_, ?_, fun o => ?_⟩ <;> simp [World.cell?, World.frozen?, h]
theorem Bx.trio {w : World} {pb : Nat} (h : Bx w pb) : Trio w pb (.int .i64 0) (.int .i64 0) (.slice none 0 0) := ⟨h.cells.1, h.cells.2.1, h.cells.2.2.1⟩
theorem Bx.keep {w : World} {pb : Nat} (h : Bx w pb) (v0 v1 v2 : Value) : KT w (((w.setCell ⟨pb, 0, none⟩ v0).setCell ⟨pb, 1, none⟩ v1).setCell ⟨pb, 2, none⟩ v2) := by
 have hT : Ty w pb 76 := ⟨_, _, h⟩
 exact KT.setCell (KT.setCell (KT.setCell (KT.refl _) hT (by decide) (by decide) v0) (hT.setCell ⟨pb, 0, none⟩ v0) (by decide) (by decide) v1) ((hT.setCell ⟨pb, 0, none⟩ v0).setCell ⟨pb, 1, none⟩ v1) (by decide) (by decide) v2
theorem IsF.below {w w' : World} {v : Value} {r c k : Nat} {hs us ws : List Int} {L : Nat} (h : IsF w v r c k hs us ws L) (hb : Below w.heap.size w w') : IsF w' v r c k hs us ws L := by
 obtain ⟨s1, s2, s3, e, m1, m2, m3⟩ := h
 exact ⟨s1, s2, s3, e, m1.below hb, m2.below hb, m3.below hb⟩
theorem lx4 {k : Nat} (h : k ≤ 4) : 2 * lx 4000 k + 20 ≤ 200000000 := by
 obtain rfl | rfl | rfl | rfl | rfl : k = 0 ∨ k = 1 ∨ k = 2 ∨ k = 3 ∨ k = 4 := by omega
 all_goals decide
def CoefIn (X : World) (r : Nat) (xs : List Int) (L : Nat) (S : Prop) (p y : Value) (wx : World) : Prop := ∃ (pb : Nat) (a1 a2 : Int) (ox : Option Addr) (mx px : Nat) (ok : Bool), p = .pointer (some ⟨pb, 0, none⟩) ∧ y = .bool ok ∧ X.heap.size ≤ pb ∧ Trio wx pb (.int .i64 a1) (.int .i64 a2) (.slice ox mx px) ∧ (ok = true → IsM wx (.agg #[.int .i64 a1, .int .i64 a2, .slice ox mx px]) 1 r xs L) ∧ (ok = true ↔ S) ∧ Below X.heap.size X wx
def MemRel (ms : List Hm) (nx : Nat) (g h : Int) (y : Bool) (k e : Int) (ms' : List Hm) (nx' : Nat) : Prop :=
 (((∀ i, i < 24 → ∀ x, ms.getD i none = some x → (x.1 : Int) ≠ g) ∨ (∀ i, i < 24 → ∀ x, ms.getD i none = some x → (x.1 : Int) ≠ h)) ∧ y = false ∧ k = -1 ∧ e = 2 ∧ ms' = ms ∧ nx' = nx) ∨
 ∃ i hd r q zs j hd' r' c ys, i < 24 ∧ ms.getD i none = some (hd, r, q, zs) ∧ ((hd : Nat) : Int) = g ∧ j < 24 ∧ ms.getD j none = some (hd', r', c, ys) ∧ ((hd' : Nat) : Int) = h ∧
   ((¬ (r' = 1 ∧ c = q) ∧ y = false ∧ k = -1 ∧ e = 3 ∧ ms' = ms ∧ nx' = nx) ∨ ((r' = 1 ∧ c = q) ∧ ¬ (FitsP r q zs ∧ FitsP r' c ys) ∧ y = false ∧ k = -1 ∧ e = 4 ∧ ms' = ms ∧ nx' = nx) ∨
    ((r' = 1 ∧ c = q) ∧ (FitsP r q zs ∧ FitsP r' c ys) ∧ (¬ Sp (ent q zs) r q (ent q ys 0) ∧ HasF (ent q zs) r q) ∧ y = false ∧ k = -1 ∧ e = 0 ∧ ms' = ms ∧ nx' = nx) ∨
    ((r' = 1 ∧ c = q) ∧ (FitsP r q zs ∧ FitsP r' c ys) ∧ (Sp (ent q zs) r q (ent q ys 0) ∧ HasF (ent q zs) r q) ∧ (∀ i, i < 24 → ms.getD i none ≠ none) ∧ y = false ∧ k = -1 ∧ e = 5 ∧ ms' = ms ∧ nx' = nx) ∨
    ((r' = 1 ∧ c = q) ∧ (FitsP r q zs ∧ FitsP r' c ys) ∧ (Sp (ent q zs) r q (ent q ys 0) ∧ HasF (ent q zs) r q) ∧ y = true ∧ k = (nx : Int) ∧ e = 0 ∧ ∃ n xs, MemIs r q zs ys xs ∧ FreeAt ms n ∧ ms' = ms.set n (some (nx, 1, r, xs)) ∧ nx' = nx + 1))
set_option maxRecDepth 100000 in
set_option maxHeartbeats 4000000 in
theorem member_held (b : Nat) (g h : Int) (ms : List Hm) (nx : Nat) (w : World) (hst : Held w b ms nx) (hnx : nx < 1000000) :
 Calls Tryz.prog 24 #[.pointer (some ⟨b, 0, none⟩), .int .i64 g, .int .i64 h] w fun x w' => ∃ y k e ms' nx', x = .returned (.tuple #[.bool y, .int .i64 k, .int .i64 e]) ∧ MemRel ms nx g h y k e ms' nx' ∧ Held w' b ms' nx' ∧ Fr b w w' := by
 have hm24 := hst.1
 have H := Hid.mk hst
 clear hst
 go_enter Tryz.func24, Tryz.ntmps24
 go_wp2_with fail
 refine (find_held b g ms nx _ H.out).mono ?_
 rintro e w1 ⟨⟨r, q, ao, n, cap, ok, rfl, hf⟩, hb1⟩
 have K1 := Hid.mk (And.intro hf hb1)
 have hw1 := hb1.size
 clear hf hb1
 go_wp2_with fail
 have hbA : Below w.heap.size w (w1.alloc (.cells #[.int .i64 r, .int .i64 q, .slice ao n cap] 76)) := K1.out.2.alloc hw1 _
 refine (find_held b h ms nx _ (H.out.below hbA)).mono ?_
 rintro e w2 ⟨⟨r', c, bo, n', cap', ok', rfl, hf2⟩, hb2⟩
 have hT1 : Trio (w1.alloc (.cells #[.int .i64 r, .int .i64 q, .slice ao n cap] 76)) w1.heap.size (.int .i64 r) (.int .i64 q) (.slice ao n cap) := ⟨new_cell _ _ _ _ _ rfl rfl, new_cell _ _ _ _ _ rfl rfl, new_cell _ _ _ _ _ rfl rfl⟩
 have hb22 := (Below.refl w2.heap.size w2).alloc (Nat.le_refl _) (.cells #[.int .i64 r', .int .i64 c, .slice bo n' cap'] 76)
 have hT2 := (hT1.later hb2).later hb22
 have hT3 : Trio (w2.alloc (.cells #[.int .i64 r', .int .i64 c, .slice bo n' cap'] 76)) w2.heap.size (.int .i64 r') (.int .i64 c) (.slice bo n' cap') := ⟨new_cell _ _ _ _ _ rfl rfl, new_cell _ _ _ _ _ rfl rfl, new_cell _ _ _ _ _ rfl rfl⟩
 have hbB : Below w.heap.size w w2 := hbA.trans (hb2.mono hbA.size)
 have hf1' := ((K1.out.1.below ((Below.refl _ _).alloc (Nat.le_refl _) (.cells #[.int .i64 r, .int .i64 q, .slice ao n cap] 76))).below hb2).below hb22
 have hf2' := hf2.below hb22
 have hbC : Below w.heap.size w (w2.alloc (.cells #[.int .i64 r', .int .i64 c, .slice bo n' cap'] 76)) := hbB.alloc hbB.size _
 have hlt : w1.heap.size < w2.heap.size := by have := hb2.size; simp at this; omega
 have K2 := Hid.mk (And.intro hf1' (And.intro hf2' (And.intro hbC (And.intro hT2 hT3))))
 clear hf2 hb2 hT1 hb22 hT2 hT3 hbB hf1' hf2' hbC hbA
 obtain ⟨X, hX⟩ : ∃ X, X = w2.alloc (.cells #[.int .i64 r', .int .i64 c, .slice bo n' cap'] 76) := ⟨_, rfl⟩
 have HX := Hid.mk hX
 rw [← hX] at K2
 clear hX
 have hsX : X.heap.size = w2.heap.size + 1 := by rw [HX.out]; simp
 rcases id K2.out.1 with ⟨rfl, i, hd, zs, hi, hgi, hgh, hM⟩ | ⟨rfl, hno⟩
 ·rcases id K2.out.2.1 with ⟨rfl, i', hd', ys, hi', hgi', hgh', hM'⟩ | ⟨rfl, hno⟩
  ·have HF := Hid.mk (And.intro (And.intro hi (And.intro hgi (And.intro hgh hM))) (And.intro hi' (And.intro hgi' (And.intro hgh' hM'))))
   have HC := Hid.mk (show ∀ w', Below X.heap.size X w' → w'.cell? ⟨w1.heap.size, 0, none⟩ = some (.int .i64 r) ∧ w'.cell? ⟨w1.heap.size, 1, none⟩ = some (.int .i64 q) ∧ w'.cell? ⟨w1.heap.size, 2, none⟩ = some (.slice ao n cap) ∧ w'.cell? ⟨w2.heap.size, 0, none⟩ = some (.int .i64 r') ∧ w'.cell? ⟨w2.heap.size, 1, none⟩ = some (.int .i64 c) ∧ w'.cell? ⟨w2.heap.size, 2, none⟩ = some (.slice bo n' cap') from
    fun w' hb => ⟨(K2.out.2.2.2.1.later hb).1, (K2.out.2.2.2.1.later hb).2.1, (K2.out.2.2.2.1.later hb).2.2, (K2.out.2.2.2.2.later hb).1, (K2.out.2.2.2.2.later hb).2.1, (K2.out.2.2.2.2.later hb).2.2⟩)
   clear hi hgi hgh hM hi' hgi' hgh' hM'
   go_upto_region 5 with fail
   rw [← HX.out]
   obtain ⟨iqr, hiqr⟩ : ∃ iqr, iqr = decide (r' = 1 ∧ c = q) := ⟨_, rfl⟩
   have HQ := Hid.mk hiqr
   clear hiqr
   go_cut [42] from 33 to 42 (fun x wx => x = .bool (!iqr) ∧ Below X.heap.size X wx)
   case first =>
    by_cases hr1 : (r' : Int) = 1
    ·have hr2 : ((r' : Int) != 1) = false := by simp [hr1]
     have HR := Hid.mk hr1
     clear hr1
     go_region_held3 (fun w' => w'.cell? ⟨w1.heap.size, 0, none⟩ = some (.int .i64 r) ∧ w'.cell? ⟨w1.heap.size, 1, none⟩ = some (.int .i64 q) ∧ w'.cell? ⟨w1.heap.size, 2, none⟩ = some (.slice ao n cap) ∧ w'.cell? ⟨w2.heap.size, 0, none⟩ = some (.int .i64 r') ∧ w'.cell? ⟨w2.heap.size, 1, none⟩ = some (.int .i64 c) ∧ w'.cell? ⟨w2.heap.size, 2, none⟩ = some (.slice bo n' cap'))
      (exact HC.out _ (by first | exact (Below.refl _ _).drew | exact ((Below.refl _ _).alloc (Nat.le_refl _) _).drew | exact (((Below.refl _ _).alloc (Nat.le_refl _) _).alloc (by simp) _).drew | exact ((((Below.refl _ _).alloc (Nat.le_refl _) _).alloc (by simp) _).alloc (by simp <;> omega) _).drew))
      (first
        | (go_at_call 43; refine (cols_raw _ _ _ _ _ _).mono ?_; rintro e w' ⟨rfl, rfl⟩)
        | (go_at_call 42; refine (rows_raw _ _ _ _ _ _).mono ?_; rintro e w' ⟨rfl, rfl⟩))
     all_goals
      go_wp2_with fail
      go_meet
      case rel =>
       refine ⟨?_, ((((Below.refl _ _).alloc (Nat.le_refl _) _).alloc (by simp) _).alloc (by simp <;> omega) _).drew⟩
       rw [HQ.out]
       have := HR.out
       by_cases h : c = q
       ·rw [decide_eq_true (And.intro (by omega) h), h]; simp
       ·rw [decide_eq_false (fun e => h e.2)]; simp; omega
    ·have hr2 : ((r' : Int) != 1) = true := by simp [hr1]
     have HR := Hid.mk hr1
     clear hr1
     obtain ⟨a0, a1, a2, a3, a4, a5⟩ := HC.out X (Below.refl _ _)
     go_region_with (go_at_call 42; refine (rows_raw _ _ _ _ _ _).mono ?_; rintro e w' ⟨rfl, rfl⟩)
     all_goals
      go_wp2_with fail
      go_meet
      case rel =>
       exact ⟨by rw [HQ.out, decide_eq_false (fun h => HR.out (by omega))]; rfl, ((Below.refl _ _).alloc (Nat.le_refl _) _).drew⟩
   case rest =>
    obtain ⟨rfl, hbx⟩ := hcut
    have hbw : Below w.heap.size w wc := K2.out.2.2.1.trans (hbx.mono K2.out.2.2.1.size)
    obtain ⟨a0, a1, a2, a3, a4, a5⟩ := HC.out wc hbx
    have K3 := Hid.mk (And.intro hbx hbw)
    have hwc := hbx.size
    clear hbx hbw
    cases iqr
    ·have HNE : Hid (¬ (r' = 1 ∧ c = q)) := Hid.mk (fun e => by have := HQ.out; rw [decide_eq_true e] at this; cases this)
     go_wp2_with fail
     go_ret3
     exact ⟨_, _, _, ms, nx, rfl, .inr ⟨i, hd, r, q, zs, i', hd', r', c, ys, HF.out.1.1, HF.out.1.2.1, HF.out.1.2.2.1, HF.out.2.1, HF.out.2.2.1, HF.out.2.2.2.1, .inl ⟨HNE.out, rfl, rfl, rfl, rfl, rfl⟩⟩, H.out.below K3.out.2, Fr.of_below K3.out.2⟩
    ·have hqr : r' = 1 ∧ c = q := of_decide_eq_true HQ.out.symm
     have HQR := Hid.mk hqr
     clear hqr
     go_wp2_with fail
     refine (tooBig_any _ r q zs 200000000 _ (HF.out.1.2.2.2.below K3.out.1) (by omega)).mono ?_
     rintro e w3 ⟨fb, rfl, hfo, hb3⟩
     have hbX3 : Below X.heap.size X w3 := K3.out.1.trans (hb3.mono hwc)
     clear a0 a1 a2 a3 a4 a5
     obtain ⟨a0, a1, a2, a3, a4, a5⟩ := HC.out w3 hbX3
     have hw3 := hbX3.size
     have K4 := Hid.mk (And.intro hbX3 (And.intro (K2.out.2.2.1.trans (hbX3.mono K2.out.2.2.1.size)) hfo))
     clear hb3 hbX3 hfo
     cases fb
     ·have HNF : Hid (¬ FitsP r q zs) := Hid.mk (fun h => by have := K4.out.2.2.2 h; cases this)
      go_wp2_with fail
      go_ret3
      exact ⟨_, _, _, ms, nx, rfl, .inr ⟨i, hd, r, q, zs, i', hd', r', c, ys, HF.out.1.1, HF.out.1.2.1, HF.out.1.2.2.1, HF.out.2.1, HF.out.2.2.1, HF.out.2.2.2.1, .inr (.inl ⟨HQR.out, fun h => HNF.out h.1, rfl, rfl, rfl, rfl, rfl⟩)⟩, H.out.below K4.out.2.1, Fr.of_below K4.out.2.1⟩
     ·go_wp2_with fail
      refine (tooBig_any _ r' c ys 200000000 _ (HF.out.2.2.2.2.below K4.out.1) (by omega)).mono ?_
      rintro e w4 ⟨fb, rfl, hfo, hb4⟩
      have hbX4 : Below X.heap.size X w4 := K4.out.1.trans (hb4.mono hw3)
      clear a0 a1 a2 a3 a4 a5
      obtain ⟨a0, a1, a2, a3, a4, a5⟩ := HC.out w4 hbX4
      have hw4 := hbX4.size
      have K5 := Hid.mk (And.intro hbX4 (And.intro (K2.out.2.2.1.trans (hbX4.mono K2.out.2.2.1.size)) hfo))
      clear hb4 hbX4 hfo
      cases fb
      ·have HNF : Hid (¬ FitsP r' c ys) := Hid.mk (fun h => by have := K5.out.2.2.2 h; cases this)
       go_wp2_with fail
       go_ret3
       exact ⟨_, _, _, ms, nx, rfl, .inr ⟨i, hd, r, q, zs, i', hd', r', c, ys, HF.out.1.1, HF.out.1.2.1, HF.out.1.2.2.1, HF.out.2.1, HF.out.2.2.1, HF.out.2.2.2.1, .inr (.inl ⟨HQR.out, fun h => HNF.out h.2, rfl, rfl, rfl, rfl, rfl⟩)⟩, H.out.below K5.out.2.1, Fr.of_below K5.out.2.1⟩
      ·have HFF : Hid (FitsP r q zs ∧ FitsP r' c ys) := Hid.mk ⟨K4.out.2.2.1 rfl, K5.out.2.2.1 rfl⟩
       have hMl := (HF.out.1.2.2.2.below K5.out.1).tight HFF.out.1
       have hMr := (HF.out.2.2.2.2.below K5.out.1).tight HFF.out.2
       have HMM := Hid.mk (And.intro hMl hMr)
       clear hMl hMr
       go_wp2_with fail
       go_cut [13, 14] from 49 to 55 (fun p y wx => ∃ k pc hs us ws, EchIs r q zs k pc hs us ws ∧ CoefIn w4 r (prodL 1 r r (shL (ent q hs) pc (ent q ys 0) r k) us) 200000000 (∀ j, j < q → exV (ent q hs) pc (ent q ys 0) k j = 0) p y wx)
       case first =>
        have HM2 : Hid (IsM w4 (.agg #[.int .i64 r', .int .i64 c, .slice bo n' cap']) 1 q ys 4000) := Hid.mk (by
         have h1 := HMM.out.2
         rw [HQR.out.1, HQR.out.2] at h1 ⊢
         exact h1.mono (by omega))
        have HC4 : Hid (∀ w', Below w4.heap.size w4 w' → w'.cell? ⟨w1.heap.size, 0, none⟩ = some (.int .i64 r) ∧ w'.cell? ⟨w1.heap.size, 1, none⟩ = some (.int .i64 q) ∧ w'.cell? ⟨w1.heap.size, 2, none⟩ = some (.slice ao n cap) ∧ w'.cell? ⟨w2.heap.size, 0, none⟩ = some (.int .i64 r') ∧ w'.cell? ⟨w2.heap.size, 1, none⟩ = some (.int .i64 c) ∧ w'.cell? ⟨w2.heap.size, 2, none⟩ = some (.slice bo n' cap')) := Hid.mk (fun w' hb => HC.out w' (K5.out.1.trans (hb.mono hw4)))
        have hr4 : r ≤ 4 := HFF.out.1.1
        clear a0 a1 a2 a3 a4 a5
        go_region_held3 (fun w' => w'.cell? ⟨w1.heap.size, 0, none⟩ = some (.int .i64 r) ∧ w'.cell? ⟨w1.heap.size, 1, none⟩ = some (.int .i64 q) ∧ w'.cell? ⟨w1.heap.size, 2, none⟩ = some (.slice ao n cap) ∧ w'.cell? ⟨w2.heap.size, 0, none⟩ = some (.int .i64 r') ∧ w'.cell? ⟨w2.heap.size, 1, none⟩ = some (.int .i64 c) ∧ w'.cell? ⟨w2.heap.size, 2, none⟩ = some (.slice bo n' cap'))
         (exact HC4.out _ (by first | exact hbW6 | exact hbW6.alloc hbW6.size _ | exact hbW5 | exact hbW5.alloc hbW5.size _ | exact (Below.refl _ _).drew | exact ((Below.refl _ _).alloc (Nat.le_refl _) _).drew | exact ((hbW6.setCell (Nat.le_refl _) _).setCell (Nat.le_refl _) _).setCell (Nat.le_refl _) _ | exact ((hbW6.setCell hw5s _).setCell hw5s _).setCell hw5s _))
         (first
           | (go_at_call 45; refine (gech_fit _ r q zs 2 _ (HMM.out.1.below (Below.refl _ _).drew) HFF.out.1.1 HFF.out.1.2.1 HFF.out.1.ent (by omega)).mono ?_; rintro e9 w5 ⟨v5, k, pc, hs, us, ws, rfl, hIF, hk, hE, hEB, hb5, hrun⟩; obtain ⟨sH, sU, sW, rfl, m3, m4, m5⟩ := id hIF; have HE1 := Hid.mk (show EchIs r q zs k pc hs us ws from ⟨m3.len, m4.len, m5.len, hk, hE, hEB, hrun⟩); have hkr := hk.le; obtain ⟨oH, cH, rfl⟩ := m3.slice; obtain ⟨oU, cU, rfl⟩ := m4.slice; obtain ⟨oW, cW, rfl⟩ := m5.slice; clear m3 m4 m5 hk hE hEB hrun; have hbW5 : Below w4.heap.size w4 w5 := ((Below.refl _ _).drew).trans hb5; clear hb5)
           | (go_at_call 45; refine (gech_fit _ r q zs 2 _ (HMM.out.1.below ((Below.refl _ _).alloc (Nat.le_refl _) _).drew) HFF.out.1.1 HFF.out.1.2.1 HFF.out.1.ent (by omega)).mono ?_; rintro e9 w5 ⟨v5, k, pc, hs, us, ws, rfl, hIF, hk, hE, hEB, hb5, hrun⟩; obtain ⟨sH, sU, sW, rfl, m3, m4, m5⟩ := id hIF; have HE1 := Hid.mk (show EchIs r q zs k pc hs us ws from ⟨m3.len, m4.len, m5.len, hk, hE, hEB, hrun⟩); have hkr := hk.le; obtain ⟨oH, cH, rfl⟩ := m3.slice; obtain ⟨oU, cU, rfl⟩ := m4.slice; obtain ⟨oW, cW, rfl⟩ := m5.slice; clear m3 m4 m5 hk hE hEB hrun; have hbW5 : Below w4.heap.size w4 w5 := (((Below.refl _ _).alloc (Nat.le_refl _) _).drew).trans (hb5.mono (by simp)); have hD5 : Bx w5 w4.heap.size := Bx.below (Bx.drew (Bx.new w4)) hb5 (by simp); clear hb5)
           | (go_at_call 46; refine (express_any _ _ r q k pc hs us ws ys 4000 _ hIF (HM2.out.below hbW5) HE1.out.st (by omega) (by omega)).mono ?_; rintro e9 w6 ⟨z1, z2, ox, mx, px, ok, rfl, hx6, hiff, hb6⟩; have hbW6 : Below w4.heap.size w4 w6 := hbW5.trans (hb6.mono hbW5.size); have hD6 : Bx w6 w4.heap.size := hD5.below hb6 hD5.lt; have hD6c := hD6.cells; clear hb6)
           | (go_at_call 46; refine (express_any _ _ r q k pc hs us ws ys 4000 _ hIF (HM2.out.below hbW5) HE1.out.st (by omega) (by omega)).mono ?_; rintro e9 w6 ⟨z1, z2, ox, mx, px, ok, rfl, hx6, hiff, hb6⟩; have hbW6 : Below w4.heap.size w4 w6 := hbW5.trans (hb6.mono hbW5.size); clear hb6)
           | (go_at_call 46; refine (express_any _ _ r q k pc hs us ws ys 4000 _ (IsF.below hIF ((Below.refl w5.heap.size w5).alloc (Nat.le_refl _) _)) ((HM2.out.below hbW5).below ((Below.refl w5.heap.size w5).alloc (Nat.le_refl _) _)) HE1.out.st (by omega) (by omega)).mono ?_; rintro e9 w6 ⟨z1, z2, ox, mx, px, ok, rfl, hx6, hiff, hb6⟩; have hbW6 : Below w4.heap.size w4 w6 := hbW5.trans ((((Below.refl w5.heap.size w5).alloc (Nat.le_refl _) _).trans (hb6.mono (by simp))).mono hbW5.size); have hw5s := hbW5.size; have hD6 : Bx w6 w5.heap.size := Bx.below (Bx.new w5) hb6 (by simp); have hD6c := hD6.cells; clear hb6))
        all_goals
         go_wp2_with fail
         go_meet
         case rel =>
          have hL := lx4 (show k ≤ 4 by omega)
          first
           | exact ⟨k, pc, hs, us, ws, HE1.out, _, _, _, _, _, _, ok, rfl, rfl, hbW6.size, ⟨new_cell _ _ _ _ _ rfl rfl, new_cell _ _ _ _ _ rfl rfl, new_cell _ _ _ _ _ rfl rfl⟩, fun h => ((hx6 h).mono hL).below ((Below.refl _ _).alloc (Nat.le_refl _) _), hiff, hbW6.alloc hbW6.size _⟩
           | exact ⟨k, pc, hs, us, ws, HE1.out, _, _, _, _, _, _, ok, rfl, rfl, Nat.le_refl _, set3_trio hD6.trio _ _ _, fun h => ((hx6 h).mono hL).keepT (hD6.keep _ _ _), hiff, ((hbW6.setCell (Nat.le_refl _) _).setCell (Nat.le_refl _) _).setCell (Nat.le_refl _) _⟩
           | exact ⟨k, pc, hs, us, ws, HE1.out, _, _, _, _, _, _, ok, rfl, rfl, hw5s, set3_trio hD6.trio _ _ _, fun h => ((hx6 h).mono hL).keepT (hD6.keep _ _ _), hiff, ((hbW6.setCell hw5s _).setCell hw5s _).setCell hw5s _⟩
       case rest =>
        rename World => w6
        obtain ⟨k, pc, hs, us, ws, hEI, pb, z1, z2, ox, mx, px, ok, rfl, rfl, hpb, ⟨y0, y1, y2⟩, hM6, hiff, hb6⟩ := hcut
        have hb26 : Below w.heap.size w w6 := K5.out.2.1.trans (hb6.mono K5.out.2.1.size)
        have K6 := Hid.mk (And.intro hEI (And.intro hM6 (And.intro (hiff.trans (mem_iff hEI.st hEI.inv)) hb26)))
        have hw6 := hb6.size
        clear hEI hM6 hiff hb6 hb26 a0 a1 a2 a3 a4 a5
        cases ok
        ·have HNS : Hid (¬ Sp (ent q zs) r q (ent q ys 0)) := Hid.mk (fun h => by have := K6.out.2.2.1.2 h; cases this)
         go_wp2_with fail
         go_ret3
         exact ⟨_, _, _, ms, nx, rfl, .inr ⟨i, hd, r, q, zs, i', hd', r', c, ys, HF.out.1.1, HF.out.1.2.1, HF.out.1.2.2.1, HF.out.2.1, HF.out.2.2.1, HF.out.2.2.2.1, .inr (.inr (.inl ⟨HQR.out, HFF.out, ⟨HNS.out, _, _, _, _, _, K6.out.1.st, K6.out.1.inv⟩, rfl, rfl, rfl, rfl, rfl⟩))⟩, H.out.below K6.out.2.2.2, Fr.of_below K6.out.2.2.2⟩
        ·have HSP : Hid (Sp (ent q zs) r q (ent q ys 0)) := Hid.mk (K6.out.2.2.1.1 rfl)
         have hM7 := K6.out.2.1 rfl
         obtain ⟨-, -, sl7, e7, -⟩ := id hM7
         simp only [Value.agg.injEq, Array.mk.injEq, List.cons.injEq, Value.int.injEq, true_and, and_true] at e7
         obtain ⟨rfl, rfl, rfl⟩ := e7
         have HM7 := Hid.mk hM7
         clear hM7
         go_wp2_with fail
         refine (room_held b ms nx _ (H.out.below K6.out.2.2.2)).mono ?_
         rintro e w7 ⟨rfl, rfl⟩
         obtain ⟨rm, hrm⟩ : ∃ rm, rm = ms.countP Option.isNone := ⟨_, rfl⟩
         have HRM := Hid.mk hrm
         rw [← hrm]
         clear hrm
         by_cases h0 : rm = 0
         ·subst h0
          go_wp2_with fail
          go_ret3
          exact ⟨_, _, _, ms, nx, rfl, .inr ⟨i, hd, r, q, zs, i', hd', r', c, ys, HF.out.1.1, HF.out.1.2.1, HF.out.1.2.2.1, HF.out.2.1, HF.out.2.2.1, HF.out.2.2.2.1, .inr (.inr (.inr (.inl ⟨HQR.out, HFF.out, ⟨HSP.out, _, _, _, _, _, K6.out.1.st, K6.out.1.inv⟩, full_of_room hm24 HRM.out.symm, rfl, rfl, rfl, rfl, rfl⟩)))⟩, H.out.below K6.out.2.2.2, Fr.of_below K6.out.2.2.2⟩
         ·obtain ⟨nf, hnf⟩ := free_of_room hm24 (show 0 < ms.countP Option.isNone from by have := HRM.out; omega)
          have HNF := Hid.mk hnf
          have h0' : ¬ ((rm : Int) < 1) := by omega
          clear hnf h0
          go_wp2_with fail
          refine (keep_held b 1 r ox mx px _ ms nx nf _ (H.out.below K6.out.2.2.2) HM7.out HNF.out hnx).mono ?_
          rintro e w8 ⟨rfl, hH8, hF8⟩
          have K7 := Hid.mk (And.intro hH8 ((Fr.of_below K6.out.2.2.2).trans hF8))
          clear hH8 hF8
          go_wp2_with fail
          go_ret3
          exact ⟨_, _, _, _, nx + 1, rfl, .inr ⟨i, hd, r, q, zs, i', hd', r', c, ys, HF.out.1.1, HF.out.1.2.1, HF.out.1.2.2.1, HF.out.2.1, HF.out.2.2.1, HF.out.2.2.2.1, .inr (.inr (.inr (.inr ⟨HQR.out, HFF.out, ⟨HSP.out, _, _, _, _, _, K6.out.1.st, K6.out.1.inv⟩, rfl, rfl, rfl, nf, _, ⟨k, pc, hs, us, ws, K6.out.1, rfl⟩, HNF.out, rfl, rfl⟩)))⟩, K7.out.1, K7.out.2⟩
  ·have KN := Hid.mk hno
   clear hno
   go_wp2_with fail
   go_ret3
   rw [← HX.out]
   exact ⟨_, _, _, ms, nx, rfl, .inl ⟨.inr KN.out, rfl, rfl, rfl, rfl, rfl⟩, H.out.below K2.out.2.2.1, Fr.of_below K2.out.2.2.1⟩
 ·have KN := Hid.mk hno
  clear hno
  go_wp2_with fail
  go_ret3
  rw [← HX.out]
  exact ⟨_, _, _, ms, nx, rfl, .inl ⟨.inl KN.out, rfl, rfl, rfl, rfl, rfl⟩, H.out.below K2.out.2.2.1, Fr.of_below K2.out.2.2.1⟩
open Go.RowKit
theorem KL.put1 {B : Nat} {w w' : World} {d b : Nat} {l : List KMx} {x : KMx} (h : KL B w d b l) (hl : l.length < 24) {n : Nat} (hn : FreeAt (stk l) n) (hH : Held w' b ((stk l).set n (some (l.length, x))) (l.length + 1)) (hF : Fr b w w') : KL B w' d b (l ++ [x]) := by
 rw [stk_put hl x hn] at hH
 unfold KL
 rw [List.length_append]
 exact KS.step h hH hF
theorem KL.same {B : Nat} {w w' : World} {d b : Nat} {l : List KMx} (h : KL B w d b l) (hH : Held w' b (stk l) l.length) (hF : Fr b w w') : KL B w' d b l := KS.step h hH hF
theorem times_stk (B d b g h r q c : Nat) (zs ys : List Int) (l : List KMx) (w : World) (hk : KL B w d b l) (hl : l.length < 24) (hg : l[g]? = some (r, q, zs)) (hh : l[h]? = some (q, c, ys)) :
 Calls Tryz.prog 25 #[.pointer (some ⟨b, 0, none⟩), .int .i64 g, .int .i64 h] w fun x w' => ∃ k e : Int, x = .returned (.tuple #[.int .i64 k, .int .i64 e]) ∧
  ((¬ (FitsP r q zs ∧ FitsP q c ys) ∧ k = -1 ∧ e = 4 ∧ KL B w' d b l) ∨ ((FitsP r q zs ∧ FitsP q c ys) ∧ k = (l.length : Int) ∧ e = 0 ∧ KL B w' d b (l ++ [(r, c, prodL r q c zs ys)]))) ∧ Fr b w w' := by
 refine (times_one b g h (stk l) l.length w hk.held (by omega)).mono ?_
 rintro x w' ⟨k, e, ms', nx', rfl, hrel, hH, hF⟩
 refine ⟨k, e, rfl, ?_, hF⟩
 rcases hrel with ⟨h1, -⟩ | ⟨i, hd, r1, q1, zs1, j, hd', q', c1, ys1, hi, hx, hxk, hj, hy, hyk, hrel⟩
 ·rcases h1 with h1 | h1
  ·exact (stk_no (by omega) hg h1).elim
  ·exact (stk_no (by omega) hh h1).elim
 ·have e1 := stk_is hi hx hxk hg
  have e2 := stk_is hj hy hyk hh
  simp only [Prod.mk.injEq] at e1 e2
  obtain ⟨rfl, rfl, rfl⟩ := e1
  obtain ⟨rfl, rfl, rfl⟩ := e2
  rcases hrel with ⟨h1, -⟩ | ⟨-, h1, h2, h3, rfl, rfl⟩ | ⟨-, -, h1, -⟩ | ⟨-, h0, h1, h2, n, h3, rfl, rfl⟩
  ·exact absurd rfl h1
  ·exact .inl ⟨h1, h2, h3, hk.same hH hF⟩
  ·exact (stk_room hl h1).elim
  ·exact .inr ⟨h0, h1, h2, hk.put1 hl h3 hH hF⟩
theorem member_stk (B d b g h r c : Nat) (zs ys : List Int) (l : List KMx) (w : World) (hk : KL B w d b l) (hl : l.length < 24) (hg : l[g]? = some (r, c, zs)) (hh : l[h]? = some (1, c, ys)) (f1 : FitsP r c zs) (f2 : FitsP 1 c ys) (hs : Sp (ent c zs) r c (ent c ys 0)) :
 Calls Tryz.prog 24 #[.pointer (some ⟨b, 0, none⟩), .int .i64 g, .int .i64 h] w fun x w' => x = .returned (.tuple #[.bool true, .int .i64 (l.length : Nat), .int .i64 0]) ∧ (∃ xs, MemIs r c zs ys xs ∧ KL B w' d b (l ++ [(1, r, xs)])) ∧ Fr b w w' := by
 refine (member_held b g h (stk l) l.length w hk.held (by omega)).mono ?_
 rintro x w' ⟨y, k, e, ms', nx', rfl, hrel, hH, hF⟩
 rcases hrel with ⟨h1, -⟩ | ⟨i, hd, r1, q1, zs1, j, hd', r', c1, ys1, hi, hx, hxk, hj, hy, hyk, hrel⟩
 ·rcases h1 with h1 | h1
  ·exact (stk_no (by omega) hg h1).elim
  ·exact (stk_no (by omega) hh h1).elim
 ·have e1 := stk_is hi hx hxk hg
  have e2 := stk_is hj hy hyk hh
  simp only [Prod.mk.injEq] at e1 e2
  obtain ⟨rfl, rfl, rfl⟩ := e1
  obtain ⟨rfl, rfl, rfl⟩ := e2
  rcases hrel with ⟨h1, -⟩ | ⟨-, h1, -⟩ | ⟨-, -, ⟨h1, -⟩, -⟩ | ⟨-, -, -, h1, -⟩ | ⟨-, -, -, rfl, rfl, rfl, n, xs, h2, h3, rfl, rfl⟩
  ·exact absurd ⟨rfl, rfl⟩ h1
  ·exact absurd ⟨f1, f2⟩ h1
  ·exact absurd hs h1
  ·exact (stk_room hl h1).elim
  ·exact ⟨rfl, ⟨xs, h2, hk.put1 hl h3 hH hF⟩, hF⟩
theorem equal_stk (B d b g h r r' c : Nat) (zs ys : List Int) (l : List KMx) (w : World) (hk : KL B w d b l) (hl : l.length ≤ 24) (hg : l[g]? = some (r, c, zs)) (hh : l[h]? = some (r', c, ys)) (f1 : FitsP r c zs) (f2 : FitsP r' c ys) :
 Calls Tryz.prog 27 #[.pointer (some ⟨b, 0, none⟩), .int .i64 g, .int .i64 h] w fun x w' => ∃ y : Bool, x = .returned (.tuple #[.bool y, .int .i64 0]) ∧ (y = true ↔ SpEq (ent c zs) (ent c ys) r r' c) ∧ Below w.heap.size w w' := by
 refine (equal_held b g h (stk l) l.length w hk.held).mono ?_
 rintro x w' ⟨y, e, rfl, hrel, hb⟩
 rcases hrel with ⟨h1, -⟩ | ⟨i, hd, r1, q1, zs1, j, hd', r1', c1, ys1, hi, hx, hxk, hj, hy, hyk, hrel⟩
 ·rcases h1 with h1 | h1
  ·exact (stk_no (by omega) hg h1).elim
  ·exact (stk_no (by omega) hh h1).elim
 ·have e1 := stk_is hi hx hxk hg
  have e2 := stk_is hj hy hyk hh
  simp only [Prod.mk.injEq] at e1 e2
  obtain ⟨rfl, rfl, rfl⟩ := e1
  obtain ⟨rfl, rfl, rfl⟩ := e2
  rcases hrel with ⟨h1, -⟩ | ⟨-, h1, -⟩ | ⟨-, -, rfl, h3, -⟩
  ·exact absurd rfl h1
  ·exact absurd ⟨f1, f2⟩ h1
  ·exact ⟨y, rfl, h3, hb⟩
theorem sum_stk (B d b g h r r' c : Nat) (zs ys : List Int) (l : List KMx) (w : World) (hk : KL B w d b l) (hl : l.length < 24) (hg : l[g]? = some (r, c, zs)) (hh : l[h]? = some (r', c, ys)) (f1 : FitsP r c zs) (f2 : FitsP r' c ys) :
 Calls Tryz.prog 28 #[.pointer (some ⟨b, 0, none⟩), .int .i64 g, .int .i64 h] w fun x w' => x = .returned (.tuple #[.int .i64 (l.length : Nat), .int .i64 0]) ∧ (∃ rk bs, BasisIs (r + r') c (zs ++ ys) rk bs ∧ KL B w' d b (l ++ [(rk, c, bs)])) ∧ Fr b w w' := by
 refine (sum_held b g h (stk l) l.length w hk.held (by omega)).mono ?_
 rintro x w' ⟨k, e, ms', nx', rfl, hrel, hH, hF⟩
 rcases hrel with ⟨h1, -⟩ | ⟨i, hd, r1, q1, zs1, j, hd', r1', c1, ys1, hi, hx, hxk, hj, hy, hyk, hrel⟩
 ·rcases h1 with h1 | h1
  ·exact (stk_no (by omega) hg h1).elim
  ·exact (stk_no (by omega) hh h1).elim
 ·have e1 := stk_is hi hx hxk hg
  have e2 := stk_is hj hy hyk hh
  simp only [Prod.mk.injEq] at e1 e2
  obtain ⟨rfl, rfl, rfl⟩ := e1
  obtain ⟨rfl, rfl, rfl⟩ := e2
  rcases hrel with ⟨h1, -⟩ | ⟨-, h1, -⟩ | ⟨-, -, h1, -⟩ | ⟨-, -, rfl, rfl, n, rk, bs, h2, h3, rfl, rfl⟩
  ·exact absurd rfl h1
  ·exact absurd ⟨f1, f2⟩ h1
  ·exact (stk_room hl h1).elim
  ·exact ⟨rfl, ⟨rk, bs, h2, hk.put1 hl h3 hH hF⟩, hF⟩
theorem shown_stk (B d b g r c : Nat) (zs : List Int) (l : List KMx) (w : World) (hk : KL B w d b l) (hl : l.length ≤ 24) (hg : l[g]? = some (r, c, zs)) :
 Calls Tryz.prog 26 #[.pointer (some ⟨d, 0, none⟩), .int .i64 g] w fun x w' => x = .returned (.string ⟨(matT r c zs).toArray⟩) ∧ Below w.heap.size w w' := by
 refine (shown_any B d b g (stk l) l.length w hk).mono ?_
 rintro x w' ⟨t, rfl, ⟨t0, e0, hs, ht⟩, hb⟩
 rcases hs with ⟨rfl, i, ⟨hd, r1, c1, zs1⟩, hi, hx, hxk, h1⟩ | ⟨-, -, hn⟩
 ·have e1 := stk_is hi hx hxk hg
  simp only [Prod.mk.injEq] at e1
  obtain ⟨rfl, rfl, rfl⟩ := e1
  rcases ht with ⟨-, rfl⟩ | ⟨h2, -⟩
  ·rw [h1]; exact ⟨rfl, hb⟩
  ·exact absurd rfl h2
 ·exact (stk_no hl hg hn).elim
theorem shown_out (B d b : Nat) (h : Int) (l : List KMx) (w : World) (hk : KL B w d b l) :
 Calls Tryz.prog 26 #[.pointer (some ⟨d, 0, none⟩), .int .i64 h] w fun x w' => (∃ t, x = .returned (.string ⟨t⟩)) ∧ Below w.heap.size w w' := by
 refine (shown_any B d b h (stk l) l.length w hk).mono ?_
 rintro x w' ⟨t, rfl, -, hb⟩
 exact ⟨⟨_, rfl⟩, hb⟩
end Go.Proofs.YtfjbijpagaipnaaGreatDoor
