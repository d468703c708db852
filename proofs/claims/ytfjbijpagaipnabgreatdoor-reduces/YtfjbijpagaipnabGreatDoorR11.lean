import Derived.Test.YtfjbijpagaipnabGreatDoorR09
import Derived.Test.YtfjbijpagaipnabGreatDoorR10
import Derived.Deep.CutRange
import Derived.Deep.RegionWith
namespace Go.Proofs.YtfjbijpagaipnabGreatDoor
open Go.RowKit
theorem IsM.keepT {w w' : World} {v : Value} {r c L : Nat} {zs : List Int} (h : IsM w v r c zs L) (hk : KT w w') : IsM w' v r c zs L := by
 obtain ⟨h0, h1, sl, h2, h3⟩ := h
 exact ⟨h0, h1, sl, h2, h3.keep hk⟩
abbrev Hm := Option (Nat × Nat × Nat × List Int)
def SlotM (w : World) : Slt → Hm → Prop
 | none, none => True
 | some x, some y => x.1 = y.1 ∧ x.2.1 = y.2.1 ∧ x.2.2.1 = y.2.2.1 ∧ IsM w (.agg #[.int .i64 (x.2.1 : Nat), .int .i64 (x.2.2.1 : Nat), x.2.2.2]) y.2.1 y.2.2.1 y.2.2.2 200000000
 | _, _ => False
def Held (w : World) (b : Nat) (ms : List Hm) (nx : Nat) : Prop := ms.length = 24 ∧ nx ≤ 1000000 ∧ ∃ sl, Sg w b sl nx ∧ ∀ i, i < 24 → SlotM w (sl.getD i none) (ms.getD i none)
theorem SlotM.keep {w w' : World} {x : Slt} {y : Hm} (h : SlotM w x y) (hk : KT w w') : SlotM w' x y := by
 cases x with
 | none => cases y <;> exact h
 | some x => cases y with
   | none => exact h
   | some y => exact ⟨h.1, h.2.1, h.2.2.1, h.2.2.2.keepT hk⟩
theorem Held.lt {w : World} {b : Nat} {ms : List Hm} {nx : Nat} (h : Held w b ms nx) : b < w.heap.size := h.2.2.choose_spec.1.lt
theorem Held.ty {w : World} {b : Nat} {ms : List Hm} {nx : Nat} (h : Held w b ms nx) : Ty w b 103 := h.2.2.choose_spec.1.ty
theorem Held.below {w w' : World} {b : Nat} {ms : List Hm} {nx : Nat} (h : Held w b ms nx) (hb : Below w.heap.size w w') : Held w' b ms nx := by
 obtain ⟨h0, hn, sl, h1, h2⟩ := h
 exact ⟨h0, hn, sl, h1.below hb, fun i hi => (h2 i hi).keep (KT.of_below hb)⟩
theorem Held.fr {w w' : World} {b p : Nat} {ms : List Hm} {nx : Nat} (h : Held w b ms nx) (hf : Fr p w w') (hne : b ≠ p) : Held w' b ms nx := by
 obtain ⟨h0, hn, sl, h1, h2⟩ := h
 exact ⟨h0, hn, sl, h1.fr hf hne, fun i hi => (h2 i hi).keep hf.2⟩
theorem SlotM.none_iff {w : World} {x : Slt} {y : Hm} (h : SlotM w x y) : x = none ↔ y = none := by
 cases x <;> cases y <;> simp_all [SlotM]
theorem SlotM.shape {w : World} {x : Nat × Nat × Nat × Value} {y : Hm} (h : SlotM w (some x) y) : ∃ ao n cap, x.2.2.2 = .slice ao n cap := by
 cases y with
 | none => exact h.elim
 | some y =>
   obtain ⟨-, -, -, -, -, sl, h2, h3⟩ := h
   obtain ⟨ao, cap, rfl, -⟩ := h3.shape
   simp only [Value.agg.injEq, Array.mk.injEq, List.cons.injEq, and_true] at h2
   exact ⟨ao, _, cap, h2.2.2⟩
theorem getD_past24 {sl : List Slt} (h : sl.length = 24) {k : Nat} {x : Nat × Nat × Nat × Value} (hx : sl.getD k none = some x) : k < 24 := by
 rcases Nat.lt_or_ge k 24 with h1 | h1
 ·exact h1
 ·rw [List.getD, List.getElem?_eq_none (by omega)] at hx; cases hx
theorem hm_set {ms : List Hm} {k i : Nat} {x : Hm} (hk : k < ms.length) : (ms.set k x).getD i none = if i = k then x else ms.getD i none := by
 by_cases h : i = k
 ·subst h; simp [List.getD, hk]
 ·have h' : ¬ k = i := fun e => h e.symm
  simp [List.getD, h, h']
def FreeAt (ms : List Hm) (i : Nat) : Prop := i < 24 ∧ ms.getD i none = none ∧ ∀ j, j < i → ms.getD j none ≠ none
theorem FreeAt.uniq {ms : List Hm} {i j : Nat} (h : FreeAt ms i) (k : FreeAt ms j) : i = j := by
 rcases Nat.lt_trichotomy i j with h1 | h1 | h1
 ·exact absurd h.2.1 (k.2.2 i h1)
 ·exact h1
 ·exact absurd k.2.1 (h.2.2 j h1)
theorem FreeAt.of {w : World} {sl : List Slt} {ms : List Hm} (h : ∀ i, i < 24 → SlotM w (sl.getD i none) (ms.getD i none)) {i : Nat} (hf : FirstFree sl i) : FreeAt ms i :=
 ⟨hf.1, (h i hf.1).none_iff.1 hf.2.1, fun j hj e => hf.2.2 j hj ((h j (by have := hf.1; omega)).none_iff.2 e)⟩
theorem no_room {w : World} {sl : List Slt} {ms : List Hm} (hl : sl.length = 24) (h : ∀ i, i < 24 → SlotM w (sl.getD i none) (ms.getD i none)) (hc : sl.countP Option.isNone = 0) : ∀ i, i < 24 → ms.getD i none ≠ none := by
 intro i hi e
 have h1 := (h i hi).none_iff.2 e
 rw [List.countP_eq_zero] at hc
 have h2 := hc (sl[i]'(by omega)) (List.getElem_mem _)
 rw [List.getD, List.getElem?_eq_getElem (show i < sl.length from by omega)] at h1
 simp at h1
 simp [h1] at h2
def Wr (s : ByteArray) : Prop := ∃ r c zs, r ≤ 99 ∧ c ≤ 99 ∧ Writes s r c zs 4000
set_option maxRecDepth 100000 in
set_option maxHeartbeats 1000000 in
theorem type_no (b : Nat) (s : ByteArray) (w : World) (hs : 4000 < s.size ∨ ¬ Wr s) :
 Calls Tryz.prog 15 #[.pointer (some ⟨b, 0, none⟩), .string s] w fun e w' => e = .returned (.tuple #[.int .i64 (-1), .int .i64 1]) ∧ Below w.heap.size w w' := by
 by_cases h4 : s.size ≤ 4000
 ·have hno : ¬ Wr s := by
   rcases hs with h | h
   ·omega
   ·exact h
  have HN := Hid.mk hno
  clear hs hno
  go_enter Tryz.func15, Tryz.ntmps15
  go_wp2_with fail
  refine (read_gen s _ h4).mono ?_
  rintro e w1 ⟨x, ok, rfl, hx, hb⟩
  rcases hx with ⟨rfl, r, c, zs, h1, h2⟩ | ⟨rfl, rfl⟩
  ·exact absurd ⟨r, c, zs, h2.1, h2.2.1, h1⟩ HN.out
  ·have HB := Hid.mk hb
   clear hb
   go_wp2_with fail
   go_ret2
   exact ⟨rfl, HB.out.trans ((Below.refl _ _).alloc HB.out.size _)⟩
 ·have h4' : (4000 : Int) < (s.size : Int) := by omega
  clear h4 hs
  go_enter Tryz.func15, Tryz.ntmps15
  go_wp2_with fail
  go_ret2
  exact ⟨rfl, Below.refl _ _⟩
def TypeOut (b : Nat) (r c : Nat) (zs : List Int) (ms : List Hm) (nx : Nat) (w w' : World) (h e : Int) : Prop :=
 (h = -1 ∧ e = 4 ∧ ¬ FitsP r c zs ∧ Below w.heap.size w w') ∨ (h = -1 ∧ e = 5 ∧ FitsP r c zs ∧ (∀ i, i < 24 → ms.getD i none ≠ none) ∧ Below w.heap.size w w') ∨
 (h = (nx : Int) ∧ e = 0 ∧ FitsP r c zs ∧ (∃ i, FreeAt ms i ∧ Held w' b (ms.set i (some (nx, r, c, zs))) (nx + 1)) ∧ Fr b w w')
set_option maxRecDepth 100000 in
set_option maxHeartbeats 2000000 in
theorem type_yes (b : Nat) (s : ByteArray) (r c : Nat) (zs : List Int) (ms : List Hm) (nx : Nat) (w : World) (hst : Held w b ms nx) (hnx : nx < 1000000) (hs : s.size ≤ 4000) (hr : r ≤ 99) (hc : c ≤ 99) (hw : Writes s r c zs 4000) :
 Calls Tryz.prog 15 #[.pointer (some ⟨b, 0, none⟩), .string s] w fun e w' => ∃ h e' : Int, e = .returned (.tuple #[.int .i64 h, .int .i64 e']) ∧ TypeOut b r c zs ms nx w w' h e' := by
 obtain ⟨hm24, -, sl, hsg, hsl⟩ := hst
 have HS := Hid.mk (And.intro hsg (And.intro hsl hm24))
 have HW := Hid.mk hw
 have hbl := hsg.lt
 clear hsg hsl hw hm24
 go_enter Tryz.func15, Tryz.ntmps15
 go_wp2_with fail
 refine (read_ok s r c zs 4000 _ hs hr hc HW.out).mono ?_
 rintro e w1 ⟨x, rfl, hx, hb1⟩
 obtain ⟨_, _, sl0, rfl, hg⟩ := id hx
 obtain ⟨ao, cap, rfl, -⟩ := hg.shape
 clear hg
 obtain ⟨N, hN⟩ : ∃ N, N = r * c := ⟨_, rfl⟩
 rw [← hN] at hx ⊢
 clear hN
 have K1 := Hid.mk (And.intro hx hb1)
 clear hx hb1
 go_wp2_with fail
 refine (tooBig_any _ r c zs 4000 _ (K1.out.1.below ((Below.refl _ _).alloc (Nat.le_refl _) _)) (by omega)).mono ?_
 rintro e w2 ⟨fb, rfl, hf, hb2⟩
 have h12 : Below w1.heap.size w1 w2 := ((Below.refl w1.heap.size w1).alloc (Nat.le_refl _) _).trans (hb2.mono (by simp))
 have h02 : Below w.heap.size w w2 := K1.out.2.trans (h12.mono K1.out.2.size)
 have m0 : w2.cell? ⟨w1.heap.size, 0, none⟩ = some (.int .i64 r) := cell_later hb2 (by simp)
 have m1 : w2.cell? ⟨w1.heap.size, 1, none⟩ = some (.int .i64 c) := cell_later hb2 (by simp)
 have m2 : w2.cell? ⟨w1.heap.size, 2, none⟩ = some (.slice ao N cap) := cell_later hb2 (by simp)
 have K2 := Hid.mk (And.intro (K1.out.1.below h12) (And.intro h02 hf))
 clear hb2 h12 h02 K1 hf
 cases fb
 ·have HNF : Hid (¬ FitsP r c zs) := Hid.mk (fun h => by have := K2.out.2.2.2 h; cases this)
  go_wp2_with fail
  go_ret2
  exact ⟨_, _, rfl, .inl ⟨rfl, rfl, HNF.out, K2.out.2.1⟩⟩
 ·have HFP : Hid (FitsP r c zs) := Hid.mk (K2.out.2.2.1 rfl)
  go_wp2_with fail
  refine (room_any b sl nx _ (HS.out.1.below K2.out.2.1)).mono ?_
  rintro e w' ⟨rfl, rfl⟩
  obtain ⟨rm, hrm⟩ : ∃ rm, rm = sl.countP Option.isNone := ⟨_, rfl⟩
  have HRM := Hid.mk hrm
  rw [← hrm]
  clear hrm
  by_cases h0 : rm = 0
  ·subst h0
   go_wp2_with fail
   go_ret2
   exact ⟨_, _, rfl, .inr (.inl ⟨rfl, rfl, HFP.out, no_room HS.out.1.1 HS.out.2.1 HRM.out.symm, K2.out.2.1⟩)⟩
  ·obtain ⟨n, hn⟩ := FirstFree.exists HS.out.1.1 (show 0 < sl.countP Option.isNone from by have := HRM.out; omega)
   have HFF := Hid.mk hn
   have h0' : ¬ ((rm : Int) < 1) := by omega
   clear hn h0
   go_wp2_with fail
   refine (keep_any b r c ao N cap sl nx n _ (HS.out.1.below K2.out.2.1) HFF.out (by omega)).mono ?_
   rintro e w3 ⟨rfl, hS3, hF3⟩
   have K3 := Hid.mk (And.intro hS3 (And.intro (K2.out.1.keepT hF3.2) ((Fr.of_below (p := b) K2.out.2.1).trans hF3)))
   clear hS3 hF3 K2 m0 m1 m2
   go_wp2_with fail
   go_ret2
   refine ⟨_, _, rfl, .inr (.inr ⟨rfl, rfl, HFP.out, ⟨n, FreeAt.of HS.out.2.1 HFF.out, ?_⟩, K3.out.2.2⟩)⟩
   refine ⟨by simp [HS.out.2.2], by omega, _, K3.out.1, fun i hi => ?_⟩
   rw [slt_set (by have := HS.out.1.1; have := HFF.out.1; omega), hm_set (by have := HS.out.2.2; have := HFF.out.1; omega)]
   by_cases hin : i = n
   ·rw [if_pos hin, if_pos hin]
    exact ⟨rfl, rfl, rfl, K3.out.2.1.mono (by omega)⟩
   ·rw [if_neg hin, if_neg hin]
    exact (HS.out.2.1 i hi).keep K3.out.2.2.2
open Go.RowKit
set_option maxRecDepth 100000 in
set_option maxHeartbeats 8000000 in
theorem write_any (v : Value) (r c : Nat) (zs : List Int) (L : Nat) (w : World) (hm : IsM w v r c zs L) (hL : L ≤ 200000000) (htab : Tab w) :
 Calls Tryz.prog 75 #[v] w fun e w' => e = .returned (.string ⟨(matT r c zs).toArray⟩) ∧ Below w.heap.size w w' := by
 have HM := Hid.mk (And.intro hm htab)
 obtain ⟨hr, hc, sl, rfl, hg⟩ := hm
 obtain ⟨ao, cap, rfl, -⟩ := hg.shape
 have hzl : zs.length = r * c := hg.1
 have HZ := Hid.mk hzl
 clear hg hzl htab
 obtain ⟨N, hN⟩ : ∃ N, N = r * c := ⟨_, rfl⟩
 rw [← hN] at HM ⊢
 clear hN
 obtain ⟨W0, hW0⟩ : ∃ W0, W0 = w.alloc (.cells #[.int .i64 r, .int .i64 c, .slice ao N cap] 66) := ⟨_, rfl⟩
 have HW := Hid.mk hW0
 clear hW0
 have hw0 : W0.heap.size = w.heap.size + 1 := by rw [HW.out]; simp
 have HB0 : Hid (Below w.heap.size w W0) := Hid.mk (by rw [HW.out]; exact (Below.refl _ _).alloc (Nat.le_refl _) _)
 have hrl := dec_le2 r (by omega)
 have hcl := dec_le2 c (by omega)
 go_enter Tryz.func75, Tryz.ntmps75
 go_upto_region 1 with fail
 go_cut [3] from 6 to 15 (fun t wx => t = .string ⟨(partT r c zs 0).toArray⟩ ∧ Below (w.heap.size + 1) W0 wx)
 case first =>
  go_region_with (first
   | (go_at_call 85; refine (rows_raw _ _ _ _ _ _).mono ?_; rintro e w' ⟨rfl, rfl⟩)
   | (go_at_call 84; refine (cols_raw _ _ _ _ _ _).mono ?_; rintro e w' ⟨rfl, rfl⟩)
   | (go_at_call 109; refine (Tryz.strconv_Itoa_small _ (by omega) _).mono ?_; rintro e w' ⟨rfl, rfl⟩))
  all_goals
   go_wp2_with fail
   go_meet
   case rel =>
    rw [HW.out]
    exact ⟨part0 r c zs, by repeat (first | exact Below.refl _ _ | refine Below.drew ?_ | refine Below.alloc ?_ (by simp <;> omega) _)⟩
 case rest =>
  obtain ⟨rfl, hbc⟩ := hcut
  have HBC := Hid.mk hbc
  clear hbc
  obtain ⟨T0, hT0⟩ : ∃ T0, T0 = partT r c zs 0 := ⟨_, rfl⟩
  have hT0l : T0.length ≤ 10 := by
   rw [hT0]; unfold partT; simp [bodyT]; omega
  have HT0 := Hid.mk hT0
  rw [← hT0]
  clear hT0
  go_wp2_with fail
  go_loopw [3, 4] (fun t i wr => ∃ (k : Nat) (T : List UInt8), k ≤ r ∧ i = .int .i64 k ∧ t = .string ⟨T.toArray⟩ ∧ T.length ≤ 250000000000 * k + 10 ∧ Below (w.heap.size + 1) W0 wr ∧ Hid (T = partT r c zs (k * c))) (fun _ i _ => r - (intOf i).toNat)
  case atStart => exact ⟨0, T0, Nat.zero_le _, rfl, rfl, by omega, HBC.out, Hid.mk (by rw [HT0.out, Nat.zero_mul])⟩
  case round =>
   rename World => wr0
   obtain ⟨k, T, hk, rfl, rfl, hT, hbel, HI⟩ := hrel
   have hwr := hbel.size
   have hbx : MBox wr0 w.heap.size r c (.slice ao N cap) := (MBox.new w r c (.slice ao N cap) rfl).below (by rw [← HW.out]; exact hbel) (by omega)
   obtain ⟨a0, a1, a2, -⟩ := hbx.cells
   have HB := Hid.mk hbel
   clear hbel hbx
   go_wp2_with fail
   refine (rows_raw _ _ _ _ _ _).mono ?_
   rintro e w' ⟨rfl, rfl⟩
   by_cases hkr : k < r
   ·go_wp2_with fail
    go_loopw [3, 5] (fun t i ws => ∃ (j : Nat) (T' : List UInt8), j ≤ c ∧ i = .int .i64 j ∧ t = .string ⟨T'.toArray⟩ ∧ T'.length ≤ 250000000000 * k + 10 + 2500000000 * j ∧ Below (w.heap.size + 1) W0 ws ∧ Hid (T' = partT r c zs (k * c + j))) (fun _ i _ => c - (intOf i).toNat)
    case atStart => exact ⟨0, T, Nat.zero_le _, rfl, rfl, by omega, HB.out.alloc (by omega) _, Hid.mk (by rw [HI.out, Nat.add_zero])⟩
    case round =>
     clear a0 a1 a2
     obtain ⟨j, T', hj, rfl, rfl, hT', hbel, HJ⟩ := hrel
     have hws := hbel.size
     have hbx : MBox wr w.heap.size r c (.slice ao N cap) := (MBox.new w r c (.slice ao N cap) rfl).below (by rw [← HW.out]; exact hbel) (by omega)
     obtain ⟨a0, a1, a2, -⟩ := hbx.cells
     have HB2 := Hid.mk (And.intro hbel hbx)
     clear hbel hbx
     go_wp2_with fail
     refine (cols_raw _ _ _ _ _ _).mono ?_
     rintro e w' ⟨rfl, rfl⟩
     have b0 := cell1 a0
     have b1 := cell1 a1
     have b2 := cell1 a2
     by_cases hjc : j < c
     ·have hcases : k = 0 ∨ (0 < k ∧ j = 0) ∨ (0 < k ∧ 0 < j) := by omega
      obtain ⟨jj, hjj⟩ : ∃ jj, jj = j := ⟨_, rfl⟩
      have HJJ := Hid.mk hjj
      have hjjc : jj < c := by omega
      obtain ⟨S, hS⟩ : ∃ S : List UInt8, S = if 0 < k ∧ jj = 0 then [59] else [] := ⟨_, rfl⟩
      have HS := Hid.mk hS
      have hnx := HZ.out
      have hidx : k * c + jj < zs.length := by rw [hnx]; exact idx_lt hkr hjjc
      have HNX := Hid.mk (partT_next (r := r) (i := k) hjjc hidx)
      clear hnx hidx
      rcases hcases with h0 | ⟨h0, h1⟩ | ⟨h0, h1⟩
      case' inl =>
       have f1 : decide (0 < k) = false := decide_eq_false (by omega)
       have f2 : decide ((0 : Int) < (k : Int)) = false := decide_eq_false (by omega)
       rw [if_neg (by omega)] at hS
       have HS1 := Hid.mk hS
       clear hS h0 hjj
      case' inr.inl =>
       rw [if_pos ⟨h0, by omega⟩] at hS
       have HS1 := Hid.mk hS
       clear hS hjj
       subst h1
      case' inr.inr =>
       have f1 : ((j : Int) == 0) = false := beq_eq_false_iff_ne.2 (by omega)
       rw [if_neg (by omega)] at hS
       have HS1 := Hid.mk hS
       clear hS hjj
      all_goals
       go_wp2_with fail
       first
        | refine (at_in _ r c k j zs L _ (HM.out.1.below ?_) hkr hjc).mono ?_
        | refine (at_in _ r c k 0 zs L _ (HM.out.1.below ?_) hkr hjc).mono ?_
       ·exact HB0.out.trans ((HB2.out.1.alloc (by omega) _).mono (by omega))
       rintro e w2 ⟨x, rfl, hx, hb2⟩
       obtain ⟨nb, bo, mm, ecap, rfl⟩ := hx.shape
       have hb02 : Below w.heap.size w w2 := (HB0.out.trans ((HB2.out.1.alloc (by omega) _).mono (by omega))).trans (hb2.mono (by simp; omega))
       have hb2' : Below (w.heap.size + 1) W0 w2 := (HB2.out.1.alloc (by omega) _).trans (hb2.mono (by simp; omega))
       have K2 := Hid.mk (And.intro hx (And.intro hb02 hb2'))
       clear hx hb2 hb02 hb2'
       go_wp2_with fail
       refine (decimal_any _ _ L _ K2.out.1 hL (HM.out.2.below K2.out.2.1)).mono ?_
       rintro e w3 ⟨rfl, hb3⟩
       have hb3' : Below (w.heap.size + 1) W0 w3 := K2.out.2.2.trans (hb3.mono (by have := K2.out.2.2.size; omega))
       have K3 := Hid.mk hb3'
       clear hb3 hb3'
       obtain ⟨D, hD⟩ : ∃ D, D = Lib.itoa (zs.getD (k * c + jj) 0) := ⟨_, rfl⟩
       rw [HJJ.out] at hD
       rw [← hD]
       have hDl : D.length ≤ 2400000001 := by rw [hD]; exact itoa_len K2.out.1 hL
       rw [← HJJ.out] at hD
       have HD := Hid.mk hD
       clear hD
       go_wp2_with fail
       go_roundw
       case measure => simp [intOf]; omega
       case rel =>
        have hv : T' ++ (S ++ (32 :: D)) = partT r c zs (k * c + (jj + 1)) := by
         rw [show k * c + (jj + 1) = k * c + jj + 1 from rfl, HNX.out, ← HS.out, ← HD.out, HJJ.out, ← HJ.out]
        have hl : (T' ++ (S ++ (32 :: D))).length ≤ T'.length + 2400000010 := by
         have : S.length ≤ 1 := by rw [HS1.out]; simp
         simp only [List.length_append, List.length_cons]; omega
        rw [HJJ.out] at hv
        have hl2 : ∀ n : Nat, n = jj + 1 → (T' ++ (S ++ (32 :: D))).length ≤ 250000000000 * k + 10 + 2500000000 * n := by
         intro n hn
         rw [HJJ.out] at hn
         subst hn
         exact Nat.le_trans hl (by omega)
        first
         | refine ⟨j + 1, T' ++ (S ++ (32 :: D)), by omega, by go_num, ?_, hl2 _ (by rw [HJJ.out]), K3.out, Hid.mk hv⟩
         | refine ⟨0 + 1, T' ++ (S ++ (32 :: D)), by omega, by go_num, ?_, hl2 _ (by rw [HJJ.out]), K3.out, Hid.mk hv⟩
        rw [HS1.out]
        first | exact wval0 _ _ | exact wval1 _ _
     ·have hje : j = c := by omega
      have HJE := Hid.mk hje
      clear hje
      go_wp2_with fail
      go_roundw
      case measure => simp [intOf]; omega
      case rel => exact ⟨k + 1, T', by omega, by go_num, rfl, by have := HJE.out; omega, HB2.out.1.alloc (by omega) _, Hid.mk (by rw [HJ.out, HJE.out, Nat.add_mul, Nat.one_mul])⟩
   ·have hke : k = r := by omega
    have HKE := Hid.mk hke
    clear hke
    go_wp2_with fail
    go_ret
    refine ⟨rret_w (by rw [HI.out, HKE.out, partT_all (by rw [HZ.out]; exact Nat.le_refl _)]), ?_⟩
    exact HB0.out.trans ((HB.out.alloc (by omega) _).mono (by omega))
open Go.RowKit
def ShowOut (ms : List Hm) (h : Int) (t : List UInt8) (e : Int) : Prop := (e = 0 ∧ ∃ k x, k < 24 ∧ ms.getD k none = some x ∧ (x.1 : Int) = h ∧ t = matT x.2.1 x.2.2.1 x.2.2.2) ∨ (e = 2 ∧ t = [] ∧ ∀ k, k < 24 → ∀ x, ms.getD k none = some x → (x.1 : Int) ≠ h)
theorem none_of {w : World} {sl : List Slt} {ms : List Hm} {h : Int} (hsl : ∀ i, i < 24 → SlotM w (sl.getD i none) (ms.getD i none)) (hno : ∀ k, k < 24 → ∀ x, sl.getD k none = some x → (x.1 : Int) ≠ h) : ∀ k, k < 24 → ∀ x, ms.getD k none = some x → (x.1 : Int) ≠ h := by
 intro k hk x hx
 have h1 := hsl k hk
 rw [hx] at h1
 cases hs : sl.getD k none with
 | none => rw [hs] at h1; exact h1.elim
 | some y =>
   rw [hs] at h1
   have := hno k hk y hs
   rw [h1.1] at this
   exact this
theorem some_of {w : World} {sl : List Slt} {ms : List Hm} {k : Nat} {x : Nat × Nat × Nat × Value} (hsl : ∀ i, i < 24 → SlotM w (sl.getD i none) (ms.getD i none)) (hk : k < 24) (hx : sl.getD k none = some x) : ∃ y, ms.getD k none = some y ∧ x.1 = y.1 ∧ x.2.1 = y.2.1 ∧ x.2.2.1 = y.2.2.1 ∧ IsM w (.agg #[.int .i64 (x.2.1 : Nat), .int .i64 (x.2.2.1 : Nat), x.2.2.2]) y.2.1 y.2.2.1 y.2.2.2 200000000 := by
 have h1 := hsl k hk
 rw [hx] at h1
 cases hs : ms.getD k none with
 | none => rw [hs] at h1; exact h1.elim
 | some y => rw [hs] at h1; exact ⟨y, rfl, h1⟩
set_option maxRecDepth 100000 in
set_option maxHeartbeats 1000000 in
theorem show_any (b : Nat) (h : Int) (ms : List Hm) (nx : Nat) (w : World) (hst : Held w b ms nx) (htab : Tab w) :
 Calls Tryz.prog 43 #[.pointer (some ⟨b, 0, none⟩), .int .i64 h] w fun e w' => ∃ t e', e = .returned (.tuple #[.string ⟨t.toArray⟩, .int .i64 e']) ∧ ShowOut ms h t e' ∧ Below w.heap.size w w' := by
 obtain ⟨hm24, -, sl, hsg, hsl⟩ := hst
 have HS := Hid.mk (And.intro hsg (And.intro hsl (And.intro hm24 htab)))
 have HSH : Hid (∀ k x, sl.getD k none = some x → ∃ ao n cap, x.2.2.2 = .slice ao n cap) := Hid.mk (fun k x hx => by
  have hk := getD_past24 hsg.1 hx
  have h1 := hsl k hk
  rw [hx] at h1
  exact h1.shape)
 clear hsg hsl hm24 htab
 go_enter Tryz.func43, Tryz.ntmps43
 go_wp2_with fail
 refine (find_any b h sl nx _ HS.out.1 HSH.out).mono ?_
 rintro e w1 ⟨⟨v, ok, rfl, hf⟩, hb1⟩
 rcases hf with ⟨rfl, k, hk, x, hx, hxh, rfl⟩ | ⟨rfl, rfl, hno⟩
 ·obtain ⟨y, hy, e1, e2, e3, hM⟩ := some_of HS.out.2.1 hk hx
  obtain ⟨ao, n, cap, hv⟩ := HSH.out k x hx
  obtain ⟨hd, r, c, v⟩ := x
  obtain ⟨hd', r', c', zs⟩ := y
  simp only at e1 e2 e3 hM hv hxh
  subst e1; subst e2; subst e3; subst hv
  have K := Hid.mk (And.intro hM (And.intro hb1 (And.intro hy hxh)))
  clear hM hb1 hy hxh hx
  go_wp2_with fail
  have hB : Below w.heap.size w (w1.alloc (.cells #[.int .i64 r, .int .i64 c, .slice ao n cap] 66)) := K.out.2.1.alloc K.out.2.1.size _
  refine (write_any _ r c zs 200000000 _ (K.out.1.below hB) (by omega) (HS.out.2.2.2.below hB)).mono ?_
  rintro e w2 ⟨rfl, hb2⟩
  have K2 := Hid.mk (hB.trans (hb2.mono hB.size))
  clear hb2 hB
  obtain ⟨T, hT⟩ : ∃ T, T = matT r c zs := ⟨_, rfl⟩
  have HT := Hid.mk hT
  rw [← hT]
  clear hT
  go_wp2_with fail
  go_ret2
  exact ⟨_, _, rfl, .inl ⟨rfl, k, (hd, r, c, zs), hk, K.out.2.2.1, K.out.2.2.2, HT.out⟩, K2.out⟩
 ·have K := Hid.mk (And.intro hb1 hno)
  clear hb1 hno
  go_wp2_with fail
  go_ret2
  exact ⟨[], _, rfl, .inr ⟨rfl, rfl, none_of HS.out.2.1 K.out.2⟩, K.out.1.alloc K.out.1.size _⟩
def FreeH (b : Nat) (ms : List Hm) (nx : Nat) (h : Int) (w w' : World) (e : Int) : Prop := (e = 0 ∧ ∃ k, k < 24 ∧ (∃ x, ms.getD k none = some x ∧ (x.1 : Int) = h) ∧ Held w' b (ms.set k none) nx ∧ Fr b w w') ∨ (e = 2 ∧ w' = w ∧ ∀ k, k < 24 → ∀ x, ms.getD k none = some x → (x.1 : Int) ≠ h)
theorem free_held (b : Nat) (h : Int) (ms : List Hm) (nx : Nat) (w : World) (hst : Held w b ms nx) :
 Calls Tryz.prog 29 #[.pointer (some ⟨b, 0, none⟩), .int .i64 h] w fun e w' => ∃ i : Int, e = .returned (.int .i64 i) ∧ FreeH b ms nx h w w' i := by
 obtain ⟨hm24, hnx, sl, hsg, hsl⟩ := hst
 refine (free_any b h sl nx w hsg).mono ?_
 rintro e w' ⟨i, rfl, hf⟩
 refine ⟨i, rfl, ?_⟩
 rcases hf with ⟨rfl, k, hk, ⟨x, hx, hxh⟩, hS, hF⟩ | ⟨rfl, rfl, hno⟩
 ·obtain ⟨y, hy, e1, -⟩ := some_of hsl hk hx
  refine .inl ⟨rfl, k, hk, ⟨y, hy, by rw [← e1]; exact hxh⟩, ⟨by simp [hm24], hnx, _, hS, fun i hi => ?_⟩, hF⟩
  rw [slt_set (by have := hsg.1; omega), hm_set (by omega)]
  by_cases hik : i = k
  ·rw [if_pos hik, if_pos hik]; trivial
  ·rw [if_neg hik, if_neg hik]; exact (hsl i hi).keep hF.2
 ·exact .inr ⟨rfl, rfl, none_of hsl hno⟩
set_option maxRecDepth 100000 in
theorem zero_facts : Tryz.zeroCells103.size = 121 ∧ Tryz.zeroCells103[120]? = some (.int .i64 0) ∧ ∀ i, i < 24 → Tryz.zeroCells103[i * 5]? = some (.bool false) := by
 refine ⟨rfl, rfl, fun i hi => ?_⟩
 obtain rfl | rfl | rfl | rfl | rfl | rfl | rfl | rfl | rfl | rfl | rfl | rfl | rfl | rfl | rfl | rfl | rfl | rfl | rfl | rfl | rfl | rfl | rfl | rfl : i = 0 ∨ i = 1 ∨ i = 2 ∨ i = 3 ∨ i = 4 ∨ i = 5 ∨ i = 6 ∨ i = 7 ∨ i = 8 ∨ i = 9 ∨ i = 10 ∨ i = 11 ∨ i = 12 ∨ i = 13 ∨ i = 14 ∨ i = 15 ∨ i = 16 ∨ i = 17 ∨ i = 18 ∨ i = 19 ∨ i = 20 ∨ i = 21 ∨ i = 22 ∨ i = 23 := by omega
 all_goals rfl
theorem rep_none {α : Type} (n i : Nat) : (List.replicate n (none : Option α)).getD i none = none := by
 rw [List.getD, List.getElem?_replicate]
 by_cases h : i < n
 ·rw [if_pos h]; rfl
 ·rw [if_neg h]; rfl
set_option maxRecDepth 100000 in
set_option maxHeartbeats 1000000 in
theorem new_held (w : World) :
 Calls Tryz.prog 30 #[] w fun e w' => e = .returned (.pointer (some ⟨w.heap.size, 0, none⟩)) ∧ Held w' w.heap.size (List.replicate 24 none) 0 ∧ Below w.heap.size w w' := by
 go_enter Tryz.func30, Tryz.ntmps30
 go_wp2_with fail
 go_ret
 refine ⟨rfl, ⟨by simp, by omega, List.replicate 24 none, ⟨by simp, Tryz.zeroCells103, heap_alloc_new w _, zero_facts.1, zero_facts.2.1, fun i hi => ?_⟩, fun i hi => ?_⟩, (Below.refl _ _).alloc (Nat.le_refl _) _⟩
 ·rw [rep_none]
  exact zero_facts.2.2 i hi
 ·rw [rep_none, rep_none]
  trivial
open Go.RowKit
def Chg (S : Nat → Prop) (w w' : World) : Prop := (w'.os = w.os ∧ w'.tape = w.tape ∧ w'.output = w.output ∧ w.heap.size ≤ w'.heap.size ∧ ∀ k, k < w.heap.size → ¬ S k → w'.heap[k]? = w.heap[k]?) ∧ KT w w'
theorem Chg.trans {S : Nat → Prop} {a b c : World} (h : Chg S a b) (k : Chg S b c) : Chg S a c := by
 obtain ⟨⟨h1, h2, h3, h4, h5⟩, h6⟩ := h
 obtain ⟨⟨k1, k2, k3, k4, k5⟩, k6⟩ := k
 exact ⟨⟨k1.trans h1, k2.trans h2, k3.trans h3, Nat.le_trans h4 k4, fun i hi hs => (k5 i (by omega) hs).trans (h5 i hi hs)⟩, h6.trans k6⟩
theorem Chg.of_below {S : Nat → Prop} {w w' : World} (h : Below w.heap.size w w') : Chg S w w' := ⟨⟨h.os, h.tape, h.output, h.size, fun k hk _ => h.block k hk⟩, KT.of_below h⟩
theorem Chg.of_fr {S : Nat → Prop} {p : Nat} {w w' : World} (h : Fr p w w') (hp : S p) : Chg S w w' := ⟨⟨h.1.os, h.1.tape, h.1.output, h.1.size, fun k hk hs => h.1.block k hk (fun e => hs (by injection e with e; rw [e]; exact hp))⟩, h.2⟩
theorem Chg.size {S : Nat → Prop} {w w' : World} (h : Chg S w w') : w.heap.size ≤ w'.heap.size := h.1.2.2.2.1
theorem Chg.block {S : Nat → Prop} {w w' : World} (h : Chg S w w') {k : Nat} (hk : k < w.heap.size) (hs : ¬ S k) : w'.heap[k]? = w.heap[k]? := h.1.2.2.2.2 k hk hs
theorem Chg.mono {S S' : Nat → Prop} {w w' : World} (h : Chg S w w') (hs : ∀ k, S k → S' k) : Chg S' w w' := ⟨⟨h.1.1, h.1.2.1, h.1.2.2.1, h.1.2.2.2.1, fun k hk hn => h.1.2.2.2.2 k hk (fun e => hn (hs k e))⟩, h.2⟩
def Tw (w : World) (T b1 b2 : Nat) (bad : Bool) : Prop := w.heap[T]? = some (.cells #[.pointer (some ⟨b1, 0, none⟩), .pointer (some ⟨b2, 0, none⟩), .bool bad] 149 (0, 0))
theorem Tw.lt {w : World} {T b1 b2 : Nat} {bad : Bool} (h : Tw w T b1 b2 bad) : T < w.heap.size := (Array.getElem?_eq_some_iff.1 h).1
theorem Tw.cells {w : World} {T b1 b2 : Nat} {bad : Bool} (h : Tw w T b1 b2 bad) : w.cell? ⟨T, 0, none⟩ = some (.pointer (some ⟨b1, 0, none⟩)) ∧ w.cell? ⟨T, 1, none⟩ = some (.pointer (some ⟨b2, 0, none⟩)) ∧ w.cell? ⟨T, 2, none⟩ = some (.bool bad) ∧ (∀ j, w.frozen? ⟨T, j, none⟩ = false) := by
 unfold Tw at h
 refine ⟨?_, ?_, ?_, fun j => ?_⟩ <;> simp [World.cell?, World.frozen?, h]
theorem Tw.ne {w : World} {T b1 b2 b : Nat} {bad : Bool} (h : Tw w T b1 b2 bad) (hb : Ty w b 103) : T ≠ b := by
 intro e
 subst e
 obtain ⟨c, fr, h3⟩ := hb
 unfold Tw at h
 rw [h] at h3
 simp at h3
theorem Tw.of_block {w w' : World} {T b1 b2 : Nat} {bad : Bool} (h : Tw w T b1 b2 bad) (hb : w'.heap[T]? = w.heap[T]?) : Tw w' T b1 b2 bad := by unfold Tw; rw [hb]; exact h
def TabF (B : Nat) (w : World) : Prop := ∀ w', Below B w w' → Tab w'
theorem TabF.of {w : World} (h : Tab w) : TabF w.heap.size w := fun _ hb => h.below hb
theorem TabF.below {B : Nat} {w w' : World} (h : TabF B w) (hb : Below B w w') : TabF B w' := fun w'' hb' => h w'' (hb.trans hb')
theorem TabF.tab {B : Nat} {w : World} (h : TabF B w) : Tab w := h w (Below.refl _ _)
theorem Fr.belowB {p B : Nat} {a b : World} (h : Fr p a b) (hp : B ≤ p) (hB : B ≤ a.heap.size) : Below B a b := h.below hp hB
theorem Chg.below {S : Nat → Prop} {B : Nat} {w w' : World} (h : Chg S w w') (hS : ∀ k, S k → B ≤ k) (hB : B ≤ w.heap.size) : Below B w w' := ⟨h.1.1, h.1.2.1, h.1.2.2.1, h.size, fun k hk => h.block (by omega) (fun e => by have := hS k e; omega)⟩
def TwH (B : Nat) (w : World) (T b1 b2 : Nat) (ms : List Hm) (nx : Nat) : Prop := Tw w T b1 b2 false ∧ Held w b1 ms nx ∧ Held w b2 ms nx ∧ b1 ≠ b2 ∧ TabF B w ∧ B ≤ T ∧ B ≤ b1 ∧ B ≤ b2
def St2 (b1 b2 : Nat) : Nat → Prop := fun k => k = b1 ∨ k = b2
theorem TwH.below {B : Nat} {w w' : World} {T b1 b2 : Nat} {ms : List Hm} {nx : Nat} (h : TwH B w T b1 b2 ms nx) (hb : Below w.heap.size w w') : TwH B w' T b1 b2 ms nx := by
 obtain ⟨h1, h2, h3, h4, h5, h6, h7, h8⟩ := h
 exact ⟨h1.of_block (hb.block T h1.lt), h2.below hb, h3.below hb, h4, h5.below (hb.mono (by have := h1.lt; omega)), h6, h7, h8⟩
def TypeRel (s : ByteArray) (ms : List Hm) (nx : Nat) (h e : Int) (ms' : List Hm) (nx' : Nat) : Prop :=
 ((4000 < s.size ∨ ¬ Wr s) ∧ h = -1 ∧ e = 1 ∧ ms' = ms ∧ nx' = nx) ∨ ∃ r c zs, s.size ≤ 4000 ∧ r ≤ 99 ∧ c ≤ 99 ∧ Writes s r c zs 4000 ∧
   ((¬ FitsP r c zs ∧ h = -1 ∧ e = 4 ∧ ms' = ms ∧ nx' = nx) ∨ (FitsP r c zs ∧ (∀ i, i < 24 → ms.getD i none ≠ none) ∧ h = -1 ∧ e = 5 ∧ ms' = ms ∧ nx' = nx) ∨
    (FitsP r c zs ∧ h = (nx : Int) ∧ e = 0 ∧ ∃ i, FreeAt ms i ∧ ms' = ms.set i (some (nx, r, c, zs)) ∧ nx' = nx + 1))
theorem type_rel (s : ByteArray) (ms : List Hm) (nx : Nat) (hnx : nx < 1000000) : ∃ h e ms' nx', TypeRel s ms nx h e ms' nx' ∧ ∀ b w, Held w b ms nx →
 Calls Tryz.prog 15 #[.pointer (some ⟨b, 0, none⟩), .string s] w fun x w' => x = .returned (.tuple #[.int .i64 h, .int .i64 e]) ∧ Held w' b ms' nx' ∧ Fr b w w' := by
 by_cases hn : 4000 < s.size ∨ ¬ Wr s
 ·refine ⟨-1, 1, ms, nx, .inl ⟨hn, rfl, rfl, rfl, rfl⟩, fun b w hst => ?_⟩
  refine (type_no b s w hn).mono ?_
  rintro x w' ⟨rfl, hb⟩
  exact ⟨rfl, hst.below hb, Fr.of_below hb⟩
 ·have hs : s.size ≤ 4000 := by omega
  have hw : Wr s := Classical.byContradiction fun h => hn (.inr h)
  obtain ⟨r, c, zs, hr, hc, hwr⟩ := hw
  by_cases hf : FitsP r c zs
  ·by_cases hfree : ∃ i, FreeAt ms i
   ·obtain ⟨i, hi⟩ := hfree
    refine ⟨nx, 0, ms.set i (some (nx, r, c, zs)), nx + 1, .inr ⟨r, c, zs, hs, hr, hc, hwr, .inr (.inr ⟨hf, rfl, rfl, i, hi, rfl, rfl⟩)⟩, fun b w hst => ?_⟩
    refine (type_yes b s r c zs ms nx w hst hnx hs hr hc hwr).mono ?_
    rintro x w' ⟨h, e, rfl, ho⟩
    rcases ho with ⟨-, -, q, -⟩ | ⟨-, -, -, q, -⟩ | ⟨rfl, rfl, -, ⟨j, hj, hH⟩, hF⟩
    ·exact absurd hf q
    ·exact absurd hi.2.1 (q i hi.1)
    ·rw [hi.uniq hj]; exact ⟨rfl, hH, hF⟩
   ·refine ⟨-1, 5, ms, nx, .inr ⟨r, c, zs, hs, hr, hc, hwr, .inr (.inl ⟨hf, fun i hi e => ?_, rfl, rfl, rfl, rfl⟩)⟩, fun b w hst => ?_⟩
    ·exfalso
     have : ∃ i, FreeAt ms i := by
      induction i using Nat.strongRecOn with
      | ind i ih =>
        by_cases h : ∃ j, j < i ∧ ms.getD j none = none
        ·obtain ⟨j, hj, hjn⟩ := h
         exact ih j hj (by omega) hjn
        ·exact ⟨i, hi, e, fun j hj hjn => h ⟨j, hj, hjn⟩⟩
     exact hfree this
    ·refine (type_yes b s r c zs ms nx w hst hnx hs hr hc hwr).mono ?_
     rintro x w' ⟨h, e, rfl, ho⟩
     rcases ho with ⟨-, -, q, -⟩ | ⟨rfl, rfl, -, -, hb⟩ | ⟨rfl, rfl, -, ⟨j, hj, hH⟩, hF⟩
     ·exact absurd hf q
     ·exact ⟨rfl, hst.below hb, Fr.of_below hb⟩
     ·exact absurd ⟨j, hj⟩ hfree
  ·refine ⟨-1, 4, ms, nx, .inr ⟨r, c, zs, hs, hr, hc, hwr, .inl ⟨hf, rfl, rfl, rfl, rfl⟩⟩, fun b w hst => ?_⟩
   refine (type_yes b s r c zs ms nx w hst hnx hs hr hc hwr).mono ?_
   rintro x w' ⟨h, e, rfl, ho⟩
   rcases ho with ⟨rfl, rfl, -, hb⟩ | ⟨-, -, q, -⟩ | ⟨-, -, q, -⟩
   ·exact ⟨rfl, hst.below hb, Fr.of_below hb⟩
   ·exact absurd q hf
   ·exact absurd q hf
set_option maxRecDepth 100000 in
set_option maxHeartbeats 1000000 in
theorem like_true (T : Nat) (w : World) :
 Calls Tryz.prog 201 #[.pointer (some ⟨T, 0, none⟩), .bool true] w fun e w' => e = .returned (.tuple #[]) ∧ w' = w := by
 go_enter Tryz.func201, Tryz.ntmps201
 go_wp2_with fail
 go_end0
 exact ⟨rfl, rfl⟩
set_option maxRecDepth 100000 in
set_option maxHeartbeats 1000000 in
theorem one_same (T : Nat) (a e : Int) (w : World) :
 Calls Tryz.prog 195 #[.pointer (some ⟨T, 0, none⟩), .int .i64 a, .int .i64 e, .int .i64 a, .int .i64 e] w fun x w' => x = .returned (.tuple #[.int .i64 a, .int .i64 e]) ∧ w' = w := by
 have i1 : (a == a) = true := by simp
 have i2 : (e == e) = true := by simp
 go_enter Tryz.func195, Tryz.ntmps195
 go_wp2_with fail
 refine (like_true T _).mono ?_
 rintro x w' ⟨rfl, rfl⟩
 go_wp2_with fail
 go_ret2
 exact ⟨rfl, rfl⟩
set_option maxRecDepth 100000 in
set_option maxHeartbeats 1000000 in
theorem twType_any (B T b1 b2 : Nat) (s : ByteArray) (ms : List Hm) (nx : Nat) (w : World) (hst : TwH B w T b1 b2 ms nx) (hnx : nx < 1000000) :
 Calls Tryz.prog 148 #[.pointer (some ⟨T, 0, none⟩), .string s] w fun x w' => ∃ h e ms' nx', x = .returned (.tuple #[.int .i64 h, .int .i64 e]) ∧ TypeRel s ms nx h e ms' nx' ∧ TwH B w' T b1 b2 ms' nx' ∧ Chg (St2 b1 b2) w w' := by
 obtain ⟨h, e, ms', nx', hrel, hcall⟩ := type_rel s ms nx hnx
 obtain ⟨c0, c1, c2, -⟩ := hst.1.cells
 have H := Hid.mk (And.intro hst (And.intro hrel hcall))
 clear hst hrel hcall
 go_enter Tryz.func148, Tryz.ntmps148
 go_wp2_with fail
 refine (H.out.2.2 b1 _ H.out.1.2.1).mono ?_
 rintro x w1 ⟨rfl, hH1, hF1⟩
 have hne1 : T ≠ b1 := H.out.1.1.ne H.out.1.2.1.ty
 have hT1 : Tw w1 T b1 b2 false := H.out.1.1.of_block (hF1.1.block T H.out.1.1.lt (by simpa using hne1))
 have hH2 : Held w1 b2 ms nx := H.out.1.2.2.1.fr hF1 (Ne.symm H.out.1.2.2.2.1)
 clear c0 c1 c2
 obtain ⟨c0, c1, c2, -⟩ := hT1.cells
 have K1 := Hid.mk (And.intro hH1 (And.intro hF1 (And.intro hT1 hH2)))
 clear hH1 hF1 hT1 hH2
 go_wp2_with fail
 refine (H.out.2.2 b2 _ K1.out.2.2.2).mono ?_
 rintro x w2 ⟨rfl, hH3, hF2⟩
 have hne2 : T ≠ b2 := K1.out.2.2.1.ne K1.out.2.2.2.ty
 have hT2 : Tw w2 T b1 b2 false := K1.out.2.2.1.of_block (hF2.1.block T K1.out.2.2.1.lt (by simpa using hne2))
 have hH1' : Held w2 b1 ms' nx' := K1.out.1.fr hF2 H.out.1.2.2.2.1
 have K2 := Hid.mk (And.intro hH3 (And.intro hF2 (And.intro hT2 hH1')))
 clear hH3 hF2 hT2 hH1' c0 c1 c2
 go_wp2_with fail
 refine (one_same T h e _).mono ?_
 rintro x w' ⟨rfl, rfl⟩
 go_wp2_with fail
 go_ret2
 obtain ⟨hTw, -, -, hbb, htab, hB1, hB2, hB3⟩ := H.out.1
 have hbel1 : Below B w w1 := K1.out.2.1.belowB hB2 (by have := hTw.lt; omega)
 have hbel2 : Below B w1 w' := K2.out.2.1.belowB hB3 (by have := hbel1.size; have := hTw.lt; omega)
 exact ⟨h, e, ms', nx', rfl, H.out.2.1, ⟨K2.out.2.2.1, K2.out.2.2.2, K2.out.1, hbb, (htab.below hbel1).below hbel2, hB1, hB2, hB3⟩, (Chg.of_fr K1.out.2.1 (.inl rfl)).trans (Chg.of_fr K2.out.2.1 (.inr rfl))⟩
end Go.Proofs.YtfjbijpagaipnabGreatDoor
