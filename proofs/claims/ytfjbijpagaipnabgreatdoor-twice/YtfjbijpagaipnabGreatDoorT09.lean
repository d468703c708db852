import Derived.Test.YtfjbijpagaipnabGreatDoorT08
import Derived.Deep.CutRange
import Derived.Deep.RegionWith
import Derived.Test.YtfjbijpagaipnabGreatDoorT03
import Derived.Test.YtfjbijpagaipnabGreatDoorT01
namespace Go.Proofs.YtfjbijpagaipnabGreatDoor
open Go.RowKit
set_option maxRecDepth 100000 in
set_option maxHeartbeats 8000000 in
theorem write_any (v : Value) (r c : Nat) (zs : List Int) (L : Nat) (w : World) (hm : IsM w v r c zs L) (hL : L ≤ 200000000) (htab : Tab w) :
 Calls Tryz.prog 75 #[v] w fun e w' => e = .returned (.string ⟨(matT r c zs).toArray⟩) ∧ Below w.heap.size w w' := by
 have HM := Hid.mk (And.intro hm htab)
 obtain ⟨hr, hc, sl, rfl, hg⟩ := hm
 obtain ⟨ao, cap, rfl, -⟩ := hg.shape
 have hzl : zs.length = r * c := hg.1
 have HZ := Hid.mk hzl
 clear hg hzl htab
 obtain ⟨N, hN⟩ : ∃ N, N = r * c := ⟨_, rfl⟩
 rw [← hN] at HM ⊢
 clear hN
 obtain ⟨W0, hW0⟩ : ∃ W0, W0 = w.alloc (.cells #[.int .i64 r, .int .i64 c, .slice ao N cap] 66) := ⟨_, rfl⟩
 have HW := Hid.mk hW0
 clear hW0
 have hw0 : W0.heap.size = w.heap.size + 1 := by rw [HW.out]; simp
 have HB0 : Hid (Below w.heap.size w W0) := Hid.mk (by rw [HW.out]; exact (Below.refl _ _).alloc (Nat.le_refl _) _)
 have hrl := dec_le2 r (by omega)
 have hcl := dec_le2 c (by omega)
 go_enter Tryz.func75, Tryz.ntmps75
 go_upto_region 1 with fail
 go_cut [3] from 6 to 15 (fun t wx => t = .string ⟨(partT r c zs 0).toArray⟩ ∧ Below (w.heap.size + 1) W0 wx)
 case first =>
  go_region_with (first
   | (go_at_call 85; refine (rows_raw _ _ _ _ _ _).mono ?_; rintro e w' ⟨rfl, rfl⟩)
   | (go_at_call 84; refine (cols_raw _ _ _ _ _ _).mono ?_; rintro e w' ⟨rfl, rfl⟩)
   | (go_at_call 109; refine (Tryz.strconv_Itoa_small _ (by omega) _).mono ?_; rintro e w' ⟨rfl, rfl⟩))
  all_goals
   go_wp2_with fail
   go_meet
   case rel =>
    rw [HW.out]
    exact ⟨part0 r c zs, by repeat (first | exact Below.refl _ _ | refine Below.drew ?_ | refine Below.alloc ?_ (by simp <;> omega) _)⟩
 case rest =>
  obtain ⟨rfl, hbc⟩ := hcut
  have HBC := Hid.mk hbc
  clear hbc
  obtain ⟨T0, hT0⟩ : ∃ T0, T0 = partT r c zs 0 := ⟨_, rfl⟩
  have hT0l : T0.length ≤ 10 := by
   rw [hT0]; unfold partT; simp [bodyT]; omega
  have HT0 := Hid.mk hT0
  rw [← hT0]
  clear hT0
  go_wp2_with fail
  go_loopw [3, 4] (fun t i wr => ∃ (k : Nat) (T : List UInt8), k ≤ r ∧ i = .int .i64 k ∧ t = .string ⟨T.toArray⟩ ∧ T.length ≤ 250000000000 * k + 10 ∧ Below (w.heap.size + 1) W0 wr ∧ Hid (T = partT r c zs (k * c))) (fun _ i _ => r - (intOf i).toNat)
  case atStart => exact ⟨0, T0, Nat.zero_le _, rfl, rfl, by omega, HBC.out, Hid.mk (by rw [HT0.out, Nat.zero_mul])⟩
  case round =>
   rename World => wr0
   obtain ⟨k, T, hk, rfl, rfl, hT, hbel, HI⟩ := hrel
   have hwr := hbel.size
   have hbx : MBox wr0 w.heap.size r c (.slice ao N cap) := (MBox.new w r c (.slice ao N cap) rfl).below (by rw [← HW.out]; exact hbel) (by omega)
   obtain ⟨a0, a1, a2, -⟩ := hbx.cells
   have HB := Hid.mk hbel
   clear hbel hbx
   go_wp2_with fail
   refine (rows_raw _ _ _ _ _ _).mono ?_
   rintro e w' ⟨rfl, rfl⟩
   by_cases hkr : k < r
   ·go_wp2_with fail
    go_loopw [3, 5] (fun t i ws => ∃ (j : Nat) (T' : List UInt8), j ≤ c ∧ i = .int .i64 j ∧ t = .string ⟨T'.toArray⟩ ∧ T'.length ≤ 250000000000 * k + 10 + 2500000000 * j ∧ Below (w.heap.size + 1) W0 ws ∧ Hid (T' = partT r c zs (k * c + j))) (fun _ i _ => c - (intOf i).toNat)
    case atStart => exact ⟨0, T, Nat.zero_le _, rfl, rfl, by omega, HB.out.alloc (by omega) _, Hid.mk (by rw [HI.out, Nat.add_zero])⟩
    case round =>
     clear a0 a1 a2
     obtain ⟨j, T', hj, rfl, rfl, hT', hbel, HJ⟩ := hrel
     have hws := hbel.size
     have hbx : MBox wr w.heap.size r c (.slice ao N cap) := (MBox.new w r c (.slice ao N cap) rfl).below (by rw [← HW.out]; exact hbel) (by omega)
     obtain ⟨a0, a1, a2, -⟩ := hbx.cells
     have HB2 := Hid.mk (And.intro hbel hbx)
     clear hbel hbx
     go_wp2_with fail
     refine (cols_raw _ _ _ _ _ _).mono ?_
     rintro e w' ⟨rfl, rfl⟩
     have b0 := cell1 a0
     have b1 := cell1 a1
     have b2 := cell1 a2
     by_cases hjc : j < c
     ·have hcases : k = 0 ∨ (0 < k ∧ j = 0) ∨ (0 < k ∧ 0 < j) := by omega
      obtain ⟨jj, hjj⟩ : ∃ jj, jj = j := ⟨_, rfl⟩
      have HJJ := Hid.mk hjj
      have hjjc : jj < c := by omega
      obtain ⟨S, hS⟩ : ∃ S : List UInt8, S = if 0 < k ∧ jj = 0 then [59] else [] := ⟨_, rfl⟩
      have HS := Hid.mk hS
      have hnx := HZ.out
      have hidx : k * c + jj < zs.length := by rw [hnx]; exact idx_lt hkr hjjc
      have HNX := Hid.mk (partT_next (r := r) (i := k) hjjc hidx)
      clear hnx hidx
      rcases hcases with h0 | ⟨h0, h1⟩ | ⟨h0, h1⟩
      case' inl =>
       have f1 : decide (0 < k) = false := decide_eq_false (by omega)
       have f2 : decide ((0 : Int) < (k : Int)) = false := decide_eq_false (by omega)
       rw [if_neg (by omega)] at hS
       have HS1 := Hid.mk hS
       clear hS h0 hjj
      case' inr.inl =>
       rw [if_pos ⟨h0, by omega⟩] at hS
       have HS1 := Hid.mk hS
       clear hS hjj
       subst h1
      case' inr.inr =>
       have f1 : ((j : Int) == 0) = false := beq_eq_false_iff_ne.2 (by omega)
       rw [if_neg (by omega)] at hS
       have HS1 := Hid.mk hS
       clear hS hjj
      all_goals
       go_wp2_with fail
       first
        | refine (at_in _ r c k j zs L _ (HM.out.1.below ?_) hkr hjc).mono ?_
        | refine (at_in _ r c k 0 zs L _ (HM.out.1.below ?_) hkr hjc).mono ?_
       ·exact HB0.out.trans ((HB2.out.1.alloc (by omega) _).mono (by omega))
       rintro e w2 ⟨x, rfl, hx, hb2⟩
       obtain ⟨nb, bo, mm, ecap, rfl⟩ := hx.shape
       have hb02 : Below w.heap.size w w2 := (HB0.out.trans ((HB2.out.1.alloc (by omega) _).mono (by omega))).trans (hb2.mono (by simp; omega))
       have hb2' : Below (w.heap.size + 1) W0 w2 := (HB2.out.1.alloc (by omega) _).trans (hb2.mono (by simp; omega))
       have K2 := Hid.mk (And.intro hx (And.intro hb02 hb2'))
       clear hx hb2 hb02 hb2'
       go_wp2_with fail
       refine (decimal_any _ _ L _ K2.out.1 hL (HM.out.2.below K2.out.2.1)).mono ?_
       rintro e w3 ⟨rfl, hb3⟩
       have hb3' : Below (w.heap.size + 1) W0 w3 := K2.out.2.2.trans (hb3.mono (by have := K2.out.2.2.size; omega))
       have K3 := Hid.mk hb3'
       clear hb3 hb3'
       obtain ⟨D, hD⟩ : ∃ D, D = Lib.itoa (zs.getD (k * c + jj) 0) := ⟨_, rfl⟩
       rw [HJJ.out] at hD
       rw [← hD]
       have hDl : D.length ≤ 2400000001 := by rw [hD]; exact itoa_len K2.out.1 hL
       rw [← HJJ.out] at hD
       have HD := Hid.mk hD
       clear hD
       go_wp2_with fail
       go_roundw
       case measure => simp [intOf]; omega
       case rel =>
        have hv : T' ++ (S ++ (32 :: D)) = partT r c zs (k * c + (jj + 1)) := by
         rw [show k * c + (jj + 1) = k * c + jj + 1 from rfl, HNX.out, ← HS.out, ← HD.out, HJJ.out, ← HJ.out]
        have hl : (T' ++ (S ++ (32 :: D))).length ≤ T'.length + 2400000010 := by
         have : S.length ≤ 1 := by rw [HS1.out]; simp
         simp only [List.length_append, List.length_cons]; omega
        rw [HJJ.out] at hv
        have hl2 : ∀ n : Nat, n = jj + 1 → (T' ++ (S ++ (32 :: D))).length ≤ 250000000000 * k + 10 + 2500000000 * n := by
         intro n hn
         rw [HJJ.out] at hn
         subst hn
         exact Nat.le_trans hl (by omega)
        first
         | refine ⟨j + 1, T' ++ (S ++ (32 :: D)), by omega, by go_num, ?_, hl2 _ (by rw [HJJ.out]), K3.out, Hid.mk hv⟩
         | refine ⟨0 + 1, T' ++ (S ++ (32 :: D)), by omega, by go_num, ?_, hl2 _ (by rw [HJJ.out]), K3.out, Hid.mk hv⟩
        rw [HS1.out]
        first | exact wval0 _ _ | exact wval1 _ _
     ·have hje : j = c := by omega
      have HJE := Hid.mk hje
      clear hje
      go_wp2_with fail
      go_roundw
      case measure => simp [intOf]; omega
      case rel => exact ⟨k + 1, T', by omega, by go_num, rfl, by have := HJE.out; omega, HB2.out.1.alloc (by omega) _, Hid.mk (by rw [HJ.out, HJE.out, Nat.add_mul, Nat.one_mul])⟩
   ·have hke : k = r := by omega
    have HKE := Hid.mk hke
    clear hke
    go_wp2_with fail
    go_ret
    refine ⟨rret_w (by rw [HI.out, HKE.out, partT_all (by rw [HZ.out]; exact Nat.le_refl _)]), ?_⟩
    exact HB0.out.trans ((HB.out.alloc (by omega) _).mono (by omega))
open Go.RowKit
def ShowOut (ms : List Hm) (h : Int) (t : List UInt8) (e : Int) : Prop := (e = 0 ∧ ∃ k x, k < 24 ∧ ms.getD k none = some x ∧ (x.1 : Int) = h ∧ t = matT x.2.1 x.2.2.1 x.2.2.2) ∨ (e = 2 ∧ t = [] ∧ ∀ k, k < 24 → ∀ x, ms.getD k none = some x → (x.1 : Int) ≠ h)
theorem none_of {w : World} {sl : List Slt} {ms : List Hm} {h : Int} (hsl : ∀ i, i < 24 → SlotM w (sl.getD i none) (ms.getD i none)) (hno : ∀ k, k < 24 → ∀ x, sl.getD k none = some x → (x.1 : Int) ≠ h) : ∀ k, k < 24 → ∀ x, ms.getD k none = some x → (x.1 : Int) ≠ h := by
 intro k hk x hx
 have h1 := hsl k hk
 rw [hx] at h1
 cases hs : sl.getD k none with
 | none => rw [hs] at h1; exact h1.elim
 | some y =>
   rw [hs] at h1
   have := hno k hk y hs
   rw [h1.1] at this
   exact this
theorem some_of {w : World} {sl : List Slt} {ms : List Hm} {k : Nat} {x : Nat × Nat × Nat × Value} (hsl : ∀ i, i < 24 → SlotM w (sl.getD i none) (ms.getD i none)) (hk : k < 24) (hx : sl.getD k none = some x) : ∃ y, ms.getD k none = some y ∧ x.1 = y.1 ∧ x.2.1 = y.2.1 ∧ x.2.2.1 = y.2.2.1 ∧ IsM w (.agg #[.int .i64 (x.2.1 : Nat), .int .i64 (x.2.2.1 : Nat), x.2.2.2]) y.2.1 y.2.2.1 y.2.2.2 200000000 := by
 have h1 := hsl k hk
 rw [hx] at h1
 cases hs : ms.getD k none with
 | none => rw [hs] at h1; exact h1.elim
 | some y => rw [hs] at h1; exact ⟨y, rfl, h1⟩
set_option maxRecDepth 100000 in
set_option maxHeartbeats 1000000 in
theorem show_any (b : Nat) (h : Int) (ms : List Hm) (nx : Nat) (w : World) (hst : Held w b ms nx) (htab : Tab w) :
 Calls Tryz.prog 43 #[.pointer (some ⟨b, 0, none⟩), .int .i64 h] w fun e w' => ∃ t e', e = .returned (.tuple #[.string ⟨t.toArray⟩, .int .i64 e']) ∧ ShowOut ms h t e' ∧ Below w.heap.size w w' := by
 obtain ⟨hm24, -, sl, hsg, hsl⟩ := hst
 have HS := Hid.mk (And.intro hsg (And.intro hsl (And.intro hm24 htab)))
 have HSH : Hid (∀ k x, sl.getD k none = some x → ∃ ao n cap, x.2.2.2 = .slice ao n cap) := Hid.mk (fun k x hx => by
  have hk := getD_past24 hsg.1 hx
  have h1 := hsl k hk
  rw [hx] at h1
  exact h1.shape)
 clear hsg hsl hm24 htab
 go_enter Tryz.func43, Tryz.ntmps43
 go_wp2_with fail
 refine (find_any b h sl nx _ HS.out.1 HSH.out).mono ?_
 rintro e w1 ⟨⟨v, ok, rfl, hf⟩, hb1⟩
 rcases hf with ⟨rfl, k, hk, x, hx, hxh, rfl⟩ | ⟨rfl, rfl, hno⟩
 ·obtain ⟨y, hy, e1, e2, e3, hM⟩ := some_of HS.out.2.1 hk hx
  obtain ⟨ao, n, cap, hv⟩ := HSH.out k x hx
  obtain ⟨hd, r, c, v⟩ := x
  obtain ⟨hd', r', c', zs⟩ := y
  simp only at e1 e2 e3 hM hv hxh
  subst e1; subst e2; subst e3; subst hv
  have K := Hid.mk (And.intro hM (And.intro hb1 (And.intro hy hxh)))
  clear hM hb1 hy hxh hx
  go_wp2_with fail
  have hB : Below w.heap.size w (w1.alloc (.cells #[.int .i64 r, .int .i64 c, .slice ao n cap] 66)) := K.out.2.1.alloc K.out.2.1.size _
  refine (write_any _ r c zs 200000000 _ (K.out.1.below hB) (by omega) (HS.out.2.2.2.below hB)).mono ?_
  rintro e w2 ⟨rfl, hb2⟩
  have K2 := Hid.mk (hB.trans (hb2.mono hB.size))
  clear hb2 hB
  obtain ⟨T, hT⟩ : ∃ T, T = matT r c zs := ⟨_, rfl⟩
  have HT := Hid.mk hT
  rw [← hT]
  clear hT
  go_wp2_with fail
  go_ret2
  exact ⟨_, _, rfl, .inl ⟨rfl, k, (hd, r, c, zs), hk, K.out.2.2.1, K.out.2.2.2, HT.out⟩, K2.out⟩
 ·have K := Hid.mk (And.intro hb1 hno)
  clear hb1 hno
  go_wp2_with fail
  go_ret2
  exact ⟨[], _, rfl, .inr ⟨rfl, rfl, none_of HS.out.2.1 K.out.2⟩, K.out.1.alloc K.out.1.size _⟩
def FreeH (b : Nat) (ms : List Hm) (nx : Nat) (h : Int) (w w' : World) (e : Int) : Prop := (e = 0 ∧ ∃ k, k < 24 ∧ (∃ x, ms.getD k none = some x ∧ (x.1 : Int) = h) ∧ Held w' b (ms.set k none) nx ∧ Fr b w w') ∨ (e = 2 ∧ w' = w ∧ ∀ k, k < 24 → ∀ x, ms.getD k none = some x → (x.1 : Int) ≠ h)
theorem free_held (b : Nat) (h : Int) (ms : List Hm) (nx : Nat) (w : World) (hst : Held w b ms nx) :
 Calls Tryz.prog 29 #[.pointer (some ⟨b, 0, none⟩), .int .i64 h] w fun e w' => ∃ i : Int, e = .returned (.int .i64 i) ∧ FreeH b ms nx h w w' i := by
 obtain ⟨hm24, hnx, sl, hsg, hsl⟩ := hst
 refine (free_any b h sl nx w hsg).mono ?_
 rintro e w' ⟨i, rfl, hf⟩
 refine ⟨i, rfl, ?_⟩
 rcases hf with ⟨rfl, k, hk, ⟨x, hx, hxh⟩, hS, hF⟩ | ⟨rfl, rfl, hno⟩
 ·obtain ⟨y, hy, e1, -⟩ := some_of hsl hk hx
  refine .inl ⟨rfl, k, hk, ⟨y, hy, by rw [← e1]; exact hxh⟩, ⟨by simp [hm24], hnx, _, hS, fun i hi => ?_⟩, hF⟩
  rw [slt_set (by have := hsg.1; omega), hm_set (by omega)]
  by_cases hik : i = k
  ·rw [if_pos hik, if_pos hik]; trivial
  ·rw [if_neg hik, if_neg hik]; exact (hsl i hi).keep hF.2
 ·exact .inr ⟨rfl, rfl, none_of hsl hno⟩
set_option maxRecDepth 100000 in
theorem zero_facts : Tryz.zeroCells103.size = 121 ∧ Tryz.zeroCells103[120]? = some (.int .i64 0) ∧ ∀ i, i < 24 → Tryz.zeroCells103[i * 5]? = some (.bool false) := by
 refine ⟨rfl, rfl, fun i hi => ?_⟩
 obtain rfl | rfl | rfl | rfl | rfl | rfl | rfl | rfl | rfl | rfl | rfl | rfl | rfl | rfl | rfl | rfl | rfl | rfl | rfl | rfl | rfl | rfl | rfl | rfl : i = 0 ∨ i = 1 ∨ i = 2 ∨ i = 3 ∨ i = 4 ∨ i = 5 ∨ i = 6 ∨ i = 7 ∨ i = 8 ∨ i = 9 ∨ i = 10 ∨ i = 11 ∨ i = 12 ∨ i = 13 ∨ i = 14 ∨ i = 15 ∨ i = 16 ∨ i = 17 ∨ i = 18 ∨ i = 19 ∨ i = 20 ∨ i = 21 ∨ i = 22 ∨ i = 23 := by omega
 all_goals rfl
theorem rep_none {α : Type} (n i : Nat) : (List.replicate n (none : Option α)).getD i none = none := by
 rw [List.getD, List.getElem?_replicate]
 by_cases h : i < n
 ·rw [if_pos h]; rfl
 ·rw [if_neg h]; rfl
set_option maxRecDepth 100000 in
set_option maxHeartbeats 1000000 in
theorem new_held (w : World) :
 Calls Tryz.prog 30 #[] w fun e w' => e = .returned (.pointer (some ⟨w.heap.size, 0, none⟩)) ∧ Held w' w.heap.size (List.replicate 24 none) 0 ∧ Below w.heap.size w w' := by
 go_enter Tryz.func30, Tryz.ntmps30
 go_wp2_with fail
 go_ret
 refine ⟨rfl, ⟨by simp, by omega, List.replicate 24 none, ⟨by simp, Tryz.zeroCells103, heap_alloc_new w _, zero_facts.1, zero_facts.2.1, fun i hi => ?_⟩, fun i hi => ?_⟩, (Below.refl _ _).alloc (Nat.le_refl _) _⟩
 ·rw [rep_none]
  exact zero_facts.2.2 i hi
 ·rw [rep_none, rep_none]
  trivial
open Go.RowKit
def FoundM (w : World) (ms : List Hm) (g : Int) (r q : Nat) (v : Value) (ok : Bool) : Prop := (ok = true ∧ ∃ i hd zs, i < 24 ∧ ms.getD i none = some (hd, r, q, zs) ∧ (hd : Int) = g ∧ IsM w v r q zs 200000000) ∨ (ok = false ∧ ∀ k, k < 24 → ∀ x, ms.getD k none = some x → (x.1 : Int) ≠ g)
theorem find_held (b : Nat) (g : Int) (ms : List Hm) (nx : Nat) (w : World) (hst : Held w b ms nx) :
 Calls Tryz.prog 36 #[.pointer (some ⟨b, 0, none⟩), .int .i64 g] w fun e w' => (∃ r q ao n cap ok, e = .returned (.tuple #[.agg #[.int .i64 ((r : Nat) : Int), .int .i64 ((q : Nat) : Int), .slice ao n cap], .bool ok]) ∧ FoundM w' ms g r q (.agg #[.int .i64 (r : Nat), .int .i64 (q : Nat), .slice ao n cap]) ok) ∧ Below w.heap.size w w' := by
 obtain ⟨hm24, -, sl, hsg, hsl⟩ := hst
 have hsh : ∀ k x, sl.getD k none = some x → ∃ ao n cap, x.2.2.2 = .slice ao n cap := fun k x hx => by
  have hk := getD_past24 hsg.1 hx
  have h1 := hsl k hk
  rw [hx] at h1
  exact h1.shape
 refine (find_any b g sl nx w hsg hsh).mono ?_
 rintro e w1 ⟨⟨v, ok, rfl, hf⟩, hb1⟩
 refine ⟨?_, hb1⟩
 rcases hf with ⟨rfl, k, hk, x, hx, hxh, rfl⟩ | ⟨rfl, rfl, hno⟩
 ·obtain ⟨y, hy, e1, e2, e3, hM⟩ := some_of hsl hk hx
  obtain ⟨ao, n, cap, hv⟩ := hsh k x hx
  obtain ⟨hd, r, c, v⟩ := x
  obtain ⟨hd', r', c', zs⟩ := y
  simp only at e1 e2 e3 hM hv hxh
  subst e1; subst e2; subst e3; subst hv
  exact ⟨r, c, ao, n, cap, true, rfl, .inl ⟨rfl, k, hd, zs, hk, hy, hxh, hM.below hb1⟩⟩
 ·exact ⟨0, 0, none, 0, 0, false, rfl, .inr ⟨rfl, none_of hsl hno⟩⟩
theorem keep_held (b r c : Nat) (ao : Option Addr) (m cap : Nat) (zs : List Int) (ms : List Hm) (nx n : Nat) (w : World) (hst : Held w b ms nx) (hM : IsM w (.agg #[.int .i64 r, .int .i64 c, .slice ao m cap]) r c zs 200000000) (hn : FreeAt ms n) (hnx : nx < 1000000) :
 Calls Tryz.prog 35 #[.pointer (some ⟨b, 0, none⟩), .agg #[.int .i64 r, .int .i64 c, .slice ao m cap]] w fun e w' => e = .returned (.int .i64 (nx : Nat)) ∧ Held w' b (ms.set n (some (nx, r, c, zs))) (nx + 1) ∧ Fr b w w' := by
 obtain ⟨hm24, -, sl, hsg, hsl⟩ := hst
 have hff : FirstFree sl n := ⟨hn.1, (hsl n hn.1).none_iff.2 hn.2.1, fun j hj e => hn.2.2 j hj ((hsl j (by have := hn.1; omega)).none_iff.1 e)⟩
 refine (keep_any b r c ao m cap sl nx n w hsg hff (by omega)).mono ?_
 rintro e w3 ⟨rfl, hS3, hF3⟩
 refine ⟨rfl, ⟨by simp [hm24], by omega, _, hS3, fun i hi => ?_⟩, hF3⟩
 rw [slt_set (by have := hsg.1; have := hff.1; omega), hm_set (by have := hff.1; omega)]
 by_cases hin : i = n
 ·rw [if_pos hin, if_pos hin]
  exact ⟨rfl, rfl, rfl, hM.keepT hF3.2⟩
 ·rw [if_neg hin, if_neg hin]
  exact (hsl i hi).keep hF3.2
theorem room_held (b : Nat) (ms : List Hm) (nx : Nat) (w : World) (hst : Held w b ms nx) :
 Calls Tryz.prog 34 #[.pointer (some ⟨b, 0, none⟩)] w fun e w' => e = .returned (.int .i64 ((ms.countP Option.isNone : Nat) : Int)) ∧ w' = w := by
 obtain ⟨hm24, -, sl, hsg, hsl⟩ := hst
 refine (room_any b sl nx w hsg).mono ?_
 rintro e w' ⟨rfl, rfl⟩
 refine ⟨?_, rfl⟩
 have key : ∀ (a : List Slt) (m : List Hm), a.length = m.length → (∀ i, i < a.length → ((a.getD i none).isNone = (m.getD i none).isNone)) → a.countP Option.isNone = m.countP Option.isNone := by
  intro a
  induction a with
  | nil => intro m hl _; cases m with
    | nil => rfl
    | cons => simp at hl
  | cons x a ih => intro m hl h; cases m with
    | nil => simp at hl
    | cons y m =>
      have h0 := h 0 (by simp)
      have h1 := ih m (by simpa using hl) (fun i hi => by have := h (i + 1) (by simpa using hi); simpa using this)
      rw [List.countP_cons, List.countP_cons, h1]
      simp at h0
      rw [h0]
 rw [key sl ms (by rw [hsg.1, hm24]) (fun i hi => by
  have h1 := (hsl i (by have := hsg.1; omega)).none_iff
  cases hx : sl.getD i none with
  | none => rw [h1.1 hx]; rfl
  | some x => cases hy : ms.getD i none with
    | none => rw [h1.2 hy] at hx; cases hx
    | some y => rfl)]
open Go.RowKit
theorem new_cell (w : World) (c : Array Value) (t : TypeId) (i b : Nat) {v : Value} (hb : b = w.heap.size) (h : c[i]? = some v) : (w.alloc (.cells c t)).cell? ⟨b, i, none⟩ = some v := by
 rw [hb, World.cell?_alloc_new]; exact h
def Duo (w : World) (b : Nat) (x y : Value) : Prop := w.heap[b]? = some (.cells #[x, y] 79 (0, 0))
theorem Duo.below {B : Nat} {w w' : World} {b : Nat} {x y : Value} (h : Duo w b x y) (hb : Below B w w') (hB : b < B) : Duo w' b x y := by unfold Duo; rw [hb.block b hB]; exact h
theorem Duo.new (w : World) (x y : Value) {b : Nat} (hb : b = w.heap.size) : Duo (w.alloc (.cells #[x, y] 79)) b x y := by rw [hb]; exact heap_alloc_new w _
theorem Duo.drew {w : World} {b : Nat} {x y : Value} (h : Duo w b x y) : Duo w.drew b x y := h
theorem Duo.put {w : World} {b : Nat} {x y : Value} (h : Duo w b x y) (x' y' : Value) : Duo ((w.setCell ⟨b, 0, none⟩ x').setCell ⟨b, 1, none⟩ y') b x' y' := by
 unfold Duo at *
 rw [heap_setCell_same _ _ _ _ _ _ (heap_setCell_same _ _ _ _ _ _ h)]
 simp
theorem Duo.ty {w : World} {b : Nat} {x y : Value} (h : Duo w b x y) : Ty w b 79 := ⟨_, _, h⟩
theorem Duo.cells {w : World} {b : Nat} {x y : Value} (h : Duo w b x y) : w.cell? ⟨b, 0, none⟩ = some x ∧ w.cell? ⟨b, 1, none⟩ = some y ∧ w.frozen? ⟨b, 0, none⟩ = false ∧ w.frozen? ⟨b, 1, none⟩ = false := by
 unfold Duo at h
 refine ⟨?_, ?_, ?_, ?_⟩ <;> simp [World.cell?, World.frozen?, h]
theorem IsI.duo {w : World} {v : Value} {z : Int} {L b : Nat} {x y : Value} (h : IsI w v z L) (hd : Duo w b x y) (x' y' : Value) : IsI ((w.setCell ⟨b, 0, none⟩ x').setCell ⟨b, 1, none⟩ y') v z L := h.keep (KU.setCell (KU.setCell (KU.refl _) hd.ty (by decide) _) (hd.ty.setCell _ _) (by decide) _)
theorem grown_put2 {W w : World} {b i j : Nat} {x y : Value} (h : W.grownBy w (some b)) : W.grownBy ((w.setCell ⟨b, i, none⟩ x).setCell ⟨b, j, none⟩ y) (some b) := by
 refine grown_trans h ⟨rfl, rfl, rfl, by simp [World.setCell], fun k _ hne => ?_⟩
 rw [Below.heap_setCell _ _ _ _ (fun e => hne (by simp [e])), Below.heap_setCell _ _ _ _ (fun e => hne (by simp [e]))]
def dot (f g : Nat → Nat → Int) (i j : Nat) : Nat → Int
 | 0 => 0
 | t + 1 => dot f g i j t + f i t * g t j
theorem dot_congr {f g f' g' : Nat → Nat → Int} {i j : Nat} (t : Nat) (h1 : ∀ k, k < t → f i k = f' i k) (h2 : ∀ k, k < t → g k j = g' k j) : dot f g i j t = dot f' g' i j t := by
 induction t with
 | zero => rfl
 | succ t ih => rw [dot, dot, ih (fun k hk => h1 k (by omega)) (fun k hk => h2 k (by omega)), h1 t (by omega), h2 t (by omega)]
open Go.RowKit
def Trio (w : World) (b : Nat) (x y z : Value) : Prop := w.cell? ⟨b, 0, none⟩ = some x ∧ w.cell? ⟨b, 1, none⟩ = some y ∧ w.cell? ⟨b, 2, none⟩ = some z
theorem Trio.later {w w' : World} {b : Nat} {x y z : Value} (h : Trio w b x y z) (hb : Below w.heap.size w w') : Trio w' b x y z := ⟨cell_later hb h.1, cell_later hb h.2.1, cell_later hb h.2.2⟩
theorem Trio.grown {w w' : World} {b s : Nat} {x y z : Value} (h : Trio w b x y z) (hg : w.grownBy w' (some s)) (hne : b ≠ s) : Trio w' b x y z := ⟨hg.cell h.1 (by simpa using hne), hg.cell h.2.1 (by simpa using hne), hg.cell h.2.2 (by simpa using hne)⟩
set_option maxRecDepth 100000 in
set_option maxHeartbeats 4000000 in
theorem dotm_any (v u : Value) (r q c row col : Nat) (zs ys : List Int) (L : Nat) (w : World) (hm : IsM w v r q zs L) (hn : IsM w u q c ys L) (hrow : row < r) (hcol : col < c) (hL : L ≤ 200000000) :
 Calls Tryz.prog 129 #[v, .int .i64 row, u, .int .i64 col] w fun e w' => ∃ x, e = .returned x ∧ IntOut w w' x (dot (fun i j => zs.getD (i * q + j) 0) (fun i j => ys.getD (i * c + j) 0) row col q) (L + L + 1 + q) := by
 have HM := Hid.mk hm
 have HN := Hid.mk hn
 obtain ⟨hr, hq, sl, rfl, hg0⟩ := hm
 obtain ⟨ao, cap, rfl, -⟩ := hg0.shape
 obtain ⟨-, hc, sl', rfl, hg1⟩ := hn
 obtain ⟨bo, dap, rfl, -⟩ := hg1.shape
 clear hg0 hg1
 obtain ⟨N, hN⟩ : ∃ N, N = r * q := ⟨_, rfl⟩
 rw [← hN] at HM ⊢
 obtain ⟨M, hM⟩ : ∃ M, M = q * c := ⟨_, rfl⟩
 rw [← hM] at HN ⊢
 clear hN hM
 go_enter Tryz.func129, Tryz.ntmps129
 go_wp2_with fail
 obtain ⟨W1, hW1⟩ : ∃ W1, W1 = (((w.alloc (.cells #[.int .i64 r, .int .i64 q, .slice ao N cap] 66)).alloc (.cells #[.int .i64 q, .int .i64 c, .slice bo M dap] 66)).alloc (.cells #[.bool false, .slice none 0 0] 79)).alloc (.cells #[.bool false, .slice none 0 0] 79) := ⟨_, rfl⟩
 rw [← hW1]
 have hB1 : Below w.heap.size w W1 := by
  rw [hW1]
  repeat (first | exact Below.refl _ _ | refine Below.alloc ?_ (by simp <;> omega) _)
 have hm1 : Trio W1 w.heap.size (.int .i64 r) (.int .i64 q) (.slice ao N cap) := by
  rw [hW1]
  exact ⟨cell3 (by simp) _ _ _, cell3 (by simp) _ _ _, cell3 (by simp) _ _ _⟩
 have hn1 : Trio W1 (w.heap.size + 1) (.int .i64 q) (.int .i64 c) (.slice bo M dap) := by
  rw [hW1]
  exact ⟨cell1 (cell1 (new_cell _ _ _ _ _ (by simp) rfl) _) _, cell1 (cell1 (new_cell _ _ _ _ _ (by simp) rfl) _) _, cell1 (cell1 (new_cell _ _ _ _ _ (by simp) rfl) _) _⟩
 have hd1 : Duo W1 (w.heap.size + 1 + 1 + 1) (.bool false) (.slice none 0 0) := by rw [hW1]; exact Duo.new _ _ _ (by simp)
 have hres : Duo W1 (w.heap.size + 1 + 1) (.bool false) (.slice none 0 0) := by
  rw [hW1]
  exact (Duo.new _ _ _ (by simp)).below ((Below.refl _ _).alloc (Nat.le_refl _) _) (by simp)
 obtain ⟨sb, hsb⟩ : ∃ sb, sb = w.heap.size + 1 + 1 + 1 := ⟨_, rfl⟩
 rw [← hsb] at hd1 ⊢
 have hsb1 : w.heap.size + 3 ≤ sb := by omega
 have hS1 : W1.heap.size = sb + 1 := by rw [hW1, hsb]; simp
 have FF := Hid.mk (And.intro hm1 (And.intro hn1 (And.intro hres hS1)))
 have H1 := Hid.mk (And.intro hd1 hB1)
 have HSB := Hid.mk hsb
 clear hm1 hn1 hres hd1 hB1 hW1 hS1 hsb
 go_loopw [10] (fun i wr => ∃ (t : Nat) (nb : Bool) (so : Option Addr) (n ecap : Nat), t ≤ q ∧ i = .int .i64 t ∧ Duo wr sb (.bool nb) (.slice so n ecap) ∧ IsI wr (.agg #[.bool nb, .slice so n ecap]) (dot (fun i j => zs.getD (i * q + j) 0) (fun i j => ys.getD (i * c + j) 0) row col t) (L + L + 1 + t) ∧ W1.grownBy wr (some sb) ∧ Below w.heap.size w wr) (fun i _ => q - (intOf i).toNat)
 case atStart => exact ⟨0, _, _, _, _, Nat.zero_le _, rfl, H1.out.1, IsI.zero _ _, World.grownBy.refl _ _, H1.out.2⟩
 case round =>
  obtain ⟨t, nb, so, n, ecap, ht, rfl, hD, hI, hgr, hB⟩ := hrel
  obtain ⟨q0, q1, q2⟩ := FF.out.1.grown hgr (by omega)
  have hnT := FF.out.2.1.grown hgr (by omega)
  have hwr := hB.size
  have K := Hid.mk (And.intro hD (And.intro hI (And.intro hgr (And.intro hB hnT))))
  clear hD hI hgr hB hnT
  by_cases htq : t < q
  ·have hti : (t : Int) < (q : Int) := by omega
   go_wp2_with fail
   refine (at_in _ r q row t zs L _ (HM.out.below K.out.2.2.2.1) hrow htq).mono ?_
   rintro e w4 ⟨x, rfl, hx, hb4⟩
   obtain ⟨nb1, so1, n1, cp1, rfl⟩ := hx.shape
   have hbA : Below wr.heap.size wr (w4.alloc (.cells #[.bool nb1, .slice so1 n1 cp1] 79)) := hb4.alloc hb4.size _
   have hl4 := (Duo.new w4 (.bool nb1) (.slice so1 n1 cp1) rfl)
   have hxa := hx.below ((Below.refl w4.heap.size w4).alloc (Nat.le_refl _) (.cells #[.bool nb1, .slice so1 n1 cp1] 79))
   obtain ⟨e0, e1, e2⟩ := K.out.2.2.2.2.later hbA
   have hw4 := hb4.size
   have KA := Hid.mk (And.intro hbA (And.intro hl4 hxa))
   clear hbA hl4 hxa hx hb4 q0 q1 q2
   go_wp2_with fail
   refine (at_in _ q c t col ys L _ (HN.out.below (K.out.2.2.2.1.trans (KA.out.1.mono hwr))) htq hcol).mono ?_
   rintro e w5 ⟨x, rfl, hx, hb5⟩
   obtain ⟨nb2, so2, n2, cp2, rfl⟩ := hx.shape
   have hbB : Below wr.heap.size wr (w5.alloc (.cells #[.bool nb2, .slice so2 n2 cp2] 79)) := (KA.out.1.trans (hb5.mono (by simp; omega))).alloc (by have := hb5.size; simp at this; omega) _
   have hb55 := (Below.refl w5.heap.size w5).alloc (Nat.le_refl _) (.cells #[.bool nb2, .slice so2 n2 cp2] 79)
   have hlt4 : w4.heap.size < w5.heap.size := by have := hb5.size; simp at this; omega
   have hl5 := (KA.out.2.1.below hb5 (by simp)).below hb55 hlt4
   obtain ⟨d1, d2, -, -⟩ := hl5.cells
   have KB := Hid.mk (And.intro hbB (And.intro ((KA.out.2.2.below hb5).below hb55) (hx.below hb55)))
   clear hx hb5 hbB hb55 hl5 e0 e1 e2
   go_wp2_with fail
   refine (mul_any _ _ (zs.getD (row * q + t) 0) (ys.getD (t * c + col) 0) L L _ KB.out.2.1 KB.out.2.2 (by omega) (by omega)).mono ?_
   rintro e w6 ⟨x, rfl, hx, hb6⟩
   obtain ⟨nb3, so3, n3, cp3, rfl⟩ := hx.shape
   have hw5 : wr.heap.size ≤ w5.heap.size := by omega
   have hbC : Below wr.heap.size wr (w6.alloc (.cells #[.bool nb3, .slice so3 n3 cp3] 79)) := (KB.out.1.trans (hb6.mono (by simp; omega))).alloc (by have := hb6.size; simp at this; omega) _
   have hb66 := (Below.refl w6.heap.size w6).alloc (Nat.le_refl _) (.cells #[.bool nb3, .slice so3 n3 cp3] 79)
   have hD6 := K.out.1.below hbC (Array.getElem?_eq_some_iff.1 K.out.1).1
   have hI6 := K.out.2.1.below hbC
   clear d1 d2
   obtain ⟨d1, d2, d3, d4⟩ := hD6.cells
   have KC := Hid.mk (And.intro hbC (And.intro hD6 (And.intro hI6 (hx.below hb66))))
   clear hx hb6 hbC hb66 hD6 hI6
   go_wp2_with fail
   refine (add_any _ _ _ (zs.getD (row * q + t) 0 * ys.getD (t * c + col) 0) (L + L + 1 + t) (L + L) _ KC.out.2.2.1 KC.out.2.2.2 (by omega) (by omega)).mono ?_
   rintro e w7 ⟨x, rfl, hx, hb7⟩
   obtain ⟨nb4, so4, n4, cp4, rfl⟩ := hx.shape
   have hlt6 : sb < (w6.alloc (.cells #[.bool nb3, .slice so3 n3 cp3] 79)).heap.size := (Array.getElem?_eq_some_iff.1 KC.out.2.1).1
   have hbD : Below wr.heap.size wr w7 := KC.out.1.trans (hb7.mono KC.out.1.size)
   have hD7 := KC.out.2.1.below hb7 hlt6
   clear d1 d2 d3 d4
   obtain ⟨d1, d2, d3, d4⟩ := hD7.cells
   have KD := Hid.mk (And.intro hbD (And.intro hD7 hx))
   clear hx hb7 hbD hD7 hlt6
   go_wp2_with fail
   go_roundw
   case measure => simp [intOf]; omega
   case rel =>
    refine ⟨t + 1, nb4, so4, n4, cp4, by omega, by go_num, KD.out.2.1.put _ _, ?_, grown_put2 (grown_below K.out.2.2.1 KD.out.1), ((K.out.2.2.2.1.trans (KD.out.1.mono hwr)).setCell (by simp; omega) _).setCell (by simp; omega) _⟩
    exact (KD.out.2.2.duo KD.out.2.1 _ _).mono (by omega)
  ·have hte : t = q := by omega
   subst hte
   obtain ⟨d1, d2, d3, d4⟩ := K.out.1.cells
   have hR := FF.out.2.2.1
   have hRb : wr.heap[w.heap.size + 1 + 1]? = W1.heap[w.heap.size + 1 + 1]? := K.out.2.2.1.block _ (by have := FF.out.2.2.2; omega) (by have := HSB.out; simp; omega)
   have hRD : Duo wr (w.heap.size + 1 + 1) (.bool false) (.slice none 0 0) := by unfold Duo; rw [hRb]; exact hR
   have hcell := (hRD.put (.bool nb) (.slice so n ecap)).cells
   have HR := Hid.mk (And.intro hRD hcell)
   obtain ⟨r1, r2, r3, r4⟩ := hRD.cells
   clear hR hRb hRD hcell
   go_wp2_with fail
   obtain ⟨g1, g2, -, -⟩ := HR.out.2
   refine bodyPost_ret (v := .agg #[.bool nb, .slice so n ecap]) ?_ rfl ?_
   ·(simp [results, Tryz.results129, go_sem, g1, g2]; done)
   ·exact ⟨_, rfl, K.out.2.1.duo HR.out.1 _ _, (K.out.2.2.2.1.setCell (by simp; omega) _).setCell (by simp; omega) _⟩
end Go.Proofs.YtfjbijpagaipnabGreatDoor
