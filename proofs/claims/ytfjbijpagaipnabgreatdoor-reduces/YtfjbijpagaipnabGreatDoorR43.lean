import Derived.Test.YtfjbijpagaipnabGreatDoorR42
import Derived.Test.YtfjbijpagaipnabGreatDoorR29
import Derived.Test.YtfjbijpagaipnabGreatDoorR30
import Derived.Test.YtfjbijpagaipnabGreatDoorR32
import Derived.Deep.RegionHeld3
import Derived.Deep.CutRange
import Derived.StillTailTactics
namespace Go.Proofs.YtfjbijpagaipnabGreatDoor.R
open Go.RowKit
def dL (f : Nat → Nat → Int) (c k : Nat) : List Int := (List.range k).map (fun k => detF k (gmF f c))
theorem dL_next (f : Nat → Nat → Int) (c k : Nat) : dL f c (k + 1) = dL f c k ++ [detF k (gmF f c)] := by unfold dL; rw [List.range_succ, List.map_append]; rfl
theorem dL_at (f : Nat → Nat → Int) (c k i : Nat) (h : i < k) : (dL f c k).getD i 0 = detF i (gmF f c) := by simp [dL, List.getD, h]
theorem LM_mono (L : Nat) {m n : Nat} (h : m ≤ n) : LM L m ≤ LM L n := by
 induction n with
 | zero => have : m = 0 := by omega
           rw [this]; exact Nat.le_refl _
 | succ n ih =>
   rcases Nat.lt_or_ge m (n + 1) with h1 | h1
   ·exact Nat.le_trans (ih (by omega)) (by rw [LM]; omega)
   ·have : m = n + 1 := by omega
    rw [this]; exact Nat.le_refl _
theorem LM_four {L n : Nat} (hn : n ≤ 4) : LM L n ≤ 4 * L + 100 := Nat.le_trans (LM_mono L hn) (by simp [LM]; omega)
def TOut (W : World) (z : Int) (L : Nat) (p : Value) (wx : World) : Prop := ∃ (pb : Nat) (nb : Bool) (so : Option Addr) (n cp : Nat), p = .pointer (some ⟨pb, 0, none⟩) ∧ W.heap.size ≤ pb ∧ NBox wx pb (.bool nb) (.slice so n cp) ∧ IsN wx (.agg #[.bool nb, .slice so n cp]) z L ∧ Below W.heap.size W wx
theorem sgn_le {a b : Int} (h : a ≤ b) : sgn (a - b) ≤ 0 := by unfold sgn; grind
theorem sgn_ge {a b : Int} (h : b ≤ a) : ¬ sgn (a - b) < 0 := by unfold sgn; grind
theorem sgn_pos {a : Int} (h : 0 < a) : sgn a = 1 := by unfold sgn; grind
theorem NL.open_ {B : Nat} {w : World} {sl : Value} {n L : Nat} {zs : List Int} (h : NL B w sl n zs L) : ∃ ao cap, sl = .slice ao n cap ∧ n ≤ cap ∧ cap ≤ 9223372036854775807 ∧
 (∀ i, i < n → ∃ g nb so l cp, ao = some ⟨g, 0, none⟩ ∧ w.cell? ⟨g, i * 2, none⟩ = some (.bool nb) ∧ w.cell? ⟨g, i * 2 + 1, none⟩ = some (.slice so l cp) ∧ IsN w (.agg #[.bool nb, .slice so l cp]) (zs.getD i 0) L) := by
 obtain ⟨h0, cs, h1, h2⟩ := h
 rcases h1.2 with ⟨rfl, rfl⟩ | ⟨g, cap, cur, rfl, hg, hh, q1, q2, q3, q4⟩
 ·exact ⟨none, 0, rfl, Nat.le_refl _, by simp, fun i hi => by omega⟩
 ·refine ⟨_, cap, rfl, q1, by simpa [maxLen] using q2, fun i hi => ?_⟩
  obtain ⟨a, b, e1, e2, e3⟩ := h2 i hi
  obtain ⟨nb, so, cp, xs, e4, -⟩ := e3.parts
  simp only [Value.agg.injEq, Array.mk.injEq, List.cons.injEq, and_true] at e4
  obtain ⟨rfl, rfl⟩ := e4
  rw [← q4, List.getElem?_take, if_pos (by omega)] at e1
  rw [← q4, List.getElem?_take, if_pos (by omega)] at e2
  refine ⟨g, nb, so, _, cp, rfl, ?_, ?_, e3⟩
  ·rw [Nat.mul_comm i 2]; simp only [World.cell?, hh]; simpa using e1
  ·rw [Nat.mul_comm i 2]; simp only [World.cell?, hh]; simpa using e2
set_option maxRecDepth 100000 in
set_option maxHeartbeats 1000000 in
theorem uplist_new (n : Nat) (w : World) (hn : n ≤ 1000) :
 Calls Tryz.prog 204 #[.int .i64 n] w fun e w' => ∃ r, e = .returned r ∧ OwnB w.heap.size w' r (List.range n) ∧ Below w.heap.size w w' := by
 go_enter Tryz.func204, Tryz.ntmps204
 go_wp2_with fail
 go_loopw [3, 4] (fun l i wr => ∃ k : Nat, k ≤ n ∧ i = .int .i64 k ∧ OwnB w.heap.size wr l (List.range k) ∧ Below w.heap.size w wr) (fun _ i _ => n - (intOf i).toNat)
 case atStart => exact ⟨0, Nat.zero_le _, rfl, World.ownsRow_nil _ _ _ _, Below.refl _ _⟩
 case round =>
  obtain ⟨k, hk, rfl, hown, hbel⟩ := hrel
  obtain ⟨ao, cap, hv, -⟩ := hown.own.open_
  rw [List.length_range] at hv
  subst hv
  have hwr := hbel.size
  have K := Hid.mk (And.intro hown hbel)
  clear hown hbel
  by_cases hkn : k < n
  ·have hki : (k : Int) < (n : Int) := by omega
   go_wp2_with (at_builtin; refine append_digit _ rfl _ _ rfl w.heap.size _ (List.range k) rfl ?_ ⟨_, 0, none⟩ rfl k ?_ ?_ ?_ ?_)
   ·exact World.ownsRow.alloc K.out.1 _
   ·simp [Addr.add]
   ·rw [List.length_range]; omega
   ·simp; omega
   intro v' w' q1 q2
   have hbel2 : Below w.heap.size w w' := (K.out.2.alloc hwr _).grown q2 (by simp; omega) (fun j hj => (World.ownsRow.lt K.out.1 j hj).1)
   rw [← List.range_succ] at q1
   obtain ⟨ao', cap', hv', -⟩ := q1.own.open_
   obtain ⟨l', hl'⟩ : ∃ l', l' = (List.range (k + 1)).length := ⟨_, rfl⟩
   rw [← hl'] at hv'
   subst hv'
   have K2 := Hid.mk (And.intro q1 hbel2)
   clear q1 q2 hbel2 hl'
   go_wp2_with fail
   go_roundw
   case measure => simp [intOf]; omega
   case rel => exact ⟨k + 1, by omega, by go_num, K2.out.1, K2.out.2⟩
  ·have hke : k = n := by omega
   have HKE := Hid.mk hke
   clear hke
   go_wp2_with fail
   go_ret
   refine ⟨_, rfl, ?_, K.out.2⟩
   have := K.out.1
   rw [HKE.out] at this ⊢
   exact this
set_option maxRecDepth 100000 in
set_option maxHeartbeats 4000000 in
theorem short_yes (b r c : Nat) (gs : Nat → Nat) (f : Nat → Nat → Int) (B L : Nat) (w : World) (h : IsR B w b r c gs f L) (hs : ShP f r c) (hL : L ≤ 1000000) (hr : r ≤ 4) (hc : c ≤ 4) :
 Calls Tryz.prog 181 #[.pointer (some ⟨b, 0, none⟩)] w fun e w' => e = .returned (.bool true) ∧ Below w.heap.size w w' := by
 have H := Hid.mk (And.intro h hs)
 obtain ⟨hbl, ao, cap, c0, c1, c2, -⟩ := h.open_
 clear h hs
 go_enter Tryz.func181, Tryz.ntmps181
 go_wp2_with fail
 refine (turned_any b r c gs f B L _ H.out.1 (by omega) (by omega)).mono ?_
 rintro e w1 ⟨rfl, hI1, hb1⟩
 obtain ⟨go1, hI1⟩ := hI1
 have hs1 := hb1.size
 have K1 := Hid.mk (And.intro hI1 hb1)
 clear hI1 hb1 c0 c1 c2
 go_wp2_with fail
 refine (mtimes_any L L b r c gs f B _ r go1 _ 0 w1 (H.out.1.keep (KR.of_below K1.out.2)) K1.out.1 (by omega) (by omega) (by omega) (by omega)).mono ?_
 rintro e w2 ⟨rfl, hI2, hb2⟩
 obtain ⟨go2, hI2⟩ := hI2
 obtain ⟨bg, hbg⟩ : ∃ bg, bg = w1.heap.size := ⟨_, rfl⟩
 rw [← hbg] at hI2 ⊢
 obtain ⟨LG, hLG⟩ : ∃ LG, LG = L + L + 12 := ⟨_, rfl⟩
 rw [← hLG] at hI2
 have hLG' : LG ≤ 2000012 := by omega
 have hbw2 : Below w.heap.size w w2 := K1.out.2.trans (hb2.mono hs1)
 have hs2 := hbw2.size
 have K2 := Hid.mk (And.intro hI2 hbw2)
 clear hI2 hb2 hbw2 hLG hbg K1 hs1
 obtain ⟨D, hD⟩ : ∃ D, D = 4 * LG + 100 := ⟨_, rfl⟩
 have hD' : D ≤ 10000000 := by omega
 have HD := Hid.mk hD
 clear hD
 go_wp2_with fail
 go_loopw [5, 6] (fun d k wr => ∃ a : Nat, a ≤ r + 1 ∧ k = .int .i64 a ∧ NL w2.heap.size wr d a (dL f c a) D ∧ Below w2.heap.size w2 wr) (fun _ k _ => r + 1 - (intOf k).toNat)
 case atStart => exact ⟨0, Nat.zero_le _, rfl, NL.nil _ _ _, Below.refl _ _⟩
 case round =>
  rename World => wi
  obtain ⟨a, ha, rfl, hnl, hbel⟩ := hrel
  have hwi := hbel.size
  have hbw : Below w.heap.size w wi := K2.out.2.trans (hbel.mono hs2)
  obtain ⟨-, ao, cap, c0, c1, c2, -⟩ := (H.out.1.keep (KR.of_below hbw)).open_
  obtain ⟨do_, dcap, hdv, hdc, hdm, -⟩ := hnl.open_
  subst hdv
  have K := Hid.mk (And.intro hnl (And.intro hbel hbw))
  clear hnl hbel hbw
  by_cases har : a ≤ r
  ·have hai : (a : Int) ≤ (r : Int) := by omega
   go_wp2_with fail
   refine (uplist_any a _ (by omega)).mono ?_
   rintro e w3 ⟨r1, rfl, hr1, hb3⟩
   obtain ⟨ao1, cap1, hv1, -⟩ := hr1.open_
   rw [List.length_range] at hv1
   subst hv1
   have hs3 := hb3.size
   have K3 := Hid.mk (And.intro hr1 hb3)
   clear hr1 hb3 c0 c1 c2
   go_wp2_with fail
   refine (minor_any a bg r r go2 (gmF f c) 0 LG _ _ (List.range a) (List.range a) _ ((K2.out.1.keep (KR.of_below K.out.2.1)).keep (KR.of_below K3.out.2)) (by have := IR.of_own K3.out.1; exact this) (by have := IR.of_own K3.out.1; exact this) List.length_range List.length_range (fun x hx => by have := List.mem_range.1 hx; omega) (fun x hx => by have := List.mem_range.1 hx; omega) (by omega) (Nat.le_trans (LM_four (by omega)) (by omega)) (by omega)).mono ?_
   rintro e w4 ⟨v4, rfl, hv4, hb4⟩
   rw [minor_range] at hv4
   obtain ⟨nb4, so4, cp4, zs4, rfl, -⟩ := hv4.parts
   obtain ⟨l4, hl4⟩ : ∃ l4, l4 = zs4.length := ⟨_, rfl⟩
   rw [← hl4] at hv4 ⊢
   have hs4 := hb4.size
   have hb34 : Below wi.heap.size wi w4 := K3.out.2.trans (hb4.mono hs3)
   have K4 := Hid.mk (And.intro (hv4.mono (M := D) (Nat.le_trans (LM_four (by omega)) (by have := HD.out; omega))) hb34)
   clear hv4 hb4 hb34 hl4
   have HNL := Hid.mk (K.out.1.below K4.out.2)
   go_wp2_with (at_builtin; refine append_num _ rfl _ _ rfl w2.heap.size _ a (dL f c a) D rfl ?_ ⟨_, 0, none⟩ rfl (.bool nb4) (.slice so4 l4 cp4) (detF a (gmF f c)) ?_ ?_ rfl rfl ?_ ?_ ?_ ?_)
   ·exact (HNL.out.below ((Below.refl _ _).alloc (Nat.le_refl _) _)).below ((Below.refl _ _).alloc (Nat.le_refl _) _)
   ·simp [Addr.add]
   ·simp [Addr.add]
   ·exact (K4.out.1.below ((Below.refl _ _).alloc (Nat.le_refl _) _)).below ((Below.refl _ _).alloc (Nat.le_refl _) _)
   ·omega
   ·simp; omega
   intro v' w' q1 q2
   have hbel2 : Below w2.heap.size w2 w' := (((K.out.2.1.trans (K4.out.2.mono hwi)).alloc (by omega) _).alloc (by simp; omega) _).grown q2 (by simp; omega) (fun j hj => (HNL.out.lt j hj).1)
   rw [← dL_next] at q1
   obtain ⟨do1, dcap1, hdv1, -⟩ := q1.open_
   subst hdv1
   obtain ⟨a1, ha1⟩ : ∃ a1, a1 = a + 1 := ⟨_, rfl⟩
   rw [← ha1] at q1 ⊢
   have K5 := Hid.mk (And.intro q1 hbel2)
   clear q1 q2 hbel2
   go_wp2_with fail
   go_roundw
   case measure => simp [intOf]; omega
   case rel => exact ⟨a1, by omega, by rw [ha1]; go_num, K5.out.1, K5.out.2⟩
  ·have hai : ¬ (a : Int) ≤ (r : Int) := by omega
   have HA := Hid.mk (show a = r + 1 by omega)
   clear har
   go_wp2_with fail
   clear c0 c1 c2
   refine (of_any 2 _ (by omega)).mono ?_
   rintro e w3 ⟨v3, rfl, hv3, hb3⟩
   obtain ⟨nb3, so3, cp3, zs3, rfl, -⟩ := hv3.parts
   obtain ⟨l3, hl3⟩ : ∃ l3, l3 = zs3.length := ⟨_, rfl⟩
   rw [← hl3] at hv3 ⊢
   have hs3 := hb3.size
   have K3 := Hid.mk (And.intro hv3 hb3)
   clear hv3 hb3 hl3
   go_wp2_with fail
   refine (of_any 3 _ (by omega)).mono ?_
   rintro e w4 ⟨v4, rfl, hv4, hb4⟩
   obtain ⟨nb4, so4, cp4, zs4, rfl, -⟩ := hv4.parts
   obtain ⟨l4, hl4⟩ : ∃ l4, l4 = zs4.length := ⟨_, rfl⟩
   rw [← hl4] at hv4 ⊢
   have hs4 := hb4.size
   have K4 := Hid.mk (And.intro hv4 hb4)
   clear hv4 hb4 hl4
   go_wp2_with fail
   refine (of_any 4 _ (by omega)).mono ?_
   rintro e w5 ⟨v5, rfl, hv5, hb5⟩
   obtain ⟨nb5, so5, cp5, zs5, rfl, -⟩ := hv5.parts
   obtain ⟨l5, hl5⟩ : ∃ l5, l5 = zs5.length := ⟨_, rfl⟩
   rw [← hl5] at hv5 ⊢
   have hs5 := hb5.size
   simp at hs4 hs5
   obtain ⟨W, hW⟩ : ∃ W, W = w5.alloc (.cells #[.bool nb5, .slice so5 l5 cp5] 171) := ⟨_, rfl⟩
   have hb5W : Below w5.heap.size w5 W := by rw [hW]; exact (Below.refl _ _).alloc (Nat.le_refl _) _
   have hb4W : Below (w4.alloc (.cells #[.bool nb4, .slice so4 l4 cp4] 171)).heap.size (w4.alloc (.cells #[.bool nb4, .slice so4 l4 cp4] 171)) W := hb5.trans (hb5W.mono hb5.size)
   have hb4W' : Below w4.heap.size w4 W := ((Below.refl _ _).alloc (Nat.le_refl _) _).trans (hb4W.mono (by simp))
   have hb3W : Below (w3.alloc (.cells #[.bool nb3, .slice so3 l3 cp3] 171)).heap.size (w3.alloc (.cells #[.bool nb3, .slice so3 l3 cp3] 171)) W := K4.out.2.trans (hb4W'.mono K4.out.2.size)
   have hb3W' : Below w3.heap.size w3 W := ((Below.refl _ _).alloc (Nat.le_refl _) _).trans (hb3W.mono (by simp))
   have hbiW : Below wi.heap.size wi W := K3.out.2.trans (hb3W'.mono K3.out.2.size)
   have n2 : NBox W w3.heap.size (.bool nb3) (.slice so3 l3 cp3) := (NBox.new w3 (.bool nb3) (.slice so3 l3 cp3) rfl).below hb3W (by simp)
   have n3 : NBox W w4.heap.size (.bool nb4) (.slice so4 l4 cp4) := (NBox.new w4 (.bool nb4) (.slice so4 l4 cp4) rfl).below hb4W (by simp)
   have n4 : NBox W w5.heap.size (.bool nb5) (.slice so5 l5 cp5) := by rw [hW]; exact NBox.new w5 _ _ rfl
   have J := Hid.mk (And.intro (K3.out.1.below hb3W') (And.intro (K4.out.1.below hb4W') (And.intro (hv5.below hb5W) (And.intro (K.out.1.below hbiW) (And.intro (K2.out.1.keep (KR.of_below (K.out.2.1.trans (hbiW.mono K.out.2.1.size)))) (K.out.2.2.trans (hbiW.mono K.out.2.2.size)))))))
   have JN := Hid.mk (And.intro n2 (And.intro n3 n4))
   obtain ⟨p2, hp2⟩ : ∃ p2, p2 = w3.heap.size := ⟨_, rfl⟩
   obtain ⟨p3, hp3⟩ : ∃ p3, p3 = w4.heap.size := ⟨_, rfl⟩
   obtain ⟨p4, hp4⟩ : ∃ p4, p4 = w5.heap.size := ⟨_, rfl⟩
   rw [← hp2, ← hp3, ← hp4] at JN
   rw [← hp2, ← hp3]
   clear hp2 hp3 hb5W hb4W hb4W' hb3W hb3W' hbiW n2 n3 n4 hv5 hb5 hl5 hs3 hs4 hs5
   go_wp2_with fail
   rw [← hW, ← hp4]
   clear hp4 hW K3 K4
   have hsW := J.out.2.2.2.2.2.size
   go_loopw [12] (fun i wr => ∃ x : Nat, x ≤ r ∧ i = .int .i64 x ∧ Below W.heap.size W wr) (fun i _ => r - (intOf i).toNat)
   case atStart => exact ⟨0, Nat.zero_le _, rfl, Below.refl _ _⟩
   case round =>
    rename World => wj
    obtain ⟨x, hx, rfl, hbel⟩ := hrel
    have hwj := hbel.size
    have hbw : Below w.heap.size w wj := J.out.2.2.2.2.2.trans (hbel.mono hsW)
    obtain ⟨-, ao, cap, c0, c1, c2, -⟩ := (H.out.1.keep (KR.of_below hbw)).open_
    have HJ := Hid.mk (And.intro hbel hbw)
    clear hbel hbw
    by_cases hxr : x < r
    ·have hxi : (x : Int) < (r : Int) := by omega
     obtain ⟨x1, hx1⟩ : ∃ x1, x1 = x + 1 := ⟨_, rfl⟩
     have hx1i : (x : Int) + 1 = (x1 : Int) := by omega
     have hx1w : IntKind.i64.wrap (x1 : Int) = (x1 : Int) := IntWalk.i64_in _ (by omega)
     have hx1a : x1 < a := by have := HA.out; omega
     have hx1ai : (x1 : Int) < (a : Int) := by omega
     have HX1 := Hid.mk hx1
     clear hx1
     obtain ⟨do2, dcap2, hdv2, -, -, hdr⟩ := (J.out.2.2.2.1.below HJ.out.1).open_
     simp only [Value.slice.injEq, true_and] at hdv2
     obtain ⟨rfl, rfl⟩ := hdv2
     obtain ⟨dg, nb6, so6, l6, cp6, rfl, e1, e2, hN6⟩ := hdr x1 hx1a
     have K6 := Hid.mk hN6
     have HDg := Hid.mk (show ∀ v, Below W.heap.size W v → ∀ k, k < a → ∃ nb so l cp, v.cell? ⟨dg, k * 2, none⟩ = some (.bool nb) ∧ v.cell? ⟨dg, k * 2 + 1, none⟩ = some (.slice so l cp) ∧ IsN v (.agg #[.bool nb, .slice so l cp]) (detF k (gmF f c)) D from fun v hv k hk => by
      obtain ⟨_, _, h5, -, -, h6⟩ := (J.out.2.2.2.1.below hv).open_
      obtain ⟨g8, nb, so, l, cp, h7, h8, h9, h10⟩ := h6 k hk
      rw [h7] at h5
      simp only [Value.slice.injEq, Option.some.injEq, Addr.mk.injEq, true_and, and_true] at h5
      obtain ⟨rfl, -⟩ := h5
      rw [dL_at _ _ _ _ hk] at h10
      exact ⟨nb, so, l, cp, h8, h9, h10⟩)
     clear hN6 hdr
     go_wp2_with fail
     refine (sign_any _ _ D _ K6.out).mono ?_
     rintro e w6 ⟨rfl, hb6⟩
     have hs6 := hb6.size
     have hsg : sgn ((dL f c a).getD x1 0) = 1 := by
      rw [dL_at _ _ _ _ hx1a, HX1.out]
      exact sgn_pos (H.out.2.pos x hxr)
     rw [hsg]
     have K7 := Hid.mk (And.intro (HJ.out.1.trans (hb6.mono hwj)) (HJ.out.2.trans (hb6.mono HJ.out.2.size)))
     clear hb6 hsg e1 e2 K6 c0 c1 c2
     go_wp2_with fail
     go_loopw [14] (fun j wr => ∃ y : Nat, y ≤ x ∧ j = .int .i64 y ∧ Below W.heap.size W wr) (fun j _ => x - (intOf j).toNat)
     case atStart => exact ⟨0, Nat.zero_le _, rfl, K7.out.1⟩
     case round =>
      rename World => wk
      obtain ⟨y, hy, rfl, hbel⟩ := hrel
      have hwk := hbel.size
      have HK := Hid.mk hbel
      clear hbel
      by_cases hyx : y < x
      ·have hyi : (y : Int) < (x : Int) := by omega
       obtain ⟨y1, hy1⟩ : ∃ y1, y1 = y + 1 := ⟨_, rfl⟩
       have hy1i : (y : Int) + 1 = (y1 : Int) := by omega
       have hy1w : IntKind.i64.wrap (y1 : Int) = (y1 : Int) := IntWalk.i64_in _ (by omega)
       have hy1a : y1 < a := by have := HX1.out; omega
       have hy1ai : (y1 : Int) < (a : Int) := by omega
       have HY1 := Hid.mk hy1
       clear hy1
       go_wp2_with fail
       refine (uplist_any y1 _ (by have := HX1.out; omega)).mono ?_
       rintro e w7 ⟨r7, rfl, hr7, hb7⟩
       obtain ⟨ao7, cap7, hv7, -⟩ := hr7.open_
       rw [List.length_range] at hv7
       subst hv7
       have hs7 := hb7.size
       have K8 := Hid.mk (And.intro hr7 hb7)
       clear hr7 hb7
       go_wp2_with fail
       refine (uplist_new y _ (by omega)).mono ?_
       rintro e w8 ⟨r8, rfl, hr8, hb8⟩
       obtain ⟨ao8, cap8, hv8, -⟩ := hr8.own.open_
       rw [List.length_range] at hv8
       subst hv8
       have hs8 := hb8.size
       have K9 := Hid.mk (And.intro hr8 hb8)
       clear hr8 hb8
       go_wp2_with (at_builtin; refine append_digit _ rfl _ _ rfl w7.heap.size _ (List.range y) rfl ?_ ⟨_, 0, none⟩ rfl x ?_ ?_ ?_ ?_)
       ·exact World.ownsRow.alloc K9.out.1 _
       ·simp [Addr.add]
       ·rw [List.length_range]; omega
       ·simp; omega
       intro v' w9 q1 q2
       have hb79 : Below w7.heap.size w7 w9 := (K9.out.2.alloc hs8 _).grown q2 (by simp; omega) (fun j hj => (World.ownsRow.lt K9.out.1 j hj).1)
       have hs9 := hb79.size
       obtain ⟨ao9, cap9, hv9, -⟩ := q1.own.open_
       have hlc : (List.range y ++ [x]).length = y1 := by rw [HY1.out]; simp
       rw [hlc] at hv9
       subst hv9
       obtain ⟨cl, hcl⟩ : ∃ cl, cl = List.range y ++ [x] := ⟨_, rfl⟩
       rw [← hcl] at q1 hlc
       have K10 := Hid.mk (And.intro q1.own (And.intro hb79 (And.intro hlc (And.intro hcl (K8.out.2.trans (hb79.mono hs7))))))
       clear q1 q2 hb79 hlc hcl K9
       go_wp2_with fail
       have hbW9 : Below W.heap.size W w9 := HK.out.trans (K10.out.2.2.2.2.mono hwk)
       refine (minor_any y1 bg r r go2 (gmF f c) 0 LG _ _ (List.range y1) cl _ (J.out.2.2.2.2.1.keep (KR.of_below hbW9)) (by have := (IR.of_own K8.out.1).below K10.out.2.1; exact this) (by have := IR.of_own K10.out.1; exact this) List.length_range K10.out.2.2.1 (fun z hz => by have := List.mem_range.1 hz; have := HY1.out; omega) (fun z hz => by rw [K10.out.2.2.2.1] at hz; simp at hz; omega) (by omega) (Nat.le_trans (LM_four (by have := HY1.out; omega)) (by omega)) (by have := HY1.out; omega)).mono ?_
       rintro e wx ⟨vx, rfl, hvx, hbx⟩
       obtain ⟨nbx, sox, cpx, zsx, rfl, -⟩ := hvx.parts
       obtain ⟨lx, hlx⟩ : ∃ lx, lx = zsx.length := ⟨_, rfl⟩
       rw [← hlx] at hvx ⊢
       obtain ⟨X, hX⟩ : ∃ X, X = minorF (gmF f c) (List.range y1) cl := ⟨_, rfl⟩
       rw [← hX] at hvx
       have hbWx : Below W.heap.size W wx := hbW9.trans (hbx.mono hbW9.size)
       have hsx := hbWx.size
       obtain ⟨wX, hwX⟩ : ∃ wX, wX = wx.alloc (.cells #[.bool nbx, .slice sox lx cpx] 171) := ⟨_, rfl⟩
       have hxX : Below wx.heap.size wx wX := by rw [hwX]; exact (Below.refl _ _).alloc (Nat.le_refl _) _
       have hbWX := hbWx.trans (hxX.mono hsx)
       have hnX : NBox wX wx.heap.size (.bool nbx) (.slice sox lx cpx) := by rw [hwX]; exact NBox.new wx _ _ rfl
       have hsX := hxX.size
       have hsX1 : wx.heap.size < wX.heap.size := hnX.lt
       obtain ⟨px, hpx⟩ : ∃ px, px = wx.heap.size := ⟨_, rfl⟩
       rw [← hpx] at hnX hsX1
       obtain ⟨x0, x1', -, -⟩ := hnX.cells
       obtain ⟨t0, t1, -, -⟩ := (JN.out.1.below hbWX JN.out.1.lt).cells
       have KX := Hid.mk (And.intro ((hvx.mono (M := D) (Nat.le_trans (LM_four (by have := HY1.out; omega)) (by have := HD.out; omega))).below hxX) (And.intro hnX (And.intro hbWX hX)))
       have HWX := Hid.mk (And.intro hwX hpx)
       clear hvx hbx hlx hX hbWx hsx hxX hbWX hnX hbW9 x0 x1'
       rw [hwX] at t0 t1
       clear hwX hpx
       go_wp2_with fail
       rw [← HWX.out.1, ← HWX.out.2]
       refine (ntimes_any _ _ X 2 D 3 _ KX.out.1 (J.out.1.below KX.out.2.2.1) (by omega) (by omega)).mono ?_
       rintro e wy ⟨vy, rfl, hvy, hby⟩
       obtain ⟨nby, soy, cpy, zsy, rfl, -⟩ := hvy.parts
       obtain ⟨ly, hly⟩ : ∃ ly, ly = zsy.length := ⟨_, rfl⟩
       rw [← hly] at hvy ⊢
       have hsy := hby.size
       have KY := Hid.mk (And.intro hvy hby)
       clear hvy hby hly t0 t1
       go_wp2_with fail
       refine (amount_any _ (X * 2) (D + 3 + 1) _ (KY.out.1.below ((Below.refl _ _).alloc (Nat.le_refl _) _))).mono ?_
       rintro e wz ⟨vz, rfl, hvz, hbz⟩
       obtain ⟨nbz, soz, cpz, zsz, rfl, -⟩ := hvz.parts
       obtain ⟨lz, hlz⟩ : ∃ lz, lz = zsz.length := ⟨_, rfl⟩
       rw [← hlz] at hvz ⊢
       have hsz := hbz.size
       simp at hsz
       have hnz : NBox wz wy.heap.size (.bool nby) (.slice soy ly cpy) := (NBox.new wy (.bool nby) (.slice soy ly cpy) rfl).below hbz (by simp)
       have hbXz : Below wX.heap.size wX wz := KY.out.2.trans (((Below.refl _ _).alloc (Nat.le_refl _) _).trans (hbz.mono (by simp)) |>.mono hsy)
       obtain ⟨py, hpy⟩ : ∃ py, py = wy.heap.size := ⟨_, rfl⟩
       rw [← hpy] at hnz ⊢
       have hpy' : wX.heap.size ≤ py := by omega
       have hpz : py < wz.heap.size := by omega
       clear hpy
       obtain ⟨z0, z1, z2, z3⟩ := hnz.cells
       have KZ := Hid.mk (And.intro hvz (And.intro hnz hbXz))
       have hbWz : Below W.heap.size W wz := KX.out.2.2.1.trans (hbXz.mono KX.out.2.2.1.size)
       obtain ⟨wv, hwv⟩ : ∃ wv, wv = (wz.setCell ⟨py, 0, none⟩ (.bool nbz)).setCell ⟨py, 1, none⟩ (.slice soz lz cpz) := ⟨_, rfl⟩
       have hsWX := KX.out.2.2.1.size
       have hbzv : Below wX.heap.size wz wv := by rw [hwv]; exact ((Below.refl _ _).setCell (by simp; omega) _).setCell (by simp; omega) _
       have hbXv : Below wX.heap.size wX wv := hbXz.trans hbzv
       have hbWv : Below W.heap.size W wv := KX.out.2.2.1.trans (hbXv.mono hsWX)
       have hnv : NBox wv py (.bool nbz) (.slice soz lz cpz) := by rw [hwv]; exact hnz.put _ _
       have hvv : IsN wv (.agg #[.bool nbz, .slice soz lz cpz]) (((X * 2).natAbs : Nat) : Int) (D + 3 + 1) := by rw [hwv]; exact hvz.box hnz.ty (by decide) _ _
       have hsv := hbXv.size
       have KV := Hid.mk (And.intro hvv (And.intro hbXv hbWv))
       have HWV := Hid.mk hwv
       obtain ⟨v0, v1, -, -⟩ := hnv.cells
       obtain ⟨nb7, so7, l7, cp7, i1, i2, hN7⟩ := HDg.out wv hbWv y1 hy1a
       have KD := Hid.mk hN7
       clear hN7 hbWz hvz hbz hnz hbXz hlz hwv hbzv hbXv hbWv hnv hvv
       go_wp2_with fail
       rw [← HWV.out]
       clear z0 z1 z2 z3
       go_still_tail 6, (by kernel_rfl)
       go_wp2_with fail
       have hbd := (Below.refl wv.heap.size wv).drew
       refine (order_any _ _ _ _ (D + 3 + 1) D _ (KV.out.1.below hbd) (KD.out.below hbd) (by omega) (by omega)).mono ?_
       rintro e wo ⟨rfl, hbo⟩
       have hbvo : Below wv.heap.size wv wo := hbd.trans (hbo.mono hbd.size)
       have hso := hbvo.size
       obtain ⟨o, ho⟩ : ∃ o, o = sgn ((((X * 2).natAbs : Nat) : Int) - detF y1 (gmF f c)) := ⟨_, rfl⟩
       rw [← ho]
       have ho0 : o ≤ 0 := by
        have h1 := H.out.2.half x y hxr hyx
        have h2 := H.out.2.pos y (by omega)
        rw [← K10.out.2.2.2.1, ← HY1.out, ← KX.out.2.2.2] at h1
        rw [← HY1.out] at h2
        rw [ho]
        exact sgn_le (by omega)
       have KO := Hid.mk (And.intro (KV.out.2.1.trans (hbvo.mono hsv)) (KV.out.2.2.trans (hbvo.mono KV.out.2.2.size)))
       have ho1 : ¬ 0 < o := by omega
       clear hbo hbvo hbd ho i1 i2 v0 v1
       by_cases hyl : y1 = x
       ·have hyl' : ((y : Int) == (x : Int) - 1) = true := by have := HY1.out; simp; omega
        have hxw : IntKind.i64.wrap ((x : Int) - 1) = (x : Int) - 1 := IntWalk.i64_in _ (by omega)
        have HYL := Hid.mk hyl
        clear hyl
        go_wp2_with fail
        have hxm : (x : Int) - 1 = (y : Int) := by have := HY1.out; have := HYL.out; omega
        have hym : IntKind.i64.wrap (y : Int) = (y : Int) := IntWalk.i64_in _ (by omega)
        have hya : y < a := by omega
        have hyai : (y : Int) < (a : Int) := by omega
        have hxA : x < a := by omega
        have hxai : (x : Int) < (a : Int) := by omega
        obtain ⟨nbp, sop, lp, cpp, i1, i2, hNp⟩ := HDg.out wo KO.out.2 x1 hx1a
        obtain ⟨nbm, som, lm, cpm, i3, i4, hNm⟩ := HDg.out wo KO.out.2 y hya
        have KP := Hid.mk (And.intro hNp hNm)
        clear hNp hNm hyl' hxw
        have HSa := Hid.mk (show ∀ w', Below wo.heap.size wo w' → ((w'.cell? ⟨dg, x1 * 2, none⟩ = some (.bool nbp) ∧ w'.cell? ⟨dg, x1 * 2 + 1, none⟩ = some (.slice sop lp cpp)) ∧ w'.cell? ⟨dg, y * 2, none⟩ = some (.bool nbm) ∧ w'.cell? ⟨dg, y * 2 + 1, none⟩ = some (.slice som lm cpm)) from fun w' hb => ⟨⟨cell_later hb i1, cell_later hb i2⟩, cell_later hb i3, cell_later hb i4⟩)
        go_upto_region 32 with fail
        go_cut [20] from 65 to 137 (fun p wx => TOut wo (detF x1 (gmF f c) * detF y (gmF f c)) (D + D + 1) p wx)
        case first =>
         go_region_held3 (fun w' => (w'.cell? ⟨dg, x1 * 2, none⟩ = some (.bool nbp) ∧ w'.cell? ⟨dg, x1 * 2 + 1, none⟩ = some (.slice sop lp cpp)) ∧ w'.cell? ⟨dg, y * 2, none⟩ = some (.bool nbm) ∧ w'.cell? ⟨dg, y * 2 + 1, none⟩ = some (.slice som lm cpm))
          (exact HSa.out _ (by first | exact hb9 | exact (Below.refl _ _).drew | exact ((Below.refl _ _).alloc (Nat.le_refl _) _).drew | exact hb9.alloc hb9.size _ | exact (hb9.setCell (Nat.le_refl _) _).setCell (Nat.le_refl _) _))
          (first
            | (go_at_call 212; refine (ntimes_any _ _ _ _ D D _ (KP.out.1.below (Below.refl _ _).drew) (KP.out.2.below (Below.refl _ _).drew) (by omega) (by omega)).mono ?_; rintro e w5 ⟨p9, rfl, hp9, hb8⟩; obtain ⟨nb9, so9, cp9, xs9, rfl, -⟩ := hp9.parts; have hb9 : Below wo.heap.size wo w5 := (Below.refl _ _).drew.trans hb8; clear hb8)
            | (go_at_call 212; refine (ntimes_any _ _ _ _ D D _ (KP.out.1.below ((Below.refl _ _).alloc (Nat.le_refl _) _).drew) (KP.out.2.below ((Below.refl _ _).alloc (Nat.le_refl _) _).drew) (by omega) (by omega)).mono ?_; rintro e w5 ⟨p9, rfl, hp9, hb8⟩; obtain ⟨nb9, so9, cp9, xs9, rfl, -⟩ := hp9.parts; have hb9 : Below wo.heap.size wo w5 := ((Below.refl _ _).alloc (Nat.le_refl _) _).drew.trans (hb8.mono (by simp)); have hx9 : NBox w5 wo.heap.size (.bool false) (.slice none 0 0) := (NBox.new wo (.bool false) (.slice none 0 0) rfl).drew2.below hb8 (by simp); have hx8 := hx9.cells; clear hb8))
         all_goals
          go_wp2_with fail
          go_meet
          case rel =>
           first
            | exact ⟨_, _, _, _, _, rfl, hb9.size, NBox.new _ _ _ rfl, hp9.below ((Below.refl _ _).alloc (Nat.le_refl _) _), hb9.alloc hb9.size _⟩
            | exact ⟨_, _, _, _, _, rfl, Nat.le_refl _, hx9.put _ _, hp9.box hx9.ty (by decide) _ _, (hb9.setCell (Nat.le_refl _) _).setCell (Nat.le_refl _) _⟩
        case rest =>
         rename World => ca
         obtain ⟨pa, nba, soa, la, cpa, rfl, hpac, hxa, hva', hbNa⟩ := hcut
         have hXsa := KO.out.1.size
         have hpaX : wX.heap.size ≤ pa := by omega
         have hbXa : Below wX.heap.size wX ca := KO.out.1.trans (hbNa.mono KO.out.1.size)
         have hbWa : Below W.heap.size W ca := KO.out.2.trans (hbNa.mono KO.out.2.size)
         have KCa := Hid.mk (And.intro hbXa hbWa)
         have KVa := Hid.mk (And.intro hva' (And.intro hxa hbNa))
         obtain ⟨g0, g1, -, -⟩ := (KX.out.2.1.below hbXa KX.out.2.1.lt).cells
         clear i1 i2 i3 i4 hbNa hbXa hbWa hxa hva'
         go_wp2_with fail
         refine (ntimes_any _ _ X X D D _ (KX.out.1.below KCa.out.1) (KX.out.1.below KCa.out.1) (by omega) (by omega)).mono ?_
         rintro e wb ⟨vb, rfl, hvb, hbb⟩
         obtain ⟨nbb, sob, cpb, zsb, rfl, -⟩ := hvb.parts
         obtain ⟨lb, hlb⟩ : ∃ lb, lb = zsb.length := ⟨_, rfl⟩
         rw [← hlb] at hvb ⊢
         clear hlb
         have hbcb : Below ca.heap.size ca wb := hbb
         have hsb := hbcb.size
         obtain ⟨cb, hcb⟩ : ∃ cb, cb = wb.alloc (.cells #[.bool nbb, .slice sob lb cpb] 171) := ⟨_, rfl⟩
         have hbnb : Below wb.heap.size wb cb := by rw [hcb]; exact (Below.refl _ _).alloc (Nat.le_refl _) _
         have hbNb : Below ca.heap.size ca cb := hbcb.trans (hbnb.mono hsb)
         have hbXb : Below wX.heap.size wX cb := KCa.out.1.trans (hbNb.mono KCa.out.1.size)
         have hbWb : Below W.heap.size W cb := KCa.out.2.trans (hbNb.mono KCa.out.2.size)
         have hxb : NBox cb wb.heap.size (.bool nbb) (.slice sob lb cpb) := by rw [hcb]; exact NBox.new wb _ _ rfl
         have hvb' := hvb.below hbnb
         have hXsb := KCa.out.1.size
         obtain ⟨pb, hpb⟩ : ∃ pb, pb = wb.heap.size := ⟨_, rfl⟩
         rw [← hpb] at hxb
         have hpbc : ca.heap.size ≤ pb := by omega
         have hpbX : wX.heap.size ≤ pb := by omega
         have KCb := Hid.mk (And.intro hbXb hbWb)
         have KVb := Hid.mk (And.intro hvb' (And.intro hxb hbNb))
         have HCb := Hid.mk (And.intro hcb hpb)
         clear g0 g1
         have hxab := KVa.out.2.1.below hbNb KVa.out.2.1.lt
         obtain ⟨g0, g1, -, -⟩ := hxab.cells
         obtain ⟨g2, g3, -, -⟩ := hxb.cells
         rw [hcb] at g0 g1 g2 g3
         have KAB := Hid.mk (And.intro (KVa.out.1.below hbNb) hxab)
         clear hvb hbb hbcb hbnb hbNb hbXb hbWb hxb hvb' hxab
         rw [hpb] at g2 g3
         clear hcb hpb
         go_wp2_with fail
         rw [← HCb.out.1, ← HCb.out.2]
         refine (plus_any _ _ _ _ (D + D + 1) (D + D + 1) _ KAB.out.1 KVb.out.1 (by omega) (by omega)).mono ?_
         rintro e wc ⟨vc, rfl, hvc, hbc⟩
         obtain ⟨nbc, soc, cpc, zsc, rfl, -⟩ := hvc.parts
         obtain ⟨lc, hlc⟩ : ∃ lc, lc = zsc.length := ⟨_, rfl⟩
         rw [← hlc] at hvc ⊢
         clear hlc
         have hbcc : Below cb.heap.size cb wc := hbc
         have hsc := hbcc.size
         have hoc := (KAB.out.2).below hbcc (KAB.out.2).lt
         obtain ⟨f0, f1, f2, f3⟩ := hoc.cells
         obtain ⟨cc, hcc⟩ : ∃ cc, cc = (wc.setCell ⟨pa, 0, none⟩ (.bool nbc)).setCell ⟨pa, 1, none⟩ (.slice soc lc cpc) := ⟨_, rfl⟩
         have hXsc := KCb.out.1.size
         have hbpc : Below pa wc cc := by rw [hcc]; exact ((Below.refl _ _).setCell (by simp) _).setCell (by simp) _
         have hbXc : Below wX.heap.size wX cc := (KCb.out.1.trans (hbcc.mono KCb.out.1.size)).trans (hbpc.mono hpaX)
         have hbWc : Below W.heap.size W cc := KX.out.2.2.1.trans (hbXc.mono hsWX)
         have hxc : NBox cc pa (.bool nbc) (.slice soc lc cpc) := by rw [hcc]; exact hoc.put _ _
         have hvc' := hvc.box hoc.ty (by decide) (.bool nbc) (.slice soc lc cpc)
         rw [← hcc] at hvc'
         have KCc := Hid.mk (And.intro hbXc hbWc)
         have KVc := Hid.mk (And.intro hvc' (And.intro hxc (And.intro hbcc hbpc)))
         have HCc := Hid.mk hcc
         clear g0 g1 g2 g3
         obtain ⟨g0, g1, -, -⟩ := hxc.cells
         obtain ⟨g2, g3, -, -⟩ := (JN.out.2.2.below hbWc JN.out.2.2.lt).cells
         rw [hcc] at g0 g1 g2 g3
         clear hvc hbc hbcc hoc hbpc hbXc hbWc hxc hvc' hcc
         go_wp2_with fail
         rw [← HCc.out]
         refine (ntimes_any _ _ _ 4 (max (D + D + 1) (D + D + 1) + 1) 3 _ KVc.out.1 (J.out.2.2.1.below KCc.out.2) (by omega) (by omega)).mono ?_
         clear f0 f1 f2 f3
         rintro e wd ⟨vd, rfl, hvd, hbd⟩
         obtain ⟨nbd, sod, cpd, zsd, rfl, -⟩ := hvd.parts
         obtain ⟨ld, hld⟩ : ∃ ld, ld = zsd.length := ⟨_, rfl⟩
         rw [← hld] at hvd ⊢
         clear hld
         have hbcd : Below cc.heap.size cc wd := hbd
         have hsd := hbcd.size
         have hod := (KVc.out.2.1).below hbcd (KVc.out.2.1).lt
         obtain ⟨f0, f1, f2, f3⟩ := hod.cells
         obtain ⟨cd, hcd⟩ : ∃ cd, cd = (wd.setCell ⟨pa, 0, none⟩ (.bool nbd)).setCell ⟨pa, 1, none⟩ (.slice sod ld cpd) := ⟨_, rfl⟩
         have hXsd := KCc.out.1.size
         have hbpd : Below pa wd cd := by rw [hcd]; exact ((Below.refl _ _).setCell (by simp) _).setCell (by simp) _
         have hbXd : Below wX.heap.size wX cd := (KCc.out.1.trans (hbcd.mono KCc.out.1.size)).trans (hbpd.mono hpaX)
         have hbWd : Below W.heap.size W cd := KX.out.2.2.1.trans (hbXd.mono hsWX)
         have hxd : NBox cd pa (.bool nbd) (.slice sod ld cpd) := by rw [hcd]; exact hod.put _ _
         have hvd' := hvd.box hod.ty (by decide) (.bool nbd) (.slice sod ld cpd)
         rw [← hcd] at hvd'
         have KCd := Hid.mk (And.intro hbXd hbWd)
         have KVd := Hid.mk (And.intro hvd' (And.intro hxd (And.intro hbcd hbpd)))
         have HCd := Hid.mk hcd
         clear g0 g1 g2 g3
         obtain ⟨nbq, soq, lq, cpq, i1, i2, hNq⟩ := HDg.out cd hbWd x hxA
         have KQ := Hid.mk hNq
         clear hvd hbd hbcd hod hbpd hbXd hbWd hxd hvd' hcd hNq
         go_wp2_with fail
         rw [← HCd.out]
         clear f0 f1 f2 f3
         have HSe := Hid.mk (show ∀ w', Below cd.heap.size cd w' → (w'.cell? ⟨dg, x * 2, none⟩ = some (.bool nbq) ∧ w'.cell? ⟨dg, x * 2 + 1, none⟩ = some (.slice soq lq cpq)) from fun w' hb => ⟨cell_later hb i1, cell_later hb i2⟩)
         go_upto_region 36 with fail
         go_cut [22] from 65 to 137 (fun p wx => TOut cd (detF x (gmF f c) * detF x (gmF f c)) (D + D + 1) p wx)
         case first =>
          go_region_held3 (fun w' => w'.cell? ⟨dg, x * 2, none⟩ = some (.bool nbq) ∧ w'.cell? ⟨dg, x * 2 + 1, none⟩ = some (.slice soq lq cpq))
           (exact HSe.out _ (by first | exact hb9 | exact (Below.refl _ _).drew | exact ((Below.refl _ _).alloc (Nat.le_refl _) _).drew | exact hb9.alloc hb9.size _ | exact (hb9.setCell (Nat.le_refl _) _).setCell (Nat.le_refl _) _))
           (first
             | (go_at_call 212; refine (ntimes_any _ _ _ _ D D _ (KQ.out.below (Below.refl _ _).drew) (KQ.out.below (Below.refl _ _).drew) (by omega) (by omega)).mono ?_; rintro e w5 ⟨p9, rfl, hp9, hb8⟩; obtain ⟨nb9, so9, cp9, xs9, rfl, -⟩ := hp9.parts; have hb9 : Below cd.heap.size cd w5 := (Below.refl _ _).drew.trans hb8; clear hb8)
             | (go_at_call 212; refine (ntimes_any _ _ _ _ D D _ (KQ.out.below ((Below.refl _ _).alloc (Nat.le_refl _) _).drew) (KQ.out.below ((Below.refl _ _).alloc (Nat.le_refl _) _).drew) (by omega) (by omega)).mono ?_; rintro e w5 ⟨p9, rfl, hp9, hb8⟩; obtain ⟨nb9, so9, cp9, xs9, rfl, -⟩ := hp9.parts; have hb9 : Below cd.heap.size cd w5 := ((Below.refl _ _).alloc (Nat.le_refl _) _).drew.trans (hb8.mono (by simp)); have hx9 : NBox w5 cd.heap.size (.bool false) (.slice none 0 0) := (NBox.new cd (.bool false) (.slice none 0 0) rfl).drew2.below hb8 (by simp); have hx8 := hx9.cells; clear hb8))
          all_goals
           go_wp2_with fail
           go_meet
           case rel =>
            first
             | exact ⟨_, _, _, _, _, rfl, hb9.size, NBox.new _ _ _ rfl, hp9.below ((Below.refl _ _).alloc (Nat.le_refl _) _), hb9.alloc hb9.size _⟩
             | exact ⟨_, _, _, _, _, rfl, Nat.le_refl _, hx9.put _ _, hp9.box hx9.ty (by decide) _ _, (hb9.setCell (Nat.le_refl _) _).setCell (Nat.le_refl _) _⟩
         case rest =>
          rename World => ce
          obtain ⟨pe, nbe, soe, le, cpe, rfl, hpec, hxe, hve', hbNe⟩ := hcut
          have hXse := KCd.out.1.size
          have hpeX : wX.heap.size ≤ pe := by omega
          have hbXe : Below wX.heap.size wX ce := KCd.out.1.trans (hbNe.mono KCd.out.1.size)
          have hbWe : Below W.heap.size W ce := KCd.out.2.trans (hbNe.mono KCd.out.2.size)
          have KCe := Hid.mk (And.intro hbXe hbWe)
          have KVe := Hid.mk (And.intro hve' (And.intro hxe hbNe))
          clear i1 i2
          obtain ⟨g0, g1, -, -⟩ := hxe.cells
          obtain ⟨g2, g3, -, -⟩ := (JN.out.2.1.below hbWe JN.out.2.1.lt).cells
          have hpae : pa < pe := by have := KVd.out.2.1.lt; omega
          have hxae := KVd.out.2.1.below hbNe KVd.out.2.1.lt
          have KAE := Hid.mk (And.intro (KVd.out.1.below hbNe) hxae)
          clear hbNe hbXe hbWe hxe hve' hxae
          go_wp2_with fail
          refine (ntimes_any _ _ _ 3 (D + D + 1) 3 _ KVe.out.1 (J.out.2.1.below KCe.out.2) (by omega) (by omega)).mono ?_
          rintro e wf ⟨vf, rfl, hvf, hbf⟩
          obtain ⟨nbf, sof, cpf, zsf, rfl, -⟩ := hvf.parts
          obtain ⟨lf, hlf⟩ : ∃ lf, lf = zsf.length := ⟨_, rfl⟩
          rw [← hlf] at hvf ⊢
          clear hlf
          have hbcf : Below ce.heap.size ce wf := hbf
          have hsf := hbcf.size
          have hof := (KVe.out.2.1).below hbcf (KVe.out.2.1).lt
          obtain ⟨f0, f1, f2, f3⟩ := hof.cells
          obtain ⟨cf, hcf⟩ : ∃ cf, cf = (wf.setCell ⟨pe, 0, none⟩ (.bool nbf)).setCell ⟨pe, 1, none⟩ (.slice sof lf cpf) := ⟨_, rfl⟩
          have hXsf := KCe.out.1.size
          have hbpf : Below pe wf cf := by rw [hcf]; exact ((Below.refl _ _).setCell (by simp) _).setCell (by simp) _
          have hbXf : Below wX.heap.size wX cf := (KCe.out.1.trans (hbcf.mono KCe.out.1.size)).trans (hbpf.mono hpeX)
          have hbWf : Below W.heap.size W cf := KX.out.2.2.1.trans (hbXf.mono hsWX)
          have hxf : NBox cf pe (.bool nbf) (.slice sof lf cpf) := by rw [hcf]; exact hof.put _ _
          have hvf' := hvf.box hof.ty (by decide) (.bool nbf) (.slice sof lf cpf)
          rw [← hcf] at hvf'
          have KCf := Hid.mk (And.intro hbXf hbWf)
          have KVf := Hid.mk (And.intro hvf' (And.intro hxf (And.intro hbcf hbpf)))
          have HCf := Hid.mk hcf
          clear g0 g1 g2 g3
          obtain ⟨g0, g1, -, -⟩ := hxf.cells
          have hxaf := (KAE.out.2.below hbcf KAE.out.2.lt).below hbpf hpae
          obtain ⟨g2, g3, -, -⟩ := hxaf.cells
          have hvaf := (KAE.out.1.below hbcf).box hof.ty (by decide) (.bool nbf) (.slice sof lf cpf)
          rw [← hcf] at hvaf
          rw [hcf] at g0 g1 g2 g3
          have KAF := Hid.mk hvaf
          clear hvf hbf hbcf hof hbpf hbXf hbWf hxf hvf' hcf hxaf hvaf
          go_wp2_with fail
          rw [← HCf.out]
          refine (order_any _ _ _ _ (max (D + D + 1) (D + D + 1) + 1 + 3 + 1) (D + D + 1 + 3 + 1) _ KAF.out KVf.out.1 (by omega) (by omega)).mono ?_
          rintro e wg ⟨rfl, hbg⟩
          clear f0 f1 f2 f3 g0 g1 g2 g3
          obtain ⟨q, hq⟩ : ∃ q, q = sgn ((detF x1 (gmF f c) * detF y (gmF f c) + X * X) * 4 - detF x (gmF f c) * detF x (gmF f c) * 3) := ⟨_, rfl⟩
          rw [show sgn _ = q from hq.symm]
          have hq0 : ¬ q < 0 := by
           have h1 := H.out.2.ord y (by have := HY1.out; have := HYL.out; omega)
           have h2 : y + 1 = x := by have := HY1.out; have := HYL.out; omega
           have h3 : y + 2 = x1 := by have := HX1.out; omega
           rw [h3, h2] at h1
           have h4 : X = minorF (gmF f c) (List.range x) (List.range y ++ [x]) := by rw [KX.out.2.2.2, K10.out.2.2.2.1, HYL.out]
           rw [← h4] at h1
           rw [hq]
           exact sgn_ge (by omega)
          have KG := Hid.mk (KCf.out.2.trans (hbg.mono KCf.out.2.size))
          clear hbg hq
          go_wp2_with fail
          go_roundw
          case measure => simp [intOf]; omega
          case rel => exact ⟨y + 1, by omega, by rw [← HY1.out], KG.out⟩
       ·have hyl' : ((y : Int) == (x : Int) - 1) = false := by have := HY1.out; simp; omega
        have hxw : IntKind.i64.wrap ((x : Int) - 1) = (x : Int) - 1 := IntWalk.i64_in _ (by omega)
        clear hyl
        go_wp2_with fail
        go_roundw
        case measure => simp [intOf]; omega
        case rel => exact ⟨y + 1, by omega, by rw [← HY1.out], KO.out.2⟩
      ·have hyi : ¬ (y : Int) < (x : Int) := by omega
       go_wp2_with fail
       go_roundw
       case measure => simp [intOf]; omega
       case rel => exact ⟨x + 1, by omega, by rw [← HX1.out], HK.out⟩
    ·have hxi : ¬ (x : Int) < (r : Int) := by omega
     go_wp2_with fail
     go_ret
     exact ⟨rfl, HJ.out.2⟩
end Go.Proofs.YtfjbijpagaipnabGreatDoor.R
