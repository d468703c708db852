import Derived.Test.YtfjbijpagaipnabGreatDoorR35
import Derived.Test.YtfjbijpagaipnabGreatDoorR32
import Derived.Laws.CopyOwn
import Derived.Deep.RegionLaw
import Derived.Test.YtfjbijpagaipnabGreatDoorR38
import Derived.Deep.RegionLawGrows
import Derived.StillTailTactics
import Derived.Test.YtfjbijpagaipnabGreatDoorR14
import Derived.Test.YtfjbijpagaipnabGreatDoorR34
import Derived.Test.YtfjbijpagaipnabGreatDoorR41
import Derived.Test.YtfjbijpagaipnabGreatDoorR25
import Derived.Test.YtfjbijpagaipnabGreatDoorR29
import Derived.Test.YtfjbijpagaipnabGreatDoorR24
import Derived.Test.YtfjbijpagaipnabGreatDoorR17
import Derived.Test.YtfjbijpagaipnabGreatDoorR30
namespace Go.Proofs.YtfjbijpagaipnabGreatDoor.R
open Go.RowKit
theorem run_copy_n (w : World) (ty : TypeId) (g n : Nat) (ad : Addr) (cur : Array Value) (cs : List Value) (hg : w.heap[g]? = some (.cells cur 171 (0, 0))) (hc : cur.size = n * 2) (hn : cs.length = n * 2)
 (hsrc : ∀ j v, cs[j]? = some v → w.cell? (ad.add j) = some v) (h1 : ∀ v ∈ cs, v.oneCell' = true) :
 (Builtin.copy_ #[202, 202] ty #[.slice (some ⟨g, 0, none⟩) n n, .slice (some ad) n n]).run Tryz.prog w = .ok (goInt n) (w.setRow g cs.toArray) := by
 obtain ⟨i, hi, hz0, hz1, hz2⟩ := info_parts Tryz.info171
 have hf := run_firstCells_some (P := Tryz.prog) w 2 n ad n n cs hn hsrc
 have hst := run_storeCells_at Tryz.prog g 0 171 cs 0 cur w hg (by omega) h1
 simp only [Nat.add_zero, Nat.zero_add, List.take_zero, List.nil_append] at hst
 rw [List.drop_of_length_le (by rw [Array.length_toList]; omega), List.append_nil] at hst
 simp [Builtin.copy_, run_underlying Tryz.underlying202, Builtin.lenOf, sizeOf, typeInfo, hi, hz1, hf, hst]
theorem step_copy_n {w : World} {ops : Array Oper} {o : Oper} {a : Act} {K : Act → World → Prop} {Q : Exit → Act → World → Prop} {E : Prop} (hgd : o.guard = none) (d s : Operand)
 (ho : o.op = .call { callee := .builtin .copy, args := #[d, s], argTypes := #[202, 202] }) (g gsrc c : Nat) (f f2 : Nat → Int) (L L2 : Nat)
 (hd : a.eval d = .slice (some ⟨g, 0, none⟩) c c) (hs : a.eval s = .slice (some ⟨gsrc, 0, none⟩) c c) (hdst : RRow 0 w g c f2 L2) (hsrc : RRow 0 w gsrc c f L)
 (hK : ∀ w', RRow 0 w' g c f L → w.grownBy w' (some g) → K (a.put o.dst (goInt c)) w') :
 if Region.wanted o (yielded ops a.tmps) = true then Oper.wp Tryz.prog o a w K Q else E := by
 have hw : Region.wanted o (yielded ops a.tmps) = true := by simp [Region.wanted, hgd]
 rw [if_pos hw]
 obtain ⟨cur, p1, p2, -⟩ := hdst
 obtain ⟨cs, q1, q2, q3⟩ := hsrc
 have hone : ∀ v ∈ cs.toList, v.oneCell' = true := by
  intro v hv
  obtain ⟨j, hj, hjv⟩ := List.getElem_of_mem hv
  have hl : cs.toList.length = 2 * c := by simpa using q2
  obtain ⟨x, y, e1, e2, e3, -⟩ := q3 (j / 2) (by omega)
  obtain ⟨nb, ao', cp, xs, e4, -⟩ := e3.parts
  simp only [Value.agg.injEq, Array.mk.injEq, List.cons.injEq, and_true] at e4
  have hj' : cs[j]? = some v := by rw [← Array.getElem?_toList, List.getElem?_eq_getElem hj, hjv]
  rcases (show j = 2 * (j / 2) ∨ j = 2 * (j / 2) + 1 from by omega) with hjj | hjj
  ·rw [hjj, e1] at hj'; injection hj' with hj'; rw [← hj', e4.1]; rfl
  ·rw [hjj, e2] at hj'; injection hj' with hj'; rw [← hj', e4.2]; rfl
 have hrun := run_copy_n w o.type g c ⟨gsrc, 0, none⟩ cur cs.toList p1 (by omega) (by simp; omega) (fun j v hj => by
  rw [Array.getElem?_toList] at hj
  by_cases hj0 : j = 0
  ·subst hj0; simp [World.cell?, Addr.add, q1, hj]
  ·simp [World.cell?, Addr.add, hj0, q1, hj]) hone
 unfold Oper.wp
 simp [execOp, ho, resolve, invoke, builtin, hd, hs, hrun, Result.andThen]
 have hgrow : w.grownBy (w.setRow g cs) (some g) := ⟨rfl, rfl, rfl, by simp [World.setRow], fun k _ hne => setRow_other w g k _ (fun e => hne (by simp [e]))⟩
 have hki : KI w (w.setRow g cs) := KI.of_grown hgrow (fun k hk => by injection hk with hk; subst hk; exact ⟨_, _, p1⟩) (by decide)
 refine hK _ ⟨cs, setRow_heap w g _ _ _ _ p1, q2, fun j hj => ?_⟩ hgrow
 obtain ⟨x, y, e1, e2, e3, e4⟩ := q3 j hj
 exact ⟨x, y, e1, e2, e3.keep hki, e4⟩
theorem IsR.rowed {w w' : World} {b r c : Nat} {gs : Nat → Nat} {f : Nat → Nat → Int} {L : Nat} (h : IsR 0 w b r c gs f L) {i : Nat} (hi : i < r) {g : Nat → Int} (hr : RRow 0 w' (gs i) c g L) (hg : w.grownBy w' (some (gs i))) :
 IsR 0 w' b r c gs (fun a j => if a = i then g j else f a j) L := by
 have hne := h.ne_row hi
 obtain ⟨h0, v, h1, h2, h3, h4⟩ := h
 obtain ⟨cs, q1, -⟩ := (h3 i hi).2
 have hty : Ty w (gs i) 171 := ⟨_, _, q1⟩
 have hki : KI w w' := KI.of_grown hg (fun k hk => by injection hk with hk; subst hk; exact hty) (by decide)
 have hother : ∀ (k : Nat) (arr : Array Value) (t : TypeId), k ≠ gs i → w.heap[k]? = some (.cells arr t (0, 0)) → w'.heap[k]? = some (.cells arr t (0, 0)) := by
  intro k arr t ht hk
  rw [hg.block k (Array.getElem?_eq_some_iff.1 hk).1 (fun e => ht (by injection e with e))]
  exact hk
 refine ⟨h0, v, hother _ _ _ hne h1, ⟨h2.1, ?_⟩, fun k hk => ⟨(h3 k hk).1, ?_⟩, h4⟩
 ·rcases h2.2 with h5 | ⟨g', cap, cur, hv, hg', hh, r⟩
  ·exact .inl h5
  ·exact .inr ⟨g', cap, cur, hv, hg', hother _ _ _ (fun e => by rw [e, q1] at hh; simp at hh) hh, r⟩
 ·by_cases hki' : k = i
  ·subst hki'
   have e : (fun a j => if a = k then g j else f a j) k = g := by funext j; simp
   rw [e]
   exact hr
  ·have hne' : gs k ≠ gs i := by
    rcases Nat.lt_or_gt_of_ne hki' with h5 | h5
    ·have := h4 k i h5 hi; omega
    ·have := h4 i k h5 hk; omega
   have e : (fun a j => if a = i then g j else f a j) k = f k := by funext j; simp [hki']
   rw [e]
   obtain ⟨cs', p1, p2, p3⟩ := (h3 k hk).2
   refine ⟨cs', hother _ _ _ hne' p1, p2, fun t ht => ?_⟩
   obtain ⟨a', b', e1, e2, e3, e4⟩ := p3 t ht
   exact ⟨a', b', e1, e2, e3.keep hki, e4⟩
theorem IsR.row {B : Nat} {w : World} {b r c : Nat} {gs : Nat → Nat} {f : Nat → Nat → Int} {L : Nat} (h : IsR B w b r c gs f L) {i : Nat} (hi : i < r) : RRow 0 w (gs i) c (f i) L := by
 obtain ⟨h0, v, h1, h2, h3, h4⟩ := h
 exact (h3 i hi).2.weak (Nat.zero_le _)
open Go.RowKit
theorem below_grown {B p : Nat} {w w' : World} (h : w.grownBy w' (some p)) (hp : B ≤ p) (hB : B ≤ w.heap.size) : Below B w w' := ⟨h.os, h.tape, h.output, h.size, fun k hk => h.block k (by omega) (by intro e; injection e with e; omega)⟩
set_option maxRecDepth 100000 in
set_option maxHeartbeats 4000000 in
theorem over_any (b b' r q c : Nat) (gs gs' : Nat → Nat) (f f' : Nat → Nat → Int) (B B' L : Nat) (w : World) (h : IsR B w b r c gs f L) (h' : IsR B' w b' q c gs' f' L) (hr : r + q ≤ 99) (hc : c ≤ 99) :
 Calls Tryz.prog 179 #[.pointer (some ⟨b, 0, none⟩), .pointer (some ⟨b', 0, none⟩)] w fun e w' => e = .returned (.pointer (some ⟨w.heap.size, 0, none⟩)) ∧ (∃ go, IsR 0 w' w.heap.size (r + q) c go (ov r f f') L) ∧ Below w.heap.size w w' := by
 have H := Hid.mk (And.intro h h')
 obtain ⟨hbl, ao, cap, c0, c1, c2, -⟩ := h.open_
 obtain ⟨hbl', ao', cap', d0, d1, d2, -⟩ := h'.open_
 clear h h'
 obtain ⟨R, hR⟩ : ∃ R, R = r + q := ⟨_, rfl⟩
 have hRi : (r : Int) + (q : Int) = (R : Int) := by omega
 have HR := Hid.mk hR
 rw [← hR] at hr ⊢
 clear hR
 go_enter Tryz.func179, Tryz.ntmps179
 go_upto_region 1 with fail
 go_still_tail 13, (by kernel_rfl)
 go_wp2_with fail
 refine (empty_any R c _ (by omega) hc).mono ?_
 rintro e w2 ⟨rfl, ⟨go, hI⟩, hb2⟩
 have hbc : Below w.heap.size w w2 := (Below.refl w.heap.size w).drew.trans hb2
 have hgo := hI.rowsAt
 have HGO := Hid.mk hgo
 have H0 := Hid.mk (And.intro ((hI.weak (Nat.zero_le _)).mono (Nat.zero_le L)) hbc)
 clear hI hb2 hbc hgo c0 c1 c2 d0 d1 d2
 go_wp2_with fail
 go_loopw [6] (fun i wr => ∃ (a : Nat) (g : Nat → Nat → Int), a ≤ r ∧ i = .int .i64 a ∧ IsR 0 wr w.heap.size R c go g L ∧ Below w.heap.size w wr ∧ Hid (∀ i j, i < a → g i j = f i j)) (fun i _ => r - (intOf i).toNat)
 case atStart => exact ⟨0, _, Nat.zero_le _, rfl, H0.out.1, H0.out.2, Hid.mk (fun i j h => by omega)⟩
 case round =>
  rename World => wi
  obtain ⟨a, g, ha, rfl, hI, hbel, HU⟩ := hrel
  obtain ⟨-, ao, cap, c0, c1, c2, c3, c4, c5, -⟩ := (H.out.1.keep (KR.of_below hbel)).open_
  obtain ⟨-, ao', cap', d0, d1, d2, d3, d4, d5, -⟩ := hI.open_
  have HB := Hid.mk (And.intro hI hbel)
  have hwi := hbel.size
  clear hI hbel
  by_cases har : a < r
  ·have hai : (a : Int) < (r : Int) := by omega
   have haR : a < R := by have := HR.out; omega
   obtain ⟨gL, rfl, y1⟩ := d5 a haR
   obtain ⟨gM, rfl, x1⟩ := c5 a har
   have S := Hid.mk (And.intro (HB.out.1.row haR) ((H.out.1.keep (KR.of_below HB.out.2)).row har))
   clear c5 d5
   go_wp2_with fail
   go_region_law (refine step_copy_n rfl (.tmp 36) (.tmp 43) rfl (go a) (gs a) c (f a) (g a) L L rfl rfl S.out.1 S.out.2 ?_; intro w3 hrow hgr)
   all_goals
    go_wp2_with fail
    go_roundw
    case measure => simp [intOf]; omega
    case rel =>
     have hge := (HGO.out a haR).1
     exact ⟨a + 1, _, by omega, by go_num, IsR.rowed (w := wi.drew) HB.out.1 haR hrow hgr, HB.out.2.drew.trans (below_grown hgr hge hwi), Hid.mk (fun i j hi => by
      show (if i = a then f a j else g i j) = f i j
      by_cases e : i = a
      ·rw [if_pos e, e]
      ·rw [if_neg e]; exact HU.out i j (by omega))⟩
  ·have hae : a = r := by omega
   subst hae
   clear c3 c4 c5 d3 d4 d5 d0 d1 d2
   go_wp2_with fail
   clear c0 c1 c2
   go_loopw [7] (fun i wr => ∃ (k : Nat) (g' : Nat → Nat → Int), k ≤ q ∧ i = .int .i64 k ∧ IsR 0 wr w.heap.size R c go g' L ∧ Below w.heap.size w wr ∧ Hid (∀ i j, i < a + k → g' i j = ov a f f' i j)) (fun i _ => q - (intOf i).toNat)
   case atStart => exact ⟨0, g, Nat.zero_le _, rfl, HB.out.1, HB.out.2, Hid.mk (fun i j h => by unfold ov; rw [if_pos (by omega)]; exact HU.out i j (by omega))⟩
   case round =>
    rename World => wj
    obtain ⟨k, g', hk, rfl, hI, hbel, HV⟩ := hrel
    obtain ⟨-, ao, cap, c0, c1, c2, -⟩ := (H.out.1.keep (KR.of_below hbel)).open_
    obtain ⟨-, ao', cap', d0, d1, d2, d3, d4, d5, -⟩ := hI.open_
    obtain ⟨-, ao2, cap2, e0, e1, e2, e3, e4, e5, -⟩ := (H.out.2.keep (KR.of_below hbel)).open_
    have HC := Hid.mk (And.intro hI hbel)
    have hwj := hbel.size
    clear hI hbel
    by_cases hkq : k < q
    ·have hki : (k : Int) < (q : Int) := by omega
     obtain ⟨A, hA⟩ : ∃ A, A = a + k := ⟨_, rfl⟩
     have hkR : A < R := by have := HR.out; omega
     obtain ⟨gL, rfl, y1⟩ := d5 A hkR
     obtain ⟨gM, rfl, x1⟩ := e5 k hkq
     have hsum : (a : Int) + (k : Int) = (A : Int) := by omega
     have hwA : IntKind.i64.wrap (A : Int) = (A : Int) := IntWalk.i64_in _ (by omega)
     have hAR : (A : Int) < (R : Int) := by omega
     have S := Hid.mk (And.intro (HC.out.1.row hkR) ((H.out.2.keep (KR.of_below HC.out.2)).row hkq))
     have HA := Hid.mk hA
     clear d5 e5 hA
     go_wp2_with fail
     go_region_law (refine step_copy_n rfl (.tmp 64) (.tmp 71) rfl (go A) (gs' k) c (f' k) (g' A) L L rfl rfl S.out.1 S.out.2 ?_; intro w3 hrow hgr)
     all_goals
      go_wp2_with fail
      go_roundw
      case measure => simp [intOf]; omega
      case rel =>
       have hge := (HGO.out A hkR).1
       have hA := HA.out
       exact ⟨k + 1, _, by omega, by go_num, IsR.rowed (w := wj.drew) HC.out.1 hkR hrow hgr, HC.out.2.drew.trans (below_grown hgr hge hwj), Hid.mk (fun i j hi => by
        show (if i = A then f' k j else g' i j) = ov a f f' i j
        by_cases e : i = A
        ·rw [if_pos e, e, hA]
         unfold ov
         rw [if_neg (by omega), Nat.add_sub_cancel_left]
        ·rw [if_neg e]; exact HV.out i j (by omega))⟩
    ·go_wp2_with fail
     go_ret
     refine ⟨rfl, ⟨go, ?_⟩, HC.out.2⟩
     have hkq2 : k = q := by omega
     subst hkq2
     refine HC.out.1.congr fun i j hi _ => ?_
     exact HV.out i j (by have := HR.out; omega)
open Go.RowKit
theorem LM_le {L k : Nat} (hL : L ≤ 1000000000) (hk : k ≤ 8) : LM L k ≤ 10000000000 := by
 have h1 : ∀ n, LM L n ≤ 3 + n * (L + n + 5) := by
  intro n
  induction n with
  | zero => simp [LM]
  | succ n ih =>
    rw [LM, Nat.succ_mul]
    have : n * (L + n + 5) ≤ n * (L + (n + 1) + 5) := Nat.mul_le_mul_left _ (by omega)
    omega
 have h2 := h1 k
 have h3 : k * (L + k + 5) ≤ 8 * (1000000000 + 8 + 5) := Nat.mul_le_mul hk (by omega)
 omega
set_option maxRecDepth 100000 in
set_option maxHeartbeats 4000000 in
theorem spans_any (b b' r q c : Nat) (gs gs' : Nat → Nat) (f f' : Nat → Nat → Int) (B B' L : Nat) (w : World) (h : IsR B w b r c gs f L) (h' : IsR B' w b' q c gs' f' L) (hr : r + q ≤ 12) (hc : c ≤ 4) (hL : L ≤ 1000000000) :
 Calls Tryz.prog 173 #[.pointer (some ⟨b, 0, none⟩), .pointer (some ⟨b', 0, none⟩)] w fun e w' => ∃ y : Bool, e = .returned (.bool y) ∧ (y = true ↔ ∃ k, RankIs f r c k ∧ RankIs (ov r f f') (r + q) c k ∧ divF (ov r f f') (r + q) c k = divF f r c k) ∧ Below w.heap.size w w' := by
 have H := Hid.mk (And.intro h h')
 clear h h'
 go_enter Tryz.func173, Tryz.ntmps173
 go_wp2_with fail
 refine (rank_any b r c gs f B L _ H.out.1 (by omega) (by omega) hL).mono ?_
 rintro e w1 ⟨k, rfl, hk, hb1⟩
 have K1 := Hid.mk (And.intro hk hb1)
 have hkc : k ≤ 4 := by have := hk.2.1; omega
 clear hk hb1
 go_wp2_with fail
 refine (over_any b b' r q c gs gs' f f' B B' L _ (H.out.1.keep (KR.of_below K1.out.2)) (H.out.2.keep (KR.of_below K1.out.2)) (by omega) (by omega)).mono ?_
 rintro e w2 ⟨rfl, ⟨go, hI⟩, hb2⟩
 have K2 := Hid.mk (And.intro hI (K1.out.2.trans (hb2.mono K1.out.2.size)))
 clear hI hb2
 go_wp2_with fail
 refine (rank_any _ (r + q) c go (ov r f f') 0 L _ K2.out.1 (by omega) (by omega) hL).mono ?_
 rintro e w3 ⟨k', rfl, hk', hb3⟩
 have K3 := Hid.mk (And.intro hk' (And.intro (K2.out.1.keep (KR.of_below hb3)) (K2.out.2.trans (hb3.mono K2.out.2.size))))
 clear hk' hb3
 by_cases hkk : (k : Int) = (k' : Int)
 ·have HK := Hid.mk hkk
  have hb0 : ((k : Int) != (k' : Int)) = false := by simp [hkk]
  clear hkk
  go_wp2_with fail
  refine (divisor_any b r c k gs f B L _ (H.out.1.keep (KR.of_below K3.out.2.2)) (by omega) (by omega) (by omega) hL (LM_le hL (by omega))).mono ?_
  rintro e w4 ⟨v4, rfl, hN4, hb4⟩
  obtain ⟨n4, o4, p4, x4, rfl, -⟩ := id hN4.parts
  have hb44 := (Below.refl w4.heap.size w4).alloc (Nat.le_refl _) (.cells #[.bool n4, .slice o4 x4.length p4] 171)
  have y0 : (w4.alloc (.cells #[.bool n4, .slice o4 x4.length p4] 171)).cell? ⟨w4.heap.size, 0, none⟩ = some (.bool n4) := new_cell _ _ _ _ _ rfl rfl
  have y1 : (w4.alloc (.cells #[.bool n4, .slice o4 x4.length p4] 171)).cell? ⟨w4.heap.size, 1, none⟩ = some (.slice o4 x4.length p4) := new_cell _ _ _ _ _ rfl rfl
  have hb34 : Below w3.heap.size w3 (w4.alloc (.cells #[.bool n4, .slice o4 x4.length p4] 171)) := hb4.trans (hb44.mono hb4.size)
  have K4 := Hid.mk (And.intro (hN4.below hb44) (And.intro (K3.out.2.1.keep (KR.of_below hb34)) (And.intro (K3.out.2.2.trans (hb34.mono K3.out.2.2.size)) (And.intro y0 y1))))
  clear hN4 hb4 hb44 hb34 y0 y1
  go_wp2_with fail
  refine (divisor_any _ (r + q) c k go (ov r f f') 0 L _ K4.out.2.1 (by omega) (by omega) (by omega) hL (LM_le hL (by omega))).mono ?_
  rintro e w5 ⟨v5, rfl, hN5, hb5⟩
  obtain ⟨n5, o5, p5, x5, rfl, -⟩ := id hN5.parts
  have hb55 := (Below.refl w5.heap.size w5).alloc (Nat.le_refl _) (.cells #[.bool n5, .slice o5 x5.length p5] 171)
  have hb46 := hb5.trans (hb55.mono hb5.size)
  have y0 := cell_later hb46 K4.out.2.2.2.1
  have y1 := cell_later hb46 K4.out.2.2.2.2
  have hw5 := hb5.size
  have K5 := Hid.mk (And.intro (K4.out.1.below hb46) (And.intro (hN5.below hb55) (K4.out.2.2.1.trans (hb46.mono K4.out.2.2.1.size))))
  clear hN5 hb5 hb55 hb46
  go_wp2_with fail
  refine (order_any _ _ _ _ (LM L k) (LM L k) _ K5.out.1 K5.out.2.1 (by have := LM_le hL (show k ≤ 8 by omega); omega) (by have := LM_le hL (show k ≤ 8 by omega); omega)).mono ?_
  rintro e w6 ⟨rfl, hb6⟩
  have K6 := Hid.mk (K5.out.2.2.trans (hb6.mono K5.out.2.2.size))
  clear hb6
  go_wp2_with fail
  go_ret
  refine ⟨_, rfl, ?_, K6.out⟩
  have e0 : k = k' := by have := HK.out; omega
  have e1 := K3.out.1
  rw [← e0] at e1
  constructor
  ·intro h
   have hz : sgn (((divF f r c k : Nat) : Int) - ((divF (ov r f f') (r + q) c k : Nat) : Int)) = 0 := by simpa using h
   refine ⟨k, K1.out.1, e1, ?_⟩
   unfold sgn at hz
   split at hz
   ·omega
   ·split at hz
    ·omega
    ·omega
  ·rintro ⟨l, h1, -, h3⟩
   obtain rfl := rank_uniq K1.out.1 h1
   rw [h3]
   simp [sgn]
 ·have HK := Hid.mk hkk
  have hb0 : ((k : Int) != (k' : Int)) = true := by simp [hkk]
  clear hkk
  go_wp2_with fail
  go_ret
  refine ⟨false, rfl, ⟨(fun h => by cases h), ?_⟩, K3.out.2.2⟩
  rintro ⟨l, h1, h2, -⟩
  have e1 := rank_uniq K1.out.1 h1
  have e2 := rank_uniq K3.out.1 h2
  exact absurd (show (k : Int) = (k' : Int) by omega) HK.out
end Go.Proofs.YtfjbijpagaipnabGreatDoor.R
namespace Go.Proofs.YtfjbijpagaipnabGreatDoor
open Go.RowKit
open Go.RowKit
open Go.RowKit
open Go.RowKit
open Go.RowKit R
end Go.Proofs.YtfjbijpagaipnabGreatDoor
namespace Go.Proofs.YtfjbijpagaipnabGreatDoor.R
open Go.RowKit
def TurnTo (f : Nat → Nat → Int) (c a e : Nat) (g : Nat → Nat → Int) : Prop := ∀ i j, i < c → (j < a ∨ (j = a ∧ i < e)) → g i j = f j i
theorem TurnTo.next {f : Nat → Nat → Int} {c a e : Nat} {g : Nat → Nat → Int} (h : TurnTo f c a e g) : TurnTo f c a (e + 1) (upd2 g e a (f a e)) := by
 intro i j hi hd
 unfold upd2
 by_cases hij : i = e ∧ j = a
 ·rw [if_pos hij, hij.1, hij.2]
 ·rw [if_neg hij]
  exact h i j hi (by omega)
theorem TurnTo.row {f : Nat → Nat → Int} {c a e : Nat} {g : Nat → Nat → Int} (h : TurnTo f c a e g) (he : c ≤ e) : TurnTo f c (a + 1) 0 g := fun i j hi hd => h i j hi (by omega)
set_option maxRecDepth 100000 in
set_option maxHeartbeats 4000000 in
theorem turned_any (b r c : Nat) (gs : Nat → Nat) (f : Nat → Nat → Int) (B L : Nat) (w : World) (h : IsR B w b r c gs f L) (hr : r ≤ 99) (hc : c ≤ 99) :
 Calls Tryz.prog 172 #[.pointer (some ⟨b, 0, none⟩)] w fun e w' => e = .returned (.pointer (some ⟨w.heap.size, 0, none⟩)) ∧ (∃ go, IsR 0 w' w.heap.size c r go (fun i j => f j i) L) ∧ Below w.heap.size w w' := by
 have H := Hid.mk h
 obtain ⟨hbl, ao, cap, c0, c1, c2, -⟩ := h.open_
 clear h
 go_enter Tryz.func172, Tryz.ntmps172
 go_upto_region 1 with fail
 go_region_held3 (fun w' => w'.cell? ⟨b, 0, none⟩ = some (.int .i64 r) ∧ w'.cell? ⟨b, 1, none⟩ = some (.int .i64 c)) (first | go_keep | exact ⟨cell_later hb2 c0, cell_later hb2 c1⟩)
  (first | (go_at_call 174; refine (empty_any c r _ (by omega) (by omega)).mono ?_; rintro e w2 ⟨rfl, hI2, hb2⟩))
 all_goals
  have hbc : Below w.heap.size w w2 := (Below.refl w.heap.size w).drew.trans hb2
  obtain ⟨go, hI⟩ := hI2
  have hgo := hI.rowsAt
  have HGO := Hid.mk hgo
  have H0 := Hid.mk (And.intro ((hI.weak (Nat.zero_le _)).mono (Nat.zero_le L)) hbc)
  clear hI hbc hgo hb2 c0 c1 c2
  go_wp2_with fail
  go_loopw [4] (fun i wr => ∃ (a : Nat) (g : Nat → Nat → Int), a ≤ r ∧ i = .int .i64 a ∧ IsR 0 wr w.heap.size c r go g L ∧ Below w.heap.size w wr ∧ Hid (TurnTo f c a 0 g)) (fun i _ => r - (intOf i).toNat)
  case atStart => exact ⟨0, _, Nat.zero_le _, rfl, H0.out.1, H0.out.2, Hid.mk (fun i j hj hd => by omega)⟩
  case round =>
   rename World => wi
   obtain ⟨a, g, ha, rfl, hI, hbel, HU⟩ := hrel
   obtain ⟨-, ao, cap, c0, c1, c2, -⟩ := (H.out.keep (KR.of_below hbel)).open_
   have HB := Hid.mk (And.intro hI hbel)
   clear hI hbel
   by_cases har : a < r
   ·have hai : (a : Int) < (r : Int) := by omega
    go_wp2_with fail
    go_loopw [5] (fun j wr => ∃ (e : Nat) (g : Nat → Nat → Int), e ≤ c ∧ j = .int .i64 e ∧ IsR 0 wr w.heap.size c r go g L ∧ Below w.heap.size w wr ∧ Hid (TurnTo f c a e g)) (fun j _ => c - (intOf j).toNat)
    case atStart => exact ⟨0, g, Nat.zero_le _, rfl, HB.out.1, HB.out.2, HU⟩
    case round =>
     rename World => wj
     clear c0 c1 c2
     obtain ⟨e, g, he, rfl, hI, hbel, HU2⟩ := hrel
     have hIm := H.out.keep (KR.of_below hbel)
     obtain ⟨-, ao, cap, c0, c1, c2, c3, c4, c5, c6⟩ := hIm.open_
     obtain ⟨-, co, ecap, f0, f1, f2, f3, f4, f5, f6⟩ := hI.open_
     have HB2 := Hid.mk (And.intro hI hbel)
     clear hI hbel hIm
     by_cases hec : e < c
     ·have hei : (e : Int) < (c : Int) := by omega
      obtain ⟨gL, rfl, x1⟩ := c5 a har
      obtain ⟨nb2, so2, n2, cp2, x2, x3, -, -, hN2⟩ := c6 a e har hec
      obtain ⟨gO, rfl, y1⟩ := f5 e hec
      obtain ⟨nb7, so7, n7, cp7, y2, y3, y4, y5, -⟩ := f6 e a hec har
      rw [Nat.mul_comm 2] at x2 x3 y2 y3 y4 y5
      have HN := Hid.mk hN2
      clear c5 c6 f5 f6 hN2
      go_wp2_with fail
      go_region
      all_goals
       go_wp2_with fail
       go_roundw
       case measure => simp [intOf]; omega
       case rel =>
        have hset := HB2.out.1.set hec har HN.out (AtB.zero _)
        rw [Nat.mul_comm 2] at hset
        have hge : w.heap.size ≤ go e := (HGO.out e hec).1
        exact ⟨e + 1, _, by omega, by go_num, hset, ((HB2.out.2.setCell hge _).setCell hge _).drew, Hid.mk HU2.out.next⟩
     ·go_wp2_with fail
      go_roundw
      case measure => simp [intOf]; omega
      case rel => exact ⟨a + 1, g, by omega, by go_num, HB2.out.1, HB2.out.2, Hid.mk (HU2.out.row (by omega))⟩
   ·go_wp2_with fail
    go_ret
    refine ⟨rfl, ⟨go, ?_⟩, HB.out.2⟩
    exact HB.out.1.congr fun i j hi hj => HU.out i j hi (by omega)
open Go.RowKit
def gmF (f : Nat → Nat → Int) (c : Nat) : Nat → Nat → Int := fun i j => dot f (fun i j => f j i) i j c
structure ShP (f : Nat → Nat → Int) (r c : Nat) : Prop where
 pos : ∀ i, i < r → 0 < detF (i + 1) (gmF f c)
 half : ∀ i j, i < r → j < i → 2 * (minorF (gmF f c) (List.range (j + 1)) (List.range j ++ [i])).natAbs ≤ (detF (j + 1) (gmF f c)).toNat
 ord : ∀ i, i + 1 < r → 3 * (detF (i + 1) (gmF f c) * detF (i + 1) (gmF f c)) ≤ 4 * (detF (i + 2) (gmF f c) * detF i (gmF f c) + minorF (gmF f c) (List.range (i + 1)) (List.range i ++ [i + 1]) * minorF (gmF f c) (List.range (i + 1)) (List.range i ++ [i + 1]))
open Go.RowKit
def NL (B : Nat) (w : World) (sl : Value) (n : Nat) (zs : List Int) (L : Nat) : Prop :=
 zs.length = n ∧ ∃ cs, w.ownsRow B 171 2 sl n cs ∧ ∀ i, i < n → ∃ a b, cs[2 * i]? = some a ∧ cs[2 * i + 1]? = some b ∧ IsN w (.agg #[a, b]) (zs.getD i 0) L
theorem NL.nil (B : Nat) (w : World) (L : Nat) : NL B w (.slice none 0 0) 0 [] L := ⟨rfl, [], World.ownsRow_nil _ _ _ _, fun i hi => by omega⟩
theorem NL.below {B : Nat} {w W : World} {sl : Value} {n L : Nat} {zs : List Int} (h : NL B w sl n zs L) (hb : Below w.heap.size w W) : NL B W sl n zs L := by
 obtain ⟨h0, cs, h1, h2⟩ := h
 refine ⟨h0, cs, ⟨h1.1, ?_⟩, fun i hi => ?_⟩
 ·rcases h1.2 with h3 | ⟨g, cap, cur, hv, hg, hh, r⟩
  ·exact .inl h3
  ·exact .inr ⟨g, cap, cur, hv, hg, by rw [hb.block g (Array.getElem?_eq_some_iff.1 hh).1]; exact hh, r⟩
 ·obtain ⟨a, b, e1, e2, e3⟩ := h2 i hi
  exact ⟨a, b, e1, e2, e3.below hb⟩
theorem NL.lt {B : Nat} {w : World} {sl : Value} {n L : Nat} {zs : List Int} (h : NL B w sl n zs L) : ∀ k, sl.ownBlock = some k → B ≤ k ∧ Ty w k 171 := by
 intro k hk
 obtain ⟨h0, cs, h1, h2⟩ := h
 rcases h1.2 with ⟨rfl, _⟩ | ⟨g, cap, cur, rfl, hg, hh, r⟩
 ·simp [Value.ownBlock] at hk
 ·simp [Value.ownBlock] at hk
  subst hk
  exact ⟨hg, _, _, hh⟩
theorem append_num (w : World) {ops : Array Oper} {rest : List Oper} {o : Oper} {a : Act} {Q : Exit → Act → World → Prop} (hgd : o.guard = none) (s x : Operand)
 (ho : o.op = .call { callee := .builtin .append, args := #[s, x], argTypes := #[202, 202] }) (B : Nat) (v : Value) (n : Nat) (zs : List Int) (L : Nat) (hs : a.eval s = v) (hg : NL B w v n zs L)
 (ad : Addr) (hx : a.eval x = .slice (some ad) 1 1) (c1 c2 : Value) (z : Int) (h0 : w.cell? (ad.add 0) = some c1) (h1 : w.cell? (ad.add 1) = some c2) (o1 : c1.oneCell' = true) (o2 : c2.oneCell' = true) (hz : IsN w (.agg #[c1, c2]) z L) (hn : n ≤ 10000) (hB : B ≤ w.heap.size)
 (hK : ∀ v' w', NL B w' v' (n + 1) (zs ++ [z]) L → w.grownBy w' v.ownBlock → wpList Tryz.prog ops Q rest (a.put o.dst v') w') : wpList Tryz.prog ops Q (o :: rest) a w := by
 obtain ⟨i, hi, hz0, hz1, hz2⟩ := info_parts Tryz.info171
 have hlt := hg.lt
 obtain ⟨g0, cs, g1, g2⟩ := hg
 refine wpList_append_own w hgd s x 202 ho B 171 i (.agg #[.bool false, .slice none 0 0]) 2 32 Tryz.underlying202 hi hz0 hz1 hz2 rfl (by decide) v n cs hs g1 ad 1 1 [c1, c2] hx rfl ?_ ?_ ?_ ?_ hB ?_
 ·intro j u hj
  match j, hj with
  | 0, hj => simp at hj; subst hj; exact h0
  | 1, hj => simp at hj; subst hj; exact h1
 ·intro u hu; simp at hu; rcases hu with rfl | rfl
  ·exact o1
  ·exact o2
 ·unfold maxLen; omega
 ·omega
 ·intro v' w' k1 k2 _
  have hku := KI.of_grown k2 (fun k hk => (hlt k hk).2) (by decide)
  have hcl : cs.length = n * 2 := g1.1
  refine hK v' w' ⟨by simp [g0], cs ++ [c1, c2], k1, fun j hj => ?_⟩ k2
  by_cases hjn : j < n
  ·obtain ⟨a', b', e1, e2, e3⟩ := g2 j hjn
   refine ⟨a', b', by rw [List.getElem?_append_left (by omega)]; exact e1, by rw [List.getElem?_append_left (by omega)]; exact e2, ?_⟩
   rw [show (zs ++ [z]).getD j 0 = zs.getD j 0 from by simp [List.getD, List.getElem?_append_left (show j < zs.length from by omega)]]
   exact e3.keep hku
  ·have hje : j = n := by omega
   subst hje
   refine ⟨c1, c2, ?_, ?_, ?_⟩
   ·rw [List.getElem?_append_right (by omega), show 2 * j - cs.length = 0 from by omega]; rfl
   ·rw [List.getElem?_append_right (by omega), show 2 * j + 1 - cs.length = 1 from by omega]; rfl
   ·rw [show (zs ++ [z]).getD j 0 = z from by simp [List.getD, ← g0]]
    exact hz.keep hku
end Go.Proofs.YtfjbijpagaipnabGreatDoor.R
