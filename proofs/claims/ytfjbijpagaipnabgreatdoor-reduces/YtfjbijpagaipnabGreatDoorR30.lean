import Derived.Test.YtfjbijpagaipnabGreatDoorR29
import Derived.Test.YtfjbijpagaipnabGreatDoorR12
import Derived.Test.YtfjbijpagaipnabGreatDoorR14
namespace Go.Proofs.YtfjbijpagaipnabGreatDoor.R
open Go.RowKit
def chosenL : Nat → Nat → List (List Nat)
 | 0, _ => [[]]
 | k + 1, n => ((List.range n).drop k).flatMap fun last => (chosenL k last).map (· ++ [last])
theorem chosenL_len (k : Nat) : ∀ n, (chosenL k n).length ≤ 2 ^ n := by
 induction k with
 | zero => intro n; have := Nat.two_pow_pos n; simp [chosenL]; omega
 | succ k ih =>
   intro n
   have key : ∀ m, (((List.range m).drop k).flatMap fun last => (chosenL k last).map (· ++ [last])).length ≤ 2 ^ m := by
    intro m
    induction m with
    | zero => simp
    | succ m ihm =>
      by_cases hkm : k ≤ m
      ·rw [List.range_succ, List.drop_append_of_le_length (by simpa using hkm), List.flatMap_append, List.length_append]
       simp only [List.flatMap_singleton, List.length_map]
       have := ih m
       rw [Nat.pow_succ]
       omega
      ·rw [List.drop_of_length_le (by simp; omega)]
       simp
   exact key n
theorem chosenL_mem (k : Nat) : ∀ n, ∀ l ∈ chosenL k n, l.length = k ∧ ∀ x ∈ l, x < n := by
 induction k with
 | zero => intro n l hl; simp [chosenL] at hl; subst hl; simp
 | succ k ih =>
   intro n l hl
   rw [chosenL, List.mem_flatMap] at hl
   obtain ⟨last, hlast, hl⟩ := hl
   obtain ⟨l', hl', rfl⟩ := List.mem_map.1 hl
   have h1 := List.mem_range.1 (List.mem_of_mem_drop hlast)
   obtain ⟨h2, h3⟩ := ih last l' hl'
   refine ⟨by simp [h2], fun x hx => ?_⟩
   rcases List.mem_append.1 hx with hx | hx
   ·have := h3 x hx; omega
   ·simp at hx; omega
def LR (w : World) (v : Value) (xss : List (List Nat)) : Prop := ∃ vs : List Value, RowG w 51 v vs ∧ vs.length = xss.length ∧ ∀ i, i < xss.length → Own w (vs.getD i (.slice none 0 0)) (xss.getD i [])
theorem KI.of_grown {w w' : World} {o : Option Nat} {T : TypeId} (h : w.grownBy w' o) (ht : ∀ k, o = some k → Ty w k T) (hT : T ≠ 3) : KI w w' := by
 intro b arr hb
 rw [h.block b (Array.getElem?_eq_some_iff.1 hb).1 (fun e => hT (ty_block hb (ht b e.symm)).symm)]
 exact hb
theorem LR.below {w w' : World} {v : Value} {xss : List (List Nat)} (h : LR w v xss) (hb : Below w.heap.size w w') : LR w' v xss := by
 obtain ⟨vs, h1, h2, h3⟩ := h
 exact ⟨vs, h1.below hb, h2, fun i hi => (h3 i hi).below hb⟩
theorem LR.shape {w : World} {v : Value} {xss : List (List Nat)} (h : LR w v xss) : ∃ ao cap, v = .slice ao xss.length cap ∧ xss.length ≤ cap ∧ cap ≤ 9223372036854775807 ∧ ∀ i, i < xss.length → ∃ g u, ao = some ⟨g, 0, none⟩ ∧ g < w.heap.size ∧ w.cell? ⟨g, i, none⟩ = some u ∧ Own w u (xss.getD i []) := by
 obtain ⟨vs, h1, h2, h3⟩ := h
 obtain ⟨ao, cap, rfl, q1, q2, -, q4⟩ := id h1.shape
 refine ⟨ao, cap, by rw [← h2], by omega, q2, fun i hi => ?_⟩
 obtain ⟨g, e1, e2⟩ := q4 i (by omega)
 refine ⟨g, vs.getD i (.slice none 0 0), e1, ?_, ?_, h3 i hi⟩
 ·subst e1; exact (h1.own g rfl).1
 ·rw [e2]; simp [List.getD, List.getElem?_eq_getElem (show i < vs.length by omega)]
theorem Tryz.infoL : (Tryz.prog.info? 51).map (fun i => (i.zero, i.size, i.bytes)) = some (some (.slice none 0 0), 1, 24) := by kernel_rfl
theorem append_lrow (w : World) {ops : Array Oper} {rest : List Oper} {o : Oper} {a : Act} {Q : Exit → Act → World → Prop} (hgd : o.guard = none) (s x : Operand)
 (ho : o.op = .call { callee := .builtin .append, args := #[s, x], argTypes := #[56, 56] }) (v : Value) (xss : List (List Nat)) (hs : a.eval s = v) (hown : LR w v xss)
 (ad : Addr) (hx : a.eval x = .slice (some ad) 1 1) (u : Value) (xs : List Nat) (hu : Own w u xs) (hc : w.cell? (ad.add 0) = some u) (hl : xss.length ≤ 30000)
 (hK : ∀ v' w', LR w' v' (xss ++ [xs]) → w.grownBy w' v.ownBlock → KI w w' → (∀ g, v'.ownBlock = some g → v.ownBlock = some g ∨ w.heap.size ≤ g) → wpList Tryz.prog ops Q rest (a.put o.dst v') w') : wpList Tryz.prog ops Q (o :: rest) a w := by
 obtain ⟨i, hi, hz0, hz1, hz2⟩ := info_parts Tryz.infoL
 obtain ⟨vs, h1, h2, h3⟩ := hown
 obtain ⟨uo, ucap, rfl, -⟩ := hu.open_
 refine wpList_append_row w hgd s x 56 ho 51 i (.slice none 0 0) 24 Tryz.underlying56 hi hz0 hz1 hz2 rfl v vs hs h1 ad (.slice uo xs.length ucap) hx hc rfl ?_ ?_ ?_
 ·unfold maxLen; omega
 ·omega
 ·intro v' w' hA
  obtain ⟨q1, q2, q3⟩ := hA
  have hki : KI w w' := KI.of_grown q2 (fun k hk => (h1.own k hk).2) (by decide)
  refine hK v' w' ⟨vs ++ [.slice uo xs.length ucap], q1, by simp [h2], fun i hi => ?_⟩ q2 hki q3
  rw [List.length_append, List.length_singleton] at hi
  by_cases hix : i < xss.length
  ·rw [show (vs ++ [Value.slice uo xs.length ucap]).getD i (.slice none 0 0) = vs.getD i (.slice none 0 0) from by simp [List.getD, List.getElem?_append_left (show i < vs.length by omega)], show (xss ++ [xs]).getD i [] = xss.getD i [] from by simp [List.getD, List.getElem?_append_left hix]]
   exact (h3 i hix).keep hki
  ·have hie : i = xss.length := by omega
   rw [show (vs ++ [Value.slice uo xs.length ucap]).getD i (.slice none 0 0) = .slice uo xs.length ucap from by simp [List.getD, hie, ← h2], show (xss ++ [xs]).getD i [] = xs from by simp [List.getD, hie]]
   exact hu.keep hki
theorem chosen_step (k j : Nat) (h : k ≤ j) : ((List.range (j + 1)).drop k).flatMap (fun last => (chosenL k last).map (· ++ [last])) = ((List.range j).drop k).flatMap (fun last => (chosenL k last).map (· ++ [last])) ++ (chosenL k j).map (· ++ [j]) := by
 rw [List.range_succ, List.drop_append_of_le_length (by simpa using h), List.flatMap_append]
 simp
theorem chosenL_nil {k n : Nat} (h : n ≤ k) : ((List.range n).drop k).flatMap (fun last => (chosenL k last).map (· ++ [last])) = [] := by
 rw [List.drop_of_length_le (by simpa using h)]; rfl
def ChosenSaid (k : Nat) : Prop := ∀ (n : Nat) (w : World), n ≤ 12 → Calls Tryz.prog 208 #[.int .i64 n, .int .i64 k] w fun e w' => ∃ v, e = .returned v ∧ LR w' v (chosenL k n) ∧ (∀ g, v.ownBlock = some g → w.heap.size ≤ g) ∧ Below w.heap.size w w'
set_option maxRecDepth 100000 in
theorem chosen_zero : ChosenSaid 0 := by
 intro n w _
 go_enter Tryz.func208, Tryz.ntmps208
 go_wp2_with fail
 go_ret
 refine ⟨_, rfl, ⟨[.slice none 0 0], .inr ⟨w.heap.size, 1, #[.slice none 0 0], rfl, heap_alloc_new w _, Nat.le_refl _, Nat.le_refl _, by decide, fun i hi => ?_⟩, rfl, fun i hi => ?_⟩, fun g hg => by simp [Value.ownBlock] at hg; omega, (Below.refl _ _).alloc (Nat.le_refl _) _⟩
 ·obtain rfl : i = 0 := by simpa using hi
  rfl
 ·obtain rfl : i = 0 := by simpa [chosenL] using hi
  exact Own.nil _
set_option maxRecDepth 100000 in
set_option maxHeartbeats 4000000 in
theorem chosen_succ (k : Nat) (hk : k ≤ 8) (ih : ChosenSaid k) : ChosenSaid (k + 1) := by
 intro n w hn
 have HIH := Hid.mk ih
 clear ih
 obtain ⟨K1, hK1⟩ : ∃ K1, K1 = k + 1 := ⟨_, rfl⟩
 have HK1 := Hid.mk hK1
 have hk0 : ((K1 : Int) == 0) = false := beq_eq_false_iff_ne.2 (by omega)
 have hkk : (K1 : Int) - 1 = (k : Int) := by omega
 have hK1b : K1 ≤ 9 := by omega
 rw [← hK1]
 clear hK1
 go_enter Tryz.func208, Tryz.ntmps208
 go_wp2_with fail
 go_loopw [5, 6] (fun out i wr => ∃ (j : Nat), k ≤ j ∧ (j ≤ n ∨ j = k) ∧ i = .int .i64 j ∧ LR wr out (((List.range j).drop k).flatMap fun last => (chosenL k last).map (· ++ [last])) ∧ (∀ g, out.ownBlock = some g → w.heap.size ≤ g) ∧ Below w.heap.size w wr) (fun _ i _ => n + 1 - (intOf i).toNat)
 case atStart =>
  refine ⟨k, Nat.le_refl _, .inr rfl, rfl, ?_, fun g hg => by simp [Value.ownBlock] at hg, Below.refl _ _⟩
  rw [chosenL_nil (Nat.le_refl _)]
  exact ⟨[], RowG.nil _ _, rfl, fun i hi => by simp at hi⟩
 case round =>
  rename World => wo
  obtain ⟨j, hkj, hjn, rfl, hout, hfr, hbel⟩ := hrel
  obtain ⟨XS, hXS⟩ : ∃ XS, XS = ((List.range j).drop k).flatMap fun last => (chosenL k last).map (· ++ [last]) := ⟨_, rfl⟩
  rw [← hXS] at hout
  obtain ⟨oa, ocap, hoe, -⟩ := hout.shape
  obtain ⟨ol, hol⟩ : ∃ ol, ol = XS.length := ⟨_, rfl⟩
  rw [← hol] at hoe
  subst hoe
  have hwo := hbel.size
  have hfr2 : ∀ g, (Value.slice oa ol ocap).ownBlock = some g → g < wo.heap.size := fun g hg => by obtain ⟨vs, h1, -⟩ := hout; exact (h1.own g hg).1
  have KO := Hid.mk (And.intro hout (And.intro hbel (And.intro hXS (And.intro hol (And.intro hfr hfr2)))))
  clear hout hbel hXS hol hfr hfr2
  by_cases hjl : j < n
  ·have hji : (j : Int) < (n : Int) := by omega
   go_wp2_with fail
   refine (HIH.out j _ (by omega)).mono ?_
   rintro e w1 ⟨v1, rfl, hv1, hf1, hb1⟩
   obtain ⟨CL, hCL⟩ : ∃ CL, CL = chosenL k j := ⟨_, rfl⟩
   have hcl : CL.length ≤ 4096 := by rw [hCL]; exact Nat.le_trans (chosenL_len k j) (Nat.le_trans (Nat.pow_le_pow_right (by decide) (show j ≤ 12 by omega)) (by decide))
   rw [← hCL] at hv1
   obtain ⟨la, lcap, hle, hl1, hl2, hl3⟩ := hv1.shape
   obtain ⟨ll, hll⟩ : ∃ ll, ll = CL.length := ⟨_, rfl⟩
   rw [← hll] at hle hl1
   subst hle
   have hwo1 := hb1.size
   have hbo1 : Below w.heap.size w w1 := KO.out.2.1.trans (hb1.mono hwo)
   have K1' := Hid.mk (And.intro hl3 (And.intro hbo1 (And.intro (KO.out.1.below hb1) (And.intro hCL (And.intro hll hf1)))))
   have hw1 := hbo1.size
   have hcl' : ll ≤ 4096 := by omega
   have HLN := Hid.mk (show XS.length ≤ 4096 by rw [KO.out.2.2.1]; exact Nat.le_trans (chosenL_len (k + 1) j) (Nat.le_trans (Nat.pow_le_pow_right (by decide) (show j ≤ 12 by omega)) (by decide)))
   clear hv1 hl3 hb1 hbo1 hCL hll hcl hf1
   go_wp2_with fail
   go_loopw [5, 8] (fun out i wr => ∃ (t : Nat), t ≤ ll ∧ i = .int .i64 t ∧ LR wr out (XS ++ (CL.take t).map (· ++ [j])) ∧ Below w.heap.size w wr ∧ KI w1 wr ∧ w1.heap.size ≤ wr.heap.size ∧ (∀ g, la = some ⟨g, 0, none⟩ → wr.heap[g]? = w1.heap[g]?) ∧ (∀ g, out.ownBlock = some g → w.heap.size ≤ g ∧ (g < wo.heap.size ∨ w1.heap.size ≤ g))) (fun _ i _ => ll - (intOf i).toNat)
   case atStart =>
    refine ⟨0, Nat.zero_le _, rfl, ?_, K1'.out.2.1, KI.refl _, Nat.le_refl _, fun _ _ => rfl, fun g hg => ⟨KO.out.2.2.2.2.1 g hg, .inl (KO.out.2.2.2.2.2 g hg)⟩⟩
    simpa using K1'.out.2.2.1
   case round =>
    rename World => wi
    obtain ⟨t, ht, rfl, hout, hbel, hki, hsz, hcells, hfr⟩ := hrel
    obtain ⟨YS, hYS⟩ : ∃ YS, YS = XS ++ (CL.take t).map (· ++ [j]) := ⟨_, rfl⟩
    rw [← hYS] at hout
    have HYS := Hid.mk hYS
    clear hYS
    obtain ⟨oa2, ocap2, hoe2, -⟩ := hout.shape
    obtain ⟨ol2, hol2⟩ : ∃ ol2, ol2 = YS.length := ⟨_, rfl⟩
    rw [← hol2] at hoe2
    subst hoe2
    have hwi := hbel.size
    have KI' := Hid.mk (And.intro hout (And.intro hbel (And.intro hki (And.intro hol2 (And.intro hcells hfr)))))
    clear hout hbel hki hol2 hcells hfr
    by_cases htl : t < ll
    ·have hti : (t : Int) < (ll : Int) := by omega
     obtain ⟨lg, lu, hla, hlg, hlc, hlo⟩ := K1'.out.1 t (by have := K1'.out.2.2.2.2.1; omega)
     subst hla
     have hc2 : wi.cell? ⟨lg, t, none⟩ = some lu := by
      have h1 := KI'.out.2.2.2.2.1 lg rfl
      rw [← hlc]
      simp only [World.cell?, h1]
     have hlg2 : wo.heap.size ≤ lg := K1'.out.2.2.2.2.2 lg rfl
     have hlo2 := hlo.keep KI'.out.2.2.1
     obtain ⟨uo, ucap, hue, -⟩ := hlo2.open_
     obtain ⟨xs, hxs⟩ : ∃ xs, xs = CL.getD t [] := ⟨_, rfl⟩
     rw [← hxs] at hue hlo2
     obtain ⟨xl, hxl⟩ : ∃ xl, xl = xs.length := ⟨_, rfl⟩
     rw [← hxl] at hue
     subst hue
     have hxk : xs.length = k := by
      have hm : xs ∈ chosenL k j := by
       rw [hxs, ← K1'.out.2.2.2.1, List.getD, List.getElem?_eq_getElem (show t < CL.length by have := K1'.out.2.2.2.2.1; omega)]
       exact List.getElem_mem _
      exact (chosenL_mem k j xs hm).1
     have HX := Hid.mk (And.intro hlo2 (And.intro hxs (And.intro hxl hxk)))
     clear hlo hlo2 hxs hlc hxl hxk
     have hlw1 : lg < w1.heap.size := hlg
     rcases id HX.out.1.2 with ⟨hnil, h0⟩ | ⟨g, cap, cur, hv, -, hh, -⟩
     ·simp only [Value.slice.injEq] at hnil
      obtain ⟨rfl, rfl, rfl⟩ := hnil
      have hxe : xs = [] := List.eq_nil_of_length_eq_zero h0
      have HXE := Hid.mk hxe
      clear hxe h0
      go_wp2_with (at_builtin; refine append_digit _ rfl _ _ rfl wi.heap.size _ [] rfl ?_ ⟨_, 0, none⟩ rfl j ?_ ?_ ?_ ?_)
      ·exact World.ownsRow.alloc (World.ownsRow_nil _ _ _ _) _
      ·simp [Addr.add]
      ·first | decide | (simp; done) | (rw [HXE.out]; decide)
      ·simp
      intro v5 w5 hown5' hgr5
      have hown5 : OwnB wi.heap.size w5 v5 (xs ++ [j]) := by rw [HXE.out]; exact hown5'
      clear hown5'
      have hb5 : Below wi.heap.size wi w5 := ((Below.refl wi.heap.size wi).alloc (Nat.le_refl _) _).grown hgr5 (by simp) (fun q hq => by simp [Value.ownBlock] at hq)
      obtain ⟨ao5, cap5, hv5, -⟩ := hown5.own.open_
      obtain ⟨ZS, hZS⟩ : ∃ ZS, ZS = xs ++ [j] := ⟨_, rfl⟩
      rw [← hZS] at hown5 hv5
      have HZS := Hid.mk hZS
      obtain ⟨l5, hl5⟩ : ∃ l5, l5 = ZS.length := ⟨_, rfl⟩
      rw [← hl5] at hv5
      have HL5 := Hid.mk hl5
      subst hv5
      have hbw5 : Below w.heap.size w w5 := KI'.out.2.1.trans (hb5.mono hwi)
      have hw5 := hb5.size
      have K5 := Hid.mk (And.intro hown5.own (And.intro hb5 (And.intro (KI'.out.1.below hb5) hbw5)))
      clear hown5 hgr5 hb5 hl5 hbw5 hZS
      go_wp2_with (at_builtin; refine append_lrow _ rfl _ _ rfl _ YS rfl ?_ ⟨_, 0, none⟩ rfl (.slice ao5 l5 cap5) ZS ?_ ?_ ?_ ?_)
      ·exact K5.out.2.2.1.below ((Below.refl _ _).alloc (Nat.le_refl _) _)
      ·exact K5.out.1.below ((Below.refl _ _).alloc (Nat.le_refl _) _)
      ·simp [Addr.add]
      ·have h1 := HLN.out
       have h2 := K1'.out.2.2.2.2.1
       rw [HYS.out, List.length_append, List.length_map, List.length_take]
       omega
      intro v6 w6 hLR6 hgr6 hki6 hown6
      have hb55 := (Below.refl w5.heap.size w5).alloc (Nat.le_refl _) (.cells #[.slice ao5 l5 cap5] 51)
      have hs6 := hgr6.size
      have hF : Hid (LR w6 v6 (XS ++ (CL.take (t + 1)).map (· ++ [j])) ∧ Below w.heap.size w w6 ∧ KI w1 w6 ∧ w1.heap.size ≤ w6.heap.size ∧ (∀ g, some (⟨lg, 0, none⟩ : Addr) = some ⟨g, 0, none⟩ → w6.heap[g]? = w1.heap[g]?) ∧ (∀ g, v6.ownBlock = some g → w.heap.size ≤ g ∧ (g < wo.heap.size ∨ w1.heap.size ≤ g))) := Hid.mk (by
       have hs5 : (w5.alloc (.cells #[.slice ao5 l5 cap5] 51)).heap.size = w5.heap.size + 1 := by simp
       have hfr := KI'.out.2.2.2.2.2
       refine ⟨?_, ?_, (KI'.out.2.2.1.trans (KI.of_below (K5.out.2.1.trans (hb55.mono hw5)))).trans hki6, by omega, fun g hg => ?_, fun g hg => ?_⟩
       ·have ht1 : CL.take (t + 1) = CL.take t ++ [xs] := by
         have h2 := K1'.out.2.2.2.2.1
         rw [List.take_add_one, HX.out.2.1, List.getD, List.getElem?_eq_getElem (show t < CL.length by omega)]
         rfl
        rw [ht1, List.map_append, ← List.append_assoc, ← HYS.out]
        rw [HZS.out] at hLR6
        exact hLR6
       ·exact (K5.out.2.2.2.trans (hb55.mono (by omega))).grown hgr6 (by omega) (fun q hq => (hfr q hq).1)
       ·injection hg with hg
        injection hg with hg
        subst hg
        rw [hgr6.block lg (by omega) (fun e => by have := hfr lg e.symm; omega), hb55.block lg (by omega), K5.out.2.1.block lg (by omega)]
        exact KI'.out.2.2.2.2.1 lg rfl
       ·rcases hown6 g hg with h | h
        ·exact hfr g h
        ·exact ⟨by omega, .inr (by omega)⟩)
      obtain ⟨ao6, cap6, hv6, -⟩ := hLR6.shape
      obtain ⟨l6, hl6⟩ : ∃ l6, l6 = (YS ++ [ZS]).length := ⟨_, rfl⟩
      rw [← hl6] at hv6
      subst hv6
      clear hLR6 hgr6 hki6 hown6 hb55 hs6 hl6
      go_wp2_with fail
      go_roundw
      case measure => simp [intOf]; omega
      case rel => exact ⟨t + 1, by omega, by go_num, hF.out.1, hF.out.2.1, hF.out.2.2.1, hF.out.2.2.2.1, hF.out.2.2.2.2.1, hF.out.2.2.2.2.2⟩
     ·simp only [Value.slice.injEq] at hv
      obtain ⟨rfl, -, rfl⟩ := hv
      go_wp2_with (at_builtin; refine append_digits _ rfl _ _ rfl wi.heap.size _ [] rfl (World.ownsRow_nil _ _ _ _) ⟨g, 0, none⟩ xl ucap rfl xs HX.out.2.2.1.symm ?_ ?_ (Nat.le_refl _) ?_)
      ·intro y hy
       have hcy := HX.out.1.cell HX.out.2.2.1.symm y hy
       first
        | (rw [addr_add, Nat.zero_add]; exact hcy)
        | simpa [List.getD] using hcy
      ·have h1 := HX.out.2.2.1; have h2 := HX.out.2.2.2; simp; omega
      intro v3 w3 hown3 hgr3
      have hb3 : Below wi.heap.size wi w3 := (Below.refl _ _).grown hgr3 (Nat.le_refl _) (fun q hq => by simp [Value.ownBlock] at hq)
      have hown3' : OwnB wi.heap.size w3 v3 xs := hown3
      obtain ⟨ao3, cap3, hv3, -⟩ := hown3'.own.open_
      obtain ⟨l3, hl3⟩ : ∃ l3, l3 = xs.length := ⟨_, rfl⟩
      rw [← hl3] at hv3
      subst hv3
      have hw3 := hb3.size
      have K3 := Hid.mk (And.intro hown3' hb3)
      clear hown3 hown3' hgr3 hb3 hl3
      go_wp2_with (at_builtin; refine append_digit _ rfl _ _ rfl wi.heap.size _ xs rfl ?_ ⟨_, 0, none⟩ rfl j ?_ ?_ ?_ ?_)
      ·exact World.ownsRow.alloc K3.out.1 _
      ·simp [Addr.add]
      ·have h2 := HX.out.2.2.2; omega
      ·simp; omega
      intro v5 w5 hown5 hgr5
      have hb5 : Below wi.heap.size wi w5 := (K3.out.2.alloc hw3 _).grown hgr5 (by simp; omega) (fun q hq => (World.ownsRow.lt K3.out.1 q hq).1)
      obtain ⟨ao5, cap5, hv5, -⟩ := hown5.own.open_
      obtain ⟨ZS, hZS⟩ : ∃ ZS, ZS = xs ++ [j] := ⟨_, rfl⟩
      rw [← hZS] at hown5 hv5
      have HZS := Hid.mk hZS
      obtain ⟨l5, hl5⟩ : ∃ l5, l5 = ZS.length := ⟨_, rfl⟩
      rw [← hl5] at hv5
      have HL5 := Hid.mk hl5
      subst hv5
      have hbw5 : Below w.heap.size w w5 := KI'.out.2.1.trans (hb5.mono hwi)
      have hw5 := hb5.size
      have K5 := Hid.mk (And.intro hown5.own (And.intro hb5 (And.intro (KI'.out.1.below hb5) hbw5)))
      clear hown5 hgr5 hb5 hl5 hbw5 hZS
      go_wp2_with (at_builtin; refine append_lrow _ rfl _ _ rfl _ YS rfl ?_ ⟨_, 0, none⟩ rfl (.slice ao5 l5 cap5) ZS ?_ ?_ ?_ ?_)
      ·exact K5.out.2.2.1.below ((Below.refl _ _).alloc (Nat.le_refl _) _)
      ·exact K5.out.1.below ((Below.refl _ _).alloc (Nat.le_refl _) _)
      ·simp [Addr.add]
      ·have h1 := HLN.out
       have h2 := K1'.out.2.2.2.2.1
       rw [HYS.out, List.length_append, List.length_map, List.length_take]
       omega
      intro v6 w6 hLR6 hgr6 hki6 hown6
      have hb55 := (Below.refl w5.heap.size w5).alloc (Nat.le_refl _) (.cells #[.slice ao5 l5 cap5] 51)
      have hs6 := hgr6.size
      have hF : Hid (LR w6 v6 (XS ++ (CL.take (t + 1)).map (· ++ [j])) ∧ Below w.heap.size w w6 ∧ KI w1 w6 ∧ w1.heap.size ≤ w6.heap.size ∧ (∀ g, some (⟨lg, 0, none⟩ : Addr) = some ⟨g, 0, none⟩ → w6.heap[g]? = w1.heap[g]?) ∧ (∀ g, v6.ownBlock = some g → w.heap.size ≤ g ∧ (g < wo.heap.size ∨ w1.heap.size ≤ g))) := Hid.mk (by
       have hs5 : (w5.alloc (.cells #[.slice ao5 l5 cap5] 51)).heap.size = w5.heap.size + 1 := by simp
       have hfr := KI'.out.2.2.2.2.2
       refine ⟨?_, ?_, (KI'.out.2.2.1.trans (KI.of_below (K5.out.2.1.trans (hb55.mono hw5)))).trans hki6, by omega, fun g hg => ?_, fun g hg => ?_⟩
       ·have ht1 : CL.take (t + 1) = CL.take t ++ [xs] := by
         have h2 := K1'.out.2.2.2.2.1
         rw [List.take_add_one, HX.out.2.1, List.getD, List.getElem?_eq_getElem (show t < CL.length by omega)]
         rfl
        rw [ht1, List.map_append, ← List.append_assoc, ← HYS.out]
        rw [HZS.out] at hLR6
        exact hLR6
       ·exact (K5.out.2.2.2.trans (hb55.mono (by omega))).grown hgr6 (by omega) (fun q hq => (hfr q hq).1)
       ·injection hg with hg
        injection hg with hg
        subst hg
        rw [hgr6.block lg (by omega) (fun e => by have := hfr lg e.symm; omega), hb55.block lg (by omega), K5.out.2.1.block lg (by omega)]
        exact KI'.out.2.2.2.2.1 lg rfl
       ·rcases hown6 g hg with h | h
        ·exact hfr g h
        ·exact ⟨by omega, .inr (by omega)⟩)
      obtain ⟨ao6, cap6, hv6, -⟩ := hLR6.shape
      obtain ⟨l6, hl6⟩ : ∃ l6, l6 = (YS ++ [ZS]).length := ⟨_, rfl⟩
      rw [← hl6] at hv6
      subst hv6
      clear hLR6 hgr6 hki6 hown6 hb55 hs6 hl6
      go_wp2_with fail
      go_roundw
      case measure => simp [intOf]; omega
      case rel => exact ⟨t + 1, by omega, by go_num, hF.out.1, hF.out.2.1, hF.out.2.2.1, hF.out.2.2.2.1, hF.out.2.2.2.2.1, hF.out.2.2.2.2.2⟩
    ·have hte : t = ll := by omega
     have HTE := Hid.mk hte
     clear hte
     go_wp2_with fail
     go_roundw
     case measure => simp [intOf]; omega
     case rel =>
      refine ⟨j + 1, by omega, .inl (by omega), by go_num, ?_, fun g hg => (KI'.out.2.2.2.2.2 g hg).1, KI'.out.2.1⟩
      rw [chosen_step k j hkj, ← KO.out.2.2.1, ← K1'.out.2.2.2.1]
      have := KI'.out.1
      rw [HYS.out, List.take_of_length_le (by have := K1'.out.2.2.2.2.1; have := HTE.out; omega)] at this
      exact this
  ·go_wp2_with fail
   go_ret
   refine ⟨_, rfl, ?_, KO.out.2.2.2.2.1, KO.out.2.1⟩
   have h1 := KO.out.1
   rw [KO.out.2.2.1] at h1
   rw [HK1.out, chosenL]
   rcases hjn with h | h
   ·have : j = n := by omega
    rw [this] at h1
    exact h1
   ·rw [chosenL_nil (by omega)]
    rw [h, chosenL_nil (Nat.le_refl _)] at h1
    exact h1
theorem chosen_any (k : Nat) (hk : k ≤ 8) : ChosenSaid k := by
 induction k with
 | zero => exact chosen_zero
 | succ k ih => exact chosen_succ k (by omega) (ih (by omega))
open Go.RowKit
set_option maxRecDepth 100000 in
theorem amount_any (v : Value) (z : Int) (L : Nat) (w : World) (h : IsN w v z L) :
 Calls Tryz.prog 219 #[v] w fun e w' => ∃ r, e = .returned r ∧ NOut w w' r (z.natAbs : Int) L := by
 obtain ⟨neg, ao, cap, xs, rfl, h2, h3, h4, h5, h6⟩ := h.parts
 have H := Hid.mk (And.intro h2 (And.intro h3 (And.intro h4 (And.intro h5 h6))))
 clear h h2 h3 h4 h5 h6
 go_enter Tryz.func219, Tryz.ntmps219
 go_wp2_with fail
 refine (made_any false _ xs _ (H.out.1.below ?_) H.out.2.1.1).mono ?_
 ·repeat (first | exact Below.refl _ _ | refine Below.alloc ?_ (by simp <;> omega) _)
 rintro e w1 ⟨r, rfl, hr, hb⟩
 obtain ⟨ng, co, ecap, zs, rfl, -⟩ := hr.parts
 obtain ⟨hc, hf⟩ := bcell hb
 have hty : Ty w1 (w.heap.size + 1) 171 := Ty.below (Ty.at_ _ _ _ (by simp)) hb (by simp)
 have hz : w.heap.size + 1 < w1.heap.size := hty.lt
 have hb0 : Below w.heap.size w w1 := Below.trans (by repeat (first | exact Below.refl _ _ | refine Below.alloc ?_ (by simp <;> omega) _)) (hb.mono (by simp <;> omega))
 have K := Hid.mk (And.intro hr (And.intro hb0 hty))
 clear hr hb hb0 hty
 go_wp2_with fail
 refine bodyPost_ret (v := .agg #[.bool ng, .slice co zs.length ecap]) ?_ rfl ?_
 ·(simp [results, Tryz.results219, go_sem, hc]; done)
 ·obtain ⟨h2, h3, h4, h5, h6⟩ := H.out
  refine ⟨_, rfl, ?_, (K.out.2.1.setCell (by simp) _).setCell (by simp) _⟩
  have := (K.out.1.box K.out.2.2 (by decide) (.bool ng) (.slice co zs.length ecap)).mono h6
  rw [h5]
  cases neg
  ·simpa using this
  ·simpa using this
theorem val_drop (xs : List Nat) (k : Nat) (hk : k < xs.length) : val (xs.drop k) = xs.getD k 0 + 10000 * val (xs.drop (k + 1)) := by
 rw [drop_getD xs k hk, val_cons]
theorem val_drop_set {zs : List Nat} {k c : Nat} (hk : k < zs.length) : val ((zs.set k c).drop k) = c + 10000 * val (zs.drop (k + 1)) := by
 rw [val_drop _ _ (by simpa using hk), List.drop_set_of_lt (by omega)]
 simp [List.getD, hk]
theorem half_step {x c V W : Nat} (h : 2 * V + c = W) : 2 * ((c * 10000 + x) / 2 + 10000 * V) + (c * 10000 + x) % 2 = x + 10000 * W := by omega
set_option maxRecDepth 100000 in
set_option maxHeartbeats 2000000 in
theorem halved_any (v : Value) (xs : List Nat) (w : World) (hv : Own w v xs) (lx : Lo xs) (bx : xs.length ≤ 50000000000) :
 Calls Tryz.prog 234 #[v] w fun e w' => ∃ r, e = .returned r ∧ LimOut w w' r (val xs / 2) xs.length := by
 obtain ⟨ao, cap, rfl, hc, hm, -⟩ := hv.open_
 have H := Hid.mk (And.intro hv lx)
 clear hv lx
 go_enter Tryz.func234, Tryz.ntmps234
 go_wp2_with (refine make_digits _ rfl _ _ rfl _ _ xs.length rfl rfl (by omega) (by omega) (by omega) ?_)
 intro w1 hown hbel
 obtain ⟨N, hN⟩ : ∃ N, N = xs.length := ⟨_, rfl⟩
 rw [← hN] at hown bx ⊢
 have HN := Hid.mk hN
 have K0 := Hid.mk (And.intro hown hbel)
 clear hN hown hbel
 go_wp2_with fail
 go_loopw [4, 5] (fun c i wr => ∃ (k cc : Nat) (zs : List Nat), k ≤ N ∧ i = .int .i64 ((k : Int) - 1) ∧ cc ≤ 1 ∧ c = .int .i64 cc ∧ Hid (zs.length = N) ∧ Lo zs ∧ Own wr (.slice (some ⟨w.heap.size, 0, none⟩) N N) zs ∧ Below w.heap.size w wr ∧ Hid (2 * val (zs.drop k) + cc = val (xs.drop k))) (fun _ i _ => (intOf i + 1).toNat)
 case atStart =>
  refine ⟨N, 0, _, Nat.le_refl _, rfl, by omega, rfl, Hid.mk List.length_replicate, ?_, K0.out.1, K0.out.2, Hid.mk ?_⟩
  ·intro x hx
   rw [List.eq_of_mem_replicate hx]; decide
  ·rw [List.drop_of_length_le (by simp), List.drop_of_length_le (by rw [HN.out]; exact Nat.le_refl _)]
   rfl
 case round =>
  obtain ⟨k, cc, zs, hk, rfl, hcc, rfl, HZ, hlo, hown, hbel, HI⟩ := hrel
  have hwr := hbel.size
  by_cases hk0 : k = 0
  ·have hi0 : ¬ ((0 : Int) ≤ (k : Int) - 1) := by omega
   have K := Hid.mk (And.intro hown (And.intro hbel hlo))
   have HK0 := Hid.mk hk0
   clear hown hbel hlo hk0
   go_wp2_with fail
   refine (plain_any _ zs _ K.out.1 K.out.2.2).mono ?_
   rintro e w' ⟨⟨r, rfl, hr⟩, rfl⟩
   have HR := Hid.mk hr
   clear hr
   go_wp2_with fail
   go_ret
   obtain ⟨rs, r1, r2, r3, r4⟩ := HR.out
   refine ⟨_, rfl, ⟨rs, r1, ?_, by have := HZ.out; have := HN.out; omega, r4 _ K.out.1⟩, K.out.2.1⟩
   have hi := HI.out
   rw [HK0.out, List.drop_zero, List.drop_zero] at hi
   rw [r2]
   omega
  ·obtain ⟨j, rfl⟩ : ∃ j, k = j + 1 := ⟨k - 1, by omega⟩
   obtain ⟨ii, hii⟩ : ∃ ii : Int, ii = ((j + 1 : Nat) : Int) - 1 := ⟨_, rfl⟩
   have hij : ii = (j : Int) := by omega
   rw [← hii]
   rw [hij]
   have hjx : j < xs.length := by have := HN.out; omega
   obtain ⟨ba, rfl, ca⟩ := (H.out.1.below hbel).at_ rfl j hjx
   have hxk := Lo_get H.out.2 j
   obtain ⟨x, hx⟩ : ∃ x, x = xs.getD j 0 := ⟨_, rfl⟩
   rw [← hx] at ca hxk
   have hz1 := hown.cell HZ.out j (by omega)
   have hz2 := hown.frozen HZ.out j
   have HX := Hid.mk hx
   have K := Hid.mk (And.intro hown (And.intro hbel hlo))
   have hji : (j : Int) < (N : Int) := by omega
   clear hx hown hbel hlo hii hij hk0
   go_wp2_with fail
   refine ⟨⟨j, (cc * 10000 + x) % 2, zs.set j ((cc * 10000 + x) / 2), by omega, rfl, by omega, ?_, Hid.mk (by simp [HZ.out]), Lo_set K.out.2.2 _ _ (by omega), K.out.1.stored_int HZ.out j _ (by omega), K.out.2.1.setCell (Nat.le_refl _) _, Hid.mk ?_⟩, by simp [intOf]⟩
   ·congr 1
   ·rw [val_drop_set (by rw [HZ.out]; omega), val_drop xs j hjx, ← HX.out]
    exact half_step HI.out
end Go.Proofs.YtfjbijpagaipnabGreatDoor.R
