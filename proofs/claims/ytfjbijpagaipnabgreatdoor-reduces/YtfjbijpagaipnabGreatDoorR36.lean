import Derived.Test.YtfjbijpagaipnabGreatDoorR28
import Derived.Test.YtfjbijpagaipnabGreatDoorR35
import Derived.Test.YtfjbijpagaipnabGreatDoorR25
import Derived.Test.YtfjbijpagaipnabGreatDoorR34
namespace Go.Proofs.YtfjbijpagaipnabGreatDoor
open Go.RowKit
theorem set3 (w : World) (b : Nat) {t : TypeId} (ht : Ty w b t) (hne : t ≠ 144) (v0 v1 v2 : Value) : KU w (((w.setCell ⟨b, 0, none⟩ v0).setCell ⟨b, 1, none⟩ v1).setCell ⟨b, 2, none⟩ v2) ∧ w.grownBy (((w.setCell ⟨b, 0, none⟩ v0).setCell ⟨b, 1, none⟩ v1).setCell ⟨b, 2, none⟩ v2) (some b) := by
 have k0 := KU.setCell (o := 0) (KU.refl w) ht hne v0
 have t0 := ht.setCell ⟨b, 0, none⟩ v0
 have k1 := KU.setCell (o := 1) k0 t0 hne v1
 have t1 := t0.setCell ⟨b, 1, none⟩ v1
 have k2 := KU.setCell (o := 2) k1 t1 hne v2
 exact ⟨k2, grown_trans (grown_trans (grown_cell _ _ _ _) (grown_cell _ _ _ _)) (grown_cell _ _ _ _)⟩
theorem Grid.besides {w W : World} {b g n L : Nat} {zs : List Int} (h : Grid w (.slice (some ⟨g, 0, none⟩) n n) n zs L) (hg : w.grownBy W (some b)) (hk : KU w W) (hne : g ≠ b) : Grid W (.slice (some ⟨g, 0, none⟩) n n) n zs L :=
 h.grown hg (fun a m c e => by
  simp only [Value.slice.injEq, Option.some.injEq] at e
  obtain ⟨rfl, -, -⟩ := e
  exact hne) hk
set_option maxRecDepth 100000 in
set_option maxHeartbeats 4000000 in
theorem flip_new (v : Value) (r c : Nat) (zs : List Int) (L : Nat) (w : World) (hm : IsM w v r c zs L) :
 Calls Tryz.prog 105 #[v] w fun e w' => ∃ g ms, e = .returned (.agg #[.int .i64 c, .int .i64 r, .slice (some ⟨g, 0, none⟩) (c * r) (c * r)]) ∧ w.heap.size ≤ g ∧ Grid w' (.slice (some ⟨g, 0, none⟩) (c * r) (c * r)) (c * r) ms L ∧ (∀ i j, i < c → j < r → ent r ms i j = ent c zs j i) ∧ Below w.heap.size w w' := by
 have HM := Hid.mk hm
 obtain ⟨hr, hc, sl, rfl, hg0⟩ := hm
 obtain ⟨ao, cap, rfl, -⟩ := hg0.shape
 clear hg0
 obtain ⟨N, hN⟩ : ∃ N, N = r * c := ⟨_, rfl⟩
 rw [← hN] at HM ⊢
 clear hN
 go_enter Tryz.func105, Tryz.ntmps105
 go_wp2_with fail
 obtain ⟨W0, hW0⟩ : ∃ W0, W0 = (w.alloc (.cells #[.int .i64 r, .int .i64 c, .slice ao N cap] 66)).alloc (.cells #[.int .i64 0, .int .i64 0, .slice none 0 0] 66) := ⟨_, rfl⟩
 have hs0 : W0.heap.size = w.heap.size + 2 := by rw [hW0]; simp
 have hb0 : Below w.heap.size w W0 := by rw [hW0]; repeat (first | exact Below.refl _ _ | refine Below.alloc ?_ (by simp <;> omega) _)
 have hm0 : Trio W0 w.heap.size (.int .i64 r) (.int .i64 c) (.slice ao N cap) := by
  rw [hW0]
  exact Trio.later (w := w.alloc (.cells #[.int .i64 r, .int .i64 c, .slice ao N cap] 66)) ⟨new_cell _ _ _ _ _ rfl rfl, new_cell _ _ _ _ _ rfl rfl, new_cell _ _ _ _ _ rfl rfl⟩ ((Below.refl _ _).alloc (Nat.le_refl _) _)
 have hR0 : W0.heap[w.heap.size + 1]? = some (.cells #[.int .i64 0, .int .i64 0, .slice none 0 0] 66 (0, 0)) := by
  rw [hW0]
  have := heap_alloc_new (w.alloc (.cells #[.int .i64 r, .int .i64 c, .slice ao N cap] 66)) (.cells #[.int .i64 0, .int .i64 0, .slice none 0 0] 66)
  simpa using this
 have K0 := Hid.mk (And.intro hb0 (And.intro hm0 hR0))
 rw [← hW0]
 clear hb0 hm0 hR0 hW0
 refine (noughts_any c r _ hc hr).mono ?_
 rintro e w1 ⟨g, rfl, hg1, hG1, hb1⟩
 have hw1 : W0.heap.size ≤ w1.heap.size := hb1.size
 have hgl := hG1.ty.lt
 have hb11 := (Below.refl w1.heap.size w1).alloc (Nat.le_refl _) (.cells #[.int .i64 c, .int .i64 r, .slice (some ⟨g, 0, none⟩) (c * r) (c * r)] 66)
 have hTm : Tri (w1.alloc (.cells #[.int .i64 c, .int .i64 r, .slice (some ⟨g, 0, none⟩) (c * r) (c * r)] 66)) w1.heap.size 0 (.int .i64 c) (.int .i64 r) (.slice (some ⟨g, 0, none⟩) (c * r) (c * r)) := ⟨new_cell _ _ _ _ _ rfl rfl, new_cell _ _ _ _ _ rfl rfl, new_cell _ _ _ _ _ rfl rfl⟩
 obtain ⟨W1, hW1⟩ : ∃ W1, W1 = w1.alloc (.cells #[.int .i64 c, .int .i64 r, .slice (some ⟨g, 0, none⟩) (c * r) (c * r)] 66) := ⟨_, rfl⟩
 have hs1 : W1.heap.size = w1.heap.size + 1 := by rw [hW1]; simp
 rw [← hW1] at hb11 hTm
 have hbW := hb1.trans (hb11.mono hw1)
 have K1 := Hid.mk (And.intro (show MatO W1 w1.heap.size 0 g c r (List.replicate (c * r) 0) L from ⟨hc, hr, hTm, (hG1.mono (Nat.zero_le _)).below hb11⟩) (And.intro hbW hW1))
 clear hG1 hb1 hb11 hTm hW1 hbW
 go_wp2_with fail
 rw [← K1.out.2.2]
 have hpg : w1.heap.size ≠ g := by omega
 go_loopw [4] (fun i wr => ∃ (a : Nat) (ms : List Int), a ≤ r ∧ i = .int .i64 a ∧ Hid (MatO wr w1.heap.size 0 g c r ms L ∧ W1.grownBy wr (some g) ∧ ∀ i j, i < c → j < r → j < a → ent r ms i j = ent c zs j i)) (fun i _ => r - (intOf i).toNat)
 case atStart => exact ⟨0, _, Nat.zero_le _, rfl, Hid.mk ⟨K1.out.1, World.grownBy.refl _ _, fun i j _ _ h => by omega⟩⟩
 case round =>
  rename World => wo
  obtain ⟨a, ms, ha, rfl, HI⟩ := hrel
  have hTo := (K0.out.2.1.later K1.out.2.1).grown HI.out.2.1 (by omega)
  obtain ⟨q0, q1, q2⟩ := hTo
  by_cases har : a < r
  ·have hai : (a : Int) < (r : Int) := by omega
   go_wp2_with fail
   clear q0 q1 q2
   go_loopw [5] (fun i wr => ∃ (e : Nat) (ns : List Int), e ≤ c ∧ i = .int .i64 e ∧ Hid (MatO wr w1.heap.size 0 g c r ns L ∧ W1.grownBy wr (some g) ∧ ∀ i j, i < c → j < r → (j < a ∨ (j = a ∧ i < e)) → ent r ns i j = ent c zs j i)) (fun i _ => c - (intOf i).toNat)
   case atStart => exact ⟨0, ms, Nat.zero_le _, rfl, Hid.mk ⟨HI.out.1, HI.out.2.1, fun i j x y h => HI.out.2.2 i j x y (by omega)⟩⟩
   case round =>
    rename World => wi
    obtain ⟨e, ns, he, rfl, HJ⟩ := hrel
    have hTi := (K0.out.2.1.later K1.out.2.1).grown HJ.out.2.1 (by omega)
    obtain ⟨q0, q1, q2⟩ := hTi
    have hbi : Below w.heap.size w wi := (K0.out.1.trans (K1.out.2.1.mono (by omega))).trans (below_of_grown HJ.out.2.1 (by omega) (by omega))
    have hwi := HJ.out.2.1.size
    have KI := Hid.mk hbi
    clear hbi
    by_cases hec : e < c
    ·have hei : (e : Int) < (c : Int) := by omega
     go_wp2_with fail
     refine (at_in _ r c a e zs L _ (HM.out.below KI.out) har hec).mono ?_
     rintro e9 w2 ⟨x, rfl, hx, hb2⟩
     obtain ⟨nb2, so2, n2, cp2, rfl⟩ := hx.shape
     have hb22 := (Below.refl w2.heap.size w2).alloc (Nat.le_refl _) (.cells #[.bool nb2, .slice so2 n2 cp2] 79)
     have hbB := hb2.trans (hb22.mono hb2.size)
     have K2 := Hid.mk (And.intro hbB (hx.below hb22))
     clear hx hb2 hb22 hbB q0 q1 q2
     go_wp2_with fail
     refine (set_m w1.heap.size 0 g c r e a ns L _ _ _ (HJ.out.1.later K2.out.1) hpg K2.out.2 hec har).mono ?_
     rintro e9 w3 ⟨rfl, hM3, hgr3, -⟩
     have K3 := Hid.mk (And.intro hM3 (grown_trans (grown_below HJ.out.2.1 K2.out.1) hgr3))
     clear hM3 hgr3
     go_wp2_with fail
     go_roundw
     case measure => simp [intOf]; omega
     case rel =>
      refine ⟨e + 1, _, by omega, by go_num, Hid.mk ⟨K3.out.1, K3.out.2, fun i j hi hj hd => ?_⟩⟩
      rw [ent_set ns c r HJ.out.1.len e a i j _ hec har hj]
      by_cases hij : i = e ∧ j = a
      ·obtain ⟨rfl, rfl⟩ := hij
       rw [if_pos ⟨rfl, rfl⟩]
       rfl
      ·rw [if_neg hij]
       exact HJ.out.2.2 i j hi hj (by omega)
    ·have hei : ¬ (e : Int) < (c : Int) := by omega
     go_wp2_with fail
     go_roundw
     case measure => simp [intOf]; omega
     case rel => exact ⟨a + 1, ns, by omega, by go_num, Hid.mk ⟨HJ.out.1, HJ.out.2.1, fun i j hi hj hd => HJ.out.2.2 i j hi hj (by omega)⟩⟩
  ·have hai : ¬ (a : Int) < (r : Int) := by omega
   have hR : wo.heap[w.heap.size + 1]? = some (.cells #[.int .i64 0, .int .i64 0, .slice none 0 0] 66 (0, 0)) := ((HI.out.2.1.block _ (by omega) (fun e => by injection e with e; omega)).trans (K1.out.2.1.block _ (by omega))).trans K0.out.2.2
   have r0 : wo.cell? ⟨w.heap.size + 1, 0, none⟩ = some (.int .i64 0) := by simp [World.cell?, hR]
   have r1 : wo.cell? ⟨w.heap.size + 1, 1, none⟩ = some (.int .i64 0) := by simp [World.cell?, hR]
   have r2 : wo.cell? ⟨w.heap.size + 1, 2, none⟩ = some (.slice none 0 0) := by simp [World.cell?, hR]
   have f0 : ∀ o, wo.frozen? ⟨w.heap.size + 1, o, none⟩ = false := fun o => by simp [World.frozen?, hR]
   have HT : Hid (Ty wo (w.heap.size + 1) 66) := Hid.mk ⟨_, _, hR⟩
   obtain ⟨s0, s1, s2⟩ := HI.out.1.tri
   clear hR
   go_wp2_with fail
   refine bodyPost_ret (v := .agg #[.int .i64 c, .int .i64 r, .slice (some ⟨g, 0, none⟩) (c * r) (c * r)]) ?_ rfl ?_
   ·(simp [results, Tryz.results105, go_sem, r0, r1, r2]; done)
   ·have h3 := set3 wo (w.heap.size + 1) HT.out (by decide) (.int .i64 c) (.int .i64 r) (.slice (some ⟨g, 0, none⟩) (c * r) (c * r))
    have hbo : Below w.heap.size w wo := (K0.out.1.trans (K1.out.2.1.mono (by omega))).trans (below_of_grown HI.out.2.1 (by omega) (by omega))
    exact ⟨g, rfl, by omega, ms, HI.out.1.grid.besides h3.2 h3.1 (by omega), fun i j hi hj => HI.out.2.2 i j hi hj (by omega), hbo.trans (below_of_grown h3.2 (by omega) hbo.size)⟩
theorem flip_any (v : Value) (r c : Nat) (zs : List Int) (L : Nat) (w : World) (hm : IsM w v r c zs L) :
 Calls Tryz.prog 105 #[v] w fun e w' => ∃ x ms, e = .returned x ∧ IsM w' x c r ms L ∧ (∀ i j, i < c → j < r → ent r ms i j = ent c zs j i) ∧ Below w.heap.size w w' := by
 refine (flip_new v r c zs L w hm).mono ?_
 rintro e w' ⟨g, ms, rfl, -, hG, hP, hb⟩
 exact ⟨_, ms, rfl, ⟨hm.2.1, hm.1, _, rfl, hG⟩, hP, hb⟩
open Go.RowKit
theorem run_copy_part (w : World) (ty : TypeId) (g n m cap : Nat) (ad : Addr) (cur : Array Value) (cs : List Value) (hg : w.heap[g]? = some (.cells cur 79 (0, 0))) (hc : cur.size = n * 2) (hn : cs.length = n * 2) (hnm : n ≤ m)
 (hsrc : ∀ j v, cs[j]? = some v → w.cell? (ad.add j) = some v) (h1 : ∀ v ∈ cs, v.oneCell' = true) :
 (Builtin.copy_ #[64, 64] ty #[.slice (some ⟨g, 0, none⟩) n n, .slice (some ad) m cap]).run Tryz.prog w = .ok (goInt n) (w.setRow g cs.toArray) := by
 obtain ⟨i, hi, hz0, hz1, hz2⟩ := info_parts Tryz.info79
 have hf := run_firstCells_some (P := Tryz.prog) w 2 n ad m cap cs hn hsrc
 have hst := run_storeCells_at Tryz.prog g 0 79 cs 0 cur w hg (by omega) h1
 simp only [Nat.add_zero, Nat.zero_add, List.take_zero, List.nil_append] at hst
 rw [List.drop_of_length_le (by rw [Array.length_toList]; omega), List.append_nil] at hst
 simp [Builtin.copy_, run_underlying Tryz.underlying64, Builtin.lenOf, sizeOf, typeInfo, hi, hz1, show m.min n = n from Nat.min_eq_right hnm, hf, hst]
theorem copy_part (w : World) {ops : Array Oper} {rest : List Oper} {o : Oper} {a : Act} {Q : Exit → Act → World → Prop} (hgd : o.guard = none) (d s : Operand)
 (ho : o.op = .call { callee := .builtin .copy, args := #[d, s], argTypes := #[64, 64] }) (g n m : Nat) (sv : Value) (ys zs : List Int) (M L : Nat) (hnm : n ≤ m)
 (hd : a.eval d = .slice (some ⟨g, 0, none⟩) n n) (hs : a.eval s = sv) (hgr : Grid w (.slice (some ⟨g, 0, none⟩) n n) n ys M) (hsv : Grid w sv m zs L)
 (hK : ∀ w', Grid w' (.slice (some ⟨g, 0, none⟩) n n) n (zs.take n) L → w.grownBy w' (some g) → wpList Tryz.prog ops Q rest (a.put o.dst (goInt n)) w') : wpList Tryz.prog ops Q (o :: rest) a w := by
 refine wpList_plain hgd fun K hK' => ?_
 have hty := hgr.ty
 obtain ⟨h0, cs0, h1, h2⟩ := hgr
 rcases h1.2 with ⟨h3, _⟩ | ⟨g', cap', cur, hv, hgg, hh, r1, r2, r3, r4⟩
 ·simp at h3
 simp only [Value.slice.injEq, Option.some.injEq, Addr.mk.injEq, and_true, true_and] at hv
 obtain ⟨rfl, rfl⟩ := hv
 obtain ⟨k0, cs, k1, k2⟩ := hsv
 rcases k1.2 with ⟨rfl, hn⟩ | ⟨gs, cap, cur2, rfl, hgs, hh2, q1, q2, q3, q4⟩
 ·subst hn
  obtain rfl : n = 0 := by omega
  have hrun := run_copy_zero w o.type g
  unfold Oper.wp
  simp [execOp, ho, resolve, invoke, builtin, hd, hs, hrun, Result.andThen]
  exact hK' _ _ (hK w ⟨by simp, cs0, h1, fun i hi => by omega⟩ (World.grownBy.refl _ _))
 ·have hl : cs.length = m * 2 := k1.1
  have hone : ∀ v ∈ cs.take (n * 2), v.oneCell' = true := by
   intro v hv
   obtain ⟨j, hj, hjv⟩ := List.getElem_of_mem (List.mem_of_mem_take hv)
   obtain ⟨x, y, e1, e2, e3⟩ := k2 (j / 2) (by omega)
   obtain ⟨nb, ao', m', c', e4⟩ := e3.shape
   simp only [Value.agg.injEq, Array.mk.injEq, List.cons.injEq, and_true] at e4
   have hj' : cs[j]? = some v := by rw [List.getElem?_eq_getElem hj, hjv]
   rcases (show j = 2 * (j / 2) ∨ j = 2 * (j / 2) + 1 from by omega) with hjj | hjj
   ·rw [hjj, e1] at hj'; injection hj' with hj'; rw [← hj', e4.1]; rfl
   ·rw [hjj, e2] at hj'; injection hj' with hj'; rw [← hj', e4.2]; rfl
  have htl : (cs.take (n * 2)).length = n * 2 := by rw [List.length_take]; omega
  have hrun := run_copy_part w o.type g n m cap ⟨gs, 0, none⟩ cur (cs.take (n * 2)) hh r3 htl hnm (fun j v hj => World.ownsRow.cells k1 rfl j v (by
   rw [List.getElem?_take] at hj
   split at hj
   ·exact hj
   ·simp at hj)) hone
  unfold Oper.wp
  simp [execOp, ho, resolve, invoke, builtin, hd, hs, hrun, Result.andThen]
  have hgrow : w.grownBy (w.setRow g (cs.take (n * 2)).toArray) (some g) := ⟨rfl, rfl, rfl, by simp [World.setRow], fun k _ hne => setRow_other w g k _ (fun e => hne (by simp [e]))⟩
  have hku : KU w (w.setRow g (cs.take (n * 2)).toArray) := KU.grown hgrow (fun k hk => by simp at hk; subst hk; exact hty)
  have hG : Grid (w.setRow g (cs.take (n * 2)).toArray) (.slice (some ⟨g, 0, none⟩) n n) n (zs.take n) L := by
   refine ⟨by rw [List.length_take]; omega, cs.take (n * 2), ⟨htl, .inr ⟨g, n, (cs.take (n * 2)).toArray, rfl, Nat.zero_le _, setRow_heap w g _ _ _ _ hh, Nat.le_refl _, r2, by simpa using htl, ?_⟩⟩, fun i hi => ?_⟩
   ·rw [List.take_of_length_le (by simp [htl])]
   ·obtain ⟨x, y, e1, e2, e3⟩ := k2 i (by omega)
    refine ⟨x, y, by rw [List.getElem?_take, if_pos (by omega)]; exact e1, by rw [List.getElem?_take, if_pos (by omega)]; exact e2, ?_⟩
    rw [show (zs.take n).getD i 0 = zs.getD i 0 from by simp [List.getD, hi]]
    exact e3.keep hku
  exact hK' _ _ (hK _ hG hgrow)
set_option maxRecDepth 100000 in
set_option maxHeartbeats 2000000 in
theorem fromCells_part (r c m : Nat) (sv : Value) (zs : List Int) (L : Nat) (w : World) (hr : r ≤ 99) (hc : c ≤ 99) (hnm : r * c ≤ m) (hg : Grid w sv m zs L) :
 Calls Tryz.prog 58 #[.int .i64 r, .int .i64 c, sv] w fun e w' => ∃ g, e = .returned (.agg #[.int .i64 r, .int .i64 c, .slice (some ⟨g, 0, none⟩) (r * c) (r * c)]) ∧ w.heap.size ≤ g ∧ Grid w' (.slice (some ⟨g, 0, none⟩) (r * c) (r * c)) (r * c) (zs.take (r * c)) L ∧ Below w.heap.size w w' := by
 obtain ⟨ao, cap, rfl, -⟩ := hg.shape
 have HG := Hid.mk hg
 have HNM := Hid.mk hnm
 clear hg hnm
 go_enter Tryz.func58, Tryz.ntmps58
 go_wp2_with fail
 refine (noughts_any r c _ hr hc).mono ?_
 rintro e w2 ⟨g, rfl, hgn, hg2, hb2⟩
 obtain ⟨hc2, hf2⟩ := bcell hb2
 have hsz2 : w.heap.size < w2.heap.size := by have := hb2.size; simp at this; omega
 have hgl : g < w2.heap.size := hg2.ty.lt
 have hgn2 : w.heap.size + 1 ≤ g := by simpa using hgn
 have hbw : Below w.heap.size w w2 := by
  refine Below.trans ?_ (hb2.mono (by simp <;> omega))
  repeat (first | exact Below.refl _ _ | refine Below.alloc ?_ (by simp <;> omega) _)
 have hres : w2.heap[w.heap.size]? = some (.cells #[.int .i64 0, .int .i64 0, .slice none 0 0] 66 (0, 0)) := by
  rw [hb2.block _ (by simp)]; exact heap_alloc_new w _
 have H2 := Hid.mk (And.intro hg2 (And.intro hbw hres))
 clear hgn hg2 hb2 hbw hres hc2 hf2
 go_wp2_with (refine copy_part _ rfl (.tmp 12) (.tmp 13) rfl g (r * c) m _ (List.replicate (r * c) 0) zs 0 L HNM.out rfl rfl ?_ ?_ ?_)
 ·exact H2.out.1.below ((Below.refl _ _).alloc (Nat.le_refl _) _)
 ·exact (HG.out.below H2.out.2.1).below ((Below.refl _ _).alloc (Nat.le_refl _) _)
 intro w3 hg3 hgr3
 obtain ⟨W2, hW2⟩ : ∃ W2, W2 = w2.alloc (.cells #[.int .i64 r, .int .i64 c, .slice (some ⟨g, 0, none⟩) (r * c) (r * c)] 66) := ⟨_, rfl⟩
 rw [← hW2] at hgr3
 have p0 : W2.cell? ⟨w2.heap.size, 0, none⟩ = some (.int .i64 r) := by rw [hW2]; simp
 have p1 : W2.cell? ⟨w2.heap.size, 1, none⟩ = some (.int .i64 c) := by rw [hW2]; simp
 have p2 : W2.cell? ⟨w2.heap.size, 2, none⟩ = some (.slice (some ⟨g, 0, none⟩) (r * c) (r * c)) := by rw [hW2]; simp
 have q0 := hgr3.cell p0 (by simp; omega)
 have q1 := hgr3.cell p1 (by simp; omega)
 have q2 := hgr3.cell p2 (by simp; omega)
 have hW2s : W2.heap.size = w2.heap.size + 1 := by rw [hW2]; simp
 have hres3 : w3.heap[w.heap.size]? = some (.cells #[.int .i64 0, .int .i64 0, .slice none 0 0] 66 (0, 0)) := by
  rw [hgr3.block _ (by omega) (by simp; omega), hW2, Below.heap_alloc _ _ _ (by omega)]; exact H2.out.2.2
 have hB3 : Below w.heap.size w w3 := by
  have h1 : Below w.heap.size w W2 := by rw [hW2]; exact H2.out.2.1.alloc (by omega) _
  exact h1.grown hgr3 (by omega) (fun j hj => by simp at hj; omega)
 have r0 : w3.cell? ⟨w.heap.size, 0, none⟩ = some (.int .i64 0) := by simp [World.cell?, hres3]
 have r1 : w3.cell? ⟨w.heap.size, 1, none⟩ = some (.int .i64 0) := by simp [World.cell?, hres3]
 have r2 : w3.cell? ⟨w.heap.size, 2, none⟩ = some (.slice none 0 0) := by simp [World.cell?, hres3]
 have z0 : w3.frozen? ⟨w.heap.size, 0, none⟩ = false := by simp [World.frozen?, hres3]
 have z1 : w3.frozen? ⟨w.heap.size, 1, none⟩ = false := by simp [World.frozen?, hres3]
 have z2 : w3.frozen? ⟨w.heap.size, 2, none⟩ = false := by simp [World.frozen?, hres3]
 have HT : Hid (Ty w3 w.heap.size 66) := Hid.mk ⟨_, _, hres3⟩
 have H3 := Hid.mk (And.intro hg3 hB3)
 clear hg3 hB3 hgr3 hres3 p0 p1 p2 hW2 hW2s H2 HG HNM
 go_wp2_with fail
 refine bodyPost_ret (v := .agg #[.int .i64 r, .int .i64 c, .slice (some ⟨g, 0, none⟩) (r * c) (r * c)]) ?_ rfl ?_
 ·(simp [results, Tryz.results58, go_sem, r0, r1, r2]; done)
 ·refine ⟨g, rfl, by omega, H3.out.1.keep (KT.setCell (KT.setCell (KT.setCell (KT.refl _) HT.out (by decide) (by decide) _) (HT.out.setCell _ _) (by decide) (by decide) _) ((HT.out.setCell _ _).setCell _ _) (by decide) (by decide) _), ?_⟩
  exact ((H3.out.2.setCell (Nat.le_refl _) _).setCell (Nat.le_refl _) _).setCell (Nat.le_refl _) _
open Go.RowKit
theorem LD_le (L n : Nat) (hn : n ≤ 4) : LD L n ≤ 4 * L + 12 := by
 obtain rfl | rfl | rfl | rfl | rfl : n = 0 ∨ n = 1 ∨ n = 2 ∨ n = 3 ∨ n = 4 := by omega
 all_goals (simp only [LD]; omega)
theorem prod_ip {n c : Nat} {zs fs ms : List Int} (hf : ∀ i j, i < c → j < n → ent n fs i j = ent c zs j i) (hp : ProdOf n c n zs fs ms) : Rep n ms (fun i j => ipE c (ent c zs i) (ent c zs j)) := by
 intro i j hi hj
 have h1 := hp i j hi hj
 rw [h1]
 unfold ipE
 rw [dot_sm]
 exact sm_congr c fun k hk => by
  have := hf k j hk hj
  rw [← this]
  rfl
set_option maxRecDepth 100000 in
set_option maxHeartbeats 4000000 in
theorem volume_any (v : Value) (r c n : Nat) (zs : List Int) (L : Nat) (w : World) (hm : IsM w v r c zs L) (hn : n ≤ r) (hn4 : n ≤ 4) (hc4 : c ≤ 4) (hL : L ≤ 1000) :
 Calls Tryz.prog 184 #[v, .int .i64 n] w fun e w' => ∃ x, e = .returned x ∧ IntOut w w' x (volE c (ent c zs) n) (8 * L + 40) := by
 have HM := Hid.mk hm
 obtain ⟨hr, hc, sl, rfl, hg0⟩ := hm
 obtain ⟨ao, cap, rfl, -⟩ := hg0.shape
 obtain ⟨RC, hRC⟩ : ∃ RC, RC = r * c := ⟨_, rfl⟩
 rw [← hRC] at hg0 HM ⊢
 have HRC := Hid.mk hRC
 have HG := Hid.mk hg0
 clear hg0 hRC
 go_enter Tryz.func184, Tryz.ntmps184
 go_wp2_with fail
 obtain ⟨W0, hW0⟩ : ∃ W0, W0 = (w.alloc (.cells #[.int .i64 r, .int .i64 c, .slice ao RC cap] 66)).alloc (.cells #[.bool false, .slice none 0 0] 79) := ⟨_, rfl⟩
 have hz0 : W0.heap.size = w.heap.size + 2 := by rw [hW0]; simp
 have hb0 : Below w.heap.size w W0 := by rw [hW0]; repeat (first | exact Below.refl _ _ | refine Below.alloc ?_ (by simp <;> omega) _)
 have hR : Duo W0 (w.heap.size + 1) (.bool false) (.slice none 0 0) := by rw [hW0]; exact Duo.new _ _ _ (by simp)
 rw [← hW0]
 have F := Hid.mk (And.intro hR (And.intro hb0 hz0))
 clear hR hb0 hW0 hz0
 refine (fromCells_part n c RC _ zs L _ (by omega) hc (by rw [HRC.out]; exact Nat.mul_le_mul_right c hn) (HG.out.below F.out.2.1)).mono ?_
 rintro e w1 ⟨g, rfl, hg1, hG1, hb1⟩
 obtain ⟨NC, hNC⟩ : ∃ NC, NC = n * c := ⟨_, rfl⟩
 rw [← hNC] at hG1 ⊢
 obtain ⟨W1, hW1⟩ : ∃ W1, W1 = w1.alloc (.cells #[.int .i64 n, .int .i64 c, .slice (some ⟨g, 0, none⟩) NC NC] 66) := ⟨_, rfl⟩
 have hb11 : Below w1.heap.size w1 W1 := by rw [hW1]; exact (Below.refl _ _).alloc (Nat.le_refl _) _
 have hs1 := hb1.size
 have hz0 := F.out.2.2
 have hM1 : IsM W1 (.agg #[.int .i64 n, .int .i64 c, .slice (some ⟨g, 0, none⟩) NC NC]) n c (zs.take NC) L := by
  refine ⟨by omega, hc, .slice (some ⟨g, 0, none⟩) NC NC, rfl, ?_⟩
  have h1 := hG1.below hb11
  rw [hNC] at h1 ⊢
  exact h1
 have hB1 : W1.heap[w1.heap.size]? = some (.cells #[.int .i64 n, .int .i64 c, .slice (some ⟨g, 0, none⟩) NC NC] 66 (0, 0)) := by rw [hW1]; exact heap_alloc_new w1 _
 have hbW : Below W0.heap.size W0 W1 := hb1.trans (hb11.mono hs1)
 have HNC := Hid.mk hNC
 have HW1 := Hid.mk hW1
 have K1 : Hid (IsM W1 (.agg #[.int .i64 n, .int .i64 c, .slice (some ⟨g, 0, none⟩) NC NC]) n c (zs.take NC) L ∧ Duo W1 (w.heap.size + 1) (.bool false) (.slice none 0 0) ∧ Below w.heap.size w W1 ∧ w.heap.size + 2 ≤ w1.heap.size ∧ w1.heap.size < W1.heap.size) := Hid.mk ⟨hM1, F.out.1.below hbW (by omega), F.out.2.1.trans (hbW.mono (by omega)), by omega, by rw [hW1]; simp⟩
 have HC : Hid (∀ w', Below W1.heap.size W1 w' → w'.cell? ⟨w1.heap.size, 0, none⟩ = some (.int .i64 n) ∧ w'.cell? ⟨w1.heap.size, 1, none⟩ = some (.int .i64 c) ∧ w'.cell? ⟨w1.heap.size, 2, none⟩ = some (.slice (some ⟨g, 0, none⟩) NC NC)) := Hid.mk fun w' hb => by
  have h1 : w'.heap[w1.heap.size]? = _ := (hb.block _ (by rw [hW1]; simp)).trans hB1
  refine ⟨?_, ?_, ?_⟩ <;> simp [World.cell?, h1]
 clear hG1 hb1 hNC hW1 hb11 hs1 hz0 hM1 hB1 hbW hg1
 go_upto_region 2 with fail
 rw [← HW1.out]
 obtain ⟨x0, x1, x2⟩ := HC.out W1 (Below.refl _ _)
 go_region_with (first
  | (go_at_call 105; refine (flip_any _ n c (zs.take NC) L _ (K1.out.1.below (Below.refl _ _).drew)).mono ?_; rintro e9 w5 ⟨x5, fs, rfl, hx5, hf5, hb5⟩; have hbW5 : Below W1.heap.size W1 w5 := ((Below.refl _ _).drew).trans hb5; obtain ⟨y0, y1, y2⟩ := HC.out w5 hbW5; clear hb5)
  | (go_at_call 86; refine (gtimes_any _ _ n c n (zs.take NC) fs L _ (K1.out.1.below hbW5) hx5 (by omega)).mono ?_; rintro e9 w6 ⟨x6, rfl, ⟨ms, hx6, hp6⟩, hb6⟩; have hbW6 : Below W1.heap.size W1 w6 := hbW5.trans (hb6.mono hbW5.size); replace hp6 := prod_ip hf5 hp6; clear hb6)
  | (go_at_call 39; refine (det_any n _ ms _ (L + L + 1 + c) _ hx6 hp6 (by have := LD_le (L + L + 1 + c) n hn4; omega) (by omega)).mono ?_; rintro e9 w7 ⟨x7, rfl, hx7, hb7⟩; obtain ⟨nb7, so7, n7, cp7, rfl⟩ := hx7.shape; have hbW7 : Below W1.heap.size W1 w7 := hbW6.trans (hb7.mono hbW6.size); have hR7 := K1.out.2.1.below hbW7 (by have := K1.out.2.2.2; omega); obtain ⟨s0, s1, s2, s3⟩ := hR7.cells; clear hb7))
 all_goals
  have KD := Hid.mk (And.intro hx7 (And.intro hR7 (K1.out.2.2.1.trans (hbW7.mono (by have := K1.out.2.2.1.size; omega)))))
  clear hx7 hR7 hbW7
  go_wp2_with fail
  obtain ⟨g1, g2, -, -⟩ := (KD.out.2.1.put (.bool nb7) (.slice so7 n7 cp7)).cells
  refine bodyPost_ret (v := .agg #[.bool nb7, .slice so7 n7 cp7]) ?_ rfl ?_
  ·(simp [results, Tryz.results184, go_sem, g1, g2]; done)
  ·refine ⟨_, rfl, ?_, (KD.out.2.2.setCell (by simp) _).setCell (by simp) _⟩
   have h1 := KD.out.1.duo KD.out.2.1 (.bool nb7) (.slice so7 n7 cp7)
   have h2 : volE c (ent c zs) n = detF n (fun i j => ipE c (ent c (zs.take NC) i) (ent c (zs.take NC) j)) := by
    refine detF_upto n _ _ (fun i j hi hj => sm_congr c fun k hk => ?_)
    have e1 := idx_lt hi hk
    have e2 := idx_lt hj hk
    unfold ent
    rw [HNC.out]
    simp [List.getD, e1, e2]
   rw [h2]
   exact h1.mono (by have := LD_le (L + L + 1 + c) n hn4; omega)
open Go.RowKit
theorem prod_ip2 {n c : Nat} {zs ys fs ms : List Int} (hf : ∀ i j, i < c → j < n → ent n fs i j = ent c zs j i) (hp : ProdOf n c n ys fs ms) : Rep n ms (fun i j => ipE c (ent c ys i) (ent c zs j)) := by
 intro i j hi hj
 have h1 := hp i j hi hj
 rw [h1]
 unfold ipE
 rw [dot_sm]
 exact sm_congr c fun k hk => by
  have := hf k j hk hj
  rw [← this]
  rfl
set_option maxRecDepth 100000 in
set_option maxHeartbeats 4000000 in
theorem lean_any (v : Value) (r c row q : Nat) (zs : List Int) (L : Nat) (w : World) (hm : IsM w v r c zs L) (hrow : row < r) (hq : q < r) (hq4 : q ≤ 3) (hc4 : c ≤ 4) (hL : L ≤ 1000) :
 Calls Tryz.prog 183 #[v, .int .i64 row, .int .i64 q] w fun e w' => ∃ x, e = .returned x ∧ IntOut w w' x (lamE c (ent c zs) row q) (8 * L + 40) := by
 have HM := Hid.mk hm
 obtain ⟨hr, hc, sl, rfl, hg0⟩ := hm
 obtain ⟨ao, cap, rfl, -⟩ := hg0.shape
 obtain ⟨RC, hRC⟩ : ∃ RC, RC = r * c := ⟨_, rfl⟩
 rw [← hRC] at hg0 HM ⊢
 have HRC := Hid.mk hRC
 have HG := Hid.mk hg0
 obtain ⟨n, hn⟩ : ∃ n, n = q + 1 := ⟨_, rfl⟩
 have hqn : (q : Int) + 1 = (n : Nat) := by omega
 have HN := Hid.mk hn
 have hn4 : n ≤ 4 := by omega
 have hnr : n ≤ r := by omega
 have hqlt : q < n := by omega
 clear hg0 hRC hn
 go_enter Tryz.func183, Tryz.ntmps183
 go_wp2_with fail
 obtain ⟨W0, hW0⟩ : ∃ W0, W0 = (w.alloc (.cells #[.int .i64 r, .int .i64 c, .slice ao RC cap] 66)).alloc (.cells #[.bool false, .slice none 0 0] 79) := ⟨_, rfl⟩
 have hz0 : W0.heap.size = w.heap.size + 2 := by rw [hW0]; simp
 have hb0 : Below w.heap.size w W0 := by rw [hW0]; repeat (first | exact Below.refl _ _ | refine Below.alloc ?_ (by simp <;> omega) _)
 have hR : Duo W0 (w.heap.size + 1) (.bool false) (.slice none 0 0) := by rw [hW0]; exact Duo.new _ _ _ (by simp)
 have hT : Tri W0 w.heap.size 0 (.int .i64 r) (.int .i64 c) (.slice ao RC cap) := by
  have h1 : W0.heap[w.heap.size]? = some (.cells #[.int .i64 r, .int .i64 c, .slice ao RC cap] 66 (0, 0)) := by
   rw [hW0]
   exact (((Below.refl _ _).alloc (Nat.le_refl _) _).block _ (by simp)).trans (heap_alloc_new w _)
  refine ⟨?_, ?_, ?_⟩ <;> simp [World.cell?, h1]
 rw [← hW0]
 have F := Hid.mk (And.intro hR (And.intro hb0 (And.intro hz0 hT)))
 clear hR hb0 hW0 hz0 hT
 refine (fromCells_part n c RC _ zs L _ (by omega) hc (by rw [HRC.out]; exact Nat.mul_le_mul_right c hnr) (HG.out.below F.out.2.1)).mono ?_
 rintro e w1 ⟨g1, rfl, hg1, hG1, hb1⟩
 obtain ⟨NC, hNC⟩ : ∃ NC, NC = n * c := ⟨_, rfl⟩
 have HNC := Hid.mk hNC
 rw [← hNC] at hG1 ⊢
 obtain ⟨W1, hW1⟩ : ∃ W1, W1 = w1.alloc (.cells #[.int .i64 n, .int .i64 c, .slice (some ⟨g1, 0, none⟩) NC NC] 66) := ⟨_, rfl⟩
 have hb11 : Below w1.heap.size w1 W1 := by rw [hW1]; exact (Below.refl _ _).alloc (Nat.le_refl _) _
 have hs1 := hb1.size
 have hz0 := F.out.2.2.1
 have hM1 : IsM W1 (.agg #[.int .i64 n, .int .i64 c, .slice (some ⟨g1, 0, none⟩) NC NC]) n c (zs.take NC) L := by
  refine ⟨by omega, hc, .slice (some ⟨g1, 0, none⟩) NC NC, rfl, ?_⟩
  have h1 := hG1.below hb11
  rw [hNC] at h1 ⊢
  exact h1
 have hbW : Below W0.heap.size W0 W1 := hb1.trans (hb11.mono hs1)
 have hT1 : Tri W1 w1.heap.size 0 (.int .i64 n) (.int .i64 c) (.slice (some ⟨g1, 0, none⟩) NC NC) := by
  have h1 : W1.heap[w1.heap.size]? = some (.cells #[.int .i64 n, .int .i64 c, .slice (some ⟨g1, 0, none⟩) NC NC] 66 (0, 0)) := by rw [hW1]; exact heap_alloc_new w1 _
  refine ⟨?_, ?_, ?_⟩ <;> simp [World.cell?, h1]
 have hs11 : w1.heap.size < W1.heap.size := by rw [hW1]; simp
 have HW1 := Hid.mk hW1
 have K1 : Hid (IsM W1 (.agg #[.int .i64 n, .int .i64 c, .slice (some ⟨g1, 0, none⟩) NC NC]) n c (zs.take NC) L ∧ Tri W1 w1.heap.size 0 (.int .i64 n) (.int .i64 c) (.slice (some ⟨g1, 0, none⟩) NC NC) ∧ Below W0.heap.size W0 W1 ∧ Below w.heap.size w W1) := Hid.mk ⟨hM1, hT1, hbW, F.out.2.1.trans (hbW.mono (by omega))⟩
 obtain ⟨a0, a1, a2⟩ := F.out.2.2.2.later hbW
 simp only [Nat.zero_add] at a1 a2
 clear hG1 hb1 hNC hb11 hM1 hbW hg1 hT1 hW1
 go_upto_region 2 with fail
 rw [← HW1.out]
 go_wp2_with fail
 refine (fromCells_part n c RC _ zs L _ (by omega) hc (by rw [HRC.out]; exact Nat.mul_le_mul_right c hnr) (HG.out.below K1.out.2.2.2)).mono ?_
 rintro e w2 ⟨g, rfl, hg2, hG2, hb2⟩
 obtain ⟨W2, hW2⟩ : ∃ W2, W2 = w2.alloc (.cells #[.int .i64 n, .int .i64 c, .slice (some ⟨g, 0, none⟩) (n * c) (n * c)] 66) := ⟨_, rfl⟩
 have hb22 : Below w2.heap.size w2 W2 := by rw [hW2]; exact (Below.refl _ _).alloc (Nat.le_refl _) _
 have hs2 := hb2.size
 have hs22 : w2.heap.size < W2.heap.size := by rw [hW2]; simp
 have hg2l : g < w2.heap.size := hG2.ty.lt
 have hMO : MatO W2 w2.heap.size 0 g n c (zs.take (n * c)) L := by
  refine ⟨by omega, hc, ?_, hG2.below hb22⟩
  have h1 : W2.heap[w2.heap.size]? = some (.cells #[.int .i64 n, .int .i64 c, .slice (some ⟨g, 0, none⟩) (n * c) (n * c)] 66 (0, 0)) := by rw [hW2]; exact heap_alloc_new w2 _
  refine ⟨?_, ?_, ?_⟩ <;> simp [World.cell?, h1]
 have hb12 : Below W1.heap.size W1 W2 := hb2.trans (hb22.mono hs2)
 have HW2 := Hid.mk hW2
 have K2 : Hid (MatO W2 w2.heap.size 0 g n c (zs.take (n * c)) L ∧ Below W1.heap.size W1 W2 ∧ Below w.heap.size w W2) := Hid.mk ⟨hMO, hb12, K1.out.2.2.2.trans (hb12.mono (by omega))⟩
 have hpg : w2.heap.size ≠ g := by omega
 clear hG2 hb2 hW2 hb22 hMO hb12 a0 a1 a2
 go_upto_region 3 with fail
 rw [← HW2.out]
 go_wp2_with fail
 go_loopw [9] (fun iv wr => ∃ (e : Nat) (ns : List Int), e ≤ c ∧ iv = .int .i64 e ∧ Hid (MatO wr w2.heap.size 0 g n c ns L ∧ W2.grownBy wr (some g) ∧ ∀ i j, i < n → j < c → ent c ns i j = if i = q ∧ j < e then ent c zs row j else ent c zs i j)) (fun iv _ => c - (intOf iv).toNat)
 case atStart =>
  refine ⟨0, _, Nat.zero_le _, rfl, Hid.mk ⟨K2.out.1, World.grownBy.refl _ _, fun i j hi hj => ?_⟩⟩
  rw [if_neg (by omega)]
  unfold ent
  have := idx_lt hi hj
  simp [List.getD, this]
 case round =>
  rename World => wi
  obtain ⟨e, ns, he, rfl, HJ⟩ := hrel
  have hwi := HJ.out.2.1.size
  have hb1i : Below W1.heap.size W1 wi := K2.out.2.1.trans (below_of_grown HJ.out.2.1 (by omega) (by omega))
  have hbi : Below w.heap.size w wi := K1.out.2.2.2.trans (hb1i.mono (by omega))
  have hb0i : Below W0.heap.size W0 wi := K1.out.2.2.1.trans (hb1i.mono (by omega))
  obtain ⟨q0, q1, q2⟩ := F.out.2.2.2.later hb0i
  simp only [Nat.zero_add] at q1 q2
  have KI := Hid.mk (And.intro hbi (And.intro hb1i hb0i))
  clear hbi hb1i hb0i
  by_cases hec : e < c
  ·have hei : (e : Int) < (c : Int) := by omega
   go_wp2_with fail
   refine (at_in _ r c row e zs L _ (HM.out.below KI.out.1) hrow hec).mono ?_
   rintro e9 w3 ⟨x, rfl, hx, hb3⟩
   obtain ⟨nb2, so2, n2, cp2, rfl⟩ := hx.shape
   have hb33 := (Below.refl w3.heap.size w3).alloc (Nat.le_refl _) (.cells #[.bool nb2, .slice so2 n2 cp2] 79)
   have hbB := hb3.trans (hb33.mono hb3.size)
   have K3 := Hid.mk (And.intro hbB (hx.below hb33))
   clear hx hb3 hb33 hbB q0 q1 q2
   go_wp2_with fail
   refine (set_m w2.heap.size 0 g n c q e ns L _ _ _ (HJ.out.1.later K3.out.1) hpg K3.out.2 hqlt hec).mono ?_
   rintro e9 w4 ⟨rfl, hM4, hgr4, -⟩
   have K4 := Hid.mk (And.intro hM4 (grown_trans (grown_below HJ.out.2.1 K3.out.1) hgr4))
   clear hM4 hgr4
   go_wp2_with fail
   go_roundw
   case measure => simp [intOf]; omega
   case rel =>
    refine ⟨e + 1, _, by omega, by go_num, Hid.mk ⟨K4.out.1, K4.out.2, fun i j hi hj => ?_⟩⟩
    rw [ent_set ns n c HJ.out.1.len q e i j _ hqlt hec hj]
    by_cases hij : i = q ∧ j = e
    ·obtain ⟨rfl, rfl⟩ := hij
     rw [if_pos ⟨rfl, rfl⟩, if_pos ⟨rfl, by omega⟩]
     rfl
    ·rw [if_neg hij, HJ.out.2.2 i j hi hj]
     by_cases h1 : i = q ∧ j < e
     ·rw [if_pos h1, if_pos ⟨h1.1, by omega⟩]
     ·rw [if_neg h1, if_neg (fun h2 => by
       rcases h2 with ⟨h3, h4⟩
       exact (by by_cases h5 : j = e; exact hij ⟨h3, h5⟩; exact h1 ⟨h3, by omega⟩))]
  ·obtain rfl : e = c := by omega
   have hR : Duo wi (w.heap.size + 1) (.bool false) (.slice none 0 0) := F.out.1.below KI.out.2.2 (by omega)
   obtain ⟨y0, y1, y2⟩ := HJ.out.1.tri
   obtain ⟨z0, z1, z2⟩ := K1.out.2.1.later KI.out.2.1
   simp only [Nat.zero_add] at y1 y2 z1 z2
   have KR := Hid.mk hR
   have HC : Hid (∀ w', Below wi.heap.size wi w' → w'.cell? ⟨w2.heap.size, 0, none⟩ = some (.int .i64 n) ∧ w'.cell? ⟨w2.heap.size, 1, none⟩ = some (.int .i64 e) ∧ w'.cell? ⟨w2.heap.size, 2, none⟩ = some (.slice (some ⟨g, 0, none⟩) (n * e) (n * e))) := Hid.mk fun w' hb => by
    obtain ⟨h1, h2, h3⟩ := HJ.out.1.tri.later hb
    exact ⟨h1, by simpa using h2, by simpa using h3⟩
   clear hR
   obtain ⟨NE, hNE⟩ : ∃ NE, NE = n * e := ⟨_, rfl⟩
   have hMI := HJ.out.1.isM
   rw [← hNE] at y2 HC hMI
   have HMI := Hid.mk hMI
   clear hMI hNE
   go_upto_region 8 with fail
   go_region_with (first
    | (go_at_call 105; refine (flip_any _ n e (zs.take NC) L _ ((K1.out.1.below KI.out.2.1).below (Below.refl _ _).drew)).mono ?_; rintro e9 w5 ⟨x5, fs, rfl, hx5, hf5, hb5⟩; have hbW5 : Below wi.heap.size wi w5 := ((Below.refl _ _).drew).trans hb5; obtain ⟨u0, u1, u2⟩ := HC.out w5 hbW5; clear hb5)
    | (go_at_call 86; refine (gtimes_any _ _ n e n ns fs L _ (HMI.out.below hbW5) hx5 (by omega)).mono ?_; rintro e9 w6 ⟨x6, rfl, ⟨ms, hx6, hp6⟩, hb6⟩; have hbW6 : Below wi.heap.size wi w6 := hbW5.trans (hb6.mono hbW5.size); replace hp6 := prod_ip2 hf5 hp6; clear hb6)
    | (go_at_call 39; refine (det_any n _ ms _ (L + L + 1 + e) _ hx6 hp6 (by have := LD_le (L + L + 1 + e) n hn4; omega) (by omega)).mono ?_; rintro e9 w7 ⟨x7, rfl, hx7, hb7⟩; obtain ⟨nb7, so7, n7, cp7, rfl⟩ := hx7.shape; have hbW7 : Below wi.heap.size wi w7 := hbW6.trans (hb7.mono hbW6.size); have hR7 := KR.out.below hbW7 (by omega); obtain ⟨s0, s1, s2, s3⟩ := hR7.cells; clear hb7))
   all_goals
    have KD := Hid.mk (And.intro hx7 (And.intro hR7 (KI.out.1.trans (hbW7.mono (by have := KI.out.1.size; omega)))))
    clear hx7 hR7 hbW7
    go_wp2_with fail
    obtain ⟨g1', g2', -, -⟩ := (KD.out.2.1.put (.bool nb7) (.slice so7 n7 cp7)).cells
    refine bodyPost_ret (v := .agg #[.bool nb7, .slice so7 n7 cp7]) ?_ rfl ?_
    ·(simp [results, Tryz.results183, go_sem, g1', g2']; done)
    ·refine ⟨_, rfl, ?_, (KD.out.2.2.setCell (by simp) _).setCell (by simp) _⟩
     have h1 := KD.out.1.duo KD.out.2.1 (.bool nb7) (.slice so7 n7 cp7)
     have h2 : lamE e (ent e zs) row q = detF n (fun i j => ipE e (ent e ns i) (ent e (zs.take NC) j)) := by
      unfold lamE
      rw [← HN.out]
      refine detF_upto n _ _ (fun i j hi hj => sm_congr e fun k hk => ?_)
      have e1 := HJ.out.2.2 i k hi hk
      have e2 : ent e (zs.take NC) j k = ent e zs j k := by
       have := idx_lt hj hk
       unfold ent
       rw [HNC.out]
       simp [List.getD, this]
      rw [e1, e2]
      by_cases h3 : i = q
      ·rw [if_pos h3, if_pos ⟨h3, hk⟩]
      ·rw [if_neg h3, if_neg (fun h4 => h3 h4.1)]
     rw [h2]
     exact h1.mono (by have := LD_le (L + L + 1 + e) n hn4; omega)
end Go.Proofs.YtfjbijpagaipnabGreatDoor
