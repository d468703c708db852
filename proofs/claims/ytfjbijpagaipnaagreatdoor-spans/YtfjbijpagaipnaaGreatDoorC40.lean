import Derived.Test.YtfjbijpagaipnaaGreatDoorC39
namespace Go.Proofs.YtfjbijpagaipnaaGreatDoor
open Go.RowKit
theorem run_copy_part (w : World) (ty : TypeId) (g n m cap : Nat) (ad : Addr) (cur : Array Value) (cs : List Value) (hg : w.heap[g]? = some (.cells cur 94 (0, 0))) (hc : cur.size = n * 2) (hn : cs.length = n * 2) (hnm : n ≤ m)
 (hsrc : ∀ j v, cs[j]? = some v → w.cell? (ad.add j) = some v) (h1 : ∀ v ∈ cs, v.oneCell' = true) :
 (Builtin.copy_ #[74, 74] ty #[.slice (some ⟨g, 0, none⟩) n n, .slice (some ad) m cap]).run Tryz.prog w = .ok (goInt n) (w.setRow g cs.toArray) := by
 obtain ⟨i, hi, hz0, hz1, hz2⟩ := info_parts Tryz.info94
 have hf := run_firstCells_some (P := Tryz.prog) w 2 n ad m cap cs hn hsrc
 have hst := run_storeCells_at Tryz.prog g 0 94 cs 0 cur w hg (by omega) h1
 simp only [Nat.add_zero, Nat.zero_add, List.take_zero, List.nil_append] at hst
 rw [List.drop_of_length_le (by rw [Array.length_toList]; omega), List.append_nil] at hst
 simp [Builtin.copy_, run_underlying Tryz.underlying74, Builtin.lenOf, sizeOf, typeInfo, hi, hz1, show m.min n = n from Nat.min_eq_right hnm, hf, hst]
theorem copy_part (w : World) {ops : Array Oper} {rest : List Oper} {o : Oper} {a : Act} {Q : Exit → Act → World → Prop} (hgd : o.guard = none) (d s : Operand)
 (ho : o.op = .call { callee := .builtin .copy, args := #[d, s], argTypes := #[74, 74] }) (g n m : Nat) (sv : Value) (ys zs : List Int) (M L : Nat) (hnm : n ≤ m)
 (hd : a.eval d = .slice (some ⟨g, 0, none⟩) n n) (hs : a.eval s = sv) (hgr : Grid w (.slice (some ⟨g, 0, none⟩) n n) n ys M) (hsv : Grid w sv m zs L)
 (hK : ∀ w', Grid w' (.slice (some ⟨g, 0, none⟩) n n) n (zs.take n) L → w.grownBy w' (some g) → wpList Tryz.prog ops Q rest (a.put o.dst (goInt n)) w') : wpList Tryz.prog ops Q (o :: rest) a w := by
 refine wpList_plain hgd fun K hK' => ?_
 have hty := hgr.ty
 obtain ⟨h0, cs0, h1, h2⟩ := hgr
 rcases h1.2 with ⟨h3, _⟩ | ⟨g', cap', cur, hv, hgg, hh, r1, r2, r3, r4⟩
 ·simp at h3
 simp only [Value.slice.injEq, Option.some.injEq, Addr.mk.injEq, and_true, true_and] at hv
 obtain ⟨rfl, rfl⟩ := hv
 obtain ⟨k0, cs, k1, k2⟩ := hsv
 rcases k1.2 with ⟨rfl, hn⟩ | ⟨gs, cap, cur2, rfl, hgs, hh2, q1, q2, q3, q4⟩
 ·subst hn
  obtain rfl : n = 0 := by omega
  have hrun := run_copy_zero w o.type g
  unfold Oper.wp
  simp [execOp, ho, resolve, invoke, builtin, hd, hs, hrun, Result.andThen]
  exact hK' _ _ (hK w ⟨by simp, cs0, h1, fun i hi => by omega⟩ (World.grownBy.refl _ _))
 ·have hl : cs.length = m * 2 := k1.1
  have hone : ∀ v ∈ cs.take (n * 2), v.oneCell' = true := by
   intro v hv
   obtain ⟨j, hj, hjv⟩ := List.getElem_of_mem (List.mem_of_mem_take hv)
   obtain ⟨x, y, e1, e2, e3⟩ := k2 (j / 2) (by omega)
   obtain ⟨nb, ao', m', c', e4⟩ := e3.shape
   simp only [Value.agg.injEq, Array.mk.injEq, List.cons.injEq, and_true] at e4
   have hj' : cs[j]? = some v := by rw [List.getElem?_eq_getElem hj, hjv]
   rcases (show j = 2 * (j / 2) ∨ j = 2 * (j / 2) + 1 from by omega) with hjj | hjj
   ·rw [hjj, e1] at hj'; injection hj' with hj'; rw [← hj', e4.1]; rfl
   ·rw [hjj, e2] at hj'; injection hj' with hj'; rw [← hj', e4.2]; rfl
  have htl : (cs.take (n * 2)).length = n * 2 := by rw [List.length_take]; omega
  have hrun := run_copy_part w o.type g n m cap ⟨gs, 0, none⟩ cur (cs.take (n * 2)) hh r3 htl hnm (fun j v hj => World.ownsRow.cells k1 rfl j v (by
   rw [List.getElem?_take] at hj
   split at hj
   ·exact hj
   ·simp at hj)) hone
  unfold Oper.wp
  simp [execOp, ho, resolve, invoke, builtin, hd, hs, hrun, Result.andThen]
  have hgrow : w.grownBy (w.setRow g (cs.take (n * 2)).toArray) (some g) := ⟨rfl, rfl, rfl, by simp [World.setRow], fun k _ hne => setRow_other w g k _ (fun e => hne (by simp [e]))⟩
  have hku : KU w (w.setRow g (cs.take (n * 2)).toArray) := KU.grown hgrow (fun k hk => by simp at hk; subst hk; exact hty)
  have hG : Grid (w.setRow g (cs.take (n * 2)).toArray) (.slice (some ⟨g, 0, none⟩) n n) n (zs.take n) L := by
   refine ⟨by rw [List.length_take]; omega, cs.take (n * 2), ⟨htl, .inr ⟨g, n, (cs.take (n * 2)).toArray, rfl, Nat.zero_le _, setRow_heap w g _ _ _ _ hh, Nat.le_refl _, r2, by simpa using htl, ?_⟩⟩, fun i hi => ?_⟩
   ·rw [List.take_of_length_le (by simp [htl])]
   ·obtain ⟨x, y, e1, e2, e3⟩ := k2 i (by omega)
    refine ⟨x, y, by rw [List.getElem?_take, if_pos (by omega)]; exact e1, by rw [List.getElem?_take, if_pos (by omega)]; exact e2, ?_⟩
    rw [show (zs.take n).getD i 0 = zs.getD i 0 from by simp [List.getD, hi]]
    exact e3.keep hku
  exact hK' _ _ (hK _ hG hgrow)
set_option maxRecDepth 100000 in
set_option maxHeartbeats 2000000 in
theorem fromCells_part (r c m : Nat) (sv : Value) (zs : List Int) (L : Nat) (w : World) (hr : r ≤ 99) (hc : c ≤ 99) (hnm : r * c ≤ m) (hg : Grid w sv m zs L) :
 Calls Tryz.prog 77 #[.int .i64 r, .int .i64 c, sv] w fun e w' => ∃ g, e = .returned (.agg #[.int .i64 r, .int .i64 c, .slice (some ⟨g, 0, none⟩) (r * c) (r * c)]) ∧ w.heap.size ≤ g ∧ Grid w' (.slice (some ⟨g, 0, none⟩) (r * c) (r * c)) (r * c) (zs.take (r * c)) L ∧ Below w.heap.size w w' := by
 obtain ⟨ao, cap, rfl, -⟩ := hg.shape
 have HG := Hid.mk hg
 have HNM := Hid.mk hnm
 clear hg hnm
 go_enter Tryz.func77, Tryz.ntmps77
 go_wp2_with fail
 refine (noughts_any r c _ hr hc).mono ?_
 rintro e w2 ⟨g, rfl, hgn, hg2, hb2⟩
 obtain ⟨hc2, hf2⟩ := bcell hb2
 have hsz2 : w.heap.size < w2.heap.size := by have := hb2.size; simp at this; omega
 have hgl : g < w2.heap.size := hg2.ty.lt
 have hgn2 : w.heap.size + 1 ≤ g := by simpa using hgn
 have hbw : Below w.heap.size w w2 := by
  refine Below.trans ?_ (hb2.mono (by simp <;> omega))
  repeat (first | exact Below.refl _ _ | refine Below.alloc ?_ (by simp <;> omega) _)
 have hres : w2.heap[w.heap.size]? = some (.cells #[.int .i64 0, .int .i64 0, .slice none 0 0] 76 (0, 0)) := by
  rw [hb2.block _ (by simp)]; exact heap_alloc_new w _
 have H2 := Hid.mk (And.intro hg2 (And.intro hbw hres))
 clear hgn hg2 hb2 hbw hres hc2 hf2
 go_wp2_with (refine copy_part _ rfl (.tmp 12) (.tmp 13) rfl g (r * c) m _ (List.replicate (r * c) 0) zs 0 L HNM.out rfl rfl ?_ ?_ ?_)
 ·exact H2.out.1.below ((Below.refl _ _).alloc (Nat.le_refl _) _)
 ·exact (HG.out.below H2.out.2.1).below ((Below.refl _ _).alloc (Nat.le_refl _) _)
 intro w3 hg3 hgr3
 obtain ⟨W2, hW2⟩ : ∃ W2, W2 = w2.alloc (.cells #[.int .i64 r, .int .i64 c, .slice (some ⟨g, 0, none⟩) (r * c) (r * c)] 76) := ⟨_, rfl⟩
 rw [← hW2] at hgr3
 have p0 : W2.cell? ⟨w2.heap.size, 0, none⟩ = some (.int .i64 r) := by rw [hW2]; simp
 have p1 : W2.cell? ⟨w2.heap.size, 1, none⟩ = some (.int .i64 c) := by rw [hW2]; simp
 have p2 : W2.cell? ⟨w2.heap.size, 2, none⟩ = some (.slice (some ⟨g, 0, none⟩) (r * c) (r * c)) := by rw [hW2]; simp
 have q0 := hgr3.cell p0 (by simp; omega)
 have q1 := hgr3.cell p1 (by simp; omega)
 have q2 := hgr3.cell p2 (by simp; omega)
 have hW2s : W2.heap.size = w2.heap.size + 1 := by rw [hW2]; simp
 have hres3 : w3.heap[w.heap.size]? = some (.cells #[.int .i64 0, .int .i64 0, .slice none 0 0] 76 (0, 0)) := by
  rw [hgr3.block _ (by omega) (by simp; omega), hW2, Below.heap_alloc _ _ _ (by omega)]; exact H2.out.2.2
 have hB3 : Below w.heap.size w w3 := by
  have h1 : Below w.heap.size w W2 := by rw [hW2]; exact H2.out.2.1.alloc (by omega) _
  exact h1.grown hgr3 (by omega) (fun j hj => by simp at hj; omega)
 have r0 : w3.cell? ⟨w.heap.size, 0, none⟩ = some (.int .i64 0) := by simp [World.cell?, hres3]
 have r1 : w3.cell? ⟨w.heap.size, 1, none⟩ = some (.int .i64 0) := by simp [World.cell?, hres3]
 have r2 : w3.cell? ⟨w.heap.size, 2, none⟩ = some (.slice none 0 0) := by simp [World.cell?, hres3]
 have z0 : w3.frozen? ⟨w.heap.size, 0, none⟩ = false := by simp [World.frozen?, hres3]
 have z1 : w3.frozen? ⟨w.heap.size, 1, none⟩ = false := by simp [World.frozen?, hres3]
 have z2 : w3.frozen? ⟨w.heap.size, 2, none⟩ = false := by simp [World.frozen?, hres3]
 have HT : Hid (Ty w3 w.heap.size 76) := Hid.mk ⟨_, _, hres3⟩
 have H3 := Hid.mk (And.intro hg3 hB3)
 clear hg3 hB3 hgr3 hres3 p0 p1 p2 hW2 hW2s H2 HG HNM
 go_wp2_with fail
 refine bodyPost_ret (v := .agg #[.int .i64 r, .int .i64 c, .slice (some ⟨g, 0, none⟩) (r * c) (r * c)]) ?_ rfl ?_
 ·(simp [results, Tryz.results77, go_sem, r0, r1, r2]; done)
 ·refine ⟨g, rfl, by omega, H3.out.1.keep (KT.setCell (KT.setCell (KT.setCell (KT.refl _) HT.out (by decide) (by decide) _) (HT.out.setCell _ _) (by decide) (by decide) _) ((HT.out.setCell _ _).setCell _ _) (by decide) (by decide) _), ?_⟩
  exact ((H3.out.2.setCell (Nat.le_refl _) _).setCell (Nat.le_refl _) _).setCell (Nat.le_refl _) _
open Go.RowKit
theorem take_ent (zs : List Int) {k c i j : Nat} (hi : i < k) (hj : j < c) : ent c (zs.take (k * c)) i j = ent c zs i j := by
 unfold ent
 have := idx_lt hi hj
 simp [List.getD, this]
set_option maxRecDepth 100000 in
set_option maxHeartbeats 2000000 in
theorem basis_any (v : Value) (r c k : Nat) (hs us ws : List Int) (L : Nat) (w : World) (hf : IsF w v r c k hs us ws L) (hk : k ≤ r) :
 Calls Tryz.prog 52 #[v] w fun e w' => ∃ x ms, e = .returned x ∧ IsM w' x k c ms L ∧ (∀ i j, i < k → j < c → ent c ms i j = ent c hs i j) ∧ Below w.heap.size w w' := by
 obtain ⟨sH, sU, sW, rfl, mH, mU, mW⟩ := hf
 obtain ⟨oH, cH, rfl⟩ := mH.slice
 obtain ⟨oU, cU, rfl⟩ := mU.slice
 obtain ⟨oW, cW, rfl⟩ := mW.slice
 have hr := mH.1
 have hc := mH.2.1
 have HM := Hid.mk mH
 have HNM := Hid.mk (Nat.mul_le_mul_right c hk)
 clear mH mU mW
 obtain ⟨N, hN⟩ : ∃ N, N = r * c := ⟨_, rfl⟩
 obtain ⟨M, hM⟩ : ∃ M, M = r * r := ⟨_, rfl⟩
 rw [← hN] at HM HNM ⊢
 rw [← hM]
 have HN := Hid.mk hN
 clear hN hM
 go_enter Tryz.func52, Tryz.ntmps52
 go_wp2_with fail
 obtain ⟨W0, hW0⟩ : ∃ W0, W0 = (w.alloc (.cells #[.int .i64 r, .int .i64 c, .slice oH N cH, .int .i64 r, .int .i64 r, .slice oU M cU, .int .i64 r, .int .i64 r, .slice oW M cW, .int .i64 k] 82)).alloc (.cells #[.int .i64 0, .int .i64 0, .slice none 0 0] 76) := ⟨_, rfl⟩
 have hs0 : W0.heap.size = w.heap.size + 2 := by rw [hW0]; simp
 have hb0 : Below w.heap.size w W0 := by rw [hW0]; repeat (first | exact Below.refl _ _ | refine Below.alloc ?_ (by simp <;> omega) _)
 have hR0 : W0.heap[w.heap.size + 1]? = some (.cells #[.int .i64 0, .int .i64 0, .slice none 0 0] 76 (0, 0)) := by
  rw [hW0]
  have := heap_alloc_new (w.alloc (.cells #[.int .i64 r, .int .i64 c, .slice oH N cH, .int .i64 r, .int .i64 r, .slice oU M cU, .int .i64 r, .int .i64 r, .slice oW M cW, .int .i64 k] 82)) (.cells #[.int .i64 0, .int .i64 0, .slice none 0 0] 76)
  simpa using this
 have K0 := Hid.mk (And.intro hb0 hR0)
 rw [← hW0]
 clear hb0 hR0 hW0
 have hGr : Grid W0 (.slice oH N cH) N hs L := by
  obtain ⟨_, _, sl, e, hg⟩ := HM.out
  simp only [Value.agg.injEq, Array.mk.injEq, List.cons.injEq, and_true, true_and] at e
  rw [e, HN.out]
  exact hg.below K0.out.1
 refine (fromCells_part k c N _ hs L _ (by omega) hc HNM.out hGr).mono ?_
 rintro e w1 ⟨g, rfl, hg1, hG1, hb1⟩
 have hw1 : W0.heap.size ≤ w1.heap.size := hb1.size
 have hR : w1.heap[w.heap.size + 1]? = some (.cells #[.int .i64 0, .int .i64 0, .slice none 0 0] 76 (0, 0)) := (hb1.block _ (by omega)).trans K0.out.2
 have r0 : w1.cell? ⟨w.heap.size + 1, 0, none⟩ = some (.int .i64 0) := by simp [World.cell?, hR]
 have r1 : w1.cell? ⟨w.heap.size + 1, 1, none⟩ = some (.int .i64 0) := by simp [World.cell?, hR]
 have r2 : w1.cell? ⟨w.heap.size + 1, 2, none⟩ = some (.slice none 0 0) := by simp [World.cell?, hR]
 have f0 : ∀ o, w1.frozen? ⟨w.heap.size + 1, o, none⟩ = false := fun o => by simp [World.frozen?, hR]
 have HT : Hid (Ty w1 (w.heap.size + 1) 76) := Hid.mk ⟨_, _, hR⟩
 have K1 := Hid.mk (And.intro hG1 (K0.out.1.trans (hb1.mono (by omega))))
 clear hR hG1 hb1 hGr
 go_wp2_with fail
 refine bodyPost_ret (v := .agg #[.int .i64 k, .int .i64 c, .slice (some ⟨g, 0, none⟩) (k * c) (k * c)]) ?_ rfl ?_
 ·(simp [results, Tryz.results52, go_sem, r0, r1, r2]; done)
 ·have h3 := set3 w1 (w.heap.size + 1) HT.out (by decide) (.int .i64 k) (.int .i64 c) (.slice (some ⟨g, 0, none⟩) (k * c) (k * c))
  exact ⟨_, _, rfl, ⟨by omega, hc, _, rfl, K1.out.1.besides h3.2 h3.1 (by omega)⟩, fun i j hi hj => take_ent hs hi hj, K1.out.2.trans (below_of_grown h3.2 (by omega) K1.out.2.size)⟩
theorem Grid.at2 {w : World} {ao : Option Addr} {n cap L : Nat} {zs : List Int} (h : Grid w (.slice ao n cap) n zs L) (k : Nat) (hk : k < n) : ∃ g nb bo m ecap, ao = some ⟨g, 0, none⟩ ∧ w.cell? ⟨g, k * 2, none⟩ = some (.bool nb) ∧ w.cell? ⟨g, k * 2 + 1, none⟩ = some (.slice bo m ecap) ∧ IsI w (.agg #[.bool nb, .slice bo m ecap]) (zs.getD k 0) L := by
 obtain ⟨ao', cap', e, -, -, hao⟩ := h.shape
 obtain ⟨g, hg⟩ := hao k hk
 simp only [Value.slice.injEq] at e
 obtain ⟨rfl, -, rfl⟩ := e
 subst hg
 obtain ⟨nb, bo, m, ecap, c1, c2, hI⟩ := h.cell k hk
 rw [Nat.mul_comm 2] at c1 c2
 exact ⟨g, nb, bo, m, ecap, rfl, c1, c2, hI⟩
set_option maxRecDepth 100000 in
set_option maxHeartbeats 2000000 in
theorem matIs_any (v u : Value) (r c q d : Nat) (zs ys : List Int) (L : Nat) (w : World) (hm : IsM w v r c zs L) (hn : IsM w u q d ys L) :
 Calls Tryz.prog 53 #[v, u] w fun e w' => e = .returned (.bool (decide (r = q ∧ c = d ∧ zs = ys))) ∧ Below w.heap.size w w' := by
 obtain ⟨hr, hc, sl, rfl, hg0⟩ := hm
 obtain ⟨hq, hd, tl, rfl, hg1⟩ := hn
 obtain ⟨ao, cap, rfl, hcap, hcm, -⟩ := hg0.shape
 obtain ⟨bo, dap, rfl, hdap, hdm, -⟩ := hg1.shape
 obtain ⟨D, hD⟩ : ∃ D, D = decide (r = q ∧ c = d ∧ zs = ys) := ⟨_, rfl⟩
 rw [← hD]
 have HD := Hid.mk hD
 have HG := Hid.mk (And.intro hg0 hg1)
 clear hD hg0 hg1
 obtain ⟨N, hN⟩ : ∃ N, N = r * c := ⟨_, rfl⟩
 obtain ⟨M, hM⟩ : ∃ M, M = q * d := ⟨_, rfl⟩
 rw [← hN] at HG hcap ⊢
 rw [← hM] at HG hdap ⊢
 have HN := Hid.mk (And.intro hN hM)
 clear hN hM
 by_cases hrq : r = q
 ·by_cases hcd : c = d
  ·subst hrq
   subst hcd
   have hNM : M = N := by rw [HN.out.1, HN.out.2]
   subst hNM
   go_enter Tryz.func53, Tryz.ntmps53
   go_wp2_with fail
   obtain ⟨W0, hW0⟩ : ∃ W0, W0 = (w.alloc (.cells #[.int .i64 r, .int .i64 c, .slice ao M cap] 76)).alloc (.cells #[.int .i64 r, .int .i64 c, .slice bo M dap] 76) := ⟨_, rfl⟩
   have hs0 : W0.heap.size = w.heap.size + 2 := by rw [hW0]; simp
   have hb0 : Below w.heap.size w W0 := by rw [hW0]; repeat (first | exact Below.refl _ _ | refine Below.alloc ?_ (by simp <;> omega) _)
   have hm0 : Trio W0 w.heap.size (.int .i64 r) (.int .i64 c) (.slice ao M cap) := by
    rw [hW0]
    exact Trio.later (w := w.alloc (.cells #[.int .i64 r, .int .i64 c, .slice ao M cap] 76)) ⟨new_cell _ _ _ _ _ rfl rfl, new_cell _ _ _ _ _ rfl rfl, new_cell _ _ _ _ _ rfl rfl⟩ ((Below.refl _ _).alloc (Nat.le_refl _) _)
   have hn0 : Trio W0 (w.heap.size + 1) (.int .i64 r) (.int .i64 c) (.slice bo M dap) := by
    rw [hW0]
    exact ⟨new_cell _ _ _ _ _ (by simp) rfl, new_cell _ _ _ _ _ (by simp) rfl, new_cell _ _ _ _ _ (by simp) rfl⟩
   have K0 := Hid.mk (And.intro hb0 (And.intro hm0 (And.intro hn0 (And.intro (HG.out.1.below hb0) (HG.out.2.below hb0)))))
   rw [← hW0]
   clear hb0 hm0 hn0 hW0
   go_loopw [5] (fun i wr => ∃ k : Nat, k ≤ M ∧ i = .int .i64 k ∧ Hid (Below W0.heap.size W0 wr ∧ ∀ j, j < k → zs.getD j 0 = ys.getD j 0)) (fun i _ => M - (intOf i).toNat)
   case atStart => exact ⟨0, Nat.zero_le _, rfl, Hid.mk ⟨Below.refl _ _, fun j h => by omega⟩⟩
   case round =>
    obtain ⟨k, hk, rfl, HI⟩ := hrel
    obtain ⟨-, -, q2⟩ := K0.out.2.1.later HI.out.1
    obtain ⟨-, -, p2⟩ := K0.out.2.2.1.later HI.out.1
    have hwr := HI.out.1.size
    by_cases hkM : k < M
    ·have hki : (k : Int) < (M : Int) := by omega
     obtain ⟨g1, nb1, so1, n1, cp1, rfl, c1, c2, hI1⟩ := (K0.out.2.2.2.1.below HI.out.1).at2 k hkM
     obtain ⟨g2, nb2, so2, n2, cp2, rfl, d1, d2, hI2⟩ := (K0.out.2.2.2.2.below HI.out.1).at2 k hkM
     have HC := Hid.mk (And.intro q2 (And.intro p2 (And.intro c1 (And.intro c2 (And.intro d1 d2)))))
     have KI := Hid.mk (And.intro hI1 hI2)
     obtain ⟨E, hE⟩ : ∃ E, E = decide (zs.getD k 0 = ys.getD k 0) := ⟨_, rfl⟩
     have HE := Hid.mk hE
     clear hI1 hI2 c1 c2 d1 d2 hE
     go_wp2_with fail
     go_region_held3 (fun w' => w'.cell? ⟨w.heap.size, 2, none⟩ = some (.slice (some ⟨g1, 0, none⟩) M cap) ∧ w'.cell? ⟨w.heap.size + 1, 2, none⟩ = some (.slice (some ⟨g2, 0, none⟩) M dap) ∧ w'.cell? ⟨g1, k * 2, none⟩ = some (.bool nb1) ∧ w'.cell? ⟨g1, k * 2 + 1, none⟩ = some (.slice so1 n1 cp1) ∧ w'.cell? ⟨g2, k * 2, none⟩ = some (.bool nb2) ∧ w'.cell? ⟨g2, k * 2 + 1, none⟩ = some (.slice so2 n2 cp2))
      (first | exact HC.out | exact ⟨cell_later hbW HC.out.1, cell_later hbW HC.out.2.1, cell_later hbW HC.out.2.2.1, cell_later hbW HC.out.2.2.2.1, cell_later hbW HC.out.2.2.2.2.1, cell_later hbW HC.out.2.2.2.2.2⟩)
      (first | (go_at_call 88; refine (isSame_any _ _ (zs.getD k 0) (ys.getD k 0) L L _ (KI.out.1.below ((Below.refl _ _).drew)) (KI.out.2.below ((Below.refl _ _).drew))).mono ?_; rintro e9 w2 ⟨rfl, hb2⟩; rw [← HE.out]; have hbW : Below wr.heap.size wr w2 := ((Below.refl _ _).drew).trans hb2; clear hb2))
     have K2 := Hid.mk (HI.out.1.trans (hbW.mono (by omega)))
     clear hbW
     cases hEE : E
     case true =>
      have HQ := Hid.mk (of_decide_eq_true (HE.out.symm.trans hEE))
      clear hEE HE
      go_wp2_with fail
      go_roundw
      case measure => simp [intOf]; omega
      case rel =>
       refine ⟨k + 1, by omega, by go_num, Hid.mk ⟨K2.out, fun j hj => ?_⟩⟩
       by_cases e : j = k
       ·rw [e]; exact HQ.out
       ·exact HI.out.2 j (by omega)
     case false =>
      have HQ := Hid.mk (of_decide_eq_false (HE.out.symm.trans hEE))
      clear hEE HE
      go_wp2_with fail
      go_ret
      refine ⟨?_, K0.out.1.trans (K2.out.mono (by omega))⟩
      have : D = false := by
       rw [HD.out]
       exact decide_eq_false fun e => HQ.out (by rw [e.2.2])
      rw [this]; rfl
    ·have hki : ¬ (k : Int) < (M : Int) := by omega
     go_wp2_with fail
     first | go_quiet (fail) | skip
     all_goals
      go_wp2_with fail
      go_ret
      refine ⟨?_, ?_⟩
      ·have : D = true := by
        rw [HD.out]
        refine decide_eq_true ?_
        have hzy : zs = ys := ?_
        ·first | exact ⟨rfl, rfl, hzy⟩ | exact ⟨trivial, trivial, hzy⟩ | exact hzy
        have l1 := K0.out.2.2.2.1.1
        have l2 := K0.out.2.2.2.2.1
        refine List.ext_getElem (by omega) (fun j h1 h2 => ?_)
        have := HI.out.2 j (by omega)
        simpa [List.getD, h1, h2] using this
       rw [this]; rfl
      ·first
        | exact K0.out.1.trans (HI.out.1.mono (by omega))
        | exact below_drewN (K0.out.1.trans (HI.out.1.mono (by omega))) _
  ·have hF : D = false := by rw [HD.out]; exact decide_eq_false fun e => hcd e.2.1
   subst hrq
   rw [hF]
   have hcd2 : ((c : Int) != (d : Int)) = true := by simp; omega
   go_enter Tryz.func53, Tryz.ntmps53
   go_wp2_with fail
   go_ret
   refine ⟨rfl, ?_⟩
   repeat (first | exact Below.refl _ _ | refine Below.drew ?_ | refine Below.alloc ?_ (by simp <;> omega) _)
 ·have hF : D = false := by rw [HD.out]; exact decide_eq_false fun e => hrq e.1
  rw [hF]
  have hcd2 : ((r : Int) != (q : Int)) = true := by simp; omega
  go_enter Tryz.func53, Tryz.ntmps53
  go_wp2_with fail
  go_ret
  refine ⟨rfl, ?_⟩
  repeat (first | exact Below.refl _ _ | refine Below.drew ?_ | refine Below.alloc ?_ (by simp <;> omega) _)
open Go.RowKit
theorem GridB.nilLit (B : Nat) (w : World) (L : Nat) (hB : B ≤ w.heap.size) : GridB B (w.alloc (.cells #[] 94)) (.slice (some ⟨w.heap.size, 0, none⟩) 0 0) 0 [] L := by
 have := World.ownsRow_lit (base := B) (e := 94) (size := 2) w #[] 0 hB (by simp [maxLen]) rfl
 exact ⟨rfl, _, by simpa using this, fun i hi => by omega⟩
set_option maxRecDepth 100000 in
set_option maxHeartbeats 4000000 in
theorem over_new (v u : Value) (r q c : Nat) (zs ys : List Int) (L : Nat) (w : World) (hm : IsM w v r c zs L) (hn : IsM w u q c ys L) (hrq : r + q ≤ 99) :
 Calls Tryz.prog 54 #[v, u] w fun e w' => ∃ g, e = .returned (.agg #[.int .i64 ((r + q : Nat) : Int), .int .i64 c, .slice (some ⟨g, 0, none⟩) ((r + q) * c) ((r + q) * c)]) ∧ w.heap.size ≤ g ∧ Grid w' (.slice (some ⟨g, 0, none⟩) ((r + q) * c) ((r + q) * c)) ((r + q) * c) (zs ++ ys) L ∧ Below w.heap.size w w' := by
 obtain ⟨hr, hc, sl, rfl, hg0⟩ := hm
 obtain ⟨hq, -, tl, rfl, hg1⟩ := hn
 obtain ⟨ao, cap, rfl, hcap, hcm, -⟩ := hg0.shape
 obtain ⟨bo, dap, rfl, hdap, hdm, -⟩ := hg1.shape
 have HG := Hid.mk (And.intro hg0 hg1)
 clear hg0 hg1
 obtain ⟨N, hN⟩ : ∃ N, N = r * c := ⟨_, rfl⟩
 obtain ⟨M, hM⟩ : ∃ M, M = q * c := ⟨_, rfl⟩
 have hN2 : N ≤ 9801 := by rw [hN]; exact Nat.mul_le_mul hr hc
 have hM2 : M ≤ 9801 := by rw [hM]; exact Nat.mul_le_mul hq hc
 have hNM : N + M ≤ 9801 := by rw [hN, hM, ← Nat.add_mul]; exact Nat.mul_le_mul hrq hc
 rw [← hN] at HG hcap ⊢
 rw [← hM] at HG hdap ⊢
 have HN := Hid.mk (And.intro hN hM)
 clear hN hM
 go_enter Tryz.func54, Tryz.ntmps54
 go_wp2_with fail
 obtain ⟨W0, hW0⟩ : ∃ W0, W0 = ((w.alloc (.cells #[.int .i64 r, .int .i64 c, .slice ao N cap] 76)).alloc (.cells #[.int .i64 q, .int .i64 c, .slice bo M dap] 76)).alloc (.cells #[.int .i64 0, .int .i64 0, .slice none 0 0] 76) := ⟨_, rfl⟩
 have hs0 : W0.heap.size = w.heap.size + 3 := by rw [hW0]; simp
 have hb0 : Below w.heap.size w W0 := by rw [hW0]; repeat (first | exact Below.refl _ _ | refine Below.alloc ?_ (by simp <;> omega) _)
 have hm0 : Trio W0 w.heap.size (.int .i64 r) (.int .i64 c) (.slice ao N cap) := by
  rw [hW0]
  exact ⟨cell1 (cell1 (new_cell _ _ _ _ _ (by simp) rfl) _) _, cell1 (cell1 (new_cell _ _ _ _ _ (by simp) rfl) _) _, cell1 (cell1 (new_cell _ _ _ _ _ (by simp) rfl) _) _⟩
 have hn0 : Trio W0 (w.heap.size + 1) (.int .i64 q) (.int .i64 c) (.slice bo M dap) := by
  rw [hW0]
  exact ⟨cell1 (new_cell _ _ _ _ _ (by simp) rfl) _, cell1 (new_cell _ _ _ _ _ (by simp) rfl) _, cell1 (new_cell _ _ _ _ _ (by simp) rfl) _⟩
 have hR0 : W0.heap[w.heap.size + 2]? = some (.cells #[.int .i64 0, .int .i64 0, .slice none 0 0] 76 (0, 0)) := by
  rw [hW0]
  have := heap_alloc_new ((w.alloc (.cells #[.int .i64 r, .int .i64 c, .slice ao N cap] 76)).alloc (.cells #[.int .i64 q, .int .i64 c, .slice bo M dap] 76)) (.cells #[.int .i64 0, .int .i64 0, .slice none 0 0] 76)
  simpa using this
 have hlit := GridB.nilLit W0.heap.size W0 L (Nat.le_refl _)
 have hbl := (Below.refl W0.heap.size W0).alloc (Nat.le_refl _) (.cells #[] 94)
 have K0 := Hid.mk (And.intro hb0 (And.intro hm0 (And.intro hn0 (And.intro hR0 (And.intro (HG.out.1.below hb0) (And.intro (HG.out.2.below hb0) (And.intro hlit hbl)))))))
 rw [← hW0]
 have hsz : w.heap.size + 1 + 1 + 1 = W0.heap.size := by omega
 rw [hsz]
 have hs1 : w.heap.size + 3 ≤ W0.heap.size := by omega
 have hs2 : W0.heap.size ≤ w.heap.size + 3 := by omega
 clear hb0 hm0 hn0 hR0 hW0 hlit hbl hsz hs0
 go_loopw [5, 6] (fun cv i wr => ∃ k : Nat, k ≤ N ∧ i = .int .i64 k ∧ Hid (∃ co cc, cv = .slice co k cc ∧ GridB W0.heap.size wr (.slice co k cc) k (zs.take k) L ∧ Below W0.heap.size W0 wr)) (fun _ i _ => N - (intOf i).toNat)
 case atStart => exact ⟨0, Nat.zero_le _, rfl, Hid.mk ⟨_, _, rfl, by simpa using K0.out.2.2.2.2.2.2.1, K0.out.2.2.2.2.2.2.2⟩⟩
 case round =>
  obtain ⟨k, hk, rfl, HI0⟩ := hrel
  obtain ⟨co, cc, rfl, hGB, hBB⟩ := HI0.out
  have HI := Hid.mk (And.intro hGB hBB)
  clear hGB hBB HI0
  obtain ⟨-, -, q2⟩ := K0.out.2.1.later HI.out.2
  have hwr := HI.out.2.size
  by_cases hkN : k < N
  ·have hki : (k : Int) < (N : Int) := by omega
   obtain ⟨g1, nb1, so1, n1, cp1, rfl, c1, c2, hI1⟩ := (K0.out.2.2.2.2.1.below HI.out.2).at2 k hkN
   have hzl : zs.length = N := K0.out.2.2.2.2.1.1
   have hba := (Below.refl wr.heap.size wr).alloc (Nat.le_refl _) (.cells #[.bool nb1, .slice so1 n1 cp1] 94)
   have KI := Hid.mk (And.intro (hI1.below hba) (And.intro hba hzl))
   clear hI1 hba hzl
   go_wp2_with (at_builtin; refine append_int _ rfl (.tmp 16) (.tmp 22) rfl W0.heap.size _ k (zs.take k) L rfl ?_ ⟨_, 0, none⟩ rfl (.bool nb1) (.slice so1 n1 cp1) (zs.getD k 0) ?_ ?_ rfl rfl ?_ (by omega) ?_ ?_)
   ·exact HI.out.1.keep (KT.of_below KI.out.2.1)
   ·simp [Addr.add]
   ·simp [Addr.add]
   ·exact KI.out.1
   ·simp; omega
   intro v' w' hgb hgr
   have hlt := HI.out.1.lt
   obtain ⟨co', cc', hv', -⟩ := hgb.grid.shape
   subst hv'
   have hbw' : Below W0.heap.size W0 w' := (HI.out.2.trans (KI.out.2.1.mono hwr)).grown hgr (by simp; omega) (fun j hj => (hlt j hj).1)
   have K2 := Hid.mk (And.intro hgb hbw')
   clear hgb hgr hlt hbw'
   go_wp2_with fail
   go_roundw
   case measure => simp [intOf]; omega
   case rel =>
    refine ⟨k + 1, by omega, by go_num, Hid.mk ⟨co', cc', rfl, ?_, K2.out.2⟩⟩
    have e : zs.take (k + 1) = zs.take k ++ [zs.getD k 0] := by
     rw [List.take_succ_eq_append_getElem (by have := KI.out.2.2; omega)]
     simp [List.getD, show k < zs.length from by have := KI.out.2.2; omega]
    rw [e]
    exact K2.out.1
  ·have hki : ¬ (k : Int) < (N : Int) := by omega
   have hkk : k = N := by omega
   have HKK := Hid.mk hkk
   clear hkk
   go_wp2_with fail
   have HI1 : Hid (GridB W0.heap.size wr (.slice co N cc) N zs L ∧ Below W0.heap.size W0 wr ∧ k = N) := Hid.mk (by
    have h := HI.out
    have e := HKK.out
    have hzl : zs.length = N := K0.out.2.2.2.2.1.1
    rw [e, List.take_of_length_le (by omega)] at h
    exact ⟨h.1, h.2, e⟩)
   rw [HI1.out.2.2]
   clear q2
   rename World => w1
   go_loopw [5, 7] (fun cv i wr => ∃ k : Nat, k ≤ M ∧ i = .int .i64 k ∧ Hid (∃ co cc, cv = .slice co (N + k) cc ∧ GridB W0.heap.size wr (.slice co (N + k) cc) (N + k) (zs ++ ys.take k) L ∧ Below W0.heap.size W0 wr)) (fun _ i _ => M - (intOf i).toNat)
   case atStart => exact ⟨0, Nat.zero_le _, rfl, Hid.mk ⟨co, cc, rfl, by simpa using HI1.out.1, HI1.out.2.1⟩⟩
   case round =>
    rename World => wr
    obtain ⟨l, hl, rfl, HJ0⟩ := hrel
    obtain ⟨do_, dc, rfl, hGB, hBB⟩ := HJ0.out
    have HJ := Hid.mk (And.intro hGB hBB)
    clear hGB hBB HJ0
    obtain ⟨-, -, q2⟩ := K0.out.2.2.1.later HJ.out.2
    have hwr2 := HJ.out.2.size
    by_cases hlM : l < M
    ·have hli : (l : Int) < (M : Int) := by omega
     obtain ⟨g2, nb2, so2, n2, cp2, rfl, c1, c2, hI2⟩ := (K0.out.2.2.2.2.2.1.below HJ.out.2).at2 l hlM
     have hyl : ys.length = M := K0.out.2.2.2.2.2.1.1
     have hba := (Below.refl wr.heap.size wr).alloc (Nat.le_refl _) (.cells #[.bool nb2, .slice so2 n2 cp2] 94)
     have KJ := Hid.mk (And.intro (hI2.below hba) (And.intro hba hyl))
     clear hI2 hba hyl
     go_wp2_with (at_builtin; refine append_int _ rfl (.tmp 31) (.tmp 37) rfl W0.heap.size _ (N + l) (zs ++ ys.take l) L rfl ?_ ⟨_, 0, none⟩ rfl (.bool nb2) (.slice so2 n2 cp2) (ys.getD l 0) ?_ ?_ rfl rfl ?_ (by omega) ?_ ?_)
     ·exact HJ.out.1.keep (KT.of_below KJ.out.2.1)
     ·simp [Addr.add]
     ·simp [Addr.add]
     ·exact KJ.out.1
     ·simp; omega
     intro v' w' hgb hgr
     have hlt := HJ.out.1.lt
     obtain ⟨co', cc', hv', -⟩ := hgb.grid.shape
     subst hv'
     have hbw' : Below W0.heap.size W0 w' := (HJ.out.2.trans (KJ.out.2.1.mono hwr2)).grown hgr (by simp; omega) (fun j hj => (hlt j hj).1)
     have K2 := Hid.mk (And.intro hgb hbw')
     clear hgb hgr hlt hbw'
     go_wp2_with fail
     go_roundw
     case measure => simp [intOf]; omega
     case rel =>
      refine ⟨l + 1, by omega, by go_num, Hid.mk ⟨co', cc', rfl, ?_, K2.out.2⟩⟩
      have e : zs ++ ys.take (l + 1) = zs ++ (ys.take l ++ [ys[l]?.getD 0]) := by
       rw [List.take_succ_eq_append_getElem (by have := KJ.out.2.2; omega)]
       simp [show l < ys.length from by have := KJ.out.2.2; omega]
      rw [e, ← Nat.add_assoc]
      exact K2.out.1
    ·have hli : ¬ (l : Int) < (M : Int) := by omega
     have HLL : Hid (l = M) := Hid.mk (by omega)
     obtain ⟨p0, p1, -⟩ := K0.out.2.1.later HJ.out.2
     obtain ⟨p3, p4, -⟩ := K0.out.2.2.1.later HJ.out.2
     go_wp2_with fail
     have hGr : Grid wr (.slice do_ (N + l) dc) ((r + q) * c) (zs ++ ys) L ∧ ((r : Int) + (q : Int)) = ((r + q : Nat) : Int) := by
      have h := HJ.out.1.grid
      have e := HLL.out
      have hyl : ys.length = M := K0.out.2.2.2.2.2.1.1
      rw [e, List.take_of_length_le (by omega)] at h
      rw [e, show (r + q) * c = N + M from by rw [HN.out.1, HN.out.2, Nat.add_mul]]
      exact ⟨h, by omega⟩
     rw [hGr.2]
     refine (fromCells_new (r + q) c _ (zs ++ ys) L _ hrq hc hGr.1).mono ?_
     rintro e9 w5 ⟨g5, rfl, hg5, hG5, hb5⟩
     have hR : w5.heap[w.heap.size + 2]? = some (.cells #[.int .i64 0, .int .i64 0, .slice none 0 0] 76 (0, 0)) := ((hb5.block _ (by omega)).trans (HJ.out.2.block _ (by omega))).trans K0.out.2.2.2.1
     have r0 : w5.cell? ⟨w.heap.size + 1 + 1, 0, none⟩ = some (.int .i64 0) := by simp [World.cell?, hR]
     have r1 : w5.cell? ⟨w.heap.size + 1 + 1, 1, none⟩ = some (.int .i64 0) := by simp [World.cell?, hR]
     have r2 : w5.cell? ⟨w.heap.size + 1 + 1, 2, none⟩ = some (.slice none 0 0) := by simp [World.cell?, hR]
     have f0 : ∀ o, w5.frozen? ⟨w.heap.size + 1 + 1, o, none⟩ = false := fun o => by simp [World.frozen?, hR]
     have HT : Hid (Ty w5 (w.heap.size + 1 + 1) 76) := Hid.mk ⟨_, _, hR⟩
     have hbw := (K0.out.1.trans (HJ.out.2.mono (by omega))).trans (hb5.mono (by omega))
     have hg5' : w.heap.size + 1 + 1 < g5 := by omega
     have K5 := Hid.mk (And.intro hG5 hbw)
     clear hG5 hR hbw hb5 hGr
     obtain ⟨RC, hRC⟩ : ∃ RC, RC = (r + q) * c := ⟨_, rfl⟩
     rw [← hRC] at K5 ⊢
     have HRC := Hid.mk hRC
     clear hRC
     go_wp2_with fail
     refine bodyPost_ret (v := .agg #[.int .i64 ((r : Int) + (q : Int)), .int .i64 c, .slice (some ⟨g5, 0, none⟩) RC RC]) ?_ rfl ?_
     ·(simp [results, Tryz.results54, go_sem, r0, r1, r2]; done)
     ·have k3 : ∀ v0 v1 v2 : Value, KT w5 (((w5.setCell ⟨w.heap.size + 1 + 1, 0, none⟩ v0).setCell ⟨w.heap.size + 1 + 1, 1, none⟩ v1).setCell ⟨w.heap.size + 1 + 1, 2, none⟩ v2) := fun v0 v1 v2 => KT.setCell (KT.setCell (KT.setCell (KT.refl _) HT.out (by decide) (by decide) v0) (HT.out.setCell ⟨w.heap.size + 1 + 1, 0, none⟩ v0) (by decide) (by decide) v1) ((HT.out.setCell ⟨w.heap.size + 1 + 1, 0, none⟩ v0).setCell ⟨w.heap.size + 1 + 1, 1, none⟩ v1) (by decide) (by decide) v2
      have hr2 : ((r : Int) + (q : Int)) = ((r + q : Nat) : Int) := by omega
      rw [hr2]
      have eRC := HRC.out
      subst eRC
      refine ⟨g5, rfl, by omega, K5.out.1.keep (k3 _ _ _), ((K5.out.2.setCell (by simp; omega) _).setCell (by simp; omega) _).setCell (by simp; omega) _⟩
end Go.Proofs.YtfjbijpagaipnaaGreatDoor
