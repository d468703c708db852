/- grid.FromCells. -/
import Derived.Test.YtjhcbenldfplcaaDoorAppI
import Derived.Laws.CopyOwn
namespace Go.Proofs.YtjhcbenldfplcaaDoor
open Go.RowKit

theorem run_copy_two (w : World) (ty : TypeId) (g n cap : Nat) (ad : Addr) (cur : Array Value) (cs : List Value) (hg : w.heap[g]? = some (.cells cur 66 (0, 0))) (hc : cur.size = n * 2) (hn : cs.length = n * 2)
    (hsrc : ∀ j v, cs[j]? = some v → w.cell? (ad.add j) = some v) (h1 : ∀ v ∈ cs, v.oneCell' = true) :
    (Builtin.copy_ #[50, 50] ty #[.slice (some ⟨g, 0, none⟩) n n, .slice (some ad) n cap]).run Tryd.prog w = .ok (goInt n) (w.setRow g cs.toArray) := by
  obtain ⟨i, hi, hz0, hz1, hz2⟩ := info_parts Tryd.info66
  have hf := run_firstCells_some (P := Tryd.prog) w 2 n ad n cap cs hn hsrc
  have hst := run_storeCells_at Tryd.prog g 0 66 cs 0 cur w hg (by omega) h1
  simp only [Nat.add_zero, Nat.zero_add, List.take_zero, List.nil_append] at hst
  rw [List.drop_of_length_le (by rw [Array.length_toList]; omega), List.append_nil] at hst
  simp [Builtin.copy_, run_underlying Tryd.underlying50, Builtin.lenOf, sizeOf, typeInfo, hi, hz1, hf, hst]
theorem run_copy_zero (w : World) (ty : TypeId) (g : Nat) :
    (Builtin.copy_ #[50, 50] ty #[.slice (some ⟨g, 0, none⟩) 0 0, .slice none 0 0]).run Tryd.prog w = .ok (goInt 0) w := by
  obtain ⟨i, hi, hz0, hz1, hz2⟩ := info_parts Tryd.info66
  simp [Builtin.copy_, run_underlying Tryd.underlying50, Builtin.lenOf, sizeOf, typeInfo, hi, Builtin.firstCells, storeCells]
/-- 'copy(m.cells, cells)'. -/
theorem copy_ints (w : World) {ops : Array Oper} {rest : List Oper} {o : Oper} {a : Act} {Q : Exit → Act → World → Prop} (hgd : o.guard = none) (d s : Operand)
    (ho : o.op = .call { callee := .builtin .copy, args := #[d, s], argTypes := #[50, 50] }) (g n : Nat) (sv : Value) (ys zs : List Int) (M L : Nat)
    (hd : a.eval d = .slice (some ⟨g, 0, none⟩) n n) (hs : a.eval s = sv) (hgr : Grid w (.slice (some ⟨g, 0, none⟩) n n) n ys M) (hsv : Grid w sv n zs L)
    (hK : ∀ w', Grid w' (.slice (some ⟨g, 0, none⟩) n n) n zs L → w.grownBy w' (some g) → wpList Tryd.prog ops Q rest (a.put o.dst (goInt n)) w') : wpList Tryd.prog ops Q (o :: rest) a w := by
  refine wpList_plain hgd fun K hK' => ?_
  have hty := hgr.ty
  obtain ⟨h0, cs0, h1, h2⟩ := hgr
  rcases h1.2 with ⟨h3, _⟩ | ⟨g', cap', cur, hv, hgg, hh, r1, r2, r3, r4⟩
  · simp at h3
  simp only [Value.slice.injEq, Option.some.injEq, Addr.mk.injEq, and_true, true_and] at hv
  obtain ⟨rfl, rfl⟩ := hv
  obtain ⟨k0, cs, k1, k2⟩ := hsv
  rcases k1.2 with ⟨rfl, hn⟩ | ⟨gs, cap, cur2, rfl, hgs, hh2, q1, q2, q3, q4⟩
  · subst hn
    have hrun := run_copy_zero w o.type g
    unfold Oper.wp
    simp [execOp, ho, resolve, invoke, builtin, hd, hs, hrun, Result.andThen]
    exact hK' _ _ (hK w ⟨k0, cs0, h1, fun i hi => by omega⟩ (World.grownBy.refl _ _))
  · have hone : ∀ v ∈ cs, v.oneCell' = true := by
      intro v hv
      obtain ⟨j, hj, hjv⟩ := List.getElem_of_mem hv
      have hl : cs.length = n * 2 := k1.1
      obtain ⟨x, y, e1, e2, e3⟩ := k2 (j / 2) (by omega)
      obtain ⟨nb, ao', m', c', e4⟩ := e3.shape
      simp only [Value.agg.injEq, Array.mk.injEq, List.cons.injEq, and_true] at e4
      have hj' : cs[j]? = some v := by rw [List.getElem?_eq_getElem hj, hjv]
      rcases (show j = 2 * (j / 2) ∨ j = 2 * (j / 2) + 1 from by omega) with hjj | hjj
      · rw [hjj, e1] at hj'; injection hj' with hj'; rw [← hj', e4.1]; rfl
      · rw [hjj, e2] at hj'; injection hj' with hj'; rw [← hj', e4.2]; rfl
    have hrun := run_copy_two w o.type g n cap ⟨gs, 0, none⟩ cur cs hh r3 k1.1 (fun j v hj => World.ownsRow.cells k1 rfl j v hj) hone
    unfold Oper.wp
    simp [execOp, ho, resolve, invoke, builtin, hd, hs, hrun, Result.andThen]
    have hgrow : w.grownBy (w.setRow g cs.toArray) (some g) := ⟨rfl, rfl, rfl, by simp [World.setRow], fun k _ hne => setRow_other w g k _ (fun e => hne (by simp [e]))⟩
    have hku : KU w (w.setRow g cs.toArray) := KU.grown hgrow (fun k hk => by simp at hk; subst hk; exact hty)
    refine hK' _ _ (hK _ ⟨k0, cs, ⟨k1.1, .inr ⟨g, n, cs.toArray, rfl, Nat.zero_le _, setRow_heap w g _ _ _ _ hh, Nat.le_refl _, r2, by simpa using k1.1, ?_⟩⟩, fun i hi => ?_⟩ hgrow)
    · rw [List.take_of_length_le (by simp [k1.1])]
    · obtain ⟨x, y, e1, e2, e3⟩ := k2 i hi
      exact ⟨x, y, e1, e2, e3.keep hku⟩

set_option maxRecDepth 100000 in
set_option maxHeartbeats 2000000 in
theorem fromCells_any (r c : Nat) (sv : Value) (zs : List Int) (L : Nat) (w : World) (hr : r ≤ 99) (hc : c ≤ 99) (hg : Grid w sv (r * c) zs L) :
    Calls Tryd.prog 41 #[.int .i64 r, .int .i64 c, sv] w fun e w' => ∃ x, e = .returned x ∧ IsM w' x r c zs L ∧ Below w.heap.size w w' := by
  obtain ⟨ao, cap, rfl, -⟩ := hg.shape
  have HG := Hid.mk hg
  clear hg
  go_enter Tryd.func41, Tryd.ntmps41
  go_wp2_with fail
  refine (noughts_any r c _ hr hc).mono ?_
  rintro e w2 ⟨g, rfl, hgn, hg2, hb2⟩
  obtain ⟨hc2, hf2⟩ := bcell hb2
  have hsz2 : w.heap.size < w2.heap.size := by have := hb2.size; simp at this; omega
  have hgl : g < w2.heap.size := hg2.ty.lt
  have hgn2 : w.heap.size + 1 ≤ g := by simpa using hgn
  have hbw : Below w.heap.size w w2 := by
    refine Below.trans ?_ (hb2.mono (by simp <;> omega))
    repeat (first | exact Below.refl _ _ | refine Below.alloc ?_ (by simp <;> omega) _)
  have hres : w2.heap[w.heap.size]? = some (.cells #[.int .i64 0, .int .i64 0, .slice none 0 0] 52 (0, 0)) := by
    rw [hb2.block _ (by simp)]; exact heap_alloc_new w _
  have H2 := Hid.mk (And.intro hg2 (And.intro hbw hres))
  clear hgn hg2 hb2 hbw hres hc2 hf2
  go_wp2_with (refine copy_ints _ rfl (.tmp 12) (.tmp 13) rfl g (r * c) _ (List.replicate (r * c) 0) zs 0 L rfl rfl ?_ ?_ ?_)
  · exact H2.out.1.below ((Below.refl _ _).alloc (Nat.le_refl _) _)
  · exact (HG.out.below H2.out.2.1).below ((Below.refl _ _).alloc (Nat.le_refl _) _)
  intro w3 hg3 hgr3
  obtain ⟨W2, hW2⟩ : ∃ W2, W2 = w2.alloc (.cells #[.int .i64 r, .int .i64 c, .slice (some ⟨g, 0, none⟩) (r * c) (r * c)] 52) := ⟨_, rfl⟩
  rw [← hW2] at hgr3
  have p0 : W2.cell? ⟨w2.heap.size, 0, none⟩ = some (.int .i64 r) := by rw [hW2]; simp
  have p1 : W2.cell? ⟨w2.heap.size, 1, none⟩ = some (.int .i64 c) := by rw [hW2]; simp
  have p2 : W2.cell? ⟨w2.heap.size, 2, none⟩ = some (.slice (some ⟨g, 0, none⟩) (r * c) (r * c)) := by rw [hW2]; simp
  have q0 := hgr3.cell p0 (by simp; omega)
  have q1 := hgr3.cell p1 (by simp; omega)
  have q2 := hgr3.cell p2 (by simp; omega)
  have hW2s : W2.heap.size = w2.heap.size + 1 := by rw [hW2]; simp
  have hres3 : w3.heap[w.heap.size]? = some (.cells #[.int .i64 0, .int .i64 0, .slice none 0 0] 52 (0, 0)) := by
    rw [hgr3.block _ (by omega) (by simp; omega), hW2, Below.heap_alloc _ _ _ (by omega)]; exact H2.out.2.2
  have hB3 : Below w.heap.size w w3 := by
    have h1 : Below w.heap.size w W2 := by rw [hW2]; exact H2.out.2.1.alloc (by omega) _
    exact h1.grown hgr3 (by omega) (fun j hj => by simp at hj; omega)
  have r0 : w3.cell? ⟨w.heap.size, 0, none⟩ = some (.int .i64 0) := by simp [World.cell?, hres3]
  have r1 : w3.cell? ⟨w.heap.size, 1, none⟩ = some (.int .i64 0) := by simp [World.cell?, hres3]
  have r2 : w3.cell? ⟨w.heap.size, 2, none⟩ = some (.slice none 0 0) := by simp [World.cell?, hres3]
  have z0 : w3.frozen? ⟨w.heap.size, 0, none⟩ = false := by simp [World.frozen?, hres3]
  have z1 : w3.frozen? ⟨w.heap.size, 1, none⟩ = false := by simp [World.frozen?, hres3]
  have z2 : w3.frozen? ⟨w.heap.size, 2, none⟩ = false := by simp [World.frozen?, hres3]
  have HT : Hid (Ty w3 w.heap.size 52) := Hid.mk ⟨_, _, hres3⟩
  have H3 := Hid.mk (And.intro hg3 hB3)
  clear hg3 hB3 hgr3 hres3 p0 p1 p2 hW2 hW2s H2 HG
  go_wp2_with fail
  refine bodyPost_ret (v := .agg #[.int .i64 r, .int .i64 c, .slice (some ⟨g, 0, none⟩) (r * c) (r * c)]) ?_ rfl ?_
  · (simp [results, Tryd.results41, go_sem, r0, r1, r2]; done)
  · refine ⟨_, rfl, ⟨hr, hc, _, rfl, H3.out.1.keep (KT.setCell (KT.setCell (KT.setCell (KT.refl _) HT.out (by decide) (by decide) _) (HT.out.setCell _ _) (by decide) (by decide) _) ((HT.out.setCell _ _).setCell _ _) (by decide) (by decide) _)⟩, ?_⟩
    exact ((H3.out.2.setCell (Nat.le_refl _) _).setCell (Nat.le_refl _) _).setCell (Nat.le_refl _) _
end Go.Proofs.YtjhcbenldfplcaaDoor
