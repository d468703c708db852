/- grid.Noughts. -/
import Derived.Test.YtjhcbenldfplcaaDoorGSet
namespace Go.Proofs.YtjhcbenldfplcaaDoor
open Go.RowKit

theorem Tryd.info66 : (Tryd.prog.info? 66).map (fun i => (i.zero, i.size, i.bytes)) = some (some (.agg #[.bool false, .slice none 0 0]), 2, 32) := by kernel_rfl
theorem made_two (n : Nat) (i : Nat) (hi : i < n) : (madeCells #[Value.bool false, .slice none 0 0] (n * 2)).toList[2 * i]? = some (.bool false) ∧ (madeCells #[Value.bool false, .slice none 0 0] (n * 2)).toList[2 * i + 1]? = some (.slice none 0 0) := by
  constructor
  · simp [madeCells, show 2 * i < n * 2 from by omega, show 2 * i % 2 = 0 from by omega]
  · simp [madeCells, show 2 * i + 1 < n * 2 from by omega, show (2 * i + 1) % 2 = 1 from by omega]
/-- 'make([]whole.Int, n)'. -/
theorem make_ints (w : World) {ops : Array Oper} {rest : List Oper} {o : Oper} {a : Act} {Q : Exit → Act → World → Prop}
    (hg : o.guard = none) (l c : Operand) (hop : o.op = Op.makeSlice 50 l c) (L C : Int) (n : Nat) (hl : a.eval l = .int .i64 L) (hc : a.eval c = .int .i64 C) (hL : L = (n : Int)) (hC : C = (n : Int)) (b : n ≤ 1000000000)
    (hK : ∀ w', Grid w' (.slice (some ⟨w.heap.size, 0, none⟩) n n) n (List.replicate n 0) 0 → Below w.heap.size w w' → w.heap.size < w'.heap.size → wpList Tryd.prog ops Q rest (a.put o.dst (.slice (some ⟨w.heap.size, 0, none⟩) n n)) w') :
    wpList Tryd.prog ops Q (o :: rest) a w := by
  obtain ⟨i, hi, hz0, hz1, hz2⟩ := info_parts Tryd.info66
  refine wpList_make_full w hg l c 50 hop 0 66 i (.agg #[.bool false, .slice none 0 0]) 2 Tryd.underlying50 hi hz0 hz1 .i64 .i64 L C n hl hc hL hC (by rw [hz2]; omega) (by unfold maxLen; omega) (Nat.zero_le _) ?_
  intro w' hown hgrow
  rw [show (Value.agg #[.bool false, .slice none 0 0]).cells = #[.bool false, .slice none 0 0] from rfl] at hown
  refine hK w' ⟨by simp, _, hown, fun j hj => ⟨_, _, (made_two n j hj).1, (made_two n j hj).2, ?_⟩⟩ ((Below.refl _ _).grown hgrow (Nat.le_refl _) (by simp)) (World.ownsRow.lt hown _ rfl).2
  rw [show (List.replicate n (0 : Int)).getD j 0 = 0 from by simp [List.getD, hj]]
  exact IsI.zero w' 0

theorem bcellB {B : Nat} {W w1 : World} (hb : Below B W w1) : (∀ b o, b < B → w1.cell? ⟨b, o, none⟩ = W.cell? ⟨b, o, none⟩) ∧ (∀ b o, b < B → w1.frozen? ⟨b, o, none⟩ = W.frozen? ⟨b, o, none⟩) :=
  ⟨fun b o h => hb.cell (p := ⟨b, o, none⟩) h, fun b o h => hb.frozen (p := ⟨b, o, none⟩) h⟩
/-- What is written into a block past n leaves the numbers alone. -/
theorem Grid.keepT {w W : World} {sl : Value} {n L : Nat} {zs : List Int} (h : Grid w sl n zs L) (hb : ∀ (b : Nat) (arr : Array Value), w.heap[b]? = some (.cells arr 66 (0, 0)) → W.heap[b]? = some (.cells arr 66 (0, 0))) (hk : KU w W) : Grid W sl n zs L := by
  obtain ⟨h0, cs, h1, h2⟩ := h
  refine ⟨h0, cs, ⟨h1.1, ?_⟩, fun i hi => ?_⟩
  · rcases h1.2 with h3 | ⟨g, cap, cur, hv, hg, hh, r⟩
    · exact .inl h3
    · exact .inr ⟨g, cap, cur, hv, hg, hb g cur hh, r⟩
  · obtain ⟨a, b, e1, e2, e3⟩ := h2 i hi
    exact ⟨a, b, e1, e2, e3.keep hk⟩
/-- No row of whole numbers and no row of limbs has turned. -/
def KT (w w' : World) : Prop := (∀ (b : Nat) (arr : Array Value), w.heap[b]? = some (.cells arr 66 (0, 0)) → w'.heap[b]? = some (.cells arr 66 (0, 0))) ∧ KU w w'
theorem KT.refl (w : World) : KT w w := ⟨fun _ _ h => h, KU.refl w⟩
theorem KT.trans {a b c : World} (h : KT a b) (k : KT b c) : KT a c := ⟨fun i arr hi => k.1 i arr (h.1 i arr hi), h.2.trans k.2⟩
theorem KT.of_below {w w' : World} (h : Below w.heap.size w w') : KT w w' := ⟨fun i arr hi => by rw [h.block i (Array.getElem?_eq_some_iff.1 hi).1]; exact hi, KU.of_below h⟩
theorem KT.setCell {a w : World} (h : KT a w) {b o : Nat} {t : TypeId} (ht : Ty w b t) (hne : t ≠ 86) (hne2 : t ≠ 66) (u : Value) : KT a (w.setCell ⟨b, o, none⟩ u) := by
  refine ⟨fun i arr hi => ?_, h.2.setCell ht hne u⟩
  have h1 := h.1 i arr hi
  obtain ⟨c, fr, h2⟩ := ht
  by_cases hb : i = b
  · subst hb
    rw [h1] at h2
    simp only [Option.some.injEq, Obj.cells.injEq] at h2
    exact absurd h2.2.1.symm hne2
  · rw [Below.heap_setCell _ _ _ _ hb]; exact h1
theorem Grid.keep {w W : World} {sl : Value} {n L : Nat} {zs : List Int} (h : Grid w sl n zs L) (hk : KT w W) : Grid W sl n zs L := h.keepT hk.1 hk.2
set_option maxRecDepth 100000 in
set_option maxHeartbeats 2000000 in
theorem noughts_any (r c : Nat) (w : World) (hr : r ≤ 99) (hc : c ≤ 99) :
    Calls Tryd.prog 44 #[.int .i64 r, .int .i64 c] w fun e w' => ∃ g, e = .returned (.agg #[.int .i64 r, .int .i64 c, .slice (some ⟨g, 0, none⟩) (r * c) (r * c)]) ∧ w.heap.size ≤ g ∧ Grid w' (.slice (some ⟨g, 0, none⟩) (r * c) (r * c)) (r * c) (List.replicate (r * c) 0) 0 ∧ Below w.heap.size w w' := by
  have hb : (0 : Int) ≤ (r : Int) * (c : Int) ∧ (r : Int) * (c : Int) ≤ 9801 := by
    have : r * c ≤ 99 * 99 := Nat.mul_le_mul hr hc
    rw [← Int.natCast_mul]
    omega
  obtain ⟨b1, b2⟩ := hb
  go_enter Tryd.func44, Tryd.ntmps44
  go_wp2_with (at_make; refine make_ints _ rfl (.tmp 24) (.tmp 24) rfl _ _ (r * c) rfl rfl ?_ ?_ ?_ ?_)
  · simp
  · simp
  · have : r * c ≤ 99 * 99 := Nat.mul_le_mul hr hc; omega
  intro w1 hg hbel hsz
  obtain ⟨hcell, hfr⟩ := bcellB hbel
  have hty : Ty w1 w.heap.size 52 := (Ty.new w _ _).below hbel (by omega)
  have HG := Hid.mk hg
  have HB := Hid.mk hbel
  have HT := Hid.mk hty
  clear hg hty
  go_wp2_with fail
  refine bodyPost_ret (v := .agg #[.int .i64 r, .int .i64 c, .slice (some ⟨w.heap.size + 1, 0, none⟩) (r * c) (r * c)]) ?_ rfl ?_
  · (simp [results, Tryd.results44, go_sem, hcell]; done)
  · refine ⟨w.heap.size + 1, rfl, by omega, HG.out.keep ?_, ?_⟩
    · exact KT.setCell (KT.setCell (KT.setCell (KT.refl _) HT.out (by decide) (by decide) _) (HT.out.setCell _ _) (by decide) (by decide) _) ((HT.out.setCell _ _).setCell _ _) (by decide) (by decide) _
    · refine Below.setCell (Below.setCell (Below.setCell ?_ (by simp) _) (by simp) _) (by simp) _
      exact ((Below.refl w.heap.size w).alloc (Nat.le_refl _) _).trans (HB.out.mono (by omega))
end Go.Proofs.YtjhcbenldfplcaaDoor
