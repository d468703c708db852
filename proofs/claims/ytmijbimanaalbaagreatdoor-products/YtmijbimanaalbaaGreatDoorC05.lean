import Derived.Test.YtmijbimanaalbaaGreatDoorC04
/- grid.Matrix.set. -/
namespace Go.Proofs.YtmijbimanaalbaaGreatDoor
open Go.RowKit

theorem cell1 {w : World} {a : Addr} {v : Value} (h : w.cell? a = some v) : ∀ o1, (w.alloc o1).cell? a = some v := fun o1 =>
  cell_later (by repeat (first | exact Below.refl _ _ | refine Below.alloc ?_ (by simp <;> omega) _)) h
theorem cell2 {w : World} {a : Addr} {v : Value} (h : w.cell? a = some v) : ∀ o1 o2, ((w.alloc o1).alloc o2).cell? a = some v := fun o1 o2 =>
  cell_later (by repeat (first | exact Below.refl _ _ | refine Below.alloc ?_ (by simp <;> omega) _)) h
theorem frozen2 {w : World} {a : Addr} (h : w.frozen? a = false) (hb : a.block < w.heap.size) : ∀ o1 o2, ((w.alloc o1).alloc o2).frozen? a = false := fun o1 o2 => by
  rw [Below.frozen (w := w) (B := w.heap.size) (by repeat (first | exact Below.refl _ _ | refine Below.alloc ?_ (by simp <;> omega) _)) hb]; exact h

theorem grown_set2 {w W : World} {g i j : Nat} {a b : Value} (h : Below ((w.setCell ⟨g, i, none⟩ a).setCell ⟨g, j, none⟩ b).heap.size ((w.setCell ⟨g, i, none⟩ a).setCell ⟨g, j, none⟩ b) W) : w.grownBy W (some g) := by
  have hs : ((w.setCell ⟨g, i, none⟩ a).setCell ⟨g, j, none⟩ b).heap.size = w.heap.size := by simp [World.setCell]
  refine ⟨h.os, h.tape, h.output, by have := h.size; omega, fun k hk hne => ?_⟩
  rw [h.block k (by omega), Below.heap_setCell _ _ _ _ (fun e => hne (by simp [e])), Below.heap_setCell _ _ _ _ (fun e => hne (by simp [e]))]
set_option maxRecDepth 100000 in
set_option maxHeartbeats 2000000 in
theorem set_in (p g r c cap row col : Nat) (zs : List Int) (L : Nat) (x : Value) (z : Int) (w : World) (p0 : w.cell? ⟨p, 0, none⟩ = some (.int .i64 r)) (p1 : w.cell? ⟨p, 1, none⟩ = some (.int .i64 c))
    (p2 : w.cell? ⟨p, 2, none⟩ = some (.slice (some ⟨g, 0, none⟩) (r * c) cap)) (hg : Grid w (.slice (some ⟨g, 0, none⟩) (r * c) cap) (r * c) zs L) (hx : IsI w x z L) (hr : r ≤ 99) (hc : c ≤ 99) (h1 : row < r) (h2 : col < c) :
    Calls Tryz.prog 85 #[.pointer (some ⟨p, 0, none⟩), .int .i64 row, .int .i64 col, x] w fun e w' => e = .returned (.tuple #[]) ∧ Grid w' (.slice (some ⟨g, 0, none⟩) (r * c) cap) (r * c) (zs.set (row * c + col) z) L ∧ w.grownBy w' (some g) ∧ KU w w' := by
  have hk := idx_lt h1 h2
  obtain ⟨nb, bo, m, ecap, c1, c2, -⟩ := hg.cell _ hk
  have f1 := hg.frozen (2 * (row * c + col))
  have f2 := hg.frozen (2 * (row * c + col) + 1)
  have hgl : g < w.heap.size := World.block_lt_of_cell? w _ c1
  have hh := hasB_in h1 h2
  obtain ⟨b1, b2⟩ := idx_bd hr hc h1
  obtain ⟨sl, xs, rfl, q2, q3, q4, q5⟩ := id hx
  obtain ⟨ao, dcap, rfl, -⟩ := q5.open_
  rw [Nat.mul_comm 2] at c1 c2 f1 f2
  have d1 := cell2 c1
  have d2 := cell2 c2
  have d3 := frozen2 f1 hgl
  have d4 := frozen2 f2 hgl
  have d5 : ∀ v, ∀ o1 o2, (((w.setCell ⟨g, (row * c + col) * 2, none⟩ v).alloc o1).alloc o2).cell? ⟨g, (row * c + col) * 2 + 1, none⟩ = some (.slice bo m ecap) := fun v => cell2 (by rw [World.cell?_setCell_other _ _ _ _ (by simp)]; exact c2)
  have d6 : ∀ v, ∀ o1 o2, (((w.setCell ⟨g, (row * c + col) * 2, none⟩ v).alloc o1).alloc o2).frozen? ⟨g, (row * c + col) * 2 + 1, none⟩ = false := fun v => frozen2 (by rw [World.frozen?_setCell]; exact f2) (by simp [World.setCell]; exact hgl)
  have e0 := cell2 p0
  have e1 := cell2 p1
  have e2 := cell2 p2
  have e0' := cell1 p0
  have e1' := cell1 p1
  have e2' := cell1 p2
  have HX := Hid.mk hx
  have HG := Hid.mk hg
  have HK := Hid.mk hk
  clear hx hg q2 q3 q4 q5 p0 p1 p2 c1 c2 f1 f2
  obtain ⟨nz, hnz⟩ : ∃ nz, nz = decide (z < 0) := ⟨_, rfl⟩
  rw [← hnz] at HX ⊢
  clear hnz
  obtain ⟨N, hN⟩ : ∃ N, N = r * c := ⟨_, rfl⟩
  rw [← hN] at hk e2 e2' HG ⊢
  have hk2 : (row : Int) * (c : Int) + (col : Int) < (N : Int) := by rw [← Int.natCast_mul]; omega
  clear hN HK
  go_enter Tryz.func85, Tryz.ntmps85
  go_wp2_with (go_at_call 144; refine (has_raw _ _ _ _ _ _ _ _).mono ?_; rintro e w' ⟨rfl, rfl⟩; rw [hh])
  go_region
  all_goals
    go_end0
    obtain ⟨S1, S2⟩ := HG.out.stored _ hk HX.out
    rw [Nat.mul_comm 2] at S1 S2
    refine ⟨rfl, ?_, ?_, ?_⟩
    · refine S1.below ?_
      repeat (first | exact Below.refl _ _ | refine Below.drew ?_ | refine Below.alloc ?_ (by simp <;> omega) _)
    · refine grown_set2 (i := (row * c + col) * 2) (j := (row * c + col) * 2 + 1) (a := .bool nz) (b := .slice ao xs.length dcap) ?_
      repeat (first | exact Below.refl _ _ | refine Below.drew ?_ | refine Below.alloc ?_ (by simp <;> omega) _)
    · refine S2.trans (KU.of_below ?_)
      repeat (first | exact Below.refl _ _ | refine Below.drew ?_ | refine Below.alloc ?_ (by simp <;> omega) _)
end Go.Proofs.YtmijbimanaalbaaGreatDoor

/- grid.Noughts. -/
namespace Go.Proofs.YtmijbimanaalbaaGreatDoor
open Go.RowKit

theorem Tryz.info94 : (Tryz.prog.info? 94).map (fun i => (i.zero, i.size, i.bytes)) = some (some (.agg #[.bool false, .slice none 0 0]), 2, 32) := by kernel_rfl
theorem made_two (n : Nat) (i : Nat) (hi : i < n) : (madeCells #[Value.bool false, .slice none 0 0] (n * 2)).toList[2 * i]? = some (.bool false) ∧ (madeCells #[Value.bool false, .slice none 0 0] (n * 2)).toList[2 * i + 1]? = some (.slice none 0 0) := by
  constructor
  · simp [madeCells, show 2 * i < n * 2 from by omega, show 2 * i % 2 = 0 from by omega]
  · simp [madeCells, show 2 * i + 1 < n * 2 from by omega, show (2 * i + 1) % 2 = 1 from by omega]
/-- 'make([]whole.Int, n)'. -/
theorem make_ints (w : World) {ops : Array Oper} {rest : List Oper} {o : Oper} {a : Act} {Q : Exit → Act → World → Prop}
    (hg : o.guard = none) (l c : Operand) (hop : o.op = Op.makeSlice 74 l c) (L C : Int) (n : Nat) (hl : a.eval l = .int .i64 L) (hc : a.eval c = .int .i64 C) (hL : L = (n : Int)) (hC : C = (n : Int)) (b : n ≤ 1000000000)
    (hK : ∀ w', Grid w' (.slice (some ⟨w.heap.size, 0, none⟩) n n) n (List.replicate n 0) 0 → Below w.heap.size w w' → w.heap.size < w'.heap.size → wpList Tryz.prog ops Q rest (a.put o.dst (.slice (some ⟨w.heap.size, 0, none⟩) n n)) w') :
    wpList Tryz.prog ops Q (o :: rest) a w := by
  obtain ⟨i, hi, hz0, hz1, hz2⟩ := info_parts Tryz.info94
  refine wpList_make_full w hg l c 74 hop 0 94 i (.agg #[.bool false, .slice none 0 0]) 2 Tryz.underlying74 hi hz0 hz1 .i64 .i64 L C n hl hc hL hC (by rw [hz2]; omega) (by unfold maxLen; omega) (Nat.zero_le _) ?_
  intro w' hown hgrow
  rw [show (Value.agg #[.bool false, .slice none 0 0]).cells = #[.bool false, .slice none 0 0] from rfl] at hown
  refine hK w' ⟨by simp, _, hown, fun j hj => ⟨_, _, (made_two n j hj).1, (made_two n j hj).2, ?_⟩⟩ ((Below.refl _ _).grown hgrow (Nat.le_refl _) (by simp)) (World.ownsRow.lt hown _ rfl).2
  rw [show (List.replicate n (0 : Int)).getD j 0 = 0 from by simp [List.getD, hj]]
  exact IsI.zero w' 0

theorem bcellB {B : Nat} {W w1 : World} (hb : Below B W w1) : (∀ b o, b < B → w1.cell? ⟨b, o, none⟩ = W.cell? ⟨b, o, none⟩) ∧ (∀ b o, b < B → w1.frozen? ⟨b, o, none⟩ = W.frozen? ⟨b, o, none⟩) :=
  ⟨fun b o h => hb.cell (p := ⟨b, o, none⟩) h, fun b o h => hb.frozen (p := ⟨b, o, none⟩) h⟩
/-- What is written into a block past n leaves the numbers alone. -/
theorem Grid.keepT {w W : World} {sl : Value} {n L : Nat} {zs : List Int} (h : Grid w sl n zs L) (hb : ∀ (b : Nat) (arr : Array Value), w.heap[b]? = some (.cells arr 94 (0, 0)) → W.heap[b]? = some (.cells arr 94 (0, 0))) (hk : KU w W) : Grid W sl n zs L := by
  obtain ⟨h0, cs, h1, h2⟩ := h
  refine ⟨h0, cs, ⟨h1.1, ?_⟩, fun i hi => ?_⟩
  · rcases h1.2 with h3 | ⟨g, cap, cur, hv, hg, hh, r⟩
    · exact .inl h3
    · exact .inr ⟨g, cap, cur, hv, hg, hb g cur hh, r⟩
  · obtain ⟨a, b, e1, e2, e3⟩ := h2 i hi
    exact ⟨a, b, e1, e2, e3.keep hk⟩
/-- No row of whole numbers and no row of limbs has turned. -/
def KT (w w' : World) : Prop := (∀ (b : Nat) (arr : Array Value), w.heap[b]? = some (.cells arr 94 (0, 0)) → w'.heap[b]? = some (.cells arr 94 (0, 0))) ∧ KU w w'
theorem KT.refl (w : World) : KT w w := ⟨fun _ _ h => h, KU.refl w⟩
theorem KT.trans {a b c : World} (h : KT a b) (k : KT b c) : KT a c := ⟨fun i arr hi => k.1 i arr (h.1 i arr hi), h.2.trans k.2⟩
theorem KT.of_below {w w' : World} (h : Below w.heap.size w w') : KT w w' := ⟨fun i arr hi => by rw [h.block i (Array.getElem?_eq_some_iff.1 hi).1]; exact hi, KU.of_below h⟩
theorem KT.setCell {a w : World} (h : KT a w) {b o : Nat} {t : TypeId} (ht : Ty w b t) (hne : t ≠ 165) (hne2 : t ≠ 94) (u : Value) : KT a (w.setCell ⟨b, o, none⟩ u) := by
  refine ⟨fun i arr hi => ?_, h.2.setCell ht hne u⟩
  have h1 := h.1 i arr hi
  obtain ⟨c, fr, h2⟩ := ht
  by_cases hb : i = b
  · subst hb
    rw [h1] at h2
    simp only [Option.some.injEq, Obj.cells.injEq] at h2
    exact absurd h2.2.1.symm hne2
  · rw [Below.heap_setCell _ _ _ _ hb]; exact h1
theorem Grid.keep {w W : World} {sl : Value} {n L : Nat} {zs : List Int} (h : Grid w sl n zs L) (hk : KT w W) : Grid W sl n zs L := h.keepT hk.1 hk.2
set_option maxRecDepth 100000 in
set_option maxHeartbeats 2000000 in
theorem noughts_any (r c : Nat) (w : World) (hr : r ≤ 99) (hc : c ≤ 99) :
    Calls Tryz.prog 80 #[.int .i64 r, .int .i64 c] w fun e w' => ∃ g, e = .returned (.agg #[.int .i64 r, .int .i64 c, .slice (some ⟨g, 0, none⟩) (r * c) (r * c)]) ∧ w.heap.size ≤ g ∧ Grid w' (.slice (some ⟨g, 0, none⟩) (r * c) (r * c)) (r * c) (List.replicate (r * c) 0) 0 ∧ Below w.heap.size w w' := by
  have hb : (0 : Int) ≤ (r : Int) * (c : Int) ∧ (r : Int) * (c : Int) ≤ 9801 := by
    have : r * c ≤ 99 * 99 := Nat.mul_le_mul hr hc
    rw [← Int.natCast_mul]
    omega
  obtain ⟨b1, b2⟩ := hb
  go_enter Tryz.func80, Tryz.ntmps80
  go_wp2_with (at_make; refine make_ints _ rfl (.tmp 24) (.tmp 24) rfl _ _ (r * c) rfl rfl ?_ ?_ ?_ ?_)
  · simp
  · simp
  · have : r * c ≤ 99 * 99 := Nat.mul_le_mul hr hc; omega
  intro w1 hg hbel hsz
  obtain ⟨hcell, hfr⟩ := bcellB hbel
  have hty : Ty w1 w.heap.size 76 := (Ty.new w _ _).below hbel (by omega)
  have HG := Hid.mk hg
  have HB := Hid.mk hbel
  have HT := Hid.mk hty
  clear hg hty
  go_wp2_with fail
  refine bodyPost_ret (v := .agg #[.int .i64 r, .int .i64 c, .slice (some ⟨w.heap.size + 1, 0, none⟩) (r * c) (r * c)]) ?_ rfl ?_
  · (simp [results, Tryz.results80, go_sem, hcell]; done)
  · refine ⟨w.heap.size + 1, rfl, by omega, HG.out.keep ?_, ?_⟩
    · exact KT.setCell (KT.setCell (KT.setCell (KT.refl _) HT.out (by decide) (by decide) _) (HT.out.setCell _ _) (by decide) (by decide) _) ((HT.out.setCell _ _).setCell _ _) (by decide) (by decide) _
    · refine Below.setCell (Below.setCell (Below.setCell ?_ (by simp) _) (by simp) _) (by simp) _
      exact ((Below.refl w.heap.size w).alloc (Nat.le_refl _) _).trans (HB.out.mono (by omega))
end Go.Proofs.YtmijbimanaalbaaGreatDoor
