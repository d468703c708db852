/- matriceskeep.mat: rows of ints in memory. -/
import Derived.Test.YtjhcbenldfplcaaDoorTypeDet
namespace Go.Proofs.YtjhcbenldfplcaaDoor
open Go.RowKit

/-- The cells of a row of c ints. -/
def icells (c : Nat) (f : Nat → Int) : List Value := (List.range c).map fun j => Value.int .i64 (f j)
def rowV (c g : Nat) : Value := .slice (some ⟨g, 0, none⟩) c c
/-- Block g is a row of c ints. -/
def IRow (w : World) (g c : Nat) (f : Nat → Int) : Prop := w.heap[g]? = some (.cells (icells c f).toArray 3 (0, 0))
theorem IRow.lt {w : World} {g c : Nat} {f : Nat → Int} (h : IRow w g c f) : g < w.heap.size := (Array.getElem?_eq_some_iff.1 h).1
theorem IRow.ty {w : World} {g c : Nat} {f : Nat → Int} (h : IRow w g c f) : Ty w g 3 := ⟨_, _, h⟩
theorem IRow.cell {w : World} {g c : Nat} {f : Nat → Int} (h : IRow w g c f) (j : Nat) (hj : j < c) : w.cell? ⟨g, j, none⟩ = some (.int .i64 (f j)) := by
  unfold IRow at h
  simp [World.cell?, h, icells, hj]
theorem IRow.frozen {w : World} {g c : Nat} {f : Nat → Int} (h : IRow w g c f) (j : Nat) : w.frozen? ⟨g, j, none⟩ = false := by
  unfold IRow at h
  simp [World.frozen?, h]
def upd (f : Nat → Int) (j : Nat) (z : Int) : Nat → Int := fun k => if k = j then z else f k
theorem icells_set (c : Nat) (f : Nat → Int) (j : Nat) (z : Int) : (icells c f).set j (.int .i64 z) = icells c (upd f j z) := by
  apply List.ext_getElem?
  intro k
  simp only [icells, List.getElem?_set, List.length_map, List.length_range, List.getElem?_map, upd]
  by_cases hk : j = k
  · subst hk
    by_cases hc : j < c
    · simp [hc]
    · simp [hc]
  · have hk' : ¬ k = j := fun e => hk e.symm
    by_cases hc : k < c
    · simp [hk, hk', hc]
    · simp [hk, hc]
theorem IRow.stored {w : World} {g c : Nat} {f : Nat → Int} (h : IRow w g c f) (j : Nat) (z : Int) : IRow (w.setCell ⟨g, j, none⟩ (.int .i64 z)) g c (upd f j z) := by
  unfold IRow at *
  rw [heap_setCell_same _ _ _ _ _ _ h, ← icells_set]
  simp
theorem IRow.other {w : World} {g c : Nat} {f : Nat → Int} (h : IRow w g c f) {b j : Nat} (hb : b ≠ g) (u : Value) : IRow (w.setCell ⟨b, j, none⟩ u) g c f := by
  unfold IRow
  rw [Below.heap_setCell _ _ _ _ (Ne.symm hb)]; exact h
theorem IRow.congr {w : World} {g c : Nat} {f f' : Nat → Int} (h : IRow w g c f) (he : ∀ j, j < c → f j = f' j) : IRow w g c f' := by
  unfold IRow at *
  rw [h]
  have : icells c f = icells c f' := by
    unfold icells
    apply List.map_congr_left
    intro j hj
    rw [he j (List.mem_range.1 hj)]
  rw [this]
theorem Tryd.info3' : (Tryd.prog.info? 3).map (fun i => (i.zero, i.size, i.bytes)) = some (some (.int .i64 0), 1, 8) := by kernel_rfl
theorem Tryd.info39' : (Tryd.prog.info? 39).map (fun i => (i.zero, i.size, i.bytes)) = some (some (.slice none 0 0), 1, 24) := by kernel_rfl
/-- 'make([]int, c)'. -/
theorem make_row (w : World) {ops : Array Oper} {rest : List Oper} {o : Oper} {a : Act} {Q : Exit → Act → World → Prop}
    (hg : o.guard = none) (l c : Operand) (hop : o.op = Op.makeSlice 39 l c) (L C : Int) (n : Nat) (hl : a.eval l = .int .i64 L) (hc : a.eval c = .int .i64 C) (hL : L = (n : Int)) (hC : C = (n : Int)) (b : n ≤ 1000000000)
    (hK : ∀ w', IRow w' w.heap.size n (fun _ => 0) → Below w.heap.size w w' → w.heap.size < w'.heap.size → wpList Tryd.prog ops Q rest (a.put o.dst (.slice (some ⟨w.heap.size, 0, none⟩) n n)) w') :
    wpList Tryd.prog ops Q (o :: rest) a w := by
  obtain ⟨i, hi, hz0, hz1, hz2⟩ := info_parts Tryd.info3'
  refine wpList_make_full w hg l c 39 hop 0 3 i (.int .i64 0) 1 Tryd.underlying39 hi hz0 hz1 .i64 .i64 L C n hl hc hL hC (by rw [hz2]; omega) (by unfold maxLen; omega) (Nat.zero_le _) ?_
  intro w' hown hgrow
  rw [show (Value.int IntKind.i64 0).cells = #[.int .i64 0] from rfl, toList_madeCells_one, Nat.mul_one] at hown
  refine hK w' ?_ ((Below.refl _ _).grown hgrow (Nat.le_refl _) (by simp)) (World.ownsRow.lt hown _ rfl).2
  rcases hown.2 with ⟨h1, _⟩ | ⟨g, cap, cur, h1, h2, h3, h4, h5, h6, h7⟩
  · simp at h1
  · simp only [Value.slice.injEq, Option.some.injEq, Addr.mk.injEq, and_true, true_and] at h1
    obtain ⟨rfl, rfl⟩ := h1
    unfold IRow
    rw [h3]
    have h8 : cur.toList = icells n (fun _ => 0) := by
      rw [List.take_of_length_le (by simp [h6])] at h7
      rw [h7]
      simp [icells, List.map_const']
    rw [← h8]
def rcells (n c : Nat) (gs : Nat → Nat) : List Value := (List.range n).map fun i => rowV c (gs i)
/-- v is a matrix of n rows, at the blocks gs, of c columns, entries e; its own row of rows lies at B or later. -/
def Mat (B : Nat) (w : World) (v : Value) (n c : Nat) (gs : Nat → Nat) (e : Nat → Nat → Int) : Prop := w.ownsRow B 39 1 v n (rcells n c gs) ∧ ∀ i, i < n → IRow w (gs i) c (e i)
/-- No row of ints and no row of such rows below B has turned. -/
def KB (B : Nat) (w w' : World) : Prop := ∀ (i : Nat) (arr : Array Value) (t : TypeId), i < B → (t = 3 ∨ t = 39) → w.heap[i]? = some (.cells arr t (0, 0)) → w'.heap[i]? = some (.cells arr t (0, 0))
theorem KB.refl (B : Nat) (w : World) : KB B w w := fun _ _ _ _ _ h => h
theorem KB.trans {B : Nat} {a b c : World} (h : KB B a b) (k : KB B b c) : KB B a c := fun i arr t hi ht h0 => k i arr t hi ht (h i arr t hi ht h0)
theorem KB.mono {B B' : Nat} {a b : World} (h : KB B a b) (hB : B' ≤ B) : KB B' a b := fun i arr t hi ht h0 => h i arr t (by omega) ht h0
theorem KB.of_below {B : Nat} {w w' : World} (h : Below B w w') : KB B w w' := fun i arr t hi _ h0 => by rw [h.block i hi]; exact h0
theorem KB.of_grown {B : Nat} {w w' : World} {p : Nat} {t : TypeId} (h : w.grownBy w' (some p)) (ht : Ty w p t) (h1 : t ≠ 3) (h2 : t ≠ 39) : KB B w w' := by
  intro i arr u _ hu h0
  rw [h.block i (Array.getElem?_eq_some_iff.1 h0).1 ?_]
  · exact h0
  · intro e
    injection e with e
    subst e
    obtain ⟨c, fr, h3⟩ := ht
    rw [h0] at h3
    simp only [Option.some.injEq, Obj.cells.injEq] at h3
    rcases hu with rfl | rfl
    · exact h1 h3.2.1.symm
    · exact h2 h3.2.1.symm
theorem KB.store {B : Nat} {w : World} {b j : Nat} (hb : B ≤ b) (u : Value) : KB B w (w.setCell ⟨b, j, none⟩ u) := by
  intro i arr t hi _ h0
  rw [Below.heap_setCell _ _ _ _ (show i ≠ b from by omega)]; exact h0
theorem IRow.keep {B : Nat} {w w' : World} {g c : Nat} {f : Nat → Int} (h : IRow w g c f) (hk : KB B w w') (hg : g < B) : IRow w' g c f := hk g _ _ hg (.inl rfl) h
theorem Mat.keep {B : Nat} {w w' : World} {v : Value} {n c : Nat} {gs : Nat → Nat} {e : Nat → Nat → Int} (h : Mat B w v n c gs e) (hk : KB w.heap.size w w') : Mat B w' v n c gs e := by
  refine ⟨⟨h.1.1, ?_⟩, fun i hi => (h.2 i hi).keep hk (h.2 i hi).lt⟩
  rcases h.1.2 with h2 | ⟨g, cap, cur, hv, hg, hh, r⟩
  · exact .inl h2
  · exact .inr ⟨g, cap, cur, hv, hg, hk g cur _ (Array.getElem?_eq_some_iff.1 hh).1 (.inr rfl) hh, r⟩
theorem Mat.nil (B : Nat) (w : World) (c : Nat) (gs : Nat → Nat) (e : Nat → Nat → Int) : Mat B w (.slice none 0 0) 0 c gs e := ⟨World.ownsRow_nil _ _ _ _, fun i hi => by omega⟩
theorem Mat.low {B B' : Nat} {w : World} {v : Value} {n c : Nat} {gs : Nat → Nat} {e : Nat → Nat → Int} (h : Mat B w v n c gs e) (hB : B' ≤ B) : Mat B' w v n c gs e := by
  refine ⟨⟨h.1.1, ?_⟩, h.2⟩
  rcases h.1.2 with h2 | ⟨g, cap, cur, hv, hg, r⟩
  · exact .inl h2
  · exact .inr ⟨g, cap, cur, hv, Nat.le_trans hB hg, r⟩
/-- What a matrix looks like. -/
theorem Mat.shape {B : Nat} {w : World} {v : Value} {n c : Nat} {gs : Nat → Nat} {e : Nat → Nat → Int} (h : Mat B w v n c gs e) :
    (v = .slice none 0 0 ∧ n = 0) ∨ ∃ g cap, v = .slice (some ⟨g, 0, none⟩) n cap ∧ n ≤ cap ∧ cap ≤ 9223372036854775807 ∧ B ≤ g ∧ g < w.heap.size ∧ Ty w g 39 ∧ ∀ i, i < n → w.cell? ⟨g, i, none⟩ = some (.slice (some ⟨gs i, 0, none⟩) c c) ∧ w.frozen? ⟨g, i, none⟩ = false := by
  rcases h.1.2 with h2 | ⟨g, cap, cur, rfl, hg, hh, h1, h3, h4, h5⟩
  · exact .inl h2
  · refine .inr ⟨g, cap, rfl, h1, by simpa [maxLen] using h3, hg, (Array.getElem?_eq_some_iff.1 hh).1, ⟨_, _, hh⟩, fun i hi => ⟨?_, ?_⟩⟩
    · rw [World.ownsRow.cellAt h.1 i (by omega)]
      simp [rcells, hi, rowV]
    · exact World.ownsRow.frozenAt h.1 i
theorem Mat.cell {B : Nat} {w : World} {n c cap g : Nat} {gs : Nat → Nat} {e : Nat → Nat → Int} (h : Mat B w (.slice (some ⟨g, 0, none⟩) n cap) n c gs e) (i : Nat) (hi : i < n) :
    w.cell? ⟨g, i, none⟩ = some (.slice (some ⟨gs i, 0, none⟩) c c) := by
  rw [World.ownsRow.cellAt h.1 i (by omega)]
  simp [rcells, hi, rowV]
theorem rcells_snoc (n c : Nat) (gs : Nat → Nat) (g : Nat) : rcells n c gs ++ [rowV c g] = rcells (n + 1) c (fun i => if i = n then g else gs i) := by
  unfold rcells
  rw [List.range_succ, List.map_append, List.map_singleton]
  simp only [if_true]
  congr 1
  apply List.map_congr_left
  intro i hi
  have := List.mem_range.1 hi
  rw [if_neg (by omega)]
/-- 'append(m, l)': a row more. -/
theorem append_row (w : World) {ops : Array Oper} {rest : List Oper} {o : Oper} {a : Act} {Q : Exit → Act → World → Prop} (hgd : o.guard = none) (s x : Operand)
    (ho : o.op = .call { callee := .builtin .append, args := #[s, x], argTypes := #[31, 31] }) (B : Nat) (v : Value) (n c : Nat) (gs : Nat → Nat) (e : Nat → Nat → Int) (hs : a.eval s = v) (hm : Mat B w v n c gs e)
    (ad : Addr) (hx : a.eval x = .slice (some ad) 1 1) (g : Nat) (f : Nat → Int) (h0 : w.cell? (ad.add 0) = some (.slice (some ⟨g, 0, none⟩) c c)) (hr : IRow w g c f) (hn : n ≤ 10000) (hB : B ≤ w.heap.size)
    (hK : ∀ v' w', Mat B w' v' (n + 1) c (fun i => if i = n then g else gs i) (fun i => if i = n then f else e i) → KB B w w' → w.grownBy w' v.ownBlock → (∀ k, v.ownBlock = some k → B ≤ k) → wpList Tryd.prog ops Q rest (a.put o.dst v') w') : wpList Tryd.prog ops Q (o :: rest) a w := by
  obtain ⟨i, hi, hz0, hz1, hz2⟩ := info_parts Tryd.info39'
  have hlt := World.ownsRow.lt hm.1
  have hty : ∀ k, v.ownBlock = some k → Ty w k 39 := by
    intro k hk
    rcases hm.1.2 with ⟨rfl, _⟩ | ⟨g, cap, cur, rfl, hg, hh, r⟩
    · simp [Value.ownBlock] at hk
    · simp [Value.ownBlock] at hk
      subst hk
      exact ⟨_, _, hh⟩
  refine wpList_append_own w hgd s x 31 ho B 39 i (.slice none 0 0) 1 24 Tryd.underlying31 hi hz0 hz1 hz2 rfl (by decide) v n (rcells n c gs) hs hm.1 ad 1 1 [rowV c g] hx rfl ?_ ?_ ?_ ?_ hB ?_
  · intro j u hj
    match j, hj with
    | 0, hj => simp at hj; subst hj; exact h0
  · intro u hu; simp at hu; subst hu; rfl
  · unfold maxLen; omega
  · omega
  · intro v' w' k1 k2 _
    have key : ∀ (b : Nat) (f' : Nat → Int), IRow w b c f' → IRow w' b c f' := by
      intro b f' hb
      unfold IRow
      rw [k2.block b hb.lt ?_]
      · exact hb
      · intro e
        obtain ⟨cc, fr, h3⟩ := hty b e.symm
        unfold IRow at hb
        rw [hb] at h3
        simp at h3
    refine hK v' w' ⟨by rw [← rcells_snoc]; exact k1, fun j hj => ?_⟩ ?_ k2 (fun k hk => (hlt k hk).1)
    · by_cases hjn : j = n
      · simp only [hjn, if_true]; exact key _ _ hr
      · simp only [hjn, if_false]; exact key _ _ (hm.2 j (by omega))
    · intro b arr t hb _ h1
      rw [k2.block b (Array.getElem?_eq_some_iff.1 h1).1 ?_]
      · exact h1
      · intro e; have := (hlt b e.symm).1; omega
end Go.Proofs.YtjhcbenldfplcaaDoor
