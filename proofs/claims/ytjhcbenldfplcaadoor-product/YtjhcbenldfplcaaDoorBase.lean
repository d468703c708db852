/- Slices of limbs in memory, and small facts on worlds. -/
import Derived.Test.YtjhcbenldfplcaaDoorRows
import Derived.Test.YtjhcbenldfplcaaDoorNum
import Derived.WalkKit
import Derived.WalkSpells
import Derived.WalkLawsBesides
import Derived.Handy
namespace Go.Proofs.YtjhcbenldfplcaaDoor
open Go.RowKit

/-- The cells that hold limbs. -/
def lcells (xs : List Nat) : List Value := xs.map fun (x : Nat) => Value.int .u32 (x : Int)
/-- The slice value v holds the limbs xs, at the head of a row of its own. -/
def Own (w : World) (v : Value) (xs : List Nat) : Prop := w.ownsRow 0 86 1 v xs.length (lcells xs)

theorem Own.nil (w : World) : Own w (.slice none 0 0) [] := World.ownsRow_nil _ _ _ _
theorem Own.below {w w' : World} {v : Value} {xs : List Nat} (h : Own w v xs) (hb : Below w.heap.size w w') : Own w' v xs := by
  refine ⟨h.1, ?_⟩
  rcases h.2 with h2 | ⟨g, cap, cur, hv, hg, hh, r⟩
  · exact .inl h2
  · exact .inr ⟨g, cap, cur, hv, hg, by rw [hb.block g (Array.getElem?_eq_some_iff.1 hh).1]; exact hh, r⟩
theorem lcells_get (xs : List Nat) (i : Nat) (h : i < xs.length) : (lcells xs)[i]? = some (.int .u32 (xs.getD i 0 : Nat)) := by
  simp [lcells, List.getD, List.getElem?_eq_getElem h]
/-- The slice's shape, and its cells. -/
theorem Own.open_ {w : World} {v : Value} {xs : List Nat} (h : Own w v xs) : ∃ ao cap, v = .slice ao xs.length cap ∧ xs.length ≤ cap ∧ cap ≤ 9223372036854775807 ∧
    (∀ i, i < xs.length → ∃ b, ao = some ⟨b, 0, none⟩ ∧ w.cell? ⟨b, i, none⟩ = some (.int .u32 (xs.getD i 0 : Nat))) ∧ (ao = none → xs = [] ∧ cap = 0) ∧ (∀ b, ao = some b → ∃ g, b = ⟨g, 0, none⟩) := by
  rcases h.2 with ⟨rfl, hn⟩ | ⟨g, cap, cur, rfl, hg, hh, h1, h2, h3, h4⟩
  · have : xs = [] := List.eq_nil_of_length_eq_zero hn
    subst this
    exact ⟨none, 0, rfl, by simp, by simp, by simp, by simp, by simp⟩
  · refine ⟨some ⟨g, 0, none⟩, cap, rfl, h1, by simpa [maxLen] using h2, fun i hi => ⟨g, rfl, ?_⟩, by simp, by simp⟩
    have h5 := lcells_get xs i hi
    rw [← h4, Nat.mul_one, List.getElem?_take, if_pos hi] at h5
    simp only [World.cell?, hh]
    simpa using h5
/-- A cut at the end. -/
theorem Own.cut {w : World} {ao : Option Addr} {cap : Nat} {xs : List Nat} (h : Own w (.slice ao xs.length cap) xs) (k : Nat) (hk : k ≤ xs.length) : Own w (.slice ao k cap) (xs.take k) := by
  have hl : (xs.take k).length = k := by rw [List.length_take, Nat.min_eq_left hk]
  unfold Own World.ownsRow
  rw [hl]
  refine ⟨by simp [lcells, Nat.min_eq_left hk], ?_⟩
  rcases h.2 with ⟨hv, hn⟩ | ⟨g, cap', cur, hv, hg, hh, h1, h2, h3, h4⟩
  · simp only [Value.slice.injEq] at hv
    obtain ⟨rfl, hl0, rfl⟩ := hv
    exact .inl ⟨by rw [show k = 0 from by omega], by omega⟩
  · simp only [Value.slice.injEq] at hv
    obtain ⟨rfl, _, rfl⟩ := hv
    refine .inr ⟨g, cap, cur, rfl, hg, hh, by omega, h2, h3, ?_⟩
    rw [Nat.mul_one] at h4 ⊢
    have : List.take k (lcells xs) = lcells (xs.take k) := by simp [lcells, List.map_take]
    rw [← this, ← h4, List.take_take, Nat.min_eq_left hk]
theorem bcell {W w1 : World} (hb : Below W.heap.size W w1) : (∀ b o, b < W.heap.size → w1.cell? ⟨b, o, none⟩ = W.cell? ⟨b, o, none⟩) ∧ (∀ b o, b < W.heap.size → w1.frozen? ⟨b, o, none⟩ = W.frozen? ⟨b, o, none⟩) :=
  ⟨fun b o h => hb.cell (p := ⟨b, o, none⟩) h, fun b o h => hb.frozen (p := ⟨b, o, none⟩) h⟩
theorem lcells_set (zs : List Nat) (k c : Nat) : (lcells zs).set k (.int .u32 (c : Nat)) = lcells (zs.set k c) := by simp [lcells, List.map_set]
/-- A store into a row of limbs. -/
theorem Own.stored {w : World} {g n cap : Nat} {zs : List Nat} (h : Own w (.slice (some ⟨g, 0, none⟩) n cap) zs) (hn : zs.length = n) (k c : Nat) :
    Own (w.setCell ⟨g, k, none⟩ (.int .u32 (c : Nat))) (.slice (some ⟨g, 0, none⟩) n cap) (zs.set k c) := by
  subst hn
  have := (World.ownsRow.stored (w := w) h k (.int .u32 (c : Nat))).1
  rw [lcells_set] at this
  unfold Own
  rw [List.length_set]
  exact this
theorem Own.stored_int {w : World} {g n cap : Nat} {zs : List Nat} (h : Own w (.slice (some ⟨g, 0, none⟩) n cap) zs) (hn : zs.length = n) (k c : Nat) {z : Int} (hz : z = (c : Int)) :
    Own (w.setCell ⟨g, k, none⟩ (.int .u32 z)) (.slice (some ⟨g, 0, none⟩) n cap) (zs.set k c) := by rw [hz]; exact h.stored hn k c
theorem Own.cell {w : World} {g n cap : Nat} {zs : List Nat} (h : Own w (.slice (some ⟨g, 0, none⟩) n cap) zs) (hn : zs.length = n) (k : Nat) (hk : k < n) :
    w.cell? ⟨g, k, none⟩ = some (.int .u32 (zs.getD k 0 : Nat)) := by
  subst hn
  rw [World.ownsRow.cellAt h k (by omega), lcells_get zs k hk]
theorem Own.frozen {w : World} {g n cap : Nat} {zs : List Nat} (h : Own w (.slice (some ⟨g, 0, none⟩) n cap) zs) (hn : zs.length = n) (k : Nat) : w.frozen? ⟨g, k, none⟩ = false := by
  subst hn
  exact World.ownsRow.frozenAt h k
theorem Own.lt {w : World} {g n cap : Nat} {zs : List Nat} (h : Own w (.slice (some ⟨g, 0, none⟩) n cap) zs) : g < w.heap.size := (World.ownsRow.lt h g rfl).2
theorem Tryd.info86 : (Tryd.prog.info? 86).map (fun i => (i.zero, i.size, i.bytes)) = some (some (.int .u32 0), 1, 4) := by kernel_rfl
/-- 'make([]uint32, n)'. -/
theorem make_limbs (w : World) {ops : Array Oper} {rest : List Oper} {o : Oper} {a : Act} {Q : Exit → Act → World → Prop}
    (hg : o.guard = none) (l c : Operand) (hop : o.op = Op.makeSlice 64 l c) (L C : Int) (n : Nat) (hl : a.eval l = .int .i64 L) (hc : a.eval c = .int .i64 C) (hL : L = (n : Int)) (hC : C = (n : Int)) (b : n ≤ 4294967296)
    (hK : ∀ w', Own w' (.slice (some ⟨w.heap.size, 0, none⟩) n n) (List.replicate n 0) → Below w.heap.size w w' → wpList Tryd.prog ops Q rest (a.put o.dst (.slice (some ⟨w.heap.size, 0, none⟩) n n)) w') :
    wpList Tryd.prog ops Q (o :: rest) a w := by
  obtain ⟨i, hi, hz0, hz1, hz2⟩ := info_parts Tryd.info86
  refine wpList_make_full w hg l c 64 hop 0 86 i (.int .u32 0) 1 Tryd.underlying64 hi hz0 hz1 .i64 .i64 L C n hl hc hL hC (by rw [hz2]; omega) (by unfold maxLen; omega) (Nat.zero_le _) ?_
  intro w' hown hgrow
  refine hK w' ?_ ((Below.refl _ _).grown hgrow (Nat.le_refl _) (by simp))
  unfold Own
  rw [List.length_replicate]
  rw [show (Value.int IntKind.u32 0).cells = #[.int .u32 0] from rfl, toList_madeCells_one, Nat.mul_one] at hown
  simpa [lcells] using hown
/-- Block b holds cells of the type t. -/
def Ty (w : World) (b : Nat) (t : TypeId) : Prop := ∃ c fr, w.heap[b]? = some (.cells c t fr)
theorem Ty.lt {w : World} {b : Nat} {t : TypeId} (h : Ty w b t) : b < w.heap.size := by
  obtain ⟨c, fr, h⟩ := h
  exact (Array.getElem?_eq_some_iff.1 h).1
theorem Ty.below {w w' : World} {b B : Nat} {t : TypeId} (h : Ty w b t) (hb : Below B w w') (hB : b < B) : Ty w' b t := by
  obtain ⟨c, fr, h⟩ := h
  exact ⟨c, fr, by rw [hb.block b hB]; exact h⟩
theorem Ty.setCell {w : World} {b : Nat} {t : TypeId} (h : Ty w b t) (a : Addr) (u : Value) : Ty (w.setCell a u) b t := by
  obtain ⟨c, fr, h⟩ := h
  by_cases hb : b = a.block
  · subst hb
    simp only [Ty, World.setCell, Array.getElem?_modify, h]
    simp
  · exact ⟨c, fr, by rw [Below.heap_setCell _ _ _ _ hb]; exact h⟩
theorem Ty.alloc {w : World} {b : Nat} {t : TypeId} (h : Ty w b t) (o : Obj) : Ty (w.alloc o) b t := h.below ((Below.refl w.heap.size w).alloc (Nat.le_refl _) o) h.lt
theorem Ty.new (w : World) (c : Array Value) (t : TypeId) : Ty (w.alloc (.cells c t)) w.heap.size t := ⟨c, (0, 0), heap_alloc_new w _⟩
theorem Ty.at_ (w : World) (c : Array Value) (t : TypeId) {b : Nat} (h : b = w.heap.size) : Ty (w.alloc (.cells c t)) b t := by rw [h]; exact Ty.new w c t
theorem Ty.drew {w : World} {b : Nat} {t : TypeId} (h : Ty w b t) : Ty w.drew b t := h
/-- No row of limbs has turned. -/
def KU (w w' : World) : Prop := ∀ (b : Nat) (arr : Array Value), w.heap[b]? = some (.cells arr 86 (0, 0)) → w'.heap[b]? = some (.cells arr 86 (0, 0))
theorem KU.refl (w : World) : KU w w := fun _ _ h => h
theorem KU.trans {a b c : World} (h : KU a b) (k : KU b c) : KU a c := fun i arr hi => k i arr (h i arr hi)
theorem KU.of_below {w w' : World} (h : Below w.heap.size w w') : KU w w' := fun i arr hi => by rw [h.block i (Array.getElem?_eq_some_iff.1 hi).1]; exact hi
theorem KU.alloc {a w : World} (h : KU a w) (o : Obj) : KU a (w.alloc o) := h.trans (KU.of_below ((Below.refl _ w).alloc (Nat.le_refl _) o))
theorem KU.drew {a w : World} (h : KU a w) : KU a w.drew := h
theorem KU.setCell {a w : World} (h : KU a w) {b o : Nat} {t : TypeId} (ht : Ty w b t) (hne : t ≠ 86) (u : Value) : KU a (w.setCell ⟨b, o, none⟩ u) := by
  intro i arr hi
  have h1 := h i arr hi
  obtain ⟨c, fr, h2⟩ := ht
  by_cases hb : i = b
  · subst hb
    rw [h1] at h2
    simp only [Option.some.injEq, Obj.cells.injEq] at h2
    exact absurd h2.2.1.symm hne
  · rw [Below.heap_setCell _ _ _ _ hb]; exact h1
theorem Own.keep {w w' : World} {v : Value} {xs : List Nat} (h : Own w v xs) (hk : KU w w') : Own w' v xs := by
  refine ⟨h.1, ?_⟩
  rcases h.2 with h2 | ⟨g, cap, cur, hv, hg, hh, r⟩
  · exact .inl h2
  · exact .inr ⟨g, cap, cur, hv, hg, hk g cur hh, r⟩
theorem Hid.mk {p : Prop} (h : p) : Hid p := h
theorem ret_int {k : IntKind} {a b : Int} (h : a = b) : Ending.returned (.int k a) = .returned (.int k b) := by rw [h]
end Go.Proofs.YtjhcbenldfplcaaDoor
