import Derived.Test.YtfjbijpagaipnaaGreatDoorC04
import Derived.Test.YtfjbijpagaipnaaGreatDoorC09
/- matrices.Store.keep. -/
namespace Go.Proofs.YtfjbijpagaipnaaGreatDoor
open Go.RowKit

theorem cellS {w : World} {b i j : Nat} {u x : Value} (h : w.cell? ⟨b, j, none⟩ = some x) (hij : i ≠ j) : (w.setCell ⟨b, i, none⟩ u).cell? ⟨b, j, none⟩ = some x := by
  rw [World.cell?_setCell_other _ _ _ _ (fun e => hij (by injection e))]; exact h
theorem Fr.setOwn {b o : Nat} {w W : World} {t : TypeId} (h : Fr b w W) (ht : Ty W b t) (h1 : t ≠ 165) (h2 : t ≠ 94) (u : Value) : Fr b w (W.setCell ⟨b, o, none⟩ u) := by
  refine h.trans ⟨⟨rfl, rfl, rfl, by simp [World.setCell], fun k _ hne => ?_⟩, KT.setCell (KT.refl _) ht h1 h2 u⟩
  rw [Below.heap_setCell _ _ _ _ (fun e => hne (by simp [e]))]
theorem frozen1 {w : World} {a : Addr} (h : w.frozen? a = false) (hb : a.block < w.heap.size) : ∀ o1, (w.alloc o1).frozen? a = false := fun o1 => by
  rw [Below.frozen (w := w) (B := w.heap.size) ((Below.refl _ _).alloc (Nat.le_refl _) _) hb]; exact h
theorem frozenS {w : World} {b i j : Nat} {u : Value} (h : w.frozen? ⟨b, j, none⟩ = false) : (w.setCell ⟨b, i, none⟩ u).frozen? ⟨b, j, none⟩ = false := by simpa using h
theorem sizeS (w : World) (a : Addr) (u : Value) : (w.setCell a u).heap.size = w.heap.size := by simp [World.setCell]
/-- The store with one matrix more. -/
theorem St.push {w : World} {b : Nat} {ms : List (Nat × Nat × Value)} (h : St w b ms) (hn : ms.length < 24) (r c : Nat) (sl : Value) {u : Int} (hu : u = ((ms.length + 1 : Nat) : Int)) :
    St ((((((w.setCell ⟨b, 120, none⟩ (.int .i64 u)).setCell ⟨b, ms.length * 5, none⟩ (.bool true)).setCell ⟨b, ms.length * 5 + 1, none⟩ (.int .i64 (ms.length : Nat))).setCell ⟨b, ms.length * 5 + 2, none⟩ (.int .i64 (r : Nat))).setCell ⟨b, ms.length * 5 + 3, none⟩ (.int .i64 (c : Nat))).setCell ⟨b, ms.length * 5 + 4, none⟩ sl) b (ms ++ [(r, c, sl)]) := by
  subst hu
  obtain ⟨h0, arr, h1, h2, h3, h4, h5⟩ := h
  have e1 := heap_setCell_same w b 120 arr 109 (.int .i64 ((ms.length + 1 : Nat) : Int)) h1
  have e2 := heap_setCell_same _ b (ms.length * 5) _ 109 (.bool true) e1
  have e3 := heap_setCell_same _ b (ms.length * 5 + 1) _ 109 (.int .i64 (ms.length : Nat)) e2
  have e4 := heap_setCell_same _ b (ms.length * 5 + 2) _ 109 (.int .i64 (r : Nat)) e3
  have e5 := heap_setCell_same _ b (ms.length * 5 + 3) _ 109 (.int .i64 (c : Nat)) e4
  have e6 := heap_setCell_same _ b (ms.length * 5 + 4) _ 109 sl e5
  have sne : ∀ (a : Array Value) (i j : Nat) (v : Value), i ≠ j → (a.setIfInBounds i v)[j]? = a[j]? := fun a i j v h => Array.getElem?_setIfInBounds_ne h
  have seq : ∀ (a : Array Value) (i : Nat) (v : Value), i < a.size → (a.setIfInBounds i v)[i]? = some v := fun a i v h => by rw [Array.getElem?_setIfInBounds_self, if_pos h]
  refine ⟨by simp; omega, _, e6, by simp [h2], ?_, ?_, ?_⟩
  · rw [sne _ _ _ _ (by omega), sne _ _ _ _ (by omega), sne _ _ _ _ (by omega), sne _ _ _ _ (by omega), sne _ _ _ _ (by omega), seq _ _ _ (by omega)]
    simp
  · intro i hi
    by_cases hin : i < ms.length
    · rw [show (ms ++ [(r, c, sl)]).getD i (0, 0, .slice none 0 0) = ms.getD i (0, 0, .slice none 0 0) from by simp [List.getD, List.getElem?_append_left hin]]
      obtain ⟨a0, a1, a2, a3, a4⟩ := h4 i hin
      refine ⟨?_, ?_, ?_, ?_, ?_⟩
      all_goals rw [sne _ _ _ _ (by omega), sne _ _ _ _ (by omega), sne _ _ _ _ (by omega), sne _ _ _ _ (by omega), sne _ _ _ _ (by omega), sne _ _ _ _ (by omega)]
      all_goals assumption
    · have hie : i = ms.length := by simp at hi; omega
      subst hie
      rw [show (ms ++ [(r, c, sl)]).getD ms.length (0, 0, .slice none 0 0) = (r, c, sl) from by simp [List.getD]]
      refine ⟨?_, ?_, ?_, ?_, ?_⟩
      · rw [sne _ _ _ _ (by omega), sne _ _ _ _ (by omega), sne _ _ _ _ (by omega), sne _ _ _ _ (by omega), seq _ _ _ (by simp; omega)]
      · rw [sne _ _ _ _ (by omega), sne _ _ _ _ (by omega), sne _ _ _ _ (by omega), seq _ _ _ (by simp; omega)]
      · rw [sne _ _ _ _ (by omega), sne _ _ _ _ (by omega), seq _ _ _ (by simp; omega)]
      · rw [sne _ _ _ _ (by omega), seq _ _ _ (by simp; omega)]
      · rw [seq _ _ _ (by simp; omega)]
  · intro i hi h24
    simp at hi
    rw [sne _ _ _ _ (by omega), sne _ _ _ _ (by omega), sne _ _ _ _ (by omega), sne _ _ _ _ (by omega), sne _ _ _ _ (by omega), sne _ _ _ _ (by omega)]
    exact h5 i (by omega) h24

theorem alloc_drew (X : World) (o : Obj) : Below X.heap.size X (X.alloc o).drew := ((Below.refl _ _).alloc (Nat.le_refl _) _).drew
theorem St.pushFr {w : World} {b : Nat} {ms : List (Nat × Nat × Value)} (h : St w b ms) (u0 u1 u2 u3 u4 u5 : Value) (i1 i2 i3 i4 i5 : Nat) :
    Fr b w ((((((w.setCell ⟨b, 120, none⟩ u0).setCell ⟨b, i1, none⟩ u1).setCell ⟨b, i2, none⟩ u2).setCell ⟨b, i3, none⟩ u3).setCell ⟨b, i4, none⟩ u4).setCell ⟨b, i5, none⟩ u5) := by
  have t0 := h.ty
  have t1 := t0.setCell ⟨b, 120, none⟩ u0
  have t2 := t1.setCell ⟨b, i1, none⟩ u1
  have t3 := t2.setCell ⟨b, i2, none⟩ u2
  have t4 := t3.setCell ⟨b, i3, none⟩ u3
  have t5 := t4.setCell ⟨b, i4, none⟩ u4
  have f1 := (Fr.refl b w).setOwn (o := 120) t0 (by decide) (by decide) u0
  have f2 := f1.setOwn (o := i1) t1 (by decide) (by decide) u1
  have f3 := f2.setOwn (o := i2) t2 (by decide) (by decide) u2
  have f4 := f3.setOwn (o := i3) t3 (by decide) (by decide) u3
  have f5 := f4.setOwn (o := i4) t4 (by decide) (by decide) u4
  exact f5.setOwn (o := i5) t5 (by decide) (by decide) u5

set_option maxRecDepth 100000 in
set_option maxHeartbeats 1000000 in
theorem keep_ok (b r c : Nat) (ao : Option Addr) (m cap : Nat) (ms : List (Nat × Nat × Value)) (w : World) (hst : St w b ms) (hn : ms.length < 24) :
    Calls Tryz.prog 48 #[.pointer (some ⟨b, 0, none⟩), .agg #[.int .i64 r, .int .i64 c, .slice ao m cap]] w fun e w' => e = .returned (.int .i64 (ms.length : Nat)) ∧ St w' b (ms ++ [(r, c, .slice ao m cap)]) ∧ Fr b w w' := by
  have hbl := hst.lt
  obtain ⟨arr, h2, hc, hf, h3, h4, h5⟩ := hst.cell
  have HC := Hid.mk (And.intro hc (And.intro h4 h5))
  have HS := Hid.mk hst
  obtain ⟨n, hnn⟩ : ∃ n, n = ms.length := ⟨_, rfl⟩
  rw [← hnn] at hn h3 ⊢
  have HN := Hid.mk hnn
  have n0 : w.cell? ⟨b, 120, none⟩ = some (.int .i64 (n : Nat)) := by rw [hc]; exact h3
  have x0 : w.cell? ⟨b, n * 5, none⟩ = some (.bool false) := by rw [hc]; exact h5 n (by omega) hn
  obtain ⟨v1, x1⟩ : ∃ v1, w.cell? ⟨b, n * 5 + 1, none⟩ = some v1 := ⟨arr[n * 5 + 1]'(by omega), by rw [hc]; exact Array.getElem?_eq_getElem _⟩
  obtain ⟨v2, x2⟩ : ∃ v2, w.cell? ⟨b, n * 5 + 2, none⟩ = some v2 := ⟨arr[n * 5 + 2]'(by omega), by rw [hc]; exact Array.getElem?_eq_getElem _⟩
  obtain ⟨v3, x3⟩ : ∃ v3, w.cell? ⟨b, n * 5 + 3, none⟩ = some v3 := ⟨arr[n * 5 + 3]'(by omega), by rw [hc]; exact Array.getElem?_eq_getElem _⟩
  obtain ⟨v4, x4⟩ : ∃ v4, w.cell? ⟨b, n * 5 + 4, none⟩ = some v4 := ⟨arr[n * 5 + 4]'(by omega), by rw [hc]; exact Array.getElem?_eq_getElem _⟩
  have g120 := cell1 n0
  have z120 := frozen1 (hf 120) hbl
  have g0 : ∀ u, ∀ o, ((w.setCell ⟨b, 120, none⟩ u).alloc o).cell? ⟨b, n * 5, none⟩ = some (.bool false) := fun u => cell1 (cellS x0 (by omega))
  have g1 : ∀ u u0, ∀ o, (((w.setCell ⟨b, 120, none⟩ u).setCell ⟨b, n * 5, none⟩ u0).alloc o).cell? ⟨b, n * 5 + 1, none⟩ = some v1 := fun u u0 => cell1 (cellS (cellS x1 (by omega)) (by omega))
  have g2 : ∀ u u0 u1, ∀ o, ((((w.setCell ⟨b, 120, none⟩ u).setCell ⟨b, n * 5, none⟩ u0).setCell ⟨b, n * 5 + 1, none⟩ u1).alloc o).cell? ⟨b, n * 5 + 2, none⟩ = some v2 := fun u u0 u1 => cell1 (cellS (cellS (cellS x2 (by omega)) (by omega)) (by omega))
  have g3 : ∀ u u0 u1 u2, ∀ o, (((((w.setCell ⟨b, 120, none⟩ u).setCell ⟨b, n * 5, none⟩ u0).setCell ⟨b, n * 5 + 1, none⟩ u1).setCell ⟨b, n * 5 + 2, none⟩ u2).alloc o).cell? ⟨b, n * 5 + 3, none⟩ = some v3 := fun u u0 u1 u2 => cell1 (cellS (cellS (cellS (cellS x3 (by omega)) (by omega)) (by omega)) (by omega))
  have g4 : ∀ u u0 u1 u2 u3, ∀ o, ((((((w.setCell ⟨b, 120, none⟩ u).setCell ⟨b, n * 5, none⟩ u0).setCell ⟨b, n * 5 + 1, none⟩ u1).setCell ⟨b, n * 5 + 2, none⟩ u2).setCell ⟨b, n * 5 + 3, none⟩ u3).alloc o).cell? ⟨b, n * 5 + 4, none⟩ = some v4 := fun u u0 u1 u2 u3 => cell1 (cellS (cellS (cellS (cellS (cellS x4 (by omega)) (by omega)) (by omega)) (by omega)) (by omega))
  have z0 : ∀ u, ∀ o, ((w.setCell ⟨b, 120, none⟩ u).alloc o).frozen? ⟨b, n * 5, none⟩ = false := fun u => frozen1 (frozenS (hf _)) (by rw [sizeS]; exact hbl)
  have z1 : ∀ u u0, ∀ o, (((w.setCell ⟨b, 120, none⟩ u).setCell ⟨b, n * 5, none⟩ u0).alloc o).frozen? ⟨b, n * 5 + 1, none⟩ = false := fun u u0 => frozen1 (frozenS (frozenS (hf _))) (by rw [sizeS, sizeS]; exact hbl)
  have z2 : ∀ u u0 u1, ∀ o, ((((w.setCell ⟨b, 120, none⟩ u).setCell ⟨b, n * 5, none⟩ u0).setCell ⟨b, n * 5 + 1, none⟩ u1).alloc o).frozen? ⟨b, n * 5 + 2, none⟩ = false := fun u u0 u1 => frozen1 (frozenS (frozenS (frozenS (hf _)))) (by rw [sizeS, sizeS, sizeS]; exact hbl)
  have z3 : ∀ u u0 u1 u2, ∀ o, (((((w.setCell ⟨b, 120, none⟩ u).setCell ⟨b, n * 5, none⟩ u0).setCell ⟨b, n * 5 + 1, none⟩ u1).setCell ⟨b, n * 5 + 2, none⟩ u2).alloc o).frozen? ⟨b, n * 5 + 3, none⟩ = false := fun u u0 u1 u2 => frozen1 (frozenS (frozenS (frozenS (frozenS (hf _))))) (by rw [sizeS, sizeS, sizeS, sizeS]; exact hbl)
  have z4 : ∀ u u0 u1 u2 u3, ∀ o, ((((((w.setCell ⟨b, 120, none⟩ u).setCell ⟨b, n * 5, none⟩ u0).setCell ⟨b, n * 5 + 1, none⟩ u1).setCell ⟨b, n * 5 + 2, none⟩ u2).setCell ⟨b, n * 5 + 3, none⟩ u3).alloc o).frozen? ⟨b, n * 5 + 4, none⟩ = false := fun u u0 u1 u2 u3 => frozen1 (frozenS (frozenS (frozenS (frozenS (frozenS (hf _)))))) (by rw [sizeS, sizeS, sizeS, sizeS, sizeS]; exact hbl)
  have GG := Hid.mk (And.intro g120 (And.intro z120 (And.intro g0 (And.intro g1 (And.intro g2 (And.intro g3 (And.intro g4 (And.intro z0 (And.intro z1 (And.intro z2 (And.intro z3 z4)))))))))))
  clear g120 z120 g0 g1 g2 g3 g4 z0 z1 z2 z3 z4 x0 x1 x2 x3 x4 n0 hst hc hf h2 h3 h4 h5 hnn
  go_enter Tryz.func48, Tryz.ntmps48
  go_wp2_with fail
  go_loop [5] (fun i => ∃ k : Nat, k ≤ n ∧ i = .int .i64 k) (fun i => n - (intOf i).toNat)
  case atStart => exact ⟨0, Nat.zero_le _, rfl⟩
  case round =>
    obtain ⟨k, hk, rfl⟩ := hrel
    by_cases hkn : k < n
    · have c0 := cell1 (show w.cell? ⟨b, k * 5, none⟩ = some (.bool true) from by rw [HC.out.1]; exact (HC.out.2.1 k (by have := HN.out; omega)).1)
      go_wp2_with fail
      go_round
      case rel => exact ⟨k + 1, by omega, by go_num⟩
      case measure => simp [intOf]; omega
    · have hke : k = n := by omega
      have c0 := cell1 (show w.cell? ⟨b, n * 5, none⟩ = some (.bool false) from by rw [HC.out.1]; exact HC.out.2.2 n (by have := HN.out; omega) hn)
      obtain ⟨g120, z120, g0, g1, g2, g3, g4, z0, z1, z2, z3, z4⟩ := GG.out
      subst hke
      go_wp2_with fail
      go_region
      all_goals
        go_wp2_with fail
        go_ret
        have hke := HN.out
        subst hke
        have P := HS.out.push hn r c (.slice ao m cap) (u := ((ms.length : Nat) : Int) + 1) (by omega)
        have F := HS.out.pushFr (.int .i64 (((ms.length : Nat) : Int) + 1)) (.bool true) (.int .i64 (ms.length : Nat)) (.int .i64 (r : Nat)) (.int .i64 (c : Nat)) (.slice ao m cap) (ms.length * 5) (ms.length * 5 + 1) (ms.length * 5 + 2) (ms.length * 5 + 3) (ms.length * 5 + 4)
        exact ⟨rfl, P.below (alloc_drew _ _), F.trans (Fr.of_below (alloc_drew _ _))⟩
end Go.Proofs.YtfjbijpagaipnaaGreatDoor

/- matrices.Store with gaps: place, find, room, keep, Free. -/
namespace Go.Proofs.YtfjbijpagaipnaaGreatDoor
open Go.RowKit

/-- What one slot holds: a handle, sides, cells. -/
abbrev Slt := Option (Nat × Nat × Nat × Value)
def SlotIs (arr : Array Value) (i : Nat) : Slt → Prop
  | none => arr[i * 5]? = some (.bool false)
  | some x => arr[i * 5]? = some (.bool true) ∧ arr[i * 5 + 1]? = some (.int .i64 (x.1 : Nat)) ∧ arr[i * 5 + 2]? = some (.int .i64 (x.2.1 : Nat)) ∧ arr[i * 5 + 3]? = some (.int .i64 (x.2.2.1 : Nat)) ∧ arr[i * 5 + 4]? = some x.2.2.2
/-- The store at block b: its slots, the next handle. -/
def Sg (w : World) (b : Nat) (sl : List Slt) (nx : Nat) : Prop :=
  sl.length = 24 ∧ ∃ arr, w.heap[b]? = some (.cells arr 109 (0, 0)) ∧ arr.size = 121 ∧ arr[120]? = some (.int .i64 (nx : Nat)) ∧ ∀ i, i < 24 → SlotIs arr i (sl.getD i none)
theorem Sg.lt {w : World} {b : Nat} {sl : List Slt} {nx : Nat} (h : Sg w b sl nx) : b < w.heap.size := by
  obtain ⟨_, arr, h1, _⟩ := h
  exact (Array.getElem?_eq_some_iff.1 h1).1
theorem Sg.ty {w : World} {b : Nat} {sl : List Slt} {nx : Nat} (h : Sg w b sl nx) : Ty w b 109 := by
  obtain ⟨_, arr, h1, _⟩ := h
  exact ⟨_, _, h1⟩
theorem Sg.of_block {w w' : World} {b : Nat} {sl : List Slt} {nx : Nat} (h : Sg w b sl nx) (hb : w'.heap[b]? = w.heap[b]?) : Sg w' b sl nx := by
  obtain ⟨h0, arr, h1, h2⟩ := h
  exact ⟨h0, arr, by rw [hb]; exact h1, h2⟩
theorem Sg.below {w w' : World} {b : Nat} {sl : List Slt} {nx : Nat} (h : Sg w b sl nx) (hb : Below w.heap.size w w') : Sg w' b sl nx := h.of_block (hb.block b h.lt)
theorem Sg.fr {w w' : World} {b p : Nat} {sl : List Slt} {nx : Nat} (h : Sg w b sl nx) (hf : Fr p w w') (hne : b ≠ p) : Sg w' b sl nx := h.of_block (hf.1.block b h.lt (by simpa using hne))
theorem Sg.cell {w : World} {b : Nat} {sl : List Slt} {nx : Nat} (h : Sg w b sl nx) : ∃ arr : Array Value, arr.size = 121 ∧ (∀ j, w.cell? ⟨b, j, none⟩ = arr[j]?) ∧ (∀ j, w.frozen? ⟨b, j, none⟩ = false) ∧ arr[120]? = some (.int .i64 (nx : Nat)) ∧
    (∀ i, i < 24 → SlotIs arr i (sl.getD i none)) := by
  obtain ⟨h0, arr, h1, h2, h3, h4⟩ := h
  exact ⟨arr, h2, fun j => by simp [World.cell?, h1], fun j => by simp [World.frozen?, h1], h3, h4⟩
/-- Where a handle lies: a slot, or none (-1). -/
def PlaceIs (sl : List Slt) (h i : Int) : Prop := (∃ k : Nat, k < 24 ∧ i = (k : Int) ∧ ∃ x, sl.getD k none = some x ∧ (x.1 : Int) = h) ∨ (i = -1 ∧ ∀ k, k < 24 → ∀ x, sl.getD k none = some x → (x.1 : Int) ≠ h)

set_option maxRecDepth 100000 in
set_option maxHeartbeats 2000000 in
theorem place_any (b : Nat) (h : Int) (sl : List Slt) (nx : Nat) (w : World) (hst : Sg w b sl nx) :
    Calls Tryz.prog 75 #[.pointer (some ⟨b, 0, none⟩), .int .i64 h] w fun e w' => (∃ i, e = .returned (.int .i64 i) ∧ PlaceIs sl h i) ∧ w' = w := by
  obtain ⟨arr, h2, hc, hf, h3, h4⟩ := hst.cell
  have HC := Hid.mk (And.intro hc h4)
  clear hst hc hf h3 h4 h2
  go_enter Tryz.func75, Tryz.ntmps75
  go_wp2_with fail
  go_loop [5] (fun i => ∃ k : Nat, k ≤ 24 ∧ i = .int .i64 k ∧ Hid (∀ j, j < k → ∀ x, sl.getD j none = some x → (x.1 : Int) ≠ h)) (fun i => 24 - (intOf i).toNat)
  case atStart => exact ⟨0, by omega, rfl, Hid.mk (fun j hj => absurd hj (by omega))⟩
  case round =>
    obtain ⟨k, hk, rfl, HI⟩ := hrel
    by_cases hk24 : k < 24
    · have hs := HC.out.2 k hk24
      cases hx : sl.getD k none with
      | none =>
        rw [hx] at hs
        have c0 : w.cell? ⟨b, k * 5, none⟩ = some (.bool false) := by rw [HC.out.1]; exact hs
        have HX := Hid.mk hx
        clear hs hx
        go_wp2_with fail
        go_round
        case rel =>
          refine ⟨k + 1, by omega, by go_num, Hid.mk fun j hj x hjx => ?_⟩
          by_cases hjk : j = k
          · subst hjk; rw [HX.out] at hjx; cases hjx
          · exact HI.out j (by omega) x hjx
        case measure => simp [intOf]; omega
      | some x =>
        rw [hx] at hs
        obtain ⟨e0, e1, -, -, -⟩ := hs
        have c0 : w.cell? ⟨b, k * 5, none⟩ = some (.bool true) := by rw [HC.out.1]; exact e0
        have c1 : w.cell? ⟨b, k * 5 + 1, none⟩ = some (.int .i64 (x.1 : Nat)) := by rw [HC.out.1]; exact e1
        have HX := Hid.mk hx
        clear e0 e1 hx
        obtain ⟨hd, hhd⟩ : ∃ hd, hd = x.1 := ⟨_, rfl⟩
        rw [← hhd] at c1
        have HD := Hid.mk hhd
        clear hhd
        by_cases hkh : (hd : Int) = h
        · have hb : ((hd : Int) == h) = true := beq_iff_eq.2 hkh
          have HK := Hid.mk hkh
          clear hkh
          go_wp2_with fail
          go_ret
          exact ⟨⟨_, rfl, .inl ⟨k, hk24, rfl, x, HX.out, by rw [← HD.out]; exact HK.out⟩⟩, rfl⟩
        · have hb : ((hd : Int) == h) = false := beq_eq_false_iff_ne.2 hkh
          have HK := Hid.mk hkh
          clear hkh
          go_wp2_with fail
          go_round
          case rel =>
            refine ⟨k + 1, by omega, by go_num, Hid.mk fun j hj y hjy => ?_⟩
            by_cases hjk : j = k
            · subst hjk
              rw [HX.out] at hjy
              cases hjy
              rw [← HD.out]; exact HK.out
            · exact HI.out j (by omega) y hjy
          case measure => simp [intOf]; omega
    · go_wp2_with fail
      go_ret
      exact ⟨⟨_, rfl, .inr ⟨rfl, fun j hj => HI.out j (by omega)⟩⟩, rfl⟩

theorem count_take (sl : List Slt) (k : Nat) (hk : k < sl.length) : (sl.take (k + 1)).countP Option.isNone = (sl.take k).countP Option.isNone + (if (sl.getD k none).isNone then 1 else 0) := by
  rw [List.take_add_one, List.countP_append, List.getElem?_eq_getElem hk]
  simp [List.getD, List.getElem?_eq_getElem hk]
set_option maxRecDepth 100000 in
set_option maxHeartbeats 2000000 in
theorem room_any (b : Nat) (sl : List Slt) (nx : Nat) (w : World) (hst : Sg w b sl nx) :
    Calls Tryz.prog 47 #[.pointer (some ⟨b, 0, none⟩)] w fun e w' => e = .returned (.int .i64 ((sl.countP Option.isNone : Nat) : Int)) ∧ w' = w := by
  have hl := hst.1
  obtain ⟨arr, h2, hc, hf, h3, h4⟩ := hst.cell
  have HC := Hid.mk (And.intro hc (And.intro h4 hl))
  clear hst hc hf h3 h4 h2 hl
  go_enter Tryz.func47, Tryz.ntmps47
  go_wp2_with fail
  go_loop [3, 4] (fun f i => ∃ k ff : Nat, k ≤ 24 ∧ i = .int .i64 k ∧ f = .int .i64 ff ∧ ff ≤ k ∧ Hid (ff = (sl.take k).countP Option.isNone)) (fun _ i => 24 - (intOf i).toNat)
  case atStart => exact ⟨0, 0, by omega, rfl, rfl, by omega, Hid.mk (by simp)⟩
  case round =>
    obtain ⟨k, ff, hk, rfl, rfl, hff, HI⟩ := hrel
    by_cases hk24 : k < 24
    · have hs := HC.out.2.1 k hk24
      cases hx : sl.getD k none with
      | some x =>
        rw [hx] at hs
        have c0 : w.cell? ⟨b, k * 5, none⟩ = some (.bool true) := by rw [HC.out.1]; exact hs.1
        have HX := Hid.mk hx
        clear hs hx
        go_wp2_with fail
        go_round
        case rel => exact ⟨k + 1, ff, by omega, by go_num, rfl, by omega, Hid.mk (by rw [count_take sl k (by have := HC.out.2.2; omega), HX.out, ← HI.out]; simp)⟩
        case measure => simp [intOf]; omega
      | none =>
        rw [hx] at hs
        have c0 : w.cell? ⟨b, k * 5, none⟩ = some (.bool false) := by rw [HC.out.1]; exact hs
        have HX := Hid.mk hx
        clear hs hx
        go_wp2_with fail
        go_round
        case rel => exact ⟨k + 1, ff + 1, by omega, by go_num, by go_num, by omega, Hid.mk (by rw [count_take sl k (by have := HC.out.2.2; omega), HX.out, ← HI.out]; simp)⟩
        case measure => simp [intOf]; omega
    · go_wp2_with fail
      go_ret
      refine ⟨ret_int ?_, rfl⟩
      have h1 := HI.out
      rw [List.take_of_length_le (by have := HC.out.2.2; omega)] at h1
      omega

/-- What find hands back. -/
def FindIs (sl : List Slt) (h : Int) (v : Value) (ok : Bool) : Prop := (ok = true ∧ ∃ k, k < 24 ∧ ∃ x, sl.getD k none = some x ∧ (x.1 : Int) = h ∧ v = .agg #[.int .i64 (x.2.1 : Nat), .int .i64 (x.2.2.1 : Nat), x.2.2.2]) ∨
  (ok = false ∧ v = .agg #[.int .i64 0, .int .i64 0, .slice none 0 0] ∧ ∀ k, k < 24 → ∀ x, sl.getD k none = some x → (x.1 : Int) ≠ h)
set_option maxRecDepth 100000 in
set_option maxHeartbeats 2000000 in
theorem find_any (b : Nat) (h : Int) (sl : List Slt) (nx : Nat) (w : World) (hst : Sg w b sl nx) (hsl : ∀ k x, sl.getD k none = some x → ∃ ao n cap, x.2.2.2 = .slice ao n cap) :
    Calls Tryz.prog 41 #[.pointer (some ⟨b, 0, none⟩), .int .i64 h] w fun e w' => (∃ v ok, e = .returned (.tuple #[v, .bool ok]) ∧ FindIs sl h v ok) ∧ Below w.heap.size w w' := by
  have hbl := hst.lt
  have HS := Hid.mk (And.intro hst hsl)
  clear hst hsl
  go_enter Tryz.func41, Tryz.ntmps41
  go_wp2_with fail
  refine (place_any b h sl nx _ (HS.out.1.below ((Below.refl _ _).alloc (Nat.le_refl _) _))).mono ?_
  rintro e w' ⟨⟨i, rfl, hi⟩, rfl⟩
  rcases hi with ⟨k, hk, rfl, x, hx, hxh⟩ | ⟨rfl, hno⟩
  · obtain ⟨ao, n, cap, hv⟩ := HS.out.2 k x hx
    obtain ⟨arr, h2, hc, hf, h3, h4⟩ := HS.out.1.cell
    have hs := h4 k hk
    rw [hx] at hs
    obtain ⟨e0, e1, e2, e3, e4⟩ := hs
    obtain ⟨hd, r, c, v⟩ := x
    simp only at hv e2 e3 e4 hxh
    subst hv
    have d2 := cell1 (show w.cell? ⟨b, k * 5 + 2, none⟩ = some (.int .i64 r) from by rw [hc]; exact e2)
    have d3 := cell1 (show w.cell? ⟨b, k * 5 + 3, none⟩ = some (.int .i64 c) from by rw [hc]; exact e3)
    have d4 := cell1 (show w.cell? ⟨b, k * 5 + 4, none⟩ = some (.slice ao n cap) from by rw [hc]; exact e4)
    have HX := Hid.mk (And.intro hx hxh)
    clear hc hf h3 h4 h2 e0 e1 e2 e3 e4 hx hxh
    go_wp2_with fail
    refine bodyPost_ret (v := .tuple #[.agg #[.int .i64 r, .int .i64 c, .slice ao n cap], .bool true]) ?_ rfl ?_
    · (simp [results, Tryz.results41, go_sem]; done)
    · exact ⟨⟨_, _, rfl, .inl ⟨rfl, k, hk, _, HX.out.1, HX.out.2, rfl⟩⟩, by repeat (first | exact Below.refl _ _ | refine Below.alloc ?_ (by simp <;> omega) _)⟩
  · have HN := Hid.mk hno
    clear hno
    go_wp2_with fail
    refine bodyPost_ret (v := .tuple #[.agg #[.int .i64 0, .int .i64 0, .slice none 0 0], .bool false]) ?_ rfl ?_
    · (simp [results, Tryz.results41, go_sem]; done)
    · exact ⟨⟨_, _, rfl, .inr ⟨rfl, rfl, HN.out⟩⟩, by repeat (first | exact Below.refl _ _ | refine Below.alloc ?_ (by simp <;> omega) _)⟩
end Go.Proofs.YtfjbijpagaipnaaGreatDoor
