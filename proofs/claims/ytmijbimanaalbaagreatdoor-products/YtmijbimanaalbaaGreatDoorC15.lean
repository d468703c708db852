import Derived.Test.YtmijbimanaalbaaGreatDoorC14
/- matrices.Store with gaps: place, find, room, keep, Free. -/
namespace Go.Proofs.YtmijbimanaalbaaGreatDoor
open Go.RowKit

/-- What one slot holds: a handle, sides, cells. -/
abbrev Slt := Option (Nat × Nat × Nat × Value)
def SlotIs (arr : Array Value) (i : Nat) : Slt → Prop
  | none => arr[i * 5]? = some (.bool false)
  | some x => arr[i * 5]? = some (.bool true) ∧ arr[i * 5 + 1]? = some (.int .i64 (x.1 : Nat)) ∧ arr[i * 5 + 2]? = some (.int .i64 (x.2.1 : Nat)) ∧ arr[i * 5 + 3]? = some (.int .i64 (x.2.2.1 : Nat)) ∧ arr[i * 5 + 4]? = some x.2.2.2
/-- The store at block b: its slots, the next handle. -/
def Sg (w : World) (b : Nat) (sl : List Slt) (nx : Nat) : Prop :=
  sl.length = 24 ∧ ∃ arr, w.heap[b]? = some (.cells arr 109 (0, 0)) ∧ arr.size = 121 ∧ arr[120]? = some (.int .i64 (nx : Nat)) ∧ ∀ i, i < 24 → SlotIs arr i (sl.getD i none)
theorem Sg.lt {w : World} {b : Nat} {sl : List Slt} {nx : Nat} (h : Sg w b sl nx) : b < w.heap.size := by
  obtain ⟨_, arr, h1, _⟩ := h
  exact (Array.getElem?_eq_some_iff.1 h1).1
theorem Sg.ty {w : World} {b : Nat} {sl : List Slt} {nx : Nat} (h : Sg w b sl nx) : Ty w b 109 := by
  obtain ⟨_, arr, h1, _⟩ := h
  exact ⟨_, _, h1⟩
theorem Sg.of_block {w w' : World} {b : Nat} {sl : List Slt} {nx : Nat} (h : Sg w b sl nx) (hb : w'.heap[b]? = w.heap[b]?) : Sg w' b sl nx := by
  obtain ⟨h0, arr, h1, h2⟩ := h
  exact ⟨h0, arr, by rw [hb]; exact h1, h2⟩
theorem Sg.below {w w' : World} {b : Nat} {sl : List Slt} {nx : Nat} (h : Sg w b sl nx) (hb : Below w.heap.size w w') : Sg w' b sl nx := h.of_block (hb.block b h.lt)
theorem Sg.fr {w w' : World} {b p : Nat} {sl : List Slt} {nx : Nat} (h : Sg w b sl nx) (hf : Fr p w w') (hne : b ≠ p) : Sg w' b sl nx := h.of_block (hf.1.block b h.lt (by simpa using hne))
theorem Sg.cell {w : World} {b : Nat} {sl : List Slt} {nx : Nat} (h : Sg w b sl nx) : ∃ arr : Array Value, arr.size = 121 ∧ (∀ j, w.cell? ⟨b, j, none⟩ = arr[j]?) ∧ (∀ j, w.frozen? ⟨b, j, none⟩ = false) ∧ arr[120]? = some (.int .i64 (nx : Nat)) ∧
    (∀ i, i < 24 → SlotIs arr i (sl.getD i none)) := by
  obtain ⟨h0, arr, h1, h2, h3, h4⟩ := h
  exact ⟨arr, h2, fun j => by simp [World.cell?, h1], fun j => by simp [World.frozen?, h1], h3, h4⟩
/-- Where a handle lies: a slot, or none (-1). -/
def PlaceIs (sl : List Slt) (h i : Int) : Prop := (∃ k : Nat, k < 24 ∧ i = (k : Int) ∧ ∃ x, sl.getD k none = some x ∧ (x.1 : Int) = h) ∨ (i = -1 ∧ ∀ k, k < 24 → ∀ x, sl.getD k none = some x → (x.1 : Int) ≠ h)

set_option maxRecDepth 100000 in
set_option maxHeartbeats 2000000 in
theorem place_any (b : Nat) (h : Int) (sl : List Slt) (nx : Nat) (w : World) (hst : Sg w b sl nx) :
    Calls Tryz.prog 75 #[.pointer (some ⟨b, 0, none⟩), .int .i64 h] w fun e w' => (∃ i, e = .returned (.int .i64 i) ∧ PlaceIs sl h i) ∧ w' = w := by
  obtain ⟨arr, h2, hc, hf, h3, h4⟩ := hst.cell
  have HC := Hid.mk (And.intro hc h4)
  clear hst hc hf h3 h4 h2
  go_enter Tryz.func75, Tryz.ntmps75
  go_wp2_with fail
  go_loop [5] (fun i => ∃ k : Nat, k ≤ 24 ∧ i = .int .i64 k ∧ Hid (∀ j, j < k → ∀ x, sl.getD j none = some x → (x.1 : Int) ≠ h)) (fun i => 24 - (intOf i).toNat)
  case atStart => exact ⟨0, by omega, rfl, Hid.mk (fun j hj => absurd hj (by omega))⟩
  case round =>
    obtain ⟨k, hk, rfl, HI⟩ := hrel
    by_cases hk24 : k < 24
    · have hs := HC.out.2 k hk24
      cases hx : sl.getD k none with
      | none =>
        rw [hx] at hs
        have c0 : w.cell? ⟨b, k * 5, none⟩ = some (.bool false) := by rw [HC.out.1]; exact hs
        have HX := Hid.mk hx
        clear hs hx
        go_wp2_with fail
        go_round
        case rel =>
          refine ⟨k + 1, by omega, by go_num, Hid.mk fun j hj x hjx => ?_⟩
          by_cases hjk : j = k
          · subst hjk; rw [HX.out] at hjx; cases hjx
          · exact HI.out j (by omega) x hjx
        case measure => simp [intOf]; omega
      | some x =>
        rw [hx] at hs
        obtain ⟨e0, e1, -, -, -⟩ := hs
        have c0 : w.cell? ⟨b, k * 5, none⟩ = some (.bool true) := by rw [HC.out.1]; exact e0
        have c1 : w.cell? ⟨b, k * 5 + 1, none⟩ = some (.int .i64 (x.1 : Nat)) := by rw [HC.out.1]; exact e1
        have HX := Hid.mk hx
        clear e0 e1 hx
        obtain ⟨hd, hhd⟩ : ∃ hd, hd = x.1 := ⟨_, rfl⟩
        rw [← hhd] at c1
        have HD := Hid.mk hhd
        clear hhd
        by_cases hkh : (hd : Int) = h
        · have hb : ((hd : Int) == h) = true := beq_iff_eq.2 hkh
          have HK := Hid.mk hkh
          clear hkh
          go_wp2_with fail
          go_ret
          exact ⟨⟨_, rfl, .inl ⟨k, hk24, rfl, x, HX.out, by rw [← HD.out]; exact HK.out⟩⟩, rfl⟩
        · have hb : ((hd : Int) == h) = false := beq_eq_false_iff_ne.2 hkh
          have HK := Hid.mk hkh
          clear hkh
          go_wp2_with fail
          go_round
          case rel =>
            refine ⟨k + 1, by omega, by go_num, Hid.mk fun j hj y hjy => ?_⟩
            by_cases hjk : j = k
            · subst hjk
              rw [HX.out] at hjy
              cases hjy
              rw [← HD.out]; exact HK.out
            · exact HI.out j (by omega) y hjy
          case measure => simp [intOf]; omega
    · go_wp2_with fail
      go_ret
      exact ⟨⟨_, rfl, .inr ⟨rfl, fun j hj => HI.out j (by omega)⟩⟩, rfl⟩

theorem count_take (sl : List Slt) (k : Nat) (hk : k < sl.length) : (sl.take (k + 1)).countP Option.isNone = (sl.take k).countP Option.isNone + (if (sl.getD k none).isNone then 1 else 0) := by
  rw [List.take_add_one, List.countP_append, List.getElem?_eq_getElem hk]
  simp [List.getD, List.getElem?_eq_getElem hk]
set_option maxRecDepth 100000 in
set_option maxHeartbeats 2000000 in
theorem room_any (b : Nat) (sl : List Slt) (nx : Nat) (w : World) (hst : Sg w b sl nx) :
    Calls Tryz.prog 47 #[.pointer (some ⟨b, 0, none⟩)] w fun e w' => e = .returned (.int .i64 ((sl.countP Option.isNone : Nat) : Int)) ∧ w' = w := by
  have hl := hst.1
  obtain ⟨arr, h2, hc, hf, h3, h4⟩ := hst.cell
  have HC := Hid.mk (And.intro hc (And.intro h4 hl))
  clear hst hc hf h3 h4 h2 hl
  go_enter Tryz.func47, Tryz.ntmps47
  go_wp2_with fail
  go_loop [3, 4] (fun f i => ∃ k ff : Nat, k ≤ 24 ∧ i = .int .i64 k ∧ f = .int .i64 ff ∧ ff ≤ k ∧ Hid (ff = (sl.take k).countP Option.isNone)) (fun _ i => 24 - (intOf i).toNat)
  case atStart => exact ⟨0, 0, by omega, rfl, rfl, by omega, Hid.mk (by simp)⟩
  case round =>
    obtain ⟨k, ff, hk, rfl, rfl, hff, HI⟩ := hrel
    by_cases hk24 : k < 24
    · have hs := HC.out.2.1 k hk24
      cases hx : sl.getD k none with
      | some x =>
        rw [hx] at hs
        have c0 : w.cell? ⟨b, k * 5, none⟩ = some (.bool true) := by rw [HC.out.1]; exact hs.1
        have HX := Hid.mk hx
        clear hs hx
        go_wp2_with fail
        go_round
        case rel => exact ⟨k + 1, ff, by omega, by go_num, rfl, by omega, Hid.mk (by rw [count_take sl k (by have := HC.out.2.2; omega), HX.out, ← HI.out]; simp)⟩
        case measure => simp [intOf]; omega
      | none =>
        rw [hx] at hs
        have c0 : w.cell? ⟨b, k * 5, none⟩ = some (.bool false) := by rw [HC.out.1]; exact hs
        have HX := Hid.mk hx
        clear hs hx
        go_wp2_with fail
        go_round
        case rel => exact ⟨k + 1, ff + 1, by omega, by go_num, by go_num, by omega, Hid.mk (by rw [count_take sl k (by have := HC.out.2.2; omega), HX.out, ← HI.out]; simp)⟩
        case measure => simp [intOf]; omega
    · go_wp2_with fail
      go_ret
      refine ⟨ret_int ?_, rfl⟩
      have h1 := HI.out
      rw [List.take_of_length_le (by have := HC.out.2.2; omega)] at h1
      omega

/-- What find hands back. -/
def FindIs (sl : List Slt) (h : Int) (v : Value) (ok : Bool) : Prop := (ok = true ∧ ∃ k, k < 24 ∧ ∃ x, sl.getD k none = some x ∧ (x.1 : Int) = h ∧ v = .agg #[.int .i64 (x.2.1 : Nat), .int .i64 (x.2.2.1 : Nat), x.2.2.2]) ∨
  (ok = false ∧ v = .agg #[.int .i64 0, .int .i64 0, .slice none 0 0] ∧ ∀ k, k < 24 → ∀ x, sl.getD k none = some x → (x.1 : Int) ≠ h)
set_option maxRecDepth 100000 in
set_option maxHeartbeats 2000000 in
theorem find_any (b : Nat) (h : Int) (sl : List Slt) (nx : Nat) (w : World) (hst : Sg w b sl nx) (hsl : ∀ k x, sl.getD k none = some x → ∃ ao n cap, x.2.2.2 = .slice ao n cap) :
    Calls Tryz.prog 41 #[.pointer (some ⟨b, 0, none⟩), .int .i64 h] w fun e w' => (∃ v ok, e = .returned (.tuple #[v, .bool ok]) ∧ FindIs sl h v ok) ∧ Below w.heap.size w w' := by
  have hbl := hst.lt
  have HS := Hid.mk (And.intro hst hsl)
  clear hst hsl
  go_enter Tryz.func41, Tryz.ntmps41
  go_wp2_with fail
  refine (place_any b h sl nx _ (HS.out.1.below ((Below.refl _ _).alloc (Nat.le_refl _) _))).mono ?_
  rintro e w' ⟨⟨i, rfl, hi⟩, rfl⟩
  rcases hi with ⟨k, hk, rfl, x, hx, hxh⟩ | ⟨rfl, hno⟩
  · obtain ⟨ao, n, cap, hv⟩ := HS.out.2 k x hx
    obtain ⟨arr, h2, hc, hf, h3, h4⟩ := HS.out.1.cell
    have hs := h4 k hk
    rw [hx] at hs
    obtain ⟨e0, e1, e2, e3, e4⟩ := hs
    obtain ⟨hd, r, c, v⟩ := x
    simp only at hv e2 e3 e4 hxh
    subst hv
    have d2 := cell1 (show w.cell? ⟨b, k * 5 + 2, none⟩ = some (.int .i64 r) from by rw [hc]; exact e2)
    have d3 := cell1 (show w.cell? ⟨b, k * 5 + 3, none⟩ = some (.int .i64 c) from by rw [hc]; exact e3)
    have d4 := cell1 (show w.cell? ⟨b, k * 5 + 4, none⟩ = some (.slice ao n cap) from by rw [hc]; exact e4)
    have HX := Hid.mk (And.intro hx hxh)
    clear hc hf h3 h4 h2 e0 e1 e2 e3 e4 hx hxh
    go_wp2_with fail
    refine bodyPost_ret (v := .tuple #[.agg #[.int .i64 r, .int .i64 c, .slice ao n cap], .bool true]) ?_ rfl ?_
    · (simp [results, Tryz.results41, go_sem]; done)
    · exact ⟨⟨_, _, rfl, .inl ⟨rfl, k, hk, _, HX.out.1, HX.out.2, rfl⟩⟩, by repeat (first | exact Below.refl _ _ | refine Below.alloc ?_ (by simp <;> omega) _)⟩
  · have HN := Hid.mk hno
    clear hno
    go_wp2_with fail
    refine bodyPost_ret (v := .tuple #[.agg #[.int .i64 0, .int .i64 0, .slice none 0 0], .bool false]) ?_ rfl ?_
    · (simp [results, Tryz.results41, go_sem]; done)
    · exact ⟨⟨_, _, rfl, .inr ⟨rfl, rfl, HN.out⟩⟩, by repeat (first | exact Below.refl _ _ | refine Below.alloc ?_ (by simp <;> omega) _)⟩
end Go.Proofs.YtmijbimanaalbaaGreatDoor
