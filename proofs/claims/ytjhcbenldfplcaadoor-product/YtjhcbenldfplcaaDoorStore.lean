/- matrices.Store, filled from its first slot on: place, find, room, keep. -/
import Derived.Test.YtjhcbenldfplcaaDoorFits
namespace Go.Proofs.YtjhcbenldfplcaaDoor
open Go.RowKit

/-- The store at block b holds the matrices ms, in order; none was freed. -/
def St (w : World) (b : Nat) (ms : List (Nat × Nat × Value)) : Prop :=
  ms.length ≤ 24 ∧ ∃ arr, w.heap[b]? = some (.cells arr 57 (0, 0)) ∧ arr.size = 121 ∧ arr[120]? = some (.int .i64 (ms.length : Nat)) ∧
    (∀ i, i < ms.length → arr[i * 5]? = some (.bool true) ∧ arr[i * 5 + 1]? = some (.int .i64 (i : Nat)) ∧ arr[i * 5 + 2]? = some (.int .i64 ((ms.getD i (0, 0, .slice none 0 0)).1 : Nat)) ∧ arr[i * 5 + 3]? = some (.int .i64 ((ms.getD i (0, 0, .slice none 0 0)).2.1 : Nat)) ∧ arr[i * 5 + 4]? = some (ms.getD i (0, 0, .slice none 0 0)).2.2) ∧
    (∀ i, ms.length ≤ i → i < 24 → arr[i * 5]? = some (.bool false))
theorem St.lt {w : World} {b : Nat} {ms : List (Nat × Nat × Value)} (h : St w b ms) : b < w.heap.size := by
  obtain ⟨_, arr, h1, _⟩ := h
  exact (Array.getElem?_eq_some_iff.1 h1).1
theorem St.ty {w : World} {b : Nat} {ms : List (Nat × Nat × Value)} (h : St w b ms) : Ty w b 57 := by
  obtain ⟨_, arr, h1, _⟩ := h
  exact ⟨_, _, h1⟩
theorem St.below {w w' : World} {b : Nat} {ms : List (Nat × Nat × Value)} (h : St w b ms) (hb : Below w.heap.size w w') : St w' b ms := by
  have hl := h.lt
  obtain ⟨h0, arr, h1, h2⟩ := h
  exact ⟨h0, arr, by rw [hb.block b hl]; exact h1, h2⟩
theorem St.cell {w : World} {b : Nat} {ms : List (Nat × Nat × Value)} (h : St w b ms) : ∃ arr : Array Value, arr.size = 121 ∧ (∀ j, w.cell? ⟨b, j, none⟩ = arr[j]?) ∧ (∀ j, w.frozen? ⟨b, j, none⟩ = false) ∧ arr[120]? = some (.int .i64 (ms.length : Nat)) ∧
    (∀ i, i < ms.length → arr[i * 5]? = some (.bool true) ∧ arr[i * 5 + 1]? = some (.int .i64 (i : Nat)) ∧ arr[i * 5 + 2]? = some (.int .i64 ((ms.getD i (0, 0, .slice none 0 0)).1 : Nat)) ∧ arr[i * 5 + 3]? = some (.int .i64 ((ms.getD i (0, 0, .slice none 0 0)).2.1 : Nat)) ∧ arr[i * 5 + 4]? = some (ms.getD i (0, 0, .slice none 0 0)).2.2) ∧
    (∀ i, ms.length ≤ i → i < 24 → arr[i * 5]? = some (.bool false)) := by
  obtain ⟨h0, arr, h1, h2, h3, h4, h5⟩ := h
  exact ⟨arr, h2, fun j => by simp [World.cell?, h1], fun j => by simp [World.frozen?, h1], h3, h4, h5⟩

set_option maxRecDepth 100000 in
set_option maxHeartbeats 2000000 in
theorem place_ok (b h : Nat) (ms : List (Nat × Nat × Value)) (w : World) (hst : St w b ms) (hh : h < ms.length) :
    Calls Tryd.prog 27 #[.pointer (some ⟨b, 0, none⟩), .int .i64 h] w fun e w' => e = .returned (.int .i64 h) ∧ w' = w := by
  have hl := hst.1
  obtain ⟨arr, h2, hc, hf, h3, h4, h5⟩ := hst.cell
  have HC := Hid.mk (And.intro hc h4)
  clear hst hc hf h3 h4 h5 h2
  go_enter Tryd.func27, Tryd.ntmps27
  go_wp2_with fail
  go_loop [5] (fun i => ∃ k : Nat, k ≤ h ∧ i = .int .i64 k) (fun i => h - (intOf i).toNat)
  case atStart => exact ⟨0, Nat.zero_le _, rfl⟩
  case round =>
    obtain ⟨k, hk, rfl⟩ := hrel
    obtain ⟨e0, e1, -, -, -⟩ := HC.out.2 k (by omega)
    have c0 : w.cell? ⟨b, k * 5, none⟩ = some (.bool true) := by rw [HC.out.1]; exact e0
    have c1 : w.cell? ⟨b, k * 5 + 1, none⟩ = some (.int .i64 (k : Nat)) := by rw [HC.out.1]; exact e1
    clear e0 e1
    by_cases hkh : k = h
    · have hb : ((k : Int) == (h : Int)) = true := beq_iff_eq.2 (by omega)
      have HK := Hid.mk hkh
      clear hkh
      go_wp2_with fail
      go_ret
      exact ⟨ret_int (by have := HK.out; omega), rfl⟩
    · have hb : ((k : Int) == (h : Int)) = false := beq_eq_false_iff_ne.2 (by omega)
      have hkl : k < h := by omega
      clear hkh
      go_wp2_with fail
      go_round
      case rel => exact ⟨k + 1, by omega, by go_num⟩
      case measure => simp [intOf]; omega

set_option maxRecDepth 100000 in
set_option maxHeartbeats 2000000 in
theorem room_ok (b : Nat) (ms : List (Nat × Nat × Value)) (w : World) (hst : St w b ms) :
    Calls Tryd.prog 25 #[.pointer (some ⟨b, 0, none⟩)] w fun e w' => e = .returned (.int .i64 (24 - (ms.length : Int))) ∧ w' = w := by
  have hl := hst.1
  obtain ⟨arr, h2, hc, hf, h3, h4, h5⟩ := hst.cell
  have HC := Hid.mk (And.intro hc (And.intro h4 h5))
  clear hst hc hf h3 h4 h5 h2
  go_enter Tryd.func25, Tryd.ntmps25
  go_wp2_with fail
  go_loop [3, 4] (fun f i => ∃ k ff : Nat, k ≤ 24 ∧ i = .int .i64 k ∧ f = .int .i64 ff ∧ ff ≤ k ∧ Hid (ff = k - ms.length)) (fun _ i => 24 - (intOf i).toNat)
  case atStart => exact ⟨0, 0, by omega, rfl, rfl, by omega, Hid.mk (by omega)⟩
  case round =>
    obtain ⟨k, ff, hk, rfl, rfl, hff, HI⟩ := hrel
    by_cases hk24 : k < 24
    · by_cases hkm : k < ms.length
      · have c0 : w.cell? ⟨b, k * 5, none⟩ = some (.bool true) := by rw [HC.out.1]; exact (HC.out.2.1 k hkm).1
        go_wp2_with fail
        go_round
        case rel => exact ⟨k + 1, ff, by omega, by go_num, rfl, by omega, Hid.mk (by have := HI.out; omega)⟩
        case measure => simp [intOf]; omega
      · have c0 : w.cell? ⟨b, k * 5, none⟩ = some (.bool false) := by rw [HC.out.1]; exact HC.out.2.2 k (by omega) hk24
        go_wp2_with fail
        go_round
        case rel => exact ⟨k + 1, ff + 1, by omega, by go_num, by go_num, by omega, Hid.mk (by have := HI.out; omega)⟩
        case measure => simp [intOf]; omega
    · go_wp2_with fail
      go_ret
      exact ⟨ret_int (by have := HI.out; omega), rfl⟩

set_option maxRecDepth 100000 in
set_option maxHeartbeats 2000000 in
theorem find_ok (b h r c : Nat) (ao : Option Addr) (n cap : Nat) (ms : List (Nat × Nat × Value)) (w : World) (hst : St w b ms) (hh : h < ms.length) (hm : ms.getD h (0, 0, .slice none 0 0) = (r, c, .slice ao n cap)) :
    Calls Tryd.prog 19 #[.pointer (some ⟨b, 0, none⟩), .int .i64 h] w fun e w' => e = .returned (.tuple #[.agg #[.int .i64 r, .int .i64 c, .slice ao n cap], .bool true]) ∧ Below w.heap.size w w' := by
  have hl := hst.1
  have hbl := hst.lt
  obtain ⟨arr, h2, hc, hf, h3, h4, h5⟩ := hst.cell
  obtain ⟨e0, e1, e2, e3, e4⟩ := h4 h hh
  rw [hm] at e2 e3 e4
  have c2 : w.cell? ⟨b, h * 5 + 2, none⟩ = some (.int .i64 r) := by rw [hc]; exact e2
  have c3 : w.cell? ⟨b, h * 5 + 3, none⟩ = some (.int .i64 c) := by rw [hc]; exact e3
  have c4 : w.cell? ⟨b, h * 5 + 4, none⟩ = some (.slice ao n cap) := by rw [hc]; exact e4
  have d2 := cell1 c2
  have d3 := cell1 c3
  have d4 := cell1 c4
  have HS := Hid.mk hst
  clear hst hc hf h3 h4 h5 h2 e0 e1 e2 e3 e4 hm
  go_enter Tryd.func19, Tryd.ntmps19
  go_wp2_with fail
  refine (place_ok b h ms _ (HS.out.below ((Below.refl _ _).alloc (Nat.le_refl _) _)) hh).mono ?_
  rintro e w' ⟨rfl, rfl⟩
  go_wp2_with fail
  refine bodyPost_ret (v := .tuple #[.agg #[.int .i64 r, .int .i64 c, .slice ao n cap], .bool true]) ?_ rfl ?_
  · (simp [results, Tryd.results19, go_sem]; done)
  · exact ⟨rfl, by repeat (first | exact Below.refl _ _ | refine Below.alloc ?_ (by simp <;> omega) _)⟩
end Go.Proofs.YtjhcbenldfplcaaDoor
