/- matriceskeep: pick, dice.under, start; matrices.New, desk. -/
import Derived.Test.YtjhcbenldfplcaaDoorMat
namespace Go.Proofs.YtjhcbenldfplcaaDoor
open Go.RowKit

/-- The dice at block d, at the number x. -/
def Di (w : World) (d : Nat) : Prop := ∃ x : Nat, x < 2147483648 ∧ w.heap[d]? = some (.cells #[.int .i64 (x : Nat)] 28 (0, 0))
theorem Di.lt {w : World} {d : Nat} (h : Di w d) : d < w.heap.size := by obtain ⟨x, _, h⟩ := h; exact (Array.getElem?_eq_some_iff.1 h).1
theorem Di.ty {w : World} {d : Nat} (h : Di w d) : Ty w d 28 := by obtain ⟨x, _, h⟩ := h; exact ⟨_, _, h⟩
theorem Di.below {w w' : World} {d : Nat} {B : Nat} (h : Di w d) (hb : Below B w w') (hB : d < B) : Di w' d := by obtain ⟨x, h0, h⟩ := h; exact ⟨x, h0, by rw [hb.block d hB]; exact h⟩
theorem pick_any (c n : Int) (w : World) (hc1 : -9223372036854775808 ≤ c) (hc2 : c ≤ 9223372036854775807) (hn : 0 < n) (hn2 : n ≤ 4294967296) :
    Calls Tryd.prog 6 #[.int .i64 c, .int .i64 n] w fun e w' => (∃ v : Nat, e = .returned (.int .i64 (v : Nat)) ∧ (v : Int) < n) ∧ w' = w := by
  by_cases h0 : c < 0
  · have hn0 : n ≠ 0 := by omega
    go_enter Tryd.func6, Tryd.ntmps6
    go_wp2_with fail
    go_ret
    refine ⟨⟨((-(c + 1)) % n).toNat, ?_, ?_⟩, rfl⟩
    · refine ret_int ?_
      have h1 := Int.emod_nonneg (-(c + 1)) hn0
      have h2 : (-(c + 1)).tmod n = (-(c + 1)) % n := Int.tmod_eq_emod_of_nonneg (by omega)
      rw [Int.neg_tmod] at h2
      omega
    · have := Int.emod_lt_of_pos (-(c + 1)) hn; have := Int.emod_nonneg (-(c + 1)) hn0; omega
  · have hn0 : n ≠ 0 := by omega
    go_enter Tryd.func6, Tryd.ntmps6
    go_wp2_with fail
    go_ret
    refine ⟨⟨(c % n).toNat, ?_, ?_⟩, rfl⟩
    · exact ret_int (by have := Int.emod_nonneg c hn0; omega)
    · have := Int.emod_lt_of_pos c hn; have := Int.emod_nonneg c hn0; omega

set_option maxHeartbeats 1000000 in
theorem under_any (d n : Nat) (w : World) (h : Di w d) (hn : 0 < n) (hn2 : n ≤ 1000) :
    Calls Tryd.prog 7 #[.pointer (some ⟨d, 0, none⟩), .int .i64 n] w fun e w' => (∃ v : Nat, e = .returned (.int .i64 (v : Nat)) ∧ v < n) ∧ Di w' d ∧ w.grownBy w' (some d) := by
  obtain ⟨x, hx, hh⟩ := h
  have c0 : w.cell? ⟨d, 0, none⟩ = some (.int .i64 (x : Nat)) := by simp [World.cell?, hh]
  have f0 : w.frozen? ⟨d, 0, none⟩ = false := by simp [World.frozen?, hh]
  have hxi : (x : Int) < 2147483648 := by omega
  have HH := Hid.mk hh
  clear hh
  go_enter Tryd.func7, Tryd.ntmps7
  go_wp2_with fail
  go_ret
  have hy : ∃ y : Nat, y < 2147483648 ∧ ((x : Int) * 1103515245 + 12345) % 2147483648 = (y : Nat) := ⟨((x : Int) * 1103515245 + 12345).toNat % 2147483648, by omega, by omega⟩
  obtain ⟨y, hy1, hy2⟩ := hy
  rw [hy2]
  refine ⟨⟨y / 256 % n, ret_int (by simp), Nat.mod_lt _ hn⟩, ⟨y, hy1, ?_⟩, rfl, rfl, rfl, by simp [World.setCell], fun k _ hne => ?_⟩
  · rw [heap_setCell_same _ _ _ _ _ _ HH.out]; simp
  · exact Below.heap_setCell _ _ _ _ (fun e => hne (by simp [e]))
set_option maxRecDepth 100000 in
theorem zero_store : Tryd.zeroCells57.size = 121 ∧ Tryd.zeroCells57[120]? = some (.int .i64 0) ∧ ∀ i, i < 24 → Tryd.zeroCells57[i * 5]? = some (.bool false) := by
  refine ⟨rfl, rfl, fun i hi => ?_⟩
  obtain rfl | rfl | rfl | rfl | rfl | rfl | rfl | rfl | rfl | rfl | rfl | rfl | rfl | rfl | rfl | rfl | rfl | rfl | rfl | rfl | rfl | rfl | rfl | rfl : i = 0 ∨ i = 1 ∨ i = 2 ∨ i = 3 ∨ i = 4 ∨ i = 5 ∨ i = 6 ∨ i = 7 ∨ i = 8 ∨ i = 9 ∨ i = 10 ∨ i = 11 ∨ i = 12 ∨ i = 13 ∨ i = 14 ∨ i = 15 ∨ i = 16 ∨ i = 17 ∨ i = 18 ∨ i = 19 ∨ i = 20 ∨ i = 21 ∨ i = 22 ∨ i = 23 := by omega
  all_goals rfl
theorem new_any (w : World) : Calls Tryd.prog 14 #[] w fun e w' => ∃ b, e = .returned (.pointer (some ⟨b, 0, none⟩)) ∧ St w' b [] ∧ Below w.heap.size w w' ∧ w.heap.size ≤ b := by
  go_enter Tryd.func14, Tryd.ntmps14
  go_wp2_with fail
  go_ret
  refine ⟨w.heap.size, rfl, ⟨by simp, _, heap_alloc_new w _, zero_store.1, zero_store.2.1, fun i hi => by simp at hi, fun i _ hi => zero_store.2.2 i hi⟩, (Below.refl _ _).alloc (Nat.le_refl _) _, Nat.le_refl _⟩
/-- The desk at block d, with the store at b. -/
def Dk (w : World) (d b : Nat) : Prop := w.heap[d]? = some (.cells #[.pointer (some ⟨b, 0, none⟩)] 44 (0, 0))
theorem Dk.lt {w : World} {d b : Nat} (h : Dk w d b) : d < w.heap.size := (Array.getElem?_eq_some_iff.1 h).1
theorem Dk.cell {w : World} {d b : Nat} (h : Dk w d b) : w.cell? ⟨d, 0, none⟩ = some (.pointer (some ⟨b, 0, none⟩)) := by unfold Dk at h; simp [World.cell?, h]
theorem Dk.below {B : Nat} {w w' : World} {d b : Nat} (h : Dk w d b) (hb : Below B w w') (hB : d < B) : Dk w' d b := by unfold Dk; rw [hb.block d hB]; exact h
theorem Dk.grown {w w' : World} {d b p : Nat} (h : Dk w d b) (hg : w.grownBy w' (some p)) (hp : p ≠ d) : Dk w' d b := by unfold Dk; rw [hg.block d h.lt (fun e => hp (by injection e with e; exact e.symm))]; exact h
theorem desk_any (w : World) : Calls Tryd.prog 9 #[] w fun e w' => ∃ d b, e = .returned (.pointer (some ⟨d, 0, none⟩)) ∧ Dk w' d b ∧ St w' b [] ∧ b ≠ d ∧ w.heap.size ≤ b ∧ w.heap.size ≤ d ∧ Below w.heap.size w w' := by
  go_enter Tryd.func9, Tryd.ntmps9
  go_wp2_with fail
  refine (new_any _).mono ?_
  rintro e w1 ⟨b, rfl, hs, hb, hbl⟩
  have hbl2 := hs.lt
  have H := Hid.mk (And.intro hs hb)
  clear hs hb
  go_wp2_with fail
  go_ret
  exact ⟨w1.heap.size, b, rfl, heap_alloc_new w1 _, H.out.1.below ((Below.refl _ _).alloc (Nat.le_refl _) _), by omega, hbl, H.out.2.size, H.out.2.trans (((Below.refl _ _).alloc (Nat.le_refl _) _).mono H.out.2.size)⟩
theorem start_any (a : Int) (w : World) (h1 : -9223372036854775808 ≤ a) (h2 : a ≤ 9223372036854775807) : Calls Tryd.prog 4 #[.int .i64 a] w fun e w' => ∃ d, e = .returned (.pointer (some ⟨d, 0, none⟩)) ∧ Di w' d ∧ w.heap.size ≤ d ∧ Below w.heap.size w w' := by
  go_enter Tryd.func4, Tryd.ntmps4
  go_wp2_with fail
  refine (pick_any a 2147483648 _ h1 h2 (by omega) (by omega)).mono ?_
  rintro e w' ⟨⟨v, rfl, hv⟩, rfl⟩
  go_wp2_with fail
  refine (under_any w'.heap.size 2 _ ⟨v, by omega, heap_alloc_new w' _⟩ (by omega) (by omega)).mono ?_
  rintro e w2 ⟨⟨u, rfl, hu⟩, hd, hg⟩
  have H := Hid.mk (And.intro hd hg)
  clear hd hg
  go_wp2_with fail
  go_ret
  refine ⟨w'.heap.size, rfl, H.out.1, Nat.le_refl _, ?_⟩
  have hg := H.out.2
  refine ⟨hg.os, hg.tape, hg.output, by have := hg.size; simp at this; omega, fun k hk => ?_⟩
  rw [hg.block k (by simp; omega) (by intro e; injection e with e; omega)]
  exact (((Below.refl w'.heap.size w').alloc (Nat.le_refl _) _).block k hk)
end Go.Proofs.YtjhcbenldfplcaaDoor
