/- grid.Matrix.set. -/
import Derived.Test.YtjhcbenldfplcaaDoorGrid
namespace Go.Proofs.YtjhcbenldfplcaaDoor
open Go.RowKit

theorem cell1 {w : World} {a : Addr} {v : Value} (h : w.cell? a = some v) : ∀ o1, (w.alloc o1).cell? a = some v := fun o1 =>
  cell_later (by repeat (first | exact Below.refl _ _ | refine Below.alloc ?_ (by simp <;> omega) _)) h
theorem cell2 {w : World} {a : Addr} {v : Value} (h : w.cell? a = some v) : ∀ o1 o2, ((w.alloc o1).alloc o2).cell? a = some v := fun o1 o2 =>
  cell_later (by repeat (first | exact Below.refl _ _ | refine Below.alloc ?_ (by simp <;> omega) _)) h
theorem frozen2 {w : World} {a : Addr} (h : w.frozen? a = false) (hb : a.block < w.heap.size) : ∀ o1 o2, ((w.alloc o1).alloc o2).frozen? a = false := fun o1 o2 => by
  rw [Below.frozen (w := w) (B := w.heap.size) (by repeat (first | exact Below.refl _ _ | refine Below.alloc ?_ (by simp <;> omega) _)) hb]; exact h

theorem grown_set2 {w W : World} {g i j : Nat} {a b : Value} (h : Below ((w.setCell ⟨g, i, none⟩ a).setCell ⟨g, j, none⟩ b).heap.size ((w.setCell ⟨g, i, none⟩ a).setCell ⟨g, j, none⟩ b) W) : w.grownBy W (some g) := by
  have hs : ((w.setCell ⟨g, i, none⟩ a).setCell ⟨g, j, none⟩ b).heap.size = w.heap.size := by simp [World.setCell]
  refine ⟨h.os, h.tape, h.output, by have := h.size; omega, fun k hk hne => ?_⟩
  rw [h.block k (by omega), Below.heap_setCell _ _ _ _ (fun e => hne (by simp [e])), Below.heap_setCell _ _ _ _ (fun e => hne (by simp [e]))]
set_option maxRecDepth 100000 in
set_option maxHeartbeats 2000000 in
theorem set_in (p g r c cap row col : Nat) (zs : List Int) (L : Nat) (x : Value) (z : Int) (w : World) (p0 : w.cell? ⟨p, 0, none⟩ = some (.int .i64 r)) (p1 : w.cell? ⟨p, 1, none⟩ = some (.int .i64 c))
    (p2 : w.cell? ⟨p, 2, none⟩ = some (.slice (some ⟨g, 0, none⟩) (r * c) cap)) (hg : Grid w (.slice (some ⟨g, 0, none⟩) (r * c) cap) (r * c) zs L) (hx : IsI w x z L) (hr : r ≤ 99) (hc : c ≤ 99) (h1 : row < r) (h2 : col < c) :
    Calls Tryd.prog 45 #[.pointer (some ⟨p, 0, none⟩), .int .i64 row, .int .i64 col, x] w fun e w' => e = .returned (.tuple #[]) ∧ Grid w' (.slice (some ⟨g, 0, none⟩) (r * c) cap) (r * c) (zs.set (row * c + col) z) L ∧ w.grownBy w' (some g) ∧ KU w w' := by
  have hk := idx_lt h1 h2
  obtain ⟨nb, bo, m, ecap, c1, c2, -⟩ := hg.cell _ hk
  have f1 := hg.frozen (2 * (row * c + col))
  have f2 := hg.frozen (2 * (row * c + col) + 1)
  have hgl : g < w.heap.size := World.block_lt_of_cell? w _ c1
  have hh := hasB_in h1 h2
  obtain ⟨b1, b2⟩ := idx_bd hr hc h1
  obtain ⟨sl, xs, rfl, q2, q3, q4, q5⟩ := id hx
  obtain ⟨ao, dcap, rfl, -⟩ := q5.open_
  rw [Nat.mul_comm 2] at c1 c2 f1 f2
  have d1 := cell2 c1
  have d2 := cell2 c2
  have d3 := frozen2 f1 hgl
  have d4 := frozen2 f2 hgl
  have d5 : ∀ v, ∀ o1 o2, (((w.setCell ⟨g, (row * c + col) * 2, none⟩ v).alloc o1).alloc o2).cell? ⟨g, (row * c + col) * 2 + 1, none⟩ = some (.slice bo m ecap) := fun v => cell2 (by rw [World.cell?_setCell_other _ _ _ _ (by simp)]; exact c2)
  have d6 : ∀ v, ∀ o1 o2, (((w.setCell ⟨g, (row * c + col) * 2, none⟩ v).alloc o1).alloc o2).frozen? ⟨g, (row * c + col) * 2 + 1, none⟩ = false := fun v => frozen2 (by rw [World.frozen?_setCell]; exact f2) (by simp [World.setCell]; exact hgl)
  have e0 := cell2 p0
  have e1 := cell2 p1
  have e2 := cell2 p2
  have e0' := cell1 p0
  have e1' := cell1 p1
  have e2' := cell1 p2
  have HX := Hid.mk hx
  have HG := Hid.mk hg
  have HK := Hid.mk hk
  clear hx hg q2 q3 q4 q5 p0 p1 p2 c1 c2 f1 f2
  obtain ⟨nz, hnz⟩ : ∃ nz, nz = decide (z < 0) := ⟨_, rfl⟩
  rw [← hnz] at HX ⊢
  clear hnz
  obtain ⟨N, hN⟩ : ∃ N, N = r * c := ⟨_, rfl⟩
  rw [← hN] at hk e2 e2' HG ⊢
  have hk2 : (row : Int) * (c : Int) + (col : Int) < (N : Int) := by rw [← Int.natCast_mul]; omega
  clear hN HK
  go_enter Tryd.func45, Tryd.ntmps45
  go_wp2_with (go_at_call 46; refine (has_raw _ _ _ _ _ _ _ _).mono ?_; rintro e w' ⟨rfl, rfl⟩; rw [hh])
  go_region
  all_goals
    go_end0
    obtain ⟨S1, S2⟩ := HG.out.stored _ hk HX.out
    rw [Nat.mul_comm 2] at S1 S2
    refine ⟨rfl, ?_, ?_, ?_⟩
    · refine S1.below ?_
      repeat (first | exact Below.refl _ _ | refine Below.drew ?_ | refine Below.alloc ?_ (by simp <;> omega) _)
    · refine grown_set2 (i := (row * c + col) * 2) (j := (row * c + col) * 2 + 1) (a := .bool nz) (b := .slice ao xs.length dcap) ?_
      repeat (first | exact Below.refl _ _ | refine Below.drew ?_ | refine Below.alloc ?_ (by simp <;> omega) _)
    · refine S2.trans (KU.of_below ?_)
      repeat (first | exact Below.refl _ _ | refine Below.drew ?_ | refine Below.alloc ?_ (by simp <;> omega) _)
end Go.Proofs.YtjhcbenldfplcaaDoor
