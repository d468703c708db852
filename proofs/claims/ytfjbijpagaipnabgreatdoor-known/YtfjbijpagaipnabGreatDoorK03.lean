import Derived.Test.YtfjbijpagaipnabGreatDoorK02
import Derived.Test.YtfjbijpagaipnabGreatDoorK01
namespace Go.Proofs.YtfjbijpagaipnabGreatDoor
open Go.RowKit
def Grid (w : World) (sl : Value) (n : Nat) (zs : List Int) (L : Nat) : Prop :=
 zs.length = n ∧ ∃ cs, w.ownsRow 0 79 2 sl n cs ∧ ∀ i, i < n → ∃ a b, cs[2 * i]? = some a ∧ cs[2 * i + 1]? = some b ∧ IsI w (.agg #[a, b]) (zs.getD i 0) L
def IsM (w : World) (v : Value) (r c : Nat) (zs : List Int) (L : Nat) : Prop := r ≤ 99 ∧ c ≤ 99 ∧ ∃ sl, v = .agg #[.int .i64 r, .int .i64 c, sl] ∧ Grid w sl (r * c) zs L
theorem Grid.below {w w' : World} {sl : Value} {n L : Nat} {zs : List Int} (h : Grid w sl n zs L) (hb : Below w.heap.size w w') : Grid w' sl n zs L := by
 obtain ⟨h0, cs, h1, h2⟩ := h
 refine ⟨h0, cs, ⟨h1.1, ?_⟩, fun i hi => ?_⟩
 ·rcases h1.2 with h3 | ⟨g, cap, cur, hv, hg, hh, r⟩
  ·exact .inl h3
  ·exact .inr ⟨g, cap, cur, hv, hg, by rw [hb.block g (Array.getElem?_eq_some_iff.1 hh).1]; exact hh, r⟩
 ·obtain ⟨a, b, e1, e2, e3⟩ := h2 i hi
  exact ⟨a, b, e1, e2, e3.below hb⟩
theorem IsM.below {w w' : World} {v : Value} {r c L : Nat} {zs : List Int} (h : IsM w v r c zs L) (hb : Below w.heap.size w w') : IsM w' v r c zs L := by
 obtain ⟨h0, h1, sl, h2, h3⟩ := h
 exact ⟨h0, h1, sl, h2, h3.below hb⟩
theorem Grid.mono {w : World} {sl : Value} {n L M : Nat} {zs : List Int} (h : Grid w sl n zs L) (hLM : L ≤ M) : Grid w sl n zs M := by
 obtain ⟨h0, cs, h1, h2⟩ := h
 refine ⟨h0, cs, h1, fun i hi => ?_⟩
 obtain ⟨a, b, e1, e2, e3⟩ := h2 i hi
 exact ⟨a, b, e1, e2, e3.mono hLM⟩
theorem IsM.mono {w : World} {v : Value} {r c L M : Nat} {zs : List Int} (h : IsM w v r c zs L) (hLM : L ≤ M) : IsM w v r c zs M := by
 obtain ⟨h0, h1, sl, h2, h3⟩ := h
 exact ⟨h0, h1, sl, h2, h3.mono hLM⟩
theorem Grid.shape {w : World} {sl : Value} {n L : Nat} {zs : List Int} (h : Grid w sl n zs L) : ∃ ao cap, sl = .slice ao n cap ∧ n ≤ cap ∧ cap ≤ 9223372036854775807 ∧ (∀ i, i < n → ∃ g, ao = some ⟨g, 0, none⟩) := by
 obtain ⟨h0, cs, h1, h2⟩ := h
 rcases h1.2 with ⟨rfl, hn⟩ | ⟨g, cap, cur, rfl, hg, hh, r1, r2, r3, r4⟩
 ·subst hn; exact ⟨none, 0, rfl, Nat.le_refl _, by omega, fun i hi => by omega⟩
 ·exact ⟨_, cap, rfl, r1, by simpa [maxLen] using r2, fun i _ => ⟨g, rfl⟩⟩
theorem Grid.cell {w : World} {g n cap L : Nat} {zs : List Int} (h : Grid w (.slice (some ⟨g, 0, none⟩) n cap) n zs L) (k : Nat) (hk : k < n) :
 ∃ nb ao m ecap, w.cell? ⟨g, 2 * k, none⟩ = some (.bool nb) ∧ w.cell? ⟨g, 2 * k + 1, none⟩ = some (.slice ao m ecap) ∧ IsI w (.agg #[.bool nb, .slice ao m ecap]) (zs.getD k 0) L := by
 obtain ⟨h0, cs, h1, h2⟩ := h
 obtain ⟨a, b, e1, e2, e3⟩ := h2 k hk
 have e4 := e3
 obtain ⟨sl, xs, f1, f2, f3, f4, f5⟩ := e3
 obtain ⟨ao, ecap, rfl, -⟩ := f5.open_
 simp only [Value.agg.injEq, Array.mk.injEq, List.cons.injEq, and_true] at f1
 obtain ⟨rfl, rfl⟩ := f1
 exact ⟨_, _, _, _, by rw [World.ownsRow.cellAt h1 _ (by omega), e1], by rw [World.ownsRow.cellAt h1 _ (by omega), e2], e4⟩
theorem Grid.frozen {w : World} {g n cap L : Nat} {zs : List Int} (h : Grid w (.slice (some ⟨g, 0, none⟩) n cap) n zs L) (j : Nat) : w.frozen? ⟨g, j, none⟩ = false := by
 obtain ⟨h0, cs, h1, h2⟩ := h
 exact World.ownsRow.frozenAt h1 j
theorem Grid.ty {w : World} {g n cap L : Nat} {zs : List Int} (h : Grid w (.slice (some ⟨g, 0, none⟩) n cap) n zs L) : Ty w g 79 := by
 obtain ⟨h0, cs, h1, h2⟩ := h
 rcases h1.2 with ⟨h3, _⟩ | ⟨g', cap', cur, hv, hg, hh, r⟩
 ·simp at h3
 ·simp only [Value.slice.injEq, Option.some.injEq, Addr.mk.injEq] at hv
  obtain ⟨⟨rfl, _⟩, _⟩ := hv
  exact ⟨_, _, hh⟩
theorem Grid.stored {w : World} {g n cap L : Nat} {zs : List Int} (h : Grid w (.slice (some ⟨g, 0, none⟩) n cap) n zs L) (k : Nat) (hk : k < n) {a b : Value} {z : Int} (hz : IsI w (.agg #[a, b]) z L) :
 Grid ((w.setCell ⟨g, 2 * k, none⟩ a).setCell ⟨g, 2 * k + 1, none⟩ b) (.slice (some ⟨g, 0, none⟩) n cap) n (zs.set k z) L ∧ KU w ((w.setCell ⟨g, 2 * k, none⟩ a).setCell ⟨g, 2 * k + 1, none⟩ b) := by
 have hty := h.ty
 have hku : KU w ((w.setCell ⟨g, 2 * k, none⟩ a).setCell ⟨g, 2 * k + 1, none⟩ b) := KU.setCell (KU.setCell (KU.refl _) hty (by decide) _) (hty.setCell _ _) (by decide) _
 obtain ⟨h0, cs, h1, h2⟩ := h
 refine ⟨⟨by simpa using h0, (cs.set (2 * k) a).set (2 * k + 1) b, ((h1.stored (2 * k) a).1.stored (2 * k + 1) b).1, fun i hi => ?_⟩, hku⟩
 have hcl : cs.length = n * 2 := h1.1
 by_cases hik : i = k
 ·subst hik
  refine ⟨a, b, ?_, ?_, ?_⟩
  ·rw [List.getElem?_set_ne (by omega), List.getElem?_set_self (by omega)]
  ·rw [List.getElem?_set_self (by simp; omega)]
  ·rw [show (zs.set i z).getD i 0 = z from by simp [List.getD, show i < zs.length from by omega]]; exact hz.keep hku
 ·obtain ⟨a', b', e1, e2, e3⟩ := h2 i hi
  refine ⟨a', b', ?_, ?_, ?_⟩
  ·rw [List.getElem?_set_ne (by omega), List.getElem?_set_ne (by omega), e1]
  ·rw [List.getElem?_set_ne (by omega), List.getElem?_set_ne (by omega), e2]
  ·rw [show (zs.set k z).getD i 0 = zs.getD i 0 from by simp [List.getD, List.getElem?_set_ne (Ne.symm hik)]]; exact e3.keep hku
def hasB (r c row col : Int) : Bool := decide (0 ≤ row ∧ row < r ∧ 0 ≤ col ∧ col < c)
theorem ret_bool {a b : Bool} (h : a = b) : Ending.returned (.bool a) = .returned (.bool b) := by rw [h]
theorem hasB_no {r c row col : Int} (h : row < 0 ∨ r ≤ row ∨ col < 0) : false = hasB r c row col := by
 unfold hasB
 rw [eq_comm, decide_eq_false_iff_not]
 omega
theorem hasB_yes {r c row col : Int} (h1 : 0 ≤ row) (h2 : row < r) (h3 : 0 ≤ col) : decide (col < c) = hasB r c row col := by
 unfold hasB
 rw [decide_eq_decide]
 omega
set_option maxHeartbeats 1000000 in
theorem has_raw (r c row col : Int) (ao : Option Addr) (n cap : Nat) (w : World) :
 Calls Tryz.prog 99 #[.agg #[.int .i64 r, .int .i64 c, .slice ao n cap], .int .i64 row, .int .i64 col] w fun e w' => e = .returned (.bool (hasB r c row col)) ∧ w' = w.alloc (.cells #[.int .i64 r, .int .i64 c, .slice ao n cap] 66) := by
 by_cases h1 : 0 ≤ row
 ·by_cases h2 : row < r
  ·by_cases h3 : 0 ≤ col
   ·go_enter Tryz.func99, Tryz.ntmps99
    go_wp2
    go_ret
    exact ⟨ret_bool (hasB_yes h1 h2 h3), rfl⟩
   ·have H : Hid (col < 0) := Hid.mk (by omega)
    have h3' : decide (0 ≤ col) = false := by simpa using h3
    go_enter Tryz.func99, Tryz.ntmps99
    go_wp2
    go_ret
    exact ⟨ret_bool (hasB_no (.inr (.inr H.out))), rfl⟩
  ·have H : Hid (r ≤ row) := Hid.mk (by omega)
   have h2' : decide (row < r) = false := by simpa using h2
   go_enter Tryz.func99, Tryz.ntmps99
   go_wp2
   go_ret
   exact ⟨ret_bool (hasB_no (.inr (.inl H.out))), rfl⟩
 ·have H : Hid (row < 0) := Hid.mk (by omega)
  have h1' : decide (0 ≤ row) = false := by simpa using h1
  go_enter Tryz.func99, Tryz.ntmps99
  go_wp2
  go_ret
  exact ⟨ret_bool (hasB_no (.inl H.out)), rfl⟩
set_option maxHeartbeats 1000000 in
theorem isSquare_raw (r c : Int) (ao : Option Addr) (n cap : Nat) (w : World) :
 Calls Tryz.prog 38 #[.agg #[.int .i64 r, .int .i64 c, .slice ao n cap]] w fun e w' => e = .returned (.bool (r == c)) ∧ w' = w.alloc (.cells #[.int .i64 r, .int .i64 c, .slice ao n cap] 66) := by
 go_enter Tryz.func38, Tryz.ntmps38
 go_wp2
 go_ret
 exact ⟨rfl, rfl⟩
theorem cell3 {w : World} {a : Addr} {v : Value} (h : w.cell? a = some v) : ∀ o1 o2 o3, (((w.alloc o1).alloc o2).alloc o3).cell? a = some v := fun o1 o2 o3 =>
 cell_later (by repeat (first | exact Below.refl _ _ | refine Below.alloc ?_ (by simp <;> omega) _)) h
theorem hasB_in {r c : Nat} {row col : Nat} (h1 : row < r) (h2 : col < c) : hasB r c row col = true := by
 unfold hasB
 rw [decide_eq_true_eq]
 omega
theorem idx_lt {r c row col : Nat} (h1 : row < r) (h2 : col < c) : row * c + col < r * c := by
 have : (row + 1) * c ≤ r * c := Nat.mul_le_mul_right _ h1
 rw [Nat.add_mul, Nat.one_mul] at this
 omega
theorem idx_bd {r c row : Nat} (hr : r ≤ 99) (hc : c ≤ 99) (h1 : row < r) : (0 : Int) ≤ (row : Int) * (c : Int) ∧ (row : Int) * (c : Int) ≤ 9801 := by
 have : row * c ≤ 99 * 99 := Nat.mul_le_mul (by omega) hc
 rw [← Int.natCast_mul]
 omega
set_option maxRecDepth 100000 in
set_option maxHeartbeats 1000000 in
theorem at_in (v : Value) (r c row col : Nat) (zs : List Int) (L : Nat) (w : World) (hm : IsM w v r c zs L) (h1 : row < r) (h2 : col < c) :
 Calls Tryz.prog 64 #[v, .int .i64 row, .int .i64 col] w fun e w' => ∃ x, e = .returned x ∧ IntOut w w' x (zs.getD (row * c + col) 0) L := by
 obtain ⟨hr, hc, sl, rfl, hg⟩ := hm
 obtain ⟨ao, cap, rfl, hcap, hcm, hao⟩ := hg.shape
 have hk := idx_lt h1 h2
 obtain ⟨g, rfl⟩ := hao _ hk
 obtain ⟨nb, bo, m, ecap, c1, c2, hI⟩ := hg.cell _ hk
 have hgl : g < w.heap.size := World.block_lt_of_cell? w _ c1
 have hh := hasB_in h1 h2
 obtain ⟨b1, b2⟩ := idx_bd hr hc h1
 have HI := Hid.mk hI
 rw [Nat.mul_comm 2] at c1 c2
 clear hg hI hao
 obtain ⟨N, hN⟩ : ∃ N, N = r * c := ⟨_, rfl⟩
 rw [← hN] at hcap hk ⊢
 have hk2 : (row : Int) * (c : Int) + (col : Int) < (N : Int) := by rw [← Int.natCast_mul]; omega
 clear hN
 have d1 := cell3 c1
 have d2 := cell3 c2
 go_enter Tryz.func64, Tryz.ntmps64
 go_wp2_with (go_at_call 99; refine (has_raw _ _ _ _ _ _ _ _).mono ?_; rintro e w' ⟨rfl, rfl⟩; rw [hh])
 refine bodyPost_ret (v := .agg #[.bool nb, .slice bo m ecap]) ?_ rfl ?_
 ·(simp [results, Tryz.results64, go_sem]; done)
 ·refine ⟨_, rfl, HI.out.below ?_, ?_⟩
  ·repeat (first | exact Below.refl _ _ | refine Below.alloc ?_ (by simp <;> omega) _)
  ·repeat (first | exact Below.refl _ _ | refine Below.alloc ?_ (by simp <;> omega) _)
open Go.RowKit
theorem cell1 {w : World} {a : Addr} {v : Value} (h : w.cell? a = some v) : ∀ o1, (w.alloc o1).cell? a = some v := fun o1 =>
 cell_later (by repeat (first | exact Below.refl _ _ | refine Below.alloc ?_ (by simp <;> omega) _)) h
theorem cell2 {w : World} {a : Addr} {v : Value} (h : w.cell? a = some v) : ∀ o1 o2, ((w.alloc o1).alloc o2).cell? a = some v := fun o1 o2 =>
 cell_later (by repeat (first | exact Below.refl _ _ | refine Below.alloc ?_ (by simp <;> omega) _)) h
theorem frozen2 {w : World} {a : Addr} (h : w.frozen? a = false) (hb : a.block < w.heap.size) : ∀ o1 o2, ((w.alloc o1).alloc o2).frozen? a = false := fun o1 o2 => by
 rw [Below.frozen (w := w) (B := w.heap.size) (by repeat (first | exact Below.refl _ _ | refine Below.alloc ?_ (by simp <;> omega) _)) hb]; exact h
theorem grown_set2 {w W : World} {g i j : Nat} {a b : Value} (h : Below ((w.setCell ⟨g, i, none⟩ a).setCell ⟨g, j, none⟩ b).heap.size ((w.setCell ⟨g, i, none⟩ a).setCell ⟨g, j, none⟩ b) W) : w.grownBy W (some g) := by
 have hs : ((w.setCell ⟨g, i, none⟩ a).setCell ⟨g, j, none⟩ b).heap.size = w.heap.size := by simp [World.setCell]
 refine ⟨h.os, h.tape, h.output, by have := h.size; omega, fun k hk hne => ?_⟩
 rw [h.block k (by omega), Below.heap_setCell _ _ _ _ (fun e => hne (by simp [e])), Below.heap_setCell _ _ _ _ (fun e => hne (by simp [e]))]
set_option maxRecDepth 100000 in
set_option maxHeartbeats 2000000 in
theorem set_in (p g r c cap row col : Nat) (zs : List Int) (L : Nat) (x : Value) (z : Int) (w : World) (p0 : w.cell? ⟨p, 0, none⟩ = some (.int .i64 r)) (p1 : w.cell? ⟨p, 1, none⟩ = some (.int .i64 c))
 (p2 : w.cell? ⟨p, 2, none⟩ = some (.slice (some ⟨g, 0, none⟩) (r * c) cap)) (hg : Grid w (.slice (some ⟨g, 0, none⟩) (r * c) cap) (r * c) zs L) (hx : IsI w x z L) (hr : r ≤ 99) (hc : c ≤ 99) (h1 : row < r) (h2 : col < c) :
 Calls Tryz.prog 92 #[.pointer (some ⟨p, 0, none⟩), .int .i64 row, .int .i64 col, x] w fun e w' => e = .returned (.tuple #[]) ∧ Grid w' (.slice (some ⟨g, 0, none⟩) (r * c) cap) (r * c) (zs.set (row * c + col) z) L ∧ w.grownBy w' (some g) ∧ KU w w' := by
 have hk := idx_lt h1 h2
 obtain ⟨nb, bo, m, ecap, c1, c2, -⟩ := hg.cell _ hk
 have f1 := hg.frozen (2 * (row * c + col))
 have f2 := hg.frozen (2 * (row * c + col) + 1)
 have hgl : g < w.heap.size := World.block_lt_of_cell? w _ c1
 have hh := hasB_in h1 h2
 obtain ⟨b1, b2⟩ := idx_bd hr hc h1
 obtain ⟨sl, xs, rfl, q2, q3, q4, q5⟩ := id hx
 obtain ⟨ao, dcap, rfl, -⟩ := q5.open_
 rw [Nat.mul_comm 2] at c1 c2 f1 f2
 have d1 := cell2 c1
 have d2 := cell2 c2
 have d3 := frozen2 f1 hgl
 have d4 := frozen2 f2 hgl
 have d5 : ∀ v, ∀ o1 o2, (((w.setCell ⟨g, (row * c + col) * 2, none⟩ v).alloc o1).alloc o2).cell? ⟨g, (row * c + col) * 2 + 1, none⟩ = some (.slice bo m ecap) := fun v => cell2 (by rw [World.cell?_setCell_other _ _ _ _ (by simp)]; exact c2)
 have d6 : ∀ v, ∀ o1 o2, (((w.setCell ⟨g, (row * c + col) * 2, none⟩ v).alloc o1).alloc o2).frozen? ⟨g, (row * c + col) * 2 + 1, none⟩ = false := fun v => frozen2 (by rw [World.frozen?_setCell]; exact f2) (by simp [World.setCell]; exact hgl)
 have e0 := cell2 p0
 have e1 := cell2 p1
 have e2 := cell2 p2
 have e0' := cell1 p0
 have e1' := cell1 p1
 have e2' := cell1 p2
 have HX := Hid.mk hx
 have HG := Hid.mk hg
 have HK := Hid.mk hk
 clear hx hg q2 q3 q4 q5 p0 p1 p2 c1 c2 f1 f2
 obtain ⟨nz, hnz⟩ : ∃ nz, nz = decide (z < 0) := ⟨_, rfl⟩
 rw [← hnz] at HX ⊢
 clear hnz
 obtain ⟨N, hN⟩ : ∃ N, N = r * c := ⟨_, rfl⟩
 rw [← hN] at hk e2 e2' HG ⊢
 have hk2 : (row : Int) * (c : Int) + (col : Int) < (N : Int) := by rw [← Int.natCast_mul]; omega
 clear hN HK
 go_enter Tryz.func92, Tryz.ntmps92
 go_wp2_with (go_at_call 99; refine (has_raw _ _ _ _ _ _ _ _).mono ?_; rintro e w' ⟨rfl, rfl⟩; rw [hh])
 go_region
 all_goals
  go_end0
  obtain ⟨S1, S2⟩ := HG.out.stored _ hk HX.out
  rw [Nat.mul_comm 2] at S1 S2
  refine ⟨rfl, ?_, ?_, ?_⟩
  ·refine S1.below ?_
   repeat (first | exact Below.refl _ _ | refine Below.drew ?_ | refine Below.alloc ?_ (by simp <;> omega) _)
  ·refine grown_set2 (i := (row * c + col) * 2) (j := (row * c + col) * 2 + 1) (a := .bool nz) (b := .slice ao xs.length dcap) ?_
   repeat (first | exact Below.refl _ _ | refine Below.drew ?_ | refine Below.alloc ?_ (by simp <;> omega) _)
  ·refine S2.trans (KU.of_below ?_)
   repeat (first | exact Below.refl _ _ | refine Below.drew ?_ | refine Below.alloc ?_ (by simp <;> omega) _)
open Go.RowKit
theorem Tryz.info79 : (Tryz.prog.info? 79).map (fun i => (i.zero, i.size, i.bytes)) = some (some (.agg #[.bool false, .slice none 0 0]), 2, 32) := by kernel_rfl
theorem made_two (n : Nat) (i : Nat) (hi : i < n) : (madeCells #[Value.bool false, .slice none 0 0] (n * 2)).toList[2 * i]? = some (.bool false) ∧ (madeCells #[Value.bool false, .slice none 0 0] (n * 2)).toList[2 * i + 1]? = some (.slice none 0 0) := by
 constructor
 ·simp [madeCells, show 2 * i < n * 2 from by omega, show 2 * i % 2 = 0 from by omega]
 ·simp [madeCells, show 2 * i + 1 < n * 2 from by omega, show (2 * i + 1) % 2 = 1 from by omega]
theorem make_ints (w : World) {ops : Array Oper} {rest : List Oper} {o : Oper} {a : Act} {Q : Exit → Act → World → Prop}
 (hg : o.guard = none) (l c : Operand) (hop : o.op = Op.makeSlice 64 l c) (L C : Int) (n : Nat) (hl : a.eval l = .int .i64 L) (hc : a.eval c = .int .i64 C) (hL : L = (n : Int)) (hC : C = (n : Int)) (b : n ≤ 1000000000)
 (hK : ∀ w', Grid w' (.slice (some ⟨w.heap.size, 0, none⟩) n n) n (List.replicate n 0) 0 → Below w.heap.size w w' → w.heap.size < w'.heap.size → wpList Tryz.prog ops Q rest (a.put o.dst (.slice (some ⟨w.heap.size, 0, none⟩) n n)) w') :
 wpList Tryz.prog ops Q (o :: rest) a w := by
 obtain ⟨i, hi, hz0, hz1, hz2⟩ := info_parts Tryz.info79
 refine wpList_make_full w hg l c 64 hop 0 79 i (.agg #[.bool false, .slice none 0 0]) 2 Tryz.underlying64 hi hz0 hz1 .i64 .i64 L C n hl hc hL hC (by rw [hz2]; omega) (by unfold maxLen; omega) (Nat.zero_le _) ?_
 intro w' hown hgrow
 rw [show (Value.agg #[.bool false, .slice none 0 0]).cells = #[.bool false, .slice none 0 0] from rfl] at hown
 refine hK w' ⟨by simp, _, hown, fun j hj => ⟨_, _, (made_two n j hj).1, (made_two n j hj).2, ?_⟩⟩ ((Below.refl _ _).grown hgrow (Nat.le_refl _) (by simp)) (World.ownsRow.lt hown _ rfl).2
 rw [show (List.replicate n (0 : Int)).getD j 0 = 0 from by simp [List.getD, hj]]
 exact IsI.zero w' 0
theorem bcellB {B : Nat} {W w1 : World} (hb : Below B W w1) : (∀ b o, b < B → w1.cell? ⟨b, o, none⟩ = W.cell? ⟨b, o, none⟩) ∧ (∀ b o, b < B → w1.frozen? ⟨b, o, none⟩ = W.frozen? ⟨b, o, none⟩) :=
 ⟨fun b o h => hb.cell (p := ⟨b, o, none⟩) h, fun b o h => hb.frozen (p := ⟨b, o, none⟩) h⟩
theorem Grid.keepT {w W : World} {sl : Value} {n L : Nat} {zs : List Int} (h : Grid w sl n zs L) (hb : ∀ (b : Nat) (arr : Array Value), w.heap[b]? = some (.cells arr 79 (0, 0)) → W.heap[b]? = some (.cells arr 79 (0, 0))) (hk : KU w W) : Grid W sl n zs L := by
 obtain ⟨h0, cs, h1, h2⟩ := h
 refine ⟨h0, cs, ⟨h1.1, ?_⟩, fun i hi => ?_⟩
 ·rcases h1.2 with h3 | ⟨g, cap, cur, hv, hg, hh, r⟩
  ·exact .inl h3
  ·exact .inr ⟨g, cap, cur, hv, hg, hb g cur hh, r⟩
 ·obtain ⟨a, b, e1, e2, e3⟩ := h2 i hi
  exact ⟨a, b, e1, e2, e3.keep hk⟩
def KT (w w' : World) : Prop := (∀ (b : Nat) (arr : Array Value), w.heap[b]? = some (.cells arr 79 (0, 0)) → w'.heap[b]? = some (.cells arr 79 (0, 0))) ∧ KU w w'
theorem KT.refl (w : World) : KT w w := ⟨fun _ _ h => h, KU.refl w⟩
theorem KT.trans {a b c : World} (h : KT a b) (k : KT b c) : KT a c := ⟨fun i arr hi => k.1 i arr (h.1 i arr hi), h.2.trans k.2⟩
theorem KT.of_below {w w' : World} (h : Below w.heap.size w w') : KT w w' := ⟨fun i arr hi => by rw [h.block i (Array.getElem?_eq_some_iff.1 hi).1]; exact hi, KU.of_below h⟩
theorem KT.setCell {a w : World} (h : KT a w) {b o : Nat} {t : TypeId} (ht : Ty w b t) (hne : t ≠ 144) (hne2 : t ≠ 79) (u : Value) : KT a (w.setCell ⟨b, o, none⟩ u) := by
 refine ⟨fun i arr hi => ?_, h.2.setCell ht hne u⟩
 have h1 := h.1 i arr hi
 obtain ⟨c, fr, h2⟩ := ht
 by_cases hb : i = b
 ·subst hb
  rw [h1] at h2
  simp only [Option.some.injEq, Obj.cells.injEq] at h2
  exact absurd h2.2.1.symm hne2
 ·rw [Below.heap_setCell _ _ _ _ hb]; exact h1
theorem Grid.keep {w W : World} {sl : Value} {n L : Nat} {zs : List Int} (h : Grid w sl n zs L) (hk : KT w W) : Grid W sl n zs L := h.keepT hk.1 hk.2
set_option maxRecDepth 100000 in
set_option maxHeartbeats 2000000 in
theorem noughts_any (r c : Nat) (w : World) (hr : r ≤ 99) (hc : c ≤ 99) :
 Calls Tryz.prog 90 #[.int .i64 r, .int .i64 c] w fun e w' => ∃ g, e = .returned (.agg #[.int .i64 r, .int .i64 c, .slice (some ⟨g, 0, none⟩) (r * c) (r * c)]) ∧ w.heap.size ≤ g ∧ Grid w' (.slice (some ⟨g, 0, none⟩) (r * c) (r * c)) (r * c) (List.replicate (r * c) 0) 0 ∧ Below w.heap.size w w' := by
 have hb : (0 : Int) ≤ (r : Int) * (c : Int) ∧ (r : Int) * (c : Int) ≤ 9801 := by
  have : r * c ≤ 99 * 99 := Nat.mul_le_mul hr hc
  rw [← Int.natCast_mul]
  omega
 obtain ⟨b1, b2⟩ := hb
 go_enter Tryz.func90, Tryz.ntmps90
 go_wp2_with (at_make; refine make_ints _ rfl (.tmp 24) (.tmp 24) rfl _ _ (r * c) rfl rfl ?_ ?_ ?_ ?_)
 ·simp
 ·simp
 ·have : r * c ≤ 99 * 99 := Nat.mul_le_mul hr hc; omega
 intro w1 hg hbel hsz
 obtain ⟨hcell, hfr⟩ := bcellB hbel
 have hty : Ty w1 w.heap.size 66 := (Ty.new w _ _).below hbel (by omega)
 have HG := Hid.mk hg
 have HB := Hid.mk hbel
 have HT := Hid.mk hty
 clear hg hty
 go_wp2_with fail
 refine bodyPost_ret (v := .agg #[.int .i64 r, .int .i64 c, .slice (some ⟨w.heap.size + 1, 0, none⟩) (r * c) (r * c)]) ?_ rfl ?_
 ·(simp [results, Tryz.results90, go_sem, hcell]; done)
 ·refine ⟨w.heap.size + 1, rfl, by omega, HG.out.keep ?_, ?_⟩
  ·exact KT.setCell (KT.setCell (KT.setCell (KT.refl _) HT.out (by decide) (by decide) _) (HT.out.setCell _ _) (by decide) (by decide) _) ((HT.out.setCell _ _).setCell _ _) (by decide) (by decide) _
  ·refine Below.setCell (Below.setCell (Below.setCell ?_ (by simp) _) (by simp) _) (by simp) _
   exact ((Below.refl w.heap.size w).alloc (Nat.le_refl _) _).trans (HB.out.mono (by omega))
open Go.RowKit
def skip (col j : Nat) : Nat := if j < col then j else j + 1
def MinorTo (r c col rr k : Nat) (zs ms : List Int) : Prop := ∀ i j, i < r - 1 → j < c - 1 → (i + 1 < rr ∨ (i + 1 = rr ∧ skip col j < k)) → ms.getD (i * (c - 1) + j) 0 = zs.getD ((i + 1) * c + skip col j) 0
theorem idx_inj {d i j i' j' : Nat} (hj : j < d) (hj' : j' < d) (h : i * d + j = i' * d + j') : i = i' ∧ j = j' := by
 have h1 : (i * d + j) / d = i := by rw [Nat.mul_comm, Nat.mul_add_div (by omega), Nat.div_eq_of_lt hj]; omega
 have h2 : (i' * d + j') / d = i' := by rw [Nat.mul_comm, Nat.mul_add_div (by omega), Nat.div_eq_of_lt hj']; omega
 have h3 : i = i' := by rw [← h1, ← h2, h]
 subst h3
 exact ⟨rfl, by omega⟩
theorem MinorTo.step {r c col rr k t : Nat} {zs ms : List Int} (h : MinorTo r c col rr k zs ms) (hl : ms.length = (r - 1) * (c - 1)) (hrr : 1 ≤ rr) (ht : t < c - 1) (hs : skip col t = k) :
 MinorTo r c col rr (k + 1) zs (ms.set ((rr - 1) * (c - 1) + t) (zs.getD (rr * c + k) 0)) := by
 intro i j hi hj hd
 by_cases he : i = rr - 1 ∧ j = t
 ·obtain ⟨rfl, rfl⟩ := he
  have : (rr - 1) * (c - 1) + j < ms.length := by rw [hl]; exact idx_lt hi hj
  rw [hs, show rr - 1 + 1 = rr from by omega]
  simp [List.getD, this]
 ·have hne : (rr - 1) * (c - 1) + t ≠ i * (c - 1) + j := fun e => by
   obtain ⟨a, b⟩ := idx_inj ht hj e
   exact he ⟨a.symm, b.symm⟩
  rw [show (ms.set ((rr - 1) * (c - 1) + t) (zs.getD (rr * c + k) 0)).getD (i * (c - 1) + j) 0 = ms.getD (i * (c - 1) + j) 0 from by simp [List.getD, List.getElem?_set_ne hne]]
  refine h i j hi hj ?_
  rcases hd with hd | ⟨hd1, hd2⟩
  ·exact .inl hd
  ·refine .inr ⟨hd1, ?_⟩
   have h1 : j ≠ t := fun e => he ⟨by omega, e⟩
   have h2 : skip col j ≠ k := by
    intro e
    rw [← hs] at e
    unfold skip at e
    split at e <;> split at e <;> omega
   omega
theorem MinorTo.pass {r c col rr : Nat} {zs ms : List Int} (h : MinorTo r c col rr col zs ms) : MinorTo r c col rr (col + 1) zs ms := by
 intro i j hi hj hd
 refine h i j hi hj ?_
 rcases hd with hd | ⟨hd1, hd2⟩
 ·exact .inl hd
 ·refine .inr ⟨hd1, ?_⟩
  unfold skip at hd2 ⊢
  split at hd2
  ·rw [if_pos (by omega)]; omega
  ·omega
theorem MinorTo.next {r c col rr : Nat} {zs ms : List Int} (h : MinorTo r c col rr c zs ms) : MinorTo r c col (rr + 1) 0 zs ms := by
 intro i j hi hj hd
 refine h i j hi hj ?_
 rcases hd with hd | ⟨_, hd2⟩
 ·by_cases hir : i + 1 < rr
  ·exact .inl hir
  ·refine .inr ⟨by omega, ?_⟩
   unfold skip
   split <;> omega
 ·omega
theorem MinorTo.pass' {r c col rr k : Nat} {zs ms : List Int} (h : MinorTo r c col rr k zs ms) (hk : k = col) : MinorTo r c col rr (k + 1) zs ms := by subst hk; exact h.pass
theorem MinorTo.next' {r c col rr k : Nat} {zs ms : List Int} (h : MinorTo r c col rr k zs ms) (hk : k = c) : MinorTo r c col (rr + 1) 0 zs ms := by subst hk; exact h.next
theorem MinorTo.start (r c col : Nat) (zs ms : List Int) : MinorTo r c col 1 0 zs ms := by
 intro i j hi hj hd
 rcases hd with hd | ⟨_, hd2⟩ <;> omega
theorem grown_below {W a b : World} {g : Option Nat} (h : W.grownBy a g) (hb : Below a.heap.size a b) : W.grownBy b g :=
 ⟨hb.os.trans h.os, hb.tape.trans h.tape, hb.output.trans h.output, Nat.le_trans h.size hb.size, fun k hk hne => (hb.block k (Nat.lt_of_lt_of_le hk h.size)).trans (h.block k hk hne)⟩
theorem grown_trans {W a b : World} {g : Option Nat} (h : W.grownBy a g) (k : a.grownBy b g) : W.grownBy b g :=
 ⟨k.os.trans h.os, k.tape.trans h.tape, k.output.trans h.output, Nat.le_trans h.size k.size, fun i hi hne => (k.block i (Nat.lt_of_lt_of_le hi h.size) hne).trans (h.block i hi hne)⟩
theorem IsI.shape {w : World} {v : Value} {z : Int} {L : Nat} (h : IsI w v z L) : ∃ nb ao n cap, v = .agg #[.bool nb, .slice ao n cap] := by
 obtain ⟨sl, xs, rfl, h2, h3, h4, h5⟩ := h
 obtain ⟨ao, cap, rfl, -⟩ := h5.open_
 exact ⟨_, _, _, _, rfl⟩
def MinorOf (r c col : Nat) (zs ms : List Int) : Prop := ∀ i j, i < r - 1 → j < c - 1 → ms.getD (i * (c - 1) + j) 0 = zs.getD ((i + 1) * c + skip col j) 0
set_option maxRecDepth 100000 in
set_option maxHeartbeats 4000000 in
theorem minor_any (v : Value) (r c col : Nat) (zs : List Int) (L : Nat) (w : World) (hm : IsM w v r c zs L) (hr1 : 1 ≤ r) (hcol : col < c) :
 Calls Tryz.prog 63 #[v, .int .i64 col] w fun e w' => ∃ x, e = .returned x ∧ (∃ ms, IsM w' x (r - 1) (c - 1) ms L ∧ MinorOf r c col zs ms) ∧ Below w.heap.size w w' := by
 have HM := Hid.mk hm
 obtain ⟨hr, hc, sl, rfl, hg0⟩ := hm
 obtain ⟨ao, cap, rfl, -⟩ := hg0.shape
 clear hg0
 obtain ⟨N, hN⟩ : ∃ N, N = r * c := ⟨_, rfl⟩
 rw [← hN] at HM ⊢
 clear hN
 obtain ⟨R, hR⟩ : ∃ R, R = r - 1 := ⟨_, rfl⟩
 obtain ⟨C, hC⟩ : ∃ C, C = c - 1 := ⟨_, rfl⟩
 have hR1 : R + 1 ≤ r := by omega
 have hR2 : r ≤ R + 1 := by omega
 have hC1 : C + 1 ≤ c := by omega
 have hC2 : c ≤ C + 1 := by omega
 have HR := Hid.mk (And.intro hR hC)
 clear hR hC
 go_enter Tryz.func63, Tryz.ntmps63
 go_wp2_with fail
 rw [show ((r : Int) - 1) = (R : Int) from by omega, show ((c : Int) - 1) = (C : Int) from by omega]
 refine (noughts_any R C _ (by omega) (by omega)).mono ?_
 rintro e w2 ⟨g, rfl, hgn, hg, hb⟩
 obtain ⟨hc2, hf2⟩ := bcell hb
 have hsz2 : w.heap.size + 1 < w2.heap.size := by have := hb.size; simp at this; omega
 have hgn2 : w.heap.size + 2 ≤ g := by simpa using hgn
 have hgl : g < w2.heap.size := hg.ty.lt
 have hbw : Below w.heap.size w w2 := by
  refine Below.trans ?_ (hb.mono (by simp <;> omega))
  repeat (first | exact Below.refl _ _ | refine Below.alloc ?_ (by simp <;> omega) _)
 go_wp2_with fail
 obtain ⟨W3, hW3⟩ : ∃ W3, W3 = w2.alloc (.cells #[.int .i64 R, .int .i64 C, .slice (some ⟨g, 0, none⟩) (R * C) (R * C)] 66) := ⟨_, rfl⟩
 rw [← hW3]
 have m0 : W3.cell? ⟨w.heap.size, 0, none⟩ = some (.int .i64 r) := by rw [hW3]; exact cell1 (by rw [hc2 _ _ (by simp <;> omega)]; simp) _
 have m1 : W3.cell? ⟨w.heap.size, 1, none⟩ = some (.int .i64 c) := by rw [hW3]; exact cell1 (by rw [hc2 _ _ (by simp <;> omega)]; simp) _
 have m2 : W3.cell? ⟨w.heap.size, 2, none⟩ = some (.slice ao N cap) := by rw [hW3]; exact cell1 (by rw [hc2 _ _ (by simp <;> omega)]; simp) _
 have p0 : W3.cell? ⟨w2.heap.size, 0, none⟩ = some (.int .i64 R) := by rw [hW3]; simp
 have p1 : W3.cell? ⟨w2.heap.size, 1, none⟩ = some (.int .i64 C) := by rw [hW3]; simp
 have p2 : W3.cell? ⟨w2.heap.size, 2, none⟩ = some (.slice (some ⟨g, 0, none⟩) (R * C) (R * C)) := by rw [hW3]; simp
 have hS : W3.heap.size = w2.heap.size + 1 := by rw [hW3]; simp
 have hG3 : Grid W3 (.slice (some ⟨g, 0, none⟩) (R * C) (R * C)) (R * C) (List.replicate (R * C) 0) L := by
  rw [hW3]; exact (hg.mono (Nat.zero_le _)).below ((Below.refl _ _).alloc (Nat.le_refl _) _)
 have hB3 : Below w.heap.size w W3 := by rw [hW3]; exact hbw.alloc (by omega) _
 have hRes : W3.heap[w.heap.size + 1]? = some (.cells #[.int .i64 0, .int .i64 0, .slice none 0 0] 66 (0, 0)) := by
  rw [hW3, Below.heap_alloc _ _ _ (by omega), hb.block _ (by simp)]
  have := heap_alloc_new (w.alloc (.cells #[.int .i64 r, .int .i64 c, .slice ao N cap] 66)) (.cells #[.int .i64 0, .int .i64 0, .slice none 0 0] 66)
  simpa using this
 have FM := Hid.mk (And.intro m0 (And.intro m1 m2))
 have FP := Hid.mk (And.intro p0 (And.intro p1 p2))
 have FR := Hid.mk hRes
 have HS := Hid.mk hS
 clear m0 m1 m2 p0 p1 p2 hRes hc2 hf2 hW3 hg hb hbw hS hgn
 go_loopw [6] (fun i wr => ∃ (rr : Nat) (ms : List Int), 1 ≤ rr ∧ rr ≤ r ∧ i = .int .i64 rr ∧ Grid wr (.slice (some ⟨g, 0, none⟩) (R * C) (R * C)) (R * C) ms L ∧ W3.grownBy wr (some g) ∧ Below w.heap.size w wr ∧ Hid (MinorTo r c col rr 0 zs ms)) (fun i _ => r - (intOf i).toNat)
 case atStart => exact ⟨1, _, Nat.le_refl _, hr1, rfl, hG3, World.grownBy.refl _ _, hB3, Hid.mk (MinorTo.start _ _ _ _ _)⟩
 case round =>
  clear hG3 hB3
  obtain ⟨rr, ms, hrr1, hrr2, rfl, hG, hgr, hB, HI⟩ := hrel
  have q0 := hgr.cell FM.out.1 (by simp; omega)
  have q1 := hgr.cell FM.out.2.1 (by simp; omega)
  have q2 := hgr.cell FM.out.2.2 (by simp; omega)
  by_cases hrr : rr < r
  ·go_wp2_with fail
   go_loopw [7] (fun i ws => ∃ (k : Nat) (ms : List Int), k ≤ c ∧ i = .int .i64 k ∧ Grid ws (.slice (some ⟨g, 0, none⟩) (R * C) (R * C)) (R * C) ms L ∧ W3.grownBy ws (some g) ∧ Below w.heap.size w ws ∧ Hid (MinorTo r c col rr k zs ms)) (fun i _ => c - (intOf i).toNat)
   case atStart => exact ⟨0, ms, Nat.zero_le _, rfl, hG, hgr, hB, HI⟩
   case round =>
    clear hG hgr hB q0 q1 q2 HI
    obtain ⟨k, ms, hk, rfl, hG, hgr, hB, HI⟩ := hrel
    have q0 := hgr.cell FM.out.1 (by simp; omega)
    have q1 := hgr.cell FM.out.2.1 (by simp; omega)
    have q2 := hgr.cell FM.out.2.2 (by simp; omega)
    by_cases hkc : k < c
    ·go_wp2_with fail
     refine (at_in _ r c rr k zs L _ (HM.out.below hB) hrr hkc).mono ?_
     rintro e w4 ⟨x, rfl, hx, hb4⟩
     obtain ⟨nb, bo, n, ecap, rfl⟩ := hx.shape
     have hG4 := hG.below hb4
     have hgr4 := grown_below hgr hb4
     have hB4 : Below w.heap.size w w4 := hB.trans (hb4.mono hB.size)
     clear hG hgr hB hb4 q0 q1 q2
     have W5b := (Below.refl w4.heap.size w4).alloc (Nat.le_refl _) (.cells #[.bool nb, .slice bo n ecap] 79)
     have s0 := cell1 (hgr4.cell FP.out.1 (by simp; omega)) (.cells #[.bool nb, .slice bo n ecap] 79)
     have s1 := cell1 (hgr4.cell FP.out.2.1 (by simp; omega)) (.cells #[.bool nb, .slice bo n ecap] 79)
     have s2 := cell1 (hgr4.cell FP.out.2.2 (by simp; omega)) (.cells #[.bool nb, .slice bo n ecap] 79)
     have S := Hid.mk (And.intro s0 (And.intro s1 s2))
     have W5 := Hid.mk W5b
     clear s0 s1 s2 W5b
     have hms : ms.length = R * C := hG4.1
     have hend : ∀ (t : Nat) (w6 : World) (z : Int), z = zs.getD (rr * c + k) 0 → t < C → skip col t = k → Grid w6 (.slice (some ⟨g, 0, none⟩) (R * C) (R * C)) (R * C) (ms.set ((rr - 1) * C + t) z) L → (w4.alloc (.cells #[.bool nb, .slice bo n ecap] 79)).grownBy w6 (some g) →
      Grid w6 (.slice (some ⟨g, 0, none⟩) (R * C) (R * C)) (R * C) (ms.set ((rr - 1) * C + t) z) L ∧ W3.grownBy w6 (some g) ∧ Below w.heap.size w w6 ∧ MinorTo r c col rr (k + 1) zs (ms.set ((rr - 1) * C + t) z) := by
      intro t w6 z hz ht hs h1 h2
      subst hz
      refine ⟨h1, grown_trans (grown_below hgr4 W5.out) h2, ?_, ?_⟩
      ·refine ((hB4.trans (W5.out.mono hB4.size))).grown h2 (by have := hB4.size; simp; omega) ?_
       intro j hj
       simp at hj
       omega
      ·have e := HR.out
       have := HI.out.step (t := t) (by rw [hms, e.1, e.2]) hrr1 (by omega) hs
       rw [← e.2] at this
       exact this
     have HE := Hid.mk hend
     clear hend
     by_cases h1 : k < col
     ·go_wp2_with fail
      rw [show ((rr : Int) - 1) = ((rr - 1 : Nat) : Int) from by omega]
      refine (set_in w2.heap.size g R C (R * C) (rr - 1) k ms L _ (zs.getD (rr * c + k) 0) _ S.out.1 S.out.2.1 S.out.2.2 (hG4.below W5.out) (hx.below W5.out) (by omega) (by omega) (by omega) (by omega)).mono ?_
      rintro e w6 ⟨rfl, a1, a2, -⟩
      obtain ⟨b1, b2, b3, b4⟩ := HE.out k w6 _ rfl (by omega) (by unfold skip; rw [if_pos h1]) a1 a2
      clear a1 a2 hG4 hgr4 hB4 hx
      go_wp2_with fail
      go_roundw
      case rel => exact ⟨k + 1, _, by omega, by go_num, b1, b2, b3, Hid.mk b4⟩
      case measure => simp [intOf]; omega
     ·by_cases h2 : col < k
      ·go_wp2_with fail
       rw [show ((rr : Int) - 1) = ((rr - 1 : Nat) : Int) from by omega, show ((k : Int) - 1) = ((k - 1 : Nat) : Int) from by omega]
       refine (set_in w2.heap.size g R C (R * C) (rr - 1) (k - 1) ms L _ (zs.getD (rr * c + k) 0) _ S.out.1 S.out.2.1 S.out.2.2 (hG4.below W5.out) (hx.below W5.out) (by omega) (by omega) (by omega) (by omega)).mono ?_
       rintro e w6 ⟨rfl, a1, a2, -⟩
       obtain ⟨b1, b2, b3, b4⟩ := HE.out (k - 1) w6 _ rfl (by omega) (by unfold skip; rw [if_neg (by omega)]; omega) a1 a2
       clear a1 a2 hG4 hgr4 hB4 hx
       go_wp2_with fail
       go_roundw
       case rel => exact ⟨k + 1, _, by omega, by go_num, b1, b2, b3, Hid.mk b4⟩
       case measure => simp [intOf]; omega
      ·go_wp2_with fail
       go_roundw
       case rel => exact ⟨k + 1, ms, by omega, by go_num, hG4.below W5.out, grown_below hgr4 W5.out, hB4.trans (W5.out.mono hB4.size), Hid.mk (HI.out.pass' (by omega))⟩
       case measure => simp [intOf]; omega
    ·go_wp2_with fail
     go_roundw
     case rel => exact ⟨rr + 1, ms, by omega, by omega, by go_num, hG, hgr, hB, Hid.mk (HI.out.next' (by omega))⟩
     case measure => simp [intOf]; omega
  ·have s0 := hgr.cell FP.out.1 (by simp; omega)
   have s1 := hgr.cell FP.out.2.1 (by simp; omega)
   have s2 := hgr.cell FP.out.2.2 (by simp; omega)
   have hres : wr.heap[w.heap.size + 1]? = some (.cells #[.int .i64 0, .int .i64 0, .slice none 0 0] 66 (0, 0)) := by
    rw [hgr.block _ (by have := HS.out; omega) (by simp; omega)]; exact FR.out
   have r0 : wr.cell? ⟨w.heap.size + 1, 0, none⟩ = some (.int .i64 0) := by simp [World.cell?, hres]
   have r1 : wr.cell? ⟨w.heap.size + 1, 1, none⟩ = some (.int .i64 0) := by simp [World.cell?, hres]
   have r2 : wr.cell? ⟨w.heap.size + 1, 2, none⟩ = some (.slice none 0 0) := by simp [World.cell?, hres]
   have z0 : wr.frozen? ⟨w.heap.size + 1, 0, none⟩ = false := by simp [World.frozen?, hres]
   have z1 : wr.frozen? ⟨w.heap.size + 1, 1, none⟩ = false := by simp [World.frozen?, hres]
   have z2 : wr.frozen? ⟨w.heap.size + 1, 2, none⟩ = false := by simp [World.frozen?, hres]
   have HT : Hid (Ty wr (w.heap.size + 1) 66) := Hid.mk ⟨_, _, hres⟩
   clear hres
   go_wp2_with fail
   refine bodyPost_ret (v := .agg #[.int .i64 R, .int .i64 C, .slice (some ⟨g, 0, none⟩) (R * C) (R * C)]) ?_ rfl ?_
   ·(simp [results, Tryz.results63, go_sem, r0, r1, r2]; done)
   ·obtain ⟨e1, e2⟩ := HR.out
    subst e1
    subst e2
    refine ⟨_, rfl, ⟨ms, ⟨by omega, by omega, _, rfl, hG.keep (KT.setCell (KT.setCell (KT.setCell (KT.refl _) HT.out (by decide) (by decide) _) (HT.out.setCell _ _) (by decide) (by decide) _) ((HT.out.setCell _ _).setCell _ _) (by decide) (by decide) _)⟩, ?_⟩, ?_⟩
    ·intro i j hi hj
     exact HI.out i j hi hj (.inl (by omega))
    ·exact ((hB.setCell (by simp) _).setCell (by simp) _).setCell (by simp) _
open Go.RowKit
theorem new_cell (w : World) (c : Array Value) (t : TypeId) (i b : Nat) {v : Value} (hb : b = w.heap.size) (h : c[i]? = some v) : (w.alloc (.cells c t)).cell? ⟨b, i, none⟩ = some v := by
 rw [hb, World.cell?_alloc_new]; exact h
theorem new_frozen (w : World) (c : Array Value) (t : TypeId) (i b : Nat) (hb : b = w.heap.size) : (w.alloc (.cells c t)).frozen? ⟨b, i, none⟩ = false := by
 rw [hb]; exact World.frozen?_alloc_new _ _ _ _
def Duo (w : World) (b : Nat) (x y : Value) : Prop := w.heap[b]? = some (.cells #[x, y] 79 (0, 0))
theorem Duo.below {B : Nat} {w w' : World} {b : Nat} {x y : Value} (h : Duo w b x y) (hb : Below B w w') (hB : b < B) : Duo w' b x y := by unfold Duo; rw [hb.block b hB]; exact h
theorem Duo.new (w : World) (x y : Value) {b : Nat} (hb : b = w.heap.size) : Duo (w.alloc (.cells #[x, y] 79)) b x y := by rw [hb]; exact heap_alloc_new w _
theorem Duo.drew {w : World} {b : Nat} {x y : Value} (h : Duo w b x y) : Duo w.drew b x y := h
theorem Duo.put {w : World} {b : Nat} {x y : Value} (h : Duo w b x y) (x' y' : Value) : Duo ((w.setCell ⟨b, 0, none⟩ x').setCell ⟨b, 1, none⟩ y') b x' y' := by
 unfold Duo at *
 rw [heap_setCell_same _ _ _ _ _ _ (heap_setCell_same _ _ _ _ _ _ h)]
 simp
theorem Duo.ty {w : World} {b : Nat} {x y : Value} (h : Duo w b x y) : Ty w b 79 := ⟨_, _, h⟩
theorem Duo.cells {w : World} {b : Nat} {x y : Value} (h : Duo w b x y) : w.cell? ⟨b, 0, none⟩ = some x ∧ w.cell? ⟨b, 1, none⟩ = some y ∧ w.frozen? ⟨b, 0, none⟩ = false ∧ w.frozen? ⟨b, 1, none⟩ = false := by
 unfold Duo at h
 refine ⟨?_, ?_, ?_, ?_⟩ <;> simp [World.cell?, World.frozen?, h]
theorem IsI.duo {w : World} {v : Value} {z : Int} {L b : Nat} {x y : Value} (h : IsI w v z L) (hd : Duo w b x y) (x' y' : Value) : IsI ((w.setCell ⟨b, 0, none⟩ x').setCell ⟨b, 1, none⟩ y') v z L := h.keep (KU.setCell (KU.setCell (KU.refl _) hd.ty (by decide) _) (hd.ty.setCell _ _) (by decide) _)
theorem grown_new {W w : World} {row : Option Nat} {p i j : Nat} {x y : Value} (h : W.grownBy w row) (hp : W.heap.size ≤ p) : W.grownBy ((w.setCell ⟨p, i, none⟩ x).setCell ⟨p, j, none⟩ y) row := by
 refine ⟨h.os, h.tape, h.output, by have := h.size; simp [World.setCell]; omega, fun k hk hne => ?_⟩
 rw [Below.heap_setCell _ _ _ _ (by simp; omega), Below.heap_setCell _ _ _ _ (by simp; omega)]
 exact h.block k hk hne
theorem grown_put2 {W w : World} {b i j : Nat} {x y : Value} (h : W.grownBy w (some b)) : W.grownBy ((w.setCell ⟨b, i, none⟩ x).setCell ⟨b, j, none⟩ y) (some b) := by
 refine grown_trans h ⟨rfl, rfl, rfl, by simp [World.setCell], fun k _ hne => ?_⟩
 rw [Below.heap_setCell _ _ _ _ (fun e => hne (by simp [e])), Below.heap_setCell _ _ _ _ (fun e => hne (by simp [e]))]
def dot (f g : Nat → Nat → Int) (i j : Nat) : Nat → Int
 | 0 => 0
 | t + 1 => dot f g i j t + f i t * g t j
theorem dot_congr {f g f' g' : Nat → Nat → Int} {i j : Nat} (t : Nat) (h1 : ∀ k, k < t → f i k = f' i k) (h2 : ∀ k, k < t → g k j = g' k j) : dot f g i j t = dot f' g' i j t := by
 induction t with
 | zero => rfl
 | succ t ih => rw [dot, dot, ih (fun k hk => h1 k (by omega)) (fun k hk => h2 k (by omega)), h1 t (by omega), h2 t (by omega)]
end Go.Proofs.YtfjbijpagaipnabGreatDoor
