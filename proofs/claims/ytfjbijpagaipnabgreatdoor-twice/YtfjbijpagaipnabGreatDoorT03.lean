import Derived.Test.YtfjbijpagaipnabGreatDoorT02
import Derived.Test.YtfjbijpagaipnabGreatDoorT01
import Derived.Laws.BitsAllLaws
namespace Go.Proofs.YtfjbijpagaipnabGreatDoor
open Go.RowKit
def Grid (w : World) (sl : Value) (n : Nat) (zs : List Int) (L : Nat) : Prop :=
 zs.length = n ∧ ∃ cs, w.ownsRow 0 79 2 sl n cs ∧ ∀ i, i < n → ∃ a b, cs[2 * i]? = some a ∧ cs[2 * i + 1]? = some b ∧ IsI w (.agg #[a, b]) (zs.getD i 0) L
def IsM (w : World) (v : Value) (r c : Nat) (zs : List Int) (L : Nat) : Prop := r ≤ 99 ∧ c ≤ 99 ∧ ∃ sl, v = .agg #[.int .i64 r, .int .i64 c, sl] ∧ Grid w sl (r * c) zs L
theorem Grid.below {w w' : World} {sl : Value} {n L : Nat} {zs : List Int} (h : Grid w sl n zs L) (hb : Below w.heap.size w w') : Grid w' sl n zs L := by
 obtain ⟨h0, cs, h1, h2⟩ := h
 refine ⟨h0, cs, ⟨h1.1, ?_⟩, fun i hi => ?_⟩
 ·rcases h1.2 with h3 | ⟨g, cap, cur, hv, hg, hh, r⟩
  ·exact .inl h3
  ·exact .inr ⟨g, cap, cur, hv, hg, by rw [hb.block g (Array.getElem?_eq_some_iff.1 hh).1]; exact hh, r⟩
 ·obtain ⟨a, b, e1, e2, e3⟩ := h2 i hi
  exact ⟨a, b, e1, e2, e3.below hb⟩
theorem IsM.below {w w' : World} {v : Value} {r c L : Nat} {zs : List Int} (h : IsM w v r c zs L) (hb : Below w.heap.size w w') : IsM w' v r c zs L := by
 obtain ⟨h0, h1, sl, h2, h3⟩ := h
 exact ⟨h0, h1, sl, h2, h3.below hb⟩
theorem Grid.mono {w : World} {sl : Value} {n L M : Nat} {zs : List Int} (h : Grid w sl n zs L) (hLM : L ≤ M) : Grid w sl n zs M := by
 obtain ⟨h0, cs, h1, h2⟩ := h
 refine ⟨h0, cs, h1, fun i hi => ?_⟩
 obtain ⟨a, b, e1, e2, e3⟩ := h2 i hi
 exact ⟨a, b, e1, e2, e3.mono hLM⟩
theorem IsM.mono {w : World} {v : Value} {r c L M : Nat} {zs : List Int} (h : IsM w v r c zs L) (hLM : L ≤ M) : IsM w v r c zs M := by
 obtain ⟨h0, h1, sl, h2, h3⟩ := h
 exact ⟨h0, h1, sl, h2, h3.mono hLM⟩
theorem Grid.shape {w : World} {sl : Value} {n L : Nat} {zs : List Int} (h : Grid w sl n zs L) : ∃ ao cap, sl = .slice ao n cap ∧ n ≤ cap ∧ cap ≤ 9223372036854775807 ∧ (∀ i, i < n → ∃ g, ao = some ⟨g, 0, none⟩) := by
 obtain ⟨h0, cs, h1, h2⟩ := h
 rcases h1.2 with ⟨rfl, hn⟩ | ⟨g, cap, cur, rfl, hg, hh, r1, r2, r3, r4⟩
 ·subst hn; exact ⟨none, 0, rfl, Nat.le_refl _, by omega, fun i hi => by omega⟩
 ·exact ⟨_, cap, rfl, r1, by simpa [maxLen] using r2, fun i _ => ⟨g, rfl⟩⟩
theorem Grid.cell {w : World} {g n cap L : Nat} {zs : List Int} (h : Grid w (.slice (some ⟨g, 0, none⟩) n cap) n zs L) (k : Nat) (hk : k < n) :
 ∃ nb ao m ecap, w.cell? ⟨g, 2 * k, none⟩ = some (.bool nb) ∧ w.cell? ⟨g, 2 * k + 1, none⟩ = some (.slice ao m ecap) ∧ IsI w (.agg #[.bool nb, .slice ao m ecap]) (zs.getD k 0) L := by
 obtain ⟨h0, cs, h1, h2⟩ := h
 obtain ⟨a, b, e1, e2, e3⟩ := h2 k hk
 have e4 := e3
 obtain ⟨sl, xs, f1, f2, f3, f4, f5⟩ := e3
 obtain ⟨ao, ecap, rfl, -⟩ := f5.open_
 simp only [Value.agg.injEq, Array.mk.injEq, List.cons.injEq, and_true] at f1
 obtain ⟨rfl, rfl⟩ := f1
 exact ⟨_, _, _, _, by rw [World.ownsRow.cellAt h1 _ (by omega), e1], by rw [World.ownsRow.cellAt h1 _ (by omega), e2], e4⟩
theorem Grid.frozen {w : World} {g n cap L : Nat} {zs : List Int} (h : Grid w (.slice (some ⟨g, 0, none⟩) n cap) n zs L) (j : Nat) : w.frozen? ⟨g, j, none⟩ = false := by
 obtain ⟨h0, cs, h1, h2⟩ := h
 exact World.ownsRow.frozenAt h1 j
theorem Grid.ty {w : World} {g n cap L : Nat} {zs : List Int} (h : Grid w (.slice (some ⟨g, 0, none⟩) n cap) n zs L) : Ty w g 79 := by
 obtain ⟨h0, cs, h1, h2⟩ := h
 rcases h1.2 with ⟨h3, _⟩ | ⟨g', cap', cur, hv, hg, hh, r⟩
 ·simp at h3
 ·simp only [Value.slice.injEq, Option.some.injEq, Addr.mk.injEq] at hv
  obtain ⟨⟨rfl, _⟩, _⟩ := hv
  exact ⟨_, _, hh⟩
theorem Grid.stored {w : World} {g n cap L : Nat} {zs : List Int} (h : Grid w (.slice (some ⟨g, 0, none⟩) n cap) n zs L) (k : Nat) (hk : k < n) {a b : Value} {z : Int} (hz : IsI w (.agg #[a, b]) z L) :
 Grid ((w.setCell ⟨g, 2 * k, none⟩ a).setCell ⟨g, 2 * k + 1, none⟩ b) (.slice (some ⟨g, 0, none⟩) n cap) n (zs.set k z) L ∧ KU w ((w.setCell ⟨g, 2 * k, none⟩ a).setCell ⟨g, 2 * k + 1, none⟩ b) := by
 have hty := h.ty
 have hku : KU w ((w.setCell ⟨g, 2 * k, none⟩ a).setCell ⟨g, 2 * k + 1, none⟩ b) := KU.setCell (KU.setCell (KU.refl _) hty (by decide) _) (hty.setCell _ _) (by decide) _
 obtain ⟨h0, cs, h1, h2⟩ := h
 refine ⟨⟨by simpa using h0, (cs.set (2 * k) a).set (2 * k + 1) b, ((h1.stored (2 * k) a).1.stored (2 * k + 1) b).1, fun i hi => ?_⟩, hku⟩
 have hcl : cs.length = n * 2 := h1.1
 by_cases hik : i = k
 ·subst hik
  refine ⟨a, b, ?_, ?_, ?_⟩
  ·rw [List.getElem?_set_ne (by omega), List.getElem?_set_self (by omega)]
  ·rw [List.getElem?_set_self (by simp; omega)]
  ·rw [show (zs.set i z).getD i 0 = z from by simp [List.getD, show i < zs.length from by omega]]; exact hz.keep hku
 ·obtain ⟨a', b', e1, e2, e3⟩ := h2 i hi
  refine ⟨a', b', ?_, ?_, ?_⟩
  ·rw [List.getElem?_set_ne (by omega), List.getElem?_set_ne (by omega), e1]
  ·rw [List.getElem?_set_ne (by omega), List.getElem?_set_ne (by omega), e2]
  ·rw [show (zs.set k z).getD i 0 = zs.getD i 0 from by simp [List.getD, List.getElem?_set_ne (Ne.symm hik)]]; exact e3.keep hku
def hasB (r c row col : Int) : Bool := decide (0 ≤ row ∧ row < r ∧ 0 ≤ col ∧ col < c)
theorem ret_bool {a b : Bool} (h : a = b) : Ending.returned (.bool a) = .returned (.bool b) := by rw [h]
theorem hasB_no {r c row col : Int} (h : row < 0 ∨ r ≤ row ∨ col < 0) : false = hasB r c row col := by
 unfold hasB
 rw [eq_comm, decide_eq_false_iff_not]
 omega
theorem hasB_yes {r c row col : Int} (h1 : 0 ≤ row) (h2 : row < r) (h3 : 0 ≤ col) : decide (col < c) = hasB r c row col := by
 unfold hasB
 rw [decide_eq_decide]
 omega
set_option maxHeartbeats 1000000 in
theorem has_raw (r c row col : Int) (ao : Option Addr) (n cap : Nat) (w : World) :
 Calls Tryz.prog 99 #[.agg #[.int .i64 r, .int .i64 c, .slice ao n cap], .int .i64 row, .int .i64 col] w fun e w' => e = .returned (.bool (hasB r c row col)) ∧ w' = w.alloc (.cells #[.int .i64 r, .int .i64 c, .slice ao n cap] 66) := by
 by_cases h1 : 0 ≤ row
 ·by_cases h2 : row < r
  ·by_cases h3 : 0 ≤ col
   ·go_enter Tryz.func99, Tryz.ntmps99
    go_wp2
    go_ret
    exact ⟨ret_bool (hasB_yes h1 h2 h3), rfl⟩
   ·have H : Hid (col < 0) := Hid.mk (by omega)
    have h3' : decide (0 ≤ col) = false := by simpa using h3
    go_enter Tryz.func99, Tryz.ntmps99
    go_wp2
    go_ret
    exact ⟨ret_bool (hasB_no (.inr (.inr H.out))), rfl⟩
  ·have H : Hid (r ≤ row) := Hid.mk (by omega)
   have h2' : decide (row < r) = false := by simpa using h2
   go_enter Tryz.func99, Tryz.ntmps99
   go_wp2
   go_ret
   exact ⟨ret_bool (hasB_no (.inr (.inl H.out))), rfl⟩
 ·have H : Hid (row < 0) := Hid.mk (by omega)
  have h1' : decide (0 ≤ row) = false := by simpa using h1
  go_enter Tryz.func99, Tryz.ntmps99
  go_wp2
  go_ret
  exact ⟨ret_bool (hasB_no (.inl H.out)), rfl⟩
theorem cell3 {w : World} {a : Addr} {v : Value} (h : w.cell? a = some v) : ∀ o1 o2 o3, (((w.alloc o1).alloc o2).alloc o3).cell? a = some v := fun o1 o2 o3 =>
 cell_later (by repeat (first | exact Below.refl _ _ | refine Below.alloc ?_ (by simp <;> omega) _)) h
theorem hasB_in {r c : Nat} {row col : Nat} (h1 : row < r) (h2 : col < c) : hasB r c row col = true := by
 unfold hasB
 rw [decide_eq_true_eq]
 omega
theorem idx_lt {r c row col : Nat} (h1 : row < r) (h2 : col < c) : row * c + col < r * c := by
 have : (row + 1) * c ≤ r * c := Nat.mul_le_mul_right _ h1
 rw [Nat.add_mul, Nat.one_mul] at this
 omega
theorem idx_bd {r c row : Nat} (hr : r ≤ 99) (hc : c ≤ 99) (h1 : row < r) : (0 : Int) ≤ (row : Int) * (c : Int) ∧ (row : Int) * (c : Int) ≤ 9801 := by
 have : row * c ≤ 99 * 99 := Nat.mul_le_mul (by omega) hc
 rw [← Int.natCast_mul]
 omega
set_option maxRecDepth 100000 in
set_option maxHeartbeats 1000000 in
theorem at_in (v : Value) (r c row col : Nat) (zs : List Int) (L : Nat) (w : World) (hm : IsM w v r c zs L) (h1 : row < r) (h2 : col < c) :
 Calls Tryz.prog 64 #[v, .int .i64 row, .int .i64 col] w fun e w' => ∃ x, e = .returned x ∧ IntOut w w' x (zs.getD (row * c + col) 0) L := by
 obtain ⟨hr, hc, sl, rfl, hg⟩ := hm
 obtain ⟨ao, cap, rfl, hcap, hcm, hao⟩ := hg.shape
 have hk := idx_lt h1 h2
 obtain ⟨g, rfl⟩ := hao _ hk
 obtain ⟨nb, bo, m, ecap, c1, c2, hI⟩ := hg.cell _ hk
 have hgl : g < w.heap.size := World.block_lt_of_cell? w _ c1
 have hh := hasB_in h1 h2
 obtain ⟨b1, b2⟩ := idx_bd hr hc h1
 have HI := Hid.mk hI
 rw [Nat.mul_comm 2] at c1 c2
 clear hg hI hao
 obtain ⟨N, hN⟩ : ∃ N, N = r * c := ⟨_, rfl⟩
 rw [← hN] at hcap hk ⊢
 have hk2 : (row : Int) * (c : Int) + (col : Int) < (N : Int) := by rw [← Int.natCast_mul]; omega
 clear hN
 have d1 := cell3 c1
 have d2 := cell3 c2
 go_enter Tryz.func64, Tryz.ntmps64
 go_wp2_with (go_at_call 99; refine (has_raw _ _ _ _ _ _ _ _).mono ?_; rintro e w' ⟨rfl, rfl⟩; rw [hh])
 refine bodyPost_ret (v := .agg #[.bool nb, .slice bo m ecap]) ?_ rfl ?_
 ·(simp [results, Tryz.results64, go_sem]; done)
 ·refine ⟨_, rfl, HI.out.below ?_, ?_⟩
  ·repeat (first | exact Below.refl _ _ | refine Below.alloc ?_ (by simp <;> omega) _)
  ·repeat (first | exact Below.refl _ _ | refine Below.alloc ?_ (by simp <;> omega) _)
open Go.RowKit
theorem cell1 {w : World} {a : Addr} {v : Value} (h : w.cell? a = some v) : ∀ o1, (w.alloc o1).cell? a = some v := fun o1 =>
 cell_later (by repeat (first | exact Below.refl _ _ | refine Below.alloc ?_ (by simp <;> omega) _)) h
theorem cell2 {w : World} {a : Addr} {v : Value} (h : w.cell? a = some v) : ∀ o1 o2, ((w.alloc o1).alloc o2).cell? a = some v := fun o1 o2 =>
 cell_later (by repeat (first | exact Below.refl _ _ | refine Below.alloc ?_ (by simp <;> omega) _)) h
theorem frozen2 {w : World} {a : Addr} (h : w.frozen? a = false) (hb : a.block < w.heap.size) : ∀ o1 o2, ((w.alloc o1).alloc o2).frozen? a = false := fun o1 o2 => by
 rw [Below.frozen (w := w) (B := w.heap.size) (by repeat (first | exact Below.refl _ _ | refine Below.alloc ?_ (by simp <;> omega) _)) hb]; exact h
theorem grown_set2 {w W : World} {g i j : Nat} {a b : Value} (h : Below ((w.setCell ⟨g, i, none⟩ a).setCell ⟨g, j, none⟩ b).heap.size ((w.setCell ⟨g, i, none⟩ a).setCell ⟨g, j, none⟩ b) W) : w.grownBy W (some g) := by
 have hs : ((w.setCell ⟨g, i, none⟩ a).setCell ⟨g, j, none⟩ b).heap.size = w.heap.size := by simp [World.setCell]
 refine ⟨h.os, h.tape, h.output, by have := h.size; omega, fun k hk hne => ?_⟩
 rw [h.block k (by omega), Below.heap_setCell _ _ _ _ (fun e => hne (by simp [e])), Below.heap_setCell _ _ _ _ (fun e => hne (by simp [e]))]
set_option maxRecDepth 100000 in
set_option maxHeartbeats 2000000 in
theorem set_in (p g r c cap row col : Nat) (zs : List Int) (L : Nat) (x : Value) (z : Int) (w : World) (p0 : w.cell? ⟨p, 0, none⟩ = some (.int .i64 r)) (p1 : w.cell? ⟨p, 1, none⟩ = some (.int .i64 c))
 (p2 : w.cell? ⟨p, 2, none⟩ = some (.slice (some ⟨g, 0, none⟩) (r * c) cap)) (hg : Grid w (.slice (some ⟨g, 0, none⟩) (r * c) cap) (r * c) zs L) (hx : IsI w x z L) (hr : r ≤ 99) (hc : c ≤ 99) (h1 : row < r) (h2 : col < c) :
 Calls Tryz.prog 92 #[.pointer (some ⟨p, 0, none⟩), .int .i64 row, .int .i64 col, x] w fun e w' => e = .returned (.tuple #[]) ∧ Grid w' (.slice (some ⟨g, 0, none⟩) (r * c) cap) (r * c) (zs.set (row * c + col) z) L ∧ w.grownBy w' (some g) ∧ KU w w' := by
 have hk := idx_lt h1 h2
 obtain ⟨nb, bo, m, ecap, c1, c2, -⟩ := hg.cell _ hk
 have f1 := hg.frozen (2 * (row * c + col))
 have f2 := hg.frozen (2 * (row * c + col) + 1)
 have hgl : g < w.heap.size := World.block_lt_of_cell? w _ c1
 have hh := hasB_in h1 h2
 obtain ⟨b1, b2⟩ := idx_bd hr hc h1
 obtain ⟨sl, xs, rfl, q2, q3, q4, q5⟩ := id hx
 obtain ⟨ao, dcap, rfl, -⟩ := q5.open_
 rw [Nat.mul_comm 2] at c1 c2 f1 f2
 have d1 := cell2 c1
 have d2 := cell2 c2
 have d3 := frozen2 f1 hgl
 have d4 := frozen2 f2 hgl
 have d5 : ∀ v, ∀ o1 o2, (((w.setCell ⟨g, (row * c + col) * 2, none⟩ v).alloc o1).alloc o2).cell? ⟨g, (row * c + col) * 2 + 1, none⟩ = some (.slice bo m ecap) := fun v => cell2 (by rw [World.cell?_setCell_other _ _ _ _ (by simp)]; exact c2)
 have d6 : ∀ v, ∀ o1 o2, (((w.setCell ⟨g, (row * c + col) * 2, none⟩ v).alloc o1).alloc o2).frozen? ⟨g, (row * c + col) * 2 + 1, none⟩ = false := fun v => frozen2 (by rw [World.frozen?_setCell]; exact f2) (by simp [World.setCell]; exact hgl)
 have e0 := cell2 p0
 have e1 := cell2 p1
 have e2 := cell2 p2
 have e0' := cell1 p0
 have e1' := cell1 p1
 have e2' := cell1 p2
 have HX := Hid.mk hx
 have HG := Hid.mk hg
 have HK := Hid.mk hk
 clear hx hg q2 q3 q4 q5 p0 p1 p2 c1 c2 f1 f2
 obtain ⟨nz, hnz⟩ : ∃ nz, nz = decide (z < 0) := ⟨_, rfl⟩
 rw [← hnz] at HX ⊢
 clear hnz
 obtain ⟨N, hN⟩ : ∃ N, N = r * c := ⟨_, rfl⟩
 rw [← hN] at hk e2 e2' HG ⊢
 have hk2 : (row : Int) * (c : Int) + (col : Int) < (N : Int) := by rw [← Int.natCast_mul]; omega
 clear hN HK
 go_enter Tryz.func92, Tryz.ntmps92
 go_wp2_with (go_at_call 99; refine (has_raw _ _ _ _ _ _ _ _).mono ?_; rintro e w' ⟨rfl, rfl⟩; rw [hh])
 go_region
 all_goals
  go_end0
  obtain ⟨S1, S2⟩ := HG.out.stored _ hk HX.out
  rw [Nat.mul_comm 2] at S1 S2
  refine ⟨rfl, ?_, ?_, ?_⟩
  ·refine S1.below ?_
   repeat (first | exact Below.refl _ _ | refine Below.drew ?_ | refine Below.alloc ?_ (by simp <;> omega) _)
  ·refine grown_set2 (i := (row * c + col) * 2) (j := (row * c + col) * 2 + 1) (a := .bool nz) (b := .slice ao xs.length dcap) ?_
   repeat (first | exact Below.refl _ _ | refine Below.drew ?_ | refine Below.alloc ?_ (by simp <;> omega) _)
  ·refine S2.trans (KU.of_below ?_)
   repeat (first | exact Below.refl _ _ | refine Below.drew ?_ | refine Below.alloc ?_ (by simp <;> omega) _)
open Go.RowKit
theorem Tryz.info79 : (Tryz.prog.info? 79).map (fun i => (i.zero, i.size, i.bytes)) = some (some (.agg #[.bool false, .slice none 0 0]), 2, 32) := by kernel_rfl
theorem made_two (n : Nat) (i : Nat) (hi : i < n) : (madeCells #[Value.bool false, .slice none 0 0] (n * 2)).toList[2 * i]? = some (.bool false) ∧ (madeCells #[Value.bool false, .slice none 0 0] (n * 2)).toList[2 * i + 1]? = some (.slice none 0 0) := by
 constructor
 ·simp [madeCells, show 2 * i < n * 2 from by omega, show 2 * i % 2 = 0 from by omega]
 ·simp [madeCells, show 2 * i + 1 < n * 2 from by omega, show (2 * i + 1) % 2 = 1 from by omega]
theorem make_ints (w : World) {ops : Array Oper} {rest : List Oper} {o : Oper} {a : Act} {Q : Exit → Act → World → Prop}
 (hg : o.guard = none) (l c : Operand) (hop : o.op = Op.makeSlice 64 l c) (L C : Int) (n : Nat) (hl : a.eval l = .int .i64 L) (hc : a.eval c = .int .i64 C) (hL : L = (n : Int)) (hC : C = (n : Int)) (b : n ≤ 1000000000)
 (hK : ∀ w', Grid w' (.slice (some ⟨w.heap.size, 0, none⟩) n n) n (List.replicate n 0) 0 → Below w.heap.size w w' → w.heap.size < w'.heap.size → wpList Tryz.prog ops Q rest (a.put o.dst (.slice (some ⟨w.heap.size, 0, none⟩) n n)) w') :
 wpList Tryz.prog ops Q (o :: rest) a w := by
 obtain ⟨i, hi, hz0, hz1, hz2⟩ := info_parts Tryz.info79
 refine wpList_make_full w hg l c 64 hop 0 79 i (.agg #[.bool false, .slice none 0 0]) 2 Tryz.underlying64 hi hz0 hz1 .i64 .i64 L C n hl hc hL hC (by rw [hz2]; omega) (by unfold maxLen; omega) (Nat.zero_le _) ?_
 intro w' hown hgrow
 rw [show (Value.agg #[.bool false, .slice none 0 0]).cells = #[.bool false, .slice none 0 0] from rfl] at hown
 refine hK w' ⟨by simp, _, hown, fun j hj => ⟨_, _, (made_two n j hj).1, (made_two n j hj).2, ?_⟩⟩ ((Below.refl _ _).grown hgrow (Nat.le_refl _) (by simp)) (World.ownsRow.lt hown _ rfl).2
 rw [show (List.replicate n (0 : Int)).getD j 0 = 0 from by simp [List.getD, hj]]
 exact IsI.zero w' 0
theorem bcellB {B : Nat} {W w1 : World} (hb : Below B W w1) : (∀ b o, b < B → w1.cell? ⟨b, o, none⟩ = W.cell? ⟨b, o, none⟩) ∧ (∀ b o, b < B → w1.frozen? ⟨b, o, none⟩ = W.frozen? ⟨b, o, none⟩) :=
 ⟨fun b o h => hb.cell (p := ⟨b, o, none⟩) h, fun b o h => hb.frozen (p := ⟨b, o, none⟩) h⟩
theorem Grid.keepT {w W : World} {sl : Value} {n L : Nat} {zs : List Int} (h : Grid w sl n zs L) (hb : ∀ (b : Nat) (arr : Array Value), w.heap[b]? = some (.cells arr 79 (0, 0)) → W.heap[b]? = some (.cells arr 79 (0, 0))) (hk : KU w W) : Grid W sl n zs L := by
 obtain ⟨h0, cs, h1, h2⟩ := h
 refine ⟨h0, cs, ⟨h1.1, ?_⟩, fun i hi => ?_⟩
 ·rcases h1.2 with h3 | ⟨g, cap, cur, hv, hg, hh, r⟩
  ·exact .inl h3
  ·exact .inr ⟨g, cap, cur, hv, hg, hb g cur hh, r⟩
 ·obtain ⟨a, b, e1, e2, e3⟩ := h2 i hi
  exact ⟨a, b, e1, e2, e3.keep hk⟩
def KT (w w' : World) : Prop := (∀ (b : Nat) (arr : Array Value), w.heap[b]? = some (.cells arr 79 (0, 0)) → w'.heap[b]? = some (.cells arr 79 (0, 0))) ∧ KU w w'
theorem KT.refl (w : World) : KT w w := ⟨fun _ _ h => h, KU.refl w⟩
theorem KT.trans {a b c : World} (h : KT a b) (k : KT b c) : KT a c := ⟨fun i arr hi => k.1 i arr (h.1 i arr hi), h.2.trans k.2⟩
theorem KT.of_below {w w' : World} (h : Below w.heap.size w w') : KT w w' := ⟨fun i arr hi => by rw [h.block i (Array.getElem?_eq_some_iff.1 hi).1]; exact hi, KU.of_below h⟩
theorem KT.setCell {a w : World} (h : KT a w) {b o : Nat} {t : TypeId} (ht : Ty w b t) (hne : t ≠ 144) (hne2 : t ≠ 79) (u : Value) : KT a (w.setCell ⟨b, o, none⟩ u) := by
 refine ⟨fun i arr hi => ?_, h.2.setCell ht hne u⟩
 have h1 := h.1 i arr hi
 obtain ⟨c, fr, h2⟩ := ht
 by_cases hb : i = b
 ·subst hb
  rw [h1] at h2
  simp only [Option.some.injEq, Obj.cells.injEq] at h2
  exact absurd h2.2.1.symm hne2
 ·rw [Below.heap_setCell _ _ _ _ hb]; exact h1
theorem Grid.keep {w W : World} {sl : Value} {n L : Nat} {zs : List Int} (h : Grid w sl n zs L) (hk : KT w W) : Grid W sl n zs L := h.keepT hk.1 hk.2
set_option maxRecDepth 100000 in
set_option maxHeartbeats 2000000 in
theorem noughts_any (r c : Nat) (w : World) (hr : r ≤ 99) (hc : c ≤ 99) :
 Calls Tryz.prog 90 #[.int .i64 r, .int .i64 c] w fun e w' => ∃ g, e = .returned (.agg #[.int .i64 r, .int .i64 c, .slice (some ⟨g, 0, none⟩) (r * c) (r * c)]) ∧ w.heap.size ≤ g ∧ Grid w' (.slice (some ⟨g, 0, none⟩) (r * c) (r * c)) (r * c) (List.replicate (r * c) 0) 0 ∧ Below w.heap.size w w' := by
 have hb : (0 : Int) ≤ (r : Int) * (c : Int) ∧ (r : Int) * (c : Int) ≤ 9801 := by
  have : r * c ≤ 99 * 99 := Nat.mul_le_mul hr hc
  rw [← Int.natCast_mul]
  omega
 obtain ⟨b1, b2⟩ := hb
 go_enter Tryz.func90, Tryz.ntmps90
 go_wp2_with (at_make; refine make_ints _ rfl (.tmp 24) (.tmp 24) rfl _ _ (r * c) rfl rfl ?_ ?_ ?_ ?_)
 ·simp
 ·simp
 ·have : r * c ≤ 99 * 99 := Nat.mul_le_mul hr hc; omega
 intro w1 hg hbel hsz
 obtain ⟨hcell, hfr⟩ := bcellB hbel
 have hty : Ty w1 w.heap.size 66 := (Ty.new w _ _).below hbel (by omega)
 have HG := Hid.mk hg
 have HB := Hid.mk hbel
 have HT := Hid.mk hty
 clear hg hty
 go_wp2_with fail
 refine bodyPost_ret (v := .agg #[.int .i64 r, .int .i64 c, .slice (some ⟨w.heap.size + 1, 0, none⟩) (r * c) (r * c)]) ?_ rfl ?_
 ·(simp [results, Tryz.results90, go_sem, hcell]; done)
 ·refine ⟨w.heap.size + 1, rfl, by omega, HG.out.keep ?_, ?_⟩
  ·exact KT.setCell (KT.setCell (KT.setCell (KT.refl _) HT.out (by decide) (by decide) _) (HT.out.setCell _ _) (by decide) (by decide) _) ((HT.out.setCell _ _).setCell _ _) (by decide) (by decide) _
  ·refine Below.setCell (Below.setCell (Below.setCell ?_ (by simp) _) (by simp) _) (by simp) _
   exact ((Below.refl w.heap.size w).alloc (Nat.le_refl _) _).trans (HB.out.mono (by omega))
open Go.RowKit
theorem idx_inj {d i j i' j' : Nat} (hj : j < d) (hj' : j' < d) (h : i * d + j = i' * d + j') : i = i' ∧ j = j' := by
 have h1 : (i * d + j) / d = i := by rw [Nat.mul_comm, Nat.mul_add_div (by omega), Nat.div_eq_of_lt hj]; omega
 have h2 : (i' * d + j') / d = i' := by rw [Nat.mul_comm, Nat.mul_add_div (by omega), Nat.div_eq_of_lt hj']; omega
 have h3 : i = i' := by rw [← h1, ← h2, h]
 subst h3
 exact ⟨rfl, by omega⟩
theorem grown_below {W a b : World} {g : Option Nat} (h : W.grownBy a g) (hb : Below a.heap.size a b) : W.grownBy b g :=
 ⟨hb.os.trans h.os, hb.tape.trans h.tape, hb.output.trans h.output, Nat.le_trans h.size hb.size, fun k hk hne => (hb.block k (Nat.lt_of_lt_of_le hk h.size)).trans (h.block k hk hne)⟩
theorem grown_trans {W a b : World} {g : Option Nat} (h : W.grownBy a g) (k : a.grownBy b g) : W.grownBy b g :=
 ⟨k.os.trans h.os, k.tape.trans h.tape, k.output.trans h.output, Nat.le_trans h.size k.size, fun i hi hne => (k.block i (Nat.lt_of_lt_of_le hi h.size) hne).trans (h.block i hi hne)⟩
theorem IsI.shape {w : World} {v : Value} {z : Int} {L : Nat} (h : IsI w v z L) : ∃ nb ao n cap, v = .agg #[.bool nb, .slice ao n cap] := by
 obtain ⟨sl, xs, rfl, h2, h3, h4, h5⟩ := h
 obtain ⟨ao, cap, rfl, -⟩ := h5.open_
 exact ⟨_, _, _, _, rfl⟩
open Go.RowKit
open Go.RowKit
open Go.RowKit
def decval (l : List UInt8) : Nat := l.foldl (fun a c => 10 * a + (c.toNat - 48)) 0
def Digs (l : List UInt8) : Prop := ∀ c ∈ l, 48 ≤ c.toNat ∧ c.toNat ≤ 57
theorem decval_snoc (l : List UInt8) (c : UInt8) : decval (l ++ [c]) = 10 * decval l + (c.toNat - 48) := by simp [decval]
theorem decval_take (l : List UInt8) (k : Nat) (hk : k < l.length) : decval (l.take (k + 1)) = 10 * decval (l.take k) + (l[k].toNat - 48) := by
 rw [List.take_succ_eq_append_getElem hk, decval_snoc]
def OwnB (B : Nat) (w : World) (v : Value) (xs : List Nat) : Prop := w.ownsRow B 144 1 v xs.length (lcells xs)
theorem OwnB.own {B : Nat} {w : World} {v : Value} {xs : List Nat} (h : OwnB B w v xs) : Own w v xs := by
 refine ⟨h.1, ?_⟩
 rcases h.2 with h2 | ⟨g, cap, cur, hv, hg, r⟩
 ·exact .inl h2
 ·exact .inr ⟨g, cap, cur, hv, Nat.zero_le _, r⟩
theorem OwnB.base {B : Nat} {w : World} {g n cap : Nat} {xs : List Nat} (h : OwnB B w (.slice (some ⟨g, 0, none⟩) n cap) xs) : B ≤ g := (World.ownsRow.lt h g rfl).1
theorem OwnB.stored_int {B : Nat} {w : World} {g n cap : Nat} {zs : List Nat} (h : OwnB B w (.slice (some ⟨g, 0, none⟩) n cap) zs) (hn : zs.length = n) (k c : Nat) {z : Int} (hz : z = (c : Int)) :
 OwnB B (w.setCell ⟨g, k, none⟩ (.int .u32 z)) (.slice (some ⟨g, 0, none⟩) n cap) (zs.set k c) := by
 subst hn
 subst hz
 have := (World.ownsRow.stored (w := w) h k (.int .u32 (c : Nat))).1
 rw [lcells_set] at this
 unfold OwnB
 rw [List.length_set]
 exact this
theorem append_limb (w : World) {ops : Array Oper} {rest : List Oper} {o : Oper} {a : Act} {Q : Exit → Act → World → Prop} (hgd : o.guard = none) (s x : Operand)
 (ho : o.op = .call { callee := .builtin .append, args := #[s, x], argTypes := #[77, 77] }) (B : Nat) (v : Value) (zs : List Nat) (hs : a.eval s = v) (hown : OwnB B w v zs)
 (ad : Addr) (hx : a.eval x = .slice (some ad) 1 1) (c : Nat) (hc : w.cell? (ad.add 0) = some (.int .u32 (c : Nat))) (hl : zs.length ≤ 30000) (hB : B ≤ w.heap.size)
 (hK : ∀ v' w', OwnB B w' v' (zs ++ [c]) → w.grownBy w' v.ownBlock → wpList Tryz.prog ops Q rest (a.put o.dst v') w') : wpList Tryz.prog ops Q (o :: rest) a w := by
 obtain ⟨i, hi, hz0, hz1, hz2⟩ := info_parts Tryz.info144
 refine wpList_append_own w hgd s x 77 ho B 144 i (.int .u32 0) 1 4 Tryz.underlying77 hi hz0 hz1 hz2 rfl (by decide) v zs.length (lcells zs) hs hown ad 1 1 [.int .u32 (c : Nat)] hx rfl ?_ ?_ ?_ ?_ hB ?_
 ·intro j u hj
  match j, hj with
  | 0, hj => simp at hj; subst hj; exact hc
 ·intro u hu; simp at hu; subst hu; rfl
 ·unfold maxLen; omega
 ·omega
 ·intro v' w' h1 h2 _
  refine hK v' w' ?_ h2
  unfold OwnB
  rw [show lcells (zs ++ [c]) = lcells zs ++ [.int .u32 (c : Nat)] from by simp [lcells], List.length_append, List.length_singleton]
  exact h1
theorem ten_round {P Z X c x d : Nat} (h : Z + P * c = 10 * X + d) : Z + P * ((c + x * 10) % 4294967296) + P * 4294967296 * ((c + x * 10) / 4294967296) = 10 * (X + P * x) + d := by
 have h1 : P * ((c + x * 10) % 4294967296) + P * 4294967296 * ((c + x * 10) / 4294967296) = P * (c + x * 10) := by
  rw [Nat.mul_assoc, ← Nat.mul_add, Nat.mod_add_div]
 have h2 : P * (x * 10) = 10 * (P * x) := by rw [Nat.mul_comm x 10, Nat.mul_left_comm]
 rw [Nat.mul_add] at h1
 omega
theorem last_pos {zs : List Nat} (h : Lo zs) (hne : zs ≠ []) (hv : 4294967296 ^ (zs.length - 1) ≤ val zs) : 0 < zs.getD (zs.length - 1) 0 := by
 rcases Nat.eq_zero_or_pos (zs.getD (zs.length - 1) 0) with h0 | h0
 ·exfalso
  have hl : 0 < zs.length := List.length_pos_iff.2 hne
  have h1 := val_take_drop zs (zs.length - 1) (by omega)
  rw [drop_getD zs (zs.length - 1) (by omega), val_cons, h0, show zs.length - 1 + 1 = zs.length from by omega, List.drop_length, val_nil] at h1
  have h2 := val_lt (Lo_take h (zs.length - 1))
  rw [List.length_take, Nat.min_eq_left (by omega)] at h2
  omega
 ·exact h0
theorem dig_at (s : ByteArray) (h : Digs s.data.toList) (k : Nat) (hk : k < s.size) : 48 ≤ (s[k].toNat : Int) ∧ (s[k].toNat : Int) ≤ 57 := by
 have := h (s.data.toList[k]'(by simpa using hk)) (List.getElem_mem _)
 have e : s.data.toList[k]'(by simpa using hk) = s[k] := rfl
 rw [e] at this
 omega
theorem decval_at (s : ByteArray) (k : Nat) (hk : k < s.size) : decval (s.data.toList.take (k + 1)) = 10 * decval (s.data.toList.take k) + (s[k].toNat - 48) :=
 decval_take s.data.toList k (by simpa using hk)
theorem set_drop_next (zs ps : List Nat) (j c : Nat) (h : ps.drop j = zs.drop j) : (ps.set j c).drop (j + 1) = zs.drop (j + 1) := by
 rw [List.drop_set_of_lt (by omega), ← List.drop_drop, h, List.drop_drop]
theorem getD_of_drop (zs ps : List Nat) (j : Nat) (h : ps.drop j = zs.drop j) : ps.getD j 0 = zs.getD j 0 := by
 have h1 : (ps.drop j)[0]? = (zs.drop j)[0]? := by rw [h]
 simp only [List.getElem?_drop, Nat.add_zero] at h1
 simp [List.getD, h1]
theorem dig_same {zs ps : List Nat} {d : Nat} (lz : Lim zs) (lp : Lo ps) (hl : ps.length = zs.length) (h : val ps = 10 * val zs + d) : Lim ps := by
 refine ⟨lp, ?_⟩
 by_cases hn : ps = []
 ·exact .inl hn
 ·refine .inr (last_pos lp hn ?_)
  have := Lim_ge lz (by rintro rfl; simp at hl; exact hn hl)
  rw [hl]
  omega
theorem dig_more {ps : List Nat} {c : Nat} (lp : Lo ps) (hc : 0 < c) (hc2 : c < 4294967296) : Lim (ps ++ [c]) := by
 refine ⟨Lo_append lp (Lo_cons hc2 Lo_nil), .inr ?_⟩
 simp [List.getD]
 exact hc
set_option maxRecDepth 100000 in
set_option maxHeartbeats 2000000 in
theorem fromDigits_any (s : ByteArray) (w : World) (hs : s.size ≤ 4000) (hd : Digs s.data.toList) :
 Calls Tryz.prog 130 #[.string s] w fun e w' => ∃ r, e = .returned r ∧ IntOut w w' r (decval s.data.toList) s.size := by
 have HD := Hid.mk hd
 clear hd
 obtain ⟨W0, hW0⟩ : ∃ W0, W0 = w.alloc (.cells #[.bool false, .slice none 0 0] 79) := ⟨_, rfl⟩
 have hWs : W0.heap.size = w.heap.size + 1 := by rw [hW0]; simp
 have HW := Hid.mk hW0
 have HS := Hid.mk hWs
 clear hWs hW0
 go_enter Tryz.func130, Tryz.ntmps130
 go_wp2_with fail
 go_loopw [3, 4] (fun v i wr => ∃ (k : Nat) (zs : List Nat), k ≤ s.size ∧ i = .int .i64 k ∧ zs.length ≤ k ∧ OwnB (w.heap.size + 1) wr v zs ∧ Below (w.heap.size + 1) W0 wr ∧ Hid (Lim zs ∧ val zs = decval (s.data.toList.take k))) (fun _ i _ => s.size - (intOf i).toNat)
 case atStart =>
  refine ⟨0, [], Nat.zero_le _, rfl, Nat.le_refl _, ?_, ?_, Hid.mk ⟨⟨Lo_nil, .inl rfl⟩, rfl⟩⟩
  ·have := World.ownsRow_lit (base := w.heap.size + 1) (e := 144) (size := 1) (w.alloc (.cells #[.bool false, .slice none 0 0] 79)) #[] 0 (by simp) (by simp [maxLen]) rfl
   simpa [OwnB, lcells] using this
  ·rw [HW.out]; exact (Below.refl _ _).alloc (by simp) _
 case round =>
  obtain ⟨k, zs, hk, rfl, hzk, hown, hbel, HI⟩ := hrel
  obtain ⟨ao, cap, rfl, hcap, -, hcells, -, hao⟩ := hown.own.open_
  have HC := Hid.mk hcells
  have HA := Hid.mk hao
  clear hcells hao
  by_cases hkN : k < s.size
  ·obtain ⟨d1, d2⟩ := dig_at s HD.out k hkN
   go_wp2_with fail
   go_loopw [5, 6] (fun c j ws => ∃ (m cc : Nat) (ps : List Nat), m ≤ zs.length ∧ j = .int .i64 m ∧ cc ≤ 9 ∧ c = .int .u64 cc ∧ Hid (ps.length = zs.length) ∧ Lo ps ∧ OwnB (w.heap.size + 1) ws (.slice ao zs.length cap) ps ∧ Below (w.heap.size + 1) W0 ws ∧
    Hid (val (ps.take m) + 4294967296 ^ m * cc = 10 * val (zs.take m) + (s[k].toNat - 48) ∧ ps.drop m = zs.drop m)) (fun _ j _ => zs.length - (intOf j).toNat)
   case atStart =>
    exact ⟨0, s[k].toNat - 48, zs, Nat.zero_le _, rfl, by omega, by go_num, Hid.mk rfl, HI.out.1.1, hown, hbel, Hid.mk ⟨by simp [val], rfl⟩⟩
   case round =>
    clear hown hbel
    obtain ⟨m, cc, ps, hm, rfl, hcc, rfl, HP, hlo, hown, hbel, HI2⟩ := hrel
    by_cases hmN : m < zs.length
    ·obtain ⟨b, rfl, -⟩ := HC.out m hmN
     have hz1 := hown.own.cell HP.out m hmN
     have hz2 := hown.own.frozen HP.out m
     have hxl := Lo_get hlo m
     obtain ⟨x, hx⟩ : ∃ x, x = ps.getD m 0 := ⟨_, rfl⟩
     rw [← hx] at hz1 hxl
     have HX := Hid.mk hx
     clear hx
     go_wp2_with fail
     go_roundw
     case rel =>
      refine ⟨m + 1, (cc + x * 10) / 4294967296, ps.set m ((cc + x * 10) % 4294967296), by omega, by go_num, by omega, by go_num, Hid.mk (by simp [HP.out]), Lo_set hlo _ _ (Nat.mod_lt _ (by decide)), hown.stored_int HP.out m _ (by omega), hbel.setCell hown.base _, Hid.mk ⟨?_, set_drop_next zs ps m _ HI2.out.2⟩⟩
      rw [val_take_set ps m _ (by have := HP.out; omega), val_take_next, ← getD_of_drop zs ps m HI2.out.2, ← HX.out, Nat.pow_succ]
      exact ten_round HI2.out.1
     case measure => simp [intOf]; omega
    ·have hmN' : zs.length ≤ m := by omega
     have hfull : val ps + 4294967296 ^ zs.length * cc = 10 * val zs + (s[k].toNat - 48) := by
      have := HI2.out.1
      rw [show m = zs.length from by omega, List.take_of_length_le (by have := HP.out; omega), List.take_of_length_le (Nat.le_refl _)] at this
      exact this
     have HF := Hid.mk hfull
     clear hfull
     by_cases hc0 : cc = 0
     ·subst hc0
      go_wp2_with fail
      go_roundw
      case rel =>
       have hf := HF.out
       rw [Nat.mul_zero, Nat.add_zero] at hf
       exact ⟨k + 1, ps, by omega, by go_num, by have := HP.out; omega, by rw [← HP.out] at hown ⊢; exact hown, hbel, Hid.mk ⟨dig_same HI.out.1 hlo HP.out hf, by rw [hf, decval_at s k hkN, HI.out.2]⟩⟩
      case measure => simp [intOf]; omega
     ·have hcpos : 0 < cc := by omega
      go_wp2_with (at_builtin; refine append_limb _ rfl (.tmp 42) (.tmp 45) rfl (w.heap.size + 1) _ ps rfl ?_ ⟨_, 0, none⟩ rfl cc ?_ ?_ ?_ ?_)
      ·exact World.ownsRow.alloc hown _
      ·simp [Addr.add]
      ·have := HP.out; omega
      ·have := hbel.size; have := HS.out; simp; omega
      intro v' w' h1 h2
      have hbel2 : Below (w.heap.size + 1) W0 w' := (hbel.alloc (by have := hbel.size; have := HS.out; omega) _).grown h2 (by have := hbel.size; have := HS.out; simp; omega) (fun j hj => (World.ownsRow.lt hown j hj).1)
      go_wp2_with fail
      go_roundw
      case rel =>
       refine ⟨k + 1, ps ++ [cc], by omega, by go_num, by have := HP.out; simp; omega, h1, hbel2, Hid.mk ⟨dig_more hlo hcpos (by omega), ?_⟩⟩
       have hf := HF.out
       rw [val_append, HP.out, show val [cc] = cc from by simp [val], hf, decval_at s k hkN, HI.out.2]
      case measure => simp [intOf]; omega
  ·have hbox : wr.heap[w.heap.size]? = some (.cells #[.bool false, .slice none 0 0] 79 (0, 0)) := by
    rw [hbel.block _ (by omega), HW.out]; exact heap_alloc_new w _
   have hb1 : wr.cell? ⟨w.heap.size, 0, none⟩ = some (.bool false) := by simp [World.cell?, hbox]
   have hb2 : wr.cell? ⟨w.heap.size, 1, none⟩ = some (.slice none 0 0) := by simp [World.cell?, hbox]
   have hb3 : wr.frozen? ⟨w.heap.size, 0, none⟩ = false := by simp [World.frozen?, hbox]
   have hb4 : wr.frozen? ⟨w.heap.size, 1, none⟩ = false := by simp [World.frozen?, hbox]
   have HT : Hid (Ty wr w.heap.size 79) := Hid.mk ⟨_, _, hbox⟩
   clear hbox
   go_wp2_with fail
   refine bodyPost_ret (v := .agg #[.bool false, .slice ao zs.length cap]) ?_ rfl ?_
   ·(simp [results, Tryz.results130, go_sem, hb1, hb2]; done)
   ·refine ⟨_, rfl, IsI.mk' (by simp) HI.out.1 ?_ (by omega) (hown.own.keep (KU.setCell (KU.setCell (KU.refl _) HT.out (by decide) _) (HT.out.setCell _ _) (by decide) _)), ?_⟩
    ·rw [HI.out.2, List.take_of_length_le (by simp; omega)]; simp
    ·refine Below.trans ?_ (((hbel.mono (by omega)).setCell (by simp) _).setCell (by simp) _)
     rw [HW.out]
     exact (Below.refl _ _).alloc (Nat.le_refl _) _
open Go.RowKit
theorem or_chunk (c x : Nat) (hc : c < 1000000000) (hx : x < 4294967296) : bits BinOp.or IntKind.u64 ((c : Int) * 4294967296) (x : Int) = (c : Int) * 4294967296 + (x : Int) := by
 have h := u64_or_nat (c * 4294967296) x (by omega) (by omega)
 rw [show ((c * 4294967296 : Nat) : Int) = (c : Int) * 4294967296 from by omega] at h
 rw [h]
 have h2 := Nat.shiftLeft_add_eq_or_of_lt (i := 32) (b := x) (by omega) c
 rw [Nat.shiftLeft_eq] at h2
 rw [show c * 4294967296 = c * 2 ^ 32 from rfl, ← h2]
 omega
theorem split_arith (B D V c x : Nat) : x + B * (D * V + c) = D * ((c * B + x) / D + B * V) + (c * B + x) % D := by
 have h1 := Nat.div_add_mod (c * B + x) D
 rw [Nat.mul_add, Nat.mul_add, Nat.mul_left_comm B D V, Nat.mul_comm B c]
 omega
theorem split_gen {xs zs : List Nat} {k c D : Nat} (hk : 0 < k) (hx : k ≤ xs.length) (hz : zs.length = xs.length) (h : val (xs.drop k) = D * val (zs.drop k) + c) :
 val (xs.drop (k - 1)) = D * val ((zs.set (k - 1) ((c * 4294967296 + xs.getD (k - 1) 0) / D)).drop (k - 1)) + (c * 4294967296 + xs.getD (k - 1) 0) % D := by
 generalize hq : (c * 4294967296 + xs.getD (k - 1) 0) / D = q
 have h1 : (zs.set (k - 1) q).drop (k - 1) = q :: zs.drop k := by
  rw [drop_getD (zs.set (k - 1) q) (k - 1) (by simp; omega), show k - 1 + 1 = k from by omega, List.drop_set_of_lt (by omega)]
  simp [List.getD, show k - 1 < zs.length from by omega]
 have h2 : xs.drop (k - 1) = xs.getD (k - 1) 0 :: xs.drop k := by
  rw [drop_getD xs (k - 1) (by omega), show k - 1 + 1 = k from by omega]
 rw [h1, h2, val_cons, val_cons, h, ← hq]
 exact split_arith _ _ _ _ _
set_option maxRecDepth 100000 in
set_option maxHeartbeats 1000000 in
theorem splitChunk_any (v : Value) (xs : List Nat) (w : World) (hv : Own w v xs) (lx : Lo xs) (bx : xs.length ≤ 1000000000) :
 Calls Tryz.prog 69 #[v] w fun e w' => ∃ r, e = .returned (.tuple #[r, .int .u64 ((val xs % 1000000000 : Nat) : Int)]) ∧ NatOut w w' r (val xs / 1000000000) xs.length := by
 obtain ⟨ao, cap, hveq, hc, hm, hcell, -, -⟩ := hv.open_
 have HC := Hid.mk hcell
 clear hv hcell
 subst hveq
 go_enter Tryz.func69, Tryz.ntmps69
 go_wp2_with (at_make; refine make_limbs _ rfl (.tmp 8) (.tmp 8) rfl _ _ xs.length rfl rfl rfl rfl (by omega) ?_)
 intro w1 hown hbel
 go_wp2_with fail
 go_loopw [5, 6] (fun c i wr => ∃ (k cc : Nat) (zs : List Nat), k ≤ xs.length ∧ i = .int .i64 ((k : Int) - 1) ∧ cc < 1000000000 ∧ c = .int .u64 cc ∧ zs.length = xs.length ∧ Lo zs ∧ Own wr (.slice (some ⟨w.heap.size, 0, none⟩) xs.length xs.length) zs ∧ Below w.heap.size w wr ∧
  Hid (val (xs.drop k) = 1000000000 * val (zs.drop k) + cc)) (fun _ i _ => (intOf i + 1).toNat)
 case atStart => exact ⟨xs.length, 0, _, Nat.le_refl _, rfl, by omega, rfl, List.length_replicate, Lo_zeros _, hown, hbel, Hid.mk (by simp [val])⟩
 case round =>
  clear hown hbel
  obtain ⟨k, cc, zs, hk, rfl, hcc, rfl, hzl, hlo, hown, hbel, HI⟩ := hrel
  by_cases h0 : k = 0
  ·subst h0
   go_wp2_with fail
   refine (trim_any _ zs _ hown hlo).mono ?_
   rintro e w' ⟨⟨r, rfl, hr⟩, rfl⟩
   go_wp2_with fail
   go_ret2
   obtain ⟨rs, h1, h2, h3, h4⟩ := hr
   have hi := HI.out
   simp only [List.drop_zero] at hi
   have h5 : cc = val xs % 1000000000 := by omega
   have h6 : val zs = val xs / 1000000000 := by omega
   have h7 : val rs = val xs / 1000000000 := by omega
   have h8 : rs.length ≤ xs.length := by omega
   subst h5
   exact ⟨_, rfl, ⟨rs, h1, h7, h8, h4⟩, hbel⟩
  ·have hxk := Lo_get lx (k - 1)
   have hz1 := hown.cell hzl (k - 1) (by omega)
   have hz2 := hown.frozen hzl (k - 1)
   obtain ⟨b, rfl, hb0⟩ := HC.out (k - 1) (by omega)
   have hb1 := cell_later hbel hb0
   obtain ⟨x, hx⟩ : ∃ x, x = xs.getD (k - 1) 0 := ⟨_, rfl⟩
   obtain ⟨z, hz⟩ : ∃ z, z = zs.getD (k - 1) 0 := ⟨_, rfl⟩
   rw [← hx] at hxk hb1
   rw [← hz] at hz1
   have HX := Hid.mk hx
   have HZL := Hid.mk hzl
   clear hx hz hb0 hzl
   have hor := or_chunk cc x hcc hxk
   go_wp2_with fail
   go_roundw
   case rel =>
    refine ⟨k - 1, (cc * 4294967296 + x) % 1000000000, zs.set (k - 1) ((cc * 4294967296 + x) / 1000000000), by omega, by go_num, by omega, by go_num, by simp [HZL.out], Lo_set hlo _ _ (by omega), hown.stored_int HZL.out (k - 1) _ (by omega), hbel.setCell (Nat.le_refl _) _, Hid.mk ?_⟩
    rw [HX.out]
    exact split_gen (by omega) hk HZL.out HI.out
   case measure => simp [intOf]; omega
end Go.Proofs.YtfjbijpagaipnabGreatDoor
