/- grid.Matrix in memory; has, IsSquare. -/
import Derived.Test.YtjhcbenldfplcaaDoorIntAdd3
import Derived.Test.YtjhcbenldfplcaaDoorIntMul
import Derived.Test.YtjhcbenldfplcaaDoorBits
namespace Go.Proofs.YtjhcbenldfplcaaDoor
open Go.RowKit

/-- A row of n whole numbers zs, each in at most L limbs, at the slice sl. -/
def Grid (w : World) (sl : Value) (n : Nat) (zs : List Int) (L : Nat) : Prop :=
  zs.length = n ∧ ∃ cs, w.ownsRow 0 66 2 sl n cs ∧ ∀ i, i < n → ∃ a b, cs[2 * i]? = some a ∧ cs[2 * i + 1]? = some b ∧ IsI w (.agg #[a, b]) (zs.getD i 0) L
/-- The value v is the matrix of r rows and c columns with the entries zs, row by row. -/
def IsM (w : World) (v : Value) (r c : Nat) (zs : List Int) (L : Nat) : Prop := r ≤ 99 ∧ c ≤ 99 ∧ ∃ sl, v = .agg #[.int .i64 r, .int .i64 c, sl] ∧ Grid w sl (r * c) zs L

theorem Grid.below {w w' : World} {sl : Value} {n L : Nat} {zs : List Int} (h : Grid w sl n zs L) (hb : Below w.heap.size w w') : Grid w' sl n zs L := by
  obtain ⟨h0, cs, h1, h2⟩ := h
  refine ⟨h0, cs, ⟨h1.1, ?_⟩, fun i hi => ?_⟩
  · rcases h1.2 with h3 | ⟨g, cap, cur, hv, hg, hh, r⟩
    · exact .inl h3
    · exact .inr ⟨g, cap, cur, hv, hg, by rw [hb.block g (Array.getElem?_eq_some_iff.1 hh).1]; exact hh, r⟩
  · obtain ⟨a, b, e1, e2, e3⟩ := h2 i hi
    exact ⟨a, b, e1, e2, e3.below hb⟩
theorem IsM.below {w w' : World} {v : Value} {r c L : Nat} {zs : List Int} (h : IsM w v r c zs L) (hb : Below w.heap.size w w') : IsM w' v r c zs L := by
  obtain ⟨h0, h1, sl, h2, h3⟩ := h
  exact ⟨h0, h1, sl, h2, h3.below hb⟩
/-- The slice's shape. -/
theorem Grid.shape {w : World} {sl : Value} {n L : Nat} {zs : List Int} (h : Grid w sl n zs L) : ∃ ao cap, sl = .slice ao n cap ∧ n ≤ cap ∧ cap ≤ 9223372036854775807 ∧ (∀ i, i < n → ∃ g, ao = some ⟨g, 0, none⟩) := by
  obtain ⟨h0, cs, h1, h2⟩ := h
  rcases h1.2 with ⟨rfl, hn⟩ | ⟨g, cap, cur, rfl, hg, hh, r1, r2, r3, r4⟩
  · subst hn; exact ⟨none, 0, rfl, Nat.le_refl _, by omega, fun i hi => by omega⟩
  · exact ⟨_, cap, rfl, r1, by simpa [maxLen] using r2, fun i _ => ⟨g, rfl⟩⟩
/-- An entry's two cells. -/
theorem Grid.cell {w : World} {g n cap L : Nat} {zs : List Int} (h : Grid w (.slice (some ⟨g, 0, none⟩) n cap) n zs L) (k : Nat) (hk : k < n) :
    ∃ nb ao m ecap, w.cell? ⟨g, 2 * k, none⟩ = some (.bool nb) ∧ w.cell? ⟨g, 2 * k + 1, none⟩ = some (.slice ao m ecap) ∧ IsI w (.agg #[.bool nb, .slice ao m ecap]) (zs.getD k 0) L := by
  obtain ⟨h0, cs, h1, h2⟩ := h
  obtain ⟨a, b, e1, e2, e3⟩ := h2 k hk
  have e4 := e3
  obtain ⟨sl, xs, f1, f2, f3, f4, f5⟩ := e3
  obtain ⟨ao, ecap, rfl, -⟩ := f5.open_
  simp only [Value.agg.injEq, Array.mk.injEq, List.cons.injEq, and_true] at f1
  obtain ⟨rfl, rfl⟩ := f1
  exact ⟨_, _, _, _, by rw [World.ownsRow.cellAt h1 _ (by omega), e1], by rw [World.ownsRow.cellAt h1 _ (by omega), e2], e4⟩
theorem Grid.frozen {w : World} {g n cap L : Nat} {zs : List Int} (h : Grid w (.slice (some ⟨g, 0, none⟩) n cap) n zs L) (j : Nat) : w.frozen? ⟨g, j, none⟩ = false := by
  obtain ⟨h0, cs, h1, h2⟩ := h
  exact World.ownsRow.frozenAt h1 j
theorem Grid.ty {w : World} {g n cap L : Nat} {zs : List Int} (h : Grid w (.slice (some ⟨g, 0, none⟩) n cap) n zs L) : Ty w g 66 := by
  obtain ⟨h0, cs, h1, h2⟩ := h
  rcases h1.2 with ⟨h3, _⟩ | ⟨g', cap', cur, hv, hg, hh, r⟩
  · simp at h3
  · simp only [Value.slice.injEq, Option.some.injEq, Addr.mk.injEq] at hv
    obtain ⟨⟨rfl, _⟩, _⟩ := hv
    exact ⟨_, _, hh⟩
/-- An entry is written. -/
theorem Grid.stored {w : World} {g n cap L : Nat} {zs : List Int} (h : Grid w (.slice (some ⟨g, 0, none⟩) n cap) n zs L) (k : Nat) (hk : k < n) {a b : Value} {z : Int} (hz : IsI w (.agg #[a, b]) z L) :
    Grid ((w.setCell ⟨g, 2 * k, none⟩ a).setCell ⟨g, 2 * k + 1, none⟩ b) (.slice (some ⟨g, 0, none⟩) n cap) n (zs.set k z) L ∧ KU w ((w.setCell ⟨g, 2 * k, none⟩ a).setCell ⟨g, 2 * k + 1, none⟩ b) := by
  have hty := h.ty
  have hku : KU w ((w.setCell ⟨g, 2 * k, none⟩ a).setCell ⟨g, 2 * k + 1, none⟩ b) := KU.setCell (KU.setCell (KU.refl _) hty (by decide) _) (hty.setCell _ _) (by decide) _
  obtain ⟨h0, cs, h1, h2⟩ := h
  refine ⟨⟨by simpa using h0, (cs.set (2 * k) a).set (2 * k + 1) b, ((h1.stored (2 * k) a).1.stored (2 * k + 1) b).1, fun i hi => ?_⟩, hku⟩
  have hcl : cs.length = n * 2 := h1.1
  by_cases hik : i = k
  · subst hik
    refine ⟨a, b, ?_, ?_, ?_⟩
    · rw [List.getElem?_set_ne (by omega), List.getElem?_set_self (by omega)]
    · rw [List.getElem?_set_self (by simp; omega)]
    · rw [show (zs.set i z).getD i 0 = z from by simp [List.getD, show i < zs.length from by omega]]; exact hz.keep hku
  · obtain ⟨a', b', e1, e2, e3⟩ := h2 i hi
    refine ⟨a', b', ?_, ?_, ?_⟩
    · rw [List.getElem?_set_ne (by omega), List.getElem?_set_ne (by omega), e1]
    · rw [List.getElem?_set_ne (by omega), List.getElem?_set_ne (by omega), e2]
    · rw [show (zs.set k z).getD i 0 = zs.getD i 0 from by simp [List.getD, List.getElem?_set_ne (Ne.symm hik)]]; exact e3.keep hku

def hasB (r c row col : Int) : Bool := decide (0 ≤ row ∧ row < r ∧ 0 ≤ col ∧ col < c)
theorem ret_bool {a b : Bool} (h : a = b) : Ending.returned (.bool a) = .returned (.bool b) := by rw [h]
theorem hasB_no {r c row col : Int} (h : row < 0 ∨ r ≤ row ∨ col < 0) : false = hasB r c row col := by
  unfold hasB
  rw [eq_comm, decide_eq_false_iff_not]
  omega
theorem hasB_yes {r c row col : Int} (h1 : 0 ≤ row) (h2 : row < r) (h3 : 0 ≤ col) : decide (col < c) = hasB r c row col := by
  unfold hasB
  rw [decide_eq_decide]
  omega
set_option maxHeartbeats 1000000 in
theorem has_raw (r c row col : Int) (ao : Option Addr) (n cap : Nat) (w : World) :
    Calls Tryd.prog 46 #[.agg #[.int .i64 r, .int .i64 c, .slice ao n cap], .int .i64 row, .int .i64 col] w fun e w' => e = .returned (.bool (hasB r c row col)) ∧ w' = w.alloc (.cells #[.int .i64 r, .int .i64 c, .slice ao n cap] 52) := by
  by_cases h1 : 0 ≤ row
  · by_cases h2 : row < r
    · by_cases h3 : 0 ≤ col
      · go_enter Tryd.func46, Tryd.ntmps46
        go_wp2
        go_ret
        exact ⟨ret_bool (hasB_yes h1 h2 h3), rfl⟩
      · have H : Hid (col < 0) := Hid.mk (by omega)
        have h3' : decide (0 ≤ col) = false := by simpa using h3
        go_enter Tryd.func46, Tryd.ntmps46
        go_wp2
        go_ret
        exact ⟨ret_bool (hasB_no (.inr (.inr H.out))), rfl⟩
    · have H : Hid (r ≤ row) := Hid.mk (by omega)
      have h2' : decide (row < r) = false := by simpa using h2
      go_enter Tryd.func46, Tryd.ntmps46
      go_wp2
      go_ret
      exact ⟨ret_bool (hasB_no (.inr (.inl H.out))), rfl⟩
  · have H : Hid (row < 0) := Hid.mk (by omega)
    have h1' : decide (0 ≤ row) = false := by simpa using h1
    go_enter Tryd.func46, Tryd.ntmps46
    go_wp2
    go_ret
    exact ⟨ret_bool (hasB_no (.inl H.out)), rfl⟩
set_option maxHeartbeats 1000000 in
theorem isSquare_raw (r c : Int) (ao : Option Addr) (n cap : Nat) (w : World) :
    Calls Tryd.prog 20 #[.agg #[.int .i64 r, .int .i64 c, .slice ao n cap]] w fun e w' => e = .returned (.bool (r == c)) ∧ w' = w.alloc (.cells #[.int .i64 r, .int .i64 c, .slice ao n cap] 52) := by
  go_enter Tryd.func20, Tryd.ntmps20
  go_wp2
  go_ret
  exact ⟨rfl, rfl⟩
/-- A cell behind three new blocks. -/
theorem cell3 {w : World} {a : Addr} {v : Value} (h : w.cell? a = some v) : ∀ o1 o2 o3, (((w.alloc o1).alloc o2).alloc o3).cell? a = some v := fun o1 o2 o3 =>
  cell_later (by repeat (first | exact Below.refl _ _ | refine Below.alloc ?_ (by simp <;> omega) _)) h
theorem hasB_in {r c : Nat} {row col : Nat} (h1 : row < r) (h2 : col < c) : hasB r c row col = true := by
  unfold hasB
  rw [decide_eq_true_eq]
  omega
theorem idx_lt {r c row col : Nat} (h1 : row < r) (h2 : col < c) : row * c + col < r * c := by
  have : (row + 1) * c ≤ r * c := Nat.mul_le_mul_right _ h1
  rw [Nat.add_mul, Nat.one_mul] at this
  omega
theorem idx_bd {r c row : Nat} (hr : r ≤ 99) (hc : c ≤ 99) (h1 : row < r) : (0 : Int) ≤ (row : Int) * (c : Int) ∧ (row : Int) * (c : Int) ≤ 9801 := by
  have : row * c ≤ 99 * 99 := Nat.mul_le_mul (by omega) hc
  rw [← Int.natCast_mul]
  omega

set_option maxRecDepth 100000 in
set_option maxHeartbeats 1000000 in
/-- An entry that is there. -/
theorem at_in (v : Value) (r c row col : Nat) (zs : List Int) (L : Nat) (w : World) (hm : IsM w v r c zs L) (h1 : row < r) (h2 : col < c) :
    Calls Tryd.prog 31 #[v, .int .i64 row, .int .i64 col] w fun e w' => ∃ x, e = .returned x ∧ IntOut w w' x (zs.getD (row * c + col) 0) L := by
  obtain ⟨hr, hc, sl, rfl, hg⟩ := hm
  obtain ⟨ao, cap, rfl, hcap, hcm, hao⟩ := hg.shape
  have hk := idx_lt h1 h2
  obtain ⟨g, rfl⟩ := hao _ hk
  obtain ⟨nb, bo, m, ecap, c1, c2, hI⟩ := hg.cell _ hk
  have hgl : g < w.heap.size := World.block_lt_of_cell? w _ c1
  have hh := hasB_in h1 h2
  obtain ⟨b1, b2⟩ := idx_bd hr hc h1
  have HI := Hid.mk hI
  rw [Nat.mul_comm 2] at c1 c2
  clear hg hI hao
  obtain ⟨N, hN⟩ : ∃ N, N = r * c := ⟨_, rfl⟩
  rw [← hN] at hcap hk ⊢
  have hk2 : (row : Int) * (c : Int) + (col : Int) < (N : Int) := by rw [← Int.natCast_mul]; omega
  clear hN
  have d1 := cell3 c1
  have d2 := cell3 c2
  go_enter Tryd.func31, Tryd.ntmps31
  go_wp2_with (go_at_call 46; refine (has_raw _ _ _ _ _ _ _ _).mono ?_; rintro e w' ⟨rfl, rfl⟩; rw [hh])
  refine bodyPost_ret (v := .agg #[.bool nb, .slice bo m ecap]) ?_ rfl ?_
  · (simp [results, Tryd.results31, go_sem]; done)
  · refine ⟨_, rfl, HI.out.below ?_, ?_⟩
    · repeat (first | exact Below.refl _ _ | refine Below.alloc ?_ (by simp <;> omega) _)
    · repeat (first | exact Below.refl _ _ | refine Below.alloc ?_ (by simp <;> omega) _)
end Go.Proofs.YtjhcbenldfplcaaDoor
