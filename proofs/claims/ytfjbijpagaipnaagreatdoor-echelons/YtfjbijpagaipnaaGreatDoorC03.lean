import Derived.Test.YtfjbijpagaipnaaGreatDoorC02
/- whole.Int: Mul. -/
namespace Go.Proofs.YtfjbijpagaipnaaGreatDoor
open Go.RowKit

theorem mul_sign {n : Nat} {x y : Int} (h : n = 0 ↔ x * y = 0) (hd : (x < 0 ∧ ¬ y < 0) ∨ (¬ x < 0 ∧ y < 0)) : decide (0 < n) = true ↔ x * y < 0 := by
  have h1 : x * y ≤ 0 := by
    rcases hd with ⟨a, b⟩ | ⟨a, b⟩
    · exact Int.mul_nonpos_of_nonpos_of_nonneg (by omega) (by omega)
    · exact Int.mul_nonpos_of_nonneg_of_nonpos (by omega) (by omega)
  rw [decide_eq_true_eq]
  omega
theorem mul_same {x y : Int} (hd : (x < 0 ∧ y < 0) ∨ (¬ x < 0 ∧ ¬ y < 0)) : false = true ↔ x * y < 0 := by
  have h1 : 0 ≤ x * y := by
    rcases hd with ⟨a, b⟩ | ⟨a, b⟩
    · exact Int.mul_nonneg_of_nonpos_of_nonpos (by omega) (by omega)
    · exact Int.mul_nonneg (by omega) (by omega)
  constructor
  · intro h; cases h
  · omega

set_option maxRecDepth 100000 in
set_option maxHeartbeats 2000000 in
theorem mul_any (v u : Value) (x y : Int) (L M : Nat) (w : World) (hv : IsI w v x L) (hu : IsI w u y M) (hL : L ≤ 500000000) (hM : M ≤ 500000000) :
    Calls Tryz.prog 96 #[v, u] w fun e w' => ∃ r, e = .returned r ∧ IntOut w w' r (x * y) (L + M) := by
  obtain ⟨sl, xs, rfl, h2, h3, h4, h5⟩ := hv
  obtain ⟨tl, ys, rfl, k2, k3, k4, k5⟩ := hu
  obtain ⟨ao, cap, rfl, -⟩ := h5.open_
  obtain ⟨bo, dap, rfl, -⟩ := k5.open_
  have H := Hid.mk (And.intro h2 (And.intro h3 (And.intro h4 h5)))
  have K := Hid.mk (And.intro k2 (And.intro k3 (And.intro k4 k5)))
  clear h2 h3 h4 h5 k2 k3 k4 k5
  by_cases hx : x < 0
  all_goals by_cases hy : y < 0
  all_goals
    have HX := Hid.mk hx
    have HY := Hid.mk hy
    simp only [hx, hy, decide_true, decide_false]
    clear hx hy
    go_enter Tryz.func96, Tryz.ntmps96
    go_wp2_with fail
    refine (mulAmounts_any _ _ xs ys _ (H.out.2.2.2.below ?_) (K.out.2.2.2.below ?_) H.out.1.1 K.out.1.1 (by have := H.out.2.2.1; omega) (by have := K.out.2.2.1; omega)).mono ?_
    · repeat (first | exact Below.refl _ _ | refine Below.alloc ?_ (by simp <;> omega) _)
    · repeat (first | exact Below.refl _ _ | refine Below.alloc ?_ (by simp <;> omega) _)
    rintro e w1 ⟨r, rfl, ⟨zs, lz, vz, nz, oz⟩, hb⟩
    obtain ⟨co, ecap, rfl, -⟩ := oz.open_
    obtain ⟨hc, hf⟩ := bcell hb
    have hty : Ty w1 (w.heap.size + 2) 94 := Ty.below (Ty.at_ _ _ _ (by simp)) hb (by simp)
    have hz : w.heap.size + 2 < w1.heap.size := hty.lt
    have hb0 : Below w.heap.size w w1 := Below.trans (by repeat (first | exact Below.refl _ _ | refine Below.alloc ?_ (by simp <;> omega) _)) (hb.mono (by simp <;> omega))
    have hzz : zs.length = 0 ↔ x * y = 0 := Lim_len_zero (z := x * y) lz (by rw [vz, H.out.2.1, K.out.2.1, Int.natAbs_mul])
    have hfin : ∀ (b : Bool) (W : World), (b = true ↔ x * y < 0) → KU w1 W → Below w.heap.size w1 W → IntOut w W (.agg #[.bool b, .slice co zs.length ecap]) (x * y) (L + M) := by
      intro b W hbb hk hW
      exact ⟨IsI.mk' hbb lz (by rw [vz, H.out.2.1, K.out.2.1, Int.natAbs_mul]) (by have := H.out.2.2.1; have := K.out.2.2.1; omega) (oz.keep hk), hb0.trans hW⟩
    have F := Hid.mk hfin
    have HZ := Hid.mk hzz
    have HT := Hid.mk hty
    clear hb hb0 lz vz nz oz hfin hzz hty
    go_wp2_with fail
    first
      | (refine bodyPost_ret (v := .agg #[.bool false, .slice co zs.length ecap]) ?_ rfl ?_
         · (simp [results, Tryz.results96, go_sem, hc]; done)
         · exact ⟨_, rfl, F.out _ _ (mul_same (by have := HX.out; have := HY.out; omega)) (KU.setCell (KU.setCell (KU.refl _) HT.out (by decide) _) (HT.out.setCell _ _) (by decide) _) (((Below.refl _ _).setCell (by simp <;> omega) _).setCell (by simp <;> omega) _)⟩)
      | (refine bodyPost_ret (v := .agg #[.bool (decide (0 < zs.length)), .slice co zs.length ecap]) ?_ rfl ?_
         · (simp [results, Tryz.results96, go_sem, hc]; done)
         · exact ⟨_, rfl, F.out _ _ (mul_sign HZ.out (by have := HX.out; have := HY.out; omega)) (KU.setCell (KU.setCell (KU.refl _) HT.out (by decide) _) (HT.out.setCell _ _) (by decide) _) (((Below.refl _ _).setCell (by simp <;> omega) _).setCell (by simp <;> omega) _)⟩)
end Go.Proofs.YtfjbijpagaipnaaGreatDoor

/- whole.Int.Bits, whole.FromInt64 at 1. -/
namespace Go.Proofs.YtfjbijpagaipnaaGreatDoor
open Go.RowKit

/-- b is the number of bits of n. -/
def BitsOf (b n : Nat) : Prop := ∀ k, b ≤ k ↔ n < 2 ^ k
theorem bitsOf_zero : BitsOf 0 0 := fun k => ⟨fun _ => Nat.pow_pos (by decide), fun _ => Nat.zero_le _⟩
theorem bitsOf_mk {b n : Nat} (h1 : n < 2 ^ b) (h2 : b = 0 ∨ 2 ^ (b - 1) ≤ n) : BitsOf b n := by
  intro k
  constructor
  · intro hk
    exact Nat.lt_of_lt_of_le h1 (Nat.pow_le_pow_right (by decide) hk)
  · intro hk
    rcases h2 with h2 | h2
    · omega
    · rcases Nat.lt_or_ge k b with h3 | h3
      · have : 2 ^ k ≤ 2 ^ (b - 1) := Nat.pow_le_pow_right (by decide) (by omega)
        omega
      · exact h3
theorem pow32 (m : Nat) : 4294967296 ^ m = 2 ^ (32 * m) := by rw [Nat.pow_mul]
theorem bits_top {xs : List Nat} {j : Nat} (lo : Lo xs) (hn : 0 < xs.length) (ht : 0 < xs.getD (xs.length - 1) 0) (h1 : xs.getD (xs.length - 1) 0 < 2 ^ j) (h2 : j = 0 ∨ 2 ^ (j - 1) ≤ xs.getD (xs.length - 1) 0) : BitsOf ((xs.length - 1) * 32 + j) (val xs) := by
  have e := val_take_drop xs (xs.length - 1) (by omega)
  rw [drop_getD xs (xs.length - 1) (by omega), val_cons, show xs.length - 1 + 1 = xs.length from by omega, List.drop_length, val_nil, Nat.mul_zero, Nat.add_zero] at e
  have h3 := val_lt (Lo_take lo (xs.length - 1))
  rw [List.length_take, Nat.min_eq_left (by omega)] at h3
  generalize xs.getD (xs.length - 1) 0 = t at *
  rw [pow32] at e h3
  have hj : j ≠ 0 := by rintro rfl; simp at h1; omega
  refine bitsOf_mk ?_ (.inr ?_)
  · rw [Nat.mul_comm (xs.length - 1) 32, Nat.pow_add]
    have : 2 ^ (32 * (xs.length - 1)) * (t + 1) ≤ 2 ^ (32 * (xs.length - 1)) * 2 ^ j := Nat.mul_le_mul_left _ (by omega)
    rw [Nat.mul_add, Nat.mul_one] at this
    omega
  · rw [show (xs.length - 1) * 32 + j - 1 = 32 * (xs.length - 1) + (j - 1) from by omega, Nat.pow_add]
    have : 2 ^ (32 * (xs.length - 1)) * 2 ^ (j - 1) ≤ 2 ^ (32 * (xs.length - 1)) * t := Nat.mul_le_mul_left _ (h2.resolve_left hj)
    omega
theorem half_step {t q j : Nat} (hq : q = t / 2 ^ j) : q / 2 = t / 2 ^ (j + 1) := by rw [hq, Nat.div_div_eq_div_mul, Nat.pow_succ]
theorem half_low {t q j : Nat} (hq : q = t / 2 ^ j) (h : 0 < q) : 2 ^ j ≤ t := by
  rcases Nat.lt_or_ge t (2 ^ j) with h1 | h1
  · rw [Nat.div_eq_of_lt h1] at hq; omega
  · exact h1
theorem half_end {t q j : Nat} (hq : q = t / 2 ^ j) (h : q = 0) : t < 2 ^ j := by
  rcases Nat.lt_or_ge t (2 ^ j) with h1 | h1
  · exact h1
  · have := Nat.div_pos h1 (Nat.pow_pos (by decide)); omega
theorem half_bound {t j : Nat} (ht : t < 4294967296) (h : 2 ^ j ≤ t) : j < 32 := by
  rcases Nat.lt_or_ge j 32 with h1 | h1
  · exact h1
  · have : 2 ^ 32 ≤ 2 ^ j := Nat.pow_le_pow_right (by decide) h1
    omega

set_option maxRecDepth 100000 in
set_option maxHeartbeats 1000000 in
theorem bitsOf_any (v : Value) (xs : List Nat) (w : World) (h5 : Own w v xs) (h2 : Lim xs) (h4 : xs.length ≤ 1000000000) :
    Calls Tryz.prog 187 #[v] w fun e w' => ∃ b : Nat, e = .returned (.int .i64 b) ∧ BitsOf b (val xs) ∧ w' = w := by
  obtain ⟨ao, cap, rfl, -, -, hcell, -, -⟩ := h5.open_
  by_cases hx : xs = []
  · subst hx
    rw [val_nil]
    clear h2 h5 hcell
    go_enter Tryz.func187, Tryz.ntmps187
    go_wp2_with fail
    go_ret
    exact ⟨0, rfl, bitsOf_zero, rfl⟩
  · have hn : 0 < xs.length := List.length_pos_iff.2 hx
    have ht := h2.2.resolve_left hx
    obtain ⟨b, rfl, hb⟩ := hcell (xs.length - 1) (by omega)
    have htl := Lo_get h2.1 (xs.length - 1)
    have hbt : b < w.heap.size := World.block_lt_of_cell? w _ hb
    obtain ⟨t, hteq⟩ : ∃ t, t = xs.getD (xs.length - 1) 0 := ⟨_, rfl⟩
    have HB := Hid.mk (fun j => @bits_top xs j h2.1 hn ht)
    rw [← hteq] at hb htl ht
    have HT := Hid.mk hteq
    have hne : ((xs.length : Int) == 0) = false := beq_eq_false_iff_ne.2 (by omega)
    clear hcell h2 h5 hx hteq
    go_enter Tryz.func187, Tryz.ntmps187
    go_wp2_with fail
    go_loop [4, 5] (fun c q => ∃ j qq : Nat, c = .int .i64 (((xs.length : Int) - 1) * 32 + j) ∧ q = .int .u32 qq ∧ qq ≤ t ∧ j ≤ 32 ∧ Hid (qq = t / 2 ^ j ∧ (j = 0 ∨ 2 ^ (j - 1) ≤ t))) (fun _ q => (intOf q).toNat)
    case atStart => exact ⟨0, t, by simp, rfl, Nat.le_refl _, by omega, Hid.mk ⟨by simp, .inl rfl⟩⟩
    case round =>
      obtain ⟨j, q, rfl, rfl, hq, hj, HI⟩ := hrel
      by_cases h0 : q = 0
      · have HQ := Hid.mk h0
        subst h0
        go_wp2_with fail
        go_ret
        refine ⟨(xs.length - 1) * 32 + j, ?_, ?_, rfl⟩
        · exact ret_int (by omega)
        · refine HB.out j ?_ ?_
          · rw [← HT.out]; exact half_end HI.out.1 rfl
          · rw [← HT.out]; exact HI.out.2
      · have hq0 : 0 < q := by omega
        have hlow := half_low HI.out.1 hq0
        have hj32 := half_bound htl hlow
        have HLO := Hid.mk hlow
        clear hlow
        go_wp2_with fail
        go_round
        case rel => exact ⟨j + 1, q / 2, by go_num, by go_num, by omega, by omega, Hid.mk ⟨half_step HI.out.1, .inr HLO.out⟩⟩
        case measure => simp [intOf]; omega
set_option maxRecDepth 100000 in
set_option maxHeartbeats 1000000 in
theorem bits_any (v : Value) (z : Int) (L : Nat) (w : World) (hv : IsI w v z L) (hL : L ≤ 1000000000) :
    Calls Tryz.prog 138 #[v] w fun e w' => ∃ b : Nat, e = .returned (.int .i64 b) ∧ BitsOf b z.natAbs ∧ Below w.heap.size w w' := by
  obtain ⟨sl, xs, rfl, h2, h3, h4, h5⟩ := hv
  obtain ⟨ao, cap, rfl, -⟩ := h5.open_
  have H := Hid.mk (And.intro h2 (And.intro h3 (And.intro h4 h5)))
  clear h2 h3 h4 h5
  go_enter Tryz.func138, Tryz.ntmps138
  go_wp2_with fail
  have hb0 := (Below.refl w.heap.size w).alloc (Nat.le_refl _) (.cells #[.bool (decide (z < 0)), .slice ao xs.length cap] 94)
  refine (bitsOf_any _ xs _ (H.out.2.2.2.below hb0) H.out.1 (by have := H.out.2.2.1; omega)).mono ?_
  rintro e w' ⟨b, rfl, hB, rfl⟩
  have HB := Hid.mk hB
  have HB0 := Hid.mk hb0
  clear hB hb0
  go_wp2_with fail
  go_ret
  refine ⟨b, rfl, ?_, HB0.out⟩
  rw [← H.out.2.1]
  exact HB.out
theorem lit_own (w : World) : Own (w.alloc (.cells #[.int .u32 1, .int .u32 0] 165)) (.slice (some ⟨w.heap.size, 0, none⟩) 2 2) [1, 0] := by
  have := World.ownsRow_lit (base := 0) (e := 165) (size := 1) w #[.int .u32 1, .int .u32 0] 2 (Nat.zero_le _) (by simp [maxLen]) rfl
  simpa [Own, lcells] using this
theorem KU_swap (w : World) (c c' : Array Value) (o : Obj) : KU ((w.alloc (.cells c 94)).alloc o) ((w.alloc (.cells c' 94)).alloc o) := by
  intro b arr h
  change ((w.heap.push (.cells c 94)).push o)[b]? = _ at h
  change ((w.heap.push (.cells c' 94)).push o)[b]? = _
  simp only [Array.getElem?_push, Array.size_push] at h ⊢
  split at h
  · rename_i h1; rw [if_pos h1]; exact h
  · rename_i h1
    rw [if_neg h1]
    split at h
    · simp at h
    · rename_i h2; rw [if_neg h2]; exact h
set_option maxRecDepth 100000 in
set_option maxHeartbeats 1000000 in
theorem fromOne_any (w : World) :
    Calls Tryz.prog 94 #[.int .i64 1] w fun e w' => ∃ r, e = .returned r ∧ IntOut w w' r 1 2 := by
  go_enter Tryz.func94, Tryz.ntmps94
  go_wp2_with fail
  refine (trim_any _ [1, 0] _ ?_ (by intro x hx; simp at hx; omega)).mono ?_
  · have := lit_own (w.alloc (.cells #[.bool false, .slice none 0 0] 94))
    simpa using this
  rintro e w' ⟨⟨r, rfl, hr⟩, rfl⟩
  obtain ⟨zs, h1, h2, h3, h4⟩ := hr
  obtain ⟨co, ecap, rfl, -⟩ := h4.open_
  have H := Hid.mk (And.intro h1 (And.intro h2 (And.intro h3 h4)))
  clear h1 h2 h3 h4
  go_wp2_with fail
  refine bodyPost_ret (v := .agg #[.bool false, .slice co zs.length ecap]) ?_ rfl ?_
  · (simp [results, Tryz.results94, go_sem]; done)
  · obtain ⟨h1, h2, h3, h4⟩ := H.out
    refine ⟨_, rfl, IsI.mk' (by simp) h1 (by rw [h2]; simp [val]) (by simpa using h3) (h4.keep (KU_swap _ _ _ _)), ?_⟩
    repeat (first | exact Below.refl _ _ | refine Below.alloc ?_ (by simp <;> omega) _)
end Go.Proofs.YtfjbijpagaipnaaGreatDoor

/- grid.Matrix in memory; has, IsSquare. -/
namespace Go.Proofs.YtfjbijpagaipnaaGreatDoor
open Go.RowKit

/-- A row of n whole numbers zs, each in at most L limbs, at the slice sl. -/
def Grid (w : World) (sl : Value) (n : Nat) (zs : List Int) (L : Nat) : Prop :=
  zs.length = n ∧ ∃ cs, w.ownsRow 0 94 2 sl n cs ∧ ∀ i, i < n → ∃ a b, cs[2 * i]? = some a ∧ cs[2 * i + 1]? = some b ∧ IsI w (.agg #[a, b]) (zs.getD i 0) L
/-- The value v is the matrix of r rows and c columns with the entries zs, row by row. -/
def IsM (w : World) (v : Value) (r c : Nat) (zs : List Int) (L : Nat) : Prop := r ≤ 99 ∧ c ≤ 99 ∧ ∃ sl, v = .agg #[.int .i64 r, .int .i64 c, sl] ∧ Grid w sl (r * c) zs L

theorem Grid.below {w w' : World} {sl : Value} {n L : Nat} {zs : List Int} (h : Grid w sl n zs L) (hb : Below w.heap.size w w') : Grid w' sl n zs L := by
  obtain ⟨h0, cs, h1, h2⟩ := h
  refine ⟨h0, cs, ⟨h1.1, ?_⟩, fun i hi => ?_⟩
  · rcases h1.2 with h3 | ⟨g, cap, cur, hv, hg, hh, r⟩
    · exact .inl h3
    · exact .inr ⟨g, cap, cur, hv, hg, by rw [hb.block g (Array.getElem?_eq_some_iff.1 hh).1]; exact hh, r⟩
  · obtain ⟨a, b, e1, e2, e3⟩ := h2 i hi
    exact ⟨a, b, e1, e2, e3.below hb⟩
theorem IsM.below {w w' : World} {v : Value} {r c L : Nat} {zs : List Int} (h : IsM w v r c zs L) (hb : Below w.heap.size w w') : IsM w' v r c zs L := by
  obtain ⟨h0, h1, sl, h2, h3⟩ := h
  exact ⟨h0, h1, sl, h2, h3.below hb⟩
theorem Grid.mono {w : World} {sl : Value} {n L M : Nat} {zs : List Int} (h : Grid w sl n zs L) (hLM : L ≤ M) : Grid w sl n zs M := by
  obtain ⟨h0, cs, h1, h2⟩ := h
  refine ⟨h0, cs, h1, fun i hi => ?_⟩
  obtain ⟨a, b, e1, e2, e3⟩ := h2 i hi
  exact ⟨a, b, e1, e2, e3.mono hLM⟩
theorem IsM.mono {w : World} {v : Value} {r c L M : Nat} {zs : List Int} (h : IsM w v r c zs L) (hLM : L ≤ M) : IsM w v r c zs M := by
  obtain ⟨h0, h1, sl, h2, h3⟩ := h
  exact ⟨h0, h1, sl, h2, h3.mono hLM⟩
/-- The slice's shape. -/
theorem Grid.shape {w : World} {sl : Value} {n L : Nat} {zs : List Int} (h : Grid w sl n zs L) : ∃ ao cap, sl = .slice ao n cap ∧ n ≤ cap ∧ cap ≤ 9223372036854775807 ∧ (∀ i, i < n → ∃ g, ao = some ⟨g, 0, none⟩) := by
  obtain ⟨h0, cs, h1, h2⟩ := h
  rcases h1.2 with ⟨rfl, hn⟩ | ⟨g, cap, cur, rfl, hg, hh, r1, r2, r3, r4⟩
  · subst hn; exact ⟨none, 0, rfl, Nat.le_refl _, by omega, fun i hi => by omega⟩
  · exact ⟨_, cap, rfl, r1, by simpa [maxLen] using r2, fun i _ => ⟨g, rfl⟩⟩
/-- An entry's two cells. -/
theorem Grid.cell {w : World} {g n cap L : Nat} {zs : List Int} (h : Grid w (.slice (some ⟨g, 0, none⟩) n cap) n zs L) (k : Nat) (hk : k < n) :
    ∃ nb ao m ecap, w.cell? ⟨g, 2 * k, none⟩ = some (.bool nb) ∧ w.cell? ⟨g, 2 * k + 1, none⟩ = some (.slice ao m ecap) ∧ IsI w (.agg #[.bool nb, .slice ao m ecap]) (zs.getD k 0) L := by
  obtain ⟨h0, cs, h1, h2⟩ := h
  obtain ⟨a, b, e1, e2, e3⟩ := h2 k hk
  have e4 := e3
  obtain ⟨sl, xs, f1, f2, f3, f4, f5⟩ := e3
  obtain ⟨ao, ecap, rfl, -⟩ := f5.open_
  simp only [Value.agg.injEq, Array.mk.injEq, List.cons.injEq, and_true] at f1
  obtain ⟨rfl, rfl⟩ := f1
  exact ⟨_, _, _, _, by rw [World.ownsRow.cellAt h1 _ (by omega), e1], by rw [World.ownsRow.cellAt h1 _ (by omega), e2], e4⟩
theorem Grid.frozen {w : World} {g n cap L : Nat} {zs : List Int} (h : Grid w (.slice (some ⟨g, 0, none⟩) n cap) n zs L) (j : Nat) : w.frozen? ⟨g, j, none⟩ = false := by
  obtain ⟨h0, cs, h1, h2⟩ := h
  exact World.ownsRow.frozenAt h1 j
theorem Grid.ty {w : World} {g n cap L : Nat} {zs : List Int} (h : Grid w (.slice (some ⟨g, 0, none⟩) n cap) n zs L) : Ty w g 94 := by
  obtain ⟨h0, cs, h1, h2⟩ := h
  rcases h1.2 with ⟨h3, _⟩ | ⟨g', cap', cur, hv, hg, hh, r⟩
  · simp at h3
  · simp only [Value.slice.injEq, Option.some.injEq, Addr.mk.injEq] at hv
    obtain ⟨⟨rfl, _⟩, _⟩ := hv
    exact ⟨_, _, hh⟩
/-- An entry is written. -/
theorem Grid.stored {w : World} {g n cap L : Nat} {zs : List Int} (h : Grid w (.slice (some ⟨g, 0, none⟩) n cap) n zs L) (k : Nat) (hk : k < n) {a b : Value} {z : Int} (hz : IsI w (.agg #[a, b]) z L) :
    Grid ((w.setCell ⟨g, 2 * k, none⟩ a).setCell ⟨g, 2 * k + 1, none⟩ b) (.slice (some ⟨g, 0, none⟩) n cap) n (zs.set k z) L ∧ KU w ((w.setCell ⟨g, 2 * k, none⟩ a).setCell ⟨g, 2 * k + 1, none⟩ b) := by
  have hty := h.ty
  have hku : KU w ((w.setCell ⟨g, 2 * k, none⟩ a).setCell ⟨g, 2 * k + 1, none⟩ b) := KU.setCell (KU.setCell (KU.refl _) hty (by decide) _) (hty.setCell _ _) (by decide) _
  obtain ⟨h0, cs, h1, h2⟩ := h
  refine ⟨⟨by simpa using h0, (cs.set (2 * k) a).set (2 * k + 1) b, ((h1.stored (2 * k) a).1.stored (2 * k + 1) b).1, fun i hi => ?_⟩, hku⟩
  have hcl : cs.length = n * 2 := h1.1
  by_cases hik : i = k
  · subst hik
    refine ⟨a, b, ?_, ?_, ?_⟩
    · rw [List.getElem?_set_ne (by omega), List.getElem?_set_self (by omega)]
    · rw [List.getElem?_set_self (by simp; omega)]
    · rw [show (zs.set i z).getD i 0 = z from by simp [List.getD, show i < zs.length from by omega]]; exact hz.keep hku
  · obtain ⟨a', b', e1, e2, e3⟩ := h2 i hi
    refine ⟨a', b', ?_, ?_, ?_⟩
    · rw [List.getElem?_set_ne (by omega), List.getElem?_set_ne (by omega), e1]
    · rw [List.getElem?_set_ne (by omega), List.getElem?_set_ne (by omega), e2]
    · rw [show (zs.set k z).getD i 0 = zs.getD i 0 from by simp [List.getD, List.getElem?_set_ne (Ne.symm hik)]]; exact e3.keep hku

def hasB (r c row col : Int) : Bool := decide (0 ≤ row ∧ row < r ∧ 0 ≤ col ∧ col < c)
theorem ret_bool {a b : Bool} (h : a = b) : Ending.returned (.bool a) = .returned (.bool b) := by rw [h]
theorem hasB_no {r c row col : Int} (h : row < 0 ∨ r ≤ row ∨ col < 0) : false = hasB r c row col := by
  unfold hasB
  rw [eq_comm, decide_eq_false_iff_not]
  omega
theorem hasB_yes {r c row col : Int} (h1 : 0 ≤ row) (h2 : row < r) (h3 : 0 ≤ col) : decide (col < c) = hasB r c row col := by
  unfold hasB
  rw [decide_eq_decide]
  omega
set_option maxHeartbeats 1000000 in
theorem has_raw (r c row col : Int) (ao : Option Addr) (n cap : Nat) (w : World) :
    Calls Tryz.prog 144 #[.agg #[.int .i64 r, .int .i64 c, .slice ao n cap], .int .i64 row, .int .i64 col] w fun e w' => e = .returned (.bool (hasB r c row col)) ∧ w' = w.alloc (.cells #[.int .i64 r, .int .i64 c, .slice ao n cap] 76) := by
  by_cases h1 : 0 ≤ row
  · by_cases h2 : row < r
    · by_cases h3 : 0 ≤ col
      · go_enter Tryz.func144, Tryz.ntmps144
        go_wp2
        go_ret
        exact ⟨ret_bool (hasB_yes h1 h2 h3), rfl⟩
      · have H : Hid (col < 0) := Hid.mk (by omega)
        have h3' : decide (0 ≤ col) = false := by simpa using h3
        go_enter Tryz.func144, Tryz.ntmps144
        go_wp2
        go_ret
        exact ⟨ret_bool (hasB_no (.inr (.inr H.out))), rfl⟩
    · have H : Hid (r ≤ row) := Hid.mk (by omega)
      have h2' : decide (row < r) = false := by simpa using h2
      go_enter Tryz.func144, Tryz.ntmps144
      go_wp2
      go_ret
      exact ⟨ret_bool (hasB_no (.inr (.inl H.out))), rfl⟩
  · have H : Hid (row < 0) := Hid.mk (by omega)
    have h1' : decide (0 ≤ row) = false := by simpa using h1
    go_enter Tryz.func144, Tryz.ntmps144
    go_wp2
    go_ret
    exact ⟨ret_bool (hasB_no (.inl H.out)), rfl⟩
set_option maxHeartbeats 1000000 in
theorem isSquare_raw (r c : Int) (ao : Option Addr) (n cap : Nat) (w : World) :
    Calls Tryz.prog 207 #[.agg #[.int .i64 r, .int .i64 c, .slice ao n cap]] w fun e w' => e = .returned (.bool (r == c)) ∧ w' = w.alloc (.cells #[.int .i64 r, .int .i64 c, .slice ao n cap] 76) := by
  go_enter Tryz.func207, Tryz.ntmps207
  go_wp2
  go_ret
  exact ⟨rfl, rfl⟩
/-- A cell behind three new blocks. -/
theorem cell3 {w : World} {a : Addr} {v : Value} (h : w.cell? a = some v) : ∀ o1 o2 o3, (((w.alloc o1).alloc o2).alloc o3).cell? a = some v := fun o1 o2 o3 =>
  cell_later (by repeat (first | exact Below.refl _ _ | refine Below.alloc ?_ (by simp <;> omega) _)) h
theorem hasB_in {r c : Nat} {row col : Nat} (h1 : row < r) (h2 : col < c) : hasB r c row col = true := by
  unfold hasB
  rw [decide_eq_true_eq]
  omega
theorem idx_lt {r c row col : Nat} (h1 : row < r) (h2 : col < c) : row * c + col < r * c := by
  have : (row + 1) * c ≤ r * c := Nat.mul_le_mul_right _ h1
  rw [Nat.add_mul, Nat.one_mul] at this
  omega
theorem idx_bd {r c row : Nat} (hr : r ≤ 99) (hc : c ≤ 99) (h1 : row < r) : (0 : Int) ≤ (row : Int) * (c : Int) ∧ (row : Int) * (c : Int) ≤ 9801 := by
  have : row * c ≤ 99 * 99 := Nat.mul_le_mul (by omega) hc
  rw [← Int.natCast_mul]
  omega

set_option maxRecDepth 100000 in
set_option maxHeartbeats 1000000 in
/-- An entry that is there. -/
theorem at_in (v : Value) (r c row col : Nat) (zs : List Int) (L : Nat) (w : World) (hm : IsM w v r c zs L) (h1 : row < r) (h2 : col < c) :
    Calls Tryz.prog 82 #[v, .int .i64 row, .int .i64 col] w fun e w' => ∃ x, e = .returned x ∧ IntOut w w' x (zs.getD (row * c + col) 0) L := by
  obtain ⟨hr, hc, sl, rfl, hg⟩ := hm
  obtain ⟨ao, cap, rfl, hcap, hcm, hao⟩ := hg.shape
  have hk := idx_lt h1 h2
  obtain ⟨g, rfl⟩ := hao _ hk
  obtain ⟨nb, bo, m, ecap, c1, c2, hI⟩ := hg.cell _ hk
  have hgl : g < w.heap.size := World.block_lt_of_cell? w _ c1
  have hh := hasB_in h1 h2
  obtain ⟨b1, b2⟩ := idx_bd hr hc h1
  have HI := Hid.mk hI
  rw [Nat.mul_comm 2] at c1 c2
  clear hg hI hao
  obtain ⟨N, hN⟩ : ∃ N, N = r * c := ⟨_, rfl⟩
  rw [← hN] at hcap hk ⊢
  have hk2 : (row : Int) * (c : Int) + (col : Int) < (N : Int) := by rw [← Int.natCast_mul]; omega
  clear hN
  have d1 := cell3 c1
  have d2 := cell3 c2
  go_enter Tryz.func82, Tryz.ntmps82
  go_wp2_with (go_at_call 144; refine (has_raw _ _ _ _ _ _ _ _).mono ?_; rintro e w' ⟨rfl, rfl⟩; rw [hh])
  refine bodyPost_ret (v := .agg #[.bool nb, .slice bo m ecap]) ?_ rfl ?_
  · (simp [results, Tryz.results82, go_sem]; done)
  · refine ⟨_, rfl, HI.out.below ?_, ?_⟩
    · repeat (first | exact Below.refl _ _ | refine Below.alloc ?_ (by simp <;> omega) _)
    · repeat (first | exact Below.refl _ _ | refine Below.alloc ?_ (by simp <;> omega) _)
end Go.Proofs.YtfjbijpagaipnaaGreatDoor

/- grid.Matrix.set. -/
namespace Go.Proofs.YtfjbijpagaipnaaGreatDoor
open Go.RowKit

theorem cell1 {w : World} {a : Addr} {v : Value} (h : w.cell? a = some v) : ∀ o1, (w.alloc o1).cell? a = some v := fun o1 =>
  cell_later (by repeat (first | exact Below.refl _ _ | refine Below.alloc ?_ (by simp <;> omega) _)) h
theorem cell2 {w : World} {a : Addr} {v : Value} (h : w.cell? a = some v) : ∀ o1 o2, ((w.alloc o1).alloc o2).cell? a = some v := fun o1 o2 =>
  cell_later (by repeat (first | exact Below.refl _ _ | refine Below.alloc ?_ (by simp <;> omega) _)) h
theorem frozen2 {w : World} {a : Addr} (h : w.frozen? a = false) (hb : a.block < w.heap.size) : ∀ o1 o2, ((w.alloc o1).alloc o2).frozen? a = false := fun o1 o2 => by
  rw [Below.frozen (w := w) (B := w.heap.size) (by repeat (first | exact Below.refl _ _ | refine Below.alloc ?_ (by simp <;> omega) _)) hb]; exact h

theorem grown_set2 {w W : World} {g i j : Nat} {a b : Value} (h : Below ((w.setCell ⟨g, i, none⟩ a).setCell ⟨g, j, none⟩ b).heap.size ((w.setCell ⟨g, i, none⟩ a).setCell ⟨g, j, none⟩ b) W) : w.grownBy W (some g) := by
  have hs : ((w.setCell ⟨g, i, none⟩ a).setCell ⟨g, j, none⟩ b).heap.size = w.heap.size := by simp [World.setCell]
  refine ⟨h.os, h.tape, h.output, by have := h.size; omega, fun k hk hne => ?_⟩
  rw [h.block k (by omega), Below.heap_setCell _ _ _ _ (fun e => hne (by simp [e])), Below.heap_setCell _ _ _ _ (fun e => hne (by simp [e]))]
set_option maxRecDepth 100000 in
set_option maxHeartbeats 2000000 in
theorem set_in (p g r c cap row col : Nat) (zs : List Int) (L : Nat) (x : Value) (z : Int) (w : World) (p0 : w.cell? ⟨p, 0, none⟩ = some (.int .i64 r)) (p1 : w.cell? ⟨p, 1, none⟩ = some (.int .i64 c))
    (p2 : w.cell? ⟨p, 2, none⟩ = some (.slice (some ⟨g, 0, none⟩) (r * c) cap)) (hg : Grid w (.slice (some ⟨g, 0, none⟩) (r * c) cap) (r * c) zs L) (hx : IsI w x z L) (hr : r ≤ 99) (hc : c ≤ 99) (h1 : row < r) (h2 : col < c) :
    Calls Tryz.prog 85 #[.pointer (some ⟨p, 0, none⟩), .int .i64 row, .int .i64 col, x] w fun e w' => e = .returned (.tuple #[]) ∧ Grid w' (.slice (some ⟨g, 0, none⟩) (r * c) cap) (r * c) (zs.set (row * c + col) z) L ∧ w.grownBy w' (some g) ∧ KU w w' := by
  have hk := idx_lt h1 h2
  obtain ⟨nb, bo, m, ecap, c1, c2, -⟩ := hg.cell _ hk
  have f1 := hg.frozen (2 * (row * c + col))
  have f2 := hg.frozen (2 * (row * c + col) + 1)
  have hgl : g < w.heap.size := World.block_lt_of_cell? w _ c1
  have hh := hasB_in h1 h2
  obtain ⟨b1, b2⟩ := idx_bd hr hc h1
  obtain ⟨sl, xs, rfl, q2, q3, q4, q5⟩ := id hx
  obtain ⟨ao, dcap, rfl, -⟩ := q5.open_
  rw [Nat.mul_comm 2] at c1 c2 f1 f2
  have d1 := cell2 c1
  have d2 := cell2 c2
  have d3 := frozen2 f1 hgl
  have d4 := frozen2 f2 hgl
  have d5 : ∀ v, ∀ o1 o2, (((w.setCell ⟨g, (row * c + col) * 2, none⟩ v).alloc o1).alloc o2).cell? ⟨g, (row * c + col) * 2 + 1, none⟩ = some (.slice bo m ecap) := fun v => cell2 (by rw [World.cell?_setCell_other _ _ _ _ (by simp)]; exact c2)
  have d6 : ∀ v, ∀ o1 o2, (((w.setCell ⟨g, (row * c + col) * 2, none⟩ v).alloc o1).alloc o2).frozen? ⟨g, (row * c + col) * 2 + 1, none⟩ = false := fun v => frozen2 (by rw [World.frozen?_setCell]; exact f2) (by simp [World.setCell]; exact hgl)
  have e0 := cell2 p0
  have e1 := cell2 p1
  have e2 := cell2 p2
  have e0' := cell1 p0
  have e1' := cell1 p1
  have e2' := cell1 p2
  have HX := Hid.mk hx
  have HG := Hid.mk hg
  have HK := Hid.mk hk
  clear hx hg q2 q3 q4 q5 p0 p1 p2 c1 c2 f1 f2
  obtain ⟨nz, hnz⟩ : ∃ nz, nz = decide (z < 0) := ⟨_, rfl⟩
  rw [← hnz] at HX ⊢
  clear hnz
  obtain ⟨N, hN⟩ : ∃ N, N = r * c := ⟨_, rfl⟩
  rw [← hN] at hk e2 e2' HG ⊢
  have hk2 : (row : Int) * (c : Int) + (col : Int) < (N : Int) := by rw [← Int.natCast_mul]; omega
  clear hN HK
  go_enter Tryz.func85, Tryz.ntmps85
  go_wp2_with (go_at_call 144; refine (has_raw _ _ _ _ _ _ _ _).mono ?_; rintro e w' ⟨rfl, rfl⟩; rw [hh])
  go_region
  all_goals
    go_end0
    obtain ⟨S1, S2⟩ := HG.out.stored _ hk HX.out
    rw [Nat.mul_comm 2] at S1 S2
    refine ⟨rfl, ?_, ?_, ?_⟩
    · refine S1.below ?_
      repeat (first | exact Below.refl _ _ | refine Below.drew ?_ | refine Below.alloc ?_ (by simp <;> omega) _)
    · refine grown_set2 (i := (row * c + col) * 2) (j := (row * c + col) * 2 + 1) (a := .bool nz) (b := .slice ao xs.length dcap) ?_
      repeat (first | exact Below.refl _ _ | refine Below.drew ?_ | refine Below.alloc ?_ (by simp <;> omega) _)
    · refine S2.trans (KU.of_below ?_)
      repeat (first | exact Below.refl _ _ | refine Below.drew ?_ | refine Below.alloc ?_ (by simp <;> omega) _)
end Go.Proofs.YtfjbijpagaipnaaGreatDoor

/- grid.Noughts. -/
namespace Go.Proofs.YtfjbijpagaipnaaGreatDoor
open Go.RowKit

theorem Tryz.info94 : (Tryz.prog.info? 94).map (fun i => (i.zero, i.size, i.bytes)) = some (some (.agg #[.bool false, .slice none 0 0]), 2, 32) := by kernel_rfl
theorem made_two (n : Nat) (i : Nat) (hi : i < n) : (madeCells #[Value.bool false, .slice none 0 0] (n * 2)).toList[2 * i]? = some (.bool false) ∧ (madeCells #[Value.bool false, .slice none 0 0] (n * 2)).toList[2 * i + 1]? = some (.slice none 0 0) := by
  constructor
  · simp [madeCells, show 2 * i < n * 2 from by omega, show 2 * i % 2 = 0 from by omega]
  · simp [madeCells, show 2 * i + 1 < n * 2 from by omega, show (2 * i + 1) % 2 = 1 from by omega]
/-- 'make([]whole.Int, n)'. -/
theorem make_ints (w : World) {ops : Array Oper} {rest : List Oper} {o : Oper} {a : Act} {Q : Exit → Act → World → Prop}
    (hg : o.guard = none) (l c : Operand) (hop : o.op = Op.makeSlice 74 l c) (L C : Int) (n : Nat) (hl : a.eval l = .int .i64 L) (hc : a.eval c = .int .i64 C) (hL : L = (n : Int)) (hC : C = (n : Int)) (b : n ≤ 1000000000)
    (hK : ∀ w', Grid w' (.slice (some ⟨w.heap.size, 0, none⟩) n n) n (List.replicate n 0) 0 → Below w.heap.size w w' → w.heap.size < w'.heap.size → wpList Tryz.prog ops Q rest (a.put o.dst (.slice (some ⟨w.heap.size, 0, none⟩) n n)) w') :
    wpList Tryz.prog ops Q (o :: rest) a w := by
  obtain ⟨i, hi, hz0, hz1, hz2⟩ := info_parts Tryz.info94
  refine wpList_make_full w hg l c 74 hop 0 94 i (.agg #[.bool false, .slice none 0 0]) 2 Tryz.underlying74 hi hz0 hz1 .i64 .i64 L C n hl hc hL hC (by rw [hz2]; omega) (by unfold maxLen; omega) (Nat.zero_le _) ?_
  intro w' hown hgrow
  rw [show (Value.agg #[.bool false, .slice none 0 0]).cells = #[.bool false, .slice none 0 0] from rfl] at hown
  refine hK w' ⟨by simp, _, hown, fun j hj => ⟨_, _, (made_two n j hj).1, (made_two n j hj).2, ?_⟩⟩ ((Below.refl _ _).grown hgrow (Nat.le_refl _) (by simp)) (World.ownsRow.lt hown _ rfl).2
  rw [show (List.replicate n (0 : Int)).getD j 0 = 0 from by simp [List.getD, hj]]
  exact IsI.zero w' 0

theorem bcellB {B : Nat} {W w1 : World} (hb : Below B W w1) : (∀ b o, b < B → w1.cell? ⟨b, o, none⟩ = W.cell? ⟨b, o, none⟩) ∧ (∀ b o, b < B → w1.frozen? ⟨b, o, none⟩ = W.frozen? ⟨b, o, none⟩) :=
  ⟨fun b o h => hb.cell (p := ⟨b, o, none⟩) h, fun b o h => hb.frozen (p := ⟨b, o, none⟩) h⟩
/-- What is written into a block past n leaves the numbers alone. -/
theorem Grid.keepT {w W : World} {sl : Value} {n L : Nat} {zs : List Int} (h : Grid w sl n zs L) (hb : ∀ (b : Nat) (arr : Array Value), w.heap[b]? = some (.cells arr 94 (0, 0)) → W.heap[b]? = some (.cells arr 94 (0, 0))) (hk : KU w W) : Grid W sl n zs L := by
  obtain ⟨h0, cs, h1, h2⟩ := h
  refine ⟨h0, cs, ⟨h1.1, ?_⟩, fun i hi => ?_⟩
  · rcases h1.2 with h3 | ⟨g, cap, cur, hv, hg, hh, r⟩
    · exact .inl h3
    · exact .inr ⟨g, cap, cur, hv, hg, hb g cur hh, r⟩
  · obtain ⟨a, b, e1, e2, e3⟩ := h2 i hi
    exact ⟨a, b, e1, e2, e3.keep hk⟩
/-- No row of whole numbers and no row of limbs has turned. -/
def KT (w w' : World) : Prop := (∀ (b : Nat) (arr : Array Value), w.heap[b]? = some (.cells arr 94 (0, 0)) → w'.heap[b]? = some (.cells arr 94 (0, 0))) ∧ KU w w'
theorem KT.refl (w : World) : KT w w := ⟨fun _ _ h => h, KU.refl w⟩
theorem KT.trans {a b c : World} (h : KT a b) (k : KT b c) : KT a c := ⟨fun i arr hi => k.1 i arr (h.1 i arr hi), h.2.trans k.2⟩
theorem KT.of_below {w w' : World} (h : Below w.heap.size w w') : KT w w' := ⟨fun i arr hi => by rw [h.block i (Array.getElem?_eq_some_iff.1 hi).1]; exact hi, KU.of_below h⟩
theorem KT.setCell {a w : World} (h : KT a w) {b o : Nat} {t : TypeId} (ht : Ty w b t) (hne : t ≠ 165) (hne2 : t ≠ 94) (u : Value) : KT a (w.setCell ⟨b, o, none⟩ u) := by
  refine ⟨fun i arr hi => ?_, h.2.setCell ht hne u⟩
  have h1 := h.1 i arr hi
  obtain ⟨c, fr, h2⟩ := ht
  by_cases hb : i = b
  · subst hb
    rw [h1] at h2
    simp only [Option.some.injEq, Obj.cells.injEq] at h2
    exact absurd h2.2.1.symm hne2
  · rw [Below.heap_setCell _ _ _ _ hb]; exact h1
theorem Grid.keep {w W : World} {sl : Value} {n L : Nat} {zs : List Int} (h : Grid w sl n zs L) (hk : KT w W) : Grid W sl n zs L := h.keepT hk.1 hk.2
set_option maxRecDepth 100000 in
set_option maxHeartbeats 2000000 in
theorem noughts_any (r c : Nat) (w : World) (hr : r ≤ 99) (hc : c ≤ 99) :
    Calls Tryz.prog 80 #[.int .i64 r, .int .i64 c] w fun e w' => ∃ g, e = .returned (.agg #[.int .i64 r, .int .i64 c, .slice (some ⟨g, 0, none⟩) (r * c) (r * c)]) ∧ w.heap.size ≤ g ∧ Grid w' (.slice (some ⟨g, 0, none⟩) (r * c) (r * c)) (r * c) (List.replicate (r * c) 0) 0 ∧ Below w.heap.size w w' := by
  have hb : (0 : Int) ≤ (r : Int) * (c : Int) ∧ (r : Int) * (c : Int) ≤ 9801 := by
    have : r * c ≤ 99 * 99 := Nat.mul_le_mul hr hc
    rw [← Int.natCast_mul]
    omega
  obtain ⟨b1, b2⟩ := hb
  go_enter Tryz.func80, Tryz.ntmps80
  go_wp2_with (at_make; refine make_ints _ rfl (.tmp 24) (.tmp 24) rfl _ _ (r * c) rfl rfl ?_ ?_ ?_ ?_)
  · simp
  · simp
  · have : r * c ≤ 99 * 99 := Nat.mul_le_mul hr hc; omega
  intro w1 hg hbel hsz
  obtain ⟨hcell, hfr⟩ := bcellB hbel
  have hty : Ty w1 w.heap.size 76 := (Ty.new w _ _).below hbel (by omega)
  have HG := Hid.mk hg
  have HB := Hid.mk hbel
  have HT := Hid.mk hty
  clear hg hty
  go_wp2_with fail
  refine bodyPost_ret (v := .agg #[.int .i64 r, .int .i64 c, .slice (some ⟨w.heap.size + 1, 0, none⟩) (r * c) (r * c)]) ?_ rfl ?_
  · (simp [results, Tryz.results80, go_sem, hcell]; done)
  · refine ⟨w.heap.size + 1, rfl, by omega, HG.out.keep ?_, ?_⟩
    · exact KT.setCell (KT.setCell (KT.setCell (KT.refl _) HT.out (by decide) (by decide) _) (HT.out.setCell _ _) (by decide) (by decide) _) ((HT.out.setCell _ _).setCell _ _) (by decide) (by decide) _
    · refine Below.setCell (Below.setCell (Below.setCell ?_ (by simp) _) (by simp) _) (by simp) _
      exact ((Below.refl w.heap.size w).alloc (Nat.le_refl _) _).trans (HB.out.mono (by omega))
end Go.Proofs.YtfjbijpagaipnaaGreatDoor
