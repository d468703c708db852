import Derived.Test.YtfjbijpagaipnaaGreatDoorC35
import Derived.Test.YtfjbijpagaipnaaGreatDoorC36
/- grid.Matrix: leastIn, pivotOf. -/
namespace Go.Proofs.YtfjbijpagaipnaaGreatDoor
open Go.RowKit

/-- The least in amount of the entries f i that are not 0, from row 'from' to ahead of n: the first one. -/
def LeastIs (f : Nat → Int) (from_ n : Nat) (z : Int) : Prop := (∃ i, from_ ≤ i ∧ i < n ∧ z = (i : Int) ∧ f i ≠ 0 ∧ (∀ k, from_ ≤ k → k < n → f k ≠ 0 → (f i).natAbs ≤ (f k).natAbs) ∧ ∀ k, from_ ≤ k → k < i → f k ≠ 0 → (f i).natAbs < (f k).natAbs) ∨ (z = -1 ∧ ∀ k, from_ ≤ k → k < n → f k = 0)
theorem LeastIs.skip {f : Nat → Int} {from_ n : Nat} {z : Int} (h : LeastIs f from_ n z) (h0 : f n = 0) : LeastIs f from_ (n + 1) z := by
  rcases h with ⟨i, h1, h2, h3, h4, h5, h6⟩ | ⟨h1, h2⟩
  · refine .inl ⟨i, h1, by omega, h3, h4, fun k a b d => ?_, h6⟩
    by_cases hk : k = n
    · subst hk; exact absurd h0 d
    · exact h5 k a (by omega) d
  · refine .inr ⟨h1, fun k a b => ?_⟩
    by_cases hk : k = n
    · subst hk; exact h0
    · exact h2 k a (by omega)
theorem LeastIs.first {f : Nat → Int} {from_ n : Nat} (hn : from_ ≤ n) (h : LeastIs f from_ n (-1)) (h0 : f n ≠ 0) : LeastIs f from_ (n + 1) n := by
  rcases h with ⟨i, h1, h2, h3, h4, h5, h6⟩ | ⟨-, h2⟩
  · omega
  · refine .inl ⟨n, hn, by omega, rfl, h0, fun k a b d => ?_, fun k a b d => absurd (h2 k a b) d⟩
    by_cases hk : k = n
    · subst hk; exact Nat.le_refl _
    · exact absurd (h2 k a (by omega)) d
theorem LeastIs.less {f : Nat → Int} {from_ n i : Nat} (hn : from_ ≤ n) (h : LeastIs f from_ n i) (h0 : f n ≠ 0) (hl : (f n).natAbs < (f i).natAbs) : LeastIs f from_ (n + 1) n := by
  rcases h with ⟨i', h1, h2, h3, h4, h5, h6⟩ | ⟨h1, -⟩
  · have e : i' = i := by omega
    subst e
    refine .inl ⟨n, hn, by omega, rfl, h0, fun k a b d => ?_, fun k a b d => ?_⟩
    · by_cases hk : k = n
      · subst hk; exact Nat.le_refl _
      · have := h5 k a (by omega) d; omega
    · have := h5 k a b d; omega
  · omega
theorem LeastIs.more {f : Nat → Int} {from_ n i : Nat} (h : LeastIs f from_ n i) (hl : ¬ (f n).natAbs < (f i).natAbs) : LeastIs f from_ (n + 1) i := by
  rcases h with ⟨i', h1, h2, h3, h4, h5, h6⟩ | ⟨h1, -⟩
  · have e : i' = i := by omega
    subst e
    refine .inl ⟨i', h1, by omega, rfl, h4, fun k a b d => ?_, h6⟩
    by_cases hk : k = n
    · subst hk; omega
    · exact h5 k a (by omega) d
  · omega
set_option maxRecDepth 100000 in
set_option maxHeartbeats 2000000 in
theorem leastIn_any (v : Value) (r c col from_ : Nat) (zs : List Int) (L : Nat) (w : World) (hm : IsM w v r c zs L) (hcol : col < c) (hf : from_ ≤ r) :
    Calls Tryz.prog 139 #[v, .int .i64 col, .int .i64 from_] w fun e w' => ∃ z : Int, e = .returned (.int .i64 z) ∧ LeastIs (fun i => ent c zs i col) from_ r z ∧ Below w.heap.size w w' := by
  have HM := Hid.mk hm
  obtain ⟨hr, hc, sl, rfl, hg0⟩ := hm
  obtain ⟨ao, cap, rfl, -⟩ := hg0.shape
  clear hg0
  obtain ⟨N, hN⟩ : ∃ N, N = r * c := ⟨_, rfl⟩
  rw [← hN] at HM ⊢
  clear hN
  go_enter Tryz.func139, Tryz.ntmps139
  go_wp2_with fail
  obtain ⟨W0, hW0⟩ : ∃ W0, W0 = w.alloc (.cells #[.int .i64 r, .int .i64 c, .slice ao N cap] 76) := ⟨_, rfl⟩
  have hb0 : Below w.heap.size w W0 := by rw [hW0]; exact (Below.refl _ _).alloc (Nat.le_refl _) _
  have hm0 : Trio W0 w.heap.size (.int .i64 r) (.int .i64 c) (.slice ao N cap) := by rw [hW0]; exact ⟨new_cell _ _ _ _ _ rfl rfl, new_cell _ _ _ _ _ rfl rfl, new_cell _ _ _ _ _ rfl rfl⟩
  have hz0 : W0.heap.size = w.heap.size + 1 := by rw [hW0]; simp
  rw [← hW0]
  have F := Hid.mk (And.intro hm0 hb0)
  clear hm0 hb0 hW0
  go_loopw [7, 8] (fun l i wr => ∃ (k : Nat) (z : Int), from_ ≤ k ∧ k ≤ r ∧ i = .int .i64 k ∧ l = .int .i64 z ∧ Hid (Below W0.heap.size W0 wr ∧ LeastIs (fun i => ent c zs i col) from_ k z)) (fun _ i _ => r - (intOf i).toNat)
  case atStart => exact ⟨from_, -1, Nat.le_refl _, hf, rfl, rfl, Hid.mk ⟨Below.refl _ _, .inr ⟨rfl, fun k a b => by omega⟩⟩⟩
  case round =>
    obtain ⟨k, z, hk1, hk2, rfl, rfl, HI⟩ := hrel
    have hbw : Below w.heap.size w wr := F.out.2.trans (HI.out.1.mono (by omega))
    obtain ⟨q0, q1, q2⟩ := F.out.1.later HI.out.1
    have hwr := HI.out.1.size
    have K := Hid.mk hbw
    clear hbw
    by_cases hkr : k < r
    · have hki : (k : Int) < (r : Int) := by omega
      go_wp2_with fail
      refine (at_in _ r c k col zs L _ (HM.out.below K.out) hkr hcol).mono ?_
      rintro e w4 ⟨x, rfl, hx, hb4⟩
      obtain ⟨nb, so, n, ecap, rfl⟩ := hx.shape
      have hw4 := hb4.size
      have hb44 := (Below.refl w4.heap.size w4).alloc (Nat.le_refl _) (.cells #[.bool nb, .slice so n ecap] 94)
      have hD4 := Duo.new w4 (.bool nb) (.slice so n ecap) rfl
      obtain ⟨W4, hW4⟩ : ∃ W4, W4 = w4.alloc (.cells #[.bool nb, .slice so n ecap] 94) := ⟨_, rfl⟩
      have hs4 : W4.heap.size = w4.heap.size + 1 := by rw [hW4]; simp
      rw [← hW4] at hb44 hD4
      have K4 := Hid.mk (And.intro (hx.below hb44) (And.intro (hb4.trans (hb44.mono hw4)) (And.intro hD4 hW4)))
      clear hx hb4 hb44 hD4 hW4 q0 q1 q2
      go_wp2_with fail
      rw [← K4.out.2.2.2]
      refine (isZero_any _ (zs.getD (k * c + col) 0) L _ K4.out.1).mono ?_
      rintro e w5 ⟨rfl, hb5⟩
      have hbr5 : Below wr.heap.size wr w5 := K4.out.2.1.trans (hb5.mono (by omega))
      have hw5 := hb5.size
      have K5 := Hid.mk (And.intro (HI.out.1.trans (hbr5.mono hwr)) (And.intro (K.out.trans (hbr5.mono (by omega))) (And.intro (K4.out.1.below hb5) (K4.out.2.2.1.below hb5 (by omega)))))
      clear hb5 hbr5
      by_cases hz : zs.getD (k * c + col) 0 = 0
      · have HZ := Hid.mk hz
        have hd : decide (zs.getD (k * c + col) 0 = 0) = true := decide_eq_true hz
        rw [hd]
        clear hz hd
        go_wp2_with fail
        go_roundw
        case measure => simp [intOf]; omega
        case rel => exact ⟨k + 1, z, by omega, by omega, by go_num, rfl, Hid.mk ⟨K5.out.1, HI.out.2.skip HZ.out⟩⟩
      · have HZ := Hid.mk hz
        have hd : decide (zs.getD (k * c + col) 0 = 0) = false := decide_eq_false hz
        rw [hd]
        clear hz hd
        by_cases hz0 : z < 0
        · have hz1 : z = -1 := by rcases HI.out.2 with ⟨i, _, _, h, _⟩ | ⟨h, _⟩ <;> omega
          subst hz1
          clear hz0
          go_wp2_with fail
          go_quiet (fail)
          all_goals
            go_wp2_with fail
            go_roundw
            case measure => simp [intOf]; omega
            case rel => exact ⟨k + 1, k, by omega, by omega, by go_num, rfl, Hid.mk ⟨below_drewN K5.out.1 _, HI.out.2.first hk1 HZ.out⟩⟩
        · obtain ⟨i, rfl⟩ := Int.eq_ofNat_of_zero_le (show 0 ≤ z by omega)
          have hi1 : from_ ≤ i ∧ i < k := by rcases HI.out.2 with ⟨i', a, b, h, _⟩ | ⟨h, _⟩ <;> omega
          obtain ⟨hi1, hi2⟩ := hi1
          have hir : i < r := by omega
          have HC1 := Hid.mk (show ∀ w', Below w5.heap.size w5 w' → w'.cell? ⟨w.heap.size, 0, none⟩ = some (.int .i64 r) ∧ w'.cell? ⟨w.heap.size, 1, none⟩ = some (.int .i64 c) ∧ w'.cell? ⟨w.heap.size, 2, none⟩ = some (.slice ao N cap) ∧ w'.cell? ⟨w4.heap.size, 0, none⟩ = some (.bool nb) ∧ w'.cell? ⟨w4.heap.size, 1, none⟩ = some (.slice so n ecap) from
            fun w' hb => ⟨((F.out.1.later K5.out.1).later hb).1, ((F.out.1.later K5.out.1).later hb).2.1, ((F.out.1.later K5.out.1).later hb).2.2, cell_later hb K5.out.2.2.2.cells.1, cell_later hb K5.out.2.2.2.cells.2.1⟩)
          have hz2 : ¬ ((i : Int) < 0) := by omega
          obtain ⟨D, hD⟩ : ∃ D, D = decide ((zs.getD (k * c + col) 0).natAbs < (zs.getD (i * c + col) 0).natAbs) := ⟨_, rfl⟩
          have HD := Hid.mk hD
          clear hD
          go_wp2_with fail
          go_region_held3 (fun w' => w'.cell? ⟨w.heap.size, 0, none⟩ = some (.int .i64 r) ∧ w'.cell? ⟨w.heap.size, 1, none⟩ = some (.int .i64 c) ∧ w'.cell? ⟨w.heap.size, 2, none⟩ = some (.slice ao N cap) ∧ w'.cell? ⟨w4.heap.size, 0, none⟩ = some (.bool nb) ∧ w'.cell? ⟨w4.heap.size, 1, none⟩ = some (.slice so n ecap))
            (exact HC1.out _ (by first | exact hbW7 | exact hbW6 | exact (Below.refl _ _).drew))
            (first
              | (go_at_call 82; refine (at_in _ r c i col zs L _ (HM.out.below (K5.out.2.1.drew)) hir hcol).mono ?_; rintro e9 w6 ⟨x6, rfl, hx6, hb6⟩; obtain ⟨nb6, so6, n6, cp6, rfl⟩ := hx6.shape; have hbW6 : Below w5.heap.size w5 w6 := ((Below.refl _ _).drew).trans hb6; clear hb6)
              | (go_at_call 188; refine (isSmaller_any _ _ (zs.getD (k * c + col) 0) (zs.getD (i * c + col) 0) L L _ (K5.out.2.2.1.below hbW6) hx6).mono ?_; rintro e9 w7 ⟨rfl, hb7⟩; rw [← HD.out]; have hbW7 : Below w5.heap.size w5 w7 := hbW6.trans (hb7.mono hbW6.size); clear hb7))
          have hzf : decide ((i : Int) < 0) = false := decide_eq_false (by omega)
          simp only [hzf]
          have K7 := Hid.mk (K5.out.1.trans (hbW7.mono (by omega)))
          clear hbW7 hbW6 hx6
          cases hD : D
          case true =>
            have HL := Hid.mk (of_decide_eq_true (HD.out.symm.trans hD))
            clear hD HD
            go_wp2_with fail
            go_roundw
            case measure => simp [intOf]; omega
            case rel => exact ⟨k + 1, k, by omega, by omega, by go_num, rfl, Hid.mk ⟨K7.out, HI.out.2.less hk1 HZ.out HL.out⟩⟩
          case false =>
            have HL := Hid.mk (of_decide_eq_false (HD.out.symm.trans hD))
            clear hD HD
            go_wp2_with fail
            go_roundw
            case measure => simp [intOf]; omega
            case rel => exact ⟨k + 1, i, by omega, by omega, by go_num, rfl, Hid.mk ⟨K7.out, HI.out.2.more HL.out⟩⟩
    · have hki : ¬ (k : Int) < (r : Int) := by omega
      have hkk : k = r := by omega
      have HKK := Hid.mk hkk
      clear hkk
      go_wp2_with fail
      go_ret
      refine ⟨_, rfl, ?_, K.out⟩
      have h := HI.out.2
      rw [HKK.out] at h
      exact h
/-- The first column whose entry is not 0, or -1. -/
def PivIs (f : Nat → Int) (n : Nat) (z : Int) : Prop := (∃ i, i < n ∧ z = (i : Int) ∧ f i ≠ 0 ∧ ∀ k, k < i → f k = 0) ∨ (z = -1 ∧ ∀ k, k < n → f k = 0)
set_option maxRecDepth 100000 in
set_option maxHeartbeats 2000000 in
theorem pivotOf_any (v : Value) (r c row : Nat) (zs : List Int) (L : Nat) (w : World) (hm : IsM w v r c zs L) (hrow : row < r) :
    Calls Tryz.prog 81 #[v, .int .i64 row] w fun e w' => ∃ z : Int, e = .returned (.int .i64 z) ∧ PivIs (fun j => ent c zs row j) c z ∧ Below w.heap.size w w' := by
  have HM := Hid.mk hm
  obtain ⟨hr, hc, sl, rfl, hg0⟩ := hm
  obtain ⟨ao, cap, rfl, -⟩ := hg0.shape
  clear hg0
  obtain ⟨N, hN⟩ : ∃ N, N = r * c := ⟨_, rfl⟩
  rw [← hN] at HM ⊢
  clear hN
  go_enter Tryz.func81, Tryz.ntmps81
  go_wp2_with fail
  obtain ⟨W0, hW0⟩ : ∃ W0, W0 = w.alloc (.cells #[.int .i64 r, .int .i64 c, .slice ao N cap] 76) := ⟨_, rfl⟩
  have hb0 : Below w.heap.size w W0 := by rw [hW0]; exact (Below.refl _ _).alloc (Nat.le_refl _) _
  have hm0 : Trio W0 w.heap.size (.int .i64 r) (.int .i64 c) (.slice ao N cap) := by rw [hW0]; exact ⟨new_cell _ _ _ _ _ rfl rfl, new_cell _ _ _ _ _ rfl rfl, new_cell _ _ _ _ _ rfl rfl⟩
  have hz0 : W0.heap.size = w.heap.size + 1 := by rw [hW0]; simp
  rw [← hW0]
  have F := Hid.mk (And.intro hm0 hb0)
  clear hm0 hb0 hW0
  go_loopw [5] (fun i wr => ∃ k : Nat, k ≤ c ∧ i = .int .i64 k ∧ Hid (Below W0.heap.size W0 wr ∧ ∀ i, i < k → ent c zs row i = 0)) (fun i _ => c - (intOf i).toNat)
  case atStart => exact ⟨0, Nat.zero_le _, rfl, Hid.mk ⟨Below.refl _ _, fun i h2 => by omega⟩⟩
  case round =>
    obtain ⟨k, hk2, rfl, HI⟩ := hrel
    have hbw : Below w.heap.size w wr := F.out.2.trans (HI.out.1.mono (by omega))
    obtain ⟨q0, q1, q2⟩ := F.out.1.later HI.out.1
    have hwr := HI.out.1.size
    have K := Hid.mk hbw
    clear hbw
    by_cases hkr : k < c
    · have hki : (k : Int) < (c : Int) := by omega
      go_wp2_with fail
      refine (at_in _ r c row k zs L _ (HM.out.below K.out) hrow hkr).mono ?_
      rintro e w4 ⟨x, rfl, hx, hb4⟩
      obtain ⟨nb, so, n, ecap, rfl⟩ := hx.shape
      have K4 := Hid.mk (And.intro hx hb4)
      have hw4 := hb4.size
      clear hx hb4
      go_wp2_with fail
      refine (isZero_any _ (zs.getD (row * c + k) 0) L _ K4.out.1).mono ?_
      rintro e w5 ⟨rfl, hb5⟩
      have hbr5 : Below wr.heap.size wr w5 := K4.out.2.trans (hb5.mono hw4)
      have K5 := Hid.mk (And.intro (HI.out.1.trans (hbr5.mono hwr)) (K.out.trans (hbr5.mono (by omega))))
      clear hb5 hbr5
      by_cases hz : zs.getD (row * c + k) 0 = 0
      · have HZ := Hid.mk hz
        have hd : decide (zs.getD (row * c + k) 0 = 0) = true := decide_eq_true hz
        rw [hd]
        clear hz hd
        go_wp2_with fail
        go_roundw
        case measure => simp [intOf]; omega
        case rel =>
          refine ⟨k + 1, by omega, by go_num, Hid.mk ⟨K5.out.1, fun i h2 => ?_⟩⟩
          by_cases hik : i = k
          · rw [hik]; exact HZ.out
          · exact HI.out.2 i (by omega)
      · have HZ := Hid.mk hz
        have hd : decide (zs.getD (row * c + k) 0 = 0) = false := decide_eq_false hz
        rw [hd]
        clear hz hd
        go_wp2_with fail
        go_ret
        exact ⟨_, rfl, .inl ⟨k, hkr, rfl, HZ.out, HI.out.2⟩, K5.out.2⟩
    · have hki : ¬ (k : Int) < (c : Int) := by omega
      go_wp2_with fail
      go_ret
      exact ⟨_, rfl, .inr ⟨rfl, fun i h2 => HI.out.2 i (by omega)⟩, K.out⟩
end Go.Proofs.YtfjbijpagaipnaaGreatDoor

/- grid.RowForm: take, lessen. -/
namespace Go.Proofs.YtfjbijpagaipnaaGreatDoor
open Go.RowKit

/-- Row b is taken z times from row a. -/
def tkR (f : Nat → Nat → Int) (a b : Nat) (z : Int) (i j : Nat) : Int := if i = a then f a j - f b j * z else f i j
def tkC (f : Nat → Nat → Int) (a b : Nat) (z : Int) (i j : Nat) : Int := if j = b then f i b - f i a * (-z) else f i j
set_option maxRecDepth 100000 in
set_option maxHeartbeats 1000000 in
theorem ftake_any (B p gH gU gW r c k a b : Nat) (hs us ws : List Int) (L M : Nat) (x : Value) (z : Int) (w : World) (h : FormO w B p gH gU gW r c k hs us ws L) (hx : IsI w x z M) (hL : L ≤ 200000000) (hM : M ≤ 200000000) (ha : a < r) (hb : b < r) (hab : a ≠ b) :
    Calls Tryz.prog 191 #[.pointer (some ⟨p, 0, none⟩), .int .i64 a, .int .i64 b, x] w fun e w' => e = .returned (.tuple #[]) ∧ FormS w w' B p gH gU gW r c k (tkR (ent c hs) a b z) (tkR (ent r us) a b z) (tkC (ent r ws) a b z) (L + M + 1) := by
  have F := Hid.mk (And.intro h (And.intro (h.mono (show L ≤ L + M + 1 by omega)) hx))
  obtain ⟨nbx, sox, nx, cpx, rfl⟩ := hx.shape
  clear h hx
  go_enter Tryz.func191, Tryz.ntmps191
  go_wp2_with fail
  have hb0 := (Below.refl w.heap.size w).alloc (Nat.le_refl _) (.cells #[.bool nbx, .slice sox nx cpx] 94)
  have hD0 := Duo.new w (.bool nbx) (.slice sox nx cpx) rfl
  obtain ⟨W0, hW0⟩ : ∃ W0, W0 = w.alloc (.cells #[.bool nbx, .slice sox nx cpx] 94) := ⟨_, rfl⟩
  rw [← hW0] at hb0 hD0 ⊢
  have hs0 : W0.heap.size = w.heap.size + 1 := by rw [hW0]; simp
  have hBw := F.out.1.ble
  have G := Hid.mk (And.intro (F.out.1.later hb0) (And.intro (F.out.2.1.later hb0) (And.intro (F.out.2.2.below hb0) (And.intro hD0 hb0))))
  clear hb0 hD0 hW0
  have hgl := F.out.1.H.glt
  have hgu := F.out.1.U.glt
  have hgw := F.out.1.W.glt
  have HC := Hid.mk G.out.2.2.2.1.cells
  have hbd : Below W0.heap.size W0 W0.drew := (Below.refl _ _).drew
  go_region_held3 (fun w' => w'.cell? ⟨w.heap.size, 0, none⟩ = some (.bool nbx) ∧ w'.cell? ⟨w.heap.size, 1, none⟩ = some (.slice sox nx cpx))
    (first | exact hS1 | exact ⟨HC.out.1, HC.out.2.1⟩)
    (first | (go_at_call 84; refine (takeRow_any p 0 gH r c a b hs L M _ z _ (G.out.1.H.later hbd) (G.out.2.2.1.below hbd) hL hM F.out.1.d1 ha hb hab).mono ?_; rintro e w1 ⟨rfl, ⟨hs1, hM1, hf1⟩, hg1⟩; have hD1 : Duo w1 w.heap.size (.bool nbx) (.slice sox nx cpx) := (hg1.block _ (show w.heap.size < W0.heap.size by omega) (fun e => by injection e with e; omega)).trans G.out.2.2.2.1; have hS1 := And.intro hD1.cells.1 hD1.cells.2.1))
  obtain ⟨F1, b1⟩ := (G.out.2.1.later hbd).setH hM1 hg1
  have hk1 : KU W0.drew w1 := KU.of_grown hg1 (G.out.1.H.later hbd).grid.ty (by decide)
  have hU0 : MatO w1 p 3 gU r r us L := (G.out.1.U.later hbd).other hg1 hk1 F.out.1.d1 (fun e => F.out.1.d4 e.symm)
  have hW0 : MatO w1 p 6 gW r r ws L := (G.out.1.W.later hbd).other hg1 hk1 F.out.1.d1 (fun e => F.out.1.d5 e.symm)
  have hs1s : W0.heap.size ≤ w1.heap.size := hg1.size
  have K1 := Hid.mk (And.intro F1 (And.intro b1 (And.intro hf1 (And.intro ((G.out.2.2.1.below hbd).keep hk1) (And.intro hU0 (And.intro hW0 hD1))))))
  have hbd1 : Below w1.heap.size w1 w1.drew := (Below.refl _ _).drew
  clear hM1 hf1 hg1 F1 b1 hk1 hD1 hU0 hW0 hS1
  go_wp2_with fail
  go_region_held3 (fun w' => w'.cell? ⟨w.heap.size, 0, none⟩ = some (.bool nbx) ∧ w'.cell? ⟨w.heap.size, 1, none⟩ = some (.slice sox nx cpx))
    (first | exact hS2 | exact ⟨K1.out.2.2.2.2.2.2.cells.1, K1.out.2.2.2.2.2.2.cells.2.1⟩)
    (first | (go_at_call 84; refine (takeRow_any p 3 gU r r a b us L M _ z _ (K1.out.2.2.2.2.1.later hbd1) (K1.out.2.2.2.1.below hbd1) hL hM F.out.1.d2 ha hb hab).mono ?_; rintro e w2 ⟨rfl, ⟨us1, hM2, hf2⟩, hg2⟩; have hD2 : Duo w2 w.heap.size (.bool nbx) (.slice sox nx cpx) := (hg2.block _ (show w.heap.size < w1.heap.size by omega) (fun e => by injection e with e; omega)).trans K1.out.2.2.2.2.2.2; have hS2 := And.intro hD2.cells.1 hD2.cells.2.1))
  obtain ⟨F2, b2⟩ := (K1.out.1.later hbd1).setU hM2 hg2
  have hk2 : KU w1.drew w2 := KU.of_grown hg2 (K1.out.1.later hbd1).U.grid.ty (by decide)
  have hW0 : MatO w2 p 6 gW r r ws L := (K1.out.2.2.2.2.2.1.later hbd1).other hg2 hk2 F.out.1.d2 (fun e => F.out.1.d6 e.symm)
  obtain ⟨x0, x1⟩ := hS2
  have hs2s : w1.heap.size ≤ w2.heap.size := hg2.size
  have hbB2 : Chg3 W0 w2 gH gU gW := ((Chg3.of_below _ _ _ hbd).trans K1.out.2.1).trans ((Chg3.of_below _ _ _ hbd1).trans b2)
  have K2 := Hid.mk (And.intro F2 (And.intro hbB2 (And.intro hf2 (And.intro ((K1.out.2.2.2.1.below hbd1).keep hk2) hW0))))
  clear hM2 hf2 hg2 F2 b2 hk2 hD2 hW0 hbB2
  go_wp2_with fail
  refine (neg_any _ z M _ K2.out.2.2.2.1).mono ?_
  rintro e w3 ⟨x3, rfl, hx3, hb3⟩
  obtain ⟨nb3, so3, n3, cp3, rfl⟩ := hx3.shape
  have hb33 := (Below.refl w3.heap.size w3).alloc (Nat.le_refl _) (.cells #[.bool nb3, .slice so3 n3 cp3] 94)
  have hb3' := hb3.trans (hb33.mono hb3.size)
  have hD3 := Duo.new w3 (.bool nb3) (.slice so3 n3 cp3) rfl
  obtain ⟨W3, hW3⟩ : ∃ W3, W3 = w3.alloc (.cells #[.bool nb3, .slice so3 n3 cp3] 94) := ⟨_, rfl⟩
  have hs3 : W3.heap.size = w3.heap.size + 1 := by rw [hW3]; simp
  rw [← hW3] at hb33 hb3' hD3
  have hw3s : w2.heap.size ≤ w3.heap.size := hb3.size
  have K3 := Hid.mk (And.intro (hx3.below hb33) (And.intro (K2.out.1.later hb3') (And.intro (K2.out.2.1.trans (Chg3.of_below _ _ _ hb3')) (And.intro (K2.out.2.2.2.2.later hb3') (And.intro hD3 hW3)))))
  have hbd3 : Below W3.heap.size W3 W3.drew := (Below.refl _ _).drew
  clear hx3 hb3 hb33 hb3' x0 x1 hD3 hW3
  go_wp2_with fail
  rw [← K3.out.2.2.2.2.2]
  go_region_held3 (fun w' => w'.cell? ⟨w3.heap.size, 0, none⟩ = some (.bool nb3) ∧ w'.cell? ⟨w3.heap.size, 1, none⟩ = some (.slice so3 n3 cp3))
    (first | exact hS4 | exact ⟨K3.out.2.2.2.2.1.cells.1, K3.out.2.2.2.2.1.cells.2.1⟩)
    (first | (go_at_call 154; refine (takeCol_any p 6 gW r r b a ws L M _ (-z) _ (K3.out.2.2.2.1.later hbd3) (K3.out.1.below hbd3) hL hM F.out.1.d3 hb ha (fun e => hab e.symm)).mono ?_; rintro e w4 ⟨rfl, ⟨ws1, hM4, hf4⟩, hg4⟩; have hD4 : Duo w4 w3.heap.size (.bool nb3) (.slice so3 n3 cp3) := (hg4.block _ (show w3.heap.size < W3.heap.size by omega) (fun e => by injection e with e; omega)).trans K3.out.2.2.2.2.1; have hS4 := And.intro hD4.cells.1 hD4.cells.2.1))
  obtain ⟨F4, b4⟩ := (K3.out.2.1.later hbd3).setW hM4 hg4
  have K4 := Hid.mk (And.intro F4 (And.intro (((Chg3.of_below _ _ _ G.out.2.2.2.2).trans K3.out.2.2.1).trans ((Chg3.of_below _ _ _ hbd3).trans b4)) hf4))
  clear hM4 hf4 hg4 F4 b4 hS4 hD4
  go_wp2_with fail
  go_end0
  exact ⟨rfl, hs1, us1, ws1, K4.out.1, K4.out.2.1, K1.out.2.2.1, K2.out.2.2.1, K4.out.2.2⟩
end Go.Proofs.YtfjbijpagaipnaaGreatDoor
