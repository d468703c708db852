import Derived.Test.YtfjbijpagaipnaaGreatDoorC29
namespace Go.Proofs.YtfjbijpagaipnaaGreatDoor
def rem (x y : Int) : Int := x - y * x.fdiv y
theorem rem_pos (x : Int) {y : Int} (h : 0 < y) : 0 ≤ rem x y ∧ rem x y < y := by
 have h1 := Int.fdiv_eq_ediv_of_nonneg x (show 0 ≤ y by omega)
 have h2 := Int.emod_add_mul_ediv x y
 have h3 := Int.emod_nonneg x (show y ≠ 0 by omega)
 have h4 := Int.emod_lt_of_pos x h
 unfold rem
 rw [h1]
 generalize y * (x / y) = yq at *
 omega
theorem rem_opp (x y : Int) : rem x y = -rem (-x) (-y) := by
 unfold rem
 rw [Int.neg_fdiv_neg, Int.neg_mul]
 omega
theorem rem_neg (x : Int) {y : Int} (h : y < 0) : y < rem x y ∧ rem x y ≤ 0 := by
 have := rem_pos (-x) (show 0 < -y by omega)
 rw [rem_opp]
 omega
theorem rem_lt (x : Int) {y : Int} (h : y ≠ 0) : (rem x y).natAbs < y.natAbs := by
 rcases Int.lt_or_gt_of_ne h with h | h
 ·have := rem_neg x h; omega
 ·have := rem_pos x h; omega
theorem rem_dvd {x y : Int} (hy : y ≠ 0) (h : y ∣ x) : rem x y = 0 := by
 obtain ⟨k, rfl⟩ := h
 have := rem_lt (y * k) hy
 unfold rem at *
 rw [show y * k - y * (y * k).fdiv y = y * (k - (y * k).fdiv y) from by grind] at this ⊢
 rw [Int.natAbs_mul] at this
 generalize k - (y * k).fdiv y = m at *
 rcases Nat.eq_zero_or_pos m.natAbs with h0 | h0
 ·have : m = 0 := by omega
  rw [this]; simp
 ·have := Nat.mul_le_mul_left y.natAbs h0
  omega
theorem rem_sign {σ x y : Int} (hσ : σ = 1 ∨ σ = -1) (hx : 0 ≤ σ * x) (hy : 0 ≤ σ * y) (hy0 : y ≠ 0) : 0 ≤ σ * rem x y ∧ (x.fdiv y).natAbs = x.natAbs / y.natAbs ∧ (rem x y).natAbs = x.natAbs % y.natAbs := by
 have hs : (x < 0 ∧ y < 0) ∨ (¬ x < 0 ∧ ¬ y < 0) ∨ x = 0 := by rcases hσ with rfl | rfl <;> omega
 by_cases hx0 : x = 0
 ·subst hx0
  unfold rem
  simp
 ·have hs2 : (x < 0 ∧ y < 0) ∨ (¬ x < 0 ∧ ¬ y < 0) := by omega
  have e1 := fdiv_same hs2
  have e2 : (x.fdiv y).natAbs = x.natAbs / y.natAbs := by rw [e1, Int.natAbs_natCast]
  have hd := Nat.div_add_mod x.natAbs y.natAbs
  have e3 : σ * rem x y = ((x.natAbs % y.natAbs : Nat) : Int) := by
   unfold rem
   rw [e1]
   generalize x.natAbs / y.natAbs = q at *
   generalize x.natAbs % y.natAbs = m at *
   have h1 : (x.natAbs : Int) = (y.natAbs : Int) * (q : Int) + (m : Int) := by exact_mod_cast hd.symm
   have h2 : (x.natAbs : Int) = σ * x := by rcases hσ with rfl | rfl <;> omega
   have h3 : (y.natAbs : Int) = σ * y := by rcases hσ with rfl | rfl <;> omega
   rw [h2, h3] at h1
   rw [Int.mul_sub, h1]
   grind
  refine ⟨by omega, e2, ?_⟩
  rcases hσ with rfl | rfl <;> omega
structure GaPost (H0 U0 : Nat → Nat → Int) (r c t col : Nat) (H U W : Nat → Nat → Int) (KH KU KW : Nat) (z : Int) : Prop where
 ne : H t col ≠ 0
 sg : ∃ σ : Int, (σ = 1 ∨ σ = -1) ∧ ∀ i, t ≤ i → i < r → 0 ≤ σ * H i col
 lt : ∀ i, t < i → i < r → (H i col).natAbs < (H t col).natAbs
 least : LeastIs (fun i => H i col) (t + 1) r z
 bd : (∃ i0 : Nat, z = (i0 : Int) ∧ Bd H U W r c t (((H t col).natAbs * (H i0 col).natAbs) ^ 4) KH KU KW) ∨ (z < 0 ∧ Bd H U W r c t 1 KH KU KW)
 keepH : ∀ i j, i < t → j < c → H i j = H0 i j
 keepU : ∀ i j, i < t → j < r → U i j = U0 i j
 zero : ∀ j, j < c → (∀ i, t ≤ i → i < r → H0 i j = 0) → ∀ i, t ≤ i → i < r → H i j = 0
 keep : H0 t col ≠ 0 → (∀ i, t < i → i < r → H0 t col ∣ H0 i col) → (∀ j, j < c → H t j = H0 t j) ∧ ∀ i, t < i → i < r → H i col = 0
theorem Bd.one {H U W : Nat → Nat → Int} {r c t D KH KU KW : Nat} (h : Bd H U W r c t D KH KU KW) (hD : 0 < D) : Bd H U W r c t 1 KH KU KW := by
 have key : ∀ x K : Nat, x * D ≤ K → x * 1 ≤ K := fun x K h => by
  have := Nat.mul_le_mul_left x hD
  omega
 exact ⟨fun i j a b d => key _ _ (h.h i j a b d), fun i j a b d => key _ _ (h.u i j a b d), fun i j a b => key _ _ (h.w i j a b)⟩
theorem GaPost.bd1 {H0 U0 : Nat → Nat → Int} {r c t col : Nat} {H U W : Nat → Nat → Int} {KH KU KW : Nat} {z : Int} (h : GaPost H0 U0 r c t col H U W KH KU KW z) : Bd H U W r c t 1 KH KU KW := by
 rcases h.bd with ⟨i0, hz, hb⟩ | ⟨-, hb⟩
 ·refine hb.one (Nat.pow_pos (Nat.mul_pos (by have := h.ne; omega) ?_))
  rcases h.least with ⟨i, h1, h2, h3, h4, -⟩ | ⟨h1, -⟩
  ·have : i = i0 := by omega
   subst this
   have h5 : H i col ≠ 0 := h4
   omega
  ·omega
 ·exact hb
theorem rdH_top (F H : Nat → Nat → Int) (r t i0 col j : Nat) : rdH F H r t i0 col t j = F i0 j := by
 unfold rdH lsH
 rw [if_neg (by omega)]
 show F (swq t i0 t) j = _
 rw [swq_t]
theorem rdH_low (F H : Nat → Nat → Int) {r t i0 col i : Nat} (j : Nat) (h0 : t ≤ i0) (hi : i < t) : rdH F H r t i0 col i j = F i j := by
 unfold rdH lsH
 rw [if_neg (by omega)]
 show F (swq t i0 i) j = _
 rw [swq_low h0 hi]
theorem rdH_below (F H : Nat → Nat → Int) {r t i0 col i : Nat} (j : Nat) (h0 : t < i) (hi : i < r) : rdH F H r t i0 col i j = F (swq t i0 i) j - F i0 j * rq H t i0 col i := by
 unfold rdH lsH
 rw [if_pos (by omega)]
 show F (swq t i0 i) j - F (swq t i0 t) j * _ = _
 rw [swq_t]
theorem rdH_col (H : Nat → Nat → Int) {r t i0 col i : Nat} (h0 : t < i) (hi : i < r) : rdH H H r t i0 col i col = rem (H (swq t i0 i) col) (H i0 col) := by
 rw [rdH_below H H col h0 hi]
 unfold rem rq
 rw [swq_t]
theorem rd_zero {H F : Nat → Nat → Int} {r t i0 col j : Nat} (h0 : t ≤ i0) (hi0 : i0 < r) (hz : ∀ i, t ≤ i → i < r → F i j = 0) (i : Nat) (hi : t ≤ i) (hir : i < r) : rdH F H r t i0 col i j = 0 := by
 obtain ⟨s1, s2⟩ := swq_ge h0 hi0 hi hir
 by_cases hit : i = t
 ·subst hit; rw [rdH_top]; exact hz i0 h0 hi0
 ·rw [rdH_below F H j (by omega) hir, hz _ s1 s2, hz _ h0 hi0]; simp
theorem GaPost.first {H U W : Nat → Nat → Int} {r c t col i0 X MH MU MW KH KU KW : Nat} {z' : Int} (hr : r ≤ 8) (hl : LeastIs (fun i => H i col) t r i0) (hX : ∀ i, t ≤ i → i < r → (H i col).natAbs ≤ X) (hM : Bd H U W r c t 1 MH MU MW)
 (k1 : MH ≤ KH) (k2 : MU ≤ KU) (k3 : MW ≤ KW) (k4 : t + 1 < r → MH * ((1 + 7 * X) * X ^ 8) ≤ KH ∧ MU * ((1 + 7 * X) * X ^ 8) ≤ KU ∧ MW * ((1 + 7 * X) * X ^ 8) ≤ KW)
 (hl' : LeastIs (fun i => rdH H H r t i0 col i col) (t + 1) r z') : GaPost H U r c t col (rdH H H r t i0 col) (rdH U H r t i0 col) (rdW W H r t i0 col) KH KU KW z' := by
 obtain ⟨i, h1, h2, h3, h4, h5, h6⟩ : ∃ i, t ≤ i ∧ i < r ∧ (i0 : Int) = (i : Int) ∧ H i col ≠ 0 ∧ (∀ k, t ≤ k → k < r → H k col ≠ 0 → (H i col).natAbs ≤ (H k col).natAbs) ∧ ∀ k, t ≤ k → k < i → H k col ≠ 0 → (H i col).natAbs < (H k col).natAbs := by
  rcases hl with h | ⟨h, -⟩
  ·exact h
  ·omega
 obtain rfl : i = i0 := by omega
 have hX1 : 1 ≤ X := by have := hX i h1 h2; omega
 have hlt : ∀ k, t < k → k < r → (rdH H H r t i col k col).natAbs < (H i col).natAbs := fun k a b => by rw [rdH_col H a b]; exact rem_lt _ h4
 have hq : ∀ k, t < k → k < r → (rq H t i col k).natAbs ≤ X := fun k a b => by
  obtain ⟨s1, s2⟩ := swq_ge h1 h2 (Nat.le_of_lt a) b
  exact Nat.le_trans (fdiv_le _ _) (hX _ s1 s2)
 refine ⟨by rw [rdH_top]; exact h4, ?_, fun k a b => by rw [rdH_top]; exact hlt k a b, hl', ?_, fun k j a _ => rdH_low _ _ j h1 a, fun k j a _ => rdH_low _ _ j h1 a, fun j _ hz => rd_zero h1 h2 hz, fun hne hdv => ?_⟩
 ·rcases Int.lt_or_gt_of_ne h4 with hs | hs
  ·refine ⟨-1, .inr rfl, fun k a b => ?_⟩
   by_cases hk : k = t
   ·subst hk; rw [rdH_top]; omega
   ·rw [rdH_col H (by omega) b]; have := rem_neg (H (swq t i k) col) hs; omega
  ·refine ⟨1, .inl rfl, fun k a b => ?_⟩
   by_cases hk : k = t
   ·subst hk; rw [rdH_top]; omega
   ·rw [rdH_col H (by omega) b]; have := rem_pos (H (swq t i k) col) hs; omega
 ·by_cases htr : t + 1 < r
  ·obtain ⟨e1, e2, e3⟩ := k4 htr
   have key : ∀ x M K : Nat, x * 1 ≤ M → M * ((1 + 7 * X) * X ^ 8) ≤ K → x * ((1 + 7 * X) * X ^ 8) ≤ K := fun x M K a b => Nat.le_trans (Nat.mul_le_mul_right _ (by omega)) b
   have hB : Bd H U W r c t ((1 + 7 * X) * X ^ 8) KH KU KW := ⟨fun a b d e f => key _ _ _ (hM.h a b d e f) e1, fun a b d e f => key _ _ _ (hM.u a b d e f) e2, fun a b d e => key _ _ _ (hM.w a b d e) e3⟩
   have hX8 : 0 < X ^ 8 := Nat.pow_pos (by omega)
   have hD : 0 < (1 + 7 * X) * X ^ 8 := Nat.mul_pos (by omega) hX8
   rcases hl' with ⟨i1, a1, a2, a3, a4, -⟩ | ⟨a1, -⟩
   ·refine .inl ⟨i1, a3, hB.round hr h1 h2 hD hq ?_⟩
    rw [rdH_top]
    have b1 := hX i h1 h2
    have b2 := hlt i1 (by omega) a2
    refine Nat.mul_le_mul_left _ ?_
    have b3 : (H i col).natAbs * (rdH H H r t i col i1 col).natAbs ≤ X * X := Nat.mul_le_mul b1 (by omega)
    have b4 := pow4_le b3
    rw [show X ^ 8 = (X * X) ^ 4 from by rw [pow4_mul, ← Nat.pow_add]]
    exact b4
   ·exact .inr ⟨by omega, hB.round hr h1 h2 hD hq (Nat.mul_le_mul_left _ hX8)⟩
  ·have hB : Bd H U W r c t 1 KH KU KW := ⟨fun a b d e f => Nat.le_trans (hM.h a b d e f) k1, fun a b d e f => Nat.le_trans (hM.u a b d e f) k2, fun a b d e => Nat.le_trans (hM.w a b d e) k3⟩
   refine .inr ⟨?_, hB.round (Q := 0) hr h1 h2 (by omega) (fun k a b => by omega) (by omega)⟩
   rcases hl' with ⟨i1, a1, a2, -⟩ | ⟨a1, -⟩ <;> omega
 ·have hit : i = t := by
   rcases Nat.lt_or_ge t i with h | h
   ·have e1 := h6 t (Nat.le_refl _) h hne
    obtain ⟨m, hm⟩ := hdv i h h2
    have e2 : (H i col).natAbs = (H t col).natAbs * m.natAbs := by rw [hm, Int.natAbs_mul]
    have e3 : 1 ≤ m.natAbs := by
     rcases Nat.eq_zero_or_pos m.natAbs with h0 | h0
     ·rw [h0, Nat.mul_zero] at e2; omega
     ·exact h0
    have e4 := Nat.mul_le_mul_left (H t col).natAbs e3
    omega
   ·omega
  subst hit
  refine ⟨fun j _ => by rw [rdH_top], fun k a b => ?_⟩
  rw [rdH_col H a b]
  have hsw : swq i i k = k := by unfold swq; split <;> (try split) <;> omega
  rw [hsw]
  exact rem_dvd h4 (hdv k a b)
theorem GaPost.next {H0 U0 H U W : Nat → Nat → Int} {r c t col i0 KH KU KW : Nat} {z' : Int} (h : GaPost H0 U0 r c t col H U W KH KU KW i0) (hr : r ≤ 8)
 (hl' : LeastIs (fun i => rdH H H r t i0 col i col) (t + 1) r z') : GaPost H0 U0 r c t col (rdH H H r t i0 col) (rdH U H r t i0 col) (rdW W H r t i0 col) KH KU KW z' := by
 obtain ⟨i, h1, h2, h3, h4⟩ : ∃ i, t + 1 ≤ i ∧ i < r ∧ (i0 : Int) = (i : Int) ∧ H i col ≠ 0 := by
  rcases h.least with ⟨i, a, b, d, e, -⟩ | ⟨a, -⟩
  ·exact ⟨i, a, b, d, e⟩
  ·omega
 obtain rfl : i = i0 := by omega
 obtain ⟨σ, hσ, hs⟩ := h.sg
 have hti : t ≤ i := by omega
 have hlt : ∀ k, t < k → k < r → (rdH H H r t i col k col).natAbs < (H i col).natAbs := fun k a b => by rw [rdH_col H a b]; exact rem_lt _ h4
 have hx : ∀ k, t < k → k < r → (H (swq t i k) col).natAbs ≤ (H t col).natAbs := fun k a b => by
  by_cases hk : swq t i k = t
  ·rw [hk]; exact Nat.le_refl _
  ·obtain ⟨s1, s2⟩ := swq_ge hti h2 (Nat.le_of_lt a) b
   exact Nat.le_of_lt (h.lt _ (by omega) s2)
 have hrs : ∀ k, t < k → k < r → 0 ≤ σ * rem (H (swq t i k) col) (H i col) ∧ (rq H t i col k).natAbs = (H (swq t i k) col).natAbs / (H i col).natAbs ∧ (rem (H (swq t i k) col) (H i col)).natAbs = (H (swq t i k) col).natAbs % (H i col).natAbs := fun k a b => by
  obtain ⟨s1, s2⟩ := swq_ge hti h2 (Nat.le_of_lt a) b
  have := rem_sign hσ (hs _ s1 s2) (hs i hti h2) h4
  unfold rq
  rw [swq_t]
  exact this
 have hq : ∀ k, t < k → k < r → (rq H t i col k).natAbs ≤ (H t col).natAbs / (H i col).natAbs := fun k a b => by
  rw [(hrs k a b).2.1]
  exact Nat.div_le_div_right (hx k a b)
 have hba := h.lt i (by omega) h2
 have hb0 : 0 < (H i col).natAbs := by omega
 refine ⟨by rw [rdH_top]; exact h4, ⟨σ, hσ, fun k a b => ?_⟩, fun k a b => by rw [rdH_top]; exact hlt k a b, hl', ?_, fun k j a b => by rw [rdH_low _ _ j hti a]; exact h.keepH k j a b, fun k j a b => by rw [rdH_low _ _ j hti a]; exact h.keepU k j a b, fun j hj hz => rd_zero hti h2 (h.zero j hj hz), fun hne hdv => ?_⟩
 ·by_cases hk : k = t
  ·subst hk; rw [rdH_top]; exact hs i hti h2
  ·rw [rdH_col H (by omega) b]; exact (hrs k (by omega) b).1
 ·obtain ⟨i', hi', hB⟩ : ∃ i' : Nat, (i : Int) = (i' : Int) ∧ Bd H U W r c t (((H t col).natAbs * (H i' col).natAbs) ^ 4) KH KU KW := by
   rcases h.bd with hb | ⟨hb, -⟩
   ·exact hb
   ·omega
  obtain rfl : i = i' := by omega
  have hD : 0 < ((H t col).natAbs * (H i col).natAbs) ^ 4 := Nat.pow_pos (Nat.mul_pos (by omega) hb0)
  rcases hl' with ⟨i1, a1, a2, a3, a4, a5, -⟩ | ⟨a1, -⟩
  ·refine .inl ⟨i1, a3, hB.round hr hti h2 hD hq ?_⟩
   rw [rdH_top]
   have b2 := hlt i1 (by omega) a2
   have e := euclid4 (d := (rdH H H r t i col i1 col).natAbs) hba hb0 b2 (fun hm => by
    have c1 := hrs i (by omega) h2
    have c2 : swq t i i = t := by unfold swq; rw [if_neg (by omega), if_pos rfl]
    rw [c2] at c1
    have c3 : rdH H H r t i col i col = rem (H t col) (H i col) := by rw [rdH_col H (by omega) h2, c2]
    have c4 := a5 i (by omega) h2 (by show rdH H H r t i col i col ≠ 0; rw [c3]; omega)
    have c5 : (rdH H H r t i col i1 col).natAbs ≤ (rdH H H r t i col i col).natAbs := c4
    rw [c3, c1.2.2] at c5
    exact c5)
   rw [pow4_mul, pow4_mul]
   have e2 := Nat.mul_le_mul_right ((H i col).natAbs ^ 4) e
   have e3 : (1 + 7 * ((H t col).natAbs / (H i col).natAbs)) * ((H i col).natAbs ^ 4 * (rdH H H r t i col i1 col).natAbs ^ 4) = (1 + 7 * ((H t col).natAbs / (H i col).natAbs)) * (rdH H H r t i col i1 col).natAbs ^ 4 * (H i col).natAbs ^ 4 := by
    rw [Nat.mul_assoc, Nat.mul_comm ((H i col).natAbs ^ 4)]
   rw [e3]
   exact e2
  ·refine .inr ⟨by omega, hB.round hr hti h2 hD hq ?_⟩
   have e1 : (H t col).natAbs / (H i col).natAbs ≤ (H t col).natAbs := Nat.div_le_self _ _
   have e2 := cube8 (show 2 ≤ (H t col).natAbs by omega)
   have e3 : (H t col).natAbs ^ 4 * 1 ≤ (H t col).natAbs ^ 4 * (H i col).natAbs ^ 4 := Nat.mul_le_mul_left _ (Nat.pow_pos hb0)
   rw [pow4_mul]
   omega
 ·exact absurd ((h.keep hne hdv).2 i (by omega) h2) h4
theorem LeastIs.congr {f g : Nat → Int} {a n : Nat} {z : Int} (h : LeastIs f a n z) (e : ∀ k, a ≤ k → k < n → g k = f k) : LeastIs g a n z := by
 rcases h with ⟨i, h1, h2, h3, h4, h5, h6⟩ | ⟨h1, h2⟩
 ·refine .inl ⟨i, h1, h2, h3, by rw [e i h1 h2]; exact h4, fun k x y z => ?_, fun k x y z => ?_⟩
  ·rw [e i h1 h2, e k x y]; exact h5 k x y (by rw [← e k x y]; exact z)
  ·rw [e i h1 h2, e k x (by omega)]; exact h6 k x y (by rw [← e k x (by omega)]; exact z)
 ·exact .inr ⟨h1, fun k x y => by rw [e k x y]; exact h2 k x y⟩
theorem Bd.congr {H U W H' U' W' : Nat → Nat → Int} {r c t D KH KU KW : Nat} (h : Bd H U W r c t D KH KU KW) (e1 : ∀ i j, i < r → j < c → H' i j = H i j) (e2 : ∀ i j, i < r → j < r → U' i j = U i j) (e3 : ∀ i j, i < r → j < r → W' i j = W i j) : Bd H' U' W' r c t D KH KU KW :=
 ⟨fun i j a b d => by rw [e1 i j b d]; exact h.h i j a b d, fun i j a b d => by rw [e2 i j b d]; exact h.u i j a b d, fun i j a b => by rw [e3 i j a b]; exact h.w i j a b⟩
theorem GaPost.congr {H0 U0 : Nat → Nat → Int} {r c t col : Nat} {H U W H' U' W' : Nat → Nat → Int} {KH KU KW : Nat} {z : Int} (h : GaPost H0 U0 r c t col H U W KH KU KW z) (ht : t < r) (hc : col < c) (e1 : ∀ i j, i < r → j < c → H' i j = H i j) (e2 : ∀ i j, i < r → j < r → U' i j = U i j) (e3 : ∀ i j, i < r → j < r → W' i j = W i j) : GaPost H0 U0 r c t col H' U' W' KH KU KW z := by
 have et := e1 t col ht hc
 refine ⟨by rw [et]; exact h.ne, ?_, fun i a b => by rw [e1 i col b hc, et]; exact h.lt i a b, h.least.congr (fun k _ b => e1 k col b hc), ?_, fun i j a b => by rw [e1 i j (by omega) b]; exact h.keepH i j a b, fun i j a b => by rw [e2 i j (by omega) b]; exact h.keepU i j a b, fun j hj hz i a b => by rw [e1 i j b hj]; exact h.zero j hj hz i a b, fun hne hdv => ?_⟩
 ·obtain ⟨σ, h1, h2⟩ := h.sg
  exact ⟨σ, h1, fun i a b => by rw [e1 i col b hc]; exact h2 i a b⟩
 ·rcases h.bd with ⟨i0, h1, h2⟩ | ⟨h1, h2⟩
  ·refine .inl ⟨i0, h1, ?_⟩
   have hi0 : i0 < r := by rcases h.least with ⟨i, a, b, d, _⟩ | ⟨a, _⟩ <;> omega
   rw [et, e1 i0 col hi0 hc]
   exact h2.congr e1 e2 e3
  ·exact .inr ⟨h1, h2.congr e1 e2 e3⟩
 ·obtain ⟨h1, h2⟩ := h.keep hne hdv
  exact ⟨fun j hj => by rw [e1 t j ht hj]; exact h1 j hj, fun i a b => by rw [e1 i col b hc]; exact h2 i a b⟩
theorem EInv.lessen {A H U W : Nat → Nat → Int} {r c : Nat} (h : EInv A H U W r c) (q : Nat → Int) {first p : Nat} (hp : p < r) : ∀ e, first ≤ e → e ≤ r → ¬ (first ≤ p ∧ p < e) → EInv A (lsH H q first e p) (lsH U q first e p) (lsW W q first e p) r c := by
 intro e
 induction e with
 | zero =>
   intro h1 _ _
   refine h.congr (fun i j _ _ => rfl) (fun i j _ _ => ?_) (fun i j _ _ => ?_) (fun i j _ _ => ?_)
   ·unfold lsH; rw [if_neg (by omega)]
   ·unfold lsH; rw [if_neg (by omega)]
   ·unfold lsW; split
    ·rename_i hj; rw [hj, wsum]; omega
    ·rfl
 | succ e ih =>
   intro h1 h2 h3
   by_cases he : first ≤ e
   ·have h4 := (ih he (by omega) (by omega)).take (q e) (show e < r by omega) hp (show e ≠ p by omega)
    refine h4.congr (fun i j _ _ => rfl) (fun i j _ _ => ?_) (fun i j _ _ => ?_) (fun i j _ _ => ?_)
    ·rw [← lsH_step he h3 i j]; rfl
    ·rw [← lsH_step he h3 i j]; rfl
    ·rw [← lsW_step he (by omega) i j]; rfl
   ·have hw : ∀ f : Nat → Int, wsum first q f (e + 1) = 0 := fun f => by
     have := wsum_le (first := first) (q := q) (f := f) (Q := 0) (X := 0) (e + 1) (fun k _ _ => by omega) (fun k _ _ => by omega)
     omega
    refine h.congr (fun i j _ _ => rfl) (fun i j _ _ => ?_) (fun i j _ _ => ?_) (fun i j _ _ => ?_)
    ·unfold lsH; rw [if_neg (by omega)]
    ·unfold lsH; rw [if_neg (by omega)]
    ·unfold lsW; split
     ·rename_i hj; rw [hj, hw]; omega
     ·rfl
structure GaEnd (H0 U0 : Nat → Nat → Int) (r c t col : Nat) (H U W : Nat → Nat → Int) (KH KU KW : Nat) : Prop where
 pos : 0 < H t col
 below : ∀ i, t < i → i < r → H i col = 0
 above : ∀ i, i < t → 0 ≤ H i col ∧ H i col < H t col
 topH : ∀ i j, i < t → j < c → H i j = H0 i j - H t j * (H0 i col).fdiv (H t col)
 topU : ∀ i j, i < t → j < r → U i j = U0 i j - U t j * (H0 i col).fdiv (H t col)
 zero : ∀ j, j < c → (∀ i, t ≤ i → i < r → H0 i j = 0) → ∀ i, t ≤ i → i < r → H i j = 0
 keep : H0 t col ≠ 0 → (∀ i, t < i → i < r → H0 t col ∣ H0 i col) → ∃ σ : Int, (σ = 1 ∨ σ = -1) ∧ ∀ j, j < c → H t j = σ * H0 t j
 bdH : ∀ i j, t ≤ i → i < r → j < c → (H i j).natAbs ≤ KH
 bdU : ∀ i j, t ≤ i → i < r → j < r → (U i j).natAbs ≤ KU
 bdW : ∀ Y, (∀ i, i < t → (H0 i col).natAbs ≤ Y) → ∀ i j, i < r → j < r → (W i j).natAbs ≤ KW + 8 * (Y * KW)
theorem GaPost.ends {H0 U0 : Nat → Nat → Int} {r c t col : Nat} {H U W H1 U1 W1 H2 U2 W2 : Nat → Nat → Int} {KH KU KW : Nat} {z : Int} (h : GaPost H0 U0 r c t col H U W KH KU KW z) (hz : z < 0) (hr : r ≤ 8) (ht : t < r) (hc : col < c)
 (σ : Int) (hσ : σ = 1 ∨ σ = -1) (hp : 0 < σ * H t col) (a1 : ∀ i j, i < r → j < c → H1 i j = if i = t then σ * H i j else H i j) (a2 : ∀ i j, i < r → j < r → U1 i j = if i = t then σ * U i j else U i j) (a3 : ∀ i j, i < r → j < r → W1 i j = if j = t then σ * W i j else W i j)
 (q : Nat → Int) (hq : ∀ i, i < r → q i = (H1 i col).fdiv (H1 t col)) (b1 : ∀ i j, i < r → j < c → H2 i j = lsH H1 q 0 t t i j) (b2 : ∀ i j, i < r → j < r → U2 i j = lsH U1 q 0 t t i j) (b3 : ∀ i j, i < r → j < r → W2 i j = lsW W1 q 0 t t i j) : GaEnd H0 U0 r c t col H2 U2 W2 KH KU KW := by
 have hB := h.bd1
 have htop : ∀ j, j < c → H2 t j = σ * H t j := fun j hj => by
  rw [b1 t j ht hj]; unfold lsH; rw [if_neg (by omega), a1 t j ht hj, if_pos rfl]
 have htopU : ∀ j, j < r → U2 t j = σ * U t j := fun j hj => by
  rw [b2 t j ht hj]; unfold lsH; rw [if_neg (by omega), a2 t j ht hj, if_pos rfl]
 have hge : ∀ i j, t < i → i < r → j < c → H2 i j = H i j := fun i j a b d => by
  rw [b1 i j b d]; unfold lsH; rw [if_neg (by omega), a1 i j b d, if_neg (by omega)]
 have hgeU : ∀ i j, t < i → i < r → j < r → U2 i j = U i j := fun i j a b d => by
  rw [b2 i j b d]; unfold lsH; rw [if_neg (by omega), a2 i j b d, if_neg (by omega)]
 have hlow : ∀ i j, i < t → j < c → H1 i j = H0 i j := fun i j a d => by
  rw [a1 i j (by omega) d, if_neg (by omega)]; exact h.keepH i j a d
 have h1t : ∀ j, j < c → H1 t j = σ * H t j := fun j hj => by rw [a1 t j ht hj, if_pos rfl]
 have hqi : ∀ i, i < t → q i = (H0 i col).fdiv (σ * H t col) := fun i a => by rw [hq i (by omega), hlow i col a hc, h1t col hc]
 have hbelow : ∀ i, t < i → i < r → H i col = 0 := fun i a b => by
  rcases h.least with ⟨k, x1, x2, x3, _⟩ | ⟨_, x⟩
  ·omega
  ·exact x i (by omega) b
 have hab : ∀ x : Int, (σ * x).natAbs = x.natAbs := fun x => by rcases hσ with rfl | rfl <;> omega
 refine ⟨by rw [htop col hc]; exact hp, fun i a b => by rw [hge i col a b hc]; exact hbelow i a b, fun i a => ?_, fun i j a b => ?_, fun i j a b => ?_, fun j hj hz0 i a b => ?_, fun hne hdv => ?_, fun i j a b d => ?_, fun i j a b d => ?_, fun Y hY i j a b => ?_⟩
 ·rw [b1 i col (by omega) hc, htop col hc]
  unfold lsH
  rw [if_pos (by omega), hlow i col a hc, h1t col hc, hqi i a]
  exact rem_pos (H0 i col) hp
 ·rw [b1 i j (by omega) b, htop j b, htop col hc]
  unfold lsH
  rw [if_pos (by omega), hlow i j a b, h1t j b, hqi i a]
 ·rw [b2 i j (by omega) b, htopU j b, htop col hc]
  unfold lsH
  rw [if_pos (by omega), hqi i a, a2 i j (by omega) b, if_neg (by omega), h.keepU i j a b, a2 t j ht b, if_pos rfl]
 ·by_cases hit : i = t
  ·subst hit; rw [htop j hj, h.zero j hj hz0 i a b]; simp
  ·rw [hge i j (by omega) b hj]; exact h.zero j hj hz0 i a b
 ·exact ⟨σ, hσ, fun j hj => by rw [htop j hj, (h.keep hne hdv).1 j hj]⟩
 ·by_cases hit : i = t
  ·subst hit; rw [htop j d, hab]; have := hB.h i j a b d; omega
  ·rw [hge i j (by omega) b d]; have := hB.h i j a b d; omega
 ·by_cases hit : i = t
  ·subst hit; rw [htopU j d, hab]; have := hB.u i j a b d; omega
  ·rw [hgeU i j (by omega) b d]; have := hB.u i j a b d; omega
 ·have hW1 : ∀ k, k < r → (W1 i k).natAbs ≤ KW := fun k hk => by
   rw [a3 i k a hk]
   have := hB.w i k a hk
   split
   ·rw [hab]; omega
   ·omega
  rw [b3 i j a b]
  unfold lsW
  split
  ·have e1 := wsum_le (first := 0) (q := q) (f := W1 i) (Q := Y) (X := KW) t (fun k _ hk => by rw [hqi k hk]; exact Nat.le_trans (fdiv_le _ _) (hY k hk)) (fun k _ hk => hW1 k (by omega))
   have e2 : (t - 0) * (Y * KW) ≤ 8 * (Y * KW) := Nat.mul_le_mul_right _ (by omega)
   have e3 := Int.natAbs_add_le (W1 i t) (wsum 0 q (W1 i) t)
   have e4 := hW1 t ht
   omega
  ·have := hW1 j b; omega
theorem wsum_congr {first : Nat} {q q' f f' : Nat → Int} (n : Nat) (h1 : ∀ k, k < n → q k = q' k) (h2 : ∀ k, k < n → f k = f' k) : wsum first q f n = wsum first q' f' n := by
 induction n with
 | zero => rfl
 | succ n ih => rw [wsum, wsum, ih (fun k hk => h1 k (by omega)) (fun k hk => h2 k (by omega)), h1 n (by omega), h2 n (by omega)]
theorem rdH_of {F F1 F3 H : Nat → Nat → Int} {q : Nat → Int} {r n t i0 col : Nat} (ht : t < r) (x : ∀ i j, i < r → j < n → F1 i j = F (swq t i0 i) j) (y : ∀ i j, i < r → j < n → F3 i j = lsH F1 q (t + 1) r t i j) (hq : ∀ i, i < r → q i = rq H t i0 col i) (i j : Nat) (hi : i < r) (hj : j < n) : F3 i j = rdH F H r t i0 col i j := by
 rw [y i j hi hj]
 unfold rdH lsH
 rw [x i j hi hj, x t j ht hj, hq i hi]
theorem rdW_of {F F1 F3 H : Nat → Nat → Int} {q : Nat → Int} {r t i0 col : Nat} (ht : t < r) (x : ∀ i j, i < r → j < r → F1 i j = F i (swq t i0 j)) (y : ∀ i j, i < r → j < r → F3 i j = lsW F1 q (t + 1) r t i j) (hq : ∀ i, i < r → q i = rq H t i0 col i) (i j : Nat) (hi : i < r) (hj : j < r) : F3 i j = rdW F H r t i0 col i j := by
 rw [y i j hi hj]
 unfold rdW lsW
 rw [x i j hi hj, x i t hi ht, wsum_congr r hq (fun k hk => x i k hi hk)]
theorem EInv.round {A H U W H1 U1 W1 H3 U3 W3 : Nat → Nat → Int} {q : Nat → Int} {r c t i0 : Nat} (h : EInv A H U W r c) (ht : t < r) (hi0 : i0 < r) (x1 : ∀ i j, i < r → j < c → H1 i j = H (swq t i0 i) j) (x2 : ∀ i j, i < r → j < r → U1 i j = U (swq t i0 i) j) (x3 : ∀ i j, i < r → j < r → W1 i j = W i (swq t i0 j))
 (y1 : ∀ i j, i < r → j < c → H3 i j = lsH H1 q (t + 1) r t i j) (y2 : ∀ i j, i < r → j < r → U3 i j = lsH U1 q (t + 1) r t i j) (y3 : ∀ i j, i < r → j < r → W3 i j = lsW W1 q (t + 1) r t i j) : EInv A H3 U3 W3 r c := by
 have h1 : EInv A H1 U1 W1 r c := (h.swap ht hi0).congr (fun _ _ _ _ => rfl) x1 x2 x3
 exact (h1.lessen q ht r (by omega) (Nat.le_refl _) (by omega)).congr (fun _ _ _ _ => rfl) y1 y2 y3
structure F3 where
 H : Nat → Nat → Int
 U : Nat → Nat → Int
 W : Nat → Nat → Int
def F3.Eq (r c : Nat) (s t : F3) : Prop := (∀ i j, i < r → j < c → s.H i j = t.H i j) ∧ (∀ i j, i < r → j < r → s.U i j = t.U i j) ∧ (∀ i j, i < r → j < r → s.W i j = t.W i j)
theorem F3.Eq.symm {r c : Nat} {s t : F3} (h : F3.Eq r c s t) : F3.Eq r c t s := ⟨fun i j a b => (h.1 i j a b).symm, fun i j a b => (h.2.1 i j a b).symm, fun i j a b => (h.2.2 i j a b).symm⟩
theorem F3.Eq.trans {r c : Nat} {s t u : F3} (h : F3.Eq r c s t) (k : F3.Eq r c t u) : F3.Eq r c s u := ⟨fun i j a b => (h.1 i j a b).trans (k.1 i j a b), fun i j a b => (h.2.1 i j a b).trans (k.2.1 i j a b), fun i j a b => (h.2.2 i j a b).trans (k.2.2 i j a b)⟩
theorem F3.Eq.refl (r c : Nat) (s : F3) : F3.Eq r c s s := ⟨fun _ _ _ _ => rfl, fun _ _ _ _ => rfl, fun _ _ _ _ => rfl⟩
theorem LeastIs.uniq {f : Nat → Int} {a n : Nat} {z z' : Int} (h : LeastIs f a n z) (h' : LeastIs f a n z') : z = z' := by
 rcases h with ⟨i, i1, i2, rfl, i3, i4, i5⟩ | ⟨rfl, h0⟩
 ·rcases h' with ⟨j, j1, j2, rfl, j3, j4, j5⟩ | ⟨rfl, h0⟩
  ·rcases Nat.lt_trichotomy i j with h | h | h
   ·have := j5 i i1 h i3; have := i4 j j1 j2 j3; omega
   ·rw [h]
   ·have := i5 j j1 h j3; have := j4 i i1 i2 i3; omega
  ·exact absurd (h0 i i1 i2) i3
 ·rcases h' with ⟨j, j1, j2, rfl, j3, j4, j5⟩ | ⟨rfl, -⟩
  ·exact absurd (h0 j j1 j2) j3
  ·rfl
def rd3 (r t i0 col : Nat) (s : F3) : F3 := ⟨rdH s.H s.H r t i0 col, rdH s.U s.H r t i0 col, rdW s.W s.H r t i0 col⟩
theorem lsH_congr {f g : Nat → Nat → Int} {q q' : Nat → Int} {first e p i j : Nat} (hp : f p j = g p j) (hi : f i j = g i j) (hq : first ≤ i → i < e → q i = q' i) : lsH f q first e p i j = lsH g q' first e p i j := by
 unfold lsH
 split
 ·rename_i h; rw [hp, hi, hq h.1 h.2]
 ·exact hi
theorem lsW_congr {f g : Nat → Nat → Int} {q q' : Nat → Int} {first e p i j : Nat} (hf : ∀ k, k < e → f i k = g i k) (hp : f i p = g i p) (hj : f i j = g i j) (hq : ∀ k, k < e → q k = q' k) : lsW f q first e p i j = lsW g q' first e p i j := by
 unfold lsW
 split
 ·rw [hp, wsum_congr e hq hf]
 ·exact hj
theorem rd3_congr {r c t i0 col : Nat} {s s' : F3} (h : F3.Eq r c s s') (ht : t < r) (hi0 : i0 < r) (hc : col < c) : F3.Eq r c (rd3 r t i0 col s) (rd3 r t i0 col s') := by
 have hq : ∀ i, i < r → rq s.H t i0 col i = rq s'.H t i0 col i := fun i hi => by
  unfold rq
  rw [h.1 _ _ (swq_lt ht hi0 hi) hc, h.1 _ _ (swq_lt ht hi0 ht) hc]
 refine ⟨fun i j hi hj => ?_, fun i j hi hj => ?_, fun i j hi hj => ?_⟩
 ·exact lsH_congr (f := fun i j => s.H (swq t i0 i) j) (g := fun i j => s'.H (swq t i0 i) j) (q := rq s.H t i0 col) (q' := rq s'.H t i0 col) (h.1 _ _ (swq_lt ht hi0 ht) hj) (h.1 _ _ (swq_lt ht hi0 hi) hj) (fun _ _ => hq i hi)
 ·exact lsH_congr (f := fun i j => s.U (swq t i0 i) j) (g := fun i j => s'.U (swq t i0 i) j) (q := rq s.H t i0 col) (q' := rq s'.H t i0 col) (h.2.1 _ _ (swq_lt ht hi0 ht) hj) (h.2.1 _ _ (swq_lt ht hi0 hi) hj) (fun _ _ => hq i hi)
 ·exact lsW_congr (f := fun i j => s.W i (swq t i0 j)) (g := fun i j => s'.W i (swq t i0 j)) (q := rq s.H t i0 col) (q' := rq s'.H t i0 col) (fun k hk => h.2.2 _ _ hi (swq_lt ht hi0 hk)) (h.2.2 _ _ hi (swq_lt ht hi0 ht)) (h.2.2 _ _ hi (swq_lt ht hi0 hj)) (fun k hk => hq k hk)
def GaTo (r c t col : Nat) (s0 : F3) : Nat → F3 → Prop
  | 0, s => F3.Eq r c s0 s
  | n + 1, s' => ∃ (i0 : Nat) (s : F3), GaTo r c t col s0 n s ∧ LeastIs (fun i => s.H i col) (if n = 0 then t else t + 1) r i0 ∧ F3.Eq r c (rd3 r t i0 col s) s'
theorem GaTo.start {r c t col : Nat} {s0 : F3} (s : F3) (h : F3.Eq r c s0 s) : GaTo r c t col s0 0 s := h
theorem GaTo.step {r c t col : Nat} {s0 : F3} (n i0 : Nat) (s s' : F3) (g : GaTo r c t col s0 n s) (l : LeastIs (fun i => s.H i col) (if n = 0 then t else t + 1) r i0) (e : F3.Eq r c (rd3 r t i0 col s) s') : GaTo r c t col s0 (n + 1) s' := ⟨i0, s, g, l, e⟩
theorem least_at {r c col a : Nat} {s s' : F3} (h : F3.Eq r c s s') (hc : col < c) {z : Int} (hl : LeastIs (fun i => s.H i col) a r z) : LeastIs (fun i => s'.H i col) a r z := hl.congr (fun k _ hk => (h.1 k col hk hc).symm)
theorem GaTo.det {r c t col : Nat} {s0 s0' : F3} (h0 : F3.Eq r c s0 s0') (ht : t < r) (hc : col < c) : ∀ n s s', GaTo r c t col s0 n s → GaTo r c t col s0' n s' → F3.Eq r c s s' := by
  intro n
  induction n with
  | zero =>
    intro s s' h h'
    have e : F3.Eq r c s0 s := h
    exact e.symm.trans (h0.trans h')
  | succ n ih =>
    intro s s' h h'
    obtain ⟨i0, a, g, l, e⟩ := h
    obtain ⟨i0', a', g', l', e'⟩ := h'
    have h1 := ih a a' g g'
    have h2 : (i0 : Int) = i0' := (least_at h1 hc l).uniq l'
    have h3 : i0 = i0' := by omega
    subst h3
    have h4 : i0 < r := by rcases l with ⟨i, _, b, d, _⟩ | ⟨d, _⟩ <;> omega
    exact e.symm.trans ((rd3_congr h1 ht h4 hc).trans e')
theorem GaTo.past {r c t col : Nat} {s0 : F3} {m : Nat} {s' : F3} (h : GaTo r c t col s0 m s') : ∀ n, n < m → ∃ s i0, GaTo r c t col s0 n s ∧ LeastIs (fun i => s.H i col) (if n = 0 then t else t + 1) r (i0 : Nat) := by
  induction m generalizing s' with
  | zero => intro n hn; omega
  | succ k ih =>
    obtain ⟨i0, a, g, l, -⟩ := h
    intro n hn
    by_cases hk : n = k
    · subst hk; exact ⟨a, i0, g, l⟩
    · exact ih g n (by omega)
def sgn (t col : Nat) (s : F3) : Int := if s.H t col < 0 then -1 else 1
def tn3 (t col : Nat) (s : F3) : F3 := ⟨fun i j => if i = t then sgn t col s * s.H i j else s.H i j, fun i j => if i = t then sgn t col s * s.U i j else s.U i j, fun i j => if j = t then sgn t col s * s.W i j else s.W i j⟩
def fn3 (t col : Nat) (s : F3) : F3 := ⟨lsH (tn3 t col s).H (fun i => ((tn3 t col s).H i col).fdiv ((tn3 t col s).H t col)) 0 t t, lsH (tn3 t col s).U (fun i => ((tn3 t col s).H i col).fdiv ((tn3 t col s).H t col)) 0 t t, lsW (tn3 t col s).W (fun i => ((tn3 t col s).H i col).fdiv ((tn3 t col s).H t col)) 0 t t⟩
theorem fn3_congr {r c t col : Nat} {s s' : F3} (h : F3.Eq r c s s') (ht : t < r) (hc : col < c) : F3.Eq r c (fn3 t col s) (fn3 t col s') := by
 have hs : sgn t col s = sgn t col s' := by unfold sgn; rw [h.1 t col ht hc]
 have h1 : F3.Eq r c (tn3 t col s) (tn3 t col s') := by
  refine ⟨fun i j hi hj => ?_, fun i j hi hj => ?_, fun i j hi hj => ?_⟩
  ·show (if i = t then _ else _) = (if i = t then _ else _)
   rw [hs, h.1 i j hi hj]
  ·show (if i = t then _ else _) = (if i = t then _ else _)
   rw [hs, h.2.1 i j hi hj]
  ·show (if j = t then _ else _) = (if j = t then _ else _)
   rw [hs, h.2.2 i j hi hj]
 have hq : ∀ i, i < r → ((tn3 t col s).H i col).fdiv ((tn3 t col s).H t col) = ((tn3 t col s').H i col).fdiv ((tn3 t col s').H t col) := fun i hi => by rw [h1.1 i col hi hc, h1.1 t col ht hc]
 refine ⟨fun i j hi hj => ?_, fun i j hi hj => ?_, fun i j hi hj => ?_⟩
 ·exact lsH_congr (q := fun i => ((tn3 t col s).H i col).fdiv ((tn3 t col s).H t col)) (q' := fun i => ((tn3 t col s').H i col).fdiv ((tn3 t col s').H t col)) (h1.1 _ _ ht hj) (h1.1 _ _ hi hj) (fun _ _ => hq i hi)
 ·exact lsH_congr (q := fun i => ((tn3 t col s).H i col).fdiv ((tn3 t col s).H t col)) (q' := fun i => ((tn3 t col s').H i col).fdiv ((tn3 t col s').H t col)) (h1.2.1 _ _ ht hj) (h1.2.1 _ _ hi hj) (fun _ _ => hq i hi)
 ·exact lsW_congr (q := fun i => ((tn3 t col s).H i col).fdiv ((tn3 t col s).H t col)) (q' := fun i => ((tn3 t col s').H i col).fdiv ((tn3 t col s').H t col)) (fun k hk => h1.2.2 _ _ hi (by omega)) (h1.2.2 _ _ hi ht) (h1.2.2 _ _ hi hj) (fun k hk => hq k (by omega))
def GaDoes (r c t col : Nat) (s0 : F3) (t' : Nat) (s' : F3) : Prop := ((∀ i, t ≤ i → i < r → s0.H i col = 0) ∧ t' = t ∧ F3.Eq r c s0 s') ∨
 (t < r ∧ t' = t + 1 ∧ ∃ n s1, GaTo r c t col s0 (n + 1) s1 ∧ LeastIs (fun i => s1.H i col) (t + 1) r (-1) ∧ F3.Eq r c (fn3 t col s1) s')
theorem GaTo.ne {r c t col n : Nat} {s0 s1 : F3} (h : GaTo r c t col s0 (n + 1) s1) (hc : col < c) : ¬ ∀ i, t ≤ i → i < r → s0.H i col = 0 := by
  intro h0
  obtain ⟨s, i0, g, l⟩ := h.past 0 (by omega)
  have e : F3.Eq r c s0 s := g
  rw [if_pos rfl] at l
  rcases l with ⟨i, i1, i2, -, i3, -⟩ | ⟨i1, -⟩
  · exact i3 (by show s.H i col = 0; rw [← e.1 i col i2 hc]; exact h0 i i1 i2)
  · omega
theorem GaDoes.det {r c t col t1 t2 : Nat} {s0 s0' s1 s2 : F3} (h0 : F3.Eq r c s0 s0') (hc : col < c) (h : GaDoes r c t col s0 t1 s1) (h' : GaDoes r c t col s0' t2 s2) : t1 = t2 ∧ F3.Eq r c s1 s2 := by
 rcases h with ⟨z, rfl, e⟩ | ⟨ht, rfl, n, a, g, l, e⟩
 ·rcases h' with ⟨z', rfl, e'⟩ | ⟨ht', rfl, n', a', g', l', e'⟩
  ·exact ⟨rfl, e.symm.trans (h0.trans e')⟩
  ·exact absurd (fun i i1 i2 => by rw [← h0.1 i col i2 hc]; exact z i i1 i2) (g'.ne hc)
 ·rcases h' with ⟨z', rfl, e'⟩ | ⟨ht', rfl, n', a', g', l', e'⟩
  ·exact absurd (fun i i1 i2 => by rw [h0.1 i col i2 hc]; exact z' i i1 i2) (g.ne hc)
  ·refine ⟨rfl, ?_⟩
   have key : ∀ {n m : Nat} {x y p q : F3}, F3.Eq r c x y → GaTo r c t col x (n + 1) p → GaTo r c t col y (m + 1) q → LeastIs (fun i => p.H i col) (t + 1) r (-1) → n < m → False := by
    intro n m x y p q hxy gp gq lp hnm
    obtain ⟨s, i0, gs, ls⟩ := gq.past (n + 1) (by omega)
    rw [if_neg (by omega)] at ls
    have := least_at (GaTo.det hxy ht hc (n + 1) p s gp gs) hc lp
    have := this.uniq ls
    omega
   rcases Nat.lt_trichotomy n n' with h1 | h1 | h1
   ·exact (key h0 g g' l h1).elim
   ·subst h1
    exact e.symm.trans ((fn3_congr (GaTo.det h0 ht hc _ _ _ g g') ht hc).trans e')
   ·exact (key h0.symm g' g l' h1).elim
def EcTo (r c : Nat) (A : Nat → Nat → Int) : Nat → Nat → F3 → Prop
  | 0, t, s => t = 0 ∧ F3.Eq r c ⟨A, kd, kd⟩ s
  | n + 1, t', s' => ∃ (t : Nat) (s : F3), EcTo r c A n t s ∧ GaDoes r c t n s t' s'
theorem EcTo.start {r c : Nat} {A : Nat → Nat → Int} (s : F3) (h : F3.Eq r c ⟨A, kd, kd⟩ s) : EcTo r c A 0 0 s := ⟨rfl, h⟩
theorem EcTo.step {r c : Nat} {A : Nat → Nat → Int} (n t t' : Nat) (s s' : F3) (g : EcTo r c A n t s) (d : GaDoes r c t n s t' s') : EcTo r c A (n + 1) t' s' := ⟨t, s, g, d⟩
theorem EcTo.det {r c : Nat} {A : Nat → Nat → Int} : ∀ n, n ≤ c → ∀ t1 t2 s1 s2, EcTo r c A n t1 s1 → EcTo r c A n t2 s2 → t1 = t2 ∧ F3.Eq r c s1 s2 := by
  intro n
  induction n with
  | zero =>
    intro _ t1 t2 s1 s2 h h'
    obtain ⟨rfl, e⟩ := h
    obtain ⟨rfl, e'⟩ := h'
    exact ⟨rfl, e.symm.trans e'⟩
  | succ n ih =>
    intro hn t1 t2 s1 s2 h h'
    obtain ⟨a, x, g, d⟩ := h
    obtain ⟨a', x', g', d'⟩ := h'
    obtain ⟨rfl, e⟩ := ih (by omega) a a' x x' g g'
    exact d.det e (by omega) d'
end Go.Proofs.YtfjbijpagaipnaaGreatDoor
