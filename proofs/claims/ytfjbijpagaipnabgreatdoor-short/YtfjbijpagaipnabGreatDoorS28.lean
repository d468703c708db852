import Derived.Test.YtfjbijpagaipnabGreatDoorS27
import Derived.Test.YtfjbijpagaipnabGreatDoorS24
namespace Go.Proofs.YtfjbijpagaipnabGreatDoor.R
theorem ip_congr {c : Nat} {x y x' y' : Nat → Int} (h1 : ∀ k, k < c → x k = x' k) (h2 : ∀ k, k < c → y k = y' k) : ip c x y = ip c x' y' := sm_congr c (fun k hk => by rw [h1 k hk, h2 k hk])
theorem gm_congr {c n : Nat} {a b a' b' : Nat → Nat → Int} (h1 : ∀ i, i < n → ∀ j, j < c → a i j = a' i j) (h2 : ∀ i, i < n → ∀ j, j < c → b i j = b' i j) : gm c ((List.range n).map a) ((List.range n).map b) = gm c ((List.range n).map a') ((List.range n).map b') := by
 unfold gm
 simp only [List.length_map, List.length_range, List.map_map]
 refine mv_congr _ _ _ (by simp) (fun i hi x hx => ?_)
 have hi' : i < n := by simpa using hi
 have hx' := List.mem_range.1 hx
 simp [List.getD, hi', hx']
 exact ip_congr (h1 i hi') (h2 x hx')
theorem vol_congr {c q : Nat} {b b' : Nat → Nat → Int} (h : ∀ i, i < q → ∀ j, j < c → b i j = b' i j) : vol c b q = vol c b' q := gm_congr h h
theorem F_vol (c : Nat) (b : Nat → Nat → Int) (q : Nat) (x y : Nat → Int) : Fq c b q x y = gm c ((List.range (q + 1)).map (fun i => if i = q then x else b i)) ((List.range (q + 1)).map (fun i => if i = q then y else b i)) := by
 have key : ∀ z : Nat → Int, (List.range (q + 1)).map (fun i => if i = q then z else b i) = (List.range q).map b ++ [z] := fun z => by
  rw [List.range_succ, List.map_append, List.map_singleton, if_pos rfl]
  congr 1
  exact List.map_congr_left (fun i hi => if_neg (by have := List.mem_range.1 hi; omega))
 rw [key, key]; rfl
theorem F_congr {c q : Nat} {b b' : Nat → Nat → Int} {x y x' y' : Nat → Int} (h : ∀ i, i < q → ∀ j, j < c → b i j = b' i j) (hx : ∀ j, j < c → x j = x' j) (hy : ∀ j, j < c → y j = y' j) : Fq c b q x y = Fq c b' q x' y' := by
 rw [F_vol, F_vol]
 refine gm_congr (fun i hi j hj => ?_) (fun i hi j hj => ?_)
 ·by_cases e : i = q
  ·rw [if_pos e, if_pos e]; exact hx j hj
  ·rw [if_neg e, if_neg e]; exact h i (by omega) j hj
 ·by_cases e : i = q
  ·rw [if_pos e, if_pos e]; exact hy j hj
  ·rw [if_neg e, if_neg e]; exact h i (by omega) j hj
def lam (c : Nat) (b : Nat → Nat → Int) (i q : Nat) : Int := Fq c b q (b i) (b q)
theorem lam_congr {c i q : Nat} {b b' : Nat → Nat → Int} (h : ∀ i, i ≤ q → ∀ j, j < c → b i j = b' i j) (hi : ∀ j, j < c → b i j = b' i j) : lam c b i q = lam c b' i q := F_congr (fun i hi => h i (by omega)) hi (h q (Nat.le_refl _))
def takeF (b : Nat → Nat → Int) (k q : Nat) (s : Int) : Nat → Nat → Int := fun i => if i = k then fun j => 1 * b k j + -s * b q j else b i
theorem range_cut {n k : Nat} (hk : k < n) (f : Nat → Nat → Int) : (List.range n).map f = (List.range k).map f ++ f k :: (List.range' (k + 1) (n - k - 1)).map f := by
 rw [← List.map_cons, ← List.map_append, ← List.range'_succ, List.range_eq_range', List.range_eq_range']
 have := List.range'_append_1 (s := 0) (m := k) (n := n - k - 1 + 1)
 rw [Nat.zero_add] at this
 rw [this, show k + (n - k - 1 + 1) = n from by omega]
theorem gm_take {c n k q : Nat} (b : Nat → Nat → Int) (s : Int) (hq : q < k) (hk : k < n) (h4 : n ≤ 4) (ys : List (Nat → Int)) (hl : ys.length = n) : gm c ((List.range n).map (takeF b k q s)) ys = gm c ((List.range n).map b) ys := by
 have e1 : (List.range k).map (takeF b k q s) = (List.range k).map b := List.map_congr_left (fun i hi => if_neg (by have := List.mem_range.1 hi; omega))
 have e2 : (List.range' (k + 1) (n - k - 1)).map (takeF b k q s) = (List.range' (k + 1) (n - k - 1)).map b := List.map_congr_left (fun i hi => if_neg (by have := List.mem_range'_1.1 hi; omega))
 have e3 : takeF b k q s k = fun j => 1 * b k j + -s * b q j := if_pos rfl
 rw [range_cut hk (takeF b k q s), e1, e2, e3, gm_lin, ← range_cut hk b]
 obtain ⟨xs, zs, he⟩ := List.append_of_mem (show q ∈ List.range k from List.mem_range.2 hq)
 have hlen : xs.length + zs.length + 1 = k := by have := congrArg List.length he; simp at this; omega
 have := gm_same c (b q) (xs.map b) (zs.map b) ((List.range' (k + 1) (n - k - 1)).map b) ys (by simp; omega) (by omega)
 rw [show (List.range k).map b ++ b q :: (List.range' (k + 1) (n - k - 1)).map b = xs.map b ++ b q :: zs.map b ++ b q :: (List.range' (k + 1) (n - k - 1)).map b from by rw [he]; simp, this]
 omega
theorem vol_take {c k q : Nat} (b : Nat → Nat → Int) (s : Int) (hq : q < k) (n : Nat) (h4 : n ≤ 4) : vol c (takeF b k q s) n = vol c b n := by
 rcases Nat.lt_or_ge k n with hk | hk
 ·unfold vol
  rw [gm_take b s hq hk h4 _ (by simp), gm_sym c _ _ (by simp) (by simpa using h4), gm_take b s hq hk h4 _ (by simp)]
 ·exact vol_congr (fun i hi j _ => by unfold takeF; rw [if_neg (by omega)])
theorem lam_take {c k q t : Nat} (b : Nat → Nat → Int) (s : Int) (hq : q < k) (h4 : k ≤ 3) (ht : t < k) (htq : q ≤ t) : lam c (takeF b k q s) k t = lam c b k t - if t = q then s * vol c b (q + 1) else 0 := by
 have e1 : lam c (takeF b k q s) k t = Fq c b t (fun j => 1 * b k j + -s * b q j) (b t) := F_congr (fun i hi j _ => by unfold takeF; rw [if_neg (by omega)]) (fun j _ => by unfold takeF; rw [if_pos rfl]) (fun j _ => by unfold takeF; rw [if_neg (by omega)])
 rw [e1, F_lin]
 unfold lam
 by_cases e : t = q
 ·subst e
  rw [if_pos rfl, ← vol_succ]; grind
 ·rw [if_neg e, F_own c b t q (by omega) (by omega)]; grind
def swF (b : Nat → Nat → Int) (k : Nat) : Nat → Nat → Int := fun i => b (swq k (k + 1) i)
theorem gm_sw {c n k : Nat} (b : Nat → Nat → Int) (hk : k + 1 < n) (h4 : n ≤ 4) (ys : List (Nat → Int)) (hl : ys.length = n) : gm c ((List.range n).map (swF b k)) ys = -gm c ((List.range n).map b) ys := by
 have cut2 : ∀ f : Nat → Nat → Int, (List.range n).map f = (List.range k).map f ++ f k :: f (k + 1) :: (List.range' (k + 2) (n - k - 2)).map f := fun f => by
  rw [range_cut (show k < n by omega) f, show n - k - 1 = (n - k - 2) + 1 from by omega, List.range'_succ, List.map_cons]
 have e1 : (List.range k).map (swF b k) = (List.range k).map b := List.map_congr_left (fun i hi => by
  have := List.mem_range.1 hi
  unfold swF swq; rw [if_neg (by omega), if_neg (by omega)])
 have e2 : (List.range' (k + 2) (n - k - 2)).map (swF b k) = (List.range' (k + 2) (n - k - 2)).map b := List.map_congr_left (fun i hi => by
  have := List.mem_range'_1.1 hi
  unfold swF swq; rw [if_neg (by omega), if_neg (by omega)])
 have e3 : swF b k k = b (k + 1) := by unfold swF swq; rw [if_pos rfl]
 have e4 : swF b k (k + 1) = b k := by unfold swF swq; rw [if_neg (by omega), if_pos rfl]
 rw [cut2 (swF b k), e1, e2, e3, e4, cut2 b]
 exact gm_swap c _ _ _ _ _ (by simp; omega) (by omega)
theorem vol_sw {c k : Nat} (b : Nat → Nat → Int) (n : Nat) (h4 : n ≤ 4) (hn : n ≠ k + 1) : vol c (swF b k) n = vol c b n := by
 rcases Nat.lt_or_ge (k + 1) n with hk | hk
 ·unfold vol
  rw [gm_sw b hk h4 _ (by simp), gm_sym c _ _ (by simp) (by simpa using h4), gm_sw b hk h4 _ (by simp)]
  omega
 ·exact vol_congr (fun i hi j _ => by unfold swF swq; rw [if_neg (by omega), if_neg (by omega)])
theorem vol_sw_at {c k : Nat} (b : Nat → Nat → Int) (hk : k ≤ 2) : vol c (swF b k) (k + 1) * vol c b (k + 1) = vol c b (k + 2) * vol c b k + lam c b (k + 1) k * lam c b (k + 1) k := by
 have e1 : vol c (swF b k) (k + 1) = Fq c b k (b (k + 1)) (b (k + 1)) := by
  rw [vol_succ]
  exact F_congr (fun i hi j _ => by unfold swF swq; rw [if_neg (by omega), if_neg (by omega)]) (fun j _ => by unfold swF swq; rw [if_pos rfl]) (fun j _ => by unfold swF swq; rw [if_pos rfl])
 have h := F_next c b k hk (b (k + 1)) (b (k + 1))
 rw [F_sym c b k (by omega) (b k) (b (k + 1)), ← vol_succ] at h
 rw [e1]
 unfold lam
 have : k + 1 + 1 = k + 2 := rfl
 rw [this] at h
 omega
theorem lam_sw_low {c k i t : Nat} (b : Nat → Nat → Int) (hi : i < k) (ht : t < i) : lam c (swF b k) i t = lam c b i t :=
 lam_congr (fun a ha j _ => by unfold swF swq; rw [if_neg (by omega), if_neg (by omega)]) (fun j _ => by unfold swF swq; rw [if_neg (by omega), if_neg (by omega)])
theorem row_short {c k X : Nat} {b : Nat → Nat → Int} (hk : k ≤ 3) (hv : ∀ i, i ≤ k → 0 < vol c b i) (hX : ∀ j, j ≤ k → vol c b (j + 1) ≤ X * vol c b j) (hl : ∀ q, q < k → 2 * lam c b k q ≤ vol c b (q + 1) ∧ -(2 * lam c b k q) ≤ vol c b (q + 1)) : 4 * ip c (b k) (b k) ≤ (4 + k) * X := by
 have key : ∀ n, n ≤ k → 4 * Fq c b (k - n) (b k) (b k) ≤ (4 + n) * X * vol c b (k - n) := by
  intro n
  induction n with
  | zero =>
    intro _
    have := hX k (Nat.le_refl _)
    rw [vol_succ] at this
    rw [Nat.sub_zero]
    grind
  | succ n ih =>
    intro hn
    have h1 := ih (by omega)
    obtain ⟨q, hq⟩ : ∃ q, q = k - (n + 1) := ⟨_, rfl⟩
    have hqk : k - n = q + 1 := by omega
    rw [← hq]
    rw [hqk] at h1
    have h2 := F_next c b q (by omega) (b k) (b k)
    rw [F_sym c b q (by omega) (b q) (b k)] at h2
    obtain ⟨l1, l2⟩ := hl q (by omega)
    have d0 := hv q (by omega)
    have d1 := hv (q + 1) (by omega)
    have hx := hX q (by omega)
    unfold lam at l1 l2
    generalize Fq c b q (b k) (b k) = A at *
    generalize Fq c b q (b k) (b q) = l at *
    generalize vol c b (q + 1) = d at *
    generalize vol c b q = e at *
    generalize Fq c b (q + 1) (b k) (b k) = G at *
    have hll : 4 * (l * l) ≤ d * d := by
     rcases Int.le_total 0 l with h | h
     ·have := Int.mul_le_mul l1 l1 (by omega) (by omega); grind
     ·have := Int.mul_le_mul l2 l2 (by omega) (by omega); grind
    have h3 : 4 * (A * d) ≤ (4 + n) * X * d * e + d * (X * e) := by
     have a1 : 4 * G * e ≤ (4 + ↑n) * ↑X * d * e := Int.mul_le_mul_of_nonneg_right h1 (by omega)
     have a2 : d * d ≤ d * (X * e) := Int.mul_le_mul_of_nonneg_left hx (by omega)
     grind
    have h4 : (4 * A) * d ≤ ((4 + (n + 1)) * X * e) * d := by grind
    have h5 := Int.le_of_mul_le_mul_right h4 d1
    push_cast
    exact h5
 have := key k (Nat.le_refl _)
 rw [Nat.sub_self, F_zero, vol_zero, Int.mul_one] at this
 exact this
structure QSt (c n k z X : Nat) (b : Nat → Nat → Int) : Prop where
 kz : k ≤ z
 zn : z ≤ n
 n4 : n ≤ 4
 pos : ∀ i, i ≤ z → 0 < vol c b i
 dep : z = n ∨ vol c b (z + 1) = 0
 rat : ∀ j, j < z → vol c b (j + 1) ≤ X * vol c b j
 len : ∀ i, i < n → ip c (b i) (b i) ≤ 2 * X
 red : ∀ i, i < k → ∀ j, j < i → 2 * lam c b i j ≤ vol c b (j + 1) ∧ -(2 * lam c b i j) ≤ vol c b (j + 1)
 ord : ∀ i, i + 1 < k → 3 * (vol c b (i + 1) * vol c b (i + 1)) ≤ 4 * (vol c b (i + 2) * vol c b i + lam c b (i + 1) i * lam c b (i + 1) i)
theorem sq_nonneg (x : Int) : 0 ≤ x * x := by
 rcases Int.le_total 0 x with h | h
 ·exact Int.mul_nonneg h h
 ·exact Int.mul_nonneg_of_nonpos_of_nonpos h h
theorem F_len {c q : Nat} {b : Nat → Nat → Int} (hq : q ≤ 3) (hv : ∀ i, i ≤ q → 0 < vol c b i) (x : Nat → Int) : Fq c b q x x ≤ ip c x x * vol c b q := by
 induction q with
 | zero => rw [F_zero, vol_zero]; omega
 | succ q ih =>
   have h1 := ih (by omega) (fun i hi => hv i (by omega))
   have h2 := F_down c b q (by omega) x
   have d0 := hv q (by omega)
   have d1 := hv (q + 1) (Nat.le_refl _)
   have h3 : Fq c b q x x * vol c b (q + 1) ≤ ip c x x * vol c b q * vol c b (q + 1) := Int.mul_le_mul_of_nonneg_right h1 (by omega)
   have h4 : Fq c b (q + 1) x x * vol c b q ≤ (ip c x x * vol c b (q + 1)) * vol c b q := by grind
   exact Int.le_of_mul_le_mul_right h4 d0
theorem find_z {c n : Nat} {b : Nat → Nat → Int} (hv : ∀ i, i ≤ n → 0 ≤ vol c b i ∨ ∃ j, j < i ∧ vol c b j = 0) : ∀ m, m ≤ n → (∀ i, i ≤ m → 0 < vol c b i) → ∃ z, m ≤ z ∧ z ≤ n ∧ (∀ i, i ≤ z → 0 < vol c b i) ∧ (z = n ∨ vol c b (z + 1) = 0) := by
 intro m hm
 obtain ⟨t, ht⟩ : ∃ t, t = n - m := ⟨_, rfl⟩
 induction t generalizing m with
 | zero => intro h; exact ⟨m, Nat.le_refl _, hm, h, .inl (by omega)⟩
 | succ t ih =>
   intro h
   by_cases h0 : vol c b (m + 1) = 0
   ·exact ⟨m, Nat.le_refl _, hm, h, .inr h0⟩
   ·have h1 : 0 < vol c b (m + 1) := by
     rcases hv (m + 1) (by omega) with h2 | ⟨j, hj, h2⟩
     ·omega
     ·have := h j (by omega); omega
    obtain ⟨z, a1, a2, a3, a4⟩ := ih (m + 1) (by omega) (by omega) (fun i hi => by
     by_cases e : i = m + 1
     ·rw [e]; exact h1
     ·exact h i (by omega))
    exact ⟨z, by omega, a2, a3, a4⟩
theorem vol_sign {c n : Nat} {b : Nat → Nat → Int} (hn : n ≤ 4) : ∀ i, i ≤ n → 0 ≤ vol c b i ∨ ∃ j, j < i ∧ vol c b j = 0 := by
 intro i hi
 by_cases h : ∃ j, j < i ∧ vol c b j = 0
 ·exact .inr h
 ·refine .inl ?_
  have key : ∀ m, m ≤ i → (∀ j, j < m → 0 < vol c b j) → 0 ≤ vol c b m := by
   intro m hm hp
   cases m with
   | zero => rw [vol_zero]; decide
   | succ m => rw [vol_succ]; exact F_psd c b m (by omega) (fun j hj => hp j (by omega)) _
  have all : ∀ m, m ≤ i → ∀ j, j < m → 0 < vol c b j := by
   intro m
   induction m with
   | zero => intro _ j hj; omega
   | succ m ih =>
     intro hm j hj
     by_cases e : j = m
     ·subst e
      have h1 := key j (by omega) (ih (by omega))
      have h2 : vol c b j ≠ 0 := fun h0 => h ⟨j, by omega, h0⟩
      omega
     ·exact ih (by omega) j (by omega)
  exact key i (Nat.le_refl _) (all i (Nat.le_refl _))
theorem QSt.make {c n k X : Nat} {b : Nat → Nat → Int} (hn : n ≤ 4) (hk : k ≤ n) (hpos : ∀ i, i ≤ k → 0 < vol c b i) (hlen : ∀ i, i < n → ip c (b i) (b i) ≤ X)
 (hrat : ∀ j, j < k → vol c b (j + 1) ≤ X * vol c b j) (hred : ∀ i, i < k → ∀ j, j < i → 2 * lam c b i j ≤ vol c b (j + 1) ∧ -(2 * lam c b i j) ≤ vol c b (j + 1))
 (hord : ∀ i, i + 1 < k → 3 * (vol c b (i + 1) * vol c b (i + 1)) ≤ 4 * (vol c b (i + 2) * vol c b i + lam c b (i + 1) i * lam c b (i + 1) i)) : ∃ z, QSt c n k z X b := by
 obtain ⟨z, a1, a2, a3, a4⟩ := find_z (vol_sign hn) k hk hpos
 refine ⟨z, a1, a2, hn, a3, a4, fun j hj => ?_, fun i hi => by have := hlen i hi; have := ip_nonneg c (b i); omega, hred, hord⟩
 rcases Nat.lt_or_ge j k with h | h
 ·exact hrat j h
 ·rw [vol_succ]
  have h1 := F_len (c := c) (b := b) (q := j) (by omega) (fun i hi => a3 i (by omega)) (b j)
  have h2 : ip c (b j) (b j) * vol c b j ≤ X * vol c b j := Int.mul_le_mul_of_nonneg_right (hlen j (by omega)) (by have := a3 j (by omega); omega)
  omega
theorem QSt.lessened {c n k z X : Nat} {b b' : Nat → Nat → Int} (h : QSt c n k z X b) (hk : k < n) (hr : ∀ i, i ≠ k → ∀ j, j < c → b' i j = b i j) (hv : ∀ i, i ≤ 4 → vol c b' i = vol c b i) (hl : ∀ q, q < k → 2 * lam c b' k q ≤ vol c b (q + 1) ∧ -(2 * lam c b' k q) ≤ vol c b (q + 1)) :
 QSt c n k z X b' ∧ (∀ q, q < k → 2 * lam c b' k q ≤ vol c b' (q + 1) ∧ -(2 * lam c b' k q) ≤ vol c b' (q + 1)) := by
 have hkz := h.kz
 have hzn := h.zn
 have hn4 := h.n4
 have hred' : ∀ q, q < k → 2 * lam c b' k q ≤ vol c b' (q + 1) ∧ -(2 * lam c b' k q) ≤ vol c b' (q + 1) := fun q hq => by rw [hv (q + 1) (by omega)]; exact hl q hq
 refine ⟨⟨hkz, hzn, hn4, fun i hi => by rw [hv i (by omega)]; exact h.pos i hi, ?_, fun j hj => by rw [hv (j + 1) (by omega), hv j (by omega)]; exact h.rat j hj, fun i hi => ?_, fun i hi j hj => ?_, fun i hi => ?_⟩, hred'⟩
 ·rcases h.dep with h1 | h1
  ·exact .inl h1
  ·by_cases e : z = n
   ·exact .inl e
   ·exact .inr (by rw [hv (z + 1) (by omega)]; exact h1)
 ·by_cases e : i = k
  ·subst e
   have := row_short (c := c) (k := i) (X := X) (b := b') (by omega) (fun j hj => by rw [hv j (by omega)]; exact h.pos j (by omega)) (fun j hj => by
    rw [hv (j + 1) (by omega), hv j (by omega)]
    rcases Nat.lt_or_ge j z with h1 | h1
    ·exact h.rat j h1
    ·have e : j = z := by omega
     rcases h.dep with h2 | h2
     ·omega
     ·rw [e, h2]
      exact Int.mul_nonneg (by omega) (by have := h.pos z (Nat.le_refl _); omega)) hred'
   have h3 : (4 + (i : Int)) * X ≤ 8 * X := Int.mul_le_mul_of_nonneg_right (by omega) (by omega)
   omega
  ·rw [ip_congr (hr i e) (hr i e)]; exact h.len i hi
 ·rw [hv (j + 1) (by omega), lam_congr (b' := b) (fun a ha => hr a (by omega)) (hr i (by omega))]; exact h.red i hi j hj
 ·rw [hv (i + 1) (by omega), hv (i + 2) (by omega), hv i (by omega), lam_congr (b' := b) (fun a ha => hr a (by omega)) (hr (i + 1) (by omega))]; exact h.ord i hi
theorem QSt.next {c n k z X : Nat} {b : Nat → Nat → Int} (h : QSt c n k z X b) (hk : k < n) (hl : ∀ q, q < k → 2 * lam c b k q ≤ vol c b (q + 1) ∧ -(2 * lam c b k q) ≤ vol c b (q + 1)) (h0 : k = 0 → 0 < ip c (b 0) (b 0))
 (ho : ∀ i, k = i + 1 → 3 * (vol c b (i + 1) * vol c b (i + 1)) ≤ 4 * (vol c b (i + 2) * vol c b i + lam c b (i + 1) i * lam c b (i + 1) i)) : QSt c n (k + 1) z X b := by
 have hzn := h.zn
 have hkz := h.kz
 have hkz' : k + 1 ≤ z := by
  rcases Nat.lt_or_ge k z with h1 | h1
  ·exact h1
  ·exfalso
   have e : k = z := by omega
   rcases h.dep with h2 | h2
   ·omega
   ·cases k with
    | zero =>
      have := h0 rfl
      rw [← e, vol_succ, F_zero] at h2
      omega
    | succ i =>
      have h3 := ho i rfl
      obtain ⟨l1, l2⟩ := hl i (by omega)
      rw [show i + 2 = z + 1 from by omega, h2] at h3
      have d1 := h.pos (i + 1) (by omega)
      generalize vol c b (i + 1) = d at *
      generalize lam c b (i + 1) i = l at *
      have hll : 4 * (l * l) ≤ d * d := by
       rcases Int.le_total 0 l with h | h
       ·have := Int.mul_le_mul l1 l1 (by omega) (by omega); grind
       ·have := Int.mul_le_mul l2 l2 (by omega) (by omega); grind
      have := Int.mul_pos d1 d1
      omega
 refine ⟨hkz', hzn, h.n4, h.pos, h.dep, h.rat, h.len, fun i hi j hj => ?_, fun i hi => ?_⟩
 ·by_cases e : i = k
  ·subst e; exact hl j hj
  ·exact h.red i (by omega) j hj
 ·by_cases e : i + 1 = k
  ·exact ho i e.symm
  ·exact h.ord i (by omega)
theorem QSt.swap {c n k z X : Nat} {b : Nat → Nat → Int} (h : QSt c n (k + 1) z X b) (hk : k + 1 < n) (ho : 4 * (vol c b (k + 2) * vol c b k + lam c b (k + 1) k * lam c b (k + 1) k) < 3 * (vol c b (k + 1) * vol c b (k + 1))) :
 ∃ z', QSt c n k z' X (swF b k) ∧ ((z' = z ∧ 4 * vol c (swF b k) (k + 1) < 3 * vol c b (k + 1)) ∨ z' < z) ∧ (∀ i, i ≤ 4 → i ≠ k + 1 → vol c (swF b k) i = vol c b i) := by
 have hkz := h.kz
 have hzn := h.zn
 have hn4 := h.n4
 have hat := vol_sw_at (c := c) b (show k ≤ 2 by omega)
 have hv : ∀ i, i ≤ 4 → i ≠ k + 1 → vol c (swF b k) i = vol c b i := fun i hi hne => vol_sw b i hi hne
 have d1 := h.pos (k + 1) hkz
 have d0 := h.pos k (by omega)
 have hnn : 0 ≤ vol c (swF b k) (k + 1) := by
  rw [vol_succ]
  exact F_psd c _ k (by omega) (fun i hi => by rw [hv i (by omega) (by omega)]; exact h.pos i (by omega)) _
 have hlt : 4 * vol c (swF b k) (k + 1) < 3 * vol c b (k + 1) := by
  rw [← hat] at ho
  have : (4 * vol c (swF b k) (k + 1)) * vol c b (k + 1) < (3 * vol c b (k + 1)) * vol c b (k + 1) := by grind
  exact Int.lt_of_mul_lt_mul_right this (by omega)
 have hlen : ∀ i, i < n → ip c (swF b k i) (swF b k i) ≤ 2 * X := fun i hi => h.len _ (swq_lt (by omega) hk hi)
 have hlow : ∀ i, i < k → ∀ j, j < i → 2 * lam c (swF b k) i j ≤ vol c (swF b k) (j + 1) ∧ -(2 * lam c (swF b k) i j) ≤ vol c (swF b k) (j + 1) := fun i hi j hj => by
  rw [hv (j + 1) (by omega) (by omega), lam_sw_low b hi hj]; exact h.red i (by omega) j hj
 have hord : ∀ i, i + 1 < k → 3 * (vol c (swF b k) (i + 1) * vol c (swF b k) (i + 1)) ≤ 4 * (vol c (swF b k) (i + 2) * vol c (swF b k) i + lam c (swF b k) (i + 1) i * lam c (swF b k) (i + 1) i) := fun i hi => by
  rw [hv (i + 1) (by omega) (by omega), hv (i + 2) (by omega) (by omega), hv i (by omega) (by omega), lam_sw_low b hi (by omega)]; exact h.ord i (by omega)
 have hup : vol c b (k + 1) ≤ X * vol c b k := h.rat k (by omega)
 have hd2 : 0 ≤ vol c b (k + 2) := by
  rcases Nat.lt_or_ge (k + 1) z with h1 | h1
  ·have := h.pos (k + 2) (by omega); omega
  ·rcases h.dep with h2 | h2
   ·omega
   ·rw [show k + 2 = z + 1 from by omega, h2]; exact Int.le_refl 0
 have hr2 : vol c b (k + 2) ≤ X * vol c (swF b k) (k + 1) := by
  have a1 : vol c b (k + 2) * vol c b k ≤ vol c (swF b k) (k + 1) * vol c b (k + 1) := by
   have := sq_nonneg (lam c b (k + 1) k); omega
  have a2 : vol c (swF b k) (k + 1) * vol c b (k + 1) ≤ vol c (swF b k) (k + 1) * (X * vol c b k) := Int.mul_le_mul_of_nonneg_left hup hnn
  have a3 : vol c b (k + 2) * vol c b k ≤ (X * vol c (swF b k) (k + 1)) * vol c b k := by grind
  exact Int.le_of_mul_le_mul_right a3 d0
 have hr1 : vol c (swF b k) (k + 1) ≤ X * vol c b k := by omega
 by_cases hz0 : vol c (swF b k) (k + 1) = 0
 ·refine ⟨k, ⟨Nat.le_refl _, by omega, hn4, fun i hi => by rw [hv i (by omega) (by omega)]; exact h.pos i (by omega), .inr hz0, fun j hj => by rw [hv (j + 1) (by omega) (by omega), hv j (by omega) (by omega)]; exact h.rat j (by omega), hlen, hlow, hord⟩, .inr (by omega), hv⟩
 ·refine ⟨z, ⟨by omega, hzn, hn4, fun i hi => ?_, ?_, fun j hj => ?_, hlen, hlow, hord⟩, .inl ⟨rfl, hlt⟩, hv⟩
  ·by_cases e : i = k + 1
   ·rw [e]; omega
   ·rw [hv i (by omega) e]; exact h.pos i hi
  ·rcases h.dep with h1 | h1
   ·exact .inl h1
   ·by_cases e : z = n
    ·exact .inl e
    ·exact .inr (by rw [hv (z + 1) (by omega) (by omega)]; exact h1)
  ·by_cases e1 : j = k
   ·rw [e1, hv k (by omega) (by omega)]; exact hr1
   ·by_cases e2 : j = k + 1
    ·rw [e2, hv (k + 1 + 1) (by omega) (by omega)]; exact hr2
    ·rw [hv (j + 1) (by omega) (by omega), hv j (by omega) e2]; exact h.rat j hj
def outF (b : Nat → Nat → Int) (k : Nat) : Nat → Nat → Int := fun i => if i < k then b i else b (i + 1)
theorem QSt.out {c n k z X : Nat} {b : Nat → Nat → Int} (h : QSt c (n + 1) k z X b) (hk : k < n + 1) : ∃ z', QSt c n k z' (2 * X) (outF b k) := by
 have hkz := h.kz
 have hzn := h.zn
 have hn4 := h.n4
 have hr : ∀ i, i < k → ∀ j, j < c → outF b k i j = b i j := fun i hi j _ => by unfold outF; rw [if_pos hi]
 have hv : ∀ i, i ≤ k → vol c (outF b k) i = vol c b i := fun i hi => vol_congr (fun a ha => hr a (by omega))
 refine QSt.make (by omega) (by omega) (fun i hi => by rw [hv i hi]; exact h.pos i (by omega)) (fun i hi => ?_) (fun j hj => ?_) (fun i hi j hj => ?_) (fun i hi => ?_)
 ·have : ip c (outF b k i) (outF b k i) ≤ 2 * X := by
   unfold outF
   split
   ·exact h.len i (by omega)
   ·exact h.len (i + 1) (by omega)
  omega
 ·rw [hv (j + 1) (by omega), hv j (by omega)]
  have h1 := h.rat j (by omega)
  have h2 := h.pos j (by omega)
  have h3 : (X : Int) * vol c b j ≤ ((2 * X : Nat) : Int) * vol c b j := Int.mul_le_mul_of_nonneg_right (by omega) (by omega)
  omega
 ·rw [hv (j + 1) (by omega), lam_congr (b' := b) (fun a ha => hr a (by omega)) (hr i hi)]; exact h.red i hi j hj
 ·rw [hv (i + 1) (by omega), hv (i + 2) (by omega), hv i (by omega), lam_congr (b' := b) (fun a ha => hr a (by omega)) (hr (i + 1) (by omega))]; exact h.ord i hi
open Go.RowKit
theorem gm_det (c n : Nat) (A B : Nat → Nat → Int) : gm c ((List.range n).map A) ((List.range n).map B) = detF n (fun i j => ip c (A i) (B j)) := by
 have h1 : mv ((List.range n).map (fun i j => ip c (A i) (B j))) (List.range n) = detF n (fun i j => ip c (A i) (B j)) := by
  rw [← mv_minor, minor_det _ (List.range n) (List.range n) rfl, List.length_range]
  exact detF_upto n _ _ (fun i j hi hj => by simp [List.getD, hi, hj])
 rw [← h1]
 unfold gm
 rw [List.map_map, List.length_map, List.length_range]
 refine mv_congr _ _ _ (by simp) (fun i hi x hx => ?_)
 simp only [List.length_map, List.length_range] at hi
 have hxn := List.mem_range.1 hx
 simp [List.getD, hi, hxn]
theorem vol_E (c : Nat) (b : Nat → Nat → Int) (n : Nat) : volE c b n = vol c b n := (gm_det c n b b).symm
theorem lam_E (c : Nat) (b : Nat → Nat → Int) (k q : Nat) : lamE c b k q = lam c b k q := by
 unfold lam lamE
 rw [F_vol, gm_det]
 refine detF_upto (q + 1) _ _ (fun i j _ _ => ?_)
 show ip c _ _ = ip c _ _
 by_cases e : j = q
 ·rw [if_pos e, e]
 ·rw [if_neg e]
theorem tk_take (f : Nat → Nat → Int) (k q : Nat) (s : Int) : tkR f k q s = takeF f k q s := by
 funext i j
 unfold tkR takeF
 by_cases e : i = k
 ·rw [if_pos e, if_pos e, Int.one_mul, Int.neg_mul, Int.mul_comm]; omega
 ·rw [if_neg e, if_neg e]
theorem les_all {c k : Nat} {b : Nat → Nat → Int} (hk : k ≤ 3) (hv : ∀ i, i ≤ k → 0 < vol c b i) : ∀ j, j ≤ k → (∀ n, n ≤ 4 → vol c (lesN c k b j) n = vol c b n) ∧ (∀ q, k - j ≤ q → q < k → 2 * lam c (lesN c k b j) k q ≤ vol c b (q + 1) ∧ -(2 * lam c (lesN c k b j) k q) ≤ vol c b (q + 1)) ∧ ∀ i, i ≠ k → lesN c k b j i = b i := by
 intro j
 induction j with
 | zero => intro _; exact ⟨fun _ _ => rfl, fun q h1 h2 => by omega, fun _ _ => rfl⟩
 | succ j ih =>
   intro hj
   obtain ⟨h1, h2, h3⟩ := ih (by omega)
   have hq : k - 1 - j < k := by omega
   refine ⟨fun n hn => ?_, fun q hq1 hq2 => ?_, fun i hi => ?_⟩
   ·rw [lesN, tk_take, vol_take _ _ hq n hn, h1 n hn]
   ·rw [lesN, tk_take, lam_take _ _ hq hk hq2 (by omega)]
    by_cases e : q = k - 1 - j
    ·rw [if_pos e, ← e]
     unfold shE
     rw [lam_E, vol_E, h1 (q + 1) (by omega)]
     have := near_box (x := lam c (lesN c k b j) k q) (hv (q + 1) (by omega))
     omega
    ·rw [if_neg e, Int.sub_zero]
     exact h2 q (by omega) hq2
   ·rw [lesN, tk_take]
    unfold takeF
    rw [if_neg hi, h3 i hi]
theorem les_pos {c k : Nat} {b : Nat → Nat → Int} (hk : k ≤ 3) (hv : ∀ i, i ≤ k → 0 < vol c b i) (j : Nat) (hj : j < k) : 0 < volE c (lesN c k b j) (k - 1 - j + 1) := by
 rw [vol_E, (les_all hk hv j (by omega)).1 _ (by omega)]
 exact hv _ (by omega)
open Go.RowKit
def lgN : Nat → Nat → Nat
  | 0, _ => 0
  | f + 1, v => if v ≤ 1 then 0 else 1 + lgN f ((3 * v - 1) / 4)
theorem lgN_same : ∀ f g v, v ≤ f → v ≤ g → lgN f v = lgN g v
  | 0, 0, _, _, _ => rfl
  | 0, g + 1, v, h, _ => by rw [lgN, lgN, if_pos (by omega)]
  | f + 1, 0, v, _, h => by rw [lgN, lgN, if_pos (by omega)]
  | f + 1, g + 1, v, h, h' => by
    rw [lgN, lgN]
    by_cases e : v ≤ 1
    · rw [if_pos e, if_pos e]
    · rw [if_neg e, if_neg e, lgN_same f g _ (by omega) (by omega)]
def lgf (v : Nat) : Nat := lgN v v
theorem lgf_low {v : Nat} (h : v ≤ 1) : lgf v = 0 := by
  unfold lgf
  rw [lgN_same v (v + 1) v (by omega) (by omega), lgN, if_pos h]
theorem lgf_up {v : Nat} (h : ¬ v ≤ 1) : lgf v = 1 + lgf ((3 * v - 1) / 4) := by
  unfold lgf
  rw [lgN_same v (v + 1) v (by omega) (by omega), lgN, if_neg h, lgN_same v ((3 * v - 1) / 4) _ (by omega) (by omega)]
theorem lgf_mono : ∀ v u, u ≤ v → lgf u ≤ lgf v := by
 intro v
 induction v using Nat.strongRecOn with
 | _ v ih =>
   intro u hu
   by_cases h : u ≤ 1
   ·rw [lgf_low h]; exact Nat.zero_le _
   ·rw [lgf_up h, lgf_up (v := v) (by omega)]
    have := ih ((3 * v - 1) / 4) (by omega) ((3 * u - 1) / 4) (by omega)
    omega
theorem lgf_less {u v : Nat} (hu : 1 ≤ u) (h : 4 * u < 3 * v) : lgf u + 1 ≤ lgf v := by
 rw [lgf_up (v := v) (by omega)]
 have := lgf_mono ((3 * v - 1) / 4) u (by omega)
 omega
theorem lgf_step (v : Nat) : lgf v ≤ 1 + lgf ((3 * v - 1) / 4) := by
 by_cases h : v ≤ 1
 ·rw [lgf_low h]; omega
 ·rw [lgf_up h]; exact Nat.le_refl _
theorem lgf_bits : ∀ m v, v < 2 ^ m → lgf v ≤ 3 * m := by
 intro m
 induction m with
 | zero => intro v hv; rw [lgf_low (by simp at hv; omega)]; exact Nat.zero_le _
 | succ m ih =>
   intro v hv
   have hp := Nat.two_pow_pos m
   rw [Nat.pow_succ] at hv
   have h1 := lgf_step v
   have h2 := lgf_step ((3 * v - 1) / 4)
   have h3 := lgf_step ((3 * ((3 * v - 1) / 4) - 1) / 4)
   have h4 := ih ((3 * ((3 * ((3 * v - 1) / 4) - 1) / 4) - 1) / 4) (by omega)
   omega
def phi (c : Nat) (b : Nat → Nat → Int) : Nat → Nat
 | 0 => 0
 | z + 1 => phi c b z + lgf (vol c b (z + 1)).toNat
theorem phi_congr {c : Nat} {b b' : Nat → Nat → Int} : ∀ z, (∀ i, i ≤ z → vol c b' i = vol c b i) → phi c b' z = phi c b z
 | 0, _ => rfl
 | z + 1, h => by rw [phi, phi, phi_congr z (fun i hi => h i (by omega)), h (z + 1) (Nat.le_refl _)]
theorem phi_mono (c : Nat) (b : Nat → Nat → Int) {z z' : Nat} (h : z' ≤ z) : phi c b z' ≤ phi c b z := by
 induction h with
 | refl => exact Nat.le_refl _
 | step _ ih => rw [phi]; omega
theorem phi_less {c k : Nat} {b b' : Nat → Nat → Int} (h1 : 0 < vol c b' (k + 1)) (h2 : 4 * vol c b' (k + 1) < 3 * vol c b (k + 1)) : ∀ z, k + 1 ≤ z → (∀ i, i ≤ z → i ≠ k + 1 → vol c b' i = vol c b i) → phi c b' z + 1 ≤ phi c b z := by
 intro z
 induction z with
 | zero => intro h; omega
 | succ z ih =>
   intro hz hv
   rw [phi, phi]
   by_cases e : z = k
   ·subst e
    rw [phi_congr z (fun i hi => hv i (by omega) (by omega))]
    have := lgf_less (u := (vol c b' (z + 1)).toNat) (v := (vol c b (z + 1)).toNat) (by omega) (by omega)
    omega
   ·rw [hv (z + 1) (Nat.le_refl _) (by omega)]
    have := ih (by omega) (fun i hi hne => hv i (by omega) hne)
    omega
theorem QSt.vol_le {c n k z X : Nat} {b : Nat → Nat → Int} (h : QSt c n k z X b) (hX : X ≤ 2 ^ 102) : ∀ i, i ≤ z → vol c b i ≤ ((2 ^ (102 * i) : Nat) : Int) := by
 intro i
 induction i with
 | zero => intro _; rw [vol_zero]; decide
 | succ i ih =>
   intro hi
   have h1 := ih (by omega)
   have h2 := h.rat i (by omega)
   have h3 := h.pos i (by omega)
   have h4 : (X : Int) * vol c b i ≤ ((2 ^ 102 : Nat) : Int) * ((2 ^ (102 * i) : Nat) : Int) := Int.mul_le_mul (by omega) h1 (by omega) (by omega)
   have h5 : 2 ^ (102 * (i + 1)) = 2 ^ 102 * 2 ^ (102 * i) := by rw [← Nat.pow_add]; congr 1; omega
   rw [h5, Int.natCast_mul]
   omega
theorem lgf_vol {c n k z X : Nat} {b : Nat → Nat → Int} (h : QSt c n k z X b) (hX : X ≤ 2 ^ 102) {i : Nat} (hi : i ≤ z) : lgf (vol c b i).toNat ≤ 3 * (102 * i + 1) := by
 refine lgf_bits _ _ ?_
 have h1 := h.vol_le hX i hi
 have h2 : 2 ^ (102 * i) < 2 ^ (102 * i + 1) := Nat.pow_lt_pow_right (by decide) (by omega)
 omega
theorem QSt.phi_top {c n k z X : Nat} {b : Nat → Nat → Int} (h : QSt c n k z X b) (hX : X ≤ 2 ^ 102) : phi c b z ≤ 3072 := by
 have hz : z ≤ 4 := Nat.le_trans h.zn h.n4
 obtain rfl | rfl | rfl | rfl | rfl : z = 0 ∨ z = 1 ∨ z = 2 ∨ z = 3 ∨ z = 4 := by omega
 ·exact Nat.zero_le _
 ·simp only [phi]
  have := lgf_vol h hX (i := 0 + 1) (by omega)
  omega
 ·simp only [phi]
  have := lgf_vol h hX (i := 0 + 1) (by omega)
  have := lgf_vol h hX (i := 1 + 1) (by omega)
  omega
 ·simp only [phi]
  have := lgf_vol h hX (i := 0 + 1) (by omega)
  have := lgf_vol h hX (i := 1 + 1) (by omega)
  have := lgf_vol h hX (i := 2 + 1) (by omega)
  omega
 ·simp only [phi]
  have := lgf_vol h hX (i := 0 + 1) (by omega)
  have := lgf_vol h hX (i := 1 + 1) (by omega)
  have := lgf_vol h hX (i := 2 + 1) (by omega)
  have := lgf_vol h hX (i := 3 + 1) (by omega)
  omega
def meas (c n k z : Nat) (b : Nat → Nat → Int) : Nat := 6300 * n + 2 * phi c b z + 2 * z + (n - k)
theorem lam_sq {c k q : Nat} {b : Nat → Nat → Int} (hq : q ≤ 2) (hv : ∀ i, i ≤ q + 1 → 0 < vol c b i) : lam c b k q * lam c b k q ≤ ip c (b k) (b k) * vol c b q * vol c b (q + 1) := by
 have h1 := F_next c b q hq (b k) (b k)
 rw [F_sym c b q (by omega) (b q) (b k)] at h1
 have h2 := F_psd c b (q + 1) (by omega) hv (b k)
 have h3 := F_len (c := c) (b := b) (q := q) (by omega) (fun i hi => hv i (by omega)) (b k)
 have d0 := hv q (by omega)
 have d1 := hv (q + 1) (Nat.le_refl _)
 have h4 : 0 ≤ Fq c b (q + 1) (b k) (b k) * vol c b q := Int.mul_nonneg h2 (by omega)
 have h5 : Fq c b q (b k) (b k) * vol c b (q + 1) ≤ ip c (b k) (b k) * vol c b q * vol c b (q + 1) := Int.mul_le_mul_of_nonneg_right h3 (by omega)
 unfold lam
 omega
theorem near_le {l d N : Int} (hd : 0 < d) (hN : 0 ≤ N) (h : l * l ≤ N * d) : nearF l d ≤ N ∧ -N ≤ nearF l d := by
 have hb := near_box (x := l) hd
 have hNd : 0 ≤ N * d := Int.mul_nonneg hN (by omega)
 have h1 : l ≤ N * d ∧ -l ≤ N * d := by
  generalize N * d = M at *
  constructor
  ·rcases Int.lt_or_le M l with h2 | h2
   ·have : (M + 1) * (M + 1) ≤ l * l := Int.mul_le_mul (by omega) (by omega) (by omega) (by omega)
    have : (M + 1) * (M + 1) = M * M + 2 * M + 1 := by grind
    have := sq_nonneg M
    omega
   ·exact h2
  ·rcases Int.lt_or_le M (-l) with h2 | h2
   ·have : (M + 1) * (M + 1) ≤ -l * -l := Int.mul_le_mul (by omega) (by omega) (by omega) (by omega)
    have : (M + 1) * (M + 1) = M * M + 2 * M + 1 := by grind
    have : -l * -l = l * l := by grind
    have := sq_nonneg M
    omega
   ·exact h2
 generalize nearF l d = s at *
 constructor
 ·have : (2 * s) * d ≤ (2 * N + 1) * d := by grind
  have := Int.le_of_mul_le_mul_right this hd
  omega
 ·have : (2 * -s) * d ≤ (2 * N + 1) * d := by grind
  have := Int.le_of_mul_le_mul_right this hd
  omega
theorem ip_bits {c B : Nat} {x : Nat → Int} (h : ∀ j, j < c → (x j).natAbs < 2 ^ B) : ip c x x ≤ (c : Int) * ((2 ^ (2 * B) : Nat) : Int) := by
 induction c with
 | zero => simp [ip, sm]
 | succ c ih =>
   have h1 := ih (fun j hj => h j (by omega))
   have h2 := h c (by omega)
   have h3 : x c * x c ≤ ((2 ^ (2 * B) : Nat) : Int) := by
    have e1 : x c * x c = (((x c).natAbs * (x c).natAbs : Nat) : Int) := Int.natAbs_mul_self.symm
    have e2 : 2 ^ (2 * B) = 2 ^ B * 2 ^ B := by rw [← Nat.pow_add]; congr 1; omega
    have e3 : (x c).natAbs * (x c).natAbs ≤ 2 ^ B * 2 ^ B := Nat.mul_le_mul (by omega) (by omega)
    rw [e1, e2]
    exact Int.ofNat_le.2 e3
   unfold ip at h1 ⊢
   rw [sm]
   generalize ((2 ^ (2 * B) : Nat) : Int) = P at *
   have : ((c + 1 : Nat) : Int) * P = c * P + P := by push_cast; grind
   omega
theorem sh_bits {c k q B : Nat} {b : Nat → Nat → Int} (hc : c ≤ 4) (hq : q ≤ 2) (hv : ∀ i, i ≤ q + 1 → 0 < vol c b i) (hV : vol c b q ≤ ((2 ^ 204 : Nat) : Int)) (h : ∀ j, j < c → (b k j).natAbs < 2 ^ B) : (shE c b k q).natAbs < 2 ^ (2 * B + 207) := by
 have h1 := lam_sq (k := k) hq hv
 have d0 := hv q (by omega)
 have d1 := hv (q + 1) (Nat.le_refl _)
 have h2 := ip_bits h
 have h3 := ip_nonneg c (b k)
 have hN : 0 ≤ ip c (b k) (b k) * vol c b q := Int.mul_nonneg h3 (by omega)
 have h4 := near_le d1 hN h1
 unfold shE
 rw [lam_E, vol_E]
 have h5 : ip c (b k) (b k) ≤ ((2 ^ (2 * B + 2) : Nat) : Int) := by
  have : 2 ^ (2 * B + 2) = 4 * 2 ^ (2 * B) := by rw [Nat.pow_add, Nat.mul_comm]
  rw [this, Int.natCast_mul]
  have : (c : Int) * ((2 ^ (2 * B) : Nat) : Int) ≤ 4 * ((2 ^ (2 * B) : Nat) : Int) := Int.mul_le_mul_of_nonneg_right (by omega) (by omega)
  omega
 have h6 : ip c (b k) (b k) * vol c b q ≤ ((2 ^ (2 * B + 2) : Nat) : Int) * ((2 ^ 204 : Nat) : Int) := Int.mul_le_mul h5 hV (by omega) (by omega)
 have h7 : 2 ^ (2 * B + 207) = 2 * (2 ^ (2 * B + 2) * 2 ^ 204) := by
  have e1 : 2 ^ (2 * B + 207) = 2 ^ (2 * B) * 2 ^ 207 := Nat.pow_add _ _ _
  have e2 : 2 ^ (2 * B + 2) = 2 ^ (2 * B) * 2 ^ 2 := Nat.pow_add _ _ _
  rw [e1, e2]
  generalize 2 ^ (2 * B) = P
  omega
 have h8 : 0 < 2 ^ (2 * B + 2) * 2 ^ 204 := Nat.mul_pos (Nat.two_pow_pos _) (Nat.two_pow_pos _)
 rw [← Int.natCast_mul] at h6
 omega
theorem take_bits {x y s : Int} {a σ : Nat} (hx : x.natAbs < 2 ^ a) (hy : y.natAbs < 2 ^ a) (hs : s.natAbs < 2 ^ σ) : (x - y * s).natAbs < 2 ^ (a + σ + 1) := by
 have h1 : (x - y * s).natAbs ≤ x.natAbs + (y * s).natAbs := Int.natAbs_sub_le x (y * s)
 rw [Int.natAbs_mul] at h1
 have h2 : y.natAbs * s.natAbs ≤ 2 ^ a * 2 ^ σ := Nat.mul_le_mul (by omega) (by omega)
 have h3 : 2 ^ (a + σ + 1) = 2 ^ a * 2 ^ σ + 2 ^ a * 2 ^ σ := by rw [Nat.pow_succ, Nat.pow_add]; omega
 have h4 : 2 ^ a * 1 ≤ 2 ^ a * 2 ^ σ := Nat.mul_le_mul_left _ (Nat.two_pow_pos σ)
 omega
def eB : Nat → Nat
 | 0 => 52
 | j + 1 => 3 * eB j + 208
def tS : Nat → Nat
 | 0 => 0
 | j + 1 => tS j + (2 * eB j + 207) + 1
theorem eB_ge (j : Nat) : 52 ≤ eB j := by
 cases j with
 | zero => exact Nat.le_refl _
 | succ j => rw [eB]; omega
theorem pow_lift {x a b : Nat} (h : x < 2 ^ a) (hab : a ≤ b) : x < 2 ^ b := Nat.lt_of_lt_of_le h (Nat.pow_le_pow_right (by decide) hab)
theorem les_bits {c m n k T0 : Nat} {b t : Nat → Nat → Int} (hk : k ≤ 3) (hkn : k < n) (hc : c ≤ 4) (hv : ∀ i, i ≤ k → 0 < vol c b i) (hV : ∀ q, q ≤ 2 → q ≤ k → vol c b q ≤ ((2 ^ 204 : Nat) : Int)) (hb : ∀ i j, i < n → j < c → (b i j).natAbs < 2 ^ 52) (ht : ∀ i j, i < n → j < m → (t i j).natAbs < 2 ^ T0) :
 ∀ j, j ≤ k → (∀ a, a < c → (lesN c k b j k a).natAbs < 2 ^ eB j) ∧ ∀ i a, i < n → a < m → (lesT c k b t j i a).natAbs < 2 ^ (T0 + tS j) := by
 intro j
 induction j with
 | zero => intro _; exact ⟨fun a ha => hb k a hkn ha, ht⟩
 | succ j ih =>
   intro hj
   obtain ⟨h1, h2⟩ := ih (by omega)
   obtain ⟨v1, -, v3⟩ := les_all hk hv j (by omega)
   have hs := sh_bits (b := lesN c k b j) (k := k) (q := k - 1 - j) hc (by omega) (fun i hi => by rw [v1 i (by omega)]; exact hv i (by omega)) (by rw [v1 _ (by omega)]; exact hV _ (by omega) (by omega)) h1
   refine ⟨fun a ha => ?_, fun i a hi ha => ?_⟩
   ·rw [lesN]
    unfold tkR
    rw [if_pos rfl, v3 _ (show k - 1 - j ≠ k by omega)]
    have := take_bits (h1 a ha) (pow_lift (hb (k - 1 - j) a (by omega) ha) (eB_ge j)) hs
    rw [eB]
    exact pow_lift this (by omega)
   ·rw [lesT]
    unfold tkR
    by_cases e : i = k
    ·rw [if_pos e]
     exact pow_lift (take_bits (h2 k a hkn ha) (h2 (k - 1 - j) a (by omega) ha) hs) (by rw [tS]; omega)
    ·rw [if_neg e]
     exact pow_lift (h2 i a hi ha) (by rw [tS]; omega)
end Go.Proofs.YtfjbijpagaipnabGreatDoor.R
