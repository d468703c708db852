import Derived.Test.YtfjbijpagaipnaaGreatDoorC34
namespace Go.Proofs.YtfjbijpagaipnaaGreatDoor
structure EchSt (r e t : Nat) (pc : Nat → Nat) (H : Nat → Nat → Int) : Prop where
 le : t ≤ r
 te : t ≤ e
 col : ∀ b, b < t → pc b < e
 up : ∀ a b, a < b → b < t → pc a < pc b
 piv : ∀ b, b < t → 0 < H b (pc b)
 left : ∀ b, b < t → ∀ j, j < pc b → H b j = 0
 below : ∀ b, b < t → ∀ i, b < i → i < r → H i (pc b) = 0
 above : ∀ b, b < t → ∀ i, i < b → 0 ≤ H i (pc b) ∧ H i (pc b) < H b (pc b)
 rest : ∀ i, t ≤ i → i < r → ∀ j, j < e → H i j = 0
theorem EchSt.start (r : Nat) (pc : Nat → Nat) (H : Nat → Nat → Int) : EchSt r 0 0 pc H :=
 ⟨Nat.zero_le _, Nat.zero_le _, fun b h => by omega, fun a b _ h => by omega, fun b h => by omega, fun b h => by omega, fun b h => by omega, fun b h => by omega, fun i _ _ j h => by omega⟩
theorem EchSt.skip {r e t : Nat} {pc : Nat → Nat} {H : Nat → Nat → Int} (h : EchSt r e t pc H) (hz : ∀ i, t ≤ i → i < r → H i e = 0) : EchSt r (e + 1) t pc H :=
 ⟨h.le, by have := h.te; omega, fun b hb => by have := h.col b hb; omega, h.up, h.piv, h.left, h.below, h.above, fun i a b j hj => by
   by_cases hje : j = e
   ·rw [hje]; exact hz i a b
   ·exact h.rest i a b j (by omega)⟩
theorem EchSt.pivot {r c e t KH KU KW : Nat} {pc : Nat → Nat} {H U H' U' W' : Nat → Nat → Int} (h : EchSt r e t pc H) (ht : t < r) (hec : e < c) (g : GaEnd H U r c t e H' U' W' KH KU KW) : EchSt r (e + 1) (t + 1) (fun b => if b = t then e else pc b) H' := by
 have hz : ∀ j, j < e → ∀ i, t ≤ i → i < r → H' i j = 0 := fun j hj => g.zero j (by omega) (fun i a b => h.rest i a b j hj)
 have hlow : ∀ i j, i < t → j < e → H' i j = H i j := fun i j a b => by
  rw [g.topH i j a (by omega), hz j b t (Nat.le_refl _) ht]; simp
 refine ⟨by omega, by have := h.te; omega, fun b hb => ?_, fun a b hab hb => ?_, fun b hb => ?_, fun b hb j hj => ?_, fun b hb i hi hir => ?_, fun b hb i hi => ?_, fun i a b j hj => ?_⟩
 ·show (if b = t then e else pc b) < e + 1
  split
  ·omega
  ·have := h.col b (by omega); omega
 ·show (if a = t then e else pc a) < (if b = t then e else pc b)
  rw [if_neg (by omega)]
  split
  ·exact h.col a (by omega)
  ·exact h.up a b hab (by omega)
 ·show 0 < H' b (if b = t then e else pc b)
  split
  ·rename_i hbt; rw [hbt]; exact g.pos
  ·have := h.col b (by omega)
   rw [hlow b (pc b) (by omega) this]; exact h.piv b (by omega)
 ·have hj' : j < (if b = t then e else pc b) := hj
  by_cases hbt : b = t
  ·rw [if_pos hbt] at hj'; rw [hbt]; exact hz j hj' t (Nat.le_refl _) ht
  ·rw [if_neg hbt] at hj'
   have := h.col b (by omega)
   rw [hlow b j (by omega) (by omega)]; exact h.left b (by omega) j hj'
 ·show H' i (if b = t then e else pc b) = 0
  by_cases hbt : b = t
  ·rw [if_pos hbt]; exact g.below i (by omega) hir
  ·rw [if_neg hbt]
   have := h.col b (by omega)
   by_cases hit : i < t
   ·rw [hlow i _ hit this]; exact h.below b (by omega) i hi hir
   ·exact hz _ this i (by omega) hir
 ·show 0 ≤ H' i (if b = t then e else pc b) ∧ H' i (if b = t then e else pc b) < H' b (if b = t then e else pc b)
  by_cases hbt : b = t
  ·subst hbt; rw [if_pos rfl]; exact g.above i hi
  ·rw [if_neg hbt]
   have := h.col b (by omega)
   rw [hlow i _ (by omega) this, hlow b _ (by omega) this]; exact h.above b (by omega) i hi
 ·by_cases hje : j = e
  ·rw [hje]; exact g.below i (by omega) b
  ·exact hz j (by omega) i (by omega) b
def bB (r β : Nat) : Nat → Nat
 | 0 => β
 | t + 1 => if t + 1 < r then 10 * bB r β t + 3 else bB r β t
def hB (r β : Nat) : Nat → Nat
 | 0 => β
 | t + 1 => hB r β t + bB r β (t + 1) + 1
def uA (r β u t : Nat) : Nat := if t + 1 < r then u + 9 * bB r β t + 3 else u
def uB (r β : Nat) : Nat → Nat
 | 0 => 1
 | t + 1 => uA r β (uB r β t) t + hB r β t + 4
theorem bB_le (r β t : Nat) : bB r β t ≤ hB r β t := by
 cases t with
 | zero => exact Nat.le_refl _
 | succ t => rw [hB]; omega
theorem hB_mono (r β : Nat) {s t : Nat} (h : s ≤ t) : hB r β s ≤ hB r β t := by
 induction t with
 | zero => rw [show s = 0 from by omega]; exact Nat.le_refl _
 | succ t ih =>
   by_cases hs : s = t + 1
   ·rw [hs]; exact Nat.le_refl _
   ·have := ih (by omega); rw [hB]; omega
theorem uA_ge (r β u t : Nat) : u ≤ uA r β u t := by unfold uA; split <;> omega
theorem uB_mono (r β : Nat) {s t : Nat} (h : s ≤ t) : uB r β s ≤ uB r β t := by
 induction t with
 | zero => rw [show s = 0 from by omega]; exact Nat.le_refl _
 | succ t ih =>
   by_cases hs : s = t + 1
   ·rw [hs]; exact Nat.le_refl _
   ·have := ih (by omega); have := uA_ge r β (uB r β t) t; rw [uB]; omega
structure EB (H U W : Nat → Nat → Int) (r c t β : Nat) : Prop where
 a : ∀ i j, t ≤ i → i < r → j < c → (H i j).natAbs < 2 ^ bB r β t
 h : ∀ i j, i < r → j < c → (H i j).natAbs < 2 ^ hB r β t
 u : ∀ i j, i < r → j < r → (U i j).natAbs < 2 ^ uB r β t
 w : ∀ i j, i < r → j < r → (W i j).natAbs < 2 ^ uB r β t
theorem grow_le (u b : Nat) : (2 ^ u - 1) * ((1 + 7 * (2 ^ b - 1)) * (2 ^ b - 1) ^ 8) ≤ 2 ^ (u + 9 * b + 3) - 1 := by
 have h1 : (2 ^ b - 1) ^ 8 ≤ (2 ^ b) ^ 8 := Nat.pow_le_pow_left (Nat.sub_le _ _) 8
 have hp : 0 < 2 ^ b := Nat.pow_pos (by decide)
 have h2 : (1 + 7 * (2 ^ b - 1)) * (2 ^ b - 1) ^ 8 ≤ (8 * 2 ^ b) * (2 ^ b) ^ 8 := Nat.mul_le_mul (by omega) h1
 have h3 : (8 * 2 ^ b) * (2 ^ b) ^ 8 = 2 ^ (9 * b + 3) := by
  rw [← Nat.pow_mul, show (8 : Nat) = 2 ^ 3 from rfl, ← Nat.pow_add, ← Nat.pow_add]
  congr 1
  omega
 have h4 := Nat.mul_le_mul_left (2 ^ u - 1) h2
 rw [h3] at h4
 have h5 : (2 ^ u - 1) * 2 ^ (9 * b + 3) = 2 ^ (u + 9 * b + 3) - 2 ^ (9 * b + 3) := by
  rw [Nat.sub_mul, Nat.one_mul, ← Nat.pow_add]
  congr 2
 have h6 : 0 < 2 ^ (9 * b + 3) := Nat.pow_pos (by decide)
 omega
theorem lt_sub {x n : Nat} (h : x < 2 ^ n) : x * 1 ≤ 2 ^ n - 1 := by omega
theorem EB.gaBd {H U W : Nat → Nat → Int} {r c t β : Nat} (h : EB H U W r c t β) {col : Nat} (hc : col < c) :
 (∀ i, t ≤ i → i < r → (H i col).natAbs ≤ 2 ^ bB r β t - 1) ∧ Bd H U W r c t 1 (2 ^ bB r β t - 1) (2 ^ uB r β t - 1) (2 ^ uB r β t - 1) ∧ 2 ^ bB r β t - 1 ≤ 2 ^ bB r β (t + 1) - 1 ∧ 2 ^ uB r β t - 1 ≤ 2 ^ uA r β (uB r β t) t - 1 ∧
 (t + 1 < r → (2 ^ bB r β t - 1) * ((1 + 7 * (2 ^ bB r β t - 1)) * (2 ^ bB r β t - 1) ^ 8) ≤ 2 ^ bB r β (t + 1) - 1 ∧ (2 ^ uB r β t - 1) * ((1 + 7 * (2 ^ bB r β t - 1)) * (2 ^ bB r β t - 1) ^ 8) ≤ 2 ^ uA r β (uB r β t) t - 1) := by
 refine ⟨fun i a b => by have := h.a i col a b hc; omega, ⟨fun i j a b d => lt_sub (h.a i j a b d), fun i j _ b d => lt_sub (h.u i j b d), fun i j b d => lt_sub (h.w i j b d)⟩, ?_, ?_, fun htr => ⟨?_, ?_⟩⟩
 ·have : 2 ^ bB r β t ≤ 2 ^ bB r β (t + 1) := Nat.pow_le_pow_right (by decide) (by rw [bB]; split <;> omega)
  omega
 ·have : 2 ^ uB r β t ≤ 2 ^ uA r β (uB r β t) t := Nat.pow_le_pow_right (by decide) (uA_ge _ _ _ _)
  omega
 ·have := grow_le (bB r β t) (bB r β t)
  rw [bB, if_pos htr]
  rw [show bB r β t + 9 * bB r β t + 3 = 10 * bB r β t + 3 from by omega] at this
  exact this
 ·have := grow_le (uB r β t) (bB r β t)
  unfold uA
  rw [if_pos htr]
  exact this
theorem sum_lt {x y q a b h : Nat} (hx : x < 2 ^ h) (hy : y ≤ 2 ^ b - 1) (hq : q < 2 ^ h) (ha : a ≤ x + y * q) : a < 2 ^ (b + h) := by
 have hp : 0 < 2 ^ b := Nat.pow_pos (by decide)
 have h1 : y * q ≤ (2 ^ b - 1) * (2 ^ h - 1) := Nat.mul_le_mul hy (by omega)
 have h2 : (2 ^ b - 1) * (2 ^ h - 1) + (2 ^ h - 1) = 2 ^ b * (2 ^ h - 1) := by
  rw [Nat.sub_mul, Nat.one_mul]
  have : 1 * (2 ^ h - 1) ≤ 2 ^ b * (2 ^ h - 1) := Nat.mul_le_mul_right _ hp
  omega
 have h3 : 2 ^ b * (2 ^ h - 1) < 2 ^ b * 2 ^ h := Nat.mul_lt_mul_of_pos_left (by omega) hp
 rw [← Nat.pow_add] at h3
 omega
theorem EB.next {H U W H' U' W' : Nat → Nat → Int} {r c t e β : Nat} (h : EB H U W r c t β) (ht : t < r) (hec : e < c) (g : GaEnd H U r c t e H' U' W' (2 ^ bB r β (t + 1) - 1) (2 ^ uA r β (uB r β t) t - 1) (2 ^ uA r β (uB r β t) t - 1)) : EB H' U' W' r c (t + 1) β := by
 have hpb : 0 < 2 ^ bB r β (t + 1) := Nat.pow_pos (by decide)
 have hpu : 0 < 2 ^ uA r β (uB r β t) t := Nat.pow_pos (by decide)
 have hq : ∀ i, i < t → ((H i e).fdiv (H' t e)).natAbs < 2 ^ hB r β t := fun i hi => Nat.lt_of_le_of_lt (fdiv_le _ _) (h.h i e (by omega) hec)
 refine ⟨fun i j a b d => ?_, fun i j a b => ?_, fun i j a b => ?_, fun i j a b => ?_⟩
 ·have := g.bdH i j (by omega) b d; omega
 ·by_cases hi : i < t
  ·rw [g.topH i j hi b]
   have h1 := Int.natAbs_sub_le (H i j) (H' t j * (H i e).fdiv (H' t e))
   rw [Int.natAbs_mul] at h1
   have h2 := sum_lt (h.h i j a b) (g.bdH t j (Nat.le_refl _) ht b) (hq i hi) h1
   have h3 : 2 ^ (bB r β (t + 1) + hB r β t) ≤ 2 ^ hB r β (t + 1) := Nat.pow_le_pow_right (by decide) (by rw [hB]; omega)
   omega
  ·have h1 := g.bdH i j (by omega) a b
   have h3 : 2 ^ bB r β (t + 1) ≤ 2 ^ hB r β (t + 1) := Nat.pow_le_pow_right (by decide) (bB_le _ _ _)
   omega
 ·by_cases hi : i < t
  ·rw [g.topU i j hi b]
   have h1 := Int.natAbs_sub_le (U i j) (U' t j * (H i e).fdiv (H' t e))
   rw [Int.natAbs_mul] at h1
   have h0 := h.u i j a b
   have h4 : 2 ^ uB r β t ≤ 2 ^ uA r β (uB r β t) t := Nat.pow_le_pow_right (by decide) (uA_ge _ _ _ _)
   have h5 := g.bdU t j (Nat.le_refl _) ht b
   have h6 := hq i hi
   have h7 : (U' t j).natAbs * ((H i e).fdiv (H' t e)).natAbs ≤ (2 ^ uA r β (uB r β t) t - 1) * (2 ^ hB r β t - 1) := Nat.mul_le_mul h5 (by omega)
   have h8 : (2 ^ uA r β (uB r β t) t - 1) * (2 ^ hB r β t - 1) + (2 ^ uA r β (uB r β t) t - 1) = (2 ^ uA r β (uB r β t) t - 1) * 2 ^ hB r β t := by
    rw [Nat.mul_sub, Nat.mul_one]
    have : (2 ^ uA r β (uB r β t) t - 1) * 1 ≤ (2 ^ uA r β (uB r β t) t - 1) * 2 ^ hB r β t := Nat.mul_le_mul_left _ (Nat.pow_pos (by decide))
    omega
   have h9 : (2 ^ uA r β (uB r β t) t - 1) * 2 ^ hB r β t < 2 ^ uA r β (uB r β t) t * 2 ^ hB r β t := Nat.mul_lt_mul_of_pos_right (by omega) (Nat.pow_pos (by decide))
   rw [← Nat.pow_add] at h9
   have h3 : 2 ^ (uA r β (uB r β t) t + hB r β t) ≤ 2 ^ uB r β (t + 1) := Nat.pow_le_pow_right (by decide) (by rw [uB]; omega)
   omega
  ·have h1 := g.bdU i j (by omega) a b
   have h3 : 2 ^ uA r β (uB r β t) t ≤ 2 ^ uB r β (t + 1) := Nat.pow_le_pow_right (by decide) (by rw [uB]; omega)
   omega
 ·have h1 := g.bdW (2 ^ hB r β t - 1) (fun i hi => by have := h.h i e (by omega) hec; omega) i j a b
  have h2 : (2 ^ hB r β t - 1) * (2 ^ uA r β (uB r β t) t - 1) ≤ 2 ^ hB r β t * (2 ^ uA r β (uB r β t) t - 1) := Nat.mul_le_mul_right _ (Nat.sub_le _ _)
  have hph : 0 < 2 ^ hB r β t := Nat.pow_pos (by decide)
  have h4 : 1 * (2 ^ uA r β (uB r β t) t - 1) ≤ 2 ^ hB r β t * (2 ^ uA r β (uB r β t) t - 1) := Nat.mul_le_mul_right _ hph
  have h5 : 2 ^ hB r β t * (2 ^ uA r β (uB r β t) t - 1) < 2 ^ hB r β t * 2 ^ uA r β (uB r β t) t := Nat.mul_lt_mul_of_pos_left (by omega) hph
  have h6 : 16 * (2 ^ hB r β t * 2 ^ uA r β (uB r β t) t) = 2 ^ uB r β (t + 1) := by
   rw [uB, show (16 : Nat) = 2 ^ 4 from rfl, ← Nat.pow_add, ← Nat.pow_add]
   congr 1
   omega
  omega
def Sp (H : Nat → Nat → Int) (k c : Nat) (v : Nat → Int) : Prop := ∃ x : Nat → Int, ∀ j, j < c → v j = sm (fun l => x l * H l j) k
theorem Sp.sub {H : Nat → Nat → Int} {k c : Nat} {v w : Nat → Int} (h : Sp H k c v) (h' : Sp H k c w) : Sp H k c (fun j => v j - w j) := by
 obtain ⟨x, hx⟩ := h
 obtain ⟨y, hy⟩ := h'
 refine ⟨fun l => x l - y l, fun j hj => ?_⟩
 show v j - w j = _
 rw [hx j hj, hy j hj, sm_sub]
 exact sm_congr k (fun l _ => by grind)
theorem Sp.row (H : Nat → Nat → Int) {k b : Nat} (c : Nat) (hb : b < k) : Sp H k c (H b) :=
 ⟨fun l => if l = b then 1 else 0, fun j _ => by
   rw [sm_one k b hb (fun l _ hne => by show (if l = b then (1 : Int) else 0) * H l j = 0; rw [if_neg hne]; simp)]
   simp⟩
theorem first_ne (x : Nat → Int) (k : Nat) : (∀ l, l < k → x l = 0) ∨ ∃ b, b < k ∧ x b ≠ 0 ∧ ∀ l, l < b → x l = 0 := by
 induction k with
 | zero => exact .inl (fun l h => by omega)
 | succ k ih =>
   rcases ih with h | ⟨b, h1, h2, h3⟩
   ·by_cases hk : x k = 0
    ·exact .inl (fun l hl => by
      by_cases e : l = k
      ·rw [e]; exact hk
      ·exact h l (by omega))
    ·exact .inr ⟨k, by omega, hk, h⟩
   ·exact .inr ⟨b, by omega, h2, h3⟩
theorem EchSt.lead {r c k : Nat} {pc : Nat → Nat} {H : Nat → Nat → Int} (h : EchSt r c k pc H) {v : Nat → Int} (hv : Sp H k c v) : (∀ j, j < c → v j = 0) ∨ ∃ b, b < k ∧ (∀ j, j < pc b → v j = 0) ∧ v (pc b) ≠ 0 ∧ H b (pc b) ∣ v (pc b) := by
 obtain ⟨x, hx⟩ := hv
 rcases first_ne x k with h0 | ⟨b, h1, h2, h3⟩
 ·exact .inl (fun j hj => by rw [hx j hj]; exact sm_zero k (fun l hl => by rw [h0 l hl]; simp))
 ·have hle := h.le
  have hcb := h.col b h1
  have hz : ∀ j, j < pc b → v j = 0 := fun j hj => by
   rw [hx j (by omega)]
   refine sm_zero k (fun l hl => ?_)
   by_cases hlb : l < b
   ·rw [h3 l hlb]; simp
   ·have : pc b ≤ pc l := by
     by_cases e : l = b
     ·rw [e]; exact Nat.le_refl _
     ·exact Nat.le_of_lt (h.up b l (by omega) hl)
    rw [h.left l hl j (by omega)]; simp
  have hp : v (pc b) = x b * H b (pc b) := by
   rw [hx _ hcb]
   refine sm_one k b h1 (fun l hl hne => ?_)
   by_cases hlb : l < b
   ·rw [h3 l hlb]; simp
   ·rw [h.below b h1 l (by omega) (by omega)]; simp
  have hpos := h.piv b h1
  refine .inr ⟨b, h1, hz, ?_, ?_⟩
  ·rw [hp]
   intro e
   rcases Int.mul_eq_zero.1 e with e | e
   ·exact h2 e
   ·omega
  ·rw [hp]; exact Int.dvd_mul_left _ _
theorem EchSt.match_ {r r' c k k' : Nat} {pc pc' : Nat → Nat} {H H' : Nat → Nat → Int} (h : EchSt r c k pc H) (h' : EchSt r' c k' pc' H') (hs : ∀ b, b < k → Sp H' k' c (H b)) (b : Nat) (hb : b < k) : ∃ b', b' < k' ∧ pc' b' = pc b ∧ H' b' (pc' b') ∣ H b (pc b) := by
 have hp := h.piv b hb
 have hc := h.col b hb
 rcases h'.lead (hs b hb) with h0 | ⟨b', h1, h2, h3, h4⟩
 ·have := h0 _ hc; omega
 ·have e : pc' b' = pc b := by
   rcases Nat.lt_trichotomy (pc' b') (pc b) with hlt | heq | hgt
   ·exact absurd (h.left b hb _ hlt) h3
   ·exact heq
   ·have := h2 _ hgt; omega
  rw [e] at h4
  exact ⟨b', h1, e, by rw [e]; exact h4⟩
theorem EchSt.cols {r r' c k k' : Nat} {pc pc' : Nat → Nat} {H H' : Nat → Nat → Int} (h : EchSt r c k pc H) (h' : EchSt r' c k' pc' H') (hs : ∀ b, b < k → Sp H' k' c (H b)) (hs' : ∀ b, b < k' → Sp H k c (H' b)) : ∀ b, b < k → b < k' ∧ pc' b = pc b := by
 intro b
 induction b using Nat.strongRecOn with
 | _ b ih =>
   intro hb
   obtain ⟨b', h1, h2, -⟩ := h.match_ h' hs b hb
   rcases Nat.lt_trichotomy b' b with hlt | heq | hgt
   ·have e1 := (ih b' hlt (by omega)).2
    have e2 := h.up b' b hlt hb
    omega
   ·subst heq; exact ⟨h1, h2⟩
   ·obtain ⟨b2, h3, h4, -⟩ := h'.match_ h hs' b (by omega)
    have e1 := h'.up b b' hgt h1
    have e2 : b2 < b := by
     rcases Nat.lt_trichotomy b2 b with hl | he | hg
     ·exact hl
     ·subst he; omega
     ·have := h.up b b2 hg h3; omega
    have e3 := ih b2 e2 (by omega)
    have e4 := h'.up b2 b e2 (by omega)
    omega
theorem EchSt.uniq {r r' c k k' : Nat} {pc pc' : Nat → Nat} {H H' : Nat → Nat → Int} (h : EchSt r c k pc H) (h' : EchSt r' c k' pc' H') (hs : ∀ b, b < k → Sp H' k' c (H b)) (hs' : ∀ b, b < k' → Sp H k c (H' b)) : k = k' ∧ ∀ b j, b < k → j < c → H b j = H' b j := by
 have c1 := h.cols h' hs hs'
 have c2 := h'.cols h hs' hs
 have hk : k = k' := by
  rcases Nat.lt_trichotomy k k' with hl | he | hg
  ·have := c2 k hl; omega
  ·exact he
  ·have := c1 k' hg; omega
 subst hk
 have hpiv : ∀ b, b < k → H b (pc b) = H' b (pc b) := fun b hb => by
  obtain ⟨b1, h1, h2, h3⟩ := h.match_ h' hs b hb
  obtain ⟨b2, h4, h5, h6⟩ := h'.match_ h hs' b hb
  have e1 := (c1 b hb).2
  have e2 : b1 = b := by
   rcases Nat.lt_trichotomy b1 b with hl | he | hg
   ·have := h'.up b1 b hl hb; omega
   ·exact he
   ·have := h'.up b b1 hg h1; omega
  have e3 : b2 = b := by
   rcases Nat.lt_trichotomy b2 b with hl | he | hg
   ·have := h.up b2 b hl hb; omega
   ·exact he
   ·have := h.up b b2 hg h4; omega
  subst e2
  subst e3
  rw [e1] at h3 h6
  have p1 := h.piv _ hb
  have p2 := h'.piv _ hb
  rw [e1] at p2
  exact Int.dvd_antisymm (by omega) (by omega) h6 h3
 refine ⟨rfl, fun b j hb hj => ?_⟩
 have hsp : Sp H k c (fun j => H b j - H' b j) := (Sp.row H c hb).sub (hs' b hb)
 rcases h.lead hsp with h0 | ⟨l, h1, h2, h3, h4⟩
 ·have e := h0 j hj
  have e2 : H b j - H' b j = 0 := e
  omega
 ·exfalso
  have e3 : H b (pc l) - H' b (pc l) ≠ 0 := h3
  have e4 : H l (pc l) ∣ H b (pc l) - H' b (pc l) := h4
  have cl := (c1 l h1).2
  rcases Nat.lt_trichotomy l b with hl | he | hg
  ·have a1 := h.below l h1 b hl (by have := h.le; omega)
   have a2 := h'.below l (c1 l h1).1 b hl (by have := h'.le; omega)
   rw [cl] at a2
   omega
  ·subst he
   have := hpiv l hb
   omega
  ·obtain ⟨a1, a2⟩ := h.above l h1 b hg
   have a3 := h'.above l (c1 l h1).1 b hg
   rw [cl, ← hpiv l h1] at a3
   obtain ⟨m, hm⟩ := e4
   have a5 : (H b (pc l) - H' b (pc l)).natAbs < (H l (pc l)).natAbs := by omega
   rw [hm, Int.natAbs_mul] at a5
   have a6 : m ≠ 0 := by
    intro e; rw [e, Int.mul_zero] at hm; omega
   have a7 := Nat.mul_le_mul_left (H l (pc l)).natAbs (show 1 ≤ m.natAbs by omega)
   omega
def exV (H : Nat → Nat → Int) (pc : Nat → Nat) (v : Nat → Int) : Nat → Nat → Int
 | 0 => v
 | t + 1 => fun j => exV H pc v t j - H t j * (exV H pc v t (pc t)).fdiv (H t (pc t))
def exQ (H : Nat → Nat → Int) (pc : Nat → Nat) (v : Nat → Int) (t : Nat) : Int := (exV H pc v t (pc t)).fdiv (H t (pc t))
theorem exV_sum (H : Nat → Nat → Int) (pc : Nat → Nat) (v : Nat → Int) (j : Nat) : ∀ t, v j = exV H pc v t j + sm (fun l => exQ H pc v l * H l j) t := by
 intro t
 induction t with
 | zero => simp [exV, sm]
 | succ t ih =>
   rw [exV, sm, ih]
   unfold exQ
   grind
theorem ex_back {H : Nat → Nat → Int} {pc : Nat → Nat} {v : Nat → Int} {k c : Nat} (h : ∀ j, j < c → exV H pc v k j = 0) (j : Nat) (hj : j < c) : v j = sm (fun l => exQ H pc v l * H l j) k := by
 have := exV_sum H pc v j k
 rw [h j hj] at this
 omega
theorem fdiv_just (x y : Int) (hy : y ≠ 0) : (x * y).fdiv y = x := by
 have h := rem_dvd (x := x * y) hy (Int.dvd_mul_left _ _)
 unfold rem at h
 have h2 : y * (x - (x * y).fdiv y) = 0 := by grind
 rcases Int.mul_eq_zero.1 h2 with h3 | h3
 ·exact absurd h3 hy
 ·omega
theorem EchSt.ex_span {r c k : Nat} {pc : Nat → Nat} {H : Nat → Nat → Int} (h : EchSt r c k pc H) {v : Nat → Int} (hv : Sp H k c v) (j : Nat) (hj : j < c) : exV H pc v k j = 0 := by
 obtain ⟨x, hx⟩ := hv
 have hle := h.le
 have key : ∀ t, t ≤ k → ∀ j, j < c → exV H pc v t j = sm (fun l => (if l < t then 0 else x l) * H l j) k := by
  intro t
  induction t with
  | zero => intro _ j hj; rw [exV, hx j hj]; exact sm_congr k (fun l _ => by rw [if_neg (by omega)])
  | succ t ih =>
    intro ht j hj
    have hc := h.col t (by omega)
    have hp := h.piv t (by omega)
    have e1 : exV H pc v t (pc t) = x t * H t (pc t) := by
     rw [ih (by omega) _ hc]
     rw [sm_one k t (by omega) (fun l hl hne => ?_)]
     ·rw [if_neg (Nat.lt_irrefl t)]
     ·show (if l < t then 0 else x l) * H l (pc t) = 0
      by_cases hlt : l < t
      ·rw [if_pos hlt]; simp
      ·rw [h.below t (by omega) l (by omega) (by omega)]; simp
    show exV H pc v t j - H t j * (exV H pc v t (pc t)).fdiv (H t (pc t)) = _
    rw [e1, fdiv_just _ _ (by omega), ih (by omega) j hj]
    have e2 : H t j * x t = sm (fun l => (if l = t then x t else 0) * H l j) k := by
     rw [sm_one k t (by omega) (fun l hl hne => by show (if l = t then x t else 0) * H l j = 0; rw [if_neg hne]; simp)]
     rw [if_pos rfl]; grind
    rw [e2, sm_sub]
    refine sm_congr k (fun l hl => ?_)
    by_cases hlt : l < t
    ·rw [if_pos hlt, if_neg (by omega), if_pos (by omega)]; simp
    ·by_cases he : l = t
     ·subst he; rw [if_neg (Nat.lt_irrefl l), if_pos rfl, if_pos (by omega)]; omega
     ·rw [if_neg hlt, if_neg he, if_neg (by omega)]; simp
 rw [key k (Nat.le_refl _) j hj]
 exact sm_zero k (fun l hl => by rw [if_pos hl]; simp)
theorem span_rows {r c k : Nat} {pc : Nat → Nat} {A H U W : Nat → Nat → Int} (h : EchSt r c k pc H) (hE : EInv A H U W r c) : (∀ i, i < r → Sp H k c (A i)) ∧ (∀ i, i < r → Sp A r c (H i)) := by
 have cut : ∀ (f : Nat → Int) n m, m ≤ n → (∀ l, m ≤ l → l < n → f l = 0) → sm f n = sm f m := by
  intro f n
  induction n with
  | zero => intro m hm _; rw [show m = 0 from by omega]
  | succ n ih =>
    intro m hm hz
    by_cases e : m = n + 1
    ·rw [e]
    ·rw [sm, hz n (by omega) (by omega), ih m (by omega) (fun l a b => hz l a (by omega))]; omega
 refine ⟨fun i hi => ⟨W i, fun j hj => ?_⟩, fun i hi => ⟨U i, fun j hj => ?_⟩⟩
 ·rw [← hE.wh i j hi hj, dot_sm]
  exact cut _ r k h.le (fun l a b => by rw [h.rest l a b j hj]; simp)
 ·rw [← hE.ua i j hi hj, dot_sm]
theorem Sp.trans {H A : Nat → Nat → Int} {k r c : Nat} {v : Nat → Int} (hv : Sp H k c v) (hH : ∀ i, i < k → Sp A r c (H i)) : Sp A r c v := by
 obtain ⟨x, hx⟩ := hv
 have key : ∀ n, n ≤ k → Sp A r c (fun j => sm (fun l => x l * H l j) n) := by
  intro n
  induction n with
  | zero => intro _; exact ⟨fun _ => 0, fun j _ => (sm_zero r (fun l _ => by simp)).symm⟩
  | succ n ih =>
    intro hn
    obtain ⟨y, hy⟩ := ih (by omega)
    obtain ⟨u, hu⟩ := hH n (by omega)
    refine ⟨fun l => y l + x n * u l, fun j hj => ?_⟩
    have e1 : sm (fun l => x l * H l j) n = sm (fun l => y l * A l j) r := hy j hj
    show sm (fun l => x l * H l j) (n + 1) = _
    rw [sm, e1, hu j hj]
    have := sm_lin 1 (x n) (fun l => y l * A l j) (fun l => u l * A l j) r
    rw [show sm (fun l => y l * A l j) r + x n * sm (fun l => u l * A l j) r = 1 * sm (fun l => y l * A l j) r + x n * sm (fun l => u l * A l j) r from by omega, ← this]
    exact sm_congr r (fun l _ => by grind)
 obtain ⟨y, hy⟩ := key k (Nat.le_refl _)
 exact ⟨y, fun j hj => by rw [hx j hj]; exact hy j hj⟩
def HasF (A : Nat → Nat → Int) (r c : Nat) : Prop := ∃ k pc H U W, EchSt r c k pc H ∧ EInv A H U W r c
end Go.Proofs.YtfjbijpagaipnaaGreatDoor
