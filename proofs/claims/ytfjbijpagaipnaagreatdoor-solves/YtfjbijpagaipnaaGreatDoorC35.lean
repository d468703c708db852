import Derived.Test.YtfjbijpagaipnaaGreatDoorC34
import Derived.Test.YtfjbijpagaipnaaGreatDoorC29
namespace Go.Proofs.YtfjbijpagaipnaaGreatDoor
structure EchSt (r e t : Nat) (pc : Nat → Nat) (H : Nat → Nat → Int) : Prop where
 le : t ≤ r
 te : t ≤ e
 col : ∀ b, b < t → pc b < e
 up : ∀ a b, a < b → b < t → pc a < pc b
 piv : ∀ b, b < t → 0 < H b (pc b)
 left : ∀ b, b < t → ∀ j, j < pc b → H b j = 0
 below : ∀ b, b < t → ∀ i, b < i → i < r → H i (pc b) = 0
 above : ∀ b, b < t → ∀ i, i < b → 0 ≤ H i (pc b) ∧ H i (pc b) < H b (pc b)
 rest : ∀ i, t ≤ i → i < r → ∀ j, j < e → H i j = 0
theorem EchSt.start (r : Nat) (pc : Nat → Nat) (H : Nat → Nat → Int) : EchSt r 0 0 pc H :=
 ⟨Nat.zero_le _, Nat.zero_le _, fun b h => by omega, fun a b _ h => by omega, fun b h => by omega, fun b h => by omega, fun b h => by omega, fun b h => by omega, fun i _ _ j h => by omega⟩
theorem EchSt.skip {r e t : Nat} {pc : Nat → Nat} {H : Nat → Nat → Int} (h : EchSt r e t pc H) (hz : ∀ i, t ≤ i → i < r → H i e = 0) : EchSt r (e + 1) t pc H :=
 ⟨h.le, by have := h.te; omega, fun b hb => by have := h.col b hb; omega, h.up, h.piv, h.left, h.below, h.above, fun i a b j hj => by
   by_cases hje : j = e
   ·rw [hje]; exact hz i a b
   ·exact h.rest i a b j (by omega)⟩
theorem EchSt.pivot {r c e t KH KU KW : Nat} {pc : Nat → Nat} {H U H' U' W' : Nat → Nat → Int} (h : EchSt r e t pc H) (ht : t < r) (hec : e < c) (g : GaEnd H U r c t e H' U' W' KH KU KW) : EchSt r (e + 1) (t + 1) (fun b => if b = t then e else pc b) H' := by
 have hz : ∀ j, j < e → ∀ i, t ≤ i → i < r → H' i j = 0 := fun j hj => g.zero j (by omega) (fun i a b => h.rest i a b j hj)
 have hlow : ∀ i j, i < t → j < e → H' i j = H i j := fun i j a b => by
  rw [g.topH i j a (by omega), hz j b t (Nat.le_refl _) ht]; simp
 refine ⟨by omega, by have := h.te; omega, fun b hb => ?_, fun a b hab hb => ?_, fun b hb => ?_, fun b hb j hj => ?_, fun b hb i hi hir => ?_, fun b hb i hi => ?_, fun i a b j hj => ?_⟩
 ·show (if b = t then e else pc b) < e + 1
  split
  ·omega
  ·have := h.col b (by omega); omega
 ·show (if a = t then e else pc a) < (if b = t then e else pc b)
  rw [if_neg (by omega)]
  split
  ·exact h.col a (by omega)
  ·exact h.up a b hab (by omega)
 ·show 0 < H' b (if b = t then e else pc b)
  split
  ·rename_i hbt; rw [hbt]; exact g.pos
  ·have := h.col b (by omega)
   rw [hlow b (pc b) (by omega) this]; exact h.piv b (by omega)
 ·have hj' : j < (if b = t then e else pc b) := hj
  by_cases hbt : b = t
  ·rw [if_pos hbt] at hj'; rw [hbt]; exact hz j hj' t (Nat.le_refl _) ht
  ·rw [if_neg hbt] at hj'
   have := h.col b (by omega)
   rw [hlow b j (by omega) (by omega)]; exact h.left b (by omega) j hj'
 ·show H' i (if b = t then e else pc b) = 0
  by_cases hbt : b = t
  ·rw [if_pos hbt]; exact g.below i (by omega) hir
  ·rw [if_neg hbt]
   have := h.col b (by omega)
   by_cases hit : i < t
   ·rw [hlow i _ hit this]; exact h.below b (by omega) i hi hir
   ·exact hz _ this i (by omega) hir
 ·show 0 ≤ H' i (if b = t then e else pc b) ∧ H' i (if b = t then e else pc b) < H' b (if b = t then e else pc b)
  by_cases hbt : b = t
  ·subst hbt; rw [if_pos rfl]; exact g.above i hi
  ·rw [if_neg hbt]
   have := h.col b (by omega)
   rw [hlow i _ (by omega) this, hlow b _ (by omega) this]; exact h.above b (by omega) i hi
 ·by_cases hje : j = e
  ·rw [hje]; exact g.below i (by omega) b
  ·exact hz j (by omega) i (by omega) b
def bB (r β : Nat) : Nat → Nat
 | 0 => β
 | t + 1 => if t + 1 < r then 10 * bB r β t + 3 else bB r β t
def hB (r β : Nat) : Nat → Nat
 | 0 => β
 | t + 1 => hB r β t + bB r β (t + 1) + 1
def uA (r β u t : Nat) : Nat := if t + 1 < r then u + 9 * bB r β t + 3 else u
def uB (r β : Nat) : Nat → Nat
 | 0 => 1
 | t + 1 => uA r β (uB r β t) t + hB r β t + 4
theorem bB_le (r β t : Nat) : bB r β t ≤ hB r β t := by
 cases t with
 | zero => exact Nat.le_refl _
 | succ t => rw [hB]; omega
theorem hB_mono (r β : Nat) {s t : Nat} (h : s ≤ t) : hB r β s ≤ hB r β t := by
 induction t with
 | zero => rw [show s = 0 from by omega]; exact Nat.le_refl _
 | succ t ih =>
   by_cases hs : s = t + 1
   ·rw [hs]; exact Nat.le_refl _
   ·have := ih (by omega); rw [hB]; omega
theorem uA_ge (r β u t : Nat) : u ≤ uA r β u t := by unfold uA; split <;> omega
theorem uB_mono (r β : Nat) {s t : Nat} (h : s ≤ t) : uB r β s ≤ uB r β t := by
 induction t with
 | zero => rw [show s = 0 from by omega]; exact Nat.le_refl _
 | succ t ih =>
   by_cases hs : s = t + 1
   ·rw [hs]; exact Nat.le_refl _
   ·have := ih (by omega); have := uA_ge r β (uB r β t) t; rw [uB]; omega
structure EB (H U W : Nat → Nat → Int) (r c t β : Nat) : Prop where
 a : ∀ i j, t ≤ i → i < r → j < c → (H i j).natAbs < 2 ^ bB r β t
 h : ∀ i j, i < r → j < c → (H i j).natAbs < 2 ^ hB r β t
 u : ∀ i j, i < r → j < r → (U i j).natAbs < 2 ^ uB r β t
 w : ∀ i j, i < r → j < r → (W i j).natAbs < 2 ^ uB r β t
theorem grow_le (u b : Nat) : (2 ^ u - 1) * ((1 + 7 * (2 ^ b - 1)) * (2 ^ b - 1) ^ 8) ≤ 2 ^ (u + 9 * b + 3) - 1 := by
 have h1 : (2 ^ b - 1) ^ 8 ≤ (2 ^ b) ^ 8 := Nat.pow_le_pow_left (Nat.sub_le _ _) 8
 have hp : 0 < 2 ^ b := Nat.pow_pos (by decide)
 have h2 : (1 + 7 * (2 ^ b - 1)) * (2 ^ b - 1) ^ 8 ≤ (8 * 2 ^ b) * (2 ^ b) ^ 8 := Nat.mul_le_mul (by omega) h1
 have h3 : (8 * 2 ^ b) * (2 ^ b) ^ 8 = 2 ^ (9 * b + 3) := by
  rw [← Nat.pow_mul, show (8 : Nat) = 2 ^ 3 from rfl, ← Nat.pow_add, ← Nat.pow_add]
  congr 1
  omega
 have h4 := Nat.mul_le_mul_left (2 ^ u - 1) h2
 rw [h3] at h4
 have h5 : (2 ^ u - 1) * 2 ^ (9 * b + 3) = 2 ^ (u + 9 * b + 3) - 2 ^ (9 * b + 3) := by
  rw [Nat.sub_mul, Nat.one_mul, ← Nat.pow_add]
  congr 2
 have h6 : 0 < 2 ^ (9 * b + 3) := Nat.pow_pos (by decide)
 omega
theorem lt_sub {x n : Nat} (h : x < 2 ^ n) : x * 1 ≤ 2 ^ n - 1 := by omega
theorem EB.gaBd {H U W : Nat → Nat → Int} {r c t β : Nat} (h : EB H U W r c t β) {col : Nat} (hc : col < c) :
 (∀ i, t ≤ i → i < r → (H i col).natAbs ≤ 2 ^ bB r β t - 1) ∧ Bd H U W r c t 1 (2 ^ bB r β t - 1) (2 ^ uB r β t - 1) (2 ^ uB r β t - 1) ∧ 2 ^ bB r β t - 1 ≤ 2 ^ bB r β (t + 1) - 1 ∧ 2 ^ uB r β t - 1 ≤ 2 ^ uA r β (uB r β t) t - 1 ∧
 (t + 1 < r → (2 ^ bB r β t - 1) * ((1 + 7 * (2 ^ bB r β t - 1)) * (2 ^ bB r β t - 1) ^ 8) ≤ 2 ^ bB r β (t + 1) - 1 ∧ (2 ^ uB r β t - 1) * ((1 + 7 * (2 ^ bB r β t - 1)) * (2 ^ bB r β t - 1) ^ 8) ≤ 2 ^ uA r β (uB r β t) t - 1) := by
 refine ⟨fun i a b => by have := h.a i col a b hc; omega, ⟨fun i j a b d => lt_sub (h.a i j a b d), fun i j _ b d => lt_sub (h.u i j b d), fun i j b d => lt_sub (h.w i j b d)⟩, ?_, ?_, fun htr => ⟨?_, ?_⟩⟩
 ·have : 2 ^ bB r β t ≤ 2 ^ bB r β (t + 1) := Nat.pow_le_pow_right (by decide) (by rw [bB]; split <;> omega)
  omega
 ·have : 2 ^ uB r β t ≤ 2 ^ uA r β (uB r β t) t := Nat.pow_le_pow_right (by decide) (uA_ge _ _ _ _)
  omega
 ·have := grow_le (bB r β t) (bB r β t)
  rw [bB, if_pos htr]
  rw [show bB r β t + 9 * bB r β t + 3 = 10 * bB r β t + 3 from by omega] at this
  exact this
 ·have := grow_le (uB r β t) (bB r β t)
  unfold uA
  rw [if_pos htr]
  exact this
theorem sum_lt {x y q a b h : Nat} (hx : x < 2 ^ h) (hy : y ≤ 2 ^ b - 1) (hq : q < 2 ^ h) (ha : a ≤ x + y * q) : a < 2 ^ (b + h) := by
 have hp : 0 < 2 ^ b := Nat.pow_pos (by decide)
 have h1 : y * q ≤ (2 ^ b - 1) * (2 ^ h - 1) := Nat.mul_le_mul hy (by omega)
 have h2 : (2 ^ b - 1) * (2 ^ h - 1) + (2 ^ h - 1) = 2 ^ b * (2 ^ h - 1) := by
  rw [Nat.sub_mul, Nat.one_mul]
  have : 1 * (2 ^ h - 1) ≤ 2 ^ b * (2 ^ h - 1) := Nat.mul_le_mul_right _ hp
  omega
 have h3 : 2 ^ b * (2 ^ h - 1) < 2 ^ b * 2 ^ h := Nat.mul_lt_mul_of_pos_left (by omega) hp
 rw [← Nat.pow_add] at h3
 omega
theorem EB.next {H U W H' U' W' : Nat → Nat → Int} {r c t e β : Nat} (h : EB H U W r c t β) (ht : t < r) (hec : e < c) (g : GaEnd H U r c t e H' U' W' (2 ^ bB r β (t + 1) - 1) (2 ^ uA r β (uB r β t) t - 1) (2 ^ uA r β (uB r β t) t - 1)) : EB H' U' W' r c (t + 1) β := by
 have hpb : 0 < 2 ^ bB r β (t + 1) := Nat.pow_pos (by decide)
 have hpu : 0 < 2 ^ uA r β (uB r β t) t := Nat.pow_pos (by decide)
 have hq : ∀ i, i < t → ((H i e).fdiv (H' t e)).natAbs < 2 ^ hB r β t := fun i hi => Nat.lt_of_le_of_lt (fdiv_le _ _) (h.h i e (by omega) hec)
 refine ⟨fun i j a b d => ?_, fun i j a b => ?_, fun i j a b => ?_, fun i j a b => ?_⟩
 ·have := g.bdH i j (by omega) b d; omega
 ·by_cases hi : i < t
  ·rw [g.topH i j hi b]
   have h1 := Int.natAbs_sub_le (H i j) (H' t j * (H i e).fdiv (H' t e))
   rw [Int.natAbs_mul] at h1
   have h2 := sum_lt (h.h i j a b) (g.bdH t j (Nat.le_refl _) ht b) (hq i hi) h1
   have h3 : 2 ^ (bB r β (t + 1) + hB r β t) ≤ 2 ^ hB r β (t + 1) := Nat.pow_le_pow_right (by decide) (by rw [hB]; omega)
   omega
  ·have h1 := g.bdH i j (by omega) a b
   have h3 : 2 ^ bB r β (t + 1) ≤ 2 ^ hB r β (t + 1) := Nat.pow_le_pow_right (by decide) (bB_le _ _ _)
   omega
 ·by_cases hi : i < t
  ·rw [g.topU i j hi b]
   have h1 := Int.natAbs_sub_le (U i j) (U' t j * (H i e).fdiv (H' t e))
   rw [Int.natAbs_mul] at h1
   have h0 := h.u i j a b
   have h4 : 2 ^ uB r β t ≤ 2 ^ uA r β (uB r β t) t := Nat.pow_le_pow_right (by decide) (uA_ge _ _ _ _)
   have h5 := g.bdU t j (Nat.le_refl _) ht b
   have h6 := hq i hi
   have h7 : (U' t j).natAbs * ((H i e).fdiv (H' t e)).natAbs ≤ (2 ^ uA r β (uB r β t) t - 1) * (2 ^ hB r β t - 1) := Nat.mul_le_mul h5 (by omega)
   have h8 : (2 ^ uA r β (uB r β t) t - 1) * (2 ^ hB r β t - 1) + (2 ^ uA r β (uB r β t) t - 1) = (2 ^ uA r β (uB r β t) t - 1) * 2 ^ hB r β t := by
    rw [Nat.mul_sub, Nat.mul_one]
    have : (2 ^ uA r β (uB r β t) t - 1) * 1 ≤ (2 ^ uA r β (uB r β t) t - 1) * 2 ^ hB r β t := Nat.mul_le_mul_left _ (Nat.pow_pos (by decide))
    omega
   have h9 : (2 ^ uA r β (uB r β t) t - 1) * 2 ^ hB r β t < 2 ^ uA r β (uB r β t) t * 2 ^ hB r β t := Nat.mul_lt_mul_of_pos_right (by omega) (Nat.pow_pos (by decide))
   rw [← Nat.pow_add] at h9
   have h3 : 2 ^ (uA r β (uB r β t) t + hB r β t) ≤ 2 ^ uB r β (t + 1) := Nat.pow_le_pow_right (by decide) (by rw [uB]; omega)
   omega
  ·have h1 := g.bdU i j (by omega) a b
   have h3 : 2 ^ uA r β (uB r β t) t ≤ 2 ^ uB r β (t + 1) := Nat.pow_le_pow_right (by decide) (by rw [uB]; omega)
   omega
 ·have h1 := g.bdW (2 ^ hB r β t - 1) (fun i hi => by have := h.h i e (by omega) hec; omega) i j a b
  have h2 : (2 ^ hB r β t - 1) * (2 ^ uA r β (uB r β t) t - 1) ≤ 2 ^ hB r β t * (2 ^ uA r β (uB r β t) t - 1) := Nat.mul_le_mul_right _ (Nat.sub_le _ _)
  have hph : 0 < 2 ^ hB r β t := Nat.pow_pos (by decide)
  have h4 : 1 * (2 ^ uA r β (uB r β t) t - 1) ≤ 2 ^ hB r β t * (2 ^ uA r β (uB r β t) t - 1) := Nat.mul_le_mul_right _ hph
  have h5 : 2 ^ hB r β t * (2 ^ uA r β (uB r β t) t - 1) < 2 ^ hB r β t * 2 ^ uA r β (uB r β t) t := Nat.mul_lt_mul_of_pos_left (by omega) hph
  have h6 : 16 * (2 ^ hB r β t * 2 ^ uA r β (uB r β t) t) = 2 ^ uB r β (t + 1) := by
   rw [uB, show (16 : Nat) = 2 ^ 4 from rfl, ← Nat.pow_add, ← Nat.pow_add]
   congr 1
   omega
  omega
def Sp (H : Nat → Nat → Int) (k c : Nat) (v : Nat → Int) : Prop := ∃ x : Nat → Int, ∀ j, j < c → v j = sm (fun l => x l * H l j) k
theorem Sp.sub {H : Nat → Nat → Int} {k c : Nat} {v w : Nat → Int} (h : Sp H k c v) (h' : Sp H k c w) : Sp H k c (fun j => v j - w j) := by
 obtain ⟨x, hx⟩ := h
 obtain ⟨y, hy⟩ := h'
 refine ⟨fun l => x l - y l, fun j hj => ?_⟩
 show v j - w j = _
 rw [hx j hj, hy j hj, sm_sub]
 exact sm_congr k (fun l _ => by grind)
theorem Sp.row (H : Nat → Nat → Int) {k b : Nat} (c : Nat) (hb : b < k) : Sp H k c (H b) :=
 ⟨fun l => if l = b then 1 else 0, fun j _ => by
   rw [sm_one k b hb (fun l _ hne => by show (if l = b then (1 : Int) else 0) * H l j = 0; rw [if_neg hne]; simp)]
   simp⟩
theorem first_ne (x : Nat → Int) (k : Nat) : (∀ l, l < k → x l = 0) ∨ ∃ b, b < k ∧ x b ≠ 0 ∧ ∀ l, l < b → x l = 0 := by
 induction k with
 | zero => exact .inl (fun l h => by omega)
 | succ k ih =>
   rcases ih with h | ⟨b, h1, h2, h3⟩
   ·by_cases hk : x k = 0
    ·exact .inl (fun l hl => by
      by_cases e : l = k
      ·rw [e]; exact hk
      ·exact h l (by omega))
    ·exact .inr ⟨k, by omega, hk, h⟩
   ·exact .inr ⟨b, by omega, h2, h3⟩
theorem EchSt.lead {r c k : Nat} {pc : Nat → Nat} {H : Nat → Nat → Int} (h : EchSt r c k pc H) {v : Nat → Int} (hv : Sp H k c v) : (∀ j, j < c → v j = 0) ∨ ∃ b, b < k ∧ (∀ j, j < pc b → v j = 0) ∧ v (pc b) ≠ 0 ∧ H b (pc b) ∣ v (pc b) := by
 obtain ⟨x, hx⟩ := hv
 rcases first_ne x k with h0 | ⟨b, h1, h2, h3⟩
 ·exact .inl (fun j hj => by rw [hx j hj]; exact sm_zero k (fun l hl => by rw [h0 l hl]; simp))
 ·have hle := h.le
  have hcb := h.col b h1
  have hz : ∀ j, j < pc b → v j = 0 := fun j hj => by
   rw [hx j (by omega)]
   refine sm_zero k (fun l hl => ?_)
   by_cases hlb : l < b
   ·rw [h3 l hlb]; simp
   ·have : pc b ≤ pc l := by
     by_cases e : l = b
     ·rw [e]; exact Nat.le_refl _
     ·exact Nat.le_of_lt (h.up b l (by omega) hl)
    rw [h.left l hl j (by omega)]; simp
  have hp : v (pc b) = x b * H b (pc b) := by
   rw [hx _ hcb]
   refine sm_one k b h1 (fun l hl hne => ?_)
   by_cases hlb : l < b
   ·rw [h3 l hlb]; simp
   ·rw [h.below b h1 l (by omega) (by omega)]; simp
  have hpos := h.piv b h1
  refine .inr ⟨b, h1, hz, ?_, ?_⟩
  ·rw [hp]
   intro e
   rcases Int.mul_eq_zero.1 e with e | e
   ·exact h2 e
   ·omega
  ·rw [hp]; exact Int.dvd_mul_left _ _
theorem EchSt.match_ {r r' c k k' : Nat} {pc pc' : Nat → Nat} {H H' : Nat → Nat → Int} (h : EchSt r c k pc H) (h' : EchSt r' c k' pc' H') (hs : ∀ b, b < k → Sp H' k' c (H b)) (b : Nat) (hb : b < k) : ∃ b', b' < k' ∧ pc' b' = pc b ∧ H' b' (pc' b') ∣ H b (pc b) := by
 have hp := h.piv b hb
 have hc := h.col b hb
 rcases h'.lead (hs b hb) with h0 | ⟨b', h1, h2, h3, h4⟩
 ·have := h0 _ hc; omega
 ·have e : pc' b' = pc b := by
   rcases Nat.lt_trichotomy (pc' b') (pc b) with hlt | heq | hgt
   ·exact absurd (h.left b hb _ hlt) h3
   ·exact heq
   ·have := h2 _ hgt; omega
  rw [e] at h4
  exact ⟨b', h1, e, by rw [e]; exact h4⟩
theorem EchSt.cols {r r' c k k' : Nat} {pc pc' : Nat → Nat} {H H' : Nat → Nat → Int} (h : EchSt r c k pc H) (h' : EchSt r' c k' pc' H') (hs : ∀ b, b < k → Sp H' k' c (H b)) (hs' : ∀ b, b < k' → Sp H k c (H' b)) : ∀ b, b < k → b < k' ∧ pc' b = pc b := by
 intro b
 induction b using Nat.strongRecOn with
 | _ b ih =>
   intro hb
   obtain ⟨b', h1, h2, -⟩ := h.match_ h' hs b hb
   rcases Nat.lt_trichotomy b' b with hlt | heq | hgt
   ·have e1 := (ih b' hlt (by omega)).2
    have e2 := h.up b' b hlt hb
    omega
   ·subst heq; exact ⟨h1, h2⟩
   ·obtain ⟨b2, h3, h4, -⟩ := h'.match_ h hs' b (by omega)
    have e1 := h'.up b b' hgt h1
    have e2 : b2 < b := by
     rcases Nat.lt_trichotomy b2 b with hl | he | hg
     ·exact hl
     ·subst he; omega
     ·have := h.up b b2 hg h3; omega
    have e3 := ih b2 e2 (by omega)
    have e4 := h'.up b2 b e2 (by omega)
    omega
def exV (H : Nat → Nat → Int) (pc : Nat → Nat) (v : Nat → Int) : Nat → Nat → Int
 | 0 => v
 | t + 1 => fun j => exV H pc v t j - H t j * (exV H pc v t (pc t)).fdiv (H t (pc t))
def exQ (H : Nat → Nat → Int) (pc : Nat → Nat) (v : Nat → Int) (t : Nat) : Int := (exV H pc v t (pc t)).fdiv (H t (pc t))
theorem exV_sum (H : Nat → Nat → Int) (pc : Nat → Nat) (v : Nat → Int) (j : Nat) : ∀ t, v j = exV H pc v t j + sm (fun l => exQ H pc v l * H l j) t := by
 intro t
 induction t with
 | zero => simp [exV, sm]
 | succ t ih =>
   rw [exV, sm, ih]
   unfold exQ
   grind
theorem ex_back {H : Nat → Nat → Int} {pc : Nat → Nat} {v : Nat → Int} {k c : Nat} (h : ∀ j, j < c → exV H pc v k j = 0) (j : Nat) (hj : j < c) : v j = sm (fun l => exQ H pc v l * H l j) k := by
 have := exV_sum H pc v j k
 rw [h j hj] at this
 omega
theorem fdiv_just (x y : Int) (hy : y ≠ 0) : (x * y).fdiv y = x := by
 have h := rem_dvd (x := x * y) hy (Int.dvd_mul_left _ _)
 unfold rem at h
 have h2 : y * (x - (x * y).fdiv y) = 0 := by grind
 rcases Int.mul_eq_zero.1 h2 with h3 | h3
 ·exact absurd h3 hy
 ·omega
theorem EchSt.ex_span {r c k : Nat} {pc : Nat → Nat} {H : Nat → Nat → Int} (h : EchSt r c k pc H) {v : Nat → Int} (hv : Sp H k c v) (j : Nat) (hj : j < c) : exV H pc v k j = 0 := by
 obtain ⟨x, hx⟩ := hv
 have hle := h.le
 have key : ∀ t, t ≤ k → ∀ j, j < c → exV H pc v t j = sm (fun l => (if l < t then 0 else x l) * H l j) k := by
  intro t
  induction t with
  | zero => intro _ j hj; rw [exV, hx j hj]; exact sm_congr k (fun l _ => by rw [if_neg (by omega)])
  | succ t ih =>
    intro ht j hj
    have hc := h.col t (by omega)
    have hp := h.piv t (by omega)
    have e1 : exV H pc v t (pc t) = x t * H t (pc t) := by
     rw [ih (by omega) _ hc]
     rw [sm_one k t (by omega) (fun l hl hne => ?_)]
     ·rw [if_neg (Nat.lt_irrefl t)]
     ·show (if l < t then 0 else x l) * H l (pc t) = 0
      by_cases hlt : l < t
      ·rw [if_pos hlt]; simp
      ·rw [h.below t (by omega) l (by omega) (by omega)]; simp
    show exV H pc v t j - H t j * (exV H pc v t (pc t)).fdiv (H t (pc t)) = _
    rw [e1, fdiv_just _ _ (by omega), ih (by omega) j hj]
    have e2 : H t j * x t = sm (fun l => (if l = t then x t else 0) * H l j) k := by
     rw [sm_one k t (by omega) (fun l hl hne => by show (if l = t then x t else 0) * H l j = 0; rw [if_neg hne]; simp)]
     rw [if_pos rfl]; grind
    rw [e2, sm_sub]
    refine sm_congr k (fun l hl => ?_)
    by_cases hlt : l < t
    ·rw [if_pos hlt, if_neg (by omega), if_pos (by omega)]; simp
    ·by_cases he : l = t
     ·subst he; rw [if_neg (Nat.lt_irrefl l), if_pos rfl, if_pos (by omega)]; omega
     ·rw [if_neg hlt, if_neg he, if_neg (by omega)]; simp
 rw [key k (Nat.le_refl _) j hj]
 exact sm_zero k (fun l hl => by rw [if_pos hl]; simp)
theorem span_rows {r c k : Nat} {pc : Nat → Nat} {A H U W : Nat → Nat → Int} (h : EchSt r c k pc H) (hE : EInv A H U W r c) : (∀ i, i < r → Sp H k c (A i)) ∧ (∀ i, i < r → Sp A r c (H i)) := by
 have cut : ∀ (f : Nat → Int) n m, m ≤ n → (∀ l, m ≤ l → l < n → f l = 0) → sm f n = sm f m := by
  intro f n
  induction n with
  | zero => intro m hm _; rw [show m = 0 from by omega]
  | succ n ih =>
    intro m hm hz
    by_cases e : m = n + 1
    ·rw [e]
    ·rw [sm, hz n (by omega) (by omega), ih m (by omega) (fun l a b => hz l a (by omega))]; omega
 refine ⟨fun i hi => ⟨W i, fun j hj => ?_⟩, fun i hi => ⟨U i, fun j hj => ?_⟩⟩
 ·rw [← hE.wh i j hi hj, dot_sm]
  exact cut _ r k h.le (fun l a b => by rw [h.rest l a b j hj]; simp)
 ·rw [← hE.ua i j hi hj, dot_sm]
theorem Sp.trans {H A : Nat → Nat → Int} {k r c : Nat} {v : Nat → Int} (hv : Sp H k c v) (hH : ∀ i, i < k → Sp A r c (H i)) : Sp A r c v := by
 obtain ⟨x, hx⟩ := hv
 have key : ∀ n, n ≤ k → Sp A r c (fun j => sm (fun l => x l * H l j) n) := by
  intro n
  induction n with
  | zero => intro _; exact ⟨fun _ => 0, fun j _ => (sm_zero r (fun l _ => by simp)).symm⟩
  | succ n ih =>
    intro hn
    obtain ⟨y, hy⟩ := ih (by omega)
    obtain ⟨u, hu⟩ := hH n (by omega)
    refine ⟨fun l => y l + x n * u l, fun j hj => ?_⟩
    have e1 : sm (fun l => x l * H l j) n = sm (fun l => y l * A l j) r := hy j hj
    show sm (fun l => x l * H l j) (n + 1) = _
    rw [sm, e1, hu j hj]
    have := sm_lin 1 (x n) (fun l => y l * A l j) (fun l => u l * A l j) r
    rw [show sm (fun l => y l * A l j) r + x n * sm (fun l => u l * A l j) r = 1 * sm (fun l => y l * A l j) r + x n * sm (fun l => u l * A l j) r from by omega, ← this]
    exact sm_congr r (fun l _ => by grind)
 obtain ⟨y, hy⟩ := key k (Nat.le_refl _)
 exact ⟨y, fun j hj => by rw [hx j hj]; exact hy j hj⟩
def HasF (A : Nat → Nat → Int) (r c : Nat) : Prop := ∃ k pc H U W, EchSt r c k pc H ∧ EInv A H U W r c
end Go.Proofs.YtfjbijpagaipnaaGreatDoor
namespace Go.Proofs.YtfjbijpagaipnaaGreatDoor.R
theorem dvd_cut (e n : Int) : ∃ e' : Nat, ∀ x : Int, e ∣ n * x ↔ (e' : Int) ∣ x := by
 rcases Nat.eq_zero_or_pos (Nat.gcd e.natAbs n.natAbs) with h0 | h0
 ·have h1 : e.natAbs = 0 := Nat.eq_zero_of_gcd_eq_zero_left h0
  have h2 : n.natAbs = 0 := Nat.eq_zero_of_gcd_eq_zero_right h0
  have h3 : e = 0 := by omega
  have h4 : n = 0 := by omega
  subst h3; subst h4
  exact ⟨1, fun x => by simp⟩
 ·refine ⟨e.natAbs / Nat.gcd e.natAbs n.natAbs, fun x => ?_⟩
  have hco := Nat.coprime_div_gcd_div_gcd h0
  have e1 : e.natAbs = Nat.gcd e.natAbs n.natAbs * (e.natAbs / Nat.gcd e.natAbs n.natAbs) := (Nat.mul_div_cancel' (Nat.gcd_dvd_left _ _)).symm
  have e2 : n.natAbs = Nat.gcd e.natAbs n.natAbs * (n.natAbs / Nat.gcd e.natAbs n.natAbs) := (Nat.mul_div_cancel' (Nat.gcd_dvd_right _ _)).symm
  rw [← Int.natAbs_dvd_natAbs, Int.natAbs_mul, Int.ofNat_dvd_left]
  generalize e.natAbs / Nat.gcd e.natAbs n.natAbs = a at *
  generalize n.natAbs / Nat.gcd e.natAbs n.natAbs = b at *
  generalize Nat.gcd e.natAbs n.natAbs = g at *
  rw [e1, e2, Nat.mul_assoc]
  constructor
  ·intro h
   have := Nat.dvd_of_mul_dvd_mul_left h0 h
   rw [Nat.mul_comm] at this
   exact hco.dvd_of_dvd_mul_right this
  ·intro h
   exact Nat.mul_dvd_mul_left g (Nat.dvd_trans h (Nat.dvd_mul_left _ _))
theorem elim {r c k : Nat} {pc : Nat → Nat} {H : Nat → Nat → Int} (h : EchSt r c k pc H) (v : Nat → Int) : ∀ s, s ≤ k → ∃ (t : Int) (n v' : Nat → Int), t ≠ 0 ∧ (∀ j, t * v j = v' j + sm (fun l => n l * H l j) s) ∧ ∀ b, b < s → v' (pc b) = 0 := by
 intro s
 induction s with
 | zero => intro _; exact ⟨1, fun _ => 0, v, by decide, fun j => by simp [sm], fun b hb => by omega⟩
 | succ s ih =>
   intro hs
   obtain ⟨t, n, v', h1, h2, h3⟩ := ih (by omega)
   have hp := h.piv s (by omega)
   have hle := h.le
   refine ⟨H s (pc s) * t, fun l => if l = s then v' (pc s) else H s (pc s) * n l, fun j => H s (pc s) * v' j - v' (pc s) * H s j, Int.mul_ne_zero (by omega) h1, fun j => ?_, fun b hb => ?_⟩
   ·have e1 : sm (fun l => (if l = s then v' (pc s) else H s (pc s) * n l) * H l j) s = sm (fun l => H s (pc s) * (n l * H l j) + 0 * (n l * H l j)) s := sm_congr s (fun l hl => by
     rw [if_neg (by omega)]; grind)
    rw [sm, e1, sm_lin]
    show _ = H s (pc s) * v' j - v' (pc s) * H s j + (_ + (if s = s then v' (pc s) else H s (pc s) * n s) * H s j)
    rw [if_pos rfl]
    have := h2 j
    grind
   ·by_cases hbs : b = s
    ·subst hbs; grind
    ·show H s (pc s) * v' (pc b) - v' (pc s) * H s (pc b) = 0
     rw [h3 b (by omega), h.below b (by omega) s (by omega) (by omega)]
     simp
theorem place {pc : Nat → Nat} {k j : Nat} (up : ∀ a b, a < b → b < k → pc a < pc b) (hne : ∀ b, b < k → pc b ≠ j) : ∃ q, q ≤ k ∧ (∀ b, b < q → pc b < j) ∧ ∀ b, q ≤ b → b < k → j < pc b := by
 induction k with
 | zero => exact ⟨0, Nat.le_refl _, fun b hb => by omega, fun b _ hb => by omega⟩
 | succ k ih =>
   obtain ⟨q, h1, h2, h3⟩ := ih (fun a b hab hb => up a b hab (by omega)) (fun b hb => hne b (by omega))
   rcases Nat.lt_or_ge (pc k) j with h | h
   ·refine ⟨k + 1, Nat.le_refl _, fun b hb => ?_, fun b hb1 hb2 => by omega⟩
    by_cases hbk : b = k
    ·rw [hbk]; exact h
    ·have := up b k (by omega) (by omega); omega
   ·refine ⟨q, by omega, h2, fun b hb1 hb2 => ?_⟩
    by_cases hbk : b = k
    ·have := hne k (by omega); rw [hbk]; omega
    ·exact h3 b hb1 (by omega)
theorem ech_insert {r c k j : Nat} {pc : Nat → Nat} {H : Nat → Nat → Int} (h : EchSt r c k pc H) {v : Nat → Int} (hv : ∀ b, b < k → v (pc b) = 0) (hj : j < c) (h0 : v j ≠ 0) :
 ∃ g pc', Ech g (k + 1) c (k + 1) pc' ∧ ∀ i, i < k + 1 → g i = v ∨ ∃ b, b < k ∧ g i = H b := by
 obtain ⟨q, h1, h2, h3⟩ := place (j := j) h.up (fun b hb e => h0 (by rw [← e]; exact hv b hb))
 have hle := h.le
 refine ⟨fun i => if i < q then H i else if i = q then v else H (i - 1), fun i => if i < q then pc i else if i = q then j else pc (i - 1), ⟨Nat.le_refl _, fun b hb => ?_, fun a b hab hb => ?_, fun b hb => ?_, fun a b hb hba ha => ?_, fun a h1 h2 => by omega⟩, fun i hi => ?_⟩
 ·show (if b < q then pc b else if b = q then j else pc (b - 1)) < c
  split
  ·exact h.col b (by omega)
  ·split
   ·exact hj
   ·exact h.col (b - 1) (by omega)
 ·show (if a < q then pc a else if a = q then j else pc (a - 1)) < (if b < q then pc b else if b = q then j else pc (b - 1))
  by_cases a1 : a < q
  ·rw [if_pos a1]
   by_cases b1 : b < q
   ·rw [if_pos b1]; exact h.up a b hab (by omega)
   ·rw [if_neg b1]
    by_cases b2 : b = q
    ·rw [if_pos b2]; exact h2 a a1
    ·rw [if_neg b2]; exact h.up a (b - 1) (by omega) (by omega)
  ·rw [if_neg a1, if_neg (show ¬ b < q by omega), if_neg (show ¬ b = q by omega)]
   by_cases a2 : a = q
   ·rw [if_pos a2]; exact h3 (b - 1) (by omega) (by omega)
   ·rw [if_neg a2]; exact h.up (a - 1) (b - 1) (by omega) (by omega)
 ·show (if b < q then H b else if b = q then v else H (b - 1)) (if b < q then pc b else if b = q then j else pc (b - 1)) ≠ 0
  by_cases b1 : b < q
  ·rw [if_pos b1, if_pos b1]; have := h.piv b (by omega); omega
  ·rw [if_neg b1, if_neg b1]
   by_cases b2 : b = q
   ·rw [if_pos b2, if_pos b2]; exact h0
   ·rw [if_neg b2, if_neg b2]; have := h.piv (b - 1) (by omega); omega
 ·show (if a < q then H a else if a = q then v else H (a - 1)) (if b < q then pc b else if b = q then j else pc (b - 1)) = 0
  by_cases b1 : b < q
  ·rw [if_pos b1]
   by_cases a1 : a < q
   ·rw [if_pos a1]; exact h.below b (by omega) a hba (by omega)
   ·rw [if_neg a1]
    by_cases a2 : a = q
    ·rw [if_pos a2]; exact hv b (by omega)
    ·rw [if_neg a2]; exact h.below b (by omega) (a - 1) (by omega) (by omega)
  ·rw [if_neg b1, if_neg (show ¬ a < q by omega), if_neg (show ¬ a = q by omega)]
   by_cases b2 : b = q
   ·rw [if_pos b2]; exact h.left (a - 1) (by omega) j (h3 (a - 1) (by omega) (by omega))
   ·rw [if_neg b2]; exact h.below (b - 1) (by omega) (a - 1) (by omega) (by omega)
 ·show (if i < q then H i else if i = q then v else H (i - 1)) = v ∨ ∃ b, b < k ∧ (if i < q then H i else if i = q then v else H (i - 1)) = H b
  by_cases a1 : i < q
  ·rw [if_pos a1]; exact .inr ⟨i, by omega, rfl⟩
  ·rw [if_neg a1]
   by_cases a2 : i = q
   ·rw [if_pos a2]; exact .inl rfl
   ·rw [if_neg a2]; exact .inr ⟨i - 1, by omega, rfl⟩
theorem Sp.comb {O : Nat → Nat → Int} {R c : Nat} {C : List Nat} {v : Nat → Int} (h : Sp O R c v) (hC : ∀ x ∈ C, x < c) : CombOf O R C v := by
 obtain ⟨x, hx⟩ := h
 exact ⟨x, fun y hy => hx y (hC y hy)⟩
theorem Sp.scale {O : Nat → Nat → Int} {R c : Nat} {v : Nat → Int} (t : Int) (h : Sp O R c v) : Sp O R c (fun j => t * v j) := by
 obtain ⟨x, hx⟩ := h
 refine ⟨fun l => t * x l, fun j hj => ?_⟩
 have := sm_lin t 0 (fun l => x l * O l j) (fun l => x l * O l j) R
 show t * v j = sm (fun l => t * x l * O l j) R
 rw [hx j hj, show sm (fun l => t * x l * O l j) R = sm (fun l => t * (x l * O l j) + 0 * (x l * O l j)) R from sm_congr R (fun l _ => by grind), this]
 grind
theorem Sp.sum {O H : Nat → Nat → Int} {R c : Nat} (n : Nat → Int) : ∀ k, (∀ i, i < k → Sp O R c (H i)) → Sp O R c (fun j => sm (fun l => n l * H l j) k)
 | k, h => by
   have h1 : Sp H k c (fun j => sm (fun l => n l * H l j) k) := ⟨n, fun j _ => rfl⟩
   exact h1.trans h
theorem chosenL_self (k : Nat) : chosenL k k = [List.range k] := by
 induction k with
 | zero => rfl
 | succ k ih =>
   rw [chosenL, List.range_succ, List.drop_append_of_le_length (by simp), List.drop_of_length_le (by simp)]
   simp [ih]
theorem mv_pick {H : Nat → Nat → Int} {n v : Nat → Int} {t : Int} {c k i : Nat} {C : List Nat} (hC : C.length = k) (hCc : ∀ x ∈ C, x < c) (h4 : k ≤ 4) (hi : i < k) (hv : ∀ j, j < c → t * v j = sm (fun l => n l * H l j) k) :
 t * mv ((List.range i).map H ++ v :: (List.range' (i + 1) (k - i - 1)).map H) C = n i * mv ((List.range k).map H) C := by
 have e0 : (List.range k).map H = (List.range i).map H ++ H i :: (List.range' (i + 1) (k - i - 1)).map H := by
  rw [← List.map_cons, ← List.map_append, ← List.range'_succ, List.range_eq_range', List.range_eq_range']
  have := List.range'_append_1 (s := 0) (m := i) (n := k - i - 1 + 1)
  rw [Nat.zero_add] at this
  rw [this, show i + (k - i - 1 + 1) = k from by omega]
 have e1 := mv_lin t 0 v v ((List.range' (i + 1) (k - i - 1)).map H) ((List.range i).map H) C
 have e2 : mv ((List.range i).map H ++ (fun j => t * v j + 0 * v j) :: (List.range' (i + 1) (k - i - 1)).map H) C = mv ((List.range i).map H ++ (fun j => sm (fun l => n l * H l j) k) :: (List.range' (i + 1) (k - i - 1)).map H) C := mv_at _ _ C (fun x hx => by rw [← hv x (hCc x hx)]; grind)
 have e3 := mv_sum n H ((List.range i).map H) ((List.range' (i + 1) (k - i - 1)).map H) C k
 have e4 : sm (fun l => n l * mv ((List.range i).map H ++ H l :: (List.range' (i + 1) (k - i - 1)).map H) C) k = n i * mv ((List.range i).map H ++ H i :: (List.range' (i + 1) (k - i - 1)).map H) C := sm_one k i hi (fun l hl hne => by
  have hz : mv ((List.range i).map H ++ H l :: (List.range' (i + 1) (k - i - 1)).map H) C = 0 := by
   rcases Nat.lt_or_ge l i with h1 | h1
   ·obtain ⟨xs, ys, he⟩ := List.append_of_mem (show l ∈ List.range i from List.mem_range.2 h1)
    have hlen : xs.length + ys.length + 1 = i := by have := congrArg List.length he; simp at this; omega
    rw [he, List.map_append, List.map_cons]
    have := mv_same (H l) (xs.map H) (ys.map H) ((List.range' (i + 1) (k - i - 1)).map H) C (by simp; omega) (by omega)
    simpa using this
   ·obtain ⟨xs, ys, he⟩ := List.append_of_mem (show l ∈ List.range' (i + 1) (k - i - 1) from List.mem_range'_1.2 (by omega))
    have hlen : xs.length + ys.length + 1 = k - i - 1 := by have := congrArg List.length he; simp at this; omega
    rw [he, List.map_append, List.map_cons]
    have := mv_same (H l) ((List.range i).map H) (xs.map H) (ys.map H) C (by simp; omega) (by omega)
    simpa using this
  rw [hz, Int.mul_zero])
 rw [e0, ← e4, ← e3, ← e2, e1]
 grind
theorem span_of_div {O A H : Nat → Nat → Int} {r R c k : Nat} {pc : Nat → Nat} {v : Nat → Int} (h : EchSt r c k pc H) (hA : ∀ i, i < r → Sp H k c (A i)) (hH : ∀ i, i < k → Sp O R c (H i)) (hv : Sp O R c v) (hc : c ≤ 4) (hrank : k = c ∨ AllV O R c (k + 1)) (hd : divF A r c k ∣ divF O R c k) (hd0 : divF A r c k ≠ 0) : Sp H k c v := by
 obtain ⟨t, n, v', ht, h1, h2⟩ := elim h v k (Nat.le_refl _)
 have hv' : Sp O R c v' := by
  have := (Sp.scale t hv).sub (Sp.sum n k hH)
  obtain ⟨x, hx⟩ := this
  exact ⟨x, fun j hj => by rw [← hx j hj]; have := h1 j; grind⟩
 have hz : ∀ j, j < c → v' j = 0 := by
  rcases first_ne v' c with hz | ⟨j, hj, hne, -⟩
  ·exact hz
  ·exfalso
   obtain ⟨g, pc', hE, hg⟩ := ech_insert h h2 hj hne
   have hkc := ech_cols hE
   rcases hrank with hk | hk
   ·omega
   ·have hC := cols_mem hE.up (k + 1) c (Nat.le_refl _) (fun b hb => hE.col b hb)
    have hD := allD_comb ((allV_iff O R c (k + 1)).1 hk _ hC) (g := g) (r' := k + 1) (fun i hi => by
     rcases hg i hi with e | ⟨b, hb, e⟩
     ·rw [e]; exact Sp.comb hv' (chosenL_lt hC).2
     ·rw [e]; exact Sp.comb (hH b hb) (chosenL_lt hC).2)
    have h3 := hD (List.range (k + 1)) (by simp) (fun x hx => List.mem_range.1 hx)
    have h4 := tri hE (k + 1) 0 (by omega)
    rw [← List.range_eq_range'] at h4
    exact h4 (Int.zero_dvd.1 h3)
 have h5 : ∀ j, j < c → t * v j = sm (fun l => n l * H l j) k := fun j hj => by rw [h1 j, hz j hj]; simp
 have hkc : k ≤ 4 := by have := h.te; omega
 have hn : ∀ i, i < k → t ∣ n i := fun i hi => by
  obtain ⟨e', he⟩ := dvd_cut (t * (divF A r c k : Nat)) (n i)
  have h6 : e' ∣ divF A r c k := by
   rw [div_dvd e' A r c k hkc]
   intro C hC
   obtain ⟨hCl, hCc⟩ := chosenL_lt hC
   refine allD_comb (f := H) (r := k) ?_ (fun i hi => Sp.comb (hA i hi) hCc)
   intro Rr hRr hRk
   have := rise_all e' H C (by omega) k k [] (by simp [hCl]) (fun R' hR' => by
    rw [chosenL_self, List.mem_singleton] at hR'
    subst hR'
    rw [List.append_nil, ← he, ← mv_pick hCl hCc hkc hi h5]
    refine Int.mul_dvd_mul (Int.dvd_refl t) ?_
    have h7 := (div_dvd _ O R c k hkc).1 hd C hC
    have h8 := comb_dvd h7 ((List.range i).map H ++ v :: (List.range' (i + 1) (k - i - 1)).map H) (fun u hu => by
     rcases List.mem_append.1 hu with hu | hu
     ·obtain ⟨b, hb, rfl⟩ := List.mem_map.1 hu
      exact Sp.comb (hH b (by have := List.mem_range.1 hb; omega)) hCc
     ·rcases List.mem_cons.1 hu with hu | hu
      ·rw [hu]; exact Sp.comb hv hCc
      ·obtain ⟨b, hb, rfl⟩ := List.mem_map.1 hu
       exact Sp.comb (hH b (by have := List.mem_range'_1.1 hb; omega)) hCc) [] (by simp; omega) (fun x hx => by simp at hx)
    simpa using h8) Rr (by omega) hRk
   simpa using this
  have h9 := (he (divF A r c k : Nat)).2 (Int.ofNat_dvd.2 h6)
  exact Int.dvd_of_mul_dvd_mul_right (by omega) h9
 refine ⟨fun l => n l / t, fun j hj => ?_⟩
 have e1 : sm (fun l => n l * H l j) k = sm (fun l => t * (n l / t * H l j) + 0 * 0) k := sm_congr k (fun l hl => by
  have := Int.mul_ediv_cancel' (hn l hl)
  grind)
 have e2 := h5 j hj
 rw [e1, sm_lin t 0 (fun l => n l / t * H l j) (fun _ => 0)] at e2
 exact Int.eq_of_mul_eq_mul_left ht (by rw [e2]; simp)
theorem div_same {A O : Nat → Nat → Int} {r R c m : Nat} (h1 : ∀ i, i < r → Sp O R c (A i)) (h2 : ∀ i, i < R → Sp A r c (O i)) (hm : m ≤ 4) : divF A r c m = divF O R c m := by
 refine Nat.dvd_antisymm ?_ ?_
 ·rw [div_dvd _ O R c m hm]
  exact fun C hC => allD_comb ((div_dvd _ A r c m hm).1 (Nat.dvd_refl _) C hC) (fun i hi => Sp.comb (h2 i hi) (chosenL_lt hC).2)
 ·rw [div_dvd _ A r c m hm]
  exact fun C hC => allD_comb ((div_dvd _ O R c m hm).1 (Nat.dvd_refl _) C hC) (fun i hi => Sp.comb (h1 i hi) (chosenL_lt hC).2)
theorem chosenL_none {k n : Nat} (h : n < k) : chosenL k n = [] := by
 cases hc : chosenL k n with
 | nil => rfl
 | cons a l => have := chosenL_le (show a ∈ chosenL k n by rw [hc]; simp); omega
theorem div_few (f : Nat → Nat → Int) {r c k : Nat} (h : r < k) : divF f r c k = 0 := by
 unfold divF; rw [chosenL_none h]; rfl
theorem div_zero (f : Nat → Nat → Int) (r c : Nat) : divF f r c 0 = 1 := by
 simp [divF, chosenL, gA, gR, minorF]
theorem RankIs.next {f : Nat → Nat → Int} {r c k : Nat} (h : RankIs f r c k) : k = c ∨ divF f r c (k + 1) = 0 := by
 rcases h.2.2.2 with h1 | h1 | h1
 ·exact .inr (div_few f (by omega))
 ·exact .inl h1
 ·exact .inr h1
theorem RankIs.pos {f : Nat → Nat → Int} {r c k : Nat} (h : RankIs f r c k) : divF f r c k ≠ 0 := by
 cases k with
 | zero => rw [div_zero]; decide
 | succ k => exact h.2.2.1 k (by omega)
theorem rank_same {A O : Nat → Nat → Int} {r R c k : Nat} (h1 : ∀ i, i < r → Sp O R c (A i)) (h2 : ∀ i, i < R → Sp A r c (O i)) (hc : c ≤ 4) (h : RankIs A r c k) : RankIs O R c k := by
 have hkc := h.2.1
 refine ⟨?_, hkc, fun i hi => by rw [← div_same h1 h2 (by omega)]; exact h.2.2.1 i hi, ?_⟩
 ·rcases Nat.lt_or_ge R k with h3 | h3
  ·have := h.pos
   rw [div_same h1 h2 (by omega), div_few O h3] at this
   omega
  ·exact h3
 ·rcases h.next with h3 | h3
  ·exact .inr (.inl h3)
  ·by_cases h4 : k = c
   ·exact .inr (.inl h4)
   ·exact .inr (.inr (by rw [← div_same h1 h2 (by omega)]; exact h3))
def ov (r : Nat) (A N : Nat → Nat → Int) : Nat → Nat → Int := fun i => if i < r then A i else N (i - r)
theorem Sp.ov_top {A N : Nat → Nat → Int} {r n c : Nat} {v : Nat → Int} (h : Sp A r c v) : Sp (ov r A N) (r + n) c v := by
 refine h.trans (fun i hi => ?_)
 have := Sp.row (ov r A N) c (show i < r + n by omega)
 rw [show ov r A N i = A i from if_pos hi] at this
 exact this
theorem Sp.ov_low {A N : Nat → Nat → Int} {r n c i : Nat} (hi : i < n) : Sp (ov r A N) (r + n) c (N i) := by
 have := Sp.row (ov r A N) c (show r + i < r + n by omega)
 rw [show ov r A N (r + i) = N i from by unfold ov; rw [if_neg (by omega)]; congr 1; omega] at this
 exact this
theorem spans_iff {A H U W N : Nat → Nat → Int} {r n c k : Nat} {pc : Nat → Nat} (h : EchSt r c k pc H) (hE : EInv A H U W r c) (hc : c ≤ 4) (hA : RankIs A r c k) :
 (∀ i, i < n → Sp A r c (N i)) ↔ (RankIs (ov r A N) (r + n) c k ∧ divF (ov r A N) (r + n) c k = divF A r c k) := by
 have hkc := hA.2.1
 obtain ⟨s1, s2⟩ := span_rows h hE
 constructor
 ·intro hN
  have g1 : ∀ i, i < r → Sp (ov r A N) (r + n) c (A i) := fun i hi => Sp.ov_top (Sp.row A c hi)
  have g2 : ∀ i, i < r + n → Sp A r c (ov r A N i) := fun i hi => by
   unfold ov
   split
   ·rename_i h1; exact Sp.row A c h1
   ·exact hN _ (by omega)
  exact ⟨rank_same g1 g2 hc hA, (div_same g1 g2 (by omega)).symm⟩
 ·rintro ⟨h1, h2⟩ i hi
  have hle := h.le
  have hk : k = c ∨ AllV (ov r A N) (r + n) c (k + 1) := by
   rcases h1.next with h3 | h3
   ·exact .inl h3
   ·by_cases h4 : k = c
    ·exact .inl h4
    ·exact .inr ((all_div _ _ _ _ (by omega)).1 h3)
  exact (span_of_div h s1 (fun b hb => Sp.ov_top (s2 b (by omega))) (Sp.ov_low hi) hc hk (by rw [h2]; exact Nat.dvd_refl _) hA.pos).trans (fun b hb => s2 b (by omega))
end Go.Proofs.YtfjbijpagaipnaaGreatDoor.R
