import Derived.Test.YtfjbijpagaipnabGreatDoorK09
import Derived.Test.YtfjbijpagaipnabGreatDoorK13
namespace Go.Proofs.YtfjbijpagaipnabGreatDoor
structure EchSt (r e t : Nat) (pc : Nat → Nat) (H : Nat → Nat → Int) : Prop where
 le : t ≤ r
 te : t ≤ e
 col : ∀ b, b < t → pc b < e
 up : ∀ a b, a < b → b < t → pc a < pc b
 piv : ∀ b, b < t → 0 < H b (pc b)
 left : ∀ b, b < t → ∀ j, j < pc b → H b j = 0
 below : ∀ b, b < t → ∀ i, b < i → i < r → H i (pc b) = 0
 above : ∀ b, b < t → ∀ i, i < b → 0 ≤ H i (pc b) ∧ H i (pc b) < H b (pc b)
 rest : ∀ i, t ≤ i → i < r → ∀ j, j < e → H i j = 0
theorem EchSt.start (r : Nat) (pc : Nat → Nat) (H : Nat → Nat → Int) : EchSt r 0 0 pc H :=
 ⟨Nat.zero_le _, Nat.zero_le _, fun b h => by omega, fun a b _ h => by omega, fun b h => by omega, fun b h => by omega, fun b h => by omega, fun b h => by omega, fun i _ _ j h => by omega⟩
theorem EchSt.skip {r e t : Nat} {pc : Nat → Nat} {H : Nat → Nat → Int} (h : EchSt r e t pc H) (hz : ∀ i, t ≤ i → i < r → H i e = 0) : EchSt r (e + 1) t pc H :=
 ⟨h.le, by have := h.te; omega, fun b hb => by have := h.col b hb; omega, h.up, h.piv, h.left, h.below, h.above, fun i a b j hj => by
   by_cases hje : j = e
   ·rw [hje]; exact hz i a b
   ·exact h.rest i a b j (by omega)⟩
theorem EchSt.pivot {r c e t KH KU KW : Nat} {pc : Nat → Nat} {H U H' U' W' : Nat → Nat → Int} (h : EchSt r e t pc H) (ht : t < r) (hec : e < c) (g : GaEnd H U r c t e H' U' W' KH KU KW) : EchSt r (e + 1) (t + 1) (fun b => if b = t then e else pc b) H' := by
 have hz : ∀ j, j < e → ∀ i, t ≤ i → i < r → H' i j = 0 := fun j hj => g.zero j (by omega) (fun i a b => h.rest i a b j hj)
 have hlow : ∀ i j, i < t → j < e → H' i j = H i j := fun i j a b => by
  rw [g.topH i j a (by omega), hz j b t (Nat.le_refl _) ht]; simp
 refine ⟨by omega, by have := h.te; omega, fun b hb => ?_, fun a b hab hb => ?_, fun b hb => ?_, fun b hb j hj => ?_, fun b hb i hi hir => ?_, fun b hb i hi => ?_, fun i a b j hj => ?_⟩
 ·show (if b = t then e else pc b) < e + 1
  split
  ·omega
  ·have := h.col b (by omega); omega
 ·show (if a = t then e else pc a) < (if b = t then e else pc b)
  rw [if_neg (by omega)]
  split
  ·exact h.col a (by omega)
  ·exact h.up a b hab (by omega)
 ·show 0 < H' b (if b = t then e else pc b)
  split
  ·rename_i hbt; rw [hbt]; exact g.pos
  ·have := h.col b (by omega)
   rw [hlow b (pc b) (by omega) this]; exact h.piv b (by omega)
 ·have hj' : j < (if b = t then e else pc b) := hj
  by_cases hbt : b = t
  ·rw [if_pos hbt] at hj'; rw [hbt]; exact hz j hj' t (Nat.le_refl _) ht
  ·rw [if_neg hbt] at hj'
   have := h.col b (by omega)
   rw [hlow b j (by omega) (by omega)]; exact h.left b (by omega) j hj'
 ·show H' i (if b = t then e else pc b) = 0
  by_cases hbt : b = t
  ·rw [if_pos hbt]; exact g.below i (by omega) hir
  ·rw [if_neg hbt]
   have := h.col b (by omega)
   by_cases hit : i < t
   ·rw [hlow i _ hit this]; exact h.below b (by omega) i hi hir
   ·exact hz _ this i (by omega) hir
 ·show 0 ≤ H' i (if b = t then e else pc b) ∧ H' i (if b = t then e else pc b) < H' b (if b = t then e else pc b)
  by_cases hbt : b = t
  ·subst hbt; rw [if_pos rfl]; exact g.above i hi
  ·rw [if_neg hbt]
   have := h.col b (by omega)
   rw [hlow i _ (by omega) this, hlow b _ (by omega) this]; exact h.above b (by omega) i hi
 ·by_cases hje : j = e
  ·rw [hje]; exact g.below i (by omega) b
  ·exact hz j (by omega) i (by omega) b
def bB (r β : Nat) : Nat → Nat
 | 0 => β
 | t + 1 => if t + 1 < r then 10 * bB r β t + 3 else bB r β t
def hB (r β : Nat) : Nat → Nat
 | 0 => β
 | t + 1 => hB r β t + bB r β (t + 1) + 1
def uA (r β u t : Nat) : Nat := if t + 1 < r then u + 9 * bB r β t + 3 else u
def uB (r β : Nat) : Nat → Nat
 | 0 => 1
 | t + 1 => uA r β (uB r β t) t + hB r β t + 4
theorem bB_le (r β t : Nat) : bB r β t ≤ hB r β t := by
 cases t with
 | zero => exact Nat.le_refl _
 | succ t => rw [hB]; omega
theorem hB_mono (r β : Nat) {s t : Nat} (h : s ≤ t) : hB r β s ≤ hB r β t := by
 induction t with
 | zero => rw [show s = 0 from by omega]; exact Nat.le_refl _
 | succ t ih =>
   by_cases hs : s = t + 1
   ·rw [hs]; exact Nat.le_refl _
   ·have := ih (by omega); rw [hB]; omega
theorem uA_ge (r β u t : Nat) : u ≤ uA r β u t := by unfold uA; split <;> omega
theorem uB_mono (r β : Nat) {s t : Nat} (h : s ≤ t) : uB r β s ≤ uB r β t := by
 induction t with
 | zero => rw [show s = 0 from by omega]; exact Nat.le_refl _
 | succ t ih =>
   by_cases hs : s = t + 1
   ·rw [hs]; exact Nat.le_refl _
   ·have := ih (by omega); have := uA_ge r β (uB r β t) t; rw [uB]; omega
structure EB (H U W : Nat → Nat → Int) (r c t β : Nat) : Prop where
 a : ∀ i j, t ≤ i → i < r → j < c → (H i j).natAbs < 2 ^ bB r β t
 h : ∀ i j, i < r → j < c → (H i j).natAbs < 2 ^ hB r β t
 u : ∀ i j, i < r → j < r → (U i j).natAbs < 2 ^ uB r β t
 w : ∀ i j, i < r → j < r → (W i j).natAbs < 2 ^ uB r β t
theorem grow_le (u b : Nat) : (2 ^ u - 1) * ((1 + 7 * (2 ^ b - 1)) * (2 ^ b - 1) ^ 8) ≤ 2 ^ (u + 9 * b + 3) - 1 := by
 have h1 : (2 ^ b - 1) ^ 8 ≤ (2 ^ b) ^ 8 := Nat.pow_le_pow_left (Nat.sub_le _ _) 8
 have hp : 0 < 2 ^ b := Nat.pow_pos (by decide)
 have h2 : (1 + 7 * (2 ^ b - 1)) * (2 ^ b - 1) ^ 8 ≤ (8 * 2 ^ b) * (2 ^ b) ^ 8 := Nat.mul_le_mul (by omega) h1
 have h3 : (8 * 2 ^ b) * (2 ^ b) ^ 8 = 2 ^ (9 * b + 3) := by
  rw [← Nat.pow_mul, show (8 : Nat) = 2 ^ 3 from rfl, ← Nat.pow_add, ← Nat.pow_add]
  congr 1
  omega
 have h4 := Nat.mul_le_mul_left (2 ^ u - 1) h2
 rw [h3] at h4
 have h5 : (2 ^ u - 1) * 2 ^ (9 * b + 3) = 2 ^ (u + 9 * b + 3) - 2 ^ (9 * b + 3) := by
  rw [Nat.sub_mul, Nat.one_mul, ← Nat.pow_add]
  congr 2
 have h6 : 0 < 2 ^ (9 * b + 3) := Nat.pow_pos (by decide)
 omega
theorem lt_sub {x n : Nat} (h : x < 2 ^ n) : x * 1 ≤ 2 ^ n - 1 := by omega
theorem EB.gaBd {H U W : Nat → Nat → Int} {r c t β : Nat} (h : EB H U W r c t β) {col : Nat} (hc : col < c) :
 (∀ i, t ≤ i → i < r → (H i col).natAbs ≤ 2 ^ bB r β t - 1) ∧ Bd H U W r c t 1 (2 ^ bB r β t - 1) (2 ^ uB r β t - 1) (2 ^ uB r β t - 1) ∧ 2 ^ bB r β t - 1 ≤ 2 ^ bB r β (t + 1) - 1 ∧ 2 ^ uB r β t - 1 ≤ 2 ^ uA r β (uB r β t) t - 1 ∧
 (t + 1 < r → (2 ^ bB r β t - 1) * ((1 + 7 * (2 ^ bB r β t - 1)) * (2 ^ bB r β t - 1) ^ 8) ≤ 2 ^ bB r β (t + 1) - 1 ∧ (2 ^ uB r β t - 1) * ((1 + 7 * (2 ^ bB r β t - 1)) * (2 ^ bB r β t - 1) ^ 8) ≤ 2 ^ uA r β (uB r β t) t - 1) := by
 refine ⟨fun i a b => by have := h.a i col a b hc; omega, ⟨fun i j a b d => lt_sub (h.a i j a b d), fun i j _ b d => lt_sub (h.u i j b d), fun i j b d => lt_sub (h.w i j b d)⟩, ?_, ?_, fun htr => ⟨?_, ?_⟩⟩
 ·have : 2 ^ bB r β t ≤ 2 ^ bB r β (t + 1) := Nat.pow_le_pow_right (by decide) (by rw [bB]; split <;> omega)
  omega
 ·have : 2 ^ uB r β t ≤ 2 ^ uA r β (uB r β t) t := Nat.pow_le_pow_right (by decide) (uA_ge _ _ _ _)
  omega
 ·have := grow_le (bB r β t) (bB r β t)
  rw [bB, if_pos htr]
  rw [show bB r β t + 9 * bB r β t + 3 = 10 * bB r β t + 3 from by omega] at this
  exact this
 ·have := grow_le (uB r β t) (bB r β t)
  unfold uA
  rw [if_pos htr]
  exact this
theorem sum_lt {x y q a b h : Nat} (hx : x < 2 ^ h) (hy : y ≤ 2 ^ b - 1) (hq : q < 2 ^ h) (ha : a ≤ x + y * q) : a < 2 ^ (b + h) := by
 have hp : 0 < 2 ^ b := Nat.pow_pos (by decide)
 have h1 : y * q ≤ (2 ^ b - 1) * (2 ^ h - 1) := Nat.mul_le_mul hy (by omega)
 have h2 : (2 ^ b - 1) * (2 ^ h - 1) + (2 ^ h - 1) = 2 ^ b * (2 ^ h - 1) := by
  rw [Nat.sub_mul, Nat.one_mul]
  have : 1 * (2 ^ h - 1) ≤ 2 ^ b * (2 ^ h - 1) := Nat.mul_le_mul_right _ hp
  omega
 have h3 : 2 ^ b * (2 ^ h - 1) < 2 ^ b * 2 ^ h := Nat.mul_lt_mul_of_pos_left (by omega) hp
 rw [← Nat.pow_add] at h3
 omega
theorem EB.next {H U W H' U' W' : Nat → Nat → Int} {r c t e β : Nat} (h : EB H U W r c t β) (ht : t < r) (hec : e < c) (g : GaEnd H U r c t e H' U' W' (2 ^ bB r β (t + 1) - 1) (2 ^ uA r β (uB r β t) t - 1) (2 ^ uA r β (uB r β t) t - 1)) : EB H' U' W' r c (t + 1) β := by
 have hpb : 0 < 2 ^ bB r β (t + 1) := Nat.pow_pos (by decide)
 have hpu : 0 < 2 ^ uA r β (uB r β t) t := Nat.pow_pos (by decide)
 have hq : ∀ i, i < t → ((H i e).fdiv (H' t e)).natAbs < 2 ^ hB r β t := fun i hi => Nat.lt_of_le_of_lt (fdiv_le _ _) (h.h i e (by omega) hec)
 refine ⟨fun i j a b d => ?_, fun i j a b => ?_, fun i j a b => ?_, fun i j a b => ?_⟩
 ·have := g.bdH i j (by omega) b d; omega
 ·by_cases hi : i < t
  ·rw [g.topH i j hi b]
   have h1 := Int.natAbs_sub_le (H i j) (H' t j * (H i e).fdiv (H' t e))
   rw [Int.natAbs_mul] at h1
   have h2 := sum_lt (h.h i j a b) (g.bdH t j (Nat.le_refl _) ht b) (hq i hi) h1
   have h3 : 2 ^ (bB r β (t + 1) + hB r β t) ≤ 2 ^ hB r β (t + 1) := Nat.pow_le_pow_right (by decide) (by rw [hB]; omega)
   omega
  ·have h1 := g.bdH i j (by omega) a b
   have h3 : 2 ^ bB r β (t + 1) ≤ 2 ^ hB r β (t + 1) := Nat.pow_le_pow_right (by decide) (bB_le _ _ _)
   omega
 ·by_cases hi : i < t
  ·rw [g.topU i j hi b]
   have h1 := Int.natAbs_sub_le (U i j) (U' t j * (H i e).fdiv (H' t e))
   rw [Int.natAbs_mul] at h1
   have h0 := h.u i j a b
   have h4 : 2 ^ uB r β t ≤ 2 ^ uA r β (uB r β t) t := Nat.pow_le_pow_right (by decide) (uA_ge _ _ _ _)
   have h5 := g.bdU t j (Nat.le_refl _) ht b
   have h6 := hq i hi
   have h7 : (U' t j).natAbs * ((H i e).fdiv (H' t e)).natAbs ≤ (2 ^ uA r β (uB r β t) t - 1) * (2 ^ hB r β t - 1) := Nat.mul_le_mul h5 (by omega)
   have h8 : (2 ^ uA r β (uB r β t) t - 1) * (2 ^ hB r β t - 1) + (2 ^ uA r β (uB r β t) t - 1) = (2 ^ uA r β (uB r β t) t - 1) * 2 ^ hB r β t := by
    rw [Nat.mul_sub, Nat.mul_one]
    have : (2 ^ uA r β (uB r β t) t - 1) * 1 ≤ (2 ^ uA r β (uB r β t) t - 1) * 2 ^ hB r β t := Nat.mul_le_mul_left _ (Nat.pow_pos (by decide))
    omega
   have h9 : (2 ^ uA r β (uB r β t) t - 1) * 2 ^ hB r β t < 2 ^ uA r β (uB r β t) t * 2 ^ hB r β t := Nat.mul_lt_mul_of_pos_right (by omega) (Nat.pow_pos (by decide))
   rw [← Nat.pow_add] at h9
   have h3 : 2 ^ (uA r β (uB r β t) t + hB r β t) ≤ 2 ^ uB r β (t + 1) := Nat.pow_le_pow_right (by decide) (by rw [uB]; omega)
   omega
  ·have h1 := g.bdU i j (by omega) a b
   have h3 : 2 ^ uA r β (uB r β t) t ≤ 2 ^ uB r β (t + 1) := Nat.pow_le_pow_right (by decide) (by rw [uB]; omega)
   omega
 ·have h1 := g.bdW (2 ^ hB r β t - 1) (fun i hi => by have := h.h i e (by omega) hec; omega) i j a b
  have h2 : (2 ^ hB r β t - 1) * (2 ^ uA r β (uB r β t) t - 1) ≤ 2 ^ hB r β t * (2 ^ uA r β (uB r β t) t - 1) := Nat.mul_le_mul_right _ (Nat.sub_le _ _)
  have hph : 0 < 2 ^ hB r β t := Nat.pow_pos (by decide)
  have h4 : 1 * (2 ^ uA r β (uB r β t) t - 1) ≤ 2 ^ hB r β t * (2 ^ uA r β (uB r β t) t - 1) := Nat.mul_le_mul_right _ hph
  have h5 : 2 ^ hB r β t * (2 ^ uA r β (uB r β t) t - 1) < 2 ^ hB r β t * 2 ^ uA r β (uB r β t) t := Nat.mul_lt_mul_of_pos_left (by omega) hph
  have h6 : 16 * (2 ^ hB r β t * 2 ^ uA r β (uB r β t) t) = 2 ^ uB r β (t + 1) := by
   rw [uB, show (16 : Nat) = 2 ^ 4 from rfl, ← Nat.pow_add, ← Nat.pow_add]
   congr 1
   omega
  omega
open Go.RowKit
theorem set10 (w : World) (b : Nat) {t : TypeId} (ht : Ty w b t) (hne : t ≠ 144) (v0 v1 v2 v3 v4 v5 v6 v7 v8 v9 : Value) : KU w ((((((((((w.setCell ⟨b, 0, none⟩ v0).setCell ⟨b, 1, none⟩ v1).setCell ⟨b, 2, none⟩ v2).setCell ⟨b, 3, none⟩ v3).setCell ⟨b, 4, none⟩ v4).setCell ⟨b, 5, none⟩ v5).setCell ⟨b, 6, none⟩ v6).setCell ⟨b, 7, none⟩ v7).setCell ⟨b, 8, none⟩ v8).setCell ⟨b, 9, none⟩ v9) ∧ w.grownBy ((((((((((w.setCell ⟨b, 0, none⟩ v0).setCell ⟨b, 1, none⟩ v1).setCell ⟨b, 2, none⟩ v2).setCell ⟨b, 3, none⟩ v3).setCell ⟨b, 4, none⟩ v4).setCell ⟨b, 5, none⟩ v5).setCell ⟨b, 6, none⟩ v6).setCell ⟨b, 7, none⟩ v7).setCell ⟨b, 8, none⟩ v8).setCell ⟨b, 9, none⟩ v9) (some b) := by
 have k0 := KU.setCell (o := 0) (KU.refl w) ht hne v0
 have t0 := ht.setCell ⟨b, 0, none⟩ v0
 have g0 := grown_trans (World.grownBy.refl w (some b)) (grown_cell _ b 0 v0)
 have k1 := KU.setCell (o := 1) k0 t0 hne v1
 have t1 := t0.setCell ⟨b, 1, none⟩ v1
 have g1 := grown_trans g0 (grown_cell _ b 1 v1)
 have k2 := KU.setCell (o := 2) k1 t1 hne v2
 have t2 := t1.setCell ⟨b, 2, none⟩ v2
 have g2 := grown_trans g1 (grown_cell _ b 2 v2)
 have k3 := KU.setCell (o := 3) k2 t2 hne v3
 have t3 := t2.setCell ⟨b, 3, none⟩ v3
 have g3 := grown_trans g2 (grown_cell _ b 3 v3)
 have k4 := KU.setCell (o := 4) k3 t3 hne v4
 have t4 := t3.setCell ⟨b, 4, none⟩ v4
 have g4 := grown_trans g3 (grown_cell _ b 4 v4)
 have k5 := KU.setCell (o := 5) k4 t4 hne v5
 have t5 := t4.setCell ⟨b, 5, none⟩ v5
 have g5 := grown_trans g4 (grown_cell _ b 5 v5)
 have k6 := KU.setCell (o := 6) k5 t5 hne v6
 have t6 := t5.setCell ⟨b, 6, none⟩ v6
 have g6 := grown_trans g5 (grown_cell _ b 6 v6)
 have k7 := KU.setCell (o := 7) k6 t6 hne v7
 have t7 := t6.setCell ⟨b, 7, none⟩ v7
 have g7 := grown_trans g6 (grown_cell _ b 7 v7)
 have k8 := KU.setCell (o := 8) k7 t7 hne v8
 have t8 := t7.setCell ⟨b, 8, none⟩ v8
 have g8 := grown_trans g7 (grown_cell _ b 8 v8)
 have k9 := KU.setCell (o := 9) k8 t8 hne v9
 have g9 := grown_trans g8 (grown_cell _ b 9 v9)
 exact ⟨k9, g9⟩
def IsF (w : World) (v : Value) (r c k : Nat) (hs us ws : List Int) (L : Nat) : Prop := ∃ sH sU sW : Value, v = .agg #[.int .i64 r, .int .i64 c, sH, .int .i64 r, .int .i64 r, sU, .int .i64 r, .int .i64 r, sW, .int .i64 k] ∧ IsM w (.agg #[.int .i64 r, .int .i64 c, sH]) r c hs L ∧ IsM w (.agg #[.int .i64 r, .int .i64 r, sU]) r r us L ∧ IsM w (.agg #[.int .i64 r, .int .i64 r, sW]) r r ws L
def EchOut (w w' : World) (e : Ending) (r c : Nat) (zs : List Int) (β L : Nat) : Prop := ∃ (v : Value) (k : Nat) (pc : Nat → Nat) (hs us ws : List Int), e = .returned v ∧ IsF w' v r c k hs us ws L ∧ EchSt r c k pc (ent c hs) ∧ EInv (ent c zs) (ent c hs) (ent r us) (ent r ws) r c ∧ EB (ent c hs) (ent r us) (ent r ws) r c k β ∧ Below w.heap.size w w' ∧ EcTo r c (ent c zs) c k (e3 r c hs us ws)
set_option maxRecDepth 100000 in
set_option maxHeartbeats 4000000 in
theorem gech_any (v : Value) (r c : Nat) (zs : List Int) (β L : Nat) (w : World) (hm : IsM w v r c zs L) (hr8 : r ≤ 8) (hc8 : c ≤ 8) (hβ : ∀ i j, i < r → j < c → (ent c zs i j).natAbs < 2 ^ β) (hL : L ≤ 60000000) (h1 : hB r β c ≤ 32 * L) (h2 : uB r β c ≤ 32 * L) :
 Calls Tryz.prog 37 #[v] w fun e w' => EchOut w w' e r c zs β L := by
 have HM := Hid.mk hm
 obtain ⟨hr, hc, sl, rfl, hg0⟩ := hm
 obtain ⟨ao, cap, rfl, -⟩ := hg0.shape
 obtain ⟨RC, hRC⟩ : ∃ RC, RC = r * c := ⟨_, rfl⟩
 rw [← hRC] at hg0
 rw [← hRC] at HM ⊢
 have H := Hid.mk (And.intro hg0 hRC)
 clear hg0 hRC
 go_enter Tryz.func37, Tryz.ntmps37
 go_wp2_with fail
 obtain ⟨W0, hW0⟩ : ∃ W0, W0 = (w.alloc (.cells #[.int .i64 r, .int .i64 c, .slice ao RC cap] 66)).alloc (.cells #[.int .i64 0, .int .i64 0, .slice none 0 0, .int .i64 0, .int .i64 0, .slice none 0 0, .int .i64 0, .int .i64 0, .slice none 0 0, .int .i64 0] 74) := ⟨_, rfl⟩
 have hs0 : W0.heap.size = w.heap.size + 2 := by rw [hW0]; simp
 have hb0 : Below w.heap.size w W0 := by rw [hW0]; repeat (first | exact Below.refl _ _ | refine Below.alloc ?_ (by simp <;> omega) _)
 have hbA := (Below.refl w.heap.size w).alloc (Nat.le_refl _) (.cells #[.int .i64 r, .int .i64 c, .slice ao RC cap] 66)
 have hm0 : Trio W0 w.heap.size (.int .i64 r) (.int .i64 c) (.slice ao RC cap) := by
  rw [hW0]
  exact Trio.later (w := w.alloc (.cells #[.int .i64 r, .int .i64 c, .slice ao RC cap] 66)) ⟨new_cell _ _ _ _ _ rfl rfl, new_cell _ _ _ _ _ rfl rfl, new_cell _ _ _ _ _ rfl rfl⟩ ((Below.refl _ _).alloc (Nat.le_refl _) _)
 have hR0 : W0.heap[w.heap.size + 1]? = some (.cells #[.int .i64 0, .int .i64 0, .slice none 0 0, .int .i64 0, .int .i64 0, .slice none 0 0, .int .i64 0, .int .i64 0, .slice none 0 0, .int .i64 0] 74 (0, 0)) := by
  rw [hW0]
  have := heap_alloc_new (w.alloc (.cells #[.int .i64 r, .int .i64 c, .slice ao RC cap] 66)) (.cells #[.int .i64 0, .int .i64 0, .slice none 0 0, .int .i64 0, .int .i64 0, .slice none 0 0, .int .i64 0, .int .i64 0, .slice none 0 0, .int .i64 0] 74)
  simpa using this
 have K0 := Hid.mk (And.intro hb0 (And.intro hm0 (And.intro hR0 hW0)))
 rw [← hW0]
 clear hb0 hm0 hR0 hW0 hbA
 refine (fromCells_new r c _ zs L _ hr hc (by rw [← H.out.2]; exact H.out.1.below K0.out.1)).mono ?_
 rintro e w1 ⟨gH, rfl, hg1, hG1, hb1⟩
 rw [← H.out.2] at hG1 ⊢
 have hw1 : W0.heap.size ≤ w1.heap.size := hb1.size
 have hgl := hG1.ty.lt
 obtain ⟨q0, q1, q2⟩ := K0.out.2.1.later hb1
 have K1 := Hid.mk (And.intro hG1 hb1)
 clear hG1 hb1
 go_wp2_with fail
 obtain ⟨W1, hW1⟩ : ∃ W1, W1 = w1.alloc (.cells #[.int .i64 r, .int .i64 c, .slice (some ⟨gH, 0, none⟩) RC RC] 66) := ⟨_, rfl⟩
 have hs1 : W1.heap.size = w1.heap.size + 1 := by rw [hW1]; simp
 have hb11 : Below w1.heap.size w1 W1 := by rw [hW1]; exact (Below.refl _ _).alloc (Nat.le_refl _) _
 have hmS : Trio W1 w1.heap.size (.int .i64 r) (.int .i64 c) (.slice (some ⟨gH, 0, none⟩) RC RC) := by rw [hW1]; exact ⟨new_cell _ _ _ _ _ rfl rfl, new_cell _ _ _ _ _ rfl rfl, new_cell _ _ _ _ _ rfl rfl⟩
 rw [← hW1]
 have hbW1 := K1.out.2.trans (hb11.mono hw1)
 have hm1 := K0.out.2.1.later hbW1
 have hR1 : W1.heap[w.heap.size + 1]? = some (.cells #[.int .i64 0, .int .i64 0, .slice none 0 0, .int .i64 0, .int .i64 0, .slice none 0 0, .int .i64 0, .int .i64 0, .slice none 0 0, .int .i64 0] 74 (0, 0)) := (hbW1.block _ (by omega)).trans K0.out.2.2.1
 have K2 := Hid.mk (And.intro (K1.out.1.below hb11) (And.intro hbW1 (And.intro hm1 (And.intro hR1 hmS))))
 have HC := Hid.mk (show ∀ w', Below W1.heap.size W1 w' → w'.cell? ⟨w.heap.size, 0, none⟩ = some (.int .i64 r) ∧ w'.cell? ⟨w1.heap.size, 0, none⟩ = some (.int .i64 r) ∧ w'.cell? ⟨w1.heap.size, 1, none⟩ = some (.int .i64 c) ∧ w'.cell? ⟨w1.heap.size, 2, none⟩ = some (.slice (some ⟨gH, 0, none⟩) RC RC) from
  fun w' hb => ⟨(hm1.later hb).1, (hmS.later hb).1, (hmS.later hb).2.1, (hmS.later hb).2.2⟩)
 clear hW1 hb11 hmS hbW1 hm1 hR1 q0 q1 q2
 go_region_held3 (fun w' => w'.cell? ⟨w.heap.size, 0, none⟩ = some (.int .i64 r) ∧ w'.cell? ⟨w1.heap.size, 0, none⟩ = some (.int .i64 r) ∧ w'.cell? ⟨w1.heap.size, 1, none⟩ = some (.int .i64 c) ∧ w'.cell? ⟨w1.heap.size, 2, none⟩ = some (.slice (some ⟨gH, 0, none⟩) RC RC))
  (exact HC.out _ (by first | exact hbU2 | exact hbU2.alloc hbU2.size _ | exact hbU1 | exact (Below.refl _ _).drew))
  (first
    | (go_at_call 60; (have hbU0 := hbU1); refine (unit_any r _ hr).mono ?_; rintro e9 w3 ⟨gW, ws0, rfl, hgW, hGW, hkW, hb3⟩; have hbU2 : Below W1.heap.size W1 w3 := hbU0.trans (hb3.mono hbU0.size); have hGU3 := hGU.below hb3; have hgUl := hGU.ty.lt; clear hb3 hbU0 hGU)
    | (go_at_call 60; refine (unit_any r _ hr).mono ?_; rintro e9 w2 ⟨gU, us0, rfl, hgU, hGU, hkU, hb2⟩; have hbU1 : Below W1.heap.size W1 w2 := ((Below.refl _ _).drew).trans hb2; clear hb2))
 obtain ⟨W3, hW3⟩ : ∃ W3, W3 = w3.alloc (.cells #[.int .i64 r, .int .i64 c, .slice (some ⟨gH, 0, none⟩) RC RC, .int .i64 r, .int .i64 r, .slice (some ⟨gU, 0, none⟩) (r * r) (r * r), .int .i64 r, .int .i64 r, .slice (some ⟨gW, 0, none⟩) (r * r) (r * r), .int .i64 0] 74) := ⟨_, rfl⟩
 have hs3 : W3.heap.size = w3.heap.size + 1 := by rw [hW3]; simp
 have hb33 : Below w3.heap.size w3 W3 := by rw [hW3]; exact (Below.refl _ _).alloc (Nat.le_refl _) _
 have hcell : ∀ i v, (#[Value.int .i64 r, .int .i64 c, .slice (some ⟨gH, 0, none⟩) RC RC, .int .i64 r, .int .i64 r, .slice (some ⟨gU, 0, none⟩) (r * r) (r * r), .int .i64 r, .int .i64 r, .slice (some ⟨gW, 0, none⟩) (r * r) (r * r), .int .i64 0])[i]? = some v → W3.cell? ⟨w3.heap.size, i, none⟩ = some v := fun i v h => by rw [hW3]; exact new_cell _ _ _ _ _ rfl h
 have hw3s : W1.heap.size ≤ w3.heap.size := hbU2.size
 have hgU2 : W1.heap.size ≤ gU := hgU
 have hgWl := hGW.ty.lt
 have hw2s : w2.heap.size ≤ w3.heap.size := by omega
 have hbW3 : Below W1.heap.size W1 W3 := hbU2.trans (hb33.mono hw3s)
 have hL1 : 1 ≤ L := by have := uB_mono r β (Nat.zero_le c); rw [uB] at this; omega
 have hF : FormO W3 W0.heap.size w3.heap.size gH gU gW r c 0 zs us0 ws0 L := by
  have hRC := H.out.2
  have hGH := K2.out.1.below hbW3
  refine ⟨⟨hr, hc, ⟨hcell 0 _ rfl, hcell 1 _ rfl, ?_⟩, by rw [← hRC]; exact hGH⟩, ⟨hr, hr, ⟨hcell 3 _ rfl, hcell 4 _ rfl, hcell 5 _ rfl⟩, (hGU3.below hb33).mono hL1⟩, ⟨hr, hr, ⟨hcell 6 _ rfl, hcell 7 _ rfl, hcell 8 _ rfl⟩, (hGW.below hb33).mono hL1⟩, hcell 9 _ rfl, by rw [hW3]; exact World.frozen?_alloc_new _ _ _ _, by rw [hW3]; exact Ty.new _ _ _, by omega, by omega, by omega, by omega, by omega, by omega, by omega, by omega, by omega, by omega⟩
  rw [← hRC]; exact hcell 2 _ rfl
 have hbB : Below W0.heap.size W0 W3 := K2.out.2.1.trans (hbW3.mono (by omega))
 have K3 := Hid.mk (And.intro hF (And.intro hbB (And.intro hW3 (And.intro hkU hkW))))
 rw [← hW3]
 clear hF hbB hW3 hcell hb33 hbW3 hkU hkW hGW hGU3 hbU2 hbU1
 go_wp2_with fail
 have HH := Hid.mk (And.intro h1 (And.intro h2 hβ))
 clear h1 h2 hβ
 go_loopw [5] (fun i wr => ∃ (e t : Nat) (pc : Nat → Nat) (hs1 us1 ws1 : List Int), e ≤ c ∧ i = .int .i64 e ∧ Hid (FormO wr W0.heap.size w3.heap.size gH gU gW r c t hs1 us1 ws1 L ∧ Below W0.heap.size W0 wr ∧ EchSt r e t pc (ent c hs1) ∧ EInv (ent c zs) (ent c hs1) (ent r us1) (ent r ws1) r c ∧ EB (ent c hs1) (ent r us1) (ent r ws1) r c t β ∧ EcTo r c (ent c zs) e t (e3 r c hs1 us1 ws1))) (fun i _ => c - (intOf i).toNat)
 case atStart =>
  obtain ⟨a1, a2, a3, a4, a5⟩ := K3.out
  refine ⟨0, 0, id, zs, us0, ws0, Nat.zero_le _, rfl, Hid.mk ⟨a1, a2, EchSt.start _ _ _, (EInv.start (ent c zs) r c).congr (fun _ _ _ _ => rfl) (fun _ _ _ _ => rfl) a4 a5, ⟨fun i j _ b d => HH.out.2.2 i j b d, HH.out.2.2, fun i j a b => ?_, fun i j a b => ?_⟩, .start _ ⟨fun _ _ _ _ => rfl, fun i j a b => (a4 i j a b).symm, fun i j a b => (a5 i j a b).symm⟩⟩⟩
  ·rw [a4 i j a b, uB]; unfold kd; split <;> decide
  ·rw [a5 i j a b, uB]; unfold kd; split <;> decide
 case round =>
  obtain ⟨e, t, pc, hs1, us1, ws1, he, rfl, HI⟩ := hrel
  obtain ⟨q0, q1, q2⟩ := K0.out.2.1
  have hbr := HI.out.2.1
  have q1' := (show wr.cell? ⟨w.heap.size, 1, none⟩ = some (.int .i64 c) from by rw [hbr.cell (p := ⟨w.heap.size, 1, none⟩) (by show w.heap.size < W0.heap.size; omega)]; exact q1)
  clear q0 q1 q2 hbr
  by_cases hec : e < c
  ·have hei : (e : Int) < (c : Int) := by omega
   have HG : Hid (GaBd (ent c hs1) (ent r us1) (ent r ws1) r c t e L (2 ^ bB r β t - 1) (2 ^ bB r β t - 1) (2 ^ uB r β t - 1) (2 ^ uB r β t - 1) (2 ^ bB r β (t + 1) - 1) (2 ^ uA r β (uB r β t) t - 1) (2 ^ uA r β (uB r β t) t - 1)) := Hid.mk (by
    obtain ⟨g1, g2, g3, g4, g5⟩ := HI.out.2.2.2.2.1.gaBd hec
    have hte := HI.out.2.2.1.te
    have e1 := hB_mono r β (show t + 1 ≤ c by omega)
    have e2 := uB_mono r β (show t + 1 ≤ c by omega)
    have e3 := bB_le r β (t + 1)
    have e4 : uA r β (uB r β t) t ≤ uB r β (t + 1) := by rw [uB]; omega
    have hh1 := HH.out.1
    have hh2 := HH.out.2.1
    have p1 : 2 ^ bB r β (t + 1) ≤ 4294967296 ^ L := by rw [pow32]; exact Nat.pow_le_pow_right (by decide) (by omega)
    have p2 : 2 ^ uA r β (uB r β t) t ≤ 4294967296 ^ L := by rw [pow32]; exact Nat.pow_le_pow_right (by decide) (by omega)
    have p3 : 0 < 2 ^ bB r β (t + 1) := Nat.pow_pos (by decide)
    have p4 : 0 < 2 ^ uA r β (uB r β t) t := Nat.pow_pos (by decide)
    exact ⟨g1, g2, g3, g4, g4, fun h => ⟨(g5 h).1, (g5 h).2, (g5 h).2⟩, by omega, by omega, by omega⟩)
   go_wp2_with fail
   refine (gather_any W0.heap.size w3.heap.size gH gU gW r c t e hs1 us1 ws1 (ent c zs) L _ _ _ _ _ _ _ _ HI.out.1 hr8 HI.out.2.2.1.le hec hL HG.out HI.out.2.2.2.1).mono ?_
   rintro e9 w4 ⟨rfl, hb4, ho⟩
   have K4 := Hid.mk (And.intro hb4 ho)
   clear hb4 ho
   go_wp2_with fail
   go_roundw
   case measure => simp [intOf]; omega
   case rel =>
    obtain ⟨i1, i2, i3, i4, i5, i6⟩ := HI.out
    rcases K4.out.2 with ⟨z1, z2⟩ | ⟨htr, hs2, us2, ws2, z2, z3, z4, z5⟩
    ·exact ⟨e + 1, t, pc, hs1, us1, ws1, by omega, by go_num, Hid.mk ⟨z2, i2.trans K4.out.1, i3.skip z1, i4, i5, .step _ _ _ _ _ i6 (.inl ⟨z1, rfl, F3.Eq.refl _ _ _⟩)⟩⟩
    ·have hE := i5.next htr hec z4
     have hte := i3.te
     have e1 := hB_mono r β (show t + 1 ≤ c by omega)
     have e2 := uB_mono r β (show t + 1 ≤ c by omega)
     have hh1 := HH.out.1
     have hh2 := HH.out.2.1
     have p1 : 2 ^ hB r β (t + 1) ≤ 4294967296 ^ L := by rw [pow32]; exact Nat.pow_le_pow_right (by decide) (by omega)
     have p2 : 2 ^ uB r β (t + 1) ≤ 4294967296 ^ L := by rw [pow32]; exact Nat.pow_le_pow_right (by decide) (by omega)
     exact ⟨e + 1, t + 1, _, hs2, us2, ws2, by omega, by go_num, Hid.mk ⟨z2.fit (fun i j a b => Nat.lt_of_lt_of_le (hE.h i j a b) p1) (fun i j a b => Nat.lt_of_lt_of_le (hE.u i j a b) p2) (fun i j a b => Nat.lt_of_lt_of_le (hE.w i j a b) p2), i2.trans K4.out.1, i3.pivot htr hec z4, z3, hE, .step _ _ _ _ _ i6 z5⟩⟩
  ·have hei : ¬ (e : Int) < (c : Int) := by omega
   have hee : e = c := by omega
   have HEE := Hid.mk hee
   clear hee
   obtain ⟨a0, a1, a2⟩ := HI.out.1.H.tri
   obtain ⟨a3, a4, a5⟩ := HI.out.1.U.tri
   obtain ⟨a6, a7, a8⟩ := HI.out.1.W.tri
   have a9 := HI.out.1.rk
   have hR : wr.heap[w.heap.size + 1]? = some (.cells #[.int .i64 0, .int .i64 0, .slice none 0 0, .int .i64 0, .int .i64 0, .slice none 0 0, .int .i64 0, .int .i64 0, .slice none 0 0, .int .i64 0] 74 (0, 0)) := (HI.out.2.1.block _ (by omega)).trans K0.out.2.2.1
   have HR := Hid.mk hR
   have b0 : ∀ i v, (#[Value.int .i64 0, .int .i64 0, .slice none 0 0, .int .i64 0, .int .i64 0, .slice none 0 0, .int .i64 0, .int .i64 0, .slice none 0 0, .int .i64 0])[i]? = some v → wr.cell? ⟨w.heap.size + 1, i, none⟩ = some v := fun i v h => by simpa [World.cell?, hR] using h
   have f0 : ∀ o, wr.frozen? ⟨w.heap.size + 1, o, none⟩ = false := fun o => by simp [World.frozen?, hR]
   clear hR
   have y0 := b0 0 _ rfl
   have y1 := b0 1 _ rfl
   have y2 := b0 2 _ rfl
   have y3 := b0 3 _ rfl
   have y4 := b0 4 _ rfl
   have y5 := b0 5 _ rfl
   have y6 := b0 6 _ rfl
   have y7 := b0 7 _ rfl
   have y8 := b0 8 _ rfl
   have y9 := b0 9 _ rfl
   clear b0
   go_wp2_with fail
   refine bodyPost_ret (v := .agg #[.int .i64 r, .int .i64 c, .slice (some ⟨gH, 0, none⟩) (r * c) (r * c), .int .i64 r, .int .i64 r, .slice (some ⟨gU, 0, none⟩) (r * r) (r * r), .int .i64 r, .int .i64 r, .slice (some ⟨gW, 0, none⟩) (r * r) (r * r), .int .i64 t]) ?_ rfl ?_
   ·(simp [results, Tryz.results37, go_sem, y0, y1, y2, y3, y4, y5, y6, y7, y8, y9]; done)
   ·have hTy : Ty wr (w.heap.size + 1) 74 := ⟨_, _, HR.out⟩
    obtain ⟨i1, i2, i3, i4, i5, i6⟩ := HI.out
    have key : ∀ W, KU wr W → wr.grownBy W (some (w.heap.size + 1)) → EchOut w W (.returned (.agg #[.int .i64 r, .int .i64 c, .slice (some ⟨gH, 0, none⟩) (r * c) (r * c), .int .i64 r, .int .i64 r, .slice (some ⟨gU, 0, none⟩) (r * r) (r * r), .int .i64 r, .int .i64 r, .slice (some ⟨gW, 0, none⟩) (r * r) (r * r), .int .i64 t])) r c zs β L := by
     intro W hk hg
     have hne : ∀ g, W0.heap.size ≤ g → ∀ (n m : Nat) (a : Addr) (m' c' : Nat), Value.slice (some ⟨g, 0, none⟩) n m = .slice (some a) m' c' → a.block ≠ w.heap.size + 1 := fun g h n m a m' c' e => by
      simp only [Value.slice.injEq, Option.some.injEq] at e
      obtain ⟨rfl, -, -⟩ := e
      show g ≠ w.heap.size + 1
      omega
     refine ⟨_, t, pc, hs1, us1, ws1, rfl, ⟨_, _, _, rfl, ⟨hr, hc, _, rfl, i1.H.grid.grown hg (hne gH i1.b1 _ _) hk⟩, ⟨hr, hr, _, rfl, i1.U.grid.grown hg (hne gU i1.b2 _ _) hk⟩, ⟨hr, hr, _, rfl, i1.W.grid.grown hg (hne gW i1.b3 _ _) hk⟩⟩, ?_, i4, i5, ?_, by rw [← HEE.out]; exact HEE.out ▸ i6⟩
     ·have := HEE.out
      rw [this] at i3
      exact i3
     ·have hb := (K0.out.1.trans (i2.mono (by omega)))
      exact hb.trans (below_of_grown hg (by omega) (by have := i2.size; omega))
    have h10 := set10 wr (w.heap.size + 1) hTy (by decide) (.int .i64 r) (.int .i64 c) (.slice (some ⟨gH, 0, none⟩) (r * c) (r * c)) (.int .i64 r) (.int .i64 r) (.slice (some ⟨gU, 0, none⟩) (r * r) (r * r)) (.int .i64 r) (.int .i64 r) (.slice (some ⟨gW, 0, none⟩) (r * r) (r * r)) (.int .i64 t)
    exact key _ h10.1 h10.2
open Go.RowKit
theorem set3 (w : World) (b : Nat) {t : TypeId} (ht : Ty w b t) (hne : t ≠ 144) (v0 v1 v2 : Value) : KU w (((w.setCell ⟨b, 0, none⟩ v0).setCell ⟨b, 1, none⟩ v1).setCell ⟨b, 2, none⟩ v2) ∧ w.grownBy (((w.setCell ⟨b, 0, none⟩ v0).setCell ⟨b, 1, none⟩ v1).setCell ⟨b, 2, none⟩ v2) (some b) := by
 have k0 := KU.setCell (o := 0) (KU.refl w) ht hne v0
 have t0 := ht.setCell ⟨b, 0, none⟩ v0
 have k1 := KU.setCell (o := 1) k0 t0 hne v1
 have t1 := t0.setCell ⟨b, 1, none⟩ v1
 have k2 := KU.setCell (o := 2) k1 t1 hne v2
 exact ⟨k2, grown_trans (grown_trans (grown_cell _ _ _ _) (grown_cell _ _ _ _)) (grown_cell _ _ _ _)⟩
theorem Grid.besides {w W : World} {b g n L : Nat} {zs : List Int} (h : Grid w (.slice (some ⟨g, 0, none⟩) n n) n zs L) (hg : w.grownBy W (some b)) (hk : KU w W) (hne : g ≠ b) : Grid W (.slice (some ⟨g, 0, none⟩) n n) n zs L :=
 h.grown hg (fun a m c e => by
  simp only [Value.slice.injEq, Option.some.injEq] at e
  obtain ⟨rfl, -, -⟩ := e
  exact hne) hk
set_option maxRecDepth 100000 in
set_option maxHeartbeats 4000000 in
theorem flip_new (v : Value) (r c : Nat) (zs : List Int) (L : Nat) (w : World) (hm : IsM w v r c zs L) :
 Calls Tryz.prog 105 #[v] w fun e w' => ∃ g ms, e = .returned (.agg #[.int .i64 c, .int .i64 r, .slice (some ⟨g, 0, none⟩) (c * r) (c * r)]) ∧ w.heap.size ≤ g ∧ Grid w' (.slice (some ⟨g, 0, none⟩) (c * r) (c * r)) (c * r) ms L ∧ (∀ i j, i < c → j < r → ent r ms i j = ent c zs j i) ∧ Below w.heap.size w w' := by
 have HM := Hid.mk hm
 obtain ⟨hr, hc, sl, rfl, hg0⟩ := hm
 obtain ⟨ao, cap, rfl, -⟩ := hg0.shape
 clear hg0
 obtain ⟨N, hN⟩ : ∃ N, N = r * c := ⟨_, rfl⟩
 rw [← hN] at HM ⊢
 clear hN
 go_enter Tryz.func105, Tryz.ntmps105
 go_wp2_with fail
 obtain ⟨W0, hW0⟩ : ∃ W0, W0 = (w.alloc (.cells #[.int .i64 r, .int .i64 c, .slice ao N cap] 66)).alloc (.cells #[.int .i64 0, .int .i64 0, .slice none 0 0] 66) := ⟨_, rfl⟩
 have hs0 : W0.heap.size = w.heap.size + 2 := by rw [hW0]; simp
 have hb0 : Below w.heap.size w W0 := by rw [hW0]; repeat (first | exact Below.refl _ _ | refine Below.alloc ?_ (by simp <;> omega) _)
 have hm0 : Trio W0 w.heap.size (.int .i64 r) (.int .i64 c) (.slice ao N cap) := by
  rw [hW0]
  exact Trio.later (w := w.alloc (.cells #[.int .i64 r, .int .i64 c, .slice ao N cap] 66)) ⟨new_cell _ _ _ _ _ rfl rfl, new_cell _ _ _ _ _ rfl rfl, new_cell _ _ _ _ _ rfl rfl⟩ ((Below.refl _ _).alloc (Nat.le_refl _) _)
 have hR0 : W0.heap[w.heap.size + 1]? = some (.cells #[.int .i64 0, .int .i64 0, .slice none 0 0] 66 (0, 0)) := by
  rw [hW0]
  have := heap_alloc_new (w.alloc (.cells #[.int .i64 r, .int .i64 c, .slice ao N cap] 66)) (.cells #[.int .i64 0, .int .i64 0, .slice none 0 0] 66)
  simpa using this
 have K0 := Hid.mk (And.intro hb0 (And.intro hm0 hR0))
 rw [← hW0]
 clear hb0 hm0 hR0 hW0
 refine (noughts_any c r _ hc hr).mono ?_
 rintro e w1 ⟨g, rfl, hg1, hG1, hb1⟩
 have hw1 : W0.heap.size ≤ w1.heap.size := hb1.size
 have hgl := hG1.ty.lt
 have hb11 := (Below.refl w1.heap.size w1).alloc (Nat.le_refl _) (.cells #[.int .i64 c, .int .i64 r, .slice (some ⟨g, 0, none⟩) (c * r) (c * r)] 66)
 have hTm : Tri (w1.alloc (.cells #[.int .i64 c, .int .i64 r, .slice (some ⟨g, 0, none⟩) (c * r) (c * r)] 66)) w1.heap.size 0 (.int .i64 c) (.int .i64 r) (.slice (some ⟨g, 0, none⟩) (c * r) (c * r)) := ⟨new_cell _ _ _ _ _ rfl rfl, new_cell _ _ _ _ _ rfl rfl, new_cell _ _ _ _ _ rfl rfl⟩
 obtain ⟨W1, hW1⟩ : ∃ W1, W1 = w1.alloc (.cells #[.int .i64 c, .int .i64 r, .slice (some ⟨g, 0, none⟩) (c * r) (c * r)] 66) := ⟨_, rfl⟩
 have hs1 : W1.heap.size = w1.heap.size + 1 := by rw [hW1]; simp
 rw [← hW1] at hb11 hTm
 have hbW := hb1.trans (hb11.mono hw1)
 have K1 := Hid.mk (And.intro (show MatO W1 w1.heap.size 0 g c r (List.replicate (c * r) 0) L from ⟨hc, hr, hTm, (hG1.mono (Nat.zero_le _)).below hb11⟩) (And.intro hbW hW1))
 clear hG1 hb1 hb11 hTm hW1 hbW
 go_wp2_with fail
 rw [← K1.out.2.2]
 have hpg : w1.heap.size ≠ g := by omega
 go_loopw [4] (fun i wr => ∃ (a : Nat) (ms : List Int), a ≤ r ∧ i = .int .i64 a ∧ Hid (MatO wr w1.heap.size 0 g c r ms L ∧ W1.grownBy wr (some g) ∧ ∀ i j, i < c → j < r → j < a → ent r ms i j = ent c zs j i)) (fun i _ => r - (intOf i).toNat)
 case atStart => exact ⟨0, _, Nat.zero_le _, rfl, Hid.mk ⟨K1.out.1, World.grownBy.refl _ _, fun i j _ _ h => by omega⟩⟩
 case round =>
  rename World => wo
  obtain ⟨a, ms, ha, rfl, HI⟩ := hrel
  have hTo := (K0.out.2.1.later K1.out.2.1).grown HI.out.2.1 (by omega)
  obtain ⟨q0, q1, q2⟩ := hTo
  by_cases har : a < r
  ·have hai : (a : Int) < (r : Int) := by omega
   go_wp2_with fail
   clear q0 q1 q2
   go_loopw [5] (fun i wr => ∃ (e : Nat) (ns : List Int), e ≤ c ∧ i = .int .i64 e ∧ Hid (MatO wr w1.heap.size 0 g c r ns L ∧ W1.grownBy wr (some g) ∧ ∀ i j, i < c → j < r → (j < a ∨ (j = a ∧ i < e)) → ent r ns i j = ent c zs j i)) (fun i _ => c - (intOf i).toNat)
   case atStart => exact ⟨0, ms, Nat.zero_le _, rfl, Hid.mk ⟨HI.out.1, HI.out.2.1, fun i j x y h => HI.out.2.2 i j x y (by omega)⟩⟩
   case round =>
    rename World => wi
    obtain ⟨e, ns, he, rfl, HJ⟩ := hrel
    have hTi := (K0.out.2.1.later K1.out.2.1).grown HJ.out.2.1 (by omega)
    obtain ⟨q0, q1, q2⟩ := hTi
    have hbi : Below w.heap.size w wi := (K0.out.1.trans (K1.out.2.1.mono (by omega))).trans (below_of_grown HJ.out.2.1 (by omega) (by omega))
    have hwi := HJ.out.2.1.size
    have KI := Hid.mk hbi
    clear hbi
    by_cases hec : e < c
    ·have hei : (e : Int) < (c : Int) := by omega
     go_wp2_with fail
     refine (at_in _ r c a e zs L _ (HM.out.below KI.out) har hec).mono ?_
     rintro e9 w2 ⟨x, rfl, hx, hb2⟩
     obtain ⟨nb2, so2, n2, cp2, rfl⟩ := hx.shape
     have hb22 := (Below.refl w2.heap.size w2).alloc (Nat.le_refl _) (.cells #[.bool nb2, .slice so2 n2 cp2] 79)
     have hbB := hb2.trans (hb22.mono hb2.size)
     have K2 := Hid.mk (And.intro hbB (hx.below hb22))
     clear hx hb2 hb22 hbB q0 q1 q2
     go_wp2_with fail
     refine (set_m w1.heap.size 0 g c r e a ns L _ _ _ (HJ.out.1.later K2.out.1) hpg K2.out.2 hec har).mono ?_
     rintro e9 w3 ⟨rfl, hM3, hgr3, -⟩
     have K3 := Hid.mk (And.intro hM3 (grown_trans (grown_below HJ.out.2.1 K2.out.1) hgr3))
     clear hM3 hgr3
     go_wp2_with fail
     go_roundw
     case measure => simp [intOf]; omega
     case rel =>
      refine ⟨e + 1, _, by omega, by go_num, Hid.mk ⟨K3.out.1, K3.out.2, fun i j hi hj hd => ?_⟩⟩
      rw [ent_set ns c r HJ.out.1.len e a i j _ hec har hj]
      by_cases hij : i = e ∧ j = a
      ·obtain ⟨rfl, rfl⟩ := hij
       rw [if_pos ⟨rfl, rfl⟩]
       rfl
      ·rw [if_neg hij]
       exact HJ.out.2.2 i j hi hj (by omega)
    ·have hei : ¬ (e : Int) < (c : Int) := by omega
     go_wp2_with fail
     go_roundw
     case measure => simp [intOf]; omega
     case rel => exact ⟨a + 1, ns, by omega, by go_num, Hid.mk ⟨HJ.out.1, HJ.out.2.1, fun i j hi hj hd => HJ.out.2.2 i j hi hj (by omega)⟩⟩
  ·have hai : ¬ (a : Int) < (r : Int) := by omega
   have hR : wo.heap[w.heap.size + 1]? = some (.cells #[.int .i64 0, .int .i64 0, .slice none 0 0] 66 (0, 0)) := ((HI.out.2.1.block _ (by omega) (fun e => by injection e with e; omega)).trans (K1.out.2.1.block _ (by omega))).trans K0.out.2.2
   have r0 : wo.cell? ⟨w.heap.size + 1, 0, none⟩ = some (.int .i64 0) := by simp [World.cell?, hR]
   have r1 : wo.cell? ⟨w.heap.size + 1, 1, none⟩ = some (.int .i64 0) := by simp [World.cell?, hR]
   have r2 : wo.cell? ⟨w.heap.size + 1, 2, none⟩ = some (.slice none 0 0) := by simp [World.cell?, hR]
   have f0 : ∀ o, wo.frozen? ⟨w.heap.size + 1, o, none⟩ = false := fun o => by simp [World.frozen?, hR]
   have HT : Hid (Ty wo (w.heap.size + 1) 66) := Hid.mk ⟨_, _, hR⟩
   obtain ⟨s0, s1, s2⟩ := HI.out.1.tri
   clear hR
   go_wp2_with fail
   refine bodyPost_ret (v := .agg #[.int .i64 c, .int .i64 r, .slice (some ⟨g, 0, none⟩) (c * r) (c * r)]) ?_ rfl ?_
   ·(simp [results, Tryz.results105, go_sem, r0, r1, r2]; done)
   ·have h3 := set3 wo (w.heap.size + 1) HT.out (by decide) (.int .i64 c) (.int .i64 r) (.slice (some ⟨g, 0, none⟩) (c * r) (c * r))
    have hbo : Below w.heap.size w wo := (K0.out.1.trans (K1.out.2.1.mono (by omega))).trans (below_of_grown HI.out.2.1 (by omega) (by omega))
    exact ⟨g, rfl, by omega, ms, HI.out.1.grid.besides h3.2 h3.1 (by omega), fun i j hi hj => HI.out.2.2 i j hi hj (by omega), hbo.trans (below_of_grown h3.2 (by omega) hbo.size)⟩
theorem flip_any (v : Value) (r c : Nat) (zs : List Int) (L : Nat) (w : World) (hm : IsM w v r c zs L) :
 Calls Tryz.prog 105 #[v] w fun e w' => ∃ x ms, e = .returned x ∧ IsM w' x c r ms L ∧ (∀ i j, i < c → j < r → ent r ms i j = ent c zs j i) ∧ Below w.heap.size w w' := by
 refine (flip_new v r c zs L w hm).mono ?_
 rintro e w' ⟨g, ms, rfl, -, hG, hP, hb⟩
 exact ⟨_, ms, rfl, ⟨hm.2.1, hm.1, _, rfl, hG⟩, hP, hb⟩
end Go.Proofs.YtfjbijpagaipnabGreatDoor
