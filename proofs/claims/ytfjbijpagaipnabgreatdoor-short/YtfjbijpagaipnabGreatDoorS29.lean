import Derived.Test.YtfjbijpagaipnabGreatDoorS28
import Derived.Test.YtfjbijpagaipnabGreatDoorS26
import Derived.Test.YtfjbijpagaipnabGreatDoorS27
namespace Go.Proofs.YtfjbijpagaipnabGreatDoor.R
open Go.RowKit
theorem QSt.congr {c n k z X : Nat} {b b' : Nat → Nat → Int} (h : QSt c n k z X b) (he : ∀ i j, i < n → j < c → b' i j = b i j) : QSt c n k z X b' := by
 have hkz := h.kz
 have hzn := h.zn
 have hv : ∀ i, i ≤ n → vol c b' i = vol c b i := fun i hi => vol_congr (fun a ha j hj => he a j (by omega) hj)
 have hl : ∀ i j, i < n → j < n → lam c b' i j = lam c b i j := fun i j hi hj => lam_congr (fun a ha t ht => he a t (by omega) ht) (fun t ht => he i t hi ht)
 refine ⟨hkz, hzn, h.n4, fun i hi => by rw [hv i (by omega)]; exact h.pos i hi, ?_, fun j hj => by rw [hv (j + 1) (by omega), hv j (by omega)]; exact h.rat j hj, fun i hi => by rw [ip_congr (he i · hi) (he i · hi)]; exact h.len i hi, fun i hi j hj => by rw [hl i j (by omega) (by omega), hv (j + 1) (by omega)]; exact h.red i hi j hj, fun i hi => by rw [hl (i + 1) i (by omega) (by omega), hv (i + 1) (by omega), hv (i + 2) (by omega), hv i (by omega)]; exact h.ord i hi⟩
 rcases h.dep with h1 | h1
 ·exact .inl h1
 ·by_cases e : z = n
  ·exact .inl e
  ·exact .inr (by rw [hv (z + 1) (by omega)]; exact h1)
theorem meas_congr {c n k z : Nat} {b b' : Nat → Nat → Int} (h : ∀ i, i ≤ z → vol c b' i = vol c b i) : meas c n k z b' = meas c n k z b := by unfold meas; rw [phi_congr z h]
theorem Sp.eq {H : Nat → Nat → Int} {k c : Nat} {v v' : Nat → Int} (h : Sp H k c v) (he : ∀ j, j < c → v' j = v j) : Sp H k c v' := by
 obtain ⟨x, hx⟩ := h
 exact ⟨x, fun j hj => by rw [he j hj]; exact hx j hj⟩
theorem Sp.nought (H : Nat → Nat → Int) (k : Nat) {c : Nat} {v : Nat → Int} (hv : ∀ j, j < c → v j = 0) : Sp H k c v := ⟨fun _ => 0, fun j hj => by rw [hv j hj, sm_zero k (fun _ _ => by simp)]⟩
theorem sp_tk {b : Nat → Nat → Int} {n c k q : Nat} {v : Nat → Int} (s : Int) (hk : k < n) (hq : q < n) (hkq : k ≠ q) (h : Sp b n c v) : Sp (tkR b k q s) n c v := by
 refine h.trans (fun i hi => ?_)
 by_cases e : i = k
 ·subst e
  refine Sp.eq (Sp.sub (Sp.row (tkR b i q s) c hi) (Sp.scale (-s) (Sp.row (tkR b i q s) c hq))) (fun j _ => ?_)
  unfold tkR
  rw [if_pos rfl, if_neg (fun e => hkq e.symm)]
  grind
 ·refine Sp.eq (Sp.row (tkR b k q s) c hi) (fun j _ => ?_)
  unfold tkR
  rw [if_neg e]
theorem sp_sw {b : Nat → Nat → Int} {n c k : Nat} {v : Nat → Int} (hk : k + 1 < n) (h : Sp b n c v) : Sp (swF b k) n c v := by
 refine h.trans (fun i hi => ?_)
 refine Sp.eq (Sp.row (swF b k) c (swq_lt (show k < n by omega) hk hi)) (fun j _ => ?_)
 unfold swF
 congr 1
 unfold swq
 split
 ·rw [if_neg (by omega), if_pos rfl]; assumption
 ·split
  ·rw [if_pos rfl]; assumption
  ·rfl
theorem sp_out {b : Nat → Nat → Int} {n c k : Nat} {v : Nat → Int} (hk : k < n + 1) (h0 : ∀ j, j < c → b k j = 0) (h : Sp b (n + 1) c v) : Sp (outF b k) n c v := by
 refine h.trans (fun i hi => ?_)
 by_cases e : i = k
 ·subst e; exact Sp.nought _ _ h0
 ·rcases Nat.lt_or_ge i k with h1 | h1
  ·refine Sp.eq (Sp.row (outF b k) c (show i < n by omega)) (fun j _ => ?_)
   unfold outF
   rw [if_pos h1]
  ·refine Sp.eq (Sp.row (outF b k) c (show i - 1 < n by omega)) (fun j _ => ?_)
   unfold outF
   rw [if_neg (by omega), show i - 1 + 1 = i from by omega]
theorem ip_ge {c j : Nat} (x : Nat → Int) (hj : j < c) : x j * x j ≤ ip c x x := by
 induction c with
 | zero => omega
 | succ c ih =>
   unfold ip at ih ⊢
   rw [sm]
   by_cases e : j = c
   ·subst e
    have := ip_nonneg j x
    unfold ip at this
    omega
   ·have := ih (by omega)
    have := sq_nonneg (x c)
    omega
theorem ent_short {c E j : Nat} {x : Nat → Int} (h : ip c x x ≤ 2 * ((2 ^ E : Nat) : Int)) (hE : E ≤ 102) (hj : j < c) : (x j).natAbs < 2 ^ 52 := by
 have h1 := ip_ge x hj
 have h2 : 2 ^ E ≤ 2 ^ 102 := Nat.pow_le_pow_right (by decide) hE
 have e1 : x j * x j = (((x j).natAbs * (x j).natAbs : Nat) : Int) := Int.natAbs_mul_self.symm
 rw [e1] at h1
 rcases Nat.lt_or_ge (x j).natAbs (2 ^ 52) with h3 | h3
 ·exact h3
 ·have h4 := Nat.mul_le_mul h3 h3
  omega
structure RedI (c m n k kk : Nat) (A b t : Nat → Nat → Int) : Prop where
 le : kk ≤ 32000
 c4 : c ≤ 4
 st : ∃ z, QSt c n k z (2 ^ (102 - n)) b ∧ meas c n k z b ≤ kk
 tm : ∀ i j, i < n → j < c → sm (fun a => t i a * A a j) m = b i j
 back : ∀ i, i < m → Sp b n c (A i)
 bits : ∀ i j, i < n → j < m → (t i j).natAbs < 2 ^ (1 + 4600 * (32000 - kk))
structure RedM (c m n k kk : Nat) (A b t : Nat → Nat → Int) : Prop where
 le : kk ≤ 32000
 c4 : c ≤ 4
 st : ∃ z, QSt c n k z (2 ^ (102 - n)) b ∧ meas c n k z b ≤ kk
 red : ∀ q, q < k → 2 * lam c b k q ≤ vol c b (q + 1) ∧ -(2 * lam c b k q) ≤ vol c b (q + 1)
 tm : ∀ i j, i < n → j < c → sm (fun a => t i a * A a j) m = b i j
 back : ∀ i, i < m → Sp b n c (A i)
 bits : ∀ i j, i < n → j < m → (t i j).natAbs < 2 ^ (1 + 4600 * (32000 - kk) + 4600)
theorem RedI.congr {c m n k kk : Nat} {A b t b' t' : Nat → Nat → Int} (h : RedI c m n k kk A b t) (hb : ∀ i j, i < n → j < c → b' i j = b i j) (ht : ∀ i j, i < n → j < m → t' i j = t i j) : RedI c m n k kk A b' t' := by
 obtain ⟨z, hz, hm⟩ := h.st
 have hzn := hz.zn
 refine ⟨h.le, h.c4, ⟨z, hz.congr hb, ?_⟩, fun i j hi hj => ?_, fun i hi => ?_, fun i j hi hj => by rw [ht i j hi hj]; exact h.bits i j hi hj⟩
 ·rw [meas_congr (fun i hi => vol_congr (fun a ha j hj => hb a j (by omega) hj))]; exact hm
 ·rw [hb i j hi hj, ← h.tm i j hi hj]
  exact sm_congr m (fun a ha => by rw [ht i a hi ha])
 ·exact (h.back i hi).trans (fun a ha => Sp.eq (Sp.row b' c ha) (fun j hj => (hb a j ha hj).symm))
theorem RedM.congr {c m n k kk : Nat} {A b t b' t' : Nat → Nat → Int} (h : RedM c m n k kk A b t) (hk : k < n) (hb : ∀ i j, i < n → j < c → b' i j = b i j) (ht : ∀ i j, i < n → j < m → t' i j = t i j) : RedM c m n k kk A b' t' := by
 obtain ⟨z, hz, hm⟩ := h.st
 have hzn := hz.zn
 refine ⟨h.le, h.c4, ⟨z, hz.congr hb, ?_⟩, fun q hq => ?_, fun i j hi hj => ?_, fun i hi => ?_, fun i j hi hj => by rw [ht i j hi hj]; exact h.bits i j hi hj⟩
 ·rw [meas_congr (fun i hi => vol_congr (fun a ha j hj => hb a j (by omega) hj))]; exact hm
 ·rw [vol_congr (b' := b) (fun a ha j hj => hb a j (by omega) hj), lam_congr (b' := b) (fun a ha j hj => hb a j (by omega) hj) (fun j hj => hb k j hk hj)]; exact h.red q hq
 ·rw [hb i j hi hj, ← h.tm i j hi hj]
  exact sm_congr m (fun a ha => by rw [ht i a hi ha])
 ·exact (h.back i hi).trans (fun a ha => Sp.eq (Sp.row b' c ha) (fun j hj => (hb a j ha hj).symm))
theorem pow_102 (n : Nat) : 2 ^ (102 - n) ≤ 2 ^ 102 := Nat.pow_le_pow_right (by decide) (by omega)
theorem RedI.start {c m : Nat} {A : Nat → Nat → Int} (hm : m ≤ 4) (hc : c ≤ 4) (hA : ∀ i j, i < m → j < c → (A i j).natAbs < 2 ^ 48) : RedI c m m 0 32000 A A kd := by
 obtain ⟨z, hz⟩ := QSt.make (c := c) (n := m) (k := 0) (X := 2 ^ (102 - m)) (b := A) hm (Nat.zero_le _) (fun i hi => by rw [show i = 0 from by omega, vol_zero]; decide) (fun i hi => by
  have h1 := ip_bits (fun j hj => hA i j hi hj)
  have h2 : 2 ^ 98 ≤ 2 ^ (102 - m) := Nat.pow_le_pow_right (by decide) (by omega)
  have h3 : (c : Int) * ((2 ^ (2 * 48) : Nat) : Int) ≤ 4 * ((2 ^ (2 * 48) : Nat) : Int) := Int.mul_le_mul_of_nonneg_right (by omega) (by omega)
  omega) (fun j hj => by omega) (fun i hi => by omega) (fun i hi => by omega)
 have hzn := hz.zn
 have hp := hz.phi_top (pow_102 m)
 refine ⟨Nat.le_refl _, hc, ⟨z, hz, by unfold meas; omega⟩, fun i j hi hj => ?_, fun i hi => Sp.row A c hi, fun i j _ _ => ?_⟩
 ·rw [sm_one m i hi (fun a _ hne => by unfold kd; rw [if_neg (fun e => hne e.symm)]; simp)]
  unfold kd
  rw [if_pos rfl]; simp
 ·unfold kd
  split <;> decide
theorem tS_le {k : Nat} (h : k ≤ 3) : tS k ≤ 4600 := by
 obtain rfl | rfl | rfl | rfl : k = 0 ∨ k = 1 ∨ k = 2 ∨ k = 3 := by omega
 all_goals decide
theorem RedI.short {c m n k kk : Nat} {A b t : Nat → Nat → Int} (h : RedI c m n k kk A b t) : ∀ i j, i < n → j < c → (b i j).natAbs < 2 ^ 52 := fun i j hi hj => by
 obtain ⟨z, hz, -⟩ := h.st
 exact ent_short (hz.len i hi) (by omega) hj
theorem RedM.short {c m n k kk : Nat} {A b t : Nat → Nat → Int} (h : RedM c m n k kk A b t) : ∀ i j, i < n → j < c → (b i j).natAbs < 2 ^ 52 := fun i j hi hj => by
 obtain ⟨z, hz, -⟩ := h.st
 exact ent_short (hz.len i hi) (by omega) hj
theorem les_tm {c m n k : Nat} {A b t : Nat → Nat → Int} (hkn : k < n) (h : ∀ i j, i < n → j < c → sm (fun a => t i a * A a j) m = b i j) : ∀ s, s ≤ k → ∀ i j, i < n → j < c → sm (fun a => lesT c k b t s i a * A a j) m = lesN c k b s i j := by
 intro s
 induction s with
 | zero => intro _; exact h
 | succ s ih =>
   intro hs i j hi hj
   rw [lesN, lesT]
   unfold tkR
   by_cases e : i = k
   ·subst e
    simp only [if_true]
    rw [sm_take, ih (by omega) i j hi hj, ih (by omega) (i - 1 - s) j (by omega) hj, Int.mul_comm]
   ·simp only [if_neg e]
    exact ih (by omega) i j hi hj
theorem les_back {c n k : Nat} {b : Nat → Nat → Int} {v : Nat → Int} (hkn : k < n) (h : Sp b n c v) : ∀ s, s ≤ k → Sp (lesN c k b s) n c v := by
 intro s
 induction s with
 | zero => intro _; exact h
 | succ s ih => intro hs; rw [lesN]; exact sp_tk _ hkn (by omega) (by omega) (ih (by omega))
theorem RedI.pos {c m n k kk : Nat} {A b t : Nat → Nat → Int} (h : RedI c m n k kk A b t) : ∀ i, i ≤ k → 0 < vol c b i := fun i hi => by
 obtain ⟨z, hz, -⟩ := h.st
 exact hz.pos i (Nat.le_trans hi hz.kz)
theorem RedI.less {c m n k kk : Nat} {A b t : Nat → Nat → Int} (h : RedI c m n k kk A b t) (hk : k < n) : RedM c m n k kk A (lesN c k b k) (lesT c k b t k) := by
 obtain ⟨z, hz, hm⟩ := h.st
 have hn4 := hz.n4
 have hzn := hz.zn
 have hkz := hz.kz
 have hk3 : k ≤ 3 := by omega
 obtain ⟨v1, v2, v3⟩ := les_all hk3 h.pos k (Nat.le_refl _)
 obtain ⟨hq, hred⟩ := hz.lessened (b' := lesN c k b k) hk (fun i hi j _ => by rw [v3 i hi]) v1 (fun q hq => v2 q (by omega) hq)
 have hV : ∀ q, q ≤ 2 → q ≤ k → vol c b q ≤ ((2 ^ 204 : Nat) : Int) := fun q hq1 hq2 => by
  have h1 := hz.vol_le (pow_102 n) q (by omega)
  have h2 : 2 ^ (102 * q) ≤ 2 ^ 204 := Nat.pow_le_pow_right (by decide) (by omega)
  omega
 refine ⟨h.le, h.c4, ⟨z, hq, by rw [meas_congr (fun i hi => v1 i (by omega))]; exact hm⟩, hred, les_tm hk h.tm k (Nat.le_refl _), fun i hi => les_back hk (h.back i hi) k (Nat.le_refl _), fun i j hi hj => ?_⟩
 exact pow_lift ((les_bits hk3 hk h.c4 h.pos hV h.short h.bits k (Nat.le_refl _)).2 i j hi hj) (by have := tS_le hk3; omega)
theorem RedM.pos1 {c m n k kk : Nat} {A b t : Nat → Nat → Int} (h : RedM c m n k kk A b t) (hk : k < n) : 1 ≤ kk := by
 obtain ⟨z, hz, hm⟩ := h.st
 unfold meas at hm
 omega
theorem RedM.next {c m n k kk : Nat} {A b t : Nat → Nat → Int} (h : RedM c m n k kk A b t) (hk : k < n) (h0 : k = 0 → 0 < ip c (b 0) (b 0))
 (ho : ∀ i, k = i + 1 → 3 * (vol c b (i + 1) * vol c b (i + 1)) ≤ 4 * (vol c b (i + 2) * vol c b i + lam c b (i + 1) i * lam c b (i + 1) i)) : RedI c m n (k + 1) (kk - 1) A b t := by
 have h1 := h.pos1 hk
 have h2 := h.le
 obtain ⟨z, hz, hm⟩ := h.st
 refine ⟨by omega, h.c4, ⟨z, hz.next hk h.red h0 ho, by unfold meas at hm ⊢; omega⟩, h.tm, h.back, fun i j hi hj => pow_lift (h.bits i j hi hj) (by omega)⟩
theorem RedM.swap {c m n k kk : Nat} {A b t : Nat → Nat → Int} (h : RedM c m n (k + 1) kk A b t) (hk : k + 1 < n) (ho : 4 * (vol c b (k + 2) * vol c b k + lam c b (k + 1) k * lam c b (k + 1) k) < 3 * (vol c b (k + 1) * vol c b (k + 1))) : RedI c m n k (kk - 1) A (swF b k) (swF t k) := by
 have h1 := h.pos1 hk
 have h2 := h.le
 obtain ⟨z, hz, hm⟩ := h.st
 have hkz := hz.kz
 have hzn := hz.zn
 have hn4 := hz.n4
 obtain ⟨z', hz', hd, hv⟩ := hz.swap hk ho
 refine ⟨by omega, h.c4, ⟨z', hz', ?_⟩, fun i j hi hj => ?_, fun i hi => sp_sw hk (h.back i hi), fun i j hi hj => ?_⟩
 ·unfold meas at hm ⊢
  have hkz' := hz'.kz
  rcases hd with ⟨rfl, hd⟩ | hd
  ·have := phi_less (hz'.pos (k + 1) hkz) hd z' hkz (fun i hi hne => hv i (by omega) hne)
   omega
  ·have : phi c (swF b k) z' ≤ phi c b z := by
    by_cases e : z' ≤ k
    ·rw [phi_congr z' (fun i hi => hv i (by omega) (by omega))]
     exact phi_mono c b (by omega)
    ·have hlt : 4 * vol c (swF b k) (k + 1) < 3 * vol c b (k + 1) := by
      rw [← vol_sw_at b (by omega)] at ho
      have d1 := hz.pos (k + 1) hkz
      have : (4 * vol c (swF b k) (k + 1)) * vol c b (k + 1) < (3 * vol c b (k + 1)) * vol c b (k + 1) := by grind
      exact Int.lt_of_mul_lt_mul_right this (by omega)
     have := phi_less (hz'.pos (k + 1) (by omega)) hlt z' (by omega) (fun i hi hne => hv i (by omega) hne)
     have := phi_mono c b (show z' ≤ z by omega)
     omega
   omega
 ·exact h.tm _ j (swq_lt (by omega) hk hi) hj
 ·exact pow_lift (h.bits _ j (swq_lt (by omega) hk hi) hj) (by omega)
theorem RedM.out {c m n k kk : Nat} {A b t : Nat → Nat → Int} (h : RedM c m (n + 1) k kk A b t) (hk : k < n + 1) (h0 : ∀ j, j < c → b k j = 0) : RedI c m n k (kk - 1) A (outF b k) (outF t k) := by
 have h1 := h.pos1 hk
 have h2 := h.le
 obtain ⟨z, hz, hm⟩ := h.st
 have hn4 := hz.n4
 obtain ⟨z', hz'⟩ := hz.out hk
 have e : 2 * 2 ^ (102 - (n + 1)) = 2 ^ (102 - n) := by rw [Nat.mul_comm, ← Nat.pow_succ]; congr 1; omega
 rw [e] at hz'
 have hp := hz'.phi_top (pow_102 n)
 have hzn := hz'.zn
 have hlt : ∀ i, i < n → (if i < k then i else i + 1) < n + 1 := fun i hi => by split <;> omega
 have ho : ∀ (f : Nat → Nat → Int) i, outF f k i = f (if i < k then i else i + 1) := fun f i => by unfold outF; split <;> rfl
 refine ⟨by omega, h.c4, ⟨z', hz', by unfold meas at hm ⊢; omega⟩, fun i j hi hj => ?_, fun i hi => sp_out hk h0 (h.back i hi), fun i j hi hj => ?_⟩
 ·rw [ho, ho]; exact h.tm _ j (hlt i hi) hj
 ·rw [ho]; exact pow_lift (h.bits _ j (hlt i hi) hj) (by omega)
end Go.Proofs.YtfjbijpagaipnabGreatDoor.R
namespace Go.Proofs.YtfjbijpagaipnabGreatDoor
open Go.RowKit R
structure RS where
 n : Nat
 k : Nat
 b : Nat → Nat → Int
 t : Nat → Nat → Int
structure Ag (c m : Nat) (x y : RS) : Prop where
 n : x.n = y.n
 k : x.k = y.k
 b : ∀ i j, i < x.n → j < c → x.b i j = y.b i j
 t : ∀ i j, i < x.n → j < m → x.t i j = y.t i j
theorem Ag.trans {c m : Nat} {x y z : RS} (h : Ag c m x y) (h' : Ag c m y z) : Ag c m x z := ⟨h.n.trans h'.n, h.k.trans h'.k, fun i j hi hj => (h.b i j hi hj).trans (h'.b i j (by rw [← h.n]; exact hi) hj), fun i j hi hj => (h.t i j hi hj).trans (h'.t i j (by rw [← h.n]; exact hi) hj)⟩
theorem les_ag {c m n k : Nat} {b b' t t' : Nat → Nat → Int} (hk : k < n) (hb : ∀ i j, i < n → j < c → b i j = b' i j) (ht : ∀ i j, i < n → j < m → t i j = t' i j) : ∀ s, s ≤ k → (∀ i j, i < n → j < c → lesN c k b s i j = lesN c k b' s i j) ∧ ∀ i j, i < n → j < m → lesT c k b t s i j = lesT c k b' t' s i j := by
 intro s
 induction s with
 | zero => intro _; exact ⟨hb, ht⟩
 | succ s ih =>
   intro hs
   obtain ⟨h1, h2⟩ := ih (by omega)
   have hq : shE c (lesN c k b s) k (k - 1 - s) = shE c (lesN c k b' s) k (k - 1 - s) := by
    unfold shE
    rw [lam_cong (b' := lesN c k b' s) (fun i j hi hj => h1 i j (by omega) hj) (fun j hj => h1 k j hk hj), detF_cong (b' := lesN c k b' s) (fun i j hi hj => h1 i j (by omega) hj)]
   refine ⟨fun i j hi hj => ?_, fun i j hi hj => ?_⟩
   ·rw [lesN, lesN, hq]
    unfold tkR
    rw [h1 k j hk hj, h1 (k - 1 - s) j (by omega) hj, h1 i j hi hj]
   ·rw [lesT, lesT, hq]
    unfold tkR
    rw [h2 k j hk hj, h2 (k - 1 - s) j (by omega) hj, h2 i j hi hj]
def RS.step (c : Nat) (x : RS) : RS :=
  if ∀ j, j < c → lesN c x.k x.b x.k x.k j = 0 then ⟨x.n - 1, x.k, outF (lesN c x.k x.b x.k) x.k, outF (lesT c x.k x.b x.t x.k) x.k⟩
  else if x.k = 0 ∨ OrdE c (lesN c x.k x.b x.k) (x.k - 1) then ⟨x.n, x.k + 1, lesN c x.k x.b x.k, lesT c x.k x.b x.t x.k⟩
  else ⟨x.n, x.k - 1, swF (lesN c x.k x.b x.k) (x.k - 1), swF (lesT c x.k x.b x.t x.k) (x.k - 1)⟩
theorem ord_ag {c n k : Nat} {b b' : Nat → Nat → Int} (hk : k + 1 < n) (hb : ∀ i j, i < n → j < c → b i j = b' i j) : OrdE c b k ↔ OrdE c b' k := by
 unfold OrdE
 rw [detF_cong (n := k + 2) (b' := b') (fun i j hi hj => hb i j (by omega) hj), detF_cong (n := k) (b' := b') (fun i j hi hj => hb i j (by omega) hj), detF_cong (n := k + 1) (b' := b') (fun i j hi hj => hb i j (by omega) hj), lam_cong (b' := b') (fun i j hi hj => hb i j (by omega) hj) (fun j hj => hb (k + 1) j hk hj)]
theorem step_ag {c m : Nat} {x y : RS} (h : Ag c m x y) (hk : x.k < x.n) : Ag c m (x.step c) (y.step c) := by
 obtain ⟨n, k, b, t⟩ := x
 obtain ⟨n', k', b', t'⟩ := y
 obtain ⟨rfl, rfl, hb, ht⟩ := h
 simp only at hb ht hk
 obtain ⟨h1, h2⟩ := les_ag hk hb ht k (Nat.le_refl _)
 unfold RS.step
 simp only
 have e1 : (∀ j, j < c → lesN c k b k k j = 0) ↔ (∀ j, j < c → lesN c k b' k k j = 0) := ⟨fun h j hj => (h1 k j hk hj).symm.trans (h j hj), fun h j hj => (h1 k j hk hj).trans (h j hj)⟩
 have e2 : (k = 0 ∨ OrdE c (lesN c k b k) (k - 1)) ↔ (k = 0 ∨ OrdE c (lesN c k b' k) (k - 1)) := by
  by_cases e : k = 0
  ·exact ⟨fun _ => .inl e, fun _ => .inl e⟩
  ·rw [ord_ag (n := n) (by omega) h1]
 by_cases c1 : ∀ j, j < c → lesN c k b k k j = 0
 ·rw [if_pos c1, if_pos (e1.1 c1)]
  refine ⟨rfl, rfl, fun i j hi hj => ?_, fun i j hi hj => ?_⟩
  ·simp only at hi ⊢
   unfold outF
   split
   ·exact h1 i j (by omega) hj
   ·exact h1 (i + 1) j (by omega) hj
  ·simp only at hi ⊢
   unfold outF
   split
   ·exact h2 i j (by omega) hj
   ·exact h2 (i + 1) j (by omega) hj
 ·rw [if_neg c1, if_neg (fun h => c1 (e1.2 h))]
  by_cases c2 : k = 0 ∨ OrdE c (lesN c k b k) (k - 1)
  ·rw [if_pos c2, if_pos (e2.1 c2)]
   exact ⟨rfl, rfl, h1, h2⟩
  ·rw [if_neg c2, if_neg (fun h => c2 (e2.2 h))]
   have hk0 : k ≠ 0 := fun h => c2 (.inl h)
   exact ⟨rfl, rfl, fun i j hi hj => h1 _ j (swq_lt (by omega) (by omega) hi) hj, fun i j hi hj => h2 _ j (swq_lt (by omega) (by omega) hi) hj⟩
def RS.run (c : Nat) : Nat → RS → RS
  | 0, x => x
  | f + 1, x => if x.k < x.n then RS.run c f (x.step c) else x
theorem run_ag {c m : Nat} : ∀ (f : Nat) (x y : RS), Ag c m x y → Ag c m (x.run c f) (y.run c f) := by
 intro f
 induction f with
 | zero => intro x y h; exact h
 | succ f ih =>
   intro x y h
   rw [RS.run, RS.run]
   by_cases e : x.k < x.n
   ·rw [if_pos e, if_pos (by rw [← h.n, ← h.k]; exact e)]
    exact ih _ _ (step_ag h e)
   ·rw [if_neg e, if_neg (by rw [← h.n, ← h.k]; exact e)]
    exact h
theorem run_end {c f : Nat} {x : RS} (h : ¬ x.k < x.n) : x.run c f = x := by
 cases f with
 | zero => rfl
 | succ f => rw [RS.run, if_neg h]
theorem run_next {c f : Nat} {x : RS} (h : x.k < x.n) (hf : 1 ≤ f) : x.run c f = (x.step c).run c (f - 1) := by
 obtain ⟨g, rfl⟩ : ∃ g, f = g + 1 := ⟨f - 1, by omega⟩
 rw [RS.run, if_pos h]
 rfl
open Go.RowKit R
theorem run_on {c m gk : Nat} {x y S : RS} (h : Ag c m (x.run c gk) S) (hk : x.k < x.n) (hp : 1 ≤ gk) (hs : Ag c m y (x.step c)) : Ag c m (y.run c (gk - 1)) S := by
 rw [run_next hk hp] at h
 exact (run_ag (gk - 1) _ _ hs).trans h
theorem step_out {c m n n' k : Nat} {b t b1 t1 b2 t2 : Nat → Nat → Int} (hn : n = n' + 1) (hk : k < n) (hb : ∀ i j, i < n → j < c → b1 i j = lesN c k b k i j) (ht : ∀ i j, i < n → j < m → t1 i j = lesT c k b t k i j) (h0 : ∀ j, j < c → b1 k j = 0)
 (hb2 : ∀ i j, i < n' → j < c → b2 i j = b1 (if i < k then i else i + 1) j) (ht2 : ∀ i j, i < n' → j < m → t2 i j = t1 (if i < k then i else i + 1) j) : Ag c m ⟨n', k, b2, t2⟩ (RS.step c ⟨n, k, b, t⟩) := by
 unfold RS.step
 simp only
 rw [if_pos (fun j hj => (hb k j hk hj).symm.trans (h0 j hj))]
 refine ⟨by simp only; omega, rfl, fun i j hi hj => ?_, fun i j hi hj => ?_⟩
 ·simp only at hi ⊢
  rw [hb2 i j hi hj]
  unfold outF
  split
  ·exact hb i j (by omega) hj
  ·exact hb (i + 1) j (by omega) hj
 ·simp only at hi ⊢
  rw [ht2 i j hi hj]
  unfold outF
  split
  ·exact ht i j (by omega) hj
  ·exact ht (i + 1) j (by omega) hj
theorem step_next {c m n k a : Nat} {b t b1 t1 : Nat → Nat → Int} (hk : k < n) (hb : ∀ i j, i < n → j < c → b1 i j = lesN c k b k i j) (ht : ∀ i j, i < n → j < m → t1 i j = lesT c k b t k i j) (ha : a < c) (h0 : b1 k a ≠ 0)
 (ho : k = 0 ∨ OrdE c b1 (k - 1)) : Ag c m ⟨n, k + 1, b1, t1⟩ (RS.step c ⟨n, k, b, t⟩) := by
 unfold RS.step
 simp only
 rw [if_neg (fun h => h0 ((hb k a hk ha).trans (h a ha))), if_pos]
 ·exact ⟨rfl, rfl, hb, ht⟩
 ·rcases ho with h | h
  ·exact .inl h
  ·by_cases e : k = 0
   ·exact .inl e
   ·exact .inr ((ord_ag (n := n) (by omega) hb).1 h)
theorem step_swap {c m n k k' a : Nat} {b t b1 t1 b2 t2 : Nat → Nat → Int} (hkk : k = k' + 1) (hk : k < n) (hb : ∀ i j, i < n → j < c → b1 i j = lesN c k b k i j) (ht : ∀ i j, i < n → j < m → t1 i j = lesT c k b t k i j) (ha : a < c) (h0 : b1 k a ≠ 0)
 (ho : ¬ OrdE c b1 k') (hb2 : ∀ i j, i < n → j < c → b2 i j = b1 (sw k' k i) j) (ht2 : ∀ i j, i < n → j < m → t2 i j = t1 (sw k' k i) j) : Ag c m ⟨n, k', b2, t2⟩ (RS.step c ⟨n, k, b, t⟩) := by
 subst hkk
 unfold RS.step
 simp only
 rw [if_neg (fun h => h0 ((hb (k' + 1) a hk ha).trans (h a ha))), if_neg]
 ·refine ⟨rfl, rfl, fun i j hi hj => ?_, fun i j hi hj => ?_⟩
  ·simp only at hi ⊢
   rw [hb2 i j hi hj]
   exact hb _ j (swq_lt (by omega) (by omega) hi) hj
  ·simp only at hi ⊢
   rw [ht2 i j hi hj]
   exact ht _ j (swq_lt (by omega) (by omega) hi) hj
 ·intro h
  rcases h with h | h
  ·omega
  ·exact ho ((ord_ag (n := n) (by omega) hb).2 h)
end Go.Proofs.YtfjbijpagaipnabGreatDoor
