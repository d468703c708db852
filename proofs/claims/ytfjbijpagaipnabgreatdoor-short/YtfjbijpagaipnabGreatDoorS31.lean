import Derived.Test.YtfjbijpagaipnabGreatDoorS30
import Derived.Test.YtfjbijpagaipnabGreatDoorS09
import Derived.Test.YtfjbijpagaipnabGreatDoorS22
import Derived.Test.YtfjbijpagaipnabGreatDoorS19
namespace Go.Proofs.YtfjbijpagaipnabGreatDoor
open Go.RowKit R
def QX (c m X : Nat) (x : RS) : Prop := x.n ≤ m ∧ ∃ z, QSt c x.n x.k z (X * 2 ^ (m - x.n)) x.b
theorem ip_pos {c : Nat} {x : Nat → Int} {j : Nat} (hj : j < c) (h : x j ≠ 0) : 0 < ip c x x := by
 have h1 := ip_ge x hj
 have h2 : 0 < x j * x j := by
  rcases Int.lt_or_lt_of_ne h with h3 | h3
  ·exact Int.mul_pos_of_neg_of_neg h3 h3
  ·exact Int.mul_pos h3 h3
 omega
theorem QX.step {c m X : Nat} {x : RS} (hk : x.k < x.n) (h : QX c m X x) : QX c m X (x.step c) := by
 obtain ⟨n, k, b, t⟩ := x
 obtain ⟨hnm, z, hz⟩ := h
 simp only at hk hnm hz
 have hn4 := hz.n4
 have hk3 : k ≤ 3 := by omega
 have hpos : ∀ i, i ≤ k → 0 < vol c b i := fun i hi => hz.pos i (Nat.le_trans hi hz.kz)
 obtain ⟨v1, v2, v3⟩ := les_all hk3 hpos k (Nat.le_refl _)
 obtain ⟨hq, hred⟩ := hz.lessened (b' := lesN c k b k) hk (fun i hi j _ => by rw [v3 i hi]) v1 (fun q hq => v2 q (by omega) hq)
 have hpos' : ∀ i, i ≤ k → 0 < vol c (lesN c k b k) i := fun i hi => by rw [v1 i (by omega)]; exact hpos i hi
 unfold RS.step
 simp only
 by_cases c1 : ∀ j, j < c → lesN c k b k k j = 0
 ·rw [if_pos c1]
  obtain ⟨n', rfl⟩ : ∃ n', n = n' + 1 := ⟨n - 1, by omega⟩
  obtain ⟨z', hz'⟩ := hq.out hk
  refine ⟨by simp only; omega, z', ?_⟩
  simp only [Nat.add_sub_cancel]
  have e : X * 2 ^ (m - n') = 2 * (X * 2 ^ (m - (n' + 1))) := by
   rw [show m - n' = (m - (n' + 1)) + 1 by omega, Nat.pow_succ]
   rw [← Nat.mul_assoc, Nat.mul_comm]
  rw [e]
  exact hz'
 ·rw [if_neg c1]
  by_cases c2 : k = 0 ∨ OrdE c (lesN c k b k) (k - 1)
  ·rw [if_pos c2]
   refine ⟨hnm, z, hq.next hk hred (fun h0 => ?_) (fun i hi => ?_)⟩
   ·have : ∃ j, j < c ∧ lesN c k b k k j ≠ 0 := by
     refine Classical.byContradiction fun hne => c1 fun j hj => Classical.byContradiction fun hne' => hne ⟨j, hj, hne'⟩
    obtain ⟨j, hj, hne⟩ := this
    subst h0
    exact ip_pos hj hne
   ·subst hi
    rcases c2 with c2 | c2
    ·omega
    ·exact (ord_E (by omega) hpos').1 c2
  ·rw [if_neg c2]
   obtain ⟨k', rfl⟩ : ∃ k', k = k' + 1 := ⟨k - 1, by have : k ≠ 0 := fun e => c2 (.inl e); omega⟩
   obtain ⟨z', hz', -⟩ := hq.swap hk (by
    have h1 : ¬ OrdE c (lesN c (k' + 1) b (k' + 1)) k' := fun e => c2 (.inr e)
    rw [ord_E (by omega) hpos'] at h1
    omega)
   exact ⟨hnm, z', hz'⟩
theorem QX.run {c m X : Nat} : ∀ (f : Nat) (x : RS), QX c m X x → QX c m X (x.run c f) := by
 intro f
 induction f with
 | zero => intro x h; exact h
 | succ f ih =>
   intro x h
   rw [RS.run]
   by_cases e : x.k < x.n
   ·rw [if_pos e]; exact ih _ (h.step e)
   ·rw [if_neg e]; exact h
theorem QX.start {c m X : Nat} {A : Nat → Nat → Int} (hm : m ≤ 4) (hA : ∀ i, i < m → ip c (A i) (A i) ≤ X) : QX c m X ⟨m, 0, A, kd⟩ := by
 obtain ⟨z, hz⟩ := QSt.make (c := c) (n := m) (k := 0) (X := X) (b := A) hm (Nat.zero_le _) (fun i hi => by rw [show i = 0 from by omega, vol_zero]; decide) hA (fun j hj => by omega) (fun i hi => by omega) (fun i hi => by omega)
 exact ⟨Nat.le_refl _, z, by simpa using hz⟩
theorem RdRes.small {c r n X : Nat} {zs rs ts : List Int} (hr : r ≤ 4) (hA : ∀ i, i < r → ip c (ent c zs i) (ent c zs i) ≤ X) (h : Ag c r ⟨n, n, ent c rs, ent r ts⟩ (RS.run c 32000 ⟨r, 0, ent c zs, kd⟩)) : n ≤ r ∧ ∃ z, QSt c n n z (X * 2 ^ (r - n)) (ent c rs) := by
 obtain ⟨h1, z, hz⟩ := (QX.start hr hA).run 32000
 rw [← h.n, ← h.k] at hz
 rw [← h.n] at h1
 exact ⟨h1, z, hz.congr (fun i j hi hj => h.b i j hi hj)⟩
theorem F_sm (c : Nat) (b : Nat → Nat → Int) (q : Nat) (x : Nat → Int) (y : Nat → Int) : ∀ n, Fq c b q (fun j => sm (fun l => x l * b l j) n) y = sm (fun l => x l * Fq c b q (b l) y) n := by
 intro n
 induction n with
 | zero =>
   have := F_lin c b q 0 0 (fun _ => 0) (fun _ => 0) y
   simpa [sm] using this
 | succ n ih =>
   have e : (fun j => sm (fun l => x l * b l j) (n + 1)) = (fun j => 1 * (fun j => sm (fun l => x l * b l j) n) j + x n * b n j) := by
    funext j
    show sm (fun l => x l * b l j) n + x n * b n j = 1 * sm (fun l => x l * b l j) n + x n * b n j
    omega
   rw [e, F_lin, ih, Int.one_mul]
   rfl
theorem F_top {c t : Nat} {b : Nat → Nat → Int} (ht : t ≤ 3) (x y : Nat → Int) : Fq c b t (fun j => sm (fun l => x l * b l j) (t + 1)) y = x t * Fq c b t (b t) y := by
 rw [F_sm, sm, sm_zero t (fun l hl => by rw [F_own c b t l ht hl]; simp), Int.zero_add]
theorem top_len {c t : Nat} {b : Nat → Nat → Int} (ht : t ≤ 3) (hv : ∀ i, i ≤ t + 1 → 0 < vol c b i) (x : Nat → Int) (hx : x t ≠ 0) : vol c b (t + 1) ≤ ip c (fun j => sm (fun l => x l * b l j) (t + 1)) (fun j => sm (fun l => x l * b l j) (t + 1)) * vol c b t := by
 have h1 := F_len ht (fun i hi => hv i (by omega)) (fun j => sm (fun l => x l * b l j) (t + 1))
 rw [F_top ht, F_sym c b t ht, F_top ht, ← vol_succ] at h1
 have h2 := hv (t + 1) (Nat.le_refl _)
 have h3 : 1 ≤ x t * x t := by
  rcases Int.lt_or_lt_of_ne hx with h3 | h3
  ·have := Int.mul_pos_of_neg_of_neg h3 h3; omega
  ·have := Int.mul_pos h3 h3; omega
 have h4 : 1 * vol c b (t + 1) ≤ x t * x t * vol c b (t + 1) := Int.mul_le_mul_of_nonneg_right h3 (by omega)
 rw [← Int.mul_assoc] at h1
 omega
theorem vol_two {c n z X i : Nat} {b : Nat → Nat → Int} (h : QSt c n n z X b) (hi : i + 1 < n) : vol c b (i + 1) * vol c b (i + 1) ≤ 2 * (vol c b (i + 2) * vol c b i) := by
 have h1 := h.ord i hi
 obtain ⟨h2, h3⟩ := h.red (i + 1) hi i (by omega)
 have h4 : 4 * (lam c b (i + 1) i * lam c b (i + 1) i) ≤ vol c b (i + 1) * vol c b (i + 1) := by
  have h5 := h.pos (i + 1) (by have := h.kz; omega)
  have h6 : (2 * lam c b (i + 1) i).natAbs ≤ (vol c b (i + 1)).natAbs := by omega
  have h7 := Nat.mul_le_mul h6 h6
  have h8 : ((2 * lam c b (i + 1) i).natAbs * (2 * lam c b (i + 1) i).natAbs : Nat) = (2 * lam c b (i + 1) i * (2 * lam c b (i + 1) i) : Int) := Int.natAbs_mul_self' _
  have h9 : ((vol c b (i + 1)).natAbs * (vol c b (i + 1)).natAbs : Nat) = (vol c b (i + 1) * vol c b (i + 1) : Int) := Int.natAbs_mul_self' _
  have h10 : 2 * lam c b (i + 1) i * (2 * lam c b (i + 1) i) = 4 * (lam c b (i + 1) i * lam c b (i + 1) i) := by grind
  rw [← h10, ← h8, ← h9]
  exact_mod_cast h7
 omega
theorem vol_chain {c n z X : Nat} {b : Nat → Nat → Int} (h : QSt c n n z X b) : ∀ t, t < n → vol c b 1 * vol c b t ≤ ((2 ^ t : Nat) : Int) * vol c b (t + 1) := by
 have hkz := h.kz
 intro t
 induction t with
 | zero => intro _; rw [vol_zero]; simp only [Nat.zero_add, Nat.pow_zero]; omega
 | succ t ih =>
   intro ht
   have h1 := ih (by omega)
   have h2 := vol_two h (i := t) ht
   have p0 := h.pos t (by omega)
   have p1 := h.pos (t + 1) (by omega)
   have h3 : vol c b 1 * vol c b t * vol c b (t + 1) ≤ ((2 ^ t : Nat) : Int) * vol c b (t + 1) * vol c b (t + 1) := Int.mul_le_mul_of_nonneg_right h1 (by omega)
   have h4 : ((2 ^ t : Nat) : Int) * (vol c b (t + 1) * vol c b (t + 1)) ≤ ((2 ^ t : Nat) : Int) * (2 * (vol c b (t + 2) * vol c b t)) := Int.mul_le_mul_of_nonneg_left h2 (Int.natCast_nonneg _)
   have h5 : ((2 ^ (t + 1) : Nat) : Int) = 2 * ((2 ^ t : Nat) : Int) := by rw [Nat.pow_succ]; omega
   have h6 : (vol c b 1 * vol c b (t + 1)) * vol c b t ≤ (((2 ^ (t + 1) : Nat) : Int) * vol c b (t + 1 + 1)) * vol c b t := by
    rw [h5]
    have e1 : (vol c b 1 * vol c b (t + 1)) * vol c b t = vol c b 1 * vol c b t * vol c b (t + 1) := by grind
    have e2 : 2 * ((2 ^ t : Nat) : Int) * vol c b (t + 1 + 1) * vol c b t = ((2 ^ t : Nat) : Int) * (2 * (vol c b (t + 2) * vol c b t)) := by grind
    have e3 : ((2 ^ t : Nat) : Int) * vol c b (t + 1) * vol c b (t + 1) = ((2 ^ t : Nat) : Int) * (vol c b (t + 1) * vol c b (t + 1)) := by grind
    omega
   exact Int.le_of_mul_le_mul_right h6 p0
theorem first_short {c n z X : Nat} {b : Nat → Nat → Int} (h : QSt c n n z X b) {v : Nat → Int} (hv : Sp b n c v) (hne : ∃ j, j < c ∧ v j ≠ 0) : 1 ≤ n ∧ ip c (b 0) (b 0) ≤ ((2 ^ (n - 1) : Nat) : Int) * ip c v v := by
 have hkz := h.kz
 have hn4 := h.n4
 obtain ⟨x, hx⟩ := hv
 have key : ∀ m, m ≤ n → (∀ j, j < c → v j = sm (fun l => x l * b l j) m) → ∃ t, t < m ∧ x t ≠ 0 ∧ ∀ j, j < c → v j = sm (fun l => x l * b l j) (t + 1) := by
  intro m
  induction m with
  | zero =>
    intro _ h0
    obtain ⟨j, hj, hn⟩ := hne
    exact absurd (h0 j hj) hn
  | succ m ih =>
    intro hm h0
    by_cases e : x m = 0
    ·obtain ⟨t, h1, h2, h3⟩ := ih (by omega) (fun j hj => by rw [h0 j hj, sm, e]; simp)
     exact ⟨t, by omega, h2, h3⟩
    ·exact ⟨m, by omega, e, h0⟩
 obtain ⟨t, ht, hxt, hvt⟩ := key n (Nat.le_refl _) hx
 have h1 := top_len (c := c) (b := b) (by omega) (fun i hi => h.pos i (by omega)) x hxt
 have h2 := vol_chain h t ht
 have e1 : ip c v v = ip c (fun j => sm (fun l => x l * b l j) (t + 1)) (fun j => sm (fun l => x l * b l j) (t + 1)) := sm_congr c (fun j hj => by rw [hvt j hj])
 rw [← e1] at h1
 have p0 := h.pos t (by omega)
 have h3 : ((2 ^ t : Nat) : Int) * vol c b (t + 1) ≤ ((2 ^ t : Nat) : Int) * (ip c v v * vol c b t) := Int.mul_le_mul_of_nonneg_left h1 (Int.natCast_nonneg _)
 have h4 : vol c b 1 * vol c b t ≤ (((2 ^ t : Nat) : Int) * ip c v v) * vol c b t := by rw [Int.mul_assoc]; omega
 have h5 := Int.le_of_mul_le_mul_right h4 p0
 have h6 : vol c b 1 = ip c (b 0) (b 0) := by rw [vol_succ, F_zero]
 have h7 : ((2 ^ t : Nat) : Int) ≤ ((2 ^ (n - 1) : Nat) : Int) := Int.ofNat_le.2 (Nat.pow_le_pow_right (by decide) (by omega))
 have h8 := Int.mul_le_mul_of_nonneg_right h7 (ip_nonneg c v)
 exact ⟨by omega, by omega⟩
open Go.RowKit R
theorem kd_div {n : Nat} (hn : n ≤ 4) : divF kd n n n = 1 := by
 obtain rfl | rfl | rfl | rfl | rfl : n = 0 ∨ n = 1 ∨ n = 2 ∨ n = 3 ∨ n = 4 := by omega
 all_goals decide
theorem div_vol {n : Nat} (b : Nat → Nat → Int) (c : Nat) : divF (gmF b c) n n n = (vol c b n).natAbs := by
 rw [← gm_vol]
 unfold divF
 rw [chosenL_self]
 simp [gA, gR, minor_range]
theorem unit_vol {n : Nat} {b : Nat → Nat → Int} (hn : n ≤ 4) (hp : 0 < vol n b n) (h : ∀ i, i < n → Sp b n n (kd i)) : vol n b n = 1 := by
 have s0 : ∀ i, i < n → Sp kd n n (b i) := fun i _ => ⟨b i, fun j hj => by
  rw [sm_one n j hj (fun k _ hne => by unfold kd; rw [if_neg hne]; simp)]
  unfold kd; rw [if_pos rfl]; omega⟩
 have d0 : divF b n n n = 1 := by rw [div_same s0 h hn]; exact kd_div hn
 have s1 : ∀ i, i < n → Sp (tr b) n n (gmF b n i) := fun i _ => ⟨b i, fun j _ => by rw [gmF_ip]; rfl⟩
 have s2 : ∀ i, i < n → Sp (gmF b n) n n (tr b i) := fun i hi => by
  obtain ⟨x, hx⟩ := h i hi
  refine ⟨x, fun j hj => ?_⟩
  have e2 : sm (fun l => x l * gmF b n l j) n = sm (fun l => sm (fun k => x l * b l k * b j k) n) n := sm_congr n (fun l _ => by
   rw [gmF_ip, Int.mul_comm]
   unfold ip
   rw [sm_mulr]
   exact sm_congr n (fun k _ => by grind))
  rw [e2, sm_swap]
  have e3 : sm (fun k => sm (fun l => x l * b l k * b j k) n) n = sm (fun k => kd i k * b j k) n := sm_congr n (fun k hk => by rw [← sm_mulr, ← hx k hk])
  rw [e3, sm_one n i hi (fun k _ hne => by unfold kd; rw [if_neg (fun e => hne e.symm)]; simp)]
  unfold kd tr; rw [if_pos rfl]; omega
 have d1 : divF (gmF b n) n n n = 1 := by rw [div_same s1 s2 hn, div_tr b n n n hn]; exact d0
 rw [div_vol] at d1
 omega
theorem unit_rows {c n z X : Nat} {b : Nat → Nat → Int} (h : QSt c n n z X b) (hn : n ≤ 3) (hv : vol c b n = 1) : ∀ i, i < n → ip c (b i) (b i) = 1 := by
 have hkz := h.kz
 have v0 := vol_zero c b
 have f0 : ∀ i j, Fq c b 0 (b i) (b j) = ip c (b i) (b j) := fun i j => F_zero c b _ _
 have v1 : vol c b 1 = ip c (b 0) (b 0) := by rw [vol_succ, f0]
 obtain rfl | rfl | rfl | rfl : n = 0 ∨ n = 1 ∨ n = 2 ∨ n = 3 := by omega
 ·intro i hi; omega
 ·intro i hi
  obtain rfl : i = 0 := by omega
  omega
 ·have t := vol_two h (i := 0) (by omega)
  have p1 := h.pos 1 (by omega)
  have hv' : vol c b (0 + 2) = 1 := hv
  rw [hv', v0] at t
  have w1 : vol c b 1 = 1 := by
   rcases Int.lt_or_le 1 (vol c b 1) with h1 | h1
   ·have := Int.mul_le_mul_of_nonneg_right (show 2 ≤ vol c b 1 by omega) (show 0 ≤ vol c b 1 by omega)
    have e : vol c b (0 + 1) = vol c b 1 := rfl
    rw [e] at t
    omega
   ·omega
  obtain ⟨r1, r2⟩ := h.red 1 (by omega) 0 (by omega)
  have l0 : lam c b 1 0 = 0 := by
   have e : vol c b (0 + 1) = vol c b 1 := rfl
   rw [e, w1] at r1 r2
   omega
  have g := F_next c b 0 (by omega) (b 1) (b 1)
  have e1 : Fq c b (0 + 1) (b 1) (b 1) = vol c b 2 := (vol_succ c b 1).symm
  have e2 : Fq c b 0 (b 1) (b 0) = 0 := l0
  rw [e1, e2, f0, v0, hv] at g
  have e : vol c b (0 + 1) = vol c b 1 := rfl
  rw [e, w1] at g
  intro i hi
  obtain rfl | rfl : i = 0 ∨ i = 1 := by omega
  ·omega
  ·omega
 ·have t1 := vol_two h (i := 0) (by omega)
  have t2 := vol_two h (i := 1) (by omega)
  have p1 := h.pos 1 (by omega)
  have p2 := h.pos 2 (by omega)
  have o1 := h.ord 0 (by omega)
  obtain ⟨r1, r2⟩ := h.red 1 (by omega) 0 (by omega)
  obtain ⟨r3, r4⟩ := h.red 2 (by omega) 0 (by omega)
  obtain ⟨r5, r6⟩ := h.red 2 (by omega) 1 (by omega)
  have g1 := F_next c b 0 (by omega) (b 1) (b 1)
  have g2 := F_next c b 0 (by omega) (b 2) (b 2)
  have g3 := F_next c b 1 (by omega) (b 2) (b 2)
  have e1 : Fq c b (0 + 1) (b 1) (b 1) = vol c b 2 := (vol_succ c b 1).symm
  have e2 : Fq c b (1 + 1) (b 2) (b 2) = vol c b 3 := (vol_succ c b 2).symm
  have e3 : Fq c b 0 (b 1) (b 0) = lam c b 1 0 := rfl
  have e4 : Fq c b 0 (b 0) (b 1) = lam c b 1 0 := by rw [F_sym c b 0 (by omega)]; rfl
  have e5 : Fq c b 0 (b 2) (b 0) = lam c b 2 0 := rfl
  have e6 : Fq c b 1 (b 2) (b 1) = lam c b 2 1 := rfl
  rw [e1, e3, e4, f0, v0] at g1
  have e7 : Fq c b (0 + 1) (b 2) (b 2) = Fq c b 1 (b 2) (b 2) := rfl
  rw [e5, e7, f0, v0] at g2
  rw [e2, e6, hv] at g3
  have q1 : vol c b (0 + 1) = vol c b 1 := rfl
  have q2 : vol c b (0 + 2) = vol c b 2 := rfl
  have q3 : vol c b (1 + 1) = vol c b 2 := rfl
  have q4 : vol c b (1 + 2) = vol c b 3 := rfl
  rw [q1, q2, v0] at t1 o1
  rw [q3, q4, hv] at t2
  rw [q1] at r1 r2 r3 r4 g1 g2
  rw [q3] at r5 r6 g3
  have w12 : vol c b 1 = 1 ∧ vol c b 2 = 1 := by
   have b1 : vol c b 1 ≤ 2 := by
    rcases Int.lt_or_le 2 (vol c b 1) with k | k
    ·have m1 := Int.mul_le_mul_of_nonneg_right (show 3 ≤ vol c b 1 by omega) (show 0 ≤ vol c b 1 by omega)
     have m2 := Int.mul_le_mul_of_nonneg_right (show 4 ≤ vol c b 2 by omega) (show 0 ≤ vol c b 2 by omega)
     omega
    ·exact k
   have b2 : vol c b 2 ≤ 2 := by
    rcases Int.lt_or_le 2 (vol c b 2) with k | k
    ·have m2 := Int.mul_le_mul_of_nonneg_right (show 3 ≤ vol c b 2 by omega) (show 0 ≤ vol c b 2 by omega)
     omega
    ·exact k
   obtain k | k : vol c b 1 = 1 ∨ vol c b 1 = 2 := by omega
   ·obtain k2 | k2 : vol c b 2 = 1 ∨ vol c b 2 = 2 := by omega
    ·exact ⟨k, k2⟩
    ·rw [k, k2] at t2; omega
   ·exfalso
    obtain k2 | k2 : vol c b 2 = 1 ∨ vol c b 2 = 2 := by omega
    ·rw [k, k2] at t1; omega
    ·rw [k] at r1 r2
     obtain l | l | l : lam c b 1 0 = -1 ∨ lam c b 1 0 = 0 ∨ lam c b 1 0 = 1 := by omega
     all_goals
      rw [k, k2, l] at g1 o1
      omega
  obtain ⟨k1, k2⟩ := w12
  rw [k1] at r1 r2 r3 r4 g1 g2 g3
  rw [k2] at r5 r6 g1 g3
  have l1 : lam c b 1 0 = 0 := by omega
  have l2 : lam c b 2 0 = 0 := by omega
  have l3 : lam c b 2 1 = 0 := by omega
  rw [l1] at g1
  rw [l2] at g2
  rw [l3] at g3
  intro i hi
  obtain rfl | rfl | rfl : i = 0 ∨ i = 1 ∨ i = 2 := by omega
  ·omega
  ·omega
  ·omega
theorem unit_span {n : Nat} {A : Nat → Nat → Int} (hn : n ≤ 4) (hF : HasF A n n) (hd : divF A n n n = 1) : ∀ i, i < n → Sp A n n (kd i) := by
 refine (HasF.say (N := kd) (n := n) hF hn hn).1 ⟨n, rank_of_div hn (Nat.le_refl _) (by omega), ?_⟩
 have h1 : divF (ov n A kd) (n + n) n n = 1 := by
  have h2 : divF (ov n A kd) (n + n) n n ∣ divF A n n n := by
   rw [div_dvd _ A n n n hn]
   intro C hC
   have h3 := (div_dvd _ (ov n A kd) (n + n) n n hn).1 (Nat.dvd_refl _) C hC
   refine allD_comb h3 (fun i hi => ?_)
   obtain ⟨x, hx⟩ := Sp.row (ov n A kd) n (show i < n + n by omega)
   refine ⟨x, fun j hj => ?_⟩
   rw [← hx j ((chosenL_lt hC).2 j hj)]
   unfold ov
   rw [if_pos hi]
  rw [hd] at h2
  exact Nat.dvd_one.1 h2
 refine ⟨⟨by omega, Nat.le_refl _, fun i hi h0 => ?_, .inr (.inl rfl)⟩, by rw [h1, hd]⟩
 have key : ∀ m, i + 1 ≤ m → m ≤ n → divF (ov n A kd) (n + n) n m = 0 := by
  intro m
  induction m with
  | zero => intro h; omega
  | succ m ih =>
    intro h2 h3
    by_cases e : i + 1 = m + 1
    ·rw [← e]; exact h0
    ·exact div_up (by omega) (ih (by omega) (by omega))
 have := key n (by omega) (Nat.le_refl _)
 omega
open Go.RowKit
structure PS where
 m : List (List Int)
 l : List Int
 n : Nat
 neg : Bool
 som : Bool
def PS.put (s : PS) : List Int := if s.som then s.l ++ [if s.neg then -(s.n : Int) else (s.n : Int)] else s.l
def PS.rows (s : PS) : List (List Int) := if s.put = [] then s.m else s.m ++ [s.put]
def PS.step (s : PS) (b : UInt8) : Option PS :=
 if 48 ≤ b.toNat ∧ b.toNat ≤ 57 then (if 10 * s.n + (b.toNat - 48) > 1073741824 then none else some ⟨s.m, s.l, 10 * s.n + (b.toNat - 48), s.neg, true⟩)
 else if b.toNat = 45 then some ⟨s.m, s.l, s.n, true, s.som⟩
 else if b.toNat = 59 then some ⟨s.rows, [], 0, false, false⟩
 else some ⟨s.m, s.put, 0, false, false⟩
def PS.go (s : PS) : List UInt8 → Option PS
 | [] => some s
 | b :: r => (s.step b).bind fun s' => s'.go r
theorem PS.go_app (a b : List UInt8) : ∀ s : PS, s.go (a ++ b) = (s.go a).bind fun s' => s'.go b := by
 induction a with
 | nil => intro s; rfl
 | cons x r ih =>
   intro s
   show (s.step x).bind _ = ((s.step x).bind _).bind _
   cases s.step x with
   | none => rfl
   | some s' => exact ih s'
theorem PS.digit {s : PS} {d : Nat} (hd : d < 10) (h : 10 * s.n + d ≤ 1073741824) : s.step (UInt8.ofNat (48 + d)) = some ⟨s.m, s.l, 10 * s.n + d, s.neg, true⟩ := by
 have e : (UInt8.ofNat (48 + d)).toNat = 48 + d := by rw [UInt8.toNat_ofNat']; omega
 unfold PS.step
 rw [e, if_pos (by omega), show 48 + d - 48 = d by omega, if_neg (by omega)]
theorem PS.digits (u : Nat) : ∀ (m : List (List Int)) (l : List Int) (neg som : Bool), u ≤ 1073741824 → PS.go ⟨m, l, 0, neg, som⟩ (Lib.decDigits u) = some ⟨m, l, u, neg, true⟩ := by
 induction u using Nat.strongRecOn with
 | _ u ih =>
   intro m l neg som hu
   by_cases h : u < 10
   ·rw [Lib.decDigits_one h]
    show (PS.step _ _).bind _ = _
    rw [PS.digit h (by simp; omega)]
    simp [PS.go]
   ·rw [decDigits_big h, PS.go_app, ih (u / 10) (by omega) m l neg som (by omega)]
    show (PS.step _ _).bind _ = _
    rw [PS.digit (by omega) (by simp; omega)]
    simp only [Option.bind_some, PS.go, Option.some.injEq, PS.mk.injEq, true_and, and_true]
    omega
theorem PS.token (z : Int) (m : List (List Int)) (l : List Int) (hz : z.natAbs ≤ 1073741824) : PS.go ⟨m, l, 0, false, false⟩ (Lib.itoa z) = some ⟨m, l, z.natAbs, decide (z < 0), true⟩ := by
 unfold Lib.itoa
 by_cases h : z < 0
 ·rw [if_pos h]
  show (PS.step _ 45).bind _ = _
  have : PS.step ⟨m, l, 0, false, false⟩ 45 = some ⟨m, l, 0, true, false⟩ := rfl
  rw [this, Option.bind_some, PS.digits _ _ _ _ _ hz, decide_eq_true h]
 ·rw [if_neg h, PS.digits _ _ _ _ _ (by omega), decide_eq_false h]
  simp only [Option.some.injEq, PS.mk.injEq, true_and, and_true]
  omega
theorem pend_put (z : Int) (m : List (List Int)) (l : List Int) : PS.put ⟨m, l, z.natAbs, decide (z < 0), true⟩ = l ++ [z] := by
 unfold PS.put
 simp only [if_true]
 by_cases h : z < 0
 ·simp only [decide_eq_true h, if_true]
  rw [show -((z.natAbs : Nat) : Int) = z by omega]
 ·simp only [decide_eq_false h]
  rw [if_neg (by simp), show ((z.natAbs : Nat) : Int) = z by omega]
def entsL (zs : List Int) (a k : Nat) : List Int := (List.range k).map fun j => zs.getD (a + j) 0
def rowsL (zs : List Int) (c k : Nat) : List (List Int) := (List.range k).map fun i => entsL zs (i * c) c
theorem entsL_next (zs : List Int) (a k : Nat) : entsL zs a (k + 1) = entsL zs a k ++ [zs.getD (a + k) 0] := by unfold entsL; rw [List.range_succ, List.map_append]; rfl
theorem rowsL_next (zs : List Int) (c k : Nat) : rowsL zs c (k + 1) = rowsL zs c k ++ [entsL zs (k * c) c] := by unfold rowsL; rw [List.range_succ, List.map_append]; rfl
def behind (zs : List Int) (c i j : Nat) : PS := ⟨rowsL zs c i, entsL zs (i * c) j, (zs.getD (i * c + j) 0).natAbs, decide (zs.getD (i * c + j) 0 < 0), true⟩
theorem behind_put (zs : List Int) (c i j : Nat) : (behind zs c i j).put = entsL zs (i * c) (j + 1) := by rw [entsL_next]; exact pend_put _ _ _
theorem behind_rows (zs : List Int) (c i j : Nat) (hj : j + 1 = c) : (behind zs c i j).rows = rowsL zs c (i + 1) := by
 unfold PS.rows
 rw [behind_put, hj, rowsL_next, if_neg]
 ·rfl
 ·intro e
  have := congrArg List.length e
  simp [entsL] at this
  omega
theorem body_go {zs : List Int} {c : Nat} (hc : 0 < c) (hz : ∀ t, t < zs.length → (zs.getD t 0).natAbs ≤ 1073741824) : ∀ (k i j : Nat), j < c → i * c + j + k + 1 = zs.length → ∃ i' j', j' < c ∧ i' * c + j' + 1 = zs.length ∧ PS.go (behind zs c i j) (bodyT c (i * c + j + 1) ((zs.drop (i * c + j + 1)).map Lib.itoa)) = some (behind zs c i' j') := by
 intro k
 induction k with
 | zero =>
   intro i j hj hl
   refine ⟨i, j, hj, by omega, ?_⟩
   rw [List.drop_eq_nil_of_le (by omega)]
   rfl
 | succ k ih =>
   intro i j hj hl
   have ht : i * c + j + 1 < zs.length := by omega
   have hd : (zs.drop (i * c + j + 1)).map Lib.itoa = Lib.itoa (zs.getD (i * c + j + 1) 0) :: (zs.drop (i * c + j + 1 + 1)).map Lib.itoa := by
    rw [List.drop_eq_getElem_cons ht, List.map_cons]
    simp [List.getD, List.getElem?_eq_getElem ht]
   rw [hd, bodyT]
   have sp : ∀ s : PS, s.step 32 = some ⟨s.m, s.put, 0, false, false⟩ := fun s => rfl
   have se : ∀ s : PS, s.step 59 = some ⟨s.rows, [], 0, false, false⟩ := fun s => rfl
   by_cases e : j + 1 = c
   ·have hmod : (i * c + j + 1) % c = 0 := by
     rw [show i * c + j + 1 = (i + 1) * c by rw [Nat.add_mul]; omega]
     exact Nat.mul_mod_left _ _
    rw [if_pos ⟨by omega, hmod⟩]
    have e1 : i * c + j + 1 = (i + 1) * c + 0 := by rw [Nat.add_mul]; omega
    obtain ⟨i', j', h1, h2, h3⟩ := ih (i + 1) 0 hc (by omega)
    refine ⟨i', j', h1, h2, ?_⟩
    show PS.go _ (59 :: 32 :: _) = _
    rw [PS.go, se, Option.bind_some, PS.go, sp, Option.bind_some, behind_rows zs c i j e, PS.go_app]
    have e2 : PS.put ⟨rowsL zs c (i + 1), [], 0, false, false⟩ = [] := rfl
    rw [e2, PS.token _ _ _ (hz _ ht), Option.bind_some]
    rw [e1]
    exact h3
   ·have hmod : (i * c + j + 1) % c = j + 1 := by
     rw [show i * c + j + 1 = c * i + (j + 1) by rw [Nat.mul_comm]; omega, Nat.mul_add_mod, Nat.mod_eq_of_lt (by omega)]
    rw [if_neg (fun h => by omega)]
    obtain ⟨i', j', h1, h2, h3⟩ := ih i (j + 1) (by omega) (by omega)
    refine ⟨i', j', h1, h2, ?_⟩
    show PS.go _ (32 :: _) = _
    rw [PS.go, sp, Option.bind_some, behind_put, PS.go_app, PS.token _ _ _ (hz _ ht), Option.bind_some]
    exact h3
theorem mat_go {zs : List Int} {r c : Nat} (hr : 0 < r) (hc : 0 < c) (hl : zs.length = r * c) (hz : ∀ t, t < zs.length → (zs.getD t 0).natAbs ≤ 1073741824) : ∃ s, PS.go ⟨[], [], 0, false, false⟩ (bodyT c 0 (zs.map Lib.itoa)) = some s ∧ s.rows = rowsL zs c r := by
 have hpos : 0 < zs.length := by rw [hl]; exact Nat.mul_pos hr hc
 obtain ⟨i', j', h1, h2, h3⟩ := body_go hc hz (zs.length - 1) 0 0 hc (by omega)
 refine ⟨behind zs c i' j', ?_, ?_⟩
 ·have hd : zs.map Lib.itoa = Lib.itoa (zs.getD 0 0) :: (zs.drop 1).map Lib.itoa := by
   cases zs with
   | nil => simp at hpos
   | cons a t => simp
  rw [hd, bodyT, if_neg (fun h => by omega)]
  show PS.go _ (32 :: _) = _
  have sp : PS.step ⟨[], [], 0, false, false⟩ 32 = some ⟨[], [], 0, false, false⟩ := rfl
  rw [PS.go, sp, Option.bind_some, PS.go_app, PS.token _ _ _ (hz _ hpos), Option.bind_some]
  have e : behind zs c 0 0 = ⟨[], [], (zs.getD 0 0).natAbs, decide (zs.getD 0 0 < 0), true⟩ := by
   simp [behind, rowsL, entsL]
  rw [← e]
  simpa using h3
 ·have hj : j' + 1 = c := by
   have h4 : (i' * c + j' + 1) % c = 0 := by rw [h2, hl]; exact Nat.mul_mod_left _ _
   rcases Nat.lt_or_ge (j' + 1) c with h5 | h5
   ·rw [show i' * c + j' + 1 = c * i' + (j' + 1) by rw [Nat.mul_comm]; omega, Nat.mul_add_mod, Nat.mod_eq_of_lt h5] at h4
    omega
   ·omega
  rw [behind_rows zs c i' j' hj]
  have : i' + 1 = r := by
   have h4 : (i' + 1) * c = r * c := by rw [← hl, ← h2, Nat.add_mul]; omega
   exact Nat.eq_of_mul_eq_mul_right hc h4
  rw [this]
open Go.RowKit
def zc (zs : List Int) : List Value := zs.map fun z => .int .i64 z
def OI (B : Nat) (w : World) (v : Value) (zs : List Int) : Prop := w.ownsRow B 3 1 v zs.length (zc zs)
theorem ownsRow_of {B e size n : Nat} {v : Value} {xs : List Value} {w w' : World} (h : w.ownsRow B e size v n xs) (hb : ∀ g, v.ownBlock = some g → w'.heap[g]? = w.heap[g]?) : w'.ownsRow B e size v n xs := by
 refine ⟨h.1, ?_⟩
 rcases h.2 with h2 | ⟨g, cap, cur, hv, hg, hh, r⟩
 ·exact .inl h2
 ·exact .inr ⟨g, cap, cur, hv, hg, by rw [hb g (by rw [hv]; rfl)]; exact hh, r⟩
theorem ownsRow_ty {B e size n : Nat} {v : Value} {xs : List Value} {w : World} (h : w.ownsRow B e size v n xs) : ∀ g, v.ownBlock = some g → B ≤ g ∧ Ty w g e ∧ g < w.heap.size := by
 intro k hk
 rcases h.2 with ⟨rfl, _⟩ | ⟨g, cap, cur, rfl, hg, hh, r⟩
 ·simp [Value.ownBlock] at hk
 ·simp [Value.ownBlock] at hk
  subst hk
  exact ⟨hg, ⟨_, _, hh⟩, (Array.getElem?_eq_some_iff.1 hh).1⟩
theorem OI.nil (B : Nat) (w : World) : OI B w (.slice none 0 0) [] := World.ownsRow_nil _ _ _ _
theorem OI.shape {B : Nat} {w : World} {v : Value} {zs : List Int} (h : OI B w v zs) : ∃ ao cap, v = .slice ao zs.length cap ∧ zs.length ≤ cap ∧ cap ≤ 9223372036854775807 ∧ ∀ i, i < zs.length → ∃ g, ao = some ⟨g, 0, none⟩ ∧ w.cell? ⟨g, i, none⟩ = some (.int .i64 (zs.getD i 0)) := by
 rcases h.2 with ⟨rfl, hn⟩ | ⟨g, cap, cur, rfl, hg, hh, h1, h2, h3, h4⟩
 ·exact ⟨none, 0, by rw [hn], by omega, by simp, fun i hi => by omega⟩
 ·refine ⟨_, cap, rfl, h1, by simpa [maxLen] using h2, fun i hi => ⟨g, rfl, ?_⟩⟩
  have h5 : (zc zs)[i]? = some (.int .i64 (zs.getD i 0)) := by simp [zc, List.getD, List.getElem?_eq_getElem hi]
  rw [← h4, Nat.mul_one, List.getElem?_take, if_pos hi] at h5
  simp only [World.cell?, hh]
  simpa using h5
theorem append_zint (w : World) {ops : Array Oper} {rest : List Oper} {o : Oper} {a : Act} {Q : Exit → Act → World → Prop} (hgd : o.guard = none) (s x : Operand)
 (ho : o.op = .call { callee := .builtin .append, args := #[s, x], argTypes := #[51, 51] }) (B : Nat) (v : Value) (zs : List Int) (hs : a.eval s = v) (hown : OI B w v zs)
 (ad : Addr) (hx : a.eval x = .slice (some ad) 1 1) (c : Int) (hc : w.cell? (ad.add 0) = some (.int .i64 c)) (hl : zs.length ≤ 100000000000) (hB : B ≤ w.heap.size)
 (hK : ∀ v' w', OI B w' v' (zs ++ [c]) → w.grownBy w' v.ownBlock → wpList Tryz.prog ops Q rest (a.put o.dst v') w') : wpList Tryz.prog ops Q (o :: rest) a w := by
 obtain ⟨i, hi, hz0, hz1, hz2⟩ := info_parts Tryz.info3'
 refine wpList_append_own w hgd s x 51 ho B 3 i (.int .i64 0) 1 8 Tryz.underlying51 hi hz0 hz1 hz2 rfl (by decide) v zs.length (zc zs) hs hown ad 1 1 [.int .i64 c] hx rfl ?_ ?_ ?_ ?_ hB ?_
 ·intro j u hj
  match j, hj with
  | 0, hj => simp at hj; subst hj; exact hc
 ·intro u hu; simp at hu; subst hu; rfl
 ·unfold maxLen; omega
 ·omega
 ·intro v' w' h1 h2 _
  refine hK v' w' ?_ h2
  unfold OI
  rw [show zc (zs ++ [c]) = zc zs ++ [.int .i64 c] from by simp [zc], List.length_append, List.length_singleton]
  exact h1
def RMs (B B' : Nat) (w : World) (v : Value) (rows : List (List Int)) : Prop := ∃ vs : List Value, w.ownsRow B 51 1 v rows.length vs ∧ ∀ i, i < rows.length → OI B w (vs.getD i (.slice none 0 0)) (rows.getD i []) ∧ ∀ g, (vs.getD i (.slice none 0 0)).ownBlock = some g → g < B'
theorem RMs.nil (B B' : Nat) (w : World) : RMs B B' w (.slice none 0 0) [] := ⟨[], World.ownsRow_nil _ _ _ _, fun i hi => by simp at hi⟩
theorem RMs.below {B B' : Nat} {w w' : World} {v : Value} {rows : List (List Int)} (h : RMs B B' w v rows) (hb : Below w.heap.size w w') : RMs B B' w' v rows := by
 obtain ⟨vs, h1, h2⟩ := h
 exact ⟨vs, ownsRow_of h1 (fun g hg => hb.block g (ownsRow_ty h1 g hg).2.2), fun i hi => ⟨ownsRow_of (h2 i hi).1 (fun g hg => hb.block g (ownsRow_ty (h2 i hi).1 g hg).2.2), (h2 i hi).2⟩⟩
theorem RMs.grown {B B' : Nat} {w w' : World} {v : Value} {rows : List (List Int)} {p : Option Nat} (h : RMs B B' w v rows) (hg : w.grownBy w' p) (hp : ∀ g, p = some g → B' ≤ g ∧ Ty w g 3) : RMs B B' w' v rows := by
 obtain ⟨vs, h1, h2⟩ := h
 refine ⟨vs, ownsRow_of h1 (fun g hgo => hg.block g (ownsRow_ty h1 g hgo).2.2 (fun e => ?_)), fun i hi => ⟨ownsRow_of (h2 i hi).1 (fun g hgo => hg.block g (ownsRow_ty (h2 i hi).1 g hgo).2.2 (fun e => ?_)), (h2 i hi).2⟩⟩
 ·obtain ⟨c, fr, q⟩ := (hp g e.symm).2
  obtain ⟨c', fr', q'⟩ := (ownsRow_ty h1 g hgo).2.1
  rw [q] at q'
  simp at q'
 ·have := (hp g e.symm).1
  have := (h2 i hi).2 g hgo
  omega
theorem RMs.shape {B B' : Nat} {w : World} {v : Value} {rows : List (List Int)} (h : RMs B B' w v rows) : ∃ ao cap, v = .slice ao rows.length cap ∧ rows.length ≤ cap ∧ cap ≤ 9223372036854775807 := by
 obtain ⟨vs, h1, -⟩ := h
 rcases h1.2 with ⟨rfl, hn⟩ | ⟨g, cap, cur, rfl, hg, hh, h1, h2, h3, h4⟩
 ·exact ⟨none, 0, by rw [hn], by omega, by simp⟩
 ·exact ⟨_, cap, rfl, h1, by simpa [maxLen] using h2⟩
theorem append_mrow (w : World) {ops : Array Oper} {rest : List Oper} {o : Oper} {a : Act} {Q : Exit → Act → World → Prop} (hgd : o.guard = none) (s x : Operand)
 (ho : o.op = .call { callee := .builtin .append, args := #[s, x], argTypes := #[57, 57] }) (B B' : Nat) (v : Value) (rows : List (List Int)) (hs : a.eval s = v) (hm : RMs B B' w v rows)
 (ad : Addr) (hx : a.eval x = .slice (some ad) 1 1) (u : Value) (zs : List Int) (h0 : w.cell? (ad.add 0) = some u) (hr : OI B w u zs) (hn : rows.length ≤ 100000000) (hB : B ≤ w.heap.size) (hB' : B' ≤ w.heap.size)
 (hK : ∀ v' w', RMs B w'.heap.size w' v' (rows ++ [zs]) → w.grownBy w' v.ownBlock → (∀ k, v.ownBlock = some k → B ≤ k) → wpList Tryz.prog ops Q rest (a.put o.dst v') w') : wpList Tryz.prog ops Q (o :: rest) a w := by
 obtain ⟨i, hi, hz0, hz1, hz2⟩ := info_parts Tryz.info51'
 obtain ⟨vs, h1, h2⟩ := hm
 have hty := ownsRow_ty h1
 have hvl : vs.length = rows.length := by have := h1.1; omega
 have hone : u.oneCell' = true := by
  obtain ⟨_, _, rfl, -⟩ := hr.shape
  rfl
 refine wpList_append_own w hgd s x 57 ho B 51 i (.slice none 0 0) 1 24 Tryz.underlying57 hi hz0 hz1 hz2 rfl (by decide) v rows.length vs hs h1 ad 1 1 [u] hx rfl ?_ ?_ ?_ ?_ hB ?_
 ·intro j y hj
  match j, hj with
  | 0, hj => simp at hj; subst hj; exact h0
 ·intro y hy; simp at hy; subst hy; exact hone
 ·unfold maxLen; omega
 ·omega
 ·intro v' w' k1 k2 _
  have key : ∀ (y : Value) (ys : List Int), OI B w y ys → OI B w' y ys := fun y ys hy => ownsRow_of hy (fun g hg => k2.block g (ownsRow_ty hy g hg).2.2 (fun e => by
   obtain ⟨c, fr, q⟩ := (hty g e.symm).2.1
   obtain ⟨c', fr', q'⟩ := (ownsRow_ty hy g hg).2.1
   rw [q] at q'
   simp at q'))
  have hsz := k2.size
  refine hK v' w' ⟨vs ++ [u], by rw [List.length_append, List.length_singleton]; exact k1, fun j hj => ?_⟩ k2 (fun k hk => (hty k hk).1)
  rw [List.length_append, List.length_singleton] at hj
  by_cases e : j < rows.length
  ·rw [show (vs ++ [u]).getD j (.slice none 0 0) = vs.getD j (.slice none 0 0) from by simp [List.getD, List.getElem?_append_left (show j < vs.length by omega)], show (rows ++ [zs]).getD j [] = rows.getD j [] from by simp [List.getD, List.getElem?_append_left e]]
   exact ⟨key _ _ (h2 j e).1, fun g hg => by have := (h2 j e).2 g hg; omega⟩
  ·obtain rfl : j = rows.length := by omega
   rw [show (vs ++ [u]).getD rows.length (.slice none 0 0) = u from by simp [List.getD, ← hvl], show (rows ++ [zs]).getD rows.length [] = zs from by simp [List.getD]]
   exact ⟨key _ _ hr, fun g hg => by have := (ownsRow_ty hr g hg).2.2; omega⟩
end Go.Proofs.YtfjbijpagaipnabGreatDoor
