import Derived.Test.YtfjbijpagaipnabDoorQ24
import Derived.Test.YtfjbijpagaipnabDoorQ15
import Derived.Test.YtfjbijpagaipnabDoorQ10
namespace Go.Proofs.YtfjbijpagaipnabDoor.R
structure LowT (r c k : Nat) (D : Nat → Nat → Int) : Prop where
 kr : k ≤ r
 kc : k ≤ c
 up : ∀ i j, i < r → j < c → i < j → D i j = 0
 out : ∀ i j, i < r → j < c → (k ≤ i ∨ k ≤ j) → D i j = 0
 pos : ∀ i, i < k → 0 < D i i
theorem low_minor {r c k m : Nat} {D : Nat → Nat → Int} (h : LowT r c k D) (hm : m ≤ k) (h4 : k ≤ 4) : mv ((List.range m).map D) (List.range m) = pr D 0 m := by
 have h1 := mv_tr (tr D) (List.range m) (List.range m) rfl (by simp; omega)
 have h2 : tr (tr D) = D := rfl
 rw [h2] at h1
 have hkr := h.kr
 have hkc := h.kc
 rw [h1, List.range_eq_range', mv_up (X := tr D) m 0 (fun i j a b => h.up j i (by omega) (by omega) a), pr_tr]
theorem LowT.pr_pos {r c k m : Nat} {D : Nat → Nat → Int} (h : LowT r c k D) (hm : m ≤ k) : 0 < pr D 0 m := R.pr_pos m 0 (fun i _ hi => h.pos i (by omega))
structure FormT (r c k : Nat) (D H : Nat → Nat → Int) : Prop where
 low : LowT c r k (tr H)
 red : ∀ i b, i < b → b < k → 0 ≤ H i b ∧ H i b < H b b
 dvd : ∀ m, m ≤ k → pr H 0 m ∣ pr D 0 m
theorem form_low {r c k : Nat} {pc : Nat → Nat} {H : Nat → Nat → Int} (h : EchSt r c k pc H) (hz : ∀ i j, i < r → k ≤ j → j < c → H i j = 0) (hp : ∀ b, b < k → pc b = b) (hkc : k ≤ c) : LowT c r k (tr H) ∧ ∀ i b, i < b → b < k → 0 ≤ H i b ∧ H i b < H b b := by
 refine ⟨⟨hkc, h.le, fun i j hi hj hij => EchSt.low h j i hij hj hi, fun i j hi hj hk => ?_, fun i hi => ?_⟩, fun i b hib hb => ?_⟩
 ·rcases hk with hk | hk
  ·exact hz j i hj hk hi
  ·exact h.rest j hk hj i hi
 ·have := h.piv i hi
  rw [hp i hi] at this
  exact this
 ·have := h.above b hb i hib
  rw [hp b hb] at this
  exact this
theorem form_step {r c k k' : Nat} {pc : Nat → Nat} {D H U W : Nat → Nat → Int} (hD : LowT r c k D) (h4 : k ≤ 4) (h : EchSt r c k' pc H) (hE : EInv D H U W r c) : k' = k ∧ (∀ b, b < k → pc b = b) ∧ FormT r c k D H := by
 have hkr := hD.kr
 obtain ⟨rfl, h2, h3, h5⟩ := form_diag h hE hD.kc h4 (fun i j hi hk hj => hD.out i j hi hj (.inr hk)) (fun m hm => ⟨List.range m, by simp, fun x hx => by have := List.mem_range.1 hx; omega, by
  rw [low_minor hD hm h4]; have := hD.pr_pos hm; omega⟩)
 obtain ⟨a1, a2⟩ := form_low h h3 h2 hD.kc
 refine ⟨rfl, h2, a1, a2, fun m hm => ?_⟩
 have := h5 m hm (List.range m) (by simp) (fun x hx => by have := List.mem_range.1 hx; omega)
 rw [low_minor hD hm h4] at this
 exact this
theorem form_first {r c k k' : Nat} {pc pc' : Nat → Nat} {H E U W : Nat → Nat → Int} (h : EchSt r c k pc H) (h4 : k ≤ 4) (h' : EchSt c r k' pc' E) (hE : EInv (tr H) E U W c r) : k' = k ∧ (∀ b, b < k → pc' b = b) ∧ LowT r c k (tr E) ∧ ∀ i b, i < b → b < k → 0 ≤ E i b ∧ E i b < E b b := by
 have hle := h.le
 have hEch : Ech H r c k pc := ⟨h.le, h.col, h.up, fun b hb => by have := h.piv b hb; omega, fun a b hb hba har => h.below b hb a hba har, h.rest⟩
 obtain ⟨rfl, h2, h3, h5⟩ := form_diag h' hE h.le h4 (fun i j hi hk hj => h.rest j hk hj i hi) (fun m hm => ⟨(List.range m).map pc, by simp, fun x hx => by
  obtain ⟨b, hb, rfl⟩ := List.mem_map.1 hx
  exact h.col b (by have := List.mem_range.1 hb; omega), by
  have := tri hEch m 0 (by omega)
  rw [← List.range_eq_range'] at this
  have e := mv_tr H ((List.range m).map pc) (List.range m) (by simp) (by simp; omega)
  rw [e]
  exact this⟩)
 obtain ⟨a1, a2⟩ := form_low h' h3 h2 h.le
 exact ⟨rfl, h2, a1, a2⟩
theorem diag_eq {D H : Nat → Nat → Int} {k : Nat} (hp : ∀ m, m ≤ k → pr H 0 m = pr D 0 m) (h0 : ∀ m, m ≤ k → 0 < pr H 0 m) : ∀ i, i < k → H i i = D i i := fun i hi => by
 have h1 := hp (i + 1) hi
 rw [pr_succ, pr_succ, hp i (by omega), Nat.zero_add] at h1
 have := h0 i (by omega)
 rw [hp i (by omega)] at this
 exact Int.eq_of_mul_eq_mul_left (by omega) h1
theorem form_same {r c k : Nat} {pc : Nat → Nat} {D H U W : Nat → Nat → Int} (hD : LowT r c k D) (h : EchSt r c k pc H) (hE : EInv D H U W r c) (hpc : ∀ b, b < k → pc b = b) (hF : FormT r c k D H) (hp : ∀ m, m ≤ k → pr H 0 m = pr D 0 m) :
 (∀ i j, i < r → j < c → i ≠ j → H i j = 0) ∧ (∀ i j, i < k → j < k → D j j ∣ D i j) := by
 have hkr := hD.kr
 have hkc := hD.kc
 have hlow := hF.low
 have hdg := diag_eq hp (fun m hm => by have := hlow.pr_pos hm; rw [pr_tr] at this; exact this)
 obtain ⟨s1, -⟩ := span_rows h hE
 have key : ∀ m, m ≤ k → ∀ i j, i < m → j < c → i ≠ j → H i j = 0 := by
  intro m
  induction m with
  | zero => intro _ i j hi; omega
  | succ m ih =>
    intro hm i j hi hj hij
    have ihm := ih (by omega)
    by_cases him : i = m
    ·subst him
     obtain ⟨x, hx⟩ := s1 i (by omega)
     have hy : Sp H k c (fun j => if j = i then D i i else 0) := by
      refine ⟨fun l => if l < i then 0 else x l, fun j hj => ?_⟩
      have e1 : sm (fun l => (if l < i then 0 else x l) * H l j) k = D i j - sm (fun l => if l < i then x l * H l j else 0) k := by
       rw [hx j hj, sm_sub]
       exact sm_congr k (fun l hl => by split <;> grind)
      have e2 : sm (fun l => if l < i then x l * H l j else 0) k = if j < i then x j * H j j else 0 := by
       split
       ·rename_i hji
        rw [sm_one k j (by omega) (fun l hl hlj => by
         split
         ·rename_i hli; rw [ihm l j hli hj hlj, Int.mul_zero]
         ·rfl), if_pos hji]
       ·rename_i hji
        exact sm_zero k (fun l hl => by
         split
         ·rename_i hli; rw [ihm l j hli hj (by omega), Int.mul_zero]
         ·rfl)
      show (if j = i then D i i else 0) = _
      rw [e1, e2]
      by_cases hji : j < i
      ·rw [if_pos hji, if_neg (by omega)]
       have e3 : D i j = x j * H j j := by
        rw [hx j hj]
        refine sm_one k j (by omega) (fun l hl hlj => ?_)
        rcases Nat.lt_or_ge l i with hli | hli
        ·rw [ihm l j hli hj hlj, Int.mul_zero]
        ·rw [EchSt.low h l j (by omega) (by omega) hj, Int.mul_zero]
       omega
      ·rw [if_neg hji]
       by_cases hje : j = i
       ·subst hje; rw [if_pos rfl]; omega
       ·rw [if_neg hje, hD.up i j (by omega) hj (by omega)]; omega
     have hz := hy.sub (Sp.row H c (show i < k by omega))
     rcases h.lead hz with h0 | ⟨b, hb, hb1, hb2, hb3⟩
     ·have := h0 j hj
      rw [if_neg (fun e => hij e.symm)] at this
      omega
     ·exfalso
      rw [hpc b hb] at hb1 hb2 hb3
      have hbi : i < b := by
       rcases Nat.lt_trichotomy b i with h1 | h1 | h1
       ·exfalso
        apply hb2
        rw [if_neg (by omega), EchSt.low h i b h1 (by omega) (by omega)]; rfl
       ·exfalso
        apply hb2
        subst h1
        rw [if_pos rfl, hdg b (by omega)]; omega
       ·exact h1
      rw [if_neg (by omega)] at hb2 hb3
      obtain ⟨r1, r2⟩ := hF.red i b hbi hb
      have h1 : H b b ∣ H i b := by
       have h9 := Int.dvd_neg.2 hb3
       rw [show -(0 - H i b) = H i b from by omega] at h9
       exact h9
      have h2 := Int.le_of_dvd (by omega) h1
      omega
    ·exact ihm i j (by omega) hj hij
 have hoff : ∀ i j, i < r → j < c → i ≠ j → H i j = 0 := fun i j hi hj hij => by
  rcases Nat.lt_or_ge i k with h1 | h1
  ·exact key k (Nat.le_refl _) i j h1 hj hij
  ·exact h.rest i h1 hi j hj
 refine ⟨hoff, fun i j hi hj => ?_⟩
 obtain ⟨x, hx⟩ := s1 i (by omega)
 rw [← hdg j hj, hx j (by omega)]
 refine sm_dvd k (fun l hl => ?_)
 by_cases hlj : l = j
 ·rw [hlj]; exact Int.dvd_mul_left _ _
 ·rw [hoff l j (by omega) (by omega) hlj, Int.mul_zero]; exact Int.dvd_zero _
theorem low_div {r c k : Nat} {D : Nat → Nat → Int} (h : LowT r c k D) (h4 : k ≤ 4) : divF D r c k = (pr D 0 k).natAbs := by
 have hkc := h.kc
 have hkr := h.kr
 have hmem : List.range k ∈ chosenL k c := by
  have := cols_mem (pc := id) (p := k) (fun a b hab _ => hab) k c (Nat.le_refl _) (fun b hb => by show b < c; omega)
  simpa using this
 refine Nat.dvd_antisymm ?_ ?_
 ·have h1 := (div_dvd _ D r c k h4).1 (Nat.dvd_refl _) _ hmem (List.range k) rfl (fun x hx => by have := List.mem_range.1 hx; omega)
  rw [low_minor h (Nat.le_refl _) h4] at h1
  exact Int.ofNat_dvd_left.1 h1
 ·rw [div_dvd _ D r c k h4]
  intro C hC R hR hRr
  obtain ⟨c1, c2⟩ := chosenL_lt hC
  by_cases hall : ∀ x ∈ C, x < k
  ·have hCk := chosen_in hC hall
   subst hCk
   have h1 : ∀ R' ∈ chosenL k r, ((pr D 0 k).natAbs : Int) ∣ mv (R'.map D) (List.range k) := fun R' hR' => by
    obtain ⟨r1, r2⟩ := chosenL_lt hR'
    by_cases hr' : ∀ x ∈ R', x < k
    ·have := chosen_in hR' hr'
     rw [this, low_minor h (Nat.le_refl _) h4, Int.natAbs_dvd]
     exact Int.dvd_refl _
    ·have hex : ∃ x, x ∈ R' ∧ k ≤ x := Classical.byContradiction (fun hn => hr' (fun x hx => Nat.lt_of_not_le (fun hle => hn ⟨x, hx, hle⟩)))
     obtain ⟨x, hx, hle⟩ := hex
     obtain ⟨xs, ys, he⟩ := List.append_of_mem hx
     have hlen : xs.length + ys.length + 1 = k := by have := congrArg List.length he; simp at this; omega
     rw [he, List.map_append, List.map_cons, mv_zero_row (D x) (ys.map D) (xs.map D) (List.range k) (fun j hj => h.out x j (r2 x hx) (by have := List.mem_range.1 hj; omega) (.inl hle)) (by simp; omega)]
     exact Int.dvd_zero _
   have := rise_all _ D (List.range k) (by simpa using h4) k r [] (by simp) (fun R' hR' => by rw [List.append_nil]; exact h1 R' hR') R (by simpa using hR) hRr
   simpa using this
  ·have hex : ∃ x, x ∈ C ∧ k ≤ x := Classical.byContradiction (fun hn => hall (fun x hx => Nat.lt_of_not_le (fun hle => hn ⟨x, hx, hle⟩)))
   obtain ⟨x, hx, hle⟩ := hex
   rw [mv_zero_col x (R.map D) C (fun v hv => by
    obtain ⟨i, hi, rfl⟩ := List.mem_map.1 hv
    exact h.out i x (hRr i hi) (c2 x hx) (.inr hle)) hx (by simp; omega)]
   exact Int.dvd_zero _
theorem round_low {r c k k1 k2 : Nat} {pc pc' : Nat → Nat} {D H U W E U' W' : Nat → Nat → Int} (hD : LowT r c k D) (h4 : k ≤ 4) (h : EchSt r c k1 pc H) (hE : EInv D H U W r c) (h' : EchSt c r k2 pc' E) (hE' : EInv (tr H) E U' W' c r) :
 FormT r c k D H ∧ FormT c r k (tr H) E ∧ (∀ m, m ≤ k → pr (tr E) 0 m ∣ pr D 0 m) ∧
 ((∀ m, m ≤ k → pr (tr E) 0 m = pr D 0 m) → (∀ i j, i < r → j < c → i ≠ j → tr E i j = 0) ∧ ∀ i j, i < k → j < k → D j j ∣ D i j) := by
 obtain ⟨rfl, p1, f1⟩ := form_step hD h4 h hE
 obtain ⟨rfl, p2, f2⟩ := form_step f1.low h4 h' hE'
 refine ⟨f1, f2, fun m hm => ?_, fun hp => ?_⟩
 ·rw [pr_tr]
  have a1 := f2.dvd m hm
  rw [pr_tr] at a1
  exact Int.dvd_trans a1 (f1.dvd m hm)
 ·have q1 : ∀ m, m ≤ k2 → pr H 0 m = pr D 0 m := fun m hm => by
   have a1 := f2.dvd m hm
   have a2 := f1.dvd m hm
   have a3 := hp m hm
   rw [pr_tr] at a1 a3
   rw [a3] at a1
   have b1 := hD.pr_pos hm
   have b2 := f1.low.pr_pos hm
   rw [pr_tr] at b2
   have c1 := Int.le_of_dvd b2 a1
   have c2 := Int.le_of_dvd b1 a2
   omega
  have q2 : ∀ m, m ≤ k2 → pr E 0 m = pr (tr H) 0 m := fun m hm => by
   have a3 := hp m hm
   rw [pr_tr] at a3 ⊢
   rw [a3, q1 m hm]
  obtain ⟨s1, s2⟩ := form_same hD h hE p1 f1 q1
  obtain ⟨t1, -⟩ := form_same f1.low h' hE' p2 f2 q2
  exact ⟨fun i j hi hj hij => t1 j i hj hi (fun e => hij e.symm), s2⟩
def mixD (D : Nat → Nat → Int) (a : Nat) : Nat → Nat → Int := fun i j => if j = a then D i a + D i (a + 1) else D i j
theorem mix_low {r c k a : Nat} {D : Nat → Nat → Int} (hD : LowT r c k D) (ha : a + 1 < k) (hd : ∀ i j, i < r → j < c → i ≠ j → D i j = 0) (hn : ¬ D a a ∣ D (a + 1) (a + 1)) :
 LowT r c k (mixD D a) ∧ (∀ m, pr (mixD D a) 0 m = pr D 0 m ∨ k < m) ∧ ¬ ∀ i j, i < k → j < k → mixD D a j j ∣ mixD D a i j := by
 have hkr := hD.kr
 have hkc := hD.kc
 have hdg : ∀ i, i < k → mixD D a i i = D i i := fun i hi => by
  unfold mixD
  split
  ·rename_i e; subst e; rw [hd i (i + 1) (by omega) (by omega) (by omega)]; omega
  ·rfl
 refine ⟨⟨hkr, hkc, fun i j hi hj hij => ?_, fun i j hi hj hk => ?_, fun i hi => by rw [hdg i hi]; exact hD.pos i hi⟩, fun m => ?_, fun hall => hn ?_⟩
 ·unfold mixD
  split
  ·rename_i e; subst e; rw [hd i j hi hj (by omega), hd i (j + 1) hi (by omega) (by omega)]; rfl
  ·exact hD.up i j hi hj hij
 ·unfold mixD
  split
  ·rename_i e; subst e; rw [hD.out i j hi hj hk, hD.out i (j + 1) hi (by omega) (.inl (by omega))]; rfl
  ·exact hD.out i j hi hj hk
 ·by_cases hm : m ≤ k
  ·refine .inl ?_
   have key : ∀ n o, o + n ≤ k → pr (mixD D a) o n = pr D o n := by
    intro n
    induction n with
    | zero => intro o _; rfl
    | succ n ih => intro o ho; rw [pr, pr, ih (o + 1) (by omega), hdg o (by omega)]
   exact key m 0 (by omega)
  ·exact .inr (by omega)
 ·have := hall (a + 1) a (by omega) (by omega)
  rw [hdg a (by omega)] at this
  have e : mixD D a (a + 1) a = D (a + 1) (a + 1) := by
   unfold mixD
   rw [if_pos rfl, hd (a + 1) a (by omega) (by omega) (by omega)]
   omega
  rw [e] at this
  exact this
def nD (D : Nat → Nat → Int) : Nat → Nat
 | 0 => 0
 | m + 1 => nD D m + Nat.log2 (pr D 0 (m + 1)).natAbs
theorem log_dvd {a b : Nat} (h : a ∣ b) (hb : 0 < b) : Nat.log2 a ≤ Nat.log2 b ∧ (a ≠ b → Nat.log2 a < Nat.log2 b) := by
 obtain ⟨q, rfl⟩ := h
 have ha : 0 < a := Nat.pos_of_mul_pos_right hb
 have hq : 0 < q := Nat.pos_of_mul_pos_left hb
 have e : 2 ^ Nat.log2 a ≤ a := Nat.log2_self_le (by omega)
 refine ⟨(Nat.le_log2 (by omega)).2 (Nat.le_trans e (Nat.le_mul_of_pos_right a hq)), fun hne => ?_⟩
 have hq2 : 2 ≤ q := by
  rcases Nat.lt_or_ge q 2 with h1 | h1
  ·have : q = 1 := by omega
   subst this; simp at hne
  ·exact h1
 refine (Nat.le_log2 (by omega)).2 ?_
 rw [Nat.pow_succ]
 exact Nat.mul_le_mul e hq2
theorem nD_le {D E : Nat → Nat → Int} {k : Nat} (h : ∀ m, m ≤ k → pr E 0 m ∣ pr D 0 m) (hp : ∀ m, m ≤ k → 0 < pr D 0 m) (hq : ∀ m, m ≤ k → 0 < pr E 0 m) : ∀ m, m ≤ k → nD E m ≤ nD D m ∧ (nD E m = nD D m → ∀ t, t ≤ m → pr E 0 t = pr D 0 t) := by
 intro m
 induction m with
 | zero => intro _; exact ⟨Nat.le_refl _, fun _ t ht => by rw [show t = 0 from by omega]; rfl⟩
 | succ m ih =>
   intro hm
   obtain ⟨i1, i2⟩ := ih (by omega)
   have h1 := h (m + 1) hm
   have h2 := hp (m + 1) hm
   have h3 := hq (m + 1) hm
   obtain ⟨l1, l2⟩ := log_dvd (Int.natAbs_dvd_natAbs.2 h1) (by omega)
   rw [nD, nD]
   refine ⟨by omega, fun he t ht => ?_⟩
   by_cases htm : t = m + 1
   ·subst htm
    rcases Decidable.em ((pr E 0 (m + 1)).natAbs = (pr D 0 (m + 1)).natAbs) with e | e
    ·omega
    ·have := l2 e; omega
   ·exact i2 (by omega) t (by omega)
theorem nD_bound {D : Nat → Nat → Int} {k B : Nat} (h : ∀ m, m ≤ k → (pr D 0 m).natAbs < 2 ^ B) (hp : ∀ m, m ≤ k → 0 < pr D 0 m) : ∀ m, m ≤ k → nD D m ≤ m * B := by
 intro m
 induction m with
 | zero => intro _; exact Nat.zero_le _
 | succ m ih =>
   intro hm
   have h1 := ih (by omega)
   have h2 := (Nat.log2_lt (by have := hp (m + 1) hm; omega)).2 (h (m + 1) hm)
   rw [nD, Nat.succ_mul]
   omega
theorem pr_mono {X : Nat → Nat → Int} {k : Nat} (hp : ∀ i, i < k → 0 < X i i) : ∀ n m, m + n ≤ k → pr X 0 m ≤ pr X 0 (m + n) := by
 intro n
 induction n with
 | zero => intro m _; exact Int.le_refl _
 | succ n ih =>
   intro m hm
   have h1 := ih m (by omega)
   have h2 : 0 < pr X 0 (m + n) := pr_pos (m + n) 0 (fun i _ hi => hp i (by omega))
   have h3 := hp (m + n) (by omega)
   rw [← Nat.add_assoc, pr_succ, Nat.zero_add]
   have : pr X 0 (m + n) * 1 ≤ pr X 0 (m + n) * X (m + n) (m + n) := Int.mul_le_mul_of_nonneg_left (by omega) (by omega)
   omega
theorem diag_le {X : Nat → Nat → Int} {k i : Nat} (hp : ∀ i, i < k → 0 < X i i) (hi : i < k) : X i i ≤ pr X 0 k := by
 have h1 := pr_mono hp (k - (i + 1)) (i + 1) (by omega)
 rw [show i + 1 + (k - (i + 1)) = k from by omega, pr_succ, Nat.zero_add] at h1
 have h2 : 0 < pr X 0 i := pr_pos i 0 (fun j _ hj => hp j (by omega))
 have h3 := hp i hi
 have : 1 * X i i ≤ pr X 0 i * X i i := Int.mul_le_mul_of_nonneg_right (by omega) (by omega)
 omega
def mm (n : Nat) (X Y : Nat → Nat → Int) : Nat → Nat → Int := fun i j => dot X Y i j n
theorem sm_mulr (f : Nat → Int) (z : Int) (n : Nat) : sm f n * z = sm (fun k => f k * z) n := by
 induction n with
 | zero => simp [sm]
 | succ n ih => rw [sm, sm, Int.add_mul, ih]
theorem sm_add (f g : Nat → Int) (n : Nat) : sm f n + sm g n = sm (fun k => f k + g k) n := by
 induction n with
 | zero => rfl
 | succ n ih => rw [sm, sm, sm, ← ih]; omega
theorem sm_swap (f : Nat → Nat → Int) (m : Nat) : ∀ n, sm (fun k => sm (fun l => f k l) m) n = sm (fun l => sm (fun k => f k l) n) m := by
 intro n
 induction n with
 | zero => simp only [sm]; rw [sm_zero m (fun _ _ => rfl)]
 | succ n ih =>
   rw [sm, ih, sm_add]
   exact sm_congr m (fun l _ => by rw [sm])
theorem mm_assoc (m n : Nat) (X Y Z : Nat → Nat → Int) : mm m (mm n X Y) Z = mm n X (mm m Y Z) := by
 funext i j
 show dot (mm n X Y) Z i j m = dot X (mm m Y Z) i j n
 rw [dot_sm, dot_sm]
 have e1 : sm (fun k => mm n X Y i k * Z k j) m = sm (fun k => sm (fun l => X i l * Y l k * Z k j) n) m := sm_congr m (fun k _ => by
  show dot X Y i k n * Z k j = _
  rw [dot_sm, sm_mulr])
 rw [e1, sm_swap]
 refine sm_congr n (fun l _ => ?_)
 show _ = X i l * dot Y Z l j m
 rw [dot_sm, Int.mul_comm, sm_mulr]
 exact sm_congr m (fun k _ => by grind)
theorem mm_tr (n : Nat) (X Y : Nat → Nat → Int) : tr (mm n X Y) = mm n (tr Y) (tr X) := by
 funext i j
 show dot X Y j i n = dot (tr Y) (tr X) i j n
 rw [dot_sm, dot_sm]
 exact sm_congr n (fun k _ => Int.mul_comm _ _)
theorem mm_congr {n : Nat} {X Y X' Y' : Nat → Nat → Int} {i j : Nat} (h1 : ∀ k, k < n → X i k = X' i k) (h2 : ∀ k, k < n → Y k j = Y' k j) : mm n X Y i j = mm n X' Y' i j := dot_congr n h1 h2
theorem mm_one {n : Nat} {X : Nat → Nat → Int} {i j : Nat} (hi : i < n) : mm n kd X i j = X i j := by
 show dot kd X i j n = X i j
 rw [dot_sm, sm_one n i hi (fun k _ hne => by unfold kd; rw [if_neg (fun e => hne e.symm)]; simp)]
 unfold kd; rw [if_pos rfl]; simp
theorem mm_one' {n : Nat} {X : Nat → Nat → Int} {i j : Nat} (hj : j < n) : mm n X kd i j = X i j := by
 show dot X kd i j n = X i j
 rw [dot_sm, sm_one n j hj (fun k _ hne => by unfold kd; rw [if_neg hne]; simp)]
 unfold kd; rw [if_pos rfl]; simp
structure DInv (A D U S V T : Nat → Nat → Int) (r c : Nat) : Prop where
 d : ∀ i j, i < r → j < c → mm c (mm r U A) V i j = D i j
 us : ∀ i j, i < r → j < r → mm r U S i j = kd i j
 vt : ∀ i j, i < c → j < c → mm c V T i j = kd i j
theorem DInv.start (A : Nat → Nat → Int) (r c : Nat) : DInv A A kd kd kd kd r c :=
 ⟨fun i j hi hj => by rw [mm_one' hj, mm_one hi], fun i j hi _ => mm_one hi, fun i j hi _ => mm_one hi⟩
theorem DInv.rows {A D U S V T H U' W' : Nat → Nat → Int} {r c : Nat} (h : DInv A D U S V T r c) (hE : EInv D H U' W' r c) : DInv A H (mm r U' U) (mm r S W') V T r c := by
 refine ⟨fun i j hi hj => ?_, fun i j hi hj => ?_, h.vt⟩
 ·rw [mm_assoc r r, mm_assoc c r, ← hE.ua i j hi hj]
  exact mm_congr (fun _ _ => rfl) (fun k hk => h.d k j hk hj)
 ·rw [mm_assoc r r, ← hE.uw i j hi hj]
  refine mm_congr (fun _ _ => rfl) (fun k hk => ?_)
  rw [← mm_assoc r r]
  exact (mm_congr (fun l hl => h.us k l hk hl) (fun _ _ => rfl)).trans (mm_one hk)
theorem DInv.cols {A D U S V T E U' W' : Nat → Nat → Int} {r c : Nat} (h : DInv A D U S V T r c) (hE : EInv (tr D) E U' W' c r) : DInv A (tr E) U S (mm c V (tr U')) (mm c (tr W') T) r c := by
 refine ⟨fun i j hi hj => ?_, h.us, fun i j hi hj => ?_⟩
 ·rw [← mm_assoc c c]
  have e1 : mm c (mm c (mm r U A) V) (tr U') i j = mm c D (tr U') i j := mm_congr (fun k hk => h.d i k hi hk) (fun _ _ => rfl)
  rw [e1]
  show mm c D (tr U') i j = E j i
  rw [← hE.ua j i hj hi]
  have := congrFun (congrFun (mm_tr c U' (tr D)) i) j
  exact this.symm
 ·rw [mm_assoc c c, ← mm_assoc c c (tr U')]
  have e1 : ∀ k, k < c → mm c (mm c (tr U') (tr W')) T k j = T k j := fun k hk => by
   rw [← mm_tr]
   refine (mm_congr (X' := kd) (fun l hl => ?_) (fun _ _ => rfl)).trans (mm_one hk)
   have := hE.wu l k hl hk
   show mm c W' U' l k = kd k l
   rw [show mm c W' U' l k = dot W' U' l k c from rfl, this]
   unfold kd
   by_cases h : l = k
   ·rw [if_pos h, if_pos h.symm]
   ·rw [if_neg h, if_neg (fun e => h e.symm)]
  exact (mm_congr (fun _ _ => rfl) e1).trans (h.vt i j hi hj)
def mixT (T : Nat → Nat → Int) (a : Nat) : Nat → Nat → Int := fun i j => if i = a + 1 then T (a + 1) j - T a j else T i j
theorem mm_mixD (n a : Nat) (X Y : Nat → Nat → Int) : mm n X (mixD Y a) = mixD (mm n X Y) a := by
 funext i j
 unfold mixD
 show dot X (fun i j => if j = a then Y i a + Y i (a + 1) else Y i j) i j n = if j = a then dot X Y i a n + dot X Y i (a + 1) n else dot X Y i j n
 by_cases h : j = a
 ·rw [if_pos h, dot_sm, dot_sm, dot_sm, sm_add]
  exact sm_congr n (fun k _ => by rw [if_pos h]; grind)
 ·rw [if_neg h, dot_sm, dot_sm]
  exact sm_congr n (fun k _ => by rw [if_neg h])
theorem mix_back {n a : Nat} (V T : Nat → Nat → Int) (ha : a + 1 < n) (i j : Nat) : mm n (mixD V a) (mixT T a) i j = mm n V T i j := by
 show dot (mixD V a) (mixT T a) i j n = dot V T i j n
 rw [dot_sm, dot_sm]
 refine sm_two (a := a) (b := a + 1) (by omega) ha (by omega) (fun k hk h1 h2 => ?_) ?_
 ·unfold mixD mixT; rw [if_neg h1, if_neg h2]
 ·unfold mixD mixT
  rw [if_pos rfl, if_neg (show ¬ a = a + 1 by omega), if_neg (show ¬ a + 1 = a by omega), if_pos rfl]
  grind
theorem DInv.mix {A D U S V T : Nat → Nat → Int} {r c a : Nat} (h : DInv A D U S V T r c) (ha : a + 1 < c) : DInv A (mixD D a) U S (mixD V a) (mixT T a) r c := by
 refine ⟨fun i j hi hj => ?_, h.us, fun i j hi hj => by rw [mix_back V T ha]; exact h.vt i j hi hj⟩
 rw [mm_mixD]
 unfold mixD
 by_cases he : j = a
 ·rw [if_pos he, if_pos he, h.d i a hi (by omega), h.d i (a + 1) hi ha]
 ·rw [if_neg he, if_neg he, h.d i j hi hj]
theorem div_einv {A H U W : Nat → Nat → Int} {r c m : Nat} (h : EInv A H U W r c) (hm : m ≤ 4) : divF H r c m = divF A r c m :=
 div_same (fun i hi => ⟨U i, fun j hj => by rw [← h.ua i j hi hj, dot_sm]⟩) (fun i hi => ⟨W i, fun j hj => by rw [← h.wh i j hi hj, dot_sm]⟩) hm
open Go.RowKit
theorem sumF_le (f : Nat → Int) (M : Nat) : ∀ k, (∀ i, i < k → (f i).natAbs ≤ M) → (sumF k f).natAbs ≤ k * M := by
 intro k
 induction k with
 | zero => intro _; simp [sumF]
 | succ k ih =>
   intro h
   rw [sumF, Nat.succ_mul]
   have h1 := ih (fun i hi => h i (by omega))
   have h2 := h k (by omega)
   omega
def fct : Nat → Nat
 | 0 => 1
 | n + 1 => (n + 1) * fct n
theorem mv_bound (B : Nat) : ∀ (vs : List (Nat → Int)) (C : List Nat), C.length = vs.length → (∀ v ∈ vs, ∀ x ∈ C, (v x).natAbs ≤ B) → (mv vs C).natAbs ≤ fct vs.length * B ^ vs.length := by
 intro vs
 induction vs with
 | nil => intro C _ _; simp [mv, fct]
 | cons v vs ih =>
   intro C hC h
   rw [mv]
   have hl : C.length = vs.length + 1 := by simpa using hC
   have key := sumF_le (fun k => signed k (v (C.getD k 0) * mv vs (C.eraseIdx k))) (B * (fct vs.length * B ^ vs.length)) C.length (fun k hk => ?_)
   ·refine Nat.le_trans key ?_
    rw [hl, List.length_cons, fct, Nat.pow_succ]
    refine Nat.le_of_eq ?_
    rw [Nat.mul_assoc, Nat.mul_comm B, Nat.mul_assoc]
   ·have hx : C.getD k 0 ∈ C := by
     rw [List.getD, List.getElem?_eq_getElem hk]
     exact List.getElem_mem _
    have h1 := h v (by simp) _ hx
    have h2 := ih (C.eraseIdx k) (by rw [List.length_eraseIdx_of_lt hk]; omega) (fun u hu x hx => h u (by simp [hu]) x (List.mem_of_mem_eraseIdx hx))
    have h3 : (signed k (v (C.getD k 0) * mv vs (C.eraseIdx k))).natAbs = (v (C.getD k 0)).natAbs * (mv vs (C.eraseIdx k)).natAbs := by
     unfold signed
     split
     ·rw [Int.natAbs_neg, Int.natAbs_mul]
     ·rw [Int.natAbs_mul]
    rw [h3]
    exact Nat.mul_le_mul h1 h2
theorem div_bound {A : Nat → Nat → Int} {r c k B : Nat} (hk : k ≤ 4) (hA : ∀ i j, i < r → j < c → (A i j).natAbs ≤ B) (h0 : divF A r c k ≠ 0) : divF A r c k ≤ fct k * B ^ k := by
 have h1 : ¬ AllV A r c k := fun h => h0 ((all_div A r c k hk).2 h)
 have h2 : ∃ R : List Nat, R.length = k ∧ (∀ x ∈ R, x < r) ∧ ∃ C ∈ chosenL k c, mv (R.map A) C ≠ 0 := by
  refine Classical.byContradiction fun hn => h1 fun R hR hx C hC => Classical.byContradiction fun hm => hn ⟨R, hR, hx, C, hC, hm⟩
 obtain ⟨R, hR, hx, C, hC, hm⟩ := h2
 obtain ⟨hCl, hCx⟩ := chosenL_mem k c C hC
 have h3 := (div_dvd (divF A r c k) A r c k hk).1 (Nat.dvd_refl _) C hC R (by rw [hR, hCl]) hx
 have h4 : divF A r c k ∣ (mv (R.map A) C).natAbs := by
  have := Int.natAbs_dvd_natAbs.2 h3
  simpa using this
 have h5 := Nat.le_of_dvd (by omega) h4
 have h6 := mv_bound B (R.map A) C (by rw [List.length_map, hCl, hR]) (fun v hv x hx' => by
  obtain ⟨i, hi, rfl⟩ := List.mem_map.1 hv
  exact hA i x (hx i hi) (hCx x hx'))
 rw [List.length_map, hR] at h6
 omega
theorem fct4 {k : Nat} (hk : k ≤ 4) {B : Nat} (hB : B ≤ 2 ^ 48) : fct k * B ^ k < 2 ^ 197 := by
 have h1 : B ^ k ≤ (2 ^ 48) ^ k := Nat.pow_le_pow_left hB k
 have h2 : fct k * (2 ^ 48) ^ k < 2 ^ 197 := by
  obtain rfl | rfl | rfl | rfl | rfl : k = 0 ∨ k = 1 ∨ k = 2 ∨ k = 3 ∨ k = 4 := by omega
  all_goals decide
 exact Nat.lt_of_le_of_lt (Nat.mul_le_mul_left _ h1) h2
theorem DInv.congr {A D U S V T D' U' S' V' T' : Nat → Nat → Int} {r c : Nat} (h : DInv A D U S V T r c) (hD : ∀ i j, i < r → j < c → D' i j = D i j) (hU : ∀ i j, i < r → j < r → U' i j = U i j) (hS : ∀ i j, i < r → j < r → S' i j = S i j) (hV : ∀ i j, i < c → j < c → V' i j = V i j) (hT : ∀ i j, i < c → j < c → T' i j = T i j) : DInv A D' U' S' V' T' r c := by
 refine ⟨fun i j hi hj => ?_, fun i j hi hj => ?_, fun i j hi hj => ?_⟩
 ·rw [hD i j hi hj, ← h.d i j hi hj]
  exact mm_congr (fun k _ => mm_congr (fun l hl => hU i l hi hl) (fun _ _ => rfl)) (fun k hk => hV k j hk hj)
 ·rw [← h.us i j hi hj]
  exact mm_congr (fun k hk => hU i k hi hk) (fun k hk => hS k j hk hj)
 ·rw [← h.vt i j hi hj]
  exact mm_congr (fun k hk => hV i k hi hk) (fun k hk => hT k j hk hj)
theorem LowT.congr {r c k : Nat} {D D' : Nat → Nat → Int} (h : LowT r c k D) (hD : ∀ i j, i < r → j < c → D' i j = D i j) : LowT r c k D' := by
 have h1 := h.kr
 have h2 := h.kc
 exact ⟨h.kr, h.kc, fun i j hi hj hij => by rw [hD i j hi hj]; exact h.up i j hi hj hij, fun i j hi hj hk => by rw [hD i j hi hj]; exact h.out i j hi hj hk, fun i hi => by rw [hD i i (by omega) (by omega)]; exact h.pos i hi⟩
theorem pr_congr {D D' : Nat → Nat → Int} : ∀ n o, (∀ i, o ≤ i → i < o + n → D' i i = D i i) → pr D' o n = pr D o n := by
 intro n
 induction n with
 | zero => intro o _; rfl
 | succ n ih =>
   intro o h
   rw [pr, pr, h o (by omega) (by omega), ih (o + 1) (fun i a b => h i (by omega) (by omega))]
end Go.Proofs.YtfjbijpagaipnabDoor.R
namespace Go.Proofs.YtfjbijpagaipnabDoor
open Go.RowKit R
theorem FlipOf.uniq {r c : Nat} {zs ms ms' : List Int} (h : FlipOf r c zs ms) (h' : FlipOf r c zs ms') : ms = ms' :=
 list_ent h.1 h'.1 fun i j hi hj => (h.2 i j hi hj).trans (h'.2 i j hi hj).symm
structure D5 where
 d : List Int
 u : List Int
 s : List Int
 v : List Int
 t : List Int
def DiagP (r c : Nat) (ds : List Int) : Prop := ∀ i j, i < r → j < c → i ≠ j → ent c ds i j = 0
def AllDiv (r c : Nat) (ds : List Int) : Prop := ∀ i, i + 1 < r → i + 1 < c → ent c ds i i ∣ ent c ds (i + 1) (i + 1)
def D5.rnd (r c : Nat) (x y : D5) : Prop := ∃ d1, RowsTo r c x.d x.u x.s d1 y.u y.s ∧ ColsTo r c d1 x.v x.t y.d y.v y.t
def D5.mixd (r c : Nat) (x y : D5) : Prop := ∃ a, OddAt r c a x.d ∧ MixTo r c a x.d x.v x.t y.d y.v y.t ∧ y.u = x.u ∧ y.s = x.s
def D5.runN (r c : Nat) : Nat → D5 → D5 → Prop
  | 0, _, _ => False
  | n + 1, x, z => ∃ y, D5.rnd r c x y ∧ ((DiagP r c y.d ∧ AllDiv r c y.d ∧ y = z) ∨ (¬ DiagP r c y.d ∧ D5.runN r c n y z) ∨ (DiagP r c y.d ∧ ∃ m, D5.mixd r c y m ∧ D5.runN r c n m z))
def D5.run (r c : Nat) (x y : D5) : Prop := ∃ n, D5.runN r c n x y
theorem D5.run.stop {r c : Nat} {x y : D5} (a : D5.rnd r c x y) (b : DiagP r c y.d) (d : AllDiv r c y.d) : D5.run r c x y := ⟨1, y, a, .inl ⟨b, d, rfl⟩⟩
theorem D5.run.more {r c : Nat} {x y z : D5} (a : D5.rnd r c x y) (n : ¬ DiagP r c y.d) (g : D5.run r c y z) : D5.run r c x z := g.elim fun k g => ⟨k + 1, y, a, .inr (.inl ⟨n, g⟩)⟩
theorem D5.run.mix {r c : Nat} {x y m z : D5} (a : D5.rnd r c x y) (b : DiagP r c y.d) (h : D5.mixd r c y m) (g : D5.run r c m z) : D5.run r c x z := g.elim fun k g => ⟨k + 1, y, a, .inr (.inr ⟨b, m, h, g⟩)⟩
end Go.Proofs.YtfjbijpagaipnabDoor
