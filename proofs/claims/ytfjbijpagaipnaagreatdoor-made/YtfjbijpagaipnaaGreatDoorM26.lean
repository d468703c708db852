import Derived.Test.YtfjbijpagaipnaaGreatDoorM25
import Derived.Test.YtfjbijpagaipnaaGreatDoorM22
namespace Go.Proofs.YtfjbijpagaipnaaGreatDoor.R
theorem chosen_in {k n : Nat} {R : List Nat} (hR : R ∈ chosenL k n) (h : ∀ x ∈ R, x < k) : R = List.range k := by
 have : R ∈ chosenL k k := by
  cases k with
  | zero => exact hR
  | succ k =>
    obtain ⟨Q, last, e, hQ, hl1, hl2⟩ := chosenL_last hR
    have : last = k := by have := h last (by rw [e]; simp); omega
    subst this
    rw [e]
    exact chosenL_snoc hQ (by omega)
 rw [chosenL_self, List.mem_singleton] at this
 exact this
def tr (X : Nat → Nat → Int) : Nat → Nat → Int := fun i j => X j i
theorem mv_tr (X : Nat → Nat → Int) (R C : List Nat) (hl : R.length = C.length) (h4 : R.length ≤ 4) : mv (R.map (tr X)) C = mv (C.map X) R := by
 match R, C, hl, h4 with
 | [], [], _, _ => rfl
 | [a], [x], _, _ => simp [mv, sumF, signed, tr]
 | [a, b], [x, y], _, _ => simp [mv, sumF, signed, tr]; grind
 | [a, b, c], [x, y, z], _, _ => simp [mv, sumF, signed, tr]; grind
 | [a, b, c, d], [x, y, z, u], _, _ => simp [mv, sumF, signed, tr]; grind
theorem chosenL_any {m n : Nat} {d : Int} {f : Nat → Nat → Int} {r : Nat} (hm : m ≤ 4) (h : ∀ C ∈ chosenL m n, AllD d f r C) {R C : List Nat} (hR : R.length = m) (hr : ∀ x ∈ R, x < r) (hC : C.length = m) (hc : ∀ x ∈ C, x < n) : d ∣ mv (R.map f) C := by
 have := rise_all d (tr f) R (by omega) m n [] (by simp [hR]) (fun C' hC' => by
  have h1 := chosenL_lt hC'
  rw [List.append_nil, mv_tr f C' R (by omega) (by omega)]
  exact h C' hC' R (by omega) hr) C hC hc
 rw [List.append_nil, mv_tr f C R (by omega) (by omega)] at this
 exact this
theorem div_tr (f : Nat → Nat → Int) (r c m : Nat) (hm : m ≤ 4) : divF (tr f) c r m = divF f r c m := by
 have key : ∀ (f : Nat → Nat → Int) (r c : Nat), divF f r c m ∣ divF (tr f) c r m := fun f r c => by
  rw [div_dvd _ (tr f) c r m hm]
  intro C hC R hR hRc
  have h1 := chosenL_lt hC
  rw [mv_tr f R C hR (by omega)]
  exact chosenL_any hm ((div_dvd _ f r c m hm).1 (Nat.dvd_refl _)) h1.1 h1.2 (by omega) hRc
 exact Nat.dvd_antisymm (key (tr f) c r) (key f r c)
def pr (X : Nat → Nat → Int) (o : Nat) : Nat → Int
 | 0 => 1
 | n + 1 => X o o * pr X (o + 1) n
theorem pr_succ (X : Nat → Nat → Int) : ∀ n o, pr X o (n + 1) = pr X o n * X (o + n) (o + n) := by
 intro n
 induction n with
 | zero => intro o; simp [pr]
 | succ n ih =>
   intro o
   rw [pr, ih (o + 1), pr, show o + 1 + n = o + (n + 1) from by omega, Int.mul_assoc]
theorem pr_tr (X : Nat → Nat → Int) : ∀ n o, pr (tr X) o n = pr X o n := by
 intro n
 induction n with
 | zero => intro o; rfl
 | succ n ih => intro o; rw [pr, pr, ih]; rfl
theorem mv_up {X : Nat → Nat → Int} : ∀ n o, (∀ i j, j < i → i < o + n → X i j = 0) → mv ((List.range' o n).map X) (List.range' o n) = pr X o n := by
 intro n
 induction n with
 | zero => intro o _; simp [mv, pr]
 | succ n ih =>
   intro o hX
   rw [List.range'_succ, List.map_cons, mv, List.length_cons, sumF_one _ _ (fun k hk0 hk => ?_)]
   ·have e : signed 0 (X o ((o :: List.range' (o + 1) n).getD 0 0) * mv ((List.range' (o + 1) n).map X) ((o :: List.range' (o + 1) n).eraseIdx 0)) = X o o * mv ((List.range' (o + 1) n).map X) (List.range' (o + 1) n) := by simp [signed]
    rw [e, ih (o + 1) (fun i j h1 h2 => hX i j h1 (by omega)), pr]
   ·have hz : mv ((List.range' (o + 1) n).map X) ((o :: List.range' (o + 1) n).eraseIdx k) = 0 := by
     refine mv_zero_col o _ _ (fun v hv => ?_) ?_ ?_
     ·obtain ⟨a, ha, rfl⟩ := List.mem_map.1 hv
      have ha' := List.mem_range'_1.1 ha
      exact hX a o (by omega) (by omega)
     ·match k, hk0 with
      | k + 1, _ => simp
     ·rw [List.length_eraseIdx, if_pos (by simpa using hk)]
      simp
    rw [hz]
    unfold signed; split <;> simp
theorem pr_ne {X : Nat → Nat → Int} : ∀ n o, pr X o n ≠ 0 → ∀ i, o ≤ i → i < o + n → X i i ≠ 0 := by
 intro n
 induction n with
 | zero => intro o _ i h1 h2; omega
 | succ n ih =>
   intro o h i h1 h2
   rw [pr] at h
   by_cases hio : i = o
   ·subst hio; intro h0; rw [h0] at h; simp at h
   ·exact ih (o + 1) (fun h0 => h (by rw [h0]; simp)) i (by omega) (by omega)
theorem pr_pos {X : Nat → Nat → Int} : ∀ n o, (∀ i, o ≤ i → i < o + n → 0 < X i i) → 0 < pr X o n := by
 intro n
 induction n with
 | zero => intro o _; simp [pr]
 | succ n ih => intro o h; rw [pr]; exact Int.mul_pos (h o (by omega) (by omega)) (ih (o + 1) (fun i h1 h2 => h i (by omega) (by omega)))
theorem EchSt.low {r c k : Nat} {pc : Nat → Nat} {H : Nat → Nat → Int} (h : EchSt r c k pc H) : ∀ i j, j < i → i < r → j < c → H i j = 0 := by
 intro i j h1 h2 h3
 rcases Nat.lt_or_ge i k with hk | hk
 ·have key : ∀ b, b < k → b ≤ pc b := by
   intro b
   induction b with
   | zero => intro _; omega
   | succ b ih => intro hb; have h1 := ih (by omega); have h2 := h.up b (b + 1) (by omega) hb; omega
  exact h.left i hk j (by have := key i hk; omega)
 ·exact h.rest i hk h2 j h3
theorem up_all {X : Nat → Nat → Int} {r m : Nat} (hm : m ≤ 4) (hmr : m ≤ r) (hX : ∀ i j, j < i → i < r → j < m → X i j = 0) : AllD (pr X 0 m) X r (List.range m) := by
 intro R hR hr
 have := rise_all (pr X 0 m) X (List.range m) (by simpa using hm) m r [] (by simp) (fun R' hR' => by
  rw [List.append_nil]
  obtain ⟨h1, h2⟩ := chosenL_lt hR'
  by_cases hall : ∀ x ∈ R', x < m
  ·have := chosen_in hR' hall
   rw [this, List.range_eq_range', mv_up m 0 (fun i j a b => hX i j a (by omega) (by omega))]
   exact Int.dvd_refl _
  ·have hex : ∃ x, x ∈ R' ∧ m ≤ x := Classical.byContradiction (fun hn => hall (fun x hx => Nat.lt_of_not_le (fun hle => hn ⟨x, hx, hle⟩)))
   obtain ⟨x, hx, hle⟩ := hex
   obtain ⟨xs, ys, he⟩ := List.append_of_mem hx
   have hlen : xs.length + ys.length + 1 = m := by have := congrArg List.length he; simp at this; omega
   rw [he, List.map_append, List.map_cons, mv_zero_row (X x) (ys.map X) (xs.map X) (List.range m) (fun j hj => hX x j (by have := List.mem_range.1 hj; omega) (h2 x hx) (List.mem_range.1 hj)) (by simp; omega)]
   exact Int.dvd_zero _) R (by simpa using hR) hr
 simpa using this
theorem form_diag {r c k k' : Nat} {pc : Nat → Nat} {D H U W : Nat → Nat → Int} (h : EchSt r c k' pc H) (hE : EInv D H U W r c) (hkc : k ≤ c) (hk4 : k ≤ 4) (hz : ∀ i j, i < r → k ≤ j → j < c → D i j = 0)
 (hR : ∀ m, m ≤ k → ∃ R : List Nat, R.length = m ∧ (∀ x ∈ R, x < r) ∧ mv (R.map D) (List.range m) ≠ 0) :
 k' = k ∧ (∀ b, b < k → pc b = b) ∧ (∀ i j, i < r → k ≤ j → j < c → H i j = 0) ∧ ∀ m, m ≤ k → ∀ R : List Nat, R.length = m → (∀ x ∈ R, x < r) → pr H 0 m ∣ mv (R.map D) (List.range m) := by
 have hHz : ∀ i j, i < r → k ≤ j → j < c → H i j = 0 := fun i j hi h1 h2 => by
  rw [← hE.ua i j hi h2, dot_sm]
  exact sm_zero r (fun l hl => by rw [hz l j hl h1 h2, Int.mul_zero])
 have hle := h.le
 have hpk : ∀ b, b < k' → pc b < k := fun b hb => by
  rcases Nat.lt_or_ge (pc b) k with h1 | h1
  ·exact h1
  ·have h2 := h.piv b hb
   rw [hHz b (pc b) (by omega) h1 (h.col b hb)] at h2
   omega
 have hge : ∀ b, b < k' → b ≤ pc b := by
  intro b
  induction b with
  | zero => intro _; omega
  | succ b ih => intro hb; have h1 := ih (by omega); have h2 := h.up b (b + 1) (by omega) hb; omega
 have hkk : k' ≤ k := by
  rcases Nat.eq_zero_or_pos k' with h0 | h0
  ·omega
  ·have h1 := hpk (k' - 1) (by omega)
   have h2 := hge (k' - 1) (by omega)
   omega
 have hdv : ∀ m, m ≤ k → m ≤ r → ∀ R : List Nat, R.length = m → (∀ x ∈ R, x < r) → pr H 0 m ∣ mv (R.map D) (List.range m) := fun m hm hmr R hRl hRr => by
  have h1 := up_all (X := H) (by omega) hmr (fun i j a b e => EchSt.low h i j a b (by omega))
  have h2 := allD_comb h1 (fun i hi => comb_of_dot (c := c) (fun x hx => by have := List.mem_range.1 hx; omega) (fun j hj => hE.wh i j hi hj))
  exact h2 R (by simpa using hRl) hRr
 have hkr : k ≤ r := by
  obtain ⟨R, h1, h2, h3⟩ := hR k (Nat.le_refl _)
  rcases Nat.lt_or_ge r k with h4 | h4
  ·exfalso
   have : (0 : Int) ∣ mv (R.map D) (List.range k) := by
    have := rise_all 0 D (List.range k) (by simpa using hk4) k r [] (by simp) (fun R' hR' => by rw [chosenL_none h4] at hR'; simp at hR') R h1 h2
    simpa using this
   exact h3 (Int.zero_dvd.1 this)
  ·exact h4
 have hne : ∀ i, i < k → H i i ≠ 0 := fun i hi => by
  obtain ⟨R, h1, h2, h3⟩ := hR k (Nat.le_refl _)
  have h4 := hdv k (Nat.le_refl _) hkr R h1 h2
  exact pr_ne k 0 (fun h0 => h3 (by rw [h0] at h4; exact Int.zero_dvd.1 h4)) i (by omega) (by omega)
 have hk' : k' = k := by
  rcases Nat.lt_or_ge k' k with h1 | h1
  ·exact absurd (h.rest k' (Nat.le_refl _) (by omega) k' (by omega)) (hne k' h1)
  ·omega
 subst hk'
 refine ⟨rfl, fun b hb => ?_, hHz, fun m hm => hdv m hm (by omega)⟩
 have h1 := hge b hb
 rcases Nat.lt_or_ge b (pc b) with h2 | h2
 ·exact absurd (h.left b hb b h2) (hne b hb)
 ·omega
structure LowT (r c k : Nat) (D : Nat → Nat → Int) : Prop where
 kr : k ≤ r
 kc : k ≤ c
 up : ∀ i j, i < r → j < c → i < j → D i j = 0
 out : ∀ i j, i < r → j < c → (k ≤ i ∨ k ≤ j) → D i j = 0
 pos : ∀ i, i < k → 0 < D i i
theorem low_minor {r c k m : Nat} {D : Nat → Nat → Int} (h : LowT r c k D) (hm : m ≤ k) (h4 : k ≤ 4) : mv ((List.range m).map D) (List.range m) = pr D 0 m := by
 have h1 := mv_tr (tr D) (List.range m) (List.range m) rfl (by simp; omega)
 have h2 : tr (tr D) = D := rfl
 rw [h2] at h1
 have hkr := h.kr
 have hkc := h.kc
 rw [h1, List.range_eq_range', mv_up (X := tr D) m 0 (fun i j a b => h.up j i (by omega) (by omega) a), pr_tr]
theorem LowT.pr_pos {r c k m : Nat} {D : Nat → Nat → Int} (h : LowT r c k D) (hm : m ≤ k) : 0 < pr D 0 m := R.pr_pos m 0 (fun i _ hi => h.pos i (by omega))
structure FormT (r c k : Nat) (D H : Nat → Nat → Int) : Prop where
 low : LowT c r k (tr H)
 red : ∀ i b, i < b → b < k → 0 ≤ H i b ∧ H i b < H b b
 dvd : ∀ m, m ≤ k → pr H 0 m ∣ pr D 0 m
theorem form_low {r c k : Nat} {pc : Nat → Nat} {H : Nat → Nat → Int} (h : EchSt r c k pc H) (hz : ∀ i j, i < r → k ≤ j → j < c → H i j = 0) (hp : ∀ b, b < k → pc b = b) (hkc : k ≤ c) : LowT c r k (tr H) ∧ ∀ i b, i < b → b < k → 0 ≤ H i b ∧ H i b < H b b := by
 refine ⟨⟨hkc, h.le, fun i j hi hj hij => EchSt.low h j i hij hj hi, fun i j hi hj hk => ?_, fun i hi => ?_⟩, fun i b hib hb => ?_⟩
 ·rcases hk with hk | hk
  ·exact hz j i hj hk hi
  ·exact h.rest j hk hj i hi
 ·have := h.piv i hi
  rw [hp i hi] at this
  exact this
 ·have := h.above b hb i hib
  rw [hp b hb] at this
  exact this
theorem form_step {r c k k' : Nat} {pc : Nat → Nat} {D H U W : Nat → Nat → Int} (hD : LowT r c k D) (h4 : k ≤ 4) (h : EchSt r c k' pc H) (hE : EInv D H U W r c) : k' = k ∧ (∀ b, b < k → pc b = b) ∧ FormT r c k D H := by
 have hkr := hD.kr
 obtain ⟨rfl, h2, h3, h5⟩ := form_diag h hE hD.kc h4 (fun i j hi hk hj => hD.out i j hi hj (.inr hk)) (fun m hm => ⟨List.range m, by simp, fun x hx => by have := List.mem_range.1 hx; omega, by
  rw [low_minor hD hm h4]; have := hD.pr_pos hm; omega⟩)
 obtain ⟨a1, a2⟩ := form_low h h3 h2 hD.kc
 refine ⟨rfl, h2, a1, a2, fun m hm => ?_⟩
 have := h5 m hm (List.range m) (by simp) (fun x hx => by have := List.mem_range.1 hx; omega)
 rw [low_minor hD hm h4] at this
 exact this
theorem form_first {r c k k' : Nat} {pc pc' : Nat → Nat} {H E U W : Nat → Nat → Int} (h : EchSt r c k pc H) (h4 : k ≤ 4) (h' : EchSt c r k' pc' E) (hE : EInv (tr H) E U W c r) : k' = k ∧ (∀ b, b < k → pc' b = b) ∧ LowT r c k (tr E) ∧ ∀ i b, i < b → b < k → 0 ≤ E i b ∧ E i b < E b b := by
 have hle := h.le
 have hEch : Ech H r c k pc := ⟨h.le, h.col, h.up, fun b hb => by have := h.piv b hb; omega, fun a b hb hba har => h.below b hb a hba har, h.rest⟩
 obtain ⟨rfl, h2, h3, h5⟩ := form_diag h' hE h.le h4 (fun i j hi hk hj => h.rest j hk hj i hi) (fun m hm => ⟨(List.range m).map pc, by simp, fun x hx => by
  obtain ⟨b, hb, rfl⟩ := List.mem_map.1 hx
  exact h.col b (by have := List.mem_range.1 hb; omega), by
  have := tri hEch m 0 (by omega)
  rw [← List.range_eq_range'] at this
  have e := mv_tr H ((List.range m).map pc) (List.range m) (by simp) (by simp; omega)
  rw [e]
  exact this⟩)
 obtain ⟨a1, a2⟩ := form_low h' h3 h2 h.le
 exact ⟨rfl, h2, a1, a2⟩
theorem diag_eq {D H : Nat → Nat → Int} {k : Nat} (hp : ∀ m, m ≤ k → pr H 0 m = pr D 0 m) (h0 : ∀ m, m ≤ k → 0 < pr H 0 m) : ∀ i, i < k → H i i = D i i := fun i hi => by
 have h1 := hp (i + 1) hi
 rw [pr_succ, pr_succ, hp i (by omega), Nat.zero_add] at h1
 have := h0 i (by omega)
 rw [hp i (by omega)] at this
 exact Int.eq_of_mul_eq_mul_left (by omega) h1
theorem form_same {r c k : Nat} {pc : Nat → Nat} {D H U W : Nat → Nat → Int} (hD : LowT r c k D) (h : EchSt r c k pc H) (hE : EInv D H U W r c) (hpc : ∀ b, b < k → pc b = b) (hF : FormT r c k D H) (hp : ∀ m, m ≤ k → pr H 0 m = pr D 0 m) :
 (∀ i j, i < r → j < c → i ≠ j → H i j = 0) ∧ (∀ i j, i < k → j < k → D j j ∣ D i j) := by
 have hkr := hD.kr
 have hkc := hD.kc
 have hlow := hF.low
 have hdg := diag_eq hp (fun m hm => by have := hlow.pr_pos hm; rw [pr_tr] at this; exact this)
 obtain ⟨s1, -⟩ := span_rows h hE
 have key : ∀ m, m ≤ k → ∀ i j, i < m → j < c → i ≠ j → H i j = 0 := by
  intro m
  induction m with
  | zero => intro _ i j hi; omega
  | succ m ih =>
    intro hm i j hi hj hij
    have ihm := ih (by omega)
    by_cases him : i = m
    ·subst him
     obtain ⟨x, hx⟩ := s1 i (by omega)
     have hy : Sp H k c (fun j => if j = i then D i i else 0) := by
      refine ⟨fun l => if l < i then 0 else x l, fun j hj => ?_⟩
      have e1 : sm (fun l => (if l < i then 0 else x l) * H l j) k = D i j - sm (fun l => if l < i then x l * H l j else 0) k := by
       rw [hx j hj, sm_sub]
       exact sm_congr k (fun l hl => by split <;> grind)
      have e2 : sm (fun l => if l < i then x l * H l j else 0) k = if j < i then x j * H j j else 0 := by
       split
       ·rename_i hji
        rw [sm_one k j (by omega) (fun l hl hlj => by
         split
         ·rename_i hli; rw [ihm l j hli hj hlj, Int.mul_zero]
         ·rfl), if_pos hji]
       ·rename_i hji
        exact sm_zero k (fun l hl => by
         split
         ·rename_i hli; rw [ihm l j hli hj (by omega), Int.mul_zero]
         ·rfl)
      show (if j = i then D i i else 0) = _
      rw [e1, e2]
      by_cases hji : j < i
      ·rw [if_pos hji, if_neg (by omega)]
       have e3 : D i j = x j * H j j := by
        rw [hx j hj]
        refine sm_one k j (by omega) (fun l hl hlj => ?_)
        rcases Nat.lt_or_ge l i with hli | hli
        ·rw [ihm l j hli hj hlj, Int.mul_zero]
        ·rw [EchSt.low h l j (by omega) (by omega) hj, Int.mul_zero]
       omega
      ·rw [if_neg hji]
       by_cases hje : j = i
       ·subst hje; rw [if_pos rfl]; omega
       ·rw [if_neg hje, hD.up i j (by omega) hj (by omega)]; omega
     have hz := hy.sub (Sp.row H c (show i < k by omega))
     rcases h.lead hz with h0 | ⟨b, hb, hb1, hb2, hb3⟩
     ·have := h0 j hj
      rw [if_neg (fun e => hij e.symm)] at this
      omega
     ·exfalso
      rw [hpc b hb] at hb1 hb2 hb3
      have hbi : i < b := by
       rcases Nat.lt_trichotomy b i with h1 | h1 | h1
       ·exfalso
        apply hb2
        rw [if_neg (by omega), EchSt.low h i b h1 (by omega) (by omega)]; rfl
       ·exfalso
        apply hb2
        subst h1
        rw [if_pos rfl, hdg b (by omega)]; omega
       ·exact h1
      rw [if_neg (by omega)] at hb2 hb3
      obtain ⟨r1, r2⟩ := hF.red i b hbi hb
      have h1 : H b b ∣ H i b := by
       have h9 := Int.dvd_neg.2 hb3
       rw [show -(0 - H i b) = H i b from by omega] at h9
       exact h9
      have h2 := Int.le_of_dvd (by omega) h1
      omega
    ·exact ihm i j (by omega) hj hij
 have hoff : ∀ i j, i < r → j < c → i ≠ j → H i j = 0 := fun i j hi hj hij => by
  rcases Nat.lt_or_ge i k with h1 | h1
  ·exact key k (Nat.le_refl _) i j h1 hj hij
  ·exact h.rest i h1 hi j hj
 refine ⟨hoff, fun i j hi hj => ?_⟩
 obtain ⟨x, hx⟩ := s1 i (by omega)
 rw [← hdg j hj, hx j (by omega)]
 refine sm_dvd k (fun l hl => ?_)
 by_cases hlj : l = j
 ·rw [hlj]; exact Int.dvd_mul_left _ _
 ·rw [hoff l j (by omega) (by omega) hlj, Int.mul_zero]; exact Int.dvd_zero _
theorem low_div {r c k : Nat} {D : Nat → Nat → Int} (h : LowT r c k D) (h4 : k ≤ 4) : divF D r c k = (pr D 0 k).natAbs := by
 have hkc := h.kc
 have hkr := h.kr
 have hmem : List.range k ∈ chosenL k c := by
  have := cols_mem (pc := id) (p := k) (fun a b hab _ => hab) k c (Nat.le_refl _) (fun b hb => by show b < c; omega)
  simpa using this
 refine Nat.dvd_antisymm ?_ ?_
 ·have h1 := (div_dvd _ D r c k h4).1 (Nat.dvd_refl _) _ hmem (List.range k) rfl (fun x hx => by have := List.mem_range.1 hx; omega)
  rw [low_minor h (Nat.le_refl _) h4] at h1
  exact Int.ofNat_dvd_left.1 h1
 ·rw [div_dvd _ D r c k h4]
  intro C hC R hR hRr
  obtain ⟨c1, c2⟩ := chosenL_lt hC
  by_cases hall : ∀ x ∈ C, x < k
  ·have hCk := chosen_in hC hall
   subst hCk
   have h1 : ∀ R' ∈ chosenL k r, ((pr D 0 k).natAbs : Int) ∣ mv (R'.map D) (List.range k) := fun R' hR' => by
    obtain ⟨r1, r2⟩ := chosenL_lt hR'
    by_cases hr' : ∀ x ∈ R', x < k
    ·have := chosen_in hR' hr'
     rw [this, low_minor h (Nat.le_refl _) h4, Int.natAbs_dvd]
     exact Int.dvd_refl _
    ·have hex : ∃ x, x ∈ R' ∧ k ≤ x := Classical.byContradiction (fun hn => hr' (fun x hx => Nat.lt_of_not_le (fun hle => hn ⟨x, hx, hle⟩)))
     obtain ⟨x, hx, hle⟩ := hex
     obtain ⟨xs, ys, he⟩ := List.append_of_mem hx
     have hlen : xs.length + ys.length + 1 = k := by have := congrArg List.length he; simp at this; omega
     rw [he, List.map_append, List.map_cons, mv_zero_row (D x) (ys.map D) (xs.map D) (List.range k) (fun j hj => h.out x j (r2 x hx) (by have := List.mem_range.1 hj; omega) (.inl hle)) (by simp; omega)]
     exact Int.dvd_zero _
   have := rise_all _ D (List.range k) (by simpa using h4) k r [] (by simp) (fun R' hR' => by rw [List.append_nil]; exact h1 R' hR') R (by simpa using hR) hRr
   simpa using this
  ·have hex : ∃ x, x ∈ C ∧ k ≤ x := Classical.byContradiction (fun hn => hall (fun x hx => Nat.lt_of_not_le (fun hle => hn ⟨x, hx, hle⟩)))
   obtain ⟨x, hx, hle⟩ := hex
   rw [mv_zero_col x (R.map D) C (fun v hv => by
    obtain ⟨i, hi, rfl⟩ := List.mem_map.1 hv
    exact h.out i x (hRr i hi) (c2 x hx) (.inr hle)) hx (by simp; omega)]
   exact Int.dvd_zero _
theorem round_low {r c k k1 k2 : Nat} {pc pc' : Nat → Nat} {D H U W E U' W' : Nat → Nat → Int} (hD : LowT r c k D) (h4 : k ≤ 4) (h : EchSt r c k1 pc H) (hE : EInv D H U W r c) (h' : EchSt c r k2 pc' E) (hE' : EInv (tr H) E U' W' c r) :
 FormT r c k D H ∧ FormT c r k (tr H) E ∧ (∀ m, m ≤ k → pr (tr E) 0 m ∣ pr D 0 m) ∧
 ((∀ m, m ≤ k → pr (tr E) 0 m = pr D 0 m) → (∀ i j, i < r → j < c → i ≠ j → tr E i j = 0) ∧ ∀ i j, i < k → j < k → D j j ∣ D i j) := by
 obtain ⟨rfl, p1, f1⟩ := form_step hD h4 h hE
 obtain ⟨rfl, p2, f2⟩ := form_step f1.low h4 h' hE'
 refine ⟨f1, f2, fun m hm => ?_, fun hp => ?_⟩
 ·rw [pr_tr]
  have a1 := f2.dvd m hm
  rw [pr_tr] at a1
  exact Int.dvd_trans a1 (f1.dvd m hm)
 ·have q1 : ∀ m, m ≤ k2 → pr H 0 m = pr D 0 m := fun m hm => by
   have a1 := f2.dvd m hm
   have a2 := f1.dvd m hm
   have a3 := hp m hm
   rw [pr_tr] at a1 a3
   rw [a3] at a1
   have b1 := hD.pr_pos hm
   have b2 := f1.low.pr_pos hm
   rw [pr_tr] at b2
   have c1 := Int.le_of_dvd b2 a1
   have c2 := Int.le_of_dvd b1 a2
   omega
  have q2 : ∀ m, m ≤ k2 → pr E 0 m = pr (tr H) 0 m := fun m hm => by
   have a3 := hp m hm
   rw [pr_tr] at a3 ⊢
   rw [a3, q1 m hm]
  obtain ⟨s1, s2⟩ := form_same hD h hE p1 f1 q1
  obtain ⟨t1, -⟩ := form_same f1.low h' hE' p2 f2 q2
  exact ⟨fun i j hi hj hij => t1 j i hj hi (fun e => hij e.symm), s2⟩
def mixD (D : Nat → Nat → Int) (a : Nat) : Nat → Nat → Int := fun i j => if j = a then D i a + D i (a + 1) else D i j
theorem mix_low {r c k a : Nat} {D : Nat → Nat → Int} (hD : LowT r c k D) (ha : a + 1 < k) (hd : ∀ i j, i < r → j < c → i ≠ j → D i j = 0) (hn : ¬ D a a ∣ D (a + 1) (a + 1)) :
 LowT r c k (mixD D a) ∧ (∀ m, pr (mixD D a) 0 m = pr D 0 m ∨ k < m) ∧ ¬ ∀ i j, i < k → j < k → mixD D a j j ∣ mixD D a i j := by
 have hkr := hD.kr
 have hkc := hD.kc
 have hdg : ∀ i, i < k → mixD D a i i = D i i := fun i hi => by
  unfold mixD
  split
  ·rename_i e; subst e; rw [hd i (i + 1) (by omega) (by omega) (by omega)]; omega
  ·rfl
 refine ⟨⟨hkr, hkc, fun i j hi hj hij => ?_, fun i j hi hj hk => ?_, fun i hi => by rw [hdg i hi]; exact hD.pos i hi⟩, fun m => ?_, fun hall => hn ?_⟩
 ·unfold mixD
  split
  ·rename_i e; subst e; rw [hd i j hi hj (by omega), hd i (j + 1) hi (by omega) (by omega)]; rfl
  ·exact hD.up i j hi hj hij
 ·unfold mixD
  split
  ·rename_i e; subst e; rw [hD.out i j hi hj hk, hD.out i (j + 1) hi (by omega) (.inl (by omega))]; rfl
  ·exact hD.out i j hi hj hk
 ·by_cases hm : m ≤ k
  ·refine .inl ?_
   have key : ∀ n o, o + n ≤ k → pr (mixD D a) o n = pr D o n := by
    intro n
    induction n with
    | zero => intro o _; rfl
    | succ n ih => intro o ho; rw [pr, pr, ih (o + 1) (by omega), hdg o (by omega)]
   exact key m 0 (by omega)
  ·exact .inr (by omega)
 ·have := hall (a + 1) a (by omega) (by omega)
  rw [hdg a (by omega)] at this
  have e : mixD D a (a + 1) a = D (a + 1) (a + 1) := by
   unfold mixD
   rw [if_pos rfl, hd (a + 1) a (by omega) (by omega) (by omega)]
   omega
  rw [e] at this
  exact this
def nD (D : Nat → Nat → Int) : Nat → Nat
 | 0 => 0
 | m + 1 => nD D m + Nat.log2 (pr D 0 (m + 1)).natAbs
theorem log_dvd {a b : Nat} (h : a ∣ b) (hb : 0 < b) : Nat.log2 a ≤ Nat.log2 b ∧ (a ≠ b → Nat.log2 a < Nat.log2 b) := by
 obtain ⟨q, rfl⟩ := h
 have ha : 0 < a := Nat.pos_of_mul_pos_right hb
 have hq : 0 < q := Nat.pos_of_mul_pos_left hb
 have e : 2 ^ Nat.log2 a ≤ a := Nat.log2_self_le (by omega)
 refine ⟨(Nat.le_log2 (by omega)).2 (Nat.le_trans e (Nat.le_mul_of_pos_right a hq)), fun hne => ?_⟩
 have hq2 : 2 ≤ q := by
  rcases Nat.lt_or_ge q 2 with h1 | h1
  ·have : q = 1 := by omega
   subst this; simp at hne
  ·exact h1
 refine (Nat.le_log2 (by omega)).2 ?_
 rw [Nat.pow_succ]
 exact Nat.mul_le_mul e hq2
theorem nD_le {D E : Nat → Nat → Int} {k : Nat} (h : ∀ m, m ≤ k → pr E 0 m ∣ pr D 0 m) (hp : ∀ m, m ≤ k → 0 < pr D 0 m) (hq : ∀ m, m ≤ k → 0 < pr E 0 m) : ∀ m, m ≤ k → nD E m ≤ nD D m ∧ (nD E m = nD D m → ∀ t, t ≤ m → pr E 0 t = pr D 0 t) := by
 intro m
 induction m with
 | zero => intro _; exact ⟨Nat.le_refl _, fun _ t ht => by rw [show t = 0 from by omega]; rfl⟩
 | succ m ih =>
   intro hm
   obtain ⟨i1, i2⟩ := ih (by omega)
   have h1 := h (m + 1) hm
   have h2 := hp (m + 1) hm
   have h3 := hq (m + 1) hm
   obtain ⟨l1, l2⟩ := log_dvd (Int.natAbs_dvd_natAbs.2 h1) (by omega)
   rw [nD, nD]
   refine ⟨by omega, fun he t ht => ?_⟩
   by_cases htm : t = m + 1
   ·subst htm
    rcases Decidable.em ((pr E 0 (m + 1)).natAbs = (pr D 0 (m + 1)).natAbs) with e | e
    ·omega
    ·have := l2 e; omega
   ·exact i2 (by omega) t (by omega)
theorem nD_bound {D : Nat → Nat → Int} {k B : Nat} (h : ∀ m, m ≤ k → (pr D 0 m).natAbs < 2 ^ B) (hp : ∀ m, m ≤ k → 0 < pr D 0 m) : ∀ m, m ≤ k → nD D m ≤ m * B := by
 intro m
 induction m with
 | zero => intro _; exact Nat.zero_le _
 | succ m ih =>
   intro hm
   have h1 := ih (by omega)
   have h2 := (Nat.log2_lt (by have := hp (m + 1) hm; omega)).2 (h (m + 1) hm)
   rw [nD, Nat.succ_mul]
   omega
theorem pr_mono {X : Nat → Nat → Int} {k : Nat} (hp : ∀ i, i < k → 0 < X i i) : ∀ n m, m + n ≤ k → pr X 0 m ≤ pr X 0 (m + n) := by
 intro n
 induction n with
 | zero => intro m _; exact Int.le_refl _
 | succ n ih =>
   intro m hm
   have h1 := ih m (by omega)
   have h2 : 0 < pr X 0 (m + n) := pr_pos (m + n) 0 (fun i _ hi => hp i (by omega))
   have h3 := hp (m + n) (by omega)
   rw [← Nat.add_assoc, pr_succ, Nat.zero_add]
   have : pr X 0 (m + n) * 1 ≤ pr X 0 (m + n) * X (m + n) (m + n) := Int.mul_le_mul_of_nonneg_left (by omega) (by omega)
   omega
theorem diag_le {X : Nat → Nat → Int} {k i : Nat} (hp : ∀ i, i < k → 0 < X i i) (hi : i < k) : X i i ≤ pr X 0 k := by
 have h1 := pr_mono hp (k - (i + 1)) (i + 1) (by omega)
 rw [show i + 1 + (k - (i + 1)) = k from by omega, pr_succ, Nat.zero_add] at h1
 have h2 : 0 < pr X 0 i := pr_pos i 0 (fun j _ hj => hp j (by omega))
 have h3 := hp i hi
 have : 1 * X i i ≤ pr X 0 i * X i i := Int.mul_le_mul_of_nonneg_right (by omega) (by omega)
 omega
def mm (n : Nat) (X Y : Nat → Nat → Int) : Nat → Nat → Int := fun i j => dot X Y i j n
theorem sm_mulr (f : Nat → Int) (z : Int) (n : Nat) : sm f n * z = sm (fun k => f k * z) n := by
 induction n with
 | zero => simp [sm]
 | succ n ih => rw [sm, sm, Int.add_mul, ih]
theorem sm_add (f g : Nat → Int) (n : Nat) : sm f n + sm g n = sm (fun k => f k + g k) n := by
 induction n with
 | zero => rfl
 | succ n ih => rw [sm, sm, sm, ← ih]; omega
theorem sm_swap (f : Nat → Nat → Int) (m : Nat) : ∀ n, sm (fun k => sm (fun l => f k l) m) n = sm (fun l => sm (fun k => f k l) n) m := by
 intro n
 induction n with
 | zero => simp only [sm]; rw [sm_zero m (fun _ _ => rfl)]
 | succ n ih =>
   rw [sm, ih, sm_add]
   exact sm_congr m (fun l _ => by rw [sm])
theorem mm_assoc (m n : Nat) (X Y Z : Nat → Nat → Int) : mm m (mm n X Y) Z = mm n X (mm m Y Z) := by
 funext i j
 show dot (mm n X Y) Z i j m = dot X (mm m Y Z) i j n
 rw [dot_sm, dot_sm]
 have e1 : sm (fun k => mm n X Y i k * Z k j) m = sm (fun k => sm (fun l => X i l * Y l k * Z k j) n) m := sm_congr m (fun k _ => by
  show dot X Y i k n * Z k j = _
  rw [dot_sm, sm_mulr])
 rw [e1, sm_swap]
 refine sm_congr n (fun l _ => ?_)
 show _ = X i l * dot Y Z l j m
 rw [dot_sm, Int.mul_comm, sm_mulr]
 exact sm_congr m (fun k _ => by grind)
theorem mm_tr (n : Nat) (X Y : Nat → Nat → Int) : tr (mm n X Y) = mm n (tr Y) (tr X) := by
 funext i j
 show dot X Y j i n = dot (tr Y) (tr X) i j n
 rw [dot_sm, dot_sm]
 exact sm_congr n (fun k _ => Int.mul_comm _ _)
theorem mm_congr {n : Nat} {X Y X' Y' : Nat → Nat → Int} {i j : Nat} (h1 : ∀ k, k < n → X i k = X' i k) (h2 : ∀ k, k < n → Y k j = Y' k j) : mm n X Y i j = mm n X' Y' i j := dot_congr n h1 h2
theorem mm_one {n : Nat} {X : Nat → Nat → Int} {i j : Nat} (hi : i < n) : mm n kd X i j = X i j := by
 show dot kd X i j n = X i j
 rw [dot_sm, sm_one n i hi (fun k _ hne => by unfold kd; rw [if_neg (fun e => hne e.symm)]; simp)]
 unfold kd; rw [if_pos rfl]; simp
theorem mm_one' {n : Nat} {X : Nat → Nat → Int} {i j : Nat} (hj : j < n) : mm n X kd i j = X i j := by
 show dot X kd i j n = X i j
 rw [dot_sm, sm_one n j hj (fun k _ hne => by unfold kd; rw [if_neg hne]; simp)]
 unfold kd; rw [if_pos rfl]; simp
structure DInv (A D U S V T : Nat → Nat → Int) (r c : Nat) : Prop where
 d : ∀ i j, i < r → j < c → mm c (mm r U A) V i j = D i j
 us : ∀ i j, i < r → j < r → mm r U S i j = kd i j
 vt : ∀ i j, i < c → j < c → mm c V T i j = kd i j
theorem DInv.start (A : Nat → Nat → Int) (r c : Nat) : DInv A A kd kd kd kd r c :=
 ⟨fun i j hi hj => by rw [mm_one' hj, mm_one hi], fun i j hi _ => mm_one hi, fun i j hi _ => mm_one hi⟩
theorem DInv.rows {A D U S V T H U' W' : Nat → Nat → Int} {r c : Nat} (h : DInv A D U S V T r c) (hE : EInv D H U' W' r c) : DInv A H (mm r U' U) (mm r S W') V T r c := by
 refine ⟨fun i j hi hj => ?_, fun i j hi hj => ?_, h.vt⟩
 ·rw [mm_assoc r r, mm_assoc c r, ← hE.ua i j hi hj]
  exact mm_congr (fun _ _ => rfl) (fun k hk => h.d k j hk hj)
 ·rw [mm_assoc r r, ← hE.uw i j hi hj]
  refine mm_congr (fun _ _ => rfl) (fun k hk => ?_)
  rw [← mm_assoc r r]
  exact (mm_congr (fun l hl => h.us k l hk hl) (fun _ _ => rfl)).trans (mm_one hk)
theorem DInv.cols {A D U S V T E U' W' : Nat → Nat → Int} {r c : Nat} (h : DInv A D U S V T r c) (hE : EInv (tr D) E U' W' c r) : DInv A (tr E) U S (mm c V (tr U')) (mm c (tr W') T) r c := by
 refine ⟨fun i j hi hj => ?_, h.us, fun i j hi hj => ?_⟩
 ·rw [← mm_assoc c c]
  have e1 : mm c (mm c (mm r U A) V) (tr U') i j = mm c D (tr U') i j := mm_congr (fun k hk => h.d i k hi hk) (fun _ _ => rfl)
  rw [e1]
  show mm c D (tr U') i j = E j i
  rw [← hE.ua j i hj hi]
  have := congrFun (congrFun (mm_tr c U' (tr D)) i) j
  exact this.symm
 ·rw [mm_assoc c c, ← mm_assoc c c (tr U')]
  have e1 : ∀ k, k < c → mm c (mm c (tr U') (tr W')) T k j = T k j := fun k hk => by
   rw [← mm_tr]
   refine (mm_congr (X' := kd) (fun l hl => ?_) (fun _ _ => rfl)).trans (mm_one hk)
   have := hE.wu l k hl hk
   show mm c W' U' l k = kd k l
   rw [show mm c W' U' l k = dot W' U' l k c from rfl, this]
   unfold kd
   by_cases h : l = k
   ·rw [if_pos h, if_pos h.symm]
   ·rw [if_neg h, if_neg (fun e => h e.symm)]
  exact (mm_congr (fun _ _ => rfl) e1).trans (h.vt i j hi hj)
def mixT (T : Nat → Nat → Int) (a : Nat) : Nat → Nat → Int := fun i j => if i = a + 1 then T (a + 1) j - T a j else T i j
theorem mm_mixD (n a : Nat) (X Y : Nat → Nat → Int) : mm n X (mixD Y a) = mixD (mm n X Y) a := by
 funext i j
 unfold mixD
 show dot X (fun i j => if j = a then Y i a + Y i (a + 1) else Y i j) i j n = if j = a then dot X Y i a n + dot X Y i (a + 1) n else dot X Y i j n
 by_cases h : j = a
 ·rw [if_pos h, dot_sm, dot_sm, dot_sm, sm_add]
  exact sm_congr n (fun k _ => by rw [if_pos h]; grind)
 ·rw [if_neg h, dot_sm, dot_sm]
  exact sm_congr n (fun k _ => by rw [if_neg h])
theorem mix_back {n a : Nat} (V T : Nat → Nat → Int) (ha : a + 1 < n) (i j : Nat) : mm n (mixD V a) (mixT T a) i j = mm n V T i j := by
 show dot (mixD V a) (mixT T a) i j n = dot V T i j n
 rw [dot_sm, dot_sm]
 refine sm_two (a := a) (b := a + 1) (by omega) ha (by omega) (fun k hk h1 h2 => ?_) ?_
 ·unfold mixD mixT; rw [if_neg h1, if_neg h2]
 ·unfold mixD mixT
  rw [if_pos rfl, if_neg (show ¬ a = a + 1 by omega), if_neg (show ¬ a + 1 = a by omega), if_pos rfl]
  grind
theorem DInv.mix {A D U S V T : Nat → Nat → Int} {r c a : Nat} (h : DInv A D U S V T r c) (ha : a + 1 < c) : DInv A (mixD D a) U S (mixD V a) (mixT T a) r c := by
 refine ⟨fun i j hi hj => ?_, h.us, fun i j hi hj => by rw [mix_back V T ha]; exact h.vt i j hi hj⟩
 rw [mm_mixD]
 unfold mixD
 by_cases he : j = a
 ·rw [if_pos he, if_pos he, h.d i a hi (by omega), h.d i (a + 1) hi ha]
 ·rw [if_neg he, if_neg he, h.d i j hi hj]
theorem div_einv {A H U W : Nat → Nat → Int} {r c m : Nat} (h : EInv A H U W r c) (hm : m ≤ 4) : divF H r c m = divF A r c m :=
 div_same (fun i hi => ⟨U i, fun j hj => by rw [← h.ua i j hi hj, dot_sm]⟩) (fun i hi => ⟨W i, fun j hj => by rw [← h.wh i j hi hj, dot_sm]⟩) hm
end Go.Proofs.YtfjbijpagaipnaaGreatDoor.R
namespace Go.Proofs.YtfjbijpagaipnaaGreatDoor
open Go.RowKit R
theorem sm_cut (f : Nat → Int) (m : Nat) : ∀ n, m ≤ n → (∀ l, m ≤ l → l < n → f l = 0) → sm f n = sm f m := by
 intro n
 induction n with
 | zero => intro h _; rw [show m = 0 by omega]
 | succ n ih =>
   intro h h0
   by_cases e : m = n + 1
   ·rw [e]
   ·rw [sm, ih (by omega) (fun l a b => h0 l a (by omega)), h0 n (by omega) (by omega)]; omega
theorem shL_at (H : Nat → Nat → Int) (pc : Nat → Nat) (v : Nat → Int) {r k t : Nat} (ht : t < r) : (shL H pc v r k).getD t 0 = if t < k then exQ H pc v t else 0 := by
 unfold shL
 rw [List.getD, List.getElem?_map, List.getElem?_range ht]
 rfl
theorem MemIs.back {r c : Nat} {zs vs xs : List Int} (h : MemIs r c zs vs xs) (hs : Sp (ent c zs) r c (ent c vs 0)) : ∀ i j, i < 1 → j < c → dot (fz r xs) (fz c zs) i j r = fz c vs i j := by
 obtain ⟨k, pc, hs', us, ws, hE, rfl⟩ := h
 intro i j hi hj
 obtain rfl : i = 0 := by omega
 obtain ⟨sh, hsh⟩ : ∃ sh, sh = shL (ent c hs') pc (ent c vs 0) r k := ⟨_, rfl⟩
 have e1 : dot (fz r (prodL 1 r r (shL (ent c hs') pc (ent c vs 0) r k) us)) (fz c zs) 0 j r = mm r (mm r (fz r sh) (fz r us)) (fz c zs) 0 j := by
  refine dot_congr r (fun l hl => ?_) (fun l hl => rfl)
  rw [← hsh]
  exact prodL_at (by omega) hl
 rw [e1, mm_assoc]
 have e2 : mm r (fz r sh) (mm r (fz r us) (fz c zs)) 0 j = dot (fz r sh) (ent c hs') 0 j r := dot_congr r (fun l hl => rfl) (fun l hl => hE.inv.ua l j hl hj)
 rw [e2, dot_sm]
 have hle := hE.st.le
 have e3 : sm (fun l => fz r sh 0 l * ent c hs' l j) r = sm (fun l => exQ (ent c hs') pc (ent c vs 0) l * ent c hs' l j) k := by
  rw [sm_cut _ k r hle (fun l a b => by
   show sh.getD (0 * r + l) 0 * _ = 0
   rw [Nat.zero_mul, Nat.zero_add, hsh, shL_at _ _ _ b, if_neg (by omega)]; simp)]
  refine sm_congr k (fun l hl => ?_)
  show sh.getD (0 * r + l) 0 * _ = _
  rw [Nat.zero_mul, Nat.zero_add, hsh, shL_at _ _ _ (by omega), if_pos hl]
 rw [e3]
 exact (ex_back ((mem_iff hE.st hE.inv).2 hs) j hj).symm
theorem made_sp (r c : Nat) (ev em : Nat → Nat → Int) : Sp (ent c (nums r c em)) r c (ent c (nums 1 c (fun i j => dot ev em i j r)) 0) := by
 refine ⟨fun l => ev 0 l, fun j hj => ?_⟩
 rw [nums_ent _ (by omega) hj, dot_sm]
 exact sm_congr r fun k hk => by rw [nums_ent _ hk hj]
theorem mem_prod {r c : Nat} {zs vs xs : List Int} (h : MemIs r c zs vs xs) (hl : vs.length = 1 * c) (hs : Sp (ent c zs) r c (ent c vs 0)) : prodL 1 r c xs zs = vs := by
 refine list_ent (prodL_len _ _ _ _ _) hl fun i j hi hj => ?_
 have h1 := h.back hs i j hi hj
 have h2 : ent c (prodL 1 r c xs zs) i j = dot (fz r xs) (fz c zs) i j r := prodL_at hi hj
 rw [h2, h1]
 rfl
theorem twice_span {r c : Nat} {A B : Nat → Nat → Int} (hB : ∀ i j, i < r → j < c → B i j = 2 * A i j) : SpEq A B r r c ↔ ∀ i j, i < r → j < c → A i j = 0 := by
 constructor
 ·rintro ⟨h, -⟩
  have key : ∀ n i j, i < r → j < c → ((2 ^ n : Nat) : Int) ∣ A i j := by
   intro n
   induction n with
   | zero => intro i j _ _; simp
   | succ n ih =>
     intro i j hi hj
     obtain ⟨x, hx⟩ := h i hi
     have h1 : A i j = 2 * sm (fun l => x l * A l j) r := by
      have h2 := sm_lin 2 0 (fun l => x l * A l j) (fun l => x l * A l j) r
      have h3 : sm (fun l => x l * B l j) r = sm (fun k => 2 * (x k * A k j) + 0 * (x k * A k j)) r := sm_congr r fun l hl => by
       rw [hB l j hl hj, Int.mul_left_comm]; omega
      rw [hx j hj, h3, h2]; omega
     rw [h1, Nat.pow_succ, Nat.mul_comm, Int.natCast_mul]
     exact Int.mul_dvd_mul (Int.dvd_refl _) (R.sm_dvd r fun l hl => Int.dvd_trans (ih l j hl hj) (Int.dvd_mul_left _ _))
  intro i j hi hj
  have h1 := key (A i j).natAbs i j hi hj
  have h2 : 2 ^ (A i j).natAbs ∣ (A i j).natAbs := Int.ofNat_dvd_left.1 h1
  have h3 := Nat.eq_zero_of_dvd_of_lt h2 Nat.lt_two_pow_self
  omega
 ·intro h
  refine ⟨fun i hi => ⟨fun _ => 0, fun j hj => ?_⟩, fun i hi => ⟨fun _ => 0, fun j hj => ?_⟩⟩
  ·rw [h i j hi hj, sm_zero r fun l _ => Int.zero_mul _]
  ·rw [hB i j hi hj, h i j hi hj, sm_zero r fun l _ => Int.zero_mul _]; rfl
theorem Sp.to {H : Nat → Nat → Int} {k c : Nat} {v v' : Nat → Int} (h : Sp H k c v) (he : ∀ j, j < c → v' j = v j) : Sp H k c v' := by
 obtain ⟨x, hx⟩ := h
 exact ⟨x, fun j hj => by rw [he j hj]; exact hx j hj⟩
theorem Sp.mul {O : Nat → Nat → Int} {n c : Nat} {v : Nat → Int} (h : Sp O n c v) (t : Int) : Sp O n c (fun j => t * v j) := R.Sp.scale t h
theorem over_span {r r1 r2 c : Nat} {zs ys ys' : List Int} (hz : zs.length = r * c) (h1 : ∀ i, i < r1 → Sp (ent c zs) r c (ent c ys i)) (i : Nat) (hi : i < r + r1) : Sp (ent c (zs ++ ys')) (r + r2) c (ent c (zs ++ ys) i) := by
 have h0 : ∀ i, i < r → Sp (ent c (zs ++ ys')) (r + r2) c (ent c zs i) := fun i hi => (Sp.row _ c (show i < r + r2 by omega)).to fun j hj => (ent_top ys' hz hi hj).symm
 by_cases hir : i < r
 ·exact (h0 i hir).to fun j hj => ent_top ys hz hir hj
 ·exact (Sp.trans (h1 (i - r) (by omega)) h0).to fun j hj => by have := ent_low ys hz (i - r) j; rw [show r + (i - r) = i from by omega] at this; exact this
theorem basis_same {r r1 r2 c : Nat} {zs ys ys' : List Int} {k k' : Nat} {bs bs' : List Int} (a : BasisIs (r + r1) c (zs ++ ys) k bs) (b : BasisIs (r + r2) c (zs ++ ys') k' bs') (hz : zs.length = r * c)
 (h1 : ∀ i, i < r1 → Sp (ent c zs) r c (ent c ys i)) (h2 : ∀ i, i < r2 → Sp (ent c zs) r c (ent c ys' i)) : k = k' ∧ bs = bs' := by
 obtain ⟨a1, pc, hs, us, ws, a2, a3, a4⟩ := a
 obtain ⟨b1, pc', hs', us', ws', b2, b3, b4⟩ := b
 obtain ⟨rfl, e⟩ := (same_span a2 a3 b2 b3).2 ⟨over_span hz h1, over_span hz h2⟩
 exact ⟨rfl, list_ent a1 b1 fun i j hi hj => by rw [a4 i j hi hj, e i j hi hj, b4 i j hi hj]⟩
end Go.Proofs.YtfjbijpagaipnaaGreatDoor
