import Derived.Test.YtfjbijpagaipnabGreatDoorS19
import Derived.Test.YtfjbijpagaipnabGreatDoorS15
import Derived.Test.YtfjbijpagaipnabGreatDoorS09
import Derived.Test.YtfjbijpagaipnabGreatDoorS12
namespace Go.Proofs.YtfjbijpagaipnabGreatDoor.R
theorem chosenL_le {k n : Nat} {Q : List Nat} (h : Q ∈ chosenL k n) : k ≤ n := by
 cases k with
 | zero => omega
 | succ k =>
   rw [chosenL, List.mem_flatMap] at h
   obtain ⟨last, hl, -⟩ := h
   obtain ⟨i, hi, he⟩ := List.mem_iff_getElem.1 hl
   rw [List.length_drop, List.length_range] at hi
   omega
theorem mem_drop_range {k n x : Nat} : x ∈ (List.range n).drop k ↔ k ≤ x ∧ x < n := by
 constructor
 ·intro h
  obtain ⟨i, hi, he⟩ := List.mem_iff_getElem.1 h
  rw [List.getElem_drop, List.getElem_range] at he
  rw [List.length_drop, List.length_range] at hi
  omega
 ·rintro ⟨h1, h2⟩
  refine List.mem_iff_getElem.2 ⟨x - k, by rw [List.length_drop, List.length_range]; omega, ?_⟩
  rw [List.getElem_drop, List.getElem_range]
  omega
theorem chosenL_snoc {k n last : Nat} {Q : List Nat} (h : Q ∈ chosenL k last) (hl : last < n) : Q ++ [last] ∈ chosenL (k + 1) n := by
 rw [chosenL, List.mem_flatMap]
 exact ⟨last, mem_drop_range.2 ⟨chosenL_le h, hl⟩, List.mem_map.2 ⟨Q, h, rfl⟩⟩
theorem chosenL_last {k n : Nat} {R : List Nat} (h : R ∈ chosenL (k + 1) n) : ∃ Q last, R = Q ++ [last] ∧ Q ∈ chosenL k last ∧ k ≤ last ∧ last < n := by
 rw [chosenL, List.mem_flatMap] at h
 obtain ⟨last, hl, h⟩ := h
 obtain ⟨Q, hQ, rfl⟩ := List.mem_map.1 h
 have := mem_drop_range.1 hl
 exact ⟨Q, last, rfl, hQ, this.1, this.2⟩
theorem max_split : ∀ (R : List Nat), R ≠ [] → ∃ xs m ys, R = xs ++ m :: ys ∧ ∀ x ∈ R, x ≤ m := by
 intro R
 induction R with
 | nil => intro h; exact absurd rfl h
 | cons a R ih =>
   intro _
   by_cases hR : R = []
   ·subst hR
    exact ⟨[], a, [], rfl, fun x hx => by simp at hx; omega⟩
   ·obtain ⟨xs, m, ys, rfl, hm⟩ := ih hR
    by_cases ham : a ≤ m
    ·exact ⟨a :: xs, m, ys, rfl, fun x hx => by
      rcases List.mem_cons.1 hx with h | h
      ·omega
      ·exact hm x h⟩
    ·exact ⟨[], a, xs ++ m :: ys, rfl, fun x hx => by
      rcases List.mem_cons.1 hx with h | h
      ·omega
      ·have := hm x h; omega⟩
theorem rise_all (d : Int) (f : Nat → Nat → Int) (C : List Nat) (h4 : C.length ≤ 4) : ∀ (m n : Nat) (S : List Nat), C.length = m + S.length → (∀ R ∈ chosenL m n, d ∣ mv ((R ++ S).map f) C) → ∀ R : List Nat, R.length = m → (∀ x ∈ R, x < n) → d ∣ mv ((R ++ S).map f) C := by
 intro m
 induction m with
 | zero =>
   intro n S hC h R hR _
   have : R = [] := List.eq_nil_of_length_eq_zero hR
   subst this
   exact h [] (by simp [chosenL])
 | succ m ih =>
   intro n S hC h R hR hRn
   obtain ⟨xs, last, ys, rfl, hmax⟩ := max_split R (by intro e; rw [e] at hR; simp at hR)
   have hlen : xs.length + ys.length = m := by simp at hR; omega
   have hln : last < n := hRn last (by simp)
   have hmove := mv_move d (f last) (S.map f) (ys.map f) (xs.map f) C (by simp; omega) h4
   have e1 : (xs ++ last :: ys ++ S).map f = xs.map f ++ f last :: ys.map f ++ S.map f := by simp
   have e2 : (xs ++ ys ++ last :: S).map f = xs.map f ++ ys.map f ++ f last :: S.map f := by simp
   rw [e1, hmove, ← e2]
   by_cases hdup : last ∈ xs ++ ys
   ·obtain ⟨ps, qs, hab⟩ := List.append_of_mem hdup
    rw [hab, show ps ++ last :: qs ++ last :: S = ps ++ last :: (qs ++ last :: S) from by simp]
    have := mv_same (f last) (ps.map f) (qs.map f) (S.map f) C (by
     have h2 : (xs ++ ys).length = ps.length + qs.length + 1 := by rw [hab]; simp; omega
     simp at h2 ⊢
     omega) h4
    have h0 : mv (List.map f (ps ++ last :: (qs ++ last :: S))) C = 0 := by simpa using this
    rw [h0]
    exact Int.dvd_zero d
   ·refine ih last (last :: S) (by simp; omega) (fun Q hQ => ?_) (xs ++ ys) (by simp; omega) (fun x hx => ?_)
    ·have := h (Q ++ [last]) (chosenL_snoc hQ hln)
     simpa using this
    ·have h1 := hmax x (by
      rcases List.mem_append.1 hx with h | h
      ·exact List.mem_append.2 (.inl h)
      ·exact List.mem_append.2 (.inr (List.mem_cons_of_mem _ h)))
     rcases Nat.lt_or_ge x last with h2 | h2
     ·exact h2
     ·have : x = last := by omega
      subst this
      exact absurd hx hdup
def AllD (d : Int) (f : Nat → Nat → Int) (r : Nat) (C : List Nat) : Prop := ∀ R : List Nat, R.length = C.length → (∀ x ∈ R, x < r) → d ∣ mv (R.map f) C
theorem gR_dvd (d : Nat) (f : Nat → Nat → Int) (rs : List Nat) : ∀ (css : List (List Nat)) (a : Nat), d ∣ gR f rs css a ↔ d ∣ a ∧ ∀ cs ∈ css, (d : Int) ∣ minorF f rs cs := by
 intro css
 induction css with
 | nil => intro a; simp [gR]
 | cons c t ih =>
   intro a
   have : gR f rs (c :: t) a = gR f rs t (Nat.gcd a (minorF f rs c).natAbs) := rfl
   rw [this, ih, Nat.dvd_gcd_iff]
   simp only [List.mem_cons, forall_eq_or_imp, Int.ofNat_dvd_left, and_assoc]
theorem gA_dvd (d : Nat) (f : Nat → Nat → Int) (css : List (List Nat)) : ∀ (rss : List (List Nat)) (a : Nat), d ∣ gA f rss css a ↔ d ∣ a ∧ ∀ rs ∈ rss, ∀ cs ∈ css, (d : Int) ∣ minorF f rs cs := by
 intro rss
 induction rss with
 | nil => intro a; simp [gA]
 | cons r t ih =>
   intro a
   have : gA f (r :: t) css a = gA f t css (gR f r css a) := rfl
   rw [this, ih, gR_dvd]
   simp only [List.mem_cons, forall_eq_or_imp, and_assoc]
theorem div_dvd (d : Nat) (f : Nat → Nat → Int) (r c m : Nat) (hm : m ≤ 4) : d ∣ divF f r c m ↔ ∀ C ∈ chosenL m c, AllD d f r C := by
 unfold divF
 rw [gA_dvd]
 constructor
 ·rintro ⟨-, h⟩ C hC R hR hRr
  have hl := (chosenL_mem m c C hC).1
  have := rise_all d f C (by omega) m r [] (by simp [hl]) (fun R' hR' => by
   have := h R' hR' C hC
   rw [mv_minor] at this
   simpa using this) R (by omega) hRr
  simpa using this
 ·intro h
  refine ⟨Nat.dvd_zero d, fun R hR C hC => ?_⟩
  rw [mv_minor]
  have h1 := chosenL_mem m r R hR
  exact h C hC R (by rw [h1.1, (chosenL_mem m c C hC).1]) h1.2
def AllV (f : Nat → Nat → Int) (r c m : Nat) : Prop := ∀ R : List Nat, R.length = m → (∀ x ∈ R, x < r) → ∀ C ∈ chosenL m c, mv (R.map f) C = 0
theorem allV_iff (f : Nat → Nat → Int) (r c m : Nat) : AllV f r c m ↔ ∀ C ∈ chosenL m c, AllD 0 f r C := by
 constructor
 ·intro h C hC R hR hx
  rw [h R (by rw [hR, (chosenL_mem m c C hC).1]) hx C hC]
  exact Int.dvd_refl 0
 ·intro h R hR hx C hC
  exact Int.zero_dvd.1 (h C hC R (by rw [hR, (chosenL_mem m c C hC).1]) hx)
theorem all_div (f : Nat → Nat → Int) (r c m : Nat) (hm : m ≤ 4) : divF f r c m = 0 ↔ AllV f r c m := by
 rw [allV_iff, ← Nat.zero_dvd, div_dvd 0 f r c m hm]
 exact Iff.rfl
structure Ech (g : Nat → Nat → Int) (r c p : Nat) (pc : Nat → Nat) : Prop where
 le : p ≤ r
 col : ∀ b, b < p → pc b < c
 up : ∀ a b, a < b → b < p → pc a < pc b
 piv : ∀ b, b < p → g b (pc b) ≠ 0
 below : ∀ a b, b < p → b < a → a < r → g a (pc b) = 0
 rest : ∀ a, p ≤ a → a < r → ∀ j, j < c → g a j = 0
theorem cols_mem {pc : Nat → Nat} {p : Nat} (up : ∀ a b, a < b → b < p → pc a < pc b) : ∀ n N, n ≤ p → (∀ b, b < n → pc b < N) → (List.range n).map pc ∈ chosenL n N := by
 intro n
 induction n with
 | zero => intro N _ _; simp [chosenL]
 | succ n ih =>
   intro N hn hb
   rw [List.range_succ, List.map_append, List.map_singleton]
   exact chosenL_snoc (ih (pc n) (by omega) (fun b hb' => up b n hb' (by omega))) (hb n (by omega))
theorem sumF_one (n : Nat) (g : Nat → Int) (h : ∀ k, 0 < k → k < n + 1 → g k = 0) : sumF (n + 1) g = g 0 := by
 induction n with
 | zero => simp [sumF]
 | succ n ih => rw [sumF, ih (fun k h1 h2 => h k h1 (by omega)), h (n + 1) (by omega) (by omega)]; simp
theorem tri {g : Nat → Nat → Int} {r c p : Nat} {pc : Nat → Nat} (h : Ech g r c p pc) : ∀ n o, o + n ≤ p → mv ((List.range' o n).map g) ((List.range' o n).map pc) ≠ 0 := by
 intro n
 induction n with
 | zero => intro o _; simp [mv]
 | succ n ih =>
   intro o ho
   rw [List.range'_succ, List.map_cons, List.map_cons, mv, List.length_cons, sumF_one _ _ (fun k hk0 hk => ?_)]
   ·have e : signed 0 (g o ((pc o :: (List.range' (o + 1) n).map pc).getD 0 0) * mv ((List.range' (o + 1) n).map g) ((pc o :: (List.range' (o + 1) n).map pc).eraseIdx 0)) = g o (pc o) * mv ((List.range' (o + 1) n).map g) ((List.range' (o + 1) n).map pc) := by simp [signed]
    rw [e]
    intro h0
    rcases Int.mul_eq_zero.1 h0 with h1 | h1
    ·exact h.piv o (by omega) h1
    ·exact ih (o + 1) (by omega) h1
   ·have hz : mv ((List.range' (o + 1) n).map g) ((pc o :: (List.range' (o + 1) n).map pc).eraseIdx k) = 0 := by
     refine mv_zero_col (pc o) _ _ (fun v hv => ?_) ?_ ?_
     ·obtain ⟨a, ha, rfl⟩ := List.mem_map.1 hv
      have ha' := List.mem_range'_1.1 ha
      have := h.le
      exact h.below a o (by omega) (by omega) (by omega)
     ·match k, hk0 with
      | k + 1, _ => simp
     ·rw [List.length_eraseIdx, if_pos (by simpa using hk)]
      simp
    rw [hz]
    unfold signed; split <;> simp
theorem ech_cols {g : Nat → Nat → Int} {r c p : Nat} {pc : Nat → Nat} (h : Ech g r c p pc) : p ≤ c := by
 have key : ∀ b, b < p → b ≤ pc b := by
  intro b
  induction b with
  | zero => intro _; omega
  | succ b ih => intro hb; have h1 := ih (by omega); have h2 := h.up b (b + 1) (by omega) hb; omega
 rcases Nat.eq_zero_or_pos p with h0 | h0
 ·omega
 ·have h1 := key (p - 1) (by omega)
  have h2 := h.col (p - 1) (by omega)
  omega
theorem ech_rank {f g : Nat → Nat → Int} {r c p : Nat} {pc : Nat → Nat} (h : Ech g r c p pc) (hfg : ∀ m, AllV f r c m ↔ AllV g r c m) (hr : r ≤ 4) (_hc : c ≤ 4) : RankIs f r c p := by
 refine ⟨h.le, ech_cols h, fun i hi h0 => ?_, ?_⟩
 ·have hle := h.le
  have h1 := (hfg (i + 1)).1 ((all_div f r c (i + 1) (by omega)).1 h0)
  have h2 := h1 (List.range (i + 1)) List.length_range (fun x hx => by have := List.mem_range.1 hx; omega) ((List.range (i + 1)).map pc) (cols_mem h.up (i + 1) c (by omega) (fun b hb => h.col b (by omega)))
  have h3 := tri h (i + 1) 0 (by omega)
  rw [← List.range_eq_range'] at h3
  exact h3 h2
 ·by_cases hpr : p = r
  ·exact .inl hpr
  ·by_cases hpc : p = c
   ·exact .inr (.inl hpc)
   ·refine .inr (.inr ?_)
    have hle := h.le
    rw [all_div f r c (p + 1) (by omega), hfg, ← all_div g r c (p + 1) (by omega)]
    unfold divF
    rw [gA_zero]
    refine ⟨rfl, fun R hR C hC => ?_⟩
    obtain ⟨Q, last, rfl, hQ, hlast, hlr⟩ := chosenL_last hR
    rw [mv_minor, List.map_append, List.map_singleton]
    have hCm := chosenL_mem (p + 1) c C hC
    have hQm := chosenL_mem p last Q hQ
    exact mv_zero_row (g last) [] (Q.map g) C (fun x hx => h.rest last hlast hlr x (hCm.2 x hx)) (by simp [hCm.1, hQm.1])
theorem mv_at {v v' : Nat → Int} (ys : List (Nat → Int)) : ∀ (xs : List (Nat → Int)) (C : List Nat), (∀ x ∈ C, v x = v' x) → mv (xs ++ v :: ys) C = mv (xs ++ v' :: ys) C := by
 intro xs
 induction xs with
 | nil =>
   intro C hC
   rw [List.nil_append, List.nil_append, mv, mv]
   refine sumF_congr (fun k hk => ?_)
   rw [hC (C.getD k 0) (by rw [List.getD, List.getElem?_eq_getElem hk]; exact List.getElem_mem _)]
 | cons x xs ih =>
   intro C hC
   rw [List.cons_append, List.cons_append, mv, mv]
   refine sumF_congr (fun k _ => ?_)
   rw [ih (C.eraseIdx k) (fun y hy => hC y (List.mem_of_mem_eraseIdx hy))]
theorem mv_sum (u : Nat → Int) (f : Nat → Nat → Int) (xs ys : List (Nat → Int)) (C : List Nat) : ∀ n, mv (xs ++ (fun j => sm (fun k => u k * f k j) n) :: ys) C = sm (fun k => u k * mv (xs ++ f k :: ys) C) n := by
 intro n
 induction n with
 | zero =>
   have := mv_lin 0 0 (fun _ => 0) (fun _ => 0) ys xs C
   rw [Int.zero_mul, Int.zero_mul, Int.add_zero] at this
   rw [sm]
   rw [← this]
   exact mv_at ys xs C (fun x _ => by simp [sm])
 | succ n ih =>
   have h := mv_lin 1 (u n) (fun j => sm (fun k => u k * f k j) n) (f n) ys xs C
   rw [ih] at h
   rw [sm, show sm (fun k => u k * mv (xs ++ f k :: ys) C) n + u n * mv (xs ++ f n :: ys) C = 1 * sm (fun k => u k * mv (xs ++ f k :: ys) C) n + u n * mv (xs ++ f n :: ys) C from by omega, ← h]
   exact mv_at ys xs C (fun x _ => by rw [sm]; omega)
theorem sm_dvd {d : Int} {f : Nat → Int} (n : Nat) (h : ∀ k, k < n → d ∣ f k) : d ∣ sm f n := by
 induction n with
 | zero => exact Int.dvd_zero d
 | succ n ih => rw [sm]; exact Int.dvd_add (ih (fun k hk => h k (by omega))) (h n (by omega))
def CombOf (f : Nat → Nat → Int) (r : Nat) (C : List Nat) (v : Nat → Int) : Prop := ∃ u : Nat → Int, ∀ x ∈ C, v x = sm (fun k => u k * f k x) r
theorem comb_dvd {d : Int} {f : Nat → Nat → Int} {r : Nat} {C : List Nat} (h : AllD d f r C) : ∀ (vs : List (Nat → Int)), (∀ v ∈ vs, CombOf f r C v) → ∀ (xs : List Nat), xs.length + vs.length = C.length → (∀ x ∈ xs, x < r) → d ∣ mv (xs.map f ++ vs) C := by
 intro vs
 induction vs with
 | nil =>
   intro _ xs hl hx
   rw [List.append_nil]
   exact h xs (by simpa using hl) hx
 | cons v vs ih =>
   intro hv xs hl hx
   obtain ⟨u, hu⟩ := hv v (by simp)
   rw [mv_at vs (xs.map f) C hu, mv_sum u f (xs.map f) vs C r]
   refine sm_dvd r (fun k hk => Int.dvd_trans ?_ (Int.dvd_mul_left _ _))
   have := ih (fun v hv' => hv v (by simp [hv'])) (xs ++ [k]) (by simp at hl ⊢; omega) (fun x hx' => by
    rcases List.mem_append.1 hx' with h1 | h1
    ·exact hx x h1
    ·simp at h1; omega)
   simpa using this
theorem allD_comb {d : Int} {f g : Nat → Nat → Int} {r r' : Nat} {C : List Nat} (h : AllD d f r C) (hg : ∀ i, i < r' → CombOf f r C (g i)) : AllD d g r' C := by
 intro R hR hx
 have := comb_dvd h (R.map g) (fun v hv => by
  obtain ⟨i, hi, rfl⟩ := List.mem_map.1 hv
  exact hg i (hx i hi)) [] (by simpa using hR) (fun x hx => by simp at hx)
 simpa using this
theorem comb_of_dot {f g u : Nat → Nat → Int} {r c i : Nat} {C : List Nat} (hC : ∀ x ∈ C, x < c) (h : ∀ j, j < c → dot u f i j r = g i j) : CombOf f r C (g i) :=
 ⟨u i, fun x hx => by rw [← h x (hC x hx), dot_sm]⟩
theorem chosenL_lt {m c : Nat} {C : List Nat} (h : C ∈ chosenL m c) : C.length = m ∧ ∀ x ∈ C, x < c := by
 have := chosenL_mem m c C h
 exact ⟨this.1, fun x hx => by
  obtain ⟨i, hi, he⟩ := List.mem_iff_getElem.1 hx
  have h2 := this.2
  first
   | exact h2 x hx
   | (rw [← he]; exact h2 i hi)⟩
theorem allV_einv {A H U W : Nat → Nat → Int} {r c : Nat} (h : EInv A H U W r c) (m : Nat) : AllV A r c m ↔ AllV H r c m := by
 rw [allV_iff, allV_iff]
 constructor
 ·intro hA C hC
  exact allD_comb (hA C hC) (fun i hi => comb_of_dot (chosenL_lt hC).2 (fun j hj => h.ua i j hi hj))
 ·intro hH C hC
  exact allD_comb (hH C hC) (fun i hi => comb_of_dot (chosenL_lt hC).2 (fun j hj => h.wh i j hi hj))
end Go.Proofs.YtfjbijpagaipnabGreatDoor.R
namespace Go.Proofs.YtfjbijpagaipnabGreatDoor
open Go.RowKit R
theorem EchSt.ech {r c k : Nat} {pc : Nat → Nat} {H : Nat → Nat → Int} (h : EchSt r c k pc H) : Ech H r c k pc :=
 ⟨h.le, h.col, h.up, fun b hb => by have := h.piv b hb; omega, fun a b hb hba har => h.below b hb a hba har, h.rest⟩
theorem ech_rankIs {r c k : Nat} {pc : Nat → Nat} {A H U W : Nat → Nat → Int} (h : EchSt r c k pc H) (hE : EInv A H U W r c) (hr : r ≤ 4) (hc : c ≤ 4) : RankIs A r c k :=
 ech_rank h.ech (fun m => allV_einv hE m) hr hc
theorem IsM.slice {w : World} {s : Value} {r c L : Nat} {zs : List Int} (h : IsM w (.agg #[.int .i64 r, .int .i64 c, s]) r c zs L) : ∃ ao cap, s = .slice ao (r * c) cap := by
 obtain ⟨_, _, sl, h2, h3⟩ := h
 obtain ⟨ao, cap, rfl, -⟩ := h3.shape
 simp only [Value.agg.injEq, Array.mk.injEq, List.cons.injEq, and_true, true_and] at h2
 exact ⟨ao, cap, h2⟩
theorem FitsP.ent {r c : Nat} {zs : List Int} (h : FitsP r c zs) (i j : Nat) (hi : i < r) (hj : j < c) : (ent c zs i j).natAbs < 2 ^ 48 := h.2.2 _ (idx_lt hi hj)
theorem size48 {r c : Nat} (hr : r ≤ 4) (hc : c ≤ 4) : hB r 48 c ≤ 32 * 4000 ∧ uB r 48 c ≤ 32 * 4000 := by
 have key : ∀ r : Fin 5, ∀ c : Fin 5, hB r.val 48 c.val ≤ 32 * 4000 ∧ uB r.val 48 c.val ≤ 32 * 4000 := by decide
 exact key ⟨r, by omega⟩ ⟨c, by omega⟩
theorem gech_fit (v : Value) (r c : Nat) (zs : List Int) (L : Nat) (w : World) (hm : IsM w v r c zs L) (hr : r ≤ 4) (hc : c ≤ 4) (hz : ∀ i j, i < r → j < c → (ent c zs i j).natAbs < 2 ^ 48) (hL : L ≤ 4000) :
 Calls Tryz.prog 37 #[v] w fun e w' => EchOut w w' e r c zs 48 4000 :=
 gech_any v r c zs 48 4000 w (hm.mono hL) (by omega) (by omega) hz (by omega) (size48 hr hc).1 (size48 hr hc).2
open Go.RowKit
theorem IsM.len {w : World} {v : Value} {r c L : Nat} {zs : List Int} (h : IsM w v r c zs L) : zs.length = r * c := by
 obtain ⟨_, _, sl, _, h3⟩ := h
 exact h3.1
open Go.RowKit
theorem set3 (w : World) (b : Nat) {t : TypeId} (ht : Ty w b t) (hne : t ≠ 144) (v0 v1 v2 : Value) : KU w (((w.setCell ⟨b, 0, none⟩ v0).setCell ⟨b, 1, none⟩ v1).setCell ⟨b, 2, none⟩ v2) ∧ w.grownBy (((w.setCell ⟨b, 0, none⟩ v0).setCell ⟨b, 1, none⟩ v1).setCell ⟨b, 2, none⟩ v2) (some b) := by
 have k0 := KU.setCell (o := 0) (KU.refl w) ht hne v0
 have t0 := ht.setCell ⟨b, 0, none⟩ v0
 have k1 := KU.setCell (o := 1) k0 t0 hne v1
 have t1 := t0.setCell ⟨b, 1, none⟩ v1
 have k2 := KU.setCell (o := 2) k1 t1 hne v2
 exact ⟨k2, grown_trans (grown_trans (grown_cell _ _ _ _) (grown_cell _ _ _ _)) (grown_cell _ _ _ _)⟩
theorem Grid.besides {w W : World} {b g n L : Nat} {zs : List Int} (h : Grid w (.slice (some ⟨g, 0, none⟩) n n) n zs L) (hg : w.grownBy W (some b)) (hk : KU w W) (hne : g ≠ b) : Grid W (.slice (some ⟨g, 0, none⟩) n n) n zs L :=
 h.grown hg (fun a m c e => by
  simp only [Value.slice.injEq, Option.some.injEq] at e
  obtain ⟨rfl, -, -⟩ := e
  exact hne) hk
set_option maxRecDepth 100000 in
set_option maxHeartbeats 4000000 in
theorem flip_new (v : Value) (r c : Nat) (zs : List Int) (L : Nat) (w : World) (hm : IsM w v r c zs L) :
 Calls Tryz.prog 105 #[v] w fun e w' => ∃ g ms, e = .returned (.agg #[.int .i64 c, .int .i64 r, .slice (some ⟨g, 0, none⟩) (c * r) (c * r)]) ∧ w.heap.size ≤ g ∧ Grid w' (.slice (some ⟨g, 0, none⟩) (c * r) (c * r)) (c * r) ms L ∧ (∀ i j, i < c → j < r → ent r ms i j = ent c zs j i) ∧ Below w.heap.size w w' := by
 have HM := Hid.mk hm
 obtain ⟨hr, hc, sl, rfl, hg0⟩ := hm
 obtain ⟨ao, cap, rfl, -⟩ := hg0.shape
 clear hg0
 obtain ⟨N, hN⟩ : ∃ N, N = r * c := ⟨_, rfl⟩
 rw [← hN] at HM ⊢
 clear hN
 go_enter Tryz.func105, Tryz.ntmps105
 go_wp2_with fail
 obtain ⟨W0, hW0⟩ : ∃ W0, W0 = (w.alloc (.cells #[.int .i64 r, .int .i64 c, .slice ao N cap] 66)).alloc (.cells #[.int .i64 0, .int .i64 0, .slice none 0 0] 66) := ⟨_, rfl⟩
 have hs0 : W0.heap.size = w.heap.size + 2 := by rw [hW0]; simp
 have hb0 : Below w.heap.size w W0 := by rw [hW0]; repeat (first | exact Below.refl _ _ | refine Below.alloc ?_ (by simp <;> omega) _)
 have hm0 : Trio W0 w.heap.size (.int .i64 r) (.int .i64 c) (.slice ao N cap) := by
  rw [hW0]
  exact Trio.later (w := w.alloc (.cells #[.int .i64 r, .int .i64 c, .slice ao N cap] 66)) ⟨new_cell _ _ _ _ _ rfl rfl, new_cell _ _ _ _ _ rfl rfl, new_cell _ _ _ _ _ rfl rfl⟩ ((Below.refl _ _).alloc (Nat.le_refl _) _)
 have hR0 : W0.heap[w.heap.size + 1]? = some (.cells #[.int .i64 0, .int .i64 0, .slice none 0 0] 66 (0, 0)) := by
  rw [hW0]
  have := heap_alloc_new (w.alloc (.cells #[.int .i64 r, .int .i64 c, .slice ao N cap] 66)) (.cells #[.int .i64 0, .int .i64 0, .slice none 0 0] 66)
  simpa using this
 have K0 := Hid.mk (And.intro hb0 (And.intro hm0 hR0))
 rw [← hW0]
 clear hb0 hm0 hR0 hW0
 refine (noughts_any c r _ hc hr).mono ?_
 rintro e w1 ⟨g, rfl, hg1, hG1, hb1⟩
 have hw1 : W0.heap.size ≤ w1.heap.size := hb1.size
 have hgl := hG1.ty.lt
 have hb11 := (Below.refl w1.heap.size w1).alloc (Nat.le_refl _) (.cells #[.int .i64 c, .int .i64 r, .slice (some ⟨g, 0, none⟩) (c * r) (c * r)] 66)
 have hTm : Tri (w1.alloc (.cells #[.int .i64 c, .int .i64 r, .slice (some ⟨g, 0, none⟩) (c * r) (c * r)] 66)) w1.heap.size 0 (.int .i64 c) (.int .i64 r) (.slice (some ⟨g, 0, none⟩) (c * r) (c * r)) := ⟨new_cell _ _ _ _ _ rfl rfl, new_cell _ _ _ _ _ rfl rfl, new_cell _ _ _ _ _ rfl rfl⟩
 obtain ⟨W1, hW1⟩ : ∃ W1, W1 = w1.alloc (.cells #[.int .i64 c, .int .i64 r, .slice (some ⟨g, 0, none⟩) (c * r) (c * r)] 66) := ⟨_, rfl⟩
 have hs1 : W1.heap.size = w1.heap.size + 1 := by rw [hW1]; simp
 rw [← hW1] at hb11 hTm
 have hbW := hb1.trans (hb11.mono hw1)
 have K1 := Hid.mk (And.intro (show MatO W1 w1.heap.size 0 g c r (List.replicate (c * r) 0) L from ⟨hc, hr, hTm, (hG1.mono (Nat.zero_le _)).below hb11⟩) (And.intro hbW hW1))
 clear hG1 hb1 hb11 hTm hW1 hbW
 go_wp2_with fail
 rw [← K1.out.2.2]
 have hpg : w1.heap.size ≠ g := by omega
 go_loopw [4] (fun i wr => ∃ (a : Nat) (ms : List Int), a ≤ r ∧ i = .int .i64 a ∧ Hid (MatO wr w1.heap.size 0 g c r ms L ∧ W1.grownBy wr (some g) ∧ ∀ i j, i < c → j < r → j < a → ent r ms i j = ent c zs j i)) (fun i _ => r - (intOf i).toNat)
 case atStart => exact ⟨0, _, Nat.zero_le _, rfl, Hid.mk ⟨K1.out.1, World.grownBy.refl _ _, fun i j _ _ h => by omega⟩⟩
 case round =>
  rename World => wo
  obtain ⟨a, ms, ha, rfl, HI⟩ := hrel
  have hTo := (K0.out.2.1.later K1.out.2.1).grown HI.out.2.1 (by omega)
  obtain ⟨q0, q1, q2⟩ := hTo
  by_cases har : a < r
  ·have hai : (a : Int) < (r : Int) := by omega
   go_wp2_with fail
   clear q0 q1 q2
   go_loopw [5] (fun i wr => ∃ (e : Nat) (ns : List Int), e ≤ c ∧ i = .int .i64 e ∧ Hid (MatO wr w1.heap.size 0 g c r ns L ∧ W1.grownBy wr (some g) ∧ ∀ i j, i < c → j < r → (j < a ∨ (j = a ∧ i < e)) → ent r ns i j = ent c zs j i)) (fun i _ => c - (intOf i).toNat)
   case atStart => exact ⟨0, ms, Nat.zero_le _, rfl, Hid.mk ⟨HI.out.1, HI.out.2.1, fun i j x y h => HI.out.2.2 i j x y (by omega)⟩⟩
   case round =>
    rename World => wi
    obtain ⟨e, ns, he, rfl, HJ⟩ := hrel
    have hTi := (K0.out.2.1.later K1.out.2.1).grown HJ.out.2.1 (by omega)
    obtain ⟨q0, q1, q2⟩ := hTi
    have hbi : Below w.heap.size w wi := (K0.out.1.trans (K1.out.2.1.mono (by omega))).trans (below_of_grown HJ.out.2.1 (by omega) (by omega))
    have hwi := HJ.out.2.1.size
    have KI := Hid.mk hbi
    clear hbi
    by_cases hec : e < c
    ·have hei : (e : Int) < (c : Int) := by omega
     go_wp2_with fail
     refine (at_in _ r c a e zs L _ (HM.out.below KI.out) har hec).mono ?_
     rintro e9 w2 ⟨x, rfl, hx, hb2⟩
     obtain ⟨nb2, so2, n2, cp2, rfl⟩ := hx.shape
     have hb22 := (Below.refl w2.heap.size w2).alloc (Nat.le_refl _) (.cells #[.bool nb2, .slice so2 n2 cp2] 79)
     have hbB := hb2.trans (hb22.mono hb2.size)
     have K2 := Hid.mk (And.intro hbB (hx.below hb22))
     clear hx hb2 hb22 hbB q0 q1 q2
     go_wp2_with fail
     refine (set_m w1.heap.size 0 g c r e a ns L _ _ _ (HJ.out.1.later K2.out.1) hpg K2.out.2 hec har).mono ?_
     rintro e9 w3 ⟨rfl, hM3, hgr3, -⟩
     have K3 := Hid.mk (And.intro hM3 (grown_trans (grown_below HJ.out.2.1 K2.out.1) hgr3))
     clear hM3 hgr3
     go_wp2_with fail
     go_roundw
     case measure => simp [intOf]; omega
     case rel =>
      refine ⟨e + 1, _, by omega, by go_num, Hid.mk ⟨K3.out.1, K3.out.2, fun i j hi hj hd => ?_⟩⟩
      rw [ent_set ns c r HJ.out.1.len e a i j _ hec har hj]
      by_cases hij : i = e ∧ j = a
      ·obtain ⟨rfl, rfl⟩ := hij
       rw [if_pos ⟨rfl, rfl⟩]
       rfl
      ·rw [if_neg hij]
       exact HJ.out.2.2 i j hi hj (by omega)
    ·have hei : ¬ (e : Int) < (c : Int) := by omega
     go_wp2_with fail
     go_roundw
     case measure => simp [intOf]; omega
     case rel => exact ⟨a + 1, ns, by omega, by go_num, Hid.mk ⟨HJ.out.1, HJ.out.2.1, fun i j hi hj hd => HJ.out.2.2 i j hi hj (by omega)⟩⟩
  ·have hai : ¬ (a : Int) < (r : Int) := by omega
   have hR : wo.heap[w.heap.size + 1]? = some (.cells #[.int .i64 0, .int .i64 0, .slice none 0 0] 66 (0, 0)) := ((HI.out.2.1.block _ (by omega) (fun e => by injection e with e; omega)).trans (K1.out.2.1.block _ (by omega))).trans K0.out.2.2
   have r0 : wo.cell? ⟨w.heap.size + 1, 0, none⟩ = some (.int .i64 0) := by simp [World.cell?, hR]
   have r1 : wo.cell? ⟨w.heap.size + 1, 1, none⟩ = some (.int .i64 0) := by simp [World.cell?, hR]
   have r2 : wo.cell? ⟨w.heap.size + 1, 2, none⟩ = some (.slice none 0 0) := by simp [World.cell?, hR]
   have f0 : ∀ o, wo.frozen? ⟨w.heap.size + 1, o, none⟩ = false := fun o => by simp [World.frozen?, hR]
   have HT : Hid (Ty wo (w.heap.size + 1) 66) := Hid.mk ⟨_, _, hR⟩
   obtain ⟨s0, s1, s2⟩ := HI.out.1.tri
   clear hR
   go_wp2_with fail
   refine bodyPost_ret (v := .agg #[.int .i64 c, .int .i64 r, .slice (some ⟨g, 0, none⟩) (c * r) (c * r)]) ?_ rfl ?_
   ·(simp [results, Tryz.results105, go_sem, r0, r1, r2]; done)
   ·have h3 := set3 wo (w.heap.size + 1) HT.out (by decide) (.int .i64 c) (.int .i64 r) (.slice (some ⟨g, 0, none⟩) (c * r) (c * r))
    have hbo : Below w.heap.size w wo := (K0.out.1.trans (K1.out.2.1.mono (by omega))).trans (below_of_grown HI.out.2.1 (by omega) (by omega))
    exact ⟨g, rfl, by omega, ms, HI.out.1.grid.besides h3.2 h3.1 (by omega), fun i j hi hj => HI.out.2.2 i j hi hj (by omega), hbo.trans (below_of_grown h3.2 (by omega) hbo.size)⟩
theorem flip_any (v : Value) (r c : Nat) (zs : List Int) (L : Nat) (w : World) (hm : IsM w v r c zs L) :
 Calls Tryz.prog 105 #[v] w fun e w' => ∃ x ms, e = .returned x ∧ IsM w' x c r ms L ∧ (∀ i j, i < c → j < r → ent r ms i j = ent c zs j i) ∧ Below w.heap.size w w' := by
 refine (flip_new v r c zs L w hm).mono ?_
 rintro e w' ⟨g, ms, rfl, -, hG, hP, hb⟩
 exact ⟨_, ms, rfl, ⟨hm.2.1, hm.1, _, rfl, hG⟩, hP, hb⟩
open Go.RowKit
theorem run_copy_part (w : World) (ty : TypeId) (g n m cap : Nat) (ad : Addr) (cur : Array Value) (cs : List Value) (hg : w.heap[g]? = some (.cells cur 79 (0, 0))) (hc : cur.size = n * 2) (hn : cs.length = n * 2) (hnm : n ≤ m)
 (hsrc : ∀ j v, cs[j]? = some v → w.cell? (ad.add j) = some v) (h1 : ∀ v ∈ cs, v.oneCell' = true) :
 (Builtin.copy_ #[64, 64] ty #[.slice (some ⟨g, 0, none⟩) n n, .slice (some ad) m cap]).run Tryz.prog w = .ok (goInt n) (w.setRow g cs.toArray) := by
 obtain ⟨i, hi, hz0, hz1, hz2⟩ := info_parts Tryz.info79
 have hf := run_firstCells_some (P := Tryz.prog) w 2 n ad m cap cs hn hsrc
 have hst := run_storeCells_at Tryz.prog g 0 79 cs 0 cur w hg (by omega) h1
 simp only [Nat.add_zero, Nat.zero_add, List.take_zero, List.nil_append] at hst
 rw [List.drop_of_length_le (by rw [Array.length_toList]; omega), List.append_nil] at hst
 simp [Builtin.copy_, run_underlying Tryz.underlying64, Builtin.lenOf, sizeOf, typeInfo, hi, hz1, show m.min n = n from Nat.min_eq_right hnm, hf, hst]
theorem copy_part (w : World) {ops : Array Oper} {rest : List Oper} {o : Oper} {a : Act} {Q : Exit → Act → World → Prop} (hgd : o.guard = none) (d s : Operand)
 (ho : o.op = .call { callee := .builtin .copy, args := #[d, s], argTypes := #[64, 64] }) (g n m : Nat) (sv : Value) (ys zs : List Int) (M L : Nat) (hnm : n ≤ m)
 (hd : a.eval d = .slice (some ⟨g, 0, none⟩) n n) (hs : a.eval s = sv) (hgr : Grid w (.slice (some ⟨g, 0, none⟩) n n) n ys M) (hsv : Grid w sv m zs L)
 (hK : ∀ w', Grid w' (.slice (some ⟨g, 0, none⟩) n n) n (zs.take n) L → w.grownBy w' (some g) → wpList Tryz.prog ops Q rest (a.put o.dst (goInt n)) w') : wpList Tryz.prog ops Q (o :: rest) a w := by
 refine wpList_plain hgd fun K hK' => ?_
 have hty := hgr.ty
 obtain ⟨h0, cs0, h1, h2⟩ := hgr
 rcases h1.2 with ⟨h3, _⟩ | ⟨g', cap', cur, hv, hgg, hh, r1, r2, r3, r4⟩
 ·simp at h3
 simp only [Value.slice.injEq, Option.some.injEq, Addr.mk.injEq, and_true, true_and] at hv
 obtain ⟨rfl, rfl⟩ := hv
 obtain ⟨k0, cs, k1, k2⟩ := hsv
 rcases k1.2 with ⟨rfl, hn⟩ | ⟨gs, cap, cur2, rfl, hgs, hh2, q1, q2, q3, q4⟩
 ·subst hn
  obtain rfl : n = 0 := by omega
  have hrun := run_copy_zero w o.type g
  unfold Oper.wp
  simp [execOp, ho, resolve, invoke, builtin, hd, hs, hrun, Result.andThen]
  exact hK' _ _ (hK w ⟨by simp, cs0, h1, fun i hi => by omega⟩ (World.grownBy.refl _ _))
 ·have hl : cs.length = m * 2 := k1.1
  have hone : ∀ v ∈ cs.take (n * 2), v.oneCell' = true := by
   intro v hv
   obtain ⟨j, hj, hjv⟩ := List.getElem_of_mem (List.mem_of_mem_take hv)
   obtain ⟨x, y, e1, e2, e3⟩ := k2 (j / 2) (by omega)
   obtain ⟨nb, ao', m', c', e4⟩ := e3.shape
   simp only [Value.agg.injEq, Array.mk.injEq, List.cons.injEq, and_true] at e4
   have hj' : cs[j]? = some v := by rw [List.getElem?_eq_getElem hj, hjv]
   rcases (show j = 2 * (j / 2) ∨ j = 2 * (j / 2) + 1 from by omega) with hjj | hjj
   ·rw [hjj, e1] at hj'; injection hj' with hj'; rw [← hj', e4.1]; rfl
   ·rw [hjj, e2] at hj'; injection hj' with hj'; rw [← hj', e4.2]; rfl
  have htl : (cs.take (n * 2)).length = n * 2 := by rw [List.length_take]; omega
  have hrun := run_copy_part w o.type g n m cap ⟨gs, 0, none⟩ cur (cs.take (n * 2)) hh r3 htl hnm (fun j v hj => World.ownsRow.cells k1 rfl j v (by
   rw [List.getElem?_take] at hj
   split at hj
   ·exact hj
   ·simp at hj)) hone
  unfold Oper.wp
  simp [execOp, ho, resolve, invoke, builtin, hd, hs, hrun, Result.andThen]
  have hgrow : w.grownBy (w.setRow g (cs.take (n * 2)).toArray) (some g) := ⟨rfl, rfl, rfl, by simp [World.setRow], fun k _ hne => setRow_other w g k _ (fun e => hne (by simp [e]))⟩
  have hku : KU w (w.setRow g (cs.take (n * 2)).toArray) := KU.grown hgrow (fun k hk => by simp at hk; subst hk; exact hty)
  have hG : Grid (w.setRow g (cs.take (n * 2)).toArray) (.slice (some ⟨g, 0, none⟩) n n) n (zs.take n) L := by
   refine ⟨by rw [List.length_take]; omega, cs.take (n * 2), ⟨htl, .inr ⟨g, n, (cs.take (n * 2)).toArray, rfl, Nat.zero_le _, setRow_heap w g _ _ _ _ hh, Nat.le_refl _, r2, by simpa using htl, ?_⟩⟩, fun i hi => ?_⟩
   ·rw [List.take_of_length_le (by simp [htl])]
   ·obtain ⟨x, y, e1, e2, e3⟩ := k2 i (by omega)
    refine ⟨x, y, by rw [List.getElem?_take, if_pos (by omega)]; exact e1, by rw [List.getElem?_take, if_pos (by omega)]; exact e2, ?_⟩
    rw [show (zs.take n).getD i 0 = zs.getD i 0 from by simp [List.getD, hi]]
    exact e3.keep hku
  exact hK' _ _ (hK _ hG hgrow)
set_option maxRecDepth 100000 in
set_option maxHeartbeats 2000000 in
theorem fromCells_part (r c m : Nat) (sv : Value) (zs : List Int) (L : Nat) (w : World) (hr : r ≤ 99) (hc : c ≤ 99) (hnm : r * c ≤ m) (hg : Grid w sv m zs L) :
 Calls Tryz.prog 58 #[.int .i64 r, .int .i64 c, sv] w fun e w' => ∃ g, e = .returned (.agg #[.int .i64 r, .int .i64 c, .slice (some ⟨g, 0, none⟩) (r * c) (r * c)]) ∧ w.heap.size ≤ g ∧ Grid w' (.slice (some ⟨g, 0, none⟩) (r * c) (r * c)) (r * c) (zs.take (r * c)) L ∧ Below w.heap.size w w' := by
 obtain ⟨ao, cap, rfl, -⟩ := hg.shape
 have HG := Hid.mk hg
 have HNM := Hid.mk hnm
 clear hg hnm
 go_enter Tryz.func58, Tryz.ntmps58
 go_wp2_with fail
 refine (noughts_any r c _ hr hc).mono ?_
 rintro e w2 ⟨g, rfl, hgn, hg2, hb2⟩
 obtain ⟨hc2, hf2⟩ := bcell hb2
 have hsz2 : w.heap.size < w2.heap.size := by have := hb2.size; simp at this; omega
 have hgl : g < w2.heap.size := hg2.ty.lt
 have hgn2 : w.heap.size + 1 ≤ g := by simpa using hgn
 have hbw : Below w.heap.size w w2 := by
  refine Below.trans ?_ (hb2.mono (by simp <;> omega))
  repeat (first | exact Below.refl _ _ | refine Below.alloc ?_ (by simp <;> omega) _)
 have hres : w2.heap[w.heap.size]? = some (.cells #[.int .i64 0, .int .i64 0, .slice none 0 0] 66 (0, 0)) := by
  rw [hb2.block _ (by simp)]; exact heap_alloc_new w _
 have H2 := Hid.mk (And.intro hg2 (And.intro hbw hres))
 clear hgn hg2 hb2 hbw hres hc2 hf2
 go_wp2_with (refine copy_part _ rfl (.tmp 12) (.tmp 13) rfl g (r * c) m _ (List.replicate (r * c) 0) zs 0 L HNM.out rfl rfl ?_ ?_ ?_)
 ·exact H2.out.1.below ((Below.refl _ _).alloc (Nat.le_refl _) _)
 ·exact (HG.out.below H2.out.2.1).below ((Below.refl _ _).alloc (Nat.le_refl _) _)
 intro w3 hg3 hgr3
 obtain ⟨W2, hW2⟩ : ∃ W2, W2 = w2.alloc (.cells #[.int .i64 r, .int .i64 c, .slice (some ⟨g, 0, none⟩) (r * c) (r * c)] 66) := ⟨_, rfl⟩
 rw [← hW2] at hgr3
 have p0 : W2.cell? ⟨w2.heap.size, 0, none⟩ = some (.int .i64 r) := by rw [hW2]; simp
 have p1 : W2.cell? ⟨w2.heap.size, 1, none⟩ = some (.int .i64 c) := by rw [hW2]; simp
 have p2 : W2.cell? ⟨w2.heap.size, 2, none⟩ = some (.slice (some ⟨g, 0, none⟩) (r * c) (r * c)) := by rw [hW2]; simp
 have q0 := hgr3.cell p0 (by simp; omega)
 have q1 := hgr3.cell p1 (by simp; omega)
 have q2 := hgr3.cell p2 (by simp; omega)
 have hW2s : W2.heap.size = w2.heap.size + 1 := by rw [hW2]; simp
 have hres3 : w3.heap[w.heap.size]? = some (.cells #[.int .i64 0, .int .i64 0, .slice none 0 0] 66 (0, 0)) := by
  rw [hgr3.block _ (by omega) (by simp; omega), hW2, Below.heap_alloc _ _ _ (by omega)]; exact H2.out.2.2
 have hB3 : Below w.heap.size w w3 := by
  have h1 : Below w.heap.size w W2 := by rw [hW2]; exact H2.out.2.1.alloc (by omega) _
  exact h1.grown hgr3 (by omega) (fun j hj => by simp at hj; omega)
 have r0 : w3.cell? ⟨w.heap.size, 0, none⟩ = some (.int .i64 0) := by simp [World.cell?, hres3]
 have r1 : w3.cell? ⟨w.heap.size, 1, none⟩ = some (.int .i64 0) := by simp [World.cell?, hres3]
 have r2 : w3.cell? ⟨w.heap.size, 2, none⟩ = some (.slice none 0 0) := by simp [World.cell?, hres3]
 have z0 : w3.frozen? ⟨w.heap.size, 0, none⟩ = false := by simp [World.frozen?, hres3]
 have z1 : w3.frozen? ⟨w.heap.size, 1, none⟩ = false := by simp [World.frozen?, hres3]
 have z2 : w3.frozen? ⟨w.heap.size, 2, none⟩ = false := by simp [World.frozen?, hres3]
 have HT : Hid (Ty w3 w.heap.size 66) := Hid.mk ⟨_, _, hres3⟩
 have H3 := Hid.mk (And.intro hg3 hB3)
 clear hg3 hB3 hgr3 hres3 p0 p1 p2 hW2 hW2s H2 HG HNM
 go_wp2_with fail
 refine bodyPost_ret (v := .agg #[.int .i64 r, .int .i64 c, .slice (some ⟨g, 0, none⟩) (r * c) (r * c)]) ?_ rfl ?_
 ·(simp [results, Tryz.results58, go_sem, r0, r1, r2]; done)
 ·refine ⟨g, rfl, by omega, H3.out.1.keep (KT.setCell (KT.setCell (KT.setCell (KT.refl _) HT.out (by decide) (by decide) _) (HT.out.setCell _ _) (by decide) (by decide) _) ((HT.out.setCell _ _).setCell _ _) (by decide) (by decide) _), ?_⟩
  exact ((H3.out.2.setCell (Nat.le_refl _) _).setCell (Nat.le_refl _) _).setCell (Nat.le_refl _) _
end Go.Proofs.YtfjbijpagaipnabGreatDoor
