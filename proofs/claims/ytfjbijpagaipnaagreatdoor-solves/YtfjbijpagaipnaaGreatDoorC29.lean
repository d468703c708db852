import Derived.Test.YtfjbijpagaipnaaGreatDoorC28
import Derived.Test.YtfjbijpagaipnaaGreatDoorC23
import Derived.Test.YtfjbijpagaipnaaGreatDoorC24
import Derived.Test.YtfjbijpagaipnaaGreatDoorC03
namespace Go.Proofs.YtfjbijpagaipnaaGreatDoor.R
structure Ech (g : Nat → Nat → Int) (r c p : Nat) (pc : Nat → Nat) : Prop where
 le : p ≤ r
 col : ∀ b, b < p → pc b < c
 up : ∀ a b, a < b → b < p → pc a < pc b
 piv : ∀ b, b < p → g b (pc b) ≠ 0
 below : ∀ a b, b < p → b < a → a < r → g a (pc b) = 0
 rest : ∀ a, p ≤ a → a < r → ∀ j, j < c → g a j = 0
theorem cols_mem {pc : Nat → Nat} {p : Nat} (up : ∀ a b, a < b → b < p → pc a < pc b) : ∀ n N, n ≤ p → (∀ b, b < n → pc b < N) → (List.range n).map pc ∈ chosenL n N := by
 intro n
 induction n with
 | zero => intro N _ _; simp [chosenL]
 | succ n ih =>
   intro N hn hb
   rw [List.range_succ, List.map_append, List.map_singleton]
   exact chosenL_snoc (ih (pc n) (by omega) (fun b hb' => up b n hb' (by omega))) (hb n (by omega))
theorem sumF_one (n : Nat) (g : Nat → Int) (h : ∀ k, 0 < k → k < n + 1 → g k = 0) : sumF (n + 1) g = g 0 := by
 induction n with
 | zero => simp [sumF]
 | succ n ih => rw [sumF, ih (fun k h1 h2 => h k h1 (by omega)), h (n + 1) (by omega) (by omega)]; simp
theorem tri {g : Nat → Nat → Int} {r c p : Nat} {pc : Nat → Nat} (h : Ech g r c p pc) : ∀ n o, o + n ≤ p → mv ((List.range' o n).map g) ((List.range' o n).map pc) ≠ 0 := by
 intro n
 induction n with
 | zero => intro o _; simp [mv]
 | succ n ih =>
   intro o ho
   rw [List.range'_succ, List.map_cons, List.map_cons, mv, List.length_cons, sumF_one _ _ (fun k hk0 hk => ?_)]
   ·have e : signed 0 (g o ((pc o :: (List.range' (o + 1) n).map pc).getD 0 0) * mv ((List.range' (o + 1) n).map g) ((pc o :: (List.range' (o + 1) n).map pc).eraseIdx 0)) = g o (pc o) * mv ((List.range' (o + 1) n).map g) ((List.range' (o + 1) n).map pc) := by simp [signed]
    rw [e]
    intro h0
    rcases Int.mul_eq_zero.1 h0 with h1 | h1
    ·exact h.piv o (by omega) h1
    ·exact ih (o + 1) (by omega) h1
   ·have hz : mv ((List.range' (o + 1) n).map g) ((pc o :: (List.range' (o + 1) n).map pc).eraseIdx k) = 0 := by
     refine mv_zero_col (pc o) _ _ (fun v hv => ?_) ?_ ?_
     ·obtain ⟨a, ha, rfl⟩ := List.mem_map.1 hv
      have ha' := List.mem_range'_1.1 ha
      have := h.le
      exact h.below a o (by omega) (by omega) (by omega)
     ·match k, hk0 with
      | k + 1, _ => simp
     ·rw [List.length_eraseIdx, if_pos (by simpa using hk)]
      simp
    rw [hz]
    unfold signed; split <;> simp
theorem ech_cols {g : Nat → Nat → Int} {r c p : Nat} {pc : Nat → Nat} (h : Ech g r c p pc) : p ≤ c := by
 have key : ∀ b, b < p → b ≤ pc b := by
  intro b
  induction b with
  | zero => intro _; omega
  | succ b ih => intro hb; have h1 := ih (by omega); have h2 := h.up b (b + 1) (by omega) hb; omega
 rcases Nat.eq_zero_or_pos p with h0 | h0
 ·omega
 ·have h1 := key (p - 1) (by omega)
  have h2 := h.col (p - 1) (by omega)
  omega
theorem ech_rank {f g : Nat → Nat → Int} {r c p : Nat} {pc : Nat → Nat} (h : Ech g r c p pc) (hfg : ∀ m, AllV f r c m ↔ AllV g r c m) (hr : r ≤ 4) (_hc : c ≤ 4) : RankIs f r c p := by
 refine ⟨h.le, ech_cols h, fun i hi h0 => ?_, ?_⟩
 ·have hle := h.le
  have h1 := (hfg (i + 1)).1 ((all_div f r c (i + 1) (by omega)).1 h0)
  have h2 := h1 (List.range (i + 1)) List.length_range (fun x hx => by have := List.mem_range.1 hx; omega) ((List.range (i + 1)).map pc) (cols_mem h.up (i + 1) c (by omega) (fun b hb => h.col b (by omega)))
  have h3 := tri h (i + 1) 0 (by omega)
  rw [← List.range_eq_range'] at h3
  exact h3 h2
 ·by_cases hpr : p = r
  ·exact .inl hpr
  ·by_cases hpc : p = c
   ·exact .inr (.inl hpc)
   ·refine .inr (.inr ?_)
    have hle := h.le
    rw [all_div f r c (p + 1) (by omega), hfg, ← all_div g r c (p + 1) (by omega)]
    unfold divF
    rw [gA_zero]
    refine ⟨rfl, fun R hR C hC => ?_⟩
    obtain ⟨Q, last, rfl, hQ, hlast, hlr⟩ := chosenL_last hR
    rw [mv_minor, List.map_append, List.map_singleton]
    have hCm := chosenL_mem (p + 1) c C hC
    have hQm := chosenL_mem p last Q hQ
    exact mv_zero_row (g last) [] (Q.map g) C (fun x hx => h.rest last hlast hlr x (hCm.2 x hx)) (by simp [hCm.1, hQm.1])
end Go.Proofs.YtfjbijpagaipnaaGreatDoor.R
namespace Go.Proofs.YtfjbijpagaipnaaGreatDoor
def sm (f : Nat → Int) : Nat → Int
 | 0 => 0
 | t + 1 => sm f t + f t
theorem dot_sm (f g : Nat → Nat → Int) (i j t : Nat) : dot f g i j t = sm (fun k => f i k * g k j) t := by
 induction t with
 | zero => rfl
 | succ t ih => rw [dot, sm, ih]
theorem sm_congr {f g : Nat → Int} (t : Nat) (h : ∀ k, k < t → f k = g k) : sm f t = sm g t := by
 induction t with
 | zero => rfl
 | succ t ih => rw [sm, sm, ih (fun k hk => h k (by omega)), h t (by omega)]
theorem sm_lin (a b : Int) (f g : Nat → Int) (t : Nat) : sm (fun k => a * f k + b * g k) t = a * sm f t + b * sm g t := by
 induction t with
 | zero => simp [sm]
 | succ t ih => rw [sm, sm, sm, ih]; grind
theorem sm_zero {f : Nat → Int} (t : Nat) (h : ∀ k, k < t → f k = 0) : sm f t = 0 := by
 induction t with
 | zero => rfl
 | succ t ih => rw [sm, ih (fun k hk => h k (by omega)), h t (by omega)]; rfl
theorem sm_one {f : Nat → Int} (t a : Nat) (ha : a < t) (h : ∀ k, k < t → k ≠ a → f k = 0) : sm f t = f a := by
 induction t with
 | zero => omega
 | succ t ih =>
   rw [sm]
   by_cases hat : a = t
   ·subst hat
    rw [sm_zero a (fun k hk => h k (by omega) (by omega))]; omega
   ·rw [ih (by omega) (fun k hk hne => h k (by omega) hne), h t (by omega) (fun e => hat e.symm)]; omega
theorem sm_sub (f g : Nat → Int) (t : Nat) : sm f t - sm g t = sm (fun k => f k - g k) t := by
 induction t with
 | zero => rfl
 | succ t ih => rw [sm, sm, sm, ← ih]; omega
theorem sm_two {f g : Nat → Int} {t a b : Nat} (ha : a < t) (hb : b < t) (hab : a ≠ b) (h : ∀ k, k < t → k ≠ a → k ≠ b → f k = g k) (hs : f a + f b = g a + g b) : sm f t = sm g t := by
 have h1 := sm_sub f g t
 have key : ∀ t, a < t → b < t → ∀ d : Nat → Int, (∀ k, k < t → k ≠ a → k ≠ b → d k = 0) → sm d t = d a + d b := by
  intro t
  induction t with
  | zero => intro h; omega
  | succ t ih =>
    intro ha hb d hd
    rw [sm]
    by_cases hat : a = t
    ·subst hat
     rw [sm_one a b (by omega) (fun k hk hne => hd k (by omega) (by omega) hne)]; omega
    ·by_cases hbt : b = t
     ·subst hbt
      rw [sm_one b a (by omega) (fun k hk hne => hd k (by omega) hne (by omega))]
     ·rw [ih (by omega) (by omega) d (fun k hk h1 h2 => hd k (by omega) h1 h2), hd t (by omega) (fun e => hat e.symm) (fun e => hbt e.symm)]; omega
 have h2 := key t ha hb (fun k => f k - g k) (fun k hk h1 h2 => by show f k - g k = 0; rw [h k hk h1 h2]; omega)
 have h3 : (fun k => f k - g k) a + (fun k => f k - g k) b = 0 := by show f a - g a + (f b - g b) = 0; omega
 omega
def kd (i j : Nat) : Int := if i = j then 1 else 0
structure EInv (A H U W : Nat → Nat → Int) (r c : Nat) : Prop where
 ua : ∀ i j, i < r → j < c → dot U A i j r = H i j
 uw : ∀ i j, i < r → j < r → dot U W i j r = kd i j
 wu : ∀ i j, i < r → j < r → dot W U i j r = kd i j
 wh : ∀ i j, i < r → j < c → dot W H i j r = A i j
theorem EInv.start (A : Nat → Nat → Int) (r c : Nat) : EInv A A kd kd r c := by
 have h1 : ∀ (F : Nat → Nat → Int) i j, i < r → dot kd F i j r = F i j := by
  intro F i j hi
  rw [dot_sm, sm_one r i hi (fun k _ hne => by show kd i k * F k j = 0; unfold kd; rw [if_neg (fun e => hne e.symm)]; simp)]
  unfold kd; rw [if_pos rfl]; simp
 exact ⟨fun i j hi _ => h1 _ i j hi, fun i j hi _ => h1 _ i j hi, fun i j hi _ => h1 _ i j hi, fun i j hi _ => h1 _ i j hi⟩
theorem EInv.congr {A H U W A' H' U' W' : Nat → Nat → Int} {r c : Nat} (h : EInv A H U W r c) (hA : ∀ i j, i < r → j < c → A' i j = A i j) (hH : ∀ i j, i < r → j < c → H' i j = H i j) (hU : ∀ i j, i < r → j < r → U' i j = U i j) (hW : ∀ i j, i < r → j < r → W' i j = W i j) : EInv A' H' U' W' r c := by
 refine ⟨fun i j hi hj => ?_, fun i j hi hj => ?_, fun i j hi hj => ?_, fun i j hi hj => ?_⟩
 ·rw [hH i j hi hj, ← h.ua i j hi hj]; exact dot_congr r (fun k hk => hU i k hi hk) (fun k hk => hA k j hk hj)
 ·rw [← h.uw i j hi hj]; exact dot_congr r (fun k hk => hU i k hi hk) (fun k hk => hW k j hk hj)
 ·rw [← h.wu i j hi hj]; exact dot_congr r (fun k hk => hW i k hi hk) (fun k hk => hU k j hk hj)
 ·rw [hA i j hi hj, ← h.wh i j hi hj]; exact dot_congr r (fun k hk => hW i k hi hk) (fun k hk => hH k j hk hj)
def swq (a b i : Nat) : Nat := if i = a then b else if i = b then a else i
theorem swq_lt {a b i r : Nat} (ha : a < r) (hb : b < r) (hi : i < r) : swq a b i < r := by unfold swq; split <;> (try split) <;> omega
theorem swq_inj {a b i j : Nat} : swq a b i = swq a b j ↔ i = j := by
 unfold swq
 constructor
 ·intro h; split at h <;> split at h <;> (try split at h) <;> (try split at h) <;> omega
 ·rintro rfl; rfl
theorem EInv.swap {A H U W : Nat → Nat → Int} {r c : Nat} (h : EInv A H U W r c) {a b : Nat} (ha : a < r) (hb : b < r) : EInv A (fun i j => H (swq a b i) j) (fun i j => U (swq a b i) j) (fun i j => W i (swq a b j)) r c := by
 have hs : ∀ f : Nat → Int, sm (fun k => f (swq a b k)) r = sm f r := by
  intro f
  by_cases hab : a = b
  ·subst hab
   refine sm_congr r (fun k _ => ?_)
   unfold swq
   split <;> (try split) <;> simp_all
  ·refine sm_two ha hb hab (fun k _ h1 h2 => ?_) ?_
   ·unfold swq; rw [if_neg h1, if_neg h2]
   ·unfold swq; rw [if_pos rfl, if_neg (fun e => hab e.symm), if_pos rfl]; omega
 refine ⟨fun i j hi hj => ?_, fun i j hi hj => ?_, fun i j hi hj => ?_, fun i j hi hj => ?_⟩
 ·rw [← h.ua (swq a b i) j (swq_lt ha hb hi) hj, dot_sm, dot_sm]
 ·have := h.uw (swq a b i) (swq a b j) (swq_lt ha hb hi) (swq_lt ha hb hj)
  rw [dot_sm] at this ⊢
  rw [this]
  unfold kd
  simp only [swq_inj]
 ·have := h.wu i j hi hj
  rw [dot_sm] at this ⊢
  rw [← this]
  exact hs (fun k => W i k * U k j)
 ·have := h.wh i j hi hj
  rw [dot_sm] at this ⊢
  rw [← this]
  exact hs (fun k => W i k * H k j)
theorem EInv.turn {A H U W : Nat → Nat → Int} {r c : Nat} (h : EInv A H U W r c) (a : Nat) : EInv A (fun i j => if i = a then -H i j else H i j) (fun i j => if i = a then -U i j else U i j) (fun i j => if j = a then -W i j else W i j) r c := by
 have hn : ∀ (f : Nat → Int) t, sm (fun k => -f k) t = -sm f t := by
  intro f t
  induction t with
  | zero => rfl
  | succ t ih => rw [sm, sm, ih]; omega
 refine ⟨fun i j hi hj => ?_, fun i j hi hj => ?_, fun i j hi hj => ?_, fun i j hi hj => ?_⟩
 ·have := h.ua i j hi hj
  rw [dot_sm] at this ⊢
  by_cases hia : i = a
  ·simp only [hia, if_true] at this ⊢
   rw [← this, ← hn]
   exact sm_congr r (fun k _ => by grind)
  ·simp only [hia, if_false] at this ⊢
   exact this
 ·have := h.uw i j hi hj
  rw [dot_sm] at this ⊢
  by_cases hia : i = a <;> by_cases hja : j = a
  ·simp only [hia, hja, if_true] at this ⊢
   rw [← this]
   exact sm_congr r (fun k _ => by grind)
  ·have e0 : kd i j = 0 := by unfold kd; rw [if_neg (by omega)]
   rw [e0] at this ⊢
   simp only [hia, hja, if_true, if_false] at this ⊢
   have e1 := hn (fun k => U a k * W k j) r
   rw [this] at e1
   rw [show (0 : Int) = -0 from rfl, ← e1]
   exact sm_congr r (fun k _ => by grind)
  ·have e0 : kd i j = 0 := by unfold kd; rw [if_neg (by omega)]
   rw [e0] at this ⊢
   simp only [hia, hja, if_true, if_false] at this ⊢
   have e1 := hn (fun k => U i k * W k a) r
   rw [this] at e1
   rw [show (0 : Int) = -0 from rfl, ← e1]
   exact sm_congr r (fun k _ => by grind)
  ·simp only [hia, hja, if_false] at this ⊢
   exact this
 ·have := h.wu i j hi hj
  rw [dot_sm] at this ⊢
  rw [← this]
  refine sm_congr r (fun k _ => ?_)
  by_cases hka : k = a
  ·simp only [hka, if_true]; grind
  ·simp only [hka, if_false]
 ·have := h.wh i j hi hj
  rw [dot_sm] at this ⊢
  rw [← this]
  refine sm_congr r (fun k _ => ?_)
  by_cases hka : k = a
  ·simp only [hka, if_true]; grind
  ·simp only [hka, if_false]
theorem sm_take (u v x : Nat → Int) (z : Int) (r : Nat) : sm (fun k => (u k - v k * z) * x k) r = sm (fun k => u k * x k) r - z * sm (fun k => v k * x k) r := by
 induction r with
 | zero => simp [sm]
 | succ r ih => rw [sm, sm, sm, ih]; grind
theorem EInv.take {A H U W : Nat → Nat → Int} {r c : Nat} (h : EInv A H U W r c) {a b : Nat} (z : Int) (ha : a < r) (hb : b < r) (hab : a ≠ b) :
 EInv A (fun i j => if i = a then H a j - H b j * z else H i j) (fun i j => if i = a then U a j - U b j * z else U i j) (fun i j => if j = b then W i b - W i a * (-z) else W i j) r c := by
 have hba : b ≠ a := fun e => hab e.symm
 refine ⟨fun i j hi hj => ?_, fun i j hi hj => ?_, fun i j hi hj => ?_, fun i j hi hj => ?_⟩
 ·by_cases hia : i = a
  ·have h1 := h.ua a j ha hj
   have h2 := h.ua b j hb hj
   rw [dot_sm] at h1 h2 ⊢
   simp only [hia, if_true]
   rw [← h1, ← h2]
   have := sm_lin 1 (-z) (fun k => U a k * A k j) (fun k => U b k * A k j) r
   rw [show sm (fun k => U a k * A k j) r - sm (fun k => U b k * A k j) r * z = 1 * sm (fun k => U a k * A k j) r + -z * sm (fun k => U b k * A k j) r from by grind, ← this]
   exact sm_congr r (fun k _ => by grind)
  ·have h1 := h.ua i j hi hj
   rw [dot_sm] at h1 ⊢
   simp only [hia, if_false]
   exact h1
 ·have e1 : ∀ i', i' < r → dot (fun i j => U i j) (fun i j => if j = b then W i b - W i a * (-z) else W i j) i' j r = kd i' j + (if j = b then z * kd i' a else 0) := by
   intro i' hi'
   have h1 := h.uw i' j hi' hj
   have h2 := h.uw i' a hi' ha
   by_cases hjb : j = b
   ·rw [dot_sm] at h1 h2 ⊢
    simp only [hjb, if_true] at h1 ⊢
    rw [← h1, ← h2]
    have := sm_lin 1 z (fun k => U i' k * W k b) (fun k => U i' k * W k a) r
    rw [show sm (fun k => U i' k * W k b) r + z * sm (fun k => U i' k * W k a) r = 1 * sm (fun k => U i' k * W k b) r + z * sm (fun k => U i' k * W k a) r from by grind, ← this]
    exact sm_congr r (fun k _ => by grind)
   ·rw [dot_sm] at h1 ⊢
    simp only [hjb, if_false]
    rw [h1]; omega
  by_cases hia : i = a
  ·have h1 := e1 a ha
   have h2 := e1 b hb
   rw [dot_sm] at h1 h2 ⊢
   simp only [hia, if_true]
   refine (sm_take _ _ (fun k => if j = b then W k b - W k a * (-z) else W k j) z r).trans ?_
   rw [show sm (fun k => U a k * (fun k => if j = b then W k b - W k a * (-z) else W k j) k) r = kd a j + (if j = b then z * kd a a else 0) from h1, show sm (fun k => U b k * (fun k => if j = b then W k b - W k a * (-z) else W k j) k) r = kd b j + (if j = b then z * kd b a else 0) from h2]
   unfold kd
   by_cases hjb : j = b
   ·subst hjb
    simp only [if_true, if_neg hab, if_neg hba]
    omega
   ·simp only [if_neg hjb, if_neg (fun e : b = j => hjb e.symm)]
    omega
  ·have h1 := e1 i hi
   rw [dot_sm] at h1 ⊢
   simp only [hia, if_false]
   rw [h1]
   unfold kd
   rw [if_neg hia]
   split <;> omega
 ·have h1 := h.wu i j hi hj
  rw [dot_sm] at h1 ⊢
  rw [← h1]
  refine sm_two ha hb hab (fun k _ k1 k2 => ?_) ?_
  ·simp only [k1, k2, if_false]
  ·simp only [hab, hba, if_true, if_false]; grind
 ·have h1 := h.wh i j hi hj
  rw [dot_sm] at h1 ⊢
  rw [← h1]
  refine sm_two ha hb hab (fun k _ k1 k2 => ?_) ?_
  ·simp only [k1, k2, if_false]
  ·simp only [hab, hba, if_true, if_false]; grind
end Go.Proofs.YtfjbijpagaipnaaGreatDoor
namespace Go.Proofs.YtfjbijpagaipnaaGreatDoor.R
theorem mv_at {v v' : Nat → Int} (ys : List (Nat → Int)) : ∀ (xs : List (Nat → Int)) (C : List Nat), (∀ x ∈ C, v x = v' x) → mv (xs ++ v :: ys) C = mv (xs ++ v' :: ys) C := by
 intro xs
 induction xs with
 | nil =>
   intro C hC
   rw [List.nil_append, List.nil_append, mv, mv]
   refine sumF_congr (fun k hk => ?_)
   rw [hC (C.getD k 0) (by rw [List.getD, List.getElem?_eq_getElem hk]; exact List.getElem_mem _)]
 | cons x xs ih =>
   intro C hC
   rw [List.cons_append, List.cons_append, mv, mv]
   refine sumF_congr (fun k _ => ?_)
   rw [ih (C.eraseIdx k) (fun y hy => hC y (List.mem_of_mem_eraseIdx hy))]
theorem mv_sum (u : Nat → Int) (f : Nat → Nat → Int) (xs ys : List (Nat → Int)) (C : List Nat) : ∀ n, mv (xs ++ (fun j => sm (fun k => u k * f k j) n) :: ys) C = sm (fun k => u k * mv (xs ++ f k :: ys) C) n := by
 intro n
 induction n with
 | zero =>
   have := mv_lin 0 0 (fun _ => 0) (fun _ => 0) ys xs C
   rw [Int.zero_mul, Int.zero_mul, Int.add_zero] at this
   rw [sm]
   rw [← this]
   exact mv_at ys xs C (fun x _ => by simp [sm])
 | succ n ih =>
   have h := mv_lin 1 (u n) (fun j => sm (fun k => u k * f k j) n) (f n) ys xs C
   rw [ih] at h
   rw [sm, show sm (fun k => u k * mv (xs ++ f k :: ys) C) n + u n * mv (xs ++ f n :: ys) C = 1 * sm (fun k => u k * mv (xs ++ f k :: ys) C) n + u n * mv (xs ++ f n :: ys) C from by omega, ← h]
   exact mv_at ys xs C (fun x _ => by rw [sm]; omega)
theorem sm_dvd {d : Int} {f : Nat → Int} (n : Nat) (h : ∀ k, k < n → d ∣ f k) : d ∣ sm f n := by
 induction n with
 | zero => exact Int.dvd_zero d
 | succ n ih => rw [sm]; exact Int.dvd_add (ih (fun k hk => h k (by omega))) (h n (by omega))
def CombOf (f : Nat → Nat → Int) (r : Nat) (C : List Nat) (v : Nat → Int) : Prop := ∃ u : Nat → Int, ∀ x ∈ C, v x = sm (fun k => u k * f k x) r
theorem comb_dvd {d : Int} {f : Nat → Nat → Int} {r : Nat} {C : List Nat} (h : AllD d f r C) : ∀ (vs : List (Nat → Int)), (∀ v ∈ vs, CombOf f r C v) → ∀ (xs : List Nat), xs.length + vs.length = C.length → (∀ x ∈ xs, x < r) → d ∣ mv (xs.map f ++ vs) C := by
 intro vs
 induction vs with
 | nil =>
   intro _ xs hl hx
   rw [List.append_nil]
   exact h xs (by simpa using hl) hx
 | cons v vs ih =>
   intro hv xs hl hx
   obtain ⟨u, hu⟩ := hv v (by simp)
   rw [mv_at vs (xs.map f) C hu, mv_sum u f (xs.map f) vs C r]
   refine sm_dvd r (fun k hk => Int.dvd_trans ?_ (Int.dvd_mul_left _ _))
   have := ih (fun v hv' => hv v (by simp [hv'])) (xs ++ [k]) (by simp at hl ⊢; omega) (fun x hx' => by
    rcases List.mem_append.1 hx' with h1 | h1
    ·exact hx x h1
    ·simp at h1; omega)
   simpa using this
theorem allD_comb {d : Int} {f g : Nat → Nat → Int} {r r' : Nat} {C : List Nat} (h : AllD d f r C) (hg : ∀ i, i < r' → CombOf f r C (g i)) : AllD d g r' C := by
 intro R hR hx
 have := comb_dvd h (R.map g) (fun v hv => by
  obtain ⟨i, hi, rfl⟩ := List.mem_map.1 hv
  exact hg i (hx i hi)) [] (by simpa using hR) (fun x hx => by simp at hx)
 simpa using this
theorem comb_of_dot {f g u : Nat → Nat → Int} {r c i : Nat} {C : List Nat} (hC : ∀ x ∈ C, x < c) (h : ∀ j, j < c → dot u f i j r = g i j) : CombOf f r C (g i) :=
 ⟨u i, fun x hx => by rw [← h x (hC x hx), dot_sm]⟩
theorem chosenL_lt {m c : Nat} {C : List Nat} (h : C ∈ chosenL m c) : C.length = m ∧ ∀ x ∈ C, x < c := by
 have := chosenL_mem m c C h
 exact ⟨this.1, fun x hx => by
  obtain ⟨i, hi, he⟩ := List.mem_iff_getElem.1 hx
  have h2 := this.2
  first
   | exact h2 x hx
   | (rw [← he]; exact h2 i hi)⟩
theorem allV_einv {A H U W : Nat → Nat → Int} {r c : Nat} (h : EInv A H U W r c) (m : Nat) : AllV A r c m ↔ AllV H r c m := by
 rw [allV_iff, allV_iff]
 constructor
 ·intro hA C hC
  exact allD_comb (hA C hC) (fun i hi => comb_of_dot (chosenL_lt hC).2 (fun j hj => h.ua i j hi hj))
 ·intro hH C hC
  exact allD_comb (hH C hC) (fun i hi => comb_of_dot (chosenL_lt hC).2 (fun j hj => h.wh i j hi hj))
end Go.Proofs.YtfjbijpagaipnaaGreatDoor.R
namespace Go.Proofs.YtfjbijpagaipnaaGreatDoor
open Go.RowKit
def Trio (w : World) (b : Nat) (x y z : Value) : Prop := w.cell? ⟨b, 0, none⟩ = some x ∧ w.cell? ⟨b, 1, none⟩ = some y ∧ w.cell? ⟨b, 2, none⟩ = some z
theorem Trio.later {w w' : World} {b : Nat} {x y z : Value} (h : Trio w b x y z) (hb : Below w.heap.size w w') : Trio w' b x y z := ⟨cell_later hb h.1, cell_later hb h.2.1, cell_later hb h.2.2⟩
theorem Trio.grown {w w' : World} {b s : Nat} {x y z : Value} (h : Trio w b x y z) (hg : w.grownBy w' (some s)) (hne : b ≠ s) : Trio w' b x y z := ⟨hg.cell h.1 (by simpa using hne), hg.cell h.2.1 (by simpa using hne), hg.cell h.2.2 (by simpa using hne)⟩
set_option maxRecDepth 100000 in
set_option maxHeartbeats 4000000 in
theorem dotm_any (v u : Value) (r q c row col : Nat) (zs ys : List Int) (L : Nat) (w : World) (hm : IsM w v r q zs L) (hn : IsM w u q c ys L) (hrow : row < r) (hcol : col < c) (hL : L ≤ 200000000) :
 Calls Tryz.prog 86 #[v, .int .i64 row, u, .int .i64 col] w fun e w' => ∃ x, e = .returned x ∧ IntOut w w' x (dot (fun i j => zs.getD (i * q + j) 0) (fun i j => ys.getD (i * c + j) 0) row col q) (L + L + 1 + q) := by
 have HM := Hid.mk hm
 have HN := Hid.mk hn
 obtain ⟨hr, hq, sl, rfl, hg0⟩ := hm
 obtain ⟨ao, cap, rfl, -⟩ := hg0.shape
 obtain ⟨-, hc, sl', rfl, hg1⟩ := hn
 obtain ⟨bo, dap, rfl, -⟩ := hg1.shape
 clear hg0 hg1
 obtain ⟨N, hN⟩ : ∃ N, N = r * q := ⟨_, rfl⟩
 rw [← hN] at HM ⊢
 obtain ⟨M, hM⟩ : ∃ M, M = q * c := ⟨_, rfl⟩
 rw [← hM] at HN ⊢
 clear hN hM
 go_enter Tryz.func86, Tryz.ntmps86
 go_wp2_with fail
 obtain ⟨W1, hW1⟩ : ∃ W1, W1 = (((w.alloc (.cells #[.int .i64 r, .int .i64 q, .slice ao N cap] 76)).alloc (.cells #[.int .i64 q, .int .i64 c, .slice bo M dap] 76)).alloc (.cells #[.bool false, .slice none 0 0] 94)).alloc (.cells #[.bool false, .slice none 0 0] 94) := ⟨_, rfl⟩
 rw [← hW1]
 have hB1 : Below w.heap.size w W1 := by
  rw [hW1]
  repeat (first | exact Below.refl _ _ | refine Below.alloc ?_ (by simp <;> omega) _)
 have hm1 : Trio W1 w.heap.size (.int .i64 r) (.int .i64 q) (.slice ao N cap) := by
  rw [hW1]
  exact ⟨cell3 (by simp) _ _ _, cell3 (by simp) _ _ _, cell3 (by simp) _ _ _⟩
 have hn1 : Trio W1 (w.heap.size + 1) (.int .i64 q) (.int .i64 c) (.slice bo M dap) := by
  rw [hW1]
  exact ⟨cell1 (cell1 (new_cell _ _ _ _ _ (by simp) rfl) _) _, cell1 (cell1 (new_cell _ _ _ _ _ (by simp) rfl) _) _, cell1 (cell1 (new_cell _ _ _ _ _ (by simp) rfl) _) _⟩
 have hd1 : Duo W1 (w.heap.size + 1 + 1 + 1) (.bool false) (.slice none 0 0) := by rw [hW1]; exact Duo.new _ _ _ (by simp)
 have hres : Duo W1 (w.heap.size + 1 + 1) (.bool false) (.slice none 0 0) := by
  rw [hW1]
  exact (Duo.new _ _ _ (by simp)).below ((Below.refl _ _).alloc (Nat.le_refl _) _) (by simp)
 obtain ⟨sb, hsb⟩ : ∃ sb, sb = w.heap.size + 1 + 1 + 1 := ⟨_, rfl⟩
 rw [← hsb] at hd1 ⊢
 have hsb1 : w.heap.size + 3 ≤ sb := by omega
 have hS1 : W1.heap.size = sb + 1 := by rw [hW1, hsb]; simp
 have FF := Hid.mk (And.intro hm1 (And.intro hn1 (And.intro hres hS1)))
 have H1 := Hid.mk (And.intro hd1 hB1)
 have HSB := Hid.mk hsb
 clear hm1 hn1 hres hd1 hB1 hW1 hS1 hsb
 go_loopw [10] (fun i wr => ∃ (t : Nat) (nb : Bool) (so : Option Addr) (n ecap : Nat), t ≤ q ∧ i = .int .i64 t ∧ Duo wr sb (.bool nb) (.slice so n ecap) ∧ IsI wr (.agg #[.bool nb, .slice so n ecap]) (dot (fun i j => zs.getD (i * q + j) 0) (fun i j => ys.getD (i * c + j) 0) row col t) (L + L + 1 + t) ∧ W1.grownBy wr (some sb) ∧ Below w.heap.size w wr) (fun i _ => q - (intOf i).toNat)
 case atStart => exact ⟨0, _, _, _, _, Nat.zero_le _, rfl, H1.out.1, IsI.zero _ _, World.grownBy.refl _ _, H1.out.2⟩
 case round =>
  obtain ⟨t, nb, so, n, ecap, ht, rfl, hD, hI, hgr, hB⟩ := hrel
  obtain ⟨q0, q1, q2⟩ := FF.out.1.grown hgr (by omega)
  have hnT := FF.out.2.1.grown hgr (by omega)
  have hwr := hB.size
  have K := Hid.mk (And.intro hD (And.intro hI (And.intro hgr (And.intro hB hnT))))
  clear hD hI hgr hB hnT
  by_cases htq : t < q
  ·have hti : (t : Int) < (q : Int) := by omega
   go_wp2_with fail
   refine (at_in _ r q row t zs L _ (HM.out.below K.out.2.2.2.1) hrow htq).mono ?_
   rintro e w4 ⟨x, rfl, hx, hb4⟩
   obtain ⟨nb1, so1, n1, cp1, rfl⟩ := hx.shape
   have hbA : Below wr.heap.size wr (w4.alloc (.cells #[.bool nb1, .slice so1 n1 cp1] 94)) := hb4.alloc hb4.size _
   have hl4 := (Duo.new w4 (.bool nb1) (.slice so1 n1 cp1) rfl)
   have hxa := hx.below ((Below.refl w4.heap.size w4).alloc (Nat.le_refl _) (.cells #[.bool nb1, .slice so1 n1 cp1] 94))
   obtain ⟨e0, e1, e2⟩ := K.out.2.2.2.2.later hbA
   have hw4 := hb4.size
   have KA := Hid.mk (And.intro hbA (And.intro hl4 hxa))
   clear hbA hl4 hxa hx hb4 q0 q1 q2
   go_wp2_with fail
   refine (at_in _ q c t col ys L _ (HN.out.below (K.out.2.2.2.1.trans (KA.out.1.mono hwr))) htq hcol).mono ?_
   rintro e w5 ⟨x, rfl, hx, hb5⟩
   obtain ⟨nb2, so2, n2, cp2, rfl⟩ := hx.shape
   have hbB : Below wr.heap.size wr (w5.alloc (.cells #[.bool nb2, .slice so2 n2 cp2] 94)) := (KA.out.1.trans (hb5.mono (by simp; omega))).alloc (by have := hb5.size; simp at this; omega) _
   have hb55 := (Below.refl w5.heap.size w5).alloc (Nat.le_refl _) (.cells #[.bool nb2, .slice so2 n2 cp2] 94)
   have hlt4 : w4.heap.size < w5.heap.size := by have := hb5.size; simp at this; omega
   have hl5 := (KA.out.2.1.below hb5 (by simp)).below hb55 hlt4
   obtain ⟨d1, d2, -, -⟩ := hl5.cells
   have KB := Hid.mk (And.intro hbB (And.intro ((KA.out.2.2.below hb5).below hb55) (hx.below hb55)))
   clear hx hb5 hbB hb55 hl5 e0 e1 e2
   go_wp2_with fail
   refine (mul_any _ _ (zs.getD (row * q + t) 0) (ys.getD (t * c + col) 0) L L _ KB.out.2.1 KB.out.2.2 (by omega) (by omega)).mono ?_
   rintro e w6 ⟨x, rfl, hx, hb6⟩
   obtain ⟨nb3, so3, n3, cp3, rfl⟩ := hx.shape
   have hw5 : wr.heap.size ≤ w5.heap.size := by omega
   have hbC : Below wr.heap.size wr (w6.alloc (.cells #[.bool nb3, .slice so3 n3 cp3] 94)) := (KB.out.1.trans (hb6.mono (by simp; omega))).alloc (by have := hb6.size; simp at this; omega) _
   have hb66 := (Below.refl w6.heap.size w6).alloc (Nat.le_refl _) (.cells #[.bool nb3, .slice so3 n3 cp3] 94)
   have hD6 := K.out.1.below hbC (Array.getElem?_eq_some_iff.1 K.out.1).1
   have hI6 := K.out.2.1.below hbC
   clear d1 d2
   obtain ⟨d1, d2, d3, d4⟩ := hD6.cells
   have KC := Hid.mk (And.intro hbC (And.intro hD6 (And.intro hI6 (hx.below hb66))))
   clear hx hb6 hbC hb66 hD6 hI6
   go_wp2_with fail
   refine (add_any _ _ _ (zs.getD (row * q + t) 0 * ys.getD (t * c + col) 0) (L + L + 1 + t) (L + L) _ KC.out.2.2.1 KC.out.2.2.2 (by omega) (by omega)).mono ?_
   rintro e w7 ⟨x, rfl, hx, hb7⟩
   obtain ⟨nb4, so4, n4, cp4, rfl⟩ := hx.shape
   have hlt6 : sb < (w6.alloc (.cells #[.bool nb3, .slice so3 n3 cp3] 94)).heap.size := (Array.getElem?_eq_some_iff.1 KC.out.2.1).1
   have hbD : Below wr.heap.size wr w7 := KC.out.1.trans (hb7.mono KC.out.1.size)
   have hD7 := KC.out.2.1.below hb7 hlt6
   clear d1 d2 d3 d4
   obtain ⟨d1, d2, d3, d4⟩ := hD7.cells
   have KD := Hid.mk (And.intro hbD (And.intro hD7 hx))
   clear hx hb7 hbD hD7 hlt6
   go_wp2_with fail
   go_roundw
   case measure => simp [intOf]; omega
   case rel =>
    refine ⟨t + 1, nb4, so4, n4, cp4, by omega, by go_num, KD.out.2.1.put _ _, ?_, grown_put2 (grown_below K.out.2.2.1 KD.out.1), ((K.out.2.2.2.1.trans (KD.out.1.mono hwr)).setCell (by simp; omega) _).setCell (by simp; omega) _⟩
    exact (KD.out.2.2.duo KD.out.2.1 _ _).mono (by omega)
  ·have hte : t = q := by omega
   subst hte
   obtain ⟨d1, d2, d3, d4⟩ := K.out.1.cells
   have hR := FF.out.2.2.1
   have hRb : wr.heap[w.heap.size + 1 + 1]? = W1.heap[w.heap.size + 1 + 1]? := K.out.2.2.1.block _ (by have := FF.out.2.2.2; omega) (by have := HSB.out; simp; omega)
   have hRD : Duo wr (w.heap.size + 1 + 1) (.bool false) (.slice none 0 0) := by unfold Duo; rw [hRb]; exact hR
   have hcell := (hRD.put (.bool nb) (.slice so n ecap)).cells
   have HR := Hid.mk (And.intro hRD hcell)
   obtain ⟨r1, r2, r3, r4⟩ := hRD.cells
   clear hR hRb hRD hcell
   go_wp2_with fail
   obtain ⟨g1, g2, -, -⟩ := HR.out.2
   refine bodyPost_ret (v := .agg #[.bool nb, .slice so n ecap]) ?_ rfl ?_
   ·(simp [results, Tryz.results86, go_sem, g1, g2]; done)
   ·exact ⟨_, rfl, K.out.2.1.duo HR.out.1 _ _, (K.out.2.2.2.1.setCell (by simp; omega) _).setCell (by simp; omega) _⟩
open Go.RowKit
def Tri (w : World) (b o : Nat) (x y z : Value) : Prop := w.cell? ⟨b, o, none⟩ = some x ∧ w.cell? ⟨b, o + 1, none⟩ = some y ∧ w.cell? ⟨b, o + 2, none⟩ = some z
theorem Tri.later {w w' : World} {b o : Nat} {x y z : Value} (h : Tri w b o x y z) (hb : Below w.heap.size w w') : Tri w' b o x y z := ⟨cell_later hb h.1, cell_later hb h.2.1, cell_later hb h.2.2⟩
theorem Tri.grown {w w' : World} {b o s : Nat} {x y z : Value} (h : Tri w b o x y z) (hg : w.grownBy w' (some s)) (hne : b ≠ s) : Tri w' b o x y z := ⟨hg.cell h.1 (by simpa using hne), hg.cell h.2.1 (by simpa using hne), hg.cell h.2.2 (by simpa using hne)⟩
set_option maxRecDepth 100000 in
set_option maxHeartbeats 2000000 in
theorem set_o (p o g r c cap row col : Nat) (zs : List Int) (L : Nat) (x : Value) (z : Int) (w : World) (hp : Tri w p o (.int .i64 r) (.int .i64 c) (.slice (some ⟨g, 0, none⟩) (r * c) cap)) (hg : Grid w (.slice (some ⟨g, 0, none⟩) (r * c) cap) (r * c) zs L) (hx : IsI w x z L) (hr : r ≤ 99) (hc : c ≤ 99) (h1 : row < r) (h2 : col < c) :
 Calls Tryz.prog 85 #[.pointer (some ⟨p, o, none⟩), .int .i64 row, .int .i64 col, x] w fun e w' => e = .returned (.tuple #[]) ∧ Grid w' (.slice (some ⟨g, 0, none⟩) (r * c) cap) (r * c) (zs.set (row * c + col) z) L ∧ w.grownBy w' (some g) ∧ KU w w' := by
 obtain ⟨p0, p1, p2⟩ := hp
 have hk := idx_lt h1 h2
 obtain ⟨nb, bo, m, ecap, c1, c2, -⟩ := hg.cell _ hk
 have f1 := hg.frozen (2 * (row * c + col))
 have f2 := hg.frozen (2 * (row * c + col) + 1)
 have hgl : g < w.heap.size := World.block_lt_of_cell? w _ c1
 have hh := hasB_in h1 h2
 obtain ⟨b1, b2⟩ := idx_bd hr hc h1
 obtain ⟨sl, xs, rfl, q2, q3, q4, q5⟩ := id hx
 obtain ⟨ao, dcap, rfl, -⟩ := q5.open_
 rw [Nat.mul_comm 2] at c1 c2 f1 f2
 have d1 := cell2 c1
 have d2 := cell2 c2
 have d3 := frozen2 f1 hgl
 have d4 := frozen2 f2 hgl
 have d5 : ∀ v, ∀ o1 o2, (((w.setCell ⟨g, (row * c + col) * 2, none⟩ v).alloc o1).alloc o2).cell? ⟨g, (row * c + col) * 2 + 1, none⟩ = some (.slice bo m ecap) := fun v => cell2 (by rw [World.cell?_setCell_other _ _ _ _ (by simp)]; exact c2)
 have d6 : ∀ v, ∀ o1 o2, (((w.setCell ⟨g, (row * c + col) * 2, none⟩ v).alloc o1).alloc o2).frozen? ⟨g, (row * c + col) * 2 + 1, none⟩ = false := fun v => frozen2 (by rw [World.frozen?_setCell]; exact f2) (by simp [World.setCell]; exact hgl)
 have e0 := cell2 p0
 have e1 := cell2 p1
 have e2 := cell2 p2
 have e0' := cell1 p0
 have e1' := cell1 p1
 have e2' := cell1 p2
 have HX := Hid.mk hx
 have HG := Hid.mk hg
 have HK := Hid.mk hk
 clear hx hg q2 q3 q4 q5 p0 p1 p2 c1 c2 f1 f2
 obtain ⟨nz, hnz⟩ : ∃ nz, nz = decide (z < 0) := ⟨_, rfl⟩
 rw [← hnz] at HX ⊢
 clear hnz
 obtain ⟨N, hN⟩ : ∃ N, N = r * c := ⟨_, rfl⟩
 rw [← hN] at hk e2 e2' HG ⊢
 have hk2 : (row : Int) * (c : Int) + (col : Int) < (N : Int) := by rw [← Int.natCast_mul]; omega
 clear hN HK
 go_enter Tryz.func85, Tryz.ntmps85
 go_wp2_with (go_at_call 144; refine (has_raw _ _ _ _ _ _ _ _).mono ?_; rintro e w' ⟨rfl, rfl⟩; rw [hh])
 go_region
 all_goals
  go_end0
  obtain ⟨S1, S2⟩ := HG.out.stored _ hk HX.out
  rw [Nat.mul_comm 2] at S1 S2
  refine ⟨rfl, ?_, ?_, ?_⟩
  ·refine S1.below ?_
   repeat (first | exact Below.refl _ _ | refine Below.drew ?_ | refine Below.alloc ?_ (by simp <;> omega) _)
  ·refine grown_set2 (i := (row * c + col) * 2) (j := (row * c + col) * 2 + 1) (a := .bool nz) (b := .slice ao xs.length dcap) ?_
   repeat (first | exact Below.refl _ _ | refine Below.drew ?_ | refine Below.alloc ?_ (by simp <;> omega) _)
  ·refine S2.trans (KU.of_below ?_)
   repeat (first | exact Below.refl _ _ | refine Below.drew ?_ | refine Below.alloc ?_ (by simp <;> omega) _)
structure MatO (w : World) (p o g r c : Nat) (zs : List Int) (L : Nat) : Prop where
 hr : r ≤ 99
 hc : c ≤ 99
 tri : Tri w p o (.int .i64 r) (.int .i64 c) (.slice (some ⟨g, 0, none⟩) (r * c) (r * c))
 grid : Grid w (.slice (some ⟨g, 0, none⟩) (r * c) (r * c)) (r * c) zs L
theorem MatO.isM {w : World} {p o g r c L : Nat} {zs : List Int} (h : MatO w p o g r c zs L) : IsM w (.agg #[.int .i64 r, .int .i64 c, .slice (some ⟨g, 0, none⟩) (r * c) (r * c)]) r c zs L := ⟨h.hr, h.hc, _, rfl, h.grid⟩
theorem MatO.later {w w' : World} {p o g r c L : Nat} {zs : List Int} (h : MatO w p o g r c zs L) (hb : Below w.heap.size w w') : MatO w' p o g r c zs L := ⟨h.hr, h.hc, h.tri.later hb, h.grid.below hb⟩
theorem MatO.mono {w : World} {p o g r c L M : Nat} {zs : List Int} (h : MatO w p o g r c zs L) (hLM : L ≤ M) : MatO w p o g r c zs M := by
 refine ⟨h.hr, h.hc, h.tri, ?_⟩
 obtain ⟨h0, cs, h1, h2⟩ := h.grid
 refine ⟨h0, cs, h1, fun i hi => ?_⟩
 obtain ⟨a, b, e1, e2, e3⟩ := h2 i hi
 exact ⟨a, b, e1, e2, e3.mono hLM⟩
theorem MatO.len {w : World} {p o g r c L : Nat} {zs : List Int} (h : MatO w p o g r c zs L) : zs.length = r * c := h.grid.1
theorem MatO.glt {w : World} {p o g r c L : Nat} {zs : List Int} (h : MatO w p o g r c zs L) : g < w.heap.size := h.grid.ty.lt
theorem MatO.plt {w : World} {p o g r c L : Nat} {zs : List Int} (h : MatO w p o g r c zs L) : p < w.heap.size := World.block_lt_of_cell? w _ h.tri.1
theorem set_m (p o g r c row col : Nat) (zs : List Int) (L : Nat) (x : Value) (z : Int) (w : World) (hm : MatO w p o g r c zs L) (hpg : p ≠ g) (hx : IsI w x z L) (h1 : row < r) (h2 : col < c) :
 Calls Tryz.prog 85 #[.pointer (some ⟨p, o, none⟩), .int .i64 row, .int .i64 col, x] w fun e w' => e = .returned (.tuple #[]) ∧ MatO w' p o g r c (zs.set (row * c + col) z) L ∧ w.grownBy w' (some g) ∧ KU w w' := by
 refine (set_o p o g r c (r * c) row col zs L x z w hm.tri hm.grid hx hm.hr hm.hc h1 h2).mono ?_
 rintro e w' ⟨rfl, a, b, d⟩
 exact ⟨rfl, ⟨hm.hr, hm.hc, hm.tri.grown b hpg, a⟩, b, d⟩
def ent (c : Nat) (zs : List Int) (i j : Nat) : Int := zs.getD (i * c + j) 0
theorem ent_set (ms : List Int) (r c : Nat) (hl : ms.length = r * c) (a e i j : Nat) (z : Int) (ha : a < r) (he : e < c) (hj : j < c) : ent c (ms.set (a * c + e) z) i j = if i = a ∧ j = e then z else ent c ms i j := by
 unfold ent
 by_cases h : i = a ∧ j = e
 ·obtain ⟨rfl, rfl⟩ := h
  have : i * c + j < ms.length := by rw [hl]; exact idx_lt ha he
  rw [if_pos ⟨rfl, rfl⟩]
  simp [List.getD, this]
 ·rw [if_neg h]
  have hne : a * c + e ≠ i * c + j := fun e' => by
   obtain ⟨h1, h2⟩ := idx_inj he hj e'
   exact h ⟨h1.symm, h2.symm⟩
  simp [List.getD, List.getElem?_set_ne hne]
end Go.Proofs.YtfjbijpagaipnaaGreatDoor
