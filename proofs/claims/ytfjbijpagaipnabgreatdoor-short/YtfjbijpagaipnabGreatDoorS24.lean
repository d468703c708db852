import Derived.Test.YtfjbijpagaipnabGreatDoorS20
import Derived.Test.YtfjbijpagaipnabGreatDoorS21
import Derived.Test.YtfjbijpagaipnabGreatDoorS23
import Derived.Test.YtfjbijpagaipnabGreatDoorS17
import Derived.Test.YtfjbijpagaipnabGreatDoorS12
import Derived.Test.YtfjbijpagaipnabGreatDoorS22
import Derived.Test.YtfjbijpagaipnabGreatDoorS16
import Derived.Test.YtfjbijpagaipnabGreatDoorS06
namespace Go.Proofs.YtfjbijpagaipnabGreatDoor.R
theorem dvd_cut (e n : Int) : ∃ e' : Nat, ∀ x : Int, e ∣ n * x ↔ (e' : Int) ∣ x := by
 rcases Nat.eq_zero_or_pos (Nat.gcd e.natAbs n.natAbs) with h0 | h0
 ·have h1 : e.natAbs = 0 := Nat.eq_zero_of_gcd_eq_zero_left h0
  have h2 : n.natAbs = 0 := Nat.eq_zero_of_gcd_eq_zero_right h0
  have h3 : e = 0 := by omega
  have h4 : n = 0 := by omega
  subst h3; subst h4
  exact ⟨1, fun x => by simp⟩
 ·refine ⟨e.natAbs / Nat.gcd e.natAbs n.natAbs, fun x => ?_⟩
  have hco := Nat.coprime_div_gcd_div_gcd h0
  have e1 : e.natAbs = Nat.gcd e.natAbs n.natAbs * (e.natAbs / Nat.gcd e.natAbs n.natAbs) := (Nat.mul_div_cancel' (Nat.gcd_dvd_left _ _)).symm
  have e2 : n.natAbs = Nat.gcd e.natAbs n.natAbs * (n.natAbs / Nat.gcd e.natAbs n.natAbs) := (Nat.mul_div_cancel' (Nat.gcd_dvd_right _ _)).symm
  rw [← Int.natAbs_dvd_natAbs, Int.natAbs_mul, Int.ofNat_dvd_left]
  generalize e.natAbs / Nat.gcd e.natAbs n.natAbs = a at *
  generalize n.natAbs / Nat.gcd e.natAbs n.natAbs = b at *
  generalize Nat.gcd e.natAbs n.natAbs = g at *
  rw [e1, e2, Nat.mul_assoc]
  constructor
  ·intro h
   have := Nat.dvd_of_mul_dvd_mul_left h0 h
   rw [Nat.mul_comm] at this
   exact hco.dvd_of_dvd_mul_right this
  ·intro h
   exact Nat.mul_dvd_mul_left g (Nat.dvd_trans h (Nat.dvd_mul_left _ _))
theorem elim {r c k : Nat} {pc : Nat → Nat} {H : Nat → Nat → Int} (h : EchSt r c k pc H) (v : Nat → Int) : ∀ s, s ≤ k → ∃ (t : Int) (n v' : Nat → Int), t ≠ 0 ∧ (∀ j, t * v j = v' j + sm (fun l => n l * H l j) s) ∧ ∀ b, b < s → v' (pc b) = 0 := by
 intro s
 induction s with
 | zero => intro _; exact ⟨1, fun _ => 0, v, by decide, fun j => by simp [sm], fun b hb => by omega⟩
 | succ s ih =>
   intro hs
   obtain ⟨t, n, v', h1, h2, h3⟩ := ih (by omega)
   have hp := h.piv s (by omega)
   have hle := h.le
   refine ⟨H s (pc s) * t, fun l => if l = s then v' (pc s) else H s (pc s) * n l, fun j => H s (pc s) * v' j - v' (pc s) * H s j, Int.mul_ne_zero (by omega) h1, fun j => ?_, fun b hb => ?_⟩
   ·have e1 : sm (fun l => (if l = s then v' (pc s) else H s (pc s) * n l) * H l j) s = sm (fun l => H s (pc s) * (n l * H l j) + 0 * (n l * H l j)) s := sm_congr s (fun l hl => by
     rw [if_neg (by omega)]; grind)
    rw [sm, e1, sm_lin]
    show _ = H s (pc s) * v' j - v' (pc s) * H s j + (_ + (if s = s then v' (pc s) else H s (pc s) * n s) * H s j)
    rw [if_pos rfl]
    have := h2 j
    grind
   ·by_cases hbs : b = s
    ·subst hbs; grind
    ·show H s (pc s) * v' (pc b) - v' (pc s) * H s (pc b) = 0
     rw [h3 b (by omega), h.below b (by omega) s (by omega) (by omega)]
     simp
theorem place {pc : Nat → Nat} {k j : Nat} (up : ∀ a b, a < b → b < k → pc a < pc b) (hne : ∀ b, b < k → pc b ≠ j) : ∃ q, q ≤ k ∧ (∀ b, b < q → pc b < j) ∧ ∀ b, q ≤ b → b < k → j < pc b := by
 induction k with
 | zero => exact ⟨0, Nat.le_refl _, fun b hb => by omega, fun b _ hb => by omega⟩
 | succ k ih =>
   obtain ⟨q, h1, h2, h3⟩ := ih (fun a b hab hb => up a b hab (by omega)) (fun b hb => hne b (by omega))
   rcases Nat.lt_or_ge (pc k) j with h | h
   ·refine ⟨k + 1, Nat.le_refl _, fun b hb => ?_, fun b hb1 hb2 => by omega⟩
    by_cases hbk : b = k
    ·rw [hbk]; exact h
    ·have := up b k (by omega) (by omega); omega
   ·refine ⟨q, by omega, h2, fun b hb1 hb2 => ?_⟩
    by_cases hbk : b = k
    ·have := hne k (by omega); rw [hbk]; omega
    ·exact h3 b hb1 (by omega)
theorem ech_insert {r c k j : Nat} {pc : Nat → Nat} {H : Nat → Nat → Int} (h : EchSt r c k pc H) {v : Nat → Int} (hv : ∀ b, b < k → v (pc b) = 0) (hj : j < c) (h0 : v j ≠ 0) :
 ∃ g pc', Ech g (k + 1) c (k + 1) pc' ∧ ∀ i, i < k + 1 → g i = v ∨ ∃ b, b < k ∧ g i = H b := by
 obtain ⟨q, h1, h2, h3⟩ := place (j := j) h.up (fun b hb e => h0 (by rw [← e]; exact hv b hb))
 have hle := h.le
 refine ⟨fun i => if i < q then H i else if i = q then v else H (i - 1), fun i => if i < q then pc i else if i = q then j else pc (i - 1), ⟨Nat.le_refl _, fun b hb => ?_, fun a b hab hb => ?_, fun b hb => ?_, fun a b hb hba ha => ?_, fun a h1 h2 => by omega⟩, fun i hi => ?_⟩
 ·show (if b < q then pc b else if b = q then j else pc (b - 1)) < c
  split
  ·exact h.col b (by omega)
  ·split
   ·exact hj
   ·exact h.col (b - 1) (by omega)
 ·show (if a < q then pc a else if a = q then j else pc (a - 1)) < (if b < q then pc b else if b = q then j else pc (b - 1))
  by_cases a1 : a < q
  ·rw [if_pos a1]
   by_cases b1 : b < q
   ·rw [if_pos b1]; exact h.up a b hab (by omega)
   ·rw [if_neg b1]
    by_cases b2 : b = q
    ·rw [if_pos b2]; exact h2 a a1
    ·rw [if_neg b2]; exact h.up a (b - 1) (by omega) (by omega)
  ·rw [if_neg a1, if_neg (show ¬ b < q by omega), if_neg (show ¬ b = q by omega)]
   by_cases a2 : a = q
   ·rw [if_pos a2]; exact h3 (b - 1) (by omega) (by omega)
   ·rw [if_neg a2]; exact h.up (a - 1) (b - 1) (by omega) (by omega)
 ·show (if b < q then H b else if b = q then v else H (b - 1)) (if b < q then pc b else if b = q then j else pc (b - 1)) ≠ 0
  by_cases b1 : b < q
  ·rw [if_pos b1, if_pos b1]; have := h.piv b (by omega); omega
  ·rw [if_neg b1, if_neg b1]
   by_cases b2 : b = q
   ·rw [if_pos b2, if_pos b2]; exact h0
   ·rw [if_neg b2, if_neg b2]; have := h.piv (b - 1) (by omega); omega
 ·show (if a < q then H a else if a = q then v else H (a - 1)) (if b < q then pc b else if b = q then j else pc (b - 1)) = 0
  by_cases b1 : b < q
  ·rw [if_pos b1]
   by_cases a1 : a < q
   ·rw [if_pos a1]; exact h.below b (by omega) a hba (by omega)
   ·rw [if_neg a1]
    by_cases a2 : a = q
    ·rw [if_pos a2]; exact hv b (by omega)
    ·rw [if_neg a2]; exact h.below b (by omega) (a - 1) (by omega) (by omega)
  ·rw [if_neg b1, if_neg (show ¬ a < q by omega), if_neg (show ¬ a = q by omega)]
   by_cases b2 : b = q
   ·rw [if_pos b2]; exact h.left (a - 1) (by omega) j (h3 (a - 1) (by omega) (by omega))
   ·rw [if_neg b2]; exact h.below (b - 1) (by omega) (a - 1) (by omega) (by omega)
 ·show (if i < q then H i else if i = q then v else H (i - 1)) = v ∨ ∃ b, b < k ∧ (if i < q then H i else if i = q then v else H (i - 1)) = H b
  by_cases a1 : i < q
  ·rw [if_pos a1]; exact .inr ⟨i, by omega, rfl⟩
  ·rw [if_neg a1]
   by_cases a2 : i = q
   ·rw [if_pos a2]; exact .inl rfl
   ·rw [if_neg a2]; exact .inr ⟨i - 1, by omega, rfl⟩
theorem Sp.comb {O : Nat → Nat → Int} {R c : Nat} {C : List Nat} {v : Nat → Int} (h : Sp O R c v) (hC : ∀ x ∈ C, x < c) : CombOf O R C v := by
 obtain ⟨x, hx⟩ := h
 exact ⟨x, fun y hy => hx y (hC y hy)⟩
theorem Sp.scale {O : Nat → Nat → Int} {R c : Nat} {v : Nat → Int} (t : Int) (h : Sp O R c v) : Sp O R c (fun j => t * v j) := by
 obtain ⟨x, hx⟩ := h
 refine ⟨fun l => t * x l, fun j hj => ?_⟩
 have := sm_lin t 0 (fun l => x l * O l j) (fun l => x l * O l j) R
 show t * v j = sm (fun l => t * x l * O l j) R
 rw [hx j hj, show sm (fun l => t * x l * O l j) R = sm (fun l => t * (x l * O l j) + 0 * (x l * O l j)) R from sm_congr R (fun l _ => by grind), this]
 grind
theorem Sp.sum {O H : Nat → Nat → Int} {R c : Nat} (n : Nat → Int) : ∀ k, (∀ i, i < k → Sp O R c (H i)) → Sp O R c (fun j => sm (fun l => n l * H l j) k)
 | k, h => by
   have h1 : Sp H k c (fun j => sm (fun l => n l * H l j) k) := ⟨n, fun j _ => rfl⟩
   exact h1.trans h
theorem chosenL_self (k : Nat) : chosenL k k = [List.range k] := by
 induction k with
 | zero => rfl
 | succ k ih =>
   rw [chosenL, List.range_succ, List.drop_append_of_le_length (by simp), List.drop_of_length_le (by simp)]
   simp [ih]
theorem mv_pick {H : Nat → Nat → Int} {n v : Nat → Int} {t : Int} {c k i : Nat} {C : List Nat} (hC : C.length = k) (hCc : ∀ x ∈ C, x < c) (h4 : k ≤ 4) (hi : i < k) (hv : ∀ j, j < c → t * v j = sm (fun l => n l * H l j) k) :
 t * mv ((List.range i).map H ++ v :: (List.range' (i + 1) (k - i - 1)).map H) C = n i * mv ((List.range k).map H) C := by
 have e0 : (List.range k).map H = (List.range i).map H ++ H i :: (List.range' (i + 1) (k - i - 1)).map H := by
  rw [← List.map_cons, ← List.map_append, ← List.range'_succ, List.range_eq_range', List.range_eq_range']
  have := List.range'_append_1 (s := 0) (m := i) (n := k - i - 1 + 1)
  rw [Nat.zero_add] at this
  rw [this, show i + (k - i - 1 + 1) = k from by omega]
 have e1 := mv_lin t 0 v v ((List.range' (i + 1) (k - i - 1)).map H) ((List.range i).map H) C
 have e2 : mv ((List.range i).map H ++ (fun j => t * v j + 0 * v j) :: (List.range' (i + 1) (k - i - 1)).map H) C = mv ((List.range i).map H ++ (fun j => sm (fun l => n l * H l j) k) :: (List.range' (i + 1) (k - i - 1)).map H) C := mv_at _ _ C (fun x hx => by rw [← hv x (hCc x hx)]; grind)
 have e3 := mv_sum n H ((List.range i).map H) ((List.range' (i + 1) (k - i - 1)).map H) C k
 have e4 : sm (fun l => n l * mv ((List.range i).map H ++ H l :: (List.range' (i + 1) (k - i - 1)).map H) C) k = n i * mv ((List.range i).map H ++ H i :: (List.range' (i + 1) (k - i - 1)).map H) C := sm_one k i hi (fun l hl hne => by
  have hz : mv ((List.range i).map H ++ H l :: (List.range' (i + 1) (k - i - 1)).map H) C = 0 := by
   rcases Nat.lt_or_ge l i with h1 | h1
   ·obtain ⟨xs, ys, he⟩ := List.append_of_mem (show l ∈ List.range i from List.mem_range.2 h1)
    have hlen : xs.length + ys.length + 1 = i := by have := congrArg List.length he; simp at this; omega
    rw [he, List.map_append, List.map_cons]
    have := mv_same (H l) (xs.map H) (ys.map H) ((List.range' (i + 1) (k - i - 1)).map H) C (by simp; omega) (by omega)
    simpa using this
   ·obtain ⟨xs, ys, he⟩ := List.append_of_mem (show l ∈ List.range' (i + 1) (k - i - 1) from List.mem_range'_1.2 (by omega))
    have hlen : xs.length + ys.length + 1 = k - i - 1 := by have := congrArg List.length he; simp at this; omega
    rw [he, List.map_append, List.map_cons]
    have := mv_same (H l) ((List.range i).map H) (xs.map H) (ys.map H) C (by simp; omega) (by omega)
    simpa using this
  rw [hz, Int.mul_zero])
 rw [e0, ← e4, ← e3, ← e2, e1]
 grind
theorem span_of_div {O A H : Nat → Nat → Int} {r R c k : Nat} {pc : Nat → Nat} {v : Nat → Int} (h : EchSt r c k pc H) (hA : ∀ i, i < r → Sp H k c (A i)) (hH : ∀ i, i < k → Sp O R c (H i)) (hv : Sp O R c v) (hc : c ≤ 4) (hrank : k = c ∨ AllV O R c (k + 1)) (hd : divF A r c k ∣ divF O R c k) (hd0 : divF A r c k ≠ 0) : Sp H k c v := by
 obtain ⟨t, n, v', ht, h1, h2⟩ := elim h v k (Nat.le_refl _)
 have hv' : Sp O R c v' := by
  have := (Sp.scale t hv).sub (Sp.sum n k hH)
  obtain ⟨x, hx⟩ := this
  exact ⟨x, fun j hj => by rw [← hx j hj]; have := h1 j; grind⟩
 have hz : ∀ j, j < c → v' j = 0 := by
  rcases first_ne v' c with hz | ⟨j, hj, hne, -⟩
  ·exact hz
  ·exfalso
   obtain ⟨g, pc', hE, hg⟩ := ech_insert h h2 hj hne
   have hkc := ech_cols hE
   rcases hrank with hk | hk
   ·omega
   ·have hC := cols_mem hE.up (k + 1) c (Nat.le_refl _) (fun b hb => hE.col b hb)
    have hD := allD_comb ((allV_iff O R c (k + 1)).1 hk _ hC) (g := g) (r' := k + 1) (fun i hi => by
     rcases hg i hi with e | ⟨b, hb, e⟩
     ·rw [e]; exact Sp.comb hv' (chosenL_lt hC).2
     ·rw [e]; exact Sp.comb (hH b hb) (chosenL_lt hC).2)
    have h3 := hD (List.range (k + 1)) (by simp) (fun x hx => List.mem_range.1 hx)
    have h4 := tri hE (k + 1) 0 (by omega)
    rw [← List.range_eq_range'] at h4
    exact h4 (Int.zero_dvd.1 h3)
 have h5 : ∀ j, j < c → t * v j = sm (fun l => n l * H l j) k := fun j hj => by rw [h1 j, hz j hj]; simp
 have hkc : k ≤ 4 := by have := h.te; omega
 have hn : ∀ i, i < k → t ∣ n i := fun i hi => by
  obtain ⟨e', he⟩ := dvd_cut (t * (divF A r c k : Nat)) (n i)
  have h6 : e' ∣ divF A r c k := by
   rw [div_dvd e' A r c k hkc]
   intro C hC
   obtain ⟨hCl, hCc⟩ := chosenL_lt hC
   refine allD_comb (f := H) (r := k) ?_ (fun i hi => Sp.comb (hA i hi) hCc)
   intro Rr hRr hRk
   have := rise_all e' H C (by omega) k k [] (by simp [hCl]) (fun R' hR' => by
    rw [chosenL_self, List.mem_singleton] at hR'
    subst hR'
    rw [List.append_nil, ← he, ← mv_pick hCl hCc hkc hi h5]
    refine Int.mul_dvd_mul (Int.dvd_refl t) ?_
    have h7 := (div_dvd _ O R c k hkc).1 hd C hC
    have h8 := comb_dvd h7 ((List.range i).map H ++ v :: (List.range' (i + 1) (k - i - 1)).map H) (fun u hu => by
     rcases List.mem_append.1 hu with hu | hu
     ·obtain ⟨b, hb, rfl⟩ := List.mem_map.1 hu
      exact Sp.comb (hH b (by have := List.mem_range.1 hb; omega)) hCc
     ·rcases List.mem_cons.1 hu with hu | hu
      ·rw [hu]; exact Sp.comb hv hCc
      ·obtain ⟨b, hb, rfl⟩ := List.mem_map.1 hu
       exact Sp.comb (hH b (by have := List.mem_range'_1.1 hb; omega)) hCc) [] (by simp; omega) (fun x hx => by simp at hx)
    simpa using h8) Rr (by omega) hRk
   simpa using this
  have h9 := (he (divF A r c k : Nat)).2 (Int.ofNat_dvd.2 h6)
  exact Int.dvd_of_mul_dvd_mul_right (by omega) h9
 refine ⟨fun l => n l / t, fun j hj => ?_⟩
 have e1 : sm (fun l => n l * H l j) k = sm (fun l => t * (n l / t * H l j) + 0 * 0) k := sm_congr k (fun l hl => by
  have := Int.mul_ediv_cancel' (hn l hl)
  grind)
 have e2 := h5 j hj
 rw [e1, sm_lin t 0 (fun l => n l / t * H l j) (fun _ => 0)] at e2
 exact Int.eq_of_mul_eq_mul_left ht (by rw [e2]; simp)
theorem div_same {A O : Nat → Nat → Int} {r R c m : Nat} (h1 : ∀ i, i < r → Sp O R c (A i)) (h2 : ∀ i, i < R → Sp A r c (O i)) (hm : m ≤ 4) : divF A r c m = divF O R c m := by
 refine Nat.dvd_antisymm ?_ ?_
 ·rw [div_dvd _ O R c m hm]
  exact fun C hC => allD_comb ((div_dvd _ A r c m hm).1 (Nat.dvd_refl _) C hC) (fun i hi => Sp.comb (h2 i hi) (chosenL_lt hC).2)
 ·rw [div_dvd _ A r c m hm]
  exact fun C hC => allD_comb ((div_dvd _ O R c m hm).1 (Nat.dvd_refl _) C hC) (fun i hi => Sp.comb (h1 i hi) (chosenL_lt hC).2)
theorem chosenL_none {k n : Nat} (h : n < k) : chosenL k n = [] := by
 cases hc : chosenL k n with
 | nil => rfl
 | cons a l => have := chosenL_le (show a ∈ chosenL k n by rw [hc]; simp); omega
theorem div_few (f : Nat → Nat → Int) {r c k : Nat} (h : r < k) : divF f r c k = 0 := by
 unfold divF; rw [chosenL_none h]; rfl
theorem div_zero (f : Nat → Nat → Int) (r c : Nat) : divF f r c 0 = 1 := by
 simp [divF, chosenL, gA, gR, minorF]
theorem RankIs.next {f : Nat → Nat → Int} {r c k : Nat} (h : RankIs f r c k) : k = c ∨ divF f r c (k + 1) = 0 := by
 rcases h.2.2.2 with h1 | h1 | h1
 ·exact .inr (div_few f (by omega))
 ·exact .inl h1
 ·exact .inr h1
theorem RankIs.pos {f : Nat → Nat → Int} {r c k : Nat} (h : RankIs f r c k) : divF f r c k ≠ 0 := by
 cases k with
 | zero => rw [div_zero]; decide
 | succ k => exact h.2.2.1 k (by omega)
theorem rank_same {A O : Nat → Nat → Int} {r R c k : Nat} (h1 : ∀ i, i < r → Sp O R c (A i)) (h2 : ∀ i, i < R → Sp A r c (O i)) (hc : c ≤ 4) (h : RankIs A r c k) : RankIs O R c k := by
 have hkc := h.2.1
 refine ⟨?_, hkc, fun i hi => by rw [← div_same h1 h2 (by omega)]; exact h.2.2.1 i hi, ?_⟩
 ·rcases Nat.lt_or_ge R k with h3 | h3
  ·have := h.pos
   rw [div_same h1 h2 (by omega), div_few O h3] at this
   omega
  ·exact h3
 ·rcases h.next with h3 | h3
  ·exact .inr (.inl h3)
  ·by_cases h4 : k = c
   ·exact .inr (.inl h4)
   ·exact .inr (.inr (by rw [← div_same h1 h2 (by omega)]; exact h3))
def ov (r : Nat) (A N : Nat → Nat → Int) : Nat → Nat → Int := fun i => if i < r then A i else N (i - r)
theorem Sp.ov_top {A N : Nat → Nat → Int} {r n c : Nat} {v : Nat → Int} (h : Sp A r c v) : Sp (ov r A N) (r + n) c v := by
 refine h.trans (fun i hi => ?_)
 have := Sp.row (ov r A N) c (show i < r + n by omega)
 rw [show ov r A N i = A i from if_pos hi] at this
 exact this
theorem Sp.ov_low {A N : Nat → Nat → Int} {r n c i : Nat} (hi : i < n) : Sp (ov r A N) (r + n) c (N i) := by
 have := Sp.row (ov r A N) c (show r + i < r + n by omega)
 rw [show ov r A N (r + i) = N i from by unfold ov; rw [if_neg (by omega)]; congr 1; omega] at this
 exact this
theorem spans_iff {A H U W N : Nat → Nat → Int} {r n c k : Nat} {pc : Nat → Nat} (h : EchSt r c k pc H) (hE : EInv A H U W r c) (hc : c ≤ 4) (hA : RankIs A r c k) :
 (∀ i, i < n → Sp A r c (N i)) ↔ (RankIs (ov r A N) (r + n) c k ∧ divF (ov r A N) (r + n) c k = divF A r c k) := by
 have hkc := hA.2.1
 obtain ⟨s1, s2⟩ := span_rows h hE
 constructor
 ·intro hN
  have g1 : ∀ i, i < r → Sp (ov r A N) (r + n) c (A i) := fun i hi => Sp.ov_top (Sp.row A c hi)
  have g2 : ∀ i, i < r + n → Sp A r c (ov r A N i) := fun i hi => by
   unfold ov
   split
   ·rename_i h1; exact Sp.row A c h1
   ·exact hN _ (by omega)
  exact ⟨rank_same g1 g2 hc hA, (div_same g1 g2 (by omega)).symm⟩
 ·rintro ⟨h1, h2⟩ i hi
  have hle := h.le
  have hk : k = c ∨ AllV (ov r A N) (r + n) c (k + 1) := by
   rcases h1.next with h3 | h3
   ·exact .inl h3
   ·by_cases h4 : k = c
    ·exact .inl h4
    ·exact .inr ((all_div _ _ _ _ (by omega)).1 h3)
  exact (span_of_div h s1 (fun b hb => Sp.ov_top (s2 b (by omega))) (Sp.ov_low hi) hc hk (by rw [h2]; exact Nat.dvd_refl _) hA.pos).trans (fun b hb => s2 b (by omega))
def tr (X : Nat → Nat → Int) : Nat → Nat → Int := fun i j => X j i
theorem mv_tr (X : Nat → Nat → Int) (R C : List Nat) (hl : R.length = C.length) (h4 : R.length ≤ 4) : mv (R.map (tr X)) C = mv (C.map X) R := by
 match R, C, hl, h4 with
 | [], [], _, _ => rfl
 | [a], [x], _, _ => simp [mv, sumF, signed, tr]
 | [a, b], [x, y], _, _ => simp [mv, sumF, signed, tr]; grind
 | [a, b, c], [x, y, z], _, _ => simp [mv, sumF, signed, tr]; grind
 | [a, b, c, d], [x, y, z, u], _, _ => simp [mv, sumF, signed, tr]; grind
theorem chosenL_any {m n : Nat} {d : Int} {f : Nat → Nat → Int} {r : Nat} (hm : m ≤ 4) (h : ∀ C ∈ chosenL m n, AllD d f r C) {R C : List Nat} (hR : R.length = m) (hr : ∀ x ∈ R, x < r) (hC : C.length = m) (hc : ∀ x ∈ C, x < n) : d ∣ mv (R.map f) C := by
 have := rise_all d (tr f) R (by omega) m n [] (by simp [hR]) (fun C' hC' => by
  have h1 := chosenL_lt hC'
  rw [List.append_nil, mv_tr f C' R (by omega) (by omega)]
  exact h C' hC' R (by omega) hr) C hC hc
 rw [List.append_nil, mv_tr f C R (by omega) (by omega)] at this
 exact this
theorem div_tr (f : Nat → Nat → Int) (r c m : Nat) (hm : m ≤ 4) : divF (tr f) c r m = divF f r c m := by
 have key : ∀ (f : Nat → Nat → Int) (r c : Nat), divF f r c m ∣ divF (tr f) c r m := fun f r c => by
  rw [div_dvd _ (tr f) c r m hm]
  intro C hC R hR hRc
  have h1 := chosenL_lt hC
  rw [mv_tr f R C hR (by omega)]
  exact chosenL_any hm ((div_dvd _ f r c m hm).1 (Nat.dvd_refl _)) h1.1 h1.2 (by omega) hRc
 exact Nat.dvd_antisymm (key (tr f) c r) (key f r c)
theorem sm_mulr (f : Nat → Int) (z : Int) (n : Nat) : sm f n * z = sm (fun k => f k * z) n := by
 induction n with
 | zero => simp [sm]
 | succ n ih => rw [sm, sm, Int.add_mul, ih]
theorem sm_add (f g : Nat → Int) (n : Nat) : sm f n + sm g n = sm (fun k => f k + g k) n := by
 induction n with
 | zero => rfl
 | succ n ih => rw [sm, sm, sm, ← ih]; omega
theorem sm_swap (f : Nat → Nat → Int) (m : Nat) : ∀ n, sm (fun k => sm (fun l => f k l) m) n = sm (fun l => sm (fun k => f k l) n) m := by
 intro n
 induction n with
 | zero => simp only [sm]; rw [sm_zero m (fun _ _ => rfl)]
 | succ n ih =>
   rw [sm, ih, sm_add]
   exact sm_congr m (fun l _ => by rw [sm])
open Go.RowKit
end Go.Proofs.YtfjbijpagaipnabGreatDoor.R
namespace Go.Proofs.YtfjbijpagaipnabGreatDoor
open Go.RowKit R
open Go.RowKit R
open Go.RowKit R
open Go.RowKit R
open Go.RowKit
open Go.RowKit R
open Go.RowKit R
open Go.RowKit
theorem many_stk {n : Nat} {Res : Nat → Nat → List Int → List (Nat × Nat × List Int) → Prop} {l : List KMx} {g r c : Nat} {zs : List Int} {ok : Bool} {e : Int} {xs : List KMx} {w w' : World} {b B d : Nat} {v : Value} (hk : KL B w d b l) (hl : l.length + n ≤ 24) (hg : l[g]? = some (r, c, zs)) (f : FitsP r c zs)
 (hrel : ManyRel n Res (stk l) (g : Int) ok e xs) (hout : ManyOut w w' b n l.length (stk l) ok xs v) :
 e = 0 ∧ Res r c zs xs ∧ xs.length = n ∧ KL B w' d b (l ++ xs) ∧ Fr b w w' ∧ ∃ hb, v = .slice (some ⟨hb, 0, none⟩) n n ∧ ∀ j, j < n → w'.cell? ⟨hb, j, none⟩ = some (.int .i64 ((l.length + j : Nat) : Int)) := by
 obtain ⟨rfl, rfl, hxl, hR⟩ : ok = true ∧ e = 0 ∧ xs.length = n ∧ Res r c zs xs := by
  rcases hrel with ⟨hn, -⟩ | ⟨i, hd, r1, c1, zs1, hi, hx, hxh, h⟩
  ·exact (stk_no (by omega) hg hn).elim
  ·have e1 := stk_is hi hx hxh hg
   simp only [Prod.mk.injEq] at e1
   obtain ⟨rfl, rfl, rfl⟩ := e1
   rcases h with ⟨h, -⟩ | ⟨-, h, -⟩ | ⟨-, -, h1, h2, h3, h4⟩
   ·exact absurd f h
   ·rw [stk_count l (by omega)] at h; omega
   ·exact ⟨h1, h2, h3, h4⟩
 rcases hout with ⟨h, -⟩ | ⟨-, hb, hz, rfl, -, hzl, hzj, hown, hH, hF⟩
 ·cases h
 ·rw [stk_puts xs l (by omega)] at hH
  refine ⟨rfl, hR, hxl, ?_, hF, hb, rfl, fun j hj => ?_⟩
  ·unfold KL
   rw [List.length_append, hxl]
   exact KS.step hk hH hF
  ·have := hown.cell hzl j hj
   rw [hzj j hj] at this
   exact this
open Go.RowKit
def nearF (x y : Int) : Int := if y < 2 * (x - x.fdiv y * y) ∨ (x.fdiv y < 0 ∧ 2 * (x - x.fdiv y * y) = y) then x.fdiv y + 1 else x.fdiv y
theorem fdiv_left {x y : Int} (hy : 0 < y) : 0 ≤ x - x.fdiv y * y ∧ x - x.fdiv y * y < y := by
 have h1 := Int.fmod_add_mul_fdiv x y
 have h2 := Int.fmod_nonneg_of_pos x hy
 have h3 := Int.fmod_lt_of_pos x hy
 rw [Int.mul_comm] at h1
 omega
theorem near_box {x y : Int} (hy : 0 < y) : 2 * (x - nearF x y * y) ≤ y ∧ -y ≤ 2 * (x - nearF x y * y) := by
 have h := fdiv_left (x := x) hy
 unfold nearF
 split
 ·rename_i h1
  rw [Int.add_mul, Int.one_mul]
  rcases h1 with h1 | ⟨-, h1⟩ <;> omega
 ·rename_i h1
  have : ¬ y < 2 * (x - x.fdiv y * y) := fun h2 => h1 (.inl h2)
  omega
def ipE (c : Nat) (x y : Nat → Int) : Int := sm (fun k => x k * y k) c
def volE (c : Nat) (b : Nat → Nat → Int) (n : Nat) : Int := detF n (fun i j => ipE c (b i) (b j))
theorem detF_upto : ∀ (n : Nat) (f g : Nat → Nat → Int), (∀ i j, i < n → j < n → f i j = g i j) → detF n f = detF n g := by
 intro n
 induction n with
 | zero => intro f g _; rfl
 | succ n ih =>
   intro f g h
   rw [detF, detF]
   have hs : ∀ (m : Nat) (p q : Nat → Int), (∀ k, k < m → p k = q k) → sumF m p = sumF m q := by
    intro m
    induction m with
    | zero => intro p q _; rfl
    | succ m ihm => intro p q hpq; rw [sumF, sumF, ihm p q (fun k hk => hpq k (by omega)), hpq m (by omega)]
   refine hs _ _ _ (fun k hk => ?_)
   rw [h 0 k (by omega) hk, ih _ (fun i j => g (i + 1) (skip k j)) (fun i j hi hj => h (i + 1) (skip k j) (by omega) (by unfold skip; split <;> omega))]
def lamE (c : Nat) (b : Nat → Nat → Int) (row q : Nat) : Int := detF (q + 1) (fun i j => ipE c (if i = q then b row else b i) (b j))
theorem detF_cong {c : Nat} {b b' : Nat → Nat → Int} {n : Nat} (h : ∀ i j, i < n → j < c → b i j = b' i j) : volE c b n = volE c b' n :=
 detF_upto n _ _ (fun i j hi hj => sm_congr c fun k hk => by rw [h i k hi hk, h j k hj hk])
theorem lam_cong {c : Nat} {b b' : Nat → Nat → Int} {row q : Nat} (h : ∀ i j, i ≤ q → j < c → b i j = b' i j) (hr : ∀ j, j < c → b row j = b' row j) : lamE c b row q = lamE c b' row q :=
 detF_upto (q + 1) _ _ (fun i j hi hj => sm_congr c fun k hk => by
  by_cases e : i = q
  ·rw [if_pos e, if_pos e, hr k hk, h j k (by omega) hk]
  ·rw [if_neg e, if_neg e, h i k (by omega) hk, h j k (by omega) hk])
def shE (c : Nat) (b : Nat → Nat → Int) (k q : Nat) : Int := nearF (lamE c b k q) (volE c b (q + 1))
def lesN (c k : Nat) (b : Nat → Nat → Int) : Nat → Nat → Nat → Int
 | 0 => b
 | j + 1 => tkR (lesN c k b j) k (k - 1 - j) (shE c (lesN c k b j) k (k - 1 - j))
def lesT (c k : Nat) (b t : Nat → Nat → Int) : Nat → Nat → Nat → Int
 | 0 => t
 | j + 1 => tkR (lesT c k b t j) k (k - 1 - j) (shE c (lesN c k b j) k (k - 1 - j))
end Go.Proofs.YtfjbijpagaipnabGreatDoor
