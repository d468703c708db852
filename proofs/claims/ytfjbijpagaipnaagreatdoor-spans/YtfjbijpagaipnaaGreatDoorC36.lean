import Derived.Test.YtfjbijpagaipnaaGreatDoorC29
import Derived.Test.YtfjbijpagaipnaaGreatDoorC35
import Derived.Test.YtfjbijpagaipnaaGreatDoorC28
import Derived.Deep.RegionLawGrows
import Derived.StillTailTactics
import Derived.Test.YtfjbijpagaipnaaGreatDoorC10
namespace Go.Proofs.YtfjbijpagaipnaaGreatDoor.R
theorem dvd_cut (e n : Int) : ∃ e' : Nat, ∀ x : Int, e ∣ n * x ↔ (e' : Int) ∣ x := by
 rcases Nat.eq_zero_or_pos (Nat.gcd e.natAbs n.natAbs) with h0 | h0
 ·have h1 : e.natAbs = 0 := Nat.eq_zero_of_gcd_eq_zero_left h0
  have h2 : n.natAbs = 0 := Nat.eq_zero_of_gcd_eq_zero_right h0
  have h3 : e = 0 := by omega
  have h4 : n = 0 := by omega
  subst h3; subst h4
  exact ⟨1, fun x => by simp⟩
 ·refine ⟨e.natAbs / Nat.gcd e.natAbs n.natAbs, fun x => ?_⟩
  have hco := Nat.coprime_div_gcd_div_gcd h0
  have e1 : e.natAbs = Nat.gcd e.natAbs n.natAbs * (e.natAbs / Nat.gcd e.natAbs n.natAbs) := (Nat.mul_div_cancel' (Nat.gcd_dvd_left _ _)).symm
  have e2 : n.natAbs = Nat.gcd e.natAbs n.natAbs * (n.natAbs / Nat.gcd e.natAbs n.natAbs) := (Nat.mul_div_cancel' (Nat.gcd_dvd_right _ _)).symm
  rw [← Int.natAbs_dvd_natAbs, Int.natAbs_mul, Int.ofNat_dvd_left]
  generalize e.natAbs / Nat.gcd e.natAbs n.natAbs = a at *
  generalize n.natAbs / Nat.gcd e.natAbs n.natAbs = b at *
  generalize Nat.gcd e.natAbs n.natAbs = g at *
  rw [e1, e2, Nat.mul_assoc]
  constructor
  ·intro h
   have := Nat.dvd_of_mul_dvd_mul_left h0 h
   rw [Nat.mul_comm] at this
   exact hco.dvd_of_dvd_mul_right this
  ·intro h
   exact Nat.mul_dvd_mul_left g (Nat.dvd_trans h (Nat.dvd_mul_left _ _))
theorem elim {r c k : Nat} {pc : Nat → Nat} {H : Nat → Nat → Int} (h : EchSt r c k pc H) (v : Nat → Int) : ∀ s, s ≤ k → ∃ (t : Int) (n v' : Nat → Int), t ≠ 0 ∧ (∀ j, t * v j = v' j + sm (fun l => n l * H l j) s) ∧ ∀ b, b < s → v' (pc b) = 0 := by
 intro s
 induction s with
 | zero => intro _; exact ⟨1, fun _ => 0, v, by decide, fun j => by simp [sm], fun b hb => by omega⟩
 | succ s ih =>
   intro hs
   obtain ⟨t, n, v', h1, h2, h3⟩ := ih (by omega)
   have hp := h.piv s (by omega)
   have hle := h.le
   refine ⟨H s (pc s) * t, fun l => if l = s then v' (pc s) else H s (pc s) * n l, fun j => H s (pc s) * v' j - v' (pc s) * H s j, Int.mul_ne_zero (by omega) h1, fun j => ?_, fun b hb => ?_⟩
   ·have e1 : sm (fun l => (if l = s then v' (pc s) else H s (pc s) * n l) * H l j) s = sm (fun l => H s (pc s) * (n l * H l j) + 0 * (n l * H l j)) s := sm_congr s (fun l hl => by
     rw [if_neg (by omega)]; grind)
    rw [sm, e1, sm_lin]
    show _ = H s (pc s) * v' j - v' (pc s) * H s j + (_ + (if s = s then v' (pc s) else H s (pc s) * n s) * H s j)
    rw [if_pos rfl]
    have := h2 j
    grind
   ·by_cases hbs : b = s
    ·subst hbs; grind
    ·show H s (pc s) * v' (pc b) - v' (pc s) * H s (pc b) = 0
     rw [h3 b (by omega), h.below b (by omega) s (by omega) (by omega)]
     simp
theorem place {pc : Nat → Nat} {k j : Nat} (up : ∀ a b, a < b → b < k → pc a < pc b) (hne : ∀ b, b < k → pc b ≠ j) : ∃ q, q ≤ k ∧ (∀ b, b < q → pc b < j) ∧ ∀ b, q ≤ b → b < k → j < pc b := by
 induction k with
 | zero => exact ⟨0, Nat.le_refl _, fun b hb => by omega, fun b _ hb => by omega⟩
 | succ k ih =>
   obtain ⟨q, h1, h2, h3⟩ := ih (fun a b hab hb => up a b hab (by omega)) (fun b hb => hne b (by omega))
   rcases Nat.lt_or_ge (pc k) j with h | h
   ·refine ⟨k + 1, Nat.le_refl _, fun b hb => ?_, fun b hb1 hb2 => by omega⟩
    by_cases hbk : b = k
    ·rw [hbk]; exact h
    ·have := up b k (by omega) (by omega); omega
   ·refine ⟨q, by omega, h2, fun b hb1 hb2 => ?_⟩
    by_cases hbk : b = k
    ·have := hne k (by omega); rw [hbk]; omega
    ·exact h3 b hb1 (by omega)
theorem ech_insert {r c k j : Nat} {pc : Nat → Nat} {H : Nat → Nat → Int} (h : EchSt r c k pc H) {v : Nat → Int} (hv : ∀ b, b < k → v (pc b) = 0) (hj : j < c) (h0 : v j ≠ 0) :
 ∃ g pc', Ech g (k + 1) c (k + 1) pc' ∧ ∀ i, i < k + 1 → g i = v ∨ ∃ b, b < k ∧ g i = H b := by
 obtain ⟨q, h1, h2, h3⟩ := place (j := j) h.up (fun b hb e => h0 (by rw [← e]; exact hv b hb))
 have hle := h.le
 refine ⟨fun i => if i < q then H i else if i = q then v else H (i - 1), fun i => if i < q then pc i else if i = q then j else pc (i - 1), ⟨Nat.le_refl _, fun b hb => ?_, fun a b hab hb => ?_, fun b hb => ?_, fun a b hb hba ha => ?_, fun a h1 h2 => by omega⟩, fun i hi => ?_⟩
 ·show (if b < q then pc b else if b = q then j else pc (b - 1)) < c
  split
  ·exact h.col b (by omega)
  ·split
   ·exact hj
   ·exact h.col (b - 1) (by omega)
 ·show (if a < q then pc a else if a = q then j else pc (a - 1)) < (if b < q then pc b else if b = q then j else pc (b - 1))
  by_cases a1 : a < q
  ·rw [if_pos a1]
   by_cases b1 : b < q
   ·rw [if_pos b1]; exact h.up a b hab (by omega)
   ·rw [if_neg b1]
    by_cases b2 : b = q
    ·rw [if_pos b2]; exact h2 a a1
    ·rw [if_neg b2]; exact h.up a (b - 1) (by omega) (by omega)
  ·rw [if_neg a1, if_neg (show ¬ b < q by omega), if_neg (show ¬ b = q by omega)]
   by_cases a2 : a = q
   ·rw [if_pos a2]; exact h3 (b - 1) (by omega) (by omega)
   ·rw [if_neg a2]; exact h.up (a - 1) (b - 1) (by omega) (by omega)
 ·show (if b < q then H b else if b = q then v else H (b - 1)) (if b < q then pc b else if b = q then j else pc (b - 1)) ≠ 0
  by_cases b1 : b < q
  ·rw [if_pos b1, if_pos b1]; have := h.piv b (by omega); omega
  ·rw [if_neg b1, if_neg b1]
   by_cases b2 : b = q
   ·rw [if_pos b2, if_pos b2]; exact h0
   ·rw [if_neg b2, if_neg b2]; have := h.piv (b - 1) (by omega); omega
 ·show (if a < q then H a else if a = q then v else H (a - 1)) (if b < q then pc b else if b = q then j else pc (b - 1)) = 0
  by_cases b1 : b < q
  ·rw [if_pos b1]
   by_cases a1 : a < q
   ·rw [if_pos a1]; exact h.below b (by omega) a hba (by omega)
   ·rw [if_neg a1]
    by_cases a2 : a = q
    ·rw [if_pos a2]; exact hv b (by omega)
    ·rw [if_neg a2]; exact h.below b (by omega) (a - 1) (by omega) (by omega)
  ·rw [if_neg b1, if_neg (show ¬ a < q by omega), if_neg (show ¬ a = q by omega)]
   by_cases b2 : b = q
   ·rw [if_pos b2]; exact h.left (a - 1) (by omega) j (h3 (a - 1) (by omega) (by omega))
   ·rw [if_neg b2]; exact h.below (b - 1) (by omega) (a - 1) (by omega) (by omega)
 ·show (if i < q then H i else if i = q then v else H (i - 1)) = v ∨ ∃ b, b < k ∧ (if i < q then H i else if i = q then v else H (i - 1)) = H b
  by_cases a1 : i < q
  ·rw [if_pos a1]; exact .inr ⟨i, by omega, rfl⟩
  ·rw [if_neg a1]
   by_cases a2 : i = q
   ·rw [if_pos a2]; exact .inl rfl
   ·rw [if_neg a2]; exact .inr ⟨i - 1, by omega, rfl⟩
theorem Sp.comb {O : Nat → Nat → Int} {R c : Nat} {C : List Nat} {v : Nat → Int} (h : Sp O R c v) (hC : ∀ x ∈ C, x < c) : CombOf O R C v := by
 obtain ⟨x, hx⟩ := h
 exact ⟨x, fun y hy => hx y (hC y hy)⟩
theorem Sp.scale {O : Nat → Nat → Int} {R c : Nat} {v : Nat → Int} (t : Int) (h : Sp O R c v) : Sp O R c (fun j => t * v j) := by
 obtain ⟨x, hx⟩ := h
 refine ⟨fun l => t * x l, fun j hj => ?_⟩
 have := sm_lin t 0 (fun l => x l * O l j) (fun l => x l * O l j) R
 show t * v j = sm (fun l => t * x l * O l j) R
 rw [hx j hj, show sm (fun l => t * x l * O l j) R = sm (fun l => t * (x l * O l j) + 0 * (x l * O l j)) R from sm_congr R (fun l _ => by grind), this]
 grind
theorem Sp.sum {O H : Nat → Nat → Int} {R c : Nat} (n : Nat → Int) : ∀ k, (∀ i, i < k → Sp O R c (H i)) → Sp O R c (fun j => sm (fun l => n l * H l j) k)
 | k, h => by
   have h1 : Sp H k c (fun j => sm (fun l => n l * H l j) k) := ⟨n, fun j _ => rfl⟩
   exact h1.trans h
theorem chosenL_self (k : Nat) : chosenL k k = [List.range k] := by
 induction k with
 | zero => rfl
 | succ k ih =>
   rw [chosenL, List.range_succ, List.drop_append_of_le_length (by simp), List.drop_of_length_le (by simp)]
   simp [ih]
theorem mv_pick {H : Nat → Nat → Int} {n v : Nat → Int} {t : Int} {c k i : Nat} {C : List Nat} (hC : C.length = k) (hCc : ∀ x ∈ C, x < c) (h4 : k ≤ 4) (hi : i < k) (hv : ∀ j, j < c → t * v j = sm (fun l => n l * H l j) k) :
 t * mv ((List.range i).map H ++ v :: (List.range' (i + 1) (k - i - 1)).map H) C = n i * mv ((List.range k).map H) C := by
 have e0 : (List.range k).map H = (List.range i).map H ++ H i :: (List.range' (i + 1) (k - i - 1)).map H := by
  rw [← List.map_cons, ← List.map_append, ← List.range'_succ, List.range_eq_range', List.range_eq_range']
  have := List.range'_append_1 (s := 0) (m := i) (n := k - i - 1 + 1)
  rw [Nat.zero_add] at this
  rw [this, show i + (k - i - 1 + 1) = k from by omega]
 have e1 := mv_lin t 0 v v ((List.range' (i + 1) (k - i - 1)).map H) ((List.range i).map H) C
 have e2 : mv ((List.range i).map H ++ (fun j => t * v j + 0 * v j) :: (List.range' (i + 1) (k - i - 1)).map H) C = mv ((List.range i).map H ++ (fun j => sm (fun l => n l * H l j) k) :: (List.range' (i + 1) (k - i - 1)).map H) C := mv_at _ _ C (fun x hx => by rw [← hv x (hCc x hx)]; grind)
 have e3 := mv_sum n H ((List.range i).map H) ((List.range' (i + 1) (k - i - 1)).map H) C k
 have e4 : sm (fun l => n l * mv ((List.range i).map H ++ H l :: (List.range' (i + 1) (k - i - 1)).map H) C) k = n i * mv ((List.range i).map H ++ H i :: (List.range' (i + 1) (k - i - 1)).map H) C := sm_one k i hi (fun l hl hne => by
  have hz : mv ((List.range i).map H ++ H l :: (List.range' (i + 1) (k - i - 1)).map H) C = 0 := by
   rcases Nat.lt_or_ge l i with h1 | h1
   ·obtain ⟨xs, ys, he⟩ := List.append_of_mem (show l ∈ List.range i from List.mem_range.2 h1)
    have hlen : xs.length + ys.length + 1 = i := by have := congrArg List.length he; simp at this; omega
    rw [he, List.map_append, List.map_cons]
    have := mv_same (H l) (xs.map H) (ys.map H) ((List.range' (i + 1) (k - i - 1)).map H) C (by simp; omega) (by omega)
    simpa using this
   ·obtain ⟨xs, ys, he⟩ := List.append_of_mem (show l ∈ List.range' (i + 1) (k - i - 1) from List.mem_range'_1.2 (by omega))
    have hlen : xs.length + ys.length + 1 = k - i - 1 := by have := congrArg List.length he; simp at this; omega
    rw [he, List.map_append, List.map_cons]
    have := mv_same (H l) ((List.range i).map H) (xs.map H) (ys.map H) C (by simp; omega) (by omega)
    simpa using this
  rw [hz, Int.mul_zero])
 rw [e0, ← e4, ← e3, ← e2, e1]
 grind
theorem span_of_div {O A H : Nat → Nat → Int} {r R c k : Nat} {pc : Nat → Nat} {v : Nat → Int} (h : EchSt r c k pc H) (hA : ∀ i, i < r → Sp H k c (A i)) (hH : ∀ i, i < k → Sp O R c (H i)) (hv : Sp O R c v) (hc : c ≤ 4) (hrank : k = c ∨ AllV O R c (k + 1)) (hd : divF A r c k ∣ divF O R c k) (hd0 : divF A r c k ≠ 0) : Sp H k c v := by
 obtain ⟨t, n, v', ht, h1, h2⟩ := elim h v k (Nat.le_refl _)
 have hv' : Sp O R c v' := by
  have := (Sp.scale t hv).sub (Sp.sum n k hH)
  obtain ⟨x, hx⟩ := this
  exact ⟨x, fun j hj => by rw [← hx j hj]; have := h1 j; grind⟩
 have hz : ∀ j, j < c → v' j = 0 := by
  rcases first_ne v' c with hz | ⟨j, hj, hne, -⟩
  ·exact hz
  ·exfalso
   obtain ⟨g, pc', hE, hg⟩ := ech_insert h h2 hj hne
   have hkc := ech_cols hE
   rcases hrank with hk | hk
   ·omega
   ·have hC := cols_mem hE.up (k + 1) c (Nat.le_refl _) (fun b hb => hE.col b hb)
    have hD := allD_comb ((allV_iff O R c (k + 1)).1 hk _ hC) (g := g) (r' := k + 1) (fun i hi => by
     rcases hg i hi with e | ⟨b, hb, e⟩
     ·rw [e]; exact Sp.comb hv' (chosenL_lt hC).2
     ·rw [e]; exact Sp.comb (hH b hb) (chosenL_lt hC).2)
    have h3 := hD (List.range (k + 1)) (by simp) (fun x hx => List.mem_range.1 hx)
    have h4 := tri hE (k + 1) 0 (by omega)
    rw [← List.range_eq_range'] at h4
    exact h4 (Int.zero_dvd.1 h3)
 have h5 : ∀ j, j < c → t * v j = sm (fun l => n l * H l j) k := fun j hj => by rw [h1 j, hz j hj]; simp
 have hkc : k ≤ 4 := by have := h.te; omega
 have hn : ∀ i, i < k → t ∣ n i := fun i hi => by
  obtain ⟨e', he⟩ := dvd_cut (t * (divF A r c k : Nat)) (n i)
  have h6 : e' ∣ divF A r c k := by
   rw [div_dvd e' A r c k hkc]
   intro C hC
   obtain ⟨hCl, hCc⟩ := chosenL_lt hC
   refine allD_comb (f := H) (r := k) ?_ (fun i hi => Sp.comb (hA i hi) hCc)
   intro Rr hRr hRk
   have := rise_all e' H C (by omega) k k [] (by simp [hCl]) (fun R' hR' => by
    rw [chosenL_self, List.mem_singleton] at hR'
    subst hR'
    rw [List.append_nil, ← he, ← mv_pick hCl hCc hkc hi h5]
    refine Int.mul_dvd_mul (Int.dvd_refl t) ?_
    have h7 := (div_dvd _ O R c k hkc).1 hd C hC
    have h8 := comb_dvd h7 ((List.range i).map H ++ v :: (List.range' (i + 1) (k - i - 1)).map H) (fun u hu => by
     rcases List.mem_append.1 hu with hu | hu
     ·obtain ⟨b, hb, rfl⟩ := List.mem_map.1 hu
      exact Sp.comb (hH b (by have := List.mem_range.1 hb; omega)) hCc
     ·rcases List.mem_cons.1 hu with hu | hu
      ·rw [hu]; exact Sp.comb hv hCc
      ·obtain ⟨b, hb, rfl⟩ := List.mem_map.1 hu
       exact Sp.comb (hH b (by have := List.mem_range'_1.1 hb; omega)) hCc) [] (by simp; omega) (fun x hx => by simp at hx)
    simpa using h8) Rr (by omega) hRk
   simpa using this
  have h9 := (he (divF A r c k : Nat)).2 (Int.ofNat_dvd.2 h6)
  exact Int.dvd_of_mul_dvd_mul_right (by omega) h9
 refine ⟨fun l => n l / t, fun j hj => ?_⟩
 have e1 : sm (fun l => n l * H l j) k = sm (fun l => t * (n l / t * H l j) + 0 * 0) k := sm_congr k (fun l hl => by
  have := Int.mul_ediv_cancel' (hn l hl)
  grind)
 have e2 := h5 j hj
 rw [e1, sm_lin t 0 (fun l => n l / t * H l j) (fun _ => 0)] at e2
 exact Int.eq_of_mul_eq_mul_left ht (by rw [e2]; simp)
theorem div_same {A O : Nat → Nat → Int} {r R c m : Nat} (h1 : ∀ i, i < r → Sp O R c (A i)) (h2 : ∀ i, i < R → Sp A r c (O i)) (hm : m ≤ 4) : divF A r c m = divF O R c m := by
 refine Nat.dvd_antisymm ?_ ?_
 ·rw [div_dvd _ O R c m hm]
  exact fun C hC => allD_comb ((div_dvd _ A r c m hm).1 (Nat.dvd_refl _) C hC) (fun i hi => Sp.comb (h2 i hi) (chosenL_lt hC).2)
 ·rw [div_dvd _ A r c m hm]
  exact fun C hC => allD_comb ((div_dvd _ O R c m hm).1 (Nat.dvd_refl _) C hC) (fun i hi => Sp.comb (h1 i hi) (chosenL_lt hC).2)
theorem chosenL_none {k n : Nat} (h : n < k) : chosenL k n = [] := by
 cases hc : chosenL k n with
 | nil => rfl
 | cons a l => have := chosenL_le (show a ∈ chosenL k n by rw [hc]; simp); omega
theorem div_few (f : Nat → Nat → Int) {r c k : Nat} (h : r < k) : divF f r c k = 0 := by
 unfold divF; rw [chosenL_none h]; rfl
theorem div_zero (f : Nat → Nat → Int) (r c : Nat) : divF f r c 0 = 1 := by
 simp [divF, chosenL, gA, gR, minorF]
theorem RankIs.next {f : Nat → Nat → Int} {r c k : Nat} (h : RankIs f r c k) : k = c ∨ divF f r c (k + 1) = 0 := by
 rcases h.2.2.2 with h1 | h1 | h1
 ·exact .inr (div_few f (by omega))
 ·exact .inl h1
 ·exact .inr h1
theorem RankIs.pos {f : Nat → Nat → Int} {r c k : Nat} (h : RankIs f r c k) : divF f r c k ≠ 0 := by
 cases k with
 | zero => rw [div_zero]; decide
 | succ k => exact h.2.2.1 k (by omega)
theorem rank_same {A O : Nat → Nat → Int} {r R c k : Nat} (h1 : ∀ i, i < r → Sp O R c (A i)) (h2 : ∀ i, i < R → Sp A r c (O i)) (hc : c ≤ 4) (h : RankIs A r c k) : RankIs O R c k := by
 have hkc := h.2.1
 refine ⟨?_, hkc, fun i hi => by rw [← div_same h1 h2 (by omega)]; exact h.2.2.1 i hi, ?_⟩
 ·rcases Nat.lt_or_ge R k with h3 | h3
  ·have := h.pos
   rw [div_same h1 h2 (by omega), div_few O h3] at this
   omega
  ·exact h3
 ·rcases h.next with h3 | h3
  ·exact .inr (.inl h3)
  ·by_cases h4 : k = c
   ·exact .inr (.inl h4)
   ·exact .inr (.inr (by rw [← div_same h1 h2 (by omega)]; exact h3))
def ov (r : Nat) (A N : Nat → Nat → Int) : Nat → Nat → Int := fun i => if i < r then A i else N (i - r)
theorem Sp.ov_top {A N : Nat → Nat → Int} {r n c : Nat} {v : Nat → Int} (h : Sp A r c v) : Sp (ov r A N) (r + n) c v := by
 refine h.trans (fun i hi => ?_)
 have := Sp.row (ov r A N) c (show i < r + n by omega)
 rw [show ov r A N i = A i from if_pos hi] at this
 exact this
theorem Sp.ov_low {A N : Nat → Nat → Int} {r n c i : Nat} (hi : i < n) : Sp (ov r A N) (r + n) c (N i) := by
 have := Sp.row (ov r A N) c (show r + i < r + n by omega)
 rw [show ov r A N (r + i) = N i from by unfold ov; rw [if_neg (by omega)]; congr 1; omega] at this
 exact this
theorem spans_iff {A H U W N : Nat → Nat → Int} {r n c k : Nat} {pc : Nat → Nat} (h : EchSt r c k pc H) (hE : EInv A H U W r c) (hc : c ≤ 4) (hA : RankIs A r c k) :
 (∀ i, i < n → Sp A r c (N i)) ↔ (RankIs (ov r A N) (r + n) c k ∧ divF (ov r A N) (r + n) c k = divF A r c k) := by
 have hkc := hA.2.1
 obtain ⟨s1, s2⟩ := span_rows h hE
 constructor
 ·intro hN
  have g1 : ∀ i, i < r → Sp (ov r A N) (r + n) c (A i) := fun i hi => Sp.ov_top (Sp.row A c hi)
  have g2 : ∀ i, i < r + n → Sp A r c (ov r A N i) := fun i hi => by
   unfold ov
   split
   ·rename_i h1; exact Sp.row A c h1
   ·exact hN _ (by omega)
  exact ⟨rank_same g1 g2 hc hA, (div_same g1 g2 (by omega)).symm⟩
 ·rintro ⟨h1, h2⟩ i hi
  have hle := h.le
  have hk : k = c ∨ AllV (ov r A N) (r + n) c (k + 1) := by
   rcases h1.next with h3 | h3
   ·exact .inl h3
   ·by_cases h4 : k = c
    ·exact .inl h4
    ·exact .inr ((all_div _ _ _ _ (by omega)).1 h3)
  exact (span_of_div h s1 (fun b hb => Sp.ov_top (s2 b (by omega))) (Sp.ov_low hi) hc hk (by rw [h2]; exact Nat.dvd_refl _) hA.pos).trans (fun b hb => s2 b (by omega))
open Go.RowKit
theorem below_grown {B p : Nat} {w w' : World} (h : w.grownBy w' (some p)) (hp : B ≤ p) (hB : B ≤ w.heap.size) : Below B w w' := ⟨h.os, h.tape, h.output, h.size, fun k hk => h.block k (by omega) (by intro e; injection e with e; omega)⟩
set_option maxRecDepth 100000 in
set_option maxHeartbeats 4000000 in
theorem over_any (b b' r q c : Nat) (gs gs' : Nat → Nat) (f f' : Nat → Nat → Int) (B B' L : Nat) (w : World) (h : IsR B w b r c gs f L) (h' : IsR B' w b' q c gs' f' L) (hr : r + q ≤ 99) (hc : c ≤ 99) :
 Calls Tryz.prog 131 #[.pointer (some ⟨b, 0, none⟩), .pointer (some ⟨b', 0, none⟩)] w fun e w' => e = .returned (.pointer (some ⟨w.heap.size, 0, none⟩)) ∧ (∃ go, IsR 0 w' w.heap.size (r + q) c go (ov r f f') L) ∧ Below w.heap.size w w' := by
 have H := Hid.mk (And.intro h h')
 obtain ⟨hbl, ao, cap, c0, c1, c2, -⟩ := h.open_
 obtain ⟨hbl', ao', cap', d0, d1, d2, -⟩ := h'.open_
 clear h h'
 obtain ⟨R, hR⟩ : ∃ R, R = r + q := ⟨_, rfl⟩
 have hRi : (r : Int) + (q : Int) = (R : Int) := by omega
 have HR := Hid.mk hR
 rw [← hR] at hr ⊢
 clear hR
 go_enter Tryz.func131, Tryz.ntmps131
 go_upto_region 1 with fail
 go_still_tail 13, (by kernel_rfl)
 go_wp2_with fail
 refine (empty_any R c _ (by omega) hc).mono ?_
 rintro e w2 ⟨rfl, ⟨go, hI⟩, hb2⟩
 have hbc : Below w.heap.size w w2 := (Below.refl w.heap.size w).drew.trans hb2
 have hgo := hI.rowsAt
 have HGO := Hid.mk hgo
 have H0 := Hid.mk (And.intro ((hI.weak (Nat.zero_le _)).mono (Nat.zero_le L)) hbc)
 clear hI hb2 hbc hgo c0 c1 c2 d0 d1 d2
 go_wp2_with fail
 go_loopw [6] (fun i wr => ∃ (a : Nat) (g : Nat → Nat → Int), a ≤ r ∧ i = .int .i64 a ∧ IsR 0 wr w.heap.size R c go g L ∧ Below w.heap.size w wr ∧ Hid (∀ i j, i < a → g i j = f i j)) (fun i _ => r - (intOf i).toNat)
 case atStart => exact ⟨0, _, Nat.zero_le _, rfl, H0.out.1, H0.out.2, Hid.mk (fun i j h => by omega)⟩
 case round =>
  rename World => wi
  obtain ⟨a, g, ha, rfl, hI, hbel, HU⟩ := hrel
  obtain ⟨-, ao, cap, c0, c1, c2, c3, c4, c5, -⟩ := (H.out.1.keep (KR.of_below hbel)).open_
  obtain ⟨-, ao', cap', d0, d1, d2, d3, d4, d5, -⟩ := hI.open_
  have HB := Hid.mk (And.intro hI hbel)
  have hwi := hbel.size
  clear hI hbel
  by_cases har : a < r
  ·have hai : (a : Int) < (r : Int) := by omega
   have haR : a < R := by have := HR.out; omega
   obtain ⟨gL, rfl, y1⟩ := d5 a haR
   obtain ⟨gM, rfl, x1⟩ := c5 a har
   have S := Hid.mk (And.intro (HB.out.1.row haR) ((H.out.1.keep (KR.of_below HB.out.2)).row har))
   clear c5 d5
   go_wp2_with fail
   go_region_law (refine step_copy_n rfl (.tmp 36) (.tmp 43) rfl (go a) (gs a) c (f a) (g a) L L rfl rfl S.out.1 S.out.2 ?_; intro w3 hrow hgr)
   all_goals
    go_wp2_with fail
    go_roundw
    case measure => simp [intOf]; omega
    case rel =>
     have hge := (HGO.out a haR).1
     exact ⟨a + 1, _, by omega, by go_num, IsR.rowed (w := wi.drew) HB.out.1 haR hrow hgr, HB.out.2.drew.trans (below_grown hgr hge hwi), Hid.mk (fun i j hi => by
      show (if i = a then f a j else g i j) = f i j
      by_cases e : i = a
      ·rw [if_pos e, e]
      ·rw [if_neg e]; exact HU.out i j (by omega))⟩
  ·have hae : a = r := by omega
   subst hae
   clear c3 c4 c5 d3 d4 d5 d0 d1 d2
   go_wp2_with fail
   clear c0 c1 c2
   go_loopw [7] (fun i wr => ∃ (k : Nat) (g' : Nat → Nat → Int), k ≤ q ∧ i = .int .i64 k ∧ IsR 0 wr w.heap.size R c go g' L ∧ Below w.heap.size w wr ∧ Hid (∀ i j, i < a + k → g' i j = ov a f f' i j)) (fun i _ => q - (intOf i).toNat)
   case atStart => exact ⟨0, g, Nat.zero_le _, rfl, HB.out.1, HB.out.2, Hid.mk (fun i j h => by unfold ov; rw [if_pos (by omega)]; exact HU.out i j (by omega))⟩
   case round =>
    rename World => wj
    obtain ⟨k, g', hk, rfl, hI, hbel, HV⟩ := hrel
    obtain ⟨-, ao, cap, c0, c1, c2, -⟩ := (H.out.1.keep (KR.of_below hbel)).open_
    obtain ⟨-, ao', cap', d0, d1, d2, d3, d4, d5, -⟩ := hI.open_
    obtain ⟨-, ao2, cap2, e0, e1, e2, e3, e4, e5, -⟩ := (H.out.2.keep (KR.of_below hbel)).open_
    have HC := Hid.mk (And.intro hI hbel)
    have hwj := hbel.size
    clear hI hbel
    by_cases hkq : k < q
    ·have hki : (k : Int) < (q : Int) := by omega
     obtain ⟨A, hA⟩ : ∃ A, A = a + k := ⟨_, rfl⟩
     have hkR : A < R := by have := HR.out; omega
     obtain ⟨gL, rfl, y1⟩ := d5 A hkR
     obtain ⟨gM, rfl, x1⟩ := e5 k hkq
     have hsum : (a : Int) + (k : Int) = (A : Int) := by omega
     have hwA : IntKind.i64.wrap (A : Int) = (A : Int) := IntWalk.i64_in _ (by omega)
     have hAR : (A : Int) < (R : Int) := by omega
     have S := Hid.mk (And.intro (HC.out.1.row hkR) ((H.out.2.keep (KR.of_below HC.out.2)).row hkq))
     have HA := Hid.mk hA
     clear d5 e5 hA
     go_wp2_with fail
     go_region_law (refine step_copy_n rfl (.tmp 64) (.tmp 71) rfl (go A) (gs' k) c (f' k) (g' A) L L rfl rfl S.out.1 S.out.2 ?_; intro w3 hrow hgr)
     all_goals
      go_wp2_with fail
      go_roundw
      case measure => simp [intOf]; omega
      case rel =>
       have hge := (HGO.out A hkR).1
       have hA := HA.out
       exact ⟨k + 1, _, by omega, by go_num, IsR.rowed (w := wj.drew) HC.out.1 hkR hrow hgr, HC.out.2.drew.trans (below_grown hgr hge hwj), Hid.mk (fun i j hi => by
        show (if i = A then f' k j else g' i j) = ov a f f' i j
        by_cases e : i = A
        ·rw [if_pos e, e, hA]
         unfold ov
         rw [if_neg (by omega), Nat.add_sub_cancel_left]
        ·rw [if_neg e]; exact HV.out i j (by omega))⟩
    ·go_wp2_with fail
     go_ret
     refine ⟨rfl, ⟨go, ?_⟩, HC.out.2⟩
     have hkq2 : k = q := by omega
     subst hkq2
     refine HC.out.1.congr fun i j hi _ => ?_
     exact HV.out i j (by have := HR.out; omega)
end Go.Proofs.YtfjbijpagaipnaaGreatDoor.R
namespace Go.Proofs.YtfjbijpagaipnaaGreatDoor
open Go.RowKit
def FoundM (w : World) (ms : List Hm) (g : Int) (r q : Nat) (v : Value) (ok : Bool) : Prop := (ok = true ∧ ∃ i hd zs, i < 24 ∧ ms.getD i none = some (hd, r, q, zs) ∧ (hd : Int) = g ∧ IsM w v r q zs 200000000) ∨ (ok = false ∧ ∀ k, k < 24 → ∀ x, ms.getD k none = some x → (x.1 : Int) ≠ g)
theorem FoundM.below {w w' : World} {ms : List Hm} {g : Int} {r q : Nat} {v : Value} {ok : Bool} (h : FoundM w ms g r q v ok) (hb : Below w.heap.size w w') : FoundM w' ms g r q v ok := by
 rcases h with ⟨h1, i, hd, zs, h2, h3, h4, h5⟩ | h
 ·exact .inl ⟨h1, i, hd, zs, h2, h3, h4, h5.below hb⟩
 ·exact .inr h
theorem find_held (b : Nat) (g : Int) (ms : List Hm) (nx : Nat) (w : World) (hst : Held w b ms nx) :
 Calls Tryz.prog 41 #[.pointer (some ⟨b, 0, none⟩), .int .i64 g] w fun e w' => (∃ r q ao n cap ok, e = .returned (.tuple #[.agg #[.int .i64 ((r : Nat) : Int), .int .i64 ((q : Nat) : Int), .slice ao n cap], .bool ok]) ∧ FoundM w' ms g r q (.agg #[.int .i64 (r : Nat), .int .i64 (q : Nat), .slice ao n cap]) ok) ∧ Below w.heap.size w w' := by
 obtain ⟨hm24, -, sl, hsg, hsl⟩ := hst
 have hsh : ∀ k x, sl.getD k none = some x → ∃ ao n cap, x.2.2.2 = .slice ao n cap := fun k x hx => by
  have hk := getD_past24 hsg.1 hx
  have h1 := hsl k hk
  rw [hx] at h1
  exact h1.shape
 refine (find_any b g sl nx w hsg hsh).mono ?_
 rintro e w1 ⟨⟨v, ok, rfl, hf⟩, hb1⟩
 refine ⟨?_, hb1⟩
 rcases hf with ⟨rfl, k, hk, x, hx, hxh, rfl⟩ | ⟨rfl, rfl, hno⟩
 ·obtain ⟨y, hy, e1, e2, e3, hM⟩ := some_of hsl hk hx
  obtain ⟨ao, n, cap, hv⟩ := hsh k x hx
  obtain ⟨hd, r, c, v⟩ := x
  obtain ⟨hd', r', c', zs⟩ := y
  simp only at e1 e2 e3 hM hv hxh
  subst e1; subst e2; subst e3; subst hv
  exact ⟨r, c, ao, n, cap, true, rfl, .inl ⟨rfl, k, hd, zs, hk, hy, hxh, hM.below hb1⟩⟩
 ·exact ⟨0, 0, none, 0, 0, false, rfl, .inr ⟨rfl, none_of hsl hno⟩⟩
theorem keep_held (b r c : Nat) (ao : Option Addr) (m cap : Nat) (zs : List Int) (ms : List Hm) (nx n : Nat) (w : World) (hst : Held w b ms nx) (hM : IsM w (.agg #[.int .i64 r, .int .i64 c, .slice ao m cap]) r c zs 200000000) (hn : FreeAt ms n) (hnx : nx < 1000000) :
 Calls Tryz.prog 48 #[.pointer (some ⟨b, 0, none⟩), .agg #[.int .i64 r, .int .i64 c, .slice ao m cap]] w fun e w' => e = .returned (.int .i64 (nx : Nat)) ∧ Held w' b (ms.set n (some (nx, r, c, zs))) (nx + 1) ∧ Fr b w w' := by
 obtain ⟨hm24, -, sl, hsg, hsl⟩ := hst
 have hff : FirstFree sl n := ⟨hn.1, (hsl n hn.1).none_iff.2 hn.2.1, fun j hj e => hn.2.2 j hj ((hsl j (by have := hn.1; omega)).none_iff.1 e)⟩
 refine (keep_any b r c ao m cap sl nx n w hsg hff (by omega)).mono ?_
 rintro e w3 ⟨rfl, hS3, hF3⟩
 refine ⟨rfl, ⟨by simp [hm24], by omega, _, hS3, fun i hi => ?_⟩, hF3⟩
 rw [slt_set (by have := hsg.1; have := hff.1; omega), hm_set (by have := hff.1; omega)]
 by_cases hin : i = n
 ·rw [if_pos hin, if_pos hin]
  exact ⟨rfl, rfl, rfl, hM.keepT hF3.2⟩
 ·rw [if_neg hin, if_neg hin]
  exact (hsl i hi).keep hF3.2
theorem room_held (b : Nat) (ms : List Hm) (nx : Nat) (w : World) (hst : Held w b ms nx) :
 Calls Tryz.prog 47 #[.pointer (some ⟨b, 0, none⟩)] w fun e w' => e = .returned (.int .i64 ((ms.countP Option.isNone : Nat) : Int)) ∧ w' = w := by
 obtain ⟨hm24, -, sl, hsg, hsl⟩ := hst
 refine (room_any b sl nx w hsg).mono ?_
 rintro e w' ⟨rfl, rfl⟩
 refine ⟨?_, rfl⟩
 have key : ∀ (a : List Slt) (m : List Hm), a.length = m.length → (∀ i, i < a.length → ((a.getD i none).isNone = (m.getD i none).isNone)) → a.countP Option.isNone = m.countP Option.isNone := by
  intro a
  induction a with
  | nil => intro m hl _; cases m with
    | nil => rfl
    | cons => simp at hl
  | cons x a ih => intro m hl h; cases m with
    | nil => simp at hl
    | cons y m =>
      have h0 := h 0 (by simp)
      have h1 := ih m (by simpa using hl) (fun i hi => by have := h (i + 1) (by simpa using hi); simpa using this)
      rw [List.countP_cons, List.countP_cons, h1]
      simp at h0
      rw [h0]
 rw [key sl ms (by rw [hsg.1, hm24]) (fun i hi => by
  have h1 := (hsl i (by have := hsg.1; omega)).none_iff
  cases hx : sl.getD i none with
  | none => rw [h1.1 hx]; rfl
  | some x => cases hy : ms.getD i none with
    | none => rw [h1.2 hy] at hx; cases hx
    | some y => rfl)]
theorem free_of_room {ms : List Hm} (hl : ms.length = 24) (h : 0 < ms.countP Option.isNone) : ∃ n, FreeAt ms n := by
 have h1 : ∃ i, i < 24 ∧ ms.getD i none = none := by
  rw [List.countP_pos_iff] at h
  obtain ⟨x, hx, hn⟩ := h
  obtain ⟨i, hi, rfl⟩ := List.mem_iff_getElem.1 hx
  refine ⟨i, by omega, ?_⟩
  rw [List.getD, List.getElem?_eq_getElem hi]
  simpa using hn
 obtain ⟨i, hi, he⟩ := h1
 induction i using Nat.strongRecOn with
 | ind i ih =>
   by_cases h : ∃ j, j < i ∧ ms.getD j none = none
   ·obtain ⟨j, hj, hjn⟩ := h
    exact ih j hj (by omega) hjn
   ·exact ⟨i, hi, he, fun j hj hjn => h ⟨j, hj, hjn⟩⟩
theorem full_of_room {ms : List Hm} (hl : ms.length = 24) (h : ms.countP Option.isNone = 0) : ∀ i, i < 24 → ms.getD i none ≠ none := by
 intro i hi e
 rw [List.countP_eq_zero] at h
 have h2 := h (ms[i]'(by omega)) (List.getElem_mem _)
 rw [List.getD, List.getElem?_eq_getElem (show i < ms.length from by omega)] at e
 simp at e
 simp [e] at h2
end Go.Proofs.YtfjbijpagaipnaaGreatDoor
