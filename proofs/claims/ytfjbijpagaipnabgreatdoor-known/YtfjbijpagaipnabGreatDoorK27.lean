import Derived.Test.YtfjbijpagaipnabGreatDoorK26
import Derived.Test.YtfjbijpagaipnabGreatDoorK22
import Derived.Test.YtfjbijpagaipnabGreatDoorK15
import Derived.BigRegion
import Derived.Test.YtfjbijpagaipnabGreatDoorK18
import Derived.BigQuiet
import Derived.Deep.RegionHeld3
import Derived.Test.YtfjbijpagaipnabGreatDoorK03
import Derived.Deep.CutRange
import Derived.Test.YtfjbijpagaipnabGreatDoorK19
import Derived.Laws.CopyOwn
import Derived.Deep.RegionLaw
import Derived.Deep.RegionLawGrows
import Derived.StillTailTactics
import Derived.Test.YtfjbijpagaipnabGreatDoorK21
import Derived.Deep.RegionWith
import Derived.Laws.Cover3
import Derived.Test.YtfjbijpagaipnabGreatDoorK25
import Derived.Test.YtfjbijpagaipnabGreatDoorK06
import Derived.Test.YtfjbijpagaipnabGreatDoorK07
import Derived.Test.YtfjbijpagaipnabGreatDoorK23
import Derived.Test.YtfjbijpagaipnabGreatDoorK01
namespace Go.Proofs.YtfjbijpagaipnabGreatDoor
open Go.RowKit
abbrev KMx := Nat × Nat × List Int
def stk (l : List KMx) : List Hm := (List.range 24).map fun j => (l[j]?).map fun x => (j, x)
theorem stk_len (l : List KMx) : (stk l).length = 24 := by simp [stk]
theorem stk_get (l : List KMx) {k : Nat} (hk : k < 24) : (stk l).getD k none = (l[k]?).map fun x => (k, x) := by
 unfold stk
 rw [List.getD, List.getElem?_map, List.getElem?_range hk]
 rfl
theorem stk_nil : stk [] = List.replicate 24 none := by decide
theorem stk_free {l : List KMx} (hl : l.length < 24) : FreeAt (stk l) l.length := by
 refine ⟨hl, by rw [stk_get l hl]; simp, fun j hj => ?_⟩
 rw [stk_get l (by omega), List.getElem?_eq_getElem hj]
 simp
theorem stk_room {l : List KMx} (hl : l.length < 24) (hf : ∀ i, i < 24 → (stk l).getD i none ≠ none) : False := hf _ hl (stk_free hl).2.1
theorem stk_set {l : List KMx} (hl : l.length < 24) (x : KMx) : (stk l).set l.length (some (l.length, x)) = stk (l ++ [x]) := by
 refine hm_ext (by simp [stk_len]) (stk_len _) fun k hk => ?_
 rw [hm_set (by rw [stk_len]; exact hl), stk_get l hk, stk_get _ hk]
 by_cases e : k = l.length
 ·subst e; simp
 ·rw [if_neg e]
  by_cases h : k < l.length
  ·rw [List.getElem?_append_left h]
  ·rw [List.getElem?_eq_none (by omega), List.getElem?_eq_none (by simp; omega)]
theorem stk_put {l : List KMx} (hl : l.length < 24) (x : KMx) {n : Nat} (hn : FreeAt (stk l) n) : (stk l).set n (some (l.length, x)) = stk (l ++ [x]) := by
 rw [hn.uniq (stk_free hl)]; exact stk_set hl x
theorem stk_is {l : List KMx} {i k hd r c : Nat} {zs : List Int} {y : KMx} (hi : i < 24) (hx : (stk l).getD i none = some (hd, r, c, zs)) (he : ((hd : Nat) : Int) = (k : Int)) (hl : l[k]? = some y) : y = (r, c, zs) := by
 rw [stk_get l hi] at hx
 obtain ⟨z, hz, e⟩ := Option.map_eq_some_iff.1 hx
 simp only [Prod.mk.injEq] at e
 obtain ⟨rfl, rfl⟩ := e
 obtain rfl : i = k := by omega
 rw [hl] at hz
 injection hz
theorem stk_no {l : List KMx} {k : Nat} {y : KMx} (h24 : l.length ≤ 24) (hl : l[k]? = some y) (hn : ∀ i, i < 24 → ∀ x, (stk l).getD i none = some x → (x.1 : Int) ≠ (k : Int)) : False := by
 have hk := (List.getElem?_eq_some_iff.1 hl).1
 exact hn k (by omega) (k, y) (by rw [stk_get l (by omega), hl]; rfl) rfl
theorem stk_count : ∀ l : List KMx, l.length ≤ 24 → (stk l).countP Option.isNone = 24 - l.length := by
 intro l hl
 have key : ∀ n, n ≤ 24 → ((List.range n).map fun j => (l[j]?).map fun x => (j, x)).countP Option.isNone = n - l.length := by
  intro n
  induction n with
  | zero => intro _; simp
  | succ n ih =>
    intro hn
    rw [List.range_succ, List.map_append, List.countP_append, ih (by omega)]
    by_cases h : n < l.length
    ·simp [List.getElem?_eq_getElem h]; omega
    ·simp [List.getElem?_eq_none (Nat.le_of_not_lt h)]; omega
 exact key 24 (Nat.le_refl _)
theorem stk_puts : ∀ (xs l : List KMx), l.length + xs.length ≤ 24 → puts (stk l) l.length xs = stk (l ++ xs) := by
 intro xs
 induction xs with
 | nil => intro l _; simp [puts]
 | cons x xs ih =>
   intro l hl
   simp only [List.length_cons] at hl
   have h1 : put1 (stk l) l.length x = stk (l ++ [x]) := by
    unfold put1
    exact stk_put (by omega) x (ff_free (stk_len l) (by rw [stk_count l (by omega)]; omega))
   have h2 := ih (l ++ [x]) (by simp; omega)
   rw [puts, h1]
   simpa using h2
open Go.RowKit
theorem digit_nat (d : Nat) (h : d < 10) : (UInt8.ofNat (48 + d)).toNat = 48 + d := by rw [UInt8.toNat_ofNat', Nat.mod_eq_of_lt (by omega)]
theorem decDigits_facts (u : Nat) : Lib.decDigits u ≠ [] ∧ Digs (Lib.decDigits u) ∧ decval (Lib.decDigits u) = u ∧ (0 < u → ∃ d r, Lib.decDigits u = d :: r ∧ d.toNat ≠ 48) := by
 induction u using Nat.strongRecOn with
 | ind u ih =>
   by_cases h : u < 10
   ·rw [Lib.decDigits_one h]
    refine ⟨by simp, ?_, ?_, fun h0 => ⟨_, _, rfl, ?_⟩⟩
    ·intro c hc
     rw [List.mem_singleton] at hc
     rw [hc, digit_nat u h]; omega
    ·have := digit_nat u h
     unfold decval
     simp only [List.foldl_cons, List.foldl_nil]
     rw [this]; omega
    ·rw [digit_nat u h]; omega
   ·obtain ⟨h1, h2, h3, h4⟩ := ih (u / 10) (by omega)
    rw [decDigits_big h]
    have hd := digit_nat (u % 10) (by omega)
    refine ⟨by simp, ?_, ?_, fun _ => ?_⟩
    ·intro c hc
     rcases List.mem_append.1 hc with hc | hc
     ·exact h2 c hc
     ·rw [List.mem_singleton] at hc
      rw [hc, hd]; omega
    ·rw [decval_snoc, h3, hd]; omega
    ·obtain ⟨d, r, e1, e2⟩ := h4 (by omega)
     exact ⟨d, r ++ [UInt8.ofNat (48 + u % 10)], by rw [e1]; rfl, e2⟩
theorem decDigits_run (u : Nat) : Run (Lib.decDigits u) := by
 obtain ⟨h1, h2, h3, h4⟩ := decDigits_facts u
 refine ⟨h1, h2, ?_⟩
 rcases Nat.eq_zero_or_pos u with h | h
 ·subst h
  exact .inl (by rw [Lib.decDigits_one (by decide)]; rfl)
 ·exact .inr (h4 h)
theorem tok_itoa (z : Int) : Tok (Lib.itoa z) z := by
 by_cases hz : z < 0
 ·obtain ⟨u, rfl⟩ : ∃ u : Nat, z = -(u : Int) := ⟨z.natAbs, by omega⟩
  have hu : 1 ≤ u := by omega
  rw [Lib.itoa_neg u hu]
  refine .inr ⟨_, rfl, decDigits_run u, ?_, by rw [(decDigits_facts u).2.2.1]⟩
  obtain ⟨d, r, e1, e2⟩ := (decDigits_facts u).2.2.2 hu
  rw [e1]
  intro e
  injection e with e3 e4
  subst e3
  exact e2 (by decide)
 ·obtain ⟨u, rfl⟩ : ∃ u : Nat, z = (u : Int) := ⟨z.natAbs, by omega⟩
  rw [Lib.itoa_nonneg]
  exact .inl ⟨decDigits_run u, by rw [(decDigits_facts u).2.2.1]⟩
open Go.RowKit
open Go.RowKit
open Go.RowKit
open Go.RowKit
def KL (B : Nat) (w : World) (d b : Nat) (l : List KMx) : Prop := KS B w d b (stk l) l.length
theorem KL.below {B : Nat} {w w' : World} {d b : Nat} {l : List KMx} (h : KL B w d b l) (hb : Below w.heap.size w w') : KL B w' d b l := KS.below h hb
end Go.Proofs.YtfjbijpagaipnabGreatDoor
namespace Go.Proofs.YtfjbijpagaipnabGreatDoor.R
open Go.RowKit
open Go.RowKit
open Go.RowKit
open Go.RowKit
open Go.RowKit
open Go.RowKit
open Go.RowKit
open Go.RowKit
open Go.RowKit
end Go.Proofs.YtfjbijpagaipnabGreatDoor.R
namespace Go.Proofs.YtfjbijpagaipnabGreatDoor
open Go.RowKit R
open Go.RowKit R
open Go.RowKit R
open Go.RowKit R
open Go.RowKit R
open Go.RowKit R
open Go.RowKit R
open Go.RowKit R
open Go.RowKit
open Go.RowKit
open Go.RowKit
open Go.RowKit
open Go.RowKit R
open Go.RowKit R
open Go.RowKit R
open Go.RowKit R
open Go.RowKit R
open Go.RowKit R
open Go.RowKit R
end Go.Proofs.YtfjbijpagaipnabGreatDoor
namespace Go.Proofs.YtfjbijpagaipnabGreatDoor.R
open Go.RowKit
end Go.Proofs.YtfjbijpagaipnabGreatDoor.R
namespace Go.Proofs.YtfjbijpagaipnabGreatDoor
open Go.RowKit R
open Go.RowKit R
open Go.RowKit R
theorem Sp.to {H : Nat → Nat → Int} {k c : Nat} {v v' : Nat → Int} (h : Sp H k c v) (he : ∀ j, j < c → v' j = v j) : Sp H k c v' := by
 obtain ⟨x, hx⟩ := h
 exact ⟨x, fun j hj => by rw [he j hj]; exact hx j hj⟩
theorem Sp.mul {O : Nat → Nat → Int} {n c : Nat} {v : Nat → Int} (h : Sp O n c v) (t : Int) : Sp O n c (fun j => t * v j) := R.Sp.scale t h
end Go.Proofs.YtfjbijpagaipnabGreatDoor
namespace Go.Proofs.YtfjbijpagaipnabGreatDoor.R
open Go.RowKit
theorem signed_dvd {d : Int} (k : Nat) {x : Int} (h : d ∣ x) : d ∣ signed k x := by
 unfold signed
 split
 ·exact (Int.dvd_neg).2 h
 ·exact h
theorem sumF_dvd {d : Int} {f : Nat → Int} : ∀ n, (∀ k, k < n → d ∣ f k) → d ∣ sumF n f := by
 intro n
 induction n with
 | zero => intro _; exact Int.dvd_zero _
 | succ n ih => intro h; rw [sumF]; exact Int.dvd_add (ih fun k hk => h k (by omega)) (h n (by omega))
theorem chain_rows {X : Nat → Nat → Int} {r c : Nat} (hd : ∀ i j, i < r → j < c → i ≠ j → X i j = 0) (hv : ∀ i j, i ≤ j → j < r → j < c → X i i ∣ X j j) : ∀ (R : List Nat) (o : Nat) (C : List Nat), R.length = C.length → (∀ i, i < R.length → o + i ≤ R.getD i 0) → (∀ x ∈ R, x < r) → (∀ x ∈ C, x < c) → pr X o R.length ∣ mv (R.map X) C := by
 intro R
 induction R with
 | nil => intro o C _ _ _ _; exact Int.one_dvd _
 | cons x R ih =>
   intro o C hl ho hr hc
   rw [List.map_cons, mv, List.length_cons, pr]
   refine sumF_dvd _ fun k hk => signed_dvd k ?_
   refine Int.mul_dvd_mul ?_ (ih (o + 1) _ ?_ ?_ (fun y hy => hr y (by simp [hy])) (fun y hy => hc y (List.mem_of_mem_eraseIdx hy)))
   ·have hx := hr x (by simp)
    have h0 := ho 0 (by simp)
    have hck : C.getD k 0 < c := hc _ (by rw [List.getD, List.getElem?_eq_getElem hk]; exact List.getElem_mem _)
    by_cases e : x = C.getD k 0
    ·rw [← e]
     rw [← e] at hck
     exact hv o x (by simpa using h0) hx hck
    ·rw [hd x _ hx hck e]; exact Int.dvd_zero _
   ·rw [List.length_eraseIdx_of_lt hk]; simp at hl; omega
   ·intro i hi
    have := ho (i + 1) (by simp; omega)
    simp at this
    simp
    omega
theorem chosenL_ge : ∀ (m n : Nat) (R : List Nat), R ∈ chosenL m n → ∀ i, i < R.length → i ≤ R.getD i 0 := by
 intro m
 induction m with
 | zero =>
   intro n R hR i hi
   have := (chosenL_lt hR).1
   omega
 | succ m ih =>
   intro n R hR i hi
   have hlR := (chosenL_lt hR).1
   obtain ⟨Q, last, rfl, hQ, h1, h2⟩ := chosenL_last hR
   have hl := (chosenL_lt hQ).1
   by_cases e : i < Q.length
   ·have := ih last Q hQ i e
    rw [List.getD, List.getElem?_append_left e, ← List.getD]
    exact this
   ·obtain rfl : i = Q.length := by omega
    simp
    omega
theorem chain_div {X : Nat → Nat → Int} {r c m : Nat} (hd : ∀ i j, i < r → j < c → i ≠ j → X i j = 0) (hv : ∀ i j, i ≤ j → j < r → j < c → X i i ∣ X j j) (hm : m ≤ 4) (hr : m ≤ r) (hc : m ≤ c) : divF X r c m = (pr X 0 m).natAbs := by
 refine Nat.dvd_antisymm ?_ ?_
 ·have h1 := (div_dvd _ X r c m hm).1 (Nat.dvd_refl _)
  have h2 := chosenL_any hm h1 (R := List.range m) (C := List.range m) (by simp) (fun x hx => by have := List.mem_range.1 hx; omega) (by simp) (fun x hx => by have := List.mem_range.1 hx; omega)
  have h3 : mv ((List.range m).map X) (List.range m) = pr X 0 m := by
   rw [List.range_eq_range']
   exact mv_up m 0 (fun i j h1 h2 => hd i j (by omega) (by omega) (by omega))
  rw [h3] at h2
  exact Int.ofNat_dvd_left.1 h2
 ·rw [div_dvd _ X r c m hm]
  intro C hC R hR hRr
  have hCl := chosenL_lt hC
  have := rise_all (((pr X 0 m).natAbs : Nat) : Int) X C (by omega) m r [] (by simp [hCl.1]) (fun R' hR' => by
   have h1 := chosenL_lt hR'
   rw [List.append_nil]
   have h2 := chain_rows hd hv R' 0 C (by omega) (fun i hi => by have := chosenL_ge m r R' hR' i hi; omega) h1.2 hCl.2
   rw [h1.1] at h2
   exact Int.natAbs_dvd.2 h2) R (by omega) hRr
  simpa using this
theorem div_like {f g : Nat → Nat → Int} {r c m : Nat} (h : ∀ i j, i < r → j < c → f i j = g i j) (hm : m ≤ 4) : divF f r c m = divF g r c m :=
 div_same (fun i hi => (Sp.row g c hi).to fun j hj => h i j hi hj) (fun i hi => (Sp.row f c hi).to fun j hj => (h i j hi hj).symm) hm
theorem cols_div {r c m : Nat} {d1 vs ts d2 v2 t2 : List Int} (h : ColsTo r c d1 vs ts d2 v2 t2) (hm : m ≤ 4) : divF (ent c d2) r c m = divF (ent c d1) r c m := by
 obtain ⟨k, pc, E, U, W, -, hE, he⟩ := h.form
 rw [div_like he hm, div_tr E c r m hm, div_einv hE hm, div_tr (ent c d1) r c m hm]
theorem rows_div {r c m : Nat} {ds us ss d1 u1 s1 : List Int} (h : RowsTo r c ds us ss d1 u1 s1) (hm : m ≤ 4) : divF (ent c d1) r c m = divF (ent c ds) r c m := by
 obtain ⟨k, a, b, -, -, -, -, -, -, -, -, -, hE⟩ := h
 exact div_einv hE hm
theorem rnd_div {r c m : Nat} {x y : D5} (h : D5.rnd r c x y) (hm : m ≤ 4) : divF (ent c y.d) r c m = divF (ent c x.d) r c m := by
 obtain ⟨d1, h1, h2⟩ := h
 rw [cols_div h2 hm, rows_div h1 hm]
theorem mix_div {r c m : Nat} {x y : D5} (h : D5.mixd r c x y) (hm : m ≤ 4) : divF (ent c y.d) r c m = divF (ent c x.d) r c m := by
 obtain ⟨a, ho, ⟨-, -, -, h1, -⟩, -, -⟩ := h
 have ha : a + 1 < c := ho.2.1
 rw [← div_tr (ent c y.d) r c m hm, ← div_tr (ent c x.d) r c m hm]
 refine div_same (fun i hi => ?_) (fun i hi => ?_) hm
 ·by_cases e : i = a
  ·subst e
   have s1 := Sp.row (tr (ent c x.d)) r (show i < c by omega)
   have s2 := (Sp.row (tr (ent c x.d)) r ha).mul (-1)
   refine (s1.sub s2).to fun j hj => ?_
   show ent c y.d j i = ent c x.d j i - -1 * ent c x.d j (i + 1)
   rw [h1 j i hj hi, if_pos rfl]; omega
  ·refine (Sp.row (tr (ent c x.d)) r hi).to fun j hj => ?_
   show ent c y.d j i = ent c x.d j i
   rw [h1 j i hj hi, if_neg e]
 ·by_cases e : i = a
  ·subst e
   refine ((Sp.row (tr (ent c y.d)) r (show i < c by omega)).sub (Sp.row (tr (ent c y.d)) r ha)).to fun j hj => ?_
   show ent c x.d j i = ent c y.d j i - ent c y.d j (i + 1)
   rw [h1 j i hj hi, if_pos rfl, h1 j (i + 1) hj ha, if_neg (by omega)]; omega
  ·refine (Sp.row (tr (ent c y.d)) r hi).to fun j hj => ?_
   show ent c x.d j i = ent c y.d j i
   rw [h1 j i hj hi, if_neg e]
theorem run_div {r c m : Nat} {x y : D5} (h : D5.run r c x y) (hm : m ≤ 4) : divF (ent c y.d) r c m = divF (ent c x.d) r c m := by
  obtain ⟨n, h⟩ := h
  induction n generalizing x with
  | zero => exact h.elim
  | succ n ih =>
    obtain ⟨u, a, h⟩ := h
    rcases h with ⟨_, _, rfl⟩ | ⟨_, g⟩ | ⟨_, v, b, g⟩
    · exact rnd_div a hm
    · rw [ih g, rnd_div a hm]
    · rw [ih g, mix_div b hm, rnd_div a hm]
theorem rankIs_uniq {f g : Nat → Nat → Int} {r r' c k k' : Nat} (hd : ∀ m, m ≤ 4 → divF f r c m = divF g r' c m) (hc : c ≤ 4) (h : RankIs f r c k) (h' : RankIs g r' c k') : k = k' := by
 have key : ∀ {f g : Nat → Nat → Int} {r r' k k' : Nat}, (∀ m, m ≤ 4 → divF f r c m = divF g r' c m) → RankIs f r c k → RankIs g r' c k' → k ≤ k' := by
  intro f g r r' k k' hd h h'
  apply Classical.byContradiction
  intro hn
  have h1 := h.2.1
  have h3 := h.2.2.1 k' (by omega)
  rw [hd (k' + 1) (by omega)] at h3
  rcases h'.2.2.2 with e | e | e
  ·exact h3 (div_few g (by omega))
  ·omega
  ·exact h3 e
 have a := key hd h h'
 have b := key (fun m hm => (hd m hm).symm) h' h
 omega
end Go.Proofs.YtfjbijpagaipnabGreatDoor.R
namespace Go.Proofs.YtfjbijpagaipnabGreatDoor
open Go.RowKit
def isDig (b : UInt8) : Bool := decide (48 ≤ b.toNat) && decide (b.toNat ≤ 57)
def runB (ds : List UInt8) : Bool := !ds.isEmpty && (ds.length == 1 || ds.head? != some 48)
def tokB (l : List UInt8) : Option (List UInt8) :=
 match l with
 | 45 :: q => if runB (q.takeWhile isDig) && (q.takeWhile isDig != [48]) then some (q.dropWhile isDig) else none
 | q => if runB (q.takeWhile isDig) then some (q.dropWhile isDig) else none
def sepB (c t : Nat) (l : List UInt8) : List UInt8 := if 0 < t ∧ t % c = 0 then (match l with | 59 :: r => r | _ => []) else l
def spB (l : List UInt8) : Option (List UInt8) :=
 match l with
 | 32 :: r => tokB r
 | _ => none
def bodyB (c : Nat) : Nat → Nat → List UInt8 → Bool
 | 0, _, l => l.isEmpty
 | n + 1, t, l => ((spB (sepB c t l)).map (bodyB c n (t + 1))).getD false
def wrB (l : List UInt8) : Bool :=
 match l.dropWhile isDig with
 | 120 :: l2 =>
   (match l2.dropWhile isDig with
    | 58 :: b => runB (l.takeWhile isDig) && runB (l2.takeWhile isDig) && bodyB (decval (l2.takeWhile isDig)) (decval (l.takeWhile isDig) * decval (l2.takeWhile isDig)) 0 b
    | _ => false)
 | _ => false
theorem dig_span {ds l : List UInt8} (hd : Digs ds) (hl : Stops l) : (ds ++ l).takeWhile isDig = ds ∧ (ds ++ l).dropWhile isDig = l := by
 induction ds with
 | nil =>
   rcases hl with rfl | ⟨c, r, rfl, h⟩
   ·exact ⟨rfl, rfl⟩
   ·have : isDig c = false := by
     unfold isDig
     simp only [Bool.and_eq_false_iff, decide_eq_false_iff_not]
     omega
    simp [this]
 | cons x r ih =>
   have hx : isDig x = true := by
    have := hd x (List.mem_cons_self ..)
    unfold isDig
    simp [this.1, this.2]
   obtain ⟨h1, h2⟩ := ih (fun c hc => hd c (List.mem_cons_of_mem _ hc))
   simp [hx, h1, h2]
theorem run_B {ds : List UInt8} (h : Run ds) : runB ds = true := by
 obtain ⟨h1, -, h2⟩ := h
 unfold runB
 cases ds with
 | nil => exact absurd rfl h1
 | cons x r =>
   rcases h2 with h2 | ⟨d, q, e, h3⟩
   ·simp at h2; simp [h2]
   ·injection e with e1 e2
    subst e1
    have : x ≠ 48 := fun e => h3 (by rw [e]; rfl)
    simp [this]
theorem tok_B {tk l : List UInt8} {z : Int} (h : Tok tk z) (hl : Stops l) : tokB (tk ++ l) = some l := by
 rcases h with ⟨h1, -⟩ | ⟨ds, rfl, h1, h2, -⟩
 ·obtain ⟨e1, e2⟩ := dig_span h1.2.1 hl
  have hr := run_B h1
  cases tk with
  | nil => exact absurd rfl h1.1
  | cons x r =>
    have hx : x ≠ 45 := fun e => by
     have := h1.2.1 x (List.mem_cons_self ..)
     rw [e] at this
     exact absurd this.1 (by decide)
    unfold tokB
    split
    ·rename_i q e
     simp at e
     exact absurd e.1 hx
    ·rw [e1, e2, if_pos hr]
 ·obtain ⟨e1, e2⟩ := dig_span h1.2.1 hl
  show tokB (45 :: (ds ++ l)) = some l
  unfold tokB
  simp only
  rw [e1, e2, if_pos]
  simp [run_B h1, h2]
theorem body_B (c : Nat) : ∀ (tks : List (List UInt8)) (t : Nat), (∀ tk ∈ tks, ∃ z, Tok tk z) → bodyB c tks.length t (bodyT c t tks) = true := by
 intro tks
 induction tks with
 | nil => intro t _; rfl
 | cons tk r ih =>
   intro t h
   obtain ⟨z, hz⟩ := h tk (List.mem_cons_self ..)
   have h1 := ih (t + 1) (fun x hx => h x (List.mem_cons_of_mem _ hx))
   have h2 := tok_B hz (bodyT_stops c (t + 1) r)
   have e1 : sepB c t (bodyT c t (tk :: r)) = 32 :: (tk ++ bodyT c (t + 1) r) := by
    rw [bodyT]
    unfold sepB
    by_cases e : 0 < t ∧ t % c = 0
    ·rw [if_pos e, if_pos e]; rfl
    ·rw [if_neg e, if_neg e]; rfl
   have e2 : spB (32 :: (tk ++ bodyT c (t + 1) r)) = some (bodyT c (t + 1) r) := h2
   rw [List.length_cons, bodyB, e1, e2]
   exact h1
theorem Wr.tell {s : ByteArray} (h : Wr s) : wrB s.data.toList = true := by
 obtain ⟨r, c, zs, -, -, dr, dc, tks, e, h1, h2, rfl, rfl, h3, -, h4⟩ := h
 obtain ⟨a1, a2⟩ := dig_span h1.2.1 (stops_x (dc ++ (58 :: bodyT (decval dc) 0 tks)))
 obtain ⟨b1, b2⟩ := dig_span h2.2.1 (stops_colon (bodyT (decval dc) 0 tks))
 rw [e]
 unfold wrB
 rw [a2]
 simp only
 rw [b2]
 simp only
 rw [a1, b1, run_B h1, run_B h2, ← h3]
 simp only [Bool.true_and]
 refine body_B _ tks 0 (fun tk htk => ?_)
 obtain ⟨t, ht, rfl⟩ := List.mem_iff_getElem.1 htk
 obtain ⟨h5, -⟩ := h4 t (by omega)
 rw [List.getD, List.getElem?_eq_getElem ht] at h5
 exact ⟨_, h5⟩
theorem not_wr {s : ByteArray} (h : wrB s.data.toList = false) : ¬ Wr s := fun hw => by rw [hw.tell] at h; cases h
open Go.RowKit
structure Fm where
 r : Nat
 c : Nat
 zs : List Int
 k : Nat
 m : List UInt8
 rk : List UInt8
 dt : List UInt8
 ix : List UInt8
 fo : List UInt8
 dg : List UInt8
 pc : List Nat
 fs : List Int
 us : List Int
 ws : List Int
 ds : List Int
structure Rf where
 t : List UInt8
 e : Int
 r : Nat
 c : Nat
 zs : List Int
def fms : List Fm := [
 ⟨3, 3, [2, 4, 4, -6, 6, 12, 10, -4, -16], 3, [51, 120, 51, 58, 32, 50, 32, 52, 32, 52, 59, 32, 45, 54, 32, 54, 32, 49, 50, 59, 32, 49, 48, 32, 45, 52, 32, 45, 49, 54], [51], [45, 49, 52, 52], [49, 52, 52], [51, 120, 51, 58, 32, 50, 32, 52, 32, 52, 59, 32, 48, 32, 54, 32, 48, 59, 32, 48, 32, 48, 32, 49, 50], [51, 120, 51, 58, 32, 50, 32, 48, 32, 48, 59, 32, 48, 32, 54, 32, 48, 59, 32, 48, 32, 48, 32, 49, 50], [0, 1, 2], [2, 4, 4, 0, 6, 0, 0, 0, 12], [1, 0, 0, -1, 3, 2, 3, -4, -3], [1, 0, 0, -3, 3, 2, 5, -4, -3], [2, 0, 0, 0, 6, 0, 0, 0, 12]⟩,
 ⟨2, 2, [4, 0, 0, 6], 2, [50, 120, 50, 58, 32, 52, 32, 48, 59, 32, 48, 32, 54], [50], [50, 52], [50, 52], [50, 120, 50, 58, 32, 52, 32, 48, 59, 32, 48, 32, 54], [50, 120, 50, 58, 32, 50, 32, 48, 59, 32, 48, 32, 49, 50], [0, 1], [4, 0, 0, 6], [1, 0, 0, 1], [1, 0, 0, 1], [2, 0, 0, 12]⟩,
 ⟨0, 0, [], 0, [48, 120, 48, 58], [48], [49], [49], [48, 120, 48, 58], [48, 120, 48, 58], [], [], [], [], []⟩,
 ⟨0, 3, [], 0, [48, 120, 51, 58], [48], [], [49], [48, 120, 51, 58], [48, 120, 51, 58], [], [], [], [], []⟩,
 ⟨2, 0, [], 0, [50, 120, 48, 58], [48], [], [49], [50, 120, 48, 58], [50, 120, 48, 58], [], [], [1, 0, 0, 1], [1, 0, 0, 1], []⟩,
 ⟨2, 2, [0, 0, 0, 0], 0, [50, 120, 50, 58, 32, 48, 32, 48, 59, 32, 48, 32, 48], [48], [48], [49], [50, 120, 50, 58, 32, 48, 32, 48, 59, 32, 48, 32, 48], [50, 120, 50, 58, 32, 48, 32, 48, 59, 32, 48, 32, 48], [], [0, 0, 0, 0], [1, 0, 0, 1], [1, 0, 0, 1], [0, 0, 0, 0]⟩,
 ⟨1, 1, [-7], 1, [49, 120, 49, 58, 32, 45, 55], [49], [45, 55], [55], [49, 120, 49, 58, 32, 55], [49, 120, 49, 58, 32, 55], [0], [7], [-1], [-1], [7]⟩,
 ⟨2, 3, [2, 4, 6, 1, 2, 3], 1, [50, 120, 51, 58, 32, 50, 32, 52, 32, 54, 59, 32, 49, 32, 50, 32, 51], [49], [], [49], [50, 120, 51, 58, 32, 49, 32, 50, 32, 51, 59, 32, 48, 32, 48, 32, 48], [50, 120, 51, 58, 32, 49, 32, 48, 32, 48, 59, 32, 48, 32, 48, 32, 48], [0], [1, 2, 3, 0, 0, 0], [0, 1, 1, -2], [2, 1, 1, 0], [1, 0, 0, 0, 0, 0]⟩,
 ⟨3, 2, [6, 10, 15, 0, 0, 21], 2, [51, 120, 50, 58, 32, 54, 32, 49, 48, 59, 32, 49, 53, 32, 48, 59, 32, 48, 32, 50, 49], [50], [], [51], [51, 120, 50, 58, 32, 51, 32, 48, 59, 32, 48, 32, 49, 59, 32, 48, 32, 48], [51, 120, 50, 58, 32, 49, 32, 48, 59, 32, 48, 32, 51, 59, 32, 48, 32, 48], [0, 1], [3, 0, 0, 1, 0, 0], [798, -319, -380, 40, -16, -19, -105, 42, 50], [2, 10, 19, 5, 0, 38, 0, 21, 8], [1, 0, 0, 3, 0, 0]⟩,
 ⟨3, 3, [1, 2, 3, 4, 5, 6, 7, 8, 9], 2, [51, 120, 51, 58, 32, 49, 32, 50, 32, 51, 59, 32, 52, 32, 53, 32, 54, 59, 32, 55, 32, 56, 32, 57], [50], [48], [51], [51, 120, 51, 58, 32, 49, 32, 50, 32, 51, 59, 32, 48, 32, 51, 32, 54, 59, 32, 48, 32, 48, 32, 48], [51, 120, 51, 58, 32, 49, 32, 48, 32, 48, 59, 32, 48, 32, 51, 32, 48, 59, 32, 48, 32, 48, 32, 48], [0, 1], [1, 2, 3, 0, 3, 6, 0, 0, 0], [1, 0, 0, 4, -1, 0, 1, -2, 1], [1, 0, 0, 4, -1, 0, 7, -2, 1], [1, 0, 0, 0, 3, 0, 0, 0, 0]⟩,
 ⟨4, 4, [1, 1, 1, 1, 1, 2, 4, 8, 1, 3, 9, 27, 1, 4, 16, 64], 4, [52, 120, 52, 58, 32, 49, 32, 49, 32, 49, 32, 49, 59, 32, 49, 32, 50, 32, 52, 32, 56, 59, 32, 49, 32, 51, 32, 57, 32, 50, 55, 59, 32, 49, 32, 52, 32, 49, 54, 32, 54, 52], [52], [49, 50], [49, 50], [63], [52, 120, 52, 58, 32, 49, 32, 48, 32, 48, 32, 48, 59, 32, 48, 32, 49, 32, 48, 32, 48, 59, 32, 48, 32, 48, 32, 50, 32, 48, 59, 32, 48, 32, 48, 32, 48, 32, 54], [0, 1, 2, 3], [1, 0, 0, 0, 0, 1, 1, 1, 0, 0, 2, 0, 0, 0, 0, 6], [4, -6, 4, -1, -3, 6, -4, 1, 3, -8, 7, -2, -1, 3, -3, 1], [1, 1, 0, 0, 1, 2, 1, 1, 1, 3, 3, 4, 1, 4, 6, 10], [1, 0, 0, 0, 0, 1, 0, 0, 0, 0, 2, 0, 0, 0, 0, 6]⟩,
 ⟨2, 2, [281474976710655, 281474976710654, 281474976710653, 281474976710655], 2, [50, 120, 50, 58, 32, 50, 56, 49, 52, 55, 52, 57, 55, 54, 55, 49, 48, 54, 53, 53, 32, 50, 56, 49, 52, 55, 52, 57, 55, 54, 55, 49, 48, 54, 53, 52, 59, 32, 50, 56, 49, 52, 55, 52, 57, 55, 54, 55, 49, 48, 54, 53, 51, 32, 50, 56, 49, 52, 55, 52, 57, 55, 54, 55, 49, 48, 54, 53, 53], [50], [56, 52, 52, 52, 50, 52, 57, 51, 48, 49, 51, 49, 57, 54, 51], [56, 52, 52, 52, 50, 52, 57, 51, 48, 49, 51, 49, 57, 54, 51], [63], [50, 120, 50, 58, 32, 49, 32, 48, 59, 32, 48, 32, 56, 52, 52, 52, 50, 52, 57, 51, 48, 49, 51, 49, 57, 54, 51], [0, 1], [1, 422212465065981, 0, 844424930131963], [-140737488355326, 140737488355327, -281474976710653, 281474976710655], [281474976710655, -140737488355327, 281474976710653, -140737488355326], [1, 0, 0, 844424930131963]⟩]
def rfs : List Rf := [
 ⟨[], 1, 0, 0, []⟩,
 ⟨[49, 120, 49], 1, 0, 0, []⟩,
 ⟨[49, 120, 49, 58], 1, 0, 0, []⟩,
 ⟨[49, 120, 49, 58, 32], 1, 0, 0, []⟩,
 ⟨[49, 120, 49, 58, 32, 48, 49], 1, 0, 0, []⟩,
 ⟨[49, 120, 49, 58, 32, 45, 48], 1, 0, 0, []⟩,
 ⟨[49, 120, 49, 58, 32, 43, 49], 1, 0, 0, []⟩,
 ⟨[49, 120, 49, 58, 49], 1, 0, 0, []⟩,
 ⟨[48, 49, 120, 49, 58, 32, 49], 1, 0, 0, []⟩,
 ⟨[49, 120, 50, 58, 32, 49, 59, 32, 50], 1, 0, 0, []⟩,
 ⟨[50, 120, 49, 58, 32, 49, 32, 50], 1, 0, 0, []⟩,
 ⟨[50, 120, 49, 58, 32, 49, 59, 50], 1, 0, 0, []⟩,
 ⟨[49, 120, 49, 58, 32, 49, 32], 1, 0, 0, []⟩,
 ⟨[49, 120, 49, 58, 32, 49, 59], 1, 0, 0, []⟩,
 ⟨[48, 120, 48, 58, 32], 1, 0, 0, []⟩,
 ⟨[45, 49, 120, 48, 58], 1, 0, 0, []⟩,
 ⟨[48, 120, 53, 58], 4, 0, 5, []⟩,
 ⟨[53, 120, 48, 58], 4, 5, 0, []⟩,
 ⟨[49, 120, 49, 58, 32, 50, 56, 49, 52, 55, 52, 57, 55, 54, 55, 49, 48, 54, 53, 54], 4, 1, 1, [281474976710656]⟩,
 ⟨[49, 120, 49, 58, 32, 45, 50, 56, 49, 52, 55, 52, 57, 55, 54, 55, 49, 48, 54, 53, 54], 4, 1, 1, [-281474976710656]⟩,
 ⟨[49, 120, 49, 58, 32, 50, 56, 49, 52, 55, 52, 57, 55, 54, 55, 49, 48, 54, 53, 53], 0, 1, 1, [281474976710655]⟩,
 ⟨[49, 120, 49, 58, 32, 45, 50, 56, 49, 52, 55, 52, 57, 55, 54, 55, 49, 48, 54, 53, 53], 0, 1, 1, [-281474976710655]⟩,
 ⟨[52, 120, 48, 58], 0, 4, 0, []⟩,
 ⟨[49, 120, 53, 58, 32, 49, 32, 50, 32, 51, 32, 52, 32, 53], 4, 1, 5, [1, 2, 3, 4, 5]⟩]
def rfCells (x : Rf) : List Value := [.string ⟨x.t.toArray⟩, .int .i64 x.e]
def fmCells (x : Fm) : List Value := [.string ⟨x.m.toArray⟩, .string ⟨x.rk.toArray⟩, .string ⟨x.dt.toArray⟩, .string ⟨x.ix.toArray⟩, .string ⟨x.fo.toArray⟩, .string ⟨x.dg.toArray⟩]
set_option maxRecDepth 100000 in
set_option maxHeartbeats 2000000 in
theorem refusals_any (w : World) : Calls Tryz.prog 11 #[] w fun x w' => x = .returned (.slice (some ⟨w.heap.size, 0, none⟩) 24 24) ∧ w' = w.alloc (.cells (rfs.flatMap rfCells).toArray 36) := by
 go_enter Tryz.func11, Tryz.ntmps11
 go_wp2_with fail
 go_ret
 exact ⟨rfl, rfl⟩
set_option maxRecDepth 100000 in
set_option maxHeartbeats 4000000 in
theorem knowns_any (w : World) : Calls Tryz.prog 10 #[] w fun x w' => x = .returned (.slice (some ⟨w.heap.size, 0, none⟩) 12 12) ∧ w' = w.alloc (.cells (fms.flatMap fmCells).toArray 43) := by
 go_enter Tryz.func10, Tryz.ntmps10
 go_wp2_with fail
 go_ret
 exact ⟨rfl, rfl⟩
end Go.Proofs.YtfjbijpagaipnabGreatDoor
