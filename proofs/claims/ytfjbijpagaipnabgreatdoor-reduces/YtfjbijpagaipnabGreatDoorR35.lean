import Derived.Test.YtfjbijpagaipnabGreatDoorR34
import Derived.Test.YtfjbijpagaipnabGreatDoorR19
import Derived.Test.YtfjbijpagaipnabGreatDoorR14
import Derived.Deep.CutRange
import Derived.BigQuiet
import Derived.Test.YtfjbijpagaipnabGreatDoorR33
import Derived.StillTailTactics
import Derived.Test.YtfjbijpagaipnabGreatDoorR28
import Derived.Test.YtfjbijpagaipnabGreatDoorR06
import Derived.Test.YtfjbijpagaipnabGreatDoorR27
import Derived.Test.YtfjbijpagaipnabGreatDoorR02
namespace Go.Proofs.YtfjbijpagaipnabGreatDoor
open Go.RowKit R
def DueL (es : List Ent) (ms : List Hm) (sq : Bool) (h : Int) (v : Value) (want : Int) : Prop :=
 ((∀ i, i < 24 → ∀ x, ms.getD i none = some x → (x.1 : Int) ≠ h) ∧ want = 2) ∨
 ∃ e i r c zs, e ∈ es ∧ i < 24 ∧ ms.getD i none = some (e.1, r, c, zs) ∧ ((e.1 : Nat) : Int) = h ∧ ((sq = true ∧ r ≠ c ∧ want = 3) ∨ ((sq = true → r = c) ∧ ¬ FitsP r c zs ∧ want = 4) ∨ ((sq = true → r = c) ∧ FitsP r c zs ∧ want = 0 ∧ v = .pointer (some ⟨e.2.2, 0, none⟩)))
set_option maxRecDepth 100000 in
set_option maxHeartbeats 2000000 in
theorem due_any (B W T b1 b2 : Nat) (ms : List Hm) (nx : Nat) (es : List Ent) (h : Int) (sq : Bool) (w : World) (hI : LInv B w W T b1 b2 ms nx es) :
 Calls Tryz.prog 155 #[.pointer (some ⟨W, 0, none⟩), .int .i64 h, .bool sq] w fun x w' => (∃ v want, x = .returned (.tuple #[v, .int .i64 want]) ∧ DueL es ms sq h v want) ∧ Below w.heap.size w w' := by
 have H := Hid.mk hI
 clear hI
 go_enter Tryz.func155, Tryz.ntmps155
 go_wp2_with fail
 refine (lfind_any B W T b1 b2 ms nx es h _ H.out).mono ?_
 rintro x w1 ⟨⟨v, rfl, hv⟩, hb1⟩
 have K1 := Hid.mk (And.intro hv hb1)
 have hw1 := hb1.size
 clear hv hb1
 rcases K1.out.1 with ⟨rfl, hno⟩ | ⟨e1, he1, hg1, rfl⟩
 ·have KN := Hid.mk hno
  clear hno
  go_wp2_with fail
  go_ret2
  exact ⟨⟨_, _, rfl, .inl ⟨FindL.none H.out KN.out, rfl⟩⟩, K1.out.2⟩
 ·obtain ⟨i, r, q, zs, hi, hx⟩ := H.out.ent_of he1
  obtain ⟨-, hf1, lo1, hi1, hm1⟩ := (H.out.below K1.out.2).entry he1 hi hx rfl
  obtain ⟨gs1, hI1⟩ := hm1.isR
  obtain ⟨p1, hp1⟩ : ∃ p1, p1 = e1.2.2 := ⟨_, rfl⟩
  rw [← hp1] at hI1 ⊢
  have HE := Hid.mk (And.intro he1 (And.intro hg1 (And.intro hi (And.intro hx (And.intro hf1 (And.intro hI1 hp1))))))
  obtain ⟨-, ao1, cap1, c0, c1, -⟩ := hI1.open_
  clear he1 hg1 hi hx hf1 hI1 hp1 hm1
  by_cases hsq : sq = true ∧ r ≠ q
  ·obtain ⟨rfl, hne⟩ := hsq
   have iq : ((r : Int) == (q : Int)) = false := beq_eq_false_iff_ne.2 (by omega)
   have HNE := Hid.mk hne
   clear hne
   go_wp2_with fail
   go_quiet (fail)
   all_goals
    go_wp2_with fail
    go_ret2
    obtain ⟨a1, a2, a3, a4, -⟩ := HE.out
    exact ⟨⟨_, _, rfl, .inr ⟨e1, i, r, q, zs, a1, a3, a4, a2, .inl ⟨rfl, HNE.out, rfl⟩⟩⟩, by first | exact K1.out.2 | exact below_drewN K1.out.2 _⟩
  ·have HSQ : Hid (sq = true → r = q) := Hid.mk (fun h => Classical.byContradiction fun h2 => hsq ⟨h, h2⟩)
   cases sq
   ·clear hsq
    go_wp2_with fail
    go_quiet (fail)
    go_wp2_with fail
    refine (big_any p1 r q gs1 (fz q zs) lo1 40000000001 _ (HE.out.2.2.2.2.2.1.keep (KR.of_below (below_drewN (Below.refl _ _) _))) (by omega) HE.out.2.2.2.2.1.1 HE.out.2.2.2.2.1.2.1).mono ?_
    rintro x w5 ⟨bx, rfl, hbx, hb5⟩
    have hb15 : Below w1.heap.size w1 w5 := (below_drewN (Below.refl w1.heap.size w1) _).trans (hb5.mono (below_drewN (Below.refl w1.heap.size w1) _).size)
    have K5 := Hid.mk (And.intro (show bx = true ↔ ¬ FitsP r q zs from by rw [← big_fits]; exact hbx) (K1.out.2.trans (hb15.mono hw1)))
    clear hbx hb5 hb15
    cases bx
    ·have HF : Hid (FitsP r q zs) := Hid.mk (Classical.byContradiction fun h => (by have := K5.out.1.2 h; cases this))
     go_wp2_with fail
     go_ret2
     obtain ⟨a1, a2, a3, a4, -, -, a7⟩ := HE.out
     exact ⟨⟨_, _, rfl, .inr ⟨e1, i, r, q, zs, a1, a3, a4, a2, .inr (.inr ⟨HSQ.out, HF.out, rfl, by rw [← a7]; rfl⟩)⟩⟩, K5.out.2⟩
    ·have HF : Hid (¬ FitsP r q zs) := Hid.mk (K5.out.1.1 rfl)
     go_wp2_with fail
     go_ret2
     obtain ⟨a1, a2, a3, a4, -, -, a7⟩ := HE.out
     exact ⟨⟨_, _, rfl, .inr ⟨e1, i, r, q, zs, a1, a3, a4, a2, .inr (.inl ⟨HSQ.out, HF.out, rfl⟩)⟩⟩, K5.out.2⟩
   ·have hrq := HSQ.out rfl
    have iq : ((r : Int) == (q : Int)) = true := beq_iff_eq.2 (by omega)
    have HRQ := Hid.mk hrq
    clear hsq hrq
    go_wp2_with fail
    go_quiet (fail)
    go_wp2_with fail
    refine (big_any p1 r q gs1 (fz q zs) lo1 40000000001 _ (HE.out.2.2.2.2.2.1.keep (KR.of_below (below_drewN (Below.refl _ _) _))) (by omega) HE.out.2.2.2.2.1.1 HE.out.2.2.2.2.1.2.1).mono ?_
    rintro x w5 ⟨bx, rfl, hbx, hb5⟩
    have hb15 : Below w1.heap.size w1 w5 := (below_drewN (Below.refl w1.heap.size w1) _).trans (hb5.mono (below_drewN (Below.refl w1.heap.size w1) _).size)
    have K5 := Hid.mk (And.intro (show bx = true ↔ ¬ FitsP r q zs from by rw [← big_fits]; exact hbx) (K1.out.2.trans (hb15.mono hw1)))
    clear hbx hb5 hb15
    cases bx
    ·have HF : Hid (FitsP r q zs) := Hid.mk (Classical.byContradiction fun h => (by have := K5.out.1.2 h; cases this))
     go_wp2_with fail
     go_ret2
     obtain ⟨a1, a2, a3, a4, -, -, a7⟩ := HE.out
     exact ⟨⟨_, _, rfl, .inr ⟨e1, i, r, q, zs, a1, a3, a4, a2, .inr (.inr ⟨fun _ => HRQ.out, HF.out, rfl, by rw [← a7]; rfl⟩)⟩⟩, K5.out.2⟩
    ·have HF : Hid (¬ FitsP r q zs) := Hid.mk (K5.out.1.1 rfl)
     go_wp2_with fail
     go_ret2
     obtain ⟨a1, a2, a3, a4, -, -, a7⟩ := HE.out
     exact ⟨⟨_, _, rfl, .inr ⟨e1, i, r, q, zs, a1, a3, a4, a2, .inr (.inl ⟨fun _ => HRQ.out, HF.out, rfl⟩)⟩⟩, K5.out.2⟩
open Go.RowKit R
theorem lt_dec {z : Int} {m : Nat} (h : z.natAbs < 2 ^ (16 * m)) : z.natAbs < 10 ^ (5 * m) ∧ z.natAbs < 10000 ^ (2 * m) := by
 have e1 : 2 ^ (16 * m) = (65536 : Nat) ^ m := by rw [Nat.pow_mul]
 have e2 : 10 ^ (5 * m) = (100000 : Nat) ^ m := by rw [Nat.pow_mul]
 have e3 : 10000 ^ (2 * m) = (100000000 : Nat) ^ m := by rw [Nat.pow_mul]
 rw [e1] at h
 rw [e2, e3]
 exact ⟨Nat.lt_of_lt_of_le h (Nat.pow_le_pow_left (by decide) m), Nat.lt_of_lt_of_le h (Nat.pow_le_pow_left (by decide) m)⟩
theorem R.IsN.fit {w : World} {v : Value} {z : Int} {L K : Nat} (h : IsN w v z L) (hz : z.natAbs < 10000 ^ K) : IsN w v z K := by
 obtain ⟨neg, sl, xs, h1, h2, h3, h4, h5, h6⟩ := h
 refine ⟨neg, sl, xs, h1, h2, h3, h4, h5, ?_⟩
 rcases Nat.lt_or_ge K xs.length with h7 | h7
 ·exfalso
  have h8 := R.Lim_ge h3 (by intro e; rw [e] at h7; simp at h7)
  have h9 : 10000 ^ K ≤ 10000 ^ (xs.length - 1) := Nat.pow_le_pow_right (by decide) (by omega)
  have h10 : z.natAbs = R.val xs := by
   cases neg
   ·rw [h5]; simp
   ·rw [h5]; simp
  omega
 ·exact h7
theorem R.IsR.fit {B : Nat} {w : World} {b r c : Nat} {gs : Nat → Nat} {f : Nat → Nat → Int} {L m : Nat} (h : IsR B w b r c gs f L) (hf : ∀ i j, i < r → j < c → (f i j).natAbs < 2 ^ (16 * m)) : IsR B w b r c gs f (2 * m) := by
 obtain ⟨h0, v, h1, h2, h3, h4⟩ := h
 refine ⟨h0, v, h1, h2, fun i hi => ⟨(h3 i hi).1, ?_⟩, h4⟩
 obtain ⟨cs, q1, q2, q3⟩ := (h3 i hi).2
 refine ⟨cs, q1, q2, fun j hj => ?_⟩
 obtain ⟨a, b, e1, e2, e3, e4⟩ := q3 j hj
 exact ⟨a, b, e1, e2, e3.fit (lt_dec (hf i j hi hj)).2, e4⟩
theorem fine_bits {r c m : Nat} {zs : List Int} (hr : r ≤ 4) (hc : c ≤ 4) (hl : zs.length = r * c) (hz : ∀ t, t < r * c → (zs.getD t 0).natAbs < 2 ^ (16 * (m + 1))) (hm : m ≤ 399999999) : Fine r c zs :=
 fine_small (k := 5 * m + 4) hr hc hl (fun t ht => (lt_dec (hz t ht)).1) (by omega)
end Go.Proofs.YtfjbijpagaipnabGreatDoor
namespace Go.Proofs.YtfjbijpagaipnabGreatDoor.R
open Go.RowKit
theorem IsR.ne_row {B : Nat} {w : World} {b r c : Nat} {gs : Nat → Nat} {f : Nat → Nat → Int} {L : Nat} (h : IsR B w b r c gs f L) {i : Nat} (hi : i < r) : b ≠ gs i := by
 obtain ⟨h0, v, h1, h2, h3, h4⟩ := h
 obtain ⟨cs, q1, -⟩ := (h3 i hi).2
 intro e
 rw [e, q1] at h1
 simp at h1
open Go.RowKit
end Go.Proofs.YtfjbijpagaipnabGreatDoor.R
namespace Go.Proofs.YtfjbijpagaipnabGreatDoor
open Go.RowKit R
open Go.RowKit R
theorem cnt_none (ms : List Hm) : cnt ms + ms.countP Option.isNone = ms.length := by
 unfold cnt
 induction ms with
 | nil => rfl
 | cons x ms ih =>
   cases x with
   | none => simp at ih ⊢; omega
   | some y => simp at ih ⊢; omega
theorem many_case {n : Nat} {Res : Nat → Nat → List Int → List (Nat × Nat × List Int) → Prop} {es : List Ent} {ms : List Hm} {h e want : Int} {v : Value} {ok : Bool} {xs : List (Nat × Nat × List Int)} (hd : Dst ms) (hp : DueL es ms false h v want) (ht : ManyRel n Res ms h ok e xs) :
 (ok = false ∧ e = want ∧ (want = 2 ∨ want = 4)) ∨ (ok = false ∧ e = 5 ∧ want = 0 ∧ ms.countP Option.isNone < n) ∨
 (ok = true ∧ e = 0 ∧ want = 0 ∧ n ≤ ms.countP Option.isNone ∧ ∃ en i r c zs, en ∈ es ∧ i < 24 ∧ ms.getD i none = some (en.1, r, c, zs) ∧ FitsP r c zs ∧ v = .pointer (some ⟨en.2.2, 0, none⟩) ∧ xs.length = n ∧ Res r c zs xs) := by
 rcases hp with ⟨hno, rfl⟩ | ⟨en, i, r, c, zs, hen, hi, hx, hxh, hp⟩
 ·rcases ht with ⟨-, rfl, rfl, -⟩ | ⟨i', hd', r', c', zs', hi', hx', hxh', -⟩
  ·exact .inl ⟨rfl, rfl, .inl rfl⟩
  ·exact absurd hxh' (hno i' hi' _ hx')
 ·rcases ht with ⟨hno, -⟩ | ⟨i', hd', r', c', zs', hi', hx', hxh', ht⟩
  ·exact absurd hxh (hno i hi _ hx)
  ·have e1 : i = i' := hd i i' _ _ hi hi' hx hx' (by show en.1 = hd'; omega)
   subst e1
   rw [hx] at hx'
   simp only [Option.some.injEq, Prod.mk.injEq] at hx'
   obtain ⟨rfl, rfl, rfl, rfl⟩ := hx'
   rcases hp with ⟨hf, -⟩ | ⟨-, hnf, rfl⟩ | ⟨-, hf, rfl, rfl⟩
   ·cases hf
   ·rcases ht with ⟨-, rfl, rfl, -⟩ | ⟨hf, -⟩ | ⟨hf, -⟩
    ·exact .inl ⟨rfl, rfl, .inr rfl⟩
    ·exact absurd hf hnf
    ·exact absurd hf hnf
   ·rcases ht with ⟨hnf, -⟩ | ⟨-, hr, rfl, rfl, -⟩ | ⟨-, hr, rfl, rfl, hl, hR⟩
    ·exact absurd hf hnf
    ·exact .inr (.inl ⟨rfl, rfl, rfl, hr⟩)
    ·exact .inr (.inr ⟨rfl, rfl, rfl, hr, en, i, r, c, zs, hen, hi, hx, hf, rfl, hl, hR⟩)
theorem nil_int (w : World) : Sem.run Tryz.prog (binOp BinOp.eql 51 (Value.slice none 0 0) (Value.slice none 0 0)) w = Result.ok (Value.bool true) w := by
 have h := run_equal_slice_nil (P := Tryz.prog) w 51 _ none 0 0 Tryz.underlying51
 simp [binOp, go_sem, h, Result.andThen]
theorem ent_all {r c : Nat} {zs : List Int} {P : Int → Prop} (h : ∀ i j, i < r → j < c → P (ent c zs i j)) (t : Nat) (ht : t < r * c) : P (zs.getD t 0) := by
 have hc : 0 < c := by
  rcases Nat.eq_zero_or_pos c with h0 | h0
  ·subst h0; rw [Nat.mul_zero] at ht; omega
  ·exact h0
 have h3 : t / c < r := by rw [Nat.div_lt_iff_lt_mul hc]; omega
 have h6 := h (t / c) (t % c) h3 (Nat.mod_lt t hc)
 unfold ent at h6
 rw [show t / c * c + t % c = t from by rw [Nat.mul_comm]; exact Nat.div_add_mod t c] at h6
 exact h6
theorem Lw.inj {w : World} {W T nx : Nat} {hv iv lv tv iv' lv' tv' : Value} (h : Lw w W T hv iv lv tv nx) (h' : Lw w W T hv iv' lv' tv' nx) : iv = iv' ∧ lv = lv' ∧ tv = tv' := by
 unfold Lw at h h'
 rw [h] at h'
 simp at h'
 exact h'
open Go.RowKit
def nearF (x y : Int) : Int := if y < 2 * (x - x.fdiv y * y) ∨ (x.fdiv y < 0 ∧ 2 * (x - x.fdiv y * y) = y) then x.fdiv y + 1 else x.fdiv y
theorem fdiv_left {x y : Int} (hy : 0 < y) : 0 ≤ x - x.fdiv y * y ∧ x - x.fdiv y * y < y := by
 have h1 := Int.fmod_add_mul_fdiv x y
 have h2 := Int.fmod_nonneg_of_pos x hy
 have h3 := Int.fmod_lt_of_pos x hy
 rw [Int.mul_comm] at h1
 omega
theorem near_box {x y : Int} (hy : 0 < y) : 2 * (x - nearF x y * y) ≤ y ∧ -y ≤ 2 * (x - nearF x y * y) := by
 have h := fdiv_left (x := x) hy
 unfold nearF
 split
 ·rename_i h1
  rw [Int.add_mul, Int.one_mul]
  rcases h1 with h1 | ⟨-, h1⟩ <;> omega
 ·rename_i h1
  have : ¬ y < 2 * (x - x.fdiv y * y) := fun h2 => h1 (.inl h2)
  omega
def ipE (c : Nat) (x y : Nat → Int) : Int := sm (fun k => x k * y k) c
def volE (c : Nat) (b : Nat → Nat → Int) (n : Nat) : Int := detF n (fun i j => ipE c (b i) (b j))
theorem detF_upto : ∀ (n : Nat) (f g : Nat → Nat → Int), (∀ i j, i < n → j < n → f i j = g i j) → detF n f = detF n g := by
 intro n
 induction n with
 | zero => intro f g _; rfl
 | succ n ih =>
   intro f g h
   rw [detF, detF]
   have hs : ∀ (m : Nat) (p q : Nat → Int), (∀ k, k < m → p k = q k) → sumF m p = sumF m q := by
    intro m
    induction m with
    | zero => intro p q _; rfl
    | succ m ihm => intro p q hpq; rw [sumF, sumF, ihm p q (fun k hk => hpq k (by omega)), hpq m (by omega)]
   refine hs _ _ _ (fun k hk => ?_)
   rw [h 0 k (by omega) hk, ih _ (fun i j => g (i + 1) (skip k j)) (fun i j hi hj => h (i + 1) (skip k j) (by omega) (by unfold skip; split <;> omega))]
def lamE (c : Nat) (b : Nat → Nat → Int) (row q : Nat) : Int := detF (q + 1) (fun i j => ipE c (if i = q then b row else b i) (b j))
theorem detF_cong {c : Nat} {b b' : Nat → Nat → Int} {n : Nat} (h : ∀ i j, i < n → j < c → b i j = b' i j) : volE c b n = volE c b' n :=
 detF_upto n _ _ (fun i j hi hj => sm_congr c fun k hk => by rw [h i k hi hk, h j k hj hk])
theorem lam_cong {c : Nat} {b b' : Nat → Nat → Int} {row q : Nat} (h : ∀ i j, i ≤ q → j < c → b i j = b' i j) (hr : ∀ j, j < c → b row j = b' row j) : lamE c b row q = lamE c b' row q :=
 detF_upto (q + 1) _ _ (fun i j hi hj => sm_congr c fun k hk => by
  by_cases e : i = q
  ·rw [if_pos e, if_pos e, hr k hk, h j k (by omega) hk]
  ·rw [if_neg e, if_neg e, h i k (by omega) hk, h j k (by omega) hk])
def shE (c : Nat) (b : Nat → Nat → Int) (k q : Nat) : Int := nearF (lamE c b k q) (volE c b (q + 1))
def lesN (c k : Nat) (b : Nat → Nat → Int) : Nat → Nat → Nat → Int
 | 0 => b
 | j + 1 => tkR (lesN c k b j) k (k - 1 - j) (shE c (lesN c k b j) k (k - 1 - j))
def lesT (c k : Nat) (b t : Nat → Nat → Int) : Nat → Nat → Nat → Int
 | 0 => t
 | j + 1 => tkR (lesT c k b t j) k (k - 1 - j) (shE c (lesN c k b j) k (k - 1 - j))
open Go.RowKit
set_option maxRecDepth 100000 in
set_option maxHeartbeats 4000000 in
theorem near_any (v u : Value) (x y : Int) (L M : Nat) (w : World) (hv : IsI w v x L) (hu : IsI w u y M) (hy : 0 < y) (hL : L ≤ 100000000) (hM : M ≤ 100000000) :
 Calls Tryz.prog 185 #[v, u] w fun e w' => ∃ r, e = .returned r ∧ IntOut w w' r (nearF x y) (L + 4) := by
 obtain ⟨nb, ao, n, cap, rfl⟩ := hv.shape
 obtain ⟨nb', bo, n', cap', rfl⟩ := hu.shape
 have H := Hid.mk (And.intro hv hu)
 clear hv hu
 go_enter Tryz.func185, Tryz.ntmps185
 go_wp2_with fail
 obtain ⟨W0, hW0⟩ : ∃ W0, W0 = ((w.alloc (.cells #[.bool nb, .slice ao n cap] 79)).alloc (.cells #[.bool nb', .slice bo n' cap'] 79)).alloc (.cells #[.bool false, .slice none 0 0] 79) := ⟨_, rfl⟩
 have hz0 : W0.heap.size = w.heap.size + 3 := by rw [hW0]; simp
 have hb0 : Below w.heap.size w W0 := by rw [hW0]; repeat (first | exact Below.refl _ _ | refine Below.alloc ?_ (by simp <;> omega) _)
 have hA : Duo W0 w.heap.size (.bool nb) (.slice ao n cap) := by
  rw [hW0]
  exact ((Duo.new w _ _ rfl).below ((Below.refl _ _).alloc (Nat.le_refl _) _) (by simp)).below ((Below.refl _ _).alloc (Nat.le_refl _) _) (by simp; omega)
 have hB : Duo W0 (w.heap.size + 1) (.bool nb') (.slice bo n' cap') := by
  rw [hW0]
  exact (Duo.new _ _ _ (by simp)).below ((Below.refl _ _).alloc (Nat.le_refl _) _) (by simp)
 have hR : Duo W0 (w.heap.size + 1 + 1) (.bool false) (.slice none 0 0) := by rw [hW0]; exact Duo.new _ _ _ (by simp)
 rw [← hW0]
 have F := Hid.mk (And.intro hA (And.intro hB (And.intro hR (And.intro hb0 hz0))))
 clear hA hB hR hb0 hW0 hz0
 refine (isZero_any _ y M _ (H.out.2.below F.out.2.2.2.1)).mono ?_
 rintro e w1 ⟨rfl, hb1⟩
 have hy0 : decide (y = 0) = false := decide_eq_false (by omega)
 rw [hy0]
 have hs1 := hb1.size
 have hz1 := F.out.2.2.2.2
 obtain ⟨a0, a1, -, -⟩ := (F.out.1.below hb1 (by omega)).cells
 obtain ⟨b0, b1, -, -⟩ := (F.out.2.1.below hb1 (by omega)).cells
 have K1 := Hid.mk (And.intro hb1 hz1)
 clear hb1 hz1
 go_wp2_with fail
 refine (quot_any _ _ x y L M _ ((H.out.1.below F.out.2.2.2.1).below K1.out.1) ((H.out.2.below F.out.2.2.2.1).below K1.out.1) (by omega) (by omega)).mono ?_
 rintro e w2 ⟨r2, rfl, hr2, hb2⟩
 obtain ⟨nd, od, nl, cd, rfl⟩ := hr2.shape
 obtain ⟨dv, hdv⟩ : ∃ dv, dv = x.fdiv y := ⟨_, rfl⟩
 rw [← hdv] at hr2
 have HDV := Hid.mk hdv
 clear hdv
 have hb22 := (Below.refl w2.heap.size w2).alloc (Nat.le_refl _) (.cells #[.bool nd, .slice od nl cd] 79)
 have hbA : Below W0.heap.size W0 w2 := K1.out.1.trans (hb2.mono K1.out.1.size)
 obtain ⟨W2, hW2⟩ : ∃ W2, W2 = w2.alloc (.cells #[.bool nd, .slice od nl cd] 79) := ⟨_, rfl⟩
 have hD : Duo W2 w2.heap.size (.bool nd) (.slice od nl cd) := by rw [hW2]; exact Duo.new w2 _ _ rfl
 rw [← hW2] at hb22
 have hbB : Below W0.heap.size W0 W2 := hbA.trans (hb22.mono hbA.size)
 have hsz := hbA.size
 have hsz2 := hbB.size
 have hz1 := F.out.2.2.2.2
 have K2 : Hid (Duo W2 w.heap.size (.bool nb) (.slice ao n cap) ∧ Duo W2 (w.heap.size + 1) (.bool nb') (.slice bo n' cap') ∧ Duo W2 (w.heap.size + 1 + 1) (.bool false) (.slice none 0 0) ∧ Duo W2 w2.heap.size (.bool nd) (.slice od nl cd) ∧ IsI W2 (.agg #[.bool nb, .slice ao n cap]) x L ∧ IsI W2 (.agg #[.bool nb', .slice bo n' cap']) y M ∧ IsI W2 (.agg #[.bool nd, .slice od nl cd]) dv (L + 1) ∧ Below w.heap.size w W2 ∧ w.heap.size + 3 ≤ w2.heap.size ∧ w2.heap.size < W2.heap.size) :=
  Hid.mk ⟨F.out.1.below hbB (by omega), F.out.2.1.below hbB (by omega), F.out.2.2.1.below hbB (by omega), hD, (H.out.1.below F.out.2.2.2.1).below hbB, (H.out.2.below F.out.2.2.2.1).below hbB, hr2.below hb22, F.out.2.2.2.1.trans (hbB.mono (by omega)), by omega, by rw [hW2]; simp⟩
 have HW2 := Hid.mk hW2
 clear hr2 hb2 hb22 hbA hbB hD K1 a0 a1 b0 b1 hsz hsz2 hs1 hz1 hW2
 have HC : Hid (∀ w', Below W2.heap.size W2 w' → w'.cell? ⟨w.heap.size, 0, none⟩ = some (.bool nb) ∧ w'.cell? ⟨w.heap.size, 1, none⟩ = some (.slice ao n cap) ∧ w'.cell? ⟨w.heap.size + 1, 0, none⟩ = some (.bool nb') ∧ w'.cell? ⟨w.heap.size + 1, 1, none⟩ = some (.slice bo n' cap') ∧ w'.cell? ⟨w2.heap.size, 0, none⟩ = some (.bool nd) ∧ w'.cell? ⟨w2.heap.size, 1, none⟩ = some (.slice od nl cd)) := Hid.mk fun w' hb => by
  have h9 := K2.out.2.2.2.2.2.2.2.2
  obtain ⟨a0, a1, -, -⟩ := (K2.out.1.below hb (by omega)).cells
  obtain ⟨b0, b1, -, -⟩ := (K2.out.2.1.below hb (by omega)).cells
  obtain ⟨d0, d1, -, -⟩ := (K2.out.2.2.2.1.below hb (by omega)).cells
  exact ⟨a0, a1, b0, b1, d0, d1⟩
 go_upto_region 4 with fail
 rw [← HW2.out]
 go_cut [6] from 14 to 18 (fun pv wx => PartIn W2 (x - dv * y) (L + M + 3) pv wx)
 case first =>
  go_region_held3 (fun w' => w'.cell? ⟨w.heap.size, 0, none⟩ = some (.bool nb) ∧ w'.cell? ⟨w.heap.size, 1, none⟩ = some (.slice ao n cap) ∧ w'.cell? ⟨w.heap.size + 1, 0, none⟩ = some (.bool nb') ∧ w'.cell? ⟨w.heap.size + 1, 1, none⟩ = some (.slice bo n' cap') ∧ w'.cell? ⟨w2.heap.size, 0, none⟩ = some (.bool nd) ∧ w'.cell? ⟨w2.heap.size, 1, none⟩ = some (.slice od nl cd))
   (exact HC.out _ (by first | exact hbW6 | exact hbW6.alloc hbW6.size _ | exact (hbW6.setCell (Nat.le_refl _) _).setCell (Nat.le_refl _) _ | exact (hbW6.setCell hw5s _).setCell hw5s _ | exact hbW5 | exact hbW5.alloc hbW5.size _ | exact (Below.refl _ _).drew | exact ((Below.refl _ _).alloc (Nat.le_refl _) _).drew))
   (first
     | (go_at_call 65; refine (mul_any _ _ dv y (L + 1) M _ (K2.out.2.2.2.2.2.2.1.below ((Below.refl _ _).drew)) (K2.out.2.2.2.2.2.1.below ((Below.refl _ _).drew)) (by omega) (by omega)).mono ?_; rintro e9 w5 ⟨x5, rfl, hx5, hb5⟩; obtain ⟨nb5, so5, n5, cp5, rfl⟩ := hx5.shape; have hbW5 : Below W2.heap.size W2 w5 := ((Below.refl _ _).drew).trans hb5; clear hb5)
     | (go_at_call 65; refine (mul_any _ _ dv y (L + 1) M _ (K2.out.2.2.2.2.2.2.1.below (((Below.refl _ _).alloc (Nat.le_refl _) _).drew)) (K2.out.2.2.2.2.2.1.below (((Below.refl _ _).alloc (Nat.le_refl _) _).drew)) (by omega) (by omega)).mono ?_; rintro e9 w5 ⟨x5, rfl, hx5, hb5⟩; obtain ⟨nb5, so5, n5, cp5, rfl⟩ := hx5.shape; have hbW5 : Below W2.heap.size W2 w5 := (((Below.refl _ _).alloc (Nat.le_refl _) _).drew).trans (hb5.mono (by simp)); have hD5 : Duo w5 W2.heap.size (.bool false) (.slice none 0 0) := Duo.below (Duo.drew (Duo.alloc_new W2)) hb5 (by simp); clear hb5)
     | (go_at_call 145; refine (sub_any _ _ x (dv * y) L (L + 1 + M) _ (K2.out.2.2.2.2.1.below hbW5) hx5 (by omega) (by omega)).mono ?_; rintro e9 w6 ⟨x6, rfl, hx6, hb6⟩; obtain ⟨nb6, so6, n6, cp6, rfl⟩ := hx6.shape; replace hx6 := hx6.mono (show max L (L + 1 + M) + 1 ≤ L + M + 3 by omega); have hbW6 : Below W2.heap.size W2 w6 := hbW5.trans (hb6.mono hbW5.size); have hD6 : Duo w6 W2.heap.size (.bool false) (.slice none 0 0) := hD5.below hb6 (Array.getElem?_eq_some_iff.1 hD5).1; have hD6c := hD6.cells; clear hb6)
     | (go_at_call 145; refine (sub_any _ _ x (dv * y) L (L + 1 + M) _ (K2.out.2.2.2.2.1.below hbW5) hx5 (by omega) (by omega)).mono ?_; rintro e9 w6 ⟨x6, rfl, hx6, hb6⟩; obtain ⟨nb6, so6, n6, cp6, rfl⟩ := hx6.shape; replace hx6 := hx6.mono (show max L (L + 1 + M) + 1 ≤ L + M + 3 by omega); have hbW6 : Below W2.heap.size W2 w6 := hbW5.trans (hb6.mono hbW5.size); clear hb6)
     | (go_at_call 145; refine (sub_any _ _ x (dv * y) L (L + 1 + M) _ ((K2.out.2.2.2.2.1.below hbW5).below ((Below.refl w5.heap.size w5).alloc (Nat.le_refl _) _)) (hx5.below ((Below.refl w5.heap.size w5).alloc (Nat.le_refl _) _)) (by omega) (by omega)).mono ?_; rintro e9 w6 ⟨x6, rfl, hx6, hb6⟩; obtain ⟨nb6, so6, n6, cp6, rfl⟩ := hx6.shape; replace hx6 := hx6.mono (show max L (L + 1 + M) + 1 ≤ L + M + 3 by omega); have hbW6 : Below W2.heap.size W2 w6 := hbW5.trans ((((Below.refl w5.heap.size w5).alloc (Nat.le_refl _) _).trans (hb6.mono (by simp))).mono hbW5.size); have hw5s := hbW5.size; have hD6 : Duo w6 w5.heap.size (.bool false) (.slice none 0 0) := Duo.below (Duo.alloc_new w5) hb6 (by simp); have hD6c := hD6.cells; clear hb6))
  all_goals
   go_wp2_with fail
   go_meet
   case rel =>
    first
     | exact ⟨_, _, _, _, _, rfl, hbW6.size, Duo.new _ _ _ rfl, hx6.below ((Below.refl _ _).alloc (Nat.le_refl _) _), hbW6.alloc hbW6.size _⟩
     | exact ⟨_, _, _, _, _, rfl, Nat.le_refl _, hD6.put _ _, hx6.duo hD6 _ _, (hbW6.setCell (Nat.le_refl _) _).setCell (Nat.le_refl _) _⟩
     | exact ⟨_, _, _, _, _, rfl, hw5s, hD6.put _ _, hx6.duo hD6 _ _, (hbW6.setCell hw5s _).setCell hw5s _⟩
 case rest =>
  rename World => w3
  obtain ⟨pb, nl3, ol3, ml3, cl3, rfl, hpb, hD3, hI3, hb3⟩ := hcut
  obtain ⟨lf, hlf⟩ : ∃ lf, lf = x - dv * y := ⟨_, rfl⟩
  rw [← hlf] at hI3
  have HLF := Hid.mk hlf
  obtain ⟨e0, e1, -, -⟩ := hD3.cells
  have K3 := Hid.mk (And.intro hD3 (And.intro hI3 (And.intro hb3 hpb)))
  clear hD3 hI3 hb3 hlf hpb
  go_wp2_with fail
  refine (add_any _ _ lf lf (L + M + 3) (L + M + 3) _ K3.out.2.1 K3.out.2.1 (by omega) (by omega)).mono ?_
  rintro e w4 ⟨r4, rfl, hr4, hb4⟩
  obtain ⟨nt, ot, mt, ct, rfl⟩ := hr4.shape
  obtain ⟨W4, hW4⟩ : ∃ W4, W4 = w4.alloc (.cells #[.bool nt, .slice ot mt ct] 79) := ⟨_, rfl⟩
  have hb44 : Below w4.heap.size w4 W4 := by rw [hW4]; exact (Below.refl _ _).alloc (Nat.le_refl _) _
  have hD4 : Duo W4 w4.heap.size (.bool nt) (.slice ot mt ct) := by rw [hW4]; exact Duo.new w4 _ _ rfl
  have hb24 : Below W2.heap.size W2 W4 := K3.out.2.2.1.trans ((hb4.trans (hb44.mono hb4.size)).mono K3.out.2.2.1.size)
  have hIt := (hr4.below hb44)
  have h9 := K2.out.2.2.2.2.2.2.2.2
  have K4 : Hid (Duo W4 w4.heap.size (.bool nt) (.slice ot mt ct) ∧ IsI W4 (.agg #[.bool nt, .slice ot mt ct]) (lf + lf) (max (L + M + 3) (L + M + 3) + 1) ∧ Below W2.heap.size W2 W4 ∧ w4.heap.size < W4.heap.size ∧ W2.heap.size ≤ w4.heap.size) := Hid.mk ⟨hD4, hIt, hb24, by rw [hW4]; simp, Nat.le_trans K3.out.2.2.1.size hb4.size⟩
  obtain ⟨a0, a1, b0, b1, d0, d1⟩ := HC.out W4 hb24
  obtain ⟨t0, t1, -, -⟩ := hD4.cells
  have HW4 := Hid.mk hW4
  clear hr4 hb4 hb44 hD4 hb24 hIt hW4 e0 e1 h9
  obtain ⟨C, hC⟩ : ∃ C : Bool, C = decide (y < 2 * lf ∨ (dv < 0 ∧ 2 * lf = y)) := ⟨_, rfl⟩
  have HLB : Hid (0 ≤ lf ∧ lf < y) := Hid.mk (by rw [HLF.out, HDV.out]; exact fdiv_left hy)
  have HCC := Hid.mk hC
  clear hC
  go_upto_region 6 with fail
  rw [← HW4.out]
  go_cut [33] from 22 to 33 (fun xv wx => xv = .bool C ∧ Below W4.heap.size W4 wx)
  case first =>
   go_wp2_with fail
   refine (isSmaller_any _ _ y (lf + lf) M _ _ (K2.out.2.2.2.2.2.1.below K4.out.2.2.1) K4.out.2.1).mono ?_
   rintro e w5 ⟨rfl, hb5⟩
   have hl1 := HLB.out.1
   by_cases h1 : y < 2 * lf
   ·have hd : decide (y.natAbs < (lf + lf).natAbs) = true := decide_eq_true (by omega)
    rw [hd]
    have HX := Hid.mk (And.intro h1 hb5)
    clear h1 hb5 hd hl1
    go_wp2_with fail
    go_meet
    case rel => exact ⟨by rw [HCC.out]; exact congrArg Value.bool (decide_eq_true (.inl HX.out.1)).symm, HX.out.2⟩
   ·have hd : decide (y.natAbs < (lf + lf).natAbs) = false := decide_eq_false (by omega)
    rw [hd]
    have HX := Hid.mk (And.intro h1 hb5)
    clear h1 hb5 hd hl1
    obtain ⟨-, -, b0, b1, d0, d1⟩ := HC.out w5 (K4.out.2.2.1.trans (HX.out.2.mono K4.out.2.2.1.size))
    go_wp2_with fail
    refine (isBelow_any _ dv (L + 1) _ (K2.out.2.2.2.2.2.2.1.below (K4.out.2.2.1.trans (HX.out.2.mono K4.out.2.2.1.size)))).mono ?_
    rintro e w6 ⟨rfl, hb6⟩
    have hb46 : Below W4.heap.size W4 w6 := HX.out.2.trans (hb6.mono HX.out.2.size)
    by_cases h2 : dv < 0
    ·have hd : decide (dv < 0) = true := decide_eq_true h2
     rw [hd]
     have HY := Hid.mk (And.intro h2 hb46)
     clear h2 hb46 hd hb6 b0 b1 d0 d1 t0 t1
     obtain ⟨-, -, b0, b1, -, -⟩ := HC.out w6 (K4.out.2.2.1.trans (HY.out.2.mono K4.out.2.2.1.size))
     obtain ⟨t0, t1, -, -⟩ := (K4.out.1.below HY.out.2 K4.out.2.2.2.1).cells
     go_wp2_with fail
     refine (isSame_any _ _ (lf + lf) y _ M _ (K4.out.2.1.below HY.out.2) (K2.out.2.2.2.2.2.1.below (K4.out.2.2.1.trans (HY.out.2.mono K4.out.2.2.1.size)))).mono ?_
     rintro e w7 ⟨rfl, hb7⟩
     have hd : decide (lf + lf = y) = C := by
      rw [HCC.out]
      have h3 := HX.out.1
      have h4 := HY.out.1
      by_cases h5 : lf + lf = y
      ·rw [decide_eq_true h5, decide_eq_true (.inr ⟨h4, by omega⟩)]
      ·rw [decide_eq_false h5, decide_eq_false (fun h6 => by rcases h6 with h6 | ⟨-, h6⟩ <;> omega)]
     rw [hd]
     have HZ := Hid.mk (HY.out.2.trans (hb7.mono HY.out.2.size))
     clear hb7 hd
     go_wp2_with fail
     go_meet
     case rel => exact ⟨rfl, HZ.out⟩
    ·have hd : decide (dv < 0) = false := decide_eq_false h2
     rw [hd]
     have HY := Hid.mk (And.intro h2 hb46)
     clear h2 hb46 hd hb6
     go_wp2_with fail
     go_meet
     case rel => exact ⟨by rw [HCC.out]; exact congrArg Value.bool (decide_eq_false (fun h6 => by have h7 := HX.out.1; have h8 := HY.out.1; rcases h6 with h6 | ⟨h6, -⟩ <;> omega)).symm, HY.out.2⟩
  case rest =>
   obtain ⟨rfl, hbc⟩ := hcut
   have hb2c : Below W2.heap.size W2 wc := K4.out.2.2.1.trans (hbc.mono K4.out.2.2.1.size)
   have h9 := K2.out.2.2.2.2.2.2.2.2
   have hsc := hb2c.size
   have hnear : nearF x y = if C = true then dv + 1 else dv := by
    unfold nearF
    rw [← HDV.out, ← HLF.out, HCC.out]
    simp only [decide_eq_true_eq]
   have hRc := K2.out.2.2.1.below hb2c (by omega)
   have KC : Hid (Below w.heap.size w wc ∧ IsI wc (.agg #[.bool nd, .slice od nl cd]) dv (L + 1) ∧ Duo wc (w.heap.size + 1 + 1) (.bool false) (.slice none 0 0) ∧ Duo wc w2.heap.size (.bool nd) (.slice od nl cd) ∧ w.heap.size + 3 ≤ w2.heap.size ∧ w2.heap.size < wc.heap.size) := Hid.mk ⟨K2.out.2.2.2.2.2.2.2.1.trans (hb2c.mono (by omega)), K2.out.2.2.2.2.2.2.1.below hb2c, hRc, K2.out.2.2.2.1.below hb2c (by omega), by omega, by omega⟩
   have HNR := Hid.mk hnear
   clear hbc hb2c hnear a0 a1 b0 b1 d0 d1 t0 t1 hRc h9 hsc
   obtain ⟨d0, d1, -, -⟩ := KC.out.2.2.2.1.cells
   cases C
   ·obtain ⟨s0, s1, s2, s3⟩ := KC.out.2.2.1.cells
    go_wp2_with fail
    obtain ⟨g1, g2, -, -⟩ := (KC.out.2.2.1.put (.bool nd) (.slice od nl cd)).cells
    refine bodyPost_ret (v := .agg #[.bool nd, .slice od nl cd]) ?_ rfl ?_
    ·(simp [results, Tryz.results185, go_sem, g1, g2]; done)
    ·refine ⟨_, rfl, ?_, (KC.out.1.setCell (by simp; omega) _).setCell (by simp; omega) _⟩
     have h1 := KC.out.2.1.duo KC.out.2.2.1 (.bool nd) (.slice od nl cd)
     rw [HNR.out, if_neg (by simp)]
     exact h1.mono (by omega)
   ·go_upto_region 7 with fail
    go_region_with (first
     | (go_at_call 62; refine (fromOne_any _).mono ?_; rintro e9 w5 ⟨x5, rfl, hx5, hb5⟩; obtain ⟨nb5, so5, n5, cp5, rfl⟩ := hx5.shape; have hbW5 : Below wc.heap.size wc w5 := ((Below.refl _ _).drew).trans hb5; have hd5 := (KC.out.2.2.2.1.below hbW5 KC.out.2.2.2.2.2).cells; clear hb5)
     | (go_at_call 67; refine (add_any _ _ dv 1 (L + 1) 2 _ (KC.out.2.1.below hbW5) hx5 (by omega) (by omega)).mono ?_; rintro e9 w6 ⟨x6, rfl, hx6, hb6⟩; obtain ⟨nb6, so6, n6, cp6, rfl⟩ := hx6.shape; have hbW6 : Below wc.heap.size wc w6 := hbW5.trans (hb6.mono hbW5.size); have hR6 := KC.out.2.2.1.below hbW6 (by have := KC.out.2.2.2.2; omega); obtain ⟨s0, s1, s2, s3⟩ := hR6.cells; clear hb6))
    all_goals
     have KD := Hid.mk (And.intro hx6 (And.intro hR6 (KC.out.1.trans (hbW6.mono (by have := KC.out.1.size; omega)))))
     clear hx6 hR6 hbW6
     go_wp2_with fail
     obtain ⟨g1, g2, -, -⟩ := (KD.out.2.1.put (.bool nb6) (.slice so6 n6 cp6)).cells
     refine bodyPost_ret (v := .agg #[.bool nb6, .slice so6 n6 cp6]) ?_ rfl ?_
     ·(simp [results, Tryz.results185, go_sem, g1, g2]; done)
     ·refine ⟨_, rfl, ?_, (KD.out.2.2.setCell (by simp; omega) _).setCell (by simp; omega) _⟩
      have h1 := KD.out.1.duo KD.out.2.1 (.bool nb6) (.slice so6 n6 cp6)
      rw [HNR.out, if_pos trivial]
      exact h1.mono (by omega)
end Go.Proofs.YtfjbijpagaipnabGreatDoor
