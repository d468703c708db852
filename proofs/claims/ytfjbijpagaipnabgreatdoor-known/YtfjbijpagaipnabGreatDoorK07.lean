import Derived.Test.YtfjbijpagaipnabGreatDoorK03
import Derived.Test.YtfjbijpagaipnabGreatDoorK06
namespace Go.Proofs.YtfjbijpagaipnabGreatDoor
def sm (f : Nat → Int) : Nat → Int
 | 0 => 0
 | t + 1 => sm f t + f t
theorem dot_sm (f g : Nat → Nat → Int) (i j t : Nat) : dot f g i j t = sm (fun k => f i k * g k j) t := by
 induction t with
 | zero => rfl
 | succ t ih => rw [dot, sm, ih]
theorem sm_congr {f g : Nat → Int} (t : Nat) (h : ∀ k, k < t → f k = g k) : sm f t = sm g t := by
 induction t with
 | zero => rfl
 | succ t ih => rw [sm, sm, ih (fun k hk => h k (by omega)), h t (by omega)]
theorem sm_lin (a b : Int) (f g : Nat → Int) (t : Nat) : sm (fun k => a * f k + b * g k) t = a * sm f t + b * sm g t := by
 induction t with
 | zero => simp [sm]
 | succ t ih => rw [sm, sm, sm, ih]; grind
theorem sm_zero {f : Nat → Int} (t : Nat) (h : ∀ k, k < t → f k = 0) : sm f t = 0 := by
 induction t with
 | zero => rfl
 | succ t ih => rw [sm, ih (fun k hk => h k (by omega)), h t (by omega)]; rfl
theorem sm_one {f : Nat → Int} (t a : Nat) (ha : a < t) (h : ∀ k, k < t → k ≠ a → f k = 0) : sm f t = f a := by
 induction t with
 | zero => omega
 | succ t ih =>
   rw [sm]
   by_cases hat : a = t
   ·subst hat
    rw [sm_zero a (fun k hk => h k (by omega) (by omega))]; omega
   ·rw [ih (by omega) (fun k hk hne => h k (by omega) hne), h t (by omega) (fun e => hat e.symm)]; omega
theorem sm_sub (f g : Nat → Int) (t : Nat) : sm f t - sm g t = sm (fun k => f k - g k) t := by
 induction t with
 | zero => rfl
 | succ t ih => rw [sm, sm, sm, ← ih]; omega
theorem sm_two {f g : Nat → Int} {t a b : Nat} (ha : a < t) (hb : b < t) (hab : a ≠ b) (h : ∀ k, k < t → k ≠ a → k ≠ b → f k = g k) (hs : f a + f b = g a + g b) : sm f t = sm g t := by
 have h1 := sm_sub f g t
 have key : ∀ t, a < t → b < t → ∀ d : Nat → Int, (∀ k, k < t → k ≠ a → k ≠ b → d k = 0) → sm d t = d a + d b := by
  intro t
  induction t with
  | zero => intro h; omega
  | succ t ih =>
    intro ha hb d hd
    rw [sm]
    by_cases hat : a = t
    ·subst hat
     rw [sm_one a b (by omega) (fun k hk hne => hd k (by omega) (by omega) hne)]; omega
    ·by_cases hbt : b = t
     ·subst hbt
      rw [sm_one b a (by omega) (fun k hk hne => hd k (by omega) hne (by omega))]
     ·rw [ih (by omega) (by omega) d (fun k hk h1 h2 => hd k (by omega) h1 h2), hd t (by omega) (fun e => hat e.symm) (fun e => hbt e.symm)]; omega
 have h2 := key t ha hb (fun k => f k - g k) (fun k hk h1 h2 => by show f k - g k = 0; rw [h k hk h1 h2]; omega)
 have h3 : (fun k => f k - g k) a + (fun k => f k - g k) b = 0 := by show f a - g a + (f b - g b) = 0; omega
 omega
def kd (i j : Nat) : Int := if i = j then 1 else 0
structure EInv (A H U W : Nat → Nat → Int) (r c : Nat) : Prop where
 ua : ∀ i j, i < r → j < c → dot U A i j r = H i j
 uw : ∀ i j, i < r → j < r → dot U W i j r = kd i j
 wu : ∀ i j, i < r → j < r → dot W U i j r = kd i j
 wh : ∀ i j, i < r → j < c → dot W H i j r = A i j
theorem EInv.start (A : Nat → Nat → Int) (r c : Nat) : EInv A A kd kd r c := by
 have h1 : ∀ (F : Nat → Nat → Int) i j, i < r → dot kd F i j r = F i j := by
  intro F i j hi
  rw [dot_sm, sm_one r i hi (fun k _ hne => by show kd i k * F k j = 0; unfold kd; rw [if_neg (fun e => hne e.symm)]; simp)]
  unfold kd; rw [if_pos rfl]; simp
 exact ⟨fun i j hi _ => h1 _ i j hi, fun i j hi _ => h1 _ i j hi, fun i j hi _ => h1 _ i j hi, fun i j hi _ => h1 _ i j hi⟩
theorem EInv.congr {A H U W A' H' U' W' : Nat → Nat → Int} {r c : Nat} (h : EInv A H U W r c) (hA : ∀ i j, i < r → j < c → A' i j = A i j) (hH : ∀ i j, i < r → j < c → H' i j = H i j) (hU : ∀ i j, i < r → j < r → U' i j = U i j) (hW : ∀ i j, i < r → j < r → W' i j = W i j) : EInv A' H' U' W' r c := by
 refine ⟨fun i j hi hj => ?_, fun i j hi hj => ?_, fun i j hi hj => ?_, fun i j hi hj => ?_⟩
 ·rw [hH i j hi hj, ← h.ua i j hi hj]; exact dot_congr r (fun k hk => hU i k hi hk) (fun k hk => hA k j hk hj)
 ·rw [← h.uw i j hi hj]; exact dot_congr r (fun k hk => hU i k hi hk) (fun k hk => hW k j hk hj)
 ·rw [← h.wu i j hi hj]; exact dot_congr r (fun k hk => hW i k hi hk) (fun k hk => hU k j hk hj)
 ·rw [hA i j hi hj, ← h.wh i j hi hj]; exact dot_congr r (fun k hk => hW i k hi hk) (fun k hk => hH k j hk hj)
def swq (a b i : Nat) : Nat := if i = a then b else if i = b then a else i
theorem swq_lt {a b i r : Nat} (ha : a < r) (hb : b < r) (hi : i < r) : swq a b i < r := by unfold swq; split <;> (try split) <;> omega
theorem swq_inj {a b i j : Nat} : swq a b i = swq a b j ↔ i = j := by
 unfold swq
 constructor
 ·intro h; split at h <;> split at h <;> (try split at h) <;> (try split at h) <;> omega
 ·rintro rfl; rfl
theorem EInv.swap {A H U W : Nat → Nat → Int} {r c : Nat} (h : EInv A H U W r c) {a b : Nat} (ha : a < r) (hb : b < r) : EInv A (fun i j => H (swq a b i) j) (fun i j => U (swq a b i) j) (fun i j => W i (swq a b j)) r c := by
 have hs : ∀ f : Nat → Int, sm (fun k => f (swq a b k)) r = sm f r := by
  intro f
  by_cases hab : a = b
  ·subst hab
   refine sm_congr r (fun k _ => ?_)
   unfold swq
   split <;> (try split) <;> simp_all
  ·refine sm_two ha hb hab (fun k _ h1 h2 => ?_) ?_
   ·unfold swq; rw [if_neg h1, if_neg h2]
   ·unfold swq; rw [if_pos rfl, if_neg (fun e => hab e.symm), if_pos rfl]; omega
 refine ⟨fun i j hi hj => ?_, fun i j hi hj => ?_, fun i j hi hj => ?_, fun i j hi hj => ?_⟩
 ·rw [← h.ua (swq a b i) j (swq_lt ha hb hi) hj, dot_sm, dot_sm]
 ·have := h.uw (swq a b i) (swq a b j) (swq_lt ha hb hi) (swq_lt ha hb hj)
  rw [dot_sm] at this ⊢
  rw [this]
  unfold kd
  simp only [swq_inj]
 ·have := h.wu i j hi hj
  rw [dot_sm] at this ⊢
  rw [← this]
  exact hs (fun k => W i k * U k j)
 ·have := h.wh i j hi hj
  rw [dot_sm] at this ⊢
  rw [← this]
  exact hs (fun k => W i k * H k j)
theorem EInv.turn {A H U W : Nat → Nat → Int} {r c : Nat} (h : EInv A H U W r c) (a : Nat) : EInv A (fun i j => if i = a then -H i j else H i j) (fun i j => if i = a then -U i j else U i j) (fun i j => if j = a then -W i j else W i j) r c := by
 have hn : ∀ (f : Nat → Int) t, sm (fun k => -f k) t = -sm f t := by
  intro f t
  induction t with
  | zero => rfl
  | succ t ih => rw [sm, sm, ih]; omega
 refine ⟨fun i j hi hj => ?_, fun i j hi hj => ?_, fun i j hi hj => ?_, fun i j hi hj => ?_⟩
 ·have := h.ua i j hi hj
  rw [dot_sm] at this ⊢
  by_cases hia : i = a
  ·simp only [hia, if_true] at this ⊢
   rw [← this, ← hn]
   exact sm_congr r (fun k _ => by grind)
  ·simp only [hia, if_false] at this ⊢
   exact this
 ·have := h.uw i j hi hj
  rw [dot_sm] at this ⊢
  by_cases hia : i = a <;> by_cases hja : j = a
  ·simp only [hia, hja, if_true] at this ⊢
   rw [← this]
   exact sm_congr r (fun k _ => by grind)
  ·have e0 : kd i j = 0 := by unfold kd; rw [if_neg (by omega)]
   rw [e0] at this ⊢
   simp only [hia, hja, if_true, if_false] at this ⊢
   have e1 := hn (fun k => U a k * W k j) r
   rw [this] at e1
   rw [show (0 : Int) = -0 from rfl, ← e1]
   exact sm_congr r (fun k _ => by grind)
  ·have e0 : kd i j = 0 := by unfold kd; rw [if_neg (by omega)]
   rw [e0] at this ⊢
   simp only [hia, hja, if_true, if_false] at this ⊢
   have e1 := hn (fun k => U i k * W k a) r
   rw [this] at e1
   rw [show (0 : Int) = -0 from rfl, ← e1]
   exact sm_congr r (fun k _ => by grind)
  ·simp only [hia, hja, if_false] at this ⊢
   exact this
 ·have := h.wu i j hi hj
  rw [dot_sm] at this ⊢
  rw [← this]
  refine sm_congr r (fun k _ => ?_)
  by_cases hka : k = a
  ·simp only [hka, if_true]; grind
  ·simp only [hka, if_false]
 ·have := h.wh i j hi hj
  rw [dot_sm] at this ⊢
  rw [← this]
  refine sm_congr r (fun k _ => ?_)
  by_cases hka : k = a
  ·simp only [hka, if_true]; grind
  ·simp only [hka, if_false]
theorem sm_take (u v x : Nat → Int) (z : Int) (r : Nat) : sm (fun k => (u k - v k * z) * x k) r = sm (fun k => u k * x k) r - z * sm (fun k => v k * x k) r := by
 induction r with
 | zero => simp [sm]
 | succ r ih => rw [sm, sm, sm, ih]; grind
theorem EInv.take {A H U W : Nat → Nat → Int} {r c : Nat} (h : EInv A H U W r c) {a b : Nat} (z : Int) (ha : a < r) (hb : b < r) (hab : a ≠ b) :
 EInv A (fun i j => if i = a then H a j - H b j * z else H i j) (fun i j => if i = a then U a j - U b j * z else U i j) (fun i j => if j = b then W i b - W i a * (-z) else W i j) r c := by
 have hba : b ≠ a := fun e => hab e.symm
 refine ⟨fun i j hi hj => ?_, fun i j hi hj => ?_, fun i j hi hj => ?_, fun i j hi hj => ?_⟩
 ·by_cases hia : i = a
  ·have h1 := h.ua a j ha hj
   have h2 := h.ua b j hb hj
   rw [dot_sm] at h1 h2 ⊢
   simp only [hia, if_true]
   rw [← h1, ← h2]
   have := sm_lin 1 (-z) (fun k => U a k * A k j) (fun k => U b k * A k j) r
   rw [show sm (fun k => U a k * A k j) r - sm (fun k => U b k * A k j) r * z = 1 * sm (fun k => U a k * A k j) r + -z * sm (fun k => U b k * A k j) r from by grind, ← this]
   exact sm_congr r (fun k _ => by grind)
  ·have h1 := h.ua i j hi hj
   rw [dot_sm] at h1 ⊢
   simp only [hia, if_false]
   exact h1
 ·have e1 : ∀ i', i' < r → dot (fun i j => U i j) (fun i j => if j = b then W i b - W i a * (-z) else W i j) i' j r = kd i' j + (if j = b then z * kd i' a else 0) := by
   intro i' hi'
   have h1 := h.uw i' j hi' hj
   have h2 := h.uw i' a hi' ha
   by_cases hjb : j = b
   ·rw [dot_sm] at h1 h2 ⊢
    simp only [hjb, if_true] at h1 ⊢
    rw [← h1, ← h2]
    have := sm_lin 1 z (fun k => U i' k * W k b) (fun k => U i' k * W k a) r
    rw [show sm (fun k => U i' k * W k b) r + z * sm (fun k => U i' k * W k a) r = 1 * sm (fun k => U i' k * W k b) r + z * sm (fun k => U i' k * W k a) r from by grind, ← this]
    exact sm_congr r (fun k _ => by grind)
   ·rw [dot_sm] at h1 ⊢
    simp only [hjb, if_false]
    rw [h1]; omega
  by_cases hia : i = a
  ·have h1 := e1 a ha
   have h2 := e1 b hb
   rw [dot_sm] at h1 h2 ⊢
   simp only [hia, if_true]
   refine (sm_take _ _ (fun k => if j = b then W k b - W k a * (-z) else W k j) z r).trans ?_
   rw [show sm (fun k => U a k * (fun k => if j = b then W k b - W k a * (-z) else W k j) k) r = kd a j + (if j = b then z * kd a a else 0) from h1, show sm (fun k => U b k * (fun k => if j = b then W k b - W k a * (-z) else W k j) k) r = kd b j + (if j = b then z * kd b a else 0) from h2]
   unfold kd
   by_cases hjb : j = b
   ·subst hjb
    simp only [if_true, if_neg hab, if_neg hba]
    omega
   ·simp only [if_neg hjb, if_neg (fun e : b = j => hjb e.symm)]
    omega
  ·have h1 := e1 i hi
   rw [dot_sm] at h1 ⊢
   simp only [hia, if_false]
   rw [h1]
   unfold kd
   rw [if_neg hia]
   split <;> omega
 ·have h1 := h.wu i j hi hj
  rw [dot_sm] at h1 ⊢
  rw [← h1]
  refine sm_two ha hb hab (fun k _ k1 k2 => ?_) ?_
  ·simp only [k1, k2, if_false]
  ·simp only [hab, hba, if_true, if_false]; grind
 ·have h1 := h.wh i j hi hj
  rw [dot_sm] at h1 ⊢
  rw [← h1]
  refine sm_two ha hb hab (fun k _ k1 k2 => ?_) ?_
  ·simp only [k1, k2, if_false]
  ·simp only [hab, hba, if_true, if_false]; grind
open Go.RowKit
theorem IsI.fit {w : World} {v : Value} {z : Int} {L K : Nat} (h : IsI w v z L) (hz : z.natAbs < 4294967296 ^ K) : IsI w v z K := by
 obtain ⟨sl, xs, h1, h2, h3, h4, h5⟩ := h
 refine ⟨sl, xs, h1, h2, h3, ?_, h5⟩
 rcases Nat.lt_or_ge K xs.length with hk | hk
 ·have := Lim_ge h2 (by rintro rfl; simp at hk)
  have : 4294967296 ^ K ≤ 4294967296 ^ (xs.length - 1) := Nat.pow_le_pow_right (by decide) (by omega)
  omega
 ·exact hk
theorem IsI.lt {w : World} {v : Value} {z : Int} {L : Nat} (h : IsI w v z L) : z.natAbs < 4294967296 ^ L := by
 obtain ⟨sl, xs, h1, h2, h3, h4, h5⟩ := h
 have := val_lt h2.1
 have : 4294967296 ^ xs.length ≤ 4294967296 ^ L := Nat.pow_le_pow_right (by decide) h4
 omega
theorem Has.lt {z : Int} {L : Nat} (h : Has z L) : z.natAbs < 4294967296 ^ L := by
 obtain ⟨w, v, h⟩ := h
 exact h.lt
theorem MatO.fit {w : World} {p o g r c L K : Nat} {zs : List Int} (h : MatO w p o g r c zs L) (hz : ∀ i j, i < r → j < c → (ent c zs i j).natAbs < 4294967296 ^ K) : MatO w p o g r c zs K := by
 refine ⟨h.hr, h.hc, h.tri, ?_⟩
 obtain ⟨h0, cs, h1, h2⟩ := h.grid
 refine ⟨h0, cs, h1, fun i hi => ?_⟩
 obtain ⟨a, b, e1, e2, e3⟩ := h2 i hi
 refine ⟨a, b, e1, e2, e3.fit ?_⟩
 have hc0 : 0 < c := by
  rcases Nat.eq_zero_or_pos c with h | h
  ·subst h; simp at hi
  ·exact h
 have := hz (i / c) (i % c) (Nat.div_lt_of_lt_mul (by rw [Nat.mul_comm]; exact hi)) (Nat.mod_lt _ hc0)
 unfold ent at this
 rwa [Nat.mul_comm, Nat.div_add_mod] at this
theorem Ty.grown {w w' : World} {b g : Nat} {t : TypeId} (h : Ty w b t) (hg : w.grownBy w' (some g)) (hne : b ≠ g) : Ty w' b t := by
 obtain ⟨c, fr, h⟩ := h
 exact ⟨c, fr, by rw [hg.block b (Array.getElem?_eq_some_iff.1 h).1 (by simpa using hne)]; exact h⟩
theorem grown_cell (w : World) (b o : Nat) (v : Value) : w.grownBy (w.setCell ⟨b, o, none⟩ v) (some b) :=
 ⟨rfl, rfl, rfl, by simp [World.setCell], fun k _ hne => Below.heap_setCell _ _ _ _ (fun e => hne (by simp [e]))⟩
theorem addr_ne {p q o : Nat} (h : q ≠ o) : (⟨p, q, none⟩ : Addr) ≠ ⟨p, o, none⟩ := fun e => by
 simp only [Addr.mk.injEq] at e
 exact h e.2.1
theorem MatO.beside {w : World} {p o g r c L q : Nat} {zs : List Int} {v : Value} (h : MatO w p o g r c zs L) (hpg : p ≠ g) (hq : o + 2 < q) (hk : KU w (w.setCell ⟨p, q, none⟩ v)) : MatO (w.setCell ⟨p, q, none⟩ v) p o g r c zs L :=
 ⟨h.hr, h.hc, ⟨(World.cell?_setCell_other _ _ _ _ (addr_ne (by omega))).trans h.tri.1, (World.cell?_setCell_other _ _ _ _ (addr_ne (by omega))).trans h.tri.2.1, (World.cell?_setCell_other _ _ _ _ (addr_ne (by omega))).trans h.tri.2.2⟩, h.grid.grown (grown_cell w p q v) (fun a m c e => by
   simp only [Value.slice.injEq, Option.some.injEq] at e
   obtain ⟨rfl, -, -⟩ := e
   exact fun e => hpg e.symm) hk⟩
structure FormO (w : World) (B p gH gU gW r c k : Nat) (hs us ws : List Int) (L : Nat) : Prop where
 H : MatO w p 0 gH r c hs L
 U : MatO w p 3 gU r r us L
 W : MatO w p 6 gW r r ws L
 rk : w.cell? ⟨p, 9, none⟩ = some (.int .i64 k)
 fr : w.frozen? ⟨p, 9, none⟩ = false
 ty : Ty w p 74
 d1 : p ≠ gH
 d2 : p ≠ gU
 d3 : p ≠ gW
 d4 : gH ≠ gU
 d5 : gH ≠ gW
 d6 : gU ≠ gW
 b1 : B ≤ gH
 b2 : B ≤ gU
 b3 : B ≤ gW
 b4 : B ≤ p
theorem FormO.later {w w' : World} {B p gH gU gW r c k : Nat} {hs us ws : List Int} {L : Nat} (h : FormO w B p gH gU gW r c k hs us ws L) (hb : Below w.heap.size w w') : FormO w' B p gH gU gW r c k hs us ws L :=
 ⟨h.H.later hb, h.U.later hb, h.W.later hb, cell_later hb h.rk, by rw [hb.frozen (p := ⟨p, 9, none⟩) h.H.plt]; exact h.fr, h.ty.below hb h.H.plt, h.d1, h.d2, h.d3, h.d4, h.d5, h.d6, h.b1, h.b2, h.b3, h.b4⟩
structure Chg3 (w w' : World) (g1 g2 g3 : Nat) : Prop where
 os : w'.os = w.os
 tape : w'.tape = w.tape
 output : w'.output = w.output
 size : w.heap.size ≤ w'.heap.size
 block : ∀ k, k < w.heap.size → k ≠ g1 → k ≠ g2 → k ≠ g3 → w'.heap[k]? = w.heap[k]?
theorem Chg3.refl (w : World) (g1 g2 g3 : Nat) : Chg3 w w g1 g2 g3 := ⟨rfl, rfl, rfl, Nat.le_refl _, fun _ _ _ _ _ => rfl⟩
theorem Chg3.trans {a b d : World} {g1 g2 g3 : Nat} (h : Chg3 a b g1 g2 g3) (k : Chg3 b d g1 g2 g3) : Chg3 a d g1 g2 g3 :=
 ⟨k.os.trans h.os, k.tape.trans h.tape, k.output.trans h.output, Nat.le_trans h.size k.size, fun i hi h1 h2 h3 => (k.block i (Nat.lt_of_lt_of_le hi h.size) h1 h2 h3).trans (h.block i hi h1 h2 h3)⟩
theorem Chg3.of_below {w w' : World} (g1 g2 g3 : Nat) (h : Below w.heap.size w w') : Chg3 w w' g1 g2 g3 := ⟨h.os, h.tape, h.output, h.size, fun k hk _ _ _ => h.block k hk⟩
theorem Chg3.of_grown {w w' : World} {g g1 g2 g3 : Nat} (h : w.grownBy w' (some g)) (hg : g = g1 ∨ g = g2 ∨ g = g3) : Chg3 w w' g1 g2 g3 :=
 ⟨h.os, h.tape, h.output, h.size, fun k hk h1 h2 h3 => h.block k hk (fun e => by injection e with e; omega)⟩
theorem Chg3.below {w w' : World} {g1 g2 g3 B : Nat} (h : Chg3 w w' g1 g2 g3) (b1 : B ≤ g1) (b2 : B ≤ g2) (b3 : B ≤ g3) (hB : B ≤ w.heap.size) : Below B w w' :=
 ⟨h.os, h.tape, h.output, h.size, fun k hk => h.block k (by omega) (by omega) (by omega) (by omega)⟩
theorem below_of_grown {w w' : World} {g B : Nat} (h : w.grownBy w' (some g)) (hB : B ≤ g) (hs : B ≤ w.heap.size) : Below B w w' :=
 (Below.refl B w).grown h hs (fun j hj => by simp at hj; omega)
theorem FormO.ble {w : World} {B p gH gU gW r c k : Nat} {hs us ws : List Int} {L : Nat} (h : FormO w B p gH gU gW r c k hs us ws L) : B ≤ w.heap.size := by
 have := h.H.plt
 have := h.b4
 omega
theorem FormO.setH {w w' : World} {B p gH gU gW r c k : Nat} {hs us ws hs' : List Int} {L : Nat} (h : FormO w B p gH gU gW r c k hs us ws L) (hm : MatO w' p 0 gH r c hs' L) (hg : w.grownBy w' (some gH)) : FormO w' B p gH gU gW r c k hs' us ws L ∧ Chg3 w w' gH gU gW := by
 have hk : KU w w' := KU.of_grown hg h.H.grid.ty (by decide)
 exact ⟨⟨hm, h.U.other hg hk h.d1 (fun e => h.d4 e.symm), h.W.other hg hk h.d1 (fun e => h.d5 e.symm), hg.cell h.rk (by simpa using h.d1), by rw [World.frozen?_of_block (hg.block p h.H.plt (by simpa using h.d1))]; exact h.fr, h.ty.grown hg h.d1, h.d1, h.d2, h.d3, h.d4, h.d5, h.d6, h.b1, h.b2, h.b3, h.b4⟩, Chg3.of_grown hg (.inl rfl)⟩
theorem FormO.setU {w w' : World} {B p gH gU gW r c k : Nat} {hs us ws us' : List Int} {L : Nat} (h : FormO w B p gH gU gW r c k hs us ws L) (hm : MatO w' p 3 gU r r us' L) (hg : w.grownBy w' (some gU)) : FormO w' B p gH gU gW r c k hs us' ws L ∧ Chg3 w w' gH gU gW := by
 have hk : KU w w' := KU.of_grown hg h.U.grid.ty (by decide)
 exact ⟨⟨h.H.other hg hk h.d2 h.d4, hm, h.W.other hg hk h.d2 (fun e => h.d6 e.symm), hg.cell h.rk (by simpa using h.d2), by rw [World.frozen?_of_block (hg.block p h.H.plt (by simpa using h.d2))]; exact h.fr, h.ty.grown hg h.d2, h.d1, h.d2, h.d3, h.d4, h.d5, h.d6, h.b1, h.b2, h.b3, h.b4⟩, Chg3.of_grown hg (.inr (.inl rfl))⟩
theorem FormO.setW {w w' : World} {B p gH gU gW r c k : Nat} {hs us ws ws' : List Int} {L : Nat} (h : FormO w B p gH gU gW r c k hs us ws L) (hm : MatO w' p 6 gW r r ws' L) (hg : w.grownBy w' (some gW)) : FormO w' B p gH gU gW r c k hs us ws' L ∧ Chg3 w w' gH gU gW := by
 have hk : KU w w' := KU.of_grown hg h.W.grid.ty (by decide)
 exact ⟨⟨h.H.other hg hk h.d3 h.d5, h.U.other hg hk h.d3 h.d6, hm, hg.cell h.rk (by simpa using h.d3), by rw [World.frozen?_of_block (hg.block p h.H.plt (by simpa using h.d3))]; exact h.fr, h.ty.grown hg h.d3, h.d1, h.d2, h.d3, h.d4, h.d5, h.d6, h.b1, h.b2, h.b3, h.b4⟩, Chg3.of_grown hg (.inr (.inr rfl))⟩
theorem FormO.mono {w : World} {B p gH gU gW r c k : Nat} {hs us ws : List Int} {L M : Nat} (h : FormO w B p gH gU gW r c k hs us ws L) (hLM : L ≤ M) : FormO w B p gH gU gW r c k hs us ws M :=
 ⟨h.H.mono hLM, h.U.mono hLM, h.W.mono hLM, h.rk, h.fr, h.ty, h.d1, h.d2, h.d3, h.d4, h.d5, h.d6, h.b1, h.b2, h.b3, h.b4⟩
theorem FormO.fit {w : World} {B p gH gU gW r c k : Nat} {hs us ws : List Int} {L K : Nat} (h : FormO w B p gH gU gW r c k hs us ws L) (h1 : ∀ i j, i < r → j < c → (ent c hs i j).natAbs < 4294967296 ^ K) (h2 : ∀ i j, i < r → j < r → (ent r us i j).natAbs < 4294967296 ^ K) (h3 : ∀ i j, i < r → j < r → (ent r ws i j).natAbs < 4294967296 ^ K) : FormO w B p gH gU gW r c k hs us ws K :=
 ⟨h.H.fit h1, h.U.fit h2, h.W.fit h3, h.rk, h.fr, h.ty, h.d1, h.d2, h.d3, h.d4, h.d5, h.d6, h.b1, h.b2, h.b3, h.b4⟩
theorem FormO.below {w w' : World} {B p gH gU gW r c k : Nat} {hs us ws : List Int} {L : Nat} (h : FormO w B p gH gU gW r c k hs us ws L) (hc : Chg3 w w' gH gU gW) : Below B w w' := hc.below h.b1 h.b2 h.b3 h.ble
theorem FormO.ku {w w' : World} {B p gH gU gW r c k : Nat} {hs us ws : List Int} {L : Nat} (h : FormO w B p gH gU gW r c k hs us ws L) (hc : Chg3 w w' gH gU gW) : KU w w' := by
 intro b arr hb
 have hb1 := (Array.getElem?_eq_some_iff.1 hb).1
 have key : ∀ g, Ty w g 79 → b ≠ g := by
  intro g hg e
  subst e
  obtain ⟨cc, fr, h2⟩ := hg
  rw [hb] at h2
  simp only [Option.some.injEq, Obj.cells.injEq] at h2
  exact absurd h2.2.1 (by decide)
 rw [hc.block b hb1 (key _ h.H.grid.ty) (key _ h.U.grid.ty) (key _ h.W.grid.ty)]
 exact hb
theorem FormO.rank {w : World} {B p gH gU gW r c k : Nat} {hs us ws : List Int} {L : Nat} (h : FormO w B p gH gU gW r c k hs us ws L) (m : Nat) {z : Int} (hz : z = (m : Int)) : FormO (w.setCell ⟨p, 9, none⟩ (.int .i64 z)) B p gH gU gW r c m hs us ws L ∧ Below B w (w.setCell ⟨p, 9, none⟩ (.int .i64 z)) := by
 subst hz
 have hk : KU w (w.setCell ⟨p, 9, none⟩ (.int .i64 m)) := KU.setCell (KU.refl _) h.ty (by decide) _
 refine ⟨⟨h.H.beside h.d1 (by omega) hk, h.U.beside h.d2 (by omega) hk, h.W.beside h.d3 (by omega) hk, ?_, by rw [World.frozen?_setCell]; exact h.fr, h.ty.setCell _ _, h.d1, h.d2, h.d3, h.d4, h.d5, h.d6, h.b1, h.b2, h.b3, h.b4⟩, (Below.refl B w).setCell h.b4 _⟩
 exact World.cell?_setCell_same _ _ _ h.rk
def FormS (w w' : World) (B p gH gU gW r c k : Nat) (fH fU fW : Nat → Nat → Int) (L : Nat) : Prop :=
 ∃ hs us ws, FormO w' B p gH gU gW r c k hs us ws L ∧ Chg3 w w' gH gU gW ∧ (∀ i j, i < r → j < c → ent c hs i j = fH i j) ∧ (∀ i j, i < r → j < r → ent r us i j = fU i j) ∧ (∀ i j, i < r → j < r → ent r ws i j = fW i j)
set_option maxRecDepth 100000 in
set_option maxHeartbeats 1000000 in
theorem fswap_any (B p gH gU gW r c k a b : Nat) (hs us ws : List Int) (L : Nat) (w : World) (h : FormO w B p gH gU gW r c k hs us ws L) (ha : a < r) (hb : b < r) :
 Calls Tryz.prog 94 #[.pointer (some ⟨p, 0, none⟩), .int .i64 a, .int .i64 b] w fun e w' => e = .returned (.tuple #[]) ∧ FormS w w' B p gH gU gW r c k (fun i j => ent c hs (swq a b i) j) (fun i j => ent r us (swq a b i) j) (fun i j => ent r ws i (swq a b j)) L := by
 have F := Hid.mk h
 clear h
 go_enter Tryz.func94, Tryz.ntmps94
 go_wp2_with fail
 refine (swapRows_any p 0 gH r c a b hs L _ F.out.H F.out.d1 ha hb).mono ?_
 rintro e w1 ⟨rfl, ⟨hs1, hM1, hf1⟩, hg1⟩
 obtain ⟨F1, b1⟩ := F.out.setH hM1 hg1
 have K1 := Hid.mk (And.intro F1 (And.intro b1 hf1))
 clear hM1 hf1 hg1 F1 b1
 go_wp2_with fail
 refine (swapRows_any p 3 gU r r a b us L _ K1.out.1.U F.out.d2 ha hb).mono ?_
 rintro e w2 ⟨rfl, ⟨us1, hM2, hf2⟩, hg2⟩
 obtain ⟨F2, b2⟩ := K1.out.1.setU hM2 hg2
 have K2 := Hid.mk (And.intro F2 (And.intro (K1.out.2.1.trans b2) hf2))
 clear hM2 hf2 hg2 F2 b2
 go_wp2_with fail
 refine (swapCols_any p 6 gW r r a b ws L _ K2.out.1.W F.out.d3 ha hb).mono ?_
 rintro e w3 ⟨rfl, ⟨ws1, hM3, hf3⟩, hg3⟩
 obtain ⟨F3, b3⟩ := K2.out.1.setW hM3 hg3
 have K3 := Hid.mk (And.intro F3 (And.intro (K2.out.2.1.trans b3) hf3))
 clear hM3 hf3 hg3 F3 b3
 go_wp2_with fail
 go_end0
 exact ⟨rfl, hs1, us1, ws1, K3.out.1, K3.out.2.1, K1.out.2.2, K2.out.2.2, K3.out.2.2⟩
set_option maxRecDepth 100000 in
set_option maxHeartbeats 1000000 in
theorem fturn_any (B p gH gU gW r c k a : Nat) (hs us ws : List Int) (L : Nat) (w : World) (h : FormO w B p gH gU gW r c k hs us ws L) (ha : a < r) :
 Calls Tryz.prog 97 #[.pointer (some ⟨p, 0, none⟩), .int .i64 a] w fun e w' => e = .returned (.tuple #[]) ∧ FormS w w' B p gH gU gW r c k (fun i j => if i = a then -ent c hs i j else ent c hs i j) (fun i j => if i = a then -ent r us i j else ent r us i j) (fun i j => if j = a then -ent r ws i j else ent r ws i j) L := by
 have F := Hid.mk h
 clear h
 have P : ∀ w' (hs1 us1 ws1 : List Int), FormO w' B p gH gU gW r c k hs1 us1 ws1 L → Chg3 w w' gH gU gW → (∀ i j, i < r → j < c → ent c hs1 i j = if i = a then -ent c hs i j else ent c hs i j) → (∀ i j, i < r → j < r → ent r us1 i j = if i = a then -ent r us i j else ent r us i j) → (∀ i j, i < r → j < r → ent r ws1 i j = if j = a then -ent r ws i j else ent r ws i j) → FormS w w' B p gH gU gW r c k (fun i j => if i = a then -ent c hs i j else ent c hs i j) (fun i j => if i = a then -ent r us i j else ent r us i j) (fun i j => if j = a then -ent r ws i j else ent r ws i j) L := fun w' hs1 us1 ws1 x1 x2 x3 x4 x5 => ⟨hs1, us1, ws1, x1, x2, x3, x4, x5⟩
 generalize FormS w = Z at P ⊢
 have HP := Hid.mk P
 clear P
 generalize (fun i j => if i = a then -ent c hs i j else ent c hs i j) = fH at HP ⊢
 generalize (fun i j => if i = a then -ent r us i j else ent r us i j) = fU at HP ⊢
 generalize (fun i j => if j = a then -ent r ws i j else ent r ws i j) = fW at HP ⊢
 go_enter Tryz.func97, Tryz.ntmps97
 go_wp2_with fail
 refine (turnRow_any p 0 gH r c a hs L _ F.out.H F.out.d1 ha).mono ?_
 rintro e w1 ⟨rfl, ⟨hs1, hM1, hf1⟩, hg1⟩
 obtain ⟨F1, b1⟩ := F.out.setH hM1 hg1
 have K1 := Hid.mk (And.intro F1 (And.intro b1 hf1))
 clear hM1 hf1 hg1 F1 b1
 go_wp2_with fail
 refine (turnRow_any p 3 gU r r a us L _ K1.out.1.U F.out.d2 ha).mono ?_
 rintro e w2 ⟨rfl, ⟨us1, hM2, hf2⟩, hg2⟩
 obtain ⟨F2, b2⟩ := K1.out.1.setU hM2 hg2
 have K2 := Hid.mk (And.intro F2 (And.intro (K1.out.2.1.trans b2) hf2))
 clear hM2 hf2 hg2 F2 b2
 go_wp2_with fail
 refine (turnCol_any p 6 gW r r a ws L _ K2.out.1.W F.out.d3 ha).mono ?_
 rintro e w3 ⟨rfl, ⟨ws1, hM3, hf3⟩, hg3⟩
 obtain ⟨F3, b3⟩ := K2.out.1.setW hM3 hg3
 have K3 := Hid.mk (And.intro F3 (And.intro (K2.out.2.1.trans b3) hf3))
 clear hM3 hf3 hg3 F3 b3
 go_wp2_with fail
 go_end0
 exact ⟨rfl, HP.out _ hs1 us1 ws1 K3.out.1 K3.out.2.1 K1.out.2.2 K2.out.2.2 K3.out.2.2⟩
open Go.RowKit
def LeastIs (f : Nat → Int) (from_ n : Nat) (z : Int) : Prop := (∃ i, from_ ≤ i ∧ i < n ∧ z = (i : Int) ∧ f i ≠ 0 ∧ (∀ k, from_ ≤ k → k < n → f k ≠ 0 → (f i).natAbs ≤ (f k).natAbs) ∧ ∀ k, from_ ≤ k → k < i → f k ≠ 0 → (f i).natAbs < (f k).natAbs) ∨ (z = -1 ∧ ∀ k, from_ ≤ k → k < n → f k = 0)
theorem LeastIs.skip {f : Nat → Int} {from_ n : Nat} {z : Int} (h : LeastIs f from_ n z) (h0 : f n = 0) : LeastIs f from_ (n + 1) z := by
 rcases h with ⟨i, h1, h2, h3, h4, h5, h6⟩ | ⟨h1, h2⟩
 ·refine .inl ⟨i, h1, by omega, h3, h4, fun k a b d => ?_, h6⟩
  by_cases hk : k = n
  ·subst hk; exact absurd h0 d
  ·exact h5 k a (by omega) d
 ·refine .inr ⟨h1, fun k a b => ?_⟩
  by_cases hk : k = n
  ·subst hk; exact h0
  ·exact h2 k a (by omega)
theorem LeastIs.first {f : Nat → Int} {from_ n : Nat} (hn : from_ ≤ n) (h : LeastIs f from_ n (-1)) (h0 : f n ≠ 0) : LeastIs f from_ (n + 1) n := by
 rcases h with ⟨i, h1, h2, h3, h4, h5, h6⟩ | ⟨-, h2⟩
 ·omega
 ·refine .inl ⟨n, hn, by omega, rfl, h0, fun k a b d => ?_, fun k a b d => absurd (h2 k a b) d⟩
  by_cases hk : k = n
  ·subst hk; exact Nat.le_refl _
  ·exact absurd (h2 k a (by omega)) d
theorem LeastIs.less {f : Nat → Int} {from_ n i : Nat} (hn : from_ ≤ n) (h : LeastIs f from_ n i) (h0 : f n ≠ 0) (hl : (f n).natAbs < (f i).natAbs) : LeastIs f from_ (n + 1) n := by
 rcases h with ⟨i', h1, h2, h3, h4, h5, h6⟩ | ⟨h1, -⟩
 ·have e : i' = i := by omega
  subst e
  refine .inl ⟨n, hn, by omega, rfl, h0, fun k a b d => ?_, fun k a b d => ?_⟩
  ·by_cases hk : k = n
   ·subst hk; exact Nat.le_refl _
   ·have := h5 k a (by omega) d; omega
  ·have := h5 k a b d; omega
 ·omega
theorem LeastIs.more {f : Nat → Int} {from_ n i : Nat} (h : LeastIs f from_ n i) (hl : ¬ (f n).natAbs < (f i).natAbs) : LeastIs f from_ (n + 1) i := by
 rcases h with ⟨i', h1, h2, h3, h4, h5, h6⟩ | ⟨h1, -⟩
 ·have e : i' = i := by omega
  subst e
  refine .inl ⟨i', h1, by omega, rfl, h4, fun k a b d => ?_, h6⟩
  by_cases hk : k = n
  ·subst hk; omega
  ·exact h5 k a (by omega) d
 ·omega
set_option maxRecDepth 100000 in
set_option maxHeartbeats 2000000 in
theorem leastIn_any (v : Value) (r c col from_ : Nat) (zs : List Int) (L : Nat) (w : World) (hm : IsM w v r c zs L) (hcol : col < c) (hf : from_ ≤ r) :
 Calls Tryz.prog 93 #[v, .int .i64 col, .int .i64 from_] w fun e w' => ∃ z : Int, e = .returned (.int .i64 z) ∧ LeastIs (fun i => ent c zs i col) from_ r z ∧ Below w.heap.size w w' := by
 have HM := Hid.mk hm
 obtain ⟨hr, hc, sl, rfl, hg0⟩ := hm
 obtain ⟨ao, cap, rfl, -⟩ := hg0.shape
 clear hg0
 obtain ⟨N, hN⟩ : ∃ N, N = r * c := ⟨_, rfl⟩
 rw [← hN] at HM ⊢
 clear hN
 go_enter Tryz.func93, Tryz.ntmps93
 go_wp2_with fail
 obtain ⟨W0, hW0⟩ : ∃ W0, W0 = w.alloc (.cells #[.int .i64 r, .int .i64 c, .slice ao N cap] 66) := ⟨_, rfl⟩
 have hb0 : Below w.heap.size w W0 := by rw [hW0]; exact (Below.refl _ _).alloc (Nat.le_refl _) _
 have hm0 : Trio W0 w.heap.size (.int .i64 r) (.int .i64 c) (.slice ao N cap) := by rw [hW0]; exact ⟨new_cell _ _ _ _ _ rfl rfl, new_cell _ _ _ _ _ rfl rfl, new_cell _ _ _ _ _ rfl rfl⟩
 have hz0 : W0.heap.size = w.heap.size + 1 := by rw [hW0]; simp
 rw [← hW0]
 have F := Hid.mk (And.intro hm0 hb0)
 clear hm0 hb0 hW0
 go_loopw [7, 8] (fun l i wr => ∃ (k : Nat) (z : Int), from_ ≤ k ∧ k ≤ r ∧ i = .int .i64 k ∧ l = .int .i64 z ∧ Hid (Below W0.heap.size W0 wr ∧ LeastIs (fun i => ent c zs i col) from_ k z)) (fun _ i _ => r - (intOf i).toNat)
 case atStart => exact ⟨from_, -1, Nat.le_refl _, hf, rfl, rfl, Hid.mk ⟨Below.refl _ _, .inr ⟨rfl, fun k a b => by omega⟩⟩⟩
 case round =>
  obtain ⟨k, z, hk1, hk2, rfl, rfl, HI⟩ := hrel
  have hbw : Below w.heap.size w wr := F.out.2.trans (HI.out.1.mono (by omega))
  obtain ⟨q0, q1, q2⟩ := F.out.1.later HI.out.1
  have hwr := HI.out.1.size
  have K := Hid.mk hbw
  clear hbw
  by_cases hkr : k < r
  ·have hki : (k : Int) < (r : Int) := by omega
   go_wp2_with fail
   refine (at_in _ r c k col zs L _ (HM.out.below K.out) hkr hcol).mono ?_
   rintro e w4 ⟨x, rfl, hx, hb4⟩
   obtain ⟨nb, so, n, ecap, rfl⟩ := hx.shape
   have hw4 := hb4.size
   have hb44 := (Below.refl w4.heap.size w4).alloc (Nat.le_refl _) (.cells #[.bool nb, .slice so n ecap] 79)
   have hD4 := Duo.new w4 (.bool nb) (.slice so n ecap) rfl
   obtain ⟨W4, hW4⟩ : ∃ W4, W4 = w4.alloc (.cells #[.bool nb, .slice so n ecap] 79) := ⟨_, rfl⟩
   have hs4 : W4.heap.size = w4.heap.size + 1 := by rw [hW4]; simp
   rw [← hW4] at hb44 hD4
   have K4 := Hid.mk (And.intro (hx.below hb44) (And.intro (hb4.trans (hb44.mono hw4)) (And.intro hD4 hW4)))
   clear hx hb4 hb44 hD4 hW4 q0 q1 q2
   go_wp2_with fail
   rw [← K4.out.2.2.2]
   refine (isZero_any _ (zs.getD (k * c + col) 0) L _ K4.out.1).mono ?_
   rintro e w5 ⟨rfl, hb5⟩
   have hbr5 : Below wr.heap.size wr w5 := K4.out.2.1.trans (hb5.mono (by omega))
   have hw5 := hb5.size
   have K5 := Hid.mk (And.intro (HI.out.1.trans (hbr5.mono hwr)) (And.intro (K.out.trans (hbr5.mono (by omega))) (And.intro (K4.out.1.below hb5) (K4.out.2.2.1.below hb5 (by omega)))))
   clear hb5 hbr5
   by_cases hz : zs.getD (k * c + col) 0 = 0
   ·have HZ := Hid.mk hz
    have hd : decide (zs.getD (k * c + col) 0 = 0) = true := decide_eq_true hz
    rw [hd]
    clear hz hd
    go_wp2_with fail
    go_roundw
    case measure => simp [intOf]; omega
    case rel => exact ⟨k + 1, z, by omega, by omega, by go_num, rfl, Hid.mk ⟨K5.out.1, HI.out.2.skip HZ.out⟩⟩
   ·have HZ := Hid.mk hz
    have hd : decide (zs.getD (k * c + col) 0 = 0) = false := decide_eq_false hz
    rw [hd]
    clear hz hd
    by_cases hz0 : z < 0
    ·have hz1 : z = -1 := by rcases HI.out.2 with ⟨i, _, _, h, _⟩ | ⟨h, _⟩ <;> omega
     subst hz1
     clear hz0
     go_wp2_with fail
     go_quiet (fail)
     all_goals
      go_wp2_with fail
      go_roundw
      case measure => simp [intOf]; omega
      case rel => exact ⟨k + 1, k, by omega, by omega, by go_num, rfl, Hid.mk ⟨below_drewN K5.out.1 _, HI.out.2.first hk1 HZ.out⟩⟩
    ·obtain ⟨i, rfl⟩ := Int.eq_ofNat_of_zero_le (show 0 ≤ z by omega)
     have hi1 : from_ ≤ i ∧ i < k := by rcases HI.out.2 with ⟨i', a, b, h, _⟩ | ⟨h, _⟩ <;> omega
     obtain ⟨hi1, hi2⟩ := hi1
     have hir : i < r := by omega
     have HC1 := Hid.mk (show ∀ w', Below w5.heap.size w5 w' → w'.cell? ⟨w.heap.size, 0, none⟩ = some (.int .i64 r) ∧ w'.cell? ⟨w.heap.size, 1, none⟩ = some (.int .i64 c) ∧ w'.cell? ⟨w.heap.size, 2, none⟩ = some (.slice ao N cap) ∧ w'.cell? ⟨w4.heap.size, 0, none⟩ = some (.bool nb) ∧ w'.cell? ⟨w4.heap.size, 1, none⟩ = some (.slice so n ecap) from
      fun w' hb => ⟨((F.out.1.later K5.out.1).later hb).1, ((F.out.1.later K5.out.1).later hb).2.1, ((F.out.1.later K5.out.1).later hb).2.2, cell_later hb K5.out.2.2.2.cells.1, cell_later hb K5.out.2.2.2.cells.2.1⟩)
     have hz2 : ¬ ((i : Int) < 0) := by omega
     obtain ⟨D, hD⟩ : ∃ D, D = decide ((zs.getD (k * c + col) 0).natAbs < (zs.getD (i * c + col) 0).natAbs) := ⟨_, rfl⟩
     have HD := Hid.mk hD
     clear hD
     go_wp2_with fail
     go_region_held3 (fun w' => w'.cell? ⟨w.heap.size, 0, none⟩ = some (.int .i64 r) ∧ w'.cell? ⟨w.heap.size, 1, none⟩ = some (.int .i64 c) ∧ w'.cell? ⟨w.heap.size, 2, none⟩ = some (.slice ao N cap) ∧ w'.cell? ⟨w4.heap.size, 0, none⟩ = some (.bool nb) ∧ w'.cell? ⟨w4.heap.size, 1, none⟩ = some (.slice so n ecap))
      (exact HC1.out _ (by first | exact hbW7 | exact hbW6 | exact (Below.refl _ _).drew))
      (first
        | (go_at_call 64; refine (at_in _ r c i col zs L _ (HM.out.below (K5.out.2.1.drew)) hir hcol).mono ?_; rintro e9 w6 ⟨x6, rfl, hx6, hb6⟩; obtain ⟨nb6, so6, n6, cp6, rfl⟩ := hx6.shape; have hbW6 : Below w5.heap.size w5 w6 := ((Below.refl _ _).drew).trans hb6; clear hb6)
        | (go_at_call 132; refine (isSmaller_any _ _ (zs.getD (k * c + col) 0) (zs.getD (i * c + col) 0) L L _ (K5.out.2.2.1.below hbW6) hx6).mono ?_; rintro e9 w7 ⟨rfl, hb7⟩; rw [← HD.out]; have hbW7 : Below w5.heap.size w5 w7 := hbW6.trans (hb7.mono hbW6.size); clear hb7))
     have hzf : decide ((i : Int) < 0) = false := decide_eq_false (by omega)
     simp only [hzf]
     have K7 := Hid.mk (K5.out.1.trans (hbW7.mono (by omega)))
     clear hbW7 hbW6 hx6
     cases hD : D
     case true =>
      have HL := Hid.mk (of_decide_eq_true (HD.out.symm.trans hD))
      clear hD HD
      go_wp2_with fail
      go_roundw
      case measure => simp [intOf]; omega
      case rel => exact ⟨k + 1, k, by omega, by omega, by go_num, rfl, Hid.mk ⟨K7.out, HI.out.2.less hk1 HZ.out HL.out⟩⟩
     case false =>
      have HL := Hid.mk (of_decide_eq_false (HD.out.symm.trans hD))
      clear hD HD
      go_wp2_with fail
      go_roundw
      case measure => simp [intOf]; omega
      case rel => exact ⟨k + 1, i, by omega, by omega, by go_num, rfl, Hid.mk ⟨K7.out, HI.out.2.more HL.out⟩⟩
  ·have hki : ¬ (k : Int) < (r : Int) := by omega
   have hkk : k = r := by omega
   have HKK := Hid.mk hkk
   clear hkk
   go_wp2_with fail
   go_ret
   refine ⟨_, rfl, ?_, K.out⟩
   have h := HI.out.2
   rw [HKK.out] at h
   exact h
end Go.Proofs.YtfjbijpagaipnabGreatDoor
