import Derived.Test.YtfjbijpagaipnabGreatDoorR24
import Derived.Test.YtfjbijpagaipnabGreatDoorR27
import Derived.Deep.LoopGhost
import Derived.Test.YtfjbijpagaipnabGreatDoorR08
import Derived.Test.YtfjbijpagaipnabGreatDoorR14
namespace Go.Proofs.YtfjbijpagaipnabGreatDoor
def sm (f : Nat → Int) : Nat → Int
 | 0 => 0
 | t + 1 => sm f t + f t
theorem dot_sm (f g : Nat → Nat → Int) (i j t : Nat) : dot f g i j t = sm (fun k => f i k * g k j) t := by
 induction t with
 | zero => rfl
 | succ t ih => rw [dot, sm, ih]
theorem sm_congr {f g : Nat → Int} (t : Nat) (h : ∀ k, k < t → f k = g k) : sm f t = sm g t := by
 induction t with
 | zero => rfl
 | succ t ih => rw [sm, sm, ih (fun k hk => h k (by omega)), h t (by omega)]
theorem sm_lin (a b : Int) (f g : Nat → Int) (t : Nat) : sm (fun k => a * f k + b * g k) t = a * sm f t + b * sm g t := by
 induction t with
 | zero => simp [sm]
 | succ t ih => rw [sm, sm, sm, ih]; grind
theorem sm_zero {f : Nat → Int} (t : Nat) (h : ∀ k, k < t → f k = 0) : sm f t = 0 := by
 induction t with
 | zero => rfl
 | succ t ih => rw [sm, ih (fun k hk => h k (by omega)), h t (by omega)]; rfl
theorem sm_one {f : Nat → Int} (t a : Nat) (ha : a < t) (h : ∀ k, k < t → k ≠ a → f k = 0) : sm f t = f a := by
 induction t with
 | zero => omega
 | succ t ih =>
   rw [sm]
   by_cases hat : a = t
   ·subst hat
    rw [sm_zero a (fun k hk => h k (by omega) (by omega))]; omega
   ·rw [ih (by omega) (fun k hk hne => h k (by omega) hne), h t (by omega) (fun e => hat e.symm)]; omega
theorem sm_sub (f g : Nat → Int) (t : Nat) : sm f t - sm g t = sm (fun k => f k - g k) t := by
 induction t with
 | zero => rfl
 | succ t ih => rw [sm, sm, sm, ← ih]; omega
def kd (i j : Nat) : Int := if i = j then 1 else 0
def swq (a b i : Nat) : Nat := if i = a then b else if i = b then a else i
theorem swq_lt {a b i r : Nat} (ha : a < r) (hb : b < r) (hi : i < r) : swq a b i < r := by unfold swq; split <;> (try split) <;> omega
theorem sm_take (u v x : Nat → Int) (z : Int) (r : Nat) : sm (fun k => (u k - v k * z) * x k) r = sm (fun k => u k * x k) r - z * sm (fun k => v k * x k) r := by
 induction r with
 | zero => simp [sm]
 | succ r ih => rw [sm, sm, sm, ih]; grind
open Go.RowKit
theorem IsI.fit {w : World} {v : Value} {z : Int} {L K : Nat} (h : IsI w v z L) (hz : z.natAbs < 4294967296 ^ K) : IsI w v z K := by
 obtain ⟨sl, xs, h1, h2, h3, h4, h5⟩ := h
 refine ⟨sl, xs, h1, h2, h3, ?_, h5⟩
 rcases Nat.lt_or_ge K xs.length with hk | hk
 ·have := Lim_ge h2 (by rintro rfl; simp at hk)
  have : 4294967296 ^ K ≤ 4294967296 ^ (xs.length - 1) := Nat.pow_le_pow_right (by decide) (by omega)
  omega
 ·exact hk
theorem Ty.grown {w w' : World} {b g : Nat} {t : TypeId} (h : Ty w b t) (hg : w.grownBy w' (some g)) (hne : b ≠ g) : Ty w' b t := by
 obtain ⟨c, fr, h⟩ := h
 exact ⟨c, fr, by rw [hg.block b (Array.getElem?_eq_some_iff.1 h).1 (by simpa using hne)]; exact h⟩
theorem grown_cell (w : World) (b o : Nat) (v : Value) : w.grownBy (w.setCell ⟨b, o, none⟩ v) (some b) :=
 ⟨rfl, rfl, rfl, by simp [World.setCell], fun k _ hne => Below.heap_setCell _ _ _ _ (fun e => hne (by simp [e]))⟩
structure Chg3 (w w' : World) (g1 g2 g3 : Nat) : Prop where
 os : w'.os = w.os
 tape : w'.tape = w.tape
 output : w'.output = w.output
 size : w.heap.size ≤ w'.heap.size
 block : ∀ k, k < w.heap.size → k ≠ g1 → k ≠ g2 → k ≠ g3 → w'.heap[k]? = w.heap[k]?
theorem Chg3.refl (w : World) (g1 g2 g3 : Nat) : Chg3 w w g1 g2 g3 := ⟨rfl, rfl, rfl, Nat.le_refl _, fun _ _ _ _ _ => rfl⟩
theorem Chg3.trans {a b d : World} {g1 g2 g3 : Nat} (h : Chg3 a b g1 g2 g3) (k : Chg3 b d g1 g2 g3) : Chg3 a d g1 g2 g3 :=
 ⟨k.os.trans h.os, k.tape.trans h.tape, k.output.trans h.output, Nat.le_trans h.size k.size, fun i hi h1 h2 h3 => (k.block i (Nat.lt_of_lt_of_le hi h.size) h1 h2 h3).trans (h.block i hi h1 h2 h3)⟩
theorem Chg3.of_below {w w' : World} (g1 g2 g3 : Nat) (h : Below w.heap.size w w') : Chg3 w w' g1 g2 g3 := ⟨h.os, h.tape, h.output, h.size, fun k hk _ _ _ => h.block k hk⟩
theorem Chg3.of_grown {w w' : World} {g g1 g2 g3 : Nat} (h : w.grownBy w' (some g)) (hg : g = g1 ∨ g = g2 ∨ g = g3) : Chg3 w w' g1 g2 g3 :=
 ⟨h.os, h.tape, h.output, h.size, fun k hk h1 h2 h3 => h.block k hk (fun e => by injection e with e; omega)⟩
theorem Chg3.below {w w' : World} {g1 g2 g3 B : Nat} (h : Chg3 w w' g1 g2 g3) (b1 : B ≤ g1) (b2 : B ≤ g2) (b3 : B ≤ g3) (hB : B ≤ w.heap.size) : Below B w w' :=
 ⟨h.os, h.tape, h.output, h.size, fun k hk => h.block k (by omega) (by omega) (by omega) (by omega)⟩
theorem below_of_grown {w w' : World} {g B : Nat} (h : w.grownBy w' (some g)) (hB : B ≤ g) (hs : B ≤ w.heap.size) : Below B w w' :=
 (Below.refl B w).grown h hs (fun j hj => by simp at hj; omega)
open Go.RowKit
def PivIs (f : Nat → Int) (n : Nat) (z : Int) : Prop := (∃ i, i < n ∧ z = (i : Int) ∧ f i ≠ 0 ∧ ∀ k, k < i → f k = 0) ∨ (z = -1 ∧ ∀ k, k < n → f k = 0)
set_option maxRecDepth 100000 in
set_option maxHeartbeats 2000000 in
theorem pivotOf_any (v : Value) (r c row : Nat) (zs : List Int) (L : Nat) (w : World) (hm : IsM w v r c zs L) (hrow : row < r) :
 Calls Tryz.prog 124 #[v, .int .i64 row] w fun e w' => ∃ z : Int, e = .returned (.int .i64 z) ∧ PivIs (fun j => ent c zs row j) c z ∧ Below w.heap.size w w' := by
 have HM := Hid.mk hm
 obtain ⟨hr, hc, sl, rfl, hg0⟩ := hm
 obtain ⟨ao, cap, rfl, -⟩ := hg0.shape
 clear hg0
 obtain ⟨N, hN⟩ : ∃ N, N = r * c := ⟨_, rfl⟩
 rw [← hN] at HM ⊢
 clear hN
 go_enter Tryz.func124, Tryz.ntmps124
 go_wp2_with fail
 obtain ⟨W0, hW0⟩ : ∃ W0, W0 = w.alloc (.cells #[.int .i64 r, .int .i64 c, .slice ao N cap] 66) := ⟨_, rfl⟩
 have hb0 : Below w.heap.size w W0 := by rw [hW0]; exact (Below.refl _ _).alloc (Nat.le_refl _) _
 have hm0 : Trio W0 w.heap.size (.int .i64 r) (.int .i64 c) (.slice ao N cap) := by rw [hW0]; exact ⟨new_cell _ _ _ _ _ rfl rfl, new_cell _ _ _ _ _ rfl rfl, new_cell _ _ _ _ _ rfl rfl⟩
 have hz0 : W0.heap.size = w.heap.size + 1 := by rw [hW0]; simp
 rw [← hW0]
 have F := Hid.mk (And.intro hm0 hb0)
 clear hm0 hb0 hW0
 go_loopw [5] (fun i wr => ∃ k : Nat, k ≤ c ∧ i = .int .i64 k ∧ Hid (Below W0.heap.size W0 wr ∧ ∀ i, i < k → ent c zs row i = 0)) (fun i _ => c - (intOf i).toNat)
 case atStart => exact ⟨0, Nat.zero_le _, rfl, Hid.mk ⟨Below.refl _ _, fun i h2 => by omega⟩⟩
 case round =>
  obtain ⟨k, hk2, rfl, HI⟩ := hrel
  have hbw : Below w.heap.size w wr := F.out.2.trans (HI.out.1.mono (by omega))
  obtain ⟨q0, q1, q2⟩ := F.out.1.later HI.out.1
  have hwr := HI.out.1.size
  have K := Hid.mk hbw
  clear hbw
  by_cases hkr : k < c
  ·have hki : (k : Int) < (c : Int) := by omega
   go_wp2_with fail
   refine (at_in _ r c row k zs L _ (HM.out.below K.out) hrow hkr).mono ?_
   rintro e w4 ⟨x, rfl, hx, hb4⟩
   obtain ⟨nb, so, n, ecap, rfl⟩ := hx.shape
   have K4 := Hid.mk (And.intro hx hb4)
   have hw4 := hb4.size
   clear hx hb4
   go_wp2_with fail
   refine (isZero_any _ (zs.getD (row * c + k) 0) L _ K4.out.1).mono ?_
   rintro e w5 ⟨rfl, hb5⟩
   have hbr5 : Below wr.heap.size wr w5 := K4.out.2.trans (hb5.mono hw4)
   have K5 := Hid.mk (And.intro (HI.out.1.trans (hbr5.mono hwr)) (K.out.trans (hbr5.mono (by omega))))
   clear hb5 hbr5
   by_cases hz : zs.getD (row * c + k) 0 = 0
   ·have HZ := Hid.mk hz
    have hd : decide (zs.getD (row * c + k) 0 = 0) = true := decide_eq_true hz
    rw [hd]
    clear hz hd
    go_wp2_with fail
    go_roundw
    case measure => simp [intOf]; omega
    case rel =>
     refine ⟨k + 1, by omega, by go_num, Hid.mk ⟨K5.out.1, fun i h2 => ?_⟩⟩
     by_cases hik : i = k
     ·rw [hik]; exact HZ.out
     ·exact HI.out.2 i (by omega)
   ·have HZ := Hid.mk hz
    have hd : decide (zs.getD (row * c + k) 0 = 0) = false := decide_eq_false hz
    rw [hd]
    clear hz hd
    go_wp2_with fail
    go_ret
    exact ⟨_, rfl, .inl ⟨k, hkr, rfl, HZ.out, HI.out.2⟩, K5.out.2⟩
  ·have hki : ¬ (k : Int) < (c : Int) := by omega
   go_wp2_with fail
   go_ret
   exact ⟨_, rfl, .inr ⟨rfl, fun i h2 => HI.out.2 i (by omega)⟩, K.out⟩
open Go.RowKit
def tkR (f : Nat → Nat → Int) (a b : Nat) (z : Int) (i j : Nat) : Int := if i = a then f a j - f b j * z else f i j
open Go.RowKit
open Go.RowKit
open Go.RowKit
def Free (w : World) (b : Nat) : Prop := b < w.heap.size ∧ ∀ o, w.frozen? ⟨b, o, none⟩ = false
theorem Free.new (w : World) (c : Array Value) (t : TypeId) : Free (w.alloc (.cells c t)) w.heap.size := ⟨by simp, fun _ => World.frozen?_alloc_new _ _ _ _⟩
theorem Free.below {w w' : World} {b : Nat} (h : Free w b) (hb : Below w.heap.size w w') : Free w' b := ⟨Nat.lt_of_lt_of_le h.1 hb.size, fun o => by rw [hb.frozen (p := ⟨b, o, none⟩) h.1]; exact h.2 o⟩
theorem Free.grown {w w' : World} {b g : Nat} (h : Free w b) (hg : w.grownBy w' (some g)) (hne : b ≠ g) : Free w' b := ⟨Nat.lt_of_lt_of_le h.1 hg.size, fun o => by rw [World.frozen?_of_block (hg.block b h.1 (by simpa using hne))]; exact h.2 o⟩
theorem ent_zeros (r c i j : Nat) : ent c (List.replicate (r * c) 0) i j = 0 := by
 unfold ent
 simp only [List.getD, List.getElem?_replicate]
 split <;> rfl
set_option maxRecDepth 100000 in
set_option maxHeartbeats 2000000 in
theorem unit_any (r : Nat) (w : World) (hr : r ≤ 99) :
 Calls Tryz.prog 60 #[.int .i64 r] w fun e w' => ∃ g zs, e = .returned (.agg #[.int .i64 r, .int .i64 r, .slice (some ⟨g, 0, none⟩) (r * r) (r * r)]) ∧ w.heap.size ≤ g ∧ Grid w' (.slice (some ⟨g, 0, none⟩) (r * r) (r * r)) (r * r) zs 1 ∧ (∀ i j, i < r → j < r → ent r zs i j = kd i j) ∧ Below w.heap.size w w' := by
 go_enter Tryz.func60, Tryz.ntmps60
 go_wp2_with fail
 have hb0 := (Below.refl w.heap.size w).alloc (Nat.le_refl _) (.cells #[.int .i64 0, .int .i64 0, .slice none 0 0] 66)
 have hT0 : Tri (w.alloc (.cells #[.int .i64 0, .int .i64 0, .slice none 0 0] 66)) w.heap.size 0 (.int .i64 0) (.int .i64 0) (.slice none 0 0) := ⟨new_cell _ _ _ _ _ rfl rfl, new_cell _ _ _ _ _ rfl rfl, new_cell _ _ _ _ _ rfl rfl⟩
 have hY0 := And.intro (Ty.new w #[.int .i64 0, .int .i64 0, .slice none 0 0] 66) (Free.new w #[.int .i64 0, .int .i64 0, .slice none 0 0] 66)
 refine (noughts_any r r _ hr hr).mono ?_
 rintro e w1 ⟨g, rfl, hg1, hG1, hb1⟩
 have hgn : w.heap.size + 1 ≤ g := by simpa using hg1
 have hgl : g < w1.heap.size := hG1.ty.lt
 have hbw1 : Below w.heap.size w w1 := hb0.trans (hb1.mono hb0.size)
 have hw1 : w.heap.size + 1 ≤ w1.heap.size := by have := hb1.size; simpa using this
 have hT1 := hT0.later hb1
 have hY1 := And.intro (hY0.1.below hb1 (by simp)) (hY0.2.below hb1)
 have hb11 := (Below.refl w1.heap.size w1).alloc (Nat.le_refl _) (.cells #[.int .i64 r, .int .i64 r, .slice (some ⟨g, 0, none⟩) (r * r) (r * r)] 66)
 have hTm : Tri (w1.alloc (.cells #[.int .i64 r, .int .i64 r, .slice (some ⟨g, 0, none⟩) (r * r) (r * r)] 66)) w1.heap.size 0 (.int .i64 r) (.int .i64 r) (.slice (some ⟨g, 0, none⟩) (r * r) (r * r)) := ⟨new_cell _ _ _ _ _ rfl rfl, new_cell _ _ _ _ _ rfl rfl, new_cell _ _ _ _ _ rfl rfl⟩
 obtain ⟨W1, hW1⟩ : ∃ W1, W1 = w1.alloc (.cells #[.int .i64 r, .int .i64 r, .slice (some ⟨g, 0, none⟩) (r * r) (r * r)] 66) := ⟨_, rfl⟩
 have hs1 : W1.heap.size = w1.heap.size + 1 := by rw [hW1]; simp
 rw [← hW1] at hb11 hTm
 have hM1 : MatO W1 w1.heap.size 0 g r r (List.replicate (r * r) 0) 1 := ⟨hr, hr, hTm, (hG1.mono (by omega)).below hb11⟩
 have K1 := Hid.mk (And.intro hM1 (And.intro (hbw1.trans (hb11.mono (by omega))) (And.intro (hT1.later hb11) (And.intro (And.intro (hY1.1.below hb11 (by omega)) (hY1.2.below hb11)) hW1))))
 clear hb0 hT0 hY0 hg1 hG1 hb1 hbw1 hT1 hY1 hb11 hTm hM1 hW1
 go_wp2_with fail
 rw [← K1.out.2.2.2.2]
 refine (fromOne_any _).mono ?_
 rintro e w2 ⟨x2, rfl, hx2, hb2⟩
 obtain ⟨nb2, so2, n2, cp2, rfl⟩ := hx2.shape
 replace hx2 := hx2.fit (K := 1) (by decide)
 have hw2 : W1.heap.size ≤ w2.heap.size := hb2.size
 have hb22 := (Below.refl w2.heap.size w2).alloc (Nat.le_refl _) (.cells #[.bool nb2, .slice so2 n2 cp2] 79)
 have hD2 := Duo.new w2 (.bool nb2) (.slice so2 n2 cp2) rfl
 obtain ⟨W2, hW2⟩ : ∃ W2, W2 = w2.alloc (.cells #[.bool nb2, .slice so2 n2 cp2] 79) := ⟨_, rfl⟩
 have hs2 : W2.heap.size = w2.heap.size + 1 := by rw [hW2]; simp
 rw [← hW2] at hb22 hD2
 have hbB := hb2.trans (hb22.mono hw2)
 have K2 := Hid.mk (And.intro (K1.out.1.later hbB) (And.intro (K1.out.2.1.trans (hbB.mono (by omega))) (And.intro (K1.out.2.2.1.later hbB) (And.intro (And.intro (K1.out.2.2.2.1.1.below hbB (by omega)) (K1.out.2.2.2.1.2.below hbB)) (And.intro (hx2.below hb22) (And.intro hD2 hW2))))))
 clear hx2 hb2 hb22 hD2 hW2 hbB
 go_wp2_with fail
 rw [← K2.out.2.2.2.2.2.2]
 have hpg : w1.heap.size ≠ g := by omega
 go_loopw [5] (fun i wr => ∃ (e : Nat) (ms : List Int), e ≤ r ∧ i = .int .i64 e ∧ Hid (MatO wr w1.heap.size 0 g r r ms 1 ∧ W2.grownBy wr (some g) ∧ KU W2 wr ∧ ∀ i j, i < r → j < r → ent r ms i j = if i < e then kd i j else 0)) (fun i _ => r - (intOf i).toNat)
 case atStart => exact ⟨0, _, Nat.zero_le _, rfl, Hid.mk ⟨K2.out.1, World.grownBy.refl _ _, KU.refl _, fun i j _ _ => by rw [ent_zeros, if_neg (by omega)]⟩⟩
 case round =>
  obtain ⟨e, ms, he, rfl, HI⟩ := hrel
  obtain ⟨q0, q1, q2⟩ := HI.out.1.tri
  have hwr := HI.out.2.1.size
  have hB1 : Duo wr w2.heap.size (.bool nb2) (.slice so2 n2 cp2) := (HI.out.2.1.block _ (by omega) (fun e => by injection e with e; omega)).trans K2.out.2.2.2.2.2.1
  obtain ⟨x0, x1, -, -⟩ := hB1.cells
  clear hB1
  by_cases hec : e < r
  ·have hei : (e : Int) < (r : Int) := by omega
   go_wp2_with fail
   refine (set_m w1.heap.size 0 g r r e e ms 1 _ 1 _ HI.out.1 hpg (K2.out.2.2.2.2.1.keep HI.out.2.2.1) hec hec).mono ?_
   rintro e9 w3 ⟨rfl, hM3, hgr3, hku3⟩
   have K3 := Hid.mk (And.intro hM3 (And.intro (grown_trans HI.out.2.1 hgr3) (HI.out.2.2.1.trans hku3)))
   clear hM3 hgr3 hku3
   go_wp2_with fail
   go_roundw
   case measure => simp [intOf]; omega
   case rel =>
    refine ⟨e + 1, _, by omega, by go_num, Hid.mk ⟨K3.out.1, K3.out.2.1, K3.out.2.2, fun i j hi hj => ?_⟩⟩
    rw [ent_set ms r r HI.out.1.len e e i j _ hec hec hj, HI.out.2.2.2 i j hi hj]
    unfold kd
    grind
  ·have hei : ¬ (e : Int) < (r : Int) := by omega
   have hee : e = r := by omega
   have HEE := Hid.mk hee
   clear hee
   have hTr := K2.out.2.2.1.grown HI.out.2.1 (by omega)
   have hYr := K2.out.2.2.2.1.1.grown HI.out.2.1 (by omega)
   have f0 := (K2.out.2.2.2.1.2.grown HI.out.2.1 (by omega)).2
   obtain ⟨y0, y1, y2⟩ := hTr
   go_wp2_with fail
   refine bodyPost_ret (v := .agg #[.int .i64 r, .int .i64 r, .slice (some ⟨g, 0, none⟩) (r * r) (r * r)]) ?_ rfl ?_
   ·(simp [results, Tryz.results60, go_sem, y0, y1, y2]; done)
   ·have hk : ∀ (v0 v1 v2 : Value), KU wr (((wr.setCell ⟨w.heap.size, 0, none⟩ v0).setCell ⟨w.heap.size, 1, none⟩ v1).setCell ⟨w.heap.size, 2, none⟩ v2) := fun v0 v1 v2 => KU.setCell (KU.setCell (KU.setCell (KU.refl _) hYr (by decide) _) (hYr.setCell _ _) (by decide) _) ((hYr.setCell _ _).setCell _ _) (by decide) _
    have hgr : ∀ (v0 v1 v2 : Value), wr.grownBy (((wr.setCell ⟨w.heap.size, 0, none⟩ v0).setCell ⟨w.heap.size, 1, none⟩ v1).setCell ⟨w.heap.size, 2, none⟩ v2) (some w.heap.size) := fun v0 v1 v2 => grown_trans (grown_trans (grown_cell _ _ _ _) (grown_cell _ _ _ _)) (grown_cell _ _ _ _)
    refine ⟨g, rfl, by omega, ms, HI.out.1.grid.grown (hgr _ _ _) (fun a m c e => by
     simp only [Value.slice.injEq, Option.some.injEq] at e
     obtain ⟨rfl, -, -⟩ := e
     show g ≠ w.heap.size
     omega) (hk _ _ _), fun i j hi hj => ?_, ?_⟩
    ·rw [HI.out.2.2.2 i j hi hj, if_pos (by have := HEE.out; omega)]
    ·refine Below.setCell (Below.setCell (Below.setCell ?_ (by simp) _) (by simp) _) (by simp) _
     exact K2.out.2.1.trans (below_of_grown HI.out.2.1 (by omega) (by omega))
open Go.RowKit
end Go.Proofs.YtfjbijpagaipnabGreatDoor
namespace Go.Proofs.YtfjbijpagaipnabGreatDoor.R
open Go.RowKit
theorem getD_set_self (zs : List Nat) (k c : Nat) (hk : k < zs.length) : (zs.set k c).getD k 0 = c := by simp [List.getD, hk]
theorem carry_top {zs : List Nat} {n V : Nat} (hl : zs.length = n + 1) (hlo : ∀ k, k < n → zs.getD k 0 < 10000) (hv : val zs = V) (hV : V < 10000 ^ n) : Lo zs := by
 have h1 : val zs = val (zs.take n) + 10000 ^ n * zs.getD n 0 := by
  have := val_take_next zs n
  rw [List.take_of_length_le (by omega)] at this
  exact this
 have h0 : zs.getD n 0 = 0 := by
  rcases Nat.eq_zero_or_pos (zs.getD n 0) with h | h
  ·exact h
  ·have : 10000 ^ n * 1 ≤ 10000 ^ n * zs.getD n 0 := Nat.mul_le_mul_left _ h
   omega
 intro x hx
 obtain ⟨i, hi, rfl⟩ := List.mem_iff_getElem.1 hx
 have hg : zs.getD i 0 = zs[i] := by simp [List.getD, List.getElem?_eq_getElem hi]
 rw [← hg]
 by_cases hin : i < n
 ·exact hlo i hin
 ·rw [show i = n by omega, h0]; decide
theorem carry_val {zs : List Nat} {i : Nat} (hi : i + 1 < zs.length) : val ((zs.set (i + 1) (zs.getD (i + 1) 0 + zs.getD i 0 / 10000)).set i (zs.getD i 0 % 10000)) = val zs := by
 have h1 := val_set zs (i + 1) (zs.getD (i + 1) 0 + zs.getD i 0 / 10000) hi
 have h2 := val_set (zs.set (i + 1) (zs.getD (i + 1) 0 + zs.getD i 0 / 10000)) i (zs.getD i 0 % 10000) (by simp; omega)
 rw [getD_set_ne _ _ _ _ (by omega)] at h2
 have h3 := Nat.div_add_mod (zs.getD i 0) 10000
 generalize zs.getD i 0 = a at *
 generalize zs.getD (i + 1) 0 = b at *
 generalize hq : a / 10000 = q at *
 generalize hm : a % 10000 = m at *
 rw [Nat.pow_succ] at h1
 generalize 10000 ^ i = P at *
 have e1 : P * 10000 * (b + q) = P * 10000 * b + P * (10000 * q) := by rw [Nat.mul_add, Nat.mul_assoc P 10000 q]
 have e2 : P * a = P * (10000 * q) + P * m := by rw [← h3, Nat.mul_add]
 omega
theorem conv_step {qs : List Nat} {k j z x y V T : Nat} (hk : k + j < qs.length) (hz : z = qs.getD (k + j) 0) (h : val qs = V + 10000 ^ k * (x * T)) : val (qs.set (k + j) (z + x * y)) = V + 10000 ^ k * (x * (T + 10000 ^ j * y)) := by
 have h1 := val_set qs (k + j) (z + x * y) hk
 rw [← hz, Nat.pow_add] at h1
 have e1 : 10000 ^ k * 10000 ^ j * (z + x * y) = 10000 ^ k * 10000 ^ j * z + 10000 ^ k * (x * (10000 ^ j * y)) := by
  rw [Nat.mul_add, Nat.mul_left_comm x, Nat.mul_assoc (10000 ^ k) (10000 ^ j) (x * y)]
 have e2 : 10000 ^ k * (x * (T + 10000 ^ j * y)) = 10000 ^ k * (x * T) + 10000 ^ k * (x * (10000 ^ j * y)) := by rw [Nat.mul_add, Nat.mul_add]
 generalize 10000 ^ k * 10000 ^ j * z = A at *
 generalize 10000 ^ k * (x * (10000 ^ j * y)) = B at *
 generalize 10000 ^ k * (x * T) = C at *
 omega
theorem conv_done {xs : List Nat} {k x Y Q : Nat} (hx : x = xs.getD k 0) (h : Q = val (xs.take k) * Y + 10000 ^ k * (x * Y)) : Q = val (xs.take (k + 1)) * Y := by
 rw [h, val_take_next, ← hx, Nat.add_mul, Nat.mul_assoc]
theorem getD_set_le {qs : List Nat} {k c b i : Nat} (hc : c ≤ b) (h : ∀ i, qs.getD i 0 ≤ b) : (qs.set k c).getD i 0 ≤ b := by
 by_cases hk : k = i
 ·subst hk
  by_cases hl : k < qs.length
  ·rw [getD_set_self _ _ _ hl]; exact hc
  ·rw [List.set_eq_of_length_le (by omega)]; exact h k
 ·rw [getD_set_ne _ _ _ _ hk]; exact h i
set_option maxRecDepth 100000 in
set_option maxHeartbeats 4000000 in
theorem ntimes_any (v u : Value) (x y : Int) (L M : Nat) (w : World) (hv : IsN w v x L) (hu : IsN w u y M) (hL : L ≤ 50000000000) (hM : M ≤ 50000000000) :
 Calls Tryz.prog 212 #[v, u] w fun e w' => ∃ r, e = .returned r ∧ NOut w w' r (x * y) (L + M + 1) := by
 obtain ⟨na, ao, cap, xs, rfl, h2, h3, h4, h5, h6⟩ := hv.parts
 obtain ⟨nb, bo, dap, ys, rfl, k2, k3, k4, k5, k6⟩ := hu.parts
 have H := Hid.mk (And.intro h2 (And.intro h3 (And.intro h4 (And.intro h5 h6))))
 have J := Hid.mk (And.intro k2 (And.intro k3 (And.intro k4 (And.intro k5 k6))))
 clear hv hu h2 h3 h4 h5 k2 k3 k4 k5
 have BB := Hid.mk (And.intro ((((NBox.new w (.bool na) (.slice ao xs.length cap) rfl).alloc (.cells #[.bool nb, .slice bo ys.length dap] 171)).alloc (.cells #[.bool false, .slice none 0 0] 171))) (And.intro ((NBox.new (w.alloc (.cells #[.bool na, .slice ao xs.length cap] 171)) (.bool nb) (.slice bo ys.length dap) (b := w.heap.size + 1) (by simp)).alloc (.cells #[.bool false, .slice none 0 0] 171))
  (NBox.new ((w.alloc (.cells #[.bool na, .slice ao xs.length cap] 171)).alloc (.cells #[.bool nb, .slice bo ys.length dap] 171)) (.bool false) (.slice none 0 0) (b := w.heap.size + 1 + 1) (by simp))))
 go_enter Tryz.func212, Tryz.ntmps212
 go_wp2_with (refine make_digits _ rfl _ _ rfl _ _ (xs.length + ys.length + 1) rfl rfl (by omega) (by omega) (by omega) ?_)
 intro w1 hown hbel
 obtain ⟨W0, hW0⟩ : ∃ W0, W0 = ((w.alloc (.cells #[.bool na, .slice ao xs.length cap] 171)).alloc (.cells #[.bool nb, .slice bo ys.length dap] 171)).alloc (.cells #[.bool false, .slice none 0 0] 171) := ⟨_, rfl⟩
 have hz0 : W0.heap.size = w.heap.size + 1 + 1 + 1 := by rw [hW0]; simp
 have hbw0 : Below w.heap.size w W0 := by rw [hW0]; repeat (first | exact Below.refl _ _ | refine Below.alloc ?_ (by simp <;> omega) _)
 rw [← hW0] at BB hbel
 have hbel0 : Below W0.heap.size W0 w1 := by rw [hz0]; exact hbel
 clear hbel
 have hbel := hbel0
 clear hbel0
 obtain ⟨G, hG⟩ : ∃ G, G = w.heap.size + 1 + 1 + 1 := ⟨_, rfl⟩
 rw [← hG] at hown hz0 ⊢
 obtain ⟨NN, hNN⟩ : ∃ NN, NN = xs.length + ys.length + 1 := ⟨_, rfl⟩
 rw [← hNN] at hown ⊢
 have K0 := Hid.mk (And.intro hown (And.intro hbel (And.intro hbw0 hW0)))
 have HNN := Hid.mk hNN
 have HG := Hid.mk (And.intro hG hz0)
 have hNb : NN ≤ 100000000001 := by omega
 clear hown hbel hbw0 hW0 hNN hG hz0
 go_wp2_with fail
 go_loopw [6] (fun i wr => ∃ (k : Nat) (zs : List Nat), k ≤ xs.length ∧ i = .int .i64 k ∧ Hid (zs.length = NN) ∧ Own wr (.slice (some ⟨G, 0, none⟩) NN NN) zs ∧ Below W0.heap.size W0 wr ∧
  Hid (val zs = val (xs.take k) * val ys ∧ ∀ j, zs.getD j 0 ≤ k * 100000000)) (fun i _ => xs.length - (intOf i).toNat)
 case atStart =>
  refine ⟨0, _, Nat.zero_le _, rfl, Hid.mk List.length_replicate, K0.out.1, K0.out.2.1, Hid.mk ⟨?_, fun j => ?_⟩⟩
  ·rw [val_zeros (fun x hx => List.eq_of_mem_replicate hx)]; simp [val]
  ·by_cases hj : j < NN <;> simp [List.getD, hj]
 case round =>
  obtain ⟨k, zs, hk, rfl, HZL, hown, hbel, HI⟩ := hrel
  obtain ⟨a1, a2, -, -⟩ := (BB.out.1.below hbel BB.out.1.lt).cells
  have K := Hid.mk (And.intro hown hbel)
  clear hown hbel
  by_cases hkN : k < xs.length
  ·obtain ⟨b, rfl, hb0⟩ := H.out.1.at_ rfl k hkN
   have hxk := Lo_get H.out.2.1.1 k
   obtain ⟨x1, hx⟩ : ∃ x, x = xs.getD k 0 := ⟨_, rfl⟩
   rw [← hx] at hxk hb0
   have HX := Hid.mk hx
   have HB := Hid.mk hb0
   have hki : (k : Int) < (xs.length : Int) := by omega
   clear hx hb0
   go_wp2_with fail
   go_loopw [7] (fun i ws => ∃ (j : Nat) (qs : List Nat), j ≤ ys.length ∧ i = .int .i64 j ∧ Hid (qs.length = NN) ∧ Own ws (.slice (some ⟨G, 0, none⟩) NN NN) qs ∧ Below W0.heap.size W0 ws ∧
    Hid (val qs = val (xs.take k) * val ys + 10000 ^ k * (x1 * val (ys.take j)) ∧ (∀ i, qs.getD i 0 ≤ (k + 1) * 100000000) ∧ ∀ i, k + j ≤ i → qs.getD i 0 ≤ k * 100000000)) (fun i _ => ys.length - (intOf i).toNat)
   case atStart =>
    refine ⟨0, zs, Nat.zero_le _, rfl, HZL, K.out.1, K.out.2, Hid.mk ⟨by have := HI.out.1; simp [val, this], fun i => ?_, fun i _ => HI.out.2 i⟩⟩
    exact Nat.le_trans (HI.out.2 i) (Nat.mul_le_mul_right _ (Nat.le_succ k))
   case round =>
    rename World => ws
    obtain ⟨j, qs, hj, rfl, HQ, hown, hbel, HI2⟩ := hrel
    have hbw : Below w.heap.size w ws := K0.out.2.2.1.trans (hbel.mono (by have := HG.out.1; have := HG.out.2; omega))
    clear a1 a2
    obtain ⟨a1, a2, -, -⟩ := (BB.out.1.below hbel BB.out.1.lt).cells
    obtain ⟨b1, b2, -, -⟩ := (BB.out.2.1.below hbel BB.out.2.1.lt).cells
    have hb1 := cell_later hbw HB.out
    by_cases hjN : j < ys.length
    ·obtain ⟨d, rfl, hd0⟩ := J.out.1.at_ rfl j hjN
     have hd1 := cell_later hbw hd0
     have hyk := Lo_get J.out.2.1.1 j
     have hkjN : k + j < NN := by have := HNN.out; omega
     have hz1 := hown.cell HQ.out (k + j) hkjN
     have hz2 := hown.frozen HQ.out (k + j)
     have hzk := HI2.out.2.2 (k + j) (Nat.le_refl _)
     obtain ⟨y1, hy⟩ : ∃ y, y = ys.getD j 0 := ⟨_, rfl⟩
     obtain ⟨z1, hz⟩ : ∃ z, z = qs.getD (k + j) 0 := ⟨_, rfl⟩
     rw [← hy] at hyk hd1
     rw [← hz] at hz1 hzk
     have hp : x1 * y1 ≤ 9999 * 9999 := Nat.mul_le_mul (by omega) (by omega)
     have HYY := Hid.mk hy
     have HZ := Hid.mk hz
     have hji : (j : Int) < (ys.length : Int) := by omega
     have K2 := Hid.mk (And.intro hown (And.intro hbel hbw))
     clear hy hz hd0 hown hbel hbw
     go_wp2_with fail
     go_region
     all_goals
      go_wp2_with fail
      go_roundw
      case measure => simp [intOf]; omega
      case rel =>
       refine ⟨j + 1, qs.set (k + j) (z1 + x1 * y1), by omega, by go_num, Hid.mk (by simp [HQ.out]), K2.out.1.stored_int HQ.out (k + j) _ ?_, ?_, Hid.mk ⟨?_, fun i => ?_, fun i hi => ?_⟩⟩
       ·simp
       ·exact (K2.out.2.1.setCell (by have := HG.out.2; simp; omega) _).drew
       ·rw [val_take_next, ← HYY.out]
        exact conv_step (by rw [HQ.out]; exact hkjN) HZ.out HI2.out.1
       ·refine getD_set_le ?_ HI2.out.2.1
        have e1 : (k + 1) * 100000000 = k * 100000000 + 100000000 := Nat.succ_mul _ _
        rw [e1]
        exact Nat.add_le_add hzk (Nat.le_trans hp (by decide))
       ·rw [getD_set_ne _ _ _ _ (by omega)]; exact HI2.out.2.2 i (by omega)
    ·have hji : ¬ (j : Int) < (ys.length : Int) := by omega
     have K2 := Hid.mk (And.intro hown hbel)
     clear hown hbel hbw
     go_wp2_with fail
     go_roundw
     case measure => simp [intOf]; omega
     case rel =>
      refine ⟨k + 1, qs, by omega, by go_num, HQ, K2.out.1, K2.out.2, Hid.mk ⟨?_, HI2.out.2.1⟩⟩
      have h1 := HI2.out.1
      rw [show ys.take j = ys from List.take_of_length_le (by omega)] at h1
      exact conv_done HX.out h1
  ·have hki : ¬ (k : Int) < (xs.length : Int) := by omega
   go_wp2_with fail
   go_loopw [8] (fun i ws => ∃ (j : Nat) (qs : List Nat), j + 1 ≤ NN ∧ i = .int .i64 j ∧ Hid (qs.length = NN) ∧ Own ws (.slice (some ⟨G, 0, none⟩) NN NN) qs ∧ Below W0.heap.size W0 ws ∧
    Hid (val qs = val xs * val ys ∧ (∀ i, i < j → qs.getD i 0 < 10000) ∧ qs.getD j 0 ≤ 6000000000000000000 ∧ ∀ i, j < i → qs.getD i 0 ≤ 5000000000000000000)) (fun i _ => NN - (intOf i).toNat)
   case atStart =>
    have hz : ∀ i, zs.getD i 0 ≤ 5000000000000000000 := fun i => Nat.le_trans (HI.out.2 i) (Nat.le_trans (Nat.mul_le_mul_right _ (show k ≤ 50000000000 by omega)) (by decide))
    refine ⟨0, zs, by have := HNN.out; omega, rfl, HZL, K.out.1, K.out.2, Hid.mk ⟨?_, fun i hi => by omega, Nat.le_trans (hz 0) (by decide), fun i _ => hz i⟩⟩
    have h1 := HI.out.1
    rw [show xs.take k = xs from List.take_of_length_le (by omega)] at h1
    exact h1
   case round =>
    rename World => ws
    obtain ⟨j, qs, hj, rfl, HQ, hown, hbel, HI2⟩ := hrel
    clear a1 a2
    by_cases hjN : j + 1 < NN
    ·have hz1 := hown.cell HQ.out j (by omega)
     have hz2 := hown.frozen HQ.out j
     have hy1 := hown.cell HQ.out (j + 1) hjN
     have hy2 := hown.frozen HQ.out (j + 1)
     have hzb := HI2.out.2.2.1
     have hyb := HI2.out.2.2.2 (j + 1) (by omega)
     obtain ⟨z1, hz⟩ : ∃ z, z = qs.getD j 0 := ⟨_, rfl⟩
     obtain ⟨y1, hy⟩ : ∃ y, y = qs.getD (j + 1) 0 := ⟨_, rfl⟩
     rw [← hz] at hz1 hzb
     rw [← hy] at hy1 hyb
     have HZ := Hid.mk (And.intro hz hy)
     have hji : (j : Int) + 1 < (NN : Int) := by omega
     have K2 := Hid.mk (And.intro hown hbel)
     clear hz hy hown hbel
     go_wp2_with fail
     go_region
     have own2 : Own (ws.setCell ⟨G, j + 1, none⟩ (.int .i64 ((y1 : Int) + (z1 : Int) / 10000))).drew (.slice (some ⟨G, 0, none⟩) NN NN) (qs.set (j + 1) (y1 + z1 / 10000)) := K2.out.1.stored_int HQ.out (j + 1) _ (by omega)
     obtain ⟨ws2, hws2⟩ : ∃ ws2, ws2 = (ws.setCell ⟨G, j + 1, none⟩ (.int .i64 ((y1 : Int) + (z1 : Int) / 10000))).drew := ⟨_, rfl⟩
     have hbel2 : Below W0.heap.size W0 ws2 := by rw [hws2]; exact (K2.out.2.setCell (by have := HG.out.2; simp; omega) _).drew
     rw [← hws2] at own2 ⊢
     have HL2 := Hid.mk (show (qs.set (j + 1) (y1 + z1 / 10000)).length = NN by rw [List.length_set]; exact HQ.out)
     have d1 := own2.cell HL2.out j (by omega)
     have d2 := own2.frozen HL2.out j
     rw [getD_set_ne _ _ _ _ (by omega), ← HZ.out.1] at d1
     have K3 := Hid.mk (And.intro own2 hbel2)
     clear own2 hws2 hbel2 hz1 hz2 hy1 hy2
     go_wp2_with fail
     all_goals
      go_roundw
      case measure => simp [intOf]; omega
      case rel =>
       refine ⟨j + 1, (qs.set (j + 1) (y1 + z1 / 10000)).set j (z1 % 10000), by omega, by go_num, Hid.mk (by simp [HQ.out]), K3.out.1.stored_int HL2.out j _ (by omega), K3.out.2.setCell (by have := HG.out.2; simp; omega) _, Hid.mk ⟨?_, fun i hi => ?_, ?_, fun i hi => ?_⟩⟩
       ·rw [HZ.out.1, HZ.out.2, carry_val (by rw [HQ.out]; exact hjN)]
        exact HI2.out.1
       ·by_cases hij : i = j
        ·subst hij
         rw [getD_set_self _ _ _ (by rw [HL2.out]; omega)]
         exact Nat.mod_lt _ (by decide)
        ·rw [getD_set_ne _ _ _ _ (fun e => hij e.symm), getD_set_ne _ _ _ _ (by omega)]
         exact HI2.out.2.1 i (by omega)
       ·rw [getD_set_ne _ _ _ _ (by omega), getD_set_self _ _ _ (by rw [HQ.out]; exact hjN)]
        have : z1 / 10000 ≤ 6000000000000000000 / 10000 := Nat.div_le_div_right hzb
        exact Nat.le_trans (Nat.add_le_add hyb this) (by decide)
       ·rw [getD_set_ne _ _ _ _ (by omega), getD_set_ne _ _ _ _ (by omega)]
        exact HI2.out.2.2.2 i (by omega)
    ·have hji : ¬ (j : Int) + 1 < (NN : Int) := by omega
     obtain ⟨a1, -, -, -⟩ := (BB.out.1.below hbel BB.out.1.lt).cells
     obtain ⟨b1, -, -, -⟩ := (BB.out.2.1.below hbel BB.out.2.1.lt).cells
     have hLo : Lo qs := carry_top (n := xs.length + ys.length) (by rw [HQ.out, HNN.out]) (fun i hi => HI2.out.2.1 i (by have := HNN.out; omega)) HI2.out.1 (by
      rw [Nat.pow_add]
      exact Nat.mul_lt_mul'' (val_lt H.out.2.1.1) (val_lt J.out.2.1.1))
     have K2 := Hid.mk (And.intro hown (And.intro hbel hLo))
     clear hown hbel hLo
     go_wp2_with fail
     refine (made_any _ _ qs _ K2.out.1 K2.out.2.2).mono ?_
     rintro e w2 ⟨r2, rfl, hr2, hb2⟩
     obtain ⟨ng, co, ecap, vs, rfl, -⟩ := hr2.parts
     have B3 := (BB.out.2.2.below K2.out.2.1 BB.out.2.2.lt).below hb2 (BB.out.2.2.below K2.out.2.1 BB.out.2.2.lt).lt
     obtain ⟨c1, c2, c3, c4⟩ := B3.cells
     have c5 := B3.put1 (.bool ng)
     have hbw : Below w.heap.size w w2 := K0.out.2.2.1.trans ((K2.out.2.1.trans (hb2.mono K2.out.2.1.size)).mono (by have := HG.out.1; have := HG.out.2; omega))
     have K4 := Hid.mk (And.intro hr2 (And.intro hbw B3.ty))
     clear hr2 hb2 B3 a1 b1 hbw
     go_wp2_with fail
     refine bodyPost_ret (v := .agg #[.bool ng, .slice co vs.length ecap]) ?_ rfl ?_
     ·(simp [results, Tryz.results212, go_sem, c2, c5]; done)
     ·refine ⟨_, rfl, ?_, (K4.out.2.1.setCell (by simp <;> omega) _).setCell (by simp <;> omega) _⟩
      have fin := (K4.out.1.box K4.out.2.2 (by decide) (.bool ng) (.slice co vs.length ecap)).mono (M := L + M + 1) (by have := HQ.out; have := HNN.out; omega)
      have e1 := HI2.out.1
      have e2 := H.out.2.2.2.1
      have e3 := J.out.2.2.2.1
      rw [e1] at fin
      rw [e2, e3]
      cases na <;> cases nb <;> simpa [Int.neg_mul, Int.mul_neg] using fin
end Go.Proofs.YtfjbijpagaipnabGreatDoor.R
