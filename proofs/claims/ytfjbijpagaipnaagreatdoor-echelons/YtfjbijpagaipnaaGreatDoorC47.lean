import Derived.Test.YtfjbijpagaipnaaGreatDoorC46
import Derived.Test.YtfjbijpagaipnaaGreatDoorC45
import Derived.Deep.RegionHeld3
import Derived.Deep.CutRange
/- matricesref.N: Common. -/
namespace Go.Proofs.YtfjbijpagaipnaaGreatDoor.R
open Go.RowKit

set_option maxRecDepth 100000 in
set_option maxHeartbeats 4000000 in
theorem common_any (v u : Value) (x y : Int) (L : Nat) (w : World) (hv : IsN w v x L) (hu : IsN w u y L) (hL : L ≤ 10000) :
    Calls Tryz.prog 174 #[v, u] w fun e w' => ∃ r, e = .returned r ∧ NOut w w' r ((Nat.gcd x.natAbs y.natAbs : Nat) : Int) L := by
  obtain ⟨na, ao, cap, xs, rfl, -⟩ := hv.parts
  obtain ⟨nb, bo, dap, ys, rfl, -⟩ := hu.parts
  obtain ⟨nx, hnx⟩ : ∃ nx, nx = xs.length := ⟨_, rfl⟩
  obtain ⟨ny, hny⟩ : ∃ ny, ny = ys.length := ⟨_, rfl⟩
  rw [← hnx] at hv ⊢
  rw [← hny] at hu ⊢
  have H := Hid.mk (And.intro hv hu)
  clear hv hu hnx hny
  obtain ⟨W0, hW0⟩ : ∃ W0, W0 = ((w.alloc (.cells #[.bool na, .slice ao nx cap] 138)).alloc (.cells #[.bool nb, .slice bo ny dap] 138)).alloc (.cells #[.bool false, .slice none 0 0] 138) := ⟨_, rfl⟩
  have hz0 : W0.heap.size = w.heap.size + 3 := by rw [hW0]; simp
  have hb0 : Below w.heap.size w W0 := by rw [hW0]; repeat (first | exact Below.refl _ _ | refine Below.alloc ?_ (by simp <;> omega) _)
  have hA : NBox W0 w.heap.size (.bool na) (.slice ao nx cap) := by rw [hW0]; exact ((NBox.new w _ _ rfl).alloc _).alloc _
  have hB : NBox W0 (w.heap.size + 1) (.bool nb) (.slice bo ny dap) := by rw [hW0]; exact (NBox.new _ _ _ (by simp)).alloc _
  have hR : NBox W0 (w.heap.size + 1 + 1) (.bool false) (.slice none 0 0) := by rw [hW0]; exact NBox.new _ _ _ (by simp)
  have F := Hid.mk (And.intro hA (And.intro hB (And.intro hR (And.intro hb0 (And.intro hz0 hW0)))))
  clear hA hB hR hb0 hW0
  go_enter Tryz.func174, Tryz.ntmps174
  go_wp2_with fail
  rw [← F.out.2.2.2.2.2]
  refine (amount_any _ x L _ (H.out.1.below F.out.2.2.2.1)).mono ?_
  rintro e w1 ⟨p1, rfl, hp1, hb1⟩
  obtain ⟨n1, o1, c1, l1, rfl, -⟩ := hp1.parts
  obtain ⟨k1, hk1⟩ : ∃ k1, k1 = l1.length := ⟨_, rfl⟩
  rw [← hk1] at hp1 ⊢
  clear hk1
  have hb11 := (Below.refl w1.heap.size w1).alloc (Nat.le_refl _) (.cells #[.bool n1, .slice o1 k1 c1] 138)
  have hbA := hb1.trans (hb11.mono hb1.size)
  obtain ⟨b0, b1, -, -⟩ := (F.out.2.1.below hbA (by omega)).cells
  have K1 := Hid.mk (And.intro (hp1.below hb11) (And.intro hbA (NBox.new w1 (.bool n1) (.slice o1 k1 c1) rfl)))
  have hw1 := hb1.size
  clear hp1 hb1 hb11 hbA
  go_wp2_with fail
  refine (amount_any _ y L _ ((H.out.2.below F.out.2.2.2.1).below K1.out.2.1)).mono ?_
  rintro e w2 ⟨p2, rfl, hp2, hb2⟩
  obtain ⟨n2, o2, c2, l2, rfl, -⟩ := hp2.parts
  obtain ⟨k2, hk2⟩ : ∃ k2, k2 = l2.length := ⟨_, rfl⟩
  rw [← hk2] at hp2 ⊢
  clear hk2 b0 b1
  have hb22 := (Below.refl w2.heap.size w2).alloc (Nat.le_refl _) (.cells #[.bool n2, .slice o2 k2 c2] 138)
  have hs2 : w1.heap.size + 1 ≤ w2.heap.size := by have := hb2.size; simpa using this
  have hbB := K1.out.2.1.trans ((hb2.trans (hb22.mono hb2.size)).mono (by simp; omega))
  have hX := (K1.out.2.2.below hb2 (by simp)).below hb22 (by omega)
  have K2 := Hid.mk (And.intro ((K1.out.1.below hb2).below hb22) (And.intro (hp2.below hb22) (And.intro hbB (And.intro hX (NBox.new w2 (.bool n2) (.slice o2 k2 c2) rfl)))))
  clear hp2 hb2 hb22 hbB hX
  go_wp2_with fail
  obtain ⟨W2, hW2⟩ : ∃ W2, W2 = w2.alloc (.cells #[.bool n2, .slice o2 k2 c2] 138) := ⟨_, rfl⟩
  rw [← hW2] at K2 ⊢
  have hsW : W2.heap.size = w2.heap.size + 1 := by rw [hW2]; simp
  clear hW2
  obtain ⟨xb, hxb⟩ : ∃ xb, xb = w1.heap.size := ⟨_, rfl⟩
  obtain ⟨yb, hyb⟩ : ∃ yb, yb = w2.heap.size := ⟨_, rfl⟩
  rw [← hxb, ← hyb] at K2 ⊢
  have hxy : xb < yb := by omega
  have hxW : W0.heap.size ≤ xb := by omega
  have HX := Hid.mk (And.intro hxb hyb)
  clear hxb hyb
  go_loopg [] (y.natAbs) (fun gk wr => ∃ (X Y : Nat) (na : Bool) (ao : Option Addr) (ka ca : Nat) (nb : Bool) (bo : Option Addr) (kb cb : Nat), NBox wr xb (.bool na) (.slice ao ka ca) ∧ NBox wr yb (.bool nb) (.slice bo kb cb) ∧ IsN wr (.agg #[.bool na, .slice ao ka ca]) (X : Int) L ∧ IsN wr (.agg #[.bool nb, .slice bo kb cb]) (Y : Int) L ∧ Below W0.heap.size W0 wr ∧ Hid (Nat.gcd X Y = Nat.gcd x.natAbs y.natAbs ∧ gk = Y))
  case atStart => exact ⟨x.natAbs, y.natAbs, n1, o1, k1, c1, n2, o2, k2, c2, K2.out.2.2.2.1, K2.out.2.2.2.2, K2.out.1, K2.out.2.1, K2.out.2.2.1, Hid.mk ⟨rfl, rfl⟩⟩
  case round =>
    obtain ⟨X, Y, na, ao, ka, ca, nb, bo, kb, cb, hXB, hYB, hX, hY, hbel, HG⟩ := hrel
    obtain ⟨a0, a1, a2, a3⟩ := hXB.cells
    obtain ⟨b0, b1, b2, b3⟩ := hYB.cells
    have hk : kb = 0 ↔ Y = 0 := by
      obtain ⟨neg, so, cp, zs, e1, -, e3, -, e5, -⟩ := hY.parts
      simp only [Value.agg.injEq, Array.mk.injEq, List.cons.injEq, Value.slice.injEq, Value.bool.injEq, and_true] at e1
      obtain ⟨-, -, e6, -⟩ := e1
      have h0 := Lim_zero e3
      have h1 : Y = val zs := by cases neg <;> simp at e5 <;> omega
      rw [e6, h1, h0]
      constructor
      · exact fun h => List.eq_nil_of_length_eq_zero h
      · intro h; rw [h]; rfl
    have K := Hid.mk (And.intro hXB (And.intro hYB (And.intro hX (And.intro hY hbel))))
    have hwr := hbel.size
    have hyl := hYB.lt
    clear hXB hYB hX hY hbel
    by_cases hY0 : Y = 0
    · have hk0 : kb = 0 := hk.2 hY0
      have HY0 := Hid.mk hY0
      clear hY0 hk
      have hRes := F.out.2.2.1.below K.out.2.2.2.2 (by omega)
      obtain ⟨s0, s1, s2, s3⟩ := hRes.cells
      have HR := Hid.mk hRes
      clear hRes
      go_wp2_with fail
      obtain ⟨g1, g2, -, -⟩ := (HR.out.put (.bool na) (.slice ao ka ca)).cells
      refine bodyPost_ret (v := .agg #[.bool na, .slice ao ka ca]) ?_ rfl ?_
      · (simp [results, Tryz.results174, go_sem, g1, g2]; done)
      · refine ⟨_, rfl, ?_, ((F.out.2.2.2.1.trans (K.out.2.2.2.2.mono (by omega))).setCell (by simp; omega) _).setCell (by simp; omega) _⟩
        have h1 := HG.out.1
        rw [HY0.out, Nat.gcd_zero_right] at h1
        rw [← h1]
        exact K.out.2.2.1.box HR.out.ty (by decide) _ _
    · have hk0 : 0 < kb := by
        rcases Nat.eq_zero_or_pos kb with h | h
        · exact absurd (hk.1 h) hY0
        · exact h
      have hk0' : (0 : Int) < (kb : Int) := by omega
      clear hk
      go_wp2_with fail
      refine (cutN_any _ _ X Y L L _ K.out.2.2.1 K.out.2.2.2.1 (by omega) hL hL).mono ?_
      rintro e w3 ⟨q3, r3, rfl, hq3, hr3, hb3⟩
      obtain ⟨n3, o3, c3, l3, rfl, -⟩ := hr3.parts
      obtain ⟨n4, o4, c4, l4, rfl, -⟩ := hq3.parts
      obtain ⟨k3, hk3⟩ : ∃ k3, k3 = l3.length := ⟨_, rfl⟩
      rw [← hk3] at hr3 ⊢
      obtain ⟨k4, hk4⟩ : ∃ k4, k4 = l4.length := ⟨_, rfl⟩
      rw [← hk4]
      clear hk3 hk4 hq3
      have hX3 := K.out.1.below hb3 (by omega)
      have hY3 := K.out.2.1.below hb3 hyl
      have hw3 := hb3.size
      clear a0 a1 a2 a3 b0 b1 b2 b3
      obtain ⟨a0, a1, a2, a3⟩ := hX3.cells
      obtain ⟨b0, b1, b2, b3⟩ := hY3.cells
      have hA2 : ∀ p q, NBox ((w3.alloc p).alloc q) xb (.bool na) (.slice ao ka ca) := fun p q => (hX3.alloc p).alloc q
      have hB2 : ∀ p q, NBox ((w3.alloc p).alloc q) yb (.bool nb) (.slice bo kb cb) := fun p q => (hY3.alloc p).alloc q
      have d0 : ∀ p q, ((w3.alloc p).alloc q).cell? ⟨yb, 0, none⟩ = some (.bool nb) := fun p q => (hB2 p q).cells.1
      have d1 : ∀ p q, ((w3.alloc p).alloc q).cell? ⟨yb, 1, none⟩ = some (.slice bo kb cb) := fun p q => (hB2 p q).cells.2.1
      have e0 : ∀ p q, ((w3.alloc p).alloc q).cell? ⟨xb, 0, none⟩ = some (.bool na) := fun p q => (hA2 p q).cells.1
      have e1 : ∀ p q, ((w3.alloc p).alloc q).cell? ⟨xb, 1, none⟩ = some (.slice ao ka ca) := fun p q => (hA2 p q).cells.2.1
      have hxl : xb < w3.heap.size := hX3.lt
      have hyl3 : yb < w3.heap.size := hY3.lt
      have hne : xb ≠ yb := by omega
      have K3 := Hid.mk (And.intro hX3 (And.intro hY3 (And.intro hr3 hb3)))
      clear hX3 hY3 hr3 hb3 hA2 hB2
      go_wp2_with fail
      go_roundg (X % Y)
      case measure => have h := HG.out.2; have := Nat.mod_lt X (show 0 < Y by omega); omega
      case rel =>
        obtain ⟨hX3, hY3, hr3, hb3⟩ := K3.out
        have g1 := hX3.put (.bool nb) (.slice bo kb cb)
        have g2 : NBox ((w3.setCell ⟨xb, 0, none⟩ (.bool nb)).setCell ⟨xb, 1, none⟩ (.slice bo kb cb)) yb (.bool nb) (.slice bo kb cb) := by
          unfold NBox
          rw [Below.heap_setCell _ _ _ _ (by simp; omega), Below.heap_setCell _ _ _ _ (by simp; omega)]
          exact hY3
        have g3 := g2.put (.bool n3) (.slice o3 k3 c3)
        have g4 : NBox ((((w3.setCell ⟨xb, 0, none⟩ (.bool nb)).setCell ⟨xb, 1, none⟩ (.slice bo kb cb)).setCell ⟨yb, 0, none⟩ (.bool n3)).setCell ⟨yb, 1, none⟩ (.slice o3 k3 c3)) xb (.bool nb) (.slice bo kb cb) := by
          unfold NBox
          rw [Below.heap_setCell _ _ _ _ (by simp; omega), Below.heap_setCell _ _ _ _ (by simp; omega)]
          exact g1
        have hy9 := ((K.out.2.2.2.1.below hb3).box hX3.ty (by decide) (.bool nb) (.slice bo kb cb)).box g2.ty (by decide) (.bool n3) (.slice o3 k3 c3)
        have hr9 := (hr3.box hX3.ty (by decide) (.bool nb) (.slice bo kb cb)).box g2.ty (by decide) (.bool n3) (.slice o3 k3 c3)
        have hb9 : Below W0.heap.size W0 ((((w3.setCell ⟨xb, 0, none⟩ (.bool nb)).setCell ⟨xb, 1, none⟩ (.slice bo kb cb)).setCell ⟨yb, 0, none⟩ (.bool n3)).setCell ⟨yb, 1, none⟩ (.slice o3 k3 c3)) := ((((K.out.2.2.2.2.trans (hb3.mono hwr)).setCell hxW _).setCell hxW _).setCell (show W0.heap.size ≤ yb by omega) _).setCell (show W0.heap.size ≤ yb by omega) _
        have hal : ∀ (V : World) (p q : Obj), Below V.heap.size V ((V.alloc p).alloc q) := fun V p q => ((Below.refl _ _).alloc (Nat.le_refl _) _).alloc (by simp) _
        refine ⟨Y, X % Y, nb, bo, kb, cb, n3, o3, k3, c3, (g4.alloc _).alloc _, (g3.alloc _).alloc _, hy9.below (hal _ _ _), hr9.below (hal _ _ _), hb9.trans ((hal _ _ _).mono hb9.size), Hid.mk ⟨?_, rfl⟩⟩
        rw [← HG.out.1, Nat.gcd_comm X Y, Nat.gcd_rec Y X, Nat.gcd_comm]
end Go.Proofs.YtfjbijpagaipnaaGreatDoor.R

/- matricesref.M: Divisor. -/
namespace Go.Proofs.YtfjbijpagaipnaaGreatDoor.R
open Go.RowKit

/-- The greatest common divisor of a and of the minors of the rows rs. -/
def gR (f : Nat → Nat → Int) (rs : List Nat) (css : List (List Nat)) (a : Nat) : Nat := css.foldl (fun a cs => Nat.gcd a (minorF f rs cs).natAbs) a
def gA (f : Nat → Nat → Int) (rss css : List (List Nat)) (a : Nat) : Nat := rss.foldl (fun a rs => gR f rs css a) a
theorem gR_zero (f : Nat → Nat → Int) (rs : List Nat) : ∀ (css : List (List Nat)) (a : Nat), gR f rs css a = 0 ↔ a = 0 ∧ ∀ cs ∈ css, minorF f rs cs = 0 := by
  intro css
  induction css with
  | nil => intro a; simp [gR]
  | cons c t ih =>
    intro a
    have : gR f rs (c :: t) a = gR f rs t (Nat.gcd a (minorF f rs c).natAbs) := rfl
    rw [this, ih, Nat.gcd_eq_zero_iff]
    simp only [List.mem_cons, forall_eq_or_imp, Int.natAbs_eq_zero]
    constructor
    · rintro ⟨⟨h1, h2⟩, h3⟩; exact ⟨h1, h2, h3⟩
    · rintro ⟨h1, h2, h3⟩; exact ⟨⟨h1, h2⟩, h3⟩
theorem gA_zero (f : Nat → Nat → Int) (css : List (List Nat)) : ∀ (rss : List (List Nat)) (a : Nat), gA f rss css a = 0 ↔ a = 0 ∧ ∀ rs ∈ rss, ∀ cs ∈ css, minorF f rs cs = 0 := by
  intro rss
  induction rss with
  | nil => intro a; simp [gA]
  | cons r t ih =>
    intro a
    have : gA f (r :: t) css a = gA f t css (gR f r css a) := rfl
    rw [this, ih, gR_zero]
    simp only [List.mem_cons, forall_eq_or_imp]
    constructor
    · rintro ⟨⟨h1, h2⟩, h3⟩; exact ⟨h1, h2, h3⟩
    · rintro ⟨h1, h2, h3⟩; exact ⟨⟨h1, h2⟩, h3⟩
theorem gR_next (f : Nat → Nat → Int) (rs : List Nat) (css : List (List Nat)) (a t : Nat) (ht : t < css.length) : gR f rs (css.take (t + 1)) a = Nat.gcd (gR f rs (css.take t) a) (minorF f rs (css.getD t [])).natAbs := by
  unfold gR
  rw [List.take_add_one, List.foldl_append, List.getD, List.getElem?_eq_getElem ht]
  rfl
theorem gA_next (f : Nat → Nat → Int) (rss css : List (List Nat)) (a t : Nat) (ht : t < rss.length) : gA f (rss.take (t + 1)) css a = gR f (rss.getD t []) css (gA f (rss.take t) css a) := by
  unfold gA
  rw [List.take_add_one, List.foldl_append, List.getD, List.getElem?_eq_getElem ht]
  rfl
/-- The greatest common divisor of all minors of k rows. -/
def divF (f : Nat → Nat → Int) (r c k : Nat) : Nat := gA f (chosenL k r) (chosenL k c) 0
theorem LM_ge (L n : Nat) : 3 ≤ LM L n := by
  induction n with
  | zero => exact Nat.le_refl _
  | succ n ih => rw [LM]; omega
theorem LR.grown {w w' : World} {v : Value} {xss : List (List Nat)} {gb : Nat} (h : LR w v xss) (hg : w.grownBy w' (some gb)) (ht : Ty w gb 138) : LR w' v xss := by
  obtain ⟨vs, h1, h2, h3⟩ := h
  have hki : KI w w' := KI.of_grown hg (fun k hk => by injection hk with hk; subst hk; exact ht) (by decide)
  refine ⟨vs, h1.of_block (fun g hgo => hg.block g (h1.own g hgo).1 (fun e => ?_)), h2, fun i hi => (h3 i hi).keep hki⟩
  injection e with e
  subst e
  obtain ⟨c, fr, q⟩ := ht
  obtain ⟨c', fr', q'⟩ := (h1.own g hgo).2
  rw [q] at q'
  simp at q'
/-- A minor lies in a box of its own. -/
def MinorOut (W : World) (z : Int) (L : Nat) (p : Value) (wx : World) : Prop := ∃ (pb : Nat) (nb : Bool) (so : Option Addr) (n cp : Nat), p = .pointer (some ⟨pb, 0, none⟩) ∧ NBox wx pb (.bool nb) (.slice so n cp) ∧ IsN wx (.agg #[.bool nb, .slice so n cp]) z L ∧ Below W.heap.size W wx
set_option maxRecDepth 100000 in
set_option maxHeartbeats 4000000 in
theorem divisor_any (b r c k : Nat) (gs : Nat → Nat) (f : Nat → Nat → Int) (B L : Nat) (w : World) (h : IsR B w b r c gs f L) (hr : r ≤ 8) (hc : c ≤ 8) (hk : k ≤ 8) (hL : L ≤ 1000) (hLM : LM L k ≤ 10000) :
    Calls Tryz.prog 114 #[.pointer (some ⟨b, 0, none⟩), .int .i64 k] w fun e w' => ∃ v, e = .returned v ∧ NOut w w' v ((divF f r c k : Nat) : Int) (LM L k) := by
  have H := Hid.mk (And.intro h hLM)
  obtain ⟨hbl, ao, cap, c0, c1, -⟩ := h.open_
  clear h hLM
  go_enter Tryz.func114, Tryz.ntmps114
  go_wp2_with fail
  refine (of_any 0 _ (by omega)).mono ?_
  rintro e w1 ⟨v1, rfl, hv1, hb1⟩
  obtain ⟨nb, so, cp, zs, rfl, -⟩ := hv1.parts
  obtain ⟨zl, hzl⟩ : ∃ zl, zl = zs.length := ⟨_, rfl⟩
  rw [← hzl] at hv1 ⊢
  clear hzl
  have hR := (NBox.new w (.bool false) (.slice none 0 0) rfl).below hb1 (by simp)
  have hb0 : Below w.heap.size w w1 := ((Below.refl _ _).alloc (Nat.le_refl _) _).trans (hb1.mono (by simp))
  have hw1 : w.heap.size < w1.heap.size := hR.lt
  have hb11 := (Below.refl w1.heap.size w1).alloc (Nat.le_refl _) (.cells #[.bool nb, .slice so zl cp] 138)
  have hbw := hb0.trans (hb11.mono hb0.size)
  have e0 := cell_later hbw c0
  have e1 := cell_later hbw c1
  have K1 := Hid.mk (And.intro (hR.below hb11 hw1) (And.intro (hv1.below hb11) (And.intro hbw (NBox.new w1 (.bool nb) (.slice so zl cp) rfl))))
  clear hv1 hb1 hR hb0 hb11 hbw c0 c1
  go_wp2_with fail
  refine (chosen_any k hk r _ hr).mono ?_
  rintro e w2 ⟨v2, rfl, hv2, hf2, hb2⟩
  have hs2 : w1.heap.size + 1 ≤ w2.heap.size := by have := hb2.size; simpa using this
  have d1 := cell_later hb2 e1
  obtain ⟨ra, rcap, hre, -⟩ := id hv2.shape
  obtain ⟨RS, hRS⟩ : ∃ RS, RS = chosenL k r := ⟨_, rfl⟩
  rw [← hRS] at hv2 hre
  obtain ⟨rl, hrl⟩ : ∃ rl, rl = RS.length := ⟨_, rfl⟩
  rw [← hrl] at hre
  subst hre
  have K2 := Hid.mk (And.intro hv2 (And.intro hb2 (And.intro hRS hrl)))
  clear hv2 hf2 hb2 e0 e1 hRS hrl
  go_wp2_with fail
  refine (chosen_any k hk c _ hc).mono ?_
  rintro e w3 ⟨v3, rfl, hv3, hf3, hb3⟩
  have hs3 := hb3.size
  obtain ⟨ca, ccap, hce, -⟩ := id hv3.shape
  obtain ⟨CS, hCS⟩ : ∃ CS, CS = chosenL k c := ⟨_, rfl⟩
  rw [← hCS] at hv3 hce
  obtain ⟨cl, hcl⟩ : ∃ cl, cl = CS.length := ⟨_, rfl⟩
  rw [← hcl] at hce
  subst hce
  have hb13 := K2.out.2.1.trans (hb3.mono K2.out.2.1.size)
  have hR3 := K1.out.1.below hb13 K1.out.1.lt
  have hG3 := K1.out.2.2.2.below hb13 K1.out.2.2.2.lt
  have K3 := Hid.mk (And.intro (K2.out.1.below hb3) (And.intro hv3 (And.intro (K1.out.2.2.1.trans (hb13.mono K1.out.2.2.1.size)) (And.intro hR3 (And.intro hG3 (And.intro (K1.out.2.1.below hb13) (And.intro hCS hcl)))))))
  clear hv3 hf3 hb3 hb13 hR3 hG3 d1 hCS hcl
  go_wp2_with fail
  obtain ⟨gb, hgb⟩ : ∃ gb, gb = w1.heap.size := ⟨_, rfl⟩
  rw [← hgb] at K3 ⊢
  have hgb1 : w.heap.size + 1 ≤ gb := by omega
  have hgb3 : gb < w3.heap.size := by omega
  have hrl256 : rl ≤ 256 := by rw [K2.out.2.2.2, K2.out.2.2.1]; exact Nat.le_trans (chosenL_len k r) (Nat.le_trans (Nat.pow_le_pow_right (by decide) hr) (by decide))
  have hcl256 : cl ≤ 256 := by rw [K3.out.2.2.2.2.2.2.2, K3.out.2.2.2.2.2.2.1]; exact Nat.le_trans (chosenL_len k c) (Nat.le_trans (Nat.pow_le_pow_right (by decide) hc) (by decide))
  clear hgb hs2 hw1
  go_loopw [8] (fun i wr => ∃ (x : Nat) (nb : Bool) (so : Option Addr) (zl cp : Nat), x ≤ rl ∧ i = .int .i64 x ∧ NBox wr gb (.bool nb) (.slice so zl cp) ∧ IsN wr (.agg #[.bool nb, .slice so zl cp]) ((gA f (RS.take x) CS 0 : Nat) : Int) (LM L k) ∧ w3.grownBy wr (some gb) ∧ Below w.heap.size w wr) (fun i _ => rl - (intOf i).toNat)
  case atStart => exact ⟨0, nb, so, zl, cp, Nat.zero_le _, rfl, K3.out.2.2.2.2.1, K3.out.2.2.2.2.2.1.mono (LM_ge L k), World.grownBy.refl _ _, K3.out.2.2.1⟩
  case round =>
    rename World => wi
    obtain ⟨x, nb, so, zl, cp, hx, rfl, hG, hN, hgr, hbel⟩ := hrel
    have KI' := Hid.mk (And.intro hG (And.intro hN (And.intro hgr hbel)))
    clear hG hN hgr hbel
    by_cases hxr : x < rl
    · have hxi : (x : Int) < (rl : Int) := by omega
      go_wp2_with fail
      go_loopw [9] (fun j wr => ∃ (y : Nat) (nb : Bool) (so : Option Addr) (zl cp : Nat), y ≤ cl ∧ j = .int .i64 y ∧ NBox wr gb (.bool nb) (.slice so zl cp) ∧ IsN wr (.agg #[.bool nb, .slice so zl cp]) ((gR f (RS.getD x []) (CS.take y) (gA f (RS.take x) CS 0) : Nat) : Int) (LM L k) ∧ w3.grownBy wr (some gb) ∧ Below w.heap.size w wr) (fun j _ => cl - (intOf j).toNat)
      case atStart => exact ⟨0, nb, so, zl, cp, Nat.zero_le _, rfl, KI'.out.1, KI'.out.2.1, KI'.out.2.2.1, KI'.out.2.2.2⟩
      case round =>
        rename World => wj
        obtain ⟨y, nb, so, zl, cp, hy, rfl, hG, hN, hgr, hbel⟩ := hrel
        have hwj := hbel.size
        have KJ := Hid.mk (And.intro hG (And.intro hN (And.intro hgr hbel)))
        clear hG hN hgr hbel
        by_cases hyc : y < cl
        · have hyi : (y : Int) < (cl : Int) := by omega
          have hLR1 := K3.out.1.grown KJ.out.2.2.1 K3.out.2.2.2.2.1.ty
          have hLR2 := K3.out.2.1.grown KJ.out.2.2.1 K3.out.2.2.2.2.1.ty
          obtain ⟨ra', rc', e1, r1, r2, r3⟩ := hLR1.shape
          obtain ⟨ca', cc', e2, q1, q2, q3⟩ := hLR2.shape
          simp only [Value.slice.injEq] at e1 e2
          obtain ⟨rfl, -, rfl⟩ := e1
          obtain ⟨rfl, -, rfl⟩ := e2
          obtain ⟨rg, ru, hra, -, rc, ro⟩ := r3 x (by have := K2.out.2.2.2; omega)
          obtain ⟨cg, cu, hca, -, cc, co⟩ := q3 y (by have := K3.out.2.2.2.2.2.2.2; omega)
          subst hra; subst hca
          obtain ⟨rua, rucap, rue, -⟩ := ro.open_
          obtain ⟨cua, cucap, cue, -⟩ := co.open_
          obtain ⟨rx, hrx⟩ : ∃ rx, rx = RS.getD x [] := ⟨_, rfl⟩
          obtain ⟨cy, hcy⟩ : ∃ cy, cy = CS.getD y [] := ⟨_, rfl⟩
          rw [← hrx] at ro rue
          rw [← hcy] at co cue
          have hrm : rx.length = k ∧ ∀ z ∈ rx, z < r := by
            refine chosenL_mem k r rx ?_
            rw [hrx, ← K2.out.2.2.1, List.getD, List.getElem?_eq_getElem (show x < RS.length by have := K2.out.2.2.2; omega)]
            exact List.getElem_mem _
          have hcm : cy.length = k ∧ ∀ z ∈ cy, z < c := by
            refine chosenL_mem k c cy ?_
            rw [hcy, ← K3.out.2.2.2.2.2.2.1, List.getD, List.getElem?_eq_getElem (show y < CS.length by have := K3.out.2.2.2.2.2.2.2; omega)]
            exact List.getElem_mem _
          obtain ⟨rn, hrn⟩ : ∃ rn, rn = rx.length := ⟨_, rfl⟩
          obtain ⟨cn, hcn⟩ : ∃ cn, cn = cy.length := ⟨_, rfl⟩
          rw [← hrn] at rue
          rw [← hcn] at cue
          subst rue; subst cue
          have HE := Hid.mk (And.intro (And.intro ro (And.intro hrm hrx)) (And.intro (And.intro co (And.intro hcm hcy)) (And.intro hrn hcn)))
          have HS := Hid.mk (show ∀ w', Below wj.heap.size wj w' → w'.cell? ⟨rg, x, none⟩ = some (.slice rua rn rucap) ∧ w'.cell? ⟨cg, y, none⟩ = some (.slice cua cn cucap) from fun w' hb => ⟨cell_later hb rc, cell_later hb cc⟩)
          clear hLR1 hLR2 r3 q3 ro co hrm hcm hrx hcy hrn hcn
          have hir : IR wj (.slice rua rn rucap) rx ∧ IR wj (.slice cua cn cucap) cy := by
            have h1 := IR.of_own HE.out.1.1
            have h2 := IR.of_own HE.out.2.1.1
            exact ⟨h1, h2⟩
          have HIR := Hid.mk hir
          clear hir
          go_upto_region 10 with fail
          go_cut [10] from 36 to 46 (fun p wx => MinorOut wj (minorF f rx cy) (LM L k) p wx)
          case first =>
            go_region_held3 (fun w' => w'.cell? ⟨rg, x, none⟩ = some (.slice rua rn rucap) ∧ w'.cell? ⟨cg, y, none⟩ = some (.slice cua cn cucap))
              (exact HS.out _ (by first | exact hb9 | exact (Below.refl _ _).drew | exact ((Below.refl _ _).alloc (Nat.le_refl _) _).drew | exact hb9.alloc hb9.size _ | exact (hb9.setCell (Nat.le_refl _) _).setCell (Nat.le_refl _) _))
              (first
                | (go_at_call 170; refine (minor_any k b r c gs f B L _ _ rx cy _ ((H.out.1.keep (KR.of_below KJ.out.2.2.2)).keep (KR.of_below ((Below.refl _ _).drew))) (HIR.out.1.below ((Below.refl _ _).drew)) (HIR.out.2.below ((Below.refl _ _).drew)) HE.out.1.2.1.1 HE.out.2.1.2.1.1 HE.out.1.2.1.2 HE.out.2.1.2.1.2 hL H.out.2 (by omega)).mono ?_; rintro e w5 ⟨p9, rfl, hp9, hb8⟩; obtain ⟨nb9, so9, cp9, xs9, rfl, -⟩ := hp9.parts; have hb9 : Below wj.heap.size wj w5 := (Below.refl _ _).drew.trans hb8; clear hb8)
                | (go_at_call 170; refine (minor_any k b r c gs f B L _ _ rx cy _ ((H.out.1.keep (KR.of_below KJ.out.2.2.2)).keep (KR.of_below (((Below.refl _ _).alloc (Nat.le_refl _) _).drew))) (HIR.out.1.below (((Below.refl _ _).alloc (Nat.le_refl _) _).drew)) (HIR.out.2.below (((Below.refl _ _).alloc (Nat.le_refl _) _).drew)) HE.out.1.2.1.1 HE.out.2.1.2.1.1 HE.out.1.2.1.2 HE.out.2.1.2.1.2 hL H.out.2 (by omega)).mono ?_; rintro e w5 ⟨p9, rfl, hp9, hb8⟩; obtain ⟨nb9, so9, cp9, xs9, rfl, -⟩ := hp9.parts; have hb9 : Below wj.heap.size wj w5 := ((Below.refl _ _).alloc (Nat.le_refl _) _).drew.trans (hb8.mono (by simp)); have hx9 : NBox w5 wj.heap.size (.bool false) (.slice none 0 0) := (NBox.new wj (.bool false) (.slice none 0 0) rfl).drew2.below hb8 (by simp); have hx8 := hx9.cells; clear hb8))
            all_goals
              go_wp2_with fail
              go_meet
              case rel =>
                first
                  | exact ⟨_, _, _, _, _, rfl, NBox.new _ _ _ rfl, hp9.below ((Below.refl _ _).alloc (Nat.le_refl _) _), hb9.alloc hb9.size _⟩
                  | exact ⟨_, _, _, _, _, rfl, hx9.put _ _, hp9.box hx9.ty (by decide) _ _, (hb9.setCell (Nat.le_refl _) _).setCell (Nat.le_refl _) _⟩
          case rest =>
            obtain ⟨pb, nb5, so5, n5, cp5, rfl, hPB, hp, hbp⟩ := hcut
            have hG5 := KJ.out.1.below hbp KJ.out.1.lt
            obtain ⟨p0, p1, -, -⟩ := hPB.cells
            obtain ⟨g0, g1, g2, g3⟩ := hG5.cells
            have hwc := hbp.size
            have K5 := Hid.mk (And.intro hG5 (And.intro hp (And.intro (KJ.out.2.1.below hbp) hbp)))
            clear hPB hp hbp hG5
            go_wp2_with fail
            refine (common_any _ _ _ (minorF f rx cy) (LM L k) _ K5.out.2.2.1 K5.out.2.1 H.out.2).mono ?_
            rintro e w6 ⟨v6, rfl, hv6, hb6⟩
            obtain ⟨nb6, so6, cp6, zs6, rfl, -⟩ := hv6.parts
            obtain ⟨l6, hl6⟩ : ∃ l6, l6 = zs6.length := ⟨_, rfl⟩
            rw [← hl6] at hv6 ⊢
            clear hl6 p0 p1 g0 g1 g2 g3
            have hbj6 : Below wj.heap.size wj w6 := K5.out.2.2.2.trans (hb6.mono hwc)
            have hG6 := KJ.out.1.below hbj6 KJ.out.1.lt
            obtain ⟨g0, g1, g2, g3⟩ := hG6.cells
            have K6 := Hid.mk (And.intro hG6 (And.intro hv6 hbj6))
            clear hG6 hv6 hb6 hbj6
            go_wp2_with fail
            go_roundw
            case measure => simp [intOf]; omega
            case rel =>
              refine ⟨y + 1, nb6, so6, l6, cp6, by omega, by go_num, K6.out.1.put _ _, ?_, grown_put2 (grown_below KJ.out.2.2.1 K6.out.2.2), ((KJ.out.2.2.2.trans (K6.out.2.2.mono hwj)).setCell (by simp; omega) _).setCell (by simp; omega) _⟩
              have h1 := K6.out.2.1.box K6.out.1.ty (by decide) (.bool nb6) (.slice so6 l6 cp6)
              rw [gR_next f _ CS _ y (by have := K3.out.2.2.2.2.2.2.2; omega), ← HE.out.1.2.2, ← HE.out.2.1.2.2]
              rw [← HE.out.1.2.2, Int.natAbs_natCast] at h1
              exact h1
        · have hye : y = cl := by omega
          have HYE := Hid.mk hye
          clear hye
          go_wp2_with fail
          go_roundw
          case measure => simp [intOf]; omega
          case rel =>
            refine ⟨x + 1, nb, so, zl, cp, by omega, by go_num, KJ.out.1, ?_, KJ.out.2.2.1, KJ.out.2.2.2⟩
            have := KJ.out.2.1
            rw [List.take_of_length_le (by have := K3.out.2.2.2.2.2.2.2; have := HYE.out; omega)] at this
            rw [gA_next f RS CS 0 x (by have := K2.out.2.2.2; omega)]
            exact this
    · have hxe : x = rl := by omega
      have HXE := Hid.mk hxe
      clear hxe
      have hRb : wi.heap[w.heap.size]? = w3.heap[w.heap.size]? := KI'.out.2.2.1.block _ (by omega) (by simp; omega)
      have hRD : NBox wi w.heap.size (.bool false) (.slice none 0 0) := by unfold NBox; rw [hRb]; exact K3.out.2.2.2.1
      obtain ⟨s0, s1, s2, s3⟩ := hRD.cells
      obtain ⟨g0, g1, -, -⟩ := KI'.out.1.cells
      have HR := Hid.mk hRD
      clear hRb hRD
      go_wp2_with fail
      obtain ⟨t1, t2, -, -⟩ := (HR.out.put (.bool nb) (.slice so zl cp)).cells
      refine bodyPost_ret (v := .agg #[.bool nb, .slice so zl cp]) ?_ rfl ?_
      · (simp [results, Tryz.results114, go_sem, t1, t2]; done)
      · refine ⟨_, rfl, ?_, (KI'.out.2.2.2.setCell (Nat.le_refl _) _).setCell (Nat.le_refl _) _⟩
        have h1 := KI'.out.2.1.box HR.out.ty (by decide) (.bool nb) (.slice so zl cp)
        rw [List.take_of_length_le (by have := K2.out.2.2.2; have := HXE.out; omega)] at h1
        unfold divF
        rw [← K2.out.2.2.1, ← K3.out.2.2.2.2.2.2.1]
        exact h1
end Go.Proofs.YtfjbijpagaipnaaGreatDoor.R

/- matricesref.M: Rank. -/
namespace Go.Proofs.YtfjbijpagaipnaaGreatDoor.R
open Go.RowKit

/-- k is the greatest number of rows with a minor that is not 0, counted up from 0. -/
def RankIs (f : Nat → Nat → Int) (r c k : Nat) : Prop := k ≤ r ∧ k ≤ c ∧ (∀ i, i < k → divF f r c (i + 1) ≠ 0) ∧ (k = r ∨ k = c ∨ divF f r c (k + 1) = 0)
set_option maxRecDepth 100000 in
set_option maxHeartbeats 2000000 in
theorem rank_any (b r c : Nat) (gs : Nat → Nat) (f : Nat → Nat → Int) (B L : Nat) (w : World) (h : IsR B w b r c gs f L) (hr : r ≤ 7) (hc : c ≤ 7) (hL : L ≤ 1000) :
    Calls Tryz.prog 112 #[.pointer (some ⟨b, 0, none⟩)] w fun e w' => ∃ k : Nat, e = .returned (.int .i64 k) ∧ RankIs f r c k ∧ Below w.heap.size w w' := by
  have H := Hid.mk h
  have hLM : ∀ k, k ≤ 8 → LM L k ≤ 10000 := by
    intro k hk
    have h1 : ∀ n, LM L n ≤ 3 + n * (L + n + 5) := by
      intro n
      induction n with
      | zero => simp [LM]
      | succ n ih =>
        rw [LM, Nat.succ_mul]
        have : n * (L + n + 5) ≤ n * (L + (n + 1) + 5) := Nat.mul_le_mul_left _ (by omega)
        omega
    have h2 := h1 k
    have h3 : k * (L + k + 5) ≤ 8 * (1000 + 8 + 5) := Nat.mul_le_mul hk (by omega)
    omega
  have HL := Hid.mk hLM
  obtain ⟨hbl, ao, cap, c0, c1, -⟩ := h.open_
  clear h hLM
  go_enter Tryz.func112, Tryz.ntmps112
  go_wp2_with fail
  go_loopw [3] (fun k wr => ∃ t : Nat, t ≤ r ∧ t ≤ c ∧ k = .int .i64 t ∧ Below w.heap.size w wr ∧ Hid (∀ i, i < t → divF f r c (i + 1) ≠ 0)) (fun k _ => r - (intOf k).toNat)
  case atStart => exact ⟨0, Nat.zero_le _, Nat.zero_le _, rfl, Below.refl _ _, Hid.mk (fun i hi => by omega)⟩
  case round =>
    obtain ⟨t, htr, htc, rfl, hbel, HT⟩ := hrel
    have e0 := cell_later hbel c0
    have e1 := cell_later hbel c1
    have hwr := hbel.size
    have K := Hid.mk hbel
    clear hbel
    by_cases h1 : t < r
    · have h1i : (t : Int) < (r : Int) := by omega
      by_cases h2 : t < c
      · have h2i : (t : Int) < (c : Int) := by omega
        go_wp2_with fail
        refine (divisor_any b r c (t + 1) gs f B L _ (H.out.keep (KR.of_below K.out)) (by omega) (by omega) (by omega) hL (HL.out _ (by omega))).mono ?_
        rintro e w2 ⟨v2, rfl, hv2, hb2⟩
        obtain ⟨nb, so, cp, zs, rfl, -⟩ := hv2.parts
        obtain ⟨zl, hzl⟩ : ∃ zl, zl = zs.length := ⟨_, rfl⟩
        rw [← hzl] at hv2 ⊢
        clear hzl
        have hb22 := (Below.refl w2.heap.size w2).alloc (Nat.le_refl _) (.cells #[.bool nb, .slice so zl cp] 138)
        have hbA : Below wr.heap.size wr (w2.alloc (.cells #[.bool nb, .slice so zl cp] 138)) := hb2.trans (hb22.mono hb2.size)
        obtain ⟨D, hD⟩ : ∃ D, D = divF f r c (t + 1) := ⟨_, rfl⟩
        rw [← hD] at hv2
        have K2 := Hid.mk (And.intro (hv2.below hb22) (And.intro hbA hD))
        clear hv2 hb2 hb22 hbA hD
        go_wp2_with fail
        refine (sign_any _ (D : Int) (LM L (t + 1)) _ K2.out.1).mono ?_
        rintro e w3 ⟨rfl, hb3⟩
        have hb03 : Below w.heap.size w w3 := K.out.trans ((K2.out.2.1.trans (hb3.mono K2.out.2.1.size)).mono hwr)
        obtain ⟨sg, hsg⟩ : ∃ sg, sg = sgn (D : Int) := ⟨_, rfl⟩
        rw [← hsg]
        have K3 := Hid.mk (And.intro hb03 hsg)
        clear hb3 hb03 hsg
        by_cases hs : sg = 0
        · subst hs
          have hD0 : D = 0 := by
            have := K3.out.2
            unfold sgn at this
            split at this
            · omega
            · split at this <;> omega
          have HD := Hid.mk hD0
          clear hD0
          go_wp2_with fail
          go_ret
          exact ⟨t, rfl, ⟨htr, htc, HT.out, .inr (.inr (by rw [← K2.out.2.2]; exact HD.out))⟩, K3.out.1⟩
        · have hs1 : (sg == 0) = false := beq_eq_false_iff_ne.2 hs
          have hD0 : D ≠ 0 := by
            intro e
            have h9 := K3.out.2
            rw [e] at h9
            exact hs (by rw [h9]; rfl)
          have HD := Hid.mk hD0
          clear hD0
          go_wp2_with fail
          go_roundw
          case measure => simp [intOf]; omega
          case rel =>
            refine ⟨t + 1, by omega, by omega, by go_num, K3.out.1, Hid.mk (fun i hi => ?_)⟩
            by_cases hit : i = t
            · rw [hit, ← K2.out.2.2]; exact HD.out
            · exact HT.out i (by omega)
      · have h2i : ¬ (t : Int) < (c : Int) := by omega
        go_wp2_with fail
        go_ret
        exact ⟨t, rfl, ⟨htr, htc, HT.out, .inr (.inl (by omega))⟩, K.out⟩
    · have h1i : ¬ (t : Int) < (r : Int) := by omega
      go_wp2_with fail
      go_ret
      exact ⟨t, rfl, ⟨htr, htc, HT.out, .inl (by omega)⟩, K.out⟩
end Go.Proofs.YtfjbijpagaipnaaGreatDoor.R
