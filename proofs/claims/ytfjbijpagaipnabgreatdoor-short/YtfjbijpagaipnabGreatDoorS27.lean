import Derived.Test.YtfjbijpagaipnabGreatDoorS26
import Derived.Test.YtfjbijpagaipnabGreatDoorS16
import Derived.Test.YtfjbijpagaipnabGreatDoorS09
import Derived.Test.YtfjbijpagaipnabGreatDoorS24
namespace Go.Proofs.YtfjbijpagaipnabGreatDoor
open Go.RowKit
structure ShO (w : World) (p gR gT n c m : Nat) (zs ts : List Int) (L K : Nat) : Prop where
 R : MatO w p 0 gR n c zs L
 T : MatO w p 3 gT n m ts K
 d1 : p ≠ gR
 d2 : p ≠ gT
 d3 : gR ≠ gT
theorem ShO.later {w w' : World} {p gR gT n c m L K : Nat} {zs ts : List Int} (h : ShO w p gR gT n c m zs ts L K) (hb : Below w.heap.size w w') : ShO w' p gR gT n c m zs ts L K := ⟨h.R.later hb, h.T.later hb, h.d1, h.d2, h.d3⟩
def lsL : Nat → Nat
 | 0 => 6
 | j + 1 => 9 * lsL j + 45
theorem lsL_le {j : Nat} (hj : j ≤ 2) : lsL j ≤ 936 := by
 obtain rfl | rfl | rfl : j = 0 ∨ j = 1 ∨ j = 2 := by omega
 all_goals decide
set_option maxRecDepth 100000 in
set_option maxHeartbeats 8000000 in
theorem shLess_any (p gR gT n c m k : Nat) (zs ts : List Int) (K : Nat) (w : World) (h : ShO w p gR gT n c m zs ts 6 K) (hk : k < n) (hk3 : k ≤ 3) (hc4 : c ≤ 4) (hK : K ≤ 100000000) (hpos : ∀ j, j < k → 0 < volE c (lesN c k (ent c zs) j) (k - 1 - j + 1)) :
 Calls Tryz.prog 123 #[.pointer (some ⟨p, 0, none⟩), .int .i64 k] w fun e w' => e = .returned (.tuple #[]) ∧ ∃ zs' ts', ShO w' p gR gT n c m zs' ts' (lsL k) (K + lsL k) ∧ (∀ i j, i < n → j < c → ent c zs' i j = lesN c k (ent c zs) k i j) ∧ (∀ i j, i < n → j < m → ent m ts' i j = lesT c k (ent c zs) (ent m ts) k i j) ∧ Chg3 w w' gR gT gT := by
 have F := Hid.mk (And.intro h hpos)
 clear h hpos
 go_enter Tryz.func123, Tryz.ntmps123
 go_wp2_with fail
 go_loopw [4] (fun qv wr => ∃ (j : Nat) (zs' ts' : List Int), j ≤ k ∧ qv = .int .i64 ((k : Int) - 1 - j) ∧ Hid (ShO wr p gR gT n c m zs' ts' (lsL j) (K + lsL j) ∧ (∀ i t, i < n → t < c → ent c zs' i t = lesN c k (ent c zs) j i t) ∧ (∀ i t, i < n → t < m → ent m ts' i t = lesT c k (ent c zs) (ent m ts) j i t) ∧ Chg3 w wr gR gT gT)) (fun qv _ => (intOf qv + 1).toNat)
 case atStart =>
  refine ⟨0, zs, ts, Nat.zero_le _, by simp, Hid.mk ⟨⟨F.out.1.R, F.out.1.T.mono (by omega), F.out.1.d1, F.out.1.d2, F.out.1.d3⟩, fun _ _ _ _ => rfl, fun _ _ _ _ => rfl, Chg3.refl _ _ _ _⟩⟩
 case round =>
  rename World => wr
  obtain ⟨j, zs1, ts1, hj, rfl, KI⟩ := hrel
  by_cases hjk : j < k
  ·obtain ⟨q, hq⟩ : ∃ q, q = k - 1 - j := ⟨_, rfl⟩
   have hqi : (k : Int) - 1 - j = (q : Nat) := by omega
   have HQ := Hid.mk hq
   have hqk : q < k := by omega
   have hq1i : (q : Int) + 1 = ((q + 1 : Nat) : Int) := by omega
   have hLb := lsL_le (j := j) (by omega)
   obtain ⟨Lj, hLj⟩ : ∃ Lj, Lj = lsL j := ⟨_, rfl⟩
   rw [← hLj] at KI hLb
   have HLJ := Hid.mk hLj
   clear hq hLj
   rw [hqi]
   obtain ⟨q1, hq1⟩ : ∃ q1, q1 = q + 1 := ⟨_, rfl⟩
   rw [← hq1] at hq1i
   have HQ1 := Hid.mk hq1
   have hq1n : q1 ≤ n := by omega
   have hq14 : q1 ≤ 4 := by omega
   clear hqi hq1
   obtain ⟨NC, hNC⟩ : ∃ NC, NC = n * c := ⟨_, rfl⟩
   have hIM := KI.out.1.R.isM
   have hTri := KI.out.1.R.tri
   rw [← hNC] at hIM hTri
   obtain ⟨a0, a1, a2⟩ := hTri
   simp only [Nat.zero_add] at a1 a2
   have HIM := Hid.mk hIM
   have HNC := Hid.mk hNC
   clear hIM hNC
   go_wp2_with fail
   refine (lean_any _ n c k q zs1 Lj _ HIM.out hk (by omega) (by omega) hc4 (by omega)).mono ?_
   rintro e w1 ⟨r1, rfl, hx1, hb1⟩
   obtain ⟨nb1, so1, m1, cp1, rfl⟩ := hx1.shape
   obtain ⟨W1, hW1⟩ : ∃ W1, W1 = w1.alloc (.cells #[.bool nb1, .slice so1 m1 cp1] 79) := ⟨_, rfl⟩
   have hb11 : Below w1.heap.size w1 W1 := by rw [hW1]; exact (Below.refl _ _).alloc (Nat.le_refl _) _
   have hB1 : Below wr.heap.size wr W1 := hb1.trans (hb11.mono hb1.size)
   have hs1 : w1.heap.size < W1.heap.size ∧ wr.heap.size ≤ w1.heap.size := ⟨by rw [hW1]; simp, hb1.size⟩
   have K1 : Hid (Duo W1 w1.heap.size (.bool nb1) (.slice so1 m1 cp1) ∧ IsI W1 (.agg #[.bool nb1, .slice so1 m1 cp1]) (lamE c (ent c zs1) k q) (8 * Lj + 40) ∧ Below wr.heap.size wr W1) := Hid.mk ⟨by rw [hW1]; exact Duo.new w1 _ _ rfl, hx1.below hb11, hB1⟩
   have HW1 := Hid.mk hW1
   clear hx1 hb1 hb11 hB1 hW1 a0 a1 a2
   obtain ⟨a0, a1, a2⟩ := KI.out.1.R.tri.later K1.out.2.2
   rw [← HNC.out] at a2
   simp only [Nat.zero_add] at a1 a2
   go_upto_region 4 with fail
   rw [← HW1.out]
   go_wp2_with fail
   refine (volume_any _ n c q1 zs1 Lj _ (HIM.out.below K1.out.2.2) hq1n hq14 hc4 (by omega)).mono ?_
   rintro e w2 ⟨r2, rfl, hx2, hb2⟩
   obtain ⟨nb2, so2, m2, cp2, rfl⟩ := hx2.shape
   obtain ⟨W2, hW2⟩ : ∃ W2, W2 = w2.alloc (.cells #[.bool nb2, .slice so2 m2 cp2] 79) := ⟨_, rfl⟩
   have hb22 : Below w2.heap.size w2 W2 := by rw [hW2]; exact (Below.refl _ _).alloc (Nat.le_refl _) _
   have hB2 : Below W1.heap.size W1 W2 := hb2.trans (hb22.mono hb2.size)
   have hs2 : w2.heap.size < W2.heap.size ∧ W1.heap.size ≤ w2.heap.size := ⟨by rw [hW2]; simp, hb2.size⟩
   have hpv : 0 < volE c (ent c zs1) q1 := by
    have h1 := F.out.2 j hjk
    rw [← HQ.out, ← HQ1.out] at h1
    rw [detF_cong (b' := lesN c k (ent c zs) j) (fun i t hi ht => KI.out.2.1 i t (by omega) ht)]
    exact h1
   have K2 : Hid (Duo W2 w2.heap.size (.bool nb2) (.slice so2 m2 cp2) ∧ IsI W2 (.agg #[.bool nb2, .slice so2 m2 cp2]) (volE c (ent c zs1) q1) (8 * Lj + 40) ∧ Below W1.heap.size W1 W2 ∧ Below wr.heap.size wr W2) := Hid.mk ⟨by rw [hW2]; exact Duo.new w2 _ _ rfl, hx2.below hb22, hB2, K1.out.2.2.trans (hB2.mono (by omega))⟩
   have HPV := Hid.mk hpv
   have HW2 := Hid.mk hW2
   clear hx2 hb2 hb22 hB2 hW2 a0 a1 a2 hpv
   obtain ⟨b0, b1, -, -⟩ := (K1.out.1.below K2.out.2.2.1 hs1.1).cells
   obtain ⟨c0, c1, -, -⟩ := K2.out.1.cells
   go_upto_region 5 with fail
   rw [← HW2.out]
   go_wp2_with fail
   refine (near_any _ _ _ _ (8 * Lj + 40) (8 * Lj + 40) _ (K1.out.2.1.below K2.out.2.2.1) K2.out.2.1 HPV.out (by omega) (by omega)).mono ?_
   rintro e w3 ⟨r3, rfl, hx3, hb3⟩
   obtain ⟨nb3, so3, m3, cp3, rfl⟩ := hx3.shape
   obtain ⟨W3, hW3⟩ : ∃ W3, W3 = w3.alloc (.cells #[.bool nb3, .slice so3 m3 cp3] 79) := ⟨_, rfl⟩
   have hb33 : Below w3.heap.size w3 W3 := by rw [hW3]; exact (Below.refl _ _).alloc (Nat.le_refl _) _
   have hB3 : Below wr.heap.size wr W3 := K2.out.2.2.2.trans ((hb3.trans (hb33.mono hb3.size)).mono (by omega))
   have hs3 : w3.heap.size < W3.heap.size ∧ W2.heap.size ≤ w3.heap.size := ⟨by rw [hW3]; simp, hb3.size⟩
   obtain ⟨sh, hsh⟩ : ∃ sh, sh = nearF (lamE c (ent c zs1) k q) (volE c (ent c zs1) q1) := ⟨_, rfl⟩
   rw [← hsh] at hx3
   have HSH := Hid.mk hsh
   have K3 : Hid (Duo W3 w3.heap.size (.bool nb3) (.slice so3 m3 cp3) ∧ IsI W3 (.agg #[.bool nb3, .slice so3 m3 cp3]) sh (8 * Lj + 40 + 4) ∧ ShO W3 p gR gT n c m zs1 ts1 Lj (K + Lj) ∧ Below wr.heap.size wr W3) := Hid.mk ⟨by rw [hW3]; exact Duo.new w3 _ _ rfl, hx3.below hb33, KI.out.1.later hB3, hB3⟩
   have HW3 := Hid.mk hW3
   have hgR := KI.out.1.R.glt
   have hgT := KI.out.1.T.glt
   have hpl := KI.out.1.R.plt
   clear hx3 hb3 hb33 hB3 hW3 b0 b1 c0 c1 hsh K1 K2
   have hbd : Below W3.heap.size W3 W3.drew := (Below.refl _ _).drew
   go_upto_region 6 with fail
   rw [← HW3.out]
   go_region_held3 (fun w' => w'.cell? ⟨w3.heap.size, 0, none⟩ = some (.bool nb3) ∧ w'.cell? ⟨w3.heap.size, 1, none⟩ = some (.slice so3 m3 cp3))
    (first | exact hS4 | exact ⟨K3.out.1.cells.1, K3.out.1.cells.2.1⟩)
    (first | (go_at_call 108; refine (takeRow_any p 0 gR n c k q zs1 Lj (8 * Lj + 40 + 4) _ sh _ (K3.out.2.2.1.R.later hbd) (K3.out.2.1.below hbd) (by omega) (by omega) K3.out.2.2.1.d1 hk (by omega) (by omega)).mono ?_; rintro e w4 ⟨rfl, ⟨zs2, hM4, hf4⟩, hg4⟩; have hD4 : Duo w4 w3.heap.size (.bool nb3) (.slice so3 m3 cp3) := (hg4.block _ (show w3.heap.size < W3.heap.size by omega) (fun e => by injection e with e; omega)).trans K3.out.1; have hS4 := And.intro hD4.cells.1 hD4.cells.2.1))
   have hk4 : KU W3.drew w4 := KU.of_grown hg4 (K3.out.2.2.1.R.later hbd).grid.ty (by decide)
   have hT4 : MatO w4 p 3 gT n m ts1 (K + Lj) := (K3.out.2.2.1.T.later hbd).other hg4 hk4 K3.out.2.2.1.d1 (fun e => K3.out.2.2.1.d3 e.symm)
   have hs4 : W3.heap.size ≤ w4.heap.size := hg4.size
   have K4 := Hid.mk (And.intro hM4 (And.intro hf4 (And.intro hT4 (And.intro hD4 (And.intro ((K3.out.2.1.below hbd).keep hk4) (Chg3.of_grown (g1 := gR) (g2 := gT) (g3 := gT) hg4 (.inl rfl)))))))
   have hbd4 : Below w4.heap.size w4 w4.drew := (Below.refl _ _).drew
   clear hM4 hf4 hg4 hk4 hT4 hD4 hS4
   go_wp2_with fail
   go_region_held3 (fun w' => w'.cell? ⟨w3.heap.size, 0, none⟩ = some (.bool nb3) ∧ w'.cell? ⟨w3.heap.size, 1, none⟩ = some (.slice so3 m3 cp3))
    (first | exact hS5 | exact ⟨K4.out.2.2.2.1.cells.1, K4.out.2.2.2.1.cells.2.1⟩)
    (first | (go_at_call 108; refine (takeRow_any p 3 gT n m k q ts1 (K + Lj) (8 * Lj + 40 + 4) _ sh _ (K4.out.2.2.1.later hbd4) (K4.out.2.2.2.2.1.below hbd4) (by omega) (by omega) K3.out.2.2.1.d2 hk (by omega) (by omega)).mono ?_; rintro e w5 ⟨rfl, ⟨ts2, hM5, hf5⟩, hg5⟩; have hD5 : Duo w5 w3.heap.size (.bool nb3) (.slice so3 m3 cp3) := (hg5.block _ (show w3.heap.size < w4.heap.size by omega) (fun e => by injection e with e; omega)).trans K4.out.2.2.2.1; have hS5 := And.intro hD5.cells.1 hD5.cells.2.1))
   have hk5 : KU w4.drew w5 := KU.of_grown hg5 (K4.out.2.2.1.later hbd4).grid.ty (by decide)
   have hR5 : MatO w5 p 0 gR n c zs2 (Lj + (8 * Lj + 40 + 4) + 1) := (K4.out.1.later hbd4).other hg5 hk5 K3.out.2.2.1.d2 K3.out.2.2.1.d3
   have hshE : shE c (lesN c k (ent c zs) j) k q = sh := by
    unfold shE
    rw [HSH.out, ← HQ1.out, lam_cong (b' := lesN c k (ent c zs) j) (fun i t hi ht => KI.out.2.1 i t (by omega) ht) (fun t ht => KI.out.2.1 k t hk ht), detF_cong (b' := lesN c k (ent c zs) j) (fun i t hi ht => KI.out.2.1 i t (by omega) ht)]
   have HN : Hid (ShO w5 p gR gT n c m zs2 ts2 (lsL (j + 1)) (K + lsL (j + 1)) ∧ (∀ i t, i < n → t < c → ent c zs2 i t = lesN c k (ent c zs) (j + 1) i t) ∧ (∀ i t, i < n → t < m → ent m ts2 i t = lesT c k (ent c zs) (ent m ts) (j + 1) i t) ∧ Chg3 w w5 gR gT gT) := Hid.mk ⟨⟨hR5.mono (by rw [lsL, ← HLJ.out]; omega), hM5.mono (by rw [lsL, ← HLJ.out]; omega), K3.out.2.2.1.d1, K3.out.2.2.1.d2, K3.out.2.2.1.d3⟩, fun i t hi ht => by
    rw [K4.out.2.1 i t hi ht, lesN, ← HQ.out, hshE]
    unfold tkR
    by_cases e0 : i = k
    ·rw [if_pos e0, if_pos e0, KI.out.2.1 k t hk ht, KI.out.2.1 q t (by omega) ht]
    ·rw [if_neg e0, if_neg e0, KI.out.2.1 i t hi ht], fun i t hi ht => by
    rw [hf5 i t hi ht, lesT, ← HQ.out, hshE]
    unfold tkR
    by_cases e0 : i = k
    ·rw [if_pos e0, if_pos e0, KI.out.2.2.1 k t hk ht, KI.out.2.2.1 q t (by omega) ht]
    ·rw [if_neg e0, if_neg e0, KI.out.2.2.1 i t hi ht], (((KI.out.2.2.2.trans (Chg3.of_below _ _ _ K3.out.2.2.2)).trans (Chg3.of_below _ _ _ hbd)).trans K4.out.2.2.2.2.2).trans ((Chg3.of_below _ _ _ hbd4).trans (Chg3.of_grown hg5 (.inr (.inl rfl))))⟩
   clear hM5 hf5 hg5 hk5 hR5 hD5 hS5 hshE
   go_wp2_with fail
   go_roundw
   case measure => simp [intOf]
   case rel => exact ⟨j + 1, zs2, ts2, by omega, by have := HQ.out; go_num, HN⟩
  ·obtain rfl : j = k := by omega
   have hq0 : ¬ (0 : Int) ≤ (j : Int) - 1 - j := by omega
   go_wp2_with fail
   go_end0
   exact ⟨rfl, zs1, ts1, KI.out.1, KI.out.2.1, KI.out.2.2.1, KI.out.2.2.2⟩
open Go.RowKit
def Bk (w : World) (p gR gT n c m : Nat) : Prop := w.heap[p]? = some (.cells #[.int .i64 n, .int .i64 c, .slice (some ⟨gR, 0, none⟩) (n * c) (n * c), .int .i64 n, .int .i64 m, .slice (some ⟨gT, 0, none⟩) (n * m) (n * m)] 133 (0, 0))
theorem Bk.chg {w w' : World} {p gR gT n c m g1 g2 g3 : Nat} (h : Bk w p gR gT n c m) (hc : Chg3 w w' g1 g2 g3) (h1 : p ≠ g1) (h2 : p ≠ g2) (h3 : p ≠ g3) : Bk w' p gR gT n c m := by
 unfold Bk
 rw [hc.block p (Array.getElem?_eq_some_iff.1 h).1 h1 h2 h3]
 exact h
theorem Bk.lt {w : World} {p gR gT n c m : Nat} (h : Bk w p gR gT n c m) : p < w.heap.size := (Array.getElem?_eq_some_iff.1 h).1
set_option maxRecDepth 100000 in
set_option maxHeartbeats 1000000 in
theorem shSwap_any (p gR gT n c m a b : Nat) (zs ts : List Int) (L K : Nat) (w : World) (h : ShO w p gR gT n c m zs ts L K) (ha : a < n) (hb : b < n) :
 Calls Tryz.prog 127 #[.pointer (some ⟨p, 0, none⟩), .int .i64 a, .int .i64 b] w fun e w' => e = .returned (.tuple #[]) ∧ ∃ zs' ts', ShO w' p gR gT n c m zs' ts' L K ∧ (∀ i j, i < n → j < c → ent c zs' i j = ent c zs (sw a b i) j) ∧ (∀ i j, i < n → j < m → ent m ts' i j = ent m ts (sw a b i) j) ∧ Chg3 w w' gR gT gT := by
 have F := Hid.mk h
 clear h
 go_enter Tryz.func127, Tryz.ntmps127
 go_wp2_with fail
 refine (swapRows_any p 0 gR n c a b zs L _ F.out.R F.out.d1 ha hb).mono ?_
 rintro e w1 ⟨rfl, ⟨zs1, hM1, hf1⟩, hg1⟩
 have hk1 : KU w w1 := KU.of_grown hg1 F.out.R.grid.ty (by decide)
 have hT1 : MatO w1 p 3 gT n m ts K := F.out.T.other hg1 hk1 F.out.d1 (fun e => F.out.d3 e.symm)
 have K1 := Hid.mk (And.intro hM1 (And.intro hf1 (And.intro hT1 (Chg3.of_grown (g1 := gR) (g2 := gT) (g3 := gT) hg1 (.inl rfl)))))
 clear hM1 hf1 hg1 hk1 hT1
 go_wp2_with fail
 refine (swapRows_any p 3 gT n m a b ts K _ K1.out.2.2.1 F.out.d2 ha hb).mono ?_
 rintro e w2 ⟨rfl, ⟨ts1, hM2, hf2⟩, hg2⟩
 have hk2 : KU w1 w2 := KU.of_grown hg2 K1.out.2.2.1.grid.ty (by decide)
 have hR2 : MatO w2 p 0 gR n c zs1 L := K1.out.1.other hg2 hk2 F.out.d2 F.out.d3
 have K2 := Hid.mk (And.intro hM2 (And.intro hf2 (And.intro hR2 (K1.out.2.2.2.trans (Chg3.of_grown (g1 := gR) (g2 := gT) (g3 := gT) hg2 (.inr (.inl rfl)))))))
 clear hM2 hf2 hg2 hk2 hR2
 go_wp2_with fail
 go_end0
 exact ⟨rfl, zs1, ts1, ⟨K2.out.2.2.1, K2.out.1, F.out.d1, F.out.d2, F.out.d3⟩, K1.out.2.1, K2.out.2.1, K2.out.2.2.2⟩
theorem bk_set3 {w : World} {p : Nat} {x0 x1 x2 x3 x4 x5 : Value} {t : TypeId} (h : w.heap[p]? = some (.cells #[x0, x1, x2, x3, x4, x5] t (0, 0))) (y0 y1 y2 : Value) : (((w.setCell ⟨p, 0, none⟩ y0).setCell ⟨p, 1, none⟩ y1).setCell ⟨p, 2, none⟩ y2).heap[p]? = some (.cells #[y0, y1, y2, x3, x4, x5] t (0, 0)) := by
 rw [heap_setCell_same _ _ _ _ _ _ (heap_setCell_same _ _ _ _ _ _ (heap_setCell_same _ _ _ _ _ _ h))]
 simp
theorem bk_set3' {w : World} {p : Nat} {x0 x1 x2 x3 x4 x5 : Value} {t : TypeId} (h : w.heap[p]? = some (.cells #[x0, x1, x2, x3, x4, x5] t (0, 0))) (y0 y1 y2 : Value) : (((w.setCell ⟨p, 3, none⟩ y0).setCell ⟨p, 4, none⟩ y1).setCell ⟨p, 5, none⟩ y2).heap[p]? = some (.cells #[x0, x1, x2, y0, y1, y2] t (0, 0)) := by
 rw [heap_setCell_same _ _ _ _ _ _ (heap_setCell_same _ _ _ _ _ _ (heap_setCell_same _ _ _ _ _ _ h))]
 simp
theorem grown3 (w : World) (p a b c : Nat) (y0 y1 y2 : Value) : w.grownBy (((w.setCell ⟨p, a, none⟩ y0).setCell ⟨p, b, none⟩ y1).setCell ⟨p, c, none⟩ y2) (some p) := grown_trans (grown_trans (grown_cell _ _ _ _) (grown_cell _ _ _ _)) (grown_cell _ _ _ _)
set_option maxRecDepth 100000 in
set_option maxHeartbeats 2000000 in
theorem leave_any (p gR gT N n c m row : Nat) (zs ts : List Int) (L K : Nat) (w : World) (h : ShO w p gR gT N c m zs ts L K) (hB : Bk w p gR gT N c m) (hN : N = n + 1) :
 Calls Tryz.prog 125 #[.pointer (some ⟨p, 0, none⟩), .int .i64 row] w fun e w' => e = .returned (.tuple #[]) ∧ ∃ gR' gT' zs' ts', ShO w' p gR' gT' n c m zs' ts' L K ∧ Bk w' p gR' gT' n c m ∧ (∀ i j, i < n → j < c → ent c zs' i j = ent c zs (if i < row then i else i + 1) j) ∧ (∀ i j, i < n → j < m → ent m ts' i j = ent m ts (if i < row then i else i + 1) j) ∧ w.grownBy w' (some p) ∧ w.heap.size ≤ gR' ∧ w.heap.size ≤ gT' := by
 have hpl := hB.lt
 have hcell : ∀ w' : World, Below w.heap.size w w' → w'.heap[p]? = some (.cells #[.int .i64 N, .int .i64 c, .slice (some ⟨gR, 0, none⟩) (N * c) (N * c), .int .i64 N, .int .i64 m, .slice (some ⟨gT, 0, none⟩) (N * m) (N * m)] 133 (0, 0)) := fun w' hb => (hb.block p hpl).trans hB
 obtain ⟨A1, hA1⟩ : ∃ A1, A1 = N * c := ⟨_, rfl⟩
 obtain ⟨A2, hA2⟩ : ∃ A2, A2 = N * m := ⟨_, rfl⟩
 have hIM := h.R.isM
 have hIT := h.T.isM
 have F := Hid.mk h
 rw [← hA1] at hIM hcell
 rw [← hA2] at hIT hcell
 have hb0 := hcell w (Below.refl _ _)
 have a0 : w.cell? ⟨p, 0, none⟩ = some (.int .i64 N) := by simp [World.cell?, hb0]
 have a1 : w.cell? ⟨p, 1, none⟩ = some (.int .i64 c) := by simp [World.cell?, hb0]
 have a2 : w.cell? ⟨p, 2, none⟩ = some (.slice (some ⟨gR, 0, none⟩) A1 A1) := by simp [World.cell?, hb0]
 have HC := Hid.mk hcell
 have HI := Hid.mk (And.intro hIM hIT)
 have HN := Hid.mk hN
 clear h hB hcell hIM hIT hA1 hA2 hN hb0
 go_enter Tryz.func125, Tryz.ntmps125
 go_wp2_with fail
 refine (out_new _ N n c row zs L _ HI.out.1 HN.out).mono ?_
 rintro e w1 ⟨g1, zs1, rfl, hg1, hG1, hf1, hb1⟩
 obtain ⟨B1, hB1⟩ : ∃ B1, B1 = n * c := ⟨_, rfl⟩
 rw [← hB1]
 have HB1 := Hid.mk hB1
 have h1 := HC.out w1 hb1
 have f0 : ∀ o, w1.frozen? ⟨p, o, none⟩ = false := fun o => by simp [World.frozen?, h1]
 have e0 : w1.cell? ⟨p, 0, none⟩ = some (.int .i64 N) := by simp [World.cell?, h1]
 have e1 : w1.cell? ⟨p, 1, none⟩ = some (.int .i64 c) := by simp [World.cell?, h1]
 have e2 : w1.cell? ⟨p, 2, none⟩ = some (.slice (some ⟨gR, 0, none⟩) A1 A1) := by simp [World.cell?, h1]
 obtain ⟨W1, hW1⟩ : ∃ W1, W1 = ((w1.setCell ⟨p, 0, none⟩ (.int .i64 n)).setCell ⟨p, 1, none⟩ (.int .i64 c)).setCell ⟨p, 2, none⟩ (.slice (some ⟨g1, 0, none⟩) B1 B1) := ⟨_, rfl⟩
 have hBk1 : W1.heap[p]? = some (.cells #[.int .i64 n, .int .i64 c, .slice (some ⟨g1, 0, none⟩) B1 B1, .int .i64 N, .int .i64 m, .slice (some ⟨gT, 0, none⟩) A2 A2] 133 (0, 0)) := by rw [hW1]; exact bk_set3 h1 _ _ _
 have hgr1 : w1.grownBy W1 (some p) := by rw [hW1]; exact grown3 _ _ _ _ _ _ _ _
 have hty1 : Ty w1 p 133 := ⟨_, _, h1⟩
 have hKT1 : KT w1 W1 := by
  rw [hW1]
  exact ((KT.refl w1).setCell hty1 (by decide) (by decide) _).trans (((KT.refl _).setCell (hty1.setCell _ _) (by decide) (by decide) _).trans ((KT.refl _).setCell ((hty1.setCell _ _).setCell _ _) (by decide) (by decide) _))
 have HW1 := Hid.mk hW1
 have K1 := Hid.mk (And.intro hG1 (And.intro hf1 (And.intro hb1 (And.intro hBk1 (And.intro hgr1 (And.intro hKT1 hg1))))))
 clear hG1 hf1 hb1 hBk1 hgr1 hKT1 hg1 hW1 h1 hty1 a0 a1 a2 hB1
 go_upto_region 1 with fail
 rw [← HW1.out]
 clear f0 e0 e1 e2
 have b3 : W1.cell? ⟨p, 3, none⟩ = some (.int .i64 N) := by simp [World.cell?, K1.out.2.2.2.1]
 have b4 : W1.cell? ⟨p, 4, none⟩ = some (.int .i64 m) := by simp [World.cell?, K1.out.2.2.2.1]
 have b5 : W1.cell? ⟨p, 5, none⟩ = some (.slice (some ⟨gT, 0, none⟩) A2 A2) := by simp [World.cell?, K1.out.2.2.2.1]
 go_wp2_with fail
 refine (out_new _ N n m row ts K _ ((HI.out.2.below K1.out.2.2.1).keepT K1.out.2.2.2.2.2.1) HN.out).mono ?_
 rintro e w2 ⟨g2, ts2, rfl, hg2, hG2, hf2, hb2⟩
 obtain ⟨B2, hB2⟩ : ∃ B2, B2 = n * m := ⟨_, rfl⟩
 rw [← hB2]
 have HB2 := Hid.mk hB2
 have hs1 : w1.heap.size ≤ W1.heap.size := K1.out.2.2.2.2.1.size
 have hsw : w.heap.size ≤ w1.heap.size := K1.out.2.2.1.size
 have h2 : w2.heap[p]? = _ := (hb2.block p (by omega)).trans K1.out.2.2.2.1
 have f0 : ∀ o, w2.frozen? ⟨p, o, none⟩ = false := fun o => by simp [World.frozen?, h2]
 have e0 : w2.cell? ⟨p, 3, none⟩ = some (.int .i64 N) := by simp [World.cell?, h2]
 have e1 : w2.cell? ⟨p, 4, none⟩ = some (.int .i64 m) := by simp [World.cell?, h2]
 have e2 : w2.cell? ⟨p, 5, none⟩ = some (.slice (some ⟨gT, 0, none⟩) A2 A2) := by simp [World.cell?, h2]
 have HH := Hid.mk (And.intro h2 (And.intro hG2 (And.intro hf2 (And.intro hb2 hg2))))
 clear h2 hG2 hf2 hb2 hB2 b3 b4 b5
 go_wp2_with fail
 go_end0
 obtain ⟨h2, hG2, hf2, hb2, hg2⟩ := HH.out
 have hBk2 := bk_set3' h2 (.int .i64 n) (.int .i64 m) (.slice (some ⟨g2, 0, none⟩) B2 B2)
 have hgr2 := grown3 w2 p 3 4 5 (.int .i64 n) (.int .i64 m) (.slice (some ⟨g2, 0, none⟩) B2 B2)
 have hty2 : Ty w2 p 133 := ⟨_, _, h2⟩
 have hKT2 : KT w2 (((w2.setCell ⟨p, 3, none⟩ (.int .i64 n)).setCell ⟨p, 4, none⟩ (.int .i64 m)).setCell ⟨p, 5, none⟩ (.slice (some ⟨g2, 0, none⟩) B2 B2)) :=
  ((KT.refl w2).setCell hty2 (by decide) (by decide) _).trans (((KT.refl _).setCell (hty2.setCell _ _) (by decide) (by decide) _).trans ((KT.refl _).setCell ((hty2.setCell _ _).setCell _ _) (by decide) (by decide) _))
 generalize ((w2.setCell ⟨p, 3, none⟩ (.int .i64 n)).setCell ⟨p, 4, none⟩ (.int .i64 m)).setCell ⟨p, 5, none⟩ (.slice (some ⟨g2, 0, none⟩) B2 B2) = W2 at hBk2 hgr2 hKT2 ⊢
 have hgl1 : g1 < w1.heap.size := K1.out.1.ty.lt
 have hKT : KT w1 W2 := (K1.out.2.2.2.2.2.1.trans (KT.of_below hb2)).trans hKT2
 have hg12 : w.heap.size ≤ g1 := K1.out.2.2.2.2.2.2
 refine ⟨rfl, g1, g2, zs1, ts2, ⟨⟨by have := F.out.R.hr; have := HN.out; omega, F.out.R.hc, ?_, K1.out.1.keep hKT⟩, ⟨by have := F.out.R.hr; have := HN.out; omega, F.out.T.hc, ?_, hG2.keep hKT2⟩, by omega, by omega, by omega⟩, ?_, K1.out.2.1, hf2, ?_, hg12, by omega⟩
 ·rw [← HB1.out]
  refine ⟨?_, ?_, ?_⟩ <;> simp [World.cell?, hBk2]
 ·rw [← HB2.out]
  refine ⟨?_, ?_, ?_⟩ <;> simp [World.cell?, hBk2]
 ·unfold Bk
  rw [← HB1.out, ← HB2.out]
  exact hBk2
 ·exact grown_trans (grown_trans (grown_trans (grown_below (World.grownBy.refl _ _) K1.out.2.2.1) K1.out.2.2.2.2.1) (grown_below (World.grownBy.refl _ _) hb2)) hgr2
end Go.Proofs.YtfjbijpagaipnabGreatDoor
namespace Go.Proofs.YtfjbijpagaipnabGreatDoor.R
theorem sumF_dvd {d : Int} : ∀ (n : Nat) (g : Nat → Int), (∀ k, k < n → d ∣ g k) → d ∣ sumF n g := by
 intro n
 induction n with
 | zero => intro g _; exact Int.dvd_zero d
 | succ n ih => intro g h; rw [sumF]; exact Int.dvd_add (ih g (fun k hk => h k (by omega))) (h n (by omega))
theorem mv_ahead {d : Int} {n m : Nat} {vs : List (Nat → Int)} (h : ∀ C : List Nat, C.length = m → (∀ x ∈ C, x < n) → d ∣ mv vs C) : ∀ (us : List (Nat → Int)) (C : List Nat), C.length = us.length + m → (∀ x ∈ C, x < n) → d ∣ mv (us ++ vs) C := by
 intro us
 induction us with
 | nil => intro C hC hx; exact h C (by simpa using hC) hx
 | cons u us ih =>
   intro C hC hx
   rw [List.cons_append, mv]
   refine sumF_dvd _ _ (fun k hk => ?_)
   have h1 := ih (C.eraseIdx k) (by rw [List.length_eraseIdx, if_pos hk]; simp at hC; omega) (fun x hx' => hx x (List.mem_of_mem_eraseIdx hx'))
   have h2 : d ∣ u (C.getD k 0) * mv (us ++ vs) (C.eraseIdx k) := Int.dvd_trans h1 (Int.dvd_mul_left _ _)
   unfold signed
   split
   ·exact Int.dvd_neg.2 h2
   ·exact h2
theorem div_up {f : Nat → Nat → Int} {r c m : Nat} (hm : m + 1 ≤ 4) (h : divF f r c m = 0) : divF f r c (m + 1) = 0 := by
 rw [all_div f r c m (by omega), allV_iff] at h
 rw [all_div f r c (m + 1) hm]
 intro R hR hr C hC
 obtain ⟨c1, c2⟩ := chosenL_lt hC
 match R, hR with
 | x :: R', hR' =>
   have := mv_ahead (d := 0) (n := c) (m := m) (vs := R'.map f) (fun C' hC' hx => chosenL_any (by omega) h (by simpa using hR') (fun y hy => hr y (List.mem_cons_of_mem _ hy)) hC' hx) [f x] C (by simp; omega) c2
   exact Int.zero_dvd.1 (by simpa using this)
theorem rank_of_div {f : Nat → Nat → Int} {r c : Nat} (hr : r ≤ 4) (hc : r ≤ c) (h : divF f r c r ≠ 0) : RankIs f r c r := by
 refine ⟨Nat.le_refl _, hc, fun i hi h0 => ?_, .inl rfl⟩
 have key : ∀ t, i + 1 + t ≤ r → divF f r c (i + 1 + t) = 0 := by
  intro t
  induction t with
  | zero => intro _; exact h0
  | succ t ih => intro ht; exact div_up (m := i + 1 + t) (by omega) (ih (by omega))
 have := key (r - (i + 1)) (by omega)
 rw [show i + 1 + (r - (i + 1)) = r from by omega] at this
 exact h this
def ip (c : Nat) (x y : Nat → Int) : Int := sm (fun k => x k * y k) c
def gm (c : Nat) (xs ys : List (Nat → Int)) : Int := mv (xs.map (fun x => fun j => ip c x (ys.getD j (fun _ => 0)))) (List.range ys.length)
def Fq (c : Nat) (b : Nat → Nat → Int) (q : Nat) (x y : Nat → Int) : Int := gm c ((List.range q).map b ++ [x]) ((List.range q).map b ++ [y])
def vol (c : Nat) (b : Nat → Nat → Int) (q : Nat) : Int := gm c ((List.range q).map b) ((List.range q).map b)
theorem vol_succ (c : Nat) (b : Nat → Nat → Int) (q : Nat) : vol c b (q + 1) = Fq c b q (b q) (b q) := by
 unfold vol Fq
 rw [List.range_succ, List.map_append, List.map_singleton]
theorem ip_comm (c : Nat) (x y : Nat → Int) : ip c x y = ip c y x := sm_congr c (fun _ _ => Int.mul_comm _ _)
theorem vol_zero (c : Nat) (b : Nat → Nat → Int) : vol c b 0 = 1 := by simp [vol, gm, mv]
theorem F_zero (c : Nat) (b : Nat → Nat → Int) (x y : Nat → Int) : Fq c b 0 x y = ip c x y := by simp [Fq, gm, mv, sumF, signed]
theorem F_next (c : Nat) (b : Nat → Nat → Int) (q : Nat) (hq : q ≤ 2) (x y : Nat → Int) : Fq c b (q + 1) x y * vol c b q = Fq c b q x y * vol c b (q + 1) - Fq c b q x (b q) * Fq c b q (b q) y := by
 match q, hq with
 | 0, _ =>
   simp [vol, Fq, gm, mv, sumF, signed, List.range_succ]
   rw [ip_comm c (b 0) y]
   grind [ip_comm]
 | 1, _ =>
   simp [vol, Fq, gm, mv, sumF, signed, List.range_succ]
   generalize ip c (b 0) (b 0) = a00
   generalize h01 : ip c (b 0) (b 1) = a01
   rw [ip_comm c (b 1) (b 0), h01]
   generalize ip c (b 1) (b 1) = a11
   generalize ip c (b 0) y = y0
   generalize ip c (b 1) y = y1
   generalize ip c x (b 0) = x0
   generalize ip c x (b 1) = x1
   generalize ip c x y = xy
   grind
 | 2, _ =>
   simp [vol, Fq, gm, mv, sumF, signed, List.range_succ]
   generalize ip c (b 0) (b 0) = a00
   generalize h01 : ip c (b 0) (b 1) = a01
   rw [ip_comm c (b 1) (b 0), h01]
   generalize h02 : ip c (b 0) (b 2) = a02
   rw [ip_comm c (b 2) (b 0), h02]
   generalize h12 : ip c (b 1) (b 2) = a12
   rw [ip_comm c (b 2) (b 1), h12]
   generalize ip c (b 1) (b 1) = a11
   generalize ip c (b 2) (b 2) = a22
   generalize ip c (b 0) y = y0
   generalize ip c (b 1) y = y1
   generalize ip c (b 2) y = y2
   generalize ip c x (b 0) = x0
   generalize ip c x (b 1) = x1
   generalize ip c x (b 2) = x2
   generalize ip c x y = xy
   grind
theorem ip_lin (c : Nat) (s t : Int) (x y z : Nat → Int) : ip c (fun j => s * x j + t * y j) z = s * ip c x z + t * ip c y z := by
 unfold ip
 rw [← sm_lin]
 exact sm_congr c (fun k _ => by grind)
theorem gm_lin (c : Nat) (s t : Int) (x y : Nat → Int) (xs zs ys : List (Nat → Int)) : gm c (xs ++ (fun j => s * x j + t * y j) :: zs) ys = s * gm c (xs ++ x :: zs) ys + t * gm c (xs ++ y :: zs) ys := by
 unfold gm
 simp only [List.map_append, List.map_cons]
 rw [← mv_lin]
 congr 3
 funext j
 exact ip_lin c s t x y _
theorem gm_same (c : Nat) (u : Nat → Int) (xs zs vs ys : List (Nat → Int)) (hl : ys.length = xs.length + zs.length + vs.length + 2) (h4 : ys.length ≤ 4) : gm c (xs ++ u :: zs ++ u :: vs) ys = 0 := by
 unfold gm
 simp only [List.map_append, List.map_cons]
 exact mv_same _ _ _ _ _ (by simp; omega) (by simpa using h4)
theorem gm_swap (c : Nat) (u v : Nat → Int) (xs zs ys : List (Nat → Int)) (hl : ys.length = xs.length + zs.length + 2) (h4 : ys.length ≤ 4) : gm c (xs ++ u :: v :: zs) ys = -gm c (xs ++ v :: u :: zs) ys := by
 unfold gm
 simp only [List.map_append, List.map_cons]
 exact mv_swap _ _ _ _ _ (by simp; omega) (by simp; omega)
theorem map_range (xs : List (Nat → Int)) (f : (Nat → Int) → Nat → Int) : xs.map f = (List.range xs.length).map (fun i => f (xs.getD i (fun _ => 0))) := by
 apply List.ext_getElem
 ·simp
 ·intro i h1 h2
  have : i < xs.length := by simpa using h1
  simp [List.getD, List.getElem?_eq_getElem this]
theorem gm_sym (c : Nat) (xs ys : List (Nat → Int)) (hl : xs.length = ys.length) (h4 : xs.length ≤ 4) : gm c xs ys = gm c ys xs := by
 unfold gm
 rw [map_range xs, map_range ys, hl]
 have := mv_tr (fun i j => ip c (ys.getD i (fun _ => 0)) (xs.getD j (fun _ => 0))) (List.range ys.length) (List.range ys.length) rfl (by simp; omega)
 rw [← this]
 congr 1
 refine List.map_congr_left (fun i _ => ?_)
 funext j
 exact ip_comm c _ _
theorem F_lin (c : Nat) (b : Nat → Nat → Int) (q : Nat) (s t : Int) (x y z : Nat → Int) : Fq c b q (fun j => s * x j + t * y j) z = s * Fq c b q x z + t * Fq c b q y z := gm_lin c s t x y _ [] _
theorem F_sym (c : Nat) (b : Nat → Nat → Int) (q : Nat) (hq : q ≤ 3) (x y : Nat → Int) : Fq c b q x y = Fq c b q y x := gm_sym c _ _ (by simp) (by simp; omega)
theorem F_own (c : Nat) (b : Nat → Nat → Int) (q i : Nat) (hq : q ≤ 3) (hi : i < q) (y : Nat → Int) : Fq c b q (b i) y = 0 := by
 obtain ⟨xs, ys, he⟩ := List.append_of_mem (show i ∈ List.range q from List.mem_range.2 hi)
 have hlen : xs.length + ys.length + 1 = q := by have := congrArg List.length he; simp at this; omega
 unfold Fq
 have := gm_same c (b i) (xs.map b) (ys.map b) [] ((List.range q).map b ++ [y]) (by simp; omega) (by simp; omega)
 rw [show (List.range q).map b ++ [b i] = xs.map b ++ b i :: ys.map b ++ b i :: [] from by rw [he]; simp]
 exact this
theorem sm_nonneg {f : Nat → Int} (n : Nat) (h : ∀ k, k < n → 0 ≤ f k) : 0 ≤ sm f n := by
 induction n with
 | zero => exact Int.le_refl 0
 | succ n ih => rw [sm]; have := ih (fun k hk => h k (by omega)); have := h n (by omega); omega
theorem ip_nonneg (c : Nat) (x : Nat → Int) : 0 ≤ ip c x x := sm_nonneg c (fun k _ => by
 rcases Int.le_total 0 (x k) with h | h
 ·exact Int.mul_nonneg h h
 ·exact Int.mul_nonneg_of_nonpos_of_nonpos h h)
theorem F_psd (c : Nat) (b : Nat → Nat → Int) : ∀ q, q ≤ 3 → (∀ i, i ≤ q → 0 < vol c b i) → ∀ x, 0 ≤ Fq c b q x x := by
 intro q
 induction q with
 | zero => intro _ _ x; rw [F_zero]; exact ip_nonneg c x
 | succ q ih =>
   intro hq hv x
   have h1 := ih (by omega) (fun i hi => hv i (by omega)) (fun j => vol c b (q + 1) * x j + -Fq c b q x (b q) * b q j)
   have h2 := F_next c b q (by omega) x x
   have d0 := hv q (by omega)
   have d1 := hv (q + 1) (Nat.le_refl _)
   rw [F_lin, F_sym c b q (by omega) x, F_sym c b q (by omega) (b q), F_lin, F_lin, ← vol_succ] at h1
   rw [F_sym c b q (by omega) (b q) x] at h1 h2
   generalize Fq c b q x x = A at *
   generalize Fq c b q x (b q) = l at *
   generalize vol c b (q + 1) = d at *
   generalize vol c b q = e at *
   generalize Fq c b (q + 1) x x = G at *
   have h3 : 0 ≤ d * (G * e) := by
    rw [h2]
    have : d * (A * d - l * l) = d * (d * A + -l * l) + -l * (d * l + -l * d) := by grind
    rw [this]; exact h1
   have h4 : 0 ≤ G * e := by
    rcases Int.lt_or_le (G * e) 0 with h | h
    ·have := Int.mul_neg_of_pos_of_neg d1 h; omega
    ·exact h
   rcases Int.lt_or_le G 0 with h | h
   ·have := Int.mul_neg_of_neg_of_pos h d0; omega
   ·exact h
theorem F_down (c : Nat) (b : Nat → Nat → Int) (q : Nat) (hq : q ≤ 2) (x : Nat → Int) : Fq c b (q + 1) x x * vol c b q ≤ Fq c b q x x * vol c b (q + 1) := by
 have h2 := F_next c b q hq x x
 rw [F_sym c b q (by omega) (b q) x] at h2
 have : 0 ≤ Fq c b q x (b q) * Fq c b q x (b q) := by
  rcases Int.le_total 0 (Fq c b q x (b q)) with h | h
  ·exact Int.mul_nonneg h h
  ·exact Int.mul_nonneg_of_nonpos_of_nonpos h h
 omega
end Go.Proofs.YtfjbijpagaipnabGreatDoor.R
