import Derived.Test.YtfjbijpagaipnabGreatDoorS27
import Derived.Test.YtfjbijpagaipnabGreatDoorS29
import Derived.Test.YtfjbijpagaipnabGreatDoorS23
import Derived.Test.YtfjbijpagaipnabGreatDoorS24
import Derived.Test.YtfjbijpagaipnabGreatDoorS11
import Derived.Test.YtfjbijpagaipnabGreatDoorS20
import Derived.Test.YtfjbijpagaipnabGreatDoorS19
import Derived.Test.YtfjbijpagaipnabGreatDoorS10
import Derived.BigRegion
import Derived.Test.YtfjbijpagaipnabGreatDoorS09
import Derived.BigQuiet
import Derived.Deep.RegionHeld3
import Derived.Deep.CutRange
import Derived.Laws.CopyOwn
import Derived.Deep.RegionLaw
import Derived.Deep.RegionLawGrows
import Derived.StillTailTactics
import Derived.Test.YtfjbijpagaipnabGreatDoorS22
import Derived.Deep.RegionWith
import Derived.Laws.Cover3
import Derived.Test.YtfjbijpagaipnabGreatDoorS21
namespace Go.Proofs.YtfjbijpagaipnabGreatDoor
open Go.RowKit R
theorem Grid.fitR {w : World} {sl : Value} {r c L K X : Nat} {zs : List Int} (h : Grid w sl (r * c) zs L) (hz : ∀ i j, i < r → j < c → (ent c zs i j).natAbs < 2 ^ X) (hX : X ≤ 32 * K) : Grid w sl (r * c) zs K := by
 obtain ⟨h0, cs, h1, h2⟩ := h
 refine ⟨h0, cs, h1, fun i hi => ?_⟩
 obtain ⟨a, b, e1, e2, e3⟩ := h2 i hi
 refine ⟨a, b, e1, e2, e3.fit ?_⟩
 have hc0 : 0 < c := by
  rcases Nat.eq_zero_or_pos c with h | h
  ·subst h; simp at hi
  ·exact h
 have h3 := hz (i / c) (i % c) (Nat.div_lt_of_lt_mul (by rw [Nat.mul_comm]; exact hi)) (Nat.mod_lt _ hc0)
 unfold ent at h3
 rw [Nat.mul_comm, Nat.div_add_mod] at h3
 have h4 : (4294967296 : Nat) ^ K = 2 ^ (32 * K) := by rw [Nat.pow_mul]
 rw [h4]
 exact pow_lift h3 hX
theorem MatO.fitR {w : World} {p o g r c L K X : Nat} {zs : List Int} (h : MatO w p o g r c zs L) (hz : ∀ i j, i < r → j < c → (ent c zs i j).natAbs < 2 ^ X) (hX : X ≤ 32 * K) : MatO w p o g r c zs K := ⟨h.hr, h.hc, h.tri, h.grid.fitR hz hX⟩
theorem sq_up {x : Int} (h : x ≠ 0) : 0 < x * x := by
 rcases Int.lt_or_gt_of_ne h with h1 | h1
 ·exact Int.mul_pos_of_neg_of_neg h1 h1
 ·exact Int.mul_pos h1 h1
theorem ord_E {c k : Nat} {b : Nat → Nat → Int} (hk : k ≤ 2) (hv : ∀ i, i ≤ k + 1 → 0 < vol c b i) : OrdE c b k ↔ 3 * (vol c b (k + 1) * vol c b (k + 1)) ≤ 4 * (vol c b (k + 2) * vol c b k + lam c b (k + 1) k * lam c b (k + 1) k) := by
 unfold OrdE
 rw [vol_E, vol_E, vol_E, lam_E]
 have h1 : 0 ≤ vol c b (k + 2) := by
  show 0 ≤ vol c b (k + 1 + 1)
  rw [vol_succ]
  exact F_psd c b (k + 1) (by omega) hv _
 have h2 := Int.mul_nonneg h1 (show 0 ≤ vol c b k by have := hv k (by omega); omega)
 have h3 := R.sq_nonneg (lam c b (k + 1) k)
 have h4 := R.sq_nonneg (vol c b (k + 1))
 generalize vol c b (k + 2) * vol c b k = x at *
 generalize lam c b (k + 1) k * lam c b (k + 1) k = y at *
 generalize vol c b (k + 1) * vol c b (k + 1) = u at *
 omega
def RdS (W1 wr : World) (p gR gT n c m k kk : Nat) (A zs ts : List Int) : Prop := ShO wr p gR gT n c m zs ts 6 4700000 ∧ Bk wr p gR gT n c m ∧ RedI c m n k kk (ent c A) (ent c zs) (ent m ts) ∧ Below W1.heap.size W1 wr ∧ W1.heap.size ≤ p ∧ W1.heap.size ≤ gR ∧ W1.heap.size ≤ gT ∧ Ag c m (RS.run c kk ⟨n, k, ent c zs, ent m ts⟩) (RS.run c 32000 ⟨m, 0, ent c A, kd⟩)
def RdOut (w w' : World) (e : Ending) (r c : Nat) (zs : List Int) : Prop := ∃ (n gR gT kk : Nat) (rs ts : List Int), e = .returned (.agg #[.int .i64 n, .int .i64 c, .slice (some ⟨gR, 0, none⟩) (n * c) (n * c), .int .i64 n, .int .i64 r, .slice (some ⟨gT, 0, none⟩) (n * r) (n * r)]) ∧
 IsM w' (.agg #[.int .i64 n, .int .i64 c, .slice (some ⟨gR, 0, none⟩) (n * c) (n * c)]) n c rs 6 ∧ IsM w' (.agg #[.int .i64 n, .int .i64 r, .slice (some ⟨gT, 0, none⟩) (n * r) (n * r)]) n r ts 4700000 ∧ RedI c r n n kk (ent c zs) (ent c rs) (ent r ts) ∧ Ag c r ⟨n, n, ent c rs, ent r ts⟩ (RS.run c 32000 ⟨r, 0, ent c zs, kd⟩) ∧ Below w.heap.size w w'
set_option maxRecDepth 100000 in
set_option maxHeartbeats 8000000 in
theorem greduce_any (v : Value) (r c : Nat) (zs : List Int) (w : World) (hm : IsM w v r c zs 2) (hr4 : r ≤ 4) (hc4 : c ≤ 4) (hz : ∀ i j, i < r → j < c → (ent c zs i j).natAbs < 2 ^ 48) :
 Calls Tryz.prog 80 #[v] w fun e w' => RdOut w w' e r c zs := by
 have HM := Hid.mk hm
 obtain ⟨hr, hc, sl, rfl, hg0⟩ := hm
 obtain ⟨ao, cap, rfl, -⟩ := hg0.shape
 obtain ⟨RC, hRC⟩ : ∃ RC, RC = r * c := ⟨_, rfl⟩
 rw [← hRC] at HM hg0 ⊢
 have HRC := Hid.mk hRC
 have HG := Hid.mk hg0
 clear hg0 hRC
 go_enter Tryz.func80, Tryz.ntmps80
 go_wp2_with fail
 obtain ⟨W1, hW1⟩ : ∃ W1, W1 = (w.alloc (.cells #[.int .i64 r, .int .i64 c, .slice ao RC cap] 66)).alloc (.cells #[.int .i64 0, .int .i64 0, .slice none 0 0, .int .i64 0, .int .i64 0, .slice none 0 0] 133) := ⟨_, rfl⟩
 have hs1 : W1.heap.size = w.heap.size + 2 := by rw [hW1]; simp
 have hb1 : Below w.heap.size w W1 := by rw [hW1]; repeat (first | exact Below.refl _ _ | refine Below.alloc ?_ (by simp <;> omega) _)
 have hm1 : Trio W1 w.heap.size (.int .i64 r) (.int .i64 c) (.slice ao RC cap) := by
  rw [hW1]
  exact Trio.later (w := w.alloc (.cells #[.int .i64 r, .int .i64 c, .slice ao RC cap] 66)) ⟨new_cell _ _ _ _ _ rfl rfl, new_cell _ _ _ _ _ rfl rfl, new_cell _ _ _ _ _ rfl rfl⟩ ((Below.refl _ _).alloc (Nat.le_refl _) _)
 have hR1 : W1.heap[w.heap.size + 1]? = some (.cells #[.int .i64 0, .int .i64 0, .slice none 0 0, .int .i64 0, .int .i64 0, .slice none 0 0] 133 (0, 0)) := by
  rw [hW1]
  have := heap_alloc_new (w.alloc (.cells #[.int .i64 r, .int .i64 c, .slice ao RC cap] 66)) (.cells #[.int .i64 0, .int .i64 0, .slice none 0 0, .int .i64 0, .int .i64 0, .slice none 0 0] 133)
  simpa using this
 rw [← hW1]
 clear hW1
 have K1 := Hid.mk (And.intro hb1 (And.intro hR1 hm1))
 clear hb1 hm1 hR1
 have hGr : Grid W1 (.slice ao RC cap) (r * c) zs 2 := by rw [← HRC.out]; exact HG.out.below K1.out.1
 refine (fromCells_new r c _ zs 2 _ hr hc hGr).mono ?_
 rintro e w2 ⟨g, rfl, hg2, hG2, hb2⟩
 clear hGr
 obtain ⟨W2, hW2⟩ : ∃ W2, W2 = w2.alloc (.cells #[.int .i64 r, .int .i64 c, .slice (some ⟨g, 0, none⟩) (r * c) (r * c)] 66) := ⟨_, rfl⟩
 have hb22 : Below w2.heap.size w2 W2 := by rw [hW2]; exact (Below.refl _ _).alloc (Nat.le_refl _) _
 have hS2 : Trio W2 w2.heap.size (.int .i64 r) (.int .i64 c) (.slice (some ⟨g, 0, none⟩) (r * c) (r * c)) := by
  rw [hW2]
  exact ⟨new_cell _ _ _ _ _ rfl rfl, new_cell _ _ _ _ _ rfl rfl, new_cell _ _ _ _ _ rfl rfl⟩
 have hB2 : Below W1.heap.size W1 W2 := hb2.trans (hb22.mono hb2.size)
 have hz2 : w2.heap.size < W2.heap.size ∧ W1.heap.size ≤ w2.heap.size := ⟨by rw [hW2]; simp, hb2.size⟩
 have hg2l : g < w2.heap.size := hG2.ty.lt
 have K2 := Hid.mk (And.intro (hG2.below hb22) (And.intro hB2 (And.intro hS2 (K1.out.2.2.later hB2))))
 have HC := Hid.mk (show ∀ w', Below W2.heap.size W2 w' → w'.cell? ⟨w.heap.size, 0, none⟩ = some (.int .i64 r) ∧ w'.cell? ⟨w2.heap.size, 0, none⟩ = some (.int .i64 r) ∧ w'.cell? ⟨w2.heap.size, 1, none⟩ = some (.int .i64 c) ∧ w'.cell? ⟨w2.heap.size, 2, none⟩ = some (.slice (some ⟨g, 0, none⟩) (r * c) (r * c)) from fun w' hb => ⟨(K2.out.2.2.2.later hb).1, (K2.out.2.2.1.later hb).1, (K2.out.2.2.1.later hb).2.1, (K2.out.2.2.1.later hb).2.2⟩)
 have HW2 := Hid.mk hW2
 clear hG2 hb2 hb22 hS2 hB2 hW2
 go_upto_region 1 with fail
 rw [← HW2.out]
 go_region_held3 (fun w' => w'.cell? ⟨w.heap.size, 0, none⟩ = some (.int .i64 r) ∧ w'.cell? ⟨w2.heap.size, 0, none⟩ = some (.int .i64 r) ∧ w'.cell? ⟨w2.heap.size, 1, none⟩ = some (.int .i64 c) ∧ w'.cell? ⟨w2.heap.size, 2, none⟩ = some (.slice (some ⟨g, 0, none⟩) (r * c) (r * c)))
  (exact HC.out _ (by first | exact hbU1.alloc hbU1.size _ | exact (hbU1.alloc hbU1.size _).drew | exact hbU1 | exact (Below.refl _ _).drew | exact Below.refl _ _))
  (first | (go_at_call 60; refine (unit_any r _ hr).mono ?_; rintro e9 w3 ⟨gT, ts0, rfl, hgT, hGT, hkT, hb3⟩; have hbU1 : Below W2.heap.size W2 w3 := ((Below.refl _ _).drew).trans hb3; clear hb3))
 obtain ⟨W3, hW3⟩ : ∃ W3, W3 = w3.alloc (.cells #[.int .i64 r, .int .i64 c, .slice (some ⟨g, 0, none⟩) (r * c) (r * c), .int .i64 r, .int .i64 r, .slice (some ⟨gT, 0, none⟩) (r * r) (r * r)] 133) := ⟨_, rfl⟩
 rw [← hW3]
 have hb33 : Below w3.heap.size w3 W3 := by rw [hW3]; exact (Below.refl _ _).alloc (Nat.le_refl _) _
 have hB3 : Bk W3 w3.heap.size g gT r c r := by rw [hW3]; exact heap_alloc_new w3 _
 have hw23 := hbU1.size
 have hgT' : W2.heap.size ≤ gT := hgT
 have hgTl : gT < w3.heap.size := hGT.ty.lt
 have hbW : Below W1.heap.size W1 W3 := K2.out.2.1.trans ((hbU1.trans (hb33.mono hw23)).mono (by omega))
 have hS3 : ShO W3 w3.heap.size g gT r c r zs ts0 6 4700000 := by
  refine ⟨⟨hr, hc, ?_, ((K2.out.1.below hbU1).below hb33).mono (by omega)⟩, ⟨hr, hr, ?_, (hGT.below hb33).mono (by omega)⟩, by omega, by omega, by omega⟩
  ·refine ⟨?_, ?_, ?_⟩ <;> simp [World.cell?, show W3.heap[w3.heap.size]? = _ from hB3]
  ·refine ⟨?_, ?_, ?_⟩ <;> simp [World.cell?, show W3.heap[w3.heap.size]? = _ from hB3]
 have hI3 : RedI c r r 0 32000 (ent c zs) (ent c zs) (ent r ts0) := (RedI.start hr4 hc4 hz).congr (fun _ _ _ _ => rfl) hkT
 have K3 : Hid (RdS W1 W3 w3.heap.size g gT r c r 0 32000 zs zs ts0) := Hid.mk ⟨hS3, hB3, hI3, hbW, by omega, by omega, by omega, run_ag 32000 _ _ ⟨rfl, rfl, fun _ _ _ _ => rfl, hkT⟩⟩
 obtain ⟨p, hp⟩ : ∃ p, p = w3.heap.size := ⟨_, rfl⟩
 rw [← hp] at K3 ⊢
 have hpl : W1.heap.size ≤ p := by omega
 clear hW3 hb33 hB3 hw23 hgT hgT' hgTl hbW hS3 hI3 hGT hkT hbU1 hp hz2 hg2l hg2 K2 HC
 go_wp2_with fail
 go_loopg [5] 32000 (fun kk kv wr => ∃ (n k gR gT : Nat) (rs ts : List Int), kv = .int .i64 k ∧ k ≤ n ∧ Hid (RdS W1 wr p gR gT n c r k kk zs rs ts))
 case atStart => exact ⟨r, 0, g, gT, zs, ts0, rfl, Nat.zero_le _, K3⟩
 case round =>
  obtain ⟨n, k, gR, gT, rs, ts, rfl, hkn, HI⟩ := hrel
  have hBk := HI.out.2.1
  obtain ⟨A1, hA1⟩ : ∃ A1, A1 = n * c := ⟨_, rfl⟩
  obtain ⟨A2, hA2⟩ : ∃ A2, A2 = n * r := ⟨_, rfl⟩
  have HA1 := Hid.mk hA1
  have HA2 := Hid.mk hA2
  unfold Bk at hBk
  rw [← hA1, ← hA2] at hBk
  have a0 : wr.cell? ⟨p, 0, none⟩ = some (.int .i64 n) := by simp [World.cell?, hBk]
  clear hA1 hA2
  by_cases hk : k < n
  ·clear hBk
   have hn4 : n ≤ 4 := by obtain ⟨z, h1, -⟩ := HI.out.2.2.1.st; exact h1.n4
   have hk3 : k ≤ 3 := by omega
   have hkki : (k : Int) < n := by omega
   go_wp2_with fail
   refine (shLess_any p gR gT n c r k rs ts 4700000 _ HI.out.1 hk hk3 hc4 (by omega) (les_pos hk3 HI.out.2.2.1.pos)).mono ?_
   rintro e w5 ⟨rfl, rs1, ts1, hS5, hf5, ht5, hc5⟩
   have hM5 := (HI.out.2.2.1.less hk).congr hk hf5 ht5
   have hB5 := HI.out.2.1.chg hc5 HI.out.1.d1 HI.out.1.d2 HI.out.1.d2
   have hkk := hM5.le
   have hS6 : ShO w5 p gR gT n c r rs1 ts1 6 4700000 := ⟨hS5.R.fitR hM5.short (by omega), hS5.T.fitR hM5.bits (by omega), hS5.d1, hS5.d2, hS5.d3⟩
   have hwr := HI.out.2.2.2.1.size
   have hb5 : Below W1.heap.size W1 w5 := HI.out.2.2.2.1.trans (hc5.below HI.out.2.2.2.2.2.1 HI.out.2.2.2.2.2.2.1 HI.out.2.2.2.2.2.2.1 hwr)
   have K5 := Hid.mk (And.intro hS6 (And.intro hB5 (And.intro hM5 hb5)))
   have KL := Hid.mk (And.intro hf5 ht5)
   unfold Bk at hB5
   rw [← HA1.out, ← HA2.out] at hB5
   have HIM := Hid.mk hS6.R.isM
   rw [← HA1.out] at HIM
   have b0 : w5.cell? ⟨p, 0, none⟩ = some (.int .i64 n) := by simp [World.cell?, hB5]
   have b1 : w5.cell? ⟨p, 1, none⟩ = some (.int .i64 c) := by simp [World.cell?, hB5]
   have b2 : w5.cell? ⟨p, 2, none⟩ = some (.slice (some ⟨gR, 0, none⟩) A1 A1) := by simp [World.cell?, hB5]
   clear hS5 hf5 ht5 hc5 hM5 hB5 hS6 hb5 a0 hwr
   go_wp2_with fail
   refine (pivotOf_any _ n c k rs1 6 _ HIM.out hk).mono ?_
   rintro e w6 ⟨z, rfl, hpv, hb6⟩
   have hs56 := hb6.size
   have hw5 := K5.out.2.2.2.size
   have K6 := Hid.mk (And.intro (K5.out.1.later hb6) (And.intro (K5.out.2.1.chg (Chg3.of_below gR gT gT hb6) K5.out.1.d1 K5.out.1.d2 K5.out.1.d2) (And.intro (K5.out.2.2.2.trans (hb6.mono hw5)) (HIM.out.below hb6))))
   have hp1 := K5.out.2.2.1.pos1 hk
   clear hb6 b0 b1 b2
   rcases hpv with ⟨i, hi, rfl, hne, -⟩ | ⟨rfl, h0⟩
   ·have hBk := K6.out.2.1
    unfold Bk at hBk
    rw [← HA1.out, ← HA2.out] at hBk
    have b0 : w6.cell? ⟨p, 0, none⟩ = some (.int .i64 n) := by simp [World.cell?, hBk]
    have b1 : w6.cell? ⟨p, 1, none⟩ = some (.int .i64 c) := by simp [World.cell?, hBk]
    have b2 : w6.cell? ⟨p, 2, none⟩ = some (.slice (some ⟨gR, 0, none⟩) A1 A1) := by simp [World.cell?, hBk]
    have hi0 : ¬ (i : Int) < 0 := by omega
    have HNE := Hid.mk (And.intro hi hne)
    clear hBk hne hi
    go_wp2_with fail
    rcases Nat.eq_zero_or_pos k with hk0 | hk0
    ·subst hk0
     refine (order_zero _ n c rs1 6 _ K6.out.2.2.2).mono ?_
     rintro e w7 ⟨rfl, hb7⟩
     have hI7 : RedI c r n 1 (gk - 1) (ent c zs) (ent c rs1) (ent r ts1) := K5.out.2.2.1.next hk (fun _ => by
      have h1 := ip_ge (ent c rs1 0) HNE.out.1
      have h2 := sq_up HNE.out.2
      omega) (fun i hi => by omega)
     have hw6 := K6.out.2.2.1.size
     have hag := run_on HI.out.2.2.2.2.2.2.2 hk hp1 (step_next hk KL.out.1 KL.out.2 HNE.out.1 HNE.out.2 (.inl rfl))
     have K7 : Hid (RdS W1 w7 p gR gT n c r 1 (gk - 1) zs rs1 ts1) := Hid.mk ⟨K6.out.1.later hb7, K6.out.2.1.chg (Chg3.of_below gR gT gT hb7) K5.out.1.d1 K5.out.1.d2 K5.out.1.d2, hI7, K6.out.2.2.1.trans (hb7.mono hw6), hpl, HI.out.2.2.2.2.2.1, HI.out.2.2.2.2.2.2.1, hag⟩
     clear hb7 hI7 hw6 hag
     go_wp2_with fail
     go_roundg (gk - 1)
     case measure => omega
     case rel => exact ⟨n, 1, gR, gT, rs1, ts1, by first | rfl | simp | go_num, by omega, K7⟩
    ·obtain ⟨k', hk'⟩ : ∃ k', k = k' + 1 := ⟨k - 1, by omega⟩
     have hki : (k : Int) - 1 = (k' : Nat) := by omega
     have hk'n : k' < n := by omega
     have HK := Hid.mk hk'
     have hk2 : k' ≤ 2 := by omega
     have hk1n : k' + 1 < n := by omega
     clear hk'
     refine (order_any _ n c k' rs1 6 _ K6.out.2.2.2 hk1n hk2 hc4 (by omega) k HK.out).mono ?_
     rintro e w7 ⟨y, rfl, hy, hb7⟩
     have hM : RedM c r n (k' + 1) gk (ent c zs) (ent c rs1) (ent r ts1) := by rw [← HK.out]; exact K5.out.2.2.1
     have hv : ∀ i, i ≤ k' + 1 → 0 < vol c (ent c rs1) i := by
      obtain ⟨z, hz, -⟩ := hM.st
      exact fun i hi => hz.pos i (Nat.le_trans hi hz.kz)
     have ho := ord_E hk2 hv
     have hw6 := K6.out.2.2.1.size
     have hs7 := hb7.size
     have K7 := Hid.mk (And.intro (K6.out.1.later hb7) (And.intro (K6.out.2.1.chg (Chg3.of_below gR gT gT hb7) K5.out.1.d1 K5.out.1.d2 K5.out.1.d2) (And.intro (K6.out.2.2.1.trans (hb7.mono hw6)) (And.intro hM (And.intro hy (hy.trans ho))))))
     clear hb7 hM hv ho hy b0 b1 b2
     cases y
     ·have hord : 4 * (vol c (ent c rs1) (k' + 2) * vol c (ent c rs1) k' + lam c (ent c rs1) (k' + 1) k' * lam c (ent c rs1) (k' + 1) k') < 3 * (vol c (ent c rs1) (k' + 1) * vol c (ent c rs1) (k' + 1)) := by
       rcases Int.lt_or_le (4 * (vol c (ent c rs1) (k' + 2) * vol c (ent c rs1) k' + lam c (ent c rs1) (k' + 1) k' * lam c (ent c rs1) (k' + 1) k')) (3 * (vol c (ent c rs1) (k' + 1) * vol c (ent c rs1) (k' + 1))) with h | h
       ·exact h
       ·have := K7.out.2.2.2.2.2.2 h
        cases this
      have HO := Hid.mk hord
      clear hord
      go_wp2_with fail
      refine (shSwap_any p gR gT n c r k' k rs1 ts1 6 4700000 _ K7.out.1 hk'n hk).mono ?_
      rintro e w8 ⟨rfl, rs2, ts2, hS8, hf8, ht8, hc8⟩
      have hI8 : RedI c r n k' (gk - 1) (ent c zs) (ent c rs2) (ent r ts2) := (K7.out.2.2.2.1.swap hk1n HO.out).congr (fun i j hi hj => by rw [hf8 i j hi hj, HK.out]; rfl) (fun i j hi hj => by rw [ht8 i j hi hj, HK.out]; rfl)
      have hw7 := K7.out.2.2.1.size
      have hag := run_on HI.out.2.2.2.2.2.2.2 hk hp1 (step_swap HK.out hk KL.out.1 KL.out.2 HNE.out.1 HNE.out.2 (fun h => by have := K7.out.2.2.2.2.1.2 h; cases this) hf8 ht8)
      have K8 : Hid (RdS W1 w8 p gR gT n c r k' (gk - 1) zs rs2 ts2) := Hid.mk ⟨hS8, K7.out.2.1.chg hc8 K5.out.1.d1 K5.out.1.d2 K5.out.1.d2, hI8, K7.out.2.2.1.trans (hc8.below HI.out.2.2.2.2.2.1 HI.out.2.2.2.2.2.2.1 HI.out.2.2.2.2.2.2.1 hw7), hpl, HI.out.2.2.2.2.2.1, HI.out.2.2.2.2.2.2.1, hag⟩
      clear hS8 hf8 ht8 hc8 hI8 hw7 hag
      go_wp2_with fail
      go_roundg (gk - 1)
      case measure => omega
      case rel => exact ⟨n, k', gR, gT, rs2, ts2, by first | rfl | (rw [hki]) | (have := HK.out; go_num), by omega, K8⟩
     ·have hI8 : RedI c r n (k + 1) (gk - 1) (ent c zs) (ent c rs1) (ent r ts1) := by
       rw [HK.out]
       exact K7.out.2.2.2.1.next hk1n (fun h => by omega) (fun i hi => by
        obtain rfl : i = k' := by omega
        exact K7.out.2.2.2.2.2.1 (by trivial))
      have hag := run_on HI.out.2.2.2.2.2.2.2 hk hp1 (step_next hk KL.out.1 KL.out.2 HNE.out.1 HNE.out.2 (.inr (by rw [show k - 1 = k' from by have := HK.out; omega]; exact K7.out.2.2.2.2.1.1 (by trivial))))
      have K8 : Hid (RdS W1 w7 p gR gT n c r (k + 1) (gk - 1) zs rs1 ts1) := Hid.mk ⟨K7.out.1, K7.out.2.1, hI8, K7.out.2.2.1, hpl, HI.out.2.2.2.2.2.1, HI.out.2.2.2.2.2.2.1, hag⟩
      clear hI8 hag
      go_wp2_with fail
      go_roundg (gk - 1)
      case measure => omega
      case rel => exact ⟨n, k + 1, gR, gT, rs1, ts1, by first | rfl | simp | go_num, by omega, K8⟩
   ·obtain ⟨n', hn'⟩ : ∃ n', n = n' + 1 := ⟨n - 1, by omega⟩
    have HN := Hid.mk hn'
    have H0 := Hid.mk h0
    clear hn' h0
    go_wp2_with fail
    refine (leave_any p gR gT n n' c r k rs1 ts1 6 4700000 _ K6.out.1 K6.out.2.1 HN.out).mono ?_
    rintro e w7 ⟨rfl, gR2, gT2, rs2, ts2, hS7, hB7, hf7, ht7, hg7, hl1, hl2⟩
    have hkn' : k ≤ n' := by have := HN.out; omega
    have hM7 : RedM c r (n' + 1) k gk (ent c zs) (ent c rs1) (ent r ts1) := by rw [← HN.out]; exact K5.out.2.2.1
    have hI7 : RedI c r n' k (gk - 1) (ent c zs) (ent c rs2) (ent r ts2) := (hM7.out (by omega) H0.out).congr (fun i j hi hj => by rw [hf7 i j hi hj]; unfold outF; split <;> rfl) (fun i j hi hj => by rw [ht7 i j hi hj]; unfold outF; split <;> rfl)
    have hw6 := K6.out.2.2.1.size
    have hb7 : Below W1.heap.size W1 w7 := K6.out.2.2.1.trans ((Chg3.of_grown (g1 := p) (g2 := p) (g3 := p) hg7 (.inl rfl)).below hpl hpl hpl hw6)
    have hag := run_on HI.out.2.2.2.2.2.2.2 hk hp1 (step_out HN.out hk KL.out.1 KL.out.2 H0.out hf7 ht7)
    have K7 : Hid (RdS W1 w7 p gR2 gT2 n' c r k (gk - 1) zs rs2 ts2) := Hid.mk ⟨hS7, hB7, hI7, hb7, hpl, by omega, by omega, hag⟩
    clear hag hS7 hB7 hf7 ht7 hg7 hl1 hl2 hM7 hI7 hb7 hw6
    go_wp2_with fail
    go_roundg (gk - 1)
    case measure => omega
    case rel => exact ⟨n', k, gR2, gT2, rs2, ts2, rfl, hkn', K7⟩
  ·obtain rfl : k = n := by omega
   have hplr := HI.out.2.1.lt
   have hwr := HI.out.2.2.2.1.size
   have z1 : wr.cell? ⟨p, 1, none⟩ = some (.int .i64 c) := by simp [World.cell?, hBk]
   have z2 : wr.cell? ⟨p, 2, none⟩ = some (.slice (some ⟨gR, 0, none⟩) A1 A1) := by simp [World.cell?, hBk]
   have z3 : wr.cell? ⟨p, 3, none⟩ = some (.int .i64 k) := by simp [World.cell?, hBk]
   have z4 : wr.cell? ⟨p, 4, none⟩ = some (.int .i64 r) := by simp [World.cell?, hBk]
   have z5 : wr.cell? ⟨p, 5, none⟩ = some (.slice (some ⟨gT, 0, none⟩) A2 A2) := by simp [World.cell?, hBk]
   have hR : wr.heap[w.heap.size + 1]? = some (.cells #[.int .i64 0, .int .i64 0, .slice none 0 0, .int .i64 0, .int .i64 0, .slice none 0 0] 133 (0, 0)) := (HI.out.2.2.2.1.block _ (by omega)).trans K1.out.2.1
   have r0 : wr.cell? ⟨w.heap.size + 1, 0, none⟩ = some (.int .i64 0) := by simp [World.cell?, hR]
   have r1 : wr.cell? ⟨w.heap.size + 1, 1, none⟩ = some (.int .i64 0) := by simp [World.cell?, hR]
   have r2 : wr.cell? ⟨w.heap.size + 1, 2, none⟩ = some (.slice none 0 0) := by simp [World.cell?, hR]
   have r3 : wr.cell? ⟨w.heap.size + 1, 3, none⟩ = some (.int .i64 0) := by simp [World.cell?, hR]
   have r4 : wr.cell? ⟨w.heap.size + 1, 4, none⟩ = some (.int .i64 0) := by simp [World.cell?, hR]
   have r5 : wr.cell? ⟨w.heap.size + 1, 5, none⟩ = some (.slice none 0 0) := by simp [World.cell?, hR]
   have f0 : ∀ o, wr.frozen? ⟨w.heap.size + 1, o, none⟩ = false := fun o => by simp [World.frozen?, hR]
   have HT : Hid (Ty wr (w.heap.size + 1) 133) := Hid.mk ⟨_, _, hR⟩
   have hpq : p ≠ w.heap.size + 1 := by omega
   have hkk0 : ¬ (k : Int) < k := by omega
   have HG8 := Hid.mk (show Ag c r ⟨k, k, ent c rs, ent r ts⟩ (RS.run c 32000 ⟨r, 0, ent c zs, kd⟩) by
    have h1 := HI.out.2.2.2.2.2.2.2
    rw [run_end (by simp)] at h1
    exact h1)
   clear hR hBk
   go_wp2_with fail
   refine bodyPost_ret (v := .agg #[.int .i64 k, .int .i64 c, .slice (some ⟨gR, 0, none⟩) A1 A1, .int .i64 k, .int .i64 r, .slice (some ⟨gT, 0, none⟩) A2 A2]) ?_ rfl ?_
   ·(simp [results, Tryz.results80, go_sem, r0, r1, r2, r3, r4, r5]; done)
   ·have t0 := HT.out
    have hgr := HI.out.2.2.2.2.2.1
    have hgt := HI.out.2.2.2.2.2.2.1
    have g1 := put3_fr t0 (by decide) (by decide) 0 (.int .i64 k) (.int .i64 c) (.slice (some ⟨gR, 0, none⟩) A1 A1)
    have t1 := ((t0.setCell ⟨w.heap.size + 1, 0, none⟩ (.int .i64 k)).setCell ⟨w.heap.size + 1, 1, none⟩ (.int .i64 c)).setCell ⟨w.heap.size + 1, 2, none⟩ (.slice (some ⟨gR, 0, none⟩) A1 A1)
    have g2 := put3_fr t1 (by decide) (by decide) 3 (.int .i64 k) (.int .i64 r) (.slice (some ⟨gT, 0, none⟩) A2 A2)
    have gF := g1.trans g2
    have hb : Below w.heap.size w wr := K1.out.1.trans (HI.out.2.2.2.1.mono (by omega))
    exact ⟨k, gR, gT, gk, rs, ts, by rw [← HA1.out, ← HA2.out], HI.out.1.R.isM.fr gF, HI.out.1.T.isM.fr gF, HI.out.2.2.1, HG8.out, hb.trans (gF.below (by omega) hb.size)⟩
open Go.RowKit
open Go.RowKit
open Go.RowKit
theorem MRow.two {w : World} {g : Nat} {x y : Nat × Nat × List Int} {o1 o2 : Option Addr} {m1 m2 c1 c2 : Nat} {t : TypeId} (hg : w.heap[g]? = some (.cells #[.int .i64 (x.1 : Nat), .int .i64 (x.2.1 : Nat), .slice o1 m1 c1, .int .i64 (y.1 : Nat), .int .i64 (y.2.1 : Nat), .slice o2 m2 c2] t (0, 0)))
 (h1 : IsM w (.agg #[.int .i64 (x.1 : Nat), .int .i64 (x.2.1 : Nat), .slice o1 m1 c1]) x.1 x.2.1 x.2.2 200000000) (h2 : IsM w (.agg #[.int .i64 (y.1 : Nat), .int .i64 (y.2.1 : Nat), .slice o2 m2 c2]) y.1 y.2.1 y.2.2 200000000) : MRow w g [x, y] := by
 intro j hj
 match j, hj with
 | 0, _ => exact ⟨o1, m1, c1, by simp [World.cell?, hg], by simp [World.cell?, hg], by simp [World.cell?, hg], h1⟩
 | 1, _ => exact ⟨o2, m2, c2, by simp [World.cell?, hg], by simp [World.cell?, hg], by simp [World.cell?, hg], h2⟩
open Go.RowKit R
def RdRes (r c : Nat) (zs : List Int) (xs : List (Nat × Nat × List Int)) : Prop := ∃ (n kk : Nat) (rs ts : List Int), xs = [(n, c, rs), (n, r, ts)] ∧ RedI c r n n kk (ent c zs) (ent c rs) (ent r ts) ∧ Ag c r ⟨n, n, ent c rs, ent r ts⟩ (RS.run c 32000 ⟨r, 0, ent c zs, kd⟩) ∧ (rs.length = n * c ∧ ts.length = n * r)
set_option maxRecDepth 100000 in
set_option maxHeartbeats 4000000 in
theorem reduce_held (b : Nat) (h : Int) (ms : List Hm) (nx : Nat) (w : World) (hst : Held w b ms nx) (hnx : nx < 1000000 - 5) :
 Calls Tryz.prog 46 #[.pointer (some ⟨b, 0, none⟩), .int .i64 h] w fun x w' => ∃ v e ok xs, x = .returned (.tuple #[v, .int .i64 e]) ∧ ManyRel 2 RdRes ms h ok e xs ∧ ManyOut w w' b 2 nx ms ok xs v := by
 have H := Hid.mk hst
 have hm24 := hst.1
 have hbl := hst.lt
 clear hst
 go_enter Tryz.func46, Tryz.ntmps46
 go_wp2_with fail
 refine (find_held b h ms nx _ H.out).mono ?_
 rintro e w1 ⟨⟨r, c, ao, n, cap, ok, rfl, hf⟩, hb1⟩
 have hbA := (Below.refl w1.heap.size w1).alloc (Nat.le_refl _) (.cells #[.int .i64 r, .int .i64 c, .slice ao n cap] 66)
 have hbw := hb1.trans (hbA.mono hb1.size)
 have hw1 := hb1.size
 rcases id hf with ⟨rfl, i, hd, zs, hi, hgi, hgh, hM⟩ | ⟨rfl, hno⟩
 ·have K1 := Hid.mk (And.intro (hM.below hbA) (And.intro hbw (And.intro hi (And.intro hgi hgh))))
  clear hf hM hb1 hbA hbw hi hgi hgh
  go_wp2_with fail
  refine (tooBig_any _ r c zs 200000000 _ K1.out.1 (by omega)).mono ?_
  rintro e w2 ⟨fb, rfl, hfo, hb2⟩
  have hs2 : w1.heap.size + 1 ≤ w2.heap.size := by have := hb2.size; simpa using this
  have m0 : w2.cell? ⟨w1.heap.size, 0, none⟩ = some (.int .i64 r) := cell_later hb2 (by simp)
  have m1 : w2.cell? ⟨w1.heap.size, 1, none⟩ = some (.int .i64 c) := cell_later hb2 (by simp)
  have m2 : w2.cell? ⟨w1.heap.size, 2, none⟩ = some (.slice ao n cap) := cell_later hb2 (by simp)
  have K2 := Hid.mk (And.intro (K1.out.1.below hb2) (And.intro (K1.out.2.1.trans (hb2.mono K1.out.2.1.size)) hfo))
  clear hb2 hfo
  cases fb
  ·have HNF : Hid (¬ FitsP r c zs) := Hid.mk (fun h => by have := K2.out.2.2.2 h; cases this)
   go_wp2_with fail
   go_ret2
   exact ⟨_, _, false, [], rfl, .inr ⟨i, hd, r, c, zs, K1.out.2.2.1, K1.out.2.2.2.1, K1.out.2.2.2.2, .inl ⟨HNF.out, rfl, rfl, rfl⟩⟩, .inl ⟨rfl, rfl, H.out.below K2.out.2.1, Fr.of_below K2.out.2.1⟩⟩
  ·have HFP : Hid (FitsP r c zs) := Hid.mk (K2.out.2.2.1 rfl)
   go_wp2_with fail
   refine (room_held b ms nx _ (H.out.below K2.out.2.1)).mono ?_
   rintro e w' ⟨rfl, rfl⟩
   obtain ⟨rm, hrm⟩ : ∃ rm, rm = ms.countP Option.isNone := ⟨_, rfl⟩
   have HRM := Hid.mk hrm
   rw [← hrm]
   clear hrm
   by_cases h0 : rm < 2
   ·have h0' : ((rm : Int) < 2) := by omega
    go_wp2_with fail
    go_ret2
    exact ⟨_, _, false, [], rfl, .inr ⟨i, hd, r, c, zs, K1.out.2.2.1, K1.out.2.2.2.1, K1.out.2.2.2.2, .inr (.inl ⟨HFP.out, by rw [← HRM.out]; exact h0, rfl, rfl, rfl⟩)⟩, .inl ⟨rfl, rfl, H.out.below K2.out.2.1, Fr.of_below K2.out.2.1⟩⟩
   ·have h0' : ¬ ((rm : Int) < 2) := by omega
    go_wp2_with fail
    refine (greduce_any _ r c zs _ (K2.out.1.tight HFP.out) HFP.out.1 HFP.out.2.1 HFP.out.ent).mono ?_
    rintro e w3 ⟨nn, gR, gT, kk, rs, ts, rfl, m3, m4, hI, hag, hb3⟩
    have hb03 := K2.out.2.1.trans (hb3.mono K2.out.2.1.size)
    have hlen : rs.length = nn * c ∧ ts.length = nn * r := ⟨m3.lng, m4.lng⟩
    have K3 := Hid.mk (And.intro (And.intro m3 m4) (And.intro (And.intro hI (And.intro hag hlen)) hb03))
    have hw3 := hb3.size
    clear hb3 m0 m1 m2 m3 m4 hI hag hlen hb03
    go_wp2_with fail
    obtain ⟨X, hX⟩ : ∃ X, X = (w3.alloc (.cells #[.int .i64 nn, .int .i64 c, .slice (some ⟨gR, 0, none⟩) (nn * c) (nn * c), .int .i64 nn, .int .i64 r, .slice (some ⟨gT, 0, none⟩) (nn * r) (nn * r)] 133)).alloc (.cells #[.int .i64 nn, .int .i64 c, .slice (some ⟨gR, 0, none⟩) (nn * c) (nn * c), .int .i64 nn, .int .i64 r, .slice (some ⟨gT, 0, none⟩) (nn * r) (nn * r)] 66) := ⟨_, rfl⟩
    rw [← hX]
    have hbX : Below w3.heap.size w3 X := by rw [hX]; exact ((Below.refl _ _).alloc (Nat.le_refl _) _).alloc (by simp) _
    have hsX : X.heap.size = w3.heap.size + 1 + 1 := by rw [hX]; simp
    have hgX : X.heap[w3.heap.size + 1]? = some (.cells #[.int .i64 nn, .int .i64 c, .slice (some ⟨gR, 0, none⟩) (nn * c) (nn * c), .int .i64 nn, .int .i64 r, .slice (some ⟨gT, 0, none⟩) (nn * r) (nn * r)] 66 (0, 0)) := by
     rw [hX]
     have := heap_alloc_new (w3.alloc (.cells #[.int .i64 nn, .int .i64 c, .slice (some ⟨gR, 0, none⟩) (nn * c) (nn * c), .int .i64 nn, .int .i64 r, .slice (some ⟨gT, 0, none⟩) (nn * r) (nn * r)] 133)) (.cells #[.int .i64 nn, .int .i64 c, .slice (some ⟨gR, 0, none⟩) (nn * c) (nn * c), .int .i64 nn, .int .i64 r, .slice (some ⟨gT, 0, none⟩) (nn * r) (nn * r)] 66)
     simpa using this
    have hbwX := K3.out.2.2.trans (hbX.mono K3.out.2.2.size)
    have hrow : MRow X (w3.heap.size + 1) [(nn, c, rs), (nn, r, ts)] := MRow.two (x := (nn, c, rs)) (y := (nn, r, ts)) hgX ((K3.out.1.1.below hbX).mono (by omega)) ((K3.out.1.2.below hbX).mono (by omega))
    have hw03 := K3.out.2.2.size
    have HX := Hid.mk (And.intro hbwX hrow)
    clear hX hbX hgX hbwX hrow
    refine (keepAll_held b (w3.heap.size + 1) 2 2 [(nn, c, rs), (nn, r, ts)] ms nx _ (H.out.below HX.out.1) HX.out.2 rfl (by omega) (by omega) (by omega) (by have := HRM.out; omega) hnx).mono ?_
    rintro e w4 ⟨v4, rfl, hb4, zs4, rfl, k1, k2, k3, k4, k5, k6⟩
    have K4 := Hid.mk (And.intro k1 (And.intro k2 (And.intro k3 (And.intro k4 (And.intro k5 ((Fr.of_below HX.out.1).trans k6))))))
    clear k1 k2 k3 k4 k5 k6
    go_wp2_with fail
    go_ret2
    exact ⟨_, _, true, [(nn, c, rs), (nn, r, ts)], rfl, .inr ⟨i, hd, r, c, zs, K1.out.2.2.1, K1.out.2.2.2.1, K1.out.2.2.2.2, .inr (.inr ⟨HFP.out, by have := HRM.out; omega, rfl, rfl, rfl, nn, kk, rs, ts, rfl, K3.out.2.1.1, K3.out.2.1.2.1, K3.out.2.1.2.2⟩)⟩, .inr ⟨rfl, hb4, zs4, rfl, by have := HX.out.1.size; have := K4.out.1; omega, K4.out.2.1, K4.out.2.2.1, K4.out.2.2.2.1, K4.out.2.2.2.2.1, K4.out.2.2.2.2.2⟩⟩
 ·have KN := Hid.mk (And.intro hno hbw)
  clear hno hbw hb1 hbA hf
  go_wp2_with fail
  go_ret2
  exact ⟨_, _, false, [], rfl, .inl ⟨KN.out.1, rfl, rfl, rfl⟩, .inl ⟨rfl, rfl, H.out.below KN.out.2, Fr.of_below KN.out.2⟩⟩
end Go.Proofs.YtfjbijpagaipnabGreatDoor
namespace Go.Proofs.YtfjbijpagaipnabGreatDoor.R
open Go.RowKit
def gmF (f : Nat → Nat → Int) (c : Nat) : Nat → Nat → Int := fun i j => dot f (fun i j => f j i) i j c
open Go.RowKit
open Go.RowKit
open Go.RowKit
open Go.RowKit
open Go.RowKit
open Go.RowKit
open Go.RowKit
open Go.RowKit
open Go.RowKit
end Go.Proofs.YtfjbijpagaipnabGreatDoor.R
namespace Go.Proofs.YtfjbijpagaipnabGreatDoor
open Go.RowKit R
open Go.RowKit R
open Go.RowKit R
open Go.RowKit R
open Go.RowKit R
open Go.RowKit R
open Go.RowKit R
open Go.RowKit R
open Go.RowKit
open Go.RowKit R
open Go.RowKit R
open Go.RowKit R
open Go.RowKit R
open Go.RowKit R
open Go.RowKit R
open Go.RowKit R
end Go.Proofs.YtfjbijpagaipnabGreatDoor
namespace Go.Proofs.YtfjbijpagaipnabGreatDoor.R
open Go.RowKit
end Go.Proofs.YtfjbijpagaipnabGreatDoor.R
namespace Go.Proofs.YtfjbijpagaipnabGreatDoor
open Go.RowKit R
open Go.RowKit R
open Go.RowKit R
theorem R.spans_say {A H U W N : Nat → Nat → Int} {r n c k : Nat} {pc : Nat → Nat} (h : EchSt r c k pc H) (hE : EInv A H U W r c) (hc : c ≤ 4) (hA : RankIs A r c k) :
 (∃ l, RankIs A r c l ∧ RankIs (ov r A N) (r + n) c l ∧ divF (ov r A N) (r + n) c l = divF A r c l) ↔ ∀ i, i < n → Sp A r c (N i) := by
 constructor
 ·rintro ⟨l, h1, h2, h3⟩
  obtain rfl := rank_uniq hA h1
  exact (spans_iff h hE hc hA).2 ⟨h2, h3⟩
 ·intro hN
  obtain ⟨h1, h2⟩ := (spans_iff h hE hc hA).1 hN
  exact ⟨k, hA, h1, h2⟩
theorem HasF.say {A N : Nat → Nat → Int} {r n c : Nat} (h : HasF A r c) (hr : r ≤ 4) (hc : c ≤ 4) :
 (∃ l, RankIs A r c l ∧ RankIs (ov r A N) (r + n) c l ∧ divF (ov r A N) (r + n) c l = divF A r c l) ↔ ∀ i, i < n → Sp A r c (N i) := by
 obtain ⟨k, pc, H, U, W, h1, h2⟩ := h
 exact spans_say h1 h2 hc (ech_rankIs h1 h2 hr hc)
open Go.RowKit R
open Go.RowKit R
open Go.RowKit R
open Go.RowKit R
theorem R.gmF_ip (f : Nat → Nat → Int) (c i j : Nat) : gmF f c i j = ip c (f i) (f j) := by unfold gmF ip; rw [dot_sm]
theorem R.gm_vol (f : Nat → Nat → Int) (c k : Nat) : detF k (gmF f c) = vol c f k := by
 rw [← vol_E]
 exact detF_upto k _ _ (fun i j _ _ => gmF_ip f c i j)
theorem R.vol_rank {c n : Nat} {b : Nat → Nat → Int} (hn : n ≤ 4) (h : 0 < vol c b n) : n ≤ c ∧ divF b n c n ≠ 0 := by
 have key : divF b n c n ≠ 0 := by
  intro h0
  rw [← div_tr b n c n hn, all_div _ _ _ _ hn, allV_iff] at h0
  have hr : List.range n ∈ chosenL n n := by
   have := h0
   rw [chosenL_self]; simp
  have h1 : AllD 0 (gmF b c) n (List.range n) := by
   refine allD_comb (h0 _ hr) (fun i hi => ⟨b i, fun x hx => ?_⟩)
   rw [gmF_ip]; rfl
  have h2 := h1 (List.range n) rfl (fun x hx => List.mem_range.1 hx)
  rw [← mv_minor, minor_range, gm_vol] at h2
  have := Int.zero_dvd.1 h2
  omega
 refine ⟨?_, key⟩
 rcases Nat.lt_or_ge c n with h1 | h1
 ·exfalso
  apply key
  rw [← div_tr b n c n hn]
  exact div_few _ h1
 ·exact h1
theorem R.RedI.rank {c m n kk k : Nat} {A b t : Nat → Nat → Int} (h : RedI c m n n kk A b t) (hA : RankIs A m c k) : RankIs b n c n ∧ n = k := by
 obtain ⟨z, hz, -⟩ := h.st
 have h1 := hz.kz
 have h2 := hz.zn
 have h4 := hz.n4
 obtain ⟨a1, a2⟩ := vol_rank h4 (hz.pos n (by omega))
 have hb := rank_of_div h4 a1 a2
 have hs : ∀ i, i < n → Sp A m c (b i) := fun i hi => ⟨t i, fun j hj => (h.tm i j hi hj).symm⟩
 exact ⟨hb, rank_uniq hb (rank_same h.back hs h.c4 hA)⟩
end Go.Proofs.YtfjbijpagaipnabGreatDoor
