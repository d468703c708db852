import Derived.Test.YtfjbijpagaipnaaGreatDoorM33
import Derived.Test.YtfjbijpagaipnaaGreatDoorM21
import Derived.Test.YtfjbijpagaipnaaGreatDoorM24
import Derived.Test.YtfjbijpagaipnaaGreatDoorM19
namespace Go.Proofs.YtfjbijpagaipnaaGreatDoor
open Go.RowKit R
def idxP (D : Nat → Nat → Int) : Nat → Int
 | 0 => 1
 | n + 1 => if D n n = 0 then idxP D n else idxP D n * D n n
theorem idx_pr {r c k : Nat} {D : Nat → Nat → Int} (h : LowT r c k D) : ∀ n, n ≤ r → n ≤ c → idxP D n = pr D 0 (min n k) := by
 intro n
 induction n with
 | zero => intro _ _; simp [idxP, pr]
 | succ n ih =>
   intro hr hc
   rw [idxP, ih (by omega) (by omega)]
   by_cases hn : n < k
   ·have hp := h.pos n hn
    rw [if_neg (by omega), show min n k = n by omega, show min (n + 1) k = n + 1 by omega, pr_succ, Nat.zero_add]
   ·rw [if_pos (h.out n n (by omega) (by omega) (.inl (by omega))), show min n k = k by omega, show min (n + 1) k = k by omega]
set_option maxRecDepth 100000 in
set_option maxHeartbeats 4000000 in
theorem index_any (r c : Nat) (sD sU sS sV sT : Value) (ds us ss vs ts : List Int) (L K : Nat) (w : World) (hD : IsM w (.agg #[.int .i64 r, .int .i64 c, sD]) r c ds L) (hU : IsM w (.agg #[.int .i64 r, .int .i64 r, sU]) r r us K) (hS : IsM w (.agg #[.int .i64 r, .int .i64 r, sS]) r r ss K) (hV : IsM w (.agg #[.int .i64 c, .int .i64 c, sV]) c c vs K) (hT : IsM w (.agg #[.int .i64 c, .int .i64 c, sT]) c c ts K) (hr4 : r ≤ 4) (hc4 : c ≤ 4) (hL : L ≤ 10000000) :
 Calls Tryz.prog 58 #[.agg #[.int .i64 r, .int .i64 c, sD, .int .i64 r, .int .i64 r, sU, .int .i64 r, .int .i64 r, sS, .int .i64 c, .int .i64 c, sV, .int .i64 c, .int .i64 c, sT]] w fun e w' => ∃ v, e = .returned v ∧ IntOut w w' v (idxP (ent c ds) (min r c)) 50000000 := by
 have HM := Hid.mk hD
 obtain ⟨oD, cD, rfl⟩ := hD.slice
 obtain ⟨oU, cU, rfl⟩ := hU.slice
 obtain ⟨oS, cS, rfl⟩ := hS.slice
 obtain ⟨oV, cV, rfl⟩ := hV.slice
 obtain ⟨oT, cT, rfl⟩ := hT.slice
 clear hD hU hS hV hT
 obtain ⟨N1, hN1⟩ : ∃ N1, N1 = r * c := ⟨_, rfl⟩
 obtain ⟨N2, hN2⟩ : ∃ N2, N2 = r * r := ⟨_, rfl⟩
 obtain ⟨N3, hN3⟩ : ∃ N3, N3 = c * c := ⟨_, rfl⟩
 rw [← hN1] at HM ⊢
 rw [← hN2, ← hN3]
 clear hN1 hN2 hN3
 go_enter Tryz.func58, Tryz.ntmps58
 go_wp2_with fail
 obtain ⟨W1, hW1⟩ : ∃ W1, W1 = (w.alloc (.cells #[.int .i64 r, .int .i64 c, .slice oD N1 cD, .int .i64 r, .int .i64 r, .slice oU N2 cU, .int .i64 r, .int .i64 r, .slice oS N2 cS, .int .i64 c, .int .i64 c, .slice oV N3 cV, .int .i64 c, .int .i64 c, .slice oT N3 cT] 96)).alloc (.cells #[.bool false, .slice none 0 0] 94) := ⟨_, rfl⟩
 have hs1 : W1.heap.size = w.heap.size + 2 := by rw [hW1]; simp
 have hb1 : Below w.heap.size w W1 := by rw [hW1]; repeat (first | exact Below.refl _ _ | refine Below.alloc ?_ (by simp <;> omega) _)
 have hm1 : Trio W1 w.heap.size (.int .i64 r) (.int .i64 c) (.slice oD N1 cD) := by
  rw [hW1]
  exact Trio.later (w := w.alloc (.cells #[.int .i64 r, .int .i64 c, .slice oD N1 cD, .int .i64 r, .int .i64 r, .slice oU N2 cU, .int .i64 r, .int .i64 r, .slice oS N2 cS, .int .i64 c, .int .i64 c, .slice oV N3 cV, .int .i64 c, .int .i64 c, .slice oT N3 cT] 96)) ⟨new_cell _ _ _ _ _ rfl rfl, new_cell _ _ _ _ _ rfl rfl, new_cell _ _ _ _ _ rfl rfl⟩ ((Below.refl _ _).alloc (Nat.le_refl _) _)
 have hres : Duo W1 (w.heap.size + 1) (.bool false) (.slice none 0 0) := by rw [hW1]; exact Duo.new _ _ _ (by simp)
 have K1 := Hid.mk (And.intro hb1 (And.intro hm1 hres))
 rw [← hW1]
 clear hW1 hb1 hm1 hres
 refine (fromOne_any _).mono ?_
 rintro e w2 ⟨v2, rfl, hx2, hb2⟩
 obtain ⟨nb2, so2, n2, cp2, rfl⟩ := hx2.shape
 have hb22 := (Below.refl w2.heap.size w2).alloc (Nat.le_refl _) (.cells #[.bool nb2, .slice so2 n2 cp2] 94)
 have hw2 := hb2.size
 obtain ⟨W2, hW2⟩ : ∃ W2, W2 = w2.alloc (.cells #[.bool nb2, .slice so2 n2 cp2] 94) := ⟨_, rfl⟩
 have hs2 : W2.heap.size = w2.heap.size + 1 := by rw [hW2]; simp
 have hD2 : Duo W2 w2.heap.size (.bool nb2) (.slice so2 n2 cp2) := by rw [hW2]; exact Duo.new _ _ _ rfl
 rw [← hW2] at hb22
 have hb12 := hb2.trans (hb22.mono hw2)
 obtain ⟨sb, hsb⟩ : ∃ sb, sb = w2.heap.size := ⟨_, rfl⟩
 rw [← hsb] at hD2 hs2 hw2
 have K2 := Hid.mk (And.intro (hx2.below hb22) (And.intro hD2 (And.intro (K1.out.2.1.later hb12) (And.intro (K1.out.2.2.below hb12 (by omega)) (And.intro (K1.out.1.trans (hb12.mono (by omega))) hW2)))))
 have HSB := Hid.mk hsb
 clear hx2 hb2 hb22 hb12 hD2 hW2
 go_wp2_with fail
 rw [← K2.out.2.2.2.2.2, ← HSB.out]
 clear hsb
 go_loopw [4] (fun i wr => ∃ (t : Nat) (nb : Bool) (so : Option Addr) (n ecap : Nat), t ≤ 4 ∧ i = .int .i64 t ∧ Duo wr sb (.bool nb) (.slice so n ecap) ∧ Hid ((t ≤ r ∧ t ≤ c) ∧ IsI wr (.agg #[.bool nb, .slice so n ecap]) (idxP (ent c ds) t) (2 + t * L) ∧ W2.grownBy wr (some sb) ∧ Below w.heap.size w wr)) (fun i _ => 4 - (intOf i).toNat)
 case atStart => exact ⟨0, _, _, _, _, by omega, rfl, K2.out.2.1, Hid.mk ⟨by omega, by rw [idxP, Nat.zero_mul]; exact K2.out.1, World.grownBy.refl _ _, K2.out.2.2.2.2.1⟩⟩
 case round =>
  obtain ⟨t, nb, so, n, ecap, ht, rfl, hD, HI⟩ := hrel
  obtain ⟨q0, q1, q2⟩ := K2.out.2.2.1.grown HI.out.2.2.1 (by omega)
  have hwr := HI.out.2.2.2.size
  have hgs := HI.out.2.2.1.size
  have hDl := hD.ty.lt
  have K := Hid.mk hD
  have ht4 : t * L ≤ 4 * 10000000 := Nat.mul_le_mul ht hL
  by_cases htr : t < r
  ·have hti : (t : Int) < (r : Int) := by omega
   by_cases htc : t < c
   ·have htci : (t : Int) < (c : Int) := by omega
    obtain ⟨d1, d2, d3, d4⟩ := hD.cells
    clear hD
    go_wp2_with fail
    refine (at_in _ r c t t ds L _ (HM.out.below HI.out.2.2.2) htr htc).mono ?_
    rintro e w4 ⟨x, rfl, hx, hb4⟩
    obtain ⟨nb4, so4, n4, cp4, rfl⟩ := hx.shape
    have hb44 := (Below.refl w4.heap.size w4).alloc (Nat.le_refl _) (.cells #[.bool nb4, .slice so4 n4 cp4] 94)
    have hbA : Below wr.heap.size wr (w4.alloc (.cells #[.bool nb4, .slice so4 n4 cp4] 94)) := hb4.trans (hb44.mono hb4.size)
    have hl4 := Duo.new w4 (.bool nb4) (.slice so4 n4 cp4) rfl
    have KA := Hid.mk (And.intro hbA (And.intro hl4 (hx.below hb44)))
    have hw4 := hb4.size
    obtain ⟨e0, e1, -, -⟩ := hl4.cells
    clear hx hb4 hb44 hbA hl4 q0 q1 q2 d1 d2 d3 d4
    go_wp2_with fail
    refine (isZero_any _ _ L _ KA.out.2.2).mono ?_
    rintro e w5 ⟨rfl, hb5⟩
    obtain ⟨Z, hZ⟩ : ∃ Z, Z = decide (ds.getD (t * c + t) 0 = 0) := ⟨_, rfl⟩
    rw [← hZ]
    have hs5 : w4.heap.size + 1 ≤ w5.heap.size := by have := hb5.size; simpa using this
    have hbB : Below wr.heap.size wr w5 := KA.out.1.trans (hb5.mono (by simp; omega))
    have hl5 := KA.out.2.1.below hb5 (by simp)
    have KB := Hid.mk (And.intro hbB (And.intro (KA.out.2.2.below hb5) (And.intro hZ (And.intro hl5 (K.out.below hbB hDl)))))
    clear hb5 hZ hbB hl5 e0 e1
    cases Z
    ·obtain ⟨e0, e1, -, -⟩ := KB.out.2.2.2.1.cells
     obtain ⟨d1, d2, d3, d4⟩ := KB.out.2.2.2.2.cells
     go_wp2_with fail
     refine (mul_any _ _ _ _ (2 + t * L) L _ (HI.out.2.1.below KB.out.1) KB.out.2.1 (by omega) (by omega)).mono ?_
     rintro e w6 ⟨x, rfl, hx, hb6⟩
     obtain ⟨nb6, so6, n6, cp6, rfl⟩ := hx.shape
     have hbC : Below wr.heap.size wr w6 := KB.out.1.trans (hb6.mono (by omega))
     have hD6 := K.out.below hbC hDl
     have KC := Hid.mk (And.intro hbC (And.intro hx hD6))
     clear hx hb6 hbC hD6 e0 e1 d1 d2 d3 d4
     obtain ⟨d1, d2, d3, d4⟩ := KC.out.2.2.cells
     go_wp2_with fail
     go_roundw
     case measure => simp [intOf]; omega
     case rel =>
      refine ⟨t + 1, nb6, so6, n6, cp6, by omega, by go_num, KC.out.2.2.put _ _, Hid.mk ⟨by omega, ?_, grown_put2 (grown_below HI.out.2.2.1 KC.out.1), ((HI.out.2.2.2.trans (KC.out.1.mono hwr)).setCell (by simp; omega) _).setCell (by simp; omega) _⟩⟩
      have h0 : ¬ ent c ds t t = 0 := of_decide_eq_false KB.out.2.2.1.symm
      rw [idxP, if_neg h0, Nat.succ_mul]
      exact (KC.out.2.1.duo KC.out.2.2 _ _).mono (by omega)
    ·go_wp2_with fail
     go_roundw
     case measure => simp [intOf]; omega
     case rel =>
      have h0 : ent c ds t t = 0 := of_decide_eq_true KB.out.2.2.1.symm
      refine ⟨t + 1, nb, so, n, ecap, by omega, by go_num, KB.out.2.2.2.2, Hid.mk ⟨by omega, ?_, grown_below HI.out.2.2.1 KB.out.1, HI.out.2.2.2.trans (KB.out.1.mono hwr)⟩⟩
      rw [idxP, if_pos h0, Nat.succ_mul]
      exact (HI.out.2.1.below KB.out.1).mono (by omega)
   ·have htci : ¬ (t : Int) < (c : Int) := by omega
    have HE : Hid (t = min r c) := Hid.mk (by have := HI.out.1; omega)
    obtain ⟨d1, d2, d3, d4⟩ := hD.cells
    have hRD : Duo wr (w.heap.size + 1) (.bool false) (.slice none 0 0) := (HI.out.2.2.1.block _ (by omega) (by simp; omega)).trans K2.out.2.2.2.1
    have hcell := (hRD.put (.bool nb) (.slice so n ecap)).cells
    have HR := Hid.mk (And.intro hRD hcell)
    obtain ⟨r1, r2, r3, r4⟩ := hRD.cells
    clear hRD hcell hD
    go_wp2_with fail
    obtain ⟨g1, g2, -, -⟩ := HR.out.2
    refine bodyPost_ret (v := .agg #[.bool nb, .slice so n ecap]) ?_ rfl ?_
    ·(simp [results, Tryz.results58, go_sem, g1, g2]; done)
    ·refine ⟨_, rfl, ?_, (HI.out.2.2.2.setCell (by simp) _).setCell (by simp) _⟩
     rw [← HE.out]
     exact (HI.out.2.1.duo HR.out.1 _ _).mono (by omega)
  ·have hti : ¬ (t : Int) < (r : Int) := by omega
   have HE : Hid (t = min r c) := Hid.mk (by have := HI.out.1; omega)
   obtain ⟨d1, d2, d3, d4⟩ := hD.cells
   have hRD : Duo wr (w.heap.size + 1) (.bool false) (.slice none 0 0) := (HI.out.2.2.1.block _ (by omega) (by simp; omega)).trans K2.out.2.2.2.1
   have hcell := (hRD.put (.bool nb) (.slice so n ecap)).cells
   have HR := Hid.mk (And.intro hRD hcell)
   obtain ⟨r1, r2, r3, r4⟩ := hRD.cells
   clear hRD hcell hD
   go_wp2_with fail
   obtain ⟨g1, g2, -, -⟩ := HR.out.2
   refine bodyPost_ret (v := .agg #[.bool nb, .slice so n ecap]) ?_ rfl ?_
   ·(simp [results, Tryz.results58, go_sem, g1, g2]; done)
   ·refine ⟨_, rfl, ?_, (HI.out.2.2.2.setCell (by simp) _).setCell (by simp) _⟩
    rw [← HE.out]
    exact (HI.out.2.1.duo HR.out.1 _ _).mono (by omega)
open Go.RowKit R
def IdxRel (ms : List Hm) (h : Int) (t : List UInt8) (e : Int) : Prop :=
 ((∀ i, i < 24 → ∀ x, ms.getD i none = some x → (x.1 : Int) ≠ h) ∧ t = [] ∧ e = 2) ∨
 ∃ i hd r c zs, i < 24 ∧ ms.getD i none = some (hd, r, c, zs) ∧ ((hd : Nat) : Int) = h ∧ ((¬ FitsP r c zs ∧ t = [] ∧ e = 4) ∨ (FitsP r c zs ∧ e = 0 ∧ ∃ k, RankIs (gz c zs) r c k ∧ t = Lib.itoa ((divF (gz c zs) r c k : Nat) : Int)))
theorem DgIs.index {r c : Nat} {zs : List Int} {x : D5} (h : DgIs r c zs x) : ∃ k, RankIs (gz c zs) r c k ∧ idxP (ent c x.d) (min r c) = ((divF (gz c zs) r c k : Nat) : Int) := by
 obtain ⟨k, hk⟩ := h.low
 refine ⟨k, hk.rk, ?_⟩
 have h1 := hk.low.kr
 have h2 := hk.low.kc
 rw [idx_pr hk.low (min r c) (by omega) (by omega), show min (min r c) k = k by omega]
 have h3 := hk.low.pr_pos (Nat.le_refl k)
 have h4 : (pr (ent c x.d) 0 k).natAbs = divF (gz c zs) r c k := hk.q
 omega
set_option maxRecDepth 100000 in
set_option maxHeartbeats 4000000 in
theorem index_held (b : Nat) (h : Int) (ms : List Hm) (nx : Nat) (w : World) (hst : Held w b ms nx) (htab : Tab w) :
 Calls Tryz.prog 32 #[.pointer (some ⟨b, 0, none⟩), .int .i64 h] w fun x w' => ∃ t e, x = .returned (.tuple #[.string ⟨t.toArray⟩, .int .i64 e]) ∧ IdxRel ms h t e ∧ Below w.heap.size w w' := by
 have H := Hid.mk (And.intro hst htab)
 clear hst htab
 go_enter Tryz.func32, Tryz.ntmps32
 go_wp2_with fail
 refine (find_held b h ms nx _ H.out.1).mono ?_
 rintro e w1 ⟨⟨r, c, ao, n, cap, ok, rfl, hf⟩, hb1⟩
 have hbA := (Below.refl w1.heap.size w1).alloc (Nat.le_refl _) (.cells #[.int .i64 r, .int .i64 c, .slice ao n cap] 76)
 have hbw := hb1.trans (hbA.mono hb1.size)
 have hw1 := hb1.size
 rcases id hf with ⟨rfl, i, hd, zs, hi, hgi, hgh, hM⟩ | ⟨rfl, hno⟩
 ·have K1 := Hid.mk (And.intro (hM.below hbA) (And.intro hbw (And.intro hi (And.intro hgi hgh))))
  clear hf hM hb1 hbA hbw hi hgi hgh
  go_wp2_with fail
  refine (tooBig_any _ r c zs 200000000 _ K1.out.1 (by omega)).mono ?_
  rintro e w2 ⟨fb, rfl, hfo, hb2⟩
  have hs2 : w1.heap.size + 1 ≤ w2.heap.size := by have := hb2.size; simpa using this
  have m0 : w2.cell? ⟨w1.heap.size, 0, none⟩ = some (.int .i64 r) := cell_later hb2 (by simp)
  have m1 : w2.cell? ⟨w1.heap.size, 1, none⟩ = some (.int .i64 c) := cell_later hb2 (by simp)
  have m2 : w2.cell? ⟨w1.heap.size, 2, none⟩ = some (.slice ao n cap) := cell_later hb2 (by simp)
  have K2 := Hid.mk (And.intro (K1.out.1.below hb2) (And.intro (K1.out.2.1.trans (hb2.mono K1.out.2.1.size)) hfo))
  clear hb2 hfo
  cases fb
  ·have HNF : Hid (¬ FitsP r c zs) := Hid.mk (fun h => by have := K2.out.2.2.2 h; cases this)
   go_wp2_with fail
   go_ret2
   exact ⟨[], _, rfl, .inr ⟨i, hd, r, c, zs, K1.out.2.2.1, K1.out.2.2.2.1, K1.out.2.2.2.2, .inl ⟨HNF.out, rfl, rfl⟩⟩, K2.out.2.1⟩
  ·have HFP : Hid (FitsP r c zs) := Hid.mk (K2.out.2.2.1 rfl)
   go_wp2_with fail
   refine (gdiag_any _ r c zs _ (K2.out.1.tight HFP.out) HFP.out.1 HFP.out.2.1 HFP.out.ent).mono ?_
   rintro e w3 ⟨x, sD, sU, sS, sV, sT, rfl, hMs, hIs, hb3⟩
   have K3 := Hid.mk (And.intro hMs (And.intro hIs (K2.out.2.1.trans (hb3.mono K2.out.2.1.size))))
   clear hMs hIs hb3 m0 m1 m2
   go_wp2_with fail
   refine (index_any r c sD sU sS sV sT x.d x.u x.s x.v x.t 7200000 30000000 _ K3.out.1.1 K3.out.1.2.1 K3.out.1.2.2.1 K3.out.1.2.2.2.1 K3.out.1.2.2.2.2 HFP.out.1 HFP.out.2.1 (by omega)).mono ?_
   rintro e w4 ⟨v4, rfl, hx4, hb4⟩
   obtain ⟨k, hk, hidx⟩ := K3.out.2.1.index
   rw [hidx] at hx4
   have hb04 := K3.out.2.2.trans (hb4.mono K3.out.2.2.size)
   have K4 := Hid.mk (And.intro hx4 (And.intro hb04 (And.intro (H.out.2.below hb04) hk)))
   clear hx4 hb4 hidx hk hb04
   go_wp2_with fail
   refine (decimal_any _ _ _ _ K4.out.1 (by omega) K4.out.2.2.1).mono ?_
   rintro e w5 ⟨rfl, hb5⟩
   have K5 := Hid.mk (K4.out.2.1.trans (hb5.mono K4.out.2.1.size))
   clear hb5
   go_wp2_with fail
   go_ret2
   exact ⟨_, _, rfl, .inr ⟨i, hd, r, c, zs, K1.out.2.2.1, K1.out.2.2.2.1, K1.out.2.2.2.2, .inr ⟨HFP.out, rfl, k, K4.out.2.2.2, rfl⟩⟩, K5.out⟩
 ·have KN := Hid.mk (And.intro hno hbw)
  clear hno hbw hb1 hbA hf
  go_wp2_with fail
  go_ret2
  exact ⟨[], _, rfl, .inl ⟨KN.out.1, rfl, rfl⟩, KN.out.2⟩
open Go.RowKit
theorem many_stk {n : Nat} {Res : Nat → Nat → List Int → List (Nat × Nat × List Int) → Prop} {l : List KMx} {g r c : Nat} {zs : List Int} {ok : Bool} {e : Int} {xs : List KMx} {w w' : World} {b B d : Nat} {v : Value} (hk : KL B w d b l) (hl : l.length + n ≤ 24) (hg : l[g]? = some (r, c, zs)) (f : FitsP r c zs)
 (hrel : ManyRel n Res (stk l) (g : Int) ok e xs) (hout : ManyOut w w' b n l.length (stk l) ok xs v) :
 e = 0 ∧ Res r c zs xs ∧ xs.length = n ∧ KL B w' d b (l ++ xs) ∧ Fr b w w' ∧ ∃ hb, v = .slice (some ⟨hb, 0, none⟩) n n ∧ ∀ j, j < n → w'.cell? ⟨hb, j, none⟩ = some (.int .i64 ((l.length + j : Nat) : Int)) := by
 obtain ⟨rfl, rfl, hxl, hR⟩ : ok = true ∧ e = 0 ∧ xs.length = n ∧ Res r c zs xs := by
  rcases hrel with ⟨hn, -⟩ | ⟨i, hd, r1, c1, zs1, hi, hx, hxh, h⟩
  ·exact (stk_no (by omega) hg hn).elim
  ·have e1 := stk_is hi hx hxh hg
   simp only [Prod.mk.injEq] at e1
   obtain ⟨rfl, rfl, rfl⟩ := e1
   rcases h with ⟨h, -⟩ | ⟨-, h, -⟩ | ⟨-, -, h1, h2, h3, h4⟩
   ·exact absurd f h
   ·rw [stk_count l (by omega)] at h; omega
   ·exact ⟨h1, h2, h3, h4⟩
 rcases hout with ⟨h, -⟩ | ⟨-, hb, hz, rfl, -, hzl, hzj, hown, hH, hF⟩
 ·cases h
 ·rw [stk_puts xs l (by omega)] at hH
  refine ⟨rfl, hR, hxl, ?_, hF, hb, rfl, fun j hj => ?_⟩
  ·unfold KL
   rw [List.length_append, hxl]
   exact KS.step hk hH hF
  ·have := hown.cell hzl j hj
   rw [hzj j hj] at this
   exact this
theorem echelon_stk (B d b g r c : Nat) (zs : List Int) (l : List KMx) (w : World) (hk : KL B w d b l) (hl : l.length + 3 ≤ 24) (hg : l[g]? = some (r, c, zs)) (f : FitsP r c zs) :
 Calls Tryz.prog 55 #[.pointer (some ⟨b, 0, none⟩), .int .i64 g] w fun x w' => ∃ hb xs, x = .returned (.tuple #[.slice (some ⟨hb, 0, none⟩) 3 3, .int .i64 0]) ∧ EchRes r c zs xs ∧ xs.length = 3 ∧ KL B w' d b (l ++ xs) ∧ Fr b w w' ∧ ∀ j, j < 3 → w'.cell? ⟨hb, j, none⟩ = some (.int .i64 ((l.length + j : Nat) : Int)) := by
 refine (echelon_held b g (stk l) l.length w hk.held (by omega)).mono ?_
 rintro x w' ⟨v, e, ok, xs, rfl, hrel, hout⟩
 obtain ⟨rfl, h1, h2, h3, h4, hb, rfl, h5⟩ := many_stk hk hl hg f hrel hout
 exact ⟨hb, xs, rfl, h1, h2, h3, h4, h5⟩
theorem diagonal_stk (B d b g r c : Nat) (zs : List Int) (l : List KMx) (w : World) (hk : KL B w d b l) (hl : l.length + 5 ≤ 24) (hg : l[g]? = some (r, c, zs)) (f : FitsP r c zs) :
 Calls Tryz.prog 56 #[.pointer (some ⟨b, 0, none⟩), .int .i64 g] w fun x w' => ∃ hb xs, x = .returned (.tuple #[.slice (some ⟨hb, 0, none⟩) 5 5, .int .i64 0]) ∧ DgRes r c zs xs ∧ xs.length = 5 ∧ KL B w' d b (l ++ xs) ∧ Fr b w w' ∧ ∀ j, j < 5 → w'.cell? ⟨hb, j, none⟩ = some (.int .i64 ((l.length + j : Nat) : Int)) := by
 refine (diagonal_held b g (stk l) l.length w hk.held (by omega)).mono ?_
 rintro x w' ⟨v, e, ok, xs, rfl, hrel, hout⟩
 obtain ⟨rfl, h1, h2, h3, h4, hb, rfl, h5⟩ := many_stk hk hl hg f hrel hout
 exact ⟨hb, xs, rfl, h1, h2, h3, h4, h5⟩
theorem index_stk (B d b g r c : Nat) (zs : List Int) (l : List KMx) (w : World) (hk : KL B w d b l) (hl : l.length ≤ 24) (hg : l[g]? = some (r, c, zs)) (f : FitsP r c zs) :
 Calls Tryz.prog 32 #[.pointer (some ⟨b, 0, none⟩), .int .i64 g] w fun x w' => ∃ k, R.RankIs (ent c zs) r c k ∧ x = .returned (.tuple #[.string ⟨(Lib.itoa ((R.divF (ent c zs) r c k : Nat) : Int)).toArray⟩, .int .i64 0]) ∧ Below w.heap.size w w' := by
 refine (index_held b g (stk l) l.length w hk.held hk.tb).mono ?_
 rintro x w' ⟨t, e, rfl, hrel, hb⟩
 rcases hrel with ⟨hn, -⟩ | ⟨i, hd, r1, c1, zs1, hi, hx, hxh, h⟩
 ·exact (stk_no hl hg hn).elim
 ·have e1 := stk_is hi hx hxh hg
  simp only [Prod.mk.injEq] at e1
  obtain ⟨rfl, rfl, rfl⟩ := e1
  rcases h with ⟨h, -⟩ | ⟨-, rfl, k, h1, rfl⟩
  ·exact absurd f h
  ·exact ⟨k, h1, rfl, hb⟩
theorem rank_stk (B d b g r c : Nat) (zs : List Int) (l : List KMx) (w : World) (hk : KL B w d b l) (hl : l.length ≤ 24) (hg : l[g]? = some (r, c, zs)) (f : FitsP r c zs) :
 Calls Tryz.prog 33 #[.pointer (some ⟨b, 0, none⟩), .int .i64 g] w fun x w' => ∃ k : Nat, R.RankIs (ent c zs) r c k ∧ x = .returned (.tuple #[.int .i64 k, .int .i64 0]) ∧ Below w.heap.size w w' := by
 refine (rank_held b g (stk l) l.length w hk.held).mono ?_
 rintro x w' ⟨t, e, rfl, hrel, hb⟩
 rcases hrel with ⟨hn, -⟩ | ⟨i, hd, r1, c1, zs1, hi, hx, hxh, h⟩
 ·exact (stk_no hl hg hn).elim
 ·have e1 := stk_is hi hx hxh hg
  simp only [Prod.mk.injEq] at e1
  obtain ⟨rfl, rfl, rfl⟩ := e1
  rcases h with ⟨h, -⟩ | ⟨-, rfl, k, rfl, h1⟩
  ·exact absurd f h
  ·exact ⟨k, h1, rfl, hb⟩
theorem form_ech (B d b g r c : Nat) (zs : List Int) (l : List KMx) (w : World) (hk : KL B w d b l) (hl : l.length + 3 ≤ 24) (hg : l[g]? = some (r, c, zs)) (f : FitsP r c zs) :
 Calls Tryz.prog 31 #[.pointer (some ⟨d, 0, none⟩), .int .i64 g, .bool false] w fun x w' => ∃ k pc hs us ws, EchIs r c zs k pc hs us ws ∧ x = .returned (.string ⟨(matT r c hs).toArray⟩) ∧ (∃ xs, xs.length = 3 ∧ KL B w' d b (l ++ xs)) ∧ Fr b w w' := by
 have c0 := hk.dk.cell
 have H := Hid.mk (And.intro hk (And.intro hg f))
 clear hk hg f
 go_enter Tryz.func31, Tryz.ntmps31
 go_wp2_with fail
 refine (echelon_stk B d b g r c zs l _ H.out.1 hl H.out.2.1 H.out.2.2).mono ?_
 rintro x w1 ⟨hb, xs, rfl, ⟨k, pc, hs, us, ws, rfl, hE⟩, -, hk1, hF, hcell⟩
 have c1 := hcell 0 (by omega)
 rw [Nat.add_zero] at c1
 have K := Hid.mk (And.intro hE (And.intro hk1 hF))
 clear hE hk1 hF hcell c0
 go_wp2_with fail
 refine (shown_stk B d b l.length r c hs _ _ K.out.2.1 (by simp; omega) (by simp)).mono ?_
 rintro x w2 ⟨rfl, hb2⟩
 have K2 := Hid.mk (And.intro (K.out.2.1.below hb2) (K.out.2.2.trans (Fr.of_below hb2)))
 clear hb2
 generalize hT : (⟨(matT r c hs).toArray⟩ : ByteArray) = T
 have HT := Hid.mk hT
 clear hT
 go_wp2_with fail
 go_ret
 exact ⟨k, pc, hs, us, ws, K.out.1, by rw [HT.out]; rfl, ⟨_, rfl, K2.out.1⟩, K2.out.2⟩
theorem form_dg (B d b g r c : Nat) (zs : List Int) (l : List KMx) (w : World) (hk : KL B w d b l) (hl : l.length + 8 ≤ 24) (hg : l[g]? = some (r, c, zs)) (f : FitsP r c zs) :
 Calls Tryz.prog 31 #[.pointer (some ⟨d, 0, none⟩), .int .i64 g, .bool true] w fun x w' => ∃ y : D5, DgIs r c zs y ∧ y.d.length = r * c ∧ x = .returned (.string ⟨(matT r c y.d).toArray⟩) ∧ (∃ xs, xs.length = 8 ∧ KL B w' d b (l ++ xs)) ∧ Fr b w w' := by
 have c0 := hk.dk.cell
 have H := Hid.mk (And.intro hk (And.intro hg f))
 clear hk hg f
 go_enter Tryz.func31, Tryz.ntmps31
 go_wp2_with fail
 refine (echelon_stk B d b g r c zs l _ H.out.1 (by omega) H.out.2.1 H.out.2.2).mono ?_
 rintro x w1 ⟨hb, xs1, rfl, -, hx1, hk1, hF, -⟩
 have HG : Hid ((l ++ xs1)[g]? = some (r, c, zs)) := Hid.mk (by
  have h1 := H.out.2.1
  rw [List.getElem?_append_left (List.getElem?_eq_some_iff.1 h1).1]; exact h1)
 have HL : Hid ((l ++ xs1).length = l.length + 3) := Hid.mk (by simp [hx1])
 have K := Hid.mk (And.intro hk1 hF)
 have HX := Hid.mk hx1
 clear hk1 hF c0 hx1
 have c0 := K.out.1.dk.cell
 go_wp2_with fail
 refine (diagonal_stk B d b g r c zs (l ++ xs1) _ K.out.1 (by have := HL.out; omega) HG.out H.out.2.2).mono ?_
 rintro x w2 ⟨hb', xs, rfl, ⟨y, rfl, hD, hlen⟩, -, hk2, hF2, hcell⟩
 have c1 := hcell 0 (by omega)
 rw [Nat.add_zero] at c1
 have K1 := Hid.mk (And.intro hD (And.intro hk2 (K.out.2.trans hF2)))
 have HY := Hid.mk hlen.1
 clear hD hk2 hF2 hcell c0 hlen
 generalize hLL : (l ++ xs1).length = LL at c1
 have HLL := Hid.mk hLL
 clear hLL
 go_wp2_with fail
 refine (shown_stk B d b LL r c y.d _ _ K1.out.2.1 (by have := HL.out; simp at this ⊢; omega) (by rw [← HLL.out]; simp)).mono ?_
 rintro x w3 ⟨rfl, hb2⟩
 have K2 := Hid.mk (And.intro (K1.out.2.1.below hb2) (K1.out.2.2.trans (Fr.of_below hb2)))
 clear hb2
 generalize hT : (⟨(matT r c y.d).toArray⟩ : ByteArray) = T
 have HT := Hid.mk hT
 clear hT
 go_wp2_with fail
 go_ret
 refine ⟨y, K1.out.1, HY.out, by rw [HT.out]; rfl, ⟨xs1 ++ [(r, c, y.d), (r, r, y.u), (r, r, y.s), (c, c, y.v), (c, c, y.t)], by simp [HX.out], ?_⟩, K2.out.2⟩
 rw [← List.append_assoc]
 exact K2.out.1
end Go.Proofs.YtfjbijpagaipnaaGreatDoor
