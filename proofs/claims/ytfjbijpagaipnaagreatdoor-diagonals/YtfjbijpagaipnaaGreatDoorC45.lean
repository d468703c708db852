import Derived.Test.YtfjbijpagaipnaaGreatDoorC43
import Derived.Test.YtfjbijpagaipnaaGreatDoorC38
import Derived.Test.YtfjbijpagaipnaaGreatDoorC44
import Derived.Test.YtfjbijpagaipnaaGreatDoorC22
namespace Go.Proofs.YtfjbijpagaipnaaGreatDoor
open Go.RowKit R
def idxP (D : Nat → Nat → Int) : Nat → Int
 | 0 => 1
 | n + 1 => if D n n = 0 then idxP D n else idxP D n * D n n
theorem idx_pr {r c k : Nat} {D : Nat → Nat → Int} (h : LowT r c k D) : ∀ n, n ≤ r → n ≤ c → idxP D n = pr D 0 (min n k) := by
 intro n
 induction n with
 | zero => intro _ _; simp [idxP, pr]
 | succ n ih =>
   intro hr hc
   rw [idxP, ih (by omega) (by omega)]
   by_cases hn : n < k
   ·have hp := h.pos n hn
    rw [if_neg (by omega), show min n k = n by omega, show min (n + 1) k = n + 1 by omega, pr_succ, Nat.zero_add]
   ·rw [if_pos (h.out n n (by omega) (by omega) (.inl (by omega))), show min n k = k by omega, show min (n + 1) k = k by omega]
set_option maxRecDepth 100000 in
set_option maxHeartbeats 4000000 in
theorem index_any (r c : Nat) (sD sU sS sV sT : Value) (ds us ss vs ts : List Int) (L K : Nat) (w : World) (hD : IsM w (.agg #[.int .i64 r, .int .i64 c, sD]) r c ds L) (hU : IsM w (.agg #[.int .i64 r, .int .i64 r, sU]) r r us K) (hS : IsM w (.agg #[.int .i64 r, .int .i64 r, sS]) r r ss K) (hV : IsM w (.agg #[.int .i64 c, .int .i64 c, sV]) c c vs K) (hT : IsM w (.agg #[.int .i64 c, .int .i64 c, sT]) c c ts K) (hr4 : r ≤ 4) (hc4 : c ≤ 4) (hL : L ≤ 10000000) :
 Calls Tryz.prog 58 #[.agg #[.int .i64 r, .int .i64 c, sD, .int .i64 r, .int .i64 r, sU, .int .i64 r, .int .i64 r, sS, .int .i64 c, .int .i64 c, sV, .int .i64 c, .int .i64 c, sT]] w fun e w' => ∃ v, e = .returned v ∧ IntOut w w' v (idxP (ent c ds) (min r c)) 50000000 := by
 have HM := Hid.mk hD
 obtain ⟨oD, cD, rfl⟩ := hD.slice
 obtain ⟨oU, cU, rfl⟩ := hU.slice
 obtain ⟨oS, cS, rfl⟩ := hS.slice
 obtain ⟨oV, cV, rfl⟩ := hV.slice
 obtain ⟨oT, cT, rfl⟩ := hT.slice
 clear hD hU hS hV hT
 obtain ⟨N1, hN1⟩ : ∃ N1, N1 = r * c := ⟨_, rfl⟩
 obtain ⟨N2, hN2⟩ : ∃ N2, N2 = r * r := ⟨_, rfl⟩
 obtain ⟨N3, hN3⟩ : ∃ N3, N3 = c * c := ⟨_, rfl⟩
 rw [← hN1] at HM ⊢
 rw [← hN2, ← hN3]
 clear hN1 hN2 hN3
 go_enter Tryz.func58, Tryz.ntmps58
 go_wp2_with fail
 obtain ⟨W1, hW1⟩ : ∃ W1, W1 = (w.alloc (.cells #[.int .i64 r, .int .i64 c, .slice oD N1 cD, .int .i64 r, .int .i64 r, .slice oU N2 cU, .int .i64 r, .int .i64 r, .slice oS N2 cS, .int .i64 c, .int .i64 c, .slice oV N3 cV, .int .i64 c, .int .i64 c, .slice oT N3 cT] 96)).alloc (.cells #[.bool false, .slice none 0 0] 94) := ⟨_, rfl⟩
 have hs1 : W1.heap.size = w.heap.size + 2 := by rw [hW1]; simp
 have hb1 : Below w.heap.size w W1 := by rw [hW1]; repeat (first | exact Below.refl _ _ | refine Below.alloc ?_ (by simp <;> omega) _)
 have hm1 : Trio W1 w.heap.size (.int .i64 r) (.int .i64 c) (.slice oD N1 cD) := by
  rw [hW1]
  exact Trio.later (w := w.alloc (.cells #[.int .i64 r, .int .i64 c, .slice oD N1 cD, .int .i64 r, .int .i64 r, .slice oU N2 cU, .int .i64 r, .int .i64 r, .slice oS N2 cS, .int .i64 c, .int .i64 c, .slice oV N3 cV, .int .i64 c, .int .i64 c, .slice oT N3 cT] 96)) ⟨new_cell _ _ _ _ _ rfl rfl, new_cell _ _ _ _ _ rfl rfl, new_cell _ _ _ _ _ rfl rfl⟩ ((Below.refl _ _).alloc (Nat.le_refl _) _)
 have hres : Duo W1 (w.heap.size + 1) (.bool false) (.slice none 0 0) := by rw [hW1]; exact Duo.new _ _ _ (by simp)
 have K1 := Hid.mk (And.intro hb1 (And.intro hm1 hres))
 rw [← hW1]
 clear hW1 hb1 hm1 hres
 refine (fromOne_any _).mono ?_
 rintro e w2 ⟨v2, rfl, hx2, hb2⟩
 obtain ⟨nb2, so2, n2, cp2, rfl⟩ := hx2.shape
 have hb22 := (Below.refl w2.heap.size w2).alloc (Nat.le_refl _) (.cells #[.bool nb2, .slice so2 n2 cp2] 94)
 have hw2 := hb2.size
 obtain ⟨W2, hW2⟩ : ∃ W2, W2 = w2.alloc (.cells #[.bool nb2, .slice so2 n2 cp2] 94) := ⟨_, rfl⟩
 have hs2 : W2.heap.size = w2.heap.size + 1 := by rw [hW2]; simp
 have hD2 : Duo W2 w2.heap.size (.bool nb2) (.slice so2 n2 cp2) := by rw [hW2]; exact Duo.new _ _ _ rfl
 rw [← hW2] at hb22
 have hb12 := hb2.trans (hb22.mono hw2)
 obtain ⟨sb, hsb⟩ : ∃ sb, sb = w2.heap.size := ⟨_, rfl⟩
 rw [← hsb] at hD2 hs2 hw2
 have K2 := Hid.mk (And.intro (hx2.below hb22) (And.intro hD2 (And.intro (K1.out.2.1.later hb12) (And.intro (K1.out.2.2.below hb12 (by omega)) (And.intro (K1.out.1.trans (hb12.mono (by omega))) hW2)))))
 have HSB := Hid.mk hsb
 clear hx2 hb2 hb22 hb12 hD2 hW2
 go_wp2_with fail
 rw [← K2.out.2.2.2.2.2, ← HSB.out]
 clear hsb
 go_loopw [4] (fun i wr => ∃ (t : Nat) (nb : Bool) (so : Option Addr) (n ecap : Nat), t ≤ 4 ∧ i = .int .i64 t ∧ Duo wr sb (.bool nb) (.slice so n ecap) ∧ Hid ((t ≤ r ∧ t ≤ c) ∧ IsI wr (.agg #[.bool nb, .slice so n ecap]) (idxP (ent c ds) t) (2 + t * L) ∧ W2.grownBy wr (some sb) ∧ Below w.heap.size w wr)) (fun i _ => 4 - (intOf i).toNat)
 case atStart => exact ⟨0, _, _, _, _, by omega, rfl, K2.out.2.1, Hid.mk ⟨by omega, by rw [idxP, Nat.zero_mul]; exact K2.out.1, World.grownBy.refl _ _, K2.out.2.2.2.2.1⟩⟩
 case round =>
  obtain ⟨t, nb, so, n, ecap, ht, rfl, hD, HI⟩ := hrel
  obtain ⟨q0, q1, q2⟩ := K2.out.2.2.1.grown HI.out.2.2.1 (by omega)
  have hwr := HI.out.2.2.2.size
  have hgs := HI.out.2.2.1.size
  have hDl := hD.ty.lt
  have K := Hid.mk hD
  have ht4 : t * L ≤ 4 * 10000000 := Nat.mul_le_mul ht hL
  by_cases htr : t < r
  ·have hti : (t : Int) < (r : Int) := by omega
   by_cases htc : t < c
   ·have htci : (t : Int) < (c : Int) := by omega
    obtain ⟨d1, d2, d3, d4⟩ := hD.cells
    clear hD
    go_wp2_with fail
    refine (at_in _ r c t t ds L _ (HM.out.below HI.out.2.2.2) htr htc).mono ?_
    rintro e w4 ⟨x, rfl, hx, hb4⟩
    obtain ⟨nb4, so4, n4, cp4, rfl⟩ := hx.shape
    have hb44 := (Below.refl w4.heap.size w4).alloc (Nat.le_refl _) (.cells #[.bool nb4, .slice so4 n4 cp4] 94)
    have hbA : Below wr.heap.size wr (w4.alloc (.cells #[.bool nb4, .slice so4 n4 cp4] 94)) := hb4.trans (hb44.mono hb4.size)
    have hl4 := Duo.new w4 (.bool nb4) (.slice so4 n4 cp4) rfl
    have KA := Hid.mk (And.intro hbA (And.intro hl4 (hx.below hb44)))
    have hw4 := hb4.size
    obtain ⟨e0, e1, -, -⟩ := hl4.cells
    clear hx hb4 hb44 hbA hl4 q0 q1 q2 d1 d2 d3 d4
    go_wp2_with fail
    refine (isZero_any _ _ L _ KA.out.2.2).mono ?_
    rintro e w5 ⟨rfl, hb5⟩
    obtain ⟨Z, hZ⟩ : ∃ Z, Z = decide (ds.getD (t * c + t) 0 = 0) := ⟨_, rfl⟩
    rw [← hZ]
    have hs5 : w4.heap.size + 1 ≤ w5.heap.size := by have := hb5.size; simpa using this
    have hbB : Below wr.heap.size wr w5 := KA.out.1.trans (hb5.mono (by simp; omega))
    have hl5 := KA.out.2.1.below hb5 (by simp)
    have KB := Hid.mk (And.intro hbB (And.intro (KA.out.2.2.below hb5) (And.intro hZ (And.intro hl5 (K.out.below hbB hDl)))))
    clear hb5 hZ hbB hl5 e0 e1
    cases Z
    ·obtain ⟨e0, e1, -, -⟩ := KB.out.2.2.2.1.cells
     obtain ⟨d1, d2, d3, d4⟩ := KB.out.2.2.2.2.cells
     go_wp2_with fail
     refine (mul_any _ _ _ _ (2 + t * L) L _ (HI.out.2.1.below KB.out.1) KB.out.2.1 (by omega) (by omega)).mono ?_
     rintro e w6 ⟨x, rfl, hx, hb6⟩
     obtain ⟨nb6, so6, n6, cp6, rfl⟩ := hx.shape
     have hbC : Below wr.heap.size wr w6 := KB.out.1.trans (hb6.mono (by omega))
     have hD6 := K.out.below hbC hDl
     have KC := Hid.mk (And.intro hbC (And.intro hx hD6))
     clear hx hb6 hbC hD6 e0 e1 d1 d2 d3 d4
     obtain ⟨d1, d2, d3, d4⟩ := KC.out.2.2.cells
     go_wp2_with fail
     go_roundw
     case measure => simp [intOf]; omega
     case rel =>
      refine ⟨t + 1, nb6, so6, n6, cp6, by omega, by go_num, KC.out.2.2.put _ _, Hid.mk ⟨by omega, ?_, grown_put2 (grown_below HI.out.2.2.1 KC.out.1), ((HI.out.2.2.2.trans (KC.out.1.mono hwr)).setCell (by simp; omega) _).setCell (by simp; omega) _⟩⟩
      have h0 : ¬ ent c ds t t = 0 := of_decide_eq_false KB.out.2.2.1.symm
      rw [idxP, if_neg h0, Nat.succ_mul]
      exact (KC.out.2.1.duo KC.out.2.2 _ _).mono (by omega)
    ·go_wp2_with fail
     go_roundw
     case measure => simp [intOf]; omega
     case rel =>
      have h0 : ent c ds t t = 0 := of_decide_eq_true KB.out.2.2.1.symm
      refine ⟨t + 1, nb, so, n, ecap, by omega, by go_num, KB.out.2.2.2.2, Hid.mk ⟨by omega, ?_, grown_below HI.out.2.2.1 KB.out.1, HI.out.2.2.2.trans (KB.out.1.mono hwr)⟩⟩
      rw [idxP, if_pos h0, Nat.succ_mul]
      exact (HI.out.2.1.below KB.out.1).mono (by omega)
   ·have htci : ¬ (t : Int) < (c : Int) := by omega
    have HE : Hid (t = min r c) := Hid.mk (by have := HI.out.1; omega)
    obtain ⟨d1, d2, d3, d4⟩ := hD.cells
    have hRD : Duo wr (w.heap.size + 1) (.bool false) (.slice none 0 0) := (HI.out.2.2.1.block _ (by omega) (by simp; omega)).trans K2.out.2.2.2.1
    have hcell := (hRD.put (.bool nb) (.slice so n ecap)).cells
    have HR := Hid.mk (And.intro hRD hcell)
    obtain ⟨r1, r2, r3, r4⟩ := hRD.cells
    clear hRD hcell hD
    go_wp2_with fail
    obtain ⟨g1, g2, -, -⟩ := HR.out.2
    refine bodyPost_ret (v := .agg #[.bool nb, .slice so n ecap]) ?_ rfl ?_
    ·(simp [results, Tryz.results58, go_sem, g1, g2]; done)
    ·refine ⟨_, rfl, ?_, (HI.out.2.2.2.setCell (by simp) _).setCell (by simp) _⟩
     rw [← HE.out]
     exact (HI.out.2.1.duo HR.out.1 _ _).mono (by omega)
  ·have hti : ¬ (t : Int) < (r : Int) := by omega
   have HE : Hid (t = min r c) := Hid.mk (by have := HI.out.1; omega)
   obtain ⟨d1, d2, d3, d4⟩ := hD.cells
   have hRD : Duo wr (w.heap.size + 1) (.bool false) (.slice none 0 0) := (HI.out.2.2.1.block _ (by omega) (by simp; omega)).trans K2.out.2.2.2.1
   have hcell := (hRD.put (.bool nb) (.slice so n ecap)).cells
   have HR := Hid.mk (And.intro hRD hcell)
   obtain ⟨r1, r2, r3, r4⟩ := hRD.cells
   clear hRD hcell hD
   go_wp2_with fail
   obtain ⟨g1, g2, -, -⟩ := HR.out.2
   refine bodyPost_ret (v := .agg #[.bool nb, .slice so n ecap]) ?_ rfl ?_
   ·(simp [results, Tryz.results58, go_sem, g1, g2]; done)
   ·refine ⟨_, rfl, ?_, (HI.out.2.2.2.setCell (by simp) _).setCell (by simp) _⟩
    rw [← HE.out]
    exact (HI.out.2.1.duo HR.out.1 _ _).mono (by omega)
open Go.RowKit R
def IdxRel (ms : List Hm) (h : Int) (t : List UInt8) (e : Int) : Prop :=
 ((∀ i, i < 24 → ∀ x, ms.getD i none = some x → (x.1 : Int) ≠ h) ∧ t = [] ∧ e = 2) ∨
 ∃ i hd r c zs, i < 24 ∧ ms.getD i none = some (hd, r, c, zs) ∧ ((hd : Nat) : Int) = h ∧ ((¬ FitsP r c zs ∧ t = [] ∧ e = 4) ∨ (FitsP r c zs ∧ e = 0 ∧ ∃ k, RankIs (gz c zs) r c k ∧ t = Lib.itoa ((divF (gz c zs) r c k : Nat) : Int)))
theorem DgIs.index {r c : Nat} {zs : List Int} {x : D5} (h : DgIs r c zs x) : ∃ k, RankIs (gz c zs) r c k ∧ idxP (ent c x.d) (min r c) = ((divF (gz c zs) r c k : Nat) : Int) := by
 obtain ⟨k, hk⟩ := h.low
 refine ⟨k, hk.rk, ?_⟩
 have h1 := hk.low.kr
 have h2 := hk.low.kc
 rw [idx_pr hk.low (min r c) (by omega) (by omega), show min (min r c) k = k by omega]
 have h3 := hk.low.pr_pos (Nat.le_refl k)
 have h4 : (pr (ent c x.d) 0 k).natAbs = divF (gz c zs) r c k := hk.q
 omega
set_option maxRecDepth 100000 in
set_option maxHeartbeats 4000000 in
theorem index_held (b : Nat) (h : Int) (ms : List Hm) (nx : Nat) (w : World) (hst : Held w b ms nx) (htab : Tab w) :
 Calls Tryz.prog 32 #[.pointer (some ⟨b, 0, none⟩), .int .i64 h] w fun x w' => ∃ t e, x = .returned (.tuple #[.string ⟨t.toArray⟩, .int .i64 e]) ∧ IdxRel ms h t e ∧ Below w.heap.size w w' := by
 have H := Hid.mk (And.intro hst htab)
 clear hst htab
 go_enter Tryz.func32, Tryz.ntmps32
 go_wp2_with fail
 refine (find_held b h ms nx _ H.out.1).mono ?_
 rintro e w1 ⟨⟨r, c, ao, n, cap, ok, rfl, hf⟩, hb1⟩
 have hbA := (Below.refl w1.heap.size w1).alloc (Nat.le_refl _) (.cells #[.int .i64 r, .int .i64 c, .slice ao n cap] 76)
 have hbw := hb1.trans (hbA.mono hb1.size)
 have hw1 := hb1.size
 rcases id hf with ⟨rfl, i, hd, zs, hi, hgi, hgh, hM⟩ | ⟨rfl, hno⟩
 ·have K1 := Hid.mk (And.intro (hM.below hbA) (And.intro hbw (And.intro hi (And.intro hgi hgh))))
  clear hf hM hb1 hbA hbw hi hgi hgh
  go_wp2_with fail
  refine (tooBig_any _ r c zs 200000000 _ K1.out.1 (by omega)).mono ?_
  rintro e w2 ⟨fb, rfl, hfo, hb2⟩
  have hs2 : w1.heap.size + 1 ≤ w2.heap.size := by have := hb2.size; simpa using this
  have m0 : w2.cell? ⟨w1.heap.size, 0, none⟩ = some (.int .i64 r) := cell_later hb2 (by simp)
  have m1 : w2.cell? ⟨w1.heap.size, 1, none⟩ = some (.int .i64 c) := cell_later hb2 (by simp)
  have m2 : w2.cell? ⟨w1.heap.size, 2, none⟩ = some (.slice ao n cap) := cell_later hb2 (by simp)
  have K2 := Hid.mk (And.intro (K1.out.1.below hb2) (And.intro (K1.out.2.1.trans (hb2.mono K1.out.2.1.size)) hfo))
  clear hb2 hfo
  cases fb
  ·have HNF : Hid (¬ FitsP r c zs) := Hid.mk (fun h => by have := K2.out.2.2.2 h; cases this)
   go_wp2_with fail
   go_ret2
   exact ⟨[], _, rfl, .inr ⟨i, hd, r, c, zs, K1.out.2.2.1, K1.out.2.2.2.1, K1.out.2.2.2.2, .inl ⟨HNF.out, rfl, rfl⟩⟩, K2.out.2.1⟩
  ·have HFP : Hid (FitsP r c zs) := Hid.mk (K2.out.2.2.1 rfl)
   go_wp2_with fail
   refine (gdiag_any _ r c zs _ (K2.out.1.tight HFP.out) HFP.out.1 HFP.out.2.1 HFP.out.ent).mono ?_
   rintro e w3 ⟨x, sD, sU, sS, sV, sT, rfl, hMs, hIs, hb3⟩
   have K3 := Hid.mk (And.intro hMs (And.intro hIs (K2.out.2.1.trans (hb3.mono K2.out.2.1.size))))
   clear hMs hIs hb3 m0 m1 m2
   go_wp2_with fail
   refine (index_any r c sD sU sS sV sT x.d x.u x.s x.v x.t 7200000 30000000 _ K3.out.1.1 K3.out.1.2.1 K3.out.1.2.2.1 K3.out.1.2.2.2.1 K3.out.1.2.2.2.2 HFP.out.1 HFP.out.2.1 (by omega)).mono ?_
   rintro e w4 ⟨v4, rfl, hx4, hb4⟩
   obtain ⟨k, hk, hidx⟩ := K3.out.2.1.index
   rw [hidx] at hx4
   have hb04 := K3.out.2.2.trans (hb4.mono K3.out.2.2.size)
   have K4 := Hid.mk (And.intro hx4 (And.intro hb04 (And.intro (H.out.2.below hb04) hk)))
   clear hx4 hb4 hidx hk hb04
   go_wp2_with fail
   refine (decimal_any _ _ _ _ K4.out.1 (by omega) K4.out.2.2.1).mono ?_
   rintro e w5 ⟨rfl, hb5⟩
   have K5 := Hid.mk (K4.out.2.1.trans (hb5.mono K4.out.2.1.size))
   clear hb5
   go_wp2_with fail
   go_ret2
   exact ⟨_, _, rfl, .inr ⟨i, hd, r, c, zs, K1.out.2.2.1, K1.out.2.2.2.1, K1.out.2.2.2.2, .inr ⟨HFP.out, rfl, k, K4.out.2.2.2, rfl⟩⟩, K5.out⟩
 ·have KN := Hid.mk (And.intro hno hbw)
  clear hno hbw hb1 hbA hf
  go_wp2_with fail
  go_ret2
  exact ⟨[], _, rfl, .inl ⟨KN.out.1, rfl, rfl⟩, KN.out.2⟩
open Go.RowKit R
theorem IdxRel.uniq {ms : List Hm} {h e e' : Int} {t t' : List UInt8} (hd : Dst ms) (a : IdxRel ms h t e) (b : IdxRel ms h t' e') : t = t' ∧ e = e' := by
 rcases a with ⟨ha, rfl, rfl⟩ | ⟨i, hd1, r, c, zs, hi, hx, hxh, ha⟩
 ·rcases b with ⟨-, rfl, rfl⟩ | ⟨i, hd1, r, c, zs, hi, hx, hxh, -⟩
  ·exact ⟨rfl, rfl⟩
  ·exact absurd hxh (ha i hi _ hx)
 ·rcases b with ⟨hb, -⟩ | ⟨i', hd1', r', c', zs', hi', hx', hxh', hb⟩
  ·exact absurd hxh (hb i hi _ hx)
  ·have e1 : i = i' := hd i i' _ _ hi hi' hx hx' (by show hd1 = hd1'; omega)
   subst e1
   rw [hx] at hx'
   simp only [Option.some.injEq, Prod.mk.injEq] at hx'
   obtain ⟨rfl, rfl, rfl, rfl⟩ := hx'
   rcases ha with ⟨a1, rfl, rfl⟩ | ⟨a1, rfl, k, a2, rfl⟩
   ·rcases hb with ⟨-, rfl, rfl⟩ | ⟨b1, _⟩
    ·exact ⟨rfl, rfl⟩
    ·exact absurd b1 a1
   ·rcases hb with ⟨b1, _⟩ | ⟨-, rfl, k', b2, rfl⟩
    ·exact absurd a1 b1
    ·rw [rank_uniq a2 b2]
     exact ⟨rfl, rfl⟩
set_option maxRecDepth 100000 in
set_option maxHeartbeats 1000000 in
theorem twIndex_any (B T b1 b2 : Nat) (h : Int) (ms : List Hm) (nx : Nat) (w : World) (hst : TwH B w T b1 b2 ms nx) (hd : Dst ms) :
 Calls Tryz.prog 113 #[.pointer (some ⟨T, 0, none⟩), .int .i64 h] w fun x w' => ∃ t e, x = .returned (.tuple #[.string ⟨t.toArray⟩, .int .i64 e]) ∧ IdxRel ms h t e ∧ Below w.heap.size w w' := by
 obtain ⟨c0, c1, c2, -⟩ := hst.1.cells
 have H := Hid.mk (And.intro hst hd)
 clear hst hd
 go_enter Tryz.func113, Tryz.ntmps113
 go_wp2_with fail
 refine (index_held b1 h ms nx _ H.out.1.2.1 H.out.1.2.2.2.2.1.tab).mono ?_
 rintro x w1 ⟨t, e, rfl, hrel, hb1⟩
 have hT1 := H.out.1.below hb1
 clear c0 c1 c2
 obtain ⟨c0, c1, c2, -⟩ := hT1.1.cells
 have K1 := Hid.mk (And.intro hT1 (And.intro hrel hb1))
 have hw1 := hb1.size
 clear hT1 hrel hb1
 go_wp2_with fail
 refine (index_held b2 h ms nx _ K1.out.1.2.2.1 K1.out.1.2.2.2.2.1.tab).mono ?_
 rintro x w2 ⟨t2, e2, rfl, hrel2, hb2⟩
 obtain ⟨rfl, rfl⟩ := IdxRel.uniq H.out.2 K1.out.2.1 hrel2
 have K2 := Hid.mk (K1.out.2.2.trans (hb2.mono hw1))
 clear hb2 hrel2 c0 c1 c2
 obtain ⟨tb, htb⟩ : ∃ tb : ByteArray, tb = ⟨t.toArray⟩ := ⟨_, rfl⟩
 have HTB := Hid.mk htb
 rw [← htb]
 clear htb
 go_wp2_with fail
 refine (text_same T tb e _).mono ?_
 rintro x w' ⟨rfl, rfl⟩
 go_wp2_with fail
 go_ret2
 exact ⟨t, e, by rw [HTB.out]; rfl, K1.out.2.1, K2.out⟩
theorem index_case {es : List Ent} {ms : List Hm} {h e want : Int} {v : Value} {t : List UInt8} (hd : Dst ms) (hp : DueL es ms false h v want) (ht : IdxRel ms h t e) :
 ((want = 2 ∨ want = 3 ∨ want = 4) ∧ e = want ∧ t = []) ∨ (want = 0 ∧ e = 0 ∧ ∃ e1 i r c zs k, e1 ∈ es ∧ i < 24 ∧ ms.getD i none = some (e1.1, r, c, zs) ∧ FitsP r c zs ∧ v = .pointer (some ⟨e1.2.2, 0, none⟩) ∧ RankIs (fz c zs) r c k ∧ t = Lib.itoa ((divF (fz c zs) r c k : Nat) : Int)) := by
 rcases hp with ⟨hn, rfl⟩ | ⟨e1, i, r, c, zs, m1, hi, hx, hxh, hp⟩
 ·rcases ht with ⟨-, rfl, rfl⟩ | ⟨i, hd1, r, c, zs, hi, hx, hxh, -⟩
  ·exact .inl ⟨.inl rfl, rfl, rfl⟩
  ·exact absurd hxh (hn i hi _ hx)
 ·rcases ht with ⟨hn, -⟩ | ⟨i', hd1, r', c', zs', hi', hx', hxh', ht⟩
  ·exact absurd hxh (hn i hi _ hx)
  ·have e5 : i = i' := hd i i' _ _ hi hi' hx hx' (by show e1.1 = hd1; omega)
   subst e5
   rw [hx] at hx'
   simp only [Option.some.injEq, Prod.mk.injEq] at hx'
   obtain ⟨rfl, rfl, rfl, rfl⟩ := hx'
   rcases hp with ⟨hf, -⟩ | ⟨-, p1, rfl⟩ | ⟨-, p1, rfl, rfl⟩
   ·cases hf
   ·rcases ht with ⟨-, rfl, rfl⟩ | ⟨t2, _⟩
    ·exact .inl ⟨.inr (.inr rfl), rfl, rfl⟩
    ·exact absurd t2 p1
   ·rcases ht with ⟨t2, _⟩ | ⟨-, rfl, k, t3, rfl⟩
    ·exact absurd p1 t2
    ·exact .inr ⟨rfl, rfl, e1, i, r, c, zs, k, m1, hi, hx, p1, rfl, t3, rfl⟩
set_option maxRecDepth 100000 in
set_option maxHeartbeats 4000000 in
theorem single_index (B W T b1 b2 : Nat) (ms : List Hm) (nx : Nat) (es : List Ent) (h : Int) (w : World) (hI : LInv B w W T b1 b2 ms nx es) :
 Calls Tryz.prog 63 #[.pointer (some ⟨W, 0, none⟩), .int .i64 6, .int .i64 h] w fun x w' => x = .returned (.bool true) ∧ StepOut B w w' W T b1 b2 nx := by
 have hB := hI.size
 have H := Hid.mk hI
 clear hI
 go_enter Tryz.func63, Tryz.ntmps63
 go_wp2_with fail
 refine (due_any B W T b1 b2 ms nx es h false _ H.out).mono ?_
 rintro x w1 ⟨⟨v, want, rfl, hp⟩, hb1⟩
 have hI1 := H.out.below hb1
 obtain ⟨ioa, icap, loa, lcap, tv, c0, -⟩ := hI1.lcells
 have K1 := Hid.mk (And.intro hp (And.intro hb1 hI1))
 have hw1 := hb1.size
 clear hp hb1 hI1
 go_wp2_with fail
 refine (twIndex_any B T b1 b2 h ms nx _ K1.out.2.2.1 H.out.2.2.dst).mono ?_
 rintro x w2 ⟨t, e, rfl, hrel, hb2⟩
 have hcase := index_case H.out.2.2.dst K1.out.1 hrel
 have hb02 : Below w.heap.size w w2 := K1.out.2.1.trans (hb2.mono hw1)
 have K2 := Hid.mk (And.intro (H.out.below hb02) (And.intro hb02 hcase))
 have hw2 := hb02.size
 clear hrel hb2 hb02 hcase c0
 rcases K2.out.2.2 with ⟨hz, rfl, rfl⟩ | ⟨rfl, rfl, e1, i, r, c, zs, k, m1, hi, hx, f1, rfl, hk, rfl⟩
 ·have HF : Hid (StepOut B w w2 W T b1 b2 nx) := Hid.mk ⟨⟨ms, nx, es, K2.out.1, by omega⟩, K2.out.2.1.mono hB⟩
  rcases hz with rfl | rfl | rfl
  ·go_wp2_with fail
   go_ret
   exact ⟨rfl, HF.out⟩
  ·go_wp2_with fail
   go_ret
   exact ⟨rfl, HF.out⟩
  ·go_wp2_with fail
   go_ret
   exact ⟨rfl, HF.out⟩
 ·obtain ⟨-, -, lo1, hi1, hm1⟩ := K2.out.1.entry m1 hi hx rfl
  obtain ⟨gs1, hR1⟩ := hm1.isR
  obtain ⟨p1, hp1⟩ : ∃ p1, p1 = e1.2.2 := ⟨_, rfl⟩
  rw [← hp1] at hR1 ⊢
  have HR := Hid.mk (And.intro (hR1.tight (fits_fz f1)) (And.intro f1.1 (And.intro f1.2.1 hk)))
  clear m1 hi hx hm1 hR1 hp1 f1 hk
  obtain ⟨tb, htb⟩ : ∃ tb : ByteArray, tb = ⟨(Lib.itoa ((divF (fz c zs) r c k : Nat) : Int)).toArray⟩ := ⟨_, rfl⟩
  have HTB := Hid.mk htb
  rw [← htb]
  clear htb
  have istr : (tb.toList == tb.toList) = true := by simp
  have hr4 := HR.out.2.1
  have hc4 := HR.out.2.2.1
  go_wp2_with fail
  refine (rank_any p1 r c gs1 (fz c zs) lo1 4 _ HR.out.1 (by omega) (by omega) (by omega)).mono ?_
  rintro x w3 ⟨k', rfl, hk', hb3⟩
  obtain rfl := rank_uniq hk' HR.out.2.2.2
  have hkr := hk'.1
  have K3 := Hid.mk (K2.out.2.1.trans (hb3.mono hw2))
  have KR3 := Hid.mk (HR.out.1.keep (KR.of_below hb3))
  have hw3 := K3.out.size
  clear hk' hb3
  go_wp2_with fail
  refine (divisor_any p1 r c k' gs1 (fz c zs) lo1 4 _ KR3.out (by omega) (by omega) (by omega) (by omega) (LM_le (by omega) (by omega))).mono ?_
  rintro x w4 ⟨nv, rfl, hN, hb4⟩
  have K4 := Hid.mk (And.intro hN (K3.out.trans (hb4.mono hw3)))
  have hw4 := K4.out.2.size
  clear hN hb4
  obtain ⟨na, ao, cap, xs, rfl, -⟩ := K4.out.1.parts
  go_wp2_with fail
  have hbA : Below w4.heap.size w4 (w4.alloc (.cells #[.bool na, .slice ao xs.length cap] 138)) := (Below.refl _ _).alloc (Nat.le_refl _) _
  refine (text_any _ _ _ _ (K4.out.1.below hbA) (by have := LM_le (L := 4) (k := k') (by omega) (by omega); omega)).mono ?_
  rintro x w5 ⟨rfl, hb5⟩
  have hb05 : Below w.heap.size w w5 := K4.out.2.trans ((hbA.trans (hb5.mono hbA.size)).mono hw4)
  have HF : Hid (StepOut B w w5 W T b1 b2 nx) := Hid.mk ⟨⟨ms, nx, es, H.out.below hb05, by omega⟩, hb05.mono hB⟩
  rw [← HTB.out]
  clear hb5 hb05 hbA
  go_wp2_with fail
  go_ret
  exact ⟨rfl, HF.out⟩
open Go.RowKit R
set_option maxRecDepth 100000 in
set_option maxHeartbeats 4000000 in
theorem step_diagonal0 (B W T b1 b2 : Nat) (ms : List Hm) (nx : Nat) (es : List Ent) (kd a b c : Int) (s t : ByteArray) (w : World) (h : LInv B w W T b1 b2 ms nx es) (hkd : kd = 8) (ha1 : -9223372036854775808 ≤ a) (ha2 : a ≤ 9223372036854775807) (hb1 : -9223372036854775808 ≤ b) (hb2 : b ≤ 9223372036854775807) (hnx : nx < 999995) :
 Calls Tryz.prog 35 #[.pointer (some ⟨W, 0, none⟩), opV kd a b c s t] w fun x w' => x = .returned (.bool true) ∧ StepOut B w w' W T b1 b2 nx := by
 have H := Hid.mk h
 have hB := h.size
 have HKD := Hid.mk hkd
 clear h hkd
 unfold opV
 obtain ⟨W0, hW0⟩ : ∃ W0, W0 = w.alloc (.cells #[.int .i64 kd, .int .i64 a, .int .i64 b, .int .i64 c, .string s, .string t] 31) := ⟨_, rfl⟩
 have hbW : Below w.heap.size w W0 := by rw [hW0]; exact (Below.refl _ _).alloc (Nat.le_refl _) _
 have hblk : W0.heap[w.heap.size]? = some (.cells #[.int .i64 kd, .int .i64 a, .int .i64 b, .int .i64 c, .string s, .string t] 31 (0, 0)) := by rw [hW0]; exact heap_alloc_new w _
 have hsz : W0.heap.size = w.heap.size + 1 := by rw [hW0]; simp
 have H0 := Hid.mk (And.intro hbW (And.intro hblk hW0))
 clear hbW hblk hW0
 go_enter Tryz.func35, Tryz.ntmps35
 go_wp2_with fail
 rw [← H0.out.2.2]
 refine (handle_any B W T b1 b2 ms nx es a c _ (H.out.below H0.out.1) ha1 ha2).mono ?_
 rintro x w1 ⟨⟨hh, rfl⟩, hb1'⟩
 have hblk1 : w1.heap[w.heap.size]? = some (.cells #[.int .i64 kd, .int .i64 a, .int .i64 b, .int .i64 c, .string s, .string t] 31 (0, 0)) := by rw [hb1'.block _ (by omega)]; exact H0.out.2.1
 have hbe1 : Below w.heap.size w w1 := H0.out.1.trans (hb1'.mono H0.out.1.size)
 have g0 : w1.cell? ⟨w.heap.size, 0, none⟩ = some (.int .i64 kd) := by simp [World.cell?, hblk1]
 have g2 : w1.cell? ⟨w.heap.size, 2, none⟩ = some (.int .i64 b) := by simp [World.cell?, hblk1]
 have g3 : w1.cell? ⟨w.heap.size, 3, none⟩ = some (.int .i64 c) := by simp [World.cell?, hblk1]
 have hs1 := hb1'.size
 have K1 := Hid.mk (And.intro hbe1 hblk1)
 clear hb1' hblk1 hbe1
 go_wp2_with fail
 refine (handle_any B W T b1 b2 ms nx es b c _ (H.out.below K1.out.1) hb1 hb2).mono ?_
 rintro x w2 ⟨⟨hh2, rfl⟩, hb2'⟩
 have hblk2 : w2.heap[w.heap.size]? = some (.cells #[.int .i64 kd, .int .i64 a, .int .i64 b, .int .i64 c, .string s, .string t] 31 (0, 0)) := by rw [hb2'.block _ (by omega)]; exact K1.out.2
 have hbe2 : Below w.heap.size w w2 := K1.out.1.trans (hb2'.mono K1.out.1.size)
 clear g0 g2 g3
 have g0 : w2.cell? ⟨w.heap.size, 0, none⟩ = some (.int .i64 kd) := by simp [World.cell?, hblk2]
 have g4 : w2.cell? ⟨w.heap.size, 4, none⟩ = some (.string s) := by simp [World.cell?, hblk2]
 have K2 := Hid.mk (And.intro hbe2 (H.out.below hbe2))
 clear hb2' hblk2 hbe2
 obtain rfl := HKD.out
 go_wp2_with fail
 refine (diagonal_any B W T b1 b2 ms nx es hh _ K2.out.2 hnx).mono ?_
 rintro x w3 ⟨rfl, ho⟩
 have HO := Hid.mk (ho.after (K2.out.1.mono hB))
 clear ho
 go_wp2_with fail
 go_ret
 exact ⟨rfl, HO.out⟩
theorem step_diagonal : StepOk (fun kd => kd = 8) := fun B W T b1 b2 ms nx es kd a b c s t w h hkd ha1 ha2 hb1 hb2 _ hnx => step_diagonal0 B W T b1 b2 ms nx es kd a b c s t w h hkd ha1 ha2 hb1 hb2 hnx
set_option maxRecDepth 100000 in
set_option maxHeartbeats 4000000 in
theorem step_index0 (B W T b1 b2 : Nat) (ms : List Hm) (nx : Nat) (es : List Ent) (kd a b c : Int) (s t : ByteArray) (w : World) (h : LInv B w W T b1 b2 ms nx es) (hkd : kd = 6) (ha1 : -9223372036854775808 ≤ a) (ha2 : a ≤ 9223372036854775807) (hb1 : -9223372036854775808 ≤ b) (hb2 : b ≤ 9223372036854775807) :
 Calls Tryz.prog 35 #[.pointer (some ⟨W, 0, none⟩), opV kd a b c s t] w fun x w' => x = .returned (.bool true) ∧ StepOut B w w' W T b1 b2 nx := by
 have H := Hid.mk h
 have hB := h.size
 have HKD := Hid.mk hkd
 clear h hkd
 unfold opV
 obtain ⟨W0, hW0⟩ : ∃ W0, W0 = w.alloc (.cells #[.int .i64 kd, .int .i64 a, .int .i64 b, .int .i64 c, .string s, .string t] 31) := ⟨_, rfl⟩
 have hbW : Below w.heap.size w W0 := by rw [hW0]; exact (Below.refl _ _).alloc (Nat.le_refl _) _
 have hblk : W0.heap[w.heap.size]? = some (.cells #[.int .i64 kd, .int .i64 a, .int .i64 b, .int .i64 c, .string s, .string t] 31 (0, 0)) := by rw [hW0]; exact heap_alloc_new w _
 have hsz : W0.heap.size = w.heap.size + 1 := by rw [hW0]; simp
 have H0 := Hid.mk (And.intro hbW (And.intro hblk hW0))
 clear hbW hblk hW0
 go_enter Tryz.func35, Tryz.ntmps35
 go_wp2_with fail
 rw [← H0.out.2.2]
 refine (handle_any B W T b1 b2 ms nx es a c _ (H.out.below H0.out.1) ha1 ha2).mono ?_
 rintro x w1 ⟨⟨hh, rfl⟩, hb1'⟩
 have hblk1 : w1.heap[w.heap.size]? = some (.cells #[.int .i64 kd, .int .i64 a, .int .i64 b, .int .i64 c, .string s, .string t] 31 (0, 0)) := by rw [hb1'.block _ (by omega)]; exact H0.out.2.1
 have hbe1 : Below w.heap.size w w1 := H0.out.1.trans (hb1'.mono H0.out.1.size)
 have g0 : w1.cell? ⟨w.heap.size, 0, none⟩ = some (.int .i64 kd) := by simp [World.cell?, hblk1]
 have g2 : w1.cell? ⟨w.heap.size, 2, none⟩ = some (.int .i64 b) := by simp [World.cell?, hblk1]
 have g3 : w1.cell? ⟨w.heap.size, 3, none⟩ = some (.int .i64 c) := by simp [World.cell?, hblk1]
 have hs1 := hb1'.size
 have K1 := Hid.mk (And.intro hbe1 hblk1)
 clear hb1' hblk1 hbe1
 go_wp2_with fail
 refine (handle_any B W T b1 b2 ms nx es b c _ (H.out.below K1.out.1) hb1 hb2).mono ?_
 rintro x w2 ⟨⟨hh2, rfl⟩, hb2'⟩
 have hblk2 : w2.heap[w.heap.size]? = some (.cells #[.int .i64 kd, .int .i64 a, .int .i64 b, .int .i64 c, .string s, .string t] 31 (0, 0)) := by rw [hb2'.block _ (by omega)]; exact K1.out.2
 have hbe2 : Below w.heap.size w w2 := K1.out.1.trans (hb2'.mono K1.out.1.size)
 clear g0 g2 g3
 have g0 : w2.cell? ⟨w.heap.size, 0, none⟩ = some (.int .i64 kd) := by simp [World.cell?, hblk2]
 have g4 : w2.cell? ⟨w.heap.size, 4, none⟩ = some (.string s) := by simp [World.cell?, hblk2]
 have K2 := Hid.mk (And.intro hbe2 (H.out.below hbe2))
 clear hb2' hblk2 hbe2
 obtain rfl := HKD.out
 go_wp2_with fail
 refine (single_index B W T b1 b2 ms nx es hh _ K2.out.2).mono ?_
 rintro x w3 ⟨rfl, ho⟩
 have HO := Hid.mk (ho.after (K2.out.1.mono hB))
 clear ho
 go_wp2_with fail
 go_ret
 exact ⟨rfl, HO.out⟩
theorem step_index : StepOk (fun kd => kd = 6) := fun B W T b1 b2 ms nx es kd a b c s t w h hkd ha1 ha2 hb1 hb2 _ _ => step_index0 B W T b1 b2 ms nx es kd a b c s t w h hkd ha1 ha2 hb1 hb2
end Go.Proofs.YtfjbijpagaipnaaGreatDoor
