import Derived.Test.YtfjbijpagaipnabGreatDoorK09
import Derived.Deep.LoopGhost
import Derived.Test.YtfjbijpagaipnabGreatDoorK02
import Derived.Test.YtfjbijpagaipnabGreatDoorK01
import Derived.Laws.BitsAllLaws
namespace Go.Proofs.YtfjbijpagaipnabGreatDoor
open Go.RowKit
structure GaBd (H U W : Nat → Nat → Int) (r c t col L X MH MU MW KH KU KW : Nat) : Prop where
 hX : ∀ i, t ≤ i → i < r → (H i col).natAbs ≤ X
 hM : Bd H U W r c t 1 MH MU MW
 k1 : MH ≤ KH
 k2 : MU ≤ KU
 k3 : MW ≤ KW
 k4 : t + 1 < r → MH * ((1 + 7 * X) * X ^ 8) ≤ KH ∧ MU * ((1 + 7 * X) * X ^ 8) ≤ KU ∧ MW * ((1 + 7 * X) * X ^ 8) ≤ KW
 l1 : KH < 4294967296 ^ L
 l2 : KU < 4294967296 ^ L
 l3 : KW < 4294967296 ^ L
def e3 (r c : Nat) (hs us ws : List Int) : F3 := ⟨ent c hs, ent r us, ent r ws⟩
def GaOut (w w' : World) (B pb gH gU gW r c t col : Nat) (hs us ws : List Int) (A : Nat → Nat → Int) (L KH KU KW : Nat) : Prop :=
 Below B w w' ∧ (((∀ i, t ≤ i → i < r → ent c hs i col = 0) ∧ FormO w' B pb gH gU gW r c t hs us ws L) ∨
  (t < r ∧ ∃ hs' us' ws', FormO w' B pb gH gU gW r c (t + 1) hs' us' ws' (2 * L + 1) ∧ EInv A (ent c hs') (ent r us') (ent r ws') r c ∧ GaEnd (ent c hs) (ent r us) r c t col (ent c hs') (ent r us') (ent r ws') KH KU KW ∧ GaDoes r c t col (e3 r c hs us ws) (t + 1) (e3 r c hs' us' ws')))
theorem ga_does {r c t col : Nat} {hs us ws hs1 us1 ws1 hs5 us5 ws5 : List Int} {H4 U4 W4 : Nat → Nat → Int} {z : Int} (ht : t < r) (hT : ∃ n, GaTo r c t col (e3 r c hs us ws) (n + 1) (e3 r c hs1 us1 ws1)) (hl : LeastIs (fun i => ent c hs1 i col) (t + 1) r z) (hz : z < 0) (σ : Int) (hσ : sgn t col (e3 r c hs1 us1 ws1) = σ)
 (x1 : ∀ i j, i < r → j < c → H4 i j = if i = t then σ * ent c hs1 i j else ent c hs1 i j) (x2 : ∀ i j, i < r → j < r → U4 i j = if i = t then σ * ent r us1 i j else ent r us1 i j) (x3 : ∀ i j, i < r → j < r → W4 i j = if j = t then σ * ent r ws1 i j else ent r ws1 i j)
 (q : Nat → Int) (hq : ∀ i, i < r → q i = (H4 i col).fdiv (H4 t col)) (hc : col < c) (y1 : ∀ i j, i < r → j < c → ent c hs5 i j = lsH H4 q 0 t t i j) (y2 : ∀ i j, i < r → j < r → ent r us5 i j = lsH U4 q 0 t t i j) (y3 : ∀ i j, i < r → j < r → ent r ws5 i j = lsW W4 q 0 t t i j) :
 GaDoes r c t col (e3 r c hs us ws) (t + 1) (e3 r c hs5 us5 ws5) := by
 obtain ⟨n, hT⟩ := hT
 have hz1 : z = -1 := by rcases hl with ⟨i, _, _, d, _⟩ | ⟨d, _⟩ <;> omega
 subst hz1
 have hqq : ∀ i, i < r → ((tn3 t col (e3 r c hs1 us1 ws1)).H i col).fdiv ((tn3 t col (e3 r c hs1 us1 ws1)).H t col) = q i := fun i hi => by
  rw [hq i hi, x1 i col hi hc, x1 t col ht hc]
  unfold tn3
  rw [hσ]
  rfl
 refine .inr ⟨ht, rfl, n, _, hT, hl, fun i j hi hj => ?_, fun i j hi hj => ?_, fun i j hi hj => ?_⟩
 ·show lsH (tn3 t col (e3 r c hs1 us1 ws1)).H (fun k => ((tn3 t col (e3 r c hs1 us1 ws1)).H k col).fdiv ((tn3 t col (e3 r c hs1 us1 ws1)).H t col)) 0 t t i j = ent c hs5 i j
  rw [y1 i j hi hj]
  refine lsH_congr ?_ ?_ (fun _ _ => hqq i hi)
  ·rw [x1 t j ht hj]; unfold tn3; rw [hσ]; rfl
  ·rw [x1 i j hi hj]; unfold tn3; rw [hσ]; rfl
 ·show lsH (tn3 t col (e3 r c hs1 us1 ws1)).U (fun k => ((tn3 t col (e3 r c hs1 us1 ws1)).H k col).fdiv ((tn3 t col (e3 r c hs1 us1 ws1)).H t col)) 0 t t i j = ent r us5 i j
  rw [y2 i j hi hj]
  refine lsH_congr ?_ ?_ (fun _ _ => hqq i hi)
  ·rw [x2 t j ht hj]; unfold tn3; rw [hσ]; rfl
  ·rw [x2 i j hi hj]; unfold tn3; rw [hσ]; rfl
 ·show lsW (tn3 t col (e3 r c hs1 us1 ws1)).W (fun k => ((tn3 t col (e3 r c hs1 us1 ws1)).H k col).fdiv ((tn3 t col (e3 r c hs1 us1 ws1)).H t col)) 0 t t i j = ent r ws5 i j
  rw [y3 i j hi hj]
  refine lsW_congr (fun k hk => ?_) ?_ ?_ (fun k hk => hqq k (by omega))
  ·rw [x3 i k hi (by omega)]; unfold tn3; rw [hσ]; rfl
  ·rw [x3 i t hi ht]; unfold tn3; rw [hσ]; rfl
  ·rw [x3 i j hi hj]; unfold tn3; rw [hσ]; rfl
set_option maxRecDepth 100000 in
set_option maxHeartbeats 4000000 in
theorem gather_any (B pb gH gU gW r c t col : Nat) (hs us ws : List Int) (A : Nat → Nat → Int) (L X MH MU MW KH KU KW : Nat) (w : World) (h : FormO w B pb gH gU gW r c t hs us ws L) (hr8 : r ≤ 8) (ht : t ≤ r) (hcol : col < c) (hL : L ≤ 60000000)
 (hb : GaBd (ent c hs) (ent r us) (ent r ws) r c t col L X MH MU MW KH KU KW) (hE : EInv A (ent c hs) (ent r us) (ent r ws) r c) :
 Calls Tryz.prog 61 #[.pointer (some ⟨pb, 0, none⟩), .int .i64 col] w fun e w' => e = .returned (.tuple #[]) ∧ GaOut w w' B pb gH gU gW r c t col hs us ws A L KH KU KW := by
 have F := Hid.mk (And.intro h (And.intro hb hE))
 obtain ⟨q0, q1, q2⟩ := h.H.tri
 have q3 := h.rk
 have hpl := h.H.plt
 clear h hb hE
 go_enter Tryz.func61, Tryz.ntmps61
 go_wp2_with fail
 refine (leastIn_any _ r c col t hs L _ F.out.1.H.isM hcol ht).mono ?_
 rintro e w1 ⟨z, rfl, hz, hb1⟩
 have hw1 := hb1.size
 have G := Hid.mk (And.intro hz (And.intro hb1 (F.out.1.later hb1)))
 clear hz hb1 q0 q1 q2 q3
 by_cases hz0 : z < 0
 ·go_wp2_with fail
  refine bodyPost_ret (v := .tuple #[]) (results_none rfl _ _ _) rfl ?_
  refine ⟨rfl, G.out.2.1.mono F.out.1.ble, .inl ⟨?_, G.out.2.2⟩⟩
  rcases G.out.1 with ⟨i, a, b, d, _⟩ | ⟨_, x⟩
  ·omega
  ·exact x
 ·obtain ⟨i0, rfl⟩ := Int.eq_ofNat_of_zero_le (show 0 ≤ z by omega)
  have hi0 : t ≤ i0 ∧ i0 < r := by
   rcases G.out.1 with ⟨i, a, b, d, _⟩ | ⟨x, _⟩ <;> omega
  obtain ⟨hi1, hi2⟩ := hi0
  have htr : t < r := by omega
  clear hz0
  go_wp2_with fail
  obtain ⟨n0, hn0⟩ : ∃ n0, n0 = (ent c hs i0 col).natAbs + 1 := ⟨_, rfl⟩
  have HN := Hid.mk hn0
  clear hn0
  go_loopg [5] n0 (fun k l wr => ∃ (z : Int) (hs1 us1 ws1 : List Int), l = .int .i64 z ∧ Hid (FormO wr B pb gH gU gW r c t hs1 us1 ws1 L ∧ Chg3 w wr gH gU gW ∧ EInv A (ent c hs1) (ent r us1) (ent r ws1) r c ∧ ((z = (i0 : Int) ∧ hs1 = hs ∧ us1 = us ∧ ws1 = ws ∧ k = n0) ∨ ((∃ n, GaTo r c t col (e3 r c hs us ws) (n + 1) (e3 r c hs1 us1 ws1)) ∧ GaPost (ent c hs) (ent r us) r c t col (ent c hs1) (ent r us1) (ent r ws1) KH KU KW z ∧ ((z < 0 ∧ k = 0) ∨ ∃ i : Nat, z = (i : Int) ∧ k = (ent c hs1 i col).natAbs)))))
  case atStart => exact ⟨i0, hs, us, ws, rfl, Hid.mk ⟨G.out.2.2, Chg3.of_below _ _ _ G.out.2.1, F.out.2.2, .inl ⟨rfl, rfl, rfl, rfl, rfl⟩⟩⟩
  case round =>
   obtain ⟨z, hs1, us1, ws1, rfl, HI⟩ := hrel
   obtain ⟨q0, q1, q2⟩ := HI.out.1.H.tri
   have hpl2 := HI.out.1.H.plt
   by_cases hz : z < 0
   ·have HP : Hid (GaPost (ent c hs) (ent r us) r c t col (ent c hs1) (ent r us1) (ent r ws1) KH KU KW z) := Hid.mk (by
     rcases HI.out.2.2.2 with ⟨a, _⟩ | ⟨_, a, _⟩
     ·omega
     ·exact a)
    have HT : Hid (∃ n, GaTo r c t col (e3 r c hs us ws) (n + 1) (e3 r c hs1 us1 ws1)) := Hid.mk (by
     rcases HI.out.2.2.2 with ⟨a, _⟩ | ⟨a, _⟩
     ·omega
     ·exact a)
    go_wp2_with fail
    refine (at_in _ r c t col hs1 L _ HI.out.1.H.isM htr hcol).mono ?_
    rintro e9 w2 ⟨x2, rfl, hx2, hb2⟩
    obtain ⟨nb2, so2, n2, cp2, rfl⟩ := hx2.shape
    have hw2 := hb2.size
    have K2 := Hid.mk (And.intro hx2 hb2)
    clear hx2 hb2
    go_wp2_with fail
    refine (isBelow_any _ (hs1.getD (t * c + col) 0) L _ K2.out.1).mono ?_
    rintro e9 w3 ⟨rfl, hb3⟩
    have hb23 := K2.out.2.trans (hb3.mono hw2)
    have K3 := Hid.mk (And.intro hb23 (HI.out.1.later hb23))
    clear hb3 hb23 q0 q1 q2
    obtain ⟨D, hD⟩ : ∃ D, D = decide (hs1.getD (t * c + col) 0 < 0) := ⟨_, rfl⟩
    rw [← hD]
    have HD := Hid.mk hD
    clear hD
    cases hDD : D
    case true =>
     have HN0 := Hid.mk (of_decide_eq_true (HD.out.symm.trans hDD))
     clear hDD HD
     go_wp2_with fail
     refine (fturn_any B pb gH gU gW r c t t hs1 us1 ws1 L _ K3.out.2 htr).mono ?_
     rintro e9 w4 ⟨rfl, hs4, us4, ws4, hF4, hc4, x1, x2, x3⟩
     obtain ⟨q, hq⟩ : ∃ q : Nat → Int, q = fun i => (ent c hs4 i col).fdiv (ent c hs4 t col) := ⟨_, rfl⟩
     have hpl4 := hF4.H.plt
     have K4 := Hid.mk (And.intro hF4 (And.intro hc4 (And.intro x1 (And.intro x2 (And.intro x3 hq)))))
     clear hF4 hc4 x1 x2 x3 hq
     go_wp2_with fail
     refine (lessen_any B pb gH gU gW r c t 0 t t col hs4 us4 ws4 L _ K4.out.1 hL (Nat.zero_le _) (by omega) htr (by omega) hcol q K4.out.2.2.2.2.2).mono ?_
     rintro e9 w5 ⟨rfl, hs5, us5, ws5, hF5, hc5, y1, y2, y3⟩
     have q3 := hF5.rk
     have q4 := hF5.fr
     have hpl5 := hF5.H.plt
     have K5 := Hid.mk (And.intro hF5 (And.intro hc5 (And.intro y1 (And.intro y2 y3))))
     clear hF5 hc5 y1 y2 y3
     go_wp2_with fail
     go_end0
     obtain ⟨F6, b6⟩ := K5.out.1.rank (t + 1) (z := (t : Int) + 1) (by omega)
     have hbB : Below B w w5 := F.out.1.below (((HI.out.2.1.trans (Chg3.of_below _ _ _ K3.out.1)).trans K4.out.2.1).trans K5.out.2.1)
     refine ⟨rfl, hbB.trans b6, .inr ⟨htr, hs5, us5, ws5, F6, ?_, ?_, ga_does htr HT.out HP.out.least hz (-1) (by unfold sgn; rw [if_pos (show (e3 r c hs1 us1 ws1).H t col < 0 from HN0.out)]) (fun i j a b => by rw [K4.out.2.2.1 i j a b]; split <;> omega) (fun i j a b => by rw [K4.out.2.2.2.1 i j a b]; split <;> omega) (fun i j a b => by rw [K4.out.2.2.2.2.1 i j a b]; split <;> omega) q (fun i _ => by rw [K4.out.2.2.2.2.2]) hcol K5.out.2.2.1 K5.out.2.2.2.1 K5.out.2.2.2.2⟩⟩
     ·refine EInv.congr (EInv.lessen (EInv.congr (HI.out.2.2.1.turn t) (fun _ _ _ _ => rfl) K4.out.2.2.1 K4.out.2.2.2.1 K4.out.2.2.2.2.1) q htr t (Nat.zero_le _) (by omega) (by omega)) (fun _ _ _ _ => rfl) K5.out.2.2.1 K5.out.2.2.2.1 K5.out.2.2.2.2
     ·exact HP.out.ends hz hr8 htr hcol (-1) (.inr rfl) (by have := HN0.out; show 0 < -1 * ent c hs1 t col; unfold ent; omega) (fun i j a b => by rw [K4.out.2.2.1 i j a b]; split <;> omega) (fun i j a b => by rw [K4.out.2.2.2.1 i j a b]; split <;> omega) (fun i j a b => by rw [K4.out.2.2.2.2.1 i j a b]; split <;> omega) q (fun i _ => by rw [K4.out.2.2.2.2.2]) K5.out.2.2.1 K5.out.2.2.2.1 K5.out.2.2.2.2
    case false =>
     have HN0 := Hid.mk (of_decide_eq_false (HD.out.symm.trans hDD))
     clear hDD HD
     go_wp2_with fail
     obtain ⟨q, hq⟩ : ∃ q : Nat → Int, q = fun i => (ent c hs1 i col).fdiv (ent c hs1 t col) := ⟨_, rfl⟩
     have HQ := Hid.mk hq
     clear hq
     refine (lessen_any B pb gH gU gW r c t 0 t t col hs1 us1 ws1 L _ K3.out.2 hL (Nat.zero_le _) (by omega) htr (by omega) hcol q HQ.out).mono ?_
     rintro e9 w5 ⟨rfl, hs5, us5, ws5, hF5, hc5, y1, y2, y3⟩
     have q3 := hF5.rk
     have q4 := hF5.fr
     have hpl5 := hF5.H.plt
     have K5 := Hid.mk (And.intro hF5 (And.intro hc5 (And.intro y1 (And.intro y2 y3))))
     clear hF5 hc5 y1 y2 y3
     go_wp2_with fail
     go_end0
     obtain ⟨F6, b6⟩ := K5.out.1.rank (t + 1) (z := (t : Int) + 1) (by omega)
     have hbB : Below B w w5 := F.out.1.below ((HI.out.2.1.trans (Chg3.of_below _ _ _ K3.out.1)).trans K5.out.2.1)
     refine ⟨rfl, hbB.trans b6, .inr ⟨htr, hs5, us5, ws5, F6, ?_, ?_, ga_does htr HT.out HP.out.least hz 1 (by unfold sgn; rw [if_neg (show ¬ (e3 r c hs1 us1 ws1).H t col < 0 from Int.not_lt.2 HN0.out)]) (fun i j a b => by split <;> omega) (fun i j a b => by split <;> omega) (fun i j a b => by split <;> omega) q (fun i _ => by rw [HQ.out]) hcol K5.out.2.2.1 K5.out.2.2.2.1 K5.out.2.2.2.2⟩⟩
     ·refine EInv.congr (EInv.lessen HI.out.2.2.1 q htr t (Nat.zero_le _) (by omega) (by omega)) (fun _ _ _ _ => rfl) K5.out.2.2.1 K5.out.2.2.2.1 K5.out.2.2.2.2
     ·exact HP.out.ends hz hr8 htr hcol 1 (.inl rfl) (by have := HN0.out; have h2 := HP.out.ne; show 0 < 1 * ent c hs1 t col; unfold ent at *; omega) (fun i j a b => by split <;> omega) (fun i j a b => by split <;> omega) (fun i j a b => by split <;> omega) q (fun i _ => by rw [HQ.out]) K5.out.2.2.1 K5.out.2.2.2.1 K5.out.2.2.2.2
   ·obtain ⟨i, rfl⟩ := Int.eq_ofNat_of_zero_le (show 0 ≤ z by omega)
    have hi : t ≤ i ∧ i < r := by
     rcases HI.out.2.2.2 with ⟨a, _⟩ | ⟨_, a, _⟩
     ·omega
     ·rcases a.least with ⟨i', x, y, u, _⟩ | ⟨x, _⟩ <;> omega
    obtain ⟨hti, hir⟩ := hi
    clear hz
    go_wp2_with fail
    refine (fswap_any B pb gH gU gW r c t t i hs1 us1 ws1 L _ HI.out.1 htr hir).mono ?_
    rintro e9 w2 ⟨rfl, hs2, us2, ws2, hF2, hc2, x1, x2, x3⟩
    obtain ⟨q, hq⟩ : ∃ q : Nat → Int, q = fun i => (ent c hs2 i col).fdiv (ent c hs2 t col) := ⟨_, rfl⟩
    clear q0 q1 q2
    obtain ⟨q0, q1, q2⟩ := hF2.H.tri
    have hpl3 := hF2.H.plt
    have K2 := Hid.mk (And.intro hF2 (And.intro hc2 (And.intro x1 (And.intro x2 (And.intro x3 hq)))))
    clear hF2 hc2 x1 x2 x3 hq
    go_wp2_with fail
    refine (lessen_any B pb gH gU gW r c t (t + 1) r t col hs2 us2 ws2 L _ K2.out.1 hL (by omega) (Nat.le_refl _) htr (by omega) hcol q K2.out.2.2.2.2.2).mono ?_
    rintro e9 w3 ⟨rfl, hs3, us3, ws3, hF3, hc3, y1, y2, y3⟩
    clear q0 q1 q2
    obtain ⟨q0, q1, q2⟩ := hF3.H.tri
    have hpl4 := hF3.H.plt
    have K3 := Hid.mk (And.intro hF3 (And.intro hc3 (And.intro y1 (And.intro y2 y3))))
    clear hF3 hc3 y1 y2 y3
    go_wp2_with fail
    refine (leastIn_any _ r c col (t + 1) hs3 (2 * L + 1) _ K3.out.1.H.isM hcol (by omega)).mono ?_
    rintro e9 w4 ⟨z4, rfl, hz4, hb4⟩
    have K4 := Hid.mk (And.intro hz4 hb4)
    clear hz4 hb4 q0 q1 q2
    have HP : Hid (GaPost (ent c hs) (ent r us) r c t col (ent c hs3) (ent r us3) (ent r ws3) KH KU KW z4 ∧ ent c hs3 t col = ent c hs1 i col ∧ EInv A (ent c hs3) (ent r us3) (ent r ws3) r c ∧ ∃ n, GaTo r c t col (e3 r c hs us ws) (n + 1) (e3 r c hs3 us3 ws3)) := Hid.mk (by
     obtain ⟨-, -, x1, x2, x3, hq⟩ := K2.out
     obtain ⟨-, -, y1, y2, y3⟩ := K3.out
     have hq2 : ∀ k, k < r → q k = rq (ent c hs1) t i col k := fun k hk => by
      rw [hq]
      unfold rq
      show (ent c hs2 k col).fdiv (ent c hs2 t col) = _
      rw [x1 k col hk hcol, x1 t col htr hcol]
     have e1 := rdH_of htr x1 y1 hq2
     have e2 := rdH_of htr x2 y2 hq2
     have e3' := rdW_of htr x3 y3 hq2
     have hl : LeastIs (fun k => rdH (ent c hs1) (ent c hs1) r t i col k col) (t + 1) r z4 := K4.out.1.congr (fun k _ hk => (e1 k col hk hcol).symm)
     have eq3 : F3.Eq r c (rd3 r t i col (e3 r c hs1 us1 ws1)) (e3 r c hs3 us3 ws3) := ⟨fun a b x y => (e1 a b x y).symm, fun a b x y => (e2 a b x y).symm, fun a b x y => (e3' a b x y).symm⟩
     refine ⟨?_, by rw [e1 t col htr hcol, rdH_top], HI.out.2.2.1.round htr hir x1 x2 x3 y1 y2 y3, ?_⟩
     case' refine_2 =>
      rcases HI.out.2.2.2 with ⟨a1, rfl, rfl, rfl, -⟩ | ⟨⟨n, g1⟩, a1, -⟩
      ·have hii : i = i0 := by omega
       subst hii
       exact ⟨0, .step 0 i _ _ (.start _ (F3.Eq.refl _ _ _)) G.out.1 eq3⟩
      ·exact ⟨n + 1, .step (n + 1) i _ _ g1 a1.least eq3⟩
     rcases HI.out.2.2.2 with ⟨a1, rfl, rfl, rfl, -⟩ | ⟨-, a1, -⟩
     ·have hii : i = i0 := by omega
      subst hii
      exact (GaPost.first hr8 G.out.1 F.out.2.1.hX F.out.2.1.hM F.out.2.1.k1 F.out.2.1.k2 F.out.2.1.k3 F.out.2.1.k4 hl).congr htr hcol e1 e2 e3'
     ·exact (a1.next hr8 hl).congr htr hcol e1 e2 e3')
    go_wp2_with fail
    go_roundg (if z4 < 0 then 0 else (ent c hs3 z4.toNat col).natAbs)
    case measure =>
     have hpos : 0 < gk ∧ (ent c hs1 i col).natAbs ≤ gk := by
      rcases HI.out.2.2.2 with ⟨a1, rfl, -, -, rfl⟩ | ⟨-, a1, ⟨a2, -⟩ | ⟨i', a2, rfl⟩⟩
      ·have := HN.out
       have hii : i = i0 := by omega
       subst hii; omega
      ·omega
      ·have hii : i = i' := by omega
       subst hii
       rcases a1.least with ⟨i2, b1, b2, b3, b4, -⟩ | ⟨b1, -⟩
       ·have hi2 : i2 = i := by omega
        subst hi2
        have b5 : ent c hs1 i2 col ≠ 0 := b4
        omega
       ·omega
     split
     ·exact hpos.1
     ·rcases HP.out.1.least with ⟨i2, b1, b2, b3, -⟩ | ⟨b1, -⟩
      ·have := HP.out.1.lt i2 (by omega) b2
       rw [HP.out.2.1] at this
       rw [b3, Int.toNat_natCast]
       omega
      ·omega
    case rel =>
     obtain ⟨F3, c3, -⟩ := K3.out
     have hbd := HP.out.1.bd1
     refine ⟨z4, hs3, us3, ws3, rfl, Hid.mk ⟨(F3.fit (fun k j a b => ?_) (fun k j a b => ?_) (fun k j a b => ?_)).later K4.out.2, ((HI.out.2.1.trans K2.out.2.1).trans c3).trans (Chg3.of_below _ _ _ K4.out.2), HP.out.2.2.1, .inr ⟨HP.out.2.2.2, HP.out.1, ?_⟩⟩⟩
     ·by_cases hk : k < t
      ·rw [HP.out.1.keepH k j hk b]; exact (F.out.1.H.has a b).lt
      ·have h1 := hbd.h k j (by omega) a b; have h2 := F.out.2.1.l1; omega
     ·by_cases hk : k < t
      ·rw [HP.out.1.keepU k j hk b]; exact (F.out.1.U.has a b).lt
      ·have h1 := hbd.u k j (by omega) a b; have h2 := F.out.2.1.l2; omega
     ·have h1 := hbd.w k j a b; have h2 := F.out.2.1.l3; omega
     ·by_cases hz4 : z4 < 0
      ·exact .inl ⟨hz4, if_pos hz4⟩
      ·refine .inr ⟨z4.toNat, by omega, if_neg hz4⟩
open Go.RowKit
def decval (l : List UInt8) : Nat := l.foldl (fun a c => 10 * a + (c.toNat - 48)) 0
def Digs (l : List UInt8) : Prop := ∀ c ∈ l, 48 ≤ c.toNat ∧ c.toNat ≤ 57
theorem decval_snoc (l : List UInt8) (c : UInt8) : decval (l ++ [c]) = 10 * decval l + (c.toNat - 48) := by simp [decval]
theorem decval_take (l : List UInt8) (k : Nat) (hk : k < l.length) : decval (l.take (k + 1)) = 10 * decval (l.take k) + (l[k].toNat - 48) := by
 rw [List.take_succ_eq_append_getElem hk, decval_snoc]
def OwnB (B : Nat) (w : World) (v : Value) (xs : List Nat) : Prop := w.ownsRow B 144 1 v xs.length (lcells xs)
theorem OwnB.own {B : Nat} {w : World} {v : Value} {xs : List Nat} (h : OwnB B w v xs) : Own w v xs := by
 refine ⟨h.1, ?_⟩
 rcases h.2 with h2 | ⟨g, cap, cur, hv, hg, r⟩
 ·exact .inl h2
 ·exact .inr ⟨g, cap, cur, hv, Nat.zero_le _, r⟩
theorem OwnB.base {B : Nat} {w : World} {g n cap : Nat} {xs : List Nat} (h : OwnB B w (.slice (some ⟨g, 0, none⟩) n cap) xs) : B ≤ g := (World.ownsRow.lt h g rfl).1
theorem OwnB.stored_int {B : Nat} {w : World} {g n cap : Nat} {zs : List Nat} (h : OwnB B w (.slice (some ⟨g, 0, none⟩) n cap) zs) (hn : zs.length = n) (k c : Nat) {z : Int} (hz : z = (c : Int)) :
 OwnB B (w.setCell ⟨g, k, none⟩ (.int .u32 z)) (.slice (some ⟨g, 0, none⟩) n cap) (zs.set k c) := by
 subst hn
 subst hz
 have := (World.ownsRow.stored (w := w) h k (.int .u32 (c : Nat))).1
 rw [lcells_set] at this
 unfold OwnB
 rw [List.length_set]
 exact this
theorem append_limb (w : World) {ops : Array Oper} {rest : List Oper} {o : Oper} {a : Act} {Q : Exit → Act → World → Prop} (hgd : o.guard = none) (s x : Operand)
 (ho : o.op = .call { callee := .builtin .append, args := #[s, x], argTypes := #[77, 77] }) (B : Nat) (v : Value) (zs : List Nat) (hs : a.eval s = v) (hown : OwnB B w v zs)
 (ad : Addr) (hx : a.eval x = .slice (some ad) 1 1) (c : Nat) (hc : w.cell? (ad.add 0) = some (.int .u32 (c : Nat))) (hl : zs.length ≤ 30000) (hB : B ≤ w.heap.size)
 (hK : ∀ v' w', OwnB B w' v' (zs ++ [c]) → w.grownBy w' v.ownBlock → wpList Tryz.prog ops Q rest (a.put o.dst v') w') : wpList Tryz.prog ops Q (o :: rest) a w := by
 obtain ⟨i, hi, hz0, hz1, hz2⟩ := info_parts Tryz.info144
 refine wpList_append_own w hgd s x 77 ho B 144 i (.int .u32 0) 1 4 Tryz.underlying77 hi hz0 hz1 hz2 rfl (by decide) v zs.length (lcells zs) hs hown ad 1 1 [.int .u32 (c : Nat)] hx rfl ?_ ?_ ?_ ?_ hB ?_
 ·intro j u hj
  match j, hj with
  | 0, hj => simp at hj; subst hj; exact hc
 ·intro u hu; simp at hu; subst hu; rfl
 ·unfold maxLen; omega
 ·omega
 ·intro v' w' h1 h2 _
  refine hK v' w' ?_ h2
  unfold OwnB
  rw [show lcells (zs ++ [c]) = lcells zs ++ [.int .u32 (c : Nat)] from by simp [lcells], List.length_append, List.length_singleton]
  exact h1
theorem ten_round {P Z X c x d : Nat} (h : Z + P * c = 10 * X + d) : Z + P * ((c + x * 10) % 4294967296) + P * 4294967296 * ((c + x * 10) / 4294967296) = 10 * (X + P * x) + d := by
 have h1 : P * ((c + x * 10) % 4294967296) + P * 4294967296 * ((c + x * 10) / 4294967296) = P * (c + x * 10) := by
  rw [Nat.mul_assoc, ← Nat.mul_add, Nat.mod_add_div]
 have h2 : P * (x * 10) = 10 * (P * x) := by rw [Nat.mul_comm x 10, Nat.mul_left_comm]
 rw [Nat.mul_add] at h1
 omega
theorem last_pos {zs : List Nat} (h : Lo zs) (hne : zs ≠ []) (hv : 4294967296 ^ (zs.length - 1) ≤ val zs) : 0 < zs.getD (zs.length - 1) 0 := by
 rcases Nat.eq_zero_or_pos (zs.getD (zs.length - 1) 0) with h0 | h0
 ·exfalso
  have hl : 0 < zs.length := List.length_pos_iff.2 hne
  have h1 := val_take_drop zs (zs.length - 1) (by omega)
  rw [drop_getD zs (zs.length - 1) (by omega), val_cons, h0, show zs.length - 1 + 1 = zs.length from by omega, List.drop_length, val_nil] at h1
  have h2 := val_lt (Lo_take h (zs.length - 1))
  rw [List.length_take, Nat.min_eq_left (by omega)] at h2
  omega
 ·exact h0
theorem dig_at (s : ByteArray) (h : Digs s.data.toList) (k : Nat) (hk : k < s.size) : 48 ≤ (s[k].toNat : Int) ∧ (s[k].toNat : Int) ≤ 57 := by
 have := h (s.data.toList[k]'(by simpa using hk)) (List.getElem_mem _)
 have e : s.data.toList[k]'(by simpa using hk) = s[k] := rfl
 rw [e] at this
 omega
theorem decval_at (s : ByteArray) (k : Nat) (hk : k < s.size) : decval (s.data.toList.take (k + 1)) = 10 * decval (s.data.toList.take k) + (s[k].toNat - 48) :=
 decval_take s.data.toList k (by simpa using hk)
theorem set_drop_next (zs ps : List Nat) (j c : Nat) (h : ps.drop j = zs.drop j) : (ps.set j c).drop (j + 1) = zs.drop (j + 1) := by
 rw [List.drop_set_of_lt (by omega), ← List.drop_drop, h, List.drop_drop]
theorem getD_of_drop (zs ps : List Nat) (j : Nat) (h : ps.drop j = zs.drop j) : ps.getD j 0 = zs.getD j 0 := by
 have h1 : (ps.drop j)[0]? = (zs.drop j)[0]? := by rw [h]
 simp only [List.getElem?_drop, Nat.add_zero] at h1
 simp [List.getD, h1]
theorem dig_same {zs ps : List Nat} {d : Nat} (lz : Lim zs) (lp : Lo ps) (hl : ps.length = zs.length) (h : val ps = 10 * val zs + d) : Lim ps := by
 refine ⟨lp, ?_⟩
 by_cases hn : ps = []
 ·exact .inl hn
 ·refine .inr (last_pos lp hn ?_)
  have := Lim_ge lz (by rintro rfl; simp at hl; exact hn hl)
  rw [hl]
  omega
theorem dig_more {ps : List Nat} {c : Nat} (lp : Lo ps) (hc : 0 < c) (hc2 : c < 4294967296) : Lim (ps ++ [c]) := by
 refine ⟨Lo_append lp (Lo_cons hc2 Lo_nil), .inr ?_⟩
 simp [List.getD]
 exact hc
set_option maxRecDepth 100000 in
set_option maxHeartbeats 2000000 in
theorem fromDigits_any (s : ByteArray) (w : World) (hs : s.size ≤ 4000) (hd : Digs s.data.toList) :
 Calls Tryz.prog 130 #[.string s] w fun e w' => ∃ r, e = .returned r ∧ IntOut w w' r (decval s.data.toList) s.size := by
 have HD := Hid.mk hd
 clear hd
 obtain ⟨W0, hW0⟩ : ∃ W0, W0 = w.alloc (.cells #[.bool false, .slice none 0 0] 79) := ⟨_, rfl⟩
 have hWs : W0.heap.size = w.heap.size + 1 := by rw [hW0]; simp
 have HW := Hid.mk hW0
 have HS := Hid.mk hWs
 clear hWs hW0
 go_enter Tryz.func130, Tryz.ntmps130
 go_wp2_with fail
 go_loopw [3, 4] (fun v i wr => ∃ (k : Nat) (zs : List Nat), k ≤ s.size ∧ i = .int .i64 k ∧ zs.length ≤ k ∧ OwnB (w.heap.size + 1) wr v zs ∧ Below (w.heap.size + 1) W0 wr ∧ Hid (Lim zs ∧ val zs = decval (s.data.toList.take k))) (fun _ i _ => s.size - (intOf i).toNat)
 case atStart =>
  refine ⟨0, [], Nat.zero_le _, rfl, Nat.le_refl _, ?_, ?_, Hid.mk ⟨⟨Lo_nil, .inl rfl⟩, rfl⟩⟩
  ·have := World.ownsRow_lit (base := w.heap.size + 1) (e := 144) (size := 1) (w.alloc (.cells #[.bool false, .slice none 0 0] 79)) #[] 0 (by simp) (by simp [maxLen]) rfl
   simpa [OwnB, lcells] using this
  ·rw [HW.out]; exact (Below.refl _ _).alloc (by simp) _
 case round =>
  obtain ⟨k, zs, hk, rfl, hzk, hown, hbel, HI⟩ := hrel
  obtain ⟨ao, cap, rfl, hcap, -, hcells, -, hao⟩ := hown.own.open_
  have HC := Hid.mk hcells
  have HA := Hid.mk hao
  clear hcells hao
  by_cases hkN : k < s.size
  ·obtain ⟨d1, d2⟩ := dig_at s HD.out k hkN
   go_wp2_with fail
   go_loopw [5, 6] (fun c j ws => ∃ (m cc : Nat) (ps : List Nat), m ≤ zs.length ∧ j = .int .i64 m ∧ cc ≤ 9 ∧ c = .int .u64 cc ∧ Hid (ps.length = zs.length) ∧ Lo ps ∧ OwnB (w.heap.size + 1) ws (.slice ao zs.length cap) ps ∧ Below (w.heap.size + 1) W0 ws ∧
    Hid (val (ps.take m) + 4294967296 ^ m * cc = 10 * val (zs.take m) + (s[k].toNat - 48) ∧ ps.drop m = zs.drop m)) (fun _ j _ => zs.length - (intOf j).toNat)
   case atStart =>
    exact ⟨0, s[k].toNat - 48, zs, Nat.zero_le _, rfl, by omega, by go_num, Hid.mk rfl, HI.out.1.1, hown, hbel, Hid.mk ⟨by simp [val], rfl⟩⟩
   case round =>
    clear hown hbel
    obtain ⟨m, cc, ps, hm, rfl, hcc, rfl, HP, hlo, hown, hbel, HI2⟩ := hrel
    by_cases hmN : m < zs.length
    ·obtain ⟨b, rfl, -⟩ := HC.out m hmN
     have hz1 := hown.own.cell HP.out m hmN
     have hz2 := hown.own.frozen HP.out m
     have hxl := Lo_get hlo m
     obtain ⟨x, hx⟩ : ∃ x, x = ps.getD m 0 := ⟨_, rfl⟩
     rw [← hx] at hz1 hxl
     have HX := Hid.mk hx
     clear hx
     go_wp2_with fail
     go_roundw
     case rel =>
      refine ⟨m + 1, (cc + x * 10) / 4294967296, ps.set m ((cc + x * 10) % 4294967296), by omega, by go_num, by omega, by go_num, Hid.mk (by simp [HP.out]), Lo_set hlo _ _ (Nat.mod_lt _ (by decide)), hown.stored_int HP.out m _ (by omega), hbel.setCell hown.base _, Hid.mk ⟨?_, set_drop_next zs ps m _ HI2.out.2⟩⟩
      rw [val_take_set ps m _ (by have := HP.out; omega), val_take_next, ← getD_of_drop zs ps m HI2.out.2, ← HX.out, Nat.pow_succ]
      exact ten_round HI2.out.1
     case measure => simp [intOf]; omega
    ·have hmN' : zs.length ≤ m := by omega
     have hfull : val ps + 4294967296 ^ zs.length * cc = 10 * val zs + (s[k].toNat - 48) := by
      have := HI2.out.1
      rw [show m = zs.length from by omega, List.take_of_length_le (by have := HP.out; omega), List.take_of_length_le (Nat.le_refl _)] at this
      exact this
     have HF := Hid.mk hfull
     clear hfull
     by_cases hc0 : cc = 0
     ·subst hc0
      go_wp2_with fail
      go_roundw
      case rel =>
       have hf := HF.out
       rw [Nat.mul_zero, Nat.add_zero] at hf
       exact ⟨k + 1, ps, by omega, by go_num, by have := HP.out; omega, by rw [← HP.out] at hown ⊢; exact hown, hbel, Hid.mk ⟨dig_same HI.out.1 hlo HP.out hf, by rw [hf, decval_at s k hkN, HI.out.2]⟩⟩
      case measure => simp [intOf]; omega
     ·have hcpos : 0 < cc := by omega
      go_wp2_with (at_builtin; refine append_limb _ rfl (.tmp 42) (.tmp 45) rfl (w.heap.size + 1) _ ps rfl ?_ ⟨_, 0, none⟩ rfl cc ?_ ?_ ?_ ?_)
      ·exact World.ownsRow.alloc hown _
      ·simp [Addr.add]
      ·have := HP.out; omega
      ·have := hbel.size; have := HS.out; simp; omega
      intro v' w' h1 h2
      have hbel2 : Below (w.heap.size + 1) W0 w' := (hbel.alloc (by have := hbel.size; have := HS.out; omega) _).grown h2 (by have := hbel.size; have := HS.out; simp; omega) (fun j hj => (World.ownsRow.lt hown j hj).1)
      go_wp2_with fail
      go_roundw
      case rel =>
       refine ⟨k + 1, ps ++ [cc], by omega, by go_num, by have := HP.out; simp; omega, h1, hbel2, Hid.mk ⟨dig_more hlo hcpos (by omega), ?_⟩⟩
       have hf := HF.out
       rw [val_append, HP.out, show val [cc] = cc from by simp [val], hf, decval_at s k hkN, HI.out.2]
      case measure => simp [intOf]; omega
  ·have hbox : wr.heap[w.heap.size]? = some (.cells #[.bool false, .slice none 0 0] 79 (0, 0)) := by
    rw [hbel.block _ (by omega), HW.out]; exact heap_alloc_new w _
   have hb1 : wr.cell? ⟨w.heap.size, 0, none⟩ = some (.bool false) := by simp [World.cell?, hbox]
   have hb2 : wr.cell? ⟨w.heap.size, 1, none⟩ = some (.slice none 0 0) := by simp [World.cell?, hbox]
   have hb3 : wr.frozen? ⟨w.heap.size, 0, none⟩ = false := by simp [World.frozen?, hbox]
   have hb4 : wr.frozen? ⟨w.heap.size, 1, none⟩ = false := by simp [World.frozen?, hbox]
   have HT : Hid (Ty wr w.heap.size 79) := Hid.mk ⟨_, _, hbox⟩
   clear hbox
   go_wp2_with fail
   refine bodyPost_ret (v := .agg #[.bool false, .slice ao zs.length cap]) ?_ rfl ?_
   ·(simp [results, Tryz.results130, go_sem, hb1, hb2]; done)
   ·refine ⟨_, rfl, IsI.mk' (by simp) HI.out.1 ?_ (by omega) (hown.own.keep (KU.setCell (KU.setCell (KU.refl _) HT.out (by decide) _) (HT.out.setCell _ _) (by decide) _)), ?_⟩
    ·rw [HI.out.2, List.take_of_length_le (by simp; omega)]; simp
    ·refine Below.trans ?_ (((hbel.mono (by omega)).setCell (by simp) _).setCell (by simp) _)
     rw [HW.out]
     exact (Below.refl _ _).alloc (Nat.le_refl _) _
open Go.RowKit
theorem or_chunk (c x : Nat) (hc : c < 1000000000) (hx : x < 4294967296) : bits BinOp.or IntKind.u64 ((c : Int) * 4294967296) (x : Int) = (c : Int) * 4294967296 + (x : Int) := by
 have h := u64_or_nat (c * 4294967296) x (by omega) (by omega)
 rw [show ((c * 4294967296 : Nat) : Int) = (c : Int) * 4294967296 from by omega] at h
 rw [h]
 have h2 := Nat.shiftLeft_add_eq_or_of_lt (i := 32) (b := x) (by omega) c
 rw [Nat.shiftLeft_eq] at h2
 rw [show c * 4294967296 = c * 2 ^ 32 from rfl, ← h2]
 omega
theorem split_arith (B D V c x : Nat) : x + B * (D * V + c) = D * ((c * B + x) / D + B * V) + (c * B + x) % D := by
 have h1 := Nat.div_add_mod (c * B + x) D
 rw [Nat.mul_add, Nat.mul_add, Nat.mul_left_comm B D V, Nat.mul_comm B c]
 omega
theorem split_gen {xs zs : List Nat} {k c D : Nat} (hk : 0 < k) (hx : k ≤ xs.length) (hz : zs.length = xs.length) (h : val (xs.drop k) = D * val (zs.drop k) + c) :
 val (xs.drop (k - 1)) = D * val ((zs.set (k - 1) ((c * 4294967296 + xs.getD (k - 1) 0) / D)).drop (k - 1)) + (c * 4294967296 + xs.getD (k - 1) 0) % D := by
 generalize hq : (c * 4294967296 + xs.getD (k - 1) 0) / D = q
 have h1 : (zs.set (k - 1) q).drop (k - 1) = q :: zs.drop k := by
  rw [drop_getD (zs.set (k - 1) q) (k - 1) (by simp; omega), show k - 1 + 1 = k from by omega, List.drop_set_of_lt (by omega)]
  simp [List.getD, show k - 1 < zs.length from by omega]
 have h2 : xs.drop (k - 1) = xs.getD (k - 1) 0 :: xs.drop k := by
  rw [drop_getD xs (k - 1) (by omega), show k - 1 + 1 = k from by omega]
 rw [h1, h2, val_cons, val_cons, h, ← hq]
 exact split_arith _ _ _ _ _
set_option maxRecDepth 100000 in
set_option maxHeartbeats 1000000 in
theorem splitChunk_any (v : Value) (xs : List Nat) (w : World) (hv : Own w v xs) (lx : Lo xs) (bx : xs.length ≤ 1000000000) :
 Calls Tryz.prog 69 #[v] w fun e w' => ∃ r, e = .returned (.tuple #[r, .int .u64 ((val xs % 1000000000 : Nat) : Int)]) ∧ NatOut w w' r (val xs / 1000000000) xs.length := by
 obtain ⟨ao, cap, hveq, hc, hm, hcell, -, -⟩ := hv.open_
 have HC := Hid.mk hcell
 clear hv hcell
 subst hveq
 go_enter Tryz.func69, Tryz.ntmps69
 go_wp2_with (at_make; refine make_limbs _ rfl (.tmp 8) (.tmp 8) rfl _ _ xs.length rfl rfl rfl rfl (by omega) ?_)
 intro w1 hown hbel
 go_wp2_with fail
 go_loopw [5, 6] (fun c i wr => ∃ (k cc : Nat) (zs : List Nat), k ≤ xs.length ∧ i = .int .i64 ((k : Int) - 1) ∧ cc < 1000000000 ∧ c = .int .u64 cc ∧ zs.length = xs.length ∧ Lo zs ∧ Own wr (.slice (some ⟨w.heap.size, 0, none⟩) xs.length xs.length) zs ∧ Below w.heap.size w wr ∧
  Hid (val (xs.drop k) = 1000000000 * val (zs.drop k) + cc)) (fun _ i _ => (intOf i + 1).toNat)
 case atStart => exact ⟨xs.length, 0, _, Nat.le_refl _, rfl, by omega, rfl, List.length_replicate, Lo_zeros _, hown, hbel, Hid.mk (by simp [val])⟩
 case round =>
  clear hown hbel
  obtain ⟨k, cc, zs, hk, rfl, hcc, rfl, hzl, hlo, hown, hbel, HI⟩ := hrel
  by_cases h0 : k = 0
  ·subst h0
   go_wp2_with fail
   refine (trim_any _ zs _ hown hlo).mono ?_
   rintro e w' ⟨⟨r, rfl, hr⟩, rfl⟩
   go_wp2_with fail
   go_ret2
   obtain ⟨rs, h1, h2, h3, h4⟩ := hr
   have hi := HI.out
   simp only [List.drop_zero] at hi
   have h5 : cc = val xs % 1000000000 := by omega
   have h6 : val zs = val xs / 1000000000 := by omega
   have h7 : val rs = val xs / 1000000000 := by omega
   have h8 : rs.length ≤ xs.length := by omega
   subst h5
   exact ⟨_, rfl, ⟨rs, h1, h7, h8, h4⟩, hbel⟩
  ·have hxk := Lo_get lx (k - 1)
   have hz1 := hown.cell hzl (k - 1) (by omega)
   have hz2 := hown.frozen hzl (k - 1)
   obtain ⟨b, rfl, hb0⟩ := HC.out (k - 1) (by omega)
   have hb1 := cell_later hbel hb0
   obtain ⟨x, hx⟩ : ∃ x, x = xs.getD (k - 1) 0 := ⟨_, rfl⟩
   obtain ⟨z, hz⟩ : ∃ z, z = zs.getD (k - 1) 0 := ⟨_, rfl⟩
   rw [← hx] at hxk hb1
   rw [← hz] at hz1
   have HX := Hid.mk hx
   have HZL := Hid.mk hzl
   clear hx hz hb0 hzl
   have hor := or_chunk cc x hcc hxk
   go_wp2_with fail
   go_roundw
   case rel =>
    refine ⟨k - 1, (cc * 4294967296 + x) % 1000000000, zs.set (k - 1) ((cc * 4294967296 + x) / 1000000000), by omega, by go_num, by omega, by go_num, by simp [HZL.out], Lo_set hlo _ _ (by omega), hown.stored_int HZL.out (k - 1) _ (by omega), hbel.setCell (Nat.le_refl _) _, Hid.mk ?_⟩
    rw [HX.out]
    exact split_gen (by omega) hk HZL.out HI.out
   case measure => simp [intOf]; omega
end Go.Proofs.YtfjbijpagaipnabGreatDoor
