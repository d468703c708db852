import Derived.Test.YtfjbijpagaipnabGreatDoorS17
import Derived.Deep.LoopGhost
import Derived.Test.YtfjbijpagaipnabGreatDoorS08
namespace Go.Proofs.YtfjbijpagaipnabGreatDoor
open Go.RowKit
structure GaBd (H U W : Nat → Nat → Int) (r c t col L X MH MU MW KH KU KW : Nat) : Prop where
 hX : ∀ i, t ≤ i → i < r → (H i col).natAbs ≤ X
 hM : Bd H U W r c t 1 MH MU MW
 k1 : MH ≤ KH
 k2 : MU ≤ KU
 k3 : MW ≤ KW
 k4 : t + 1 < r → MH * ((1 + 7 * X) * X ^ 8) ≤ KH ∧ MU * ((1 + 7 * X) * X ^ 8) ≤ KU ∧ MW * ((1 + 7 * X) * X ^ 8) ≤ KW
 l1 : KH < 4294967296 ^ L
 l2 : KU < 4294967296 ^ L
 l3 : KW < 4294967296 ^ L
def e3 (r c : Nat) (hs us ws : List Int) : F3 := ⟨ent c hs, ent r us, ent r ws⟩
def GaOut (w w' : World) (B pb gH gU gW r c t col : Nat) (hs us ws : List Int) (A : Nat → Nat → Int) (L KH KU KW : Nat) : Prop :=
 Below B w w' ∧ (((∀ i, t ≤ i → i < r → ent c hs i col = 0) ∧ FormO w' B pb gH gU gW r c t hs us ws L) ∨
  (t < r ∧ ∃ hs' us' ws', FormO w' B pb gH gU gW r c (t + 1) hs' us' ws' (2 * L + 1) ∧ EInv A (ent c hs') (ent r us') (ent r ws') r c ∧ GaEnd (ent c hs) (ent r us) r c t col (ent c hs') (ent r us') (ent r ws') KH KU KW ∧ GaDoes r c t col (e3 r c hs us ws) (t + 1) (e3 r c hs' us' ws')))
theorem ga_does {r c t col : Nat} {hs us ws hs1 us1 ws1 hs5 us5 ws5 : List Int} {H4 U4 W4 : Nat → Nat → Int} {z : Int} (ht : t < r) (hT : ∃ n, GaTo r c t col (e3 r c hs us ws) (n + 1) (e3 r c hs1 us1 ws1)) (hl : LeastIs (fun i => ent c hs1 i col) (t + 1) r z) (hz : z < 0) (σ : Int) (hσ : sgn t col (e3 r c hs1 us1 ws1) = σ)
 (x1 : ∀ i j, i < r → j < c → H4 i j = if i = t then σ * ent c hs1 i j else ent c hs1 i j) (x2 : ∀ i j, i < r → j < r → U4 i j = if i = t then σ * ent r us1 i j else ent r us1 i j) (x3 : ∀ i j, i < r → j < r → W4 i j = if j = t then σ * ent r ws1 i j else ent r ws1 i j)
 (q : Nat → Int) (hq : ∀ i, i < r → q i = (H4 i col).fdiv (H4 t col)) (hc : col < c) (y1 : ∀ i j, i < r → j < c → ent c hs5 i j = lsH H4 q 0 t t i j) (y2 : ∀ i j, i < r → j < r → ent r us5 i j = lsH U4 q 0 t t i j) (y3 : ∀ i j, i < r → j < r → ent r ws5 i j = lsW W4 q 0 t t i j) :
 GaDoes r c t col (e3 r c hs us ws) (t + 1) (e3 r c hs5 us5 ws5) := by
 obtain ⟨n, hT⟩ := hT
 have hz1 : z = -1 := by rcases hl with ⟨i, _, _, d, _⟩ | ⟨d, _⟩ <;> omega
 subst hz1
 have hqq : ∀ i, i < r → ((tn3 t col (e3 r c hs1 us1 ws1)).H i col).fdiv ((tn3 t col (e3 r c hs1 us1 ws1)).H t col) = q i := fun i hi => by
  rw [hq i hi, x1 i col hi hc, x1 t col ht hc]
  unfold tn3
  rw [hσ]
  rfl
 refine .inr ⟨ht, rfl, n, _, hT, hl, fun i j hi hj => ?_, fun i j hi hj => ?_, fun i j hi hj => ?_⟩
 ·show lsH (tn3 t col (e3 r c hs1 us1 ws1)).H (fun k => ((tn3 t col (e3 r c hs1 us1 ws1)).H k col).fdiv ((tn3 t col (e3 r c hs1 us1 ws1)).H t col)) 0 t t i j = ent c hs5 i j
  rw [y1 i j hi hj]
  refine lsH_congr ?_ ?_ (fun _ _ => hqq i hi)
  ·rw [x1 t j ht hj]; unfold tn3; rw [hσ]; rfl
  ·rw [x1 i j hi hj]; unfold tn3; rw [hσ]; rfl
 ·show lsH (tn3 t col (e3 r c hs1 us1 ws1)).U (fun k => ((tn3 t col (e3 r c hs1 us1 ws1)).H k col).fdiv ((tn3 t col (e3 r c hs1 us1 ws1)).H t col)) 0 t t i j = ent r us5 i j
  rw [y2 i j hi hj]
  refine lsH_congr ?_ ?_ (fun _ _ => hqq i hi)
  ·rw [x2 t j ht hj]; unfold tn3; rw [hσ]; rfl
  ·rw [x2 i j hi hj]; unfold tn3; rw [hσ]; rfl
 ·show lsW (tn3 t col (e3 r c hs1 us1 ws1)).W (fun k => ((tn3 t col (e3 r c hs1 us1 ws1)).H k col).fdiv ((tn3 t col (e3 r c hs1 us1 ws1)).H t col)) 0 t t i j = ent r ws5 i j
  rw [y3 i j hi hj]
  refine lsW_congr (fun k hk => ?_) ?_ ?_ (fun k hk => hqq k (by omega))
  ·rw [x3 i k hi (by omega)]; unfold tn3; rw [hσ]; rfl
  ·rw [x3 i t hi ht]; unfold tn3; rw [hσ]; rfl
  ·rw [x3 i j hi hj]; unfold tn3; rw [hσ]; rfl
set_option maxRecDepth 100000 in
set_option maxHeartbeats 4000000 in
theorem gather_any (B pb gH gU gW r c t col : Nat) (hs us ws : List Int) (A : Nat → Nat → Int) (L X MH MU MW KH KU KW : Nat) (w : World) (h : FormO w B pb gH gU gW r c t hs us ws L) (hr8 : r ≤ 8) (ht : t ≤ r) (hcol : col < c) (hL : L ≤ 60000000)
 (hb : GaBd (ent c hs) (ent r us) (ent r ws) r c t col L X MH MU MW KH KU KW) (hE : EInv A (ent c hs) (ent r us) (ent r ws) r c) :
 Calls Tryz.prog 61 #[.pointer (some ⟨pb, 0, none⟩), .int .i64 col] w fun e w' => e = .returned (.tuple #[]) ∧ GaOut w w' B pb gH gU gW r c t col hs us ws A L KH KU KW := by
 have F := Hid.mk (And.intro h (And.intro hb hE))
 obtain ⟨q0, q1, q2⟩ := h.H.tri
 have q3 := h.rk
 have hpl := h.H.plt
 clear h hb hE
 go_enter Tryz.func61, Tryz.ntmps61
 go_wp2_with fail
 refine (leastIn_any _ r c col t hs L _ F.out.1.H.isM hcol ht).mono ?_
 rintro e w1 ⟨z, rfl, hz, hb1⟩
 have hw1 := hb1.size
 have G := Hid.mk (And.intro hz (And.intro hb1 (F.out.1.later hb1)))
 clear hz hb1 q0 q1 q2 q3
 by_cases hz0 : z < 0
 ·go_wp2_with fail
  refine bodyPost_ret (v := .tuple #[]) (results_none rfl _ _ _) rfl ?_
  refine ⟨rfl, G.out.2.1.mono F.out.1.ble, .inl ⟨?_, G.out.2.2⟩⟩
  rcases G.out.1 with ⟨i, a, b, d, _⟩ | ⟨_, x⟩
  ·omega
  ·exact x
 ·obtain ⟨i0, rfl⟩ := Int.eq_ofNat_of_zero_le (show 0 ≤ z by omega)
  have hi0 : t ≤ i0 ∧ i0 < r := by
   rcases G.out.1 with ⟨i, a, b, d, _⟩ | ⟨x, _⟩ <;> omega
  obtain ⟨hi1, hi2⟩ := hi0
  have htr : t < r := by omega
  clear hz0
  go_wp2_with fail
  obtain ⟨n0, hn0⟩ : ∃ n0, n0 = (ent c hs i0 col).natAbs + 1 := ⟨_, rfl⟩
  have HN := Hid.mk hn0
  clear hn0
  go_loopg [5] n0 (fun k l wr => ∃ (z : Int) (hs1 us1 ws1 : List Int), l = .int .i64 z ∧ Hid (FormO wr B pb gH gU gW r c t hs1 us1 ws1 L ∧ Chg3 w wr gH gU gW ∧ EInv A (ent c hs1) (ent r us1) (ent r ws1) r c ∧ ((z = (i0 : Int) ∧ hs1 = hs ∧ us1 = us ∧ ws1 = ws ∧ k = n0) ∨ ((∃ n, GaTo r c t col (e3 r c hs us ws) (n + 1) (e3 r c hs1 us1 ws1)) ∧ GaPost (ent c hs) (ent r us) r c t col (ent c hs1) (ent r us1) (ent r ws1) KH KU KW z ∧ ((z < 0 ∧ k = 0) ∨ ∃ i : Nat, z = (i : Int) ∧ k = (ent c hs1 i col).natAbs)))))
  case atStart => exact ⟨i0, hs, us, ws, rfl, Hid.mk ⟨G.out.2.2, Chg3.of_below _ _ _ G.out.2.1, F.out.2.2, .inl ⟨rfl, rfl, rfl, rfl, rfl⟩⟩⟩
  case round =>
   obtain ⟨z, hs1, us1, ws1, rfl, HI⟩ := hrel
   obtain ⟨q0, q1, q2⟩ := HI.out.1.H.tri
   have hpl2 := HI.out.1.H.plt
   by_cases hz : z < 0
   ·have HP : Hid (GaPost (ent c hs) (ent r us) r c t col (ent c hs1) (ent r us1) (ent r ws1) KH KU KW z) := Hid.mk (by
     rcases HI.out.2.2.2 with ⟨a, _⟩ | ⟨_, a, _⟩
     ·omega
     ·exact a)
    have HT : Hid (∃ n, GaTo r c t col (e3 r c hs us ws) (n + 1) (e3 r c hs1 us1 ws1)) := Hid.mk (by
     rcases HI.out.2.2.2 with ⟨a, _⟩ | ⟨a, _⟩
     ·omega
     ·exact a)
    go_wp2_with fail
    refine (at_in _ r c t col hs1 L _ HI.out.1.H.isM htr hcol).mono ?_
    rintro e9 w2 ⟨x2, rfl, hx2, hb2⟩
    obtain ⟨nb2, so2, n2, cp2, rfl⟩ := hx2.shape
    have hw2 := hb2.size
    have K2 := Hid.mk (And.intro hx2 hb2)
    clear hx2 hb2
    go_wp2_with fail
    refine (isBelow_any _ (hs1.getD (t * c + col) 0) L _ K2.out.1).mono ?_
    rintro e9 w3 ⟨rfl, hb3⟩
    have hb23 := K2.out.2.trans (hb3.mono hw2)
    have K3 := Hid.mk (And.intro hb23 (HI.out.1.later hb23))
    clear hb3 hb23 q0 q1 q2
    obtain ⟨D, hD⟩ : ∃ D, D = decide (hs1.getD (t * c + col) 0 < 0) := ⟨_, rfl⟩
    rw [← hD]
    have HD := Hid.mk hD
    clear hD
    cases hDD : D
    case true =>
     have HN0 := Hid.mk (of_decide_eq_true (HD.out.symm.trans hDD))
     clear hDD HD
     go_wp2_with fail
     refine (fturn_any B pb gH gU gW r c t t hs1 us1 ws1 L _ K3.out.2 htr).mono ?_
     rintro e9 w4 ⟨rfl, hs4, us4, ws4, hF4, hc4, x1, x2, x3⟩
     obtain ⟨q, hq⟩ : ∃ q : Nat → Int, q = fun i => (ent c hs4 i col).fdiv (ent c hs4 t col) := ⟨_, rfl⟩
     have hpl4 := hF4.H.plt
     have K4 := Hid.mk (And.intro hF4 (And.intro hc4 (And.intro x1 (And.intro x2 (And.intro x3 hq)))))
     clear hF4 hc4 x1 x2 x3 hq
     go_wp2_with fail
     refine (lessen_any B pb gH gU gW r c t 0 t t col hs4 us4 ws4 L _ K4.out.1 hL (Nat.zero_le _) (by omega) htr (by omega) hcol q K4.out.2.2.2.2.2).mono ?_
     rintro e9 w5 ⟨rfl, hs5, us5, ws5, hF5, hc5, y1, y2, y3⟩
     have q3 := hF5.rk
     have q4 := hF5.fr
     have hpl5 := hF5.H.plt
     have K5 := Hid.mk (And.intro hF5 (And.intro hc5 (And.intro y1 (And.intro y2 y3))))
     clear hF5 hc5 y1 y2 y3
     go_wp2_with fail
     go_end0
     obtain ⟨F6, b6⟩ := K5.out.1.rank (t + 1) (z := (t : Int) + 1) (by omega)
     have hbB : Below B w w5 := F.out.1.below (((HI.out.2.1.trans (Chg3.of_below _ _ _ K3.out.1)).trans K4.out.2.1).trans K5.out.2.1)
     refine ⟨rfl, hbB.trans b6, .inr ⟨htr, hs5, us5, ws5, F6, ?_, ?_, ga_does htr HT.out HP.out.least hz (-1) (by unfold sgn; rw [if_pos (show (e3 r c hs1 us1 ws1).H t col < 0 from HN0.out)]) (fun i j a b => by rw [K4.out.2.2.1 i j a b]; split <;> omega) (fun i j a b => by rw [K4.out.2.2.2.1 i j a b]; split <;> omega) (fun i j a b => by rw [K4.out.2.2.2.2.1 i j a b]; split <;> omega) q (fun i _ => by rw [K4.out.2.2.2.2.2]) hcol K5.out.2.2.1 K5.out.2.2.2.1 K5.out.2.2.2.2⟩⟩
     ·refine EInv.congr (EInv.lessen (EInv.congr (HI.out.2.2.1.turn t) (fun _ _ _ _ => rfl) K4.out.2.2.1 K4.out.2.2.2.1 K4.out.2.2.2.2.1) q htr t (Nat.zero_le _) (by omega) (by omega)) (fun _ _ _ _ => rfl) K5.out.2.2.1 K5.out.2.2.2.1 K5.out.2.2.2.2
     ·exact HP.out.ends hz hr8 htr hcol (-1) (.inr rfl) (by have := HN0.out; show 0 < -1 * ent c hs1 t col; unfold ent; omega) (fun i j a b => by rw [K4.out.2.2.1 i j a b]; split <;> omega) (fun i j a b => by rw [K4.out.2.2.2.1 i j a b]; split <;> omega) (fun i j a b => by rw [K4.out.2.2.2.2.1 i j a b]; split <;> omega) q (fun i _ => by rw [K4.out.2.2.2.2.2]) K5.out.2.2.1 K5.out.2.2.2.1 K5.out.2.2.2.2
    case false =>
     have HN0 := Hid.mk (of_decide_eq_false (HD.out.symm.trans hDD))
     clear hDD HD
     go_wp2_with fail
     obtain ⟨q, hq⟩ : ∃ q : Nat → Int, q = fun i => (ent c hs1 i col).fdiv (ent c hs1 t col) := ⟨_, rfl⟩
     have HQ := Hid.mk hq
     clear hq
     refine (lessen_any B pb gH gU gW r c t 0 t t col hs1 us1 ws1 L _ K3.out.2 hL (Nat.zero_le _) (by omega) htr (by omega) hcol q HQ.out).mono ?_
     rintro e9 w5 ⟨rfl, hs5, us5, ws5, hF5, hc5, y1, y2, y3⟩
     have q3 := hF5.rk
     have q4 := hF5.fr
     have hpl5 := hF5.H.plt
     have K5 := Hid.mk (And.intro hF5 (And.intro hc5 (And.intro y1 (And.intro y2 y3))))
     clear hF5 hc5 y1 y2 y3
     go_wp2_with fail
     go_end0
     obtain ⟨F6, b6⟩ := K5.out.1.rank (t + 1) (z := (t : Int) + 1) (by omega)
     have hbB : Below B w w5 := F.out.1.below ((HI.out.2.1.trans (Chg3.of_below _ _ _ K3.out.1)).trans K5.out.2.1)
     refine ⟨rfl, hbB.trans b6, .inr ⟨htr, hs5, us5, ws5, F6, ?_, ?_, ga_does htr HT.out HP.out.least hz 1 (by unfold sgn; rw [if_neg (show ¬ (e3 r c hs1 us1 ws1).H t col < 0 from Int.not_lt.2 HN0.out)]) (fun i j a b => by split <;> omega) (fun i j a b => by split <;> omega) (fun i j a b => by split <;> omega) q (fun i _ => by rw [HQ.out]) hcol K5.out.2.2.1 K5.out.2.2.2.1 K5.out.2.2.2.2⟩⟩
     ·refine EInv.congr (EInv.lessen HI.out.2.2.1 q htr t (Nat.zero_le _) (by omega) (by omega)) (fun _ _ _ _ => rfl) K5.out.2.2.1 K5.out.2.2.2.1 K5.out.2.2.2.2
     ·exact HP.out.ends hz hr8 htr hcol 1 (.inl rfl) (by have := HN0.out; have h2 := HP.out.ne; show 0 < 1 * ent c hs1 t col; unfold ent at *; omega) (fun i j a b => by split <;> omega) (fun i j a b => by split <;> omega) (fun i j a b => by split <;> omega) q (fun i _ => by rw [HQ.out]) K5.out.2.2.1 K5.out.2.2.2.1 K5.out.2.2.2.2
   ·obtain ⟨i, rfl⟩ := Int.eq_ofNat_of_zero_le (show 0 ≤ z by omega)
    have hi : t ≤ i ∧ i < r := by
     rcases HI.out.2.2.2 with ⟨a, _⟩ | ⟨_, a, _⟩
     ·omega
     ·rcases a.least with ⟨i', x, y, u, _⟩ | ⟨x, _⟩ <;> omega
    obtain ⟨hti, hir⟩ := hi
    clear hz
    go_wp2_with fail
    refine (fswap_any B pb gH gU gW r c t t i hs1 us1 ws1 L _ HI.out.1 htr hir).mono ?_
    rintro e9 w2 ⟨rfl, hs2, us2, ws2, hF2, hc2, x1, x2, x3⟩
    obtain ⟨q, hq⟩ : ∃ q : Nat → Int, q = fun i => (ent c hs2 i col).fdiv (ent c hs2 t col) := ⟨_, rfl⟩
    clear q0 q1 q2
    obtain ⟨q0, q1, q2⟩ := hF2.H.tri
    have hpl3 := hF2.H.plt
    have K2 := Hid.mk (And.intro hF2 (And.intro hc2 (And.intro x1 (And.intro x2 (And.intro x3 hq)))))
    clear hF2 hc2 x1 x2 x3 hq
    go_wp2_with fail
    refine (lessen_any B pb gH gU gW r c t (t + 1) r t col hs2 us2 ws2 L _ K2.out.1 hL (by omega) (Nat.le_refl _) htr (by omega) hcol q K2.out.2.2.2.2.2).mono ?_
    rintro e9 w3 ⟨rfl, hs3, us3, ws3, hF3, hc3, y1, y2, y3⟩
    clear q0 q1 q2
    obtain ⟨q0, q1, q2⟩ := hF3.H.tri
    have hpl4 := hF3.H.plt
    have K3 := Hid.mk (And.intro hF3 (And.intro hc3 (And.intro y1 (And.intro y2 y3))))
    clear hF3 hc3 y1 y2 y3
    go_wp2_with fail
    refine (leastIn_any _ r c col (t + 1) hs3 (2 * L + 1) _ K3.out.1.H.isM hcol (by omega)).mono ?_
    rintro e9 w4 ⟨z4, rfl, hz4, hb4⟩
    have K4 := Hid.mk (And.intro hz4 hb4)
    clear hz4 hb4 q0 q1 q2
    have HP : Hid (GaPost (ent c hs) (ent r us) r c t col (ent c hs3) (ent r us3) (ent r ws3) KH KU KW z4 ∧ ent c hs3 t col = ent c hs1 i col ∧ EInv A (ent c hs3) (ent r us3) (ent r ws3) r c ∧ ∃ n, GaTo r c t col (e3 r c hs us ws) (n + 1) (e3 r c hs3 us3 ws3)) := Hid.mk (by
     obtain ⟨-, -, x1, x2, x3, hq⟩ := K2.out
     obtain ⟨-, -, y1, y2, y3⟩ := K3.out
     have hq2 : ∀ k, k < r → q k = rq (ent c hs1) t i col k := fun k hk => by
      rw [hq]
      unfold rq
      show (ent c hs2 k col).fdiv (ent c hs2 t col) = _
      rw [x1 k col hk hcol, x1 t col htr hcol]
     have e1 := rdH_of htr x1 y1 hq2
     have e2 := rdH_of htr x2 y2 hq2
     have e3' := rdW_of htr x3 y3 hq2
     have hl : LeastIs (fun k => rdH (ent c hs1) (ent c hs1) r t i col k col) (t + 1) r z4 := K4.out.1.congr (fun k _ hk => (e1 k col hk hcol).symm)
     have eq3 : F3.Eq r c (rd3 r t i col (e3 r c hs1 us1 ws1)) (e3 r c hs3 us3 ws3) := ⟨fun a b x y => (e1 a b x y).symm, fun a b x y => (e2 a b x y).symm, fun a b x y => (e3' a b x y).symm⟩
     refine ⟨?_, by rw [e1 t col htr hcol, rdH_top], HI.out.2.2.1.round htr hir x1 x2 x3 y1 y2 y3, ?_⟩
     case' refine_2 =>
      rcases HI.out.2.2.2 with ⟨a1, rfl, rfl, rfl, -⟩ | ⟨⟨n, g1⟩, a1, -⟩
      ·have hii : i = i0 := by omega
       subst hii
       exact ⟨0, .step 0 i _ _ (.start _ (F3.Eq.refl _ _ _)) G.out.1 eq3⟩
      ·exact ⟨n + 1, .step (n + 1) i _ _ g1 a1.least eq3⟩
     rcases HI.out.2.2.2 with ⟨a1, rfl, rfl, rfl, -⟩ | ⟨-, a1, -⟩
     ·have hii : i = i0 := by omega
      subst hii
      exact (GaPost.first hr8 G.out.1 F.out.2.1.hX F.out.2.1.hM F.out.2.1.k1 F.out.2.1.k2 F.out.2.1.k3 F.out.2.1.k4 hl).congr htr hcol e1 e2 e3'
     ·exact (a1.next hr8 hl).congr htr hcol e1 e2 e3')
    go_wp2_with fail
    go_roundg (if z4 < 0 then 0 else (ent c hs3 z4.toNat col).natAbs)
    case measure =>
     have hpos : 0 < gk ∧ (ent c hs1 i col).natAbs ≤ gk := by
      rcases HI.out.2.2.2 with ⟨a1, rfl, -, -, rfl⟩ | ⟨-, a1, ⟨a2, -⟩ | ⟨i', a2, rfl⟩⟩
      ·have := HN.out
       have hii : i = i0 := by omega
       subst hii; omega
      ·omega
      ·have hii : i = i' := by omega
       subst hii
       rcases a1.least with ⟨i2, b1, b2, b3, b4, -⟩ | ⟨b1, -⟩
       ·have hi2 : i2 = i := by omega
        subst hi2
        have b5 : ent c hs1 i2 col ≠ 0 := b4
        omega
       ·omega
     split
     ·exact hpos.1
     ·rcases HP.out.1.least with ⟨i2, b1, b2, b3, -⟩ | ⟨b1, -⟩
      ·have := HP.out.1.lt i2 (by omega) b2
       rw [HP.out.2.1] at this
       rw [b3, Int.toNat_natCast]
       omega
      ·omega
    case rel =>
     obtain ⟨F3, c3, -⟩ := K3.out
     have hbd := HP.out.1.bd1
     refine ⟨z4, hs3, us3, ws3, rfl, Hid.mk ⟨(F3.fit (fun k j a b => ?_) (fun k j a b => ?_) (fun k j a b => ?_)).later K4.out.2, ((HI.out.2.1.trans K2.out.2.1).trans c3).trans (Chg3.of_below _ _ _ K4.out.2), HP.out.2.2.1, .inr ⟨HP.out.2.2.2, HP.out.1, ?_⟩⟩⟩
     ·by_cases hk : k < t
      ·rw [HP.out.1.keepH k j hk b]; exact (F.out.1.H.has a b).lt
      ·have h1 := hbd.h k j (by omega) a b; have h2 := F.out.2.1.l1; omega
     ·by_cases hk : k < t
      ·rw [HP.out.1.keepU k j hk b]; exact (F.out.1.U.has a b).lt
      ·have h1 := hbd.u k j (by omega) a b; have h2 := F.out.2.1.l2; omega
     ·have h1 := hbd.w k j a b; have h2 := F.out.2.1.l3; omega
     ·by_cases hz4 : z4 < 0
      ·exact .inl ⟨hz4, if_pos hz4⟩
      ·refine .inr ⟨z4.toNat, by omega, if_neg hz4⟩
open Go.RowKit
def Free (w : World) (b : Nat) : Prop := b < w.heap.size ∧ ∀ o, w.frozen? ⟨b, o, none⟩ = false
theorem Free.new (w : World) (c : Array Value) (t : TypeId) : Free (w.alloc (.cells c t)) w.heap.size := ⟨by simp, fun _ => World.frozen?_alloc_new _ _ _ _⟩
theorem Free.below {w w' : World} {b : Nat} (h : Free w b) (hb : Below w.heap.size w w') : Free w' b := ⟨Nat.lt_of_lt_of_le h.1 hb.size, fun o => by rw [hb.frozen (p := ⟨b, o, none⟩) h.1]; exact h.2 o⟩
theorem Free.grown {w w' : World} {b g : Nat} (h : Free w b) (hg : w.grownBy w' (some g)) (hne : b ≠ g) : Free w' b := ⟨Nat.lt_of_lt_of_le h.1 hg.size, fun o => by rw [World.frozen?_of_block (hg.block b h.1 (by simpa using hne))]; exact h.2 o⟩
theorem ent_zeros (r c i j : Nat) : ent c (List.replicate (r * c) 0) i j = 0 := by
 unfold ent
 simp only [List.getD, List.getElem?_replicate]
 split <;> rfl
set_option maxRecDepth 100000 in
set_option maxHeartbeats 2000000 in
theorem unit_any (r : Nat) (w : World) (hr : r ≤ 99) :
 Calls Tryz.prog 60 #[.int .i64 r] w fun e w' => ∃ g zs, e = .returned (.agg #[.int .i64 r, .int .i64 r, .slice (some ⟨g, 0, none⟩) (r * r) (r * r)]) ∧ w.heap.size ≤ g ∧ Grid w' (.slice (some ⟨g, 0, none⟩) (r * r) (r * r)) (r * r) zs 1 ∧ (∀ i j, i < r → j < r → ent r zs i j = kd i j) ∧ Below w.heap.size w w' := by
 go_enter Tryz.func60, Tryz.ntmps60
 go_wp2_with fail
 have hb0 := (Below.refl w.heap.size w).alloc (Nat.le_refl _) (.cells #[.int .i64 0, .int .i64 0, .slice none 0 0] 66)
 have hT0 : Tri (w.alloc (.cells #[.int .i64 0, .int .i64 0, .slice none 0 0] 66)) w.heap.size 0 (.int .i64 0) (.int .i64 0) (.slice none 0 0) := ⟨new_cell _ _ _ _ _ rfl rfl, new_cell _ _ _ _ _ rfl rfl, new_cell _ _ _ _ _ rfl rfl⟩
 have hY0 := And.intro (Ty.new w #[.int .i64 0, .int .i64 0, .slice none 0 0] 66) (Free.new w #[.int .i64 0, .int .i64 0, .slice none 0 0] 66)
 refine (noughts_any r r _ hr hr).mono ?_
 rintro e w1 ⟨g, rfl, hg1, hG1, hb1⟩
 have hgn : w.heap.size + 1 ≤ g := by simpa using hg1
 have hgl : g < w1.heap.size := hG1.ty.lt
 have hbw1 : Below w.heap.size w w1 := hb0.trans (hb1.mono hb0.size)
 have hw1 : w.heap.size + 1 ≤ w1.heap.size := by have := hb1.size; simpa using this
 have hT1 := hT0.later hb1
 have hY1 := And.intro (hY0.1.below hb1 (by simp)) (hY0.2.below hb1)
 have hb11 := (Below.refl w1.heap.size w1).alloc (Nat.le_refl _) (.cells #[.int .i64 r, .int .i64 r, .slice (some ⟨g, 0, none⟩) (r * r) (r * r)] 66)
 have hTm : Tri (w1.alloc (.cells #[.int .i64 r, .int .i64 r, .slice (some ⟨g, 0, none⟩) (r * r) (r * r)] 66)) w1.heap.size 0 (.int .i64 r) (.int .i64 r) (.slice (some ⟨g, 0, none⟩) (r * r) (r * r)) := ⟨new_cell _ _ _ _ _ rfl rfl, new_cell _ _ _ _ _ rfl rfl, new_cell _ _ _ _ _ rfl rfl⟩
 obtain ⟨W1, hW1⟩ : ∃ W1, W1 = w1.alloc (.cells #[.int .i64 r, .int .i64 r, .slice (some ⟨g, 0, none⟩) (r * r) (r * r)] 66) := ⟨_, rfl⟩
 have hs1 : W1.heap.size = w1.heap.size + 1 := by rw [hW1]; simp
 rw [← hW1] at hb11 hTm
 have hM1 : MatO W1 w1.heap.size 0 g r r (List.replicate (r * r) 0) 1 := ⟨hr, hr, hTm, (hG1.mono (by omega)).below hb11⟩
 have K1 := Hid.mk (And.intro hM1 (And.intro (hbw1.trans (hb11.mono (by omega))) (And.intro (hT1.later hb11) (And.intro (And.intro (hY1.1.below hb11 (by omega)) (hY1.2.below hb11)) hW1))))
 clear hb0 hT0 hY0 hg1 hG1 hb1 hbw1 hT1 hY1 hb11 hTm hM1 hW1
 go_wp2_with fail
 rw [← K1.out.2.2.2.2]
 refine (fromOne_any _).mono ?_
 rintro e w2 ⟨x2, rfl, hx2, hb2⟩
 obtain ⟨nb2, so2, n2, cp2, rfl⟩ := hx2.shape
 replace hx2 := hx2.fit (K := 1) (by decide)
 have hw2 : W1.heap.size ≤ w2.heap.size := hb2.size
 have hb22 := (Below.refl w2.heap.size w2).alloc (Nat.le_refl _) (.cells #[.bool nb2, .slice so2 n2 cp2] 79)
 have hD2 := Duo.new w2 (.bool nb2) (.slice so2 n2 cp2) rfl
 obtain ⟨W2, hW2⟩ : ∃ W2, W2 = w2.alloc (.cells #[.bool nb2, .slice so2 n2 cp2] 79) := ⟨_, rfl⟩
 have hs2 : W2.heap.size = w2.heap.size + 1 := by rw [hW2]; simp
 rw [← hW2] at hb22 hD2
 have hbB := hb2.trans (hb22.mono hw2)
 have K2 := Hid.mk (And.intro (K1.out.1.later hbB) (And.intro (K1.out.2.1.trans (hbB.mono (by omega))) (And.intro (K1.out.2.2.1.later hbB) (And.intro (And.intro (K1.out.2.2.2.1.1.below hbB (by omega)) (K1.out.2.2.2.1.2.below hbB)) (And.intro (hx2.below hb22) (And.intro hD2 hW2))))))
 clear hx2 hb2 hb22 hD2 hW2 hbB
 go_wp2_with fail
 rw [← K2.out.2.2.2.2.2.2]
 have hpg : w1.heap.size ≠ g := by omega
 go_loopw [5] (fun i wr => ∃ (e : Nat) (ms : List Int), e ≤ r ∧ i = .int .i64 e ∧ Hid (MatO wr w1.heap.size 0 g r r ms 1 ∧ W2.grownBy wr (some g) ∧ KU W2 wr ∧ ∀ i j, i < r → j < r → ent r ms i j = if i < e then kd i j else 0)) (fun i _ => r - (intOf i).toNat)
 case atStart => exact ⟨0, _, Nat.zero_le _, rfl, Hid.mk ⟨K2.out.1, World.grownBy.refl _ _, KU.refl _, fun i j _ _ => by rw [ent_zeros, if_neg (by omega)]⟩⟩
 case round =>
  obtain ⟨e, ms, he, rfl, HI⟩ := hrel
  obtain ⟨q0, q1, q2⟩ := HI.out.1.tri
  have hwr := HI.out.2.1.size
  have hB1 : Duo wr w2.heap.size (.bool nb2) (.slice so2 n2 cp2) := (HI.out.2.1.block _ (by omega) (fun e => by injection e with e; omega)).trans K2.out.2.2.2.2.2.1
  obtain ⟨x0, x1, -, -⟩ := hB1.cells
  clear hB1
  by_cases hec : e < r
  ·have hei : (e : Int) < (r : Int) := by omega
   go_wp2_with fail
   refine (set_m w1.heap.size 0 g r r e e ms 1 _ 1 _ HI.out.1 hpg (K2.out.2.2.2.2.1.keep HI.out.2.2.1) hec hec).mono ?_
   rintro e9 w3 ⟨rfl, hM3, hgr3, hku3⟩
   have K3 := Hid.mk (And.intro hM3 (And.intro (grown_trans HI.out.2.1 hgr3) (HI.out.2.2.1.trans hku3)))
   clear hM3 hgr3 hku3
   go_wp2_with fail
   go_roundw
   case measure => simp [intOf]; omega
   case rel =>
    refine ⟨e + 1, _, by omega, by go_num, Hid.mk ⟨K3.out.1, K3.out.2.1, K3.out.2.2, fun i j hi hj => ?_⟩⟩
    rw [ent_set ms r r HI.out.1.len e e i j _ hec hec hj, HI.out.2.2.2 i j hi hj]
    unfold kd
    grind
  ·have hei : ¬ (e : Int) < (r : Int) := by omega
   have hee : e = r := by omega
   have HEE := Hid.mk hee
   clear hee
   have hTr := K2.out.2.2.1.grown HI.out.2.1 (by omega)
   have hYr := K2.out.2.2.2.1.1.grown HI.out.2.1 (by omega)
   have f0 := (K2.out.2.2.2.1.2.grown HI.out.2.1 (by omega)).2
   obtain ⟨y0, y1, y2⟩ := hTr
   go_wp2_with fail
   refine bodyPost_ret (v := .agg #[.int .i64 r, .int .i64 r, .slice (some ⟨g, 0, none⟩) (r * r) (r * r)]) ?_ rfl ?_
   ·(simp [results, Tryz.results60, go_sem, y0, y1, y2]; done)
   ·have hk : ∀ (v0 v1 v2 : Value), KU wr (((wr.setCell ⟨w.heap.size, 0, none⟩ v0).setCell ⟨w.heap.size, 1, none⟩ v1).setCell ⟨w.heap.size, 2, none⟩ v2) := fun v0 v1 v2 => KU.setCell (KU.setCell (KU.setCell (KU.refl _) hYr (by decide) _) (hYr.setCell _ _) (by decide) _) ((hYr.setCell _ _).setCell _ _) (by decide) _
    have hgr : ∀ (v0 v1 v2 : Value), wr.grownBy (((wr.setCell ⟨w.heap.size, 0, none⟩ v0).setCell ⟨w.heap.size, 1, none⟩ v1).setCell ⟨w.heap.size, 2, none⟩ v2) (some w.heap.size) := fun v0 v1 v2 => grown_trans (grown_trans (grown_cell _ _ _ _) (grown_cell _ _ _ _)) (grown_cell _ _ _ _)
    refine ⟨g, rfl, by omega, ms, HI.out.1.grid.grown (hgr _ _ _) (fun a m c e => by
     simp only [Value.slice.injEq, Option.some.injEq] at e
     obtain ⟨rfl, -, -⟩ := e
     show g ≠ w.heap.size
     omega) (hk _ _ _), fun i j hi hj => ?_, ?_⟩
    ·rw [HI.out.2.2.2 i j hi hj, if_pos (by have := HEE.out; omega)]
    ·refine Below.setCell (Below.setCell (Below.setCell ?_ (by simp) _) (by simp) _) (by simp) _
     exact K2.out.2.1.trans (below_of_grown HI.out.2.1 (by omega) (by omega))
structure EchSt (r e t : Nat) (pc : Nat → Nat) (H : Nat → Nat → Int) : Prop where
 le : t ≤ r
 te : t ≤ e
 col : ∀ b, b < t → pc b < e
 up : ∀ a b, a < b → b < t → pc a < pc b
 piv : ∀ b, b < t → 0 < H b (pc b)
 left : ∀ b, b < t → ∀ j, j < pc b → H b j = 0
 below : ∀ b, b < t → ∀ i, b < i → i < r → H i (pc b) = 0
 above : ∀ b, b < t → ∀ i, i < b → 0 ≤ H i (pc b) ∧ H i (pc b) < H b (pc b)
 rest : ∀ i, t ≤ i → i < r → ∀ j, j < e → H i j = 0
theorem EchSt.start (r : Nat) (pc : Nat → Nat) (H : Nat → Nat → Int) : EchSt r 0 0 pc H :=
 ⟨Nat.zero_le _, Nat.zero_le _, fun b h => by omega, fun a b _ h => by omega, fun b h => by omega, fun b h => by omega, fun b h => by omega, fun b h => by omega, fun i _ _ j h => by omega⟩
theorem EchSt.skip {r e t : Nat} {pc : Nat → Nat} {H : Nat → Nat → Int} (h : EchSt r e t pc H) (hz : ∀ i, t ≤ i → i < r → H i e = 0) : EchSt r (e + 1) t pc H :=
 ⟨h.le, by have := h.te; omega, fun b hb => by have := h.col b hb; omega, h.up, h.piv, h.left, h.below, h.above, fun i a b j hj => by
   by_cases hje : j = e
   ·rw [hje]; exact hz i a b
   ·exact h.rest i a b j (by omega)⟩
theorem EchSt.pivot {r c e t KH KU KW : Nat} {pc : Nat → Nat} {H U H' U' W' : Nat → Nat → Int} (h : EchSt r e t pc H) (ht : t < r) (hec : e < c) (g : GaEnd H U r c t e H' U' W' KH KU KW) : EchSt r (e + 1) (t + 1) (fun b => if b = t then e else pc b) H' := by
 have hz : ∀ j, j < e → ∀ i, t ≤ i → i < r → H' i j = 0 := fun j hj => g.zero j (by omega) (fun i a b => h.rest i a b j hj)
 have hlow : ∀ i j, i < t → j < e → H' i j = H i j := fun i j a b => by
  rw [g.topH i j a (by omega), hz j b t (Nat.le_refl _) ht]; simp
 refine ⟨by omega, by have := h.te; omega, fun b hb => ?_, fun a b hab hb => ?_, fun b hb => ?_, fun b hb j hj => ?_, fun b hb i hi hir => ?_, fun b hb i hi => ?_, fun i a b j hj => ?_⟩
 ·show (if b = t then e else pc b) < e + 1
  split
  ·omega
  ·have := h.col b (by omega); omega
 ·show (if a = t then e else pc a) < (if b = t then e else pc b)
  rw [if_neg (by omega)]
  split
  ·exact h.col a (by omega)
  ·exact h.up a b hab (by omega)
 ·show 0 < H' b (if b = t then e else pc b)
  split
  ·rename_i hbt; rw [hbt]; exact g.pos
  ·have := h.col b (by omega)
   rw [hlow b (pc b) (by omega) this]; exact h.piv b (by omega)
 ·have hj' : j < (if b = t then e else pc b) := hj
  by_cases hbt : b = t
  ·rw [if_pos hbt] at hj'; rw [hbt]; exact hz j hj' t (Nat.le_refl _) ht
  ·rw [if_neg hbt] at hj'
   have := h.col b (by omega)
   rw [hlow b j (by omega) (by omega)]; exact h.left b (by omega) j hj'
 ·show H' i (if b = t then e else pc b) = 0
  by_cases hbt : b = t
  ·rw [if_pos hbt]; exact g.below i (by omega) hir
  ·rw [if_neg hbt]
   have := h.col b (by omega)
   by_cases hit : i < t
   ·rw [hlow i _ hit this]; exact h.below b (by omega) i hi hir
   ·exact hz _ this i (by omega) hir
 ·show 0 ≤ H' i (if b = t then e else pc b) ∧ H' i (if b = t then e else pc b) < H' b (if b = t then e else pc b)
  by_cases hbt : b = t
  ·subst hbt; rw [if_pos rfl]; exact g.above i hi
  ·rw [if_neg hbt]
   have := h.col b (by omega)
   rw [hlow i _ (by omega) this, hlow b _ (by omega) this]; exact h.above b (by omega) i hi
 ·by_cases hje : j = e
  ·rw [hje]; exact g.below i (by omega) b
  ·exact hz j (by omega) i (by omega) b
def bB (r β : Nat) : Nat → Nat
 | 0 => β
 | t + 1 => if t + 1 < r then 10 * bB r β t + 3 else bB r β t
def hB (r β : Nat) : Nat → Nat
 | 0 => β
 | t + 1 => hB r β t + bB r β (t + 1) + 1
def uA (r β u t : Nat) : Nat := if t + 1 < r then u + 9 * bB r β t + 3 else u
def uB (r β : Nat) : Nat → Nat
 | 0 => 1
 | t + 1 => uA r β (uB r β t) t + hB r β t + 4
theorem bB_le (r β t : Nat) : bB r β t ≤ hB r β t := by
 cases t with
 | zero => exact Nat.le_refl _
 | succ t => rw [hB]; omega
theorem hB_mono (r β : Nat) {s t : Nat} (h : s ≤ t) : hB r β s ≤ hB r β t := by
 induction t with
 | zero => rw [show s = 0 from by omega]; exact Nat.le_refl _
 | succ t ih =>
   by_cases hs : s = t + 1
   ·rw [hs]; exact Nat.le_refl _
   ·have := ih (by omega); rw [hB]; omega
theorem uA_ge (r β u t : Nat) : u ≤ uA r β u t := by unfold uA; split <;> omega
theorem uB_mono (r β : Nat) {s t : Nat} (h : s ≤ t) : uB r β s ≤ uB r β t := by
 induction t with
 | zero => rw [show s = 0 from by omega]; exact Nat.le_refl _
 | succ t ih =>
   by_cases hs : s = t + 1
   ·rw [hs]; exact Nat.le_refl _
   ·have := ih (by omega); have := uA_ge r β (uB r β t) t; rw [uB]; omega
structure EB (H U W : Nat → Nat → Int) (r c t β : Nat) : Prop where
 a : ∀ i j, t ≤ i → i < r → j < c → (H i j).natAbs < 2 ^ bB r β t
 h : ∀ i j, i < r → j < c → (H i j).natAbs < 2 ^ hB r β t
 u : ∀ i j, i < r → j < r → (U i j).natAbs < 2 ^ uB r β t
 w : ∀ i j, i < r → j < r → (W i j).natAbs < 2 ^ uB r β t
theorem grow_le (u b : Nat) : (2 ^ u - 1) * ((1 + 7 * (2 ^ b - 1)) * (2 ^ b - 1) ^ 8) ≤ 2 ^ (u + 9 * b + 3) - 1 := by
 have h1 : (2 ^ b - 1) ^ 8 ≤ (2 ^ b) ^ 8 := Nat.pow_le_pow_left (Nat.sub_le _ _) 8
 have hp : 0 < 2 ^ b := Nat.pow_pos (by decide)
 have h2 : (1 + 7 * (2 ^ b - 1)) * (2 ^ b - 1) ^ 8 ≤ (8 * 2 ^ b) * (2 ^ b) ^ 8 := Nat.mul_le_mul (by omega) h1
 have h3 : (8 * 2 ^ b) * (2 ^ b) ^ 8 = 2 ^ (9 * b + 3) := by
  rw [← Nat.pow_mul, show (8 : Nat) = 2 ^ 3 from rfl, ← Nat.pow_add, ← Nat.pow_add]
  congr 1
  omega
 have h4 := Nat.mul_le_mul_left (2 ^ u - 1) h2
 rw [h3] at h4
 have h5 : (2 ^ u - 1) * 2 ^ (9 * b + 3) = 2 ^ (u + 9 * b + 3) - 2 ^ (9 * b + 3) := by
  rw [Nat.sub_mul, Nat.one_mul, ← Nat.pow_add]
  congr 2
 have h6 : 0 < 2 ^ (9 * b + 3) := Nat.pow_pos (by decide)
 omega
theorem lt_sub {x n : Nat} (h : x < 2 ^ n) : x * 1 ≤ 2 ^ n - 1 := by omega
theorem EB.gaBd {H U W : Nat → Nat → Int} {r c t β : Nat} (h : EB H U W r c t β) {col : Nat} (hc : col < c) :
 (∀ i, t ≤ i → i < r → (H i col).natAbs ≤ 2 ^ bB r β t - 1) ∧ Bd H U W r c t 1 (2 ^ bB r β t - 1) (2 ^ uB r β t - 1) (2 ^ uB r β t - 1) ∧ 2 ^ bB r β t - 1 ≤ 2 ^ bB r β (t + 1) - 1 ∧ 2 ^ uB r β t - 1 ≤ 2 ^ uA r β (uB r β t) t - 1 ∧
 (t + 1 < r → (2 ^ bB r β t - 1) * ((1 + 7 * (2 ^ bB r β t - 1)) * (2 ^ bB r β t - 1) ^ 8) ≤ 2 ^ bB r β (t + 1) - 1 ∧ (2 ^ uB r β t - 1) * ((1 + 7 * (2 ^ bB r β t - 1)) * (2 ^ bB r β t - 1) ^ 8) ≤ 2 ^ uA r β (uB r β t) t - 1) := by
 refine ⟨fun i a b => by have := h.a i col a b hc; omega, ⟨fun i j a b d => lt_sub (h.a i j a b d), fun i j _ b d => lt_sub (h.u i j b d), fun i j b d => lt_sub (h.w i j b d)⟩, ?_, ?_, fun htr => ⟨?_, ?_⟩⟩
 ·have : 2 ^ bB r β t ≤ 2 ^ bB r β (t + 1) := Nat.pow_le_pow_right (by decide) (by rw [bB]; split <;> omega)
  omega
 ·have : 2 ^ uB r β t ≤ 2 ^ uA r β (uB r β t) t := Nat.pow_le_pow_right (by decide) (uA_ge _ _ _ _)
  omega
 ·have := grow_le (bB r β t) (bB r β t)
  rw [bB, if_pos htr]
  rw [show bB r β t + 9 * bB r β t + 3 = 10 * bB r β t + 3 from by omega] at this
  exact this
 ·have := grow_le (uB r β t) (bB r β t)
  unfold uA
  rw [if_pos htr]
  exact this
theorem sum_lt {x y q a b h : Nat} (hx : x < 2 ^ h) (hy : y ≤ 2 ^ b - 1) (hq : q < 2 ^ h) (ha : a ≤ x + y * q) : a < 2 ^ (b + h) := by
 have hp : 0 < 2 ^ b := Nat.pow_pos (by decide)
 have h1 : y * q ≤ (2 ^ b - 1) * (2 ^ h - 1) := Nat.mul_le_mul hy (by omega)
 have h2 : (2 ^ b - 1) * (2 ^ h - 1) + (2 ^ h - 1) = 2 ^ b * (2 ^ h - 1) := by
  rw [Nat.sub_mul, Nat.one_mul]
  have : 1 * (2 ^ h - 1) ≤ 2 ^ b * (2 ^ h - 1) := Nat.mul_le_mul_right _ hp
  omega
 have h3 : 2 ^ b * (2 ^ h - 1) < 2 ^ b * 2 ^ h := Nat.mul_lt_mul_of_pos_left (by omega) hp
 rw [← Nat.pow_add] at h3
 omega
theorem EB.next {H U W H' U' W' : Nat → Nat → Int} {r c t e β : Nat} (h : EB H U W r c t β) (ht : t < r) (hec : e < c) (g : GaEnd H U r c t e H' U' W' (2 ^ bB r β (t + 1) - 1) (2 ^ uA r β (uB r β t) t - 1) (2 ^ uA r β (uB r β t) t - 1)) : EB H' U' W' r c (t + 1) β := by
 have hpb : 0 < 2 ^ bB r β (t + 1) := Nat.pow_pos (by decide)
 have hpu : 0 < 2 ^ uA r β (uB r β t) t := Nat.pow_pos (by decide)
 have hq : ∀ i, i < t → ((H i e).fdiv (H' t e)).natAbs < 2 ^ hB r β t := fun i hi => Nat.lt_of_le_of_lt (fdiv_le _ _) (h.h i e (by omega) hec)
 refine ⟨fun i j a b d => ?_, fun i j a b => ?_, fun i j a b => ?_, fun i j a b => ?_⟩
 ·have := g.bdH i j (by omega) b d; omega
 ·by_cases hi : i < t
  ·rw [g.topH i j hi b]
   have h1 := Int.natAbs_sub_le (H i j) (H' t j * (H i e).fdiv (H' t e))
   rw [Int.natAbs_mul] at h1
   have h2 := sum_lt (h.h i j a b) (g.bdH t j (Nat.le_refl _) ht b) (hq i hi) h1
   have h3 : 2 ^ (bB r β (t + 1) + hB r β t) ≤ 2 ^ hB r β (t + 1) := Nat.pow_le_pow_right (by decide) (by rw [hB]; omega)
   omega
  ·have h1 := g.bdH i j (by omega) a b
   have h3 : 2 ^ bB r β (t + 1) ≤ 2 ^ hB r β (t + 1) := Nat.pow_le_pow_right (by decide) (bB_le _ _ _)
   omega
 ·by_cases hi : i < t
  ·rw [g.topU i j hi b]
   have h1 := Int.natAbs_sub_le (U i j) (U' t j * (H i e).fdiv (H' t e))
   rw [Int.natAbs_mul] at h1
   have h0 := h.u i j a b
   have h4 : 2 ^ uB r β t ≤ 2 ^ uA r β (uB r β t) t := Nat.pow_le_pow_right (by decide) (uA_ge _ _ _ _)
   have h5 := g.bdU t j (Nat.le_refl _) ht b
   have h6 := hq i hi
   have h7 : (U' t j).natAbs * ((H i e).fdiv (H' t e)).natAbs ≤ (2 ^ uA r β (uB r β t) t - 1) * (2 ^ hB r β t - 1) := Nat.mul_le_mul h5 (by omega)
   have h8 : (2 ^ uA r β (uB r β t) t - 1) * (2 ^ hB r β t - 1) + (2 ^ uA r β (uB r β t) t - 1) = (2 ^ uA r β (uB r β t) t - 1) * 2 ^ hB r β t := by
    rw [Nat.mul_sub, Nat.mul_one]
    have : (2 ^ uA r β (uB r β t) t - 1) * 1 ≤ (2 ^ uA r β (uB r β t) t - 1) * 2 ^ hB r β t := Nat.mul_le_mul_left _ (Nat.pow_pos (by decide))
    omega
   have h9 : (2 ^ uA r β (uB r β t) t - 1) * 2 ^ hB r β t < 2 ^ uA r β (uB r β t) t * 2 ^ hB r β t := Nat.mul_lt_mul_of_pos_right (by omega) (Nat.pow_pos (by decide))
   rw [← Nat.pow_add] at h9
   have h3 : 2 ^ (uA r β (uB r β t) t + hB r β t) ≤ 2 ^ uB r β (t + 1) := Nat.pow_le_pow_right (by decide) (by rw [uB]; omega)
   omega
  ·have h1 := g.bdU i j (by omega) a b
   have h3 : 2 ^ uA r β (uB r β t) t ≤ 2 ^ uB r β (t + 1) := Nat.pow_le_pow_right (by decide) (by rw [uB]; omega)
   omega
 ·have h1 := g.bdW (2 ^ hB r β t - 1) (fun i hi => by have := h.h i e (by omega) hec; omega) i j a b
  have h2 : (2 ^ hB r β t - 1) * (2 ^ uA r β (uB r β t) t - 1) ≤ 2 ^ hB r β t * (2 ^ uA r β (uB r β t) t - 1) := Nat.mul_le_mul_right _ (Nat.sub_le _ _)
  have hph : 0 < 2 ^ hB r β t := Nat.pow_pos (by decide)
  have h4 : 1 * (2 ^ uA r β (uB r β t) t - 1) ≤ 2 ^ hB r β t * (2 ^ uA r β (uB r β t) t - 1) := Nat.mul_le_mul_right _ hph
  have h5 : 2 ^ hB r β t * (2 ^ uA r β (uB r β t) t - 1) < 2 ^ hB r β t * 2 ^ uA r β (uB r β t) t := Nat.mul_lt_mul_of_pos_left (by omega) hph
  have h6 : 16 * (2 ^ hB r β t * 2 ^ uA r β (uB r β t) t) = 2 ^ uB r β (t + 1) := by
   rw [uB, show (16 : Nat) = 2 ^ 4 from rfl, ← Nat.pow_add, ← Nat.pow_add]
   congr 1
   omega
  omega
end Go.Proofs.YtfjbijpagaipnabGreatDoor
