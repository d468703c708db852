import Derived.Test.YtfjbijpagaipnabGreatDoorS18
import Derived.Test.YtfjbijpagaipnabGreatDoorS11
import Derived.Deep.QuietTactic
import Derived.BigQuiet
import Derived.Test.YtfjbijpagaipnabGreatDoorS06
import Derived.Lib.ItoaLen
import Derived.Deep.RegionLaw
import Derived.Deep.CutRange
import Derived.Test.YtfjbijpagaipnabGreatDoorS10
import Derived.Deep.RegionHeld3
import Derived.Deep.LoopGhost
import Derived.BigRegion
namespace Go.Proofs.YtfjbijpagaipnabGreatDoor
open Go.RowKit
theorem set10 (w : World) (b : Nat) {t : TypeId} (ht : Ty w b t) (hne : t ≠ 144) (v0 v1 v2 v3 v4 v5 v6 v7 v8 v9 : Value) : KU w ((((((((((w.setCell ⟨b, 0, none⟩ v0).setCell ⟨b, 1, none⟩ v1).setCell ⟨b, 2, none⟩ v2).setCell ⟨b, 3, none⟩ v3).setCell ⟨b, 4, none⟩ v4).setCell ⟨b, 5, none⟩ v5).setCell ⟨b, 6, none⟩ v6).setCell ⟨b, 7, none⟩ v7).setCell ⟨b, 8, none⟩ v8).setCell ⟨b, 9, none⟩ v9) ∧ w.grownBy ((((((((((w.setCell ⟨b, 0, none⟩ v0).setCell ⟨b, 1, none⟩ v1).setCell ⟨b, 2, none⟩ v2).setCell ⟨b, 3, none⟩ v3).setCell ⟨b, 4, none⟩ v4).setCell ⟨b, 5, none⟩ v5).setCell ⟨b, 6, none⟩ v6).setCell ⟨b, 7, none⟩ v7).setCell ⟨b, 8, none⟩ v8).setCell ⟨b, 9, none⟩ v9) (some b) := by
 have k0 := KU.setCell (o := 0) (KU.refl w) ht hne v0
 have t0 := ht.setCell ⟨b, 0, none⟩ v0
 have g0 := grown_trans (World.grownBy.refl w (some b)) (grown_cell _ b 0 v0)
 have k1 := KU.setCell (o := 1) k0 t0 hne v1
 have t1 := t0.setCell ⟨b, 1, none⟩ v1
 have g1 := grown_trans g0 (grown_cell _ b 1 v1)
 have k2 := KU.setCell (o := 2) k1 t1 hne v2
 have t2 := t1.setCell ⟨b, 2, none⟩ v2
 have g2 := grown_trans g1 (grown_cell _ b 2 v2)
 have k3 := KU.setCell (o := 3) k2 t2 hne v3
 have t3 := t2.setCell ⟨b, 3, none⟩ v3
 have g3 := grown_trans g2 (grown_cell _ b 3 v3)
 have k4 := KU.setCell (o := 4) k3 t3 hne v4
 have t4 := t3.setCell ⟨b, 4, none⟩ v4
 have g4 := grown_trans g3 (grown_cell _ b 4 v4)
 have k5 := KU.setCell (o := 5) k4 t4 hne v5
 have t5 := t4.setCell ⟨b, 5, none⟩ v5
 have g5 := grown_trans g4 (grown_cell _ b 5 v5)
 have k6 := KU.setCell (o := 6) k5 t5 hne v6
 have t6 := t5.setCell ⟨b, 6, none⟩ v6
 have g6 := grown_trans g5 (grown_cell _ b 6 v6)
 have k7 := KU.setCell (o := 7) k6 t6 hne v7
 have t7 := t6.setCell ⟨b, 7, none⟩ v7
 have g7 := grown_trans g6 (grown_cell _ b 7 v7)
 have k8 := KU.setCell (o := 8) k7 t7 hne v8
 have t8 := t7.setCell ⟨b, 8, none⟩ v8
 have g8 := grown_trans g7 (grown_cell _ b 8 v8)
 have k9 := KU.setCell (o := 9) k8 t8 hne v9
 have g9 := grown_trans g8 (grown_cell _ b 9 v9)
 exact ⟨k9, g9⟩
def IsF (w : World) (v : Value) (r c k : Nat) (hs us ws : List Int) (L : Nat) : Prop := ∃ sH sU sW : Value, v = .agg #[.int .i64 r, .int .i64 c, sH, .int .i64 r, .int .i64 r, sU, .int .i64 r, .int .i64 r, sW, .int .i64 k] ∧ IsM w (.agg #[.int .i64 r, .int .i64 c, sH]) r c hs L ∧ IsM w (.agg #[.int .i64 r, .int .i64 r, sU]) r r us L ∧ IsM w (.agg #[.int .i64 r, .int .i64 r, sW]) r r ws L
def EchOut (w w' : World) (e : Ending) (r c : Nat) (zs : List Int) (β L : Nat) : Prop := ∃ (v : Value) (k : Nat) (pc : Nat → Nat) (hs us ws : List Int), e = .returned v ∧ IsF w' v r c k hs us ws L ∧ EchSt r c k pc (ent c hs) ∧ EInv (ent c zs) (ent c hs) (ent r us) (ent r ws) r c ∧ EB (ent c hs) (ent r us) (ent r ws) r c k β ∧ Below w.heap.size w w' ∧ EcTo r c (ent c zs) c k (e3 r c hs us ws)
set_option maxRecDepth 100000 in
set_option maxHeartbeats 4000000 in
theorem gech_any (v : Value) (r c : Nat) (zs : List Int) (β L : Nat) (w : World) (hm : IsM w v r c zs L) (hr8 : r ≤ 8) (hc8 : c ≤ 8) (hβ : ∀ i j, i < r → j < c → (ent c zs i j).natAbs < 2 ^ β) (hL : L ≤ 60000000) (h1 : hB r β c ≤ 32 * L) (h2 : uB r β c ≤ 32 * L) :
 Calls Tryz.prog 37 #[v] w fun e w' => EchOut w w' e r c zs β L := by
 have HM := Hid.mk hm
 obtain ⟨hr, hc, sl, rfl, hg0⟩ := hm
 obtain ⟨ao, cap, rfl, -⟩ := hg0.shape
 obtain ⟨RC, hRC⟩ : ∃ RC, RC = r * c := ⟨_, rfl⟩
 rw [← hRC] at hg0
 rw [← hRC] at HM ⊢
 have H := Hid.mk (And.intro hg0 hRC)
 clear hg0 hRC
 go_enter Tryz.func37, Tryz.ntmps37
 go_wp2_with fail
 obtain ⟨W0, hW0⟩ : ∃ W0, W0 = (w.alloc (.cells #[.int .i64 r, .int .i64 c, .slice ao RC cap] 66)).alloc (.cells #[.int .i64 0, .int .i64 0, .slice none 0 0, .int .i64 0, .int .i64 0, .slice none 0 0, .int .i64 0, .int .i64 0, .slice none 0 0, .int .i64 0] 74) := ⟨_, rfl⟩
 have hs0 : W0.heap.size = w.heap.size + 2 := by rw [hW0]; simp
 have hb0 : Below w.heap.size w W0 := by rw [hW0]; repeat (first | exact Below.refl _ _ | refine Below.alloc ?_ (by simp <;> omega) _)
 have hbA := (Below.refl w.heap.size w).alloc (Nat.le_refl _) (.cells #[.int .i64 r, .int .i64 c, .slice ao RC cap] 66)
 have hm0 : Trio W0 w.heap.size (.int .i64 r) (.int .i64 c) (.slice ao RC cap) := by
  rw [hW0]
  exact Trio.later (w := w.alloc (.cells #[.int .i64 r, .int .i64 c, .slice ao RC cap] 66)) ⟨new_cell _ _ _ _ _ rfl rfl, new_cell _ _ _ _ _ rfl rfl, new_cell _ _ _ _ _ rfl rfl⟩ ((Below.refl _ _).alloc (Nat.le_refl _) _)
 have hR0 : W0.heap[w.heap.size + 1]? = some (.cells #[.int .i64 0, .int .i64 0, .slice none 0 0, .int .i64 0, .int .i64 0, .slice none 0 0, .int .i64 0, .int .i64 0, .slice none 0 0, .int .i64 0] 74 (0, 0)) := by
  rw [hW0]
  have := heap_alloc_new (w.alloc (.cells #[.int .i64 r, .int .i64 c, .slice ao RC cap] 66)) (.cells #[.int .i64 0, .int .i64 0, .slice none 0 0, .int .i64 0, .int .i64 0, .slice none 0 0, .int .i64 0, .int .i64 0, .slice none 0 0, .int .i64 0] 74)
  simpa using this
 have K0 := Hid.mk (And.intro hb0 (And.intro hm0 (And.intro hR0 hW0)))
 rw [← hW0]
 clear hb0 hm0 hR0 hW0 hbA
 refine (fromCells_new r c _ zs L _ hr hc (by rw [← H.out.2]; exact H.out.1.below K0.out.1)).mono ?_
 rintro e w1 ⟨gH, rfl, hg1, hG1, hb1⟩
 rw [← H.out.2] at hG1 ⊢
 have hw1 : W0.heap.size ≤ w1.heap.size := hb1.size
 have hgl := hG1.ty.lt
 obtain ⟨q0, q1, q2⟩ := K0.out.2.1.later hb1
 have K1 := Hid.mk (And.intro hG1 hb1)
 clear hG1 hb1
 go_wp2_with fail
 obtain ⟨W1, hW1⟩ : ∃ W1, W1 = w1.alloc (.cells #[.int .i64 r, .int .i64 c, .slice (some ⟨gH, 0, none⟩) RC RC] 66) := ⟨_, rfl⟩
 have hs1 : W1.heap.size = w1.heap.size + 1 := by rw [hW1]; simp
 have hb11 : Below w1.heap.size w1 W1 := by rw [hW1]; exact (Below.refl _ _).alloc (Nat.le_refl _) _
 have hmS : Trio W1 w1.heap.size (.int .i64 r) (.int .i64 c) (.slice (some ⟨gH, 0, none⟩) RC RC) := by rw [hW1]; exact ⟨new_cell _ _ _ _ _ rfl rfl, new_cell _ _ _ _ _ rfl rfl, new_cell _ _ _ _ _ rfl rfl⟩
 rw [← hW1]
 have hbW1 := K1.out.2.trans (hb11.mono hw1)
 have hm1 := K0.out.2.1.later hbW1
 have hR1 : W1.heap[w.heap.size + 1]? = some (.cells #[.int .i64 0, .int .i64 0, .slice none 0 0, .int .i64 0, .int .i64 0, .slice none 0 0, .int .i64 0, .int .i64 0, .slice none 0 0, .int .i64 0] 74 (0, 0)) := (hbW1.block _ (by omega)).trans K0.out.2.2.1
 have K2 := Hid.mk (And.intro (K1.out.1.below hb11) (And.intro hbW1 (And.intro hm1 (And.intro hR1 hmS))))
 have HC := Hid.mk (show ∀ w', Below W1.heap.size W1 w' → w'.cell? ⟨w.heap.size, 0, none⟩ = some (.int .i64 r) ∧ w'.cell? ⟨w1.heap.size, 0, none⟩ = some (.int .i64 r) ∧ w'.cell? ⟨w1.heap.size, 1, none⟩ = some (.int .i64 c) ∧ w'.cell? ⟨w1.heap.size, 2, none⟩ = some (.slice (some ⟨gH, 0, none⟩) RC RC) from
  fun w' hb => ⟨(hm1.later hb).1, (hmS.later hb).1, (hmS.later hb).2.1, (hmS.later hb).2.2⟩)
 clear hW1 hb11 hmS hbW1 hm1 hR1 q0 q1 q2
 go_region_held3 (fun w' => w'.cell? ⟨w.heap.size, 0, none⟩ = some (.int .i64 r) ∧ w'.cell? ⟨w1.heap.size, 0, none⟩ = some (.int .i64 r) ∧ w'.cell? ⟨w1.heap.size, 1, none⟩ = some (.int .i64 c) ∧ w'.cell? ⟨w1.heap.size, 2, none⟩ = some (.slice (some ⟨gH, 0, none⟩) RC RC))
  (exact HC.out _ (by first | exact hbU2 | exact hbU2.alloc hbU2.size _ | exact hbU1 | exact (Below.refl _ _).drew))
  (first
    | (go_at_call 60; (have hbU0 := hbU1); refine (unit_any r _ hr).mono ?_; rintro e9 w3 ⟨gW, ws0, rfl, hgW, hGW, hkW, hb3⟩; have hbU2 : Below W1.heap.size W1 w3 := hbU0.trans (hb3.mono hbU0.size); have hGU3 := hGU.below hb3; have hgUl := hGU.ty.lt; clear hb3 hbU0 hGU)
    | (go_at_call 60; refine (unit_any r _ hr).mono ?_; rintro e9 w2 ⟨gU, us0, rfl, hgU, hGU, hkU, hb2⟩; have hbU1 : Below W1.heap.size W1 w2 := ((Below.refl _ _).drew).trans hb2; clear hb2))
 obtain ⟨W3, hW3⟩ : ∃ W3, W3 = w3.alloc (.cells #[.int .i64 r, .int .i64 c, .slice (some ⟨gH, 0, none⟩) RC RC, .int .i64 r, .int .i64 r, .slice (some ⟨gU, 0, none⟩) (r * r) (r * r), .int .i64 r, .int .i64 r, .slice (some ⟨gW, 0, none⟩) (r * r) (r * r), .int .i64 0] 74) := ⟨_, rfl⟩
 have hs3 : W3.heap.size = w3.heap.size + 1 := by rw [hW3]; simp
 have hb33 : Below w3.heap.size w3 W3 := by rw [hW3]; exact (Below.refl _ _).alloc (Nat.le_refl _) _
 have hcell : ∀ i v, (#[Value.int .i64 r, .int .i64 c, .slice (some ⟨gH, 0, none⟩) RC RC, .int .i64 r, .int .i64 r, .slice (some ⟨gU, 0, none⟩) (r * r) (r * r), .int .i64 r, .int .i64 r, .slice (some ⟨gW, 0, none⟩) (r * r) (r * r), .int .i64 0])[i]? = some v → W3.cell? ⟨w3.heap.size, i, none⟩ = some v := fun i v h => by rw [hW3]; exact new_cell _ _ _ _ _ rfl h
 have hw3s : W1.heap.size ≤ w3.heap.size := hbU2.size
 have hgU2 : W1.heap.size ≤ gU := hgU
 have hgWl := hGW.ty.lt
 have hw2s : w2.heap.size ≤ w3.heap.size := by omega
 have hbW3 : Below W1.heap.size W1 W3 := hbU2.trans (hb33.mono hw3s)
 have hL1 : 1 ≤ L := by have := uB_mono r β (Nat.zero_le c); rw [uB] at this; omega
 have hF : FormO W3 W0.heap.size w3.heap.size gH gU gW r c 0 zs us0 ws0 L := by
  have hRC := H.out.2
  have hGH := K2.out.1.below hbW3
  refine ⟨⟨hr, hc, ⟨hcell 0 _ rfl, hcell 1 _ rfl, ?_⟩, by rw [← hRC]; exact hGH⟩, ⟨hr, hr, ⟨hcell 3 _ rfl, hcell 4 _ rfl, hcell 5 _ rfl⟩, (hGU3.below hb33).mono hL1⟩, ⟨hr, hr, ⟨hcell 6 _ rfl, hcell 7 _ rfl, hcell 8 _ rfl⟩, (hGW.below hb33).mono hL1⟩, hcell 9 _ rfl, by rw [hW3]; exact World.frozen?_alloc_new _ _ _ _, by rw [hW3]; exact Ty.new _ _ _, by omega, by omega, by omega, by omega, by omega, by omega, by omega, by omega, by omega, by omega⟩
  rw [← hRC]; exact hcell 2 _ rfl
 have hbB : Below W0.heap.size W0 W3 := K2.out.2.1.trans (hbW3.mono (by omega))
 have K3 := Hid.mk (And.intro hF (And.intro hbB (And.intro hW3 (And.intro hkU hkW))))
 rw [← hW3]
 clear hF hbB hW3 hcell hb33 hbW3 hkU hkW hGW hGU3 hbU2 hbU1
 go_wp2_with fail
 have HH := Hid.mk (And.intro h1 (And.intro h2 hβ))
 clear h1 h2 hβ
 go_loopw [5] (fun i wr => ∃ (e t : Nat) (pc : Nat → Nat) (hs1 us1 ws1 : List Int), e ≤ c ∧ i = .int .i64 e ∧ Hid (FormO wr W0.heap.size w3.heap.size gH gU gW r c t hs1 us1 ws1 L ∧ Below W0.heap.size W0 wr ∧ EchSt r e t pc (ent c hs1) ∧ EInv (ent c zs) (ent c hs1) (ent r us1) (ent r ws1) r c ∧ EB (ent c hs1) (ent r us1) (ent r ws1) r c t β ∧ EcTo r c (ent c zs) e t (e3 r c hs1 us1 ws1))) (fun i _ => c - (intOf i).toNat)
 case atStart =>
  obtain ⟨a1, a2, a3, a4, a5⟩ := K3.out
  refine ⟨0, 0, id, zs, us0, ws0, Nat.zero_le _, rfl, Hid.mk ⟨a1, a2, EchSt.start _ _ _, (EInv.start (ent c zs) r c).congr (fun _ _ _ _ => rfl) (fun _ _ _ _ => rfl) a4 a5, ⟨fun i j _ b d => HH.out.2.2 i j b d, HH.out.2.2, fun i j a b => ?_, fun i j a b => ?_⟩, .start _ ⟨fun _ _ _ _ => rfl, fun i j a b => (a4 i j a b).symm, fun i j a b => (a5 i j a b).symm⟩⟩⟩
  ·rw [a4 i j a b, uB]; unfold kd; split <;> decide
  ·rw [a5 i j a b, uB]; unfold kd; split <;> decide
 case round =>
  obtain ⟨e, t, pc, hs1, us1, ws1, he, rfl, HI⟩ := hrel
  obtain ⟨q0, q1, q2⟩ := K0.out.2.1
  have hbr := HI.out.2.1
  have q1' := (show wr.cell? ⟨w.heap.size, 1, none⟩ = some (.int .i64 c) from by rw [hbr.cell (p := ⟨w.heap.size, 1, none⟩) (by show w.heap.size < W0.heap.size; omega)]; exact q1)
  clear q0 q1 q2 hbr
  by_cases hec : e < c
  ·have hei : (e : Int) < (c : Int) := by omega
   have HG : Hid (GaBd (ent c hs1) (ent r us1) (ent r ws1) r c t e L (2 ^ bB r β t - 1) (2 ^ bB r β t - 1) (2 ^ uB r β t - 1) (2 ^ uB r β t - 1) (2 ^ bB r β (t + 1) - 1) (2 ^ uA r β (uB r β t) t - 1) (2 ^ uA r β (uB r β t) t - 1)) := Hid.mk (by
    obtain ⟨g1, g2, g3, g4, g5⟩ := HI.out.2.2.2.2.1.gaBd hec
    have hte := HI.out.2.2.1.te
    have e1 := hB_mono r β (show t + 1 ≤ c by omega)
    have e2 := uB_mono r β (show t + 1 ≤ c by omega)
    have e3 := bB_le r β (t + 1)
    have e4 : uA r β (uB r β t) t ≤ uB r β (t + 1) := by rw [uB]; omega
    have hh1 := HH.out.1
    have hh2 := HH.out.2.1
    have p1 : 2 ^ bB r β (t + 1) ≤ 4294967296 ^ L := by rw [pow32]; exact Nat.pow_le_pow_right (by decide) (by omega)
    have p2 : 2 ^ uA r β (uB r β t) t ≤ 4294967296 ^ L := by rw [pow32]; exact Nat.pow_le_pow_right (by decide) (by omega)
    have p3 : 0 < 2 ^ bB r β (t + 1) := Nat.pow_pos (by decide)
    have p4 : 0 < 2 ^ uA r β (uB r β t) t := Nat.pow_pos (by decide)
    exact ⟨g1, g2, g3, g4, g4, fun h => ⟨(g5 h).1, (g5 h).2, (g5 h).2⟩, by omega, by omega, by omega⟩)
   go_wp2_with fail
   refine (gather_any W0.heap.size w3.heap.size gH gU gW r c t e hs1 us1 ws1 (ent c zs) L _ _ _ _ _ _ _ _ HI.out.1 hr8 HI.out.2.2.1.le hec hL HG.out HI.out.2.2.2.1).mono ?_
   rintro e9 w4 ⟨rfl, hb4, ho⟩
   have K4 := Hid.mk (And.intro hb4 ho)
   clear hb4 ho
   go_wp2_with fail
   go_roundw
   case measure => simp [intOf]; omega
   case rel =>
    obtain ⟨i1, i2, i3, i4, i5, i6⟩ := HI.out
    rcases K4.out.2 with ⟨z1, z2⟩ | ⟨htr, hs2, us2, ws2, z2, z3, z4, z5⟩
    ·exact ⟨e + 1, t, pc, hs1, us1, ws1, by omega, by go_num, Hid.mk ⟨z2, i2.trans K4.out.1, i3.skip z1, i4, i5, .step _ _ _ _ _ i6 (.inl ⟨z1, rfl, F3.Eq.refl _ _ _⟩)⟩⟩
    ·have hE := i5.next htr hec z4
     have hte := i3.te
     have e1 := hB_mono r β (show t + 1 ≤ c by omega)
     have e2 := uB_mono r β (show t + 1 ≤ c by omega)
     have hh1 := HH.out.1
     have hh2 := HH.out.2.1
     have p1 : 2 ^ hB r β (t + 1) ≤ 4294967296 ^ L := by rw [pow32]; exact Nat.pow_le_pow_right (by decide) (by omega)
     have p2 : 2 ^ uB r β (t + 1) ≤ 4294967296 ^ L := by rw [pow32]; exact Nat.pow_le_pow_right (by decide) (by omega)
     exact ⟨e + 1, t + 1, _, hs2, us2, ws2, by omega, by go_num, Hid.mk ⟨z2.fit (fun i j a b => Nat.lt_of_lt_of_le (hE.h i j a b) p1) (fun i j a b => Nat.lt_of_lt_of_le (hE.u i j a b) p2) (fun i j a b => Nat.lt_of_lt_of_le (hE.w i j a b) p2), i2.trans K4.out.1, i3.pivot htr hec z4, z3, hE, .step _ _ _ _ _ i6 z5⟩⟩
  ·have hei : ¬ (e : Int) < (c : Int) := by omega
   have hee : e = c := by omega
   have HEE := Hid.mk hee
   clear hee
   obtain ⟨a0, a1, a2⟩ := HI.out.1.H.tri
   obtain ⟨a3, a4, a5⟩ := HI.out.1.U.tri
   obtain ⟨a6, a7, a8⟩ := HI.out.1.W.tri
   have a9 := HI.out.1.rk
   have hR : wr.heap[w.heap.size + 1]? = some (.cells #[.int .i64 0, .int .i64 0, .slice none 0 0, .int .i64 0, .int .i64 0, .slice none 0 0, .int .i64 0, .int .i64 0, .slice none 0 0, .int .i64 0] 74 (0, 0)) := (HI.out.2.1.block _ (by omega)).trans K0.out.2.2.1
   have HR := Hid.mk hR
   have b0 : ∀ i v, (#[Value.int .i64 0, .int .i64 0, .slice none 0 0, .int .i64 0, .int .i64 0, .slice none 0 0, .int .i64 0, .int .i64 0, .slice none 0 0, .int .i64 0])[i]? = some v → wr.cell? ⟨w.heap.size + 1, i, none⟩ = some v := fun i v h => by simpa [World.cell?, hR] using h
   have f0 : ∀ o, wr.frozen? ⟨w.heap.size + 1, o, none⟩ = false := fun o => by simp [World.frozen?, hR]
   clear hR
   have y0 := b0 0 _ rfl
   have y1 := b0 1 _ rfl
   have y2 := b0 2 _ rfl
   have y3 := b0 3 _ rfl
   have y4 := b0 4 _ rfl
   have y5 := b0 5 _ rfl
   have y6 := b0 6 _ rfl
   have y7 := b0 7 _ rfl
   have y8 := b0 8 _ rfl
   have y9 := b0 9 _ rfl
   clear b0
   go_wp2_with fail
   refine bodyPost_ret (v := .agg #[.int .i64 r, .int .i64 c, .slice (some ⟨gH, 0, none⟩) (r * c) (r * c), .int .i64 r, .int .i64 r, .slice (some ⟨gU, 0, none⟩) (r * r) (r * r), .int .i64 r, .int .i64 r, .slice (some ⟨gW, 0, none⟩) (r * r) (r * r), .int .i64 t]) ?_ rfl ?_
   ·(simp [results, Tryz.results37, go_sem, y0, y1, y2, y3, y4, y5, y6, y7, y8, y9]; done)
   ·have hTy : Ty wr (w.heap.size + 1) 74 := ⟨_, _, HR.out⟩
    obtain ⟨i1, i2, i3, i4, i5, i6⟩ := HI.out
    have key : ∀ W, KU wr W → wr.grownBy W (some (w.heap.size + 1)) → EchOut w W (.returned (.agg #[.int .i64 r, .int .i64 c, .slice (some ⟨gH, 0, none⟩) (r * c) (r * c), .int .i64 r, .int .i64 r, .slice (some ⟨gU, 0, none⟩) (r * r) (r * r), .int .i64 r, .int .i64 r, .slice (some ⟨gW, 0, none⟩) (r * r) (r * r), .int .i64 t])) r c zs β L := by
     intro W hk hg
     have hne : ∀ g, W0.heap.size ≤ g → ∀ (n m : Nat) (a : Addr) (m' c' : Nat), Value.slice (some ⟨g, 0, none⟩) n m = .slice (some a) m' c' → a.block ≠ w.heap.size + 1 := fun g h n m a m' c' e => by
      simp only [Value.slice.injEq, Option.some.injEq] at e
      obtain ⟨rfl, -, -⟩ := e
      show g ≠ w.heap.size + 1
      omega
     refine ⟨_, t, pc, hs1, us1, ws1, rfl, ⟨_, _, _, rfl, ⟨hr, hc, _, rfl, i1.H.grid.grown hg (hne gH i1.b1 _ _) hk⟩, ⟨hr, hr, _, rfl, i1.U.grid.grown hg (hne gU i1.b2 _ _) hk⟩, ⟨hr, hr, _, rfl, i1.W.grid.grown hg (hne gW i1.b3 _ _) hk⟩⟩, ?_, i4, i5, ?_, by rw [← HEE.out]; exact HEE.out ▸ i6⟩
     ·have := HEE.out
      rw [this] at i3
      exact i3
     ·have hb := (K0.out.1.trans (i2.mono (by omega)))
      exact hb.trans (below_of_grown hg (by omega) (by have := i2.size; omega))
    have h10 := set10 wr (w.heap.size + 1) hTy (by decide) (.int .i64 r) (.int .i64 c) (.slice (some ⟨gH, 0, none⟩) (r * c) (r * c)) (.int .i64 r) (.int .i64 r) (.slice (some ⟨gU, 0, none⟩) (r * r) (r * r)) (.int .i64 r) (.int .i64 r) (.slice (some ⟨gW, 0, none⟩) (r * r) (r * r)) (.int .i64 t)
    exact key _ h10.1 h10.2
end Go.Proofs.YtfjbijpagaipnabGreatDoor
namespace Go.Proofs.YtfjbijpagaipnabGreatDoor.R
open Go.RowKit
open Go.RowKit
open Go.RowKit
open Go.RowKit
open Go.RowKit
open Go.RowKit
open Go.RowKit
open Go.RowKit
def dval (l : List UInt8) : Nat := l.foldl (fun a c => 10 * a + (c.toNat - 48)) 0
def IsDig (c : UInt8) : Prop := 48 ≤ c.toNat ∧ c.toNat ≤ 57
theorem dval_snoc (l : List UInt8) (c : UInt8) : dval (l ++ [c]) = 10 * dval l + (c.toNat - 48) := by simp [dval]
theorem dval_dec (u : Nat) : dval (Lib.decDigits u) = u ∧ ∀ c ∈ Lib.decDigits u, IsDig c := by
 induction u using Nat.strongRecOn with
 | ind u ih =>
   have dn : ∀ d, d < 10 → (UInt8.ofNat (48 + d)).toNat = 48 + d := fun d h => by rw [UInt8.toNat_ofNat', Nat.mod_eq_of_lt (by omega)]
   by_cases h : u < 10
   ·rw [Lib.decDigits_one h]
    refine ⟨?_, fun c hc => ?_⟩
    ·unfold dval
     simp only [List.foldl_cons, List.foldl_nil]
     rw [dn u h]; omega
    ·rw [List.mem_singleton] at hc
     unfold IsDig
     rw [hc, dn u h]; omega
   ·obtain ⟨h1, h2⟩ := ih (u / 10) (by omega)
    rw [decDigits_big h]
    refine ⟨?_, fun c hc => ?_⟩
    ·rw [dval_snoc, h1, dn _ (by omega)]; omega
    ·rcases List.mem_append.1 hc with hc | hc
     ·exact h2 c hc
     ·rw [List.mem_singleton] at hc
      unfold IsDig
      rw [hc, dn _ (by omega)]; omega
open Go.RowKit
open Go.RowKit
open Go.RowKit
open Go.RowKit
open Go.RowKit
open Go.RowKit
open Go.RowKit
open Go.RowKit
open Go.RowKit
def minorF (f : Nat → Nat → Int) : List Nat → List Nat → Int
 | [], _ => 1
 | r :: rs, cols => sumF cols.length fun k => signed k (f r (cols.getD k 0) * minorF f rs (cols.eraseIdx k))
theorem getD_erase (xs : List Nat) (k j : Nat) : (xs.eraseIdx k).getD j 0 = xs.getD (skip k j) 0 := by
 unfold skip
 rw [List.getD, List.getElem?_eraseIdx]
 split <;> rfl
theorem sumF_congr {n : Nat} {g h : Nat → Int} (he : ∀ k, k < n → g k = h k) : sumF n g = sumF n h := by
 induction n with
 | zero => rfl
 | succ n ih => rw [sumF, sumF, ih (fun k hk => he k (by omega)), he n (by omega)]
theorem detF_congr {n : Nat} {f g : Nat → Nat → Int} (he : ∀ i j, f i j = g i j) : detF n f = detF n g := by
 have : f = g := by funext i j; exact he i j
 rw [this]
theorem minor_det (f : Nat → Nat → Int) : ∀ (rows cols : List Nat), cols.length = rows.length → minorF f rows cols = detF rows.length (fun i j => f (rows.getD i 0) (cols.getD j 0)) := by
 intro rows
 induction rows with
 | nil => intro cols _; rfl
 | cons r rs ih =>
   intro cols hl
   rw [minorF, List.length_cons, detF, hl, List.length_cons]
   refine sumF_congr (fun k hk => ?_)
   rw [ih (cols.eraseIdx k) (by rw [List.length_eraseIdx, if_pos (by simp at hl; omega)]; simp at hl; omega)]
   congr 2
   exact detF_congr (fun i j => by rw [getD_erase]; rfl)
open Go.RowKit
theorem range_getD (n i : Nat) (h : i < n) : (List.range n).getD i 0 = i := by simp [List.getD, h]
theorem detF_ext : ∀ (n : Nat) (f g : Nat → Nat → Int), (∀ i j, i < n → j < n → f i j = g i j) → detF n f = detF n g := by
 intro n
 induction n with
 | zero => intro f g _; rfl
 | succ n ih =>
   intro f g he
   rw [detF, detF]
   refine sumF_congr (fun k hk => ?_)
   rw [he 0 k (by omega) hk, ih (fun i j => f (i + 1) (skip k j)) (fun i j => g (i + 1) (skip k j)) (fun i j hi hj => he _ _ (by omega) (by unfold skip; split <;> omega))]
theorem minor_range (f : Nat → Nat → Int) (n : Nat) : minorF f (List.range n) (List.range n) = detF n f := by
 rw [minor_det f _ _ rfl, List.length_range]
 exact detF_ext n _ _ (fun i j hi hj => by rw [range_getD n i hi, range_getD n j hj])
open Go.RowKit
def chosenL : Nat → Nat → List (List Nat)
 | 0, _ => [[]]
 | k + 1, n => ((List.range n).drop k).flatMap fun last => (chosenL k last).map (· ++ [last])
theorem chosenL_mem (k : Nat) : ∀ n, ∀ l ∈ chosenL k n, l.length = k ∧ ∀ x ∈ l, x < n := by
 induction k with
 | zero => intro n l hl; simp [chosenL] at hl; subst hl; simp
 | succ k ih =>
   intro n l hl
   rw [chosenL, List.mem_flatMap] at hl
   obtain ⟨last, hlast, hl⟩ := hl
   obtain ⟨l', hl', rfl⟩ := List.mem_map.1 hl
   have h1 := List.mem_range.1 (List.mem_of_mem_drop hlast)
   obtain ⟨h2, h3⟩ := ih last l' hl'
   refine ⟨by simp [h2], fun x hx => ?_⟩
   rcases List.mem_append.1 hx with hx | hx
   ·have := h3 x hx; omega
   ·simp at hx; omega
open Go.RowKit
open Go.RowKit
open Go.RowKit
open Go.RowKit
def gR (f : Nat → Nat → Int) (rs : List Nat) (css : List (List Nat)) (a : Nat) : Nat := css.foldl (fun a cs => Nat.gcd a (minorF f rs cs).natAbs) a
def gA (f : Nat → Nat → Int) (rss css : List (List Nat)) (a : Nat) : Nat := rss.foldl (fun a rs => gR f rs css a) a
theorem gR_zero (f : Nat → Nat → Int) (rs : List Nat) : ∀ (css : List (List Nat)) (a : Nat), gR f rs css a = 0 ↔ a = 0 ∧ ∀ cs ∈ css, minorF f rs cs = 0 := by
 intro css
 induction css with
 | nil => intro a; simp [gR]
 | cons c t ih =>
   intro a
   have : gR f rs (c :: t) a = gR f rs t (Nat.gcd a (minorF f rs c).natAbs) := rfl
   rw [this, ih, Nat.gcd_eq_zero_iff]
   simp only [List.mem_cons, forall_eq_or_imp, Int.natAbs_eq_zero]
   constructor
   ·rintro ⟨⟨h1, h2⟩, h3⟩; exact ⟨h1, h2, h3⟩
   ·rintro ⟨h1, h2, h3⟩; exact ⟨⟨h1, h2⟩, h3⟩
theorem gA_zero (f : Nat → Nat → Int) (css : List (List Nat)) : ∀ (rss : List (List Nat)) (a : Nat), gA f rss css a = 0 ↔ a = 0 ∧ ∀ rs ∈ rss, ∀ cs ∈ css, minorF f rs cs = 0 := by
 intro rss
 induction rss with
 | nil => intro a; simp [gA]
 | cons r t ih =>
   intro a
   have : gA f (r :: t) css a = gA f t css (gR f r css a) := rfl
   rw [this, ih, gR_zero]
   simp only [List.mem_cons, forall_eq_or_imp]
   constructor
   ·rintro ⟨⟨h1, h2⟩, h3⟩; exact ⟨h1, h2, h3⟩
   ·rintro ⟨h1, h2, h3⟩; exact ⟨⟨h1, h2⟩, h3⟩
def divF (f : Nat → Nat → Int) (r c k : Nat) : Nat := gA f (chosenL k r) (chosenL k c) 0
open Go.RowKit
def RankIs (f : Nat → Nat → Int) (r c k : Nat) : Prop := k ≤ r ∧ k ≤ c ∧ (∀ i, i < k → divF f r c (i + 1) ≠ 0) ∧ (k = r ∨ k = c ∨ divF f r c (k + 1) = 0)
def mv : List (Nat → Int) → List Nat → Int
 | [], _ => 1
 | v :: vs, cols => sumF cols.length fun k => signed k (v (cols.getD k 0) * mv vs (cols.eraseIdx k))
theorem mv_minor (f : Nat → Nat → Int) : ∀ (R C : List Nat), minorF f R C = mv (R.map f) C := by
 intro R
 induction R with
 | nil => intro C; rfl
 | cons r rs ih => intro C; rw [minorF, List.map_cons, mv]; exact sumF_congr (fun k _ => by rw [ih])
theorem sumF_lin (n : Nat) (a b : Int) (g h : Nat → Int) : sumF n (fun k => a * g k + b * h k) = a * sumF n g + b * sumF n h := by
 induction n with
 | zero => simp [sumF]
 | succ n ih => rw [sumF, sumF, sumF, ih]; grind
theorem signed_lin (k : Nat) (a b x y : Int) : signed k (a * x + b * y) = a * signed k x + b * signed k y := by
 unfold signed; split <;> grind
theorem mv_lin (a b : Int) (u v : Nat → Int) (ys : List (Nat → Int)) : ∀ (xs : List (Nat → Int)) (C : List Nat), mv (xs ++ (fun j => a * u j + b * v j) :: ys) C = a * mv (xs ++ u :: ys) C + b * mv (xs ++ v :: ys) C := by
 intro xs
 induction xs with
 | nil =>
   intro C
   rw [List.nil_append, List.nil_append, List.nil_append, mv, mv, mv, ← sumF_lin]
   refine sumF_congr (fun k _ => ?_)
   rw [← signed_lin]
   congr 1
   grind
 | cons x xs ih =>
   intro C
   rw [List.cons_append, List.cons_append, List.cons_append, mv, mv, mv, ← sumF_lin]
   refine sumF_congr (fun k _ => ?_)
   rw [ih, ← signed_lin]
   congr 1
   grind
theorem sumF_zero (n : Nat) (g : Nat → Int) (h : ∀ k, k < n → g k = 0) : sumF n g = 0 := by
 induction n with
 | zero => rfl
 | succ n ih => rw [sumF, ih (fun k hk => h k (by omega)), h n (by omega)]; rfl
theorem mv_zero_row (u : Nat → Int) (ys : List (Nat → Int)) : ∀ (xs : List (Nat → Int)) (C : List Nat), (∀ x ∈ C, u x = 0) → xs.length < C.length → mv (xs ++ u :: ys) C = 0 := by
 intro xs
 induction xs with
 | nil =>
   intro C hC _
   rw [List.nil_append, mv]
   refine sumF_zero _ _ (fun k hk => ?_)
   rw [hC (C.getD k 0) (by rw [List.getD, List.getElem?_eq_getElem hk]; exact List.getElem_mem _)]
   unfold signed; split <;> simp
 | cons x xs ih =>
   intro C hC hl
   rw [List.cons_append, mv]
   refine sumF_zero _ _ (fun k hk => ?_)
   rw [ih (C.eraseIdx k) (fun y hy => hC y (List.mem_of_mem_eraseIdx hy)) (by rw [List.length_eraseIdx, if_pos hk]; simp at hl; omega)]
   unfold signed; split <;> simp
theorem mv_zero_col (c0 : Nat) : ∀ (vs : List (Nat → Int)) (C : List Nat), (∀ v ∈ vs, v c0 = 0) → c0 ∈ C → C.length = vs.length → mv vs C = 0 := by
 intro vs
 induction vs with
 | nil => intro C _ hc hl; have : C = [] := List.eq_nil_of_length_eq_zero hl; subst this; cases hc
 | cons v vs ih =>
   intro C hv hc hl
   rw [mv]
   refine sumF_zero _ _ (fun k hk => ?_)
   by_cases hck : C.getD k 0 = c0
   ·rw [hck, hv v (by simp)]
    unfold signed; split <;> simp
   ·rw [ih (C.eraseIdx k) (fun w hw => hv w (List.mem_cons_of_mem _ hw)) ?_ (by rw [List.length_eraseIdx, if_pos hk]; simp at hl; omega)]
    ·unfold signed; split <;> simp
    ·rw [List.mem_eraseIdx_iff_getElem?]
     obtain ⟨i, hi, he⟩ := List.mem_iff_getElem.1 hc
     refine ⟨i, fun e => hck ?_, by rw [List.getElem?_eq_getElem hi, he]⟩
     subst e
     rw [List.getD, List.getElem?_eq_getElem hi]
     exact he
theorem mv_congr : ∀ (us vs : List (Nat → Int)) (C : List Nat), us.length = vs.length → (∀ i, i < us.length → ∀ x ∈ C, (us.getD i (fun _ => 0)) x = (vs.getD i (fun _ => 0)) x) → mv us C = mv vs C := by
 intro us
 induction us with
 | nil => intro vs C hl _; have : vs = [] := List.eq_nil_of_length_eq_zero hl.symm; subst this; rfl
 | cons u us ih =>
   intro vs C hl h
   match vs, hl with
   | v :: vs, hl =>
     rw [mv, mv]
     refine sumF_congr (fun k hk => ?_)
     have h0 := h 0 (by simp) (C.getD k 0) (by rw [List.getD, List.getElem?_eq_getElem hk]; exact List.getElem_mem _)
     have h1 : u (C.getD k 0) = v (C.getD k 0) := by simpa using h0
     rw [h1, ih vs (C.eraseIdx k) (by simpa using hl) (fun i hi x hx => by
      have := h (i + 1) (by simpa using hi) x (List.mem_of_mem_eraseIdx hx)
      simpa using this)]
theorem mv_swap0 (u v : Nat → Int) : ∀ (ys : List (Nat → Int)) (C : List Nat), ys.length ≤ 2 → C.length = ys.length + 2 → mv (u :: v :: ys) C = -mv (v :: u :: ys) C := by
 intro ys C hl hC
 match ys, hl with
 | [], _ =>
   match C, hC with
   | [a, b], _ => simp [mv, sumF, signed]; grind
 | [y], _ =>
   match C, hC with
   | [a, b, c], _ => simp [mv, sumF, signed]; grind
 | [y, z], _ =>
   match C, hC with
   | [a, b, c, d], _ => simp [mv, sumF, signed]; grind
theorem sumF_neg (n : Nat) (g : Nat → Int) : sumF n (fun k => -g k) = -sumF n g := by
 induction n with
 | zero => rfl
 | succ n ih => rw [sumF, sumF, ih]; grind
theorem mv_swap (u v : Nat → Int) (ys : List (Nat → Int)) : ∀ (xs : List (Nat → Int)) (C : List Nat), C.length = xs.length + ys.length + 2 → ys.length ≤ 2 → mv (xs ++ u :: v :: ys) C = -mv (xs ++ v :: u :: ys) C := by
 intro xs
 induction xs with
 | nil => intro C hC hl; exact mv_swap0 u v ys C hl (by simpa using hC)
 | cons x xs ih =>
   intro C hC hl
   rw [List.cons_append, List.cons_append, mv, mv, ← sumF_neg]
   refine sumF_congr (fun k hk => ?_)
   rw [ih (C.eraseIdx k) (by rw [List.length_eraseIdx, if_pos hk]; simp at hC; omega) hl]
   unfold signed; split <;> grind
theorem mv_move (d : Int) (u : Nat → Int) (zs : List (Nat → Int)) : ∀ (ys xs : List (Nat → Int)) (C : List Nat), C.length = xs.length + ys.length + zs.length + 1 → C.length ≤ 4 → (d ∣ mv (xs ++ u :: ys ++ zs) C ↔ d ∣ mv (xs ++ ys ++ u :: zs) C) := by
 intro ys
 induction ys with
 | nil => intro xs C _ _; simp
 | cons y ys ih =>
   intro xs C hC h4
   have h1 : mv (xs ++ u :: (y :: ys) ++ zs) C = -mv ((xs ++ [y]) ++ u :: ys ++ zs) C := by
    have := mv_swap u y (ys ++ zs) xs C (by simp at hC ⊢; omega) (by simp at hC ⊢; omega)
    simpa using this
   have h2 := ih (xs ++ [y]) C (by simp at hC ⊢; omega) h4
   rw [h1, Int.dvd_neg, h2]
   simp
theorem mv_same (u : Nat → Int) (xs ys zs : List (Nat → Int)) (C : List Nat) (hC : C.length = xs.length + ys.length + zs.length + 2) (h4 : C.length ≤ 4) : mv (xs ++ u :: ys ++ u :: zs) C = 0 := by
 have h1 := mv_move 0 u (u :: zs) ys xs C (by simp; omega) h4
 rw [Int.zero_dvd, Int.zero_dvd] at h1
 rw [h1]
 have h2 := mv_swap u u zs (xs ++ ys) C (by simp; omega) (by omega)
 omega
end Go.Proofs.YtfjbijpagaipnabGreatDoor.R
