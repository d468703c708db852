import Derived.Test.YtfjbijpagaipnaaDoorC19
import Derived.Test.YtfjbijpagaipnaaDoorC13
import Derived.Deep.QuietTactic
import Derived.BigQuiet
import Derived.Test.YtfjbijpagaipnaaDoorC06
import Derived.Lib.ItoaLen
import Derived.Deep.RegionLaw
import Derived.Deep.CutRange
import Derived.Test.YtfjbijpagaipnaaDoorC11
import Derived.Deep.RegionHeld3
import Derived.Test.YtfjbijpagaipnaaDoorC12
import Derived.Deep.LoopGhost
import Derived.BigRegion
import Derived.Test.YtfjbijpagaipnaaDoorC16
import Derived.Test.YtfjbijpagaipnaaDoorC09
namespace Go.Proofs.YtfjbijpagaipnaaDoor
open Go.RowKit
theorem set10 (w : World) (b : Nat) {t : TypeId} (ht : Ty w b t) (hne : t ≠ 117) (v0 v1 v2 v3 v4 v5 v6 v7 v8 v9 : Value) : KU w ((((((((((w.setCell ⟨b, 0, none⟩ v0).setCell ⟨b, 1, none⟩ v1).setCell ⟨b, 2, none⟩ v2).setCell ⟨b, 3, none⟩ v3).setCell ⟨b, 4, none⟩ v4).setCell ⟨b, 5, none⟩ v5).setCell ⟨b, 6, none⟩ v6).setCell ⟨b, 7, none⟩ v7).setCell ⟨b, 8, none⟩ v8).setCell ⟨b, 9, none⟩ v9) ∧ w.grownBy ((((((((((w.setCell ⟨b, 0, none⟩ v0).setCell ⟨b, 1, none⟩ v1).setCell ⟨b, 2, none⟩ v2).setCell ⟨b, 3, none⟩ v3).setCell ⟨b, 4, none⟩ v4).setCell ⟨b, 5, none⟩ v5).setCell ⟨b, 6, none⟩ v6).setCell ⟨b, 7, none⟩ v7).setCell ⟨b, 8, none⟩ v8).setCell ⟨b, 9, none⟩ v9) (some b) := by
 have k0 := KU.setCell (o := 0) (KU.refl w) ht hne v0
 have t0 := ht.setCell ⟨b, 0, none⟩ v0
 have g0 := grown_trans (World.grownBy.refl w (some b)) (grown_cell _ b 0 v0)
 have k1 := KU.setCell (o := 1) k0 t0 hne v1
 have t1 := t0.setCell ⟨b, 1, none⟩ v1
 have g1 := grown_trans g0 (grown_cell _ b 1 v1)
 have k2 := KU.setCell (o := 2) k1 t1 hne v2
 have t2 := t1.setCell ⟨b, 2, none⟩ v2
 have g2 := grown_trans g1 (grown_cell _ b 2 v2)
 have k3 := KU.setCell (o := 3) k2 t2 hne v3
 have t3 := t2.setCell ⟨b, 3, none⟩ v3
 have g3 := grown_trans g2 (grown_cell _ b 3 v3)
 have k4 := KU.setCell (o := 4) k3 t3 hne v4
 have t4 := t3.setCell ⟨b, 4, none⟩ v4
 have g4 := grown_trans g3 (grown_cell _ b 4 v4)
 have k5 := KU.setCell (o := 5) k4 t4 hne v5
 have t5 := t4.setCell ⟨b, 5, none⟩ v5
 have g5 := grown_trans g4 (grown_cell _ b 5 v5)
 have k6 := KU.setCell (o := 6) k5 t5 hne v6
 have t6 := t5.setCell ⟨b, 6, none⟩ v6
 have g6 := grown_trans g5 (grown_cell _ b 6 v6)
 have k7 := KU.setCell (o := 7) k6 t6 hne v7
 have t7 := t6.setCell ⟨b, 7, none⟩ v7
 have g7 := grown_trans g6 (grown_cell _ b 7 v7)
 have k8 := KU.setCell (o := 8) k7 t7 hne v8
 have t8 := t7.setCell ⟨b, 8, none⟩ v8
 have g8 := grown_trans g7 (grown_cell _ b 8 v8)
 have k9 := KU.setCell (o := 9) k8 t8 hne v9
 have g9 := grown_trans g8 (grown_cell _ b 9 v9)
 exact ⟨k9, g9⟩
def IsF (w : World) (v : Value) (r c k : Nat) (hs us ws : List Int) (L : Nat) : Prop := ∃ sH sU sW : Value, v = .agg #[.int .i64 r, .int .i64 c, sH, .int .i64 r, .int .i64 r, sU, .int .i64 r, .int .i64 r, sW, .int .i64 k] ∧ IsM w (.agg #[.int .i64 r, .int .i64 c, sH]) r c hs L ∧ IsM w (.agg #[.int .i64 r, .int .i64 r, sU]) r r us L ∧ IsM w (.agg #[.int .i64 r, .int .i64 r, sW]) r r ws L
def EchOut (w w' : World) (e : Ending) (r c : Nat) (zs : List Int) (β L : Nat) : Prop := ∃ (v : Value) (k : Nat) (pc : Nat → Nat) (hs us ws : List Int), e = .returned v ∧ IsF w' v r c k hs us ws L ∧ EchSt r c k pc (ent c hs) ∧ EInv (ent c zs) (ent c hs) (ent r us) (ent r ws) r c ∧ EB (ent c hs) (ent r us) (ent r ws) r c k β ∧ Below w.heap.size w w' ∧ EcTo r c (ent c zs) c k (e3 r c hs us ws)
set_option maxRecDepth 100000 in
set_option maxHeartbeats 4000000 in
theorem gech_any (v : Value) (r c : Nat) (zs : List Int) (β L : Nat) (w : World) (hm : IsM w v r c zs L) (hr8 : r ≤ 8) (hc8 : c ≤ 8) (hβ : ∀ i j, i < r → j < c → (ent c zs i j).natAbs < 2 ^ β) (hL : L ≤ 60000000) (h1 : hB r β c ≤ 32 * L) (h2 : uB r β c ≤ 32 * L) :
 Calls Tryd.prog 35 #[v] w fun e w' => EchOut w w' e r c zs β L := by
 have HM := Hid.mk hm
 obtain ⟨hr, hc, sl, rfl, hg0⟩ := hm
 obtain ⟨ao, cap, rfl, -⟩ := hg0.shape
 obtain ⟨RC, hRC⟩ : ∃ RC, RC = r * c := ⟨_, rfl⟩
 rw [← hRC] at hg0
 rw [← hRC] at HM ⊢
 have H := Hid.mk (And.intro hg0 hRC)
 clear hg0 hRC
 go_enter Tryd.func35, Tryd.ntmps35
 go_wp2_with fail
 obtain ⟨W0, hW0⟩ : ∃ W0, W0 = (w.alloc (.cells #[.int .i64 r, .int .i64 c, .slice ao RC cap] 63)).alloc (.cells #[.int .i64 0, .int .i64 0, .slice none 0 0, .int .i64 0, .int .i64 0, .slice none 0 0, .int .i64 0, .int .i64 0, .slice none 0 0, .int .i64 0] 71) := ⟨_, rfl⟩
 have hs0 : W0.heap.size = w.heap.size + 2 := by rw [hW0]; simp
 have hb0 : Below w.heap.size w W0 := by rw [hW0]; repeat (first | exact Below.refl _ _ | refine Below.alloc ?_ (by simp <;> omega) _)
 have hbA := (Below.refl w.heap.size w).alloc (Nat.le_refl _) (.cells #[.int .i64 r, .int .i64 c, .slice ao RC cap] 63)
 have hm0 : Trio W0 w.heap.size (.int .i64 r) (.int .i64 c) (.slice ao RC cap) := by
  rw [hW0]
  exact Trio.later (w := w.alloc (.cells #[.int .i64 r, .int .i64 c, .slice ao RC cap] 63)) ⟨new_cell _ _ _ _ _ rfl rfl, new_cell _ _ _ _ _ rfl rfl, new_cell _ _ _ _ _ rfl rfl⟩ ((Below.refl _ _).alloc (Nat.le_refl _) _)
 have hR0 : W0.heap[w.heap.size + 1]? = some (.cells #[.int .i64 0, .int .i64 0, .slice none 0 0, .int .i64 0, .int .i64 0, .slice none 0 0, .int .i64 0, .int .i64 0, .slice none 0 0, .int .i64 0] 71 (0, 0)) := by
  rw [hW0]
  have := heap_alloc_new (w.alloc (.cells #[.int .i64 r, .int .i64 c, .slice ao RC cap] 63)) (.cells #[.int .i64 0, .int .i64 0, .slice none 0 0, .int .i64 0, .int .i64 0, .slice none 0 0, .int .i64 0, .int .i64 0, .slice none 0 0, .int .i64 0] 71)
  simpa using this
 have K0 := Hid.mk (And.intro hb0 (And.intro hm0 (And.intro hR0 hW0)))
 rw [← hW0]
 clear hb0 hm0 hR0 hW0 hbA
 refine (fromCells_new r c _ zs L _ hr hc (by rw [← H.out.2]; exact H.out.1.below K0.out.1)).mono ?_
 rintro e w1 ⟨gH, rfl, hg1, hG1, hb1⟩
 rw [← H.out.2] at hG1 ⊢
 have hw1 : W0.heap.size ≤ w1.heap.size := hb1.size
 have hgl := hG1.ty.lt
 obtain ⟨q0, q1, q2⟩ := K0.out.2.1.later hb1
 have K1 := Hid.mk (And.intro hG1 hb1)
 clear hG1 hb1
 go_wp2_with fail
 obtain ⟨W1, hW1⟩ : ∃ W1, W1 = w1.alloc (.cells #[.int .i64 r, .int .i64 c, .slice (some ⟨gH, 0, none⟩) RC RC] 63) := ⟨_, rfl⟩
 have hs1 : W1.heap.size = w1.heap.size + 1 := by rw [hW1]; simp
 have hb11 : Below w1.heap.size w1 W1 := by rw [hW1]; exact (Below.refl _ _).alloc (Nat.le_refl _) _
 have hmS : Trio W1 w1.heap.size (.int .i64 r) (.int .i64 c) (.slice (some ⟨gH, 0, none⟩) RC RC) := by rw [hW1]; exact ⟨new_cell _ _ _ _ _ rfl rfl, new_cell _ _ _ _ _ rfl rfl, new_cell _ _ _ _ _ rfl rfl⟩
 rw [← hW1]
 have hbW1 := K1.out.2.trans (hb11.mono hw1)
 have hm1 := K0.out.2.1.later hbW1
 have hR1 : W1.heap[w.heap.size + 1]? = some (.cells #[.int .i64 0, .int .i64 0, .slice none 0 0, .int .i64 0, .int .i64 0, .slice none 0 0, .int .i64 0, .int .i64 0, .slice none 0 0, .int .i64 0] 71 (0, 0)) := (hbW1.block _ (by omega)).trans K0.out.2.2.1
 have K2 := Hid.mk (And.intro (K1.out.1.below hb11) (And.intro hbW1 (And.intro hm1 (And.intro hR1 hmS))))
 have HC := Hid.mk (show ∀ w', Below W1.heap.size W1 w' → w'.cell? ⟨w.heap.size, 0, none⟩ = some (.int .i64 r) ∧ w'.cell? ⟨w1.heap.size, 0, none⟩ = some (.int .i64 r) ∧ w'.cell? ⟨w1.heap.size, 1, none⟩ = some (.int .i64 c) ∧ w'.cell? ⟨w1.heap.size, 2, none⟩ = some (.slice (some ⟨gH, 0, none⟩) RC RC) from
  fun w' hb => ⟨(hm1.later hb).1, (hmS.later hb).1, (hmS.later hb).2.1, (hmS.later hb).2.2⟩)
 clear hW1 hb11 hmS hbW1 hm1 hR1 q0 q1 q2
 go_region_held3 (fun w' => w'.cell? ⟨w.heap.size, 0, none⟩ = some (.int .i64 r) ∧ w'.cell? ⟨w1.heap.size, 0, none⟩ = some (.int .i64 r) ∧ w'.cell? ⟨w1.heap.size, 1, none⟩ = some (.int .i64 c) ∧ w'.cell? ⟨w1.heap.size, 2, none⟩ = some (.slice (some ⟨gH, 0, none⟩) RC RC))
  (exact HC.out _ (by first | exact hbU2 | exact hbU2.alloc hbU2.size _ | exact hbU1 | exact (Below.refl _ _).drew))
  (first
    | (go_at_call 56; (have hbU0 := hbU1); refine (unit_any r _ hr).mono ?_; rintro e9 w3 ⟨gW, ws0, rfl, hgW, hGW, hkW, hb3⟩; have hbU2 : Below W1.heap.size W1 w3 := hbU0.trans (hb3.mono hbU0.size); have hGU3 := hGU.below hb3; have hgUl := hGU.ty.lt; clear hb3 hbU0 hGU)
    | (go_at_call 56; refine (unit_any r _ hr).mono ?_; rintro e9 w2 ⟨gU, us0, rfl, hgU, hGU, hkU, hb2⟩; have hbU1 : Below W1.heap.size W1 w2 := ((Below.refl _ _).drew).trans hb2; clear hb2))
 obtain ⟨W3, hW3⟩ : ∃ W3, W3 = w3.alloc (.cells #[.int .i64 r, .int .i64 c, .slice (some ⟨gH, 0, none⟩) RC RC, .int .i64 r, .int .i64 r, .slice (some ⟨gU, 0, none⟩) (r * r) (r * r), .int .i64 r, .int .i64 r, .slice (some ⟨gW, 0, none⟩) (r * r) (r * r), .int .i64 0] 71) := ⟨_, rfl⟩
 have hs3 : W3.heap.size = w3.heap.size + 1 := by rw [hW3]; simp
 have hb33 : Below w3.heap.size w3 W3 := by rw [hW3]; exact (Below.refl _ _).alloc (Nat.le_refl _) _
 have hcell : ∀ i v, (#[Value.int .i64 r, .int .i64 c, .slice (some ⟨gH, 0, none⟩) RC RC, .int .i64 r, .int .i64 r, .slice (some ⟨gU, 0, none⟩) (r * r) (r * r), .int .i64 r, .int .i64 r, .slice (some ⟨gW, 0, none⟩) (r * r) (r * r), .int .i64 0])[i]? = some v → W3.cell? ⟨w3.heap.size, i, none⟩ = some v := fun i v h => by rw [hW3]; exact new_cell _ _ _ _ _ rfl h
 have hw3s : W1.heap.size ≤ w3.heap.size := hbU2.size
 have hgU2 : W1.heap.size ≤ gU := hgU
 have hgWl := hGW.ty.lt
 have hw2s : w2.heap.size ≤ w3.heap.size := by omega
 have hbW3 : Below W1.heap.size W1 W3 := hbU2.trans (hb33.mono hw3s)
 have hL1 : 1 ≤ L := by have := uB_mono r β (Nat.zero_le c); rw [uB] at this; omega
 have hF : FormO W3 W0.heap.size w3.heap.size gH gU gW r c 0 zs us0 ws0 L := by
  have hRC := H.out.2
  have hGH := K2.out.1.below hbW3
  refine ⟨⟨hr, hc, ⟨hcell 0 _ rfl, hcell 1 _ rfl, ?_⟩, by rw [← hRC]; exact hGH⟩, ⟨hr, hr, ⟨hcell 3 _ rfl, hcell 4 _ rfl, hcell 5 _ rfl⟩, (hGU3.below hb33).mono hL1⟩, ⟨hr, hr, ⟨hcell 6 _ rfl, hcell 7 _ rfl, hcell 8 _ rfl⟩, (hGW.below hb33).mono hL1⟩, hcell 9 _ rfl, by rw [hW3]; exact World.frozen?_alloc_new _ _ _ _, by rw [hW3]; exact Ty.new _ _ _, by omega, by omega, by omega, by omega, by omega, by omega, by omega, by omega, by omega, by omega⟩
  rw [← hRC]; exact hcell 2 _ rfl
 have hbB : Below W0.heap.size W0 W3 := K2.out.2.1.trans (hbW3.mono (by omega))
 have K3 := Hid.mk (And.intro hF (And.intro hbB (And.intro hW3 (And.intro hkU hkW))))
 rw [← hW3]
 clear hF hbB hW3 hcell hb33 hbW3 hkU hkW hGW hGU3 hbU2 hbU1
 go_wp2_with fail
 have HH := Hid.mk (And.intro h1 (And.intro h2 hβ))
 clear h1 h2 hβ
 go_loopw [5] (fun i wr => ∃ (e t : Nat) (pc : Nat → Nat) (hs1 us1 ws1 : List Int), e ≤ c ∧ i = .int .i64 e ∧ Hid (FormO wr W0.heap.size w3.heap.size gH gU gW r c t hs1 us1 ws1 L ∧ Below W0.heap.size W0 wr ∧ EchSt r e t pc (ent c hs1) ∧ EInv (ent c zs) (ent c hs1) (ent r us1) (ent r ws1) r c ∧ EB (ent c hs1) (ent r us1) (ent r ws1) r c t β ∧ EcTo r c (ent c zs) e t (e3 r c hs1 us1 ws1))) (fun i _ => c - (intOf i).toNat)
 case atStart =>
  obtain ⟨a1, a2, a3, a4, a5⟩ := K3.out
  refine ⟨0, 0, id, zs, us0, ws0, Nat.zero_le _, rfl, Hid.mk ⟨a1, a2, EchSt.start _ _ _, (EInv.start (ent c zs) r c).congr (fun _ _ _ _ => rfl) (fun _ _ _ _ => rfl) a4 a5, ⟨fun i j _ b d => HH.out.2.2 i j b d, HH.out.2.2, fun i j a b => ?_, fun i j a b => ?_⟩, .start _ ⟨fun _ _ _ _ => rfl, fun i j a b => (a4 i j a b).symm, fun i j a b => (a5 i j a b).symm⟩⟩⟩
  ·rw [a4 i j a b, uB]; unfold kd; split <;> decide
  ·rw [a5 i j a b, uB]; unfold kd; split <;> decide
 case round =>
  obtain ⟨e, t, pc, hs1, us1, ws1, he, rfl, HI⟩ := hrel
  obtain ⟨q0, q1, q2⟩ := K0.out.2.1
  have hbr := HI.out.2.1
  have q1' := (show wr.cell? ⟨w.heap.size, 1, none⟩ = some (.int .i64 c) from by rw [hbr.cell (p := ⟨w.heap.size, 1, none⟩) (by show w.heap.size < W0.heap.size; omega)]; exact q1)
  clear q0 q1 q2 hbr
  by_cases hec : e < c
  ·have hei : (e : Int) < (c : Int) := by omega
   have HG : Hid (GaBd (ent c hs1) (ent r us1) (ent r ws1) r c t e L (2 ^ bB r β t - 1) (2 ^ bB r β t - 1) (2 ^ uB r β t - 1) (2 ^ uB r β t - 1) (2 ^ bB r β (t + 1) - 1) (2 ^ uA r β (uB r β t) t - 1) (2 ^ uA r β (uB r β t) t - 1)) := Hid.mk (by
    obtain ⟨g1, g2, g3, g4, g5⟩ := HI.out.2.2.2.2.1.gaBd hec
    have hte := HI.out.2.2.1.te
    have e1 := hB_mono r β (show t + 1 ≤ c by omega)
    have e2 := uB_mono r β (show t + 1 ≤ c by omega)
    have e3 := bB_le r β (t + 1)
    have e4 : uA r β (uB r β t) t ≤ uB r β (t + 1) := by rw [uB]; omega
    have hh1 := HH.out.1
    have hh2 := HH.out.2.1
    have p1 : 2 ^ bB r β (t + 1) ≤ 4294967296 ^ L := by rw [pow32]; exact Nat.pow_le_pow_right (by decide) (by omega)
    have p2 : 2 ^ uA r β (uB r β t) t ≤ 4294967296 ^ L := by rw [pow32]; exact Nat.pow_le_pow_right (by decide) (by omega)
    have p3 : 0 < 2 ^ bB r β (t + 1) := Nat.pow_pos (by decide)
    have p4 : 0 < 2 ^ uA r β (uB r β t) t := Nat.pow_pos (by decide)
    exact ⟨g1, g2, g3, g4, g4, fun h => ⟨(g5 h).1, (g5 h).2, (g5 h).2⟩, by omega, by omega, by omega⟩)
   go_wp2_with fail
   refine (gather_any W0.heap.size w3.heap.size gH gU gW r c t e hs1 us1 ws1 (ent c zs) L _ _ _ _ _ _ _ _ HI.out.1 hr8 HI.out.2.2.1.le hec hL HG.out HI.out.2.2.2.1).mono ?_
   rintro e9 w4 ⟨rfl, hb4, ho⟩
   have K4 := Hid.mk (And.intro hb4 ho)
   clear hb4 ho
   go_wp2_with fail
   go_roundw
   case measure => simp [intOf]; omega
   case rel =>
    obtain ⟨i1, i2, i3, i4, i5, i6⟩ := HI.out
    rcases K4.out.2 with ⟨z1, z2⟩ | ⟨htr, hs2, us2, ws2, z2, z3, z4, z5⟩
    ·exact ⟨e + 1, t, pc, hs1, us1, ws1, by omega, by go_num, Hid.mk ⟨z2, i2.trans K4.out.1, i3.skip z1, i4, i5, .step _ _ _ _ _ i6 (.inl ⟨z1, rfl, F3.Eq.refl _ _ _⟩)⟩⟩
    ·have hE := i5.next htr hec z4
     have hte := i3.te
     have e1 := hB_mono r β (show t + 1 ≤ c by omega)
     have e2 := uB_mono r β (show t + 1 ≤ c by omega)
     have hh1 := HH.out.1
     have hh2 := HH.out.2.1
     have p1 : 2 ^ hB r β (t + 1) ≤ 4294967296 ^ L := by rw [pow32]; exact Nat.pow_le_pow_right (by decide) (by omega)
     have p2 : 2 ^ uB r β (t + 1) ≤ 4294967296 ^ L := by rw [pow32]; exact Nat.pow_le_pow_right (by decide) (by omega)
     exact ⟨e + 1, t + 1, _, hs2, us2, ws2, by omega, by go_num, Hid.mk ⟨z2.fit (fun i j a b => Nat.lt_of_lt_of_le (hE.h i j a b) p1) (fun i j a b => Nat.lt_of_lt_of_le (hE.u i j a b) p2) (fun i j a b => Nat.lt_of_lt_of_le (hE.w i j a b) p2), i2.trans K4.out.1, i3.pivot htr hec z4, z3, hE, .step _ _ _ _ _ i6 z5⟩⟩
  ·have hei : ¬ (e : Int) < (c : Int) := by omega
   have hee : e = c := by omega
   have HEE := Hid.mk hee
   clear hee
   obtain ⟨a0, a1, a2⟩ := HI.out.1.H.tri
   obtain ⟨a3, a4, a5⟩ := HI.out.1.U.tri
   obtain ⟨a6, a7, a8⟩ := HI.out.1.W.tri
   have a9 := HI.out.1.rk
   have hR : wr.heap[w.heap.size + 1]? = some (.cells #[.int .i64 0, .int .i64 0, .slice none 0 0, .int .i64 0, .int .i64 0, .slice none 0 0, .int .i64 0, .int .i64 0, .slice none 0 0, .int .i64 0] 71 (0, 0)) := (HI.out.2.1.block _ (by omega)).trans K0.out.2.2.1
   have HR := Hid.mk hR
   have b0 : ∀ i v, (#[Value.int .i64 0, .int .i64 0, .slice none 0 0, .int .i64 0, .int .i64 0, .slice none 0 0, .int .i64 0, .int .i64 0, .slice none 0 0, .int .i64 0])[i]? = some v → wr.cell? ⟨w.heap.size + 1, i, none⟩ = some v := fun i v h => by simpa [World.cell?, hR] using h
   have f0 : ∀ o, wr.frozen? ⟨w.heap.size + 1, o, none⟩ = false := fun o => by simp [World.frozen?, hR]
   clear hR
   have y0 := b0 0 _ rfl
   have y1 := b0 1 _ rfl
   have y2 := b0 2 _ rfl
   have y3 := b0 3 _ rfl
   have y4 := b0 4 _ rfl
   have y5 := b0 5 _ rfl
   have y6 := b0 6 _ rfl
   have y7 := b0 7 _ rfl
   have y8 := b0 8 _ rfl
   have y9 := b0 9 _ rfl
   clear b0
   go_wp2_with fail
   refine bodyPost_ret (v := .agg #[.int .i64 r, .int .i64 c, .slice (some ⟨gH, 0, none⟩) (r * c) (r * c), .int .i64 r, .int .i64 r, .slice (some ⟨gU, 0, none⟩) (r * r) (r * r), .int .i64 r, .int .i64 r, .slice (some ⟨gW, 0, none⟩) (r * r) (r * r), .int .i64 t]) ?_ rfl ?_
   ·(simp [results, Tryd.results35, go_sem, y0, y1, y2, y3, y4, y5, y6, y7, y8, y9]; done)
   ·have hTy : Ty wr (w.heap.size + 1) 71 := ⟨_, _, HR.out⟩
    obtain ⟨i1, i2, i3, i4, i5, i6⟩ := HI.out
    have key : ∀ W, KU wr W → wr.grownBy W (some (w.heap.size + 1)) → EchOut w W (.returned (.agg #[.int .i64 r, .int .i64 c, .slice (some ⟨gH, 0, none⟩) (r * c) (r * c), .int .i64 r, .int .i64 r, .slice (some ⟨gU, 0, none⟩) (r * r) (r * r), .int .i64 r, .int .i64 r, .slice (some ⟨gW, 0, none⟩) (r * r) (r * r), .int .i64 t])) r c zs β L := by
     intro W hk hg
     have hne : ∀ g, W0.heap.size ≤ g → ∀ (n m : Nat) (a : Addr) (m' c' : Nat), Value.slice (some ⟨g, 0, none⟩) n m = .slice (some a) m' c' → a.block ≠ w.heap.size + 1 := fun g h n m a m' c' e => by
      simp only [Value.slice.injEq, Option.some.injEq] at e
      obtain ⟨rfl, -, -⟩ := e
      show g ≠ w.heap.size + 1
      omega
     refine ⟨_, t, pc, hs1, us1, ws1, rfl, ⟨_, _, _, rfl, ⟨hr, hc, _, rfl, i1.H.grid.grown hg (hne gH i1.b1 _ _) hk⟩, ⟨hr, hr, _, rfl, i1.U.grid.grown hg (hne gU i1.b2 _ _) hk⟩, ⟨hr, hr, _, rfl, i1.W.grid.grown hg (hne gW i1.b3 _ _) hk⟩⟩, ?_, i4, i5, ?_, by rw [← HEE.out]; exact HEE.out ▸ i6⟩
     ·have := HEE.out
      rw [this] at i3
      exact i3
     ·have hb := (K0.out.1.trans (i2.mono (by omega)))
      exact hb.trans (below_of_grown hg (by omega) (by have := i2.size; omega))
    have h10 := set10 wr (w.heap.size + 1) hTy (by decide) (.int .i64 r) (.int .i64 c) (.slice (some ⟨gH, 0, none⟩) (r * c) (r * c)) (.int .i64 r) (.int .i64 r) (.slice (some ⟨gU, 0, none⟩) (r * r) (r * r)) (.int .i64 r) (.int .i64 r) (.slice (some ⟨gW, 0, none⟩) (r * r) (r * r)) (.int .i64 t)
    exact key _ h10.1 h10.2
end Go.Proofs.YtfjbijpagaipnaaDoor
namespace Go.Proofs.YtfjbijpagaipnaaDoor.R
open Go.RowKit
open Go.RowKit
open Go.RowKit
open Go.RowKit
open Go.RowKit
open Go.RowKit
open Go.RowKit
open Go.RowKit
open Go.RowKit
open Go.RowKit
open Go.RowKit
open Go.RowKit
open Go.RowKit
open Go.RowKit
open Go.RowKit
open Go.RowKit
open Go.RowKit
open Go.RowKit
open Go.RowKit
open Go.RowKit
open Go.RowKit
open Go.RowKit
open Go.RowKit
open Go.RowKit
end Go.Proofs.YtfjbijpagaipnaaDoor.R
namespace Go.Proofs.YtfjbijpagaipnaaDoor
open Go.RowKit R
def gz (c : Nat) (zs : List Int) : Nat → Nat → Int := fun i j => zs.getD (i * c + j) 0
theorem IsM.slice {w : World} {s : Value} {r c L : Nat} {zs : List Int} (h : IsM w (.agg #[.int .i64 r, .int .i64 c, s]) r c zs L) : ∃ ao cap, s = .slice ao (r * c) cap := by
 obtain ⟨_, _, sl, h2, h3⟩ := h
 obtain ⟨ao, cap, rfl, -⟩ := h3.shape
 simp only [Value.agg.injEq, Array.mk.injEq, List.cons.injEq, and_true, true_and] at h2
 exact ⟨ao, cap, h2⟩
theorem FitsP.ent {r c : Nat} {zs : List Int} (h : FitsP r c zs) (i j : Nat) (hi : i < r) (hj : j < c) : (ent c zs i j).natAbs < 2 ^ 48 := h.2.2 _ (idx_lt hi hj)
theorem size48 {r c : Nat} (hr : r ≤ 4) (hc : c ≤ 4) : hB r 48 c ≤ 32 * 4000 ∧ uB r 48 c ≤ 32 * 4000 := by
 have key : ∀ r : Fin 5, ∀ c : Fin 5, hB r.val 48 c.val ≤ 32 * 4000 ∧ uB r.val 48 c.val ≤ 32 * 4000 := by decide
 exact key ⟨r, by omega⟩ ⟨c, by omega⟩
theorem gech_fit (v : Value) (r c : Nat) (zs : List Int) (L : Nat) (w : World) (hm : IsM w v r c zs L) (hr : r ≤ 4) (hc : c ≤ 4) (hz : ∀ i j, i < r → j < c → (ent c zs i j).natAbs < 2 ^ 48) (hL : L ≤ 4000) :
 Calls Tryd.prog 35 #[v] w fun e w' => EchOut w w' e r c zs 48 4000 :=
 gech_any v r c zs 48 4000 w (hm.mono hL) (by omega) (by omega) hz (by omega) (size48 hr hc).1 (size48 hr hc).2
open Go.RowKit
structure EchIs (r c : Nat) (zs : List Int) (k : Nat) (pc : Nat → Nat) (hs us ws : List Int) : Prop where
 lh : hs.length = r * c
 lu : us.length = r * r
 lw : ws.length = r * r
 st : EchSt r c k pc (ent c hs)
 inv : EInv (ent c zs) (ent c hs) (ent r us) (ent r ws) r c
 eb : EB (ent c hs) (ent r us) (ent r ws) r c k 48
 run : EcTo r c (ent c zs) c k (e3 r c hs us ws)
def EchRes (r c : Nat) (zs : List Int) (xs : List (Nat × Nat × List Int)) : Prop := ∃ k pc hs us ws, xs = [(r, c, hs), (r, r, us), (r, r, ws)] ∧ EchIs r c zs k pc hs us ws
theorem IsM.len {w : World} {v : Value} {r c L : Nat} {zs : List Int} (h : IsM w v r c zs L) : zs.length = r * c := by
 obtain ⟨_, _, sl, _, h3⟩ := h
 exact h3.1
theorem MRow.three {w : World} {g : Nat} {x y z : Nat × Nat × List Int} {o1 o2 o3 : Option Addr} {m1 m2 m3 c1 c2 c3 : Nat} {t : TypeId} (hg : w.heap[g]? = some (.cells #[.int .i64 (x.1 : Nat), .int .i64 (x.2.1 : Nat), .slice o1 m1 c1, .int .i64 (y.1 : Nat), .int .i64 (y.2.1 : Nat), .slice o2 m2 c2, .int .i64 (z.1 : Nat), .int .i64 (z.2.1 : Nat), .slice o3 m3 c3] t (0, 0)))
 (h1 : IsM w (.agg #[.int .i64 (x.1 : Nat), .int .i64 (x.2.1 : Nat), .slice o1 m1 c1]) x.1 x.2.1 x.2.2 200000000) (h2 : IsM w (.agg #[.int .i64 (y.1 : Nat), .int .i64 (y.2.1 : Nat), .slice o2 m2 c2]) y.1 y.2.1 y.2.2 200000000) (h3 : IsM w (.agg #[.int .i64 (z.1 : Nat), .int .i64 (z.2.1 : Nat), .slice o3 m3 c3]) z.1 z.2.1 z.2.2 200000000) : MRow w g [x, y, z] := by
 intro j hj
 match j, hj with
 | 0, _ => exact ⟨o1, m1, c1, by simp [World.cell?, hg], by simp [World.cell?, hg], by simp [World.cell?, hg], h1⟩
 | 1, _ => exact ⟨o2, m2, c2, by simp [World.cell?, hg], by simp [World.cell?, hg], by simp [World.cell?, hg], h2⟩
 | 2, _ => exact ⟨o3, m3, c3, by simp [World.cell?, hg], by simp [World.cell?, hg], by simp [World.cell?, hg], h3⟩
set_option maxRecDepth 100000 in
set_option maxHeartbeats 4000000 in
theorem echelon_held (b : Nat) (h : Int) (ms : List Hm) (nx : Nat) (w : World) (hst : Held w b ms nx) (hnx : nx < 1000000 - 5) :
 Calls Tryd.prog 12 #[.pointer (some ⟨b, 0, none⟩), .int .i64 h] w fun x w' => ∃ v e ok xs, x = .returned (.tuple #[v, .int .i64 e]) ∧ ManyRel 3 EchRes ms h ok e xs ∧ ManyOut w w' b 3 nx ms ok xs v := by
 have H := Hid.mk hst
 have hm24 := hst.1
 have hbl := hst.lt
 clear hst
 go_enter Tryd.func12, Tryd.ntmps12
 go_wp2_with fail
 refine (find_held b h ms nx _ H.out).mono ?_
 rintro e w1 ⟨⟨r, c, ao, n, cap, ok, rfl, hf⟩, hb1⟩
 have hbA := (Below.refl w1.heap.size w1).alloc (Nat.le_refl _) (.cells #[.int .i64 r, .int .i64 c, .slice ao n cap] 63)
 have hbw := hb1.trans (hbA.mono hb1.size)
 have hw1 := hb1.size
 rcases id hf with ⟨rfl, i, hd, zs, hi, hgi, hgh, hM⟩ | ⟨rfl, hno⟩
 ·have K1 := Hid.mk (And.intro (hM.below hbA) (And.intro hbw (And.intro hi (And.intro hgi hgh))))
  clear hf hM hb1 hbA hbw hi hgi hgh
  go_wp2_with fail
  refine (tooBig_any _ r c zs 200000000 _ K1.out.1 (by omega)).mono ?_
  rintro e w2 ⟨fb, rfl, hfo, hb2⟩
  have hs2 : w1.heap.size + 1 ≤ w2.heap.size := by have := hb2.size; simpa using this
  have m0 : w2.cell? ⟨w1.heap.size, 0, none⟩ = some (.int .i64 r) := cell_later hb2 (by simp)
  have m1 : w2.cell? ⟨w1.heap.size, 1, none⟩ = some (.int .i64 c) := cell_later hb2 (by simp)
  have m2 : w2.cell? ⟨w1.heap.size, 2, none⟩ = some (.slice ao n cap) := cell_later hb2 (by simp)
  have K2 := Hid.mk (And.intro (K1.out.1.below hb2) (And.intro (K1.out.2.1.trans (hb2.mono K1.out.2.1.size)) hfo))
  clear hb2 hfo
  cases fb
  ·have HNF : Hid (¬ FitsP r c zs) := Hid.mk (fun h => by have := K2.out.2.2.2 h; cases this)
   go_wp2_with fail
   go_ret2
   exact ⟨_, _, false, [], rfl, .inr ⟨i, hd, r, c, zs, K1.out.2.2.1, K1.out.2.2.2.1, K1.out.2.2.2.2, .inl ⟨HNF.out, rfl, rfl, rfl⟩⟩, .inl ⟨rfl, rfl, H.out.below K2.out.2.1, Fr.of_below K2.out.2.1⟩⟩
  ·have HFP : Hid (FitsP r c zs) := Hid.mk (K2.out.2.2.1 rfl)
   go_wp2_with fail
   refine (room_held b ms nx _ (H.out.below K2.out.2.1)).mono ?_
   rintro e w' ⟨rfl, rfl⟩
   obtain ⟨rm, hrm⟩ : ∃ rm, rm = ms.countP Option.isNone := ⟨_, rfl⟩
   have HRM := Hid.mk hrm
   rw [← hrm]
   clear hrm
   by_cases h0 : rm < 3
   ·have h0' : ((rm : Int) < 3) := by omega
    go_wp2_with fail
    go_ret2
    exact ⟨_, _, false, [], rfl, .inr ⟨i, hd, r, c, zs, K1.out.2.2.1, K1.out.2.2.2.1, K1.out.2.2.2.2, .inr (.inl ⟨HFP.out, by rw [← HRM.out]; exact h0, rfl, rfl, rfl⟩)⟩, .inl ⟨rfl, rfl, H.out.below K2.out.2.1, Fr.of_below K2.out.2.1⟩⟩
   ·have h0' : ¬ ((rm : Int) < 3) := by omega
    go_wp2_with fail
    refine (gech_fit _ r c zs 2 _ (K2.out.1.tight HFP.out) HFP.out.1 HFP.out.2.1 HFP.out.ent (by omega)).mono ?_
    rintro e w3 ⟨v3, k, pc, hs, us, ws, rfl, ⟨sH, sU, sW, rfl, m3, m4, m5⟩, hk, hE, hEB, hb3, hto⟩
    have hIs : EchIs r c zs k pc hs us ws := ⟨m3.len, m4.len, m5.len, hk, hE, hEB, hto⟩
    obtain ⟨oH, cH, rfl⟩ := m3.slice
    obtain ⟨oU, cU, rfl⟩ := m4.slice
    obtain ⟨oW, cW, rfl⟩ := m5.slice
    have hb03 := K2.out.2.1.trans (hb3.mono K2.out.2.1.size)
    have K3 := Hid.mk (And.intro m3 (And.intro m4 (And.intro m5 (And.intro hIs hb03))))
    have hw3 := hb3.size
    clear hk hE hb3 m0 m1 m2 m3 m4 m5 hEB hto hIs hb03
    go_wp2_with fail
    obtain ⟨X, hX⟩ : ∃ X, X = (w3.alloc (.cells #[.int .i64 r, .int .i64 c, .slice oH (r * c) cH, .int .i64 r, .int .i64 r, .slice oU (r * r) cU, .int .i64 r, .int .i64 r, .slice oW (r * r) cW, .int .i64 k] 71)).alloc (.cells #[.int .i64 r, .int .i64 c, .slice oH (r * c) cH, .int .i64 r, .int .i64 r, .slice oU (r * r) cU, .int .i64 r, .int .i64 r, .slice oW (r * r) cW] 63) := ⟨_, rfl⟩
    rw [← hX]
    have hbX : Below w3.heap.size w3 X := by rw [hX]; exact ((Below.refl _ _).alloc (Nat.le_refl _) _).alloc (by simp) _
    have hsX : X.heap.size = w3.heap.size + 1 + 1 := by rw [hX]; simp
    have hgX : X.heap[w3.heap.size + 1]? = some (.cells #[.int .i64 r, .int .i64 c, .slice oH (r * c) cH, .int .i64 r, .int .i64 r, .slice oU (r * r) cU, .int .i64 r, .int .i64 r, .slice oW (r * r) cW] 63 (0, 0)) := by
     rw [hX]
     have := heap_alloc_new (w3.alloc (.cells #[.int .i64 r, .int .i64 c, .slice oH (r * c) cH, .int .i64 r, .int .i64 r, .slice oU (r * r) cU, .int .i64 r, .int .i64 r, .slice oW (r * r) cW, .int .i64 k] 71)) (.cells #[.int .i64 r, .int .i64 c, .slice oH (r * c) cH, .int .i64 r, .int .i64 r, .slice oU (r * r) cU, .int .i64 r, .int .i64 r, .slice oW (r * r) cW] 63)
     simpa using this
    have hbwX := K3.out.2.2.2.2.trans (hbX.mono K3.out.2.2.2.2.size)
    have hrow : MRow X (w3.heap.size + 1) [(r, c, hs), (r, r, us), (r, r, ws)] := MRow.three (x := (r, c, hs)) (y := (r, r, us)) (z := (r, r, ws)) hgX ((K3.out.1.below hbX).mono (by omega)) ((K3.out.2.1.below hbX).mono (by omega)) ((K3.out.2.2.1.below hbX).mono (by omega))
    have hw03 := K3.out.2.2.2.2.size
    have HX := Hid.mk (And.intro hbwX hrow)
    clear hX hbX hgX hbwX hrow
    refine (keepAll_held b (w3.heap.size + 1) 3 3 [(r, c, hs), (r, r, us), (r, r, ws)] ms nx _ (H.out.below HX.out.1) HX.out.2 rfl (by omega) (by omega) (by omega) (by have := HRM.out; omega) hnx).mono ?_
    rintro e w4 ⟨v4, rfl, hb4, zs4, rfl, k1, k2, k3, k4, k5, k6⟩
    have K4 := Hid.mk (And.intro k1 (And.intro k2 (And.intro k3 (And.intro k4 (And.intro k5 ((Fr.of_below HX.out.1).trans k6))))))
    clear k1 k2 k3 k4 k5 k6
    go_wp2_with fail
    go_ret2
    exact ⟨_, _, true, [(r, c, hs), (r, r, us), (r, r, ws)], rfl, .inr ⟨i, hd, r, c, zs, K1.out.2.2.1, K1.out.2.2.2.1, K1.out.2.2.2.2, .inr (.inr ⟨HFP.out, by have := HRM.out; omega, rfl, rfl, rfl, k, pc, hs, us, ws, rfl, K3.out.2.2.2.1⟩)⟩, .inr ⟨rfl, hb4, zs4, rfl, by have := HX.out.1.size; have := K4.out.1; omega, K4.out.2.1, K4.out.2.2.1, K4.out.2.2.2.1, K4.out.2.2.2.2.1, K4.out.2.2.2.2.2⟩⟩
 ·have KN := Hid.mk (And.intro hno hbw)
  clear hno hbw hb1 hbA hf
  go_wp2_with fail
  go_ret2
  exact ⟨_, _, false, [], rfl, .inl ⟨KN.out.1, rfl, rfl, rfl⟩, .inl ⟨rfl, rfl, H.out.below KN.out.2, Fr.of_below KN.out.2⟩⟩
open Go.RowKit
theorem set3 (w : World) (b : Nat) {t : TypeId} (ht : Ty w b t) (hne : t ≠ 117) (v0 v1 v2 : Value) : KU w (((w.setCell ⟨b, 0, none⟩ v0).setCell ⟨b, 1, none⟩ v1).setCell ⟨b, 2, none⟩ v2) ∧ w.grownBy (((w.setCell ⟨b, 0, none⟩ v0).setCell ⟨b, 1, none⟩ v1).setCell ⟨b, 2, none⟩ v2) (some b) := by
 have k0 := KU.setCell (o := 0) (KU.refl w) ht hne v0
 have t0 := ht.setCell ⟨b, 0, none⟩ v0
 have k1 := KU.setCell (o := 1) k0 t0 hne v1
 have t1 := t0.setCell ⟨b, 1, none⟩ v1
 have k2 := KU.setCell (o := 2) k1 t1 hne v2
 exact ⟨k2, grown_trans (grown_trans (grown_cell _ _ _ _) (grown_cell _ _ _ _)) (grown_cell _ _ _ _)⟩
theorem Grid.besides {w W : World} {b g n L : Nat} {zs : List Int} (h : Grid w (.slice (some ⟨g, 0, none⟩) n n) n zs L) (hg : w.grownBy W (some b)) (hk : KU w W) (hne : g ≠ b) : Grid W (.slice (some ⟨g, 0, none⟩) n n) n zs L :=
 h.grown hg (fun a m c e => by
  simp only [Value.slice.injEq, Option.some.injEq] at e
  obtain ⟨rfl, -, -⟩ := e
  exact hne) hk
end Go.Proofs.YtfjbijpagaipnaaDoor
