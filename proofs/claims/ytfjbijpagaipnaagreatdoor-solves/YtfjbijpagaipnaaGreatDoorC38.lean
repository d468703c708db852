import Derived.Test.YtfjbijpagaipnaaGreatDoorC37
import Derived.Test.YtfjbijpagaipnaaGreatDoorC35
import Derived.Test.YtfjbijpagaipnaaGreatDoorC29
import Derived.Test.YtfjbijpagaipnaaGreatDoorC08
import Derived.Test.YtfjbijpagaipnaaGreatDoorC05
import Derived.Test.YtfjbijpagaipnaaGreatDoorC24
import Derived.Deep.CutRange
import Derived.Deep.LoopGhost
import Derived.Test.YtfjbijpagaipnaaGreatDoorC36
import Derived.Test.YtfjbijpagaipnaaGreatDoorC28
import Derived.Test.YtfjbijpagaipnaaGreatDoorC13
import Derived.Test.YtfjbijpagaipnaaGreatDoorC21
namespace Go.Proofs.YtfjbijpagaipnaaGreatDoor
open Go.RowKit
theorem set10 (w : World) (b : Nat) {t : TypeId} (ht : Ty w b t) (hne : t ≠ 165) (v0 v1 v2 v3 v4 v5 v6 v7 v8 v9 : Value) : KU w ((((((((((w.setCell ⟨b, 0, none⟩ v0).setCell ⟨b, 1, none⟩ v1).setCell ⟨b, 2, none⟩ v2).setCell ⟨b, 3, none⟩ v3).setCell ⟨b, 4, none⟩ v4).setCell ⟨b, 5, none⟩ v5).setCell ⟨b, 6, none⟩ v6).setCell ⟨b, 7, none⟩ v7).setCell ⟨b, 8, none⟩ v8).setCell ⟨b, 9, none⟩ v9) ∧ w.grownBy ((((((((((w.setCell ⟨b, 0, none⟩ v0).setCell ⟨b, 1, none⟩ v1).setCell ⟨b, 2, none⟩ v2).setCell ⟨b, 3, none⟩ v3).setCell ⟨b, 4, none⟩ v4).setCell ⟨b, 5, none⟩ v5).setCell ⟨b, 6, none⟩ v6).setCell ⟨b, 7, none⟩ v7).setCell ⟨b, 8, none⟩ v8).setCell ⟨b, 9, none⟩ v9) (some b) := by
 have k0 := KU.setCell (o := 0) (KU.refl w) ht hne v0
 have t0 := ht.setCell ⟨b, 0, none⟩ v0
 have g0 := grown_trans (World.grownBy.refl w (some b)) (grown_cell _ b 0 v0)
 have k1 := KU.setCell (o := 1) k0 t0 hne v1
 have t1 := t0.setCell ⟨b, 1, none⟩ v1
 have g1 := grown_trans g0 (grown_cell _ b 1 v1)
 have k2 := KU.setCell (o := 2) k1 t1 hne v2
 have t2 := t1.setCell ⟨b, 2, none⟩ v2
 have g2 := grown_trans g1 (grown_cell _ b 2 v2)
 have k3 := KU.setCell (o := 3) k2 t2 hne v3
 have t3 := t2.setCell ⟨b, 3, none⟩ v3
 have g3 := grown_trans g2 (grown_cell _ b 3 v3)
 have k4 := KU.setCell (o := 4) k3 t3 hne v4
 have t4 := t3.setCell ⟨b, 4, none⟩ v4
 have g4 := grown_trans g3 (grown_cell _ b 4 v4)
 have k5 := KU.setCell (o := 5) k4 t4 hne v5
 have t5 := t4.setCell ⟨b, 5, none⟩ v5
 have g5 := grown_trans g4 (grown_cell _ b 5 v5)
 have k6 := KU.setCell (o := 6) k5 t5 hne v6
 have t6 := t5.setCell ⟨b, 6, none⟩ v6
 have g6 := grown_trans g5 (grown_cell _ b 6 v6)
 have k7 := KU.setCell (o := 7) k6 t6 hne v7
 have t7 := t6.setCell ⟨b, 7, none⟩ v7
 have g7 := grown_trans g6 (grown_cell _ b 7 v7)
 have k8 := KU.setCell (o := 8) k7 t7 hne v8
 have t8 := t7.setCell ⟨b, 8, none⟩ v8
 have g8 := grown_trans g7 (grown_cell _ b 8 v8)
 have k9 := KU.setCell (o := 9) k8 t8 hne v9
 have g9 := grown_trans g8 (grown_cell _ b 9 v9)
 exact ⟨k9, g9⟩
def IsF (w : World) (v : Value) (r c k : Nat) (hs us ws : List Int) (L : Nat) : Prop := ∃ sH sU sW : Value, v = .agg #[.int .i64 r, .int .i64 c, sH, .int .i64 r, .int .i64 r, sU, .int .i64 r, .int .i64 r, sW, .int .i64 k] ∧ IsM w (.agg #[.int .i64 r, .int .i64 c, sH]) r c hs L ∧ IsM w (.agg #[.int .i64 r, .int .i64 r, sU]) r r us L ∧ IsM w (.agg #[.int .i64 r, .int .i64 r, sW]) r r ws L
def EchOut (w w' : World) (e : Ending) (r c : Nat) (zs : List Int) (β L : Nat) : Prop := ∃ (v : Value) (k : Nat) (pc : Nat → Nat) (hs us ws : List Int), e = .returned v ∧ IsF w' v r c k hs us ws L ∧ EchSt r c k pc (ent c hs) ∧ EInv (ent c zs) (ent c hs) (ent r us) (ent r ws) r c ∧ EB (ent c hs) (ent r us) (ent r ws) r c k β ∧ Below w.heap.size w w' ∧ EcTo r c (ent c zs) c k (e3 r c hs us ws)
set_option maxRecDepth 100000 in
set_option maxHeartbeats 4000000 in
theorem gech_any (v : Value) (r c : Nat) (zs : List Int) (β L : Nat) (w : World) (hm : IsM w v r c zs L) (hr8 : r ≤ 8) (hc8 : c ≤ 8) (hβ : ∀ i j, i < r → j < c → (ent c zs i j).natAbs < 2 ^ β) (hL : L ≤ 60000000) (h1 : hB r β c ≤ 32 * L) (h2 : uB r β c ≤ 32 * L) :
 Calls Tryz.prog 45 #[v] w fun e w' => EchOut w w' e r c zs β L := by
 have HM := Hid.mk hm
 obtain ⟨hr, hc, sl, rfl, hg0⟩ := hm
 obtain ⟨ao, cap, rfl, -⟩ := hg0.shape
 obtain ⟨RC, hRC⟩ : ∃ RC, RC = r * c := ⟨_, rfl⟩
 rw [← hRC] at hg0
 rw [← hRC] at HM ⊢
 have H := Hid.mk (And.intro hg0 hRC)
 clear hg0 hRC
 go_enter Tryz.func45, Tryz.ntmps45
 go_wp2_with fail
 obtain ⟨W0, hW0⟩ : ∃ W0, W0 = (w.alloc (.cells #[.int .i64 r, .int .i64 c, .slice ao RC cap] 76)).alloc (.cells #[.int .i64 0, .int .i64 0, .slice none 0 0, .int .i64 0, .int .i64 0, .slice none 0 0, .int .i64 0, .int .i64 0, .slice none 0 0, .int .i64 0] 82) := ⟨_, rfl⟩
 have hs0 : W0.heap.size = w.heap.size + 2 := by rw [hW0]; simp
 have hb0 : Below w.heap.size w W0 := by rw [hW0]; repeat (first | exact Below.refl _ _ | refine Below.alloc ?_ (by simp <;> omega) _)
 have hbA := (Below.refl w.heap.size w).alloc (Nat.le_refl _) (.cells #[.int .i64 r, .int .i64 c, .slice ao RC cap] 76)
 have hm0 : Trio W0 w.heap.size (.int .i64 r) (.int .i64 c) (.slice ao RC cap) := by
  rw [hW0]
  exact Trio.later (w := w.alloc (.cells #[.int .i64 r, .int .i64 c, .slice ao RC cap] 76)) ⟨new_cell _ _ _ _ _ rfl rfl, new_cell _ _ _ _ _ rfl rfl, new_cell _ _ _ _ _ rfl rfl⟩ ((Below.refl _ _).alloc (Nat.le_refl _) _)
 have hR0 : W0.heap[w.heap.size + 1]? = some (.cells #[.int .i64 0, .int .i64 0, .slice none 0 0, .int .i64 0, .int .i64 0, .slice none 0 0, .int .i64 0, .int .i64 0, .slice none 0 0, .int .i64 0] 82 (0, 0)) := by
  rw [hW0]
  have := heap_alloc_new (w.alloc (.cells #[.int .i64 r, .int .i64 c, .slice ao RC cap] 76)) (.cells #[.int .i64 0, .int .i64 0, .slice none 0 0, .int .i64 0, .int .i64 0, .slice none 0 0, .int .i64 0, .int .i64 0, .slice none 0 0, .int .i64 0] 82)
  simpa using this
 have K0 := Hid.mk (And.intro hb0 (And.intro hm0 (And.intro hR0 hW0)))
 rw [← hW0]
 clear hb0 hm0 hR0 hW0 hbA
 refine (fromCells_new r c _ zs L _ hr hc (by rw [← H.out.2]; exact H.out.1.below K0.out.1)).mono ?_
 rintro e w1 ⟨gH, rfl, hg1, hG1, hb1⟩
 rw [← H.out.2] at hG1 ⊢
 have hw1 : W0.heap.size ≤ w1.heap.size := hb1.size
 have hgl := hG1.ty.lt
 obtain ⟨q0, q1, q2⟩ := K0.out.2.1.later hb1
 have K1 := Hid.mk (And.intro hG1 hb1)
 clear hG1 hb1
 go_wp2_with fail
 obtain ⟨W1, hW1⟩ : ∃ W1, W1 = w1.alloc (.cells #[.int .i64 r, .int .i64 c, .slice (some ⟨gH, 0, none⟩) RC RC] 76) := ⟨_, rfl⟩
 have hs1 : W1.heap.size = w1.heap.size + 1 := by rw [hW1]; simp
 have hb11 : Below w1.heap.size w1 W1 := by rw [hW1]; exact (Below.refl _ _).alloc (Nat.le_refl _) _
 have hmS : Trio W1 w1.heap.size (.int .i64 r) (.int .i64 c) (.slice (some ⟨gH, 0, none⟩) RC RC) := by rw [hW1]; exact ⟨new_cell _ _ _ _ _ rfl rfl, new_cell _ _ _ _ _ rfl rfl, new_cell _ _ _ _ _ rfl rfl⟩
 rw [← hW1]
 have hbW1 := K1.out.2.trans (hb11.mono hw1)
 have hm1 := K0.out.2.1.later hbW1
 have hR1 : W1.heap[w.heap.size + 1]? = some (.cells #[.int .i64 0, .int .i64 0, .slice none 0 0, .int .i64 0, .int .i64 0, .slice none 0 0, .int .i64 0, .int .i64 0, .slice none 0 0, .int .i64 0] 82 (0, 0)) := (hbW1.block _ (by omega)).trans K0.out.2.2.1
 have K2 := Hid.mk (And.intro (K1.out.1.below hb11) (And.intro hbW1 (And.intro hm1 (And.intro hR1 hmS))))
 have HC := Hid.mk (show ∀ w', Below W1.heap.size W1 w' → w'.cell? ⟨w.heap.size, 0, none⟩ = some (.int .i64 r) ∧ w'.cell? ⟨w1.heap.size, 0, none⟩ = some (.int .i64 r) ∧ w'.cell? ⟨w1.heap.size, 1, none⟩ = some (.int .i64 c) ∧ w'.cell? ⟨w1.heap.size, 2, none⟩ = some (.slice (some ⟨gH, 0, none⟩) RC RC) from
  fun w' hb => ⟨(hm1.later hb).1, (hmS.later hb).1, (hmS.later hb).2.1, (hmS.later hb).2.2⟩)
 clear hW1 hb11 hmS hbW1 hm1 hR1 q0 q1 q2
 go_region_held3 (fun w' => w'.cell? ⟨w.heap.size, 0, none⟩ = some (.int .i64 r) ∧ w'.cell? ⟨w1.heap.size, 0, none⟩ = some (.int .i64 r) ∧ w'.cell? ⟨w1.heap.size, 1, none⟩ = some (.int .i64 c) ∧ w'.cell? ⟨w1.heap.size, 2, none⟩ = some (.slice (some ⟨gH, 0, none⟩) RC RC))
  (exact HC.out _ (by first | exact hbU2 | exact hbU2.alloc hbU2.size _ | exact hbU1 | exact (Below.refl _ _).drew))
  (first
    | (go_at_call 78; (have hbU0 := hbU1); refine (unit_any r _ hr).mono ?_; rintro e9 w3 ⟨gW, ws0, rfl, hgW, hGW, hkW, hb3⟩; have hbU2 : Below W1.heap.size W1 w3 := hbU0.trans (hb3.mono hbU0.size); have hGU3 := hGU.below hb3; have hgUl := hGU.ty.lt; clear hb3 hbU0 hGU)
    | (go_at_call 78; refine (unit_any r _ hr).mono ?_; rintro e9 w2 ⟨gU, us0, rfl, hgU, hGU, hkU, hb2⟩; have hbU1 : Below W1.heap.size W1 w2 := ((Below.refl _ _).drew).trans hb2; clear hb2))
 obtain ⟨W3, hW3⟩ : ∃ W3, W3 = w3.alloc (.cells #[.int .i64 r, .int .i64 c, .slice (some ⟨gH, 0, none⟩) RC RC, .int .i64 r, .int .i64 r, .slice (some ⟨gU, 0, none⟩) (r * r) (r * r), .int .i64 r, .int .i64 r, .slice (some ⟨gW, 0, none⟩) (r * r) (r * r), .int .i64 0] 82) := ⟨_, rfl⟩
 have hs3 : W3.heap.size = w3.heap.size + 1 := by rw [hW3]; simp
 have hb33 : Below w3.heap.size w3 W3 := by rw [hW3]; exact (Below.refl _ _).alloc (Nat.le_refl _) _
 have hcell : ∀ i v, (#[Value.int .i64 r, .int .i64 c, .slice (some ⟨gH, 0, none⟩) RC RC, .int .i64 r, .int .i64 r, .slice (some ⟨gU, 0, none⟩) (r * r) (r * r), .int .i64 r, .int .i64 r, .slice (some ⟨gW, 0, none⟩) (r * r) (r * r), .int .i64 0])[i]? = some v → W3.cell? ⟨w3.heap.size, i, none⟩ = some v := fun i v h => by rw [hW3]; exact new_cell _ _ _ _ _ rfl h
 have hw3s : W1.heap.size ≤ w3.heap.size := hbU2.size
 have hgU2 : W1.heap.size ≤ gU := hgU
 have hgWl := hGW.ty.lt
 have hw2s : w2.heap.size ≤ w3.heap.size := by omega
 have hbW3 : Below W1.heap.size W1 W3 := hbU2.trans (hb33.mono hw3s)
 have hL1 : 1 ≤ L := by have := uB_mono r β (Nat.zero_le c); rw [uB] at this; omega
 have hF : FormO W3 W0.heap.size w3.heap.size gH gU gW r c 0 zs us0 ws0 L := by
  have hRC := H.out.2
  have hGH := K2.out.1.below hbW3
  refine ⟨⟨hr, hc, ⟨hcell 0 _ rfl, hcell 1 _ rfl, ?_⟩, by rw [← hRC]; exact hGH⟩, ⟨hr, hr, ⟨hcell 3 _ rfl, hcell 4 _ rfl, hcell 5 _ rfl⟩, (hGU3.below hb33).mono hL1⟩, ⟨hr, hr, ⟨hcell 6 _ rfl, hcell 7 _ rfl, hcell 8 _ rfl⟩, (hGW.below hb33).mono hL1⟩, hcell 9 _ rfl, by rw [hW3]; exact World.frozen?_alloc_new _ _ _ _, by rw [hW3]; exact Ty.new _ _ _, by omega, by omega, by omega, by omega, by omega, by omega, by omega, by omega, by omega, by omega⟩
  rw [← hRC]; exact hcell 2 _ rfl
 have hbB : Below W0.heap.size W0 W3 := K2.out.2.1.trans (hbW3.mono (by omega))
 have K3 := Hid.mk (And.intro hF (And.intro hbB (And.intro hW3 (And.intro hkU hkW))))
 rw [← hW3]
 clear hF hbB hW3 hcell hb33 hbW3 hkU hkW hGW hGU3 hbU2 hbU1
 go_wp2_with fail
 have HH := Hid.mk (And.intro h1 (And.intro h2 hβ))
 clear h1 h2 hβ
 go_loopw [5] (fun i wr => ∃ (e t : Nat) (pc : Nat → Nat) (hs1 us1 ws1 : List Int), e ≤ c ∧ i = .int .i64 e ∧ Hid (FormO wr W0.heap.size w3.heap.size gH gU gW r c t hs1 us1 ws1 L ∧ Below W0.heap.size W0 wr ∧ EchSt r e t pc (ent c hs1) ∧ EInv (ent c zs) (ent c hs1) (ent r us1) (ent r ws1) r c ∧ EB (ent c hs1) (ent r us1) (ent r ws1) r c t β ∧ EcTo r c (ent c zs) e t (e3 r c hs1 us1 ws1))) (fun i _ => c - (intOf i).toNat)
 case atStart =>
  obtain ⟨a1, a2, a3, a4, a5⟩ := K3.out
  refine ⟨0, 0, id, zs, us0, ws0, Nat.zero_le _, rfl, Hid.mk ⟨a1, a2, EchSt.start _ _ _, (EInv.start (ent c zs) r c).congr (fun _ _ _ _ => rfl) (fun _ _ _ _ => rfl) a4 a5, ⟨fun i j _ b d => HH.out.2.2 i j b d, HH.out.2.2, fun i j a b => ?_, fun i j a b => ?_⟩, .start _ ⟨fun _ _ _ _ => rfl, fun i j a b => (a4 i j a b).symm, fun i j a b => (a5 i j a b).symm⟩⟩⟩
  ·rw [a4 i j a b, uB]; unfold kd; split <;> decide
  ·rw [a5 i j a b, uB]; unfold kd; split <;> decide
 case round =>
  obtain ⟨e, t, pc, hs1, us1, ws1, he, rfl, HI⟩ := hrel
  obtain ⟨q0, q1, q2⟩ := K0.out.2.1
  have hbr := HI.out.2.1
  have q1' := (show wr.cell? ⟨w.heap.size, 1, none⟩ = some (.int .i64 c) from by rw [hbr.cell (p := ⟨w.heap.size, 1, none⟩) (by show w.heap.size < W0.heap.size; omega)]; exact q1)
  clear q0 q1 q2 hbr
  by_cases hec : e < c
  ·have hei : (e : Int) < (c : Int) := by omega
   have HG : Hid (GaBd (ent c hs1) (ent r us1) (ent r ws1) r c t e L (2 ^ bB r β t - 1) (2 ^ bB r β t - 1) (2 ^ uB r β t - 1) (2 ^ uB r β t - 1) (2 ^ bB r β (t + 1) - 1) (2 ^ uA r β (uB r β t) t - 1) (2 ^ uA r β (uB r β t) t - 1)) := Hid.mk (by
    obtain ⟨g1, g2, g3, g4, g5⟩ := HI.out.2.2.2.2.1.gaBd hec
    have hte := HI.out.2.2.1.te
    have e1 := hB_mono r β (show t + 1 ≤ c by omega)
    have e2 := uB_mono r β (show t + 1 ≤ c by omega)
    have e3 := bB_le r β (t + 1)
    have e4 : uA r β (uB r β t) t ≤ uB r β (t + 1) := by rw [uB]; omega
    have hh1 := HH.out.1
    have hh2 := HH.out.2.1
    have p1 : 2 ^ bB r β (t + 1) ≤ 4294967296 ^ L := by rw [pow32]; exact Nat.pow_le_pow_right (by decide) (by omega)
    have p2 : 2 ^ uA r β (uB r β t) t ≤ 4294967296 ^ L := by rw [pow32]; exact Nat.pow_le_pow_right (by decide) (by omega)
    have p3 : 0 < 2 ^ bB r β (t + 1) := Nat.pow_pos (by decide)
    have p4 : 0 < 2 ^ uA r β (uB r β t) t := Nat.pow_pos (by decide)
    exact ⟨g1, g2, g3, g4, g4, fun h => ⟨(g5 h).1, (g5 h).2, (g5 h).2⟩, by omega, by omega, by omega⟩)
   go_wp2_with fail
   refine (gather_any W0.heap.size w3.heap.size gH gU gW r c t e hs1 us1 ws1 (ent c zs) L _ _ _ _ _ _ _ _ HI.out.1 hr8 HI.out.2.2.1.le hec hL HG.out HI.out.2.2.2.1).mono ?_
   rintro e9 w4 ⟨rfl, hb4, ho⟩
   have K4 := Hid.mk (And.intro hb4 ho)
   clear hb4 ho
   go_wp2_with fail
   go_roundw
   case measure => simp [intOf]; omega
   case rel =>
    obtain ⟨i1, i2, i3, i4, i5, i6⟩ := HI.out
    rcases K4.out.2 with ⟨z1, z2⟩ | ⟨htr, hs2, us2, ws2, z2, z3, z4, z5⟩
    ·exact ⟨e + 1, t, pc, hs1, us1, ws1, by omega, by go_num, Hid.mk ⟨z2, i2.trans K4.out.1, i3.skip z1, i4, i5, .step _ _ _ _ _ i6 (.inl ⟨z1, rfl, F3.Eq.refl _ _ _⟩)⟩⟩
    ·have hE := i5.next htr hec z4
     have hte := i3.te
     have e1 := hB_mono r β (show t + 1 ≤ c by omega)
     have e2 := uB_mono r β (show t + 1 ≤ c by omega)
     have hh1 := HH.out.1
     have hh2 := HH.out.2.1
     have p1 : 2 ^ hB r β (t + 1) ≤ 4294967296 ^ L := by rw [pow32]; exact Nat.pow_le_pow_right (by decide) (by omega)
     have p2 : 2 ^ uB r β (t + 1) ≤ 4294967296 ^ L := by rw [pow32]; exact Nat.pow_le_pow_right (by decide) (by omega)
     exact ⟨e + 1, t + 1, _, hs2, us2, ws2, by omega, by go_num, Hid.mk ⟨z2.fit (fun i j a b => Nat.lt_of_lt_of_le (hE.h i j a b) p1) (fun i j a b => Nat.lt_of_lt_of_le (hE.u i j a b) p2) (fun i j a b => Nat.lt_of_lt_of_le (hE.w i j a b) p2), i2.trans K4.out.1, i3.pivot htr hec z4, z3, hE, .step _ _ _ _ _ i6 z5⟩⟩
  ·have hei : ¬ (e : Int) < (c : Int) := by omega
   have hee : e = c := by omega
   have HEE := Hid.mk hee
   clear hee
   obtain ⟨a0, a1, a2⟩ := HI.out.1.H.tri
   obtain ⟨a3, a4, a5⟩ := HI.out.1.U.tri
   obtain ⟨a6, a7, a8⟩ := HI.out.1.W.tri
   have a9 := HI.out.1.rk
   have hR : wr.heap[w.heap.size + 1]? = some (.cells #[.int .i64 0, .int .i64 0, .slice none 0 0, .int .i64 0, .int .i64 0, .slice none 0 0, .int .i64 0, .int .i64 0, .slice none 0 0, .int .i64 0] 82 (0, 0)) := (HI.out.2.1.block _ (by omega)).trans K0.out.2.2.1
   have HR := Hid.mk hR
   have b0 : ∀ i v, (#[Value.int .i64 0, .int .i64 0, .slice none 0 0, .int .i64 0, .int .i64 0, .slice none 0 0, .int .i64 0, .int .i64 0, .slice none 0 0, .int .i64 0])[i]? = some v → wr.cell? ⟨w.heap.size + 1, i, none⟩ = some v := fun i v h => by simpa [World.cell?, hR] using h
   have f0 : ∀ o, wr.frozen? ⟨w.heap.size + 1, o, none⟩ = false := fun o => by simp [World.frozen?, hR]
   clear hR
   have y0 := b0 0 _ rfl
   have y1 := b0 1 _ rfl
   have y2 := b0 2 _ rfl
   have y3 := b0 3 _ rfl
   have y4 := b0 4 _ rfl
   have y5 := b0 5 _ rfl
   have y6 := b0 6 _ rfl
   have y7 := b0 7 _ rfl
   have y8 := b0 8 _ rfl
   have y9 := b0 9 _ rfl
   clear b0
   go_wp2_with fail
   refine bodyPost_ret (v := .agg #[.int .i64 r, .int .i64 c, .slice (some ⟨gH, 0, none⟩) (r * c) (r * c), .int .i64 r, .int .i64 r, .slice (some ⟨gU, 0, none⟩) (r * r) (r * r), .int .i64 r, .int .i64 r, .slice (some ⟨gW, 0, none⟩) (r * r) (r * r), .int .i64 t]) ?_ rfl ?_
   ·(simp [results, Tryz.results45, go_sem, y0, y1, y2, y3, y4, y5, y6, y7, y8, y9]; done)
   ·have hTy : Ty wr (w.heap.size + 1) 82 := ⟨_, _, HR.out⟩
    obtain ⟨i1, i2, i3, i4, i5, i6⟩ := HI.out
    have key : ∀ W, KU wr W → wr.grownBy W (some (w.heap.size + 1)) → EchOut w W (.returned (.agg #[.int .i64 r, .int .i64 c, .slice (some ⟨gH, 0, none⟩) (r * c) (r * c), .int .i64 r, .int .i64 r, .slice (some ⟨gU, 0, none⟩) (r * r) (r * r), .int .i64 r, .int .i64 r, .slice (some ⟨gW, 0, none⟩) (r * r) (r * r), .int .i64 t])) r c zs β L := by
     intro W hk hg
     have hne : ∀ g, W0.heap.size ≤ g → ∀ (n m : Nat) (a : Addr) (m' c' : Nat), Value.slice (some ⟨g, 0, none⟩) n m = .slice (some a) m' c' → a.block ≠ w.heap.size + 1 := fun g h n m a m' c' e => by
      simp only [Value.slice.injEq, Option.some.injEq] at e
      obtain ⟨rfl, -, -⟩ := e
      show g ≠ w.heap.size + 1
      omega
     refine ⟨_, t, pc, hs1, us1, ws1, rfl, ⟨_, _, _, rfl, ⟨hr, hc, _, rfl, i1.H.grid.grown hg (hne gH i1.b1 _ _) hk⟩, ⟨hr, hr, _, rfl, i1.U.grid.grown hg (hne gU i1.b2 _ _) hk⟩, ⟨hr, hr, _, rfl, i1.W.grid.grown hg (hne gW i1.b3 _ _) hk⟩⟩, ?_, i4, i5, ?_, by rw [← HEE.out]; exact HEE.out ▸ i6⟩
     ·have := HEE.out
      rw [this] at i3
      exact i3
     ·have hb := (K0.out.1.trans (i2.mono (by omega)))
      exact hb.trans (below_of_grown hg (by omega) (by have := i2.size; omega))
    have h10 := set10 wr (w.heap.size + 1) hTy (by decide) (.int .i64 r) (.int .i64 c) (.slice (some ⟨gH, 0, none⟩) (r * c) (r * c)) (.int .i64 r) (.int .i64 r) (.slice (some ⟨gU, 0, none⟩) (r * r) (r * r)) (.int .i64 r) (.int .i64 r) (.slice (some ⟨gW, 0, none⟩) (r * r) (r * r)) (.int .i64 t)
    exact key _ h10.1 h10.2
open Go.RowKit R
theorem EchSt.ech {r c k : Nat} {pc : Nat → Nat} {H : Nat → Nat → Int} (h : EchSt r c k pc H) : Ech H r c k pc :=
 ⟨h.le, h.col, h.up, fun b hb => by have := h.piv b hb; omega, fun a b hb hba har => h.below b hb a hba har, h.rest⟩
theorem ech_rankIs {r c k : Nat} {pc : Nat → Nat} {A H U W : Nat → Nat → Int} (h : EchSt r c k pc H) (hE : EInv A H U W r c) (hr : r ≤ 4) (hc : c ≤ 4) : RankIs A r c k :=
 ech_rank h.ech (fun m => allV_einv hE m) hr hc
theorem IsM.slice {w : World} {s : Value} {r c L : Nat} {zs : List Int} (h : IsM w (.agg #[.int .i64 r, .int .i64 c, s]) r c zs L) : ∃ ao cap, s = .slice ao (r * c) cap := by
 obtain ⟨_, _, sl, h2, h3⟩ := h
 obtain ⟨ao, cap, rfl, -⟩ := h3.shape
 simp only [Value.agg.injEq, Array.mk.injEq, List.cons.injEq, and_true, true_and] at h2
 exact ⟨ao, cap, h2⟩
theorem FitsP.ent {r c : Nat} {zs : List Int} (h : FitsP r c zs) (i j : Nat) (hi : i < r) (hj : j < c) : (ent c zs i j).natAbs < 2 ^ 48 := h.2.2 _ (idx_lt hi hj)
theorem size48 {r c : Nat} (hr : r ≤ 4) (hc : c ≤ 4) : hB r 48 c ≤ 32 * 4000 ∧ uB r 48 c ≤ 32 * 4000 := by
 have key : ∀ r : Fin 5, ∀ c : Fin 5, hB r.val 48 c.val ≤ 32 * 4000 ∧ uB r.val 48 c.val ≤ 32 * 4000 := by decide
 exact key ⟨r, by omega⟩ ⟨c, by omega⟩
theorem gech_fit (v : Value) (r c : Nat) (zs : List Int) (L : Nat) (w : World) (hm : IsM w v r c zs L) (hr : r ≤ 4) (hc : c ≤ 4) (hz : ∀ i j, i < r → j < c → (ent c zs i j).natAbs < 2 ^ 48) (hL : L ≤ 4000) :
 Calls Tryz.prog 45 #[v] w fun e w' => EchOut w w' e r c zs 48 4000 :=
 gech_any v r c zs 48 4000 w (hm.mono hL) (by omega) (by omega) hz (by omega) (size48 hr hc).1 (size48 hr hc).2
open Go.RowKit
open Go.RowKit R
theorem rank_uniq {f : Nat → Nat → Int} {r c k l : Nat} (h : RankIs f r c k) (h' : RankIs f r c l) : k = l := by
 obtain ⟨a1, a2, a3, a4⟩ := h
 obtain ⟨b1, b2, b3, b4⟩ := h'
 rcases Nat.lt_trichotomy k l with hlt | heq | hgt
 ·rcases a4 with h1 | h1 | h1
  ·omega
  ·omega
  ·exact absurd h1 (b3 k hlt)
 ·exact heq
 ·rcases b4 with h1 | h1 | h1
  ·omega
  ·omega
  ·exact absurd h1 (a3 l hgt)
end Go.Proofs.YtfjbijpagaipnaaGreatDoor
namespace Go.Proofs.YtfjbijpagaipnaaGreatDoor.R
open Go.RowKit
theorem LM_le {L k : Nat} (hL : L ≤ 1000000000) (hk : k ≤ 8) : LM L k ≤ 10000000000 := by
 have h1 : ∀ n, LM L n ≤ 3 + n * (L + n + 5) := by
  intro n
  induction n with
  | zero => simp [LM]
  | succ n ih =>
    rw [LM, Nat.succ_mul]
    have : n * (L + n + 5) ≤ n * (L + (n + 1) + 5) := Nat.mul_le_mul_left _ (by omega)
    omega
 have h2 := h1 k
 have h3 : k * (L + k + 5) ≤ 8 * (1000000000 + 8 + 5) := Nat.mul_le_mul hk (by omega)
 omega
set_option maxRecDepth 100000 in
set_option maxHeartbeats 4000000 in
theorem spans_any (b b' r q c : Nat) (gs gs' : Nat → Nat) (f f' : Nat → Nat → Int) (B B' L : Nat) (w : World) (h : IsR B w b r c gs f L) (h' : IsR B' w b' q c gs' f' L) (hr : r + q ≤ 12) (hc : c ≤ 4) (hL : L ≤ 1000000000) :
 Calls Tryz.prog 125 #[.pointer (some ⟨b, 0, none⟩), .pointer (some ⟨b', 0, none⟩)] w fun e w' => ∃ y : Bool, e = .returned (.bool y) ∧ (y = true ↔ ∃ k, RankIs f r c k ∧ RankIs (ov r f f') (r + q) c k ∧ divF (ov r f f') (r + q) c k = divF f r c k) ∧ Below w.heap.size w w' := by
 have H := Hid.mk (And.intro h h')
 clear h h'
 go_enter Tryz.func125, Tryz.ntmps125
 go_wp2_with fail
 refine (rank_any b r c gs f B L _ H.out.1 (by omega) (by omega) hL).mono ?_
 rintro e w1 ⟨k, rfl, hk, hb1⟩
 have K1 := Hid.mk (And.intro hk hb1)
 have hkc : k ≤ 4 := by have := hk.2.1; omega
 clear hk hb1
 go_wp2_with fail
 refine (over_any b b' r q c gs gs' f f' B B' L _ (H.out.1.keep (KR.of_below K1.out.2)) (H.out.2.keep (KR.of_below K1.out.2)) (by omega) (by omega)).mono ?_
 rintro e w2 ⟨rfl, ⟨go, hI⟩, hb2⟩
 have K2 := Hid.mk (And.intro hI (K1.out.2.trans (hb2.mono K1.out.2.size)))
 clear hI hb2
 go_wp2_with fail
 refine (rank_any _ (r + q) c go (ov r f f') 0 L _ K2.out.1 (by omega) (by omega) hL).mono ?_
 rintro e w3 ⟨k', rfl, hk', hb3⟩
 have K3 := Hid.mk (And.intro hk' (And.intro (K2.out.1.keep (KR.of_below hb3)) (K2.out.2.trans (hb3.mono K2.out.2.size))))
 clear hk' hb3
 by_cases hkk : (k : Int) = (k' : Int)
 ·have HK := Hid.mk hkk
  have hb0 : ((k : Int) != (k' : Int)) = false := by simp [hkk]
  clear hkk
  go_wp2_with fail
  refine (divisor_any b r c k gs f B L _ (H.out.1.keep (KR.of_below K3.out.2.2)) (by omega) (by omega) (by omega) hL (LM_le hL (by omega))).mono ?_
  rintro e w4 ⟨v4, rfl, hN4, hb4⟩
  obtain ⟨n4, o4, p4, x4, rfl, -⟩ := id hN4.parts
  have hb44 := (Below.refl w4.heap.size w4).alloc (Nat.le_refl _) (.cells #[.bool n4, .slice o4 x4.length p4] 138)
  have y0 : (w4.alloc (.cells #[.bool n4, .slice o4 x4.length p4] 138)).cell? ⟨w4.heap.size, 0, none⟩ = some (.bool n4) := new_cell _ _ _ _ _ rfl rfl
  have y1 : (w4.alloc (.cells #[.bool n4, .slice o4 x4.length p4] 138)).cell? ⟨w4.heap.size, 1, none⟩ = some (.slice o4 x4.length p4) := new_cell _ _ _ _ _ rfl rfl
  have hb34 : Below w3.heap.size w3 (w4.alloc (.cells #[.bool n4, .slice o4 x4.length p4] 138)) := hb4.trans (hb44.mono hb4.size)
  have K4 := Hid.mk (And.intro (hN4.below hb44) (And.intro (K3.out.2.1.keep (KR.of_below hb34)) (And.intro (K3.out.2.2.trans (hb34.mono K3.out.2.2.size)) (And.intro y0 y1))))
  clear hN4 hb4 hb44 hb34 y0 y1
  go_wp2_with fail
  refine (divisor_any _ (r + q) c k go (ov r f f') 0 L _ K4.out.2.1 (by omega) (by omega) (by omega) hL (LM_le hL (by omega))).mono ?_
  rintro e w5 ⟨v5, rfl, hN5, hb5⟩
  obtain ⟨n5, o5, p5, x5, rfl, -⟩ := id hN5.parts
  have hb55 := (Below.refl w5.heap.size w5).alloc (Nat.le_refl _) (.cells #[.bool n5, .slice o5 x5.length p5] 138)
  have hb46 := hb5.trans (hb55.mono hb5.size)
  have y0 := cell_later hb46 K4.out.2.2.2.1
  have y1 := cell_later hb46 K4.out.2.2.2.2
  have hw5 := hb5.size
  have K5 := Hid.mk (And.intro (K4.out.1.below hb46) (And.intro (hN5.below hb55) (K4.out.2.2.1.trans (hb46.mono K4.out.2.2.1.size))))
  clear hN5 hb5 hb55 hb46
  go_wp2_with fail
  refine (order_any _ _ _ _ (LM L k) (LM L k) _ K5.out.1 K5.out.2.1 (by have := LM_le hL (show k ≤ 8 by omega); omega) (by have := LM_le hL (show k ≤ 8 by omega); omega)).mono ?_
  rintro e w6 ⟨rfl, hb6⟩
  have K6 := Hid.mk (K5.out.2.2.trans (hb6.mono K5.out.2.2.size))
  clear hb6
  go_wp2_with fail
  go_ret
  refine ⟨_, rfl, ?_, K6.out⟩
  have e0 : k = k' := by have := HK.out; omega
  have e1 := K3.out.1
  rw [← e0] at e1
  constructor
  ·intro h
   have hz : sgn (((divF f r c k : Nat) : Int) - ((divF (ov r f f') (r + q) c k : Nat) : Int)) = 0 := by simpa using h
   refine ⟨k, K1.out.1, e1, ?_⟩
   unfold sgn at hz
   split at hz
   ·omega
   ·split at hz
    ·omega
    ·omega
  ·rintro ⟨l, h1, -, h3⟩
   obtain rfl := rank_uniq K1.out.1 h1
   rw [h3]
   simp [sgn]
 ·have HK := Hid.mk hkk
  have hb0 : ((k : Int) != (k' : Int)) = true := by simp [hkk]
  clear hkk
  go_wp2_with fail
  go_ret
  refine ⟨false, rfl, ⟨(fun h => by cases h), ?_⟩, K3.out.2.2⟩
  rintro ⟨l, h1, h2, -⟩
  have e1 := rank_uniq K1.out.1 h1
  have e2 := rank_uniq K3.out.1 h2
  exact absurd (show (k : Int) = (k' : Int) by omega) HK.out
end Go.Proofs.YtfjbijpagaipnaaGreatDoor.R
namespace Go.Proofs.YtfjbijpagaipnaaGreatDoor
open Go.RowKit R
def FindL (es : List Ent) (h : Int) (v : Value) : Prop := (v = .pointer none ∧ ∀ e ∈ es, ((e.1 : Nat) : Int) ≠ h) ∨ ∃ e ∈ es, ((e.1 : Nat) : Int) = h ∧ v = .pointer (some ⟨e.2.2, 0, none⟩)
theorem LInv.lcells {B : Nat} {w : World} {W T b1 b2 : Nat} {ms : List Hm} {nx : Nat} {es : List Ent} (h : LInv B w W T b1 b2 ms nx es) : ∃ ioa icap loa lcap tv, w.cell? ⟨W, 0, none⟩ = some (.pointer (some ⟨T, 0, none⟩)) ∧ w.cell? ⟨W, 1, none⟩ = some (.slice ioa es.length icap) ∧ w.cell? ⟨W, 2, none⟩ = some (.slice loa es.length lcap) ∧ w.cell? ⟨W, 3, none⟩ = some tv ∧
 es.length ≤ icap ∧ icap ≤ 9223372036854775807 ∧ es.length ≤ lcap ∧ lcap ≤ 9223372036854775807 ∧ (∀ i (hi : i < es.length), (∃ g, ioa = some ⟨g, 0, none⟩ ∧ w.cell? ⟨g, i, none⟩ = some (.int .i64 ((es[i].1 : Nat) : Int))) ∧ (∃ g, loa = some ⟨g, 0, none⟩ ∧ w.cell? ⟨g, i, none⟩ = some (.pointer (some ⟨es[i].2.2, 0, none⟩)))) := by
 obtain ⟨-, ⟨hv, iv, lv, tv, h2, h3, h4, h5, -⟩, -⟩ := h
 obtain ⟨ioa, icap, rfl, a1, a2, -, a3⟩ := h3.shape
 obtain ⟨loa, lcap, rfl, d1, d2, -, d3⟩ := h4.shape
 rw [idc_len] at a1 a3 h2
 rw [lpc_len] at d1 d3 h2
 obtain ⟨c0, c1, c2, c3, c4, c5, -⟩ := h2.cells
 refine ⟨ioa, icap, loa, lcap, tv, c0, c1, c2, c3, a1, a2, d1, d2, fun i hi => ⟨?_, ?_⟩⟩
 ·obtain ⟨g, e1, e2⟩ := a3 i hi
  exact ⟨g, e1, by rw [e2, idc_at es i hi]⟩
 ·obtain ⟨g, e1, e2⟩ := d3 i hi
  exact ⟨g, e1, by rw [e2]; simp [lpc, hi]⟩
set_option maxRecDepth 100000 in
set_option maxHeartbeats 2000000 in
theorem lfind_any (B W T b1 b2 : Nat) (ms : List Hm) (nx : Nat) (es : List Ent) (h : Int) (w : World) (hI : LInv B w W T b1 b2 ms nx es) :
 Calls Tryz.prog 166 #[.pointer (some ⟨W, 0, none⟩), .int .i64 h] w fun x w' => (∃ v, x = .returned v ∧ FindL es h v) ∧ Below w.heap.size w w' := by
 have hle := hI.le24
 obtain ⟨ioa, icap, loa, lcap, tv, c0, c1, c2, c3, a1, a2, d1, d2, a3⟩ := hI.lcells
 have HA := Hid.mk a3
 clear hI a3
 go_enter Tryz.func166, Tryz.ntmps166
 go_wp2_with fail
 go_loopw [5] (fun i wr => ∃ k : Nat, k ≤ es.length ∧ i = .int .i64 k ∧ Below w.heap.size w wr ∧ Hid (∀ i (hi : i < es.length), i < k → ((es[i].1 : Nat) : Int) ≠ h)) (fun i _ => es.length - (intOf i).toNat)
 case atStart => exact ⟨0, Nat.zero_le _, rfl, Below.refl _ _, Hid.mk (fun i _ hi => by omega)⟩
 case round =>
  obtain ⟨k, hk, rfl, hbel, HI⟩ := hrel
  have e1 := cell_later hbel c1
  have e2 := cell_later hbel c2
  have hwr := hbel.size
  have K := Hid.mk hbel
  clear hbel
  by_cases hkl : k < es.length
  ·obtain ⟨⟨gi, rfl, f1⟩, ⟨gl, rfl, f2⟩⟩ := HA.out k hkl
   obtain ⟨hd, hhd⟩ : ∃ hd, hd = es[k].1 := ⟨_, rfl⟩
   obtain ⟨pp, hpp⟩ : ∃ pp, pp = es[k].2.2 := ⟨_, rfl⟩
   rw [← hhd] at f1
   rw [← hpp] at f2
   have f1' := cell_later K.out f1
   have f2' := cell_later K.out f2
   have HD := Hid.mk (And.intro hhd hpp)
   have hki : (k : Int) < (es.length : Int) := by omega
   clear hhd hpp f1 f2
   by_cases hdh : (hd : Int) = h
   ·have hb : ((hd : Int) == h) = true := beq_iff_eq.2 hdh
    have HDH := Hid.mk hdh
    clear hdh
    go_wp2_with fail
    try go_quiet (fail)
    try go_wp2_with fail
    go_ret
    refine ⟨⟨_, rfl, .inr ⟨es[k], List.getElem_mem hkl, ?_, ?_⟩⟩, ?_⟩
    ·rw [← HD.out.1]; exact HDH.out
    ·rw [← HD.out.2]; rfl
    ·first | exact K.out | exact below_drewN K.out _
   ·have hb : ((hd : Int) == h) = false := beq_eq_false_iff_ne.2 hdh
    have HDH := Hid.mk hdh
    clear hdh
    go_wp2_with fail
    try go_quiet (fail)
    try go_wp2_with fail
    go_roundw
    case measure => simp [intOf]; omega
    case rel =>
     refine ⟨k + 1, by omega, by go_num, by first | exact K.out | exact below_drewN K.out _, Hid.mk (fun i hi hik => ?_)⟩
     by_cases hik' : i = k
     ·subst hik'
      rw [← HD.out.1]; exact HDH.out
     ·exact HI.out i hi (by omega)
  ·go_wp2_with fail
   try go_quiet (fail)
   try go_wp2_with fail
   go_ret
   refine ⟨⟨_, rfl, .inl ⟨rfl, fun e he => ?_⟩⟩, by first | exact K.out | exact below_drewN K.out _⟩
   obtain ⟨i, hi, rfl⟩ := List.mem_iff_getElem.1 he
   exact HI.out i hi (by omega)
theorem fine_eq {r c r' c' : Nat} {zs zs' : List Int} (h : Fine r c zs) (h' : Fine r' c' zs') (he : matT r c zs = matT r' c' zs') : r = r' ∧ c = c' ∧ zs = zs' := by
 obtain ⟨rfl, rfl, hz⟩ := fine_uniq h h' he
 refine ⟨rfl, rfl, List.ext_getElem (by rw [h.2.2.1, h'.2.2.1]) (fun t h1 h2 => ?_)⟩
 have ht : t < r * c := by have := h.2.2.1; omega
 have hc : 0 < c := by
  rcases Nat.eq_zero_or_pos c with h0 | h0
  ·subst h0; rw [Nat.mul_zero] at ht; omega
  ·exact h0
 have h3 : t / c < r := by rw [Nat.div_lt_iff_lt_mul hc]; exact ht
 have h4 := Nat.mod_lt t hc
 have h5 : t / c * c + t % c = t := by rw [Nat.mul_comm]; exact Nat.div_add_mod t c
 have h6 := hz (t / c) (t % c) h3 h4
 unfold fz at h6
 rw [h5] at h6
 simpa [List.getD, List.getElem?_eq_getElem h1, List.getElem?_eq_getElem h2] using h6
theorem held_side {w : World} {b : Nat} {ms : List Hm} {nx k hd r c : Nat} {zs : List Int} (h : Held w b ms nx) (hk : k < 24) (hx : ms.getD k none = some (hd, r, c, zs)) : r ≤ 99 ∧ c ≤ 99 ∧ zs.length = r * c := by
 obtain ⟨-, -, sl, -, hsl⟩ := h
 have h1 := hsl k hk
 rw [hx] at h1
 cases hs : sl.getD k none with
 | none => rw [hs] at h1; exact h1.elim
 | some y =>
   rw [hs] at h1
   obtain ⟨-, -, -, h2, h3, s, -, h4⟩ := h1
   exact ⟨h2, h3, h4.1⟩
theorem LInv.entry {B : Nat} {w : World} {W T b1 b2 : Nat} {ms : List Hm} {nx : Nat} {es : List Ent} (h : LInv B w W T b1 b2 ms nx es) {e : Ent} (he : e ∈ es) {k hd r c : Nat} {zs : List Int} (hk : k < 24) (hx : ms.getD k none = some (hd, r, c, zs)) (hh : e.1 = hd) : e.2.1 = matT r c zs ∧ Fine r c zs ∧ ∃ lo hi, MatAt w lo hi e.2.2 r c (fz c zs) := by
 obtain ⟨hT, ⟨hv, iv, lv, tv, -, -, -, -, -, hM, -⟩, hR⟩ := h
 obtain ⟨r1, c1, zs1, lo, hi, h1, h2, h3, -⟩ := hM e he
 obtain ⟨k2, x, hk2, hx2, h4, h5⟩ := hR.has e he
 have hkk : k2 = k := hR.dst k2 k x _ hk2 hk hx2 hx (by rw [h4, hh])
 subst hkk
 rw [hx] at hx2
 injection hx2 with hx2
 subst hx2
 obtain ⟨s1, s2, s3⟩ := held_side hT.2.1 hk hx
 have hf : Fine r c zs := ⟨s1, s2, s3, by rw [← h5, h1]; exact h2.2.2.2⟩
 obtain ⟨rfl, rfl, rfl⟩ := fine_eq h2 hf (by rw [← h1, h5])
 exact ⟨h5, hf, lo, hi, h3⟩
theorem LInv.ent_of {B : Nat} {w : World} {W T b1 b2 : Nat} {ms : List Hm} {nx : Nat} {es : List Ent} (h : LInv B w W T b1 b2 ms nx es) {e : Ent} (he : e ∈ es) : ∃ k r c zs, k < 24 ∧ ms.getD k none = some (e.1, r, c, zs) := by
 obtain ⟨k, x, hk, hx, h4, -⟩ := h.2.2.has e he
 obtain ⟨hd, r, c, zs⟩ := x
 simp only at h4
 subst h4
 exact ⟨k, r, c, zs, hk, hx⟩
open Go.RowKit
abbrev set6 (V : World) (A B : Nat) (x1 x2 x3 y1 y2 y3 : Value) : World := (((((V.setCell ⟨A, 0, none⟩ x1).setCell ⟨A, 1, none⟩ x2).setCell ⟨A, 2, none⟩ x3).setCell ⟨B, 0, none⟩ y1).setCell ⟨B, 1, none⟩ y2).setCell ⟨B, 2, none⟩ y3
theorem set3_trio {V : World} {A : Nat} {u1 u2 u3 : Value} (h : Trio V A u1 u2 u3) (x1 x2 x3 : Value) : Trio (((V.setCell ⟨A, 0, none⟩ x1).setCell ⟨A, 1, none⟩ x2).setCell ⟨A, 2, none⟩ x3) A x1 x2 x3 := by
 obtain ⟨h0, h1, h2⟩ := h
 have o := fun (i j : Nat) (h : i ≠ j) (W : World) (v : Value) => World.cell?_setCell_other (w := W) (v := v) (a := ⟨A, i, none⟩) (b := ⟨A, j, none⟩) (fun e => h (congrArg Addr.off e))
 refine ⟨?_, ?_, ?_⟩
 ·exact (o 2 0 (by decide) _ _).trans ((o 1 0 (by decide) _ _).trans (World.cell?_setCell_same _ _ _ h0))
 ·exact (o 2 1 (by decide) _ _).trans (World.cell?_setCell_same _ _ _ ((o 0 1 (by decide) _ _).trans h1))
 ·exact World.cell?_setCell_same _ _ _ ((o 1 2 (by decide) _ _).trans ((o 0 2 (by decide) _ _).trans h2))
theorem set3_far {V : World} {A B : Nat} {u1 u2 u3 : Value} (h : Trio V A u1 u2 u3) (hne : B ≠ A) (x1 x2 x3 : Value) : Trio (((V.setCell ⟨B, 0, none⟩ x1).setCell ⟨B, 1, none⟩ x2).setCell ⟨B, 2, none⟩ x3) A u1 u2 u3 := by
 obtain ⟨h0, h1, h2⟩ := h
 have o := fun (i j : Nat) (W : World) (v : Value) => World.cell?_setCell_other (w := W) (v := v) (a := ⟨B, i, none⟩) (b := ⟨A, j, none⟩) (fun e => hne (congrArg Addr.block e))
 exact ⟨(o 2 0 _ _).trans ((o 1 0 _ _).trans ((o 0 0 _ _).trans h0)), (o 2 1 _ _).trans ((o 1 1 _ _).trans ((o 0 1 _ _).trans h1)), (o 2 2 _ _).trans ((o 1 2 _ _).trans ((o 0 2 _ _).trans h2))⟩
theorem set6_trio {V : World} {A B : Nat} {u1 u2 u3 v1 v2 v3 : Value} (hA : Trio V A u1 u2 u3) (hB : Trio V B v1 v2 v3) (hne : A ≠ B) (x1 x2 x3 y1 y2 y3 : Value) :
 Trio (set6 V A B x1 x2 x3 y1 y2 y3) A x1 x2 x3 ∧ Trio (set6 V A B x1 x2 x3 y1 y2 y3) B y1 y2 y3 :=
 ⟨set3_far (set3_trio hA x1 x2 x3) hne.symm y1 y2 y3, set3_trio (set3_far hB hne x1 x2 x3) y1 y2 y3⟩
theorem set6_below {V W : World} {n A B : Nat} (h : Below n W V) (hA : n ≤ A) (hB : n ≤ B) (x1 x2 x3 y1 y2 y3 : Value) : Below n W (set6 V A B x1 x2 x3 y1 y2 y3) :=
 (((((h.setCell hA x1).setCell hA x2).setCell hA x3).setCell hB y1).setCell hB y2).setCell hB y3
theorem set6_KT (V : World) {A B : Nat} {s t : TypeId} (hA : Ty V A s) (hB : Ty V B t) (s1 : s ≠ 165) (s2 : s ≠ 94) (t1 : t ≠ 165) (t2 : t ≠ 94) (x1 x2 x3 y1 y2 y3 : Value) : KT V (set6 V A B x1 x2 x3 y1 y2 y3) := by
 have a1 := hA.setCell ⟨A, 0, none⟩ x1
 have a2 := a1.setCell ⟨A, 1, none⟩ x2
 have b3 := ((hB.setCell ⟨A, 0, none⟩ x1).setCell ⟨A, 1, none⟩ x2).setCell ⟨A, 2, none⟩ x3
 have b4 := b3.setCell ⟨B, 0, none⟩ y1
 have b5 := b4.setCell ⟨B, 1, none⟩ y2
 exact (((((((KT.refl V).setCell hA s1 s2 x1).setCell a1 s1 s2 x2).setCell a2 s1 s2 x3).setCell b3 t1 t2 y1).setCell b4 t1 t2 y2).setCell b5 t1 t2 y3)
end Go.Proofs.YtfjbijpagaipnaaGreatDoor
