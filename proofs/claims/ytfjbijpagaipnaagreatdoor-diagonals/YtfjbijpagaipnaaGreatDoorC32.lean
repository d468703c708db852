import Derived.Test.YtfjbijpagaipnaaGreatDoorC31
import Derived.Test.YtfjbijpagaipnaaGreatDoorC13
namespace Go.Proofs.YtfjbijpagaipnaaGreatDoor
open Go.RowKit
theorem set10 (w : World) (b : Nat) {t : TypeId} (ht : Ty w b t) (hne : t ≠ 165) (v0 v1 v2 v3 v4 v5 v6 v7 v8 v9 : Value) : KU w ((((((((((w.setCell ⟨b, 0, none⟩ v0).setCell ⟨b, 1, none⟩ v1).setCell ⟨b, 2, none⟩ v2).setCell ⟨b, 3, none⟩ v3).setCell ⟨b, 4, none⟩ v4).setCell ⟨b, 5, none⟩ v5).setCell ⟨b, 6, none⟩ v6).setCell ⟨b, 7, none⟩ v7).setCell ⟨b, 8, none⟩ v8).setCell ⟨b, 9, none⟩ v9) ∧ w.grownBy ((((((((((w.setCell ⟨b, 0, none⟩ v0).setCell ⟨b, 1, none⟩ v1).setCell ⟨b, 2, none⟩ v2).setCell ⟨b, 3, none⟩ v3).setCell ⟨b, 4, none⟩ v4).setCell ⟨b, 5, none⟩ v5).setCell ⟨b, 6, none⟩ v6).setCell ⟨b, 7, none⟩ v7).setCell ⟨b, 8, none⟩ v8).setCell ⟨b, 9, none⟩ v9) (some b) := by
 have k0 := KU.setCell (o := 0) (KU.refl w) ht hne v0
 have t0 := ht.setCell ⟨b, 0, none⟩ v0
 have g0 := grown_trans (World.grownBy.refl w (some b)) (grown_cell _ b 0 v0)
 have k1 := KU.setCell (o := 1) k0 t0 hne v1
 have t1 := t0.setCell ⟨b, 1, none⟩ v1
 have g1 := grown_trans g0 (grown_cell _ b 1 v1)
 have k2 := KU.setCell (o := 2) k1 t1 hne v2
 have t2 := t1.setCell ⟨b, 2, none⟩ v2
 have g2 := grown_trans g1 (grown_cell _ b 2 v2)
 have k3 := KU.setCell (o := 3) k2 t2 hne v3
 have t3 := t2.setCell ⟨b, 3, none⟩ v3
 have g3 := grown_trans g2 (grown_cell _ b 3 v3)
 have k4 := KU.setCell (o := 4) k3 t3 hne v4
 have t4 := t3.setCell ⟨b, 4, none⟩ v4
 have g4 := grown_trans g3 (grown_cell _ b 4 v4)
 have k5 := KU.setCell (o := 5) k4 t4 hne v5
 have t5 := t4.setCell ⟨b, 5, none⟩ v5
 have g5 := grown_trans g4 (grown_cell _ b 5 v5)
 have k6 := KU.setCell (o := 6) k5 t5 hne v6
 have t6 := t5.setCell ⟨b, 6, none⟩ v6
 have g6 := grown_trans g5 (grown_cell _ b 6 v6)
 have k7 := KU.setCell (o := 7) k6 t6 hne v7
 have t7 := t6.setCell ⟨b, 7, none⟩ v7
 have g7 := grown_trans g6 (grown_cell _ b 7 v7)
 have k8 := KU.setCell (o := 8) k7 t7 hne v8
 have t8 := t7.setCell ⟨b, 8, none⟩ v8
 have g8 := grown_trans g7 (grown_cell _ b 8 v8)
 have k9 := KU.setCell (o := 9) k8 t8 hne v9
 have g9 := grown_trans g8 (grown_cell _ b 9 v9)
 exact ⟨k9, g9⟩
def IsF (w : World) (v : Value) (r c k : Nat) (hs us ws : List Int) (L : Nat) : Prop := ∃ sH sU sW : Value, v = .agg #[.int .i64 r, .int .i64 c, sH, .int .i64 r, .int .i64 r, sU, .int .i64 r, .int .i64 r, sW, .int .i64 k] ∧ IsM w (.agg #[.int .i64 r, .int .i64 c, sH]) r c hs L ∧ IsM w (.agg #[.int .i64 r, .int .i64 r, sU]) r r us L ∧ IsM w (.agg #[.int .i64 r, .int .i64 r, sW]) r r ws L
def EchOut (w w' : World) (e : Ending) (r c : Nat) (zs : List Int) (β L : Nat) : Prop := ∃ (v : Value) (k : Nat) (pc : Nat → Nat) (hs us ws : List Int), e = .returned v ∧ IsF w' v r c k hs us ws L ∧ EchSt r c k pc (ent c hs) ∧ EInv (ent c zs) (ent c hs) (ent r us) (ent r ws) r c ∧ EB (ent c hs) (ent r us) (ent r ws) r c k β ∧ Below w.heap.size w w' ∧ EcTo r c (ent c zs) c k (e3 r c hs us ws)
set_option maxRecDepth 100000 in
set_option maxHeartbeats 4000000 in
theorem gech_any (v : Value) (r c : Nat) (zs : List Int) (β L : Nat) (w : World) (hm : IsM w v r c zs L) (hr8 : r ≤ 8) (hc8 : c ≤ 8) (hβ : ∀ i j, i < r → j < c → (ent c zs i j).natAbs < 2 ^ β) (hL : L ≤ 60000000) (h1 : hB r β c ≤ 32 * L) (h2 : uB r β c ≤ 32 * L) :
 Calls Tryz.prog 45 #[v] w fun e w' => EchOut w w' e r c zs β L := by
 have HM := Hid.mk hm
 obtain ⟨hr, hc, sl, rfl, hg0⟩ := hm
 obtain ⟨ao, cap, rfl, -⟩ := hg0.shape
 obtain ⟨RC, hRC⟩ : ∃ RC, RC = r * c := ⟨_, rfl⟩
 rw [← hRC] at hg0
 rw [← hRC] at HM ⊢
 have H := Hid.mk (And.intro hg0 hRC)
 clear hg0 hRC
 go_enter Tryz.func45, Tryz.ntmps45
 go_wp2_with fail
 obtain ⟨W0, hW0⟩ : ∃ W0, W0 = (w.alloc (.cells #[.int .i64 r, .int .i64 c, .slice ao RC cap] 76)).alloc (.cells #[.int .i64 0, .int .i64 0, .slice none 0 0, .int .i64 0, .int .i64 0, .slice none 0 0, .int .i64 0, .int .i64 0, .slice none 0 0, .int .i64 0] 82) := ⟨_, rfl⟩
 have hs0 : W0.heap.size = w.heap.size + 2 := by rw [hW0]; simp
 have hb0 : Below w.heap.size w W0 := by rw [hW0]; repeat (first | exact Below.refl _ _ | refine Below.alloc ?_ (by simp <;> omega) _)
 have hbA := (Below.refl w.heap.size w).alloc (Nat.le_refl _) (.cells #[.int .i64 r, .int .i64 c, .slice ao RC cap] 76)
 have hm0 : Trio W0 w.heap.size (.int .i64 r) (.int .i64 c) (.slice ao RC cap) := by
  rw [hW0]
  exact Trio.later (w := w.alloc (.cells #[.int .i64 r, .int .i64 c, .slice ao RC cap] 76)) ⟨new_cell _ _ _ _ _ rfl rfl, new_cell _ _ _ _ _ rfl rfl, new_cell _ _ _ _ _ rfl rfl⟩ ((Below.refl _ _).alloc (Nat.le_refl _) _)
 have hR0 : W0.heap[w.heap.size + 1]? = some (.cells #[.int .i64 0, .int .i64 0, .slice none 0 0, .int .i64 0, .int .i64 0, .slice none 0 0, .int .i64 0, .int .i64 0, .slice none 0 0, .int .i64 0] 82 (0, 0)) := by
  rw [hW0]
  have := heap_alloc_new (w.alloc (.cells #[.int .i64 r, .int .i64 c, .slice ao RC cap] 76)) (.cells #[.int .i64 0, .int .i64 0, .slice none 0 0, .int .i64 0, .int .i64 0, .slice none 0 0, .int .i64 0, .int .i64 0, .slice none 0 0, .int .i64 0] 82)
  simpa using this
 have K0 := Hid.mk (And.intro hb0 (And.intro hm0 (And.intro hR0 hW0)))
 rw [← hW0]
 clear hb0 hm0 hR0 hW0 hbA
 refine (fromCells_new r c _ zs L _ hr hc (by rw [← H.out.2]; exact H.out.1.below K0.out.1)).mono ?_
 rintro e w1 ⟨gH, rfl, hg1, hG1, hb1⟩
 rw [← H.out.2] at hG1 ⊢
 have hw1 : W0.heap.size ≤ w1.heap.size := hb1.size
 have hgl := hG1.ty.lt
 obtain ⟨q0, q1, q2⟩ := K0.out.2.1.later hb1
 have K1 := Hid.mk (And.intro hG1 hb1)
 clear hG1 hb1
 go_wp2_with fail
 obtain ⟨W1, hW1⟩ : ∃ W1, W1 = w1.alloc (.cells #[.int .i64 r, .int .i64 c, .slice (some ⟨gH, 0, none⟩) RC RC] 76) := ⟨_, rfl⟩
 have hs1 : W1.heap.size = w1.heap.size + 1 := by rw [hW1]; simp
 have hb11 : Below w1.heap.size w1 W1 := by rw [hW1]; exact (Below.refl _ _).alloc (Nat.le_refl _) _
 have hmS : Trio W1 w1.heap.size (.int .i64 r) (.int .i64 c) (.slice (some ⟨gH, 0, none⟩) RC RC) := by rw [hW1]; exact ⟨new_cell _ _ _ _ _ rfl rfl, new_cell _ _ _ _ _ rfl rfl, new_cell _ _ _ _ _ rfl rfl⟩
 rw [← hW1]
 have hbW1 := K1.out.2.trans (hb11.mono hw1)
 have hm1 := K0.out.2.1.later hbW1
 have hR1 : W1.heap[w.heap.size + 1]? = some (.cells #[.int .i64 0, .int .i64 0, .slice none 0 0, .int .i64 0, .int .i64 0, .slice none 0 0, .int .i64 0, .int .i64 0, .slice none 0 0, .int .i64 0] 82 (0, 0)) := (hbW1.block _ (by omega)).trans K0.out.2.2.1
 have K2 := Hid.mk (And.intro (K1.out.1.below hb11) (And.intro hbW1 (And.intro hm1 (And.intro hR1 hmS))))
 have HC := Hid.mk (show ∀ w', Below W1.heap.size W1 w' → w'.cell? ⟨w.heap.size, 0, none⟩ = some (.int .i64 r) ∧ w'.cell? ⟨w1.heap.size, 0, none⟩ = some (.int .i64 r) ∧ w'.cell? ⟨w1.heap.size, 1, none⟩ = some (.int .i64 c) ∧ w'.cell? ⟨w1.heap.size, 2, none⟩ = some (.slice (some ⟨gH, 0, none⟩) RC RC) from
  fun w' hb => ⟨(hm1.later hb).1, (hmS.later hb).1, (hmS.later hb).2.1, (hmS.later hb).2.2⟩)
 clear hW1 hb11 hmS hbW1 hm1 hR1 q0 q1 q2
 go_region_held3 (fun w' => w'.cell? ⟨w.heap.size, 0, none⟩ = some (.int .i64 r) ∧ w'.cell? ⟨w1.heap.size, 0, none⟩ = some (.int .i64 r) ∧ w'.cell? ⟨w1.heap.size, 1, none⟩ = some (.int .i64 c) ∧ w'.cell? ⟨w1.heap.size, 2, none⟩ = some (.slice (some ⟨gH, 0, none⟩) RC RC))
  (exact HC.out _ (by first | exact hbU2 | exact hbU2.alloc hbU2.size _ | exact hbU1 | exact (Below.refl _ _).drew))
  (first
    | (go_at_call 78; (have hbU0 := hbU1); refine (unit_any r _ hr).mono ?_; rintro e9 w3 ⟨gW, ws0, rfl, hgW, hGW, hkW, hb3⟩; have hbU2 : Below W1.heap.size W1 w3 := hbU0.trans (hb3.mono hbU0.size); have hGU3 := hGU.below hb3; have hgUl := hGU.ty.lt; clear hb3 hbU0 hGU)
    | (go_at_call 78; refine (unit_any r _ hr).mono ?_; rintro e9 w2 ⟨gU, us0, rfl, hgU, hGU, hkU, hb2⟩; have hbU1 : Below W1.heap.size W1 w2 := ((Below.refl _ _).drew).trans hb2; clear hb2))
 obtain ⟨W3, hW3⟩ : ∃ W3, W3 = w3.alloc (.cells #[.int .i64 r, .int .i64 c, .slice (some ⟨gH, 0, none⟩) RC RC, .int .i64 r, .int .i64 r, .slice (some ⟨gU, 0, none⟩) (r * r) (r * r), .int .i64 r, .int .i64 r, .slice (some ⟨gW, 0, none⟩) (r * r) (r * r), .int .i64 0] 82) := ⟨_, rfl⟩
 have hs3 : W3.heap.size = w3.heap.size + 1 := by rw [hW3]; simp
 have hb33 : Below w3.heap.size w3 W3 := by rw [hW3]; exact (Below.refl _ _).alloc (Nat.le_refl _) _
 have hcell : ∀ i v, (#[Value.int .i64 r, .int .i64 c, .slice (some ⟨gH, 0, none⟩) RC RC, .int .i64 r, .int .i64 r, .slice (some ⟨gU, 0, none⟩) (r * r) (r * r), .int .i64 r, .int .i64 r, .slice (some ⟨gW, 0, none⟩) (r * r) (r * r), .int .i64 0])[i]? = some v → W3.cell? ⟨w3.heap.size, i, none⟩ = some v := fun i v h => by rw [hW3]; exact new_cell _ _ _ _ _ rfl h
 have hw3s : W1.heap.size ≤ w3.heap.size := hbU2.size
 have hgU2 : W1.heap.size ≤ gU := hgU
 have hgWl := hGW.ty.lt
 have hw2s : w2.heap.size ≤ w3.heap.size := by omega
 have hbW3 : Below W1.heap.size W1 W3 := hbU2.trans (hb33.mono hw3s)
 have hL1 : 1 ≤ L := by have := uB_mono r β (Nat.zero_le c); rw [uB] at this; omega
 have hF : FormO W3 W0.heap.size w3.heap.size gH gU gW r c 0 zs us0 ws0 L := by
  have hRC := H.out.2
  have hGH := K2.out.1.below hbW3
  refine ⟨⟨hr, hc, ⟨hcell 0 _ rfl, hcell 1 _ rfl, ?_⟩, by rw [← hRC]; exact hGH⟩, ⟨hr, hr, ⟨hcell 3 _ rfl, hcell 4 _ rfl, hcell 5 _ rfl⟩, (hGU3.below hb33).mono hL1⟩, ⟨hr, hr, ⟨hcell 6 _ rfl, hcell 7 _ rfl, hcell 8 _ rfl⟩, (hGW.below hb33).mono hL1⟩, hcell 9 _ rfl, by rw [hW3]; exact World.frozen?_alloc_new _ _ _ _, by rw [hW3]; exact Ty.new _ _ _, by omega, by omega, by omega, by omega, by omega, by omega, by omega, by omega, by omega, by omega⟩
  rw [← hRC]; exact hcell 2 _ rfl
 have hbB : Below W0.heap.size W0 W3 := K2.out.2.1.trans (hbW3.mono (by omega))
 have K3 := Hid.mk (And.intro hF (And.intro hbB (And.intro hW3 (And.intro hkU hkW))))
 rw [← hW3]
 clear hF hbB hW3 hcell hb33 hbW3 hkU hkW hGW hGU3 hbU2 hbU1
 go_wp2_with fail
 have HH := Hid.mk (And.intro h1 (And.intro h2 hβ))
 clear h1 h2 hβ
 go_loopw [5] (fun i wr => ∃ (e t : Nat) (pc : Nat → Nat) (hs1 us1 ws1 : List Int), e ≤ c ∧ i = .int .i64 e ∧ Hid (FormO wr W0.heap.size w3.heap.size gH gU gW r c t hs1 us1 ws1 L ∧ Below W0.heap.size W0 wr ∧ EchSt r e t pc (ent c hs1) ∧ EInv (ent c zs) (ent c hs1) (ent r us1) (ent r ws1) r c ∧ EB (ent c hs1) (ent r us1) (ent r ws1) r c t β ∧ EcTo r c (ent c zs) e t (e3 r c hs1 us1 ws1))) (fun i _ => c - (intOf i).toNat)
 case atStart =>
  obtain ⟨a1, a2, a3, a4, a5⟩ := K3.out
  refine ⟨0, 0, id, zs, us0, ws0, Nat.zero_le _, rfl, Hid.mk ⟨a1, a2, EchSt.start _ _ _, (EInv.start (ent c zs) r c).congr (fun _ _ _ _ => rfl) (fun _ _ _ _ => rfl) a4 a5, ⟨fun i j _ b d => HH.out.2.2 i j b d, HH.out.2.2, fun i j a b => ?_, fun i j a b => ?_⟩, .start _ ⟨fun _ _ _ _ => rfl, fun i j a b => (a4 i j a b).symm, fun i j a b => (a5 i j a b).symm⟩⟩⟩
  ·rw [a4 i j a b, uB]; unfold kd; split <;> decide
  ·rw [a5 i j a b, uB]; unfold kd; split <;> decide
 case round =>
  obtain ⟨e, t, pc, hs1, us1, ws1, he, rfl, HI⟩ := hrel
  obtain ⟨q0, q1, q2⟩ := K0.out.2.1
  have hbr := HI.out.2.1
  have q1' := (show wr.cell? ⟨w.heap.size, 1, none⟩ = some (.int .i64 c) from by rw [hbr.cell (p := ⟨w.heap.size, 1, none⟩) (by show w.heap.size < W0.heap.size; omega)]; exact q1)
  clear q0 q1 q2 hbr
  by_cases hec : e < c
  ·have hei : (e : Int) < (c : Int) := by omega
   have HG : Hid (GaBd (ent c hs1) (ent r us1) (ent r ws1) r c t e L (2 ^ bB r β t - 1) (2 ^ bB r β t - 1) (2 ^ uB r β t - 1) (2 ^ uB r β t - 1) (2 ^ bB r β (t + 1) - 1) (2 ^ uA r β (uB r β t) t - 1) (2 ^ uA r β (uB r β t) t - 1)) := Hid.mk (by
    obtain ⟨g1, g2, g3, g4, g5⟩ := HI.out.2.2.2.2.1.gaBd hec
    have hte := HI.out.2.2.1.te
    have e1 := hB_mono r β (show t + 1 ≤ c by omega)
    have e2 := uB_mono r β (show t + 1 ≤ c by omega)
    have e3 := bB_le r β (t + 1)
    have e4 : uA r β (uB r β t) t ≤ uB r β (t + 1) := by rw [uB]; omega
    have hh1 := HH.out.1
    have hh2 := HH.out.2.1
    have p1 : 2 ^ bB r β (t + 1) ≤ 4294967296 ^ L := by rw [pow32]; exact Nat.pow_le_pow_right (by decide) (by omega)
    have p2 : 2 ^ uA r β (uB r β t) t ≤ 4294967296 ^ L := by rw [pow32]; exact Nat.pow_le_pow_right (by decide) (by omega)
    have p3 : 0 < 2 ^ bB r β (t + 1) := Nat.pow_pos (by decide)
    have p4 : 0 < 2 ^ uA r β (uB r β t) t := Nat.pow_pos (by decide)
    exact ⟨g1, g2, g3, g4, g4, fun h => ⟨(g5 h).1, (g5 h).2, (g5 h).2⟩, by omega, by omega, by omega⟩)
   go_wp2_with fail
   refine (gather_any W0.heap.size w3.heap.size gH gU gW r c t e hs1 us1 ws1 (ent c zs) L _ _ _ _ _ _ _ _ HI.out.1 hr8 HI.out.2.2.1.le hec hL HG.out HI.out.2.2.2.1).mono ?_
   rintro e9 w4 ⟨rfl, hb4, ho⟩
   have K4 := Hid.mk (And.intro hb4 ho)
   clear hb4 ho
   go_wp2_with fail
   go_roundw
   case measure => simp [intOf]; omega
   case rel =>
    obtain ⟨i1, i2, i3, i4, i5, i6⟩ := HI.out
    rcases K4.out.2 with ⟨z1, z2⟩ | ⟨htr, hs2, us2, ws2, z2, z3, z4, z5⟩
    ·exact ⟨e + 1, t, pc, hs1, us1, ws1, by omega, by go_num, Hid.mk ⟨z2, i2.trans K4.out.1, i3.skip z1, i4, i5, .step _ _ _ _ _ i6 (.inl ⟨z1, rfl, F3.Eq.refl _ _ _⟩)⟩⟩
    ·have hE := i5.next htr hec z4
     have hte := i3.te
     have e1 := hB_mono r β (show t + 1 ≤ c by omega)
     have e2 := uB_mono r β (show t + 1 ≤ c by omega)
     have hh1 := HH.out.1
     have hh2 := HH.out.2.1
     have p1 : 2 ^ hB r β (t + 1) ≤ 4294967296 ^ L := by rw [pow32]; exact Nat.pow_le_pow_right (by decide) (by omega)
     have p2 : 2 ^ uB r β (t + 1) ≤ 4294967296 ^ L := by rw [pow32]; exact Nat.pow_le_pow_right (by decide) (by omega)
     exact ⟨e + 1, t + 1, _, hs2, us2, ws2, by omega, by go_num, Hid.mk ⟨z2.fit (fun i j a b => Nat.lt_of_lt_of_le (hE.h i j a b) p1) (fun i j a b => Nat.lt_of_lt_of_le (hE.u i j a b) p2) (fun i j a b => Nat.lt_of_lt_of_le (hE.w i j a b) p2), i2.trans K4.out.1, i3.pivot htr hec z4, z3, hE, .step _ _ _ _ _ i6 z5⟩⟩
  ·have hei : ¬ (e : Int) < (c : Int) := by omega
   have hee : e = c := by omega
   have HEE := Hid.mk hee
   clear hee
   obtain ⟨a0, a1, a2⟩ := HI.out.1.H.tri
   obtain ⟨a3, a4, a5⟩ := HI.out.1.U.tri
   obtain ⟨a6, a7, a8⟩ := HI.out.1.W.tri
   have a9 := HI.out.1.rk
   have hR : wr.heap[w.heap.size + 1]? = some (.cells #[.int .i64 0, .int .i64 0, .slice none 0 0, .int .i64 0, .int .i64 0, .slice none 0 0, .int .i64 0, .int .i64 0, .slice none 0 0, .int .i64 0] 82 (0, 0)) := (HI.out.2.1.block _ (by omega)).trans K0.out.2.2.1
   have HR := Hid.mk hR
   have b0 : ∀ i v, (#[Value.int .i64 0, .int .i64 0, .slice none 0 0, .int .i64 0, .int .i64 0, .slice none 0 0, .int .i64 0, .int .i64 0, .slice none 0 0, .int .i64 0])[i]? = some v → wr.cell? ⟨w.heap.size + 1, i, none⟩ = some v := fun i v h => by simpa [World.cell?, hR] using h
   have f0 : ∀ o, wr.frozen? ⟨w.heap.size + 1, o, none⟩ = false := fun o => by simp [World.frozen?, hR]
   clear hR
   have y0 := b0 0 _ rfl
   have y1 := b0 1 _ rfl
   have y2 := b0 2 _ rfl
   have y3 := b0 3 _ rfl
   have y4 := b0 4 _ rfl
   have y5 := b0 5 _ rfl
   have y6 := b0 6 _ rfl
   have y7 := b0 7 _ rfl
   have y8 := b0 8 _ rfl
   have y9 := b0 9 _ rfl
   clear b0
   go_wp2_with fail
   refine bodyPost_ret (v := .agg #[.int .i64 r, .int .i64 c, .slice (some ⟨gH, 0, none⟩) (r * c) (r * c), .int .i64 r, .int .i64 r, .slice (some ⟨gU, 0, none⟩) (r * r) (r * r), .int .i64 r, .int .i64 r, .slice (some ⟨gW, 0, none⟩) (r * r) (r * r), .int .i64 t]) ?_ rfl ?_
   ·(simp [results, Tryz.results45, go_sem, y0, y1, y2, y3, y4, y5, y6, y7, y8, y9]; done)
   ·have hTy : Ty wr (w.heap.size + 1) 82 := ⟨_, _, HR.out⟩
    obtain ⟨i1, i2, i3, i4, i5, i6⟩ := HI.out
    have key : ∀ W, KU wr W → wr.grownBy W (some (w.heap.size + 1)) → EchOut w W (.returned (.agg #[.int .i64 r, .int .i64 c, .slice (some ⟨gH, 0, none⟩) (r * c) (r * c), .int .i64 r, .int .i64 r, .slice (some ⟨gU, 0, none⟩) (r * r) (r * r), .int .i64 r, .int .i64 r, .slice (some ⟨gW, 0, none⟩) (r * r) (r * r), .int .i64 t])) r c zs β L := by
     intro W hk hg
     have hne : ∀ g, W0.heap.size ≤ g → ∀ (n m : Nat) (a : Addr) (m' c' : Nat), Value.slice (some ⟨g, 0, none⟩) n m = .slice (some a) m' c' → a.block ≠ w.heap.size + 1 := fun g h n m a m' c' e => by
      simp only [Value.slice.injEq, Option.some.injEq] at e
      obtain ⟨rfl, -, -⟩ := e
      show g ≠ w.heap.size + 1
      omega
     refine ⟨_, t, pc, hs1, us1, ws1, rfl, ⟨_, _, _, rfl, ⟨hr, hc, _, rfl, i1.H.grid.grown hg (hne gH i1.b1 _ _) hk⟩, ⟨hr, hr, _, rfl, i1.U.grid.grown hg (hne gU i1.b2 _ _) hk⟩, ⟨hr, hr, _, rfl, i1.W.grid.grown hg (hne gW i1.b3 _ _) hk⟩⟩, ?_, i4, i5, ?_, by rw [← HEE.out]; exact HEE.out ▸ i6⟩
     ·have := HEE.out
      rw [this] at i3
      exact i3
     ·have hb := (K0.out.1.trans (i2.mono (by omega)))
      exact hb.trans (below_of_grown hg (by omega) (by have := i2.size; omega))
    have h10 := set10 wr (w.heap.size + 1) hTy (by decide) (.int .i64 r) (.int .i64 c) (.slice (some ⟨gH, 0, none⟩) (r * c) (r * c)) (.int .i64 r) (.int .i64 r) (.slice (some ⟨gU, 0, none⟩) (r * r) (r * r)) (.int .i64 r) (.int .i64 r) (.slice (some ⟨gW, 0, none⟩) (r * r) (r * r)) (.int .i64 t)
    exact key _ h10.1 h10.2
end Go.Proofs.YtfjbijpagaipnaaGreatDoor
namespace Go.Proofs.YtfjbijpagaipnaaGreatDoor.R
open Go.RowKit
theorem getD_set_self (zs : List Nat) (k c : Nat) (hk : k < zs.length) : (zs.set k c).getD k 0 = c := by simp [List.getD, hk]
theorem carry_top {zs : List Nat} {n V : Nat} (hl : zs.length = n + 1) (hlo : ∀ k, k < n → zs.getD k 0 < 10000) (hv : val zs = V) (hV : V < 10000 ^ n) : Lo zs := by
 have h1 : val zs = val (zs.take n) + 10000 ^ n * zs.getD n 0 := by
  have := val_take_next zs n
  rw [List.take_of_length_le (by omega)] at this
  exact this
 have h0 : zs.getD n 0 = 0 := by
  rcases Nat.eq_zero_or_pos (zs.getD n 0) with h | h
  ·exact h
  ·have : 10000 ^ n * 1 ≤ 10000 ^ n * zs.getD n 0 := Nat.mul_le_mul_left _ h
   omega
 intro x hx
 obtain ⟨i, hi, rfl⟩ := List.mem_iff_getElem.1 hx
 have hg : zs.getD i 0 = zs[i] := by simp [List.getD, List.getElem?_eq_getElem hi]
 rw [← hg]
 by_cases hin : i < n
 ·exact hlo i hin
 ·rw [show i = n by omega, h0]; decide
theorem carry_val {zs : List Nat} {i : Nat} (hi : i + 1 < zs.length) : val ((zs.set (i + 1) (zs.getD (i + 1) 0 + zs.getD i 0 / 10000)).set i (zs.getD i 0 % 10000)) = val zs := by
 have h1 := val_set zs (i + 1) (zs.getD (i + 1) 0 + zs.getD i 0 / 10000) hi
 have h2 := val_set (zs.set (i + 1) (zs.getD (i + 1) 0 + zs.getD i 0 / 10000)) i (zs.getD i 0 % 10000) (by simp; omega)
 rw [getD_set_ne _ _ _ _ (by omega)] at h2
 have h3 := Nat.div_add_mod (zs.getD i 0) 10000
 generalize zs.getD i 0 = a at *
 generalize zs.getD (i + 1) 0 = b at *
 generalize hq : a / 10000 = q at *
 generalize hm : a % 10000 = m at *
 rw [Nat.pow_succ] at h1
 generalize 10000 ^ i = P at *
 have e1 : P * 10000 * (b + q) = P * 10000 * b + P * (10000 * q) := by rw [Nat.mul_add, Nat.mul_assoc P 10000 q]
 have e2 : P * a = P * (10000 * q) + P * m := by rw [← h3, Nat.mul_add]
 omega
theorem conv_step {qs : List Nat} {k j z x y V T : Nat} (hk : k + j < qs.length) (hz : z = qs.getD (k + j) 0) (h : val qs = V + 10000 ^ k * (x * T)) : val (qs.set (k + j) (z + x * y)) = V + 10000 ^ k * (x * (T + 10000 ^ j * y)) := by
 have h1 := val_set qs (k + j) (z + x * y) hk
 rw [← hz, Nat.pow_add] at h1
 have e1 : 10000 ^ k * 10000 ^ j * (z + x * y) = 10000 ^ k * 10000 ^ j * z + 10000 ^ k * (x * (10000 ^ j * y)) := by
  rw [Nat.mul_add, Nat.mul_left_comm x, Nat.mul_assoc (10000 ^ k) (10000 ^ j) (x * y)]
 have e2 : 10000 ^ k * (x * (T + 10000 ^ j * y)) = 10000 ^ k * (x * T) + 10000 ^ k * (x * (10000 ^ j * y)) := by rw [Nat.mul_add, Nat.mul_add]
 generalize 10000 ^ k * 10000 ^ j * z = A at *
 generalize 10000 ^ k * (x * (10000 ^ j * y)) = B at *
 generalize 10000 ^ k * (x * T) = C at *
 omega
theorem conv_done {xs : List Nat} {k x Y Q : Nat} (hx : x = xs.getD k 0) (h : Q = val (xs.take k) * Y + 10000 ^ k * (x * Y)) : Q = val (xs.take (k + 1)) * Y := by
 rw [h, val_take_next, ← hx, Nat.add_mul, Nat.mul_assoc]
theorem getD_set_le {qs : List Nat} {k c b i : Nat} (hc : c ≤ b) (h : ∀ i, qs.getD i 0 ≤ b) : (qs.set k c).getD i 0 ≤ b := by
 by_cases hk : k = i
 ·subst hk
  by_cases hl : k < qs.length
  ·rw [getD_set_self _ _ _ hl]; exact hc
  ·rw [List.set_eq_of_length_le (by omega)]; exact h k
 ·rw [getD_set_ne _ _ _ _ hk]; exact h i
set_option maxRecDepth 100000 in
set_option maxHeartbeats 4000000 in
theorem ntimes_any (v u : Value) (x y : Int) (L M : Nat) (w : World) (hv : IsN w v x L) (hu : IsN w u y M) (hL : L ≤ 50000000000) (hM : M ≤ 50000000000) :
 Calls Tryz.prog 177 #[v, u] w fun e w' => ∃ r, e = .returned r ∧ NOut w w' r (x * y) (L + M + 1) := by
 obtain ⟨na, ao, cap, xs, rfl, h2, h3, h4, h5, h6⟩ := hv.parts
 obtain ⟨nb, bo, dap, ys, rfl, k2, k3, k4, k5, k6⟩ := hu.parts
 have H := Hid.mk (And.intro h2 (And.intro h3 (And.intro h4 (And.intro h5 h6))))
 have J := Hid.mk (And.intro k2 (And.intro k3 (And.intro k4 (And.intro k5 k6))))
 clear hv hu h2 h3 h4 h5 k2 k3 k4 k5
 have BB := Hid.mk (And.intro ((((NBox.new w (.bool na) (.slice ao xs.length cap) rfl).alloc (.cells #[.bool nb, .slice bo ys.length dap] 138)).alloc (.cells #[.bool false, .slice none 0 0] 138))) (And.intro ((NBox.new (w.alloc (.cells #[.bool na, .slice ao xs.length cap] 138)) (.bool nb) (.slice bo ys.length dap) (b := w.heap.size + 1) (by simp)).alloc (.cells #[.bool false, .slice none 0 0] 138))
  (NBox.new ((w.alloc (.cells #[.bool na, .slice ao xs.length cap] 138)).alloc (.cells #[.bool nb, .slice bo ys.length dap] 138)) (.bool false) (.slice none 0 0) (b := w.heap.size + 1 + 1) (by simp))))
 go_enter Tryz.func177, Tryz.ntmps177
 go_wp2_with (refine make_digits _ rfl _ _ rfl _ _ (xs.length + ys.length + 1) rfl rfl (by omega) (by omega) (by omega) ?_)
 intro w1 hown hbel
 obtain ⟨W0, hW0⟩ : ∃ W0, W0 = ((w.alloc (.cells #[.bool na, .slice ao xs.length cap] 138)).alloc (.cells #[.bool nb, .slice bo ys.length dap] 138)).alloc (.cells #[.bool false, .slice none 0 0] 138) := ⟨_, rfl⟩
 have hz0 : W0.heap.size = w.heap.size + 1 + 1 + 1 := by rw [hW0]; simp
 have hbw0 : Below w.heap.size w W0 := by rw [hW0]; repeat (first | exact Below.refl _ _ | refine Below.alloc ?_ (by simp <;> omega) _)
 rw [← hW0] at BB hbel
 have hbel0 : Below W0.heap.size W0 w1 := by rw [hz0]; exact hbel
 clear hbel
 have hbel := hbel0
 clear hbel0
 obtain ⟨G, hG⟩ : ∃ G, G = w.heap.size + 1 + 1 + 1 := ⟨_, rfl⟩
 rw [← hG] at hown hz0 ⊢
 obtain ⟨NN, hNN⟩ : ∃ NN, NN = xs.length + ys.length + 1 := ⟨_, rfl⟩
 rw [← hNN] at hown ⊢
 have K0 := Hid.mk (And.intro hown (And.intro hbel (And.intro hbw0 hW0)))
 have HNN := Hid.mk hNN
 have HG := Hid.mk (And.intro hG hz0)
 have hNb : NN ≤ 100000000001 := by omega
 clear hown hbel hbw0 hW0 hNN hG hz0
 go_wp2_with fail
 go_loopw [6] (fun i wr => ∃ (k : Nat) (zs : List Nat), k ≤ xs.length ∧ i = .int .i64 k ∧ Hid (zs.length = NN) ∧ Own wr (.slice (some ⟨G, 0, none⟩) NN NN) zs ∧ Below W0.heap.size W0 wr ∧
  Hid (val zs = val (xs.take k) * val ys ∧ ∀ j, zs.getD j 0 ≤ k * 100000000)) (fun i _ => xs.length - (intOf i).toNat)
 case atStart =>
  refine ⟨0, _, Nat.zero_le _, rfl, Hid.mk List.length_replicate, K0.out.1, K0.out.2.1, Hid.mk ⟨?_, fun j => ?_⟩⟩
  ·rw [val_zeros (fun x hx => List.eq_of_mem_replicate hx)]; simp [val]
  ·by_cases hj : j < NN <;> simp [List.getD, hj]
 case round =>
  obtain ⟨k, zs, hk, rfl, HZL, hown, hbel, HI⟩ := hrel
  obtain ⟨a1, a2, -, -⟩ := (BB.out.1.below hbel BB.out.1.lt).cells
  have K := Hid.mk (And.intro hown hbel)
  clear hown hbel
  by_cases hkN : k < xs.length
  ·obtain ⟨b, rfl, hb0⟩ := H.out.1.at_ rfl k hkN
   have hxk := Lo_get H.out.2.1.1 k
   obtain ⟨x1, hx⟩ : ∃ x, x = xs.getD k 0 := ⟨_, rfl⟩
   rw [← hx] at hxk hb0
   have HX := Hid.mk hx
   have HB := Hid.mk hb0
   have hki : (k : Int) < (xs.length : Int) := by omega
   clear hx hb0
   go_wp2_with fail
   go_loopw [7] (fun i ws => ∃ (j : Nat) (qs : List Nat), j ≤ ys.length ∧ i = .int .i64 j ∧ Hid (qs.length = NN) ∧ Own ws (.slice (some ⟨G, 0, none⟩) NN NN) qs ∧ Below W0.heap.size W0 ws ∧
    Hid (val qs = val (xs.take k) * val ys + 10000 ^ k * (x1 * val (ys.take j)) ∧ (∀ i, qs.getD i 0 ≤ (k + 1) * 100000000) ∧ ∀ i, k + j ≤ i → qs.getD i 0 ≤ k * 100000000)) (fun i _ => ys.length - (intOf i).toNat)
   case atStart =>
    refine ⟨0, zs, Nat.zero_le _, rfl, HZL, K.out.1, K.out.2, Hid.mk ⟨by have := HI.out.1; simp [val, this], fun i => ?_, fun i _ => HI.out.2 i⟩⟩
    exact Nat.le_trans (HI.out.2 i) (Nat.mul_le_mul_right _ (Nat.le_succ k))
   case round =>
    rename World => ws
    obtain ⟨j, qs, hj, rfl, HQ, hown, hbel, HI2⟩ := hrel
    have hbw : Below w.heap.size w ws := K0.out.2.2.1.trans (hbel.mono (by have := HG.out.1; have := HG.out.2; omega))
    clear a1 a2
    obtain ⟨a1, a2, -, -⟩ := (BB.out.1.below hbel BB.out.1.lt).cells
    obtain ⟨b1, b2, -, -⟩ := (BB.out.2.1.below hbel BB.out.2.1.lt).cells
    have hb1 := cell_later hbw HB.out
    by_cases hjN : j < ys.length
    ·obtain ⟨d, rfl, hd0⟩ := J.out.1.at_ rfl j hjN
     have hd1 := cell_later hbw hd0
     have hyk := Lo_get J.out.2.1.1 j
     have hkjN : k + j < NN := by have := HNN.out; omega
     have hz1 := hown.cell HQ.out (k + j) hkjN
     have hz2 := hown.frozen HQ.out (k + j)
     have hzk := HI2.out.2.2 (k + j) (Nat.le_refl _)
     obtain ⟨y1, hy⟩ : ∃ y, y = ys.getD j 0 := ⟨_, rfl⟩
     obtain ⟨z1, hz⟩ : ∃ z, z = qs.getD (k + j) 0 := ⟨_, rfl⟩
     rw [← hy] at hyk hd1
     rw [← hz] at hz1 hzk
     have hp : x1 * y1 ≤ 9999 * 9999 := Nat.mul_le_mul (by omega) (by omega)
     have HYY := Hid.mk hy
     have HZ := Hid.mk hz
     have hji : (j : Int) < (ys.length : Int) := by omega
     have K2 := Hid.mk (And.intro hown (And.intro hbel hbw))
     clear hy hz hd0 hown hbel hbw
     go_wp2_with fail
     go_region
     all_goals
      go_wp2_with fail
      go_roundw
      case measure => simp [intOf]; omega
      case rel =>
       refine ⟨j + 1, qs.set (k + j) (z1 + x1 * y1), by omega, by go_num, Hid.mk (by simp [HQ.out]), K2.out.1.stored_int HQ.out (k + j) _ ?_, ?_, Hid.mk ⟨?_, fun i => ?_, fun i hi => ?_⟩⟩
       ·simp
       ·exact (K2.out.2.1.setCell (by have := HG.out.2; simp; omega) _).drew
       ·rw [val_take_next, ← HYY.out]
        exact conv_step (by rw [HQ.out]; exact hkjN) HZ.out HI2.out.1
       ·refine getD_set_le ?_ HI2.out.2.1
        have e1 : (k + 1) * 100000000 = k * 100000000 + 100000000 := Nat.succ_mul _ _
        rw [e1]
        exact Nat.add_le_add hzk (Nat.le_trans hp (by decide))
       ·rw [getD_set_ne _ _ _ _ (by omega)]; exact HI2.out.2.2 i (by omega)
    ·have hji : ¬ (j : Int) < (ys.length : Int) := by omega
     have K2 := Hid.mk (And.intro hown hbel)
     clear hown hbel hbw
     go_wp2_with fail
     go_roundw
     case measure => simp [intOf]; omega
     case rel =>
      refine ⟨k + 1, qs, by omega, by go_num, HQ, K2.out.1, K2.out.2, Hid.mk ⟨?_, HI2.out.2.1⟩⟩
      have h1 := HI2.out.1
      rw [show ys.take j = ys from List.take_of_length_le (by omega)] at h1
      exact conv_done HX.out h1
  ·have hki : ¬ (k : Int) < (xs.length : Int) := by omega
   go_wp2_with fail
   go_loopw [8] (fun i ws => ∃ (j : Nat) (qs : List Nat), j + 1 ≤ NN ∧ i = .int .i64 j ∧ Hid (qs.length = NN) ∧ Own ws (.slice (some ⟨G, 0, none⟩) NN NN) qs ∧ Below W0.heap.size W0 ws ∧
    Hid (val qs = val xs * val ys ∧ (∀ i, i < j → qs.getD i 0 < 10000) ∧ qs.getD j 0 ≤ 6000000000000000000 ∧ ∀ i, j < i → qs.getD i 0 ≤ 5000000000000000000)) (fun i _ => NN - (intOf i).toNat)
   case atStart =>
    have hz : ∀ i, zs.getD i 0 ≤ 5000000000000000000 := fun i => Nat.le_trans (HI.out.2 i) (Nat.le_trans (Nat.mul_le_mul_right _ (show k ≤ 50000000000 by omega)) (by decide))
    refine ⟨0, zs, by have := HNN.out; omega, rfl, HZL, K.out.1, K.out.2, Hid.mk ⟨?_, fun i hi => by omega, Nat.le_trans (hz 0) (by decide), fun i _ => hz i⟩⟩
    have h1 := HI.out.1
    rw [show xs.take k = xs from List.take_of_length_le (by omega)] at h1
    exact h1
   case round =>
    rename World => ws
    obtain ⟨j, qs, hj, rfl, HQ, hown, hbel, HI2⟩ := hrel
    clear a1 a2
    by_cases hjN : j + 1 < NN
    ·have hz1 := hown.cell HQ.out j (by omega)
     have hz2 := hown.frozen HQ.out j
     have hy1 := hown.cell HQ.out (j + 1) hjN
     have hy2 := hown.frozen HQ.out (j + 1)
     have hzb := HI2.out.2.2.1
     have hyb := HI2.out.2.2.2 (j + 1) (by omega)
     obtain ⟨z1, hz⟩ : ∃ z, z = qs.getD j 0 := ⟨_, rfl⟩
     obtain ⟨y1, hy⟩ : ∃ y, y = qs.getD (j + 1) 0 := ⟨_, rfl⟩
     rw [← hz] at hz1 hzb
     rw [← hy] at hy1 hyb
     have HZ := Hid.mk (And.intro hz hy)
     have hji : (j : Int) + 1 < (NN : Int) := by omega
     have K2 := Hid.mk (And.intro hown hbel)
     clear hz hy hown hbel
     go_wp2_with fail
     go_region
     have own2 : Own (ws.setCell ⟨G, j + 1, none⟩ (.int .i64 ((y1 : Int) + (z1 : Int) / 10000))).drew (.slice (some ⟨G, 0, none⟩) NN NN) (qs.set (j + 1) (y1 + z1 / 10000)) := K2.out.1.stored_int HQ.out (j + 1) _ (by omega)
     obtain ⟨ws2, hws2⟩ : ∃ ws2, ws2 = (ws.setCell ⟨G, j + 1, none⟩ (.int .i64 ((y1 : Int) + (z1 : Int) / 10000))).drew := ⟨_, rfl⟩
     have hbel2 : Below W0.heap.size W0 ws2 := by rw [hws2]; exact (K2.out.2.setCell (by have := HG.out.2; simp; omega) _).drew
     rw [← hws2] at own2 ⊢
     have HL2 := Hid.mk (show (qs.set (j + 1) (y1 + z1 / 10000)).length = NN by rw [List.length_set]; exact HQ.out)
     have d1 := own2.cell HL2.out j (by omega)
     have d2 := own2.frozen HL2.out j
     rw [getD_set_ne _ _ _ _ (by omega), ← HZ.out.1] at d1
     have K3 := Hid.mk (And.intro own2 hbel2)
     clear own2 hws2 hbel2 hz1 hz2 hy1 hy2
     go_wp2_with fail
     all_goals
      go_roundw
      case measure => simp [intOf]; omega
      case rel =>
       refine ⟨j + 1, (qs.set (j + 1) (y1 + z1 / 10000)).set j (z1 % 10000), by omega, by go_num, Hid.mk (by simp [HQ.out]), K3.out.1.stored_int HL2.out j _ (by omega), K3.out.2.setCell (by have := HG.out.2; simp; omega) _, Hid.mk ⟨?_, fun i hi => ?_, ?_, fun i hi => ?_⟩⟩
       ·rw [HZ.out.1, HZ.out.2, carry_val (by rw [HQ.out]; exact hjN)]
        exact HI2.out.1
       ·by_cases hij : i = j
        ·subst hij
         rw [getD_set_self _ _ _ (by rw [HL2.out]; omega)]
         exact Nat.mod_lt _ (by decide)
        ·rw [getD_set_ne _ _ _ _ (fun e => hij e.symm), getD_set_ne _ _ _ _ (by omega)]
         exact HI2.out.2.1 i (by omega)
       ·rw [getD_set_ne _ _ _ _ (by omega), getD_set_self _ _ _ (by rw [HQ.out]; exact hjN)]
        have : z1 / 10000 ≤ 6000000000000000000 / 10000 := Nat.div_le_div_right hzb
        exact Nat.le_trans (Nat.add_le_add hyb this) (by decide)
       ·rw [getD_set_ne _ _ _ _ (by omega), getD_set_ne _ _ _ _ (by omega)]
        exact HI2.out.2.2.2 i (by omega)
    ·have hji : ¬ (j : Int) + 1 < (NN : Int) := by omega
     obtain ⟨a1, -, -, -⟩ := (BB.out.1.below hbel BB.out.1.lt).cells
     obtain ⟨b1, -, -, -⟩ := (BB.out.2.1.below hbel BB.out.2.1.lt).cells
     have hLo : Lo qs := carry_top (n := xs.length + ys.length) (by rw [HQ.out, HNN.out]) (fun i hi => HI2.out.2.1 i (by have := HNN.out; omega)) HI2.out.1 (by
      rw [Nat.pow_add]
      exact Nat.mul_lt_mul'' (val_lt H.out.2.1.1) (val_lt J.out.2.1.1))
     have K2 := Hid.mk (And.intro hown (And.intro hbel hLo))
     clear hown hbel hLo
     go_wp2_with fail
     refine (made_any _ _ qs _ K2.out.1 K2.out.2.2).mono ?_
     rintro e w2 ⟨r2, rfl, hr2, hb2⟩
     obtain ⟨ng, co, ecap, vs, rfl, -⟩ := hr2.parts
     have B3 := (BB.out.2.2.below K2.out.2.1 BB.out.2.2.lt).below hb2 (BB.out.2.2.below K2.out.2.1 BB.out.2.2.lt).lt
     obtain ⟨c1, c2, c3, c4⟩ := B3.cells
     have c5 := B3.put1 (.bool ng)
     have hbw : Below w.heap.size w w2 := K0.out.2.2.1.trans ((K2.out.2.1.trans (hb2.mono K2.out.2.1.size)).mono (by have := HG.out.1; have := HG.out.2; omega))
     have K4 := Hid.mk (And.intro hr2 (And.intro hbw B3.ty))
     clear hr2 hb2 B3 a1 b1 hbw
     go_wp2_with fail
     refine bodyPost_ret (v := .agg #[.bool ng, .slice co vs.length ecap]) ?_ rfl ?_
     ·(simp [results, Tryz.results177, go_sem, c2, c5]; done)
     ·refine ⟨_, rfl, ?_, (K4.out.2.1.setCell (by simp <;> omega) _).setCell (by simp <;> omega) _⟩
      have fin := (K4.out.1.box K4.out.2.2 (by decide) (.bool ng) (.slice co vs.length ecap)).mono (M := L + M + 1) (by have := HQ.out; have := HNN.out; omega)
      have e1 := HI2.out.1
      have e2 := H.out.2.2.2.1
      have e3 := J.out.2.2.2.1
      rw [e1] at fin
      rw [e2, e3]
      cases na <;> cases nb <;> simpa [Int.neg_mul, Int.mul_neg] using fin
end Go.Proofs.YtfjbijpagaipnaaGreatDoor.R
