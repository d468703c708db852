import Derived.Test.YtfjbijpagaipnabGreatDoorK24
import Derived.Test.YtfjbijpagaipnabGreatDoorK21
import Derived.Test.YtfjbijpagaipnabGreatDoorK22
import Derived.Test.YtfjbijpagaipnabGreatDoorK19
import Derived.Test.YtfjbijpagaipnabGreatDoorK14
namespace Go.Proofs.YtfjbijpagaipnabGreatDoor
open Go.RowKit R
theorem Grid.fitB {w : World} {sl : Value} {r c L K X : Nat} {zs : List Int} (h : Grid w sl (r * c) zs L) (hz : ∀ i j, i < r → j < c → (ent c zs i j).natAbs < 2 ^ X) (hX : X ≤ 32 * K) : Grid w sl (r * c) zs K := by
 obtain ⟨h0, cs, h1, h2⟩ := h
 refine ⟨h0, cs, h1, fun i hi => ?_⟩
 obtain ⟨a, b, e1, e2, e3⟩ := h2 i hi
 refine ⟨a, b, e1, e2, e3.fit ?_⟩
 have hc0 : 0 < c := by
  rcases Nat.eq_zero_or_pos c with h | h
  ·subst h; simp at hi
  ·exact h
 have h3 := hz (i / c) (i % c) (Nat.div_lt_of_lt_mul (by rw [Nat.mul_comm]; exact hi)) (Nat.mod_lt _ hc0)
 unfold ent at h3
 rw [Nat.mul_comm, Nat.div_add_mod] at h3
 have h4 : (4294967296 : Nat) ^ K = 2 ^ (32 * K) := by rw [Nat.pow_mul]
 rw [h4]
 exact pow_up h3 hX
theorem IsM.fitB {w : World} {v : Value} {r c L K X : Nat} {zs : List Int} (h : IsM w v r c zs L) (hz : ∀ i j, i < r → j < c → (ent c zs i j).natAbs < 2 ^ X) (hX : X ≤ 32 * K) : IsM w v r c zs K := by
 obtain ⟨h1, h2, sl, h3, h4⟩ := h
 exact ⟨h1, h2, sl, h3, h4.fitB hz hX⟩
structure DgIs (r c : Nat) (zs : List Int) (x : D5) : Prop where
 run : D5.run r c (D5.start r c zs) x
 inv : DInv (ent c zs) (ent c x.d) (ent r x.u) (ent r x.s) (ent c x.v) (ent c x.t) r c
 low : ∃ k, Low r c zs x k
 diag : DiagP r c x.d
 div : AllDiv r c x.d
 bits : D5.bits r c x (bD 1579)
def DgS (W1 wr : World) (p r c : Nat) (zs : List Int) (x : D5) (b : Bool) (kk : Nat) (sD sU sS sV sT : Value) : Prop :=
 DgM wr p r c sD sU sS sV sT ∧ (IsM wr (.agg #[.int .i64 r, .int .i64 c, sD]) r c x.d 7200000 ∧ IsM wr (.agg #[.int .i64 r, .int .i64 r, sU]) r r x.u 30000000 ∧ IsM wr (.agg #[.int .i64 r, .int .i64 r, sS]) r r x.s 30000000 ∧ IsM wr (.agg #[.int .i64 c, .int .i64 c, sV]) c c x.v 30000000 ∧ IsM wr (.agg #[.int .i64 c, .int .i64 c, sT]) c c x.t 30000000) ∧
 Below W1.heap.size W1 wr ∧ ((b = true ∧ (∃ n, Head r c zs x n kk) ∧ DInv (ent c zs) (ent c x.d) (ent r x.u) (ent r x.s) (ent c x.v) (ent c x.t) r c ∧ ∀ z, D5.run r c x z → D5.run r c (D5.start r c zs) z) ∨ (b = false ∧ kk = 0 ∧ DgIs r c zs x))
def DgOut (w w' : World) (e : Ending) (r c : Nat) (zs : List Int) : Prop := ∃ (x : D5) (sD sU sS sV sT : Value), e = .returned (.agg #[.int .i64 r, .int .i64 c, sD, .int .i64 r, .int .i64 r, sU, .int .i64 r, .int .i64 r, sS, .int .i64 c, .int .i64 c, sV, .int .i64 c, .int .i64 c, sT]) ∧
 (IsM w' (.agg #[.int .i64 r, .int .i64 c, sD]) r c x.d 7200000 ∧ IsM w' (.agg #[.int .i64 r, .int .i64 r, sU]) r r x.u 30000000 ∧ IsM w' (.agg #[.int .i64 r, .int .i64 r, sS]) r r x.s 30000000 ∧ IsM w' (.agg #[.int .i64 c, .int .i64 c, sV]) c c x.v 30000000 ∧ IsM w' (.agg #[.int .i64 c, .int .i64 c, sT]) c c x.t 30000000) ∧ DgIs r c zs x ∧ Below w.heap.size w w'
set_option maxRecDepth 100000 in
set_option maxHeartbeats 4000000 in
theorem gdiag_any (v : Value) (r c : Nat) (zs : List Int) (w : World) (hm : IsM w v r c zs 2) (hr4 : r ≤ 4) (hc4 : c ≤ 4) (hz : ∀ i j, i < r → j < c → (ent c zs i j).natAbs < 2 ^ 48) :
 Calls Tryz.prog 41 #[v] w fun e w' => DgOut w w' e r c zs := by
 have HM := Hid.mk hm
 obtain ⟨hr, hc, sl, rfl, hg0⟩ := hm
 obtain ⟨ao, cap, rfl, -⟩ := hg0.shape
 obtain ⟨RC, hRC⟩ : ∃ RC, RC = r * c := ⟨_, rfl⟩
 rw [← hRC] at HM ⊢
 have HRC := Hid.mk hRC
 clear hg0 hRC
 go_enter Tryz.func41, Tryz.ntmps41
 go_wp2_with fail
 obtain ⟨W1, hW1⟩ : ∃ W1, W1 = (w.alloc (.cells #[.int .i64 r, .int .i64 c, .slice ao RC cap] 66)).alloc (.cells #[.int .i64 0, .int .i64 0, .slice none 0 0, .int .i64 0, .int .i64 0, .slice none 0 0, .int .i64 0, .int .i64 0, .slice none 0 0, .int .i64 0, .int .i64 0, .slice none 0 0, .int .i64 0, .int .i64 0, .slice none 0 0] 83) := ⟨_, rfl⟩
 have hs1 : W1.heap.size = w.heap.size + 2 := by rw [hW1]; simp
 have hb1 : Below w.heap.size w W1 := by rw [hW1]; repeat (first | exact Below.refl _ _ | refine Below.alloc ?_ (by simp <;> omega) _)
 have hm1 : Trio W1 w.heap.size (.int .i64 r) (.int .i64 c) (.slice ao RC cap) := by
  rw [hW1]
  exact Trio.later (w := w.alloc (.cells #[.int .i64 r, .int .i64 c, .slice ao RC cap] 66)) ⟨new_cell _ _ _ _ _ rfl rfl, new_cell _ _ _ _ _ rfl rfl, new_cell _ _ _ _ _ rfl rfl⟩ ((Below.refl _ _).alloc (Nat.le_refl _) _)
 have hR1 : W1.heap[w.heap.size + 1]? = some (.cells #[.int .i64 0, .int .i64 0, .slice none 0 0, .int .i64 0, .int .i64 0, .slice none 0 0, .int .i64 0, .int .i64 0, .slice none 0 0, .int .i64 0, .int .i64 0, .slice none 0 0, .int .i64 0, .int .i64 0, .slice none 0 0] 83 (0, 0)) := by
  rw [hW1]
  have := heap_alloc_new (w.alloc (.cells #[.int .i64 r, .int .i64 c, .slice ao RC cap] 66)) (.cells #[.int .i64 0, .int .i64 0, .slice none 0 0, .int .i64 0, .int .i64 0, .slice none 0 0, .int .i64 0, .int .i64 0, .slice none 0 0, .int .i64 0, .int .i64 0, .slice none 0 0, .int .i64 0, .int .i64 0, .slice none 0 0] 83)
  simpa using this
 rw [← hW1]
 clear hW1
 have HC := Hid.mk (show ∀ w', Below W1.heap.size W1 w' → w'.cell? ⟨w.heap.size, 0, none⟩ = some (.int .i64 r) ∧ w'.cell? ⟨w.heap.size, 1, none⟩ = some (.int .i64 c) ∧ w'.cell? ⟨w.heap.size, 2, none⟩ = some (.slice ao RC cap) from fun w' hb => ⟨(hm1.later hb).1, (hm1.later hb).2.1, (hm1.later hb).2.2⟩)
 have K1 := Hid.mk (And.intro hb1 hR1)
 clear hb1 hm1 hR1
 go_region_held3 (fun w' => w'.cell? ⟨w.heap.size, 0, none⟩ = some (.int .i64 r) ∧ w'.cell? ⟨w.heap.size, 1, none⟩ = some (.int .i64 c) ∧ w'.cell? ⟨w.heap.size, 2, none⟩ = some (.slice ao RC cap))
  (exact HC.out _ (by first | exact hbU4 | exact hbU4.alloc hbU4.size _ | exact (hbU4.alloc hbU4.size _).drew | exact hbU3 | exact hbU2 | exact hbU1 | exact (Below.refl _ _).drew | exact Below.refl _ _))
  (first
    | (go_at_call 60; (have hbU0 := hbU3); refine (unit_any c _ hc).mono ?_; rintro e9 w5 ⟨gT, ts0, rfl, hgT, hGT, hkT, hb5⟩; have hbU4 : Below W1.heap.size W1 w5 := hbU0.trans (hb5.mono hbU0.size); have hGU5 := hGU4.below hb5; have hGS5 := hGS4.below hb5; have hGV5 := hGV.below hb5; clear hb5 hbU0 hGV hGU4 hGS4)
    | (go_at_call 60; (have hbU0 := hbU2); refine (unit_any c _ hc).mono ?_; rintro e9 w4 ⟨gV, vs0, rfl, hgV, hGV, hkV, hb4⟩; have hbU3 : Below W1.heap.size W1 w4 := hbU0.trans (hb4.mono hbU0.size); have hGU4 := hGU3.below hb4; have hGS4 := hGS.below hb4; clear hb4 hbU0 hGS hGU3)
    | (go_at_call 60; (have hbU0 := hbU1); refine (unit_any r _ hr).mono ?_; rintro e9 w3 ⟨gS, ss0, rfl, hgS, hGS, hkS, hb3⟩; have hbU2 : Below W1.heap.size W1 w3 := hbU0.trans (hb3.mono hbU0.size); have hGU3 := hGU.below hb3; clear hb3 hbU0 hGU)
    | (go_at_call 60; refine (unit_any r _ hr).mono ?_; rintro e9 w2 ⟨gU, us0, rfl, hgU, hGU, hkU, hb2⟩; have hbU1 : Below W1.heap.size W1 w2 := ((Below.refl _ _).drew).trans hb2; clear hb2))
 obtain ⟨W5, hW5⟩ : ∃ W5, W5 = w5.alloc (.cells #[.int .i64 r, .int .i64 c, .slice ao RC cap, .int .i64 r, .int .i64 r, .slice (some ⟨gU, 0, none⟩) (r * r) (r * r), .int .i64 r, .int .i64 r, .slice (some ⟨gS, 0, none⟩) (r * r) (r * r), .int .i64 c, .int .i64 c, .slice (some ⟨gV, 0, none⟩) (c * c) (c * c), .int .i64 c, .int .i64 c, .slice (some ⟨gT, 0, none⟩) (c * c) (c * c)] 83) := ⟨_, rfl⟩
 rw [← hW5]
 have hb55 : Below w5.heap.size w5 W5 := by rw [hW5]; exact (Below.refl _ _).alloc (Nat.le_refl _) _
 have hp5 : DgM W5 w5.heap.size r c (.slice ao RC cap) (.slice (some ⟨gU, 0, none⟩) (r * r) (r * r)) (.slice (some ⟨gS, 0, none⟩) (r * r) (r * r)) (.slice (some ⟨gV, 0, none⟩) (c * c) (c * c)) (.slice (some ⟨gT, 0, none⟩) (c * c) (c * c)) := by rw [hW5]; exact heap_alloc_new w5 _
 have hs5 : W5.heap.size = w5.heap.size + 1 := by rw [hW5]; simp
 have hw5 := hbU4.size
 have hbW5 : Below W1.heap.size W1 W5 := hbU4.trans (hb55.mono hw5)
 clear hW5
 obtain rfl : us0 = unitL r := list_ent hGU5.1 (unitL_len r) fun i j hi hj => (hkU i j hi hj).trans (unitL_at hi hj).symm
 obtain rfl : ss0 = unitL r := list_ent hGS5.1 (unitL_len r) fun i j hi hj => (hkS i j hi hj).trans (unitL_at hi hj).symm
 obtain rfl : vs0 = unitL c := list_ent hGV5.1 (unitL_len c) fun i j hi hj => (hkV i j hi hj).trans (unitL_at hi hj).symm
 obtain rfl : ts0 = unitL c := list_ent hGT.1 (unitL_len c) fun i j hi hj => (hkT i j hi hj).trans (unitL_at hi hj).symm
 have hS0 : DgS W1 W5 w5.heap.size r c zs (D5.start r c zs) true 1579 (.slice ao RC cap) (.slice (some ⟨gU, 0, none⟩) (r * r) (r * r)) (.slice (some ⟨gS, 0, none⟩) (r * r) (r * r)) (.slice (some ⟨gV, 0, none⟩) (c * c) (c * c)) (.slice (some ⟨gT, 0, none⟩) (c * c) (c * c)) :=
  ⟨hp5, ⟨((HM.out.below K1.out.1).below hbW5).mono (by omega), ⟨hr, hr, _, rfl, (hGU5.below hb55).mono (by omega)⟩, ⟨hr, hr, _, rfl, (hGS5.below hb55).mono (by omega)⟩, ⟨hc, hc, _, rfl, (hGV5.below hb55).mono (by omega)⟩, ⟨hc, hc, _, rfl, (hGT.below hb55).mono (by omega)⟩⟩, hbW5, .inl ⟨rfl, ⟨0, .inl ⟨rfl, rfl, rfl⟩⟩, start_inv r c zs, fun _ h => h⟩⟩
 have K5 := Hid.mk hS0
 obtain ⟨p, hp⟩ : ∃ p, p = w5.heap.size := ⟨_, rfl⟩
 rw [← hp] at K5 ⊢
 have hpl : w.heap.size + 2 ≤ p := by omega
 clear hS0 hp5 hb55 hbW5 hGU5 hGS5 hGV5 hGT hkU hkS hkV hkT hbU1 hbU2 hbU3 hbU4 hgU hgS hgV hgT hp hs5 hw5
 go_wp2_with fail
 go_loopg [4] 1579 (fun kk o wr => ∃ (b : Bool) (x : D5) (sD sU sS sV sT : Value), o = .bool b ∧ Hid (DgS W1 wr p r c zs x b kk sD sU sS sV sT))
 case atStart => exact ⟨true, _, _, _, _, _, _, rfl, K5⟩
 case round =>
  obtain ⟨b, x, sD, sU, sS, sV, sT, rfl, HI⟩ := hrel
  obtain ⟨oD, cD, rfl⟩ := HI.out.2.1.1.slice
  obtain ⟨oU, cU, rfl⟩ := HI.out.2.1.2.1.slice
  obtain ⟨oS, cS, rfl⟩ := HI.out.2.1.2.2.1.slice
  obtain ⟨oV, cV, rfl⟩ := HI.out.2.1.2.2.2.1.slice
  obtain ⟨oT, cT, rfl⟩ := HI.out.2.1.2.2.2.2.slice
  have hplr := HI.out.1.lt
  have hwr := HI.out.2.2.1.size
  cases b
  ·have HG : Hid (DgIs r c zs x) := Hid.mk (by
    rcases HI.out.2.2.2 with ⟨h, -⟩ | ⟨-, -, h⟩
    ·cases h
    ·exact h)
   obtain ⟨z0, z1, z2, z3, z4, z5, z6, z7, z8, z9, z10, z11, z12, z13, z14, zf⟩ := HI.out.1.cells
   have hR : wr.heap[w.heap.size + 1]? = some (.cells #[.int .i64 0, .int .i64 0, .slice none 0 0, .int .i64 0, .int .i64 0, .slice none 0 0, .int .i64 0, .int .i64 0, .slice none 0 0, .int .i64 0, .int .i64 0, .slice none 0 0, .int .i64 0, .int .i64 0, .slice none 0 0] 83 (0, 0)) := (HI.out.2.2.1.block _ (by omega)).trans K1.out.2
   have r0 : wr.cell? ⟨w.heap.size + 1, 0, none⟩ = some (.int .i64 0) := by simp [World.cell?, hR]
   have r1 : wr.cell? ⟨w.heap.size + 1, 1, none⟩ = some (.int .i64 0) := by simp [World.cell?, hR]
   have r2 : wr.cell? ⟨w.heap.size + 1, 2, none⟩ = some (.slice none 0 0) := by simp [World.cell?, hR]
   have r3 : wr.cell? ⟨w.heap.size + 1, 3, none⟩ = some (.int .i64 0) := by simp [World.cell?, hR]
   have r4 : wr.cell? ⟨w.heap.size + 1, 4, none⟩ = some (.int .i64 0) := by simp [World.cell?, hR]
   have r5 : wr.cell? ⟨w.heap.size + 1, 5, none⟩ = some (.slice none 0 0) := by simp [World.cell?, hR]
   have r6 : wr.cell? ⟨w.heap.size + 1, 6, none⟩ = some (.int .i64 0) := by simp [World.cell?, hR]
   have r7 : wr.cell? ⟨w.heap.size + 1, 7, none⟩ = some (.int .i64 0) := by simp [World.cell?, hR]
   have r8 : wr.cell? ⟨w.heap.size + 1, 8, none⟩ = some (.slice none 0 0) := by simp [World.cell?, hR]
   have r9 : wr.cell? ⟨w.heap.size + 1, 9, none⟩ = some (.int .i64 0) := by simp [World.cell?, hR]
   have r10 : wr.cell? ⟨w.heap.size + 1, 10, none⟩ = some (.int .i64 0) := by simp [World.cell?, hR]
   have r11 : wr.cell? ⟨w.heap.size + 1, 11, none⟩ = some (.slice none 0 0) := by simp [World.cell?, hR]
   have r12 : wr.cell? ⟨w.heap.size + 1, 12, none⟩ = some (.int .i64 0) := by simp [World.cell?, hR]
   have r13 : wr.cell? ⟨w.heap.size + 1, 13, none⟩ = some (.int .i64 0) := by simp [World.cell?, hR]
   have r14 : wr.cell? ⟨w.heap.size + 1, 14, none⟩ = some (.slice none 0 0) := by simp [World.cell?, hR]
   have f0 : ∀ o, wr.frozen? ⟨w.heap.size + 1, o, none⟩ = false := fun o => by simp [World.frozen?, hR]
   have HT : Hid (Ty wr (w.heap.size + 1) 83) := Hid.mk ⟨_, _, hR⟩
   have hpq : p ≠ w.heap.size + 1 := by omega
   clear hR
   go_wp2_with fail
   refine bodyPost_ret (v := .agg #[.int .i64 r, .int .i64 c, .slice oD (r * c) cD, .int .i64 r, .int .i64 r, .slice oU (r * r) cU, .int .i64 r, .int .i64 r, .slice oS (r * r) cS, .int .i64 c, .int .i64 c, .slice oV (c * c) cV, .int .i64 c, .int .i64 c, .slice oT (c * c) cT]) ?_ rfl ?_
   ·(simp [results, Tryz.results41, go_sem, r0, r1, r2, r3, r4, r5, r6, r7, r8, r9, r10, r11, r12, r13, r14]; done)
   ·have t0 := HT.out
    have g1 := put3_fr t0 (by decide) (by decide) 0 (.int .i64 r) (.int .i64 c) (.slice oD (r * c) cD)
    have t1 := ((t0.setCell ⟨w.heap.size + 1, 0, none⟩ (.int .i64 r)).setCell ⟨w.heap.size + 1, 1, none⟩ (.int .i64 c)).setCell ⟨w.heap.size + 1, 2, none⟩ (.slice oD (r * c) cD)
    have g2 := put3_fr t1 (by decide) (by decide) 3 (.int .i64 r) (.int .i64 r) (.slice oU (r * r) cU)
    have t2 := ((t1.setCell ⟨w.heap.size + 1, 3, none⟩ (.int .i64 r)).setCell ⟨w.heap.size + 1, 4, none⟩ (.int .i64 r)).setCell ⟨w.heap.size + 1, 5, none⟩ (.slice oU (r * r) cU)
    have g3 := put3_fr t2 (by decide) (by decide) 6 (.int .i64 r) (.int .i64 r) (.slice oS (r * r) cS)
    have t3 := ((t2.setCell ⟨w.heap.size + 1, 6, none⟩ (.int .i64 r)).setCell ⟨w.heap.size + 1, 7, none⟩ (.int .i64 r)).setCell ⟨w.heap.size + 1, 8, none⟩ (.slice oS (r * r) cS)
    have g4 := put3_fr t3 (by decide) (by decide) 9 (.int .i64 c) (.int .i64 c) (.slice oV (c * c) cV)
    have t4 := ((t3.setCell ⟨w.heap.size + 1, 9, none⟩ (.int .i64 c)).setCell ⟨w.heap.size + 1, 10, none⟩ (.int .i64 c)).setCell ⟨w.heap.size + 1, 11, none⟩ (.slice oV (c * c) cV)
    have g5 := put3_fr t4 (by decide) (by decide) 12 (.int .i64 c) (.int .i64 c) (.slice oT (c * c) cT)
    have gF := (((g1.trans g2).trans g3).trans g4).trans g5
    have hb : Below w.heap.size w wr := K1.out.1.trans (HI.out.2.2.1.mono (by omega))
    exact ⟨x, _, _, _, _, _, rfl, ⟨HI.out.2.1.1.fr gF, HI.out.2.1.2.1.fr gF, HI.out.2.1.2.2.1.fr gF, HI.out.2.1.2.2.2.1.fr gF, HI.out.2.1.2.2.2.2.fr gF⟩, HG.out, hb.trans (gF.below (by omega) hb.size)⟩
  ·obtain ⟨n, hhead, hinv, hrun⟩ : ∃ n, Head r c zs x n gk ∧ DInv (ent c zs) (ent c x.d) (ent r x.u) (ent r x.s) (ent c x.v) (ent c x.t) r c ∧ ∀ z, D5.run r c x z → D5.run r c (D5.start r c zs) z := by
    rcases HI.out.2.2.2 with ⟨-, ⟨n, h1⟩, h2, h3⟩ | ⟨h, -⟩
    ·exact ⟨n, h1, h2, h3⟩
    ·cases h
   obtain ⟨β, β', X, q1, q2, q3, q4, q5, q6, q7, q8, q9⟩ := hhead.prep hr4 hc4 hz
   have HH := Hid.mk (And.intro hhead (And.intro hinv (And.intro hrun (And.intro q1 (And.intro q6 q7)))))
   have HQ := Hid.mk (And.intro q2 (And.intro q3 (And.intro q4 (And.intro q5 (And.intro q8 q9)))))
   clear hhead hinv hrun q1 q2 q3 q4 q5 q6 q7 q8 q9
   go_wp2_with fail
   refine (formRows_any p r c oD oU oS _ _ _ cD cU cS _ _ x.d x.u x.s β 7200000 30000000 _ HI.out.1 HI.out.2.1.1 HI.out.2.1.2.1 HI.out.2.1.2.2.1 (by omega) (by omega) HH.out.2.2.2.1 (by omega) HQ.out.1 HQ.out.2.1 (by omega) (by omega)).mono ?_
   rintro e w6 ⟨rfl, oD1, oU1, oS1, nD1, nU1, nS1, cD1, cU1, cS1, d1, u1, s1, hp6, mD6, mU6, mS6, hR6, hF6, bD6, bU6, bS6⟩
   have hb6 := HH.out.2.2.2.2.1 d1 u1 s1 hR6 bD6
   have hrs6 := hF6.1.size
   have K6 := Hid.mk (And.intro hp6 (And.intro mD6 (And.intro mU6 (And.intro mS6 (And.intro hR6 (And.intro hF6 (And.intro hb6 (And.intro bU6 bS6))))))))
   clear hp6 mD6 mU6 mS6 hR6 hF6 bD6 bU6 bS6 hb6
   go_wp2_with fail
   refine (formCols_any p r c oD1 oV oT nD1 _ _ cD1 cV cT _ _ d1 x.v x.t β' 7200000 30000000 _ K6.out.1 K6.out.2.1 (HI.out.2.1.2.2.2.1.fr K6.out.2.2.2.2.2.1) (HI.out.2.1.2.2.2.2.fr K6.out.2.2.2.2.2.1) (by omega) (by omega) K6.out.2.2.2.2.2.2.1 (by omega) HQ.out.2.2.1 HQ.out.2.2.2.1 (by omega) (by omega)).mono ?_
   rintro e w7 ⟨rfl, gD, gV, gT, d2, v2, t2, hp7, gD7, gV7, gT7, hgs, hC7, hF7, bD7, bV7, bT7⟩
   have hrnd : D5.rnd r c x ⟨d2, u1, s1, v2, t2⟩ := ⟨d1, K6.out.2.2.2.2.1, hC7⟩
   obtain ⟨hn8, hkk, k, hLow, hmore, hmix⟩ := HH.out.1.after hr4 hc4 hz hrnd
   have hq8 := HQ.out.2.2.2.2.1
   have hq9 := HQ.out.2.2.2.2.2
   obtain ⟨Y, hY⟩ : ∃ Y, Y + 1 = bD (n + 1) := ⟨bD (n + 1) - 1, by unfold bD; omega⟩
   have hY32 : Y + 1 ≤ 32 * 30000000 := by rw [hY]; unfold bD; omega
   have hbY : D5.bits r c ⟨d2, u1, s1, v2, t2⟩ Y := by
    obtain ⟨b1, b2, b3, b4⟩ := HH.out.2.2.2.2.2
    exact ⟨fun i j hi hj => pow_up (K6.out.2.2.2.2.2.2.2.1 X b1 i j hi hj) (by omega), fun i j hi hj => pow_up (K6.out.2.2.2.2.2.2.2.2 X b2 i j hi hj) (by omega), fun i j hi hj => pow_up (bV7 X b3 i j hi hj) (by omega), fun i j hi hj => pow_up (bT7 X b4 i j hi hj) (by omega)⟩
   have hW7 : Below W1.heap.size W1 w7 := HI.out.2.2.1.trans (((K6.out.2.2.2.2.2.1).below (show W1.heap.size ≤ p by omega) hwr).trans (hF7.below (show W1.heap.size ≤ p by omega) (by omega)))
   have hp6l := K6.out.1.lt
   have mU7 := (K6.out.2.2.1.fr hF7).fitB (K := 30000000) hbY.1 (by omega)
   have mS7 := (K6.out.2.2.2.1.fr hF7).fitB (K := 30000000) hbY.2.1 (by omega)
   have gV8 := gV7.fitB (K := 30000000) hbY.2.2.1 (by omega)
   have gT8 := gT7.fitB (K := 30000000) hbY.2.2.2 (by omega)
   have hUb : ∀ a m cc, Value.slice oU1 nU1 cU1 = .slice (some a) m cc → a.block ≠ gD ∧ a.block ≠ gV ∧ a.block ≠ gT := fun a m cc e => by
    obtain ⟨-, -, sl, e1, hg⟩ := K6.out.2.2.1
    simp only [Value.agg.injEq, Array.mk.injEq, List.cons.injEq, and_true, true_and] at e1
    rw [← e1, e] at hg
    have := hg.lt
    omega
   have hSb : ∀ a m cc, Value.slice oS1 nS1 cS1 = .slice (some a) m cc → a.block ≠ gD ∧ a.block ≠ gV ∧ a.block ≠ gT := fun a m cc e => by
    obtain ⟨-, -, sl, e1, hg⟩ := K6.out.2.2.2.1
    simp only [Value.agg.injEq, Array.mk.injEq, List.cons.injEq, and_true, true_and] at e1
    rw [← e1, e] at hg
    have := hg.lt
    omega
   have hgl : W1.heap.size ≤ gD ∧ W1.heap.size ≤ gV ∧ W1.heap.size ≤ gT := by omega
   have hpg : p ≠ gD ∧ p ≠ gV ∧ p ≠ gT := by omega
   have hgg : gD ≠ gV ∧ gD ≠ gT ∧ gV ≠ gT := by omega
   have K7 := Hid.mk (And.intro hp7 (And.intro gD7 (And.intro gV8 (And.intro gT8 (And.intro mU7 (And.intro mS7 (And.intro hW7 (And.intro hrnd (And.intro hLow (And.intro hmore (And.intro hmix (And.intro hbY (And.intro hUb hSb)))))))))))))
   have KY := Hid.mk (And.intro hY hY32)
   have KI := Hid.mk (D5.rnd_inv hrnd HH.out.2.1)
   have hw7 := hW7.size
   obtain ⟨z0, z1, z2, -⟩ := hp7.cells
   obtain ⟨N2, hN2⟩ : ∃ N2, N2 = r * c := ⟨_, rfl⟩
   have HN2 := Hid.mk hN2
   rw [← hN2] at z2
   clear hN2 hp7 gD7 gV7 gT7 gV8 gT8 mU7 mS7 hW7 hrnd hLow hmore hmix hbY hUb hSb hC7 hF7 bD7 bV7 bT7 hY hY32 hq8 hq9 hgs
   go_wp2_with fail
   refine (isDiag_any _ r c d2 7200000 _ ⟨hr, hc, _, rfl, by rw [HN2.out]; exact K7.out.2.1⟩).mono ?_
   rintro e w8 ⟨⟨y, rfl, hy⟩, hb8⟩
   have K8 := Hid.mk (And.intro (show y = true ↔ DiagP r c d2 from hy) hb8)
   have hw8 := hb8.size
   clear hy hb8 z0 z1 z2
   cases y
   ·have hnd : ¬ DiagP r c d2 := fun h => by have := K8.out.1.2 h; cases this
    have hmu := K7.out.2.2.2.2.2.2.2.2.2.1 hnd
    have HND := Hid.mk hnd
    have HMU := Hid.mk hmu
    clear hnd hmu
    go_wp2_with fail
    go_roundg (muD (ent c d2) k + 1)
    case measure => exact HMU.out.1
    case rel =>
     refine ⟨true, ⟨d2, u1, s1, v2, t2⟩, _, _, _, _, _, rfl, Hid.mk ⟨K7.out.1.below K8.out.2 (by have := K7.out.1.lt; omega), ⟨⟨hr, hc, _, rfl, K7.out.2.1.below K8.out.2⟩, K7.out.2.2.2.2.1.below K8.out.2, K7.out.2.2.2.2.2.1.below K8.out.2, ⟨hc, hc, _, rfl, K7.out.2.2.1.below K8.out.2⟩, ⟨hc, hc, _, rfl, K7.out.2.2.2.1.below K8.out.2⟩⟩, K7.out.2.2.2.2.2.2.1.trans (K8.out.2.mono hw7), .inl ⟨rfl, ⟨n + 1, .inr ⟨by omega, ?_, k, K7.out.2.2.2.2.2.2.2.2.1, rfl, HMU.out.2⟩⟩, KI.out, fun z hz => HH.out.2.2.1 z (.more K7.out.2.2.2.2.2.2.2.1 HND.out hz)⟩⟩⟩
     obtain ⟨b1, b2, b3, b4⟩ := K7.out.2.2.2.2.2.2.2.2.2.2.2.1
     have := KY.out.1
     exact ⟨fun i j hi hj => pow_up (b1 i j hi hj) (by omega), fun i j hi hj => pow_up (b2 i j hi hj) (by omega), fun i j hi hj => pow_up (b3 i j hi hj) (by omega), fun i j hi hj => pow_up (b4 i j hi hj) (by omega)⟩
   ·have HD : Hid (DiagP r c d2) := Hid.mk (K8.out.1.1 (by trivial))
    go_wp2_with fail
    refine (mix_any p r c gD gV gT _ _ d2 v2 t2 7200000 30000000 _ (K7.out.1.below K8.out.2 (by have := K7.out.1.lt; omega)) (K7.out.2.1.below K8.out.2) (K7.out.2.2.1.below K8.out.2) (K7.out.2.2.2.1.below K8.out.2) hr hc hpg.1 hpg.2.1 hpg.2.2 hgg.1 hgg.2.1 hgg.2.2 (by omega) (by omega)).mono ?_
    rintro e w9 hmo
    rcases hmo with ⟨rfl, hall, hb9⟩ | ⟨rfl, a, d3, v3, t3, hodd, hmt, hp9, gD9, gV9, gT9, hc9, ho9⟩
    ·have K9 := Hid.mk (And.intro (show AllDiv r c d2 from hall) (K8.out.2.trans (hb9.mono hw8)))
     clear hall hb9
     go_wp2_with fail
     go_roundg 0
     case measure => exact hkk
     case rel =>
      refine ⟨false, ⟨d2, u1, s1, v2, t2⟩, _, _, _, _, _, rfl, Hid.mk ⟨K7.out.1.below K9.out.2 (by have := K7.out.1.lt; omega), ⟨⟨hr, hc, _, rfl, K7.out.2.1.below K9.out.2⟩, K7.out.2.2.2.2.1.below K9.out.2, K7.out.2.2.2.2.2.1.below K9.out.2, ⟨hc, hc, _, rfl, K7.out.2.2.1.below K9.out.2⟩, ⟨hc, hc, _, rfl, K7.out.2.2.2.1.below K9.out.2⟩⟩, K7.out.2.2.2.2.2.2.1.trans (K9.out.2.mono hw7), .inr ⟨rfl, rfl, ⟨HH.out.2.2.1 _ (.stop K7.out.2.2.2.2.2.2.2.1 HD.out K9.out.1), KI.out, ⟨k, K7.out.2.2.2.2.2.2.2.2.1⟩, HD.out, K9.out.1, ?_⟩⟩⟩⟩
      obtain ⟨b1, b2, b3, b4⟩ := K7.out.2.2.2.2.2.2.2.2.2.2.2.1
      have h1 := KY.out.1
      have h2 : Y ≤ bD 1579 := by unfold bD at h1 ⊢; omega
      exact ⟨fun i j hi hj => pow_up (b1 i j hi hj) h2, fun i j hi hj => pow_up (b2 i j hi hj) h2, fun i j hi hj => pow_up (b3 i j hi hj) h2, fun i j hi hj => pow_up (b4 i j hi hj) h2⟩
    ·have hmd : D5.mixd r c ⟨d2, u1, s1, v2, t2⟩ ⟨d3, u1, s1, v3, t3⟩ := ⟨a, hodd, hmt, rfl, rfl⟩
     obtain ⟨hL3, hmu⟩ := K7.out.2.2.2.2.2.2.2.2.2.2.1 ⟨d3, u1, s1, v3, t3⟩ HD.out hmd
     have hb3 : D5.bits r c ⟨d3, u1, s1, v3, t3⟩ (Y + 1) := by
      obtain ⟨b1, b2, b3, b4⟩ := K7.out.2.2.2.2.2.2.2.2.2.2.2.1
      have hpw : 2 ^ (Y + 1) = 2 * 2 ^ Y := by rw [Nat.pow_succ]; omega
      refine ⟨fun i j hi hj => pow_up (b1 i j hi hj) (by omega), fun i j hi hj => pow_up (b2 i j hi hj) (by omega), fun i j hi hj => ?_, fun i j hi hj => ?_⟩
      ·show (ent c v3 i j).natAbs < _
       rw [hmt.2.2.2.2.1 i j hi hj]
       split
       ·have e1 := b3 i a hi (by have := hodd.2.1; omega)
        have e2 := b3 i (a + 1) hi hodd.2.1
        simp only at e1 e2
        omega
       ·exact pow_up (b3 i j hi hj) (by omega)
      ·show (ent c t3 i j).natAbs < _
       rw [hmt.2.2.2.2.2 i j hi hj]
       split
       ·have e1 := b4 a j (by have := hodd.2.1; omega) hj
        have e2 := b4 (a + 1) j hodd.2.1 hj
        simp only at e1 e2
        omega
       ·exact pow_up (b4 i j hi hj) (by omega)
     have hw9 : Below W1.heap.size W1 w9 := (K7.out.2.2.2.2.2.2.1.trans (K8.out.2.mono hw7)).trans (hc9.below hgl.1 hgl.2.1 hgl.2.2 (by omega))
     have hgr9 := gD9.fitB (K := 7200000) hL3.b (by omega)
     have hv9 := gV9.fitB (K := 30000000) hb3.2.2.1 (by have := KY.out.2; omega)
     have ht9 := gT9.fitB (K := 30000000) hb3.2.2.2 (by have := KY.out.2; omega)
     have hu9 : IsM w9 (.agg #[.int .i64 r, .int .i64 r, .slice oU1 nU1 cU1]) r r u1 30000000 := by
      obtain ⟨-, -, sl, e1, hg⟩ := K7.out.2.2.2.2.1.below K8.out.2
      simp only [Value.agg.injEq, Array.mk.injEq, List.cons.injEq, and_true, true_and] at e1
      subst e1
      exact ⟨hr, hr, _, rfl, ho9 _ _ _ _ hg K7.out.2.2.2.2.2.2.2.2.2.2.2.2.1⟩
     have hs9 : IsM w9 (.agg #[.int .i64 r, .int .i64 r, .slice oS1 nS1 cS1]) r r s1 30000000 := by
      obtain ⟨-, -, sl, e1, hg⟩ := K7.out.2.2.2.2.2.1.below K8.out.2
      simp only [Value.agg.injEq, Array.mk.injEq, List.cons.injEq, and_true, true_and] at e1
      subst e1
      exact ⟨hr, hr, _, rfl, ho9 _ _ _ _ hg K7.out.2.2.2.2.2.2.2.2.2.2.2.2.2⟩
     have K9 := Hid.mk (And.intro hmd (And.intro hL3 (And.intro hmu (And.intro hb3 (And.intro hw9 (And.intro hgr9 (And.intro hv9 (And.intro ht9 (And.intro hu9 (And.intro hs9 (And.intro hp9 (D5.mix_inv hmd KI.out))))))))))))
     clear hmd hL3 hmu hb3 hw9 hgr9 hv9 ht9 hu9 hs9 hp9 gD9 gV9 gT9 hc9 ho9 hodd hmt
     go_wp2_with fail
     go_roundg (muD (ent c d3) k + 1)
     case measure => exact K9.out.2.2.1.1
     case rel =>
      refine ⟨true, ⟨d3, u1, s1, v3, t3⟩, _, _, _, _, _, rfl, Hid.mk ⟨K9.out.2.2.2.2.2.2.2.2.2.2.1, ⟨⟨hr, hc, _, rfl, K9.out.2.2.2.2.2.1⟩, K9.out.2.2.2.2.2.2.2.2.1, K9.out.2.2.2.2.2.2.2.2.2.1, ⟨hc, hc, _, rfl, K9.out.2.2.2.2.2.2.1⟩, ⟨hc, hc, _, rfl, K9.out.2.2.2.2.2.2.2.1⟩⟩, K9.out.2.2.2.2.1, .inl ⟨rfl, ⟨n + 1, .inr ⟨by omega, ?_, k, K9.out.2.1, rfl, K9.out.2.2.1.2⟩⟩, K9.out.2.2.2.2.2.2.2.2.2.2.2, fun z hz => HH.out.2.2.1 z (.mix K7.out.2.2.2.2.2.2.2.1 HD.out K9.out.1 hz)⟩⟩⟩
      rw [← KY.out.1]
      exact K9.out.2.2.2.1
open Go.RowKit
open Go.RowKit
open Go.RowKit
structure EchIs (r c : Nat) (zs : List Int) (k : Nat) (pc : Nat → Nat) (hs us ws : List Int) : Prop where
 lh : hs.length = r * c
 lu : us.length = r * r
 lw : ws.length = r * r
 st : EchSt r c k pc (ent c hs)
 inv : EInv (ent c zs) (ent c hs) (ent r us) (ent r ws) r c
 eb : EB (ent c hs) (ent r us) (ent r ws) r c k 48
 run : EcTo r c (ent c zs) c k (e3 r c hs us ws)
def EchRes (r c : Nat) (zs : List Int) (xs : List (Nat × Nat × List Int)) : Prop := ∃ k pc hs us ws, xs = [(r, c, hs), (r, r, us), (r, r, ws)] ∧ EchIs r c zs k pc hs us ws
theorem IsM.len {w : World} {v : Value} {r c L : Nat} {zs : List Int} (h : IsM w v r c zs L) : zs.length = r * c := by
 obtain ⟨_, _, sl, _, h3⟩ := h
 exact h3.1
theorem MRow.three {w : World} {g : Nat} {x y z : Nat × Nat × List Int} {o1 o2 o3 : Option Addr} {m1 m2 m3 c1 c2 c3 : Nat} {t : TypeId} (hg : w.heap[g]? = some (.cells #[.int .i64 (x.1 : Nat), .int .i64 (x.2.1 : Nat), .slice o1 m1 c1, .int .i64 (y.1 : Nat), .int .i64 (y.2.1 : Nat), .slice o2 m2 c2, .int .i64 (z.1 : Nat), .int .i64 (z.2.1 : Nat), .slice o3 m3 c3] t (0, 0)))
 (h1 : IsM w (.agg #[.int .i64 (x.1 : Nat), .int .i64 (x.2.1 : Nat), .slice o1 m1 c1]) x.1 x.2.1 x.2.2 200000000) (h2 : IsM w (.agg #[.int .i64 (y.1 : Nat), .int .i64 (y.2.1 : Nat), .slice o2 m2 c2]) y.1 y.2.1 y.2.2 200000000) (h3 : IsM w (.agg #[.int .i64 (z.1 : Nat), .int .i64 (z.2.1 : Nat), .slice o3 m3 c3]) z.1 z.2.1 z.2.2 200000000) : MRow w g [x, y, z] := by
 intro j hj
 match j, hj with
 | 0, _ => exact ⟨o1, m1, c1, by simp [World.cell?, hg], by simp [World.cell?, hg], by simp [World.cell?, hg], h1⟩
 | 1, _ => exact ⟨o2, m2, c2, by simp [World.cell?, hg], by simp [World.cell?, hg], by simp [World.cell?, hg], h2⟩
 | 2, _ => exact ⟨o3, m3, c3, by simp [World.cell?, hg], by simp [World.cell?, hg], by simp [World.cell?, hg], h3⟩
set_option maxRecDepth 100000 in
set_option maxHeartbeats 4000000 in
theorem echelon_held (b : Nat) (h : Int) (ms : List Hm) (nx : Nat) (w : World) (hst : Held w b ms nx) (hnx : nx < 1000000 - 5) :
 Calls Tryz.prog 27 #[.pointer (some ⟨b, 0, none⟩), .int .i64 h] w fun x w' => ∃ v e ok xs, x = .returned (.tuple #[v, .int .i64 e]) ∧ ManyRel 3 EchRes ms h ok e xs ∧ ManyOut w w' b 3 nx ms ok xs v := by
 have H := Hid.mk hst
 have hm24 := hst.1
 have hbl := hst.lt
 clear hst
 go_enter Tryz.func27, Tryz.ntmps27
 go_wp2_with fail
 refine (find_held b h ms nx _ H.out).mono ?_
 rintro e w1 ⟨⟨r, c, ao, n, cap, ok, rfl, hf⟩, hb1⟩
 have hbA := (Below.refl w1.heap.size w1).alloc (Nat.le_refl _) (.cells #[.int .i64 r, .int .i64 c, .slice ao n cap] 66)
 have hbw := hb1.trans (hbA.mono hb1.size)
 have hw1 := hb1.size
 rcases id hf with ⟨rfl, i, hd, zs, hi, hgi, hgh, hM⟩ | ⟨rfl, hno⟩
 ·have K1 := Hid.mk (And.intro (hM.below hbA) (And.intro hbw (And.intro hi (And.intro hgi hgh))))
  clear hf hM hb1 hbA hbw hi hgi hgh
  go_wp2_with fail
  refine (tooBig_any _ r c zs 200000000 _ K1.out.1 (by omega)).mono ?_
  rintro e w2 ⟨fb, rfl, hfo, hb2⟩
  have hs2 : w1.heap.size + 1 ≤ w2.heap.size := by have := hb2.size; simpa using this
  have m0 : w2.cell? ⟨w1.heap.size, 0, none⟩ = some (.int .i64 r) := cell_later hb2 (by simp)
  have m1 : w2.cell? ⟨w1.heap.size, 1, none⟩ = some (.int .i64 c) := cell_later hb2 (by simp)
  have m2 : w2.cell? ⟨w1.heap.size, 2, none⟩ = some (.slice ao n cap) := cell_later hb2 (by simp)
  have K2 := Hid.mk (And.intro (K1.out.1.below hb2) (And.intro (K1.out.2.1.trans (hb2.mono K1.out.2.1.size)) hfo))
  clear hb2 hfo
  cases fb
  ·have HNF : Hid (¬ FitsP r c zs) := Hid.mk (fun h => by have := K2.out.2.2.2 h; cases this)
   go_wp2_with fail
   go_ret2
   exact ⟨_, _, false, [], rfl, .inr ⟨i, hd, r, c, zs, K1.out.2.2.1, K1.out.2.2.2.1, K1.out.2.2.2.2, .inl ⟨HNF.out, rfl, rfl, rfl⟩⟩, .inl ⟨rfl, rfl, H.out.below K2.out.2.1, Fr.of_below K2.out.2.1⟩⟩
  ·have HFP : Hid (FitsP r c zs) := Hid.mk (K2.out.2.2.1 rfl)
   go_wp2_with fail
   refine (room_held b ms nx _ (H.out.below K2.out.2.1)).mono ?_
   rintro e w' ⟨rfl, rfl⟩
   obtain ⟨rm, hrm⟩ : ∃ rm, rm = ms.countP Option.isNone := ⟨_, rfl⟩
   have HRM := Hid.mk hrm
   rw [← hrm]
   clear hrm
   by_cases h0 : rm < 3
   ·have h0' : ((rm : Int) < 3) := by omega
    go_wp2_with fail
    go_ret2
    exact ⟨_, _, false, [], rfl, .inr ⟨i, hd, r, c, zs, K1.out.2.2.1, K1.out.2.2.2.1, K1.out.2.2.2.2, .inr (.inl ⟨HFP.out, by rw [← HRM.out]; exact h0, rfl, rfl, rfl⟩)⟩, .inl ⟨rfl, rfl, H.out.below K2.out.2.1, Fr.of_below K2.out.2.1⟩⟩
   ·have h0' : ¬ ((rm : Int) < 3) := by omega
    go_wp2_with fail
    refine (gech_fit _ r c zs 2 _ (K2.out.1.tight HFP.out) HFP.out.1 HFP.out.2.1 HFP.out.ent (by omega)).mono ?_
    rintro e w3 ⟨v3, k, pc, hs, us, ws, rfl, ⟨sH, sU, sW, rfl, m3, m4, m5⟩, hk, hE, hEB, hb3, hto⟩
    have hIs : EchIs r c zs k pc hs us ws := ⟨m3.len, m4.len, m5.len, hk, hE, hEB, hto⟩
    obtain ⟨oH, cH, rfl⟩ := m3.slice
    obtain ⟨oU, cU, rfl⟩ := m4.slice
    obtain ⟨oW, cW, rfl⟩ := m5.slice
    have hb03 := K2.out.2.1.trans (hb3.mono K2.out.2.1.size)
    have K3 := Hid.mk (And.intro m3 (And.intro m4 (And.intro m5 (And.intro hIs hb03))))
    have hw3 := hb3.size
    clear hk hE hb3 m0 m1 m2 m3 m4 m5 hEB hto hIs hb03
    go_wp2_with fail
    obtain ⟨X, hX⟩ : ∃ X, X = (w3.alloc (.cells #[.int .i64 r, .int .i64 c, .slice oH (r * c) cH, .int .i64 r, .int .i64 r, .slice oU (r * r) cU, .int .i64 r, .int .i64 r, .slice oW (r * r) cW, .int .i64 k] 74)).alloc (.cells #[.int .i64 r, .int .i64 c, .slice oH (r * c) cH, .int .i64 r, .int .i64 r, .slice oU (r * r) cU, .int .i64 r, .int .i64 r, .slice oW (r * r) cW] 66) := ⟨_, rfl⟩
    rw [← hX]
    have hbX : Below w3.heap.size w3 X := by rw [hX]; exact ((Below.refl _ _).alloc (Nat.le_refl _) _).alloc (by simp) _
    have hsX : X.heap.size = w3.heap.size + 1 + 1 := by rw [hX]; simp
    have hgX : X.heap[w3.heap.size + 1]? = some (.cells #[.int .i64 r, .int .i64 c, .slice oH (r * c) cH, .int .i64 r, .int .i64 r, .slice oU (r * r) cU, .int .i64 r, .int .i64 r, .slice oW (r * r) cW] 66 (0, 0)) := by
     rw [hX]
     have := heap_alloc_new (w3.alloc (.cells #[.int .i64 r, .int .i64 c, .slice oH (r * c) cH, .int .i64 r, .int .i64 r, .slice oU (r * r) cU, .int .i64 r, .int .i64 r, .slice oW (r * r) cW, .int .i64 k] 74)) (.cells #[.int .i64 r, .int .i64 c, .slice oH (r * c) cH, .int .i64 r, .int .i64 r, .slice oU (r * r) cU, .int .i64 r, .int .i64 r, .slice oW (r * r) cW] 66)
     simpa using this
    have hbwX := K3.out.2.2.2.2.trans (hbX.mono K3.out.2.2.2.2.size)
    have hrow : MRow X (w3.heap.size + 1) [(r, c, hs), (r, r, us), (r, r, ws)] := MRow.three (x := (r, c, hs)) (y := (r, r, us)) (z := (r, r, ws)) hgX ((K3.out.1.below hbX).mono (by omega)) ((K3.out.2.1.below hbX).mono (by omega)) ((K3.out.2.2.1.below hbX).mono (by omega))
    have hw03 := K3.out.2.2.2.2.size
    have HX := Hid.mk (And.intro hbwX hrow)
    clear hX hbX hgX hbwX hrow
    refine (keepAll_held b (w3.heap.size + 1) 3 3 [(r, c, hs), (r, r, us), (r, r, ws)] ms nx _ (H.out.below HX.out.1) HX.out.2 rfl (by omega) (by omega) (by omega) (by have := HRM.out; omega) hnx).mono ?_
    rintro e w4 ⟨v4, rfl, hb4, zs4, rfl, k1, k2, k3, k4, k5, k6⟩
    have K4 := Hid.mk (And.intro k1 (And.intro k2 (And.intro k3 (And.intro k4 (And.intro k5 ((Fr.of_below HX.out.1).trans k6))))))
    clear k1 k2 k3 k4 k5 k6
    go_wp2_with fail
    go_ret2
    exact ⟨_, _, true, [(r, c, hs), (r, r, us), (r, r, ws)], rfl, .inr ⟨i, hd, r, c, zs, K1.out.2.2.1, K1.out.2.2.2.1, K1.out.2.2.2.2, .inr (.inr ⟨HFP.out, by have := HRM.out; omega, rfl, rfl, rfl, k, pc, hs, us, ws, rfl, K3.out.2.2.2.1⟩)⟩, .inr ⟨rfl, hb4, zs4, rfl, by have := HX.out.1.size; have := K4.out.1; omega, K4.out.2.1, K4.out.2.2.1, K4.out.2.2.2.1, K4.out.2.2.2.2.1, K4.out.2.2.2.2.2⟩⟩
 ·have KN := Hid.mk (And.intro hno hbw)
  clear hno hbw hb1 hbA hf
  go_wp2_with fail
  go_ret2
  exact ⟨_, _, false, [], rfl, .inl ⟨KN.out.1, rfl, rfl, rfl⟩, .inl ⟨rfl, rfl, H.out.below KN.out.2, Fr.of_below KN.out.2⟩⟩
open Go.RowKit
open Go.RowKit
open Go.RowKit
def SpEq (A B : Nat → Nat → Int) (r r' c : Nat) : Prop := (∀ i, i < r → Sp B r' c (A i)) ∧ ∀ i, i < r' → Sp A r c (B i)
theorem Sp.like {H H' : Nat → Nat → Int} {k c : Nat} {v : Nat → Int} (h : Sp H k c v) (he : ∀ b j, b < k → j < c → H b j = H' b j) : Sp H' k c v := by
 obtain ⟨x, hx⟩ := h
 exact ⟨x, fun j hj => (hx j hj).trans (sm_congr k fun l hl => by rw [he l j hl hj])⟩
theorem same_span {A B H H' U W U' W' : Nat → Nat → Int} {r r' c k k' : Nat} {pc pc' : Nat → Nat} (h : EchSt r c k pc H) (hE : EInv A H U W r c) (h' : EchSt r' c k' pc' H') (hE' : EInv B H' U' W' r' c) :
 (k = k' ∧ ∀ b j, b < k → j < c → H b j = H' b j) ↔ SpEq A B r r' c := by
 obtain ⟨s1, s2⟩ := span_rows h hE
 obtain ⟨t1, t2⟩ := span_rows h' hE'
 have l1 := h.le
 have l2 := h'.le
 constructor
 ·rintro ⟨rfl, he⟩
  exact ⟨fun i hi => ((s1 i hi).like he).trans (fun b hb => t2 b (by omega)), fun i hi => ((t1 i hi).like (fun b j hb hj => (he b j hb hj).symm)).trans (fun b hb => s2 b (by omega))⟩
 ·rintro ⟨e1, e2⟩
  exact h.uniq h' (fun b hb => ((s2 b (by omega)).trans e1).trans t1) (fun b hb => ((t2 b (by omega)).trans e2).trans s1)
open Go.RowKit
open Go.RowKit
end Go.Proofs.YtfjbijpagaipnabGreatDoor
