import Derived.Test.YtfjbijpagaipnaaDoorS19
import Derived.Test.YtfjbijpagaipnaaDoorS18
import Derived.Test.YtfjbijpagaipnaaDoorS09
import Derived.Test.YtfjbijpagaipnaaDoorS12
import Derived.Test.YtfjbijpagaipnaaDoorS14
namespace Go.Proofs.YtfjbijpagaipnaaDoor
open Go.RowKit
theorem PivIs.uniq {f : Nat → Int} {n : Nat} {z z' : Int} (h : PivIs f n z) (h' : PivIs f n z') : z = z' := by
 rcases h with ⟨i, i1, rfl, i2, i3⟩ | ⟨rfl, h0⟩
 ·rcases h' with ⟨j, j1, rfl, j2, j3⟩ | ⟨rfl, h0⟩
  ·rcases Nat.lt_trichotomy i j with h | h | h
   ·exact absurd (j3 i h) i2
   ·rw [h]
   ·exact absurd (i3 j h) j2
  ·exact absurd (h0 i i1) i2
 ·rcases h' with ⟨j, j1, rfl, j2, j3⟩ | ⟨rfl, -⟩
  ·exact absurd (h0 j j1) j2
  ·rfl
def shL (H : Nat → Nat → Int) (pc : Nat → Nat) (v : Nat → Int) (r k : Nat) : List Int := (List.range r).map fun t => if t < k then exQ H pc v t else 0
def lx (L : Nat) : Nat → Nat
 | 0 => L
 | t + 1 => 2 * lx L t + 2
theorem lx_mono (L : Nat) {s t : Nat} (h : s ≤ t) : lx L s ≤ lx L t := by
 induction t with
 | zero => rw [show s = 0 from by omega]; exact Nat.le_refl _
 | succ t ih =>
   by_cases hs : s = t + 1
   ·rw [hs]; exact Nat.le_refl _
   ·have := ih (by omega); rw [lx]; omega
set_option maxRecDepth 100000 in
set_option maxHeartbeats 4000000 in
theorem express_any (v u : Value) (r c k : Nat) (pc : Nat → Nat) (hs us ws vs : List Int) (L : Nat) (w : World) (hf : IsF w v r c k hs us ws L) (hu : IsM w u 1 c vs L) (hst : EchSt r c k pc (ent c hs)) (hr8 : r ≤ 8) (hL : L ≤ 200000) :
 Calls Tryd.prog 50 #[v, u] w fun e w' => ∃ (a1 a2 : Int) (ox : Option Addr) (nx px : Nat) (ok : Bool), e = .returned (.tuple #[.agg #[.int .i64 a1, .int .i64 a2, .slice ox nx px], .bool ok]) ∧ (ok = true → IsM w' (.agg #[.int .i64 a1, .int .i64 a2, .slice ox nx px]) 1 r (prodL 1 r r (shL (ent c hs) pc (ent c vs 0) r k) us) (2 * lx L k + 20)) ∧ (ok = true ↔ ∀ j, j < c → exV (ent c hs) pc (ent c vs 0) k j = 0) ∧ Below w.heap.size w w' := by
 obtain ⟨sH, sU, sW, rfl, mH, mU, mW⟩ := hf
 obtain ⟨oH, cH, rfl⟩ := mH.slice
 obtain ⟨oU, cU, rfl⟩ := mU.slice
 obtain ⟨oW, cW, rfl⟩ := mW.slice
 obtain ⟨-, hc99, sv, rfl, gv⟩ := id hu
 obtain ⟨oV, cV, rfl, -⟩ := gv.shape
 have hr99 := mH.1
 have H := Hid.mk (And.intro mH (And.intro mU (And.intro hu hst)))
 clear mH mU mW hu gv hst
 have HU : Hid (IsM w (.agg #[.int .i64 1, .int .i64 c, .slice oV c cV]) 1 c vs L) := Hid.mk (by have := H.out.2.2.1; rw [Nat.one_mul] at this; exact this)
 go_enter Tryd.func50, Tryd.ntmps50
 go_wp2_with fail
 obtain ⟨W0, hW0⟩ : ∃ W0, W0 = ((w.alloc (.cells #[.int .i64 r, .int .i64 c, .slice oH (r * c) cH, .int .i64 r, .int .i64 r, .slice oU (r * r) cU, .int .i64 r, .int .i64 r, .slice oW (r * r) cW, .int .i64 k] 71)).alloc (.cells #[.int .i64 1, .int .i64 c, .slice oV c cV] 63)).alloc (.cells #[.int .i64 0, .int .i64 0, .slice none 0 0] 63) := ⟨_, rfl⟩
 have hs0 : W0.heap.size = w.heap.size + 1 + 1 + 1 := by rw [hW0]; simp
 have hb0 : Below w.heap.size w W0 := by rw [hW0]; repeat (first | exact Below.refl _ _ | refine Below.alloc ?_ (by simp <;> omega) _)
 have hR0 : W0.heap[w.heap.size]? = some (.cells #[.int .i64 r, .int .i64 c, .slice oH (r * c) cH, .int .i64 r, .int .i64 r, .slice oU (r * r) cU, .int .i64 r, .int .i64 r, .slice oW (r * r) cW, .int .i64 k] 71 (0, 0)) := by
  rw [hW0]
  have h1 := heap_alloc_new w (.cells #[.int .i64 r, .int .i64 c, .slice oH (r * c) cH, .int .i64 r, .int .i64 r, .slice oU (r * r) cU, .int .i64 r, .int .i64 r, .slice oW (r * r) cW, .int .i64 k] 71)
  have h2 := ((Below.refl (w.alloc (.cells #[.int .i64 r, .int .i64 c, .slice oH (r * c) cH, .int .i64 r, .int .i64 r, .slice oU (r * r) cU, .int .i64 r, .int .i64 r, .slice oW (r * r) cW, .int .i64 k] 71)).heap.size _).alloc (Nat.le_refl _) (.cells #[.int .i64 1, .int .i64 c, .slice oV c cV] 63)).alloc (by simp) (.cells #[.int .i64 0, .int .i64 0, .slice none 0 0] 63)
  rw [h2.block w.heap.size (by simp)]
  exact h1
 have K0 := Hid.mk (And.intro hb0 (And.intro hR0 hW0))
 rw [← hW0]
 clear hb0 hR0 hW0
 refine (over_new _ _ r 1 c hs vs L _ (H.out.1.below K0.out.1) (HU.out.below K0.out.1) (by omega)).mono ?_
 rintro e w1 ⟨g, rfl, hg1, hG1, hb1⟩
 have hw1 := hb1.size
 have hgl := hG1.ty.lt
 obtain ⟨N, hN⟩ : ∃ N, N = (r + 1) * c := ⟨_, rfl⟩
 rw [← hN] at hG1 ⊢
 have hR1 : w1.heap[w.heap.size]? = some (.cells #[.int .i64 r, .int .i64 c, .slice oH (r * c) cH, .int .i64 r, .int .i64 r, .slice oU (r * r) cU, .int .i64 r, .int .i64 r, .slice oW (r * r) cW, .int .i64 k] 71 (0, 0)) := (hb1.block _ (by omega)).trans K0.out.2.1
 have K1 := Hid.mk (And.intro hG1 (And.intro hb1 (And.intro hR1 hN)))
 have a0 : ∀ i x, (#[Value.int .i64 r, .int .i64 c, .slice oH (r * c) cH, .int .i64 r, .int .i64 r, .slice oU (r * r) cU, .int .i64 r, .int .i64 r, .slice oW (r * r) cW, .int .i64 k])[i]? = some x → w1.cell? ⟨w.heap.size, i, none⟩ = some x := fun i x h => by simpa [World.cell?, hR1] using h
 have y0 := cell1 (a0 0 _ rfl)
 clear hG1 hb1 hR1 hN a0
 go_wp2_with fail
 have hbA := (Below.refl w1.heap.size w1).alloc (Nat.le_refl _) (.cells #[.int .i64 ((r : Int) + 1), .int .i64 c, .slice (some ⟨g, 0, none⟩) N N] 63)
 obtain ⟨W1, hW1⟩ : ∃ W1, W1 = w1.alloc (.cells #[.int .i64 ((r : Int) + 1), .int .i64 c, .slice (some ⟨g, 0, none⟩) N N] 63) := ⟨_, rfl⟩
 rw [← hW1] at hbA ⊢
 have hs1 : W1.heap.size = w1.heap.size + 1 := by rw [hW1]; simp
 have hR2 : W1.heap[w1.heap.size]? = some (.cells #[.int .i64 ((r : Int) + 1), .int .i64 c, .slice (some ⟨g, 0, none⟩) N N] 63 (0, 0)) := by rw [hW1]; exact heap_alloc_new w1 _
 have K2 := Hid.mk (And.intro hbA hR2)
 clear hbA hR2 hW1 y0
 refine (noughts_any 1 r _ (by omega) hr99).mono ?_
 rintro e w2 ⟨g2, rfl, hg2, hG2, hb2⟩
 rw [Nat.one_mul] at hG2 ⊢
 have hw2 := hb2.size
 have hgl2 := hG2.ty.lt
 have K3 := Hid.mk (And.intro hG2 hb2)
 clear hG2 hb2
 go_wp2_with fail
 have hpS : ∃ W2, W2 = w2.alloc (.cells #[.int .i64 1, .int .i64 r, .slice (some ⟨g2, 0, none⟩) r r] 63) := ⟨_, rfl⟩
 obtain ⟨W2, hW2⟩ := hpS
 have hbB : Below w2.heap.size w2 W2 := by rw [hW2]; exact (Below.refl _ _).alloc (Nat.le_refl _) _
 have hs2 : W2.heap.size = w2.heap.size + 1 := by rw [hW2]; simp
 have hR3 : W2.heap[w2.heap.size]? = some (.cells #[.int .i64 1, .int .i64 r, .slice (some ⟨g2, 0, none⟩) r r] 63 (0, 0)) := by rw [hW2]; exact heap_alloc_new w2 _
 have hb12 : Below w1.heap.size w1 W2 := (K2.out.1.trans (K3.out.2.mono (by omega))).trans (hbB.mono (by omega))
 have hbW : Below W0.heap.size W0 W2 := K1.out.2.1.trans (hb12.mono hw1)
 have hMW : MatO W2 w1.heap.size 0 g (r + 1) c (hs ++ vs) L := by
  have hcell : W2.heap[w1.heap.size]? = some (.cells #[.int .i64 ((r : Int) + 1), .int .i64 c, .slice (some ⟨g, 0, none⟩) N N] 63 (0, 0)) := ((hbB.block _ (by omega)).trans (K3.out.2.block _ (by omega))).trans K2.out.2
  have hN := K1.out.2.2.2
  have e1 : ((r + 1 : Nat) : Int) = (r : Int) + 1 := by omega
  refine ⟨by omega, hc99, ⟨?_, ?_, ?_⟩, ?_⟩
  ·rw [e1]; simp [World.cell?, hcell]
  ·simp [World.cell?, hcell]
  ·rw [← hN]; simp [World.cell?, hcell]
  ·rw [← hN]; exact K1.out.1.below hb12
 have hMS : MatO W2 w2.heap.size 0 g2 1 r (List.replicate r 0) (lx L k + 1) := by
  refine ⟨by omega, hr99, ⟨?_, ?_, ?_⟩, ?_⟩
  ·simp [World.cell?, hR3]
  ·simp [World.cell?, hR3]
  ·rw [Nat.one_mul]; simp [World.cell?, hR3]
  ·rw [Nat.one_mul]; exact (K3.out.1.below hbB).mono (Nat.zero_le _)
 have K4 := Hid.mk (And.intro hMW (And.intro hMS (And.intro hbW (And.intro hb12 hW2))))
 rw [← hW2]
 clear hbB hR3 hb12 hbW hMW hMS hW2
 obtain ⟨Hf, hHf⟩ : ∃ Hf, Hf = ent c hs := ⟨_, rfl⟩
 obtain ⟨vf, hvf⟩ : ∃ vf, vf = ent c vs 0 := ⟨_, rfl⟩
 have HF := Hid.mk (And.intro hHf hvf)
 clear hHf hvf
 have hkr : k ≤ r := H.out.2.2.2.le
 have HLX : Hid (lx L k ≤ 100000000) := Hid.mk (by
  have h1 := lx_mono L (show k ≤ 8 by omega)
  have h2 : lx L 8 = 256 * (L + 2) - 2 := by simp only [lx]; omega
  omega)
 have HB : Hid (∀ w', Below W0.heap.size W0 w' → w'.cell? ⟨w.heap.size, 0, none⟩ = some (.int .i64 r) ∧ w'.cell? ⟨w.heap.size, 1, none⟩ = some (.int .i64 c) ∧ w'.cell? ⟨w.heap.size, 2, none⟩ = some (.slice oH (r * c) cH) ∧ w'.cell? ⟨w.heap.size, 3, none⟩ = some (.int .i64 r) ∧ w'.cell? ⟨w.heap.size, 4, none⟩ = some (.int .i64 r) ∧ w'.cell? ⟨w.heap.size, 5, none⟩ = some (.slice oU (r * r) cU) ∧ w'.cell? ⟨w.heap.size, 9, none⟩ = some (.int .i64 k)) := Hid.mk (fun w' hb => by
  have hR := (hb.block w.heap.size (by omega)).trans K0.out.2.1
  refine ⟨?_, ?_, ?_, ?_, ?_, ?_, ?_⟩ <;> simp [World.cell?, hR])
 go_loopw [9] (fun i wr => ∃ (t : Nat) (zs ss : List Int), t ≤ k ∧ i = .int .i64 t ∧ Hid (MatO wr w1.heap.size 0 g (r + 1) c zs (lx L t) ∧ MatO wr w2.heap.size 0 g2 1 r ss (lx L k + 1) ∧ Below W0.heap.size W0 wr ∧ (∀ i j, i < r → j < c → ent c zs i j = Hf i j) ∧ (∀ j, j < c → ent c zs r j = exV Hf pc vf t j) ∧ ∀ l, l < r → ent r ss 0 l = if l < t then exQ Hf pc vf l else 0)) (fun i _ => k - (intOf i).toNat)
 case atStart =>
  obtain ⟨k1, k2, k3, -⟩ := K4.out
  have hlh : hs.length = r * c := by obtain ⟨_, _, _, _, h3⟩ := H.out.1; exact h3.1
  refine ⟨0, hs ++ vs, List.replicate r 0, Nat.zero_le _, rfl, Hid.mk ⟨k1, k2, k3, fun i j hi hj => ?_, fun j hj => ?_, fun l hl => ?_⟩⟩
  ·rw [HF.out.1]; unfold ent
   have : i * c + j < hs.length := by rw [hlh]; exact idx_lt hi hj
   simp [List.getD, List.getElem?_append_left this]
  ·rw [HF.out.2, exV]; unfold ent
   rw [List.getD, List.getElem?_append_right (by rw [hlh]; omega), hlh]
   simp [List.getD]
  ·unfold ent; simp [List.getD, hl]
 case round =>
  obtain ⟨t, zs, ss, ht, rfl, HI⟩ := hrel
  obtain ⟨y0, y1, y2, y3, y4, y5, y9⟩ := HB.out wr HI.out.2.2.1
  have hwr := HI.out.2.2.1.size
  have hplW := HI.out.1.plt
  have hplS := HI.out.2.1.plt
  by_cases htk : t < k
  ·have hti : (t : Int) < (k : Int) := by omega
   go_wp2_with fail
   have hbw : Below w.heap.size w wr := K0.out.1.trans (HI.out.2.2.1.mono (by omega))
   refine (pivotOf_any _ r c t hs L _ (H.out.1.below hbw) (by omega)).mono ?_
   rintro e w3 ⟨z3, rfl, hz3, hb3⟩
   have hz : z3 = (pc t : Nat) := hz3.uniq (.inl ⟨pc t, H.out.2.2.2.col t htk, rfl, by have := H.out.2.2.2.piv t htk; show ent c hs t (pc t) ≠ 0; omega, fun j hj => H.out.2.2.2.left t htk j hj⟩)
   subst hz
   have hpc : pc t < c := H.out.2.2.2.col t htk
   have hb03 := HI.out.2.2.1.trans (hb3.mono hwr)
   have K5 := Hid.mk (And.intro hb3 (And.intro hb03 hbw))
   have hw3 := hb3.size
   clear hz3 hb3 hb03 hbw y0 y1 y2 y3 y4 y5 y9
   obtain ⟨y0, y1, y2, y3, y4, y5, y9⟩ := HB.out w3 K5.out.2.1
   go_wp2_with fail
   refine (at_in _ r c t (pc t) hs L _ ((H.out.1.below K5.out.2.2).below K5.out.1) (by omega) hpc).mono ?_
   rintro e w4 ⟨x4, rfl, hx4, hb4⟩
   obtain ⟨nb4, so4, n4, cp4, rfl⟩ := hx4.shape
   have hw4 := hb4.size
   have hb34 := K5.out.1.trans (hb4.mono hw3)
   have hMW := HI.out.1.later hb34
   obtain ⟨N1, hN1⟩ : ∃ N1, N1 = (r + 1) * c := ⟨_, rfl⟩
   have K6 := Hid.mk (And.intro hx4 (And.intro hb34 (And.intro hMW hN1)))
   clear hx4 hb4 hb34 hMW hN1
   obtain ⟨W5, hW5⟩ : ∃ W5, W5 = w4.alloc (.cells #[.bool nb4, .slice so4 n4 cp4] 78) := ⟨_, rfl⟩
   have hb45 : Below w4.heap.size w4 W5 := by rw [hW5]; exact (Below.refl _ _).alloc (Nat.le_refl _) _
   have hs5 : W5.heap.size = w4.heap.size + 1 := by rw [hW5]; simp
   have hD5 : Duo W5 w4.heap.size (.bool nb4) (.slice so4 n4 cp4) := by rw [hW5]; exact Duo.new _ _ _ rfl
   have hMI : IsM W5 (.agg #[.int .i64 ((r : Int) + 1), .int .i64 c, .slice (some ⟨g, 0, none⟩) N1 N1]) (r + 1) c zs (lx L t) := by
    have := (K6.out.2.2.1.later hb45).isM
    rw [← K6.out.2.2.2] at this
    exact this
   have hTr : W5.cell? ⟨w1.heap.size, 0, none⟩ = some (.int .i64 ((r : Int) + 1)) ∧ W5.cell? ⟨w1.heap.size, 1, none⟩ = some (.int .i64 c) ∧ W5.cell? ⟨w1.heap.size, 2, none⟩ = some (.slice (some ⟨g, 0, none⟩) N1 N1) := by
    obtain ⟨m0, m1, m2⟩ := (K6.out.2.2.1.later hb45).tri
    rw [← K6.out.2.2.2] at m2
    exact ⟨m0, m1, m2⟩
   have hby := K6.out.1.below hb45
   have K7 := Hid.mk (And.intro hMI (And.intro hTr (And.intro hby (And.intro hD5 (And.intro hb45 hW5)))))
   have HC1 := Hid.mk (show ∀ w', Below W5.heap.size W5 w' → w'.cell? ⟨w1.heap.size, 0, none⟩ = some (.int .i64 ((r : Int) + 1)) ∧ w'.cell? ⟨w1.heap.size, 1, none⟩ = some (.int .i64 c) ∧ w'.cell? ⟨w1.heap.size, 2, none⟩ = some (.slice (some ⟨g, 0, none⟩) N1 N1) ∧ w'.cell? ⟨w4.heap.size, 0, none⟩ = some (.bool nb4) ∧ w'.cell? ⟨w4.heap.size, 1, none⟩ = some (.slice so4 n4 cp4) from
    fun w' hb => ⟨cell_later hb hTr.1, cell_later hb hTr.2.1, cell_later hb hTr.2.2, cell_later hb hD5.cells.1, cell_later hb hD5.cells.2.1⟩)
   obtain ⟨q0, q1, q2⟩ := hTr
   obtain ⟨q3, q4, -, -⟩ := hD5.cells
   have hlx : lx L t ≤ lx L k := lx_mono L (by omega)
   have hlxk : lx L k ≤ 100000000 := HLX.out
   have HS5 := Hid.mk hs5
   have hw45 : w4.heap.size < W5.heap.size := by omega
   clear hMI hby hD5 hb45 y0 y1 y2 y3 y4 y5 y9 hs5
   go_wp2_with fail
   rw [← K7.out.2.2.2.2.2]
   clear hW5
   go_cut [12] from 39 to 45 (fun pv wx => PartIn W5 ((zs.getD (r * c + pc t) 0).fdiv (hs.getD (t * c + pc t) 0)) (lx L t + 1) pv wx)
   case first =>
    go_region_held3 (fun w' => w'.cell? ⟨w1.heap.size, 0, none⟩ = some (.int .i64 ((r : Int) + 1)) ∧ w'.cell? ⟨w1.heap.size, 1, none⟩ = some (.int .i64 c) ∧ w'.cell? ⟨w1.heap.size, 2, none⟩ = some (.slice (some ⟨g, 0, none⟩) N1 N1) ∧ w'.cell? ⟨w4.heap.size, 0, none⟩ = some (.bool nb4) ∧ w'.cell? ⟨w4.heap.size, 1, none⟩ = some (.slice so4 n4 cp4))
     (exact HC1.out _ (by first | exact hbW6 | exact hbW6.alloc hbW6.size _ | exact (hbW6.setCell (Nat.le_refl _) _).setCell (Nat.le_refl _) _ | exact (hbW6.setCell hw5s _).setCell hw5s _ | exact hbW5 | exact hbW5.alloc hbW5.size _ | exact (Below.refl _ _).drew | exact ((Below.refl _ _).alloc (Nat.le_refl _) _).drew))
     (first
       | (go_at_call 60; refine (at_in _ (r + 1) c r (pc t) zs (lx L t) _ (K7.out.1.below ((Below.refl _ _).drew)) (by omega) hpc).mono ?_; rintro e9 w5 ⟨x5, rfl, hx5, hb5⟩; obtain ⟨nb5, so5, n5, cp5, rfl⟩ := hx5.shape; have hbW5 : Below W5.heap.size W5 w5 := ((Below.refl _ _).drew).trans hb5; clear hb5)
       | (go_at_call 60; refine (at_in _ (r + 1) c r (pc t) zs (lx L t) _ (K7.out.1.below (((Below.refl _ _).alloc (Nat.le_refl _) _).drew)) (by omega) hpc).mono ?_; rintro e9 w5 ⟨x5, rfl, hx5, hb5⟩; obtain ⟨nb5, so5, n5, cp5, rfl⟩ := hx5.shape; have hbW5 : Below W5.heap.size W5 w5 := (((Below.refl _ _).alloc (Nat.le_refl _) _).drew).trans (hb5.mono (by simp)); have hD5 : Duo w5 W5.heap.size (.bool false) (.slice none 0 0) := Duo.below (Duo.drew (Duo.alloc_new W5)) hb5 (by simp); clear hb5)
       | (go_at_call 73; refine (quot_any _ _ (zs.getD (r * c + pc t) 0) (hs.getD (t * c + pc t) 0) (lx L t) L _ hx5 (K7.out.2.2.1.below hbW5) (by omega) (by omega)).mono ?_; rintro e9 w6 ⟨x6, rfl, hx6, hb6⟩; obtain ⟨nb6, so6, n6, cp6, rfl⟩ := hx6.shape; have hbW6 : Below W5.heap.size W5 w6 := hbW5.trans (hb6.mono hbW5.size); have hD6 : Duo w6 W5.heap.size (.bool false) (.slice none 0 0) := hD5.below hb6 (Array.getElem?_eq_some_iff.1 hD5).1; have hD6c := hD6.cells; clear hb6)
       | (go_at_call 73; refine (quot_any _ _ (zs.getD (r * c + pc t) 0) (hs.getD (t * c + pc t) 0) (lx L t) L _ hx5 (K7.out.2.2.1.below hbW5) (by omega) (by omega)).mono ?_; rintro e9 w6 ⟨x6, rfl, hx6, hb6⟩; obtain ⟨nb6, so6, n6, cp6, rfl⟩ := hx6.shape; have hbW6 : Below W5.heap.size W5 w6 := hbW5.trans (hb6.mono hbW5.size); clear hb6)
       | (go_at_call 73; refine (quot_any _ _ (zs.getD (r * c + pc t) 0) (hs.getD (t * c + pc t) 0) (lx L t) L _ (hx5.below ((Below.refl w5.heap.size w5).alloc (Nat.le_refl _) _)) ((K7.out.2.2.1.below hbW5).below ((Below.refl w5.heap.size w5).alloc (Nat.le_refl _) _)) (by omega) (by omega)).mono ?_; rintro e9 w6 ⟨x6, rfl, hx6, hb6⟩; obtain ⟨nb6, so6, n6, cp6, rfl⟩ := hx6.shape; have hbW6 : Below W5.heap.size W5 w6 := hbW5.trans ((((Below.refl w5.heap.size w5).alloc (Nat.le_refl _) _).trans (hb6.mono (by simp))).mono hbW5.size); have hw5s := hbW5.size; have hD6 : Duo w6 w5.heap.size (.bool false) (.slice none 0 0) := Duo.below (Duo.alloc_new w5) hb6 (by simp); have hD6c := hD6.cells; clear hb6))
    all_goals
     go_wp2_with fail
     go_meet
     case rel =>
      first
       | exact ⟨_, _, _, _, _, rfl, hbW6.size, Duo.new _ _ _ rfl, hx6.below ((Below.refl _ _).alloc (Nat.le_refl _) _), hbW6.alloc hbW6.size _⟩
       | exact ⟨_, _, _, _, _, rfl, Nat.le_refl _, hD6.put _ _, hx6.duo hD6 _ _, (hbW6.setCell (Nat.le_refl _) _).setCell (Nat.le_refl _) _⟩
       | exact ⟨_, _, _, _, _, rfl, hw5s, hD6.put _ _, hx6.duo hD6 _ _, (hbW6.setCell hw5s _).setCell hw5s _⟩
   case rest =>
    rename World => w6
    obtain ⟨pb6, nb6, so6, n6, cp6, rfl, hpb6, hD6, hI6, hb6⟩ := hcut
    have hb46 : Below w4.heap.size w4 w6 := K7.out.2.2.2.2.1.trans (hb6.mono (by have := HS5.out; omega))
    have hbr6 : Below wr.heap.size wr w6 := K6.out.2.1.trans (hb46.mono (by omega))
    obtain ⟨z0, z1, -, -⟩ := hD6.cells
    have hw6 := hb6.size
    have K8 := Hid.mk (And.intro hI6 (And.intro hbr6 hD6))
    clear hI6 hb6 hb46 hbr6 hD6 q0 q1 q2 q3 q4
    go_wp2_with fail
    refine (takeRow_any w1.heap.size 0 g (r + 1) c r t zs (lx L t) (lx L t + 1) _ _ _ (HI.out.1.later K8.out.2.1) K8.out.1 (by omega) (by omega) (by omega) (by omega) (by omega) (by omega)).mono ?_
    rintro e w7 ⟨rfl, ⟨zs7, hM7, hz7⟩, hg7⟩
    have hw7 := hg7.size
    have hku7 : KU w6 w7 := KU.of_grown hg7 (HI.out.1.later K8.out.2.1).grid.ty (by decide)
    have hS7 := (HI.out.2.1.later K8.out.2.1).other hg7 hku7 (by omega) (by omega)
    have hD7 : Duo w7 pb6 (.bool nb6) (.slice so6 n6 cp6) := by
     unfold Duo
     rw [hg7.block pb6 (Array.getElem?_eq_some_iff.1 K8.out.2.2).1 (by simp; omega)]
     exact K8.out.2.2
    have hI7 := (K8.out.1.keep hku7).mono (show lx L t + 1 ≤ lx L k + 1 by omega)
    have hbW7 : Below W0.heap.size W0 w7 := (HI.out.2.2.1.trans (K8.out.2.1.mono hwr)).trans (below_of_grown hg7 hg1 (by have := K8.out.2.1.size; omega))
    obtain ⟨z0, z1, -, -⟩ := hD7.cells
    have K9 := Hid.mk (And.intro hM7 (And.intro hz7 (And.intro hS7 (And.intro hI7 hbW7))))
    clear hM7 hz7 hg7 hku7 hS7 hD7 hI7 hbW7
    go_wp2_with fail
    refine (set_m w2.heap.size 0 g2 1 r 0 t ss (lx L k + 1) _ _ _ K9.out.2.2.1 (by omega) K9.out.2.2.2.1 (by omega) (by omega)).mono ?_
    rintro e w8 ⟨rfl, hM8, hg8, hku8⟩
    have hW8 := K9.out.1.other hg8 hku8 (by omega) (by omega)
    have hbW8 : Below W0.heap.size W0 w8 := K9.out.2.2.2.2.trans (below_of_grown hg8 (by omega) (by omega))
    have K10 := Hid.mk (And.intro hM8 (And.intro hW8 hbW8))
    clear hM8 hg8 hku8 hW8 hbW8 z0 z1
    go_wp2_with fail
    go_roundw
    case measure => simp [intOf]; omega
    case rel =>
     obtain ⟨i1, i2, i3, i4, i5, i6⟩ := HI.out
     have hq : (zs.getD (r * c + pc t) 0).fdiv (hs.getD (t * c + pc t) 0) = exQ Hf pc vf t := by
      have h1 := i5 (pc t) hpc
      unfold ent at h1
      rw [h1, HF.out.1]
      rfl
     have h7 := K9.out.2.1
     rw [hq] at h7
     have hM8 := K10.out.1
     rw [hq] at hM8
     refine ⟨t + 1, zs7, _, by omega, by go_num, Hid.mk ⟨K10.out.2.1.mono (by rw [lx]; omega), hM8, K10.out.2.2, fun i j hi hj => ?_, fun j hj => ?_, fun l hl => ?_⟩⟩
     ·rw [h7 i j (by omega) hj, if_neg (by omega)]; exact i4 i j hi hj
     ·rw [h7 r j (by omega) hj, if_pos rfl, i5 j hj, i4 t j (by omega) hj, exV]; rfl
     ·rw [ent_set ss 1 r i2.len 0 t 0 l _ (by omega) (by omega) hl]
      by_cases hlt : l = t
      ·rw [if_pos ⟨rfl, hlt⟩, if_pos (by omega), hlt]
      ·rw [if_neg (fun h => hlt h.2), i6 l hl]
       by_cases h2 : l < t
       ·rw [if_pos h2, if_pos (by omega)]
       ·rw [if_neg h2, if_neg (by omega)]
  ·have hti : ¬ (t : Int) < (k : Int) := by omega
   have htk2 : t = k := by omega
   subst htk2
   have hMWi : IsM wr (.agg #[.int .i64 ((r : Int) + 1), .int .i64 c, .slice (some ⟨g, 0, none⟩) N N]) (r + 1) c zs (lx L t) := by
    have := HI.out.1.isM
    rw [← K1.out.2.2.2] at this
    exact this
   obtain ⟨m0, m1, m2⟩ := HI.out.1.tri
   have e1 : ((r + 1 : Nat) : Int) = (r : Int) + 1 := by omega
   rw [e1] at m0
   rw [← K1.out.2.2.2] at m2
   have KM := Hid.mk hMWi
   clear hMWi e1
   go_wp2_with fail
   refine (pivotOf_any _ (r + 1) c r zs (lx L t) _ KM.out (by omega)).mono ?_
   rintro e w3 ⟨z3, rfl, hz3, hb3⟩
   have hw3 := hb3.size
   have hb03 := HI.out.2.2.1.trans (hb3.mono hwr)
   have hbw3 : Below w.heap.size w w3 := K0.out.1.trans (hb03.mono (by omega))
   have K5 := Hid.mk (And.intro hz3 (And.intro hb3 (And.intro hb03 hbw3)))
   have hRr : w3.heap[w.heap.size + 1 + 1]? = some (.cells #[.int .i64 0, .int .i64 0, .slice none 0 0] 63 (0, 0)) := by
    rw [hb03.block _ (by omega), K0.out.2.2]
    have := heap_alloc_new ((w.alloc (.cells #[.int .i64 r, .int .i64 c, .slice oH (r * c) cH, .int .i64 r, .int .i64 r, .slice oU (r * r) cU, .int .i64 r, .int .i64 r, .slice oW (r * r) cW, .int .i64 t] 71)).alloc (.cells #[.int .i64 1, .int .i64 c, .slice oV c cV] 63)) (.cells #[.int .i64 0, .int .i64 0, .slice none 0 0] 63)
    simpa using this
   have KR := Hid.mk hRr
   obtain ⟨m3, m4, m5⟩ := (HI.out.2.1.later hb3).tri
   rw [Nat.one_mul] at m5
   clear hz3 hb3 hb03 hbw3 y0 y1 y2 y3 y4 y5 y9 m0 m1 m2 hRr
   obtain ⟨y0, y1, y2, y3, y4, y5, y9⟩ := HB.out w3 K5.out.2.2.1
   by_cases hz0 : 0 ≤ z3
   ·have r0 : w3.cell? ⟨w.heap.size + 1 + 1, 0, none⟩ = some (.int .i64 0) := by simp [World.cell?, KR.out]
    have r1 : w3.cell? ⟨w.heap.size + 1 + 1, 1, none⟩ = some (.int .i64 0) := by simp [World.cell?, KR.out]
    have r2 : w3.cell? ⟨w.heap.size + 1 + 1, 2, none⟩ = some (.slice none 0 0) := by simp [World.cell?, KR.out]
    have f0 : ∀ o, w3.frozen? ⟨w.heap.size + 1 + 1, o, none⟩ = false := fun o => by simp [World.frozen?, KR.out]
    go_wp2_with fail
    refine bodyPost_ret (v := .tuple #[.agg #[.int .i64 0, .int .i64 0, .slice none 0 0], .bool false]) ?_ rfl ?_
    ·(simp [results, Tryd.results50, go_sem, r0, r1, r2]; done)
    ·refine ⟨_, _, _, _, _, false, rfl, (fun h => by cases h), ⟨(fun h => by cases h), fun h => ?_⟩, ((K5.out.2.2.2.setCell (by simp; omega) _).setCell (by simp; omega) _).setCell (by simp; omega) _⟩
     exfalso
     rcases K5.out.1 with ⟨i, i1, -, i2, -⟩ | ⟨i1, -⟩
     ·have h1 := HI.out.2.2.2.2.1 i i1
      rw [HF.out.1, HF.out.2, h i i1] at h1
      exact i2 h1
     ·omega
   ·have hMS : IsM w3 (.agg #[.int .i64 1, .int .i64 r, .slice (some ⟨g2, 0, none⟩) r r]) 1 r ss (lx L t + 1) := by
     have := (HI.out.2.1.later K5.out.2.1).isM
     rw [Nat.one_mul] at this
     exact this
    have hMU : IsM w3 (.agg #[.int .i64 r, .int .i64 r, .slice oU (r * r) cU]) r r us (lx L t + 1) := (H.out.2.1.below K5.out.2.2.2).mono (by have := lx_mono L (Nat.zero_le t); rw [lx] at this; omega)
    have KT2 := Hid.mk (And.intro hMS hMU)
    clear hMS hMU
    have hlxk : lx L t ≤ 100000000 := HLX.out
    go_wp2_with fail
    refine (gtimes_any _ _ 1 r r ss us (lx L t + 1) _ KT2.out.1 KT2.out.2 (by omega)).mono ?_
    rintro e w4 ⟨x4, rfl, ⟨ms4, hM4, hp4⟩, hb4⟩
    obtain ⟨_, _, sl4, rfl, hG4⟩ := id hM4
    obtain ⟨o4, c4, rfl, -⟩ := hG4.shape
    have hw4 := hb4.size
    have hms : ms4 = prodL 1 r r (shL Hf pc vf r t) us := by
     have hss : ss = shL Hf pc vf r t := by
      have hl := HI.out.2.1.len
      rw [Nat.one_mul] at hl
      apply List.ext_getElem (by rw [hl]; simp [shL])
      intro l h1 h2
      have := HI.out.2.2.2.2.2 l (by omega)
      unfold ent at this
      rw [Nat.zero_mul, Nat.zero_add] at this
      rw [show ss[l] = ss.getD l 0 from by simp [List.getD, h1], this]
      simp [shL]
     rw [← hss]
     exact prodL_eq (by simpa using hG4.1) hp4
    have hRr : w4.heap[w.heap.size + 1 + 1]? = some (.cells #[.int .i64 0, .int .i64 0, .slice none 0 0] 63 (0, 0)) := (hb4.block _ (by omega)).trans KR.out
    have K6 := Hid.mk (And.intro hM4 (And.intro hms (And.intro (K5.out.2.2.2.trans (hb4.mono (by omega))) hRr)))
    have r0 : w4.cell? ⟨w.heap.size + 1 + 1, 0, none⟩ = some (.int .i64 0) := by simp [World.cell?, hRr]
    have r1 : w4.cell? ⟨w.heap.size + 1 + 1, 1, none⟩ = some (.int .i64 0) := by simp [World.cell?, hRr]
    have r2 : w4.cell? ⟨w.heap.size + 1 + 1, 2, none⟩ = some (.slice none 0 0) := by simp [World.cell?, hRr]
    have f0 : ∀ o, w4.frozen? ⟨w.heap.size + 1 + 1, o, none⟩ = false := fun o => by simp [World.frozen?, hRr]
    clear hM4 hp4 hG4 hms hRr hb4
    obtain ⟨RC, hRC⟩ : ∃ RC, RC = 1 * r := ⟨_, rfl⟩
    rw [← hRC] at K6 ⊢
    have HRC := Hid.mk hRC
    clear hRC
    go_wp2_with fail
    refine bodyPost_ret (v := .tuple #[.agg #[.int .i64 1, .int .i64 r, .slice o4 RC c4], .bool true]) ?_ rfl ?_
    ·(simp [results, Tryd.results50, go_sem, r0, r1, r2]; done)
    ·have hT : Ty w4 (w.heap.size + 1 + 1) 63 := ⟨_, _, K6.out.2.2.2⟩
     have k3 : ∀ v0 v1 v2 : Value, KT w4 (((w4.setCell ⟨w.heap.size + 1 + 1, 0, none⟩ v0).setCell ⟨w.heap.size + 1 + 1, 1, none⟩ v1).setCell ⟨w.heap.size + 1 + 1, 2, none⟩ v2) := fun v0 v1 v2 => KT.setCell (KT.setCell (KT.setCell (KT.refl _) hT (by decide) (by decide) v0) (hT.setCell ⟨w.heap.size + 1 + 1, 0, none⟩ v0) (by decide) (by decide) v1) ((hT.setCell ⟨w.heap.size + 1 + 1, 0, none⟩ v0).setCell ⟨w.heap.size + 1 + 1, 1, none⟩ v1) (by decide) (by decide) v2
     refine ⟨_, _, _, _, _, true, rfl, fun _ => ?_, ⟨fun _ j hj => ?_, fun _ => rfl⟩, ((K6.out.2.2.1.setCell (by simp; omega) _).setCell (by simp; omega) _).setCell (by simp; omega) _⟩
     ·have h1 := K6.out.1
      rw [K6.out.2.1, HF.out.1, HF.out.2] at h1
      obtain ⟨x1, x2, x3, x4, x5⟩ := h1
      have h2 : IsM w4 (.agg #[.int .i64 1, .int .i64 r, .slice o4 RC c4]) 1 r (prodL 1 r r (shL (ent c hs) pc (ent c vs 0) r t) us) (2 * lx L t + 20) := ⟨x1, x2, x3, x4, x5.mono (by omega)⟩
      obtain ⟨y1, y2, y3, y4, y5⟩ := h2
      exact ⟨y1, y2, y3, y4, y5.keep (k3 _ _ _)⟩
     ·rcases K5.out.1 with ⟨i, -, i1, -⟩ | ⟨-, i1⟩
      ·omega
      ·have h1 := HI.out.2.2.2.2.1 j hj
       rw [HF.out.1, HF.out.2] at h1
       rw [← h1]
       exact i1 j hj
open Go.RowKit
theorem mem_iff {A H U W : Nat → Nat → Int} {r c k : Nat} {pc : Nat → Nat} {v : Nat → Int} (h : EchSt r c k pc H) (hE : EInv A H U W r c) : (∀ j, j < c → exV H pc v k j = 0) ↔ Sp A r c v := by
 obtain ⟨s1, s2⟩ := span_rows h hE
 have hle := h.le
 constructor
 ·intro h0
  have h1 : Sp H k c v := ⟨_, fun j hj => ex_back h0 j hj⟩
  exact h1.trans (fun b hb => s2 b (by omega))
 ·intro hv j hj
  exact h.ex_span (hv.trans s1) j hj
def MemIs (r c : Nat) (zs vs xs : List Int) : Prop := ∃ k pc hs us ws, EchIs r c zs k pc hs us ws ∧ xs = prodL 1 r r (shL (ent c hs) pc (ent c vs 0) r k) us
end Go.Proofs.YtfjbijpagaipnaaDoor
