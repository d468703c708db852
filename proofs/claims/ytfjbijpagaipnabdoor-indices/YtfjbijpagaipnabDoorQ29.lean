import Derived.Test.YtfjbijpagaipnabDoorQ28
import Derived.Test.YtfjbijpagaipnabDoorQ22
import Derived.Test.YtfjbijpagaipnabDoorQ25
import Derived.Test.YtfjbijpagaipnabDoorQ10
import Derived.Test.YtfjbijpagaipnabDoorQ18
import Derived.Test.YtfjbijpagaipnabDoorQ20
namespace Go.Proofs.YtfjbijpagaipnabDoor
open Go.RowKit
def flipL (r c : Nat) (zs : List Int) : List Int := (List.range (c * r)).map fun t => ent c zs (t % r) (t / r)
theorem flipL_is (r c : Nat) (zs : List Int) : FlipOf r c zs (flipL r c zs) := by
 refine ⟨by simp [flipL], fun i j hi hj => ?_⟩
 have h1 : (i * r + j) / r = i := by rw [Nat.mul_comm, Nat.mul_add_div (by omega), Nat.div_eq_of_lt hj]; omega
 have h2 : (i * r + j) % r = j := by rw [Nat.mul_comm, Nat.mul_add_mod]; exact Nat.mod_eq_of_lt hj
 rw [show ent r (flipL r c zs) i j = (flipL r c zs).getD (i * r + j) 0 from rfl]
 unfold flipL
 rw [List.getD, List.getElem?_map, List.getElem?_range (idx_lt hi hj)]
 simp only [Option.map_some, Option.getD_some, h1, h2]
def SolveIs (r c : Nat) (zs ys xs : List Int) (nk : Nat) (ks : List Int) : Prop := ∃ k pc hs us ws, EchIs c r (flipL r c zs) k pc hs us ws ∧ xs = flipL 1 c (prodL 1 c c (shL (ent r hs) pc (ent r (flipL r 1 ys) 0) c k) us) ∧ nk = c - k ∧ k ≤ c ∧ ks.length = nk * c ∧ ∀ i j, i < nk → j < c → ent c ks i j = ent c us (k + i) j
theorem IsF.bel {w w' : World} {v : Value} {r c k : Nat} {hs us ws : List Int} {L : Nat} (h : IsF w v r c k hs us ws L) (hb : Below w.heap.size w w') : IsF w' v r c k hs us ws L := by
 obtain ⟨s1, s2, s3, e, m1, m2, m3⟩ := h
 exact ⟨s1, s2, s3, e, m1.below hb, m2.below hb, m3.below hb⟩
theorem RfM.nine {w : World} {q r c k : Nat} {sH sA sB : Value} (h : RfM w q r c k sH sA sB) : w.cell? ⟨q, 9, none⟩ = some (.int .i64 k) := by unfold RfM at h; simp [World.cell?, h]
set_option maxRecDepth 100000 in
set_option maxHeartbeats 4000000 in
theorem solve_any (v u : Value) (r c : Nat) (zs ys : List Int) (w : World) (hm : IsM w v r c zs 2) (hn : IsM w u r 1 ys 2) (hr4 : r ≤ 4) (hc4 : c ≤ 4) (hz : ∀ i j, i < r → j < c → (ent c zs i j).natAbs < 2 ^ 48) :
 Calls Tryd.prog 28 #[v, u] w fun e w' => ∃ (a1 a2 b1 b2 : Int) (o1 o2 : Option Addr) (n1 n2 p1 p2 : Nat) (ok : Bool), e = .returned (.tuple #[.agg #[.int .i64 a1, .int .i64 a2, .slice o1 n1 p1], .agg #[.int .i64 b1, .int .i64 b2, .slice o2 n2 p2], .bool ok]) ∧ (ok = true ↔ Sp (ent r (flipL r c zs)) c r (ent r (flipL r 1 ys) 0)) ∧ HasF (ent r (flipL r c zs)) c r ∧
  (ok = true → ∃ xs nk ks, SolveIs r c zs ys xs nk ks ∧ a1 = c ∧ a2 = 1 ∧ b1 = nk ∧ b2 = c ∧ IsM w' (.agg #[.int .i64 a1, .int .i64 a2, .slice o1 n1 p1]) c 1 xs 200000000 ∧ IsM w' (.agg #[.int .i64 b1, .int .i64 b2, .slice o2 n2 p2]) nk c ks 200000000) ∧ Below w.heap.size w w' := by
 have HM := Hid.mk hm
 have HN := Hid.mk hn
 obtain ⟨hr, hc, sl, rfl, hg0⟩ := hm
 obtain ⟨ao, cap, rfl, -⟩ := hg0.shape
 obtain ⟨-, h1, tl, rfl, hg1⟩ := hn
 obtain ⟨bo, dap, rfl, -⟩ := hg1.shape
 clear hg0 hg1
 obtain ⟨N, hN⟩ : ∃ N, N = r * c := ⟨_, rfl⟩
 obtain ⟨M, hM⟩ : ∃ M, M = r * 1 := ⟨_, rfl⟩
 rw [← hN] at HM ⊢
 rw [← hM] at HN ⊢
 clear hN hM
 go_enter Tryd.func28, Tryd.ntmps28
 go_wp2_with fail
 obtain ⟨W0, hW0⟩ : ∃ W0, W0 = (((w.alloc (.cells #[.int .i64 r, .int .i64 c, .slice ao N cap] 56)).alloc (.cells #[.int .i64 r, .int .i64 1, .slice bo M dap] 56)).alloc (.cells #[.int .i64 0, .int .i64 0, .slice none 0 0] 56)).alloc (.cells #[.int .i64 0, .int .i64 0, .slice none 0 0] 56) := ⟨_, rfl⟩
 have hs0 : W0.heap.size = w.heap.size + 4 := by rw [hW0]; simp
 have hb0 : Below w.heap.size w W0 := by rw [hW0]; repeat (first | exact Below.refl _ _ | refine Below.alloc ?_ (by simp <;> omega) _)
 have hT1 : Trio W0 (w.heap.size + 1) (.int .i64 r) (.int .i64 1) (.slice bo M dap) := by
  rw [hW0]
  exact ⟨cell1 (cell1 (new_cell _ _ _ _ _ (by simp) rfl) _) _, cell1 (cell1 (new_cell _ _ _ _ _ (by simp) rfl) _) _, cell1 (cell1 (new_cell _ _ _ _ _ (by simp) rfl) _) _⟩
 have hR1 : W0.heap[w.heap.size + 2]? = some (.cells #[.int .i64 0, .int .i64 0, .slice none 0 0] 56 (0, 0)) := by
  rw [hW0]
  have h1 := heap_alloc_new ((w.alloc (.cells #[.int .i64 r, .int .i64 c, .slice ao N cap] 56)).alloc (.cells #[.int .i64 r, .int .i64 1, .slice bo M dap] 56)) (.cells #[.int .i64 0, .int .i64 0, .slice none 0 0] 56)
  have h2 := (((Below.refl (((w.alloc (.cells #[.int .i64 r, .int .i64 c, .slice ao N cap] 56)).alloc (.cells #[.int .i64 r, .int .i64 1, .slice bo M dap] 56)).alloc (.cells #[.int .i64 0, .int .i64 0, .slice none 0 0] 56)).heap.size _).alloc (Nat.le_refl _) (.cells #[.int .i64 0, .int .i64 0, .slice none 0 0] 56)).block (w.heap.size + 2) (by simp))
  rw [h2]
  simpa using h1
 have hR2 : W0.heap[w.heap.size + 3]? = some (.cells #[.int .i64 0, .int .i64 0, .slice none 0 0] 56 (0, 0)) := by
  rw [hW0]
  have h1 := heap_alloc_new (((w.alloc (.cells #[.int .i64 r, .int .i64 c, .slice ao N cap] 56)).alloc (.cells #[.int .i64 r, .int .i64 1, .slice bo M dap] 56)).alloc (.cells #[.int .i64 0, .int .i64 0, .slice none 0 0] 56)) (.cells #[.int .i64 0, .int .i64 0, .slice none 0 0] 56)
  simpa using h1
 have K0 := Hid.mk (And.intro hb0 (And.intro hT1 (And.intro hR1 hR2)))
 rw [← hW0]
 clear hb0 hT1 hR1 hR2 hW0
 refine (flip_any _ r c zs 2 _ (HM.out.below K0.out.1)).mono ?_
 rintro e w1 ⟨v1, fs, rfl, hM1, hfl, hb1⟩
 obtain rfl : fs = flipL r c zs := FlipOf.uniq ⟨hM1.lng, hfl⟩ (flipL_is r c zs)
 have hfb : ∀ i j, i < c → j < r → (ent r (flipL r c zs) i j).natAbs < 2 ^ 48 := fun i j hi hj => by rw [hfl i j hi hj]; exact hz j i hj hi
 have K1 := Hid.mk (And.intro hM1 (And.intro hb1 hfb))
 have hw1 := hb1.size
 clear hM1 hfl hb1 hfb
 go_wp2_with fail
 refine (gech_fit _ c r (flipL r c zs) 2 _ K1.out.1 hc4 hr4 K1.out.2.2 (by omega)).mono ?_
 rintro e w2 ⟨v2, k, pc, hs, us, ws, rfl, hIF, hst, hE, hEB, hb2, hrun⟩
 obtain ⟨sH, sU, sW, rfl, m3, m4, m5⟩ := id hIF
 have hIs : EchIs c r (flipL r c zs) k pc hs us ws := ⟨m3.lng, m4.lng, m5.lng, hst, hE, hEB, hrun⟩
 obtain ⟨oH, cH, rfl⟩ := m3.slice
 obtain ⟨oU, cU, rfl⟩ := m4.slice
 obtain ⟨oW, cW, rfl⟩ := m5.slice
 clear m3 m4 m5 hst hE hEB hrun
 obtain ⟨NH, hNH⟩ : ∃ NH, NH = c * r := ⟨_, rfl⟩
 obtain ⟨NA, hNA⟩ : ∃ NA, NA = c * c := ⟨_, rfl⟩
 rw [← hNH, ← hNA] at hIF ⊢
 clear hNH hNA
 have hb22 := (Below.refl w2.heap.size w2).alloc (Nat.le_refl _) (.cells #[.int .i64 c, .int .i64 r, .slice oH NH cH, .int .i64 c, .int .i64 c, .slice oU NA cU, .int .i64 c, .int .i64 c, .slice oW NA cW, .int .i64 k] 77)
 have hbA : Below W0.heap.size W0 (w2.alloc (.cells #[.int .i64 c, .int .i64 r, .slice oH NH cH, .int .i64 c, .int .i64 c, .slice oU NA cU, .int .i64 c, .int .i64 c, .slice oW NA cW, .int .i64 k] 77)) := K1.out.2.1.trans ((hb2.trans (hb22.mono hb2.size)).mono hw1)
 have hQ2 : RfM (w2.alloc (.cells #[.int .i64 c, .int .i64 r, .slice oH NH cH, .int .i64 c, .int .i64 c, .slice oU NA cU, .int .i64 c, .int .i64 c, .slice oW NA cW, .int .i64 k] 77)) w2.heap.size c r k (.slice oH NH cH) (.slice oU NA cU) (.slice oW NA cW) := heap_alloc_new w2 _
 obtain ⟨y0, y1, y2⟩ := K0.out.2.1.later hbA
 have hkc := hIs.st.le
 have K2 := Hid.mk (And.intro hIF (And.intro hIs (And.intro hbA (And.intro hQ2 hb22))))
 have hw2 : W0.heap.size ≤ w2.heap.size := by have := hb2.size; omega
 clear hIF hIs hb2 hb22 hbA hQ2
 go_wp2_with fail
 obtain ⟨X, hX⟩ : ∃ X, X = w2.alloc (.cells #[.int .i64 c, .int .i64 r, .slice oH NH cH, .int .i64 c, .int .i64 c, .slice oU NA cU, .int .i64 c, .int .i64 c, .slice oW NA cW, .int .i64 k] 77) := ⟨_, rfl⟩
 have hsX : X.heap.size = w2.heap.size + 1 := by rw [hX]; simp
 rw [← hX] at K2 y0 y1 y2 ⊢
 clear hX
 refine (flip_any _ r 1 ys 2 _ (HN.out.below (K0.out.1.trans (K2.out.2.2.1.mono (by omega))))).mono ?_
 rintro e w3 ⟨v3, gs, rfl, hM3, hgl, hb3⟩
 obtain rfl : gs = flipL r 1 ys := FlipOf.uniq ⟨hM3.lng, hgl⟩ (flipL_is r 1 ys)
 obtain ⟨-, -, s3, rfl, hg3⟩ := id hM3
 obtain ⟨o3, c3, rfl, -⟩ := hg3.shape
 obtain ⟨N3, hN3⟩ : ∃ N3, N3 = 1 * r := ⟨_, rfl⟩
 rw [← hN3] at hM3 ⊢
 have hb33 := (Below.refl w3.heap.size w3).alloc (Nat.le_refl _) (.cells #[.int .i64 1, .int .i64 r, .slice o3 N3 c3] 56)
 have hbX3 : Below X.heap.size X (w3.alloc (.cells #[.int .i64 1, .int .i64 r, .slice o3 N3 c3] 56)) := hb3.trans (hb33.mono hb3.size)
 have hw3 := hb3.size
 have hQ3 := K2.out.2.2.2.1.below hbX3 K2.out.2.2.2.1.lt
 have hT3 : Trio (w3.alloc (.cells #[.int .i64 1, .int .i64 r, .slice o3 N3 c3] 56)) w3.heap.size (.int .i64 1) (.int .i64 r) (.slice o3 N3 c3) := ⟨new_cell _ _ _ _ _ rfl rfl, new_cell _ _ _ _ _ rfl rfl, new_cell _ _ _ _ _ rfl rfl⟩
 have K3 := Hid.mk (And.intro (hM3.below hb33) (And.intro hbX3 (And.intro hQ3 hT3)))
 have x9 : (w3.alloc (.cells #[.int .i64 1, .int .i64 r, .slice o3 N3 c3] 56)).cell? ⟨w2.heap.size, 9, none⟩ = some (.int .i64 k) := by unfold RfM at hQ3; simp [World.cell?, hQ3]
 obtain ⟨x0, x1, x2, x3, x4, x5, x6, x7, x8⟩ := hQ3.cells
 clear hM3 hg3 hgl hb3 hb33 hbX3 hQ3 hT3 hN3 y0 y1 y2
 go_wp2_with fail
 have hIF3 := (K2.out.1.bel K2.out.2.2.2.2).bel K3.out.2.1
 refine (express_any _ _ c r k pc hs us ws (flipL r 1 ys) 4000 _ hIF3 (K3.out.1.mono (by omega)) K2.out.2.1.st (by omega) (by omega)).mono ?_
 rintro e w4 ⟨a1, a2, ox, nx, px, ok, rfl, hx4, hiff, hb4⟩
 have hb44 := (Below.refl w4.heap.size w4).alloc (Nat.le_refl _) (.cells #[.int .i64 a1, .int .i64 a2, .slice ox nx px] 56)
 have hbX4 : Below X.heap.size X (w4.alloc (.cells #[.int .i64 a1, .int .i64 a2, .slice ox nx px] 56)) := K3.out.2.1.trans ((hb4.trans (hb44.mono hb4.size)).mono K3.out.2.1.size)
 have hs4 : w3.heap.size + 1 ≤ w4.heap.size := by have := hb4.size; simpa using this
 have hQ4 := K2.out.2.2.2.1.below hbX4 K2.out.2.2.2.1.lt
 have hT4 : Trio (w4.alloc (.cells #[.int .i64 a1, .int .i64 a2, .slice ox nx px] 56)) w4.heap.size (.int .i64 a1) (.int .i64 a2) (.slice ox nx px) := ⟨new_cell _ _ _ _ _ rfl rfl, new_cell _ _ _ _ _ rfl rfl, new_cell _ _ _ _ _ rfl rfl⟩
 have hb04 := K2.out.2.2.1.trans (hbX4.mono K2.out.2.2.1.size)
 have K4 := Hid.mk (And.intro (hiff.trans (mem_iff K2.out.2.1.st K2.out.2.1.inv)) (And.intro (show ok = true → _ from fun h => (hx4 h).below hb44) (And.intro hbX4 (And.intro hQ4 (And.intro hT4 hb04)))))
 clear hx4 hiff hb4 hb44 hbX4 hQ4 hT4 hIF3 x0 x1 x2 x3 x4 x5 x6 x7 x8 x9 hb04
 have hR1 := (K4.out.2.2.2.2.2.block (w.heap.size + 1 + 1) (by omega)).trans K0.out.2.2.1
 have hR2 := (K4.out.2.2.2.2.2.block (w.heap.size + 1 + 1 + 1) (by omega)).trans K0.out.2.2.2
 have HR := Hid.mk (And.intro hR1 hR2)
 cases ok
 ·have r0 : (w4.alloc (.cells #[.int .i64 a1, .int .i64 a2, .slice ox nx px] 56)).cell? ⟨w.heap.size + 1 + 1, 0, none⟩ = some (.int .i64 0) := by simp [World.cell?, hR1]
  have r1 : (w4.alloc (.cells #[.int .i64 a1, .int .i64 a2, .slice ox nx px] 56)).cell? ⟨w.heap.size + 1 + 1, 1, none⟩ = some (.int .i64 0) := by simp [World.cell?, hR1]
  have r2 : (w4.alloc (.cells #[.int .i64 a1, .int .i64 a2, .slice ox nx px] 56)).cell? ⟨w.heap.size + 1 + 1, 2, none⟩ = some (.slice none 0 0) := by simp [World.cell?, hR1]
  have rf : ∀ o, (w4.alloc (.cells #[.int .i64 a1, .int .i64 a2, .slice ox nx px] 56)).frozen? ⟨w.heap.size + 1 + 1, o, none⟩ = false := fun o => by simp [World.frozen?, hR1]
  have s0 : (w4.alloc (.cells #[.int .i64 a1, .int .i64 a2, .slice ox nx px] 56)).cell? ⟨w.heap.size + 1 + 1 + 1, 0, none⟩ = some (.int .i64 0) := by simp [World.cell?, hR2]
  have s1 : (w4.alloc (.cells #[.int .i64 a1, .int .i64 a2, .slice ox nx px] 56)).cell? ⟨w.heap.size + 1 + 1 + 1, 1, none⟩ = some (.int .i64 0) := by simp [World.cell?, hR2]
  have s2 : (w4.alloc (.cells #[.int .i64 a1, .int .i64 a2, .slice ox nx px] 56)).cell? ⟨w.heap.size + 1 + 1 + 1, 2, none⟩ = some (.slice none 0 0) := by simp [World.cell?, hR2]
  have sf : ∀ o, (w4.alloc (.cells #[.int .i64 a1, .int .i64 a2, .slice ox nx px] 56)).frozen? ⟨w.heap.size + 1 + 1 + 1, o, none⟩ = false := fun o => by simp [World.frozen?, hR2]
  have hbv : Below w.heap.size w (w4.alloc (.cells #[.int .i64 a1, .int .i64 a2, .slice ox nx px] 56)) := K0.out.1.trans (K4.out.2.2.2.2.2.mono (by omega))
  have HT := Hid.mk (And.intro hbv (set6_trio (And.intro r0 (And.intro r1 r2)) (And.intro s0 (And.intro s1 s2)) (Nat.ne_of_lt (Nat.lt_succ_self _)) (.int .i64 0) (.int .i64 0) (.slice none 0 0) (.int .i64 0) (.int .i64 0) (.slice none 0 0)))
  clear hbv hR1 hR2
  go_wp2_with fail
  clear r0 r1 r2 rf s0 s1 s2 sf
  obtain ⟨⟨r0, r1, r2⟩, s0, s1, s2⟩ := id HT.out.2
  have HB := Hid.mk (set6_below HT.out.1 (show w.heap.size ≤ w.heap.size + 1 + 1 by omega) (show w.heap.size ≤ w.heap.size + 1 + 1 + 1 by omega) (.int .i64 0) (.int .i64 0) (.slice none 0 0) (.int .i64 0) (.int .i64 0) (.slice none 0 0))
  clear HT
  unfold set6 at r0 r1 r2 s0 s1 s2 HB
  generalize World.setCell _ _ _ = WW at r0 r1 r2 s0 s1 s2 HB ⊢
  refine bodyPost_ret (v := .tuple #[.agg #[.int .i64 0, .int .i64 0, .slice none 0 0], .agg #[.int .i64 0, .int .i64 0, .slice none 0 0], .bool false]) ?_ rfl ?_
  ·(simp [results, Tryd.results28, go_sem, r0, r1, r2, s0, s1, s2]; done)
  ·exact ⟨0, 0, 0, 0, none, none, 0, 0, 0, 0, false, rfl, K4.out.1, ⟨_, _, _, _, _, K2.out.2.1.st, K2.out.2.1.inv⟩, (fun h => by cases h), HB.out⟩
 ·clear hR1 hR2
  go_wp2_with fail
  have hMx := K4.out.2.1 trivial
  obtain ⟨V, hV⟩ : ∃ V, V = w4.alloc (.cells #[.int .i64 a1, .int .i64 a2, .slice ox nx px] 56) := ⟨_, rfl⟩
  have hsV : V.heap.size = w4.heap.size + 1 := by rw [hV]; simp
  rw [← hV] at K4 HR hMx ⊢
  clear hV
  have hIFV := (K2.out.1.bel K2.out.2.2.2.2).bel K4.out.2.2.1
  have hmx := hMx.mono (lx4 (show k ≤ 4 by omega))
  have HV := Hid.mk (show ∀ w', Below V.heap.size V w' → (w'.heap[w.heap.size + 1 + 1]? = some (.cells #[.int .i64 0, .int .i64 0, .slice none 0 0] 56 (0, 0)) ∧ w'.heap[w.heap.size + 1 + 1 + 1]? = some (.cells #[.int .i64 0, .int .i64 0, .slice none 0 0] 56 (0, 0))) ∧ RfM w' w2.heap.size c r k (.slice oH NH cH) (.slice oU NA cU) (.slice oW NA cW) from fun w' hb =>
   ⟨⟨(hb.block _ (by omega)).trans HR.out.1, (hb.block _ (by omega)).trans HR.out.2⟩, K4.out.2.2.2.1.below hb K4.out.2.2.2.1.lt⟩)
  obtain ⟨y0, y1, y2⟩ := K4.out.2.2.2.2.1
  obtain ⟨x0, x1, x2, x3, x4, x5, x6, x7, x8⟩ := K4.out.2.2.2.1.cells
  have x9 := K4.out.2.2.2.1.nine
  have HMX := Hid.mk (And.intro hMx (And.intro hmx hIFV))
  clear hMx hmx hIFV
  go_region_with (first
   | (go_at_call 41; go_must (refine (flip_new _ 1 c _ 200000000 _ (HMX.out.2.1.below (by repeat (first | exact Below.refl _ _ | refine Below.drew ?_)))).mono ?_; rintro e w5 ⟨g5, fs, rfl, hg5, hG5, hf5, hb5⟩; have hbV5 : Below V.heap.size V w5 := (by refine Below.trans ?_ hb5; repeat (first | exact Below.refl _ _ | refine Below.drew ?_)); obtain ⟨u0, u1, u2, u3, u4, u5, u6, u7, u8⟩ := (HV.out w5 hbV5).2.cells; have u9 := (HV.out w5 hbV5).2.nine; have hs5 := hbV5.size; have hI5 : IsM w5 (.agg #[.int .i64 c, .int .i64 ((1 : Nat) : Int), .slice (some ⟨g5, 0, none⟩) c c]) c 1 fs 200000000 := (by have h5 : IsM w5 (.agg #[.int .i64 c, .int .i64 ((1 : Nat) : Int), .slice (some ⟨g5, 0, none⟩) (c * 1) (c * 1)]) c 1 fs 200000000 := ⟨hc, h1, _, rfl, hG5⟩; rw [Nat.mul_one] at h5; exact h5); clear hb5 hG5))
   | (go_at_call 43; go_must (refine (kernel_any _ c r k hs us ws 4000 _ ((HMX.out.2.2.bel hbV5).bel (by repeat (first | exact Below.refl _ _ | refine Below.drew ?_))) hkc).mono ?_; rintro e w6 ⟨g6, ks, rfl, hg6, hG6, hk6, hb6⟩; have hb56 : Below w5.heap.size w5 w6 := (by refine Below.trans ?_ hb6; repeat (first | exact Below.refl _ _ | refine Below.drew ?_)); have hbV6 : Below V.heap.size V w6 := hbV5.trans (hb56.mono hs5); obtain ⟨⟨hR1, hR2⟩, -⟩ := HV.out w6 hbV6; have r0 : w6.cell? ⟨w.heap.size + 1 + 1, 0, none⟩ = some (.int .i64 0) := (by simp [World.cell?, hR1]); have r1 : w6.cell? ⟨w.heap.size + 1 + 1, 1, none⟩ = some (.int .i64 0) := (by simp [World.cell?, hR1]); have r2 : w6.cell? ⟨w.heap.size + 1 + 1, 2, none⟩ = some (.slice none 0 0) := (by simp [World.cell?, hR1]); have rf : ∀ o, w6.frozen? ⟨w.heap.size + 1 + 1, o, none⟩ = false := (fun o => by simp [World.frozen?, hR1]); have s0 : w6.cell? ⟨w.heap.size + 1 + 1 + 1, 0, none⟩ = some (.int .i64 0) := (by simp [World.cell?, hR2]); have s1 : w6.cell? ⟨w.heap.size + 1 + 1 + 1, 1, none⟩ = some (.int .i64 0) := (by simp [World.cell?, hR2]); have s2 : w6.cell? ⟨w.heap.size + 1 + 1 + 1, 2, none⟩ = some (.slice none 0 0) := (by simp [World.cell?, hR2]); have sf : ∀ o, w6.frozen? ⟨w.heap.size + 1 + 1 + 1, o, none⟩ = false := (fun o => by simp [World.frozen?, hR2]); clear u0 u1 u2 u3 u4 u5 u6 u7 u8 u9)))
  all_goals
   have hbv : Below w.heap.size w w6 := (K0.out.1.trans (K4.out.2.2.2.2.2.mono (by omega))).trans (hbV6.mono (by omega))
   have HT := Hid.mk (set6_trio (And.intro r0 (And.intro r1 r2)) (And.intro s0 (And.intro s1 s2)) (Nat.ne_of_lt (Nat.lt_succ_self _)) (.int .i64 c) (.int .i64 1) (.slice (some ⟨g5, 0, none⟩) c c) (.int .i64 ((c - k : Nat) : Int)) (.int .i64 c) (.slice (some ⟨g6, 0, none⟩) ((c - k) * c) ((c - k) * c)))
   have HK := Hid.mk (set6_KT w6 ⟨_, _, hR1⟩ ⟨_, _, hR2⟩ (by decide) (by decide) (by decide) (by decide) (.int .i64 c) (.int .i64 1) (.slice (some ⟨g5, 0, none⟩) c c) (.int .i64 ((c - k : Nat) : Int)) (.int .i64 c) (.slice (some ⟨g6, 0, none⟩) ((c - k) * c) ((c - k) * c)))
   have HB := Hid.mk (set6_below hbv (show w.heap.size ≤ w.heap.size + 1 + 1 by omega) (show w.heap.size ≤ w.heap.size + 1 + 1 + 1 by omega) (.int .i64 c) (.int .i64 1) (.slice (some ⟨g5, 0, none⟩) c c) (.int .i64 ((c - k : Nat) : Int)) (.int .i64 c) (.slice (some ⟨g6, 0, none⟩) ((c - k) * c) ((c - k) * c)))
   clear hbv hR1 hR2 r0 r1 r2 rf s0 s1 s2 sf
   go_wp2_with fail
   obtain ⟨⟨r0, r1, r2⟩, s0, s1, s2⟩ := id HT.out
   clear HT
   unfold set6 at r0 r1 r2 s0 s1 s2 HB HK
   generalize World.setCell _ _ _ = WW at r0 r1 r2 s0 s1 s2 HB HK ⊢
   have hI6 : IsM w6 (.agg #[.int .i64 ((c - k : Nat) : Int), .int .i64 c, .slice (some ⟨g6, 0, none⟩) ((c - k) * c) ((c - k) * c)]) (c - k) c ks 4000 := ⟨by omega, hc, _, rfl, hG6⟩
   have hfs := FlipOf.uniq ⟨hI5.lng, hf5⟩ (flipL_is 1 c _)
   refine bodyPost_ret (v := .tuple #[.agg #[.int .i64 c, .int .i64 1, .slice (some ⟨g5, 0, none⟩) c c], .agg #[.int .i64 ((c - k : Nat) : Int), .int .i64 c, .slice (some ⟨g6, 0, none⟩) ((c - k) * c) ((c - k) * c)], .bool true]) ?_ rfl ?_
   ·(simp [results, Tryd.results28, go_sem, Act.put, r0, r1, r2, s0, s1, s2]; done)
   ·exact ⟨c, 1, ((c - k : Nat) : Int), c, some ⟨g5, 0, none⟩, some ⟨g6, 0, none⟩, c, (c - k) * c, c, (c - k) * c, true, rfl, (by simpa using K4.out.1), ⟨_, _, _, _, _, K2.out.2.1.st, K2.out.2.1.inv⟩, (fun _ => ⟨fs, c - k, ks, ⟨k, pc, hs, us, ws, K2.out.2.1, hfs, rfl, hkc, hI6.lng, hk6⟩, rfl, rfl, rfl, rfl, (hI5.below hb56).keepT HK.out, (hI6.mono (by omega)).keepT HK.out⟩), HB.out⟩
open Go.RowKit
def SolS (r q : Nat) (zs ys : List Int) : Prop := Sp (ent r (flipL r q zs)) q r (ent r (flipL r 1 ys) 0)
def SolRel (ms : List Hm) (g h : Int) (y : Bool) (e : Int) (xs : List (Nat × Nat × List Int)) : Prop :=
 (((∀ i, i < 24 → ∀ x, ms.getD i none = some x → (x.1 : Int) ≠ g) ∨ (∀ i, i < 24 → ∀ x, ms.getD i none = some x → (x.1 : Int) ≠ h)) ∧ y = false ∧ e = 2 ∧ xs = []) ∨
 ∃ i hd r q zs j hd' r' c ys, i < 24 ∧ ms.getD i none = some (hd, r, q, zs) ∧ ((hd : Nat) : Int) = g ∧ j < 24 ∧ ms.getD j none = some (hd', r', c, ys) ∧ ((hd' : Nat) : Int) = h ∧
   ((¬ (c = 1 ∧ r' = r) ∧ y = false ∧ e = 3 ∧ xs = []) ∨ ((c = 1 ∧ r' = r) ∧ ¬ (FitsP r q zs ∧ FitsP r' c ys) ∧ y = false ∧ e = 4 ∧ xs = []) ∨
    ((c = 1 ∧ r' = r) ∧ (FitsP r q zs ∧ FitsP r' c ys) ∧ (¬ SolS r q zs ys ∧ HasF (ent r (flipL r q zs)) q r) ∧ y = false ∧ e = 0 ∧ xs = []) ∨
    ((c = 1 ∧ r' = r) ∧ (FitsP r q zs ∧ FitsP r' c ys) ∧ (SolS r q zs ys ∧ HasF (ent r (flipL r q zs)) q r) ∧ ms.countP Option.isNone < 2 ∧ y = false ∧ e = 5 ∧ xs = []) ∨
    ((c = 1 ∧ r' = r) ∧ (FitsP r q zs ∧ FitsP r' c ys) ∧ (SolS r q zs ys ∧ HasF (ent r (flipL r q zs)) q r) ∧ 2 ≤ ms.countP Option.isNone ∧ y = true ∧ e = 0 ∧ ∃ us nk ks, SolveIs r q zs ys us nk ks ∧ xs = [(q, 1, us), (nk, q, ks)]))
theorem MRow.two {w : World} {g : Nat} {x y : Nat × Nat × List Int} {o1 o2 : Option Addr} {m1 m2 c1 c2 : Nat} {t : TypeId} (hg : w.heap[g]? = some (.cells #[.int .i64 (x.1 : Nat), .int .i64 (x.2.1 : Nat), .slice o1 m1 c1, .int .i64 (y.1 : Nat), .int .i64 (y.2.1 : Nat), .slice o2 m2 c2] t (0, 0)))
 (h1 : IsM w (.agg #[.int .i64 (x.1 : Nat), .int .i64 (x.2.1 : Nat), .slice o1 m1 c1]) x.1 x.2.1 x.2.2 200000000) (h2 : IsM w (.agg #[.int .i64 (y.1 : Nat), .int .i64 (y.2.1 : Nat), .slice o2 m2 c2]) y.1 y.2.1 y.2.2 200000000) : MRow w g [x, y] := by
 intro j hj
 match j, hj with
 | 0, _ => exact ⟨o1, m1, c1, by simp [World.cell?, hg], by simp [World.cell?, hg], by simp [World.cell?, hg], h1⟩
 | 1, _ => exact ⟨o2, m2, c2, by simp [World.cell?, hg], by simp [World.cell?, hg], by simp [World.cell?, hg], h2⟩
set_option maxRecDepth 100000 in
set_option maxHeartbeats 4000000 in
theorem solve_held (b : Nat) (g h : Int) (ms : List Hm) (nx : Nat) (w : World) (hst : Held w b ms nx) (hnx : nx < 1000000 - 5) :
 Calls Tryd.prog 14 #[.pointer (some ⟨b, 0, none⟩), .int .i64 g, .int .i64 h] w fun x w' => ∃ y v e xs, x = .returned (.tuple #[.bool y, v, .int .i64 e]) ∧ SolRel ms g h y e xs ∧ ManyOut w w' b 2 nx ms y xs v := by
 have hm24 := hst.1
 have hbl := hst.lt
 have H := Hid.mk hst
 clear hst
 go_enter Tryd.func14, Tryd.ntmps14
 go_wp2_with fail
 refine (find_held b g ms nx _ H.out).mono ?_
 rintro e w1 ⟨⟨r, q, ao, n, cap, ok, rfl, hf⟩, hb1⟩
 have K1 := Hid.mk (And.intro hf hb1)
 have hw1 := hb1.size
 clear hf hb1
 go_wp2_with fail
 have hbA : Below w.heap.size w (w1.alloc (.cells #[.int .i64 r, .int .i64 q, .slice ao n cap] 56)) := K1.out.2.alloc hw1 _
 refine (find_held b h ms nx _ (H.out.below hbA)).mono ?_
 rintro e w2 ⟨⟨r', c, bo, n', cap', ok', rfl, hf2⟩, hb2⟩
 have hT1 : Trio (w1.alloc (.cells #[.int .i64 r, .int .i64 q, .slice ao n cap] 56)) w1.heap.size (.int .i64 r) (.int .i64 q) (.slice ao n cap) := ⟨new_cell _ _ _ _ _ rfl rfl, new_cell _ _ _ _ _ rfl rfl, new_cell _ _ _ _ _ rfl rfl⟩
 have hb22 := (Below.refl w2.heap.size w2).alloc (Nat.le_refl _) (.cells #[.int .i64 r', .int .i64 c, .slice bo n' cap'] 56)
 have hT2 := (hT1.later hb2).later hb22
 have hT3 : Trio (w2.alloc (.cells #[.int .i64 r', .int .i64 c, .slice bo n' cap'] 56)) w2.heap.size (.int .i64 r') (.int .i64 c) (.slice bo n' cap') := ⟨new_cell _ _ _ _ _ rfl rfl, new_cell _ _ _ _ _ rfl rfl, new_cell _ _ _ _ _ rfl rfl⟩
 have hbB : Below w.heap.size w w2 := hbA.trans (hb2.mono hbA.size)
 have hf1' := ((K1.out.1.below ((Below.refl _ _).alloc (Nat.le_refl _) (.cells #[.int .i64 r, .int .i64 q, .slice ao n cap] 56))).below hb2).below hb22
 have hf2' := hf2.below hb22
 have hbC : Below w.heap.size w (w2.alloc (.cells #[.int .i64 r', .int .i64 c, .slice bo n' cap'] 56)) := hbB.alloc hbB.size _
 have hlt : w1.heap.size < w2.heap.size := by have := hb2.size; simp at this; omega
 have K2 := Hid.mk (And.intro hf1' (And.intro hf2' (And.intro hbC (And.intro hT2 hT3))))
 clear hf2 hb2 hT1 hb22 hT2 hT3 hbB hf1' hf2' hbC hbA
 obtain ⟨X, hX⟩ : ∃ X, X = w2.alloc (.cells #[.int .i64 r', .int .i64 c, .slice bo n' cap'] 56) := ⟨_, rfl⟩
 have HX := Hid.mk hX
 rw [← hX] at K2
 clear hX
 have hsX : X.heap.size = w2.heap.size + 1 := by rw [HX.out]; simp
 rcases id K2.out.1 with ⟨rfl, i, hd, zs, hi, hgi, hgh, hM⟩ | ⟨rfl, hno⟩
 ·rcases id K2.out.2.1 with ⟨rfl, i', hd', ys, hi', hgi', hgh', hM'⟩ | ⟨rfl, hno⟩
  ·have HF := Hid.mk (And.intro (And.intro hi (And.intro hgi (And.intro hgh hM))) (And.intro hi' (And.intro hgi' (And.intro hgh' hM'))))
   have HC := Hid.mk (show ∀ w', Below X.heap.size X w' → w'.cell? ⟨w1.heap.size, 0, none⟩ = some (.int .i64 r) ∧ w'.cell? ⟨w1.heap.size, 1, none⟩ = some (.int .i64 q) ∧ w'.cell? ⟨w1.heap.size, 2, none⟩ = some (.slice ao n cap) ∧ w'.cell? ⟨w2.heap.size, 0, none⟩ = some (.int .i64 r') ∧ w'.cell? ⟨w2.heap.size, 1, none⟩ = some (.int .i64 c) ∧ w'.cell? ⟨w2.heap.size, 2, none⟩ = some (.slice bo n' cap') from
    fun w' hb => ⟨(K2.out.2.2.2.1.later hb).1, (K2.out.2.2.2.1.later hb).2.1, (K2.out.2.2.2.1.later hb).2.2, (K2.out.2.2.2.2.later hb).1, (K2.out.2.2.2.2.later hb).2.1, (K2.out.2.2.2.2.later hb).2.2⟩)
   clear hi hgi hgh hM hi' hgi' hgh' hM'
   go_upto_region 5 with fail
   rw [← HX.out]
   obtain ⟨iqr, hiqr⟩ : ∃ iqr, iqr = decide (c = 1 ∧ r' = r) := ⟨_, rfl⟩
   have HQ := Hid.mk hiqr
   clear hiqr
   go_cut [43] from 34 to 43 (fun x wx => x = .bool (!iqr) ∧ Below X.heap.size X wx)
   case first =>
    by_cases hr1 : (c : Int) = 1
    ·have hr2 : ((c : Int) != 1) = false := by simp [hr1]
     have HR := Hid.mk hr1
     clear hr1
     go_region_held3 (fun w' => w'.cell? ⟨w1.heap.size, 0, none⟩ = some (.int .i64 r) ∧ w'.cell? ⟨w1.heap.size, 1, none⟩ = some (.int .i64 q) ∧ w'.cell? ⟨w1.heap.size, 2, none⟩ = some (.slice ao n cap) ∧ w'.cell? ⟨w2.heap.size, 0, none⟩ = some (.int .i64 r') ∧ w'.cell? ⟨w2.heap.size, 1, none⟩ = some (.int .i64 c) ∧ w'.cell? ⟨w2.heap.size, 2, none⟩ = some (.slice bo n' cap'))
      (exact HC.out _ (by first | exact (Below.refl _ _).drew | exact ((Below.refl _ _).alloc (Nat.le_refl _) _).drew | exact (((Below.refl _ _).alloc (Nat.le_refl _) _).alloc (by simp) _).drew | exact ((((Below.refl _ _).alloc (Nat.le_refl _) _).alloc (by simp) _).alloc (by simp <;> omega) _).drew))
      (first
        | (go_at_call 25; refine (cols_raw _ _ _ _ _ _).mono ?_; rintro e w' ⟨rfl, rfl⟩)
        | (go_at_call 26; refine (rows_raw _ _ _ _ _ _).mono ?_; rintro e w' ⟨rfl, rfl⟩))
     all_goals
      go_wp2_with fail
      go_meet
      case rel =>
       refine ⟨?_, ((((Below.refl _ _).alloc (Nat.le_refl _) _).alloc (by simp) _).alloc (by simp <;> omega) _).drew⟩
       rw [HQ.out]
       have := HR.out
       by_cases h : r' = r
       ·rw [decide_eq_true (And.intro (by omega) h), h]; simp
       ·rw [decide_eq_false (fun e => h e.2)]; simp; omega
    ·have hr2 : ((c : Int) != 1) = true := by simp [hr1]
     have HR := Hid.mk hr1
     clear hr1
     obtain ⟨a0, a1, a2, a3, a4, a5⟩ := HC.out X (Below.refl _ _)
     go_region_with (go_at_call 25; refine (cols_raw _ _ _ _ _ _).mono ?_; rintro e w' ⟨rfl, rfl⟩)
     all_goals
      go_wp2_with fail
      go_meet
      case rel =>
       exact ⟨by rw [HQ.out, decide_eq_false (fun h => HR.out (by omega))]; rfl, ((Below.refl _ _).alloc (Nat.le_refl _) _).drew⟩
   case rest =>
    obtain ⟨rfl, hbx⟩ := hcut
    have hbw : Below w.heap.size w wc := K2.out.2.2.1.trans (hbx.mono K2.out.2.2.1.size)
    obtain ⟨a0, a1, a2, a3, a4, a5⟩ := HC.out wc hbx
    have K3 := Hid.mk (And.intro hbx hbw)
    have hwc := hbx.size
    clear hbx hbw
    cases iqr
    ·have HNE : Hid (¬ (c = 1 ∧ r' = r)) := Hid.mk (fun e => by have := HQ.out; rw [decide_eq_true e] at this; cases this)
     go_wp2_with fail
     go_ret3
     exact ⟨_, _, _, [], rfl, .inr ⟨i, hd, r, q, zs, i', hd', r', c, ys, HF.out.1.1, HF.out.1.2.1, HF.out.1.2.2.1, HF.out.2.1, HF.out.2.2.1, HF.out.2.2.2.1, .inl ⟨HNE.out, rfl, rfl, rfl⟩⟩, .inl ⟨rfl, rfl, H.out.below K3.out.2, Fr.of_below K3.out.2⟩⟩
    ·have hqr : c = 1 ∧ r' = r := of_decide_eq_true HQ.out.symm
     have HQR := Hid.mk hqr
     clear hqr
     go_wp2_with fail
     refine (tooBig_any _ r q zs 200000000 _ (HF.out.1.2.2.2.below K3.out.1) (by omega)).mono ?_
     rintro e w3 ⟨fb, rfl, hfo, hb3⟩
     have hbX3 : Below X.heap.size X w3 := K3.out.1.trans (hb3.mono hwc)
     clear a0 a1 a2 a3 a4 a5
     obtain ⟨a0, a1, a2, a3, a4, a5⟩ := HC.out w3 hbX3
     have hw3 := hbX3.size
     have K4 := Hid.mk (And.intro hbX3 (And.intro (K2.out.2.2.1.trans (hbX3.mono K2.out.2.2.1.size)) hfo))
     clear hb3 hbX3 hfo
     cases fb
     ·have HNF : Hid (¬ FitsP r q zs) := Hid.mk (fun h => by have := K4.out.2.2.2 h; cases this)
      go_wp2_with fail
      go_ret3
      exact ⟨_, _, _, [], rfl, .inr ⟨i, hd, r, q, zs, i', hd', r', c, ys, HF.out.1.1, HF.out.1.2.1, HF.out.1.2.2.1, HF.out.2.1, HF.out.2.2.1, HF.out.2.2.2.1, .inr (.inl ⟨HQR.out, fun h => HNF.out h.1, rfl, rfl, rfl⟩)⟩, .inl ⟨rfl, rfl, H.out.below K4.out.2.1, Fr.of_below K4.out.2.1⟩⟩
     ·go_wp2_with fail
      refine (tooBig_any _ r' c ys 200000000 _ (HF.out.2.2.2.2.below K4.out.1) (by omega)).mono ?_
      rintro e w4 ⟨fb, rfl, hfo, hb4⟩
      have hbX4 : Below X.heap.size X w4 := K4.out.1.trans (hb4.mono hw3)
      clear a0 a1 a2 a3 a4 a5
      obtain ⟨a0, a1, a2, a3, a4, a5⟩ := HC.out w4 hbX4
      have hw4 := hbX4.size
      have K5 := Hid.mk (And.intro hbX4 (And.intro (K2.out.2.2.1.trans (hbX4.mono K2.out.2.2.1.size)) hfo))
      clear hb4 hbX4 hfo
      cases fb
      ·have HNF : Hid (¬ FitsP r' c ys) := Hid.mk (fun h => by have := K5.out.2.2.2 h; cases this)
       go_wp2_with fail
       go_ret3
       exact ⟨_, _, _, [], rfl, .inr ⟨i, hd, r, q, zs, i', hd', r', c, ys, HF.out.1.1, HF.out.1.2.1, HF.out.1.2.2.1, HF.out.2.1, HF.out.2.2.1, HF.out.2.2.2.1, .inr (.inl ⟨HQR.out, fun h => HNF.out h.2, rfl, rfl, rfl⟩)⟩, .inl ⟨rfl, rfl, H.out.below K5.out.2.1, Fr.of_below K5.out.2.1⟩⟩
      ·have HFF : Hid (FitsP r q zs ∧ FitsP r' c ys) := Hid.mk ⟨K4.out.2.2.1 rfl, K5.out.2.2.1 rfl⟩
       have hMl := (HF.out.1.2.2.2.below K5.out.1).tight HFF.out.1
       have hMr := (HF.out.2.2.2.2.below K5.out.1).tight HFF.out.2
       have HMM := Hid.mk (And.intro hMl hMr)
       clear hMl hMr
       go_wp2_with fail
       have HM2 : Hid (IsM w4 (.agg #[.int .i64 r', .int .i64 c, .slice bo n' cap']) r 1 ys 2) := Hid.mk (by
        have h1 := HMM.out.2
        rw [HQR.out.1, HQR.out.2] at h1 ⊢
        exact h1)
       refine (solve_any _ _ r q zs ys _ HMM.out.1 HM2.out HFF.out.1.1 HFF.out.1.2.1 HFF.out.1.ent).mono ?_
       rintro e w5 ⟨z1, z2, x1, x2, o1, o2, n1, n2, p1, p2, ok, rfl, hiff, hhf, hyes, hb5⟩
       have hb05 : Below w.heap.size w w5 := K5.out.2.1.trans (hb5.mono K5.out.2.1.size)
       have hw5 := hb5.size
       have K6 := Hid.mk (And.intro hiff (And.intro hhf (And.intro hyes hb05)))
       clear hiff hhf hyes hb5 hb05 a0 a1 a2 a3 a4 a5
       cases ok
       ·have HNS : Hid (¬ SolS r q zs ys) := Hid.mk (fun h => by have := K6.out.1.2 h; cases this)
        have hbA : ∀ o1 o2, Below w.heap.size w ((w5.alloc o1).alloc o2) := fun o1 o2 => (K6.out.2.2.2.alloc K6.out.2.2.2.size _).alloc (by have := K6.out.2.2.2.size; simp; omega) _
        have HA := Hid.mk hbA
        clear hbA
        go_wp2_with fail
        go_ret3
        exact ⟨_, _, _, [], rfl, .inr ⟨i, hd, r, q, zs, i', hd', r', c, ys, HF.out.1.1, HF.out.1.2.1, HF.out.1.2.2.1, HF.out.2.1, HF.out.2.2.1, HF.out.2.2.2.1, .inr (.inr (.inl ⟨HQR.out, HFF.out, ⟨HNS.out, K6.out.2.1⟩, rfl, rfl, rfl⟩))⟩, .inl ⟨rfl, rfl, H.out.below (HA.out _ _), Fr.of_below (HA.out _ _)⟩⟩
       ·have HSP : Hid (SolS r q zs ys) := Hid.mk (K6.out.1.1 rfl)
        obtain ⟨us, nk, ks, hS, rfl, rfl, rfl, rfl, hM1, hM2⟩ := K6.out.2.2.1 rfl
        have K7 := Hid.mk (And.intro hS (And.intro hM1 hM2))
        clear hS hM1 hM2
        have hbA : ∀ o1 o2, Below w.heap.size w ((w5.alloc o1).alloc o2) := fun o1 o2 => (K6.out.2.2.2.alloc K6.out.2.2.2.size _).alloc (by have := K6.out.2.2.2.size; simp; omega) _
        have HA := Hid.mk hbA
        clear hbA
        go_wp2_with fail
        refine (room_held b ms nx _ (H.out.below (HA.out _ _))).mono ?_
        rintro e w' ⟨rfl, rfl⟩
        obtain ⟨rm, hrm⟩ : ∃ rm, rm = ms.countP Option.isNone := ⟨_, rfl⟩
        have HRM := Hid.mk hrm
        rw [← hrm]
        clear hrm
        by_cases h0 : rm < 2
        ·have h0' : ((rm : Int) < 2) := by omega
         go_wp2_with fail
         go_ret3
         exact ⟨_, _, _, [], rfl, .inr ⟨i, hd, r, q, zs, i', hd', r', c, ys, HF.out.1.1, HF.out.1.2.1, HF.out.1.2.2.1, HF.out.2.1, HF.out.2.2.1, HF.out.2.2.2.1, .inr (.inr (.inr (.inl ⟨HQR.out, HFF.out, ⟨HSP.out, K6.out.2.1⟩, by rw [← HRM.out]; exact h0, rfl, rfl, rfl⟩)))⟩, .inl ⟨rfl, rfl, H.out.below (HA.out _ _), Fr.of_below (HA.out _ _)⟩⟩
        ·have h0' : ¬ ((rm : Int) < 2) := by omega
         go_wp2_with fail
         obtain ⟨X, hX⟩ : ∃ X, X = ((w5.alloc (.cells #[.int .i64 q, .int .i64 1, .slice o1 n1 p1] 56)).alloc (.cells #[.int .i64 nk, .int .i64 q, .slice o2 n2 p2] 56)).alloc (.cells #[.int .i64 q, .int .i64 1, .slice o1 n1 p1, .int .i64 nk, .int .i64 q, .slice o2 n2 p2] 56) := ⟨_, rfl⟩
         rw [← hX]
         have hbX : Below w5.heap.size w5 X := by rw [hX]; exact (((Below.refl _ _).alloc (Nat.le_refl _) _).alloc (by simp) _).alloc (by simp <;> omega) _
         have hsX3 : X.heap.size = w5.heap.size + 1 + 1 + 1 := by rw [hX]; simp
         have hgX : X.heap[w5.heap.size + 1 + 1]? = some (.cells #[.int .i64 q, .int .i64 1, .slice o1 n1 p1, .int .i64 nk, .int .i64 q, .slice o2 n2 p2] 56 (0, 0)) := by
          rw [hX]
          have := heap_alloc_new ((w5.alloc (.cells #[.int .i64 q, .int .i64 1, .slice o1 n1 p1] 56)).alloc (.cells #[.int .i64 nk, .int .i64 q, .slice o2 n2 p2] 56)) (.cells #[.int .i64 q, .int .i64 1, .slice o1 n1 p1, .int .i64 nk, .int .i64 q, .slice o2 n2 p2] 56)
          simpa using this
         have hbwX := K6.out.2.2.2.trans (hbX.mono K6.out.2.2.2.size)
         have hrow : MRow X (w5.heap.size + 1 + 1) [(q, 1, us), (nk, q, ks)] := MRow.two (x := (q, 1, us)) (y := (nk, q, ks)) hgX (K7.out.2.1.below hbX) (K7.out.2.2.below hbX)
         have hw05 := K6.out.2.2.2.size
         have HX2 := Hid.mk (And.intro hbwX hrow)
         clear hX hbX hgX hbwX hrow
         refine (keepAll_held b (w5.heap.size + 1 + 1) 2 2 [(q, 1, us), (nk, q, ks)] ms nx _ (H.out.below HX2.out.1) HX2.out.2 rfl (by omega) (by omega) (by omega) (by have := HRM.out; omega) hnx).mono ?_
         rintro e w6 ⟨v6, rfl, hb6, zs6, rfl, k1, k2, k3, k4, k5, k6⟩
         have K8 := Hid.mk (And.intro k1 (And.intro k2 (And.intro k3 (And.intro k4 (And.intro k5 ((Fr.of_below HX2.out.1).trans k6))))))
         clear k1 k2 k3 k4 k5 k6
         go_wp2_with fail
         go_ret3
         exact ⟨_, _, _, [(q, 1, us), (nk, q, ks)], rfl, .inr ⟨i, hd, r, q, zs, i', hd', r', c, ys, HF.out.1.1, HF.out.1.2.1, HF.out.1.2.2.1, HF.out.2.1, HF.out.2.2.1, HF.out.2.2.2.1, .inr (.inr (.inr (.inr ⟨HQR.out, HFF.out, ⟨HSP.out, K6.out.2.1⟩, by have := HRM.out; omega, rfl, rfl, us, nk, ks, K7.out.1, rfl⟩)))⟩, .inr ⟨rfl, hb6, zs6, rfl, by have := HX2.out.1.size; have := K8.out.1; omega, K8.out.2.1, K8.out.2.2.1, K8.out.2.2.2.1, K8.out.2.2.2.2.1, K8.out.2.2.2.2.2⟩⟩
  ·have KN := Hid.mk hno
   clear hno
   go_wp2_with fail
   go_ret3
   rw [← HX.out]
   exact ⟨_, _, _, [], rfl, .inl ⟨.inr KN.out, rfl, rfl, rfl⟩, .inl ⟨rfl, rfl, H.out.below K2.out.2.2.1, Fr.of_below K2.out.2.2.1⟩⟩
 ·have KN := Hid.mk hno
  clear hno
  go_wp2_with fail
  go_ret3
  rw [← HX.out]
  exact ⟨_, _, _, [], rfl, .inl ⟨.inl KN.out, rfl, rfl, rfl⟩, .inl ⟨rfl, rfl, H.out.below K2.out.2.2.1, Fr.of_below K2.out.2.2.1⟩⟩
open Go.RowKit R
end Go.Proofs.YtfjbijpagaipnabDoor
namespace Go.Proofs.YtfjbijpagaipnabDoor.R
theorem sumF_dvd {d : Int} : ∀ (n : Nat) (g : Nat → Int), (∀ k, k < n → d ∣ g k) → d ∣ sumF n g := by
 intro n
 induction n with
 | zero => intro g _; exact Int.dvd_zero d
 | succ n ih => intro g h; rw [sumF]; exact Int.dvd_add (ih g (fun k hk => h k (by omega))) (h n (by omega))
theorem mv_ahead {d : Int} {n m : Nat} {vs : List (Nat → Int)} (h : ∀ C : List Nat, C.length = m → (∀ x ∈ C, x < n) → d ∣ mv vs C) : ∀ (us : List (Nat → Int)) (C : List Nat), C.length = us.length + m → (∀ x ∈ C, x < n) → d ∣ mv (us ++ vs) C := by
 intro us
 induction us with
 | nil => intro C hC hx; exact h C (by simpa using hC) hx
 | cons u us ih =>
   intro C hC hx
   rw [List.cons_append, mv]
   refine sumF_dvd _ _ (fun k hk => ?_)
   have h1 := ih (C.eraseIdx k) (by rw [List.length_eraseIdx, if_pos hk]; simp at hC; omega) (fun x hx' => hx x (List.mem_of_mem_eraseIdx hx'))
   have h2 : d ∣ u (C.getD k 0) * mv (us ++ vs) (C.eraseIdx k) := Int.dvd_trans h1 (Int.dvd_mul_left _ _)
   unfold signed
   split
   ·exact Int.dvd_neg.2 h2
   ·exact h2
theorem div_up {f : Nat → Nat → Int} {r c m : Nat} (hm : m + 1 ≤ 4) (h : divF f r c m = 0) : divF f r c (m + 1) = 0 := by
 rw [all_div f r c m (by omega), allV_iff] at h
 rw [all_div f r c (m + 1) hm]
 intro R hR hr C hC
 obtain ⟨c1, c2⟩ := chosenL_lt hC
 match R, hR with
 | x :: R', hR' =>
   have := mv_ahead (d := 0) (n := c) (m := m) (vs := R'.map f) (fun C' hC' hx => chosenL_any (by omega) h (by simpa using hR') (fun y hy => hr y (List.mem_cons_of_mem _ hy)) hC' hx) [f x] C (by simp; omega) c2
   exact Int.zero_dvd.1 (by simpa using this)
theorem rank_of_div {f : Nat → Nat → Int} {r c : Nat} (hr : r ≤ 4) (hc : r ≤ c) (h : divF f r c r ≠ 0) : RankIs f r c r := by
 refine ⟨Nat.le_refl _, hc, fun i hi h0 => ?_, .inl rfl⟩
 have key : ∀ t, i + 1 + t ≤ r → divF f r c (i + 1 + t) = 0 := by
  intro t
  induction t with
  | zero => intro _; exact h0
  | succ t ih => intro ht; exact div_up (m := i + 1 + t) (by omega) (ih (by omega))
 have := key (r - (i + 1)) (by omega)
 rw [show i + 1 + (r - (i + 1)) = r from by omega] at this
 exact h this
end Go.Proofs.YtfjbijpagaipnabDoor.R
namespace Go.Proofs.YtfjbijpagaipnabDoor
open Go.RowKit R
theorem flip_fz (r c : Nat) (zs : List Int) {i j : Nat} (hi : i < c) (hj : j < r) : fz r (flipL r c zs) i j = fz c zs j i := (flipL_is r c zs).2 i j hi hj
theorem SolveIs.back {r c nk : Nat} {zs ys xs ks : List Int} (h : SolveIs r c zs ys xs nk ks) (hs : SolS r c zs ys) : ∀ i j, i < r → j < 1 → dot (fz c zs) (fz 1 xs) i j c = fz 1 ys i j := by
 obtain ⟨k, pc, hs', us, ws, hE, rfl, -, -, -, -⟩ := h
 intro i j hi hj
 obtain rfl : j = 0 := by omega
 have hM : MemIs c r (flipL r c zs) (flipL r 1 ys) (prodL 1 c c (shL (ent r hs') pc (ent r (flipL r 1 ys) 0) c k) us) := ⟨k, pc, hs', us, ws, hE, rfl⟩
 have h1 := hM.back hs 0 i (by omega) hi
 rw [flip_fz r 1 ys (by omega) hi] at h1
 rw [← h1, dot_sm, dot_sm]
 refine sm_congr c (fun l hl => ?_)
 rw [flip_fz r c zs hl hi, flip_fz 1 c _ hl (by omega), Int.mul_comm]
end Go.Proofs.YtfjbijpagaipnabDoor
