import Derived.Test.YtfjbijpagaipnaaGreatDoorC41
import Derived.Test.YtfjbijpagaipnaaGreatDoorC38
import Derived.Test.YtfjbijpagaipnaaGreatDoorC36
import Derived.Deep.RegionHeld3
import Derived.Test.YtfjbijpagaipnaaGreatDoorC32
import Derived.StillTailTactics
import Derived.Test.YtfjbijpagaipnaaGreatDoorC39
import Derived.Test.YtfjbijpagaipnaaGreatDoorC40
namespace Go.Proofs.YtfjbijpagaipnaaGreatDoor
open Go.RowKit
def RfM (w : World) (q r c k : Nat) (sH sA sB : Value) : Prop := w.heap[q]? = some (.cells #[.int .i64 r, .int .i64 c, sH, .int .i64 r, .int .i64 r, sA, .int .i64 r, .int .i64 r, sB, .int .i64 k] 82 (0, 0))
theorem RfM.lt {w : World} {q r c k : Nat} {sH sA sB : Value} (h : RfM w q r c k sH sA sB) : q < w.heap.size := (Array.getElem?_eq_some_iff.1 h).1
theorem RfM.below {w w' : World} {q r c k n : Nat} {sH sA sB : Value} (h : RfM w q r c k sH sA sB) (hb : Below n w w') (hn : q < n) : RfM w' q r c k sH sA sB := (hb.block q hn).trans h
theorem RfM.cells {w : World} {q r c k : Nat} {sH sA sB : Value} (h : RfM w q r c k sH sA sB) : w.cell? ⟨q, 0, none⟩ = some (.int .i64 r) ∧ w.cell? ⟨q, 1, none⟩ = some (.int .i64 c) ∧ w.cell? ⟨q, 2, none⟩ = some sH ∧ w.cell? ⟨q, 3, none⟩ = some (.int .i64 r) ∧ w.cell? ⟨q, 4, none⟩ = some (.int .i64 r) ∧ w.cell? ⟨q, 5, none⟩ = some sA ∧ w.cell? ⟨q, 6, none⟩ = some (.int .i64 r) ∧ w.cell? ⟨q, 7, none⟩ = some (.int .i64 r) ∧ w.cell? ⟨q, 8, none⟩ = some sB := by
 unfold RfM at h
 refine ⟨?_, ?_, ?_, ?_, ?_, ?_, ?_, ?_, ?_⟩ <;> simp [World.cell?, h]
theorem IsM.lng {w : World} {v : Value} {r c L : Nat} {zs : List Int} (h : IsM w v r c zs L) : zs.length = r * c := by
 obtain ⟨_, _, sl, _, h3⟩ := h
 exact h3.1
open Go.RowKit
def FlipOf (r c : Nat) (zs ms : List Int) : Prop := ms.length = c * r ∧ ∀ i j, i < c → j < r → ent r ms i j = ent c zs j i
open Go.RowKit
end Go.Proofs.YtfjbijpagaipnaaGreatDoor
namespace Go.Proofs.YtfjbijpagaipnaaGreatDoor.R
open Go.RowKit
end Go.Proofs.YtfjbijpagaipnaaGreatDoor.R
namespace Go.Proofs.YtfjbijpagaipnaaGreatDoor
open Go.RowKit R
theorem FlipOf.uniq {r c : Nat} {zs ms ms' : List Int} (h : FlipOf r c zs ms) (h' : FlipOf r c zs ms') : ms = ms' :=
 list_ent h.1 h'.1 fun i j hi hj => (h.2 i j hi hj).trans (h'.2 i j hi hj).symm
open Go.RowKit R
open Go.RowKit R
open Go.RowKit R
open Go.RowKit
open Go.RowKit R
open Go.RowKit
set_option maxRecDepth 100000 in
set_option maxHeartbeats 4000000 in
theorem kernel_any (v : Value) (r c k : Nat) (hs us ws : List Int) (L : Nat) (w : World) (hf : IsF w v r c k hs us ws L) (hk : k ≤ r) :
 Calls Tryz.prog 225 #[v] w fun e w' => ∃ g ms, e = .returned (.agg #[.int .i64 ((r - k : Nat) : Int), .int .i64 r, .slice (some ⟨g, 0, none⟩) ((r - k) * r) ((r - k) * r)]) ∧ w.heap.size ≤ g ∧ Grid w' (.slice (some ⟨g, 0, none⟩) ((r - k) * r) ((r - k) * r)) ((r - k) * r) ms L ∧ (∀ i j, i < r - k → j < r → ent r ms i j = ent r us (k + i) j) ∧ Below w.heap.size w w' := by
 obtain ⟨sH, sU, sW, rfl, mH, mU, mW⟩ := hf
 obtain ⟨oH, cH, rfl⟩ := mH.slice
 obtain ⟨oU, cU, rfl⟩ := mU.slice
 obtain ⟨oW, cW, rfl⟩ := mW.slice
 have hr := mH.1
 have HM := Hid.mk mU
 clear mH mU mW
 obtain ⟨N, hN⟩ : ∃ N, N = r * c := ⟨_, rfl⟩
 obtain ⟨M, hM⟩ : ∃ M, M = r * r := ⟨_, rfl⟩
 obtain ⟨q, hq⟩ : ∃ q, q = r - k := ⟨_, rfl⟩
 rw [← hM] at HM ⊢
 rw [← hN, ← hq]
 have hsub : (r : Int) - (k : Int) = (q : Int) := by omega
 have hqr : q ≤ r := by omega
 have HQ := Hid.mk hq
 clear hN hM hq
 go_enter Tryz.func225, Tryz.ntmps225
 go_wp2_with fail
 obtain ⟨W0, hW0⟩ : ∃ W0, W0 = (w.alloc (.cells #[.int .i64 r, .int .i64 c, .slice oH N cH, .int .i64 r, .int .i64 r, .slice oU M cU, .int .i64 r, .int .i64 r, .slice oW M cW, .int .i64 k] 82)).alloc (.cells #[.int .i64 0, .int .i64 0, .slice none 0 0] 76) := ⟨_, rfl⟩
 have hs0 : W0.heap.size = w.heap.size + 2 := by rw [hW0]; simp
 have hb0 : Below w.heap.size w W0 := by rw [hW0]; repeat (first | exact Below.refl _ _ | refine Below.alloc ?_ (by simp <;> omega) _)
 have hR0 : W0.heap[w.heap.size + 1]? = some (.cells #[.int .i64 0, .int .i64 0, .slice none 0 0] 76 (0, 0)) := by
  rw [hW0]
  have := heap_alloc_new (w.alloc (.cells #[.int .i64 r, .int .i64 c, .slice oH N cH, .int .i64 r, .int .i64 r, .slice oU M cU, .int .i64 r, .int .i64 r, .slice oW M cW, .int .i64 k] 82)) (.cells #[.int .i64 0, .int .i64 0, .slice none 0 0] 76)
  simpa using this
 have hF0 : W0.heap[w.heap.size]? = some (.cells #[.int .i64 r, .int .i64 c, .slice oH N cH, .int .i64 r, .int .i64 r, .slice oU M cU, .int .i64 r, .int .i64 r, .slice oW M cW, .int .i64 k] 82 (0, 0)) := by
  rw [hW0]
  have h1 := heap_alloc_new w (.cells #[.int .i64 r, .int .i64 c, .slice oH N cH, .int .i64 r, .int .i64 r, .slice oU M cU, .int .i64 r, .int .i64 r, .slice oW M cW, .int .i64 k] 82)
  exact (((Below.refl (w.alloc (.cells #[.int .i64 r, .int .i64 c, .slice oH N cH, .int .i64 r, .int .i64 r, .slice oU M cU, .int .i64 r, .int .i64 r, .slice oW M cW, .int .i64 k] 82)).heap.size _).alloc (Nat.le_refl _) _).block _ (by simp)).trans h1
 have K0 := Hid.mk (And.intro hb0 (And.intro (show RfM W0 w.heap.size r c k (.slice oH N cH) (.slice oU M cU) (.slice oW M cW) from hF0) (And.intro hR0 hW0)))
 rw [← hW0]
 clear hb0 hF0 hR0 hW0
 refine (noughts_any q r _ (by omega) hr).mono ?_
 rintro e w1 ⟨g, rfl, hg1, hG1, hb1⟩
 have hw1 : W0.heap.size ≤ w1.heap.size := hb1.size
 have hgl := hG1.ty.lt
 have hb11 := (Below.refl w1.heap.size w1).alloc (Nat.le_refl _) (.cells #[.int .i64 q, .int .i64 r, .slice (some ⟨g, 0, none⟩) (q * r) (q * r)] 76)
 have hTm : Tri (w1.alloc (.cells #[.int .i64 q, .int .i64 r, .slice (some ⟨g, 0, none⟩) (q * r) (q * r)] 76)) w1.heap.size 0 (.int .i64 q) (.int .i64 r) (.slice (some ⟨g, 0, none⟩) (q * r) (q * r)) := ⟨new_cell _ _ _ _ _ rfl rfl, new_cell _ _ _ _ _ rfl rfl, new_cell _ _ _ _ _ rfl rfl⟩
 obtain ⟨W1, hW1⟩ : ∃ W1, W1 = w1.alloc (.cells #[.int .i64 q, .int .i64 r, .slice (some ⟨g, 0, none⟩) (q * r) (q * r)] 76) := ⟨_, rfl⟩
 have hs1 : W1.heap.size = w1.heap.size + 1 := by rw [hW1]; simp
 rw [← hW1] at hb11 hTm
 have hbW := hb1.trans (hb11.mono hw1)
 have K1 := Hid.mk (And.intro (show MatO W1 w1.heap.size 0 g q r (List.replicate (q * r) 0) L from ⟨by omega, hr, hTm, (hG1.mono (Nat.zero_le _)).below hb11⟩) (And.intro hbW hW1))
 clear hG1 hb1 hb11 hTm hW1 hbW
 go_wp2_with fail
 rw [← K1.out.2.2]
 have hpg : w1.heap.size ≠ g := by omega
 have hg2 : W0.heap.size ≤ g := hg1
 go_loopw [5] (fun i wr => ∃ (a : Nat) (ms : List Int), a ≤ q ∧ i = .int .i64 a ∧ Hid (MatO wr w1.heap.size 0 g q r ms L ∧ W1.grownBy wr (some g) ∧ ∀ i j, i < q → j < r → i < a → ent r ms i j = ent r us (k + i) j)) (fun i _ => q - (intOf i).toNat)
 case atStart => exact ⟨0, _, Nat.zero_le _, rfl, Hid.mk ⟨K1.out.1, World.grownBy.refl _ _, fun i j _ _ h => by omega⟩⟩
 case round =>
  rename World => wo
  obtain ⟨a, ms, ha, rfl, HI⟩ := hrel
  have hfo : RfM wo w.heap.size r c k (.slice oH N cH) (.slice oU M cU) (.slice oW M cW) := (HI.out.2.1.block _ (by omega) (by simp; omega)).trans (K0.out.2.1.below K1.out.2.1 (by omega))
  by_cases haq : a < q
  ·have hai : (a : Int) < (q : Int) := by omega
   go_wp2_with fail
   go_loopw [6] (fun i wr => ∃ (e : Nat) (ns : List Int), e ≤ r ∧ i = .int .i64 e ∧ Hid (MatO wr w1.heap.size 0 g q r ns L ∧ W1.grownBy wr (some g) ∧ ∀ i j, i < q → j < r → (i < a ∨ (i = a ∧ j < e)) → ent r ns i j = ent r us (k + i) j)) (fun i _ => r - (intOf i).toNat)
   case atStart => exact ⟨0, ms, Nat.zero_le _, rfl, Hid.mk ⟨HI.out.1, HI.out.2.1, fun i j x y h => HI.out.2.2 i j x y (by omega)⟩⟩
   case round =>
    rename World => wi
    obtain ⟨e, ns, he, rfl, HJ⟩ := hrel
    have hfi : RfM wi w.heap.size r c k (.slice oH N cH) (.slice oU M cU) (.slice oW M cW) := (HJ.out.2.1.block _ (by omega) (by simp; omega)).trans (K0.out.2.1.below K1.out.2.1 (by omega))
    obtain ⟨f0, f1, f2, f3, f4, f5, f6, f7, f8⟩ := hfi.cells
    have f9 : wi.cell? ⟨w.heap.size, 9, none⟩ = some (.int .i64 k) := by unfold RfM at hfi; simp [World.cell?, hfi]
    have hbi : Below w.heap.size w wi := (K0.out.1.trans (K1.out.2.1.mono (by omega))).trans (below_of_grown HJ.out.2.1 (by omega) (by omega))
    have hwi := HJ.out.2.1.size
    have KI := Hid.mk hbi
    clear hbi hfi
    by_cases her : e < r
    ·have hei : (e : Int) < (r : Int) := by omega
     obtain ⟨A, hA⟩ : ∃ A, A = k + a := ⟨_, rfl⟩
     have hsum : (k : Int) + (a : Int) = (A : Int) := by omega
     have hwA : IntKind.i64.wrap (A : Int) = (A : Int) := IntWalk.i64_in _ (by omega)
     have hAr : A < r := by have := HQ.out; omega
     have HA := Hid.mk hA
     clear hA
     go_wp2_with fail
     refine (at_in _ r r A e us L _ (HM.out.below KI.out) hAr her).mono ?_
     rintro e9 w2 ⟨x, rfl, hx, hb2⟩
     obtain ⟨nb2, so2, n2, cp2, rfl⟩ := hx.shape
     have hb22 := (Below.refl w2.heap.size w2).alloc (Nat.le_refl _) (.cells #[.bool nb2, .slice so2 n2 cp2] 94)
     have hbB := hb2.trans (hb22.mono hb2.size)
     have K2 := Hid.mk (And.intro hbB (hx.below hb22))
     clear hx hb2 hb22 hbB f0 f1 f2 f3 f4 f5 f6 f7 f8 f9
     go_wp2_with fail
     refine (set_m w1.heap.size 0 g q r a e ns L _ _ _ (HJ.out.1.later K2.out.1) hpg K2.out.2 haq her).mono ?_
     rintro e9 w3 ⟨rfl, hM3, hgr3, -⟩
     have K3 := Hid.mk (And.intro hM3 (grown_trans (grown_below HJ.out.2.1 K2.out.1) hgr3))
     clear hM3 hgr3
     go_wp2_with fail
     go_roundw
     case measure => simp [intOf]; omega
     case rel =>
      refine ⟨e + 1, _, by omega, by go_num, Hid.mk ⟨K3.out.1, K3.out.2, fun i j hi hj hd => ?_⟩⟩
      rw [ent_set ns q r HJ.out.1.len a e i j _ haq her hj]
      by_cases hij : i = a ∧ j = e
      ·obtain ⟨rfl, rfl⟩ := hij
       rw [if_pos ⟨rfl, rfl⟩, HA.out]
       rfl
      ·rw [if_neg hij]
       exact HJ.out.2.2 i j hi hj (by omega)
    ·have hei : ¬ (e : Int) < (r : Int) := by omega
     go_wp2_with fail
     go_roundw
     case measure => simp [intOf]; omega
     case rel => exact ⟨a + 1, ns, by omega, by go_num, Hid.mk ⟨HJ.out.1, HJ.out.2.1, fun i j hi hj hd => HJ.out.2.2 i j hi hj (by omega)⟩⟩
  ·have hai : ¬ (a : Int) < (q : Int) := by omega
   have hR : wo.heap[w.heap.size + 1]? = some (.cells #[.int .i64 0, .int .i64 0, .slice none 0 0] 76 (0, 0)) := ((HI.out.2.1.block _ (by omega) (fun e => by injection e with e; omega)).trans (K1.out.2.1.block _ (by omega))).trans K0.out.2.2.1
   have r0 : wo.cell? ⟨w.heap.size + 1, 0, none⟩ = some (.int .i64 0) := by simp [World.cell?, hR]
   have r1 : wo.cell? ⟨w.heap.size + 1, 1, none⟩ = some (.int .i64 0) := by simp [World.cell?, hR]
   have r2 : wo.cell? ⟨w.heap.size + 1, 2, none⟩ = some (.slice none 0 0) := by simp [World.cell?, hR]
   have f0 : ∀ o, wo.frozen? ⟨w.heap.size + 1, o, none⟩ = false := fun o => by simp [World.frozen?, hR]
   have HT : Hid (Ty wo (w.heap.size + 1) 76) := Hid.mk ⟨_, _, hR⟩
   obtain ⟨s0, s1, s2⟩ := HI.out.1.tri
   clear hR
   go_wp2_with fail
   refine bodyPost_ret (v := .agg #[.int .i64 q, .int .i64 r, .slice (some ⟨g, 0, none⟩) (q * r) (q * r)]) ?_ rfl ?_
   ·(simp [results, Tryz.results225, go_sem, r0, r1, r2]; done)
   ·have h3 := set3 wo (w.heap.size + 1) HT.out (by decide) (.int .i64 q) (.int .i64 r) (.slice (some ⟨g, 0, none⟩) (q * r) (q * r))
    have hbo : Below w.heap.size w wo := (K0.out.1.trans (K1.out.2.1.mono (by omega))).trans (below_of_grown HI.out.2.1 (by omega) (by omega))
    exact ⟨g, rfl, by omega, ms, HI.out.1.grid.besides h3.2 h3.1 (by omega), fun i j hi hj => HI.out.2.2 i j hi hj (by omega), hbo.trans (below_of_grown h3.2 (by omega) hbo.size)⟩
open Go.RowKit
def flipL (r c : Nat) (zs : List Int) : List Int := (List.range (c * r)).map fun t => ent c zs (t % r) (t / r)
theorem flipL_is (r c : Nat) (zs : List Int) : FlipOf r c zs (flipL r c zs) := by
 refine ⟨by simp [flipL], fun i j hi hj => ?_⟩
 have h1 : (i * r + j) / r = i := by rw [Nat.mul_comm, Nat.mul_add_div (by omega), Nat.div_eq_of_lt hj]; omega
 have h2 : (i * r + j) % r = j := by rw [Nat.mul_comm, Nat.mul_add_mod]; exact Nat.mod_eq_of_lt hj
 rw [show ent r (flipL r c zs) i j = (flipL r c zs).getD (i * r + j) 0 from rfl]
 unfold flipL
 rw [List.getD, List.getElem?_map, List.getElem?_range (idx_lt hi hj)]
 simp only [Option.map_some, Option.getD_some, h1, h2]
def SolveIs (r c : Nat) (zs ys xs : List Int) (nk : Nat) (ks : List Int) : Prop := ∃ k pc hs us ws, EchIs c r (flipL r c zs) k pc hs us ws ∧ xs = flipL 1 c (prodL 1 c c (shL (ent r hs) pc (ent r (flipL r 1 ys) 0) c k) us) ∧ nk = c - k ∧ k ≤ c ∧ ks.length = nk * c ∧ ∀ i j, i < nk → j < c → ent c ks i j = ent c us (k + i) j
theorem SolveIs.uniq {r c : Nat} {zs ys xs xs' ks ks' : List Int} {n n' : Nat} (a : SolveIs r c zs ys xs n ks) (b : SolveIs r c zs ys xs' n' ks') : xs = xs' ∧ n = n' ∧ ks = ks' := by
 obtain ⟨k, pc, hs, us, ws, a, rfl, rfl, ha, hl, he⟩ := a
 obtain ⟨k', pc', hs', us', ws', b, rfl, rfl, hb, hl', he'⟩ := b
 obtain ⟨rfl, e1, e2, e3'⟩ := EcTo.det r (Nat.le_refl _) _ _ _ _ a.run b.run
 obtain rfl := list_ent a.lh b.lh e1
 obtain rfl := list_ent a.lu b.lu e2
 refine ⟨?_, rfl, list_ent hl hl' fun i j hi hj => (he i j hi hj).trans (he' i j hi hj).symm⟩
 rw [shL_congr (ent r (flipL r 1 ys) 0) c fun x hx => ((a.st.cols b.st (fun i hi => Sp.row _ r hi) (fun i hi => Sp.row _ r hi)) x hx).2.symm]
theorem IsF.bel {w w' : World} {v : Value} {r c k : Nat} {hs us ws : List Int} {L : Nat} (h : IsF w v r c k hs us ws L) (hb : Below w.heap.size w w') : IsF w' v r c k hs us ws L := by
 obtain ⟨s1, s2, s3, e, m1, m2, m3⟩ := h
 exact ⟨s1, s2, s3, e, m1.below hb, m2.below hb, m3.below hb⟩
theorem RfM.nine {w : World} {q r c k : Nat} {sH sA sB : Value} (h : RfM w q r c k sH sA sB) : w.cell? ⟨q, 9, none⟩ = some (.int .i64 k) := by unfold RfM at h; simp [World.cell?, h]
set_option maxRecDepth 100000 in
set_option maxHeartbeats 4000000 in
theorem solve_any (v u : Value) (r c : Nat) (zs ys : List Int) (w : World) (hm : IsM w v r c zs 2) (hn : IsM w u r 1 ys 2) (hr4 : r ≤ 4) (hc4 : c ≤ 4) (hz : ∀ i j, i < r → j < c → (ent c zs i j).natAbs < 2 ^ 48) :
 Calls Tryz.prog 213 #[v, u] w fun e w' => ∃ (a1 a2 b1 b2 : Int) (o1 o2 : Option Addr) (n1 n2 p1 p2 : Nat) (ok : Bool), e = .returned (.tuple #[.agg #[.int .i64 a1, .int .i64 a2, .slice o1 n1 p1], .agg #[.int .i64 b1, .int .i64 b2, .slice o2 n2 p2], .bool ok]) ∧ (ok = true ↔ Sp (ent r (flipL r c zs)) c r (ent r (flipL r 1 ys) 0)) ∧ HasF (ent r (flipL r c zs)) c r ∧
  (ok = true → ∃ xs nk ks, SolveIs r c zs ys xs nk ks ∧ a1 = c ∧ a2 = 1 ∧ b1 = nk ∧ b2 = c ∧ IsM w' (.agg #[.int .i64 a1, .int .i64 a2, .slice o1 n1 p1]) c 1 xs 200000000 ∧ IsM w' (.agg #[.int .i64 b1, .int .i64 b2, .slice o2 n2 p2]) nk c ks 200000000) ∧ Below w.heap.size w w' := by
 have HM := Hid.mk hm
 have HN := Hid.mk hn
 obtain ⟨hr, hc, sl, rfl, hg0⟩ := hm
 obtain ⟨ao, cap, rfl, -⟩ := hg0.shape
 obtain ⟨-, h1, tl, rfl, hg1⟩ := hn
 obtain ⟨bo, dap, rfl, -⟩ := hg1.shape
 clear hg0 hg1
 obtain ⟨N, hN⟩ : ∃ N, N = r * c := ⟨_, rfl⟩
 obtain ⟨M, hM⟩ : ∃ M, M = r * 1 := ⟨_, rfl⟩
 rw [← hN] at HM ⊢
 rw [← hM] at HN ⊢
 clear hN hM
 go_enter Tryz.func213, Tryz.ntmps213
 go_wp2_with fail
 obtain ⟨W0, hW0⟩ : ∃ W0, W0 = (((w.alloc (.cells #[.int .i64 r, .int .i64 c, .slice ao N cap] 76)).alloc (.cells #[.int .i64 r, .int .i64 1, .slice bo M dap] 76)).alloc (.cells #[.int .i64 0, .int .i64 0, .slice none 0 0] 76)).alloc (.cells #[.int .i64 0, .int .i64 0, .slice none 0 0] 76) := ⟨_, rfl⟩
 have hs0 : W0.heap.size = w.heap.size + 4 := by rw [hW0]; simp
 have hb0 : Below w.heap.size w W0 := by rw [hW0]; repeat (first | exact Below.refl _ _ | refine Below.alloc ?_ (by simp <;> omega) _)
 have hT1 : Trio W0 (w.heap.size + 1) (.int .i64 r) (.int .i64 1) (.slice bo M dap) := by
  rw [hW0]
  exact ⟨cell1 (cell1 (new_cell _ _ _ _ _ (by simp) rfl) _) _, cell1 (cell1 (new_cell _ _ _ _ _ (by simp) rfl) _) _, cell1 (cell1 (new_cell _ _ _ _ _ (by simp) rfl) _) _⟩
 have hR1 : W0.heap[w.heap.size + 2]? = some (.cells #[.int .i64 0, .int .i64 0, .slice none 0 0] 76 (0, 0)) := by
  rw [hW0]
  have h1 := heap_alloc_new ((w.alloc (.cells #[.int .i64 r, .int .i64 c, .slice ao N cap] 76)).alloc (.cells #[.int .i64 r, .int .i64 1, .slice bo M dap] 76)) (.cells #[.int .i64 0, .int .i64 0, .slice none 0 0] 76)
  have h2 := (((Below.refl (((w.alloc (.cells #[.int .i64 r, .int .i64 c, .slice ao N cap] 76)).alloc (.cells #[.int .i64 r, .int .i64 1, .slice bo M dap] 76)).alloc (.cells #[.int .i64 0, .int .i64 0, .slice none 0 0] 76)).heap.size _).alloc (Nat.le_refl _) (.cells #[.int .i64 0, .int .i64 0, .slice none 0 0] 76)).block (w.heap.size + 2) (by simp))
  rw [h2]
  simpa using h1
 have hR2 : W0.heap[w.heap.size + 3]? = some (.cells #[.int .i64 0, .int .i64 0, .slice none 0 0] 76 (0, 0)) := by
  rw [hW0]
  have h1 := heap_alloc_new (((w.alloc (.cells #[.int .i64 r, .int .i64 c, .slice ao N cap] 76)).alloc (.cells #[.int .i64 r, .int .i64 1, .slice bo M dap] 76)).alloc (.cells #[.int .i64 0, .int .i64 0, .slice none 0 0] 76)) (.cells #[.int .i64 0, .int .i64 0, .slice none 0 0] 76)
  simpa using h1
 have K0 := Hid.mk (And.intro hb0 (And.intro hT1 (And.intro hR1 hR2)))
 rw [← hW0]
 clear hb0 hT1 hR1 hR2 hW0
 refine (flip_any _ r c zs 2 _ (HM.out.below K0.out.1)).mono ?_
 rintro e w1 ⟨v1, fs, rfl, hM1, hfl, hb1⟩
 obtain rfl : fs = flipL r c zs := FlipOf.uniq ⟨hM1.lng, hfl⟩ (flipL_is r c zs)
 have hfb : ∀ i j, i < c → j < r → (ent r (flipL r c zs) i j).natAbs < 2 ^ 48 := fun i j hi hj => by rw [hfl i j hi hj]; exact hz j i hj hi
 have K1 := Hid.mk (And.intro hM1 (And.intro hb1 hfb))
 have hw1 := hb1.size
 clear hM1 hfl hb1 hfb
 go_wp2_with fail
 refine (gech_fit _ c r (flipL r c zs) 2 _ K1.out.1 hc4 hr4 K1.out.2.2 (by omega)).mono ?_
 rintro e w2 ⟨v2, k, pc, hs, us, ws, rfl, hIF, hst, hE, hEB, hb2, hrun⟩
 obtain ⟨sH, sU, sW, rfl, m3, m4, m5⟩ := id hIF
 have hIs : EchIs c r (flipL r c zs) k pc hs us ws := ⟨m3.lng, m4.lng, m5.lng, hst, hE, hEB, hrun⟩
 obtain ⟨oH, cH, rfl⟩ := m3.slice
 obtain ⟨oU, cU, rfl⟩ := m4.slice
 obtain ⟨oW, cW, rfl⟩ := m5.slice
 clear m3 m4 m5 hst hE hEB hrun
 obtain ⟨NH, hNH⟩ : ∃ NH, NH = c * r := ⟨_, rfl⟩
 obtain ⟨NA, hNA⟩ : ∃ NA, NA = c * c := ⟨_, rfl⟩
 rw [← hNH, ← hNA] at hIF ⊢
 clear hNH hNA
 have hb22 := (Below.refl w2.heap.size w2).alloc (Nat.le_refl _) (.cells #[.int .i64 c, .int .i64 r, .slice oH NH cH, .int .i64 c, .int .i64 c, .slice oU NA cU, .int .i64 c, .int .i64 c, .slice oW NA cW, .int .i64 k] 82)
 have hbA : Below W0.heap.size W0 (w2.alloc (.cells #[.int .i64 c, .int .i64 r, .slice oH NH cH, .int .i64 c, .int .i64 c, .slice oU NA cU, .int .i64 c, .int .i64 c, .slice oW NA cW, .int .i64 k] 82)) := K1.out.2.1.trans ((hb2.trans (hb22.mono hb2.size)).mono hw1)
 have hQ2 : RfM (w2.alloc (.cells #[.int .i64 c, .int .i64 r, .slice oH NH cH, .int .i64 c, .int .i64 c, .slice oU NA cU, .int .i64 c, .int .i64 c, .slice oW NA cW, .int .i64 k] 82)) w2.heap.size c r k (.slice oH NH cH) (.slice oU NA cU) (.slice oW NA cW) := heap_alloc_new w2 _
 obtain ⟨y0, y1, y2⟩ := K0.out.2.1.later hbA
 have hkc := hIs.st.le
 have K2 := Hid.mk (And.intro hIF (And.intro hIs (And.intro hbA (And.intro hQ2 hb22))))
 have hw2 : W0.heap.size ≤ w2.heap.size := by have := hb2.size; omega
 clear hIF hIs hb2 hb22 hbA hQ2
 go_wp2_with fail
 obtain ⟨X, hX⟩ : ∃ X, X = w2.alloc (.cells #[.int .i64 c, .int .i64 r, .slice oH NH cH, .int .i64 c, .int .i64 c, .slice oU NA cU, .int .i64 c, .int .i64 c, .slice oW NA cW, .int .i64 k] 82) := ⟨_, rfl⟩
 have hsX : X.heap.size = w2.heap.size + 1 := by rw [hX]; simp
 rw [← hX] at K2 y0 y1 y2 ⊢
 clear hX
 refine (flip_any _ r 1 ys 2 _ (HN.out.below (K0.out.1.trans (K2.out.2.2.1.mono (by omega))))).mono ?_
 rintro e w3 ⟨v3, gs, rfl, hM3, hgl, hb3⟩
 obtain rfl : gs = flipL r 1 ys := FlipOf.uniq ⟨hM3.lng, hgl⟩ (flipL_is r 1 ys)
 obtain ⟨-, -, s3, rfl, hg3⟩ := id hM3
 obtain ⟨o3, c3, rfl, -⟩ := hg3.shape
 obtain ⟨N3, hN3⟩ : ∃ N3, N3 = 1 * r := ⟨_, rfl⟩
 rw [← hN3] at hM3 ⊢
 have hb33 := (Below.refl w3.heap.size w3).alloc (Nat.le_refl _) (.cells #[.int .i64 1, .int .i64 r, .slice o3 N3 c3] 76)
 have hbX3 : Below X.heap.size X (w3.alloc (.cells #[.int .i64 1, .int .i64 r, .slice o3 N3 c3] 76)) := hb3.trans (hb33.mono hb3.size)
 have hw3 := hb3.size
 have hQ3 := K2.out.2.2.2.1.below hbX3 K2.out.2.2.2.1.lt
 have hT3 : Trio (w3.alloc (.cells #[.int .i64 1, .int .i64 r, .slice o3 N3 c3] 76)) w3.heap.size (.int .i64 1) (.int .i64 r) (.slice o3 N3 c3) := ⟨new_cell _ _ _ _ _ rfl rfl, new_cell _ _ _ _ _ rfl rfl, new_cell _ _ _ _ _ rfl rfl⟩
 have K3 := Hid.mk (And.intro (hM3.below hb33) (And.intro hbX3 (And.intro hQ3 hT3)))
 have x9 : (w3.alloc (.cells #[.int .i64 1, .int .i64 r, .slice o3 N3 c3] 76)).cell? ⟨w2.heap.size, 9, none⟩ = some (.int .i64 k) := by unfold RfM at hQ3; simp [World.cell?, hQ3]
 obtain ⟨x0, x1, x2, x3, x4, x5, x6, x7, x8⟩ := hQ3.cells
 clear hM3 hg3 hgl hb3 hb33 hbX3 hQ3 hT3 hN3 y0 y1 y2
 go_wp2_with fail
 have hIF3 := (K2.out.1.bel K2.out.2.2.2.2).bel K3.out.2.1
 refine (express_any _ _ c r k pc hs us ws (flipL r 1 ys) 4000 _ hIF3 (K3.out.1.mono (by omega)) K2.out.2.1.st (by omega) (by omega)).mono ?_
 rintro e w4 ⟨a1, a2, ox, nx, px, ok, rfl, hx4, hiff, hb4⟩
 have hb44 := (Below.refl w4.heap.size w4).alloc (Nat.le_refl _) (.cells #[.int .i64 a1, .int .i64 a2, .slice ox nx px] 76)
 have hbX4 : Below X.heap.size X (w4.alloc (.cells #[.int .i64 a1, .int .i64 a2, .slice ox nx px] 76)) := K3.out.2.1.trans ((hb4.trans (hb44.mono hb4.size)).mono K3.out.2.1.size)
 have hs4 : w3.heap.size + 1 ≤ w4.heap.size := by have := hb4.size; simpa using this
 have hQ4 := K2.out.2.2.2.1.below hbX4 K2.out.2.2.2.1.lt
 have hT4 : Trio (w4.alloc (.cells #[.int .i64 a1, .int .i64 a2, .slice ox nx px] 76)) w4.heap.size (.int .i64 a1) (.int .i64 a2) (.slice ox nx px) := ⟨new_cell _ _ _ _ _ rfl rfl, new_cell _ _ _ _ _ rfl rfl, new_cell _ _ _ _ _ rfl rfl⟩
 have hb04 := K2.out.2.2.1.trans (hbX4.mono K2.out.2.2.1.size)
 have K4 := Hid.mk (And.intro (hiff.trans (mem_iff K2.out.2.1.st K2.out.2.1.inv)) (And.intro (show ok = true → _ from fun h => (hx4 h).below hb44) (And.intro hbX4 (And.intro hQ4 (And.intro hT4 hb04)))))
 clear hx4 hiff hb4 hb44 hbX4 hQ4 hT4 hIF3 x0 x1 x2 x3 x4 x5 x6 x7 x8 x9 hb04
 have hR1 := (K4.out.2.2.2.2.2.block (w.heap.size + 1 + 1) (by omega)).trans K0.out.2.2.1
 have hR2 := (K4.out.2.2.2.2.2.block (w.heap.size + 1 + 1 + 1) (by omega)).trans K0.out.2.2.2
 have HR := Hid.mk (And.intro hR1 hR2)
 cases ok
 ·have r0 : (w4.alloc (.cells #[.int .i64 a1, .int .i64 a2, .slice ox nx px] 76)).cell? ⟨w.heap.size + 1 + 1, 0, none⟩ = some (.int .i64 0) := by simp [World.cell?, hR1]
  have r1 : (w4.alloc (.cells #[.int .i64 a1, .int .i64 a2, .slice ox nx px] 76)).cell? ⟨w.heap.size + 1 + 1, 1, none⟩ = some (.int .i64 0) := by simp [World.cell?, hR1]
  have r2 : (w4.alloc (.cells #[.int .i64 a1, .int .i64 a2, .slice ox nx px] 76)).cell? ⟨w.heap.size + 1 + 1, 2, none⟩ = some (.slice none 0 0) := by simp [World.cell?, hR1]
  have rf : ∀ o, (w4.alloc (.cells #[.int .i64 a1, .int .i64 a2, .slice ox nx px] 76)).frozen? ⟨w.heap.size + 1 + 1, o, none⟩ = false := fun o => by simp [World.frozen?, hR1]
  have s0 : (w4.alloc (.cells #[.int .i64 a1, .int .i64 a2, .slice ox nx px] 76)).cell? ⟨w.heap.size + 1 + 1 + 1, 0, none⟩ = some (.int .i64 0) := by simp [World.cell?, hR2]
  have s1 : (w4.alloc (.cells #[.int .i64 a1, .int .i64 a2, .slice ox nx px] 76)).cell? ⟨w.heap.size + 1 + 1 + 1, 1, none⟩ = some (.int .i64 0) := by simp [World.cell?, hR2]
  have s2 : (w4.alloc (.cells #[.int .i64 a1, .int .i64 a2, .slice ox nx px] 76)).cell? ⟨w.heap.size + 1 + 1 + 1, 2, none⟩ = some (.slice none 0 0) := by simp [World.cell?, hR2]
  have sf : ∀ o, (w4.alloc (.cells #[.int .i64 a1, .int .i64 a2, .slice ox nx px] 76)).frozen? ⟨w.heap.size + 1 + 1 + 1, o, none⟩ = false := fun o => by simp [World.frozen?, hR2]
  have hbv : Below w.heap.size w (w4.alloc (.cells #[.int .i64 a1, .int .i64 a2, .slice ox nx px] 76)) := K0.out.1.trans (K4.out.2.2.2.2.2.mono (by omega))
  have HT := Hid.mk (And.intro hbv (set6_trio (And.intro r0 (And.intro r1 r2)) (And.intro s0 (And.intro s1 s2)) (Nat.ne_of_lt (Nat.lt_succ_self _)) (.int .i64 0) (.int .i64 0) (.slice none 0 0) (.int .i64 0) (.int .i64 0) (.slice none 0 0)))
  clear hbv hR1 hR2
  go_wp2_with fail
  clear r0 r1 r2 rf s0 s1 s2 sf
  obtain ⟨⟨r0, r1, r2⟩, s0, s1, s2⟩ := id HT.out.2
  have HB := Hid.mk (set6_below HT.out.1 (show w.heap.size ≤ w.heap.size + 1 + 1 by omega) (show w.heap.size ≤ w.heap.size + 1 + 1 + 1 by omega) (.int .i64 0) (.int .i64 0) (.slice none 0 0) (.int .i64 0) (.int .i64 0) (.slice none 0 0))
  clear HT
  unfold set6 at r0 r1 r2 s0 s1 s2 HB
  generalize World.setCell _ _ _ = WW at r0 r1 r2 s0 s1 s2 HB ⊢
  refine bodyPost_ret (v := .tuple #[.agg #[.int .i64 0, .int .i64 0, .slice none 0 0], .agg #[.int .i64 0, .int .i64 0, .slice none 0 0], .bool false]) ?_ rfl ?_
  ·(simp [results, Tryz.results213, go_sem, r0, r1, r2, s0, s1, s2]; done)
  ·exact ⟨0, 0, 0, 0, none, none, 0, 0, 0, 0, false, rfl, K4.out.1, ⟨_, _, _, _, _, K2.out.2.1.st, K2.out.2.1.inv⟩, (fun h => by cases h), HB.out⟩
 ·clear hR1 hR2
  go_wp2_with fail
  have hMx := K4.out.2.1 trivial
  obtain ⟨V, hV⟩ : ∃ V, V = w4.alloc (.cells #[.int .i64 a1, .int .i64 a2, .slice ox nx px] 76) := ⟨_, rfl⟩
  have hsV : V.heap.size = w4.heap.size + 1 := by rw [hV]; simp
  rw [← hV] at K4 HR hMx ⊢
  clear hV
  have hIFV := (K2.out.1.bel K2.out.2.2.2.2).bel K4.out.2.2.1
  have hmx := hMx.mono (lx4 (show k ≤ 4 by omega))
  have HV := Hid.mk (show ∀ w', Below V.heap.size V w' → (w'.heap[w.heap.size + 1 + 1]? = some (.cells #[.int .i64 0, .int .i64 0, .slice none 0 0] 76 (0, 0)) ∧ w'.heap[w.heap.size + 1 + 1 + 1]? = some (.cells #[.int .i64 0, .int .i64 0, .slice none 0 0] 76 (0, 0))) ∧ RfM w' w2.heap.size c r k (.slice oH NH cH) (.slice oU NA cU) (.slice oW NA cW) from fun w' hb =>
   ⟨⟨(hb.block _ (by omega)).trans HR.out.1, (hb.block _ (by omega)).trans HR.out.2⟩, K4.out.2.2.2.1.below hb K4.out.2.2.2.1.lt⟩)
  obtain ⟨y0, y1, y2⟩ := K4.out.2.2.2.2.1
  obtain ⟨x0, x1, x2, x3, x4, x5, x6, x7, x8⟩ := K4.out.2.2.2.1.cells
  have x9 := K4.out.2.2.2.1.nine
  have HMX := Hid.mk (And.intro hMx (And.intro hmx hIFV))
  clear hMx hmx hIFV
  go_region_with (first
   | (go_at_call 151; go_must (refine (flip_new _ 1 c _ 200000000 _ (HMX.out.2.1.below (by repeat (first | exact Below.refl _ _ | refine Below.drew ?_)))).mono ?_; rintro e w5 ⟨g5, fs, rfl, hg5, hG5, hf5, hb5⟩; have hbV5 : Below V.heap.size V w5 := (by refine Below.trans ?_ hb5; repeat (first | exact Below.refl _ _ | refine Below.drew ?_)); obtain ⟨u0, u1, u2, u3, u4, u5, u6, u7, u8⟩ := (HV.out w5 hbV5).2.cells; have u9 := (HV.out w5 hbV5).2.nine; have hs5 := hbV5.size; have hI5 : IsM w5 (.agg #[.int .i64 c, .int .i64 ((1 : Nat) : Int), .slice (some ⟨g5, 0, none⟩) c c]) c 1 fs 200000000 := (by have h5 : IsM w5 (.agg #[.int .i64 c, .int .i64 ((1 : Nat) : Int), .slice (some ⟨g5, 0, none⟩) (c * 1) (c * 1)]) c 1 fs 200000000 := ⟨hc, h1, _, rfl, hG5⟩; rw [Nat.mul_one] at h5; exact h5); clear hb5 hG5))
   | (go_at_call 225; go_must (refine (kernel_any _ c r k hs us ws 4000 _ ((HMX.out.2.2.bel hbV5).bel (by repeat (first | exact Below.refl _ _ | refine Below.drew ?_))) hkc).mono ?_; rintro e w6 ⟨g6, ks, rfl, hg6, hG6, hk6, hb6⟩; have hb56 : Below w5.heap.size w5 w6 := (by refine Below.trans ?_ hb6; repeat (first | exact Below.refl _ _ | refine Below.drew ?_)); have hbV6 : Below V.heap.size V w6 := hbV5.trans (hb56.mono hs5); obtain ⟨⟨hR1, hR2⟩, -⟩ := HV.out w6 hbV6; have r0 : w6.cell? ⟨w.heap.size + 1 + 1, 0, none⟩ = some (.int .i64 0) := (by simp [World.cell?, hR1]); have r1 : w6.cell? ⟨w.heap.size + 1 + 1, 1, none⟩ = some (.int .i64 0) := (by simp [World.cell?, hR1]); have r2 : w6.cell? ⟨w.heap.size + 1 + 1, 2, none⟩ = some (.slice none 0 0) := (by simp [World.cell?, hR1]); have rf : ∀ o, w6.frozen? ⟨w.heap.size + 1 + 1, o, none⟩ = false := (fun o => by simp [World.frozen?, hR1]); have s0 : w6.cell? ⟨w.heap.size + 1 + 1 + 1, 0, none⟩ = some (.int .i64 0) := (by simp [World.cell?, hR2]); have s1 : w6.cell? ⟨w.heap.size + 1 + 1 + 1, 1, none⟩ = some (.int .i64 0) := (by simp [World.cell?, hR2]); have s2 : w6.cell? ⟨w.heap.size + 1 + 1 + 1, 2, none⟩ = some (.slice none 0 0) := (by simp [World.cell?, hR2]); have sf : ∀ o, w6.frozen? ⟨w.heap.size + 1 + 1 + 1, o, none⟩ = false := (fun o => by simp [World.frozen?, hR2]); clear u0 u1 u2 u3 u4 u5 u6 u7 u8 u9)))
  all_goals
   have hbv : Below w.heap.size w w6 := (K0.out.1.trans (K4.out.2.2.2.2.2.mono (by omega))).trans (hbV6.mono (by omega))
   have HT := Hid.mk (set6_trio (And.intro r0 (And.intro r1 r2)) (And.intro s0 (And.intro s1 s2)) (Nat.ne_of_lt (Nat.lt_succ_self _)) (.int .i64 c) (.int .i64 1) (.slice (some ⟨g5, 0, none⟩) c c) (.int .i64 ((c - k : Nat) : Int)) (.int .i64 c) (.slice (some ⟨g6, 0, none⟩) ((c - k) * c) ((c - k) * c)))
   have HK := Hid.mk (set6_KT w6 ⟨_, _, hR1⟩ ⟨_, _, hR2⟩ (by decide) (by decide) (by decide) (by decide) (.int .i64 c) (.int .i64 1) (.slice (some ⟨g5, 0, none⟩) c c) (.int .i64 ((c - k : Nat) : Int)) (.int .i64 c) (.slice (some ⟨g6, 0, none⟩) ((c - k) * c) ((c - k) * c)))
   have HB := Hid.mk (set6_below hbv (show w.heap.size ≤ w.heap.size + 1 + 1 by omega) (show w.heap.size ≤ w.heap.size + 1 + 1 + 1 by omega) (.int .i64 c) (.int .i64 1) (.slice (some ⟨g5, 0, none⟩) c c) (.int .i64 ((c - k : Nat) : Int)) (.int .i64 c) (.slice (some ⟨g6, 0, none⟩) ((c - k) * c) ((c - k) * c)))
   clear hbv hR1 hR2 r0 r1 r2 rf s0 s1 s2 sf
   go_wp2_with fail
   obtain ⟨⟨r0, r1, r2⟩, s0, s1, s2⟩ := id HT.out
   clear HT
   unfold set6 at r0 r1 r2 s0 s1 s2 HB HK
   generalize World.setCell _ _ _ = WW at r0 r1 r2 s0 s1 s2 HB HK ⊢
   have hI6 : IsM w6 (.agg #[.int .i64 ((c - k : Nat) : Int), .int .i64 c, .slice (some ⟨g6, 0, none⟩) ((c - k) * c) ((c - k) * c)]) (c - k) c ks 4000 := ⟨by omega, hc, _, rfl, hG6⟩
   have hfs := FlipOf.uniq ⟨hI5.lng, hf5⟩ (flipL_is 1 c _)
   refine bodyPost_ret (v := .tuple #[.agg #[.int .i64 c, .int .i64 1, .slice (some ⟨g5, 0, none⟩) c c], .agg #[.int .i64 ((c - k : Nat) : Int), .int .i64 c, .slice (some ⟨g6, 0, none⟩) ((c - k) * c) ((c - k) * c)], .bool true]) ?_ rfl ?_
   ·(simp [results, Tryz.results213, go_sem, Act.put, r0, r1, r2, s0, s1, s2]; done)
   ·exact ⟨c, 1, ((c - k : Nat) : Int), c, some ⟨g5, 0, none⟩, some ⟨g6, 0, none⟩, c, (c - k) * c, c, (c - k) * c, true, rfl, (by simpa using K4.out.1), ⟨_, _, _, _, _, K2.out.2.1.st, K2.out.2.1.inv⟩, (fun _ => ⟨fs, c - k, ks, ⟨k, pc, hs, us, ws, K2.out.2.1, hfs, rfl, hkc, hI6.lng, hk6⟩, rfl, rfl, rfl, rfl, (hI5.below hb56).keepT HK.out, (hI6.mono (by omega)).keepT HK.out⟩), HB.out⟩
end Go.Proofs.YtfjbijpagaipnaaGreatDoor
