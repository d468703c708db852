import Derived.Test.YtfjbijpagaipnabGreatDoorR24
import Derived.Test.YtfjbijpagaipnabGreatDoorR12
import Derived.Deep.RegionHeld3
import Derived.Test.YtfjbijpagaipnabGreatDoorR22
import Derived.Test.YtfjbijpagaipnabGreatDoorR03
namespace Go.Proofs.YtfjbijpagaipnabGreatDoor
open Go.RowKit
def ProdTo (r q c a e : Nat) (zs ys ms : List Int) : Prop := ∀ i j, i < r → j < c → (i < a ∨ (i = a ∧ j < e)) → ms.getD (i * c + j) 0 = dot (fun i j => zs.getD (i * q + j) 0) (fun i j => ys.getD (i * c + j) 0) i j q
theorem ProdTo.step {r q c a e : Nat} {zs ys ms : List Int} (h : ProdTo r q c a e zs ys ms) (hl : ms.length = r * c) (ha : a < r) (he : e < c) {z : Int} (hz : z = dot (fun i j => zs.getD (i * q + j) 0) (fun i j => ys.getD (i * c + j) 0) a e q) : ProdTo r q c a (e + 1) zs ys (ms.set (a * c + e) z) := by
 intro i j hi hj hd
 by_cases hij : i = a ∧ j = e
 ·obtain ⟨rfl, rfl⟩ := hij
  have : i * c + j < ms.length := by rw [hl]; exact idx_lt hi hj
  rw [← hz]
  simp [List.getD, this]
 ·have hne : a * c + e ≠ i * c + j := fun e' => by
   obtain ⟨h1, h2⟩ := idx_inj he hj e'
   exact hij ⟨h1.symm, h2.symm⟩
  rw [show (ms.set (a * c + e) z).getD (i * c + j) 0 = ms.getD (i * c + j) 0 from by simp [List.getD, List.getElem?_set_ne hne]]
  exact h i j hi hj (by omega)
theorem ProdTo.row {r q c a e : Nat} {zs ys ms : List Int} (h : ProdTo r q c a e zs ys ms) (he : c ≤ e) : ProdTo r q c (a + 1) 0 zs ys ms := fun i j hi hj hd => h i j hi hj (by omega)
def ProdOf (r q c : Nat) (zs ys ms : List Int) : Prop := ∀ i j, i < r → j < c → ms.getD (i * c + j) 0 = dot (fun i j => zs.getD (i * q + j) 0) (fun i j => ys.getD (i * c + j) 0) i j q
theorem set_rc (p g r c RC row col : Nat) (hRC : RC = r * c) (zs : List Int) (L : Nat) (x : Value) (z : Int) (w : World) (p0 : w.cell? ⟨p, 0, none⟩ = some (.int .i64 r)) (p1 : w.cell? ⟨p, 1, none⟩ = some (.int .i64 c))
 (p2 : w.cell? ⟨p, 2, none⟩ = some (.slice (some ⟨g, 0, none⟩) RC RC)) (hg : Grid w (.slice (some ⟨g, 0, none⟩) RC RC) RC zs L) (hx : IsI w x z L) (hr : r ≤ 99) (hc : c ≤ 99) (h1 : row < r) (h2 : col < c) :
 Calls Tryz.prog 92 #[.pointer (some ⟨p, 0, none⟩), .int .i64 row, .int .i64 col, x] w fun e w' => e = .returned (.tuple #[]) ∧ Grid w' (.slice (some ⟨g, 0, none⟩) RC RC) RC (zs.set (row * c + col) z) L ∧ w.grownBy w' (some g) ∧ KU w w' := by
 subst hRC
 exact set_in p g r c (r * c) row col zs L x z w p0 p1 p2 hg hx hr hc h1 h2
set_option maxRecDepth 100000 in
set_option maxHeartbeats 4000000 in
theorem gtimes_new (v u : Value) (r q c : Nat) (zs ys : List Int) (L : Nat) (w : World) (hm : IsM w v r q zs L) (hn : IsM w u q c ys L) (hL : L ≤ 200000000) :
 Calls Tryz.prog 86 #[v, u] w fun e w' => ∃ g ms, e = .returned (.agg #[.int .i64 r, .int .i64 c, .slice (some ⟨g, 0, none⟩) (r * c) (r * c)]) ∧ w.heap.size ≤ g ∧ Grid w' (.slice (some ⟨g, 0, none⟩) (r * c) (r * c)) (r * c) ms (L + L + 1 + q) ∧ ProdOf r q c zs ys ms ∧ Below w.heap.size w w' := by
 have HM := Hid.mk hm
 have HN := Hid.mk hn
 obtain ⟨hr, hq, sl, rfl, hg0⟩ := hm
 obtain ⟨ao, cap, rfl, -⟩ := hg0.shape
 obtain ⟨-, hc, sl', rfl, hg1⟩ := hn
 obtain ⟨bo, dap, rfl, -⟩ := hg1.shape
 clear hg0 hg1
 obtain ⟨N, hN⟩ : ∃ N, N = r * q := ⟨_, rfl⟩
 rw [← hN] at HM ⊢
 obtain ⟨M, hM⟩ : ∃ M, M = q * c := ⟨_, rfl⟩
 rw [← hM] at HN ⊢
 clear hN hM
 obtain ⟨RC, hRC⟩ : ∃ RC, RC = r * c := ⟨_, rfl⟩
 have HRC := Hid.mk hRC
 obtain ⟨W0, hW0⟩ : ∃ W0, W0 = ((w.alloc (.cells #[.int .i64 r, .int .i64 q, .slice ao N cap] 66)).alloc (.cells #[.int .i64 q, .int .i64 c, .slice bo M dap] 66)).alloc (.cells #[.int .i64 0, .int .i64 0, .slice none 0 0] 66) := ⟨_, rfl⟩
 have hz0 : W0.heap.size = w.heap.size + 3 := by rw [hW0]; simp
 have hm0 : Trio W0 w.heap.size (.int .i64 r) (.int .i64 q) (.slice ao N cap) := by
  rw [hW0]
  exact ⟨cell1 (cell1 (new_cell _ _ _ _ _ (by simp) rfl) _) _, cell1 (cell1 (new_cell _ _ _ _ _ (by simp) rfl) _) _, cell1 (cell1 (new_cell _ _ _ _ _ (by simp) rfl) _) _⟩
 have hn0 : Trio W0 (w.heap.size + 1) (.int .i64 q) (.int .i64 c) (.slice bo M dap) := by
  rw [hW0]
  exact ⟨cell1 (new_cell _ _ _ _ _ (by simp) rfl) _, cell1 (new_cell _ _ _ _ _ (by simp) rfl) _, cell1 (new_cell _ _ _ _ _ (by simp) rfl) _⟩
 have hr0 : W0.heap[w.heap.size + 2]? = some (.cells #[.int .i64 0, .int .i64 0, .slice none 0 0] 66 (0, 0)) := by
  rw [hW0]
  have := heap_alloc_new ((w.alloc (.cells #[.int .i64 r, .int .i64 q, .slice ao N cap] 66)).alloc (.cells #[.int .i64 q, .int .i64 c, .slice bo M dap] 66)) (.cells #[.int .i64 0, .int .i64 0, .slice none 0 0] 66)
  simpa using this
 have hb0 : Below w.heap.size w W0 := by
  rw [hW0]
  repeat (first | exact Below.refl _ _ | refine Below.alloc ?_ (by simp <;> omega) _)
 have F0 := Hid.mk (And.intro hm0 (And.intro hn0 (And.intro hr0 (And.intro hb0 (And.intro hz0 hW0)))))
 clear hm0 hn0 hr0 hb0 hz0 hW0 hRC
 go_enter Tryz.func86, Tryz.ntmps86
 go_wp2_with fail
 rw [← F0.out.2.2.2.2.2]
 refine (noughts_any r c _ hr hc).mono ?_
 rintro e w2 ⟨g, rfl, hgn, hg, hb⟩
 rw [← HRC.out] at hg ⊢
 have hz0 := F0.out.2.2.2.2.1
 have hbw : Below w.heap.size w w2 := F0.out.2.2.2.1.trans (hb.mono (by omega))
 have hgl : g < w2.heap.size := hg.ty.lt
 have hw2 := hb.size
 have F2 := Hid.mk (And.intro hg (And.intro hb hbw))
 clear hg hb hbw
 go_wp2_with fail
 obtain ⟨W3, hW3⟩ : ∃ W3, W3 = w2.alloc (.cells #[.int .i64 r, .int .i64 c, .slice (some ⟨g, 0, none⟩) RC RC] 66) := ⟨_, rfl⟩
 rw [← hW3]
 have hb23 : Below w2.heap.size w2 W3 := by rw [hW3]; exact (Below.refl _ _).alloc (Nat.le_refl _) _
 have hm3 : Trio W3 w.heap.size (.int .i64 r) (.int .i64 q) (.slice ao N cap) := (F0.out.1.later F2.out.2.1).later hb23
 have hn3 : Trio W3 (w.heap.size + 1) (.int .i64 q) (.int .i64 c) (.slice bo M dap) := (F0.out.2.1.later F2.out.2.1).later hb23
 have hp3 : Trio W3 w2.heap.size (.int .i64 r) (.int .i64 c) (.slice (some ⟨g, 0, none⟩) RC RC) := by
  rw [hW3]
  exact ⟨new_cell _ _ _ _ _ rfl rfl, new_cell _ _ _ _ _ rfl rfl, new_cell _ _ _ _ _ rfl rfl⟩
 have hres : W3.heap[w.heap.size + 2]? = some (.cells #[.int .i64 0, .int .i64 0, .slice none 0 0] 66 (0, 0)) := by
  rw [hb23.block _ (by omega), F2.out.2.1.block _ (by omega)]
  exact F0.out.2.2.1
 have hG3 : Grid W3 (.slice (some ⟨g, 0, none⟩) RC RC) RC (List.replicate RC 0) (L + L + 1 + q) := (F2.out.1.mono (Nat.zero_le _)).below hb23
 have hS : W3.heap.size = w2.heap.size + 1 := by rw [hW3]; simp
 have hB3 : Below w.heap.size w W3 := F2.out.2.2.trans (hb23.mono (by omega))
 have F3 := Hid.mk (And.intro hm3 (And.intro hn3 (And.intro hp3 (And.intro hres (And.intro hG3 (And.intro hS hB3))))))
 clear hm3 hn3 hp3 hres hG3 hB3 hW3 hb23
 go_loopw [6] (fun i wr => ∃ (a : Nat) (ms : List Int), a ≤ r ∧ i = .int .i64 a ∧ Grid wr (.slice (some ⟨g, 0, none⟩) RC RC) RC ms (L + L + 1 + q) ∧ W3.grownBy wr (some g) ∧ Below w.heap.size w wr ∧ Hid (ProdTo r q c a 0 zs ys ms)) (fun i _ => r - (intOf i).toNat)
 case atStart => exact ⟨0, _, Nat.zero_le _, rfl, F3.out.2.2.2.2.1, World.grownBy.refl _ _, F3.out.2.2.2.2.2.2, Hid.mk (fun i j _ _ hd => by omega)⟩
 case round =>
  obtain ⟨a, ms, ha, rfl, hG, hgr, hB, HI⟩ := hrel
  obtain ⟨q0, q1, q2⟩ := F3.out.1.grown hgr (by omega)
  have K := Hid.mk (And.intro hG (And.intro hgr hB))
  clear hG hgr hB
  by_cases har : a < r
  ·have hai : (a : Int) < (r : Int) := by omega
   go_wp2_with fail
   go_loopw [7] (fun i ws => ∃ (e : Nat) (ms : List Int), e ≤ c ∧ i = .int .i64 e ∧ Grid ws (.slice (some ⟨g, 0, none⟩) RC RC) RC ms (L + L + 1 + q) ∧ W3.grownBy ws (some g) ∧ Below w.heap.size w ws ∧ Hid (ProdTo r q c a e zs ys ms)) (fun i _ => c - (intOf i).toNat)
   case atStart => exact ⟨0, ms, Nat.zero_le _, rfl, K.out.1, K.out.2.1, K.out.2.2, HI⟩
   case round =>
    rename World => ws
    clear q0 q1 q2
    obtain ⟨e, ms, he, rfl, hG, hgr, hB, HI2⟩ := hrel
    obtain ⟨q0, q1, q2⟩ := F3.out.1.grown hgr (by omega)
    obtain ⟨p0, p1, p2⟩ := F3.out.2.1.grown hgr (by omega)
    have hwr := hB.size
    have K2 := Hid.mk (And.intro hG (And.intro hgr hB))
    clear hG hgr hB
    by_cases hec : e < c
    ·have hei : (e : Int) < (c : Int) := by omega
     go_wp2_with fail
     refine (dotm_any _ _ r q c a e zs ys L _ (HM.out.below K2.out.2.2) (HN.out.below K2.out.2.2) har hec hL).mono ?_
     rintro e9 w4 ⟨x, rfl, hx, hb4⟩
     obtain ⟨nb, so, n, ecap, rfl⟩ := hx.shape
     have hw4 := hb4.size
     have W5b := (Below.refl w4.heap.size w4).alloc (Nat.le_refl _) (.cells #[.bool nb, .slice so n ecap] 79)
     have hbA : Below ws.heap.size ws (w4.alloc (.cells #[.bool nb, .slice so n ecap] 79)) := hb4.trans (W5b.mono hw4)
     have hgrA := grown_below K2.out.2.1 hbA
     obtain ⟨s0, s1, s2⟩ := F3.out.2.2.1.grown hgrA (by omega)
     have K4 := Hid.mk (And.intro (And.intro s0 (And.intro s1 s2)) (And.intro (K2.out.1.below hbA) (And.intro (hx.below W5b) (And.intro hgrA (K2.out.2.2.trans (hbA.mono hwr))))))
     clear hx hb4 W5b hbA hgrA q0 q1 q2 p0 p1 p2
     go_wp2_with fail
     refine (set_rc w2.heap.size g r c RC a e HRC.out ms (L + L + 1 + q) _ _ _ K4.out.1.1 K4.out.1.2.1 K4.out.1.2.2 K4.out.2.1 K4.out.2.2.1 (by omega) (by omega) (by omega) (by omega)).mono ?_
     rintro e9 w6 ⟨rfl, a1, a2, -⟩
     have K6 := Hid.mk (And.intro a1 (And.intro (grown_trans K4.out.2.2.2.1 a2) (K4.out.2.2.2.2.grown a2 (by simp; omega) (fun j hj => by simp at hj; omega))))
     clear a1 a2 s0 s1 s2
     go_wp2_with fail
     go_roundw
     case measure => simp [intOf]; omega
     case rel =>
      refine ⟨e + 1, _, by omega, by go_num, K6.out.1, K6.out.2.1, K6.out.2.2, Hid.mk (HI2.out.step ?_ har hec rfl)⟩
      rw [← HRC.out]
      exact K2.out.1.1
    ·go_wp2_with fail
     go_roundw
     case measure => simp [intOf]; omega
     case rel => exact ⟨a + 1, ms, by omega, by go_num, K2.out.1, K2.out.2.1, K2.out.2.2, Hid.mk (HI2.out.row (by omega))⟩
  ·obtain ⟨s0, s1, s2⟩ := F3.out.2.2.1.grown K.out.2.1 (by omega)
   have hres : wr.heap[w.heap.size + 2]? = some (.cells #[.int .i64 0, .int .i64 0, .slice none 0 0] 66 (0, 0)) := by
    rw [K.out.2.1.block _ (by have := F3.out.2.2.2.2.2.1; omega) (by simp; omega)]; exact F3.out.2.2.2.1
   have r0 : wr.cell? ⟨w.heap.size + 1 + 1, 0, none⟩ = some (.int .i64 0) := by simp [World.cell?, hres]
   have r1 : wr.cell? ⟨w.heap.size + 1 + 1, 1, none⟩ = some (.int .i64 0) := by simp [World.cell?, hres]
   have r2 : wr.cell? ⟨w.heap.size + 1 + 1, 2, none⟩ = some (.slice none 0 0) := by simp [World.cell?, hres]
   have z0 : wr.frozen? ⟨w.heap.size + 1 + 1, 0, none⟩ = false := by simp [World.frozen?, hres]
   have z1 : wr.frozen? ⟨w.heap.size + 1 + 1, 1, none⟩ = false := by simp [World.frozen?, hres]
   have z2 : wr.frozen? ⟨w.heap.size + 1 + 1, 2, none⟩ = false := by simp [World.frozen?, hres]
   have HT : Hid (Ty wr (w.heap.size + 1 + 1) 66) := Hid.mk ⟨_, _, hres⟩
   clear hres
   go_wp2_with fail
   refine bodyPost_ret (v := .agg #[.int .i64 r, .int .i64 c, .slice (some ⟨g, 0, none⟩) RC RC]) ?_ rfl ?_
   ·(simp [results, Tryz.results86, go_sem, r0, r1, r2]; done)
   ·refine ⟨g, ms, by rw [← HRC.out], by omega, ?_, fun i j hi hj => HI.out i j hi hj (.inl (by omega)), ((K.out.2.2.setCell (by simp; omega) _).setCell (by simp; omega) _).setCell (by simp; omega) _⟩
    have hG := K.out.1.keep (KT.setCell (KT.setCell (KT.setCell (KT.refl _) HT.out (by decide) (by decide) (.int .i64 r)) (HT.out.setCell ⟨w.heap.size + 1 + 1, 0, none⟩ (.int .i64 r)) (by decide) (by decide) (.int .i64 c)) ((HT.out.setCell ⟨w.heap.size + 1 + 1, 0, none⟩ (.int .i64 r)).setCell ⟨w.heap.size + 1 + 1, 1, none⟩ (.int .i64 c)) (by decide) (by decide) (.slice (some ⟨g, 0, none⟩) RC RC) (o := 2))
    rw [← HRC.out]
    exact hG
theorem gtimes_any (v u : Value) (r q c : Nat) (zs ys : List Int) (L : Nat) (w : World) (hm : IsM w v r q zs L) (hn : IsM w u q c ys L) (hL : L ≤ 200000000) :
 Calls Tryz.prog 86 #[v, u] w fun e w' => ∃ x, e = .returned x ∧ (∃ ms, IsM w' x r c ms (L + L + 1 + q) ∧ ProdOf r q c zs ys ms) ∧ Below w.heap.size w w' := by
 refine (gtimes_new v u r q c zs ys L w hm hn hL).mono ?_
 rintro e w' ⟨g, ms, rfl, -, hG, hP, hb⟩
 exact ⟨_, rfl, ⟨ms, ⟨hm.1, hn.2.1, _, rfl, hG⟩, hP⟩, hb⟩
open Go.RowKit
theorem IsI.tight {w : World} {v : Value} {z : Int} {L : Nat} (h : IsI w v z L) (hz : z.natAbs < 281474976710656) : IsI w v z 2 := by
 obtain ⟨sl, xs, h1, h2, h3, h4, h5⟩ := h
 refine ⟨sl, xs, h1, h2, h3, ?_, h5⟩
 rcases Nat.lt_or_ge 2 xs.length with h6 | h6
 ·exfalso
  have h7 := Lim_ge h2 (by intro e; rw [e] at h6; simp at h6)
  have h8 : 4294967296 ^ 2 ≤ 4294967296 ^ (xs.length - 1) := Nat.pow_le_pow_right (by decide) (by omega)
  omega
 ·exact h6
theorem IsM.tight {w : World} {v : Value} {r c L : Nat} {zs : List Int} (h : IsM w v r c zs L) (hf : FitsP r c zs) : IsM w v r c zs 2 := by
 obtain ⟨h1, h2, sl, h3, h4, cs, h5, h6⟩ := h
 refine ⟨h1, h2, sl, h3, h4, cs, h5, fun i hi => ?_⟩
 obtain ⟨a, b, e1, e2, e3⟩ := h6 i hi
 exact ⟨a, b, e1, e2, e3.tight (hf.2.2 i hi)⟩
open Go.RowKit R
def FindL (es : List Ent) (h : Int) (v : Value) : Prop := (v = .pointer none ∧ ∀ e ∈ es, ((e.1 : Nat) : Int) ≠ h) ∨ ∃ e ∈ es, ((e.1 : Nat) : Int) = h ∧ v = .pointer (some ⟨e.2.2, 0, none⟩)
theorem LInv.lcells {B : Nat} {w : World} {W T b1 b2 : Nat} {ms : List Hm} {nx : Nat} {es : List Ent} (h : LInv B w W T b1 b2 ms nx es) : ∃ ioa icap loa lcap tv, w.cell? ⟨W, 0, none⟩ = some (.pointer (some ⟨T, 0, none⟩)) ∧ w.cell? ⟨W, 1, none⟩ = some (.slice ioa es.length icap) ∧ w.cell? ⟨W, 2, none⟩ = some (.slice loa es.length lcap) ∧ w.cell? ⟨W, 3, none⟩ = some tv ∧
 es.length ≤ icap ∧ icap ≤ 9223372036854775807 ∧ es.length ≤ lcap ∧ lcap ≤ 9223372036854775807 ∧ (∀ i (hi : i < es.length), (∃ g, ioa = some ⟨g, 0, none⟩ ∧ w.cell? ⟨g, i, none⟩ = some (.int .i64 ((es[i].1 : Nat) : Int))) ∧ (∃ g, loa = some ⟨g, 0, none⟩ ∧ w.cell? ⟨g, i, none⟩ = some (.pointer (some ⟨es[i].2.2, 0, none⟩)))) := by
 obtain ⟨-, ⟨hv, iv, lv, tv, h2, h3, h4, h5, -⟩, -⟩ := h
 obtain ⟨ioa, icap, rfl, a1, a2, -, a3⟩ := h3.shape
 obtain ⟨loa, lcap, rfl, d1, d2, -, d3⟩ := h4.shape
 rw [idc_len] at a1 a3 h2
 rw [lpc_len] at d1 d3 h2
 obtain ⟨c0, c1, c2, c3, c4, c5, -⟩ := h2.cells
 refine ⟨ioa, icap, loa, lcap, tv, c0, c1, c2, c3, a1, a2, d1, d2, fun i hi => ⟨?_, ?_⟩⟩
 ·obtain ⟨g, e1, e2⟩ := a3 i hi
  exact ⟨g, e1, by rw [e2, idc_at es i hi]⟩
 ·obtain ⟨g, e1, e2⟩ := d3 i hi
  exact ⟨g, e1, by rw [e2]; simp [lpc, hi]⟩
set_option maxRecDepth 100000 in
set_option maxHeartbeats 2000000 in
theorem lfind_any (B W T b1 b2 : Nat) (ms : List Hm) (nx : Nat) (es : List Ent) (h : Int) (w : World) (hI : LInv B w W T b1 b2 ms nx es) :
 Calls Tryz.prog 202 #[.pointer (some ⟨W, 0, none⟩), .int .i64 h] w fun x w' => (∃ v, x = .returned v ∧ FindL es h v) ∧ Below w.heap.size w w' := by
 have hle := hI.le24
 obtain ⟨ioa, icap, loa, lcap, tv, c0, c1, c2, c3, a1, a2, d1, d2, a3⟩ := hI.lcells
 have HA := Hid.mk a3
 clear hI a3
 go_enter Tryz.func202, Tryz.ntmps202
 go_wp2_with fail
 go_loopw [5] (fun i wr => ∃ k : Nat, k ≤ es.length ∧ i = .int .i64 k ∧ Below w.heap.size w wr ∧ Hid (∀ i (hi : i < es.length), i < k → ((es[i].1 : Nat) : Int) ≠ h)) (fun i _ => es.length - (intOf i).toNat)
 case atStart => exact ⟨0, Nat.zero_le _, rfl, Below.refl _ _, Hid.mk (fun i _ hi => by omega)⟩
 case round =>
  obtain ⟨k, hk, rfl, hbel, HI⟩ := hrel
  have e1 := cell_later hbel c1
  have e2 := cell_later hbel c2
  have hwr := hbel.size
  have K := Hid.mk hbel
  clear hbel
  by_cases hkl : k < es.length
  ·obtain ⟨⟨gi, rfl, f1⟩, ⟨gl, rfl, f2⟩⟩ := HA.out k hkl
   obtain ⟨hd, hhd⟩ : ∃ hd, hd = es[k].1 := ⟨_, rfl⟩
   obtain ⟨pp, hpp⟩ : ∃ pp, pp = es[k].2.2 := ⟨_, rfl⟩
   rw [← hhd] at f1
   rw [← hpp] at f2
   have f1' := cell_later K.out f1
   have f2' := cell_later K.out f2
   have HD := Hid.mk (And.intro hhd hpp)
   have hki : (k : Int) < (es.length : Int) := by omega
   clear hhd hpp f1 f2
   by_cases hdh : (hd : Int) = h
   ·have hb : ((hd : Int) == h) = true := beq_iff_eq.2 hdh
    have HDH := Hid.mk hdh
    clear hdh
    go_wp2_with fail
    try go_quiet (fail)
    try go_wp2_with fail
    go_ret
    refine ⟨⟨_, rfl, .inr ⟨es[k], List.getElem_mem hkl, ?_, ?_⟩⟩, ?_⟩
    ·rw [← HD.out.1]; exact HDH.out
    ·rw [← HD.out.2]; rfl
    ·first | exact K.out | exact below_drewN K.out _
   ·have hb : ((hd : Int) == h) = false := beq_eq_false_iff_ne.2 hdh
    have HDH := Hid.mk hdh
    clear hdh
    go_wp2_with fail
    try go_quiet (fail)
    try go_wp2_with fail
    go_roundw
    case measure => simp [intOf]; omega
    case rel =>
     refine ⟨k + 1, by omega, by go_num, by first | exact K.out | exact below_drewN K.out _, Hid.mk (fun i hi hik => ?_)⟩
     by_cases hik' : i = k
     ·subst hik'
      rw [← HD.out.1]; exact HDH.out
     ·exact HI.out i hi (by omega)
  ·go_wp2_with fail
   try go_quiet (fail)
   try go_wp2_with fail
   go_ret
   refine ⟨⟨_, rfl, .inl ⟨rfl, fun e he => ?_⟩⟩, by first | exact K.out | exact below_drewN K.out _⟩
   obtain ⟨i, hi, rfl⟩ := List.mem_iff_getElem.1 he
   exact HI.out i hi (by omega)
theorem fine_eq {r c r' c' : Nat} {zs zs' : List Int} (h : Fine r c zs) (h' : Fine r' c' zs') (he : matT r c zs = matT r' c' zs') : r = r' ∧ c = c' ∧ zs = zs' := by
 obtain ⟨rfl, rfl, hz⟩ := fine_uniq h h' he
 refine ⟨rfl, rfl, List.ext_getElem (by rw [h.2.2.1, h'.2.2.1]) (fun t h1 h2 => ?_)⟩
 have ht : t < r * c := by have := h.2.2.1; omega
 have hc : 0 < c := by
  rcases Nat.eq_zero_or_pos c with h0 | h0
  ·subst h0; rw [Nat.mul_zero] at ht; omega
  ·exact h0
 have h3 : t / c < r := by rw [Nat.div_lt_iff_lt_mul hc]; exact ht
 have h4 := Nat.mod_lt t hc
 have h5 : t / c * c + t % c = t := by rw [Nat.mul_comm]; exact Nat.div_add_mod t c
 have h6 := hz (t / c) (t % c) h3 h4
 unfold fz at h6
 rw [h5] at h6
 simpa [List.getD, List.getElem?_eq_getElem h1, List.getElem?_eq_getElem h2] using h6
theorem held_side {w : World} {b : Nat} {ms : List Hm} {nx k hd r c : Nat} {zs : List Int} (h : Held w b ms nx) (hk : k < 24) (hx : ms.getD k none = some (hd, r, c, zs)) : r ≤ 99 ∧ c ≤ 99 ∧ zs.length = r * c := by
 obtain ⟨-, -, sl, -, hsl⟩ := h
 have h1 := hsl k hk
 rw [hx] at h1
 cases hs : sl.getD k none with
 | none => rw [hs] at h1; exact h1.elim
 | some y =>
   rw [hs] at h1
   obtain ⟨-, -, -, h2, h3, s, -, h4⟩ := h1
   exact ⟨h2, h3, h4.1⟩
theorem LInv.entry {B : Nat} {w : World} {W T b1 b2 : Nat} {ms : List Hm} {nx : Nat} {es : List Ent} (h : LInv B w W T b1 b2 ms nx es) {e : Ent} (he : e ∈ es) {k hd r c : Nat} {zs : List Int} (hk : k < 24) (hx : ms.getD k none = some (hd, r, c, zs)) (hh : e.1 = hd) : e.2.1 = matT r c zs ∧ Fine r c zs ∧ ∃ lo hi, MatAt w lo hi e.2.2 r c (fz c zs) := by
 obtain ⟨hT, ⟨hv, iv, lv, tv, -, -, -, -, -, hM, -⟩, hR⟩ := h
 obtain ⟨r1, c1, zs1, lo, hi, h1, h2, h3, -⟩ := hM e he
 obtain ⟨k2, x, hk2, hx2, h4, h5⟩ := hR.has e he
 have hkk : k2 = k := hR.dst k2 k x _ hk2 hk hx2 hx (by rw [h4, hh])
 subst hkk
 rw [hx] at hx2
 injection hx2 with hx2
 subst hx2
 obtain ⟨s1, s2, s3⟩ := held_side hT.2.1 hk hx
 have hf : Fine r c zs := ⟨s1, s2, s3, by rw [← h5, h1]; exact h2.2.2.2⟩
 obtain ⟨rfl, rfl, rfl⟩ := fine_eq h2 hf (by rw [← h1, h5])
 exact ⟨h5, hf, lo, hi, h3⟩
theorem LInv.ent_of {B : Nat} {w : World} {W T b1 b2 : Nat} {ms : List Hm} {nx : Nat} {es : List Ent} (h : LInv B w W T b1 b2 ms nx es) {e : Ent} (he : e ∈ es) : ∃ k r c zs, k < 24 ∧ ms.getD k none = some (e.1, r, c, zs) := by
 obtain ⟨k, x, hk, hx, h4, -⟩ := h.2.2.has e he
 obtain ⟨hd, r, c, zs⟩ := x
 simp only at h4
 subst h4
 exact ⟨k, r, c, zs, hk, hx⟩
open Go.RowKit
def ff (ms : List Hm) : Nat := ms.findIdx Option.isNone
def put1 (ms : List Hm) (nx : Nat) (x : Nat × Nat × List Int) : List Hm := ms.set (ff ms) (some (nx, x))
def puts (ms : List Hm) (nx : Nat) : List (Nat × Nat × List Int) → List Hm
 | [] => ms
 | x :: xs => puts (put1 ms nx x) (nx + 1) xs
theorem puts_snoc (x : Nat × Nat × List Int) : ∀ xs ms nx, puts ms nx (xs ++ [x]) = put1 (puts ms nx xs) (nx + xs.length) x := by
 intro xs
 induction xs with
 | nil => intro ms nx; rfl
 | cons y ys ih =>
   intro ms nx
   rw [List.cons_append, puts, ih, puts, List.length_cons, show nx + 1 + ys.length = nx + (ys.length + 1) from by omega]
theorem puts_len : ∀ xs ms nx, (puts ms nx xs).length = ms.length := by
 intro xs
 induction xs with
 | nil => intro ms nx; rfl
 | cons y ys ih => intro ms nx; rw [puts, ih]; simp [put1]
theorem ff_free {ms : List Hm} (hm : ms.length = 24) (hr : 0 < ms.countP Option.isNone) : FreeAt ms (ff ms) := by
 have h1 : ff ms < ms.length := List.findIdx_lt_length_of_exists (List.countP_pos_iff.1 hr)
 have h2 : (ms[ff ms]).isNone = true := List.findIdx_getElem (w := h1)
 refine ⟨by omega, ?_, fun j hj h => ?_⟩
 ·rw [List.getD, List.getElem?_eq_getElem h1]
  simpa using h2
 ·have h3 := List.not_of_lt_findIdx (show j < ms.findIdx Option.isNone from hj)
  rw [List.getD, List.getElem?_eq_getElem (by omega)] at h
  simp at h
  simp [h] at h3
theorem put1_room {ms : List Hm} (hm : ms.length = 24) (hr : 0 < ms.countP Option.isNone) (nx : Nat) (x : Nat × Nat × List Int) : (put1 ms nx x).countP Option.isNone + 1 = ms.countP Option.isNone := by
 have hf := ff_free hm hr
 have h1 : ff ms < ms.length := by have := hf.1; omega
 have h2 : ms[ff ms] = none := by have := hf.2.1; rw [List.getD, List.getElem?_eq_getElem h1] at this; simpa using this
 unfold put1
 rw [List.countP_set h1, h2]
 simp
 omega
theorem puts_room : ∀ xs ms nx, ms.length = 24 → xs.length ≤ ms.countP Option.isNone → (puts ms nx xs).countP Option.isNone + xs.length = ms.countP Option.isNone := by
 intro xs
 induction xs with
 | nil => intro ms nx _ _; rfl
 | cons y ys ih =>
   intro ms nx hm hl
   rw [List.length_cons] at hl
   have h1 := put1_room hm (by omega) nx y
   have h2 := ih (put1 ms nx y) (nx + 1) (by simp [put1, hm]) (by omega)
   rw [puts, List.length_cons]
   omega
def MRow (w : World) (g : Nat) (xs : List (Nat × Nat × List Int)) : Prop := ∀ j, j < xs.length → ∃ ao m cap, w.cell? ⟨g, j * 3, none⟩ = some (.int .i64 ((xs.getD j (0, 0, [])).1 : Nat)) ∧ w.cell? ⟨g, j * 3 + 1, none⟩ = some (.int .i64 ((xs.getD j (0, 0, [])).2.1 : Nat)) ∧ w.cell? ⟨g, j * 3 + 2, none⟩ = some (.slice ao m cap) ∧
 IsM w (.agg #[.int .i64 ((xs.getD j (0, 0, [])).1 : Nat), .int .i64 ((xs.getD j (0, 0, [])).2.1 : Nat), .slice ao m cap]) (xs.getD j (0, 0, [])).1 (xs.getD j (0, 0, [])).2.1 (xs.getD j (0, 0, [])).2.2 200000000
theorem R.Own.of_block {w w' : World} {v : Value} {xs : List Nat} (h : R.Own w v xs) (hb : ∀ g, v.ownBlock = some g → w'.heap[g]? = w.heap[g]?) : R.Own w' v xs := by
 obtain ⟨h1, h2⟩ := h
 refine ⟨h1, ?_⟩
 rcases h2 with h3 | ⟨g, cap, cur, hv, hg, hh, r⟩
 ·exact .inl h3
 ·exact .inr ⟨g, cap, cur, hv, hg, by rw [hb g (by rw [hv]; rfl)]; exact hh, r⟩
theorem R.Own.ty_ {w : World} {g n cap : Nat} {xs : List Nat} (h : R.Own w (.slice (some ⟨g, 0, none⟩) n cap) xs) : Ty w g 3 := by
 obtain ⟨h1, h2⟩ := h
 rcases h2 with ⟨h3, _⟩ | ⟨g', cap', cur, hv, hg, hh, r⟩
 ·simp at h3
 ·simp only [Value.slice.injEq, Option.some.injEq, Addr.mk.injEq] at hv
  obtain ⟨⟨rfl, _⟩, _⟩ := hv
  exact ⟨_, _, hh⟩
theorem cell_block {w w' : World} {g : Nat} (h : w'.heap[g]? = w.heap[g]?) (o : Nat) : w'.cell? ⟨g, o, none⟩ = w.cell? ⟨g, o, none⟩ := by simp only [World.cell?, h]
theorem MRow.fr {w w' : World} {g b : Nat} {xs : List (Nat × Nat × List Int)} (h : MRow w g xs) (hf : Fr b w w') (hg : g < w.heap.size) (hgb : g ≠ b) : MRow w' g xs := by
 intro j hj
 obtain ⟨ao, m, cap, h1, h2, h3, h4⟩ := h j hj
 have hb : w'.heap[g]? = w.heap[g]? := hf.1.block g hg (fun e => hgb (by injection e))
 exact ⟨ao, m, cap, by rw [cell_block hb]; exact h1, by rw [cell_block hb]; exact h2, by rw [cell_block hb]; exact h3, h4.keepT hf.2⟩
def KeptAll (w w' : World) (b nx n : Nat) (ms : List Hm) (xs : List (Nat × Nat × List Int)) (v : Value) : Prop := ∃ hb zs, v = .slice (some ⟨hb, 0, none⟩) n n ∧ w.heap.size ≤ hb ∧ zs.length = n ∧ (∀ j, j < n → zs.getD j 0 = nx + j) ∧ R.Own w' v zs ∧ Held w' b (puts ms nx xs) (nx + n) ∧ Fr b w w'
set_option maxRecDepth 100000 in
set_option maxHeartbeats 4000000 in
theorem keepAll_held (b g n cap : Nat) (xs : List (Nat × Nat × List Int)) (ms : List Hm) (nx : Nat) (w : World) (hst : Held w b ms nx) (hrow : MRow w g xs) (hn : xs.length = n) (hn5 : n ≤ 5) (hg : g < w.heap.size) (hgb : g ≠ b) (hroom : n ≤ ms.countP Option.isNone) (hnx : nx < 1000000 - 5) :
 Calls Tryz.prog 53 #[.pointer (some ⟨b, 0, none⟩), .slice (some ⟨g, 0, none⟩) n cap] w fun e w' => ∃ v, e = .returned v ∧ KeptAll w w' b nx n ms xs v := by
 have H := Hid.mk (And.intro hst (And.intro hrow (And.intro hn (And.intro hgb hroom))))
 have hbl := hst.lt
 clear hst hrow hn hroom
 go_enter Tryz.func53, Tryz.ntmps53
 go_wp2_with (refine R.make_digits _ rfl _ _ rfl _ _ n rfl rfl (by omega) (by omega) (by omega) ?_)
 intro w1 hown hbel
 obtain ⟨hb, hhb⟩ : ∃ hb, hb = w.heap.size := ⟨_, rfl⟩
 rw [← hhb] at hown ⊢
 have K0 := Hid.mk (And.intro hown (And.intro hbel hhb))
 clear hown hbel hhb
 go_wp2_with fail
 go_loopw [6] (fun i wr => ∃ (k : Nat) (zs : List Nat), k ≤ n ∧ i = .int .i64 k ∧ Hid (zs.length = n) ∧ R.Own wr (.slice (some ⟨hb, 0, none⟩) n n) zs ∧ Held wr b (puts ms nx (xs.take k)) (nx + k) ∧ Fr b w wr ∧ MRow wr g xs ∧ Hid (∀ j, j < k → zs.getD j 0 = nx + j)) (fun i _ => n - (intOf i).toNat)
 case atStart => exact ⟨0, _, Nat.zero_le _, rfl, Hid.mk List.length_replicate, K0.out.1, H.out.1.below K0.out.2.1, Fr.of_below K0.out.2.1, H.out.2.1.fr (Fr.of_below K0.out.2.1) hg hgb, Hid.mk (fun j hj => by omega)⟩
 case round =>
  obtain ⟨k, zs, hk, rfl, HZ, hown, hheld, hfr, hrow, HI⟩ := hrel
  have hwr : w.heap.size ≤ wr.heap.size := hfr.1.size
  by_cases hkn : k < n
  ·obtain ⟨ao, m, ecap, c1, c2, c3, hM⟩ := hrow k (by rw [H.out.2.2.1]; exact hkn)
   have hob := hown.lt
   obtain ⟨x, hx⟩ : ∃ x, x = xs.getD k (0, 0, []) := ⟨_, rfl⟩
   rw [← hx] at c1 c2 hM
   have htl : (xs.take k).length = k := by have := H.out.2.2.1; simp; omega
   have hfree := ff_free (ms := puts ms nx (xs.take k)) (by rw [puts_len]; exact H.out.1.1) (by
    have h1 := puts_room (xs.take k) ms nx H.out.1.1 (by have := H.out.2.2.2.2; omega)
    have := H.out.2.2.2.2
    omega)
   clear htl
   obtain ⟨xr, xc, xz⟩ := x
   have K := Hid.mk (And.intro hown (And.intro hheld (And.intro hfr (And.intro hrow (And.intro hM (And.intro hfree hx))))))
   have hki : (k : Int) < (n : Int) := by omega
   clear hown hheld hfr hrow hM hfree hx
   go_wp2_with fail
   refine (keep_held b xr xc ao m ecap xz _ _ _ _ K.out.2.1 K.out.2.2.2.2.1 K.out.2.2.2.2.2.1 (by omega)).mono ?_
   rintro e w2 ⟨rfl, hH2, hF2⟩
   have hne : hb ≠ b := by rw [K0.out.2.2]; omega
   have hown2 : R.Own w2 (.slice (some ⟨hb, 0, none⟩) n n) zs := K.out.1.of_block (fun g' hg' => by
    simp [Value.ownBlock] at hg'
    subst hg'
    exact hF2.1.block hb hob (fun e => hne (by injection e)))
   have d1 := hown2.frozen HZ.out k
   have d2 := hown2.cell HZ.out k hkn
   have K2 := Hid.mk (And.intro hown2 (And.intro hH2 (K.out.2.2.1.trans hF2)))
   clear hown2 hH2 hF2 c1 c2 c3
   go_wp2_with fail
   go_roundw
   case measure => simp [intOf]; omega
   case rel =>
    obtain ⟨e1, e2, e3⟩ := K2.out
    have hgl : g < w2.heap.size := by have := e3.1.size; omega
    have hty : Ty w2 hb 3 := R.Own.ty_ e1
    have hfn : Fr hb w2 (w2.setCell ⟨hb, k, none⟩ (.int .i64 ((nx + k : Nat) : Int))) := (Fr.refl hb w2).setOwn hty (by decide) (by decide) _
    have hgh : g ≠ hb := by rw [K0.out.2.2]; omega
    refine ⟨k + 1, zs.set k (nx + k), by omega, by go_num, Hid.mk (by simp [HZ.out]), e1.stored_int HZ.out k _ (by omega), ?_, e3.setNew (by rw [K0.out.2.2]; exact Nat.le_refl _) _, (H.out.2.1.fr e3 hg hgb).fr hfn hgl hgh, Hid.mk (fun j hj => ?_)⟩
    ·have h1 : puts ms nx (xs.take (k + 1)) = put1 (puts ms nx (xs.take k)) (nx + k) (xr, xc, xz) := by
      have h2 : xs.take (k + 1) = xs.take k ++ [(xr, xc, xz)] := by
       rw [K.out.2.2.2.2.2.2, List.take_add_one, List.getD, List.getElem?_eq_getElem (by have := H.out.2.2.1; omega)]; rfl
      rw [h2, puts_snoc, show (xs.take k).length = k from by have := H.out.2.2.1; simp; omega]
     rw [h1]
     exact e2.fr hfn hne.symm
    ·by_cases hjk : j = k
     ·subst hjk; simp [List.getD, show j < zs.length by rw [HZ.out]; exact hkn]
     ·rw [List.getD, List.getElem?_set_ne (fun e => hjk e.symm)]; exact HI.out j (by omega)
  ·have hkn' : k = n := by omega
   subst hkn'
   have hki : ¬ (k : Int) < (k : Int) := by omega
   have K := Hid.mk (And.intro hown (And.intro hheld hfr))
   clear hown hheld hfr hrow
   go_wp2_with fail
   go_ret
   refine ⟨_, rfl, hb, zs, rfl, by rw [K0.out.2.2]; exact Nat.le_refl _, HZ.out, HI.out, K.out.1, ?_, K.out.2.2⟩
   have := K.out.2.1
   rw [List.take_of_length_le (by have := H.out.2.2.1; omega)] at this
   exact this
open Go.RowKit
def Tri (w : World) (b o : Nat) (x y z : Value) : Prop := w.cell? ⟨b, o, none⟩ = some x ∧ w.cell? ⟨b, o + 1, none⟩ = some y ∧ w.cell? ⟨b, o + 2, none⟩ = some z
theorem Tri.later {w w' : World} {b o : Nat} {x y z : Value} (h : Tri w b o x y z) (hb : Below w.heap.size w w') : Tri w' b o x y z := ⟨cell_later hb h.1, cell_later hb h.2.1, cell_later hb h.2.2⟩
theorem Tri.grown {w w' : World} {b o s : Nat} {x y z : Value} (h : Tri w b o x y z) (hg : w.grownBy w' (some s)) (hne : b ≠ s) : Tri w' b o x y z := ⟨hg.cell h.1 (by simpa using hne), hg.cell h.2.1 (by simpa using hne), hg.cell h.2.2 (by simpa using hne)⟩
set_option maxRecDepth 100000 in
set_option maxHeartbeats 2000000 in
theorem set_o (p o g r c cap row col : Nat) (zs : List Int) (L : Nat) (x : Value) (z : Int) (w : World) (hp : Tri w p o (.int .i64 r) (.int .i64 c) (.slice (some ⟨g, 0, none⟩) (r * c) cap)) (hg : Grid w (.slice (some ⟨g, 0, none⟩) (r * c) cap) (r * c) zs L) (hx : IsI w x z L) (hr : r ≤ 99) (hc : c ≤ 99) (h1 : row < r) (h2 : col < c) :
 Calls Tryz.prog 92 #[.pointer (some ⟨p, o, none⟩), .int .i64 row, .int .i64 col, x] w fun e w' => e = .returned (.tuple #[]) ∧ Grid w' (.slice (some ⟨g, 0, none⟩) (r * c) cap) (r * c) (zs.set (row * c + col) z) L ∧ w.grownBy w' (some g) ∧ KU w w' := by
 obtain ⟨p0, p1, p2⟩ := hp
 have hk := idx_lt h1 h2
 obtain ⟨nb, bo, m, ecap, c1, c2, -⟩ := hg.cell _ hk
 have f1 := hg.frozen (2 * (row * c + col))
 have f2 := hg.frozen (2 * (row * c + col) + 1)
 have hgl : g < w.heap.size := World.block_lt_of_cell? w _ c1
 have hh := hasB_in h1 h2
 obtain ⟨b1, b2⟩ := idx_bd hr hc h1
 obtain ⟨sl, xs, rfl, q2, q3, q4, q5⟩ := id hx
 obtain ⟨ao, dcap, rfl, -⟩ := q5.open_
 rw [Nat.mul_comm 2] at c1 c2 f1 f2
 have d1 := cell2 c1
 have d2 := cell2 c2
 have d3 := frozen2 f1 hgl
 have d4 := frozen2 f2 hgl
 have d5 : ∀ v, ∀ o1 o2, (((w.setCell ⟨g, (row * c + col) * 2, none⟩ v).alloc o1).alloc o2).cell? ⟨g, (row * c + col) * 2 + 1, none⟩ = some (.slice bo m ecap) := fun v => cell2 (by rw [World.cell?_setCell_other _ _ _ _ (by simp)]; exact c2)
 have d6 : ∀ v, ∀ o1 o2, (((w.setCell ⟨g, (row * c + col) * 2, none⟩ v).alloc o1).alloc o2).frozen? ⟨g, (row * c + col) * 2 + 1, none⟩ = false := fun v => frozen2 (by rw [World.frozen?_setCell]; exact f2) (by simp [World.setCell]; exact hgl)
 have e0 := cell2 p0
 have e1 := cell2 p1
 have e2 := cell2 p2
 have e0' := cell1 p0
 have e1' := cell1 p1
 have e2' := cell1 p2
 have HX := Hid.mk hx
 have HG := Hid.mk hg
 have HK := Hid.mk hk
 clear hx hg q2 q3 q4 q5 p0 p1 p2 c1 c2 f1 f2
 obtain ⟨nz, hnz⟩ : ∃ nz, nz = decide (z < 0) := ⟨_, rfl⟩
 rw [← hnz] at HX ⊢
 clear hnz
 obtain ⟨N, hN⟩ : ∃ N, N = r * c := ⟨_, rfl⟩
 rw [← hN] at hk e2 e2' HG ⊢
 have hk2 : (row : Int) * (c : Int) + (col : Int) < (N : Int) := by rw [← Int.natCast_mul]; omega
 clear hN HK
 go_enter Tryz.func92, Tryz.ntmps92
 go_wp2_with (go_at_call 99; refine (has_raw _ _ _ _ _ _ _ _).mono ?_; rintro e w' ⟨rfl, rfl⟩; rw [hh])
 go_region
 all_goals
  go_end0
  obtain ⟨S1, S2⟩ := HG.out.stored _ hk HX.out
  rw [Nat.mul_comm 2] at S1 S2
  refine ⟨rfl, ?_, ?_, ?_⟩
  ·refine S1.below ?_
   repeat (first | exact Below.refl _ _ | refine Below.drew ?_ | refine Below.alloc ?_ (by simp <;> omega) _)
  ·refine grown_set2 (i := (row * c + col) * 2) (j := (row * c + col) * 2 + 1) (a := .bool nz) (b := .slice ao xs.length dcap) ?_
   repeat (first | exact Below.refl _ _ | refine Below.drew ?_ | refine Below.alloc ?_ (by simp <;> omega) _)
  ·refine S2.trans (KU.of_below ?_)
   repeat (first | exact Below.refl _ _ | refine Below.drew ?_ | refine Below.alloc ?_ (by simp <;> omega) _)
structure MatO (w : World) (p o g r c : Nat) (zs : List Int) (L : Nat) : Prop where
 hr : r ≤ 99
 hc : c ≤ 99
 tri : Tri w p o (.int .i64 r) (.int .i64 c) (.slice (some ⟨g, 0, none⟩) (r * c) (r * c))
 grid : Grid w (.slice (some ⟨g, 0, none⟩) (r * c) (r * c)) (r * c) zs L
theorem MatO.isM {w : World} {p o g r c L : Nat} {zs : List Int} (h : MatO w p o g r c zs L) : IsM w (.agg #[.int .i64 r, .int .i64 c, .slice (some ⟨g, 0, none⟩) (r * c) (r * c)]) r c zs L := ⟨h.hr, h.hc, _, rfl, h.grid⟩
theorem MatO.later {w w' : World} {p o g r c L : Nat} {zs : List Int} (h : MatO w p o g r c zs L) (hb : Below w.heap.size w w') : MatO w' p o g r c zs L := ⟨h.hr, h.hc, h.tri.later hb, h.grid.below hb⟩
theorem MatO.mono {w : World} {p o g r c L M : Nat} {zs : List Int} (h : MatO w p o g r c zs L) (hLM : L ≤ M) : MatO w p o g r c zs M := by
 refine ⟨h.hr, h.hc, h.tri, ?_⟩
 obtain ⟨h0, cs, h1, h2⟩ := h.grid
 refine ⟨h0, cs, h1, fun i hi => ?_⟩
 obtain ⟨a, b, e1, e2, e3⟩ := h2 i hi
 exact ⟨a, b, e1, e2, e3.mono hLM⟩
theorem MatO.len {w : World} {p o g r c L : Nat} {zs : List Int} (h : MatO w p o g r c zs L) : zs.length = r * c := h.grid.1
theorem MatO.glt {w : World} {p o g r c L : Nat} {zs : List Int} (h : MatO w p o g r c zs L) : g < w.heap.size := h.grid.ty.lt
theorem MatO.plt {w : World} {p o g r c L : Nat} {zs : List Int} (h : MatO w p o g r c zs L) : p < w.heap.size := World.block_lt_of_cell? w _ h.tri.1
theorem set_m (p o g r c row col : Nat) (zs : List Int) (L : Nat) (x : Value) (z : Int) (w : World) (hm : MatO w p o g r c zs L) (hpg : p ≠ g) (hx : IsI w x z L) (h1 : row < r) (h2 : col < c) :
 Calls Tryz.prog 92 #[.pointer (some ⟨p, o, none⟩), .int .i64 row, .int .i64 col, x] w fun e w' => e = .returned (.tuple #[]) ∧ MatO w' p o g r c (zs.set (row * c + col) z) L ∧ w.grownBy w' (some g) ∧ KU w w' := by
 refine (set_o p o g r c (r * c) row col zs L x z w hm.tri hm.grid hx hm.hr hm.hc h1 h2).mono ?_
 rintro e w' ⟨rfl, a, b, d⟩
 exact ⟨rfl, ⟨hm.hr, hm.hc, hm.tri.grown b hpg, a⟩, b, d⟩
def ent (c : Nat) (zs : List Int) (i j : Nat) : Int := zs.getD (i * c + j) 0
theorem ent_set (ms : List Int) (r c : Nat) (hl : ms.length = r * c) (a e i j : Nat) (z : Int) (ha : a < r) (he : e < c) (hj : j < c) : ent c (ms.set (a * c + e) z) i j = if i = a ∧ j = e then z else ent c ms i j := by
 unfold ent
 by_cases h : i = a ∧ j = e
 ·obtain ⟨rfl, rfl⟩ := h
  have : i * c + j < ms.length := by rw [hl]; exact idx_lt ha he
  rw [if_pos ⟨rfl, rfl⟩]
  simp [List.getD, this]
 ·rw [if_neg h]
  have hne : a * c + e ≠ i * c + j := fun e' => by
   obtain ⟨h1, h2⟩ := idx_inj he hj e'
   exact h ⟨h1.symm, h2.symm⟩
  simp [List.getD, List.getElem?_set_ne hne]
end Go.Proofs.YtfjbijpagaipnabGreatDoor
