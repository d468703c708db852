import Derived.Test.YtjhcbenldfplcaaGreatDoorC25
import Derived.Test.YtjhcbenldfplcaaGreatDoorC08
import Derived.Deep.RegionHeld3
import Derived.Deep.CutRange
/- grid.Matrix: firstRowWith, swapRows, clearEntry. -/
namespace Go.Proofs.YtjhcbenldfplcaaGreatDoor
open Go.RowKit

set_option maxRecDepth 100000 in
theorem sub_any (v u : Value) (x y : Int) (L M : Nat) (w : World) (hv : IsI w v x L) (hu : IsI w u y M) (hL : L ≤ 30000) (hM : M ≤ 30000) :
    Calls Tryz.prog 156 #[v, u] w fun e w' => ∃ r, e = .returned r ∧ IntOut w w' r (x - y) (max L M + 1) := by
  obtain ⟨nb, ao, n, cap, rfl⟩ := hv.shape
  obtain ⟨nb', bo, n', cap', rfl⟩ := hu.shape
  have H := Hid.mk (And.intro hv hu)
  clear hv hu
  go_enter Tryz.func156, Tryz.ntmps156
  go_wp2_with fail
  obtain ⟨W0, hW0⟩ : ∃ W0, W0 = ((w.alloc (.cells #[.bool nb, .slice ao n cap] 121)).alloc (.cells #[.bool nb', .slice bo n' cap'] 121)).alloc (.cells #[.bool false, .slice none 0 0] 121) := ⟨_, rfl⟩
  have hz0 : W0.heap.size = w.heap.size + 3 := by rw [hW0]; simp
  have hb0 : Below w.heap.size w W0 := by rw [hW0]; repeat (first | exact Below.refl _ _ | refine Below.alloc ?_ (by simp <;> omega) _)
  have hA : Duo W0 w.heap.size (.bool nb) (.slice ao n cap) := by
    rw [hW0]
    exact ((Duo.new w _ _ rfl).below ((Below.refl _ _).alloc (Nat.le_refl _) _) (by simp)).below ((Below.refl _ _).alloc (Nat.le_refl _) _) (by simp; omega)
  have hR : Duo W0 (w.heap.size + 1 + 1) (.bool false) (.slice none 0 0) := by rw [hW0]; exact Duo.new _ _ _ (by simp)
  rw [← hW0]
  have F := Hid.mk (And.intro hA (And.intro hR hb0))
  clear hA hR hb0 hW0
  refine (neg_any _ y M _ (H.out.2.below F.out.2.2)).mono ?_
  rintro e w1 ⟨r1, rfl, hr1, hb1⟩
  obtain ⟨nb1, so1, n1, cp1, rfl⟩ := hr1.shape
  have hb11 := (Below.refl w1.heap.size w1).alloc (Nat.le_refl _) (.cells #[.bool nb1, .slice so1 n1 cp1] 121)
  have hw1 := hb1.size
  have hbA := hb1.trans (hb11.mono hw1)
  obtain ⟨a0, a1, -, -⟩ := (F.out.1.below hbA (by omega)).cells
  have K1 := Hid.mk (And.intro hbA (hr1.below hb11))
  clear hr1 hb1 hb11 hbA
  go_wp2_with fail
  refine (add_any _ _ x (-y) L M _ ((H.out.1.below F.out.2.2).below K1.out.1) K1.out.2 hL hM).mono ?_
  rintro e w2 ⟨r2, rfl, hr2, hb2⟩
  obtain ⟨nb2, so2, n2, cp2, rfl⟩ := hr2.shape
  have hbB : Below W0.heap.size W0 w2 := K1.out.1.trans (hb2.mono K1.out.1.size)
  have hR2 := F.out.2.1.below hbB (by omega)
  obtain ⟨s0, s1, s2, s3⟩ := hR2.cells
  have K2 := Hid.mk (And.intro hr2 (And.intro hR2 (F.out.2.2.trans (hbB.mono (by omega)))))
  clear hr2 hb2 hbB hR2 a0 a1
  go_wp2_with fail
  obtain ⟨g1, g2, -, -⟩ := (K2.out.2.1.put (.bool nb2) (.slice so2 n2 cp2)).cells
  refine bodyPost_ret (v := .agg #[.bool nb2, .slice so2 n2 cp2]) ?_ rfl ?_
  · (simp [results, Tryz.results156, go_sem, g1, g2]; done)
  · refine ⟨_, rfl, ?_, (K2.out.2.2.setCell (by simp; omega) _).setCell (by simp; omega) _⟩
    have := K2.out.1.duo K2.out.2.1 (.bool nb2) (.slice so2 n2 cp2)
    rwa [← Int.sub_eq_add_neg] at this
/-- Where the first row is whose entry is not 0. -/
def FirstIs (zs : List Int) (r c col from_ : Nat) (z : Int) : Prop := (∃ i, from_ ≤ i ∧ i < r ∧ z = (i : Int) ∧ zs.getD (i * c + col) 0 ≠ 0) ∨ (z = -1 ∧ ∀ i, from_ ≤ i → i < r → zs.getD (i * c + col) 0 = 0)
set_option maxRecDepth 100000 in
set_option maxHeartbeats 2000000 in
theorem firstRow_any (v : Value) (r c col from_ : Nat) (zs : List Int) (L : Nat) (w : World) (hm : IsM w v r c zs L) (hcol : col < c) (hf : from_ ≤ r) :
    Calls Tryz.prog 138 #[v, .int .i64 col, .int .i64 from_] w fun e w' => ∃ z : Int, e = .returned (.int .i64 z) ∧ FirstIs zs r c col from_ z ∧ Below w.heap.size w w' := by
  have HM := Hid.mk hm
  obtain ⟨hr, hc, sl, rfl, hg0⟩ := hm
  obtain ⟨ao, cap, rfl, -⟩ := hg0.shape
  clear hg0
  obtain ⟨N, hN⟩ : ∃ N, N = r * c := ⟨_, rfl⟩
  rw [← hN] at HM ⊢
  clear hN
  go_enter Tryz.func138, Tryz.ntmps138
  go_wp2_with fail
  obtain ⟨W0, hW0⟩ : ∃ W0, W0 = w.alloc (.cells #[.int .i64 r, .int .i64 c, .slice ao N cap] 54) := ⟨_, rfl⟩
  have hb0 : Below w.heap.size w W0 := by rw [hW0]; exact (Below.refl _ _).alloc (Nat.le_refl _) _
  have hm0 : Trio W0 w.heap.size (.int .i64 r) (.int .i64 c) (.slice ao N cap) := by rw [hW0]; exact ⟨new_cell _ _ _ _ _ rfl rfl, new_cell _ _ _ _ _ rfl rfl, new_cell _ _ _ _ _ rfl rfl⟩
  have hz0 : W0.heap.size = w.heap.size + 1 := by rw [hW0]; simp
  rw [← hW0]
  have F := Hid.mk (And.intro hm0 hb0)
  clear hm0 hb0 hW0
  go_loopw [7] (fun i wr => ∃ k : Nat, from_ ≤ k ∧ k ≤ r ∧ i = .int .i64 k ∧ Below W0.heap.size W0 wr ∧ Hid (∀ i, from_ ≤ i → i < k → zs.getD (i * c + col) 0 = 0)) (fun i _ => r - (intOf i).toNat)
  case atStart => exact ⟨from_, Nat.le_refl _, hf, rfl, Below.refl _ _, Hid.mk (fun i h1 h2 => by omega)⟩
  case round =>
    obtain ⟨k, hk1, hk2, rfl, hbel, HI⟩ := hrel
    have hbw : Below w.heap.size w wr := F.out.2.trans (hbel.mono (by omega))
    obtain ⟨q0, q1, q2⟩ := F.out.1.later hbel
    have hwr := hbel.size
    have K := Hid.mk (And.intro hbel hbw)
    clear hbel hbw
    by_cases hkr : k < r
    · have hki : (k : Int) < (r : Int) := by omega
      go_wp2_with fail
      refine (at_in _ r c k col zs L _ (HM.out.below K.out.2) hkr hcol).mono ?_
      rintro e w4 ⟨x, rfl, hx, hb4⟩
      obtain ⟨nb, so, n, ecap, rfl⟩ := hx.shape
      have K4 := Hid.mk (And.intro hx hb4)
      have hw4 := hb4.size
      clear hx hb4
      go_wp2_with fail
      refine (isZero_any _ (zs.getD (k * c + col) 0) L _ K4.out.1).mono ?_
      rintro e w5 ⟨rfl, hb5⟩
      have hbr5 : Below wr.heap.size wr w5 := K4.out.2.trans (hb5.mono hw4)
      have K5 := Hid.mk (And.intro (K.out.1.trans (hbr5.mono hwr)) (K.out.2.trans (hbr5.mono (by omega))))
      clear hb5 hbr5
      by_cases hz : zs.getD (k * c + col) 0 = 0
      · have HZ := Hid.mk hz
        have hd : decide (zs.getD (k * c + col) 0 = 0) = true := decide_eq_true hz
        rw [hd]
        clear hz hd
        go_wp2_with fail
        go_roundw
        case measure => simp [intOf]; omega
        case rel =>
          refine ⟨k + 1, by omega, by omega, by go_num, K5.out.1, Hid.mk (fun i h1 h2 => ?_)⟩
          by_cases hik : i = k
          · rw [hik]; exact HZ.out
          · exact HI.out i h1 (by omega)
      · have HZ := Hid.mk hz
        have hd : decide (zs.getD (k * c + col) 0 = 0) = false := decide_eq_false hz
        rw [hd]
        clear hz hd
        go_wp2_with fail
        go_ret
        exact ⟨_, rfl, .inl ⟨k, hk1, hkr, rfl, HZ.out⟩, K5.out.2⟩
    · have hki : ¬ (k : Int) < (r : Int) := by omega
      go_wp2_with fail
      go_ret
      exact ⟨_, rfl, .inr ⟨rfl, fun i h1 h2 => HI.out i h1 (by omega)⟩, K.out.2⟩
end Go.Proofs.YtjhcbenldfplcaaGreatDoor

/- grid.Matrix: swapRows, clearEntry. -/
namespace Go.Proofs.YtjhcbenldfplcaaGreatDoor
open Go.RowKit

theorem getD_set2 (ms : List Int) (r c : Nat) (hl : ms.length = r * c) (a e i j : Nat) (z : Int) (ha : a < r) (he : e < c) (hj : j < c) : (ms.set (a * c + e) z).getD (i * c + j) 0 = if i = a ∧ j = e then z else ms.getD (i * c + j) 0 := by
  by_cases h : i = a ∧ j = e
  · obtain ⟨rfl, rfl⟩ := h
    have : i * c + j < ms.length := by rw [hl]; exact idx_lt ha he
    rw [if_pos ⟨rfl, rfl⟩]
    simp [List.getD, this]
  · rw [if_neg h]
    have hne : a * c + e ≠ i * c + j := fun e' => by
      obtain ⟨h1, h2⟩ := idx_inj he hj e'
      exact h ⟨h1.symm, h2.symm⟩
    simp [List.getD, List.getElem?_set_ne hne]
def sw (a b i : Nat) : Nat := if i = a then b else if i = b then a else i
/-- Rows a and b have changed places in the columns ahead of e. -/
def SwTo (r c a b e : Nat) (zs ms : List Int) : Prop := ∀ i j, i < r → j < c → ms.getD (i * c + j) 0 = zs.getD ((if j < e then sw a b i else i) * c + j) 0
theorem SwTo.step {r c a b e : Nat} {zs ms : List Int} (h : SwTo r c a b e zs ms) (hl : ms.length = r * c) (ha : a < r) (hb : b < r) (he : e < c) {u l : Int} (hu : u = ms.getD (a * c + e) 0) (hlo : l = ms.getD (b * c + e) 0) : SwTo r c a b (e + 1) zs ((ms.set (a * c + e) l).set (b * c + e) u) := by
  intro i j hi hj
  rw [getD_set2 _ r c (by simpa using hl) b e i j u hb he hj, getD_set2 ms r c hl a e i j l ha he hj]
  have hua := h a e ha he
  have hlb := h b e hb he
  rw [if_neg (Nat.lt_irrefl e)] at hua hlb
  by_cases hje : j = e
  · subst hje
    rw [if_pos (Nat.lt_succ_self j)]
    by_cases hib : i = b
    · rw [if_pos ⟨hib, rfl⟩, hu, hua, hib]
      unfold sw
      by_cases hba : b = a
      · rw [if_pos hba, hba]
      · rw [if_neg hba, if_pos rfl]
    · rw [if_neg (fun h => hib h.1)]
      by_cases hia : i = a
      · rw [if_pos ⟨hia, rfl⟩, hlo, hlb, hia]
        unfold sw
        rw [if_pos rfl]
      · rw [if_neg (fun h => hia h.1), h i j hi hj, if_neg (Nat.lt_irrefl j)]
        unfold sw
        rw [if_neg hia, if_neg hib]
  · rw [if_neg (fun h => hje h.2), if_neg (fun h => hje h.2), h i j hi hj]
    by_cases hlt : j < e
    · rw [if_pos hlt, if_pos (by omega)]
    · rw [if_neg hlt, if_neg (by omega)]
set_option maxRecDepth 100000 in
set_option maxHeartbeats 4000000 in
theorem swap_any (p g r c RC a b : Nat) (hRC : RC = r * c) (zs : List Int) (L : Nat) (w : World) (hp : Trio w p (.int .i64 r) (.int .i64 c) (.slice (some ⟨g, 0, none⟩) RC RC)) (hg : Grid w (.slice (some ⟨g, 0, none⟩) RC RC) RC zs L) (hpg : p ≠ g) (hr : r ≤ 99) (hc : c ≤ 99) (ha : a < r) (hb : b < r) :
    Calls Tryz.prog 139 #[.pointer (some ⟨p, 0, none⟩), .int .i64 a, .int .i64 b] w fun e w' => e = .returned (.tuple #[]) ∧ (∃ ms, Grid w' (.slice (some ⟨g, 0, none⟩) RC RC) RC ms L ∧ SwTo r c a b c zs ms) ∧ w.grownBy w' (some g) := by
  have H := Hid.mk (And.intro hp (And.intro hg hRC))
  clear hp hg hRC
  go_enter Tryz.func139, Tryz.ntmps139
  go_wp2_with fail
  go_loopw [6] (fun i wr => ∃ (e : Nat) (ms : List Int), e ≤ c ∧ i = .int .i64 e ∧ Grid wr (.slice (some ⟨g, 0, none⟩) RC RC) RC ms L ∧ w.grownBy wr (some g) ∧ Hid (SwTo r c a b e zs ms)) (fun i _ => c - (intOf i).toNat)
  case atStart => exact ⟨0, zs, Nat.zero_le _, rfl, H.out.2.1, World.grownBy.refl _ _, Hid.mk (fun i j _ _ => by simp)⟩
  case round =>
    obtain ⟨e, ms, he, rfl, hG, hgr, HI⟩ := hrel
    obtain ⟨q0, q1, q2⟩ := H.out.1.grown hgr hpg
    have hIM : IsM wr (.agg #[.int .i64 r, .int .i64 c, .slice (some ⟨g, 0, none⟩) RC RC]) r c ms L := ⟨hr, hc, _, rfl, by rw [← H.out.2.2]; exact hG⟩
    have hml : ms.length = r * c := by rw [← H.out.2.2]; exact hG.1
    have hgl : g < wr.heap.size := hG.ty.lt
    have hpl : p < wr.heap.size := World.block_lt_of_cell? wr _ q0
    have K := Hid.mk (And.intro hG (And.intro hgr (And.intro hIM hml)))
    clear hG hgr hIM hml
    by_cases hec : e < c
    · have hei : (e : Int) < (c : Int) := by omega
      go_wp2_with fail
      refine (at_in _ r c a e ms L _ K.out.2.2.1 ha hec).mono ?_
      rintro e9 w1 ⟨x, rfl, hx, hb1⟩
      obtain ⟨nb1, so1, n1, cp1, rfl⟩ := hx.shape
      have hb11 := (Below.refl w1.heap.size w1).alloc (Nat.le_refl _) (.cells #[.bool nb1, .slice so1 n1 cp1] 121)
      have hbA := hb1.trans (hb11.mono hb1.size)
      have hw1 := hb1.size
      obtain ⟨d0, d1, d2⟩ := (show Trio wr p _ _ _ from ⟨q0, q1, q2⟩).later hbA
      have K1 := Hid.mk (And.intro hbA (And.intro (hx.below hb11) (Duo.new w1 (.bool nb1) (.slice so1 n1 cp1) rfl)))
      clear hx hb1 hb11 hbA
      go_wp2_with fail
      refine (at_in _ r c b e ms L _ (K.out.2.2.1.below K1.out.1) hb hec).mono ?_
      rintro e9 w2 ⟨x, rfl, hx, hb2⟩
      obtain ⟨nb2, so2, n2, cp2, rfl⟩ := hx.shape
      have hs2 : w1.heap.size + 1 ≤ w2.heap.size := by have := hb2.size; simpa using this
      have hb22 := (Below.refl w2.heap.size w2).alloc (Nat.le_refl _) (.cells #[.bool nb2, .slice so2 n2 cp2] 121)
      have hbB := K1.out.1.trans ((hb2.trans (hb22.mono hb2.size)).mono (by simp; omega))
      have hU := (K1.out.2.2.below hb2 (by simp)).below hb22 (by omega)
      clear d0 d1 d2
      obtain ⟨d0, d1, d2⟩ := (show Trio wr p _ _ _ from ⟨q0, q1, q2⟩).later hbB
      have K2 := Hid.mk (And.intro hbB (And.intro (hx.below hb22) (And.intro ((K1.out.2.1.below hb2).below hb22) (And.intro (K.out.1.below hbB) hU))))
      clear hx hb2 hb22 hbB hU
      go_wp2_with fail
      refine (set_rc p g r c RC a e H.out.2.2 ms L _ _ _ d0 d1 d2 K2.out.2.2.2.1 K2.out.2.1 hr hc ha hec).mono ?_
      rintro e9 w3 ⟨rfl, hG3, hgr3, hku3⟩
      have hT3 := (show Trio (w2.alloc (.cells #[.bool nb2, .slice so2 n2 cp2] 121)) p _ _ _ from ⟨d0, d1, d2⟩).grown hgr3 hpg
      clear d0 d1 d2
      obtain ⟨d0, d1, d2⟩ := hT3
      have hU3 : Duo w3 w1.heap.size (.bool nb1) (.slice so1 n1 cp1) := by
        unfold Duo
        rw [hgr3.block _ (by simp; omega) (by simp; omega)]
        exact K2.out.2.2.2.2
      obtain ⟨u0, u1, -, -⟩ := hU3.cells
      have K3 := Hid.mk (And.intro hG3 (And.intro hgr3 (K2.out.2.2.1.keep hku3)))
      clear hG3 hgr3 hku3 hU3
      go_wp2_with fail
      refine (set_rc p g r c RC b e H.out.2.2 _ L _ _ _ d0 d1 d2 K3.out.1 K3.out.2.2 hr hc hb hec).mono ?_
      rintro e9 w4 ⟨rfl, hG4, hgr4, -⟩
      have K4 := Hid.mk (And.intro hG4 (grown_trans (grown_trans (grown_below K.out.2.1 K2.out.1) K3.out.2.1) hgr4))
      clear hG4 hgr4 d0 d1 d2 u0 u1 q0 q1 q2
      go_wp2_with fail
      go_roundw
      case measure => simp [intOf]; omega
      case rel => exact ⟨e + 1, _, by omega, by go_num, K4.out.1, K4.out.2, Hid.mk (HI.out.step K.out.2.2.2 ha hb hec rfl rfl)⟩
    · have hei : ¬ (e : Int) < (c : Int) := by omega
      have hee : e = c := by omega
      have HEE := Hid.mk hee
      clear hee
      go_wp2_with fail
      go_end0
      refine ⟨rfl, ⟨ms, K.out.1, ?_⟩, K.out.2.1⟩
      have := HI.out
      rw [HEE.out] at this
      exact this
/-- Row a is cleared by row b, with the factors of the column col, in the columns ahead of e. -/
def ClTo (r c a b col e : Nat) (zs ms : List Int) : Prop := ∀ i j, i < r → j < c → ms.getD (i * c + j) 0 = if i = a ∧ j < e then zs.getD (a * c + j) 0 * zs.getD (b * c + col) 0 - zs.getD (b * c + j) 0 * zs.getD (a * c + col) 0 else zs.getD (i * c + j) 0
theorem ClTo.step {r c a b col e : Nat} {zs ms : List Int} (h : ClTo r c a b col e zs ms) (hl : ms.length = r * c) (ha : a < r) (hb : b < r) (hab : a ≠ b) (he : e < c) {z : Int} (hz : z = ms.getD (a * c + e) 0 * zs.getD (b * c + col) 0 - ms.getD (b * c + e) 0 * zs.getD (a * c + col) 0) : ClTo r c a b col (e + 1) zs (ms.set (a * c + e) z) := by
  intro i j hi hj
  rw [getD_set2 ms r c hl a e i j z ha he hj]
  have h1 := h a e ha he
  have h2 := h b e hb he
  rw [if_neg (fun h => Nat.lt_irrefl _ h.2)] at h1
  rw [if_neg (fun h => hab h.1.symm)] at h2
  by_cases hij : i = a ∧ j = e
  · rw [if_pos hij, if_pos ⟨hij.1, by omega⟩, hz, h1, h2, hij.2]
  · rw [if_neg hij, h i j hi hj]
    by_cases hlt : i = a ∧ j < e
    · rw [if_pos hlt, if_pos ⟨hlt.1, by omega⟩]
    · rw [if_neg hlt, if_neg (by omega)]
/-- There is a row of at most L limbs for it. -/
def Has (z : Int) (L : Nat) : Prop := ∃ w v, IsI w v z L
theorem Has.tighten {z : Int} {L M : Nat} {w : World} {v : Value} (h : Has z L) (hx : IsI w v z M) : IsI w v z L := by
  obtain ⟨w0, v0, sl0, ys, -, k2, k3, k4, -⟩ := h
  obtain ⟨sl, xs, h1, h2, h3, h4, h5⟩ := hx
  exact ⟨sl, xs, h1, h2, h3, Nat.le_trans (len_of_val k2 h2 (by omega)) k4, h5⟩
theorem Grid.has {w : World} {sl : Value} {n L : Nat} {zs : List Int} (h : Grid w sl n zs L) (i : Nat) (hi : i < n) : Has (zs.getD i 0) L := by
  obtain ⟨h0, cs, h1, h2⟩ := h
  obtain ⟨a, b, e1, e2, e3⟩ := h2 i hi
  exact ⟨w, _, e3⟩
/-- A number lies in a box of its own. -/
def PartIn (W : World) (z : Int) (L : Nat) (p : Value) (wx : World) : Prop := ∃ (pb : Nat) (nq : Bool) (qo : Option Addr) (mq qcap : Nat), p = .pointer (some ⟨pb, 0, none⟩) ∧ W.heap.size ≤ pb ∧ Duo wx pb (.bool nq) (.slice qo mq qcap) ∧ IsI wx (.agg #[.bool nq, .slice qo mq qcap]) z L ∧ Below W.heap.size W wx
theorem Duo.alloc_new (w : World) : Duo (w.alloc (.cells #[.bool false, .slice none 0 0] 121)) w.heap.size (.bool false) (.slice none 0 0) := Duo.new w _ _ rfl
set_option maxRecDepth 100000 in
set_option maxHeartbeats 4000000 in
theorem clear_any (p g r c RC a b col : Nat) (hRC : RC = r * c) (zs : List Int) (L M : Nat) (w : World) (hp : Trio w p (.int .i64 r) (.int .i64 c) (.slice (some ⟨g, 0, none⟩) RC RC)) (hg : Grid w (.slice (some ⟨g, 0, none⟩) RC RC) RC zs M) (hLM : L + L + 1 ≤ M) (hhas : ∀ j, j < c → Has (zs.getD (a * c + j) 0) L ∧ Has (zs.getD (b * c + j) 0) L) (hpg : p ≠ g) (hr : r ≤ 99) (hc : c ≤ 99) (ha : a < r) (hb : b < r) (hab : a ≠ b) (hcol : col < c) (hM : M ≤ 5000) :
    Calls Tryz.prog 140 #[.pointer (some ⟨p, 0, none⟩), .int .i64 a, .int .i64 b, .int .i64 col] w fun e w' => e = .returned (.tuple #[]) ∧ (∃ ms, Grid w' (.slice (some ⟨g, 0, none⟩) RC RC) RC ms M ∧ ClTo r c a b col c zs ms) ∧ w.grownBy w' (some g) := by
  have hIM0 : IsM w (.agg #[.int .i64 r, .int .i64 c, .slice (some ⟨g, 0, none⟩) RC RC]) r c zs M := ⟨hr, hc, _, rfl, by rw [← hRC]; exact hg⟩
  have H := Hid.mk (And.intro hp (And.intro hg (And.intro hRC hIM0)))
  have HH := Hid.mk hhas
  obtain ⟨q0, q1, q2⟩ := hp
  have hgl0 : g < w.heap.size := hg.ty.lt
  clear hg hRC hIM0 hhas
  go_enter Tryz.func140, Tryz.ntmps140
  go_wp2_with fail
  refine (at_in _ r c b col zs M _ H.out.2.2.2 hb hcol).mono ?_
  rintro e9 w1 ⟨x, rfl, hx, hb1⟩
  replace hx := (HH.out col hcol).2.tighten hx
  obtain ⟨nb1, so1, n1, cp1, rfl⟩ := hx.shape
  have hb11 := (Below.refl w1.heap.size w1).alloc (Nat.le_refl _) (.cells #[.bool nb1, .slice so1 n1 cp1] 121)
  have hbA := hb1.trans (hb11.mono hb1.size)
  have hw1 := hb1.size
  obtain ⟨d0, d1, d2⟩ := H.out.1.later hbA
  have K1 := Hid.mk (And.intro hbA (And.intro (hx.below hb11) (Duo.new w1 (.bool nb1) (.slice so1 n1 cp1) rfl)))
  clear hx hb1 hb11 hbA
  go_wp2_with fail
  refine (at_in _ r c a col zs M _ (H.out.2.2.2.below K1.out.1) ha hcol).mono ?_
  rintro e9 w2 ⟨x, rfl, hx, hb2⟩
  replace hx := (HH.out col hcol).1.tighten hx
  obtain ⟨nb2, so2, n2, cp2, rfl⟩ := hx.shape
  have hs2 : w1.heap.size + 1 ≤ w2.heap.size := by have := hb2.size; simpa using this
  have hb22 := (Below.refl w2.heap.size w2).alloc (Nat.le_refl _) (.cells #[.bool nb2, .slice so2 n2 cp2] 121)
  have hbB := K1.out.1.trans ((hb2.trans (hb22.mono hb2.size)).mono (by simp; omega))
  have hU := (K1.out.2.2.below hb2 (by simp)).below hb22 (by omega)
  have K2 := Hid.mk (And.intro hbB (And.intro (hx.below hb22) (And.intro ((K1.out.2.1.below hb2).below hb22) (And.intro hU (Duo.new w2 (.bool nb2) (.slice so2 n2 cp2) rfl)))))
  clear hx hb2 hb22 hbB hU d0 d1 d2 q0 q1 q2
  go_wp2_with fail
  obtain ⟨W2, hW2⟩ : ∃ W2, W2 = w2.alloc (.cells #[.bool nb2, .slice so2 n2 cp2] 121) := ⟨_, rfl⟩
  have hsW : W2.heap.size = w2.heap.size + 1 := by rw [hW2]; simp
  rw [← hW2] at K2 ⊢
  clear hW2
  go_loopw [10] (fun i wr => ∃ (e : Nat) (ms : List Int), e ≤ c ∧ i = .int .i64 e ∧ Grid wr (.slice (some ⟨g, 0, none⟩) RC RC) RC ms M ∧ W2.grownBy wr (some g) ∧ KU W2 wr ∧ Hid (ClTo r c a b col e zs ms)) (fun i _ => c - (intOf i).toNat)
  case atStart => exact ⟨0, zs, Nat.zero_le _, rfl, H.out.2.1.below K2.out.1, World.grownBy.refl _ _, KU.refl _, Hid.mk (fun i j _ _ => by simp)⟩
  case round =>
    obtain ⟨e, ms, he, rfl, hG, hgr, hku, HI⟩ := hrel
    have hT : Trio wr p (.int .i64 r) (.int .i64 c) (.slice (some ⟨g, 0, none⟩) RC RC) := (H.out.1.later K2.out.1).grown hgr hpg
    obtain ⟨q0, q1, q2⟩ := id hT
    have hIM : IsM wr (.agg #[.int .i64 r, .int .i64 c, .slice (some ⟨g, 0, none⟩) RC RC]) r c ms M := ⟨hr, hc, _, rfl, by rw [← H.out.2.2.1]; exact hG⟩
    have hml : ms.length = r * c := by rw [← H.out.2.2.1]; exact hG.1
    have hgl : g < wr.heap.size := hG.ty.lt
    have hpl : p < wr.heap.size := World.block_lt_of_cell? wr _ q0
    have hB1 : Duo wr w1.heap.size (.bool nb1) (.slice so1 n1 cp1) := by unfold Duo; rw [hgr.block _ (by omega) (by simp; omega)]; exact K2.out.2.2.2.1
    have hB2 : Duo wr w2.heap.size (.bool nb2) (.slice so2 n2 cp2) := by unfold Duo; rw [hgr.block _ (by omega) (by simp; omega)]; exact K2.out.2.2.2.2
    have hI1 := K2.out.2.2.1.keep hku
    have hI2 := K2.out.2.1.keep hku
    have K := Hid.mk (And.intro hG (And.intro hgr (And.intro hIM (And.intro hml (And.intro hku (And.intro hT (And.intro hB1 (And.intro hB2 (And.intro hI1 hI2)))))))))
    clear hG hgr hIM hml hku hT hB1 hB2 hI1 hI2
    by_cases hec : e < c
    · have hei : (e : Int) < (c : Int) := by omega
      have HEA : Hid (Has (ms.getD (a * c + e) 0) L ∧ Has (ms.getD (b * c + e) 0) L) := Hid.mk (by
        have h1 := HI.out a e ha hec
        have h2 := HI.out b e hb hec
        rw [if_neg (fun h => Nat.lt_irrefl _ h.2)] at h1
        rw [if_neg (fun h => hab h.1.symm)] at h2
        rw [h1, h2]
        exact HH.out e hec)
      have HC1 := Hid.mk (show ∀ w', Below wr.heap.size wr w' → w'.cell? ⟨p, 0, none⟩ = some (.int .i64 r) ∧ w'.cell? ⟨p, 1, none⟩ = some (.int .i64 c) ∧ w'.cell? ⟨p, 2, none⟩ = some (.slice (some ⟨g, 0, none⟩) RC RC) ∧ w'.cell? ⟨w1.heap.size, 0, none⟩ = some (.bool nb1) ∧ w'.cell? ⟨w1.heap.size, 1, none⟩ = some (.slice so1 n1 cp1) from
        fun w' hb => ⟨(K.out.2.2.2.2.2.1.later hb).1, (K.out.2.2.2.2.2.1.later hb).2.1, (K.out.2.2.2.2.2.1.later hb).2.2, cell_later hb K.out.2.2.2.2.2.2.1.cells.1, cell_later hb K.out.2.2.2.2.2.2.1.cells.2.1⟩)
      go_upto_region 5 with fail
      go_cut [11] from 34 to 42 (fun pv wx => PartIn wr ((ms.getD (a * c + e) 0) * (zs.getD (b * c + col) 0)) (L + L) pv wx)
      case first =>
        go_region_held3 (fun w' => w'.cell? ⟨p, 0, none⟩ = some (.int .i64 r) ∧ w'.cell? ⟨p, 1, none⟩ = some (.int .i64 c) ∧ w'.cell? ⟨p, 2, none⟩ = some (.slice (some ⟨g, 0, none⟩) RC RC) ∧ w'.cell? ⟨w1.heap.size, 0, none⟩ = some (.bool nb1) ∧ w'.cell? ⟨w1.heap.size, 1, none⟩ = some (.slice so1 n1 cp1))
          (exact HC1.out _ (by first | exact hbW6 | exact hbW6.alloc hbW6.size _ | exact (hbW6.setCell (Nat.le_refl _) _).setCell (Nat.le_refl _) _ | exact (hbW6.setCell hw5s _).setCell hw5s _ | exact hbW5 | exact hbW5.alloc hbW5.size _ | exact (Below.refl _ _).drew | exact ((Below.refl _ _).alloc (Nat.le_refl _) _).drew))
          (first
            | (go_at_call 105; refine (at_in _ r c a e ms M _ (K.out.2.2.1.below ((Below.refl _ _).drew)) (by assumption) hec).mono ?_; rintro e9 w5 ⟨x5, rfl, hx5, hb5⟩; replace hx5 := HEA.out.1.tighten hx5; obtain ⟨nb5, so5, n5, cp5, rfl⟩ := hx5.shape; have hbW5 : Below wr.heap.size wr w5 := ((Below.refl _ _).drew).trans hb5; clear hb5)
            | (go_at_call 105; refine (at_in _ r c a e ms M _ (K.out.2.2.1.below (((Below.refl _ _).alloc (Nat.le_refl _) _).drew)) (by assumption) hec).mono ?_; rintro e9 w5 ⟨x5, rfl, hx5, hb5⟩; replace hx5 := HEA.out.1.tighten hx5; obtain ⟨nb5, so5, n5, cp5, rfl⟩ := hx5.shape; have hbW5 : Below wr.heap.size wr w5 := (((Below.refl _ _).alloc (Nat.le_refl _) _).drew).trans (hb5.mono (by simp)); have hD5 : Duo w5 wr.heap.size (.bool false) (.slice none 0 0) := Duo.below (Duo.drew (Duo.alloc_new wr)) hb5 (by simp); clear hb5)
            | (go_at_call 135; refine (mul_any _ _ (ms.getD (a * c + e) 0) (zs.getD (b * c + col) 0) L L _ hx5 (K.out.2.2.2.2.2.2.2.2.1.below hbW5) (by omega) (by omega)).mono ?_; rintro e9 w6 ⟨x6, rfl, hx6, hb6⟩; obtain ⟨nb6, so6, n6, cp6, rfl⟩ := hx6.shape; have hbW6 : Below wr.heap.size wr w6 := hbW5.trans (hb6.mono hbW5.size); have hD6 : Duo w6 wr.heap.size (.bool false) (.slice none 0 0) := hD5.below hb6 (Array.getElem?_eq_some_iff.1 hD5).1; have hD6c := hD6.cells; clear hb6)
            | (go_at_call 135; refine (mul_any _ _ (ms.getD (a * c + e) 0) (zs.getD (b * c + col) 0) L L _ hx5 (K.out.2.2.2.2.2.2.2.2.1.below hbW5) (by omega) (by omega)).mono ?_; rintro e9 w6 ⟨x6, rfl, hx6, hb6⟩; obtain ⟨nb6, so6, n6, cp6, rfl⟩ := hx6.shape; have hbW6 : Below wr.heap.size wr w6 := hbW5.trans (hb6.mono hbW5.size); clear hb6)
            | (go_at_call 135; refine (mul_any _ _ (ms.getD (a * c + e) 0) (zs.getD (b * c + col) 0) L L _ (hx5.below ((Below.refl w5.heap.size w5).alloc (Nat.le_refl _) _)) ((K.out.2.2.2.2.2.2.2.2.1.below hbW5).below ((Below.refl w5.heap.size w5).alloc (Nat.le_refl _) _)) (by omega) (by omega)).mono ?_; rintro e9 w6 ⟨x6, rfl, hx6, hb6⟩; obtain ⟨nb6, so6, n6, cp6, rfl⟩ := hx6.shape; have hbW6 : Below wr.heap.size wr w6 := hbW5.trans ((((Below.refl w5.heap.size w5).alloc (Nat.le_refl _) _).trans (hb6.mono (by simp))).mono hbW5.size); have hw5s := hbW5.size; have hD6 : Duo w6 w5.heap.size (.bool false) (.slice none 0 0) := Duo.below (Duo.alloc_new w5) hb6 (by simp); have hD6c := hD6.cells; clear hb6))
        all_goals
          go_wp2_with fail
          go_meet
          case rel =>
            first
              | exact ⟨_, _, _, _, _, rfl, hbW6.size, Duo.new _ _ _ rfl, hx6.below ((Below.refl _ _).alloc (Nat.le_refl _) _), hbW6.alloc hbW6.size _⟩
              | exact ⟨_, _, _, _, _, rfl, Nat.le_refl _, hD6.put _ _, hx6.duo hD6 _ _, (hbW6.setCell (Nat.le_refl _) _).setCell (Nat.le_refl _) _⟩
              | exact ⟨_, _, _, _, _, rfl, hw5s, hD6.put _ _, hx6.duo hD6 _ _, (hbW6.setCell hw5s _).setCell hw5s _⟩
      case rest =>
        rename World => w3
        obtain ⟨pb3, nb3, so3, n3, cp3, rfl, hpb3, hD3, hI3, hb3⟩ := hcut
        have hw3 := hb3.size
        have hIM3 := K.out.2.2.1.below hb3
        have K3 := Hid.mk (And.intro hD3 (And.intro hI3 (And.intro hb3 (And.intro hIM3 (K.out.2.2.2.2.2.2.2.2.2.below hb3)))))
        have HC2 := Hid.mk (show ∀ w', Below w3.heap.size w3 w' → w'.cell? ⟨p, 0, none⟩ = some (.int .i64 r) ∧ w'.cell? ⟨p, 1, none⟩ = some (.int .i64 c) ∧ w'.cell? ⟨p, 2, none⟩ = some (.slice (some ⟨g, 0, none⟩) RC RC) ∧ w'.cell? ⟨w2.heap.size, 0, none⟩ = some (.bool nb2) ∧ w'.cell? ⟨w2.heap.size, 1, none⟩ = some (.slice so2 n2 cp2) from
          fun w' hb => ⟨((K.out.2.2.2.2.2.1.later hb3).later hb).1, ((K.out.2.2.2.2.2.1.later hb3).later hb).2.1, ((K.out.2.2.2.2.2.1.later hb3).later hb).2.2, cell_later hb (cell_later hb3 K.out.2.2.2.2.2.2.2.1.cells.1), cell_later hb (cell_later hb3 K.out.2.2.2.2.2.2.2.1.cells.2.1)⟩)
        clear hD3 hI3 hb3 hIM3 q0 q1 q2
        go_upto_region 6 with fail
        go_cut [12] from 42 to 50 (fun pv wx => PartIn w3 ((ms.getD (b * c + e) 0) * (zs.getD (a * c + col) 0)) (L + L) pv wx)
        case first =>
          go_region_held3 (fun w' => w'.cell? ⟨p, 0, none⟩ = some (.int .i64 r) ∧ w'.cell? ⟨p, 1, none⟩ = some (.int .i64 c) ∧ w'.cell? ⟨p, 2, none⟩ = some (.slice (some ⟨g, 0, none⟩) RC RC) ∧ w'.cell? ⟨w2.heap.size, 0, none⟩ = some (.bool nb2) ∧ w'.cell? ⟨w2.heap.size, 1, none⟩ = some (.slice so2 n2 cp2))
            (exact HC2.out _ (by first | exact hbW6 | exact hbW6.alloc hbW6.size _ | exact (hbW6.setCell (Nat.le_refl _) _).setCell (Nat.le_refl _) _ | exact (hbW6.setCell hw5s _).setCell hw5s _ | exact hbW5 | exact hbW5.alloc hbW5.size _ | exact (Below.refl _ _).drew | exact ((Below.refl _ _).alloc (Nat.le_refl _) _).drew))
            (first
              | (go_at_call 105; refine (at_in _ r c b e ms M _ (K3.out.2.2.2.1.below ((Below.refl _ _).drew)) (by assumption) hec).mono ?_; rintro e9 w5 ⟨x5, rfl, hx5, hb5⟩; replace hx5 := HEA.out.2.tighten hx5; obtain ⟨nb5, so5, n5, cp5, rfl⟩ := hx5.shape; have hbW5 : Below w3.heap.size w3 w5 := ((Below.refl _ _).drew).trans hb5; clear hb5)
              | (go_at_call 105; refine (at_in _ r c b e ms M _ (K3.out.2.2.2.1.below (((Below.refl _ _).alloc (Nat.le_refl _) _).drew)) (by assumption) hec).mono ?_; rintro e9 w5 ⟨x5, rfl, hx5, hb5⟩; replace hx5 := HEA.out.2.tighten hx5; obtain ⟨nb5, so5, n5, cp5, rfl⟩ := hx5.shape; have hbW5 : Below w3.heap.size w3 w5 := (((Below.refl _ _).alloc (Nat.le_refl _) _).drew).trans (hb5.mono (by simp)); have hD5 : Duo w5 w3.heap.size (.bool false) (.slice none 0 0) := Duo.below (Duo.drew (Duo.alloc_new w3)) hb5 (by simp); clear hb5)
              | (go_at_call 135; refine (mul_any _ _ (ms.getD (b * c + e) 0) (zs.getD (a * c + col) 0) L L _ hx5 (K3.out.2.2.2.2.below hbW5) (by omega) (by omega)).mono ?_; rintro e9 w6 ⟨x6, rfl, hx6, hb6⟩; obtain ⟨nb6, so6, n6, cp6, rfl⟩ := hx6.shape; have hbW6 : Below w3.heap.size w3 w6 := hbW5.trans (hb6.mono hbW5.size); have hD6 : Duo w6 w3.heap.size (.bool false) (.slice none 0 0) := hD5.below hb6 (Array.getElem?_eq_some_iff.1 hD5).1; have hD6c := hD6.cells; clear hb6)
              | (go_at_call 135; refine (mul_any _ _ (ms.getD (b * c + e) 0) (zs.getD (a * c + col) 0) L L _ hx5 (K3.out.2.2.2.2.below hbW5) (by omega) (by omega)).mono ?_; rintro e9 w6 ⟨x6, rfl, hx6, hb6⟩; obtain ⟨nb6, so6, n6, cp6, rfl⟩ := hx6.shape; have hbW6 : Below w3.heap.size w3 w6 := hbW5.trans (hb6.mono hbW5.size); clear hb6)
              | (go_at_call 135; refine (mul_any _ _ (ms.getD (b * c + e) 0) (zs.getD (a * c + col) 0) L L _ (hx5.below ((Below.refl w5.heap.size w5).alloc (Nat.le_refl _) _)) ((K3.out.2.2.2.2.below hbW5).below ((Below.refl w5.heap.size w5).alloc (Nat.le_refl _) _)) (by omega) (by omega)).mono ?_; rintro e9 w6 ⟨x6, rfl, hx6, hb6⟩; obtain ⟨nb6, so6, n6, cp6, rfl⟩ := hx6.shape; have hbW6 : Below w3.heap.size w3 w6 := hbW5.trans ((((Below.refl w5.heap.size w5).alloc (Nat.le_refl _) _).trans (hb6.mono (by simp))).mono hbW5.size); have hw5s := hbW5.size; have hD6 : Duo w6 w5.heap.size (.bool false) (.slice none 0 0) := Duo.below (Duo.alloc_new w5) hb6 (by simp); have hD6c := hD6.cells; clear hb6))
          all_goals
            go_wp2_with fail
            go_meet
            case rel =>
              first
                | exact ⟨_, _, _, _, _, rfl, hbW6.size, Duo.new _ _ _ rfl, hx6.below ((Below.refl _ _).alloc (Nat.le_refl _) _), hbW6.alloc hbW6.size _⟩
                | exact ⟨_, _, _, _, _, rfl, Nat.le_refl _, hD6.put _ _, hx6.duo hD6 _ _, (hbW6.setCell (Nat.le_refl _) _).setCell (Nat.le_refl _) _⟩
                | exact ⟨_, _, _, _, _, rfl, hw5s, hD6.put _ _, hx6.duo hD6 _ _, (hbW6.setCell hw5s _).setCell hw5s _⟩
        case rest =>
          rename World => w4
          obtain ⟨pb4, nb4, so4, n4, cp4, rfl, hpb4, hD4, hI4, hb4⟩ := hcut
          have hw4 := hb4.size
          have hb34 : Below wr.heap.size wr w4 := K3.out.2.2.1.trans (hb4.mono hw3)
          have hD34 := K3.out.1.below hb4 (Array.getElem?_eq_some_iff.1 K3.out.1).1
          obtain ⟨x0, x1, -, -⟩ := hD34.cells
          obtain ⟨y0, y1, -, -⟩ := hD4.cells
          have K4 := Hid.mk (And.intro hb34 (And.intro (K3.out.2.1.below hb4) hI4))
          clear hD4 hI4 hb4 hb34 hD34
          go_wp2_with fail
          refine (sub_any _ _ _ _ (L + L) (L + L) _ K4.out.2.1 K4.out.2.2 (by omega) (by omega)).mono ?_
          rintro e9 w7 ⟨x7, rfl, hx7, hb7⟩
          obtain ⟨nb7, so7, n7, cp7, rfl⟩ := hx7.shape
          have hb77 := (Below.refl w7.heap.size w7).alloc (Nat.le_refl _) (.cells #[.bool nb7, .slice so7 n7 cp7] 121)
          have hbr7 : Below wr.heap.size wr (w7.alloc (.cells #[.bool nb7, .slice so7 n7 cp7] 121)) := (K4.out.1.trans (hb7.mono K4.out.1.size)).trans (hb77.mono (K4.out.1.trans (hb7.mono K4.out.1.size)).size)
          obtain ⟨d0, d1, d2⟩ := K.out.2.2.2.2.2.1.later hbr7
          have K7 := Hid.mk (And.intro (hx7.below hb77) (And.intro hbr7 ((K.out.1.below hbr7))))
          clear hx7 hb7 hb77 hbr7 x0 x1 y0 y1
          go_wp2_with fail
          refine (set_rc p g r c RC a e H.out.2.2.1 ms M _ _ _ d0 d1 d2 K7.out.2.2 (K7.out.1.mono (by omega)) hr hc ha hec).mono ?_
          rintro e9 w8 ⟨rfl, hG8, hgr8, hku8⟩
          have K8 := Hid.mk (And.intro hG8 (And.intro (grown_trans (grown_below K.out.2.1 K7.out.2.1) hgr8) ((K.out.2.2.2.2.1.trans (KU.of_below K7.out.2.1)).trans hku8)))
          clear hG8 hgr8 hku8 d0 d1 d2
          go_wp2_with fail
          go_roundw
          case measure => simp [intOf]; omega
          case rel => exact ⟨e + 1, _, by omega, by go_num, K8.out.1, K8.out.2.1, K8.out.2.2, Hid.mk (HI.out.step K.out.2.2.2.1 ha hb hab hec rfl)⟩
    · have hei : ¬ (e : Int) < (c : Int) := by omega
      have hee : e = c := by omega
      have HEE := Hid.mk hee
      clear hee
      go_wp2_with fail
      go_end0
      refine ⟨rfl, ⟨ms, K.out.1, ?_⟩, ?_⟩
      · have := HI.out
        rw [HEE.out] at this
        exact this
      · exact grown_trans (grown_below (World.grownBy.refl _ _) K2.out.1) K.out.2.1
end Go.Proofs.YtjhcbenldfplcaaGreatDoor
