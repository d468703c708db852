import Derived.Test.YtfjbijpagaipnaaGreatDoorC16
import Derived.BigRegion
import Derived.Test.YtfjbijpagaipnaaGreatDoorC07
namespace Go.Proofs.YtfjbijpagaipnaaGreatDoor.R
open Go.RowKit
theorem cut_piece (c : UInt8) (l : List UInt8) : ∀ p ∈ cutL c l, p.length ≤ l.length := by
 induction l with
 | nil => intro p hp; simp [cutL] at hp; subst hp; simp
 | cons x r ih =>
   intro p hp
   unfold cutL at hp
   split at hp
   ·rcases List.mem_cons.1 hp with rfl | hp
    ·simp
    ·have := ih p hp; simp; omega
   ·cases h : cutL c r with
    | nil => exact absurd h (cutL_ne c r)
    | cons a b =>
      rw [h] at hp ih
      rcases List.mem_cons.1 hp with rfl | hp
      ·have := ih a (List.mem_cons_self ..); simp; omega
      ·have := ih p (List.mem_cons_of_mem _ hp); simp; omega
theorem cut_getD (c : UInt8) (l : List UInt8) (i : Nat) : ((cutL c l).getD i []).length ≤ l.length := by
 rw [List.getD]
 cases h : (cutL c l)[i]? with
 | none => simp
 | some p => exact cut_piece c l p (List.mem_of_getElem? h)
theorem IsR.low {B B' : Nat} {w : World} {b r c : Nat} {gs : Nat → Nat} {f : Nat → Nat → Int} {L : Nat} (h : IsR B w b r c gs f L) (hB : B' ≤ B) : IsR B' w b r c gs f L := by
 obtain ⟨h0, v, h1, h2, h3, h4⟩ := h
 refine ⟨Nat.le_trans hB h0, v, h1, ⟨h2.1, ?_⟩, fun i hi => ⟨Nat.le_trans hB (h3 i hi).1, ?_⟩, h4⟩
 case refine_2 =>
  obtain ⟨cs, q1, q2, q3⟩ := (h3 i hi).2
  refine ⟨cs, q1, q2, fun j hj => ?_⟩
  obtain ⟨a, b, e1, e2, e3, e4⟩ := q3 j hj
  exact ⟨a, b, e1, e2, e3, e4.mono hB⟩
 rcases h2.2 with h5 | ⟨g, cap, cur, hv, hg, r⟩
 ·exact .inl h5
 ·exact .inr ⟨g, cap, cur, hv, Nat.le_trans hB hg, r⟩
theorem IsR.row_at {B : Nat} {w : World} {b r c : Nat} {gs : Nat → Nat} {f : Nat → Nat → Int} {L : Nat} (h : IsR B w b r c gs f L) {i : Nat} (hi : i < r) : B ≤ gs i ∧ Ty w (gs i) 138 := by
 obtain ⟨h0, v, h1, h2, h3, h4⟩ := h
 obtain ⟨cs, q1, -⟩ := (h3 i hi).2
 exact ⟨(h3 i hi).1, _, _, q1⟩
theorem OwnS.setN {B : Nat} {w : World} {v : Value} {ts : List (List UInt8)} (h : OwnS B w v ts) {g : Nat} (hg : Ty w g 138) (o : Nat) (u : Value) : OwnS B (w.setCell ⟨g, o, none⟩ u) v ts := by
 refine ⟨h.1, ?_⟩
 rcases h.2 with h3 | ⟨g', cap, cur, hv, hg', hh, r⟩
 ·exact .inl h3
 ·refine .inr ⟨g', cap, cur, hv, hg', ?_, r⟩
  rw [Below.heap_setCell _ _ _ _ (fun e => ?_)]
  ·exact hh
  ·have e' : g' = g := by simpa using e
   subst e'
   exact absurd (ty_block hh hg) (by decide)
def pieces (h1 : List UInt8) (i : Nat) : List (List UInt8) := cutL 32 ((cutL 59 h1).getD i [])
def RowOk (h1 : List UInt8) (c i : Nat) : Prop := (pieces h1 i).length = c + 1 ∧ (pieces h1 i).getD 0 [] = [] ∧ ∀ j, j < c → ∃ z, Says ((pieces h1 i).getD (j + 1) []) z
def Fz (h1 : List UInt8) (i j : Nat) : Int := num ((pieces h1 i).getD (j + 1) [])
def RSays (l : List UInt8) (r c : Nat) (f : Nat → Nat → Int) : Prop := ∃ h0 h1 d0 d1, cutL 58 l = [h0, h1] ∧ cutL 120 h0 = [d0, d1] ∧ OkSide d0 ∧ OkSide d1 ∧ dval d0 = r ∧ dval d1 = c ∧ (((r = 0 ∨ c = 0) ∧ h1 = []) ∨ (0 < r ∧ 0 < c ∧ (cutL 59 h1).length = r ∧ ∀ i, i < r → RowOk h1 c i ∧ ∀ j, j < c → f i j = Fz h1 i j))
def ReadR (l : List UInt8) (w w' : World) (v : Value) : Prop := ((v = .pointer none ∧ ¬ ∃ r c f, RSays l r c f) ∨ ∃ b r c gs f, v = .pointer (some ⟨b, 0, none⟩) ∧ RSays l r c f ∧ IsR w.heap.size w' b r c gs f 40000000001) ∧ Below w.heap.size w w'
theorem le20 {l : List UInt8} (h : l.length ≤ 40000000000) : (⟨l.toArray⟩ : ByteArray).size ≤ 50000000000 := by
 show l.toArray.size ≤ 50000000000
 simp only [List.size_toArray]; omega
theorem len2 {α : Type} {l : List α} (h : l.length = 2) : ∃ a b, l = [a, b] := by
 match l, h with
 | [a, b], _ => exact ⟨a, b, rfl⟩
set_option maxRecDepth 100000 in
set_option maxHeartbeats 8000000 in
theorem read_ref (s : ByteArray) (w : World) (hs : s.size ≤ 40000000000) :
 Calls Tryz.prog 101 #[.string s] w fun e w' => ∃ v, e = .returned v ∧ ReadR s.data.toList w w' v := by
 obtain ⟨l, hl⟩ : ∃ l, l = s.data.toList := ⟨_, rfl⟩
 have hll : l.length ≤ 40000000000 := by rw [hl]; simpa using hs
 have HL := Hid.mk hl
 rw [← hl]
 clear hl
 go_enter Tryz.func101, Tryz.ntmps101
 go_wp2_with fail
 refine (cut_any s 58 _ (by omega)).mono ?_
 rintro e w1 ⟨v1, rfl, hc1, hb1⟩
 rw [← HL.out] at hc1
 obtain ⟨ao1, cap1, rfl, q1, q2, q3⟩ := hc1.shape
 have hlen1 := cut_len 58 l
 obtain ⟨n1, hn1⟩ : ∃ n1, n1 = (cutL 58 l).length := ⟨_, rfl⟩
 rw [← hn1] at q1 q3 hlen1 ⊢
 have K1 := Hid.mk (And.intro hb1 (And.intro hn1 q3))
 clear hb1 hc1 hn1 q3
 by_cases h2 : n1 = 2
 ·subst h2
  obtain ⟨h0, h1, hh⟩ := len2 K1.out.2.1.symm
  have hl0 : h0.length ≤ 40000000000 := Nat.le_trans (cut_piece 58 l h0 (by rw [hh]; simp)) hll
  have hl1 : h1.length ≤ 40000000000 := Nat.le_trans (cut_piece 58 l h1 (by rw [hh]; simp)) hll
  obtain ⟨g1, rfl, e0⟩ := K1.out.2.2 0 (by omega)
  obtain ⟨g1', eg, e1⟩ := K1.out.2.2 1 (by omega)
  injection eg with eg
  injection eg with eg _
  subst eg
  rw [hh] at e0 e1
  replace e0 : w1.cell? ⟨g1, 0, none⟩ = some (.string ⟨h0.toArray⟩) := e0
  replace e1 : w1.cell? ⟨g1, 1, none⟩ = some (.string ⟨h1.toArray⟩) := e1
  have HH := Hid.mk hh
  have HE1 := Hid.mk e1
  clear hh e1
  go_wp2_with fail
  refine (cut_any ⟨h0.toArray⟩ 120 _ (le20 hl0)).mono ?_
  rintro e w2 ⟨v2, rfl, hc2, hb2⟩
  replace hc2 : OwnS w1.heap.size w2 v2 (cutL 120 h0) := hc2
  obtain ⟨ao2, cap2, rfl, p1, p2, p3⟩ := hc2.shape
  have hlen2 := cut_len 120 h0
  obtain ⟨n2, hn2⟩ : ∃ n2, n2 = (cutL 120 h0).length := ⟨_, rfl⟩
  rw [← hn2] at p1 p3 hlen2 ⊢
  have hb02 : Below w.heap.size w w2 := K1.out.1.trans (hb2.mono K1.out.1.size)
  have e1' : w2.cell? ⟨g1, 1, none⟩ = some (.string ⟨h1.toArray⟩) := cell_later hb2 HE1.out
  have K2 := Hid.mk (And.intro hb02 (And.intro hn2 (And.intro p3 e1')))
  clear hb2 hc2 hn2 p3 hb02 e1' e0 HE1 K1
  by_cases h2 : n2 = 2
  ·subst h2
   obtain ⟨d0, d1, hd⟩ := len2 K2.out.2.1.symm
   have hl2 : d0.length ≤ 40000000000 := Nat.le_trans (cut_piece 120 h0 d0 (by rw [hd]; simp)) hl0
   have hl3 : d1.length ≤ 40000000000 := Nat.le_trans (cut_piece 120 h0 d1 (by rw [hd]; simp)) hl0
   obtain ⟨g2, rfl, f0⟩ := K2.out.2.2.1 0 (by omega)
   obtain ⟨g2', eg, f1⟩ := K2.out.2.2.1 1 (by omega)
   injection eg with eg
   injection eg with eg _
   subst eg
   rw [hd] at f0 f1
   replace f0 : w2.cell? ⟨g2, 0, none⟩ = some (.string ⟨d0.toArray⟩) := f0
   replace f1 : w2.cell? ⟨g2, 1, none⟩ = some (.string ⟨d1.toArray⟩) := f1
   have HD := Hid.mk hd
   have HF1 := Hid.mk f1
   clear hd f1
   go_wp2_with fail
   refine (side_ref ⟨d0.toArray⟩ _ (le20 hl2)).mono ?_
   rintro e w3 ⟨ri, rfl, hsr, hb3⟩
   replace hsr : SideR d0 ri := hsr
   have f1' : w3.cell? ⟨g2, 1, none⟩ = some (.string ⟨d1.toArray⟩) := cell_later hb3 HF1.out
   have K3 := Hid.mk (And.intro (K2.out.1.trans (hb3.mono K2.out.1.size)) (And.intro hsr (cell_later hb3 K2.out.2.2.2)))
   clear hb3 hsr f0 HF1 K2
   go_wp2_with fail
   refine (side_ref ⟨d1.toArray⟩ _ (le20 hl3)).mono ?_
   rintro e w4 ⟨ci, rfl, hsc, hb4⟩
   replace hsc : SideR d1 ci := hsc
   have g1c : w4.cell? ⟨g1, 1, none⟩ = some (.string ⟨h1.toArray⟩) := cell_later hb4 K3.out.2.2
   have K4 := Hid.mk (And.intro (K3.out.1.trans (hb4.mono K3.out.1.size)) (And.intro K3.out.2.1 hsc))
   clear hb4 hsc f1' K3
   have hbad : (ri = -1 ∧ ¬ OkSide d0) ∨ (ci = -1 ∧ ¬ OkSide d1) ∨ (∃ r c : Nat, ri = r ∧ ci = c ∧ OkSide d0 ∧ OkSide d1 ∧ dval d0 = r ∧ dval d1 = c ∧ r ≤ 99 ∧ c ≤ 99) := by
    rcases K4.out.2.1 with h | ⟨h1, h2, h3⟩
    ·exact .inl h
    ·rcases K4.out.2.2 with h | ⟨h4, h5, h6⟩
     ·exact .inr (.inl h)
     ·exact .inr (.inr ⟨_, _, h1, h4, h2, h5, rfl, rfl, by omega, by omega⟩)
   have HNOT : Hid (¬ (OkSide d0 ∧ OkSide d1) → ¬ ∃ r c f, RSays l r c f) := Hid.mk (by
    rintro hn ⟨r, c, f, x0, x1, y0, y1, e1, e2, e3, e4, -⟩
    rw [HH.out] at e1
    injection e1 with e1 _
    subst e1
    rw [HD.out] at e2
    injection e2 with e2 e2'
    injection e2' with e2' _
    subst e2; subst e2'
    exact hn ⟨e3, e4⟩)
   rcases hbad with ⟨rfl, hb⟩ | ⟨rfl, hb⟩ | ⟨r, c, rfl, rfl, ok0, ok1, hv0, hv1, hr99, hc99⟩
   ·have HB := Hid.mk hb
    clear hb
    go_wp2_with fail
    go_ret
    exact ⟨_, rfl, .inl ⟨rfl, HNOT.out (fun h => HB.out h.1)⟩, K4.out.1⟩
   ·have HB := Hid.mk hb
    clear hb
    by_cases hri : ri < 0
    ·go_wp2_with fail
     go_ret
     exact ⟨_, rfl, .inl ⟨rfl, HNOT.out (fun h => HB.out h.2)⟩, K4.out.1⟩
    ·have hri' : decide (ri < 0) = false := decide_eq_false hri
     go_wp2_with fail
     go_ret
     exact ⟨_, rfl, .inl ⟨rfl, HNOT.out (fun h => HB.out h.2)⟩, K4.out.1⟩
   ·have HV := Hid.mk (And.intro ok0 (And.intro ok1 (And.intro hv0 hv1)))
    clear ok0 ok1 hv0 hv1
    have i1 : decide ((r : Int) < 0) = false := decide_eq_false (by omega)
    have i2 : decide ((c : Int) < 0) = false := decide_eq_false (by omega)
    go_wp2_with fail
    refine (empty_any r c _ hr99 hc99).mono ?_
    rintro e w5 ⟨rfl, ⟨gs, hIR⟩, hb5⟩
    obtain ⟨mb, hmb⟩ : ∃ mb, mb = w4.heap.size := ⟨_, rfl⟩
    rw [← hmb] at hIR ⊢
    have g1d : w5.cell? ⟨g1, 1, none⟩ = some (.string ⟨h1.toArray⟩) := cell_later hb5 g1c
    have hb05 : Below w.heap.size w w5 := K4.out.1.trans (hb5.mono K4.out.1.size)
    have hIR0 : IsR w.heap.size w5 mb r c gs (fun _ _ => 0) 40000000001 := (hIR.low (by rw [hmb]; exact K4.out.1.size)).mono (by omega)
    have K5 := Hid.mk (And.intro hb05 hIR0)
    clear hb5 hb05 hIR hIR0 g1c K4 hmb
    have HSAY : Hid (∀ f, (((r = 0 ∨ c = 0) ∧ h1 = []) ∨ (0 < r ∧ 0 < c ∧ (cutL 59 h1).length = r ∧ ∀ i, i < r → RowOk h1 c i ∧ ∀ j, j < c → f i j = Fz h1 i j)) → RSays l r c f) := Hid.mk (fun f h => ⟨h0, h1, d0, d1, HH.out, HD.out, HV.out.1, HV.out.2.1, HV.out.2.2.1, HV.out.2.2.2, h⟩)
    have HNO : Hid (¬ (((r = 0 ∨ c = 0) ∧ h1 = []) ∨ (0 < r ∧ 0 < c ∧ (cutL 59 h1).length = r ∧ ∀ i, i < r → RowOk h1 c i)) → ¬ ∃ r c f, RSays l r c f) := Hid.mk (by
     rintro hn ⟨r', c', f, x0, x1, y0, y1, e1, e2, -, -, e3, e4, e5⟩
     rw [HH.out] at e1
     injection e1 with e1 e1'
     injection e1' with e1' _
     subst e1; subst e1'
     rw [HD.out] at e2
     injection e2 with e2 e2'
     injection e2' with e2' _
     subst e2; subst e2'
     rw [HV.out.2.2.1] at e3
     rw [HV.out.2.2.2] at e4
     subst e3; subst e4
     refine hn ?_
     rcases e5 with h | ⟨q1, q2, q3, q4⟩
     ·exact .inl h
     ·exact .inr ⟨q1, q2, q3, fun i hi => (q4 i hi).1⟩)
    clear HNOT HV HD HH
    obtain ⟨H1, hH1⟩ : ∃ H1 : ByteArray, H1 = ⟨h1.toArray⟩ := ⟨_, rfl⟩
    have hH1s : H1.size ≤ 40000000000 := by rw [hH1]; simpa [ByteArray.size] using hl1
    have hemp : H1.toList.isEmpty = decide (h1 = []) := by
     rw [hH1, ByteArray.toList_eq]
     show h1.isEmpty = _
     cases h1 <;> simp
    rw [← hH1] at g1d
    have HH1 := Hid.mk hH1
    clear hH1
    by_cases hz : r = 0 ∨ c = 0
    ·have hor : r = 0 ∨ (0 < r ∧ c = 0) := by omega
     by_cases hh1 : h1 = []
     ·have HR := Hid.mk (HSAY.out (fun _ _ => 0) (.inl ⟨hz, hh1⟩))
      have hem : H1.toList.isEmpty = true := by rw [hemp]; exact decide_eq_true hh1
      clear hz hemp hh1 HSAY HNO
      rcases hor with h00 | ⟨hr0, h00⟩
      case' inl => have i3 : ((r : Int) == 0) = true := beq_iff_eq.2 (by omega)
      case' inr =>
       have i3 : ((r : Int) == 0) = false := beq_eq_false_iff_ne.2 (by omega)
       have i4 : ((c : Int) == 0) = true := beq_iff_eq.2 (by omega)
      all_goals
       clear h00
       go_wp2_with fail
       go_ret
       exact ⟨_, rfl, .inr ⟨mb, r, c, gs, _, rfl, HR.out, K5.out.2⟩, K5.out.1⟩
     ·have HR := Hid.mk (HNO.out (fun h => by
       rcases h with h | h
       ·exact hh1 h.2
       ·omega))
      have hem : H1.toList.isEmpty = false := by rw [hemp]; exact decide_eq_false hh1
      clear hz hemp hh1 HSAY HNO
      rcases hor with h00 | ⟨hr0, h00⟩
      case' inl => have i3 : ((r : Int) == 0) = true := beq_iff_eq.2 (by omega)
      case' inr =>
       have i3 : ((r : Int) == 0) = false := beq_eq_false_iff_ne.2 (by omega)
       have i4 : ((c : Int) == 0) = true := beq_iff_eq.2 (by omega)
      all_goals
       clear h00
       go_wp2_with fail
       go_ret
       exact ⟨_, rfl, .inl ⟨rfl, HR.out⟩, K5.out.1⟩
    ·have i3 : ((r : Int) == 0) = false := beq_eq_false_iff_ne.2 (by omega)
     have i4 : ((c : Int) == 0) = false := beq_eq_false_iff_ne.2 (by omega)
     have hr0 : 0 < r := by omega
     have hc0 : 0 < c := by omega
     have HNO2 : Hid (¬ ((cutL 59 h1).length = r ∧ ∀ i, i < r → RowOk h1 c i) → ¬ ∃ r c f, RSays l r c f) := Hid.mk (fun hn => HNO.out (fun h => by
      rcases h with h | h
      ·omega
      ·exact hn h.2.2))
     have HSAY2 : Hid ((cutL 59 h1).length = r → (∀ i, i < r → RowOk h1 c i) → RSays l r c (Fz h1)) := Hid.mk (fun h1' h2' => HSAY.out _ (.inr ⟨hr0, hc0, h1', fun i hi => ⟨h2' i hi, fun _ _ => rfl⟩⟩))
     clear hz hemp HSAY HNO i1 i2
     go_wp2_with fail
     refine (cut_any H1 59 _ (by omega)).mono ?_
     rintro e w6 ⟨v6, rfl, hc6, hb6⟩
     rw [HH1.out] at hc6
     replace hc6 : OwnS w5.heap.size w6 v6 (cutL 59 h1) := hc6
     obtain ⟨ao3, cap3, rfl, s1, s2, s3⟩ := hc6.shape
     have hlen3 := cut_len 59 h1
     obtain ⟨n3, hn3⟩ : ∃ n3, n3 = (cutL 59 h1).length := ⟨_, rfl⟩
     rw [← hn3] at s1 s3 hlen3 hc6 ⊢
     have hb06 : Below w.heap.size w w6 := K5.out.1.trans (hb6.mono K5.out.1.size)
     have hIR6 : IsR w.heap.size w6 mb r c gs (fun _ _ => 0) 40000000001 := K5.out.2.keep (KR.of_below hb6)
     have K6 := Hid.mk (And.intro hb06 (And.intro hIR6 (And.intro hc6 hn3)))
     clear hb6 hc6 s3 hb06 hIR6 hn3 g1d K5
     by_cases h3 : n3 = r
     ·have i5 : ((n3 : Int) == (r : Int)) = true := beq_iff_eq.2 (by omega)
      subst h3
      obtain ⟨g3, hao3, -⟩ : ∃ g, ao3 = some ⟨g, 0, none⟩ ∧ w6.cell? ⟨g, 0, none⟩ = some (.string ⟨((cutL 59 h1).getD 0 []).toArray⟩) := by
       obtain ⟨ao', cap', e1, -, -, e2⟩ := K6.out.2.2.1.shape
       rw [← K6.out.2.2.2] at e1 e2
       simp only [Value.slice.injEq] at e1
       obtain ⟨rfl, _, rfl⟩ := e1
       exact e2 0 hr0
      subst hao3
      go_wp2_with fail
      go_loopw [9] (fun i wr => ∃ (k : Nat), k ≤ n3 ∧ i = .int .i64 k ∧ IsR w.heap.size wr mb n3 c gs (fun a b => if a < k then Fz h1 a b else 0) 40000000001 ∧ OwnS w5.heap.size wr (.slice (some ⟨g3, 0, none⟩) n3 cap3) (cutL 59 h1) ∧ Below w.heap.size w wr ∧ Hid (∀ i, i < k → RowOk h1 c i)) (fun i _ => n3 - (intOf i).toNat)
      case atStart => exact ⟨0, Nat.zero_le _, rfl, K6.out.2.1.congr (fun i j _ _ => by rw [if_neg (by omega)]), K6.out.2.2.1, K6.out.1, Hid.mk (fun i hi => by omega)⟩
      case round =>
       rename World => wr0
       obtain ⟨k, hk, rfl, hIR, hOS, hbel, HI⟩ := hrel
       by_cases hkr : k < n3
       ·obtain ⟨ao', cap', z1, -, -, z2⟩ := hOS.shape
        rw [← K6.out.2.2.2] at z1 z2
        simp only [Value.slice.injEq] at z1
        obtain ⟨rfl, _, rfl⟩ := z1
        obtain ⟨g3', z3, z4⟩ := z2 k hkr
        injection z3 with z3
        injection z3 with z3 _
        subst z3
        obtain ⟨rw_, hrw⟩ : ∃ rw_ : ByteArray, rw_ = ⟨((cutL 59 h1).getD k []).toArray⟩ := ⟨_, rfl⟩
        rw [← hrw] at z4
        have hrws : rw_.size ≤ 40000000000 := by
         rw [hrw]
         have := cut_getD 59 h1 k
         show ((cutL 59 h1).getD k []).toArray.size ≤ 40000000000
         simp only [List.size_toArray]
         omega
        have HRW := Hid.mk hrw
        have J := Hid.mk (And.intro hIR (And.intro hOS hbel))
        clear z2 hrw hIR hOS hbel
        go_wp2_with fail
        refine (cut_any rw_ 32 _ (by omega)).mono ?_
        rintro e w7 ⟨v7, rfl, hc7, hb7⟩
        rw [HRW.out] at hc7
        replace hc7 : OwnS wr0.heap.size w7 v7 (pieces h1 k) := hc7
        obtain ⟨ao4, cap4, rfl, s1, s2, s3⟩ := hc7.shape
        have hlen4 : (pieces h1 k).length ≤ 40000000001 := by
         have h5 := cut_len 32 ((cutL 59 h1).getD k [])
         have h6 := cut_getD 59 h1 k
         show (cutL 32 ((cutL 59 h1).getD k [])).length ≤ 40000000001
         omega
        obtain ⟨n4, hn4⟩ : ∃ n4, n4 = (pieces h1 k).length := ⟨_, rfl⟩
        rw [← hn4] at s1 s3 hc7 hlen4 ⊢
        have K7 := Hid.mk (And.intro (J.out.1.keep (KR.of_below hb7)) (And.intro (J.out.2.1.below hb7) (And.intro (J.out.2.2.trans (hb7.mono J.out.2.2.size)) (And.intro hc7 (And.intro hn4 s3)))))
        clear hb7 hc7 s3 hn4 z4 J
        by_cases h4 : n4 = c + 1
        ·subst h4
         obtain ⟨g4, hao4, x0⟩ := K7.out.2.2.2.2.2 0 (by omega)
         subst hao4
         obtain ⟨P0, hP0⟩ : ∃ P0 : ByteArray, P0 = ⟨((pieces h1 k).getD 0 []).toArray⟩ := ⟨_, rfl⟩
         rw [← hP0] at x0
         have hemp : P0.toList.isEmpty = decide ((pieces h1 k).getD 0 [] = []) := by
          rw [hP0, ByteArray.toList_eq]
          show ((pieces h1 k).getD 0 []).isEmpty = _
          cases (pieces h1 k).getD 0 [] <;> simp
         clear hP0
         by_cases h0e : (pieces h1 k).getD 0 [] = []
         ·have hem : P0.toList.isEmpty = true := by rw [hemp]; exact decide_eq_true h0e
          have H0E := Hid.mk h0e
          clear hemp h0e
          go_wp2_with fail
          clear x0 hem
          go_loopw [11] (fun i wr => ∃ (q : Nat), q ≤ c ∧ i = .int .i64 q ∧ IsR w.heap.size wr mb n3 c gs (fun a b => if a < k ∨ (a = k ∧ b < q) then Fz h1 a b else 0) 40000000001 ∧ OwnS w5.heap.size wr (.slice (some ⟨g3, 0, none⟩) n3 cap3) (cutL 59 h1) ∧ OwnS wr0.heap.size wr (.slice (some ⟨g4, 0, none⟩) (c + 1) cap4) (pieces h1 k) ∧ Below w.heap.size w wr ∧ Hid (∀ j, j < q → ∃ z, Says ((pieces h1 k).getD (j + 1) []) z)) (fun i _ => c - (intOf i).toNat)
          case atStart =>
           refine ⟨0, Nat.zero_le _, rfl, K7.out.1.congr (fun i j _ _ => ?_), K7.out.2.1, K7.out.2.2.2.1, K7.out.2.2.1, Hid.mk (fun j hj => by omega)⟩
           by_cases hik : i < k
           ·rw [if_pos hik, if_pos (.inl hik)]
           ·rw [if_neg hik, if_neg (by omega)]
          case round =>
           obtain ⟨q, hq, rfl, hIR, hOS, hOP, hbel, HJ⟩ := hrel
           by_cases hqc : q < c
           ·obtain ⟨ao', cap', z1, -, -, z2⟩ := hOP.shape
            rw [← K7.out.2.2.2.2.1] at z1 z2
            simp only [Value.slice.injEq] at z1
            obtain ⟨rfl, _, rfl⟩ := z1
            obtain ⟨g4', z3, z4⟩ := z2 (q + 1) (by omega)
            injection z3 with z3
            injection z3 with z3 _
            subst z3
            obtain ⟨PQ, hPQ⟩ : ∃ PQ : ByteArray, PQ = ⟨((pieces h1 k).getD (q + 1) []).toArray⟩ := ⟨_, rfl⟩
            rw [← hPQ] at z4
            have hPQl : PQ.data.toList = (pieces h1 k).getD (q + 1) [] := by rw [hPQ]
            have hPQs : PQ.size ≤ 40000000000 := by
             rw [hPQ]
             have h5 := cut_getD 32 ((cutL 59 h1).getD k []) (q + 1)
             have h6 := cut_getD 59 h1 k
             show ((pieces h1 k).getD (q + 1) []).toArray.size ≤ 40000000000
             simp only [List.size_toArray]
             have h7 : ((pieces h1 k).getD (q + 1) []).length ≤ ((cutL 59 h1).getD k []).length := h5
             omega
            have HPQ := Hid.mk hPQl
            have J := Hid.mk (And.intro hIR (And.intro hOS (And.intro hOP hbel)))
            clear z2 hPQ hPQl hIR hOS hOP hbel
            go_wp2_with fail
            refine (number_any PQ _ (by omega)).mono ?_
            rintro e w8 ⟨rn, ok, rfl, ⟨zn, hN, hY, hX⟩, hb8, hat⟩
            obtain ⟨nn, no, ncap, nxs, rfl, -⟩ := id hN.parts
            rw [HPQ.out] at hY hX
            have K8 := Hid.mk (And.intro (J.out.1.keep (KR.of_below hb8)) (And.intro (J.out.2.1.below hb8) (And.intro (J.out.2.2.1.below hb8) (And.intro (J.out.2.2.2.trans (hb8.mono J.out.2.2.2.size)) (And.intro (hN.mono (show PQ.size + 1 ≤ 40000000001 from by omega)) (And.intro hY hX))))))
            have HAT : Hid (AtB w.heap.size (.agg #[.bool nn, .slice no nxs.length ncap])) := Hid.mk (hat.mono J.out.2.2.2.size)
            clear hat
            clear hb8 hN hY hX z4 J
            cases ok
            ·have HR := Hid.mk (HNO2.out (fun h => by
              obtain ⟨z, hz⟩ := (h.2 k hkr).2.2 q hqc
              exact K8.out.2.2.2.2.2.2 rfl z hz))
             go_wp2_with fail
             go_ret
             refine ⟨_, rfl, .inl ⟨rfl, HR.out⟩, ?_⟩
             exact K8.out.2.2.2.1.alloc K8.out.2.2.2.1.size _
            ·have HSY := Hid.mk (K8.out.2.2.2.2.2.1 rfl)
             obtain ⟨X, hX⟩ : ∃ X, X = w8.alloc (.cells #[.bool nn, .slice no nxs.length ncap] 138) := ⟨_, rfl⟩
             have hbX : Below w8.heap.size w8 X := by rw [hX]; exact (Below.refl _ _).alloc (Nat.le_refl _) _
             have hIRX := K8.out.1.keep (KR.of_below hbX)
             obtain ⟨hmbl, aoL, capL, y0, y1, y2, y3, y4, y5, y6⟩ := hIRX.open_
             obtain ⟨gL, haoL, y7⟩ := y5 k hkr
             subst haoL
             obtain ⟨ob, oo, on, oc, y8, y9, y10, y11, -⟩ := y6 k q hkr hqc
             rw [Nat.mul_comm 2] at y8 y9 y10 y11
             have nb0 : X.cell? ⟨w8.heap.size, 0, none⟩ = some (.bool nn) := by rw [hX]; simp
             have nb1 : X.cell? ⟨w8.heap.size, 1, none⟩ = some (.slice no nxs.length ncap) := by rw [hX]; simp
             have y12 : ∀ u, (X.setCell ⟨gs k, q * 2, none⟩ u).cell? ⟨gs k, q * 2 + 1, none⟩ = some (.slice oo on oc) := fun u => by
              rw [World.cell?_setCell_other _ _ _ _ (fun e => by injection e; omega)]; exact y9
             have K9 := Hid.mk (And.intro hIRX (And.intro hbX hX))
             have YY := Hid.mk (And.intro y2 (And.intro y7 (And.intro y8 (And.intro y9 (And.intro y10 (And.intro y11 y12))))))
             clear hIRX hbX y0 y1 y5 y6 hX y2 y7 y8 y9 y10 y11 y12
             have NB := Hid.mk (And.intro nb0 nb1)
             clear nb0 nb1
             go_wp2_with fail
             rw [← K9.out.2.2]
             obtain ⟨y2, y7, y8, y9, y10, y11, y12⟩ := YY.out
             obtain ⟨nb0, nb1⟩ := NB.out
             go_region
             all_goals
              go_wp2_with fail
              go_roundw
              case measure => simp [intOf]; omega
              case rel =>
               obtain ⟨hIRX, hbX, -⟩ := K9.out
               have hgs := hIRX.row_at hkr
               have hset := hIRX.set hkr hqc (K8.out.2.2.2.2.1.below hbX) HAT.out
               rw [Nat.mul_comm 2] at hset
               have hb0 : Below w.heap.size w X := K8.out.2.2.2.1.trans (hbX.mono K8.out.2.2.2.1.size)
               refine ⟨q + 1, by omega, by go_num, ?_, ?_, ?_, ?_, Hid.mk (fun j hj => ?_)⟩
               ·refine IsR.congr (show IsR w.heap.size _ mb n3 c gs _ 40000000001 from hset) (fun i j hi hj => ?_)
                unfold upd2
                by_cases hij : i = k ∧ j = q
                ·rw [if_pos hij, if_pos (by omega), hij.1, hij.2]
                 exact HSY.out.num.symm
                ·rw [if_neg hij]
                 show (if i < k ∨ (i = k ∧ j < q) then Fz h1 i j else 0) = (if i < k ∨ (i = k ∧ j < q + 1) then Fz h1 i j else 0)
                 by_cases h9 : i < k ∨ (i = k ∧ j < q)
                 ·rw [if_pos h9, if_pos (by omega)]
                 ·rw [if_neg h9, if_neg (by omega)]
               ·exact (((K8.out.2.1.below hbX).setN hgs.2 _ _).setN (hgs.2.setCell _ _) _ _ : OwnS w5.heap.size _ _ _)
               ·exact (((K8.out.2.2.1.below hbX).setN hgs.2 _ _).setN (hgs.2.setCell _ _) _ _ : OwnS wr0.heap.size _ _ _)
               ·exact ((hb0.setCell hgs.1 _).setCell hgs.1 _).drew
               ·by_cases hjq : j = q
                ·rw [hjq]; exact ⟨zn, HSY.out⟩
                ·exact HJ.out j (by omega)
           ·have hqe : q = c := by omega
            have J := Hid.mk (And.intro hIR (And.intro hOS (And.intro hbel hqe)))
            clear hIR hOS hOP hbel hqe
            go_wp2_with fail
            go_roundw
            case measure => simp [intOf]; omega
            case rel =>
             refine ⟨k + 1, by omega, by go_num, J.out.1.congr (fun i j _ hj => ?_), J.out.2.1, J.out.2.2.1, Hid.mk (fun i hi => ?_)⟩
             ·have := J.out.2.2.2
              by_cases hik : i < k + 1
              ·rw [if_pos hik, if_pos (by omega)]
              ·rw [if_neg hik, if_neg (by omega)]
             ·by_cases hik : i = k
              ·rw [hik]
               exact ⟨K7.out.2.2.2.2.1.symm, H0E.out, fun j hj => HJ.out j (by have := J.out.2.2.2; omega)⟩
              ·exact HI.out i (by omega)
         ·have hem : P0.toList.isEmpty = false := by rw [hemp]; exact decide_eq_false h0e
          have HR := Hid.mk (HNO2.out (fun h => h0e (h.2 k hkr).2.1))
          clear hemp h0e
          go_wp2_with fail
          go_ret
          exact ⟨_, rfl, .inl ⟨rfl, HR.out⟩, K7.out.2.2.1⟩
        ·have i6 : ((n4 : Int) == (c : Int) + 1) = false := beq_eq_false_iff_ne.2 (by omega)
         have HR := Hid.mk (HNO2.out (fun h => h4 (by rw [K7.out.2.2.2.2.1]; exact (h.2 k hkr).1)))
         have i7 : (n4 : Int) ≠ (c : Int) + 1 := by omega
         go_wp2_with fail
         go_ret
         exact ⟨_, rfl, .inl ⟨rfl, HR.out⟩, K7.out.2.2.1⟩
       ·have hke : k = n3 := by omega
        have J := Hid.mk (And.intro hIR (And.intro hbel hke))
        clear hIR hOS hbel hke
        go_wp2_with fail
        go_ret
        refine ⟨_, rfl, .inr ⟨mb, n3, c, gs, Fz h1, rfl, HSAY2.out K6.out.2.2.2.symm (fun i hi => HI.out i (by have := J.out.2.2; omega)), ?_⟩, J.out.2.1⟩
        exact J.out.1.congr (fun i j hi _ => by rw [if_pos (by have := J.out.2.2; omega)])
     ·have i5 : ((n3 : Int) == (r : Int)) = false := beq_eq_false_iff_ne.2 (by omega)
      have HR := Hid.mk (HNO2.out (fun h => h3 (by rw [K6.out.2.2.2]; exact h.1)))
      clear h3
      go_wp2_with fail
      go_ret
      exact ⟨_, rfl, .inl ⟨rfl, HR.out⟩, K6.out.1⟩
  ·have h2i : ((n2 : Int) == 2) = false := beq_eq_false_iff_ne.2 (by omega)
   have H2 := Hid.mk h2
   clear h2
   go_wp2_with fail
   go_ret
   refine ⟨_, rfl, .inl ⟨rfl, ?_⟩, K2.out.1⟩
   rintro ⟨r, c, f, x0, x1, d0, d1, e1, e2, -⟩
   rw [HH.out] at e1
   injection e1 with e1 _
   subst e1
   have := K2.out.2.1
   rw [e2] at this
   exact H2.out this
 ·have h2i : ((n1 : Int) == 2) = false := beq_eq_false_iff_ne.2 (by omega)
  have H2 := Hid.mk h2
  clear h2
  go_wp2_with fail
  go_ret
  refine ⟨_, rfl, .inl ⟨rfl, ?_⟩, K1.out.1⟩
  rintro ⟨r, c, f, h0, h1, d0, d1, e1, -⟩
  have := K1.out.2.1
  rw [e1] at this
  exact H2.out this
end Go.Proofs.YtfjbijpagaipnaaGreatDoor.R
namespace Go.Proofs.YtfjbijpagaipnaaGreatDoor
open Go.RowKit
theorem digit_nat (d : Nat) (h : d < 10) : (UInt8.ofNat (48 + d)).toNat = 48 + d := by rw [UInt8.toNat_ofNat', Nat.mod_eq_of_lt (by omega)]
theorem decDigits_facts (u : Nat) : Lib.decDigits u ≠ [] ∧ Digs (Lib.decDigits u) ∧ decval (Lib.decDigits u) = u ∧ (0 < u → ∃ d r, Lib.decDigits u = d :: r ∧ d.toNat ≠ 48) := by
 induction u using Nat.strongRecOn with
 | ind u ih =>
   by_cases h : u < 10
   ·rw [Lib.decDigits_one h]
    refine ⟨by simp, ?_, ?_, fun h0 => ⟨_, _, rfl, ?_⟩⟩
    ·intro c hc
     rw [List.mem_singleton] at hc
     rw [hc, digit_nat u h]; omega
    ·have := digit_nat u h
     unfold decval
     simp only [List.foldl_cons, List.foldl_nil]
     rw [this]; omega
    ·rw [digit_nat u h]; omega
   ·obtain ⟨h1, h2, h3, h4⟩ := ih (u / 10) (by omega)
    rw [decDigits_big h]
    have hd := digit_nat (u % 10) (by omega)
    refine ⟨by simp, ?_, ?_, fun _ => ?_⟩
    ·intro c hc
     rcases List.mem_append.1 hc with hc | hc
     ·exact h2 c hc
     ·rw [List.mem_singleton] at hc
      rw [hc, hd]; omega
    ·rw [decval_snoc, h3, hd]; omega
    ·obtain ⟨d, r, e1, e2⟩ := h4 (by omega)
     exact ⟨d, r ++ [UInt8.ofNat (48 + u % 10)], by rw [e1]; rfl, e2⟩
theorem decDigits_run (u : Nat) : Run (Lib.decDigits u) := by
 obtain ⟨h1, h2, h3, h4⟩ := decDigits_facts u
 refine ⟨h1, h2, ?_⟩
 rcases Nat.eq_zero_or_pos u with h | h
 ·subst h
  exact .inl (by rw [Lib.decDigits_one (by decide)]; rfl)
 ·exact .inr (h4 h)
theorem tok_itoa (z : Int) : Tok (Lib.itoa z) z := by
 by_cases hz : z < 0
 ·obtain ⟨u, rfl⟩ : ∃ u : Nat, z = -(u : Int) := ⟨z.natAbs, by omega⟩
  have hu : 1 ≤ u := by omega
  rw [Lib.itoa_neg u hu]
  refine .inr ⟨_, rfl, decDigits_run u, ?_, by rw [(decDigits_facts u).2.2.1]⟩
  obtain ⟨d, r, e1, e2⟩ := (decDigits_facts u).2.2.2 hu
  rw [e1]
  intro e
  injection e with e3 e4
  subst e3
  exact e2 (by decide)
 ·obtain ⟨u, rfl⟩ : ∃ u : Nat, z = (u : Int) := ⟨z.natAbs, by omega⟩
  rw [Lib.itoa_nonneg]
  exact .inl ⟨decDigits_run u, by rw [(decDigits_facts u).2.2.1]⟩
end Go.Proofs.YtfjbijpagaipnaaGreatDoor
