import Derived.Test.YtfjbijpagaipnabGreatDoorR17
import Derived.Test.YtfjbijpagaipnabGreatDoorR28
import Derived.Test.YtfjbijpagaipnabGreatDoorR06
import Derived.Test.YtfjbijpagaipnabGreatDoorR24
import Derived.Deep.RegionHeld3
import Derived.Deep.CutRange
namespace Go.Proofs.YtfjbijpagaipnabGreatDoor.R
open Go.RowKit
def IR (w : World) (v : Value) (xs : List Nat) : Prop := ∃ ao cap, v = .slice ao xs.length cap ∧ xs.length ≤ cap ∧ cap ≤ 9223372036854775807 ∧ (0 < cap → ∃ g o, ao = some ⟨g, o, none⟩) ∧ ∀ i, i < xs.length → ∃ g o, ao = some ⟨g, o, none⟩ ∧ w.cell? ⟨g, o + i, none⟩ = some (.int .i64 ((xs.getD i 0 : Nat) : Int))
theorem IR.below {w w' : World} {v : Value} {xs : List Nat} (h : IR w v xs) (hb : Below w.heap.size w w') : IR w' v xs := by
 obtain ⟨ao, cap, h1, h2, h3, h3', h4⟩ := h
 refine ⟨ao, cap, h1, h2, h3, h3', fun i hi => ?_⟩
 obtain ⟨g, o, e1, e2⟩ := h4 i hi
 exact ⟨g, o, e1, cell_later hb e2⟩
theorem IR.of_own {w : World} {v : Value} {xs : List Nat} (h : Own w v xs) : IR w v xs := by
 rcases id h.2 with ⟨rfl, hn⟩ | ⟨g, cap, cur, rfl, -, hh, h1, h3, h4, h5⟩
 ·have : xs = [] := List.eq_nil_of_length_eq_zero hn
  subst this
  exact ⟨none, 0, rfl, Nat.le_refl _, by omega, by omega, fun i hi => by simp at hi⟩
 ·refine ⟨_, cap, rfl, h1, by simpa [maxLen] using h3, fun _ => ⟨g, 0, rfl⟩, fun i hi => ⟨g, 0, rfl, ?_⟩⟩
  rw [Nat.zero_add]
  exact Own.cell h rfl i hi
theorem IR.tail {w : World} {g o m cap r0 : Nat} {rs : List Nat} (h : IR w (.slice (some ⟨g, o, none⟩) m cap) (r0 :: rs)) {A : Addr} (hA : 1 < cap → A = ⟨g, o + 1, none⟩) : IR w (.slice (some A) (m - 1) (cap - 1)) rs := by
 obtain ⟨ao, cap', e, h2, h3, -, h4⟩ := h
 simp only [Value.slice.injEq] at e
 obtain ⟨rfl, rfl, rfl⟩ := e
 simp only [List.length_cons] at h2
 refine ⟨some A, cap - 1, by simp, by omega, by omega, fun h => ⟨g, o + 1, by rw [hA (by omega)]⟩, fun i hi => ?_⟩
 obtain ⟨g', o', e1, e2⟩ := h4 (i + 1) (by simpa using hi)
 simp only [Option.some.injEq, Addr.mk.injEq, and_true] at e1
 obtain ⟨rfl, rfl⟩ := e1
 refine ⟨g, o + 1, by rw [hA (by omega)], ?_⟩
 rw [show o + 1 + i = o + (i + 1) from by omega, e2]
 simp
theorem addr_add (g o j : Nat) : (⟨g, o, none⟩ : Addr).add j = ⟨g, o + j, none⟩ := by
 unfold Addr.add
 by_cases h : j = 0
 ·subst h; simp
 ·simp [h]
theorem append_digits (w : World) {ops : Array Oper} {rest : List Oper} {o : Oper} {a : Act} {Q : Exit → Act → World → Prop} (hgd : o.guard = none) (s x : Operand)
 (ho : o.op = .call { callee := .builtin .append, args := #[s, x], argTypes := #[51, 51] }) (B : Nat) (v : Value) (zs : List Nat) (hs : a.eval s = v) (hown : OwnB B w v zs)
 (ad : Addr) (m c : Nat) (hx : a.eval x = .slice (some ad) m c) (ns : List Nat) (hn : ns.length = m) (hc : ∀ j, j < m → w.cell? (ad.add j) = some (.int .i64 ((ns.getD j 0 : Nat) : Int))) (hl : zs.length + m ≤ 30000) (hB : B ≤ w.heap.size)
 (hK : ∀ v' w', OwnB B w' v' (zs ++ ns) → w.grownBy w' v.ownBlock → wpList Tryz.prog ops Q rest (a.put o.dst v') w') : wpList Tryz.prog ops Q (o :: rest) a w := by
 obtain ⟨i, hi, hz0, hz1, hz2⟩ := info_parts Tryz.info3
 refine wpList_append_own w hgd s x 51 ho B 3 i (.int .i64 0) 1 8 Tryz.underlying51 hi hz0 hz1 hz2 rfl (by decide) v zs.length (lcells zs) hs hown ad m c (lcells ns) hx (by simp [lcells, hn]) ?_ ?_ ?_ ?_ hB ?_
 ·intro j u hj
  have hjm : j < ns.length := by
   rcases Nat.lt_or_ge j ns.length with h | h
   ·exact h
   ·rw [List.getElem?_eq_none (by simpa [lcells] using h)] at hj; cases hj
  rw [lcells_get ns j hjm] at hj
  rw [hc j (by omega), hj]
 ·intro u hu
  obtain ⟨y, -, rfl⟩ := List.mem_map.1 hu
  rfl
 ·unfold maxLen; omega
 ·omega
 ·intro v' w' h1 h2 _
  refine hK v' w' ?_ h2
  unfold OwnB
  rw [List.length_append, hn, show lcells (zs ++ ns) = lcells zs ++ lcells ns from by simp [lcells]]
  exact h1
def minorF (f : Nat → Nat → Int) : List Nat → List Nat → Int
 | [], _ => 1
 | r :: rs, cols => sumF cols.length fun k => signed k (f r (cols.getD k 0) * minorF f rs (cols.eraseIdx k))
theorem getD_erase (xs : List Nat) (k j : Nat) : (xs.eraseIdx k).getD j 0 = xs.getD (skip k j) 0 := by
 unfold skip
 rw [List.getD, List.getElem?_eraseIdx]
 split <;> rfl
theorem sumF_congr {n : Nat} {g h : Nat → Int} (he : ∀ k, k < n → g k = h k) : sumF n g = sumF n h := by
 induction n with
 | zero => rfl
 | succ n ih => rw [sumF, sumF, ih (fun k hk => he k (by omega)), he n (by omega)]
theorem detF_congr {n : Nat} {f g : Nat → Nat → Int} (he : ∀ i j, f i j = g i j) : detF n f = detF n g := by
 have : f = g := by funext i j; exact he i j
 rw [this]
theorem minor_det (f : Nat → Nat → Int) : ∀ (rows cols : List Nat), cols.length = rows.length → minorF f rows cols = detF rows.length (fun i j => f (rows.getD i 0) (cols.getD j 0)) := by
 intro rows
 induction rows with
 | nil => intro cols _; rfl
 | cons r rs ih =>
   intro cols hl
   rw [minorF, List.length_cons, detF, hl, List.length_cons]
   refine sumF_congr (fun k hk => ?_)
   rw [ih (cols.eraseIdx k) (by rw [List.length_eraseIdx, if_pos (by simp at hl; omega)]; simp at hl; omega)]
   congr 2
   exact detF_congr (fun i j => by rw [getD_erase]; rfl)
theorem NBox.drew2 {w : World} {b : Nat} {x y : Value} (h : NBox w b x y) : NBox w.drew b x y := h
def LM (L : Nat) : Nat → Nat
 | 0 => 3
 | n + 1 => L + LM L n + (n + 5)
def MinorSaid (n : Nat) : Prop := ∀ (b r c : Nat) (gs : Nat → Nat) (f : Nat → Nat → Int) (B L : Nat) (rv cv : Value) (rows cols : List Nat) (w : World), IsR B w b r c gs f L → IR w rv rows → IR w cv cols → rows.length = n → cols.length = n → (∀ x ∈ rows, x < r) → (∀ x ∈ cols, x < c) → L ≤ 1000000000 → LM L n ≤ 10000000000 → n ≤ 100 →
    Calls Tryz.prog 205 #[.pointer (some ⟨b, 0, none⟩), rv, cv] w fun e w' => ∃ v, e = .returned v ∧ NOut w w' v (minorF f rows cols) (LM L n)
set_option maxRecDepth 100000 in
theorem minor_zero : MinorSaid 0 := by
 intro b r c gs f B L rv cv rows cols w _ hr hc hn hm _ _ _ _ _
 have h0 : rows = [] := List.eq_nil_of_length_eq_zero hn
 subst h0
 obtain ⟨ao, cap, rfl, -⟩ := hr
 clear hc hm hn
 go_enter Tryz.func205, Tryz.ntmps205
 go_wp2_with fail
 refine (of_any 1 _ (by omega)).mono ?_
 rintro e w1 ⟨v1, rfl, hv1, hb1⟩
 obtain ⟨nb, so, cp, zs, rfl, -⟩ := hv1.parts
 have hR := (NBox.new w (.bool false) (.slice none 0 0) rfl).below hb1 (by simp)
 obtain ⟨s0, s1, s2, s3⟩ := hR.cells
 have hb0 : Below w.heap.size w w1 := ((Below.refl _ _).alloc (Nat.le_refl _) _).trans (hb1.mono (by simp))
 have K := Hid.mk (And.intro hR (And.intro hv1 hb0))
 clear hv1 hb1 hR hb0
 go_wp2_with fail
 obtain ⟨g1, g2, -, -⟩ := (K.out.1.put (.bool nb) (.slice so zs.length cp)).cells
 refine bodyPost_ret (v := .agg #[.bool nb, .slice so zs.length cp]) ?_ rfl ?_
 ·(simp [results, Tryz.results205, go_sem, g1, g2]; done)
 ·exact ⟨_, rfl, K.out.2.1.box K.out.1.ty (by decide) _ _, (K.out.2.2.setCell (Nat.le_refl _) _).setCell (Nat.le_refl _) _⟩
set_option maxRecDepth 100000 in
set_option maxHeartbeats 4000000 in
theorem minor_succ (n : Nat) (ih : MinorSaid n) : MinorSaid (n + 1) := by
 intro b r c gs f B L rv cv rows cols w hI hrv hcv hrl hcl hrr hcc hL hLM hn
 obtain ⟨r0, rs, rfl⟩ : ∃ r0 rs, rows = r0 :: rs := by
  match rows, hrl with
  | r0 :: rs, _ => exact ⟨r0, rs, rfl⟩
 have hrs : rs.length = n := by simpa using hrl
 have hr0 : r0 < r := hrr r0 (by simp)
 have HIH := Hid.mk ih
 have HC := Hid.mk (And.intro hrs (And.intro hcl (And.intro hrr (And.intro hcc (And.intro hLM hI)))))
 obtain ⟨ra, rcap, rfl, q1, q2, q3, q4⟩ := id hrv
 obtain ⟨ca, ccap, rfl, d1, d2, d3, d4⟩ := id hcv
 obtain ⟨rg, ro, rfl, y0⟩ := q4 0 (by simp)
 obtain ⟨cg, co, rfl, -⟩ := d4 0 (by omega)
 have hrv' := Hid.mk (And.intro hrv hcv)
 rw [show (r0 :: rs).length = n + 1 from by simp [hrs]] at hrv' ⊢
 rw [hcl] at hrv' ⊢
 have q1' : n + 1 ≤ rcap := by simpa [hrs] using q1
 have d1' : n + 1 ≤ ccap := by omega
 have y0' : w.cell? ⟨rg, ro, none⟩ = some (.int .i64 (r0 : Int)) := by simpa using y0
 have HY := Hid.mk (And.intro y0' d4)
 clear ih hrs hrl hcl hrr hcc hLM hI hrv hcv q4 d4 y0 y0' q1 d1 q3 d3
 obtain ⟨m, hm⟩ : ∃ m, m = n + 1 := ⟨_, rfl⟩
 have HM := Hid.mk hm
 rw [← hm] at q1' d1' hn ⊢
 rw [← hm] at hrv'
 have hm0 : ((m : Int) == 0) = false := beq_eq_false_iff_ne.2 (by omega)
 have hmp : 1 ≤ m := by omega
 have hmi : (0 : Int) < (m : Int) := by omega
 have hm1 : 0 < m := by omega
 clear hm
 go_enter Tryz.func205, Tryz.ntmps205
 go_wp2_with fail
 refine (of_any 0 _ (by omega)).mono ?_
 rintro e w1 ⟨v1, rfl, hv1, hb1⟩
 obtain ⟨nb, so, cp, zs, rfl, -⟩ := hv1.parts
 obtain ⟨zl, hzl⟩ : ∃ zl, zl = zs.length := ⟨_, rfl⟩
 rw [← hzl] at hv1 ⊢
 clear hzl
 have hR := (NBox.new w (.bool false) (.slice none 0 0) rfl).below hb1 (by simp)
 have hb0 : Below w.heap.size w w1 := ((Below.refl _ _).alloc (Nat.le_refl _) _).trans (hb1.mono (by simp))
 have hw1 : w.heap.size < w1.heap.size := hR.lt
 have hb11 := (Below.refl w1.heap.size w1).alloc (Nat.le_refl _) (.cells #[.bool nb, .slice so zl cp] 171)
 have K1 := Hid.mk (And.intro (hR.below hb11 hw1) (And.intro (hv1.below hb11) (And.intro (hb0.trans (hb11.mono hb0.size)) (NBox.new w1 (.bool nb) (.slice so zl cp) rfl))))
 clear hv1 hb1 hR hb0 hb11
 go_wp2_with fail
 obtain ⟨W1, hW1⟩ : ∃ W1, W1 = w1.alloc (.cells #[.bool nb, .slice so zl cp] 171) := ⟨_, rfl⟩
 rw [← hW1] at K1 ⊢
 have hsW : W1.heap.size = w1.heap.size + 1 := by rw [hW1]; simp
 obtain ⟨sb, hsb⟩ : ∃ sb, sb = w1.heap.size := ⟨_, rfl⟩
 rw [← hsb] at K1 ⊢
 have hsb1 : w.heap.size + 1 ≤ sb := by omega
 have hsW1 : W1.heap.size = sb + 1 := by omega
 clear hW1 hsb hsW hw1
 go_loopw [8] (fun k wr => ∃ (t : Nat) (nb : Bool) (so : Option Addr) (zl cp : Nat), t ≤ m ∧ k = .int .i64 t ∧ NBox wr sb (.bool nb) (.slice so zl cp) ∧ IsN wr (.agg #[.bool nb, .slice so zl cp]) (sumF t fun k => signed k (f r0 (cols.getD k 0) * minorF f rs (cols.eraseIdx k))) (L + LM L n + 3 + t) ∧ W1.grownBy wr (some sb) ∧ Below w.heap.size w wr) (fun k _ => m - (intOf k).toNat)
 case atStart => exact ⟨0, nb, so, zl, cp, Nat.zero_le _, rfl, K1.out.2.2.2, K1.out.2.1.mono (by omega), World.grownBy.refl _ _, K1.out.2.2.1⟩
 case round =>
  obtain ⟨t, nb, so, zl, cp, ht, rfl, hSB, hS, hgr, hbel⟩ := hrel
  have hwr := hbel.size
  have K := Hid.mk (And.intro hSB (And.intro hS (And.intro hgr hbel)))
  clear hSB hS hgr hbel
  by_cases htm : t < m
  ·have hti : (t : Int) < (m : Int) := by omega
   have hI := HC.out.2.2.2.2.2.keep (KR.of_below K.out.2.2.2)
   obtain ⟨c0, hc0⟩ : ∃ c0, c0 = cols.getD t 0 := ⟨_, rfl⟩
   have hcl := HC.out.2.1
   have hM := HM.out
   have hc0c : c0 < c := by
    rw [hc0]
    refine HC.out.2.2.2.1 _ ?_
    rw [List.getD, List.getElem?_eq_getElem (show t < cols.length by omega)]
    exact List.getElem_mem _
   obtain ⟨g', o', e1, e2⟩ := HY.out.2 t (by omega)
   simp only [Option.some.injEq, Addr.mk.injEq, and_true] at e1
   obtain ⟨rfl, rfl⟩ := e1
   rw [← hc0] at e2
   obtain ⟨-, ao, cap, z0, z1, z2, z3, z4, z5, z6⟩ := hI.open_
   obtain ⟨gL, rfl, x1⟩ := z5 r0 hr0
   obtain ⟨nb2, so2, n2, cp2, x2, x3, -, -, hN2⟩ := z6 r0 c0 hr0 hc0c
   rw [Nat.mul_comm 2] at x2 x3
   have y1 := cell_later K.out.2.2.2 HY.out.1
   have y2 := cell_later K.out.2.2.2 e2
   have HE := Hid.mk (And.intro hc0 hN2)
   clear hc0 hN2 z5 z6 e2 z0 z1 z3 z4 hcl hM
   have HCL := Hid.mk (show ∀ w', Below wr.heap.size wr w' → w'.cell? ⟨b, 2, none⟩ = some (.slice (some ⟨gL, 0, none⟩) r cap) ∧ w'.cell? ⟨rg, ro, none⟩ = some (.int .i64 (r0 : Int)) ∧ w'.cell? ⟨gL, r0, none⟩ = some (.slice (some ⟨gs r0, 0, none⟩) c c) ∧ w'.cell? ⟨cg, co + t, none⟩ = some (.int .i64 (c0 : Int)) ∧ w'.cell? ⟨gs r0, c0 * 2, none⟩ = some (.bool nb2) ∧ w'.cell? ⟨gs r0, c0 * 2 + 1, none⟩ = some (.slice so2 n2 cp2) from
    fun w' hb => ⟨cell_later hb z2, cell_later hb y1, cell_later hb x1, cell_later hb y2, cell_later hb x2, cell_later hb x3⟩)
   have hri : (r0 : Int) < (r : Int) := by omega
   have hci : (c0 : Int) < (c : Int) := by omega
   go_upto_region 7 with fail
   go_cut [9] from 25 to 40 (fun p wx => p = .pointer (some ⟨wr.heap.size, 0, none⟩) ∧ NBox wx wr.heap.size (.bool nb2) (.slice so2 n2 cp2) ∧ Below wr.heap.size wr wx)
   case first =>
    go_region_held3 (fun w' => w'.cell? ⟨b, 2, none⟩ = some (.slice (some ⟨gL, 0, none⟩) r cap) ∧ w'.cell? ⟨rg, ro, none⟩ = some (.int .i64 (r0 : Int)) ∧ w'.cell? ⟨gL, r0, none⟩ = some (.slice (some ⟨gs r0, 0, none⟩) c c) ∧ w'.cell? ⟨cg, co + t, none⟩ = some (.int .i64 (c0 : Int)) ∧ w'.cell? ⟨gs r0, c0 * 2, none⟩ = some (.bool nb2) ∧ w'.cell? ⟨gs r0, c0 * 2 + 1, none⟩ = some (.slice so2 n2 cp2))
     (exact HCL.out _ (by first | exact (Below.refl _ _).drew | exact ((Below.refl _ _).alloc (Nat.le_refl _) _).drew))
     (fail)
    all_goals
     go_wp2_with fail
     go_meet
     case rel => exact ⟨rfl, (NBox.new wr _ _ rfl).drew2, ((Below.refl _ _).alloc (Nat.le_refl _) _).drew⟩
   case rest =>
    obtain ⟨rfl, hXB, hbx⟩ := hcut
    obtain ⟨f0, f1, f2, f3⟩ := hXB.cells
    have K2 := Hid.mk (And.intro hXB (And.intro hbx (HE.out.2.below hbx)))
    have hwc := hbx.size
    have hxl := hXB.lt
    clear hXB hbx z2 y1 x1 y2 x2 x3
    go_wp2_with fail
    refine (sign_any _ (f r0 c0) L _ K2.out.2.2).mono ?_
    rintro e w2 ⟨rfl, hb2⟩
    obtain ⟨sg, hsg⟩ : ∃ sg, sg = sgn (f r0 c0) := ⟨_, rfl⟩
    rw [← hsg]
    have hbw2 : Below wr.heap.size wr w2 := K2.out.2.1.trans (hb2.mono hwc)
    have hX2 := K2.out.1.below hb2 hxl
    have HSG := Hid.mk hsg
    have K3 := Hid.mk (And.intro hX2 (And.intro hbw2 (K2.out.2.2.below hb2)))
    have hw2 := hbw2.size
    clear hb2 hsg hbw2 f0 f1 f2 f3
    by_cases hs0 : sg = 0
    ·subst hs0
     have hz : f r0 c0 = 0 := by
      have := HSG.out
      unfold sgn at this
      split at this
      ·omega
      ·split at this <;> omega
     have HZ := Hid.mk hz
     clear hz hX2
     go_wp2_with fail
     go_roundw
     case measure => simp [intOf]; omega
     case rel =>
      refine ⟨t + 1, nb, so, zl, cp, by omega, by go_num, K.out.1.below K3.out.2.1 K.out.1.lt, ?_, grown_below K.out.2.2.1 K3.out.2.1, K.out.2.2.2.trans (K3.out.2.1.mono hwr)⟩
      have h1 := (K.out.2.1.below K3.out.2.1).mono (M := L + LM L n + 3 + (t + 1)) (by omega)
      rw [sumF]
      rw [← HE.out.1, HZ.out]
      simpa [signed] using h1
    ·have hs1 : (sg == 0) = false := beq_eq_false_iff_ne.2 hs0
     have hcol : ∀ j, j < m → w2.cell? ⟨cg, co + j, none⟩ = some (.int .i64 ((cols.getD j 0 : Nat) : Int)) := fun j hj => by
      have hcl := HC.out.2.1
      have hM := HM.out
      obtain ⟨g', o', e1, e2⟩ := HY.out.2 j (by omega)
      simp only [Option.some.injEq, Addr.mk.injEq, and_true] at e1
      obtain ⟨rfl, rfl⟩ := e1
      exact cell_later K3.out.2.1 (cell_later K.out.2.2.2 e2)
     have hclm : cols.length = m := by rw [HM.out]; exact HC.out.2.1
     have HCO := Hid.mk (And.intro hcol hclm)
     have htc : (t : Int) ≤ (ccap : Int) := by omega
     clear hcol hclm hX2
     go_wp2_with (at_builtin; refine append_digits _ rfl _ _ rfl w2.heap.size _ [] rfl (World.ownsRow_nil _ _ _ _) ⟨cg, co, none⟩ t ccap rfl (cols.take t) ?_ ?_ ?_ (Nat.le_refl _) ?_)
     ·rw [List.length_take, HCO.out.2]; omega
     ·intro j hj
      rw [show (cols.take t).getD j 0 = cols.getD j 0 from by simp [List.getD, List.getElem?_take_of_lt hj]]
      rw [addr_add]
      exact HCO.out.1 j (by omega)
     ·simp; omega
     intro v4 w4 hown4 hgr4
     have hb4 : Below w2.heap.size w2 w4 := (Below.refl _ _).grown hgr4 (Nat.le_refl _) (fun j hj => by simp [Value.ownBlock] at hj)
     obtain ⟨ao4, cap4, hv4, -⟩ := hown4.own.open_
     obtain ⟨l4, hl4⟩ : ∃ l4, l4 = (cols.take t).length := ⟨_, rfl⟩
     rw [← hl4] at hv4
     have HL4 := Hid.mk hl4
     subst hv4
     have hw4 := hb4.size
     have K4 := Hid.mk (And.intro hown4 hb4)
     clear hown4 hgr4 hb4 hl4
     have hA : ∃ A : Addr, (if ccap = t + 1 then some (⟨cg, co, none⟩ : Addr) else some ⟨cg, co + (t + 1), none⟩) = some A ∧ (t + 1 < ccap → A = ⟨cg, co + (t + 1), none⟩) := by
      by_cases h : ccap = t + 1
      ·exact ⟨_, by rw [if_pos h], by omega⟩
      ·exact ⟨_, by rw [if_neg h], fun _ => rfl⟩
     obtain ⟨A, hA1, hA2⟩ := hA
     have hwt1 : IntKind.i64.wrap ((t : Int) + 1) = (t : Int) + 1 := IntWalk.i64_in _ (by omega)
     have hwt2 : (0 : Int) ≤ (t : Int) + 1 := by omega
     have hwt3 : (t : Int) + 1 ≤ (m : Int) := by omega
     have hwt4 : ((t : Int) + 1).toNat = t + 1 := by omega
     go_wp2_with (at_builtin; refine append_digits _ rfl _ _ rfl w2.heap.size _ (cols.take t) rfl K4.out.1 A (m - (t + 1)) (ccap - (t + 1)) rfl (cols.drop (t + 1)) ?_ ?_ ?_ hw4 ?_)
     ·rw [List.length_drop, HCO.out.2]
     ·intro j hj
      rw [hA2 (by omega), addr_add, show (cols.drop (t + 1)).getD j 0 = cols.getD (t + 1 + j) 0 from by simp [List.getD, List.getElem?_drop], Nat.add_assoc]
      exact cell_later K4.out.2 (HCO.out.1 (t + 1 + j) (by omega))
     ·rw [← HL4.out]; have := HL4.out; rw [List.length_take, HCO.out.2] at this; omega
     intro v5 w5 hown5 hgr5
     rw [← List.eraseIdx_eq_take_drop_succ] at hown5
     have hb5 : Below w2.heap.size w2 w5 := K4.out.2.grown hgr5 hw4 (fun j hj => (World.ownsRow.lt K4.out.1 j hj).1)
     obtain ⟨ao5, cap5, hv5, -⟩ := hown5.own.open_
     obtain ⟨l5, hl5⟩ : ∃ l5, l5 = (cols.eraseIdx t).length := ⟨_, rfl⟩
     rw [← hl5] at hv5
     subst hv5
     have hbr5 : Below wr.heap.size wr w5 := K3.out.2.1.trans (hb5.mono hw2)
     have hw5 := hbr5.size
     have HL5 := Hid.mk hl5
     have hX5 := K3.out.1.below hb5 K3.out.1.lt
     have K5 := Hid.mk (And.intro hown5.own (And.intro hbr5 (And.intro hX5 (K3.out.2.2.below hb5))))
     clear hown5 hgr5 hb5 hX5 hl5 hA1 hA2 hwt1 hwt2 hwt3 hwt4 hbr5
     have hA' : ∃ A' : Addr, (if rcap = 1 then some (⟨rg, ro, none⟩ : Addr) else some ⟨rg, ro + 1, none⟩) = some A' ∧ (1 < rcap → A' = ⟨rg, ro + 1, none⟩) := by
      by_cases h : rcap = 1
      ·exact ⟨_, by rw [if_pos h], by omega⟩
      ·exact ⟨_, by rw [if_neg h], fun _ => rfl⟩
     obtain ⟨A', hA1, hA2⟩ := hA'
     have HA2 := Hid.mk hA2
     clear hA2
     have hm1i : (1 : Int) ≤ (m : Int) := by omega
     have hrest : (∀ x ∈ rs, x < r) ∧ (∀ x ∈ cols.eraseIdx t, x < c) ∧ (cols.eraseIdx t).length = n := by
      refine ⟨fun x hx => HC.out.2.2.1 x (List.mem_cons_of_mem _ hx), fun x hx => HC.out.2.2.2.1 x (List.mem_of_mem_eraseIdx hx), ?_⟩
      have h1 := HC.out.2.1
      have h2 := HM.out
      rw [List.length_eraseIdx, if_pos (by omega)]
      omega
     have hLMn : LM L n ≤ 10000000000 := by have := HC.out.2.2.2.2.1; rw [LM] at this; omega
     have HRE := Hid.mk (And.intro hrest hLMn)
     have hbw5 : Below w.heap.size w w5 := K.out.2.2.2.trans (K5.out.2.1.mono hwr)
     have HB5 := Hid.mk hbw5
     clear hrest hLMn hbw5
     go_wp2_with fail
     refine (HIH.out b r c gs f B L _ _ rs (cols.eraseIdx t) _ (HC.out.2.2.2.2.2.keep (KR.of_below HB5.out)) ((hrv'.out.1.tail HA2.out).below HB5.out) ?_ HC.out.1 HRE.out.1.2.2 HRE.out.1.1 HRE.out.1.2.1 hL HRE.out.2 (by have := HM.out; omega)).mono ?_
     ·have := IR.of_own K5.out.1
      exact this
     rintro e w6 ⟨d6, rfl, hd6, hb6⟩
     obtain ⟨nb6, so6, cp6, zs6, rfl, -⟩ := hd6.parts
     obtain ⟨l6, hl6⟩ : ∃ l6, l6 = zs6.length := ⟨_, rfl⟩
     rw [← hl6] at hd6 ⊢
     clear hl6 hA1
     have hbr6 : Below wr.heap.size wr w6 := K5.out.2.1.trans (hb6.mono hw5)
     have hw6 := hbr6.size
     have hb66 := (Below.refl w6.heap.size w6).alloc (Nat.le_refl _) (.cells #[.bool nb6, .slice so6 l6 cp6] 171)
     have hbr66 := hbr6.trans (hb66.mono hw6)
     have hXB5 := K5.out.2.2.1
     have hXB6 := (hXB5.below hb6 hXB5.lt).below hb66 (by have := hXB5.lt; have := hb6.size; omega)
     obtain ⟨f0, f1, -, -⟩ := hXB6.cells
     have K6 := Hid.mk (And.intro hbr66 (And.intro ((K5.out.2.2.2.below hb6).below hb66) (And.intro (hd6.below hb66) HRE.out.2)))
     clear hd6 hb6 hb66 hbr6 hbr66 hXB5 hXB6
     go_wp2_with fail
     refine (ntimes_any _ _ (f r0 c0) (minorF f rs (cols.eraseIdx t)) L (LM L n) _ K6.out.2.1 K6.out.2.2.1 (by omega) (by have := K6.out.2.2.2; omega)).mono ?_
     rintro e w7 ⟨p7, rfl, hp7, hb7⟩
     obtain ⟨nb7, so7, cp7, zs7, rfl, -⟩ := hp7.parts
     obtain ⟨l7, hl7⟩ : ∃ l7, l7 = zs7.length := ⟨_, rfl⟩
     rw [← hl7] at hp7 ⊢
     clear hl7 f0 f1
     have hs7 : w6.heap.size + 1 ≤ w7.heap.size := by have := hb7.size; simpa using this
     have hbr7 : Below wr.heap.size wr w7 := K6.out.1.trans (hb7.mono (by simp; omega))
     have hw7 := hbr7.size
     have hb77 := (Below.refl w7.heap.size w7).alloc (Nat.le_refl _) (.cells #[.bool nb7, .slice so7 l7 cp7] 171)
     have hbr77 := hbr7.trans (hb77.mono hw7)
     have hSB7 := K.out.1.below hbr77 K.out.1.lt
     obtain ⟨f0, f1, f2, f3⟩ := hSB7.cells
     have hlt : sb < w7.heap.size := by have := K.out.1.lt; omega
     have K7 := Hid.mk (And.intro hbr77 (And.intro hSB7 (And.intro (K.out.2.1.below hbr77) (And.intro (hp7.below hb77) (NBox.new w7 (.bool nb7) (.slice so7 l7 cp7) rfl)))))
     clear hp7 hb7 hb77 hbr7 hbr77 hSB7
     have hLMn := HRE.out.2
     by_cases ht2 : t % 2 = 1
     ·have hti2 : ((t : Int) % 2 == 1) = true := beq_iff_eq.2 (by omega)
      have HT2 := Hid.mk ht2
      clear ht2
      go_wp2_with fail
      refine (minus_any _ (f r0 c0 * minorF f rs (cols.eraseIdx t)) (L + LM L n + 1) _ K7.out.2.2.2.1).mono ?_
      rintro e w9 ⟨p9, rfl, hp9, hb9⟩
      obtain ⟨nb9, so9, cp9, zs9, rfl, -⟩ := hp9.parts
      obtain ⟨l9, hl9⟩ : ∃ l9, l9 = zs9.length := ⟨_, rfl⟩
      rw [← hl9] at hp9 ⊢
      clear hl9 f0 f1 f2 f3
      have hs9 : w7.heap.size + 1 ≤ w9.heap.size := by have := hb9.size; simpa using this
      have hP9 := K7.out.2.2.2.2.below hb9 (by simp)
      have hS9 := K7.out.2.1.below hb9 (by simp; omega)
      obtain ⟨a0, a1, a2, a3⟩ := hP9.cells
      have hP9' := hP9.put (.bool nb9) (.slice so9 l9 cp9)
      have hS9' : NBox ((w9.setCell ⟨w7.heap.size, 0, none⟩ (.bool nb9)).setCell ⟨w7.heap.size, 1, none⟩ (.slice so9 l9 cp9)) sb (.bool nb) (.slice so zl cp) := by
       unfold NBox
       rw [Below.heap_setCell _ _ _ _ (by simp; omega), Below.heap_setCell _ _ _ _ (by simp; omega)]
       exact hS9
      obtain ⟨f0, f1, f2, f3⟩ := hS9'.cells
      obtain ⟨g0, g1, -, -⟩ := hP9'.cells
      have hbr9 : Below wr.heap.size wr ((w9.setCell ⟨w7.heap.size, 0, none⟩ (.bool nb9)).setCell ⟨w7.heap.size, 1, none⟩ (.slice so9 l9 cp9)) := ((K7.out.1.trans (hb9.mono K7.out.1.size)).setCell hw7 _).setCell hw7 _
      have K9 := Hid.mk (And.intro hbr9 (And.intro (hp9.box hP9.ty (by decide) (.bool nb9) (.slice so9 l9 cp9)) (And.intro ((K7.out.2.2.1.below hb9).box hP9.ty (by decide) (.bool nb9) (.slice so9 l9 cp9)) hS9')))
      clear hp9 hb9 hP9 hS9 hP9' hS9' hbr9
      go_wp2_with fail
      refine (plus_any _ _ _ (-(f r0 c0 * minorF f rs (cols.eraseIdx t))) (L + LM L n + 3 + t) (L + LM L n + 1) _ K9.out.2.2.1 K9.out.2.1 (by omega) (by omega)).mono ?_
      rintro e w8 ⟨s8, rfl, hs8, hb8⟩
      obtain ⟨nb8, so8, cp8, zs8, rfl, -⟩ := hs8.parts
      obtain ⟨l8, hl8⟩ : ∃ l8, l8 = zs8.length := ⟨_, rfl⟩
      rw [← hl8] at hs8 ⊢
      clear hl8 f0 f1 f2 f3 g0 g1 a0 a1 a2 a3
      have hbr8 : Below wr.heap.size wr w8 := K9.out.1.trans (hb8.mono K9.out.1.size)
      have hSB8 := K.out.1.below hbr8 K.out.1.lt
      obtain ⟨f0, f1, f2, f3⟩ := hSB8.cells
      have K8 := Hid.mk (And.intro hbr8 (And.intro hSB8 hs8))
      clear hs8 hb8 hbr8 hSB8
      go_wp2_with fail
      go_roundw
      case measure => simp [intOf]; omega
      case rel =>
       refine ⟨t + 1, nb8, so8, l8, cp8, by omega, by go_num, K8.out.2.1.put _ _, ?_, grown_put2 (grown_below K.out.2.2.1 K8.out.1), ((K.out.2.2.2.trans (K8.out.1.mono hwr)).setCell (by simp; omega) _).setCell (by simp; omega) _⟩
       have h1 := (K8.out.2.2.box K8.out.2.1.ty (by decide) (.bool nb8) (.slice so8 l8 cp8)).mono (M := L + LM L n + 3 + (t + 1)) (by omega)
       rw [sumF, ← HE.out.1]
       rw [show signed t (f r0 c0 * minorF f rs (cols.eraseIdx t)) = -(f r0 c0 * minorF f rs (cols.eraseIdx t)) from by unfold signed; rw [if_pos HT2.out]]
       exact h1
     ·have hti2 : ((t : Int) % 2 == 1) = false := beq_eq_false_iff_ne.2 (by omega)
      have HT2 := Hid.mk ht2
      clear ht2
      go_wp2_with fail
      refine (plus_any _ _ _ (f r0 c0 * minorF f rs (cols.eraseIdx t)) (L + LM L n + 3 + t) (L + LM L n + 1) _ K7.out.2.2.1 K7.out.2.2.2.1 (by omega) (by omega)).mono ?_
      rintro e w8 ⟨s8, rfl, hs8, hb8⟩
      obtain ⟨nb8, so8, cp8, zs8, rfl, -⟩ := hs8.parts
      obtain ⟨l8, hl8⟩ : ∃ l8, l8 = zs8.length := ⟨_, rfl⟩
      rw [← hl8] at hs8 ⊢
      clear hl8 f0 f1 f2 f3
      have hbr8 : Below wr.heap.size wr w8 := K7.out.1.trans (hb8.mono K7.out.1.size)
      have hSB8 := K.out.1.below hbr8 K.out.1.lt
      obtain ⟨f0, f1, f2, f3⟩ := hSB8.cells
      have K8 := Hid.mk (And.intro hbr8 (And.intro hSB8 hs8))
      clear hs8 hb8 hbr8 hSB8
      go_wp2_with fail
      go_roundw
      case measure => simp [intOf]; omega
      case rel =>
       refine ⟨t + 1, nb8, so8, l8, cp8, by omega, by go_num, K8.out.2.1.put _ _, ?_, grown_put2 (grown_below K.out.2.2.1 K8.out.1), ((K.out.2.2.2.trans (K8.out.1.mono hwr)).setCell (by simp; omega) _).setCell (by simp; omega) _⟩
       have h1 := (K8.out.2.2.box K8.out.2.1.ty (by decide) (.bool nb8) (.slice so8 l8 cp8)).mono (M := L + LM L n + 3 + (t + 1)) (by omega)
       rw [sumF, ← HE.out.1]
       rw [show signed t (f r0 c0 * minorF f rs (cols.eraseIdx t)) = f r0 c0 * minorF f rs (cols.eraseIdx t) from by unfold signed; rw [if_neg HT2.out]]
       exact h1
  ·have hte : t = m := by omega
   have HTE := Hid.mk hte
   obtain ⟨f0, f1, -, -⟩ := K.out.1.cells
   have hRb : wr.heap[w.heap.size]? = W1.heap[w.heap.size]? := K.out.2.2.1.block _ (by omega) (by simp; omega)
   have hRD : NBox wr w.heap.size (.bool false) (.slice none 0 0) := by unfold NBox; rw [hRb]; exact K1.out.1
   obtain ⟨s0, s1, s2, s3⟩ := hRD.cells
   have HR := Hid.mk hRD
   clear hRb hRD hte
   go_wp2_with fail
   obtain ⟨g1, g2, -, -⟩ := (HR.out.put (.bool nb) (.slice so zl cp)).cells
   refine bodyPost_ret (v := .agg #[.bool nb, .slice so zl cp]) ?_ rfl ?_
   ·(simp [results, Tryz.results205, go_sem, g1, g2]; done)
   ·refine ⟨_, rfl, ?_, (K.out.2.2.2.setCell (Nat.le_refl _) _).setCell (Nat.le_refl _) _⟩
    have h1 := K.out.2.1.box HR.out.ty (by decide) (.bool nb) (.slice so zl cp)
    have h2 := HM.out
    have h3 := HC.out.2.1
    rw [HTE.out, h2, ← h3] at h1
    rw [minorF]
    refine h1.mono ?_
    have h4 : LM L m = L + LM L n + (n + 5) := by rw [h2, LM]
    omega
theorem minor_any (n : Nat) : MinorSaid n := by
 induction n with
 | zero => exact minor_zero
 | succ n ih => exact minor_succ n ih
open Go.RowKit
set_option maxRecDepth 100000 in
set_option maxHeartbeats 1000000 in
theorem uplist_any (n : Nat) (w : World) (hn : n ≤ 1000) :
 Calls Tryz.prog 204 #[.int .i64 n] w fun e w' => ∃ r, e = .returned r ∧ Own w' r (List.range n) ∧ Below w.heap.size w w' := by
 go_enter Tryz.func204, Tryz.ntmps204
 go_wp2_with fail
 go_loopw [3, 4] (fun l i wr => ∃ k : Nat, k ≤ n ∧ i = .int .i64 k ∧ OwnB w.heap.size wr l (List.range k) ∧ Below w.heap.size w wr) (fun _ i _ => n - (intOf i).toNat)
 case atStart => exact ⟨0, Nat.zero_le _, rfl, World.ownsRow_nil _ _ _ _, Below.refl _ _⟩
 case round =>
  obtain ⟨k, hk, rfl, hown, hbel⟩ := hrel
  obtain ⟨ao, cap, hv, -⟩ := hown.own.open_
  rw [List.length_range] at hv
  subst hv
  have hwr := hbel.size
  have K := Hid.mk (And.intro hown hbel)
  clear hown hbel
  by_cases hkn : k < n
  ·have hki : (k : Int) < (n : Int) := by omega
   go_wp2_with (at_builtin; refine append_digit _ rfl _ _ rfl w.heap.size _ (List.range k) rfl ?_ ⟨_, 0, none⟩ rfl k ?_ ?_ ?_ ?_)
   ·exact World.ownsRow.alloc K.out.1 _
   ·simp [Addr.add]
   ·rw [List.length_range]; omega
   ·simp; omega
   intro v' w' q1 q2
   have hbel2 : Below w.heap.size w w' := (K.out.2.alloc hwr _).grown q2 (by simp; omega) (fun j hj => (World.ownsRow.lt K.out.1 j hj).1)
   rw [← List.range_succ] at q1
   obtain ⟨ao', cap', hv', -⟩ := q1.own.open_
   obtain ⟨l', hl'⟩ : ∃ l', l' = (List.range (k + 1)).length := ⟨_, rfl⟩
   rw [← hl'] at hv'
   subst hv'
   have K2 := Hid.mk (And.intro q1 hbel2)
   clear q1 q2 hbel2 hl'
   go_wp2_with fail
   go_roundw
   case measure => simp [intOf]; omega
   case rel => exact ⟨k + 1, by omega, by go_num, K2.out.1, K2.out.2⟩
  ·have hke : k = n := by omega
   have HKE := Hid.mk hke
   clear hke
   go_wp2_with fail
   go_ret
   refine ⟨_, rfl, ?_, K.out.2⟩
   have := K.out.1.own
   rw [HKE.out] at this ⊢
   exact this
theorem range_getD (n i : Nat) (h : i < n) : (List.range n).getD i 0 = i := by simp [List.getD, h]
theorem detF_ext : ∀ (n : Nat) (f g : Nat → Nat → Int), (∀ i j, i < n → j < n → f i j = g i j) → detF n f = detF n g := by
 intro n
 induction n with
 | zero => intro f g _; rfl
 | succ n ih =>
   intro f g he
   rw [detF, detF]
   refine sumF_congr (fun k hk => ?_)
   rw [he 0 k (by omega) hk, ih (fun i j => f (i + 1) (skip k j)) (fun i j => g (i + 1) (skip k j)) (fun i j hi hj => he _ _ (by omega) (by unfold skip; split <;> omega))]
theorem minor_range (f : Nat → Nat → Int) (n : Nat) : minorF f (List.range n) (List.range n) = detF n f := by
 rw [minor_det f _ _ rfl, List.length_range]
 exact detF_ext n _ _ (fun i j hi hj => by rw [range_getD n i hi, range_getD n j hj])
end Go.Proofs.YtfjbijpagaipnabGreatDoor.R
