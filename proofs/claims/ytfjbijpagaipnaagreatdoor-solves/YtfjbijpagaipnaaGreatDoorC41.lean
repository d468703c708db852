import Derived.Test.YtfjbijpagaipnaaGreatDoorC40
import Derived.Test.YtfjbijpagaipnaaGreatDoorC38
import Derived.Deep.RegionHeld3
import Derived.Test.YtfjbijpagaipnaaGreatDoorC21
import Derived.Test.YtfjbijpagaipnaaGreatDoorC24
import Derived.Test.YtfjbijpagaipnaaGreatDoorC18
import Derived.Test.YtfjbijpagaipnaaGreatDoorC13
import Derived.Deep.CutRange
import Derived.BigQuiet
import Derived.StillTailTactics
import Derived.Test.YtfjbijpagaipnaaGreatDoorC35
import Derived.Test.YtfjbijpagaipnaaGreatDoorC39
import Derived.Test.YtfjbijpagaipnaaGreatDoorC31
namespace Go.Proofs.YtfjbijpagaipnaaGreatDoor
open Go.RowKit R
theorem RowG.stored {w : World} {T : TypeId} {g n cap : Nat} {xs : List Value} (h : RowG w T (.slice (some ⟨g, 0, none⟩) n cap) xs) (k : Nat) (u : Value) : RowG (w.setCell ⟨g, k, none⟩ u) T (.slice (some ⟨g, 0, none⟩) n cap) (xs.set k u) := by
 rcases h with ⟨e, -⟩ | ⟨g', cap', cur, e, h1, h2, h3, h4, h5⟩
 ·simp at e
 ·simp only [Value.slice.injEq, Option.some.injEq, Addr.mk.injEq] at e
  obtain ⟨⟨rfl, -⟩, rfl, rfl⟩ := e
  refine .inr ⟨g, cap, cur.set! k u, by simp, by rw [heap_setCell_same _ _ _ _ _ _ h1]; simp, by simpa using h2, by simpa using h3, h4, fun i hi => ?_⟩
  rw [List.length_set] at hi
  have h6 := h5 i hi
  rw [Array.set!_eq_setIfInBounds, Array.getElem?_setIfInBounds, List.getElem?_set]
  have hc : i < cur.size := by omega
  by_cases e : k = i
  ·subst e; simp [hc, hi]
  ·simp [e, h6]
theorem lw_lists {w : World} {W T : Nat} {hv iv lv tv : Value} {nx : Nat} (h : Lw w W T hv iv lv tv nx) (u : Value) : Lw (w.setCell ⟨W, 5, none⟩ u) W T u iv lv tv nx := by
 unfold Lw at *
 rw [heap_setCell_same _ _ _ _ _ _ h]
 simp
def MineOut (w w' : World) (W T nx g n : Nat) (hv iv lv tv : Value) (ls : List Hl) : Prop := ∃ hv', Lw w' W T hv' iv lv tv nx ∧ RowG w' 25 hv' (hlc (ls ++ [(g, n)])) ∧ RowG w' 3 (hl1 (g, n)) (List.replicate n (.int .i64 (-1 - (ls.length : Int)))) ∧ Chg (fun k => k = W ∨ hv.ownBlock = some k ∨ k = g) w w' ∧ ∀ k, hv'.ownBlock = some k → hv.ownBlock = some k ∨ w.heap.size ≤ k
set_option maxRecDepth 100000 in
set_option maxHeartbeats 4000000 in
theorem mine_any (W T nx g n : Nat) (hv iv lv tv : Value) (ls : List Hl) (zs : List Nat) (w : World) (hL : Lw w W T hv iv lv tv nx) (hrow : RowG w 25 hv (hlc ls)) (ho : R.Own w (.slice (some ⟨g, 0, none⟩) n n) zs) (hz : zs.length = n) (hn5 : n ≤ 5) (hls : ls.length ≤ 1000000) :
 Calls Tryz.prog 116 #[.pointer (some ⟨W, 0, none⟩), .slice (some ⟨g, 0, none⟩) n n] w fun x w' => x = .returned (.tuple #[]) ∧ MineOut w w' W T nx g n hv iv lv tv ls := by
 have hgt := R.Own.ty_ ho
 have hgW : g ≠ W := ty_ne hgt hL.ty (by decide)
 have hgl := hgt.lt
 have hWl := hL.lt
 have hr0 : RowG w 3 (.slice (some ⟨g, 0, none⟩) n n) (R.lcells zs) := RowG.of_owns (B := 0) (by
  have h1 : (R.lcells zs).length = zs.length := by simp [R.lcells]
  rw [h1]; exact ho)
 obtain ⟨hoa, hcap, rfl, q1, q2, -⟩ := hrow.shape
 rw [hlc_len] at hL hrow q1 ⊢
 have hgH : ∀ k, (Value.slice hoa ls.length hcap).ownBlock = some k → k ≠ g := fun k hk e => ty_ne (hrow.own k hk).2 hgt (by decide) e
 have H := Hid.mk (And.intro hL (And.intro hrow (And.intro hr0 (And.intro hgH (And.intro hgt hz)))))
 obtain ⟨c0, c1, c2, c3, c4, c5, c6⟩ := hL.cells
 clear hL hrow hr0 hgH hgt ho hz
 go_enter Tryz.func116, Tryz.ntmps116
 go_wp2_with fail
 go_loopw [4] (fun i wr => ∃ (k : Nat) (vs : List Value), k ≤ n ∧ i = .int .i64 k ∧ Hid (vs.length = n ∧ RowG wr 3 (.slice (some ⟨g, 0, none⟩) n n) vs ∧ Chg (fun k => k = g) w wr ∧ ∀ j, j < k → vs[j]? = some (.int .i64 (-1 - (ls.length : Int))))) (fun i _ => n - (intOf i).toNat)
 case atStart => exact ⟨0, R.lcells zs, Nat.zero_le _, rfl, Hid.mk ⟨by simp [R.lcells, H.out.2.2.2.2.2], H.out.2.2.1, Chg.of_below (Below.refl _ _), fun j hj => by omega⟩⟩
 case round =>
  obtain ⟨k, vs, hk, rfl, HI⟩ := hrel
  have hLr := H.out.1.of_block (HI.out.2.2.1.block hWl (fun e => hgW e.symm))
  clear c0 c1 c2 c3 c4 c5 c6
  obtain ⟨c0, c1, c2, c3, c4, c5, c6⟩ := hLr.cells
  have HLR := Hid.mk hLr
  clear hLr
  have hws := HI.out.2.2.1.size
  by_cases hkn : k < n
  ·have hki : (k : Int) < (n : Int) := by omega
   have hfz : wr.frozen? ⟨g, k, none⟩ = false := by
    rcases HI.out.2.1 with ⟨e, -⟩ | ⟨g', cap', cur, e, h1, -⟩
    ·simp at e
    ·simp only [Value.slice.injEq, Option.some.injEq, Addr.mk.injEq] at e
     obtain ⟨⟨rfl, -⟩, -⟩ := e
     simp [World.frozen?, h1]
   have hcl : ∃ y, wr.cell? ⟨g, k, none⟩ = some y := by
    obtain ⟨ao, cp, e, -, -, -, h2⟩ := HI.out.2.1.shape
    obtain ⟨g', e1, e2⟩ := h2 k (by rw [HI.out.1]; exact hkn)
    simp only [Value.slice.injEq] at e
    obtain ⟨e3, -⟩ := e
    rw [← e3] at e1
    simp only [Option.some.injEq, Addr.mk.injEq] at e1
    rw [e1.1, e2]
    exact ⟨vs[k]'(by rw [HI.out.1]; exact hkn), by simp [HI.out.1, hkn]⟩
   obtain ⟨y, hy⟩ := hcl
   go_wp2_with fail
   go_roundw
   case measure => simp [intOf]; omega
   case rel =>
    obtain ⟨i1, i2, i3, i4⟩ := HI.out
    refine ⟨k + 1, vs.set k (.int .i64 (-1 - (ls.length : Int))), by omega, by go_num, Hid.mk ⟨by simp [i1], i2.stored k _, i3.trans (Chg.setW (S := fun k => k = g) (i2.own g rfl).2 (by decide) (by decide) rfl _), fun j hj => ?_⟩⟩
    by_cases hjk : j = k
    ·subst hjk; simp [i1, hkn]
    ·rw [List.getElem?_set_ne (fun e => hjk e.symm)]; exact i4 j (by omega)
  ·have hki : ¬ (k : Int) < (n : Int) := by omega
   have hkn' : k = n := by omega
   subst hkn'
   obtain ⟨il, hil, hil0, hil1, hil2⟩ := info_parts Tryz.infoL
   have HIL := Hid.mk (And.intro hil (And.intro hil0 (And.intro hil1 hil2)))
   have hrr : RowG wr 25 (.slice hoa ls.length hcap) (hlc ls) := H.out.2.1.chg HI.out.2.2.1 (fun q hq e => H.out.2.2.2.1 q hq e)
   have HRR := Hid.mk hrr
   clear hil hil0 hil1 hil2 hrr
   go_wp2_with (at_builtin; refine wpList_append_row _ rfl _ _ 37 rfl 25 il (.slice none 0 0) 24 Tryz.underlying37 HIL.out.1 HIL.out.2.1 HIL.out.2.2.1 HIL.out.2.2.2 rfl (.slice hoa ls.length hcap) (hlc ls) rfl (HRR.out.below ?_) ⟨_, 0, none⟩ (.slice (some ⟨g, 0, none⟩) k k) rfl ?_ rfl ?_ ?_ ?_)
   ·exact (Below.refl _ _).alloc (Nat.le_refl _) _
   ·rw [hlc_len]; unfold maxLen; omega
   ·rw [hlc_len]; omega
   ·intro v' w' hA
    have HR := app_row (j := 5) HLR.out.ty ((Below.refl _ _).alloc (Nat.le_refl _) _) HRR.out hA (by decide)
    obtain ⟨voa, vcap, hve, -⟩ := hA.1.shape
    obtain ⟨vm, hvm⟩ : ∃ vm, vm = (hlc ls ++ [Value.slice (some ⟨g, 0, none⟩) k k]).length := ⟨_, rfl⟩
    rw [← hvm] at hve
    clear hvm
    subst hve
    have hLw := HLR.out.of_block HR.2.2.1
    obtain ⟨d0, d1, d2, d3, d4, d5, d6⟩ := hLw.cells
    have K := Hid.mk (And.intro HR hLw)
    clear HR hLw hA c0 c1 c2 c3 c4 c5 c6
    go_wp2_with fail
    go_end0
    obtain ⟨⟨r1, r2, -, r4⟩, hLw⟩ := K.out
    refine ⟨rfl, _, lw_lists hLw _, ?_, ?_, ?_, fun q hq => ?_⟩
    ·have : hlc (ls ++ [(g, k)]) = hlc ls ++ [Value.slice (some ⟨g, 0, none⟩) k k] := by simp [hlc, hl1]
     rw [this]; exact r1
    ·have hvs : vs = List.replicate k (.int .i64 (-1 - (ls.length : Int))) := by
      apply List.ext_getElem?
      intro a
      rcases Nat.lt_or_ge a k with h1 | h1
      ·rw [HI.out.2.2.2 a h1]; simp [h1]
      ·rw [List.getElem?_eq_none (by rw [HI.out.1]; exact h1), List.getElem?_eq_none (by simpa using h1)]
     rw [← hvs]
     refine HI.out.2.1.chg r2 (fun q hq e => ?_)
     simp [Value.ownBlock] at hq
     subst hq
     rcases e with e | e
     ·exact hgW e
     ·exact H.out.2.2.2.1 g e rfl
    ·exact (HI.out.2.2.1.mono (fun q hq => .inr (.inr hq))).trans (r2.mono (fun q hq => by
      rcases hq with hq | hq
      ·exact .inl hq
      ·exact .inr (.inl hq)))
    ·rcases r4 q hq with h | h
     ·exact .inl h
     ·exact .inr (by omega)
open Go.RowKit R
theorem put1_get {ms : List Hm} (hm : ms.length = 24) (hr : 0 < ms.countP Option.isNone) (nx : Nat) (x : Nat × Nat × List Int) (k : Nat) : (put1 ms nx x).getD k none = if k = ff ms then some (nx, x) else ms.getD k none := by
 have := (ff_free hm hr).1
 exact hm_set (by omega)
theorem puts_old : ∀ (xs : List Mx) (ms : List Hm) (nx k : Nat) (y : Nat × Nat × Nat × List Int), ms.length = 24 → xs.length ≤ ms.countP Option.isNone → ms.getD k none = some y → (puts ms nx xs).getD k none = some y := by
 intro xs
 induction xs with
 | nil => intro ms nx k y _ _ h; exact h
 | cons x xs ih =>
   intro ms nx k y hm hl h
   rw [List.length_cons] at hl
   have h1 := put1_room hm (by omega) nx x
   refine ih (put1 ms nx x) (nx + 1) k y (by simp [put1, hm]) (by omega) ?_
   rw [put1_get hm (by omega), if_neg (fun e => by
    have := (ff_free hm (show 0 < ms.countP Option.isNone by omega)).2.1
    rw [← e, h] at this; cases this)]
   exact h
def ksOf (ms : List Hm) (nx : Nat) (xs : List Mx) (j : Nat) : Nat := ff (puts ms nx (xs.take j))
theorem puts_at {xs : List Mx} {ms : List Hm} {nx : Nat} (hm : ms.length = 24) (hl : xs.length ≤ ms.countP Option.isNone) (j : Nat) (hj : j < xs.length) : ksOf ms nx xs j < 24 ∧ (puts ms nx xs).getD (ksOf ms nx xs j) none = some (nx + j, xs.getD j mxD) := by
 have htl : (xs.take j).length = j := by simp; omega
 have h1 := puts_room (xs.take j) ms nx hm (by omega)
 have hm1 : (puts ms nx (xs.take j)).length = 24 := by rw [puts_len]; exact hm
 have hf := ff_free hm1 (by omega)
 refine ⟨hf.1, ?_⟩
 have hsplit : xs = xs.take j ++ (xs.getD j mxD :: xs.drop (j + 1)) := by
  rw [show xs.getD j mxD = xs[j] from by simp [List.getD, hj], ← List.drop_eq_getElem_cons hj, List.take_append_drop]
 have key : ∀ (a b : List Mx) (ms : List Hm) (nx : Nat), puts ms nx (a ++ b) = puts (puts ms nx a) (nx + a.length) b := by
  intro a
  induction a with
  | nil => intro b ms nx; rfl
  | cons x a ih => intro b ms nx; rw [List.cons_append, puts, ih, puts, List.length_cons, show nx + 1 + a.length = nx + (a.length + 1) from by omega]
 have h2 : puts ms nx xs = puts (put1 (puts ms nx (xs.take j)) (nx + j) (xs.getD j mxD)) (nx + j + 1) (xs.drop (j + 1)) := by
  conv => lhs; rw [hsplit]
  rw [key, htl, puts]
 rw [h2]
 have h3 := put1_room hm1 (show 0 < (puts ms nx (xs.take j)).countP Option.isNone by omega) (nx + j) (xs.getD j mxD)
 refine puts_old _ _ _ _ _ (by simp [put1, hm1]) (by rw [List.length_drop]; omega) ?_
 rw [put1_get hm1 (by omega), if_pos (show ksOf ms nx xs j = ff (puts ms nx (xs.take j)) from rfl)]
theorem Rel.pushes {es : List Ent} {ms : List Hm} {nx : Nat} (h : Rel es ms nx) (xs : List Mx) (ps : List Nat) (hl : xs.length ≤ ms.countP Option.isNone) (hp : ps.length = xs.length) : Rel (es ++ ents nx xs ps) (puts ms nx xs) (nx + xs.length) := by
 have key : ∀ n, n ≤ xs.length → Rel (es ++ ents nx xs (ps.take n)) (puts ms nx (xs.take n)) (nx + n) := by
  intro n
  induction n with
  | zero => intro _; simpa [ents, puts] using h
  | succ n ih =>
    intro hn
    have h1 := ih (by omega)
    have htl : (xs.take n).length = n := by simp; omega
    have hpl : (ps.take n).length = n := by simp; omega
    have h2 := puts_room (xs.take n) ms nx h.len (by omega)
    have hf := ff_free (ms := puts ms nx (xs.take n)) (by rw [puts_len]; exact h.len) (by omega)
    have h3 := h1.push hf (xs.getD n mxD).1 (xs.getD n mxD).2.1 (xs.getD n mxD).2.2 (ps.getD n 0)
    rw [show xs.take (n + 1) = xs.take n ++ [xs.getD n mxD] from by rw [List.take_add_one, List.getD, List.getElem?_eq_getElem (by omega)]; rfl, puts_snoc, htl, show ps.take (n + 1) = ps.take n ++ [ps.getD n 0] from by rw [List.take_add_one, List.getD, List.getElem?_eq_getElem (by omega)]; rfl, ents_snoc, hpl, ← List.append_assoc]
    exact h3
 have := key xs.length (Nat.le_refl _)
 rw [List.take_of_length_le (Nat.le_refl _), List.take_of_length_le (by omega)] at this
 exact this
theorem LInv.storesG {B : Nat} {w w' : World} {W T b1 b2 : Nat} {ms : List Hm} {nx : Nat} {es : List Ent} (h : LInv B w W T b1 b2 ms nx es) (hc : Chg (St2 b1 b2) w w') (g : Nat) (hg : w.heap.size ≤ g) :
 ∃ hv iv lv tv ls, Lw w' W T hv iv lv tv nx ∧ RowG w' 3 iv (idc es) ∧ RowG w' 130 lv (lpc es) ∧ RowG w' 9 tv (txc es) ∧ (∀ k, S4 W iv lv tv k → B ≤ k ∧ k < w.heap.size) ∧ Mats w' es (fun k => Vh W hv iv lv tv b1 b2 k ∨ k = g) ∧ Hs w' hv ls (fun k => Vl W iv lv tv b1 b2 k ∨ k = g) ∧ ls.length ≤ nx ∧ ∀ g, hv.ownBlock = some g → B ≤ g ∧ g < w.heap.size := by
 obtain ⟨h1, ⟨hv, iv, lv, tv, h2, h3, h4, h5, h6, hM, ls, hH, hH2⟩, h7⟩ := h
 have key : ∀ k t, Ty w k t → t ≠ 109 → ¬ St2 b1 b2 k := fun k t hk hne hs => by
  rcases hs with hs | hs
  ·exact ty_ne hk h1.2.1.ty hne hs
  ·exact ty_ne hk h1.2.2.1.ty hne hs
 refine ⟨hv, iv, lv, tv, ls, h2.of_block (hc.block h2.lt (key W _ h2.ty (by decide))), h3.chg hc (fun k hk => key k _ (h3.own k hk).2 (by decide)), h4.chg hc (fun k hk => key k _ (h4.own k hk).2 (by decide)), h5.chg hc (fun k hk => key k _ (h5.own k hk).2 (by decide)), fun k hk => ⟨h6 k hk, ?_⟩, hM.chg hc (fun k hk => .inl (.inr hk)) (fun k hk => ?_), hH.chg hc (fun k hk => .inr hk) (fun k hk => ?_), hH2.1, fun q hq => ⟨hH2.2 q hq, (hH.1.own q hq).1⟩⟩
 ·rcases hk with hk | hk | hk | hk
  ·rw [hk]; exact h2.lt
  ·exact (h3.own k hk).1
  ·exact (h4.own k hk).1
  ·exact (h5.own k hk).1
 ·rcases hk with hk | hk
  ·exact .inl hk
  ·exact .inr (by omega)
 ·rcases hk with hk | hk
  ·exact .inl hk
  ·exact .inr (by omega)
theorem many_inv {B W T b1 b2 nx g n N0 : Nat} {hv iv lv tv ov : Value} {ls : List Hl} {ms : List Hm} {es : List Ent} {xs : List Mx} {ps : List Nat} {w w1 w2 : World} (hT : TwH B w T b1 b2 (puts ms nx xs) (nx + n)) (hn : xs.length = n) (hn1 : 1 ≤ n) (hn5 : n ≤ 5) (hR : Rel es ms nx) (hroom : n ≤ ms.countP Option.isNone)
 (hL : Lw w W T hv iv lv tv nx) (hI : RowG w 3 iv (idc es)) (hP : RowG w 130 lv (lpc es)) (hX : RowG w 9 tv (txc es)) (hS : ∀ k, S4 W iv lv tv k → B ≤ k ∧ k < N0) (hM : Mats w es (fun k => Vh W hv iv lv tv b1 b2 k ∨ k = g)) (hH : Hs w hv ls (fun k => Vl W iv lv tv b1 b2 k ∨ k = g)) (hls : ls.length ≤ nx) (hvB : ∀ q, hv.ownBlock = some q → B ≤ q ∧ q < N0)
 (hgl : g < w.heap.size) (hg0 : N0 ≤ g) (hgt : Ty w g 3) (hB : B ≤ N0) (hp : ps.length = n) (hf : ∀ j, j < n → Fine (xs.getD j mxD).1 (xs.getD j mxD).2.1 (xs.getD j mxD).2.2)
 (hst : HSt w W T hv iv lv tv nx es xs ps ov w1) (hm : ∀ iv' lv' tv', Lw w1 W T hv iv' lv' tv' (nx + n) → MineOut w1 w2 W T (nx + n) g n hv iv' lv' tv' ls) :
 LInv B w2 W T b1 b2 (puts ms nx xs) (nx + n) (es ++ ents nx xs ps) ∧ Below B w w2 ∧ Chg (fun k => S4 W iv lv tv k ∨ hv.ownBlock = some k ∨ k = g) w w2 := by
 obtain ⟨iv', lv', tv', ⟨hov, hovS⟩, ⟨hL1, hI1, hP1, hX1⟩, hS1, hmt, hC1⟩ := hst
 rw [hp] at hL1
 obtain ⟨hv', hL2, hr2, hl2, hC2, ho2⟩ := hm iv' lv' tv' hL1
 have hs1 := hC1.size
 have hs2 := hC2.size
 have hb1 : b1 < w.heap.size := hT.2.1.ty.lt
 have hb2 : b2 < w.heap.size := hT.2.2.1.ty.lt
 have hS1' : ∀ k, S4 W iv' lv' tv' k → (k < N0 ∨ w.heap.size ≤ k) ∧ B ≤ k := fun k hk => by
  rcases hS1 k hk with h | h
  ·exact ⟨.inl (hS k h).2, (hS k h).1⟩
  ·exact ⟨.inr h, by omega⟩
 have no1 : ∀ k t, Ty w k t → t ≠ 67 → t ≠ 3 → t ≠ 130 → t ≠ 9 → ¬ S4 W iv lv tv k := fun k t hk n1 n2 n3 n4 h => by
  rcases h with h | h | h | h
  ·exact ty_ne hk hL.ty n1 h
  ·exact ty_ne hk (hI.own k h).2 n2 rfl
  ·exact ty_ne hk (hP.own k h).2 n3 rfl
  ·exact ty_ne hk (hX.own k h).2 n4 rfl
 have hT1 : TwH B w1 T b1 b2 (puts ms nx xs) (nx + n) := hT.chg hC1 (no1 T _ ⟨_, _, hT.1⟩ (by decide) (by decide) (by decide) (by decide)) (no1 b1 _ hT.2.1.ty (by decide) (by decide) (by decide) (by decide)) (no1 b2 _ hT.2.2.1.ty (by decide) (by decide) (by decide) (by decide)) (fun k hk => (hS k hk).1)
 have hgS : ¬ S4 W iv lv tv g := fun h => by have := (hS g h).2; omega
 have hgt1 : Ty w1 g 3 := by
  obtain ⟨c, fr, q⟩ := hgt
  exact ⟨c, fr, by rw [hC1.block hgl hgS]; exact q⟩
 have hhv1 : RowG w1 25 hv (hlc ls) := hH.1.chg hC1 (fun k hk hs => hH.2.1 k hk (.inl (.inl hs)))
 have no2 : ∀ k t, Ty w1 k t → t ≠ 67 → t ≠ 25 → t ≠ 3 → ¬ (k = W ∨ hv.ownBlock = some k ∨ k = g) := fun k t hk n1 n2 n3 h => by
  rcases h with h | h | h
  ·exact ty_ne hk hL1.ty n1 h
  ·exact ty_ne hk (hhv1.own k h).2 n2 rfl
  ·exact ty_ne hk hgt1 n3 h
 have hB2 : ∀ k, (k = W ∨ hv.ownBlock = some k ∨ k = g) → B ≤ k := fun k hk => by
  rcases hk with hk | hk | hk
  ·rw [hk]; exact (hS W (.inl rfl)).1
  ·exact (hvB k hk).1
  ·omega
 have hT2 : TwH B w2 T b1 b2 (puts ms nx xs) (nx + n) := hT1.chg hC2 (no2 T _ ⟨_, _, hT1.1⟩ (by decide) (by decide) (by decide)) (no2 b1 _ hT1.2.1.ty (by decide) (by decide) (by decide)) (no2 b2 _ hT1.2.2.1.ty (by decide) (by decide) (by decide)) hB2
 have hivg : ∀ k, S4 W iv' lv' tv' k → k ≠ g := fun k hk e => by
  rcases (hS1' k hk).1 with h | h <;> omega
 have hI2 : RowG w2 3 iv' (idc (es ++ ents nx xs ps)) := hI1.chg hC2 (fun k hk h => by
  rcases h with h | h | h
  ·exact ty_ne (hI1.own k hk).2 hL1.ty (by decide) h
  ·exact ty_ne (hI1.own k hk).2 (hhv1.own k h).2 (by decide) rfl
  ·exact hivg k (.inr (.inl hk)) h)
 have hP2 : RowG w2 130 lv' (lpc (es ++ ents nx xs ps)) := hP1.chg hC2 (fun k hk => no2 k _ (hP1.own k hk).2 (by decide) (by decide) (by decide))
 have hX2 : RowG w2 9 tv' (txc (es ++ ents nx xs ps)) := hX1.chg hC2 (fun k hk => no2 k _ (hX1.own k hk).2 (by decide) (by decide) (by decide))
 have hVold : ∀ k, (Vh W hv' iv' lv' tv' b1 b2 k ∨ k = g) → (Vh W hv iv lv tv b1 b2 k ∨ k = g) ∨ w.heap.size ≤ k := fun k hk => by
  rcases hk with ((hk | hk) | hk) | hk
  ·rcases hS1 k hk with h | h
   ·exact .inl (.inl (.inl (.inl h)))
   ·exact .inr h
  ·exact .inl (.inl (.inl (.inr hk)))
  ·rcases ho2 k hk with h | h
   ·exact .inl (.inl (.inr h))
   ·exact .inr (by omega)
  ·exact .inl (.inr hk)
 have hC12 : Chg (fun k => S4 W iv lv tv k ∨ hv.ownBlock = some k ∨ k = g) w w2 := (hC1.mono (fun k hk => .inl hk)).trans (hC2.mono (fun k hk => by
  rcases hk with hk | hk | hk
  ·exact .inl (.inl hk)
  ·exact .inr (.inl hk)
  ·exact .inr (.inr hk)))
 have hb12 : Below B w w2 := hC12.below (fun k hk => by
  rcases hk with hk | hk | hk
  ·exact (hS k hk).1
  ·exact (hvB k hk).1
  ·omega) (by omega)
 have hnoVl : ∀ k t, Ty w2 k t → t ≠ 67 → t ≠ 3 → t ≠ 130 → t ≠ 9 → t ≠ 109 → ¬ Vl W iv' lv' tv' b1 b2 k := fun k t hk n1 n2 n3 n4 n5 h => by
  rcases h with (h | h | h | h) | h | h
  ·exact ty_ne hk hL2.ty n1 h
  ·exact ty_ne hk (hI2.own k h).2 n2 rfl
  ·exact ty_ne hk (hP2.own k h).2 n3 rfl
  ·exact ty_ne hk (hX2.own k h).2 n4 rfl
  ·exact ty_ne hk hT2.2.1.ty n5 h
  ·exact ty_ne hk hT2.2.2.1.ty n5 h
 refine ⟨⟨hT2, ⟨hv', iv', lv', tv', hL2, hI2, hP2, hX2, fun k hk => (hS1' k hk).2, Mats.app ?_ (fun e he => ?_), ls ++ [(g, n)], ⟨hr2, fun q hq => hnoVl q _ (hr2.own q hq).2 (by decide) (by decide) (by decide) (by decide) (by decide), fun i hi => ?_⟩, by simp; omega, fun q hq => ?_⟩, hn ▸ hR.pushes xs ps (by omega) (by omega)⟩, hb12, hC12⟩
 ·have h1 := hM.chg (S := fun k => S4 W iv lv tv k ∨ hv.ownBlock = some k ∨ k = g) (V' := Vh W hv' iv' lv' tv' b1 b2) hC12 (fun k hk => by
   rcases hk with hk | hk | hk
   ·exact .inl (.inl (.inl hk))
   ·exact .inl (.inr hk)
   ·exact .inr hk) (fun k hk => hVold k (.inl hk))
  exact h1
 ·unfold ents at he
  obtain ⟨j, hj, rfl⟩ := List.mem_map.1 he
  have hj' : j < ps.length := List.mem_range.1 hj
  obtain ⟨lo, hi, k1, k2, k3⟩ := hmt j hj'
  have hhi : hi ≤ w1.heap.size := by obtain ⟨_, _, _, _, _, h6⟩ := k2; exact h6
  refine ⟨_, _, _, lo, hi, rfl, hf j (by omega), k2.chg hC2 (fun k hk => ?_), fun q hq => ?_⟩
  ·rcases hk with hk | hk | hk
   ·exact k3 k (.inl (.inl hk))
   ·exact .inl (by have := (hvB k hk).2; omega)
   ·exact .inl (by omega)
  ·rcases hq with (hq | hq) | hq
   ·exact k3 q (.inl hq)
   ·rcases hq with hq | hq <;> exact .inl (by omega)
   ·rcases ho2 q hq with h | h
    ·exact .inl (by have := (hvB q h).2; omega)
    ·exact .inr (by omega)
 ·rw [List.length_append, List.length_singleton] at hi
  by_cases hil : i < ls.length
  ·have e1 : (ls ++ [(g, n)]).getD i (0, 0) = ls.getD i (0, 0) := by simp [List.getD, List.getElem?_append_left hil]
   rw [e1]
   have h1 := hH.chg (S := S4 W iv lv tv) (V' := fun k => Vl W iv' lv' tv' b1 b2 k ∨ k = g) hC1 (fun k hk => .inl (.inl hk)) (fun k hk => by
    rcases hk with (hk | hk) | hk
    ·rcases hS1 k hk with h | h
     ·exact .inl (.inl (.inl h))
     ·exact .inr h
    ·exact .inl (.inl (.inr hk))
    ·exact .inl (.inr hk))
   obtain ⟨a1, a2, a3⟩ := h1.2.2 i hil
   refine ⟨a1, fun hv2 => a2 (.inl hv2), a3.chg hC2 (fun k hk h => ?_)⟩
   have hkk := (hl1_own _ _).1 hk
   rcases h with h | h | h
   ·exact ty_ne (a3.own k hk).2 hL1.ty (by decide) h
   ·exact ty_ne (a3.own k hk).2 (hhv1.own k h).2 (by decide) rfl
   ·exact a2 (.inr (by rw [← hkk]; exact h))
  ·have hie : i = ls.length := by omega
   have e1 : (ls ++ [(g, n)]).getD i (0, 0) = (g, n) := by simp [List.getD, hie]
   rw [e1, hie]
   refine ⟨hn5, fun h => ?_, hl2⟩
   have hg2 := (hl2.own g ((hl1_own _ _).2 rfl)).2
   rcases h with (h | h | h | h) | h | h
   ·exact ty_ne hg2 hL2.ty (by decide) h
   ·exact hivg g (.inr (.inl h)) rfl
   ·exact ty_ne hg2 (hP2.own g h).2 (by decide) rfl
   ·exact ty_ne hg2 (hX2.own g h).2 (by decide) rfl
   ·exact ty_ne hg2 hT2.2.1.ty (by decide) h
   ·exact ty_ne hg2 hT2.2.2.1.ty (by decide) h
 ·rcases ho2 q hq with h | h
  ·exact (hvB q h).1
  ·omega
open Go.RowKit R
theorem FindL.none {B : Nat} {w : World} {W T b1 b2 : Nat} {ms : List Hm} {nx : Nat} {es : List Ent} (h : LInv B w W T b1 b2 ms nx es) {g : Int} (hn : ∀ e ∈ es, ((e.1 : Nat) : Int) ≠ g) : ∀ i, i < 24 → ∀ x, ms.getD i none = some x → (x.1 : Int) ≠ g := by
 intro i hi x hx he
 obtain ⟨e, hm, h1⟩ := h.2.2.all i x hi hx
 exact hn e hm (by rw [h1]; exact he)
open Go.RowKit R
theorem R.IsN.tight {w : World} {v : Value} {z : Int} {L : Nat} (h : IsN w v z L) (hz : z.natAbs < 281474976710656) : IsN w v z 4 := by
 obtain ⟨neg, sl, xs, h1, h2, h3, h4, h5, h6⟩ := h
 refine ⟨neg, sl, xs, h1, h2, h3, h4, h5, ?_⟩
 rcases Nat.lt_or_ge 4 xs.length with h7 | h7
 ·exfalso
  have h8 := R.Lim_ge h3 (by intro e; rw [e] at h7; simp at h7)
  have h9 : 10000 ^ 4 ≤ 10000 ^ (xs.length - 1) := Nat.pow_le_pow_right (by decide) (by omega)
  have h10 : z.natAbs = R.val xs := by
   cases neg
   ·rw [h5]; simp
   ·rw [h5]; simp
  omega
 ·exact h7
theorem R.IsR.tight {B : Nat} {w : World} {b r c : Nat} {gs : Nat → Nat} {f : Nat → Nat → Int} {L : Nat} (h : IsR B w b r c gs f L) (hf : ∀ i j, i < r → j < c → (f i j).natAbs < 281474976710656) : IsR B w b r c gs f 4 := by
 obtain ⟨h0, v, h1, h2, h3, h4⟩ := h
 refine ⟨h0, v, h1, h2, fun i hi => ⟨(h3 i hi).1, ?_⟩, h4⟩
 obtain ⟨cs, q1, q2, q3⟩ := (h3 i hi).2
 refine ⟨cs, q1, q2, fun j hj => ?_⟩
 obtain ⟨a, b, e1, e2, e3, e4⟩ := q3 j hj
 exact ⟨a, b, e1, e2, e3.tight (hf i j hi hj), e4⟩
theorem fits_fz {r c : Nat} {zs : List Int} (h : FitsP r c zs) : ∀ i j, i < r → j < c → (fz c zs i j).natAbs < 281474976710656 := fun _ _ hi hj => h.2.2 _ (idx_lt hi hj)
theorem nDig_le (k u : Nat) (h : u < 10 ^ (k + 1)) : Lib.nDigits u ≤ k + 1 := by
 induction k generalizing u with
 | zero => rw [Lib.nDigits_small (by simpa using h)]; exact Nat.le_refl _
 | succ k ih =>
   by_cases h1 : u < 10
   ·rw [Lib.nDigits_small h1]; omega
   ·rw [Lib.nDigits_big h1]
    have := ih (u / 10) (by rw [Nat.pow_succ] at h; omega)
    omega
theorem itoa_lenk (k : Nat) (z : Int) (h : z.natAbs < 10 ^ (k + 1)) : (Lib.itoa z).length ≤ k + 2 := by
 have h1 := nDig_le k z.natAbs h
 unfold Lib.itoa
 by_cases hz : z < 0
 ·rw [if_pos hz, List.length_cons, Lib.decDigits_length]; omega
 ·rw [if_neg hz, Lib.decDigits_length]
  rw [show z.toNat = z.natAbs from by omega]
  omega
theorem fine_small {r c k : Nat} {zs : List Int} (hr : r ≤ 4) (hc : c ≤ 4) (hl : zs.length = r * c) (hz : ∀ t, t < r * c → (zs.getD t 0).natAbs < 10 ^ (k + 1)) (hk : k ≤ 2000000000) : Fine r c zs := by
 refine ⟨by omega, by omega, hl, ?_⟩
 have hrc : r * c ≤ 16 := Nat.mul_le_mul hr hc
 have hb : ∀ (l : List (List UInt8)) (t : Nat), (∀ x ∈ l, x.length ≤ k + 2) → (bodyT c t l).length ≤ l.length * (k + 4) := by
  intro l
  induction l with
  | nil => intro t _; simp [bodyT]
  | cons a b ih =>
    intro t hx
    have h1 := hx a (by simp)
    have h2 := ih (t + 1) (fun x hx' => hx x (List.mem_cons_of_mem _ hx'))
    rw [bodyT]
    simp only [List.length_append, List.length_cons, Nat.succ_mul]
    split <;> simp <;> omega
 have h1 := hb (zs.map Lib.itoa) 0 (fun x hx => by
  obtain ⟨z, hz', rfl⟩ := List.mem_map.1 hx
  obtain ⟨i, hi, rfl⟩ := List.mem_iff_getElem.1 hz'
  have := hz i (by omega)
  rw [show zs.getD i 0 = zs[i] from by simp [List.getD, List.getElem?_eq_getElem hi]] at this
  exact itoa_lenk k _ this)
 rw [List.length_map, hl] at h1
 have h2 := dec_le2 r (by omega)
 have h3 := dec_le2 c (by omega)
 unfold matT
 simp only [List.length_append, List.length_cons]
 have : r * c * (k + 4) ≤ 16 * (k + 4) := Nat.mul_le_mul_right _ hrc
 omega
open Go.RowKit R
open Go.RowKit R
theorem lt_dec {z : Int} {m : Nat} (h : z.natAbs < 2 ^ (16 * m)) : z.natAbs < 10 ^ (5 * m) ∧ z.natAbs < 10000 ^ (2 * m) := by
 have e1 : 2 ^ (16 * m) = (65536 : Nat) ^ m := by rw [Nat.pow_mul]
 have e2 : 10 ^ (5 * m) = (100000 : Nat) ^ m := by rw [Nat.pow_mul]
 have e3 : 10000 ^ (2 * m) = (100000000 : Nat) ^ m := by rw [Nat.pow_mul]
 rw [e1] at h
 rw [e2, e3]
 exact ⟨Nat.lt_of_lt_of_le h (Nat.pow_le_pow_left (by decide) m), Nat.lt_of_lt_of_le h (Nat.pow_le_pow_left (by decide) m)⟩
theorem R.IsN.fit {w : World} {v : Value} {z : Int} {L K : Nat} (h : IsN w v z L) (hz : z.natAbs < 10000 ^ K) : IsN w v z K := by
 obtain ⟨neg, sl, xs, h1, h2, h3, h4, h5, h6⟩ := h
 refine ⟨neg, sl, xs, h1, h2, h3, h4, h5, ?_⟩
 rcases Nat.lt_or_ge K xs.length with h7 | h7
 ·exfalso
  have h8 := R.Lim_ge h3 (by intro e; rw [e] at h7; simp at h7)
  have h9 : 10000 ^ K ≤ 10000 ^ (xs.length - 1) := Nat.pow_le_pow_right (by decide) (by omega)
  have h10 : z.natAbs = R.val xs := by
   cases neg
   ·rw [h5]; simp
   ·rw [h5]; simp
  omega
 ·exact h7
theorem R.IsR.fit {B : Nat} {w : World} {b r c : Nat} {gs : Nat → Nat} {f : Nat → Nat → Int} {L m : Nat} (h : IsR B w b r c gs f L) (hf : ∀ i j, i < r → j < c → (f i j).natAbs < 2 ^ (16 * m)) : IsR B w b r c gs f (2 * m) := by
 obtain ⟨h0, v, h1, h2, h3, h4⟩ := h
 refine ⟨h0, v, h1, h2, fun i hi => ⟨(h3 i hi).1, ?_⟩, h4⟩
 obtain ⟨cs, q1, q2, q3⟩ := (h3 i hi).2
 refine ⟨cs, q1, q2, fun j hj => ?_⟩
 obtain ⟨a, b, e1, e2, e3, e4⟩ := q3 j hj
 exact ⟨a, b, e1, e2, e3.fit (lt_dec (hf i j hi hj)).2, e4⟩
theorem fine_bits {r c m : Nat} {zs : List Int} (hr : r ≤ 4) (hc : c ≤ 4) (hl : zs.length = r * c) (hz : ∀ t, t < r * c → (zs.getD t 0).natAbs < 2 ^ (16 * (m + 1))) (hm : m ≤ 399999999) : Fine r c zs :=
 fine_small (k := 5 * m + 4) hr hc hl (fun t ht => (lt_dec (hz t ht)).1) (by omega)
end Go.Proofs.YtfjbijpagaipnaaGreatDoor
namespace Go.Proofs.YtfjbijpagaipnaaGreatDoor.R
open Go.RowKit
end Go.Proofs.YtfjbijpagaipnaaGreatDoor.R
namespace Go.Proofs.YtfjbijpagaipnaaGreatDoor
open Go.RowKit R
open Go.RowKit R
theorem cnt_none (ms : List Hm) : cnt ms + ms.countP Option.isNone = ms.length := by
 unfold cnt
 induction ms with
 | nil => rfl
 | cons x ms ih =>
   cases x with
   | none => simp at ih ⊢; omega
   | some y => simp at ih ⊢; omega
theorem nil_int (w : World) : Sem.run Tryz.prog (binOp BinOp.eql 25 (Value.slice none 0 0) (Value.slice none 0 0)) w = Result.ok (Value.bool true) w := by
 have h := run_equal_slice_nil (P := Tryz.prog) w 25 _ none 0 0 Tryz.underlying25
 simp [binOp, go_sem, h, Result.andThen]
theorem Lw.inj {w : World} {W T nx : Nat} {hv iv lv tv iv' lv' tv' : Value} (h : Lw w W T hv iv lv tv nx) (h' : Lw w W T hv iv' lv' tv' nx) : iv = iv' ∧ lv = lv' ∧ tv = tv' := by
 unfold Lw at h h'
 rw [h] at h'
 simp at h'
 exact h'
end Go.Proofs.YtfjbijpagaipnaaGreatDoor
namespace Go.Proofs.YtfjbijpagaipnaaGreatDoor.R
def tr (X : Nat → Nat → Int) : Nat → Nat → Int := fun i j => X j i
theorem mv_tr (X : Nat → Nat → Int) (R C : List Nat) (hl : R.length = C.length) (h4 : R.length ≤ 4) : mv (R.map (tr X)) C = mv (C.map X) R := by
 match R, C, hl, h4 with
 | [], [], _, _ => rfl
 | [a], [x], _, _ => simp [mv, sumF, signed, tr]
 | [a, b], [x, y], _, _ => simp [mv, sumF, signed, tr]; grind
 | [a, b, c], [x, y, z], _, _ => simp [mv, sumF, signed, tr]; grind
 | [a, b, c, d], [x, y, z, u], _, _ => simp [mv, sumF, signed, tr]; grind
theorem chosenL_any {m n : Nat} {d : Int} {f : Nat → Nat → Int} {r : Nat} (hm : m ≤ 4) (h : ∀ C ∈ chosenL m n, AllD d f r C) {R C : List Nat} (hR : R.length = m) (hr : ∀ x ∈ R, x < r) (hC : C.length = m) (hc : ∀ x ∈ C, x < n) : d ∣ mv (R.map f) C := by
 have := rise_all d (tr f) R (by omega) m n [] (by simp [hR]) (fun C' hC' => by
  have h1 := chosenL_lt hC'
  rw [List.append_nil, mv_tr f C' R (by omega) (by omega)]
  exact h C' hC' R (by omega) hr) C hC hc
 rw [List.append_nil, mv_tr f C R (by omega) (by omega)] at this
 exact this
theorem div_tr (f : Nat → Nat → Int) (r c m : Nat) (hm : m ≤ 4) : divF (tr f) c r m = divF f r c m := by
 have key : ∀ (f : Nat → Nat → Int) (r c : Nat), divF f r c m ∣ divF (tr f) c r m := fun f r c => by
  rw [div_dvd _ (tr f) c r m hm]
  intro C hC R hR hRc
  have h1 := chosenL_lt hC
  rw [mv_tr f R C hR (by omega)]
  exact chosenL_any hm ((div_dvd _ f r c m hm).1 (Nat.dvd_refl _)) h1.1 h1.2 (by omega) hRc
 exact Nat.dvd_antisymm (key (tr f) c r) (key f r c)
def pr (X : Nat → Nat → Int) (o : Nat) : Nat → Int
 | 0 => 1
 | n + 1 => X o o * pr X (o + 1) n
theorem mv_up {X : Nat → Nat → Int} : ∀ n o, (∀ i j, j < i → i < o + n → X i j = 0) → mv ((List.range' o n).map X) (List.range' o n) = pr X o n := by
 intro n
 induction n with
 | zero => intro o _; simp [mv, pr]
 | succ n ih =>
   intro o hX
   rw [List.range'_succ, List.map_cons, mv, List.length_cons, sumF_one _ _ (fun k hk0 hk => ?_)]
   ·have e : signed 0 (X o ((o :: List.range' (o + 1) n).getD 0 0) * mv ((List.range' (o + 1) n).map X) ((o :: List.range' (o + 1) n).eraseIdx 0)) = X o o * mv ((List.range' (o + 1) n).map X) (List.range' (o + 1) n) := by simp [signed]
    rw [e, ih (o + 1) (fun i j h1 h2 => hX i j h1 (by omega)), pr]
   ·have hz : mv ((List.range' (o + 1) n).map X) ((o :: List.range' (o + 1) n).eraseIdx k) = 0 := by
     refine mv_zero_col o _ _ (fun v hv => ?_) ?_ ?_
     ·obtain ⟨a, ha, rfl⟩ := List.mem_map.1 hv
      have ha' := List.mem_range'_1.1 ha
      exact hX a o (by omega) (by omega)
     ·match k, hk0 with
      | k + 1, _ => simp
     ·rw [List.length_eraseIdx, if_pos (by simpa using hk)]
      simp
    rw [hz]
    unfold signed; split <;> simp
def mm (n : Nat) (X Y : Nat → Nat → Int) : Nat → Nat → Int := fun i j => dot X Y i j n
theorem sm_mulr (f : Nat → Int) (z : Int) (n : Nat) : sm f n * z = sm (fun k => f k * z) n := by
 induction n with
 | zero => simp [sm]
 | succ n ih => rw [sm, sm, Int.add_mul, ih]
theorem sm_add (f g : Nat → Int) (n : Nat) : sm f n + sm g n = sm (fun k => f k + g k) n := by
 induction n with
 | zero => rfl
 | succ n ih => rw [sm, sm, sm, ← ih]; omega
theorem sm_swap (f : Nat → Nat → Int) (m : Nat) : ∀ n, sm (fun k => sm (fun l => f k l) m) n = sm (fun l => sm (fun k => f k l) n) m := by
 intro n
 induction n with
 | zero => simp only [sm]; rw [sm_zero m (fun _ _ => rfl)]
 | succ n ih =>
   rw [sm, ih, sm_add]
   exact sm_congr m (fun l _ => by rw [sm])
theorem mm_assoc (m n : Nat) (X Y Z : Nat → Nat → Int) : mm m (mm n X Y) Z = mm n X (mm m Y Z) := by
 funext i j
 show dot (mm n X Y) Z i j m = dot X (mm m Y Z) i j n
 rw [dot_sm, dot_sm]
 have e1 : sm (fun k => mm n X Y i k * Z k j) m = sm (fun k => sm (fun l => X i l * Y l k * Z k j) n) m := sm_congr m (fun k _ => by
  show dot X Y i k n * Z k j = _
  rw [dot_sm, sm_mulr])
 rw [e1, sm_swap]
 refine sm_congr n (fun l _ => ?_)
 show _ = X i l * dot Y Z l j m
 rw [dot_sm, Int.mul_comm, sm_mulr]
 exact sm_congr m (fun k _ => by grind)
end Go.Proofs.YtfjbijpagaipnaaGreatDoor.R
namespace Go.Proofs.YtfjbijpagaipnaaGreatDoor
open Go.RowKit R
theorem R.spans_say {A H U W N : Nat → Nat → Int} {r n c k : Nat} {pc : Nat → Nat} (h : EchSt r c k pc H) (hE : EInv A H U W r c) (hc : c ≤ 4) (hA : RankIs A r c k) :
 (∃ l, RankIs A r c l ∧ RankIs (ov r A N) (r + n) c l ∧ divF (ov r A N) (r + n) c l = divF A r c l) ↔ ∀ i, i < n → Sp A r c (N i) := by
 constructor
 ·rintro ⟨l, h1, h2, h3⟩
  obtain rfl := rank_uniq hA h1
  exact (spans_iff h hE hc hA).2 ⟨h2, h3⟩
 ·intro hN
  obtain ⟨h1, h2⟩ := (spans_iff h hE hc hA).1 hN
  exact ⟨k, hA, h1, h2⟩
theorem HasF.say {A N : Nat → Nat → Int} {r n c : Nat} (h : HasF A r c) (hr : r ≤ 4) (hc : c ≤ 4) :
 (∃ l, RankIs A r c l ∧ RankIs (ov r A N) (r + n) c l ∧ divF (ov r A N) (r + n) c l = divF A r c l) ↔ ∀ i, i < n → Sp A r c (N i) := by
 obtain ⟨k, pc, H, U, W, h1, h2⟩ := h
 exact spans_say h1 h2 hc (ech_rankIs h1 h2 hr hc)
theorem sm_cut (f : Nat → Int) (m : Nat) : ∀ n, m ≤ n → (∀ l, m ≤ l → l < n → f l = 0) → sm f n = sm f m := by
 intro n
 induction n with
 | zero => intro h _; rw [show m = 0 by omega]
 | succ n ih =>
   intro h h0
   by_cases e : m = n + 1
   ·rw [e]
   ·rw [sm, ih (by omega) (fun l a b => h0 l a (by omega)), h0 n (by omega) (by omega)]; omega
theorem shL_at (H : Nat → Nat → Int) (pc : Nat → Nat) (v : Nat → Int) {r k t : Nat} (ht : t < r) : (shL H pc v r k).getD t 0 = if t < k then exQ H pc v t else 0 := by
 unfold shL
 rw [List.getD, List.getElem?_map, List.getElem?_range ht]
 rfl
theorem MemIs.back {r c : Nat} {zs vs xs : List Int} (h : MemIs r c zs vs xs) (hs : Sp (ent c zs) r c (ent c vs 0)) : ∀ i j, i < 1 → j < c → dot (fz r xs) (fz c zs) i j r = fz c vs i j := by
 obtain ⟨k, pc, hs', us, ws, hE, rfl⟩ := h
 intro i j hi hj
 obtain rfl : i = 0 := by omega
 obtain ⟨sh, hsh⟩ : ∃ sh, sh = shL (ent c hs') pc (ent c vs 0) r k := ⟨_, rfl⟩
 have e1 : dot (fz r (prodL 1 r r (shL (ent c hs') pc (ent c vs 0) r k) us)) (fz c zs) 0 j r = mm r (mm r (fz r sh) (fz r us)) (fz c zs) 0 j := by
  refine dot_congr r (fun l hl => ?_) (fun l hl => rfl)
  rw [← hsh]
  exact prodL_at (by omega) hl
 rw [e1, mm_assoc]
 have e2 : mm r (fz r sh) (mm r (fz r us) (fz c zs)) 0 j = dot (fz r sh) (ent c hs') 0 j r := dot_congr r (fun l hl => rfl) (fun l hl => hE.inv.ua l j hl hj)
 rw [e2, dot_sm]
 have hle := hE.st.le
 have e3 : sm (fun l => fz r sh 0 l * ent c hs' l j) r = sm (fun l => exQ (ent c hs') pc (ent c vs 0) l * ent c hs' l j) k := by
  rw [sm_cut _ k r hle (fun l a b => by
   show sh.getD (0 * r + l) 0 * _ = 0
   rw [Nat.zero_mul, Nat.zero_add, hsh, shL_at _ _ _ b, if_neg (by omega)]; simp)]
  refine sm_congr k (fun l hl => ?_)
  show sh.getD (0 * r + l) 0 * _ = _
  rw [Nat.zero_mul, Nat.zero_add, hsh, shL_at _ _ _ (by omega), if_pos hl]
 rw [e3]
 exact (ex_back ((mem_iff hE.st hE.inv).2 hs) j hj).symm
theorem Held.bits {w : World} {b : Nat} {ms : List Hm} {nx : Nat} (h : Held w b ms nx) {k hd r c : Nat} {zs : List Int} (hk : k < 24) (hx : ms.getD k none = some (hd, r, c, zs)) {m : Nat} (hm : 400000000 ≤ m) : ∀ t, t < r * c → (zs.getD t 0).natAbs < 2 ^ (16 * m) := by
 obtain ⟨-, -, sl, -, hsl⟩ := h
 have h1 := hsl k hk
 rw [hx] at h1
 cases hs : sl.getD k none with
 | none => rw [hs] at h1; exact h1.elim
 | some y =>
   rw [hs] at h1
   obtain ⟨-, -, -, h2, h3, s, -, h4, cs, -, h6⟩ := h1
   intro t ht
   obtain ⟨a, b, -, -, sl', xs, -, e4, e5, e6, -⟩ := h6 t ht
   have h7 := val_lt e4.1
   rw [e5] at h7
   refine Nat.lt_of_lt_of_le h7 ?_
   obtain ⟨M, hM⟩ : ∃ M, M = 200000000 := ⟨_, rfl⟩
   rw [← hM] at e6
   have h8 : (4294967296 : Nat) ^ xs.length ≤ 4294967296 ^ M := Nat.pow_le_pow_right (by decide) e6
   refine Nat.le_trans h8 ?_
   have h9 : (4294967296 : Nat) ^ M = 2 ^ (32 * M) := by rw [Nat.pow_mul]
   rw [h9]
   exact Nat.pow_le_pow_right (by decide) (by omega)
theorem Held.fine {w : World} {b : Nat} {ms : List Hm} {nx : Nat} (h : Held w b ms nx) {k hd r c : Nat} {zs : List Int} (hk : k < 24) (hx : ms.getD k none = some (hd, r, c, zs)) (hr : r ≤ 4) (hc : c ≤ 4) : Fine r c zs := by
 obtain ⟨m, hm⟩ : ∃ m, m = 399999999 := ⟨_, rfl⟩
 have hb := h.bits hk hx (m := m + 1) (by omega)
 exact fine_bits hr hc (held_side h hk hx).2.2 hb (by omega)
theorem Mats.find {w : World} {es : List Ent} {V : Nat → Prop} (hM : Mats w es V) {e : Ent} (he : e ∈ es) {r c : Nat} {zs : List Int} (h : e.2.1 = matT r c zs) (hf : Fine r c zs) : ∃ lo hi, MatAt w lo hi e.2.2 r c (fz c zs) := by
 obtain ⟨r1, c1, zs1, lo, hi, h1, h2, h3, -⟩ := hM e he
 obtain ⟨rfl, rfl, rfl⟩ := fine_eq h2 hf (by rw [← h1, h])
 exact ⟨lo, hi, h3⟩
open Go.RowKit
end Go.Proofs.YtfjbijpagaipnaaGreatDoor
