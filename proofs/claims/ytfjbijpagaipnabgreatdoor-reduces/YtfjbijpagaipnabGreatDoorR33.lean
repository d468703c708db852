import Derived.Test.YtfjbijpagaipnabGreatDoorR25
import Derived.Test.YtfjbijpagaipnabGreatDoorR32
import Derived.Deep.RegionHeld3
namespace Go.Proofs.YtfjbijpagaipnabGreatDoor
open Go.RowKit R
set_option maxRecDepth 100000 in
set_option maxHeartbeats 2000000 in
theorem alike_same (v u : Value) (zs : List Nat) (w : World) (hv : R.Own w v zs) (hu : R.Own w u zs) :
 Calls Tryz.prog 216 #[v, u] w fun x w' => x = .returned (.bool true) ∧ Below w.heap.size w w' := by
 obtain ⟨ao, cap, rfl, h1, h2, -⟩ := hv.open_
 obtain ⟨bo, dap, rfl, k1, k2, -⟩ := hu.open_
 have H := Hid.mk (And.intro hv hu)
 clear hv hu
 have hnn : ((zs.length : Int) == (zs.length : Int)) = true := by simp
 go_enter Tryz.func216, Tryz.ntmps216
 go_wp2_with fail
 go_loopw [5] (fun i wr => ∃ k : Nat, k ≤ zs.length ∧ i = .int .i64 k ∧ Below w.heap.size w wr) (fun i _ => zs.length - (intOf i).toNat)
 case atStart => exact ⟨0, Nat.zero_le _, rfl, Below.refl _ _⟩
 case round =>
  obtain ⟨k, hk, rfl, hbel⟩ := hrel
  by_cases hkn : k < zs.length
  ·obtain ⟨g, rfl, e1⟩ := (H.out.1.below hbel).at_ rfl k hkn
   obtain ⟨g', rfl, e2⟩ := (H.out.2.below hbel).at_ rfl k hkn
   obtain ⟨x, hx⟩ : ∃ x, x = zs.getD k 0 := ⟨_, rfl⟩
   rw [← hx] at e1 e2
   have hxx : ((x : Int) == (x : Int)) = true := by simp
   have hki : (k : Int) < (zs.length : Int) := by omega
   have K := Hid.mk hbel
   clear hx hbel
   go_wp2_with fail
   go_region
   all_goals
    go_wp2_with fail
    go_roundw
    case measure => simp [intOf]; omega
    case rel => exact ⟨k + 1, by omega, by go_num, K.out.drew⟩
  ·have hki : ¬ (k : Int) < (zs.length : Int) := by omega
   go_wp2_with fail
   go_ret
   exact ⟨rfl, hbel⟩
set_option maxRecDepth 100000 in
set_option maxHeartbeats 2000000 in
theorem many_same (T : Nat) (v u : Value) (e : Int) (zs : List Nat) (w : World) (hv : R.Own w v zs) (hu : R.Own w u zs) :
 Calls Tryz.prog 210 #[.pointer (some ⟨T, 0, none⟩), v, .int .i64 e, u, .int .i64 e] w fun x w' => x = .returned (.tuple #[v, .int .i64 e]) ∧ Below w.heap.size w w' := by
 obtain ⟨ao, cap, rfl, -⟩ := hv.open_
 obtain ⟨bo, dap, rfl, -⟩ := hu.open_
 have H := Hid.mk (And.intro hv hu)
 clear hv hu
 have hee : (e == e) = true := by simp
 go_enter Tryz.func210, Tryz.ntmps210
 go_wp2_with fail
 refine (alike_same _ _ zs _ H.out.1 H.out.2).mono ?_
 rintro x w1 ⟨rfl, hb1⟩
 have K := Hid.mk hb1
 clear hb1
 go_wp2_with fail
 refine (like_true T _).mono ?_
 rintro x w' ⟨rfl, rfl⟩
 go_wp2_with fail
 go_ret2
 exact ⟨rfl, K.out⟩
def TwMany (B : Nat) (w w' : World) (T b1 b2 n nx : Nat) (ms : List Hm) (ok : Bool) (xs : List (Nat × Nat × List Int)) (v : Value) : Prop :=
 (ok = false ∧ v = .slice none 0 0 ∧ TwH B w' T b1 b2 ms nx ∧ Chg (St2 b1 b2) w w') ∨ (ok = true ∧ (∃ hb zs, v = .slice (some ⟨hb, 0, none⟩) n n ∧ w.heap.size ≤ hb ∧ zs.length = n ∧ (∀ j, j < n → zs.getD j 0 = nx + j) ∧ R.Own w' v zs) ∧ TwH B w' T b1 b2 (puts ms nx xs) (nx + n) ∧ Chg (St2 b1 b2) w w')
theorem own_uniq {n nx : Nat} {zs ys : List Nat} (h1 : zs.length = n) (h2 : ys.length = n) (a : ∀ j, j < n → zs.getD j 0 = nx + j) (b : ∀ j, j < n → ys.getD j 0 = nx + j) : zs = ys := by
 apply List.ext_getElem (by omega)
 intro i h3 h4
 have := (a i (by omega)).trans (b i (by omega)).symm
 simpa [List.getD, h3, h4] using this
theorem TwMany.of_outs {B : Nat} {w w1 w2 w3 : World} {T b1 b2 n nx : Nat} {ms : List Hm} {ok : Bool} {xs : List (Nat × Nat × List Int)} {v u : Value} (h : TwH B w T b1 b2 ms nx) (h1 : ManyOut w w1 b1 n nx ms ok xs v) (h2 : ManyOut w1 w2 b2 n nx ms ok xs u) (h3 : Below w2.heap.size w2 w3) : TwMany B w w3 T b1 b2 n nx ms ok xs v ∧ ∃ zs, R.Own w2 v zs ∧ R.Own w2 u zs := by
 obtain ⟨hTw, hA, hC, hbb, htab, hB1, hB2, hB3⟩ := h
 have fr1 : Fr b1 w w1 := by rcases h1 with ⟨-, -, -, f⟩ | ⟨-, _, _, _, _, _, _, _, _, f⟩ <;> exact f
 have fr2 : Fr b2 w1 w2 := by rcases h2 with ⟨-, -, -, f⟩ | ⟨-, _, _, _, _, _, _, _, _, f⟩ <;> exact f
 have hbel1 : Below B w w1 := fr1.belowB hB2 (by have := hTw.lt; omega)
 have hbel2 : Below B w1 w2 := fr2.belowB hB3 (by have := hbel1.size; have := hTw.lt; omega)
 have hs1 := fr1.1.size
 have hs2 := fr2.1.size
 have hT1 : Tw w1 T b1 b2 false := hTw.of_block (fr1.1.block T hTw.lt (by simpa using hTw.ne hA.ty))
 have hC1 : Held w1 b2 ms nx := hC.fr fr1 (Ne.symm hbb)
 have hT2 : Tw w2 T b1 b2 false := hT1.of_block (fr2.1.block T hT1.lt (by simpa using hT1.ne hC1.ty))
 have hchg : Chg (St2 b1 b2) w w3 := ((Chg.of_fr fr1 (.inl rfl)).trans (Chg.of_fr fr2 (.inr rfl))).trans (Chg.of_below h3)
 have htab3 := ((htab.below hbel1).below hbel2).below (h3.mono (by have := hbel1.size; have := hbel2.size; have := hTw.lt; omega))
 have hT3 := hT2.of_block (h3.block T hT2.lt)
 rcases h1 with ⟨rfl, rfl, a1, -⟩ | ⟨rfl, hb, zs, rfl, a1, a2, a3, a4, a5, -⟩
 ·rcases h2 with ⟨-, rfl, d1, -⟩ | ⟨e, -⟩
  ·exact ⟨.inl ⟨rfl, rfl, ⟨hT3, (a1.fr fr2 hbb).below h3, d1.below h3, hbb, htab3, hB1, hB2, hB3⟩, hchg⟩, [], R.Own.nil _, R.Own.nil _⟩
  ·cases e
 ·rcases h2 with ⟨e, -⟩ | ⟨-, hb', zs', rfl, d1, d2, d3, d4, d5, -⟩
  ·cases e
  ·have hzz := own_uniq a2 d2 a3 d3
   subst hzz
   have hne : hb ≠ b2 := by have := hC.lt; omega
   have hO : R.Own w2 (.slice (some ⟨hb, 0, none⟩) n n) zs := a4.of_block (fun g hg => by
    simp [Value.ownBlock] at hg
    subst hg
    exact fr2.1.block hb a4.lt (fun e => hne (by injection e)))
   exact ⟨.inr ⟨rfl, ⟨hb, zs, rfl, a1, a2, a3, hO.below h3⟩, ⟨hT3, (a5.fr fr2 hbb).below h3, d5.below h3, hbb, htab3, hB1, hB2, hB3⟩, hchg⟩, zs, hO, d4⟩
open Go.RowKit R
theorem RowG.stored {w : World} {T : TypeId} {g n cap : Nat} {xs : List Value} (h : RowG w T (.slice (some ⟨g, 0, none⟩) n cap) xs) (k : Nat) (u : Value) : RowG (w.setCell ⟨g, k, none⟩ u) T (.slice (some ⟨g, 0, none⟩) n cap) (xs.set k u) := by
 rcases h with ⟨e, -⟩ | ⟨g', cap', cur, e, h1, h2, h3, h4, h5⟩
 ·simp at e
 ·simp only [Value.slice.injEq, Option.some.injEq, Addr.mk.injEq] at e
  obtain ⟨⟨rfl, -⟩, rfl, rfl⟩ := e
  refine .inr ⟨g, cap, cur.set! k u, by simp, by rw [heap_setCell_same _ _ _ _ _ _ h1]; simp, by simpa using h2, by simpa using h3, h4, fun i hi => ?_⟩
  rw [List.length_set] at hi
  have h6 := h5 i hi
  rw [Array.set!_eq_setIfInBounds, Array.getElem?_setIfInBounds, List.getElem?_set]
  have hc : i < cur.size := by omega
  by_cases e : k = i
  ·subst e; simp [hc, hi]
  ·simp [e, h6]
theorem lw_lists {w : World} {W T : Nat} {hv iv lv tv : Value} {nx : Nat} (h : Lw w W T hv iv lv tv nx) (u : Value) : Lw (w.setCell ⟨W, 5, none⟩ u) W T u iv lv tv nx := by
 unfold Lw at *
 rw [heap_setCell_same _ _ _ _ _ _ h]
 simp
def MineOut (w w' : World) (W T nx g n : Nat) (hv iv lv tv : Value) (ls : List Hl) : Prop := ∃ hv', Lw w' W T hv' iv lv tv nx ∧ RowG w' 51 hv' (hlc (ls ++ [(g, n)])) ∧ RowG w' 3 (hl1 (g, n)) (List.replicate n (.int .i64 (-1 - (ls.length : Int)))) ∧ Chg (fun k => k = W ∨ hv.ownBlock = some k ∨ k = g) w w' ∧ ∀ k, hv'.ownBlock = some k → hv.ownBlock = some k ∨ w.heap.size ≤ k
set_option maxRecDepth 100000 in
set_option maxHeartbeats 4000000 in
theorem mine_any (W T nx g n : Nat) (hv iv lv tv : Value) (ls : List Hl) (zs : List Nat) (w : World) (hL : Lw w W T hv iv lv tv nx) (hrow : RowG w 51 hv (hlc ls)) (ho : R.Own w (.slice (some ⟨g, 0, none⟩) n n) zs) (hz : zs.length = n) (hn5 : n ≤ 5) (hls : ls.length ≤ 1000000) :
 Calls Tryz.prog 164 #[.pointer (some ⟨W, 0, none⟩), .slice (some ⟨g, 0, none⟩) n n] w fun x w' => x = .returned (.tuple #[]) ∧ MineOut w w' W T nx g n hv iv lv tv ls := by
 have hgt := R.Own.ty_ ho
 have hgW : g ≠ W := ty_ne hgt hL.ty (by decide)
 have hgl := hgt.lt
 have hWl := hL.lt
 have hr0 : RowG w 3 (.slice (some ⟨g, 0, none⟩) n n) (R.lcells zs) := RowG.of_owns (B := 0) (by
  have h1 : (R.lcells zs).length = zs.length := by simp [R.lcells]
  rw [h1]; exact ho)
 obtain ⟨hoa, hcap, rfl, q1, q2, -⟩ := hrow.shape
 rw [hlc_len] at hL hrow q1 ⊢
 have hgH : ∀ k, (Value.slice hoa ls.length hcap).ownBlock = some k → k ≠ g := fun k hk e => ty_ne (hrow.own k hk).2 hgt (by decide) e
 have H := Hid.mk (And.intro hL (And.intro hrow (And.intro hr0 (And.intro hgH (And.intro hgt hz)))))
 obtain ⟨c0, c1, c2, c3, c4, c5, c6⟩ := hL.cells
 clear hL hrow hr0 hgH hgt ho hz
 go_enter Tryz.func164, Tryz.ntmps164
 go_wp2_with fail
 go_loopw [4] (fun i wr => ∃ (k : Nat) (vs : List Value), k ≤ n ∧ i = .int .i64 k ∧ Hid (vs.length = n ∧ RowG wr 3 (.slice (some ⟨g, 0, none⟩) n n) vs ∧ Chg (fun k => k = g) w wr ∧ ∀ j, j < k → vs[j]? = some (.int .i64 (-1 - (ls.length : Int))))) (fun i _ => n - (intOf i).toNat)
 case atStart => exact ⟨0, R.lcells zs, Nat.zero_le _, rfl, Hid.mk ⟨by simp [R.lcells, H.out.2.2.2.2.2], H.out.2.2.1, Chg.of_below (Below.refl _ _), fun j hj => by omega⟩⟩
 case round =>
  obtain ⟨k, vs, hk, rfl, HI⟩ := hrel
  have hLr := H.out.1.of_block (HI.out.2.2.1.block hWl (fun e => hgW e.symm))
  clear c0 c1 c2 c3 c4 c5 c6
  obtain ⟨c0, c1, c2, c3, c4, c5, c6⟩ := hLr.cells
  have HLR := Hid.mk hLr
  clear hLr
  have hws := HI.out.2.2.1.size
  by_cases hkn : k < n
  ·have hki : (k : Int) < (n : Int) := by omega
   have hfz : wr.frozen? ⟨g, k, none⟩ = false := by
    rcases HI.out.2.1 with ⟨e, -⟩ | ⟨g', cap', cur, e, h1, -⟩
    ·simp at e
    ·simp only [Value.slice.injEq, Option.some.injEq, Addr.mk.injEq] at e
     obtain ⟨⟨rfl, -⟩, -⟩ := e
     simp [World.frozen?, h1]
   have hcl : ∃ y, wr.cell? ⟨g, k, none⟩ = some y := by
    obtain ⟨ao, cp, e, -, -, -, h2⟩ := HI.out.2.1.shape
    obtain ⟨g', e1, e2⟩ := h2 k (by rw [HI.out.1]; exact hkn)
    simp only [Value.slice.injEq] at e
    obtain ⟨e3, -⟩ := e
    rw [← e3] at e1
    simp only [Option.some.injEq, Addr.mk.injEq] at e1
    rw [e1.1, e2]
    exact ⟨vs[k]'(by rw [HI.out.1]; exact hkn), by simp [HI.out.1, hkn]⟩
   obtain ⟨y, hy⟩ := hcl
   go_wp2_with fail
   go_roundw
   case measure => simp [intOf]; omega
   case rel =>
    obtain ⟨i1, i2, i3, i4⟩ := HI.out
    refine ⟨k + 1, vs.set k (.int .i64 (-1 - (ls.length : Int))), by omega, by go_num, Hid.mk ⟨by simp [i1], i2.stored k _, i3.trans (Chg.setW (S := fun k => k = g) (i2.own g rfl).2 (by decide) (by decide) rfl _), fun j hj => ?_⟩⟩
    by_cases hjk : j = k
    ·subst hjk; simp [i1, hkn]
    ·rw [List.getElem?_set_ne (fun e => hjk e.symm)]; exact i4 j (by omega)
  ·have hki : ¬ (k : Int) < (n : Int) := by omega
   have hkn' : k = n := by omega
   subst hkn'
   obtain ⟨il, hil, hil0, hil1, hil2⟩ := info_parts Tryz.infoL
   have HIL := Hid.mk (And.intro hil (And.intro hil0 (And.intro hil1 hil2)))
   have hrr : RowG wr 51 (.slice hoa ls.length hcap) (hlc ls) := H.out.2.1.chg HI.out.2.2.1 (fun q hq e => H.out.2.2.2.1 q hq e)
   have HRR := Hid.mk hrr
   clear hil hil0 hil1 hil2 hrr
   go_wp2_with (at_builtin; refine wpList_append_row _ rfl _ _ 56 rfl 51 il (.slice none 0 0) 24 Tryz.underlying56 HIL.out.1 HIL.out.2.1 HIL.out.2.2.1 HIL.out.2.2.2 rfl (.slice hoa ls.length hcap) (hlc ls) rfl (HRR.out.below ?_) ⟨_, 0, none⟩ (.slice (some ⟨g, 0, none⟩) k k) rfl ?_ rfl ?_ ?_ ?_)
   ·exact (Below.refl _ _).alloc (Nat.le_refl _) _
   ·rw [hlc_len]; unfold maxLen; omega
   ·rw [hlc_len]; omega
   ·intro v' w' hA
    have HR := app_row (j := 5) HLR.out.ty ((Below.refl _ _).alloc (Nat.le_refl _) _) HRR.out hA (by decide)
    obtain ⟨voa, vcap, hve, -⟩ := hA.1.shape
    obtain ⟨vm, hvm⟩ : ∃ vm, vm = (hlc ls ++ [Value.slice (some ⟨g, 0, none⟩) k k]).length := ⟨_, rfl⟩
    rw [← hvm] at hve
    clear hvm
    subst hve
    have hLw := HLR.out.of_block HR.2.2.1
    obtain ⟨d0, d1, d2, d3, d4, d5, d6⟩ := hLw.cells
    have K := Hid.mk (And.intro HR hLw)
    clear HR hLw hA c0 c1 c2 c3 c4 c5 c6
    go_wp2_with fail
    go_end0
    obtain ⟨⟨r1, r2, -, r4⟩, hLw⟩ := K.out
    refine ⟨rfl, _, lw_lists hLw _, ?_, ?_, ?_, fun q hq => ?_⟩
    ·have : hlc (ls ++ [(g, k)]) = hlc ls ++ [Value.slice (some ⟨g, 0, none⟩) k k] := by simp [hlc, hl1]
     rw [this]; exact r1
    ·have hvs : vs = List.replicate k (.int .i64 (-1 - (ls.length : Int))) := by
      apply List.ext_getElem?
      intro a
      rcases Nat.lt_or_ge a k with h1 | h1
      ·rw [HI.out.2.2.2 a h1]; simp [h1]
      ·rw [List.getElem?_eq_none (by rw [HI.out.1]; exact h1), List.getElem?_eq_none (by simpa using h1)]
     rw [← hvs]
     refine HI.out.2.1.chg r2 (fun q hq e => ?_)
     simp [Value.ownBlock] at hq
     subst hq
     rcases e with e | e
     ·exact hgW e
     ·exact H.out.2.2.2.1 g e rfl
    ·exact (HI.out.2.2.1.mono (fun q hq => .inr (.inr hq))).trans (r2.mono (fun q hq => by
      rcases hq with hq | hq
      ·exact .inl hq
      ·exact .inr (.inl hq)))
    ·rcases r4 q hq with h | h
     ·exact .inl h
     ·exact .inr (by omega)
open Go.RowKit R
theorem put1_get {ms : List Hm} (hm : ms.length = 24) (hr : 0 < ms.countP Option.isNone) (nx : Nat) (x : Nat × Nat × List Int) (k : Nat) : (put1 ms nx x).getD k none = if k = ff ms then some (nx, x) else ms.getD k none := by
 have := (ff_free hm hr).1
 exact hm_set (by omega)
theorem puts_old : ∀ (xs : List Mx) (ms : List Hm) (nx k : Nat) (y : Nat × Nat × Nat × List Int), ms.length = 24 → xs.length ≤ ms.countP Option.isNone → ms.getD k none = some y → (puts ms nx xs).getD k none = some y := by
 intro xs
 induction xs with
 | nil => intro ms nx k y _ _ h; exact h
 | cons x xs ih =>
   intro ms nx k y hm hl h
   rw [List.length_cons] at hl
   have h1 := put1_room hm (by omega) nx x
   refine ih (put1 ms nx x) (nx + 1) k y (by simp [put1, hm]) (by omega) ?_
   rw [put1_get hm (by omega), if_neg (fun e => by
    have := (ff_free hm (show 0 < ms.countP Option.isNone by omega)).2.1
    rw [← e, h] at this; cases this)]
   exact h
def ksOf (ms : List Hm) (nx : Nat) (xs : List Mx) (j : Nat) : Nat := ff (puts ms nx (xs.take j))
theorem puts_at {xs : List Mx} {ms : List Hm} {nx : Nat} (hm : ms.length = 24) (hl : xs.length ≤ ms.countP Option.isNone) (j : Nat) (hj : j < xs.length) : ksOf ms nx xs j < 24 ∧ (puts ms nx xs).getD (ksOf ms nx xs j) none = some (nx + j, xs.getD j mxD) := by
 have htl : (xs.take j).length = j := by simp; omega
 have h1 := puts_room (xs.take j) ms nx hm (by omega)
 have hm1 : (puts ms nx (xs.take j)).length = 24 := by rw [puts_len]; exact hm
 have hf := ff_free hm1 (by omega)
 refine ⟨hf.1, ?_⟩
 have hsplit : xs = xs.take j ++ (xs.getD j mxD :: xs.drop (j + 1)) := by
  rw [show xs.getD j mxD = xs[j] from by simp [List.getD, hj], ← List.drop_eq_getElem_cons hj, List.take_append_drop]
 have key : ∀ (a b : List Mx) (ms : List Hm) (nx : Nat), puts ms nx (a ++ b) = puts (puts ms nx a) (nx + a.length) b := by
  intro a
  induction a with
  | nil => intro b ms nx; rfl
  | cons x a ih => intro b ms nx; rw [List.cons_append, puts, ih, puts, List.length_cons, show nx + 1 + a.length = nx + (a.length + 1) from by omega]
 have h2 : puts ms nx xs = puts (put1 (puts ms nx (xs.take j)) (nx + j) (xs.getD j mxD)) (nx + j + 1) (xs.drop (j + 1)) := by
  conv => lhs; rw [hsplit]
  rw [key, htl, puts]
 rw [h2]
 have h3 := put1_room hm1 (show 0 < (puts ms nx (xs.take j)).countP Option.isNone by omega) (nx + j) (xs.getD j mxD)
 refine puts_old _ _ _ _ _ (by simp [put1, hm1]) (by rw [List.length_drop]; omega) ?_
 rw [put1_get hm1 (by omega), if_pos (show ksOf ms nx xs j = ff (puts ms nx (xs.take j)) from rfl)]
theorem Rel.pushes {es : List Ent} {ms : List Hm} {nx : Nat} (h : Rel es ms nx) (xs : List Mx) (ps : List Nat) (hl : xs.length ≤ ms.countP Option.isNone) (hp : ps.length = xs.length) : Rel (es ++ ents nx xs ps) (puts ms nx xs) (nx + xs.length) := by
 have key : ∀ n, n ≤ xs.length → Rel (es ++ ents nx xs (ps.take n)) (puts ms nx (xs.take n)) (nx + n) := by
  intro n
  induction n with
  | zero => intro _; simpa [ents, puts] using h
  | succ n ih =>
    intro hn
    have h1 := ih (by omega)
    have htl : (xs.take n).length = n := by simp; omega
    have hpl : (ps.take n).length = n := by simp; omega
    have h2 := puts_room (xs.take n) ms nx h.len (by omega)
    have hf := ff_free (ms := puts ms nx (xs.take n)) (by rw [puts_len]; exact h.len) (by omega)
    have h3 := h1.push hf (xs.getD n mxD).1 (xs.getD n mxD).2.1 (xs.getD n mxD).2.2 (ps.getD n 0)
    rw [show xs.take (n + 1) = xs.take n ++ [xs.getD n mxD] from by rw [List.take_add_one, List.getD, List.getElem?_eq_getElem (by omega)]; rfl, puts_snoc, htl, show ps.take (n + 1) = ps.take n ++ [ps.getD n 0] from by rw [List.take_add_one, List.getD, List.getElem?_eq_getElem (by omega)]; rfl, ents_snoc, hpl, ← List.append_assoc]
    exact h3
 have := key xs.length (Nat.le_refl _)
 rw [List.take_of_length_le (Nat.le_refl _), List.take_of_length_le (by omega)] at this
 exact this
theorem LInv.storesG {B : Nat} {w w' : World} {W T b1 b2 : Nat} {ms : List Hm} {nx : Nat} {es : List Ent} (h : LInv B w W T b1 b2 ms nx es) (hc : Chg (St2 b1 b2) w w') (g : Nat) (hg : w.heap.size ≤ g) :
 ∃ hv iv lv tv ls, Lw w' W T hv iv lv tv nx ∧ RowG w' 3 iv (idc es) ∧ RowG w' 164 lv (lpc es) ∧ RowG w' 9 tv (txc es) ∧ (∀ k, S4 W iv lv tv k → B ≤ k ∧ k < w.heap.size) ∧ Mats w' es (fun k => Vh W hv iv lv tv b1 b2 k ∨ k = g) ∧ Hs w' hv ls (fun k => Vl W iv lv tv b1 b2 k ∨ k = g) ∧ ls.length ≤ nx ∧ ∀ g, hv.ownBlock = some g → B ≤ g ∧ g < w.heap.size := by
 obtain ⟨h1, ⟨hv, iv, lv, tv, h2, h3, h4, h5, h6, hM, ls, hH, hH2⟩, h7⟩ := h
 have key : ∀ k t, Ty w k t → t ≠ 103 → ¬ St2 b1 b2 k := fun k t hk hne hs => by
  rcases hs with hs | hs
  ·exact ty_ne hk h1.2.1.ty hne hs
  ·exact ty_ne hk h1.2.2.1.ty hne hs
 refine ⟨hv, iv, lv, tv, ls, h2.of_block (hc.block h2.lt (key W _ h2.ty (by decide))), h3.chg hc (fun k hk => key k _ (h3.own k hk).2 (by decide)), h4.chg hc (fun k hk => key k _ (h4.own k hk).2 (by decide)), h5.chg hc (fun k hk => key k _ (h5.own k hk).2 (by decide)), fun k hk => ⟨h6 k hk, ?_⟩, hM.chg hc (fun k hk => .inl (.inr hk)) (fun k hk => ?_), hH.chg hc (fun k hk => .inr hk) (fun k hk => ?_), hH2.1, fun q hq => ⟨hH2.2 q hq, (hH.1.own q hq).1⟩⟩
 ·rcases hk with hk | hk | hk | hk
  ·rw [hk]; exact h2.lt
  ·exact (h3.own k hk).1
  ·exact (h4.own k hk).1
  ·exact (h5.own k hk).1
 ·rcases hk with hk | hk
  ·exact .inl hk
  ·exact .inr (by omega)
 ·rcases hk with hk | hk
  ·exact .inl hk
  ·exact .inr (by omega)
theorem many_inv {B W T b1 b2 nx g n N0 : Nat} {hv iv lv tv ov : Value} {ls : List Hl} {ms : List Hm} {es : List Ent} {xs : List Mx} {ps : List Nat} {w w1 w2 : World} (hT : TwH B w T b1 b2 (puts ms nx xs) (nx + n)) (hn : xs.length = n) (hn1 : 1 ≤ n) (hn5 : n ≤ 5) (hR : Rel es ms nx) (hroom : n ≤ ms.countP Option.isNone)
 (hL : Lw w W T hv iv lv tv nx) (hI : RowG w 3 iv (idc es)) (hP : RowG w 164 lv (lpc es)) (hX : RowG w 9 tv (txc es)) (hS : ∀ k, S4 W iv lv tv k → B ≤ k ∧ k < N0) (hM : Mats w es (fun k => Vh W hv iv lv tv b1 b2 k ∨ k = g)) (hH : Hs w hv ls (fun k => Vl W iv lv tv b1 b2 k ∨ k = g)) (hls : ls.length ≤ nx) (hvB : ∀ q, hv.ownBlock = some q → B ≤ q ∧ q < N0)
 (hgl : g < w.heap.size) (hg0 : N0 ≤ g) (hgt : Ty w g 3) (hB : B ≤ N0) (hp : ps.length = n) (hf : ∀ j, j < n → Fine (xs.getD j mxD).1 (xs.getD j mxD).2.1 (xs.getD j mxD).2.2)
 (hst : HSt w W T hv iv lv tv nx es xs ps ov w1) (hm : ∀ iv' lv' tv', Lw w1 W T hv iv' lv' tv' (nx + n) → MineOut w1 w2 W T (nx + n) g n hv iv' lv' tv' ls) :
 LInv B w2 W T b1 b2 (puts ms nx xs) (nx + n) (es ++ ents nx xs ps) ∧ Below B w w2 ∧ Chg (fun k => S4 W iv lv tv k ∨ hv.ownBlock = some k ∨ k = g) w w2 := by
 obtain ⟨iv', lv', tv', ⟨hov, hovS⟩, ⟨hL1, hI1, hP1, hX1⟩, hS1, hmt, hC1⟩ := hst
 rw [hp] at hL1
 obtain ⟨hv', hL2, hr2, hl2, hC2, ho2⟩ := hm iv' lv' tv' hL1
 have hs1 := hC1.size
 have hs2 := hC2.size
 have hb1 : b1 < w.heap.size := hT.2.1.ty.lt
 have hb2 : b2 < w.heap.size := hT.2.2.1.ty.lt
 have hS1' : ∀ k, S4 W iv' lv' tv' k → (k < N0 ∨ w.heap.size ≤ k) ∧ B ≤ k := fun k hk => by
  rcases hS1 k hk with h | h
  ·exact ⟨.inl (hS k h).2, (hS k h).1⟩
  ·exact ⟨.inr h, by omega⟩
 have no1 : ∀ k t, Ty w k t → t ≠ 129 → t ≠ 3 → t ≠ 164 → t ≠ 9 → ¬ S4 W iv lv tv k := fun k t hk n1 n2 n3 n4 h => by
  rcases h with h | h | h | h
  ·exact ty_ne hk hL.ty n1 h
  ·exact ty_ne hk (hI.own k h).2 n2 rfl
  ·exact ty_ne hk (hP.own k h).2 n3 rfl
  ·exact ty_ne hk (hX.own k h).2 n4 rfl
 have hT1 : TwH B w1 T b1 b2 (puts ms nx xs) (nx + n) := hT.chg hC1 (no1 T _ ⟨_, _, hT.1⟩ (by decide) (by decide) (by decide) (by decide)) (no1 b1 _ hT.2.1.ty (by decide) (by decide) (by decide) (by decide)) (no1 b2 _ hT.2.2.1.ty (by decide) (by decide) (by decide) (by decide)) (fun k hk => (hS k hk).1)
 have hgS : ¬ S4 W iv lv tv g := fun h => by have := (hS g h).2; omega
 have hgt1 : Ty w1 g 3 := by
  obtain ⟨c, fr, q⟩ := hgt
  exact ⟨c, fr, by rw [hC1.block hgl hgS]; exact q⟩
 have hhv1 : RowG w1 51 hv (hlc ls) := hH.1.chg hC1 (fun k hk hs => hH.2.1 k hk (.inl (.inl hs)))
 have no2 : ∀ k t, Ty w1 k t → t ≠ 129 → t ≠ 51 → t ≠ 3 → ¬ (k = W ∨ hv.ownBlock = some k ∨ k = g) := fun k t hk n1 n2 n3 h => by
  rcases h with h | h | h
  ·exact ty_ne hk hL1.ty n1 h
  ·exact ty_ne hk (hhv1.own k h).2 n2 rfl
  ·exact ty_ne hk hgt1 n3 h
 have hB2 : ∀ k, (k = W ∨ hv.ownBlock = some k ∨ k = g) → B ≤ k := fun k hk => by
  rcases hk with hk | hk | hk
  ·rw [hk]; exact (hS W (.inl rfl)).1
  ·exact (hvB k hk).1
  ·omega
 have hT2 : TwH B w2 T b1 b2 (puts ms nx xs) (nx + n) := hT1.chg hC2 (no2 T _ ⟨_, _, hT1.1⟩ (by decide) (by decide) (by decide)) (no2 b1 _ hT1.2.1.ty (by decide) (by decide) (by decide)) (no2 b2 _ hT1.2.2.1.ty (by decide) (by decide) (by decide)) hB2
 have hivg : ∀ k, S4 W iv' lv' tv' k → k ≠ g := fun k hk e => by
  rcases (hS1' k hk).1 with h | h <;> omega
 have hI2 : RowG w2 3 iv' (idc (es ++ ents nx xs ps)) := hI1.chg hC2 (fun k hk h => by
  rcases h with h | h | h
  ·exact ty_ne (hI1.own k hk).2 hL1.ty (by decide) h
  ·exact ty_ne (hI1.own k hk).2 (hhv1.own k h).2 (by decide) rfl
  ·exact hivg k (.inr (.inl hk)) h)
 have hP2 : RowG w2 164 lv' (lpc (es ++ ents nx xs ps)) := hP1.chg hC2 (fun k hk => no2 k _ (hP1.own k hk).2 (by decide) (by decide) (by decide))
 have hX2 : RowG w2 9 tv' (txc (es ++ ents nx xs ps)) := hX1.chg hC2 (fun k hk => no2 k _ (hX1.own k hk).2 (by decide) (by decide) (by decide))
 have hVold : ∀ k, (Vh W hv' iv' lv' tv' b1 b2 k ∨ k = g) → (Vh W hv iv lv tv b1 b2 k ∨ k = g) ∨ w.heap.size ≤ k := fun k hk => by
  rcases hk with ((hk | hk) | hk) | hk
  ·rcases hS1 k hk with h | h
   ·exact .inl (.inl (.inl (.inl h)))
   ·exact .inr h
  ·exact .inl (.inl (.inl (.inr hk)))
  ·rcases ho2 k hk with h | h
   ·exact .inl (.inl (.inr h))
   ·exact .inr (by omega)
  ·exact .inl (.inr hk)
 have hC12 : Chg (fun k => S4 W iv lv tv k ∨ hv.ownBlock = some k ∨ k = g) w w2 := (hC1.mono (fun k hk => .inl hk)).trans (hC2.mono (fun k hk => by
  rcases hk with hk | hk | hk
  ·exact .inl (.inl hk)
  ·exact .inr (.inl hk)
  ·exact .inr (.inr hk)))
 have hb12 : Below B w w2 := hC12.below (fun k hk => by
  rcases hk with hk | hk | hk
  ·exact (hS k hk).1
  ·exact (hvB k hk).1
  ·omega) (by omega)
 have hnoVl : ∀ k t, Ty w2 k t → t ≠ 129 → t ≠ 3 → t ≠ 164 → t ≠ 9 → t ≠ 103 → ¬ Vl W iv' lv' tv' b1 b2 k := fun k t hk n1 n2 n3 n4 n5 h => by
  rcases h with (h | h | h | h) | h | h
  ·exact ty_ne hk hL2.ty n1 h
  ·exact ty_ne hk (hI2.own k h).2 n2 rfl
  ·exact ty_ne hk (hP2.own k h).2 n3 rfl
  ·exact ty_ne hk (hX2.own k h).2 n4 rfl
  ·exact ty_ne hk hT2.2.1.ty n5 h
  ·exact ty_ne hk hT2.2.2.1.ty n5 h
 refine ⟨⟨hT2, ⟨hv', iv', lv', tv', hL2, hI2, hP2, hX2, fun k hk => (hS1' k hk).2, Mats.app ?_ (fun e he => ?_), ls ++ [(g, n)], ⟨hr2, fun q hq => hnoVl q _ (hr2.own q hq).2 (by decide) (by decide) (by decide) (by decide) (by decide), fun i hi => ?_⟩, by simp; omega, fun q hq => ?_⟩, hn ▸ hR.pushes xs ps (by omega) (by omega)⟩, hb12, hC12⟩
 ·have h1 := hM.chg (S := fun k => S4 W iv lv tv k ∨ hv.ownBlock = some k ∨ k = g) (V' := Vh W hv' iv' lv' tv' b1 b2) hC12 (fun k hk => by
   rcases hk with hk | hk | hk
   ·exact .inl (.inl (.inl hk))
   ·exact .inl (.inr hk)
   ·exact .inr hk) (fun k hk => hVold k (.inl hk))
  exact h1
 ·unfold ents at he
  obtain ⟨j, hj, rfl⟩ := List.mem_map.1 he
  have hj' : j < ps.length := List.mem_range.1 hj
  obtain ⟨lo, hi, k1, k2, k3⟩ := hmt j hj'
  have hhi : hi ≤ w1.heap.size := by obtain ⟨_, _, _, _, _, h6⟩ := k2; exact h6
  refine ⟨_, _, _, lo, hi, rfl, hf j (by omega), k2.chg hC2 (fun k hk => ?_), fun q hq => ?_⟩
  ·rcases hk with hk | hk | hk
   ·exact k3 k (.inl (.inl hk))
   ·exact .inl (by have := (hvB k hk).2; omega)
   ·exact .inl (by omega)
  ·rcases hq with (hq | hq) | hq
   ·exact k3 q (.inl hq)
   ·rcases hq with hq | hq <;> exact .inl (by omega)
   ·rcases ho2 q hq with h | h
    ·exact .inl (by have := (hvB q h).2; omega)
    ·exact .inr (by omega)
 ·rw [List.length_append, List.length_singleton] at hi
  by_cases hil : i < ls.length
  ·have e1 : (ls ++ [(g, n)]).getD i (0, 0) = ls.getD i (0, 0) := by simp [List.getD, List.getElem?_append_left hil]
   rw [e1]
   have h1 := hH.chg (S := S4 W iv lv tv) (V' := fun k => Vl W iv' lv' tv' b1 b2 k ∨ k = g) hC1 (fun k hk => .inl (.inl hk)) (fun k hk => by
    rcases hk with (hk | hk) | hk
    ·rcases hS1 k hk with h | h
     ·exact .inl (.inl (.inl h))
     ·exact .inr h
    ·exact .inl (.inl (.inr hk))
    ·exact .inl (.inr hk))
   obtain ⟨a1, a2, a3⟩ := h1.2.2 i hil
   refine ⟨a1, fun hv2 => a2 (.inl hv2), a3.chg hC2 (fun k hk h => ?_)⟩
   have hkk := (hl1_own _ _).1 hk
   rcases h with h | h | h
   ·exact ty_ne (a3.own k hk).2 hL1.ty (by decide) h
   ·exact ty_ne (a3.own k hk).2 (hhv1.own k h).2 (by decide) rfl
   ·exact a2 (.inr (by rw [← hkk]; exact h))
  ·have hie : i = ls.length := by omega
   have e1 : (ls ++ [(g, n)]).getD i (0, 0) = (g, n) := by simp [List.getD, hie]
   rw [e1, hie]
   refine ⟨hn5, fun h => ?_, hl2⟩
   have hg2 := (hl2.own g ((hl1_own _ _).2 rfl)).2
   rcases h with (h | h | h | h) | h | h
   ·exact ty_ne hg2 hL2.ty (by decide) h
   ·exact hivg g (.inr (.inl h)) rfl
   ·exact ty_ne hg2 (hP2.own g h).2 (by decide) rfl
   ·exact ty_ne hg2 (hX2.own g h).2 (by decide) rfl
   ·exact ty_ne hg2 hT2.2.1.ty (by decide) h
   ·exact ty_ne hg2 hT2.2.2.1.ty (by decide) h
 ·rcases ho2 q hq with h | h
  ·exact (hvB q h).1
  ·omega
open Go.RowKit R
theorem FindL.none {B : Nat} {w : World} {W T b1 b2 : Nat} {ms : List Hm} {nx : Nat} {es : List Ent} (h : LInv B w W T b1 b2 ms nx es) {g : Int} (hn : ∀ e ∈ es, ((e.1 : Nat) : Int) ≠ g) : ∀ i, i < 24 → ∀ x, ms.getD i none = some x → (x.1 : Int) ≠ g := by
 intro i hi x hx he
 obtain ⟨e, hm, h1⟩ := h.2.2.all i x hi hx
 exact hn e hm (by rw [h1]; exact he)
end Go.Proofs.YtfjbijpagaipnabGreatDoor
