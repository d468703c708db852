import Derived.Test.YtfjbijpagaipnabGreatDoorR13
namespace Go.Proofs.YtfjbijpagaipnabGreatDoor.R
open Go.RowKit
def sgn (z : Int) : Int := if z < 0 then -1 else if 0 < z then 1 else 0
theorem IsN.parts {w : World} {v : Value} {z : Int} {L : Nat} (h : IsN w v z L) : ∃ neg ao cap xs, v = .agg #[.bool neg, .slice ao xs.length cap] ∧ Own w (.slice ao xs.length cap) xs ∧ Lim xs ∧ (neg = true → xs ≠ []) ∧ z = (if neg then -(val xs : Int) else (val xs : Int)) ∧ xs.length ≤ L := by
 obtain ⟨neg, sl, xs, rfl, h2, h3, h4, h5, h6⟩ := h
 obtain ⟨ao, cap, rfl, -⟩ := h2.open_
 exact ⟨neg, ao, cap, xs, rfl, h2, h3, h4, h5, h6⟩
theorem IsN.mono {w : World} {v : Value} {z : Int} {L M : Nat} (h : IsN w v z L) (hm : L ≤ M) : IsN w v z M := by
 obtain ⟨neg, sl, xs, h1, h2, h3, h4, h5, h6⟩ := h
 exact ⟨neg, sl, xs, h1, h2, h3, h4, h5, Nat.le_trans h6 hm⟩
theorem lim_pos {xs : List Nat} (h : Lim xs) (hne : xs ≠ []) : 0 < val xs := by
 have := val_top h (List.length_pos_iff.2 hne)
 have h2 : 0 < 10000 ^ (xs.length - 1) := Nat.pow_pos (by decide)
 omega
set_option maxRecDepth 100000 in
theorem sign_any (v : Value) (z : Int) (L : Nat) (w : World) (h : IsN w v z L) :
 Calls Tryz.prog 206 #[v] w fun e w' => e = .returned (.int .i64 (sgn z)) ∧ Below w.heap.size w w' := by
 obtain ⟨neg, ao, cap, xs, rfl, h2, h3, h4, h5, h6⟩ := h.parts
 have H := Hid.mk (And.intro h3 (And.intro h4 h5))
 clear h h2 h3 h4 h5
 by_cases h0 : xs.length = 0
 ·have h0' : ((xs.length : Int) == 0) = true := beq_iff_eq.2 (by omega)
  have hx : xs = [] := List.eq_nil_of_length_eq_zero h0
  have HX := Hid.mk hx
  clear hx h0
  go_enter Tryz.func206, Tryz.ntmps206
  go_wp2_with fail
  go_ret
  refine ⟨ret_int ?_, (Below.refl _ _).alloc (Nat.le_refl _) _⟩
  obtain ⟨h3, h4, h5⟩ := H.out
  rw [h5, HX.out]
  cases neg <;> simp [val, sgn]
 ·have h0' : ((xs.length : Int) == 0) = false := beq_eq_false_iff_ne.2 (by omega)
  have hx : xs ≠ [] := by intro e; rw [e] at h0; simp at h0
  have hp := lim_pos H.out.1 hx
  have HP := Hid.mk hp
  clear hx h0 hp
  cases neg
  ·go_enter Tryz.func206, Tryz.ntmps206
   go_wp2_with fail
   go_ret
   refine ⟨ret_int ?_, (Below.refl _ _).alloc (Nat.le_refl _) _⟩
   have h5 := H.out.2.2
   have hp := HP.out
   simp only [Bool.false_eq_true, if_false] at h5
   unfold sgn
   rw [if_neg (by omega), if_pos (by omega)]
  ·go_enter Tryz.func206, Tryz.ntmps206
   go_wp2_with fail
   go_ret
   refine ⟨ret_int ?_, (Below.refl _ _).alloc (Nat.le_refl _) _⟩
   have h5 := H.out.2.2
   have hp := HP.out
   simp only [if_true] at h5
   unfold sgn
   rw [if_pos (by omega)]
def KI (w w' : World) : Prop := ∀ (b : Nat) (arr : Array Value), w.heap[b]? = some (.cells arr 3 (0, 0)) → w'.heap[b]? = some (.cells arr 3 (0, 0))
theorem KI.refl (w : World) : KI w w := fun _ _ h => h
theorem KI.trans {a b c : World} (h : KI a b) (k : KI b c) : KI a c := fun i arr hi => k i arr (h i arr hi)
theorem KI.of_below {w w' : World} (h : Below w.heap.size w w') : KI w w' := fun i arr hi => by rw [h.block i (Array.getElem?_eq_some_iff.1 hi).1]; exact hi
theorem KI.setCell {a w : World} (h : KI a w) {b o : Nat} {t : TypeId} (ht : Ty w b t) (hne : t ≠ 3) (u : Value) : KI a (w.setCell ⟨b, o, none⟩ u) := by
 intro i arr hi
 have h1 := h i arr hi
 obtain ⟨c, fr, h2⟩ := ht
 by_cases hb : i = b
 ·subst hb
  rw [h1] at h2
  simp only [Option.some.injEq, Obj.cells.injEq] at h2
  exact absurd h2.2.1.symm hne
 ·rw [Below.heap_setCell _ _ _ _ hb]; exact h1
theorem Own.keep {w w' : World} {v : Value} {xs : List Nat} (h : Own w v xs) (hk : KI w w') : Own w' v xs := by
 refine ⟨h.1, ?_⟩
 rcases h.2 with h2 | ⟨g, cap, cur, hv, hg, hh, r⟩
 ·exact .inl h2
 ·exact .inr ⟨g, cap, cur, hv, hg, hk g cur hh, r⟩
theorem IsN.keep {w w' : World} {v : Value} {z : Int} {L : Nat} (h : IsN w v z L) (hk : KI w w') : IsN w' v z L := by
 obtain ⟨neg, sl, xs, h1, h2, h3⟩ := h
 exact ⟨neg, sl, xs, h1, h2.keep hk, h3⟩
theorem IsN.box {w : World} {v : Value} {z : Int} {L b : Nat} {t : TypeId} (h : IsN w v z L) (ht : Ty w b t) (hne : t ≠ 3) (x y : Value) : IsN ((w.setCell ⟨b, 0, none⟩ x).setCell ⟨b, 1, none⟩ y) v z L :=
 h.keep (KI.setCell (KI.setCell (KI.refl _) ht hne _) (ht.setCell _ _) hne _)
def NBox (w : World) (b : Nat) (x y : Value) : Prop := w.heap[b]? = some (.cells #[x, y] 171 (0, 0))
theorem NBox.lt {w : World} {b : Nat} {x y : Value} (h : NBox w b x y) : b < w.heap.size := (Array.getElem?_eq_some_iff.1 h).1
theorem NBox.below {B : Nat} {w w' : World} {b : Nat} {x y : Value} (h : NBox w b x y) (hb : Below B w w') (hB : b < B) : NBox w' b x y := by unfold NBox; rw [hb.block b hB]; exact h
theorem NBox.new (w : World) (x y : Value) {b : Nat} (hb : b = w.heap.size) : NBox (w.alloc (.cells #[x, y] 171)) b x y := by rw [hb]; exact heap_alloc_new w _
theorem NBox.alloc {w : World} {b : Nat} {x y : Value} (h : NBox w b x y) (o : Obj) : NBox (w.alloc o) b x y := h.below ((Below.refl _ _).alloc (Nat.le_refl _) _) h.lt
theorem NBox.ty {w : World} {b : Nat} {x y : Value} (h : NBox w b x y) : Ty w b 171 := ⟨_, _, h⟩
theorem NBox.cells {w : World} {b : Nat} {x y : Value} (h : NBox w b x y) : w.cell? ⟨b, 0, none⟩ = some x ∧ w.cell? ⟨b, 1, none⟩ = some y ∧ w.frozen? ⟨b, 0, none⟩ = false ∧ w.frozen? ⟨b, 1, none⟩ = false := by
 unfold NBox at h
 refine ⟨?_, ?_, ?_, ?_⟩ <;> simp [World.cell?, World.frozen?, h]
theorem NBox.put {w : World} {b : Nat} {x y : Value} (h : NBox w b x y) (x' y' : Value) : NBox ((w.setCell ⟨b, 0, none⟩ x').setCell ⟨b, 1, none⟩ y') b x' y' := by
 unfold NBox at *
 rw [heap_setCell_same _ _ _ _ _ _ (heap_setCell_same _ _ _ _ _ _ h)]
 simp
theorem NBox.put1 {w : World} {b : Nat} {x y : Value} (h : NBox w b x y) (x' : Value) : (w.setCell ⟨b, 0, none⟩ x').cell? ⟨b, 0, none⟩ = some x' := World.cell?_setCell_same _ _ _ h.cells.1
def NOut (w w' : World) (v : Value) (z : Int) (L : Nat) : Prop := IsN w' v z L ∧ Below w.heap.size w w'
set_option maxRecDepth 100000 in
theorem minus_any (v : Value) (z : Int) (L : Nat) (w : World) (h : IsN w v z L) :
 Calls Tryz.prog 226 #[v] w fun e w' => ∃ r, e = .returned r ∧ NOut w w' r (-z) L := by
 obtain ⟨neg, ao, cap, xs, rfl, h2, h3, h4, h5, h6⟩ := h.parts
 have H := Hid.mk (And.intro h2 (And.intro h3 (And.intro h4 (And.intro h5 h6))))
 clear h h2 h3 h4 h5 h6
 go_enter Tryz.func226, Tryz.ntmps226
 go_wp2_with fail
 refine (made_any (!neg) _ xs _ (H.out.1.below ?_) H.out.2.1.1).mono ?_
 ·repeat (first | exact Below.refl _ _ | refine Below.alloc ?_ (by simp <;> omega) _)
 rintro e w1 ⟨r, rfl, hr, hb⟩
 obtain ⟨ng, co, ecap, zs, rfl, -⟩ := hr.parts
 obtain ⟨hc, hf⟩ := bcell hb
 have hty : Ty w1 (w.heap.size + 1) 171 := Ty.below (Ty.at_ _ _ _ (by simp)) hb (by simp)
 have hz : w.heap.size + 1 < w1.heap.size := hty.lt
 have hb0 : Below w.heap.size w w1 := Below.trans (by repeat (first | exact Below.refl _ _ | refine Below.alloc ?_ (by simp <;> omega) _)) (hb.mono (by simp <;> omega))
 have K := Hid.mk (And.intro hr (And.intro hb0 hty))
 clear hr hb hb0 hty
 go_wp2_with fail
 refine bodyPost_ret (v := .agg #[.bool ng, .slice co zs.length ecap]) ?_ rfl ?_
 ·(simp [results, Tryz.results226, go_sem, hc]; done)
 ·obtain ⟨h2, h3, h4, h5, h6⟩ := H.out
  refine ⟨_, rfl, ?_, (K.out.2.1.setCell (by simp) _).setCell (by simp) _⟩
  have := (K.out.1.box K.out.2.2 (by decide) (.bool ng) (.slice co zs.length ecap)).mono h6
  rw [h5]
  cases neg
  ·simpa using this
  ·simpa using this
theorem SumOut.parts {w w' : World} {v : Value} {n L : Nat} (h : SumOut w w' v n L) : ∃ ao cap zs, v = .slice ao zs.length cap ∧ Own w' (.slice ao zs.length cap) zs ∧ Lo zs ∧ val zs = n ∧ zs.length ≤ L ∧ Below w.heap.size w w' := by
 obtain ⟨⟨zs, h1, h2, h3, h4⟩, h5⟩ := h
 obtain ⟨ao, cap, rfl, -⟩ := h4.open_
 exact ⟨ao, cap, zs, rfl, h4, h1, h2, h3, h5⟩
set_option maxRecDepth 100000 in
set_option maxHeartbeats 2000000 in
theorem plus_any (v u : Value) (x y : Int) (L M : Nat) (w : World) (hv : IsN w v x L) (hu : IsN w u y M) (hL : L ≤ 50000000000) (hM : M ≤ 50000000000) :
 Calls Tryz.prog 213 #[v, u] w fun e w' => ∃ r, e = .returned r ∧ NOut w w' r (x + y) (max L M + 1) := by
 obtain ⟨na, ao, cap, xs, rfl, h2, h3, h4, h5, h6⟩ := hv.parts
 obtain ⟨nb, bo, dap, ys, rfl, k2, k3, k4, k5, k6⟩ := hu.parts
 have H := Hid.mk (And.intro h2 (And.intro h3 (And.intro h4 (And.intro h5 h6))))
 have J := Hid.mk (And.intro k2 (And.intro k3 (And.intro k4 (And.intro k5 k6))))
 clear hv hu h2 h3 h4 h5 k2 k3 k4 k5
 by_cases hn : na = nb
 ·subst hn
  have hbq : (na == na) = true := by simp
  have BB := Hid.mk (And.intro ((((NBox.new w (.bool na) (.slice ao xs.length cap) rfl).alloc (.cells #[.bool na, .slice bo ys.length dap] 171)).alloc (.cells #[.bool false, .slice none 0 0] 171))) (And.intro ((NBox.new (w.alloc (.cells #[.bool na, .slice ao xs.length cap] 171)) (.bool na) (.slice bo ys.length dap) (b := w.heap.size + 1) (by simp)).alloc (.cells #[.bool false, .slice none 0 0] 171))
   (NBox.new ((w.alloc (.cells #[.bool na, .slice ao xs.length cap] 171)).alloc (.cells #[.bool na, .slice bo ys.length dap] 171)) (.bool false) (.slice none 0 0) (b := w.heap.size + 1 + 1) (by simp))))
  go_enter Tryz.func213, Tryz.ntmps213
  go_wp2_with fail
  refine (sum_any _ _ xs ys _ (H.out.1.below ?_) (J.out.1.below ?_) H.out.2.1.1 J.out.2.1.1 (by omega) (by omega)).mono ?_
  ·repeat (first | exact Below.refl _ _ | refine Below.alloc ?_ (by simp <;> omega) _)
  ·repeat (first | exact Below.refl _ _ | refine Below.alloc ?_ (by simp <;> omega) _)
  rintro e w1 ⟨r, rfl, hr⟩
  obtain ⟨eo, fcap, zs, rfl, oz, lz, vz, nz, hb⟩ := hr.parts
  have B1 := BB.out.1.below hb BB.out.1.lt
  have B2 := BB.out.2.1.below hb BB.out.2.1.lt
  have B3 := BB.out.2.2.below hb BB.out.2.2.lt
  have hb0 : Below w.heap.size w w1 := Below.trans (by repeat (first | exact Below.refl _ _ | refine Below.alloc ?_ (by simp <;> omega) _)) (hb.mono (by simp <;> omega))
  obtain ⟨a1, -, -, -⟩ := B1.cells
  obtain ⟨b1, -, -, -⟩ := B2.cells
  have K1 := Hid.mk (And.intro (And.intro oz (And.intro lz (And.intro vz nz))) (And.intro hb0 B3))
  clear hr hb hb0 oz lz vz nz B1 B2 B3
  go_wp2_with fail
  refine (made_any _ _ zs _ K1.out.1.1 K1.out.1.2.1).mono ?_
  rintro e w2 ⟨r2, rfl, hr2, hb2⟩
  obtain ⟨ng, co, ecap, ws, rfl, -⟩ := hr2.parts
  have B3 := K1.out.2.2.below hb2 K1.out.2.2.lt
  obtain ⟨c1, c2, c3, c4⟩ := B3.cells
  have c5 := B3.put1 (.bool ng)
  have K2 := Hid.mk (And.intro hr2 (And.intro (K1.out.2.1.trans (hb2.mono K1.out.2.1.size)) B3.ty))
  clear hr2 hb2 B3 a1 b1
  go_wp2_with fail
  refine bodyPost_ret (v := .agg #[.bool ng, .slice co ws.length ecap]) ?_ rfl ?_
  ·(simp [results, Tryz.results213, go_sem, c2, c5]; done)
  ·refine ⟨_, rfl, ?_, (K2.out.2.1.setCell (by simp <;> omega) _).setCell (by simp <;> omega) _⟩
   have fin := (K2.out.1.box K2.out.2.2 (by decide) (.bool ng) (.slice co ws.length ecap)).mono (M := max L M + 1) (by have := K1.out.1.2.2.2; omega)
   have e1 := K1.out.1.2.2.1
   have e2 := H.out.2.2.2.1
   have e3 := J.out.2.2.2.1
   rw [e1] at fin
   rw [e2, e3]
   cases na
   ·simpa using fin
   ·simp only [if_true] at fin ⊢
    rw [show -(val xs : Int) + -(val ys : Int) = -((val xs + val ys : Nat) : Int) from by omega]
    exact fin
 ·have hbq : (na == nb) = false := beq_eq_false_iff_ne.2 hn
  have BB := Hid.mk (And.intro ((((NBox.new w (.bool na) (.slice ao xs.length cap) rfl).alloc (.cells #[.bool nb, .slice bo ys.length dap] 171)).alloc (.cells #[.bool false, .slice none 0 0] 171))) (And.intro ((NBox.new (w.alloc (.cells #[.bool na, .slice ao xs.length cap] 171)) (.bool nb) (.slice bo ys.length dap) (b := w.heap.size + 1) (by simp)).alloc (.cells #[.bool false, .slice none 0 0] 171))
   (NBox.new ((w.alloc (.cells #[.bool na, .slice ao xs.length cap] 171)).alloc (.cells #[.bool nb, .slice bo ys.length dap] 171)) (.bool false) (.slice none 0 0) (b := w.heap.size + 1 + 1) (by simp))))
  go_enter Tryz.func213, Tryz.ntmps213
  go_wp2_with fail
  refine (size_any _ _ xs ys _ (H.out.1.below ?_) (J.out.1.below ?_) H.out.2.1 J.out.2.1 (by omega)).mono ?_
  ·repeat (first | exact Below.refl _ _ | refine Below.alloc ?_ (by simp <;> omega) _)
  ·repeat (first | exact Below.refl _ _ | refine Below.alloc ?_ (by simp <;> omega) _)
  rintro e w0 ⟨rfl, hb⟩
  have hb0 : Below w.heap.size w w0 := Below.trans (by repeat (first | exact Below.refl _ _ | refine Below.alloc ?_ (by simp <;> omega) _)) (hb.mono (by simp <;> omega))
  have B1 := BB.out.1.below hb BB.out.1.lt
  have B2 := BB.out.2.1.below hb BB.out.2.1.lt
  have B3 := BB.out.2.2.below hb BB.out.2.2.lt
  obtain ⟨a1, a2, -, -⟩ := B1.cells
  obtain ⟨b1, b2, -, -⟩ := B2.cells
  have K0 := Hid.mk (And.intro hb0 (And.intro B1 (And.intro B2 B3)))
  clear hb hb0 B1 B2 B3 BB
  by_cases hlt : val xs < val ys
  ·have hcm : cmpZ (val xs) (val ys) = -1 := by unfold cmpZ; rw [if_pos hlt]
   rw [hcm]
   clear hcm
   go_wp2_with fail
   refine (less_any _ _ ys xs _ (J.out.1.below K0.out.1) (H.out.1.below K0.out.1) J.out.2.1.1 H.out.2.1.1 (by omega) ?_ (by omega)).mono ?_
   ·rcases Nat.lt_or_ge ys.length xs.length with h | h
    ·have := cmp_len J.out.2.1.1 H.out.2.1 h; omega
    ·exact h
   clear a1 a2 b1 b2
   rintro e w1 ⟨r, rfl, hr⟩
   obtain ⟨eo, fcap, zs, rfl, oz, lz, vz, nz, hb⟩ := hr.parts
   have B1 := K0.out.2.1.below hb K0.out.2.1.lt
   have B2 := K0.out.2.2.1.below hb K0.out.2.2.1.lt
   have B3 := K0.out.2.2.2.below hb K0.out.2.2.2.lt
   have hb0 : Below w.heap.size w w1 := K0.out.1.trans (hb.mono K0.out.1.size)
   obtain ⟨a1, -, -, -⟩ := B1.cells
   obtain ⟨b1, -, -, -⟩ := B2.cells
   have K1 := Hid.mk (And.intro (And.intro oz (And.intro lz (And.intro vz nz))) (And.intro hb0 B3))
   clear hr hb hb0 oz lz vz nz B1 B2 B3
   go_wp2_with fail
   refine (made_any _ _ zs _ K1.out.1.1 K1.out.1.2.1).mono ?_
   rintro e w2 ⟨r2, rfl, hr2, hb2⟩
   obtain ⟨ng, co, ecap, ws, rfl, -⟩ := hr2.parts
   have B3 := K1.out.2.2.below hb2 K1.out.2.2.lt
   obtain ⟨c1, c2, c3, c4⟩ := B3.cells
   have c5 := B3.put1 (.bool ng)
   have K2 := Hid.mk (And.intro hr2 (And.intro (K1.out.2.1.trans (hb2.mono K1.out.2.1.size)) B3.ty))
   clear hr2 hb2 B3 a1 b1
   go_wp2_with fail
   refine bodyPost_ret (v := .agg #[.bool ng, .slice co ws.length ecap]) ?_ rfl ?_
   ·(simp [results, Tryz.results213, go_sem, c2, c5]; done)
   ·refine ⟨_, rfl, ?_, (K2.out.2.1.setCell (by simp <;> omega) _).setCell (by simp <;> omega) _⟩
    have fin := (K2.out.1.box K2.out.2.2 (by decide) (.bool ng) (.slice co ws.length ecap)).mono (M := max L M + 1) (by have := K1.out.1.2.2.2; omega)
    have e1 := K1.out.1.2.2.1
    have e2 := H.out.2.2.2.1
    have e3 := J.out.2.2.2.1
    rw [e1] at fin
    cases na <;> cases nb
    ·exact absurd rfl hn
    ·simp only [if_true, Bool.false_eq_true, if_false] at fin e2 e3 ⊢
     rw [show x + y = -((val ys - val xs : Nat) : Int) from by omega]
     exact fin
    ·simp only [if_true, Bool.false_eq_true, if_false] at fin e2 e3 ⊢
     rw [show x + y = ((val ys - val xs : Nat) : Int) from by omega]
     exact fin
    ·exact absurd rfl hn
  ·obtain ⟨cm, hcm, hcm2⟩ : ∃ cm : Nat, cmpZ (val xs) (val ys) = (cm : Int) ∧ cm ≤ 1 := by
    unfold cmpZ
    rw [if_neg hlt]
    by_cases h : val ys < val xs
    ·exact ⟨1, by rw [if_pos h]; rfl, Nat.le_refl _⟩
    ·exact ⟨0, by rw [if_neg h]; rfl, Nat.zero_le _⟩
   rw [hcm]
   clear hcm
   go_wp2_with fail
   refine (less_any _ _ xs ys _ (H.out.1.below K0.out.1) (J.out.1.below K0.out.1) H.out.2.1.1 J.out.2.1.1 (by omega) ?_ (by omega)).mono ?_
   ·rcases Nat.lt_or_ge xs.length ys.length with h | h
    ·have := cmp_len H.out.2.1.1 J.out.2.1 h; omega
    ·exact h
   clear a1 a2 b1 b2
   rintro e w1 ⟨r, rfl, hr⟩
   obtain ⟨eo, fcap, zs, rfl, oz, lz, vz, nz, hb⟩ := hr.parts
   have B1 := K0.out.2.1.below hb K0.out.2.1.lt
   have B2 := K0.out.2.2.1.below hb K0.out.2.2.1.lt
   have B3 := K0.out.2.2.2.below hb K0.out.2.2.2.lt
   have hb0 : Below w.heap.size w w1 := K0.out.1.trans (hb.mono K0.out.1.size)
   obtain ⟨a1, -, -, -⟩ := B1.cells
   obtain ⟨b1, -, -, -⟩ := B2.cells
   have K1 := Hid.mk (And.intro (And.intro oz (And.intro lz (And.intro vz nz))) (And.intro hb0 B3))
   clear hr hb hb0 oz lz vz nz B1 B2 B3
   go_wp2_with fail
   refine (made_any _ _ zs _ K1.out.1.1 K1.out.1.2.1).mono ?_
   rintro e w2 ⟨r2, rfl, hr2, hb2⟩
   obtain ⟨ng, co, ecap, ws, rfl, -⟩ := hr2.parts
   have B3 := K1.out.2.2.below hb2 K1.out.2.2.lt
   obtain ⟨c1, c2, c3, c4⟩ := B3.cells
   have c5 := B3.put1 (.bool ng)
   have K2 := Hid.mk (And.intro hr2 (And.intro (K1.out.2.1.trans (hb2.mono K1.out.2.1.size)) B3.ty))
   clear hr2 hb2 B3 a1 b1
   go_wp2_with fail
   refine bodyPost_ret (v := .agg #[.bool ng, .slice co ws.length ecap]) ?_ rfl ?_
   ·(simp [results, Tryz.results213, go_sem, c2, c5]; done)
   ·refine ⟨_, rfl, ?_, (K2.out.2.1.setCell (by simp <;> omega) _).setCell (by simp <;> omega) _⟩
    have fin := (K2.out.1.box K2.out.2.2 (by decide) (.bool ng) (.slice co ws.length ecap)).mono (M := max L M + 1) (by have := K1.out.1.2.2.2; omega)
    have e1 := K1.out.1.2.2.1
    have e2 := H.out.2.2.2.1
    have e3 := J.out.2.2.2.1
    rw [e1] at fin
    cases na <;> cases nb
    ·exact absurd rfl hn
    ·simp only [if_true, Bool.false_eq_true, if_false] at fin e2 e3 ⊢
     rw [show x + y = ((val xs - val ys : Nat) : Int) from by omega]
     exact fin
    ·simp only [if_true, Bool.false_eq_true, if_false] at fin e2 e3 ⊢
     rw [show x + y = -((val xs - val ys : Nat) : Int) from by omega]
     exact fin
    ·exact absurd rfl hn
open Go.RowKit
theorem rcell1 {w : World} {a : Addr} {v : Value} (h : w.cell? a = some v) : ∀ o1, (w.alloc o1).cell? a = some v := fun o1 => by
 rw [World.cell?_alloc_old _ _ _ (by have := World.block_lt_of_cell? w _ h; omega)]; exact h
set_option maxRecDepth 100000 in
set_option maxHeartbeats 1000000 in
theorem lessN_any (v u : Value) (x y : Int) (L M : Nat) (w : World) (hv : IsN w v x L) (hu : IsN w u y M) (hL : L ≤ 50000000000) (hM : M ≤ 50000000000) :
 Calls Tryz.prog 225 #[v, u] w fun e w' => ∃ r, e = .returned r ∧ NOut w w' r (x - y) (max L M + 1) := by
 obtain ⟨na, ao, cap, xs, rfl, -⟩ := id hv.parts
 obtain ⟨nb, bo, dap, ys, rfl, -⟩ := id hu.parts
 have H := Hid.mk (And.intro hv hu)
 clear hv hu
 go_enter Tryz.func225, Tryz.ntmps225
 go_wp2_with fail
 refine (minus_any _ y M _ (H.out.2.below ?_)).mono ?_
 ·repeat (first | exact Below.refl _ _ | refine Below.alloc ?_ (by simp <;> omega) _)
 rintro e w1 ⟨r, rfl, hr, hb⟩
 obtain ⟨nc, co, ecap, zs, rfl, -⟩ := id hr.parts
 have B1 := (((NBox.new w (.bool na) (.slice ao xs.length cap) rfl).alloc (.cells #[.bool nb, .slice bo ys.length dap] 171)).alloc (.cells #[.bool false, .slice none 0 0] 171)).below hb (by simp <;> omega)
 have B3 := (NBox.new ((w.alloc (.cells #[.bool na, .slice ao xs.length cap] 171)).alloc (.cells #[.bool nb, .slice bo ys.length dap] 171)) (.bool false) (.slice none 0 0) (b := w.heap.size + 1 + 1) (by simp)).below hb (by simp)
 have hb0 : Below w.heap.size w w1 := Below.trans (by repeat (first | exact Below.refl _ _ | refine Below.alloc ?_ (by simp <;> omega) _)) (hb.mono (by simp <;> omega))
 obtain ⟨a1, a2, -, -⟩ := B1.cells
 have q1 := rcell1 a1
 have q2 := rcell1 a2
 have hl1 := B1.lt
 have hl3 := B3.lt
 have K := Hid.mk (And.intro hr (And.intro hb0 (And.intro B1 B3)))
 clear hr hb hb0 B1 B3
 go_wp2_with fail
 refine (plus_any _ _ x (-y) L M _ (H.out.1.below (K.out.2.1.trans ?_)) (K.out.1.below ?_) hL hM).mono ?_
 ·exact ((Below.refl _ _).alloc (Nat.le_refl _) _).mono K.out.2.1.size
 ·exact (Below.refl _ _).alloc (Nat.le_refl _) _
 rintro e w2 ⟨r2, rfl, hr2, hb2⟩
 obtain ⟨nd, do_, fcap, ws, rfl, -⟩ := id hr2.parts
 have B3 := (K.out.2.2.2.alloc (.cells #[.bool nc, .slice co zs.length ecap] 171)).below hb2 (by simp; omega)
 obtain ⟨c1, c2, c3, c4⟩ := B3.cells
 have c5 := B3.put1 (.bool nd)
 have K2 := Hid.mk (And.intro hr2 (And.intro (K.out.2.1.trans ((((Below.refl _ _).alloc (Nat.le_refl _) _).trans (hb2.mono (by simp))).mono K.out.2.1.size)) B3.ty))
 clear hr2 hb2 B3 a1 a2 q1 q2
 go_wp2_with fail
 refine bodyPost_ret (v := .agg #[.bool nd, .slice do_ ws.length fcap]) ?_ rfl ?_
 ·(simp [results, Tryz.results225, go_sem, c2, c5]; done)
 ·exact ⟨_, rfl, K2.out.1.box K2.out.2.2 (by decide) _ _, (K2.out.2.1.setCell (by simp <;> omega) _).setCell (by simp <;> omega) _⟩
set_option maxRecDepth 100000 in
set_option maxHeartbeats 1000000 in
theorem order_any (v u : Value) (x y : Int) (L M : Nat) (w : World) (hv : IsN w v x L) (hu : IsN w u y M) (hL : L ≤ 50000000000) (hM : M ≤ 50000000000) :
 Calls Tryz.prog 200 #[v, u] w fun e w' => e = .returned (.int .i64 (sgn (x - y))) ∧ Below w.heap.size w w' := by
 obtain ⟨na, ao, cap, xs, rfl, -⟩ := id hv.parts
 obtain ⟨nb, bo, dap, ys, rfl, -⟩ := id hu.parts
 have H := Hid.mk (And.intro hv hu)
 clear hv hu
 go_enter Tryz.func200, Tryz.ntmps200
 go_wp2_with fail
 refine (lessN_any _ _ x y L M _ (H.out.1.below ?_) (H.out.2.below ?_) hL hM).mono ?_
 ·repeat (first | exact Below.refl _ _ | refine Below.alloc ?_ (by simp <;> omega) _)
 ·repeat (first | exact Below.refl _ _ | refine Below.alloc ?_ (by simp <;> omega) _)
 rintro e w1 ⟨r, rfl, hr, hb⟩
 obtain ⟨nc, co, ecap, zs, rfl, -⟩ := id hr.parts
 have hb0 : Below w.heap.size w w1 := Below.trans (by repeat (first | exact Below.refl _ _ | refine Below.alloc ?_ (by simp <;> omega) _)) (hb.mono (by simp <;> omega))
 have K := Hid.mk (And.intro hr hb0)
 clear hr hb hb0
 go_wp2_with fail
 refine (sign_any _ (x - y) (max L M + 1) _ (K.out.1.below ?_)).mono ?_
 ·exact (Below.refl _ _).alloc (Nat.le_refl _) _
 rintro e w2 ⟨rfl, hb2⟩
 have K2 := Hid.mk (K.out.2.trans ((((Below.refl _ _).alloc (Nat.le_refl _) _).trans (hb2.mono (by simp))).mono K.out.2.size))
 clear hb2
 go_wp2_with fail
 go_ret
 exact ⟨rfl, K2.out⟩
theorem of_len {n m : Nat} {zs : List Nat} (h : n = val zs + 10000 ^ zs.length * m) (hm : m ≠ 0) (hn : n ≤ 1000000000) : zs.length ≤ 2 := by
 rcases Nat.lt_or_ge 2 zs.length with h1 | h1
 ·exfalso
  have h2 : 10000 ^ 3 ≤ 10000 ^ zs.length := Nat.pow_le_pow_right (by decide) h1
  have h3 : 10000 ^ zs.length * 1 ≤ 10000 ^ zs.length * m := Nat.mul_le_mul_left _ (by omega)
  omega
 ·exact h1
theorem lim_snoc {zs : List Nat} {d : Nat} (h : Lo zs) (hd : d < 10000) (hp : 0 < d) : Lim (zs ++ [d]) := ⟨Lo_snoc h hd, .inr (by simp [List.getD, hp])⟩
set_option maxRecDepth 100000 in
set_option maxHeartbeats 1000000 in
theorem of_any (n : Nat) (w : World) (hn : n ≤ 1000000000) :
 Calls Tryz.prog 207 #[.int .i64 n] w fun e w' => ∃ r, e = .returned r ∧ NOut w w' r (n : Int) 3 := by
 have hneg : decide ((n : Int) < 0) = false := decide_eq_false (by omega)
 obtain ⟨W0, hW0⟩ : ∃ W0, W0 = w.alloc (.cells #[.bool false, .slice none 0 0] 171) := ⟨_, rfl⟩
 have HW := Hid.mk hW0
 clear hW0
 go_enter Tryz.func207, Tryz.ntmps207
 go_wp2_with fail
 rw [← HW.out]
 clear hneg
 go_loopw [0, 4] (fun nv d wr => ∃ (m : Nat) (zs : List Nat), nv = .int .i64 m ∧ m ≤ 1000000000 ∧ Lo zs ∧ OwnB (w.heap.size + 1) wr d zs ∧ Below (w.heap.size + 1) W0 wr ∧ Hid (n = val zs + 10000 ^ zs.length * m ∧ zs.length ≤ 3 ∧ (m = 0 → Lim zs))) (fun nv _ _ => (intOf nv).toNat)
 case atStart => exact ⟨n, [], rfl, hn, Lo_nil, World.ownsRow_nil _ _ _ _, Below.refl _ _, Hid.mk ⟨by simp [val], by simp, fun _ => ⟨Lo_nil, .inl rfl⟩⟩⟩
 case round =>
  obtain ⟨m, zs, rfl, hm, hlo, hown, hbel, HI⟩ := hrel
  have hwr := hbel.size
  have hw0 : W0.heap.size = w.heap.size + 1 := by rw [HW.out]; simp
  have K := Hid.mk (And.intro hlo (And.intro hown hbel))
  clear hlo hown hbel
  by_cases hm0 : m = 0
  ·have hmb : ((m : Int) == 0) = true := beq_iff_eq.2 (by omega)
   have HM := Hid.mk hm0
   have hbx : NBox wr w.heap.size (.bool false) (.slice none 0 0) := (NBox.new w (.bool false) (.slice none 0 0) rfl).below (by rw [← HW.out]; exact K.out.2.2) (by omega)
   obtain ⟨c1, c2, c3, c4⟩ := hbx.cells
   have HBX := Hid.mk hbx
   obtain ⟨eo, ecap, hve, -⟩ := K.out.2.1.own.open_
   subst hve
   have c5 := hbx.put1 (.bool false)
   clear hm0 hbx
   go_wp2_with fail
   refine bodyPost_ret (v := .agg #[.bool false, .slice eo zs.length ecap]) ?_ rfl ?_
   ·(simp [results, Tryz.results207, go_sem, c2, c5]; done)
   ·have hm0 := HM.out
    have h1 := HI.out.1
    rw [hm0, Nat.mul_zero, Nat.add_zero] at h1
    have hN : IsN wr (.agg #[.bool false, .slice eo zs.length ecap]) (n : Int) 3 := ⟨false, _, zs, rfl, K.out.2.1.own, HI.out.2.2 hm0, (by simp), (by rw [h1]; rfl), HI.out.2.1⟩
    refine ⟨_, rfl, hN.box HBX.out.ty (by decide) _ _, ?_⟩
    have hb : Below w.heap.size w wr := by
     have h2 := K.out.2.2
     rw [HW.out] at h2
     exact ((Below.refl w.heap.size w).alloc (Nat.le_refl _) _).trans (h2.mono (by omega))
    exact (hb.setCell (by simp) _).setCell (by simp) _
  ·have hmb : ((m : Int) == 0) = false := beq_eq_false_iff_ne.2 (by omega)
   have hmn : decide ((m : Int) % 10000 < 0) = false := decide_eq_false (by omega)
   have HM := Hid.mk hm0
   clear hm0
   go_wp2_with (at_builtin; refine append_digit _ rfl _ _ rfl (w.heap.size + 1) _ zs rfl ?_ ⟨_, 0, none⟩ rfl (m % 10000) ?_ ?_ ?_ ?_)
   ·exact World.ownsRow.alloc K.out.2.1 _
   ·simp [Addr.add]
   ·have := HI.out.2.1; omega
   ·simp; omega
   intro v' w' q1 q2
   have hbel2 : Below (w.heap.size + 1) W0 w' := (K.out.2.2.alloc (by omega) _).grown q2 (by simp; omega) (fun j hj => (World.ownsRow.lt K.out.2.1 j hj).1)
   have K2 := Hid.mk (And.intro q1 hbel2)
   clear q1 q2 hbel2
   go_wp2_with fail
   go_roundw
   case measure => have := HM.out; simp [intOf]; omega
   case rel =>
    have hm0 := HM.out
    refine ⟨m / 10000, zs ++ [m % 10000], by go_num, by omega, Lo_snoc K.out.1 (Nat.mod_lt _ (by decide)), K2.out.1, K2.out.2, Hid.mk ⟨?_, ?_, fun h => lim_snoc K.out.1 (Nat.mod_lt _ (by decide)) (by omega)⟩⟩
    ·have h1 := HI.out.1
     rw [val_snoc, List.length_append, List.length_singleton, Nat.pow_succ, Nat.mul_assoc, Nat.add_assoc, ← Nat.mul_add, Nat.mod_add_div]
     exact h1
    ·have := of_len HI.out.1 hm0 hn; simp; omega
set_option maxRecDepth 100000 in
set_option maxHeartbeats 2000000 in
theorem wide_any (v : Value) (z : Int) (L k : Nat) (w : World) (hv : IsN w v z L) (hL : L ≤ 50000000000) (hk : k ≤ 1000) :
 Calls Tryz.prog 199 #[v, .int .i64 k] w fun e w' => e = .returned (.bool (decide (2 ^ k ≤ z.natAbs))) ∧ Below w.heap.size w w' := by
 obtain ⟨na, ao, cap, xs, rfl, h2, h3, h4, h5, h6⟩ := id hv.parts
 have H := Hid.mk (And.intro hv (And.intro h2 (And.intro h3 (And.intro h4 h5))))
 clear hv h2 h3 h4 h5
 go_enter Tryz.func199, Tryz.ntmps199
 go_wp2_with fail
 refine (of_any 1 _ (by omega)).mono ?_
 rintro e w1 ⟨r, rfl, hr, hb⟩
 obtain ⟨nc, co, ecap, zs, rfl, -⟩ := id hr.parts
 have hb0 : Below w.heap.size w w1 := Below.trans (by repeat (first | exact Below.refl _ _ | refine Below.alloc ?_ (by simp <;> omega) _)) (hb.mono (by simp <;> omega))
 have BA := (NBox.new w (.bool na) (.slice ao xs.length cap) rfl).below hb (by simp)
 have K := Hid.mk (And.intro hr (And.intro hb0 BA))
 have hl1 := BA.lt
 clear hr hb hb0 BA
 obtain ⟨P, hP⟩ : ∃ P, P = w1.heap.size := ⟨_, rfl⟩
 have HP := Hid.mk hP
 go_wp2_with fail
 rw [← hP]
 clear hP
 go_loopw [6] (fun i wr => ∃ (j : Nat) (nb : Bool) (bo : Option Addr) (dap : Nat) (ys : List Nat), j ≤ k ∧ i = .int .i64 j ∧ NBox wr P (.bool nb) (.slice bo ys.length dap) ∧ IsN wr (.agg #[.bool nb, .slice bo ys.length dap]) (2 ^ j : Nat) (3 + j) ∧ Below w1.heap.size w1 wr) (fun i _ => k - (intOf i).toNat)
 case atStart => exact ⟨0, nc, co, ecap, zs, Nat.zero_le _, rfl, NBox.new w1 _ _ HP.out, K.out.1.below ((Below.refl _ _).alloc (Nat.le_refl _) _), (Below.refl _ _).alloc (Nat.le_refl _) _⟩
 case round =>
  obtain ⟨j, nb, bo, dap, ys, hj, rfl, hbox, hN, hbel⟩ := hrel
  have hwr := hbel.size
  obtain ⟨c1, c2, c3, c4⟩ := hbox.cells
  have hlP := hbox.lt
  have J := Hid.mk (And.intro hbox (And.intro hN hbel))
  clear hbox hN hbel
  by_cases hjk : j < k
  ·go_wp2_with fail
   refine (plus_any _ _ _ _ (3 + j) (3 + j) _ J.out.2.1 J.out.2.1 (by omega) (by omega)).mono ?_
   rintro e w3 ⟨r3, rfl, hr3, hb3⟩
   obtain ⟨nd, do_, fcap, ws, rfl, -⟩ := id hr3.parts
   have B3 := J.out.1.below hb3 J.out.1.lt
   clear c1 c2 c3 c4
   obtain ⟨c1, c2, c3, c4⟩ := B3.cells
   have hl3 := B3.lt
   have K3 := Hid.mk (And.intro hr3 (And.intro B3 (J.out.2.2.trans (hb3.mono hwr))))
   clear hr3 hb3 B3
   go_wp2_with fail
   go_roundw
   case measure => simp [intOf]; omega
   case rel =>
    refine ⟨j + 1, nd, do_, fcap, ws, by omega, by go_num, K3.out.2.1.put _ _, ?_, (K3.out.2.2.setCell (by simp; have := HP.out; omega) _).setCell (by simp; have := HP.out; omega) _⟩
    have h1 := K3.out.1.box K3.out.2.1.ty (by decide) (.bool nd) (.slice do_ ws.length fcap)
    rw [show ((2 ^ j : Nat) : Int) + ((2 ^ j : Nat) : Int) = ((2 ^ (j + 1) : Nat) : Int) from by rw [Nat.pow_succ]; omega] at h1
    exact h1.mono (by omega)
  ·have hje : j = k := by omega
   have HJ := Hid.mk hje
   obtain ⟨nb', bo', dap', ys', e0, e1, e2, e3, e4, e5⟩ := J.out.2.1.parts
   simp only [Value.agg.injEq, Array.mk.injEq, List.cons.injEq, Value.bool.injEq, Value.slice.injEq, and_true] at e0
   obtain ⟨rfl, rfl, e0, rfl⟩ := e0
   have BA := K.out.2.2.below J.out.2.2 K.out.2.2.lt
   obtain ⟨a1, a2, -, -⟩ := BA.cells
   rw [e0] at c2
   have E := Hid.mk (And.intro e1 (And.intro e2 (And.intro e3 (And.intro e4 e5))))
   clear e1 e2 e3 e4 hje BA
   go_wp2_with fail
   refine (size_any _ _ xs ys' _ (H.out.2.1.below (K.out.2.1.trans (J.out.2.2.mono K.out.2.1.size))) E.out.1 H.out.2.2.1 E.out.2.1 (by omega)).mono ?_
   rintro e w4 ⟨rfl, hb4⟩
   have K4 := Hid.mk ((K.out.2.1.trans (J.out.2.2.mono K.out.2.1.size)).trans (hb4.mono (by have := K.out.2.1.size; omega)))
   clear hb4
   have hcmp : decide (0 ≤ cmpZ (val xs) (val ys')) = decide (2 ^ k ≤ z.natAbs) := by
    obtain ⟨_, _, _, _, hz⟩ := H.out
    obtain ⟨_, _, _, hp, _⟩ := E.out
    have hx : z.natAbs = val xs := by rw [hz]; cases na <;> simp
    have hy : val ys' = 2 ^ k := by
     rw [HJ.out] at hp
     have h0 : 0 < 2 ^ k := Nat.pow_pos (by decide)
     generalize 2 ^ k = T at hp h0 ⊢
     cases nb
     ·simp only [Bool.false_eq_true, if_false] at hp; omega
     ·simp only [if_true] at hp; omega
    rw [hx, hy]
    unfold cmpZ
    by_cases h1 : val xs < 2 ^ k
    ·rw [if_pos h1]; simp; omega
    ·rw [if_neg h1]
     by_cases h2 : 2 ^ k < val xs
     ·rw [if_pos h2]; simp; omega
     ·rw [if_neg h2]; simp; omega
   generalize cmpZ (val xs) (val ys') = cm at *
   have HC := Hid.mk hcmp
   clear hcmp
   go_wp2_with fail
   go_ret
   exact ⟨by rw [← HC.out]; rfl, K4.out⟩
end Go.Proofs.YtfjbijpagaipnabGreatDoor.R
