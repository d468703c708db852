import Derived.Test.YtfjbijpagaipnaaGreatDoorC13
namespace Go.Proofs.YtfjbijpagaipnaaGreatDoor.R
open Go.RowKit
set_option maxRecDepth 100000 in
set_option maxHeartbeats 2000000 in
theorem less_lim (v u : Value) (xs ys : List Nat) (w : World) (hv : Own w v xs) (hu : Own w u ys) (lx : Lo xs) (ly : Lo ys) (bx : xs.length ≤ 50000000000) (hl : ys.length ≤ xs.length) (hle : val ys ≤ val xs) :
    Calls Tryz.prog 212 #[v, u] w fun e w' => ∃ r, e = .returned r ∧ LimOut w w' r (val xs - val ys) xs.length := by
  obtain ⟨ao, cap, rfl, hc, hm, -⟩ := hv.open_
  obtain ⟨bo, dap, rfl, hd, hn, -⟩ := hu.open_
  have H := Hid.mk (And.intro hv (And.intro hu (And.intro lx (And.intro ly hle))))
  clear hv hu lx ly hle
  go_enter Tryz.func212, Tryz.ntmps212
  go_wp2_with fail
  go_loopw [5, 6, 7] (fun out c i wr => ∃ (k bw : Nat) (zs : List Nat), k ≤ xs.length ∧ i = .int .i64 k ∧ bw ≤ 1 ∧ c = .int .i64 bw ∧ Hid (zs.length = k) ∧ Lo zs ∧ OwnB w.heap.size wr out zs ∧ Below w.heap.size w wr ∧
      Hid (val zs + val (ys.take k) = val (xs.take k) + 10000 ^ k * bw)) (fun _ _ i _ => xs.length - (intOf i).toNat)
  case atStart => exact ⟨0, 0, [], Nat.zero_le _, rfl, by omega, rfl, Hid.mk rfl, Lo_nil, World.ownsRow_nil _ _ _ _, Below.refl _ _, Hid.mk (by simp [val])⟩
  case round =>
    obtain ⟨k, bw, zs, hk, rfl, hbw, rfl, HZ, hlo, hown, hbel, HI⟩ := hrel
    have hwr := hbel.size
    have K := Hid.mk (And.intro hown (And.intro hbel hlo))
    clear hown hbel hlo
    by_cases h1 : k < xs.length
    · obtain ⟨ba, rfl, ca⟩ := (H.out.1.below K.out.2.1).at_ rfl k h1
      have hxk := Lo_get H.out.2.2.1 k
      obtain ⟨x, hx⟩ : ∃ x, x = xs.getD k 0 := ⟨_, rfl⟩
      obtain ⟨y, hy⟩ : ∃ y, y = ys.getD k 0 := ⟨_, rfl⟩
      rw [← hx] at ca hxk
      by_cases h2 : k < ys.length
      · obtain ⟨bb, rfl, cb⟩ := (H.out.2.1.below K.out.2.1).at_ rfl k h2
        have hyk := Lo_get H.out.2.2.2.1 k
        rw [← hy] at cb hyk
        have HX := Hid.mk (And.intro hx hy)
        clear hx hy
        by_cases h3 : x < y + bw
        · have h3' : (x : Int) - (bw : Int) - (y : Int) < 0 := by omega
          go_wp2_with (at_builtin; refine append_digit _ rfl _ _ rfl w.heap.size _ zs rfl ?_ ⟨_, 0, none⟩ rfl (x + 10000 - (y + bw)) ?_ ?_ ?_ ?_)
          · exact World.ownsRow.alloc K.out.1 _
          · simp [Addr.add]; omega
          · have := HZ.out; omega
          · simp; omega
          intro v' w' q1 q2
          have hbel2 : Below w.heap.size w w' := (K.out.2.1.alloc hwr _).grown q2 (by simp; omega) (fun j hj => (World.ownsRow.lt K.out.1 j hj).1)
          have K2 := Hid.mk (And.intro q1 hbel2)
          clear q1 q2 hbel2
          go_wp2_with fail
          go_roundw
          case measure => simp [intOf]; omega
          case rel =>
            refine ⟨k + 1, 1, zs ++ [x + 10000 - (y + bw)], by omega, by go_num, by omega, by go_num, Hid.mk (by have := HZ.out; simp; omega), Lo_snoc K.out.2.2 (by omega), K2.out.1, K2.out.2, Hid.mk ?_⟩
            have hr := sub_round (x := x) (y := y) HI.out hxk hyk hbw
            rw [if_pos (by omega), if_pos (by omega)] at hr
            rw [val_snoc, HZ.out, val_take_next, val_take_next, ← HX.out.1, ← HX.out.2, Nat.pow_succ]
            omega
        · have h3' : decide ((x : Int) - (bw : Int) - (y : Int) < 0) = false := decide_eq_false (by omega)
          go_wp2_with (at_builtin; refine append_digit _ rfl _ _ rfl w.heap.size _ zs rfl ?_ ⟨_, 0, none⟩ rfl (x - (y + bw)) ?_ ?_ ?_ ?_)
          · exact World.ownsRow.alloc K.out.1 _
          · simp [Addr.add]; omega
          · have := HZ.out; omega
          · simp; omega
          intro v' w' q1 q2
          have hbel2 : Below w.heap.size w w' := (K.out.2.1.alloc hwr _).grown q2 (by simp; omega) (fun j hj => (World.ownsRow.lt K.out.1 j hj).1)
          have K2 := Hid.mk (And.intro q1 hbel2)
          clear q1 q2 hbel2
          go_wp2_with fail
          go_roundw
          case measure => simp [intOf]; omega
          case rel =>
            refine ⟨k + 1, 0, zs ++ [x - (y + bw)], by omega, by go_num, by omega, by go_num, Hid.mk (by have := HZ.out; simp; omega), Lo_snoc K.out.2.2 (by omega), K2.out.1, K2.out.2, Hid.mk ?_⟩
            have hr := sub_round (x := x) (y := y) HI.out hxk hyk hbw
            rw [if_neg (by omega), if_neg (by omega)] at hr
            rw [val_snoc, HZ.out, val_take_next, val_take_next, ← HX.out.1, ← HX.out.2, Nat.pow_succ]
            omega
      · have h2' : decide (k < ys.length) = false := decide_eq_false h2
        have HX := Hid.mk (And.intro hx hy)
        clear hx hy
        by_cases h3 : x < bw
        · have h3' : (x : Int) - (bw : Int) < 0 := by omega
          go_wp2_with (at_builtin; refine append_digit _ rfl _ _ rfl w.heap.size _ zs rfl ?_ ⟨_, 0, none⟩ rfl (x + 10000 - bw) ?_ ?_ ?_ ?_)
          · exact World.ownsRow.alloc K.out.1 _
          · simp [Addr.add]; omega
          · have := HZ.out; omega
          · simp; omega
          intro v' w' q1 q2
          have hbel2 : Below w.heap.size w w' := (K.out.2.1.alloc hwr _).grown q2 (by simp; omega) (fun j hj => (World.ownsRow.lt K.out.1 j hj).1)
          have K2 := Hid.mk (And.intro q1 hbel2)
          clear q1 q2 hbel2
          go_wp2_with fail
          go_roundw
          case measure => simp [intOf]; omega
          case rel =>
            refine ⟨k + 1, 1, zs ++ [x + 10000 - bw], by omega, by go_num, by omega, by go_num, Hid.mk (by have := HZ.out; simp; omega), Lo_snoc K.out.2.2 (by omega), K2.out.1, K2.out.2, Hid.mk ?_⟩
            have hr := sub_round (x := x) (y := 0) HI.out hxk (by omega) hbw
            simp only [Nat.zero_add, Nat.mul_zero, Nat.add_zero] at hr
            rw [if_pos (by omega), if_pos (by omega)] at hr
            rw [val_snoc, HZ.out, val_take_next, val_take_next, ← HX.out.1, getD_past ys k (by omega), Nat.pow_succ, Nat.mul_zero, Nat.add_zero]
            omega
        · have h3' : decide ((x : Int) - (bw : Int) < 0) = false := decide_eq_false (by omega)
          go_wp2_with (at_builtin; refine append_digit _ rfl _ _ rfl w.heap.size _ zs rfl ?_ ⟨_, 0, none⟩ rfl (x - bw) ?_ ?_ ?_ ?_)
          · exact World.ownsRow.alloc K.out.1 _
          · simp [Addr.add]; omega
          · have := HZ.out; omega
          · simp; omega
          intro v' w' q1 q2
          have hbel2 : Below w.heap.size w w' := (K.out.2.1.alloc hwr _).grown q2 (by simp; omega) (fun j hj => (World.ownsRow.lt K.out.1 j hj).1)
          have K2 := Hid.mk (And.intro q1 hbel2)
          clear q1 q2 hbel2
          go_wp2_with fail
          go_roundw
          case measure => simp [intOf]; omega
          case rel =>
            refine ⟨k + 1, 0, zs ++ [x - bw], by omega, by go_num, by omega, by go_num, Hid.mk (by have := HZ.out; simp; omega), Lo_snoc K.out.2.2 (by omega), K2.out.1, K2.out.2, Hid.mk ?_⟩
            have hr := sub_round (x := x) (y := 0) HI.out hxk (by omega) hbw
            simp only [Nat.zero_add, Nat.mul_zero, Nat.add_zero] at hr
            rw [if_neg (by omega), if_neg (by omega)] at hr
            rw [val_snoc, HZ.out, val_take_next, val_take_next, ← HX.out.1, getD_past ys k (by omega), Nat.pow_succ, Nat.mul_zero, Nat.add_zero]
            omega
    · have hke : k = xs.length := by omega
      go_wp2_with fail
      refine (plain_any _ zs _ K.out.1.own K.out.2.2).mono ?_
      rintro e w' ⟨⟨r, rfl, hr⟩, rfl⟩
      have HR := Hid.mk hr
      clear hr
      go_wp2_with fail
      go_ret
      obtain ⟨rs, r1, r2, r3, r4⟩ := HR.out
      refine ⟨_, rfl, ⟨rs, r1, ?_, by have := HZ.out; omega, r4 _ K.out.1.own⟩, K.out.2.1⟩
      have hi := HI.out
      rw [hke, List.take_of_length_le (Nat.le_refl _), List.take_of_length_le (by omega)] at hi
      rw [r2]
      exact sub_end K.out.2.2 (by rw [HZ.out, hke]) H.out.2.2.2.2 hi
theorem less_any (v u : Value) (xs ys : List Nat) (w : World) (hv : Own w v xs) (hu : Own w u ys) (lx : Lo xs) (ly : Lo ys) (bx : xs.length ≤ 50000000000) (hl : ys.length ≤ xs.length) (hle : val ys ≤ val xs) :
    Calls Tryz.prog 212 #[v, u] w fun e w' => ∃ r, e = .returned r ∧ SumOut w w' r (val xs - val ys) xs.length := by
  refine (less_lim v u xs ys w hv hu lx ly bx hl hle).mono ?_
  rintro e w' ⟨r, rfl, ⟨zs, h1, h2, h3, h4⟩, hb⟩
  exact ⟨r, rfl, ⟨zs, h1.1, h2, h3, h4⟩, hb⟩
end Go.Proofs.YtfjbijpagaipnaaGreatDoor.R
namespace Go.Proofs.YtfjbijpagaipnaaGreatDoor.R
open Go.RowKit
def sgn (z : Int) : Int := if z < 0 then -1 else if 0 < z then 1 else 0
theorem IsN.parts {w : World} {v : Value} {z : Int} {L : Nat} (h : IsN w v z L) : ∃ neg ao cap xs, v = .agg #[.bool neg, .slice ao xs.length cap] ∧ Own w (.slice ao xs.length cap) xs ∧ Lim xs ∧ (neg = true → xs ≠ []) ∧ z = (if neg then -(val xs : Int) else (val xs : Int)) ∧ xs.length ≤ L := by
  obtain ⟨neg, sl, xs, rfl, h2, h3, h4, h5, h6⟩ := h
  obtain ⟨ao, cap, rfl, -⟩ := h2.open_
  exact ⟨neg, ao, cap, xs, rfl, h2, h3, h4, h5, h6⟩
theorem IsN.mono {w : World} {v : Value} {z : Int} {L M : Nat} (h : IsN w v z L) (hm : L ≤ M) : IsN w v z M := by
  obtain ⟨neg, sl, xs, h1, h2, h3, h4, h5, h6⟩ := h
  exact ⟨neg, sl, xs, h1, h2, h3, h4, h5, Nat.le_trans h6 hm⟩
theorem lim_pos {xs : List Nat} (h : Lim xs) (hne : xs ≠ []) : 0 < val xs := by
  have := val_top h (List.length_pos_iff.2 hne)
  have h2 : 0 < 10000 ^ (xs.length - 1) := Nat.pow_pos (by decide)
  omega
set_option maxRecDepth 100000 in
theorem sign_any (v : Value) (z : Int) (L : Nat) (w : World) (h : IsN w v z L) :
    Calls Tryz.prog 171 #[v] w fun e w' => e = .returned (.int .i64 (sgn z)) ∧ Below w.heap.size w w' := by
  obtain ⟨neg, ao, cap, xs, rfl, h2, h3, h4, h5, h6⟩ := h.parts
  have H := Hid.mk (And.intro h3 (And.intro h4 h5))
  clear h h2 h3 h4 h5
  by_cases h0 : xs.length = 0
  · have h0' : ((xs.length : Int) == 0) = true := beq_iff_eq.2 (by omega)
    have hx : xs = [] := List.eq_nil_of_length_eq_zero h0
    have HX := Hid.mk hx
    clear hx h0
    go_enter Tryz.func171, Tryz.ntmps171
    go_wp2_with fail
    go_ret
    refine ⟨ret_int ?_, (Below.refl _ _).alloc (Nat.le_refl _) _⟩
    obtain ⟨h3, h4, h5⟩ := H.out
    rw [h5, HX.out]
    cases neg <;> simp [val, sgn]
  · have h0' : ((xs.length : Int) == 0) = false := beq_eq_false_iff_ne.2 (by omega)
    have hx : xs ≠ [] := by intro e; rw [e] at h0; simp at h0
    have hp := lim_pos H.out.1 hx
    have HP := Hid.mk hp
    clear hx h0 hp
    cases neg
    · go_enter Tryz.func171, Tryz.ntmps171
      go_wp2_with fail
      go_ret
      refine ⟨ret_int ?_, (Below.refl _ _).alloc (Nat.le_refl _) _⟩
      have h5 := H.out.2.2
      have hp := HP.out
      simp only [Bool.false_eq_true, if_false] at h5
      unfold sgn
      rw [if_neg (by omega), if_pos (by omega)]
    · go_enter Tryz.func171, Tryz.ntmps171
      go_wp2_with fail
      go_ret
      refine ⟨ret_int ?_, (Below.refl _ _).alloc (Nat.le_refl _) _⟩
      have h5 := H.out.2.2
      have hp := HP.out
      simp only [if_true] at h5
      unfold sgn
      rw [if_pos (by omega)]
def KI (w w' : World) : Prop := ∀ (b : Nat) (arr : Array Value), w.heap[b]? = some (.cells arr 3 (0, 0)) → w'.heap[b]? = some (.cells arr 3 (0, 0))
theorem KI.refl (w : World) : KI w w := fun _ _ h => h
theorem KI.trans {a b c : World} (h : KI a b) (k : KI b c) : KI a c := fun i arr hi => k i arr (h i arr hi)
theorem KI.of_below {w w' : World} (h : Below w.heap.size w w') : KI w w' := fun i arr hi => by rw [h.block i (Array.getElem?_eq_some_iff.1 hi).1]; exact hi
theorem KI.setCell {a w : World} (h : KI a w) {b o : Nat} {t : TypeId} (ht : Ty w b t) (hne : t ≠ 3) (u : Value) : KI a (w.setCell ⟨b, o, none⟩ u) := by
  intro i arr hi
  have h1 := h i arr hi
  obtain ⟨c, fr, h2⟩ := ht
  by_cases hb : i = b
  · subst hb
    rw [h1] at h2
    simp only [Option.some.injEq, Obj.cells.injEq] at h2
    exact absurd h2.2.1.symm hne
  · rw [Below.heap_setCell _ _ _ _ hb]; exact h1
theorem Own.keep {w w' : World} {v : Value} {xs : List Nat} (h : Own w v xs) (hk : KI w w') : Own w' v xs := by
  refine ⟨h.1, ?_⟩
  rcases h.2 with h2 | ⟨g, cap, cur, hv, hg, hh, r⟩
  · exact .inl h2
  · exact .inr ⟨g, cap, cur, hv, hg, hk g cur hh, r⟩
theorem IsN.keep {w w' : World} {v : Value} {z : Int} {L : Nat} (h : IsN w v z L) (hk : KI w w') : IsN w' v z L := by
  obtain ⟨neg, sl, xs, h1, h2, h3⟩ := h
  exact ⟨neg, sl, xs, h1, h2.keep hk, h3⟩
theorem IsN.box {w : World} {v : Value} {z : Int} {L b : Nat} {t : TypeId} (h : IsN w v z L) (ht : Ty w b t) (hne : t ≠ 3) (x y : Value) : IsN ((w.setCell ⟨b, 0, none⟩ x).setCell ⟨b, 1, none⟩ y) v z L :=
  h.keep (KI.setCell (KI.setCell (KI.refl _) ht hne _) (ht.setCell _ _) hne _)
def NBox (w : World) (b : Nat) (x y : Value) : Prop := w.heap[b]? = some (.cells #[x, y] 138 (0, 0))
theorem NBox.lt {w : World} {b : Nat} {x y : Value} (h : NBox w b x y) : b < w.heap.size := (Array.getElem?_eq_some_iff.1 h).1
theorem NBox.below {B : Nat} {w w' : World} {b : Nat} {x y : Value} (h : NBox w b x y) (hb : Below B w w') (hB : b < B) : NBox w' b x y := by unfold NBox; rw [hb.block b hB]; exact h
theorem NBox.new (w : World) (x y : Value) {b : Nat} (hb : b = w.heap.size) : NBox (w.alloc (.cells #[x, y] 138)) b x y := by rw [hb]; exact heap_alloc_new w _
theorem NBox.alloc {w : World} {b : Nat} {x y : Value} (h : NBox w b x y) (o : Obj) : NBox (w.alloc o) b x y := h.below ((Below.refl _ _).alloc (Nat.le_refl _) _) h.lt
theorem NBox.ty {w : World} {b : Nat} {x y : Value} (h : NBox w b x y) : Ty w b 138 := ⟨_, _, h⟩
theorem NBox.cells {w : World} {b : Nat} {x y : Value} (h : NBox w b x y) : w.cell? ⟨b, 0, none⟩ = some x ∧ w.cell? ⟨b, 1, none⟩ = some y ∧ w.frozen? ⟨b, 0, none⟩ = false ∧ w.frozen? ⟨b, 1, none⟩ = false := by
  unfold NBox at h
  refine ⟨?_, ?_, ?_, ?_⟩ <;> simp [World.cell?, World.frozen?, h]
theorem NBox.put {w : World} {b : Nat} {x y : Value} (h : NBox w b x y) (x' y' : Value) : NBox ((w.setCell ⟨b, 0, none⟩ x').setCell ⟨b, 1, none⟩ y') b x' y' := by
  unfold NBox at *
  rw [heap_setCell_same _ _ _ _ _ _ (heap_setCell_same _ _ _ _ _ _ h)]
  simp
theorem NBox.put1 {w : World} {b : Nat} {x y : Value} (h : NBox w b x y) (x' : Value) : (w.setCell ⟨b, 0, none⟩ x').cell? ⟨b, 0, none⟩ = some x' := World.cell?_setCell_same _ _ _ h.cells.1
def NOut (w w' : World) (v : Value) (z : Int) (L : Nat) : Prop := IsN w' v z L ∧ Below w.heap.size w w'
set_option maxRecDepth 100000 in
theorem minus_any (v : Value) (z : Int) (L : Nat) (w : World) (h : IsN w v z L) :
    Calls Tryz.prog 209 #[v] w fun e w' => ∃ r, e = .returned r ∧ NOut w w' r (-z) L := by
  obtain ⟨neg, ao, cap, xs, rfl, h2, h3, h4, h5, h6⟩ := h.parts
  have H := Hid.mk (And.intro h2 (And.intro h3 (And.intro h4 (And.intro h5 h6))))
  clear h h2 h3 h4 h5 h6
  go_enter Tryz.func209, Tryz.ntmps209
  go_wp2_with fail
  refine (made_any (!neg) _ xs _ (H.out.1.below ?_) H.out.2.1.1).mono ?_
  · repeat (first | exact Below.refl _ _ | refine Below.alloc ?_ (by simp <;> omega) _)
  rintro e w1 ⟨r, rfl, hr, hb⟩
  obtain ⟨ng, co, ecap, zs, rfl, -⟩ := hr.parts
  obtain ⟨hc, hf⟩ := bcell hb
  have hty : Ty w1 (w.heap.size + 1) 138 := Ty.below (Ty.at_ _ _ _ (by simp)) hb (by simp)
  have hz : w.heap.size + 1 < w1.heap.size := hty.lt
  have hb0 : Below w.heap.size w w1 := Below.trans (by repeat (first | exact Below.refl _ _ | refine Below.alloc ?_ (by simp <;> omega) _)) (hb.mono (by simp <;> omega))
  have K := Hid.mk (And.intro hr (And.intro hb0 hty))
  clear hr hb hb0 hty
  go_wp2_with fail
  refine bodyPost_ret (v := .agg #[.bool ng, .slice co zs.length ecap]) ?_ rfl ?_
  · (simp [results, Tryz.results209, go_sem, hc]; done)
  · obtain ⟨h2, h3, h4, h5, h6⟩ := H.out
    refine ⟨_, rfl, ?_, (K.out.2.1.setCell (by simp) _).setCell (by simp) _⟩
    have := (K.out.1.box K.out.2.2 (by decide) (.bool ng) (.slice co zs.length ecap)).mono h6
    rw [h5]
    cases neg
    · simpa using this
    · simpa using this
theorem SumOut.parts {w w' : World} {v : Value} {n L : Nat} (h : SumOut w w' v n L) : ∃ ao cap zs, v = .slice ao zs.length cap ∧ Own w' (.slice ao zs.length cap) zs ∧ Lo zs ∧ val zs = n ∧ zs.length ≤ L ∧ Below w.heap.size w w' := by
  obtain ⟨⟨zs, h1, h2, h3, h4⟩, h5⟩ := h
  obtain ⟨ao, cap, rfl, -⟩ := h4.open_
  exact ⟨ao, cap, zs, rfl, h4, h1, h2, h3, h5⟩
set_option maxRecDepth 100000 in
set_option maxHeartbeats 2000000 in
theorem plus_any (v u : Value) (x y : Int) (L M : Nat) (w : World) (hv : IsN w v x L) (hu : IsN w u y M) (hL : L ≤ 50000000000) (hM : M ≤ 50000000000) :
    Calls Tryz.prog 178 #[v, u] w fun e w' => ∃ r, e = .returned r ∧ NOut w w' r (x + y) (max L M + 1) := by
  obtain ⟨na, ao, cap, xs, rfl, h2, h3, h4, h5, h6⟩ := hv.parts
  obtain ⟨nb, bo, dap, ys, rfl, k2, k3, k4, k5, k6⟩ := hu.parts
  have H := Hid.mk (And.intro h2 (And.intro h3 (And.intro h4 (And.intro h5 h6))))
  have J := Hid.mk (And.intro k2 (And.intro k3 (And.intro k4 (And.intro k5 k6))))
  clear hv hu h2 h3 h4 h5 k2 k3 k4 k5
  by_cases hn : na = nb
  · subst hn
    have hbq : (na == na) = true := by simp
    have BB := Hid.mk (And.intro ((((NBox.new w (.bool na) (.slice ao xs.length cap) rfl).alloc (.cells #[.bool na, .slice bo ys.length dap] 138)).alloc (.cells #[.bool false, .slice none 0 0] 138))) (And.intro ((NBox.new (w.alloc (.cells #[.bool na, .slice ao xs.length cap] 138)) (.bool na) (.slice bo ys.length dap) (b := w.heap.size + 1) (by simp)).alloc (.cells #[.bool false, .slice none 0 0] 138))
      (NBox.new ((w.alloc (.cells #[.bool na, .slice ao xs.length cap] 138)).alloc (.cells #[.bool na, .slice bo ys.length dap] 138)) (.bool false) (.slice none 0 0) (b := w.heap.size + 1 + 1) (by simp))))
    go_enter Tryz.func178, Tryz.ntmps178
    go_wp2_with fail
    refine (sum_any _ _ xs ys _ (H.out.1.below ?_) (J.out.1.below ?_) H.out.2.1.1 J.out.2.1.1 (by omega) (by omega)).mono ?_
    · repeat (first | exact Below.refl _ _ | refine Below.alloc ?_ (by simp <;> omega) _)
    · repeat (first | exact Below.refl _ _ | refine Below.alloc ?_ (by simp <;> omega) _)
    rintro e w1 ⟨r, rfl, hr⟩
    obtain ⟨eo, fcap, zs, rfl, oz, lz, vz, nz, hb⟩ := hr.parts
    have B1 := BB.out.1.below hb BB.out.1.lt
    have B2 := BB.out.2.1.below hb BB.out.2.1.lt
    have B3 := BB.out.2.2.below hb BB.out.2.2.lt
    have hb0 : Below w.heap.size w w1 := Below.trans (by repeat (first | exact Below.refl _ _ | refine Below.alloc ?_ (by simp <;> omega) _)) (hb.mono (by simp <;> omega))
    obtain ⟨a1, -, -, -⟩ := B1.cells
    obtain ⟨b1, -, -, -⟩ := B2.cells
    have K1 := Hid.mk (And.intro (And.intro oz (And.intro lz (And.intro vz nz))) (And.intro hb0 B3))
    clear hr hb hb0 oz lz vz nz B1 B2 B3
    go_wp2_with fail
    refine (made_any _ _ zs _ K1.out.1.1 K1.out.1.2.1).mono ?_
    rintro e w2 ⟨r2, rfl, hr2, hb2⟩
    obtain ⟨ng, co, ecap, ws, rfl, -⟩ := hr2.parts
    have B3 := K1.out.2.2.below hb2 K1.out.2.2.lt
    obtain ⟨c1, c2, c3, c4⟩ := B3.cells
    have c5 := B3.put1 (.bool ng)
    have K2 := Hid.mk (And.intro hr2 (And.intro (K1.out.2.1.trans (hb2.mono K1.out.2.1.size)) B3.ty))
    clear hr2 hb2 B3 a1 b1
    go_wp2_with fail
    refine bodyPost_ret (v := .agg #[.bool ng, .slice co ws.length ecap]) ?_ rfl ?_
    · (simp [results, Tryz.results178, go_sem, c2, c5]; done)
    · refine ⟨_, rfl, ?_, (K2.out.2.1.setCell (by simp <;> omega) _).setCell (by simp <;> omega) _⟩
      have fin := (K2.out.1.box K2.out.2.2 (by decide) (.bool ng) (.slice co ws.length ecap)).mono (M := max L M + 1) (by have := K1.out.1.2.2.2; omega)
      have e1 := K1.out.1.2.2.1
      have e2 := H.out.2.2.2.1
      have e3 := J.out.2.2.2.1
      rw [e1] at fin
      rw [e2, e3]
      cases na
      · simpa using fin
      · simp only [if_true] at fin ⊢
        rw [show -(val xs : Int) + -(val ys : Int) = -((val xs + val ys : Nat) : Int) from by omega]
        exact fin
  · have hbq : (na == nb) = false := beq_eq_false_iff_ne.2 hn
    have BB := Hid.mk (And.intro ((((NBox.new w (.bool na) (.slice ao xs.length cap) rfl).alloc (.cells #[.bool nb, .slice bo ys.length dap] 138)).alloc (.cells #[.bool false, .slice none 0 0] 138))) (And.intro ((NBox.new (w.alloc (.cells #[.bool na, .slice ao xs.length cap] 138)) (.bool nb) (.slice bo ys.length dap) (b := w.heap.size + 1) (by simp)).alloc (.cells #[.bool false, .slice none 0 0] 138))
      (NBox.new ((w.alloc (.cells #[.bool na, .slice ao xs.length cap] 138)).alloc (.cells #[.bool nb, .slice bo ys.length dap] 138)) (.bool false) (.slice none 0 0) (b := w.heap.size + 1 + 1) (by simp))))
    go_enter Tryz.func178, Tryz.ntmps178
    go_wp2_with fail
    refine (size_any _ _ xs ys _ (H.out.1.below ?_) (J.out.1.below ?_) H.out.2.1 J.out.2.1 (by omega)).mono ?_
    · repeat (first | exact Below.refl _ _ | refine Below.alloc ?_ (by simp <;> omega) _)
    · repeat (first | exact Below.refl _ _ | refine Below.alloc ?_ (by simp <;> omega) _)
    rintro e w0 ⟨rfl, hb⟩
    have hb0 : Below w.heap.size w w0 := Below.trans (by repeat (first | exact Below.refl _ _ | refine Below.alloc ?_ (by simp <;> omega) _)) (hb.mono (by simp <;> omega))
    have B1 := BB.out.1.below hb BB.out.1.lt
    have B2 := BB.out.2.1.below hb BB.out.2.1.lt
    have B3 := BB.out.2.2.below hb BB.out.2.2.lt
    obtain ⟨a1, a2, -, -⟩ := B1.cells
    obtain ⟨b1, b2, -, -⟩ := B2.cells
    have K0 := Hid.mk (And.intro hb0 (And.intro B1 (And.intro B2 B3)))
    clear hb hb0 B1 B2 B3 BB
    by_cases hlt : val xs < val ys
    · have hcm : cmpZ (val xs) (val ys) = -1 := by unfold cmpZ; rw [if_pos hlt]
      rw [hcm]
      clear hcm
      go_wp2_with fail
      refine (less_any _ _ ys xs _ (J.out.1.below K0.out.1) (H.out.1.below K0.out.1) J.out.2.1.1 H.out.2.1.1 (by omega) ?_ (by omega)).mono ?_
      · rcases Nat.lt_or_ge ys.length xs.length with h | h
        · have := cmp_len J.out.2.1.1 H.out.2.1 h; omega
        · exact h
      clear a1 a2 b1 b2
      rintro e w1 ⟨r, rfl, hr⟩
      obtain ⟨eo, fcap, zs, rfl, oz, lz, vz, nz, hb⟩ := hr.parts
      have B1 := K0.out.2.1.below hb K0.out.2.1.lt
      have B2 := K0.out.2.2.1.below hb K0.out.2.2.1.lt
      have B3 := K0.out.2.2.2.below hb K0.out.2.2.2.lt
      have hb0 : Below w.heap.size w w1 := K0.out.1.trans (hb.mono K0.out.1.size)
      obtain ⟨a1, -, -, -⟩ := B1.cells
      obtain ⟨b1, -, -, -⟩ := B2.cells
      have K1 := Hid.mk (And.intro (And.intro oz (And.intro lz (And.intro vz nz))) (And.intro hb0 B3))
      clear hr hb hb0 oz lz vz nz B1 B2 B3
      go_wp2_with fail
      refine (made_any _ _ zs _ K1.out.1.1 K1.out.1.2.1).mono ?_
      rintro e w2 ⟨r2, rfl, hr2, hb2⟩
      obtain ⟨ng, co, ecap, ws, rfl, -⟩ := hr2.parts
      have B3 := K1.out.2.2.below hb2 K1.out.2.2.lt
      obtain ⟨c1, c2, c3, c4⟩ := B3.cells
      have c5 := B3.put1 (.bool ng)
      have K2 := Hid.mk (And.intro hr2 (And.intro (K1.out.2.1.trans (hb2.mono K1.out.2.1.size)) B3.ty))
      clear hr2 hb2 B3 a1 b1
      go_wp2_with fail
      refine bodyPost_ret (v := .agg #[.bool ng, .slice co ws.length ecap]) ?_ rfl ?_
      · (simp [results, Tryz.results178, go_sem, c2, c5]; done)
      · refine ⟨_, rfl, ?_, (K2.out.2.1.setCell (by simp <;> omega) _).setCell (by simp <;> omega) _⟩
        have fin := (K2.out.1.box K2.out.2.2 (by decide) (.bool ng) (.slice co ws.length ecap)).mono (M := max L M + 1) (by have := K1.out.1.2.2.2; omega)
        have e1 := K1.out.1.2.2.1
        have e2 := H.out.2.2.2.1
        have e3 := J.out.2.2.2.1
        rw [e1] at fin
        cases na <;> cases nb
        · exact absurd rfl hn
        · simp only [if_true, Bool.false_eq_true, if_false] at fin e2 e3 ⊢
          rw [show x + y = -((val ys - val xs : Nat) : Int) from by omega]
          exact fin
        · simp only [if_true, Bool.false_eq_true, if_false] at fin e2 e3 ⊢
          rw [show x + y = ((val ys - val xs : Nat) : Int) from by omega]
          exact fin
        · exact absurd rfl hn
    · obtain ⟨cm, hcm, hcm2⟩ : ∃ cm : Nat, cmpZ (val xs) (val ys) = (cm : Int) ∧ cm ≤ 1 := by
        unfold cmpZ
        rw [if_neg hlt]
        by_cases h : val ys < val xs
        · exact ⟨1, by rw [if_pos h]; rfl, Nat.le_refl _⟩
        · exact ⟨0, by rw [if_neg h]; rfl, Nat.zero_le _⟩
      rw [hcm]
      clear hcm
      go_wp2_with fail
      refine (less_any _ _ xs ys _ (H.out.1.below K0.out.1) (J.out.1.below K0.out.1) H.out.2.1.1 J.out.2.1.1 (by omega) ?_ (by omega)).mono ?_
      · rcases Nat.lt_or_ge xs.length ys.length with h | h
        · have := cmp_len H.out.2.1.1 J.out.2.1 h; omega
        · exact h
      clear a1 a2 b1 b2
      rintro e w1 ⟨r, rfl, hr⟩
      obtain ⟨eo, fcap, zs, rfl, oz, lz, vz, nz, hb⟩ := hr.parts
      have B1 := K0.out.2.1.below hb K0.out.2.1.lt
      have B2 := K0.out.2.2.1.below hb K0.out.2.2.1.lt
      have B3 := K0.out.2.2.2.below hb K0.out.2.2.2.lt
      have hb0 : Below w.heap.size w w1 := K0.out.1.trans (hb.mono K0.out.1.size)
      obtain ⟨a1, -, -, -⟩ := B1.cells
      obtain ⟨b1, -, -, -⟩ := B2.cells
      have K1 := Hid.mk (And.intro (And.intro oz (And.intro lz (And.intro vz nz))) (And.intro hb0 B3))
      clear hr hb hb0 oz lz vz nz B1 B2 B3
      go_wp2_with fail
      refine (made_any _ _ zs _ K1.out.1.1 K1.out.1.2.1).mono ?_
      rintro e w2 ⟨r2, rfl, hr2, hb2⟩
      obtain ⟨ng, co, ecap, ws, rfl, -⟩ := hr2.parts
      have B3 := K1.out.2.2.below hb2 K1.out.2.2.lt
      obtain ⟨c1, c2, c3, c4⟩ := B3.cells
      have c5 := B3.put1 (.bool ng)
      have K2 := Hid.mk (And.intro hr2 (And.intro (K1.out.2.1.trans (hb2.mono K1.out.2.1.size)) B3.ty))
      clear hr2 hb2 B3 a1 b1
      go_wp2_with fail
      refine bodyPost_ret (v := .agg #[.bool ng, .slice co ws.length ecap]) ?_ rfl ?_
      · (simp [results, Tryz.results178, go_sem, c2, c5]; done)
      · refine ⟨_, rfl, ?_, (K2.out.2.1.setCell (by simp <;> omega) _).setCell (by simp <;> omega) _⟩
        have fin := (K2.out.1.box K2.out.2.2 (by decide) (.bool ng) (.slice co ws.length ecap)).mono (M := max L M + 1) (by have := K1.out.1.2.2.2; omega)
        have e1 := K1.out.1.2.2.1
        have e2 := H.out.2.2.2.1
        have e3 := J.out.2.2.2.1
        rw [e1] at fin
        cases na <;> cases nb
        · exact absurd rfl hn
        · simp only [if_true, Bool.false_eq_true, if_false] at fin e2 e3 ⊢
          rw [show x + y = ((val xs - val ys : Nat) : Int) from by omega]
          exact fin
        · simp only [if_true, Bool.false_eq_true, if_false] at fin e2 e3 ⊢
          rw [show x + y = -((val xs - val ys : Nat) : Int) from by omega]
          exact fin
        · exact absurd rfl hn
end Go.Proofs.YtfjbijpagaipnaaGreatDoor.R
