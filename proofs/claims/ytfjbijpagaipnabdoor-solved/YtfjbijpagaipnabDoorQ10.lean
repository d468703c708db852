import Derived.Test.YtfjbijpagaipnabDoorQ09
import Derived.Test.YtfjbijpagaipnabDoorRows
import Derived.Test.YtfjbijpagaipnabDoorQ01
import Derived.WalkKit
import Derived.WalkSpells
import Derived.WalkLawsBesides
import Derived.Handy
import Derived.Test.YtfjbijpagaipnabDoorQ03
namespace Go.Proofs.YtfjbijpagaipnabDoor
open Go.RowKit
abbrev set6 (V : World) (A B : Nat) (x1 x2 x3 y1 y2 y3 : Value) : World := (((((V.setCell ⟨A, 0, none⟩ x1).setCell ⟨A, 1, none⟩ x2).setCell ⟨A, 2, none⟩ x3).setCell ⟨B, 0, none⟩ y1).setCell ⟨B, 1, none⟩ y2).setCell ⟨B, 2, none⟩ y3
theorem set3_trio {V : World} {A : Nat} {u1 u2 u3 : Value} (h : Trio V A u1 u2 u3) (x1 x2 x3 : Value) : Trio (((V.setCell ⟨A, 0, none⟩ x1).setCell ⟨A, 1, none⟩ x2).setCell ⟨A, 2, none⟩ x3) A x1 x2 x3 := by
 obtain ⟨h0, h1, h2⟩ := h
 have o := fun (i j : Nat) (h : i ≠ j) (W : World) (v : Value) => World.cell?_setCell_other (w := W) (v := v) (a := ⟨A, i, none⟩) (b := ⟨A, j, none⟩) (fun e => h (congrArg Addr.off e))
 refine ⟨?_, ?_, ?_⟩
 ·exact (o 2 0 (by decide) _ _).trans ((o 1 0 (by decide) _ _).trans (World.cell?_setCell_same _ _ _ h0))
 ·exact (o 2 1 (by decide) _ _).trans (World.cell?_setCell_same _ _ _ ((o 0 1 (by decide) _ _).trans h1))
 ·exact World.cell?_setCell_same _ _ _ ((o 1 2 (by decide) _ _).trans ((o 0 2 (by decide) _ _).trans h2))
theorem set3_far {V : World} {A B : Nat} {u1 u2 u3 : Value} (h : Trio V A u1 u2 u3) (hne : B ≠ A) (x1 x2 x3 : Value) : Trio (((V.setCell ⟨B, 0, none⟩ x1).setCell ⟨B, 1, none⟩ x2).setCell ⟨B, 2, none⟩ x3) A u1 u2 u3 := by
 obtain ⟨h0, h1, h2⟩ := h
 have o := fun (i j : Nat) (W : World) (v : Value) => World.cell?_setCell_other (w := W) (v := v) (a := ⟨B, i, none⟩) (b := ⟨A, j, none⟩) (fun e => hne (congrArg Addr.block e))
 exact ⟨(o 2 0 _ _).trans ((o 1 0 _ _).trans ((o 0 0 _ _).trans h0)), (o 2 1 _ _).trans ((o 1 1 _ _).trans ((o 0 1 _ _).trans h1)), (o 2 2 _ _).trans ((o 1 2 _ _).trans ((o 0 2 _ _).trans h2))⟩
theorem set6_trio {V : World} {A B : Nat} {u1 u2 u3 v1 v2 v3 : Value} (hA : Trio V A u1 u2 u3) (hB : Trio V B v1 v2 v3) (hne : A ≠ B) (x1 x2 x3 y1 y2 y3 : Value) :
 Trio (set6 V A B x1 x2 x3 y1 y2 y3) A x1 x2 x3 ∧ Trio (set6 V A B x1 x2 x3 y1 y2 y3) B y1 y2 y3 :=
 ⟨set3_far (set3_trio hA x1 x2 x3) hne.symm y1 y2 y3, set3_trio (set3_far hB hne x1 x2 x3) y1 y2 y3⟩
theorem set6_below {V W : World} {n A B : Nat} (h : Below n W V) (hA : n ≤ A) (hB : n ≤ B) (x1 x2 x3 y1 y2 y3 : Value) : Below n W (set6 V A B x1 x2 x3 y1 y2 y3) :=
 (((((h.setCell hA x1).setCell hA x2).setCell hA x3).setCell hB y1).setCell hB y2).setCell hB y3
theorem set6_KT (V : World) {A B : Nat} {s t : TypeId} (hA : Ty V A s) (hB : Ty V B t) (s1 : s ≠ 110) (s2 : s ≠ 69) (t1 : t ≠ 110) (t2 : t ≠ 69) (x1 x2 x3 y1 y2 y3 : Value) : KT V (set6 V A B x1 x2 x3 y1 y2 y3) := by
 have a1 := hA.setCell ⟨A, 0, none⟩ x1
 have a2 := a1.setCell ⟨A, 1, none⟩ x2
 have b3 := ((hB.setCell ⟨A, 0, none⟩ x1).setCell ⟨A, 1, none⟩ x2).setCell ⟨A, 2, none⟩ x3
 have b4 := b3.setCell ⟨B, 0, none⟩ y1
 have b5 := b4.setCell ⟨B, 1, none⟩ y2
 exact (((((((KT.refl V).setCell hA s1 s2 x1).setCell a1 s1 s2 x2).setCell a2 s1 s2 x3).setCell b3 t1 t2 y1).setCell b4 t1 t2 y2).setCell b5 t1 t2 y3)
open Go.RowKit
end Go.Proofs.YtfjbijpagaipnabDoor
namespace Go.Proofs.YtfjbijpagaipnabDoor.R
open Go.RowKit
def lcells (xs : List Nat) : List Value := xs.map fun (x : Nat) => Value.int .i64 (x : Int)
def Own (w : World) (v : Value) (xs : List Nat) : Prop := w.ownsRow 0 3 1 v xs.length (lcells xs)
theorem lcells_get (xs : List Nat) (i : Nat) (h : i < xs.length) : (lcells xs)[i]? = some (.int .i64 (xs.getD i 0 : Nat)) := by
 simp [lcells, List.getD, List.getElem?_eq_getElem h]
theorem lcells_set (zs : List Nat) (k c : Nat) : (lcells zs).set k (.int .i64 (c : Nat)) = lcells (zs.set k c) := by simp [lcells, List.map_set]
theorem Own.stored {w : World} {g n cap : Nat} {zs : List Nat} (h : Own w (.slice (some ⟨g, 0, none⟩) n cap) zs) (hn : zs.length = n) (k c : Nat) :
 Own (w.setCell ⟨g, k, none⟩ (.int .i64 (c : Nat))) (.slice (some ⟨g, 0, none⟩) n cap) (zs.set k c) := by
 subst hn
 have := (World.ownsRow.stored (w := w) h k (.int .i64 (c : Nat))).1
 rw [lcells_set] at this
 unfold Own
 rw [List.length_set]
 exact this
theorem Own.stored_int {w : World} {g n cap : Nat} {zs : List Nat} (h : Own w (.slice (some ⟨g, 0, none⟩) n cap) zs) (hn : zs.length = n) (k c : Nat) {z : Int} (hz : z = (c : Int)) :
 Own (w.setCell ⟨g, k, none⟩ (.int .i64 z)) (.slice (some ⟨g, 0, none⟩) n cap) (zs.set k c) := by rw [hz]; exact h.stored hn k c
theorem Own.cell {w : World} {g n cap : Nat} {zs : List Nat} (h : Own w (.slice (some ⟨g, 0, none⟩) n cap) zs) (hn : zs.length = n) (k : Nat) (hk : k < n) :
 w.cell? ⟨g, k, none⟩ = some (.int .i64 (zs.getD k 0 : Nat)) := by
 subst hn
 rw [World.ownsRow.cellAt h k (by omega), lcells_get zs k hk]
theorem Own.frozen {w : World} {g n cap : Nat} {zs : List Nat} (h : Own w (.slice (some ⟨g, 0, none⟩) n cap) zs) (hn : zs.length = n) (k : Nat) : w.frozen? ⟨g, k, none⟩ = false := by
 subst hn
 exact World.ownsRow.frozenAt h k
theorem Own.lt {w : World} {g n cap : Nat} {zs : List Nat} (h : Own w (.slice (some ⟨g, 0, none⟩) n cap) zs) : g < w.heap.size := (World.ownsRow.lt h g rfl).2
theorem Tryd.info3 : (Tryd.prog.info? 3).map (fun i => (i.zero, i.size, i.bytes)) = some (some (.int .i64 0), 1, 8) := by kernel_rfl
theorem make_digits (w : World) {ops : Array Oper} {rest : List Oper} {o : Oper} {a : Act} {Q : Exit → Act → World → Prop}
 (hg : o.guard = none) (l c : Operand) (hop : o.op = Op.makeSlice 37 l c) (L C : Int) (n : Nat) (hl : a.eval l = .int .i64 L) (hc : a.eval c = .int .i64 C) (hL : L = (n : Int)) (hC : C = (n : Int)) (b : n ≤ 1000000000000)
 (hK : ∀ w', Own w' (.slice (some ⟨w.heap.size, 0, none⟩) n n) (List.replicate n 0) → Below w.heap.size w w' → wpList Tryd.prog ops Q rest (a.put o.dst (.slice (some ⟨w.heap.size, 0, none⟩) n n)) w') :
 wpList Tryd.prog ops Q (o :: rest) a w := by
 obtain ⟨i, hi, hz0, hz1, hz2⟩ := info_parts Tryd.info3
 refine wpList_make_full w hg l c 37 hop 0 3 i (.int .i64 0) 1 Tryd.underlying37 hi hz0 hz1 .i64 .i64 L C n hl hc hL hC (by rw [hz2]; omega) (by unfold maxLen; omega) (Nat.zero_le _) ?_
 intro w' hown hgrow
 refine hK w' ?_ ((Below.refl _ _).grown hgrow (Nat.le_refl _) (by simp))
 unfold Own
 rw [List.length_replicate]
 rw [show (Value.int IntKind.i64 0).cells = #[.int .i64 0] from rfl, toList_madeCells_one, Nat.mul_one] at hown
 simpa [lcells] using hown
end Go.Proofs.YtfjbijpagaipnabDoor.R
namespace Go.Proofs.YtfjbijpagaipnabDoor
open Go.RowKit
def ff (ms : List Hm) : Nat := ms.findIdx Option.isNone
def put1 (ms : List Hm) (nx : Nat) (x : Nat × Nat × List Int) : List Hm := ms.set (ff ms) (some (nx, x))
def puts (ms : List Hm) (nx : Nat) : List (Nat × Nat × List Int) → List Hm
 | [] => ms
 | x :: xs => puts (put1 ms nx x) (nx + 1) xs
theorem puts_snoc (x : Nat × Nat × List Int) : ∀ xs ms nx, puts ms nx (xs ++ [x]) = put1 (puts ms nx xs) (nx + xs.length) x := by
 intro xs
 induction xs with
 | nil => intro ms nx; rfl
 | cons y ys ih =>
   intro ms nx
   rw [List.cons_append, puts, ih, puts, List.length_cons, show nx + 1 + ys.length = nx + (ys.length + 1) from by omega]
theorem puts_len : ∀ xs ms nx, (puts ms nx xs).length = ms.length := by
 intro xs
 induction xs with
 | nil => intro ms nx; rfl
 | cons y ys ih => intro ms nx; rw [puts, ih]; simp [put1]
theorem ff_free {ms : List Hm} (hm : ms.length = 24) (hr : 0 < ms.countP Option.isNone) : FreeAt ms (ff ms) := by
 have h1 : ff ms < ms.length := List.findIdx_lt_length_of_exists (List.countP_pos_iff.1 hr)
 have h2 : (ms[ff ms]).isNone = true := List.findIdx_getElem (w := h1)
 refine ⟨by omega, ?_, fun j hj h => ?_⟩
 ·rw [List.getD, List.getElem?_eq_getElem h1]
  simpa using h2
 ·have h3 := List.not_of_lt_findIdx (show j < ms.findIdx Option.isNone from hj)
  rw [List.getD, List.getElem?_eq_getElem (by omega)] at h
  simp at h
  simp [h] at h3
theorem put1_room {ms : List Hm} (hm : ms.length = 24) (hr : 0 < ms.countP Option.isNone) (nx : Nat) (x : Nat × Nat × List Int) : (put1 ms nx x).countP Option.isNone + 1 = ms.countP Option.isNone := by
 have hf := ff_free hm hr
 have h1 : ff ms < ms.length := by have := hf.1; omega
 have h2 : ms[ff ms] = none := by have := hf.2.1; rw [List.getD, List.getElem?_eq_getElem h1] at this; simpa using this
 unfold put1
 rw [List.countP_set h1, h2]
 simp
 omega
theorem puts_room : ∀ xs ms nx, ms.length = 24 → xs.length ≤ ms.countP Option.isNone → (puts ms nx xs).countP Option.isNone + xs.length = ms.countP Option.isNone := by
 intro xs
 induction xs with
 | nil => intro ms nx _ _; rfl
 | cons y ys ih =>
   intro ms nx hm hl
   rw [List.length_cons] at hl
   have h1 := put1_room hm (by omega) nx y
   have h2 := ih (put1 ms nx y) (nx + 1) (by simp [put1, hm]) (by omega)
   rw [puts, List.length_cons]
   omega
def MRow (w : World) (g : Nat) (xs : List (Nat × Nat × List Int)) : Prop := ∀ j, j < xs.length → ∃ ao m cap, w.cell? ⟨g, j * 3, none⟩ = some (.int .i64 ((xs.getD j (0, 0, [])).1 : Nat)) ∧ w.cell? ⟨g, j * 3 + 1, none⟩ = some (.int .i64 ((xs.getD j (0, 0, [])).2.1 : Nat)) ∧ w.cell? ⟨g, j * 3 + 2, none⟩ = some (.slice ao m cap) ∧
 IsM w (.agg #[.int .i64 ((xs.getD j (0, 0, [])).1 : Nat), .int .i64 ((xs.getD j (0, 0, [])).2.1 : Nat), .slice ao m cap]) (xs.getD j (0, 0, [])).1 (xs.getD j (0, 0, [])).2.1 (xs.getD j (0, 0, [])).2.2 200000000
theorem R.Own.of_block {w w' : World} {v : Value} {xs : List Nat} (h : R.Own w v xs) (hb : ∀ g, v.ownBlock = some g → w'.heap[g]? = w.heap[g]?) : R.Own w' v xs := by
 obtain ⟨h1, h2⟩ := h
 refine ⟨h1, ?_⟩
 rcases h2 with h3 | ⟨g, cap, cur, hv, hg, hh, r⟩
 ·exact .inl h3
 ·exact .inr ⟨g, cap, cur, hv, hg, by rw [hb g (by rw [hv]; rfl)]; exact hh, r⟩
theorem R.Own.ty_ {w : World} {g n cap : Nat} {xs : List Nat} (h : R.Own w (.slice (some ⟨g, 0, none⟩) n cap) xs) : Ty w g 3 := by
 obtain ⟨h1, h2⟩ := h
 rcases h2 with ⟨h3, _⟩ | ⟨g', cap', cur, hv, hg, hh, r⟩
 ·simp at h3
 ·simp only [Value.slice.injEq, Option.some.injEq, Addr.mk.injEq] at hv
  obtain ⟨⟨rfl, _⟩, _⟩ := hv
  exact ⟨_, _, hh⟩
theorem cell_block {w w' : World} {g : Nat} (h : w'.heap[g]? = w.heap[g]?) (o : Nat) : w'.cell? ⟨g, o, none⟩ = w.cell? ⟨g, o, none⟩ := by simp only [World.cell?, h]
theorem MRow.fr {w w' : World} {g b : Nat} {xs : List (Nat × Nat × List Int)} (h : MRow w g xs) (hf : Fr b w w') (hg : g < w.heap.size) (hgb : g ≠ b) : MRow w' g xs := by
 intro j hj
 obtain ⟨ao, m, cap, h1, h2, h3, h4⟩ := h j hj
 have hb : w'.heap[g]? = w.heap[g]? := hf.1.block g hg (fun e => hgb (by injection e))
 exact ⟨ao, m, cap, by rw [cell_block hb]; exact h1, by rw [cell_block hb]; exact h2, by rw [cell_block hb]; exact h3, h4.keepT hf.2⟩
def KeptAll (w w' : World) (b nx n : Nat) (ms : List Hm) (xs : List (Nat × Nat × List Int)) (v : Value) : Prop := ∃ hb zs, v = .slice (some ⟨hb, 0, none⟩) n n ∧ w.heap.size ≤ hb ∧ zs.length = n ∧ (∀ j, j < n → zs.getD j 0 = nx + j) ∧ R.Own w' v zs ∧ Held w' b (puts ms nx xs) (nx + n) ∧ Fr b w w'
set_option maxRecDepth 100000 in
set_option maxHeartbeats 4000000 in
theorem keepAll_held (b g n cap : Nat) (xs : List (Nat × Nat × List Int)) (ms : List Hm) (nx : Nat) (w : World) (hst : Held w b ms nx) (hrow : MRow w g xs) (hn : xs.length = n) (hn5 : n ≤ 5) (hg : g < w.heap.size) (hgb : g ≠ b) (hroom : n ≤ ms.countP Option.isNone) (hnx : nx < 1000000 - 5) :
 Calls Tryd.prog 30 #[.pointer (some ⟨b, 0, none⟩), .slice (some ⟨g, 0, none⟩) n cap] w fun e w' => ∃ v, e = .returned v ∧ KeptAll w w' b nx n ms xs v := by
 have H := Hid.mk (And.intro hst (And.intro hrow (And.intro hn (And.intro hgb hroom))))
 have hbl := hst.lt
 clear hst hrow hn hroom
 go_enter Tryd.func30, Tryd.ntmps30
 go_wp2_with (refine R.make_digits _ rfl _ _ rfl _ _ n rfl rfl (by omega) (by omega) (by omega) ?_)
 intro w1 hown hbel
 obtain ⟨hb, hhb⟩ : ∃ hb, hb = w.heap.size := ⟨_, rfl⟩
 rw [← hhb] at hown ⊢
 have K0 := Hid.mk (And.intro hown (And.intro hbel hhb))
 clear hown hbel hhb
 go_wp2_with fail
 go_loopw [6] (fun i wr => ∃ (k : Nat) (zs : List Nat), k ≤ n ∧ i = .int .i64 k ∧ Hid (zs.length = n) ∧ R.Own wr (.slice (some ⟨hb, 0, none⟩) n n) zs ∧ Held wr b (puts ms nx (xs.take k)) (nx + k) ∧ Fr b w wr ∧ MRow wr g xs ∧ Hid (∀ j, j < k → zs.getD j 0 = nx + j)) (fun i _ => n - (intOf i).toNat)
 case atStart => exact ⟨0, _, Nat.zero_le _, rfl, Hid.mk List.length_replicate, K0.out.1, H.out.1.below K0.out.2.1, Fr.of_below K0.out.2.1, H.out.2.1.fr (Fr.of_below K0.out.2.1) hg hgb, Hid.mk (fun j hj => by omega)⟩
 case round =>
  obtain ⟨k, zs, hk, rfl, HZ, hown, hheld, hfr, hrow, HI⟩ := hrel
  have hwr : w.heap.size ≤ wr.heap.size := hfr.1.size
  by_cases hkn : k < n
  ·obtain ⟨ao, m, ecap, c1, c2, c3, hM⟩ := hrow k (by rw [H.out.2.2.1]; exact hkn)
   have hob := hown.lt
   obtain ⟨x, hx⟩ : ∃ x, x = xs.getD k (0, 0, []) := ⟨_, rfl⟩
   rw [← hx] at c1 c2 hM
   have htl : (xs.take k).length = k := by have := H.out.2.2.1; simp; omega
   have hfree := ff_free (ms := puts ms nx (xs.take k)) (by rw [puts_len]; exact H.out.1.1) (by
    have h1 := puts_room (xs.take k) ms nx H.out.1.1 (by have := H.out.2.2.2.2; omega)
    have := H.out.2.2.2.2
    omega)
   clear htl
   obtain ⟨xr, xc, xz⟩ := x
   have K := Hid.mk (And.intro hown (And.intro hheld (And.intro hfr (And.intro hrow (And.intro hM (And.intro hfree hx))))))
   have hki : (k : Int) < (n : Int) := by omega
   clear hown hheld hfr hrow hM hfree hx
   go_wp2_with fail
   refine (keep_held b xr xc ao m ecap xz _ _ _ _ K.out.2.1 K.out.2.2.2.2.1 K.out.2.2.2.2.2.1 (by omega)).mono ?_
   rintro e w2 ⟨rfl, hH2, hF2⟩
   have hne : hb ≠ b := by rw [K0.out.2.2]; omega
   have hown2 : R.Own w2 (.slice (some ⟨hb, 0, none⟩) n n) zs := K.out.1.of_block (fun g' hg' => by
    simp [Value.ownBlock] at hg'
    subst hg'
    exact hF2.1.block hb hob (fun e => hne (by injection e)))
   have d1 := hown2.frozen HZ.out k
   have d2 := hown2.cell HZ.out k hkn
   have K2 := Hid.mk (And.intro hown2 (And.intro hH2 (K.out.2.2.1.trans hF2)))
   clear hown2 hH2 hF2 c1 c2 c3
   go_wp2_with fail
   go_roundw
   case measure => simp [intOf]; omega
   case rel =>
    obtain ⟨e1, e2, e3⟩ := K2.out
    have hgl : g < w2.heap.size := by have := e3.1.size; omega
    have hty : Ty w2 hb 3 := R.Own.ty_ e1
    have hfn : Fr hb w2 (w2.setCell ⟨hb, k, none⟩ (.int .i64 ((nx + k : Nat) : Int))) := (Fr.refl hb w2).setOwn hty (by decide) (by decide) _
    have hgh : g ≠ hb := by rw [K0.out.2.2]; omega
    refine ⟨k + 1, zs.set k (nx + k), by omega, by go_num, Hid.mk (by simp [HZ.out]), e1.stored_int HZ.out k _ (by omega), ?_, e3.setNew (by rw [K0.out.2.2]; exact Nat.le_refl _) _, (H.out.2.1.fr e3 hg hgb).fr hfn hgl hgh, Hid.mk (fun j hj => ?_)⟩
    ·have h1 : puts ms nx (xs.take (k + 1)) = put1 (puts ms nx (xs.take k)) (nx + k) (xr, xc, xz) := by
      have h2 : xs.take (k + 1) = xs.take k ++ [(xr, xc, xz)] := by
       rw [K.out.2.2.2.2.2.2, List.take_add_one, List.getD, List.getElem?_eq_getElem (by have := H.out.2.2.1; omega)]; rfl
      rw [h2, puts_snoc, show (xs.take k).length = k from by have := H.out.2.2.1; simp; omega]
     rw [h1]
     exact e2.fr hfn hne.symm
    ·by_cases hjk : j = k
     ·subst hjk; simp [List.getD, show j < zs.length by rw [HZ.out]; exact hkn]
     ·rw [List.getD, List.getElem?_set_ne (fun e => hjk e.symm)]; exact HI.out j (by omega)
  ·have hkn' : k = n := by omega
   subst hkn'
   have hki : ¬ (k : Int) < (k : Int) := by omega
   have K := Hid.mk (And.intro hown (And.intro hheld hfr))
   clear hown hheld hfr hrow
   go_wp2_with fail
   go_ret
   refine ⟨_, rfl, hb, zs, rfl, by rw [K0.out.2.2]; exact Nat.le_refl _, HZ.out, HI.out, K.out.1, ?_, K.out.2.2⟩
   have := K.out.2.1
   rw [List.take_of_length_le (by have := H.out.2.2.1; omega)] at this
   exact this
open Go.RowKit
def Tri (w : World) (b o : Nat) (x y z : Value) : Prop := w.cell? ⟨b, o, none⟩ = some x ∧ w.cell? ⟨b, o + 1, none⟩ = some y ∧ w.cell? ⟨b, o + 2, none⟩ = some z
theorem Tri.later {w w' : World} {b o : Nat} {x y z : Value} (h : Tri w b o x y z) (hb : Below w.heap.size w w') : Tri w' b o x y z := ⟨cell_later hb h.1, cell_later hb h.2.1, cell_later hb h.2.2⟩
theorem Tri.grown {w w' : World} {b o s : Nat} {x y z : Value} (h : Tri w b o x y z) (hg : w.grownBy w' (some s)) (hne : b ≠ s) : Tri w' b o x y z := ⟨hg.cell h.1 (by simpa using hne), hg.cell h.2.1 (by simpa using hne), hg.cell h.2.2 (by simpa using hne)⟩
set_option maxRecDepth 100000 in
set_option maxHeartbeats 2000000 in
theorem set_o (p o g r c cap row col : Nat) (zs : List Int) (L : Nat) (x : Value) (z : Int) (w : World) (hp : Tri w p o (.int .i64 r) (.int .i64 c) (.slice (some ⟨g, 0, none⟩) (r * c) cap)) (hg : Grid w (.slice (some ⟨g, 0, none⟩) (r * c) cap) (r * c) zs L) (hx : IsI w x z L) (hr : r ≤ 99) (hc : c ≤ 99) (h1 : row < r) (h2 : col < c) :
 Calls Tryd.prog 46 #[.pointer (some ⟨p, o, none⟩), .int .i64 row, .int .i64 col, x] w fun e w' => e = .returned (.tuple #[]) ∧ Grid w' (.slice (some ⟨g, 0, none⟩) (r * c) cap) (r * c) (zs.set (row * c + col) z) L ∧ w.grownBy w' (some g) ∧ KU w w' := by
 obtain ⟨p0, p1, p2⟩ := hp
 have hk := idx_lt h1 h2
 obtain ⟨nb, bo, m, ecap, c1, c2, -⟩ := hg.cell _ hk
 have f1 := hg.frozen (2 * (row * c + col))
 have f2 := hg.frozen (2 * (row * c + col) + 1)
 have hgl : g < w.heap.size := World.block_lt_of_cell? w _ c1
 have hh := hasB_in h1 h2
 obtain ⟨b1, b2⟩ := idx_bd hr hc h1
 obtain ⟨sl, xs, rfl, q2, q3, q4, q5⟩ := id hx
 obtain ⟨ao, dcap, rfl, -⟩ := q5.open_
 rw [Nat.mul_comm 2] at c1 c2 f1 f2
 have d1 := cell2 c1
 have d2 := cell2 c2
 have d3 := frozen2 f1 hgl
 have d4 := frozen2 f2 hgl
 have d5 : ∀ v, ∀ o1 o2, (((w.setCell ⟨g, (row * c + col) * 2, none⟩ v).alloc o1).alloc o2).cell? ⟨g, (row * c + col) * 2 + 1, none⟩ = some (.slice bo m ecap) := fun v => cell2 (by rw [World.cell?_setCell_other _ _ _ _ (by simp)]; exact c2)
 have d6 : ∀ v, ∀ o1 o2, (((w.setCell ⟨g, (row * c + col) * 2, none⟩ v).alloc o1).alloc o2).frozen? ⟨g, (row * c + col) * 2 + 1, none⟩ = false := fun v => frozen2 (by rw [World.frozen?_setCell]; exact f2) (by simp [World.setCell]; exact hgl)
 have e0 := cell2 p0
 have e1 := cell2 p1
 have e2 := cell2 p2
 have e0' := cell1 p0
 have e1' := cell1 p1
 have e2' := cell1 p2
 have HX := Hid.mk hx
 have HG := Hid.mk hg
 have HK := Hid.mk hk
 clear hx hg q2 q3 q4 q5 p0 p1 p2 c1 c2 f1 f2
 obtain ⟨nz, hnz⟩ : ∃ nz, nz = decide (z < 0) := ⟨_, rfl⟩
 rw [← hnz] at HX ⊢
 clear hnz
 obtain ⟨N, hN⟩ : ∃ N, N = r * c := ⟨_, rfl⟩
 rw [← hN] at hk e2 e2' HG ⊢
 have hk2 : (row : Int) * (c : Int) + (col : Int) < (N : Int) := by rw [← Int.natCast_mul]; omega
 clear hN HK
 go_enter Tryd.func46, Tryd.ntmps46
 go_wp2_with (go_at_call 70; refine (has_raw _ _ _ _ _ _ _ _).mono ?_; rintro e w' ⟨rfl, rfl⟩; rw [hh])
 go_region
 all_goals
  go_end0
  obtain ⟨S1, S2⟩ := HG.out.stored _ hk HX.out
  rw [Nat.mul_comm 2] at S1 S2
  refine ⟨rfl, ?_, ?_, ?_⟩
  ·refine S1.below ?_
   repeat (first | exact Below.refl _ _ | refine Below.drew ?_ | refine Below.alloc ?_ (by simp <;> omega) _)
  ·refine grown_set2 (i := (row * c + col) * 2) (j := (row * c + col) * 2 + 1) (a := .bool nz) (b := .slice ao xs.length dcap) ?_
   repeat (first | exact Below.refl _ _ | refine Below.drew ?_ | refine Below.alloc ?_ (by simp <;> omega) _)
  ·refine S2.trans (KU.of_below ?_)
   repeat (first | exact Below.refl _ _ | refine Below.drew ?_ | refine Below.alloc ?_ (by simp <;> omega) _)
structure MatO (w : World) (p o g r c : Nat) (zs : List Int) (L : Nat) : Prop where
 hr : r ≤ 99
 hc : c ≤ 99
 tri : Tri w p o (.int .i64 r) (.int .i64 c) (.slice (some ⟨g, 0, none⟩) (r * c) (r * c))
 grid : Grid w (.slice (some ⟨g, 0, none⟩) (r * c) (r * c)) (r * c) zs L
theorem MatO.isM {w : World} {p o g r c L : Nat} {zs : List Int} (h : MatO w p o g r c zs L) : IsM w (.agg #[.int .i64 r, .int .i64 c, .slice (some ⟨g, 0, none⟩) (r * c) (r * c)]) r c zs L := ⟨h.hr, h.hc, _, rfl, h.grid⟩
theorem MatO.later {w w' : World} {p o g r c L : Nat} {zs : List Int} (h : MatO w p o g r c zs L) (hb : Below w.heap.size w w') : MatO w' p o g r c zs L := ⟨h.hr, h.hc, h.tri.later hb, h.grid.below hb⟩
theorem MatO.mono {w : World} {p o g r c L M : Nat} {zs : List Int} (h : MatO w p o g r c zs L) (hLM : L ≤ M) : MatO w p o g r c zs M := by
 refine ⟨h.hr, h.hc, h.tri, ?_⟩
 obtain ⟨h0, cs, h1, h2⟩ := h.grid
 refine ⟨h0, cs, h1, fun i hi => ?_⟩
 obtain ⟨a, b, e1, e2, e3⟩ := h2 i hi
 exact ⟨a, b, e1, e2, e3.mono hLM⟩
theorem MatO.len {w : World} {p o g r c L : Nat} {zs : List Int} (h : MatO w p o g r c zs L) : zs.length = r * c := h.grid.1
theorem MatO.glt {w : World} {p o g r c L : Nat} {zs : List Int} (h : MatO w p o g r c zs L) : g < w.heap.size := h.grid.ty.lt
theorem MatO.plt {w : World} {p o g r c L : Nat} {zs : List Int} (h : MatO w p o g r c zs L) : p < w.heap.size := World.block_lt_of_cell? w _ h.tri.1
theorem set_m (p o g r c row col : Nat) (zs : List Int) (L : Nat) (x : Value) (z : Int) (w : World) (hm : MatO w p o g r c zs L) (hpg : p ≠ g) (hx : IsI w x z L) (h1 : row < r) (h2 : col < c) :
 Calls Tryd.prog 46 #[.pointer (some ⟨p, o, none⟩), .int .i64 row, .int .i64 col, x] w fun e w' => e = .returned (.tuple #[]) ∧ MatO w' p o g r c (zs.set (row * c + col) z) L ∧ w.grownBy w' (some g) ∧ KU w w' := by
 refine (set_o p o g r c (r * c) row col zs L x z w hm.tri hm.grid hx hm.hr hm.hc h1 h2).mono ?_
 rintro e w' ⟨rfl, a, b, d⟩
 exact ⟨rfl, ⟨hm.hr, hm.hc, hm.tri.grown b hpg, a⟩, b, d⟩
def ent (c : Nat) (zs : List Int) (i j : Nat) : Int := zs.getD (i * c + j) 0
theorem ent_set (ms : List Int) (r c : Nat) (hl : ms.length = r * c) (a e i j : Nat) (z : Int) (ha : a < r) (he : e < c) (hj : j < c) : ent c (ms.set (a * c + e) z) i j = if i = a ∧ j = e then z else ent c ms i j := by
 unfold ent
 by_cases h : i = a ∧ j = e
 ·obtain ⟨rfl, rfl⟩ := h
  have : i * c + j < ms.length := by rw [hl]; exact idx_lt ha he
  rw [if_pos ⟨rfl, rfl⟩]
  simp [List.getD, this]
 ·rw [if_neg h]
  have hne : a * c + e ≠ i * c + j := fun e' => by
   obtain ⟨h1, h2⟩ := idx_inj he hj e'
   exact h ⟨h1.symm, h2.symm⟩
  simp [List.getD, List.getElem?_set_ne hne]
open Go.RowKit
def ManyOut (w w' : World) (b n nx : Nat) (ms : List Hm) (ok : Bool) (xs : List (Nat × Nat × List Int)) (v : Value) : Prop :=
 (ok = false ∧ v = .slice none 0 0 ∧ Held w' b ms nx ∧ Fr b w w') ∨ (ok = true ∧ KeptAll w w' b nx n ms xs v)
theorem list_ent {r c : Nat} {xs ys : List Int} (h1 : xs.length = r * c) (h2 : ys.length = r * c) (h : ∀ i j, i < r → j < c → ent c xs i j = ent c ys i j) : xs = ys := by
 apply List.ext_getElem (by omega)
 intro t a b
 have hc : 0 < c := by
  rcases Nat.eq_zero_or_pos c with h0 | h0
  ·subst h0; rw [Nat.mul_zero] at h1; omega
  ·exact h0
 have h3 : t / c < r := by rw [Nat.div_lt_iff_lt_mul hc]; omega
 have h4 := Nat.mod_lt t hc
 have h5 : t / c * c + t % c = t := by rw [Nat.mul_comm]; exact Nat.div_add_mod t c
 have h6 := h (t / c) (t % c) h3 h4
 unfold ent at h6
 rw [h5] at h6
 simpa [List.getD, a, b] using h6
open Go.RowKit
theorem KU.of_grown {w w' : World} {g : Nat} {t : TypeId} (h : w.grownBy w' (some g)) (ht : Ty w g t) (hne : t ≠ 110) : KU w w' := by
 intro b arr hb
 rw [h.block b (Array.getElem?_eq_some_iff.1 hb).1 ?_]
 ·exact hb
 ·intro e
  simp only [Option.some.injEq] at e
  subst e
  obtain ⟨c, fr, hc⟩ := ht
  rw [hb] at hc
  simp only [Option.some.injEq, Obj.cells.injEq] at hc
  exact hne hc.2.1.symm
theorem Grid.grown {w w' : World} {g : Nat} {sl : Value} {n L : Nat} {zs : List Int} (h : Grid w sl n zs L) (hg : w.grownBy w' (some g)) (hn : ∀ a m c, sl = .slice (some a) m c → a.block ≠ g) (hk : KU w w') : Grid w' sl n zs L := by
 obtain ⟨h0, cs, h1, h2⟩ := h
 refine ⟨h0, cs, ⟨h1.1, ?_⟩, fun i hi => ?_⟩
 ·rcases h1.2 with h3 | ⟨g', cap, cur, hv, hg', hh, r⟩
  ·exact .inl h3
  ·exact .inr ⟨g', cap, cur, hv, hg', by rw [hg.block g' (Array.getElem?_eq_some_iff.1 hh).1 (by simpa using hn _ _ _ hv)]; exact hh, r⟩
 ·obtain ⟨a, b, e1, e2, e3⟩ := h2 i hi
  exact ⟨a, b, e1, e2, e3.keep hk⟩
theorem MatO.other {w w' : World} {p o g g' r c L : Nat} {zs : List Int} (h : MatO w p o g r c zs L) (hg : w.grownBy w' (some g')) (hk : KU w w') (hp : p ≠ g') (hne : g ≠ g') : MatO w' p o g r c zs L :=
 ⟨h.hr, h.hc, h.tri.grown hg hp, h.grid.grown hg (fun a m c e => by
   simp only [Value.slice.injEq, Option.some.injEq] at e
   obtain ⟨rfl, -, -⟩ := e
   exact hne) hk⟩
def sw (a b i : Nat) : Nat := if i = a then b else if i = b then a else i
def SwTo (r c a b e : Nat) (zs ms : List Int) : Prop := ∀ i j, i < r → j < c → ent c ms i j = ent c zs (if j < e then sw a b i else i) j
theorem SwTo.step {r c a b e : Nat} {zs ms : List Int} (h : SwTo r c a b e zs ms) (hl : ms.length = r * c) (ha : a < r) (hb : b < r) (he : e < c) {u l : Int} (hu : u = ent c ms a e) (hlo : l = ent c ms b e) : SwTo r c a b (e + 1) zs ((ms.set (a * c + e) l).set (b * c + e) u) := by
 intro i j hi hj
 rw [ent_set _ r c (by simpa using hl) b e i j u hb he hj, ent_set ms r c hl a e i j l ha he hj]
 have hua := h a e ha he
 have hlb := h b e hb he
 rw [if_neg (Nat.lt_irrefl e)] at hua hlb
 by_cases hje : j = e
 ·subst hje
  rw [if_pos (Nat.lt_succ_self j)]
  by_cases hib : i = b
  ·rw [if_pos ⟨hib, rfl⟩, hu, hua, hib]
   unfold sw
   by_cases hba : b = a
   ·rw [if_pos hba, hba]
   ·rw [if_neg hba, if_pos rfl]
  ·rw [if_neg (fun h => hib h.1)]
   by_cases hia : i = a
   ·rw [if_pos ⟨hia, rfl⟩, hlo, hlb, hia]
    unfold sw
    rw [if_pos rfl]
   ·rw [if_neg (fun h => hia h.1), h i j hi hj, if_neg (Nat.lt_irrefl j)]
    unfold sw
    rw [if_neg hia, if_neg hib]
 ·rw [if_neg (fun h => hje h.2), if_neg (fun h => hje h.2), h i j hi hj]
  by_cases hlt : j < e
  ·rw [if_pos hlt, if_pos (by omega)]
  ·rw [if_neg hlt, if_neg (by omega)]
def StepO (w w' : World) (p o g r c : Nat) (f : Nat → Nat → Int) (L : Nat) : Prop := (∃ ms, MatO w' p o g r c ms L ∧ ∀ i j, i < r → j < c → ent c ms i j = f i j) ∧ w.grownBy w' (some g)
set_option maxRecDepth 100000 in
set_option maxHeartbeats 4000000 in
theorem swapRows_any (p o g r c a b : Nat) (zs : List Int) (L : Nat) (w : World) (hm : MatO w p o g r c zs L) (hpg : p ≠ g) (ha : a < r) (hb : b < r) :
 Calls Tryd.prog 99 #[.pointer (some ⟨p, o, none⟩), .int .i64 a, .int .i64 b] w fun e w' => e = .returned (.tuple #[]) ∧ StepO w w' p o g r c (fun i j => ent c zs (sw a b i) j) L := by
 have H := Hid.mk hm
 have hr := hm.hr
 have hc := hm.hc
 clear hm
 go_enter Tryd.func99, Tryd.ntmps99
 go_wp2_with fail
 go_loopw [6] (fun i wr => ∃ (e : Nat) (ms : List Int), e ≤ c ∧ i = .int .i64 e ∧ Hid (MatO wr p o g r c ms L ∧ w.grownBy wr (some g) ∧ SwTo r c a b e zs ms)) (fun i _ => c - (intOf i).toNat)
 case atStart => exact ⟨0, zs, Nat.zero_le _, rfl, Hid.mk ⟨H.out, World.grownBy.refl _ _, fun i j _ _ => by simp⟩⟩
 case round =>
  obtain ⟨e, ms, he, rfl, HI⟩ := hrel
  obtain ⟨q0, q1, q2⟩ := HI.out.1.tri
  have hgl := HI.out.1.glt
  have hpl := HI.out.1.plt
  by_cases hec : e < c
  ·have hei : (e : Int) < (c : Int) := by omega
   go_wp2_with fail
   refine (at_in _ r c a e ms L _ HI.out.1.isM ha hec).mono ?_
   rintro e9 w1 ⟨x, rfl, hx, hb1⟩
   obtain ⟨nb1, so1, n1, cp1, rfl⟩ := hx.shape
   have hb11 := (Below.refl w1.heap.size w1).alloc (Nat.le_refl _) (.cells #[.bool nb1, .slice so1 n1 cp1] 69)
   have hbA := hb1.trans (hb11.mono hb1.size)
   have hw1 := hb1.size
   obtain ⟨d0, d1, d2⟩ := HI.out.1.tri.later hbA
   have K1 := Hid.mk (And.intro hbA (And.intro (hx.below hb11) (Duo.new w1 (.bool nb1) (.slice so1 n1 cp1) rfl)))
   clear hx hb1 hb11 hbA q0 q1 q2
   go_wp2_with fail
   refine (at_in _ r c b e ms L _ (HI.out.1.isM.below K1.out.1) hb hec).mono ?_
   rintro e9 w2 ⟨x, rfl, hx, hb2⟩
   obtain ⟨nb2, so2, n2, cp2, rfl⟩ := hx.shape
   have hs2 : w1.heap.size + 1 ≤ w2.heap.size := by have := hb2.size; simpa using this
   have hb22 := (Below.refl w2.heap.size w2).alloc (Nat.le_refl _) (.cells #[.bool nb2, .slice so2 n2 cp2] 69)
   have hbB := K1.out.1.trans ((hb2.trans (hb22.mono hb2.size)).mono (by simp; omega))
   have hU := (K1.out.2.2.below hb2 (by simp)).below hb22 (by omega)
   have K2 := Hid.mk (And.intro hbB (And.intro (hx.below hb22) (And.intro ((K1.out.2.1.below hb2).below hb22) hU)))
   clear hx hb2 hb22 hbB hU d0 d1 d2
   go_wp2_with fail
   refine (set_m p o g r c a e ms L _ _ _ (HI.out.1.later K2.out.1) hpg K2.out.2.1 ha hec).mono ?_
   rintro e9 w3 ⟨rfl, hM3, hgr3, hku3⟩
   have hU3 : Duo w3 w1.heap.size (.bool nb1) (.slice so1 n1 cp1) := by
    unfold Duo
    rw [hgr3.block _ (by simp; omega) (by simp; omega)]
    exact K2.out.2.2.2
   obtain ⟨u0, u1, -, -⟩ := hU3.cells
   have K3 := Hid.mk (And.intro hM3 (And.intro hgr3 (K2.out.2.2.1.keep hku3)))
   clear hM3 hgr3 hku3 hU3
   go_wp2_with fail
   refine (set_m p o g r c b e _ L _ _ _ K3.out.1 hpg K3.out.2.2 hb hec).mono ?_
   rintro e9 w4 ⟨rfl, hM4, hgr4, -⟩
   have K4 := Hid.mk (And.intro hM4 (grown_trans (grown_trans (grown_below HI.out.2.1 K2.out.1) K3.out.2.1) hgr4))
   clear hM4 hgr4 u0 u1
   go_wp2_with fail
   go_roundw
   case measure => simp [intOf]; omega
   case rel => exact ⟨e + 1, _, by omega, by go_num, Hid.mk ⟨K4.out.1, K4.out.2, HI.out.2.2.step HI.out.1.len ha hb hec rfl rfl⟩⟩
  ·have hei : ¬ (e : Int) < (c : Int) := by omega
   have hee : e = c := by omega
   have HEE := Hid.mk hee
   clear hee
   go_wp2_with fail
   go_end0
   refine ⟨rfl, ⟨ms, HI.out.1, fun i j hi hj => ?_⟩, HI.out.2.1⟩
   rw [HI.out.2.2 i j hi hj, if_pos (by have := HEE.out; omega)]
def SwCTo (r c a b e : Nat) (zs ms : List Int) : Prop := ∀ i j, i < r → j < c → ent c ms i j = ent c zs i (if i < e then sw a b j else j)
theorem SwCTo.step {r c a b e : Nat} {zs ms : List Int} (h : SwCTo r c a b e zs ms) (hl : ms.length = r * c) (ha : a < c) (hb : b < c) (he : e < r) {u l : Int} (hu : u = ent c ms e a) (hlo : l = ent c ms e b) : SwCTo r c a b (e + 1) zs ((ms.set (e * c + a) l).set (e * c + b) u) := by
 intro i j hi hj
 rw [ent_set _ r c (by simpa using hl) e b i j u he hb hj, ent_set ms r c hl e a i j l he ha hj]
 have hua := h e a he ha
 have hlb := h e b he hb
 rw [if_neg (Nat.lt_irrefl e)] at hua hlb
 by_cases hie : i = e
 ·subst hie
  rw [if_pos (Nat.lt_succ_self i)]
  by_cases hjb : j = b
  ·rw [if_pos ⟨rfl, hjb⟩, hu, hua, hjb]
   unfold sw
   by_cases hba : b = a
   ·rw [if_pos hba, hba]
   ·rw [if_neg hba, if_pos rfl]
  ·rw [if_neg (fun h => hjb h.2)]
   by_cases hja : j = a
   ·rw [if_pos ⟨rfl, hja⟩, hlo, hlb, hja]
    unfold sw
    rw [if_pos rfl]
   ·rw [if_neg (fun h => hja h.2), h i j hi hj, if_neg (Nat.lt_irrefl i)]
    unfold sw
    rw [if_neg hja, if_neg hjb]
 ·rw [if_neg (fun h => hie h.1), if_neg (fun h => hie h.1), h i j hi hj]
  by_cases hlt : i < e
  ·rw [if_pos hlt, if_pos (by omega)]
  ·rw [if_neg hlt, if_neg (by omega)]
set_option maxRecDepth 100000 in
set_option maxHeartbeats 4000000 in
theorem swapCols_any (p o g r c a b : Nat) (zs : List Int) (L : Nat) (w : World) (hm : MatO w p o g r c zs L) (hpg : p ≠ g) (ha : a < c) (hb : b < c) :
 Calls Tryd.prog 100 #[.pointer (some ⟨p, o, none⟩), .int .i64 a, .int .i64 b] w fun e w' => e = .returned (.tuple #[]) ∧ StepO w w' p o g r c (fun i j => ent c zs i (sw a b j)) L := by
 have H := Hid.mk hm
 have hr := hm.hr
 have hc := hm.hc
 clear hm
 go_enter Tryd.func100, Tryd.ntmps100
 go_wp2_with fail
 go_loopw [6] (fun i wr => ∃ (e : Nat) (ms : List Int), e ≤ r ∧ i = .int .i64 e ∧ Hid (MatO wr p o g r c ms L ∧ w.grownBy wr (some g) ∧ SwCTo r c a b e zs ms)) (fun i _ => r - (intOf i).toNat)
 case atStart => exact ⟨0, zs, Nat.zero_le _, rfl, Hid.mk ⟨H.out, World.grownBy.refl _ _, fun i j _ _ => by simp⟩⟩
 case round =>
  obtain ⟨e, ms, he, rfl, HI⟩ := hrel
  obtain ⟨q0, q1, q2⟩ := HI.out.1.tri
  have hgl := HI.out.1.glt
  have hpl := HI.out.1.plt
  by_cases hec : e < r
  ·have hei : (e : Int) < (r : Int) := by omega
   go_wp2_with fail
   refine (at_in _ r c e a ms L _ HI.out.1.isM hec ha).mono ?_
   rintro e9 w1 ⟨x, rfl, hx, hb1⟩
   obtain ⟨nb1, so1, n1, cp1, rfl⟩ := hx.shape
   have hb11 := (Below.refl w1.heap.size w1).alloc (Nat.le_refl _) (.cells #[.bool nb1, .slice so1 n1 cp1] 69)
   have hbA := hb1.trans (hb11.mono hb1.size)
   have hw1 := hb1.size
   obtain ⟨d0, d1, d2⟩ := HI.out.1.tri.later hbA
   have K1 := Hid.mk (And.intro hbA (And.intro (hx.below hb11) (Duo.new w1 (.bool nb1) (.slice so1 n1 cp1) rfl)))
   clear hx hb1 hb11 hbA q0 q1 q2
   go_wp2_with fail
   refine (at_in _ r c e b ms L _ (HI.out.1.isM.below K1.out.1) hec hb).mono ?_
   rintro e9 w2 ⟨x, rfl, hx, hb2⟩
   obtain ⟨nb2, so2, n2, cp2, rfl⟩ := hx.shape
   have hs2 : w1.heap.size + 1 ≤ w2.heap.size := by have := hb2.size; simpa using this
   have hb22 := (Below.refl w2.heap.size w2).alloc (Nat.le_refl _) (.cells #[.bool nb2, .slice so2 n2 cp2] 69)
   have hbB := K1.out.1.trans ((hb2.trans (hb22.mono hb2.size)).mono (by simp; omega))
   have hU := (K1.out.2.2.below hb2 (by simp)).below hb22 (by omega)
   have K2 := Hid.mk (And.intro hbB (And.intro (hx.below hb22) (And.intro ((K1.out.2.1.below hb2).below hb22) hU)))
   clear hx hb2 hb22 hbB hU d0 d1 d2
   go_wp2_with fail
   refine (set_m p o g r c e a ms L _ _ _ (HI.out.1.later K2.out.1) hpg K2.out.2.1 hec ha).mono ?_
   rintro e9 w3 ⟨rfl, hM3, hgr3, hku3⟩
   have hU3 : Duo w3 w1.heap.size (.bool nb1) (.slice so1 n1 cp1) := by
    unfold Duo
    rw [hgr3.block _ (by simp; omega) (by simp; omega)]
    exact K2.out.2.2.2
   obtain ⟨u0, u1, -, -⟩ := hU3.cells
   have K3 := Hid.mk (And.intro hM3 (And.intro hgr3 (K2.out.2.2.1.keep hku3)))
   clear hM3 hgr3 hku3 hU3
   go_wp2_with fail
   refine (set_m p o g r c e b _ L _ _ _ K3.out.1 hpg K3.out.2.2 hec hb).mono ?_
   rintro e9 w4 ⟨rfl, hM4, hgr4, -⟩
   have K4 := Hid.mk (And.intro hM4 (grown_trans (grown_trans (grown_below HI.out.2.1 K2.out.1) K3.out.2.1) hgr4))
   clear hM4 hgr4 u0 u1
   go_wp2_with fail
   go_roundw
   case measure => simp [intOf]; omega
   case rel => exact ⟨e + 1, _, by omega, by go_num, Hid.mk ⟨K4.out.1, K4.out.2, HI.out.2.2.step HI.out.1.len ha hb hec rfl rfl⟩⟩
  ·have hei : ¬ (e : Int) < (r : Int) := by omega
   have hee : e = r := by omega
   have HEE := Hid.mk hee
   clear hee
   go_wp2_with fail
   go_end0
   refine ⟨rfl, ⟨ms, HI.out.1, fun i j hi hj => ?_⟩, HI.out.2.1⟩
   rw [HI.out.2.2 i j hi hj, if_pos (by have := HEE.out; omega)]
end Go.Proofs.YtfjbijpagaipnabDoor
