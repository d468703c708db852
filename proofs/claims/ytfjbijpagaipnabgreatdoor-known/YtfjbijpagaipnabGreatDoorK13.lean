import Derived.Test.YtfjbijpagaipnabGreatDoorK12
import Derived.Laws.CopyOwn
import Derived.Test.YtfjbijpagaipnabGreatDoorK10
namespace Go.Proofs.YtfjbijpagaipnabGreatDoor
open Go.RowKit
def Two (w : World) (b : Nat) (x y : Value) : Prop := w.heap[b]? = some (.cells #[x, y] 79 (0, 0))
theorem Two.lt {w : World} {b : Nat} {x y : Value} (h : Two w b x y) : b < w.heap.size := (Array.getElem?_eq_some_iff.1 h).1
theorem Two.below {w w' : World} {b : Nat} {x y : Value} (h : Two w b x y) (hb : Below w.heap.size w w') : Two w' b x y := by unfold Two; rw [hb.block b h.lt]; exact h
theorem Two.fr {w w' : World} {p b : Nat} {x y : Value} (h : Two w b x y) (hf : Fr p w w') (hne : b ≠ p) : Two w' b x y := by unfold Two; rw [hf.1.block b h.lt (by simpa using hne)]; exact h
theorem Two.new (w : World) (x y : Value) {b : Nat} (hb : b = w.heap.size) : Two (w.alloc (.cells #[x, y] 79)) b x y := by rw [hb]; exact heap_alloc_new w _
theorem Two.ty {w : World} {b : Nat} {x y : Value} (h : Two w b x y) : Ty w b 79 := ⟨_, _, h⟩
theorem Two.cells {w : World} {b : Nat} {x y : Value} (h : Two w b x y) : w.cell? ⟨b, 0, none⟩ = some x ∧ w.cell? ⟨b, 1, none⟩ = some y ∧ w.frozen? ⟨b, 0, none⟩ = false ∧ w.frozen? ⟨b, 1, none⟩ = false := by
 unfold Two at h
 refine ⟨?_, ?_, ?_, ?_⟩ <;> simp [World.cell?, World.frozen?, h]
theorem Fr.setNew {p b o : Nat} {w w' : World} (h : Fr p w w') (hb : w.heap.size ≤ b) (u : Value) : Fr p w (w'.setCell ⟨b, o, none⟩ u) := by
 refine ⟨⟨h.1.os, h.1.tape, h.1.output, by have := h.1.size; simp [World.setCell]; omega, fun k hk hne => ?_⟩, fun i arr hi => ?_, fun i arr hi => ?_⟩
 ·rw [Below.heap_setCell _ _ _ _ (by simp; omega)]; exact h.1.block k hk hne
 ·have := (Array.getElem?_eq_some_iff.1 hi).1
  rw [Below.heap_setCell _ _ _ _ (by simp; omega)]; exact h.2.1 i arr hi
 ·have := (Array.getElem?_eq_some_iff.1 hi).1
  rw [Below.heap_setCell _ _ _ _ (by simp; omega)]; exact h.2.2 i arr hi
theorem Rd.setOther {w : World} {p b o : Nat} {s : ByteArray} {q : Nat} (h : Rd w p s q) (hne : b ≠ p) (u : Value) : Rd (w.setCell ⟨b, o, none⟩ u) p s q := by
 unfold Rd; rw [Below.heap_setCell _ _ _ _ (by simp; omega)]; exact h
theorem Rd.move0 {w : World} {p : Nat} {s : ByteArray} {q : Nat} (h : Rd w p s q) {z : Int} {q' : Nat} (hz : z = q') : Rd (w.setCell ⟨p, 1, none⟩ (.int .i64 z)) p s q' ∧ Fr p w (w.setCell ⟨p, 1, none⟩ (.int .i64 z)) := h.move hz 0
def Tok (tk : List UInt8) (z : Int) : Prop := (Run tk ∧ z = decval tk) ∨ (∃ ds, tk = 45 :: ds ∧ Run ds ∧ ds ≠ [48] ∧ z = -(decval ds : Int))
set_option maxRecDepth 100000 in
set_option maxHeartbeats 2000000 in
theorem entry_plus (p : Nat) (s : ByteArray) (a : Nat) (tk l : List UInt8) (w : World) (h : Rd w p s a) (hr : Rem s a (tk ++ l)) (hs : s.size ≤ 4000) (hd : Run tk) (hl : Stops l) :
 Calls Tryz.prog 89 #[.pointer (some ⟨p, 0, none⟩)] w fun e w' => ∃ x, e = .returned x ∧ IsI w' x (decval tk) tk.length ∧ Rd w' p s (a + tk.length) ∧ Fr p w w' := by
 have H := Hid.mk h
 have HR := Hid.mk hr
 have HD := Hid.mk hd
 have HL := Hid.mk hl
 have hpl := h.lt
 obtain ⟨d, r, hdr⟩ : ∃ d r, tk = d :: r := by
  cases tk with
  | nil => exact absurd rfl hd.1
  | cons d r => exact ⟨d, r, rfl⟩
 have hrem : Rem s a (d :: (r ++ l)) := by rw [← List.cons_append, ← hdr]; exact hr
 have hdd := hd.2.1 d (by rw [hdr]; simp)
 have hb : ((d.toNat : Int) == 45) = false := beq_eq_false_iff_ne.2 (by omega)
 have htl : tk.length ≤ s.size := by have := hr.app.1; omega
 have HREM := Hid.mk hrem
 clear h hr hd hl hdr hrem hdd
 go_enter Tryz.func89, Tryz.ntmps89
 go_wp2_with fail
 refine (sees_some p s a 45 d (r ++ l) _ (H.out.below ((Below.refl _ _).alloc (Nat.le_refl _) _)) HREM.out (by omega)).mono ?_
 rintro e w' ⟨rfl, n, rfl⟩
 rw [hb]
 have hT0 : Two ((w.alloc (.cells #[.bool false, .slice none 0 0] 79)).drewN n) w.heap.size (.bool false) (.slice none 0 0) := Two.new w _ _ rfl
 have hF0 : Fr p w ((w.alloc (.cells #[.bool false, .slice none 0 0] 79)).drewN n) := Fr.of_below (below_drewN ((Below.refl _ _).alloc (Nat.le_refl _) _) _)
 have hR0 : Rd ((w.alloc (.cells #[.bool false, .slice none 0 0] 79)).drewN n) p s a := H.out.below (below_drewN ((Below.refl _ _).alloc (Nat.le_refl _) _) _)
 have H0 := Hid.mk (And.intro hT0 (And.intro hF0 hR0))
 clear hT0 hF0 hR0
 go_wp2_with fail
 refine (digits_ok p s a tk l _ H0.out.2.2 HR.out (by omega) HD.out HL.out).mono ?_
 rintro e w2 ⟨rfl, hR2, hF2⟩
 have hT2 := H0.out.1.fr hF2 (by omega)
 have hF2' := H0.out.2.1.trans hF2
 have H2 := Hid.mk (And.intro hT2 (And.intro hF2' hR2))
 clear H0 hT2 hF2 hR2 hF2'
 go_wp2_with fail
 refine (fromDigits_any ⟨tk.toArray⟩ _ (by show tk.toArray.size ≤ 4000; simp; omega) (by simpa using HD.out.2.1)).mono ?_
 rintro e w3 ⟨x, rfl, hx, hb3⟩
 obtain ⟨nb, bo, m, ecap, rfl⟩ := hx.shape
 have hT3 := H2.out.1.below hb3
 obtain ⟨t1, t2, t3, t4⟩ := hT3.cells
 have H3 := Hid.mk (And.intro hT3 (And.intro (H2.out.2.1.trans (Fr.of_below hb3)) (And.intro (H2.out.2.2.below hb3) hx)))
 clear hT3 hx hb3 H2
 go_wp2_with fail
 refine bodyPost_ret (v := .agg #[.bool nb, .slice bo m ecap]) ?_ rfl ?_
 ·(simp [results, Tryz.results89, go_sem, t1, t2]; done)
 ·obtain ⟨hT3, hF3, hR3, hx⟩ := H3.out
  refine ⟨_, rfl, ?_, (hR3.setOther (by omega) _).setOther (by omega) _, (hF3.setNew (Nat.le_refl _) _).setNew (Nat.le_refl _) _⟩
  have hx' : IsI w3 (.agg #[.bool nb, .slice bo m ecap]) (decval tk) tk.length := hx
  exact hx'.keep (KU.setCell (KU.setCell (KU.refl _) hT3.ty (by decide) _) (hT3.ty.setCell _ _) (by decide) _)
set_option maxRecDepth 100000 in
set_option maxHeartbeats 2000000 in
theorem entry_minus (p : Nat) (s : ByteArray) (a : Nat) (ds l : List UInt8) (w : World) (h : Rd w p s a) (hr : Rem s a (45 :: (ds ++ l))) (hs : s.size ≤ 4000) (hd : Run ds) (hl : Stops l) (hne : ds ≠ [48]) :
 Calls Tryz.prog 89 #[.pointer (some ⟨p, 0, none⟩)] w fun e w' => ∃ x, e = .returned x ∧ IsI w' x (-(decval ds : Int)) ds.length ∧ Rd w' p s (a + 1 + ds.length) ∧ Fr p w w' := by
 have H := Hid.mk h
 have HR := Hid.mk hr
 have HD := Hid.mk hd
 have HL := Hid.mk hl
 have hpl := h.lt
 obtain ⟨hq, -, hr1⟩ := hr.cons
 have HR1 := Hid.mk hr1
 have hb : (((45 : UInt8).toNat : Int) == 45) = true := by decide
 have htl : ds.length ≤ s.size := by have := hr1.app.1; omega
 have HNE := Hid.mk hne
 clear h hr hd hl hr1 hne
 go_enter Tryz.func89, Tryz.ntmps89
 go_wp2_with fail
 refine (sees_some p s a 45 45 (ds ++ l) _ (H.out.below ((Below.refl _ _).alloc (Nat.le_refl _) _)) HR.out (by omega)).mono ?_
 rintro e w' ⟨rfl, n, rfl⟩
 rw [hb]
 obtain ⟨X, hX⟩ : ∃ X, X = (w.alloc (.cells #[.bool false, .slice none 0 0] 79)).drewN n := ⟨_, rfl⟩
 have hT0 : Two X w.heap.size (.bool false) (.slice none 0 0) := by rw [hX]; exact Two.new w _ _ rfl
 have hF0 : Fr p w X := by rw [hX]; exact Fr.of_below (below_drewN ((Below.refl _ _).alloc (Nat.le_refl _) _) _)
 have hR0 : Rd X p s a := by rw [hX]; exact H.out.below (below_drewN ((Below.refl _ _).alloc (Nat.le_refl _) _) _)
 obtain ⟨c0, c1, c2, c3, c4⟩ := hR0.cells
 rw [← hX]
 have H0 := Hid.mk (And.intro hT0 (And.intro hF0 hR0))
 clear hT0 hF0 hR0 hX
 go_wp2_with fail
 have M := H0.out.2.2.move0 (z := (a : Int) + 1) (q' := a + 1) (by omega)
 refine (digits_ok p s (a + 1) ds l _ M.1 HR1.out (by omega) HD.out HL.out).mono ?_
 rintro e w2 ⟨rfl, hR2, hF2⟩
 have hT2 := (H0.out.1.fr M.2 (by omega)).fr hF2 (by omega)
 have hF2' := (H0.out.2.1.trans M.2).trans hF2
 have H2 := Hid.mk (And.intro hT2 (And.intro hF2' hR2))
 clear H0 hT2 hF2 hR2 hF2' M c0 c1 c2 c3 c4
 have hne : (ds == [48]) = false := beq_eq_false_iff_ne.2 HNE.out
 go_wp2_with fail
 refine (fromDigits_any ⟨ds.toArray⟩ _ (by show ds.toArray.size ≤ 4000; simp; omega) (by simpa using HD.out.2.1)).mono ?_
 rintro e w3 ⟨x, rfl, hx, hb3⟩
 have H3 := Hid.mk (And.intro (H2.out.1.below hb3) (And.intro (H2.out.2.1.trans (Fr.of_below hb3)) (And.intro (H2.out.2.2.below hb3) hx)))
 clear hx hb3 H2
 go_wp2_with fail
 refine (neg_any _ _ _ _ H3.out.2.2.2).mono ?_
 rintro e w4 ⟨y, rfl, hy, hb4⟩
 obtain ⟨nb, bo, m, ecap, rfl⟩ := hy.shape
 have hT4 := H3.out.1.below hb4
 obtain ⟨t1, t2, t3, t4⟩ := hT4.cells
 have H4 := Hid.mk (And.intro hT4 (And.intro (H3.out.2.1.trans (Fr.of_below hb4)) (And.intro (H3.out.2.2.1.below hb4) hy)))
 clear hT4 hy hb4 H3
 go_wp2_with fail
 refine bodyPost_ret (v := .agg #[.bool nb, .slice bo m ecap]) ?_ rfl ?_
 ·(simp [results, Tryz.results89, go_sem, t1, t2]; done)
 ·obtain ⟨hT3, hF3, hR3, hx⟩ := H4.out
  have hx' : IsI w4 (.agg #[.bool nb, .slice bo m ecap]) (-(decval ds : Int)) ds.length := hx
  exact ⟨_, rfl, hx'.keep (KU.setCell (KU.setCell (KU.refl _) hT3.ty (by decide) _) (hT3.ty.setCell _ _) (by decide) _), (hR3.setOther (by omega) _).setOther (by omega) _, (hF3.setNew (Nat.le_refl _) _).setNew (Nat.le_refl _) _⟩
theorem entry_ok (p : Nat) (s : ByteArray) (a : Nat) (tk l : List UInt8) (z : Int) (w : World) (h : Rd w p s a) (hr : Rem s a (tk ++ l)) (hs : s.size ≤ 4000) (ht : Tok tk z) (hl : Stops l) :
 Calls Tryz.prog 89 #[.pointer (some ⟨p, 0, none⟩)] w fun e w' => ∃ x, e = .returned x ∧ IsI w' x z tk.length ∧ Rd w' p s (a + tk.length) ∧ Fr p w w' := by
 rcases ht with ⟨h1, rfl⟩ | ⟨ds, rfl, h1, h2, rfl⟩
 ·exact entry_plus p s a tk l w h hr hs h1 hl
 ·refine (entry_minus p s a ds l w h hr hs h1 hl h2).mono ?_
  rintro e w' ⟨x, rfl, hx, hR, hF⟩
  exact ⟨x, rfl, hx.mono (by simp), by rw [List.length_cons, show a + (ds.length + 1) = a + 1 + ds.length from by omega]; exact hR, hF⟩
open Go.RowKit
theorem decval_mono (l : List UInt8) : ∀ (j k : Nat), k + j = l.length → decval (l.take k) ≤ decval l := by
 intro j
 induction j with
 | zero => intro k h; rw [List.take_of_length_le (by omega)]; exact Nat.le_refl _
 | succ j ih =>
   intro k h
   have h1 := ih (k + 1) (by omega)
   rw [decval_take l k (by omega)] at h1
   omega
set_option maxRecDepth 100000 in
set_option maxHeartbeats 2000000 in
theorem side_ok (p : Nat) (s : ByteArray) (a : Nat) (ds l : List UInt8) (w : World) (h : Rd w p s a) (hr : Rem s a (ds ++ l)) (hs : s.size ≤ 4000) (hd : Run ds) (hl : Stops l) (hv : decval ds ≤ 99) :
 Calls Tryz.prog 55 #[.pointer (some ⟨p, 0, none⟩)] w fun e w' => e = .returned (.int .i64 (decval ds)) ∧ Rd w' p s (a + ds.length) ∧ Fr p w w' := by
 have H := Hid.mk h
 have HR := Hid.mk hr
 have HD := Hid.mk hd
 have HL := Hid.mk hl
 have hdl : ds.length ≤ 4000 := by have := hr.app.1; omega
 clear h hr hd hl
 go_enter Tryz.func55, Tryz.ntmps55
 go_wp2_with fail
 refine (digits_ok p s a ds l _ H.out HR.out (by omega) HD.out HL.out).mono ?_
 rintro e w2 ⟨rfl, hR2, hF2⟩
 have H2 := Hid.mk (And.intro hR2 hF2)
 clear hR2 hF2
 obtain ⟨rb, hrb⟩ : ∃ rb : ByteArray, rb = ⟨ds.toArray⟩ := ⟨_, rfl⟩
 have hrs : rb.size = ds.length := by rw [hrb]; rfl
 have hrl : rb.data.toList = ds := by rw [hrb]
 have HB := Hid.mk (And.intro hrs hrl)
 have hrz : rb.size ≤ 4000 := by omega
 rw [← hrb]
 clear hrb hrs hrl
 go_wp2_with fail
 go_loop [4, 5] (fun v i => ∃ k sd : Nat, k ≤ rb.size ∧ i = .int .i64 k ∧ sd ≤ 99 ∧ v = .int .i64 sd ∧ Hid (sd = decval (ds.take k))) (fun _ i => rb.size - (intOf i).toNat)
 case atStart => exact ⟨0, 0, Nat.zero_le _, rfl, by omega, rfl, Hid.mk rfl⟩
 case round =>
  obtain ⟨k, sd, hk, rfl, hsd, rfl, HI⟩ := hrel
  by_cases hkr : k < rb.size
  ·have hdd := dig_at rb (by rw [HB.out.2]; exact HD.out.2.1) k hkr
   obtain ⟨d1, d2⟩ := hdd
   have hnext : decval (ds.take (k + 1)) = 10 * sd + ((rb[k]'hkr).toNat - 48) := by
    have := decval_at rb k hkr
    rw [HB.out.2] at this
    rw [this, HI.out]
   have hle : decval (ds.take (k + 1)) ≤ 99 := Nat.le_trans (decval_mono ds (ds.length - (k + 1)) (k + 1) (by have := HB.out.1; omega)) hv
   have HN := Hid.mk hnext
   have hle2 : 10 * sd + ((rb[k]'hkr).toNat - 48) ≤ 99 := by omega
   clear hnext hle
   go_wp2_with fail
   go_round
   case rel => exact ⟨k + 1, 10 * sd + ((rb[k]'hkr).toNat - 48), by omega, by go_num, hle2, by go_num, Hid.mk HN.out.symm⟩
   case measure => simp [intOf]; omega
  ·have hd0 : decide (k < rb.size) = false := by simp; omega
   have hd1 : decide ((k : Int) < (rb.size : Int)) = false := by simp; omega
   go_wp2_with fail
   go_ret
   refine ⟨ret_int ?_, H2.out.1, H2.out.2⟩
   have := HI.out
   rw [List.take_of_length_le (by have := HB.out.1; omega)] at this
   omega
open Go.RowKit
def GridB (B : Nat) (w : World) (sl : Value) (n : Nat) (zs : List Int) (L : Nat) : Prop :=
 zs.length = n ∧ ∃ cs, w.ownsRow B 79 2 sl n cs ∧ ∀ i, i < n → ∃ a b, cs[2 * i]? = some a ∧ cs[2 * i + 1]? = some b ∧ IsI w (.agg #[a, b]) (zs.getD i 0) L
theorem GridB.grid {B : Nat} {w : World} {sl : Value} {n L : Nat} {zs : List Int} (h : GridB B w sl n zs L) : Grid w sl n zs L := by
 obtain ⟨h0, cs, h1, h2⟩ := h
 refine ⟨h0, cs, ⟨h1.1, ?_⟩, h2⟩
 rcases h1.2 with h3 | ⟨g, cap, cur, hv, _, r⟩
 ·exact .inl h3
 ·exact .inr ⟨g, cap, cur, hv, Nat.zero_le _, r⟩
theorem GridB.keep {B : Nat} {w W : World} {sl : Value} {n L : Nat} {zs : List Int} (h : GridB B w sl n zs L) (hk : KT w W) : GridB B W sl n zs L := by
 obtain ⟨h0, cs, h1, h2⟩ := h
 refine ⟨h0, cs, ⟨h1.1, ?_⟩, fun i hi => ?_⟩
 ·rcases h1.2 with h3 | ⟨g, cap, cur, hv, hg, hh, r⟩
  ·exact .inl h3
  ·exact .inr ⟨g, cap, cur, hv, hg, hk.1 g cur hh, r⟩
 ·obtain ⟨a, b, e1, e2, e3⟩ := h2 i hi
  exact ⟨a, b, e1, e2, e3.keep hk.2⟩
theorem GridB.lt {B : Nat} {w : World} {sl : Value} {n L : Nat} {zs : List Int} (h : GridB B w sl n zs L) : ∀ k, sl.ownBlock = some k → B ≤ k ∧ Ty w k 79 := by
 intro k hk
 obtain ⟨h0, cs, h1, h2⟩ := h
 rcases h1.2 with ⟨rfl, _⟩ | ⟨g, cap, cur, rfl, hg, hh, r⟩
 ·simp [Value.ownBlock] at hk
 ·simp [Value.ownBlock] at hk
  subst hk
  exact ⟨hg, _, _, hh⟩
theorem KU.grown {w w' : World} {row : Option Nat} (h : w.grownBy w' row) (ht : ∀ k, row = some k → Ty w k 79) : KU w w' := by
 intro b arr hb
 rw [h.block b (Array.getElem?_eq_some_iff.1 hb).1 ?_]
 ·exact hb
 ·intro e
  obtain ⟨c, fr, h2⟩ := ht b e.symm
  rw [hb] at h2
  simp at h2
theorem append_int (w : World) {ops : Array Oper} {rest : List Oper} {o : Oper} {a : Act} {Q : Exit → Act → World → Prop} (hgd : o.guard = none) (s x : Operand)
 (ho : o.op = .call { callee := .builtin .append, args := #[s, x], argTypes := #[64, 64] }) (B : Nat) (v : Value) (n : Nat) (zs : List Int) (L : Nat) (hs : a.eval s = v) (hg : GridB B w v n zs L)
 (ad : Addr) (hx : a.eval x = .slice (some ad) 1 1) (c1 c2 : Value) (z : Int) (h0 : w.cell? (ad.add 0) = some c1) (h1 : w.cell? (ad.add 1) = some c2) (o1 : c1.oneCell' = true) (o2 : c2.oneCell' = true) (hz : IsI w (.agg #[c1, c2]) z L) (hn : n ≤ 10000) (hB : B ≤ w.heap.size)
 (hK : ∀ v' w', GridB B w' v' (n + 1) (zs ++ [z]) L → w.grownBy w' v.ownBlock → wpList Tryz.prog ops Q rest (a.put o.dst v') w') : wpList Tryz.prog ops Q (o :: rest) a w := by
 obtain ⟨i, hi, hz0, hz1, hz2⟩ := info_parts Tryz.info79
 have hlt := hg.lt
 obtain ⟨g0, cs, g1, g2⟩ := hg
 refine wpList_append_own w hgd s x 64 ho B 79 i (.agg #[.bool false, .slice none 0 0]) 2 32 Tryz.underlying64 hi hz0 hz1 hz2 rfl (by decide) v n cs hs g1 ad 1 1 [c1, c2] hx rfl ?_ ?_ ?_ ?_ hB ?_
 ·intro j u hj
  match j, hj with
  | 0, hj => simp at hj; subst hj; exact h0
  | 1, hj => simp at hj; subst hj; exact h1
 ·intro u hu; simp at hu; rcases hu with rfl | rfl
  ·exact o1
  ·exact o2
 ·unfold maxLen; omega
 ·omega
 ·intro v' w' k1 k2 _
  have hku := KU.grown k2 (fun k hk => (hlt k hk).2)
  have hcl : cs.length = n * 2 := g1.1
  refine hK v' w' ⟨by simp [g0], cs ++ [c1, c2], k1, fun j hj => ?_⟩ k2
  by_cases hjn : j < n
  ·obtain ⟨a', b', e1, e2, e3⟩ := g2 j hjn
   refine ⟨a', b', by rw [List.getElem?_append_left (by omega)]; exact e1, by rw [List.getElem?_append_left (by omega)]; exact e2, ?_⟩
   rw [show (zs ++ [z]).getD j 0 = zs.getD j 0 from by simp [List.getD, List.getElem?_append_left (show j < zs.length from by omega)]]
   exact e3.keep hku
  ·have hje : j = n := by omega
   subst hje
   refine ⟨c1, c2, ?_, ?_, ?_⟩
   ·rw [List.getElem?_append_right (by omega), show 2 * j - cs.length = 0 from by omega]; rfl
   ·rw [List.getElem?_append_right (by omega), show 2 * j + 1 - cs.length = 1 from by omega]; rfl
   ·rw [show (zs ++ [z]).getD j 0 = z from by simp [List.getD, ← g0]]
    exact hz.keep hku
theorem Fr.grown {p : Nat} {w0 w w' : World} {row : Option Nat} (h : Fr p w0 w) (hg : w.grownBy w' row) (hr : ∀ k, row = some k → w0.heap.size ≤ k) : Fr p w0 w' := by
 have hsz := h.1.size
 have key : ∀ k, k < w0.heap.size → w'.heap[k]? = w.heap[k]? := fun k hk => hg.block k (by omega) (fun e => by have := hr k e.symm; omega)
 refine ⟨⟨hg.os.trans h.1.os, hg.tape.trans h.1.tape, hg.output.trans h.1.output, Nat.le_trans hsz hg.size, fun k hk hne => ?_⟩, fun i arr hi => ?_, fun i arr hi => ?_⟩
 ·rw [key k hk]; exact h.1.block k hk hne
 ·rw [key i (Array.getElem?_eq_some_iff.1 hi).1]; exact h.2.1 i arr hi
 ·rw [key i (Array.getElem?_eq_some_iff.1 hi).1]; exact h.2.2 i arr hi
theorem Rd.grown {w w' : World} {p : Nat} {s : ByteArray} {q : Nat} {row : Option Nat} (h : Rd w p s q) (hg : w.grownBy w' row) (hne : row ≠ some p) : Rd w' p s q := by
 unfold Rd; rw [hg.block p h.lt (Ne.symm hne)]; exact h
open Go.RowKit
theorem run_copy_two (w : World) (ty : TypeId) (g n cap : Nat) (ad : Addr) (cur : Array Value) (cs : List Value) (hg : w.heap[g]? = some (.cells cur 79 (0, 0))) (hc : cur.size = n * 2) (hn : cs.length = n * 2)
 (hsrc : ∀ j v, cs[j]? = some v → w.cell? (ad.add j) = some v) (h1 : ∀ v ∈ cs, v.oneCell' = true) :
 (Builtin.copy_ #[64, 64] ty #[.slice (some ⟨g, 0, none⟩) n n, .slice (some ad) n cap]).run Tryz.prog w = .ok (goInt n) (w.setRow g cs.toArray) := by
 obtain ⟨i, hi, hz0, hz1, hz2⟩ := info_parts Tryz.info79
 have hf := run_firstCells_some (P := Tryz.prog) w 2 n ad n cap cs hn hsrc
 have hst := run_storeCells_at Tryz.prog g 0 79 cs 0 cur w hg (by omega) h1
 simp only [Nat.add_zero, Nat.zero_add, List.take_zero, List.nil_append] at hst
 rw [List.drop_of_length_le (by rw [Array.length_toList]; omega), List.append_nil] at hst
 simp [Builtin.copy_, run_underlying Tryz.underlying64, Builtin.lenOf, sizeOf, typeInfo, hi, hz1, hf, hst]
theorem run_copy_zero (w : World) (ty : TypeId) (g : Nat) :
 (Builtin.copy_ #[64, 64] ty #[.slice (some ⟨g, 0, none⟩) 0 0, .slice none 0 0]).run Tryz.prog w = .ok (goInt 0) w := by
 obtain ⟨i, hi, hz0, hz1, hz2⟩ := info_parts Tryz.info79
 simp [Builtin.copy_, run_underlying Tryz.underlying64, Builtin.lenOf, sizeOf, typeInfo, hi, Builtin.firstCells, storeCells]
theorem copy_ints (w : World) {ops : Array Oper} {rest : List Oper} {o : Oper} {a : Act} {Q : Exit → Act → World → Prop} (hgd : o.guard = none) (d s : Operand)
 (ho : o.op = .call { callee := .builtin .copy, args := #[d, s], argTypes := #[64, 64] }) (g n : Nat) (sv : Value) (ys zs : List Int) (M L : Nat)
 (hd : a.eval d = .slice (some ⟨g, 0, none⟩) n n) (hs : a.eval s = sv) (hgr : Grid w (.slice (some ⟨g, 0, none⟩) n n) n ys M) (hsv : Grid w sv n zs L)
 (hK : ∀ w', Grid w' (.slice (some ⟨g, 0, none⟩) n n) n zs L → w.grownBy w' (some g) → wpList Tryz.prog ops Q rest (a.put o.dst (goInt n)) w') : wpList Tryz.prog ops Q (o :: rest) a w := by
 refine wpList_plain hgd fun K hK' => ?_
 have hty := hgr.ty
 obtain ⟨h0, cs0, h1, h2⟩ := hgr
 rcases h1.2 with ⟨h3, _⟩ | ⟨g', cap', cur, hv, hgg, hh, r1, r2, r3, r4⟩
 ·simp at h3
 simp only [Value.slice.injEq, Option.some.injEq, Addr.mk.injEq, and_true, true_and] at hv
 obtain ⟨rfl, rfl⟩ := hv
 obtain ⟨k0, cs, k1, k2⟩ := hsv
 rcases k1.2 with ⟨rfl, hn⟩ | ⟨gs, cap, cur2, rfl, hgs, hh2, q1, q2, q3, q4⟩
 ·subst hn
  have hrun := run_copy_zero w o.type g
  unfold Oper.wp
  simp [execOp, ho, resolve, invoke, builtin, hd, hs, hrun, Result.andThen]
  exact hK' _ _ (hK w ⟨k0, cs0, h1, fun i hi => by omega⟩ (World.grownBy.refl _ _))
 ·have hone : ∀ v ∈ cs, v.oneCell' = true := by
   intro v hv
   obtain ⟨j, hj, hjv⟩ := List.getElem_of_mem hv
   have hl : cs.length = n * 2 := k1.1
   obtain ⟨x, y, e1, e2, e3⟩ := k2 (j / 2) (by omega)
   obtain ⟨nb, ao', m', c', e4⟩ := e3.shape
   simp only [Value.agg.injEq, Array.mk.injEq, List.cons.injEq, and_true] at e4
   have hj' : cs[j]? = some v := by rw [List.getElem?_eq_getElem hj, hjv]
   rcases (show j = 2 * (j / 2) ∨ j = 2 * (j / 2) + 1 from by omega) with hjj | hjj
   ·rw [hjj, e1] at hj'; injection hj' with hj'; rw [← hj', e4.1]; rfl
   ·rw [hjj, e2] at hj'; injection hj' with hj'; rw [← hj', e4.2]; rfl
  have hrun := run_copy_two w o.type g n cap ⟨gs, 0, none⟩ cur cs hh r3 k1.1 (fun j v hj => World.ownsRow.cells k1 rfl j v hj) hone
  unfold Oper.wp
  simp [execOp, ho, resolve, invoke, builtin, hd, hs, hrun, Result.andThen]
  have hgrow : w.grownBy (w.setRow g cs.toArray) (some g) := ⟨rfl, rfl, rfl, by simp [World.setRow], fun k _ hne => setRow_other w g k _ (fun e => hne (by simp [e]))⟩
  have hku : KU w (w.setRow g cs.toArray) := KU.grown hgrow (fun k hk => by simp at hk; subst hk; exact hty)
  refine hK' _ _ (hK _ ⟨k0, cs, ⟨k1.1, .inr ⟨g, n, cs.toArray, rfl, Nat.zero_le _, setRow_heap w g _ _ _ _ hh, Nat.le_refl _, r2, by simpa using k1.1, ?_⟩⟩, fun i hi => ?_⟩ hgrow)
  ·rw [List.take_of_length_le (by simp [k1.1])]
  ·obtain ⟨x, y, e1, e2, e3⟩ := k2 i hi
   exact ⟨x, y, e1, e2, e3.keep hku⟩
set_option maxRecDepth 100000 in
set_option maxHeartbeats 2000000 in
theorem fromCells_new (r c : Nat) (sv : Value) (zs : List Int) (L : Nat) (w : World) (hr : r ≤ 99) (hc : c ≤ 99) (hg : Grid w sv (r * c) zs L) :
 Calls Tryz.prog 58 #[.int .i64 r, .int .i64 c, sv] w fun e w' => ∃ g, e = .returned (.agg #[.int .i64 r, .int .i64 c, .slice (some ⟨g, 0, none⟩) (r * c) (r * c)]) ∧ w.heap.size ≤ g ∧ Grid w' (.slice (some ⟨g, 0, none⟩) (r * c) (r * c)) (r * c) zs L ∧ Below w.heap.size w w' := by
 obtain ⟨ao, cap, rfl, -⟩ := hg.shape
 have HG := Hid.mk hg
 clear hg
 go_enter Tryz.func58, Tryz.ntmps58
 go_wp2_with fail
 refine (noughts_any r c _ hr hc).mono ?_
 rintro e w2 ⟨g, rfl, hgn, hg2, hb2⟩
 obtain ⟨hc2, hf2⟩ := bcell hb2
 have hsz2 : w.heap.size < w2.heap.size := by have := hb2.size; simp at this; omega
 have hgl : g < w2.heap.size := hg2.ty.lt
 have hgn2 : w.heap.size + 1 ≤ g := by simpa using hgn
 have hbw : Below w.heap.size w w2 := by
  refine Below.trans ?_ (hb2.mono (by simp <;> omega))
  repeat (first | exact Below.refl _ _ | refine Below.alloc ?_ (by simp <;> omega) _)
 have hres : w2.heap[w.heap.size]? = some (.cells #[.int .i64 0, .int .i64 0, .slice none 0 0] 66 (0, 0)) := by
  rw [hb2.block _ (by simp)]; exact heap_alloc_new w _
 have H2 := Hid.mk (And.intro hg2 (And.intro hbw hres))
 clear hgn hg2 hb2 hbw hres hc2 hf2
 go_wp2_with (refine copy_ints _ rfl (.tmp 12) (.tmp 13) rfl g (r * c) _ (List.replicate (r * c) 0) zs 0 L rfl rfl ?_ ?_ ?_)
 ·exact H2.out.1.below ((Below.refl _ _).alloc (Nat.le_refl _) _)
 ·exact (HG.out.below H2.out.2.1).below ((Below.refl _ _).alloc (Nat.le_refl _) _)
 intro w3 hg3 hgr3
 obtain ⟨W2, hW2⟩ : ∃ W2, W2 = w2.alloc (.cells #[.int .i64 r, .int .i64 c, .slice (some ⟨g, 0, none⟩) (r * c) (r * c)] 66) := ⟨_, rfl⟩
 rw [← hW2] at hgr3
 have p0 : W2.cell? ⟨w2.heap.size, 0, none⟩ = some (.int .i64 r) := by rw [hW2]; simp
 have p1 : W2.cell? ⟨w2.heap.size, 1, none⟩ = some (.int .i64 c) := by rw [hW2]; simp
 have p2 : W2.cell? ⟨w2.heap.size, 2, none⟩ = some (.slice (some ⟨g, 0, none⟩) (r * c) (r * c)) := by rw [hW2]; simp
 have q0 := hgr3.cell p0 (by simp; omega)
 have q1 := hgr3.cell p1 (by simp; omega)
 have q2 := hgr3.cell p2 (by simp; omega)
 have hW2s : W2.heap.size = w2.heap.size + 1 := by rw [hW2]; simp
 have hres3 : w3.heap[w.heap.size]? = some (.cells #[.int .i64 0, .int .i64 0, .slice none 0 0] 66 (0, 0)) := by
  rw [hgr3.block _ (by omega) (by simp; omega), hW2, Below.heap_alloc _ _ _ (by omega)]; exact H2.out.2.2
 have hB3 : Below w.heap.size w w3 := by
  have h1 : Below w.heap.size w W2 := by rw [hW2]; exact H2.out.2.1.alloc (by omega) _
  exact h1.grown hgr3 (by omega) (fun j hj => by simp at hj; omega)
 have r0 : w3.cell? ⟨w.heap.size, 0, none⟩ = some (.int .i64 0) := by simp [World.cell?, hres3]
 have r1 : w3.cell? ⟨w.heap.size, 1, none⟩ = some (.int .i64 0) := by simp [World.cell?, hres3]
 have r2 : w3.cell? ⟨w.heap.size, 2, none⟩ = some (.slice none 0 0) := by simp [World.cell?, hres3]
 have z0 : w3.frozen? ⟨w.heap.size, 0, none⟩ = false := by simp [World.frozen?, hres3]
 have z1 : w3.frozen? ⟨w.heap.size, 1, none⟩ = false := by simp [World.frozen?, hres3]
 have z2 : w3.frozen? ⟨w.heap.size, 2, none⟩ = false := by simp [World.frozen?, hres3]
 have HT : Hid (Ty w3 w.heap.size 66) := Hid.mk ⟨_, _, hres3⟩
 have H3 := Hid.mk (And.intro hg3 hB3)
 clear hg3 hB3 hgr3 hres3 p0 p1 p2 hW2 hW2s H2 HG
 go_wp2_with fail
 refine bodyPost_ret (v := .agg #[.int .i64 r, .int .i64 c, .slice (some ⟨g, 0, none⟩) (r * c) (r * c)]) ?_ rfl ?_
 ·(simp [results, Tryz.results58, go_sem, r0, r1, r2]; done)
 ·refine ⟨g, rfl, by omega, H3.out.1.keep (KT.setCell (KT.setCell (KT.setCell (KT.refl _) HT.out (by decide) (by decide) _) (HT.out.setCell _ _) (by decide) (by decide) _) ((HT.out.setCell _ _).setCell _ _) (by decide) (by decide) _), ?_⟩
  exact ((H3.out.2.setCell (Nat.le_refl _) _).setCell (Nat.le_refl _) _).setCell (Nat.le_refl _) _
theorem fromCells_any (r c : Nat) (sv : Value) (zs : List Int) (L : Nat) (w : World) (hr : r ≤ 99) (hc : c ≤ 99) (hg : Grid w sv (r * c) zs L) :
 Calls Tryz.prog 58 #[.int .i64 r, .int .i64 c, sv] w fun e w' => ∃ x, e = .returned x ∧ IsM w' x r c zs L ∧ Below w.heap.size w w' := by
 refine (fromCells_new r c sv zs L w hr hc hg).mono ?_
 rintro e w' ⟨g, rfl, -, h2, h3⟩
 exact ⟨_, rfl, ⟨hr, hc, _, rfl, h2⟩, h3⟩
open Go.RowKit
def Free (w : World) (b : Nat) : Prop := b < w.heap.size ∧ ∀ o, w.frozen? ⟨b, o, none⟩ = false
theorem Free.new (w : World) (c : Array Value) (t : TypeId) : Free (w.alloc (.cells c t)) w.heap.size := ⟨by simp, fun _ => World.frozen?_alloc_new _ _ _ _⟩
theorem Free.below {w w' : World} {b : Nat} (h : Free w b) (hb : Below w.heap.size w w') : Free w' b := ⟨Nat.lt_of_lt_of_le h.1 hb.size, fun o => by rw [hb.frozen (p := ⟨b, o, none⟩) h.1]; exact h.2 o⟩
theorem Free.grown {w w' : World} {b g : Nat} (h : Free w b) (hg : w.grownBy w' (some g)) (hne : b ≠ g) : Free w' b := ⟨Nat.lt_of_lt_of_le h.1 hg.size, fun o => by rw [World.frozen?_of_block (hg.block b h.1 (by simpa using hne))]; exact h.2 o⟩
theorem ent_zeros (r c i j : Nat) : ent c (List.replicate (r * c) 0) i j = 0 := by
 unfold ent
 simp only [List.getD, List.getElem?_replicate]
 split <;> rfl
set_option maxRecDepth 100000 in
set_option maxHeartbeats 2000000 in
theorem unit_any (r : Nat) (w : World) (hr : r ≤ 99) :
 Calls Tryz.prog 60 #[.int .i64 r] w fun e w' => ∃ g zs, e = .returned (.agg #[.int .i64 r, .int .i64 r, .slice (some ⟨g, 0, none⟩) (r * r) (r * r)]) ∧ w.heap.size ≤ g ∧ Grid w' (.slice (some ⟨g, 0, none⟩) (r * r) (r * r)) (r * r) zs 1 ∧ (∀ i j, i < r → j < r → ent r zs i j = kd i j) ∧ Below w.heap.size w w' := by
 go_enter Tryz.func60, Tryz.ntmps60
 go_wp2_with fail
 have hb0 := (Below.refl w.heap.size w).alloc (Nat.le_refl _) (.cells #[.int .i64 0, .int .i64 0, .slice none 0 0] 66)
 have hT0 : Tri (w.alloc (.cells #[.int .i64 0, .int .i64 0, .slice none 0 0] 66)) w.heap.size 0 (.int .i64 0) (.int .i64 0) (.slice none 0 0) := ⟨new_cell _ _ _ _ _ rfl rfl, new_cell _ _ _ _ _ rfl rfl, new_cell _ _ _ _ _ rfl rfl⟩
 have hY0 := And.intro (Ty.new w #[.int .i64 0, .int .i64 0, .slice none 0 0] 66) (Free.new w #[.int .i64 0, .int .i64 0, .slice none 0 0] 66)
 refine (noughts_any r r _ hr hr).mono ?_
 rintro e w1 ⟨g, rfl, hg1, hG1, hb1⟩
 have hgn : w.heap.size + 1 ≤ g := by simpa using hg1
 have hgl : g < w1.heap.size := hG1.ty.lt
 have hbw1 : Below w.heap.size w w1 := hb0.trans (hb1.mono hb0.size)
 have hw1 : w.heap.size + 1 ≤ w1.heap.size := by have := hb1.size; simpa using this
 have hT1 := hT0.later hb1
 have hY1 := And.intro (hY0.1.below hb1 (by simp)) (hY0.2.below hb1)
 have hb11 := (Below.refl w1.heap.size w1).alloc (Nat.le_refl _) (.cells #[.int .i64 r, .int .i64 r, .slice (some ⟨g, 0, none⟩) (r * r) (r * r)] 66)
 have hTm : Tri (w1.alloc (.cells #[.int .i64 r, .int .i64 r, .slice (some ⟨g, 0, none⟩) (r * r) (r * r)] 66)) w1.heap.size 0 (.int .i64 r) (.int .i64 r) (.slice (some ⟨g, 0, none⟩) (r * r) (r * r)) := ⟨new_cell _ _ _ _ _ rfl rfl, new_cell _ _ _ _ _ rfl rfl, new_cell _ _ _ _ _ rfl rfl⟩
 obtain ⟨W1, hW1⟩ : ∃ W1, W1 = w1.alloc (.cells #[.int .i64 r, .int .i64 r, .slice (some ⟨g, 0, none⟩) (r * r) (r * r)] 66) := ⟨_, rfl⟩
 have hs1 : W1.heap.size = w1.heap.size + 1 := by rw [hW1]; simp
 rw [← hW1] at hb11 hTm
 have hM1 : MatO W1 w1.heap.size 0 g r r (List.replicate (r * r) 0) 1 := ⟨hr, hr, hTm, (hG1.mono (by omega)).below hb11⟩
 have K1 := Hid.mk (And.intro hM1 (And.intro (hbw1.trans (hb11.mono (by omega))) (And.intro (hT1.later hb11) (And.intro (And.intro (hY1.1.below hb11 (by omega)) (hY1.2.below hb11)) hW1))))
 clear hb0 hT0 hY0 hg1 hG1 hb1 hbw1 hT1 hY1 hb11 hTm hM1 hW1
 go_wp2_with fail
 rw [← K1.out.2.2.2.2]
 refine (fromOne_any _).mono ?_
 rintro e w2 ⟨x2, rfl, hx2, hb2⟩
 obtain ⟨nb2, so2, n2, cp2, rfl⟩ := hx2.shape
 replace hx2 := hx2.fit (K := 1) (by decide)
 have hw2 : W1.heap.size ≤ w2.heap.size := hb2.size
 have hb22 := (Below.refl w2.heap.size w2).alloc (Nat.le_refl _) (.cells #[.bool nb2, .slice so2 n2 cp2] 79)
 have hD2 := Duo.new w2 (.bool nb2) (.slice so2 n2 cp2) rfl
 obtain ⟨W2, hW2⟩ : ∃ W2, W2 = w2.alloc (.cells #[.bool nb2, .slice so2 n2 cp2] 79) := ⟨_, rfl⟩
 have hs2 : W2.heap.size = w2.heap.size + 1 := by rw [hW2]; simp
 rw [← hW2] at hb22 hD2
 have hbB := hb2.trans (hb22.mono hw2)
 have K2 := Hid.mk (And.intro (K1.out.1.later hbB) (And.intro (K1.out.2.1.trans (hbB.mono (by omega))) (And.intro (K1.out.2.2.1.later hbB) (And.intro (And.intro (K1.out.2.2.2.1.1.below hbB (by omega)) (K1.out.2.2.2.1.2.below hbB)) (And.intro (hx2.below hb22) (And.intro hD2 hW2))))))
 clear hx2 hb2 hb22 hD2 hW2 hbB
 go_wp2_with fail
 rw [← K2.out.2.2.2.2.2.2]
 have hpg : w1.heap.size ≠ g := by omega
 go_loopw [5] (fun i wr => ∃ (e : Nat) (ms : List Int), e ≤ r ∧ i = .int .i64 e ∧ Hid (MatO wr w1.heap.size 0 g r r ms 1 ∧ W2.grownBy wr (some g) ∧ KU W2 wr ∧ ∀ i j, i < r → j < r → ent r ms i j = if i < e then kd i j else 0)) (fun i _ => r - (intOf i).toNat)
 case atStart => exact ⟨0, _, Nat.zero_le _, rfl, Hid.mk ⟨K2.out.1, World.grownBy.refl _ _, KU.refl _, fun i j _ _ => by rw [ent_zeros, if_neg (by omega)]⟩⟩
 case round =>
  obtain ⟨e, ms, he, rfl, HI⟩ := hrel
  obtain ⟨q0, q1, q2⟩ := HI.out.1.tri
  have hwr := HI.out.2.1.size
  have hB1 : Duo wr w2.heap.size (.bool nb2) (.slice so2 n2 cp2) := (HI.out.2.1.block _ (by omega) (fun e => by injection e with e; omega)).trans K2.out.2.2.2.2.2.1
  obtain ⟨x0, x1, -, -⟩ := hB1.cells
  clear hB1
  by_cases hec : e < r
  ·have hei : (e : Int) < (r : Int) := by omega
   go_wp2_with fail
   refine (set_m w1.heap.size 0 g r r e e ms 1 _ 1 _ HI.out.1 hpg (K2.out.2.2.2.2.1.keep HI.out.2.2.1) hec hec).mono ?_
   rintro e9 w3 ⟨rfl, hM3, hgr3, hku3⟩
   have K3 := Hid.mk (And.intro hM3 (And.intro (grown_trans HI.out.2.1 hgr3) (HI.out.2.2.1.trans hku3)))
   clear hM3 hgr3 hku3
   go_wp2_with fail
   go_roundw
   case measure => simp [intOf]; omega
   case rel =>
    refine ⟨e + 1, _, by omega, by go_num, Hid.mk ⟨K3.out.1, K3.out.2.1, K3.out.2.2, fun i j hi hj => ?_⟩⟩
    rw [ent_set ms r r HI.out.1.len e e i j _ hec hec hj, HI.out.2.2.2 i j hi hj]
    unfold kd
    grind
  ·have hei : ¬ (e : Int) < (r : Int) := by omega
   have hee : e = r := by omega
   have HEE := Hid.mk hee
   clear hee
   have hTr := K2.out.2.2.1.grown HI.out.2.1 (by omega)
   have hYr := K2.out.2.2.2.1.1.grown HI.out.2.1 (by omega)
   have f0 := (K2.out.2.2.2.1.2.grown HI.out.2.1 (by omega)).2
   obtain ⟨y0, y1, y2⟩ := hTr
   go_wp2_with fail
   refine bodyPost_ret (v := .agg #[.int .i64 r, .int .i64 r, .slice (some ⟨g, 0, none⟩) (r * r) (r * r)]) ?_ rfl ?_
   ·(simp [results, Tryz.results60, go_sem, y0, y1, y2]; done)
   ·have hk : ∀ (v0 v1 v2 : Value), KU wr (((wr.setCell ⟨w.heap.size, 0, none⟩ v0).setCell ⟨w.heap.size, 1, none⟩ v1).setCell ⟨w.heap.size, 2, none⟩ v2) := fun v0 v1 v2 => KU.setCell (KU.setCell (KU.setCell (KU.refl _) hYr (by decide) _) (hYr.setCell _ _) (by decide) _) ((hYr.setCell _ _).setCell _ _) (by decide) _
    have hgr : ∀ (v0 v1 v2 : Value), wr.grownBy (((wr.setCell ⟨w.heap.size, 0, none⟩ v0).setCell ⟨w.heap.size, 1, none⟩ v1).setCell ⟨w.heap.size, 2, none⟩ v2) (some w.heap.size) := fun v0 v1 v2 => grown_trans (grown_trans (grown_cell _ _ _ _) (grown_cell _ _ _ _)) (grown_cell _ _ _ _)
    refine ⟨g, rfl, by omega, ms, HI.out.1.grid.grown (hgr _ _ _) (fun a m c e => by
     simp only [Value.slice.injEq, Option.some.injEq] at e
     obtain ⟨rfl, -, -⟩ := e
     show g ≠ w.heap.size
     omega) (hk _ _ _), fun i j hi hj => ?_, ?_⟩
    ·rw [HI.out.2.2.2 i j hi hj, if_pos (by have := HEE.out; omega)]
    ·refine Below.setCell (Below.setCell (Below.setCell ?_ (by simp) _) (by simp) _) (by simp) _
     exact K2.out.2.1.trans (below_of_grown HI.out.2.1 (by omega) (by omega))
end Go.Proofs.YtfjbijpagaipnabGreatDoor
