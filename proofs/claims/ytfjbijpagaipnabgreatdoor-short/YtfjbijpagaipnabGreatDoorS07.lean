import Derived.Test.YtfjbijpagaipnabGreatDoorS06
namespace Go.Proofs.YtfjbijpagaipnabGreatDoor
open Go.RowKit
def Two (w : World) (b : Nat) (x y : Value) : Prop := w.heap[b]? = some (.cells #[x, y] 79 (0, 0))
theorem Two.lt {w : World} {b : Nat} {x y : Value} (h : Two w b x y) : b < w.heap.size := (Array.getElem?_eq_some_iff.1 h).1
theorem Two.below {w w' : World} {b : Nat} {x y : Value} (h : Two w b x y) (hb : Below w.heap.size w w') : Two w' b x y := by unfold Two; rw [hb.block b h.lt]; exact h
theorem Two.fr {w w' : World} {p b : Nat} {x y : Value} (h : Two w b x y) (hf : Fr p w w') (hne : b ≠ p) : Two w' b x y := by unfold Two; rw [hf.1.block b h.lt (by simpa using hne)]; exact h
theorem Two.new (w : World) (x y : Value) {b : Nat} (hb : b = w.heap.size) : Two (w.alloc (.cells #[x, y] 79)) b x y := by rw [hb]; exact heap_alloc_new w _
theorem Two.ty {w : World} {b : Nat} {x y : Value} (h : Two w b x y) : Ty w b 79 := ⟨_, _, h⟩
theorem Two.cells {w : World} {b : Nat} {x y : Value} (h : Two w b x y) : w.cell? ⟨b, 0, none⟩ = some x ∧ w.cell? ⟨b, 1, none⟩ = some y ∧ w.frozen? ⟨b, 0, none⟩ = false ∧ w.frozen? ⟨b, 1, none⟩ = false := by
 unfold Two at h
 refine ⟨?_, ?_, ?_, ?_⟩ <;> simp [World.cell?, World.frozen?, h]
theorem Fr.setNew {p b o : Nat} {w w' : World} (h : Fr p w w') (hb : w.heap.size ≤ b) (u : Value) : Fr p w (w'.setCell ⟨b, o, none⟩ u) := by
 refine ⟨⟨h.1.os, h.1.tape, h.1.output, by have := h.1.size; simp [World.setCell]; omega, fun k hk hne => ?_⟩, fun i arr hi => ?_, fun i arr hi => ?_⟩
 ·rw [Below.heap_setCell _ _ _ _ (by simp; omega)]; exact h.1.block k hk hne
 ·have := (Array.getElem?_eq_some_iff.1 hi).1
  rw [Below.heap_setCell _ _ _ _ (by simp; omega)]; exact h.2.1 i arr hi
 ·have := (Array.getElem?_eq_some_iff.1 hi).1
  rw [Below.heap_setCell _ _ _ _ (by simp; omega)]; exact h.2.2 i arr hi
theorem Rd.setOther {w : World} {p b o : Nat} {s : ByteArray} {q : Nat} (h : Rd w p s q) (hne : b ≠ p) (u : Value) : Rd (w.setCell ⟨b, o, none⟩ u) p s q := by
 unfold Rd; rw [Below.heap_setCell _ _ _ _ (by simp; omega)]; exact h
theorem Rd.move0 {w : World} {p : Nat} {s : ByteArray} {q : Nat} (h : Rd w p s q) {z : Int} {q' : Nat} (hz : z = q') : Rd (w.setCell ⟨p, 1, none⟩ (.int .i64 z)) p s q' ∧ Fr p w (w.setCell ⟨p, 1, none⟩ (.int .i64 z)) := h.move hz 0
def Tok (tk : List UInt8) (z : Int) : Prop := (Run tk ∧ z = decval tk) ∨ (∃ ds, tk = 45 :: ds ∧ Run ds ∧ ds ≠ [48] ∧ z = -(decval ds : Int))
set_option maxRecDepth 100000 in
set_option maxHeartbeats 2000000 in
theorem entry_plus (p : Nat) (s : ByteArray) (a : Nat) (tk l : List UInt8) (w : World) (h : Rd w p s a) (hr : Rem s a (tk ++ l)) (hs : s.size ≤ 4000) (hd : Run tk) (hl : Stops l) :
 Calls Tryz.prog 89 #[.pointer (some ⟨p, 0, none⟩)] w fun e w' => ∃ x, e = .returned x ∧ IsI w' x (decval tk) tk.length ∧ Rd w' p s (a + tk.length) ∧ Fr p w w' := by
 have H := Hid.mk h
 have HR := Hid.mk hr
 have HD := Hid.mk hd
 have HL := Hid.mk hl
 have hpl := h.lt
 obtain ⟨d, r, hdr⟩ : ∃ d r, tk = d :: r := by
  cases tk with
  | nil => exact absurd rfl hd.1
  | cons d r => exact ⟨d, r, rfl⟩
 have hrem : Rem s a (d :: (r ++ l)) := by rw [← List.cons_append, ← hdr]; exact hr
 have hdd := hd.2.1 d (by rw [hdr]; simp)
 have hb : ((d.toNat : Int) == 45) = false := beq_eq_false_iff_ne.2 (by omega)
 have htl : tk.length ≤ s.size := by have := hr.app.1; omega
 have HREM := Hid.mk hrem
 clear h hr hd hl hdr hrem hdd
 go_enter Tryz.func89, Tryz.ntmps89
 go_wp2_with fail
 refine (sees_some p s a 45 d (r ++ l) _ (H.out.below ((Below.refl _ _).alloc (Nat.le_refl _) _)) HREM.out (by omega)).mono ?_
 rintro e w' ⟨rfl, n, rfl⟩
 rw [hb]
 have hT0 : Two ((w.alloc (.cells #[.bool false, .slice none 0 0] 79)).drewN n) w.heap.size (.bool false) (.slice none 0 0) := Two.new w _ _ rfl
 have hF0 : Fr p w ((w.alloc (.cells #[.bool false, .slice none 0 0] 79)).drewN n) := Fr.of_below (below_drewN ((Below.refl _ _).alloc (Nat.le_refl _) _) _)
 have hR0 : Rd ((w.alloc (.cells #[.bool false, .slice none 0 0] 79)).drewN n) p s a := H.out.below (below_drewN ((Below.refl _ _).alloc (Nat.le_refl _) _) _)
 have H0 := Hid.mk (And.intro hT0 (And.intro hF0 hR0))
 clear hT0 hF0 hR0
 go_wp2_with fail
 refine (digits_ok p s a tk l _ H0.out.2.2 HR.out (by omega) HD.out HL.out).mono ?_
 rintro e w2 ⟨rfl, hR2, hF2⟩
 have hT2 := H0.out.1.fr hF2 (by omega)
 have hF2' := H0.out.2.1.trans hF2
 have H2 := Hid.mk (And.intro hT2 (And.intro hF2' hR2))
 clear H0 hT2 hF2 hR2 hF2'
 go_wp2_with fail
 refine (fromDigits_any ⟨tk.toArray⟩ _ (by show tk.toArray.size ≤ 4000; simp; omega) (by simpa using HD.out.2.1)).mono ?_
 rintro e w3 ⟨x, rfl, hx, hb3⟩
 obtain ⟨nb, bo, m, ecap, rfl⟩ := hx.shape
 have hT3 := H2.out.1.below hb3
 obtain ⟨t1, t2, t3, t4⟩ := hT3.cells
 have H3 := Hid.mk (And.intro hT3 (And.intro (H2.out.2.1.trans (Fr.of_below hb3)) (And.intro (H2.out.2.2.below hb3) hx)))
 clear hT3 hx hb3 H2
 go_wp2_with fail
 refine bodyPost_ret (v := .agg #[.bool nb, .slice bo m ecap]) ?_ rfl ?_
 ·(simp [results, Tryz.results89, go_sem, t1, t2]; done)
 ·obtain ⟨hT3, hF3, hR3, hx⟩ := H3.out
  refine ⟨_, rfl, ?_, (hR3.setOther (by omega) _).setOther (by omega) _, (hF3.setNew (Nat.le_refl _) _).setNew (Nat.le_refl _) _⟩
  have hx' : IsI w3 (.agg #[.bool nb, .slice bo m ecap]) (decval tk) tk.length := hx
  exact hx'.keep (KU.setCell (KU.setCell (KU.refl _) hT3.ty (by decide) _) (hT3.ty.setCell _ _) (by decide) _)
set_option maxRecDepth 100000 in
set_option maxHeartbeats 2000000 in
theorem entry_minus (p : Nat) (s : ByteArray) (a : Nat) (ds l : List UInt8) (w : World) (h : Rd w p s a) (hr : Rem s a (45 :: (ds ++ l))) (hs : s.size ≤ 4000) (hd : Run ds) (hl : Stops l) (hne : ds ≠ [48]) :
 Calls Tryz.prog 89 #[.pointer (some ⟨p, 0, none⟩)] w fun e w' => ∃ x, e = .returned x ∧ IsI w' x (-(decval ds : Int)) ds.length ∧ Rd w' p s (a + 1 + ds.length) ∧ Fr p w w' := by
 have H := Hid.mk h
 have HR := Hid.mk hr
 have HD := Hid.mk hd
 have HL := Hid.mk hl
 have hpl := h.lt
 obtain ⟨hq, -, hr1⟩ := hr.cons
 have HR1 := Hid.mk hr1
 have hb : (((45 : UInt8).toNat : Int) == 45) = true := by decide
 have htl : ds.length ≤ s.size := by have := hr1.app.1; omega
 have HNE := Hid.mk hne
 clear h hr hd hl hr1 hne
 go_enter Tryz.func89, Tryz.ntmps89
 go_wp2_with fail
 refine (sees_some p s a 45 45 (ds ++ l) _ (H.out.below ((Below.refl _ _).alloc (Nat.le_refl _) _)) HR.out (by omega)).mono ?_
 rintro e w' ⟨rfl, n, rfl⟩
 rw [hb]
 obtain ⟨X, hX⟩ : ∃ X, X = (w.alloc (.cells #[.bool false, .slice none 0 0] 79)).drewN n := ⟨_, rfl⟩
 have hT0 : Two X w.heap.size (.bool false) (.slice none 0 0) := by rw [hX]; exact Two.new w _ _ rfl
 have hF0 : Fr p w X := by rw [hX]; exact Fr.of_below (below_drewN ((Below.refl _ _).alloc (Nat.le_refl _) _) _)
 have hR0 : Rd X p s a := by rw [hX]; exact H.out.below (below_drewN ((Below.refl _ _).alloc (Nat.le_refl _) _) _)
 obtain ⟨c0, c1, c2, c3, c4⟩ := hR0.cells
 rw [← hX]
 have H0 := Hid.mk (And.intro hT0 (And.intro hF0 hR0))
 clear hT0 hF0 hR0 hX
 go_wp2_with fail
 have M := H0.out.2.2.move0 (z := (a : Int) + 1) (q' := a + 1) (by omega)
 refine (digits_ok p s (a + 1) ds l _ M.1 HR1.out (by omega) HD.out HL.out).mono ?_
 rintro e w2 ⟨rfl, hR2, hF2⟩
 have hT2 := (H0.out.1.fr M.2 (by omega)).fr hF2 (by omega)
 have hF2' := (H0.out.2.1.trans M.2).trans hF2
 have H2 := Hid.mk (And.intro hT2 (And.intro hF2' hR2))
 clear H0 hT2 hF2 hR2 hF2' M c0 c1 c2 c3 c4
 have hne : (ds == [48]) = false := beq_eq_false_iff_ne.2 HNE.out
 go_wp2_with fail
 refine (fromDigits_any ⟨ds.toArray⟩ _ (by show ds.toArray.size ≤ 4000; simp; omega) (by simpa using HD.out.2.1)).mono ?_
 rintro e w3 ⟨x, rfl, hx, hb3⟩
 have H3 := Hid.mk (And.intro (H2.out.1.below hb3) (And.intro (H2.out.2.1.trans (Fr.of_below hb3)) (And.intro (H2.out.2.2.below hb3) hx)))
 clear hx hb3 H2
 go_wp2_with fail
 refine (neg_any _ _ _ _ H3.out.2.2.2).mono ?_
 rintro e w4 ⟨y, rfl, hy, hb4⟩
 obtain ⟨nb, bo, m, ecap, rfl⟩ := hy.shape
 have hT4 := H3.out.1.below hb4
 obtain ⟨t1, t2, t3, t4⟩ := hT4.cells
 have H4 := Hid.mk (And.intro hT4 (And.intro (H3.out.2.1.trans (Fr.of_below hb4)) (And.intro (H3.out.2.2.1.below hb4) hy)))
 clear hT4 hy hb4 H3
 go_wp2_with fail
 refine bodyPost_ret (v := .agg #[.bool nb, .slice bo m ecap]) ?_ rfl ?_
 ·(simp [results, Tryz.results89, go_sem, t1, t2]; done)
 ·obtain ⟨hT3, hF3, hR3, hx⟩ := H4.out
  have hx' : IsI w4 (.agg #[.bool nb, .slice bo m ecap]) (-(decval ds : Int)) ds.length := hx
  exact ⟨_, rfl, hx'.keep (KU.setCell (KU.setCell (KU.refl _) hT3.ty (by decide) _) (hT3.ty.setCell _ _) (by decide) _), (hR3.setOther (by omega) _).setOther (by omega) _, (hF3.setNew (Nat.le_refl _) _).setNew (Nat.le_refl _) _⟩
theorem entry_ok (p : Nat) (s : ByteArray) (a : Nat) (tk l : List UInt8) (z : Int) (w : World) (h : Rd w p s a) (hr : Rem s a (tk ++ l)) (hs : s.size ≤ 4000) (ht : Tok tk z) (hl : Stops l) :
 Calls Tryz.prog 89 #[.pointer (some ⟨p, 0, none⟩)] w fun e w' => ∃ x, e = .returned x ∧ IsI w' x z tk.length ∧ Rd w' p s (a + tk.length) ∧ Fr p w w' := by
 rcases ht with ⟨h1, rfl⟩ | ⟨ds, rfl, h1, h2, rfl⟩
 ·exact entry_plus p s a tk l w h hr hs h1 hl
 ·refine (entry_minus p s a ds l w h hr hs h1 hl h2).mono ?_
  rintro e w' ⟨x, rfl, hx, hR, hF⟩
  exact ⟨x, rfl, hx.mono (by simp), by rw [List.length_cons, show a + (ds.length + 1) = a + 1 + ds.length from by omega]; exact hR, hF⟩
open Go.RowKit
theorem decval_mono (l : List UInt8) : ∀ (j k : Nat), k + j = l.length → decval (l.take k) ≤ decval l := by
 intro j
 induction j with
 | zero => intro k h; rw [List.take_of_length_le (by omega)]; exact Nat.le_refl _
 | succ j ih =>
   intro k h
   have h1 := ih (k + 1) (by omega)
   rw [decval_take l k (by omega)] at h1
   omega
set_option maxRecDepth 100000 in
set_option maxHeartbeats 2000000 in
theorem side_ok (p : Nat) (s : ByteArray) (a : Nat) (ds l : List UInt8) (w : World) (h : Rd w p s a) (hr : Rem s a (ds ++ l)) (hs : s.size ≤ 4000) (hd : Run ds) (hl : Stops l) (hv : decval ds ≤ 99) :
 Calls Tryz.prog 55 #[.pointer (some ⟨p, 0, none⟩)] w fun e w' => e = .returned (.int .i64 (decval ds)) ∧ Rd w' p s (a + ds.length) ∧ Fr p w w' := by
 have H := Hid.mk h
 have HR := Hid.mk hr
 have HD := Hid.mk hd
 have HL := Hid.mk hl
 have hdl : ds.length ≤ 4000 := by have := hr.app.1; omega
 clear h hr hd hl
 go_enter Tryz.func55, Tryz.ntmps55
 go_wp2_with fail
 refine (digits_ok p s a ds l _ H.out HR.out (by omega) HD.out HL.out).mono ?_
 rintro e w2 ⟨rfl, hR2, hF2⟩
 have H2 := Hid.mk (And.intro hR2 hF2)
 clear hR2 hF2
 obtain ⟨rb, hrb⟩ : ∃ rb : ByteArray, rb = ⟨ds.toArray⟩ := ⟨_, rfl⟩
 have hrs : rb.size = ds.length := by rw [hrb]; rfl
 have hrl : rb.data.toList = ds := by rw [hrb]
 have HB := Hid.mk (And.intro hrs hrl)
 have hrz : rb.size ≤ 4000 := by omega
 rw [← hrb]
 clear hrb hrs hrl
 go_wp2_with fail
 go_loop [4, 5] (fun v i => ∃ k sd : Nat, k ≤ rb.size ∧ i = .int .i64 k ∧ sd ≤ 99 ∧ v = .int .i64 sd ∧ Hid (sd = decval (ds.take k))) (fun _ i => rb.size - (intOf i).toNat)
 case atStart => exact ⟨0, 0, Nat.zero_le _, rfl, by omega, rfl, Hid.mk rfl⟩
 case round =>
  obtain ⟨k, sd, hk, rfl, hsd, rfl, HI⟩ := hrel
  by_cases hkr : k < rb.size
  ·have hdd := dig_at rb (by rw [HB.out.2]; exact HD.out.2.1) k hkr
   obtain ⟨d1, d2⟩ := hdd
   have hnext : decval (ds.take (k + 1)) = 10 * sd + ((rb[k]'hkr).toNat - 48) := by
    have := decval_at rb k hkr
    rw [HB.out.2] at this
    rw [this, HI.out]
   have hle : decval (ds.take (k + 1)) ≤ 99 := Nat.le_trans (decval_mono ds (ds.length - (k + 1)) (k + 1) (by have := HB.out.1; omega)) hv
   have HN := Hid.mk hnext
   have hle2 : 10 * sd + ((rb[k]'hkr).toNat - 48) ≤ 99 := by omega
   clear hnext hle
   go_wp2_with fail
   go_round
   case rel => exact ⟨k + 1, 10 * sd + ((rb[k]'hkr).toNat - 48), by omega, by go_num, hle2, by go_num, Hid.mk HN.out.symm⟩
   case measure => simp [intOf]; omega
  ·have hd0 : decide (k < rb.size) = false := by simp; omega
   have hd1 : decide ((k : Int) < (rb.size : Int)) = false := by simp; omega
   go_wp2_with fail
   go_ret
   refine ⟨ret_int ?_, H2.out.1, H2.out.2⟩
   have := HI.out
   rw [List.take_of_length_le (by have := HB.out.1; omega)] at this
   omega
open Go.RowKit
def GridB (B : Nat) (w : World) (sl : Value) (n : Nat) (zs : List Int) (L : Nat) : Prop :=
 zs.length = n ∧ ∃ cs, w.ownsRow B 79 2 sl n cs ∧ ∀ i, i < n → ∃ a b, cs[2 * i]? = some a ∧ cs[2 * i + 1]? = some b ∧ IsI w (.agg #[a, b]) (zs.getD i 0) L
theorem GridB.grid {B : Nat} {w : World} {sl : Value} {n L : Nat} {zs : List Int} (h : GridB B w sl n zs L) : Grid w sl n zs L := by
 obtain ⟨h0, cs, h1, h2⟩ := h
 refine ⟨h0, cs, ⟨h1.1, ?_⟩, h2⟩
 rcases h1.2 with h3 | ⟨g, cap, cur, hv, _, r⟩
 ·exact .inl h3
 ·exact .inr ⟨g, cap, cur, hv, Nat.zero_le _, r⟩
theorem GridB.keep {B : Nat} {w W : World} {sl : Value} {n L : Nat} {zs : List Int} (h : GridB B w sl n zs L) (hk : KT w W) : GridB B W sl n zs L := by
 obtain ⟨h0, cs, h1, h2⟩ := h
 refine ⟨h0, cs, ⟨h1.1, ?_⟩, fun i hi => ?_⟩
 ·rcases h1.2 with h3 | ⟨g, cap, cur, hv, hg, hh, r⟩
  ·exact .inl h3
  ·exact .inr ⟨g, cap, cur, hv, hg, hk.1 g cur hh, r⟩
 ·obtain ⟨a, b, e1, e2, e3⟩ := h2 i hi
  exact ⟨a, b, e1, e2, e3.keep hk.2⟩
theorem GridB.lt {B : Nat} {w : World} {sl : Value} {n L : Nat} {zs : List Int} (h : GridB B w sl n zs L) : ∀ k, sl.ownBlock = some k → B ≤ k ∧ Ty w k 79 := by
 intro k hk
 obtain ⟨h0, cs, h1, h2⟩ := h
 rcases h1.2 with ⟨rfl, _⟩ | ⟨g, cap, cur, rfl, hg, hh, r⟩
 ·simp [Value.ownBlock] at hk
 ·simp [Value.ownBlock] at hk
  subst hk
  exact ⟨hg, _, _, hh⟩
theorem KU.grown {w w' : World} {row : Option Nat} (h : w.grownBy w' row) (ht : ∀ k, row = some k → Ty w k 79) : KU w w' := by
 intro b arr hb
 rw [h.block b (Array.getElem?_eq_some_iff.1 hb).1 ?_]
 ·exact hb
 ·intro e
  obtain ⟨c, fr, h2⟩ := ht b e.symm
  rw [hb] at h2
  simp at h2
theorem append_int (w : World) {ops : Array Oper} {rest : List Oper} {o : Oper} {a : Act} {Q : Exit → Act → World → Prop} (hgd : o.guard = none) (s x : Operand)
 (ho : o.op = .call { callee := .builtin .append, args := #[s, x], argTypes := #[64, 64] }) (B : Nat) (v : Value) (n : Nat) (zs : List Int) (L : Nat) (hs : a.eval s = v) (hg : GridB B w v n zs L)
 (ad : Addr) (hx : a.eval x = .slice (some ad) 1 1) (c1 c2 : Value) (z : Int) (h0 : w.cell? (ad.add 0) = some c1) (h1 : w.cell? (ad.add 1) = some c2) (o1 : c1.oneCell' = true) (o2 : c2.oneCell' = true) (hz : IsI w (.agg #[c1, c2]) z L) (hn : n ≤ 10000) (hB : B ≤ w.heap.size)
 (hK : ∀ v' w', GridB B w' v' (n + 1) (zs ++ [z]) L → w.grownBy w' v.ownBlock → wpList Tryz.prog ops Q rest (a.put o.dst v') w') : wpList Tryz.prog ops Q (o :: rest) a w := by
 obtain ⟨i, hi, hz0, hz1, hz2⟩ := info_parts Tryz.info79
 have hlt := hg.lt
 obtain ⟨g0, cs, g1, g2⟩ := hg
 refine wpList_append_own w hgd s x 64 ho B 79 i (.agg #[.bool false, .slice none 0 0]) 2 32 Tryz.underlying64 hi hz0 hz1 hz2 rfl (by decide) v n cs hs g1 ad 1 1 [c1, c2] hx rfl ?_ ?_ ?_ ?_ hB ?_
 ·intro j u hj
  match j, hj with
  | 0, hj => simp at hj; subst hj; exact h0
  | 1, hj => simp at hj; subst hj; exact h1
 ·intro u hu; simp at hu; rcases hu with rfl | rfl
  ·exact o1
  ·exact o2
 ·unfold maxLen; omega
 ·omega
 ·intro v' w' k1 k2 _
  have hku := KU.grown k2 (fun k hk => (hlt k hk).2)
  have hcl : cs.length = n * 2 := g1.1
  refine hK v' w' ⟨by simp [g0], cs ++ [c1, c2], k1, fun j hj => ?_⟩ k2
  by_cases hjn : j < n
  ·obtain ⟨a', b', e1, e2, e3⟩ := g2 j hjn
   refine ⟨a', b', by rw [List.getElem?_append_left (by omega)]; exact e1, by rw [List.getElem?_append_left (by omega)]; exact e2, ?_⟩
   rw [show (zs ++ [z]).getD j 0 = zs.getD j 0 from by simp [List.getD, List.getElem?_append_left (show j < zs.length from by omega)]]
   exact e3.keep hku
  ·have hje : j = n := by omega
   subst hje
   refine ⟨c1, c2, ?_, ?_, ?_⟩
   ·rw [List.getElem?_append_right (by omega), show 2 * j - cs.length = 0 from by omega]; rfl
   ·rw [List.getElem?_append_right (by omega), show 2 * j + 1 - cs.length = 1 from by omega]; rfl
   ·rw [show (zs ++ [z]).getD j 0 = z from by simp [List.getD, ← g0]]
    exact hz.keep hku
theorem Fr.grown {p : Nat} {w0 w w' : World} {row : Option Nat} (h : Fr p w0 w) (hg : w.grownBy w' row) (hr : ∀ k, row = some k → w0.heap.size ≤ k) : Fr p w0 w' := by
 have hsz := h.1.size
 have key : ∀ k, k < w0.heap.size → w'.heap[k]? = w.heap[k]? := fun k hk => hg.block k (by omega) (fun e => by have := hr k e.symm; omega)
 refine ⟨⟨hg.os.trans h.1.os, hg.tape.trans h.1.tape, hg.output.trans h.1.output, Nat.le_trans hsz hg.size, fun k hk hne => ?_⟩, fun i arr hi => ?_, fun i arr hi => ?_⟩
 ·rw [key k hk]; exact h.1.block k hk hne
 ·rw [key i (Array.getElem?_eq_some_iff.1 hi).1]; exact h.2.1 i arr hi
 ·rw [key i (Array.getElem?_eq_some_iff.1 hi).1]; exact h.2.2 i arr hi
theorem Rd.grown {w w' : World} {p : Nat} {s : ByteArray} {q : Nat} {row : Option Nat} (h : Rd w p s q) (hg : w.grownBy w' row) (hne : row ≠ some p) : Rd w' p s q := by
 unfold Rd; rw [hg.block p h.lt (Ne.symm hne)]; exact h
open Go.RowKit
def bodyT (c : Nat) : Nat → List (List UInt8) → List UInt8
 | _, [] => []
 | t, tk :: r => (if 0 < t ∧ t % c = 0 then [59] else []) ++ (32 :: (tk ++ bodyT c (t + 1) r))
theorem bodyT_stops (c t : Nat) (l : List (List UInt8)) : Stops (bodyT c t l) := by
 cases l with
 | nil => exact .inl rfl
 | cons tk r =>
   refine .inr ?_
   unfold bodyT
   split
   ·exact ⟨59, _, rfl, .inr (by decide)⟩
   ·exact ⟨32, _, rfl, .inl (by decide)⟩
theorem bodyT_at (c t : Nat) (tks : List (List UInt8)) (ht : t < tks.length) : bodyT c t (tks.drop t) = (if 0 < t ∧ t % c = 0 then [59] else []) ++ (32 :: (tks.getD t [] ++ bodyT c (t + 1) (tks.drop (t + 1)))) := by
 rw [List.drop_eq_getElem_cons ht, bodyT]
 simp [List.getD, List.getElem?_eq_getElem ht]
theorem sep_iff {row c k : Nat} (hk : k < c) : (0 < row * c + k ∧ (row * c + k) % c = 0) ↔ (0 < row ∧ k = 0) := by
 have h1 : (row * c + k) % c = k := by rw [Nat.mul_comm, Nat.mul_add_mod, Nat.mod_eq_of_lt hk]
 rw [h1]
 constructor
 ·rintro ⟨h2, rfl⟩
  refine ⟨?_, rfl⟩
  rcases Nat.eq_zero_or_pos row with h3 | h3
  ·subst h3; simp at h2
  ·exact h3
 ·rintro ⟨h2, rfl⟩
  exact ⟨by have := Nat.mul_le_mul h2 (Nat.succ_le_of_lt hk); omega, rfl⟩
theorem take_snocI (zs : List Int) (t : Nat) (ht : t < zs.length) : zs.take t ++ [zs[t]?.getD 0] = zs.take (t + 1) := by
 rw [List.take_succ_eq_append_getElem ht]; simp [List.getElem?_eq_getElem ht]
set_option maxRecDepth 100000 in
set_option maxHeartbeats 4000000 in
theorem entries_ok (p : Nat) (s : ByteArray) (a r c : Nat) (tks : List (List UInt8)) (zs : List Int) (L : Nat) (w : World) (h : Rd w p s a) (hr : Rem s a (bodyT c 0 tks)) (hs : s.size ≤ 4000) (hrr : r ≤ 99) (hcc : c ≤ 99)
 (hl1 : tks.length = r * c) (hl2 : zs.length = r * c) (ht : ∀ t, t < r * c → Tok (tks.getD t []) (zs.getD t 0) ∧ (tks.getD t []).length ≤ L) :
 Calls Tryz.prog 57 #[.pointer (some ⟨p, 0, none⟩), .int .i64 r, .int .i64 c] w fun e w' => ∃ v, e = .returned v ∧ Grid w' v (r * c) zs L ∧ Rd w' p s s.size ∧ Fr p w w' := by
 have H := Hid.mk h
 have HR := Hid.mk hr
 have HT := Hid.mk ht
 have HL := Hid.mk (And.intro hl1 hl2)
 have hpl := h.lt
 clear h hr ht hl1 hl2
 go_enter Tryz.func57, Tryz.ntmps57
 go_wp2_with fail
 go_loopw [7, 8] (fun v i wr => ∃ row q n : Nat, row ≤ r ∧ i = .int .i64 row ∧ GridB w.heap.size wr v n (zs.take n) L ∧ Rd wr p s q ∧ Fr p w wr ∧ Hid (n = row * c ∧ Rem s q (bodyT c n (tks.drop n)))) (fun _ i _ => r - (intOf i).toNat)
 case atStart =>
  refine ⟨0, a, 0, Nat.zero_le _, rfl, ⟨rfl, [], ?_, fun i hi => by omega⟩, H.out.below ((Below.refl _ _).alloc (Nat.le_refl _) _), Fr.of_below ((Below.refl _ _).alloc (Nat.le_refl _) _), Hid.mk ⟨by simp, by simpa using HR.out⟩⟩
  have := World.ownsRow_lit (base := w.heap.size) (e := 79) (size := 2) w #[] 0 (Nat.le_refl _) (by simp [maxLen]) rfl
  simpa using this
 case round =>
  obtain ⟨row, q, n, hrow, rfl, hG, hRd, hFr, HI⟩ := hrel
  have H1 := Hid.mk (And.intro hG (And.intro hRd hFr))
  clear hG hRd hFr
  by_cases hrw : row < r
  ·go_wp2_with fail
   go_loopw [7, 9] (fun v i ws => ∃ k q n : Nat, k ≤ c ∧ i = .int .i64 k ∧ GridB w.heap.size ws v n (zs.take n) L ∧ Rd ws p s q ∧ Fr p w ws ∧ Hid (n = row * c + k ∧ Rem s q (bodyT c n (tks.drop n)))) (fun _ i _ => c - (intOf i).toNat)
   case atStart => exact ⟨0, q, n, Nat.zero_le _, rfl, H1.out.1, H1.out.2.1, H1.out.2.2, HI⟩
   case round =>
    clear H1 HI
    obtain ⟨k, q, n, hk, rfl, hG, hRd, hFr, HI⟩ := hrel
    obtain ⟨c0, c1, c2, c3, c4⟩ := hRd.cells
    by_cases hkc : k < c
    ·have hnlt : n < r * c := by rw [HI.out.1]; exact idx_lt hrw hkc
     have hrc : r * c ≤ 9801 := Nat.mul_le_mul hrr hcc
     have HTN := Hid.mk (HT.out n hnlt)
     have hrem := HI.out.2
     rw [bodyT_at c n tks (by have := HL.out.1; omega)] at hrem
     have hsep := sep_iff (row := row) hkc
     rw [← HI.out.1] at hsep
     by_cases h1 : 0 < row ∧ k = 0
     ·rw [if_pos (hsep.2 h1)] at hrem
      obtain ⟨_, _, hrem1⟩ := hrem.cons
      obtain ⟨hrow0, rfl⟩ := h1
      obtain ⟨_, _, hrem2⟩ := hrem1.cons
      obtain ⟨q1, hq1⟩ : ∃ q1, q1 = q + 1 := ⟨_, rfl⟩
      rw [← hq1] at hrem1 hrem2
      have HREM := Hid.mk hrem
      have HREM1 := Hid.mk hrem1
      have HREM2 := Hid.mk hrem2
      have HQ1 := Hid.mk hq1
      have G0 := Hid.mk (And.intro hG (And.intro hRd hFr))
      clear hrem hrem1 hrem2 hsep hG hRd hFr hq1
      go_wp2_with fail
      refine (want_ok p s q 59 59 _ _ G0.out.2.1 HREM.out (by omega) rfl).mono ?_
      rintro e w1 ⟨rfl, hRd1, hFr1⟩
      have G1 := Hid.mk (And.intro (G0.out.1.keep hFr1.2) (And.intro (show Rd w1 p s q1 from by rw [HQ1.out]; exact hRd1) (G0.out.2.2.trans hFr1)))
      clear hRd1 hFr1 G0 c0 c1 c2 c3 c4
      go_wp2_with fail
      refine (want_ok p s q1 32 32 (tks.getD n [] ++ bodyT c (n + 1) (tks.drop (n + 1))) _ G1.out.2.1 HREM1.out (by omega) rfl).mono ?_
      rintro e w2 ⟨rfl, hRd2, hFr2⟩
      have G2 := Hid.mk (And.intro (G1.out.1.keep hFr2.2) (And.intro hRd2 (G1.out.2.2.trans hFr2)))
      clear hRd2 hFr2 G1
      go_wp2_with fail
      refine (entry_ok p s (q1 + 1) (tks.getD n []) (bodyT c (n + 1) (tks.drop (n + 1))) (zs.getD n 0) _ G2.out.2.1 HREM2.out hs HTN.out.1 (bodyT_stops _ _ _)).mono ?_
      rintro e w3 ⟨x, rfl, hx, hRd3, hFr3⟩
      obtain ⟨nb, bo, m, ecap, rfl⟩ := hx.shape
      have G3 := Hid.mk (And.intro (G2.out.1.keep hFr3.2) (And.intro hRd3 (And.intro (G2.out.2.2.trans hFr3) (hx.mono HTN.out.2))))
      clear hx hRd3 hFr3 G2
      go_wp2_with (at_builtin; refine append_int _ rfl (.tmp 41) (.tmp 43) rfl w.heap.size _ n (zs.take n) L rfl ?_ ⟨_, 0, none⟩ rfl (.bool nb) (.slice bo m ecap) (zs.getD n 0) ?_ ?_ rfl rfl ?_ (by omega) ?_ ?_)
      ·refine G3.out.1.keep (KT.of_below ?_)
       repeat (first | exact Below.refl _ _ | refine Below.alloc ?_ (by simp <;> omega) _)
      ·simp [Addr.add]
      ·simp [Addr.add]
      ·refine G3.out.2.2.2.below ?_
       repeat (first | exact Below.refl _ _ | refine Below.alloc ?_ (by simp <;> omega) _)
      ·have := G3.out.2.2.1.1.size; simp; omega
      intro v' w5 hG5 hgr5
      have hbe : Below w3.heap.size w3 ((w3.alloc (.cells #[.bool nb, .slice bo m ecap] 79)).alloc (.cells #[.bool nb, .slice bo m ecap] 79)) := by
       repeat (first | exact Below.refl _ _ | refine Below.alloc ?_ (by simp <;> omega) _)
      have hrowlt : ∀ j, u7.ownBlock = some j → w.heap.size ≤ j := fun j hj => (G3.out.1.lt j hj).1
      have hFr5 : Fr p w w5 := (G3.out.2.2.1.trans (Fr.of_below hbe)).grown hgr5 hrowlt
      have hRd5 : Rd w5 p s (q1 + 1 + (tks.getD n []).length) := (G3.out.2.1.below hbe).grown hgr5 (fun e => by have := hrowlt p e; omega)
      rw [take_snocI zs n (by have := HL.out.2; omega)] at hG5
      have G5 := Hid.mk (And.intro hG5 (And.intro hRd5 hFr5))
      clear hG5 hRd5 hFr5 hgr5 hbe hrowlt G3
      go_wp2_with fail
      go_roundw
      case rel => exact ⟨0 + 1, _, n + 1, by omega, by go_num, G5.out.1, G5.out.2.1, G5.out.2.2, Hid.mk ⟨by have := HI.out.1; omega, HREM2.out.app⟩⟩
      case measure => simp [intOf]; omega
     ·rw [if_neg (fun e => h1 (hsep.1 e)), List.nil_append] at hrem
      obtain ⟨_, _, hrem2⟩ := hrem.cons
      obtain ⟨q1, hq1⟩ : ∃ q1, q1 = q := ⟨_, rfl⟩
      rw [← hq1] at hrem hrem2 hRd
      have HREM1 := Hid.mk hrem
      have HREM2 := Hid.mk hrem2
      have G1 := Hid.mk (And.intro hG (And.intro hRd hFr))
      clear hrem hrem2 hsep hG hRd hFr hq1
      by_cases h2 : row = 0
      ·have h3 : decide (0 < row) = false := by simp; omega
       have h4 : decide ((0 : Int) < (row : Int)) = false := by simp; omega
       clear h1 h2
       go_wp2_with fail
       refine (want_ok p s q1 32 32 (tks.getD n [] ++ bodyT c (n + 1) (tks.drop (n + 1))) _ G1.out.2.1 HREM1.out (by omega) rfl).mono ?_
       rintro e w2 ⟨rfl, hRd2, hFr2⟩
       have G2 := Hid.mk (And.intro (G1.out.1.keep hFr2.2) (And.intro hRd2 (G1.out.2.2.trans hFr2)))
       clear hRd2 hFr2 G1
       go_wp2_with fail
       refine (entry_ok p s (q1 + 1) (tks.getD n []) (bodyT c (n + 1) (tks.drop (n + 1))) (zs.getD n 0) _ G2.out.2.1 HREM2.out hs HTN.out.1 (bodyT_stops _ _ _)).mono ?_
       rintro e w3 ⟨x, rfl, hx, hRd3, hFr3⟩
       obtain ⟨nb, bo, m, ecap, rfl⟩ := hx.shape
       have G3 := Hid.mk (And.intro (G2.out.1.keep hFr3.2) (And.intro hRd3 (And.intro (G2.out.2.2.trans hFr3) (hx.mono HTN.out.2))))
       clear hx hRd3 hFr3 G2
       go_wp2_with (at_builtin; refine append_int _ rfl (.tmp 41) (.tmp 43) rfl w.heap.size _ n (zs.take n) L rfl ?_ ⟨_, 0, none⟩ rfl (.bool nb) (.slice bo m ecap) (zs.getD n 0) ?_ ?_ rfl rfl ?_ (by omega) ?_ ?_)
       ·refine G3.out.1.keep (KT.of_below ?_)
        repeat (first | exact Below.refl _ _ | refine Below.alloc ?_ (by simp <;> omega) _)
       ·simp [Addr.add]
       ·simp [Addr.add]
       ·refine G3.out.2.2.2.below ?_
        repeat (first | exact Below.refl _ _ | refine Below.alloc ?_ (by simp <;> omega) _)
       ·have := G3.out.2.2.1.1.size; simp; omega
       intro v' w5 hG5 hgr5
       have hbe : Below w3.heap.size w3 ((w3.alloc (.cells #[.bool nb, .slice bo m ecap] 79)).alloc (.cells #[.bool nb, .slice bo m ecap] 79)) := by
        repeat (first | exact Below.refl _ _ | refine Below.alloc ?_ (by simp <;> omega) _)
       have hrowlt : ∀ j, u7.ownBlock = some j → w.heap.size ≤ j := fun j hj => (G3.out.1.lt j hj).1
       have hFr5 : Fr p w w5 := (G3.out.2.2.1.trans (Fr.of_below hbe)).grown hgr5 hrowlt
       have hRd5 : Rd w5 p s (q1 + 1 + (tks.getD n []).length) := (G3.out.2.1.below hbe).grown hgr5 (fun e => by have := hrowlt p e; omega)
       rw [take_snocI zs n (by have := HL.out.2; omega)] at hG5
       have G5 := Hid.mk (And.intro hG5 (And.intro hRd5 hFr5))
       clear hG5 hRd5 hFr5 hgr5 hbe hrowlt G3
       go_wp2_with fail
       go_roundw
       case rel => exact ⟨k + 1, _, n + 1, by omega, by go_num, G5.out.1, G5.out.2.1, G5.out.2.2, Hid.mk ⟨by have := HI.out.1; omega, HREM2.out.app⟩⟩
       case measure => simp [intOf]; omega
      ·have h3 : ((k : Int) == 0) = false := beq_eq_false_iff_ne.2 (by omega)
       have h4 : 0 < row := by omega
       clear h1 h2
       go_wp2_with fail
       refine (want_ok p s q1 32 32 (tks.getD n [] ++ bodyT c (n + 1) (tks.drop (n + 1))) _ G1.out.2.1 HREM1.out (by omega) rfl).mono ?_
       rintro e w2 ⟨rfl, hRd2, hFr2⟩
       have G2 := Hid.mk (And.intro (G1.out.1.keep hFr2.2) (And.intro hRd2 (G1.out.2.2.trans hFr2)))
       clear hRd2 hFr2 G1
       go_wp2_with fail
       refine (entry_ok p s (q1 + 1) (tks.getD n []) (bodyT c (n + 1) (tks.drop (n + 1))) (zs.getD n 0) _ G2.out.2.1 HREM2.out hs HTN.out.1 (bodyT_stops _ _ _)).mono ?_
       rintro e w3 ⟨x, rfl, hx, hRd3, hFr3⟩
       obtain ⟨nb, bo, m, ecap, rfl⟩ := hx.shape
       have G3 := Hid.mk (And.intro (G2.out.1.keep hFr3.2) (And.intro hRd3 (And.intro (G2.out.2.2.trans hFr3) (hx.mono HTN.out.2))))
       clear hx hRd3 hFr3 G2
       go_wp2_with (at_builtin; refine append_int _ rfl (.tmp 41) (.tmp 43) rfl w.heap.size _ n (zs.take n) L rfl ?_ ⟨_, 0, none⟩ rfl (.bool nb) (.slice bo m ecap) (zs.getD n 0) ?_ ?_ rfl rfl ?_ (by omega) ?_ ?_)
       ·refine G3.out.1.keep (KT.of_below ?_)
        repeat (first | exact Below.refl _ _ | refine Below.alloc ?_ (by simp <;> omega) _)
       ·simp [Addr.add]
       ·simp [Addr.add]
       ·refine G3.out.2.2.2.below ?_
        repeat (first | exact Below.refl _ _ | refine Below.alloc ?_ (by simp <;> omega) _)
       ·have := G3.out.2.2.1.1.size; simp; omega
       intro v' w5 hG5 hgr5
       have hbe : Below w3.heap.size w3 ((w3.alloc (.cells #[.bool nb, .slice bo m ecap] 79)).alloc (.cells #[.bool nb, .slice bo m ecap] 79)) := by
        repeat (first | exact Below.refl _ _ | refine Below.alloc ?_ (by simp <;> omega) _)
       have hrowlt : ∀ j, u7.ownBlock = some j → w.heap.size ≤ j := fun j hj => (G3.out.1.lt j hj).1
       have hFr5 : Fr p w w5 := (G3.out.2.2.1.trans (Fr.of_below hbe)).grown hgr5 hrowlt
       have hRd5 : Rd w5 p s (q1 + 1 + (tks.getD n []).length) := (G3.out.2.1.below hbe).grown hgr5 (fun e => by have := hrowlt p e; omega)
       rw [take_snocI zs n (by have := HL.out.2; omega)] at hG5
       have G5 := Hid.mk (And.intro hG5 (And.intro hRd5 hFr5))
       clear hG5 hRd5 hFr5 hgr5 hbe hrowlt G3
       go_wp2_with fail
       go_roundw
       case rel => exact ⟨k + 1, _, n + 1, by omega, by go_num, G5.out.1, G5.out.2.1, G5.out.2.2, Hid.mk ⟨by have := HI.out.1; omega, HREM2.out.app⟩⟩
       case measure => simp [intOf]; omega
    ·have hke : k = c := by omega
     have HKE := Hid.mk hke
     clear hke
     have hd0 : decide (k < c) = false := by simp; omega
     have G0 := Hid.mk (And.intro hG (And.intro hRd hFr))
     clear hG hRd hFr
     go_wp2_with fail
     go_roundw
     case rel => exact ⟨row + 1, q, n, by omega, by go_num, G0.out.1, G0.out.2.1, G0.out.2.2, Hid.mk ⟨by rw [HI.out.1, HKE.out, Nat.add_mul, Nat.one_mul], HI.out.2⟩⟩
     case measure => simp [intOf]; omega
  ·have hre : row = r := by omega
   have HRE := Hid.mk hre
   clear hre
   go_wp2_with fail
   go_ret
   have e1 : n = r * c := by rw [← HRE.out]; exact HI.out.1
   have e2 := HI.out.2
   rw [e1, List.drop_of_length_le (by have := HL.out.1; omega)] at e2
   have e3 := e2.nil
   obtain ⟨g1, g2, g3⟩ := H1.out
   rw [e3] at g2
   rw [e1, List.take_of_length_le (by have := HL.out.2; omega)] at g1
   exact ⟨_, rfl, g1.grid, g2, g3⟩
end Go.Proofs.YtfjbijpagaipnabGreatDoor
