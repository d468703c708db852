import Derived.Test.YtfjbijpagaipnabGreatDoorK13
import Derived.Test.YtfjbijpagaipnabGreatDoorK15
namespace Go.Proofs.YtfjbijpagaipnabGreatDoor
open Go.RowKit
def Rb (w : World) (p : Nat) (s : ByteArray) (q : Nat) (bad : Bool) : Prop := w.heap[p]? = some (.cells #[.string s, .int .i64 q, .bool bad] 106 (0, 0))
theorem Rb.lt {w : World} {p : Nat} {s : ByteArray} {q : Nat} {bad : Bool} (h : Rb w p s q bad) : p < w.heap.size := (Array.getElem?_eq_some_iff.1 h).1
theorem Rb.ty {w : World} {p : Nat} {s : ByteArray} {q : Nat} {bad : Bool} (h : Rb w p s q bad) : Ty w p 106 := ⟨_, _, h⟩
theorem Rb.below {w w' : World} {p : Nat} {s : ByteArray} {q : Nat} {bad : Bool} (h : Rb w p s q bad) (hb : Below w.heap.size w w') : Rb w' p s q bad := by unfold Rb; rw [hb.block p h.lt]; exact h
theorem Rb.cells {w : World} {p : Nat} {s : ByteArray} {q : Nat} {bad : Bool} (h : Rb w p s q bad) : w.cell? ⟨p, 0, none⟩ = some (.string s) ∧ w.cell? ⟨p, 1, none⟩ = some (.int .i64 q) ∧ w.cell? ⟨p, 2, none⟩ = some (.bool bad) ∧ w.frozen? ⟨p, 1, none⟩ = false ∧ w.frozen? ⟨p, 2, none⟩ = false := by
 unfold Rb at h
 refine ⟨?_, ?_, ?_, ?_, ?_⟩ <;> simp [World.cell?, World.frozen?, h]
theorem Rb.frSet {w : World} {p : Nat} {s : ByteArray} {q : Nat} {bad : Bool} (h : Rb w p s q bad) (o : Nat) (u : Value) (n : Nat) : Fr p w ((w.setCell ⟨p, o, none⟩ u).drewN n) := by
 refine ⟨⟨rfl, rfl, rfl, by simp [World.setCell], fun k _ hne => ?_⟩, ?_⟩
 ·show (w.setCell ⟨p, o, none⟩ u).heap[k]? = _
  rw [Below.heap_setCell _ _ _ _ (fun e => hne (by simp [e]))]
 ·exact KT.setCell (KT.refl _) h.ty (by decide) (by decide) _
theorem Rb.move {w : World} {p : Nat} {s : ByteArray} {q : Nat} {bad : Bool} (h : Rb w p s q bad) {z : Int} {q' : Nat} (hz : z = q') (n : Nat) : Rb ((w.setCell ⟨p, 1, none⟩ (.int .i64 z)).drewN n) p s q' bad ∧ Fr p w ((w.setCell ⟨p, 1, none⟩ (.int .i64 z)).drewN n) := by
 subst hz
 refine ⟨?_, h.frSet _ _ _⟩
 show (w.setCell ⟨p, 1, none⟩ (.int .i64 q')).heap[p]? = _
 rw [heap_setCell_same _ _ _ _ _ _ h]
 simp
theorem Rb.fault {w : World} {p : Nat} {s : ByteArray} {q : Nat} {bad : Bool} (h : Rb w p s q bad) (n : Nat) : Rb ((w.setCell ⟨p, 2, none⟩ (.bool true)).drewN n) p s q true ∧ Fr p w ((w.setCell ⟨p, 2, none⟩ (.bool true)).drewN n) := by
 refine ⟨?_, h.frSet _ _ _⟩
 show (w.setCell ⟨p, 2, none⟩ (.bool true)).heap[p]? = _
 rw [heap_setCell_same _ _ _ _ _ _ h]
 simp
theorem Rb.setOther {w : World} {p b o : Nat} {s : ByteArray} {q : Nat} {bad : Bool} (h : Rb w p s q bad) (hne : b ≠ p) (u : Value) : Rb (w.setCell ⟨b, o, none⟩ u) p s q bad := by
 unfold Rb; rw [Below.heap_setCell _ _ _ _ (by simp; omega)]; exact h
theorem Rem.rest (s : ByteArray) (q : Nat) (hq : q ≤ s.size) : Rem s q (s.data.toList.drop q) := ⟨hq, rfl⟩
theorem split_digs (l : List UInt8) : ∃ ds r, l = ds ++ r ∧ Digs ds ∧ Stops r := by
 induction l with
 | nil => exact ⟨[], [], rfl, (fun c hc => by cases hc), .inl rfl⟩
 | cons x t ih =>
   by_cases h : 48 ≤ x.toNat ∧ x.toNat ≤ 57
   ·obtain ⟨ds, r, h1, h2, h3⟩ := ih
    refine ⟨x :: ds, r, by rw [h1]; rfl, fun c hc => ?_, h3⟩
    rcases List.mem_cons.1 hc with rfl | hc
    ·exact h
    ·exact h2 c hc
   ·exact ⟨[], x :: t, rfl, (fun c hc => by cases hc), .inr ⟨x, t, rfl, by omega⟩⟩
set_option maxRecDepth 100000 in
set_option maxHeartbeats 1000000 in
theorem sees_any (p : Nat) (s : ByteArray) (q : Nat) (bad : Bool) (c : UInt8) (w : World) (h : Rb w p s q bad) (hq : q ≤ s.size) (_hs : s.size ≤ 4611686018427387904) :
 Calls Tryz.prog 88 #[.pointer (some ⟨p, 0, none⟩), .int .u8 (c.toNat : Nat)] w fun e w' => (∃ b, e = .returned (.bool b) ∧ (b = true → ∃ l, Rem s q (c :: l)) ∧ (b = false → ∀ l, ¬ Rem s q (c :: l))) ∧ ∃ n, w' = w.drewN n := by
 obtain ⟨c0, c1, c2, -, -⟩ := h.cells
 by_cases hlt : q < s.size
 ·obtain ⟨x, hx⟩ : ∃ x, x = s[q]'hlt := ⟨_, rfl⟩
  have hx' : (s[q]'hlt).toNat = x.toNat := by rw [hx]
  have hqi : (q : Int) < (s.size : Int) := by omega
  have hrem : Rem s q (x :: s.data.toList.drop (q + 1)) := by
   refine ⟨hq, ?_⟩
   rw [List.drop_eq_getElem_cons (show q < s.data.toList.length from by simpa using hlt), hx]
   rfl
  have HR := Hid.mk hrem
  clear h hrem hx
  go_enter Tryz.func88, Tryz.ntmps88
  go_wp2_with fail
  go_quiet (fail)
  go_wp2_with fail
  go_ret
  refine ⟨⟨_, rfl, fun hb => ?_, fun hb l hl => ?_⟩, _, rfl⟩
  ·have e : x = c := UInt8.toNat_inj.1 (by have := beq_iff_eq.1 hb; omega)
   rw [← e]; exact ⟨_, HR.out⟩
  ·have h2 := HR.out.2
   rw [hl.2] at h2
   injection h2 with h2 _
   rw [h2] at hb
   simp at hb
 ·have hd0 : decide (q < s.size) = false := by simp; omega
  have hd1 : decide ((q : Int) < (s.size : Int)) = false := by simp; omega
  have hqe : q = s.size := by omega
  have HQ := Hid.mk hqe
  clear h hlt hqe
  go_enter Tryz.func88, Tryz.ntmps88
  go_wp2_with fail
  go_quiet (fail)
  go_wp2_with fail
  go_ret
  refine ⟨⟨_, rfl, (fun hb => by cases hb), fun _ l hl => ?_⟩, _, rfl⟩
  obtain ⟨h1, -⟩ := hl.cons
  have := HQ.out
  omega
set_option maxRecDepth 100000 in
set_option maxHeartbeats 1000000 in
theorem want_any (p : Nat) (s : ByteArray) (q : Nat) (bad : Bool) (c : UInt8) (w : World) (h : Rb w p s q bad) (hq : q ≤ s.size) (hs : s.size ≤ 4611686018427387904) :
 Calls Tryz.prog 56 #[.pointer (some ⟨p, 0, none⟩), .int .u8 (c.toNat : Nat)] w fun e w' => e = .returned (.tuple #[]) ∧ (∃ q' bad', Rb w' p s q' bad' ∧ q' ≤ s.size ∧ (bad' = false → bad = false ∧ q' = q + 1 ∧ ∃ l, Rem s q (c :: l))) ∧ Fr p w w' := by
 obtain ⟨c0, c1, c2, c3, c4⟩ := h.cells
 have H := Hid.mk h
 clear h
 go_enter Tryz.func56, Tryz.ntmps56
 go_wp2_with fail
 refine (sees_any p s q bad c _ H.out hq hs).mono ?_
 rintro e w' ⟨⟨b, rfl, hb1, hb2⟩, n, rfl⟩
 have HB := Hid.mk (And.intro hb1 hb2)
 clear hb1 hb2
 cases b
 ·go_wp2_with fail
  go_end0
  exact ⟨rfl, ⟨_, _, (H.out.fault n).1, hq, (fun e => by cases e)⟩, (H.out.fault n).2⟩
 ·obtain ⟨l, hl⟩ := HB.out.1 rfl
  obtain ⟨hlt, -, -⟩ := hl.cons
  have HL := Hid.mk hl
  clear hl
  go_wp2_with fail
  refine bodyPost_ret (v := .tuple #[]) ?_ rfl ?_
  ·(simp [results, Tryz.results56, go_sem]; done)
  ·have M := H.out.move (q' := q + 1) (z := (q : Int) + 1) (by omega) n
   exact ⟨rfl, ⟨_, _, M.1, by omega, fun e => ⟨e, rfl, l, HL.out⟩⟩, M.2⟩
set_option maxRecDepth 100000 in
set_option maxHeartbeats 4000000 in
theorem digits_any (p : Nat) (s : ByteArray) (a : Nat) (bad : Bool) (ds l : List UInt8) (w : World) (h : Rb w p s a bad) (hr : Rem s a (ds ++ l)) (hs : s.size ≤ 4611686018427387904) (hd : Digs ds) (hl : Stops l) :
 Calls Tryz.prog 87 #[.pointer (some ⟨p, 0, none⟩)] w fun e w' => e = .returned (.string ⟨ds.toArray⟩) ∧ (∃ bad', Rb w' p s (a + ds.length) bad' ∧ (bad' = false → bad = false ∧ Run ds)) ∧ Fr p w w' := by
 have H := Hid.mk h
 have HR := Hid.mk hr
 have HD := Hid.mk hd
 have HL := Hid.mk hl
 obtain ⟨c0, c1, c2, c3, c4⟩ := h.cells
 clear h hr hd hl
 go_enter Tryz.func87, Tryz.ntmps87
 go_wp2_with fail
 go_loopg [] ds.length (fun g wr => ∃ k q : Nat, k ≤ ds.length ∧ Rb wr p s q bad ∧ Fr p w wr ∧ Hid (q = a + k ∧ g = ds.length - k))
 case atStart => exact ⟨0, a, Nat.zero_le _, H.out, Fr.refl _ _, Hid.mk ⟨rfl, rfl⟩⟩
 case round =>
  clear c0 c1 c2 c3 c4
  obtain ⟨k, q, hk, hrd, hfr, HI⟩ := hrel
  obtain ⟨c0, c1, c2, c3, c4⟩ := hrd.cells
  have HRD := Hid.mk hrd
  have HFR := Hid.mk hfr
  clear hrd hfr
  by_cases hkd : k < ds.length
  ·obtain ⟨hq0, hx⟩ := HR.out.dig k hkd
   have hq : q < s.size := by rw [HI.out.1]; exact hq0
   have hd := HD.out _ (List.getElem_mem hkd)
   have hxq : s[q]'hq = ds[k] := by rw [← hx]; congr 1; exact HI.out.1
   rw [← hxq] at hd
   have d1 : (48 : Int) ≤ ((s[q]'hq).toNat : Int) := by omega
   have d2 : ((s[q]'hq).toNat : Int) ≤ 57 := by omega
   have hqi : (q : Int) < (s.size : Int) := by omega
   clear hd hxq hx hq0
   go_wp2_with fail
   go_quiet (fail)
   go_wp2_with fail
   go_roundg (ds.length - (k + 1))
   case measure => have := HI.out.2; omega
   case rel =>
    have M := HRD.out.move (q' := q + 1) (z := (q : Int) + 1) (by omega) nq
    exact ⟨k + 1, q + 1, by omega, M.1, HFR.out.trans M.2, Hid.mk ⟨by have := HI.out.1; omega, rfl⟩⟩
  ·have hkk : k = ds.length := by omega
   have hqq : q = a + ds.length := by rw [← hkk]; exact HI.out.1
   have HQ := Hid.mk hqq
   obtain ⟨rb, hrb⟩ : ∃ rb, s.extract a q = rb := ⟨_, rfl⟩
   have hrb2 : rb = ⟨ds.toArray⟩ := by rw [← hrb, hqq]; exact HR.out.cut
   have hrs : rb.size = ds.length := by rw [hrb2]; rfl
   have HRUN : Hid ((rb.size = 0) ∨ (rb.size = 1 ∧ Run ds) ∨ (1 < rb.size ∧ ∃ hz : 0 < rb.size, ((rb[0]'hz).toNat == 48) = false ∧ Run ds) ∨ (1 < rb.size ∧ ∃ hz : 0 < rb.size, ((rb[0]'hz).toNat == 48) = true)) := by
    refine Hid.mk ?_
    cases hds : ds with
    | nil => exact .inl (by rw [hrs, hds]; rfl)
    | cons d r =>
      cases r with
      | nil => exact .inr (.inl ⟨by rw [hrs, hds]; rfl, by simp, by rw [← hds]; exact HD.out, .inl rfl⟩)
      | cons d2 r2 =>
        have h1 : 1 < rb.size := by rw [hrs, hds]; simp
        have h4 : rb[0]'(by omega) = d := by subst hds; subst hrb2; rfl
        by_cases h5 : d.toNat = 48
        ·exact .inr (.inr (.inr ⟨h1, by omega, by rw [h4]; simp [h5]⟩))
        ·exact .inr (.inr (.inl ⟨h1, by omega, by rw [h4]; exact beq_eq_false_iff_ne.2 h5, by simp, by rw [← hds]; exact HD.out, .inr ⟨d, d2 :: r2, rfl, h5⟩⟩))
   have HRB := Hid.mk hrb2
   have haq : a ≤ q := by omega
   have hqs : q ≤ s.size := by have := HR.out.app; rw [hqq]; exact this.1
   have hrbs : rb.size ≤ 4611686018427387904 := by rw [hrs]; omega
   clear hrb2 hqq hkk hrs hkd
   have hstop : decide (q < s.size) = false ∨ (∃ hq : q < s.size, (s[q]'hq).toNat < 48) ∨ (∃ hq : q < s.size, 48 ≤ (s[q]'hq).toNat ∧ 57 < (s[q]'hq).toNat) := by
    rcases HL.out with hl | ⟨c, r, hl, hc⟩
    ·have h1 := HR.out.app
     rw [hl, ← HQ.out] at h1
     have := h1.nil
     exact .inl (by simp; omega)
    ·have h1 := HR.out.app
     rw [hl, ← HQ.out] at h1
     obtain ⟨hq, hx, -⟩ := h1.cons
     rcases hc with hc | hc
     ·exact .inr (.inl ⟨hq, by rw [hx]; exact hc⟩)
     ·exact .inr (.inr ⟨hq, by rw [hx]; omega, by rw [hx]; exact hc⟩)
   rcases hstop with hd0 | ⟨hq, hx⟩ | ⟨hq, hx1, hx2⟩
   case' inr.inl =>
    have hqi : (q : Int) < (s.size : Int) := by omega
    have e1 : decide ((48 : Int) ≤ ((s[q]'hq).toNat : Int)) = false := by simp; omega
    have e2 : decide (48 ≤ (s[q]'hq).toNat) = false := by simp; omega
   case' inr.inr =>
    have hqi : (q : Int) < (s.size : Int) := by omega
    have d1 : (48 : Int) ≤ ((s[q]'hq).toNat : Int) := by omega
    have e1 : decide (((s[q]'hq).toNat : Int) ≤ 57) = false := by simp; omega
    have e2 : decide ((s[q]'hq).toNat ≤ 57) = false := by simp; omega
   all_goals
    go_wp2_with fail
    go_quiet (fail)
    go_wp2_with fail
    go_quiet (fail)
    rcases HRUN.out with h1 | ⟨h1, hrun⟩ | ⟨h1, hz, g3, hrun⟩ | ⟨h1, hz, g3⟩
    ·have g1 : ((rb.size : Int) == 0) = true := beq_iff_eq.2 (by omega)
     go_wp2_with fail
     go_ret
     exact ⟨ret_str HRB.out, ⟨true, by rw [← HQ.out]; exact (HRD.out.fault _).1, (fun e => by cases e)⟩, HFR.out.trans (HRD.out.fault _).2⟩
    ·have g1 : ((rb.size : Int) == 0) = false := beq_eq_false_iff_ne.2 (by omega)
     have g2 : decide (1 < (rb.size : Int)) = false := by simp; omega
     have HRN := Hid.mk hrun
     clear hrun
     go_wp2_with fail
     go_ret
     exact ⟨ret_str HRB.out, ⟨bad, by rw [← HQ.out]; exact HRD.out.below (below_drewN (Below.refl _ _) _), fun e => ⟨e, HRN.out⟩⟩, HFR.out.trans (Fr.of_below (below_drewN (Below.refl _ _) _))⟩
    ·have g1 : ((rb.size : Int) == 0) = false := beq_eq_false_iff_ne.2 (by omega)
     have g2 : (1 : Int) < (rb.size : Int) := by omega
     have HRN := Hid.mk hrun
     clear hrun
     go_wp2_with fail
     go_ret
     exact ⟨ret_str HRB.out, ⟨bad, by rw [← HQ.out]; exact HRD.out.below (below_drewN (Below.refl _ _) _), fun e => ⟨e, HRN.out⟩⟩, HFR.out.trans (Fr.of_below (below_drewN (Below.refl _ _) _))⟩
    ·have g1 : ((rb.size : Int) == 0) = false := beq_eq_false_iff_ne.2 (by omega)
     have g2 : (1 : Int) < (rb.size : Int) := by omega
     go_wp2_with fail
     go_ret
     exact ⟨ret_str HRB.out, ⟨true, by rw [← HQ.out]; exact (HRD.out.fault _).1, (fun e => by cases e)⟩, HFR.out.trans (HRD.out.fault _).2⟩
open Go.RowKit
def SideOut (p : Nat) (s : ByteArray) (a : Nat) (bad : Bool) (ds : List UInt8) (w w' : World) (i : Int) : Prop := (∃ n : Nat, n ≤ 99 ∧ i = (n : Int) ∧ ∃ bad', Rb w' p s (a + ds.length) bad' ∧ (bad' = false → bad = false ∧ Run ds ∧ decval ds = n)) ∧ Fr p w w'
set_option maxRecDepth 100000 in
set_option maxHeartbeats 4000000 in
theorem side_any (p : Nat) (s : ByteArray) (a : Nat) (bad : Bool) (ds l : List UInt8) (w : World) (h : Rb w p s a bad) (hr : Rem s a (ds ++ l)) (hs : s.size ≤ 4000) (hd : Digs ds) (hl : Stops l) :
 Calls Tryz.prog 55 #[.pointer (some ⟨p, 0, none⟩)] w fun e w' => ∃ i : Int, e = .returned (.int .i64 i) ∧ SideOut p s a bad ds w w' i := by
 have H := Hid.mk h
 have HR := Hid.mk hr
 have HD := Hid.mk hd
 have HL := Hid.mk hl
 have hdl : ds.length ≤ 4000 := by have := hr.app.1; omega
 clear h hr hd hl
 go_enter Tryz.func55, Tryz.ntmps55
 go_wp2_with fail
 refine (digits_any p s a bad ds l _ H.out HR.out (by omega) HD.out HL.out).mono ?_
 rintro e w2 ⟨rfl, ⟨bad2, hR2, hb2⟩, hF2⟩
 obtain ⟨c0, c1, c2, c3, c4⟩ := hR2.cells
 have H2 := Hid.mk (And.intro hR2 (And.intro hF2 hb2))
 clear hR2 hF2 hb2
 obtain ⟨rb, hrb⟩ : ∃ rb : ByteArray, rb = ⟨ds.toArray⟩ := ⟨_, rfl⟩
 have hrs : rb.size = ds.length := by rw [hrb]; rfl
 have hrl : rb.data.toList = ds := by rw [hrb]
 have HB := Hid.mk (And.intro hrs hrl)
 have hrz : rb.size ≤ 4000 := by omega
 rw [← hrb]
 clear hrb hrs hrl
 go_wp2_with fail
 go_loop [4, 5] (fun v i => ∃ k sd : Nat, k ≤ rb.size ∧ i = .int .i64 k ∧ sd ≤ 999 ∧ v = .int .i64 sd ∧ Hid (sd = decval (ds.take k))) (fun _ i => rb.size - (intOf i).toNat)
 case atStart => exact ⟨0, 0, Nat.zero_le _, rfl, by omega, rfl, Hid.mk rfl⟩
 case round =>
  obtain ⟨k, sd, hk, rfl, hsd, rfl, HI⟩ := hrel
  by_cases hkr : k < rb.size
  ·by_cases hs99 : sd ≤ 99
   ·have hdd := dig_at rb (by rw [HB.out.2]; exact HD.out) k hkr
    obtain ⟨d1, d2⟩ := hdd
    have hnext : decval (ds.take (k + 1)) = 10 * sd + ((rb[k]'hkr).toNat - 48) := by
     have := decval_at rb k hkr
     rw [HB.out.2] at this
     rw [this, HI.out]
    have HN := Hid.mk hnext
    have hle2 : 10 * sd + ((rb[k]'hkr).toNat - 48) ≤ 999 := by omega
    clear hnext
    go_wp2_with fail
    go_round
    case rel => exact ⟨k + 1, 10 * sd + ((rb[k]'hkr).toNat - 48), by omega, by go_num, hle2, by go_num, Hid.mk HN.out.symm⟩
    case measure => simp [intOf]; omega
   ·have hd0 : decide (sd ≤ 99) = false := by simp; omega
    have hd1 : decide ((sd : Int) ≤ (99 : Int)) = false := by simp; omega
    have hd2 : (99 : Int) < (sd : Int) := by omega
    clear hs99
    go_wp2_with fail
    go_ret
    exact ⟨_, rfl, ⟨0, by omega, rfl, true, (H2.out.1.fault 0).1, (fun e => by cases e)⟩, H2.out.2.1.trans (H2.out.1.fault 0).2⟩
  ·have hd0 : decide (k < rb.size) = false := by simp; omega
   have hd1 : decide ((k : Int) < (rb.size : Int)) = false := by simp; omega
   by_cases hs99 : sd ≤ 99
   ·go_wp2_with fail
    go_ret
    refine ⟨_, rfl, ⟨sd, hs99, rfl, bad2, H2.out.1, fun e => ⟨(H2.out.2.2 e).1, (H2.out.2.2 e).2, ?_⟩⟩, H2.out.2.1⟩
    have := HI.out
    rw [List.take_of_length_le (by have := HB.out.1; omega)] at this
    omega
   ·have hd2 : (99 : Int) < (sd : Int) := by omega
    clear hs99
    go_wp2_with fail
    go_ret
    exact ⟨_, rfl, ⟨0, by omega, rfl, true, (H2.out.1.fault 0).1, (fun e => by cases e)⟩, H2.out.2.1.trans (H2.out.1.fault 0).2⟩
def EntOut (p : Nat) (s : ByteArray) (a : Nat) (bad : Bool) (w' : World) (x : Value) : Prop := ∃ (z : Int) (q' : Nat) (bad' : Bool), IsI w' x z 4000 ∧ Rb w' p s q' bad' ∧ q' ≤ s.size ∧ (bad' = false → bad = false ∧ ∃ tk l, Rem s a (tk ++ l) ∧ Stops l ∧ Tok tk z ∧ q' = a + tk.length)
set_option maxRecDepth 100000 in
set_option maxHeartbeats 4000000 in
theorem entry_any (p : Nat) (s : ByteArray) (a : Nat) (bad : Bool) (w : World) (h : Rb w p s a bad) (ha : a ≤ s.size) (hs : s.size ≤ 4000) :
 Calls Tryz.prog 89 #[.pointer (some ⟨p, 0, none⟩)] w fun e w' => ∃ x, e = .returned x ∧ EntOut p s a bad w' x ∧ Fr p w w' := by
 have H := Hid.mk h
 have hpl := h.lt
 clear h
 go_enter Tryz.func89, Tryz.ntmps89
 go_wp2_with fail
 refine (sees_any p s a bad 45 _ (H.out.below ((Below.refl _ _).alloc (Nat.le_refl _) _)) ha (by omega)).mono ?_
 rintro e w' ⟨⟨b, rfl, hb1, hb2⟩, n, rfl⟩
 have HB := Hid.mk (And.intro hb1 hb2)
 clear hb1 hb2
 obtain ⟨X, hX⟩ : ∃ X, X = (w.alloc (.cells #[.bool false, .slice none 0 0] 79)).drewN n := ⟨_, rfl⟩
 have hT0 : Two X w.heap.size (.bool false) (.slice none 0 0) := by rw [hX]; exact Two.new w _ _ rfl
 have hF0 : Fr p w X := by rw [hX]; exact Fr.of_below (below_drewN ((Below.refl _ _).alloc (Nat.le_refl _) _) _)
 have hR0 : Rb X p s a bad := by rw [hX]; exact H.out.below (below_drewN ((Below.refl _ _).alloc (Nat.le_refl _) _) _)
 obtain ⟨c0, c1, c2, c3, c4⟩ := hR0.cells
 rw [← hX]
 have H0 := Hid.mk (And.intro hT0 (And.intro hF0 hR0))
 clear hT0 hF0 hR0 hX
 cases b
 ·obtain ⟨ds, l, hsp, hdg, hst⟩ := split_digs (s.data.toList.drop a)
  have hrem : Rem s a (ds ++ l) := ⟨ha, hsp⟩
  have htl : ds.length ≤ s.size := by have := hrem.app.1; omega
  have HD := Hid.mk (And.intro hrem (And.intro hdg hst))
  clear hsp hdg hst hrem
  go_wp2_with fail
  refine (digits_any p s a bad ds l _ H0.out.2.2 HD.out.1 (by omega) HD.out.2.1 HD.out.2.2).mono ?_
  rintro e w2 ⟨rfl, ⟨bad2, hR2, hb2⟩, hF2⟩
  have hT2 := H0.out.1.fr hF2 (by omega)
  have hF2' := H0.out.2.1.trans hF2
  have H2 := Hid.mk (And.intro hT2 (And.intro hF2' (And.intro hR2 hb2)))
  clear H0 hT2 hF2 hR2 hF2' hb2 c0 c1 c2 c3 c4
  go_wp2_with fail
  refine (fromDigits_any ⟨ds.toArray⟩ _ (by show ds.toArray.size ≤ 4000; simp; omega) (by simpa using HD.out.2.1)).mono ?_
  rintro e w3 ⟨x, rfl, hx, hb3⟩
  obtain ⟨nb, bo, m, ecap, rfl⟩ := hx.shape
  have hT3 := H2.out.1.below hb3
  obtain ⟨t1, t2, t3, t4⟩ := hT3.cells
  have H3 := Hid.mk (And.intro hT3 (And.intro (H2.out.2.1.trans (Fr.of_below hb3)) (And.intro (H2.out.2.2.1.below hb3) (And.intro hx H2.out.2.2.2))))
  clear hT3 hx hb3 H2
  go_wp2_with fail
  refine bodyPost_ret (v := .agg #[.bool nb, .slice bo m ecap]) ?_ rfl ?_
  ·(simp [results, Tryz.results89, go_sem, t1, t2]; done)
  ·obtain ⟨hT3, hF3, hR3, hx, hb⟩ := H3.out
   have hx' : IsI w3 (.agg #[.bool nb, .slice bo m ecap]) (decval ds) ds.length := hx
   refine ⟨_, rfl, ⟨(decval ds : Nat), a + ds.length, bad2, ?_, (hR3.setOther (by omega) _).setOther (by omega) _, HD.out.1.app.1, fun e => ⟨(hb e).1, ds, l, HD.out.1, HD.out.2.2, .inl ⟨(hb e).2, rfl⟩, rfl⟩⟩, (hF3.setNew (Nat.le_refl _) _).setNew (Nat.le_refl _) _⟩
   exact (hx'.keep (KU.setCell (KU.setCell (KU.refl _) hT3.ty (by decide) _) (hT3.ty.setCell _ _) (by decide) _)).mono (by omega)
 ·obtain ⟨l0, hl0⟩ := HB.out.1 rfl
  obtain ⟨hq, -, hr1⟩ := hl0.cons
  obtain ⟨ds, l, hsp, hdg, hst⟩ := split_digs l0
  rw [hsp] at hr1
  have hrem0 : Rem s a (45 :: (ds ++ l)) := by rw [← hsp]; exact hl0
  have htl : ds.length ≤ s.size := by have := hr1.app.1; omega
  have HD := Hid.mk (And.intro hr1 (And.intro hdg (And.intro hst hrem0)))
  clear hsp hdg hst hrem0 hr1 hl0
  go_wp2_with fail
  have M := H0.out.2.2.move (z := (a : Int) + 1) (q' := a + 1) (by omega) 0
  refine (digits_any p s (a + 1) bad ds l _ M.1 HD.out.1 (by omega) HD.out.2.1 HD.out.2.2.1).mono ?_
  rintro e w2 ⟨rfl, ⟨bad2, hR2, hb2⟩, hF2⟩
  have hT2 := (H0.out.1.fr M.2 (by omega)).fr hF2 (by omega)
  have hF2' := (H0.out.2.1.trans M.2).trans hF2
  have H2 := Hid.mk (And.intro hT2 (And.intro hF2' (And.intro hR2 hb2)))
  clear M c0 c1 c2 c3 c4
  obtain ⟨c0, c1, c2, c3, c4⟩ := hR2.cells
  clear H0 hT2 hF2 hR2 hF2' hb2
  by_cases hz : ds = [48]
  ·have hne : (ds == [48]) = true := beq_iff_eq.2 hz
   have HZ := Hid.mk hz
   clear hz
   go_wp2_with fail
   have F := H2.out.2.2.1.fault 0
   have H2b := Hid.mk (And.intro (H2.out.1.fr F.2 (by omega)) (And.intro (H2.out.2.1.trans F.2) F.1))
   refine (fromDigits_any ⟨ds.toArray⟩ _ (by show ds.toArray.size ≤ 4000; simp; omega) (by simpa using HD.out.2.1)).mono ?_
   rintro e w3 ⟨x, rfl, hx, hb3⟩
   have H3 := Hid.mk (And.intro (H2b.out.1.below hb3) (And.intro (H2b.out.2.1.trans (Fr.of_below hb3)) (And.intro (H2b.out.2.2.below hb3) hx)))
   clear hx hb3 H2 H2b F c0 c1 c2 c3 c4
   go_wp2_with fail
   refine (neg_any _ _ _ _ H3.out.2.2.2).mono ?_
   rintro e w4 ⟨y, rfl, hy, hb4⟩
   obtain ⟨nb, bo, m, ecap, rfl⟩ := hy.shape
   have hT4 := H3.out.1.below hb4
   obtain ⟨t1, t2, t3, t4⟩ := hT4.cells
   have H4 := Hid.mk (And.intro hT4 (And.intro (H3.out.2.1.trans (Fr.of_below hb4)) (And.intro (H3.out.2.2.1.below hb4) hy)))
   clear hT4 hy hb4 H3
   go_wp2_with fail
   refine bodyPost_ret (v := .agg #[.bool nb, .slice bo m ecap]) ?_ rfl ?_
   ·(simp [results, Tryz.results89, go_sem, t1, t2]; done)
   ·obtain ⟨hT3, hF3, hR3, hx⟩ := H4.out
    have hx' : IsI w4 (.agg #[.bool nb, .slice bo m ecap]) (-(decval ds : Int)) ds.length := hx
    exact ⟨_, rfl, ⟨_, _, true, (hx'.keep (KU.setCell (KU.setCell (KU.refl _) hT3.ty (by decide) _) (hT3.ty.setCell _ _) (by decide) _)).mono (by omega), (hR3.setOther (by omega) _).setOther (by omega) _, HD.out.1.app.1, (fun e => by cases e)⟩, (hF3.setNew (Nat.le_refl _) _).setNew (Nat.le_refl _) _⟩
  ·have hne : (ds == [48]) = false := beq_eq_false_iff_ne.2 hz
   have HZ := Hid.mk hz
   clear hz
   go_wp2_with fail
   refine (fromDigits_any ⟨ds.toArray⟩ _ (by show ds.toArray.size ≤ 4000; simp; omega) (by simpa using HD.out.2.1)).mono ?_
   rintro e w3 ⟨x, rfl, hx, hb3⟩
   have H3 := Hid.mk (And.intro (H2.out.1.below hb3) (And.intro (H2.out.2.1.trans (Fr.of_below hb3)) (And.intro (H2.out.2.2.1.below hb3) (And.intro hx H2.out.2.2.2))))
   clear hx hb3 H2 c0 c1 c2 c3 c4
   go_wp2_with fail
   refine (neg_any _ _ _ _ H3.out.2.2.2.1).mono ?_
   rintro e w4 ⟨y, rfl, hy, hb4⟩
   obtain ⟨nb, bo, m, ecap, rfl⟩ := hy.shape
   have hT4 := H3.out.1.below hb4
   obtain ⟨t1, t2, t3, t4⟩ := hT4.cells
   have H4 := Hid.mk (And.intro hT4 (And.intro (H3.out.2.1.trans (Fr.of_below hb4)) (And.intro (H3.out.2.2.1.below hb4) (And.intro hy H3.out.2.2.2.2))))
   clear hT4 hy hb4 H3
   go_wp2_with fail
   refine bodyPost_ret (v := .agg #[.bool nb, .slice bo m ecap]) ?_ rfl ?_
   ·(simp [results, Tryz.results89, go_sem, t1, t2]; done)
   ·obtain ⟨hT3, hF3, hR3, hx, hb⟩ := H4.out
    have hx' : IsI w4 (.agg #[.bool nb, .slice bo m ecap]) (-(decval ds : Int)) ds.length := hx
    exact ⟨_, rfl, ⟨_, _, bad2, (hx'.keep (KU.setCell (KU.setCell (KU.refl _) hT3.ty (by decide) _) (hT3.ty.setCell _ _) (by decide) _)).mono (by omega), (hR3.setOther (by omega) _).setOther (by omega) _, HD.out.1.app.1, fun e => ⟨(hb e).1, 45 :: ds, l, HD.out.2.2.2, HD.out.2.2.1, .inr ⟨ds, rfl, (hb e).2, HZ.out, rfl⟩, by rw [List.length_cons]; omega⟩⟩, (hF3.setNew (Nat.le_refl _) _).setNew (Nat.le_refl _) _⟩
open Go.RowKit
theorem wbody_snoc (c : Nat) (x : List UInt8) : ∀ (l : List (List UInt8)) (t : Nat), bodyT c t (l ++ [x]) = bodyT c t l ++ ((if 0 < t + l.length ∧ (t + l.length) % c = 0 then [59] else []) ++ (32 :: x))
 | [], t => by simp [bodyT]
 | a :: l, t => by
   have := wbody_snoc c x l (t + 1)
   rw [List.cons_append, bodyT, bodyT, this, List.length_cons, show t + 1 + l.length = t + (l.length + 1) from by omega]
   simp [List.append_assoc]
def matT (r c : Nat) (zs : List Int) : List UInt8 := Lib.decDigits r ++ (120 :: (Lib.decDigits c ++ (58 :: bodyT c 0 (zs.map Lib.itoa))))
def partT (r c : Nat) (zs : List Int) (n : Nat) : List UInt8 := Lib.decDigits r ++ (120 :: (Lib.decDigits c ++ (58 :: bodyT c 0 ((zs.take n).map Lib.itoa))))
theorem partT_next {r c : Nat} {zs : List Int} {i j : Nat} (hj : j < c) (hn : i * c + j < zs.length) :
 partT r c zs (i * c + j + 1) = partT r c zs (i * c + j) ++ ((if 0 < i ∧ j = 0 then [59] else []) ++ (32 :: Lib.itoa (zs.getD (i * c + j) 0))) := by
 unfold partT
 have e : (zs.take (i * c + j + 1)).map Lib.itoa = (zs.take (i * c + j)).map Lib.itoa ++ [Lib.itoa (zs.getD (i * c + j) 0)] := by
  rw [List.take_add_one, List.getElem?_eq_getElem hn, List.map_append]
  simp [List.getD, List.getElem?_eq_getElem hn]
 rw [e, wbody_snoc]
 have h1 : ((zs.take (i * c + j)).map Lib.itoa).length = i * c + j := by rw [List.length_map, List.length_take]; omega
 rw [h1, Nat.zero_add]
 have h2 : (0 < i * c + j ∧ (i * c + j) % c = 0) ↔ (0 < i ∧ j = 0) := by
  rw [show (i * c + j) % c = j from by rw [Nat.mul_comm, Nat.mul_add_mod, Nat.mod_eq_of_lt hj]]
  constructor
  ·rintro ⟨a, rfl⟩
   refine ⟨?_, rfl⟩
   rcases Nat.eq_zero_or_pos i with h | h
   ·subst h; simp at a
   ·exact h
  ·rintro ⟨a, rfl⟩
   have := Nat.mul_le_mul a (Nat.le_refl c)
   exact ⟨by omega, rfl⟩
 simp only [h2]
 simp [List.append_assoc]
theorem partT_all {r c : Nat} {zs : List Int} {n : Nat} (hn : zs.length ≤ n) : partT r c zs n = matT r c zs := by
 unfold partT matT; rw [List.take_of_length_le hn]
theorem wstr_app (a b : List UInt8) : (⟨a.toArray⟩ : ByteArray) ++ ⟨b.toArray⟩ = ⟨(a ++ b).toArray⟩ := by
 apply ByteArray.ext
 simp [ByteArray.data_append]
theorem dec_le2 (n : Nat) (h : n < 100) : (Lib.decDigits n).length ≤ 2 := by
 by_cases h1 : n < 10
 ·rw [Lib.decDigits_one h1]; simp
 ·rw [decDigits_big h1, Lib.decDigits_one (by omega)]; simp
theorem part0 (r c : Nat) (zs : List Int) : Value.string ((⟨(Lib.decDigits r).toArray⟩ : ByteArray) ++ ⟨#[120]⟩ ++ ⟨(Lib.decDigits c).toArray⟩ ++ ⟨#[58]⟩) = .string ⟨(partT r c zs 0).toArray⟩ := by
 rw [show (⟨#[120]⟩ : ByteArray) = ⟨[(120 : UInt8)].toArray⟩ from rfl, show (⟨#[58]⟩ : ByteArray) = ⟨[(58 : UInt8)].toArray⟩ from rfl, wstr_app, wstr_app, wstr_app]
 simp [partT, bodyT]
theorem wval0 (T D : List UInt8) : Value.string ((⟨T.toArray⟩ : ByteArray) ++ (⟨#[32]⟩ ++ ⟨D.toArray⟩)) = .string ⟨(T ++ ([] ++ (32 :: D))).toArray⟩ := by
 rw [show (⟨#[32]⟩ : ByteArray) = ⟨[(32 : UInt8)].toArray⟩ from rfl, wstr_app, wstr_app]; rfl
theorem wval1 (T D : List UInt8) : Value.string ((⟨T.toArray⟩ : ByteArray) ++ ⟨#[59]⟩ ++ (⟨#[32]⟩ ++ ⟨D.toArray⟩)) = .string ⟨(T ++ ([59] ++ (32 :: D))).toArray⟩ := by
 rw [show (⟨#[32]⟩ : ByteArray) = ⟨[(32 : UInt8)].toArray⟩ from rfl, show (⟨#[59]⟩ : ByteArray) = ⟨[(59 : UInt8)].toArray⟩ from rfl, wstr_app, wstr_app, wstr_app]
 simp
theorem rret_w {s t : List UInt8} (h : s = t) : Ending.returned (.string ⟨s.toArray⟩) = .returned (.string ⟨t.toArray⟩) := by rw [h]
set_option maxHeartbeats 1000000 in
theorem rows_raw (r c : Int) (ao : Option Addr) (n cap : Nat) (w : World) :
 Calls Tryz.prog 85 #[.agg #[.int .i64 r, .int .i64 c, .slice ao n cap]] w fun e w' => e = .returned (.int .i64 r) ∧ w' = w.alloc (.cells #[.int .i64 r, .int .i64 c, .slice ao n cap] 66) := by
 go_enter Tryz.func85, Tryz.ntmps85
 go_wp2
 go_ret
 exact ⟨rfl, rfl⟩
set_option maxHeartbeats 1000000 in
theorem cols_raw (r c : Int) (ao : Option Addr) (n cap : Nat) (w : World) :
 Calls Tryz.prog 84 #[.agg #[.int .i64 r, .int .i64 c, .slice ao n cap]] w fun e w' => e = .returned (.int .i64 c) ∧ w' = w.alloc (.cells #[.int .i64 r, .int .i64 c, .slice ao n cap] 66) := by
 go_enter Tryz.func84, Tryz.ntmps84
 go_wp2
 go_ret
 exact ⟨rfl, rfl⟩
theorem itoa_len {w : World} {v : Value} {z : Int} {L : Nat} (h : IsI w v z L) (hL : L ≤ 200000000) : (Lib.itoa z).length ≤ 2400000001 := by
 obtain ⟨sl, xs, -, h2, h3, h4, -⟩ := h
 have hn : Lib.nDigits z.natAbs ≤ 2400000000 := by
  rw [← h3]
  have := nDigits_limbs h2.1
  omega
 rcases Int.lt_or_le z 0 with hz | hz
 ·have e : z = -((z.natAbs : Nat) : Int) := by omega
  rw [e, Lib.itoa_neg _ (by omega), List.length_cons, Lib.decDigits_length]; omega
 ·have e : z = ((z.natAbs : Nat) : Int) := by omega
  rw [e, Lib.itoa_nonneg, Lib.decDigits_length]; omega
def MBox (w : World) (b : Nat) (r c : Int) (sl : Value) : Prop := w.heap[b]? = some (.cells #[.int .i64 r, .int .i64 c, sl] 66 (0, 0))
theorem MBox.new (w : World) (r c : Int) (sl : Value) {b : Nat} (hb : b = w.heap.size) : MBox (w.alloc (.cells #[.int .i64 r, .int .i64 c, sl] 66)) b r c sl := by rw [hb]; exact heap_alloc_new w _
theorem MBox.below {B : Nat} {w w' : World} {b : Nat} {r c : Int} {sl : Value} (h : MBox w b r c sl) (hb : Below B w w') (hB : b < B) : MBox w' b r c sl := by unfold MBox; rw [hb.block b hB]; exact h
theorem MBox.cells {w : World} {b : Nat} {r c : Int} {sl : Value} (h : MBox w b r c sl) : w.cell? ⟨b, 0, none⟩ = some (.int .i64 r) ∧ w.cell? ⟨b, 1, none⟩ = some (.int .i64 c) ∧ w.cell? ⟨b, 2, none⟩ = some sl ∧ (∀ j, w.frozen? ⟨b, j, none⟩ = false) := by
 unfold MBox at h
 refine ⟨?_, ?_, ?_, fun j => ?_⟩ <;> simp [World.cell?, World.frozen?, h]
end Go.Proofs.YtfjbijpagaipnabGreatDoor
