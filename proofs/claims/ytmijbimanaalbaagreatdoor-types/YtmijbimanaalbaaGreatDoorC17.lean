import Derived.Test.YtmijbimanaalbaaGreatDoorC12
/- notation.reader: sees, want, digits, whatever the text. -/
namespace Go.Proofs.YtmijbimanaalbaaGreatDoor
open Go.RowKit

/-- The reader at block p: the text s, at place q, with or without a fault. -/
def Rb (w : World) (p : Nat) (s : ByteArray) (q : Nat) (bad : Bool) : Prop := w.heap[p]? = some (.cells #[.string s, .int .i64 q, .bool bad] 157 (0, 0))
theorem Rb.lt {w : World} {p : Nat} {s : ByteArray} {q : Nat} {bad : Bool} (h : Rb w p s q bad) : p < w.heap.size := (Array.getElem?_eq_some_iff.1 h).1
theorem Rb.ty {w : World} {p : Nat} {s : ByteArray} {q : Nat} {bad : Bool} (h : Rb w p s q bad) : Ty w p 157 := ⟨_, _, h⟩
theorem Rb.below {w w' : World} {p : Nat} {s : ByteArray} {q : Nat} {bad : Bool} (h : Rb w p s q bad) (hb : Below w.heap.size w w') : Rb w' p s q bad := by unfold Rb; rw [hb.block p h.lt]; exact h
theorem Rb.cells {w : World} {p : Nat} {s : ByteArray} {q : Nat} {bad : Bool} (h : Rb w p s q bad) : w.cell? ⟨p, 0, none⟩ = some (.string s) ∧ w.cell? ⟨p, 1, none⟩ = some (.int .i64 q) ∧ w.cell? ⟨p, 2, none⟩ = some (.bool bad) ∧ w.frozen? ⟨p, 1, none⟩ = false ∧ w.frozen? ⟨p, 2, none⟩ = false := by
  unfold Rb at h
  refine ⟨?_, ?_, ?_, ?_, ?_⟩ <;> simp [World.cell?, World.frozen?, h]
theorem Rb.frSet {w : World} {p : Nat} {s : ByteArray} {q : Nat} {bad : Bool} (h : Rb w p s q bad) (o : Nat) (u : Value) (n : Nat) : Fr p w ((w.setCell ⟨p, o, none⟩ u).drewN n) := by
  refine ⟨⟨rfl, rfl, rfl, by simp [World.setCell], fun k _ hne => ?_⟩, ?_⟩
  · show (w.setCell ⟨p, o, none⟩ u).heap[k]? = _
    rw [Below.heap_setCell _ _ _ _ (fun e => hne (by simp [e]))]
  · exact KT.setCell (KT.refl _) h.ty (by decide) (by decide) _
theorem Rb.move {w : World} {p : Nat} {s : ByteArray} {q : Nat} {bad : Bool} (h : Rb w p s q bad) {z : Int} {q' : Nat} (hz : z = q') (n : Nat) : Rb ((w.setCell ⟨p, 1, none⟩ (.int .i64 z)).drewN n) p s q' bad ∧ Fr p w ((w.setCell ⟨p, 1, none⟩ (.int .i64 z)).drewN n) := by
  subst hz
  refine ⟨?_, h.frSet _ _ _⟩
  show (w.setCell ⟨p, 1, none⟩ (.int .i64 q')).heap[p]? = _
  rw [heap_setCell_same _ _ _ _ _ _ h]
  simp
theorem Rb.fault {w : World} {p : Nat} {s : ByteArray} {q : Nat} {bad : Bool} (h : Rb w p s q bad) (n : Nat) : Rb ((w.setCell ⟨p, 2, none⟩ (.bool true)).drewN n) p s q true ∧ Fr p w ((w.setCell ⟨p, 2, none⟩ (.bool true)).drewN n) := by
  refine ⟨?_, h.frSet _ _ _⟩
  show (w.setCell ⟨p, 2, none⟩ (.bool true)).heap[p]? = _
  rw [heap_setCell_same _ _ _ _ _ _ h]
  simp
theorem Rb.setOther {w : World} {p b o : Nat} {s : ByteArray} {q : Nat} {bad : Bool} (h : Rb w p s q bad) (hne : b ≠ p) (u : Value) : Rb (w.setCell ⟨b, o, none⟩ u) p s q bad := by
  unfold Rb; rw [Below.heap_setCell _ _ _ _ (by simp; omega)]; exact h
/-- What is left of a text. -/
theorem Rem.rest (s : ByteArray) (q : Nat) (hq : q ≤ s.size) : Rem s q (s.data.toList.drop q) := ⟨hq, rfl⟩
/-- A run of digits, and what stops it. -/
theorem split_digs (l : List UInt8) : ∃ ds r, l = ds ++ r ∧ Digs ds ∧ Stops r := by
  induction l with
  | nil => exact ⟨[], [], rfl, (fun c hc => by cases hc), .inl rfl⟩
  | cons x t ih =>
    by_cases h : 48 ≤ x.toNat ∧ x.toNat ≤ 57
    · obtain ⟨ds, r, h1, h2, h3⟩ := ih
      refine ⟨x :: ds, r, by rw [h1]; rfl, fun c hc => ?_, h3⟩
      rcases List.mem_cons.1 hc with rfl | hc
      · exact h
      · exact h2 c hc
    · exact ⟨[], x :: t, rfl, (fun c hc => by cases hc), .inr ⟨x, t, rfl, by omega⟩⟩

set_option maxRecDepth 100000 in
set_option maxHeartbeats 1000000 in
theorem sees_any (p : Nat) (s : ByteArray) (q : Nat) (bad : Bool) (c : UInt8) (w : World) (h : Rb w p s q bad) (hq : q ≤ s.size) (_hs : s.size ≤ 4611686018427387904) :
    Calls Tryz.prog 185 #[.pointer (some ⟨p, 0, none⟩), .int .u8 (c.toNat : Nat)] w fun e w' => (∃ b, e = .returned (.bool b) ∧ (b = true → ∃ l, Rem s q (c :: l)) ∧ (b = false → ∀ l, ¬ Rem s q (c :: l))) ∧ ∃ n, w' = w.drewN n := by
  obtain ⟨c0, c1, c2, -, -⟩ := h.cells
  by_cases hlt : q < s.size
  · obtain ⟨x, hx⟩ : ∃ x, x = s[q]'hlt := ⟨_, rfl⟩
    have hx' : (s[q]'hlt).toNat = x.toNat := by rw [hx]
    have hqi : (q : Int) < (s.size : Int) := by omega
    have hrem : Rem s q (x :: s.data.toList.drop (q + 1)) := by
      refine ⟨hq, ?_⟩
      rw [List.drop_eq_getElem_cons (show q < s.data.toList.length from by simpa using hlt), hx]
      rfl
    have HR := Hid.mk hrem
    clear h hrem hx
    go_enter Tryz.func185, Tryz.ntmps185
    go_wp2_with fail
    go_quiet (fail)
    go_wp2_with fail
    go_ret
    refine ⟨⟨_, rfl, fun hb => ?_, fun hb l hl => ?_⟩, _, rfl⟩
    · have e : x = c := UInt8.toNat_inj.1 (by have := beq_iff_eq.1 hb; omega)
      rw [← e]; exact ⟨_, HR.out⟩
    · have h2 := HR.out.2
      rw [hl.2] at h2
      injection h2 with h2 _
      rw [h2] at hb
      simp at hb
  · have hd0 : decide (q < s.size) = false := by simp; omega
    have hd1 : decide ((q : Int) < (s.size : Int)) = false := by simp; omega
    have hqe : q = s.size := by omega
    have HQ := Hid.mk hqe
    clear h hlt hqe
    go_enter Tryz.func185, Tryz.ntmps185
    go_wp2_with fail
    go_quiet (fail)
    go_wp2_with fail
    go_ret
    refine ⟨⟨_, rfl, (fun hb => by cases hb), fun _ l hl => ?_⟩, _, rfl⟩
    obtain ⟨h1, -⟩ := hl.cons
    have := HQ.out
    omega

set_option maxRecDepth 100000 in
set_option maxHeartbeats 1000000 in
theorem want_any (p : Nat) (s : ByteArray) (q : Nat) (bad : Bool) (c : UInt8) (w : World) (h : Rb w p s q bad) (hq : q ≤ s.size) (hs : s.size ≤ 4611686018427387904) :
    Calls Tryz.prog 136 #[.pointer (some ⟨p, 0, none⟩), .int .u8 (c.toNat : Nat)] w fun e w' => e = .returned (.tuple #[]) ∧ (∃ q' bad', Rb w' p s q' bad' ∧ q' ≤ s.size ∧ (bad' = false → bad = false ∧ q' = q + 1 ∧ ∃ l, Rem s q (c :: l))) ∧ Fr p w w' := by
  obtain ⟨c0, c1, c2, c3, c4⟩ := h.cells
  have H := Hid.mk h
  clear h
  go_enter Tryz.func136, Tryz.ntmps136
  go_wp2_with fail
  refine (sees_any p s q bad c _ H.out hq hs).mono ?_
  rintro e w' ⟨⟨b, rfl, hb1, hb2⟩, n, rfl⟩
  have HB := Hid.mk (And.intro hb1 hb2)
  clear hb1 hb2
  cases b
  · go_wp2_with fail
    go_end0
    exact ⟨rfl, ⟨_, _, (H.out.fault n).1, hq, (fun e => by cases e)⟩, (H.out.fault n).2⟩
  · obtain ⟨l, hl⟩ := HB.out.1 rfl
    obtain ⟨hlt, -, -⟩ := hl.cons
    have HL := Hid.mk hl
    clear hl
    go_wp2_with fail
    refine bodyPost_ret (v := .tuple #[]) ?_ rfl ?_
    · (simp [results, Tryz.results136, go_sem]; done)
    · have M := H.out.move (q' := q + 1) (z := (q : Int) + 1) (by omega) n
      exact ⟨rfl, ⟨_, _, M.1, by omega, fun e => ⟨e, rfl, l, HL.out⟩⟩, M.2⟩

set_option maxRecDepth 100000 in
set_option maxHeartbeats 4000000 in
theorem digits_any (p : Nat) (s : ByteArray) (a : Nat) (bad : Bool) (ds l : List UInt8) (w : World) (h : Rb w p s a bad) (hr : Rem s a (ds ++ l)) (hs : s.size ≤ 4611686018427387904) (hd : Digs ds) (hl : Stops l) :
    Calls Tryz.prog 184 #[.pointer (some ⟨p, 0, none⟩)] w fun e w' => e = .returned (.string ⟨ds.toArray⟩) ∧ (∃ bad', Rb w' p s (a + ds.length) bad' ∧ (bad' = false → bad = false ∧ Run ds)) ∧ Fr p w w' := by
  have H := Hid.mk h
  have HR := Hid.mk hr
  have HD := Hid.mk hd
  have HL := Hid.mk hl
  obtain ⟨c0, c1, c2, c3, c4⟩ := h.cells
  clear h hr hd hl
  go_enter Tryz.func184, Tryz.ntmps184
  go_wp2_with fail
  go_loopg [] ds.length (fun g wr => ∃ k q : Nat, k ≤ ds.length ∧ Rb wr p s q bad ∧ Fr p w wr ∧ Hid (q = a + k ∧ g = ds.length - k))
  case atStart => exact ⟨0, a, Nat.zero_le _, H.out, Fr.refl _ _, Hid.mk ⟨rfl, rfl⟩⟩
  case round =>
    clear c0 c1 c2 c3 c4
    obtain ⟨k, q, hk, hrd, hfr, HI⟩ := hrel
    obtain ⟨c0, c1, c2, c3, c4⟩ := hrd.cells
    have HRD := Hid.mk hrd
    have HFR := Hid.mk hfr
    clear hrd hfr
    by_cases hkd : k < ds.length
    · obtain ⟨hq0, hx⟩ := HR.out.dig k hkd
      have hq : q < s.size := by rw [HI.out.1]; exact hq0
      have hd := HD.out _ (List.getElem_mem hkd)
      have hxq : s[q]'hq = ds[k] := by rw [← hx]; congr 1; exact HI.out.1
      rw [← hxq] at hd
      have d1 : (48 : Int) ≤ ((s[q]'hq).toNat : Int) := by omega
      have d2 : ((s[q]'hq).toNat : Int) ≤ 57 := by omega
      have hqi : (q : Int) < (s.size : Int) := by omega
      clear hd hxq hx hq0
      go_wp2_with fail
      go_quiet (fail)
      go_wp2_with fail
      go_roundg (ds.length - (k + 1))
      case measure => have := HI.out.2; omega
      case rel =>
        have M := HRD.out.move (q' := q + 1) (z := (q : Int) + 1) (by omega) nq
        exact ⟨k + 1, q + 1, by omega, M.1, HFR.out.trans M.2, Hid.mk ⟨by have := HI.out.1; omega, rfl⟩⟩
    · have hkk : k = ds.length := by omega
      have hqq : q = a + ds.length := by rw [← hkk]; exact HI.out.1
      have HQ := Hid.mk hqq
      obtain ⟨rb, hrb⟩ : ∃ rb, s.extract a q = rb := ⟨_, rfl⟩
      have hrb2 : rb = ⟨ds.toArray⟩ := by rw [← hrb, hqq]; exact HR.out.cut
      have hrs : rb.size = ds.length := by rw [hrb2]; rfl
      have HRUN : Hid ((rb.size = 0) ∨ (rb.size = 1 ∧ Run ds) ∨ (1 < rb.size ∧ ∃ hz : 0 < rb.size, ((rb[0]'hz).toNat == 48) = false ∧ Run ds) ∨ (1 < rb.size ∧ ∃ hz : 0 < rb.size, ((rb[0]'hz).toNat == 48) = true)) := by
        refine Hid.mk ?_
        cases hds : ds with
        | nil => exact .inl (by rw [hrs, hds]; rfl)
        | cons d r =>
          cases r with
          | nil => exact .inr (.inl ⟨by rw [hrs, hds]; rfl, by simp, by rw [← hds]; exact HD.out, .inl rfl⟩)
          | cons d2 r2 =>
            have h1 : 1 < rb.size := by rw [hrs, hds]; simp
            have h4 : rb[0]'(by omega) = d := by subst hds; subst hrb2; rfl
            by_cases h5 : d.toNat = 48
            · exact .inr (.inr (.inr ⟨h1, by omega, by rw [h4]; simp [h5]⟩))
            · exact .inr (.inr (.inl ⟨h1, by omega, by rw [h4]; exact beq_eq_false_iff_ne.2 h5, by simp, by rw [← hds]; exact HD.out, .inr ⟨d, d2 :: r2, rfl, h5⟩⟩))
      have HRB := Hid.mk hrb2
      have haq : a ≤ q := by omega
      have hqs : q ≤ s.size := by have := HR.out.app; rw [hqq]; exact this.1
      have hrbs : rb.size ≤ 4611686018427387904 := by rw [hrs]; omega
      clear hrb2 hqq hkk hrs hkd
      have hstop : decide (q < s.size) = false ∨ (∃ hq : q < s.size, (s[q]'hq).toNat < 48) ∨ (∃ hq : q < s.size, 48 ≤ (s[q]'hq).toNat ∧ 57 < (s[q]'hq).toNat) := by
        rcases HL.out with hl | ⟨c, r, hl, hc⟩
        · have h1 := HR.out.app
          rw [hl, ← HQ.out] at h1
          have := h1.nil
          exact .inl (by simp; omega)
        · have h1 := HR.out.app
          rw [hl, ← HQ.out] at h1
          obtain ⟨hq, hx, -⟩ := h1.cons
          rcases hc with hc | hc
          · exact .inr (.inl ⟨hq, by rw [hx]; exact hc⟩)
          · exact .inr (.inr ⟨hq, by rw [hx]; omega, by rw [hx]; exact hc⟩)
      rcases hstop with hd0 | ⟨hq, hx⟩ | ⟨hq, hx1, hx2⟩
      case' inr.inl =>
        have hqi : (q : Int) < (s.size : Int) := by omega
        have e1 : decide ((48 : Int) ≤ ((s[q]'hq).toNat : Int)) = false := by simp; omega
        have e2 : decide (48 ≤ (s[q]'hq).toNat) = false := by simp; omega
      case' inr.inr =>
        have hqi : (q : Int) < (s.size : Int) := by omega
        have d1 : (48 : Int) ≤ ((s[q]'hq).toNat : Int) := by omega
        have e1 : decide (((s[q]'hq).toNat : Int) ≤ 57) = false := by simp; omega
        have e2 : decide ((s[q]'hq).toNat ≤ 57) = false := by simp; omega
      all_goals
        go_wp2_with fail
        go_quiet (fail)
        go_wp2_with fail
        go_quiet (fail)
        rcases HRUN.out with h1 | ⟨h1, hrun⟩ | ⟨h1, hz, g3, hrun⟩ | ⟨h1, hz, g3⟩
        · have g1 : ((rb.size : Int) == 0) = true := beq_iff_eq.2 (by omega)
          go_wp2_with fail
          go_ret
          exact ⟨ret_str HRB.out, ⟨true, by rw [← HQ.out]; exact (HRD.out.fault _).1, (fun e => by cases e)⟩, HFR.out.trans (HRD.out.fault _).2⟩
        · have g1 : ((rb.size : Int) == 0) = false := beq_eq_false_iff_ne.2 (by omega)
          have g2 : decide (1 < (rb.size : Int)) = false := by simp; omega
          have HRN := Hid.mk hrun
          clear hrun
          go_wp2_with fail
          go_ret
          exact ⟨ret_str HRB.out, ⟨bad, by rw [← HQ.out]; exact HRD.out.below (below_drewN (Below.refl _ _) _), fun e => ⟨e, HRN.out⟩⟩, HFR.out.trans (Fr.of_below (below_drewN (Below.refl _ _) _))⟩
        · have g1 : ((rb.size : Int) == 0) = false := beq_eq_false_iff_ne.2 (by omega)
          have g2 : (1 : Int) < (rb.size : Int) := by omega
          have HRN := Hid.mk hrun
          clear hrun
          go_wp2_with fail
          go_ret
          exact ⟨ret_str HRB.out, ⟨bad, by rw [← HQ.out]; exact HRD.out.below (below_drewN (Below.refl _ _) _), fun e => ⟨e, HRN.out⟩⟩, HFR.out.trans (Fr.of_below (below_drewN (Below.refl _ _) _))⟩
        · have g1 : ((rb.size : Int) == 0) = false := beq_eq_false_iff_ne.2 (by omega)
          have g2 : (1 : Int) < (rb.size : Int) := by omega
          go_wp2_with fail
          go_ret
          exact ⟨ret_str HRB.out, ⟨true, by rw [← HQ.out]; exact (HRD.out.fault _).1, (fun e => by cases e)⟩, HFR.out.trans (HRD.out.fault _).2⟩
end Go.Proofs.YtmijbimanaalbaaGreatDoor
