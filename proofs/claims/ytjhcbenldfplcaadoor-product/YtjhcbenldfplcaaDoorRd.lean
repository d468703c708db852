/- notation.reader: sees, want, digits, where the text goes on as it should. -/
import Derived.Test.YtjhcbenldfplcaaDoorNoughts
import Derived.Test.YtjhcbenldfplcaaDoorMinor
import Derived.Test.YtjhcbenldfplcaaDoorDigits
import Derived.Test.YtjhcbenldfplcaaDoorDecimal
import Derived.Deep.LoopGhost
namespace Go.Proofs.YtjhcbenldfplcaaDoor
open Go.RowKit

/-- The reader at block p: the text s, at place q, no fault. -/
def Rd (w : World) (p : Nat) (s : ByteArray) (q : Nat) : Prop := w.heap[p]? = some (.cells #[.string s, .int .i64 q, .bool false] 82 (0, 0))
/-- Nothing has turned but the reader's own block. -/
def Fr (p : Nat) (w w' : World) : Prop := w.grownBy w' (some p) ∧ KT w w'
theorem Fr.refl (p : Nat) (w : World) : Fr p w w := ⟨World.grownBy.refl _ _, KT.refl _⟩
theorem Fr.trans {p : Nat} {a b c : World} (h : Fr p a b) (k : Fr p b c) : Fr p a c := ⟨grown_trans h.1 k.1, h.2.trans k.2⟩
theorem Fr.of_below {p : Nat} {w w' : World} (h : Below w.heap.size w w') : Fr p w w' := ⟨grown_below (World.grownBy.refl _ _) h, KT.of_below h⟩
theorem Rd.lt {w : World} {p : Nat} {s : ByteArray} {q : Nat} (h : Rd w p s q) : p < w.heap.size := (Array.getElem?_eq_some_iff.1 h).1
theorem Rd.ty {w : World} {p : Nat} {s : ByteArray} {q : Nat} (h : Rd w p s q) : Ty w p 82 := ⟨_, _, h⟩
theorem Rd.below {w w' : World} {p : Nat} {s : ByteArray} {q : Nat} (h : Rd w p s q) (hb : Below w.heap.size w w') : Rd w' p s q := by unfold Rd; rw [hb.block p h.lt]; exact h
theorem Rd.cells {w : World} {p : Nat} {s : ByteArray} {q : Nat} (h : Rd w p s q) : w.cell? ⟨p, 0, none⟩ = some (.string s) ∧ w.cell? ⟨p, 1, none⟩ = some (.int .i64 q) ∧ w.cell? ⟨p, 2, none⟩ = some (.bool false) ∧ w.frozen? ⟨p, 1, none⟩ = false ∧ w.frozen? ⟨p, 2, none⟩ = false := by
  unfold Rd at h
  refine ⟨?_, ?_, ?_, ?_, ?_⟩ <;> simp [World.cell?, World.frozen?, h]
/-- The place is moved on. -/
theorem Rd.move {w : World} {p : Nat} {s : ByteArray} {q : Nat} (h : Rd w p s q) {z : Int} {q' : Nat} (hz : z = q') (n : Nat) : Rd ((w.setCell ⟨p, 1, none⟩ (.int .i64 z)).drewN n) p s q' ∧ Fr p w ((w.setCell ⟨p, 1, none⟩ (.int .i64 z)).drewN n) := by
  subst hz
  refine ⟨?_, ⟨rfl, rfl, rfl, by simp [World.setCell], fun k _ hne => ?_⟩, ?_⟩
  · show (w.setCell ⟨p, 1, none⟩ (.int .i64 q')).heap[p]? = _
    rw [heap_setCell_same _ _ _ _ _ _ h]
    simp
  · show (w.setCell ⟨p, 1, none⟩ (.int .i64 q')).heap[k]? = _
    rw [Below.heap_setCell _ _ _ _ (fun e => hne (by simp [e]))]
  · exact KT.setCell (KT.refl _) h.ty (by decide) (by decide) _
/-- What of the text is still to come. -/
def Rem (s : ByteArray) (q : Nat) (l : List UInt8) : Prop := q ≤ s.size ∧ s.data.toList.drop q = l
theorem Rem.cons {s : ByteArray} {q : Nat} {c : UInt8} {l : List UInt8} (h : Rem s q (c :: l)) : ∃ hq : q < s.size, s[q]'hq = c ∧ Rem s (q + 1) l := by
  obtain ⟨h1, h2⟩ := h
  have hq : q < s.data.toList.length := by
    rcases Nat.lt_or_ge q s.data.toList.length with h3 | h3
    · exact h3
    · rw [List.drop_eq_nil_of_le h3] at h2; cases h2
  rw [List.drop_eq_getElem_cons hq] at h2
  injection h2 with e1 e2
  have hq' : q < s.size := by simpa using hq
  exact ⟨hq', e1, by omega, e2⟩
theorem Rem.nil {s : ByteArray} {q : Nat} (h : Rem s q []) : q = s.size := by
  obtain ⟨h1, h2⟩ := h
  have := List.drop_eq_nil_iff.1 h2
  have h3 : s.data.toList.length = s.size := by simp
  omega
theorem Rem.app {s : ByteArray} {q : Nat} {a l : List UInt8} (h : Rem s q (a ++ l)) : Rem s (q + a.length) l := by
  induction a generalizing q with
  | nil => simpa using h
  | cons x r ih =>
    obtain ⟨_, _, h3⟩ := h.cons
    have := ih h3
    rwa [List.length_cons, show q + (r.length + 1) = q + 1 + r.length from by omega]

set_option maxRecDepth 100000 in
set_option maxHeartbeats 1000000 in
/-- sees: the byte that comes is c, or another. -/
theorem sees_some (p : Nat) (s : ByteArray) (q : Nat) (c : Int) (x : UInt8) (l : List UInt8) (w : World) (h : Rd w p s q) (hr : Rem s q (x :: l)) (_hs : s.size ≤ 4611686018427387904) :
    Calls Tryd.prog 53 #[.pointer (some ⟨p, 0, none⟩), .int .u8 c] w fun e w' => e = .returned (.bool ((x.toNat : Int) == c)) ∧ ∃ n, w' = w.drewN n := by
  obtain ⟨hq, hx, -⟩ := hr.cons
  obtain ⟨c0, c1, c2, -, -⟩ := h.cells
  have hx' : (s[q]'hq).toNat = x.toNat := by rw [hx]
  have hqi : (q : Int) < (s.size : Int) := by omega
  clear h hr hx
  go_enter Tryd.func53, Tryd.ntmps53
  go_wp2_with fail
  go_quiet (fail)
  go_wp2_with fail
  go_ret
  exact ⟨rfl, _, rfl⟩

set_option maxRecDepth 100000 in
set_option maxHeartbeats 1000000 in
theorem want_ok (p : Nat) (s : ByteArray) (q : Nat) (c : Int) (x : UInt8) (l : List UInt8) (w : World) (h : Rd w p s q) (hr : Rem s q (x :: l)) (hs : s.size ≤ 4611686018427387904) (hc : (x.toNat : Int) = c) :
    Calls Tryd.prog 39 #[.pointer (some ⟨p, 0, none⟩), .int .u8 c] w fun e w' => e = .returned (.tuple #[]) ∧ Rd w' p s (q + 1) ∧ Fr p w w' := by
  obtain ⟨hq, -, -⟩ := hr.cons
  obtain ⟨c0, c1, c2, c3, c4⟩ := h.cells
  have hb : ((x.toNat : Int) == c) = true := beq_iff_eq.2 hc
  have H := Hid.mk h
  have HR := Hid.mk hr
  clear h hr hc
  go_enter Tryd.func39, Tryd.ntmps39
  go_wp2_with fail
  refine (sees_some p s q c x l _ H.out HR.out hs).mono ?_
  rintro e w' ⟨rfl, n, rfl⟩
  rw [hb]
  go_wp2_with fail
  refine bodyPost_ret (v := .tuple #[]) ?_ rfl ?_
  · (simp [results, Tryd.results39, go_sem]; done)
  · exact ⟨rfl, H.out.move (by omega) n⟩

/-- A run of digits that is a number as it is written. -/
def Run (ds : List UInt8) : Prop := ds ≠ [] ∧ Digs ds ∧ (ds.length = 1 ∨ ∃ d r, ds = d :: r ∧ d.toNat ≠ 48)
/-- What follows a run: nothing, or no digit. -/
def Stops (l : List UInt8) : Prop := l = [] ∨ ∃ c r, l = c :: r ∧ (c.toNat < 48 ∨ 57 < c.toNat)
theorem Rem.dig {s : ByteArray} {q : Nat} {ds l : List UInt8} (h : Rem s q (ds ++ l)) (k : Nat) (hk : k < ds.length) : ∃ hq : q + k < s.size, s[q + k]'hq = ds[k] := by
  induction ds generalizing q k with
  | nil => simp at hk
  | cons x r ih =>
    obtain ⟨h1, h2, h3⟩ := h.cons
    match k, hk with
    | 0, _ => exact ⟨h1, h2⟩
    | k + 1, hk =>
      obtain ⟨h4, h5⟩ := ih h3 k (by simpa using hk)
      have e : q + (k + 1) = q + 1 + k := by omega
      refine ⟨by omega, ?_⟩
      simp only [List.getElem_cons_succ, ← h5]
      congr 1
theorem Rem.cut {s : ByteArray} {q : Nat} {ds l : List UInt8} (h : Rem s q (ds ++ l)) : s.extract q (q + ds.length) = ⟨ds.toArray⟩ := by
  apply ByteArray.ext
  obtain ⟨h1, h2⟩ := h
  have h3 : (s.extract q (q + ds.length)).data.toList = ds := by
    rw [ByteArray.data_extract, Array.toList_extract, List.extract_eq_take_drop, h2, Nat.add_sub_cancel_left, List.take_left]
  show (s.extract q (q + ds.length)).data = ds.toArray
  rw [← Array.toArray_toList (xs := (s.extract q (q + ds.length)).data), h3]

set_option maxRecDepth 100000 in
set_option maxHeartbeats 2000000 in
theorem digits_ok (p : Nat) (s : ByteArray) (a : Nat) (ds l : List UInt8) (w : World) (h : Rd w p s a) (hr : Rem s a (ds ++ l)) (hs : s.size ≤ 4611686018427387904) (hd : Run ds) (hl : Stops l) :
    Calls Tryd.prog 52 #[.pointer (some ⟨p, 0, none⟩)] w fun e w' => e = .returned (.string ⟨ds.toArray⟩) ∧ Rd w' p s (a + ds.length) ∧ Fr p w w' := by
  have H := Hid.mk h
  have HR := Hid.mk hr
  have HD := Hid.mk hd
  have HL := Hid.mk hl
  obtain ⟨c0, c1, c2, c3, c4⟩ := h.cells
  clear h hr hd hl
  go_enter Tryd.func52, Tryd.ntmps52
  go_wp2_with fail
  go_loopg [] ds.length (fun g wr => ∃ k q : Nat, k ≤ ds.length ∧ Rd wr p s q ∧ Fr p w wr ∧ Hid (q = a + k ∧ g = ds.length - k))
  case atStart => exact ⟨0, a, Nat.zero_le _, H.out, Fr.refl _ _, Hid.mk ⟨rfl, rfl⟩⟩
  case round =>
    clear c0 c1 c2 c3 c4
    obtain ⟨k, q, hk, hrd, hfr, HI⟩ := hrel
    obtain ⟨c0, c1, c2, c3, c4⟩ := hrd.cells
    have HRD := Hid.mk hrd
    have HFR := Hid.mk hfr
    clear hrd hfr
    by_cases hkd : k < ds.length
    · obtain ⟨hq0, hx⟩ := HR.out.dig k hkd
      have hq : q < s.size := by rw [HI.out.1]; exact hq0
      have hd := HD.out.2.1 _ (List.getElem_mem hkd)
      have hxq : s[q]'hq = ds[k] := by rw [← hx]; congr 1; exact HI.out.1
      rw [← hxq] at hd
      have d1 : (48 : Int) ≤ ((s[q]'hq).toNat : Int) := by omega
      have d2 : ((s[q]'hq).toNat : Int) ≤ 57 := by omega
      have hqi : (q : Int) < (s.size : Int) := by omega
      clear hd hxq hx hq0
      go_wp2_with fail
      go_quiet (fail)
      go_wp2_with fail
      go_roundg (ds.length - (k + 1))
      case measure => have := HI.out.2; omega
      case rel =>
        have M := HRD.out.move (q' := q + 1) (z := (q : Int) + 1) (by omega) nq
        exact ⟨k + 1, q + 1, by omega, M.1, HFR.out.trans M.2, Hid.mk ⟨by have := HI.out.1; omega, rfl⟩⟩
    · have hkk : k = ds.length := by omega
      have hqq : q = a + ds.length := by rw [← hkk]; exact HI.out.1
      have HQ := Hid.mk hqq
      have hdl : 0 < ds.length := List.length_pos_iff.2 HD.out.1
      obtain ⟨rb, hrb⟩ : ∃ rb, s.extract a q = rb := ⟨_, rfl⟩
      have hrb2 : rb = ⟨ds.toArray⟩ := by rw [← hrb, hqq]; exact HR.out.cut
      have hrs : rb.size = ds.length := by rw [hrb2]; rfl
      have HRUN : Hid (rb.size = 1 ∨ (1 < rb.size ∧ ∃ hz : 0 < rb.size, ((rb[0]'hz).toNat == 48) = false)) := by
        refine Hid.mk ?_
        rcases HD.out.2.2 with h1 | ⟨d, r, h1, h2⟩
        · exact .inl (by omega)
        · by_cases h3 : rb.size = 1
          · exact .inl h3
          · refine .inr ⟨by omega, by omega, ?_⟩
            have h4 : rb[0]'(by omega) = d := by subst h1; subst hrb2; rfl
            rw [h4]
            exact beq_eq_false_iff_ne.2 h2
      have HRB := Hid.mk hrb2
      have hn1 : 1 ≤ rb.size := by omega
      have haq : a ≤ q := by omega
      have hqs : q ≤ s.size := by have := HR.out.app; rw [hqq]; exact this.1
      clear hrb2 hqq hkk hrs hkd
      rcases HL.out with hl | ⟨c, r, hl, hc⟩
      · have hd0 : decide (q < s.size) = false := by
          have h1 := HR.out.app
          rw [hl, ← HQ.out] at h1
          have := h1.nil
          simp; omega
        go_wp2_with fail
        go_quiet (fail)
        go_wp2_with fail
        go_quiet (fail)
        rcases HRUN.out with h1 | ⟨h1, h0⟩
        · have g1 : ((rb.size : Int) == 0) = false := beq_eq_false_iff_ne.2 (by omega)
          have g2 : decide (1 < (rb.size : Int)) = false := by simp; omega
          go_wp2_with fail
          go_ret
          exact ⟨ret_str HRB.out, by rw [← HQ.out]; exact HRD.out.below (below_drewN (Below.refl _ _) _), HFR.out.trans (Fr.of_below (below_drewN (Below.refl _ _) _))⟩
        · have g1 : ((rb.size : Int) == 0) = false := beq_eq_false_iff_ne.2 (by omega)
          have g2 : (1 : Int) < (rb.size : Int) := by omega
          obtain ⟨hz, g3⟩ := h0
          go_wp2_with fail
          go_ret
          exact ⟨ret_str HRB.out, by rw [← HQ.out]; exact HRD.out.below (below_drewN (Below.refl _ _) _), HFR.out.trans (Fr.of_below (below_drewN (Below.refl _ _) _))⟩
      · have h1 := HR.out.app
        rw [hl, ← HQ.out] at h1
        obtain ⟨hq, hx, -⟩ := h1.cons
        have hxc : (s[q]'hq).toNat = c.toNat := by rw [hx]
        have hqi : (q : Int) < (s.size : Int) := by omega
        rcases hc with hc | hc
        · have e1 : decide ((48 : Int) ≤ ((s[q]'hq).toNat : Int)) = false := by rw [hxc]; simp; omega
          have e2 : decide (48 ≤ (s[q]'hq).toNat) = false := by rw [hxc]; simp; omega
          clear hxc hx h1 hc
          go_wp2_with fail
          go_quiet (fail)
          go_wp2_with fail
          go_quiet (fail)
          rcases HRUN.out with h1 | ⟨h1, h0⟩
          · have g1 : ((rb.size : Int) == 0) = false := beq_eq_false_iff_ne.2 (by omega)
            have g2 : decide (1 < (rb.size : Int)) = false := by simp; omega
            go_wp2_with fail
            go_ret
            exact ⟨ret_str HRB.out, by rw [← HQ.out]; exact HRD.out.below (below_drewN (Below.refl _ _) _), HFR.out.trans (Fr.of_below (below_drewN (Below.refl _ _) _))⟩
          · have g1 : ((rb.size : Int) == 0) = false := beq_eq_false_iff_ne.2 (by omega)
            have g2 : (1 : Int) < (rb.size : Int) := by omega
            obtain ⟨hz, g3⟩ := h0
            go_wp2_with fail
            go_ret
            exact ⟨ret_str HRB.out, by rw [← HQ.out]; exact HRD.out.below (below_drewN (Below.refl _ _) _), HFR.out.trans (Fr.of_below (below_drewN (Below.refl _ _) _))⟩
        · have d1 : (48 : Int) ≤ ((s[q]'hq).toNat : Int) := by rw [hxc]; omega
          have e1 : decide (((s[q]'hq).toNat : Int) ≤ 57) = false := by rw [hxc]; simp; omega
          have e2 : decide ((s[q]'hq).toNat ≤ 57) = false := by rw [hxc]; simp; omega
          clear hxc hx h1 hc
          go_wp2_with fail
          go_quiet (fail)
          go_wp2_with fail
          go_quiet (fail)
          rcases HRUN.out with h1 | ⟨h1, h0⟩
          · have g1 : ((rb.size : Int) == 0) = false := beq_eq_false_iff_ne.2 (by omega)
            have g2 : decide (1 < (rb.size : Int)) = false := by simp; omega
            go_wp2_with fail
            go_ret
            exact ⟨ret_str HRB.out, by rw [← HQ.out]; exact HRD.out.below (below_drewN (Below.refl _ _) _), HFR.out.trans (Fr.of_below (below_drewN (Below.refl _ _) _))⟩
          · have g1 : ((rb.size : Int) == 0) = false := beq_eq_false_iff_ne.2 (by omega)
            have g2 : (1 : Int) < (rb.size : Int) := by omega
            obtain ⟨hz, g3⟩ := h0
            go_wp2_with fail
            go_ret
            exact ⟨ret_str HRB.out, by rw [← HQ.out]; exact HRD.out.below (below_drewN (Below.refl _ _) _), HFR.out.trans (Fr.of_below (below_drewN (Below.refl _ _) _))⟩
end Go.Proofs.YtjhcbenldfplcaaDoor
