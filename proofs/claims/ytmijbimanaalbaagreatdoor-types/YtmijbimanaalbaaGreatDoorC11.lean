import Derived.Test.YtmijbimanaalbaaGreatDoorC05
import Derived.Test.YtmijbimanaalbaaGreatDoorC06
import Derived.Test.YtmijbimanaalbaaGreatDoorC07
import Derived.Test.YtmijbimanaalbaaGreatDoorC10
import Derived.Deep.LoopGhost
/- notation.reader: sees, want, digits, where the text goes on as it should. -/
namespace Go.Proofs.YtmijbimanaalbaaGreatDoor
open Go.RowKit

/-- The reader at block p: the text s, at place q, no fault. -/
def Rd (w : World) (p : Nat) (s : ByteArray) (q : Nat) : Prop := w.heap[p]? = some (.cells #[.string s, .int .i64 q, .bool false] 157 (0, 0))
/-- Nothing has turned but the reader's own block. -/
def Fr (p : Nat) (w w' : World) : Prop := w.grownBy w' (some p) ∧ KT w w'
theorem Fr.refl (p : Nat) (w : World) : Fr p w w := ⟨World.grownBy.refl _ _, KT.refl _⟩
theorem Fr.trans {p : Nat} {a b c : World} (h : Fr p a b) (k : Fr p b c) : Fr p a c := ⟨grown_trans h.1 k.1, h.2.trans k.2⟩
theorem Fr.of_below {p : Nat} {w w' : World} (h : Below w.heap.size w w') : Fr p w w' := ⟨grown_below (World.grownBy.refl _ _) h, KT.of_below h⟩
theorem Rd.lt {w : World} {p : Nat} {s : ByteArray} {q : Nat} (h : Rd w p s q) : p < w.heap.size := (Array.getElem?_eq_some_iff.1 h).1
theorem Rd.ty {w : World} {p : Nat} {s : ByteArray} {q : Nat} (h : Rd w p s q) : Ty w p 157 := ⟨_, _, h⟩
theorem Rd.below {w w' : World} {p : Nat} {s : ByteArray} {q : Nat} (h : Rd w p s q) (hb : Below w.heap.size w w') : Rd w' p s q := by unfold Rd; rw [hb.block p h.lt]; exact h
theorem Rd.cells {w : World} {p : Nat} {s : ByteArray} {q : Nat} (h : Rd w p s q) : w.cell? ⟨p, 0, none⟩ = some (.string s) ∧ w.cell? ⟨p, 1, none⟩ = some (.int .i64 q) ∧ w.cell? ⟨p, 2, none⟩ = some (.bool false) ∧ w.frozen? ⟨p, 1, none⟩ = false ∧ w.frozen? ⟨p, 2, none⟩ = false := by
  unfold Rd at h
  refine ⟨?_, ?_, ?_, ?_, ?_⟩ <;> simp [World.cell?, World.frozen?, h]
/-- The place is moved on. -/
theorem Rd.move {w : World} {p : Nat} {s : ByteArray} {q : Nat} (h : Rd w p s q) {z : Int} {q' : Nat} (hz : z = q') (n : Nat) : Rd ((w.setCell ⟨p, 1, none⟩ (.int .i64 z)).drewN n) p s q' ∧ Fr p w ((w.setCell ⟨p, 1, none⟩ (.int .i64 z)).drewN n) := by
  subst hz
  refine ⟨?_, ⟨rfl, rfl, rfl, by simp [World.setCell], fun k _ hne => ?_⟩, ?_⟩
  · show (w.setCell ⟨p, 1, none⟩ (.int .i64 q')).heap[p]? = _
    rw [heap_setCell_same _ _ _ _ _ _ h]
    simp
  · show (w.setCell ⟨p, 1, none⟩ (.int .i64 q')).heap[k]? = _
    rw [Below.heap_setCell _ _ _ _ (fun e => hne (by simp [e]))]
  · exact KT.setCell (KT.refl _) h.ty (by decide) (by decide) _
/-- What of the text is still to come. -/
def Rem (s : ByteArray) (q : Nat) (l : List UInt8) : Prop := q ≤ s.size ∧ s.data.toList.drop q = l
theorem Rem.cons {s : ByteArray} {q : Nat} {c : UInt8} {l : List UInt8} (h : Rem s q (c :: l)) : ∃ hq : q < s.size, s[q]'hq = c ∧ Rem s (q + 1) l := by
  obtain ⟨h1, h2⟩ := h
  have hq : q < s.data.toList.length := by
    rcases Nat.lt_or_ge q s.data.toList.length with h3 | h3
    · exact h3
    · rw [List.drop_eq_nil_of_le h3] at h2; cases h2
  rw [List.drop_eq_getElem_cons hq] at h2
  injection h2 with e1 e2
  have hq' : q < s.size := by simpa using hq
  exact ⟨hq', e1, by omega, e2⟩
theorem Rem.nil {s : ByteArray} {q : Nat} (h : Rem s q []) : q = s.size := by
  obtain ⟨h1, h2⟩ := h
  have := List.drop_eq_nil_iff.1 h2
  have h3 : s.data.toList.length = s.size := by simp
  omega
theorem Rem.app {s : ByteArray} {q : Nat} {a l : List UInt8} (h : Rem s q (a ++ l)) : Rem s (q + a.length) l := by
  induction a generalizing q with
  | nil => simpa using h
  | cons x r ih =>
    obtain ⟨_, _, h3⟩ := h.cons
    have := ih h3
    rwa [List.length_cons, show q + (r.length + 1) = q + 1 + r.length from by omega]

set_option maxRecDepth 100000 in
set_option maxHeartbeats 1000000 in
/-- sees: the byte that comes is c, or another. -/
theorem sees_some (p : Nat) (s : ByteArray) (q : Nat) (c : Int) (x : UInt8) (l : List UInt8) (w : World) (h : Rd w p s q) (hr : Rem s q (x :: l)) (_hs : s.size ≤ 4611686018427387904) :
    Calls Tryz.prog 185 #[.pointer (some ⟨p, 0, none⟩), .int .u8 c] w fun e w' => e = .returned (.bool ((x.toNat : Int) == c)) ∧ ∃ n, w' = w.drewN n := by
  obtain ⟨hq, hx, -⟩ := hr.cons
  obtain ⟨c0, c1, c2, -, -⟩ := h.cells
  have hx' : (s[q]'hq).toNat = x.toNat := by rw [hx]
  have hqi : (q : Int) < (s.size : Int) := by omega
  clear h hr hx
  go_enter Tryz.func185, Tryz.ntmps185
  go_wp2_with fail
  go_quiet (fail)
  go_wp2_with fail
  go_ret
  exact ⟨rfl, _, rfl⟩

set_option maxRecDepth 100000 in
set_option maxHeartbeats 1000000 in
theorem want_ok (p : Nat) (s : ByteArray) (q : Nat) (c : Int) (x : UInt8) (l : List UInt8) (w : World) (h : Rd w p s q) (hr : Rem s q (x :: l)) (hs : s.size ≤ 4611686018427387904) (hc : (x.toNat : Int) = c) :
    Calls Tryz.prog 136 #[.pointer (some ⟨p, 0, none⟩), .int .u8 c] w fun e w' => e = .returned (.tuple #[]) ∧ Rd w' p s (q + 1) ∧ Fr p w w' := by
  obtain ⟨hq, -, -⟩ := hr.cons
  obtain ⟨c0, c1, c2, c3, c4⟩ := h.cells
  have hb : ((x.toNat : Int) == c) = true := beq_iff_eq.2 hc
  have H := Hid.mk h
  have HR := Hid.mk hr
  clear h hr hc
  go_enter Tryz.func136, Tryz.ntmps136
  go_wp2_with fail
  refine (sees_some p s q c x l _ H.out HR.out hs).mono ?_
  rintro e w' ⟨rfl, n, rfl⟩
  rw [hb]
  go_wp2_with fail
  refine bodyPost_ret (v := .tuple #[]) ?_ rfl ?_
  · (simp [results, Tryz.results136, go_sem]; done)
  · exact ⟨rfl, H.out.move (by omega) n⟩

/-- A run of digits that is a number as it is written. -/
def Run (ds : List UInt8) : Prop := ds ≠ [] ∧ Digs ds ∧ (ds.length = 1 ∨ ∃ d r, ds = d :: r ∧ d.toNat ≠ 48)
/-- What follows a run: nothing, or no digit. -/
def Stops (l : List UInt8) : Prop := l = [] ∨ ∃ c r, l = c :: r ∧ (c.toNat < 48 ∨ 57 < c.toNat)
theorem Rem.dig {s : ByteArray} {q : Nat} {ds l : List UInt8} (h : Rem s q (ds ++ l)) (k : Nat) (hk : k < ds.length) : ∃ hq : q + k < s.size, s[q + k]'hq = ds[k] := by
  induction ds generalizing q k with
  | nil => simp at hk
  | cons x r ih =>
    obtain ⟨h1, h2, h3⟩ := h.cons
    match k, hk with
    | 0, _ => exact ⟨h1, h2⟩
    | k + 1, hk =>
      obtain ⟨h4, h5⟩ := ih h3 k (by simpa using hk)
      have e : q + (k + 1) = q + 1 + k := by omega
      refine ⟨by omega, ?_⟩
      simp only [List.getElem_cons_succ, ← h5]
      congr 1
theorem Rem.cut {s : ByteArray} {q : Nat} {ds l : List UInt8} (h : Rem s q (ds ++ l)) : s.extract q (q + ds.length) = ⟨ds.toArray⟩ := by
  apply ByteArray.ext
  obtain ⟨h1, h2⟩ := h
  have h3 : (s.extract q (q + ds.length)).data.toList = ds := by
    rw [ByteArray.data_extract, Array.toList_extract, List.extract_eq_take_drop, h2, Nat.add_sub_cancel_left, List.take_left]
  show (s.extract q (q + ds.length)).data = ds.toArray
  rw [← Array.toArray_toList (xs := (s.extract q (q + ds.length)).data), h3]

set_option maxRecDepth 100000 in
set_option maxHeartbeats 2000000 in
theorem digits_ok (p : Nat) (s : ByteArray) (a : Nat) (ds l : List UInt8) (w : World) (h : Rd w p s a) (hr : Rem s a (ds ++ l)) (hs : s.size ≤ 4611686018427387904) (hd : Run ds) (hl : Stops l) :
    Calls Tryz.prog 184 #[.pointer (some ⟨p, 0, none⟩)] w fun e w' => e = .returned (.string ⟨ds.toArray⟩) ∧ Rd w' p s (a + ds.length) ∧ Fr p w w' := by
  have H := Hid.mk h
  have HR := Hid.mk hr
  have HD := Hid.mk hd
  have HL := Hid.mk hl
  obtain ⟨c0, c1, c2, c3, c4⟩ := h.cells
  clear h hr hd hl
  go_enter Tryz.func184, Tryz.ntmps184
  go_wp2_with fail
  go_loopg [] ds.length (fun g wr => ∃ k q : Nat, k ≤ ds.length ∧ Rd wr p s q ∧ Fr p w wr ∧ Hid (q = a + k ∧ g = ds.length - k))
  case atStart => exact ⟨0, a, Nat.zero_le _, H.out, Fr.refl _ _, Hid.mk ⟨rfl, rfl⟩⟩
  case round =>
    clear c0 c1 c2 c3 c4
    obtain ⟨k, q, hk, hrd, hfr, HI⟩ := hrel
    obtain ⟨c0, c1, c2, c3, c4⟩ := hrd.cells
    have HRD := Hid.mk hrd
    have HFR := Hid.mk hfr
    clear hrd hfr
    by_cases hkd : k < ds.length
    · obtain ⟨hq0, hx⟩ := HR.out.dig k hkd
      have hq : q < s.size := by rw [HI.out.1]; exact hq0
      have hd := HD.out.2.1 _ (List.getElem_mem hkd)
      have hxq : s[q]'hq = ds[k] := by rw [← hx]; congr 1; exact HI.out.1
      rw [← hxq] at hd
      have d1 : (48 : Int) ≤ ((s[q]'hq).toNat : Int) := by omega
      have d2 : ((s[q]'hq).toNat : Int) ≤ 57 := by omega
      have hqi : (q : Int) < (s.size : Int) := by omega
      clear hd hxq hx hq0
      go_wp2_with fail
      go_quiet (fail)
      go_wp2_with fail
      go_roundg (ds.length - (k + 1))
      case measure => have := HI.out.2; omega
      case rel =>
        have M := HRD.out.move (q' := q + 1) (z := (q : Int) + 1) (by omega) nq
        exact ⟨k + 1, q + 1, by omega, M.1, HFR.out.trans M.2, Hid.mk ⟨by have := HI.out.1; omega, rfl⟩⟩
    · have hkk : k = ds.length := by omega
      have hqq : q = a + ds.length := by rw [← hkk]; exact HI.out.1
      have HQ := Hid.mk hqq
      have hdl : 0 < ds.length := List.length_pos_iff.2 HD.out.1
      obtain ⟨rb, hrb⟩ : ∃ rb, s.extract a q = rb := ⟨_, rfl⟩
      have hrb2 : rb = ⟨ds.toArray⟩ := by rw [← hrb, hqq]; exact HR.out.cut
      have hrs : rb.size = ds.length := by rw [hrb2]; rfl
      have HRUN : Hid (rb.size = 1 ∨ (1 < rb.size ∧ ∃ hz : 0 < rb.size, ((rb[0]'hz).toNat == 48) = false)) := by
        refine Hid.mk ?_
        rcases HD.out.2.2 with h1 | ⟨d, r, h1, h2⟩
        · exact .inl (by omega)
        · by_cases h3 : rb.size = 1
          · exact .inl h3
          · refine .inr ⟨by omega, by omega, ?_⟩
            have h4 : rb[0]'(by omega) = d := by subst h1; subst hrb2; rfl
            rw [h4]
            exact beq_eq_false_iff_ne.2 h2
      have HRB := Hid.mk hrb2
      have hn1 : 1 ≤ rb.size := by omega
      have haq : a ≤ q := by omega
      have hqs : q ≤ s.size := by have := HR.out.app; rw [hqq]; exact this.1
      clear hrb2 hqq hkk hrs hkd
      rcases HL.out with hl | ⟨c, r, hl, hc⟩
      · have hd0 : decide (q < s.size) = false := by
          have h1 := HR.out.app
          rw [hl, ← HQ.out] at h1
          have := h1.nil
          simp; omega
        go_wp2_with fail
        go_quiet (fail)
        go_wp2_with fail
        go_quiet (fail)
        rcases HRUN.out with h1 | ⟨h1, h0⟩
        · have g1 : ((rb.size : Int) == 0) = false := beq_eq_false_iff_ne.2 (by omega)
          have g2 : decide (1 < (rb.size : Int)) = false := by simp; omega
          go_wp2_with fail
          go_ret
          exact ⟨ret_str HRB.out, by rw [← HQ.out]; exact HRD.out.below (below_drewN (Below.refl _ _) _), HFR.out.trans (Fr.of_below (below_drewN (Below.refl _ _) _))⟩
        · have g1 : ((rb.size : Int) == 0) = false := beq_eq_false_iff_ne.2 (by omega)
          have g2 : (1 : Int) < (rb.size : Int) := by omega
          obtain ⟨hz, g3⟩ := h0
          go_wp2_with fail
          go_ret
          exact ⟨ret_str HRB.out, by rw [← HQ.out]; exact HRD.out.below (below_drewN (Below.refl _ _) _), HFR.out.trans (Fr.of_below (below_drewN (Below.refl _ _) _))⟩
      · have h1 := HR.out.app
        rw [hl, ← HQ.out] at h1
        obtain ⟨hq, hx, -⟩ := h1.cons
        have hxc : (s[q]'hq).toNat = c.toNat := by rw [hx]
        have hqi : (q : Int) < (s.size : Int) := by omega
        rcases hc with hc | hc
        · have e1 : decide ((48 : Int) ≤ ((s[q]'hq).toNat : Int)) = false := by rw [hxc]; simp; omega
          have e2 : decide (48 ≤ (s[q]'hq).toNat) = false := by rw [hxc]; simp; omega
          clear hxc hx h1 hc
          go_wp2_with fail
          go_quiet (fail)
          go_wp2_with fail
          go_quiet (fail)
          rcases HRUN.out with h1 | ⟨h1, h0⟩
          · have g1 : ((rb.size : Int) == 0) = false := beq_eq_false_iff_ne.2 (by omega)
            have g2 : decide (1 < (rb.size : Int)) = false := by simp; omega
            go_wp2_with fail
            go_ret
            exact ⟨ret_str HRB.out, by rw [← HQ.out]; exact HRD.out.below (below_drewN (Below.refl _ _) _), HFR.out.trans (Fr.of_below (below_drewN (Below.refl _ _) _))⟩
          · have g1 : ((rb.size : Int) == 0) = false := beq_eq_false_iff_ne.2 (by omega)
            have g2 : (1 : Int) < (rb.size : Int) := by omega
            obtain ⟨hz, g3⟩ := h0
            go_wp2_with fail
            go_ret
            exact ⟨ret_str HRB.out, by rw [← HQ.out]; exact HRD.out.below (below_drewN (Below.refl _ _) _), HFR.out.trans (Fr.of_below (below_drewN (Below.refl _ _) _))⟩
        · have d1 : (48 : Int) ≤ ((s[q]'hq).toNat : Int) := by rw [hxc]; omega
          have e1 : decide (((s[q]'hq).toNat : Int) ≤ 57) = false := by rw [hxc]; simp; omega
          have e2 : decide ((s[q]'hq).toNat ≤ 57) = false := by rw [hxc]; simp; omega
          clear hxc hx h1 hc
          go_wp2_with fail
          go_quiet (fail)
          go_wp2_with fail
          go_quiet (fail)
          rcases HRUN.out with h1 | ⟨h1, h0⟩
          · have g1 : ((rb.size : Int) == 0) = false := beq_eq_false_iff_ne.2 (by omega)
            have g2 : decide (1 < (rb.size : Int)) = false := by simp; omega
            go_wp2_with fail
            go_ret
            exact ⟨ret_str HRB.out, by rw [← HQ.out]; exact HRD.out.below (below_drewN (Below.refl _ _) _), HFR.out.trans (Fr.of_below (below_drewN (Below.refl _ _) _))⟩
          · have g1 : ((rb.size : Int) == 0) = false := beq_eq_false_iff_ne.2 (by omega)
            have g2 : (1 : Int) < (rb.size : Int) := by omega
            obtain ⟨hz, g3⟩ := h0
            go_wp2_with fail
            go_ret
            exact ⟨ret_str HRB.out, by rw [← HQ.out]; exact HRD.out.below (below_drewN (Below.refl _ _) _), HFR.out.trans (Fr.of_below (below_drewN (Below.refl _ _) _))⟩
end Go.Proofs.YtmijbimanaalbaaGreatDoor

/- grid.Matrix.Det. -/
namespace Go.Proofs.YtmijbimanaalbaaGreatDoor
open Go.RowKit

def sumF : Nat → (Nat → Int) → Int
  | 0, _ => 0
  | k + 1, f => sumF k f + f k
def signed (c : Nat) (z : Int) : Int := if c % 2 = 1 then -z else z
def detF : Nat → (Nat → Nat → Int) → Int
  | 0, _ => 1
  | n + 1, f => sumF (n + 1) fun c => signed c (f 0 c * detF n fun i j => f (i + 1) (skip c j))
/-- zs holds the matrix f, of n rows and columns. -/
def Rep (n : Nat) (zs : List Int) (f : Nat → Nat → Int) : Prop := ∀ i j, i < n → j < n → zs.getD (i * n + j) 0 = f i j
theorem Rep.minor {n col : Nat} {zs ms : List Int} {f : Nat → Nat → Int} (h : Rep (n + 1) zs f) (hm : MinorOf (n + 1) (n + 1) col zs ms) : Rep n ms fun i j => f (i + 1) (skip col j) := by
  intro i j hi hj
  have := hm i j (by omega) (by omega)
  simp only [Nat.add_sub_cancel] at this
  rw [this]
  exact h (i + 1) (skip col j) (by omega) (by unfold skip; split <;> omega)
/-- How many limbs a determinant's number takes at the most. -/
def LD (L : Nat) : Nat → Nat
  | 0 => 2
  | n + 1 => L + LD L n + (n + 1)
theorem LD_mono (L : Nat) (n : Nat) : LD L n ≤ LD L (n + 1) := by rw [LD]; omega

/-- The boxes of Det's own: the matrix at b, the sum at d. -/
def Boxes (w : World) (b d r c : Nat) (sl : Value) (nb : Bool) (s : Value) : Prop :=
  w.cell? ⟨b, 0, none⟩ = some (.int .i64 r) ∧ w.cell? ⟨b, 1, none⟩ = some (.int .i64 c) ∧ w.cell? ⟨b, 2, none⟩ = some sl ∧ w.cell? ⟨d, 0, none⟩ = some (.bool nb) ∧ w.cell? ⟨d, 1, none⟩ = some s ∧
    w.frozen? ⟨d, 0, none⟩ = false ∧ w.frozen? ⟨d, 1, none⟩ = false
theorem Boxes.lt {w : World} {b d r c : Nat} {sl : Value} {nb : Bool} {s : Value} (h : Boxes w b d r c sl nb s) : b < w.heap.size ∧ d < w.heap.size := ⟨World.block_lt_of_cell? w _ h.1, World.block_lt_of_cell? w _ h.2.2.2.1⟩
theorem Boxes.below {w w' : World} {b d r c : Nat} {sl : Value} {nb : Bool} {s : Value} (h : Boxes w b d r c sl nb s) (hb : Below w.heap.size w w') : Boxes w' b d r c sl nb s := by
  have hl := h.lt.2
  obtain ⟨h1, h2, h3, h4, h5, h6, h7⟩ := h
  exact ⟨cell_later hb h1, cell_later hb h2, cell_later hb h3, cell_later hb h4, cell_later hb h5, by rw [hb.frozen (p := ⟨d, 0, none⟩) hl]; exact h6, by rw [hb.frozen (p := ⟨d, 1, none⟩) hl]; exact h7⟩
/-- The sum is written. -/
theorem Boxes.put {w : World} {b d r c : Nat} {sl : Value} {nb nb' : Bool} {s s' : Value} (h : Boxes w b d r c sl nb s) (hne : b ≠ d) : Boxes ((w.setCell ⟨d, 0, none⟩ (.bool nb')).setCell ⟨d, 1, none⟩ s') b d r c sl nb' s' := by
  obtain ⟨h1, h2, h3, h4, h5, h6, h7⟩ := h
  have o : ∀ i j : Nat, (⟨d, i, none⟩ : Addr) ≠ ⟨b, j, none⟩ := fun i j e => hne (by injection e with e1; exact e1.symm)
  have e0 : (w.setCell ⟨d, 0, none⟩ (.bool nb')).cell? ⟨d, 0, none⟩ = some (.bool nb') := World.cell?_setCell_same _ _ _ h4
  have e1 : (w.setCell ⟨d, 0, none⟩ (.bool nb')).cell? ⟨d, 1, none⟩ = some s := by rw [World.cell?_setCell_other _ _ _ _ (by simp)]; exact h5
  refine ⟨?_, ?_, ?_, ?_, ?_, by simpa using h6, by simpa using h7⟩
  · rw [World.cell?_setCell_other _ _ _ _ (o _ _), World.cell?_setCell_other _ _ _ _ (o _ _)]; exact h1
  · rw [World.cell?_setCell_other _ _ _ _ (o _ _), World.cell?_setCell_other _ _ _ _ (o _ _)]; exact h2
  · rw [World.cell?_setCell_other _ _ _ _ (o _ _), World.cell?_setCell_other _ _ _ _ (o _ _)]; exact h3
  · rw [World.cell?_setCell_other _ _ _ _ (by simp)]; exact e0
  · exact World.cell?_setCell_same _ _ _ e1

def DetSaid (n : Nat) : Prop := ∀ (v : Value) (zs : List Int) (f : Nat → Nat → Int) (L : Nat) (w : World), IsM w v n n zs L → Rep n zs f → LD L n ≤ 10000 → L ≤ 5000 →
    Calls Tryz.prog 208 #[v] w fun e w' => ∃ x, e = .returned x ∧ IntOut w w' x (detF n f) (LD L n)

set_option maxRecDepth 100000 in
set_option maxHeartbeats 2000000 in
theorem det_zero : DetSaid 0 := by
  intro v zs f L w hm hrep hl hL
  obtain ⟨_, _, sl, rfl, hg⟩ := hm
  obtain ⟨ao, cap, rfl, -⟩ := hg.shape
  clear hg
  go_enter Tryz.func208, Tryz.ntmps208
  go_wp2_with (first | (go_at_call 207; refine (isSquare_raw _ _ _ _ _ _).mono ?_; rintro e w' ⟨rfl, rfl⟩))
  refine (fromOne_any _).mono ?_
  rintro e w1 ⟨r, rfl, hr, hb⟩
  obtain ⟨nb, bo, n, ecap, rfl⟩ := hr.shape
  obtain ⟨hc, hf⟩ := bcell hb
  have hty : Ty w1 (w.heap.size + 1) 94 := Ty.below (Ty.alloc (Ty.at_ _ _ _ (by simp)) _) hb (by simp)
  have hz : w.heap.size + 2 < w1.heap.size := by have := hb.size; simp at this; omega
  have HT := Hid.mk hty
  have HR := Hid.mk hr
  have HB := Hid.mk hb
  clear hb hr hty
  go_wp2_with fail
  refine bodyPost_ret (v := .agg #[.bool nb, .slice bo n ecap]) ?_ rfl ?_
  · (simp [results, Tryz.results208, go_sem, hc]; done)
  · refine ⟨_, rfl, HR.out.keep (KU.setCell (KU.setCell (KU.refl _) HT.out (by decide) _) (HT.out.setCell _ _) (by decide) _), ?_⟩
    refine Below.setCell (Below.setCell ?_ (by simp) _) (by simp) _
    refine Below.trans ?_ (HB.out.mono (by simp <;> omega))
    repeat (first | exact Below.refl _ _ | refine Below.alloc ?_ (by simp <;> omega) _)
end Go.Proofs.YtmijbimanaalbaaGreatDoor
