import Derived.Test.YtmijbimanaalbaaGreatDoorC16
import Derived.Test.YtmijbimanaalbaaGreatDoorC19
import Derived.Test.YtmijbimanaalbaaGreatDoorC18
import Derived.Deep.CutRange
import Derived.Deep.RegionWith
/- matrices.Store: what it holds, as matrices. -/
namespace Go.Proofs.YtmijbimanaalbaaGreatDoor
open Go.RowKit

theorem IsM.keepT {w w' : World} {v : Value} {r c L : Nat} {zs : List Int} (h : IsM w v r c zs L) (hk : KT w w') : IsM w' v r c zs L := by
  obtain ⟨h0, h1, sl, h2, h3⟩ := h
  exact ⟨h0, h1, sl, h2, h3.keep hk⟩
/-- A matrix that is held: its handle, its sides, its entries. -/
abbrev Hm := Option (Nat × Nat × Nat × List Int)
/-- One slot holds that. -/
def SlotM (w : World) : Slt → Hm → Prop
  | none, none => True
  | some x, some y => x.1 = y.1 ∧ x.2.1 = y.2.1 ∧ x.2.2.1 = y.2.2.1 ∧ IsM w (.agg #[.int .i64 (x.2.1 : Nat), .int .i64 (x.2.2.1 : Nat), x.2.2.2]) y.2.1 y.2.2.1 y.2.2.2 4000
  | _, _ => False
/-- The store at block b holds the matrices ms; the next handle is nx. -/
def Held (w : World) (b : Nat) (ms : List Hm) (nx : Nat) : Prop := ms.length = 24 ∧ nx ≤ 1000000 ∧ ∃ sl, Sg w b sl nx ∧ ∀ i, i < 24 → SlotM w (sl.getD i none) (ms.getD i none)
theorem SlotM.keep {w w' : World} {x : Slt} {y : Hm} (h : SlotM w x y) (hk : KT w w') : SlotM w' x y := by
  cases x with
  | none => cases y <;> exact h
  | some x => cases y with
    | none => exact h
    | some y => exact ⟨h.1, h.2.1, h.2.2.1, h.2.2.2.keepT hk⟩
theorem Held.lt {w : World} {b : Nat} {ms : List Hm} {nx : Nat} (h : Held w b ms nx) : b < w.heap.size := h.2.2.choose_spec.1.lt
theorem Held.ty {w : World} {b : Nat} {ms : List Hm} {nx : Nat} (h : Held w b ms nx) : Ty w b 109 := h.2.2.choose_spec.1.ty
theorem Held.below {w w' : World} {b : Nat} {ms : List Hm} {nx : Nat} (h : Held w b ms nx) (hb : Below w.heap.size w w') : Held w' b ms nx := by
  obtain ⟨h0, hn, sl, h1, h2⟩ := h
  exact ⟨h0, hn, sl, h1.below hb, fun i hi => (h2 i hi).keep (KT.of_below hb)⟩
theorem Held.fr {w w' : World} {b p : Nat} {ms : List Hm} {nx : Nat} (h : Held w b ms nx) (hf : Fr p w w') (hne : b ≠ p) : Held w' b ms nx := by
  obtain ⟨h0, hn, sl, h1, h2⟩ := h
  exact ⟨h0, hn, sl, h1.fr hf hne, fun i hi => (h2 i hi).keep hf.2⟩
theorem SlotM.none_iff {w : World} {x : Slt} {y : Hm} (h : SlotM w x y) : x = none ↔ y = none := by
  cases x <;> cases y <;> simp_all [SlotM]
theorem SlotM.shape {w : World} {x : Nat × Nat × Nat × Value} {y : Hm} (h : SlotM w (some x) y) : ∃ ao n cap, x.2.2.2 = .slice ao n cap := by
  cases y with
  | none => exact h.elim
  | some y =>
    obtain ⟨-, -, -, -, -, sl, h2, h3⟩ := h
    obtain ⟨ao, cap, rfl, -⟩ := h3.shape
    simp only [Value.agg.injEq, Array.mk.injEq, List.cons.injEq, and_true] at h2
    exact ⟨ao, _, cap, h2.2.2⟩
theorem getD_past24 {sl : List Slt} (h : sl.length = 24) {k : Nat} {x : Nat × Nat × Nat × Value} (hx : sl.getD k none = some x) : k < 24 := by
  rcases Nat.lt_or_ge k 24 with h1 | h1
  · exact h1
  · rw [List.getD, List.getElem?_eq_none (by omega)] at hx; cases hx
theorem hm_set {ms : List Hm} {k i : Nat} {x : Hm} (hk : k < ms.length) : (ms.set k x).getD i none = if i = k then x else ms.getD i none := by
  by_cases h : i = k
  · subst h; simp [List.getD, hk]
  · have h' : ¬ k = i := fun e => h e.symm
    simp [List.getD, h, h']
/-- The first free place among the matrices. -/
def FreeAt (ms : List Hm) (i : Nat) : Prop := i < 24 ∧ ms.getD i none = none ∧ ∀ j, j < i → ms.getD j none ≠ none
theorem FreeAt.uniq {ms : List Hm} {i j : Nat} (h : FreeAt ms i) (k : FreeAt ms j) : i = j := by
  rcases Nat.lt_trichotomy i j with h1 | h1 | h1
  · exact absurd h.2.1 (k.2.2 i h1)
  · exact h1
  · exact absurd k.2.1 (h.2.2 j h1)
theorem FreeAt.of {w : World} {sl : List Slt} {ms : List Hm} (h : ∀ i, i < 24 → SlotM w (sl.getD i none) (ms.getD i none)) {i : Nat} (hf : FirstFree sl i) : FreeAt ms i :=
  ⟨hf.1, (h i hf.1).none_iff.1 hf.2.1, fun j hj e => hf.2.2 j hj ((h j (by have := hf.1; omega)).none_iff.2 e)⟩
theorem no_room {w : World} {sl : List Slt} {ms : List Hm} (hl : sl.length = 24) (h : ∀ i, i < 24 → SlotM w (sl.getD i none) (ms.getD i none)) (hc : sl.countP Option.isNone = 0) : ∀ i, i < 24 → ms.getD i none ≠ none := by
  intro i hi e
  have h1 := (h i hi).none_iff.2 e
  rw [List.countP_eq_zero] at hc
  have h2 := hc (sl[i]'(by omega)) (List.getElem_mem _)
  rw [List.getD, List.getElem?_eq_getElem (show i < sl.length from by omega)] at h1
  simp at h1
  simp [h1] at h2

/-- A text that writes a matrix. -/
def Wr (s : ByteArray) : Prop := ∃ r c zs, r ≤ 99 ∧ c ≤ 99 ∧ Writes s r c zs 4000
set_option maxRecDepth 100000 in
set_option maxHeartbeats 1000000 in
theorem type_no (b : Nat) (s : ByteArray) (w : World) (hs : 4000 < s.size ∨ ¬ Wr s) :
    Calls Tryz.prog 40 #[.pointer (some ⟨b, 0, none⟩), .string s] w fun e w' => e = .returned (.tuple #[.int .i64 (-1), .int .i64 1]) ∧ Below w.heap.size w w' := by
  by_cases h4 : s.size ≤ 4000
  · have hno : ¬ Wr s := by
      rcases hs with h | h
      · omega
      · exact h
    have HN := Hid.mk hno
    clear hs hno
    go_enter Tryz.func40, Tryz.ntmps40
    go_wp2_with fail
    refine (read_gen s _ h4).mono ?_
    rintro e w1 ⟨x, ok, rfl, hx, hb⟩
    rcases hx with ⟨rfl, r, c, zs, h1, h2⟩ | ⟨rfl, rfl⟩
    · exact absurd ⟨r, c, zs, h2.1, h2.2.1, h1⟩ HN.out
    · have HB := Hid.mk hb
      clear hb
      go_wp2_with fail
      go_ret2
      exact ⟨rfl, HB.out.trans ((Below.refl _ _).alloc HB.out.size _)⟩
  · have h4' : (4000 : Int) < (s.size : Int) := by omega
    clear h4 hs
    go_enter Tryz.func40, Tryz.ntmps40
    go_wp2_with fail
    go_ret2
    exact ⟨rfl, Below.refl _ _⟩

/-- What Type does with a text that writes a matrix. -/
def TypeOut (b : Nat) (r c : Nat) (zs : List Int) (ms : List Hm) (nx : Nat) (w w' : World) (h e : Int) : Prop :=
  (h = -1 ∧ e = 4 ∧ ¬ FitsP r c zs ∧ Below w.heap.size w w') ∨ (h = -1 ∧ e = 5 ∧ FitsP r c zs ∧ (∀ i, i < 24 → ms.getD i none ≠ none) ∧ Below w.heap.size w w') ∨
  (h = (nx : Int) ∧ e = 0 ∧ FitsP r c zs ∧ (∃ i, FreeAt ms i ∧ Held w' b (ms.set i (some (nx, r, c, zs))) (nx + 1)) ∧ Fr b w w')
set_option maxRecDepth 100000 in
set_option maxHeartbeats 2000000 in
theorem type_yes (b : Nat) (s : ByteArray) (r c : Nat) (zs : List Int) (ms : List Hm) (nx : Nat) (w : World) (hst : Held w b ms nx) (hnx : nx < 1000000) (hs : s.size ≤ 4000) (hr : r ≤ 99) (hc : c ≤ 99) (hw : Writes s r c zs 4000) :
    Calls Tryz.prog 40 #[.pointer (some ⟨b, 0, none⟩), .string s] w fun e w' => ∃ h e' : Int, e = .returned (.tuple #[.int .i64 h, .int .i64 e']) ∧ TypeOut b r c zs ms nx w w' h e' := by
  obtain ⟨hm24, -, sl, hsg, hsl⟩ := hst
  have HS := Hid.mk (And.intro hsg (And.intro hsl hm24))
  have HW := Hid.mk hw
  have hbl := hsg.lt
  clear hsg hsl hw hm24
  go_enter Tryz.func40, Tryz.ntmps40
  go_wp2_with fail
  refine (read_ok s r c zs 4000 _ hs hr hc HW.out).mono ?_
  rintro e w1 ⟨x, rfl, hx, hb1⟩
  obtain ⟨_, _, sl0, rfl, hg⟩ := id hx
  obtain ⟨ao, cap, rfl, -⟩ := hg.shape
  clear hg
  obtain ⟨N, hN⟩ : ∃ N, N = r * c := ⟨_, rfl⟩
  rw [← hN] at hx ⊢
  clear hN
  have K1 := Hid.mk (And.intro hx hb1)
  clear hx hb1
  go_wp2_with fail
  refine (tooBig_any _ r c zs 4000 _ (K1.out.1.below ((Below.refl _ _).alloc (Nat.le_refl _) _)) (by omega)).mono ?_
  rintro e w2 ⟨fb, rfl, hf, hb2⟩
  have h12 : Below w1.heap.size w1 w2 := ((Below.refl w1.heap.size w1).alloc (Nat.le_refl _) _).trans (hb2.mono (by simp))
  have h02 : Below w.heap.size w w2 := K1.out.2.trans (h12.mono K1.out.2.size)
  have m0 : w2.cell? ⟨w1.heap.size, 0, none⟩ = some (.int .i64 r) := cell_later hb2 (by simp)
  have m1 : w2.cell? ⟨w1.heap.size, 1, none⟩ = some (.int .i64 c) := cell_later hb2 (by simp)
  have m2 : w2.cell? ⟨w1.heap.size, 2, none⟩ = some (.slice ao N cap) := cell_later hb2 (by simp)
  have K2 := Hid.mk (And.intro (K1.out.1.below h12) (And.intro h02 hf))
  clear hb2 h12 h02 K1 hf
  cases fb
  · have HNF : Hid (¬ FitsP r c zs) := Hid.mk (fun h => by have := K2.out.2.2.2 h; cases this)
    go_wp2_with fail
    go_ret2
    exact ⟨_, _, rfl, .inl ⟨rfl, rfl, HNF.out, K2.out.2.1⟩⟩
  · have HFP : Hid (FitsP r c zs) := Hid.mk (K2.out.2.2.1 rfl)
    go_wp2_with fail
    refine (room_any b sl nx _ (HS.out.1.below K2.out.2.1)).mono ?_
    rintro e w' ⟨rfl, rfl⟩
    obtain ⟨rm, hrm⟩ : ∃ rm, rm = sl.countP Option.isNone := ⟨_, rfl⟩
    have HRM := Hid.mk hrm
    rw [← hrm]
    clear hrm
    by_cases h0 : rm = 0
    · subst h0
      go_wp2_with fail
      go_ret2
      exact ⟨_, _, rfl, .inr (.inl ⟨rfl, rfl, HFP.out, no_room HS.out.1.1 HS.out.2.1 HRM.out.symm, K2.out.2.1⟩)⟩
    · obtain ⟨n, hn⟩ := FirstFree.exists HS.out.1.1 (show 0 < sl.countP Option.isNone from by have := HRM.out; omega)
      have HFF := Hid.mk hn
      have h0' : ¬ ((rm : Int) < 1) := by omega
      clear hn h0
      go_wp2_with fail
      refine (keep_any b r c ao N cap sl nx n _ (HS.out.1.below K2.out.2.1) HFF.out (by omega)).mono ?_
      rintro e w3 ⟨rfl, hS3, hF3⟩
      have K3 := Hid.mk (And.intro hS3 (And.intro (K2.out.1.keepT hF3.2) ((Fr.of_below (p := b) K2.out.2.1).trans hF3)))
      clear hS3 hF3 K2 m0 m1 m2
      go_wp2_with fail
      go_ret2
      refine ⟨_, _, rfl, .inr (.inr ⟨rfl, rfl, HFP.out, ⟨n, FreeAt.of HS.out.2.1 HFF.out, ?_⟩, K3.out.2.2⟩)⟩
      refine ⟨by simp [HS.out.2.2], by omega, _, K3.out.1, fun i hi => ?_⟩
      rw [slt_set (by have := HS.out.1.1; have := HFF.out.1; omega), hm_set (by have := HS.out.2.2; have := HFF.out.1; omega)]
      by_cases hin : i = n
      · rw [if_pos hin, if_pos hin]
        exact ⟨rfl, rfl, rfl, K3.out.2.1⟩
      · rw [if_neg hin, if_neg hin]
        exact (HS.out.2.1 i hi).keep K3.out.2.2.2
end Go.Proofs.YtmijbimanaalbaaGreatDoor

/- notation.Write. -/
namespace Go.Proofs.YtmijbimanaalbaaGreatDoor
open Go.RowKit

set_option maxRecDepth 100000 in
set_option maxHeartbeats 8000000 in
theorem write_any (v : Value) (r c : Nat) (zs : List Int) (L : Nat) (w : World) (hm : IsM w v r c zs L) (hL : L ≤ 5000) (htab : Tab w) :
    Calls Tryz.prog 87 #[v] w fun e w' => e = .returned (.string ⟨(matT r c zs).toArray⟩) ∧ Below w.heap.size w w' := by
  have HM := Hid.mk (And.intro hm htab)
  obtain ⟨hr, hc, sl, rfl, hg⟩ := hm
  obtain ⟨ao, cap, rfl, -⟩ := hg.shape
  have hzl : zs.length = r * c := hg.1
  have HZ := Hid.mk hzl
  clear hg hzl htab
  obtain ⟨N, hN⟩ : ∃ N, N = r * c := ⟨_, rfl⟩
  rw [← hN] at HM ⊢
  clear hN
  obtain ⟨W0, hW0⟩ : ∃ W0, W0 = w.alloc (.cells #[.int .i64 r, .int .i64 c, .slice ao N cap] 76) := ⟨_, rfl⟩
  have HW := Hid.mk hW0
  clear hW0
  have hw0 : W0.heap.size = w.heap.size + 1 := by rw [HW.out]; simp
  have HB0 : Hid (Below w.heap.size w W0) := Hid.mk (by rw [HW.out]; exact (Below.refl _ _).alloc (Nat.le_refl _) _)
  have hrl := dec_le2 r (by omega)
  have hcl := dec_le2 c (by omega)
  go_enter Tryz.func87, Tryz.ntmps87
  go_upto_region 1 with fail
  go_cut [3] from 6 to 15 (fun t wx => t = .string ⟨(partT r c zs 0).toArray⟩ ∧ Below (w.heap.size + 1) W0 wx)
  case first =>
    go_region_with (first
      | (go_at_call 42; refine (rows_raw _ _ _ _ _ _).mono ?_; rintro e w' ⟨rfl, rfl⟩)
      | (go_at_call 43; refine (cols_raw _ _ _ _ _ _).mono ?_; rintro e w' ⟨rfl, rfl⟩)
      | (go_at_call 149; refine (Tryz.strconv_Itoa_small _ (by omega) _).mono ?_; rintro e w' ⟨rfl, rfl⟩))
    all_goals
      go_wp2_with fail
      go_meet
      case rel =>
        rw [HW.out]
        exact ⟨part0 r c zs, by repeat (first | exact Below.refl _ _ | refine Below.drew ?_ | refine Below.alloc ?_ (by simp <;> omega) _)⟩
  case rest =>
    obtain ⟨rfl, hbc⟩ := hcut
    have HBC := Hid.mk hbc
    clear hbc
    obtain ⟨T0, hT0⟩ : ∃ T0, T0 = partT r c zs 0 := ⟨_, rfl⟩
    have hT0l : T0.length ≤ 10 := by
      rw [hT0]; unfold partT; simp [bodyT]; omega
    have HT0 := Hid.mk hT0
    rw [← hT0]
    clear hT0
    go_wp2_with fail
    go_loopw [3, 4] (fun t i wr => ∃ (k : Nat) (T : List UInt8), k ≤ r ∧ i = .int .i64 k ∧ t = .string ⟨T.toArray⟩ ∧ T.length ≤ 10000000 * k + 10 ∧ Below (w.heap.size + 1) W0 wr ∧ Hid (T = partT r c zs (k * c))) (fun _ i _ => r - (intOf i).toNat)
    case atStart => exact ⟨0, T0, Nat.zero_le _, rfl, rfl, by omega, HBC.out, Hid.mk (by rw [HT0.out, Nat.zero_mul])⟩
    case round =>
      rename World => wr0
      obtain ⟨k, T, hk, rfl, rfl, hT, hbel, HI⟩ := hrel
      have hwr := hbel.size
      have hbx : MBox wr0 w.heap.size r c (.slice ao N cap) := (MBox.new w r c (.slice ao N cap) rfl).below (by rw [← HW.out]; exact hbel) (by omega)
      obtain ⟨a0, a1, a2, -⟩ := hbx.cells
      have HB := Hid.mk hbel
      clear hbel hbx
      go_wp2_with fail
      refine (rows_raw _ _ _ _ _ _).mono ?_
      rintro e w' ⟨rfl, rfl⟩
      by_cases hkr : k < r
      · go_wp2_with fail
        go_loopw [3, 5] (fun t i ws => ∃ (j : Nat) (T' : List UInt8), j ≤ c ∧ i = .int .i64 j ∧ t = .string ⟨T'.toArray⟩ ∧ T'.length ≤ 10000000 * k + 10 + 100000 * j ∧ Below (w.heap.size + 1) W0 ws ∧ Hid (T' = partT r c zs (k * c + j))) (fun _ i _ => c - (intOf i).toNat)
        case atStart => exact ⟨0, T, Nat.zero_le _, rfl, rfl, by omega, HB.out.alloc (by omega) _, Hid.mk (by rw [HI.out, Nat.add_zero])⟩
        case round =>
          clear a0 a1 a2
          obtain ⟨j, T', hj, rfl, rfl, hT', hbel, HJ⟩ := hrel
          have hws := hbel.size
          have hbx : MBox wr w.heap.size r c (.slice ao N cap) := (MBox.new w r c (.slice ao N cap) rfl).below (by rw [← HW.out]; exact hbel) (by omega)
          obtain ⟨a0, a1, a2, -⟩ := hbx.cells
          have HB2 := Hid.mk (And.intro hbel hbx)
          clear hbel hbx
          go_wp2_with fail
          refine (cols_raw _ _ _ _ _ _).mono ?_
          rintro e w' ⟨rfl, rfl⟩
          have b0 := cell1 a0
          have b1 := cell1 a1
          have b2 := cell1 a2
          by_cases hjc : j < c
          · have hcases : k = 0 ∨ (0 < k ∧ j = 0) ∨ (0 < k ∧ 0 < j) := by omega
            obtain ⟨jj, hjj⟩ : ∃ jj, jj = j := ⟨_, rfl⟩
            have HJJ := Hid.mk hjj
            have hjjc : jj < c := by omega
            obtain ⟨S, hS⟩ : ∃ S : List UInt8, S = if 0 < k ∧ jj = 0 then [59] else [] := ⟨_, rfl⟩
            have HS := Hid.mk hS
            have hnx := HZ.out
            have hidx : k * c + jj < zs.length := by rw [hnx]; exact idx_lt hkr hjjc
            have HNX := Hid.mk (partT_next (r := r) (i := k) hjjc hidx)
            clear hnx hidx
            rcases hcases with h0 | ⟨h0, h1⟩ | ⟨h0, h1⟩
            case' inl =>
              have f1 : decide (0 < k) = false := decide_eq_false (by omega)
              have f2 : decide ((0 : Int) < (k : Int)) = false := decide_eq_false (by omega)
              rw [if_neg (by omega)] at hS
              have HS1 := Hid.mk hS
              clear hS h0 hjj
            case' inr.inl =>
              rw [if_pos ⟨h0, by omega⟩] at hS
              have HS1 := Hid.mk hS
              clear hS hjj
              subst h1
            case' inr.inr =>
              have f1 : ((j : Int) == 0) = false := beq_eq_false_iff_ne.2 (by omega)
              rw [if_neg (by omega)] at hS
              have HS1 := Hid.mk hS
              clear hS hjj
            all_goals
              go_wp2_with fail
              first
                | refine (at_in _ r c k j zs L _ (HM.out.1.below ?_) hkr hjc).mono ?_
                | refine (at_in _ r c k 0 zs L _ (HM.out.1.below ?_) hkr hjc).mono ?_
              · exact HB0.out.trans ((HB2.out.1.alloc (by omega) _).mono (by omega))
              rintro e w2 ⟨x, rfl, hx, hb2⟩
              obtain ⟨nb, bo, mm, ecap, rfl⟩ := hx.shape
              have hb02 : Below w.heap.size w w2 := (HB0.out.trans ((HB2.out.1.alloc (by omega) _).mono (by omega))).trans (hb2.mono (by simp; omega))
              have hb2' : Below (w.heap.size + 1) W0 w2 := (HB2.out.1.alloc (by omega) _).trans (hb2.mono (by simp; omega))
              have K2 := Hid.mk (And.intro hx (And.intro hb02 hb2'))
              clear hx hb2 hb02 hb2'
              go_wp2_with fail
              refine (decimal_any _ _ L _ K2.out.1 hL (HM.out.2.below K2.out.2.1)).mono ?_
              rintro e w3 ⟨rfl, hb3⟩
              have hb3' : Below (w.heap.size + 1) W0 w3 := K2.out.2.2.trans (hb3.mono (by have := K2.out.2.2.size; omega))
              have K3 := Hid.mk hb3'
              clear hb3 hb3'
              obtain ⟨D, hD⟩ : ∃ D, D = Lib.itoa (zs.getD (k * c + jj) 0) := ⟨_, rfl⟩
              rw [HJJ.out] at hD
              rw [← hD]
              have hDl : D.length ≤ 60001 := by rw [hD]; exact itoa_len K2.out.1 hL
              rw [← HJJ.out] at hD
              have HD := Hid.mk hD
              clear hD
              go_wp2_with fail
              go_roundw
              case measure => simp [intOf]; omega
              case rel =>
                have hv : T' ++ (S ++ (32 :: D)) = partT r c zs (k * c + (jj + 1)) := by
                  rw [show k * c + (jj + 1) = k * c + jj + 1 from rfl, HNX.out, ← HS.out, ← HD.out, HJJ.out, ← HJ.out]
                have hl : (T' ++ (S ++ (32 :: D))).length ≤ T'.length + 60010 := by
                  have : S.length ≤ 1 := by rw [HS1.out]; simp
                  simp only [List.length_append, List.length_cons]; omega
                rw [HJJ.out] at hv
                have hl2 : ∀ n : Nat, n = jj + 1 → (T' ++ (S ++ (32 :: D))).length ≤ 10000000 * k + 10 + 100000 * n := by
                  intro n hn
                  rw [HJJ.out] at hn
                  subst hn
                  exact Nat.le_trans hl (by omega)
                first
                  | refine ⟨j + 1, T' ++ (S ++ (32 :: D)), by omega, by go_num, ?_, hl2 _ (by rw [HJJ.out]), K3.out, Hid.mk hv⟩
                  | refine ⟨0 + 1, T' ++ (S ++ (32 :: D)), by omega, by go_num, ?_, hl2 _ (by rw [HJJ.out]), K3.out, Hid.mk hv⟩
                rw [HS1.out]
                first | exact wval0 _ _ | exact wval1 _ _
          · have hje : j = c := by omega
            have HJE := Hid.mk hje
            clear hje
            go_wp2_with fail
            go_roundw
            case measure => simp [intOf]; omega
            case rel => exact ⟨k + 1, T', by omega, by go_num, rfl, by have := HJE.out; omega, HB2.out.1.alloc (by omega) _, Hid.mk (by rw [HJ.out, HJE.out, Nat.add_mul, Nat.one_mul])⟩
      · have hke : k = r := by omega
        have HKE := Hid.mk hke
        clear hke
        go_wp2_with fail
        go_ret
        refine ⟨rret_w (by rw [HI.out, HKE.out, partT_all (by rw [HZ.out]; exact Nat.le_refl _)]), ?_⟩
        exact HB0.out.trans ((HB.out.alloc (by omega) _).mono (by omega))
end Go.Proofs.YtmijbimanaalbaaGreatDoor
