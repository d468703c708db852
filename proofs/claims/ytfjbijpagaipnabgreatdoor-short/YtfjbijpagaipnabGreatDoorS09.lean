import Derived.Test.YtfjbijpagaipnabGreatDoorS03
import Derived.Test.YtfjbijpagaipnabGreatDoorS07
import Derived.Test.YtfjbijpagaipnabGreatDoorS08
import Derived.Deep.CutRange
import Derived.Deep.RegionWith
namespace Go.Proofs.YtfjbijpagaipnabGreatDoor
open Go.RowKit
def FitsP (r c : Nat) (zs : List Int) : Prop := r ≤ 4 ∧ c ≤ 4 ∧ ∀ t, t < r * c → (zs.getD t 0).natAbs < 281474976710656
def FitsOut (r c : Nat) (zs : List Int) (b : Bool) : Prop := b = true ↔ FitsP r c zs
set_option maxRecDepth 100000 in
set_option maxHeartbeats 2000000 in
theorem fits_any (v : Value) (r c : Nat) (zs : List Int) (L : Nat) (w : World) (hm : IsM w v r c zs L) (hL : L ≤ 1000000000) :
 Calls Tryz.prog 59 #[v, .int .i64 4, .int .i64 48] w fun e w' => ∃ b, e = .returned (.bool b) ∧ FitsOut r c zs b ∧ Below w.heap.size w w' := by
 obtain ⟨h99, h99', sl, rfl, hg⟩ := hm
 obtain ⟨ao, cap, rfl, hcap, hcm, hao⟩ := hg.shape
 have HG := Hid.mk hg
 have HA := Hid.mk hao
 have hrc : r * c ≤ 9801 := Nat.mul_le_mul h99 h99'
 clear hg hao
 obtain ⟨N, hN⟩ : ∃ N, N = r * c := ⟨_, rfl⟩
 have HN := Hid.mk hN
 rw [← hN] at hcap hrc HG HA ⊢
 clear hN
 by_cases hr : r ≤ 4
 ·by_cases hc : c ≤ 4
  ·go_enter Tryz.func59, Tryz.ntmps59
   go_wp2_with fail
   obtain ⟨W0, hW0⟩ : ∃ W0, W0 = w.alloc (.cells #[.int .i64 r, .int .i64 c, .slice ao N cap] 66) := ⟨_, rfl⟩
   rw [← hW0]
   have m2 : W0.cell? ⟨w.heap.size, 2, none⟩ = some (.slice ao N cap) := by rw [hW0]; simp
   have hB0 : Below w.heap.size w W0 := by rw [hW0]; exact (Below.refl _ _).alloc (Nat.le_refl _) _
   have FM := Hid.mk m2
   clear m2 hW0
   go_loopw [7] (fun i wr => ∃ k : Nat, k ≤ N ∧ i = .int .i64 k ∧ Below W0.heap.size W0 wr ∧ Hid (∀ t, t < k → (zs.getD t 0).natAbs < 281474976710656)) (fun i _ => N - (intOf i).toNat)
   case atStart => exact ⟨0, Nat.zero_le _, rfl, Below.refl _ _, Hid.mk (fun t ht => by omega)⟩
   case round =>
    obtain ⟨k, hk, rfl, hB, HI0⟩ := hrel
    have m2 := cell_later hB FM.out
    by_cases hkN : k < N
    ·obtain ⟨g, rfl⟩ := HA.out k hkN
     have hGr := (HG.out.below hB0).below hB
     obtain ⟨nb, bo, m, ecap, c1, c2, hI⟩ := hGr.cell k hkN
     rw [Nat.mul_comm 2] at c1 c2
     have HB := Hid.mk hB
     have HI := Hid.mk hI
     clear hB hI hGr
     go_wp2_with fail
     refine (bits_any _ _ _ _ HI.out hL).mono ?_
     rintro e w2 ⟨b, rfl, hb, hb2⟩
     have HBB := Hid.mk (hb 48)
     have hB2 : Below W0.heap.size W0 w2 := HB.out.trans (hb2.mono HB.out.size)
     clear hb hb2
     by_cases hbb : b ≤ 48
     ·go_wp2_with fail
      go_roundw
      case rel =>
       refine ⟨k + 1, by omega, by go_num, hB2, Hid.mk fun t ht => ?_⟩
       by_cases htk : t = k
       ·rw [htk]; exact HBB.out.1 hbb
       ·exact HI0.out t (by omega)
      case measure => simp [intOf]; omega
     ·have hbi : (48 : Int) < (b : Int) := by omega
      have HNB := Hid.mk hbb
      clear hbb
      go_wp2_with fail
      go_ret
      refine ⟨_, rfl, ⟨(fun h => by cases h), fun h => ?_⟩, hB0.trans (hB2.mono hB0.size)⟩
      exact absurd (HBB.out.2 (h.2.2 k (by rw [← HN.out]; exact hkN))) HNB.out
    ·go_wp2_with fail
     go_ret
     exact ⟨_, rfl, ⟨fun _ => ⟨hr, hc, fun t ht => HI0.out t (by rw [← HN.out] at ht; omega)⟩, fun _ => rfl⟩, hB0.trans (hB.mono hB0.size)⟩
  ·have hci : (4 : Int) < (c : Int) := by omega
   have HNC := Hid.mk hc
   clear hc
   go_enter Tryz.func59, Tryz.ntmps59
   go_wp2_with fail
   go_ret
   exact ⟨_, rfl, ⟨(fun h => by cases h), fun h => absurd h.2.1 HNC.out⟩, (Below.refl _ _).alloc (Nat.le_refl _) _⟩
 ·have hri : (4 : Int) < (r : Int) := by omega
  have HNR := Hid.mk hr
  clear hr
  go_enter Tryz.func59, Tryz.ntmps59
  go_wp2_with fail
  go_ret
  exact ⟨_, rfl, ⟨(fun h => by cases h), fun h => absurd h.1 HNR.out⟩, (Below.refl _ _).alloc (Nat.le_refl _) _⟩
set_option maxRecDepth 100000 in
set_option maxHeartbeats 2000000 in
theorem tooBig_any (v : Value) (r c : Nat) (zs : List Int) (L : Nat) (w : World) (hm : IsM w v r c zs L) (hL : L ≤ 1000000000) :
 Calls Tryz.prog 33 #[v] w fun e w' => ∃ b, e = .returned (.bool (!b)) ∧ FitsOut r c zs b ∧ Below w.heap.size w w' := by
 have HM := Hid.mk hm
 obtain ⟨_, _, sl, rfl, hg⟩ := hm
 obtain ⟨ao, cap, rfl, -⟩ := hg.shape
 clear hg
 obtain ⟨N, hN⟩ : ∃ N, N = r * c := ⟨_, rfl⟩
 rw [← hN] at HM ⊢
 clear hN
 go_enter Tryz.func33, Tryz.ntmps33
 go_wp2_with fail
 refine (fits_any _ r c zs L _ (HM.out.below ((Below.refl _ _).alloc (Nat.le_refl _) _)) hL).mono ?_
 rintro e w2 ⟨b, rfl, hf, hb⟩
 have HF := Hid.mk (And.intro hf hb)
 clear hf hb
 go_wp2_with fail
 go_ret
 exact ⟨_, rfl, HF.out.1, ((Below.refl w.heap.size w).alloc (Nat.le_refl _) _).trans (HF.out.2.mono (by simp))⟩
open Go.RowKit
open Go.RowKit
open Go.RowKit
theorem wbody_snoc (c : Nat) (x : List UInt8) : ∀ (l : List (List UInt8)) (t : Nat), bodyT c t (l ++ [x]) = bodyT c t l ++ ((if 0 < t + l.length ∧ (t + l.length) % c = 0 then [59] else []) ++ (32 :: x))
 | [], t => by simp [bodyT]
 | a :: l, t => by
   have := wbody_snoc c x l (t + 1)
   rw [List.cons_append, bodyT, bodyT, this, List.length_cons, show t + 1 + l.length = t + (l.length + 1) from by omega]
   simp [List.append_assoc]
def matT (r c : Nat) (zs : List Int) : List UInt8 := Lib.decDigits r ++ (120 :: (Lib.decDigits c ++ (58 :: bodyT c 0 (zs.map Lib.itoa))))
def partT (r c : Nat) (zs : List Int) (n : Nat) : List UInt8 := Lib.decDigits r ++ (120 :: (Lib.decDigits c ++ (58 :: bodyT c 0 ((zs.take n).map Lib.itoa))))
theorem partT_next {r c : Nat} {zs : List Int} {i j : Nat} (hj : j < c) (hn : i * c + j < zs.length) :
 partT r c zs (i * c + j + 1) = partT r c zs (i * c + j) ++ ((if 0 < i ∧ j = 0 then [59] else []) ++ (32 :: Lib.itoa (zs.getD (i * c + j) 0))) := by
 unfold partT
 have e : (zs.take (i * c + j + 1)).map Lib.itoa = (zs.take (i * c + j)).map Lib.itoa ++ [Lib.itoa (zs.getD (i * c + j) 0)] := by
  rw [List.take_add_one, List.getElem?_eq_getElem hn, List.map_append]
  simp [List.getD, List.getElem?_eq_getElem hn]
 rw [e, wbody_snoc]
 have h1 : ((zs.take (i * c + j)).map Lib.itoa).length = i * c + j := by rw [List.length_map, List.length_take]; omega
 rw [h1, Nat.zero_add]
 have h2 : (0 < i * c + j ∧ (i * c + j) % c = 0) ↔ (0 < i ∧ j = 0) := by
  rw [show (i * c + j) % c = j from by rw [Nat.mul_comm, Nat.mul_add_mod, Nat.mod_eq_of_lt hj]]
  constructor
  ·rintro ⟨a, rfl⟩
   refine ⟨?_, rfl⟩
   rcases Nat.eq_zero_or_pos i with h | h
   ·subst h; simp at a
   ·exact h
  ·rintro ⟨a, rfl⟩
   have := Nat.mul_le_mul a (Nat.le_refl c)
   exact ⟨by omega, rfl⟩
 simp only [h2]
 simp [List.append_assoc]
theorem partT_all {r c : Nat} {zs : List Int} {n : Nat} (hn : zs.length ≤ n) : partT r c zs n = matT r c zs := by
 unfold partT matT; rw [List.take_of_length_le hn]
theorem wstr_app (a b : List UInt8) : (⟨a.toArray⟩ : ByteArray) ++ ⟨b.toArray⟩ = ⟨(a ++ b).toArray⟩ := by
 apply ByteArray.ext
 simp [ByteArray.data_append]
theorem dec_le2 (n : Nat) (h : n < 100) : (Lib.decDigits n).length ≤ 2 := by
 by_cases h1 : n < 10
 ·rw [Lib.decDigits_one h1]; simp
 ·rw [decDigits_big h1, Lib.decDigits_one (by omega)]; simp
theorem part0 (r c : Nat) (zs : List Int) : Value.string ((⟨(Lib.decDigits r).toArray⟩ : ByteArray) ++ ⟨#[120]⟩ ++ ⟨(Lib.decDigits c).toArray⟩ ++ ⟨#[58]⟩) = .string ⟨(partT r c zs 0).toArray⟩ := by
 rw [show (⟨#[120]⟩ : ByteArray) = ⟨[(120 : UInt8)].toArray⟩ from rfl, show (⟨#[58]⟩ : ByteArray) = ⟨[(58 : UInt8)].toArray⟩ from rfl, wstr_app, wstr_app, wstr_app]
 simp [partT, bodyT]
theorem wval0 (T D : List UInt8) : Value.string ((⟨T.toArray⟩ : ByteArray) ++ (⟨#[32]⟩ ++ ⟨D.toArray⟩)) = .string ⟨(T ++ ([] ++ (32 :: D))).toArray⟩ := by
 rw [show (⟨#[32]⟩ : ByteArray) = ⟨[(32 : UInt8)].toArray⟩ from rfl, wstr_app, wstr_app]; rfl
theorem wval1 (T D : List UInt8) : Value.string ((⟨T.toArray⟩ : ByteArray) ++ ⟨#[59]⟩ ++ (⟨#[32]⟩ ++ ⟨D.toArray⟩)) = .string ⟨(T ++ ([59] ++ (32 :: D))).toArray⟩ := by
 rw [show (⟨#[32]⟩ : ByteArray) = ⟨[(32 : UInt8)].toArray⟩ from rfl, show (⟨#[59]⟩ : ByteArray) = ⟨[(59 : UInt8)].toArray⟩ from rfl, wstr_app, wstr_app, wstr_app]
 simp
theorem rret_w {s t : List UInt8} (h : s = t) : Ending.returned (.string ⟨s.toArray⟩) = .returned (.string ⟨t.toArray⟩) := by rw [h]
set_option maxHeartbeats 1000000 in
theorem rows_raw (r c : Int) (ao : Option Addr) (n cap : Nat) (w : World) :
 Calls Tryz.prog 85 #[.agg #[.int .i64 r, .int .i64 c, .slice ao n cap]] w fun e w' => e = .returned (.int .i64 r) ∧ w' = w.alloc (.cells #[.int .i64 r, .int .i64 c, .slice ao n cap] 66) := by
 go_enter Tryz.func85, Tryz.ntmps85
 go_wp2
 go_ret
 exact ⟨rfl, rfl⟩
set_option maxHeartbeats 1000000 in
theorem cols_raw (r c : Int) (ao : Option Addr) (n cap : Nat) (w : World) :
 Calls Tryz.prog 84 #[.agg #[.int .i64 r, .int .i64 c, .slice ao n cap]] w fun e w' => e = .returned (.int .i64 c) ∧ w' = w.alloc (.cells #[.int .i64 r, .int .i64 c, .slice ao n cap] 66) := by
 go_enter Tryz.func84, Tryz.ntmps84
 go_wp2
 go_ret
 exact ⟨rfl, rfl⟩
theorem itoa_len {w : World} {v : Value} {z : Int} {L : Nat} (h : IsI w v z L) (hL : L ≤ 200000000) : (Lib.itoa z).length ≤ 2400000001 := by
 obtain ⟨sl, xs, -, h2, h3, h4, -⟩ := h
 have hn : Lib.nDigits z.natAbs ≤ 2400000000 := by
  rw [← h3]
  have := nDigits_limbs h2.1
  omega
 rcases Int.lt_or_le z 0 with hz | hz
 ·have e : z = -((z.natAbs : Nat) : Int) := by omega
  rw [e, Lib.itoa_neg _ (by omega), List.length_cons, Lib.decDigits_length]; omega
 ·have e : z = ((z.natAbs : Nat) : Int) := by omega
  rw [e, Lib.itoa_nonneg, Lib.decDigits_length]; omega
def MBox (w : World) (b : Nat) (r c : Int) (sl : Value) : Prop := w.heap[b]? = some (.cells #[.int .i64 r, .int .i64 c, sl] 66 (0, 0))
theorem MBox.new (w : World) (r c : Int) (sl : Value) {b : Nat} (hb : b = w.heap.size) : MBox (w.alloc (.cells #[.int .i64 r, .int .i64 c, sl] 66)) b r c sl := by rw [hb]; exact heap_alloc_new w _
theorem MBox.below {B : Nat} {w w' : World} {b : Nat} {r c : Int} {sl : Value} (h : MBox w b r c sl) (hb : Below B w w') (hB : b < B) : MBox w' b r c sl := by unfold MBox; rw [hb.block b hB]; exact h
theorem MBox.cells {w : World} {b : Nat} {r c : Int} {sl : Value} (h : MBox w b r c sl) : w.cell? ⟨b, 0, none⟩ = some (.int .i64 r) ∧ w.cell? ⟨b, 1, none⟩ = some (.int .i64 c) ∧ w.cell? ⟨b, 2, none⟩ = some sl ∧ (∀ j, w.frozen? ⟨b, j, none⟩ = false) := by
 unfold MBox at h
 refine ⟨?_, ?_, ?_, fun j => ?_⟩ <;> simp [World.cell?, World.frozen?, h]
open Go.RowKit
open Go.RowKit
open Go.RowKit
theorem IsM.keepT {w w' : World} {v : Value} {r c L : Nat} {zs : List Int} (h : IsM w v r c zs L) (hk : KT w w') : IsM w' v r c zs L := by
 obtain ⟨h0, h1, sl, h2, h3⟩ := h
 exact ⟨h0, h1, sl, h2, h3.keep hk⟩
abbrev Hm := Option (Nat × Nat × Nat × List Int)
def SlotM (w : World) : Slt → Hm → Prop
 | none, none => True
 | some x, some y => x.1 = y.1 ∧ x.2.1 = y.2.1 ∧ x.2.2.1 = y.2.2.1 ∧ IsM w (.agg #[.int .i64 (x.2.1 : Nat), .int .i64 (x.2.2.1 : Nat), x.2.2.2]) y.2.1 y.2.2.1 y.2.2.2 200000000
 | _, _ => False
def Held (w : World) (b : Nat) (ms : List Hm) (nx : Nat) : Prop := ms.length = 24 ∧ nx ≤ 1000000 ∧ ∃ sl, Sg w b sl nx ∧ ∀ i, i < 24 → SlotM w (sl.getD i none) (ms.getD i none)
theorem SlotM.keep {w w' : World} {x : Slt} {y : Hm} (h : SlotM w x y) (hk : KT w w') : SlotM w' x y := by
 cases x with
 | none => cases y <;> exact h
 | some x => cases y with
   | none => exact h
   | some y => exact ⟨h.1, h.2.1, h.2.2.1, h.2.2.2.keepT hk⟩
theorem Held.lt {w : World} {b : Nat} {ms : List Hm} {nx : Nat} (h : Held w b ms nx) : b < w.heap.size := h.2.2.choose_spec.1.lt
theorem Held.ty {w : World} {b : Nat} {ms : List Hm} {nx : Nat} (h : Held w b ms nx) : Ty w b 103 := h.2.2.choose_spec.1.ty
theorem Held.below {w w' : World} {b : Nat} {ms : List Hm} {nx : Nat} (h : Held w b ms nx) (hb : Below w.heap.size w w') : Held w' b ms nx := by
 obtain ⟨h0, hn, sl, h1, h2⟩ := h
 exact ⟨h0, hn, sl, h1.below hb, fun i hi => (h2 i hi).keep (KT.of_below hb)⟩
theorem Held.fr {w w' : World} {b p : Nat} {ms : List Hm} {nx : Nat} (h : Held w b ms nx) (hf : Fr p w w') (hne : b ≠ p) : Held w' b ms nx := by
 obtain ⟨h0, hn, sl, h1, h2⟩ := h
 exact ⟨h0, hn, sl, h1.fr hf hne, fun i hi => (h2 i hi).keep hf.2⟩
theorem SlotM.none_iff {w : World} {x : Slt} {y : Hm} (h : SlotM w x y) : x = none ↔ y = none := by
 cases x <;> cases y <;> simp_all [SlotM]
theorem SlotM.shape {w : World} {x : Nat × Nat × Nat × Value} {y : Hm} (h : SlotM w (some x) y) : ∃ ao n cap, x.2.2.2 = .slice ao n cap := by
 cases y with
 | none => exact h.elim
 | some y =>
   obtain ⟨-, -, -, -, -, sl, h2, h3⟩ := h
   obtain ⟨ao, cap, rfl, -⟩ := h3.shape
   simp only [Value.agg.injEq, Array.mk.injEq, List.cons.injEq, and_true] at h2
   exact ⟨ao, _, cap, h2.2.2⟩
theorem getD_past24 {sl : List Slt} (h : sl.length = 24) {k : Nat} {x : Nat × Nat × Nat × Value} (hx : sl.getD k none = some x) : k < 24 := by
 rcases Nat.lt_or_ge k 24 with h1 | h1
 ·exact h1
 ·rw [List.getD, List.getElem?_eq_none (by omega)] at hx; cases hx
theorem hm_set {ms : List Hm} {k i : Nat} {x : Hm} (hk : k < ms.length) : (ms.set k x).getD i none = if i = k then x else ms.getD i none := by
 by_cases h : i = k
 ·subst h; simp [List.getD, hk]
 ·have h' : ¬ k = i := fun e => h e.symm
  simp [List.getD, h, h']
def FreeAt (ms : List Hm) (i : Nat) : Prop := i < 24 ∧ ms.getD i none = none ∧ ∀ j, j < i → ms.getD j none ≠ none
theorem FreeAt.uniq {ms : List Hm} {i j : Nat} (h : FreeAt ms i) (k : FreeAt ms j) : i = j := by
 rcases Nat.lt_trichotomy i j with h1 | h1 | h1
 ·exact absurd h.2.1 (k.2.2 i h1)
 ·exact h1
 ·exact absurd k.2.1 (h.2.2 j h1)
theorem FreeAt.of {w : World} {sl : List Slt} {ms : List Hm} (h : ∀ i, i < 24 → SlotM w (sl.getD i none) (ms.getD i none)) {i : Nat} (hf : FirstFree sl i) : FreeAt ms i :=
 ⟨hf.1, (h i hf.1).none_iff.1 hf.2.1, fun j hj e => hf.2.2 j hj ((h j (by have := hf.1; omega)).none_iff.2 e)⟩
theorem no_room {w : World} {sl : List Slt} {ms : List Hm} (hl : sl.length = 24) (h : ∀ i, i < 24 → SlotM w (sl.getD i none) (ms.getD i none)) (hc : sl.countP Option.isNone = 0) : ∀ i, i < 24 → ms.getD i none ≠ none := by
 intro i hi e
 have h1 := (h i hi).none_iff.2 e
 rw [List.countP_eq_zero] at hc
 have h2 := hc (sl[i]'(by omega)) (List.getElem_mem _)
 rw [List.getD, List.getElem?_eq_getElem (show i < sl.length from by omega)] at h1
 simp at h1
 simp [h1] at h2
def TypeOut (b : Nat) (r c : Nat) (zs : List Int) (ms : List Hm) (nx : Nat) (w w' : World) (h e : Int) : Prop :=
 (h = -1 ∧ e = 4 ∧ ¬ FitsP r c zs ∧ Below w.heap.size w w') ∨ (h = -1 ∧ e = 5 ∧ FitsP r c zs ∧ (∀ i, i < 24 → ms.getD i none ≠ none) ∧ Below w.heap.size w w') ∨
 (h = (nx : Int) ∧ e = 0 ∧ FitsP r c zs ∧ (∃ i, FreeAt ms i ∧ Held w' b (ms.set i (some (nx, r, c, zs))) (nx + 1)) ∧ Fr b w w')
set_option maxRecDepth 100000 in
set_option maxHeartbeats 2000000 in
theorem type_yes (b : Nat) (s : ByteArray) (r c : Nat) (zs : List Int) (ms : List Hm) (nx : Nat) (w : World) (hst : Held w b ms nx) (hnx : nx < 1000000) (hs : s.size ≤ 4000) (hr : r ≤ 99) (hc : c ≤ 99) (hw : Writes s r c zs 4000) :
 Calls Tryz.prog 15 #[.pointer (some ⟨b, 0, none⟩), .string s] w fun e w' => ∃ h e' : Int, e = .returned (.tuple #[.int .i64 h, .int .i64 e']) ∧ TypeOut b r c zs ms nx w w' h e' := by
 obtain ⟨hm24, -, sl, hsg, hsl⟩ := hst
 have HS := Hid.mk (And.intro hsg (And.intro hsl hm24))
 have HW := Hid.mk hw
 have hbl := hsg.lt
 clear hsg hsl hw hm24
 go_enter Tryz.func15, Tryz.ntmps15
 go_wp2_with fail
 refine (read_ok s r c zs 4000 _ hs hr hc HW.out).mono ?_
 rintro e w1 ⟨x, rfl, hx, hb1⟩
 obtain ⟨_, _, sl0, rfl, hg⟩ := id hx
 obtain ⟨ao, cap, rfl, -⟩ := hg.shape
 clear hg
 obtain ⟨N, hN⟩ : ∃ N, N = r * c := ⟨_, rfl⟩
 rw [← hN] at hx ⊢
 clear hN
 have K1 := Hid.mk (And.intro hx hb1)
 clear hx hb1
 go_wp2_with fail
 refine (tooBig_any _ r c zs 4000 _ (K1.out.1.below ((Below.refl _ _).alloc (Nat.le_refl _) _)) (by omega)).mono ?_
 rintro e w2 ⟨fb, rfl, hf, hb2⟩
 have h12 : Below w1.heap.size w1 w2 := ((Below.refl w1.heap.size w1).alloc (Nat.le_refl _) _).trans (hb2.mono (by simp))
 have h02 : Below w.heap.size w w2 := K1.out.2.trans (h12.mono K1.out.2.size)
 have m0 : w2.cell? ⟨w1.heap.size, 0, none⟩ = some (.int .i64 r) := cell_later hb2 (by simp)
 have m1 : w2.cell? ⟨w1.heap.size, 1, none⟩ = some (.int .i64 c) := cell_later hb2 (by simp)
 have m2 : w2.cell? ⟨w1.heap.size, 2, none⟩ = some (.slice ao N cap) := cell_later hb2 (by simp)
 have K2 := Hid.mk (And.intro (K1.out.1.below h12) (And.intro h02 hf))
 clear hb2 h12 h02 K1 hf
 cases fb
 ·have HNF : Hid (¬ FitsP r c zs) := Hid.mk (fun h => by have := K2.out.2.2.2 h; cases this)
  go_wp2_with fail
  go_ret2
  exact ⟨_, _, rfl, .inl ⟨rfl, rfl, HNF.out, K2.out.2.1⟩⟩
 ·have HFP : Hid (FitsP r c zs) := Hid.mk (K2.out.2.2.1 rfl)
  go_wp2_with fail
  refine (room_any b sl nx _ (HS.out.1.below K2.out.2.1)).mono ?_
  rintro e w' ⟨rfl, rfl⟩
  obtain ⟨rm, hrm⟩ : ∃ rm, rm = sl.countP Option.isNone := ⟨_, rfl⟩
  have HRM := Hid.mk hrm
  rw [← hrm]
  clear hrm
  by_cases h0 : rm = 0
  ·subst h0
   go_wp2_with fail
   go_ret2
   exact ⟨_, _, rfl, .inr (.inl ⟨rfl, rfl, HFP.out, no_room HS.out.1.1 HS.out.2.1 HRM.out.symm, K2.out.2.1⟩)⟩
  ·obtain ⟨n, hn⟩ := FirstFree.exists HS.out.1.1 (show 0 < sl.countP Option.isNone from by have := HRM.out; omega)
   have HFF := Hid.mk hn
   have h0' : ¬ ((rm : Int) < 1) := by omega
   clear hn h0
   go_wp2_with fail
   refine (keep_any b r c ao N cap sl nx n _ (HS.out.1.below K2.out.2.1) HFF.out (by omega)).mono ?_
   rintro e w3 ⟨rfl, hS3, hF3⟩
   have K3 := Hid.mk (And.intro hS3 (And.intro (K2.out.1.keepT hF3.2) ((Fr.of_below (p := b) K2.out.2.1).trans hF3)))
   clear hS3 hF3 K2 m0 m1 m2
   go_wp2_with fail
   go_ret2
   refine ⟨_, _, rfl, .inr (.inr ⟨rfl, rfl, HFP.out, ⟨n, FreeAt.of HS.out.2.1 HFF.out, ?_⟩, K3.out.2.2⟩)⟩
   refine ⟨by simp [HS.out.2.2], by omega, _, K3.out.1, fun i hi => ?_⟩
   rw [slt_set (by have := HS.out.1.1; have := HFF.out.1; omega), hm_set (by have := HS.out.2.2; have := HFF.out.1; omega)]
   by_cases hin : i = n
   ·rw [if_pos hin, if_pos hin]
    exact ⟨rfl, rfl, rfl, K3.out.2.1.mono (by omega)⟩
   ·rw [if_neg hin, if_neg hin]
    exact (HS.out.2.1 i hi).keep K3.out.2.2.2
open Go.RowKit
set_option maxRecDepth 100000 in
set_option maxHeartbeats 8000000 in
theorem write_any (v : Value) (r c : Nat) (zs : List Int) (L : Nat) (w : World) (hm : IsM w v r c zs L) (hL : L ≤ 200000000) (htab : Tab w) :
 Calls Tryz.prog 75 #[v] w fun e w' => e = .returned (.string ⟨(matT r c zs).toArray⟩) ∧ Below w.heap.size w w' := by
 have HM := Hid.mk (And.intro hm htab)
 obtain ⟨hr, hc, sl, rfl, hg⟩ := hm
 obtain ⟨ao, cap, rfl, -⟩ := hg.shape
 have hzl : zs.length = r * c := hg.1
 have HZ := Hid.mk hzl
 clear hg hzl htab
 obtain ⟨N, hN⟩ : ∃ N, N = r * c := ⟨_, rfl⟩
 rw [← hN] at HM ⊢
 clear hN
 obtain ⟨W0, hW0⟩ : ∃ W0, W0 = w.alloc (.cells #[.int .i64 r, .int .i64 c, .slice ao N cap] 66) := ⟨_, rfl⟩
 have HW := Hid.mk hW0
 clear hW0
 have hw0 : W0.heap.size = w.heap.size + 1 := by rw [HW.out]; simp
 have HB0 : Hid (Below w.heap.size w W0) := Hid.mk (by rw [HW.out]; exact (Below.refl _ _).alloc (Nat.le_refl _) _)
 have hrl := dec_le2 r (by omega)
 have hcl := dec_le2 c (by omega)
 go_enter Tryz.func75, Tryz.ntmps75
 go_upto_region 1 with fail
 go_cut [3] from 6 to 15 (fun t wx => t = .string ⟨(partT r c zs 0).toArray⟩ ∧ Below (w.heap.size + 1) W0 wx)
 case first =>
  go_region_with (first
   | (go_at_call 85; refine (rows_raw _ _ _ _ _ _).mono ?_; rintro e w' ⟨rfl, rfl⟩)
   | (go_at_call 84; refine (cols_raw _ _ _ _ _ _).mono ?_; rintro e w' ⟨rfl, rfl⟩)
   | (go_at_call 109; refine (Tryz.strconv_Itoa_small _ (by omega) _).mono ?_; rintro e w' ⟨rfl, rfl⟩))
  all_goals
   go_wp2_with fail
   go_meet
   case rel =>
    rw [HW.out]
    exact ⟨part0 r c zs, by repeat (first | exact Below.refl _ _ | refine Below.drew ?_ | refine Below.alloc ?_ (by simp <;> omega) _)⟩
 case rest =>
  obtain ⟨rfl, hbc⟩ := hcut
  have HBC := Hid.mk hbc
  clear hbc
  obtain ⟨T0, hT0⟩ : ∃ T0, T0 = partT r c zs 0 := ⟨_, rfl⟩
  have hT0l : T0.length ≤ 10 := by
   rw [hT0]; unfold partT; simp [bodyT]; omega
  have HT0 := Hid.mk hT0
  rw [← hT0]
  clear hT0
  go_wp2_with fail
  go_loopw [3, 4] (fun t i wr => ∃ (k : Nat) (T : List UInt8), k ≤ r ∧ i = .int .i64 k ∧ t = .string ⟨T.toArray⟩ ∧ T.length ≤ 250000000000 * k + 10 ∧ Below (w.heap.size + 1) W0 wr ∧ Hid (T = partT r c zs (k * c))) (fun _ i _ => r - (intOf i).toNat)
  case atStart => exact ⟨0, T0, Nat.zero_le _, rfl, rfl, by omega, HBC.out, Hid.mk (by rw [HT0.out, Nat.zero_mul])⟩
  case round =>
   rename World => wr0
   obtain ⟨k, T, hk, rfl, rfl, hT, hbel, HI⟩ := hrel
   have hwr := hbel.size
   have hbx : MBox wr0 w.heap.size r c (.slice ao N cap) := (MBox.new w r c (.slice ao N cap) rfl).below (by rw [← HW.out]; exact hbel) (by omega)
   obtain ⟨a0, a1, a2, -⟩ := hbx.cells
   have HB := Hid.mk hbel
   clear hbel hbx
   go_wp2_with fail
   refine (rows_raw _ _ _ _ _ _).mono ?_
   rintro e w' ⟨rfl, rfl⟩
   by_cases hkr : k < r
   ·go_wp2_with fail
    go_loopw [3, 5] (fun t i ws => ∃ (j : Nat) (T' : List UInt8), j ≤ c ∧ i = .int .i64 j ∧ t = .string ⟨T'.toArray⟩ ∧ T'.length ≤ 250000000000 * k + 10 + 2500000000 * j ∧ Below (w.heap.size + 1) W0 ws ∧ Hid (T' = partT r c zs (k * c + j))) (fun _ i _ => c - (intOf i).toNat)
    case atStart => exact ⟨0, T, Nat.zero_le _, rfl, rfl, by omega, HB.out.alloc (by omega) _, Hid.mk (by rw [HI.out, Nat.add_zero])⟩
    case round =>
     clear a0 a1 a2
     obtain ⟨j, T', hj, rfl, rfl, hT', hbel, HJ⟩ := hrel
     have hws := hbel.size
     have hbx : MBox wr w.heap.size r c (.slice ao N cap) := (MBox.new w r c (.slice ao N cap) rfl).below (by rw [← HW.out]; exact hbel) (by omega)
     obtain ⟨a0, a1, a2, -⟩ := hbx.cells
     have HB2 := Hid.mk (And.intro hbel hbx)
     clear hbel hbx
     go_wp2_with fail
     refine (cols_raw _ _ _ _ _ _).mono ?_
     rintro e w' ⟨rfl, rfl⟩
     have b0 := cell1 a0
     have b1 := cell1 a1
     have b2 := cell1 a2
     by_cases hjc : j < c
     ·have hcases : k = 0 ∨ (0 < k ∧ j = 0) ∨ (0 < k ∧ 0 < j) := by omega
      obtain ⟨jj, hjj⟩ : ∃ jj, jj = j := ⟨_, rfl⟩
      have HJJ := Hid.mk hjj
      have hjjc : jj < c := by omega
      obtain ⟨S, hS⟩ : ∃ S : List UInt8, S = if 0 < k ∧ jj = 0 then [59] else [] := ⟨_, rfl⟩
      have HS := Hid.mk hS
      have hnx := HZ.out
      have hidx : k * c + jj < zs.length := by rw [hnx]; exact idx_lt hkr hjjc
      have HNX := Hid.mk (partT_next (r := r) (i := k) hjjc hidx)
      clear hnx hidx
      rcases hcases with h0 | ⟨h0, h1⟩ | ⟨h0, h1⟩
      case' inl =>
       have f1 : decide (0 < k) = false := decide_eq_false (by omega)
       have f2 : decide ((0 : Int) < (k : Int)) = false := decide_eq_false (by omega)
       rw [if_neg (by omega)] at hS
       have HS1 := Hid.mk hS
       clear hS h0 hjj
      case' inr.inl =>
       rw [if_pos ⟨h0, by omega⟩] at hS
       have HS1 := Hid.mk hS
       clear hS hjj
       subst h1
      case' inr.inr =>
       have f1 : ((j : Int) == 0) = false := beq_eq_false_iff_ne.2 (by omega)
       rw [if_neg (by omega)] at hS
       have HS1 := Hid.mk hS
       clear hS hjj
      all_goals
       go_wp2_with fail
       first
        | refine (at_in _ r c k j zs L _ (HM.out.1.below ?_) hkr hjc).mono ?_
        | refine (at_in _ r c k 0 zs L _ (HM.out.1.below ?_) hkr hjc).mono ?_
       ·exact HB0.out.trans ((HB2.out.1.alloc (by omega) _).mono (by omega))
       rintro e w2 ⟨x, rfl, hx, hb2⟩
       obtain ⟨nb, bo, mm, ecap, rfl⟩ := hx.shape
       have hb02 : Below w.heap.size w w2 := (HB0.out.trans ((HB2.out.1.alloc (by omega) _).mono (by omega))).trans (hb2.mono (by simp; omega))
       have hb2' : Below (w.heap.size + 1) W0 w2 := (HB2.out.1.alloc (by omega) _).trans (hb2.mono (by simp; omega))
       have K2 := Hid.mk (And.intro hx (And.intro hb02 hb2'))
       clear hx hb2 hb02 hb2'
       go_wp2_with fail
       refine (decimal_any _ _ L _ K2.out.1 hL (HM.out.2.below K2.out.2.1)).mono ?_
       rintro e w3 ⟨rfl, hb3⟩
       have hb3' : Below (w.heap.size + 1) W0 w3 := K2.out.2.2.trans (hb3.mono (by have := K2.out.2.2.size; omega))
       have K3 := Hid.mk hb3'
       clear hb3 hb3'
       obtain ⟨D, hD⟩ : ∃ D, D = Lib.itoa (zs.getD (k * c + jj) 0) := ⟨_, rfl⟩
       rw [HJJ.out] at hD
       rw [← hD]
       have hDl : D.length ≤ 2400000001 := by rw [hD]; exact itoa_len K2.out.1 hL
       rw [← HJJ.out] at hD
       have HD := Hid.mk hD
       clear hD
       go_wp2_with fail
       go_roundw
       case measure => simp [intOf]; omega
       case rel =>
        have hv : T' ++ (S ++ (32 :: D)) = partT r c zs (k * c + (jj + 1)) := by
         rw [show k * c + (jj + 1) = k * c + jj + 1 from rfl, HNX.out, ← HS.out, ← HD.out, HJJ.out, ← HJ.out]
        have hl : (T' ++ (S ++ (32 :: D))).length ≤ T'.length + 2400000010 := by
         have : S.length ≤ 1 := by rw [HS1.out]; simp
         simp only [List.length_append, List.length_cons]; omega
        rw [HJJ.out] at hv
        have hl2 : ∀ n : Nat, n = jj + 1 → (T' ++ (S ++ (32 :: D))).length ≤ 250000000000 * k + 10 + 2500000000 * n := by
         intro n hn
         rw [HJJ.out] at hn
         subst hn
         exact Nat.le_trans hl (by omega)
        first
         | refine ⟨j + 1, T' ++ (S ++ (32 :: D)), by omega, by go_num, ?_, hl2 _ (by rw [HJJ.out]), K3.out, Hid.mk hv⟩
         | refine ⟨0 + 1, T' ++ (S ++ (32 :: D)), by omega, by go_num, ?_, hl2 _ (by rw [HJJ.out]), K3.out, Hid.mk hv⟩
        rw [HS1.out]
        first | exact wval0 _ _ | exact wval1 _ _
     ·have hje : j = c := by omega
      have HJE := Hid.mk hje
      clear hje
      go_wp2_with fail
      go_roundw
      case measure => simp [intOf]; omega
      case rel => exact ⟨k + 1, T', by omega, by go_num, rfl, by have := HJE.out; omega, HB2.out.1.alloc (by omega) _, Hid.mk (by rw [HJ.out, HJE.out, Nat.add_mul, Nat.one_mul])⟩
   ·have hke : k = r := by omega
    have HKE := Hid.mk hke
    clear hke
    go_wp2_with fail
    go_ret
    refine ⟨rret_w (by rw [HI.out, HKE.out, partT_all (by rw [HZ.out]; exact Nat.le_refl _)]), ?_⟩
    exact HB0.out.trans ((HB.out.alloc (by omega) _).mono (by omega))
open Go.RowKit
def ShowOut (ms : List Hm) (h : Int) (t : List UInt8) (e : Int) : Prop := (e = 0 ∧ ∃ k x, k < 24 ∧ ms.getD k none = some x ∧ (x.1 : Int) = h ∧ t = matT x.2.1 x.2.2.1 x.2.2.2) ∨ (e = 2 ∧ t = [] ∧ ∀ k, k < 24 → ∀ x, ms.getD k none = some x → (x.1 : Int) ≠ h)
theorem none_of {w : World} {sl : List Slt} {ms : List Hm} {h : Int} (hsl : ∀ i, i < 24 → SlotM w (sl.getD i none) (ms.getD i none)) (hno : ∀ k, k < 24 → ∀ x, sl.getD k none = some x → (x.1 : Int) ≠ h) : ∀ k, k < 24 → ∀ x, ms.getD k none = some x → (x.1 : Int) ≠ h := by
 intro k hk x hx
 have h1 := hsl k hk
 rw [hx] at h1
 cases hs : sl.getD k none with
 | none => rw [hs] at h1; exact h1.elim
 | some y =>
   rw [hs] at h1
   have := hno k hk y hs
   rw [h1.1] at this
   exact this
theorem some_of {w : World} {sl : List Slt} {ms : List Hm} {k : Nat} {x : Nat × Nat × Nat × Value} (hsl : ∀ i, i < 24 → SlotM w (sl.getD i none) (ms.getD i none)) (hk : k < 24) (hx : sl.getD k none = some x) : ∃ y, ms.getD k none = some y ∧ x.1 = y.1 ∧ x.2.1 = y.2.1 ∧ x.2.2.1 = y.2.2.1 ∧ IsM w (.agg #[.int .i64 (x.2.1 : Nat), .int .i64 (x.2.2.1 : Nat), x.2.2.2]) y.2.1 y.2.2.1 y.2.2.2 200000000 := by
 have h1 := hsl k hk
 rw [hx] at h1
 cases hs : ms.getD k none with
 | none => rw [hs] at h1; exact h1.elim
 | some y => rw [hs] at h1; exact ⟨y, rfl, h1⟩
set_option maxRecDepth 100000 in
set_option maxHeartbeats 1000000 in
theorem show_any (b : Nat) (h : Int) (ms : List Hm) (nx : Nat) (w : World) (hst : Held w b ms nx) (htab : Tab w) :
 Calls Tryz.prog 43 #[.pointer (some ⟨b, 0, none⟩), .int .i64 h] w fun e w' => ∃ t e', e = .returned (.tuple #[.string ⟨t.toArray⟩, .int .i64 e']) ∧ ShowOut ms h t e' ∧ Below w.heap.size w w' := by
 obtain ⟨hm24, -, sl, hsg, hsl⟩ := hst
 have HS := Hid.mk (And.intro hsg (And.intro hsl (And.intro hm24 htab)))
 have HSH : Hid (∀ k x, sl.getD k none = some x → ∃ ao n cap, x.2.2.2 = .slice ao n cap) := Hid.mk (fun k x hx => by
  have hk := getD_past24 hsg.1 hx
  have h1 := hsl k hk
  rw [hx] at h1
  exact h1.shape)
 clear hsg hsl hm24 htab
 go_enter Tryz.func43, Tryz.ntmps43
 go_wp2_with fail
 refine (find_any b h sl nx _ HS.out.1 HSH.out).mono ?_
 rintro e w1 ⟨⟨v, ok, rfl, hf⟩, hb1⟩
 rcases hf with ⟨rfl, k, hk, x, hx, hxh, rfl⟩ | ⟨rfl, rfl, hno⟩
 ·obtain ⟨y, hy, e1, e2, e3, hM⟩ := some_of HS.out.2.1 hk hx
  obtain ⟨ao, n, cap, hv⟩ := HSH.out k x hx
  obtain ⟨hd, r, c, v⟩ := x
  obtain ⟨hd', r', c', zs⟩ := y
  simp only at e1 e2 e3 hM hv hxh
  subst e1; subst e2; subst e3; subst hv
  have K := Hid.mk (And.intro hM (And.intro hb1 (And.intro hy hxh)))
  clear hM hb1 hy hxh hx
  go_wp2_with fail
  have hB : Below w.heap.size w (w1.alloc (.cells #[.int .i64 r, .int .i64 c, .slice ao n cap] 66)) := K.out.2.1.alloc K.out.2.1.size _
  refine (write_any _ r c zs 200000000 _ (K.out.1.below hB) (by omega) (HS.out.2.2.2.below hB)).mono ?_
  rintro e w2 ⟨rfl, hb2⟩
  have K2 := Hid.mk (hB.trans (hb2.mono hB.size))
  clear hb2 hB
  obtain ⟨T, hT⟩ : ∃ T, T = matT r c zs := ⟨_, rfl⟩
  have HT := Hid.mk hT
  rw [← hT]
  clear hT
  go_wp2_with fail
  go_ret2
  exact ⟨_, _, rfl, .inl ⟨rfl, k, (hd, r, c, zs), hk, K.out.2.2.1, K.out.2.2.2, HT.out⟩, K2.out⟩
 ·have K := Hid.mk (And.intro hb1 hno)
  clear hb1 hno
  go_wp2_with fail
  go_ret2
  exact ⟨[], _, rfl, .inr ⟨rfl, rfl, none_of HS.out.2.1 K.out.2⟩, K.out.1.alloc K.out.1.size _⟩
set_option maxRecDepth 100000 in
theorem zero_facts : Tryz.zeroCells103.size = 121 ∧ Tryz.zeroCells103[120]? = some (.int .i64 0) ∧ ∀ i, i < 24 → Tryz.zeroCells103[i * 5]? = some (.bool false) := by
 refine ⟨rfl, rfl, fun i hi => ?_⟩
 obtain rfl | rfl | rfl | rfl | rfl | rfl | rfl | rfl | rfl | rfl | rfl | rfl | rfl | rfl | rfl | rfl | rfl | rfl | rfl | rfl | rfl | rfl | rfl | rfl : i = 0 ∨ i = 1 ∨ i = 2 ∨ i = 3 ∨ i = 4 ∨ i = 5 ∨ i = 6 ∨ i = 7 ∨ i = 8 ∨ i = 9 ∨ i = 10 ∨ i = 11 ∨ i = 12 ∨ i = 13 ∨ i = 14 ∨ i = 15 ∨ i = 16 ∨ i = 17 ∨ i = 18 ∨ i = 19 ∨ i = 20 ∨ i = 21 ∨ i = 22 ∨ i = 23 := by omega
 all_goals rfl
theorem rep_none {α : Type} (n i : Nat) : (List.replicate n (none : Option α)).getD i none = none := by
 rw [List.getD, List.getElem?_replicate]
 by_cases h : i < n
 ·rw [if_pos h]; rfl
 ·rw [if_neg h]; rfl
set_option maxRecDepth 100000 in
set_option maxHeartbeats 1000000 in
theorem new_held (w : World) :
 Calls Tryz.prog 30 #[] w fun e w' => e = .returned (.pointer (some ⟨w.heap.size, 0, none⟩)) ∧ Held w' w.heap.size (List.replicate 24 none) 0 ∧ Below w.heap.size w w' := by
 go_enter Tryz.func30, Tryz.ntmps30
 go_wp2_with fail
 go_ret
 refine ⟨rfl, ⟨by simp, by omega, List.replicate 24 none, ⟨by simp, Tryz.zeroCells103, heap_alloc_new w _, zero_facts.1, zero_facts.2.1, fun i hi => ?_⟩, fun i hi => ?_⟩, (Below.refl _ _).alloc (Nat.le_refl _) _⟩
 ·rw [rep_none]
  exact zero_facts.2.2 i hi
 ·rw [rep_none, rep_none]
  trivial
open Go.RowKit
def FoundM (w : World) (ms : List Hm) (g : Int) (r q : Nat) (v : Value) (ok : Bool) : Prop := (ok = true ∧ ∃ i hd zs, i < 24 ∧ ms.getD i none = some (hd, r, q, zs) ∧ (hd : Int) = g ∧ IsM w v r q zs 200000000) ∨ (ok = false ∧ ∀ k, k < 24 → ∀ x, ms.getD k none = some x → (x.1 : Int) ≠ g)
theorem FoundM.below {w w' : World} {ms : List Hm} {g : Int} {r q : Nat} {v : Value} {ok : Bool} (h : FoundM w ms g r q v ok) (hb : Below w.heap.size w w') : FoundM w' ms g r q v ok := by
 rcases h with ⟨h1, i, hd, zs, h2, h3, h4, h5⟩ | h
 ·exact .inl ⟨h1, i, hd, zs, h2, h3, h4, h5.below hb⟩
 ·exact .inr h
theorem find_held (b : Nat) (g : Int) (ms : List Hm) (nx : Nat) (w : World) (hst : Held w b ms nx) :
 Calls Tryz.prog 36 #[.pointer (some ⟨b, 0, none⟩), .int .i64 g] w fun e w' => (∃ r q ao n cap ok, e = .returned (.tuple #[.agg #[.int .i64 ((r : Nat) : Int), .int .i64 ((q : Nat) : Int), .slice ao n cap], .bool ok]) ∧ FoundM w' ms g r q (.agg #[.int .i64 (r : Nat), .int .i64 (q : Nat), .slice ao n cap]) ok) ∧ Below w.heap.size w w' := by
 obtain ⟨hm24, -, sl, hsg, hsl⟩ := hst
 have hsh : ∀ k x, sl.getD k none = some x → ∃ ao n cap, x.2.2.2 = .slice ao n cap := fun k x hx => by
  have hk := getD_past24 hsg.1 hx
  have h1 := hsl k hk
  rw [hx] at h1
  exact h1.shape
 refine (find_any b g sl nx w hsg hsh).mono ?_
 rintro e w1 ⟨⟨v, ok, rfl, hf⟩, hb1⟩
 refine ⟨?_, hb1⟩
 rcases hf with ⟨rfl, k, hk, x, hx, hxh, rfl⟩ | ⟨rfl, rfl, hno⟩
 ·obtain ⟨y, hy, e1, e2, e3, hM⟩ := some_of hsl hk hx
  obtain ⟨ao, n, cap, hv⟩ := hsh k x hx
  obtain ⟨hd, r, c, v⟩ := x
  obtain ⟨hd', r', c', zs⟩ := y
  simp only at e1 e2 e3 hM hv hxh
  subst e1; subst e2; subst e3; subst hv
  exact ⟨r, c, ao, n, cap, true, rfl, .inl ⟨rfl, k, hd, zs, hk, hy, hxh, hM.below hb1⟩⟩
 ·exact ⟨0, 0, none, 0, 0, false, rfl, .inr ⟨rfl, none_of hsl hno⟩⟩
theorem keep_held (b r c : Nat) (ao : Option Addr) (m cap : Nat) (zs : List Int) (ms : List Hm) (nx n : Nat) (w : World) (hst : Held w b ms nx) (hM : IsM w (.agg #[.int .i64 r, .int .i64 c, .slice ao m cap]) r c zs 200000000) (hn : FreeAt ms n) (hnx : nx < 1000000) :
 Calls Tryz.prog 35 #[.pointer (some ⟨b, 0, none⟩), .agg #[.int .i64 r, .int .i64 c, .slice ao m cap]] w fun e w' => e = .returned (.int .i64 (nx : Nat)) ∧ Held w' b (ms.set n (some (nx, r, c, zs))) (nx + 1) ∧ Fr b w w' := by
 obtain ⟨hm24, -, sl, hsg, hsl⟩ := hst
 have hff : FirstFree sl n := ⟨hn.1, (hsl n hn.1).none_iff.2 hn.2.1, fun j hj e => hn.2.2 j hj ((hsl j (by have := hn.1; omega)).none_iff.1 e)⟩
 refine (keep_any b r c ao m cap sl nx n w hsg hff (by omega)).mono ?_
 rintro e w3 ⟨rfl, hS3, hF3⟩
 refine ⟨rfl, ⟨by simp [hm24], by omega, _, hS3, fun i hi => ?_⟩, hF3⟩
 rw [slt_set (by have := hsg.1; have := hff.1; omega), hm_set (by have := hff.1; omega)]
 by_cases hin : i = n
 ·rw [if_pos hin, if_pos hin]
  exact ⟨rfl, rfl, rfl, hM.keepT hF3.2⟩
 ·rw [if_neg hin, if_neg hin]
  exact (hsl i hi).keep hF3.2
theorem room_held (b : Nat) (ms : List Hm) (nx : Nat) (w : World) (hst : Held w b ms nx) :
 Calls Tryz.prog 34 #[.pointer (some ⟨b, 0, none⟩)] w fun e w' => e = .returned (.int .i64 ((ms.countP Option.isNone : Nat) : Int)) ∧ w' = w := by
 obtain ⟨hm24, -, sl, hsg, hsl⟩ := hst
 refine (room_any b sl nx w hsg).mono ?_
 rintro e w' ⟨rfl, rfl⟩
 refine ⟨?_, rfl⟩
 have key : ∀ (a : List Slt) (m : List Hm), a.length = m.length → (∀ i, i < a.length → ((a.getD i none).isNone = (m.getD i none).isNone)) → a.countP Option.isNone = m.countP Option.isNone := by
  intro a
  induction a with
  | nil => intro m hl _; cases m with
    | nil => rfl
    | cons => simp at hl
  | cons x a ih => intro m hl h; cases m with
    | nil => simp at hl
    | cons y m =>
      have h0 := h 0 (by simp)
      have h1 := ih m (by simpa using hl) (fun i hi => by have := h (i + 1) (by simpa using hi); simpa using this)
      rw [List.countP_cons, List.countP_cons, h1]
      simp at h0
      rw [h0]
 rw [key sl ms (by rw [hsg.1, hm24]) (fun i hi => by
  have h1 := (hsl i (by have := hsg.1; omega)).none_iff
  cases hx : sl.getD i none with
  | none => rw [h1.1 hx]; rfl
  | some x => cases hy : ms.getD i none with
    | none => rw [h1.2 hy] at hx; cases hx
    | some y => rfl)]
theorem free_of_room {ms : List Hm} (hl : ms.length = 24) (h : 0 < ms.countP Option.isNone) : ∃ n, FreeAt ms n := by
 have h1 : ∃ i, i < 24 ∧ ms.getD i none = none := by
  rw [List.countP_pos_iff] at h
  obtain ⟨x, hx, hn⟩ := h
  obtain ⟨i, hi, rfl⟩ := List.mem_iff_getElem.1 hx
  refine ⟨i, by omega, ?_⟩
  rw [List.getD, List.getElem?_eq_getElem hi]
  simpa using hn
 obtain ⟨i, hi, he⟩ := h1
 induction i using Nat.strongRecOn with
 | ind i ih =>
   by_cases h : ∃ j, j < i ∧ ms.getD j none = none
   ·obtain ⟨j, hj, hjn⟩ := h
    exact ih j hj (by omega) hjn
   ·exact ⟨i, hi, he, fun j hj hjn => h ⟨j, hj, hjn⟩⟩
theorem full_of_room {ms : List Hm} (hl : ms.length = 24) (h : ms.countP Option.isNone = 0) : ∀ i, i < 24 → ms.getD i none ≠ none := by
 intro i hi e
 rw [List.countP_eq_zero] at h
 have h2 := h (ms[i]'(by omega)) (List.getElem_mem _)
 rw [List.getD, List.getElem?_eq_getElem (show i < ms.length from by omega)] at e
 simp at e
 simp [e] at h2
end Go.Proofs.YtfjbijpagaipnabGreatDoor
