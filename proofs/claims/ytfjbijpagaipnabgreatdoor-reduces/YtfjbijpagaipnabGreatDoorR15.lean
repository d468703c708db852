import Derived.Test.YtfjbijpagaipnabGreatDoorR14
import Derived.Test.YtfjbijpagaipnabGreatDoorR06
import Derived.Lib.ItoaLen
namespace Go.Proofs.YtfjbijpagaipnabGreatDoor.R
open Go.RowKit
theorem rstr_app (a b : List UInt8) : (⟨a.toArray⟩ : ByteArray) ++ ⟨b.toArray⟩ = ⟨(a ++ b).toArray⟩ := by
 apply ByteArray.ext
 simp
theorem rret_str {s t : ByteArray} (h : s = t) : Ending.returned (.string s) = .returned (.string t) := by rw [h]
theorem rval_str {s t : ByteArray} (h : s = t) : Value.string s = .string t := by rw [h]
theorem rbyte_str (w : World) (d : Nat) (hd : d < 10) (z : Int) (hz : z = 48 + (d : Int)) (bt : UInt8) (hbt : bt = UInt8.ofNat (48 + d)) :
 (convert 85 9 (.slice (some ⟨w.heap.size, 0, none⟩) 1 1)).run Tryz.prog (w.alloc (.cells #[.int .u8 z] 5)) = .ok (.string ⟨[bt].toArray⟩) (w.alloc (.cells #[.int .u8 z] 5)) := by
 subst hbt
 have h := run_convert_bytes_back (P := Tryz.prog) (w.alloc (.cells #[.int .u8 z] 5)) 85 9 5 ⟨w.heap.size, 0, none⟩ 1 [UInt8.ofNat (48 + d)] Tryz.underlying85 Tryz.underlying5 Tryz.underlying9 (fun j hj => by
  have hj0 : j = 0 := by simpa using hj
  subst hj0
  rw [Lib.add_plain, World.cell?_alloc_new]
  have e : ((UInt8.ofNat (48 + d)).toNat : Int) = z := by
   rw [hz, UInt8.toNat_ofNat', Nat.mod_eq_of_lt (by omega)]; omega
  simp only [List.getElem_cons_zero]
  rw [e]
  rfl)
 exact h
theorem padD_cons (m d l : Nat) (hd : d < 10) (hl : l < 10 ^ m) : padD (m + 1) (d * 10 ^ m + l) = UInt8.ofNat (48 + d) :: padD m l := by
 induction m generalizing l with
 | zero =>
   have h0 : l = 0 := by simpa using hl
   subst h0
   simp [padD, Nat.mod_eq_of_lt hd]
 | succ m ih =>
   rw [padD]
   have h1 : (d * 10 ^ (m + 1) + l) / 10 = d * 10 ^ m + l / 10 := by
    rw [Nat.pow_succ, ← Nat.mul_assoc]; omega
   have h2 : (d * 10 ^ (m + 1) + l) % 10 = l % 10 := by
    rw [Nat.pow_succ, ← Nat.mul_assoc]; omega
   rw [h1, h2, ih (l / 10) (by rw [Nat.pow_succ] at hl; omega)]
   rfl
def Tx (V v m : Nat) (t : List UInt8) : Prop := ∃ l, l < 10 ^ m ∧ V = v * 10 ^ m + l ∧ t = padD m l
theorem Tx.next {V v m : Nat} {t : List UInt8} (h : Tx V v m t) : Tx V (v / 10) (m + 1) (UInt8.ofNat (48 + v % 10) :: t) := by
 obtain ⟨l, h1, h2, h3⟩ := h
 refine ⟨v % 10 * 10 ^ m + l, ?_, ?_, ?_⟩
 ·rw [Nat.pow_succ]
  have := Nat.mul_le_mul_right (10 ^ m) (show v % 10 ≤ 9 from by omega)
  omega
 ·rw [h2, Nat.pow_succ]
  have h4 : v / 10 * (10 ^ m * 10) + v % 10 * 10 ^ m = v * 10 ^ m := by
   rw [Nat.mul_comm (10 ^ m) 10, ← Nat.mul_assoc, ← Nat.add_mul]
   congr 1
   omega
  omega
 ·rw [padD_cons m _ l (by omega) h1, h3]
theorem Tx.last {V v m : Nat} {t : List UInt8} (h : Tx V v m t) (hv : 0 < v) (hv2 : v < 10) : UInt8.ofNat (48 + v % 10) :: t = Lib.decDigits V := by
 obtain ⟨l, h1, h2, h3⟩ := h
 rw [h2, decDigits_split m v l hv h1, Lib.decDigits_one hv2, h3, Nat.mod_eq_of_lt hv2]
 rfl
theorem dig_at_ {xs : List Nat} (h : Lim xs) : xs ≠ [] → 0 < xs.getD (xs.length - 1) 0 := fun hne => by
 rcases h.2 with h2 | h2
 ·exact absurd h2 hne
 ·exact h2
theorem pow4 (i : Nat) : (10000 : Nat) ^ i = 10 ^ (4 * i) := by rw [Nat.pow_mul]
def TP (V rest m : Nat) (t : List UInt8) : Prop := (0 < rest → Tx V rest m t) ∧ (rest = 0 → t = Lib.decDigits V)
theorem TP.step {V rest m : Nat} {t : List UInt8} (h : TP V rest m t) (hr : 0 < rest) : TP V (rest / 10) (m + 1) (UInt8.ofNat (48 + rest % 10) :: t) :=
 ⟨fun _ => (h.1 hr).next, fun h0 => (h.1 hr).last hr (by omega)⟩
def rst (v k D : Nat) : Nat := v + 10 ^ (4 - k) * D
theorem rst_step (v k D : Nat) (hk : k < 4) : rst v k D % 10 = v % 10 ∧ rst v k D / 10 = rst (v / 10) (k + 1) D := by
 unfold rst
 have e : 10 ^ (4 - k) * D = 10 * (10 ^ (4 - (k + 1)) * D) := by
  rw [show 4 - k = (4 - (k + 1)) + 1 from by omega, Nat.pow_succ, Nat.mul_comm (10 ^ (4 - (k + 1))) 10, Nat.mul_assoc]
 rw [e]
 constructor
 ·omega
 ·omega
theorem rst_pos (v k D : Nat) (h : 0 < v ∨ 0 < D) : 0 < rst v k D := by
 unfold rst
 rcases h with h | h
 ·omega
 ·have : 0 < 10 ^ (4 - k) * D := Nat.mul_pos (Nat.pow_pos (by decide)) h
  omega
theorem rst_start (xs : List Nat) (i : Nat) (hi : i < xs.length) : val (xs.drop i) = rst (xs.getD i 0) 0 (val (xs.drop (i + 1))) := by
 rw [drop_getD xs i hi, val_cons]; rfl
theorem rst_end (D : Nat) : rst 0 4 D = D := by simp [rst]
theorem drop_pos {xs : List Nat} (h : Lim xs) (i : Nat) (hi : i < xs.length) : 0 < val (xs.drop i) := by
 have hne : xs ≠ [] := by intro e; rw [e] at hi; simp at hi
 have h1 := dig_at_ h hne
 have h2 := val_take_drop xs i (by omega)
 have h3 := val_top h (by omega)
 rcases Nat.eq_zero_or_pos (val (xs.drop i)) with h4 | h4
 ·exfalso
  rw [h4, Nat.mul_zero, Nat.add_zero] at h2
  have h5 := val_lt (Lo_take h.1 i)
  rw [List.length_take, Nat.min_eq_left (by omega)] at h5
  have h6 : 10000 ^ i ≤ 10000 ^ (xs.length - 1) := Nat.pow_le_pow_right (by decide) (by omega)
  omega
 ·exact h4
set_option maxRecDepth 100000 in
set_option maxHeartbeats 4000000 in
theorem text_any (v : Value) (z : Int) (L : Nat) (w : World) (hv : IsN w v z L) (hL : L ≤ 50000000000) :
 Calls Tryz.prog 158 #[v] w fun e w' => e = .returned (.string ⟨(Lib.itoa z).toArray⟩) ∧ Below w.heap.size w w' := by
 obtain ⟨na, ao, cap, xs, rfl, h2, h3, h4, h5, h6⟩ := id hv.parts
 have H := Hid.mk (And.intro h2 (And.intro h3 (And.intro h4 h5)))
 clear hv h2 h3 h4 h5
 obtain ⟨W0, hW0⟩ : ∃ W0, W0 = w.alloc (.cells #[.bool na, .slice ao xs.length cap] 171) := ⟨_, rfl⟩
 have HW := Hid.mk hW0
 clear hW0
 by_cases h0 : xs.length = 0
 ·have h0' : ((xs.length : Int) == 0) = true := beq_iff_eq.2 (by omega)
  have hx : xs = [] := List.eq_nil_of_length_eq_zero h0
  have HX := Hid.mk hx
  clear hx h0
  go_enter Tryz.func158, Tryz.ntmps158
  go_wp2_with fail
  go_ret
  refine ⟨rret_str ?_, (Below.refl _ _).alloc (Nat.le_refl _) _⟩
  have h5 := H.out.2.2.2
  have h4 := H.out.2.2.1
  rw [HX.out] at h5 h4
  have hz : z = 0 := by rw [h5]; cases na <;> simp [val]
  rw [hz, show Lib.itoa 0 = [48] from by rw [show (0 : Int) = ((0 : Nat) : Int) from rfl, Lib.itoa_nonneg, Lib.decDigits_one (by decide)]; rfl]
 ·have h0' : ((xs.length : Int) == 0) = false := beq_eq_false_iff_ne.2 (by omega)
  have hpos : 0 < xs.length := by omega
  clear h0
  go_enter Tryz.func158, Tryz.ntmps158
  go_wp2_with fail
  rw [← HW.out]
  go_loopw [3, 4] (fun t i wr => ∃ (k : Nat) (T : List UInt8), k ≤ xs.length ∧ i = .int .i64 k ∧ t = .string ⟨T.toArray⟩ ∧ T.length ≤ 4 * k ∧ Below (w.heap.size + 1) W0 wr ∧ Hid (TP (val xs) (val (xs.drop k)) (4 * k) T)) (fun _ i _ => xs.length - (intOf i).toNat)
  case atStart =>
   refine ⟨0, [], Nat.zero_le _, rfl, rfl, by simp, Below.refl _ _, Hid.mk ⟨fun _ => ⟨0, by simp, by simp, by simp [padD]⟩, fun h => ?_⟩⟩
   have := drop_pos H.out.2.1 0 hpos
   omega
  case round =>
   rename World => wr0
   obtain ⟨i, T, hi, rfl, rfl, hT, hbel, HI⟩ := hrel
   have hw0 : W0.heap.size = w.heap.size + 1 := by rw [HW.out]; simp
   have hwr := hbel.size
   have hbx : NBox wr0 w.heap.size (.bool na) (.slice ao xs.length cap) := (NBox.new w (.bool na) (.slice ao xs.length cap) rfl).below (by rw [← HW.out]; exact hbel) (by omega)
   obtain ⟨a1, a2, -, -⟩ := hbx.cells
   have K := Hid.mk hbel
   clear hbx
   by_cases hil : i < xs.length
   ·obtain ⟨ba, rfl, ca⟩ := (H.out.1.below (show Below w.heap.size w wr0 from by rw [HW.out] at hbel; exact ((Below.refl w.heap.size w).alloc (Nat.le_refl _) _).trans (hbel.mono (by omega)))).at_ rfl i hil
    clear hbel
    obtain ⟨x, hx⟩ : ∃ x, x = xs.getD i 0 := ⟨_, rfl⟩
    have hxl := Lo_get H.out.2.1.1 i
    rw [← hx] at ca hxl
    have HX := Hid.mk hx
    clear hx
    go_wp2_with fail
    go_loopw [3, 5, 6] (fun t v k ws => ∃ (kk vv : Nat) (T' : List UInt8), kk ≤ 4 ∧ v = .int .i64 vv ∧ k = .int .i64 kk ∧ t = .string ⟨T'.toArray⟩ ∧ T'.length ≤ 4 * i + kk ∧ vv ≤ 9999 ∧ Below (w.heap.size + 1) W0 ws ∧ Hid (vv < 10 ^ (4 - kk) ∧ TP (val xs) (rst vv kk (val (xs.drop (i + 1)))) (4 * i + kk) T')) (fun _ _ k _ => 4 - (intOf k).toNat)
    case atStart =>
     refine ⟨0, x, T, by omega, rfl, rfl, rfl, hT, by omega, K.out, Hid.mk ⟨by omega, ?_⟩⟩
     have h1 := HI.out
     rw [rst_start xs i hil, ← HX.out] at h1
     exact h1
    case round =>
     clear a1 a2 ca
     obtain ⟨kk, vv, T', hkk, rfl, rfl, rfl, hT', hvv, hbel2, HJ⟩ := hrel
     have hwr2 := hbel2.size
     have hbx : NBox wr w.heap.size (.bool na) (.slice (some ⟨ba, 0, none⟩) xs.length cap) := (NBox.new w (.bool na) (.slice (some ⟨ba, 0, none⟩) xs.length cap) rfl).below (by rw [← HW.out]; exact hbel2) (by omega)
     obtain ⟨a1, a2, -, -⟩ := hbx.cells
     have J := Hid.mk hbel2
     clear hbx hbel2
     by_cases hkk4 : kk < 4
     ·by_cases hv0 : 0 < vv
      ·have hv0' : (0 : Int) < (vv : Int) := by omega
       obtain ⟨bt, hbt⟩ : ∃ bt, bt = UInt8.ofNat (48 + vv % 10) := ⟨_, rfl⟩
       have hcv := rbyte_str wr (vv % 10) (by omega) (48 + (vv : Int) % 10) (by omega) bt hbt
       have HBT := Hid.mk hbt
       clear hbt
       go_wp2_with fail
       go_roundw
       case measure => simp [intOf]; omega
       case rel =>
        refine ⟨kk + 1, vv / 10, bt :: T', by omega, by go_num, by go_num, rval_str (rstr_app [bt] T'), by simp; omega, by omega, J.out.alloc (by omega) _, Hid.mk ⟨?_, ?_⟩⟩
        ·have := HJ.out.1
         rw [show 4 - kk = (4 - (kk + 1)) + 1 from by omega, Nat.pow_succ] at this
         omega
        ·have hs := rst_step vv kk (val (xs.drop (i + 1))) hkk4
         have := HJ.out.2.step (rst_pos vv kk _ (.inl hv0))
         rw [hs.1, hs.2, ← HBT.out] at this
         exact this
      ·have hv0' : decide (0 < (vv : Int)) = false := decide_eq_false (by omega)
       have hv0'' : decide (0 < vv) = false := decide_eq_false hv0
       by_cases hlast : i + 1 < xs.length
       ·have hl1 : (i : Int) < (xs.length : Int) - 1 := by omega
        obtain ⟨bt, hbt⟩ : ∃ bt, bt = UInt8.ofNat (48 + vv % 10) := ⟨_, rfl⟩
        have hcv := rbyte_str wr (vv % 10) (by omega) (48 + (vv : Int) % 10) (by omega) bt hbt
        have HBT := Hid.mk hbt
        clear hbt
        go_wp2_with fail
        go_roundw
        case measure => simp [intOf]; omega
        case rel =>
         refine ⟨kk + 1, vv / 10, bt :: T', by omega, by go_num, by go_num, rval_str (rstr_app [bt] T'), by simp; omega, by omega, J.out.alloc (by omega) _, Hid.mk ⟨?_, ?_⟩⟩
         ·have := HJ.out.1
          rw [show 4 - kk = (4 - (kk + 1)) + 1 from by omega, Nat.pow_succ] at this
          omega
         ·have hs := rst_step vv kk (val (xs.drop (i + 1))) hkk4
          have := HJ.out.2.step (rst_pos vv kk _ (.inr (drop_pos H.out.2.1 (i + 1) hlast)))
          rw [hs.1, hs.2, ← HBT.out] at this
          exact this
       ·have hl1 : decide ((i : Int) < (xs.length : Int) - 1) = false := decide_eq_false (by omega)
        have hvz : vv = 0 := by omega
        go_wp2_with fail
        go_roundw
        case measure => simp [intOf]; omega
        case rel =>
         refine ⟨i + 1, T', by omega, by go_num, rfl, by omega, J.out, Hid.mk ?_⟩
         have h1 := HJ.out.2
         have hD : val (xs.drop (i + 1)) = 0 := by rw [List.drop_of_length_le (by omega)]; rfl
         rw [hvz, hD, show rst 0 kk 0 = 0 from by simp [rst]] at h1
         rw [hD]
         exact ⟨fun h => by omega, h1.2⟩
     ·have hk4' : decide ((kk : Int) < 4) = false := decide_eq_false (by omega)
      have hk4'' : decide (kk < 4) = false := decide_eq_false hkk4
      have hke : kk = 4 := by omega
      have hvz : vv = 0 := by have := HJ.out.1; rw [hke] at this; simpa using this
      have HKE := Hid.mk (And.intro hke hvz)
      clear hke hvz
      go_wp2_with fail
      go_roundw
      case measure => simp [intOf]; omega
      case rel =>
       refine ⟨i + 1, T', by omega, by go_num, rfl, by omega, J.out, Hid.mk ?_⟩
       have h1 := HJ.out.2
       rw [HKE.out.1, HKE.out.2, rst_end] at h1
       rw [show 4 * (i + 1) = 4 * i + 4 from by omega]
       exact h1
   ·have hie : i = xs.length := by omega
    have hT2 : T = Lib.decDigits (val xs) := HI.out.2 (by rw [hie, List.drop_length]; rfl)
    have HT2 := Hid.mk hT2
    have hvp := lim_pos H.out.2.1 (by intro e; rw [e] at hpos; simp at hpos)
    have HVP := Hid.mk hvp
    have hb0 : Below w.heap.size w wr0 := by rw [HW.out] at hbel; exact ((Below.refl w.heap.size w).alloc (Nat.le_refl _) _).trans (hbel.mono (by omega))
    have HB0 := Hid.mk hb0
    clear hie hT2 hvp hbel hb0
    cases na
    ·go_wp2_with fail
     go_ret
     refine ⟨rret_str ?_, HB0.out⟩
     have h5 := H.out.2.2.2
     simp only [Bool.false_eq_true, if_false] at h5
     rw [h5, Lib.itoa_nonneg, HT2.out]
    ·go_wp2_with fail
     go_ret
     refine ⟨rret_str ?_, HB0.out⟩
     have h5 := H.out.2.2.2
     simp only [if_true] at h5
     rw [h5, Lib.itoa_neg _ HVP.out, ← HT2.out]
     exact rstr_app [45] T
open Go.RowKit
def dval (l : List UInt8) : Nat := l.foldl (fun a c => 10 * a + (c.toNat - 48)) 0
def IsDig (c : UInt8) : Prop := 48 ≤ c.toNat ∧ c.toNat ≤ 57
theorem dval_from (l : List UInt8) : ∀ a : Nat, l.foldl (fun a c => 10 * a + (c.toNat - 48)) a = a * 10 ^ l.length + dval l := by
 induction l with
 | nil => intro a; simp [dval]
 | cons c r ih =>
   intro a
   unfold dval
   simp only [List.foldl_cons, List.length_cons]
   rw [ih, ih, Nat.pow_succ, Nat.mul_zero, Nat.zero_add, Nat.add_mul, Nat.mul_comm (10 ^ r.length) 10, ← Nat.mul_assoc, Nat.mul_comm 10 a]
   omega
theorem dval_cons (c : UInt8) (r : List UInt8) : dval (c :: r) = (c.toNat - 48) * 10 ^ r.length + dval r := by
 conv => lhs; unfold dval
 rw [List.foldl_cons, dval_from]; simp
theorem dval_snoc (l : List UInt8) (c : UInt8) : dval (l ++ [c]) = 10 * dval l + (c.toNat - 48) := by simp [dval]
theorem dval_dec (u : Nat) : dval (Lib.decDigits u) = u ∧ ∀ c ∈ Lib.decDigits u, IsDig c := by
 induction u using Nat.strongRecOn with
 | ind u ih =>
   have dn : ∀ d, d < 10 → (UInt8.ofNat (48 + d)).toNat = 48 + d := fun d h => by rw [UInt8.toNat_ofNat', Nat.mod_eq_of_lt (by omega)]
   by_cases h : u < 10
   ·rw [Lib.decDigits_one h]
    refine ⟨?_, fun c hc => ?_⟩
    ·unfold dval
     simp only [List.foldl_cons, List.foldl_nil]
     rw [dn u h]; omega
    ·rw [List.mem_singleton] at hc
     unfold IsDig
     rw [hc, dn u h]; omega
   ·obtain ⟨h1, h2⟩ := ih (u / 10) (by omega)
    rw [decDigits_big h]
    refine ⟨?_, fun c hc => ?_⟩
    ·rw [dval_snoc, h1, dn _ (by omega)]; omega
    ·rcases List.mem_append.1 hc with hc | hc
     ·exact h2 c hc
     ·rw [List.mem_singleton] at hc
      unfold IsDig
      rw [hc, dn _ (by omega)]; omega
def Says (l : List UInt8) (z : Int) : Prop := l = Lib.itoa z
theorem Says.neg {l : List UInt8} {z : Int} (h : Says (45 :: l) z) : (∀ c ∈ l, IsDig c) ∧ z = -(dval l : Int) := by
 unfold Says at h
 by_cases hz : z < 0
 ·obtain ⟨u, rfl⟩ : ∃ u : Nat, z = -(u : Int) := ⟨z.natAbs, by omega⟩
  rw [Lib.itoa_neg u (by omega)] at h
  injection h with _ h
  rw [h]
  exact ⟨(dval_dec u).2, by rw [(dval_dec u).1]⟩
 ·exfalso
  obtain ⟨u, rfl⟩ : ∃ u : Nat, z = (u : Int) := ⟨z.natAbs, by omega⟩
  rw [Lib.itoa_nonneg] at h
  have := (dval_dec u).2 45 (by rw [← h]; simp)
  exact absurd this.1 (by decide)
theorem Says.pos {l : List UInt8} {z : Int} (h : Says l z) (h0 : ∀ r, l ≠ 45 :: r) : (∀ c ∈ l, IsDig c) ∧ z = (dval l : Int) := by
 unfold Says at h
 by_cases hz : z < 0
 ·exfalso
  obtain ⟨u, rfl⟩ : ∃ u : Nat, z = -(u : Int) := ⟨z.natAbs, by omega⟩
  rw [Lib.itoa_neg u (by omega)] at h
  exact h0 _ h
 ·obtain ⟨u, rfl⟩ : ∃ u : Nat, z = (u : Int) := ⟨z.natAbs, by omega⟩
  rw [Lib.itoa_nonneg] at h
  rw [h]
  exact ⟨(dval_dec u).2, by rw [(dval_dec u).1]⟩
def Part (l : List UInt8) (i : Nat) (zs : List Nat) : Prop := Lo zs ∧ val zs = dval (l.drop (l.length - i)) ∧ zs.getD (i / 4) 0 < 10 ^ (i % 4) ∧ (∀ j, i / 4 < j → zs.getD j 0 = 0) ∧ ∀ c ∈ l.drop (l.length - i), IsDig c
theorem getD_set (zs : List Nat) (k a j : Nat) (hk : k < zs.length) : (zs.set k a).getD j 0 = if j = k then a else zs.getD j 0 := by
 by_cases h : j = k
 ·subst h; simp [List.getD, hk]
 ·have h' : ¬ k = j := fun e => h e.symm
  simp [List.getD, h, h']
theorem Part.start (l : List UInt8) (n : Nat) : Part l 0 (List.replicate n 0) := by
 refine ⟨Lo_zeros n, ?_, ?_, fun j _ => ?_, ?_⟩
 ·rw [Nat.sub_zero, List.drop_length]
  rw [val_zeros (fun x hx => (List.mem_replicate.1 hx).2)]; rfl
 ·have : (List.replicate n 0).getD (0 / 4) 0 = 0 := by simp [List.getD, List.getElem?_replicate]; split <;> rfl
  rw [this]; decide
 ·simp [List.getD, List.getElem?_replicate]; split <;> rfl
 ·rw [Nat.sub_zero, List.drop_length]; intro c hc; cases hc
theorem Part.next {l : List UInt8} {i : Nat} {zs : List Nat} (h : Part l i zs) (hi : i < l.length) (hz : l.length / 4 < zs.length) (c : UInt8) (hc : l[l.length - 1 - i]? = some c) (hd : IsDig c) :
 Part l (i + 1) (zs.set (i / 4) (zs.getD (i / 4) 0 + 10 ^ (i % 4) * (c.toNat - 48))) := by
 obtain ⟨h1, h2, h3, h4, h5⟩ := h
 have hk : i / 4 < zs.length := by omega
 have hdr : l.drop (l.length - (i + 1)) = c :: l.drop (l.length - i) := by
  have e : l.length - (i + 1) = l.length - 1 - i := by omega
  rw [e, List.drop_eq_getElem_cons (show l.length - 1 - i < l.length from by omega)]
  rw [List.getElem?_eq_getElem (show l.length - 1 - i < l.length from by omega)] at hc
  injection hc with hc
  rw [hc, show l.length - 1 - i + 1 = l.length - i from by omega]
 have hp : 10 ^ (i % 4) * (c.toNat - 48) ≤ 10 ^ (i % 4) * 9 := Nat.mul_le_mul_left _ (by unfold IsDig at hd; omega)
 have hq : i % 4 = 0 ∨ i % 4 = 1 ∨ i % 4 = 2 ∨ i % 4 = 3 := by omega
 have hbound : zs.getD (i / 4) 0 + 10 ^ (i % 4) * (c.toNat - 48) < 10 ^ (i % 4) * 10 := by omega
 have h1000 : 10 ^ (i % 4) ≤ 1000 := by rcases hq with e | e | e | e <;> rw [e] <;> decide
 refine ⟨Lo_set h1 _ _ (by omega), ?_, ?_, fun j hj => ?_, ?_⟩
 ·have hvs := val_set zs (i / 4) (zs.getD (i / 4) 0 + 10 ^ (i % 4) * (c.toNat - 48)) hk
  rw [Nat.mul_add, h2] at hvs
  rw [hdr, dval_cons]
  have e : (l.drop (l.length - i)).length = i := by rw [List.length_drop]; omega
  rw [e]
  have e2 : 10 ^ i = 10000 ^ (i / 4) * 10 ^ (i % 4) := by
   rw [pow4, ← Nat.pow_add]; congr 1; omega
  rw [e2, Nat.mul_comm (c.toNat - 48), Nat.mul_assoc]
  omega
 ·rw [getD_set _ _ _ _ hk]
  by_cases e : (i + 1) / 4 = i / 4
  ·rw [if_pos e, show (i + 1) % 4 = i % 4 + 1 from by omega, Nat.pow_succ]
   exact hbound
  ·rw [if_neg e, h4 _ (by omega), show (i + 1) % 4 = 0 from by omega]; decide
 ·rw [getD_set _ _ _ _ hk, if_neg (by omega)]
  exact h4 j (by omega)
 ·rw [hdr]
  intro d hdm
  rcases List.mem_cons.1 hdm with rfl | hdm
  ·exact hd
  ·exact h5 d hdm
theorem toList_empty (s : ByteArray) : s.toList.isEmpty = decide (s.size = 0) := by
 rw [ByteArray.toList_eq]
 cases s with
 | mk d =>
   cases d with
   | mk l => cases l <;> simp [ByteArray.size]
open Go.RowKit
def Pre (v v' : Value) : Prop := ∃ ao n cap k, v = .slice ao n cap ∧ v' = .slice ao k cap
def MadeOf (v r : Value) : Prop := ∃ ao n cap k, v = .slice ao n cap ∧ ∃ b, r = .agg #[.bool b, .slice ao k cap]
theorem Pre.of {v : Value} {ao : Option Addr} {k cap : Nat} (h : Pre v (.slice ao k cap)) : ∀ b, MadeOf v (.agg #[.bool b, .slice ao k cap]) := by
 obtain ⟨ao', n, cap', k', h1, h2⟩ := h
 simp only [Value.slice.injEq] at h2
 obtain ⟨rfl, rfl, rfl⟩ := h2
 exact fun b => ⟨ao, n, cap, k, h1, b, rfl⟩
def AtB (B : Nat) (v : Value) : Prop := ∀ x g o s n cap, v = .agg #[x, .slice (some ⟨g, o, s⟩) n cap] → B ≤ g
theorem AtB.none (B : Nat) (x : Value) (n cap : Nat) : AtB B (.agg #[x, .slice none n cap]) := by
 intro y g o s m c h
 simp at h
theorem AtB.mono {B B' : Nat} {v : Value} (h : AtB B v) (hB : B' ≤ B) : AtB B' v := fun x g o s n cap e => Nat.le_trans hB (h x g o s n cap e)
theorem AtB.at_ {B g : Nat} (hg : B ≤ g) (x : Value) (o : Nat) (s : Option Nat) (n cap : Nat) : AtB B (.agg #[x, .slice (some ⟨g, o, s⟩) n cap]) := by
 intro y g' o' s' m c h
 simp only [Value.agg.injEq, Array.mk.injEq, List.cons.injEq, Value.slice.injEq, Option.some.injEq, Addr.mk.injEq, and_true] at h
 omega
set_option maxHeartbeats 400000 in
theorem plain_at (v : Value) (xs : List Nat) (w : World) (h : Own w v xs) (lo : Lo xs) :
 Calls Tryz.prog 233 #[v] w fun e w' => (∃ v', e = .returned v' ∧ TrimOut v xs v' ∧ Pre v v') ∧ w' = w := by
 obtain ⟨ao, cap, rfl, hc, hm, hcell, hnil, _⟩ := h.open_
 have HH := Hid.mk h
 clear h
 have HL := Hid.mk lo
 clear lo
 go_enter Tryz.func233, Tryz.ntmps233
 go_wp2
 go_loop [3] (fun n => ∃ k : Nat, k ≤ xs.length ∧ n = .int .i64 k ∧ ∀ x ∈ xs.drop k, x = 0) (fun n => (intOf n).toNat)
 case atStart => exact ⟨xs.length, Nat.le_refl _, rfl, by simp⟩
 case round =>
  obtain ⟨k, hk, rfl, hz⟩ := hrel
  by_cases h0 : k = 0
  ·subst h0
   go_wp2
   go_ret
   have T := trim_spec HL.out 0 (Nat.zero_le _) hz (.inl rfl)
   exact ⟨⟨_, rfl, ⟨_, T.1, T.2.1, by omega, fun W hW => hW.cut 0 (Nat.zero_le _)⟩, ⟨_, _, _, _, rfl, rfl⟩⟩, rfl⟩
  ·obtain ⟨b, rfl, hb⟩ := hcell (k - 1) (by omega)
   obtain ⟨x, hx⟩ : ∃ x, x = xs.getD (k - 1) 0 := ⟨_, rfl⟩
   rw [← hx] at hb
   clear hcell
   have HX := Hid.mk hx
   clear hx
   go_wp2
   ·have hx0 : ((x : Int) == 0) = true := by assumption
    have hx1 : x = 0 := by simpa using hx0
    go_round
    case rel =>
     refine ⟨k - 1, by omega, by go_num, fun y hy => ?_⟩
     rw [drop_getD xs (k - 1) (by omega), ← HX.out, show k - 1 + 1 = k from by omega] at hy
     rcases List.mem_cons.1 hy with hy | hy
     ·omega
     ·exact hz y hy
    case measure => simp [intOf]; omega
   ·have hx0 : ((x : Int) == 0) = false := by assumption
    have hx1 : x ≠ 0 := by simpa using hx0
    go_ret
    have T := trim_spec HL.out k hk hz (.inr (by rw [← HX.out]; omega))
    exact ⟨⟨_, rfl, ⟨_, T.1, T.2.1, by omega, fun W hW => hW.cut k hk⟩, ⟨_, _, _, _, rfl, rfl⟩⟩, rfl⟩
set_option maxRecDepth 100000 in
theorem made_at (neg : Bool) (v : Value) (xs : List Nat) (w : World) (hv : Own w v xs) (lx : Lo xs) :
 Calls Tryz.prog 223 #[.bool neg, v] w fun e w' => ∃ r, e = .returned r ∧ IsN w' r (if neg then -(val xs : Int) else (val xs : Int)) xs.length ∧ Below w.heap.size w w' ∧ MadeOf v r := by
 have H := Hid.mk (And.intro hv lx)
 clear hv lx
 go_enter Tryz.func223, Tryz.ntmps223
 go_wp2_with fail
 refine (plain_at v xs _ (H.out.1.below ((Below.refl _ _).alloc (Nat.le_refl _) _)) H.out.2).mono ?_
 rintro e w' ⟨⟨u, rfl, hu, hpre⟩, rfl⟩
 obtain ⟨ys, h1, h2, h3, h4⟩ := hu
 obtain ⟨ao, cap, rfl, hc, hm, -⟩ := (h4 _ H.out.1).open_
 have HP := Hid.mk hpre.of
 clear hpre
 have K := Hid.mk (And.intro h1 (And.intro h2 (And.intro h3 h4)))
 clear h1 h2 h4
 have fin : ∀ (b : Bool) (W : World), Below w.heap.size w W → (b = true → ys ≠ []) → IsN W (.agg #[.bool b, .slice ao ys.length cap]) (if b then -(val xs : Int) else (val xs : Int)) xs.length := by
  intro b W hb hne
  obtain ⟨k1, k2, k3, k4⟩ := K.out
  exact ⟨b, _, ys, rfl, (k4 _ H.out.1).below hb, k1, hne, by rw [k2], k3⟩
 have HF := Hid.mk fin
 clear fin
 cases neg
 ·go_wp2_with fail
  refine bodyPost_ret (v := .agg #[.bool false, .slice ao ys.length cap]) (by simp [results, Tryz.results223, go_sem]) rfl ?_
  exact ⟨_, rfl, HF.out false _ ((Below.refl _ _).alloc (Nat.le_refl _) _) (fun h => by cases h), (Below.refl _ _).alloc (Nat.le_refl _) _, HP.out _⟩
 ·by_cases hy : 0 < ys.length
  ·go_wp2_with fail
   refine bodyPost_ret (v := .agg #[.bool true, .slice ao ys.length cap]) (by simp [results, Tryz.results223, go_sem]) rfl ?_
   exact ⟨_, rfl, HF.out true _ ((Below.refl _ _).alloc (Nat.le_refl _) _) (fun _ e => by rw [e] at hy; simp at hy), (Below.refl _ _).alloc (Nat.le_refl _) _, HP.out _⟩
  ·have hy' : decide (0 < ys.length) = false := decide_eq_false hy
   have hy0 : ys = [] := List.eq_nil_of_length_eq_zero (by omega)
   have H0 := Hid.mk hy0
   clear hy0
   go_wp2_with fail
   refine bodyPost_ret (v := .agg #[.bool false, .slice ao ys.length cap]) (by simp [results, Tryz.results223, go_sem]) rfl ?_
   have h0 : val xs = 0 := by rw [← K.out.2.1, H0.out]; rfl
   have := HF.out false (w.alloc (.cells #[.bool false, .slice ao ys.length cap] 171)) ((Below.refl _ _).alloc (Nat.le_refl _) _) (fun h => by cases h)
   refine ⟨_, rfl, ?_, (Below.refl _ _).alloc (Nat.le_refl _) _, HP.out _⟩
   rw [h0] at this ⊢
   exact this
end Go.Proofs.YtfjbijpagaipnabGreatDoor.R
