import Derived.Test.YtfjbijpagaipnabGreatDoorK01
import Derived.Laws.BitsAllLaws
import Derived.Test.YtfjbijpagaipnabGreatDoorK02
import Derived.Test.YtfjbijpagaipnabGreatDoorK03
namespace Go.Proofs.YtfjbijpagaipnabGreatDoor
open Go.RowKit
theorem or_low (c x s : Nat) (hs : s < 32) (hc : c < 2 ^ s) (hx : x < 4294967296) : bits BinOp.or IntKind.u64 (c : Int) (IntKind.u64.wrap ((x : Int) * 2 ^ s)) = ((c + x * 2 ^ s : Nat) : Int) := by
 have hS : 2 ^ s ≤ 2 ^ 31 := Nat.pow_le_pow_right (by decide) (by omega)
 have hp : x * 2 ^ s ≤ 4294967295 * 2 ^ 31 := Nat.mul_le_mul (by omega) hS
 have e : ((x : Int) * 2 ^ s) = ((x * 2 ^ s : Nat) : Int) := by rw [Int.natCast_mul, Int.natCast_pow]; rfl
 have e2 : IntKind.u64.wrap ((x * 2 ^ s : Nat) : Int) = ((x * 2 ^ s : Nat) : Int) := by rw [IntKind.wrap_u64]; omega
 rw [e, e2, u64_or_nat c (x * 2 ^ s) (by omega) (by omega), Nat.or_comm]
 have h2 := Nat.shiftLeft_add_eq_or_of_lt (i := s) (b := c) hc x
 rw [Nat.shiftLeft_eq] at h2
 rw [← h2, Nat.add_comm]
theorem shift_step {zs xs : List Nat} {k sk c S x : Nat} (hk : k + sk < zs.length) (hx : x = xs.getD k 0) (h : val (zs.take (k + sk)) + 4294967296 ^ (k + sk) * c = 4294967296 ^ sk * (S * val (xs.take k))) :
 val ((zs.set (k + sk) ((c + x * S) % 4294967296)).take (k + 1 + sk)) + 4294967296 ^ (k + 1 + sk) * ((c + x * S) / 4294967296) = 4294967296 ^ sk * (S * val (xs.take (k + 1))) := by
 rw [show k + 1 + sk = (k + sk) + 1 from by omega, val_take_set zs _ _ hk, val_take_next, ← hx, Nat.pow_succ]
 have h1 := Nat.mod_add_div (c + x * S) 4294967296
 have h2 : 4294967296 ^ (k + sk) * ((c + x * S) % 4294967296) + 4294967296 ^ (k + sk) * 4294967296 * ((c + x * S) / 4294967296) = 4294967296 ^ (k + sk) * c + 4294967296 ^ (k + sk) * (x * S) := by
  rw [Nat.mul_assoc, ← Nat.mul_add, h1, Nat.mul_add]
 have h3 : 4294967296 ^ sk * (S * (val (xs.take k) + 4294967296 ^ k * x)) = 4294967296 ^ sk * (S * val (xs.take k)) + 4294967296 ^ (k + sk) * (x * S) := by
  rw [Nat.mul_add, Nat.mul_add, Nat.pow_add, Nat.mul_comm x S]
  congr 1
  rw [Nat.mul_left_comm S, ← Nat.mul_assoc, Nat.mul_comm (4294967296 ^ sk)]
 rw [h3, ← h]
 omega
set_option maxRecDepth 100000 in
set_option maxHeartbeats 1000000 in
theorem shiftAmount_raw (v : Value) (xs : List Nat) (p sk s : Nat) (w : World) (hv : Own w v xs) (lx : Lo xs) (bx : xs.length ≤ 500000000) (bs : sk ≤ 500000000) (hs : s < 32) (hq : (p : Int) / 32 = (sk : Int)) (hr : (p : Int) % 32 = (s : Int)) :
 Calls Tryz.prog 220 #[v, .int .i64 p] w fun e w' => ∃ r, e = .returned r ∧ NatOut w w' r (4294967296 ^ sk * (2 ^ s * val xs)) (xs.length + sk + 1) := by
 obtain ⟨ao, cap, hveq, hc, hm, hcell, -, -⟩ := hv.open_
 have HC := Hid.mk hcell
 clear hv hcell
 subst hveq
 go_enter Tryz.func220, Tryz.ntmps220
 go_wp2_with (at_make; refine make_limbs _ rfl (.tmp 19) (.tmp 19) rfl _ _ (xs.length + sk + 1) rfl rfl ?_ ?_ (by omega) ?_)
 ·omega
 ·omega
 intro w1 hown hbel
 clear hq hr
 obtain ⟨N, hN⟩ : ∃ N, N = xs.length + sk + 1 := ⟨_, rfl⟩
 rw [← hN] at hown ⊢
 have hN1 : xs.length + sk < N := by omega
 have HN := Hid.mk hN
 have hSle : 2 ^ s ≤ 2147483648 := Nat.pow_le_pow_right (n := 2) (j := 31) (by decide) (by omega)
 have HS := Hid.mk hSle
 clear hN hSle
 go_wp2_with fail
 go_loopw [8, 9] (fun c i wr => ∃ (k cc : Nat) (zs : List Nat), k ≤ xs.length ∧ i = .int .i64 k ∧ cc ≤ 2147483647 ∧ c = .int .u64 cc ∧ zs.length = N ∧ Lo zs ∧ Own wr (.slice (some ⟨w.heap.size, 0, none⟩) N N) zs ∧ Below w.heap.size w wr ∧
  Hid (cc < 2 ^ s ∧ val (zs.take (k + sk)) + 4294967296 ^ (k + sk) * cc = 4294967296 ^ sk * (2 ^ s * val (xs.take k)))) (fun _ i _ => xs.length - (intOf i).toNat)
 case atStart => exact ⟨0, 0, _, Nat.zero_le _, rfl, Nat.zero_le _, rfl, by rw [List.length_replicate], Lo_zeros _, by rw [HN.out]; rw [HN.out] at hown; exact hown, hbel, Hid.mk ⟨Nat.pow_pos (by decide), by rw [val_zeros (fun x hx => List.eq_of_mem_replicate (List.mem_of_mem_take hx))]; simp [val]⟩⟩
 case round =>
  clear hown hbel
  obtain ⟨k, cc, zs, hk, rfl, hcc, rfl, hzl, hlo, hown, hbel, HI⟩ := hrel
  by_cases hkN : k < xs.length
  ·have hxk := Lo_get lx k
   have hz1 := hown.cell hzl (k + sk) (by omega)
   have hz2 := hown.frozen hzl (k + sk)
   obtain ⟨b, rfl, hb0⟩ := HC.out k hkN
   have hb1 := cell_later hbel hb0
   obtain ⟨x, hx⟩ : ∃ x, x = xs.getD k 0 := ⟨_, rfl⟩
   obtain ⟨z, hz⟩ : ∃ z, z = zs.getD (k + sk) 0 := ⟨_, rfl⟩
   rw [← hx] at hxk hb1
   rw [← hz] at hz1
   have HX := Hid.mk hx
   have HZL := Hid.mk hzl
   clear hx hz hb0 hzl
   have hor := or_low cc x s hs HI.out.1 hxk
   obtain ⟨q, hq⟩ : ∃ q, q = cc + x * 2 ^ s := ⟨_, rfl⟩
   rw [← hq] at hor
   have HQ := Hid.mk hq
   clear hq
   go_wp2_with fail
   have hP : x * 2 ^ s + 2 ^ s ≤ 4294967296 * 2 ^ s := by
    have := Nat.mul_le_mul_right (2 ^ s) (show x + 1 ≤ 4294967296 from hxk)
    rw [Nat.add_mul, Nat.one_mul] at this
    exact this
   have hcs := HI.out.1
   have hSS := HS.out
   have hq := HQ.out
   go_roundw
   case rel =>
    refine ⟨k + 1, q / 4294967296, zs.set (k + sk) (q % 4294967296), by omega, by go_num, by omega, by go_num, by simp [HZL.out], Lo_set hlo _ _ (Nat.mod_lt _ (by decide)), hown.stored_int HZL.out (k + sk) _ (by omega), hbel.setCell (Nat.le_refl _) _, Hid.mk ⟨by omega, ?_⟩⟩
    rw [hq]
    exact shift_step (by have := HZL.out; omega) HX.out HI.out.2
   case measure => simp [intOf]; omega
  ·have hkN' : xs.length ≤ k := by omega
   have hz1 := hown.cell hzl (xs.length + sk) (by omega)
   have hz2 := hown.frozen hzl (xs.length + sk)
   have HZL := Hid.mk hzl
   clear hzl
   go_wp2_with fail
   have hown2 := hown.stored_int HZL.out (xs.length + sk) cc (z := (cc : Int)) rfl
   have hlo2 := Lo_set hlo (xs.length + sk) cc (by omega)
   refine (trim_any _ _ _ hown2 hlo2).mono ?_
   rintro e w' ⟨⟨r, rfl, hr⟩, rfl⟩
   go_wp2_with fail
   go_ret
   obtain ⟨rs, h1, h2, h3, h4⟩ := hr
   have hkk : k = xs.length := by omega
   have HI' := HI.out.2
   have hzl := HZL.out
   have hN := HN.out
   refine ⟨_, rfl, ⟨rs, h1, ?_, by simp at h3; omega, h4⟩, hbel.setCell (Nat.le_refl _) _⟩
   rw [hkk, List.take_of_length_le (Nat.le_refl _)] at HI'
   have h5 := val_take_set zs (xs.length + sk) cc (by omega)
   rw [List.take_of_length_le (by simp; omega)] at h5
   rw [h2, h5, HI']
theorem shiftAmount_any (v : Value) (xs : List Nat) (p : Nat) (w : World) (hv : Own w v xs) (lx : Lo xs) (bx : xs.length ≤ 500000000) (bs : p ≤ 16000000000) :
 Calls Tryz.prog 220 #[v, .int .i64 p] w fun e w' => ∃ r, e = .returned r ∧ NatOut w w' r (2 ^ p * val xs) (xs.length + p / 32 + 1) := by
 have h := shiftAmount_raw v xs p (p / 32) (p % 32) w hv lx bx (by omega) (by omega) (by omega) (by omega)
 have e : 4294967296 ^ (p / 32) * (2 ^ (p % 32) * val xs) = 2 ^ p * val xs := by
  rw [show (4294967296 : Nat) = 2 ^ 32 from rfl, ← Nat.pow_mul, ← Nat.mul_assoc, ← Nat.pow_add, Nat.div_add_mod]
 rw [e] at h
 exact h
open Go.RowKit
def NotAt (g : Nat) (v : Value) : Prop := ∀ a n c, v = .slice (some a) n c → a.block ≠ g
theorem FrB.notAt {B g : Nat} {v : Value} (h : FrB B v) (hg : g < B) : NotAt g v := fun a n c e => by have := h a n c e; omega
theorem Own.notAt {w : World} {v : Value} {xs : List Nat} (h : Own w v xs) {g : Nat} (hg : w.heap.size ≤ g) : NotAt g v := by
 intro a n c e
 rcases h.2 with ⟨h2, _⟩ | ⟨g', cap, cur, hv, _, hh, _⟩
 ·rw [h2] at e; simp at e
 ·rw [hv] at e
  simp only [Value.slice.injEq, Option.some.injEq] at e
  obtain ⟨rfl, -, -⟩ := e
  have := (Array.getElem?_eq_some_iff.1 hh).1
  show g' ≠ g
  omega
theorem Own.other {w : World} {v : Value} {xs : List Nat} (h : Own w v xs) {g o : Nat} (u : Value) (hn : NotAt g v) : Own (w.setCell ⟨g, o, none⟩ u) v xs := by
 refine ⟨h.1, ?_⟩
 rcases h.2 with h2 | ⟨g', cap, cur, hv, hg, hh, r⟩
 ·exact .inl h2
 ·exact .inr ⟨g', cap, cur, hv, hg, by rw [Below.heap_setCell _ _ _ _ (hn _ _ _ hv)]; exact hh, r⟩
theorem limb_dvd {zs : List Nat} (lo : Lo zs) {j e : Nat} (he : e ≤ 32) (hj : j < zs.length) (h : 2 ^ (32 * j + e) ∣ val zs) : 2 ^ e ∣ zs.getD j 0 := by
 have h1 := val_take_drop zs j (by omega)
 have h2 := val_lt (Lo_take lo j)
 rw [List.length_take, Nat.min_eq_left (by omega)] at h2
 have hB : (4294967296 : Nat) ^ j = 2 ^ (32 * j) := by rw [Nat.pow_mul]
 rw [hB] at h1 h2
 rw [Nat.pow_add] at h
 have h3 : 2 ^ (32 * j) ∣ val (zs.take j) := by
  have h4 : 2 ^ (32 * j) ∣ val zs := Nat.dvd_trans (Nat.dvd_mul_right _ _) h
  rw [h1] at h4
  exact (Nat.dvd_add_left (Nat.dvd_mul_right _ _)).1 h4
 have h5 : val (zs.take j) = 0 := Nat.eq_zero_of_dvd_of_lt h3 h2
 rw [h5, Nat.zero_add] at h1
 rw [h1] at h
 have h6 : 2 ^ e ∣ val (zs.drop j) := Nat.dvd_of_mul_dvd_mul_left (Nat.pow_pos (by decide)) h
 rw [drop_getD zs j hj, val_cons] at h6
 have h7 : 2 ^ e ∣ 4294967296 * val (zs.drop (j + 1)) := Nat.dvd_trans (Nat.pow_dvd_pow 2 he) (Nat.dvd_mul_right _ _)
 exact (Nat.dvd_add_left h7).1 h6
theorem or_bit (z s : Nat) (hs : s < 32) (hz : z < 4294967296) (hd : 2 ^ (s + 1) ∣ z) : z + 2 ^ s < 4294967296 ∧ bits BinOp.or IntKind.u32 (z : Int) (2 ^ s % 4294967296) = ((z + 2 ^ s : Nat) : Int) := by
 obtain ⟨q, rfl⟩ := hd
 have hS : 2 ^ s ≤ 2 ^ 31 := Nat.pow_le_pow_right (by decide) (by omega)
 have hlt : 2 ^ s < 2 ^ (s + 1) := by rw [Nat.pow_succ]; have := Nat.pow_pos (n := s) (show 0 < 2 by decide); omega
 have hb : 2 ^ (s + 1) * q + 2 ^ s < 4294967296 := by
  have h1 : 2 ^ (s + 1) * 2 ^ (31 - s) = 4294967296 := by rw [← Nat.pow_add, show s + 1 + (31 - s) = 32 from by omega]
  have h2 : q < 2 ^ (31 - s) := by
   rcases Nat.lt_or_ge q (2 ^ (31 - s)) with h | h
   ·exact h
   ·have := Nat.mul_le_mul_left (2 ^ (s + 1)) h; omega
  have h3 := Nat.mul_le_mul_left (2 ^ (s + 1)) (show q + 1 ≤ 2 ^ (31 - s) from h2)
  rw [Nat.mul_add, Nat.mul_one] at h3
  omega
 refine ⟨hb, ?_⟩
 have e : (2 ^ s : Int) = ((2 ^ s : Nat) : Int) := by rw [Int.natCast_pow]; rfl
 rw [e, show ((2 ^ s : Nat) : Int) % 4294967296 = ((2 ^ s : Nat) : Int) from by omega, u32_or_nat _ (2 ^ s) hz (by omega)]
 have h2 := Nat.shiftLeft_add_eq_or_of_lt (i := s + 1) (b := 2 ^ s) hlt q
 rw [Nat.shiftLeft_eq, Nat.mul_comm q] at h2
 rw [h2]
structure DivSt (A B k Q l : Nat) : Prop where
 eq : A = Q * B + l
 lt : l < B * 2 ^ k
 dvd : 2 ^ k ∣ Q
theorem DivSt.no {A B p Q l : Nat} (h : DivSt A B (p + 1) Q l) (hl : l < 2 ^ p * B) : DivSt A B p Q l := ⟨h.eq, by rw [Nat.mul_comm]; exact hl, Nat.dvd_trans (Nat.pow_dvd_pow 2 (Nat.le_succ p)) h.dvd⟩
theorem DivSt.yes {A B p Q l : Nat} (h : DivSt A B (p + 1) Q l) (hl : 2 ^ p * B ≤ l) : DivSt A B p (Q + 2 ^ p) (l - 2 ^ p * B) := by
 refine ⟨?_, ?_, ?_⟩
 ·rw [Nat.add_mul]; have := h.eq; omega
 ·have := h.lt
  rw [Nat.pow_succ, ← Nat.mul_assoc, Nat.mul_comm B] at this
  rw [Nat.mul_comm B]
  omega
 ·exact Nat.dvd_add (Nat.dvd_trans (Nat.pow_dvd_pow 2 (Nat.le_succ p)) h.dvd) (Nat.dvd_refl _)
theorem DivSt.done {A B Q l : Nat} (h : DivSt A B 0 Q l) : Q = A / B ∧ l = A % B := by
 have h1 := h.lt
 rw [Nat.pow_zero, Nat.mul_one] at h1
 have h2 := h.eq
 rw [Nat.mul_comm] at h2
 constructor
 ·rw [h2, Nat.mul_add_div (by omega), Nat.div_eq_of_lt h1]; rfl
 ·rw [h2, Nat.mul_add_mod, Nat.mod_eq_of_lt h1]
theorem DivSt.start {A B a b : Nat} (ha : BitsOf a A) (hb : BitsOf b B) (hb0 : 0 < b) : DivSt A B ((a : Int) - (b : Int) + 1).toNat 0 A := by
 refine ⟨by omega, ?_, Nat.dvd_zero _⟩
 have h1 : A < 2 ^ a := (ha a).1 (Nat.le_refl _)
 have h2 : 2 ^ (b - 1) ≤ B := by
  rcases Nat.lt_or_ge B (2 ^ (b - 1)) with h | h
  ·have := (hb (b - 1)).2 h; omega
  ·exact h
 have h3 : 2 ^ (b - 1) * 2 ^ ((a : Int) - (b : Int) + 1).toNat ≤ B * 2 ^ ((a : Int) - (b : Int) + 1).toNat := Nat.mul_le_mul_right _ h2
 rw [← Nat.pow_add] at h3
 have h4 : 2 ^ a ≤ 2 ^ (b - 1 + ((a : Int) - (b : Int) + 1).toNat) := Nat.pow_le_pow_right (by decide) (by omega)
 omega
theorem lit_nil (w : World) : Own (w.alloc (.cells #[] 144)) (.slice (some ⟨w.heap.size, 0, none⟩) 0 0) [] := by
 have := World.ownsRow_lit (base := 0) (e := 144) (size := 1) w #[] 0 (Nat.zero_le _) (by simp [maxLen]) rfl
 simpa [Own, lcells] using this
set_option maxRecDepth 100000 in
set_option maxHeartbeats 2000000 in
theorem divAmounts_any (v u : Value) (xs ys : List Nat) (w : World) (hv : Own w v xs) (hu : Own w u ys) (lx : Lim xs) (ly : Lim ys) (bx : xs.length ≤ 400000000) (by_ : ys.length ≤ 400000000) :
 Calls Tryz.prog 188 #[v, u] w fun e w' => ∃ q r, e = .returned (.tuple #[q, r]) ∧ NatOut w w' q (val xs / val ys) xs.length ∧ NatOut w w' r (val xs % val ys) xs.length := by
 obtain ⟨ao, cap, hveq, hc, hm, -⟩ := hv.open_
 obtain ⟨bo, dap, hueq, hd, hn, -⟩ := hu.open_
 have HV := Hid.mk hv
 have HU := Hid.mk hu
 have HLX := Hid.mk lx
 have HLY := Hid.mk ly
 clear hv hu lx ly
 subst hveq
 subst hueq
 go_enter Tryz.func188, Tryz.ntmps188
 go_wp2_with fail
 refine (bitsOf_any _ ys _ HU.out HLY.out (by omega)).mono ?_
 rintro e w' ⟨wd, rfl, hwd, rfl⟩
 have HWD := Hid.mk hwd
 clear hwd
 by_cases hw0 : wd = 0
 ·have H0 := Hid.mk hw0
  subst hw0
  go_wp2_with fail
  have h0 : val ys = 0 := by
   have := (HWD.out 0).1 (Nat.le_refl _)
   simpa using this
  have hb := (Below.refl w'.heap.size w').alloc (Nat.le_refl _) (.cells #[] 144)
  go_ret2
  rw [h0, Nat.div_zero, Nat.mod_zero]
  exact ⟨_, _, rfl, ⟨⟨[], ⟨Lo_nil, .inl rfl⟩, rfl, Nat.zero_le _, lit_nil w'⟩, hb⟩, ⟨xs, HLX.out, rfl, Nat.le_refl _, HV.out.below hb⟩, hb⟩
 ·have hw1 : ((wd : Int) == 0) = false := beq_eq_false_iff_ne.2 (by omega)
  rename World => w
  go_wp2_with (at_make; refine make_limbs _ rfl (.tmp 18) (.tmp 18) rfl _ _ xs.length rfl rfl rfl rfl (by omega) ?_)
  intro w1 hown hbel
  have hw1s := hown.lt
  go_wp2_with fail
  refine (bitsOf_any _ xs _ (HV.out.below hbel) HLX.out (by omega)).mono ?_
  rintro e w2 ⟨ba, rfl, hba, rfl⟩
  have hbab : ba ≤ 32 * xs.length := (hba _).2 (by have := val_lt HLX.out.1; rw [pow32] at this; exact this)
  have hwdb : wd ≤ 32 * ys.length := (HWD.out _).2 (by have := val_lt HLY.out.1; rw [pow32] at this; exact this)
  have HST := Hid.mk (DivSt.start hba HWD.out (by omega))
  have HB0 := Hid.mk (And.intro hown hbel)
  clear hba hown hbel
  go_wp2_with fail
  go_loopw [8, 9] (fun lv i wr => ∃ (pl : Int) (zs ls : List Nat), -13000000000 ≤ pl ∧ pl ≤ 32 * (xs.length : Int) - (wd : Int) ∧ i = .int .i64 pl ∧ Hid (zs.length = xs.length ∧ Lo zs ∧ Own wr (.slice (some ⟨w.heap.size, 0, none⟩) xs.length xs.length) zs ∧ Lim ls ∧ ls.length ≤ xs.length ∧ Own wr lv ls ∧ NotAt w.heap.size lv ∧ Below w.heap.size w wr ∧ w.heap.size < wr.heap.size ∧
   DivSt (val xs) (val ys) (pl + 1).toNat (val zs) (val ls))) (fun _ i _ => (intOf i + 1).toNat)
  case atStart =>
   refine ⟨(ba : Int) - (wd : Int), _, xs, by omega, by omega, rfl, Hid.mk ⟨List.length_replicate, Lo_zeros _, HB0.out.1, HLX.out, Nat.le_refl _, HV.out.below HB0.out.2, HV.out.notAt (Nat.le_refl _), HB0.out.2, hw1s, ?_⟩⟩
   rw [val_zeros (fun x hx => List.eq_of_mem_replicate hx)]
   exact HST.out
  case round =>
   obtain ⟨pl, zs, ls, hpl0, hpl1, rfl, HI⟩ := hrel
   obtain ⟨lo, lcap, hlv, -⟩ := HI.out.2.2.2.2.2.1.open_
   subst hlv
   by_cases hp0 : pl < 0
   ·go_wp2_with fail
    refine (trim_any _ zs _ HI.out.2.2.1 HI.out.2.1).mono ?_
    rintro e w' ⟨⟨r, rfl, hr⟩, rfl⟩
    have HR := Hid.mk hr
    clear hr
    go_wp2_with fail
    go_ret2
    obtain ⟨rs, h1, h2, h3, h4⟩ := HR.out
    obtain ⟨i1, i2, i3, i4, i5, i6, i7, i8, i9, i10⟩ := HI.out
    rw [show (pl + 1).toNat = 0 from by omega] at i10
    obtain ⟨d1, d2⟩ := i10.done
    exact ⟨_, _, rfl, ⟨⟨rs, h1, by omega, by omega, h4⟩, i8⟩, ⟨ls, i4, d2, i5, i6⟩, i8⟩
   ·obtain ⟨p, rfl⟩ := Int.eq_ofNat_of_zero_le (show 0 ≤ pl by omega)
    have hp1 : ¬ ((p : Int) < 0) := by omega
    go_wp2_with fail
    refine (shiftAmount_any _ ys p _ (HU.out.below HI.out.2.2.2.2.2.2.2.1) HLY.out.1 (by omega) (by omega)).mono ?_
    rintro e w3 ⟨r3, rfl, hr3⟩
    obtain ⟨co3, ec3, ps, rfl, hZ3, hb3⟩ := hr3.shape
    have hw3 := hb3.size
    have HB3 := Hid.mk hb3
    clear hr3 hb3
    go_wp2_with fail
    refine (lessAmount_any _ _ ls ps _ (HI.out.2.2.2.2.2.1.below HB3.out) hZ3.out.2.2.2 HI.out.2.2.2.1 hZ3.out.1).mono ?_
    rintro e w4 ⟨rfl, nd, rfl⟩
    by_cases hlt : val ls < val ps
    ·have hdl : decide (val ls < val ps) = true := decide_eq_true hlt
     have HLT := Hid.mk hlt
     rw [hdl]
     clear hlt hdl
     go_wp2_with fail
     go_roundw
     case measure => simp [intOf] <;> omega
     case rel =>
      obtain ⟨i1, i2, i3, i4, i5, i6, i7, i8, i9, i10⟩ := HI.out
      have hbb := below_drewN HB3.out nd
      refine ⟨(p : Int) - 1, zs, ls, by omega, by omega, by go_num, Hid.mk ⟨i1, i2, i3.below hbb, i4, i5, i6.below hbb, i7, i8.trans (hbb.mono (by omega)), by have := hbb.size; omega, ?_⟩⟩
      rw [show ((p : Int) - 1 + 1).toNat = p from by omega]
      rw [show ((p : Int) + 1).toNat = p + 1 from by omega] at i10
      exact i10.no (by have := HLT.out; rw [hZ3.out.2.1] at this; exact this)
    ·have hdl : decide (val ls < val ps) = false := decide_eq_false hlt
     have HLT := Hid.mk hlt
     rw [hdl]
     clear hlt hdl
     go_wp2_with fail
     have HB4 := Hid.mk (below_drewN HB3.out nd)
     have hle : val ps ≤ val ls := by have := HLT.out; omega
     refine (subAmounts_fr _ _ ls ps _ (HI.out.2.2.2.2.2.1.below HB4.out) (hZ3.out.2.2.2.below (below_drewN (Below.refl _ _) nd)) HI.out.2.2.2.1.1 hZ3.out.1.1 (by have := HI.out.2.2.2.2.1; omega) hle (len_of_val HI.out.2.2.2.1 hZ3.out.1 hle)).mono ?_
     rintro e w5 ⟨r5, rfl, hr5, hf5⟩
     obtain ⟨co5, ec5, qs, rfl, hZ5, hb5⟩ := hr5.shape
     have hw4 := HB4.out.size
     have HB5 := Hid.mk (HB4.out.trans (hb5.mono hw4))
     have hw5 := HB5.out.size
     have HF5 := Hid.mk (hf5.notAt (g := w.heap.size) (by have := HI.out.2.2.2.2.2.2.2.2.1; omega))
     clear hr5 hb5 hle hf5
     obtain ⟨j, hj⟩ : ∃ j, j = p / 32 := ⟨_, rfl⟩
     obtain ⟨s, hs⟩ : ∃ s, s = p % 32 := ⟨_, rfl⟩
     have hq : (p : Int) / 32 = (j : Int) := by omega
     have hr : (p : Int) % 32 = (s : Int) := by omega
     have hs32 : s < 32 := by omega
     have hjx : j < xs.length := by omega
     have HP : Hid (p = 32 * j + s) := Hid.mk (by omega)
     clear hj hs
     have hown5 := HI.out.2.2.1.below HB5.out
     have hz1 := hown5.cell HI.out.1 j hjx
     have hz2 := hown5.frozen HI.out.1 j
     have hdv : 2 ^ (s + 1) ∣ zs.getD j 0 := by
      refine limb_dvd HI.out.2.1 (by omega) (by have := HI.out.1; omega) ?_
      have h := HI.out.2.2.2.2.2.2.2.2.2.dvd
      rw [show ((p : Int) + 1).toNat = 32 * j + (s + 1) from by have := HP.out; omega] at h
      exact h
     have hzl := Lo_get HI.out.2.1 j
     obtain ⟨ho1, ho2⟩ := or_bit _ s hs32 hzl hdv
     obtain ⟨z, hz⟩ : ∃ z, z = zs.getD j 0 := ⟨_, rfl⟩
     rw [← hz] at hz1 ho1 ho2 hzl
     obtain ⟨zz, hzz⟩ : ∃ zz, zz = z + 2 ^ s := ⟨_, rfl⟩
     rw [← hzz] at ho1 ho2
     have HZ := Hid.mk (And.intro hz hzz)
     have HO := Hid.mk hown5
     clear hz hzz hown5 hdv
     go_wp2_with fail
     go_roundw
     case measure => simp [intOf] <;> omega
     case rel =>
      obtain ⟨i1, i2, i3, i4, i5, i6, i7, i8, i9, i10⟩ := HI.out
      have e1 := hZ5.out.2.1
      have e2 := hZ3.out.2.1
      refine ⟨(p : Int) - 1, zs.set j zz, qs, by omega, by omega, by go_num, Hid.mk ⟨by simpa using i1, Lo_set i2 _ _ ho1, HO.out.stored_int i1 j zz rfl, hZ5.out.1, by have := hZ5.out.2.2.1; omega, hZ5.out.2.2.2.other _ HF5.out, HF5.out, (i8.trans (HB5.out.mono (by omega))).setCell (Nat.le_refl _) _, by simp [World.setCell]; omega, ?_⟩⟩
      rw [show ((p : Int) - 1 + 1).toNat = p from by omega]
      rw [show ((p : Int) + 1).toNat = p + 1 from by omega] at i10
      have h6 := val_set zs j zz (by omega)
      have h7 : val (zs.set j zz) = val zs + 2 ^ p := by
       have h8 : 4294967296 ^ j * zz = 4294967296 ^ j * z + 2 ^ p := by rw [HZ.out.2, Nat.mul_add, HP.out, Nat.pow_add, pow32]
       rw [← HZ.out.1, h8] at h6
       omega
      rw [h7, e1, e2]
      exact i10.yes (by have := HLT.out; rw [e2] at this; omega)
open Go.RowKit
theorem fdiv_same {x y : Int} (hs : (x < 0 ∧ y < 0) ∨ (¬ x < 0 ∧ ¬ y < 0)) : x.fdiv y = ((x.natAbs / y.natAbs : Nat) : Int) := by
 rcases hs with ⟨h1, h2⟩ | ⟨h1, h2⟩
 ·obtain ⟨a, rfl⟩ : ∃ a : Nat, x = -(a : Int) := ⟨x.natAbs, by omega⟩
  obtain ⟨b, rfl⟩ : ∃ b : Nat, y = -(b : Int) := ⟨y.natAbs, by omega⟩
  rw [Int.neg_fdiv_neg, Int.natAbs_neg, Int.natAbs_neg, Int.natAbs_natCast, Int.natAbs_natCast, Int.fdiv_eq_ediv_of_nonneg _ (by omega), Int.natCast_ediv]
 ·obtain ⟨a, rfl⟩ := Int.eq_ofNat_of_zero_le (show 0 ≤ x by omega)
  obtain ⟨b, rfl⟩ := Int.eq_ofNat_of_zero_le (show 0 ≤ y by omega)
  rw [Int.natAbs_natCast, Int.natAbs_natCast, Int.fdiv_eq_ediv_of_nonneg _ (by omega), Int.natCast_ediv]
theorem fdiv_off {x y : Int} (hy : y ≠ 0) (hs : (x < 0 ∧ ¬ y < 0) ∨ (¬ x < 0 ∧ y < 0)) : x.fdiv y = -((x.natAbs / y.natAbs + (if x.natAbs % y.natAbs = 0 then 0 else 1) : Nat) : Int) := by
 have key : ∀ a b : Nat, 0 < b → (-(a : Int)).fdiv (b : Int) = -((a / b + (if a % b = 0 then 0 else 1) : Nat) : Int) := by
  intro a b hb
  rw [Int.fdiv_eq_ediv_of_nonneg _ (by omega)]
  have h1 := Nat.div_add_mod a b
  have h2 := Nat.mod_lt a hb
  have h3 : (a : Int) = (b : Int) * ((a / b : Nat) : Int) + ((a % b : Nat) : Int) := by exact_mod_cast h1.symm
  split
  ·rename_i h
   refine Int.ediv_eq_of_eq_mul_left (by omega) ?_
   rw [h] at h3
   grind
  ·rename_i h
   have h4 : -(a : Int) = ((b : Int) - ((a % b : Nat) : Int)) + (b : Int) * (-((a / b + 1 : Nat) : Int)) := by
    rw [h3]; push_cast; grind
   rw [h4, Int.add_mul_ediv_left _ _ (by omega), Int.ediv_eq_zero_of_lt (by omega) (by omega)]
   omega
 rcases hs with ⟨h1, h2⟩ | ⟨h1, h2⟩
 ·obtain ⟨a, rfl⟩ : ∃ a : Nat, x = -(a : Int) := ⟨x.natAbs, by omega⟩
  obtain ⟨b, rfl⟩ := Int.eq_ofNat_of_zero_le (show 0 ≤ y by omega)
  rw [Int.natAbs_neg, Int.natAbs_natCast, Int.natAbs_natCast]
  exact key a b (by omega)
 ·obtain ⟨a, rfl⟩ := Int.eq_ofNat_of_zero_le (show 0 ≤ x by omega)
  obtain ⟨b, rfl⟩ : ∃ b : Nat, y = -(b : Int) := ⟨y.natAbs, by omega⟩
  rw [Int.natAbs_neg, Int.natAbs_natCast, Int.natAbs_natCast, ← Int.neg_fdiv_neg, Int.neg_neg]
  exact key a b (by omega)
set_option maxRecDepth 100000 in
set_option maxHeartbeats 2000000 in
theorem quot_zero (v u : Value) (x : Int) (L M : Nat) (w : World) (hv : IsI w v x L) (hu : IsI w u 0 M) :
 Calls Tryz.prog 135 #[v, u] w fun e w' => ∃ r, e = .returned r ∧ IntOut w w' r 0 0 := by
 obtain ⟨sl, xs, rfl, h2, h3, h4, h5⟩ := hv
 obtain ⟨tl, ys, rfl, k2, k3, k4, k5⟩ := hu
 obtain ⟨ao, cap, rfl, -⟩ := h5.open_
 obtain ⟨bo, dap, rfl, -⟩ := k5.open_
 have hy0 : ys.length = 0 := (Lim_len_zero k2 k3).2 rfl
 rw [hy0]
 clear h2 h3 h4 h5 k2 k3 k4 k5
 go_enter Tryz.func135, Tryz.ntmps135
 go_wp2_with (go_at_call 68; refine (isZero_raw _ _ _ _ _).mono ?_; rintro e w' ⟨rfl, rfl⟩)
 refine bodyPost_ret (v := .agg #[.bool false, .slice none 0 0]) ?_ rfl ?_
 ·(simp [results, Tryz.results135, go_sem]; done)
 ·refine ⟨_, rfl, IsI.zero _ _, ?_⟩
  repeat (first | exact Below.refl _ _ | refine Below.alloc ?_ (by simp <;> omega) _)
set_option maxRecDepth 100000 in
set_option maxHeartbeats 2000000 in
theorem quot_same (nb : Bool) (ao bo : Option Addr) (cap dap : Nat) (xs ys : List Nat) (w : World) (hx : Own w (.slice ao xs.length cap) xs) (hy : Own w (.slice bo ys.length dap) ys) (lx : Lim xs) (ly : Lim ys) (bx : xs.length ≤ 400000000) (by_ : ys.length ≤ 400000000) (hy0 : 0 < ys.length) :
 Calls Tryz.prog 135 #[.agg #[.bool nb, .slice ao xs.length cap], .agg #[.bool nb, .slice bo ys.length dap]] w fun e w' => ∃ co n ecap, e = .returned (.agg #[.bool false, .slice co n ecap]) ∧ NatOut w w' (.slice co n ecap) (val xs / val ys) xs.length := by
 have H := Hid.mk hx
 have K := Hid.mk hy
 have hyb : ((ys.length : Int) == 0) = false := beq_eq_false_iff_ne.2 (by omega)
 clear hx hy
 go_enter Tryz.func135, Tryz.ntmps135
 go_wp2_with (go_at_call 68; refine (isZero_raw _ _ _ _ _).mono ?_; rintro e w' ⟨rfl, rfl⟩; rw [hyb])
 refine (divAmounts_any _ _ xs ys _ (H.out.below ?_) (K.out.below ?_) lx ly bx by_).mono ?_
 ·repeat (first | exact Below.refl _ _ | refine Below.alloc ?_ (by simp <;> omega) _)
 ·repeat (first | exact Below.refl _ _ | refine Below.alloc ?_ (by simp <;> omega) _)
 rintro e w1 ⟨q, r, rfl, hq, hr⟩
 obtain ⟨co, ecap, zs, rfl, hZ, hb⟩ := hq.shape
 obtain ⟨ro, rcap, ls, rfl, hR, -⟩ := hr.shape
 obtain ⟨hc, hf⟩ := bcell hb
 have hty : Ty w1 (w.heap.size + 2) 79 := Ty.below (Ty.alloc (Ty.at_ _ _ _ (by simp)) _) hb (by simp)
 have hz : w.heap.size + 2 < w1.heap.size := hty.lt
 have HT := Hid.mk hty
 have HB := Hid.mk hb
 clear hty hr hq hb
 go_wp2_with fail
 refine bodyPost_ret (v := .agg #[.bool false, .slice co zs.length ecap]) ?_ rfl ?_
 ·(simp [results, Tryz.results135, go_sem, hc]; done)
 ·refine ⟨_, _, _, rfl, ⟨zs, hZ.out.1, hZ.out.2.1, hZ.out.2.2.1, hZ.out.2.2.2.keep (KU.setCell (KU.setCell (KU.refl _) HT.out (by decide) _) (HT.out.setCell _ _) (by decide) _)⟩, ?_⟩
  refine Below.trans ?_ (((Below.refl _ _).setCell (by simp <;> omega) _).setCell (by simp <;> omega) _)
  refine Below.trans ?_ (HB.out.mono (by simp <;> omega))
  repeat (first | exact Below.refl _ _ | refine Below.drew ?_ | refine Below.alloc ?_ (by simp <;> omega) _)
theorem lit_one (w : World) : Own (w.alloc (.cells #[.int .u32 1] 144)) (.slice (some ⟨w.heap.size, 0, none⟩) 1 1) [1] := by
 have := World.ownsRow_lit (base := 0) (e := 144) (size := 1) w #[.int .u32 1] 1 (Nat.zero_le _) (by simp [maxLen]) rfl
 simpa [Own, lcells] using this
set_option maxRecDepth 100000 in
set_option maxHeartbeats 2000000 in
theorem quot_off (nb : Bool) (ao bo : Option Addr) (cap dap : Nat) (xs ys : List Nat) (w : World) (hx : Own w (.slice ao xs.length cap) xs) (hy : Own w (.slice bo ys.length dap) ys) (lx : Lim xs) (ly : Lim ys) (bx : xs.length ≤ 400000000) (by_ : ys.length ≤ 400000000) (hy0 : 0 < ys.length) (E : Nat) (hE : Hid (E = val xs / val ys + (if val xs % val ys = 0 then 0 else 1))) :
 Calls Tryz.prog 135 #[.agg #[.bool nb, .slice ao xs.length cap], .agg #[.bool (!nb), .slice bo ys.length dap]] w fun e w' => ∃ co n ecap, e = .returned (.agg #[.bool (decide (0 < n)), .slice co n ecap]) ∧ NatOut w w' (.slice co n ecap) E (xs.length + 1) := by
 have H := Hid.mk hx
 have K := Hid.mk hy
 have hyb : ((ys.length : Int) == 0) = false := beq_eq_false_iff_ne.2 (by omega)
 clear hx hy
 cases nb
 all_goals
  try simp only [Bool.not_true]
  try simp only [Bool.not_false]
  go_enter Tryz.func135, Tryz.ntmps135
  go_wp2_with (go_at_call 68; refine (isZero_raw _ _ _ _ _).mono ?_; rintro e w' ⟨rfl, rfl⟩; rw [hyb])
  refine (divAmounts_any _ _ xs ys _ (H.out.below ?_) (K.out.below ?_) lx ly bx by_).mono ?_
  ·repeat (first | exact Below.refl _ _ | refine Below.alloc ?_ (by simp <;> omega) _)
  ·repeat (first | exact Below.refl _ _ | refine Below.alloc ?_ (by simp <;> omega) _)
  rintro e w1 ⟨q, r, rfl, hq, hr⟩
  obtain ⟨co, ecap, zs, rfl, hZ, hb⟩ := hq.shape
  obtain ⟨ro, rcap, ls, rfl, hR, -⟩ := hr.shape
  obtain ⟨hc, hf⟩ := bcell hb
  have hty : Ty w1 (w.heap.size + 2) 79 := Ty.below (Ty.alloc (Ty.at_ _ _ _ (by simp)) _) hb (by simp)
  have hz : w.heap.size + 2 < w1.heap.size := hty.lt
  have hb0 : Below w.heap.size w w1 := Below.trans (by repeat (first | exact Below.refl _ _ | refine Below.alloc ?_ (by simp <;> omega) _)) (hb.mono (by simp <;> omega))
  have hD1 : Duo w1 (w.heap.size + 1 + 1) (.bool false) (.slice none 0 0) := ((Duo.new _ _ _ (by simp)).below ((Below.refl _ _).alloc (Nat.le_refl _) _) (by simp)).below hb (by simp)
  have HD1 := Hid.mk hD1
  clear hD1
  have HT := Hid.mk hty
  have HB := Hid.mk hb0
  have hl0 : ls.length = 0 ↔ val xs % val ys = 0 := by rw [← hR.out.2.1, Lim_zero hR.out.1, List.length_eq_zero_iff]
  have HL0 := Hid.mk hl0
  clear hty hr hq hb hb0 hl0
  by_cases hl : ls.length = 0
  ·have HLL := Hid.mk hl
   have hl2 : decide (0 < ls.length) = false := by simp [hl]
   rw [hl]
   rw [hl] at hR
   clear hl hl2
   go_wp2_with fail
   refine bodyPost_ret (v := .agg #[.bool (decide (0 < zs.length)), .slice co zs.length ecap]) ?_ rfl ?_
   ·(simp [results, Tryz.results135, go_sem, hc]; done)
   ·have e0 := HL0.out.1 HLL.out
    have hE2 := hE.out
    rw [e0, if_pos rfl, Nat.add_zero] at hE2
    rw [hE2]
    refine ⟨_, _, _, rfl, ⟨zs, hZ.out.1, hZ.out.2.1, by have := hZ.out.2.2.1; omega, hZ.out.2.2.2.keep (KU.setCell (KU.setCell (KU.refl _) HT.out (by decide) _) (HT.out.setCell _ _) (by decide) _)⟩, ?_⟩
    exact HB.out.trans (((Below.refl _ _).setCell (by simp <;> omega) _).setCell (by simp <;> omega) _)
  ·have HLL := Hid.mk hl
   have hl2 : 0 < ls.length := by omega
   clear hl
   go_wp2_with fail
   have hb1 := (Below.refl w1.heap.size w1).alloc (Nat.le_refl _) (.cells #[.int .u32 1] 144)
   refine (addAmounts_any _ _ zs [1] _ (hZ.out.2.2.2.below hb1) (lit_one w1) hZ.out.1.1 (by intro x hx; simp at hx; omega) (by have := hZ.out.2.2.1; omega) (by simp)).mono ?_
   rintro e w2 ⟨r2, rfl, hr2⟩
   obtain ⟨co2, ecap2, zs2, rfl, hZ2, hb2⟩ := hr2.shape
   have hb12 := hb1.trans (hb2.mono hb1.size)
   have hw2 := hb12.size
   have hbB := HB.out.trans (hb12.mono HB.out.size)
   have hD : Duo w2 (w.heap.size + 1 + 1) (.bool false) (.slice none 0 0) := HD1.out.below hb12 (by omega)
   obtain ⟨d0, d1, d2, d3⟩ := hD.cells
   have HD := Hid.mk (And.intro hD hbB)
   clear hr2 hb1 hb2 hb12 hD hc hf hbB
   go_wp2_with fail
   obtain ⟨g1, g2, -, -⟩ := (HD.out.1.put (.bool (decide (0 < zs2.length))) (.slice co2 zs2.length ecap2)).cells
   refine bodyPost_ret (v := .agg #[.bool (decide (0 < zs2.length)), .slice co2 zs2.length ecap2]) ?_ rfl ?_
   ·(simp [results, Tryz.results135, go_sem, g1, g2]; done)
   ·have hE2 := hE.out
    rw [if_neg (fun h => HLL.out (HL0.out.2 h))] at hE2
    have a1 := hZ2.out.2.1
    have a2 := hZ2.out.2.2.1
    have a3 := hZ.out.2.1
    have a4 := hZ.out.2.2.1
    have a5 : xs.length ≠ 0 := by have := hR.out.2.2.1; omega
    simp [val] at a1 a2
    refine ⟨_, _, _, rfl, ⟨zs2, hZ2.out.1, by omega, by omega, hZ2.out.2.2.2.keep (KU.setCell (KU.setCell (KU.refl _) HD.out.1.ty (by decide) _) (HD.out.1.ty.setCell _ _) (by decide) _)⟩, ?_⟩
    exact (HD.out.2.setCell (by simp; omega) _).setCell (by simp; omega) _
theorem quot_any (v u : Value) (x y : Int) (L M : Nat) (w : World) (hv : IsI w v x L) (hu : IsI w u y M) (hL : L ≤ 400000000) (hM : M ≤ 400000000) :
 Calls Tryz.prog 135 #[v, u] w fun e w' => ∃ r, e = .returned r ∧ IntOut w w' r (x.fdiv y) (L + 1) := by
 by_cases hy : y = 0
 ·subst hy
  refine (quot_zero v u x L M w hv hu).mono ?_
  rintro e w' ⟨r, rfl, h1, h2⟩
  exact ⟨r, rfl, by rw [Int.fdiv_zero]; exact h1.mono (Nat.zero_le _), h2⟩
 ·obtain ⟨sl, xs, rfl, h2, h3, h4, h5⟩ := hv
  obtain ⟨tl, ys, rfl, k2, k3, k4, k5⟩ := hu
  obtain ⟨ao, cap, rfl, -⟩ := h5.open_
  obtain ⟨bo, dap, rfl, -⟩ := k5.open_
  have hy0 : 0 < ys.length := by have := Lim_len_zero k2 k3; omega
  by_cases hs : (x < 0 ↔ y < 0)
  ·rw [show decide (y < 0) = decide (x < 0) from by simp only [hs]]
   refine (quot_same _ _ _ _ _ xs ys w h5 k5 h2 k2 (by omega) (by omega) hy0).mono ?_
   rintro e w' ⟨co, n, ecap, rfl, hr⟩
   have e1 := fdiv_same (x := x) (y := y) (by omega)
   rw [h3, k3] at hr
   generalize x.natAbs / y.natAbs = q at *
   exact ⟨_, rfl, IntOut.of_nat hr (by rw [e1]; simp) (by rw [e1]; simp) (by omega)⟩
  ·rw [show decide (y < 0) = !decide (x < 0) from by
    by_cases h1 : x < 0 <;> by_cases h2 : y < 0 <;> simp [h1, h2] <;> omega]
   refine (quot_off _ _ _ _ _ xs ys w h5 k5 h2 k2 (by omega) (by omega) hy0 _ (Hid.mk rfl)).mono ?_
   rintro e w' ⟨co, n, ecap, rfl, hr⟩
   have e1 := fdiv_off (x := x) (y := y) hy (by omega)
   rw [h3, k3] at hr
   generalize x.natAbs / y.natAbs + (if x.natAbs % y.natAbs = 0 then 0 else 1) = q at *
   have hn : n = 0 ↔ x.fdiv y = 0 := by
    obtain ⟨⟨zs, a, c, d, e⟩, f⟩ := hr
    obtain ⟨co', ecap', hsl, -⟩ := e.open_
    simp only [Value.slice.injEq] at hsl
    rw [hsl.2.1, List.length_eq_zero_iff, ← Lim_zero a, c, e1]
    omega
   exact ⟨_, rfl, IntOut.of_nat hr (by rw [e1]; simp) (by rw [decide_eq_true_eq]; omega) (by omega)⟩
open Go.RowKit
set_option maxRecDepth 100000 in
set_option maxHeartbeats 400000 in
theorem isBelow_any (v : Value) (z : Int) (L : Nat) (w : World) (h : IsI w v z L) :
 Calls Tryz.prog 96 #[v] w fun e w' => e = .returned (.bool (decide (z < 0))) ∧ Below w.heap.size w w' := by
 obtain ⟨sl, xs, rfl, h2, h3, h4, h5⟩ := h
 obtain ⟨ao, cap, rfl, -⟩ := h5.open_
 clear h2 h3 h4 h5
 obtain ⟨nz, hnz⟩ : ∃ nz, nz = decide (z < 0) := ⟨_, rfl⟩
 rw [← hnz]
 clear hnz
 go_enter Tryz.func96, Tryz.ntmps96
 go_wp2
 go_ret
 exact ⟨rfl, (Below.refl _ _).alloc (Nat.le_refl _) _⟩
set_option maxRecDepth 100000 in
set_option maxHeartbeats 400000 in
theorem isSmaller_any (v u : Value) (x y : Int) (L M : Nat) (w : World) (hv : IsI w v x L) (hu : IsI w u y M) :
 Calls Tryz.prog 132 #[v, u] w fun e w' => e = .returned (.bool (decide (x.natAbs < y.natAbs))) ∧ Below w.heap.size w w' := by
 obtain ⟨sl, xs, rfl, h2, h3, h4, h5⟩ := hv
 obtain ⟨tl, ys, rfl, k2, k3, k4, k5⟩ := hu
 obtain ⟨ao, cap, rfl, -⟩ := h5.open_
 obtain ⟨bo, dap, rfl, -⟩ := k5.open_
 obtain ⟨nx, hnx⟩ : ∃ nx, nx = decide (x < 0) := ⟨_, rfl⟩
 obtain ⟨ny, hny⟩ : ∃ ny, ny = decide (y < 0) := ⟨_, rfl⟩
 rw [← hnx, ← hny, ← h3, ← k3]
 have H := Hid.mk (And.intro h2 h5)
 have K := Hid.mk (And.intro k2 k5)
 obtain ⟨d, hd⟩ : ∃ d, d = decide (val xs < val ys) := ⟨_, rfl⟩
 rw [← hd]
 have HD := Hid.mk hd
 clear h2 h3 h4 h5 k2 k3 k4 k5 hnx hny hd
 go_enter Tryz.func132, Tryz.ntmps132
 go_wp2_with fail
 refine (lessAmount_any _ _ xs ys _ (H.out.2.below ?_) (K.out.2.below ?_) H.out.1 K.out.1).mono ?_
 ·repeat (first | exact Below.refl _ _ | refine Below.drew ?_ | refine Below.alloc ?_ (by simp <;> omega) _)
 ·repeat (first | exact Below.refl _ _ | refine Below.drew ?_ | refine Below.alloc ?_ (by simp <;> omega) _)
 rintro e w0 ⟨rfl, nd, rfl⟩
 rw [← HD.out]
 go_wp2_with fail
 go_ret
 refine ⟨rfl, below_drewN ?_ _⟩
 repeat (first | exact Below.refl _ _ | refine Below.drew ?_ | refine Below.alloc ?_ (by simp <;> omega) _)
set_option maxRecDepth 100000 in
set_option maxHeartbeats 1000000 in
theorem isMultiple_any (v u : Value) (x y : Int) (L M : Nat) (w : World) (hv : IsI w v x L) (hu : IsI w u y M) (hL : L ≤ 400000000) (hM : M ≤ 400000000) :
 Calls Tryz.prog 144 #[v, u] w fun e w' => e = .returned (.bool (decide (y ∣ x))) ∧ Below w.heap.size w w' := by
 obtain ⟨sl, xs, rfl, h2, h3, h4, h5⟩ := hv
 obtain ⟨tl, ys, rfl, k2, k3, k4, k5⟩ := hu
 obtain ⟨ao, cap, rfl, -⟩ := h5.open_
 obtain ⟨bo, dap, rfl, -⟩ := k5.open_
 have H := Hid.mk (And.intro h2 h5)
 have K := Hid.mk (And.intro k2 k5)
 obtain ⟨D, hD⟩ : ∃ D, D = decide (y ∣ x) := ⟨_, rfl⟩
 rw [← hD]
 have hDD : ∀ n : Nat, (n = 0 ↔ val xs % val ys = 0) → ((n : Int) == 0) = D := by
  intro n hn
  rw [hD, Bool.eq_iff_iff, beq_iff_eq, decide_eq_true_eq, ← Int.natAbs_dvd_natAbs, ← h3, ← k3, Nat.dvd_iff_mod_eq_zero]
  omega
 have HD := Hid.mk hDD
 have hl1 : xs.length ≤ 400000000 := by omega
 have hl2 : ys.length ≤ 400000000 := by omega
 obtain ⟨nx, hnx⟩ : ∃ nx, nx = decide (x < 0) := ⟨_, rfl⟩
 obtain ⟨ny, hny⟩ : ∃ ny, ny = decide (y < 0) := ⟨_, rfl⟩
 rw [← hnx, ← hny]
 clear h2 h3 h4 h5 k2 k3 k4 k5 hnx hny hD hDD
 go_enter Tryz.func144, Tryz.ntmps144
 go_wp2_with fail
 have hb0 : Below w.heap.size w ((w.alloc (.cells #[.bool nx, .slice ao xs.length cap] 79)).alloc (.cells #[.bool ny, .slice bo ys.length dap] 79)) := by
  repeat (first | exact Below.refl _ _ | refine Below.drew ?_ | refine Below.alloc ?_ (by simp <;> omega) _)
 have HB0 := Hid.mk hb0
 clear hb0
 refine (divAmounts_any _ _ xs ys _ (H.out.2.below HB0.out) (K.out.2.below HB0.out) H.out.1 K.out.1 hl1 hl2).mono ?_
 rintro e w1 ⟨q, r, rfl, hq, hr⟩
 obtain ⟨co, ecap, zs, rfl, hZ, hb⟩ := hq.shape
 obtain ⟨ro, rcap, ls, rfl, hR, -⟩ := hr.shape
 have HB := Hid.mk (HB0.out.trans (hb.mono HB0.out.size))
 have hl := HD.out ls.length (by rw [← hR.out.2.1, Lim_zero hR.out.1, List.length_eq_zero_iff])
 clear hq hr hb
 go_wp2_with fail
 go_ret
 exact ⟨rfl, HB.out⟩
end Go.Proofs.YtfjbijpagaipnabGreatDoor
