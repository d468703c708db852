import Derived.Test.YtfjbijpagaipnabGreatDoorT19
import Derived.Test.YtfjbijpagaipnabGreatDoorT18
import Derived.Test.YtfjbijpagaipnabGreatDoorT10
import Derived.Test.YtfjbijpagaipnabGreatDoorT12
import Derived.Test.YtfjbijpagaipnabGreatDoorT14
import Derived.Deep.RegionHeld3
namespace Go.Proofs.YtfjbijpagaipnabGreatDoor
open Go.RowKit
theorem Writes.wide {s : ByteArray} {r c L L' : Nat} {zs : List Int} (h : Writes s r c zs L) (hL : L ≤ L') : Writes s r c zs L' := by
 obtain ⟨dr, dc, tks, h1, h2, h3, h4, h5, h6, h7, h8⟩ := h
 exact ⟨dr, dc, tks, h1, h2, h3, h4, h5, h6, h7, fun t ht => ⟨(h8 t ht).1, Nat.le_trans (h8 t ht).2 hL⟩⟩
theorem rect_writes (r c : Nat) (e : Nat → Nat → Int) (hb : SmallR r c e) : Writes ⟨(headT r c ++ bodyT c 0 (toks r c e)).toArray⟩ r c (nums r c e) 4000 := by
 refine (writes_toks r c e _ (fun i j hi hj => ?_) ?_).wide (by omega)
 ·have := hb i j hi hj; omega
 ·simp [headT]
theorem rect_div {r c t : Nat} (ht : t < r * c) : t / c < r ∧ t % c < c := by
 have hc : 0 < c := by
  rcases Nat.eq_zero_or_pos c with h | h
  ·subst h; simp at ht
  ·exact h
 exact ⟨Nat.div_lt_of_lt_mul (by rw [Nat.mul_comm]; exact ht), Nat.mod_lt _ hc⟩
theorem rect_len (r c : Nat) (e : Nat → Nat → Int) (hr : r ≤ 4) (hc : c ≤ 4) (hb : SmallR r c e) : (⟨(headT r c ++ bodyT c 0 (toks r c e)).toArray⟩ : ByteArray).size ≤ 4000 := by
 have h1 : (bodyT c 0 (toks r c e)).length ≤ 23 * (toks r c e).length := by
  refine body_len c _ 0 (fun x hx => ?_)
  obtain ⟨t, ht, rfl⟩ := List.mem_map.1 hx
  have ht := rect_div (List.mem_range.1 ht)
  have := hb (t / c) (t % c) ht.1 ht.2
  exact Lib.itoa_length_le _ (by omega) (by omega)
 have h2 : (toks r c e).length ≤ 16 := by
  have : r * c ≤ 4 * 4 := Nat.mul_le_mul hr hc
  simp [toks]; omega
 have h3 : (Lib.itoa (r : Int)).length ≤ 21 := Lib.itoa_length_le _ (by omega) (by omega)
 have h4 : (Lib.itoa (c : Int)).length ≤ 21 := Lib.itoa_length_le _ (by omega) (by omega)
 show (headT r c ++ bodyT c 0 (toks r c e)).toArray.size ≤ 4000
 simp [headT]; omega
theorem nums_get {r c t : Nat} (e : Nat → Nat → Int) (ht : t < r * c) : (nums r c e).getD t 0 = e (t / c) (t % c) := by simp [nums, List.getD, ht]
theorem nums_ent {r c i j : Nat} (e : Nat → Nat → Int) (hi : i < r) (hj : j < c) : ent c (nums r c e) i j = e i j := by
 have hlt : i * c + j < r * c := by
  have := Nat.mul_le_mul_right c (Nat.succ_le_of_lt hi)
  rw [Nat.succ_mul] at this; omega
 have h1 : (i * c + j) / c = i := by rw [Nat.mul_comm, Nat.mul_add_div (by omega), Nat.div_eq_of_lt hj]; omega
 have h2 : (i * c + j) % c = j := by rw [Nat.mul_comm, Nat.mul_add_mod, Nat.mod_eq_of_lt hj]
 unfold ent
 rw [nums_get e hlt, h1, h2]
theorem nums_fits {r c : Nat} {e : Nat → Nat → Int} (hr : r ≤ 4) (hc : c ≤ 4) (hb : SmallR r c e) : FitsP r c (nums r c e) := by
 refine ⟨hr, hc, fun t ht => ?_⟩
 have h1 := rect_div ht
 rw [nums_get e ht]
 have := hb _ _ h1.1 h1.2
 omega
def KL (B : Nat) (w : World) (d b : Nat) (l : List KMx) : Prop := KS B w d b (stk l) l.length
theorem KL.below {B : Nat} {w w' : World} {d b : Nat} {l : List KMx} (h : KL B w d b l) (hb : Below w.heap.size w w') : KL B w' d b l := KS.below h hb
set_option maxRecDepth 100000 in
set_option maxHeartbeats 1000000 in
theorem put_stk (B d b r c : Nat) (v : Value) (e : Nat → Nat → Int) (l : List KMx) (w : World) (hk : KL B w d b l) (hl : l.length < 24) (hm : RdM w v r c e) (hr : r ≤ 4) (hc : c ≤ 4) (hs : SmallR r c e) :
 Calls Tryz.prog 26 #[.pointer (some ⟨d, 0, none⟩), v, .int .i64 c] w fun x w' => x = .returned (.int .i64 (l.length : Nat)) ∧ KL B w' d b (l ++ [(r, c, nums r c e)]) ∧ Fr b w w' := by
 have hdl := hk.dk.lt
 obtain ⟨ao, cap, rfl, hrc, hcap⟩ : ∃ ao cap, v = .slice ao r cap ∧ r ≤ cap ∧ cap ≤ 9223372036854775807 := by
  obtain ⟨ao, cap, h1, h2, h3, -⟩ := hm
  exact ⟨ao, cap, h1, h2, h3⟩
 have H := Hid.mk (And.intro hk (And.intro hm hs))
 clear hk hm hs
 go_enter Tryz.func26, Tryz.ntmps26
 go_wp2_with fail
 refine (text_rd ao cap r c e _ H.out.2.1 (by omega) (by omega) hrc hcap H.out.2.2).mono ?_
 rintro x w1 ⟨rfl, hb1⟩
 have hlen := rect_len r c e hr hc H.out.2.2
 have hwr := rect_writes r c e H.out.2.2
 generalize (⟨(headT r c ++ bodyT c 0 (toks r c e)).toArray⟩ : ByteArray) = S at *
 have K1 := Hid.mk (And.intro (H.out.1.below hb1) (And.intro hb1 hwr))
 have c0 := K1.out.1.dk.cell
 clear hb1 hwr
 go_wp2_with fail
 refine (type_yes b S r c (nums r c e) (stk l) l.length _ K1.out.1.held (by omega) hlen (by omega) (by omega) K1.out.2.2).mono ?_
 rintro x w2 ⟨h, e', rfl, ho⟩
 rcases ho with ⟨-, -, hn, -⟩ | ⟨-, -, -, hf, -⟩ | ⟨rfl, rfl, -, ⟨i, hi, hH⟩, hF⟩
 ·exact absurd (nums_fits hr hc H.out.2.2) hn
 ·exact (stk_room hl hf).elim
 ·rw [stk_put hl _ hi] at hH
  have K2 := Hid.mk (And.intro (K1.out.1.step hH hF) ((Fr.of_below (p := b) K1.out.2.1).trans hF))
  clear hH hF hi c0
  go_wp2_with fail
  go_ret
  refine ⟨rfl, ?_, K2.out.2⟩
  have := K2.out.1
  unfold KL
  rw [List.length_append]
  exact this
open Go.RowKit
open Go.RowKit
open Go.RowKit
open Go.RowKit
open Go.RowKit
def DiagOut (r c : Nat) (zs : List Int) (e : Ending) : Prop := ∃ y : Bool, e = .returned (.bool y) ∧ (y = true ↔ ∀ i j, i < r → j < c → i ≠ j → ent c zs i j = 0)
theorem DiagOut.mk {r c : Nat} {zs : List Int} {e : Ending} (y : Bool) (h : e = .returned (.bool y)) (h2 : y = true ↔ ∀ i j, i < r → j < c → i ≠ j → ent c zs i j = 0) : DiagOut r c zs e := ⟨y, h, h2⟩
def OddOut (r c : Nat) (zs : List Int) (e : Ending) : Prop := ∃ z : Int, e = .returned (.int .i64 z) ∧ ((z = -1 ∧ ∀ i, i + 1 < r → i + 1 < c → ent c zs i i ∣ ent c zs (i + 1) (i + 1)) ∨ ∃ a : Nat, z = a ∧ a + 1 < r ∧ a + 1 < c ∧ ¬ ent c zs a a ∣ ent c zs (a + 1) (a + 1) ∧ ∀ i, i < a → ent c zs i i ∣ ent c zs (i + 1) (i + 1))
theorem OddOut.mk {r c : Nat} {zs : List Int} {e : Ending} (z : Int) (h : e = .returned (.int .i64 z)) (h2 : (z = -1 ∧ ∀ i, i + 1 < r → i + 1 < c → ent c zs i i ∣ ent c zs (i + 1) (i + 1)) ∨ ∃ a : Nat, z = a ∧ a + 1 < r ∧ a + 1 < c ∧ ¬ ent c zs a a ∣ ent c zs (a + 1) (a + 1) ∧ ∀ i, i < a → ent c zs i i ∣ ent c zs (i + 1) (i + 1)) : OddOut r c zs e := ⟨z, h, h2⟩
set_option maxRecDepth 100000 in
set_option maxHeartbeats 4000000 in
theorem isDiag_any (v : Value) (r c : Nat) (zs : List Int) (L : Nat) (w : World) (hm : IsM w v r c zs L) :
 Calls Tryz.prog 73 #[v] w fun e w' => DiagOut r c zs e ∧ Below w.heap.size w w' := by
 have HM := Hid.mk hm
 obtain ⟨hr, hc, sl, rfl, hg0⟩ := hm
 obtain ⟨ao, cap, rfl, -⟩ := hg0.shape
 clear hg0
 obtain ⟨N, hN⟩ : ∃ N, N = r * c := ⟨_, rfl⟩
 rw [← hN] at HM ⊢
 clear hN
 go_enter Tryz.func73, Tryz.ntmps73
 go_wp2_with fail
 obtain ⟨W0, hW0⟩ : ∃ W0, W0 = w.alloc (.cells #[.int .i64 r, .int .i64 c, .slice ao N cap] 66) := ⟨_, rfl⟩
 have hs0 : W0.heap.size = w.heap.size + 1 := by rw [hW0]; simp
 have hb0 : Below w.heap.size w W0 := by rw [hW0]; exact (Below.refl _ _).alloc (Nat.le_refl _) _
 have hm0 : Trio W0 w.heap.size (.int .i64 r) (.int .i64 c) (.slice ao N cap) := by
  rw [hW0]
  exact ⟨new_cell _ _ _ _ _ rfl rfl, new_cell _ _ _ _ _ rfl rfl, new_cell _ _ _ _ _ rfl rfl⟩
 have K0 := Hid.mk (And.intro hb0 hm0)
 rw [← hW0]
 clear hb0 hm0 hW0
 go_loopw [3] (fun i wr => ∃ a : Nat, a ≤ r ∧ i = .int .i64 a ∧ Hid (Below W0.heap.size W0 wr ∧ ∀ i j, i < a → j < c → i ≠ j → ent c zs i j = 0)) (fun i _ => r - (intOf i).toNat)
 case atStart => exact ⟨0, Nat.zero_le _, rfl, Hid.mk ⟨Below.refl _ _, fun i j h => by omega⟩⟩
 case round =>
  rename World => wo
  obtain ⟨a, ha, rfl, HI⟩ := hrel
  obtain ⟨q0, q1, q2⟩ := K0.out.2.later HI.out.1
  by_cases har : a < r
  ·have hai : (a : Int) < (r : Int) := by omega
   go_wp2_with fail
   clear q0 q1 q2
   go_loopw [4] (fun i wr => ∃ e : Nat, e ≤ c ∧ i = .int .i64 e ∧ Hid (Below W0.heap.size W0 wr ∧ ∀ j, j < e → a ≠ j → ent c zs a j = 0)) (fun i _ => c - (intOf i).toNat)
   case atStart => exact ⟨0, Nat.zero_le _, rfl, Hid.mk ⟨HI.out.1, fun j h => by omega⟩⟩
   case round =>
    rename World => wi
    obtain ⟨e, he, rfl, HJ⟩ := hrel
    obtain ⟨q0, q1, q2⟩ := K0.out.2.later HJ.out.1
    have hwi := HJ.out.1.size
    by_cases hec : e < c
    ·have hei : (e : Int) < (c : Int) := by omega
     by_cases hae : a = e
     ·have hae' : ((a : Int) != (e : Int)) = false := by simp [hae]
      have HAE := Hid.mk hae
      clear hae
      go_wp2_with fail
      go_roundw
      case measure => simp [intOf]; omega
      case rel => exact ⟨e + 1, by omega, by go_num, Hid.mk ⟨HJ.out.1, fun j hj hne => HJ.out.2 j (by have := HAE.out; omega) hne⟩⟩
     ·have hae' : ((a : Int) != (e : Int)) = true := by simp; omega
      go_wp2_with fail
      refine (at_in _ r c a e zs L _ ((HM.out.below K0.out.1).below HJ.out.1) har hec).mono ?_
      rintro e9 w2 ⟨x, rfl, hx, hb2⟩
      have hb02 := HJ.out.1.trans (hb2.mono hwi)
      have K2 := Hid.mk (And.intro hx hb02)
      have hw2 := hb02.size
      clear hx hb2 hb02
      go_wp2_with fail
      refine (isZero_any _ _ L _ K2.out.1).mono ?_
      rintro e9 w3 ⟨rfl, hb3⟩
      have hb03 := K2.out.2.trans (hb3.mono hw2)
      obtain ⟨D, hD⟩ : ∃ D, D = decide (zs.getD (a * c + e) 0 = 0) := ⟨_, rfl⟩
      rw [← hD]
      have K3 := Hid.mk (And.intro hb03 hD)
      clear hb3 hb03 hD q0 q1 q2
      cases D
      ·go_wp2_with fail
       go_ret
       exact ⟨DiagOut.mk false rfl ⟨fun h => (by cases h), fun h => absurd (h a e har hec hae) (of_decide_eq_false K3.out.2.symm)⟩, K0.out.1.trans (K3.out.1.mono (by omega))⟩
      ·go_wp2_with fail
       go_roundw
       case measure => simp [intOf]; omega
       case rel =>
        refine ⟨e + 1, by omega, by go_num, Hid.mk ⟨K3.out.1, fun j hj hne => ?_⟩⟩
        by_cases hje : j = e
        ·subst hje; exact of_decide_eq_true K3.out.2.symm
        ·exact HJ.out.2 j (by omega) hne
    ·have hei : ¬ (e : Int) < (c : Int) := by omega
     go_wp2_with fail
     go_roundw
     case measure => simp [intOf]; omega
     case rel =>
      refine ⟨a + 1, by omega, by go_num, Hid.mk ⟨HJ.out.1, fun i j hi hj hne => ?_⟩⟩
      by_cases hia : i = a
      ·subst hia; exact HJ.out.2 j (by omega) hne
      ·exact HI.out.2 i j (by omega) hj hne
  ·have hai : ¬ (a : Int) < (r : Int) := by omega
   go_wp2_with fail
   go_ret
   exact ⟨DiagOut.mk true rfl ⟨fun _ i j hi hj hne => HI.out.2 i j (by omega) hj hne, fun _ => rfl⟩, K0.out.1.trans (HI.out.1.mono (by omega))⟩
set_option maxRecDepth 100000 in
set_option maxHeartbeats 4000000 in
theorem oddPlace_any (v : Value) (r c : Nat) (zs : List Int) (L : Nat) (w : World) (hm : IsM w v r c zs L) (hL : L ≤ 400000000) :
 Calls Tryz.prog 106 #[v] w fun e w' => OddOut r c zs e ∧ Below w.heap.size w w' := by
 have HM := Hid.mk hm
 obtain ⟨hr, hc, sl, rfl, hg0⟩ := hm
 obtain ⟨ao, cap, rfl, -⟩ := hg0.shape
 clear hg0
 obtain ⟨N, hN⟩ : ∃ N, N = r * c := ⟨_, rfl⟩
 rw [← hN] at HM ⊢
 clear hN
 go_enter Tryz.func106, Tryz.ntmps106
 go_wp2_with fail
 obtain ⟨W0, hW0⟩ : ∃ W0, W0 = w.alloc (.cells #[.int .i64 r, .int .i64 c, .slice ao N cap] 66) := ⟨_, rfl⟩
 have hs0 : W0.heap.size = w.heap.size + 1 := by rw [hW0]; simp
 have hb0 : Below w.heap.size w W0 := by rw [hW0]; exact (Below.refl _ _).alloc (Nat.le_refl _) _
 have hm0 : Trio W0 w.heap.size (.int .i64 r) (.int .i64 c) (.slice ao N cap) := by
  rw [hW0]
  exact ⟨new_cell _ _ _ _ _ rfl rfl, new_cell _ _ _ _ _ rfl rfl, new_cell _ _ _ _ _ rfl rfl⟩
 have K0 := Hid.mk (And.intro hb0 hm0)
 rw [← hW0]
 clear hb0 hm0 hW0
 go_loopw [3] (fun i wr => ∃ a a1 : Nat, Hid (a1 = a + 1) ∧ a1 ≤ 100 ∧ i = .int .i64 a1 ∧ Hid (Below W0.heap.size W0 wr ∧ ∀ i, i < a → i + 1 < r → i + 1 < c → ent c zs i i ∣ ent c zs (i + 1) (i + 1))) (fun i _ => 100 - (intOf i).toNat)
 case atStart => exact ⟨0, 1, Hid.mk rfl, by omega, rfl, Hid.mk ⟨Below.refl _ _, fun i h => by omega⟩⟩
 case round =>
  rename World => wo
  obtain ⟨a, a1, HA, ha, rfl, HI⟩ := hrel
  obtain ⟨q0, q1, q2⟩ := K0.out.2.later HI.out.1
  have hwo := HI.out.1.size
  have hsub : (a1 : Int) - 1 = (a : Int) := by have := HA.out; omega
  by_cases har : a1 < r
  ·have hai : (a1 : Int) < (r : Int) := by omega
   by_cases hac : a1 < c
   ·have hci : (a1 : Int) < (c : Int) := by omega
    go_wp2_with fail
    refine (at_in _ r c a a zs L _ ((HM.out.below K0.out.1).below HI.out.1) (by have := HA.out; omega) (by have := HA.out; omega)).mono ?_
    rintro e9 w2 ⟨x, rfl, hx, hb2⟩
    obtain ⟨nb2, so2, n2, cp2, rfl⟩ := hx.shape
    have hb22 := (Below.refl w2.heap.size w2).alloc (Nat.le_refl _) (.cells #[.bool nb2, .slice so2 n2 cp2] 79)
    have hb02 := (HI.out.1.trans (hb2.mono hwo)).trans (hb22.mono (by have := hb2.size; omega))
    have y0 : (w2.alloc (.cells #[.bool nb2, .slice so2 n2 cp2] 79)).cell? ⟨w2.heap.size, 0, none⟩ = some (.bool nb2) := new_cell _ _ _ _ _ rfl rfl
    have y1 : (w2.alloc (.cells #[.bool nb2, .slice so2 n2 cp2] 79)).cell? ⟨w2.heap.size, 1, none⟩ = some (.slice so2 n2 cp2) := new_cell _ _ _ _ _ rfl rfl
    have K2 := Hid.mk (And.intro (hx.below hb22) (And.intro hb02 (And.intro y0 y1)))
    clear hx hb2 hb22 hb02 q0 q1 q2
    obtain ⟨q0, q1, q2⟩ := K0.out.2.later K2.out.2.1
    obtain ⟨D, hD⟩ : ∃ D, D = decide (zs.getD (a * c + a) 0 ∣ zs.getD (a1 * c + a1) 0) := ⟨_, rfl⟩
    have HD := Hid.mk hD
    have HC := Hid.mk (show ∀ w', Below (w2.alloc (.cells #[.bool nb2, .slice so2 n2 cp2] 79)).heap.size (w2.alloc (.cells #[.bool nb2, .slice so2 n2 cp2] 79)) w' → w'.cell? ⟨w.heap.size, 0, none⟩ = some (.int .i64 r) ∧ w'.cell? ⟨w.heap.size, 1, none⟩ = some (.int .i64 c) ∧ w'.cell? ⟨w.heap.size, 2, none⟩ = some (.slice ao N cap) ∧ w'.cell? ⟨w2.heap.size, 0, none⟩ = some (.bool nb2) ∧ w'.cell? ⟨w2.heap.size, 1, none⟩ = some (.slice so2 n2 cp2) from fun w' hb => ⟨cell_later hb q0, cell_later hb q1, cell_later hb q2, cell_later hb K2.out.2.2.1, cell_later hb K2.out.2.2.2⟩)
    have hw2 := K2.out.2.1.size
    clear hD q0 q1 q2 y0 y1
    go_wp2_with fail
    obtain ⟨X, hX⟩ : ∃ X, X = w2.alloc (.cells #[.bool nb2, .slice so2 n2 cp2] 79) := ⟨_, rfl⟩
    rw [← hX] at K2 HC hw2 ⊢
    clear hX
    go_region_held3 (fun w' => w'.cell? ⟨w.heap.size, 0, none⟩ = some (.int .i64 r) ∧ w'.cell? ⟨w.heap.size, 1, none⟩ = some (.int .i64 c) ∧ w'.cell? ⟨w.heap.size, 2, none⟩ = some (.slice ao N cap) ∧ w'.cell? ⟨w2.heap.size, 0, none⟩ = some (.bool nb2) ∧ w'.cell? ⟨w2.heap.size, 1, none⟩ = some (.slice so2 n2 cp2))
     (exact HC.out _ (by first | exact hbV | exact hbW | exact (Below.refl _ _).drew | exact Below.refl _ _))
     (first
       | (go_at_call 64; refine (at_in _ r c a1 a1 zs L _ (((HM.out.below K0.out.1).below K2.out.2.1).below ((Below.refl _ _).drew)) har hac).mono ?_; rintro e9 w3 ⟨x3, rfl, hx3, hb3⟩; obtain ⟨nb3, so3, n3, cp3, rfl⟩ := hx3.shape; have hbW : Below X.heap.size X w3 := ((Below.refl _ _).drew).trans hb3; clear hb3)
       | (go_at_call 144; refine (isMultiple_any _ _ _ _ L L _ hx3 (K2.out.1.below hbW) hL hL).mono ?_; rintro e9 w4 ⟨rfl, hb4⟩; rw [← HD.out]; have hbV : Below X.heap.size X w4 := hbW.trans (hb4.mono hbW.size); clear hb4 hbW hx3))
    all_goals
     have K4 := Hid.mk (And.intro (K2.out.2.1.trans (hbV.mono hw2)) HD.out)
     clear hbV
     cases D
     ·go_wp2_with fail
      go_ret
      refine ⟨OddOut.mk a rfl (.inr ⟨a, rfl, by have := HA.out; omega, by have := HA.out; omega, fun h => ?_, fun i hi => HI.out.2 i hi (by have := HA.out; omega) (by have := HA.out; omega)⟩), K0.out.1.trans (K4.out.1.mono (by omega))⟩
      rw [← HA.out] at h
      exact of_decide_eq_false K4.out.2.symm h
     ·go_wp2_with fail
      go_roundw
      case measure => simp [intOf]; omega
      case rel =>
       refine ⟨a1, a1 + 1, Hid.mk rfl, by omega, by go_num, Hid.mk ⟨K4.out.1, fun i hi h1 h2 => ?_⟩⟩
       by_cases hia : i = a
       ·subst hia
        rw [← HA.out]
        exact of_decide_eq_true K4.out.2.symm
       ·exact HI.out.2 i (by have := HA.out; omega) h1 h2
   ·have hci : ¬ (a1 : Int) < (c : Int) := by omega
    go_wp2_with fail
    go_ret
    exact ⟨OddOut.mk (-1) rfl (.inl ⟨rfl, fun i h1 h2 => HI.out.2 i (by have := HA.out; omega) h1 h2⟩), K0.out.1.trans (HI.out.1.mono (by omega))⟩
  ·have hai : ¬ (a1 : Int) < (r : Int) := by omega
   go_wp2_with fail
   go_ret
   exact ⟨OddOut.mk (-1) rfl (.inl ⟨rfl, fun i h1 h2 => HI.out.2 i (by have := HA.out; omega) h1 h2⟩), K0.out.1.trans (HI.out.1.mono (by omega))⟩
open Go.RowKit
def DgM (w : World) (p r c : Nat) (sD sU sS sV sT : Value) : Prop := w.heap[p]? = some (.cells #[.int .i64 r, .int .i64 c, sD, .int .i64 r, .int .i64 r, sU, .int .i64 r, .int .i64 r, sS, .int .i64 c, .int .i64 c, sV, .int .i64 c, .int .i64 c, sT] 83 (0, 0))
theorem DgM.lt {w : World} {p r c : Nat} {sD sU sS sV sT : Value} (h : DgM w p r c sD sU sS sV sT) : p < w.heap.size := (Array.getElem?_eq_some_iff.1 h).1
theorem DgM.ty {w : World} {p r c : Nat} {sD sU sS sV sT : Value} (h : DgM w p r c sD sU sS sV sT) : Ty w p 83 := ⟨_, _, h⟩
theorem DgM.below {w w' : World} {p r c n : Nat} {sD sU sS sV sT : Value} (h : DgM w p r c sD sU sS sV sT) (hb : Below n w w') (hn : p < n) : DgM w' p r c sD sU sS sV sT := (hb.block p hn).trans h
theorem DgM.cells {w : World} {p r c : Nat} {sD sU sS sV sT : Value} (h : DgM w p r c sD sU sS sV sT) :
 w.cell? ⟨p, 0, none⟩ = some (.int .i64 r) ∧ w.cell? ⟨p, 1, none⟩ = some (.int .i64 c) ∧ w.cell? ⟨p, 2, none⟩ = some (sD) ∧ w.cell? ⟨p, 3, none⟩ = some (.int .i64 r) ∧ w.cell? ⟨p, 4, none⟩ = some (.int .i64 r) ∧ w.cell? ⟨p, 5, none⟩ = some (sU) ∧ w.cell? ⟨p, 6, none⟩ = some (.int .i64 r) ∧ w.cell? ⟨p, 7, none⟩ = some (.int .i64 r) ∧ w.cell? ⟨p, 8, none⟩ = some (sS) ∧ w.cell? ⟨p, 9, none⟩ = some (.int .i64 c) ∧ w.cell? ⟨p, 10, none⟩ = some (.int .i64 c) ∧ w.cell? ⟨p, 11, none⟩ = some (sV) ∧ w.cell? ⟨p, 12, none⟩ = some (.int .i64 c) ∧ w.cell? ⟨p, 13, none⟩ = some (.int .i64 c) ∧ w.cell? ⟨p, 14, none⟩ = some (sT) ∧ ∀ o, w.frozen? ⟨p, o, none⟩ = false := by
 unfold DgM at h
 refine ⟨?_, ?_, ?_, ?_, ?_, ?_, ?_, ?_, ?_, ?_, ?_, ?_, ?_, ?_, ?_, fun o => ?_⟩ <;> simp [World.cell?, World.frozen?, h]
abbrev put3 (w : World) (p o : Nat) (x y z : Value) : World := ((w.setCell ⟨p, o, none⟩ x).setCell ⟨p, o + 1, none⟩ y).setCell ⟨p, o + 2, none⟩ z
theorem put3_block {w : World} {p o : Nat} {xs : Array Value} {t : TypeId} (h : w.heap[p]? = some (.cells xs t (0, 0))) (x y z : Value) : (put3 w p o x y z).heap[p]? = some (.cells (((xs.setIfInBounds o x).setIfInBounds (o + 1) y).setIfInBounds (o + 2) z) t (0, 0)) := by
 rw [heap_setCell_same _ _ _ _ _ _ (heap_setCell_same _ _ _ _ _ _ (heap_setCell_same _ _ _ _ _ _ h))]
theorem put3_fr {w : World} {p : Nat} {t : TypeId} (ht : Ty w p t) (h1 : t ≠ 144) (h2 : t ≠ 79) (o : Nat) (x y z : Value) : Fr p w (put3 w p o x y z) :=
 ⟨grown_trans (grown_trans (grown_cell _ _ _ _) (grown_cell _ _ _ _)) (grown_cell _ _ _ _), KT.setCell (KT.setCell (KT.setCell (KT.refl _) ht h1 h2 x) (ht.setCell ⟨p, o, none⟩ x) h1 h2 y) ((ht.setCell ⟨p, o, none⟩ x).setCell ⟨p, o + 1, none⟩ y) h1 h2 z⟩
theorem DgM.putD {w : World} {p r c : Nat} {sD sU sS sV sT : Value} (h : DgM w p r c sD sU sS sV sT) (s : Value) : DgM (put3 w p 0 (.int .i64 r) (.int .i64 c) s) p r c s sU sS sV sT := (put3_block h _ _ _).trans rfl
theorem DgM.putU {w : World} {p r c : Nat} {sD sU sS sV sT : Value} (h : DgM w p r c sD sU sS sV sT) (s : Value) : DgM (put3 w p 3 (.int .i64 r) (.int .i64 r) s) p r c sD s sS sV sT := (put3_block h _ _ _).trans rfl
theorem DgM.putS {w : World} {p r c : Nat} {sD sU sS sV sT : Value} (h : DgM w p r c sD sU sS sV sT) (s : Value) : DgM (put3 w p 6 (.int .i64 r) (.int .i64 r) s) p r c sD sU s sV sT := (put3_block h _ _ _).trans rfl
theorem DgM.putV {w : World} {p r c : Nat} {sD sU sS sV sT : Value} (h : DgM w p r c sD sU sS sV sT) (s : Value) : DgM (put3 w p 9 (.int .i64 c) (.int .i64 c) s) p r c sD sU sS s sT := (put3_block h _ _ _).trans rfl
theorem DgM.putT {w : World} {p r c : Nat} {sD sU sS sV sT : Value} (h : DgM w p r c sD sU sS sV sT) (s : Value) : DgM (put3 w p 12 (.int .i64 c) (.int .i64 c) s) p r c sD sU sS sV s := (put3_block h _ _ _).trans rfl
def RfM (w : World) (q r c k : Nat) (sH sA sB : Value) : Prop := w.heap[q]? = some (.cells #[.int .i64 r, .int .i64 c, sH, .int .i64 r, .int .i64 r, sA, .int .i64 r, .int .i64 r, sB, .int .i64 k] 74 (0, 0))
theorem RfM.lt {w : World} {q r c k : Nat} {sH sA sB : Value} (h : RfM w q r c k sH sA sB) : q < w.heap.size := (Array.getElem?_eq_some_iff.1 h).1
theorem RfM.below {w w' : World} {q r c k n : Nat} {sH sA sB : Value} (h : RfM w q r c k sH sA sB) (hb : Below n w w') (hn : q < n) : RfM w' q r c k sH sA sB := (hb.block q hn).trans h
theorem RfM.fr {w w' : World} {p q r c k : Nat} {sH sA sB : Value} (h : RfM w q r c k sH sA sB) (hf : Fr p w w') (hn : q ≠ p) : RfM w' q r c k sH sA sB := (hf.1.block q h.lt (by simpa using hn)).trans h
theorem RfM.cells {w : World} {q r c k : Nat} {sH sA sB : Value} (h : RfM w q r c k sH sA sB) : w.cell? ⟨q, 0, none⟩ = some (.int .i64 r) ∧ w.cell? ⟨q, 1, none⟩ = some (.int .i64 c) ∧ w.cell? ⟨q, 2, none⟩ = some sH ∧ w.cell? ⟨q, 3, none⟩ = some (.int .i64 r) ∧ w.cell? ⟨q, 4, none⟩ = some (.int .i64 r) ∧ w.cell? ⟨q, 5, none⟩ = some sA ∧ w.cell? ⟨q, 6, none⟩ = some (.int .i64 r) ∧ w.cell? ⟨q, 7, none⟩ = some (.int .i64 r) ∧ w.cell? ⟨q, 8, none⟩ = some sB := by
 unfold RfM at h
 refine ⟨?_, ?_, ?_, ?_, ?_, ?_, ?_, ?_, ?_⟩ <;> simp [World.cell?, h]
theorem IsM.fr {w w' : World} {v : Value} {r c L p : Nat} {zs : List Int} (h : IsM w v r c zs L) (hf : Fr p w w') : IsM w' v r c zs L := h.keepT hf.2
theorem IsM.lng {w : World} {v : Value} {r c L : Nat} {zs : List Int} (h : IsM w v r c zs L) : zs.length = r * c := by
 obtain ⟨_, _, sl, _, h3⟩ := h
 exact h3.1
theorem DgM.put {w : World} {p r c : Nat} {sD sU sS sV sT : Value} (h : DgM w p r c sD sU sS sV sT) (o : Nat) (x y z : Value) : Fr p w (put3 w p o x y z) := put3_fr h.ty (by decide) (by decide) o x y z
theorem dot_bits {X Y : Nat → Nat → Int} {i j u x : Nat} : ∀ n, n ≤ 8 → (∀ k, k < n → (X i k).natAbs < 2 ^ u) → (∀ k, k < n → (Y k j).natAbs < 2 ^ x) → (dot X Y i j n).natAbs < 2 ^ (x + u + 4) := by
 intro n hn h1 h2
 have key : ∀ m, m ≤ n → (dot X Y i j m).natAbs ≤ m * 2 ^ (x + u) := by
  intro m
  induction m with
  | zero => intro _; simp [dot]
  | succ m ih =>
    intro hm
    rw [dot, Nat.succ_mul]
    have e1 := ih (by omega)
    have e2 : (X i m * Y m j).natAbs ≤ 2 ^ (x + u) := by
     rw [Int.natAbs_mul, Nat.pow_add, Nat.mul_comm]
     exact Nat.mul_le_mul (Nat.le_of_lt (h2 m (by omega))) (Nat.le_of_lt (h1 m (by omega)))
    omega
 have h3 := key n (Nat.le_refl _)
 have h4 : n * 2 ^ (x + u) ≤ 8 * 2 ^ (x + u) := Nat.mul_le_mul_right _ hn
 have h5 : 2 ^ (x + u + 4) = 16 * 2 ^ (x + u) := by rw [Nat.pow_add]; omega
 have h6 : 0 < 2 ^ (x + u) := Nat.pow_pos (by decide)
 omega
def BitsTo (n : Nat) (xs ys : List Int) (u : Nat) : Prop := ∀ x, (∀ i j, i < n → j < n → (ent n xs i j).natAbs < 2 ^ x) → ∀ i j, i < n → j < n → (ent n ys i j).natAbs < 2 ^ (x + u + 4)
theorem pow_up {z u v : Nat} (h : z < 2 ^ u) (huv : u ≤ v) : z < 2 ^ v := Nat.lt_of_lt_of_le h (Nat.pow_le_pow_right (by decide) huv)
def RowsTo (r c : Nat) (ds us ss ds' us' ss' : List Int) : Prop := ∃ k a b, EcTo r c (ent c ds) c k (e3 r c ds' a b) ∧ a.length = r * r ∧ b.length = r * r ∧ ds'.length = r * c ∧ us'.length = r * r ∧ ss'.length = r * r ∧ ProdOf r r r a us us' ∧ ProdOf r r r ss b ss' ∧
 (∃ pc, EchSt r c k pc (ent c ds')) ∧ EInv (ent c ds) (ent c ds') (ent r a) (ent r b) r c
set_option maxRecDepth 100000 in
set_option maxHeartbeats 4000000 in
theorem formRows_any (p r c : Nat) (oD oU oS : Option Addr) (nD nU nS cD cU cS : Nat) (sV sT : Value) (ds us ss : List Int) (β L K : Nat) (w : World) (hp : DgM w p r c (.slice oD nD cD) (.slice oU nU cU) (.slice oS nS cS) sV sT)
 (hD : IsM w (.agg #[.int .i64 r, .int .i64 c, .slice oD nD cD]) r c ds L) (hU : IsM w (.agg #[.int .i64 r, .int .i64 r, .slice oU nU cU]) r r us K) (hS : IsM w (.agg #[.int .i64 r, .int .i64 r, .slice oS nS cS]) r r ss K)
 (hr : r ≤ 8) (hc : c ≤ 8) (hβ : ∀ i j, i < r → j < c → (ent c ds i j).natAbs < 2 ^ β) (hL : L ≤ 60000000) (h1 : hB r β c ≤ 32 * L) (h2 : uB r β c ≤ 32 * L) (hLK : L ≤ K) (hK : K ≤ 200000000) :
 Calls Tryz.prog 71 #[.pointer (some ⟨p, 0, none⟩)] w fun e w' => e = .returned (.tuple #[]) ∧ ∃ (oD' oU' oS' : Option Addr) (nD' nU' nS' cD' cU' cS' : Nat) (ds' us' ss' : List Int), DgM w' p r c (.slice oD' nD' cD') (.slice oU' nU' cU') (.slice oS' nS' cS') sV sT ∧
  IsM w' (.agg #[.int .i64 r, .int .i64 c, .slice oD' nD' cD']) r c ds' L ∧ IsM w' (.agg #[.int .i64 r, .int .i64 r, .slice oU' nU' cU']) r r us' (K + K + 1 + r) ∧ IsM w' (.agg #[.int .i64 r, .int .i64 r, .slice oS' nS' cS']) r r ss' (K + K + 1 + r) ∧ RowsTo r c ds us ss ds' us' ss' ∧ Fr p w w' ∧ (∀ i j, i < r → j < c → (ent c ds' i j).natAbs < 2 ^ hB r β c) ∧ BitsTo r us us' (uB r β c) ∧ BitsTo r ss ss' (uB r β c) := by
 have H := Hid.mk (And.intro hp (And.intro hD (And.intro hU hS)))
 obtain ⟨x0, x1, x2, -⟩ := hp.cells
 have hpl := hp.lt
 clear hp hD hU hS
 go_enter Tryz.func71, Tryz.ntmps71
 go_wp2_with fail
 refine (gech_any _ r c ds β L _ H.out.2.1 hr hc hβ hL h1 h2).mono ?_
 rintro e w1 ⟨v, k, pc, hs, as1, bs, rfl, hIF, hst, hE, hEB, hb1, hrun⟩
 obtain ⟨sH, sA, sB, rfl, mH, mA, mB⟩ := hIF
 obtain ⟨oH, cH, rfl⟩ := mH.slice
 obtain ⟨oA, cA, rfl⟩ := mA.slice
 obtain ⟨oB, cB, rfl⟩ := mB.slice
 obtain ⟨NH, hNH⟩ : ∃ NH, NH = r * c := ⟨_, rfl⟩
 obtain ⟨NA, hNA⟩ : ∃ NA, NA = r * r := ⟨_, rfl⟩
 rw [← hNH] at mH ⊢
 rw [← hNA] at mA mB ⊢
 have HN := Hid.mk (And.intro hNH hNA)
 clear hNH hNA
 have hb11 := (Below.refl w1.heap.size w1).alloc (Nat.le_refl _) (.cells #[.int .i64 r, .int .i64 c, .slice oH NH cH, .int .i64 r, .int .i64 r, .slice oA NA cA, .int .i64 r, .int .i64 r, .slice oB NA cB, .int .i64 k] 74)
 have hb12 := hb1.trans (hb11.mono hb1.size)
 have hw1 := hb1.size
 have hp1 := H.out.1.below hb12 hpl
 obtain ⟨z0, z1, z2, -, -, -, -, -, -, -, -, -, -, -, -, zf⟩ := hp1.cells
 have hne : p ≠ w1.heap.size := by omega
 have hR1 : RfM (w1.alloc (.cells #[.int .i64 r, .int .i64 c, .slice oH NH cH, .int .i64 r, .int .i64 r, .slice oA NA cA, .int .i64 r, .int .i64 r, .slice oB NA cB, .int .i64 k] 74)) w1.heap.size r c k (.slice oH NH cH) (.slice oA NA cA) (.slice oB NA cB) := heap_alloc_new w1 _
 have hfA := hp1.put 0 (.int .i64 r) (.int .i64 c) (.slice oH NH cH)
 have hF0 : Fr p w (w1.alloc (.cells #[.int .i64 r, .int .i64 c, .slice oH NH cH, .int .i64 r, .int .i64 r, .slice oA NA cA, .int .i64 r, .int .i64 r, .slice oB NA cB, .int .i64 k] 74)) := Fr.of_below hb12
 have K1 := Hid.mk (And.intro ((mH.below hb11).fr hfA) (And.intro ((mA.below hb11).fr hfA) (And.intro ((mB.below hb11).fr hfA) (And.intro (hp1.putD (.slice oH NH cH)) (And.intro (hR1.fr hfA (Ne.symm hne)) (hF0.trans hfA))))))
 have KM := Hid.mk (And.intro hst (And.intro hE (And.intro hrun hEB)))
 clear mH mA mB hst hE hrun hEB hb1 hb11 hb12 hp1 x0 x1 x2 hR1 hfA hF0
 go_wp2_with fail
 obtain ⟨X, hX⟩ : ∃ X, X = put3 (w1.alloc (.cells #[.int .i64 r, .int .i64 c, .slice oH NH cH, .int .i64 r, .int .i64 r, .slice oA NA cA, .int .i64 r, .int .i64 r, .slice oB NA cB, .int .i64 k] 74)) p 0 (.int .i64 r) (.int .i64 c) (.slice oH NH cH) := ⟨_, rfl⟩
 rw [← hX] at K1
 simp only [put3, Nat.zero_add] at hX
 rw [← hX]
 clear hX z0 z1 z2 zf
 have hplX := K1.out.2.2.2.1.lt
 have HC := Hid.mk (show ∀ w', Below X.heap.size X w' → w'.cell? ⟨w1.heap.size, 3, none⟩ = some (.int .i64 r) ∧ w'.cell? ⟨w1.heap.size, 4, none⟩ = some (.int .i64 r) ∧ w'.cell? ⟨w1.heap.size, 5, none⟩ = some (.slice oA NA cA) ∧ w'.cell? ⟨p, 3, none⟩ = some (.int .i64 r) ∧ w'.cell? ⟨p, 4, none⟩ = some (.int .i64 r) ∧ w'.cell? ⟨p, 5, none⟩ = some (.slice oU nU cU) from fun w' hb => by
  obtain ⟨-, -, -, z3, z4, z5, -⟩ := (K1.out.2.2.2.1.below hb hplX).cells
  obtain ⟨-, -, -, y3, y4, y5, -⟩ := (K1.out.2.2.2.2.1.below hb K1.out.2.2.2.2.1.lt).cells
  exact ⟨y3, y4, y5, z3, z4, z5⟩)
 obtain ⟨y3, y4, y5, z3, z4, z5⟩ := HC.out X (Below.refl _ _)
 go_region_with (go_at_call 86; refine (gtimes_any _ _ r r r as1 us K _ ((K1.out.2.1.below (Below.refl _ _).drew).mono hLK) ((H.out.2.2.1.fr K1.out.2.2.2.2.2).below (Below.refl _ _).drew) hK).mono ?_; rintro e w2 ⟨v2, rfl, ⟨us2, hM2, hP2⟩, hb2⟩; obtain ⟨-, -, s2, rfl, hg2⟩ := id hM2; obtain ⟨o2, c2, rfl, -⟩ := hg2.shape; have hbX2 : Below X.heap.size X w2 := ((Below.refl _ _).drew).trans hb2; have hz2 := (K1.out.2.2.2.1.below hbX2 hplX).cells; clear hb2 hg2)
 all_goals
  have hp2 := K1.out.2.2.2.1.below hbX2 hplX
  have hf2 := hp2.put 3 (.int .i64 r) (.int .i64 r) (.slice o2 (r * r) c2)
  have hq2 := (K1.out.2.2.2.2.1.below hbX2 K1.out.2.2.2.2.1.lt).fr hf2 (Ne.symm hne)
  have hF2 : Fr p X (put3 w2 p 3 (.int .i64 r) (.int .i64 r) (.slice o2 (r * r) c2)) := (Fr.of_below hbX2).trans hf2
  have K2 := Hid.mk (And.intro (hM2.fr hf2) (And.intro hP2 (And.intro (show DgM (put3 w2 p 3 (.int .i64 r) (.int .i64 r) (.slice o2 (r * r) c2)) p r c (.slice oH NH cH) (.slice o2 (r * r) c2) (.slice oS nS cS) sV sT from hp2.putU _) (And.intro hq2 hF2))))
  clear hM2 hP2 hbX2 hp2 hf2 hq2 hF2 hz2 y3 y4 y5 z3 z4 z5
  go_wp2_with fail
  obtain ⟨Y, hY⟩ : ∃ Y, Y = put3 w2 p 3 (.int .i64 r) (.int .i64 r) (.slice o2 (r * r) c2) := ⟨_, rfl⟩
  rw [← hY] at K2
  simp only [put3, Nat.reduceAdd] at hY
  rw [← hY]
  clear hY
  have hplY := K2.out.2.2.1.lt
  obtain ⟨-, -, -, -, -, -, z6, z7, z8, -⟩ := K2.out.2.2.1.cells
  obtain ⟨-, -, -, -, -, -, y6, y7, y8⟩ := K2.out.2.2.2.1.cells
  go_region_with (go_at_call 86; refine (gtimes_any _ _ r r r ss bs K _ (((H.out.2.2.2.fr K1.out.2.2.2.2.2).fr K2.out.2.2.2.2).below (Below.refl _ _).drew) (((K1.out.2.2.1.fr K2.out.2.2.2.2).below (Below.refl _ _).drew).mono hLK) hK).mono ?_; rintro e w3 ⟨v3, rfl, ⟨ss2, hM3, hP3⟩, hb3⟩; obtain ⟨-, -, s3, rfl, hg3⟩ := id hM3; obtain ⟨o3, c3, rfl, -⟩ := hg3.shape; have hbY3 : Below Y.heap.size Y w3 := ((Below.refl _ _).drew).trans hb3; have hz3 := (K2.out.2.2.1.below hbY3 hplY).cells; clear hb3 hg3)
  all_goals
   have hp3 := K2.out.2.2.1.below hbY3 hplY
   have hf3 := hp3.put 6 (.int .i64 r) (.int .i64 r) (.slice o3 (r * r) c3)
   have hF3 : Fr p Y (put3 w3 p 6 (.int .i64 r) (.int .i64 r) (.slice o3 (r * r) c3)) := (Fr.of_below hbY3).trans hf3
   have K3 := Hid.mk (And.intro (hM3.fr hf3) (And.intro hP3 (And.intro (show DgM (put3 w3 p 6 (.int .i64 r) (.int .i64 r) (.slice o3 (r * r) c3)) p r c (.slice oH NH cH) (.slice o2 (r * r) c2) (.slice o3 (r * r) c3) sV sT from hp3.putS _) hF3)))
   clear hM3 hP3 hbY3 hp3 hf3 hF3 hz3 y6 y7 y8 z6 z7 z8
   go_wp2_with fail
   go_end0
   refine ⟨rfl, _, _, _, _, _, _, _, _, _, hs, us2, ss2, K3.out.2.2.1, ?_, (K2.out.1).fr K3.out.2.2.2, K3.out.1, ⟨k, as1, bs, KM.out.2.2.1, ?_, ?_, ?_, ?_, ?_, K2.out.2.1, K3.out.2.1, ⟨pc, KM.out.1⟩, KM.out.2.1⟩, (K1.out.2.2.2.2.2.trans K2.out.2.2.2.2).trans K3.out.2.2.2, fun i j hi hj => pow_up (KM.out.2.2.2.h i j hi hj) (hB_mono r β KM.out.1.te), fun x hx i j hi hj => ?_, fun x hx i j hi hj => ?_⟩
   ·exact (K1.out.1.fr K2.out.2.2.2.2).fr K3.out.2.2.2
   ·exact K1.out.2.1.lng
   ·exact K1.out.2.2.1.lng
   ·exact K1.out.1.lng
   ·exact K2.out.1.lng
   ·exact K3.out.1.lng
   ·rw [show ent r us2 i j = dot (ent r as1) (ent r us) i j r from K2.out.2.1 i j hi hj]
    exact dot_bits r hr (fun l hl => pow_up (KM.out.2.2.2.u i l hi hl) (uB_mono r β KM.out.1.te)) (fun l hl => hx l j hl hj)
   ·rw [show ent r ss2 i j = dot (ent r ss) (ent r bs) i j r from K3.out.2.1 i j hi hj, show x + uB r β c + 4 = uB r β c + x + 4 by omega]
    exact dot_bits r hr (fun l hl => hx i l hi hl) (fun l hl => pow_up (KM.out.2.2.2.w l j hl hj) (uB_mono r β KM.out.1.te))
end Go.Proofs.YtfjbijpagaipnabGreatDoor
