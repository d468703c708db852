import Derived.Test.YtmijbimanaalbaaGreatDoorC02
import Derived.Laws.BitsAllLaws
/- whole.splitChunk. -/
namespace Go.Proofs.YtmijbimanaalbaaGreatDoor
open Go.RowKit

theorem or_chunk (c x : Nat) (hc : c < 1000000000) (hx : x < 4294967296) : bits BinOp.or IntKind.u64 ((c : Int) * 4294967296) (x : Int) = (c : Int) * 4294967296 + (x : Int) := by
  have h := u64_or_nat (c * 4294967296) x (by omega) (by omega)
  rw [show ((c * 4294967296 : Nat) : Int) = (c : Int) * 4294967296 from by omega] at h
  rw [h]
  have h2 := Nat.shiftLeft_add_eq_or_of_lt (i := 32) (b := x) (by omega) c
  rw [Nat.shiftLeft_eq] at h2
  rw [show c * 4294967296 = c * 2 ^ 32 from rfl, ← h2]
  omega
theorem split_arith (B D V c x : Nat) : x + B * (D * V + c) = D * ((c * B + x) / D + B * V) + (c * B + x) % D := by
  have h1 := Nat.div_add_mod (c * B + x) D
  rw [Nat.mul_add, Nat.mul_add, Nat.mul_left_comm B D V, Nat.mul_comm B c]
  omega
theorem split_gen {xs zs : List Nat} {k c D : Nat} (hk : 0 < k) (hx : k ≤ xs.length) (hz : zs.length = xs.length) (h : val (xs.drop k) = D * val (zs.drop k) + c) :
    val (xs.drop (k - 1)) = D * val ((zs.set (k - 1) ((c * 4294967296 + xs.getD (k - 1) 0) / D)).drop (k - 1)) + (c * 4294967296 + xs.getD (k - 1) 0) % D := by
  generalize hq : (c * 4294967296 + xs.getD (k - 1) 0) / D = q
  have h1 : (zs.set (k - 1) q).drop (k - 1) = q :: zs.drop k := by
    rw [drop_getD (zs.set (k - 1) q) (k - 1) (by simp; omega), show k - 1 + 1 = k from by omega, List.drop_set_of_lt (by omega)]
    simp [List.getD, show k - 1 < zs.length from by omega]
  have h2 : xs.drop (k - 1) = xs.getD (k - 1) 0 :: xs.drop k := by
    rw [drop_getD xs (k - 1) (by omega), show k - 1 + 1 = k from by omega]
  rw [h1, h2, val_cons, val_cons, h, ← hq]
  exact split_arith _ _ _ _ _
set_option maxRecDepth 100000 in
set_option maxHeartbeats 1000000 in
theorem splitChunk_any (v : Value) (xs : List Nat) (w : World) (hv : Own w v xs) (lx : Lo xs) (bx : xs.length ≤ 30000) :
    Calls Tryz.prog 97 #[v] w fun e w' => ∃ r, e = .returned (.tuple #[r, .int .u64 ((val xs % 1000000000 : Nat) : Int)]) ∧ NatOut w w' r (val xs / 1000000000) xs.length := by
  obtain ⟨ao, cap, hveq, hc, hm, hcell, -, -⟩ := hv.open_
  have HC := Hid.mk hcell
  clear hv hcell
  subst hveq
  go_enter Tryz.func97, Tryz.ntmps97
  go_wp2_with (at_make; refine make_limbs _ rfl (.tmp 8) (.tmp 8) rfl _ _ xs.length rfl rfl rfl rfl (by omega) ?_)
  intro w1 hown hbel
  go_wp2_with fail
  go_loopw [5, 6] (fun c i wr => ∃ (k cc : Nat) (zs : List Nat), k ≤ xs.length ∧ i = .int .i64 ((k : Int) - 1) ∧ cc < 1000000000 ∧ c = .int .u64 cc ∧ zs.length = xs.length ∧ Lo zs ∧ Own wr (.slice (some ⟨w.heap.size, 0, none⟩) xs.length xs.length) zs ∧ Below w.heap.size w wr ∧
      Hid (val (xs.drop k) = 1000000000 * val (zs.drop k) + cc)) (fun _ i _ => (intOf i + 1).toNat)
  case atStart => exact ⟨xs.length, 0, _, Nat.le_refl _, rfl, by omega, rfl, List.length_replicate, Lo_zeros _, hown, hbel, Hid.mk (by simp [val])⟩
  case round =>
    clear hown hbel
    obtain ⟨k, cc, zs, hk, rfl, hcc, rfl, hzl, hlo, hown, hbel, HI⟩ := hrel
    by_cases h0 : k = 0
    · subst h0
      go_wp2_with fail
      refine (trim_any _ zs _ hown hlo).mono ?_
      rintro e w' ⟨⟨r, rfl, hr⟩, rfl⟩
      go_wp2_with fail
      go_ret2
      obtain ⟨rs, h1, h2, h3, h4⟩ := hr
      have hi := HI.out
      simp only [List.drop_zero] at hi
      have h5 : cc = val xs % 1000000000 := by omega
      have h6 : val zs = val xs / 1000000000 := by omega
      have h7 : val rs = val xs / 1000000000 := by omega
      have h8 : rs.length ≤ xs.length := by omega
      subst h5
      exact ⟨_, rfl, ⟨rs, h1, h7, h8, h4⟩, hbel⟩
    · have hxk := Lo_get lx (k - 1)
      have hz1 := hown.cell hzl (k - 1) (by omega)
      have hz2 := hown.frozen hzl (k - 1)
      obtain ⟨b, rfl, hb0⟩ := HC.out (k - 1) (by omega)
      have hb1 := cell_later hbel hb0
      obtain ⟨x, hx⟩ : ∃ x, x = xs.getD (k - 1) 0 := ⟨_, rfl⟩
      obtain ⟨z, hz⟩ : ∃ z, z = zs.getD (k - 1) 0 := ⟨_, rfl⟩
      rw [← hx] at hxk hb1
      rw [← hz] at hz1
      have HX := Hid.mk hx
      have HZL := Hid.mk hzl
      clear hx hz hb0 hzl
      have hor := or_chunk cc x hcc hxk
      go_wp2_with fail
      go_roundw
      case rel =>
        refine ⟨k - 1, (cc * 4294967296 + x) % 1000000000, zs.set (k - 1) ((cc * 4294967296 + x) / 1000000000), by omega, by go_num, by omega, by go_num, by simp [HZL.out], Lo_set hlo _ _ (by omega), hown.stored_int HZL.out (k - 1) _ (by omega), hbel.setCell (Nat.le_refl _) _, Hid.mk ?_⟩
        rw [HX.out]
        exact split_gen (by omega) hk HZL.out HI.out
      case measure => simp [intOf]; omega
end Go.Proofs.YtmijbimanaalbaaGreatDoor
