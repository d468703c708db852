/- whole.mulAmounts. -/
import Derived.Test.YtjhcbenldfplcaaDoorAddA
namespace Go.Proofs.YtjhcbenldfplcaaDoor
open Go.RowKit

theorem prod_bound {x y : Nat} (hx : x < 4294967296) (hy : y < 4294967296) : (0 : Int) ≤ (x : Int) * (y : Int) ∧ (x : Int) * (y : Int) ≤ 18446744065119617025 := by
  have h : x * y ≤ 4294967295 * 4294967295 := Nat.mul_le_mul (by omega) (by omega)
  rw [← Int.natCast_mul]
  omega
theorem prod_cast (x y : Nat) : (x : Int) * (y : Int) = ((x * y : Nat) : Int) := (Int.natCast_mul x y).symm

set_option maxRecDepth 100000 in
set_option maxHeartbeats 2000000 in
theorem mulAmounts_any (v u : Value) (xs ys : List Nat) (w : World) (hv : Own w v xs) (hu : Own w u ys) (lx : Lo xs) (ly : Lo ys) (bx : xs.length ≤ 15000) (by_ : ys.length ≤ 15000) :
    Calls Tryd.prog 47 #[v, u] w fun e w' => ∃ r, e = .returned r ∧ NatOut w w' r (val xs * val ys) (xs.length + ys.length) := by
  obtain ⟨ao, cap, hveq, hc, hm, hcell, -, -⟩ := hv.open_
  obtain ⟨bo, dap, hueq, hd, hn, hdell, -, -⟩ := hu.open_
  have HC := Hid.mk hcell
  have HD := Hid.mk hdell
  clear hv hu hcell hdell
  subst hveq
  subst hueq
  go_enter Tryd.func47, Tryd.ntmps47
  go_wp2_with (at_make; refine make_limbs _ rfl (.tmp 13) (.tmp 13) rfl _ _ (xs.length + ys.length) rfl rfl ?_ ?_ (by omega) ?_)
  · omega
  · omega
  intro w1 hown hbel
  go_wp2_with fail
  go_loopw [6] (fun i wr => ∃ (k : Nat) (zs : List Nat), k ≤ xs.length ∧ i = .int .i64 k ∧ zs.length = xs.length + ys.length ∧ Lo zs ∧ Own wr (.slice (some ⟨w.heap.size, 0, none⟩) (xs.length + ys.length) (xs.length + ys.length)) zs ∧ Below w.heap.size w wr ∧
      Hid (val zs = val (xs.take k) * val ys ∧ ∀ j, k + ys.length ≤ j → zs.getD j 0 = 0)) (fun i _ => xs.length - (intOf i).toNat)
  case atStart =>
    refine ⟨0, _, Nat.zero_le _, rfl, List.length_replicate, Lo_zeros _, hown, hbel, Hid.mk ⟨?_, fun j _ => ?_⟩⟩
    · rw [val_zeros (fun x hx => List.eq_of_mem_replicate hx)]; simp [val]
    · by_cases hj : j < xs.length + ys.length <;> simp [List.getD, hj]
  case round =>
    clear hown hbel
    obtain ⟨k, zs, hk, rfl, hzl, hlo, hown, hbel, HI⟩ := hrel
    by_cases hkN : k < xs.length
    · obtain ⟨b, rfl, hb0⟩ := HC.out k hkN
      have hxk := Lo_get lx k
      obtain ⟨x, hx⟩ : ∃ x, x = xs.getD k 0 := ⟨_, rfl⟩
      rw [← hx] at hxk hb0
      have HX := Hid.mk hx
      have HB := Hid.mk hb0
      have HZL := Hid.mk hzl
      clear hx hb0 hzl
      have hyl : ys.length ≤ 15000 := by_
      go_wp2_with fail
      go_loopw [7, 8] (fun c i ws => ∃ (j cc : Nat) (qs : List Nat), j ≤ ys.length ∧ i = .int .i64 j ∧ cc ≤ 4294967295 ∧ c = .int .u64 cc ∧ Hid (qs.length = xs.length + ys.length) ∧ Lo qs ∧ Own ws (.slice (some ⟨w.heap.size, 0, none⟩) (xs.length + ys.length) (xs.length + ys.length)) qs ∧ Below w.heap.size w ws ∧
          Hid (val qs + 4294967296 ^ (k + j) * cc = val (xs.take k) * val ys + 4294967296 ^ k * (x * val (ys.take j)) ∧ ∀ j, k + ys.length ≤ j → qs.getD j 0 = 0)) (fun _ i _ => ys.length - (intOf i).toNat)
      case atStart =>
        exact ⟨0, 0, zs, Nat.zero_le _, rfl, by omega, rfl, HZL, hlo, hown, hbel, Hid.mk ⟨by have := HI.out.1; simp [val, this], HI.out.2⟩⟩
      case round =>
        clear hown hbel hlo
        obtain ⟨j, cc, qs, hj, rfl, hcc, rfl, HQ, hlo, hown, hbel, HI2⟩ := hrel
        have hb1 := cell_later hbel HB.out
        by_cases hjN : j < ys.length
        · obtain ⟨d, rfl, hd0⟩ := HD.out j hjN
          have hd1 := cell_later hbel hd0
          have hyk := Lo_get ly j
          have hzk := Lo_get hlo (k + j)
          have hz1 := hown.cell HQ.out (k + j) (by omega)
          have hz2 := hown.frozen HQ.out (k + j)
          obtain ⟨y, hy⟩ : ∃ y, y = ys.getD j 0 := ⟨_, rfl⟩
          obtain ⟨z, hz⟩ : ∃ z, z = qs.getD (k + j) 0 := ⟨_, rfl⟩
          rw [← hy] at hyk hd1
          rw [← hz] at hz1 hzk
          obtain ⟨p1, p2⟩ := prod_bound hxk hyk
          have HYY := Hid.mk hy
          have HZ := Hid.mk hz
          clear hy hz hd0
          go_wp2_with fail
          go_quiet (fail)
          go_wp2_with fail
          have p3 : x * y ≤ 18446744065119617025 := by rw [prod_cast] at p2; omega
          go_roundw
          case rel =>
            refine ⟨j + 1, (cc + (x * y + z)) / 4294967296, qs.set (k + j) ((cc + (x * y + z)) % 4294967296), by omega, by go_num, by omega, by rw [prod_cast]; go_num, Hid.mk (by simp [HQ.out]), Lo_set hlo _ _ (Nat.mod_lt _ (by decide)),
              hown.stored_int HQ.out (k + j) _ (by rw [prod_cast]; omega), below_drewN (hbel.setCell (Nat.le_refl _) _) _, Hid.mk ⟨?_, fun i hi => ?_⟩⟩
            · rw [val_take_next, ← HYY.out, HZ.out]
              exact mul_step (by have := HQ.out; omega) HI2.out.1
            · rw [getD_set_ne _ _ _ _ (by omega)]; exact HI2.out.2 i hi
          case measure => simp [intOf]; omega
        · have hjN' : ys.length ≤ j := by omega
          have hz0 := HI2.out.2 (k + ys.length) (Nat.le_refl _)
          have hz1 := hown.cell HQ.out (k + ys.length) (by omega)
          have hz2 := hown.frozen HQ.out (k + ys.length)
          have HZ0 := Hid.mk hz0
          rw [hz0] at hz1
          clear hz0
          go_wp2_with fail
          go_roundw
          case rel =>
            refine ⟨k + 1, qs.set (k + ys.length) cc, by omega, by go_num, by simp [HQ.out], Lo_set hlo _ _ (by omega), hown.stored_int HQ.out (k + ys.length) _ (by omega), hbel.setCell (Nat.le_refl _) _, Hid.mk ⟨?_, fun i hi => ?_⟩⟩
            · refine mul_done (by have := HQ.out; omega) HZ0.out ?_
              have := HI2.out.1
              rw [show j = ys.length from by omega, List.take_of_length_le (Nat.le_refl _)] at this
              rw [← HX.out]
              exact this
            · rw [getD_set_ne _ _ _ _ (by omega)]; exact HI2.out.2 i (by omega)
          case measure => simp [intOf]; omega
    · have hkN' : xs.length ≤ k := by omega
      go_wp2_with fail
      refine (trim_any _ zs _ hown hlo).mono ?_
      rintro e w' ⟨⟨r, rfl, hr⟩, rfl⟩
      go_wp2_with fail
      go_ret
      obtain ⟨rs, h1, h2, h3, h4⟩ := hr
      refine ⟨_, rfl, ⟨rs, h1, ?_, by omega, h4⟩, hbel⟩
      have HI' := HI.out.1
      rw [List.take_of_length_le (by omega)] at HI'
      rw [h2, HI']
end Go.Proofs.YtjhcbenldfplcaaDoor
