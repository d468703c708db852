/- whole.subAmounts. -/
import Derived.Test.YtjhcbenldfplcaaDoorAddA
namespace Go.Proofs.YtjhcbenldfplcaaDoor
open Go.RowKit

set_option maxRecDepth 100000 in
set_option maxHeartbeats 1000000 in
theorem subAmounts_any (v u : Value) (xs ys : List Nat) (w : World) (hv : Own w v xs) (hu : Own w u ys) (lx : Lo xs) (ly : Lo ys) (bx : xs.length ≤ 30000) (hle : val ys ≤ val xs) (hyl : ys.length ≤ xs.length) :
    Calls Tryd.prog 50 #[v, u] w fun e w' => ∃ r, e = .returned r ∧ NatOut w w' r (val xs - val ys) xs.length := by
  obtain ⟨ao, cap, hveq, hc, hm, hcell, -, -⟩ := hv.open_
  obtain ⟨bo, dap, hueq, hd, hn, -⟩ := hu.open_
  have HC := Hid.mk hcell
  have HU := Hid.mk hu
  have HY := Hid.mk hyl
  have HLE := Hid.mk hle
  clear hv hu hcell hyl hle
  subst hveq
  subst hueq
  go_enter Tryd.func50, Tryd.ntmps50
  go_wp2_with (at_make; refine make_limbs _ rfl (.tmp 11) (.tmp 11) rfl _ _ xs.length rfl rfl rfl rfl (by omega) ?_)
  intro w1 hown hbel
  go_wp2_with fail
  go_loopw [6, 7] (fun c i wr => ∃ (k cc : Nat) (zs : List Nat), k ≤ xs.length ∧ i = .int .i64 k ∧ cc ≤ 1 ∧ c = .int .u64 cc ∧ zs.length = xs.length ∧ Lo zs ∧ Own wr (.slice (some ⟨w.heap.size, 0, none⟩) xs.length xs.length) zs ∧ Below w.heap.size w wr ∧
      Hid (val (zs.take k) + val (ys.take k) = val (xs.take k) + 4294967296 ^ k * cc)) (fun _ i _ => xs.length - (intOf i).toNat)
  case atStart => exact ⟨0, 0, _, Nat.zero_le _, rfl, Nat.zero_le _, rfl, List.length_replicate, Lo_zeros _, hown, hbel, Hid.mk (by simp [val])⟩
  case round =>
    clear hown hbel
    obtain ⟨k, cc, zs, hk, rfl, hcc, rfl, hzl, hlo, hown, hbel, HI⟩ := hrel
    by_cases hkN : k < xs.length
    · have hxk := Lo_get lx k
      have hyk := Lo_get ly k
      have hz1 := hown.cell hzl k hkN
      have hz2 := hown.frozen hzl k
      obtain ⟨b, rfl, hb0⟩ := HC.out k hkN
      have hb1 := cell_later hbel hb0
      obtain ⟨x, hx⟩ : ∃ x, x = xs.getD k 0 := ⟨_, rfl⟩
      obtain ⟨y, hy⟩ : ∃ y, y = ys.getD k 0 := ⟨_, rfl⟩
      obtain ⟨z, hz⟩ : ∃ z, z = zs.getD k 0 := ⟨_, rfl⟩
      rw [← hx] at hxk hb1
      rw [← hy] at hyk
      rw [← hz] at hz1
      have HX := Hid.mk hx
      have HYY := Hid.mk hy
      have HZL := Hid.mk hzl
      clear hx hy hz hb0 hzl
      have hr := fun Z X Y => @sub_round (4294967296 ^ k) Z X Y cc x y
      have HR := Hid.mk hr
      clear hr
      by_cases hxy : x < y + cc
      all_goals
        go_wp2_with fail
        refine (limbAt_any _ ys _ _ (HU.out.below hbel) ly (by omega)).mono ?_
        rintro e w' ⟨rfl, rfl⟩
        rw [Int.toNat_natCast, ← HYY.out]
        go_wp2_with fail
      · go_roundw
        case rel =>
          refine ⟨k + 1, 1, zs.set k (x + 4294967296 - (y + cc)), by omega, by go_num, by omega, rfl, by simp [HZL.out], Lo_set hlo _ _ (by omega), hown.stored_int HZL.out k _ (by omega), hbel.setCell (Nat.le_refl _) _, Hid.mk ?_⟩
          rw [val_take_set zs k _ (by have := HZL.out; omega), val_take_next, val_take_next, ← HX.out, ← HYY.out, Nat.pow_succ]
          have := HR.out _ _ _ HI.out hxk hyk hcc
          rw [if_pos hxy, if_pos hxy] at this
          exact this
        case measure => simp [intOf]; omega
      · go_roundw
        case rel =>
          refine ⟨k + 1, 0, zs.set k (x - (y + cc)), by omega, by go_num, by omega, rfl, by simp [HZL.out], Lo_set hlo _ _ (by omega), hown.stored_int HZL.out k _ (by omega), hbel.setCell (Nat.le_refl _) _, Hid.mk ?_⟩
          rw [val_take_set zs k _ (by have := HZL.out; omega), val_take_next, val_take_next, ← HX.out, ← HYY.out, Nat.pow_succ]
          have := HR.out _ _ _ HI.out hxk hyk hcc
          rw [if_neg (by omega), if_neg (by omega)] at this
          exact this
        case measure => simp [intOf]; omega
    · have hkN' : xs.length ≤ k := by omega
      go_wp2_with fail
      refine (trim_any _ zs _ hown hlo).mono ?_
      rintro e w' ⟨⟨r, rfl, hr⟩, rfl⟩
      go_wp2_with fail
      go_ret
      obtain ⟨rs, h1, h2, h3, h4⟩ := hr
      refine ⟨_, rfl, ⟨rs, h1, ?_, by omega, h4⟩, hbel⟩
      have hkk : k = xs.length := by omega
      have HI' := HI.out
      have := HY.out
      rw [hkk, List.take_of_length_le (by omega), List.take_of_length_le (by omega), List.take_of_length_le (by omega)] at HI'
      rw [h2]
      exact sub_end hlo hzl HLE.out HI'
end Go.Proofs.YtjhcbenldfplcaaDoor
