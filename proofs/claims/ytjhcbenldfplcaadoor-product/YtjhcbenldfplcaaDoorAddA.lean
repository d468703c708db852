/- whole.addAmounts, whole.subAmounts. -/
import Derived.Test.YtjhcbenldfplcaaDoorTrim
import Derived.Deep.QuietTactic
import Derived.BigQuiet
namespace Go.Proofs.YtjhcbenldfplcaaDoor
open Go.RowKit

/-- A call handed back a slice of trimmed limbs that make n, of at most L limbs; nothing old has turned. -/
def NatOut (w w' : World) (v : Value) (n L : Nat) : Prop := (∃ zs, Lim zs ∧ val zs = n ∧ zs.length ≤ L ∧ Own w' v zs) ∧ Below w.heap.size w w'

set_option maxRecDepth 100000 in
set_option maxHeartbeats 1000000 in
theorem addAmounts_any (v u : Value) (xs ys : List Nat) (w : World) (hv : Own w v xs) (hu : Own w u ys) (lx : Lo xs) (ly : Lo ys) (bx : xs.length ≤ 30000) (by_ : ys.length ≤ 30000) :
    Calls Tryd.prog 48 #[v, u] w fun e w' => ∃ r, e = .returned r ∧ NatOut w w' r (val xs + val ys) (max xs.length ys.length + 1) := by
  obtain ⟨ao, cap, hveq, hc, hm, -⟩ := hv.open_
  obtain ⟨bo, dap, hueq, hd, hn, -⟩ := hu.open_
  have HV := Hid.mk hv
  have HU := Hid.mk hu
  clear hv hu
  subst hveq
  subst hueq
  by_cases hlt : xs.length < ys.length
  all_goals
    obtain ⟨N, hN⟩ : ∃ N, N = max xs.length ys.length + 1 := ⟨_, rfl⟩
    have hN1 : xs.length < N := by omega
    have hN2 : ys.length < N := by omega
    have hN3 : N ≤ 30001 := by omega
    first
      | (have hN4 : N ≤ ys.length + 1 := by omega)
      | (have hN4 : N ≤ xs.length + 1 := by omega)
    have HN := Hid.mk hN
    clear hN
    go_enter Tryd.func48, Tryd.ntmps48
    go_wp2_with (at_make; refine make_limbs _ rfl (.tmp 20) (.tmp 20) rfl _ _ N rfl rfl ?_ ?_ (by omega) ?_)
    · have := HN.out; omega
    · have := HN.out; omega
    intro w1 hown hbel
    have hlt1 := hown.lt
    go_wp2_with fail
    go_loopw [7, 8] (fun c i wr => ∃ (k cc : Nat) (zs : List Nat), k ≤ N ∧ i = .int .i64 k ∧ cc ≤ 1 ∧ c = .int .u64 cc ∧ zs.length = N ∧ Lo zs ∧ Own wr (.slice (some ⟨w.heap.size, 0, none⟩) N N) zs ∧ Below w.heap.size w wr ∧
        Hid (val (zs.take k) + 4294967296 ^ k * cc = val (xs.take k) + val (ys.take k))) (fun _ i _ => N - (intOf i).toNat)
    case atStart => exact ⟨0, 0, _, Nat.zero_le _, rfl, Nat.zero_le _, rfl, List.length_replicate, Lo_zeros N, hown, hbel, Hid.mk (by simp [val])⟩
    case round =>
      clear hown hbel hlt1
      obtain ⟨k, cc, zs, hk, rfl, hcc, rfl, hzl, hlo, hown, hbel, HI⟩ := hrel
      by_cases hkN : k < N
      · have hxk := Lo_get lx k
        have hyk := Lo_get ly k
        have hz1 := hown.cell hzl k hkN
        have hz2 := hown.frozen hzl k
        obtain ⟨x, hx⟩ : ∃ x, x = xs.getD k 0 := ⟨_, rfl⟩
        obtain ⟨y, hy⟩ : ∃ y, y = ys.getD k 0 := ⟨_, rfl⟩
        obtain ⟨z, hz⟩ : ∃ z, z = zs.getD k 0 := ⟨_, rfl⟩
        rw [← hx] at hxk
        rw [← hy] at hyk
        rw [← hz] at hz1
        have HX := Hid.mk hx
        have HY := Hid.mk hy
        clear hx hy hz
        go_wp2_with fail
        refine (limbAt_any _ xs _ _ (HV.out.below hbel) lx (by omega)).mono ?_
        rintro e w' ⟨rfl, rfl⟩
        rw [Int.toNat_natCast, ← HX.out]
        go_wp2_with fail
        refine (limbAt_any _ ys _ _ (HU.out.below hbel) ly (by omega)).mono ?_
        rintro e w' ⟨rfl, rfl⟩
        rw [Int.toNat_natCast, ← HY.out]
        go_wp2_with fail
        go_roundw
        case rel =>
          refine ⟨k + 1, (cc + (x + y)) / 4294967296, zs.set k ((cc + (x + y)) % 4294967296), by omega, by go_num, by omega, by go_num, by simp [hzl], Lo_set hlo _ _ (Nat.mod_lt _ (by decide)), ?_, hbel.setCell (Nat.le_refl _) _, Hid.mk ?_⟩
          · exact hown.stored_int hzl k _ (by omega)
          · rw [val_take_set zs k _ (by omega), val_take_next, val_take_next, ← HX.out, ← HY.out, Nat.pow_succ]
            exact add_round HI.out
        case measure => simp [intOf]; omega
      · have hkN' : N ≤ k := by omega
        go_wp2_with fail
        refine (trim_any _ zs _ hown hlo).mono ?_
        rintro e w' ⟨⟨r, rfl, hr⟩, rfl⟩
        go_wp2_with fail
        go_ret
        obtain ⟨rs, h1, h2, h3, h4⟩ := hr
        refine ⟨_, rfl, ⟨rs, h1, ?_, by rw [hzl] at h3; have := HN.out; omega, h4⟩, hbel⟩
        have hkk : k = N := by omega
        have HI' := HI.out
        rw [hkk, List.take_of_length_le (by omega), List.take_of_length_le (by omega), List.take_of_length_le (by omega)] at HI'
        rw [h2]
        exact add_end lx ly hN1 hN2 HI'
end Go.Proofs.YtjhcbenldfplcaaDoor
