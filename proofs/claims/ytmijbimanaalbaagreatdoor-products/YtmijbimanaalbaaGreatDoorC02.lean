import Derived.Test.YtmijbimanaalbaaGreatDoorC01
import Derived.Deep.QuietTactic
import Derived.BigQuiet
/- whole.trim, whole.limbAt, whole.lessAmount: reads alone. -/
namespace Go.Proofs.YtmijbimanaalbaaGreatDoor
open Go.RowKit

/-- What trim leaves of the limbs xs. -/
def TrimOut (w : World) (xs : List Nat) (v : Value) : Prop := ∃ ys, Lim ys ∧ val ys = val xs ∧ ys.length ≤ xs.length ∧ Own w v ys
/-- The slice v, if it has a block, has it at B or later. -/
def FrB (B : Nat) (v : Value) : Prop := ∀ a n c, v = .slice (some a) n c → B ≤ a.block
theorem FrB.same {B : Nat} {ao : Option Addr} {n m c : Nat} (h : FrB B (.slice ao n c)) : FrB B (.slice ao m c) := by
  intro a n' c' e
  simp only [Value.slice.injEq] at e
  obtain ⟨rfl, -, -⟩ := e
  exact h _ _ _ rfl
theorem FrB.mk (B g n c : Nat) (h : B ≤ g) : FrB B (.slice (some ⟨g, 0, none⟩) n c) := by
  intro a n' c' e
  simp only [Value.slice.injEq, Option.some.injEq] at e
  obtain ⟨rfl, -, -⟩ := e
  exact h
set_option maxHeartbeats 400000 in
theorem trim_fr (v : Value) (xs : List Nat) (w : World) (h : Own w v xs) (lo : Lo xs) :
    Calls Tryz.prog 155 #[v] w fun e w' => (∃ v', e = .returned v' ∧ TrimOut w xs v' ∧ ∀ B, FrB B v → FrB B v') ∧ w' = w := by
  obtain ⟨ao, cap, rfl, hc, hm, hcell, hnil, _⟩ := h.open_
  have HH := Hid.mk h
  clear h
  have HL := Hid.mk lo
  clear lo
  go_enter Tryz.func155, Tryz.ntmps155
  go_wp2
  go_loop [3] (fun n => ∃ k : Nat, k ≤ xs.length ∧ n = .int .i64 k ∧ ∀ x ∈ xs.drop k, x = 0) (fun n => (intOf n).toNat)
  case atStart => exact ⟨xs.length, Nat.le_refl _, rfl, by simp⟩
  case round =>
    obtain ⟨k, hk, rfl, hz⟩ := hrel
    by_cases h0 : k = 0
    · subst h0
      go_wp2
      go_ret
      have T := trim_spec HL.out 0 (Nat.zero_le _) hz (.inl rfl)
      exact ⟨⟨_, rfl, ⟨_, T.1, T.2.1, by omega, HH.out.cut 0 (Nat.zero_le _)⟩, fun B h => h.same⟩, rfl⟩
    · obtain ⟨b, rfl, hb⟩ := hcell (k - 1) (by omega)
      obtain ⟨x, hx⟩ : ∃ x, x = xs.getD (k - 1) 0 := ⟨_, rfl⟩
      rw [← hx] at hb
      clear hcell
      have HX := Hid.mk hx
      clear hx
      go_wp2
      · have hx0 : ((x : Int) == 0) = true := by assumption
        have hx1 : x = 0 := by simpa using hx0
        go_round
        case rel =>
          refine ⟨k - 1, by omega, by go_num, fun y hy => ?_⟩
          rw [drop_getD xs (k - 1) (by omega), ← HX.out, show k - 1 + 1 = k from by omega] at hy
          rcases List.mem_cons.1 hy with hy | hy
          · omega
          · exact hz y hy
        case measure => simp [intOf]; omega
      · have hx0 : ((x : Int) == 0) = false := by assumption
        have hx1 : x ≠ 0 := by simpa using hx0
        go_ret
        have T := trim_spec HL.out k hk hz (.inr (by rw [← HX.out]; omega))
        exact ⟨⟨_, rfl, ⟨_, T.1, T.2.1, by omega, HH.out.cut k hk⟩, fun B h => h.same⟩, rfl⟩

theorem trim_any (v : Value) (xs : List Nat) (w : World) (h : Own w v xs) (lo : Lo xs) :
    Calls Tryz.prog 155 #[v] w fun e w' => (∃ v', e = .returned v' ∧ TrimOut w xs v') ∧ w' = w := by
  refine (trim_fr v xs w h lo).mono ?_
  rintro e w' ⟨⟨v', h1, h2, -⟩, h3⟩
  exact ⟨⟨v', h1, h2⟩, h3⟩
set_option maxHeartbeats 400000 in
/-- whole.limbAt: past the high end all are 0. -/
theorem limbAt_any (v : Value) (xs : List Nat) (i : Int) (w : World) (h : Own w v xs) (lo : Lo xs) (hi0 : 0 ≤ i) :
    Calls Tryz.prog 197 #[v, .int .i64 i] w fun e w' => e = .returned (.int .u64 ((xs.getD i.toNat 0 : Nat) : Int)) ∧ w' = w := by
  obtain ⟨ao, cap, rfl, hc, hm, hcell, hnil, _⟩ := h.open_
  obtain ⟨k, rfl⟩ := Int.eq_ofNat_of_zero_le hi0
  rw [Int.toNat_natCast]
  by_cases hk : k < xs.length
  · obtain ⟨b, rfl, hb⟩ := hcell k hk
    obtain ⟨x, hx⟩ : ∃ x, x = xs.getD k 0 := ⟨_, rfl⟩
    have hxl : x < 4294967296 := by rw [hx]; exact Lo_get lo k
    rw [← hx] at hb ⊢
    clear hcell hx
    go_enter Tryz.func197, Tryz.ntmps197
    go_wp2
    go_ret
    exact ⟨rfl, rfl⟩
  · have hx : xs.getD k 0 = 0 := by simp [List.getD, List.getElem?_eq_none (by omega : xs.length ≤ k)]
    rw [hx]
    clear hcell hx
    go_enter Tryz.func197, Tryz.ntmps197
    go_wp2
    go_ret
    exact ⟨rfl, rfl⟩
end Go.Proofs.YtmijbimanaalbaaGreatDoor

/- whole.addAmounts, whole.subAmounts. -/
namespace Go.Proofs.YtmijbimanaalbaaGreatDoor
open Go.RowKit

/-- A call handed back a slice of trimmed limbs that make n, of at most L limbs; nothing old has turned. -/
def NatOut (w w' : World) (v : Value) (n L : Nat) : Prop := (∃ zs, Lim zs ∧ val zs = n ∧ zs.length ≤ L ∧ Own w' v zs) ∧ Below w.heap.size w w'

set_option maxRecDepth 100000 in
set_option maxHeartbeats 1000000 in
theorem addAmounts_any (v u : Value) (xs ys : List Nat) (w : World) (hv : Own w v xs) (hu : Own w u ys) (lx : Lo xs) (ly : Lo ys) (bx : xs.length ≤ 1000000000) (by_ : ys.length ≤ 1000000000) :
    Calls Tryz.prog 146 #[v, u] w fun e w' => ∃ r, e = .returned r ∧ NatOut w w' r (val xs + val ys) (max xs.length ys.length + 1) := by
  obtain ⟨ao, cap, hveq, hc, hm, -⟩ := hv.open_
  obtain ⟨bo, dap, hueq, hd, hn, -⟩ := hu.open_
  have HV := Hid.mk hv
  have HU := Hid.mk hu
  clear hv hu
  subst hveq
  subst hueq
  by_cases hlt : xs.length < ys.length
  all_goals
    obtain ⟨N, hN⟩ : ∃ N, N = max xs.length ys.length + 1 := ⟨_, rfl⟩
    have hN1 : xs.length < N := by omega
    have hN2 : ys.length < N := by omega
    have hN3 : N ≤ 1000000001 := by omega
    first
      | (have hN4 : N ≤ ys.length + 1 := by omega)
      | (have hN4 : N ≤ xs.length + 1 := by omega)
    have HN := Hid.mk hN
    clear hN
    go_enter Tryz.func146, Tryz.ntmps146
    go_wp2_with (at_make; refine make_limbs _ rfl (.tmp 20) (.tmp 20) rfl _ _ N rfl rfl ?_ ?_ (by omega) ?_)
    · have := HN.out; omega
    · have := HN.out; omega
    intro w1 hown hbel
    have hlt1 := hown.lt
    go_wp2_with fail
    go_loopw [7, 8] (fun c i wr => ∃ (k cc : Nat) (zs : List Nat), k ≤ N ∧ i = .int .i64 k ∧ cc ≤ 1 ∧ c = .int .u64 cc ∧ zs.length = N ∧ Lo zs ∧ Own wr (.slice (some ⟨w.heap.size, 0, none⟩) N N) zs ∧ Below w.heap.size w wr ∧
        Hid (val (zs.take k) + 4294967296 ^ k * cc = val (xs.take k) + val (ys.take k))) (fun _ i _ => N - (intOf i).toNat)
    case atStart => exact ⟨0, 0, _, Nat.zero_le _, rfl, Nat.zero_le _, rfl, List.length_replicate, Lo_zeros N, hown, hbel, Hid.mk (by simp [val])⟩
    case round =>
      clear hown hbel hlt1
      obtain ⟨k, cc, zs, hk, rfl, hcc, rfl, hzl, hlo, hown, hbel, HI⟩ := hrel
      by_cases hkN : k < N
      · have hxk := Lo_get lx k
        have hyk := Lo_get ly k
        have hz1 := hown.cell hzl k hkN
        have hz2 := hown.frozen hzl k
        obtain ⟨x, hx⟩ : ∃ x, x = xs.getD k 0 := ⟨_, rfl⟩
        obtain ⟨y, hy⟩ : ∃ y, y = ys.getD k 0 := ⟨_, rfl⟩
        obtain ⟨z, hz⟩ : ∃ z, z = zs.getD k 0 := ⟨_, rfl⟩
        rw [← hx] at hxk
        rw [← hy] at hyk
        rw [← hz] at hz1
        have HX := Hid.mk hx
        have HY := Hid.mk hy
        clear hx hy hz
        go_wp2_with fail
        refine (limbAt_any _ xs _ _ (HV.out.below hbel) lx (by omega)).mono ?_
        rintro e w' ⟨rfl, rfl⟩
        rw [Int.toNat_natCast, ← HX.out]
        go_wp2_with fail
        refine (limbAt_any _ ys _ _ (HU.out.below hbel) ly (by omega)).mono ?_
        rintro e w' ⟨rfl, rfl⟩
        rw [Int.toNat_natCast, ← HY.out]
        go_wp2_with fail
        go_roundw
        case rel =>
          refine ⟨k + 1, (cc + (x + y)) / 4294967296, zs.set k ((cc + (x + y)) % 4294967296), by omega, by go_num, by omega, by go_num, by simp [hzl], Lo_set hlo _ _ (Nat.mod_lt _ (by decide)), ?_, hbel.setCell (Nat.le_refl _) _, Hid.mk ?_⟩
          · exact hown.stored_int hzl k _ (by omega)
          · rw [val_take_set zs k _ (by omega), val_take_next, val_take_next, ← HX.out, ← HY.out, Nat.pow_succ]
            exact add_round HI.out
        case measure => simp [intOf]; omega
      · have hkN' : N ≤ k := by omega
        go_wp2_with fail
        refine (trim_any _ zs _ hown hlo).mono ?_
        rintro e w' ⟨⟨r, rfl, hr⟩, rfl⟩
        go_wp2_with fail
        go_ret
        obtain ⟨rs, h1, h2, h3, h4⟩ := hr
        refine ⟨_, rfl, ⟨rs, h1, ?_, by rw [hzl] at h3; have := HN.out; omega, h4⟩, hbel⟩
        have hkk : k = N := by omega
        have HI' := HI.out
        rw [hkk, List.take_of_length_le (by omega), List.take_of_length_le (by omega), List.take_of_length_le (by omega)] at HI'
        rw [h2]
        exact add_end lx ly hN1 hN2 HI'
end Go.Proofs.YtmijbimanaalbaaGreatDoor

/- whole.subAmounts. -/
namespace Go.Proofs.YtmijbimanaalbaaGreatDoor
open Go.RowKit

set_option maxRecDepth 100000 in
set_option maxHeartbeats 1000000 in
theorem subAmounts_fr (v u : Value) (xs ys : List Nat) (w : World) (hv : Own w v xs) (hu : Own w u ys) (lx : Lo xs) (ly : Lo ys) (bx : xs.length ≤ 1000000000) (hle : val ys ≤ val xs) (hyl : ys.length ≤ xs.length) :
    Calls Tryz.prog 196 #[v, u] w fun e w' => ∃ r, e = .returned r ∧ NatOut w w' r (val xs - val ys) xs.length ∧ FrB w.heap.size r := by
  obtain ⟨ao, cap, hveq, hc, hm, hcell, -, -⟩ := hv.open_
  obtain ⟨bo, dap, hueq, hd, hn, -⟩ := hu.open_
  have HC := Hid.mk hcell
  have HU := Hid.mk hu
  have HY := Hid.mk hyl
  have HLE := Hid.mk hle
  clear hv hu hcell hyl hle
  subst hveq
  subst hueq
  go_enter Tryz.func196, Tryz.ntmps196
  go_wp2_with (at_make; refine make_limbs _ rfl (.tmp 11) (.tmp 11) rfl _ _ xs.length rfl rfl rfl rfl (by omega) ?_)
  intro w1 hown hbel
  go_wp2_with fail
  go_loopw [6, 7] (fun c i wr => ∃ (k cc : Nat) (zs : List Nat), k ≤ xs.length ∧ i = .int .i64 k ∧ cc ≤ 1 ∧ c = .int .u64 cc ∧ zs.length = xs.length ∧ Lo zs ∧ Own wr (.slice (some ⟨w.heap.size, 0, none⟩) xs.length xs.length) zs ∧ Below w.heap.size w wr ∧
      Hid (val (zs.take k) + val (ys.take k) = val (xs.take k) + 4294967296 ^ k * cc)) (fun _ i _ => xs.length - (intOf i).toNat)
  case atStart => exact ⟨0, 0, _, Nat.zero_le _, rfl, Nat.zero_le _, rfl, List.length_replicate, Lo_zeros _, hown, hbel, Hid.mk (by simp [val])⟩
  case round =>
    clear hown hbel
    obtain ⟨k, cc, zs, hk, rfl, hcc, rfl, hzl, hlo, hown, hbel, HI⟩ := hrel
    by_cases hkN : k < xs.length
    · have hxk := Lo_get lx k
      have hyk := Lo_get ly k
      have hz1 := hown.cell hzl k hkN
      have hz2 := hown.frozen hzl k
      obtain ⟨b, rfl, hb0⟩ := HC.out k hkN
      have hb1 := cell_later hbel hb0
      obtain ⟨x, hx⟩ : ∃ x, x = xs.getD k 0 := ⟨_, rfl⟩
      obtain ⟨y, hy⟩ : ∃ y, y = ys.getD k 0 := ⟨_, rfl⟩
      obtain ⟨z, hz⟩ : ∃ z, z = zs.getD k 0 := ⟨_, rfl⟩
      rw [← hx] at hxk hb1
      rw [← hy] at hyk
      rw [← hz] at hz1
      have HX := Hid.mk hx
      have HYY := Hid.mk hy
      have HZL := Hid.mk hzl
      clear hx hy hz hb0 hzl
      have hr := fun Z X Y => @sub_round (4294967296 ^ k) Z X Y cc x y
      have HR := Hid.mk hr
      clear hr
      by_cases hxy : x < y + cc
      all_goals
        go_wp2_with fail
        refine (limbAt_any _ ys _ _ (HU.out.below hbel) ly (by omega)).mono ?_
        rintro e w' ⟨rfl, rfl⟩
        rw [Int.toNat_natCast, ← HYY.out]
        go_wp2_with fail
      · go_roundw
        case rel =>
          refine ⟨k + 1, 1, zs.set k (x + 4294967296 - (y + cc)), by omega, by go_num, by omega, rfl, by simp [HZL.out], Lo_set hlo _ _ (by omega), hown.stored_int HZL.out k _ (by omega), hbel.setCell (Nat.le_refl _) _, Hid.mk ?_⟩
          rw [val_take_set zs k _ (by have := HZL.out; omega), val_take_next, val_take_next, ← HX.out, ← HYY.out, Nat.pow_succ]
          have := HR.out _ _ _ HI.out hxk hyk hcc
          rw [if_pos hxy, if_pos hxy] at this
          exact this
        case measure => simp [intOf]; omega
      · go_roundw
        case rel =>
          refine ⟨k + 1, 0, zs.set k (x - (y + cc)), by omega, by go_num, by omega, rfl, by simp [HZL.out], Lo_set hlo _ _ (by omega), hown.stored_int HZL.out k _ (by omega), hbel.setCell (Nat.le_refl _) _, Hid.mk ?_⟩
          rw [val_take_set zs k _ (by have := HZL.out; omega), val_take_next, val_take_next, ← HX.out, ← HYY.out, Nat.pow_succ]
          have := HR.out _ _ _ HI.out hxk hyk hcc
          rw [if_neg (by omega), if_neg (by omega)] at this
          exact this
        case measure => simp [intOf]; omega
    · have hkN' : xs.length ≤ k := by omega
      go_wp2_with fail
      refine (trim_fr _ zs _ hown hlo).mono ?_
      rintro e w' ⟨⟨r, rfl, hr, hfr⟩, rfl⟩
      have HF := Hid.mk (hfr _ (FrB.mk _ _ _ _ (Nat.le_refl _)))
      clear hfr
      go_wp2_with fail
      go_ret
      obtain ⟨rs, h1, h2, h3, h4⟩ := hr
      refine ⟨_, rfl, ⟨⟨rs, h1, ?_, by omega, h4⟩, hbel⟩, HF.out⟩
      have hkk : k = xs.length := by omega
      have HI' := HI.out
      have := HY.out
      rw [hkk, List.take_of_length_le (by omega), List.take_of_length_le (by omega), List.take_of_length_le (by omega)] at HI'
      rw [h2]
      exact sub_end hlo hzl HLE.out HI'
theorem subAmounts_any (v u : Value) (xs ys : List Nat) (w : World) (hv : Own w v xs) (hu : Own w u ys) (lx : Lo xs) (ly : Lo ys) (bx : xs.length ≤ 1000000000) (hle : val ys ≤ val xs) (hyl : ys.length ≤ xs.length) :
    Calls Tryz.prog 196 #[v, u] w fun e w' => ∃ r, e = .returned r ∧ NatOut w w' r (val xs - val ys) xs.length := by
  refine (subAmounts_fr v u xs ys w hv hu lx ly bx hle hyl).mono ?_
  rintro e w' ⟨r, h1, h2, -⟩
  exact ⟨r, h1, h2⟩
end Go.Proofs.YtmijbimanaalbaaGreatDoor

/- whole.mulAmounts. -/
namespace Go.Proofs.YtmijbimanaalbaaGreatDoor
open Go.RowKit

theorem prod_bound {x y : Nat} (hx : x < 4294967296) (hy : y < 4294967296) : (0 : Int) ≤ (x : Int) * (y : Int) ∧ (x : Int) * (y : Int) ≤ 18446744065119617025 := by
  have h : x * y ≤ 4294967295 * 4294967295 := Nat.mul_le_mul (by omega) (by omega)
  rw [← Int.natCast_mul]
  omega
theorem prod_cast (x y : Nat) : (x : Int) * (y : Int) = ((x * y : Nat) : Int) := (Int.natCast_mul x y).symm

set_option maxRecDepth 100000 in
set_option maxHeartbeats 2000000 in
theorem mulAmounts_any (v u : Value) (xs ys : List Nat) (w : World) (hv : Own w v xs) (hu : Own w u ys) (lx : Lo xs) (ly : Lo ys) (bx : xs.length ≤ 500000000) (by_ : ys.length ≤ 500000000) :
    Calls Tryz.prog 156 #[v, u] w fun e w' => ∃ r, e = .returned r ∧ NatOut w w' r (val xs * val ys) (xs.length + ys.length) := by
  obtain ⟨ao, cap, hveq, hc, hm, hcell, -, -⟩ := hv.open_
  obtain ⟨bo, dap, hueq, hd, hn, hdell, -, -⟩ := hu.open_
  have HC := Hid.mk hcell
  have HD := Hid.mk hdell
  clear hv hu hcell hdell
  subst hveq
  subst hueq
  go_enter Tryz.func156, Tryz.ntmps156
  go_wp2_with (at_make; refine make_limbs _ rfl (.tmp 13) (.tmp 13) rfl _ _ (xs.length + ys.length) rfl rfl ?_ ?_ (by omega) ?_)
  · omega
  · omega
  intro w1 hown hbel
  go_wp2_with fail
  go_loopw [6] (fun i wr => ∃ (k : Nat) (zs : List Nat), k ≤ xs.length ∧ i = .int .i64 k ∧ zs.length = xs.length + ys.length ∧ Lo zs ∧ Own wr (.slice (some ⟨w.heap.size, 0, none⟩) (xs.length + ys.length) (xs.length + ys.length)) zs ∧ Below w.heap.size w wr ∧
      Hid (val zs = val (xs.take k) * val ys ∧ ∀ j, k + ys.length ≤ j → zs.getD j 0 = 0)) (fun i _ => xs.length - (intOf i).toNat)
  case atStart =>
    refine ⟨0, _, Nat.zero_le _, rfl, List.length_replicate, Lo_zeros _, hown, hbel, Hid.mk ⟨?_, fun j _ => ?_⟩⟩
    · rw [val_zeros (fun x hx => List.eq_of_mem_replicate hx)]; simp [val]
    · by_cases hj : j < xs.length + ys.length <;> simp [List.getD, hj]
  case round =>
    clear hown hbel
    obtain ⟨k, zs, hk, rfl, hzl, hlo, hown, hbel, HI⟩ := hrel
    by_cases hkN : k < xs.length
    · obtain ⟨b, rfl, hb0⟩ := HC.out k hkN
      have hxk := Lo_get lx k
      obtain ⟨x, hx⟩ : ∃ x, x = xs.getD k 0 := ⟨_, rfl⟩
      rw [← hx] at hxk hb0
      have HX := Hid.mk hx
      have HB := Hid.mk hb0
      have HZL := Hid.mk hzl
      clear hx hb0 hzl
      have hyl : ys.length ≤ 500000000 := by_
      go_wp2_with fail
      go_loopw [7, 8] (fun c i ws => ∃ (j cc : Nat) (qs : List Nat), j ≤ ys.length ∧ i = .int .i64 j ∧ cc ≤ 4294967295 ∧ c = .int .u64 cc ∧ Hid (qs.length = xs.length + ys.length) ∧ Lo qs ∧ Own ws (.slice (some ⟨w.heap.size, 0, none⟩) (xs.length + ys.length) (xs.length + ys.length)) qs ∧ Below w.heap.size w ws ∧
          Hid (val qs + 4294967296 ^ (k + j) * cc = val (xs.take k) * val ys + 4294967296 ^ k * (x * val (ys.take j)) ∧ ∀ j, k + ys.length ≤ j → qs.getD j 0 = 0)) (fun _ i _ => ys.length - (intOf i).toNat)
      case atStart =>
        exact ⟨0, 0, zs, Nat.zero_le _, rfl, by omega, rfl, HZL, hlo, hown, hbel, Hid.mk ⟨by have := HI.out.1; simp [val, this], HI.out.2⟩⟩
      case round =>
        clear hown hbel hlo
        obtain ⟨j, cc, qs, hj, rfl, hcc, rfl, HQ, hlo, hown, hbel, HI2⟩ := hrel
        have hb1 := cell_later hbel HB.out
        by_cases hjN : j < ys.length
        · obtain ⟨d, rfl, hd0⟩ := HD.out j hjN
          have hd1 := cell_later hbel hd0
          have hyk := Lo_get ly j
          have hzk := Lo_get hlo (k + j)
          have hz1 := hown.cell HQ.out (k + j) (by omega)
          have hz2 := hown.frozen HQ.out (k + j)
          obtain ⟨y, hy⟩ : ∃ y, y = ys.getD j 0 := ⟨_, rfl⟩
          obtain ⟨z, hz⟩ : ∃ z, z = qs.getD (k + j) 0 := ⟨_, rfl⟩
          rw [← hy] at hyk hd1
          rw [← hz] at hz1 hzk
          obtain ⟨p1, p2⟩ := prod_bound hxk hyk
          have HYY := Hid.mk hy
          have HZ := Hid.mk hz
          clear hy hz hd0
          go_wp2_with fail
          go_quiet (fail)
          go_wp2_with fail
          have p3 : x * y ≤ 18446744065119617025 := by rw [prod_cast] at p2; omega
          go_roundw
          case rel =>
            refine ⟨j + 1, (cc + (x * y + z)) / 4294967296, qs.set (k + j) ((cc + (x * y + z)) % 4294967296), by omega, by go_num, by omega, by rw [prod_cast]; go_num, Hid.mk (by simp [HQ.out]), Lo_set hlo _ _ (Nat.mod_lt _ (by decide)),
              hown.stored_int HQ.out (k + j) _ (by rw [prod_cast]; omega), below_drewN (hbel.setCell (Nat.le_refl _) _) _, Hid.mk ⟨?_, fun i hi => ?_⟩⟩
            · rw [val_take_next, ← HYY.out, HZ.out]
              exact mul_step (by have := HQ.out; omega) HI2.out.1
            · rw [getD_set_ne _ _ _ _ (by omega)]; exact HI2.out.2 i hi
          case measure => simp [intOf]; omega
        · have hjN' : ys.length ≤ j := by omega
          have hz0 := HI2.out.2 (k + ys.length) (Nat.le_refl _)
          have hz1 := hown.cell HQ.out (k + ys.length) (by omega)
          have hz2 := hown.frozen HQ.out (k + ys.length)
          have HZ0 := Hid.mk hz0
          rw [hz0] at hz1
          clear hz0
          go_wp2_with fail
          go_roundw
          case rel =>
            refine ⟨k + 1, qs.set (k + ys.length) cc, by omega, by go_num, by simp [HQ.out], Lo_set hlo _ _ (by omega), hown.stored_int HQ.out (k + ys.length) _ (by omega), hbel.setCell (Nat.le_refl _) _, Hid.mk ⟨?_, fun i hi => ?_⟩⟩
            · refine mul_done (by have := HQ.out; omega) HZ0.out ?_
              have := HI2.out.1
              rw [show j = ys.length from by omega, List.take_of_length_le (Nat.le_refl _)] at this
              rw [← HX.out]
              exact this
            · rw [getD_set_ne _ _ _ _ (by omega)]; exact HI2.out.2 i (by omega)
          case measure => simp [intOf]; omega
    · have hkN' : xs.length ≤ k := by omega
      go_wp2_with fail
      refine (trim_any _ zs _ hown hlo).mono ?_
      rintro e w' ⟨⟨r, rfl, hr⟩, rfl⟩
      go_wp2_with fail
      go_ret
      obtain ⟨rs, h1, h2, h3, h4⟩ := hr
      refine ⟨_, rfl, ⟨rs, h1, ?_, by omega, h4⟩, hbel⟩
      have HI' := HI.out.1
      rw [List.take_of_length_le (by omega)] at HI'
      rw [h2, HI']
end Go.Proofs.YtmijbimanaalbaaGreatDoor
