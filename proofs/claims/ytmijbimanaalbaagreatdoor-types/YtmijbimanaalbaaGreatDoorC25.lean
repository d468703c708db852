import Derived.Test.YtmijbimanaalbaaGreatDoorC24
/- matricesref: sum. -/
namespace Go.Proofs.YtmijbimanaalbaaGreatDoor.R
open Go.RowKit

theorem val_snoc (zs : List Nat) (c : Nat) : val (zs ++ [c]) = val zs + 10000 ^ zs.length * c := by rw [val_append]; simp [val]
theorem Lo_snoc {zs : List Nat} {c : Nat} (h : Lo zs) (hc : c < 10000) : Lo (zs ++ [c]) := Lo_append h (Lo_cons hc Lo_nil)
theorem sum_round {Z P cc X Y x y : Nat} (h : Z + P * cc = X + Y) : Z + P * ((cc + x + y) % 10000) + P * 10000 * ((cc + x + y) / 10000) = X + P * x + (Y + P * y) := by
  have h1 : P * ((cc + x + y) % 10000) + P * 10000 * ((cc + x + y) / 10000) = P * (cc + x + y) := by
    rw [Nat.mul_assoc, ← Nat.mul_add, Nat.mod_add_div]
  rw [Nat.mul_add, Nat.mul_add] at h1
  omega
/-- A row of digits of the call's own. -/
def SumOut (w w' : World) (v : Value) (n L : Nat) : Prop := (∃ zs, Lo zs ∧ val zs = n ∧ zs.length ≤ L ∧ Own w' v zs) ∧ Below w.heap.size w w'

/-- The same; past N digits the highest is not 0. -/
def SumTop (w w' : World) (v : Value) (n L N : Nat) : Prop := (∃ zs, Lo zs ∧ val zs = n ∧ zs.length ≤ L ∧ Own w' v zs ∧ (zs.length ≤ N ∨ 0 < zs.getD (zs.length - 1) 0)) ∧ Below w.heap.size w w'
set_option maxRecDepth 100000 in
set_option maxHeartbeats 2000000 in
theorem sum_top (v u : Value) (xs ys : List Nat) (w : World) (hv : Own w v xs) (hu : Own w u ys) (lx : Lo xs) (ly : Lo ys) (bx : xs.length ≤ 20000) (by_ : ys.length ≤ 20000) :
    Calls Tryz.prog 211 #[v, u] w fun e w' => ∃ r, e = .returned r ∧ SumTop w w' r (val xs + val ys) (max xs.length ys.length + 1) (max xs.length ys.length) := by
  obtain ⟨ao, cap, rfl, hc, hm, -⟩ := hv.open_
  obtain ⟨bo, dap, rfl, hd, hn, -⟩ := hu.open_
  have H := Hid.mk (And.intro hv (And.intro hu (And.intro lx ly)))
  clear hv hu lx ly
  obtain ⟨N, hN⟩ : ∃ N, N = max xs.length ys.length := ⟨_, rfl⟩
  have hN1 : xs.length ≤ N := by omega
  have hN2 : ys.length ≤ N := by omega
  have hN3 : N ≤ 20000 := by omega
  have HN := Hid.mk hN
  clear hN
  go_enter Tryz.func211, Tryz.ntmps211
  go_wp2_with fail
  go_loopw [5, 6, 7] (fun out c i wr => ∃ (k cc : Nat) (zs : List Nat), i = .int .i64 k ∧ cc ≤ 1 ∧ c = .int .i64 cc ∧ (k ≤ N ∨ (k = N + 1 ∧ cc = 0)) ∧ Hid (zs.length = k) ∧ Lo zs ∧ OwnB w.heap.size wr out zs ∧ Below w.heap.size w wr ∧
      Hid (val zs + 10000 ^ k * cc = val (xs.take k) + val (ys.take k) ∧ (k ≤ N ∨ 0 < zs.getD (k - 1) 0))) (fun _ c i _ => 2 * (N - (intOf i).toNat) + (intOf c).toNat)
  case atStart => exact ⟨0, 0, [], rfl, by omega, rfl, .inl (Nat.zero_le _), Hid.mk rfl, Lo_nil, World.ownsRow_nil _ _ _ _, Below.refl _ _, Hid.mk ⟨by simp [val], .inl (Nat.zero_le _)⟩⟩
  case round =>
    obtain ⟨k, cc, zs, rfl, hcc, rfl, hkn, HZ, hlo, hown, hbel, HI⟩ := hrel
    have hwr := hbel.size
    have K := Hid.mk (And.intro hown (And.intro hbel hlo))
    clear hown hbel hlo
    by_cases h1 : k < xs.length
    · obtain ⟨ba, rfl, ca⟩ := (H.out.1.below K.out.2.1).at_ rfl k h1
      have hxk := Lo_get H.out.2.2.1 k
      obtain ⟨x, hx⟩ : ∃ x, x = xs.getD k 0 := ⟨_, rfl⟩
      obtain ⟨y, hy⟩ : ∃ y, y = ys.getD k 0 := ⟨_, rfl⟩
      rw [← hx] at ca hxk
      by_cases h2 : k < ys.length
      · obtain ⟨bb, rfl, cb⟩ := (H.out.2.1.below K.out.2.1).at_ rfl k h2
        have hyk := Lo_get H.out.2.2.2 k
        rw [← hy] at cb hyk
        have HX := Hid.mk (And.intro hx hy)
        clear hx hy
        go_wp2_with (at_builtin; refine append_digit _ rfl _ _ rfl w.heap.size _ zs rfl ?_ ⟨_, 0, none⟩ rfl ((cc + x + y) % 10000) ?_ ?_ ?_ ?_)
        · exact World.ownsRow.alloc K.out.1 _
        · simp [Addr.add]
        · have := HZ.out; omega
        · simp; omega
        intro v' w' q1 q2
        have hbel2 : Below w.heap.size w w' := (K.out.2.1.alloc hwr _).grown q2 (by simp; omega) (fun j hj => (World.ownsRow.lt K.out.1 j hj).1)
        have K2 := Hid.mk (And.intro q1 hbel2)
        clear q1 q2 hbel2
        go_wp2_with fail
        go_roundw
        case measure => simp [intOf]; omega
        case rel =>
          refine ⟨k + 1, (cc + x + y) / 10000, zs ++ [(cc + x + y) % 10000], by go_num, by omega, by go_num, by omega, Hid.mk (by have := HZ.out; simp; omega), Lo_snoc K.out.2.2 (Nat.mod_lt _ (by decide)), K2.out.1, K2.out.2, Hid.mk ⟨?_, .inl (by omega)⟩⟩
          rw [val_snoc, HZ.out, val_take_next, val_take_next, ← HX.out.1, ← HX.out.2, Nat.pow_succ]
          exact sum_round (x := x) (y := y) HI.out.1
      · have h2' : decide (k < ys.length) = false := decide_eq_false h2
        have HX := Hid.mk (And.intro hx hy)
        clear hx hy
        go_wp2_with (at_builtin; refine append_digit _ rfl _ _ rfl w.heap.size _ zs rfl ?_ ⟨_, 0, none⟩ rfl ((cc + x) % 10000) ?_ ?_ ?_ ?_)
        · exact World.ownsRow.alloc K.out.1 _
        · simp [Addr.add]
        · have := HZ.out; omega
        · simp; omega
        intro v' w' q1 q2
        have hbel2 : Below w.heap.size w w' := (K.out.2.1.alloc hwr _).grown q2 (by simp; omega) (fun j hj => (World.ownsRow.lt K.out.1 j hj).1)
        have K2 := Hid.mk (And.intro q1 hbel2)
        clear q1 q2 hbel2
        go_wp2_with fail
        go_roundw
        case measure => simp [intOf]; omega
        case rel =>
          refine ⟨k + 1, (cc + x) / 10000, zs ++ [(cc + x) % 10000], by go_num, by omega, by go_num, by omega, Hid.mk (by have := HZ.out; simp; omega), Lo_snoc K.out.2.2 (Nat.mod_lt _ (by decide)), K2.out.1, K2.out.2, Hid.mk ⟨?_, .inl (by omega)⟩⟩
          rw [val_snoc, HZ.out, val_take_next, val_take_next, ← HX.out.1, getD_past ys k (by omega), Nat.pow_succ]
          exact sum_round (x := x) (y := 0) HI.out.1
    · have h1' : decide (k < xs.length) = false := decide_eq_false h1
      obtain ⟨x, hx⟩ : ∃ x, x = xs.getD k 0 := ⟨_, rfl⟩
      obtain ⟨y, hy⟩ : ∃ y, y = ys.getD k 0 := ⟨_, rfl⟩
      by_cases h2 : k < ys.length
      · obtain ⟨bb, rfl, cb⟩ := (H.out.2.1.below K.out.2.1).at_ rfl k h2
        have hyk := Lo_get H.out.2.2.2 k
        rw [← hy] at cb hyk
        have HX := Hid.mk (And.intro hx hy)
        clear hx hy
        go_wp2_with (at_builtin; refine append_digit _ rfl _ _ rfl w.heap.size _ zs rfl ?_ ⟨_, 0, none⟩ rfl ((cc + y) % 10000) ?_ ?_ ?_ ?_)
        · exact World.ownsRow.alloc K.out.1 _
        · simp [Addr.add]
        · have := HZ.out; omega
        · simp; omega
        intro v' w' q1 q2
        have hbel2 : Below w.heap.size w w' := (K.out.2.1.alloc hwr _).grown q2 (by simp; omega) (fun j hj => (World.ownsRow.lt K.out.1 j hj).1)
        have K2 := Hid.mk (And.intro q1 hbel2)
        clear q1 q2 hbel2
        go_wp2_with fail
        go_roundw
        case measure => simp [intOf]; omega
        case rel =>
          refine ⟨k + 1, (cc + y) / 10000, zs ++ [(cc + y) % 10000], by go_num, by omega, by go_num, by omega, Hid.mk (by have := HZ.out; simp; omega), Lo_snoc K.out.2.2 (Nat.mod_lt _ (by decide)), K2.out.1, K2.out.2, Hid.mk ⟨?_, .inl (by omega)⟩⟩
          rw [val_snoc, HZ.out, val_take_next, val_take_next, getD_past xs k (by omega), ← HX.out.2, Nat.pow_succ]
          exact sum_round (x := 0) (y := y) HI.out.1
      · have h2' : decide (k < ys.length) = false := decide_eq_false h2
        by_cases h3 : 0 < cc
        · have HX := Hid.mk (And.intro hx hy)
          clear hx hy
          go_wp2_with (at_builtin; refine append_digit _ rfl _ _ rfl w.heap.size _ zs rfl ?_ ⟨_, 0, none⟩ rfl ((cc) % 10000) ?_ ?_ ?_ ?_)
          · exact World.ownsRow.alloc K.out.1 _
          · simp [Addr.add]
          · have := HZ.out; omega
          · simp; omega
          intro v' w' q1 q2
          have hbel2 : Below w.heap.size w w' := (K.out.2.1.alloc hwr _).grown q2 (by simp; omega) (fun j hj => (World.ownsRow.lt K.out.1 j hj).1)
          have K2 := Hid.mk (And.intro q1 hbel2)
          clear q1 q2 hbel2
          go_wp2_with fail
          go_roundw
          case measure => simp [intOf]; omega
          case rel =>
            refine ⟨k + 1, (cc) / 10000, zs ++ [(cc) % 10000], by go_num, by omega, by go_num, by omega, Hid.mk (by have := HZ.out; simp; omega), Lo_snoc K.out.2.2 (Nat.mod_lt _ (by decide)), K2.out.1, K2.out.2, Hid.mk ⟨?_, .inr (by rw [show k + 1 - 1 = zs.length from by have := HZ.out; omega]; simp [List.getD]; omega)⟩⟩
            rw [val_snoc, HZ.out, val_take_next, val_take_next, getD_past xs k (by omega), getD_past ys k (by omega), Nat.pow_succ]
            exact sum_round (x := 0) (y := 0) HI.out.1
        · have h3' : decide (0 < cc) = false := decide_eq_false h3
          have h3'' : decide (0 < (cc : Int)) = false := decide_eq_false (by omega)
          clear hx hy
          go_wp2_with fail
          go_ret
          have h4 : cc = 0 := by omega
          refine ⟨_, rfl, ⟨zs, K.out.2.2, ?_, ?_, K.out.1.own, ?_⟩, K.out.2.1⟩
          · have hi := HI.out.1
            rw [h4, Nat.mul_zero, Nat.add_zero, List.take_of_length_le (by omega), List.take_of_length_le (by omega)] at hi
            exact hi
          · have := HZ.out; have := HN.out; omega
          · rw [HZ.out, ← HN.out]
            exact HI.out.2
theorem sum_any (v u : Value) (xs ys : List Nat) (w : World) (hv : Own w v xs) (hu : Own w u ys) (lx : Lo xs) (ly : Lo ys) (bx : xs.length ≤ 20000) (by_ : ys.length ≤ 20000) :
    Calls Tryz.prog 211 #[v, u] w fun e w' => ∃ r, e = .returned r ∧ SumOut w w' r (val xs + val ys) (max xs.length ys.length + 1) := by
  refine (sum_top v u xs ys w hv hu lx ly bx by_).mono ?_
  rintro e w' ⟨r, rfl, ⟨zs, h1, h2, h3, h4, -⟩, hb⟩
  exact ⟨r, rfl, ⟨zs, h1, h2, h3, h4⟩, hb⟩
/-- A plain row of digits of the call's own. -/
def LimOut (w w' : World) (v : Value) (n L : Nat) : Prop := (∃ zs, Lim zs ∧ val zs = n ∧ zs.length ≤ L ∧ Own w' v zs) ∧ Below w.heap.size w w'
theorem lim_of_ge {zs : List Nat} (h : Lo zs) (hv : zs = [] ∨ 10000 ^ (zs.length - 1) ≤ val zs) : Lim zs := by
  refine ⟨h, ?_⟩
  rcases hv with h0 | h0
  · exact .inl h0
  · by_cases hz : zs = []
    · exact .inl hz
    · refine .inr ?_
      have hl : 0 < zs.length := List.length_pos_iff.2 hz
      rcases Nat.eq_zero_or_pos (zs.getD (zs.length - 1) 0) with h1 | h1
      · exfalso
        have h2 := val_take_next zs (zs.length - 1)
        rw [show zs.length - 1 + 1 = zs.length from by omega, List.take_of_length_le (Nat.le_refl _), h1, Nat.mul_zero, Nat.add_zero] at h2
        have h3 := val_lt (Lo_take h (zs.length - 1))
        rw [List.length_take, Nat.min_eq_left (by omega)] at h3
        omega
      · exact h1
theorem sum_lim (v u : Value) (xs ys : List Nat) (w : World) (hv : Own w v xs) (hu : Own w u ys) (lx : Lim xs) (ly : Lim ys) (bx : xs.length ≤ 20000) (by_ : ys.length ≤ 20000) :
    Calls Tryz.prog 211 #[v, u] w fun e w' => ∃ r, e = .returned r ∧ LimOut w w' r (val xs + val ys) (max xs.length ys.length + 1) := by
  refine (sum_top v u xs ys w hv hu lx.1 ly.1 bx by_).mono ?_
  rintro e w' ⟨r, rfl, ⟨zs, h1, h2, h3, h4, h5⟩, hb⟩
  refine ⟨r, rfl, ⟨zs, ?_, h2, h3, h4⟩, hb⟩
  rcases h5 with h5 | h5
  · refine lim_of_ge h1 ?_
    by_cases hz : zs = []
    · exact .inl hz
    · have hl : 0 < zs.length := List.length_pos_iff.2 hz
      refine .inr ?_
      rw [h2]
      by_cases hm : ys.length ≤ xs.length
      · have hne : xs ≠ [] := by intro e; rw [e] at hm h5; simp at hm; rw [hm] at h5; simp at h5; exact hz h5
        have h6 := Lim_ge lx hne
        have h7 : 10000 ^ (zs.length - 1) ≤ 10000 ^ (xs.length - 1) := Nat.pow_le_pow_right (by decide) (by omega)
        omega
      · have hne : ys ≠ [] := by intro e; rw [e] at hm; simp at hm
        have h6 := Lim_ge ly hne
        have h7 : 10000 ^ (zs.length - 1) ≤ 10000 ^ (ys.length - 1) := Nat.pow_le_pow_right (by decide) (by omega)
        omega
  · exact ⟨h1, .inr h5⟩
end Go.Proofs.YtmijbimanaalbaaGreatDoor.R

/- matricesref: less. -/
namespace Go.Proofs.YtmijbimanaalbaaGreatDoor.R
open Go.RowKit

set_option maxRecDepth 100000 in
set_option maxHeartbeats 2000000 in
theorem less_lim (v u : Value) (xs ys : List Nat) (w : World) (hv : Own w v xs) (hu : Own w u ys) (lx : Lo xs) (ly : Lo ys) (bx : xs.length ≤ 20000) (hl : ys.length ≤ xs.length) (hle : val ys ≤ val xs) :
    Calls Tryz.prog 212 #[v, u] w fun e w' => ∃ r, e = .returned r ∧ LimOut w w' r (val xs - val ys) xs.length := by
  obtain ⟨ao, cap, rfl, hc, hm, -⟩ := hv.open_
  obtain ⟨bo, dap, rfl, hd, hn, -⟩ := hu.open_
  have H := Hid.mk (And.intro hv (And.intro hu (And.intro lx (And.intro ly hle))))
  clear hv hu lx ly hle
  go_enter Tryz.func212, Tryz.ntmps212
  go_wp2_with fail
  go_loopw [5, 6, 7] (fun out c i wr => ∃ (k bw : Nat) (zs : List Nat), k ≤ xs.length ∧ i = .int .i64 k ∧ bw ≤ 1 ∧ c = .int .i64 bw ∧ Hid (zs.length = k) ∧ Lo zs ∧ OwnB w.heap.size wr out zs ∧ Below w.heap.size w wr ∧
      Hid (val zs + val (ys.take k) = val (xs.take k) + 10000 ^ k * bw)) (fun _ _ i _ => xs.length - (intOf i).toNat)
  case atStart => exact ⟨0, 0, [], Nat.zero_le _, rfl, by omega, rfl, Hid.mk rfl, Lo_nil, World.ownsRow_nil _ _ _ _, Below.refl _ _, Hid.mk (by simp [val])⟩
  case round =>
    obtain ⟨k, bw, zs, hk, rfl, hbw, rfl, HZ, hlo, hown, hbel, HI⟩ := hrel
    have hwr := hbel.size
    have K := Hid.mk (And.intro hown (And.intro hbel hlo))
    clear hown hbel hlo
    by_cases h1 : k < xs.length
    · obtain ⟨ba, rfl, ca⟩ := (H.out.1.below K.out.2.1).at_ rfl k h1
      have hxk := Lo_get H.out.2.2.1 k
      obtain ⟨x, hx⟩ : ∃ x, x = xs.getD k 0 := ⟨_, rfl⟩
      obtain ⟨y, hy⟩ : ∃ y, y = ys.getD k 0 := ⟨_, rfl⟩
      rw [← hx] at ca hxk
      by_cases h2 : k < ys.length
      · obtain ⟨bb, rfl, cb⟩ := (H.out.2.1.below K.out.2.1).at_ rfl k h2
        have hyk := Lo_get H.out.2.2.2.1 k
        rw [← hy] at cb hyk
        have HX := Hid.mk (And.intro hx hy)
        clear hx hy
        by_cases h3 : x < y + bw
        · have h3' : (x : Int) - (bw : Int) - (y : Int) < 0 := by omega
          go_wp2_with (at_builtin; refine append_digit _ rfl _ _ rfl w.heap.size _ zs rfl ?_ ⟨_, 0, none⟩ rfl (x + 10000 - (y + bw)) ?_ ?_ ?_ ?_)
          · exact World.ownsRow.alloc K.out.1 _
          · simp [Addr.add]; omega
          · have := HZ.out; omega
          · simp; omega
          intro v' w' q1 q2
          have hbel2 : Below w.heap.size w w' := (K.out.2.1.alloc hwr _).grown q2 (by simp; omega) (fun j hj => (World.ownsRow.lt K.out.1 j hj).1)
          have K2 := Hid.mk (And.intro q1 hbel2)
          clear q1 q2 hbel2
          go_wp2_with fail
          go_roundw
          case measure => simp [intOf]; omega
          case rel =>
            refine ⟨k + 1, 1, zs ++ [x + 10000 - (y + bw)], by omega, by go_num, by omega, by go_num, Hid.mk (by have := HZ.out; simp; omega), Lo_snoc K.out.2.2 (by omega), K2.out.1, K2.out.2, Hid.mk ?_⟩
            have hr := sub_round (x := x) (y := y) HI.out hxk hyk hbw
            rw [if_pos (by omega), if_pos (by omega)] at hr
            rw [val_snoc, HZ.out, val_take_next, val_take_next, ← HX.out.1, ← HX.out.2, Nat.pow_succ]
            omega
        · have h3' : decide ((x : Int) - (bw : Int) - (y : Int) < 0) = false := decide_eq_false (by omega)
          go_wp2_with (at_builtin; refine append_digit _ rfl _ _ rfl w.heap.size _ zs rfl ?_ ⟨_, 0, none⟩ rfl (x - (y + bw)) ?_ ?_ ?_ ?_)
          · exact World.ownsRow.alloc K.out.1 _
          · simp [Addr.add]; omega
          · have := HZ.out; omega
          · simp; omega
          intro v' w' q1 q2
          have hbel2 : Below w.heap.size w w' := (K.out.2.1.alloc hwr _).grown q2 (by simp; omega) (fun j hj => (World.ownsRow.lt K.out.1 j hj).1)
          have K2 := Hid.mk (And.intro q1 hbel2)
          clear q1 q2 hbel2
          go_wp2_with fail
          go_roundw
          case measure => simp [intOf]; omega
          case rel =>
            refine ⟨k + 1, 0, zs ++ [x - (y + bw)], by omega, by go_num, by omega, by go_num, Hid.mk (by have := HZ.out; simp; omega), Lo_snoc K.out.2.2 (by omega), K2.out.1, K2.out.2, Hid.mk ?_⟩
            have hr := sub_round (x := x) (y := y) HI.out hxk hyk hbw
            rw [if_neg (by omega), if_neg (by omega)] at hr
            rw [val_snoc, HZ.out, val_take_next, val_take_next, ← HX.out.1, ← HX.out.2, Nat.pow_succ]
            omega
      · have h2' : decide (k < ys.length) = false := decide_eq_false h2
        have HX := Hid.mk (And.intro hx hy)
        clear hx hy
        by_cases h3 : x < bw
        · have h3' : (x : Int) - (bw : Int) < 0 := by omega
          go_wp2_with (at_builtin; refine append_digit _ rfl _ _ rfl w.heap.size _ zs rfl ?_ ⟨_, 0, none⟩ rfl (x + 10000 - bw) ?_ ?_ ?_ ?_)
          · exact World.ownsRow.alloc K.out.1 _
          · simp [Addr.add]; omega
          · have := HZ.out; omega
          · simp; omega
          intro v' w' q1 q2
          have hbel2 : Below w.heap.size w w' := (K.out.2.1.alloc hwr _).grown q2 (by simp; omega) (fun j hj => (World.ownsRow.lt K.out.1 j hj).1)
          have K2 := Hid.mk (And.intro q1 hbel2)
          clear q1 q2 hbel2
          go_wp2_with fail
          go_roundw
          case measure => simp [intOf]; omega
          case rel =>
            refine ⟨k + 1, 1, zs ++ [x + 10000 - bw], by omega, by go_num, by omega, by go_num, Hid.mk (by have := HZ.out; simp; omega), Lo_snoc K.out.2.2 (by omega), K2.out.1, K2.out.2, Hid.mk ?_⟩
            have hr := sub_round (x := x) (y := 0) HI.out hxk (by omega) hbw
            simp only [Nat.zero_add, Nat.mul_zero, Nat.add_zero] at hr
            rw [if_pos (by omega), if_pos (by omega)] at hr
            rw [val_snoc, HZ.out, val_take_next, val_take_next, ← HX.out.1, getD_past ys k (by omega), Nat.pow_succ, Nat.mul_zero, Nat.add_zero]
            omega
        · have h3' : decide ((x : Int) - (bw : Int) < 0) = false := decide_eq_false (by omega)
          go_wp2_with (at_builtin; refine append_digit _ rfl _ _ rfl w.heap.size _ zs rfl ?_ ⟨_, 0, none⟩ rfl (x - bw) ?_ ?_ ?_ ?_)
          · exact World.ownsRow.alloc K.out.1 _
          · simp [Addr.add]; omega
          · have := HZ.out; omega
          · simp; omega
          intro v' w' q1 q2
          have hbel2 : Below w.heap.size w w' := (K.out.2.1.alloc hwr _).grown q2 (by simp; omega) (fun j hj => (World.ownsRow.lt K.out.1 j hj).1)
          have K2 := Hid.mk (And.intro q1 hbel2)
          clear q1 q2 hbel2
          go_wp2_with fail
          go_roundw
          case measure => simp [intOf]; omega
          case rel =>
            refine ⟨k + 1, 0, zs ++ [x - bw], by omega, by go_num, by omega, by go_num, Hid.mk (by have := HZ.out; simp; omega), Lo_snoc K.out.2.2 (by omega), K2.out.1, K2.out.2, Hid.mk ?_⟩
            have hr := sub_round (x := x) (y := 0) HI.out hxk (by omega) hbw
            simp only [Nat.zero_add, Nat.mul_zero, Nat.add_zero] at hr
            rw [if_neg (by omega), if_neg (by omega)] at hr
            rw [val_snoc, HZ.out, val_take_next, val_take_next, ← HX.out.1, getD_past ys k (by omega), Nat.pow_succ, Nat.mul_zero, Nat.add_zero]
            omega
    · have hke : k = xs.length := by omega
      go_wp2_with fail
      refine (plain_any _ zs _ K.out.1.own K.out.2.2).mono ?_
      rintro e w' ⟨⟨r, rfl, hr⟩, rfl⟩
      have HR := Hid.mk hr
      clear hr
      go_wp2_with fail
      go_ret
      obtain ⟨rs, r1, r2, r3, r4⟩ := HR.out
      refine ⟨_, rfl, ⟨rs, r1, ?_, by have := HZ.out; omega, r4 _ K.out.1.own⟩, K.out.2.1⟩
      have hi := HI.out
      rw [hke, List.take_of_length_le (Nat.le_refl _), List.take_of_length_le (by omega)] at hi
      rw [r2]
      exact sub_end K.out.2.2 (by rw [HZ.out, hke]) H.out.2.2.2.2 hi
theorem less_any (v u : Value) (xs ys : List Nat) (w : World) (hv : Own w v xs) (hu : Own w u ys) (lx : Lo xs) (ly : Lo ys) (bx : xs.length ≤ 20000) (hl : ys.length ≤ xs.length) (hle : val ys ≤ val xs) :
    Calls Tryz.prog 212 #[v, u] w fun e w' => ∃ r, e = .returned r ∧ SumOut w w' r (val xs - val ys) xs.length := by
  refine (less_lim v u xs ys w hv hu lx ly bx hl hle).mono ?_
  rintro e w' ⟨r, rfl, ⟨zs, h1, h2, h3, h4⟩, hb⟩
  exact ⟨r, rfl, ⟨zs, h1.1, h2, h3, h4⟩, hb⟩
end Go.Proofs.YtmijbimanaalbaaGreatDoor.R
