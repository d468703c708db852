import Derived.Test.YtjhcbenldfplcaaGreatDoorC23
/- matricesref: less. -/
namespace Go.Proofs.YtjhcbenldfplcaaGreatDoor.R
open Go.RowKit

set_option maxRecDepth 100000 in
set_option maxHeartbeats 2000000 in
theorem less_any (v u : Value) (xs ys : List Nat) (w : World) (hv : Own w v xs) (hu : Own w u ys) (lx : Lo xs) (ly : Lo ys) (bx : xs.length ≤ 20000) (hl : ys.length ≤ xs.length) (hle : val ys ≤ val xs) :
    Calls Tryz.prog 120 #[v, u] w fun e w' => ∃ r, e = .returned r ∧ SumOut w w' r (val xs - val ys) xs.length := by
  obtain ⟨ao, cap, rfl, hc, hm, -⟩ := hv.open_
  obtain ⟨bo, dap, rfl, hd, hn, -⟩ := hu.open_
  have H := Hid.mk (And.intro hv (And.intro hu (And.intro lx (And.intro ly hle))))
  clear hv hu lx ly hle
  go_enter Tryz.func120, Tryz.ntmps120
  go_wp2_with fail
  go_loopw [5, 6, 7] (fun out c i wr => ∃ (k bw : Nat) (zs : List Nat), k ≤ xs.length ∧ i = .int .i64 k ∧ bw ≤ 1 ∧ c = .int .i64 bw ∧ Hid (zs.length = k) ∧ Lo zs ∧ OwnB w.heap.size wr out zs ∧ Below w.heap.size w wr ∧
      Hid (val zs + val (ys.take k) = val (xs.take k) + 10000 ^ k * bw)) (fun _ _ i _ => xs.length - (intOf i).toNat)
  case atStart => exact ⟨0, 0, [], Nat.zero_le _, rfl, by omega, rfl, Hid.mk rfl, Lo_nil, World.ownsRow_nil _ _ _ _, Below.refl _ _, Hid.mk (by simp [val])⟩
  case round =>
    obtain ⟨k, bw, zs, hk, rfl, hbw, rfl, HZ, hlo, hown, hbel, HI⟩ := hrel
    have hwr := hbel.size
    have K := Hid.mk (And.intro hown (And.intro hbel hlo))
    clear hown hbel hlo
    by_cases h1 : k < xs.length
    · obtain ⟨ba, rfl, ca⟩ := (H.out.1.below K.out.2.1).at_ rfl k h1
      have hxk := Lo_get H.out.2.2.1 k
      obtain ⟨x, hx⟩ : ∃ x, x = xs.getD k 0 := ⟨_, rfl⟩
      obtain ⟨y, hy⟩ : ∃ y, y = ys.getD k 0 := ⟨_, rfl⟩
      rw [← hx] at ca hxk
      by_cases h2 : k < ys.length
      · obtain ⟨bb, rfl, cb⟩ := (H.out.2.1.below K.out.2.1).at_ rfl k h2
        have hyk := Lo_get H.out.2.2.2.1 k
        rw [← hy] at cb hyk
        have HX := Hid.mk (And.intro hx hy)
        clear hx hy
        by_cases h3 : x < y + bw
        · have h3' : (x : Int) - (bw : Int) - (y : Int) < 0 := by omega
          go_wp2_with (at_builtin; refine append_digit _ rfl _ _ rfl w.heap.size _ zs rfl ?_ ⟨_, 0, none⟩ rfl (x + 10000 - (y + bw)) ?_ ?_ ?_ ?_)
          · exact World.ownsRow.alloc K.out.1 _
          · simp [Addr.add]; omega
          · have := HZ.out; omega
          · simp; omega
          intro v' w' q1 q2
          have hbel2 : Below w.heap.size w w' := (K.out.2.1.alloc hwr _).grown q2 (by simp; omega) (fun j hj => (World.ownsRow.lt K.out.1 j hj).1)
          have K2 := Hid.mk (And.intro q1 hbel2)
          clear q1 q2 hbel2
          go_wp2_with fail
          go_roundw
          case measure => simp [intOf]; omega
          case rel =>
            refine ⟨k + 1, 1, zs ++ [x + 10000 - (y + bw)], by omega, by go_num, by omega, by go_num, Hid.mk (by have := HZ.out; simp; omega), Lo_snoc K.out.2.2 (by omega), K2.out.1, K2.out.2, Hid.mk ?_⟩
            have hr := sub_round (x := x) (y := y) HI.out hxk hyk hbw
            rw [if_pos (by omega), if_pos (by omega)] at hr
            rw [val_snoc, HZ.out, val_take_next, val_take_next, ← HX.out.1, ← HX.out.2, Nat.pow_succ]
            omega
        · have h3' : decide ((x : Int) - (bw : Int) - (y : Int) < 0) = false := decide_eq_false (by omega)
          go_wp2_with (at_builtin; refine append_digit _ rfl _ _ rfl w.heap.size _ zs rfl ?_ ⟨_, 0, none⟩ rfl (x - (y + bw)) ?_ ?_ ?_ ?_)
          · exact World.ownsRow.alloc K.out.1 _
          · simp [Addr.add]; omega
          · have := HZ.out; omega
          · simp; omega
          intro v' w' q1 q2
          have hbel2 : Below w.heap.size w w' := (K.out.2.1.alloc hwr _).grown q2 (by simp; omega) (fun j hj => (World.ownsRow.lt K.out.1 j hj).1)
          have K2 := Hid.mk (And.intro q1 hbel2)
          clear q1 q2 hbel2
          go_wp2_with fail
          go_roundw
          case measure => simp [intOf]; omega
          case rel =>
            refine ⟨k + 1, 0, zs ++ [x - (y + bw)], by omega, by go_num, by omega, by go_num, Hid.mk (by have := HZ.out; simp; omega), Lo_snoc K.out.2.2 (by omega), K2.out.1, K2.out.2, Hid.mk ?_⟩
            have hr := sub_round (x := x) (y := y) HI.out hxk hyk hbw
            rw [if_neg (by omega), if_neg (by omega)] at hr
            rw [val_snoc, HZ.out, val_take_next, val_take_next, ← HX.out.1, ← HX.out.2, Nat.pow_succ]
            omega
      · have h2' : decide (k < ys.length) = false := decide_eq_false h2
        have HX := Hid.mk (And.intro hx hy)
        clear hx hy
        by_cases h3 : x < bw
        · have h3' : (x : Int) - (bw : Int) < 0 := by omega
          go_wp2_with (at_builtin; refine append_digit _ rfl _ _ rfl w.heap.size _ zs rfl ?_ ⟨_, 0, none⟩ rfl (x + 10000 - bw) ?_ ?_ ?_ ?_)
          · exact World.ownsRow.alloc K.out.1 _
          · simp [Addr.add]; omega
          · have := HZ.out; omega
          · simp; omega
          intro v' w' q1 q2
          have hbel2 : Below w.heap.size w w' := (K.out.2.1.alloc hwr _).grown q2 (by simp; omega) (fun j hj => (World.ownsRow.lt K.out.1 j hj).1)
          have K2 := Hid.mk (And.intro q1 hbel2)
          clear q1 q2 hbel2
          go_wp2_with fail
          go_roundw
          case measure => simp [intOf]; omega
          case rel =>
            refine ⟨k + 1, 1, zs ++ [x + 10000 - bw], by omega, by go_num, by omega, by go_num, Hid.mk (by have := HZ.out; simp; omega), Lo_snoc K.out.2.2 (by omega), K2.out.1, K2.out.2, Hid.mk ?_⟩
            have hr := sub_round (x := x) (y := 0) HI.out hxk (by omega) hbw
            simp only [Nat.zero_add, Nat.mul_zero, Nat.add_zero] at hr
            rw [if_pos (by omega), if_pos (by omega)] at hr
            rw [val_snoc, HZ.out, val_take_next, val_take_next, ← HX.out.1, getD_past ys k (by omega), Nat.pow_succ, Nat.mul_zero, Nat.add_zero]
            omega
        · have h3' : decide ((x : Int) - (bw : Int) < 0) = false := decide_eq_false (by omega)
          go_wp2_with (at_builtin; refine append_digit _ rfl _ _ rfl w.heap.size _ zs rfl ?_ ⟨_, 0, none⟩ rfl (x - bw) ?_ ?_ ?_ ?_)
          · exact World.ownsRow.alloc K.out.1 _
          · simp [Addr.add]; omega
          · have := HZ.out; omega
          · simp; omega
          intro v' w' q1 q2
          have hbel2 : Below w.heap.size w w' := (K.out.2.1.alloc hwr _).grown q2 (by simp; omega) (fun j hj => (World.ownsRow.lt K.out.1 j hj).1)
          have K2 := Hid.mk (And.intro q1 hbel2)
          clear q1 q2 hbel2
          go_wp2_with fail
          go_roundw
          case measure => simp [intOf]; omega
          case rel =>
            refine ⟨k + 1, 0, zs ++ [x - bw], by omega, by go_num, by omega, by go_num, Hid.mk (by have := HZ.out; simp; omega), Lo_snoc K.out.2.2 (by omega), K2.out.1, K2.out.2, Hid.mk ?_⟩
            have hr := sub_round (x := x) (y := 0) HI.out hxk (by omega) hbw
            simp only [Nat.zero_add, Nat.mul_zero, Nat.add_zero] at hr
            rw [if_neg (by omega), if_neg (by omega)] at hr
            rw [val_snoc, HZ.out, val_take_next, val_take_next, ← HX.out.1, getD_past ys k (by omega), Nat.pow_succ, Nat.mul_zero, Nat.add_zero]
            omega
    · have hke : k = xs.length := by omega
      go_wp2_with fail
      refine (plain_any _ zs _ K.out.1.own K.out.2.2).mono ?_
      rintro e w' ⟨⟨r, rfl, hr⟩, rfl⟩
      have HR := Hid.mk hr
      clear hr
      go_wp2_with fail
      go_ret
      obtain ⟨rs, r1, r2, r3, r4⟩ := HR.out
      refine ⟨_, rfl, ⟨rs, r1.1, ?_, by have := HZ.out; omega, r4 _ K.out.1.own⟩, K.out.2.1⟩
      have hi := HI.out
      rw [hke, List.take_of_length_le (Nat.le_refl _), List.take_of_length_le (by omega)] at hi
      rw [r2]
      exact sub_end K.out.2.2 (by rw [HZ.out, hke]) H.out.2.2.2.2 hi
end Go.Proofs.YtjhcbenldfplcaaGreatDoor.R
