import Derived.Test.YtjhcbenldfplcaaGreatDoorC39
import Derived.BigQuiet
import Derived.Deep.RegionWith
/- matricesref: Same. -/
namespace Go.Proofs.YtjhcbenldfplcaaGreatDoor.R
open Go.RowKit

def SameP (r c : Nat) (f : Nat → Nat → Int) (r' c' : Nat) (f' : Nat → Nat → Int) : Prop := r = r' ∧ c = c' ∧ ∀ i j, i < r → j < c → f i j = f' i j
set_option maxRecDepth 100000 in
set_option maxHeartbeats 4000000 in
theorem same_yes (b r c : Nat) (gs : Nat → Nat) (f : Nat → Nat → Int) (B b' : Nat) (gs' : Nat → Nat) (f' : Nat → Nat → Int) (B' L : Nat) (w : World) (h : IsR B w b r c gs f L) (h' : IsR B' w b' r c gs' f' L) (he : ∀ i j, i < r → j < c → f i j = f' i j) (hL : L ≤ 20000) (hr : r ≤ 99) (hc : c ≤ 99) :
    Calls Tryz.prog 34 #[.pointer (some ⟨b, 0, none⟩), .pointer (some ⟨b', 0, none⟩)] w fun e w' => e = .returned (.bool true) ∧ Below w.heap.size w w' := by
  have H := Hid.mk (And.intro h (And.intro h' he))
  obtain ⟨hbl, ao, cap, c0, c1, c2, -⟩ := h.open_
  obtain ⟨hbl', ao', cap', d0, d1, d2, -⟩ := h'.open_
  clear h h' he
  have ir : ((r : Int) == (r : Int)) = true := by simp
  have ic : ((c : Int) == (c : Int)) = true := by simp
  go_enter Tryz.func34, Tryz.ntmps34
  go_wp2_with fail
  go_quiet (fail)
  go_wp2_with fail
  go_loopw [5] (fun i wr => ∃ k : Nat, k ≤ r ∧ i = .int .i64 k ∧ Below w.heap.size w wr) (fun i _ => r - (intOf i).toNat)
  case atStart => exact ⟨0, Nat.zero_le _, rfl, below_drewN (Below.refl _ _) _⟩
  case round =>
    rename World => wr0
    obtain ⟨k, hk, rfl, hbel⟩ := hrel
    clear c0 c1 c2 d0 d1 d2
    obtain ⟨-, ao, cap, c0, c1, c2, -⟩ := (H.out.1.keep (KR.of_below hbel)).open_
    have HB := Hid.mk hbel
    clear hbel
    by_cases hkr : k < r
    · go_wp2_with fail
      go_loopw [6] (fun j wr => ∃ q : Nat, q ≤ c ∧ j = .int .i64 q ∧ Below w.heap.size w wr) (fun j _ => c - (intOf j).toNat)
      case atStart => exact ⟨0, Nat.zero_le _, rfl, HB.out⟩
      case round =>
        obtain ⟨q, hq, rfl, hbel⟩ := hrel
        clear c0 c1 c2
        obtain ⟨-, ao, cap, c0, c1, c2, c3, c4, c5, c6⟩ := (H.out.1.keep (KR.of_below hbel)).open_
        obtain ⟨-, ao', cap', d0, d1, d2, d3, d4, d5, d6⟩ := (H.out.2.1.keep (KR.of_below hbel)).open_
        have HB2 := Hid.mk hbel
        clear hbel
        by_cases hqc : q < c
        · obtain ⟨gL, rfl, y1⟩ := c5 k hkr
          obtain ⟨nb, so, n, cp, y2, y3, -, -, hN⟩ := c6 k q hkr hqc
          obtain ⟨gL', rfl, z1⟩ := d5 k hkr
          obtain ⟨nb', so', n', cp', z2, z3, -, -, hN'⟩ := d6 k q hkr hqc
          rw [Nat.mul_comm 2] at y2 y3 z2 z3
          have HN := Hid.mk (And.intro hN hN')
          have hki : (k : Int) < (r : Int) := by omega
          have hqi : (q : Int) < (c : Int) := by omega
          clear hN hN' c5 c6 d5 d6
          go_upto_region 9 with fail
          go_cut [7] from 44 to 64 (fun o wx => o = .int .i64 0 ∧ Below w.heap.size w wx)
          case first =>
            go_region_with (go_at_call 72; go_must (refine (order_any _ _ (f k q) (f' k q) L L _ (HN.out.1.below ((Below.refl _ _).drew)) (HN.out.2.below ((Below.refl _ _).drew)) hL hL).mono ?_; rintro e w2 ⟨rfl, hb2⟩))
            all_goals
              go_wp2_with fail
              go_meet
              case rel =>
                refine ⟨?_, HB2.out.trans (((Below.refl wr.heap.size wr).drew.trans hb2).mono HB2.out.size)⟩
                rw [H.out.2.2 k q hkr hqc, Int.sub_self]
                rfl
          case rest =>
            obtain ⟨rfl, hbc⟩ := hcut
            have HB3 := Hid.mk hbc
            clear hbc c0 c1 c2 d0 d1 d2 y1 y2 y3 z1 z2 z3
            go_wp2_with fail
            go_roundw
            case measure => simp [intOf]; omega
            case rel => exact ⟨q + 1, by omega, by go_num, HB3.out⟩
        · clear c5 c6 d5 d6
          go_wp2_with fail
          go_roundw
          case measure => simp [intOf]; omega
          case rel => exact ⟨k + 1, by omega, by go_num, HB2.out⟩
    · go_wp2_with fail
      go_ret
      exact ⟨rfl, HB.out⟩
end Go.Proofs.YtjhcbenldfplcaaGreatDoor.R
