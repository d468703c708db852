import Derived.Test.YtjhcbenldfplcaaGreatDoorC38
/- matricesref: Big. -/
namespace Go.Proofs.YtjhcbenldfplcaaGreatDoor.R
open Go.RowKit

/-- The matrix is too great. -/
def BigP (r c : Nat) (f : Nat → Nat → Int) : Prop := 4 < r ∨ 4 < c ∨ ∃ i j, i < r ∧ j < c ∧ 281474976710656 ≤ (f i j).natAbs
def BigOut (r c : Nat) (f : Nat → Nat → Int) (b : Bool) : Prop := b = true ↔ BigP r c f
set_option maxRecDepth 100000 in
set_option maxHeartbeats 4000000 in
theorem big_any (b r c : Nat) (gs : Nat → Nat) (f : Nat → Nat → Int) (B L : Nat) (w : World) (h : IsR B w b r c gs f L) (hL : L ≤ 20000) (hr : r ≤ 99) (hc : c ≤ 99) :
    Calls Tryz.prog 31 #[.pointer (some ⟨b, 0, none⟩), .int .i64 4, .int .i64 48] w fun e w' => ∃ x, e = .returned (.bool x) ∧ BigOut r c f x ∧ Below w.heap.size w w' := by
  have H := Hid.mk h
  obtain ⟨hbl, ao, cap, c0, c1, c2, -⟩ := h.open_
  clear h
  by_cases hr4 : r ≤ 4
  · by_cases hc4 : c ≤ 4
    · have i1 : decide ((4 : Int) < (r : Int)) = false := decide_eq_false (by omega)
      have i2 : decide ((4 : Int) < (c : Int)) = false := decide_eq_false (by omega)
      go_enter Tryz.func31, Tryz.ntmps31
      go_wp2_with fail
      go_loopw [7] (fun i wr => ∃ k : Nat, k ≤ r ∧ i = .int .i64 k ∧ Below w.heap.size w wr ∧ Hid (∀ a j, a < k → j < c → (f a j).natAbs < 281474976710656)) (fun i _ => r - (intOf i).toNat)
      case atStart => exact ⟨0, Nat.zero_le _, rfl, Below.refl _ _, Hid.mk (fun a j ha => by omega)⟩
      case round =>
        rename World => wr0
        obtain ⟨k, hk, rfl, hbel, HI⟩ := hrel
        clear c0 c1 c2
        obtain ⟨-, ao, cap, c0, c1, c2, -⟩ := (H.out.keep (KR.of_below hbel)).open_
        have HB := Hid.mk hbel
        clear hbel
        by_cases hkr : k < r
        · go_wp2_with fail
          go_loopw [8] (fun j wr => ∃ q : Nat, q ≤ c ∧ j = .int .i64 q ∧ Below w.heap.size w wr ∧ Hid (∀ j, j < q → (f k j).natAbs < 281474976710656)) (fun j _ => c - (intOf j).toNat)
          case atStart => exact ⟨0, Nat.zero_le _, rfl, HB.out, Hid.mk (fun j hj => by omega)⟩
          case round =>
            obtain ⟨q, hq, rfl, hbel, HJ⟩ := hrel
            clear c0 c1 c2
            obtain ⟨-, ao, cap, c0, c1, c2, c3, c4, c5, c6⟩ := (H.out.keep (KR.of_below hbel)).open_
            have HB2 := Hid.mk hbel
            clear hbel
            by_cases hqc : q < c
            · obtain ⟨gL, rfl, y1⟩ := c5 k hkr
              obtain ⟨nb, so, n, cp, y2, y3, -, -, hN⟩ := c6 k q hkr hqc
              rw [Nat.mul_comm 2] at y2 y3
              have HN := Hid.mk hN
              clear hN c5 c6
              go_wp2_with fail
              refine (wide_any _ (f k q) L 48 _ HN.out hL (by omega)).mono ?_
              rintro e w2 ⟨rfl, hb2⟩
              have hB2 : Below w.heap.size w w2 := HB2.out.trans (hb2.mono HB2.out.size)
              have HB3 := Hid.mk hB2
              clear hb2 hB2
              by_cases hw : 2 ^ 48 ≤ (f k q).natAbs
              · have hd : decide (2 ^ 48 ≤ (f k q).natAbs) = true := decide_eq_true hw
                have HW := Hid.mk hw
                rw [hd]
                clear hd hw
                go_wp2_with fail
                go_ret
                exact ⟨_, rfl, ⟨fun _ => .inr (.inr ⟨k, q, hkr, hqc, HW.out⟩), fun _ => rfl⟩, HB3.out⟩
              · have hd : decide (2 ^ 48 ≤ (f k q).natAbs) = false := decide_eq_false hw
                have HW := Hid.mk hw
                rw [hd]
                clear hd hw
                go_wp2_with fail
                go_roundw
                case measure => simp [intOf]; omega
                case rel =>
                  refine ⟨q + 1, by omega, by go_num, HB3.out, Hid.mk (fun j hj => ?_)⟩
                  by_cases hjq : j = q
                  · rw [hjq]; have := HW.out; omega
                  · exact HJ.out j (by omega)
            · have hqe : q = c := by omega
              have HQ := Hid.mk hqe
              clear hqe c5 c6
              go_wp2_with fail
              go_roundw
              case measure => simp [intOf]; omega
              case rel =>
                refine ⟨k + 1, by omega, by go_num, HB2.out, Hid.mk (fun a j ha hj => ?_)⟩
                by_cases hak : a = k
                · rw [hak]; exact HJ.out j (by have := HQ.out; omega)
                · exact HI.out a j (by omega) hj
        · have hke : k = r := by omega
          have HK := Hid.mk hke
          clear hke
          go_wp2_with fail
          go_ret
          refine ⟨_, rfl, ⟨(fun h => by cases h), fun h => ?_⟩, HB.out⟩
          exfalso
          rcases h with h | h | ⟨i, j, hi, hj, h⟩
          · omega
          · omega
          · have := HI.out i j (by have := HK.out; omega) hj
            omega
    · have hci : (4 : Int) < (c : Int) := by omega
      have i1 : decide ((4 : Int) < (r : Int)) = false := decide_eq_false (by omega)
      have HC := Hid.mk hc4
      clear hc4
      go_enter Tryz.func31, Tryz.ntmps31
      go_wp2_with fail
      go_ret
      exact ⟨_, rfl, ⟨fun _ => .inr (.inl (by have := HC.out; omega)), fun _ => rfl⟩, Below.refl _ _⟩
  · have hri : (4 : Int) < (r : Int) := by omega
    have HR := Hid.mk hr4
    clear hr4
    go_enter Tryz.func31, Tryz.ntmps31
    go_wp2_with fail
    go_ret
    exact ⟨_, rfl, ⟨fun _ => .inl (by have := HR.out; omega), fun _ => rfl⟩, Below.refl _ _⟩
end Go.Proofs.YtjhcbenldfplcaaGreatDoor.R
