/- whole.lessAmount. -/
import Derived.Test.YtjhcbenldfplcaaDoorTrim
import Derived.Deep.QuietTactic
import Derived.BigQuiet
namespace Go.Proofs.YtjhcbenldfplcaaDoor
open Go.RowKit

theorem drop_all_eq {xs ys : List Nat} (h : xs.drop 0 = ys.drop 0) : xs = ys := by simpa using h
set_option maxHeartbeats 400000 in
theorem lessAmount_any (v u : Value) (xs ys : List Nat) (w : World) (hv : Own w v xs) (hu : Own w u ys) (lx : Lim xs) (ly : Lim ys) :
    Calls Tryd.prog 49 #[v, u] w fun e w' => e = .returned (.bool (decide (val xs < val ys))) ∧ ∃ n, w' = w.drewN n := by
  obtain ⟨ao, cap, rfl, hc, hm, hcell, hnil, _⟩ := hv.open_
  obtain ⟨bo, dap, rfl, hd, hn, hdell, hdil, _⟩ := hu.open_
  clear hv hu hnil hdil
  by_cases hl : xs.length = ys.length
  · have HL := Hid.mk hl
    have hb : ((xs.length : Int) != (ys.length : Int)) = false := by simp [hl]
    clear hl
    go_enter Tryd.func49, Tryd.ntmps49
    go_wp2
    go_loopw [5] (fun i wr => ∃ k : Nat, k ≤ xs.length ∧ i = .int .i64 ((k : Int) - 1) ∧ (∃ n, wr = w.drewN n) ∧ Hid (xs.drop k = ys.drop k)) (fun i _ => (intOf i + 1).toNat)
    case atStart => exact ⟨xs.length, Nat.le_refl _, rfl, ⟨0, rfl⟩, by rw [show xs.drop xs.length = [] from by simp, show ys.drop xs.length = [] from by rw [HL.out]; simp]; rfl⟩
    case round =>
      obtain ⟨k, hk, rfl, ⟨n, rfl⟩, HD⟩ := hrel
      by_cases h0 : k = 0
      · subst h0
        go_wp2
        go_ret
        have := drop_all_eq HD.out
        exact ⟨by rw [this]; simp, n, rfl⟩
      · obtain ⟨b, rfl, hb1⟩ := hcell (k - 1) (by omega)
        obtain ⟨c, rfl, hc1⟩ := hdell (k - 1) (by have := HL.out; omega)
        have hk1 : k - 1 < ys.length := by have := HL.out; omega
        obtain ⟨x, hx⟩ : ∃ x, x = xs.getD (k - 1) 0 := ⟨_, rfl⟩
        obtain ⟨y, hy⟩ : ∃ y, y = ys.getD (k - 1) 0 := ⟨_, rfl⟩
        rw [← hx] at hb1
        rw [← hy] at hc1
        have HX := Hid.mk hx
        have HY := Hid.mk hy
        clear hx hy hcell hdell
        by_cases hxy : x = y
        · have hne : ((x : Int) != (y : Int)) = false := by simp [hxy]
          have HXY := Hid.mk hxy
          clear hxy
          go_wp2
          go_quiet (fail)
          go_wp2
          go_roundw
          case rel =>
            refine ⟨k - 1, by omega, by go_num, ⟨_, rfl⟩, Hid.mk ?_⟩
            rw [drop_getD xs (k - 1) (by omega), drop_getD ys (k - 1) hk1, ← HX.out, ← HY.out, HXY.out, show k - 1 + 1 = k from by omega, HD.out]
          case measure => simp [intOf]; omega
        · have hne : ((x : Int) != (y : Int)) = true := by simp; omega
          have HXY := Hid.mk hxy
          clear hxy
          go_wp2
          go_quiet (fail)
          go_wp2
          go_quiet (fail)
          go_wp2
          go_ret
          refine ⟨?_, _, by rw [World.drewN_drewN, World.drewN_drewN]⟩
          have h1 := HX.out
          have h2 := HY.out
          have h3 := HXY.out
          have h4 : xs.drop (k - 1 + 1) = ys.drop (k - 1 + 1) := by rw [show k - 1 + 1 = k from by omega]; exact HD.out
          by_cases hlt : x < y
          · have := val_cmp lx.1 HL.out (k - 1) (by omega) h4 (by omega)
            simp [hlt, this]
          · have := val_cmp ly.1 HL.out.symm (k - 1) hk1 h4.symm (by omega)
            simp [hlt, show ¬ val xs < val ys from by omega]
  · have hb : ((xs.length : Int) != (ys.length : Int)) = true := by simp; omega
    have HL := Hid.mk hl
    clear hl
    go_enter Tryd.func49, Tryd.ntmps49
    go_wp2
    go_ret
    refine ⟨?_, 0, rfl⟩
    have := HL.out
    by_cases hlt : xs.length < ys.length
    · have := val_lt_of_length lx.1 ly hlt
      simp [hlt, this]
    · have := val_lt_of_length ly.1 lx (by omega)
      simp [hlt, show ¬ val xs < val ys from by omega]
end Go.Proofs.YtjhcbenldfplcaaDoor
