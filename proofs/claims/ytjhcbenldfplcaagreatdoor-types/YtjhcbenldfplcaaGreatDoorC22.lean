import Derived.Test.YtjhcbenldfplcaaGreatDoorC19
import Derived.Deep.CutRange
import Derived.Deep.RegionWith
/- notation.Write. -/
namespace Go.Proofs.YtjhcbenldfplcaaGreatDoor
open Go.RowKit

set_option maxRecDepth 100000 in
set_option maxHeartbeats 8000000 in
theorem write_any (v : Value) (r c : Nat) (zs : List Int) (L : Nat) (w : World) (hm : IsM w v r c zs L) (hL : L ≤ 5000) (htab : Tab w) :
    Calls Tryz.prog 65 #[v] w fun e w' => e = .returned (.string ⟨(matT r c zs).toArray⟩) ∧ Below w.heap.size w w' := by
  have HM := Hid.mk (And.intro hm htab)
  obtain ⟨hr, hc, sl, rfl, hg⟩ := hm
  obtain ⟨ao, cap, rfl, -⟩ := hg.shape
  have hzl : zs.length = r * c := hg.1
  have HZ := Hid.mk hzl
  clear hg hzl htab
  obtain ⟨N, hN⟩ : ∃ N, N = r * c := ⟨_, rfl⟩
  rw [← hN] at HM ⊢
  clear hN
  obtain ⟨W0, hW0⟩ : ∃ W0, W0 = w.alloc (.cells #[.int .i64 r, .int .i64 c, .slice ao N cap] 54) := ⟨_, rfl⟩
  have HW := Hid.mk hW0
  clear hW0
  have hw0 : W0.heap.size = w.heap.size + 1 := by rw [HW.out]; simp
  have HB0 : Hid (Below w.heap.size w W0) := Hid.mk (by rw [HW.out]; exact (Below.refl _ _).alloc (Nat.le_refl _) _)
  have hrl := dec_le2 r (by omega)
  have hcl := dec_le2 c (by omega)
  go_enter Tryz.func65, Tryz.ntmps65
  go_upto_region 1 with fail
  go_cut [3] from 6 to 15 (fun t wx => t = .string ⟨(partT r c zs 0).toArray⟩ ∧ Below (w.heap.size + 1) W0 wx)
  case first =>
    go_region_with (first
      | (go_at_call 103; refine (rows_raw _ _ _ _ _ _).mono ?_; rintro e w' ⟨rfl, rfl⟩)
      | (go_at_call 104; refine (cols_raw _ _ _ _ _ _).mono ?_; rintro e w' ⟨rfl, rfl⟩)
      | (go_at_call 102; refine (Tryz.strconv_Itoa_small _ (by omega) _).mono ?_; rintro e w' ⟨rfl, rfl⟩))
    all_goals
      go_wp2_with fail
      go_meet
      case rel =>
        rw [HW.out]
        exact ⟨part0 r c zs, by repeat (first | exact Below.refl _ _ | refine Below.drew ?_ | refine Below.alloc ?_ (by simp <;> omega) _)⟩
  case rest =>
    obtain ⟨rfl, hbc⟩ := hcut
    have HBC := Hid.mk hbc
    clear hbc
    obtain ⟨T0, hT0⟩ : ∃ T0, T0 = partT r c zs 0 := ⟨_, rfl⟩
    have hT0l : T0.length ≤ 10 := by
      rw [hT0]; unfold partT; simp [bodyT]; omega
    have HT0 := Hid.mk hT0
    rw [← hT0]
    clear hT0
    go_wp2_with fail
    go_loopw [3, 4] (fun t i wr => ∃ (k : Nat) (T : List UInt8), k ≤ r ∧ i = .int .i64 k ∧ t = .string ⟨T.toArray⟩ ∧ T.length ≤ 10000000 * k + 10 ∧ Below (w.heap.size + 1) W0 wr ∧ Hid (T = partT r c zs (k * c))) (fun _ i _ => r - (intOf i).toNat)
    case atStart => exact ⟨0, T0, Nat.zero_le _, rfl, rfl, by omega, HBC.out, Hid.mk (by rw [HT0.out, Nat.zero_mul])⟩
    case round =>
      rename World => wr0
      obtain ⟨k, T, hk, rfl, rfl, hT, hbel, HI⟩ := hrel
      have hwr := hbel.size
      have hbx : MBox wr0 w.heap.size r c (.slice ao N cap) := (MBox.new w r c (.slice ao N cap) rfl).below (by rw [← HW.out]; exact hbel) (by omega)
      obtain ⟨a0, a1, a2, -⟩ := hbx.cells
      have HB := Hid.mk hbel
      clear hbel hbx
      go_wp2_with fail
      refine (rows_raw _ _ _ _ _ _).mono ?_
      rintro e w' ⟨rfl, rfl⟩
      by_cases hkr : k < r
      · go_wp2_with fail
        go_loopw [3, 5] (fun t i ws => ∃ (j : Nat) (T' : List UInt8), j ≤ c ∧ i = .int .i64 j ∧ t = .string ⟨T'.toArray⟩ ∧ T'.length ≤ 10000000 * k + 10 + 100000 * j ∧ Below (w.heap.size + 1) W0 ws ∧ Hid (T' = partT r c zs (k * c + j))) (fun _ i _ => c - (intOf i).toNat)
        case atStart => exact ⟨0, T, Nat.zero_le _, rfl, rfl, by omega, HB.out.alloc (by omega) _, Hid.mk (by rw [HI.out, Nat.add_zero])⟩
        case round =>
          clear a0 a1 a2
          obtain ⟨j, T', hj, rfl, rfl, hT', hbel, HJ⟩ := hrel
          have hws := hbel.size
          have hbx : MBox wr w.heap.size r c (.slice ao N cap) := (MBox.new w r c (.slice ao N cap) rfl).below (by rw [← HW.out]; exact hbel) (by omega)
          obtain ⟨a0, a1, a2, -⟩ := hbx.cells
          have HB2 := Hid.mk (And.intro hbel hbx)
          clear hbel hbx
          go_wp2_with fail
          refine (cols_raw _ _ _ _ _ _).mono ?_
          rintro e w' ⟨rfl, rfl⟩
          have b0 := cell1 a0
          have b1 := cell1 a1
          have b2 := cell1 a2
          by_cases hjc : j < c
          · have hcases : k = 0 ∨ (0 < k ∧ j = 0) ∨ (0 < k ∧ 0 < j) := by omega
            obtain ⟨jj, hjj⟩ : ∃ jj, jj = j := ⟨_, rfl⟩
            have HJJ := Hid.mk hjj
            have hjjc : jj < c := by omega
            obtain ⟨S, hS⟩ : ∃ S : List UInt8, S = if 0 < k ∧ jj = 0 then [59] else [] := ⟨_, rfl⟩
            have HS := Hid.mk hS
            have hnx := HZ.out
            have hidx : k * c + jj < zs.length := by rw [hnx]; exact idx_lt hkr hjjc
            have HNX := Hid.mk (partT_next (r := r) (i := k) hjjc hidx)
            clear hnx hidx
            rcases hcases with h0 | ⟨h0, h1⟩ | ⟨h0, h1⟩
            case' inl =>
              have f1 : decide (0 < k) = false := decide_eq_false (by omega)
              have f2 : decide ((0 : Int) < (k : Int)) = false := decide_eq_false (by omega)
              rw [if_neg (by omega)] at hS
              have HS1 := Hid.mk hS
              clear hS h0 hjj
            case' inr.inl =>
              rw [if_pos ⟨h0, by omega⟩] at hS
              have HS1 := Hid.mk hS
              clear hS hjj
              subst h1
            case' inr.inr =>
              have f1 : ((j : Int) == 0) = false := beq_eq_false_iff_ne.2 (by omega)
              rw [if_neg (by omega)] at hS
              have HS1 := Hid.mk hS
              clear hS hjj
            all_goals
              go_wp2_with fail
              first
                | refine (at_in _ r c k j zs L _ (HM.out.1.below ?_) hkr hjc).mono ?_
                | refine (at_in _ r c k 0 zs L _ (HM.out.1.below ?_) hkr hjc).mono ?_
              · exact HB0.out.trans ((HB2.out.1.alloc (by omega) _).mono (by omega))
              rintro e w2 ⟨x, rfl, hx, hb2⟩
              obtain ⟨nb, bo, mm, ecap, rfl⟩ := hx.shape
              have hb02 : Below w.heap.size w w2 := (HB0.out.trans ((HB2.out.1.alloc (by omega) _).mono (by omega))).trans (hb2.mono (by simp; omega))
              have hb2' : Below (w.heap.size + 1) W0 w2 := (HB2.out.1.alloc (by omega) _).trans (hb2.mono (by simp; omega))
              have K2 := Hid.mk (And.intro hx (And.intro hb02 hb2'))
              clear hx hb2 hb02 hb2'
              go_wp2_with fail
              refine (decimal_any _ _ L _ K2.out.1 hL (HM.out.2.below K2.out.2.1)).mono ?_
              rintro e w3 ⟨rfl, hb3⟩
              have hb3' : Below (w.heap.size + 1) W0 w3 := K2.out.2.2.trans (hb3.mono (by have := K2.out.2.2.size; omega))
              have K3 := Hid.mk hb3'
              clear hb3 hb3'
              obtain ⟨D, hD⟩ : ∃ D, D = Lib.itoa (zs.getD (k * c + jj) 0) := ⟨_, rfl⟩
              rw [HJJ.out] at hD
              rw [← hD]
              have hDl : D.length ≤ 60001 := by rw [hD]; exact itoa_len K2.out.1 hL
              rw [← HJJ.out] at hD
              have HD := Hid.mk hD
              clear hD
              go_wp2_with fail
              go_roundw
              case measure => simp [intOf]; omega
              case rel =>
                have hv : T' ++ (S ++ (32 :: D)) = partT r c zs (k * c + (jj + 1)) := by
                  rw [show k * c + (jj + 1) = k * c + jj + 1 from rfl, HNX.out, ← HS.out, ← HD.out, HJJ.out, ← HJ.out]
                have hl : (T' ++ (S ++ (32 :: D))).length ≤ T'.length + 60010 := by
                  have : S.length ≤ 1 := by rw [HS1.out]; simp
                  simp only [List.length_append, List.length_cons]; omega
                rw [HJJ.out] at hv
                have hl2 : ∀ n : Nat, n = jj + 1 → (T' ++ (S ++ (32 :: D))).length ≤ 10000000 * k + 10 + 100000 * n := by
                  intro n hn
                  rw [HJJ.out] at hn
                  subst hn
                  exact Nat.le_trans hl (by omega)
                first
                  | refine ⟨j + 1, T' ++ (S ++ (32 :: D)), by omega, by go_num, ?_, hl2 _ (by rw [HJJ.out]), K3.out, Hid.mk hv⟩
                  | refine ⟨0 + 1, T' ++ (S ++ (32 :: D)), by omega, by go_num, ?_, hl2 _ (by rw [HJJ.out]), K3.out, Hid.mk hv⟩
                rw [HS1.out]
                first | exact wval0 _ _ | exact wval1 _ _
          · have hje : j = c := by omega
            have HJE := Hid.mk hje
            clear hje
            go_wp2_with fail
            go_roundw
            case measure => simp [intOf]; omega
            case rel => exact ⟨k + 1, T', by omega, by go_num, rfl, by have := HJE.out; omega, HB2.out.1.alloc (by omega) _, Hid.mk (by rw [HJ.out, HJE.out, Nat.add_mul, Nat.one_mul])⟩
      · have hke : k = r := by omega
        have HKE := Hid.mk hke
        clear hke
        go_wp2_with fail
        go_ret
        refine ⟨rret_w (by rw [HI.out, HKE.out, partT_all (by rw [HZ.out]; exact Nat.le_refl _)]), ?_⟩
        exact HB0.out.trans ((HB.out.alloc (by omega) _).mono (by omega))
end Go.Proofs.YtjhcbenldfplcaaGreatDoor
