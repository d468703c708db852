/- grid.Matrix.Fits, matrices.tooBig, of matrices that fit. -/
import Derived.Test.YtjhcbenldfplcaaDoorMinor
namespace Go.Proofs.YtjhcbenldfplcaaDoor
open Go.RowKit

set_option maxRecDepth 100000 in
set_option maxHeartbeats 2000000 in
theorem fits_yes (v : Value) (r c : Nat) (zs : List Int) (L : Nat) (w : World) (hm : IsM w v r c zs L) (hr : r ≤ 4) (hc : c ≤ 4) (hL : L ≤ 30000) (hz : ∀ t, t < r * c → (zs.getD t 0).natAbs < 281474976710656) :
    Calls Tryd.prog 28 #[v, .int .i64 4, .int .i64 48] w fun e w' => e = .returned (.bool true) ∧ Below w.heap.size w w' := by
  have HM := Hid.mk hm
  have HZ := Hid.mk hz
  obtain ⟨_, _, sl, rfl, hg⟩ := hm
  obtain ⟨ao, cap, rfl, hcap, hcm, hao⟩ := hg.shape
  have hrc : r * c ≤ 16 := Nat.mul_le_mul hr hc
  have HG := Hid.mk hg
  have HA := Hid.mk hao
  clear hg hz hao
  obtain ⟨N, hN⟩ : ∃ N, N = r * c := ⟨_, rfl⟩
  rw [← hN] at hcap hrc HG HZ HA ⊢
  clear hN HM
  go_enter Tryd.func28, Tryd.ntmps28
  go_wp2_with fail
  obtain ⟨W0, hW0⟩ : ∃ W0, W0 = w.alloc (.cells #[.int .i64 r, .int .i64 c, .slice ao N cap] 52) := ⟨_, rfl⟩
  rw [← hW0]
  have m2 : W0.cell? ⟨w.heap.size, 2, none⟩ = some (.slice ao N cap) := by rw [hW0]; simp
  have hB0 : Below w.heap.size w W0 := by rw [hW0]; exact (Below.refl _ _).alloc (Nat.le_refl _) _
  have FM := Hid.mk m2
  clear m2 hW0
  go_loopw [7] (fun i wr => ∃ k : Nat, k ≤ N ∧ i = .int .i64 k ∧ Below W0.heap.size W0 wr) (fun i _ => N - (intOf i).toNat)
  case atStart => exact ⟨0, Nat.zero_le _, rfl, Below.refl _ _⟩
  case round =>
    obtain ⟨k, hk, rfl, hB⟩ := hrel
    have m2 := cell_later hB FM.out
    by_cases hkN : k < N
    · obtain ⟨g, rfl⟩ := HA.out k hkN
      have hGr := (HG.out.below hB0).below hB
      obtain ⟨nb, bo, m, ecap, c1, c2, hI⟩ := hGr.cell k hkN
      rw [Nat.mul_comm 2] at c1 c2
      have HB := Hid.mk hB
      have HI := Hid.mk hI
      clear hB hI hGr
      go_wp2_with fail
      refine (bits_any _ _ _ _ HI.out hL).mono ?_
      rintro e w2 ⟨b, rfl, hb, hb2⟩
      have hbb : b ≤ 48 := (hb 48).2 (HZ.out k hkN)
      have hB2 : Below W0.heap.size W0 w2 := HB.out.trans (hb2.mono HB.out.size)
      clear hb hb2
      go_wp2_with fail
      go_roundw
      case rel => exact ⟨k + 1, by omega, by go_num, hB2⟩
      case measure => simp [intOf]; omega
    · go_wp2_with fail
      go_ret
      exact ⟨rfl, hB0.trans (hB.mono hB0.size)⟩

set_option maxRecDepth 100000 in
set_option maxHeartbeats 2000000 in
theorem tooBig_no (v : Value) (r c : Nat) (zs : List Int) (L : Nat) (w : World) (hm : IsM w v r c zs L) (hr : r ≤ 4) (hc : c ≤ 4) (hL : L ≤ 30000) (hz : ∀ t, t < r * c → (zs.getD t 0).natAbs < 281474976710656) :
    Calls Tryd.prog 21 #[v] w fun e w' => e = .returned (.bool false) ∧ Below w.heap.size w w' := by
  have HM := Hid.mk hm
  have HZ := Hid.mk hz
  obtain ⟨_, _, sl, rfl, hg⟩ := hm
  obtain ⟨ao, cap, rfl, -⟩ := hg.shape
  clear hg hz
  obtain ⟨N, hN⟩ : ∃ N, N = r * c := ⟨_, rfl⟩
  rw [← hN] at HM ⊢
  rw [hN] at HM
  have HN := Hid.mk hN
  rw [← hN] at HM
  clear hN
  go_enter Tryd.func21, Tryd.ntmps21
  go_wp2_with fail
  refine (fits_yes _ r c zs L _ (HM.out.below ((Below.refl _ _).alloc (Nat.le_refl _) _)) hr hc hL HZ.out).mono ?_
  rintro e w2 ⟨rfl, hb⟩
  go_wp2_with fail
  go_ret
  exact ⟨rfl, ((Below.refl w.heap.size w).alloc (Nat.le_refl _) _).trans (hb.mono (by simp))⟩
end Go.Proofs.YtjhcbenldfplcaaDoor
