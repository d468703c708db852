/- notation.reader: side, where the text goes on as it should. -/
import Derived.Test.YtjhcbenldfplcaaDoorEntry
namespace Go.Proofs.YtjhcbenldfplcaaDoor
open Go.RowKit

theorem decval_mono (l : List UInt8) : ∀ (j k : Nat), k + j = l.length → decval (l.take k) ≤ decval l := by
  intro j
  induction j with
  | zero => intro k h; rw [List.take_of_length_le (by omega)]; exact Nat.le_refl _
  | succ j ih =>
    intro k h
    have h1 := ih (k + 1) (by omega)
    rw [decval_take l k (by omega)] at h1
    omega

set_option maxRecDepth 100000 in
set_option maxHeartbeats 2000000 in
theorem side_ok (p : Nat) (s : ByteArray) (a : Nat) (ds l : List UInt8) (w : World) (h : Rd w p s a) (hr : Rem s a (ds ++ l)) (hs : s.size ≤ 4000) (hd : Run ds) (hl : Stops l) (hv : decval ds ≤ 99) :
    Calls Tryd.prog 38 #[.pointer (some ⟨p, 0, none⟩)] w fun e w' => e = .returned (.int .i64 (decval ds)) ∧ Rd w' p s (a + ds.length) ∧ Fr p w w' := by
  have H := Hid.mk h
  have HR := Hid.mk hr
  have HD := Hid.mk hd
  have HL := Hid.mk hl
  have hdl : ds.length ≤ 4000 := by have := hr.app.1; omega
  clear h hr hd hl
  go_enter Tryd.func38, Tryd.ntmps38
  go_wp2_with fail
  refine (digits_ok p s a ds l _ H.out HR.out (by omega) HD.out HL.out).mono ?_
  rintro e w2 ⟨rfl, hR2, hF2⟩
  have H2 := Hid.mk (And.intro hR2 hF2)
  clear hR2 hF2
  obtain ⟨rb, hrb⟩ : ∃ rb : ByteArray, rb = ⟨ds.toArray⟩ := ⟨_, rfl⟩
  have hrs : rb.size = ds.length := by rw [hrb]; rfl
  have hrl : rb.data.toList = ds := by rw [hrb]
  have HB := Hid.mk (And.intro hrs hrl)
  have hrz : rb.size ≤ 4000 := by omega
  rw [← hrb]
  clear hrb hrs hrl
  go_wp2_with fail
  go_loop [4, 5] (fun v i => ∃ k sd : Nat, k ≤ rb.size ∧ i = .int .i64 k ∧ sd ≤ 99 ∧ v = .int .i64 sd ∧ Hid (sd = decval (ds.take k))) (fun _ i => rb.size - (intOf i).toNat)
  case atStart => exact ⟨0, 0, Nat.zero_le _, rfl, by omega, rfl, Hid.mk rfl⟩
  case round =>
    obtain ⟨k, sd, hk, rfl, hsd, rfl, HI⟩ := hrel
    by_cases hkr : k < rb.size
    · have hdd := dig_at rb (by rw [HB.out.2]; exact HD.out.2.1) k hkr
      obtain ⟨d1, d2⟩ := hdd
      have hnext : decval (ds.take (k + 1)) = 10 * sd + ((rb[k]'hkr).toNat - 48) := by
        have := decval_at rb k hkr
        rw [HB.out.2] at this
        rw [this, HI.out]
      have hle : decval (ds.take (k + 1)) ≤ 99 := Nat.le_trans (decval_mono ds (ds.length - (k + 1)) (k + 1) (by have := HB.out.1; omega)) hv
      have HN := Hid.mk hnext
      have hle2 : 10 * sd + ((rb[k]'hkr).toNat - 48) ≤ 99 := by omega
      clear hnext hle
      go_wp2_with fail
      go_round
      case rel => exact ⟨k + 1, 10 * sd + ((rb[k]'hkr).toNat - 48), by omega, by go_num, hle2, by go_num, Hid.mk HN.out.symm⟩
      case measure => simp [intOf]; omega
    · have hd0 : decide (k < rb.size) = false := by simp; omega
      have hd1 : decide ((k : Int) < (rb.size : Int)) = false := by simp; omega
      go_wp2_with fail
      go_ret
      refine ⟨ret_int ?_, H2.out.1, H2.out.2⟩
      have := HI.out
      rw [List.take_of_length_le (by have := HB.out.1; omega)] at this
      omega
end Go.Proofs.YtjhcbenldfplcaaDoor
