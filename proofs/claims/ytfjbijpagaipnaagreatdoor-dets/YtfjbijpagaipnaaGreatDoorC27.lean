import Derived.Test.YtfjbijpagaipnaaGreatDoorC15
import Derived.Test.YtfjbijpagaipnaaGreatDoorC17
import Derived.Test.YtfjbijpagaipnaaGreatDoorC25
import Derived.BigRegion
import Derived.BigQuiet
import Derived.Deep.RegionHeld3
import Derived.Deep.CutRange
namespace Go.Proofs.YtfjbijpagaipnaaGreatDoor.R
open Go.RowKit
theorem getD_set_self (zs : List Nat) (k c : Nat) (hk : k < zs.length) : (zs.set k c).getD k 0 = c := by simp [List.getD, hk]
theorem carry_top {zs : List Nat} {n V : Nat} (hl : zs.length = n + 1) (hlo : ∀ k, k < n → zs.getD k 0 < 10000) (hv : val zs = V) (hV : V < 10000 ^ n) : Lo zs := by
  have h1 : val zs = val (zs.take n) + 10000 ^ n * zs.getD n 0 := by
    have := val_take_next zs n
    rw [List.take_of_length_le (by omega)] at this
    exact this
  have h0 : zs.getD n 0 = 0 := by
    rcases Nat.eq_zero_or_pos (zs.getD n 0) with h | h
    · exact h
    · have : 10000 ^ n * 1 ≤ 10000 ^ n * zs.getD n 0 := Nat.mul_le_mul_left _ h
      omega
  intro x hx
  obtain ⟨i, hi, rfl⟩ := List.mem_iff_getElem.1 hx
  have hg : zs.getD i 0 = zs[i] := by simp [List.getD, List.getElem?_eq_getElem hi]
  rw [← hg]
  by_cases hin : i < n
  · exact hlo i hin
  · rw [show i = n by omega, h0]; decide
theorem carry_val {zs : List Nat} {i : Nat} (hi : i + 1 < zs.length) : val ((zs.set (i + 1) (zs.getD (i + 1) 0 + zs.getD i 0 / 10000)).set i (zs.getD i 0 % 10000)) = val zs := by
  have h1 := val_set zs (i + 1) (zs.getD (i + 1) 0 + zs.getD i 0 / 10000) hi
  have h2 := val_set (zs.set (i + 1) (zs.getD (i + 1) 0 + zs.getD i 0 / 10000)) i (zs.getD i 0 % 10000) (by simp; omega)
  rw [getD_set_ne _ _ _ _ (by omega)] at h2
  have h3 := Nat.div_add_mod (zs.getD i 0) 10000
  generalize zs.getD i 0 = a at *
  generalize zs.getD (i + 1) 0 = b at *
  generalize hq : a / 10000 = q at *
  generalize hm : a % 10000 = m at *
  rw [Nat.pow_succ] at h1
  generalize 10000 ^ i = P at *
  have e1 : P * 10000 * (b + q) = P * 10000 * b + P * (10000 * q) := by rw [Nat.mul_add, Nat.mul_assoc P 10000 q]
  have e2 : P * a = P * (10000 * q) + P * m := by rw [← h3, Nat.mul_add]
  omega
theorem conv_step {qs : List Nat} {k j z x y V T : Nat} (hk : k + j < qs.length) (hz : z = qs.getD (k + j) 0) (h : val qs = V + 10000 ^ k * (x * T)) : val (qs.set (k + j) (z + x * y)) = V + 10000 ^ k * (x * (T + 10000 ^ j * y)) := by
  have h1 := val_set qs (k + j) (z + x * y) hk
  rw [← hz, Nat.pow_add] at h1
  have e1 : 10000 ^ k * 10000 ^ j * (z + x * y) = 10000 ^ k * 10000 ^ j * z + 10000 ^ k * (x * (10000 ^ j * y)) := by
    rw [Nat.mul_add, Nat.mul_left_comm x, Nat.mul_assoc (10000 ^ k) (10000 ^ j) (x * y)]
  have e2 : 10000 ^ k * (x * (T + 10000 ^ j * y)) = 10000 ^ k * (x * T) + 10000 ^ k * (x * (10000 ^ j * y)) := by rw [Nat.mul_add, Nat.mul_add]
  generalize 10000 ^ k * 10000 ^ j * z = A at *
  generalize 10000 ^ k * (x * (10000 ^ j * y)) = B at *
  generalize 10000 ^ k * (x * T) = C at *
  omega
theorem conv_done {xs : List Nat} {k x Y Q : Nat} (hx : x = xs.getD k 0) (h : Q = val (xs.take k) * Y + 10000 ^ k * (x * Y)) : Q = val (xs.take (k + 1)) * Y := by
  rw [h, val_take_next, ← hx, Nat.add_mul, Nat.mul_assoc]
theorem getD_set_le {qs : List Nat} {k c b i : Nat} (hc : c ≤ b) (h : ∀ i, qs.getD i 0 ≤ b) : (qs.set k c).getD i 0 ≤ b := by
  by_cases hk : k = i
  · subst hk
    by_cases hl : k < qs.length
    · rw [getD_set_self _ _ _ hl]; exact hc
    · rw [List.set_eq_of_length_le (by omega)]; exact h k
  · rw [getD_set_ne _ _ _ _ hk]; exact h i
set_option maxRecDepth 100000 in
set_option maxHeartbeats 4000000 in
theorem ntimes_any (v u : Value) (x y : Int) (L M : Nat) (w : World) (hv : IsN w v x L) (hu : IsN w u y M) (hL : L ≤ 50000000000) (hM : M ≤ 50000000000) :
    Calls Tryz.prog 177 #[v, u] w fun e w' => ∃ r, e = .returned r ∧ NOut w w' r (x * y) (L + M + 1) := by
  obtain ⟨na, ao, cap, xs, rfl, h2, h3, h4, h5, h6⟩ := hv.parts
  obtain ⟨nb, bo, dap, ys, rfl, k2, k3, k4, k5, k6⟩ := hu.parts
  have H := Hid.mk (And.intro h2 (And.intro h3 (And.intro h4 (And.intro h5 h6))))
  have J := Hid.mk (And.intro k2 (And.intro k3 (And.intro k4 (And.intro k5 k6))))
  clear hv hu h2 h3 h4 h5 k2 k3 k4 k5
  have BB := Hid.mk (And.intro ((((NBox.new w (.bool na) (.slice ao xs.length cap) rfl).alloc (.cells #[.bool nb, .slice bo ys.length dap] 138)).alloc (.cells #[.bool false, .slice none 0 0] 138))) (And.intro ((NBox.new (w.alloc (.cells #[.bool na, .slice ao xs.length cap] 138)) (.bool nb) (.slice bo ys.length dap) (b := w.heap.size + 1) (by simp)).alloc (.cells #[.bool false, .slice none 0 0] 138))
    (NBox.new ((w.alloc (.cells #[.bool na, .slice ao xs.length cap] 138)).alloc (.cells #[.bool nb, .slice bo ys.length dap] 138)) (.bool false) (.slice none 0 0) (b := w.heap.size + 1 + 1) (by simp))))
  go_enter Tryz.func177, Tryz.ntmps177
  go_wp2_with (refine make_digits _ rfl _ _ rfl _ _ (xs.length + ys.length + 1) rfl rfl (by omega) (by omega) (by omega) ?_)
  intro w1 hown hbel
  obtain ⟨W0, hW0⟩ : ∃ W0, W0 = ((w.alloc (.cells #[.bool na, .slice ao xs.length cap] 138)).alloc (.cells #[.bool nb, .slice bo ys.length dap] 138)).alloc (.cells #[.bool false, .slice none 0 0] 138) := ⟨_, rfl⟩
  have hz0 : W0.heap.size = w.heap.size + 1 + 1 + 1 := by rw [hW0]; simp
  have hbw0 : Below w.heap.size w W0 := by rw [hW0]; repeat (first | exact Below.refl _ _ | refine Below.alloc ?_ (by simp <;> omega) _)
  rw [← hW0] at BB hbel
  have hbel0 : Below W0.heap.size W0 w1 := by rw [hz0]; exact hbel
  clear hbel
  have hbel := hbel0
  clear hbel0
  obtain ⟨G, hG⟩ : ∃ G, G = w.heap.size + 1 + 1 + 1 := ⟨_, rfl⟩
  rw [← hG] at hown hz0 ⊢
  obtain ⟨NN, hNN⟩ : ∃ NN, NN = xs.length + ys.length + 1 := ⟨_, rfl⟩
  rw [← hNN] at hown ⊢
  have K0 := Hid.mk (And.intro hown (And.intro hbel (And.intro hbw0 hW0)))
  have HNN := Hid.mk hNN
  have HG := Hid.mk (And.intro hG hz0)
  have hNb : NN ≤ 100000000001 := by omega
  clear hown hbel hbw0 hW0 hNN hG hz0
  go_wp2_with fail
  go_loopw [6] (fun i wr => ∃ (k : Nat) (zs : List Nat), k ≤ xs.length ∧ i = .int .i64 k ∧ Hid (zs.length = NN) ∧ Own wr (.slice (some ⟨G, 0, none⟩) NN NN) zs ∧ Below W0.heap.size W0 wr ∧
      Hid (val zs = val (xs.take k) * val ys ∧ ∀ j, zs.getD j 0 ≤ k * 100000000)) (fun i _ => xs.length - (intOf i).toNat)
  case atStart =>
    refine ⟨0, _, Nat.zero_le _, rfl, Hid.mk List.length_replicate, K0.out.1, K0.out.2.1, Hid.mk ⟨?_, fun j => ?_⟩⟩
    · rw [val_zeros (fun x hx => List.eq_of_mem_replicate hx)]; simp [val]
    · by_cases hj : j < NN <;> simp [List.getD, hj]
  case round =>
    obtain ⟨k, zs, hk, rfl, HZL, hown, hbel, HI⟩ := hrel
    obtain ⟨a1, a2, -, -⟩ := (BB.out.1.below hbel BB.out.1.lt).cells
    have K := Hid.mk (And.intro hown hbel)
    clear hown hbel
    by_cases hkN : k < xs.length
    · obtain ⟨b, rfl, hb0⟩ := H.out.1.at_ rfl k hkN
      have hxk := Lo_get H.out.2.1.1 k
      obtain ⟨x1, hx⟩ : ∃ x, x = xs.getD k 0 := ⟨_, rfl⟩
      rw [← hx] at hxk hb0
      have HX := Hid.mk hx
      have HB := Hid.mk hb0
      have hki : (k : Int) < (xs.length : Int) := by omega
      clear hx hb0
      go_wp2_with fail
      go_loopw [7] (fun i ws => ∃ (j : Nat) (qs : List Nat), j ≤ ys.length ∧ i = .int .i64 j ∧ Hid (qs.length = NN) ∧ Own ws (.slice (some ⟨G, 0, none⟩) NN NN) qs ∧ Below W0.heap.size W0 ws ∧
          Hid (val qs = val (xs.take k) * val ys + 10000 ^ k * (x1 * val (ys.take j)) ∧ (∀ i, qs.getD i 0 ≤ (k + 1) * 100000000) ∧ ∀ i, k + j ≤ i → qs.getD i 0 ≤ k * 100000000)) (fun i _ => ys.length - (intOf i).toNat)
      case atStart =>
        refine ⟨0, zs, Nat.zero_le _, rfl, HZL, K.out.1, K.out.2, Hid.mk ⟨by have := HI.out.1; simp [val, this], fun i => ?_, fun i _ => HI.out.2 i⟩⟩
        exact Nat.le_trans (HI.out.2 i) (Nat.mul_le_mul_right _ (Nat.le_succ k))
      case round =>
        rename World => ws
        obtain ⟨j, qs, hj, rfl, HQ, hown, hbel, HI2⟩ := hrel
        have hbw : Below w.heap.size w ws := K0.out.2.2.1.trans (hbel.mono (by have := HG.out.1; have := HG.out.2; omega))
        clear a1 a2
        obtain ⟨a1, a2, -, -⟩ := (BB.out.1.below hbel BB.out.1.lt).cells
        obtain ⟨b1, b2, -, -⟩ := (BB.out.2.1.below hbel BB.out.2.1.lt).cells
        have hb1 := cell_later hbw HB.out
        by_cases hjN : j < ys.length
        · obtain ⟨d, rfl, hd0⟩ := J.out.1.at_ rfl j hjN
          have hd1 := cell_later hbw hd0
          have hyk := Lo_get J.out.2.1.1 j
          have hkjN : k + j < NN := by have := HNN.out; omega
          have hz1 := hown.cell HQ.out (k + j) hkjN
          have hz2 := hown.frozen HQ.out (k + j)
          have hzk := HI2.out.2.2 (k + j) (Nat.le_refl _)
          obtain ⟨y1, hy⟩ : ∃ y, y = ys.getD j 0 := ⟨_, rfl⟩
          obtain ⟨z1, hz⟩ : ∃ z, z = qs.getD (k + j) 0 := ⟨_, rfl⟩
          rw [← hy] at hyk hd1
          rw [← hz] at hz1 hzk
          have hp : x1 * y1 ≤ 9999 * 9999 := Nat.mul_le_mul (by omega) (by omega)
          have HYY := Hid.mk hy
          have HZ := Hid.mk hz
          have hji : (j : Int) < (ys.length : Int) := by omega
          have K2 := Hid.mk (And.intro hown (And.intro hbel hbw))
          clear hy hz hd0 hown hbel hbw
          go_wp2_with fail
          go_region
          all_goals
            go_wp2_with fail
            go_roundw
            case measure => simp [intOf]; omega
            case rel =>
              refine ⟨j + 1, qs.set (k + j) (z1 + x1 * y1), by omega, by go_num, Hid.mk (by simp [HQ.out]), K2.out.1.stored_int HQ.out (k + j) _ ?_, ?_, Hid.mk ⟨?_, fun i => ?_, fun i hi => ?_⟩⟩
              · simp
              · exact (K2.out.2.1.setCell (by have := HG.out.2; simp; omega) _).drew
              · rw [val_take_next, ← HYY.out]
                exact conv_step (by rw [HQ.out]; exact hkjN) HZ.out HI2.out.1
              · refine getD_set_le ?_ HI2.out.2.1
                have e1 : (k + 1) * 100000000 = k * 100000000 + 100000000 := Nat.succ_mul _ _
                rw [e1]
                exact Nat.add_le_add hzk (Nat.le_trans hp (by decide))
              · rw [getD_set_ne _ _ _ _ (by omega)]; exact HI2.out.2.2 i (by omega)
        · have hji : ¬ (j : Int) < (ys.length : Int) := by omega
          have K2 := Hid.mk (And.intro hown hbel)
          clear hown hbel hbw
          go_wp2_with fail
          go_roundw
          case measure => simp [intOf]; omega
          case rel =>
            refine ⟨k + 1, qs, by omega, by go_num, HQ, K2.out.1, K2.out.2, Hid.mk ⟨?_, HI2.out.2.1⟩⟩
            have h1 := HI2.out.1
            rw [show ys.take j = ys from List.take_of_length_le (by omega)] at h1
            exact conv_done HX.out h1
    · have hki : ¬ (k : Int) < (xs.length : Int) := by omega
      go_wp2_with fail
      go_loopw [8] (fun i ws => ∃ (j : Nat) (qs : List Nat), j + 1 ≤ NN ∧ i = .int .i64 j ∧ Hid (qs.length = NN) ∧ Own ws (.slice (some ⟨G, 0, none⟩) NN NN) qs ∧ Below W0.heap.size W0 ws ∧
          Hid (val qs = val xs * val ys ∧ (∀ i, i < j → qs.getD i 0 < 10000) ∧ qs.getD j 0 ≤ 6000000000000000000 ∧ ∀ i, j < i → qs.getD i 0 ≤ 5000000000000000000)) (fun i _ => NN - (intOf i).toNat)
      case atStart =>
        have hz : ∀ i, zs.getD i 0 ≤ 5000000000000000000 := fun i => Nat.le_trans (HI.out.2 i) (Nat.le_trans (Nat.mul_le_mul_right _ (show k ≤ 50000000000 by omega)) (by decide))
        refine ⟨0, zs, by have := HNN.out; omega, rfl, HZL, K.out.1, K.out.2, Hid.mk ⟨?_, fun i hi => by omega, Nat.le_trans (hz 0) (by decide), fun i _ => hz i⟩⟩
        have h1 := HI.out.1
        rw [show xs.take k = xs from List.take_of_length_le (by omega)] at h1
        exact h1
      case round =>
        rename World => ws
        obtain ⟨j, qs, hj, rfl, HQ, hown, hbel, HI2⟩ := hrel
        clear a1 a2
        by_cases hjN : j + 1 < NN
        · have hz1 := hown.cell HQ.out j (by omega)
          have hz2 := hown.frozen HQ.out j
          have hy1 := hown.cell HQ.out (j + 1) hjN
          have hy2 := hown.frozen HQ.out (j + 1)
          have hzb := HI2.out.2.2.1
          have hyb := HI2.out.2.2.2 (j + 1) (by omega)
          obtain ⟨z1, hz⟩ : ∃ z, z = qs.getD j 0 := ⟨_, rfl⟩
          obtain ⟨y1, hy⟩ : ∃ y, y = qs.getD (j + 1) 0 := ⟨_, rfl⟩
          rw [← hz] at hz1 hzb
          rw [← hy] at hy1 hyb
          have HZ := Hid.mk (And.intro hz hy)
          have hji : (j : Int) + 1 < (NN : Int) := by omega
          have K2 := Hid.mk (And.intro hown hbel)
          clear hz hy hown hbel
          go_wp2_with fail
          go_region
          have own2 : Own (ws.setCell ⟨G, j + 1, none⟩ (.int .i64 ((y1 : Int) + (z1 : Int) / 10000))).drew (.slice (some ⟨G, 0, none⟩) NN NN) (qs.set (j + 1) (y1 + z1 / 10000)) := K2.out.1.stored_int HQ.out (j + 1) _ (by omega)
          obtain ⟨ws2, hws2⟩ : ∃ ws2, ws2 = (ws.setCell ⟨G, j + 1, none⟩ (.int .i64 ((y1 : Int) + (z1 : Int) / 10000))).drew := ⟨_, rfl⟩
          have hbel2 : Below W0.heap.size W0 ws2 := by rw [hws2]; exact (K2.out.2.setCell (by have := HG.out.2; simp; omega) _).drew
          rw [← hws2] at own2 ⊢
          have HL2 := Hid.mk (show (qs.set (j + 1) (y1 + z1 / 10000)).length = NN by rw [List.length_set]; exact HQ.out)
          have d1 := own2.cell HL2.out j (by omega)
          have d2 := own2.frozen HL2.out j
          rw [getD_set_ne _ _ _ _ (by omega), ← HZ.out.1] at d1
          have K3 := Hid.mk (And.intro own2 hbel2)
          clear own2 hws2 hbel2 hz1 hz2 hy1 hy2
          go_wp2_with fail
          all_goals
            go_roundw
            case measure => simp [intOf]; omega
            case rel =>
              refine ⟨j + 1, (qs.set (j + 1) (y1 + z1 / 10000)).set j (z1 % 10000), by omega, by go_num, Hid.mk (by simp [HQ.out]), K3.out.1.stored_int HL2.out j _ (by omega), K3.out.2.setCell (by have := HG.out.2; simp; omega) _, Hid.mk ⟨?_, fun i hi => ?_, ?_, fun i hi => ?_⟩⟩
              · rw [HZ.out.1, HZ.out.2, carry_val (by rw [HQ.out]; exact hjN)]
                exact HI2.out.1
              · by_cases hij : i = j
                · subst hij
                  rw [getD_set_self _ _ _ (by rw [HL2.out]; omega)]
                  exact Nat.mod_lt _ (by decide)
                · rw [getD_set_ne _ _ _ _ (fun e => hij e.symm), getD_set_ne _ _ _ _ (by omega)]
                  exact HI2.out.2.1 i (by omega)
              · rw [getD_set_ne _ _ _ _ (by omega), getD_set_self _ _ _ (by rw [HQ.out]; exact hjN)]
                have : z1 / 10000 ≤ 6000000000000000000 / 10000 := Nat.div_le_div_right hzb
                exact Nat.le_trans (Nat.add_le_add hyb this) (by decide)
              · rw [getD_set_ne _ _ _ _ (by omega), getD_set_ne _ _ _ _ (by omega)]
                exact HI2.out.2.2.2 i (by omega)
        · have hji : ¬ (j : Int) + 1 < (NN : Int) := by omega
          obtain ⟨a1, -, -, -⟩ := (BB.out.1.below hbel BB.out.1.lt).cells
          obtain ⟨b1, -, -, -⟩ := (BB.out.2.1.below hbel BB.out.2.1.lt).cells
          have hLo : Lo qs := carry_top (n := xs.length + ys.length) (by rw [HQ.out, HNN.out]) (fun i hi => HI2.out.2.1 i (by have := HNN.out; omega)) HI2.out.1 (by
            rw [Nat.pow_add]
            exact Nat.mul_lt_mul'' (val_lt H.out.2.1.1) (val_lt J.out.2.1.1))
          have K2 := Hid.mk (And.intro hown (And.intro hbel hLo))
          clear hown hbel hLo
          go_wp2_with fail
          refine (made_any _ _ qs _ K2.out.1 K2.out.2.2).mono ?_
          rintro e w2 ⟨r2, rfl, hr2, hb2⟩
          obtain ⟨ng, co, ecap, vs, rfl, -⟩ := hr2.parts
          have B3 := (BB.out.2.2.below K2.out.2.1 BB.out.2.2.lt).below hb2 (BB.out.2.2.below K2.out.2.1 BB.out.2.2.lt).lt
          obtain ⟨c1, c2, c3, c4⟩ := B3.cells
          have c5 := B3.put1 (.bool ng)
          have hbw : Below w.heap.size w w2 := K0.out.2.2.1.trans ((K2.out.2.1.trans (hb2.mono K2.out.2.1.size)).mono (by have := HG.out.1; have := HG.out.2; omega))
          have K4 := Hid.mk (And.intro hr2 (And.intro hbw B3.ty))
          clear hr2 hb2 B3 a1 b1 hbw
          go_wp2_with fail
          refine bodyPost_ret (v := .agg #[.bool ng, .slice co vs.length ecap]) ?_ rfl ?_
          · (simp [results, Tryz.results177, go_sem, c2, c5]; done)
          · refine ⟨_, rfl, ?_, (K4.out.2.1.setCell (by simp <;> omega) _).setCell (by simp <;> omega) _⟩
            have fin := (K4.out.1.box K4.out.2.2 (by decide) (.bool ng) (.slice co vs.length ecap)).mono (M := L + M + 1) (by have := HQ.out; have := HNN.out; omega)
            have e1 := HI2.out.1
            have e2 := H.out.2.2.2.1
            have e3 := J.out.2.2.2.1
            rw [e1] at fin
            rw [e2, e3]
            cases na <;> cases nb <;> simpa [Int.neg_mul, Int.mul_neg] using fin
end Go.Proofs.YtfjbijpagaipnaaGreatDoor.R
namespace Go.Proofs.YtfjbijpagaipnaaGreatDoor.R
open Go.RowKit
theorem RRow.weak {B B' : Nat} {w : World} {g c : Nat} {f : Nat → Int} {L : Nat} (h : RRow B w g c f L) (hB : B' ≤ B) : RRow B' w g c f L := by
  obtain ⟨cs, h1, h2, h3⟩ := h
  refine ⟨cs, h1, h2, fun j hj => ?_⟩
  obtain ⟨a, b, e1, e2, e3, e4⟩ := h3 j hj
  exact ⟨a, b, e1, e2, e3, e4.mono hB⟩
theorem IsR.weak {B B' : Nat} {w : World} {b r c : Nat} {gs : Nat → Nat} {f : Nat → Nat → Int} {L : Nat} (h : IsR B w b r c gs f L) (hB : B' ≤ B) : IsR B' w b r c gs f L := by
  obtain ⟨h0, v, h1, ⟨h2, h2'⟩, h3, h4⟩ := h
  refine ⟨by omega, v, h1, ⟨h2, ?_⟩, fun i hi => ⟨by have := (h3 i hi).1; omega, (h3 i hi).2.weak hB⟩, h4⟩
  rcases h2' with h5 | ⟨g, cap, cur, hv, hg, hh, r⟩
  · exact .inl h5
  · exact .inr ⟨g, cap, cur, hv, by omega, hh, r⟩
theorem AtB.zero (v : Value) : AtB 0 v := fun _ _ _ _ _ _ _ => Nat.zero_le _
theorem IsR.rowsAt {B : Nat} {w : World} {b r c : Nat} {gs : Nat → Nat} {f : Nat → Nat → Int} {L : Nat} (h : IsR B w b r c gs f L) : ∀ i, i < r → B ≤ gs i ∧ gs i < w.heap.size := by
  obtain ⟨h0, v, h1, h2, h3, h4⟩ := h
  exact fun i hi => ⟨(h3 i hi).1, (h3 i hi).2.lt⟩
theorem NBox.drew' {w : World} {b : Nat} {x y : Value} (h : NBox w b x y) : NBox w.drew b x y := h
def Upto (f f' : Nat → Nat → Int) (q c a e : Nat) (g : Nat → Nat → Int) : Prop := ∀ i j, j < c → (i < a ∨ (i = a ∧ j < e)) → g i j = dot f f' i j q
theorem Upto.next {f f' : Nat → Nat → Int} {q c a e : Nat} {g : Nat → Nat → Int} (h : Upto f f' q c a e g) {z : Int} (hz : z = dot f f' a e q) : Upto f f' q c a (e + 1) (upd2 g a e z) := by
  intro i j hj hd
  unfold upd2
  by_cases hij : i = a ∧ j = e
  · rw [if_pos hij, hz, hij.1, hij.2]
  · rw [if_neg hij]
    exact h i j hj (by omega)
theorem Upto.row {f f' : Nat → Nat → Int} {q c a e : Nat} {g : Nat → Nat → Int} (h : Upto f f' q c a e g) (he : c ≤ e) : Upto f f' q c (a + 1) 0 g := fun i j hj hd => h i j hj (by omega)
def TimesOut (W : World) (z : Int) (N : Nat) (p : Value) (wx : World) : Prop := ∃ (pb : Nat) (x y : Value), p = .pointer (some ⟨pb, 0, none⟩) ∧ W.heap.size ≤ pb ∧ NBox wx pb x y ∧ IsN wx (.agg #[x, y]) z N ∧ Below W.heap.size W wx
set_option maxRecDepth 100000 in
set_option maxHeartbeats 4000000 in
theorem mtimes_any (L M : Nat) (b r q : Nat) (gs : Nat → Nat) (f : Nat → Nat → Int) (B b' c : Nat) (gs' : Nat → Nat) (f' : Nat → Nat → Int) (B' : Nat) (w : World) (h : IsR B w b r q gs f L) (h' : IsR B' w b' q c gs' f' M) (hr : r ≤ 8) (hq : q ≤ 8) (hc : c ≤ 8) (hLM : L + M ≤ 40000000000) :
    Calls Tryz.prog 119 #[.pointer (some ⟨b, 0, none⟩), .pointer (some ⟨b', 0, none⟩)] w fun e w' => e = .returned (.pointer (some ⟨w.heap.size, 0, none⟩)) ∧ (∃ go, IsR 0 w' w.heap.size r c go (fun i j => dot f f' i j q) (L + M + 12)) ∧ Below w.heap.size w w' := by
  have H := Hid.mk (And.intro h h')
  obtain ⟨hbl, ao, cap, c0, c1, c2, -⟩ := h.open_
  obtain ⟨hbl', ao', cap', d0, d1, d2, -⟩ := h'.open_
  clear h h'
  go_enter Tryz.func119, Tryz.ntmps119
  go_upto_region 1 with fail
  go_cut [5] from 11 to 20 (fun o wx => o = .pointer (some ⟨w.heap.size, 0, none⟩) ∧ (∃ go, IsR w.heap.size wx w.heap.size r c go (fun _ _ => 0) 0) ∧ Below w.heap.size w wx)
  case first =>
    go_region_held3 (fun w' => w'.cell? ⟨b, 0, none⟩ = some (.int .i64 r) ∧ w'.cell? ⟨b', 1, none⟩ = some (.int .i64 c)) (first | go_keep | exact ⟨cell_later hb2 c0, cell_later hb2 d1⟩)
      (first | (go_at_call 126; refine (empty_any r c _ (by omega) (by omega)).mono ?_; rintro e w2 ⟨rfl, hI2, hb2⟩))
    all_goals
      go_wp2_with fail
      go_meet
      case rel => exact ⟨rfl, hI2, (Below.refl w.heap.size w).drew.trans hb2⟩
  case rest =>
    obtain ⟨rfl, ⟨go, hI⟩, hbc⟩ := hcut
    have hgo := hI.rowsAt
    have HGO := Hid.mk hgo
    have H0 := Hid.mk (And.intro ((hI.weak (Nat.zero_le _)).mono (Nat.zero_le (L + M + 12))) hbc)
    clear hI hbc hgo c0 c1 c2 d0 d1 d2
    go_wp2_with fail
    go_loopw [6] (fun i wr => ∃ (a : Nat) (g : Nat → Nat → Int), a ≤ r ∧ i = .int .i64 a ∧ IsR 0 wr w.heap.size r c go g (L + M + 12) ∧ Below w.heap.size w wr ∧ Hid (Upto f f' q c a 0 g)) (fun i _ => r - (intOf i).toNat)
    case atStart => exact ⟨0, _, Nat.zero_le _, rfl, H0.out.1, H0.out.2, Hid.mk (fun i j hj hd => by omega)⟩
    case round =>
      rename World => wi
      obtain ⟨a, g, ha, rfl, hI, hbel, HU⟩ := hrel
      obtain ⟨-, ao, cap, c0, c1, c2, -⟩ := (H.out.1.keep (KR.of_below hbel)).open_
      have HB := Hid.mk (And.intro hI hbel)
      clear hI hbel
      by_cases har : a < r
      · have hai : (a : Int) < (r : Int) := by omega
        go_wp2_with fail
        go_loopw [7] (fun j wr => ∃ (e : Nat) (g : Nat → Nat → Int), e ≤ c ∧ j = .int .i64 e ∧ IsR 0 wr w.heap.size r c go g (L + M + 12) ∧ Below w.heap.size w wr ∧ Hid (Upto f f' q c a e g)) (fun j _ => c - (intOf j).toNat)
        case atStart => exact ⟨0, g, Nat.zero_le _, rfl, HB.out.1, HB.out.2, HU⟩
        case round =>
          rename World => wj
          clear c0 c1 c2
          obtain ⟨e, g, he, rfl, hI, hbel, HU2⟩ := hrel
          obtain ⟨-, ao', cap', d0, d1, d2, -⟩ := (H.out.2.keep (KR.of_below hbel)).open_
          have HB2 := Hid.mk (And.intro hI hbel)
          clear hI hbel
          by_cases hec : e < c
          · have hei : (e : Int) < (c : Int) := by omega
            go_wp2_with fail
            refine (of_any 0 _ (by omega)).mono ?_
            rintro x0 w3 ⟨s0, rfl, hs0, hb3⟩
            obtain ⟨nb, so, cp, xs, rfl, -⟩ := hs0.parts
            have HS0 := Hid.mk (And.intro hs0 hb3)
            clear hs0 hb3 d0 d1 d2
            go_wp2_with fail
            obtain ⟨SB, hSB⟩ : ∃ SB, SB = w3.heap.size := ⟨_, rfl⟩
            have hN0 : NBox (w3.alloc (.cells #[.bool nb, .slice so xs.length cp] 138)) SB (.bool nb) (.slice so xs.length cp) := NBox.new w3 _ _ hSB
            rw [← hSB]
            obtain ⟨w4, hw4⟩ : ∃ w4, w4 = w3.alloc (.cells #[.bool nb, .slice so xs.length cp] 138) := ⟨_, rfl⟩
            have hb4 : Below wj.heap.size wj w4 := by rw [hw4]; exact HS0.out.2.alloc HS0.out.2.size _
            have hn4 : IsN w4 (.agg #[.bool nb, .slice so xs.length cp]) 0 (L + M + 3) := by rw [hw4]; exact (HS0.out.1.mono (by omega)).below ((Below.refl _ _).alloc (Nat.le_refl _) _)
            have hSB1 : wj.heap.size ≤ SB := by rw [hSB]; exact HS0.out.2.size
            rw [← hw4] at hN0 ⊢
            have K4 := Hid.mk (And.intro hN0 (And.intro hn4 hb4))
            have HSB := Hid.mk hSB1
            clear hN0 hn4 hb4 hw4 hSB hSB1
            go_loopw [9] (fun k wr => ∃ (t : Nat) (x y : Value), t ≤ q ∧ k = .int .i64 t ∧ NBox wr SB x y ∧ IsN wr (.agg #[x, y]) (dot f f' a e t) (L + M + 3 + t) ∧ Below wj.heap.size wj wr) (fun k _ => q - (intOf k).toNat)
            case atStart => exact ⟨0, _, _, Nat.zero_le _, rfl, K4.out.1, K4.out.2.1, K4.out.2.2⟩
            case round =>
              rename World => wk
              obtain ⟨t, sx, sy, ht, rfl, hNB, hN, hbk⟩ := hrel
              obtain ⟨nb1, so1, cp1, xs1, hv1, -⟩ := hN.parts
              simp only [Value.agg.injEq, Array.mk.injEq, List.cons.injEq, and_true] at hv1
              obtain ⟨rfl, rfl⟩ := hv1
              obtain ⟨n1, hn1⟩ : ∃ n1, n1 = xs1.length := ⟨_, rfl⟩
              rw [← hn1] at hNB hN
              clear hn1
              have hbw : Below w.heap.size w wk := HB2.out.2.trans (hbk.mono HB2.out.2.size)
              obtain ⟨-, ao, cap, c0, c1, c2, c3, c4, c5, c6⟩ := (H.out.1.keep (KR.of_below hbw)).open_
              obtain ⟨-, ao', cap', d0, d1, d2, d3, d4, d5, d6⟩ := (H.out.2.keep (KR.of_below hbw)).open_
              have K5 := Hid.mk (And.intro hNB (And.intro hN (And.intro hbk hbw)))
              clear hNB hN hbk hbw
              by_cases htq : t < q
              · obtain ⟨gL, rfl, y1⟩ := c5 a har
                obtain ⟨nb2, so2, n2, cp2, y2, y3, -, -, hN2⟩ := c6 a t har htq
                obtain ⟨gL', rfl, z1⟩ := d5 t htq
                obtain ⟨nb3, so3, n3, cp3, z2, z3, -, -, hN3⟩ := d6 t e htq hec
                rw [Nat.mul_comm 2] at y2 y3 z2 z3
                have HN := Hid.mk (And.intro hN2 hN3)
                have hti : (t : Int) < (q : Int) := by omega
                have HC := Hid.mk (show ∀ w', Below wk.heap.size wk w' → w'.cell? ⟨b, 2, none⟩ = some (.slice (some ⟨gL, 0, none⟩) r cap) ∧ w'.cell? ⟨gL, a, none⟩ = some (.slice (some ⟨gs a, 0, none⟩) q q) ∧ w'.cell? ⟨gs a, t * 2, none⟩ = some (.bool nb2) ∧ w'.cell? ⟨gs a, t * 2 + 1, none⟩ = some (.slice so2 n2 cp2) ∧
                    w'.cell? ⟨b', 2, none⟩ = some (.slice (some ⟨gL', 0, none⟩) q cap') ∧ w'.cell? ⟨gL', t, none⟩ = some (.slice (some ⟨gs' t, 0, none⟩) c c) ∧ w'.cell? ⟨gs' t, e * 2, none⟩ = some (.bool nb3) ∧ w'.cell? ⟨gs' t, e * 2 + 1, none⟩ = some (.slice so3 n3 cp3) from
                  fun w' hb => ⟨cell_later hb c2, cell_later hb y1, cell_later hb y2, cell_later hb y3, cell_later hb d2, cell_later hb z1, cell_later hb z2, cell_later hb z3⟩)
                clear hN2 hN3 c5 c6 d5 d6
                go_upto_region 12 with fail
                go_cut [10] from 45 to 66 (fun p wx => TimesOut wk (f a t * f' t e) (L + M + 1) p wx)
                case first =>
                  go_region_held3 (fun w' => w'.cell? ⟨b, 2, none⟩ = some (.slice (some ⟨gL, 0, none⟩) r cap) ∧ w'.cell? ⟨gL, a, none⟩ = some (.slice (some ⟨gs a, 0, none⟩) q q) ∧ w'.cell? ⟨gs a, t * 2, none⟩ = some (.bool nb2) ∧ w'.cell? ⟨gs a, t * 2 + 1, none⟩ = some (.slice so2 n2 cp2) ∧
                    w'.cell? ⟨b', 2, none⟩ = some (.slice (some ⟨gL', 0, none⟩) q cap') ∧ w'.cell? ⟨gL', t, none⟩ = some (.slice (some ⟨gs' t, 0, none⟩) c c) ∧ w'.cell? ⟨gs' t, e * 2, none⟩ = some (.bool nb3) ∧ w'.cell? ⟨gs' t, e * 2 + 1, none⟩ = some (.slice so3 n3 cp3))
                    (exact HC.out _ (by first | exact hb9 | exact (Below.refl _ _).drew | exact ((Below.refl _ _).alloc (Nat.le_refl _) _).drew | exact hb9.alloc hb9.size _ | exact (hb9.setCell (Nat.le_refl _) _).setCell (Nat.le_refl _) _))
                    (first
                      | (go_at_call 177; refine (ntimes_any _ _ (f a t) (f' t e) L M _ (HN.out.1.below ((Below.refl _ _).drew)) (HN.out.2.below ((Below.refl _ _).drew)) (by omega) (by omega)).mono ?_; rintro e w2 ⟨p9, rfl, hp9, hb8⟩; obtain ⟨nb9, so9, cp9, xs9, rfl, -⟩ := hp9.parts; have hb9 : Below wk.heap.size wk w2 := (Below.refl _ _).drew.trans hb8; clear hb8)
                      | (go_at_call 177; refine (ntimes_any _ _ (f a t) (f' t e) L M _ (HN.out.1.below (((Below.refl _ _).alloc (Nat.le_refl _) _).drew)) (HN.out.2.below (((Below.refl _ _).alloc (Nat.le_refl _) _).drew)) (by omega) (by omega)).mono ?_; rintro e w2 ⟨p9, rfl, hp9, hb8⟩; obtain ⟨nb9, so9, cp9, xs9, rfl, -⟩ := hp9.parts; have hb9 : Below wk.heap.size wk w2 := ((Below.refl _ _).alloc (Nat.le_refl _) _).drew.trans (hb8.mono (by simp)); have hx9 : NBox w2 wk.heap.size (.bool false) (.slice none 0 0) := (NBox.new wk (.bool false) (.slice none 0 0) rfl).drew'.below hb8 (by simp); have hx8 := hx9.cells; clear hb8))
                  all_goals
                    go_wp2_with fail
                    go_meet
                    case rel =>
                      first
                        | exact ⟨_, _, _, rfl, hb9.size, NBox.new _ _ _ rfl, hp9.below ((Below.refl _ _).alloc (Nat.le_refl _) _), hb9.alloc hb9.size _⟩
                        | exact ⟨_, _, _, rfl, Nat.le_refl _, hx9.put _ _, hp9.box hx9.ty (by decide) _ _, (hb9.setCell (Nat.le_refl _) _).setCell (Nat.le_refl _) _⟩
                case rest =>
                  obtain ⟨pb, px, py, rfl, hpb, hPB, hp, hbp⟩ := hcut
                  obtain ⟨nb5, so5, cp5, xs5, hv5, -⟩ := hp.parts
                  simp only [Value.agg.injEq, Array.mk.injEq, List.cons.injEq, and_true] at hv5
                  obtain ⟨rfl, rfl⟩ := hv5
                  obtain ⟨n5, hn5⟩ : ∃ n5, n5 = xs5.length := ⟨_, rfl⟩
                  rw [← hn5] at hPB hp
                  clear hn5
                  have hNB := K5.out.1.below hbp K5.out.1.lt
                  obtain ⟨e1, e2, e3, e4⟩ := hNB.cells
                  obtain ⟨p1, p2, -, -⟩ := hPB.cells
                  have K6 := Hid.mk (And.intro hNB (And.intro hp (And.intro (K5.out.2.1.below hbp) (K5.out.2.2.1.trans (hbp.mono K5.out.2.2.1.size)))))
                  clear hpb hPB hp hbp hNB c0 c1 c2 d0 d1 d2 y1 y2 y3 z1 z2 z3
                  go_wp2_with fail
                  refine (plus_any _ _ (dot f f' a e t) (f a t * f' t e) (L + M + 3 + t) (L + M + 1) _ K6.out.2.2.1 K6.out.2.1 (by omega) (by omega)).mono ?_
                  rintro e9 w6 ⟨s6, rfl, hs6, hb6⟩
                  obtain ⟨nb6, so6, cp6, xs6, rfl, -⟩ := hs6.parts
                  clear e1 e2 e3 e4 p1 p2
                  have hNB := K6.out.1.below hb6 K6.out.1.lt
                  obtain ⟨e1, e2, e3, e4⟩ := hNB.cells
                  have K7 := Hid.mk (And.intro hNB (And.intro hs6 (K6.out.2.2.2.trans (hb6.mono K6.out.2.2.2.size))))
                  clear hNB hs6 hb6
                  go_wp2_with fail
                  go_roundw
                  case measure => simp [intOf]; omega
                  case rel =>
                    refine ⟨t + 1, _, _, by omega, by go_num, K7.out.1.put _ _, ?_, (K7.out.2.2.setCell HSB.out _).setCell HSB.out _⟩
                    exact (K7.out.2.1.box K7.out.1.ty (by decide) _ _).mono (by omega)
              · have hte : t = q := by omega
                have hIk := HB2.out.1.keep (KR.of_below K5.out.2.2.1)
                obtain ⟨-, co, ecap, f0, f1, f2, f3, f4, f5, f6⟩ := hIk.open_
                obtain ⟨gO, rfl, y1⟩ := f5 a har
                obtain ⟨nb7, so7, n7, cp7, y2, y3, y4, y5, -⟩ := f6 a e har hec
                obtain ⟨e1, e2, -, -⟩ := K5.out.1.cells
                rw [Nat.mul_comm 2] at y2 y3 y4 y5
                have HI := Hid.mk (And.intro hIk hte)
                clear c2 c3 c4 c5 c6 d0 d1 d2 d3 d4 d5 d6 f5 f6 hIk hte
                go_wp2_with fail
                go_region
                all_goals
                  go_wp2_with fail
                  go_roundw
                  case measure => simp [intOf]; omega
                  case rel =>
                    have hset := HI.out.1.set har hec (K5.out.2.1.mono (M := L + M + 12) (by omega)) (AtB.zero _)
                    rw [Nat.mul_comm 2] at hset
                    have hge := (HGO.out a har).1
                    exact ⟨e + 1, _, by omega, by go_num, hset, ((K5.out.2.2.2.setCell hge _).setCell hge _).drew, Hid.mk (HU2.out.next (by rw [HI.out.2]))⟩
          · go_wp2_with fail
            go_roundw
            case measure => simp [intOf]; omega
            case rel => exact ⟨a + 1, g, by omega, by go_num, HB2.out.1, HB2.out.2, Hid.mk (HU2.out.row (by omega))⟩
      · go_wp2_with fail
        go_ret
        exact ⟨rfl, ⟨go, HB.out.1.congr (fun i j hi hj => HU.out i j hj (.inl (by omega)))⟩, HB.out.2⟩
end Go.Proofs.YtfjbijpagaipnaaGreatDoor.R
