import Derived.Test.YtfjbijpagaipnaaGreatDoorC18
/- matricesref.N: Times. -/
namespace Go.Proofs.YtfjbijpagaipnaaGreatDoor.R
open Go.RowKit

/-- The digits' sums, before anything is carried: no entry is too great. -/
def Low (zs : List Nat) (b : Nat) : Prop := ∀ k, zs.getD k 0 ≤ b
theorem getD_set_self (zs : List Nat) (k c : Nat) (hk : k < zs.length) : (zs.set k c).getD k 0 = c := by simp [List.getD, hk]
theorem carry_top {zs : List Nat} {n V : Nat} (hl : zs.length = n + 1) (hlo : ∀ k, k < n → zs.getD k 0 < 10000) (hv : val zs = V) (hV : V < 10000 ^ n) : Lo zs := by
  have h1 : val zs = val (zs.take n) + 10000 ^ n * zs.getD n 0 := by
    have := val_take_next zs n
    rw [List.take_of_length_le (by omega)] at this
    exact this
  have h0 : zs.getD n 0 = 0 := by
    rcases Nat.eq_zero_or_pos (zs.getD n 0) with h | h
    · exact h
    · have : 10000 ^ n * 1 ≤ 10000 ^ n * zs.getD n 0 := Nat.mul_le_mul_left _ h
      omega
  intro x hx
  obtain ⟨i, hi, rfl⟩ := List.mem_iff_getElem.1 hx
  have hg : zs.getD i 0 = zs[i] := by simp [List.getD, List.getElem?_eq_getElem hi]
  rw [← hg]
  by_cases hin : i < n
  · exact hlo i hin
  · rw [show i = n by omega, h0]; decide
theorem carry_val {zs : List Nat} {i : Nat} (hi : i + 1 < zs.length) : val ((zs.set (i + 1) (zs.getD (i + 1) 0 + zs.getD i 0 / 10000)).set i (zs.getD i 0 % 10000)) = val zs := by
  have h1 := val_set zs (i + 1) (zs.getD (i + 1) 0 + zs.getD i 0 / 10000) hi
  have h2 := val_set (zs.set (i + 1) (zs.getD (i + 1) 0 + zs.getD i 0 / 10000)) i (zs.getD i 0 % 10000) (by simp; omega)
  rw [getD_set_ne _ _ _ _ (by omega)] at h2
  have h3 := Nat.div_add_mod (zs.getD i 0) 10000
  generalize zs.getD i 0 = a at *
  generalize zs.getD (i + 1) 0 = b at *
  generalize hq : a / 10000 = q at *
  generalize hm : a % 10000 = m at *
  rw [Nat.pow_succ] at h1
  generalize 10000 ^ i = P at *
  have e1 : P * 10000 * (b + q) = P * 10000 * b + P * (10000 * q) := by rw [Nat.mul_add, Nat.mul_assoc P 10000 q]
  have e2 : P * a = P * (10000 * q) + P * m := by rw [← h3, Nat.mul_add]
  omega
theorem conv_step {qs : List Nat} {k j z x y V T : Nat} (hk : k + j < qs.length) (hz : z = qs.getD (k + j) 0) (h : val qs = V + 10000 ^ k * (x * T)) : val (qs.set (k + j) (z + x * y)) = V + 10000 ^ k * (x * (T + 10000 ^ j * y)) := by
  have h1 := val_set qs (k + j) (z + x * y) hk
  rw [← hz, Nat.pow_add] at h1
  have e1 : 10000 ^ k * 10000 ^ j * (z + x * y) = 10000 ^ k * 10000 ^ j * z + 10000 ^ k * (x * (10000 ^ j * y)) := by
    rw [Nat.mul_add, Nat.mul_left_comm x, Nat.mul_assoc (10000 ^ k) (10000 ^ j) (x * y)]
  have e2 : 10000 ^ k * (x * (T + 10000 ^ j * y)) = 10000 ^ k * (x * T) + 10000 ^ k * (x * (10000 ^ j * y)) := by rw [Nat.mul_add, Nat.mul_add]
  generalize 10000 ^ k * 10000 ^ j * z = A at *
  generalize 10000 ^ k * (x * (10000 ^ j * y)) = B at *
  generalize 10000 ^ k * (x * T) = C at *
  omega
theorem conv_done {xs : List Nat} {k x Y Q : Nat} (hx : x = xs.getD k 0) (h : Q = val (xs.take k) * Y + 10000 ^ k * (x * Y)) : Q = val (xs.take (k + 1)) * Y := by
  rw [h, val_take_next, ← hx, Nat.add_mul, Nat.mul_assoc]
theorem getD_set_le {qs : List Nat} {k c b i : Nat} (hc : c ≤ b) (h : ∀ i, qs.getD i 0 ≤ b) : (qs.set k c).getD i 0 ≤ b := by
  by_cases hk : k = i
  · subst hk
    by_cases hl : k < qs.length
    · rw [getD_set_self _ _ _ hl]; exact hc
    · rw [List.set_eq_of_length_le (by omega)]; exact h k
  · rw [getD_set_ne _ _ _ _ hk]; exact h i
set_option maxRecDepth 100000 in
set_option maxHeartbeats 4000000 in
theorem ntimes_any (v u : Value) (x y : Int) (L M : Nat) (w : World) (hv : IsN w v x L) (hu : IsN w u y M) (hL : L ≤ 50000000000) (hM : M ≤ 50000000000) :
    Calls Tryz.prog 177 #[v, u] w fun e w' => ∃ r, e = .returned r ∧ NOut w w' r (x * y) (L + M + 1) := by
  obtain ⟨na, ao, cap, xs, rfl, h2, h3, h4, h5, h6⟩ := hv.parts
  obtain ⟨nb, bo, dap, ys, rfl, k2, k3, k4, k5, k6⟩ := hu.parts
  have H := Hid.mk (And.intro h2 (And.intro h3 (And.intro h4 (And.intro h5 h6))))
  have J := Hid.mk (And.intro k2 (And.intro k3 (And.intro k4 (And.intro k5 k6))))
  clear hv hu h2 h3 h4 h5 k2 k3 k4 k5
  have BB := Hid.mk (And.intro ((((NBox.new w (.bool na) (.slice ao xs.length cap) rfl).alloc (.cells #[.bool nb, .slice bo ys.length dap] 138)).alloc (.cells #[.bool false, .slice none 0 0] 138))) (And.intro ((NBox.new (w.alloc (.cells #[.bool na, .slice ao xs.length cap] 138)) (.bool nb) (.slice bo ys.length dap) (b := w.heap.size + 1) (by simp)).alloc (.cells #[.bool false, .slice none 0 0] 138))
    (NBox.new ((w.alloc (.cells #[.bool na, .slice ao xs.length cap] 138)).alloc (.cells #[.bool nb, .slice bo ys.length dap] 138)) (.bool false) (.slice none 0 0) (b := w.heap.size + 1 + 1) (by simp))))
  go_enter Tryz.func177, Tryz.ntmps177
  go_wp2_with (refine make_digits _ rfl _ _ rfl _ _ (xs.length + ys.length + 1) rfl rfl (by omega) (by omega) (by omega) ?_)
  intro w1 hown hbel
  obtain ⟨W0, hW0⟩ : ∃ W0, W0 = ((w.alloc (.cells #[.bool na, .slice ao xs.length cap] 138)).alloc (.cells #[.bool nb, .slice bo ys.length dap] 138)).alloc (.cells #[.bool false, .slice none 0 0] 138) := ⟨_, rfl⟩
  have hz0 : W0.heap.size = w.heap.size + 1 + 1 + 1 := by rw [hW0]; simp
  have hbw0 : Below w.heap.size w W0 := by rw [hW0]; repeat (first | exact Below.refl _ _ | refine Below.alloc ?_ (by simp <;> omega) _)
  rw [← hW0] at BB hbel
  have hbel0 : Below W0.heap.size W0 w1 := by rw [hz0]; exact hbel
  clear hbel
  have hbel := hbel0
  clear hbel0
  obtain ⟨G, hG⟩ : ∃ G, G = w.heap.size + 1 + 1 + 1 := ⟨_, rfl⟩
  rw [← hG] at hown hz0 ⊢
  obtain ⟨NN, hNN⟩ : ∃ NN, NN = xs.length + ys.length + 1 := ⟨_, rfl⟩
  rw [← hNN] at hown ⊢
  have K0 := Hid.mk (And.intro hown (And.intro hbel (And.intro hbw0 hW0)))
  have HNN := Hid.mk hNN
  have HG := Hid.mk (And.intro hG hz0)
  have hNb : NN ≤ 100000000001 := by omega
  clear hown hbel hbw0 hW0 hNN hG hz0
  go_wp2_with fail
  go_loopw [6] (fun i wr => ∃ (k : Nat) (zs : List Nat), k ≤ xs.length ∧ i = .int .i64 k ∧ Hid (zs.length = NN) ∧ Own wr (.slice (some ⟨G, 0, none⟩) NN NN) zs ∧ Below W0.heap.size W0 wr ∧
      Hid (val zs = val (xs.take k) * val ys ∧ ∀ j, zs.getD j 0 ≤ k * 100000000)) (fun i _ => xs.length - (intOf i).toNat)
  case atStart =>
    refine ⟨0, _, Nat.zero_le _, rfl, Hid.mk List.length_replicate, K0.out.1, K0.out.2.1, Hid.mk ⟨?_, fun j => ?_⟩⟩
    · rw [val_zeros (fun x hx => List.eq_of_mem_replicate hx)]; simp [val]
    · by_cases hj : j < NN <;> simp [List.getD, hj]
  case round =>
    obtain ⟨k, zs, hk, rfl, HZL, hown, hbel, HI⟩ := hrel
    obtain ⟨a1, a2, -, -⟩ := (BB.out.1.below hbel BB.out.1.lt).cells
    have K := Hid.mk (And.intro hown hbel)
    clear hown hbel
    by_cases hkN : k < xs.length
    · obtain ⟨b, rfl, hb0⟩ := H.out.1.at_ rfl k hkN
      have hxk := Lo_get H.out.2.1.1 k
      obtain ⟨x1, hx⟩ : ∃ x, x = xs.getD k 0 := ⟨_, rfl⟩
      rw [← hx] at hxk hb0
      have HX := Hid.mk hx
      have HB := Hid.mk hb0
      have hki : (k : Int) < (xs.length : Int) := by omega
      clear hx hb0
      go_wp2_with fail
      go_loopw [7] (fun i ws => ∃ (j : Nat) (qs : List Nat), j ≤ ys.length ∧ i = .int .i64 j ∧ Hid (qs.length = NN) ∧ Own ws (.slice (some ⟨G, 0, none⟩) NN NN) qs ∧ Below W0.heap.size W0 ws ∧
          Hid (val qs = val (xs.take k) * val ys + 10000 ^ k * (x1 * val (ys.take j)) ∧ (∀ i, qs.getD i 0 ≤ (k + 1) * 100000000) ∧ ∀ i, k + j ≤ i → qs.getD i 0 ≤ k * 100000000)) (fun i _ => ys.length - (intOf i).toNat)
      case atStart =>
        refine ⟨0, zs, Nat.zero_le _, rfl, HZL, K.out.1, K.out.2, Hid.mk ⟨by have := HI.out.1; simp [val, this], fun i => ?_, fun i _ => HI.out.2 i⟩⟩
        exact Nat.le_trans (HI.out.2 i) (Nat.mul_le_mul_right _ (Nat.le_succ k))
      case round =>
        rename World => ws
        obtain ⟨j, qs, hj, rfl, HQ, hown, hbel, HI2⟩ := hrel
        have hbw : Below w.heap.size w ws := K0.out.2.2.1.trans (hbel.mono (by have := HG.out.1; have := HG.out.2; omega))
        clear a1 a2
        obtain ⟨a1, a2, -, -⟩ := (BB.out.1.below hbel BB.out.1.lt).cells
        obtain ⟨b1, b2, -, -⟩ := (BB.out.2.1.below hbel BB.out.2.1.lt).cells
        have hb1 := cell_later hbw HB.out
        by_cases hjN : j < ys.length
        · obtain ⟨d, rfl, hd0⟩ := J.out.1.at_ rfl j hjN
          have hd1 := cell_later hbw hd0
          have hyk := Lo_get J.out.2.1.1 j
          have hkjN : k + j < NN := by have := HNN.out; omega
          have hz1 := hown.cell HQ.out (k + j) hkjN
          have hz2 := hown.frozen HQ.out (k + j)
          have hzk := HI2.out.2.2 (k + j) (Nat.le_refl _)
          obtain ⟨y1, hy⟩ : ∃ y, y = ys.getD j 0 := ⟨_, rfl⟩
          obtain ⟨z1, hz⟩ : ∃ z, z = qs.getD (k + j) 0 := ⟨_, rfl⟩
          rw [← hy] at hyk hd1
          rw [← hz] at hz1 hzk
          have hp : x1 * y1 ≤ 9999 * 9999 := Nat.mul_le_mul (by omega) (by omega)
          have HYY := Hid.mk hy
          have HZ := Hid.mk hz
          have hji : (j : Int) < (ys.length : Int) := by omega
          have K2 := Hid.mk (And.intro hown (And.intro hbel hbw))
          clear hy hz hd0 hown hbel hbw
          go_wp2_with fail
          go_region
          all_goals
            go_wp2_with fail
            go_roundw
            case measure => simp [intOf]; omega
            case rel =>
              refine ⟨j + 1, qs.set (k + j) (z1 + x1 * y1), by omega, by go_num, Hid.mk (by simp [HQ.out]), K2.out.1.stored_int HQ.out (k + j) _ ?_, ?_, Hid.mk ⟨?_, fun i => ?_, fun i hi => ?_⟩⟩
              · simp
              · exact (K2.out.2.1.setCell (by have := HG.out.2; simp; omega) _).drew
              · rw [val_take_next, ← HYY.out]
                exact conv_step (by rw [HQ.out]; exact hkjN) HZ.out HI2.out.1
              · refine getD_set_le ?_ HI2.out.2.1
                have e1 : (k + 1) * 100000000 = k * 100000000 + 100000000 := Nat.succ_mul _ _
                rw [e1]
                exact Nat.add_le_add hzk (Nat.le_trans hp (by decide))
              · rw [getD_set_ne _ _ _ _ (by omega)]; exact HI2.out.2.2 i (by omega)
        · have hji : ¬ (j : Int) < (ys.length : Int) := by omega
          have K2 := Hid.mk (And.intro hown hbel)
          clear hown hbel hbw
          go_wp2_with fail
          go_roundw
          case measure => simp [intOf]; omega
          case rel =>
            refine ⟨k + 1, qs, by omega, by go_num, HQ, K2.out.1, K2.out.2, Hid.mk ⟨?_, HI2.out.2.1⟩⟩
            have h1 := HI2.out.1
            rw [show ys.take j = ys from List.take_of_length_le (by omega)] at h1
            exact conv_done HX.out h1
    · have hki : ¬ (k : Int) < (xs.length : Int) := by omega
      go_wp2_with fail
      go_loopw [8] (fun i ws => ∃ (j : Nat) (qs : List Nat), j + 1 ≤ NN ∧ i = .int .i64 j ∧ Hid (qs.length = NN) ∧ Own ws (.slice (some ⟨G, 0, none⟩) NN NN) qs ∧ Below W0.heap.size W0 ws ∧
          Hid (val qs = val xs * val ys ∧ (∀ i, i < j → qs.getD i 0 < 10000) ∧ qs.getD j 0 ≤ 6000000000000000000 ∧ ∀ i, j < i → qs.getD i 0 ≤ 5000000000000000000)) (fun i _ => NN - (intOf i).toNat)
      case atStart =>
        have hz : ∀ i, zs.getD i 0 ≤ 5000000000000000000 := fun i => Nat.le_trans (HI.out.2 i) (Nat.le_trans (Nat.mul_le_mul_right _ (show k ≤ 50000000000 by omega)) (by decide))
        refine ⟨0, zs, by have := HNN.out; omega, rfl, HZL, K.out.1, K.out.2, Hid.mk ⟨?_, fun i hi => by omega, Nat.le_trans (hz 0) (by decide), fun i _ => hz i⟩⟩
        have h1 := HI.out.1
        rw [show xs.take k = xs from List.take_of_length_le (by omega)] at h1
        exact h1
      case round =>
        rename World => ws
        obtain ⟨j, qs, hj, rfl, HQ, hown, hbel, HI2⟩ := hrel
        clear a1 a2
        by_cases hjN : j + 1 < NN
        · have hz1 := hown.cell HQ.out j (by omega)
          have hz2 := hown.frozen HQ.out j
          have hy1 := hown.cell HQ.out (j + 1) hjN
          have hy2 := hown.frozen HQ.out (j + 1)
          have hzb := HI2.out.2.2.1
          have hyb := HI2.out.2.2.2 (j + 1) (by omega)
          obtain ⟨z1, hz⟩ : ∃ z, z = qs.getD j 0 := ⟨_, rfl⟩
          obtain ⟨y1, hy⟩ : ∃ y, y = qs.getD (j + 1) 0 := ⟨_, rfl⟩
          rw [← hz] at hz1 hzb
          rw [← hy] at hy1 hyb
          have HZ := Hid.mk (And.intro hz hy)
          have hji : (j : Int) + 1 < (NN : Int) := by omega
          have K2 := Hid.mk (And.intro hown hbel)
          clear hz hy hown hbel
          go_wp2_with fail
          go_region
          have own2 : Own (ws.setCell ⟨G, j + 1, none⟩ (.int .i64 ((y1 : Int) + (z1 : Int) / 10000))).drew (.slice (some ⟨G, 0, none⟩) NN NN) (qs.set (j + 1) (y1 + z1 / 10000)) := K2.out.1.stored_int HQ.out (j + 1) _ (by omega)
          obtain ⟨ws2, hws2⟩ : ∃ ws2, ws2 = (ws.setCell ⟨G, j + 1, none⟩ (.int .i64 ((y1 : Int) + (z1 : Int) / 10000))).drew := ⟨_, rfl⟩
          have hbel2 : Below W0.heap.size W0 ws2 := by rw [hws2]; exact (K2.out.2.setCell (by have := HG.out.2; simp; omega) _).drew
          rw [← hws2] at own2 ⊢
          have HL2 := Hid.mk (show (qs.set (j + 1) (y1 + z1 / 10000)).length = NN by rw [List.length_set]; exact HQ.out)
          have d1 := own2.cell HL2.out j (by omega)
          have d2 := own2.frozen HL2.out j
          rw [getD_set_ne _ _ _ _ (by omega), ← HZ.out.1] at d1
          have K3 := Hid.mk (And.intro own2 hbel2)
          clear own2 hws2 hbel2 hz1 hz2 hy1 hy2
          go_wp2_with fail
          all_goals
            go_roundw
            case measure => simp [intOf]; omega
            case rel =>
              refine ⟨j + 1, (qs.set (j + 1) (y1 + z1 / 10000)).set j (z1 % 10000), by omega, by go_num, Hid.mk (by simp [HQ.out]), K3.out.1.stored_int HL2.out j _ (by omega), K3.out.2.setCell (by have := HG.out.2; simp; omega) _, Hid.mk ⟨?_, fun i hi => ?_, ?_, fun i hi => ?_⟩⟩
              · rw [HZ.out.1, HZ.out.2, carry_val (by rw [HQ.out]; exact hjN)]
                exact HI2.out.1
              · by_cases hij : i = j
                · subst hij
                  rw [getD_set_self _ _ _ (by rw [HL2.out]; omega)]
                  exact Nat.mod_lt _ (by decide)
                · rw [getD_set_ne _ _ _ _ (fun e => hij e.symm), getD_set_ne _ _ _ _ (by omega)]
                  exact HI2.out.2.1 i (by omega)
              · rw [getD_set_ne _ _ _ _ (by omega), getD_set_self _ _ _ (by rw [HQ.out]; exact hjN)]
                have : z1 / 10000 ≤ 6000000000000000000 / 10000 := Nat.div_le_div_right hzb
                exact Nat.le_trans (Nat.add_le_add hyb this) (by decide)
              · rw [getD_set_ne _ _ _ _ (by omega), getD_set_ne _ _ _ _ (by omega)]
                exact HI2.out.2.2.2 i (by omega)
        · have hji : ¬ (j : Int) + 1 < (NN : Int) := by omega
          obtain ⟨a1, -, -, -⟩ := (BB.out.1.below hbel BB.out.1.lt).cells
          obtain ⟨b1, -, -, -⟩ := (BB.out.2.1.below hbel BB.out.2.1.lt).cells
          have hLo : Lo qs := carry_top (n := xs.length + ys.length) (by rw [HQ.out, HNN.out]) (fun i hi => HI2.out.2.1 i (by have := HNN.out; omega)) HI2.out.1 (by
            rw [Nat.pow_add]
            exact Nat.mul_lt_mul'' (val_lt H.out.2.1.1) (val_lt J.out.2.1.1))
          have K2 := Hid.mk (And.intro hown (And.intro hbel hLo))
          clear hown hbel hLo
          go_wp2_with fail
          refine (made_any _ _ qs _ K2.out.1 K2.out.2.2).mono ?_
          rintro e w2 ⟨r2, rfl, hr2, hb2⟩
          obtain ⟨ng, co, ecap, vs, rfl, -⟩ := hr2.parts
          have B3 := (BB.out.2.2.below K2.out.2.1 BB.out.2.2.lt).below hb2 (BB.out.2.2.below K2.out.2.1 BB.out.2.2.lt).lt
          obtain ⟨c1, c2, c3, c4⟩ := B3.cells
          have c5 := B3.put1 (.bool ng)
          have hbw : Below w.heap.size w w2 := K0.out.2.2.1.trans ((K2.out.2.1.trans (hb2.mono K2.out.2.1.size)).mono (by have := HG.out.1; have := HG.out.2; omega))
          have K4 := Hid.mk (And.intro hr2 (And.intro hbw B3.ty))
          clear hr2 hb2 B3 a1 b1 hbw
          go_wp2_with fail
          refine bodyPost_ret (v := .agg #[.bool ng, .slice co vs.length ecap]) ?_ rfl ?_
          · (simp [results, Tryz.results177, go_sem, c2, c5]; done)
          · refine ⟨_, rfl, ?_, (K4.out.2.1.setCell (by simp <;> omega) _).setCell (by simp <;> omega) _⟩
            have fin := (K4.out.1.box K4.out.2.2 (by decide) (.bool ng) (.slice co vs.length ecap)).mono (M := L + M + 1) (by have := HQ.out; have := HNN.out; omega)
            have e1 := HI2.out.1
            have e2 := H.out.2.2.2.1
            have e3 := J.out.2.2.2.1
            rw [e1] at fin
            rw [e2, e3]
            cases na <;> cases nb <;> simpa [Int.neg_mul, Int.mul_neg] using fin
end Go.Proofs.YtfjbijpagaipnaaGreatDoor.R
