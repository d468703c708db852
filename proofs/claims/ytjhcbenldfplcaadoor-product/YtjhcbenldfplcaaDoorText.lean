/- matriceskeep.mat.text. -/
import Derived.Test.YtjhcbenldfplcaaDoorMat
import Derived.Test.YtjhcbenldfplcaaDoorTok
namespace Go.Proofs.YtjhcbenldfplcaaDoor
open Go.RowKit

def headT (r c : Nat) : List UInt8 := Lib.itoa (r : Int) ++ (120 :: (Lib.itoa (c : Int) ++ [58]))
theorem head_str (a b : List UInt8) : ((⟨a.toArray⟩ : ByteArray) ++ ⟨[120].toArray⟩ ++ ⟨b.toArray⟩ ++ ⟨[58].toArray⟩) = ⟨(a ++ (120 :: (b ++ [58]))).toArray⟩ := by
  rw [str_app, str_app, str_app]; simp
set_option maxRecDepth 100000 in
set_option maxHeartbeats 2000000 in
theorem text_pos (B g cap r c : Nat) (gs : Nat → Nat) (e : Nat → Nat → Int) (w : World) (h : Mat B w (.slice (some ⟨g, 0, none⟩) r cap) r c gs e) (hr : r ≤ 9) (hc : c ≤ 9) (hrc : r ≤ cap) (hcap : cap ≤ 9223372036854775807)
    (hb : ∀ i j, i < r → j < c → -1000000000 ≤ e i j ∧ e i j ≤ 1000000000) :
    Calls Tryd.prog 17 #[.slice (some ⟨g, 0, none⟩) r cap, .int .i64 c] w fun x w' => x = .returned (.string ⟨(headT r c ++ bodyT c 0 (toks r c e)).toArray⟩) ∧ Below w.heap.size w w' := by
  have hgl : g < w.heap.size := by
    rcases h.shape with ⟨h1, _⟩ | ⟨g', _, h1, _, _, _, h2, _⟩
    · simp at h1
    · simp at h1; rw [h1.1]; exact h2
  have H := Hid.mk (And.intro h hb)
  clear h hb
  go_enter Tryd.func17, Tryd.ntmps17
  go_wp2_with fail
  refine (number_nat r r _ (Nat.le_refl _) (by omega)).mono ?_
  rintro e1 w1 ⟨rfl, hb1⟩
  have hl1 : (Lib.itoa (r : Int)).length ≤ 21 := Lib.itoa_length_le _ (by omega) (by omega)
  generalize hT1 : Lib.itoa (r : Int) = T1 at *
  have HT1 := Hid.mk hT1
  have HB1 := Hid.mk hb1
  clear hT1 hb1
  go_wp2_with fail
  refine (number_nat c c _ (Nat.le_refl _) (by omega)).mono ?_
  rintro e2 w2 ⟨rfl, hb2⟩
  have hl2 : (Lib.itoa (c : Int)).length ≤ 21 := Lib.itoa_length_le _ (by omega) (by omega)
  generalize hT2 : Lib.itoa (c : Int) = T2 at *
  have HT2 := Hid.mk hT2
  have HB2 := Hid.mk (HB1.out.trans (hb2.mono HB1.out.size))
  clear hT2 hb2 HB1
  go_wp2_with fail
  go_loopw [7, 8] (fun v i wr => ∃ (k : Nat) (T : List UInt8), k ≤ r ∧ i = .int .i64 k ∧ v = .string ⟨T.toArray⟩ ∧ T.length ≤ 100 + 30 * (k * 9) ∧ Below w.heap.size w wr ∧ Hid (T = headT r c ++ bodyT c 0 ((toks r c e).take (k * c)))) (fun _ i _ => r - (intOf i).toNat)
  case atStart =>
    refine ⟨0, headT r c, Nat.zero_le _, rfl, ?_, ?_, HB2.out, Hid.mk ?_⟩
    · unfold headT; rw [HT1.out, HT2.out]; exact val_str (head_str T1 T2)
    · unfold headT; rw [HT1.out, HT2.out]; simp; omega
    · simp [bodyT]
  case round =>
    obtain ⟨k, T, hk, rfl, rfl, hT, hB, HT⟩ := hrel
    have HBB := Hid.mk hB
    clear hB
    by_cases hkr : k < r
    · go_wp2_with fail
      go_loopw [7, 9] (fun v i wr => ∃ (j : Nat) (T : List UInt8), j ≤ c ∧ i = .int .i64 j ∧ v = .string ⟨T.toArray⟩ ∧ T.length ≤ 100 + 30 * (k * 9 + j) ∧ Below w.heap.size w wr ∧ Hid (T = headT r c ++ bodyT c 0 ((toks r c e).take (k * c + j)))) (fun _ i _ => c - (intOf i).toNat)
      case atStart => exact ⟨0, T, Nat.zero_le _, rfl, rfl, by omega, HBB.out, Hid.mk (by simpa using HT.out)⟩
      case round =>
        clear HBB
        obtain ⟨j, T', hj, rfl, rfl, hT', hB, HT'⟩ := hrel
        have HBB := Hid.mk hB
        clear hB
        by_cases hjc : j < c
        · have hM := H.out.1.keep (KB.of_below HBB.out)
          have c0 := hM.cell k hkr
          have c1 := (hM.2 k hkr).cell j hjc
          have bb := H.out.2 k j hkr hjc
          have hnx := toks_next e hkr hjc
          generalize gs k = G at c0 c1
          generalize hz : e k j = z at c1 bb hnx
          obtain ⟨b1, b2⟩ := bb
          have hlz : (Lib.itoa z).length ≤ 21 := Lib.itoa_length_le _ (by omega) (by omega)
          have HNX := Hid.mk hnx
          clear hM hz hnx
          by_cases hs : 0 < k ∧ j = 0
          · have hj0 : ((j : Int) == 0) = true := beq_iff_eq.2 (by omega)
            have hk0 : 0 < k := hs.1
            have HS := Hid.mk hs
            clear hs
            go_wp2_with fail
            refine (number_any z _ (by omega) (by omega)).mono ?_
            rintro e3 w3 ⟨rfl, hb3⟩
            generalize hT3 : Lib.itoa z = T3 at *
            have HT3 := Hid.mk hT3
            have HB3 := Hid.mk (HBB.out.trans (hb3.mono HBB.out.size))
            clear hT3 hb3 HBB
            go_wp2_with fail
            go_roundw
            case measure => simp [intOf]; omega
            case rel =>
              refine ⟨j + 1, T' ++ ([59] ++ (32 :: T3)), by omega, by go_num, ?_, by simp; omega, HB3.out, Hid.mk ?_⟩
              · refine val_str ?_
                rw [show T' ++ ([59] ++ (32 :: T3)) = (T' ++ [59]) ++ [32] ++ T3 from by simp, ← str_app, ← str_app, ← str_app]
              · have h1 := HNX.out
                rw [if_pos HS.out] at h1
                rw [← Nat.add_assoc, h1, HT'.out]; simp
          · have HS := Hid.mk hs
            by_cases hj00 : j = 0
            · have hj0 : ((j : Int) == 0) = true := beq_iff_eq.2 (by omega)
              have hk0 : decide (0 < k) = false := by simp; omega
              clear hs hj00
              go_wp2_with fail
              refine (number_any z _ (by omega) (by omega)).mono ?_
              rintro e3 w3 ⟨rfl, hb3⟩
              generalize hT3 : Lib.itoa z = T3 at *
              have HT3 := Hid.mk hT3
              have HB3 := Hid.mk (HBB.out.trans (hb3.mono HBB.out.size))
              clear hT3 hb3 HBB
              go_wp2_with fail
              go_roundw
              case measure => simp [intOf]; omega
              case rel =>
                refine ⟨j + 1, T' ++ (32 :: T3), by omega, by go_num, ?_, by simp; omega, HB3.out, Hid.mk ?_⟩
                · refine val_str ?_
                  rw [show T' ++ (32 :: T3) = T' ++ [32] ++ T3 from by simp, ← str_app, ← str_app]
                · have h1 := HNX.out
                  rw [if_neg HS.out] at h1
                  rw [← Nat.add_assoc, h1, HT'.out]; simp
            · have hj0 : ((j : Int) == 0) = false := beq_eq_false_iff_ne.2 (by omega)
              clear hs hj00
              go_wp2_with fail
              refine (number_any z _ (by omega) (by omega)).mono ?_
              rintro e3 w3 ⟨rfl, hb3⟩
              generalize hT3 : Lib.itoa z = T3 at *
              have HT3 := Hid.mk hT3
              have HB3 := Hid.mk (HBB.out.trans (hb3.mono HBB.out.size))
              clear hT3 hb3 HBB
              go_wp2_with fail
              go_roundw
              case measure => simp [intOf]; omega
              case rel =>
                refine ⟨j + 1, T' ++ (32 :: T3), by omega, by go_num, ?_, by simp; omega, HB3.out, Hid.mk ?_⟩
                · refine val_str ?_
                  rw [show T' ++ (32 :: T3) = T' ++ [32] ++ T3 from by simp, ← str_app, ← str_app]
                · have h1 := HNX.out
                  rw [if_neg HS.out] at h1
                  rw [← Nat.add_assoc, h1, HT'.out]; simp
        · have hje : j = c := by omega
          have HJ := Hid.mk hje
          clear hje
          go_wp2_with fail
          go_roundw
          case measure => simp [intOf]; omega
          case rel =>
            refine ⟨k + 1, T', by omega, by go_num, rfl, by omega, HBB.out, Hid.mk ?_⟩
            rw [HT'.out, HJ.out, Nat.succ_mul]
    · have hke : k = r := by omega
      have HK := Hid.mk hke
      clear hke
      go_wp2_with fail
      go_ret
      refine ⟨ret_str ?_, HBB.out⟩
      rw [HT.out, HK.out, List.take_of_length_le (by simp [toks])]
set_option maxRecDepth 100000 in
set_option maxHeartbeats 2000000 in
theorem text_nil (w : World) :
    Calls Tryd.prog 17 #[.slice none 0 0, .int .i64 0] w fun x w' => x = .returned (.string ⟨(headT 0 0).toArray⟩) ∧ Below w.heap.size w w' := by
  go_enter Tryd.func17, Tryd.ntmps17
  go_wp2_with fail
  refine (number_nat 0 0 _ (Nat.le_refl _) (by omega)).mono ?_
  rintro e1 w1 ⟨rfl, hb1⟩
  have hl1 : (Lib.itoa ((0 : Nat) : Int)).length ≤ 21 := Lib.itoa_length_le _ (by omega) (by omega)
  generalize hT1 : Lib.itoa ((0 : Nat) : Int) = T1 at *
  have HT1 := Hid.mk hT1
  have HB1 := Hid.mk hb1
  clear hT1 hb1
  go_wp2_with fail
  refine (number_nat 0 0 _ (Nat.le_refl _) (by omega)).mono ?_
  rintro e2 w2 ⟨rfl, hb2⟩
  have HB2 := Hid.mk (HB1.out.trans (hb2.mono HB1.out.size))
  rw [HT1.out]
  clear hb2 HB1
  go_wp2_with fail
  go_loop [7, 8] (fun v i => v = .string ⟨(headT 0 0).toArray⟩ ∧ i = .int .i64 0) (fun _ _ => 0)
  case atStart =>
    refine ⟨?_, rfl⟩
    unfold headT
    rw [HT1.out]; exact val_str (head_str T1 T1)
  case round =>
    obtain ⟨rfl, rfl⟩ := hrel
    go_wp2_with fail
    go_ret
    exact ⟨rfl, HB2.out⟩
/-- text, of a square matrix. -/
theorem text_any (B n : Nat) (v : Value) (gs : Nat → Nat) (e : Nat → Nat → Int) (w : World) (h : Mat B w v n n gs e) (hn : n ≤ 9)
    (hb : ∀ i j, i < n → j < n → -1000000000 ≤ e i j ∧ e i j ≤ 1000000000) :
    Calls Tryd.prog 17 #[v, .int .i64 n] w fun x w' => x = .returned (.string ⟨(headT n n ++ bodyT n 0 (toks n n e)).toArray⟩) ∧ Below w.heap.size w w' := by
  rcases h.shape with ⟨rfl, rfl⟩ | ⟨g, cap, rfl, h1, h2, _⟩
  · refine (text_nil w).mono ?_
    rintro x w' ⟨rfl, hb⟩
    refine ⟨ret_str ?_, hb⟩
    simp [toks, bodyT]
  · exact text_pos B g cap n n gs e w h hn hn h1 h2 hb
theorem text_writes (n : Nat) (e : Nat → Nat → Int) (hb : ∀ i j, i < n → j < n → -1000000000 ≤ e i j ∧ e i j ≤ 1000000000) :
    Writes ⟨(headT n n ++ bodyT n 0 (toks n n e)).toArray⟩ n n (nums n n e) 21 := by
  refine writes_toks n n e _ (fun i j hi hj => ?_) ?_
  · have := hb i j hi hj; omega
  · simp [headT]
theorem body_len (c : Nat) : ∀ (l : List (List UInt8)) (t : Nat), (∀ x ∈ l, x.length ≤ 21) → (bodyT c t l).length ≤ 23 * l.length
  | [], _, _ => by simp [bodyT]
  | a :: l, t, h => by
    have h1 := body_len c l (t + 1) (fun x hx => h x (by simp [hx]))
    have h2 := h a (by simp)
    unfold bodyT
    split <;> (simp; omega)
theorem text_len (n : Nat) (e : Nat → Nat → Int) (hn : n ≤ 4) (hb : ∀ i j, i < n → j < n → -1000000000 ≤ e i j ∧ e i j ≤ 1000000000) :
    (⟨(headT n n ++ bodyT n 0 (toks n n e)).toArray⟩ : ByteArray).size ≤ 4000 := by
  have h1 : (bodyT n 0 (toks n n e)).length ≤ 23 * (toks n n e).length := by
    refine body_len n _ 0 (fun x hx => ?_)
    obtain ⟨t, ht, rfl⟩ := List.mem_map.1 hx
    have ht := List.mem_range.1 ht
    have hc : 0 < n := by rcases Nat.eq_zero_or_pos n with h | h; · subst h; simp at ht
                          · exact h
    have := hb (t / n) (t % n) (Nat.div_lt_of_lt_mul ht) (Nat.mod_lt _ hc)
    exact Lib.itoa_length_le _ (by omega) (by omega)
  have h2 : (toks n n e).length ≤ 16 := by
    have : n * n ≤ 4 * 4 := Nat.mul_le_mul hn hn
    simp [toks]; omega
  have h3 : (Lib.itoa (n : Int)).length ≤ 21 := Lib.itoa_length_le _ (by omega) (by omega)
  show (headT n n ++ bodyT n 0 (toks n n e)).toArray.size ≤ 4000
  simp [headT]; omega
end Go.Proofs.YtjhcbenldfplcaaDoor
