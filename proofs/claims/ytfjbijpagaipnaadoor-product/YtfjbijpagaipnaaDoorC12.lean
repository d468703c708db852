import Derived.Test.YtfjbijpagaipnaaDoorC10
import Derived.Test.YtfjbijpagaipnaaDoorC11
namespace Go.Proofs.YtfjbijpagaipnaaDoor
open Go.RowKit
def headT (r c : Nat) : List UInt8 := Lib.itoa (r : Int) ++ (120 :: (Lib.itoa (c : Int) ++ [58]))
theorem head_str (a b : List UInt8) : ((⟨a.toArray⟩ : ByteArray) ++ ⟨[120].toArray⟩ ++ ⟨b.toArray⟩ ++ ⟨[58].toArray⟩) = ⟨(a ++ (120 :: (b ++ [58]))).toArray⟩ := by
  rw [str_app, str_app, str_app]; simp
set_option maxRecDepth 100000 in
set_option maxHeartbeats 2000000 in
theorem text_pos (B g cap r c : Nat) (gs : Nat → Nat) (e : Nat → Nat → Int) (w : World) (h : Mat B w (.slice (some ⟨g, 0, none⟩) r cap) r c gs e) (hr : r ≤ 9) (hc : c ≤ 9) (hrc : r ≤ cap) (hcap : cap ≤ 9223372036854775807)
    (hb : ∀ i j, i < r → j < c → -1000000000 ≤ e i j ∧ e i j ≤ 1000000000) :
    Calls Tryd.prog 49 #[.slice (some ⟨g, 0, none⟩) r cap, .int .i64 c] w fun x w' => x = .returned (.string ⟨(headT r c ++ bodyT c 0 (toks r c e)).toArray⟩) ∧ Below w.heap.size w w' := by
  have hgl : g < w.heap.size := by
    rcases h.shape with ⟨h1, _⟩ | ⟨g', _, h1, _, _, _, h2, _⟩
    · simp at h1
    · simp at h1; rw [h1.1]; exact h2
  have H := Hid.mk (And.intro h hb)
  clear h hb
  go_enter Tryd.func49, Tryd.ntmps49
  go_wp2_with fail
  refine (number_nat r r _ (Nat.le_refl _) (by omega)).mono ?_
  rintro e1 w1 ⟨rfl, hb1⟩
  have hl1 : (Lib.itoa (r : Int)).length ≤ 21 := Lib.itoa_length_le _ (by omega) (by omega)
  generalize hT1 : Lib.itoa (r : Int) = T1 at *
  have HT1 := Hid.mk hT1
  have HB1 := Hid.mk hb1
  clear hT1 hb1
  go_wp2_with fail
  refine (number_nat c c _ (Nat.le_refl _) (by omega)).mono ?_
  rintro e2 w2 ⟨rfl, hb2⟩
  have hl2 : (Lib.itoa (c : Int)).length ≤ 21 := Lib.itoa_length_le _ (by omega) (by omega)
  generalize hT2 : Lib.itoa (c : Int) = T2 at *
  have HT2 := Hid.mk hT2
  have HB2 := Hid.mk (HB1.out.trans (hb2.mono HB1.out.size))
  clear hT2 hb2 HB1
  go_wp2_with fail
  go_loopw [7, 8] (fun v i wr => ∃ (k : Nat) (T : List UInt8), k ≤ r ∧ i = .int .i64 k ∧ v = .string ⟨T.toArray⟩ ∧ T.length ≤ 100 + 30 * (k * 9) ∧ Below w.heap.size w wr ∧ Hid (T = headT r c ++ bodyT c 0 ((toks r c e).take (k * c)))) (fun _ i _ => r - (intOf i).toNat)
  case atStart =>
    refine ⟨0, headT r c, Nat.zero_le _, rfl, ?_, ?_, HB2.out, Hid.mk ?_⟩
    · unfold headT; rw [HT1.out, HT2.out]; exact val_str (head_str T1 T2)
    · unfold headT; rw [HT1.out, HT2.out]; simp; omega
    · simp [bodyT]
  case round =>
    obtain ⟨k, T, hk, rfl, rfl, hT, hB, HT⟩ := hrel
    have HBB := Hid.mk hB
    clear hB
    by_cases hkr : k < r
    · go_wp2_with fail
      go_loopw [7, 9] (fun v i wr => ∃ (j : Nat) (T : List UInt8), j ≤ c ∧ i = .int .i64 j ∧ v = .string ⟨T.toArray⟩ ∧ T.length ≤ 100 + 30 * (k * 9 + j) ∧ Below w.heap.size w wr ∧ Hid (T = headT r c ++ bodyT c 0 ((toks r c e).take (k * c + j)))) (fun _ i _ => c - (intOf i).toNat)
      case atStart => exact ⟨0, T, Nat.zero_le _, rfl, rfl, by omega, HBB.out, Hid.mk (by simpa using HT.out)⟩
      case round =>
        clear HBB
        obtain ⟨j, T', hj, rfl, rfl, hT', hB, HT'⟩ := hrel
        have HBB := Hid.mk hB
        clear hB
        by_cases hjc : j < c
        · have hM := H.out.1.keep (KB.of_below HBB.out)
          have c0 := hM.cell k hkr
          have c1 := (hM.2 k hkr).cell j hjc
          have bb := H.out.2 k j hkr hjc
          have hnx := toks_next e hkr hjc
          generalize gs k = G at c0 c1
          generalize hz : e k j = z at c1 bb hnx
          obtain ⟨b1, b2⟩ := bb
          have hlz : (Lib.itoa z).length ≤ 21 := Lib.itoa_length_le _ (by omega) (by omega)
          have HNX := Hid.mk hnx
          clear hM hz hnx
          by_cases hs : 0 < k ∧ j = 0
          · have hj0 : ((j : Int) == 0) = true := beq_iff_eq.2 (by omega)
            have hk0 : 0 < k := hs.1
            have HS := Hid.mk hs
            clear hs
            go_wp2_with fail
            refine (number_any z _ (by omega) (by omega)).mono ?_
            rintro e3 w3 ⟨rfl, hb3⟩
            generalize hT3 : Lib.itoa z = T3 at *
            have HT3 := Hid.mk hT3
            have HB3 := Hid.mk (HBB.out.trans (hb3.mono HBB.out.size))
            clear hT3 hb3 HBB
            go_wp2_with fail
            go_roundw
            case measure => simp [intOf]; omega
            case rel =>
              refine ⟨j + 1, T' ++ ([59] ++ (32 :: T3)), by omega, by go_num, ?_, by simp; omega, HB3.out, Hid.mk ?_⟩
              · refine val_str ?_
                rw [show T' ++ ([59] ++ (32 :: T3)) = (T' ++ [59]) ++ [32] ++ T3 from by simp, ← str_app, ← str_app, ← str_app]
              · have h1 := HNX.out
                rw [if_pos HS.out] at h1
                rw [← Nat.add_assoc, h1, HT'.out]; simp
          · have HS := Hid.mk hs
            by_cases hj00 : j = 0
            · have hj0 : ((j : Int) == 0) = true := beq_iff_eq.2 (by omega)
              have hk0 : decide (0 < k) = false := by simp; omega
              clear hs hj00
              go_wp2_with fail
              refine (number_any z _ (by omega) (by omega)).mono ?_
              rintro e3 w3 ⟨rfl, hb3⟩
              generalize hT3 : Lib.itoa z = T3 at *
              have HT3 := Hid.mk hT3
              have HB3 := Hid.mk (HBB.out.trans (hb3.mono HBB.out.size))
              clear hT3 hb3 HBB
              go_wp2_with fail
              go_roundw
              case measure => simp [intOf]; omega
              case rel =>
                refine ⟨j + 1, T' ++ (32 :: T3), by omega, by go_num, ?_, by simp; omega, HB3.out, Hid.mk ?_⟩
                · refine val_str ?_
                  rw [show T' ++ (32 :: T3) = T' ++ [32] ++ T3 from by simp, ← str_app, ← str_app]
                · have h1 := HNX.out
                  rw [if_neg HS.out] at h1
                  rw [← Nat.add_assoc, h1, HT'.out]; simp
            · have hj0 : ((j : Int) == 0) = false := beq_eq_false_iff_ne.2 (by omega)
              clear hs hj00
              go_wp2_with fail
              refine (number_any z _ (by omega) (by omega)).mono ?_
              rintro e3 w3 ⟨rfl, hb3⟩
              generalize hT3 : Lib.itoa z = T3 at *
              have HT3 := Hid.mk hT3
              have HB3 := Hid.mk (HBB.out.trans (hb3.mono HBB.out.size))
              clear hT3 hb3 HBB
              go_wp2_with fail
              go_roundw
              case measure => simp [intOf]; omega
              case rel =>
                refine ⟨j + 1, T' ++ (32 :: T3), by omega, by go_num, ?_, by simp; omega, HB3.out, Hid.mk ?_⟩
                · refine val_str ?_
                  rw [show T' ++ (32 :: T3) = T' ++ [32] ++ T3 from by simp, ← str_app, ← str_app]
                · have h1 := HNX.out
                  rw [if_neg HS.out] at h1
                  rw [← Nat.add_assoc, h1, HT'.out]; simp
        · have hje : j = c := by omega
          have HJ := Hid.mk hje
          clear hje
          go_wp2_with fail
          go_roundw
          case measure => simp [intOf]; omega
          case rel =>
            refine ⟨k + 1, T', by omega, by go_num, rfl, by omega, HBB.out, Hid.mk ?_⟩
            rw [HT'.out, HJ.out, Nat.succ_mul]
    · have hke : k = r := by omega
      have HK := Hid.mk hke
      clear hke
      go_wp2_with fail
      go_ret
      refine ⟨ret_str ?_, HBB.out⟩
      rw [HT.out, HK.out, List.take_of_length_le (by simp [toks])]
set_option maxRecDepth 100000 in
set_option maxHeartbeats 2000000 in
theorem text_nil (w : World) :
    Calls Tryd.prog 49 #[.slice none 0 0, .int .i64 0] w fun x w' => x = .returned (.string ⟨(headT 0 0).toArray⟩) ∧ Below w.heap.size w w' := by
  go_enter Tryd.func49, Tryd.ntmps49
  go_wp2_with fail
  refine (number_nat 0 0 _ (Nat.le_refl _) (by omega)).mono ?_
  rintro e1 w1 ⟨rfl, hb1⟩
  have hl1 : (Lib.itoa ((0 : Nat) : Int)).length ≤ 21 := Lib.itoa_length_le _ (by omega) (by omega)
  generalize hT1 : Lib.itoa ((0 : Nat) : Int) = T1 at *
  have HT1 := Hid.mk hT1
  have HB1 := Hid.mk hb1
  clear hT1 hb1
  go_wp2_with fail
  refine (number_nat 0 0 _ (Nat.le_refl _) (by omega)).mono ?_
  rintro e2 w2 ⟨rfl, hb2⟩
  have HB2 := Hid.mk (HB1.out.trans (hb2.mono HB1.out.size))
  rw [HT1.out]
  clear hb2 HB1
  go_wp2_with fail
  go_loop [7, 8] (fun v i => v = .string ⟨(headT 0 0).toArray⟩ ∧ i = .int .i64 0) (fun _ _ => 0)
  case atStart =>
    refine ⟨?_, rfl⟩
    unfold headT
    rw [HT1.out]; exact val_str (head_str T1 T1)
  case round =>
    obtain ⟨rfl, rfl⟩ := hrel
    go_wp2_with fail
    go_ret
    exact ⟨rfl, HB2.out⟩
theorem text_any (B n : Nat) (v : Value) (gs : Nat → Nat) (e : Nat → Nat → Int) (w : World) (h : Mat B w v n n gs e) (hn : n ≤ 9)
    (hb : ∀ i j, i < n → j < n → -1000000000 ≤ e i j ∧ e i j ≤ 1000000000) :
    Calls Tryd.prog 49 #[v, .int .i64 n] w fun x w' => x = .returned (.string ⟨(headT n n ++ bodyT n 0 (toks n n e)).toArray⟩) ∧ Below w.heap.size w w' := by
  rcases h.shape with ⟨rfl, rfl⟩ | ⟨g, cap, rfl, h1, h2, _⟩
  · refine (text_nil w).mono ?_
    rintro x w' ⟨rfl, hb⟩
    refine ⟨ret_str ?_, hb⟩
    simp [toks, bodyT]
  · exact text_pos B g cap n n gs e w h hn hn h1 h2 hb
theorem text_writes (n : Nat) (e : Nat → Nat → Int) (hb : ∀ i j, i < n → j < n → -1000000000 ≤ e i j ∧ e i j ≤ 1000000000) :
    Writes ⟨(headT n n ++ bodyT n 0 (toks n n e)).toArray⟩ n n (nums n n e) 21 := by
  refine writes_toks n n e _ (fun i j hi hj => ?_) ?_
  · have := hb i j hi hj; omega
  · simp [headT]
theorem body_len (c : Nat) : ∀ (l : List (List UInt8)) (t : Nat), (∀ x ∈ l, x.length ≤ 21) → (bodyT c t l).length ≤ 23 * l.length
  | [], _, _ => by simp [bodyT]
  | a :: l, t, h => by
    have h1 := body_len c l (t + 1) (fun x hx => h x (by simp [hx]))
    have h2 := h a (by simp)
    unfold bodyT
    split <;> (simp; omega)
theorem text_len (n : Nat) (e : Nat → Nat → Int) (hn : n ≤ 4) (hb : ∀ i j, i < n → j < n → -1000000000 ≤ e i j ∧ e i j ≤ 1000000000) :
    (⟨(headT n n ++ bodyT n 0 (toks n n e)).toArray⟩ : ByteArray).size ≤ 4000 := by
  have h1 : (bodyT n 0 (toks n n e)).length ≤ 23 * (toks n n e).length := by
    refine body_len n _ 0 (fun x hx => ?_)
    obtain ⟨t, ht, rfl⟩ := List.mem_map.1 hx
    have ht := List.mem_range.1 ht
    have hc : 0 < n := by rcases Nat.eq_zero_or_pos n with h | h; · subst h; simp at ht
                          · exact h
    have := hb (t / n) (t % n) (Nat.div_lt_of_lt_mul ht) (Nat.mod_lt _ hc)
    exact Lib.itoa_length_le _ (by omega) (by omega)
  have h2 : (toks n n e).length ≤ 16 := by
    have : n * n ≤ 4 * 4 := Nat.mul_le_mul hn hn
    simp [toks]; omega
  have h3 : (Lib.itoa (n : Int)).length ≤ 21 := Lib.itoa_length_le _ (by omega) (by omega)
  show (headT n n ++ bodyT n 0 (toks n n e)).toArray.size ≤ 4000
  simp [headT]; omega
end Go.Proofs.YtfjbijpagaipnaaDoor
namespace Go.Proofs.YtfjbijpagaipnaaDoor
open Go.RowKit
def TabB (B : Nat) (w : World) : Prop := ∀ w', Below B w w' → Tab w'
theorem TabB.of {w : World} (h : Tab w) : TabB w.heap.size w := fun _ hb => h.below hb
theorem TabB.below {B : Nat} {w w' : World} (h : TabB B w) (hb : Below B w w') : TabB B w' := fun w'' hb' => h w'' (hb.trans hb')
theorem TabB.tab {B : Nat} {w : World} (h : TabB B w) : Tab w := h w (Below.refl _ _)
theorem Below.of_grown {B p : Nat} {w w' : World} (h : w.grownBy w' (some p)) (hp : B ≤ p) (hB : B ≤ w.heap.size) : Below B w w' := ⟨h.os, h.tape, h.output, h.size, fun k hk => h.block k (by omega) (by intro e; injection e with e; omega)⟩
def Small (n : Nat) (e : Nat → Nat → Int) : Prop := ∀ i j, i < n → j < n → -1000000000 ≤ e i j ∧ e i j ≤ 1000000000
set_option maxRecDepth 100000 in
set_option maxHeartbeats 1000000 in
theorem put_ok (d b B n : Nat) (v : Value) (gs : Nat → Nat) (e : Nat → Nat → Int) (ms : List (Nat × Nat × Value)) (w : World) (hd : Dk w d b) (hst : St w b ms) (hms : ms.length < 24) (hm : Mat B w v n n gs e) (hn : n ≤ 4) (hs : Small n e) :
    Calls Tryd.prog 26 #[.pointer (some ⟨d, 0, none⟩), v, .int .i64 n] w fun x w' => x = .returned (.int .i64 (ms.length : Nat)) ∧
      (∃ ao m cap, St w' b (ms ++ [(n, n, .slice ao m cap)]) ∧ IsM w' (.agg #[.int .i64 n, .int .i64 n, .slice ao m cap]) n n (nums n n e) 21) ∧ Fr b w w' := by
  have hdl := hd.lt
  have H := Hid.mk (And.intro hd (And.intro hst (And.intro hm hs)))
  clear hd hst hm hs
  go_enter Tryd.func26, Tryd.ntmps26
  go_wp2_with fail
  refine (text_any B n v gs e _ H.out.2.2.1 (by omega) H.out.2.2.2).mono ?_
  rintro x w1 ⟨rfl, hb1⟩
  have hlen := text_len n e hn H.out.2.2.2
  have hwr := text_writes n e H.out.2.2.2
  generalize (⟨(headT n n ++ bodyT n 0 (toks n n e)).toArray⟩ : ByteArray) = S at *
  have K1 := Hid.mk (And.intro hb1 hwr)
  have c0 := (H.out.1.below hb1 hdl).cell
  clear hb1 hwr
  go_wp2_with fail
  refine (type_ok b S n n (nums n n e) 21 ms _ (H.out.2.1.below K1.out.1) hms hlen K1.out.2 hn hn (by omega) (low_nums n e ?_)).mono ?_
  · intro i j hi hj; have := H.out.2.2.2 i j hi hj; omega
  rintro x w2 ⟨rfl, hex, hfr⟩
  have K2 := Hid.mk (And.intro hex ((Fr.of_below (p := b) K1.out.1).trans hfr))
  clear hex hfr K1 c0
  go_wp2_with fail
  go_ret
  exact ⟨rfl, K2.out.1, K2.out.2⟩
def Sess (w : World) (d b k B : Nat) : Prop := Dk w d b ∧ (∃ ms, St w b ms ∧ ms.length = k) ∧ b ≠ d ∧ TabB B w ∧ B ≤ b ∧ B ≤ d
theorem Sess.below {w w' : World} {d b k B : Nat} (h : Sess w d b k B) (hb : Below w.heap.size w w') : Sess w' d b k B := by
  obtain ⟨h1, ⟨ms, h2, h3⟩, h4, h5, h6, h7⟩ := h
  exact ⟨h1.below hb h1.lt, ⟨ms, h2.below hb, h3⟩, h4, h5.below (hb.mono (by have := h2.lt; omega)), h6, h7⟩
theorem St.grown {w w' : World} {b p : Nat} {ms : List (Nat × Nat × Value)} (h : St w b ms) (hg : w.grownBy w' (some p)) (hp : p ≠ b) : St w' b ms := by
  have hl := h.lt
  obtain ⟨h0, arr, h1, h2⟩ := h
  exact ⟨h0, arr, by rw [hg.block b hl (fun e => hp (by injection e with e; exact e.symm))]; exact h1, h2⟩
theorem Ty.ne {w : World} {a b : Nat} {s t : TypeId} (h : Ty w a s) (k : Ty w b t) (hst : s ≠ t) : a ≠ b := by
  rintro rfl
  obtain ⟨c, fr, h1⟩ := h
  obtain ⟨c', fr', h2⟩ := k
  rw [h1] at h2
  simp only [Option.some.injEq, Obj.cells.injEq] at h2
  exact hst h2.2.1
theorem Dk.ty {w : World} {d b : Nat} (h : Dk w d b) : Ty w d 34 := ⟨_, _, h⟩
theorem Sess.grown {w w' : World} {d b k B p : Nat} {t : TypeId} (h : Sess w d b k B) (hg : w.grownBy w' (some p)) (ht : Ty w p t) (n1 : t ≠ 85) (n2 : t ≠ 34) (hp : B ≤ p) : Sess w' d b k B := by
  obtain ⟨h1, ⟨ms, h2, h3⟩, h4, h5, h6, h7⟩ := h
  exact ⟨h1.grown hg (ht.ne h1.ty n2), ⟨ms, h2.grown hg (ht.ne h2.ty n1), h3⟩, h4, h5.below (Below.of_grown hg hp (by have := h2.lt; omega)), h6, h7⟩
set_option maxRecDepth 100000 in
set_option maxHeartbeats 1000000 in
theorem deskDet_ok (d b B BM k n : Nat) (v : Value) (gs : Nat → Nat) (e : Nat → Nat → Int) (w : World) (hse : Sess w d b k B) (hk : k < 24) (hm : Mat BM w v n n gs e) (hn : n ≤ 4) (hs : Small n e) :
    Calls Tryd.prog 22 #[.pointer (some ⟨d, 0, none⟩), v, .int .i64 n] w fun x w' => x = .returned (.string ⟨(Lib.itoa (detF n e)).toArray⟩) ∧ Sess w' d b (k + 1) B ∧ w.grownBy w' (some b) := by
  obtain ⟨hd, ⟨ms, hst, hl⟩, hbd, htab, hBb, hBd⟩ := hse
  subst hl
  have hdl := hd.lt
  have hbl := hst.lt
  have H := Hid.mk (And.intro hd (And.intro hst (And.intro hm (And.intro hs htab))))
  clear hd hst hm hs htab
  go_enter Tryd.func22, Tryd.ntmps22
  go_wp2_with fail
  refine (put_ok d b BM n v gs e ms _ H.out.1 H.out.2.1 hk H.out.2.2.1 hn H.out.2.2.2.1).mono ?_
  rintro x w1 ⟨rfl, ⟨ao, m, cap, hst1, hM⟩, hfr⟩
  have hd1 : Dk w1 d b := H.out.1.grown hfr.1 hbd
  have c0 := hd1.cell
  have ht1 : TabB B w1 := H.out.2.2.2.2.below (Below.of_grown hfr.1 hBb (by omega))
  have K := Hid.mk (And.intro hst1 (And.intro hM (And.intro hfr (And.intro hd1 ht1))))
  clear hst1 hM hfr hd1 ht1
  go_wp2_with fail
  refine (storeDet_ok b ms.length n ao m cap (nums n n e) e 21 _ _ K.out.1 (by simp) (by simp [List.getD]) K.out.2.1 hn (by omega) (low_nums n e ?_) (rep_nums n e) K.out.2.2.2.2.tab).mono ?_
  · intro i j hi hj; have := H.out.2.2.2.1 i j hi hj; omega
  rintro x w2 ⟨rfl, hb2⟩
  have K2 := Hid.mk hb2
  clear hb2 c0
  generalize hT : Lib.itoa (detF n e) = T at *
  have HT := Hid.mk hT
  clear hT
  go_wp2_with fail
  go_ret
  have hb2 := K2.out
  rw [HT.out]
  refine ⟨rfl, ?_, grown_below K.out.2.2.1.1 hb2⟩
  have hs1 : Sess w1 d b (ms.length + 1) B := ⟨K.out.2.2.2.1, ⟨_, K.out.1, by simp⟩, hbd, K.out.2.2.2.2, hBb, hBd⟩
  exact hs1.below hb2
end Go.Proofs.YtfjbijpagaipnaaDoor
namespace Go.Proofs.YtfjbijpagaipnaaDoor
open Go.RowKit
theorem dot1 (a b : Nat → Nat → Int) (i j : Nat) : dot a b i j 1 = a i 0 * b 0 j := by simp [dot, sumF]
theorem dot2 (a b : Nat → Nat → Int) (i j : Nat) : dot a b i j 2 = a i 0 * b 0 j + a i 1 * b 1 j := by simp [dot, sumF]
theorem dot3 (a b : Nat → Nat → Int) (i j : Nat) : dot a b i j 3 = a i 0 * b 0 j + a i 1 * b 1 j + a i 2 * b 2 j := by simp [dot, sumF]
theorem det_mul3 (a00 a01 a02 a10 a11 a12 a20 a21 a22 b00 b01 b02 b10 b11 b12 b20 b21 b22 : Int) :
    (a00 * b00 + a01 * b10 + a02 * b20) * ((a10 * b01 + a11 * b11 + a12 * b21) * (a20 * b02 + a21 * b12 + a22 * b22) - (a10 * b02 + a11 * b12 + a12 * b22) * (a20 * b01 + a21 * b11 + a22 * b21)) -
    (a00 * b01 + a01 * b11 + a02 * b21) * ((a10 * b00 + a11 * b10 + a12 * b20) * (a20 * b02 + a21 * b12 + a22 * b22) - (a10 * b02 + a11 * b12 + a12 * b22) * (a20 * b00 + a21 * b10 + a22 * b20)) +
    (a00 * b02 + a01 * b12 + a02 * b22) * ((a10 * b00 + a11 * b10 + a12 * b20) * (a20 * b01 + a21 * b11 + a22 * b21) - (a10 * b01 + a11 * b11 + a12 * b21) * (a20 * b00 + a21 * b10 + a22 * b20)) =
    (a00 * (a11 * a22 - a12 * a21) - a01 * (a10 * a22 - a12 * a20) + a02 * (a10 * a21 - a11 * a20)) * (b00 * (b11 * b22 - b12 * b21) - b01 * (b10 * b22 - b12 * b20) + b02 * (b10 * b21 - b11 * b20)) := by grind
theorem det_mul (n : Nat) (a b : Nat → Nat → Int) (hn : n ≤ 3) : detF n (fun i j => dot a b i j n) = detF n a * detF n b := by
  obtain rfl | rfl | rfl | rfl : n = 0 ∨ n = 1 ∨ n = 2 ∨ n = 3 := by omega
  · rfl
  · simp only [detF1, dot1]
  · simp only [detF2, dot2]; grind
  · simp only [detF3, dot3]
    exact det_mul3 _ _ _ _ _ _ _ _ _ _ _ _ _ _ _ _ _ _
theorem det_turn (n : Nat) (a : Nat → Nat → Int) (hn : n ≤ 3) : detF n (fun i j => a j i) = detF n a := by
  obtain rfl | rfl | rfl | rfl : n = 0 ∨ n = 1 ∨ n = 2 ∨ n = 3 := by omega
  · rfl
  · simp only [detF1]
  · simp only [detF2]; grind
  · simp only [detF3]; grind
theorem det_scale (n : Nat) (f : Int) (a : Nat → Nat → Int) (hn0 : 0 < n) (hn : n ≤ 3) : detF n (fun i j => if i = 0 then f * a i j else a i j) = f * detF n a := by
  obtain rfl | rfl | rfl : n = 1 ∨ n = 2 ∨ n = 3 := by omega
  · simp [detF1]
  · simp [detF2]; grind
  · simp [detF3]; grind
theorem det_scale_turn (n : Nat) (f : Int) (a : Nat → Nat → Int) (hn0 : 0 < n) (hn : n ≤ 3) : detF n (fun i j => if i = 0 then f * a j 0 else a j i) = f * detF n a := by
  rw [← det_turn n a hn, ← det_scale n f (fun i j => a j i) hn0 hn]
  congr 1
  funext i j
  by_cases h : i = 0
  · simp [h]
  · simp [h]
def swp (n i : Nat) : Nat := if i = n - 1 then 0 else if i = 0 then n - 1 else i
theorem det_swap (n : Nat) (a : Nat → Nat → Int) (hn0 : 0 < n) (hn : n ≤ 3) : detF n (fun i j => a (swp n i) j) = if n = 1 then detF n a else -detF n a := by
  obtain rfl | rfl | rfl : n = 1 ∨ n = 2 ∨ n = 3 := by omega
  · simp [detF1, swp]
  · simp [detF2, swp]; grind
  · simp [detF3, swp]; grind
theorem det_box (n : Nat) (e : Nat → Nat → Int) (hn : n ≤ 3) (ht : Tiny n e) : -279936 ≤ detF n e ∧ detF n e ≤ 279936 := by
  have P : ∀ i j k l, i < n → j < n → k < n → l < n → -1296 ≤ e i j * e k l ∧ e i j * e k l ≤ 1296 := fun i j k l hi hj hk hl => mul_box (A := 36) (B := 36) (ht i j hi hj).1 (ht i j hi hj).2 (ht k l hk hl).1 (ht k l hk hl).2
  obtain rfl | rfl | rfl | rfl : n = 0 ∨ n = 1 ∨ n = 2 ∨ n = 3 := by omega
  · rw [detF0]; omega
  · rw [detF1]; have := ht 0 0 (by omega) (by omega); omega
  · rw [detF2]
    have := P 0 0 1 1 (by omega) (by omega) (by omega) (by omega)
    have := P 0 1 1 0 (by omega) (by omega) (by omega) (by omega)
    omega
  · rw [detF3]
    have D : ∀ j (x y : Int), j < 3 → (-1296 ≤ x ∧ x ≤ 1296) → (-1296 ≤ y ∧ y ≤ 1296) → -93312 ≤ e 0 j * (x - y) ∧ e 0 j * (x - y) ≤ 93312 := fun j x y hj hx hy =>
      mul_box (A := 36) (B := 2592) (ht 0 j (by omega) hj).1 (ht 0 j (by omega) hj).2 (by omega) (by omega)
    have d1 := D 0 _ _ (by omega) (P 1 1 2 2 (by omega) (by omega) (by omega) (by omega)) (P 1 2 2 1 (by omega) (by omega) (by omega) (by omega))
    have d2 := D 1 _ _ (by omega) (P 1 0 2 2 (by omega) (by omega) (by omega) (by omega)) (P 1 2 2 0 (by omega) (by omega) (by omega) (by omega))
    have d3 := D 2 _ _ (by omega) (P 1 0 2 1 (by omega) (by omega) (by omega) (by omega)) (P 1 1 2 0 (by omega) (by omega) (by omega) (by omega))
    omega
theorem RowsIn.tiny {n : Nat} {e : Nat → Nat → Int} (h : RowsIn n n e) (hn : n ≤ 3) : Tiny n e := by
  intro i j hi hj
  have h1 := h i hi j hj
  have h2 := pow_box i (by omega)
  omega
theorem Tiny.small {n : Nat} {e : Nat → Nat → Int} (h : Tiny n e) : Small n e := fun i j hi hj => by have := h i j hi hj; omega
theorem dot_small {n : Nat} {a b : Nat → Nat → Int} (hn : n ≤ 3) (ha : Tiny n a) (hb : Tiny n b) : Small n (fun i j => dot a b i j n) := fun i j hi hj => by
  have := dot_box ha hb hi hj n (Nat.le_refl _)
  show -1000000000 ≤ dot a b i j n ∧ dot a b i j n ≤ 1000000000
  omega
end Go.Proofs.YtfjbijpagaipnaaDoor
namespace Go.Proofs.YtfjbijpagaipnaaDoor
open Go.RowKit
theorem append_all (w : World) {ops : Array Oper} {rest : List Oper} {o : Oper} {a : Act} {Q : Exit → Act → World → Prop} (hgd : o.guard = none) (s x : Operand)
    (ho : o.op = .call { callee := .builtin .append, args := #[s, x], argTypes := #[51, 51] }) (hs : a.eval s = .slice none 0 0) (B n c g cap : Nat) (gs : Nat → Nat) (e : Nat → Nat → Int)
    (hx : a.eval x = .slice (some ⟨g, 0, none⟩) n cap) (hm : Mat B w (.slice (some ⟨g, 0, none⟩) n cap) n c gs e) (hn : n ≤ 10000)
    (hK : ∀ v' w', Mat w.heap.size w' v' n c gs e → Below w.heap.size w w' → wpList Tryd.prog ops Q rest (a.put o.dst v') w') : wpList Tryd.prog ops Q (o :: rest) a w := by
  obtain ⟨i, hi, hz0, hz1, hz2⟩ := info_parts Tryd.info37'
  refine wpList_append_own w hgd s x 51 ho w.heap.size 37 i (.slice none 0 0) 1 24 Tryd.underlying51 hi hz0 hz1 hz2 rfl (by decide) _ 0 [] hs (World.ownsRow_nil _ _ _ _) ⟨g, 0, none⟩ n cap (rcells n c gs) hx (by simp [rcells]) ?_ ?_ ?_ ?_ (Nat.le_refl _) ?_
  · exact World.ownsRow.cells hm.1 rfl
  · intro u hu
    obtain ⟨j, _, rfl⟩ := List.mem_map.1 hu
    rfl
  · unfold maxLen; omega
  · omega
  · intro v' w' k1 k2 _
    have hb : Below w.heap.size w w' := (Below.refl _ _).grown k2 (Nat.le_refl _) (by simp [Value.ownBlock])
    rw [Nat.zero_add, List.nil_append] at k1
    exact hK v' w' ⟨k1, fun j hj => (hm.2 j hj).below hb (hm.2 j hj).lt⟩ hb
theorem rcells_swap (n c : Nat) (gs : Nat → Nat) (hn : 0 < n) : ((rcells n c gs).set 0 (rowV c (gs (n - 1)))).set (n - 1) (rowV c (gs 0)) = rcells n c (fun i => gs (swp n i)) := by
  apply List.ext_getElem?
  intro k
  simp only [rcells, List.getElem?_set, List.length_map, List.length_range, List.length_set, List.getElem?_map, swp]
  by_cases h1 : n - 1 = k
  · subst h1
    simp [show n - 1 < n from by omega]
  · by_cases h2 : 0 = k
    · subst h2
      have h3 : ¬ (0 = n - 1) := fun e => h1 e.symm
      simp [h1, h3, hn]
    · have h3 : ¬ (k = n - 1) := fun e => h1 e.symm
      have h4 : ¬ (k = 0) := fun e => h2 e.symm
      by_cases h5 : k < n
      · simp [h1, h2, h3, h4, h5]
      · simp [h1, h2, h5]
theorem Mat.swap {B : Nat} {w : World} {n c cap g : Nat} {gs : Nat → Nat} {e : Nat → Nat → Int} (h : Mat B w (.slice (some ⟨g, 0, none⟩) n cap) n c gs e) (hn : 0 < n) :
    Mat B ((w.setCell ⟨g, 0, none⟩ (.slice (some ⟨gs (n - 1), 0, none⟩) c c)).setCell ⟨g, n - 1, none⟩ (.slice (some ⟨gs 0, 0, none⟩) c c)) (.slice (some ⟨g, 0, none⟩) n cap) n c (fun i => gs (swp n i)) (fun i => e (swp n i)) := by
  have hty : Ty w g 37 := by
    rcases h.shape with ⟨h1, _⟩ | ⟨g', cap', h1, _, _, _, _, h2, _⟩
    · simp at h1
    · simp at h1; rw [h1.1]; exact h2
  refine ⟨?_, fun i hi => ?_⟩
  · have h1 := (World.ownsRow.stored h.1 0 (.slice (some ⟨gs (n - 1), 0, none⟩) c c)).1
    have h2 := (World.ownsRow.stored h1 (n - 1) (.slice (some ⟨gs 0, 0, none⟩) c c)).1
    have h3 := rcells_swap n c gs hn
    unfold rowV at h3
    rw [h3] at h2
    exact h2
  · have hs : swp n i < n := by unfold swp; split <;> (try split) <;> omega
    have h1 := h.2 (swp n i) hs
    have hne : g ≠ gs (swp n i) := hty.ne h1.ty (by decide)
    exact (h1.other hne _).other hne _
theorem Mat.first {B : Nat} {w w' : World} {v : Value} {n c : Nat} {gs : Nat → Nat} {e : Nat → Nat → Int} {f : Nat → Int} (h : Mat B w v n c gs e) (hn : 0 < n) (hne : ∀ i, i < n → 0 < i → gs 0 ≠ gs i) (hg : w.grownBy w' (some (gs 0))) (hr : IRow w' (gs 0) c f) :
    Mat B w' v n c gs (fun i => if i = 0 then f else e i) := by
  refine ⟨⟨h.1.1, ?_⟩, fun i hi => ?_⟩
  · rcases h.1.2 with h2 | ⟨g, cap, cur, hv, hg', hh, r⟩
    · exact .inl h2
    · have hty : Ty w g 37 := ⟨_, _, hh⟩
      have hne' : g ≠ gs 0 := hty.ne (h.2 0 hn).ty (by decide)
      exact .inr ⟨g, cap, cur, hv, hg', by rw [hg.block g (Array.getElem?_eq_some_iff.1 hh).1 (fun e => hne' (by injection e))]; exact hh, r⟩
  · by_cases hi0 : i = 0
    · subst hi0; simpa using hr
    · simp only [hi0, if_false]
      exact (h.2 i hi).grown hg (hne i hi (by omega))
theorem scale_next (f : Int) (e : Nat → Nat → Int) (j t : Nat) : upd (fun t => if t < j then f * e t 0 else e t 0) j (f * e j 0) t = if t < j + 1 then f * e t 0 else e t 0 := by
  unfold upd
  by_cases h : t = j
  · subst h; simp
  · rcases Nat.lt_or_gt_of_ne h with h1 | h1
    · simp [h, h1, show t < j + 1 from by omega]
    · simp [h, show ¬ t < j from by omega, show ¬ t < j + 1 from by omega]
end Go.Proofs.YtfjbijpagaipnaaDoor
