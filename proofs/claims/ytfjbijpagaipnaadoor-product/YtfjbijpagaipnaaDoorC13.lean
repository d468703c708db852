import Derived.Test.YtfjbijpagaipnaaDoorC12
namespace Go.Proofs.YtfjbijpagaipnaaDoor
open Go.RowKit
def PS (w wk : World) (dk b k B n Bp Bq : Nat) (p q : Value) (gp gq : Nat → Nat) (ep eq : Nat → Nat → Int) : Prop :=
  Sess wk dk b k B ∧ Mat Bp wk p n n gp ep ∧ Mat Bq wk q n n gq eq ∧ Tiny n ep ∧ Tiny n eq ∧ Below B w wk
theorem PS.below {w wk wk' : World} {dk b k B n Bp Bq : Nat} {p q : Value} {gp gq : Nat → Nat} {ep eq : Nat → Nat → Int} (h : PS w wk dk b k B n Bp Bq p q gp gq ep eq) (hb : Below wk.heap.size wk wk') : PS w wk' dk b k B n Bp Bq p q gp gq ep eq := by
  obtain ⟨h1, h2, h3, h4, h5, h6⟩ := h
  have hl : B ≤ wk.heap.size := by have := h1.1.lt; have := h1.2.2.2.2.2; omega
  exact ⟨h1.below hb, h2.keep (KB.of_below hb), h3.keep (KB.of_below hb), h4, h5, h6.trans (hb.mono hl)⟩
theorem PS.det {w wk wk' : World} {dk b k B n Bp Bq : Nat} {p q : Value} {gp gq : Nat → Nat} {ep eq : Nat → Nat → Int} (h : PS w wk dk b k B n Bp Bq p q gp gq ep eq) (hs : Sess wk' dk b (k + 1) B) (hg : wk.grownBy wk' (some b)) : PS w wk' dk b (k + 1) B n Bp Bq p q gp gq ep eq := by
  obtain ⟨h1, h2, h3, h4, h5, h6⟩ := h
  have hl : B ≤ wk.heap.size := by have := h1.1.lt; have := h1.2.2.2.2.2; omega
  obtain ⟨ms, hst, -⟩ := h1.2.1
  exact ⟨hs, h2.keep (KB.of_grown hg hst.ty (by decide) (by decide)), h3.keep (KB.of_grown hg hst.ty (by decide) (by decide)), h4, h5, h6.trans (Below.of_grown hg h1.2.2.2.2.1 hl)⟩
def TS (w w' z : World) (dk b k B Bt n : Nat) (t : Value) (gs : Nat → Nat) (et : Nat → Nat → Int) : Prop :=
  Sess z dk b k B ∧ KB w'.heap.size w' z ∧ Below B w z ∧ w'.heap.size ≤ z.heap.size ∧ Mat Bt z t n n gs et
theorem Sess.lo {w : World} {d b k B : Nat} (h : Sess w d b k B) : B ≤ w.heap.size := by have := h.1.lt; have := h.2.2.2.2.2; omega
theorem TS.det {w w' z z' : World} {dk b k B Bt n : Nat} {t : Value} {gs : Nat → Nat} {et : Nat → Nat → Int} (h : TS w w' z dk b k B Bt n t gs et) (hs : Sess z' dk b (k + 1) B) (hg : z.grownBy z' (some b)) : TS w w' z' dk b (k + 1) B Bt n t gs et := by
  obtain ⟨h1, h2, h3, h4, h5⟩ := h
  obtain ⟨ms, hst, -⟩ := h1.2.1
  exact ⟨hs, h2.trans (KB.of_grown hg hst.ty (by decide) (by decide)), h3.trans (Below.of_grown hg h1.2.2.2.2.1 h1.lo), Nat.le_trans h4 hg.size, h5.keep (KB.of_grown hg hst.ty (by decide) (by decide))⟩
theorem TS.below {w w' z z' : World} {dk b k B Bt n : Nat} {t : Value} {gs : Nat → Nat} {et : Nat → Nat → Int} (h : TS w w' z dk b k B Bt n t gs et) (hb : Below z.heap.size z z') : TS w w' z' dk b k B Bt n t gs et := by
  obtain ⟨h1, h2, h3, h4, h5⟩ := h
  exact ⟨h1.below hb, h2.trans (KB.of_below (hb.mono h4)), h3.trans (hb.mono h1.lo), Nat.le_trans h4 hb.size, h5.keep (KB.of_below hb)⟩
theorem TS.first {w w' z z' : World} {dk b k B Bt n : Nat} {t : Value} {gs : Nat → Nat} {et : Nat → Nat → Int} {f : Nat → Int} (h : TS w w' z dk b k B Bt n t gs et) (hn : 0 < n) (hgs : ∀ i, i < n → w'.heap.size ≤ gs i ∧ (0 < i → gs 0 ≠ gs i)) (hB : B ≤ w'.heap.size) (hg : z.grownBy z' (some (gs 0))) (hr : IRow z' (gs 0) n f) :
    TS w w' z' dk b k B Bt n t gs (fun i => if i = 0 then f else et i) := by
  obtain ⟨h1, h2, h3, h4, h5⟩ := h
  have hty := (h5.2 0 hn).ty
  have h0 := (hgs 0 hn).1
  exact ⟨h1.grown hg hty (by decide) (by decide) (by omega), h2.trans (KB.of_below (Below.of_grown hg h0 h4)), h3.trans (Below.of_grown hg (by omega) h1.lo), Nat.le_trans h4 hg.size, h5.first hn (fun i hi h0 => (hgs i hi).2 h0) hg hr⟩
theorem TS.swap {w w' z : World} {dk b k B Bt n g cap : Nat} {gs : Nat → Nat} {et : Nat → Nat → Int} (h : TS w w' z dk b k B Bt n (.slice (some ⟨g, 0, none⟩) n cap) gs et) (hn : 0 < n) (hB : B ≤ w'.heap.size) (hBt : w'.heap.size ≤ Bt) :
    TS w w' ((z.setCell ⟨g, 0, none⟩ (.slice (some ⟨gs (n - 1), 0, none⟩) n n)).setCell ⟨g, n - 1, none⟩ (.slice (some ⟨gs 0, 0, none⟩) n n)) dk b k B Bt n (.slice (some ⟨g, 0, none⟩) n cap) (fun i => gs (swp n i)) (fun i => et (swp n i)) := by
  obtain ⟨h1, h2, h3, h4, h5⟩ := h
  rcases h5.shape with ⟨e1, _⟩ | ⟨g', cap', e1, _, _, hg1, hg2, hty, _⟩
  · simp at e1
  simp only [Value.slice.injEq, Option.some.injEq, Addr.mk.injEq, and_true, true_and] at e1
  obtain ⟨rfl, rfl⟩ := e1
  have hgr : z.grownBy ((z.setCell ⟨g, 0, none⟩ (.slice (some ⟨gs (n - 1), 0, none⟩) n n)).setCell ⟨g, n - 1, none⟩ (.slice (some ⟨gs 0, 0, none⟩) n n)) (some g) := grown_put2 (World.grownBy.refl _ _)
  exact ⟨h1.grown hgr hty (by decide) (by decide) (by omega), h2.trans (KB.of_below (Below.of_grown hgr (by omega) h4)), h3.trans (Below.of_grown hgr (by omega) h1.lo), Nat.le_trans h4 hgr.size, h5.swap hn⟩
theorem turn_next (e : Nat → Nat → Int) (r j t : Nat) : upd (fun t => if t < j then e t r else 0) j (e j r) t = if t < j + 1 then e t r else 0 := by
  unfold upd
  by_cases h : t = j
  · subst h; simp
  · rcases Nat.lt_or_gt_of_ne h with h1 | h1
    · simp [h, h1, show t < j + 1 from by omega]
    · simp [h, show ¬ t < j from by omega, show ¬ t < j + 1 from by omega]
set_option maxRecDepth 100000 in
set_option maxHeartbeats 8000000 in
theorem product_any (d B : Nat) (bb : Int) (w : World) (hd : Di w d) (ht : TabB B w) (hB : B ≤ d) (hb1 : -9223372036854775808 ≤ bb) (hb2 : bb ≤ 9223372036854775807) :
    Calls Tryd.prog 7 #[.pointer (some ⟨d, 0, none⟩), .int .i64 bb] w fun x w' => x = .returned (.bool true) ∧ Below B w w' := by
  have hdl := hd.lt
  have H := Hid.mk (And.intro hd ht)
  clear hd ht
  go_enter Tryd.func7, Tryd.ntmps7
  go_wp2_with fail
  refine (under_any d 4 _ H.out.1 (by omega) (by omega)).mono ?_
  rintro x w1 ⟨⟨n, rfl, hn⟩, hd1, hg1⟩
  have K1 := Hid.mk (And.intro hd1 (Below.of_grown hg1 hB (by omega)))
  clear hd1 hg1
  go_wp2_with fail
  refine (drawn_any d n n _ K1.out.1 (by omega) (by omega)).mono ?_
  rintro x w2 ⟨p, gp, ep, rfl, hM2, hin2, hd2, hg2⟩
  have K2 := Hid.mk (And.intro hM2 (And.intro (hin2.tiny (by omega)) (And.intro hd2 (K1.out.2.trans (Below.of_grown hg2 hB (by have := K1.out.2.size; omega))))))
  clear hM2 hin2 hd2 hg2 K1
  go_wp2_with fail
  refine (drawn_any d n n _ K2.out.2.2.1 (by omega) (by omega)).mono ?_
  rintro x w3 ⟨q, gq, eq, rfl, hM3, hin3, hd3, hg3⟩
  have K3 := Hid.mk (And.intro (K2.out.1.keep (KB.of_grown hg3 K2.out.2.2.1.ty (by decide) (by decide))) (And.intro K2.out.2.1 (And.intro hM3 (And.intro (hin3.tiny (by omega)) (K2.out.2.2.2.trans (Below.of_grown hg3 hB (by have := K2.out.2.2.2.size; omega)))))))
  clear hM3 hin3 hd3 hg3 K2
  go_wp2_with fail
  refine (desk_any _).mono ?_
  rintro x w4 ⟨dk, b, rfl, hdk, hst, hbd, hb3, hd3, hb4⟩
  have hBw : B ≤ w3.heap.size := by have := K3.out.2.2.2.2.size; omega
  have hbel : Below B w w4 := K3.out.2.2.2.2.trans (hb4.mono hBw)
  have hs4 : Sess w4 dk b 0 B := ⟨hdk, ⟨[], hst, rfl⟩, hbd, H.out.2.below hbel, by omega, by omega⟩
  have K4 : Hid (PS w w4 dk b 0 B n w1.heap.size w2.heap.size p q gp gq ep eq) := Hid.mk ⟨hs4, K3.out.1.keep (KB.of_below hb4), K3.out.2.2.1.keep (KB.of_below hb4), K3.out.2.1, K3.out.2.2.2.1, hbel⟩
  generalize w1.heap.size = Bp at K4
  generalize w2.heap.size = Bq at K4
  have hn3 : n ≤ 3 := by omega
  clear hdk hst hb3 hd3 hb4 hbel hs4 K3
  obtain ⟨kz, hkz⟩ : ∃ kz, kz = detF n ep := ⟨_, rfl⟩
  obtain ⟨lz, hlz⟩ : ∃ lz, lz = detF n eq := ⟨_, rfl⟩
  have hkb := det_box n ep hn3 K4.out.2.2.2.1
  have hlb := det_box n eq hn3 K4.out.2.2.2.2.1
  rw [← hkz] at hkb
  rw [← hlz] at hlb
  obtain ⟨hk1, hk2⟩ := hkb
  obtain ⟨hl1, hl2⟩ := hlb
  have hkl := mul_box (A := 279936) (B := 279936) hk1 hk2 hl1 hl2
  obtain ⟨hkl1, hkl2⟩ := hkl
  simp only [Nat.reduceMul] at hkl1 hkl2
  have HK := Hid.mk hkz
  have HL := Hid.mk hlz
  clear hkz hlz
  go_wp2_with fail
  refine (deskDet_ok dk b B Bp 0 n p gp ep _ K4.out.1 (by omega) K4.out.2.1 (by omega) K4.out.2.2.2.1.small).mono ?_
  rintro x w5 ⟨rfl, hs5, hg5⟩
  have K5 := Hid.mk (K4.out.det hs5 hg5)
  clear hs5 hg5 K4
  rw [← HK.out]
  go_wp2_with fail
  refine (deskDet_ok dk b B Bq (0 + 1) n q gq eq _ K5.out.1 (by omega) K5.out.2.2.1 (by omega) K5.out.2.2.2.2.1.small).mono ?_
  rintro x w6 ⟨rfl, hs6, hg6⟩
  have K6 := Hid.mk (K5.out.det hs6 hg6)
  clear hs6 hg6 K5
  rw [← HL.out]
  go_wp2_with fail
  refine (times_any Bp Bq n p q gp gq ep eq _ hn3 K6.out.2.1 K6.out.2.2.1 K6.out.2.2.2.1 K6.out.2.2.2.2.1).mono ?_
  rintro x w7 ⟨m, gm, rfl, hM7, hb7⟩
  have K7 := Hid.mk (And.intro (K6.out.below hb7) hM7)
  clear hM7 hb7 K6
  go_wp2_with fail
  refine (deskDet_ok dk b B _ (0 + 1 + 1) n m gm _ _ K7.out.1.1 (by omega) K7.out.2 (by omega) (dot_small hn3 K7.out.1.2.2.2.1 K7.out.1.2.2.2.2.1)).mono ?_
  rintro x w8 ⟨rfl, hs8, hg8⟩
  have K8 := Hid.mk (K7.out.1.det hs8 hg8)
  clear hs8 hg8 K7
  rw [det_mul n ep eq hn3, ← HK.out, ← HL.out]
  go_wp2_with fail
  refine (kdet_any Bp n p gp ep _ K8.out.2.1 hn3 K8.out.2.2.2.1).mono ?_
  rintro x w9 ⟨rfl, hb9⟩
  have K9 := Hid.mk (K8.out.below hb9)
  clear hb9 K8
  rw [← HK.out]
  go_wp2_with fail
  refine (kdet_any Bq n q gq eq _ K9.out.2.2.1 hn3 K9.out.2.2.2.2.1).mono ?_
  rintro x w10 ⟨rfl, hb10⟩
  have K10 := Hid.mk (K9.out.below hb10)
  clear hb10 K9
  rw [← HL.out]
  go_wp2_with fail
  refine (number_any kz _ (by omega) (by omega)).mono ?_
  rintro x w11 ⟨rfl, hb11⟩
  have K11 := Hid.mk (K10.out.below hb11)
  clear hb11 K10
  go_wp2_with fail
  refine (number_any lz _ (by omega) (by omega)).mono ?_
  rintro x w12 ⟨rfl, hb12⟩
  have K12 := Hid.mk (K11.out.below hb12)
  clear hb12 K11
  go_wp2_with fail
  refine (number_any (kz * lz) _ (by omega) (by omega)).mono ?_
  rintro x w13 ⟨rfl, hb13⟩
  have K13 := Hid.mk (K12.out.below hb13)
  clear hb13 K12
  generalize hU : (⟨(Lib.itoa kz).toArray⟩ : ByteArray) = U
  have HU := Hid.mk hU
  clear hU
  generalize (⟨(Lib.itoa lz).toArray⟩ : ByteArray) = V
  generalize (⟨(Lib.itoa (kz * lz)).toArray⟩ : ByteArray) = X
  by_cases hn0 : n = 0
  · have hnb : ((n : Int) == 0) = true := beq_iff_eq.2 (by omega)
    clear hn0
    go_wp2_with fail
    go_ret
    exact ⟨rfl, K13.out.2.2.2.2.2⟩
  · have hnb : ((n : Int) == 0) = false := beq_eq_false_iff_ne.2 (by omega)
    have hnp : 0 < n := by omega
    clear hn0
    rcases K13.out.2.1.shape with ⟨_, h0⟩ | ⟨g, cap, rfl, hcap, -, -, -, -, -⟩
    · omega
    go_wp2_with fail
    refine (pick_any bb 19 _ hb1 hb2 (by omega) (by omega)).mono ?_
    rintro x w' ⟨⟨v, rfl, hv⟩, rfl⟩
    obtain ⟨f, hf⟩ : ∃ f : Int, f = (v : Int) - 9 := ⟨_, rfl⟩
    have hf1 : -9 ≤ f := by omega
    have hf2 : f ≤ 9 := by omega
    go_wp2_with fail
    rw [← hf]
    clear hf
    go_loopw [19, 20] (fun t i wr => ∃ (r : Nat) (gs : Nat → Nat), r ≤ n ∧ i = .int .i64 r ∧ Mat w'.heap.size wr t r n gs (fun i j => ep j i) ∧ (∀ i, i < r → w'.heap.size ≤ gs i ∧ (0 < i → gs 0 ≠ gs i)) ∧ Below w'.heap.size w' wr) (fun _ i _ => n - (intOf i).toNat)
    case atStart => exact ⟨0, fun _ => 0, Nat.zero_le _, rfl, Mat.nil _ _ _ _ _, fun i hi => by omega, Below.refl _ _⟩
    case round =>
      rename World => wr0
      obtain ⟨r, gs, hr, rfl, hm, hgs, hbel⟩ := hrel
      have hwr := hbel.size
      have K := Hid.mk (And.intro hm (And.intro hgs hbel))
      clear hm hgs hbel
      by_cases hrn : r < n
      · go_wp2_with (at_make; refine make_row _ rfl _ _ rfl _ _ n rfl rfl rfl rfl (by omega) ?_)
        intro wa hrow hba hsza
        have R1 : Made wr0 wa n (fun t => if t < 0 then ep t r else 0) := ⟨hrow.congr (fun t _ => by simp), hba⟩
        have HR := Hid.mk R1
        clear hrow hba R1
        go_wp2_with fail
        go_loopw [22] (fun i ws => ∃ j : Nat, j ≤ n ∧ i = .int .i64 j ∧ Made wr0 ws n (fun t => if t < j then ep t r else 0)) (fun i _ => n - (intOf i).toNat)
        case atStart => exact ⟨0, Nat.zero_le _, rfl, HR.out⟩
        case round =>
          clear HR
          obtain ⟨j, hj, rfl, hrs⟩ := hrel
          have HR := Hid.mk hrs
          clear hrs
          by_cases hjn : j < n
          · have hB2 := K.out.2.2.trans (HR.out.2.mono hwr)
            have hP := K13.out.2.1.keep (KB.of_below hB2)
            have a0 := hP.cell j hjn
            have a1 := (hP.2 j hjn).cell r hrn
            have c1 := HR.out.1.cell j hjn
            have f1 := HR.out.1.frozen j
            have hnx : IRow (wr.setCell ⟨wr0.heap.size, j, none⟩ (.int .i64 (ep j r))) wr0.heap.size n (fun t => if t < j + 1 then ep t r else 0) := (HR.out.1.stored j _).congr (fun t _ => turn_next ep r j t)
            have HN := Hid.mk hnx
            generalize gp j = G1 at a0 a1
            generalize ep j r = z1 at a1 HN
            generalize (if j < j then ep j r else 0) = z2 at c1
            clear hP hB2 hnx
            go_wp2_with fail
            go_roundw
            case measure => simp [intOf]; omega
            case rel => exact ⟨j + 1, by omega, by go_num, HN.out, HR.out.2.setCell (Nat.le_refl _) _⟩
          · have hje : j = n := by omega
            have HJ := Hid.mk hje
            clear hje
            go_wp2_with (at_builtin; refine append_row _ rfl _ _ rfl w'.heap.size _ r n gs (fun i j => ep j i) rfl ?_ ⟨_, 0, none⟩ rfl wr0.heap.size (fun t => ep t r) ?_ ?_ (by omega) ?_ ?_)
            · exact (K.out.1.keep (KB.of_below HR.out.2)).keep (KB.of_below ((Below.refl _ _).alloc (Nat.le_refl _) _))
            · simp [Addr.add]
            · refine IRow.below (IRow.congr HR.out.1 (fun t ht => ?_)) ((Below.refl _ _).alloc (Nat.le_refl _) _) HR.out.1.lt
              rw [if_pos (by have := HJ.out; omega)]
            · have := HR.out.2.size; simp; omega
            intro v' w5 hM5 _ hg5 hown
            have hb5 : Below w'.heap.size w' w5 := by
              have h1 := (K.out.2.2.trans (HR.out.2.mono hwr)).trans (((Below.refl _ _).alloc (Nat.le_refl _) (.cells #[.slice (some ⟨wr0.heap.size, 0, none⟩) n n] 37)).mono (by have := HR.out.2.size; omega))
              exact h1.grown hg5 (by have := HR.out.2.size; simp; omega) hown
            have hgs5 : ∀ i, i < r + 1 → w'.heap.size ≤ (if i = r then wr0.heap.size else gs i) ∧ (0 < i → (if 0 = r then wr0.heap.size else gs 0) ≠ (if i = r then wr0.heap.size else gs i)) := by
              intro i hi
              refine ⟨?_, fun hi0 => ?_⟩
              · split
                · exact hwr
                · exact (K.out.2.1 i (by omega)).1
              · rw [if_neg (by omega)]
                split
                · have := (K.out.1.2 0 (by omega)).lt; omega
                · exact (K.out.2.1 i (by omega)).2 hi0
            have HF := Hid.mk (And.intro hM5 (And.intro hgs5 hb5))
            clear hM5 hg5 hown hb5 hgs5
            go_wp2_with fail
            go_roundw
            case measure => simp [intOf]; omega
            case rel => exact ⟨r + 1, _, by omega, by go_num, HF.out.1.same (fun i j _ _ => by split <;> simp_all), HF.out.2.1, HF.out.2.2⟩
      · have hre : r = n := by omega
        subst hre
        rcases K.out.1.shape with ⟨_, h0⟩ | ⟨gt, capt, rfl, hcapt, -, -, hgtl, hgty, -⟩
        · omega
        have S0 : Sess wr0 dk b 3 B := K13.out.1.below K.out.2.2
        have HS0 := Hid.mk S0
        have HTY := Hid.mk hgty
        clear S0 hgty
        go_wp2_with fail
        refine (deskDet_ok dk b B _ 3 r _ gs _ _ HS0.out (by omega) K.out.1 (by omega) (fun i j hi hj => K13.out.2.2.2.1.small j i hj hi)).mono ?_
        rintro x w20 ⟨rfl, hs20, hg20⟩
        rw [det_turn r ep hn3, ← HK.out, HU.out]
        have hBw' : B ≤ w'.heap.size := K13.out.1.lo
        have T0 : TS w w' wr0 dk b 3 B w'.heap.size r (.slice (some ⟨gt, 0, none⟩) r capt) gs (fun i j => ep j i) :=
          ⟨HS0.out, KB.of_below K.out.2.2, K13.out.2.2.2.2.2.trans (K.out.2.2.mono hBw'), hwr, K.out.1⟩
        have HT := Hid.mk (T0.det hs20 hg20)
        clear T0 hs20 hg20 HS0 HTY
        go_wp2_with fail
        obtain ⟨G0, hG0⟩ : ∃ G0, G0 = gs 0 := ⟨_, rfl⟩
        have HG := Hid.mk hG0
        clear hG0
        go_loopw [24] (fun i ws => ∃ j : Nat, j ≤ r ∧ i = .int .i64 j ∧ IRow ws G0 r (fun t => if t < j then f * ep t 0 else ep t 0) ∧ w20.grownBy ws (some G0)) (fun i _ => r - (intOf i).toNat)
        case atStart => exact ⟨0, Nat.zero_le _, rfl, (by rw [HG.out]; exact (HT.out.2.2.2.2.2 0 hnp).congr (fun t _ => by simp)), World.grownBy.refl _ _⟩
        case round =>
          rename World => wr1
          obtain ⟨j, hj, rfl, hrow, hgr⟩ := hrel
          have HR := Hid.mk (And.intro hrow hgr)
          by_cases hjn : j < r
          · have hM1 := HT.out.2.2.2.2.first hnp (fun i hi h0 => (K.out.2.1 i hi).2 h0) (by rw [← HG.out]; exact hgr) (by rw [← HG.out]; exact hrow)
            have a0 := hM1.cell 0 hnp
            rw [← HG.out] at a0
            have c1 := hrow.cell j hjn
            have f1 := hrow.frozen j
            have hnx : IRow (wr1.setCell ⟨G0, j, none⟩ (.int .i64 (f * ep j 0))) G0 r (fun t => if t < j + 1 then f * ep t 0 else ep t 0) := (hrow.stored j _).congr (fun t _ => scale_next f ep j t)
            have hgx : w20.grownBy (wr1.setCell ⟨G0, j, none⟩ (.int .i64 (f * ep j 0))) (some G0) := grown_trans hgr ⟨rfl, rfl, rfl, by simp [World.setCell], fun k _ hne => Below.heap_setCell _ _ _ _ (fun e => hne (by simp [e]))⟩
            have bz := K13.out.2.2.2.1 j 0 hjn hnp
            have bm := mul_box (A := 9) (B := 36) hf1 hf2 bz.1 bz.2
            have HN := Hid.mk (And.intro hnx hgx)
            have hlt0 : ¬ j < j := by omega
            rw [if_neg hlt0] at c1
            generalize ep j 0 = z1 at c1 HN bm bz
            obtain ⟨bm1, bm2⟩ := bm
            obtain ⟨bz1, bz2⟩ := bz
            simp only [Nat.reduceMul] at bm1 bm2
            clear hM1 hnx hgx hrow hgr hlt0
            go_wp2_with fail
            go_region
            all_goals go_wp2_with fail
            go_roundw
            case measure => simp [intOf]; omega
            case rel => exact ⟨j + 1, by omega, by go_num, HN.out.1, grown_below HN.out.2 ((Below.refl _ _).drew)⟩
          · have hje : j = r := by omega
            have HT1 := HT.out.first hnp K.out.2.1 hBw' (by rw [← HG.out]; exact hgr) (by rw [← HG.out]; exact hrow)
            have HT2 : TS w w' wr1 dk b (3 + 1) B w'.heap.size r (.slice (some ⟨gt, 0, none⟩) r capt) gs (fun i j => if i = 0 then f * ep j 0 else ep j i) := by
              obtain ⟨t1, t2, t3, t4, t5⟩ := HT1
              refine ⟨t1, t2, t3, t4, t5.same (fun i t hi ht => ?_)⟩
              by_cases hi0 : i = 0
              · simp only [hi0, if_true]
                rw [if_pos (by omega)]
              · simp only [hi0, if_false]
            have hfk := mul_box (A := 9) (B := 279936) hf1 hf2 hk1 hk2
            obtain ⟨hfk1, hfk2⟩ := hfk
            simp only [Nat.reduceMul] at hfk1 hfk2
            have HTT := Hid.mk HT2
            clear HT1 HT2 HR hrow hgr HT hje
            go_wp2_with fail
            refine (deskDet_ok dk b B _ (3 + 1) r _ gs _ _ HTT.out.1 (by omega) HTT.out.2.2.2.2 (by omega) ?_).mono ?_
            · intro i t hi ht
              show -1000000000 ≤ (if i = 0 then f * ep t 0 else ep t i) ∧ (if i = 0 then f * ep t 0 else ep t i) ≤ 1000000000
              split
              · have bz := K13.out.2.2.2.1 t 0 ht hnp
                have bm := mul_box (A := 9) (B := 36) hf1 hf2 bz.1 bz.2
                omega
              · have bz := K13.out.2.2.2.1 t i ht hi
                omega
            rintro x w21 ⟨rfl, hs21, hg21⟩
            rw [det_scale_turn r f ep hnp hn3, ← HK.out]
            have HT3 := Hid.mk (HTT.out.det hs21 hg21)
            clear hs21 hg21 HTT
            go_wp2_with (at_builtin; refine append_all _ rfl _ _ rfl rfl Bp r r g cap gp ep rfl ?_ (by omega) ?_)
            · exact K13.out.2.1.keep HT3.out.2.1
            intro sv w22 hM22 hb22
            rcases hM22.shape with ⟨_, h0⟩ | ⟨g2, cap2, rfl, hcap2, -, -, -, -, -⟩
            · omega
            have T4 : TS w w' w22 dk b (3 + 1 + 1) B w21.heap.size r (.slice (some ⟨g2, 0, none⟩) r cap2) gp ep := by
              obtain ⟨t1, t2, t3, t4, -⟩ := HT3.out.below hb22
              exact ⟨t1, t2, t3, t4, hM22⟩
            have HT5 := Hid.mk (T4.swap hnp hBw' HT3.out.2.2.2.1)
            have s0 := hM22.cell 0 hnp
            have s1 := hM22.cell (r - 1) (by omega)
            have z0 : w22.frozen? ⟨g2, 0, none⟩ = false := World.ownsRow.frozenAt hM22.1 0
            have z1 : w22.frozen? ⟨g2, r - 1, none⟩ = false := World.ownsRow.frozenAt hM22.1 (r - 1)
            have s2 : (w22.setCell ⟨g2, 0, none⟩ (.slice (some ⟨gp (r - 1), 0, none⟩) r r)).cell? ⟨g2, r - 1, none⟩ = some (.slice (some ⟨gp (r - 1), 0, none⟩) r r) := by
              by_cases hr1 : r - 1 = 0
              · rw [hr1] at s1 ⊢
                exact World.cell?_setCell_same _ _ _ s1
              · rw [World.cell?_setCell_other _ _ _ _ (by intro e; injection e with _ e2; omega)]
                exact s1
            generalize gp (r - 1) = GL at s1 s2 HT5
            generalize gp 0 = GF at s0 HT5
            have hkn1 : -4611686018427387904 ≤ -kz := by omega
            clear hM22 hb22 T4 HT3
            go_wp2_with fail
            refine (deskDet_ok dk b B _ (3 + 1 + 1) r _ _ _ _ HT5.out.1 (by omega) HT5.out.2.2.2.2 (by omega) ?_).mono ?_
            · intro i t hi ht
              have := K13.out.2.2.2.1 (swp r i) t (by unfold swp; split <;> (try split) <;> omega) ht
              show -1000000000 ≤ ep (swp r i) t ∧ ep (swp r i) t ≤ 1000000000
              omega
            rintro x w23 ⟨rfl, hs23, hg23⟩
            have hsw := det_swap r ep hnp hn3
            rw [← HK.out] at hsw
            rw [hsw]
            clear hsw
            obtain ⟨sz, hsz⟩ : ∃ sz : Int, sz = if r = 1 then kz else -kz := ⟨_, rfl⟩
            rw [← hsz]
            have HSZ := Hid.mk hsz
            clear hsz
            have HB6 := Hid.mk (HT5.out.det hs23 hg23).2.2.1
            have HS6 := Hid.mk (HT5.out.det hs23 hg23).1.lo
            clear hs23 hg23 HT5 s0 s1 s2 z0 z1
            go_wp2_with fail
            refine (number_any (f * kz) _ (by omega) (by omega)).mono ?_
            rintro x w24 ⟨rfl, hb24⟩
            have HB7 := Hid.mk (And.intro (HB6.out.trans (hb24.mono HS6.out)) (Nat.le_trans HS6.out hb24.size))
            clear hb24 HB6 HS6
            go_wp2_with fail
            refine (number_any (-kz) _ (by omega) (by omega)).mono ?_
            rintro x w25 ⟨rfl, hb25⟩
            have HB8 := Hid.mk (HB7.out.1.trans (hb25.mono HB7.out.2))
            clear hb25 HB7
            by_cases hr1 : r = 1
            · have hrb : ((r : Int) == 1) = true := beq_iff_eq.2 (by omega)
              have hsz := HSZ.out
              rw [if_pos hr1] at hsz
              rw [hsz, HU.out]
              clear hr1 hsz HSZ
              generalize (⟨(Lib.itoa (f * kz)).toArray⟩ : ByteArray) = Y
              generalize (⟨(Lib.itoa (-kz)).toArray⟩ : ByteArray) = Z
              go_wp2_with fail
              go_ret
              exact ⟨rfl, HB8.out⟩
            · have hrb : ((r : Int) == 1) = false := beq_eq_false_iff_ne.2 (by omega)
              have hsz := HSZ.out
              rw [if_neg hr1] at hsz
              rw [hsz]
              clear hr1 hsz HSZ
              generalize (⟨(Lib.itoa (f * kz)).toArray⟩ : ByteArray) = Y
              generalize (⟨(Lib.itoa (-kz)).toArray⟩ : ByteArray) = Z
              go_wp2_with fail
              go_ret
              exact ⟨rfl, HB8.out⟩
theorem Product_any (a b : Int) (w : World) (ha1 : -9223372036854775808 ≤ a) (ha2 : a ≤ 9223372036854775807) (hb1 : -9223372036854775808 ≤ b) (hb2 : b ≤ 9223372036854775807) (ht : Tab w) :
    Calls Tryd.prog 3 #[.int .i64 a, .int .i64 b] w fun x w' => x = .returned (.bool true) ∧ Below w.heap.size w w' := by
  have HT := Hid.mk ht
  clear ht
  go_enter Tryd.func3, Tryd.ntmps3
  go_wp2_with fail
  refine (start_any a _ ha1 ha2).mono ?_
  rintro x w1 ⟨d, rfl, hd, hdl, hb⟩
  have K := Hid.mk (And.intro hd hb)
  clear hd hb
  go_wp2_with fail
  refine (product_any d w.heap.size b _ K.out.1 ((TabB.of HT.out).below K.out.2) hdl hb1 hb2).mono ?_
  rintro x w2 ⟨rfl, hb⟩
  have K2 := Hid.mk (K.out.2.trans hb)
  clear hb K
  go_wp2_with fail
  go_ret
  exact ⟨rfl, K2.out⟩
end Go.Proofs.YtfjbijpagaipnaaDoor
