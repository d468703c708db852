import Derived.Test.YtfjbijpagaipnabGreatDoorT26
namespace Go.Proofs.YtfjbijpagaipnabGreatDoor
open Go.RowKit
set_option maxRecDepth 100000 in
set_option maxHeartbeats 8000000 in
theorem twice_any (d B : Nat) (w : World) (hd : Di w d) (ht : ∀ w', Below B w w' → Tab w') (hB : B ≤ d) :
 Calls Tryz.prog 9 #[.pointer (some ⟨d, 0, none⟩)] w fun x w' => x = .returned (.bool true) ∧ Below B w w' := by
 have hdl := hd.lt
 have H := Hid.mk (And.intro hd ht)
 clear hd ht
 go_enter Tryz.func9, Tryz.ntmps9
 go_wp2_with fail
 refine (under_any d 4 _ H.out.1 (by omega) (by omega)).mono ?_
 rintro x w1 ⟨⟨r, rfl, hr⟩, hd1, hg1⟩
 have K1 := Hid.mk (And.intro hd1 (Below.ofG hg1 hB (by omega)))
 clear hd1 hg1
 go_wp2_with fail
 refine (under_any d 4 _ K1.out.1 (by omega) (by omega)).mono ?_
 rintro x w2 ⟨⟨c, rfl, hc⟩, hd2, hg2⟩
 have K2 := Hid.mk (And.intro hd2 (K1.out.2.trans (Below.ofG hg2 hB (by have := K1.out.2.size; omega))))
 clear hd2 hg2 K1
 have hr3 : r ≤ 3 := by omega
 have hc3 : c ≤ 3 := by omega
 go_wp2_with fail
 refine (drawn_any d r c _ K2.out.1 hr3 hc3).mono ?_
 rintro x w3 ⟨m, gm, em, rfl, hM3, hin3, hd3, hg3⟩
 have K3 : Hid (RdM w3 m r c em ∧ TinyR r c em ∧ Below B w w3) := Hid.mk ⟨hM3.rd (by omega), hin3.tinyR hr3, K2.out.2.trans (Below.ofG hg3 hB (by have := K2.out.2.size; omega))⟩
 clear hM3 hin3 hd3 hg3 K2
 go_wp2_with fail
 refine (deskK_any _ (H.out.2 _ K3.out.2.2)).mono ?_
 rintro x w4 ⟨dk, b, rfl, hk4, hb4⟩
 rw [← stk_nil] at hk4
 have hB3 : B ≤ w3.heap.size := by have := K3.out.2.2.size; omega
 have K4 : Hid (KL w3.heap.size w4 dk b [] ∧ Below w3.heap.size w3 w4) := Hid.mk ⟨hk4, hb4⟩
 clear hk4 hb4
 go_wp2_with fail
 refine (put_stk w3.heap.size dk b r c m em [] _ K4.out.1 (by simp) (K3.out.1.below K4.out.2) (by omega) (by omega) K3.out.2.1.small).mono ?_
 rintro x w5 ⟨rfl, hk5, hF5⟩
 obtain ⟨zm, hzm⟩ : ∃ zm, zm = nums r c em := ⟨_, rfl⟩
 have HZ : Hid (FitsP r c zm ∧ ∀ i j, i < r → j < c → (ent c zm i j).natAbs ≤ 36) := Hid.mk ⟨by rw [hzm]; exact nums_fits (by omega) (by omega) K3.out.2.1.small, fun i j hi hj => by
  rw [hzm, nums_ent _ hi hj]
  have := K3.out.2.1 i j hi hj
  omega⟩
 rw [← hzm] at hk5
 have K5 : Hid (KS w3.heap.size w5 dk b (msA (r, c, zm)) 1 ∧ Below B w w5) := Hid.mk ⟨hk5, K3.out.2.2.trans ((K4.out.2.trans (KS.frb K4.out.1 hF5)).mono hB3)⟩
 generalize w3.heap.size = B6 at K5 hB3
 clear hk5 hF5 K4 K3 hzm
 go_wp2_with fail
 go_loopw [8] (fun kv wr => ∃ k : Nat, k ≤ 2 ∧ kv = .int .i64 k ∧ Hid (TSt wr B6 dk b (r, c, zm) k ∧ Below B w wr)) (fun kv _ => 2 - (intOf kv).toNat)
 case atStart => exact ⟨0, by omega, rfl, Hid.mk ⟨.inl ⟨rfl, K5.out.1⟩, K5.out.2⟩⟩
 case round =>
  clear K5
  rename World => wr
  obtain ⟨k, hk, rfl, K⟩ := hrel
  obtain rfl | rfl | rfl : k = 0 ∨ k = 1 ∨ k = 2 := by omega
  ·obtain ⟨K6⟩ : Nonempty (Hid (KS B6 wr dk b (msA (r, c, zm)) 1)) := by
    rcases K.out.1 with ⟨-, h⟩ | ⟨h, -⟩ | h
    ·exact ⟨Hid.mk h⟩
    ·omega
    ·omega
   have c0 := K6.out.dk.cell
   have hbl := K6.out.held.lt
   go_wp2_with fail
   refine (echelon_at B6 dk b 0 0 r c 1 zm (msA (r, c, zm)) _ K6.out (by omega) (by rw [cntA]; omega) (by omega) (only0A _) (atA _) HZ.out.1).mono ?_
   rintro x w7 ⟨hb, xs, rfl, ⟨kk, pc, hs, us, ws, rfl, hE⟩, -, hk7, hF7, hbb, hcell⟩
   rw [putsA] at hk7
   have K7 : Hid (KS B6 w7 dk b (ms1 (r, c, zm) (r, c, hs) (r, r, us) (r, r, ws)) 4 ∧ LC w7 hb 1 3 ∧ Below B w w7) := Hid.mk ⟨hk7, ⟨hbb.1, hcell⟩, K.out.2.trans ((KS.frb K6.out hF7).mono hB3)⟩
   have HE : Hid (EchIs r c zm kk pc hs us ws ∧ FitsP r c hs) := Hid.mk ⟨hE, ech_fits hE hr3 hc3 HZ.out.2⟩
   have hne : hb ≠ b := by have := hbb.2; omega
   have c1 : w7.cell? ⟨hb, 0, none⟩ = some (.int .i64 1) := hcell 0 (by omega)
   clear hk7 hF7 hE hcell hbb c0 K6
   go_wp2_with fail
   refine (shown_at B6 dk b 1 1 r c 4 hs _ _ K7.out.1 (by omega) (only1 _ _ _ _) (at1 _ _ _ _)).mono ?_
   rintro x w8 ⟨rfl, hb8⟩
   have K8 := Hid.mk (And.intro (K7.out.1.below hb8) (And.intro (K7.out.2.1.below hb8) (K7.out.2.2.trans (hb8.mono (Nat.le_trans hB3 K7.out.1.lo)))))
   clear hb8 K7 c1
   have c1 : w8.cell? ⟨hb, 0, none⟩ = some (.int .i64 1) := K8.out.2.1.2 0 (by omega)
   generalize hT : (⟨(matT r c hs).toArray⟩ : ByteArray) = T
   have HT := Hid.mk hT
   clear hT
   go_wp2_with fail
   refine (form_atE B6 dk b 1 1 r c 4 hs _ _ K8.out.1 (by omega) (by rw [cnt1]; omega) (by omega) (only1 _ _ _ _) (at1 _ _ _ _) HE.out.2 (fun xs hx => ?_)).mono ?_
   ·obtain ⟨p, q, s, rfl⟩ := len3 hx
    rw [puts1]
    exact ⟨4, by omega, only2 _ _ _ _ p q s, at2 _ _ _ _ p q s⟩
   rintro x w9 ⟨k2, pc2, hs2, us2, ws2, hE2, rfl, ⟨xs, hxl, hk9⟩, hF9⟩
   obtain ⟨p, q, s, rfl⟩ := len3 hxl
   obtain rfl : hs = hs2 := ech_again HE.out.1 hE2
   rw [puts1] at hk9
   have K9 : Hid (KS B6 w9 dk b (frees (ms2 (r, c, zm) (r, c, hs) (r, r, us) (r, r, ws) p q s) 1 0) 7 ∧ LC w9 hb 1 3 ∧ Below B w w9) := Hid.mk ⟨hk9, K8.out.2.1.fr hF9 hne, K8.out.2.2.trans ((KS.frb K8.out.1 hF9).mono hB3)⟩
   rw [HT.out]
   clear hk9 hF9 hE2 K8 c1 hxl
   go_wp2_with fail
   go_loopw [13] (fun iv ws' => ∃ i : Nat, i ≤ 3 ∧ iv = .int .i64 i ∧ Hid (KS B6 ws' dk b (frees (ms2 (r, c, zm) (r, c, hs) (r, r, us) (r, r, ws) p q s) 1 i) 7 ∧ LC ws' hb 1 3 ∧ Below B w ws')) (fun iv _ => 3 - (intOf iv).toNat)
   case atStart => exact ⟨0, by omega, rfl, K9⟩
   case round =>
    clear K9
    rename World => wf
    obtain ⟨i, hi, rfl, K9⟩ := hrel
    by_cases hi3 : i < 3
    ·obtain ⟨hv, hhv⟩ : ∃ hv, hv = 1 + i := ⟨_, rfl⟩
     have c0 := K9.out.1.dk.cell
     have c1 := K9.out.2.1.2 i hi3
     rw [← hhv] at c1
     have HFR := Hid.mk (free3 (r, c, zm) (r, c, hs) (r, r, us) (r, r, ws) p q s i hi3)
     have HV := Hid.mk hhv
     clear hhv
     go_upto_region 21 with fail
     go_still_tail 8, (by kernel_rfl)
     go_wp2_with fail
     refine (free_at B6 dk b hv hv 7 (HFR.out.2.choose) _ _ (K9.out.1.below (Below.refl _ _).drew) (by have := HV.out; omega) (by rw [HV.out]; exact HFR.out.1) (by rw [HV.out]; exact HFR.out.2.choose_spec)).mono ?_
     rintro x w10 ⟨rfl, hk10, hF10⟩
     have K10 : Hid (KS B6 w10 dk b (frees (ms2 (r, c, zm) (r, c, hs) (r, r, us) (r, r, ws) p q s) 1 (i + 1)) 7 ∧ LC w10 hb 1 3 ∧ Below B w w10) := Hid.mk ⟨by rw [HV.out] at hk10; exact hk10, (K9.out.2.1.below (Below.refl _ _).drew).fr hF10 hne, K9.out.2.2.trans ((((Below.refl _ _).drew).trans (KS.frb (K9.out.1.below (Below.refl _ _).drew) hF10)).mono hB3)⟩
     clear hk10 hF10 K9
     go_wp2_with fail
     go_roundw
     case measure => simp [intOf]; omega
     case rel => exact ⟨i + 1, by omega, by go_num, K10⟩
    ·obtain rfl : i = 3 := by omega
     go_wp2_with fail
     go_roundw
     case measure => simp [intOf]
     case rel => exact ⟨1, by omega, rfl, Hid.mk ⟨.inr (.inl ⟨rfl, p, q, s, by rw [← free3_all]; exact K9.out.1⟩), K9.out.2.2⟩⟩
  ·obtain ⟨p, q, s, K6⟩ : ∃ p q s, Hid (KS B6 wr dk b (ms3 (r, c, zm) p q s) 7) := by
    rcases K.out.1 with ⟨h, -⟩ | ⟨-, p, q, s, h⟩ | h
    ·omega
    ·exact ⟨p, q, s, Hid.mk h⟩
    ·omega
   have c0 := K6.out.dk.cell
   have hbl := K6.out.held.lt
   go_wp2_with fail
   refine (echelon_at B6 dk b 0 0 r c 7 zm (ms3 (r, c, zm) p q s) _ K6.out (by omega) (by rw [cnt3]; omega) (by omega) (only3 _ _ _ _) (at3 _ _ _ _) HZ.out.1).mono ?_
   rintro x w6 ⟨hb0, xs, rfl, -, hxl, hk6, hF6, -, -⟩
   obtain ⟨a1, a2, a3, rfl⟩ := len3 hxl
   rw [puts3] at hk6
   have K6' : Hid (KS B6 w6 dk b (ms4 (r, c, zm) a1 a2 a3 p q s) 10 ∧ Below B w w6) := Hid.mk ⟨hk6, K.out.2.trans ((KS.frb K6.out hF6).mono hB3)⟩
   have hw6 : b < w6.heap.size := K6'.out.1.held.lt
   clear hk6 hF6 K6 c0 hxl
   have c0 := K6'.out.1.dk.cell
   go_wp2_with fail
   refine (diagonal_at B6 dk b 0 0 r c 10 zm _ _ K6'.out.1 (by omega) (by rw [cnt4]; omega) (by omega) (only4 _ _ _ _ _ _ _) (at4 _ _ _ _ _ _ _) HZ.out.1).mono ?_
   rintro x w7 ⟨hb, ys, rfl, ⟨y, rfl, hD, hlen⟩, -, hk7, hF7, hbb, hcell⟩
   rw [puts4] at hk7
   have K7 : Hid (KS B6 w7 dk b (ms5 (r, c, zm) a1 a2 a3 p q s (r, c, y.d) (r, r, y.u) (r, r, y.s) (c, c, y.v) (c, c, y.t)) 15 ∧ LC w7 hb 10 5 ∧ Below B w w7) := Hid.mk ⟨hk7, ⟨hbb.1, hcell⟩, K6'.out.2.trans ((KS.frb K6'.out.1 hF7).mono hB3)⟩
   have HD : Hid (DgIs r c zm y ∧ FitsP r c y.d ∧ y.d.length = r * c) := Hid.mk ⟨hD, dg_fits hD hr3 hc3 HZ.out.2, hlen.1⟩
   have hne : hb ≠ b := by have := hbb.2; omega
   have c1 : w7.cell? ⟨hb, 0, none⟩ = some (.int .i64 10) := hcell 0 (by omega)
   clear hk7 hF7 hD hcell hbb c0 K6' hlen
   go_wp2_with fail
   refine (shown_at B6 dk b 10 7 r c 15 y.d _ _ K7.out.1 (by omega) (only5 _ _ _ _ _ _ _ _ _ _ _ _) (at5 _ _ _ _ _ _ _ _ _ _ _ _)).mono ?_
   rintro x w8 ⟨rfl, hb8⟩
   have K8 := Hid.mk (And.intro (K7.out.1.below hb8) (And.intro (K7.out.2.1.below hb8) (K7.out.2.2.trans (hb8.mono (Nat.le_trans hB3 K7.out.1.lo)))))
   clear hb8 K7 c1
   have c1 : w8.cell? ⟨hb, 0, none⟩ = some (.int .i64 10) := K8.out.2.1.2 0 (by omega)
   generalize hT : (⟨(matT r c y.d).toArray⟩ : ByteArray) = T
   have HT := Hid.mk hT
   clear hT
   go_wp2_with fail
   refine (form_atD B6 dk b 10 7 r c 15 y.d _ _ K8.out.1 (by omega) (by rw [cnt5]; omega) (by omega) (only5 _ _ _ _ _ _ _ _ _ _ _ _) (at5 _ _ _ _ _ _ _ _ _ _ _ _) HD.out.2.1 (fun xs hx => ?_)).mono ?_
   ·obtain ⟨e0, e1, e2, rfl⟩ := len3 hx
    rw [puts5]
    refine ⟨by rw [cnt6]; omega, only6 _ _ _ _ _ _ _ _ _ _ _ _ e0 e1 e2, at6 _ _ _ _ _ _ _ _ _ _ _ _ e0 e1 e2, fun ys hy => ?_⟩
    obtain ⟨f0, f1, f2, f3, f4, rfl⟩ := len5 hy
    rw [show 15 + 3 = 18 from rfl, puts6]
    exact ⟨15, by omega, only7 _ _ _ _ _ _ _ _ _ _ _ _ e0 e1 e2 f0 f1 f2 f3 f4, at7 _ _ _ _ _ _ _ _ _ _ _ _ e0 e1 e2 f0 f1 f2 f3 f4⟩
   rintro x w9 ⟨y2, hD2, hl2, rfl, ⟨xs, ys, hxl, hyl, hk9⟩, hF9⟩
   obtain ⟨e0, e1, e2, rfl⟩ := len3 hxl
   obtain ⟨f0, f1, f2, f3, f4, rfl⟩ := len5 hyl
   rw [puts5, show 15 + 3 = 18 from rfl, puts6] at hk9
   have hdd : y.d = y2.d := dg_again HD.out.1 hD2 HD.out.2.2 hl2 (by omega)
   have K9 : Hid (KS B6 w9 dk b (frees (ms7 (r, c, zm) a1 a2 a3 p q s (r, c, y.d) (r, r, y.u) (r, r, y.s) (c, c, y.v) (c, c, y.t) e0 e1 e2 f0 f1 f2 f3 f4) 7 0) 23 ∧ LC w9 hb 10 5 ∧ Below B w w9) := Hid.mk ⟨hk9, K8.out.2.1.fr hF9 hne, K8.out.2.2.trans ((KS.frb K8.out.1 hF9).mono hB3)⟩
   rw [← hdd, HT.out]
   clear hk9 hF9 hD2 K8 c1 hxl hyl hl2 hdd
   have HFR5 := Hid.mk (free5 (r, c, zm) a1 a2 a3 p q s (r, c, y.d) (r, r, y.u) (r, r, y.s) (c, c, y.v) (c, c, y.t) e0 e1 e2 f0 f1 f2 f3 f4)
   generalize ms7 (r, c, zm) a1 a2 a3 p q s (r, c, y.d) (r, r, y.u) (r, r, y.s) (c, c, y.v) (c, c, y.t) e0 e1 e2 f0 f1 f2 f3 f4 = MM at K9 HFR5
   go_wp2_with fail
   go_loopw [13] (fun iv ws' => ∃ i : Nat, i ≤ 5 ∧ iv = .int .i64 i ∧ Hid (KS B6 ws' dk b (frees MM 7 i) 23 ∧ LC ws' hb 10 5 ∧ Below B w ws')) (fun iv _ => 5 - (intOf iv).toNat)
   case atStart => exact ⟨0, by omega, rfl, K9⟩
   case round =>
    clear K9
    rename World => wf
    obtain ⟨i, hi, rfl, K9⟩ := hrel
    by_cases hi5 : i < 5
    ·obtain ⟨hv, hhv⟩ : ∃ hv, hv = 10 + i := ⟨_, rfl⟩
     have c0 := K9.out.1.dk.cell
     have c1 := K9.out.2.1.2 i hi5
     rw [← hhv] at c1
     have HFR := Hid.mk (HFR5.out i hi5)
     have HV := Hid.mk hhv
     clear hhv
     go_upto_region 21 with fail
     go_still_tail 8, (by kernel_rfl)
     go_wp2_with fail
     refine (free_at B6 dk b hv (7 + i) 23 (HFR.out.2.choose) _ _ (K9.out.1.below (Below.refl _ _).drew) (by omega) (by rw [HV.out]; exact HFR.out.1) (by rw [HV.out]; exact HFR.out.2.choose_spec)).mono ?_
     rintro x w10 ⟨rfl, hk10, hF10⟩
     have K10 : Hid (KS B6 w10 dk b (frees MM 7 (i + 1)) 23 ∧ LC w10 hb 10 5 ∧ Below B w w10) := Hid.mk ⟨hk10, (K9.out.2.1.below (Below.refl _ _).drew).fr hF10 hne, K9.out.2.2.trans ((((Below.refl _ _).drew).trans (KS.frb (K9.out.1.below (Below.refl _ _).drew) hF10)).mono hB3)⟩
     clear hk10 hF10 K9
     go_wp2_with fail
     go_roundw
     case measure => simp [intOf]; omega
     case rel => exact ⟨i + 1, by omega, by go_num, K10⟩
    ·obtain rfl : i = 5 := by omega
     go_wp2_with fail
     go_roundw
     case measure => simp [intOf]
     case rel => exact ⟨2, by omega, rfl, Hid.mk ⟨.inr (.inr rfl), K9.out.2.2⟩⟩
  ·have KF := Hid.mk K.out.2
   go_wp2_with fail
   go_ret
   exact ⟨rfl, KF.out⟩
theorem Twice_all (a : Int) (w : World) (ht : Tab w) (ha1 : -9223372036854775808 ≤ a) (ha2 : a ≤ 9223372036854775807) :
 Calls Tryz.prog 3 #[.int .i64 a] w fun x w' => x = .returned (.bool true) ∧ Below w.heap.size w w' := by
 have HT := Hid.mk ht
 clear ht
 go_enter Tryz.func3, Tryz.ntmps3
 go_wp2_with fail
 refine (start_any a _ ha1 ha2).mono ?_
 rintro e w1 ⟨d, rfl, hd, hdb, hb⟩
 have H := Hid.mk (And.intro hd hb)
 clear hd hb
 go_wp2_with fail
 refine (twice_any d w.heap.size _ H.out.1 (fun w' hw => HT.out.below (H.out.2.trans hw)) hdb).mono ?_
 rintro e w2 ⟨rfl, hb2⟩
 have K := Hid.mk (H.out.2.trans hb2)
 clear hb2
 go_wp2_with fail
 go_ret
 exact ⟨rfl, K.out⟩
end Go.Proofs.YtfjbijpagaipnabGreatDoor
