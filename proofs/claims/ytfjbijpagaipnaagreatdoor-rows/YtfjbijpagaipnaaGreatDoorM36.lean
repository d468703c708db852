import Derived.Test.YtfjbijpagaipnaaGreatDoorM34
import Derived.Test.YtfjbijpagaipnaaGreatDoorM35
namespace Go.Proofs.YtfjbijpagaipnaaGreatDoor
open Go.RowKit
theorem KL.fr2 {B : Nat} {w w' : World} {d b : Nat} {l : List KMx} (h : KL B w d b l) (hF : Fr b w w') : Below B w w' := hF.below h.hb h.lo
theorem matT_ne (r c : Nat) (zs : List Int) : (⟨(matT r c zs).toArray⟩ : ByteArray) ≠ ⟨#[63]⟩ := by
 intro h
 have h1 : (matT r c zs).toArray = #[63] := congrArg ByteArray.data h
 have h2 : (matT r c zs).length = 1 := by
  have := congrArg Array.size h1
  simpa using this
 have h3 : 0 < (Lib.decDigits r).length := List.length_pos_iff.2 (by rw [← Lib.itoa_nonneg]; exact (run_itoa r).1.1)
 simp [matT] at h2
 omega
theorem bytes_ne {a : ByteArray} (h : a ≠ ⟨#[63]⟩) : (a.toList == [63]) = false := by
 refine beq_eq_false_iff_ne.2 (fun e => h ?_)
 rw [ByteArray.toList_eq] at e
 rcases a with ⟨a⟩
 have e1 : a.toList = [63] := e
 have e2 : a = #[63] := by rw [← Array.toArray_toList (xs := a), e1]
 rw [e2]
theorem spEq_nums {r r' c : Nat} {e e' : Nat → Nat → Int} (h : SpEq e e' r r' c) : SpEq (ent c (nums r c e)) (ent c (nums r' c e')) r r' c := by
 have key : ∀ {r r' : Nat} {e e' : Nat → Nat → Int}, (∀ i, i < r → Sp e' r' c (e i)) → ∀ i, i < r → Sp (ent c (nums r' c e')) r' c (ent c (nums r c e) i) := by
  intro r r' e e' h i hi
  obtain ⟨x, hx⟩ := h i hi
  exact ⟨x, fun j hj => by
   rw [nums_ent _ hi hj, hx j hj]
   exact sm_congr r' fun l hl => by rw [nums_ent _ hl hj]⟩
 exact ⟨key h.1, key h.2⟩
theorem ech_same {r c k k' : Nat} {zs ys hs hs' us us' ws ws' : List Int} {pc pc' : Nat → Nat} (h : EchIs r c zs k pc hs us ws) (h' : EchIs r c ys k' pc' hs' us' ws') (he : SpEq (ent c zs) (ent c ys) r r c) : hs = hs' := by
 obtain ⟨rfl, e⟩ := (same_span h.st h.inv h'.st h'.inv).2 he
 refine list_ent h.lh h'.lh fun i j hi hj => ?_
 by_cases hk : i < k
 ·exact e i j hk hj
 ·rw [h.st.rest i (by omega) hi j hj, h'.st.rest i (by omega) hi j hj]
theorem div_sp {r c : Nat} {A B : Nat → Nat → Int} (he : SpEq A B r r c) (m : Nat) (hm : m ≤ 4) : R.divF A r c m = R.divF B r c m := R.div_same he.1 he.2 hm
set_option maxRecDepth 100000 in
set_option maxHeartbeats 8000000 in
theorem rows_any (d B : Nat) (w : World) (hd : Di w d) (ht : ∀ w', Below B w w' → Tab w') (hB : B ≤ d) :
 Calls Tryz.prog 15 #[.pointer (some ⟨d, 0, none⟩)] w fun x w' => x = .returned (.bool true) ∧ Below B w w' := by
 have hdl := hd.lt
 have H := Hid.mk (And.intro hd ht)
 clear hd ht
 go_enter Tryz.func15, Tryz.ntmps15
 go_wp2_with fail
 refine (under_any d 4 _ H.out.1 (by omega) (by omega)).mono ?_
 rintro x w1 ⟨⟨r, rfl, hr⟩, hd1, hg1⟩
 have K1 := Hid.mk (And.intro hd1 (Below.ofG hg1 hB (by omega)))
 clear hd1 hg1
 go_wp2_with fail
 refine (under_any d 4 _ K1.out.1 (by omega) (by omega)).mono ?_
 rintro x w2 ⟨⟨c, rfl, hc⟩, hd2, hg2⟩
 have K2 := Hid.mk (And.intro hd2 (K1.out.2.trans (Below.ofG hg2 hB (by have := K1.out.2.size; omega))))
 clear hd2 hg2 K1
 have hr3 : r ≤ 3 := by omega
 have hc3 : c ≤ 3 := by omega
 go_wp2_with fail
 refine (drawn_any d r c _ K2.out.1 hr3 hc3).mono ?_
 rintro x w3 ⟨m, gm, em, rfl, hM3, hin3, hd3, hg3⟩
 have K3 := Hid.mk (And.intro hM3 (And.intro (hin3.tinyR hr3) (And.intro hd3 (K2.out.2.trans (Below.ofG hg3 hB (by have := K2.out.2.size; omega))))))
 clear hM3 hin3 hd3 hg3 K2
 go_wp2_with fail
 refine (mixed_any d r c _ m gm em _ K3.out.2.2.1 K3.out.1 hr3 hc3 K3.out.2.1).mono ?_
 rintro x w4 ⟨n, en, rfl, hM4, hsp, hsm, hd4, hg4⟩
 have hRm : RdM w4 m r c em := (K3.out.1.keep (KB.of_grown hg4 K3.out.2.2.1.ty (by decide) (by decide))).rd (by omega)
 have K4 : Hid (RdM w4 m r c em ∧ RdM w4 n r c en ∧ Below B w w4) := Hid.mk ⟨hRm, hM4, K3.out.2.2.2.trans (Below.ofG hg4 hB (by have := K3.out.2.2.2.size; omega))⟩
 have HS : Hid (SmallR r c em ∧ SmallR r c en ∧ SpEq em en r r c) := Hid.mk ⟨K3.out.2.1.small, hsm, hsp⟩
 clear hM4 hsp hsm hd4 hg4 K3 hRm
 go_wp2_with fail
 refine (deskK_any _ (H.out.2 _ K4.out.2.2)).mono ?_
 rintro x w5 ⟨dk, b, rfl, hk5, hb5⟩
 rw [← stk_nil] at hk5
 have hB4 : B ≤ w4.heap.size := by have := K4.out.2.2.size; omega
 have K5 : Hid (KL w4.heap.size w5 dk b [] ∧ Below w4.heap.size w4 w5) := Hid.mk ⟨hk5, hb5⟩
 clear hk5 hb5
 go_wp2_with fail
 refine (put_stk w4.heap.size dk b r c m em [] _ K5.out.1 (by simp) (K4.out.1.below K5.out.2) (by omega) (by omega) HS.out.1).mono ?_
 rintro x w6 ⟨rfl, hk6, hF6⟩
 have K6 : Hid (KL w4.heap.size w6 dk b [(r, c, nums r c em)] ∧ Below w4.heap.size w4 w6) := Hid.mk ⟨hk6, K5.out.2.trans (K5.out.1.fr2 hF6)⟩
 clear hk6 hF6 K5
 go_wp2_with fail
 refine (put_stk w4.heap.size dk b r c n en [(r, c, nums r c em)] _ K6.out.1 (by simp) (K4.out.2.1.below K6.out.2) (by omega) (by omega) HS.out.2.1).mono ?_
 rintro x w7 ⟨rfl, hk7, hF7⟩
 have K7 : Hid (KL w4.heap.size w7 dk b [(r, c, nums r c em), (r, c, nums r c en)] ∧ Below B w w7) := Hid.mk ⟨hk7, K4.out.2.2.trans ((K6.out.2.trans (K6.out.1.fr2 hF7)).mono hB4)⟩
 generalize w4.heap.size = B6 at K7 hB4
 have HF : Hid (FitsP r c (nums r c em) ∧ FitsP r c (nums r c en) ∧ SpEq (ent c (nums r c em)) (ent c (nums r c en)) r r c) := Hid.mk ⟨nums_fits (by omega) (by omega) HS.out.1, nums_fits (by omega) (by omega) HS.out.2.1, spEq_nums HS.out.2.2⟩
 clear hk7 hF7 K6 K4
 generalize nums r c em = zm at K7 HF
 generalize nums r c en = zn at K7 HF
 go_wp2_with fail
 refine (form_ech B6 dk b 0 r c zm [(r, c, zm), (r, c, zn)] _ K7.out.1 (by simp) rfl HF.out.1).mono ?_
 rintro x w8 ⟨k1, pc1, hs1, us1, ws1, hE1, rfl, ⟨xs1, hx1, hk8⟩, hF8⟩
 have K8 := Hid.mk (And.intro hk8 (K7.out.2.trans ((K7.out.1.fr2 hF8).mono hB4)))
 have HE1 := Hid.mk hE1
 clear hk8 hF8 K7 hE1
 generalize hS1 : (⟨(matT r c hs1).toArray⟩ : ByteArray) = S1
 have HS1 := Hid.mk hS1
 clear hS1
 go_wp2_with fail
 refine (form_ech B6 dk b 1 r c zn ([(r, c, zm), (r, c, zn)] ++ xs1) _ K8.out.1 (by simp; omega) rfl HF.out.2.1).mono ?_
 rintro x w9 ⟨k2, pc2, hs2, us2, ws2, hE2, rfl, ⟨xs2, hx2, hk9⟩, hF9⟩
 obtain rfl : hs1 = hs2 := ech_same HE1.out hE2 HF.out.2.2
 rw [HS1.out]
 have K9 : Hid (KL B6 w9 dk b ([(r, c, zm), (r, c, zn)] ++ xs1 ++ xs2) ∧ Below B w w9) := Hid.mk (And.intro hk9 (K8.out.2.trans ((K8.out.1.fr2 hF9).mono hB4)))
 have HL9 : Hid (([(r, c, zm), (r, c, zn)] ++ xs1 ++ xs2).length = 8 ∧ ([(r, c, zm), (r, c, zn)] ++ xs1 ++ xs2)[0]? = some (r, c, zm) ∧ ([(r, c, zm), (r, c, zn)] ++ xs1 ++ xs2)[1]? = some (r, c, zn)) := Hid.mk ⟨by simp [hx1, hx2], rfl, rfl⟩
 generalize [(r, c, zm), (r, c, zn)] ++ xs1 ++ xs2 = l9 at K9 HL9
 clear hk9 hF9 K8 hE2 HE1 hx1 hx2
 go_wp2_with fail
 refine (form_dg B6 dk b 0 r c zm l9 _ K9.out.1 (by have := HL9.out.1; omega) HL9.out.2.1 HF.out.1).mono ?_
 rintro x w10 ⟨y1, hD1, hl1, rfl, ⟨xs3, hx3, hk10⟩, hF10⟩
 have K10 : Hid (KL B6 w10 dk b (l9 ++ xs3) ∧ Below B w w10) := Hid.mk (And.intro hk10 (K9.out.2.trans ((K9.out.1.fr2 hF10).mono hB4)))
 have HL10 : Hid ((l9 ++ xs3).length = 16 ∧ (l9 ++ xs3)[0]? = some (r, c, zm) ∧ (l9 ++ xs3)[1]? = some (r, c, zn)) := Hid.mk ⟨by simp [HL9.out.1, hx3], by rw [List.getElem?_append_left (by have := HL9.out.1; omega)]; exact HL9.out.2.1, by rw [List.getElem?_append_left (by have := HL9.out.1; omega)]; exact HL9.out.2.2⟩
 generalize l9 ++ xs3 = l10 at K10 HL10
 have HD1 := Hid.mk (And.intro hD1 hl1)
 clear hk10 hF10 K9 hD1 hl1 hx3 HL9
 generalize hU1 : (⟨(matT r c y1.d).toArray⟩ : ByteArray) = U1
 have HU1 := Hid.mk hU1
 clear hU1
 go_wp2_with fail
 refine (form_dg B6 dk b 1 r c zn l10 _ K10.out.1 (by have := HL10.out.1; omega) HL10.out.2.2 HF.out.2.1).mono ?_
 rintro x w11 ⟨y2, hD2, hl2, rfl, ⟨xs4, hx4, hk11⟩, hF11⟩
 have hdd : y1.d = y2.d := R.diag_uniq HD1.out.1 hD2 HD1.out.2 hl2 (by omega) (fun m hm => div_sp HF.out.2.2 m hm)
 rw [← hdd, HU1.out]
 have K11 : Hid (KL B6 w11 dk b (l10 ++ xs4) ∧ Below B w w11) := Hid.mk (And.intro hk11 (K10.out.2.trans ((K10.out.1.fr2 hF11).mono hB4)))
 have HL11 : Hid ((l10 ++ xs4).length = 24 ∧ (l10 ++ xs4)[0]? = some (r, c, zm) ∧ (l10 ++ xs4)[1]? = some (r, c, zn)) := Hid.mk ⟨by simp [HL10.out.1, hx4], by rw [List.getElem?_append_left (by have := HL10.out.1; omega)]; exact HL10.out.2.1, by rw [List.getElem?_append_left (by have := HL10.out.1; omega)]; exact HL10.out.2.2⟩
 generalize l10 ++ xs4 = l11 at K11 HL11
 clear hk11 hF11 K10 hD2 hl2 hx4 HL10 hdd HD1
 have c0 := K11.out.1.dk.cell
 go_wp2_with fail
 refine (equal_stk B6 dk b 0 1 r r c zm zn l11 _ K11.out.1 (by have := HL11.out.1; omega) HL11.out.2.1 HL11.out.2.2 HF.out.1 HF.out.2.1).mono ?_
 rintro x w12 ⟨y, rfl, hy, hb12⟩
 obtain rfl : y = true := hy.2 HF.out.2.2
 have K12 := Hid.mk (And.intro (K11.out.1.below hb12) (K11.out.2.trans (hb12.mono (Nat.le_trans hB4 K11.out.1.lo))))
 clear hb12 hy K11 c0
 have c0 := K12.out.1.dk.cell
 go_wp2_with fail
 refine (index_stk B6 dk b 0 r c zm l11 _ K12.out.1 (by have := HL11.out.1; omega) HL11.out.2.1 HF.out.1).mono ?_
 rintro x w13 ⟨i1, hi1, rfl, hb13⟩
 have K13 := Hid.mk (And.intro (K12.out.1.below hb13) (K12.out.2.trans (hb13.mono (Nat.le_trans hB4 K12.out.1.lo))))
 clear hb13 K12 c0
 have HI1 := Hid.mk hi1
 clear hi1
 generalize hX1 : (⟨(Lib.itoa ((R.divF (ent c zm) r c i1 : Nat) : Int)).toArray⟩ : ByteArray) = X1
 have HX1 := Hid.mk hX1
 clear hX1
 have c0 := K13.out.1.dk.cell
 go_wp2_with fail
 refine (index_stk B6 dk b 1 r c zn l11 _ K13.out.1 (by have := HL11.out.1; omega) HL11.out.2.2 HF.out.2.1).mono ?_
 rintro x w14 ⟨i2, hi2, rfl, hb14⟩
 have hii : i1 = i2 := R.rankIs_uniq (fun m hm => div_sp HF.out.2.2 m hm) (by omega) HI1.out hi2
 have hxx : (⟨(Lib.itoa ((R.divF (ent c zn) r c i2 : Nat) : Int)).toArray⟩ : ByteArray) = X1 := by
  rw [← hii, ← div_sp HF.out.2.2 i1 (by have := HI1.out.2.1; omega)]
  exact HX1.out
 rw [hxx]
 have K14 := Hid.mk (And.intro (K13.out.1.below hb14) (K13.out.2.trans (hb14.mono (Nat.le_trans hB4 K13.out.1.lo))))
 clear hb14 K13 c0 hi2 hii hxx
 have c0 := K14.out.1.dk.cell
 go_wp2_with fail
 refine (rank_stk B6 dk b 0 r c zm l11 _ K14.out.1 (by have := HL11.out.1; omega) HL11.out.2.1 HF.out.1).mono ?_
 rintro x w15 ⟨p, hp, rfl, hb15⟩
 have K15 := Hid.mk (And.intro (K14.out.1.below hb15) (K14.out.2.trans (hb15.mono (Nat.le_trans hB4 K14.out.1.lo))))
 clear hb15 K14 c0
 have hp1 : p ≤ r := hp.1
 have hp2 : p ≤ c := hp.2.1
 have HP := Hid.mk hp
 clear hp
 have c0 := K15.out.1.dk.cell
 go_wp2_with fail
 refine (rank_stk B6 dk b 1 r c zn l11 _ K15.out.1 (by have := HL11.out.1; omega) HL11.out.2.2 HF.out.2.1).mono ?_
 rintro x w16 ⟨q, hq, rfl, hb16⟩
 obtain rfl : p = q := R.rankIs_uniq (fun m hm => div_sp HF.out.2.2 m hm) (by omega) HP.out hq
 have K16 := Hid.mk (K15.out.2.trans (hb16.mono (Nat.le_trans hB4 K15.out.1.lo)))
 clear hb16 K15 c0 hq
 have hn1 : (S1.toList == [63]) = false := bytes_ne (by rw [← HS1.out]; exact matT_ne r c hs1)
 have hn2 : (U1.toList == [63]) = false := bytes_ne (by rw [← HU1.out]; exact matT_ne r c y1.d)
 go_wp2_with fail
 go_ret
 exact ⟨rfl, K16.out⟩
theorem Rows_all (a : Int) (w : World) (ht : Tab w) (ha1 : -9223372036854775808 ≤ a) (ha2 : a ≤ 9223372036854775807) :
 Calls Tryz.prog 11 #[.int .i64 a] w fun x w' => x = .returned (.bool true) ∧ Below w.heap.size w w' := by
 have HT := Hid.mk ht
 clear ht
 go_enter Tryz.func11, Tryz.ntmps11
 go_wp2_with fail
 refine (start_any a _ ha1 ha2).mono ?_
 rintro e w1 ⟨d, rfl, hd, hdb, hb⟩
 have H := Hid.mk (And.intro hd hb)
 clear hd hb
 go_wp2_with fail
 refine (rows_any d w.heap.size _ H.out.1 (fun w' hw => HT.out.below (H.out.2.trans hw)) hdb).mono ?_
 rintro e w2 ⟨rfl, hb2⟩
 have K := Hid.mk (H.out.2.trans hb2)
 clear hb2
 go_wp2_with fail
 go_ret
 exact ⟨rfl, K.out⟩
end Go.Proofs.YtfjbijpagaipnaaGreatDoor
