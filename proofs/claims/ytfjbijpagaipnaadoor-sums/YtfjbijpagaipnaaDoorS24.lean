import Derived.Test.YtfjbijpagaipnaaDoorS23
import Derived.Deep.CutRange
namespace Go.Proofs.YtfjbijpagaipnaaDoor
open Go.RowKit
theorem RdM.one {w : World} {g n cap c i : Nat} {e : Nat → Nat → Int} (h : RdM w (.slice (some ⟨g, 0, none⟩) n cap) n c e) (hi : i < n) : RdM w (.slice (some ⟨g, i, none⟩) 1 (cap - i)) 1 c (fun _ j => e i j) := by
 obtain ⟨ao, cap', e1, h1, h2, h3⟩ := h
 injection e1 with e1 _ e2
 subst e1
 subst e2
 refine ⟨_, _, rfl, by omega, by omega, fun a ha => ?_⟩
 obtain rfl : a = 0 := by omega
 obtain ⟨g', o, e2, ro, rcap, c0, h4, h5, h6⟩ := h3 i hi
 injection e2 with e2
 injection e2 with e2 e3
 subst e2
 subst e3
 exact ⟨g, i, rfl, ro, rcap, by rw [Nat.zero_add] at c0; rw [Nat.add_zero]; exact c0, h4, h5, h6⟩
theorem nums_bd {r c : Nat} {e : Nat → Nat → Int} (h : TinyR r c e) : ∀ i j, i < r → j < c → (ent c (nums r c e) i j).natAbs ≤ 36 := fun i j hi hj => by
 rw [nums_ent _ hi hj]
 have := h i j hi hj
 omega
theorem over_bd {r q c : Nat} {zs ys : List Int} (hz : zs.length = r * c) (h1 : ∀ i j, i < r → j < c → (ent c zs i j).natAbs ≤ 36) (h2 : ∀ i j, i < q → j < c → (ent c ys i j).natAbs ≤ 36) : ∀ i j, i < r + q → j < c → (ent c (zs ++ ys) i j).natAbs ≤ 36 := fun i j hi hj => by
 by_cases hir : i < r
 ·rw [ent_top ys hz hir hj]; exact h1 i j hir hj
 ·have := ent_low ys hz (i - r) j
  rw [show r + (i - r) = i from by omega] at this
  rw [this]
  exact h2 (i - r) j (by omega) hj
set_option maxRecDepth 100000 in
set_option maxHeartbeats 8000000 in
theorem sums_any (d B : Nat) (w : World) (hd : Di w d) (ht : ∀ w', Below B w w' → Tab w') (hB : B ≤ d) :
 Calls Tryd.prog 8 #[.pointer (some ⟨d, 0, none⟩)] w fun x w' => x = .returned (.bool true) ∧ Below B w w' := by
 have hdl := hd.lt
 have H := Hid.mk (And.intro hd ht)
 clear hd ht
 go_enter Tryd.func8, Tryd.ntmps8
 go_wp2_with fail
 refine (under_any d 4 _ H.out.1 (by omega) (by omega)).mono ?_
 rintro x w1 ⟨⟨c, rfl, hc⟩, hd1, hg1⟩
 have K1 := Hid.mk (And.intro hd1 (Below.ofG hg1 hB (by omega)))
 clear hd1 hg1
 go_wp2_with fail
 refine (under_any d 3 _ K1.out.1 (by omega) (by omega)).mono ?_
 rintro x w2 ⟨⟨r, rfl, hr⟩, hd2, hg2⟩
 have K2 := Hid.mk (And.intro hd2 (K1.out.2.trans (Below.ofG hg2 hB (by have := K1.out.2.size; omega))))
 clear hd2 hg2 K1
 go_wp2_with fail
 refine (under_any d 3 _ K2.out.1 (by omega) (by omega)).mono ?_
 rintro x w3 ⟨⟨q, rfl, hq⟩, hd3, hg3⟩
 have K3 := Hid.mk (And.intro hd3 (K2.out.2.trans (Below.ofG hg3 hB (by have := K2.out.2.size; omega))))
 clear hd3 hg3 K2
 go_wp2_with fail
 refine (drawn_any d r c _ K3.out.1 (by omega) (by omega)).mono ?_
 rintro x w4 ⟨m, gm, em, rfl, hM4, hin4, hd4, hg4⟩
 have K4 := Hid.mk (And.intro hM4 (And.intro hd4 (K3.out.2.trans (Below.ofG hg4 hB (by have := K3.out.2.size; omega)))))
 have HT := Hid.mk (hin4.tinyR (by omega))
 clear hM4 hin4 hd4 hg4 K3
 go_wp2_with fail
 refine (drawn_any d q c _ K4.out.2.1 (by omega) (by omega)).mono ?_
 rintro x w5 ⟨n, gn, en, rfl, hM5, hin5, hd5, hg5⟩
 have hRm : RdM w5 m r c em := (K4.out.1.keep (KB.of_grown hg5 K4.out.2.1.ty (by decide) (by decide))).rd (by omega)
 have K5 : Hid (RdM w5 m r c em ∧ RdM w5 n q c en ∧ Below B w w5) := Hid.mk ⟨hRm, hM5.rd (by omega), K4.out.2.2.trans (Below.ofG hg5 hB (by have := K4.out.2.2.size; omega))⟩
 have HT2 := Hid.mk (hin5.tinyR (by omega))
 obtain ⟨ao, cap, hmm, hcap, hcap2, hao⟩ : ∃ ao cap, m = .slice ao r cap ∧ r ≤ cap ∧ cap ≤ 9223372036854775807 ∧ (0 < r → ∃ g, ao = some ⟨g, 0, none⟩) := by
  rcases K4.out.1.shape with ⟨h1, h2⟩ | ⟨g, cap, h1, h2, h3, -⟩
  ·exact ⟨none, 0, by rw [h1, h2], by omega, by omega, fun h => by omega⟩
  ·exact ⟨_, cap, h1, h2, h3, fun _ => ⟨g, rfl⟩⟩
 clear hM5 hin5 hd5 hg5 K4 hRm
 have HAO := Hid.mk hao
 clear hao
 subst hmm
 go_wp2_with fail
 refine (deskK_any _ (H.out.2 _ K5.out.2.2)).mono ?_
 rintro x w6 ⟨dk, b, rfl, hk6, hb6⟩
 rw [← stk_nil] at hk6
 have hB5 : B ≤ w5.heap.size := by have := K5.out.2.2.size; omega
 have K6 : Hid (KL w5.heap.size w6 dk b [] ∧ Below w5.heap.size w5 w6) := Hid.mk ⟨hk6, hb6⟩
 clear hk6 hb6
 go_wp2_with fail
 refine (put_stk w5.heap.size dk b r c _ em [] _ K6.out.1 (by simp) (K5.out.1.below K6.out.2) (by omega) (by omega) HT.out.small).mono ?_
 rintro x w7 ⟨rfl, hk7, hF7⟩
 have K7 : Hid (KL w5.heap.size w7 dk b [(r, c, nums r c em)] ∧ Below w5.heap.size w5 w7) := Hid.mk ⟨hk7, K6.out.2.trans (K6.out.1.fr3 hF7)⟩
 clear hk7 hF7 K6
 go_wp2_with fail
 refine (put_stk w5.heap.size dk b q c n en [(r, c, nums r c em)] _ K7.out.1 (by simp) (K5.out.2.1.below K7.out.2) (by omega) (by omega) HT2.out.small).mono ?_
 rintro x w8 ⟨rfl, hk8, hF8⟩
 have K8 : Hid (KL w5.heap.size w8 dk b [(r, c, nums r c em), (q, c, nums q c en)] ∧ Below w5.heap.size w5 w8) := Hid.mk ⟨hk8, K7.out.2.trans (K7.out.1.fr3 hF8)⟩
 clear hk8 hF8 K7
 obtain ⟨zm, hzm⟩ : ∃ zm, zm = nums r c em := ⟨_, rfl⟩
 obtain ⟨zn, hzn⟩ : ∃ zn, zn = nums q c en := ⟨_, rfl⟩
 have HF : Hid (FitsP r c zm ∧ FitsP q c zn ∧ zm.length = r * c ∧ zn.length = q * c ∧ (∀ i j, i < r + q → j < c → (ent c (zm ++ zn) i j).natAbs ≤ 36)) := Hid.mk ⟨by rw [hzm]; exact nums_fits (by omega) (by omega) HT.out.small, by rw [hzn]; exact nums_fits (by omega) (by omega) HT2.out.small, by rw [hzm, nums_len], by rw [hzn, nums_len], over_bd (by rw [hzm, nums_len]) (by rw [hzm]; exact nums_bd HT.out) (by rw [hzn]; exact nums_bd HT2.out)⟩
 rw [← hzm, ← hzn] at K8
 have HZ := Hid.mk hzm
 clear hzm hzn
 have c0 := K8.out.1.dk.cell
 go_wp2_with fail
 refine (sum_stk w5.heap.size dk b 0 1 r q c zm zn _ _ K8.out.1 (by simp) rfl rfl HF.out.1 HF.out.2.1).mono ?_
 rintro x w9 ⟨rfl, ⟨rk, bs, hbs, hk9⟩, hF9⟩
 have K9 : Hid (KL w5.heap.size w9 dk b [(r, c, zm), (q, c, zn), (rk, c, bs)] ∧ Below w5.heap.size w5 w9) := Hid.mk ⟨hk9, K8.out.2.trans (K8.out.1.fr3 hF9)⟩
 have HB1 : Hid (BasisIs (r + q) c (zm ++ zn) rk bs ∧ FitsP rk c bs) := Hid.mk ⟨hbs, basis_fits hbs (by omega) HF.out.2.2.2.2⟩
 clear hk9 hF9 K8 hbs c0
 have c0 := K9.out.1.dk.cell
 go_wp2_with fail
 refine (sum_stk w5.heap.size dk b 1 0 q r c zn zm _ _ K9.out.1 (by simp) rfl rfl HF.out.2.1 HF.out.1).mono ?_
 rintro x w10 ⟨rfl, ⟨rk2, bs2, hbs2, hk10⟩, hF10⟩
 obtain ⟨rfl, rfl⟩ : rk = rk2 ∧ bs = bs2 := basis_eq HB1.out.1 hbs2 (sum_swap HF.out.2.2.1 HF.out.2.2.2.1)
 have K10 : Hid (KL w5.heap.size w10 dk b [(r, c, zm), (q, c, zn), (rk, c, bs), (rk, c, bs)] ∧ Below w5.heap.size w5 w10) := Hid.mk ⟨hk10, K9.out.2.trans (K9.out.1.fr3 hF10)⟩
 clear hk10 hF10 K9 hbs2 c0
 have c0 := K10.out.1.dk.cell
 go_wp2_with fail
 refine (sum_stk w5.heap.size dk b 2 0 rk r c bs zm _ _ K10.out.1 (by simp) rfl rfl HB1.out.2 HF.out.1).mono ?_
 rintro x w11 ⟨rfl, ⟨rk3, bs3, hbs3, hk11⟩, hF11⟩
 obtain ⟨rfl, rfl⟩ : rk = rk3 ∧ bs = bs3 := basis_eq HB1.out.1 hbs3 (sum_part HB1.out.1 HF.out.2.2.1)
 have K11 : Hid (KL w5.heap.size w11 dk b [(r, c, zm), (q, c, zn), (rk, c, bs), (rk, c, bs), (rk, c, bs)] ∧ Below w5.heap.size w5 w11) := Hid.mk ⟨hk11, K10.out.2.trans (K10.out.1.fr3 hF11)⟩
 clear hk11 hF11 K10 hbs3 c0
 go_wp2_with fail
 refine (shown_stk w5.heap.size dk b 2 rk c bs _ _ K11.out.1 (by simp) rfl).mono ?_
 rintro x w12 ⟨rfl, hb12⟩
 have K12 := Hid.mk (And.intro (K11.out.1.below hb12) (K11.out.2.trans (hb12.mono K11.out.1.lo)))
 clear hb12 K11
 generalize hT : (⟨(matT rk c bs).toArray⟩ : ByteArray) = T
 have HTT := Hid.mk hT
 clear hT
 go_wp2_with fail
 refine (shown_stk w5.heap.size dk b 3 rk c bs _ _ K12.out.1 (by simp) rfl).mono ?_
 rintro x w13 ⟨rfl, hb13⟩
 have K13 := Hid.mk (And.intro (K12.out.1.below hb13) (K12.out.2.trans (hb13.mono K12.out.1.lo)))
 clear hb13 K12
 rw [HTT.out]
 go_wp2_with fail
 refine (shown_stk w5.heap.size dk b 4 rk c bs _ _ K13.out.1 (by simp) rfl).mono ?_
 rintro x w14 ⟨rfl, hb14⟩
 have K14 := Hid.mk (And.intro (K13.out.1.below hb14) (K13.out.2.trans (hb14.mono K13.out.1.lo)))
 clear hb14 K13
 rw [HTT.out]
 go_wp2_with fail
 go_loopw [20] (fun iv wr => ∃ (i : Nat) (l : List KMx), i ≤ r ∧ iv = .int .i64 i ∧ l.length = 5 + 2 * i ∧ Hid ((l[0]? = some (r, c, zm) ∧ l[1]? = some (q, c, zn) ∧ l[2]? = some (rk, c, bs)) ∧ KL w5.heap.size wr dk b l ∧ Below w5.heap.size w5 wr)) (fun iv _ => r - (intOf iv).toNat)
 case atStart => exact ⟨0, _, Nat.zero_le _, rfl, rfl, Hid.mk ⟨⟨rfl, rfl, rfl⟩, K14.out⟩⟩
 case round =>
  clear K14
  rename World => wr
  obtain ⟨i, l, hi, rfl, hl, K⟩ := hrel
  have HL := Hid.mk hl
  by_cases hir : i < r
  ·obtain ⟨g, rfl⟩ : ∃ g, ao = some ⟨g, 0, none⟩ := HAO.out (by omega)
   clear hl
   go_wp2_with fail
   refine (put_stk w5.heap.size dk b 1 c _ (fun _ j => em i j) l _ K.out.2.1 (by have := HL.out; omega) ((K5.out.1.below K.out.2.2).one hir) (by omega) (by omega) (fun a j ha hj => HT.out.small i j hir hj)).mono ?_
   rintro x w15 ⟨rfl, hk15, hF15⟩
   obtain ⟨zv, hzv⟩ : ∃ zv, zv = nums 1 c (fun _ j => em i j) := ⟨_, rfl⟩
   rw [← hzv] at hk15
   obtain ⟨hv, hhv⟩ : ∃ hv, hv = l.length := ⟨_, rfl⟩
   have K15 : Hid (KL w5.heap.size w15 dk b (l ++ [(1, c, zv)]) ∧ Below w5.heap.size w5 w15) := Hid.mk ⟨hk15, K.out.2.2.trans (K.out.2.1.fr3 hF15)⟩
   have HG : Hid ((l ++ [(1, c, zv)]).length = 6 + 2 * i ∧ ((l ++ [(1, c, zv)])[0]? = some (r, c, zm) ∧ (l ++ [(1, c, zv)])[1]? = some (q, c, zn) ∧ (l ++ [(1, c, zv)])[2]? = some (rk, c, bs)) ∧ (l ++ [(1, c, zv)])[hv]? = some (1, c, zv)) := Hid.mk ⟨by simp; have := HL.out; omega, ⟨by rw [List.getElem?_append_left (by have := HL.out; omega)]; exact K.out.1.1, by rw [List.getElem?_append_left (by have := HL.out; omega)]; exact K.out.1.2.1, by rw [List.getElem?_append_left (by have := HL.out; omega)]; exact K.out.1.2.2⟩, by rw [hhv]; simp⟩
   have HV : Hid (FitsP 1 c zv ∧ Sp (ent c bs) rk c (ent c zv 0)) := Hid.mk ⟨by rw [hzv]; exact nums_fits (by omega) (by omega) (fun a j ha hj => HT.out.small i j hir hj), by
    refine ((basis_sp HB1.out.1).1 i (by omega)).to fun j hj => ?_
    rw [hzv, nums_ent _ (by omega) hj, ent_top zn HF.out.2.2.1 hir hj, HZ.out, nums_ent _ hir hj]⟩
   rw [← hhv]
   generalize l ++ [(1, c, zv)] = l2 at K15 HG
   clear hk15 hF15 hzv hhv K HL
   have c0 := K15.out.1.dk.cell
   go_wp2_with fail
   refine (member_stk w5.heap.size dk b 2 hv rk c bs zv l2 _ K15.out.1 (by have := HG.out.1; omega) HG.out.2.1.2.2 HG.out.2.2 HB1.out.2 HV.out.1 HV.out.2).mono ?_
   rintro x w16 ⟨rfl, ⟨xs, -, hk16⟩, hF16⟩
   have HN : Hid (((l2 ++ [(1, rk, xs)])[0]? = some (r, c, zm) ∧ (l2 ++ [(1, rk, xs)])[1]? = some (q, c, zn) ∧ (l2 ++ [(1, rk, xs)])[2]? = some (rk, c, bs)) ∧ KL w5.heap.size w16 dk b (l2 ++ [(1, rk, xs)]) ∧ Below w5.heap.size w5 w16) := Hid.mk ⟨⟨by rw [List.getElem?_append_left (by have := HG.out.1; omega)]; exact HG.out.2.1.1, by rw [List.getElem?_append_left (by have := HG.out.1; omega)]; exact HG.out.2.1.2.1, by rw [List.getElem?_append_left (by have := HG.out.1; omega)]; exact HG.out.2.1.2.2⟩, hk16, K15.out.2.trans (K15.out.1.fr3 hF16)⟩
   clear hk16 hF16 K15 c0
   go_wp2_with fail
   go_roundw
   case measure => simp [intOf]; omega
   case rel => exact ⟨i + 1, _, by omega, by go_num, by simp; have := HG.out.1; omega, HN⟩
  ·obtain rfl : i = r := by omega
   clear hl
   have c0 := K.out.2.1.dk.cell
   go_wp2_with fail
   refine (rank_stk w5.heap.size dk b 0 i c zm l _ K.out.2.1 (by have := HL.out; omega) K.out.1.1 HF.out.1).mono ?_
   rintro x w17 ⟨p, hp, rfl, hb17⟩
   have K17 := Hid.mk (And.intro (K.out.2.1.below hb17) (K.out.2.2.trans (hb17.mono K.out.2.1.lo)))
   have HP := Hid.mk hp
   clear hb17 c0 hp
   have c0 := K17.out.1.dk.cell
   go_wp2_with fail
   refine (rank_stk w5.heap.size dk b 1 q c zn l _ K17.out.1 (by have := HL.out; omega) K.out.1.2.1 HF.out.2.1).mono ?_
   rintro x w18 ⟨k, hk, rfl, hb18⟩
   have K18 := Hid.mk (And.intro (K17.out.1.below hb18) (K17.out.2.trans (hb18.mono K17.out.1.lo)))
   have HK := Hid.mk hk
   clear hb18 c0 hk K17
   have c0 := K18.out.1.dk.cell
   go_wp2_with fail
   refine (rank_stk w5.heap.size dk b 2 rk c bs l _ K18.out.1 (by have := HL.out; omega) K.out.1.2.2 HB1.out.2).mono ?_
   rintro x w19 ⟨s, hs, rfl, hb19⟩
   have hspan := basis_sp HB1.out.1
   have hsp : p ≤ s := rank_mono (fun a ha => (hspan.1 a (by omega)).to fun j hj => (ent_top zn HF.out.2.2.1 ha hj).symm) (by omega) HP.out hs
   have hsk : k ≤ s := rank_mono (fun a ha => (hspan.1 (i + a) (by omega)).to fun j _ => (ent_low zn HF.out.2.2.1 a j).symm) (by omega) HK.out hs
   have hss : s ≤ p + k := rank_sum HF.out.2.2.1 (by omega) HP.out HK.out (R.rank_same hspan.2 hspan.1 (by omega) hs)
   have hdec : decide ((s : Int) ≤ (p : Int) + (k : Int)) = true := decide_eq_true (by omega)
   have hpb := HP.out.2.1
   have hkb := HK.out.2.1
   have K19 := Hid.mk (K5.out.2.2.trans ((K18.out.2.trans (hb19.mono K18.out.1.lo)).mono hB5))
   clear hb19 c0 hs K18 hspan
   go_wp2_with fail
   go_ret
   exact ⟨rfl, K19.out⟩
theorem Sums_all (a : Int) (w : World) (ht : Tab w) (ha1 : -9223372036854775808 ≤ a) (ha2 : a ≤ 9223372036854775807) :
 Calls Tryd.prog 4 #[.int .i64 a] w fun x w' => x = .returned (.bool true) ∧ Below w.heap.size w w' := by
 have HT := Hid.mk ht
 clear ht
 go_enter Tryd.func4, Tryd.ntmps4
 go_wp2_with fail
 refine (start_any a _ ha1 ha2).mono ?_
 rintro e w1 ⟨d, rfl, hd, hdb, hb⟩
 have H := Hid.mk (And.intro hd hb)
 clear hd hb
 go_wp2_with fail
 refine (sums_any d w.heap.size _ H.out.1 (fun w' hw => HT.out.below (H.out.2.trans hw)) hdb).mono ?_
 rintro e w2 ⟨rfl, hb2⟩
 have K := Hid.mk (H.out.2.trans hb2)
 clear hb2
 go_wp2_with fail
 go_ret
 exact ⟨rfl, K.out⟩
end Go.Proofs.YtfjbijpagaipnaaDoor
