import Derived.Test.YtfjbijpagaipnabGreatDoorR22
import Derived.Deep.CutRange
import Derived.Deep.RegionLaw
namespace Go.Proofs.YtfjbijpagaipnabGreatDoor
open Go.RowKit R
set_option maxRecDepth 100000 in
set_option maxHeartbeats 4000000 in
theorem shows_free (B W T b1 b2 : Nat) (ms : List Hm) (nx : Nat) (es : List Ent) (h : Int) (w : World) (hI : LInv B w W T b1 b2 ms nx es) :
 Calls Tryz.prog 112 #[.pointer (some ⟨W, 0, none⟩), .int .i64 h, .bool true] w fun x w' => x = .returned (.bool true) ∧ StepOut B w w' W T b1 b2 nx := by
 have hle := hI.le24
 have H := Hid.mk hI
 obtain ⟨ioa, icap, lv, toa, tcap, c0, c1, c2, c3, a1, a2, d1, d2, a3⟩ := hI.cells
 have HA := Hid.mk a3
 clear hI a3
 obtain ⟨ii, hii, hii0, hii1, hii2⟩ := info_parts Tryz.infoI
 obtain ⟨ip, hip, hip0, hip1, hip2⟩ := info_parts Tryz.infoP
 obtain ⟨is_, his, his0, his1, his2⟩ := info_parts Tryz.infoS
 have HII := Hid.mk (And.intro hii (And.intro hii0 (And.intro hii1 hii2)))
 have HIP := Hid.mk (And.intro hip (And.intro hip0 (And.intro hip1 hip2)))
 have HIS := Hid.mk (And.intro his (And.intro his0 (And.intro his1 his2)))
 clear hii hii0 hii1 hii2 hip hip0 hip1 hip2 his his0 his1 his2
 go_enter Tryz.func112, Tryz.ntmps112
 go_wp2_with fail
 go_loopw [7, 8] (fun a i wr => ∃ (k : Nat) (az : Int), k ≤ es.length ∧ i = .int .i64 k ∧ a = .int .i64 az ∧ -1 ≤ az ∧ az < es.length ∧ Below w.heap.size w wr ∧ Hid (AtIs (es.take k) h az)) (fun _ i _ => es.length - (intOf i).toNat)
 case atStart => exact ⟨0, -1, Nat.zero_le _, rfl, rfl, by omega, by omega, Below.refl _ _, Hid.mk (.inl ⟨rfl, fun i hi => by simp at hi⟩)⟩
 case round =>
  obtain ⟨k, az, hk, rfl, rfl, haz1, haz2, hbel, HI⟩ := hrel
  have e0 := cell_later hbel c0
  have e1 := cell_later hbel c1
  have e3 := cell_later hbel c3
  have hwr := hbel.size
  have K := Hid.mk hbel
  clear hbel
  by_cases hkl : k < es.length
  ·obtain ⟨⟨gi, rfl, f1⟩, -⟩ := HA.out k hkl
   obtain ⟨hd, hhd⟩ : ∃ hd, hd = es[k].1 := ⟨_, rfl⟩
   rw [← hhd] at f1
   have f1' := cell_later K.out f1
   have HD := Hid.mk hhd
   have hki : (k : Int) < (es.length : Int) := by omega
   clear hhd f1
   have htake : ∀ i (hi : i < (es.take (k + 1)).length), i < k ∧ (∃ hi' : i < (es.take k).length, (es.take (k + 1))[i] = (es.take k)[i]) ∨ (i = k ∧ (es.take (k + 1))[i] = es[k]) := by
    intro i hi
    rw [List.length_take] at hi
    by_cases hik : i < k
    ·refine .inl ⟨hik, by rw [List.length_take]; omega, ?_⟩
     rw [List.getElem_take, List.getElem_take]
    ·have : i = k := by omega
     subst this
     exact .inr ⟨rfl, by rw [List.getElem_take]⟩
   have HTK := Hid.mk htake
   clear htake
   by_cases hdh : (hd : Int) = h
   ·have hb : ((hd : Int) == h) = true := beq_iff_eq.2 hdh
    have HDH := Hid.mk hdh
    clear hdh
    go_wp2_with fail
    try go_quiet (fail)
    try go_wp2_with fail
    go_roundw
    case measure => simp [intOf]; omega
    case rel =>
     refine ⟨k + 1, k, by omega, by go_num, by go_num, by omega, by omega, by first | exact K.out | exact below_drewN K.out _, Hid.mk (.inr ⟨k, by rw [List.length_take]; omega, rfl, ?_⟩)⟩
     rw [List.getElem_take, ← HD.out]
     exact HDH.out
   ·have hb : ((hd : Int) == h) = false := beq_eq_false_iff_ne.2 hdh
    have HDH := Hid.mk hdh
    clear hdh
    go_wp2_with fail
    try go_quiet (fail)
    try go_wp2_with fail
    go_roundw
    case measure => simp [intOf]; omega
    case rel =>
     refine ⟨k + 1, az, by omega, by go_num, rfl, by omega, by omega, by first | exact K.out | exact below_drewN K.out _, Hid.mk ?_⟩
     rcases HI.out with ⟨h1, h2⟩ | ⟨j, hj, h1, h2⟩
     ·refine .inl ⟨h1, fun i hi => ?_⟩
      rcases HTK.out i hi with ⟨_, hi', he⟩ | ⟨_, he⟩
      ·rw [he]; exact h2 i hi'
      ·rw [he, ← HD.out]; exact HDH.out
     ·refine .inr ⟨j, by rw [List.length_take] at hj ⊢; omega, h1, ?_⟩
      rw [List.getElem_take] at h2 ⊢
      exact h2
  ·have hat : AtIs es h az := by
    have := HI.out
    rw [List.take_of_length_le (by omega)] at this
    exact this
   have HAT := Hid.mk hat
   clear hat
   go_wp2_with fail
   refine (twFree_any B T b1 b2 h ms nx _ (H.out.1.below K.out) H.out.2.2.dst).mono ?_
   rintro x w1 ⟨e, ms1, rfl, hfr, hT1, hC1⟩
   have hB := H.out.size
   have hIw := H.out.below K.out
   have hbel1 : Below B _ w1 := hC1.below (St2.le H.out.1.2.2.2.2.2.2.1 H.out.1.2.2.2.2.2.2.2) hIw.size
   have hrows := hIw.stores hC1
   have hB01 : Below B w w1 := (K.out.mono hB).trans hbel1
   rcases HAT.out with ⟨rfl, hn⟩ | ⟨j, hj, rfl, hjh⟩
   ·have hno := AtIs.none H.out.2.2 hn
    rcases hfr with ⟨rfl, k', x, hk', hx, hxh, -⟩ | ⟨rfl, rfl, -⟩
    ·exact absurd hxh (hno k' hk' x hx)
    ·have HF : Hid (StepOut B w w1 W T b1 b2 nx) := Hid.mk ⟨⟨ms1, nx, es, ⟨hT1, hrows, H.out.2.2⟩, by omega⟩, hB01⟩
     clear hT1 hC1 hbel1 hrows hB01 hn hno
     go_wp2_with fail
     go_ret
     exact ⟨rfl, HF.out⟩
   ·rcases hfr with ⟨rfl, k', x, hk', hx, hxh, rfl⟩ | ⟨rfl, rfl, hno⟩
    ·have hpop := H.out.2.2.pop hj hk' hx (by omega)
     obtain ⟨hv, iv, lv, tv, hL1, hI1, hP1, hX1, hS1, hM1, ls1, hH1, hHB1⟩ := hrows
     rcases id hI1 with ⟨-, hbad⟩ | ⟨gI, capI, curI, rfl, -, i3, -⟩
     ·rw [← List.length_eq_zero_iff, idc_len] at hbad; omega
     rcases id hP1 with ⟨-, hbad⟩ | ⟨gP, capP, curP, rfl, -, p3, -⟩
     ·rw [← List.length_eq_zero_iff, lpc_len] at hbad; omega
     rcases id hX1 with ⟨-, hbad⟩ | ⟨gX, capX, curX, rfl, -, x3, -⟩
     ·rw [← List.length_eq_zero_iff, txc_len] at hbad; omega
     rw [idc_len] at hL1 hI1 hS1 hM1 hH1 i3
     rw [lpc_len] at hL1 hP1 hS1 hM1 hH1 p3
     rw [txc_len] at hL1 hX1 hS1 hM1 hH1 x3
     have KH := Hid.mk (And.intro hH1 hHB1)
     clear hH1 hHB1
     obtain ⟨m0, m1, m2, m3, m4, m5, m6⟩ := hL1.cells
     have K1 := Hid.mk (And.intro hT1 (And.intro hL1 (And.intro hI1 (And.intro hP1 (And.intro hX1 (And.intro hS1 (And.intro hB01 (And.intro hpop hM1))))))))
     have hji : (j : Int) < (es.length : Int) := by omega
     have hj0 : ¬ ((j : Int) < 0) := by omega
     clear hT1 hC1 hbel1 hL1 hI1 hP1 hX1 hS1 hM1 hB01 hpop e0 e1 e3
     have hjc : j ≤ capI := by omega
     have hj1 : j + 1 ≤ es.length := by omega
     obtain ⟨AI, hAI⟩ := addr_if gI capI j
     obtain ⟨AP, hAP⟩ := addr_if gP capP j
     obtain ⟨AX, hAX⟩ := addr_if gX capX j
     have HAA := Hid.mk (And.intro hAI (And.intro hAP hAX))
     have hw1 : IntKind.i64.wrap ((j : Int) + 1) = (j : Int) + 1 := IntWalk.i64_in _ (by omega)
     have hw2 : (0 : Int) ≤ (j : Int) + 1 := by omega
     have hw3 : (j : Int) + 1 ≤ (es.length : Int) := by omega
     have hw4 : ((j : Int) + 1).toNat = j + 1 := by omega
     clear hAP hAX
     go_upto_region 15 with fail
     go_cut [] from 73 to 90 (fun wx => ∃ iv', Lw wx W T hv iv' (.slice (some ⟨gP, 0, none⟩) es.length capP) (.slice (some ⟨gX, 0, none⟩) es.length capX) nx ∧ RowG wx 3 iv' ((idc es).take j ++ (idc es).drop (j + 1)) ∧ Chg (fun k => k = W) w1 wx ∧ (∀ g, iv'.ownBlock = some g → g = gI ∨ w1.heap.size ≤ g))
     case first =>
      go_region_law (refine step_append_cut rfl (.tmp 80) (.tmp 87) 51 rfl 3 ii (.int .i64 0) 8 Tryz.underlying51 HII.out.1 HII.out.2.1 HII.out.2.2.1 HII.out.2.2.2 rfl gI es.length capI j (idc es) (idc_len es) (K1.out.2.2.1.below ((Below.refl _ _).drew)) hj AI HAA.out.1 rfl rfl (idc_one es) (by omega) (by decide) ?_; intro v' w' hA; obtain ⟨voa, vcap, hve, -⟩ := hA.1.shape; obtain ⟨vm, hvm⟩ : ∃ vm, vm = ((idc es).take j ++ (idc es).drop (j + 1)).length := ⟨_, rfl⟩; rw [← hvm] at hve; clear hvm; subst hve; have HR := Hid.mk (cut_row (f := 1) K1.out.2.1.ty ((Below.refl _ _).drew) hA (by decide)); have HLW := K1.out.2.1.of_block HR.out.2.2.1; obtain ⟨-, q1, -, -, -, -, q7⟩ := HLW.cells; have HLW := Hid.mk HLW; clear hA)
      all_goals
       go_wp2_with fail
       go_meet
       case rel => exact ⟨_, (lw_set HLW.out _).1, HR.out.1, HR.out.2.1, HR.out.2.2.2⟩
     case rest =>
      obtain ⟨iv2, hL2, hI2, hC2, hO2⟩ := hcut
      rename World => w2
      have hP2 := K1.out.2.2.2.1.keepW K1.out.2.1.ty (by decide) hC2
      have hX2 := K1.out.2.2.2.2.1.keepW K1.out.2.1.ty (by decide) hC2
      have hw2s := hC2.size
      clear m0 m1 m2 m3 m4 m5 m6 hAI
      obtain ⟨m0, m1, m2, m3, m4, m5, m6⟩ := hL2.cells
      have K2 := Hid.mk (And.intro hL2 (And.intro hI2 (And.intro hP2 (And.intro hX2 (And.intro hC2 hO2)))))
      have hAP := HAA.out.2.1
      have hjp : j ≤ capP := by omega
      clear hL2 hI2 hP2 hX2 hC2 hO2
      go_upto_region 16 with fail
      go_cut [] from 91 to 108 (fun wx => ∃ lv', Lw wx W T hv iv2 lv' (.slice (some ⟨gX, 0, none⟩) es.length capX) nx ∧ RowG wx 164 lv' ((lpc es).take j ++ (lpc es).drop (j + 1)) ∧ Chg (fun k => k = W) w2 wx ∧ (∀ g, lv'.ownBlock = some g → g = gP ∨ w2.heap.size ≤ g))
      case first =>
       go_region_law (refine step_append_cut rfl (.tmp 98) (.tmp 105) 126 rfl 164 ip (.pointer none) 8 Tryz.underlying126 HIP.out.1 HIP.out.2.1 HIP.out.2.2.1 HIP.out.2.2.2 rfl gP es.length capP j (lpc es) (lpc_len es) (K2.out.2.2.1.below ((Below.refl _ _).drew)) hj AP HAA.out.2.1 rfl rfl (lpc_one es) (by omega) (by decide) ?_; intro v' w' hA; obtain ⟨voa, vcap, hve, -⟩ := hA.1.shape; obtain ⟨vm, hvm⟩ : ∃ vm, vm = ((lpc es).take j ++ (lpc es).drop (j + 1)).length := ⟨_, rfl⟩; rw [← hvm] at hve; clear hvm; subst hve; have HR := Hid.mk (cut_row (f := 2) K2.out.1.ty ((Below.refl _ _).drew) hA (by decide)); have HLW := K2.out.1.of_block HR.out.2.2.1; obtain ⟨-, -, q1, -, -, -, q7⟩ := HLW.cells; have HLW := Hid.mk HLW; clear hA)
       all_goals
        go_wp2_with fail
        go_meet
        case rel => exact ⟨_, (lw_set HLW.out _).2.1, HR.out.1, HR.out.2.1, HR.out.2.2.2⟩
      case rest =>
       obtain ⟨lv2, hL3, hP3, hC3, hO3⟩ := hcut
       rename World => w3
       have hI3 := K2.out.2.1.keepW K2.out.1.ty (by decide) hC3
       have hX3 := K2.out.2.2.2.1.keepW K2.out.1.ty (by decide) hC3
       have hw3s := hC3.size
       clear m0 m1 m2 m3 m4 m5 m6 hAP
       obtain ⟨m0, m1, m2, m3, m4, m5, m6⟩ := hL3.cells
       have K3 := Hid.mk (And.intro hL3 (And.intro hI3 (And.intro hP3 (And.intro hX3 (And.intro hC3 hO3)))))
       have hAX := HAA.out.2.2
       have hjx : j ≤ capX := by omega
       clear hL3 hI3 hP3 hX3 hC3 hO3
       go_upto_region 17 with fail
       go_cut [] from 109 to 126 (fun wx => ∃ tv', Lw wx W T hv iv2 lv2 tv' nx ∧ RowG wx 9 tv' ((txc es).take j ++ (txc es).drop (j + 1)) ∧ Chg (fun k => k = W) w3 wx ∧ (∀ g, tv'.ownBlock = some g → g = gX ∨ w3.heap.size ≤ g))
       case first =>
        go_region_law (refine step_append_cut rfl (.tmp 116) (.tmp 123) 127 rfl 9 is_ (.string ⟨#[]⟩) 16 Tryz.underlying127 HIS.out.1 HIS.out.2.1 HIS.out.2.2.1 HIS.out.2.2.2 rfl gX es.length capX j (txc es) (txc_len es) (K3.out.2.2.2.1.below ((Below.refl _ _).drew)) hj AX HAA.out.2.2 rfl rfl (txc_one es) (by omega) (by decide) ?_; intro v' w' hA; obtain ⟨voa, vcap, hve, -⟩ := hA.1.shape; obtain ⟨vm, hvm⟩ : ∃ vm, vm = ((txc es).take j ++ (txc es).drop (j + 1)).length := ⟨_, rfl⟩; rw [← hvm] at hve; clear hvm; subst hve; have HR := Hid.mk (cut_row (f := 3) K3.out.1.ty ((Below.refl _ _).drew) hA (by decide)); have HLW := K3.out.1.of_block HR.out.2.2.1; obtain ⟨-, -, -, q1, -, -, q7⟩ := HLW.cells; have HLW := Hid.mk HLW; clear hA)
        all_goals
         go_wp2_with fail
         go_meet
         case rel => exact ⟨_, (lw_set HLW.out _).2.2, HR.out.1, HR.out.2.1, HR.out.2.2.2⟩
       case rest =>
        obtain ⟨tv2, hL4, hX4, hC4, hO4⟩ := hcut
        rename World => w4
        have hI4 := K3.out.2.1.keepW K3.out.1.ty (by decide) hC4
        have hP4 := K3.out.2.2.1.keepW K3.out.1.ty (by decide) hC4
        have hw4s := hC4.size
        have HF : Hid (StepOut B w w4 W T b1 b2 nx) := Hid.mk (by
         obtain ⟨hT1, hL1, hI1, hP1, hX1, hS1, hB01, hpop, hM1⟩ := K1.out
         have hc14 : Chg (fun k => k = W) w1 w4 := (K2.out.2.2.2.2.1.trans K3.out.2.2.2.2.1).trans hC4
         have hWB : B ≤ W := hS1 W (.inl rfl)
         have hb14 : Below B w1 w4 := hc14.below (fun k hk => by rw [hk]; exact hWB) (by have := hB01.size; omega)
         have hw1B : B ≤ w1.heap.size := by have := hB01.size; omega
         have hT4 : TwH B w4 T b1 b2 (ms.set k' none) nx := hT1.chg hc14 (fun h => ty_ne ⟨_, _, hT1.1⟩ hL1.ty (by decide) h) (fun h => ty_ne hT1.2.1.ty hL1.ty (by decide) h) (fun h => ty_ne hT1.2.2.1.ty hL1.ty (by decide) h) (fun k hk => by rw [hk]; exact hWB)
         rw [idc_cut] at hI4
         rw [lpc_cut] at hP4
         rw [txc_cut] at hX4
         have hcut : ∀ e ∈ es.take j ++ es.drop (j + 1), e ∈ es := fun e he => by
          rcases List.mem_append.1 he with h | h
          ·exact List.mem_of_mem_take h
          ·exact List.mem_of_mem_drop h
         have hnew : ∀ k, S4 W iv2 lv2 tv2 k → S4 W (.slice (some ⟨gI, 0, none⟩) es.length capI) (.slice (some ⟨gP, 0, none⟩) es.length capP) (.slice (some ⟨gX, 0, none⟩) es.length capX) k ∨ w1.heap.size ≤ k := fun k hk => by
          rcases hk with hk | hk | hk | hk
          ·exact .inl (.inl hk)
          ·rcases K2.out.2.2.2.2.2 k hk with h | h
           ·rw [h]; exact .inl (.inr (.inl rfl))
           ·exact .inr h
          ·rcases K3.out.2.2.2.2.2 k hk with h | h
           ·rw [h]; exact .inl (.inr (.inr (.inl rfl)))
           ·exact .inr (by omega)
          ·rcases hO4 k hk with h | h
           ·rw [h]; exact .inl (.inr (.inr (.inr rfl)))
           ·exact .inr (by omega)
         have hVl : ∀ k, Vl W iv2 lv2 tv2 b1 b2 k → Vl W (.slice (some ⟨gI, 0, none⟩) es.length capI) (.slice (some ⟨gP, 0, none⟩) es.length capP) (.slice (some ⟨gX, 0, none⟩) es.length capX) b1 b2 k ∨ w1.heap.size ≤ k := fun k hk => by
          rcases hk with hk | hk
          ·rcases hnew k hk with h | h
           ·exact .inl (.inl h)
           ·exact .inr h
          ·exact .inl (.inr hk)
         refine ⟨⟨_, nx, _, ⟨hT4, ⟨hv, iv2, lv2, tv2, hL4, hI4, hP4, hX4, fun k hk => ?_, (hM1.sub hcut).chg hc14 (fun k hk => .inl (.inl (.inl hk))) (fun k hk => ?_), ls1, KH.out.1.chg hc14 (fun k hk => .inl (.inl hk)) hVl, KH.out.2⟩, hpop⟩, by omega⟩, hB01.trans hb14⟩
         ·rcases hnew k hk with h | h
          ·exact hS1 k h
          ·omega
         ·rcases hk with hk | hk
          ·rcases hVl k hk with h | h
           ·exact .inl (.inl h)
           ·exact .inr h
          ·exact .inl (.inr hk))
        clear hL4 hX4 hC4 hO4 hI4 hP4 m0 m1 m2 m3 m4 m5 m6
        go_wp2_with fail
        go_ret
        exact ⟨rfl, HF.out⟩
    ·have hsome := H.out.2.2.has es[j] (List.getElem_mem hj)
     obtain ⟨k', x, hk', hx, hxh, -⟩ := hsome
     exact absurd (by omega) (hno k' hk' x hx)
open Go.RowKit R
set_option maxRecDepth 100000 in
set_option maxHeartbeats 1000000 in
theorem pick_any (c : Int) (n : Nat) (w : World) (h1 : -9223372036854775808 ≤ c) (h2 : c ≤ 9223372036854775807) (hn : 0 < n) (hn2 : n ≤ 1000) :
 Calls Tryz.prog 147 #[.int .i64 c, .int .i64 n] w fun x w' => (∃ k : Nat, k < n ∧ x = .returned (.int .i64 k)) ∧ w' = w := by
 have hn0 : (n : Int) ≠ 0 := by omega
 have hnb : ((n : Int) == 0) = false := beq_eq_false_iff_ne.2 hn0
 by_cases hc : c < 0
 ·go_enter Tryz.func147, Tryz.ntmps147
  go_wp2_with fail
  go_ret
  have e : -(c + 1).tmod (n : Int) = ((-(c + 1)) % (n : Int)) := by rw [← Int.neg_tmod, Int.tmod_eq_emod_of_nonneg (by omega)]
  have h3 := Int.emod_nonneg (-(c + 1)) hn0
  have h4 := Int.emod_lt_of_pos (-(c + 1)) (show (0 : Int) < (n : Int) from by omega)
  exact ⟨⟨((-(c + 1)) % (n : Int)).toNat, by omega, ret_int (by rw [e]; omega)⟩, rfl⟩
 ·have hc' : decide (c < 0) = false := decide_eq_false hc
  go_enter Tryz.func147, Tryz.ntmps147
  go_wp2_with fail
  go_ret
  have h3 := Int.emod_nonneg c hn0
  have h4 := Int.emod_lt_of_pos c (show (0 : Int) < (n : Int) from by omega)
  exact ⟨⟨(c % (n : Int)).toNat, by omega, ret_int (by omega)⟩, rfl⟩
set_option maxRecDepth 100000 in
set_option maxHeartbeats 2000000 in
theorem handle_any (B W T b1 b2 : Nat) (ms : List Hm) (nx : Nat) (es : List Ent) (a c : Int) (w : World) (h : LInv B w W T b1 b2 ms nx es) (h1 : -9223372036854775808 ≤ a) (h2 : a ≤ 9223372036854775807) :
 Calls Tryz.prog 110 #[.pointer (some ⟨W, 0, none⟩), .int .i64 a, .int .i64 c] w fun x w' => (∃ h : Int, x = .returned (.int .i64 h)) ∧ Below w.heap.size w w' := by
 have hle := h.le24
 have H := Hid.mk h
 obtain ⟨ioa, icap, lv, toa, tcap, c0, c1, c2, c3, a1, a2, d1, d2, a3⟩ := h.cells
 clear h c0 c2 c3
 by_cases hlen : 0 < es.length
 ·obtain ⟨⟨gi, rfl, -⟩, -⟩ := a3 0 hlen
  have hli : (0 : Int) < (es.length : Int) := by omega
  have HA : Hid (∀ i, i < es.length → ∃ z : Int, w.cell? ⟨gi, i, none⟩ = some (.int .i64 z)) := Hid.mk (fun i hi => by
   obtain ⟨⟨g, e1, e2⟩, -⟩ := a3 i hi
   injection e1 with e1
   injection e1 with e1 _
   subst e1
   exact ⟨_, e2⟩)
  clear a3
  go_enter Tryz.func110, Tryz.ntmps110
  go_wp2_with fail
  ·go_region_with (go_at_call 147; go_must (refine (pick_any a es.length _ h1 h2 hlen (by omega)).mono ?_; rintro x w' ⟨⟨k, hk, rfl⟩, rfl⟩; obtain ⟨z, hz⟩ := HA.out k hk; have hki : (k : Int) < (es.length : Int) := (by omega)))
   all_goals
    go_wp2_with fail
    go_ret
    exact ⟨⟨_, rfl⟩, (Below.refl _ _).drew⟩
  ·go_ret
   exact ⟨⟨_, rfl⟩, Below.refl _ _⟩
 ·have hli : decide ((0 : Int) < (es.length : Int)) = false := decide_eq_false (by omega)
  clear a3
  go_enter Tryz.func110, Tryz.ntmps110
  go_wp2_with fail
  all_goals
   go_ret
   exact ⟨⟨_, rfl⟩, Below.refl _ _⟩
open Go.RowKit R
set_option maxRecDepth 100000 in
set_option maxHeartbeats 4000000 in
theorem ends_any (B T b1 b2 : Nat) (ms : List Hm) (nx : Nat) (es : List Ent) (ioa : Option Addr) (icap : Nat) (w : World) (h : TwH B w T b1 b2 ms nx) (hr : Rel es ms nx) (hI : RowG w 3 (.slice ioa es.length icap) (idc es)) :
 Calls Tryz.prog 79 #[.pointer (some ⟨T, 0, none⟩), .slice ioa es.length icap] w fun x w' => x = .returned (.bool true) ∧ Below w.heap.size w w' := by
 have hle : es.length ≤ 24 := by have := cnt_le ms; have h1 := hr.num; have h2 := hr.len; omega
 have H := Hid.mk (And.intro h (And.intro hr hI))
 clear h hr hI
 go_enter Tryz.func79, Tryz.ntmps79
 go_wp2_with fail
 go_loopw [5] (fun i ws => ∃ k : Nat, k ≤ es.length ∧ i = .int .i64 k ∧ Below w.heap.size w ws) (fun i _ => es.length - (intOf i).toNat)
 case atStart => exact ⟨0, Nat.zero_le _, rfl, Below.refl _ _⟩
 case round =>
  obtain ⟨k, hk, rfl, hbel⟩ := hrel
  have hT := H.out.1.below hbel
  have hI := H.out.2.2.below hbel
  obtain ⟨c0, c1, c2, -⟩ := hT.1.cells
  have hwr := hbel.size
  have K := Hid.mk (And.intro hT (And.intro hI hbel))
  clear hT hI hbel
  by_cases hkl : k < es.length
  ·obtain ⟨ioa', icap', e0, -, -, -, a3⟩ := K.out.2.1.shape
   rw [idc_len] at e0 a3
   simp only [Value.slice.injEq] at e0
   obtain ⟨rfl, _, rfl⟩ := e0
   obtain ⟨gi, rfl, e1⟩ := a3 k hkl
   rw [idc_at es k hkl] at e1
   obtain ⟨hd, hhd⟩ : ∃ hd, hd = es[k].1 := ⟨_, rfl⟩
   obtain ⟨ST, hST⟩ : ∃ ST : ByteArray, ST = ⟨es[k].2.1.toArray⟩ := ⟨_, rfl⟩
   have hsh := H.out.2.1.shown hkl
   rw [← hhd] at e1 hsh
   have HSH := Hid.mk (And.intro hsh hST)
   clear a3 hsh hhd hST
   have istr : (ST.toList == ST.toList) = true := by simp
   have hki : (k : Int) < (es.length : Int) := by omega
   go_upto_region 4 with fail
   go_cut [6, 7] from 16 to 27 (fun tt e wx => tt = .string ST ∧ e = .int .i64 0 ∧ Below wr.heap.size wr wx)
   case first =>
    go_region_with (go_at_call 43; go_must (refine (show_any b1 hd ms nx _ (K.out.1.2.1.below ((Below.refl _ _).drew)) (K.out.1.2.2.2.2.1.tab.below ((Below.refl _ _).drew))).mono ?_; rintro x w1 ⟨tt, e, rfl, hs, hb⟩; obtain ⟨rfl, rfl⟩ := show_uniq H.out.2.1.dst hs HSH.out.1))
    all_goals
     go_wp2_with fail
     go_meet
     case rel => exact ⟨by rw [HSH.out.2], rfl, ((Below.refl _ _).drew).trans hb⟩
   case rest =>
    obtain ⟨rfl, rfl, hbc⟩ := hcut
    rename World => w2
    have hT2 := K.out.1.below hbc
    have g4 : w2.cell? ⟨gi, k, none⟩ = some (.int .i64 (hd : Nat)) := cell_later hbc e1
    clear c0 c1 c2 e1
    obtain ⟨c0, c1, c2, -⟩ := hT2.1.cells
    have K2 := Hid.mk (And.intro hT2 (K.out.2.2.trans (hbc.mono hwr)))
    have hw2 := hbc.size
    clear hT2 hbc
    go_upto_region 5 with fail
    go_cut [8, 9] from 28 to 39 (fun tt e wx => tt = .string ST ∧ e = .int .i64 0 ∧ Below w2.heap.size w2 wx)
    case first =>
     go_region_with (go_at_call 43; go_must (refine (show_any b2 hd ms nx _ (K2.out.1.2.2.1.below ((Below.refl _ _).drew)) (K2.out.1.2.2.2.2.1.tab.below ((Below.refl _ _).drew))).mono ?_; rintro x w1 ⟨tt, e, rfl, hs, hb⟩; obtain ⟨rfl, rfl⟩ := show_uniq H.out.2.1.dst hs HSH.out.1))
     all_goals
      go_wp2_with fail
      go_meet
      case rel => exact ⟨by rw [HSH.out.2], rfl, ((Below.refl _ _).drew).trans hb⟩
    case rest =>
     obtain ⟨rfl, rfl, hbc⟩ := hcut
     have K3 := Hid.mk (K2.out.2.trans (hbc.mono (by omega)))
     clear hbc c0 c1 c2 g4
     go_wp2_with fail
     go_roundw
     case measure => simp [intOf]; omega
     case rel => exact ⟨k + 1, by omega, by go_num, K3.out⟩
  ·go_wp2_with fail
   go_ret
   exact ⟨rfl, K.out.2.2⟩
open Go.RowKit R
theorem StepOut.show_ {B : Nat} {w w' : World} {W T b1 b2 : Nat} {ms : List Hm} {nx : Nat} {es : List Ent} (h : LInv B w W T b1 b2 ms nx es) (hb : Below w.heap.size w w') : StepOut B w w' W T b1 b2 nx := ⟨⟨ms, nx, es, h.below hb, by omega⟩, hb.mono h.size⟩
theorem StepOut.after {B : Nat} {w w1 w' : World} {W T b1 b2 nx : Nat} (h : StepOut B w1 w' W T b1 b2 nx) (hb : Below B w w1) : StepOut B w w' W T b1 b2 nx := ⟨h.1, hb.trans h.2⟩
def opV (kd a b c : Int) (s t : ByteArray) : Value := .agg #[.int .i64 kd, .int .i64 a, .int .i64 b, .int .i64 c, .string s, .string t]
set_option maxRecDepth 100000 in
set_option maxHeartbeats 4000000 in
theorem step_any (B W T b1 b2 : Nat) (ms : List Hm) (nx : Nat) (es : List Ent) (kd a b c : Int) (s t : ByteArray) (w : World) (h : LInv B w W T b1 b2 ms nx es) (hkd : kd = 1 ∨ kd = 2 ∨ kd = 3) (ha1 : -9223372036854775808 ≤ a) (ha2 : a ≤ 9223372036854775807) (hb1 : -9223372036854775808 ≤ b) (hb2 : b ≤ 9223372036854775807) (hs : s.size ≤ 16384) (hnx : nx < 1000000) :
 Calls Tryz.prog 77 #[.pointer (some ⟨W, 0, none⟩), opV kd a b c s t] w fun x w' => x = .returned (.bool true) ∧ StepOut B w w' W T b1 b2 nx := by
 have H := Hid.mk h
 have hB := h.size
 clear h
 unfold opV
 obtain ⟨W0, hW0⟩ : ∃ W0, W0 = w.alloc (.cells #[.int .i64 kd, .int .i64 a, .int .i64 b, .int .i64 c, .string s, .string t] 87) := ⟨_, rfl⟩
 have hbW : Below w.heap.size w W0 := by rw [hW0]; exact (Below.refl _ _).alloc (Nat.le_refl _) _
 have hblk : W0.heap[w.heap.size]? = some (.cells #[.int .i64 kd, .int .i64 a, .int .i64 b, .int .i64 c, .string s, .string t] 87 (0, 0)) := by rw [hW0]; exact heap_alloc_new w _
 have hsz : W0.heap.size = w.heap.size + 1 := by rw [hW0]; simp
 have H0 := Hid.mk (And.intro hbW (And.intro hblk hW0))
 clear hbW hblk hW0
 go_enter Tryz.func77, Tryz.ntmps77
 go_wp2_with fail
 rw [← H0.out.2.2]
 refine (handle_any B W T b1 b2 ms nx es a c _ (H.out.below H0.out.1) ha1 ha2).mono ?_
 rintro x w1 ⟨⟨hh, rfl⟩, hb1'⟩
 have hblk1 : w1.heap[w.heap.size]? = some (.cells #[.int .i64 kd, .int .i64 a, .int .i64 b, .int .i64 c, .string s, .string t] 87 (0, 0)) := by rw [hb1'.block _ (by omega)]; exact H0.out.2.1
 have hbe1 : Below w.heap.size w w1 := H0.out.1.trans (hb1'.mono H0.out.1.size)
 have g0 : w1.cell? ⟨w.heap.size, 0, none⟩ = some (.int .i64 kd) := by simp [World.cell?, hblk1]
 have g2 : w1.cell? ⟨w.heap.size, 2, none⟩ = some (.int .i64 b) := by simp [World.cell?, hblk1]
 have g3 : w1.cell? ⟨w.heap.size, 3, none⟩ = some (.int .i64 c) := by simp [World.cell?, hblk1]
 have hs1 := hb1'.size
 have K1 := Hid.mk (And.intro hbe1 hblk1)
 clear hb1' hblk1 hbe1
 go_wp2_with fail
 refine (handle_any B W T b1 b2 ms nx es b c _ (H.out.below K1.out.1) hb1 hb2).mono ?_
 rintro x w2 ⟨⟨hh2, rfl⟩, hb2'⟩
 have hblk2 : w2.heap[w.heap.size]? = some (.cells #[.int .i64 kd, .int .i64 a, .int .i64 b, .int .i64 c, .string s, .string t] 87 (0, 0)) := by rw [hb2'.block _ (by omega)]; exact K1.out.2
 have hbe2 : Below w.heap.size w w2 := K1.out.1.trans (hb2'.mono K1.out.1.size)
 clear g0 g2 g3
 have g0 : w2.cell? ⟨w.heap.size, 0, none⟩ = some (.int .i64 kd) := by simp [World.cell?, hblk2]
 have g4 : w2.cell? ⟨w.heap.size, 4, none⟩ = some (.string s) := by simp [World.cell?, hblk2]
 have K2 := Hid.mk (And.intro hbe2 (H.out.below hbe2))
 clear hb2' hblk2 hbe2
 rcases hkd with rfl | rfl | rfl
 ·go_wp2_with fail
  refine (typed_any B W T b1 b2 s ms nx es _ K2.out.2 hs hnx).mono ?_
  rintro x w3 ⟨rfl, ho⟩
  have HO := Hid.mk (ho.after (K2.out.1.mono hB))
  clear ho
  go_wp2_with fail
  go_ret
  exact ⟨rfl, HO.out⟩
 ·go_wp2_with fail
  refine (shows_show B W T b1 b2 ms nx es hh _ K2.out.2).mono ?_
  rintro x w3 ⟨rfl, ho⟩
  have HO := Hid.mk ((StepOut.show_ K2.out.2 ho).after (K2.out.1.mono hB))
  clear ho
  go_wp2_with fail
  go_ret
  exact ⟨rfl, HO.out⟩
 ·go_wp2_with fail
  refine (shows_free B W T b1 b2 ms nx es hh _ K2.out.2).mono ?_
  rintro x w3 ⟨rfl, ho⟩
  have HO := Hid.mk (ho.after (K2.out.1.mono hB))
  clear ho
  go_wp2_with fail
  go_ret
  exact ⟨rfl, HO.out⟩
def StepOk (P : Int → Prop) : Prop := ∀ (B W T b1 b2 : Nat) (ms : List Hm) (nx : Nat) (es : List Ent) (kd a b c : Int) (s t : ByteArray) (w : World), LInv B w W T b1 b2 ms nx es → P kd → -9223372036854775808 ≤ a → a ≤ 9223372036854775807 → -9223372036854775808 ≤ b → b ≤ 9223372036854775807 → s.size ≤ 16384 → nx < 999995 →
    Calls Tryz.prog 77 #[.pointer (some ⟨W, 0, none⟩), opV kd a b c s t] w fun x w' => x = .returned (.bool true) ∧ StepOut B w w' W T b1 b2 nx
theorem step_plain : StepOk (fun kd => kd = 1 ∨ kd = 2 ∨ kd = 3) := fun B W T b1 b2 ms nx es kd a b c s t w h hkd ha1 ha2 hb1 hb2 hs hnx => step_any B W T b1 b2 ms nx es kd a b c s t w h hkd ha1 ha2 hb1 hb2 hs (by omega)
theorem StepOk.or {P Q : Int → Prop} (h : StepOk P) (k : StepOk Q) : StepOk (fun kd => P kd ∨ Q kd) := by
 intro B W T b1 b2 ms nx es kd a b c s t w hI hkd ha1 ha2 hb1 hb2 hs hnx
 rcases hkd with hp | hq
 ·exact h B W T b1 b2 ms nx es kd a b c s t w hI hp ha1 ha2 hb1 hb2 hs hnx
 ·exact k B W T b1 b2 ms nx es kd a b c s t w hI hq ha1 ha2 hb1 hb2 hs hnx
open Go.RowKit R
structure OpD where
 kd : Int
 a : Int
 b : Int
 c : Int
 s : ByteArray
 t : ByteArray
def OpD.ok (o : OpD) : Prop := (-9223372036854775808 ≤ o.a ∧ o.a ≤ 9223372036854775807) ∧ (-9223372036854775808 ≤ o.b ∧ o.b ≤ 9223372036854775807) ∧ o.s.size ≤ 16384
def OpAt (w : World) (g p : Nat) (o : OpD) : Prop := w.cell? ⟨g, p, none⟩ = some (.int .i64 o.kd) ∧ w.cell? ⟨g, p + 1, none⟩ = some (.int .i64 o.a) ∧ w.cell? ⟨g, p + 2, none⟩ = some (.int .i64 o.b) ∧ w.cell? ⟨g, p + 3, none⟩ = some (.int .i64 o.c) ∧ w.cell? ⟨g, p + 4, none⟩ = some (.string o.s) ∧ w.cell? ⟨g, p + 5, none⟩ = some (.string o.t)
theorem OpAt.below {B : Nat} {w w' : World} {g p : Nat} {o : OpD} (h : OpAt w g p o) (hb : Below B w w') (hg : g < B) : OpAt w' g p o := by
 obtain ⟨h1, h2, h3, h4, h5, h6⟩ := h
 refine ⟨?_, ?_, ?_, ?_, ?_, ?_⟩ <;> (rw [hb.cell (by simpa using hg)]; assumption)
set_option maxRecDepth 100000 in
set_option maxHeartbeats 4000000 in
theorem upTo_any (P : Int → Prop) (hP : StepOk P) (ops : List OpD) (ao : Option Addr) (cap : Nat) (w : World) (htab : Tab w) (hrow : ∀ i (hi : i < ops.length), ∃ g, ao = some ⟨g, 0, none⟩ ∧ g < w.heap.size ∧ OpAt w g (i * 6) ops[i]) (hn : ops.length ≤ 16384) (hok : ∀ o ∈ ops, o.ok ∧ P o.kd) :
 Calls Tryz.prog 45 #[.slice ao ops.length cap] w fun x w' => x = .returned (.int .i64 (-1)) ∧ Below w.heap.size w w' := by
 have H := Hid.mk (And.intro htab (And.intro hrow hok))
 have HP := Hid.mk hP
 clear htab hrow hok hP
 go_enter Tryz.func45, Tryz.ntmps45
 go_wp2_with fail
 refine (twins_any w H.out.1).mono ?_
 rintro x w1 ⟨T, b1, b2, rfl, hT, hb1⟩
 have hs1 := hb1.size
 have K1 := Hid.mk (And.intro hT hb1)
 clear hT hb1
 go_wp2_with fail
 obtain ⟨W, hW⟩ : ∃ W, W = w1.heap.size := ⟨_, rfl⟩
 have HI0 : Hid (LInv w.heap.size (w1.alloc (.cells #[.pointer (some ⟨T, 0, none⟩), .slice none 0 0, .slice none 0 0, .slice none 0 0, .int .i64 0, .slice none 0 0] 129)) W T b1 b2 (List.replicate 24 none) 0 []) := Hid.mk (by
  have hbe : Below w1.heap.size w1 (w1.alloc (.cells #[.pointer (some ⟨T, 0, none⟩), .slice none 0 0, .slice none 0 0, .slice none 0 0, .int .i64 0, .slice none 0 0] 129)) := (Below.refl _ _).alloc (Nat.le_refl _) _
  refine ⟨K1.out.1.below hbe, ⟨.slice none 0 0, .slice none 0 0, .slice none 0 0, .slice none 0 0, by rw [hW]; exact heap_alloc_new w1 _, RowG.nil _ _, RowG.nil _ _, RowG.nil _ _, fun k hk => ?_, Mats.nil _ _, [], Hs.nil _ _, Nat.zero_le _, fun g hg => by simp [Value.ownBlock] at hg⟩, Rel.start⟩
  rcases hk with hk | hk | hk | hk
  ·rw [hk, hW]; exact hs1
  ·simp [Value.ownBlock] at hk
  ·simp [Value.ownBlock] at hk
  ·simp [Value.ownBlock] at hk)
 have HB0 : Hid (Below w.heap.size w (w1.alloc (.cells #[.pointer (some ⟨T, 0, none⟩), .slice none 0 0, .slice none 0 0, .slice none 0 0, .int .i64 0, .slice none 0 0] 129))) := Hid.mk (K1.out.2.alloc hs1 _)
 rw [← hW]
 clear hW
 go_loopw [5] (fun i wr => ∃ (k : Nat) (ms : List Hm) (nx : Nat) (es : List Ent), k ≤ ops.length ∧ i = .int .i64 k ∧ nx ≤ 5 * k ∧ LInv w.heap.size wr W T b1 b2 ms nx es ∧ Below w.heap.size w wr) (fun i _ => ops.length - (intOf i).toNat)
 case atStart => exact ⟨0, _, 0, [], Nat.zero_le _, rfl, Nat.le_refl _, HI0.out, HB0.out⟩
 case round =>
  obtain ⟨k, ms, nx, es, hk, rfl, hnx, hI, hbel⟩ := hrel
  have hwr := hbel.size
  have K := Hid.mk (And.intro hI hbel)
  clear hI hbel
  by_cases hkl : k < ops.length
  ·obtain ⟨g, rfl, hgl, hop⟩ := H.out.2.1 k hkl
   obtain ⟨o1, o2, o3, o4, o5, o6⟩ := hop.below K.out.2 hgl
   obtain ⟨hok, hpl⟩ := H.out.2.2 ops[k] (List.getElem_mem hkl)
   obtain ⟨od, hod⟩ : ∃ od, od = ops[k] := ⟨_, rfl⟩
   rw [← hod] at o1 o2 o3 o4 o5 o6 hok hpl
   have HO := Hid.mk (And.intro hok hpl)
   have hki : (k : Int) < (ops.length : Int) := by omega
   clear hop hod hok hpl
   go_wp2_with fail
   refine (HP.out w.heap.size W T b1 b2 ms nx es od.kd od.a od.b od.c od.s od.t _ K.out.1 HO.out.2 HO.out.1.1.1 HO.out.1.1.2 HO.out.1.2.1.1 HO.out.1.2.1.2 HO.out.1.2.2 (by omega)).mono ?_
   rintro x w2 ⟨rfl, ⟨ms2, nx2, es2, hI2, hn2⟩, hb2⟩
   have K2 := Hid.mk (And.intro hI2 (K.out.2.trans hb2))
   clear hI2 hb2 o1 o2 o3 o4 o5 o6
   go_wp2_with fail
   refine (looks_any w.heap.size W T b1 b2 ms2 nx2 es2 _ K2.out.1).mono ?_
   rintro x w3 ⟨rfl, hb3⟩
   have K3 := Hid.mk (And.intro (K2.out.1.below hb3) (K2.out.2.trans (hb3.mono K2.out.2.size)))
   clear hb3
   go_wp2_with fail
   go_roundw
   case measure => simp [intOf]; omega
   case rel => exact ⟨k + 1, ms2, nx2, es2, by omega, by go_num, by omega, K3.out.1, K3.out.2⟩
  ·obtain ⟨hTw, ⟨hv, iv, lv, tv, hL, hII, -⟩, hrel⟩ := K.out.1
   obtain ⟨ioa, icap, rfl, -⟩ := hII.shape
   rw [idc_len] at hL hII
   obtain ⟨c0, c1, c2, c3, c4, c5, -⟩ := hL.cells
   have KE := Hid.mk (And.intro hTw (And.intro hrel hII))
   clear hTw hL hII hrel
   go_upto_region 12 with fail
   go_cut [7] from 32 to 40 (fun x wx => x = .bool true ∧ Below wr.heap.size wr wx)
   case first =>
    go_region_with (go_at_call 79; go_must (refine (ends_any w.heap.size T b1 b2 ms nx es ioa icap _ (KE.out.1.below ((Below.refl _ _).drew)) KE.out.2.1 (KE.out.2.2.below ((Below.refl _ _).drew))).mono ?_; rintro x w1 ⟨rfl, hb⟩))
    all_goals
     go_wp2_with fail
     go_meet
     case rel => exact ⟨rfl, ((Below.refl _ _).drew).trans hb⟩
   case rest =>
    obtain ⟨rfl, hb5⟩ := hcut
    have K5 := Hid.mk (K.out.2.trans (hb5.mono K.out.2.size))
    clear hb5
    go_wp2_with fail
    go_ret
    exact ⟨rfl, K5.out⟩
open Go.RowKit R
def ScrAt (w : World) (ao : Option Addr) (ops : List OpD) : Prop := ∀ i (hi : i < ops.length), ∃ g o, ao = some ⟨g, o, none⟩ ∧ g < w.heap.size ∧ OpAt w g (o + i * 6) ops[i]
theorem ScrAt.below {B : Nat} {w w' : World} {ao : Option Addr} {ops : List OpD} (h : ScrAt w ao ops) (hb : Below B w w') (hB : w.heap.size ≤ B) : ScrAt w' ao ops := by
 intro i hi
 obtain ⟨g, o, e, hg, ho⟩ := h i hi
 exact ⟨g, o, e, by have := hb.size; omega, ho.below hb (by omega)⟩
def bulk : List OpD → Nat
 | [] => 0
 | o :: r => o.s.size + o.t.size + bulk r
theorem bulk_take_succ (ops : List OpD) (k : Nat) (hk : k < ops.length) : bulk (ops.take (k + 1)) = bulk (ops.take k) + (ops[k].s.size + ops[k].t.size) := by
 induction ops generalizing k with
 | nil => simp at hk
 | cons o r ih =>
   match k with
   | 0 => simp [bulk]
   | k + 1 =>
     have := ih k (by simpa using hk)
     simp only [List.take_succ_cons, bulk, List.getElem_cons_succ] at this ⊢
     omega
theorem bulk_mem {ops : List OpD} {o : OpD} (h : o ∈ ops) : o.s.size ≤ bulk ops := by
 induction ops with
 | nil => simp at h
 | cons x r ih =>
   rcases List.mem_cons.1 h with rfl | h
   ·simp only [bulk]; omega
   ·have := ih h; simp only [bulk]; omega
set_option maxRecDepth 100000 in
set_option maxHeartbeats 4000000 in
theorem small_any (ops : List OpD) (ao : Option Addr) (cap : Nat) (w : World) (hrow : ScrAt w ao ops) (hn : ops.length ≤ 281474976710656) (hs : ∀ o ∈ ops, o.s.size ≤ 281474976710656 ∧ o.t.size ≤ 281474976710656) :
 Calls Tryz.prog 44 #[.slice ao ops.length cap] w fun x w' => (x = .returned (.bool false) ∨ (x = .returned (.bool true) ∧ ops.length ≤ 16384 ∧ bulk ops ≤ 16384)) ∧ Below w.heap.size w w' := by
 have H := Hid.mk (And.intro hrow hs)
 clear hrow hs
 go_enter Tryz.func44, Tryz.ntmps44
 by_cases hbig : 16384 < ops.length
 ·have hbi : (16384 : Int) < (ops.length : Int) := by omega
  go_wp2_with fail
  go_ret
  exact ⟨Or.inl rfl, Below.refl _ _⟩
 ·have hbi : ¬ (16384 : Int) < (ops.length : Int) := by omega
  go_wp2_with fail
  go_loopw [3, 4] (fun n i wr => ∃ k : Nat, k ≤ ops.length ∧ n = .int .i64 ((ops.length + bulk (ops.take k) : Nat) : Int) ∧ i = .int .i64 k ∧ ops.length + bulk (ops.take k) ≤ 16384 ∧ Below w.heap.size w wr) (fun n i _ => ops.length - (intOf i).toNat)
  case atStart => exact ⟨0, Nat.zero_le _, by simp [bulk], rfl, by simp [bulk]; omega, Below.refl _ _⟩
  case round =>
   obtain ⟨k, hk, rfl, rfl, hsum, hbel⟩ := hrel
   have hwr := hbel.size
   by_cases hkl : k < ops.length
   ·obtain ⟨g, o, rfl, hgl, hop⟩ := H.out.1 k hkl
    obtain ⟨o1, o2, o3, o4, o5, o6⟩ := hop.below hbel hgl
    obtain ⟨hz5, hz6⟩ := H.out.2 ops[k] (List.getElem_mem hkl)
    have hbt := bulk_take_succ ops k hkl
    obtain ⟨S, hS⟩ : ∃ S, S = ops[k].s := ⟨_, rfl⟩
    obtain ⟨T, hT⟩ : ∃ T, T = ops[k].t := ⟨_, rfl⟩
    rw [← hS] at o5 hz5 hbt
    rw [← hT] at o6 hz6 hbt
    obtain ⟨N, hN⟩ : ∃ N, N = ops.length + bulk (ops.take k) := ⟨_, rfl⟩
    rw [← hN] at hsum ⊢
    have HN := Hid.mk (And.intro hN (And.intro hbt hbel))
    have hki : (k : Int) < (ops.length : Int) := by omega
    clear hN hbt hbel hop o1 o2 o3 o4 hS hT
    go_upto_region 7 with fail
    go_cut [3] from 16 to 30 (fun n wx => n = .int .i64 ((N + (S.size + T.size) : Nat) : Int) ∧ Below wr.heap.size wr wx)
    case first =>
     go_region
     all_goals
      go_wp2_with fail
      go_meet
      case rel => exact ⟨by congr 1; omega, (Below.refl _ _).drew⟩
    case rest =>
     obtain ⟨rfl, hb5⟩ := hcut
     have K5 := Hid.mk (HN.out.2.2.trans (hb5.mono hwr))
     obtain ⟨M, hM⟩ : ∃ M, M = N + (S.size + T.size) := ⟨_, rfl⟩
     rw [← hM]
     have HM := Hid.mk hM
     clear hb5 o5 o6 hM
     by_cases hover : 16384 < M
     ·have hbi2 : (16384 : Int) < (M : Int) := by omega
      go_wp2_with fail
      go_ret
      exact ⟨Or.inl rfl, K5.out⟩
     ·have hbi2 : ¬ (16384 : Int) < (M : Int) := by omega
      go_wp2_with fail
      go_roundw
      case measure => simp [intOf]; omega
      case rel =>
       obtain ⟨q1, q2, -⟩ := HN.out
       have q3 := HM.out
       exact ⟨k + 1, by omega, by congr 1; omega, by go_num, by omega, K5.out⟩
   ·have hke : k = ops.length := by omega
    have hki : ¬ (k : Int) < (ops.length : Int) := by omega
    rw [hke, List.take_length] at hsum
    go_wp2_with fail
    go_ret
    exact ⟨Or.inr ⟨rfl, by omega, by omega⟩, hbel⟩
end Go.Proofs.YtfjbijpagaipnabGreatDoor
