import Derived.Test.YtfjbijpagaipnabGreatDoorR20
import Derived.BigQuiet
import Derived.Deep.CutRange
import Derived.Deep.RegionWith
import Derived.Deep.RegionLaw
namespace Go.Proofs.YtfjbijpagaipnabGreatDoor
open Go.RowKit R
abbrev Mx := Nat × Nat × List Int
def mxD : Mx := (0, 0, [])
def ptrs (ps : List Nat) : List Value := ps.map fun p => Value.pointer (some ⟨p, 0, none⟩)
theorem ptrs_len (ps : List Nat) : (ptrs ps).length = ps.length := by simp [ptrs]
theorem ptrs_snoc (ps : List Nat) (p : Nat) : ptrs ps ++ [Value.pointer (some ⟨p, 0, none⟩)] = ptrs (ps ++ [p]) := by simp [ptrs]
def mxT (x : Mx) : List UInt8 := matT x.1 x.2.1 x.2.2
def ents (nx : Nat) (xs : List Mx) (ps : List Nat) : List Ent := (List.range ps.length).map fun j => (nx + j, mxT (xs.getD j mxD), ps.getD j 0)
theorem ents_len (nx : Nat) (xs : List Mx) (ps : List Nat) : (ents nx xs ps).length = ps.length := by simp [ents]
theorem ents_nil (nx : Nat) (xs : List Mx) : ents nx xs [] = [] := rfl
theorem ents_snoc (nx : Nat) (xs : List Mx) (ps : List Nat) (p : Nat) : ents nx xs (ps ++ [p]) = ents nx xs ps ++ [(nx + ps.length, mxT (xs.getD ps.length mxD), p)] := by
 unfold ents
 rw [List.length_append, List.length_singleton, List.range_succ, List.map_append, List.map_singleton]
 congr 1
 ·apply List.map_congr_left
  intro j hj
  have hj' := List.mem_range.1 hj
  simp [List.getD, List.getElem?_append_left hj']
 ·simp [List.getD]
theorem Chg.join {S S' : Nat → Prop} {a b c : World} (h : Chg S a b) (k : Chg S' b c) (hs : ∀ i, S' i → S i ∨ a.heap.size ≤ i) : Chg S a c := by
 obtain ⟨⟨h1, h2, h3, h4, h5⟩, h6⟩ := h
 obtain ⟨⟨k1, k2, k3, k4, k5⟩, k6⟩ := k
 refine ⟨⟨k1.trans h1, k2.trans h2, k3.trans h3, Nat.le_trans h4 k4, fun i hi hn => ?_⟩, h6.trans k6⟩
 rw [k5 i (by omega) (fun e => ?_), h5 i hi hn]
 rcases hs i e with h7 | h7
 ·exact hn h7
 ·omega
def HSt (w : World) (W T : Nat) (hv iv lv tv : Value) (nx : Nat) (es : List Ent) (xs : List Mx) (ps : List Nat) (ov : Value) (w' : World) : Prop := ∃ iv' lv' tv',
 (RowG w' 164 ov (ptrs ps) ∧ (∀ g, ov.ownBlock = some g → w.heap.size ≤ g ∧ ¬ S4 W iv' lv' tv' g)) ∧
 (Lw w' W T hv iv' lv' tv' (nx + ps.length) ∧ RowG w' 3 iv' (idc (es ++ ents nx xs ps)) ∧ RowG w' 164 lv' (lpc (es ++ ents nx xs ps)) ∧ RowG w' 9 tv' (txc (es ++ ents nx xs ps))) ∧
 (∀ g, S4 W iv' lv' tv' g → S4 W iv lv tv g ∨ w.heap.size ≤ g) ∧
 (∀ j, j < ps.length → ∃ lo hi, w.heap.size ≤ lo ∧ MatAt w' lo hi (ps.getD j 0) (xs.getD j mxD).1 (xs.getD j mxD).2.1 (fz (xs.getD j mxD).2.1 (xs.getD j mxD).2.2) ∧ ∀ k, (S4 W iv' lv' tv' k ∨ ov.ownBlock = some k) → k < lo ∨ hi ≤ k) ∧
 Chg (S4 W iv lv tv) w w'
set_option maxRecDepth 100000 in
set_option maxHeartbeats 4000000 in
theorem held_any (B W T b1 b2 g n nx NX : Nat) {hv : Value} (iv lv tv : Value) (ms : List Hm) (es : List Ent) (xs : List Mx) (ks : Nat → Nat) (w : World) (hTw : TwH B w T b1 b2 ms NX) (hL : Lw w W T hv iv lv tv nx) (hI : RowG w 3 iv (idc es)) (hP : RowG w 164 lv (lpc es)) (hX : RowG w 9 tv (txc es)) (hS : ∀ k, S4 W iv lv tv k → B ≤ k) (hnx : nx ≤ 1000000) (hn : n ≤ 5)
 (hk : ∀ j, j < n → ks j < 24 ∧ ms.getD (ks j) none = some (nx + j, xs.getD j mxD) ∧ Fine (xs.getD j mxD).1 (xs.getD j mxD).2.1 (xs.getD j mxD).2.2) (hd : Dst ms) (hes : es.length ≤ 24) (hg : ∀ j, j < n → w.cell? ⟨g, j, none⟩ = some (.int .i64 ((nx + j : Nat) : Int))) (hgS : ¬ S4 W iv lv tv g) :
 Calls Tryz.prog 152 #[.pointer (some ⟨W, 0, none⟩), .slice (some ⟨g, 0, none⟩) n n, .int .i64 n] w fun x w' => ∃ ov ps, ps.length = n ∧ x = .returned ov ∧ HSt w W T hv iv lv tv nx es xs ps ov w' := by
 obtain ⟨ii, hii, hii0, hii1, hii2⟩ := info_parts Tryz.infoI
 obtain ⟨ip, hip, hip0, hip1, hip2⟩ := info_parts Tryz.infoP
 obtain ⟨is_, his, his0, his1, his2⟩ := info_parts Tryz.infoS
 have HII := Hid.mk (And.intro hii (And.intro hii0 (And.intro hii1 hii2)))
 have HIP := Hid.mk (And.intro hip (And.intro hip0 (And.intro hip1 hip2)))
 have HIS := Hid.mk (And.intro his (And.intro his0 (And.intro his1 his2)))
 clear hii hii0 hii1 hii2 hip hip0 hip1 hip2 his his0 his1 his2
 have H := Hid.mk (And.intro hTw (And.intro hL (And.intro hI (And.intro hP (And.intro hX (And.intro hS (And.intro hd (And.intro hk (And.intro hg hgS)))))))))
 clear hTw hL hI hP hX hS hd hk hg hgS
 have hnn : ((n : Int) == (n : Int)) = true := by simp
 go_enter Tryz.func152, Tryz.ntmps152
 go_wp2_with fail
 go_loopw [7, 8] (fun out i wr => ∃ (k : Nat) (ps : List Nat), k ≤ n ∧ i = .int .i64 k ∧ ps.length = k ∧ HSt w W T hv iv lv tv nx es xs ps out wr) (fun _ i _ => n - (intOf i).toNat)
 case atStart =>
  refine ⟨0, [], Nat.zero_le _, rfl, rfl, iv, lv, tv, ⟨RowG.nil _ _, fun g hg => by simp [Value.ownBlock] at hg⟩, ?_, fun g hg => .inl hg, fun j hj => by simp at hj, Chg.of_below (Below.refl _ _)⟩
  rw [ents_nil, List.append_nil]
  exact ⟨H.out.2.1, H.out.2.2.1, H.out.2.2.2.1, H.out.2.2.2.2.1⟩
 case round =>
  obtain ⟨k, ps, hkn, rfl, hpk, HST0⟩ := hrel
  by_cases hkl : k < n
  ·obtain ⟨iv', lv', tv', ⟨hov, hovS⟩, ⟨hLk, hIk, hPk, hXk⟩, hSk, hmk, hCk⟩ := HST0
   obtain ⟨m, hm⟩ : ∃ m, m = nx + k := ⟨_, rfl⟩
   obtain ⟨E, hE⟩ : ∃ E, E = es ++ ents nx xs ps := ⟨_, rfl⟩
   rw [← hE] at hIk hPk hXk
   have hEl : E.length ≤ 29 := by rw [hE, List.length_append, ents_len]; omega
   rw [hpk, ← hm] at hLk
   have hT : TwH B wr T b1 b2 ms NX := H.out.1.chg hCk (fun h => ?hT) (fun h => ?h1) (fun h => ?h2) H.out.2.2.2.2.2.1
   case hT =>
    have htT : Ty w T 149 := ⟨_, _, H.out.1.1⟩
    rcases h with h | h | h | h
    ·exact ty_ne htT H.out.2.1.ty (by decide) h
    ·exact ty_ne htT (H.out.2.2.1.own T h).2 (by decide) rfl
    ·exact ty_ne htT (H.out.2.2.2.1.own T h).2 (by decide) rfl
    ·exact ty_ne htT (H.out.2.2.2.2.1.own T h).2 (by decide) rfl
   case h1 =>
    have htT := H.out.1.2.1.ty
    rcases h with h | h | h | h
    ·exact ty_ne htT H.out.2.1.ty (by decide) h
    ·exact ty_ne htT (H.out.2.2.1.own b1 h).2 (by decide) rfl
    ·exact ty_ne htT (H.out.2.2.2.1.own b1 h).2 (by decide) rfl
    ·exact ty_ne htT (H.out.2.2.2.2.1.own b1 h).2 (by decide) rfl
   case h2 =>
    have htT := H.out.1.2.2.1.ty
    rcases h with h | h | h | h
    ·exact ty_ne htT H.out.2.1.ty (by decide) h
    ·exact ty_ne htT (H.out.2.2.1.own b2 h).2 (by decide) rfl
    ·exact ty_ne htT (H.out.2.2.2.1.own b2 h).2 (by decide) rfl
    ·exact ty_ne htT (H.out.2.2.2.2.1.own b2 h).2 (by decide) rfl
   obtain ⟨hks, hmx, hfine⟩ := H.out.2.2.2.2.2.2.2.1 k hkl
   obtain ⟨x, hx⟩ : ∃ x, x = xs.getD k mxD := ⟨_, rfl⟩
   rw [← hx, ← hm] at hmx
   rw [← hx] at hfine
   have g0 : wr.cell? ⟨g, k, none⟩ = some (.int .i64 (m : Int)) := by
    have h0 := H.out.2.2.2.2.2.2.2.2.1 k hkl
    have hgl : g < w.heap.size := World.block_lt_of_cell? w _ h0
    have hbl := hCk.block hgl H.out.2.2.2.2.2.2.2.2.2
    rw [hm, ← h0]
    simp only [World.cell?, hbl]
   obtain ⟨ioa, icap, hie, -⟩ := hIk.shape
   obtain ⟨loa, lcap, hle, -⟩ := hPk.shape
   obtain ⟨toa, tcap, hte, -⟩ := hXk.shape
   obtain ⟨ooa, ocap, hoe, -⟩ := hov.shape
   rw [idc_len] at hie
   rw [lpc_len] at hle
   rw [txc_len] at hte
   rw [ptrs_len, hpk] at hoe
   subst hie; subst hle; subst hte; subst hoe
   have HK := Hid.mk (And.intro hm (And.intro hE (And.intro hpk hx)))
   have HST := Hid.mk (And.intro (And.intro hov hovS) (And.intro hSk (And.intro hmk hCk)))
   have HR := Hid.mk (And.intro hT (And.intro hLk (And.intro hIk (And.intro hPk hXk))))
   have HM := Hid.mk (And.intro hks (And.intro hmx hfine))
   have hml : m ≤ 1000005 := by omega
   obtain ⟨EL, hEL⟩ : ∃ EL, EL = E.length := ⟨_, rfl⟩
   clear hm hE hpk hx hov hovS hSk hmk hCk hT hIk hPk hXk hks hmx hfine
   obtain ⟨c0, c1, c2, c3, c4, c5, c6⟩ := hLk.cells
   clear hLk
   have in_ : ((m : Int) == (m : Int)) = true := by simp
   have hki : (k : Int) < (n : Int) := by omega
   go_wp2_with fail
   go_quiet (fail)
   have HSH : Hid (ShowOut ms (m : Int) (mxT x) 0) := Hid.mk (.inl ⟨rfl, ks k, _, HM.out.1, HM.out.2.1, rfl, rfl⟩)
   go_upto_region 9 with fail
   go_cut [9, 10] from 36 to 47 (fun tt e wx => tt = .string ⟨(mxT x).toArray⟩ ∧ e = .int .i64 0 ∧ Below wr.heap.size wr wx)
   case first =>
    go_region_with (go_at_call 122; go_must (refine (twShow_any B T b1 b2 m ms NX _ (HR.out.1.below ((below_drewN (Below.refl _ _) _).drew))).mono ?_; rintro x w1 ⟨tt, e, rfl, hs, hb⟩; obtain ⟨rfl, rfl⟩ := show_uniq H.out.2.2.2.2.2.2.1 hs HSH.out))
    all_goals
     go_wp2_with fail
     go_meet
     case rel => exact ⟨rfl, rfl, ((below_drewN (Below.refl _ _) _).drew).trans hb⟩
   case rest =>
    obtain ⟨rfl, rfl, hbc⟩ := hcut
    obtain ⟨ST, hST⟩ : ∃ ST : ByteArray, ST = ⟨(mxT x).toArray⟩ := ⟨_, rfl⟩
    have hwm := writes_fine HM.out.2.2
    have hSTs : ST.size ≤ 40000000000 := by rw [hST]; show (mxT x).toArray.size ≤ 40000000000; simpa [mxT] using HM.out.2.2.2.2.2
    have HST2 := Hid.mk (And.intro hST hwm)
    have HBC := Hid.mk hbc
    have hwc := hbc.size
    rw [← hST]
    clear hST hwm hbc c0 c1 c2 c3 c4 c5 c6 g0
    go_wp2_with fail
    refine (read_yes ST x.1 x.2.1 x.2.2 40000000000 _ hSTs HM.out.2.2.1 HM.out.2.2.2.1 (by rw [HST2.out.1]; exact HST2.out.2)).mono ?_
    rintro y w2 ⟨p, gs, rfl, hIR, hb2⟩
    have hb02 : Below wr.heap.size wr w2 := HBC.out.trans (hb2.mono hwc)
    replace hIR := hIR.low hwc
    have hw2 := hb02.size
    have hL2 := HR.out.2.1.of_block (hb02.block W HR.out.2.1.lt)
    have hI2 := HR.out.2.2.1.below hb02
    have hP2 := HR.out.2.2.2.1.below hb02
    have hX2 := HR.out.2.2.2.2.below hb02
    have hO2 := HST.out.1.1.below hb02
    obtain ⟨c0, c1, c2, c3, c4, c5, c6⟩ := hL2.cells
    have HI2 := Hid.mk (And.intro hIR (And.intro hb02 (And.intro hL2 (And.intro hI2 (And.intro hP2 (And.intro hX2 hO2))))))
    clear hIR hb2 hL2 hI2 hP2 hX2 hb02 hO2
    go_upto_region 13 with fail
    go_cut [] from 56 to 68 (fun wx => ∃ iv', Lw wx W T hv iv' (.slice loa E.length lcap) (.slice toa E.length tcap) m ∧ RowG wx 3 iv' (idc E ++ [Value.int .i64 (m : Nat)]) ∧ Chg (fun k => k = W ∨ (Value.slice ioa E.length icap).ownBlock = some k) w2 wx ∧ (∀ g, iv'.ownBlock = some g → (Value.slice ioa E.length icap).ownBlock = some g ∨ w2.heap.size ≤ g))
    case first =>
     have d1 := rcell1 c1
     have d4 := rcell1 c4
     obtain ⟨X, hX⟩ : ∃ X, X = ((w2.alloc (.cells #[.int .i64 m] 3)).drew) := ⟨_, rfl⟩
     have hBX : Below w2.heap.size w2 X := by rw [hX]; exact ((Below.refl _ _).alloc (Nat.le_refl _) _).drew
     have s1 : RowG ((w2.alloc (.cells #[.int .i64 m] 3)).drew) 3 (.slice ioa E.length icap) (idc E) := by rw [← hX]; exact HI2.out.2.2.2.1.below hBX
     have s2 : ((w2.alloc (.cells #[.int .i64 m] 3)).drew).cell? (Addr.add ⟨w2.heap.size, 0, none⟩ 0) = some (.int .i64 (m : Nat)) := by simp [Addr.add]
     have s3 : (idc E).length + 1 ≤ 30 := by rw [idc_len]; omega
     have SS := Hid.mk (And.intro s1 (And.intro s2 (And.intro s3 (And.intro hX hBX))))
     clear s1 s2 s3 hX hBX
     go_region_law (refine step_append_row rfl (.tmp 60) (.tmp 65) 51 rfl 3 ii (.int .i64 0) 8 Tryz.underlying51 HII.out.1 HII.out.2.1 HII.out.2.2.1 HII.out.2.2.2 rfl (.slice ioa E.length icap) (idc E) rfl SS.out.1 ⟨w2.heap.size, 0, none⟩ (.int .i64 (m : Nat)) rfl SS.out.2.1 rfl (Nat.le_trans SS.out.2.2.1 (by decide)) (Nat.le_trans (Nat.mul_le_mul_right _ SS.out.2.2.1) (by decide)) ?_; intro v' w' hA; obtain ⟨voa, vcap, hve, -⟩ := hA.1.shape; obtain ⟨vm, hvm⟩ : ∃ vm, vm = (idc E ++ [Value.int .i64 (m : Nat)]).length := ⟨_, rfl⟩; rw [← hvm] at hve; clear hvm; subst hve; rw [← SS.out.2.2.2.1] at hA; have HA := Hid.mk (And.intro hA (app_row (j := 1) HI2.out.2.2.1.ty SS.out.2.2.2.2 HI2.out.2.2.2.1 hA (by decide))); have HLW := HI2.out.2.2.1.of_block HA.out.2.2.2.1; obtain ⟨-, m1, -, -, -, -, m7⟩ := HLW.cells; clear hA)
     all_goals
      go_wp2_with fail
      go_meet
      case rel =>
       refine ⟨_, ?_, ?_, ?_, HA.out.2.2.2.2⟩
       ·exact (lw_set HLW _).1
       ·exact HA.out.2.1
       ·exact HA.out.2.2.1
    case rest =>
     obtain ⟨iv3, hL3, hI3, hC3, hO3⟩ := hcut
     have hP3 := HI2.out.2.2.2.2.1.keepRow HI2.out.2.2.2.1 HI2.out.2.2.1.ty (by decide) (by decide) hC3
     have hX3 := HI2.out.2.2.2.2.2.1.keepRow HI2.out.2.2.2.1 HI2.out.2.2.1.ty (by decide) (by decide) hC3
     have hV3 := HI2.out.2.2.2.2.2.2.chg hC3 (fun k hk hs => (HST.out.1.2 k hk).2 (hs.elim .inl (fun h => .inr (.inl h))))
     have hwc3 := hC3.size
     obtain ⟨m0, m1, m2, m3, m4, m5, m6⟩ := hL3.cells
     have K3 := Hid.mk (And.intro hL3 (And.intro hI3 (And.intro hP3 (And.intro hX3 (And.intro hC3 (And.intro hO3 hV3))))))
     clear hL3 hI3 hP3 hX3 hC3 hO3 hV3 c0 c1 c2 c3 c4 c5 c6
     go_wp2_with (at_builtin; refine wpList_append_row _ rfl _ _ _ rfl 164 ip (.pointer none) 8 Tryz.underlying126 HIP.out.1 HIP.out.2.1 HIP.out.2.2.1 HIP.out.2.2.2 rfl (.slice loa E.length lcap) (lpc E) rfl ?_ ⟨_, 0, none⟩ (.pointer (some ⟨p, 0, none⟩)) rfl ?_ rfl ?_ ?_ ?_)
     ·exact K3.out.2.2.1.below ((Below.refl _ _).alloc (Nat.le_refl _) _)
     ·simp [Addr.add]
     ·rw [lpc_len]; unfold maxLen; omega
     ·rw [lpc_len]; omega
     intro v4 w4 hA4
     obtain ⟨voa, vcap, hve, -⟩ := hA4.1.shape
     obtain ⟨vm, hvm⟩ : ∃ vm, vm = (lpc E ++ [Value.pointer (some ⟨p, 0, none⟩)]).length := ⟨_, rfl⟩
     rw [← hvm] at hve
     clear hvm
     subst hve
     obtain ⟨r1, r2, r3, r4⟩ := app_row (j := 2) K3.out.1.ty ((Below.refl _ _).alloc (Nat.le_refl _) _) K3.out.2.2.1 hA4 (by decide)
     have hL4 := K3.out.1.of_block r3
     have hI4 := K3.out.2.1.keepRow K3.out.2.2.1 K3.out.1.ty (by decide) (by decide) r2
     have hX4 := K3.out.2.2.2.1.keepRow K3.out.2.2.1 K3.out.1.ty (by decide) (by decide) r2
     have hV4 := K3.out.2.2.2.2.2.2.chg r2 (fun k hk hs => (HST.out.1.2 k hk).2 (hs.elim .inl (fun h => .inr (.inr (.inl h)))))
     clear m0 m1 m2 m3 m4 m5 m6
     obtain ⟨m0, m1, m2, m3, m4, m5, m6⟩ := hL4.cells
     have n6 := m6 2
     have hw4 : wc.heap.size ≤ w4.heap.size := by have := r2.size; simpa using this
     obtain ⟨Y4, hY4⟩ : ∃ Y4, Y4 = w4.setCell ⟨W, 2, none⟩ (.slice voa vm vcap) := ⟨_, rfl⟩
     have K4 := Hid.mk (And.intro (lw_set hL4 (.slice voa vm vcap)).2.1 (And.intro hI4 (And.intro r1 (And.intro hX4 (And.intro r2 (And.intro r4 hV4))))))
     rw [← hY4] at K4
     have HY4 := Hid.mk hY4
     have hs4 : Y4.heap.size = w4.heap.size := by rw [hY4]; simp [World.setCell]
     clear hA4 r1 r2 r3 r4 hL4 hI4 hX4 hV4 m6 hY4
     go_wp2_with (at_builtin; rw [← HY4.out]; refine wpList_append_row _ rfl _ _ _ rfl 9 is_ (.string ⟨#[]⟩) 16 Tryz.underlying127 HIS.out.1 HIS.out.2.1 HIS.out.2.2.1 HIS.out.2.2.2 rfl (.slice toa E.length tcap) (txc E) rfl ?_ ⟨_, 0, none⟩ (.string ST) rfl ?_ rfl ?_ ?_ ?_)
     ·exact K4.out.2.2.2.1.below ((Below.refl _ _).alloc (Nat.le_refl _) _)
     ·first
       | (simp [Addr.add]; done)
       | (rw [← hs4]; simp [Addr.add])
     ·rw [txc_len]; unfold maxLen; omega
     ·rw [txc_len]; omega
     intro v5 w5 hA5
     obtain ⟨toa5, tcap5, hte, -⟩ := hA5.1.shape
     obtain ⟨tm, htm⟩ : ∃ tm, tm = (txc E ++ [Value.string ST]).length := ⟨_, rfl⟩
     rw [← htm] at hte
     clear htm
     subst hte
     obtain ⟨r1, r2, r3, r4⟩ := app_row (j := 3) K4.out.1.ty ((Below.refl _ _).alloc (Nat.le_refl _) _) K4.out.2.2.2.1 hA5 (by decide)
     have hL5 := K4.out.1.of_block r3
     have hI5 := K4.out.2.1.keepRow K4.out.2.2.2.1 K4.out.1.ty (by decide) (by decide) r2
     have hP5 := K4.out.2.2.1.keepRow K4.out.2.2.2.1 K4.out.1.ty (by decide) (by decide) r2
     have hV5 := K4.out.2.2.2.2.2.2.chg r2 (fun k hk hs => (HST.out.1.2 k hk).2 (hs.elim .inl (fun h => .inr (.inr (.inr h)))))
     clear m0 m1 m2 m3 m4 m5 n6
     obtain ⟨m0, m1, m2, m3, m4, m5, m6⟩ := hL5.cells
     have n6 := m6 3
     have n7 := m6 4
     have hw5 : Y4.heap.size ≤ w5.heap.size := by have := r2.size; simpa [World.setCell] using this
     have l5 := (lw_set hL5 (.slice toa5 tm tcap5)).2.2
     have hvY := hV5.setW (o := 4) l5.ty (by decide) (.int .i64 ((m : Int) + 1))
     have hV6 := hvY.below ((Below.refl _ _).alloc (Nat.le_refl _) (.cells #[.pointer (some ⟨p, 0, none⟩)] 164))
     have K5 := Hid.mk (And.intro l5 (And.intro hI5 (And.intro hP5 (And.intro r1 (And.intro r2 (And.intro r4 (And.intro hvY hV6)))))))
     clear hA5 r1 r2 r3 r4 hL5 hI5 hP5 hV5 hvY hV6 l5 m6
     go_wp2_with (at_builtin; refine wpList_append_row _ rfl _ _ _ rfl 164 ip (.pointer none) 8 Tryz.underlying126 HIP.out.1 HIP.out.2.1 HIP.out.2.2.1 HIP.out.2.2.2 rfl (.slice ooa k ocap) (ptrs ps) rfl K5.out.2.2.2.2.2.2.2 ⟨_, 0, none⟩ (.pointer (some ⟨p, 0, none⟩)) rfl ?_ rfl ?_ ?_ ?_)
     ·rw [show Addr.add ⟨w5.heap.size, 0, none⟩ 0 = ⟨w5.heap.size, 0, none⟩ from by simp [Addr.add]]
      exact ncell _ _ _ _ _ (by simp [World.setCell]) rfl
     ·rw [ptrs_len, HK.out.2.2.1]; unfold maxLen; omega
     ·rw [ptrs_len, HK.out.2.2.1]; omega
     intro v6 w6 hA6
     have HFIN : Hid (HSt w W T hv iv lv tv nx es xs (ps ++ [p]) v6 w6) := Hid.mk (by
      obtain ⟨l5, i5, p5, x5, ch5, o5, v5, vX⟩ := K5.out
      obtain ⟨-, -, -, -, ch4, o4, -⟩ := K4.out
      obtain ⟨-, -, -, -, ch3, o3, -⟩ := K3.out
      obtain ⟨hIR, hb02, -⟩ := HI2.out
      obtain ⟨-, hLk, hIk, hPk, hXk⟩ := HR.out
      obtain ⟨⟨hov, hovS⟩, hSk, hmk, hCk⟩ := HST.out
      obtain ⟨hm, hE, hpk, hx⟩ := HK.out
      have lY := lw_next l5 (z := (m : Int) + 1) (n := m + 1) (by omega)
      have iY := i5.setW (o := 4) l5.ty (by decide) (.int .i64 ((m : Int) + 1))
      have pY := p5.setW (o := 4) l5.ty (by decide) (.int .i64 ((m : Int) + 1))
      have xY := x5.setW (o := 4) l5.ty (by decide) (.int .i64 ((m : Int) + 1))
      obtain ⟨S', hS'⟩ : ∃ S' : Nat → Prop, S' = fun q => S4 W (.slice ioa E.length icap) (.slice loa E.length lcap) (.slice toa E.length tcap) q ∨ (Value.slice ooa k ocap).ownBlock = some q := ⟨_, rfl⟩
      have toS : ∀ q, S4 W (.slice ioa E.length icap) (.slice loa E.length lcap) (.slice toa E.length tcap) q ∨ (Value.slice ooa k ocap).ownBlock = some q → S' q := fun q h => by rw [hS']; exact h
      have ofS : ∀ q, S' q → S4 W (.slice ioa E.length icap) (.slice loa E.length lcap) (.slice toa E.length tcap) q ∨ (Value.slice ooa k ocap).ownBlock = some q := fun q h => by rw [hS'] at h; exact h
      clear hS'
      have cY : Chg S' _ _ := Chg.setW (o := 4) l5.ty (by decide) (by decide) (toS W (.inl (.inl rfl))) (.int .i64 ((m : Int) + 1))
      obtain ⟨Z, hZ⟩ : ∃ Z, Z = (w5.setCell ⟨W, 3, none⟩ (.slice toa5 tm tcap5)).setCell ⟨W, 4, none⟩ (.int .i64 ((m : Int) + 1)) := ⟨_, rfl⟩
      have hsZ : Z.heap.size = w5.heap.size := by rw [hZ]; simp [World.setCell]
      rw [← hZ] at lY iY pY xY cY v5 vX hA6
      obtain ⟨r6, g6, o6⟩ := hA6
      have c2Z : Chg S' w2 Z := (((ch3.mono (fun q h => toS q (.inl (h.elim .inl (fun h => .inr (.inl h)))))).trans (ch4.mono (fun q h => toS q (.inl (h.elim .inl (fun h => .inr (.inr (.inl h)))))))).trans (ch5.mono (fun q h => toS q (.inl (h.elim .inl (fun h => .inr (.inr (.inr h)))))))).trans cY
      have bX : Below Z.heap.size Z (Z.alloc (.cells #[.pointer (some ⟨p, 0, none⟩)] 164)) := (Below.refl _ _).alloc (Nat.le_refl _) _
      have cZ6 : Chg S' Z w6 := (Chg.of_below bX).trans (Chg.grownT g6 (fun q hq => (vX.own q hq).2) (by decide) (by decide) (fun q hq => toS q (.inr hq)))
      have c26 : Chg S' w2 w6 := c2Z.trans cZ6
      have hlt : ∀ q, S' q → q < wr.heap.size := fun q h => by
       rcases ofS q h with h | h
       ·rcases h with h | h | h | h
        ·rw [h]; exact hLk.lt
        ·exact (hIk.own q h).1
        ·exact (hPk.own q h).1
        ·exact (hXk.own q h).1
       ·exact (hov.own q h).1
      have c06 : Chg S' wr w6 := (Chg.of_below hb02).trans c26
      have hZ2 := c2Z.size
      have hXs : (Z.alloc (.cells #[.pointer (some ⟨p, 0, none⟩)] 164)).heap.size = Z.heap.size + 1 := by simp
      have newS : ∀ q, S4 W iv3 (.slice voa vm vcap) (.slice toa5 tm tcap5) q → S4 W (.slice ioa E.length icap) (.slice loa E.length lcap) (.slice toa E.length tcap) q ∨ w2.heap.size ≤ q := fun q h => by
       rcases h with h | h | h | h
       ·exact .inl (.inl h)
       ·rcases o3 q h with h | h
        ·exact .inl (.inr (.inl h))
        ·exact .inr h
       ·rcases o4 q h with h | h
        ·exact .inl (.inr (.inr (.inl h)))
        ·exact .inr (by omega)
       ·rcases o5 q h with h | h
        ·exact .inl (.inr (.inr (.inr h)))
        ·exact .inr (by omega)
      have newZ : ∀ q, S4 W iv3 (.slice voa vm vcap) (.slice toa5 tm tcap5) q → q < Z.heap.size := fun q h => by
       rcases h with h | h | h | h
       ·rw [h]; exact lY.lt
       ·exact (iY.own q h).1
       ·exact (pY.own q h).1
       ·exact (xY.own q h).1
      have apart : ∀ q, S4 W iv3 (.slice voa vm vcap) (.slice toa5 tm tcap5) q → (Value.slice ooa k ocap).ownBlock = some q → False := fun q h h' => by
       rcases newS q h with h2 | h2
       ·exact (hovS q h').2 h2
       ·have := hlt q (toS q (.inr h')); omega
      have bZ6 : ∀ q, q < Z.heap.size → (Value.slice ooa k ocap).ownBlock ≠ some q → w6.heap[q]? = Z.heap[q]? := fun q h1 h2 => by
       rw [g6.block q (by omega) (fun e => h2 e.symm)]
       exact bX.block q h1
      have hcs := hCk.size
      have h2s := hb02.size
      have hes2 : es ++ ents nx xs (ps ++ [p]) = E ++ [(m, mxT x, p)] := by
       rw [ents_snoc, ← List.append_assoc, ← hE, hpk, ← hm, ← hx]
      obtain ⟨x1, x2, x3⟩ := ent_snoc E (m, mxT x, p)
      refine ⟨iv3, .slice voa vm vcap, .slice toa5 tm tcap5, ⟨by rw [← ptrs_snoc]; exact r6, fun q hq => ?_⟩, ⟨?_, ?_, ?_, ?_⟩, fun q hq => ?_, fun j hj => ?_, hCk.join c06 (fun q hq => ?_)⟩
      ·rcases o6 q hq with h | h
       ·exact ⟨(hovS q h).1, fun h' => apart q h' h⟩
       ·exact ⟨by omega, fun h' => by have := newZ q h'; omega⟩
      ·rw [List.length_append, List.length_singleton, hpk, ← Nat.add_assoc, ← hm]
       exact lY.of_block (bZ6 W lY.lt (fun h => apart W (.inl rfl) h))
      ·rw [hes2, ← x1]
       exact iY.of_block (fun q hq => bZ6 q (iY.own q hq).1 (fun h => apart q (.inr (.inl hq)) h))
      ·rw [hes2, ← x2]
       exact pY.of_block (fun q hq => bZ6 q (pY.own q hq).1 (fun h => apart q (.inr (.inr (.inl hq))) h))
      ·rw [hes2, ← x3]
       rw [HST2.out.1] at xY
       exact xY.of_block (fun q hq => bZ6 q (xY.own q hq).1 (fun h => apart q (.inr (.inr (.inr hq))) h))
      ·rcases newS q hq with h | h
       ·exact hSk q h
       ·exact .inr (by omega)
      ·rw [List.length_append, List.length_singleton] at hj
       by_cases hjp : j < ps.length
       ·obtain ⟨lo, hi, h1, h2, h3⟩ := hmk j hjp
        have hhi : hi ≤ wr.heap.size := h2.choose_spec.choose_spec.2.2.2
        rw [show (ps ++ [p]).getD j 0 = ps.getD j 0 from by simp [List.getD, List.getElem?_append_left hjp]]
        refine ⟨lo, hi, h1, h2.chg c06 (fun q hq => h3 q (ofS q hq)), fun q hq => ?_⟩
        rcases hq with hq | hq
        ·rcases newS q hq with h | h
         ·exact h3 q (.inl h)
         ·exact .inr (by omega)
        ·rcases o6 q hq with h | h
         ·exact h3 q (.inr h)
         ·exact .inr (by omega)
       ·have hjk : j = k := by omega
        rw [hjk, ← hx, show (ps ++ [p]).getD k 0 = p from by simp [List.getD, ← hpk]]
        refine ⟨wr.heap.size, w2.heap.size, hcs, MatAt.new hIR (c26.up hlt) c26.size, fun q hq => ?_⟩
        rcases hq with hq | hq
        ·rcases newS q hq with h | h
         ·exact .inl (hlt q (toS q (.inl h)))
         ·exact .inr h
        ·rcases o6 q hq with h | h
         ·exact .inl (hlt q (toS q (.inr h)))
         ·exact .inr (by omega)
      ·rcases ofS q hq with h | h
       ·exact hSk q h
       ·exact .inr (hovS q h).1)
     obtain ⟨voa6, vcap6, hve6, -⟩ := hA6.1.shape
     obtain ⟨vm6, hvm6⟩ : ∃ vm6, vm6 = (ptrs ps ++ [Value.pointer (some ⟨p, 0, none⟩)]).length := ⟨_, rfl⟩
     rw [← hvm6] at hve6
     clear hvm6 hA6
     subst hve6
     go_wp2_with fail
     go_roundw
     case measure => simp [intOf]; omega
     case rel => exact ⟨k + 1, ps ++ [p], by omega, by go_num, by rw [List.length_append, List.length_singleton, HK.out.2.2.1], HFIN.out⟩
  ·have hke : k = n := by omega
   subst hke
   have HO := Hid.mk HST0
   clear HST0
   go_wp2_with fail
   go_ret
   exact ⟨_, ps, hpk, rfl, HO.out⟩
def HOut (w : World) (W T : Nat) (hv iv lv tv : Value) (nx : Nat) (es : List Ent) (r c : Nat) (zs : List Int) (ov : Value) (w' : World) : Prop := ∃ p iv' lv' tv' og ocap, ov = .slice (some ⟨og, 0, none⟩) 1 ocap ∧ 1 ≤ ocap ∧ ocap ≤ 9223372036854775807 ∧ w'.cell? ⟨og, 0, none⟩ = some (.pointer (some ⟨p, 0, none⟩)) ∧ Lw w' W T hv iv' lv' tv' (nx + 1) ∧
 RowG w' 3 iv' (idc (es ++ [(nx, matT r c zs, p)])) ∧ RowG w' 164 lv' (lpc (es ++ [(nx, matT r c zs, p)])) ∧ RowG w' 9 tv' (txc (es ++ [(nx, matT r c zs, p)])) ∧
 (∀ g, S4 W iv' lv' tv' g → S4 W iv lv tv g ∨ w.heap.size ≤ g) ∧ (∃ lo hi, w.heap.size ≤ lo ∧ MatAt w' lo hi p r c (fz c zs) ∧ ∀ k, S4 W iv' lv' tv' k → k < lo ∨ hi ≤ k) ∧ Chg (S4 W iv lv tv) w w'
theorem held_one (B W T b1 b2 g k r c nx NX : Nat) {hv : Value} (iv lv tv : Value) (ms : List Hm) (es : List Ent) (zs : List Int) (w : World) (hTw : TwH B w T b1 b2 ms NX) (hL : Lw w W T hv iv lv tv nx) (hI : RowG w 3 iv (idc es)) (hP : RowG w 164 lv (lpc es)) (hX : RowG w 9 tv (txc es)) (hS : ∀ k, S4 W iv lv tv k → B ≤ k) (hnx : nx ≤ 1000000)
 (hk : k < 24) (hm : ms.getD k none = some (nx, r, c, zs)) (hd : Dst ms) (hf : Fine r c zs) (hes : es.length ≤ 24) (hg : w.heap[g]? = some (.cells #[.int .i64 nx] 3 (0, 0))) (hgS : ¬ S4 W iv lv tv g) :
 Calls Tryz.prog 152 #[.pointer (some ⟨W, 0, none⟩), .slice (some ⟨g, 0, none⟩) 1 1, .int .i64 1] w fun x w' => ∃ ov, x = .returned ov ∧ HOut w W T hv iv lv tv nx es r c zs ov w' := by
 have key := held_any B W T b1 b2 g 1 nx NX iv lv tv ms es [(r, c, zs)] (fun _ => k) w hTw hL hI hP hX hS hnx (by omega)
  (fun j hj => by
    obtain rfl : j = 0 := by omega
    exact ⟨hk, hm, hf⟩) hd hes (fun j hj => by
    obtain rfl : j = 0 := by omega
    simp [World.cell?, hg]) hgS
 refine Calls.mono (show Calls Tryz.prog 152 #[.pointer (some ⟨W, 0, none⟩), .slice (some ⟨g, 0, none⟩) 1 1, .int .i64 1] w _ from key) ?_
 rintro x w' ⟨ov, ps, hps, rfl, iv', lv', tv', ⟨hov, -⟩, ⟨h1, h2, h3, h4⟩, h5, h6, h7⟩
 obtain ⟨p, rfl⟩ : ∃ p, ps = [p] := by
  match ps, hps with
  | [p], _ => exact ⟨p, rfl⟩
 have he : ents nx [(r, c, zs)] [p] = [(nx, matT r c zs, p)] := rfl
 rw [he] at h2 h3 h4
 refine ⟨ov, rfl, ?_⟩
 rcases hov with ⟨-, hbad⟩ | ⟨og, ocap, cur, hov, hoc, h8, -, h9, h10⟩
 ·simp [ptrs] at hbad
 ·refine ⟨p, iv', lv', tv', og, ocap, by simpa [ptrs] using hov, by simpa [ptrs] using h8, by simpa [maxLen] using h9, ?_, h1, h2, h3, h4, h5, ?_, h7⟩
  ·have := h10 0 (by simp [ptrs])
   simp [ptrs] at this
   simp only [World.cell?, hoc]
   exact this
  ·obtain ⟨lo, hi, h11, h12, h13⟩ := h6 0 (by simp)
   exact ⟨lo, hi, h11, h12, fun k hk => h13 k (.inl hk)⟩
open Go.RowKit R
def cnt (ms : List Hm) : Nat := (ms.filter Option.isSome).length
theorem cnt_set {ms : List Hm} {i : Nat} (hi : i < ms.length) (x : Hm) : cnt (ms.set i x) + (if (ms.getD i none).isSome then 1 else 0) = cnt ms + (if x.isSome then 1 else 0) := by
 have h1 : ms = ms.take i ++ ms[i] :: ms.drop (i + 1) := by rw [← List.drop_eq_getElem_cons hi, List.take_append_drop]
 have h2 : ms.set i x = ms.take i ++ x :: ms.drop (i + 1) := by rw [List.set_eq_take_append_cons_drop, if_pos hi]
 have h3 : ms.getD i none = ms[i] := by simp [List.getD, List.getElem?_eq_getElem hi]
 have h4 : cnt ms = cnt (ms.take i) + ((if (ms[i]).isSome then 1 else 0) + cnt (ms.drop (i + 1))) := by
  conv => lhs; rw [h1]
  unfold cnt
  rw [List.filter_append, List.length_append, List.filter_cons]
  split <;> simp <;> omega
 have h5 : cnt (ms.set i x) = cnt (ms.take i) + ((if x.isSome then 1 else 0) + cnt (ms.drop (i + 1))) := by
  rw [h2]
  unfold cnt
  rw [List.filter_append, List.length_append, List.filter_cons]
  split <;> simp <;> omega
 rw [h3, h4, h5]
 omega
theorem cnt_le (ms : List Hm) : cnt ms ≤ ms.length := List.length_filter_le _ _
theorem cnt_full {ms : List Hm} (hl : ms.length = 24) : cnt ms = 24 ↔ ∀ i, i < 24 → ms.getD i none ≠ none := by
 unfold cnt
 rw [← hl, List.length_filter_eq_length_iff]
 constructor
 ·intro h i hi e
  have := h (ms[i]'hi) (List.getElem_mem _)
  rw [List.getD, List.getElem?_eq_getElem hi] at e
  simp at e
  rw [e] at this
  cases this
 ·intro h x hx
  obtain ⟨i, hi, rfl⟩ := List.mem_iff_getElem.1 hx
  have := h i hi
  rw [List.getD, List.getElem?_eq_getElem hi] at this
  cases hm : ms[i] with
  | none => rw [hm] at this; simp at this
  | some y => rfl
structure Rel (es : List Ent) (ms : List Hm) (nx : Nat) : Prop where
 dst : Dst ms
 len : ms.length = 24
 old : ∀ k x, k < 24 → ms.getD k none = some x → x.1 < nx
 num : es.length = cnt ms
 has : ∀ e ∈ es, ∃ k x, k < 24 ∧ ms.getD k none = some x ∧ x.1 = e.1 ∧ e.2.1 = matT x.2.1 x.2.2.1 x.2.2.2
 all : ∀ k x, k < 24 → ms.getD k none = some x → ∃ e ∈ es, e.1 = x.1
 nodup : (es.map (fun e => e.1)).Nodup
theorem Rel.start : Rel [] (List.replicate 24 none) 0 := by
 refine ⟨?_, by simp, ?_, ?_, (fun e he => by cases he), ?_, by simp⟩
 ·intro i j x y _ _ hx
  rw [rep_none] at hx; cases hx
 ·intro k x _ hx
  rw [rep_none] at hx; cases hx
 ·rfl
 ·intro k x _ hx
  rw [rep_none] at hx; cases hx
theorem Rel.push {es : List Ent} {ms : List Hm} {nx : Nat} (h : Rel es ms nx) {i : Nat} (hi : FreeAt ms i) (r c : Nat) (zs : List Int) (p : Nat) : Rel (es ++ [(nx, matT r c zs, p)]) (ms.set i (some (nx, r, c, zs))) (nx + 1) := by
 have hil : i < ms.length := by rw [h.len]; exact hi.1
 have hg : ∀ k, (ms.set i (some (nx, r, c, zs))).getD k none = if k = i then some (nx, r, c, zs) else ms.getD k none := fun k => hm_set hil
 refine ⟨?_, by simp [h.len], ?_, ?_, ?_, ?_, ?_⟩
 ·intro a b x y ha hb hx hy he
  rw [hg] at hx hy
  by_cases h1 : a = i
  ·by_cases h2 : b = i
   ·omega
   ·rw [if_pos h1] at hx
    rw [if_neg h2] at hy
    injection hx with hx
    have := h.old b y hb hy
    rw [← hx] at he
    simp at he
    omega
  ·rw [if_neg h1] at hx
   by_cases h2 : b = i
   ·rw [if_pos h2] at hy
    injection hy with hy
    have := h.old a x ha hx
    rw [← hy] at he
    simp at he
    omega
   ·rw [if_neg h2] at hy
    exact h.dst a b x y ha hb hx hy he
 ·intro k x hk hx
  rw [hg] at hx
  by_cases h1 : k = i
  ·rw [if_pos h1] at hx
   injection hx with hx
   rw [← hx]
   simp
  ·rw [if_neg h1] at hx
   have := h.old k x hk hx
   omega
 ·have := cnt_set hil (some (nx, r, c, zs))
  rw [hi.2.1] at this
  simp at this
  have := h.num
  simp
  omega
 ·intro e he
  rcases List.mem_append.1 he with he | he
  ·obtain ⟨k, x, hk, hx, h1, h2⟩ := h.has e he
   refine ⟨k, x, hk, ?_, h1, h2⟩
   rw [hg, if_neg (fun e => by rw [e, hi.2.1] at hx; cases hx)]
   exact hx
  ·rw [List.mem_singleton] at he
   exact ⟨i, (nx, r, c, zs), hi.1, by rw [hg, if_pos rfl], by rw [he], by rw [he]⟩
 ·intro k x hk hx
  rw [hg] at hx
  by_cases h1 : k = i
  ·rw [if_pos h1] at hx
   injection hx with hx
   exact ⟨(nx, matT r c zs, p), by simp, by rw [← hx]⟩
  ·rw [if_neg h1] at hx
   obtain ⟨e, he, h2⟩ := h.all k x hk hx
   exact ⟨e, by simp [he], h2⟩
 ·rw [List.map_append, List.nodup_append]
  refine ⟨h.nodup, by simp, fun a ha b hb => ?_⟩
  obtain ⟨e, he, rfl⟩ := List.mem_map.1 ha
  simp at hb
  obtain ⟨k, x, hk, hx, h1, -⟩ := h.has e he
  have := h.old k x hk hx
  omega
theorem Rel.pop {es : List Ent} {ms : List Hm} {nx : Nat} (h : Rel es ms nx) {at_ k : Nat} {x : Nat × Nat × Nat × List Int} (ha : at_ < es.length) (hk : k < 24) (hx : ms.getD k none = some x) (he : es[at_].1 = x.1) : Rel (es.take at_ ++ es.drop (at_ + 1)) (ms.set k none) nx := by
 have hkl : k < ms.length := by rw [h.len]; exact hk
 have hg : ∀ j, (ms.set k none).getD j none = if j = k then none else ms.getD j none := fun j => hm_set hkl
 have hsplit : es = es.take at_ ++ es[at_] :: es.drop (at_ + 1) := by rw [← List.drop_eq_getElem_cons ha, List.take_append_drop]
 have hnd : ∀ e ∈ es.take at_ ++ es.drop (at_ + 1), e ∈ es ∧ e.1 ≠ x.1 := by
  intro e hm
  have hmem : e ∈ es := by
   rcases List.mem_append.1 hm with hm | hm
   ·exact List.mem_of_mem_take hm
   ·exact List.mem_of_mem_drop hm
  refine ⟨hmem, fun heq => ?_⟩
  have hn := h.nodup
  rw [hsplit, List.map_append, List.map_cons, List.nodup_append] at hn
  obtain ⟨-, h2, h3⟩ := hn
  rw [List.nodup_cons] at h2
  rcases List.mem_append.1 hm with hm | hm
  ·exact h3 e.1 (List.mem_map.2 ⟨e, hm, rfl⟩) es[at_].1 (by simp) (by rw [heq, he])
  ·exact h2.1 (List.mem_map.2 ⟨e, hm, by rw [heq, he]⟩)
 refine ⟨?_, by simp [h.len], ?_, ?_, ?_, ?_, ?_⟩
 ·intro a b y z ha' hb hy hz hyz
  rw [hg] at hy hz
  by_cases h1 : a = k
  ·rw [if_pos h1] at hy; cases hy
  ·by_cases h2 : b = k
   ·rw [if_pos h2] at hz; cases hz
   ·rw [if_neg h1] at hy
    rw [if_neg h2] at hz
    exact h.dst a b y z ha' hb hy hz hyz
 ·intro j y hj hy
  rw [hg] at hy
  by_cases h1 : j = k
  ·rw [if_pos h1] at hy; cases hy
  ·rw [if_neg h1] at hy
   exact h.old j y hj hy
 ·have h1 := cnt_set hkl none
  rw [hx] at h1
  simp at h1
  have h2 := h.num
  rw [List.length_append, List.length_take, List.length_drop]
  omega
 ·intro e hm
  obtain ⟨h1, h2⟩ := hnd e hm
  obtain ⟨j, y, hj, hy, h3, h4⟩ := h.has e h1
  refine ⟨j, y, hj, ?_, h3, h4⟩
  rw [hg, if_neg (fun e' => ?_)]
  ·exact hy
  ·rw [e', hx] at hy
   injection hy with hy
   rw [hy] at h2
   exact h2 h3.symm
 ·intro j y hj hy
  rw [hg] at hy
  by_cases h1 : j = k
  ·rw [if_pos h1] at hy; cases hy
  ·rw [if_neg h1] at hy
   obtain ⟨e, hm, h2⟩ := h.all j y hj hy
   refine ⟨e, ?_, h2⟩
   rw [hsplit] at hm
   rcases List.mem_append.1 hm with hm | hm
   ·exact List.mem_append.2 (.inl hm)
   ·rcases List.mem_cons.1 hm with hm | hm
    ·exfalso
     refine h1 (h.dst j k y x hj hk hy hx ?_)
     rw [← h2, hm, he]
    ·exact List.mem_append.2 (.inr hm)
 ·have hn := h.nodup
  rw [hsplit, List.map_append, List.map_cons, List.nodup_append] at hn
  obtain ⟨h1, h2, h3⟩ := hn
  rw [List.nodup_cons] at h2
  rw [List.map_append, List.nodup_append]
  exact ⟨h1, h2.2, fun a ha' b hb => h3 a ha' b (List.mem_cons_of_mem _ hb)⟩
def Vl (W : Nat) (iv lv tv : Value) (b1 b2 : Nat) : Nat → Prop := fun q => S4 W iv lv tv q ∨ (q = b1 ∨ q = b2)
def Vh (W : Nat) (hv iv lv tv : Value) (b1 b2 : Nat) : Nat → Prop := fun q => Vl W iv lv tv b1 b2 q ∨ hv.ownBlock = some q
def LRows (B : Nat) (w : World) (W T b1 b2 nx : Nat) (es : List Ent) : Prop := ∃ hv iv lv tv, Lw w W T hv iv lv tv nx ∧ RowG w 3 iv (idc es) ∧ RowG w 164 lv (lpc es) ∧ RowG w 9 tv (txc es) ∧ (∀ k, S4 W iv lv tv k → B ≤ k) ∧ Mats w es (Vh W hv iv lv tv b1 b2) ∧ ∃ ls, Hs w hv ls (Vl W iv lv tv b1 b2) ∧ ls.length ≤ nx ∧ ∀ g, hv.ownBlock = some g → B ≤ g
theorem LRows.below {B : Nat} {w w' : World} {W T b1 b2 nx : Nat} {es : List Ent} (h : LRows B w W T b1 b2 nx es) (hb : Below w.heap.size w w') : LRows B w' W T b1 b2 nx es := by
 obtain ⟨hv, iv, lv, tv, h2, h3, h4, h5, h6, h7, ls, h8, h9⟩ := h
 exact ⟨hv, iv, lv, tv, h2.of_block (hb.block W h2.lt), h3.below hb, h4.below hb, h5.below hb, h6, h7.below hb, ls, h8.below hb, h9⟩
def LInv (B : Nat) (w : World) (W T b1 b2 : Nat) (ms : List Hm) (nx : Nat) (es : List Ent) : Prop := TwH B w T b1 b2 ms nx ∧ LRows B w W T b1 b2 nx es ∧ Rel es ms nx
theorem LInv.below {B : Nat} {w w' : World} {W T b1 b2 : Nat} {ms : List Hm} {nx : Nat} {es : List Ent} (h : LInv B w W T b1 b2 ms nx es) (hb : Below w.heap.size w w') : LInv B w' W T b1 b2 ms nx es := ⟨h.1.below hb, h.2.1.below hb, h.2.2⟩
theorem LInv.le24 {B : Nat} {w : World} {W T b1 b2 : Nat} {ms : List Hm} {nx : Nat} {es : List Ent} (h : LInv B w W T b1 b2 ms nx es) : es.length ≤ 24 := by
 have := cnt_le ms
 have h1 := h.2.2.num
 have h2 := h.2.2.len
 omega
set_option maxRecDepth 100000 in
set_option maxHeartbeats 1000000 in
theorem full_raw (W T nx n : Nat) (hv iv lv tv : Value) (es : List Ent) (w : World) (hn5 : n ≤ 5) (h2 : Lw w W T hv iv lv tv nx) (h3 : RowG w 3 iv (idc es)) (hle : es.length ≤ 24) :
 Calls Tryz.prog 151 #[.pointer (some ⟨W, 0, none⟩), .int .i64 n] w fun x w' => x = .returned (.bool (decide (24 < es.length + n))) ∧ w' = w := by
 obtain ⟨ioa, icap, rfl, h4, h5, -⟩ := h3.shape
 rw [idc_len] at h2 h4
 obtain ⟨-, c1, -⟩ := h2.cells
 clear h2 h3
 go_enter Tryz.func151, Tryz.ntmps151
 go_wp2_with fail
 go_ret
 exact ⟨ret_bool (by rw [decide_eq_decide]; omega), rfl⟩
end Go.Proofs.YtfjbijpagaipnabGreatDoor
