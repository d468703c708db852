import Derived.Test.YtjhcbenldfplcaaGreatDoorC41
import Derived.BigQuiet
import Derived.Deep.CutRange
import Derived.Deep.RegionWith
import Derived.Deep.RegionLaw
/- matriceslaw.World: held, for one handle. -/
namespace Go.Proofs.YtjhcbenldfplcaaGreatDoor
open Go.RowKit R

/-- What held leaves behind. -/
def HOut (w : World) (W T : Nat) (iv lv tv : Value) (nx : Nat) (es : List Ent) (t : List UInt8) (r c : Nat) (f : Nat → Nat → Int) (ov : Value) (w' : World) : Prop := ∃ p gs iv' lv' tv' og ocap, ov = .slice (some ⟨og, 0, none⟩) 1 ocap ∧ 1 ≤ ocap ∧ ocap ≤ 9223372036854775807 ∧ w'.cell? ⟨og, 0, none⟩ = some (.pointer (some ⟨p, 0, none⟩)) ∧ Lw w' W T iv' lv' tv' (nx + 1) ∧
  RowG w' 3 iv' (idc (es ++ [(nx, t, p)])) ∧ RowG w' 62 lv' (lpc (es ++ [(nx, t, p)])) ∧ RowG w' 9 tv' (txc (es ++ [(nx, t, p)])) ∧
  ((∀ g, iv'.ownBlock = some g → iv.ownBlock = some g ∨ w.heap.size ≤ g) ∧ (∀ g, lv'.ownBlock = some g → lv.ownBlock = some g ∨ w.heap.size ≤ g) ∧ (∀ g, tv'.ownBlock = some g → tv.ownBlock = some g ∨ w.heap.size ≤ g)) ∧
  IsR w.heap.size w' p r c gs f 19001 ∧ Chg (S4 W iv lv tv) w w'

set_option maxRecDepth 100000 in
set_option maxHeartbeats 4000000 in
theorem held_one (B W T b1 b2 g k r c nx : Nat) (iv lv tv : Value) (ms : List Hm) (es : List Ent) (zs : List Int) (w : World) (hTw : TwH B w T b1 b2 ms (nx + 1)) (hL : Lw w W T iv lv tv nx) (hI : RowG w 3 iv (idc es)) (hP : RowG w 62 lv (lpc es)) (hX : RowG w 9 tv (txc es)) (hnx : nx ≤ 1000000)
    (hk : k < 24) (hm : ms.getD k none = some (nx, r, c, zs)) (hd : Dst ms) (hf : FitsP r c zs) (hz : zs.length = r * c) (hes : es.length ≤ 24) (hg : w.heap[g]? = some (.cells #[.int .i64 nx] 3 (0, 0))) (hgi : iv.ownBlock ≠ some g) :
    Calls Tryz.prog 33 #[.pointer (some ⟨W, 0, none⟩), .slice (some ⟨g, 0, none⟩) 1 1, .int .i64 1] w fun x w' => ∃ ov, x = .returned ov ∧ HOut w W T iv lv tv nx es (matT r c zs) r c (fun i j => zs.getD (i * c + j) 0) ov w' := by
  obtain ⟨ioa, icap, rfl, -⟩ := hI.shape
  obtain ⟨loa, lcap, rfl, -⟩ := hP.shape
  obtain ⟨toa, tcap, rfl, -⟩ := hX.shape
  rw [idc_len] at hL hI hgi ⊢
  rw [lpc_len] at hL hP ⊢
  rw [txc_len] at hL hX ⊢
  obtain ⟨ii, hii, hii0, hii1, hii2⟩ := info_parts Tryz.infoI
  obtain ⟨ip, hip, hip0, hip1, hip2⟩ := info_parts Tryz.infoP
  obtain ⟨is_, his, his0, his1, his2⟩ := info_parts Tryz.infoS
  have HII := Hid.mk (And.intro hii (And.intro hii0 (And.intro hii1 hii2)))
  have HIP := Hid.mk (And.intro hip (And.intro hip0 (And.intro hip1 hip2)))
  have HIS := Hid.mk (And.intro his (And.intro his0 (And.intro his1 his2)))
  clear hii hii0 hii1 hii2 hip hip0 hip1 hip2 his his0 his1 his2
  have H := Hid.mk (And.intro hTw (And.intro hL (And.intro hI (And.intro hP hX))))
  have HM := Hid.mk (And.intro hm (And.intro hd (And.intro hf hz)))
  have HG := Hid.mk hg
  clear hTw hL hI hP hX hm hd hf hz hg
  have in_ : ((nx : Int) == (nx : Int)) = true := by simp
  go_enter Tryz.func33, Tryz.ntmps33
  go_wp2_with fail
  go_loopw [7, 8] (fun out i wr => (i = .int .i64 0 ∧ out = .slice none 0 0 ∧ wr = w) ∨ (i = .int .i64 1 ∧ HOut w W T (.slice ioa es.length icap) (.slice loa es.length lcap) (.slice toa es.length tcap) nx es (matT r c zs) r c (fun i j => zs.getD (i * c + j) 0) out wr)) (fun _ i _ => 1 - (intOf i).toNat)
  case atStart => exact .inl ⟨rfl, rfl, rfl⟩
  case round =>
    rcases hrel with ⟨rfl, rfl, rfl⟩ | ⟨rfl, hout⟩
    · obtain ⟨c0, c1, c2, c3, c4, c5, c6⟩ := H.out.2.1.cells
      have g0 : wr.cell? ⟨g, 0, none⟩ = some (.int .i64 nx) := by have := HG.out; simp [World.cell?, this]
      go_wp2_with fail
      go_quiet (fail)
      have HSH : Hid (ShowOut ms (nx : Int) (matT r c zs) 0) := Hid.mk (.inl ⟨rfl, k, _, hk, HM.out.1, rfl, rfl⟩)
      go_upto_region 9 with fail
      go_cut [9, 10] from 36 to 47 (fun tt e wx => tt = .string ⟨(matT r c zs).toArray⟩ ∧ e = .int .i64 0 ∧ Below wr.heap.size wr wx)
      case first =>
        go_region_with (go_at_call 26; go_must (refine (twShow_any B T b1 b2 nx ms (nx + 1) _ (H.out.1.below ((below_drewN (Below.refl _ _) _).drew))).mono ?_; rintro x w1 ⟨tt, e, rfl, hs, hb⟩; obtain ⟨rfl, rfl⟩ := show_uniq HM.out.2.1 hs HSH.out))
        all_goals
          go_wp2_with fail
          go_meet
          case rel => exact ⟨rfl, rfl, ((below_drewN (Below.refl _ _) _).drew).trans hb⟩
      case rest =>
        obtain ⟨rfl, rfl, hbc⟩ := hcut
        obtain ⟨ST, hST⟩ : ∃ ST : ByteArray, ST = ⟨(matT r c zs).toArray⟩ := ⟨_, rfl⟩
        have hwm := writes_matT HM.out.2.2.1 HM.out.2.2.2
        have hSTs : ST.size ≤ 4000 := by rw [hST]; show (matT r c zs).toArray.size ≤ 4000; simpa using hwm.2
        have HST := Hid.mk (And.intro hST hwm.1)
        have HBC := Hid.mk hbc
        have hwc := hbc.size
        rw [← hST]
        clear hST hwm hbc c0 c1 c2 c3 c4 c5 c6 g0
        go_wp2_with fail
        refine (read_yes ST r c zs 4000 _ (by omega) (by have := HM.out.2.2.1.1; omega) (by have := HM.out.2.2.1.2.1; omega) (by rw [HST.out.1]; exact HST.out.2)).mono ?_
        rintro x w2 ⟨p, gs, rfl, hIR, hb2⟩
        have hb02 : Below wr.heap.size wr w2 := HBC.out.trans (hb2.mono hwc)
        replace hIR := hIR.low hwc
        have hw2 := hb02.size
        have hTw2 := H.out.1.below hb02
        have hL2 := H.out.2.1.of_block (hb02.block W H.out.2.1.lt)
        have hI2 := H.out.2.2.1.below hb02
        have hP2 := H.out.2.2.2.1.below hb02
        have hX2 := H.out.2.2.2.2.below hb02
        obtain ⟨c0, c1, c2, c3, c4, c5, c6⟩ := hL2.cells
        have HI2 := Hid.mk (And.intro hIR (And.intro hb02 (And.intro hL2 (And.intro hI2 (And.intro hP2 hX2)))))
        clear hIR hb2 hTw2 hL2 hI2 hP2 hX2 hb02
        go_upto_region 13 with fail
        go_cut [] from 56 to 68 (fun wx => ∃ iv', Lw wx W T iv' (.slice loa es.length lcap) (.slice toa es.length tcap) nx ∧ RowG wx 3 iv' (idc es ++ [Value.int .i64 (nx : Nat)]) ∧ Chg (fun k => k = W ∨ (Value.slice ioa es.length icap).ownBlock = some k) w2 wx ∧ (∀ g, iv'.ownBlock = some g → (Value.slice ioa es.length icap).ownBlock = some g ∨ w2.heap.size ≤ g))
        case first =>
          have d1 := rcell1 c1
          have d4 := rcell1 c4
          obtain ⟨X, hX⟩ : ∃ X, X = ((w2.alloc (.cells #[.int .i64 nx] 3)).drew) := ⟨_, rfl⟩
          have hBX : Below w2.heap.size w2 X := by rw [hX]; exact ((Below.refl _ _).alloc (Nat.le_refl _) _).drew
          have s1 : RowG ((w2.alloc (.cells #[.int .i64 nx] 3)).drew) 3 (.slice ioa es.length icap) (idc es) := by rw [← hX]; exact HI2.out.2.2.2.1.below hBX
          have s2 : ((w2.alloc (.cells #[.int .i64 nx] 3)).drew).cell? (Addr.add ⟨w2.heap.size, 0, none⟩ 0) = some (.int .i64 (nx : Nat)) := by simp [Addr.add]
          have s3 : (idc es).length + 1 ≤ 25 := by rw [idc_len]; omega
          have SS := Hid.mk (And.intro s1 (And.intro s2 (And.intro s3 (And.intro hX hBX))))
          clear s1 s2 s3 hX hBX
          go_region_law (refine step_append_row rfl (.tmp 60) (.tmp 65) 25 rfl 3 ii (.int .i64 0) 8 Tryz.underlying25 HII.out.1 HII.out.2.1 HII.out.2.2.1 HII.out.2.2.2 rfl (.slice ioa es.length icap) (idc es) rfl SS.out.1 ⟨w2.heap.size, 0, none⟩ (.int .i64 (nx : Nat)) rfl SS.out.2.1 rfl (Nat.le_trans SS.out.2.2.1 (by decide)) (Nat.le_trans (Nat.mul_le_mul_right _ SS.out.2.2.1) (by decide)) ?_; intro v' w' hA; obtain ⟨voa, vcap, hve, -⟩ := hA.1.shape; obtain ⟨vm, hvm⟩ : ∃ vm, vm = (idc es ++ [Value.int .i64 (nx : Nat)]).length := ⟨_, rfl⟩; rw [← hvm] at hve; clear hvm; subst hve; rw [← SS.out.2.2.2.1] at hA; have HA := Hid.mk (And.intro hA (app_row (j := 1) HI2.out.2.2.1.ty SS.out.2.2.2.2 HI2.out.2.2.2.1 hA (by decide))); have HLW := HI2.out.2.2.1.of_block HA.out.2.2.2.1; obtain ⟨-, m1, -, -, -, -, m7⟩ := HLW.cells; clear hA)
          all_goals
            go_wp2_with fail
            go_meet
            case rel =>
              refine ⟨_, ?_, ?_, ?_, HA.out.2.2.2.2⟩
              · exact (lw_set HLW _).1
              · exact HA.out.2.1
              · exact HA.out.2.2.1
        case rest =>
          obtain ⟨iv', hL3, hI3, hC3, hO3⟩ := hcut
          have hP3 := HI2.out.2.2.2.2.1.keepRow HI2.out.2.2.2.1 HI2.out.2.2.1.ty (by decide) (by decide) hC3
          have hX3 := HI2.out.2.2.2.2.2.keepRow HI2.out.2.2.2.1 HI2.out.2.2.1.ty (by decide) (by decide) hC3
          have hwc3 := hC3.size
          obtain ⟨m0, m1, m2, m3, m4, m5, m6⟩ := hL3.cells
          have K3 := Hid.mk (And.intro hL3 (And.intro hI3 (And.intro hP3 (And.intro hX3 (And.intro hC3 hO3)))))
          clear hL3 hI3 hP3 hX3 hC3 hO3 c0 c1 c2 c3 c4 c5 c6
          go_wp2_with (at_builtin; refine wpList_append_row _ rfl _ _ _ rfl 62 ip (.pointer none) 8 Tryz.underlying32 HIP.out.1 HIP.out.2.1 HIP.out.2.2.1 HIP.out.2.2.2 rfl (.slice loa es.length lcap) (lpc es) rfl ?_ ⟨_, 0, none⟩ (.pointer (some ⟨p, 0, none⟩)) rfl ?_ rfl ?_ ?_ ?_)
          · exact K3.out.2.2.1.below ((Below.refl _ _).alloc (Nat.le_refl _) _)
          · simp [Addr.add]
          · rw [lpc_len]; unfold maxLen; omega
          · rw [lpc_len]; omega
          intro v4 w4 hA4
          obtain ⟨voa, vcap, hve, -⟩ := hA4.1.shape
          obtain ⟨vm, hvm⟩ : ∃ vm, vm = (lpc es ++ [Value.pointer (some ⟨p, 0, none⟩)]).length := ⟨_, rfl⟩
          rw [← hvm] at hve
          clear hvm
          subst hve
          obtain ⟨r1, r2, r3, r4⟩ := app_row (j := 2) K3.out.1.ty ((Below.refl _ _).alloc (Nat.le_refl _) _) K3.out.2.2.1 hA4 (by decide)
          have hL4 := K3.out.1.of_block r3
          have hI4 := K3.out.2.1.keepRow K3.out.2.2.1 K3.out.1.ty (by decide) (by decide) r2
          have hX4 := K3.out.2.2.2.1.keepRow K3.out.2.2.1 K3.out.1.ty (by decide) (by decide) r2
          clear m0 m1 m2 m3 m4 m5 m6
          obtain ⟨m0, m1, m2, m3, m4, m5, m6⟩ := hL4.cells
          have n6 := m6 2
          have hw4 : wc.heap.size ≤ w4.heap.size := by have := r2.size; simpa using this
          obtain ⟨Y4, hY4⟩ : ∃ Y4, Y4 = w4.setCell ⟨W, 2, none⟩ (.slice voa vm vcap) := ⟨_, rfl⟩
          have K4 := Hid.mk (And.intro (lw_set hL4 (.slice voa vm vcap)).2.1 (And.intro hI4 (And.intro r1 (And.intro hX4 (And.intro r2 r4)))))
          rw [← hY4] at K4
          have HY4 := Hid.mk hY4
          have hs4 : Y4.heap.size = w4.heap.size := by rw [hY4]; simp [World.setCell]
          clear hA4 r1 r2 r3 r4 hL4 hI4 hX4 m6 hY4
          go_wp2_with (at_builtin; rw [← HY4.out]; refine wpList_append_row _ rfl _ _ _ rfl 9 is_ (.string ⟨#[]⟩) 16 Tryz.underlying33 HIS.out.1 HIS.out.2.1 HIS.out.2.2.1 HIS.out.2.2.2 rfl (.slice toa es.length tcap) (txc es) rfl ?_ ⟨_, 0, none⟩ (.string ST) rfl ?_ rfl ?_ ?_ ?_)
          · exact K4.out.2.2.2.1.below ((Below.refl _ _).alloc (Nat.le_refl _) _)
          · first
              | (simp [Addr.add]; done)
              | (rw [← hs4]; simp [Addr.add])
          · rw [txc_len]; unfold maxLen; omega
          · rw [txc_len]; omega
          intro v5 w5 hA5
          obtain ⟨toa5, tcap5, hte, -⟩ := hA5.1.shape
          obtain ⟨tm, htm⟩ : ∃ tm, tm = (txc es ++ [Value.string ST]).length := ⟨_, rfl⟩
          rw [← htm] at hte
          clear htm
          subst hte
          obtain ⟨r1, r2, r3, r4⟩ := app_row (j := 3) K4.out.1.ty ((Below.refl _ _).alloc (Nat.le_refl _) _) K4.out.2.2.2.1 hA5 (by decide)
          have hL5 := K4.out.1.of_block r3
          have hI5 := K4.out.2.1.keepRow K4.out.2.2.2.1 K4.out.1.ty (by decide) (by decide) r2
          have hP5 := K4.out.2.2.1.keepRow K4.out.2.2.2.1 K4.out.1.ty (by decide) (by decide) r2
          clear m0 m1 m2 m3 m4 m5 n6
          obtain ⟨m0, m1, m2, m3, m4, m5, m6⟩ := hL5.cells
          have n6 := m6 3
          have n7 := m6 4
          have hw5 : Y4.heap.size ≤ w5.heap.size := by have := r2.size; simpa [World.setCell] using this
          have K5 := Hid.mk (And.intro (lw_set hL5 (.slice toa5 tm tcap5)).2.2 (And.intro hI5 (And.intro hP5 (And.intro r1 (And.intro r2 r4)))))
          clear hA5 r1 r2 r3 r4 hL5 hI5 hP5 m6
          go_wp2_with (at_builtin; refine wpList_append_row _ rfl _ _ _ rfl 62 ip (.pointer none) 8 Tryz.underlying32 HIP.out.1 HIP.out.2.1 HIP.out.2.2.1 HIP.out.2.2.2 rfl (.slice none 0 0) [] rfl (RowG.nil _ _) ⟨_, 0, none⟩ (.pointer (some ⟨p, 0, none⟩)) rfl ?_ rfl ?_ ?_ ?_)
          · rw [show Addr.add ⟨w5.heap.size, 0, none⟩ 0 = ⟨w5.heap.size, 0, none⟩ from by simp [Addr.add]]
            exact ncell _ _ _ _ _ (by simp [World.setCell]) rfl
          · simp [maxLen]
          · decide
          intro v6 w6 hA6
          have HFIN : Hid (HOut wr W T (.slice ioa es.length icap) (.slice loa es.length lcap) (.slice toa es.length tcap) nx es (matT r c zs) r c (fun i j => zs.getD (i * c + j) 0) v6 w6) := Hid.mk (by
            obtain ⟨l5, i5, p5, x5, ch5, o5⟩ := K5.out
            obtain ⟨-, -, -, -, ch4, o4⟩ := K4.out
            obtain ⟨-, -, -, -, ch3, o3⟩ := K3.out
            obtain ⟨hIR, hb02, hL2, hI2, hP2, hX2⟩ := HI2.out
            have lY := lw_next l5 (z := (nx : Int) + 1) (n := nx + 1) (by omega)
            have iY := i5.setW (o := 4) l5.ty (by decide) (.int .i64 ((nx : Int) + 1))
            have pY := p5.setW (o := 4) l5.ty (by decide) (.int .i64 ((nx : Int) + 1))
            have xY := x5.setW (o := 4) l5.ty (by decide) (.int .i64 ((nx : Int) + 1))
            have cY : Chg (S4 W (.slice ioa es.length icap) (.slice loa es.length lcap) (.slice toa es.length tcap)) _ _ := Chg.setW (o := 4) l5.ty (by decide) (by decide) (.inl rfl) (.int .i64 ((nx : Int) + 1))
            have hsY : ((w5.setCell ⟨W, 3, none⟩ (.slice toa5 tm tcap5)).setCell ⟨W, 4, none⟩ (.int .i64 ((nx : Int) + 1))).heap.size = w5.heap.size := by simp [World.setCell]
            obtain ⟨r6, g6, o6⟩ := hA6
            have hb6 : Below ((w5.setCell ⟨W, 3, none⟩ (.slice toa5 tm tcap5)).setCell ⟨W, 4, none⟩ (.int .i64 ((nx : Int) + 1))).heap.size ((w5.setCell ⟨W, 3, none⟩ (.slice toa5 tm tcap5)).setCell ⟨W, 4, none⟩ (.int .i64 ((nx : Int) + 1))) w6 := ((Below.refl _ _).alloc (Nat.le_refl _) _).grown g6 (by simp) (fun j hj => by simp [Value.ownBlock] at hj)
            have s3 : ∀ k, (k = W ∨ (Value.slice ioa es.length icap).ownBlock = some k) → S4 W (.slice ioa es.length icap) (.slice loa es.length lcap) (.slice toa es.length tcap) k := fun k h => h.elim .inl (fun h => .inr (.inl h))
            have s4 : ∀ k, (k = W ∨ (Value.slice loa es.length lcap).ownBlock = some k) → S4 W (.slice ioa es.length icap) (.slice loa es.length lcap) (.slice toa es.length tcap) k := fun k h => h.elim .inl (fun h => .inr (.inr (.inl h)))
            have s5 : ∀ k, (k = W ∨ (Value.slice toa es.length tcap).ownBlock = some k) → S4 W (.slice ioa es.length icap) (.slice loa es.length lcap) (.slice toa es.length tcap) k := fun k h => h.elim .inl (fun h => .inr (.inr (.inr h)))
            have c26 : Chg (S4 W (.slice ioa es.length icap) (.slice loa es.length lcap) (.slice toa es.length tcap)) w2 w6 := ((((ch3.mono s3).trans (ch4.mono s4)).trans (ch5.mono s5)).trans cY).trans (Chg.of_below hb6)
            have hlt : ∀ k, S4 W (.slice ioa es.length icap) (.slice loa es.length lcap) (.slice toa es.length tcap) k → k < wr.heap.size := fun k h => by
              rcases h with h | h | h | h
              · rw [h]; exact H.out.2.1.lt
              · exact (H.out.2.2.1.own k h).1
              · exact (H.out.2.2.2.1.own k h).1
              · exact (H.out.2.2.2.2.own k h).1
            obtain ⟨x1, x2, x3⟩ := ent_snoc es (nx, matT r c zs, p)
            rw [HST.out.1] at xY
            rcases id r6 with ⟨-, hbad⟩ | ⟨og, ocap, cur, hov, hoc, h7, h8, h9, h10⟩
            · simp at hbad
            · refine ⟨p, gs, iv', .slice voa vm vcap, .slice toa5 tm tcap5, og, ocap, by simpa using hov, by simpa using h7, by simpa [maxLen] using h9, ?_, lY.of_block (hb6.block W lY.lt), ?_, ?_, ?_, ⟨fun g hg => ?_, fun g hg => ?_, fun g hg => ?_⟩, isR_up hIR (c26.up hlt), (Chg.of_below hb02).trans c26⟩
              · have := h10 0 (by simp)
                simp at this
                simp only [World.cell?, hoc]
                exact this
              · rw [← x1]; exact iY.below hb6
              · rw [← x2]; exact pY.below hb6
              · rw [← x3]; exact xY.below hb6
              · rcases o3 g hg with h | h
                · exact .inl h
                · exact .inr (by omega)
              · rcases o4 g hg with h | h
                · exact .inl h
                · exact .inr (by omega)
              · rcases o5 g hg with h | h
                · exact .inl h
                · exact .inr (by omega))
          obtain ⟨voa6, vcap6, hve6, -⟩ := hA6.1.shape
          obtain ⟨vm6, hvm6⟩ : ∃ vm6, vm6 = (([] : List Value) ++ [Value.pointer (some ⟨p, 0, none⟩)]).length := ⟨_, rfl⟩
          rw [← hvm6] at hve6
          clear hvm6 hA6
          subst hve6
          go_wp2_with fail
          go_roundw
          case measure => simp [intOf]
          case rel => exact .inr ⟨by go_num, HFIN.out⟩
    · have HO := Hid.mk hout
      clear hout
      go_wp2_with fail
      go_ret
      exact ⟨_, rfl, HO.out⟩
end Go.Proofs.YtjhcbenldfplcaaGreatDoor
