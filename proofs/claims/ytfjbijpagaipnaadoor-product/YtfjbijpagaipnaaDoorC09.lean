import Derived.Test.YtfjbijpagaipnaaDoorC06
import Derived.Test.YtfjbijpagaipnaaDoorC08
import Derived.Deep.CutRange
import Derived.Deep.LoopGhost
import Derived.Lib.ItoaLen
namespace Go.Proofs.YtfjbijpagaipnaaDoor
open Go.RowKit
theorem at_first (v : Value) (r c col : Nat) (zs : List Int) (L : Nat) (w : World) (hm : IsM w v r c zs L) (h1 : 0 < r) (h2 : col < c) :
    Calls Tryd.prog 60 #[v, .int .i64 0, .int .i64 col] w fun e w' => ∃ x, e = .returned x ∧ IntOut w w' x (zs.getD col 0) L := by
  have := at_in v r c 0 col zs L w hm h1 h2
  rw [Nat.zero_mul, Nat.zero_add] at this
  exact this
theorem Boxes.other {w : World} {b d r c p : Nat} {sl : Value} {nb : Bool} {s x y : Value} (h : Boxes w b d r c sl nb s) (h1 : p ≠ b) (h2 : p ≠ d) : Boxes ((w.setCell ⟨p, 0, none⟩ x).setCell ⟨p, 1, none⟩ y) b d r c sl nb s := by
  have o : ∀ i j : Nat, (⟨p, i, none⟩ : Addr) ≠ ⟨b, j, none⟩ := fun i j e => h1 (by injection e)
  have o2 : ∀ i j : Nat, (⟨p, i, none⟩ : Addr) ≠ ⟨d, j, none⟩ := fun i j e => h2 (by injection e)
  obtain ⟨a1, a2, a3, a4, a5, a6, a7⟩ := h
  refine ⟨?_, ?_, ?_, ?_, ?_, by simpa using a6, by simpa using a7⟩
  · rw [World.cell?_setCell_other _ _ _ _ (o _ _), World.cell?_setCell_other _ _ _ _ (o _ _)]; exact a1
  · rw [World.cell?_setCell_other _ _ _ _ (o _ _), World.cell?_setCell_other _ _ _ _ (o _ _)]; exact a2
  · rw [World.cell?_setCell_other _ _ _ _ (o _ _), World.cell?_setCell_other _ _ _ _ (o _ _)]; exact a3
  · rw [World.cell?_setCell_other _ _ _ _ (o2 _ _), World.cell?_setCell_other _ _ _ _ (o2 _ _)]; exact a4
  · rw [World.cell?_setCell_other _ _ _ _ (o2 _ _), World.cell?_setCell_other _ _ _ _ (o2 _ _)]; exact a5
def PartOut (w4 : World) (z : Int) (L : Nat) (p : Value) (wx : World) : Prop := ∃ (pb : Nat) (nq : Bool) (qo : Option Addr) (mq qcap : Nat), p = .pointer (some ⟨pb, 0, none⟩) ∧ w4.heap.size ≤ pb ∧ Duo wx pb (.bool nq) (.slice qo mq qcap) ∧ IsI wx (.agg #[.bool nq, .slice qo mq qcap]) z L ∧ Below w4.heap.size w4 wx
theorem PartOut.made {w4 w6 : World} {z : Int} {L : Nat} {nq : Bool} {qo : Option Addr} {mq qcap : Nat} (hq : IsI w6 (.agg #[.bool nq, .slice qo mq qcap]) z L) (hb : Below w4.heap.size w4 w6) :
    PartOut w4 z L (.pointer (some ⟨w6.heap.size, 0, none⟩)) (w6.alloc (.cells #[.bool nq, .slice qo mq qcap] 78)) :=
  ⟨_, nq, qo, mq, qcap, rfl, hb.size, Duo.new _ _ _ rfl, hq.below ((Below.refl _ _).alloc (Nat.le_refl _) _), hb.alloc hb.size _⟩
theorem PartOut.stored {w4 w6 : World} {z : Int} {L b : Nat} {nq : Bool} {qo : Option Addr} {mq qcap : Nat} {x y : Value} (ht : Duo w6 b x y) (hle : w4.heap.size ≤ b) (hq : IsI w6 (.agg #[.bool nq, .slice qo mq qcap]) z L) (hb : Below w4.heap.size w4 w6) :
    PartOut w4 z L (.pointer (some ⟨b, 0, none⟩)) ((w6.setCell ⟨b, 0, none⟩ (.bool nq)).setCell ⟨b, 1, none⟩ (.slice qo mq qcap)) :=
  ⟨_, nq, qo, mq, qcap, rfl, hle, ht.put _ _, hq.keep (KU.setCell (KU.setCell (KU.refl _) ht.ty (by decide) _) (ht.ty.setCell _ _) (by decide) _), (hb.setCell hle _).setCell hle _⟩
theorem sum_next {n k : Nat} {f : Nat → Nat → Int} {S : Int} (h : S = sumF k fun c => signed c (f 0 c * detF n fun i j => f (i + 1) (skip c j))) :
    S + signed k (f 0 k * detF n fun i j => f (i + 1) (skip k j)) = sumF (k + 1) fun c => signed c (f 0 c * detF n fun i j => f (i + 1) (skip c j)) := by rw [sumF, h]
set_option maxRecDepth 100000 in
set_option maxHeartbeats 4000000 in
theorem det_succ (n : Nat) (ih : DetSaid n) : DetSaid (n + 1) := by
  intro v zs f L w hm hrep hl hL
  have HIH := Hid.mk ih
  have HREP := Hid.mk hrep
  have HLD := Hid.mk hl
  have HM := Hid.mk hm
  clear ih hrep hl
  obtain ⟨hr, _, sl, rfl, hg0⟩ := hm
  obtain ⟨ao, cap, rfl, -⟩ := hg0.shape
  clear hg0
  obtain ⟨R, hR⟩ : ∃ R, R = n + 1 := ⟨_, rfl⟩
  obtain ⟨N, hN⟩ : ∃ N, N = (n + 1) * (n + 1) := ⟨_, rfl⟩
  rw [← hN] at HM ⊢
  rw [← hR] at HM hr ⊢
  have HR := Hid.mk hR
  have hR0 : 0 < R := by omega
  have hne : ((R : Int) == 0) = false := beq_eq_false_iff_ne.2 (by omega)
  clear hR hN
  go_enter Tryd.func38, Tryd.ntmps38
  go_wp2_with (go_at_call 37; refine (isSquare_raw _ _ _ _ _ _).mono ?_; rintro e w' ⟨rfl, rfl⟩)
  obtain ⟨W1, hW1⟩ : ∃ W1, W1 = (((w.alloc (.cells #[.int .i64 R, .int .i64 R, .slice ao N cap] 63)).alloc (.cells #[.bool false, .slice none 0 0] 78)).alloc (.cells #[.int .i64 R, .int .i64 R, .slice ao N cap] 63)).alloc (.cells #[.bool false, .slice none 0 0] 78) := ⟨_, rfl⟩
  rw [← hW1]
  have hB1 : Below w.heap.size w W1 := by
    rw [hW1]
    repeat (first | exact Below.refl _ _ | refine Below.alloc ?_ (by simp <;> omega) _)
  have hx1 : Boxes W1 w.heap.size (w.heap.size + 1 + 1 + 1) R R (.slice ao N cap) false (.slice none 0 0) := by
    rw [hW1]
    refine ⟨?_, ?_, ?_, ?_, ?_, ?_, ?_⟩
    · exact cell3 (by simp) _ _ _
    · exact cell3 (by simp) _ _ _
    · exact cell3 (by simp) _ _ _
    · exact new_cell _ _ _ _ _ (by simp) rfl
    · exact new_cell _ _ _ _ _ (by simp) rfl
    · exact new_frozen _ _ _ _ _ (by simp)
    · exact new_frozen _ _ _ _ _ (by simp)
  have hty1 : Ty W1 (w.heap.size + 1 + 1 + 1) 78 := by rw [hW1]; exact Ty.at_ _ _ _ (by simp)
  have hres : W1.heap[w.heap.size + 1]? = some (.cells #[.bool false, .slice none 0 0] 78 (0, 0)) := by
    rw [hW1, Below.heap_alloc _ _ _ (by simp), Below.heap_alloc _ _ _ (by simp)]
    have := heap_alloc_new (w.alloc (.cells #[.int .i64 R, .int .i64 R, .slice ao N cap] 63)) (.cells #[.bool false, .slice none 0 0] 78)
    simpa using this
  have hS : W1.heap.size = w.heap.size + 4 := by rw [hW1]; simp
  obtain ⟨sb, hsb⟩ : ∃ sb, sb = w.heap.size + 1 + 1 + 1 := ⟨_, rfl⟩
  rw [← hsb] at hx1 hty1 ⊢
  have hsb1 : w.heap.size + 3 ≤ sb := by omega
  have hsb2 : sb ≤ w.heap.size + 3 := by omega
  have FR := Hid.mk hres
  have HS := Hid.mk hS
  clear hW1 hres hS hsb
  go_loopg [4] R (fun gk i wr => ∃ (k : Nat) (S : Int) (nb : Bool) (bo : Option Addr) (m ecap : Nat), k ≤ R ∧ i = .int .i64 k ∧ Ty wr sb 78 ∧ Boxes wr w.heap.size sb R R (.slice ao N cap) nb (.slice bo m ecap) ∧ IsI wr (.agg #[.bool nb, .slice bo m ecap]) S (L + LD L n + k) ∧ W1.grownBy wr (some sb) ∧ Below w.heap.size w wr ∧
      Hid (gk = R - k ∧ S = sumF k fun c => signed c (f 0 c * detF n fun i j => f (i + 1) (skip c j))))
  case atStart => exact ⟨0, 0, _, _, _, _, Nat.zero_le _, rfl, hty1, hx1, IsI.zero _ _, World.grownBy.refl _ _, hB1, Hid.mk ⟨by omega, rfl⟩⟩
  case round =>
    clear hx1 hB1 hty1
    obtain ⟨k, S, nb, bo, m, ecap, hk, rfl, hty, hx, hI, hgr, hB, HSUM⟩ := hrel
    obtain ⟨m0, m1, m2, s0, s1, z0, z1⟩ := id hx
    have HX := Hid.mk hx
    have HTY := Hid.mk hty
    clear hty
    have HI := Hid.mk hI
    have HG := Hid.mk hgr
    have HB := Hid.mk hB
    clear hx hI hgr hB
    by_cases hkR : k < R
    · go_wp2_with fail
      refine (minor_any _ R R k zs L _ ((HR.out ▸ HM.out : IsM w _ R R zs L).below HB.out) (by omega) hkR).mono ?_
      rintro e w2 ⟨x, rfl, ⟨ms, hms, hmo⟩, hb2⟩
      have HTY2 := Hid.mk (HTY.out.below hb2 HTY.out.lt)
      have hrep2 : Rep n ms fun i j => f (i + 1) (skip k j) := HREP.out.minor (HR.out ▸ hmo)
      have hms2 : IsM w2 x n n ms L := by have := HR.out; subst this; exact hms
      obtain ⟨g1, g2, sl2, rfl, hg2⟩ := id hms2
      obtain ⟨co, dcap, rfl, -⟩ := hg2.shape
      have hx2 := HX.out.below hb2
      have hI2 := HI.out.below hb2
      have hgr2 := grown_below HG.out hb2
      have hB2 : Below w.heap.size w w2 := HB.out.trans (hb2.mono HB.out.size)
      clear m0 m1 m2 s0 s1 z0 z1 HX HI HG HB hg2 hms hmo hb2
      have H2 := Hid.mk (And.intro hms2 (And.intro hrep2 (And.intro hx2 (And.intro hI2 (And.intro hgr2 hB2)))))
      clear hms2 hrep2 hx2 hI2 hgr2 hB2
      go_wp2_with fail
      refine (HIH.out _ ms (fun i j => f (i + 1) (skip k j)) L _ (H2.out.1.below ((Below.refl _ _).alloc (Nat.le_refl _) _)) H2.out.2.1 (by have := HLD.out; have := LD_mono L n; omega) hL).mono ?_
      rintro e w4 ⟨rest, rfl, hrest, hb4⟩
      obtain ⟨nr, eo, me, fcap, rfl⟩ := hrest.shape
      have h24 : Below w2.heap.size w2 w4 := ((Below.refl w2.heap.size w2).alloc (Nat.le_refl _) _).trans (hb4.mono (by simp))
      obtain ⟨-, -, hx2, hI2, hgr2, hB2⟩ := H2.out
      have HTS := Hid.mk (HTY2.out.below h24 HTY2.out.lt)
      have hx4 := hx2.below h24
      have hI4 := hI2.below h24
      have hgr4 := grown_below hgr2 h24
      have hB4 : Below w.heap.size w w4 := hB2.trans (h24.mono hB2.size)
      have hM4 : IsM w4 (.agg #[.int .i64 R, .int .i64 R, .slice ao N cap]) R R zs L := (HR.out ▸ HM.out : IsM w _ R R zs L).below hB4
      obtain ⟨m0, m1, m2, s0, s1, z0, z1⟩ := id hx4
      have m0' := cell1 m0
      have m1' := cell1 m1
      have m2' := cell1 m2
      have hlt := hx4.lt
      have H4 := Hid.mk (And.intro hx4 (And.intro hI4 (And.intro hgr4 (And.intro hB4 (And.intro hM4 hrest)))))
      clear H2 hx2 hI2 hgr2 hB2 hx4 hI4 hgr4 hB4 hM4 hrest hb4 h24 m0 m1 m2 s0 s1 z0 z1
      obtain ⟨hlt1, hlt2⟩ := hlt
      go_upto_region 11 with fail
      go_cut [7] from 17 to 40 (fun p wx => PartOut w4 (zs.getD k 0 * detF n fun i j => f (i + 1) (skip k j)) (L + LD L n) p wx)
      case first =>
        go_region_with (first
          | (go_at_call 60; go_must (refine (at_first _ R R k zs L _ (H4.out.2.2.2.2.1.below (by repeat (first | exact Below.refl _ _ | refine Below.drew ?_ | refine Below.alloc ?_ (by simp <;> omega) _))) hR0 hkR).mono ?_; rintro e w5 ⟨y, rfl, hy, hb5⟩; obtain ⟨ny, fo, mf, gcap, rfl⟩ := hy.shape; obtain ⟨hc5, hf5⟩ := bcell hb5; have hsz5 : w4.heap.size < w5.heap.size := (by have := hb5.size; simp at this; omega); try (have TW5 := Hid.mk (Duo.below (Duo.drew (Duo.new (w4.alloc _) (.bool false) (.slice none 0 0) (b := w4.heap.size + 1) (by simp))) hb5 (by simp)); obtain ⟨a1, a2, a3, a4⟩ := TW5.out.cells; have l5 : w4.heap.size + 1 < w5.heap.size := TW5.out.ty.lt)))
          | (go_at_call 61; go_must (refine (mul_any _ _ _ _ L (LD L n) _ (hy.below (by repeat (first | exact Below.refl _ _ | refine Below.alloc ?_ (by first | omega | (simp <;> omega)) _))) (H4.out.2.2.2.2.2.below (by repeat (first | exact Below.refl _ _ | refine Below.trans ?_ (hb5.mono (by first | omega | (simp <;> omega))) | refine Below.drew ?_ | refine Below.alloc ?_ (by first | omega | (simp <;> omega)) _))) (by omega) (by have := HLD.out; have := LD_mono L n; omega)).mono ?_; rintro e w6 ⟨q, rfl, hq, hb6⟩; have HB46 : Hid (Below w4.heap.size w4 w6) := Hid.mk (Below.trans (by repeat (first | exact Below.refl _ _ | refine Below.trans ?_ (hb5.mono (by first | omega | (simp <;> omega))) | refine Below.drew ?_ | refine Below.alloc ?_ (by first | omega | (simp <;> omega)) _)) (hb6.mono (by first | omega | (simp <;> omega)))); obtain ⟨nq, qo, mq, qcap, rfl⟩ := hq.shape; obtain ⟨hc6, hf6⟩ := bcell hb6; have hsz6 := hb6.size; try (have TW := Hid.mk (Duo.below (Duo.new w5 (.bool false) (.slice none 0 0) rfl) hb6 (by simp)); obtain ⟨t1, t2, t3, t4⟩ := TW.out.cells); try (have TW := Hid.mk (TW5.out.below hb6 (by have := TW5.out.ty.lt; omega)); obtain ⟨t1, t2, t3, t4⟩ := TW.out.cells))))
        all_goals
          go_wp2_with fail
          go_meet
          case rel =>
            first
              | exact PartOut.made hq HB46.out
              | exact PartOut.stored TW.out (Nat.le_of_lt hsz5) hq HB46.out
              | exact PartOut.stored TW.out (Nat.le_succ _) hq HB46.out
              | exact PartOut.stored (TW5.out.below hb6 l5) (Nat.le_succ _) hq HB46.out
      case rest =>
        obtain ⟨pb, nq, qo, mq, qcap, rfl, hpb, hTwo, hq, hbc⟩ := hcut
        obtain ⟨hx4, hI4, hgr4, hB4, -, -⟩ := H4.out
        have hxC := hx4.below hbc
        have hIC := hI4.below hbc
        have hgC := grown_below hgr4 hbc
        have hBC : Below w.heap.size w wc := hB4.trans (hbc.mono hB4.size)
        have hTC : Ty wc sb 78 := HTS.out.below hbc HTS.out.lt
        have hf0 : zs.getD k 0 = f 0 k := by have := HREP.out 0 k (by omega) (by have := HR.out; omega); simpa using this
        have hltp : pb < wc.heap.size := hTwo.ty.lt
        rw [hf0] at hq
        clear H4 hx4 hI4 hgr4 hB4 hbc m0' m1' m2' hf0
        by_cases hodd : k % 2 = 1
        · have hod : ((k : Int) % 2 == 1) = true := beq_iff_eq.2 (by omega)
          have HZZ0 : Hid (-(f 0 k * detF n fun i j => f (i + 1) (skip k j)) = signed k (f 0 k * detF n fun i j => f (i + 1) (skip k j))) := Hid.mk (by unfold signed; rw [if_pos hodd])
          clear hodd
          have HC := Hid.mk (And.intro hxC (And.intro hIC (And.intro hgC (And.intro hBC (And.intro hTC (And.intro hTwo hq))))))
          obtain ⟨t1, t2, t3, t4⟩ := hTwo.cells
          clear hxC hIC hgC hBC hTC hTwo hq
          go_wp2_with fail
          refine (neg_any _ _ _ _ HC.out.2.2.2.2.2.2).mono ?_
          rintro e w7 ⟨r, rfl, hr, hb7⟩
          obtain ⟨nz7, oz7, mz7, cz7, rfl⟩ := hr.shape
          obtain ⟨hxC, hIC, hgC, hBC, hTC, hTwo, -⟩ := HC.out
          have hT7 := hTwo.below hb7 hltp
          have hx7 := hxC.below hb7
          obtain ⟨t5, t6, t7, t8⟩ := hT7.cells
          have hku : KU w7 ((w7.setCell ⟨pb, 0, none⟩ (.bool nz7)).setCell ⟨pb, 1, none⟩ (.slice oz7 mz7 cz7)) := KU.setCell (KU.setCell (KU.refl _) hT7.ty (by decide) _) (hT7.ty.setCell _ _) (by decide) _
          have hPX : IsI ((w7.setCell ⟨pb, 0, none⟩ (.bool nz7)).setCell ⟨pb, 1, none⟩ (.slice oz7 mz7 cz7)) (.agg #[.bool nz7, .slice oz7 mz7 cz7]) (-(f 0 k * detF n fun i j => f (i + 1) (skip k j))) (L + LD L n) := hr.keep hku
          have hIX := (hIC.below hb7).keep hku
          have hxX : Boxes ((w7.setCell ⟨pb, 0, none⟩ (.bool nz7)).setCell ⟨pb, 1, none⟩ (.slice oz7 mz7 cz7)) w.heap.size sb R R (.slice ao N cap) nb (.slice bo m ecap) := hx7.other (by omega) (by omega)
          have hgX : W1.grownBy ((w7.setCell ⟨pb, 0, none⟩ (.bool nz7)).setCell ⟨pb, 1, none⟩ (.slice oz7 mz7 cz7)) (some sb) := grown_new (grown_below hgC hb7) (by have := HS.out; omega)
          have hBX : Below w.heap.size w ((w7.setCell ⟨pb, 0, none⟩ (.bool nz7)).setCell ⟨pb, 1, none⟩ (.slice oz7 mz7 cz7)) := ((hBC.trans (hb7.mono hBC.size)).setCell (by simp; omega) _).setCell (by simp; omega) _
          have hTX := ((hTC.below hb7 hTC.lt).setCell ⟨pb, 0, none⟩ (.bool nz7)).setCell ⟨pb, 1, none⟩ (.slice oz7 mz7 cz7)
          obtain ⟨q0, q1, q2, q3, q4, q5, q6⟩ := id hxX
          obtain ⟨y1, y2, y3, y4⟩ := (hT7.put (.bool nz7) (.slice oz7 mz7 cz7)).cells
          generalize hzz : -(f 0 k * detF n fun i j => f (i + 1) (skip k j)) = zz at hPX HZZ0
          have HZZ := HZZ0
          clear HZZ0 hzz hr hb7 hT7 hx7 hku hxC hIC hgC hBC hTC hTwo t1 t2 t3 t4
          have P := Hid.mk (And.intro hPX (And.intro hIX (And.intro hxX (And.intro hgX (And.intro hBX hTX)))))
          clear hPX hIX hxX hgX hBX hTX HC
          go_wp2_with fail
          obtain ⟨hPX, hIX, hxX, hgX, hBX, hTX⟩ := P.out
          refine (add_any _ _ S zz (L + LD L n + k) (L + LD L n) _ hIX hPX (by have := HLD.out; rw [LD] at this; omega) (by have := HLD.out; rw [LD] at this; omega)).mono ?_
          rintro e w9 ⟨r2, rfl, hr2, hb9⟩
          obtain ⟨nb2, bo2, m2, ec2, rfl⟩ := hr2.shape
          have hx9 := hxX.below hb9
          have hg9 := grown_below hgX hb9
          have hB9 : Below w.heap.size w w9 := hBX.trans (hb9.mono hBX.size)
          obtain ⟨-, -, -, s0, s1, z0, z1⟩ := id hx9
          have hty9 : Ty w9 sb 78 := hTX.below hb9 hTX.lt
          have H9 := Hid.mk (And.intro hx9 (And.intro hg9 (And.intro hB9 (And.intro hr2 hty9))))
          clear hx9 hg9 hB9 hr2 hty9 hb9 hxX hIX hPX hgX hBX hTX P t5 t6 t7 t8 q0 q1 q2 q3 q4 q5 q6 y1 y2 y3 y4
          go_wp2_with fail
          go_roundg (R - (k + 1))
          case measure => have := HSUM.out.1; omega
          case rel =>
            obtain ⟨hx9, hg9, hB9, hr2, hty9⟩ := H9.out
            refine ⟨k + 1, S + zz, nb2, bo2, m2, ec2, by omega, by go_num, (hty9.setCell _ _).setCell _ _, hx9.put (by omega), (hr2.mono (by omega)).keep (KU.setCell (KU.setCell (KU.refl _) hty9 (by decide) _) (hty9.setCell _ _) (by decide) _), grown_put2 hg9, (hB9.setCell (by simp; omega) _).setCell (by simp; omega) _, Hid.mk ⟨rfl, ?_⟩⟩
            rw [← sum_next HSUM.out.2, HZZ.out]
        · have hod : ((k : Int) % 2 == 1) = false := beq_eq_false_iff_ne.2 (by omega)
          have HZZ0 : Hid ((f 0 k * detF n fun i j => f (i + 1) (skip k j)) = signed k (f 0 k * detF n fun i j => f (i + 1) (skip k j))) := Hid.mk (by unfold signed; rw [if_neg hodd])
          clear hodd
          obtain ⟨q0, q1, q2, q3, q4, q5, q6⟩ := id hxC
          obtain ⟨y1, y2, y3, y4⟩ := hTwo.cells
          generalize hzz : (f 0 k * detF n fun i j => f (i + 1) (skip k j)) = zz at hq HZZ0
          have HZZ : Hid (zz = signed k (f 0 k * detF n fun i j => f (i + 1) (skip k j))) := Hid.mk (by rw [hzz]; exact HZZ0.out)
          have P := Hid.mk (And.intro hq (And.intro hIC (And.intro hxC (And.intro hgC (And.intro hBC hTC)))))
          clear HZZ0 hzz hq hIC hxC hgC hBC hTC hTwo
          go_wp2_with fail
          obtain ⟨hPX, hIX, hxX, hgX, hBX, hTX⟩ := P.out
          refine (add_any _ _ S zz (L + LD L n + k) (L + LD L n) _ hIX hPX (by have := HLD.out; rw [LD] at this; omega) (by have := HLD.out; rw [LD] at this; omega)).mono ?_
          rintro e w9 ⟨r2, rfl, hr2, hb9⟩
          obtain ⟨nb2, bo2, m2, ec2, rfl⟩ := hr2.shape
          have hx9 := hxX.below hb9
          have hg9 := grown_below hgX hb9
          have hB9 : Below w.heap.size w w9 := hBX.trans (hb9.mono hBX.size)
          obtain ⟨-, -, -, s0, s1, z0, z1⟩ := id hx9
          have hty9 : Ty w9 sb 78 := hTX.below hb9 hTX.lt
          have H9 := Hid.mk (And.intro hx9 (And.intro hg9 (And.intro hB9 (And.intro hr2 hty9))))
          clear hx9 hg9 hB9 hr2 hty9 hb9 hxX hIX hPX hgX hBX hTX P q0 q1 q2 q3 q4 q5 q6 y1 y2 y3 y4
          go_wp2_with fail
          go_roundg (R - (k + 1))
          case measure => have := HSUM.out.1; omega
          case rel =>
            obtain ⟨hx9, hg9, hB9, hr2, hty9⟩ := H9.out
            refine ⟨k + 1, S + zz, nb2, bo2, m2, ec2, by omega, by go_num, (hty9.setCell _ _).setCell _ _, hx9.put (by omega), (hr2.mono (by omega)).keep (KU.setCell (KU.setCell (KU.refl _) hty9 (by decide) _) (hty9.setCell _ _) (by decide) _), grown_put2 hg9, (hB9.setCell (by simp; omega) _).setCell (by simp; omega) _, Hid.mk ⟨rfl, ?_⟩⟩
            rw [← sum_next HSUM.out.2, HZZ.out]
    · have hres : wr.heap[w.heap.size + 1]? = some (.cells #[.bool false, .slice none 0 0] 78 (0, 0)) := by
        rw [HG.out.block _ (by have := HS.out; omega) (by simp; omega)]; exact FR.out
      have hTr : Duo wr (w.heap.size + 1) (.bool false) (.slice none 0 0) := hres
      obtain ⟨r0, r1, r2, r3⟩ := hTr.cells
      have HTR := Hid.mk hTr
      clear hres hTr
      go_wp2_with fail
      refine bodyPost_ret (v := .agg #[.bool nb, .slice bo m ecap]) ?_ rfl ?_
      · (simp [results, Tryd.results38, go_sem, r0, r1]; done)
      · have hkk : k = n + 1 := by have := HR.out; omega
        refine ⟨_, rfl, ?_, (HB.out.setCell (by simp) _).setCell (by simp) _⟩
        have h1 : S = detF R f := by rw [HSUM.out.2, hkk, HR.out, detF]
        rw [← h1]
        refine (HI.out.mono ?_).keep (KU.setCell (KU.setCell (KU.refl _) HTR.out.ty (by decide) _) (HTR.out.ty.setCell _ _) (by decide) _)
        rw [HR.out, LD, hkk]
        exact Nat.le_refl _
theorem det_any (n : Nat) : DetSaid n := by
  induction n with
  | zero => exact det_zero
  | succ n ih => exact det_succ n ih
end Go.Proofs.YtfjbijpagaipnaaDoor
namespace Go.Proofs.YtfjbijpagaipnaaDoor
open Go.RowKit
theorem itoa_digit (n : Nat) (h : n < 10) : Lib.itoa (n : Int) = [UInt8.ofNat (48 + n)] := by rw [Lib.itoa_nonneg, Lib.decDigits_one h]
theorem itoa_more (n : Nat) (h : ¬ n < 10) : Lib.itoa (n : Int) = Lib.itoa ((n / 10 : Nat) : Int) ++ [UInt8.ofNat (48 + n % 10)] := by
  rw [Lib.itoa_nonneg, Lib.itoa_nonneg, decDigits_big h]
theorem byte_str (w : World) (d : Nat) (hd : d < 10) (z : Int) (hz : z = 48 + (d : Int)) (bt : UInt8) (hbt : bt = UInt8.ofNat (48 + d)) :
    (convert 92 9 (.slice (some ⟨w.heap.size, 0, none⟩) 1 1)).run Tryd.prog (w.alloc (.cells #[.int .u8 z] 5)) = .ok (.string ⟨[bt].toArray⟩) (w.alloc (.cells #[.int .u8 z] 5)) := by
  subst hbt
  have h := run_convert_bytes_back (P := Tryd.prog) (w.alloc (.cells #[.int .u8 z] 5)) 92 9 5 ⟨w.heap.size, 0, none⟩ 1 [UInt8.ofNat (48 + d)] Tryd.underlying92 Tryd.underlying5 Tryd.underlying9 (fun j hj => by
    have hj0 : j = 0 := by simpa using hj
    subst hj0
    rw [Lib.add_plain, World.cell?_alloc_new]
    have e : ((UInt8.ofNat (48 + d)).toNat : Int) = z := by
      rw [hz, UInt8.toNat_ofNat', Nat.mod_eq_of_lt (by omega)]; omega
    simp only [List.getElem_cons_zero]
    rw [e]
    rfl)
  exact h
set_option maxRecDepth 100000 in
set_option maxHeartbeats 1000000 in
theorem number_nat (f : Nat) : ∀ (n : Nat) (w : World), n ≤ f → n ≤ 4611686018427387904 →
    Calls Tryd.prog 25 #[.int .i64 n] w fun e w' => e = .returned (.string ⟨(Lib.itoa (n : Int)).toArray⟩) ∧ Below w.heap.size w w' := by
  induction f with
  | zero =>
    intro n w hf hn
    have h0 : n < 10 := by omega
    obtain ⟨bt, hbt⟩ : ∃ bt, bt = UInt8.ofNat (48 + n % 10) := ⟨_, rfl⟩
    have hcv := byte_str w (n % 10) (by omega) (48 + (n : Int) % 10) (by omega) bt hbt
    have HBT := Hid.mk hbt
    clear hbt
    go_enter Tryd.func25, Tryd.ntmps25
    go_wp2_with fail
    go_ret
    refine ⟨?_, (Below.refl _ _).alloc (Nat.le_refl _) _⟩
    rw [itoa_digit n h0]
    exact ret_str (by rw [HBT.out, Nat.mod_eq_of_lt h0])
  | succ f ih =>
    intro n w hf hn
    by_cases h0 : n < 10
    · obtain ⟨bt, hbt⟩ : ∃ bt, bt = UInt8.ofNat (48 + n % 10) := ⟨_, rfl⟩
      have hcv := byte_str w (n % 10) (by omega) (48 + (n : Int) % 10) (by omega) bt hbt
      have HBT := Hid.mk hbt
      clear hbt
      clear ih
      go_enter Tryd.func25, Tryd.ntmps25
      go_wp2_with fail
      go_ret
      refine ⟨?_, (Below.refl _ _).alloc (Nat.le_refl _) _⟩
      rw [itoa_digit n h0]
      exact ret_str (by rw [HBT.out, Nat.mod_eq_of_lt h0])
    · obtain ⟨bt, hbt⟩ : ∃ bt, bt = UInt8.ofNat (48 + n % 10) := ⟨_, rfl⟩
      have hcv := byte_str w (n % 10) (by omega) (48 + (n : Int) % 10) (by omega) bt hbt
      have HBT := Hid.mk hbt
      clear hbt
      have HIH := Hid.mk ih
      clear ih
      have hlen : (Lib.itoa ((n / 10 : Nat) : Int)).length ≤ 40 := by
        have := Lib.itoa_length_le ((n / 10 : Nat) : Int) (by omega) (by omega)
        omega
      go_enter Tryd.func25, Tryd.ntmps25
      go_wp2_with fail
      rw [show (n : Int) / 10 = ((n / 10 : Nat) : Int) from by omega]
      refine (HIH.out (n / 10) _ (by omega) (by omega)).mono ?_
      rintro e w2 ⟨rfl, hb⟩
      generalize hT : Lib.itoa ((n / 10 : Nat) : Int) = T at *
      have HT := Hid.mk hT
      clear hT
      go_wp2_with fail
      go_ret
      refine ⟨?_, ((Below.refl w.heap.size w).alloc (Nat.le_refl _) _).trans (hb.mono (by simp))⟩
      rw [itoa_more n h0, HT.out, ← HBT.out]
      exact ret_str (str_app T [bt])
theorem number_any (z : Int) (w : World) (h1 : -4611686018427387904 ≤ z) (h2 : z ≤ 4611686018427387904) :
    Calls Tryd.prog 25 #[.int .i64 z] w fun e w' => e = .returned (.string ⟨(Lib.itoa z).toArray⟩) ∧ Below w.heap.size w w' := by
  by_cases hz : z < 0
  · obtain ⟨u, rfl⟩ : ∃ u : Nat, z = -(u : Int) := ⟨z.natAbs, by omega⟩
    have hu : 1 ≤ u := by omega
    have hlen : (Lib.itoa (u : Int)).length ≤ 40 := by
      have := Lib.itoa_length_le (u : Int) (by omega) (by omega)
      omega
    go_enter Tryd.func25, Tryd.ntmps25
    go_wp2_with fail
    refine (number_nat u u _ (Nat.le_refl _) (by omega)).mono ?_
    rintro e w2 ⟨rfl, hb⟩
    generalize hT : Lib.itoa (u : Int) = T at *
    have HT := Hid.mk hT
    clear hT
    go_wp2_with fail
    go_ret
    refine ⟨?_, hb⟩
    rw [Lib.itoa_neg u hu, ← Lib.itoa_nonneg, HT.out]
    exact ret_str (str_app [45] _)
  · obtain ⟨u, rfl⟩ : ∃ u : Nat, z = (u : Int) := ⟨z.natAbs, by omega⟩
    exact number_nat u u w (Nat.le_refl _) (by omega)
end Go.Proofs.YtfjbijpagaipnaaDoor
namespace Go.Proofs.YtfjbijpagaipnaaDoor
open Go.RowKit
theorem IsM.keep {w w' : World} {v : Value} {r c L : Nat} {zs : List Int} (h : IsM w v r c zs L) (hk : KT w w') : IsM w' v r c zs L := by
  obtain ⟨h0, h1, sl, h2, h3⟩ := h
  exact ⟨h0, h1, sl, h2, h3.keep hk⟩
def Low (n : Nat) (zs : List Int) : Prop := ∀ t, t < n → (zs.getD t 0).natAbs < 281474976710656
set_option maxRecDepth 100000 in
set_option maxHeartbeats 1000000 in
theorem type_ok (b : Nat) (s : ByteArray) (r c : Nat) (zs : List Int) (L : Nat) (ms : List (Nat × Nat × Value)) (w : World) (hst : St w b ms) (hn : ms.length < 24) (hs : s.size ≤ 4000) (hw : Writes s r c zs L) (hr : r ≤ 4) (hc : c ≤ 4) (hL : L ≤ 30000) (hz : Low (r * c) zs) :
    Calls Tryd.prog 10 #[.pointer (some ⟨b, 0, none⟩), .string s] w fun e w' => e = .returned (.tuple #[.int .i64 (ms.length : Nat), .int .i64 0]) ∧
      (∃ ao m cap, St w' b (ms ++ [(r, c, .slice ao m cap)]) ∧ IsM w' (.agg #[.int .i64 r, .int .i64 c, .slice ao m cap]) r c zs L) ∧ Fr b w w' := by
  have HS := Hid.mk hst
  have HW := Hid.mk hw
  have HZ := Hid.mk hz
  have hbl := hst.lt
  clear hst hw hz
  go_enter Tryd.func10, Tryd.ntmps10
  go_wp2_with fail
  refine (read_ok s r c zs L _ hs (by omega) (by omega) HW.out).mono ?_
  rintro e w1 ⟨x, rfl, hx, hb1⟩
  obtain ⟨_, _, sl, rfl, hg⟩ := id hx
  obtain ⟨ao, cap, rfl, -⟩ := hg.shape
  clear hg
  obtain ⟨N, hN⟩ : ∃ N, N = r * c := ⟨_, rfl⟩
  rw [← hN] at hx ⊢
  clear hN
  have K1 := Hid.mk (And.intro hx hb1)
  clear hx hb1
  go_wp2_with fail
  refine (tooBig_no _ r c zs L _ (K1.out.1.below ((Below.refl _ _).alloc (Nat.le_refl _) _)) hr hc (by omega) HZ.out).mono ?_
  rintro e w2 ⟨rfl, hb2⟩
  have h12 : Below w1.heap.size w1 w2 := ((Below.refl w1.heap.size w1).alloc (Nat.le_refl _) _).trans (hb2.mono (by simp))
  have h02 : Below w.heap.size w w2 := K1.out.2.trans (h12.mono K1.out.2.size)
  have m0 : w2.cell? ⟨w1.heap.size, 0, none⟩ = some (.int .i64 r) := cell_later hb2 (by simp)
  have m1 : w2.cell? ⟨w1.heap.size, 1, none⟩ = some (.int .i64 c) := cell_later hb2 (by simp)
  have m2 : w2.cell? ⟨w1.heap.size, 2, none⟩ = some (.slice ao N cap) := cell_later hb2 (by simp)
  have K2 := Hid.mk (And.intro (K1.out.1.below h12) h02)
  clear hb2 h12 h02 K1
  go_wp2_with fail
  refine (room_ok b ms _ (HS.out.below K2.out.2)).mono ?_
  rintro e w' ⟨rfl, rfl⟩
  go_wp2_with fail
  refine (keep_ok b r c ao N cap ms _ (HS.out.below K2.out.2) hn).mono ?_
  rintro e w3 ⟨rfl, hS3, hF3⟩
  have K3 := Hid.mk (And.intro hS3 (And.intro (K2.out.1.keep hF3.2) ((Fr.of_below (p := b) K2.out.2).trans hF3)))
  clear hS3 hF3 K2 m0 m1 m2
  go_wp2_with fail
  go_ret2
  exact ⟨rfl, ⟨ao, N, cap, K3.out.1, K3.out.2.1⟩, K3.out.2.2⟩
set_option maxRecDepth 100000 in
set_option maxHeartbeats 1000000 in
theorem storeDet_ok (b h n : Nat) (ao : Option Addr) (m cap : Nat) (zs : List Int) (f : Nat → Nat → Int) (L : Nat) (ms : List (Nat × Nat × Value)) (w : World) (hst : St w b ms) (hh : h < ms.length) (hm : ms.getD h (0, 0, .slice none 0 0) = (n, n, .slice ao m cap))
    (hM : IsM w (.agg #[.int .i64 n, .int .i64 n, .slice ao m cap]) n n zs L) (hn : n ≤ 4) (hL : L ≤ 100) (hz : Low (n * n) zs) (hrep : Rep n zs f) (htab : Tab w) :
    Calls Tryd.prog 13 #[.pointer (some ⟨b, 0, none⟩), .int .i64 h] w fun e w' => e = .returned (.tuple #[.string ⟨(Lib.itoa (detF n f)).toArray⟩, .int .i64 0]) ∧ Below w.heap.size w w' := by
  have H := Hid.mk (And.intro hst (And.intro hm (And.intro hM (And.intro hz (And.intro hrep htab)))))
  have hsq : ((n : Int) == (n : Int)) = true := by simp
  have hLD : LD L n ≤ 1000 := by
    have : ∀ k, k ≤ 4 → LD L k ≤ 2 + k * (L + 4) := by
      intro k
      induction k with
      | zero => intro _; simp [LD]
      | succ k ih => intro hk; have := ih (by omega); rw [LD, Nat.succ_mul]; omega
    have h1 := this n hn
    have h2 : n * (L + 4) ≤ 4 * 104 := Nat.mul_le_mul hn (by omega)
    omega
  clear hst hm hM hz hrep htab
  go_enter Tryd.func13, Tryd.ntmps13
  go_wp2_with fail
  refine (find_ok b h n n ao m cap ms _ H.out.1 hh H.out.2.1).mono ?_
  rintro e w1 ⟨rfl, hb1⟩
  have K1 := Hid.mk hb1
  clear hb1
  go_wp2_with fail
  refine (isSquare_raw _ _ _ _ _ _).mono ?_
  rintro e w' ⟨rfl, rfl⟩
  rw [hsq]
  go_wp2_with fail
  refine (tooBig_no _ n n zs L _ (H.out.2.2.1.below ?_) hn hn (by omega) H.out.2.2.2.1).mono ?_
  · refine K1.out.trans ?_
    exact (((Below.refl w1.heap.size w1).alloc (Nat.le_refl _) _).alloc (by simp) _).mono K1.out.size
  rintro e w2 ⟨rfl, hb2⟩
  have h02 : Below w.heap.size w w2 := (K1.out.trans ((((Below.refl w1.heap.size w1).alloc (Nat.le_refl _) _).alloc (by simp) _).mono K1.out.size)).trans (hb2.mono (by have := K1.out.size; simp; omega))
  have m0 : w2.cell? ⟨w1.heap.size, 0, none⟩ = some (.int .i64 n) := cell_later hb2 (cell1 (by simp) _)
  have m1 : w2.cell? ⟨w1.heap.size, 1, none⟩ = some (.int .i64 n) := cell_later hb2 (cell1 (by simp) _)
  have m2 : w2.cell? ⟨w1.heap.size, 2, none⟩ = some (.slice ao m cap) := cell_later hb2 (cell1 (by simp) _)
  have K2 := Hid.mk h02
  clear hb2 h02 K1
  go_wp2_with fail
  refine (det_any n _ zs f L _ (H.out.2.2.1.below K2.out) H.out.2.2.2.2.1 (by omega) (by omega)).mono ?_
  rintro e w3 ⟨x, rfl, hx, hb3⟩
  have K3 := Hid.mk (And.intro hx (K2.out.trans (hb3.mono K2.out.size)))
  clear hx hb3 K2 m0 m1 m2
  go_wp2_with fail
  refine (decimal_any _ _ _ _ K3.out.1 (by omega) (H.out.2.2.2.2.2.below K3.out.2)).mono ?_
  rintro e w4 ⟨rfl, hb4⟩
  have K4 := Hid.mk (K3.out.2.trans (hb4.mono K3.out.2.size))
  clear hb4 K3
  generalize hT : Lib.itoa (detF n f) = T at *
  have HT := Hid.mk hT
  clear hT
  go_wp2_with fail
  go_ret2
  rw [HT.out]
  exact ⟨rfl, K4.out⟩
end Go.Proofs.YtfjbijpagaipnaaDoor
