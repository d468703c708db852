import Derived.Test.YtfjbijpagaipnabGreatDoorK12
import Derived.Test.YtfjbijpagaipnabGreatDoorK03
import Derived.Deep.CutRange
import Derived.Deep.LoopGhost
import Derived.Test.YtfjbijpagaipnabGreatDoorK21
import Derived.Test.YtfjbijpagaipnabGreatDoorK19
import Derived.Test.YtfjbijpagaipnabGreatDoorK25
import Derived.Lib.ItoaLen
import Derived.Test.YtfjbijpagaipnabGreatDoorK16
namespace Go.Proofs.YtfjbijpagaipnabGreatDoor
open Go.RowKit
theorem at_first (v : Value) (r c col : Nat) (zs : List Int) (L : Nat) (w : World) (hm : IsM w v r c zs L) (h1 : 0 < r) (h2 : col < c) :
 Calls Tryz.prog 64 #[v, .int .i64 0, .int .i64 col] w fun e w' => ∃ x, e = .returned x ∧ IntOut w w' x (zs.getD col 0) L := by
 have := at_in v r c 0 col zs L w hm h1 h2
 rw [Nat.zero_mul, Nat.zero_add] at this
 exact this
theorem Boxes.other {w : World} {b d r c p : Nat} {sl : Value} {nb : Bool} {s x y : Value} (h : Boxes w b d r c sl nb s) (h1 : p ≠ b) (h2 : p ≠ d) : Boxes ((w.setCell ⟨p, 0, none⟩ x).setCell ⟨p, 1, none⟩ y) b d r c sl nb s := by
 have o : ∀ i j : Nat, (⟨p, i, none⟩ : Addr) ≠ ⟨b, j, none⟩ := fun i j e => h1 (by injection e)
 have o2 : ∀ i j : Nat, (⟨p, i, none⟩ : Addr) ≠ ⟨d, j, none⟩ := fun i j e => h2 (by injection e)
 obtain ⟨a1, a2, a3, a4, a5, a6, a7⟩ := h
 refine ⟨?_, ?_, ?_, ?_, ?_, by simpa using a6, by simpa using a7⟩
 ·rw [World.cell?_setCell_other _ _ _ _ (o _ _), World.cell?_setCell_other _ _ _ _ (o _ _)]; exact a1
 ·rw [World.cell?_setCell_other _ _ _ _ (o _ _), World.cell?_setCell_other _ _ _ _ (o _ _)]; exact a2
 ·rw [World.cell?_setCell_other _ _ _ _ (o _ _), World.cell?_setCell_other _ _ _ _ (o _ _)]; exact a3
 ·rw [World.cell?_setCell_other _ _ _ _ (o2 _ _), World.cell?_setCell_other _ _ _ _ (o2 _ _)]; exact a4
 ·rw [World.cell?_setCell_other _ _ _ _ (o2 _ _), World.cell?_setCell_other _ _ _ _ (o2 _ _)]; exact a5
def PartOut (w4 : World) (z : Int) (L : Nat) (p : Value) (wx : World) : Prop := ∃ (pb : Nat) (nq : Bool) (qo : Option Addr) (mq qcap : Nat), p = .pointer (some ⟨pb, 0, none⟩) ∧ w4.heap.size ≤ pb ∧ Duo wx pb (.bool nq) (.slice qo mq qcap) ∧ IsI wx (.agg #[.bool nq, .slice qo mq qcap]) z L ∧ Below w4.heap.size w4 wx
theorem PartOut.made {w4 w6 : World} {z : Int} {L : Nat} {nq : Bool} {qo : Option Addr} {mq qcap : Nat} (hq : IsI w6 (.agg #[.bool nq, .slice qo mq qcap]) z L) (hb : Below w4.heap.size w4 w6) :
 PartOut w4 z L (.pointer (some ⟨w6.heap.size, 0, none⟩)) (w6.alloc (.cells #[.bool nq, .slice qo mq qcap] 79)) :=
 ⟨_, nq, qo, mq, qcap, rfl, hb.size, Duo.new _ _ _ rfl, hq.below ((Below.refl _ _).alloc (Nat.le_refl _) _), hb.alloc hb.size _⟩
theorem PartOut.stored {w4 w6 : World} {z : Int} {L b : Nat} {nq : Bool} {qo : Option Addr} {mq qcap : Nat} {x y : Value} (ht : Duo w6 b x y) (hle : w4.heap.size ≤ b) (hq : IsI w6 (.agg #[.bool nq, .slice qo mq qcap]) z L) (hb : Below w4.heap.size w4 w6) :
 PartOut w4 z L (.pointer (some ⟨b, 0, none⟩)) ((w6.setCell ⟨b, 0, none⟩ (.bool nq)).setCell ⟨b, 1, none⟩ (.slice qo mq qcap)) :=
 ⟨_, nq, qo, mq, qcap, rfl, hle, ht.put _ _, hq.keep (KU.setCell (KU.setCell (KU.refl _) ht.ty (by decide) _) (ht.ty.setCell _ _) (by decide) _), (hb.setCell hle _).setCell hle _⟩
theorem sum_next {n k : Nat} {f : Nat → Nat → Int} {S : Int} (h : S = sumF k fun c => signed c (f 0 c * detF n fun i j => f (i + 1) (skip c j))) :
 S + signed k (f 0 k * detF n fun i j => f (i + 1) (skip k j)) = sumF (k + 1) fun c => signed c (f 0 c * detF n fun i j => f (i + 1) (skip c j)) := by rw [sumF, h]
set_option maxRecDepth 100000 in
set_option maxHeartbeats 4000000 in
theorem det_succ (n : Nat) (ih : DetSaid n) : DetSaid (n + 1) := by
 intro v zs f L w hm hrep hl hL
 have HIH := Hid.mk ih
 have HREP := Hid.mk hrep
 have HLD := Hid.mk hl
 have HM := Hid.mk hm
 clear ih hrep hl
 obtain ⟨hr, _, sl, rfl, hg0⟩ := hm
 obtain ⟨ao, cap, rfl, -⟩ := hg0.shape
 clear hg0
 obtain ⟨R, hR⟩ : ∃ R, R = n + 1 := ⟨_, rfl⟩
 obtain ⟨N, hN⟩ : ∃ N, N = (n + 1) * (n + 1) := ⟨_, rfl⟩
 rw [← hN] at HM ⊢
 rw [← hR] at HM hr ⊢
 have HR := Hid.mk hR
 have hR0 : 0 < R := by omega
 have hne : ((R : Int) == 0) = false := beq_eq_false_iff_ne.2 (by omega)
 clear hR hN
 go_enter Tryz.func39, Tryz.ntmps39
 go_wp2_with (go_at_call 38; refine (isSquare_raw _ _ _ _ _ _).mono ?_; rintro e w' ⟨rfl, rfl⟩)
 obtain ⟨W1, hW1⟩ : ∃ W1, W1 = (((w.alloc (.cells #[.int .i64 R, .int .i64 R, .slice ao N cap] 66)).alloc (.cells #[.bool false, .slice none 0 0] 79)).alloc (.cells #[.int .i64 R, .int .i64 R, .slice ao N cap] 66)).alloc (.cells #[.bool false, .slice none 0 0] 79) := ⟨_, rfl⟩
 rw [← hW1]
 have hB1 : Below w.heap.size w W1 := by
  rw [hW1]
  repeat (first | exact Below.refl _ _ | refine Below.alloc ?_ (by simp <;> omega) _)
 have hx1 : Boxes W1 w.heap.size (w.heap.size + 1 + 1 + 1) R R (.slice ao N cap) false (.slice none 0 0) := by
  rw [hW1]
  refine ⟨?_, ?_, ?_, ?_, ?_, ?_, ?_⟩
  ·exact cell3 (by simp) _ _ _
  ·exact cell3 (by simp) _ _ _
  ·exact cell3 (by simp) _ _ _
  ·exact new_cell _ _ _ _ _ (by simp) rfl
  ·exact new_cell _ _ _ _ _ (by simp) rfl
  ·exact new_frozen _ _ _ _ _ (by simp)
  ·exact new_frozen _ _ _ _ _ (by simp)
 have hty1 : Ty W1 (w.heap.size + 1 + 1 + 1) 79 := by rw [hW1]; exact Ty.at_ _ _ _ (by simp)
 have hres : W1.heap[w.heap.size + 1]? = some (.cells #[.bool false, .slice none 0 0] 79 (0, 0)) := by
  rw [hW1, Below.heap_alloc _ _ _ (by simp), Below.heap_alloc _ _ _ (by simp)]
  have := heap_alloc_new (w.alloc (.cells #[.int .i64 R, .int .i64 R, .slice ao N cap] 66)) (.cells #[.bool false, .slice none 0 0] 79)
  simpa using this
 have hS : W1.heap.size = w.heap.size + 4 := by rw [hW1]; simp
 obtain ⟨sb, hsb⟩ : ∃ sb, sb = w.heap.size + 1 + 1 + 1 := ⟨_, rfl⟩
 rw [← hsb] at hx1 hty1 ⊢
 have hsb1 : w.heap.size + 3 ≤ sb := by omega
 have hsb2 : sb ≤ w.heap.size + 3 := by omega
 have FR := Hid.mk hres
 have HS := Hid.mk hS
 clear hW1 hres hS hsb
 go_loopg [4] R (fun gk i wr => ∃ (k : Nat) (S : Int) (nb : Bool) (bo : Option Addr) (m ecap : Nat), k ≤ R ∧ i = .int .i64 k ∧ Ty wr sb 79 ∧ Boxes wr w.heap.size sb R R (.slice ao N cap) nb (.slice bo m ecap) ∧ IsI wr (.agg #[.bool nb, .slice bo m ecap]) S (L + LD L n + k) ∧ W1.grownBy wr (some sb) ∧ Below w.heap.size w wr ∧
  Hid (gk = R - k ∧ S = sumF k fun c => signed c (f 0 c * detF n fun i j => f (i + 1) (skip c j))))
 case atStart => exact ⟨0, 0, _, _, _, _, Nat.zero_le _, rfl, hty1, hx1, IsI.zero _ _, World.grownBy.refl _ _, hB1, Hid.mk ⟨by omega, rfl⟩⟩
 case round =>
  clear hx1 hB1 hty1
  obtain ⟨k, S, nb, bo, m, ecap, hk, rfl, hty, hx, hI, hgr, hB, HSUM⟩ := hrel
  obtain ⟨m0, m1, m2, s0, s1, z0, z1⟩ := id hx
  have HX := Hid.mk hx
  have HTY := Hid.mk hty
  clear hty
  have HI := Hid.mk hI
  have HG := Hid.mk hgr
  have HB := Hid.mk hB
  clear hx hI hgr hB
  by_cases hkR : k < R
  ·go_wp2_with fail
   refine (minor_any _ R R k zs L _ ((HR.out ▸ HM.out : IsM w _ R R zs L).below HB.out) (by omega) hkR).mono ?_
   rintro e w2 ⟨x, rfl, ⟨ms, hms, hmo⟩, hb2⟩
   have HTY2 := Hid.mk (HTY.out.below hb2 HTY.out.lt)
   have hrep2 : Rep n ms fun i j => f (i + 1) (skip k j) := HREP.out.minor (HR.out ▸ hmo)
   have hms2 : IsM w2 x n n ms L := by have := HR.out; subst this; exact hms
   obtain ⟨g1, g2, sl2, rfl, hg2⟩ := id hms2
   obtain ⟨co, dcap, rfl, -⟩ := hg2.shape
   have hx2 := HX.out.below hb2
   have hI2 := HI.out.below hb2
   have hgr2 := grown_below HG.out hb2
   have hB2 : Below w.heap.size w w2 := HB.out.trans (hb2.mono HB.out.size)
   clear m0 m1 m2 s0 s1 z0 z1 HX HI HG HB hg2 hms hmo hb2
   have H2 := Hid.mk (And.intro hms2 (And.intro hrep2 (And.intro hx2 (And.intro hI2 (And.intro hgr2 hB2)))))
   clear hms2 hrep2 hx2 hI2 hgr2 hB2
   go_wp2_with fail
   refine (HIH.out _ ms (fun i j => f (i + 1) (skip k j)) L _ (H2.out.1.below ((Below.refl _ _).alloc (Nat.le_refl _) _)) H2.out.2.1 (by have := HLD.out; have := LD_mono L n; omega) hL).mono ?_
   rintro e w4 ⟨rest, rfl, hrest, hb4⟩
   obtain ⟨nr, eo, me, fcap, rfl⟩ := hrest.shape
   have h24 : Below w2.heap.size w2 w4 := ((Below.refl w2.heap.size w2).alloc (Nat.le_refl _) _).trans (hb4.mono (by simp))
   obtain ⟨-, -, hx2, hI2, hgr2, hB2⟩ := H2.out
   have HTS := Hid.mk (HTY2.out.below h24 HTY2.out.lt)
   have hx4 := hx2.below h24
   have hI4 := hI2.below h24
   have hgr4 := grown_below hgr2 h24
   have hB4 : Below w.heap.size w w4 := hB2.trans (h24.mono hB2.size)
   have hM4 : IsM w4 (.agg #[.int .i64 R, .int .i64 R, .slice ao N cap]) R R zs L := (HR.out ▸ HM.out : IsM w _ R R zs L).below hB4
   obtain ⟨m0, m1, m2, s0, s1, z0, z1⟩ := id hx4
   have m0' := cell1 m0
   have m1' := cell1 m1
   have m2' := cell1 m2
   have hlt := hx4.lt
   have H4 := Hid.mk (And.intro hx4 (And.intro hI4 (And.intro hgr4 (And.intro hB4 (And.intro hM4 hrest)))))
   clear H2 hx2 hI2 hgr2 hB2 hx4 hI4 hgr4 hB4 hM4 hrest hb4 h24 m0 m1 m2 s0 s1 z0 z1
   obtain ⟨hlt1, hlt2⟩ := hlt
   go_upto_region 11 with fail
   go_cut [7] from 17 to 40 (fun p wx => PartOut w4 (zs.getD k 0 * detF n fun i j => f (i + 1) (skip k j)) (L + LD L n) p wx)
   case first =>
    go_region_with (first
     | (go_at_call 64; go_must (refine (at_first _ R R k zs L _ (H4.out.2.2.2.2.1.below (by repeat (first | exact Below.refl _ _ | refine Below.drew ?_ | refine Below.alloc ?_ (by simp <;> omega) _))) hR0 hkR).mono ?_; rintro e w5 ⟨y, rfl, hy, hb5⟩; obtain ⟨ny, fo, mf, gcap, rfl⟩ := hy.shape; obtain ⟨hc5, hf5⟩ := bcell hb5; have hsz5 : w4.heap.size < w5.heap.size := (by have := hb5.size; simp at this; omega); try (have TW5 := Hid.mk (Duo.below (Duo.drew (Duo.new (w4.alloc _) (.bool false) (.slice none 0 0) (b := w4.heap.size + 1) (by simp))) hb5 (by simp)); obtain ⟨a1, a2, a3, a4⟩ := TW5.out.cells; have l5 : w4.heap.size + 1 < w5.heap.size := TW5.out.ty.lt)))
     | (go_at_call 65; go_must (refine (mul_any _ _ _ _ L (LD L n) _ (hy.below (by repeat (first | exact Below.refl _ _ | refine Below.alloc ?_ (by first | omega | (simp <;> omega)) _))) (H4.out.2.2.2.2.2.below (by repeat (first | exact Below.refl _ _ | refine Below.trans ?_ (hb5.mono (by first | omega | (simp <;> omega))) | refine Below.drew ?_ | refine Below.alloc ?_ (by first | omega | (simp <;> omega)) _))) (by omega) (by have := HLD.out; have := LD_mono L n; omega)).mono ?_; rintro e w6 ⟨q, rfl, hq, hb6⟩; have HB46 : Hid (Below w4.heap.size w4 w6) := Hid.mk (Below.trans (by repeat (first | exact Below.refl _ _ | refine Below.trans ?_ (hb5.mono (by first | omega | (simp <;> omega))) | refine Below.drew ?_ | refine Below.alloc ?_ (by first | omega | (simp <;> omega)) _)) (hb6.mono (by first | omega | (simp <;> omega)))); obtain ⟨nq, qo, mq, qcap, rfl⟩ := hq.shape; obtain ⟨hc6, hf6⟩ := bcell hb6; have hsz6 := hb6.size; try (have TW := Hid.mk (Duo.below (Duo.new w5 (.bool false) (.slice none 0 0) rfl) hb6 (by simp)); obtain ⟨t1, t2, t3, t4⟩ := TW.out.cells); try (have TW := Hid.mk (TW5.out.below hb6 (by have := TW5.out.ty.lt; omega)); obtain ⟨t1, t2, t3, t4⟩ := TW.out.cells))))
    all_goals
     go_wp2_with fail
     go_meet
     case rel =>
      first
       | exact PartOut.made hq HB46.out
       | exact PartOut.stored TW.out (Nat.le_of_lt hsz5) hq HB46.out
       | exact PartOut.stored TW.out (Nat.le_succ _) hq HB46.out
       | exact PartOut.stored (TW5.out.below hb6 l5) (Nat.le_succ _) hq HB46.out
   case rest =>
    obtain ⟨pb, nq, qo, mq, qcap, rfl, hpb, hTwo, hq, hbc⟩ := hcut
    obtain ⟨hx4, hI4, hgr4, hB4, -, -⟩ := H4.out
    have hxC := hx4.below hbc
    have hIC := hI4.below hbc
    have hgC := grown_below hgr4 hbc
    have hBC : Below w.heap.size w wc := hB4.trans (hbc.mono hB4.size)
    have hTC : Ty wc sb 79 := HTS.out.below hbc HTS.out.lt
    have hf0 : zs.getD k 0 = f 0 k := by have := HREP.out 0 k (by omega) (by have := HR.out; omega); simpa using this
    have hltp : pb < wc.heap.size := hTwo.ty.lt
    rw [hf0] at hq
    clear H4 hx4 hI4 hgr4 hB4 hbc m0' m1' m2' hf0
    by_cases hodd : k % 2 = 1
    ·have hod : ((k : Int) % 2 == 1) = true := beq_iff_eq.2 (by omega)
     have HZZ0 : Hid (-(f 0 k * detF n fun i j => f (i + 1) (skip k j)) = signed k (f 0 k * detF n fun i j => f (i + 1) (skip k j))) := Hid.mk (by unfold signed; rw [if_pos hodd])
     clear hodd
     have HC := Hid.mk (And.intro hxC (And.intro hIC (And.intro hgC (And.intro hBC (And.intro hTC (And.intro hTwo hq))))))
     obtain ⟨t1, t2, t3, t4⟩ := hTwo.cells
     clear hxC hIC hgC hBC hTC hTwo hq
     go_wp2_with fail
     refine (neg_any _ _ _ _ HC.out.2.2.2.2.2.2).mono ?_
     rintro e w7 ⟨r, rfl, hr, hb7⟩
     obtain ⟨nz7, oz7, mz7, cz7, rfl⟩ := hr.shape
     obtain ⟨hxC, hIC, hgC, hBC, hTC, hTwo, -⟩ := HC.out
     have hT7 := hTwo.below hb7 hltp
     have hx7 := hxC.below hb7
     obtain ⟨t5, t6, t7, t8⟩ := hT7.cells
     have hku : KU w7 ((w7.setCell ⟨pb, 0, none⟩ (.bool nz7)).setCell ⟨pb, 1, none⟩ (.slice oz7 mz7 cz7)) := KU.setCell (KU.setCell (KU.refl _) hT7.ty (by decide) _) (hT7.ty.setCell _ _) (by decide) _
     have hPX : IsI ((w7.setCell ⟨pb, 0, none⟩ (.bool nz7)).setCell ⟨pb, 1, none⟩ (.slice oz7 mz7 cz7)) (.agg #[.bool nz7, .slice oz7 mz7 cz7]) (-(f 0 k * detF n fun i j => f (i + 1) (skip k j))) (L + LD L n) := hr.keep hku
     have hIX := (hIC.below hb7).keep hku
     have hxX : Boxes ((w7.setCell ⟨pb, 0, none⟩ (.bool nz7)).setCell ⟨pb, 1, none⟩ (.slice oz7 mz7 cz7)) w.heap.size sb R R (.slice ao N cap) nb (.slice bo m ecap) := hx7.other (by omega) (by omega)
     have hgX : W1.grownBy ((w7.setCell ⟨pb, 0, none⟩ (.bool nz7)).setCell ⟨pb, 1, none⟩ (.slice oz7 mz7 cz7)) (some sb) := grown_new (grown_below hgC hb7) (by have := HS.out; omega)
     have hBX : Below w.heap.size w ((w7.setCell ⟨pb, 0, none⟩ (.bool nz7)).setCell ⟨pb, 1, none⟩ (.slice oz7 mz7 cz7)) := ((hBC.trans (hb7.mono hBC.size)).setCell (by simp; omega) _).setCell (by simp; omega) _
     have hTX := ((hTC.below hb7 hTC.lt).setCell ⟨pb, 0, none⟩ (.bool nz7)).setCell ⟨pb, 1, none⟩ (.slice oz7 mz7 cz7)
     obtain ⟨q0, q1, q2, q3, q4, q5, q6⟩ := id hxX
     obtain ⟨y1, y2, y3, y4⟩ := (hT7.put (.bool nz7) (.slice oz7 mz7 cz7)).cells
     generalize hzz : -(f 0 k * detF n fun i j => f (i + 1) (skip k j)) = zz at hPX HZZ0
     have HZZ := HZZ0
     clear HZZ0 hzz hr hb7 hT7 hx7 hku hxC hIC hgC hBC hTC hTwo t1 t2 t3 t4
     have P := Hid.mk (And.intro hPX (And.intro hIX (And.intro hxX (And.intro hgX (And.intro hBX hTX)))))
     clear hPX hIX hxX hgX hBX hTX HC
     go_wp2_with fail
     obtain ⟨hPX, hIX, hxX, hgX, hBX, hTX⟩ := P.out
     refine (add_any _ _ S zz (L + LD L n + k) (L + LD L n) _ hIX hPX (by have := HLD.out; rw [LD] at this; omega) (by have := HLD.out; rw [LD] at this; omega)).mono ?_
     rintro e w9 ⟨r2, rfl, hr2, hb9⟩
     obtain ⟨nb2, bo2, m2, ec2, rfl⟩ := hr2.shape
     have hx9 := hxX.below hb9
     have hg9 := grown_below hgX hb9
     have hB9 : Below w.heap.size w w9 := hBX.trans (hb9.mono hBX.size)
     obtain ⟨-, -, -, s0, s1, z0, z1⟩ := id hx9
     have hty9 : Ty w9 sb 79 := hTX.below hb9 hTX.lt
     have H9 := Hid.mk (And.intro hx9 (And.intro hg9 (And.intro hB9 (And.intro hr2 hty9))))
     clear hx9 hg9 hB9 hr2 hty9 hb9 hxX hIX hPX hgX hBX hTX P t5 t6 t7 t8 q0 q1 q2 q3 q4 q5 q6 y1 y2 y3 y4
     go_wp2_with fail
     go_roundg (R - (k + 1))
     case measure => have := HSUM.out.1; omega
     case rel =>
      obtain ⟨hx9, hg9, hB9, hr2, hty9⟩ := H9.out
      refine ⟨k + 1, S + zz, nb2, bo2, m2, ec2, by omega, by go_num, (hty9.setCell _ _).setCell _ _, hx9.put (by omega), (hr2.mono (by omega)).keep (KU.setCell (KU.setCell (KU.refl _) hty9 (by decide) _) (hty9.setCell _ _) (by decide) _), grown_put2 hg9, (hB9.setCell (by simp; omega) _).setCell (by simp; omega) _, Hid.mk ⟨rfl, ?_⟩⟩
      rw [← sum_next HSUM.out.2, HZZ.out]
    ·have hod : ((k : Int) % 2 == 1) = false := beq_eq_false_iff_ne.2 (by omega)
     have HZZ0 : Hid ((f 0 k * detF n fun i j => f (i + 1) (skip k j)) = signed k (f 0 k * detF n fun i j => f (i + 1) (skip k j))) := Hid.mk (by unfold signed; rw [if_neg hodd])
     clear hodd
     obtain ⟨q0, q1, q2, q3, q4, q5, q6⟩ := id hxC
     obtain ⟨y1, y2, y3, y4⟩ := hTwo.cells
     generalize hzz : (f 0 k * detF n fun i j => f (i + 1) (skip k j)) = zz at hq HZZ0
     have HZZ : Hid (zz = signed k (f 0 k * detF n fun i j => f (i + 1) (skip k j))) := Hid.mk (by rw [hzz]; exact HZZ0.out)
     have P := Hid.mk (And.intro hq (And.intro hIC (And.intro hxC (And.intro hgC (And.intro hBC hTC)))))
     clear HZZ0 hzz hq hIC hxC hgC hBC hTC hTwo
     go_wp2_with fail
     obtain ⟨hPX, hIX, hxX, hgX, hBX, hTX⟩ := P.out
     refine (add_any _ _ S zz (L + LD L n + k) (L + LD L n) _ hIX hPX (by have := HLD.out; rw [LD] at this; omega) (by have := HLD.out; rw [LD] at this; omega)).mono ?_
     rintro e w9 ⟨r2, rfl, hr2, hb9⟩
     obtain ⟨nb2, bo2, m2, ec2, rfl⟩ := hr2.shape
     have hx9 := hxX.below hb9
     have hg9 := grown_below hgX hb9
     have hB9 : Below w.heap.size w w9 := hBX.trans (hb9.mono hBX.size)
     obtain ⟨-, -, -, s0, s1, z0, z1⟩ := id hx9
     have hty9 : Ty w9 sb 79 := hTX.below hb9 hTX.lt
     have H9 := Hid.mk (And.intro hx9 (And.intro hg9 (And.intro hB9 (And.intro hr2 hty9))))
     clear hx9 hg9 hB9 hr2 hty9 hb9 hxX hIX hPX hgX hBX hTX P q0 q1 q2 q3 q4 q5 q6 y1 y2 y3 y4
     go_wp2_with fail
     go_roundg (R - (k + 1))
     case measure => have := HSUM.out.1; omega
     case rel =>
      obtain ⟨hx9, hg9, hB9, hr2, hty9⟩ := H9.out
      refine ⟨k + 1, S + zz, nb2, bo2, m2, ec2, by omega, by go_num, (hty9.setCell _ _).setCell _ _, hx9.put (by omega), (hr2.mono (by omega)).keep (KU.setCell (KU.setCell (KU.refl _) hty9 (by decide) _) (hty9.setCell _ _) (by decide) _), grown_put2 hg9, (hB9.setCell (by simp; omega) _).setCell (by simp; omega) _, Hid.mk ⟨rfl, ?_⟩⟩
      rw [← sum_next HSUM.out.2, HZZ.out]
  ·have hres : wr.heap[w.heap.size + 1]? = some (.cells #[.bool false, .slice none 0 0] 79 (0, 0)) := by
    rw [HG.out.block _ (by have := HS.out; omega) (by simp; omega)]; exact FR.out
   have hTr : Duo wr (w.heap.size + 1) (.bool false) (.slice none 0 0) := hres
   obtain ⟨r0, r1, r2, r3⟩ := hTr.cells
   have HTR := Hid.mk hTr
   clear hres hTr
   go_wp2_with fail
   refine bodyPost_ret (v := .agg #[.bool nb, .slice bo m ecap]) ?_ rfl ?_
   ·(simp [results, Tryz.results39, go_sem, r0, r1]; done)
   ·have hkk : k = n + 1 := by have := HR.out; omega
    refine ⟨_, rfl, ?_, (HB.out.setCell (by simp) _).setCell (by simp) _⟩
    have h1 : S = detF R f := by rw [HSUM.out.2, hkk, HR.out, detF]
    rw [← h1]
    refine (HI.out.mono ?_).keep (KU.setCell (KU.setCell (KU.refl _) HTR.out.ty (by decide) _) (HTR.out.ty.setCell _ _) (by decide) _)
    rw [HR.out, LD, hkk]
    exact Nat.le_refl _
theorem det_any (n : Nat) : DetSaid n := by
 induction n with
 | zero => exact det_zero
 | succ n ih => exact det_succ n ih
open Go.RowKit R
def DetRel (ms : List Hm) (h : Int) (t : List UInt8) (e : Int) : Prop :=
 ((∀ i, i < 24 → ∀ x, ms.getD i none = some x → (x.1 : Int) ≠ h) ∧ t = [] ∧ e = 2) ∨
 ∃ i hd r c zs, i < 24 ∧ ms.getD i none = some (hd, r, c, zs) ∧ ((hd : Nat) : Int) = h ∧ ((r ≠ c ∧ t = [] ∧ e = 3) ∨ (r = c ∧ ¬ FitsP r c zs ∧ t = [] ∧ e = 4) ∨ (r = c ∧ FitsP r c zs ∧ t = Lib.itoa (detF r (gz c zs)) ∧ e = 0))
def RkRel (ms : List Hm) (h z e : Int) : Prop :=
 ((∀ i, i < 24 → ∀ x, ms.getD i none = some x → (x.1 : Int) ≠ h) ∧ z = -1 ∧ e = 2) ∨
 ∃ i hd r c zs, i < 24 ∧ ms.getD i none = some (hd, r, c, zs) ∧ ((hd : Nat) : Int) = h ∧ ((¬ FitsP r c zs ∧ z = -1 ∧ e = 4) ∨ (FitsP r c zs ∧ e = 0 ∧ ∃ k : Nat, z = (k : Int) ∧ RankIs (gz c zs) r c k))
set_option maxRecDepth 100000 in
set_option maxHeartbeats 2000000 in
theorem rank_held (b : Nat) (h : Int) (ms : List Hm) (nx : Nat) (w : World) (hst : Held w b ms nx) :
 Calls Tryz.prog 16 #[.pointer (some ⟨b, 0, none⟩), .int .i64 h] w fun x w' => ∃ z e, x = .returned (.tuple #[.int .i64 z, .int .i64 e]) ∧ RkRel ms h z e ∧ Below w.heap.size w w' := by
 have H := Hid.mk hst
 clear hst
 go_enter Tryz.func16, Tryz.ntmps16
 go_wp2_with fail
 refine (find_held b h ms nx _ H.out).mono ?_
 rintro e w1 ⟨⟨r, c, ao, n, cap, ok, rfl, hf⟩, hb1⟩
 have hbA := (Below.refl w1.heap.size w1).alloc (Nat.le_refl _) (.cells #[.int .i64 r, .int .i64 c, .slice ao n cap] 66)
 have hbw := hb1.trans (hbA.mono hb1.size)
 have hw1 := hb1.size
 rcases id hf with ⟨rfl, i, hd, zs, hi, hgi, hgh, hM⟩ | ⟨rfl, hno⟩
 ·have K1 := Hid.mk (And.intro (hM.below hbA) (And.intro hbw (And.intro hi (And.intro hgi hgh))))
  clear hf hM hb1 hbA hbw hi hgi hgh
  go_wp2_with fail
  refine (tooBig_any _ r c zs 200000000 _ K1.out.1 (by omega)).mono ?_
  rintro e w2 ⟨fb, rfl, hfo, hb2⟩
  have hs2 : w1.heap.size + 1 ≤ w2.heap.size := by have := hb2.size; simpa using this
  have m0 : w2.cell? ⟨w1.heap.size, 0, none⟩ = some (.int .i64 r) := cell_later hb2 (by simp)
  have m1 : w2.cell? ⟨w1.heap.size, 1, none⟩ = some (.int .i64 c) := cell_later hb2 (by simp)
  have m2 : w2.cell? ⟨w1.heap.size, 2, none⟩ = some (.slice ao n cap) := cell_later hb2 (by simp)
  have K2 := Hid.mk (And.intro (K1.out.1.below hb2) (And.intro (K1.out.2.1.trans (hb2.mono K1.out.2.1.size)) hfo))
  clear hb2 hfo
  cases fb
  ·have HNF : Hid (¬ FitsP r c zs) := Hid.mk (fun h => by have := K2.out.2.2.2 h; cases this)
   go_wp2_with fail
   go_ret2
   exact ⟨_, _, rfl, .inr ⟨i, hd, r, c, zs, K1.out.2.2.1, K1.out.2.2.2.1, K1.out.2.2.2.2, .inl ⟨HNF.out, rfl, rfl⟩⟩, K2.out.2.1⟩
  ·have HFP : Hid (FitsP r c zs) := Hid.mk (K2.out.2.2.1 rfl)
   go_wp2_with fail
   refine (gech_fit _ r c zs 2 _ (K2.out.1.tight HFP.out) HFP.out.1 HFP.out.2.1 HFP.out.ent (by omega)).mono ?_
   rintro e w3 ⟨v3, k, pc, hs, us, ws, rfl, ⟨sH, sU, sW, rfl, m3, m4, m5⟩, hk, hE, -, hb3, -⟩
   obtain ⟨oH, cH, rfl⟩ := m3.slice
   obtain ⟨oU, cU, rfl⟩ := m4.slice
   obtain ⟨oW, cW, rfl⟩ := m5.slice
   clear m3 m4 m5
   have K3 := Hid.mk (And.intro (ech_rankIs hk hE HFP.out.1 HFP.out.2.1) (K2.out.2.1.trans (hb3.mono K2.out.2.1.size)))
   clear hk hE hb3 m0 m1 m2
   have hfd := field_rank (.int .i64 r) (.int .i64 c) (.slice oH (r * c) cH) (.int .i64 r) (.int .i64 r) (.slice oU (r * r) cU) (.int .i64 r) (.int .i64 r) (.slice oW (r * r) cW) (k : Int)
   go_wp2_with fail
   go_ret2
   exact ⟨_, _, rfl, .inr ⟨i, hd, r, c, zs, K1.out.2.2.1, K1.out.2.2.2.1, K1.out.2.2.2.2, .inr ⟨HFP.out, rfl, k, rfl, K3.out.1⟩⟩, K3.out.2⟩
 ·have KN := Hid.mk (And.intro hno hbw)
  clear hno hbw hb1 hbA hf
  go_wp2_with fail
  go_ret2
  exact ⟨_, _, rfl, .inl ⟨KN.out.1, rfl, rfl⟩, KN.out.2⟩
theorem sq_is {w : World} {v : Value} {r c : Nat} {zs : List Int} {L : Nat} (e : r = c) (h : IsM w v r c zs L) : IsM w v r r zs L := by subst e; exact h
theorem LD_small (n : Nat) (h : n ≤ 4) : LD 2 n ≤ 100 := by
 obtain rfl | rfl | rfl | rfl | rfl : n = 0 ∨ n = 1 ∨ n = 2 ∨ n = 3 ∨ n = 4 := by omega
 all_goals decide
set_option maxRecDepth 100000 in
set_option maxHeartbeats 2000000 in
theorem det_held (b : Nat) (h : Int) (ms : List Hm) (nx : Nat) (w : World) (hst : Held w b ms nx) (htab : Tab w) :
 Calls Tryz.prog 17 #[.pointer (some ⟨b, 0, none⟩), .int .i64 h] w fun x w' => ∃ t e, x = .returned (.tuple #[.string ⟨t.toArray⟩, .int .i64 e]) ∧ DetRel ms h t e ∧ Below w.heap.size w w' := by
 have H := Hid.mk (And.intro hst htab)
 clear hst htab
 go_enter Tryz.func17, Tryz.ntmps17
 go_wp2_with fail
 refine (find_held b h ms nx _ H.out.1).mono ?_
 rintro e w1 ⟨⟨r, c, ao, n, cap, ok, rfl, hf⟩, hb1⟩
 have hbA := (Below.refl w1.heap.size w1).alloc (Nat.le_refl _) (.cells #[.int .i64 r, .int .i64 c, .slice ao n cap] 66)
 have hbw := hb1.trans (hbA.mono hb1.size)
 have hw1 := hb1.size
 rcases id hf with ⟨rfl, i, hd, zs, hi, hgi, hgh, hM⟩ | ⟨rfl, hno⟩
 ·have K1 := Hid.mk (And.intro (hM.below hbA) (And.intro hbw (And.intro hi (And.intro hgi hgh))))
  clear hf hM hb1 hbA hbw hi hgi hgh
  have hbS := (Below.refl (w1.alloc (.cells #[.int .i64 r, .int .i64 c, .slice ao n cap] 66)).heap.size (w1.alloc (.cells #[.int .i64 r, .int .i64 c, .slice ao n cap] 66))).alloc (Nat.le_refl _) (.cells #[.int .i64 r, .int .i64 c, .slice ao n cap] 66)
  have KS := Hid.mk (And.intro (K1.out.1.below hbS) (K1.out.2.1.trans (hbS.mono K1.out.2.1.size)))
  clear hbS
  by_cases hrc : r = c
  ·have hsq : ((r : Int) == (c : Int)) = true := beq_iff_eq.2 (by omega)
   have HRC := Hid.mk hrc
   clear hrc
   go_wp2_with (go_at_call 38; refine (isSquare_raw _ _ _ _ _ _).mono ?_; rintro e w' ⟨rfl, rfl⟩)
   refine (tooBig_any _ r c zs 200000000 _ KS.out.1 (by omega)).mono ?_
   rintro e w2 ⟨fb, rfl, hfo, hb2⟩
   have hs2 : w1.heap.size + 1 + 1 ≤ w2.heap.size := by have := hb2.size; simpa using this
   have m0 : w2.cell? ⟨w1.heap.size, 0, none⟩ = some (.int .i64 r) := cell_later hb2 (by simp)
   have m1 : w2.cell? ⟨w1.heap.size, 1, none⟩ = some (.int .i64 c) := cell_later hb2 (by simp)
   have m2 : w2.cell? ⟨w1.heap.size, 2, none⟩ = some (.slice ao n cap) := cell_later hb2 (by simp)
   have K2 := Hid.mk (And.intro (KS.out.1.below hb2) (And.intro (KS.out.2.trans (hb2.mono KS.out.2.size)) hfo))
   clear hb2 hfo
   cases fb
   ·have HNF : Hid (¬ FitsP r c zs) := Hid.mk (fun h => by have := K2.out.2.2.2 h; cases this)
    go_wp2_with fail
    go_ret2
    exact ⟨[], _, rfl, .inr ⟨i, hd, r, c, zs, K1.out.2.2.1, K1.out.2.2.2.1, K1.out.2.2.2.2, .inr (.inl ⟨HRC.out, HNF.out, rfl, rfl⟩)⟩, K2.out.2.1⟩
   ·have HFP : Hid (FitsP r c zs) := Hid.mk (K2.out.2.2.1 rfl)
    have HL : Hid (LD 2 r ≤ 100) := Hid.mk (LD_small r HFP.out.1)
    go_wp2_with fail
    refine (det_any r _ zs (gz c zs) 2 _ (sq_is HRC.out (K2.out.1.tight HFP.out)) (by rw [HRC.out]; exact fun _ _ _ _ => rfl) (by have := HL.out; omega) (by omega)).mono ?_
    rintro e w3 ⟨x, rfl, hx, hb3⟩
    obtain ⟨nx0, xo, xn, xcap, rfl⟩ := hx.shape
    have K3 := Hid.mk (And.intro hx (And.intro (K2.out.2.1.trans (hb3.mono K2.out.2.1.size)) (H.out.2.below (K2.out.2.1.trans (hb3.mono K2.out.2.1.size)))))
    clear hx hb3 m0 m1 m2
    go_wp2_with fail
    refine (decimal_any _ _ _ _ K3.out.1 (by have := HL.out; omega) K3.out.2.2).mono ?_
    rintro e w4 ⟨rfl, hb4⟩
    have K4 := Hid.mk (K3.out.2.1.trans (hb4.mono K3.out.2.1.size))
    clear hb4
    go_wp2_with fail
    go_ret2
    exact ⟨_, _, rfl, .inr ⟨i, hd, r, c, zs, K1.out.2.2.1, K1.out.2.2.2.1, K1.out.2.2.2.2, .inr (.inr ⟨HRC.out, HFP.out, rfl, rfl⟩)⟩, K4.out⟩
  ·have hsq : ((r : Int) == (c : Int)) = false := beq_eq_false_iff_ne.2 (by omega)
   have HRC := Hid.mk hrc
   clear hrc
   go_wp2_with (go_at_call 38; refine (isSquare_raw _ _ _ _ _ _).mono ?_; rintro e w' ⟨rfl, rfl⟩)
   go_ret2
   exact ⟨[], _, rfl, .inr ⟨i, hd, r, c, zs, K1.out.2.2.1, K1.out.2.2.2.1, K1.out.2.2.2.2, .inl ⟨HRC.out, rfl, rfl⟩⟩, KS.out.2⟩
 ·have KN := Hid.mk (And.intro hno hbw)
  clear hno hbw hb1 hbA hf
  go_wp2_with fail
  go_ret2
  exact ⟨[], _, rfl, .inl ⟨KN.out.1, rfl, rfl⟩, KN.out.2⟩
open Go.RowKit
theorem hm_ext {a b : List Hm} (h : a.length = 24) (h' : b.length = 24) (he : ∀ k, k < 24 → a.getD k none = b.getD k none) : a = b := by
 apply List.ext_getElem (by omega)
 intro k h1 h2
 have := he k (by omega)
 rw [List.getD, List.getD, List.getElem?_eq_getElem h1, List.getElem?_eq_getElem h2] at this
 simpa using this
open Go.RowKit
theorem itoa_digit (n : Nat) (h : n < 10) : Lib.itoa (n : Int) = [UInt8.ofNat (48 + n)] := by rw [Lib.itoa_nonneg, Lib.decDigits_one h]
theorem itoa_more (n : Nat) (h : ¬ n < 10) : Lib.itoa (n : Int) = Lib.itoa ((n / 10 : Nat) : Int) ++ [UInt8.ofNat (48 + n % 10)] := by
 rw [Lib.itoa_nonneg, Lib.itoa_nonneg, decDigits_big h]
theorem byte_str (w : World) (d : Nat) (hd : d < 10) (z : Int) (hz : z = 48 + (d : Int)) (bt : UInt8) (hbt : bt = UInt8.ofNat (48 + d)) :
 (convert 85 9 (.slice (some ⟨w.heap.size, 0, none⟩) 1 1)).run Tryz.prog (w.alloc (.cells #[.int .u8 z] 5)) = .ok (.string ⟨[bt].toArray⟩) (w.alloc (.cells #[.int .u8 z] 5)) := by
 subst hbt
 have h := run_convert_bytes_back (P := Tryz.prog) (w.alloc (.cells #[.int .u8 z] 5)) 85 9 5 ⟨w.heap.size, 0, none⟩ 1 [UInt8.ofNat (48 + d)] Tryz.underlying85 Tryz.underlying5 Tryz.underlying9 (fun j hj => by
  have hj0 : j = 0 := by simpa using hj
  subst hj0
  rw [Lib.add_plain, World.cell?_alloc_new]
  have e : ((UInt8.ofNat (48 + d)).toNat : Int) = z := by
   rw [hz, UInt8.toNat_ofNat', Nat.mod_eq_of_lt (by omega)]; omega
  simp only [List.getElem_cons_zero]
  rw [e]
  rfl)
 exact h
set_option maxRecDepth 100000 in
set_option maxHeartbeats 1000000 in
theorem number_nat (f : Nat) : ∀ (n : Nat) (w : World), n ≤ f → n ≤ 4611686018427387904 →
 Calls Tryz.prog 21 #[.int .i64 n] w fun e w' => e = .returned (.string ⟨(Lib.itoa (n : Int)).toArray⟩) ∧ Below w.heap.size w w' := by
 induction f with
 | zero =>
   intro n w hf hn
   have h0 : n < 10 := by omega
   obtain ⟨bt, hbt⟩ : ∃ bt, bt = UInt8.ofNat (48 + n % 10) := ⟨_, rfl⟩
   have hcv := byte_str w (n % 10) (by omega) (48 + (n : Int) % 10) (by omega) bt hbt
   have HBT := Hid.mk hbt
   clear hbt
   go_enter Tryz.func21, Tryz.ntmps21
   go_wp2_with fail
   go_ret
   refine ⟨?_, (Below.refl _ _).alloc (Nat.le_refl _) _⟩
   rw [itoa_digit n h0]
   exact ret_str (by rw [HBT.out, Nat.mod_eq_of_lt h0])
 | succ f ih =>
   intro n w hf hn
   by_cases h0 : n < 10
   ·obtain ⟨bt, hbt⟩ : ∃ bt, bt = UInt8.ofNat (48 + n % 10) := ⟨_, rfl⟩
    have hcv := byte_str w (n % 10) (by omega) (48 + (n : Int) % 10) (by omega) bt hbt
    have HBT := Hid.mk hbt
    clear hbt
    clear ih
    go_enter Tryz.func21, Tryz.ntmps21
    go_wp2_with fail
    go_ret
    refine ⟨?_, (Below.refl _ _).alloc (Nat.le_refl _) _⟩
    rw [itoa_digit n h0]
    exact ret_str (by rw [HBT.out, Nat.mod_eq_of_lt h0])
   ·obtain ⟨bt, hbt⟩ : ∃ bt, bt = UInt8.ofNat (48 + n % 10) := ⟨_, rfl⟩
    have hcv := byte_str w (n % 10) (by omega) (48 + (n : Int) % 10) (by omega) bt hbt
    have HBT := Hid.mk hbt
    clear hbt
    have HIH := Hid.mk ih
    clear ih
    have hlen : (Lib.itoa ((n / 10 : Nat) : Int)).length ≤ 40 := by
     have := Lib.itoa_length_le ((n / 10 : Nat) : Int) (by omega) (by omega)
     omega
    go_enter Tryz.func21, Tryz.ntmps21
    go_wp2_with fail
    rw [show (n : Int) / 10 = ((n / 10 : Nat) : Int) from by omega]
    refine (HIH.out (n / 10) _ (by omega) (by omega)).mono ?_
    rintro e w2 ⟨rfl, hb⟩
    generalize hT : Lib.itoa ((n / 10 : Nat) : Int) = T at *
    have HT := Hid.mk hT
    clear hT
    go_wp2_with fail
    go_ret
    refine ⟨?_, ((Below.refl w.heap.size w).alloc (Nat.le_refl _) _).trans (hb.mono (by simp))⟩
    rw [itoa_more n h0, HT.out, ← HBT.out]
    exact ret_str (str_app T [bt])
theorem number_any (z : Int) (w : World) (h1 : -4611686018427387904 ≤ z) (h2 : z ≤ 4611686018427387904) :
 Calls Tryz.prog 21 #[.int .i64 z] w fun e w' => e = .returned (.string ⟨(Lib.itoa z).toArray⟩) ∧ Below w.heap.size w w' := by
 by_cases hz : z < 0
 ·obtain ⟨u, rfl⟩ : ∃ u : Nat, z = -(u : Int) := ⟨z.natAbs, by omega⟩
  have hu : 1 ≤ u := by omega
  have hlen : (Lib.itoa (u : Int)).length ≤ 40 := by
   have := Lib.itoa_length_le (u : Int) (by omega) (by omega)
   omega
  go_enter Tryz.func21, Tryz.ntmps21
  go_wp2_with fail
  refine (number_nat u u _ (Nat.le_refl _) (by omega)).mono ?_
  rintro e w2 ⟨rfl, hb⟩
  generalize hT : Lib.itoa (u : Int) = T at *
  have HT := Hid.mk hT
  clear hT
  go_wp2_with fail
  go_ret
  refine ⟨?_, hb⟩
  rw [Lib.itoa_neg u hu, ← Lib.itoa_nonneg, HT.out]
  exact ret_str (str_app [45] _)
 ·obtain ⟨u, rfl⟩ : ∃ u : Nat, z = (u : Int) := ⟨z.natAbs, by omega⟩
  exact number_nat u u w (Nat.le_refl _) (by omega)
open Go.RowKit
open Go.RowKit
open Go.RowKit
theorem pick_any (c n : Int) (w : World) (hc1 : -9223372036854775808 ≤ c) (hc2 : c ≤ 9223372036854775807) (hn : 0 < n) (hn2 : n ≤ 4294967296) :
 Calls Tryz.prog 12 #[.int .i64 c, .int .i64 n] w fun e w' => (∃ v : Nat, e = .returned (.int .i64 (v : Nat)) ∧ (v : Int) < n) ∧ w' = w := by
 by_cases h0 : c < 0
 ·have hn0 : n ≠ 0 := by omega
  go_enter Tryz.func12, Tryz.ntmps12
  go_wp2_with fail
  go_ret
  refine ⟨⟨((-(c + 1)) % n).toNat, ?_, ?_⟩, rfl⟩
  ·refine ret_int ?_
   have h1 := Int.emod_nonneg (-(c + 1)) hn0
   have h2 : (-(c + 1)).tmod n = (-(c + 1)) % n := Int.tmod_eq_emod_of_nonneg (by omega)
   rw [Int.neg_tmod] at h2
   omega
  ·have := Int.emod_lt_of_pos (-(c + 1)) hn; have := Int.emod_nonneg (-(c + 1)) hn0; omega
 ·have hn0 : n ≠ 0 := by omega
  go_enter Tryz.func12, Tryz.ntmps12
  go_wp2_with fail
  go_ret
  refine ⟨⟨(c % n).toNat, ?_, ?_⟩, rfl⟩
  ·exact ret_int (by have := Int.emod_nonneg c hn0; omega)
  ·have := Int.emod_lt_of_pos c hn; have := Int.emod_nonneg c hn0; omega
def Dk (w : World) (d b : Nat) : Prop := w.heap[d]? = some (.cells #[.pointer (some ⟨b, 0, none⟩)] 40 (0, 0))
theorem Dk.lt {w : World} {d b : Nat} (h : Dk w d b) : d < w.heap.size := (Array.getElem?_eq_some_iff.1 h).1
theorem Dk.cell {w : World} {d b : Nat} (h : Dk w d b) : w.cell? ⟨d, 0, none⟩ = some (.pointer (some ⟨b, 0, none⟩)) := by unfold Dk at h; simp [World.cell?, h]
theorem Dk.below {B : Nat} {w w' : World} {d b : Nat} (h : Dk w d b) (hb : Below B w w') (hB : d < B) : Dk w' d b := by unfold Dk; rw [hb.block d hB]; exact h
theorem Dk.grown {w w' : World} {d b p : Nat} (h : Dk w d b) (hg : w.grownBy w' (some p)) (hp : p ≠ d) : Dk w' d b := by unfold Dk; rw [hg.block d h.lt (fun e => hp (by injection e with e; exact e.symm))]; exact h
open Go.RowKit
structure KS (B : Nat) (w : World) (d b : Nat) (ms : List Hm) (nx : Nat) : Prop where
 dk : Dk w d b
 held : Held w b ms nx
 tab : ∀ w', Below B w w' → Tab w'
 hb : B ≤ b
 hd : B ≤ d
theorem KS.ne {B : Nat} {w : World} {d b : Nat} {ms : List Hm} {nx : Nat} (h : KS B w d b ms nx) : d ≠ b := by
 rintro rfl
 obtain ⟨c, fr, h1⟩ := h.held.ty
 have h2 := h.dk
 unfold Dk at h2
 rw [h1] at h2
 simp at h2
theorem KS.lo {B : Nat} {w : World} {d b : Nat} {ms : List Hm} {nx : Nat} (h : KS B w d b ms nx) : B ≤ w.heap.size := by have := h.dk.lt; have := h.hd; omega
theorem KS.below {B : Nat} {w w' : World} {d b : Nat} {ms : List Hm} {nx : Nat} (h : KS B w d b ms nx) (hb : Below w.heap.size w w') : KS B w' d b ms nx :=
 ⟨h.dk.below hb h.dk.lt, h.held.below hb, fun w'' hw => h.tab w'' ((hb.mono h.lo).trans hw), h.hb, h.hd⟩
theorem KS.step {B : Nat} {w w' : World} {d b : Nat} {ms ms' : List Hm} {nx nx' : Nat} (h : KS B w d b ms nx) (hH : Held w' b ms' nx') (hF : Fr b w w') : KS B w' d b ms' nx' :=
 ⟨h.dk.grown hF.1 (Ne.symm h.ne), hH, fun w'' hw => h.tab w'' ((hF.below h.hb h.lo).trans hw), h.hb, h.hd⟩
theorem KS.tb {B : Nat} {w : World} {d b : Nat} {ms : List Hm} {nx : Nat} (h : KS B w d b ms nx) : Tab w := h.tab w (Below.refl _ _)
theorem deskK_any (w : World) (ht : Tab w) : Calls Tryz.prog 13 #[] w fun e w' => ∃ d b, e = .returned (.pointer (some ⟨d, 0, none⟩)) ∧ KS w.heap.size w' d b (List.replicate 24 none) 0 ∧ Below w.heap.size w w' := by
 have HT := Hid.mk ht
 clear ht
 go_enter Tryz.func13, Tryz.ntmps13
 go_wp2_with fail
 refine (new_held _).mono ?_
 rintro e w1 ⟨rfl, hs, hb⟩
 have hbl2 := hs.lt
 have H := Hid.mk (And.intro hs hb)
 clear hs hb
 go_wp2_with fail
 go_ret
 have hbA := (Below.refl w1.heap.size w1).alloc (Nat.le_refl _) (.cells #[.pointer (some ⟨w.heap.size, 0, none⟩)] 40)
 exact ⟨w1.heap.size, w.heap.size, rfl, ⟨heap_alloc_new w1 _, H.out.1.below hbA, fun w'' hw => HT.out.below ((H.out.2.trans (hbA.mono H.out.2.size)).trans hw), Nat.le_refl _, H.out.2.size⟩, H.out.2.trans (hbA.mono H.out.2.size)⟩
theorem shown_any (B d b : Nat) (h : Int) (ms : List Hm) (nx : Nat) (w : World) (hk : KS B w d b ms nx) :
 Calls Tryz.prog 20 #[.pointer (some ⟨d, 0, none⟩), .int .i64 h] w fun e w' => ∃ t, e = .returned (.string ⟨t.toArray⟩) ∧ (∃ t0 e0, ShowOut ms h t0 e0 ∧ ((e0 = 0 ∧ t = t0) ∨ (e0 ≠ 0 ∧ t = [63]))) ∧ Below w.heap.size w w' := by
 have c0 := hk.dk.cell
 have H := Hid.mk hk
 clear hk
 go_enter Tryz.func20, Tryz.ntmps20
 go_wp2_with fail
 refine (show_any b h ms nx _ H.out.held H.out.tb).mono ?_
 rintro e w1 ⟨t, e', rfl, hs, hb⟩
 have K := Hid.mk (And.intro hs hb)
 clear hs hb
 by_cases he : e' = 0
 ·subst he
  go_wp2_with fail
  go_ret
  exact ⟨t, rfl, ⟨t, 0, K.out.1, .inl ⟨rfl, rfl⟩⟩, K.out.2⟩
 ·have he' : (e' != 0) = true := by simp [he]
  have HE := Hid.mk he
  clear he
  go_wp2_with fail
  go_ret
  exact ⟨[63], rfl, ⟨t, e', K.out.1, .inr ⟨HE.out, rfl⟩⟩, K.out.2⟩
end Go.Proofs.YtfjbijpagaipnabGreatDoor
