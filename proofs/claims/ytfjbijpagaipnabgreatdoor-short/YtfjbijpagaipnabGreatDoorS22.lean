import Derived.Test.YtfjbijpagaipnabGreatDoorS06
import Derived.Test.YtfjbijpagaipnabGreatDoorS10
import Derived.Deep.CutRange
import Derived.Deep.LoopGhost
import Derived.Test.YtfjbijpagaipnabGreatDoorS09
import Derived.Test.YtfjbijpagaipnabGreatDoorS20
import Derived.Test.YtfjbijpagaipnabGreatDoorS21
import Derived.Lib.ItoaLen
import Derived.Test.YtfjbijpagaipnabGreatDoorS08
namespace Go.Proofs.YtfjbijpagaipnabGreatDoor
open Go.RowKit
theorem at_first (v : Value) (r c col : Nat) (zs : List Int) (L : Nat) (w : World) (hm : IsM w v r c zs L) (h1 : 0 < r) (h2 : col < c) :
 Calls Tryz.prog 64 #[v, .int .i64 0, .int .i64 col] w fun e w' => ∃ x, e = .returned x ∧ IntOut w w' x (zs.getD col 0) L := by
 have := at_in v r c 0 col zs L w hm h1 h2
 rw [Nat.zero_mul, Nat.zero_add] at this
 exact this
theorem Boxes.other {w : World} {b d r c p : Nat} {sl : Value} {nb : Bool} {s x y : Value} (h : Boxes w b d r c sl nb s) (h1 : p ≠ b) (h2 : p ≠ d) : Boxes ((w.setCell ⟨p, 0, none⟩ x).setCell ⟨p, 1, none⟩ y) b d r c sl nb s := by
 have o : ∀ i j : Nat, (⟨p, i, none⟩ : Addr) ≠ ⟨b, j, none⟩ := fun i j e => h1 (by injection e)
 have o2 : ∀ i j : Nat, (⟨p, i, none⟩ : Addr) ≠ ⟨d, j, none⟩ := fun i j e => h2 (by injection e)
 obtain ⟨a1, a2, a3, a4, a5, a6, a7⟩ := h
 refine ⟨?_, ?_, ?_, ?_, ?_, by simpa using a6, by simpa using a7⟩
 ·rw [World.cell?_setCell_other _ _ _ _ (o _ _), World.cell?_setCell_other _ _ _ _ (o _ _)]; exact a1
 ·rw [World.cell?_setCell_other _ _ _ _ (o _ _), World.cell?_setCell_other _ _ _ _ (o _ _)]; exact a2
 ·rw [World.cell?_setCell_other _ _ _ _ (o _ _), World.cell?_setCell_other _ _ _ _ (o _ _)]; exact a3
 ·rw [World.cell?_setCell_other _ _ _ _ (o2 _ _), World.cell?_setCell_other _ _ _ _ (o2 _ _)]; exact a4
 ·rw [World.cell?_setCell_other _ _ _ _ (o2 _ _), World.cell?_setCell_other _ _ _ _ (o2 _ _)]; exact a5
def PartOut (w4 : World) (z : Int) (L : Nat) (p : Value) (wx : World) : Prop := ∃ (pb : Nat) (nq : Bool) (qo : Option Addr) (mq qcap : Nat), p = .pointer (some ⟨pb, 0, none⟩) ∧ w4.heap.size ≤ pb ∧ Duo wx pb (.bool nq) (.slice qo mq qcap) ∧ IsI wx (.agg #[.bool nq, .slice qo mq qcap]) z L ∧ Below w4.heap.size w4 wx
theorem PartOut.made {w4 w6 : World} {z : Int} {L : Nat} {nq : Bool} {qo : Option Addr} {mq qcap : Nat} (hq : IsI w6 (.agg #[.bool nq, .slice qo mq qcap]) z L) (hb : Below w4.heap.size w4 w6) :
 PartOut w4 z L (.pointer (some ⟨w6.heap.size, 0, none⟩)) (w6.alloc (.cells #[.bool nq, .slice qo mq qcap] 79)) :=
 ⟨_, nq, qo, mq, qcap, rfl, hb.size, Duo.new _ _ _ rfl, hq.below ((Below.refl _ _).alloc (Nat.le_refl _) _), hb.alloc hb.size _⟩
theorem PartOut.stored {w4 w6 : World} {z : Int} {L b : Nat} {nq : Bool} {qo : Option Addr} {mq qcap : Nat} {x y : Value} (ht : Duo w6 b x y) (hle : w4.heap.size ≤ b) (hq : IsI w6 (.agg #[.bool nq, .slice qo mq qcap]) z L) (hb : Below w4.heap.size w4 w6) :
 PartOut w4 z L (.pointer (some ⟨b, 0, none⟩)) ((w6.setCell ⟨b, 0, none⟩ (.bool nq)).setCell ⟨b, 1, none⟩ (.slice qo mq qcap)) :=
 ⟨_, nq, qo, mq, qcap, rfl, hle, ht.put _ _, hq.keep (KU.setCell (KU.setCell (KU.refl _) ht.ty (by decide) _) (ht.ty.setCell _ _) (by decide) _), (hb.setCell hle _).setCell hle _⟩
theorem sum_next {n k : Nat} {f : Nat → Nat → Int} {S : Int} (h : S = sumF k fun c => signed c (f 0 c * detF n fun i j => f (i + 1) (skip c j))) :
 S + signed k (f 0 k * detF n fun i j => f (i + 1) (skip k j)) = sumF (k + 1) fun c => signed c (f 0 c * detF n fun i j => f (i + 1) (skip c j)) := by rw [sumF, h]
set_option maxRecDepth 100000 in
set_option maxHeartbeats 4000000 in
theorem det_succ (n : Nat) (ih : DetSaid n) : DetSaid (n + 1) := by
 intro v zs f L w hm hrep hl hL
 have HIH := Hid.mk ih
 have HREP := Hid.mk hrep
 have HLD := Hid.mk hl
 have HM := Hid.mk hm
 clear ih hrep hl
 obtain ⟨hr, _, sl, rfl, hg0⟩ := hm
 obtain ⟨ao, cap, rfl, -⟩ := hg0.shape
 clear hg0
 obtain ⟨R, hR⟩ : ∃ R, R = n + 1 := ⟨_, rfl⟩
 obtain ⟨N, hN⟩ : ∃ N, N = (n + 1) * (n + 1) := ⟨_, rfl⟩
 rw [← hN] at HM ⊢
 rw [← hR] at HM hr ⊢
 have HR := Hid.mk hR
 have hR0 : 0 < R := by omega
 have hne : ((R : Int) == 0) = false := beq_eq_false_iff_ne.2 (by omega)
 clear hR hN
 go_enter Tryz.func39, Tryz.ntmps39
 go_wp2_with (go_at_call 38; refine (isSquare_raw _ _ _ _ _ _).mono ?_; rintro e w' ⟨rfl, rfl⟩)
 obtain ⟨W1, hW1⟩ : ∃ W1, W1 = (((w.alloc (.cells #[.int .i64 R, .int .i64 R, .slice ao N cap] 66)).alloc (.cells #[.bool false, .slice none 0 0] 79)).alloc (.cells #[.int .i64 R, .int .i64 R, .slice ao N cap] 66)).alloc (.cells #[.bool false, .slice none 0 0] 79) := ⟨_, rfl⟩
 rw [← hW1]
 have hB1 : Below w.heap.size w W1 := by
  rw [hW1]
  repeat (first | exact Below.refl _ _ | refine Below.alloc ?_ (by simp <;> omega) _)
 have hx1 : Boxes W1 w.heap.size (w.heap.size + 1 + 1 + 1) R R (.slice ao N cap) false (.slice none 0 0) := by
  rw [hW1]
  refine ⟨?_, ?_, ?_, ?_, ?_, ?_, ?_⟩
  ·exact cell3 (by simp) _ _ _
  ·exact cell3 (by simp) _ _ _
  ·exact cell3 (by simp) _ _ _
  ·exact new_cell _ _ _ _ _ (by simp) rfl
  ·exact new_cell _ _ _ _ _ (by simp) rfl
  ·exact new_frozen _ _ _ _ _ (by simp)
  ·exact new_frozen _ _ _ _ _ (by simp)
 have hty1 : Ty W1 (w.heap.size + 1 + 1 + 1) 79 := by rw [hW1]; exact Ty.at_ _ _ _ (by simp)
 have hres : W1.heap[w.heap.size + 1]? = some (.cells #[.bool false, .slice none 0 0] 79 (0, 0)) := by
  rw [hW1, Below.heap_alloc _ _ _ (by simp), Below.heap_alloc _ _ _ (by simp)]
  have := heap_alloc_new (w.alloc (.cells #[.int .i64 R, .int .i64 R, .slice ao N cap] 66)) (.cells #[.bool false, .slice none 0 0] 79)
  simpa using this
 have hS : W1.heap.size = w.heap.size + 4 := by rw [hW1]; simp
 obtain ⟨sb, hsb⟩ : ∃ sb, sb = w.heap.size + 1 + 1 + 1 := ⟨_, rfl⟩
 rw [← hsb] at hx1 hty1 ⊢
 have hsb1 : w.heap.size + 3 ≤ sb := by omega
 have hsb2 : sb ≤ w.heap.size + 3 := by omega
 have FR := Hid.mk hres
 have HS := Hid.mk hS
 clear hW1 hres hS hsb
 go_loopg [4] R (fun gk i wr => ∃ (k : Nat) (S : Int) (nb : Bool) (bo : Option Addr) (m ecap : Nat), k ≤ R ∧ i = .int .i64 k ∧ Ty wr sb 79 ∧ Boxes wr w.heap.size sb R R (.slice ao N cap) nb (.slice bo m ecap) ∧ IsI wr (.agg #[.bool nb, .slice bo m ecap]) S (L + LD L n + k) ∧ W1.grownBy wr (some sb) ∧ Below w.heap.size w wr ∧
  Hid (gk = R - k ∧ S = sumF k fun c => signed c (f 0 c * detF n fun i j => f (i + 1) (skip c j))))
 case atStart => exact ⟨0, 0, _, _, _, _, Nat.zero_le _, rfl, hty1, hx1, IsI.zero _ _, World.grownBy.refl _ _, hB1, Hid.mk ⟨by omega, rfl⟩⟩
 case round =>
  clear hx1 hB1 hty1
  obtain ⟨k, S, nb, bo, m, ecap, hk, rfl, hty, hx, hI, hgr, hB, HSUM⟩ := hrel
  obtain ⟨m0, m1, m2, s0, s1, z0, z1⟩ := id hx
  have HX := Hid.mk hx
  have HTY := Hid.mk hty
  clear hty
  have HI := Hid.mk hI
  have HG := Hid.mk hgr
  have HB := Hid.mk hB
  clear hx hI hgr hB
  by_cases hkR : k < R
  ·go_wp2_with fail
   refine (minor_any _ R R k zs L _ ((HR.out ▸ HM.out : IsM w _ R R zs L).below HB.out) (by omega) hkR).mono ?_
   rintro e w2 ⟨x, rfl, ⟨ms, hms, hmo⟩, hb2⟩
   have HTY2 := Hid.mk (HTY.out.below hb2 HTY.out.lt)
   have hrep2 : Rep n ms fun i j => f (i + 1) (skip k j) := HREP.out.minor (HR.out ▸ hmo)
   have hms2 : IsM w2 x n n ms L := by have := HR.out; subst this; exact hms
   obtain ⟨g1, g2, sl2, rfl, hg2⟩ := id hms2
   obtain ⟨co, dcap, rfl, -⟩ := hg2.shape
   have hx2 := HX.out.below hb2
   have hI2 := HI.out.below hb2
   have hgr2 := grown_below HG.out hb2
   have hB2 : Below w.heap.size w w2 := HB.out.trans (hb2.mono HB.out.size)
   clear m0 m1 m2 s0 s1 z0 z1 HX HI HG HB hg2 hms hmo hb2
   have H2 := Hid.mk (And.intro hms2 (And.intro hrep2 (And.intro hx2 (And.intro hI2 (And.intro hgr2 hB2)))))
   clear hms2 hrep2 hx2 hI2 hgr2 hB2
   go_wp2_with fail
   refine (HIH.out _ ms (fun i j => f (i + 1) (skip k j)) L _ (H2.out.1.below ((Below.refl _ _).alloc (Nat.le_refl _) _)) H2.out.2.1 (by have := HLD.out; have := LD_mono L n; omega) hL).mono ?_
   rintro e w4 ⟨rest, rfl, hrest, hb4⟩
   obtain ⟨nr, eo, me, fcap, rfl⟩ := hrest.shape
   have h24 : Below w2.heap.size w2 w4 := ((Below.refl w2.heap.size w2).alloc (Nat.le_refl _) _).trans (hb4.mono (by simp))
   obtain ⟨-, -, hx2, hI2, hgr2, hB2⟩ := H2.out
   have HTS := Hid.mk (HTY2.out.below h24 HTY2.out.lt)
   have hx4 := hx2.below h24
   have hI4 := hI2.below h24
   have hgr4 := grown_below hgr2 h24
   have hB4 : Below w.heap.size w w4 := hB2.trans (h24.mono hB2.size)
   have hM4 : IsM w4 (.agg #[.int .i64 R, .int .i64 R, .slice ao N cap]) R R zs L := (HR.out ▸ HM.out : IsM w _ R R zs L).below hB4
   obtain ⟨m0, m1, m2, s0, s1, z0, z1⟩ := id hx4
   have m0' := cell1 m0
   have m1' := cell1 m1
   have m2' := cell1 m2
   have hlt := hx4.lt
   have H4 := Hid.mk (And.intro hx4 (And.intro hI4 (And.intro hgr4 (And.intro hB4 (And.intro hM4 hrest)))))
   clear H2 hx2 hI2 hgr2 hB2 hx4 hI4 hgr4 hB4 hM4 hrest hb4 h24 m0 m1 m2 s0 s1 z0 z1
   obtain ⟨hlt1, hlt2⟩ := hlt
   go_upto_region 11 with fail
   go_cut [7] from 17 to 40 (fun p wx => PartOut w4 (zs.getD k 0 * detF n fun i j => f (i + 1) (skip k j)) (L + LD L n) p wx)
   case first =>
    go_region_with (first
     | (go_at_call 64; go_must (refine (at_first _ R R k zs L _ (H4.out.2.2.2.2.1.below (by repeat (first | exact Below.refl _ _ | refine Below.drew ?_ | refine Below.alloc ?_ (by simp <;> omega) _))) hR0 hkR).mono ?_; rintro e w5 ⟨y, rfl, hy, hb5⟩; obtain ⟨ny, fo, mf, gcap, rfl⟩ := hy.shape; obtain ⟨hc5, hf5⟩ := bcell hb5; have hsz5 : w4.heap.size < w5.heap.size := (by have := hb5.size; simp at this; omega); try (have TW5 := Hid.mk (Duo.below (Duo.drew (Duo.new (w4.alloc _) (.bool false) (.slice none 0 0) (b := w4.heap.size + 1) (by simp))) hb5 (by simp)); obtain ⟨a1, a2, a3, a4⟩ := TW5.out.cells; have l5 : w4.heap.size + 1 < w5.heap.size := TW5.out.ty.lt)))
     | (go_at_call 65; go_must (refine (mul_any _ _ _ _ L (LD L n) _ (hy.below (by repeat (first | exact Below.refl _ _ | refine Below.alloc ?_ (by first | omega | (simp <;> omega)) _))) (H4.out.2.2.2.2.2.below (by repeat (first | exact Below.refl _ _ | refine Below.trans ?_ (hb5.mono (by first | omega | (simp <;> omega))) | refine Below.drew ?_ | refine Below.alloc ?_ (by first | omega | (simp <;> omega)) _))) (by omega) (by have := HLD.out; have := LD_mono L n; omega)).mono ?_; rintro e w6 ⟨q, rfl, hq, hb6⟩; have HB46 : Hid (Below w4.heap.size w4 w6) := Hid.mk (Below.trans (by repeat (first | exact Below.refl _ _ | refine Below.trans ?_ (hb5.mono (by first | omega | (simp <;> omega))) | refine Below.drew ?_ | refine Below.alloc ?_ (by first | omega | (simp <;> omega)) _)) (hb6.mono (by first | omega | (simp <;> omega)))); obtain ⟨nq, qo, mq, qcap, rfl⟩ := hq.shape; obtain ⟨hc6, hf6⟩ := bcell hb6; have hsz6 := hb6.size; try (have TW := Hid.mk (Duo.below (Duo.new w5 (.bool false) (.slice none 0 0) rfl) hb6 (by simp)); obtain ⟨t1, t2, t3, t4⟩ := TW.out.cells); try (have TW := Hid.mk (TW5.out.below hb6 (by have := TW5.out.ty.lt; omega)); obtain ⟨t1, t2, t3, t4⟩ := TW.out.cells))))
    all_goals
     go_wp2_with fail
     go_meet
     case rel =>
      first
       | exact PartOut.made hq HB46.out
       | exact PartOut.stored TW.out (Nat.le_of_lt hsz5) hq HB46.out
       | exact PartOut.stored TW.out (Nat.le_succ _) hq HB46.out
       | exact PartOut.stored (TW5.out.below hb6 l5) (Nat.le_succ _) hq HB46.out
   case rest =>
    obtain ⟨pb, nq, qo, mq, qcap, rfl, hpb, hTwo, hq, hbc⟩ := hcut
    obtain ⟨hx4, hI4, hgr4, hB4, -, -⟩ := H4.out
    have hxC := hx4.below hbc
    have hIC := hI4.below hbc
    have hgC := grown_below hgr4 hbc
    have hBC : Below w.heap.size w wc := hB4.trans (hbc.mono hB4.size)
    have hTC : Ty wc sb 79 := HTS.out.below hbc HTS.out.lt
    have hf0 : zs.getD k 0 = f 0 k := by have := HREP.out 0 k (by omega) (by have := HR.out; omega); simpa using this
    have hltp : pb < wc.heap.size := hTwo.ty.lt
    rw [hf0] at hq
    clear H4 hx4 hI4 hgr4 hB4 hbc m0' m1' m2' hf0
    by_cases hodd : k % 2 = 1
    ·have hod : ((k : Int) % 2 == 1) = true := beq_iff_eq.2 (by omega)
     have HZZ0 : Hid (-(f 0 k * detF n fun i j => f (i + 1) (skip k j)) = signed k (f 0 k * detF n fun i j => f (i + 1) (skip k j))) := Hid.mk (by unfold signed; rw [if_pos hodd])
     clear hodd
     have HC := Hid.mk (And.intro hxC (And.intro hIC (And.intro hgC (And.intro hBC (And.intro hTC (And.intro hTwo hq))))))
     obtain ⟨t1, t2, t3, t4⟩ := hTwo.cells
     clear hxC hIC hgC hBC hTC hTwo hq
     go_wp2_with fail
     refine (neg_any _ _ _ _ HC.out.2.2.2.2.2.2).mono ?_
     rintro e w7 ⟨r, rfl, hr, hb7⟩
     obtain ⟨nz7, oz7, mz7, cz7, rfl⟩ := hr.shape
     obtain ⟨hxC, hIC, hgC, hBC, hTC, hTwo, -⟩ := HC.out
     have hT7 := hTwo.below hb7 hltp
     have hx7 := hxC.below hb7
     obtain ⟨t5, t6, t7, t8⟩ := hT7.cells
     have hku : KU w7 ((w7.setCell ⟨pb, 0, none⟩ (.bool nz7)).setCell ⟨pb, 1, none⟩ (.slice oz7 mz7 cz7)) := KU.setCell (KU.setCell (KU.refl _) hT7.ty (by decide) _) (hT7.ty.setCell _ _) (by decide) _
     have hPX : IsI ((w7.setCell ⟨pb, 0, none⟩ (.bool nz7)).setCell ⟨pb, 1, none⟩ (.slice oz7 mz7 cz7)) (.agg #[.bool nz7, .slice oz7 mz7 cz7]) (-(f 0 k * detF n fun i j => f (i + 1) (skip k j))) (L + LD L n) := hr.keep hku
     have hIX := (hIC.below hb7).keep hku
     have hxX : Boxes ((w7.setCell ⟨pb, 0, none⟩ (.bool nz7)).setCell ⟨pb, 1, none⟩ (.slice oz7 mz7 cz7)) w.heap.size sb R R (.slice ao N cap) nb (.slice bo m ecap) := hx7.other (by omega) (by omega)
     have hgX : W1.grownBy ((w7.setCell ⟨pb, 0, none⟩ (.bool nz7)).setCell ⟨pb, 1, none⟩ (.slice oz7 mz7 cz7)) (some sb) := grown_new (grown_below hgC hb7) (by have := HS.out; omega)
     have hBX : Below w.heap.size w ((w7.setCell ⟨pb, 0, none⟩ (.bool nz7)).setCell ⟨pb, 1, none⟩ (.slice oz7 mz7 cz7)) := ((hBC.trans (hb7.mono hBC.size)).setCell (by simp; omega) _).setCell (by simp; omega) _
     have hTX := ((hTC.below hb7 hTC.lt).setCell ⟨pb, 0, none⟩ (.bool nz7)).setCell ⟨pb, 1, none⟩ (.slice oz7 mz7 cz7)
     obtain ⟨q0, q1, q2, q3, q4, q5, q6⟩ := id hxX
     obtain ⟨y1, y2, y3, y4⟩ := (hT7.put (.bool nz7) (.slice oz7 mz7 cz7)).cells
     generalize hzz : -(f 0 k * detF n fun i j => f (i + 1) (skip k j)) = zz at hPX HZZ0
     have HZZ := HZZ0
     clear HZZ0 hzz hr hb7 hT7 hx7 hku hxC hIC hgC hBC hTC hTwo t1 t2 t3 t4
     have P := Hid.mk (And.intro hPX (And.intro hIX (And.intro hxX (And.intro hgX (And.intro hBX hTX)))))
     clear hPX hIX hxX hgX hBX hTX HC
     go_wp2_with fail
     obtain ⟨hPX, hIX, hxX, hgX, hBX, hTX⟩ := P.out
     refine (add_any _ _ S zz (L + LD L n + k) (L + LD L n) _ hIX hPX (by have := HLD.out; rw [LD] at this; omega) (by have := HLD.out; rw [LD] at this; omega)).mono ?_
     rintro e w9 ⟨r2, rfl, hr2, hb9⟩
     obtain ⟨nb2, bo2, m2, ec2, rfl⟩ := hr2.shape
     have hx9 := hxX.below hb9
     have hg9 := grown_below hgX hb9
     have hB9 : Below w.heap.size w w9 := hBX.trans (hb9.mono hBX.size)
     obtain ⟨-, -, -, s0, s1, z0, z1⟩ := id hx9
     have hty9 : Ty w9 sb 79 := hTX.below hb9 hTX.lt
     have H9 := Hid.mk (And.intro hx9 (And.intro hg9 (And.intro hB9 (And.intro hr2 hty9))))
     clear hx9 hg9 hB9 hr2 hty9 hb9 hxX hIX hPX hgX hBX hTX P t5 t6 t7 t8 q0 q1 q2 q3 q4 q5 q6 y1 y2 y3 y4
     go_wp2_with fail
     go_roundg (R - (k + 1))
     case measure => have := HSUM.out.1; omega
     case rel =>
      obtain ⟨hx9, hg9, hB9, hr2, hty9⟩ := H9.out
      refine ⟨k + 1, S + zz, nb2, bo2, m2, ec2, by omega, by go_num, (hty9.setCell _ _).setCell _ _, hx9.put (by omega), (hr2.mono (by omega)).keep (KU.setCell (KU.setCell (KU.refl _) hty9 (by decide) _) (hty9.setCell _ _) (by decide) _), grown_put2 hg9, (hB9.setCell (by simp; omega) _).setCell (by simp; omega) _, Hid.mk ⟨rfl, ?_⟩⟩
      rw [← sum_next HSUM.out.2, HZZ.out]
    ·have hod : ((k : Int) % 2 == 1) = false := beq_eq_false_iff_ne.2 (by omega)
     have HZZ0 : Hid ((f 0 k * detF n fun i j => f (i + 1) (skip k j)) = signed k (f 0 k * detF n fun i j => f (i + 1) (skip k j))) := Hid.mk (by unfold signed; rw [if_neg hodd])
     clear hodd
     obtain ⟨q0, q1, q2, q3, q4, q5, q6⟩ := id hxC
     obtain ⟨y1, y2, y3, y4⟩ := hTwo.cells
     generalize hzz : (f 0 k * detF n fun i j => f (i + 1) (skip k j)) = zz at hq HZZ0
     have HZZ : Hid (zz = signed k (f 0 k * detF n fun i j => f (i + 1) (skip k j))) := Hid.mk (by rw [hzz]; exact HZZ0.out)
     have P := Hid.mk (And.intro hq (And.intro hIC (And.intro hxC (And.intro hgC (And.intro hBC hTC)))))
     clear HZZ0 hzz hq hIC hxC hgC hBC hTC hTwo
     go_wp2_with fail
     obtain ⟨hPX, hIX, hxX, hgX, hBX, hTX⟩ := P.out
     refine (add_any _ _ S zz (L + LD L n + k) (L + LD L n) _ hIX hPX (by have := HLD.out; rw [LD] at this; omega) (by have := HLD.out; rw [LD] at this; omega)).mono ?_
     rintro e w9 ⟨r2, rfl, hr2, hb9⟩
     obtain ⟨nb2, bo2, m2, ec2, rfl⟩ := hr2.shape
     have hx9 := hxX.below hb9
     have hg9 := grown_below hgX hb9
     have hB9 : Below w.heap.size w w9 := hBX.trans (hb9.mono hBX.size)
     obtain ⟨-, -, -, s0, s1, z0, z1⟩ := id hx9
     have hty9 : Ty w9 sb 79 := hTX.below hb9 hTX.lt
     have H9 := Hid.mk (And.intro hx9 (And.intro hg9 (And.intro hB9 (And.intro hr2 hty9))))
     clear hx9 hg9 hB9 hr2 hty9 hb9 hxX hIX hPX hgX hBX hTX P q0 q1 q2 q3 q4 q5 q6 y1 y2 y3 y4
     go_wp2_with fail
     go_roundg (R - (k + 1))
     case measure => have := HSUM.out.1; omega
     case rel =>
      obtain ⟨hx9, hg9, hB9, hr2, hty9⟩ := H9.out
      refine ⟨k + 1, S + zz, nb2, bo2, m2, ec2, by omega, by go_num, (hty9.setCell _ _).setCell _ _, hx9.put (by omega), (hr2.mono (by omega)).keep (KU.setCell (KU.setCell (KU.refl _) hty9 (by decide) _) (hty9.setCell _ _) (by decide) _), grown_put2 hg9, (hB9.setCell (by simp; omega) _).setCell (by simp; omega) _, Hid.mk ⟨rfl, ?_⟩⟩
      rw [← sum_next HSUM.out.2, HZZ.out]
  ·have hres : wr.heap[w.heap.size + 1]? = some (.cells #[.bool false, .slice none 0 0] 79 (0, 0)) := by
    rw [HG.out.block _ (by have := HS.out; omega) (by simp; omega)]; exact FR.out
   have hTr : Duo wr (w.heap.size + 1) (.bool false) (.slice none 0 0) := hres
   obtain ⟨r0, r1, r2, r3⟩ := hTr.cells
   have HTR := Hid.mk hTr
   clear hres hTr
   go_wp2_with fail
   refine bodyPost_ret (v := .agg #[.bool nb, .slice bo m ecap]) ?_ rfl ?_
   ·(simp [results, Tryz.results39, go_sem, r0, r1]; done)
   ·have hkk : k = n + 1 := by have := HR.out; omega
    refine ⟨_, rfl, ?_, (HB.out.setCell (by simp) _).setCell (by simp) _⟩
    have h1 : S = detF R f := by rw [HSUM.out.2, hkk, HR.out, detF]
    rw [← h1]
    refine (HI.out.mono ?_).keep (KU.setCell (KU.setCell (KU.refl _) HTR.out.ty (by decide) _) (HTR.out.ty.setCell _ _) (by decide) _)
    rw [HR.out, LD, hkk]
    exact Nat.le_refl _
theorem det_any (n : Nat) : DetSaid n := by
 induction n with
 | zero => exact det_zero
 | succ n ih => exact det_succ n ih
open Go.RowKit R
theorem rank_uniq {f : Nat → Nat → Int} {r c k l : Nat} (h : RankIs f r c k) (h' : RankIs f r c l) : k = l := by
 obtain ⟨a1, a2, a3, a4⟩ := h
 obtain ⟨b1, b2, b3, b4⟩ := h'
 rcases Nat.lt_trichotomy k l with hlt | heq | hgt
 ·rcases a4 with h1 | h1 | h1
  ·omega
  ·omega
  ·exact absurd h1 (b3 k hlt)
 ·exact heq
 ·rcases b4 with h1 | h1 | h1
  ·omega
  ·omega
  ·exact absurd h1 (a3 l hgt)
open Go.RowKit
theorem hm_ext {a b : List Hm} (h : a.length = 24) (h' : b.length = 24) (he : ∀ k, k < 24 → a.getD k none = b.getD k none) : a = b := by
 apply List.ext_getElem (by omega)
 intro k h1 h2
 have := he k (by omega)
 rw [List.getD, List.getD, List.getElem?_eq_getElem h1, List.getElem?_eq_getElem h2] at this
 simpa using this
open Go.RowKit
theorem itoa_digit (n : Nat) (h : n < 10) : Lib.itoa (n : Int) = [UInt8.ofNat (48 + n)] := by rw [Lib.itoa_nonneg, Lib.decDigits_one h]
theorem itoa_more (n : Nat) (h : ¬ n < 10) : Lib.itoa (n : Int) = Lib.itoa ((n / 10 : Nat) : Int) ++ [UInt8.ofNat (48 + n % 10)] := by
 rw [Lib.itoa_nonneg, Lib.itoa_nonneg, decDigits_big h]
theorem byte_str (w : World) (d : Nat) (hd : d < 10) (z : Int) (hz : z = 48 + (d : Int)) (bt : UInt8) (hbt : bt = UInt8.ofNat (48 + d)) :
 (convert 85 9 (.slice (some ⟨w.heap.size, 0, none⟩) 1 1)).run Tryz.prog (w.alloc (.cells #[.int .u8 z] 5)) = .ok (.string ⟨[bt].toArray⟩) (w.alloc (.cells #[.int .u8 z] 5)) := by
 subst hbt
 have h := run_convert_bytes_back (P := Tryz.prog) (w.alloc (.cells #[.int .u8 z] 5)) 85 9 5 ⟨w.heap.size, 0, none⟩ 1 [UInt8.ofNat (48 + d)] Tryz.underlying85 Tryz.underlying5 Tryz.underlying9 (fun j hj => by
  have hj0 : j = 0 := by simpa using hj
  subst hj0
  rw [Lib.add_plain, World.cell?_alloc_new]
  have e : ((UInt8.ofNat (48 + d)).toNat : Int) = z := by
   rw [hz, UInt8.toNat_ofNat', Nat.mod_eq_of_lt (by omega)]; omega
  simp only [List.getElem_cons_zero]
  rw [e]
  rfl)
 exact h
set_option maxRecDepth 100000 in
set_option maxHeartbeats 1000000 in
theorem number_nat (f : Nat) : ∀ (n : Nat) (w : World), n ≤ f → n ≤ 4611686018427387904 →
 Calls Tryz.prog 21 #[.int .i64 n] w fun e w' => e = .returned (.string ⟨(Lib.itoa (n : Int)).toArray⟩) ∧ Below w.heap.size w w' := by
 induction f with
 | zero =>
   intro n w hf hn
   have h0 : n < 10 := by omega
   obtain ⟨bt, hbt⟩ : ∃ bt, bt = UInt8.ofNat (48 + n % 10) := ⟨_, rfl⟩
   have hcv := byte_str w (n % 10) (by omega) (48 + (n : Int) % 10) (by omega) bt hbt
   have HBT := Hid.mk hbt
   clear hbt
   go_enter Tryz.func21, Tryz.ntmps21
   go_wp2_with fail
   go_ret
   refine ⟨?_, (Below.refl _ _).alloc (Nat.le_refl _) _⟩
   rw [itoa_digit n h0]
   exact ret_str (by rw [HBT.out, Nat.mod_eq_of_lt h0])
 | succ f ih =>
   intro n w hf hn
   by_cases h0 : n < 10
   ·obtain ⟨bt, hbt⟩ : ∃ bt, bt = UInt8.ofNat (48 + n % 10) := ⟨_, rfl⟩
    have hcv := byte_str w (n % 10) (by omega) (48 + (n : Int) % 10) (by omega) bt hbt
    have HBT := Hid.mk hbt
    clear hbt
    clear ih
    go_enter Tryz.func21, Tryz.ntmps21
    go_wp2_with fail
    go_ret
    refine ⟨?_, (Below.refl _ _).alloc (Nat.le_refl _) _⟩
    rw [itoa_digit n h0]
    exact ret_str (by rw [HBT.out, Nat.mod_eq_of_lt h0])
   ·obtain ⟨bt, hbt⟩ : ∃ bt, bt = UInt8.ofNat (48 + n % 10) := ⟨_, rfl⟩
    have hcv := byte_str w (n % 10) (by omega) (48 + (n : Int) % 10) (by omega) bt hbt
    have HBT := Hid.mk hbt
    clear hbt
    have HIH := Hid.mk ih
    clear ih
    have hlen : (Lib.itoa ((n / 10 : Nat) : Int)).length ≤ 40 := by
     have := Lib.itoa_length_le ((n / 10 : Nat) : Int) (by omega) (by omega)
     omega
    go_enter Tryz.func21, Tryz.ntmps21
    go_wp2_with fail
    rw [show (n : Int) / 10 = ((n / 10 : Nat) : Int) from by omega]
    refine (HIH.out (n / 10) _ (by omega) (by omega)).mono ?_
    rintro e w2 ⟨rfl, hb⟩
    generalize hT : Lib.itoa ((n / 10 : Nat) : Int) = T at *
    have HT := Hid.mk hT
    clear hT
    go_wp2_with fail
    go_ret
    refine ⟨?_, ((Below.refl w.heap.size w).alloc (Nat.le_refl _) _).trans (hb.mono (by simp))⟩
    rw [itoa_more n h0, HT.out, ← HBT.out]
    exact ret_str (str_app T [bt])
theorem number_any (z : Int) (w : World) (h1 : -4611686018427387904 ≤ z) (h2 : z ≤ 4611686018427387904) :
 Calls Tryz.prog 21 #[.int .i64 z] w fun e w' => e = .returned (.string ⟨(Lib.itoa z).toArray⟩) ∧ Below w.heap.size w w' := by
 by_cases hz : z < 0
 ·obtain ⟨u, rfl⟩ : ∃ u : Nat, z = -(u : Int) := ⟨z.natAbs, by omega⟩
  have hu : 1 ≤ u := by omega
  have hlen : (Lib.itoa (u : Int)).length ≤ 40 := by
   have := Lib.itoa_length_le (u : Int) (by omega) (by omega)
   omega
  go_enter Tryz.func21, Tryz.ntmps21
  go_wp2_with fail
  refine (number_nat u u _ (Nat.le_refl _) (by omega)).mono ?_
  rintro e w2 ⟨rfl, hb⟩
  generalize hT : Lib.itoa (u : Int) = T at *
  have HT := Hid.mk hT
  clear hT
  go_wp2_with fail
  go_ret
  refine ⟨?_, hb⟩
  rw [Lib.itoa_neg u hu, ← Lib.itoa_nonneg, HT.out]
  exact ret_str (str_app [45] _)
 ·obtain ⟨u, rfl⟩ : ∃ u : Nat, z = (u : Int) := ⟨z.natAbs, by omega⟩
  exact number_nat u u w (Nat.le_refl _) (by omega)
open Go.RowKit
open Go.RowKit
def icells (c : Nat) (f : Nat → Int) : List Value := (List.range c).map fun j => Value.int .i64 (f j)
def rowV (c g : Nat) : Value := .slice (some ⟨g, 0, none⟩) c c
def IRow (w : World) (g c : Nat) (f : Nat → Int) : Prop := w.heap[g]? = some (.cells (icells c f).toArray 3 (0, 0))
theorem IRow.lt {w : World} {g c : Nat} {f : Nat → Int} (h : IRow w g c f) : g < w.heap.size := (Array.getElem?_eq_some_iff.1 h).1
theorem IRow.cell {w : World} {g c : Nat} {f : Nat → Int} (h : IRow w g c f) (j : Nat) (hj : j < c) : w.cell? ⟨g, j, none⟩ = some (.int .i64 (f j)) := by
 unfold IRow at h
 simp [World.cell?, h, icells, hj]
theorem IRow.frozen {w : World} {g c : Nat} {f : Nat → Int} (h : IRow w g c f) (j : Nat) : w.frozen? ⟨g, j, none⟩ = false := by
 unfold IRow at h
 simp [World.frozen?, h]
def upd (f : Nat → Int) (j : Nat) (z : Int) : Nat → Int := fun k => if k = j then z else f k
theorem icells_set (c : Nat) (f : Nat → Int) (j : Nat) (z : Int) : (icells c f).set j (.int .i64 z) = icells c (upd f j z) := by
 apply List.ext_getElem?
 intro k
 simp only [icells, List.getElem?_set, List.length_map, List.length_range, List.getElem?_map, upd]
 by_cases hk : j = k
 ·subst hk
  by_cases hc : j < c
  ·simp [hc]
  ·simp [hc]
 ·have hk' : ¬ k = j := fun e => hk e.symm
  by_cases hc : k < c
  ·simp [hk, hk', hc]
  ·simp [hk, hc]
theorem IRow.stored {w : World} {g c : Nat} {f : Nat → Int} (h : IRow w g c f) (j : Nat) (z : Int) : IRow (w.setCell ⟨g, j, none⟩ (.int .i64 z)) g c (upd f j z) := by
 unfold IRow at *
 rw [heap_setCell_same _ _ _ _ _ _ h, ← icells_set]
 simp
theorem Tryz.info3' : (Tryz.prog.info? 3).map (fun i => (i.zero, i.size, i.bytes)) = some (some (.int .i64 0), 1, 8) := by kernel_rfl
theorem Tryz.info51' : (Tryz.prog.info? 51).map (fun i => (i.zero, i.size, i.bytes)) = some (some (.slice none 0 0), 1, 24) := by kernel_rfl
theorem make_row (w : World) {ops : Array Oper} {rest : List Oper} {o : Oper} {a : Act} {Q : Exit → Act → World → Prop}
 (hg : o.guard = none) (l c : Operand) (hop : o.op = Op.makeSlice 51 l c) (L C : Int) (n : Nat) (hl : a.eval l = .int .i64 L) (hc : a.eval c = .int .i64 C) (hL : L = (n : Int)) (hC : C = (n : Int)) (b : n ≤ 1000000000)
 (hK : ∀ w', IRow w' w.heap.size n (fun _ => 0) → Below w.heap.size w w' → w.heap.size < w'.heap.size → wpList Tryz.prog ops Q rest (a.put o.dst (.slice (some ⟨w.heap.size, 0, none⟩) n n)) w') :
 wpList Tryz.prog ops Q (o :: rest) a w := by
 obtain ⟨i, hi, hz0, hz1, hz2⟩ := info_parts Tryz.info3'
 refine wpList_make_full w hg l c 51 hop 0 3 i (.int .i64 0) 1 Tryz.underlying51 hi hz0 hz1 .i64 .i64 L C n hl hc hL hC (by rw [hz2]; omega) (by unfold maxLen; omega) (Nat.zero_le _) ?_
 intro w' hown hgrow
 rw [show (Value.int IntKind.i64 0).cells = #[.int .i64 0] from rfl, toList_madeCells_one, Nat.mul_one] at hown
 refine hK w' ?_ ((Below.refl _ _).grown hgrow (Nat.le_refl _) (by simp)) (World.ownsRow.lt hown _ rfl).2
 rcases hown.2 with ⟨h1, _⟩ | ⟨g, cap, cur, h1, h2, h3, h4, h5, h6, h7⟩
 ·simp at h1
 ·simp only [Value.slice.injEq, Option.some.injEq, Addr.mk.injEq, and_true, true_and] at h1
  obtain ⟨rfl, rfl⟩ := h1
  unfold IRow
  rw [h3]
  have h8 : cur.toList = icells n (fun _ => 0) := by
   rw [List.take_of_length_le (by simp [h6])] at h7
   rw [h7]
   simp [icells, List.map_const']
  rw [← h8]
def rcells (n c : Nat) (gs : Nat → Nat) : List Value := (List.range n).map fun i => rowV c (gs i)
def Mat (B : Nat) (w : World) (v : Value) (n c : Nat) (gs : Nat → Nat) (e : Nat → Nat → Int) : Prop := w.ownsRow B 51 1 v n (rcells n c gs) ∧ ∀ i, i < n → IRow w (gs i) c (e i)
def KB (B : Nat) (w w' : World) : Prop := ∀ (i : Nat) (arr : Array Value) (t : TypeId), i < B → (t = 3 ∨ t = 51) → w.heap[i]? = some (.cells arr t (0, 0)) → w'.heap[i]? = some (.cells arr t (0, 0))
theorem KB.of_below {B : Nat} {w w' : World} (h : Below B w w') : KB B w w' := fun i arr t hi _ h0 => by rw [h.block i hi]; exact h0
theorem KB.of_grown {B : Nat} {w w' : World} {p : Nat} {t : TypeId} (h : w.grownBy w' (some p)) (ht : Ty w p t) (h1 : t ≠ 3) (h2 : t ≠ 51) : KB B w w' := by
 intro i arr u _ hu h0
 rw [h.block i (Array.getElem?_eq_some_iff.1 h0).1 ?_]
 ·exact h0
 ·intro e
  injection e with e
  subst e
  obtain ⟨c, fr, h3⟩ := ht
  rw [h0] at h3
  simp only [Option.some.injEq, Obj.cells.injEq] at h3
  rcases hu with rfl | rfl
  ·exact h1 h3.2.1.symm
  ·exact h2 h3.2.1.symm
theorem IRow.keep {B : Nat} {w w' : World} {g c : Nat} {f : Nat → Int} (h : IRow w g c f) (hk : KB B w w') (hg : g < B) : IRow w' g c f := hk g _ _ hg (.inl rfl) h
theorem Mat.keep {B : Nat} {w w' : World} {v : Value} {n c : Nat} {gs : Nat → Nat} {e : Nat → Nat → Int} (h : Mat B w v n c gs e) (hk : KB w.heap.size w w') : Mat B w' v n c gs e := by
 refine ⟨⟨h.1.1, ?_⟩, fun i hi => (h.2 i hi).keep hk (h.2 i hi).lt⟩
 rcases h.1.2 with h2 | ⟨g, cap, cur, hv, hg, hh, r⟩
 ·exact .inl h2
 ·exact .inr ⟨g, cap, cur, hv, hg, hk g cur _ (Array.getElem?_eq_some_iff.1 hh).1 (.inr rfl) hh, r⟩
theorem Mat.nil (B : Nat) (w : World) (c : Nat) (gs : Nat → Nat) (e : Nat → Nat → Int) : Mat B w (.slice none 0 0) 0 c gs e := ⟨World.ownsRow_nil _ _ _ _, fun i hi => by omega⟩
theorem Mat.shape {B : Nat} {w : World} {v : Value} {n c : Nat} {gs : Nat → Nat} {e : Nat → Nat → Int} (h : Mat B w v n c gs e) :
 (v = .slice none 0 0 ∧ n = 0) ∨ ∃ g cap, v = .slice (some ⟨g, 0, none⟩) n cap ∧ n ≤ cap ∧ cap ≤ 9223372036854775807 ∧ B ≤ g ∧ g < w.heap.size ∧ Ty w g 51 ∧ ∀ i, i < n → w.cell? ⟨g, i, none⟩ = some (.slice (some ⟨gs i, 0, none⟩) c c) ∧ w.frozen? ⟨g, i, none⟩ = false := by
 rcases h.1.2 with h2 | ⟨g, cap, cur, rfl, hg, hh, h1, h3, h4, h5⟩
 ·exact .inl h2
 ·refine .inr ⟨g, cap, rfl, h1, by simpa [maxLen] using h3, hg, (Array.getElem?_eq_some_iff.1 hh).1, ⟨_, _, hh⟩, fun i hi => ⟨?_, ?_⟩⟩
  ·rw [World.ownsRow.cellAt h.1 i (by omega)]
   simp [rcells, hi, rowV]
  ·exact World.ownsRow.frozenAt h.1 i
theorem Mat.cell {B : Nat} {w : World} {n c cap g : Nat} {gs : Nat → Nat} {e : Nat → Nat → Int} (h : Mat B w (.slice (some ⟨g, 0, none⟩) n cap) n c gs e) (i : Nat) (hi : i < n) :
 w.cell? ⟨g, i, none⟩ = some (.slice (some ⟨gs i, 0, none⟩) c c) := by
 rw [World.ownsRow.cellAt h.1 i (by omega)]
 simp [rcells, hi, rowV]
theorem rcells_snoc (n c : Nat) (gs : Nat → Nat) (g : Nat) : rcells n c gs ++ [rowV c g] = rcells (n + 1) c (fun i => if i = n then g else gs i) := by
 unfold rcells
 rw [List.range_succ, List.map_append, List.map_singleton]
 simp only [if_true]
 congr 1
 apply List.map_congr_left
 intro i hi
 have := List.mem_range.1 hi
 rw [if_neg (by omega)]
theorem append_row (w : World) {ops : Array Oper} {rest : List Oper} {o : Oper} {a : Act} {Q : Exit → Act → World → Prop} (hgd : o.guard = none) (s x : Operand)
 (ho : o.op = .call { callee := .builtin .append, args := #[s, x], argTypes := #[57, 57] }) (B : Nat) (v : Value) (n c : Nat) (gs : Nat → Nat) (e : Nat → Nat → Int) (hs : a.eval s = v) (hm : Mat B w v n c gs e)
 (ad : Addr) (hx : a.eval x = .slice (some ad) 1 1) (g : Nat) (f : Nat → Int) (h0 : w.cell? (ad.add 0) = some (.slice (some ⟨g, 0, none⟩) c c)) (hr : IRow w g c f) (hn : n ≤ 10000) (hB : B ≤ w.heap.size)
 (hK : ∀ v' w', Mat B w' v' (n + 1) c (fun i => if i = n then g else gs i) (fun i => if i = n then f else e i) → KB B w w' → w.grownBy w' v.ownBlock → (∀ k, v.ownBlock = some k → B ≤ k) → wpList Tryz.prog ops Q rest (a.put o.dst v') w') : wpList Tryz.prog ops Q (o :: rest) a w := by
 obtain ⟨i, hi, hz0, hz1, hz2⟩ := info_parts Tryz.info51'
 have hlt := World.ownsRow.lt hm.1
 have hty : ∀ k, v.ownBlock = some k → Ty w k 51 := by
  intro k hk
  rcases hm.1.2 with ⟨rfl, _⟩ | ⟨g, cap, cur, rfl, hg, hh, r⟩
  ·simp [Value.ownBlock] at hk
  ·simp [Value.ownBlock] at hk
   subst hk
   exact ⟨_, _, hh⟩
 refine wpList_append_own w hgd s x 57 ho B 51 i (.slice none 0 0) 1 24 Tryz.underlying57 hi hz0 hz1 hz2 rfl (by decide) v n (rcells n c gs) hs hm.1 ad 1 1 [rowV c g] hx rfl ?_ ?_ ?_ ?_ hB ?_
 ·intro j u hj
  match j, hj with
  | 0, hj => simp at hj; subst hj; exact h0
 ·intro u hu; simp at hu; subst hu; rfl
 ·unfold maxLen; omega
 ·omega
 ·intro v' w' k1 k2 _
  have key : ∀ (b : Nat) (f' : Nat → Int), IRow w b c f' → IRow w' b c f' := by
   intro b f' hb
   unfold IRow
   rw [k2.block b hb.lt ?_]
   ·exact hb
   ·intro e
    obtain ⟨cc, fr, h3⟩ := hty b e.symm
    unfold IRow at hb
    rw [hb] at h3
    simp at h3
  refine hK v' w' ⟨by rw [← rcells_snoc]; exact k1, fun j hj => ?_⟩ ?_ k2 (fun k hk => (hlt k hk).1)
  ·by_cases hjn : j = n
   ·simp only [hjn, if_true]; exact key _ _ hr
   ·simp only [hjn, if_false]; exact key _ _ (hm.2 j (by omega))
  ·intro b arr t hb _ h1
   rw [k2.block b (Array.getElem?_eq_some_iff.1 h1).1 ?_]
   ·exact h1
   ·intro e; have := (hlt b e.symm).1; omega
open Go.RowKit
def Di (w : World) (d : Nat) : Prop := ∃ x : Nat, x < 2147483648 ∧ w.heap[d]? = some (.cells #[.int .i64 (x : Nat)] 54 (0, 0))
theorem Di.lt {w : World} {d : Nat} (h : Di w d) : d < w.heap.size := by obtain ⟨x, _, h⟩ := h; exact (Array.getElem?_eq_some_iff.1 h).1
theorem Di.ty {w : World} {d : Nat} (h : Di w d) : Ty w d 54 := by obtain ⟨x, _, h⟩ := h; exact ⟨_, _, h⟩
theorem Di.below {w w' : World} {d : Nat} {B : Nat} (h : Di w d) (hb : Below B w w') (hB : d < B) : Di w' d := by obtain ⟨x, h0, h⟩ := h; exact ⟨x, h0, by rw [hb.block d hB]; exact h⟩
theorem pick_any (c n : Int) (w : World) (hc1 : -9223372036854775808 ≤ c) (hc2 : c ≤ 9223372036854775807) (hn : 0 < n) (hn2 : n ≤ 4294967296) :
 Calls Tryz.prog 12 #[.int .i64 c, .int .i64 n] w fun e w' => (∃ v : Nat, e = .returned (.int .i64 (v : Nat)) ∧ (v : Int) < n) ∧ w' = w := by
 by_cases h0 : c < 0
 ·have hn0 : n ≠ 0 := by omega
  go_enter Tryz.func12, Tryz.ntmps12
  go_wp2_with fail
  go_ret
  refine ⟨⟨((-(c + 1)) % n).toNat, ?_, ?_⟩, rfl⟩
  ·refine ret_int ?_
   have h1 := Int.emod_nonneg (-(c + 1)) hn0
   have h2 : (-(c + 1)).tmod n = (-(c + 1)) % n := Int.tmod_eq_emod_of_nonneg (by omega)
   rw [Int.neg_tmod] at h2
   omega
  ·have := Int.emod_lt_of_pos (-(c + 1)) hn; have := Int.emod_nonneg (-(c + 1)) hn0; omega
 ·have hn0 : n ≠ 0 := by omega
  go_enter Tryz.func12, Tryz.ntmps12
  go_wp2_with fail
  go_ret
  refine ⟨⟨(c % n).toNat, ?_, ?_⟩, rfl⟩
  ·exact ret_int (by have := Int.emod_nonneg c hn0; omega)
  ·have := Int.emod_lt_of_pos c hn; have := Int.emod_nonneg c hn0; omega
set_option maxHeartbeats 1000000 in
theorem under_any (d n : Nat) (w : World) (h : Di w d) (hn : 0 < n) (hn2 : n ≤ 1000) :
 Calls Tryz.prog 24 #[.pointer (some ⟨d, 0, none⟩), .int .i64 n] w fun e w' => (∃ v : Nat, e = .returned (.int .i64 (v : Nat)) ∧ v < n) ∧ Di w' d ∧ w.grownBy w' (some d) := by
 obtain ⟨x, hx, hh⟩ := h
 have c0 : w.cell? ⟨d, 0, none⟩ = some (.int .i64 (x : Nat)) := by simp [World.cell?, hh]
 have f0 : w.frozen? ⟨d, 0, none⟩ = false := by simp [World.frozen?, hh]
 have hxi : (x : Int) < 2147483648 := by omega
 have HH := Hid.mk hh
 clear hh
 go_enter Tryz.func24, Tryz.ntmps24
 go_wp2_with fail
 go_ret
 have hy : ∃ y : Nat, y < 2147483648 ∧ ((x : Int) * 1103515245 + 12345) % 2147483648 = (y : Nat) := ⟨((x : Int) * 1103515245 + 12345).toNat % 2147483648, by omega, by omega⟩
 obtain ⟨y, hy1, hy2⟩ := hy
 rw [hy2]
 refine ⟨⟨y / 256 % n, ret_int (by simp), Nat.mod_lt _ hn⟩, ⟨y, hy1, ?_⟩, rfl, rfl, rfl, by simp [World.setCell], fun k _ hne => ?_⟩
 ·rw [heap_setCell_same _ _ _ _ _ _ HH.out]; simp
 ·exact Below.heap_setCell _ _ _ _ (fun e => hne (by simp [e]))
def Dk (w : World) (d b : Nat) : Prop := w.heap[d]? = some (.cells #[.pointer (some ⟨b, 0, none⟩)] 40 (0, 0))
theorem Dk.lt {w : World} {d b : Nat} (h : Dk w d b) : d < w.heap.size := (Array.getElem?_eq_some_iff.1 h).1
theorem Dk.cell {w : World} {d b : Nat} (h : Dk w d b) : w.cell? ⟨d, 0, none⟩ = some (.pointer (some ⟨b, 0, none⟩)) := by unfold Dk at h; simp [World.cell?, h]
theorem Dk.below {B : Nat} {w w' : World} {d b : Nat} (h : Dk w d b) (hb : Below B w w') (hB : d < B) : Dk w' d b := by unfold Dk; rw [hb.block d hB]; exact h
theorem Dk.grown {w w' : World} {d b p : Nat} (h : Dk w d b) (hg : w.grownBy w' (some p)) (hp : p ≠ d) : Dk w' d b := by unfold Dk; rw [hg.block d h.lt (fun e => hp (by injection e with e; exact e.symm))]; exact h
theorem start_any (a : Int) (w : World) (h1 : -9223372036854775808 ≤ a) (h2 : a ≤ 9223372036854775807) : Calls Tryz.prog 8 #[.int .i64 a] w fun e w' => ∃ d, e = .returned (.pointer (some ⟨d, 0, none⟩)) ∧ Di w' d ∧ w.heap.size ≤ d ∧ Below w.heap.size w w' := by
 go_enter Tryz.func8, Tryz.ntmps8
 go_wp2_with fail
 refine (pick_any a 2147483648 _ h1 h2 (by omega) (by omega)).mono ?_
 rintro e w' ⟨⟨v, rfl, hv⟩, rfl⟩
 go_wp2_with fail
 refine (under_any w'.heap.size 2 _ ⟨v, by omega, heap_alloc_new w' _⟩ (by omega) (by omega)).mono ?_
 rintro e w2 ⟨⟨u, rfl, hu⟩, hd, hg⟩
 have H := Hid.mk (And.intro hd hg)
 clear hd hg
 go_wp2_with fail
 go_ret
 refine ⟨w'.heap.size, rfl, H.out.1, Nat.le_refl _, ?_⟩
 have hg := H.out.2
 refine ⟨hg.os, hg.tape, hg.output, by have := hg.size; simp at this; omega, fun k hk => ?_⟩
 rw [hg.block k (by simp; omega) (by intro e; injection e with e; omega)]
 exact (((Below.refl w'.heap.size w').alloc (Nat.le_refl _) _).block k hk)
end Go.Proofs.YtfjbijpagaipnabGreatDoor
