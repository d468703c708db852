/- grid.Matrix.Det: one row more. -/
import Derived.Test.YtjhcbenldfplcaaDoorDet
import Derived.Deep.CutRange
import Derived.Deep.LoopGhost
namespace Go.Proofs.YtjhcbenldfplcaaDoor
open Go.RowKit

theorem new_cell (w : World) (c : Array Value) (t : TypeId) (i b : Nat) {v : Value} (hb : b = w.heap.size) (h : c[i]? = some v) : (w.alloc (.cells c t)).cell? ⟨b, i, none⟩ = some v := by
  rw [hb, World.cell?_alloc_new]; exact h
theorem new_frozen (w : World) (c : Array Value) (t : TypeId) (i b : Nat) (hb : b = w.heap.size) : (w.alloc (.cells c t)).frozen? ⟨b, i, none⟩ = false := by
  rw [hb]; exact World.frozen?_alloc_new _ _ _ _
theorem at_first (v : Value) (r c col : Nat) (zs : List Int) (L : Nat) (w : World) (hm : IsM w v r c zs L) (h1 : 0 < r) (h2 : col < c) :
    Calls Tryd.prog 31 #[v, .int .i64 0, .int .i64 col] w fun e w' => ∃ x, e = .returned x ∧ IntOut w w' x (zs.getD col 0) L := by
  have := at_in v r c 0 col zs L w hm h1 h2
  rw [Nat.zero_mul, Nat.zero_add] at this
  exact this
/-- A box with two cells, of a whole number. -/
def Duo (w : World) (b : Nat) (x y : Value) : Prop := w.heap[b]? = some (.cells #[x, y] 66 (0, 0))
theorem Duo.below {B : Nat} {w w' : World} {b : Nat} {x y : Value} (h : Duo w b x y) (hb : Below B w w') (hB : b < B) : Duo w' b x y := by unfold Duo; rw [hb.block b hB]; exact h
theorem Duo.new (w : World) (x y : Value) {b : Nat} (hb : b = w.heap.size) : Duo (w.alloc (.cells #[x, y] 66)) b x y := by rw [hb]; exact heap_alloc_new w _
theorem Duo.drew {w : World} {b : Nat} {x y : Value} (h : Duo w b x y) : Duo w.drew b x y := h
theorem Duo.put {w : World} {b : Nat} {x y : Value} (h : Duo w b x y) (x' y' : Value) : Duo ((w.setCell ⟨b, 0, none⟩ x').setCell ⟨b, 1, none⟩ y') b x' y' := by
  unfold Duo at *
  rw [heap_setCell_same _ _ _ _ _ _ (heap_setCell_same _ _ _ _ _ _ h)]
  simp
theorem Duo.ty {w : World} {b : Nat} {x y : Value} (h : Duo w b x y) : Ty w b 66 := ⟨_, _, h⟩
theorem Duo.cells {w : World} {b : Nat} {x y : Value} (h : Duo w b x y) : w.cell? ⟨b, 0, none⟩ = some x ∧ w.cell? ⟨b, 1, none⟩ = some y ∧ w.frozen? ⟨b, 0, none⟩ = false ∧ w.frozen? ⟨b, 1, none⟩ = false := by
  unfold Duo at h
  refine ⟨?_, ?_, ?_, ?_⟩ <;> simp [World.cell?, World.frozen?, h]
theorem Boxes.other {w : World} {b d r c p : Nat} {sl : Value} {nb : Bool} {s x y : Value} (h : Boxes w b d r c sl nb s) (h1 : p ≠ b) (h2 : p ≠ d) : Boxes ((w.setCell ⟨p, 0, none⟩ x).setCell ⟨p, 1, none⟩ y) b d r c sl nb s := by
  have o : ∀ i j : Nat, (⟨p, i, none⟩ : Addr) ≠ ⟨b, j, none⟩ := fun i j e => h1 (by injection e)
  have o2 : ∀ i j : Nat, (⟨p, i, none⟩ : Addr) ≠ ⟨d, j, none⟩ := fun i j e => h2 (by injection e)
  obtain ⟨a1, a2, a3, a4, a5, a6, a7⟩ := h
  refine ⟨?_, ?_, ?_, ?_, ?_, by simpa using a6, by simpa using a7⟩
  · rw [World.cell?_setCell_other _ _ _ _ (o _ _), World.cell?_setCell_other _ _ _ _ (o _ _)]; exact a1
  · rw [World.cell?_setCell_other _ _ _ _ (o _ _), World.cell?_setCell_other _ _ _ _ (o _ _)]; exact a2
  · rw [World.cell?_setCell_other _ _ _ _ (o _ _), World.cell?_setCell_other _ _ _ _ (o _ _)]; exact a3
  · rw [World.cell?_setCell_other _ _ _ _ (o2 _ _), World.cell?_setCell_other _ _ _ _ (o2 _ _)]; exact a4
  · rw [World.cell?_setCell_other _ _ _ _ (o2 _ _), World.cell?_setCell_other _ _ _ _ (o2 _ _)]; exact a5
theorem grown_new {W w : World} {row : Option Nat} {p i j : Nat} {x y : Value} (h : W.grownBy w row) (hp : W.heap.size ≤ p) : W.grownBy ((w.setCell ⟨p, i, none⟩ x).setCell ⟨p, j, none⟩ y) row := by
  refine ⟨h.os, h.tape, h.output, by have := h.size; simp [World.setCell]; omega, fun k hk hne => ?_⟩
  rw [Below.heap_setCell _ _ _ _ (by simp; omega), Below.heap_setCell _ _ _ _ (by simp; omega)]
  exact h.block k hk hne
/-- The product of an entry and what is left lies in a box of Det's own. -/
def PartOut (w4 : World) (z : Int) (L : Nat) (p : Value) (wx : World) : Prop := ∃ (pb : Nat) (nq : Bool) (qo : Option Addr) (mq qcap : Nat), p = .pointer (some ⟨pb, 0, none⟩) ∧ w4.heap.size ≤ pb ∧ Duo wx pb (.bool nq) (.slice qo mq qcap) ∧ IsI wx (.agg #[.bool nq, .slice qo mq qcap]) z L ∧ Below w4.heap.size w4 wx
theorem PartOut.made {w4 w6 : World} {z : Int} {L : Nat} {nq : Bool} {qo : Option Addr} {mq qcap : Nat} (hq : IsI w6 (.agg #[.bool nq, .slice qo mq qcap]) z L) (hb : Below w4.heap.size w4 w6) :
    PartOut w4 z L (.pointer (some ⟨w6.heap.size, 0, none⟩)) (w6.alloc (.cells #[.bool nq, .slice qo mq qcap] 66)) :=
  ⟨_, nq, qo, mq, qcap, rfl, hb.size, Duo.new _ _ _ rfl, hq.below ((Below.refl _ _).alloc (Nat.le_refl _) _), hb.alloc hb.size _⟩
theorem PartOut.stored {w4 w6 : World} {z : Int} {L b : Nat} {nq : Bool} {qo : Option Addr} {mq qcap : Nat} {x y : Value} (ht : Duo w6 b x y) (hle : w4.heap.size ≤ b) (hq : IsI w6 (.agg #[.bool nq, .slice qo mq qcap]) z L) (hb : Below w4.heap.size w4 w6) :
    PartOut w4 z L (.pointer (some ⟨b, 0, none⟩)) ((w6.setCell ⟨b, 0, none⟩ (.bool nq)).setCell ⟨b, 1, none⟩ (.slice qo mq qcap)) :=
  ⟨_, nq, qo, mq, qcap, rfl, hle, ht.put _ _, hq.keep (KU.setCell (KU.setCell (KU.refl _) ht.ty (by decide) _) (ht.ty.setCell _ _) (by decide) _), (hb.setCell hle _).setCell hle _⟩
theorem grown_put2 {W w : World} {b i j : Nat} {x y : Value} (h : W.grownBy w (some b)) : W.grownBy ((w.setCell ⟨b, i, none⟩ x).setCell ⟨b, j, none⟩ y) (some b) := by
  refine grown_trans h ⟨rfl, rfl, rfl, by simp [World.setCell], fun k _ hne => ?_⟩
  rw [Below.heap_setCell _ _ _ _ (fun e => hne (by simp [e])), Below.heap_setCell _ _ _ _ (fun e => hne (by simp [e]))]
theorem sum_next {n k : Nat} {f : Nat → Nat → Int} {S : Int} (h : S = sumF k fun c => signed c (f 0 c * detF n fun i j => f (i + 1) (skip c j))) :
    S + signed k (f 0 k * detF n fun i j => f (i + 1) (skip k j)) = sumF (k + 1) fun c => signed c (f 0 c * detF n fun i j => f (i + 1) (skip c j)) := by rw [sumF, h]

set_option maxRecDepth 100000 in
set_option maxHeartbeats 4000000 in
theorem det_succ (n : Nat) (ih : DetSaid n) : DetSaid (n + 1) := by
  intro v zs f L w hm hrep hl hL
  have HIH := Hid.mk ih
  have HREP := Hid.mk hrep
  have HLD := Hid.mk hl
  have HM := Hid.mk hm
  clear ih hrep hl
  obtain ⟨hr, _, sl, rfl, hg0⟩ := hm
  obtain ⟨ao, cap, rfl, -⟩ := hg0.shape
  clear hg0
  obtain ⟨R, hR⟩ : ∃ R, R = n + 1 := ⟨_, rfl⟩
  obtain ⟨N, hN⟩ : ∃ N, N = (n + 1) * (n + 1) := ⟨_, rfl⟩
  rw [← hN] at HM ⊢
  rw [← hR] at HM hr ⊢
  have HR := Hid.mk hR
  have hR0 : 0 < R := by omega
  have hne : ((R : Int) == 0) = false := beq_eq_false_iff_ne.2 (by omega)
  clear hR hN
  go_enter Tryd.func22, Tryd.ntmps22
  go_wp2_with (go_at_call 20; refine (isSquare_raw _ _ _ _ _ _).mono ?_; rintro e w' ⟨rfl, rfl⟩)
  obtain ⟨W1, hW1⟩ : ∃ W1, W1 = (((w.alloc (.cells #[.int .i64 R, .int .i64 R, .slice ao N cap] 52)).alloc (.cells #[.bool false, .slice none 0 0] 66)).alloc (.cells #[.int .i64 R, .int .i64 R, .slice ao N cap] 52)).alloc (.cells #[.bool false, .slice none 0 0] 66) := ⟨_, rfl⟩
  rw [← hW1]
  have hB1 : Below w.heap.size w W1 := by
    rw [hW1]
    repeat (first | exact Below.refl _ _ | refine Below.alloc ?_ (by simp <;> omega) _)
  have hx1 : Boxes W1 w.heap.size (w.heap.size + 1 + 1 + 1) R R (.slice ao N cap) false (.slice none 0 0) := by
    rw [hW1]
    refine ⟨?_, ?_, ?_, ?_, ?_, ?_, ?_⟩
    · exact cell3 (by simp) _ _ _
    · exact cell3 (by simp) _ _ _
    · exact cell3 (by simp) _ _ _
    · exact new_cell _ _ _ _ _ (by simp) rfl
    · exact new_cell _ _ _ _ _ (by simp) rfl
    · exact new_frozen _ _ _ _ _ (by simp)
    · exact new_frozen _ _ _ _ _ (by simp)
  have hty1 : Ty W1 (w.heap.size + 1 + 1 + 1) 66 := by rw [hW1]; exact Ty.at_ _ _ _ (by simp)
  have hres : W1.heap[w.heap.size + 1]? = some (.cells #[.bool false, .slice none 0 0] 66 (0, 0)) := by
    rw [hW1, Below.heap_alloc _ _ _ (by simp), Below.heap_alloc _ _ _ (by simp)]
    have := heap_alloc_new (w.alloc (.cells #[.int .i64 R, .int .i64 R, .slice ao N cap] 52)) (.cells #[.bool false, .slice none 0 0] 66)
    simpa using this
  have hS : W1.heap.size = w.heap.size + 4 := by rw [hW1]; simp
  obtain ⟨sb, hsb⟩ : ∃ sb, sb = w.heap.size + 1 + 1 + 1 := ⟨_, rfl⟩
  rw [← hsb] at hx1 hty1 ⊢
  have hsb1 : w.heap.size + 3 ≤ sb := by omega
  have hsb2 : sb ≤ w.heap.size + 3 := by omega
  have FR := Hid.mk hres
  have HS := Hid.mk hS
  clear hW1 hres hS hsb
  go_loopg [4] R (fun gk i wr => ∃ (k : Nat) (S : Int) (nb : Bool) (bo : Option Addr) (m ecap : Nat), k ≤ R ∧ i = .int .i64 k ∧ Ty wr sb 66 ∧ Boxes wr w.heap.size sb R R (.slice ao N cap) nb (.slice bo m ecap) ∧ IsI wr (.agg #[.bool nb, .slice bo m ecap]) S (L + LD L n + k) ∧ W1.grownBy wr (some sb) ∧ Below w.heap.size w wr ∧
      Hid (gk = R - k ∧ S = sumF k fun c => signed c (f 0 c * detF n fun i j => f (i + 1) (skip c j))))
  case atStart => exact ⟨0, 0, _, _, _, _, Nat.zero_le _, rfl, hty1, hx1, IsI.zero _ _, World.grownBy.refl _ _, hB1, Hid.mk ⟨by omega, rfl⟩⟩
  case round =>
    clear hx1 hB1 hty1
    obtain ⟨k, S, nb, bo, m, ecap, hk, rfl, hty, hx, hI, hgr, hB, HSUM⟩ := hrel
    obtain ⟨m0, m1, m2, s0, s1, z0, z1⟩ := id hx
    have HX := Hid.mk hx
    have HTY := Hid.mk hty
    clear hty
    have HI := Hid.mk hI
    have HG := Hid.mk hgr
    have HB := Hid.mk hB
    clear hx hI hgr hB
    by_cases hkR : k < R
    · go_wp2_with fail
      refine (minor_any _ R R k zs L _ ((HR.out ▸ HM.out : IsM w _ R R zs L).below HB.out) (by omega) hkR).mono ?_
      rintro e w2 ⟨x, rfl, ⟨ms, hms, hmo⟩, hb2⟩
      have HTY2 := Hid.mk (HTY.out.below hb2 HTY.out.lt)
      have hrep2 : Rep n ms fun i j => f (i + 1) (skip k j) := HREP.out.minor (HR.out ▸ hmo)
      have hms2 : IsM w2 x n n ms L := by have := HR.out; subst this; exact hms
      obtain ⟨g1, g2, sl2, rfl, hg2⟩ := id hms2
      obtain ⟨co, dcap, rfl, -⟩ := hg2.shape
      have hx2 := HX.out.below hb2
      have hI2 := HI.out.below hb2
      have hgr2 := grown_below HG.out hb2
      have hB2 : Below w.heap.size w w2 := HB.out.trans (hb2.mono HB.out.size)
      clear m0 m1 m2 s0 s1 z0 z1 HX HI HG HB hg2 hms hmo hb2
      have H2 := Hid.mk (And.intro hms2 (And.intro hrep2 (And.intro hx2 (And.intro hI2 (And.intro hgr2 hB2)))))
      clear hms2 hrep2 hx2 hI2 hgr2 hB2
      go_wp2_with fail
      refine (HIH.out _ ms (fun i j => f (i + 1) (skip k j)) L _ (H2.out.1.below ((Below.refl _ _).alloc (Nat.le_refl _) _)) H2.out.2.1 (by have := HLD.out; have := LD_mono L n; omega) hL).mono ?_
      rintro e w4 ⟨rest, rfl, hrest, hb4⟩
      obtain ⟨nr, eo, me, fcap, rfl⟩ := hrest.shape
      have h24 : Below w2.heap.size w2 w4 := ((Below.refl w2.heap.size w2).alloc (Nat.le_refl _) _).trans (hb4.mono (by simp))
      obtain ⟨-, -, hx2, hI2, hgr2, hB2⟩ := H2.out
      have HTS := Hid.mk (HTY2.out.below h24 HTY2.out.lt)
      have hx4 := hx2.below h24
      have hI4 := hI2.below h24
      have hgr4 := grown_below hgr2 h24
      have hB4 : Below w.heap.size w w4 := hB2.trans (h24.mono hB2.size)
      have hM4 : IsM w4 (.agg #[.int .i64 R, .int .i64 R, .slice ao N cap]) R R zs L := (HR.out ▸ HM.out : IsM w _ R R zs L).below hB4
      obtain ⟨m0, m1, m2, s0, s1, z0, z1⟩ := id hx4
      have m0' := cell1 m0
      have m1' := cell1 m1
      have m2' := cell1 m2
      have hlt := hx4.lt
      have H4 := Hid.mk (And.intro hx4 (And.intro hI4 (And.intro hgr4 (And.intro hB4 (And.intro hM4 hrest)))))
      clear H2 hx2 hI2 hgr2 hB2 hx4 hI4 hgr4 hB4 hM4 hrest hb4 h24 m0 m1 m2 s0 s1 z0 z1
      obtain ⟨hlt1, hlt2⟩ := hlt
      go_upto_region 11 with fail
      go_cut [7] from 17 to 40 (fun p wx => PartOut w4 (zs.getD k 0 * detF n fun i j => f (i + 1) (skip k j)) (L + LD L n) p wx)
      case first =>
        go_region_with (first
          | (go_at_call 31; go_must (refine (at_first _ R R k zs L _ (H4.out.2.2.2.2.1.below (by repeat (first | exact Below.refl _ _ | refine Below.drew ?_ | refine Below.alloc ?_ (by simp <;> omega) _))) hR0 hkR).mono ?_; rintro e w5 ⟨y, rfl, hy, hb5⟩; obtain ⟨ny, fo, mf, gcap, rfl⟩ := hy.shape; obtain ⟨hc5, hf5⟩ := bcell hb5; have hsz5 : w4.heap.size < w5.heap.size := (by have := hb5.size; simp at this; omega); try (have TW5 := Hid.mk (Duo.below (Duo.drew (Duo.new (w4.alloc _) (.bool false) (.slice none 0 0) (b := w4.heap.size + 1) (by simp))) hb5 (by simp)); obtain ⟨a1, a2, a3, a4⟩ := TW5.out.cells; have l5 : w4.heap.size + 1 < w5.heap.size := TW5.out.ty.lt)))
          | (go_at_call 32; go_must (refine (mul_any _ _ _ _ L (LD L n) _ (hy.below (by repeat (first | exact Below.refl _ _ | refine Below.alloc ?_ (by first | omega | (simp <;> omega)) _))) (H4.out.2.2.2.2.2.below (by repeat (first | exact Below.refl _ _ | refine Below.trans ?_ (hb5.mono (by first | omega | (simp <;> omega))) | refine Below.drew ?_ | refine Below.alloc ?_ (by first | omega | (simp <;> omega)) _))) (by omega) (by have := HLD.out; have := LD_mono L n; omega)).mono ?_; rintro e w6 ⟨q, rfl, hq, hb6⟩; have HB46 : Hid (Below w4.heap.size w4 w6) := Hid.mk (Below.trans (by repeat (first | exact Below.refl _ _ | refine Below.trans ?_ (hb5.mono (by first | omega | (simp <;> omega))) | refine Below.drew ?_ | refine Below.alloc ?_ (by first | omega | (simp <;> omega)) _)) (hb6.mono (by first | omega | (simp <;> omega)))); obtain ⟨nq, qo, mq, qcap, rfl⟩ := hq.shape; obtain ⟨hc6, hf6⟩ := bcell hb6; have hsz6 := hb6.size; try (have TW := Hid.mk (Duo.below (Duo.new w5 (.bool false) (.slice none 0 0) rfl) hb6 (by simp)); obtain ⟨t1, t2, t3, t4⟩ := TW.out.cells); try (have TW := Hid.mk (TW5.out.below hb6 (by have := TW5.out.ty.lt; omega)); obtain ⟨t1, t2, t3, t4⟩ := TW.out.cells))))
        all_goals
          go_wp2_with fail
          go_meet
          case rel =>
            first
              | exact PartOut.made hq HB46.out
              | exact PartOut.stored TW.out (Nat.le_of_lt hsz5) hq HB46.out
              | exact PartOut.stored TW.out (Nat.le_succ _) hq HB46.out
              | exact PartOut.stored (TW5.out.below hb6 l5) (Nat.le_succ _) hq HB46.out
      case rest =>
        obtain ⟨pb, nq, qo, mq, qcap, rfl, hpb, hTwo, hq, hbc⟩ := hcut
        obtain ⟨hx4, hI4, hgr4, hB4, -, -⟩ := H4.out
        have hxC := hx4.below hbc
        have hIC := hI4.below hbc
        have hgC := grown_below hgr4 hbc
        have hBC : Below w.heap.size w wc := hB4.trans (hbc.mono hB4.size)
        have hTC : Ty wc sb 66 := HTS.out.below hbc HTS.out.lt
        have hf0 : zs.getD k 0 = f 0 k := by have := HREP.out 0 k (by omega) (by have := HR.out; omega); simpa using this
        have hltp : pb < wc.heap.size := hTwo.ty.lt
        rw [hf0] at hq
        clear H4 hx4 hI4 hgr4 hB4 hbc m0' m1' m2' hf0
        by_cases hodd : k % 2 = 1
        · have hod : ((k : Int) % 2 == 1) = true := beq_iff_eq.2 (by omega)
          have HZZ0 : Hid (-(f 0 k * detF n fun i j => f (i + 1) (skip k j)) = signed k (f 0 k * detF n fun i j => f (i + 1) (skip k j))) := Hid.mk (by unfold signed; rw [if_pos hodd])
          clear hodd
          have HC := Hid.mk (And.intro hxC (And.intro hIC (And.intro hgC (And.intro hBC (And.intro hTC (And.intro hTwo hq))))))
          obtain ⟨t1, t2, t3, t4⟩ := hTwo.cells
          clear hxC hIC hgC hBC hTC hTwo hq
          go_wp2_with fail
          refine (neg_any _ _ _ _ HC.out.2.2.2.2.2.2).mono ?_
          rintro e w7 ⟨r, rfl, hr, hb7⟩
          obtain ⟨nz7, oz7, mz7, cz7, rfl⟩ := hr.shape
          obtain ⟨hxC, hIC, hgC, hBC, hTC, hTwo, -⟩ := HC.out
          have hT7 := hTwo.below hb7 hltp
          have hx7 := hxC.below hb7
          obtain ⟨t5, t6, t7, t8⟩ := hT7.cells
          have hku : KU w7 ((w7.setCell ⟨pb, 0, none⟩ (.bool nz7)).setCell ⟨pb, 1, none⟩ (.slice oz7 mz7 cz7)) := KU.setCell (KU.setCell (KU.refl _) hT7.ty (by decide) _) (hT7.ty.setCell _ _) (by decide) _
          have hPX : IsI ((w7.setCell ⟨pb, 0, none⟩ (.bool nz7)).setCell ⟨pb, 1, none⟩ (.slice oz7 mz7 cz7)) (.agg #[.bool nz7, .slice oz7 mz7 cz7]) (-(f 0 k * detF n fun i j => f (i + 1) (skip k j))) (L + LD L n) := hr.keep hku
          have hIX := (hIC.below hb7).keep hku
          have hxX : Boxes ((w7.setCell ⟨pb, 0, none⟩ (.bool nz7)).setCell ⟨pb, 1, none⟩ (.slice oz7 mz7 cz7)) w.heap.size sb R R (.slice ao N cap) nb (.slice bo m ecap) := hx7.other (by omega) (by omega)
          have hgX : W1.grownBy ((w7.setCell ⟨pb, 0, none⟩ (.bool nz7)).setCell ⟨pb, 1, none⟩ (.slice oz7 mz7 cz7)) (some sb) := grown_new (grown_below hgC hb7) (by have := HS.out; omega)
          have hBX : Below w.heap.size w ((w7.setCell ⟨pb, 0, none⟩ (.bool nz7)).setCell ⟨pb, 1, none⟩ (.slice oz7 mz7 cz7)) := ((hBC.trans (hb7.mono hBC.size)).setCell (by simp; omega) _).setCell (by simp; omega) _
          have hTX := ((hTC.below hb7 hTC.lt).setCell ⟨pb, 0, none⟩ (.bool nz7)).setCell ⟨pb, 1, none⟩ (.slice oz7 mz7 cz7)
          obtain ⟨q0, q1, q2, q3, q4, q5, q6⟩ := id hxX
          obtain ⟨y1, y2, y3, y4⟩ := (hT7.put (.bool nz7) (.slice oz7 mz7 cz7)).cells
          generalize hzz : -(f 0 k * detF n fun i j => f (i + 1) (skip k j)) = zz at hPX HZZ0
          have HZZ := HZZ0
          clear HZZ0 hzz hr hb7 hT7 hx7 hku hxC hIC hgC hBC hTC hTwo t1 t2 t3 t4
          have P := Hid.mk (And.intro hPX (And.intro hIX (And.intro hxX (And.intro hgX (And.intro hBX hTX)))))
          clear hPX hIX hxX hgX hBX hTX HC
          go_wp2_with fail
          obtain ⟨hPX, hIX, hxX, hgX, hBX, hTX⟩ := P.out
          refine (add_any _ _ S zz (L + LD L n + k) (L + LD L n) _ hIX hPX (by have := HLD.out; rw [LD] at this; omega) (by have := HLD.out; rw [LD] at this; omega)).mono ?_
          rintro e w9 ⟨r2, rfl, hr2, hb9⟩
          obtain ⟨nb2, bo2, m2, ec2, rfl⟩ := hr2.shape
          have hx9 := hxX.below hb9
          have hg9 := grown_below hgX hb9
          have hB9 : Below w.heap.size w w9 := hBX.trans (hb9.mono hBX.size)
          obtain ⟨-, -, -, s0, s1, z0, z1⟩ := id hx9
          have hty9 : Ty w9 sb 66 := hTX.below hb9 hTX.lt
          have H9 := Hid.mk (And.intro hx9 (And.intro hg9 (And.intro hB9 (And.intro hr2 hty9))))
          clear hx9 hg9 hB9 hr2 hty9 hb9 hxX hIX hPX hgX hBX hTX P t5 t6 t7 t8 q0 q1 q2 q3 q4 q5 q6 y1 y2 y3 y4
          go_wp2_with fail
          go_roundg (R - (k + 1))
          case measure => have := HSUM.out.1; omega
          case rel =>
            obtain ⟨hx9, hg9, hB9, hr2, hty9⟩ := H9.out
            refine ⟨k + 1, S + zz, nb2, bo2, m2, ec2, by omega, by go_num, (hty9.setCell _ _).setCell _ _, hx9.put (by omega), (hr2.mono (by omega)).keep (KU.setCell (KU.setCell (KU.refl _) hty9 (by decide) _) (hty9.setCell _ _) (by decide) _), grown_put2 hg9, (hB9.setCell (by simp; omega) _).setCell (by simp; omega) _, Hid.mk ⟨rfl, ?_⟩⟩
            rw [← sum_next HSUM.out.2, HZZ.out]
        · have hod : ((k : Int) % 2 == 1) = false := beq_eq_false_iff_ne.2 (by omega)
          have HZZ0 : Hid ((f 0 k * detF n fun i j => f (i + 1) (skip k j)) = signed k (f 0 k * detF n fun i j => f (i + 1) (skip k j))) := Hid.mk (by unfold signed; rw [if_neg hodd])
          clear hodd
          obtain ⟨q0, q1, q2, q3, q4, q5, q6⟩ := id hxC
          obtain ⟨y1, y2, y3, y4⟩ := hTwo.cells
          generalize hzz : (f 0 k * detF n fun i j => f (i + 1) (skip k j)) = zz at hq HZZ0
          have HZZ : Hid (zz = signed k (f 0 k * detF n fun i j => f (i + 1) (skip k j))) := Hid.mk (by rw [hzz]; exact HZZ0.out)
          have P := Hid.mk (And.intro hq (And.intro hIC (And.intro hxC (And.intro hgC (And.intro hBC hTC)))))
          clear HZZ0 hzz hq hIC hxC hgC hBC hTC hTwo
          go_wp2_with fail
          obtain ⟨hPX, hIX, hxX, hgX, hBX, hTX⟩ := P.out
          refine (add_any _ _ S zz (L + LD L n + k) (L + LD L n) _ hIX hPX (by have := HLD.out; rw [LD] at this; omega) (by have := HLD.out; rw [LD] at this; omega)).mono ?_
          rintro e w9 ⟨r2, rfl, hr2, hb9⟩
          obtain ⟨nb2, bo2, m2, ec2, rfl⟩ := hr2.shape
          have hx9 := hxX.below hb9
          have hg9 := grown_below hgX hb9
          have hB9 : Below w.heap.size w w9 := hBX.trans (hb9.mono hBX.size)
          obtain ⟨-, -, -, s0, s1, z0, z1⟩ := id hx9
          have hty9 : Ty w9 sb 66 := hTX.below hb9 hTX.lt
          have H9 := Hid.mk (And.intro hx9 (And.intro hg9 (And.intro hB9 (And.intro hr2 hty9))))
          clear hx9 hg9 hB9 hr2 hty9 hb9 hxX hIX hPX hgX hBX hTX P q0 q1 q2 q3 q4 q5 q6 y1 y2 y3 y4
          go_wp2_with fail
          go_roundg (R - (k + 1))
          case measure => have := HSUM.out.1; omega
          case rel =>
            obtain ⟨hx9, hg9, hB9, hr2, hty9⟩ := H9.out
            refine ⟨k + 1, S + zz, nb2, bo2, m2, ec2, by omega, by go_num, (hty9.setCell _ _).setCell _ _, hx9.put (by omega), (hr2.mono (by omega)).keep (KU.setCell (KU.setCell (KU.refl _) hty9 (by decide) _) (hty9.setCell _ _) (by decide) _), grown_put2 hg9, (hB9.setCell (by simp; omega) _).setCell (by simp; omega) _, Hid.mk ⟨rfl, ?_⟩⟩
            rw [← sum_next HSUM.out.2, HZZ.out]
    · have hres : wr.heap[w.heap.size + 1]? = some (.cells #[.bool false, .slice none 0 0] 66 (0, 0)) := by
        rw [HG.out.block _ (by have := HS.out; omega) (by simp; omega)]; exact FR.out
      have hTr : Duo wr (w.heap.size + 1) (.bool false) (.slice none 0 0) := hres
      obtain ⟨r0, r1, r2, r3⟩ := hTr.cells
      have HTR := Hid.mk hTr
      clear hres hTr
      go_wp2_with fail
      refine bodyPost_ret (v := .agg #[.bool nb, .slice bo m ecap]) ?_ rfl ?_
      · (simp [results, Tryd.results22, go_sem, r0, r1]; done)
      · have hkk : k = n + 1 := by have := HR.out; omega
        refine ⟨_, rfl, ?_, (HB.out.setCell (by simp) _).setCell (by simp) _⟩
        have h1 : S = detF R f := by rw [HSUM.out.2, hkk, HR.out, detF]
        rw [← h1]
        refine (HI.out.mono ?_).keep (KU.setCell (KU.setCell (KU.refl _) HTR.out.ty (by decide) _) (HTR.out.ty.setCell _ _) (by decide) _)
        rw [HR.out, LD, hkk]
        exact Nat.le_refl _
theorem det_any (n : Nat) : DetSaid n := by
  induction n with
  | zero => exact det_zero
  | succ n ih => exact det_succ n ih
end Go.Proofs.YtjhcbenldfplcaaDoor
