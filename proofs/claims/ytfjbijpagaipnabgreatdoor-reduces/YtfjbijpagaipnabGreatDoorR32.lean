import Derived.Test.YtfjbijpagaipnabGreatDoorR30
import Derived.Test.YtfjbijpagaipnabGreatDoorR31
import Derived.Deep.RegionHeld3
import Derived.Deep.CutRange
import Derived.Test.YtfjbijpagaipnabGreatDoorR28
import Derived.Test.YtfjbijpagaipnabGreatDoorR09
import Derived.Test.YtfjbijpagaipnabGreatDoorR26
namespace Go.Proofs.YtfjbijpagaipnabGreatDoor.R
open Go.RowKit
def gR (f : Nat → Nat → Int) (rs : List Nat) (css : List (List Nat)) (a : Nat) : Nat := css.foldl (fun a cs => Nat.gcd a (minorF f rs cs).natAbs) a
def gA (f : Nat → Nat → Int) (rss css : List (List Nat)) (a : Nat) : Nat := rss.foldl (fun a rs => gR f rs css a) a
theorem gR_next (f : Nat → Nat → Int) (rs : List Nat) (css : List (List Nat)) (a t : Nat) (ht : t < css.length) : gR f rs (css.take (t + 1)) a = Nat.gcd (gR f rs (css.take t) a) (minorF f rs (css.getD t [])).natAbs := by
 unfold gR
 rw [List.take_add_one, List.foldl_append, List.getD, List.getElem?_eq_getElem ht]
 rfl
theorem gA_next (f : Nat → Nat → Int) (rss css : List (List Nat)) (a t : Nat) (ht : t < rss.length) : gA f (rss.take (t + 1)) css a = gR f (rss.getD t []) css (gA f (rss.take t) css a) := by
 unfold gA
 rw [List.take_add_one, List.foldl_append, List.getD, List.getElem?_eq_getElem ht]
 rfl
def divF (f : Nat → Nat → Int) (r c k : Nat) : Nat := gA f (chosenL k r) (chosenL k c) 0
theorem LM_ge (L n : Nat) : 3 ≤ LM L n := by
 induction n with
 | zero => exact Nat.le_refl _
 | succ n ih => rw [LM]; omega
theorem LR.grown {w w' : World} {v : Value} {xss : List (List Nat)} {gb : Nat} (h : LR w v xss) (hg : w.grownBy w' (some gb)) (ht : Ty w gb 171) : LR w' v xss := by
 obtain ⟨vs, h1, h2, h3⟩ := h
 have hki : KI w w' := KI.of_grown hg (fun k hk => by injection hk with hk; subst hk; exact ht) (by decide)
 refine ⟨vs, h1.of_block (fun g hgo => hg.block g (h1.own g hgo).1 (fun e => ?_)), h2, fun i hi => (h3 i hi).keep hki⟩
 injection e with e
 subst e
 obtain ⟨c, fr, q⟩ := ht
 obtain ⟨c', fr', q'⟩ := (h1.own g hgo).2
 rw [q] at q'
 simp at q'
def MinorOut (W : World) (z : Int) (L : Nat) (p : Value) (wx : World) : Prop := ∃ (pb : Nat) (nb : Bool) (so : Option Addr) (n cp : Nat), p = .pointer (some ⟨pb, 0, none⟩) ∧ NBox wx pb (.bool nb) (.slice so n cp) ∧ IsN wx (.agg #[.bool nb, .slice so n cp]) z L ∧ Below W.heap.size W wx
set_option maxRecDepth 100000 in
set_option maxHeartbeats 4000000 in
theorem divisor_any (b r c k : Nat) (gs : Nat → Nat) (f : Nat → Nat → Int) (B L : Nat) (w : World) (h : IsR B w b r c gs f L) (hr : r ≤ 12) (hc : c ≤ 8) (hk : k ≤ 8) (hL : L ≤ 1000000000) (hLM : LM L k ≤ 10000000000) :
 Calls Tryz.prog 162 #[.pointer (some ⟨b, 0, none⟩), .int .i64 k] w fun e w' => ∃ v, e = .returned v ∧ NOut w w' v ((divF f r c k : Nat) : Int) (LM L k) := by
 have H := Hid.mk (And.intro h hLM)
 obtain ⟨hbl, ao, cap, c0, c1, -⟩ := h.open_
 clear h hLM
 go_enter Tryz.func162, Tryz.ntmps162
 go_wp2_with fail
 refine (of_any 0 _ (by omega)).mono ?_
 rintro e w1 ⟨v1, rfl, hv1, hb1⟩
 obtain ⟨nb, so, cp, zs, rfl, -⟩ := hv1.parts
 obtain ⟨zl, hzl⟩ : ∃ zl, zl = zs.length := ⟨_, rfl⟩
 rw [← hzl] at hv1 ⊢
 clear hzl
 have hR := (NBox.new w (.bool false) (.slice none 0 0) rfl).below hb1 (by simp)
 have hb0 : Below w.heap.size w w1 := ((Below.refl _ _).alloc (Nat.le_refl _) _).trans (hb1.mono (by simp))
 have hw1 : w.heap.size < w1.heap.size := hR.lt
 have hb11 := (Below.refl w1.heap.size w1).alloc (Nat.le_refl _) (.cells #[.bool nb, .slice so zl cp] 171)
 have hbw := hb0.trans (hb11.mono hb0.size)
 have e0 := cell_later hbw c0
 have e1 := cell_later hbw c1
 have K1 := Hid.mk (And.intro (hR.below hb11 hw1) (And.intro (hv1.below hb11) (And.intro hbw (NBox.new w1 (.bool nb) (.slice so zl cp) rfl))))
 clear hv1 hb1 hR hb0 hb11 hbw c0 c1
 go_wp2_with fail
 refine (chosen_any k hk r _ hr).mono ?_
 rintro e w2 ⟨v2, rfl, hv2, hf2, hb2⟩
 have hs2 : w1.heap.size + 1 ≤ w2.heap.size := by have := hb2.size; simpa using this
 have d1 := cell_later hb2 e1
 obtain ⟨ra, rcap, hre, -⟩ := id hv2.shape
 obtain ⟨RS, hRS⟩ : ∃ RS, RS = chosenL k r := ⟨_, rfl⟩
 rw [← hRS] at hv2 hre
 obtain ⟨rl, hrl⟩ : ∃ rl, rl = RS.length := ⟨_, rfl⟩
 rw [← hrl] at hre
 subst hre
 have K2 := Hid.mk (And.intro hv2 (And.intro hb2 (And.intro hRS hrl)))
 clear hv2 hf2 hb2 e0 e1 hRS hrl
 go_wp2_with fail
 refine (chosen_any k hk c _ (by omega)).mono ?_
 rintro e w3 ⟨v3, rfl, hv3, hf3, hb3⟩
 have hs3 := hb3.size
 obtain ⟨ca, ccap, hce, -⟩ := id hv3.shape
 obtain ⟨CS, hCS⟩ : ∃ CS, CS = chosenL k c := ⟨_, rfl⟩
 rw [← hCS] at hv3 hce
 obtain ⟨cl, hcl⟩ : ∃ cl, cl = CS.length := ⟨_, rfl⟩
 rw [← hcl] at hce
 subst hce
 have hb13 := K2.out.2.1.trans (hb3.mono K2.out.2.1.size)
 have hR3 := K1.out.1.below hb13 K1.out.1.lt
 have hG3 := K1.out.2.2.2.below hb13 K1.out.2.2.2.lt
 have K3 := Hid.mk (And.intro (K2.out.1.below hb3) (And.intro hv3 (And.intro (K1.out.2.2.1.trans (hb13.mono K1.out.2.2.1.size)) (And.intro hR3 (And.intro hG3 (And.intro (K1.out.2.1.below hb13) (And.intro hCS hcl)))))))
 clear hv3 hf3 hb3 hb13 hR3 hG3 d1 hCS hcl
 go_wp2_with fail
 obtain ⟨gb, hgb⟩ : ∃ gb, gb = w1.heap.size := ⟨_, rfl⟩
 rw [← hgb] at K3 ⊢
 have hgb1 : w.heap.size + 1 ≤ gb := by omega
 have hgb3 : gb < w3.heap.size := by omega
 have hrl256 : rl ≤ 4096 := by rw [K2.out.2.2.2, K2.out.2.2.1]; exact Nat.le_trans (chosenL_len k r) (Nat.le_trans (Nat.pow_le_pow_right (by decide) hr) (by decide))
 have hcl256 : cl ≤ 256 := by rw [K3.out.2.2.2.2.2.2.2, K3.out.2.2.2.2.2.2.1]; exact Nat.le_trans (chosenL_len k c) (Nat.le_trans (Nat.pow_le_pow_right (by decide) hc) (by decide))
 clear hgb hs2 hw1
 go_loopw [8] (fun i wr => ∃ (x : Nat) (nb : Bool) (so : Option Addr) (zl cp : Nat), x ≤ rl ∧ i = .int .i64 x ∧ NBox wr gb (.bool nb) (.slice so zl cp) ∧ IsN wr (.agg #[.bool nb, .slice so zl cp]) ((gA f (RS.take x) CS 0 : Nat) : Int) (LM L k) ∧ w3.grownBy wr (some gb) ∧ Below w.heap.size w wr) (fun i _ => rl - (intOf i).toNat)
 case atStart => exact ⟨0, nb, so, zl, cp, Nat.zero_le _, rfl, K3.out.2.2.2.2.1, K3.out.2.2.2.2.2.1.mono (LM_ge L k), World.grownBy.refl _ _, K3.out.2.2.1⟩
 case round =>
  rename World => wi
  obtain ⟨x, nb, so, zl, cp, hx, rfl, hG, hN, hgr, hbel⟩ := hrel
  have KI' := Hid.mk (And.intro hG (And.intro hN (And.intro hgr hbel)))
  clear hG hN hgr hbel
  by_cases hxr : x < rl
  ·have hxi : (x : Int) < (rl : Int) := by omega
   go_wp2_with fail
   go_loopw [9] (fun j wr => ∃ (y : Nat) (nb : Bool) (so : Option Addr) (zl cp : Nat), y ≤ cl ∧ j = .int .i64 y ∧ NBox wr gb (.bool nb) (.slice so zl cp) ∧ IsN wr (.agg #[.bool nb, .slice so zl cp]) ((gR f (RS.getD x []) (CS.take y) (gA f (RS.take x) CS 0) : Nat) : Int) (LM L k) ∧ w3.grownBy wr (some gb) ∧ Below w.heap.size w wr) (fun j _ => cl - (intOf j).toNat)
   case atStart => exact ⟨0, nb, so, zl, cp, Nat.zero_le _, rfl, KI'.out.1, KI'.out.2.1, KI'.out.2.2.1, KI'.out.2.2.2⟩
   case round =>
    rename World => wj
    obtain ⟨y, nb, so, zl, cp, hy, rfl, hG, hN, hgr, hbel⟩ := hrel
    have hwj := hbel.size
    have KJ := Hid.mk (And.intro hG (And.intro hN (And.intro hgr hbel)))
    clear hG hN hgr hbel
    by_cases hyc : y < cl
    ·have hyi : (y : Int) < (cl : Int) := by omega
     have hLR1 := K3.out.1.grown KJ.out.2.2.1 K3.out.2.2.2.2.1.ty
     have hLR2 := K3.out.2.1.grown KJ.out.2.2.1 K3.out.2.2.2.2.1.ty
     obtain ⟨ra', rc', e1, r1, r2, r3⟩ := hLR1.shape
     obtain ⟨ca', cc', e2, q1, q2, q3⟩ := hLR2.shape
     simp only [Value.slice.injEq] at e1 e2
     obtain ⟨rfl, -, rfl⟩ := e1
     obtain ⟨rfl, -, rfl⟩ := e2
     obtain ⟨rg, ru, hra, -, rc, ro⟩ := r3 x (by have := K2.out.2.2.2; omega)
     obtain ⟨cg, cu, hca, -, cc, co⟩ := q3 y (by have := K3.out.2.2.2.2.2.2.2; omega)
     subst hra; subst hca
     obtain ⟨rua, rucap, rue, -⟩ := ro.open_
     obtain ⟨cua, cucap, cue, -⟩ := co.open_
     obtain ⟨rx, hrx⟩ : ∃ rx, rx = RS.getD x [] := ⟨_, rfl⟩
     obtain ⟨cy, hcy⟩ : ∃ cy, cy = CS.getD y [] := ⟨_, rfl⟩
     rw [← hrx] at ro rue
     rw [← hcy] at co cue
     have hrm : rx.length = k ∧ ∀ z ∈ rx, z < r := by
      refine chosenL_mem k r rx ?_
      rw [hrx, ← K2.out.2.2.1, List.getD, List.getElem?_eq_getElem (show x < RS.length by have := K2.out.2.2.2; omega)]
      exact List.getElem_mem _
     have hcm : cy.length = k ∧ ∀ z ∈ cy, z < c := by
      refine chosenL_mem k c cy ?_
      rw [hcy, ← K3.out.2.2.2.2.2.2.1, List.getD, List.getElem?_eq_getElem (show y < CS.length by have := K3.out.2.2.2.2.2.2.2; omega)]
      exact List.getElem_mem _
     obtain ⟨rn, hrn⟩ : ∃ rn, rn = rx.length := ⟨_, rfl⟩
     obtain ⟨cn, hcn⟩ : ∃ cn, cn = cy.length := ⟨_, rfl⟩
     rw [← hrn] at rue
     rw [← hcn] at cue
     subst rue; subst cue
     have HE := Hid.mk (And.intro (And.intro ro (And.intro hrm hrx)) (And.intro (And.intro co (And.intro hcm hcy)) (And.intro hrn hcn)))
     have HS := Hid.mk (show ∀ w', Below wj.heap.size wj w' → w'.cell? ⟨rg, x, none⟩ = some (.slice rua rn rucap) ∧ w'.cell? ⟨cg, y, none⟩ = some (.slice cua cn cucap) from fun w' hb => ⟨cell_later hb rc, cell_later hb cc⟩)
     clear hLR1 hLR2 r3 q3 ro co hrm hcm hrx hcy hrn hcn
     have hir : IR wj (.slice rua rn rucap) rx ∧ IR wj (.slice cua cn cucap) cy := by
      have h1 := IR.of_own HE.out.1.1
      have h2 := IR.of_own HE.out.2.1.1
      exact ⟨h1, h2⟩
     have HIR := Hid.mk hir
     clear hir
     go_upto_region 10 with fail
     go_cut [10] from 36 to 46 (fun p wx => MinorOut wj (minorF f rx cy) (LM L k) p wx)
     case first =>
      go_region_held3 (fun w' => w'.cell? ⟨rg, x, none⟩ = some (.slice rua rn rucap) ∧ w'.cell? ⟨cg, y, none⟩ = some (.slice cua cn cucap))
       (exact HS.out _ (by first | exact hb9 | exact (Below.refl _ _).drew | exact ((Below.refl _ _).alloc (Nat.le_refl _) _).drew | exact hb9.alloc hb9.size _ | exact (hb9.setCell (Nat.le_refl _) _).setCell (Nat.le_refl _) _))
       (first
         | (go_at_call 205; refine (minor_any k b r c gs f B L _ _ rx cy _ ((H.out.1.keep (KR.of_below KJ.out.2.2.2)).keep (KR.of_below ((Below.refl _ _).drew))) (HIR.out.1.below ((Below.refl _ _).drew)) (HIR.out.2.below ((Below.refl _ _).drew)) HE.out.1.2.1.1 HE.out.2.1.2.1.1 HE.out.1.2.1.2 HE.out.2.1.2.1.2 hL H.out.2 (by omega)).mono ?_; rintro e w5 ⟨p9, rfl, hp9, hb8⟩; obtain ⟨nb9, so9, cp9, xs9, rfl, -⟩ := hp9.parts; have hb9 : Below wj.heap.size wj w5 := (Below.refl _ _).drew.trans hb8; clear hb8)
         | (go_at_call 205; refine (minor_any k b r c gs f B L _ _ rx cy _ ((H.out.1.keep (KR.of_below KJ.out.2.2.2)).keep (KR.of_below (((Below.refl _ _).alloc (Nat.le_refl _) _).drew))) (HIR.out.1.below (((Below.refl _ _).alloc (Nat.le_refl _) _).drew)) (HIR.out.2.below (((Below.refl _ _).alloc (Nat.le_refl _) _).drew)) HE.out.1.2.1.1 HE.out.2.1.2.1.1 HE.out.1.2.1.2 HE.out.2.1.2.1.2 hL H.out.2 (by omega)).mono ?_; rintro e w5 ⟨p9, rfl, hp9, hb8⟩; obtain ⟨nb9, so9, cp9, xs9, rfl, -⟩ := hp9.parts; have hb9 : Below wj.heap.size wj w5 := ((Below.refl _ _).alloc (Nat.le_refl _) _).drew.trans (hb8.mono (by simp)); have hx9 : NBox w5 wj.heap.size (.bool false) (.slice none 0 0) := (NBox.new wj (.bool false) (.slice none 0 0) rfl).drew2.below hb8 (by simp); have hx8 := hx9.cells; clear hb8))
      all_goals
       go_wp2_with fail
       go_meet
       case rel =>
        first
         | exact ⟨_, _, _, _, _, rfl, NBox.new _ _ _ rfl, hp9.below ((Below.refl _ _).alloc (Nat.le_refl _) _), hb9.alloc hb9.size _⟩
         | exact ⟨_, _, _, _, _, rfl, hx9.put _ _, hp9.box hx9.ty (by decide) _ _, (hb9.setCell (Nat.le_refl _) _).setCell (Nat.le_refl _) _⟩
     case rest =>
      obtain ⟨pb, nb5, so5, n5, cp5, rfl, hPB, hp, hbp⟩ := hcut
      have hG5 := KJ.out.1.below hbp KJ.out.1.lt
      obtain ⟨p0, p1, -, -⟩ := hPB.cells
      obtain ⟨g0, g1, g2, g3⟩ := hG5.cells
      have hwc := hbp.size
      have K5 := Hid.mk (And.intro hG5 (And.intro hp (And.intro (KJ.out.2.1.below hbp) hbp)))
      clear hPB hp hbp hG5
      go_wp2_with fail
      refine (common_any _ _ _ (minorF f rx cy) (LM L k) _ K5.out.2.2.1 K5.out.2.1 H.out.2).mono ?_
      rintro e w6 ⟨v6, rfl, hv6, hb6⟩
      obtain ⟨nb6, so6, cp6, zs6, rfl, -⟩ := hv6.parts
      obtain ⟨l6, hl6⟩ : ∃ l6, l6 = zs6.length := ⟨_, rfl⟩
      rw [← hl6] at hv6 ⊢
      clear hl6 p0 p1 g0 g1 g2 g3
      have hbj6 : Below wj.heap.size wj w6 := K5.out.2.2.2.trans (hb6.mono hwc)
      have hG6 := KJ.out.1.below hbj6 KJ.out.1.lt
      obtain ⟨g0, g1, g2, g3⟩ := hG6.cells
      have K6 := Hid.mk (And.intro hG6 (And.intro hv6 hbj6))
      clear hG6 hv6 hb6 hbj6
      go_wp2_with fail
      go_roundw
      case measure => simp [intOf]; omega
      case rel =>
       refine ⟨y + 1, nb6, so6, l6, cp6, by omega, by go_num, K6.out.1.put _ _, ?_, grown_put2 (grown_below KJ.out.2.2.1 K6.out.2.2), ((KJ.out.2.2.2.trans (K6.out.2.2.mono hwj)).setCell (by simp; omega) _).setCell (by simp; omega) _⟩
       have h1 := K6.out.2.1.box K6.out.1.ty (by decide) (.bool nb6) (.slice so6 l6 cp6)
       rw [gR_next f _ CS _ y (by have := K3.out.2.2.2.2.2.2.2; omega), ← HE.out.1.2.2, ← HE.out.2.1.2.2]
       rw [← HE.out.1.2.2, Int.natAbs_natCast] at h1
       exact h1
    ·have hye : y = cl := by omega
     have HYE := Hid.mk hye
     clear hye
     go_wp2_with fail
     go_roundw
     case measure => simp [intOf]; omega
     case rel =>
      refine ⟨x + 1, nb, so, zl, cp, by omega, by go_num, KJ.out.1, ?_, KJ.out.2.2.1, KJ.out.2.2.2⟩
      have := KJ.out.2.1
      rw [List.take_of_length_le (by have := K3.out.2.2.2.2.2.2.2; have := HYE.out; omega)] at this
      rw [gA_next f RS CS 0 x (by have := K2.out.2.2.2; omega)]
      exact this
  ·have hxe : x = rl := by omega
   have HXE := Hid.mk hxe
   clear hxe
   have hRb : wi.heap[w.heap.size]? = w3.heap[w.heap.size]? := KI'.out.2.2.1.block _ (by omega) (by simp; omega)
   have hRD : NBox wi w.heap.size (.bool false) (.slice none 0 0) := by unfold NBox; rw [hRb]; exact K3.out.2.2.2.1
   obtain ⟨s0, s1, s2, s3⟩ := hRD.cells
   obtain ⟨g0, g1, -, -⟩ := KI'.out.1.cells
   have HR := Hid.mk hRD
   clear hRb hRD
   go_wp2_with fail
   obtain ⟨t1, t2, -, -⟩ := (HR.out.put (.bool nb) (.slice so zl cp)).cells
   refine bodyPost_ret (v := .agg #[.bool nb, .slice so zl cp]) ?_ rfl ?_
   ·(simp [results, Tryz.results162, go_sem, t1, t2]; done)
   ·refine ⟨_, rfl, ?_, (KI'.out.2.2.2.setCell (Nat.le_refl _) _).setCell (Nat.le_refl _) _⟩
    have h1 := KI'.out.2.1.box HR.out.ty (by decide) (.bool nb) (.slice so zl cp)
    rw [List.take_of_length_le (by have := K2.out.2.2.2; have := HXE.out; omega)] at h1
    unfold divF
    rw [← K2.out.2.2.1, ← K3.out.2.2.2.2.2.2.1]
    exact h1
open Go.RowKit
def RankIs (f : Nat → Nat → Int) (r c k : Nat) : Prop := k ≤ r ∧ k ≤ c ∧ (∀ i, i < k → divF f r c (i + 1) ≠ 0) ∧ (k = r ∨ k = c ∨ divF f r c (k + 1) = 0)
set_option maxRecDepth 100000 in
set_option maxHeartbeats 2000000 in
theorem rank_any (b r c : Nat) (gs : Nat → Nat) (f : Nat → Nat → Int) (B L : Nat) (w : World) (h : IsR B w b r c gs f L) (hr : r ≤ 12) (hc : c ≤ 7) (hL : L ≤ 1000000000) :
 Calls Tryz.prog 160 #[.pointer (some ⟨b, 0, none⟩)] w fun e w' => ∃ k : Nat, e = .returned (.int .i64 k) ∧ RankIs f r c k ∧ Below w.heap.size w w' := by
 have H := Hid.mk h
 have hLM : ∀ k, k ≤ 8 → LM L k ≤ 10000000000 := by
  intro k hk
  have h1 : ∀ n, LM L n ≤ 3 + n * (L + n + 5) := by
   intro n
   induction n with
   | zero => simp [LM]
   | succ n ih =>
     rw [LM, Nat.succ_mul]
     have : n * (L + n + 5) ≤ n * (L + (n + 1) + 5) := Nat.mul_le_mul_left _ (by omega)
     omega
  have h2 := h1 k
  have h3 : k * (L + k + 5) ≤ 8 * (1000000000 + 8 + 5) := Nat.mul_le_mul hk (by omega)
  omega
 have HL := Hid.mk hLM
 obtain ⟨hbl, ao, cap, c0, c1, -⟩ := h.open_
 clear h hLM
 go_enter Tryz.func160, Tryz.ntmps160
 go_wp2_with fail
 go_loopw [3] (fun k wr => ∃ t : Nat, t ≤ r ∧ t ≤ c ∧ k = .int .i64 t ∧ Below w.heap.size w wr ∧ Hid (∀ i, i < t → divF f r c (i + 1) ≠ 0)) (fun k _ => r - (intOf k).toNat)
 case atStart => exact ⟨0, Nat.zero_le _, Nat.zero_le _, rfl, Below.refl _ _, Hid.mk (fun i hi => by omega)⟩
 case round =>
  obtain ⟨t, htr, htc, rfl, hbel, HT⟩ := hrel
  have e0 := cell_later hbel c0
  have e1 := cell_later hbel c1
  have hwr := hbel.size
  have K := Hid.mk hbel
  clear hbel
  by_cases h1 : t < r
  ·have h1i : (t : Int) < (r : Int) := by omega
   by_cases h2 : t < c
   ·have h2i : (t : Int) < (c : Int) := by omega
    go_wp2_with fail
    refine (divisor_any b r c (t + 1) gs f B L _ (H.out.keep (KR.of_below K.out)) (by omega) (by omega) (by omega) hL (HL.out _ (by omega))).mono ?_
    rintro e w2 ⟨v2, rfl, hv2, hb2⟩
    obtain ⟨nb, so, cp, zs, rfl, -⟩ := hv2.parts
    obtain ⟨zl, hzl⟩ : ∃ zl, zl = zs.length := ⟨_, rfl⟩
    rw [← hzl] at hv2 ⊢
    clear hzl
    have hb22 := (Below.refl w2.heap.size w2).alloc (Nat.le_refl _) (.cells #[.bool nb, .slice so zl cp] 171)
    have hbA : Below wr.heap.size wr (w2.alloc (.cells #[.bool nb, .slice so zl cp] 171)) := hb2.trans (hb22.mono hb2.size)
    obtain ⟨D, hD⟩ : ∃ D, D = divF f r c (t + 1) := ⟨_, rfl⟩
    rw [← hD] at hv2
    have K2 := Hid.mk (And.intro (hv2.below hb22) (And.intro hbA hD))
    clear hv2 hb2 hb22 hbA hD
    go_wp2_with fail
    refine (sign_any _ (D : Int) (LM L (t + 1)) _ K2.out.1).mono ?_
    rintro e w3 ⟨rfl, hb3⟩
    have hb03 : Below w.heap.size w w3 := K.out.trans ((K2.out.2.1.trans (hb3.mono K2.out.2.1.size)).mono hwr)
    obtain ⟨sg, hsg⟩ : ∃ sg, sg = sgn (D : Int) := ⟨_, rfl⟩
    rw [← hsg]
    have K3 := Hid.mk (And.intro hb03 hsg)
    clear hb3 hb03 hsg
    by_cases hs : sg = 0
    ·subst hs
     have hD0 : D = 0 := by
      have := K3.out.2
      unfold sgn at this
      split at this
      ·omega
      ·split at this <;> omega
     have HD := Hid.mk hD0
     clear hD0
     go_wp2_with fail
     go_ret
     exact ⟨t, rfl, ⟨htr, htc, HT.out, .inr (.inr (by rw [← K2.out.2.2]; exact HD.out))⟩, K3.out.1⟩
    ·have hs1 : (sg == 0) = false := beq_eq_false_iff_ne.2 hs
     have hD0 : D ≠ 0 := by
      intro e
      have h9 := K3.out.2
      rw [e] at h9
      exact hs (by rw [h9]; rfl)
     have HD := Hid.mk hD0
     clear hD0
     go_wp2_with fail
     go_roundw
     case measure => simp [intOf]; omega
     case rel =>
      refine ⟨t + 1, by omega, by omega, by go_num, K3.out.1, Hid.mk (fun i hi => ?_)⟩
      by_cases hit : i = t
      ·rw [hit, ← K2.out.2.2]; exact HD.out
      ·exact HT.out i (by omega)
   ·have h2i : ¬ (t : Int) < (c : Int) := by omega
    go_wp2_with fail
    go_ret
    exact ⟨t, rfl, ⟨htr, htc, HT.out, .inr (.inl (by omega))⟩, K.out⟩
  ·have h1i : ¬ (t : Int) < (r : Int) := by omega
   go_wp2_with fail
   go_ret
   exact ⟨t, rfl, ⟨htr, htc, HT.out, .inl (by omega)⟩, K.out⟩
def mv : List (Nat → Int) → List Nat → Int
 | [], _ => 1
 | v :: vs, cols => sumF cols.length fun k => signed k (v (cols.getD k 0) * mv vs (cols.eraseIdx k))
theorem mv_minor (f : Nat → Nat → Int) : ∀ (R C : List Nat), minorF f R C = mv (R.map f) C := by
 intro R
 induction R with
 | nil => intro C; rfl
 | cons r rs ih => intro C; rw [minorF, List.map_cons, mv]; exact sumF_congr (fun k _ => by rw [ih])
theorem sumF_lin (n : Nat) (a b : Int) (g h : Nat → Int) : sumF n (fun k => a * g k + b * h k) = a * sumF n g + b * sumF n h := by
 induction n with
 | zero => simp [sumF]
 | succ n ih => rw [sumF, sumF, sumF, ih]; grind
theorem signed_lin (k : Nat) (a b x y : Int) : signed k (a * x + b * y) = a * signed k x + b * signed k y := by
 unfold signed; split <;> grind
theorem mv_lin (a b : Int) (u v : Nat → Int) (ys : List (Nat → Int)) : ∀ (xs : List (Nat → Int)) (C : List Nat), mv (xs ++ (fun j => a * u j + b * v j) :: ys) C = a * mv (xs ++ u :: ys) C + b * mv (xs ++ v :: ys) C := by
 intro xs
 induction xs with
 | nil =>
   intro C
   rw [List.nil_append, List.nil_append, List.nil_append, mv, mv, mv, ← sumF_lin]
   refine sumF_congr (fun k _ => ?_)
   rw [← signed_lin]
   congr 1
   grind
 | cons x xs ih =>
   intro C
   rw [List.cons_append, List.cons_append, List.cons_append, mv, mv, mv, ← sumF_lin]
   refine sumF_congr (fun k _ => ?_)
   rw [ih, ← signed_lin]
   congr 1
   grind
theorem mv_congr : ∀ (us vs : List (Nat → Int)) (C : List Nat), us.length = vs.length → (∀ i, i < us.length → ∀ x ∈ C, (us.getD i (fun _ => 0)) x = (vs.getD i (fun _ => 0)) x) → mv us C = mv vs C := by
 intro us
 induction us with
 | nil => intro vs C hl _; have : vs = [] := List.eq_nil_of_length_eq_zero hl.symm; subst this; rfl
 | cons u us ih =>
   intro vs C hl h
   match vs, hl with
   | v :: vs, hl =>
     rw [mv, mv]
     refine sumF_congr (fun k hk => ?_)
     have h0 := h 0 (by simp) (C.getD k 0) (by rw [List.getD, List.getElem?_eq_getElem hk]; exact List.getElem_mem _)
     have h1 : u (C.getD k 0) = v (C.getD k 0) := by simpa using h0
     rw [h1, ih vs (C.eraseIdx k) (by simpa using hl) (fun i hi x hx => by
      have := h (i + 1) (by simpa using hi) x (List.mem_of_mem_eraseIdx hx)
      simpa using this)]
theorem mv_swap0 (u v : Nat → Int) : ∀ (ys : List (Nat → Int)) (C : List Nat), ys.length ≤ 2 → C.length = ys.length + 2 → mv (u :: v :: ys) C = -mv (v :: u :: ys) C := by
 intro ys C hl hC
 match ys, hl with
 | [], _ =>
   match C, hC with
   | [a, b], _ => simp [mv, sumF, signed]; grind
 | [y], _ =>
   match C, hC with
   | [a, b, c], _ => simp [mv, sumF, signed]; grind
 | [y, z], _ =>
   match C, hC with
   | [a, b, c, d], _ => simp [mv, sumF, signed]; grind
theorem sumF_neg (n : Nat) (g : Nat → Int) : sumF n (fun k => -g k) = -sumF n g := by
 induction n with
 | zero => rfl
 | succ n ih => rw [sumF, sumF, ih]; grind
theorem mv_swap (u v : Nat → Int) (ys : List (Nat → Int)) : ∀ (xs : List (Nat → Int)) (C : List Nat), C.length = xs.length + ys.length + 2 → ys.length ≤ 2 → mv (xs ++ u :: v :: ys) C = -mv (xs ++ v :: u :: ys) C := by
 intro xs
 induction xs with
 | nil => intro C hC hl; exact mv_swap0 u v ys C hl (by simpa using hC)
 | cons x xs ih =>
   intro C hC hl
   rw [List.cons_append, List.cons_append, mv, mv, ← sumF_neg]
   refine sumF_congr (fun k hk => ?_)
   rw [ih (C.eraseIdx k) (by rw [List.length_eraseIdx, if_pos hk]; simp at hC; omega) hl]
   unfold signed; split <;> grind
theorem mv_move (d : Int) (u : Nat → Int) (zs : List (Nat → Int)) : ∀ (ys xs : List (Nat → Int)) (C : List Nat), C.length = xs.length + ys.length + zs.length + 1 → C.length ≤ 4 → (d ∣ mv (xs ++ u :: ys ++ zs) C ↔ d ∣ mv (xs ++ ys ++ u :: zs) C) := by
 intro ys
 induction ys with
 | nil => intro xs C _ _; simp
 | cons y ys ih =>
   intro xs C hC h4
   have h1 : mv (xs ++ u :: (y :: ys) ++ zs) C = -mv ((xs ++ [y]) ++ u :: ys ++ zs) C := by
    have := mv_swap u y (ys ++ zs) xs C (by simp at hC ⊢; omega) (by simp at hC ⊢; omega)
    simpa using this
   have h2 := ih (xs ++ [y]) C (by simp at hC ⊢; omega) h4
   rw [h1, Int.dvd_neg, h2]
   simp
theorem mv_same (u : Nat → Int) (xs ys zs : List (Nat → Int)) (C : List Nat) (hC : C.length = xs.length + ys.length + zs.length + 2) (h4 : C.length ≤ 4) : mv (xs ++ u :: ys ++ u :: zs) C = 0 := by
 have h1 := mv_move 0 u (u :: zs) ys xs C (by simp; omega) h4
 rw [Int.zero_dvd, Int.zero_dvd] at h1
 rw [h1]
 have h2 := mv_swap u u zs (xs ++ ys) C (by simp; omega) (by omega)
 omega
theorem chosenL_le {k n : Nat} {Q : List Nat} (h : Q ∈ chosenL k n) : k ≤ n := by
 cases k with
 | zero => omega
 | succ k =>
   rw [chosenL, List.mem_flatMap] at h
   obtain ⟨last, hl, -⟩ := h
   obtain ⟨i, hi, he⟩ := List.mem_iff_getElem.1 hl
   rw [List.length_drop, List.length_range] at hi
   omega
theorem mem_drop_range {k n x : Nat} : x ∈ (List.range n).drop k ↔ k ≤ x ∧ x < n := by
 constructor
 ·intro h
  obtain ⟨i, hi, he⟩ := List.mem_iff_getElem.1 h
  rw [List.getElem_drop, List.getElem_range] at he
  rw [List.length_drop, List.length_range] at hi
  omega
 ·rintro ⟨h1, h2⟩
  refine List.mem_iff_getElem.2 ⟨x - k, by rw [List.length_drop, List.length_range]; omega, ?_⟩
  rw [List.getElem_drop, List.getElem_range]
  omega
theorem chosenL_snoc {k n last : Nat} {Q : List Nat} (h : Q ∈ chosenL k last) (hl : last < n) : Q ++ [last] ∈ chosenL (k + 1) n := by
 rw [chosenL, List.mem_flatMap]
 exact ⟨last, mem_drop_range.2 ⟨chosenL_le h, hl⟩, List.mem_map.2 ⟨Q, h, rfl⟩⟩
theorem max_split : ∀ (R : List Nat), R ≠ [] → ∃ xs m ys, R = xs ++ m :: ys ∧ ∀ x ∈ R, x ≤ m := by
 intro R
 induction R with
 | nil => intro h; exact absurd rfl h
 | cons a R ih =>
   intro _
   by_cases hR : R = []
   ·subst hR
    exact ⟨[], a, [], rfl, fun x hx => by simp at hx; omega⟩
   ·obtain ⟨xs, m, ys, rfl, hm⟩ := ih hR
    by_cases ham : a ≤ m
    ·exact ⟨a :: xs, m, ys, rfl, fun x hx => by
      rcases List.mem_cons.1 hx with h | h
      ·omega
      ·exact hm x h⟩
    ·exact ⟨[], a, xs ++ m :: ys, rfl, fun x hx => by
      rcases List.mem_cons.1 hx with h | h
      ·omega
      ·have := hm x h; omega⟩
theorem rise_all (d : Int) (f : Nat → Nat → Int) (C : List Nat) (h4 : C.length ≤ 4) : ∀ (m n : Nat) (S : List Nat), C.length = m + S.length → (∀ R ∈ chosenL m n, d ∣ mv ((R ++ S).map f) C) → ∀ R : List Nat, R.length = m → (∀ x ∈ R, x < n) → d ∣ mv ((R ++ S).map f) C := by
 intro m
 induction m with
 | zero =>
   intro n S hC h R hR _
   have : R = [] := List.eq_nil_of_length_eq_zero hR
   subst this
   exact h [] (by simp [chosenL])
 | succ m ih =>
   intro n S hC h R hR hRn
   obtain ⟨xs, last, ys, rfl, hmax⟩ := max_split R (by intro e; rw [e] at hR; simp at hR)
   have hlen : xs.length + ys.length = m := by simp at hR; omega
   have hln : last < n := hRn last (by simp)
   have hmove := mv_move d (f last) (S.map f) (ys.map f) (xs.map f) C (by simp; omega) h4
   have e1 : (xs ++ last :: ys ++ S).map f = xs.map f ++ f last :: ys.map f ++ S.map f := by simp
   have e2 : (xs ++ ys ++ last :: S).map f = xs.map f ++ ys.map f ++ f last :: S.map f := by simp
   rw [e1, hmove, ← e2]
   by_cases hdup : last ∈ xs ++ ys
   ·obtain ⟨ps, qs, hab⟩ := List.append_of_mem hdup
    rw [hab, show ps ++ last :: qs ++ last :: S = ps ++ last :: (qs ++ last :: S) from by simp]
    have := mv_same (f last) (ps.map f) (qs.map f) (S.map f) C (by
     have h2 : (xs ++ ys).length = ps.length + qs.length + 1 := by rw [hab]; simp; omega
     simp at h2 ⊢
     omega) h4
    have h0 : mv (List.map f (ps ++ last :: (qs ++ last :: S))) C = 0 := by simpa using this
    rw [h0]
    exact Int.dvd_zero d
   ·refine ih last (last :: S) (by simp; omega) (fun Q hQ => ?_) (xs ++ ys) (by simp; omega) (fun x hx => ?_)
    ·have := h (Q ++ [last]) (chosenL_snoc hQ hln)
     simpa using this
    ·have h1 := hmax x (by
      rcases List.mem_append.1 hx with h | h
      ·exact List.mem_append.2 (.inl h)
      ·exact List.mem_append.2 (.inr (List.mem_cons_of_mem _ h)))
     rcases Nat.lt_or_ge x last with h2 | h2
     ·exact h2
     ·have : x = last := by omega
      subst this
      exact absurd hx hdup
def AllD (d : Int) (f : Nat → Nat → Int) (r : Nat) (C : List Nat) : Prop := ∀ R : List Nat, R.length = C.length → (∀ x ∈ R, x < r) → d ∣ mv (R.map f) C
theorem gR_dvd (d : Nat) (f : Nat → Nat → Int) (rs : List Nat) : ∀ (css : List (List Nat)) (a : Nat), d ∣ gR f rs css a ↔ d ∣ a ∧ ∀ cs ∈ css, (d : Int) ∣ minorF f rs cs := by
 intro css
 induction css with
 | nil => intro a; simp [gR]
 | cons c t ih =>
   intro a
   have : gR f rs (c :: t) a = gR f rs t (Nat.gcd a (minorF f rs c).natAbs) := rfl
   rw [this, ih, Nat.dvd_gcd_iff]
   simp only [List.mem_cons, forall_eq_or_imp, Int.ofNat_dvd_left, and_assoc]
theorem gA_dvd (d : Nat) (f : Nat → Nat → Int) (css : List (List Nat)) : ∀ (rss : List (List Nat)) (a : Nat), d ∣ gA f rss css a ↔ d ∣ a ∧ ∀ rs ∈ rss, ∀ cs ∈ css, (d : Int) ∣ minorF f rs cs := by
 intro rss
 induction rss with
 | nil => intro a; simp [gA]
 | cons r t ih =>
   intro a
   have : gA f (r :: t) css a = gA f t css (gR f r css a) := rfl
   rw [this, ih, gR_dvd]
   simp only [List.mem_cons, forall_eq_or_imp, and_assoc]
theorem div_dvd (d : Nat) (f : Nat → Nat → Int) (r c m : Nat) (hm : m ≤ 4) : d ∣ divF f r c m ↔ ∀ C ∈ chosenL m c, AllD d f r C := by
 unfold divF
 rw [gA_dvd]
 constructor
 ·rintro ⟨-, h⟩ C hC R hR hRr
  have hl := (chosenL_mem m c C hC).1
  have := rise_all d f C (by omega) m r [] (by simp [hl]) (fun R' hR' => by
   have := h R' hR' C hC
   rw [mv_minor] at this
   simpa using this) R (by omega) hRr
  simpa using this
 ·intro h
  refine ⟨Nat.dvd_zero d, fun R hR C hC => ?_⟩
  rw [mv_minor]
  have h1 := chosenL_mem m r R hR
  exact h C hC R (by rw [h1.1, (chosenL_mem m c C hC).1]) h1.2
def AllV (f : Nat → Nat → Int) (r c m : Nat) : Prop := ∀ R : List Nat, R.length = m → (∀ x ∈ R, x < r) → ∀ C ∈ chosenL m c, mv (R.map f) C = 0
theorem allV_iff (f : Nat → Nat → Int) (r c m : Nat) : AllV f r c m ↔ ∀ C ∈ chosenL m c, AllD 0 f r C := by
 constructor
 ·intro h C hC R hR hx
  rw [h R (by rw [hR, (chosenL_mem m c C hC).1]) hx C hC]
  exact Int.dvd_refl 0
 ·intro h R hR hx C hC
  exact Int.zero_dvd.1 (h C hC R (by rw [hR, (chosenL_mem m c C hC).1]) hx)
theorem all_div (f : Nat → Nat → Int) (r c m : Nat) (hm : m ≤ 4) : divF f r c m = 0 ↔ AllV f r c m := by
 rw [allV_iff, ← Nat.zero_dvd, div_dvd 0 f r c m hm]
 exact Iff.rfl
theorem mv_at {v v' : Nat → Int} (ys : List (Nat → Int)) : ∀ (xs : List (Nat → Int)) (C : List Nat), (∀ x ∈ C, v x = v' x) → mv (xs ++ v :: ys) C = mv (xs ++ v' :: ys) C := by
 intro xs
 induction xs with
 | nil =>
   intro C hC
   rw [List.nil_append, List.nil_append, mv, mv]
   refine sumF_congr (fun k hk => ?_)
   rw [hC (C.getD k 0) (by rw [List.getD, List.getElem?_eq_getElem hk]; exact List.getElem_mem _)]
 | cons x xs ih =>
   intro C hC
   rw [List.cons_append, List.cons_append, mv, mv]
   refine sumF_congr (fun k _ => ?_)
   rw [ih (C.eraseIdx k) (fun y hy => hC y (List.mem_of_mem_eraseIdx hy))]
theorem mv_sum (u : Nat → Int) (f : Nat → Nat → Int) (xs ys : List (Nat → Int)) (C : List Nat) : ∀ n, mv (xs ++ (fun j => sm (fun k => u k * f k j) n) :: ys) C = sm (fun k => u k * mv (xs ++ f k :: ys) C) n := by
 intro n
 induction n with
 | zero =>
   have := mv_lin 0 0 (fun _ => 0) (fun _ => 0) ys xs C
   rw [Int.zero_mul, Int.zero_mul, Int.add_zero] at this
   rw [sm]
   rw [← this]
   exact mv_at ys xs C (fun x _ => by simp [sm])
 | succ n ih =>
   have h := mv_lin 1 (u n) (fun j => sm (fun k => u k * f k j) n) (f n) ys xs C
   rw [ih] at h
   rw [sm, show sm (fun k => u k * mv (xs ++ f k :: ys) C) n + u n * mv (xs ++ f n :: ys) C = 1 * sm (fun k => u k * mv (xs ++ f k :: ys) C) n + u n * mv (xs ++ f n :: ys) C from by omega, ← h]
   exact mv_at ys xs C (fun x _ => by rw [sm]; omega)
theorem sm_dvd {d : Int} {f : Nat → Int} (n : Nat) (h : ∀ k, k < n → d ∣ f k) : d ∣ sm f n := by
 induction n with
 | zero => exact Int.dvd_zero d
 | succ n ih => rw [sm]; exact Int.dvd_add (ih (fun k hk => h k (by omega))) (h n (by omega))
def CombOf (f : Nat → Nat → Int) (r : Nat) (C : List Nat) (v : Nat → Int) : Prop := ∃ u : Nat → Int, ∀ x ∈ C, v x = sm (fun k => u k * f k x) r
theorem comb_dvd {d : Int} {f : Nat → Nat → Int} {r : Nat} {C : List Nat} (h : AllD d f r C) : ∀ (vs : List (Nat → Int)), (∀ v ∈ vs, CombOf f r C v) → ∀ (xs : List Nat), xs.length + vs.length = C.length → (∀ x ∈ xs, x < r) → d ∣ mv (xs.map f ++ vs) C := by
 intro vs
 induction vs with
 | nil =>
   intro _ xs hl hx
   rw [List.append_nil]
   exact h xs (by simpa using hl) hx
 | cons v vs ih =>
   intro hv xs hl hx
   obtain ⟨u, hu⟩ := hv v (by simp)
   rw [mv_at vs (xs.map f) C hu, mv_sum u f (xs.map f) vs C r]
   refine sm_dvd r (fun k hk => Int.dvd_trans ?_ (Int.dvd_mul_left _ _))
   have := ih (fun v hv' => hv v (by simp [hv'])) (xs ++ [k]) (by simp at hl ⊢; omega) (fun x hx' => by
    rcases List.mem_append.1 hx' with h1 | h1
    ·exact hx x h1
    ·simp at h1; omega)
   simpa using this
theorem allD_comb {d : Int} {f g : Nat → Nat → Int} {r r' : Nat} {C : List Nat} (h : AllD d f r C) (hg : ∀ i, i < r' → CombOf f r C (g i)) : AllD d g r' C := by
 intro R hR hx
 have := comb_dvd h (R.map g) (fun v hv => by
  obtain ⟨i, hi, rfl⟩ := List.mem_map.1 hv
  exact hg i (hx i hi)) [] (by simpa using hR) (fun x hx => by simp at hx)
 simpa using this
theorem chosenL_lt {m c : Nat} {C : List Nat} (h : C ∈ chosenL m c) : C.length = m ∧ ∀ x ∈ C, x < c := by
 have := chosenL_mem m c C h
 exact ⟨this.1, fun x hx => by
  obtain ⟨i, hi, he⟩ := List.mem_iff_getElem.1 hx
  have h2 := this.2
  first
   | exact h2 x hx
   | (rw [← he]; exact h2 i hi)⟩
end Go.Proofs.YtfjbijpagaipnabGreatDoor.R
namespace Go.Proofs.YtfjbijpagaipnabGreatDoor
open Go.RowKit R
theorem FitsP.ent {r c : Nat} {zs : List Int} (h : FitsP r c zs) (i j : Nat) (hi : i < r) (hj : j < c) : (ent c zs i j).natAbs < 2 ^ 48 := h.2.2 _ (idx_lt hi hj)
open Go.RowKit
end Go.Proofs.YtfjbijpagaipnabGreatDoor
