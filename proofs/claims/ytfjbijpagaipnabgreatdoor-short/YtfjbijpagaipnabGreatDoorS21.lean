import Derived.Test.YtfjbijpagaipnabGreatDoorS20
import Derived.Test.YtfjbijpagaipnabGreatDoorS18
import Derived.Test.YtfjbijpagaipnabGreatDoorS11
namespace Go.Proofs.YtfjbijpagaipnabGreatDoor
open Go.RowKit
theorem take_ent (zs : List Int) {k c i j : Nat} (hi : i < k) (hj : j < c) : ent c (zs.take (k * c)) i j = ent c zs i j := by
 unfold ent
 have := idx_lt hi hj
 simp [List.getD, this]
set_option maxRecDepth 100000 in
set_option maxHeartbeats 2000000 in
theorem basis_any (v : Value) (r c k : Nat) (hs us ws : List Int) (L : Nat) (w : World) (hf : IsF w v r c k hs us ws L) (hk : k ≤ r) :
 Calls Tryz.prog 82 #[v] w fun e w' => ∃ x ms, e = .returned x ∧ IsM w' x k c ms L ∧ (∀ i j, i < k → j < c → ent c ms i j = ent c hs i j) ∧ Below w.heap.size w w' := by
 obtain ⟨sH, sU, sW, rfl, mH, mU, mW⟩ := hf
 obtain ⟨oH, cH, rfl⟩ := mH.slice
 obtain ⟨oU, cU, rfl⟩ := mU.slice
 obtain ⟨oW, cW, rfl⟩ := mW.slice
 have hr := mH.1
 have hc := mH.2.1
 have HM := Hid.mk mH
 have HNM := Hid.mk (Nat.mul_le_mul_right c hk)
 clear mH mU mW
 obtain ⟨N, hN⟩ : ∃ N, N = r * c := ⟨_, rfl⟩
 obtain ⟨M, hM⟩ : ∃ M, M = r * r := ⟨_, rfl⟩
 rw [← hN] at HM HNM ⊢
 rw [← hM]
 have HN := Hid.mk hN
 clear hN hM
 go_enter Tryz.func82, Tryz.ntmps82
 go_wp2_with fail
 obtain ⟨W0, hW0⟩ : ∃ W0, W0 = (w.alloc (.cells #[.int .i64 r, .int .i64 c, .slice oH N cH, .int .i64 r, .int .i64 r, .slice oU M cU, .int .i64 r, .int .i64 r, .slice oW M cW, .int .i64 k] 74)).alloc (.cells #[.int .i64 0, .int .i64 0, .slice none 0 0] 66) := ⟨_, rfl⟩
 have hs0 : W0.heap.size = w.heap.size + 2 := by rw [hW0]; simp
 have hb0 : Below w.heap.size w W0 := by rw [hW0]; repeat (first | exact Below.refl _ _ | refine Below.alloc ?_ (by simp <;> omega) _)
 have hR0 : W0.heap[w.heap.size + 1]? = some (.cells #[.int .i64 0, .int .i64 0, .slice none 0 0] 66 (0, 0)) := by
  rw [hW0]
  have := heap_alloc_new (w.alloc (.cells #[.int .i64 r, .int .i64 c, .slice oH N cH, .int .i64 r, .int .i64 r, .slice oU M cU, .int .i64 r, .int .i64 r, .slice oW M cW, .int .i64 k] 74)) (.cells #[.int .i64 0, .int .i64 0, .slice none 0 0] 66)
  simpa using this
 have K0 := Hid.mk (And.intro hb0 hR0)
 rw [← hW0]
 clear hb0 hR0 hW0
 have hGr : Grid W0 (.slice oH N cH) N hs L := by
  obtain ⟨_, _, sl, e, hg⟩ := HM.out
  simp only [Value.agg.injEq, Array.mk.injEq, List.cons.injEq, and_true, true_and] at e
  rw [e, HN.out]
  exact hg.below K0.out.1
 refine (fromCells_part k c N _ hs L _ (by omega) hc HNM.out hGr).mono ?_
 rintro e w1 ⟨g, rfl, hg1, hG1, hb1⟩
 have hw1 : W0.heap.size ≤ w1.heap.size := hb1.size
 have hR : w1.heap[w.heap.size + 1]? = some (.cells #[.int .i64 0, .int .i64 0, .slice none 0 0] 66 (0, 0)) := (hb1.block _ (by omega)).trans K0.out.2
 have r0 : w1.cell? ⟨w.heap.size + 1, 0, none⟩ = some (.int .i64 0) := by simp [World.cell?, hR]
 have r1 : w1.cell? ⟨w.heap.size + 1, 1, none⟩ = some (.int .i64 0) := by simp [World.cell?, hR]
 have r2 : w1.cell? ⟨w.heap.size + 1, 2, none⟩ = some (.slice none 0 0) := by simp [World.cell?, hR]
 have f0 : ∀ o, w1.frozen? ⟨w.heap.size + 1, o, none⟩ = false := fun o => by simp [World.frozen?, hR]
 have HT : Hid (Ty w1 (w.heap.size + 1) 66) := Hid.mk ⟨_, _, hR⟩
 have K1 := Hid.mk (And.intro hG1 (K0.out.1.trans (hb1.mono (by omega))))
 clear hR hG1 hb1 hGr
 go_wp2_with fail
 refine bodyPost_ret (v := .agg #[.int .i64 k, .int .i64 c, .slice (some ⟨g, 0, none⟩) (k * c) (k * c)]) ?_ rfl ?_
 ·(simp [results, Tryz.results82, go_sem, r0, r1, r2]; done)
 ·have h3 := set3 w1 (w.heap.size + 1) HT.out (by decide) (.int .i64 k) (.int .i64 c) (.slice (some ⟨g, 0, none⟩) (k * c) (k * c))
  exact ⟨_, _, rfl, ⟨by omega, hc, _, rfl, K1.out.1.besides h3.2 h3.1 (by omega)⟩, fun i j hi hj => take_ent hs hi hj, K1.out.2.trans (below_of_grown h3.2 (by omega) K1.out.2.size)⟩
theorem Grid.at2 {w : World} {ao : Option Addr} {n cap L : Nat} {zs : List Int} (h : Grid w (.slice ao n cap) n zs L) (k : Nat) (hk : k < n) : ∃ g nb bo m ecap, ao = some ⟨g, 0, none⟩ ∧ w.cell? ⟨g, k * 2, none⟩ = some (.bool nb) ∧ w.cell? ⟨g, k * 2 + 1, none⟩ = some (.slice bo m ecap) ∧ IsI w (.agg #[.bool nb, .slice bo m ecap]) (zs.getD k 0) L := by
 obtain ⟨ao', cap', e, -, -, hao⟩ := h.shape
 obtain ⟨g, hg⟩ := hao k hk
 simp only [Value.slice.injEq] at e
 obtain ⟨rfl, -, rfl⟩ := e
 subst hg
 obtain ⟨nb, bo, m, ecap, c1, c2, hI⟩ := h.cell k hk
 rw [Nat.mul_comm 2] at c1 c2
 exact ⟨g, nb, bo, m, ecap, rfl, c1, c2, hI⟩
set_option maxRecDepth 100000 in
set_option maxHeartbeats 2000000 in
theorem matIs_any (v u : Value) (r c q d : Nat) (zs ys : List Int) (L : Nat) (w : World) (hm : IsM w v r c zs L) (hn : IsM w u q d ys L) :
 Calls Tryz.prog 83 #[v, u] w fun e w' => e = .returned (.bool (decide (r = q ∧ c = d ∧ zs = ys))) ∧ Below w.heap.size w w' := by
 obtain ⟨hr, hc, sl, rfl, hg0⟩ := hm
 obtain ⟨hq, hd, tl, rfl, hg1⟩ := hn
 obtain ⟨ao, cap, rfl, hcap, hcm, -⟩ := hg0.shape
 obtain ⟨bo, dap, rfl, hdap, hdm, -⟩ := hg1.shape
 obtain ⟨D, hD⟩ : ∃ D, D = decide (r = q ∧ c = d ∧ zs = ys) := ⟨_, rfl⟩
 rw [← hD]
 have HD := Hid.mk hD
 have HG := Hid.mk (And.intro hg0 hg1)
 clear hD hg0 hg1
 obtain ⟨N, hN⟩ : ∃ N, N = r * c := ⟨_, rfl⟩
 obtain ⟨M, hM⟩ : ∃ M, M = q * d := ⟨_, rfl⟩
 rw [← hN] at HG hcap ⊢
 rw [← hM] at HG hdap ⊢
 have HN := Hid.mk (And.intro hN hM)
 clear hN hM
 by_cases hrq : r = q
 ·by_cases hcd : c = d
  ·subst hrq
   subst hcd
   have hNM : M = N := by rw [HN.out.1, HN.out.2]
   subst hNM
   go_enter Tryz.func83, Tryz.ntmps83
   go_wp2_with fail
   obtain ⟨W0, hW0⟩ : ∃ W0, W0 = (w.alloc (.cells #[.int .i64 r, .int .i64 c, .slice ao M cap] 66)).alloc (.cells #[.int .i64 r, .int .i64 c, .slice bo M dap] 66) := ⟨_, rfl⟩
   have hs0 : W0.heap.size = w.heap.size + 2 := by rw [hW0]; simp
   have hb0 : Below w.heap.size w W0 := by rw [hW0]; repeat (first | exact Below.refl _ _ | refine Below.alloc ?_ (by simp <;> omega) _)
   have hm0 : Trio W0 w.heap.size (.int .i64 r) (.int .i64 c) (.slice ao M cap) := by
    rw [hW0]
    exact Trio.later (w := w.alloc (.cells #[.int .i64 r, .int .i64 c, .slice ao M cap] 66)) ⟨new_cell _ _ _ _ _ rfl rfl, new_cell _ _ _ _ _ rfl rfl, new_cell _ _ _ _ _ rfl rfl⟩ ((Below.refl _ _).alloc (Nat.le_refl _) _)
   have hn0 : Trio W0 (w.heap.size + 1) (.int .i64 r) (.int .i64 c) (.slice bo M dap) := by
    rw [hW0]
    exact ⟨new_cell _ _ _ _ _ (by simp) rfl, new_cell _ _ _ _ _ (by simp) rfl, new_cell _ _ _ _ _ (by simp) rfl⟩
   have K0 := Hid.mk (And.intro hb0 (And.intro hm0 (And.intro hn0 (And.intro (HG.out.1.below hb0) (HG.out.2.below hb0)))))
   rw [← hW0]
   clear hb0 hm0 hn0 hW0
   go_loopw [5] (fun i wr => ∃ k : Nat, k ≤ M ∧ i = .int .i64 k ∧ Hid (Below W0.heap.size W0 wr ∧ ∀ j, j < k → zs.getD j 0 = ys.getD j 0)) (fun i _ => M - (intOf i).toNat)
   case atStart => exact ⟨0, Nat.zero_le _, rfl, Hid.mk ⟨Below.refl _ _, fun j h => by omega⟩⟩
   case round =>
    obtain ⟨k, hk, rfl, HI⟩ := hrel
    obtain ⟨-, -, q2⟩ := K0.out.2.1.later HI.out.1
    obtain ⟨-, -, p2⟩ := K0.out.2.2.1.later HI.out.1
    have hwr := HI.out.1.size
    by_cases hkM : k < M
    ·have hki : (k : Int) < (M : Int) := by omega
     obtain ⟨g1, nb1, so1, n1, cp1, rfl, c1, c2, hI1⟩ := (K0.out.2.2.2.1.below HI.out.1).at2 k hkM
     obtain ⟨g2, nb2, so2, n2, cp2, rfl, d1, d2, hI2⟩ := (K0.out.2.2.2.2.below HI.out.1).at2 k hkM
     have HC := Hid.mk (And.intro q2 (And.intro p2 (And.intro c1 (And.intro c2 (And.intro d1 d2)))))
     have KI := Hid.mk (And.intro hI1 hI2)
     obtain ⟨E, hE⟩ : ∃ E, E = decide (zs.getD k 0 = ys.getD k 0) := ⟨_, rfl⟩
     have HE := Hid.mk hE
     clear hI1 hI2 c1 c2 d1 d2 hE
     go_wp2_with fail
     go_region_held3 (fun w' => w'.cell? ⟨w.heap.size, 2, none⟩ = some (.slice (some ⟨g1, 0, none⟩) M cap) ∧ w'.cell? ⟨w.heap.size + 1, 2, none⟩ = some (.slice (some ⟨g2, 0, none⟩) M dap) ∧ w'.cell? ⟨g1, k * 2, none⟩ = some (.bool nb1) ∧ w'.cell? ⟨g1, k * 2 + 1, none⟩ = some (.slice so1 n1 cp1) ∧ w'.cell? ⟨g2, k * 2, none⟩ = some (.bool nb2) ∧ w'.cell? ⟨g2, k * 2 + 1, none⟩ = some (.slice so2 n2 cp2))
      (first | exact HC.out | exact ⟨cell_later hbW HC.out.1, cell_later hbW HC.out.2.1, cell_later hbW HC.out.2.2.1, cell_later hbW HC.out.2.2.2.1, cell_later hbW HC.out.2.2.2.2.1, cell_later hbW HC.out.2.2.2.2.2⟩)
      (first | (go_at_call 128; refine (isSame_any _ _ (zs.getD k 0) (ys.getD k 0) L L _ (KI.out.1.below ((Below.refl _ _).drew)) (KI.out.2.below ((Below.refl _ _).drew))).mono ?_; rintro e9 w2 ⟨rfl, hb2⟩; rw [← HE.out]; have hbW : Below wr.heap.size wr w2 := ((Below.refl _ _).drew).trans hb2; clear hb2))
     have K2 := Hid.mk (HI.out.1.trans (hbW.mono (by omega)))
     clear hbW
     cases hEE : E
     case true =>
      have HQ := Hid.mk (of_decide_eq_true (HE.out.symm.trans hEE))
      clear hEE HE
      go_wp2_with fail
      go_roundw
      case measure => simp [intOf]; omega
      case rel =>
       refine ⟨k + 1, by omega, by go_num, Hid.mk ⟨K2.out, fun j hj => ?_⟩⟩
       by_cases e : j = k
       ·rw [e]; exact HQ.out
       ·exact HI.out.2 j (by omega)
     case false =>
      have HQ := Hid.mk (of_decide_eq_false (HE.out.symm.trans hEE))
      clear hEE HE
      go_wp2_with fail
      go_ret
      refine ⟨?_, K0.out.1.trans (K2.out.mono (by omega))⟩
      have : D = false := by
       rw [HD.out]
       exact decide_eq_false fun e => HQ.out (by rw [e.2.2])
      rw [this]; rfl
    ·have hki : ¬ (k : Int) < (M : Int) := by omega
     go_wp2_with fail
     first | go_quiet (fail) | skip
     all_goals
      go_wp2_with fail
      go_ret
      refine ⟨?_, ?_⟩
      ·have : D = true := by
        rw [HD.out]
        refine decide_eq_true ?_
        have hzy : zs = ys := ?_
        ·first | exact ⟨rfl, rfl, hzy⟩ | exact ⟨trivial, trivial, hzy⟩ | exact hzy
        have l1 := K0.out.2.2.2.1.1
        have l2 := K0.out.2.2.2.2.1
        refine List.ext_getElem (by omega) (fun j h1 h2 => ?_)
        have := HI.out.2 j (by omega)
        simpa [List.getD, h1, h2] using this
       rw [this]; rfl
      ·first
        | exact K0.out.1.trans (HI.out.1.mono (by omega))
        | exact below_drewN (K0.out.1.trans (HI.out.1.mono (by omega))) _
  ·have hF : D = false := by rw [HD.out]; exact decide_eq_false fun e => hcd e.2.1
   subst hrq
   rw [hF]
   have hcd2 : ((c : Int) != (d : Int)) = true := by simp; omega
   go_enter Tryz.func83, Tryz.ntmps83
   go_wp2_with fail
   go_ret
   refine ⟨rfl, ?_⟩
   repeat (first | exact Below.refl _ _ | refine Below.drew ?_ | refine Below.alloc ?_ (by simp <;> omega) _)
 ·have hF : D = false := by rw [HD.out]; exact decide_eq_false fun e => hrq e.1
  rw [hF]
  have hcd2 : ((r : Int) != (q : Int)) = true := by simp; omega
  go_enter Tryz.func83, Tryz.ntmps83
  go_wp2_with fail
  go_ret
  refine ⟨rfl, ?_⟩
  repeat (first | exact Below.refl _ _ | refine Below.drew ?_ | refine Below.alloc ?_ (by simp <;> omega) _)
def Sp (H : Nat → Nat → Int) (k c : Nat) (v : Nat → Int) : Prop := ∃ x : Nat → Int, ∀ j, j < c → v j = sm (fun l => x l * H l j) k
theorem Sp.sub {H : Nat → Nat → Int} {k c : Nat} {v w : Nat → Int} (h : Sp H k c v) (h' : Sp H k c w) : Sp H k c (fun j => v j - w j) := by
 obtain ⟨x, hx⟩ := h
 obtain ⟨y, hy⟩ := h'
 refine ⟨fun l => x l - y l, fun j hj => ?_⟩
 show v j - w j = _
 rw [hx j hj, hy j hj, sm_sub]
 exact sm_congr k (fun l _ => by grind)
theorem Sp.row (H : Nat → Nat → Int) {k b : Nat} (c : Nat) (hb : b < k) : Sp H k c (H b) :=
 ⟨fun l => if l = b then 1 else 0, fun j _ => by
   rw [sm_one k b hb (fun l _ hne => by show (if l = b then (1 : Int) else 0) * H l j = 0; rw [if_neg hne]; simp)]
   simp⟩
theorem first_ne (x : Nat → Int) (k : Nat) : (∀ l, l < k → x l = 0) ∨ ∃ b, b < k ∧ x b ≠ 0 ∧ ∀ l, l < b → x l = 0 := by
 induction k with
 | zero => exact .inl (fun l h => by omega)
 | succ k ih =>
   rcases ih with h | ⟨b, h1, h2, h3⟩
   ·by_cases hk : x k = 0
    ·exact .inl (fun l hl => by
      by_cases e : l = k
      ·rw [e]; exact hk
      ·exact h l (by omega))
    ·exact .inr ⟨k, by omega, hk, h⟩
   ·exact .inr ⟨b, by omega, h2, h3⟩
theorem EchSt.lead {r c k : Nat} {pc : Nat → Nat} {H : Nat → Nat → Int} (h : EchSt r c k pc H) {v : Nat → Int} (hv : Sp H k c v) : (∀ j, j < c → v j = 0) ∨ ∃ b, b < k ∧ (∀ j, j < pc b → v j = 0) ∧ v (pc b) ≠ 0 ∧ H b (pc b) ∣ v (pc b) := by
 obtain ⟨x, hx⟩ := hv
 rcases first_ne x k with h0 | ⟨b, h1, h2, h3⟩
 ·exact .inl (fun j hj => by rw [hx j hj]; exact sm_zero k (fun l hl => by rw [h0 l hl]; simp))
 ·have hle := h.le
  have hcb := h.col b h1
  have hz : ∀ j, j < pc b → v j = 0 := fun j hj => by
   rw [hx j (by omega)]
   refine sm_zero k (fun l hl => ?_)
   by_cases hlb : l < b
   ·rw [h3 l hlb]; simp
   ·have : pc b ≤ pc l := by
     by_cases e : l = b
     ·rw [e]; exact Nat.le_refl _
     ·exact Nat.le_of_lt (h.up b l (by omega) hl)
    rw [h.left l hl j (by omega)]; simp
  have hp : v (pc b) = x b * H b (pc b) := by
   rw [hx _ hcb]
   refine sm_one k b h1 (fun l hl hne => ?_)
   by_cases hlb : l < b
   ·rw [h3 l hlb]; simp
   ·rw [h.below b h1 l (by omega) (by omega)]; simp
  have hpos := h.piv b h1
  refine .inr ⟨b, h1, hz, ?_, ?_⟩
  ·rw [hp]
   intro e
   rcases Int.mul_eq_zero.1 e with e | e
   ·exact h2 e
   ·omega
  ·rw [hp]; exact Int.dvd_mul_left _ _
theorem EchSt.match_ {r r' c k k' : Nat} {pc pc' : Nat → Nat} {H H' : Nat → Nat → Int} (h : EchSt r c k pc H) (h' : EchSt r' c k' pc' H') (hs : ∀ b, b < k → Sp H' k' c (H b)) (b : Nat) (hb : b < k) : ∃ b', b' < k' ∧ pc' b' = pc b ∧ H' b' (pc' b') ∣ H b (pc b) := by
 have hp := h.piv b hb
 have hc := h.col b hb
 rcases h'.lead (hs b hb) with h0 | ⟨b', h1, h2, h3, h4⟩
 ·have := h0 _ hc; omega
 ·have e : pc' b' = pc b := by
   rcases Nat.lt_trichotomy (pc' b') (pc b) with hlt | heq | hgt
   ·exact absurd (h.left b hb _ hlt) h3
   ·exact heq
   ·have := h2 _ hgt; omega
  rw [e] at h4
  exact ⟨b', h1, e, by rw [e]; exact h4⟩
theorem EchSt.cols {r r' c k k' : Nat} {pc pc' : Nat → Nat} {H H' : Nat → Nat → Int} (h : EchSt r c k pc H) (h' : EchSt r' c k' pc' H') (hs : ∀ b, b < k → Sp H' k' c (H b)) (hs' : ∀ b, b < k' → Sp H k c (H' b)) : ∀ b, b < k → b < k' ∧ pc' b = pc b := by
 intro b
 induction b using Nat.strongRecOn with
 | _ b ih =>
   intro hb
   obtain ⟨b', h1, h2, -⟩ := h.match_ h' hs b hb
   rcases Nat.lt_trichotomy b' b with hlt | heq | hgt
   ·have e1 := (ih b' hlt (by omega)).2
    have e2 := h.up b' b hlt hb
    omega
   ·subst heq; exact ⟨h1, h2⟩
   ·obtain ⟨b2, h3, h4, -⟩ := h'.match_ h hs' b (by omega)
    have e1 := h'.up b b' hgt h1
    have e2 : b2 < b := by
     rcases Nat.lt_trichotomy b2 b with hl | he | hg
     ·exact hl
     ·subst he; omega
     ·have := h.up b b2 hg h3; omega
    have e3 := ih b2 e2 (by omega)
    have e4 := h'.up b2 b e2 (by omega)
    omega
theorem EchSt.uniq {r r' c k k' : Nat} {pc pc' : Nat → Nat} {H H' : Nat → Nat → Int} (h : EchSt r c k pc H) (h' : EchSt r' c k' pc' H') (hs : ∀ b, b < k → Sp H' k' c (H b)) (hs' : ∀ b, b < k' → Sp H k c (H' b)) : k = k' ∧ ∀ b j, b < k → j < c → H b j = H' b j := by
 have c1 := h.cols h' hs hs'
 have c2 := h'.cols h hs' hs
 have hk : k = k' := by
  rcases Nat.lt_trichotomy k k' with hl | he | hg
  ·have := c2 k hl; omega
  ·exact he
  ·have := c1 k' hg; omega
 subst hk
 have hpiv : ∀ b, b < k → H b (pc b) = H' b (pc b) := fun b hb => by
  obtain ⟨b1, h1, h2, h3⟩ := h.match_ h' hs b hb
  obtain ⟨b2, h4, h5, h6⟩ := h'.match_ h hs' b hb
  have e1 := (c1 b hb).2
  have e2 : b1 = b := by
   rcases Nat.lt_trichotomy b1 b with hl | he | hg
   ·have := h'.up b1 b hl hb; omega
   ·exact he
   ·have := h'.up b b1 hg h1; omega
  have e3 : b2 = b := by
   rcases Nat.lt_trichotomy b2 b with hl | he | hg
   ·have := h.up b2 b hl hb; omega
   ·exact he
   ·have := h.up b b2 hg h4; omega
  subst e2
  subst e3
  rw [e1] at h3 h6
  have p1 := h.piv _ hb
  have p2 := h'.piv _ hb
  rw [e1] at p2
  exact Int.dvd_antisymm (by omega) (by omega) h6 h3
 refine ⟨rfl, fun b j hb hj => ?_⟩
 have hsp : Sp H k c (fun j => H b j - H' b j) := (Sp.row H c hb).sub (hs' b hb)
 rcases h.lead hsp with h0 | ⟨l, h1, h2, h3, h4⟩
 ·have e := h0 j hj
  have e2 : H b j - H' b j = 0 := e
  omega
 ·exfalso
  have e3 : H b (pc l) - H' b (pc l) ≠ 0 := h3
  have e4 : H l (pc l) ∣ H b (pc l) - H' b (pc l) := h4
  have cl := (c1 l h1).2
  rcases Nat.lt_trichotomy l b with hl | he | hg
  ·have a1 := h.below l h1 b hl (by have := h.le; omega)
   have a2 := h'.below l (c1 l h1).1 b hl (by have := h'.le; omega)
   rw [cl] at a2
   omega
  ·subst he
   have := hpiv l hb
   omega
  ·obtain ⟨a1, a2⟩ := h.above l h1 b hg
   have a3 := h'.above l (c1 l h1).1 b hg
   rw [cl, ← hpiv l h1] at a3
   obtain ⟨m, hm⟩ := e4
   have a5 : (H b (pc l) - H' b (pc l)).natAbs < (H l (pc l)).natAbs := by omega
   rw [hm, Int.natAbs_mul] at a5
   have a6 : m ≠ 0 := by
    intro e; rw [e, Int.mul_zero] at hm; omega
   have a7 := Nat.mul_le_mul_left (H l (pc l)).natAbs (show 1 ≤ m.natAbs by omega)
   omega
theorem span_rows {r c k : Nat} {pc : Nat → Nat} {A H U W : Nat → Nat → Int} (h : EchSt r c k pc H) (hE : EInv A H U W r c) : (∀ i, i < r → Sp H k c (A i)) ∧ (∀ i, i < r → Sp A r c (H i)) := by
 have cut : ∀ (f : Nat → Int) n m, m ≤ n → (∀ l, m ≤ l → l < n → f l = 0) → sm f n = sm f m := by
  intro f n
  induction n with
  | zero => intro m hm _; rw [show m = 0 from by omega]
  | succ n ih =>
    intro m hm hz
    by_cases e : m = n + 1
    ·rw [e]
    ·rw [sm, hz n (by omega) (by omega), ih m (by omega) (fun l a b => hz l a (by omega))]; omega
 refine ⟨fun i hi => ⟨W i, fun j hj => ?_⟩, fun i hi => ⟨U i, fun j hj => ?_⟩⟩
 ·rw [← hE.wh i j hi hj, dot_sm]
  exact cut _ r k h.le (fun l a b => by rw [h.rest l a b j hj]; simp)
 ·rw [← hE.ua i j hi hj, dot_sm]
theorem Sp.trans {H A : Nat → Nat → Int} {k r c : Nat} {v : Nat → Int} (hv : Sp H k c v) (hH : ∀ i, i < k → Sp A r c (H i)) : Sp A r c v := by
 obtain ⟨x, hx⟩ := hv
 have key : ∀ n, n ≤ k → Sp A r c (fun j => sm (fun l => x l * H l j) n) := by
  intro n
  induction n with
  | zero => intro _; exact ⟨fun _ => 0, fun j _ => (sm_zero r (fun l _ => by simp)).symm⟩
  | succ n ih =>
    intro hn
    obtain ⟨y, hy⟩ := ih (by omega)
    obtain ⟨u, hu⟩ := hH n (by omega)
    refine ⟨fun l => y l + x n * u l, fun j hj => ?_⟩
    have e1 : sm (fun l => x l * H l j) n = sm (fun l => y l * A l j) r := hy j hj
    show sm (fun l => x l * H l j) (n + 1) = _
    rw [sm, e1, hu j hj]
    have := sm_lin 1 (x n) (fun l => y l * A l j) (fun l => u l * A l j) r
    rw [show sm (fun l => y l * A l j) r + x n * sm (fun l => u l * A l j) r = 1 * sm (fun l => y l * A l j) r + x n * sm (fun l => u l * A l j) r from by omega, ← this]
    exact sm_congr r (fun l _ => by grind)
 obtain ⟨y, hy⟩ := key k (Nat.le_refl _)
 exact ⟨y, fun j hj => by rw [hx j hj]; exact hy j hj⟩
def HasF (A : Nat → Nat → Int) (r c : Nat) : Prop := ∃ k pc H U W, EchSt r c k pc H ∧ EInv A H U W r c
open Go.RowKit
def SpEq (A B : Nat → Nat → Int) (r r' c : Nat) : Prop := (∀ i, i < r → Sp B r' c (A i)) ∧ ∀ i, i < r' → Sp A r c (B i)
theorem Sp.like {H H' : Nat → Nat → Int} {k c : Nat} {v : Nat → Int} (h : Sp H k c v) (he : ∀ b j, b < k → j < c → H b j = H' b j) : Sp H' k c v := by
 obtain ⟨x, hx⟩ := h
 exact ⟨x, fun j hj => (hx j hj).trans (sm_congr k fun l hl => by rw [he l j hl hj])⟩
theorem same_span {A B H H' U W U' W' : Nat → Nat → Int} {r r' c k k' : Nat} {pc pc' : Nat → Nat} (h : EchSt r c k pc H) (hE : EInv A H U W r c) (h' : EchSt r' c k' pc' H') (hE' : EInv B H' U' W' r' c) :
 (k = k' ∧ ∀ b j, b < k → j < c → H b j = H' b j) ↔ SpEq A B r r' c := by
 obtain ⟨s1, s2⟩ := span_rows h hE
 obtain ⟨t1, t2⟩ := span_rows h' hE'
 have l1 := h.le
 have l2 := h'.le
 constructor
 ·rintro ⟨rfl, he⟩
  exact ⟨fun i hi => ((s1 i hi).like he).trans (fun b hb => t2 b (by omega)), fun i hi => ((t1 i hi).like (fun b j hb hj => (he b j hb hj).symm)).trans (fun b hb => s2 b (by omega))⟩
 ·rintro ⟨e1, e2⟩
  exact h.uniq h' (fun b hb => ((s2 b (by omega)).trans e1).trans t1) (fun b hb => ((t2 b (by omega)).trans e2).trans s1)
def EqRel (ms : List Hm) (g h : Int) (y : Bool) (e : Int) : Prop :=
 (((∀ i, i < 24 → ∀ x, ms.getD i none = some x → (x.1 : Int) ≠ g) ∨ (∀ i, i < 24 → ∀ x, ms.getD i none = some x → (x.1 : Int) ≠ h)) ∧ y = false ∧ e = 2) ∨
 ∃ i hd r q zs j hd' r' c ys, i < 24 ∧ ms.getD i none = some (hd, r, q, zs) ∧ ((hd : Nat) : Int) = g ∧ j < 24 ∧ ms.getD j none = some (hd', r', c, ys) ∧ ((hd' : Nat) : Int) = h ∧
   ((q ≠ c ∧ y = false ∧ e = 3) ∨ (q = c ∧ ¬ (FitsP r q zs ∧ FitsP r' c ys) ∧ y = false ∧ e = 4) ∨ (q = c ∧ (FitsP r q zs ∧ FitsP r' c ys) ∧ e = 0 ∧ (y = true ↔ SpEq (ent q zs) (ent q ys) r r' q) ∧ HasF (ent q zs) r q ∧ HasF (ent q ys) r' q))
theorem AlikeRel.bad {w : World} {ms : List Hm} {g h : Int} {m n : Value} {e : Int} (H : AlikeRel w ms g h m n e) (he : e ≠ 0) : EqRel ms g h false e := by
 rcases H with ⟨h1, rfl⟩ | ⟨i, hd, r, q, zs, j, hd', r', c, ys, h1, h2, h3, h4, h5, h6, h7⟩
 ·exact .inl ⟨h1, rfl, rfl⟩
 ·refine .inr ⟨i, hd, r, q, zs, j, hd', r', c, ys, h1, h2, h3, h4, h5, h6, ?_⟩
  rcases h7 with ⟨a, rfl⟩ | ⟨a, a', rfl⟩ | ⟨-, -, a, -⟩
  ·exact .inl ⟨a, rfl, rfl⟩
  ·exact .inr (.inl ⟨a, a', rfl, rfl⟩)
  ·exact absurd a he
theorem AlikeRel.ok {w : World} {ms : List Hm} {g h : Int} {a1 a2 b1 b2 : Int} {s1 s2 : Value} (H : AlikeRel w ms g h (.agg #[.int .i64 a1, .int .i64 a2, s1]) (.agg #[.int .i64 b1, .int .i64 b2, s2]) 0) :
 ∃ i hd r q zs j hd' r' ys, (i < 24 ∧ ms.getD i none = some (hd, r, q, zs) ∧ ((hd : Nat) : Int) = g ∧ j < 24 ∧ ms.getD j none = some (hd', r', q, ys) ∧ ((hd' : Nat) : Int) = h) ∧ (FitsP r q zs ∧ FitsP r' q ys) ∧ a1 = r ∧ a2 = q ∧ b1 = r' ∧ b2 = q ∧ IsM w (.agg #[.int .i64 r, .int .i64 q, s1]) r q zs 2 ∧ IsM w (.agg #[.int .i64 r', .int .i64 q, s2]) r' q ys 2 := by
 rcases H with ⟨h1, h⟩ | ⟨i, hd, r, q, zs, j, hd', r', c, ys, h1, h2, h3, h4, h5, h6, h7⟩
 ·cases h
 ·rcases h7 with ⟨a, h⟩ | ⟨a, a', h⟩ | ⟨rfl, hf, -, m1, m2⟩
  ·cases h
  ·cases h
  ·obtain ⟨-, -, sl, e1, -⟩ := id m1
   obtain ⟨-, -, sl', e2, -⟩ := id m2
   simp only [Value.agg.injEq, Array.mk.injEq, List.cons.injEq, Value.int.injEq, true_and, and_true] at e1 e2
   obtain ⟨rfl, rfl, rfl⟩ := e1
   obtain ⟨rfl, rfl, rfl⟩ := e2
   exact ⟨i, hd, r, q, zs, j, hd', r', ys, ⟨h1, h2, h3, h4, h5, h6⟩, hf, rfl, rfl, rfl, rfl, m1, m2⟩
set_option maxRecDepth 100000 in
set_option maxHeartbeats 4000000 in
theorem equal_held (b : Nat) (g h : Int) (ms : List Hm) (nx : Nat) (v0 : World) (hst : Held v0 b ms nx) :
 Calls Tryz.prog 47 #[.pointer (some ⟨b, 0, none⟩), .int .i64 g, .int .i64 h] v0 fun x w' => ∃ (y : Bool) (e : Int), x = .returned (.tuple #[.bool y, .int .i64 e]) ∧ EqRel ms g h y e ∧ Below v0.heap.size v0 w' := by
 have H0 := Hid.mk hst
 clear hst
 go_enter Tryz.func47, Tryz.ntmps47
 go_wp2_with fail
 refine (alike_held b g h ms nx _ H0.out).mono ?_
 rintro x w1 ⟨a1, a2, b1, b2, o1, o2, n1, n2, p1, p2, e, rfl, hR, hb1⟩
 have K1 := Hid.mk (And.intro hR hb1)
 have hw1 := hb1.size
 clear hR hb1
 by_cases he : e = 0
 ·subst he
  obtain ⟨i, hd, r, q, zs, j, hd', r', ys, hF, hfit, rfl, rfl, rfl, rfl, m1, m2⟩ := K1.out.1.ok
  have hbB := ((Below.refl w1.heap.size w1).alloc (Nat.le_refl _) (.cells #[.int .i64 r, .int .i64 q, .slice o1 n1 p1] 66)).alloc (by simp) (.cells #[.int .i64 r', .int .i64 q, .slice o2 n2 p2] 66)
  have HF := Hid.mk (And.intro hF (And.intro hfit (And.intro (m1.below hbB) (m2.below hbB))))
  have HB := Hid.mk (K1.out.2.trans (hbB.mono hw1))
  have hT2 : Trio ((w1.alloc (.cells #[.int .i64 r, .int .i64 q, .slice o1 n1 p1] 66)).alloc (.cells #[.int .i64 r', .int .i64 q, .slice o2 n2 p2] 66)) (w1.heap.size + 1) (.int .i64 r') (.int .i64 q) (.slice o2 n2 p2) := ⟨by simp, by simp, by simp⟩
  have HT := Hid.mk hT2
  clear hF hfit m1 m2 hbB hT2
  go_wp2_with fail
  obtain ⟨X, hX⟩ : ∃ X, X = (w1.alloc (.cells #[.int .i64 r, .int .i64 q, .slice o1 n1 p1] 66)).alloc (.cells #[.int .i64 r', .int .i64 q, .slice o2 n2 p2] 66) := ⟨_, rfl⟩
  have hsX : X.heap.size = w1.heap.size + 2 := by rw [hX]; simp
  rw [← hX] at HF HB HT ⊢
  clear hX
  refine (gech_fit _ r q zs 2 _ HF.out.2.2.1 HF.out.2.1.1.1 HF.out.2.1.1.2.1 HF.out.2.1.1.ent (by omega)).mono ?_
  rintro e w3 ⟨v3, k, pc, hs, us, ws, rfl, hIF, hk, hE, -, hb3, -⟩
  have HE1 := Hid.mk (And.intro hk hE)
  have hkr := hk.le
  obtain ⟨sH, sU, sW, rfl, m3, m4, m5⟩ := id hIF
  obtain ⟨oH, cH, rfl⟩ := m3.slice
  obtain ⟨oU, cU, rfl⟩ := m4.slice
  obtain ⟨oW, cW, rfl⟩ := m5.slice
  clear m3 m4 m5 hk hE
  have HI := Hid.mk (And.intro hIF hb3)
  clear hIF hb3
  go_wp2_with fail
  refine (basis_any _ r q k hs us ws 4000 _ HI.out.1 hkr).mono ?_
  rintro e w4 ⟨v4, bs, rfl, hM4, hbs, hb4⟩
  have hX4 : Below X.heap.size X w4 := HI.out.2.trans (hb4.mono HI.out.2.size)
  obtain ⟨-, -, s4, rfl, hg4⟩ := id hM4
  obtain ⟨o4, c4, rfl, -⟩ := hg4.shape
  have hw4 := hX4.size
  have hb44 := (Below.refl w4.heap.size w4).alloc (Nat.le_refl _) (.cells #[.int .i64 k, .int .i64 q, .slice o4 (k * q) c4] 66)
  have hX5 := hX4.trans (hb44.mono hw4)
  have hT4 : Trio (w4.alloc (.cells #[.int .i64 k, .int .i64 q, .slice o4 (k * q) c4] 66)) w4.heap.size (.int .i64 k) (.int .i64 q) (.slice o4 (k * q) c4) := ⟨new_cell _ _ _ _ _ rfl rfl, new_cell _ _ _ _ _ rfl rfl, new_cell _ _ _ _ _ rfl rfl⟩
  obtain ⟨x0, x1, x2⟩ := HT.out.later hX5
  have K4 := Hid.mk (And.intro (hM4.below hb44) (And.intro hbs (And.intro hX5 hT4)))
  clear hg4 hM4 hbs hb4 hX4 hb44 hX5 hT4 HI
  go_wp2_with fail
  refine (gech_fit _ r' q ys 2 _ (HF.out.2.2.2.below K4.out.2.2.1) HF.out.2.1.2.1 HF.out.2.1.2.2.1 HF.out.2.1.2.ent (by omega)).mono ?_
  rintro e w5 ⟨v5, k', pc', hs', us', ws', rfl, hIF, hk, hE, -, hb5, -⟩
  have HE2 := Hid.mk (And.intro hk hE)
  have hkr' := hk.le
  obtain ⟨sH, sU, sW, rfl, m3, m4, m5⟩ := id hIF
  obtain ⟨oH', cH', rfl⟩ := m3.slice
  obtain ⟨oU', cU', rfl⟩ := m4.slice
  obtain ⟨oW', cW', rfl⟩ := m5.slice
  clear m3 m4 m5 hk hE x0 x1 x2
  have HI := Hid.mk (And.intro hIF hb5)
  clear hIF hb5
  go_wp2_with fail
  refine (basis_any _ r' q k' hs' us' ws' 4000 _ HI.out.1 hkr').mono ?_
  rintro e w6 ⟨v6, bs', rfl, hM6, hbs', hb6⟩
  have hw5 := HI.out.2.size
  have hY6 := HI.out.2.trans (hb6.mono HI.out.2.size)
  obtain ⟨-, -, s6, rfl, hg6⟩ := id hM6
  obtain ⟨o6, c6, rfl, -⟩ := hg6.shape
  have hb66 := (Below.refl w6.heap.size w6).alloc (Nat.le_refl _) (.cells #[.int .i64 k', .int .i64 q, .slice o6 (k' * q) c6] 66)
  have hY7 := hY6.trans (hb66.mono hY6.size)
  obtain ⟨x0, x1, x2⟩ := K4.out.2.2.2.later hY7
  have hw6 := hb6.size
  have K6 := Hid.mk (And.intro (hM6.below hb66) (And.intro hbs' (And.intro (HB.out.trans ((K4.out.2.2.1.trans (hY7.mono K4.out.2.2.1.size)).mono HB.out.size)) (K4.out.1.below hY7))))
  clear hg6 hM6 hbs' hb6 hY6 hb66 hY7 HI
  go_wp2_with fail
  refine (matIs_any _ _ k q k' q bs bs' 4000 _ K6.out.2.2.2 K6.out.1).mono ?_
  rintro e w7 ⟨rfl, hb7⟩
  go_wp2_with fail
  go_ret2
  refine ⟨_, 0, rfl, .inr ⟨i, hd, r, q, zs, j, hd', r', q, ys, HF.out.1.1, HF.out.1.2.1, HF.out.1.2.2.1, HF.out.1.2.2.2.1, HF.out.1.2.2.2.2.1, HF.out.1.2.2.2.2.2, .inr (.inr ⟨rfl, HF.out.2.1, rfl, ?_, ⟨_, _, _, _, _, HE1.out.1, HE1.out.2⟩, ⟨_, _, _, _, _, HE2.out.1, HE2.out.2⟩⟩)⟩, K6.out.2.2.1.trans (hb7.mono K6.out.2.2.1.size)⟩
  rw [← same_span HE1.out.1 HE1.out.2 HE2.out.1 HE2.out.2, Bool.and_eq_true, decide_eq_true_iff, decide_eq_true_iff]
  constructor
  ·rintro ⟨rfl, e⟩
   refine ⟨rfl, fun b j hb hj => ?_⟩
   rw [← K4.out.2.1 b j hb hj, e]
   exact K6.out.2.1 b j hb hj
  ·rintro ⟨rfl, e⟩
   refine ⟨rfl, list_ent K4.out.1.len K6.out.1.len fun b j hb hj => ?_⟩
   rw [K4.out.2.1 b j hb hj, e b j hb hj]
   exact (K6.out.2.1 b j hb hj).symm
 ·have HE := Hid.mk he
  have hbe : (e == 0) = false := by simpa using he
  have hbB := ((Below.refl w1.heap.size w1).alloc (Nat.le_refl _) (.cells #[.int .i64 a1, .int .i64 a2, .slice o1 n1 p1] 66)).alloc (by simp) (.cells #[.int .i64 b1, .int .i64 b2, .slice o2 n2 p2] 66)
  have HB := Hid.mk (K1.out.2.trans (hbB.mono hw1))
  clear hbB
  go_wp2_with fail
  go_ret2
  exact ⟨false, e, rfl, K1.out.1.bad HE.out, HB.out⟩
open Go.RowKit
open Go.RowKit
end Go.Proofs.YtfjbijpagaipnabGreatDoor
