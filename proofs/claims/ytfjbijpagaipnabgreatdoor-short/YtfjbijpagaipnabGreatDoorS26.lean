import Derived.Test.YtfjbijpagaipnabGreatDoorS25
namespace Go.Proofs.YtfjbijpagaipnabGreatDoor
open Go.RowKit
set_option maxRecDepth 100000 in
set_option maxHeartbeats 4000000 in
theorem out_new (v : Value) (R r c row : Nat) (zs : List Int) (L : Nat) (w : World) (hm : IsM w v R c zs L) (hRr : R = r + 1) :
 Calls Tryz.prog 186 #[v, .int .i64 row] w fun e w' => ∃ g ms, e = .returned (.agg #[.int .i64 r, .int .i64 c, .slice (some ⟨g, 0, none⟩) (r * c) (r * c)]) ∧ w.heap.size ≤ g ∧ Grid w' (.slice (some ⟨g, 0, none⟩) (r * c) (r * c)) (r * c) ms L ∧ (∀ i j, i < r → j < c → ent c ms i j = ent c zs (if i < row then i else i + 1) j) ∧ Below w.heap.size w w' := by
 have HM := Hid.mk hm
 obtain ⟨hr, hc, sl, rfl, hg0⟩ := hm
 have hRi : (R : Int) - 1 = (r : Nat) := by omega
 have HRr := Hid.mk hRr
 have hr99 : r ≤ 99 := by omega
 clear hRr
 obtain ⟨ao, cap, rfl, -⟩ := hg0.shape
 clear hg0
 obtain ⟨N, hN⟩ : ∃ N, N = R * c := ⟨_, rfl⟩
 rw [← hN] at HM ⊢
 clear hN
 go_enter Tryz.func186, Tryz.ntmps186
 go_wp2_with fail
 obtain ⟨W0, hW0⟩ : ∃ W0, W0 = (w.alloc (.cells #[.int .i64 R, .int .i64 c, .slice ao N cap] 66)).alloc (.cells #[.int .i64 0, .int .i64 0, .slice none 0 0] 66) := ⟨_, rfl⟩
 have hs0 : W0.heap.size = w.heap.size + 2 := by rw [hW0]; simp
 have hb0 : Below w.heap.size w W0 := by rw [hW0]; repeat (first | exact Below.refl _ _ | refine Below.alloc ?_ (by simp <;> omega) _)
 have hm0 : Trio W0 w.heap.size (.int .i64 R) (.int .i64 c) (.slice ao N cap) := by
  rw [hW0]
  exact Trio.later (w := w.alloc (.cells #[.int .i64 R, .int .i64 c, .slice ao N cap] 66)) ⟨new_cell _ _ _ _ _ rfl rfl, new_cell _ _ _ _ _ rfl rfl, new_cell _ _ _ _ _ rfl rfl⟩ ((Below.refl _ _).alloc (Nat.le_refl _) _)
 have hR0 : W0.heap[w.heap.size + 1]? = some (.cells #[.int .i64 0, .int .i64 0, .slice none 0 0] 66 (0, 0)) := by
  rw [hW0]
  have := heap_alloc_new (w.alloc (.cells #[.int .i64 R, .int .i64 c, .slice ao N cap] 66)) (.cells #[.int .i64 0, .int .i64 0, .slice none 0 0] 66)
  simpa using this
 have K0 := Hid.mk (And.intro hb0 (And.intro hm0 hR0))
 rw [← hW0]
 clear hb0 hm0 hR0 hW0
 refine (noughts_any r c _ hr99 hc).mono ?_
 rintro e w1 ⟨g, rfl, hg1, hG1, hb1⟩
 have hw1 : W0.heap.size ≤ w1.heap.size := hb1.size
 have hgl := hG1.ty.lt
 have hb11 := (Below.refl w1.heap.size w1).alloc (Nat.le_refl _) (.cells #[.int .i64 r, .int .i64 c, .slice (some ⟨g, 0, none⟩) (r * c) (r * c)] 66)
 have hTm : Tri (w1.alloc (.cells #[.int .i64 r, .int .i64 c, .slice (some ⟨g, 0, none⟩) (r * c) (r * c)] 66)) w1.heap.size 0 (.int .i64 r) (.int .i64 c) (.slice (some ⟨g, 0, none⟩) (r * c) (r * c)) := ⟨new_cell _ _ _ _ _ rfl rfl, new_cell _ _ _ _ _ rfl rfl, new_cell _ _ _ _ _ rfl rfl⟩
 obtain ⟨W1, hW1⟩ : ∃ W1, W1 = w1.alloc (.cells #[.int .i64 r, .int .i64 c, .slice (some ⟨g, 0, none⟩) (r * c) (r * c)] 66) := ⟨_, rfl⟩
 have hs1 : W1.heap.size = w1.heap.size + 1 := by rw [hW1]; simp
 rw [← hW1] at hb11 hTm
 have hbW := hb1.trans (hb11.mono hw1)
 have K1 := Hid.mk (And.intro (show MatO W1 w1.heap.size 0 g r c (List.replicate (r * c) 0) L from ⟨hr99, hc, hTm, (hG1.mono (Nat.zero_le _)).below hb11⟩) (And.intro hbW hW1))
 clear hG1 hb1 hb11 hTm hW1 hbW
 go_wp2_with fail
 rw [← K1.out.2.2]
 have hpg : w1.heap.size ≠ g := by omega
 go_loopw [6] (fun i wr => ∃ (a : Nat) (ms : List Int), a ≤ r ∧ i = .int .i64 a ∧ Hid (MatO wr w1.heap.size 0 g r c ms L ∧ W1.grownBy wr (some g) ∧ ∀ i j, i < a → j < c → ent c ms i j = ent c zs (if i < row then i else i + 1) j)) (fun i _ => r - (intOf i).toNat)
 case atStart => exact ⟨0, _, Nat.zero_le _, rfl, Hid.mk ⟨K1.out.1, World.grownBy.refl _ _, fun i j h => by omega⟩⟩
 case round =>
  rename World => wo
  obtain ⟨a, ms, ha, rfl, HI⟩ := hrel
  obtain ⟨x0, x1, x2⟩ := HI.out.1.tri
  simp only [Nat.zero_add] at x1 x2
  by_cases har : a < r
  ·have hai : (a : Int) < (r : Int) := by omega
   obtain ⟨fr, hfr⟩ : ∃ fr, fr = if a < row then a else a + 1 := ⟨_, rfl⟩
   have hfrR : fr < R := by have := HRr.out; rw [hfr]; split <;> omega
   have HFR := Hid.mk hfr
   clear hfr
   go_upto_if 25 with fail
   go_cut [7] from 22 to 27 (fun xv wx => xv = .int .i64 fr ∧ wx = wo)
   case first =>
    by_cases h1 : a < row
    ·have HE : Hid (fr = a) := Hid.mk (by rw [HFR.out, if_pos h1])
     go_wp2_with fail
     go_meet
     case rel => exact ⟨by rw [HE.out], rfl⟩
    ·have HE : Hid (fr = a + 1) := Hid.mk (by rw [HFR.out, if_neg h1])
     go_wp2_with fail
     go_meet
     case rel => exact ⟨by rw [HE.out]; go_num, rfl⟩
   case rest =>
    obtain ⟨rfl, rfl⟩ := hcut
    clear x0 x1 x2
    go_wp2_with fail
    go_loopw [8] (fun i wr => ∃ (e : Nat) (ns : List Int), e ≤ c ∧ i = .int .i64 e ∧ Hid (MatO wr w1.heap.size 0 g r c ns L ∧ W1.grownBy wr (some g) ∧ ∀ i j, i ≤ a → j < c → (i < a ∨ j < e) → ent c ns i j = ent c zs (if i < row then i else i + 1) j)) (fun i _ => c - (intOf i).toNat)
    case atStart => exact ⟨0, ms, Nat.zero_le _, rfl, Hid.mk ⟨HI.out.1, HI.out.2.1, fun i j x y h => HI.out.2.2 i j (by omega) y⟩⟩
    case round =>
     rename World => wi
     obtain ⟨e, ns, he, rfl, HJ⟩ := hrel
     have hTi := (K0.out.2.1.later K1.out.2.1).grown HJ.out.2.1 (by omega)
     obtain ⟨q0, q1, q2⟩ := hTi
     have hbi : Below w.heap.size w wi := (K0.out.1.trans (K1.out.2.1.mono (by omega))).trans (below_of_grown HJ.out.2.1 (by omega) (by omega))
     have hwi := HJ.out.2.1.size
     have KI := Hid.mk hbi
     clear hbi
     by_cases hec : e < c
     ·have hei : (e : Int) < (c : Int) := by omega
      go_wp2_with fail
      refine (at_in _ R c fr e zs L _ (HM.out.below KI.out) hfrR hec).mono ?_
      rintro e9 w2 ⟨x, rfl, hx, hb2⟩
      obtain ⟨nb2, so2, n2, cp2, rfl⟩ := hx.shape
      have hb22 := (Below.refl w2.heap.size w2).alloc (Nat.le_refl _) (.cells #[.bool nb2, .slice so2 n2 cp2] 79)
      have hbB := hb2.trans (hb22.mono hb2.size)
      have K2 := Hid.mk (And.intro hbB (hx.below hb22))
      clear hx hb2 hb22 hbB q0 q1 q2
      go_wp2_with fail
      refine (set_m w1.heap.size 0 g r c a e ns L _ _ _ (HJ.out.1.later K2.out.1) hpg K2.out.2 har hec).mono ?_
      rintro e9 w3 ⟨rfl, hM3, hgr3, -⟩
      have K3 := Hid.mk (And.intro hM3 (grown_trans (grown_below HJ.out.2.1 K2.out.1) hgr3))
      clear hM3 hgr3
      go_wp2_with fail
      go_roundw
      case measure => simp [intOf]; omega
      case rel =>
       refine ⟨e + 1, _, by omega, by go_num, Hid.mk ⟨K3.out.1, K3.out.2, fun i j hi hj hd => ?_⟩⟩
       rw [ent_set ns r c HJ.out.1.len a e i j _ har hec hj]
       by_cases hij : i = a ∧ j = e
       ·obtain ⟨rfl, rfl⟩ := hij
        rw [if_pos ⟨rfl, rfl⟩, ← HFR.out]
        rfl
       ·rw [if_neg hij]
        exact HJ.out.2.2 i j hi hj (by omega)
     ·have hei : ¬ (e : Int) < (c : Int) := by omega
      go_wp2_with fail
      go_roundw
      case measure => simp [intOf]; omega
      case rel => exact ⟨a + 1, ns, by omega, by go_num, Hid.mk ⟨HJ.out.1, HJ.out.2.1, fun i j hi hj => HJ.out.2.2 i j (by omega) hj (by omega)⟩⟩
  ·have hai : ¬ (a : Int) < (r : Int) := by omega
   have hR : wo.heap[w.heap.size + 1]? = some (.cells #[.int .i64 0, .int .i64 0, .slice none 0 0] 66 (0, 0)) := ((HI.out.2.1.block _ (by omega) (fun e => by injection e with e; omega)).trans (K1.out.2.1.block _ (by omega))).trans K0.out.2.2
   have r0 : wo.cell? ⟨w.heap.size + 1, 0, none⟩ = some (.int .i64 0) := by simp [World.cell?, hR]
   have r1 : wo.cell? ⟨w.heap.size + 1, 1, none⟩ = some (.int .i64 0) := by simp [World.cell?, hR]
   have r2 : wo.cell? ⟨w.heap.size + 1, 2, none⟩ = some (.slice none 0 0) := by simp [World.cell?, hR]
   have f0 : ∀ o, wo.frozen? ⟨w.heap.size + 1, o, none⟩ = false := fun o => by simp [World.frozen?, hR]
   have HT : Hid (Ty wo (w.heap.size + 1) 66) := Hid.mk ⟨_, _, hR⟩
   clear x0 x1 x2
   obtain ⟨s0, s1, s2⟩ := HI.out.1.tri
   clear hR
   go_wp2_with fail
   refine bodyPost_ret (v := .agg #[.int .i64 r, .int .i64 c, .slice (some ⟨g, 0, none⟩) (r * c) (r * c)]) ?_ rfl ?_
   ·(simp [results, Tryz.results186, go_sem, r0, r1, r2]; done)
   ·have h3 := set3 wo (w.heap.size + 1) HT.out (by decide) (.int .i64 r) (.int .i64 c) (.slice (some ⟨g, 0, none⟩) (r * c) (r * c))
    have hbo : Below w.heap.size w wo := (K0.out.1.trans (K1.out.2.1.mono (by omega))).trans (below_of_grown HI.out.2.1 (by omega) (by omega))
    exact ⟨g, rfl, by omega, ms, HI.out.1.grid.besides h3.2 h3.1 (by omega), fun i j hi hj => HI.out.2.2 i j (by omega) hj, hbo.trans (below_of_grown h3.2 (by omega) hbo.size)⟩
open Go.RowKit
theorem lit_own2 (k : Nat) (w : World) : Own (w.alloc (.cells #[.int .u32 (k : Nat), .int .u32 0] 144)) (.slice (some ⟨w.heap.size, 0, none⟩) 2 2) [k, 0] := by
 have := World.ownsRow_lit (base := 0) (e := 144) (size := 1) w #[.int .u32 (k : Nat), .int .u32 0] 2 (Nat.zero_le _) (by simp [maxLen]) rfl
 simpa [Own, lcells] using this
set_option maxRecDepth 100000 in
set_option maxHeartbeats 1000000 in
theorem fromFour_any (w : World) :
 Calls Tryz.prog 62 #[.int .i64 4] w fun e w' => ∃ r, e = .returned r ∧ IntOut w w' r 4 2 := by
 go_enter Tryz.func62, Tryz.ntmps62
 go_wp2_with fail
 refine (trim_any _ [4, 0] _ ?_ (by intro x hx; simp at hx; omega)).mono ?_
 ·have := lit_own2 4 (w.alloc (.cells #[.bool false, .slice none 0 0] 79))
  simpa using this
 rintro e w' ⟨⟨r, rfl, hr⟩, rfl⟩
 obtain ⟨zs, h1, h2, h3, h4⟩ := hr
 obtain ⟨co, ecap, rfl, -⟩ := h4.open_
 have H := Hid.mk (And.intro h1 (And.intro h2 (And.intro h3 h4)))
 clear h1 h2 h3 h4
 go_wp2_with fail
 refine bodyPost_ret (v := .agg #[.bool false, .slice co zs.length ecap]) ?_ rfl ?_
 ·(simp [results, Tryz.results62, go_sem]; done)
 ·obtain ⟨h1, h2, h3, h4⟩ := H.out
  refine ⟨_, rfl, IsI.mk' (by simp) h1 (by rw [h2]; simp [val]) (by simpa using h3) (h4.keep (KU_swap _ _ _ _)), ?_⟩
  repeat (first | exact Below.refl _ _ | refine Below.alloc ?_ (by simp <;> omega) _)
set_option maxRecDepth 100000 in
set_option maxHeartbeats 1000000 in
theorem fromThree_any (w : World) :
 Calls Tryz.prog 62 #[.int .i64 3] w fun e w' => ∃ r, e = .returned r ∧ IntOut w w' r 3 2 := by
 go_enter Tryz.func62, Tryz.ntmps62
 go_wp2_with fail
 refine (trim_any _ [3, 0] _ ?_ (by intro x hx; simp at hx; omega)).mono ?_
 ·have := lit_own2 3 (w.alloc (.cells #[.bool false, .slice none 0 0] 79))
  simpa using this
 rintro e w' ⟨⟨r, rfl, hr⟩, rfl⟩
 obtain ⟨zs, h1, h2, h3, h4⟩ := hr
 obtain ⟨co, ecap, rfl, -⟩ := h4.open_
 have H := Hid.mk (And.intro h1 (And.intro h2 (And.intro h3 h4)))
 clear h1 h2 h3 h4
 go_wp2_with fail
 refine bodyPost_ret (v := .agg #[.bool false, .slice co zs.length ecap]) ?_ rfl ?_
 ·(simp [results, Tryz.results62, go_sem]; done)
 ·obtain ⟨h1, h2, h3, h4⟩ := H.out
  refine ⟨_, rfl, IsI.mk' (by simp) h1 (by rw [h2]; simp [val]) (by simpa using h3) (h4.keep (KU_swap _ _ _ _)), ?_⟩
  repeat (first | exact Below.refl _ _ | refine Below.alloc ?_ (by simp <;> omega) _)
theorem order_zero (v : Value) (r c : Nat) (zs : List Int) (L : Nat) (w : World) (hm : IsM w v r c zs L) :
 Calls Tryz.prog 126 #[v, .int .i64 0] w fun e w' => e = .returned (.bool true) ∧ Below w.heap.size w w' := by
 obtain ⟨hr, hc, sl, rfl, hg0⟩ := hm
 obtain ⟨ao, cap, rfl, -⟩ := hg0.shape
 obtain ⟨N, hN⟩ : ∃ N, N = r * c := ⟨_, rfl⟩
 rw [← hN]
 clear hg0 hN
 go_enter Tryz.func126, Tryz.ntmps126
 go_wp2_with fail
 go_ret
 exact ⟨rfl, (Below.refl _ _).alloc (Nat.le_refl _) _⟩
abbrev OrdE (c : Nat) (b : Nat → Nat → Int) (k : Nat) : Prop := ¬ ((volE c b (k + 2) * volE c b k + lamE c b (k + 1) k * lamE c b (k + 1) k) * 4).natAbs < (volE c b (k + 1) * volE c b (k + 1) * 3).natAbs
set_option maxRecDepth 100000 in
set_option maxHeartbeats 8000000 in
theorem order_any (v : Value) (r c k : Nat) (zs : List Int) (L : Nat) (w : World) (hm : IsM w v r c zs L) (hk : k + 1 < r) (hk4 : k ≤ 2) (hc4 : c ≤ 4) (hL : L ≤ 1000) (row : Nat) (hrow : row = k + 1) :
 Calls Tryz.prog 126 #[v, .int .i64 row] w fun e w' => ∃ y : Bool, e = .returned (.bool y) ∧ (y = true ↔ OrdE c (ent c zs) k) ∧ Below w.heap.size w w' := by
 have HM := Hid.mk hm
 obtain ⟨hr, hc, sl, rfl, hg0⟩ := hm
 obtain ⟨ao, cap, rfl, -⟩ := hg0.shape
 obtain ⟨N, hN⟩ : ∃ N, N = r * c := ⟨_, rfl⟩
 rw [← hN] at HM ⊢
 clear hg0 hN
 obtain ⟨n2, hn2⟩ : ∃ n2, n2 = k + 2 := ⟨_, rfl⟩
 have h2i : (row : Int) + 1 = (n2 : Nat) := by omega
 have h0i : (row : Int) - 1 = (k : Nat) := by omega
 have hr0 : ((row : Int) == 0) = false := by simp; omega
 have HN := Hid.mk (And.intro hrow hn2)
 have hn2r : n2 ≤ r := by omega
 have hn24 : n2 ≤ 4 := by omega
 have hrr : row ≤ r := by omega
 have hrr' : row < r := by omega
 have hr4 : row ≤ 4 := by omega
 have hkr : k ≤ r := by omega
 have hkr' : k < r := by omega
 clear hn2 hrow
 obtain ⟨V, hV⟩ : ∃ V, V = 8 * L + 40 := ⟨_, rfl⟩
 have hVb : V ≤ 8040 := by omega
 go_enter Tryz.func126, Tryz.ntmps126
 go_wp2_with fail
 obtain ⟨W0, hW0⟩ : ∃ W0, W0 = w.alloc (.cells #[.int .i64 r, .int .i64 c, .slice ao N cap] 66) := ⟨_, rfl⟩
 have hb0 : Below w.heap.size w W0 := by rw [hW0]; exact (Below.refl _ _).alloc (Nat.le_refl _) _
 have hs0 : W0.heap.size = w.heap.size + 1 := by rw [hW0]; simp
 have hT : Tri W0 w.heap.size 0 (.int .i64 r) (.int .i64 c) (.slice ao N cap) := by
  have h1 : W0.heap[w.heap.size]? = some (.cells #[.int .i64 r, .int .i64 c, .slice ao N cap] 66 (0, 0)) := by rw [hW0]; exact heap_alloc_new w _
  refine ⟨?_, ?_, ?_⟩ <;> simp [World.cell?, h1]
 rw [← hW0]
 have F := Hid.mk (And.intro hb0 (And.intro hs0 hT))
 clear hb0 hs0 hT hW0
 refine (volume_any _ r c n2 zs L _ (HM.out.below F.out.1) hn2r hn24 hc4 hL).mono ?_
 rintro e w1 ⟨r1, rfl, hx1, hb1⟩
 obtain ⟨nb1, so1, m1, cp1, rfl⟩ := hx1.shape
 obtain ⟨W1, hW1⟩ : ∃ W1, W1 = w1.alloc (.cells #[.bool nb1, .slice so1 m1 cp1] 79) := ⟨_, rfl⟩
 have hb11 : Below w1.heap.size w1 W1 := by rw [hW1]; exact (Below.refl _ _).alloc (Nat.le_refl _) _
 have hB1 : Below W0.heap.size W0 W1 := hb1.trans (hb11.mono hb1.size)
 have hs1 : w1.heap.size < W1.heap.size ∧ W0.heap.size ≤ w1.heap.size := ⟨by rw [hW1]; simp, hb1.size⟩
 have K1 : Hid (Duo W1 w1.heap.size (.bool nb1) (.slice so1 m1 cp1) ∧ IsI W1 (.agg #[.bool nb1, .slice so1 m1 cp1]) (volE c (ent c zs) n2) V ∧ Below W0.heap.size W0 W1) := Hid.mk ⟨by rw [hW1]; exact Duo.new w1 _ _ rfl, by rw [hV]; exact hx1.below hb11, hB1⟩
 have HW1 := Hid.mk hW1
 obtain ⟨a0, a1, a2⟩ := F.out.2.2.later hB1
 simp only [Nat.zero_add] at a1 a2
 clear hx1 hb1 hb11 hB1 hW1
 go_upto_region 4 with fail
 rw [← HW1.out]
 go_wp2_with fail
 refine (volume_any _ r c row zs L _ ((HM.out.below F.out.1).below K1.out.2.2) hrr hr4 hc4 hL).mono ?_
 rintro e w2 ⟨r2, rfl, hx2, hb2⟩
 obtain ⟨nb2, so2, m2, cp2, rfl⟩ := hx2.shape
 obtain ⟨W2, hW2⟩ : ∃ W2, W2 = w2.alloc (.cells #[.bool nb2, .slice so2 m2 cp2] 79) := ⟨_, rfl⟩
 have hb22 : Below w2.heap.size w2 W2 := by rw [hW2]; exact (Below.refl _ _).alloc (Nat.le_refl _) _
 have hB2 : Below W1.heap.size W1 W2 := hb2.trans (hb22.mono hb2.size)
 have hs2 : w2.heap.size < W2.heap.size ∧ W1.heap.size ≤ w2.heap.size := ⟨by rw [hW2]; simp, hb2.size⟩
 have K2 : Hid (Duo W2 w2.heap.size (.bool nb2) (.slice so2 m2 cp2) ∧ IsI W2 (.agg #[.bool nb2, .slice so2 m2 cp2]) (volE c (ent c zs) row) V ∧ Below W1.heap.size W1 W2 ∧ Below W0.heap.size W0 W2) := Hid.mk ⟨by rw [hW2]; exact Duo.new w2 _ _ rfl, by rw [hV]; exact hx2.below hb22, hB2, K1.out.2.2.trans (hB2.mono (by omega))⟩
 have HW2 := Hid.mk hW2
 clear hx2 hb2 hb22 hB2 hW2 a0 a1 a2
 obtain ⟨a0, a1, a2⟩ := F.out.2.2.later K2.out.2.2.2
 simp only [Nat.zero_add] at a1 a2
 go_upto_region 5 with fail
 rw [← HW2.out]
 go_wp2_with fail
 refine (volume_any _ r c k zs L _ ((HM.out.below F.out.1).below K2.out.2.2.2) hkr (by omega) hc4 hL).mono ?_
 rintro e w3 ⟨r3, rfl, hx3, hb3⟩
 obtain ⟨nb3, so3, m3, cp3, rfl⟩ := hx3.shape
 obtain ⟨W3, hW3⟩ : ∃ W3, W3 = w3.alloc (.cells #[.bool nb3, .slice so3 m3 cp3] 79) := ⟨_, rfl⟩
 have hb33 : Below w3.heap.size w3 W3 := by rw [hW3]; exact (Below.refl _ _).alloc (Nat.le_refl _) _
 have hB3 : Below W2.heap.size W2 W3 := hb3.trans (hb33.mono hb3.size)
 have hs3 : w3.heap.size < W3.heap.size ∧ W2.heap.size ≤ w3.heap.size := ⟨by rw [hW3]; simp, hb3.size⟩
 have K3 : Hid (Duo W3 w3.heap.size (.bool nb3) (.slice so3 m3 cp3) ∧ IsI W3 (.agg #[.bool nb3, .slice so3 m3 cp3]) (volE c (ent c zs) k) V ∧ Below W2.heap.size W2 W3 ∧ Below W0.heap.size W0 W3) := Hid.mk ⟨by rw [hW3]; exact Duo.new w3 _ _ rfl, by rw [hV]; exact hx3.below hb33, hB3, K2.out.2.2.2.trans (hB3.mono (by omega))⟩
 have HW3 := Hid.mk hW3
 clear hx3 hb3 hb33 hB3 hW3 a0 a1 a2
 obtain ⟨a0, a1, a2⟩ := F.out.2.2.later K3.out.2.2.2
 simp only [Nat.zero_add] at a1 a2
 go_upto_region 6 with fail
 rw [← HW3.out]
 go_wp2_with fail
 refine (lean_any _ r c row k zs L _ ((HM.out.below F.out.1).below K3.out.2.2.2) hrr' hkr' (by omega) hc4 hL).mono ?_
 rintro e w4 ⟨r4, rfl, hx4, hb4⟩
 obtain ⟨nb4, so4, m4, cp4, rfl⟩ := hx4.shape
 obtain ⟨W4, hW4⟩ : ∃ W4, W4 = w4.alloc (.cells #[.bool nb4, .slice so4 m4 cp4] 79) := ⟨_, rfl⟩
 have hb44 : Below w4.heap.size w4 W4 := by rw [hW4]; exact (Below.refl _ _).alloc (Nat.le_refl _) _
 have hB4 : Below W3.heap.size W3 W4 := hb4.trans (hb44.mono hb4.size)
 have hs4 : w4.heap.size < W4.heap.size ∧ W3.heap.size ≤ w4.heap.size := ⟨by rw [hW4]; simp, hb4.size⟩
 have K4 : Hid (Duo W4 w4.heap.size (.bool nb4) (.slice so4 m4 cp4) ∧ IsI W4 (.agg #[.bool nb4, .slice so4 m4 cp4]) (lamE c (ent c zs) row k) V ∧ Below W3.heap.size W3 W4 ∧ Below W0.heap.size W0 W4) := Hid.mk ⟨by rw [hW4]; exact Duo.new w4 _ _ rfl, by rw [hV]; exact hx4.below hb44, hB4, K3.out.2.2.2.trans (hB4.mono (by omega))⟩
 have HW4 := Hid.mk hW4
 clear hx4 hb4 hb44 hB4 hW4 a0 a1 a2
 obtain ⟨a0, a1, -, -⟩ := K4.out.1.cells
 go_upto_region 7 with fail
 rw [← HW4.out]
 go_wp2_with fail
 refine (mul_any _ _ _ _ V V _ K4.out.2.1 K4.out.2.1 (by omega) (by omega)).mono ?_
 rintro e w5 ⟨r5, rfl, hx5, hb5⟩
 obtain ⟨nb5, so5, m5, cp5, rfl⟩ := hx5.shape
 obtain ⟨W5, hW5⟩ : ∃ W5, W5 = w5.alloc (.cells #[.bool nb5, .slice so5 m5 cp5] 79) := ⟨_, rfl⟩
 have hb55 : Below w5.heap.size w5 W5 := by rw [hW5]; exact (Below.refl _ _).alloc (Nat.le_refl _) _
 have hB5 : Below W4.heap.size W4 W5 := hb5.trans (hb55.mono hb5.size)
 have hs5 : w5.heap.size < W5.heap.size ∧ W4.heap.size ≤ w5.heap.size := ⟨by rw [hW5]; simp, hb5.size⟩
 have hB35 : Below W3.heap.size W3 W5 := K4.out.2.2.1.trans (hB5.mono (by omega))
 have hB25 : Below W2.heap.size W2 W5 := K3.out.2.2.1.trans (hB35.mono (by omega))
 have hB15 : Below W1.heap.size W1 W5 := K2.out.2.2.1.trans (hB25.mono (by omega))
 obtain ⟨v2, hv2⟩ : ∃ v2, v2 = volE c (ent c zs) n2 := ⟨_, rfl⟩
 obtain ⟨v1, hv1⟩ : ∃ v1, v1 = volE c (ent c zs) row := ⟨_, rfl⟩
 obtain ⟨v0, hv0⟩ : ∃ v0, v0 = volE c (ent c zs) k := ⟨_, rfl⟩
 obtain ⟨lm, hlm⟩ : ∃ lm, lm = lamE c (ent c zs) row k := ⟨_, rfl⟩
 have K5 : Hid (Duo W5 w1.heap.size (.bool nb1) (.slice so1 m1 cp1) ∧ Duo W5 w2.heap.size (.bool nb2) (.slice so2 m2 cp2) ∧ Duo W5 w3.heap.size (.bool nb3) (.slice so3 m3 cp3) ∧ Duo W5 w5.heap.size (.bool nb5) (.slice so5 m5 cp5) ∧ IsI W5 (.agg #[.bool nb1, .slice so1 m1 cp1]) v2 V ∧ IsI W5 (.agg #[.bool nb2, .slice so2 m2 cp2]) v1 V ∧ IsI W5 (.agg #[.bool nb3, .slice so3 m3 cp3]) v0 V ∧ IsI W5 (.agg #[.bool nb5, .slice so5 m5 cp5]) (lm * lm) (V + V) ∧ Below w.heap.size w W5) :=
  Hid.mk ⟨K1.out.1.below hB15 (by omega), K2.out.1.below hB25 (by omega), K3.out.1.below hB35 (by omega), by rw [hW5]; exact Duo.new w5 _ _ rfl, by rw [hv2]; exact K1.out.2.1.below hB15, by rw [hv1]; exact K2.out.2.1.below hB25, by rw [hv0]; exact K3.out.2.1.below hB35, by rw [hlm]; exact hx5.below hb55, F.out.1.trans ((K4.out.2.2.2.trans (hB5.mono (by omega))).mono (by have := F.out.2.1; omega))⟩
 have hsz : w1.heap.size < W5.heap.size ∧ w2.heap.size < W5.heap.size ∧ w3.heap.size < W5.heap.size := by omega
 have HW5 := Hid.mk hW5
 have HVV := Hid.mk (And.intro hv2 (And.intro hv1 (And.intro hv0 hlm)))
 clear hx5 hb5 hb55 hB5 hW5 a0 a1 hB35 hB25 hB15 hv2 hv1 hv0 hlm K1 K2 K3 K4
 have HC : Hid (∀ w', Below W5.heap.size W5 w' → w'.cell? ⟨w1.heap.size, 0, none⟩ = some (.bool nb1) ∧ w'.cell? ⟨w1.heap.size, 1, none⟩ = some (.slice so1 m1 cp1) ∧ w'.cell? ⟨w3.heap.size, 0, none⟩ = some (.bool nb3) ∧ w'.cell? ⟨w3.heap.size, 1, none⟩ = some (.slice so3 m3 cp3) ∧ w'.cell? ⟨w5.heap.size, 0, none⟩ = some (.bool nb5) ∧ w'.cell? ⟨w5.heap.size, 1, none⟩ = some (.slice so5 m5 cp5)) := Hid.mk fun w' hb => by
  obtain ⟨a0, a1, -, -⟩ := (K5.out.1.below hb hsz.1).cells
  obtain ⟨b0, b1, -, -⟩ := (K5.out.2.2.1.below hb hsz.2.2).cells
  obtain ⟨d0, d1, -, -⟩ := (K5.out.2.2.2.1.below hb hs5.1).cells
  exact ⟨a0, a1, b0, b1, d0, d1⟩
 go_upto_region 8 with fail
 rw [← HW5.out]
 go_cut [10] from 34 to 38 (fun pv wx => PartIn W5 (v2 * v0 + lm * lm) (2 * V + 1) pv wx)
 case first =>
  go_region_held3 (fun w' => w'.cell? ⟨w1.heap.size, 0, none⟩ = some (.bool nb1) ∧ w'.cell? ⟨w1.heap.size, 1, none⟩ = some (.slice so1 m1 cp1) ∧ w'.cell? ⟨w3.heap.size, 0, none⟩ = some (.bool nb3) ∧ w'.cell? ⟨w3.heap.size, 1, none⟩ = some (.slice so3 m3 cp3) ∧ w'.cell? ⟨w5.heap.size, 0, none⟩ = some (.bool nb5) ∧ w'.cell? ⟨w5.heap.size, 1, none⟩ = some (.slice so5 m5 cp5))
   (exact HC.out _ (by first | exact hbW6 | exact hbW6.alloc hbW6.size _ | exact (hbW6.setCell (Nat.le_refl _) _).setCell (Nat.le_refl _) _ | exact (hbW6.setCell hw5s _).setCell hw5s _ | exact hbW5 | exact hbW5.alloc hbW5.size _ | exact (Below.refl _ _).drew | exact ((Below.refl _ _).alloc (Nat.le_refl _) _).drew))
   (first
     | (go_at_call 65; refine (mul_any _ _ v2 v0 V V _ (K5.out.2.2.2.2.1.below ((Below.refl _ _).drew)) (K5.out.2.2.2.2.2.2.1.below ((Below.refl _ _).drew)) (by omega) (by omega)).mono ?_; rintro e9 y5 ⟨x5, rfl, hx5, hb5⟩; obtain ⟨nc5, sc5, n5, cc5, rfl⟩ := hx5.shape; have hbW5 : Below W5.heap.size W5 y5 := ((Below.refl _ _).drew).trans hb5; clear hb5)
     | (go_at_call 65; refine (mul_any _ _ v2 v0 V V _ (K5.out.2.2.2.2.1.below (((Below.refl _ _).alloc (Nat.le_refl _) _).drew)) (K5.out.2.2.2.2.2.2.1.below (((Below.refl _ _).alloc (Nat.le_refl _) _).drew)) (by omega) (by omega)).mono ?_; rintro e9 y5 ⟨x5, rfl, hx5, hb5⟩; obtain ⟨nc5, sc5, n5, cc5, rfl⟩ := hx5.shape; have hbW5 : Below W5.heap.size W5 y5 := (((Below.refl _ _).alloc (Nat.le_refl _) _).drew).trans (hb5.mono (by simp)); have hD5 : Duo y5 W5.heap.size (.bool false) (.slice none 0 0) := Duo.below (Duo.drew (Duo.alloc_new W5)) hb5 (by simp); clear hb5)
     | (go_at_call 67; refine (add_any _ _ (v2 * v0) (lm * lm) (V + V) (V + V) _ hx5 (K5.out.2.2.2.2.2.2.2.1.below hbW5) (by omega) (by omega)).mono ?_; rintro e9 y6 ⟨x6, rfl, hx6, hb6⟩; obtain ⟨nc6, sc6, n6, cc6, rfl⟩ := hx6.shape; replace hx6 := hx6.mono (show max (V + V) (V + V) + 1 ≤ 2 * V + 1 by omega); have hbW6 : Below W5.heap.size W5 y6 := hbW5.trans (hb6.mono hbW5.size); have hD6 : Duo y6 W5.heap.size (.bool false) (.slice none 0 0) := hD5.below hb6 (Array.getElem?_eq_some_iff.1 hD5).1; have hD6c := hD6.cells; clear hb6)
     | (go_at_call 67; refine (add_any _ _ (v2 * v0) (lm * lm) (V + V) (V + V) _ hx5 (K5.out.2.2.2.2.2.2.2.1.below hbW5) (by omega) (by omega)).mono ?_; rintro e9 y6 ⟨x6, rfl, hx6, hb6⟩; obtain ⟨nc6, sc6, n6, cc6, rfl⟩ := hx6.shape; replace hx6 := hx6.mono (show max (V + V) (V + V) + 1 ≤ 2 * V + 1 by omega); have hbW6 : Below W5.heap.size W5 y6 := hbW5.trans (hb6.mono hbW5.size); clear hb6)
     | (go_at_call 67; refine (add_any _ _ (v2 * v0) (lm * lm) (V + V) (V + V) _ (hx5.below ((Below.refl y5.heap.size y5).alloc (Nat.le_refl _) _)) ((K5.out.2.2.2.2.2.2.2.1.below hbW5).below ((Below.refl y5.heap.size y5).alloc (Nat.le_refl _) _)) (by omega) (by omega)).mono ?_; rintro e9 y6 ⟨x6, rfl, hx6, hb6⟩; obtain ⟨nc6, sc6, n6, cc6, rfl⟩ := hx6.shape; replace hx6 := hx6.mono (show max (V + V) (V + V) + 1 ≤ 2 * V + 1 by omega); have hbW6 : Below W5.heap.size W5 y6 := hbW5.trans ((((Below.refl y5.heap.size y5).alloc (Nat.le_refl _) _).trans (hb6.mono (by simp))).mono hbW5.size); have hw5s := hbW5.size; have hD6 : Duo y6 y5.heap.size (.bool false) (.slice none 0 0) := Duo.below (Duo.alloc_new y5) hb6 (by simp); have hD6c := hD6.cells; clear hb6))
  all_goals
   go_wp2_with fail
   go_meet
   case rel =>
    first
     | exact ⟨_, _, _, _, _, rfl, hbW6.size, Duo.new _ _ _ rfl, hx6.below ((Below.refl _ _).alloc (Nat.le_refl _) _), hbW6.alloc hbW6.size _⟩
     | exact ⟨_, _, _, _, _, rfl, Nat.le_refl _, hD6.put _ _, hx6.duo hD6 _ _, (hbW6.setCell (Nat.le_refl _) _).setCell (Nat.le_refl _) _⟩
     | exact ⟨_, _, _, _, _, rfl, hw5s, hD6.put _ _, hx6.duo hD6 _ _, (hbW6.setCell hw5s _).setCell hw5s _⟩
 case rest =>
  rename World => w6
  obtain ⟨pb, nbs, sos, ms, cps, rfl, hpb, hD6, hI6, hb6⟩ := hcut
  obtain ⟨sv, hsv⟩ : ∃ sv, sv = v2 * v0 + lm * lm := ⟨_, rfl⟩
  rw [← hsv] at hI6
  have HSV := Hid.mk hsv
  have hpl : pb < w6.heap.size := (Array.getElem?_eq_some_iff.1 hD6).1
  have K6 : Hid (Duo w6 pb (.bool nbs) (.slice sos ms cps) ∧ IsI w6 (.agg #[.bool nbs, .slice sos ms cps]) sv (2 * V + 1) ∧ Below W5.heap.size W5 w6) := Hid.mk ⟨hD6, hI6, hb6⟩
  have HC2 : Hid (∀ w', Below w6.heap.size w6 w' → w'.cell? ⟨pb, 0, none⟩ = some (.bool nbs) ∧ w'.cell? ⟨pb, 1, none⟩ = some (.slice sos ms cps)) := Hid.mk fun w' hb => by
   obtain ⟨a0, a1, -, -⟩ := (K6.out.1.below hb hpl).cells
   exact ⟨a0, a1⟩
  clear hD6 hI6 hb6 hsv
  go_upto_region 9 with fail
  go_cut [11] from 39 to 41 (fun pv wx => PartIn w6 (sv * 4) (2 * V + 3) pv wx)
  case first =>
   go_region_held3 (fun w' => w'.cell? ⟨pb, 0, none⟩ = some (.bool nbs) ∧ w'.cell? ⟨pb, 1, none⟩ = some (.slice sos ms cps))
    (exact HC2.out _ (by first | exact hbW6 | exact hbW6.alloc hbW6.size _ | exact (hbW6.setCell (Nat.le_refl _) _).setCell (Nat.le_refl _) _ | exact (hbW6.setCell hw5s _).setCell hw5s _ | exact hbW5 | exact hbW5.alloc hbW5.size _ | exact (Below.refl _ _).drew | exact ((Below.refl _ _).alloc (Nat.le_refl _) _).drew))
    (first
      | (go_at_call 62; refine (fromFour_any w6.drew).mono ?_; rintro e9 y5 ⟨x5, rfl, hx5, hb5⟩; obtain ⟨nc5, sc5, n5, cc5, rfl⟩ := hx5.shape; have hbW5 : Below w6.heap.size w6 y5 := ((Below.refl _ _).drew).trans hb5; clear hb5)
      | (go_at_call 62; refine (fromFour_any _).mono ?_; rintro e9 y5 ⟨x5, rfl, hx5, hb5⟩; obtain ⟨nc5, sc5, n5, cc5, rfl⟩ := hx5.shape; have hbW5 : Below w6.heap.size w6 y5 := (((Below.refl _ _).alloc (Nat.le_refl _) _).drew).trans (hb5.mono (by simp)); have hD5 : Duo y5 w6.heap.size (.bool false) (.slice none 0 0) := Duo.below (Duo.drew (Duo.alloc_new w6)) hb5 (by simp); clear hb5)
      | (go_at_call 65; refine (mul_any _ _ sv 4 (2 * V + 1) 2 _ (K6.out.2.1.below hbW5) hx5 (by omega) (by omega)).mono ?_; rintro e9 y6 ⟨x6, rfl, hx6, hb6⟩; obtain ⟨nc6, sc6, n6, cc6, rfl⟩ := hx6.shape; have hbW6 : Below w6.heap.size w6 y6 := hbW5.trans (hb6.mono hbW5.size); have hD6 : Duo y6 w6.heap.size (.bool false) (.slice none 0 0) := hD5.below hb6 (Array.getElem?_eq_some_iff.1 hD5).1; have hD6c := hD6.cells; clear hb6)
      | (go_at_call 65; refine (mul_any _ _ sv 4 (2 * V + 1) 2 _ (K6.out.2.1.below hbW5) hx5 (by omega) (by omega)).mono ?_; rintro e9 y6 ⟨x6, rfl, hx6, hb6⟩; obtain ⟨nc6, sc6, n6, cc6, rfl⟩ := hx6.shape; have hbW6 : Below w6.heap.size w6 y6 := hbW5.trans (hb6.mono hbW5.size); clear hb6)
      | (go_at_call 65; refine (mul_any _ _ sv 4 (2 * V + 1) 2 _ ((K6.out.2.1.below hbW5).below ((Below.refl y5.heap.size y5).alloc (Nat.le_refl _) _)) (hx5.below ((Below.refl y5.heap.size y5).alloc (Nat.le_refl _) _)) (by omega) (by omega)).mono ?_; rintro e9 y6 ⟨x6, rfl, hx6, hb6⟩; obtain ⟨nc6, sc6, n6, cc6, rfl⟩ := hx6.shape; have hbW6 : Below w6.heap.size w6 y6 := hbW5.trans ((((Below.refl y5.heap.size y5).alloc (Nat.le_refl _) _).trans (hb6.mono (by simp))).mono hbW5.size); have hw5s := hbW5.size; have hD6 : Duo y6 y5.heap.size (.bool false) (.slice none 0 0) := Duo.below (Duo.alloc_new y5) hb6 (by simp); have hD6c := hD6.cells; clear hb6))
   all_goals
    go_wp2_with fail
    go_meet
    case rel =>
     first
      | exact ⟨_, _, _, _, _, rfl, hbW6.size, Duo.new _ _ _ rfl, hx6.below ((Below.refl _ _).alloc (Nat.le_refl _) _), hbW6.alloc hbW6.size _⟩
      | exact ⟨_, _, _, _, _, rfl, Nat.le_refl _, hD6.put _ _, hx6.duo hD6 _ _, (hbW6.setCell (Nat.le_refl _) _).setCell (Nat.le_refl _) _⟩
      | exact ⟨_, _, _, _, _, rfl, hw5s, hD6.put _ _, hx6.duo hD6 _ _, (hbW6.setCell hw5s _).setCell hw5s _⟩
  case rest =>
   rename World => w7
   obtain ⟨ph, nbh, soh, mh, cph, rfl, hph, hD7, hI7, hb7⟩ := hcut
   have hphl : ph < w7.heap.size := (Array.getElem?_eq_some_iff.1 hD7).1
   have hb57 : Below W5.heap.size W5 w7 := K6.out.2.2.trans (hb7.mono K6.out.2.2.size)
   obtain ⟨b0, b1, -, -⟩ := (K5.out.2.1.below hb57 hsz.2.1).cells
   have K7 : Hid (Duo w7 ph (.bool nbh) (.slice soh mh cph) ∧ IsI w7 (.agg #[.bool nbh, .slice soh mh cph]) (sv * 4) (2 * V + 3) ∧ Below W5.heap.size W5 w7) := Hid.mk ⟨hD7, hI7, hb57⟩
   clear hD7 hI7 hb7 hb57
   go_wp2_with fail
   refine (mul_any _ _ v1 v1 V V _ (K5.out.2.2.2.2.2.1.below K7.out.2.2) (K5.out.2.2.2.2.2.1.below K7.out.2.2) (by omega) (by omega)).mono ?_
   rintro e w8 ⟨r8, rfl, hx8, hb8⟩
   obtain ⟨nb8, so8, m8, cp8, rfl⟩ := hx8.shape
   have K8 := Hid.mk (And.intro hx8 hb8)
   clear hx8 hb8 b0 b1
   go_wp2_with fail
   refine (fromThree_any _).mono ?_
   rintro e w9 ⟨r9, rfl, hx9, hb9⟩
   obtain ⟨nb9, so9, m9, cp9, rfl⟩ := hx9.shape
   have K9 := Hid.mk (And.intro hx9 (And.intro hb9 (K8.out.2.trans (hb9.mono K8.out.2.size))))
   clear hx9 hb9
   go_wp2_with fail
   refine (mul_any _ _ (v1 * v1) 3 (V + V) 2 _ (K8.out.1.below K9.out.2.1) K9.out.1 (by omega) (by omega)).mono ?_
   rintro e w10 ⟨r10, rfl, hx10, hb10⟩
   obtain ⟨nb10, so10, m10, cp10, rfl⟩ := hx10.shape
   obtain ⟨W10, hW10⟩ : ∃ W10, W10 = w10.alloc (.cells #[.bool nb10, .slice so10 m10 cp10] 79) := ⟨_, rfl⟩
   have hb1010 : Below w10.heap.size w10 W10 := by rw [hW10]; exact (Below.refl _ _).alloc (Nat.le_refl _) _
   have hb710 : Below w7.heap.size w7 W10 := K9.out.2.2.trans ((hb10.trans (hb1010.mono hb10.size)).mono K9.out.2.2.size)
   obtain ⟨a0, a1, -, -⟩ := (K7.out.1.below hb710 hphl).cells
   have hDN : Duo W10 w10.heap.size (.bool nb10) (.slice so10 m10 cp10) := by rw [hW10]; exact Duo.new w10 _ _ rfl
   obtain ⟨c0, c1, -, -⟩ := hDN.cells
   have K10 := Hid.mk (And.intro (hx10.below hb1010) hb710)
   have HW10 := Hid.mk hW10
   clear hx10 hb10 hb1010 hb710 hDN hW10
   go_upto_region 11 with fail
   rw [← HW10.out]
   go_wp2_with fail
   refine (isSmaller_any _ _ (sv * 4) (v1 * v1 * 3) _ _ _ (K7.out.2.1.below K10.out.2) K10.out.1).mono ?_
   rintro e w11 ⟨rfl, hb11⟩
   obtain ⟨y, hy⟩ : ∃ y, y = decide ((sv * 4).natAbs < (v1 * v1 * 3).natAbs) := ⟨_, rfl⟩
   rw [← hy]
   have HY := Hid.mk hy
   have KF := Hid.mk (K5.out.2.2.2.2.2.2.2.2.trans ((K7.out.2.2.trans ((K10.out.2.trans (hb11.mono K10.out.2.size)).mono K7.out.2.2.size)).mono (by have := K5.out.2.2.2.2.2.2.2.2.size; omega)))
   clear hy hb11
   go_wp2_with fail
   go_ret
   refine ⟨!y, rfl, ?_, KF.out⟩
   unfold OrdE
   have h1 := HVV.out
   have h2 := HN.out
   rw [h2.1, h2.2] at h1
   rw [← h1.1, ← h1.2.1, ← h1.2.2.1, ← h1.2.2.2, ← HSV.out, HY.out]
   simp
end Go.Proofs.YtfjbijpagaipnabGreatDoor
