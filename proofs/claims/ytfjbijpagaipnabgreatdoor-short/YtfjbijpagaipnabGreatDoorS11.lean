import Derived.Test.YtfjbijpagaipnabGreatDoorS10
import Derived.Test.YtfjbijpagaipnabGreatDoorRows
import Derived.Test.YtfjbijpagaipnabGreatDoorS01
import Derived.WalkKit
import Derived.WalkSpells
import Derived.WalkLawsBesides
import Derived.Handy
namespace Go.Proofs.YtfjbijpagaipnabGreatDoor
open Go.RowKit
abbrev set6 (V : World) (A B : Nat) (x1 x2 x3 y1 y2 y3 : Value) : World := (((((V.setCell ⟨A, 0, none⟩ x1).setCell ⟨A, 1, none⟩ x2).setCell ⟨A, 2, none⟩ x3).setCell ⟨B, 0, none⟩ y1).setCell ⟨B, 1, none⟩ y2).setCell ⟨B, 2, none⟩ y3
theorem set3_trio {V : World} {A : Nat} {u1 u2 u3 : Value} (h : Trio V A u1 u2 u3) (x1 x2 x3 : Value) : Trio (((V.setCell ⟨A, 0, none⟩ x1).setCell ⟨A, 1, none⟩ x2).setCell ⟨A, 2, none⟩ x3) A x1 x2 x3 := by
 obtain ⟨h0, h1, h2⟩ := h
 have o := fun (i j : Nat) (h : i ≠ j) (W : World) (v : Value) => World.cell?_setCell_other (w := W) (v := v) (a := ⟨A, i, none⟩) (b := ⟨A, j, none⟩) (fun e => h (congrArg Addr.off e))
 refine ⟨?_, ?_, ?_⟩
 ·exact (o 2 0 (by decide) _ _).trans ((o 1 0 (by decide) _ _).trans (World.cell?_setCell_same _ _ _ h0))
 ·exact (o 2 1 (by decide) _ _).trans (World.cell?_setCell_same _ _ _ ((o 0 1 (by decide) _ _).trans h1))
 ·exact World.cell?_setCell_same _ _ _ ((o 1 2 (by decide) _ _).trans ((o 0 2 (by decide) _ _).trans h2))
theorem set3_far {V : World} {A B : Nat} {u1 u2 u3 : Value} (h : Trio V A u1 u2 u3) (hne : B ≠ A) (x1 x2 x3 : Value) : Trio (((V.setCell ⟨B, 0, none⟩ x1).setCell ⟨B, 1, none⟩ x2).setCell ⟨B, 2, none⟩ x3) A u1 u2 u3 := by
 obtain ⟨h0, h1, h2⟩ := h
 have o := fun (i j : Nat) (W : World) (v : Value) => World.cell?_setCell_other (w := W) (v := v) (a := ⟨B, i, none⟩) (b := ⟨A, j, none⟩) (fun e => hne (congrArg Addr.block e))
 exact ⟨(o 2 0 _ _).trans ((o 1 0 _ _).trans ((o 0 0 _ _).trans h0)), (o 2 1 _ _).trans ((o 1 1 _ _).trans ((o 0 1 _ _).trans h1)), (o 2 2 _ _).trans ((o 1 2 _ _).trans ((o 0 2 _ _).trans h2))⟩
theorem set6_trio {V : World} {A B : Nat} {u1 u2 u3 v1 v2 v3 : Value} (hA : Trio V A u1 u2 u3) (hB : Trio V B v1 v2 v3) (hne : A ≠ B) (x1 x2 x3 y1 y2 y3 : Value) :
 Trio (set6 V A B x1 x2 x3 y1 y2 y3) A x1 x2 x3 ∧ Trio (set6 V A B x1 x2 x3 y1 y2 y3) B y1 y2 y3 :=
 ⟨set3_far (set3_trio hA x1 x2 x3) hne.symm y1 y2 y3, set3_trio (set3_far hB hne x1 x2 x3) y1 y2 y3⟩
theorem set6_below {V W : World} {n A B : Nat} (h : Below n W V) (hA : n ≤ A) (hB : n ≤ B) (x1 x2 x3 y1 y2 y3 : Value) : Below n W (set6 V A B x1 x2 x3 y1 y2 y3) :=
 (((((h.setCell hA x1).setCell hA x2).setCell hA x3).setCell hB y1).setCell hB y2).setCell hB y3
theorem set6_KT (V : World) {A B : Nat} {s t : TypeId} (hA : Ty V A s) (hB : Ty V B t) (s1 : s ≠ 144) (s2 : s ≠ 79) (t1 : t ≠ 144) (t2 : t ≠ 79) (x1 x2 x3 y1 y2 y3 : Value) : KT V (set6 V A B x1 x2 x3 y1 y2 y3) := by
 have a1 := hA.setCell ⟨A, 0, none⟩ x1
 have a2 := a1.setCell ⟨A, 1, none⟩ x2
 have b3 := ((hB.setCell ⟨A, 0, none⟩ x1).setCell ⟨A, 1, none⟩ x2).setCell ⟨A, 2, none⟩ x3
 have b4 := b3.setCell ⟨B, 0, none⟩ y1
 have b5 := b4.setCell ⟨B, 1, none⟩ y2
 exact (((((((KT.refl V).setCell hA s1 s2 x1).setCell a1 s1 s2 x2).setCell a2 s1 s2 x3).setCell b3 t1 t2 y1).setCell b4 t1 t2 y2).setCell b5 t1 t2 y3)
open Go.RowKit
def AlikeRel (w : World) (ms : List Hm) (g h : Int) (m n : Value) (e : Int) : Prop :=
 (((∀ i, i < 24 → ∀ x, ms.getD i none = some x → (x.1 : Int) ≠ g) ∨ (∀ i, i < 24 → ∀ x, ms.getD i none = some x → (x.1 : Int) ≠ h)) ∧ e = 2) ∨
 ∃ i hd r q zs j hd' r' c ys, i < 24 ∧ ms.getD i none = some (hd, r, q, zs) ∧ ((hd : Nat) : Int) = g ∧ j < 24 ∧ ms.getD j none = some (hd', r', c, ys) ∧ ((hd' : Nat) : Int) = h ∧
   ((q ≠ c ∧ e = 3) ∨ (q = c ∧ ¬ (FitsP r q zs ∧ FitsP r' c ys) ∧ e = 4) ∨ (q = c ∧ (FitsP r q zs ∧ FitsP r' c ys) ∧ e = 0 ∧ IsM w m r q zs 2 ∧ IsM w n r' q ys 2))
set_option maxRecDepth 100000 in
set_option maxHeartbeats 4000000 in
theorem alike_held (b : Nat) (g h : Int) (ms : List Hm) (nx : Nat) (v0 : World) (hst : Held v0 b ms nx) :
 Calls Tryz.prog 81 #[.pointer (some ⟨b, 0, none⟩), .int .i64 g, .int .i64 h] v0 fun x w' => ∃ (a1 a2 b1 b2 : Int) (o1 o2 : Option Addr) (n1 n2 p1 p2 : Nat) (e : Int), x = .returned (.tuple #[.agg #[.int .i64 a1, .int .i64 a2, .slice o1 n1 p1], .agg #[.int .i64 b1, .int .i64 b2, .slice o2 n2 p2], .int .i64 e]) ∧ AlikeRel w' ms g h (.agg #[.int .i64 a1, .int .i64 a2, .slice o1 n1 p1]) (.agg #[.int .i64 b1, .int .i64 b2, .slice o2 n2 p2]) e ∧ Below v0.heap.size v0 w' := by
 have H0 := Hid.mk hst
 clear hst
 go_enter Tryz.func81, Tryz.ntmps81
 go_wp2_with fail
 obtain ⟨w, hw⟩ : ∃ w, w = (v0.alloc (.cells #[.int .i64 0, .int .i64 0, .slice none 0 0] 66)).alloc (.cells #[.int .i64 0, .int .i64 0, .slice none 0 0] 66) := ⟨_, rfl⟩
 have hs0 : w.heap.size = v0.heap.size + 1 + 1 := by rw [hw]; simp
 have hb0 : Below v0.heap.size v0 w := by rw [hw]; repeat (first | exact Below.refl _ _ | refine Below.alloc ?_ (by simp <;> omega) _)
 have hz1 : w.heap[v0.heap.size]? = some (.cells #[.int .i64 0, .int .i64 0, .slice none 0 0] 66 (0, 0)) := by
  rw [hw, ((Below.refl (v0.alloc (.cells #[.int .i64 0, .int .i64 0, .slice none 0 0] 66)).heap.size _).alloc (Nat.le_refl _) (.cells #[.int .i64 0, .int .i64 0, .slice none 0 0] 66)).block v0.heap.size (by simp)]
  exact heap_alloc_new v0 _
 have hz2 : w.heap[v0.heap.size + 1]? = some (.cells #[.int .i64 0, .int .i64 0, .slice none 0 0] 66 (0, 0)) := by
  rw [hw]
  have := heap_alloc_new (v0.alloc (.cells #[.int .i64 0, .int .i64 0, .slice none 0 0] 66)) (.cells #[.int .i64 0, .int .i64 0, .slice none 0 0] 66)
  simpa using this
 have H := Hid.mk (H0.out.below hb0)
 have HZ := Hid.mk (And.intro hb0 (And.intro hz1 hz2))
 have HBX : Hid (∀ w', Below w.heap.size w w' → (w'.cell? ⟨v0.heap.size, 0, none⟩ = some (.int .i64 0) ∧ w'.cell? ⟨v0.heap.size, 1, none⟩ = some (.int .i64 0) ∧ w'.cell? ⟨v0.heap.size, 2, none⟩ = some (.slice none 0 0) ∧ (∀ o, w'.frozen? ⟨v0.heap.size, o, none⟩ = false) ∧ Ty w' v0.heap.size 66) ∧ (w'.cell? ⟨v0.heap.size + 1, 0, none⟩ = some (.int .i64 0) ∧ w'.cell? ⟨v0.heap.size + 1, 1, none⟩ = some (.int .i64 0) ∧ w'.cell? ⟨v0.heap.size + 1, 2, none⟩ = some (.slice none 0 0) ∧ (∀ o, w'.frozen? ⟨v0.heap.size + 1, o, none⟩ = false) ∧ Ty w' (v0.heap.size + 1) 66) ∧ Below v0.heap.size v0 w') := Hid.mk (fun w' hb => by
  have h1 := (hb.block v0.heap.size (by omega)).trans hz1
  have h2 := (hb.block (v0.heap.size + 1) (by omega)).trans hz2
  refine ⟨⟨?_, ?_, ?_, fun o => ?_, ⟨_, _, h1⟩⟩, ⟨?_, ?_, ?_, fun o => ?_, ⟨_, _, h2⟩⟩, hb0.trans (hb.mono (by omega))⟩ <;> first | (simp [World.cell?, h1]; done) | (simp [World.cell?, h2]; done) | (simp [World.frozen?, h1]; done) | (simp [World.frozen?, h2]; done))
 rw [← hw]
 clear hw hz1 hz2 hb0
 refine (find_held b g ms nx _ H.out).mono ?_
 rintro e w1 ⟨⟨r, q, ao, n, cap, ok, rfl, hf⟩, hb1⟩
 have K1 := Hid.mk (And.intro hf hb1)
 have hw1 := hb1.size
 clear hf hb1
 go_wp2_with fail
 have hbA : Below w.heap.size w (w1.alloc (.cells #[.int .i64 r, .int .i64 q, .slice ao n cap] 66)) := K1.out.2.alloc hw1 _
 refine (find_held b h ms nx _ (H.out.below hbA)).mono ?_
 rintro e w2 ⟨⟨r', c, bo, n', cap', ok', rfl, hf2⟩, hb2⟩
 have hT1 : Trio (w1.alloc (.cells #[.int .i64 r, .int .i64 q, .slice ao n cap] 66)) w1.heap.size (.int .i64 r) (.int .i64 q) (.slice ao n cap) := ⟨new_cell _ _ _ _ _ rfl rfl, new_cell _ _ _ _ _ rfl rfl, new_cell _ _ _ _ _ rfl rfl⟩
 have hb22 := (Below.refl w2.heap.size w2).alloc (Nat.le_refl _) (.cells #[.int .i64 r', .int .i64 c, .slice bo n' cap'] 66)
 have hT2 := (hT1.later hb2).later hb22
 have hT3 : Trio (w2.alloc (.cells #[.int .i64 r', .int .i64 c, .slice bo n' cap'] 66)) w2.heap.size (.int .i64 r') (.int .i64 c) (.slice bo n' cap') := ⟨new_cell _ _ _ _ _ rfl rfl, new_cell _ _ _ _ _ rfl rfl, new_cell _ _ _ _ _ rfl rfl⟩
 have hbB : Below w.heap.size w w2 := hbA.trans (hb2.mono hbA.size)
 have hf1' := ((K1.out.1.below ((Below.refl _ _).alloc (Nat.le_refl _) (.cells #[.int .i64 r, .int .i64 q, .slice ao n cap] 66))).below hb2).below hb22
 have hf2' := hf2.below hb22
 have hbC : Below w.heap.size w (w2.alloc (.cells #[.int .i64 r', .int .i64 c, .slice bo n' cap'] 66)) := hbB.alloc hbB.size _
 have hlt : w1.heap.size < w2.heap.size := by have := hb2.size; simp at this; omega
 have K2 := Hid.mk (And.intro hf1' (And.intro hf2' (And.intro hbC (And.intro hT2 hT3))))
 clear hf2 hb2 hT1 hb22 hT2 hT3 hbB hf1' hf2' hbC hbA
 obtain ⟨X, hX⟩ : ∃ X, X = w2.alloc (.cells #[.int .i64 r', .int .i64 c, .slice bo n' cap'] 66) := ⟨_, rfl⟩
 have HX := Hid.mk hX
 rw [← hX] at K2
 clear hX
 have hsX : X.heap.size = w2.heap.size + 1 := by rw [HX.out]; simp
 rcases id K2.out.1 with ⟨rfl, i, hd, zs, hi, hgi, hgh, hM⟩ | ⟨rfl, hno⟩
 ·rcases id K2.out.2.1 with ⟨rfl, i', hd', ys, hi', hgi', hgh', hM'⟩ | ⟨rfl, hno⟩
  ·have HF := Hid.mk (And.intro (And.intro hi (And.intro hgi (And.intro hgh hM))) (And.intro hi' (And.intro hgi' (And.intro hgh' hM'))))
   have HC := Hid.mk (show ∀ w', Below X.heap.size X w' → w'.cell? ⟨w1.heap.size, 0, none⟩ = some (.int .i64 r) ∧ w'.cell? ⟨w1.heap.size, 1, none⟩ = some (.int .i64 q) ∧ w'.cell? ⟨w1.heap.size, 2, none⟩ = some (.slice ao n cap) ∧ w'.cell? ⟨w2.heap.size, 0, none⟩ = some (.int .i64 r') ∧ w'.cell? ⟨w2.heap.size, 1, none⟩ = some (.int .i64 c) ∧ w'.cell? ⟨w2.heap.size, 2, none⟩ = some (.slice bo n' cap') from
    fun w' hb => ⟨(K2.out.2.2.2.1.later hb).1, (K2.out.2.2.2.1.later hb).2.1, (K2.out.2.2.2.1.later hb).2.2, (K2.out.2.2.2.2.later hb).1, (K2.out.2.2.2.2.later hb).2.1, (K2.out.2.2.2.2.later hb).2.2⟩)
   clear hi hgi hgh hM hi' hgi' hgh' hM'
   obtain ⟨iqr, hiqr⟩ : ∃ iqr, iqr = ((q : Int) == (c : Int)) := ⟨_, rfl⟩
   have HQ := Hid.mk hiqr
   go_upto_region 5 with fail
   rw [← HX.out]
   go_cut [37] from 33 to 37 (fun x wx => x = .bool (!iqr) ∧ Below X.heap.size X wx)
   case first =>
    go_region_held3 (fun w' => w'.cell? ⟨w1.heap.size, 0, none⟩ = some (.int .i64 r) ∧ w'.cell? ⟨w1.heap.size, 1, none⟩ = some (.int .i64 q) ∧ w'.cell? ⟨w1.heap.size, 2, none⟩ = some (.slice ao n cap) ∧ w'.cell? ⟨w2.heap.size, 0, none⟩ = some (.int .i64 r') ∧ w'.cell? ⟨w2.heap.size, 1, none⟩ = some (.int .i64 c) ∧ w'.cell? ⟨w2.heap.size, 2, none⟩ = some (.slice bo n' cap'))
     (exact HC.out _ (by first | exact (Below.refl _ _).drew | exact ((Below.refl _ _).alloc (Nat.le_refl _) _).drew | exact (((Below.refl _ _).alloc (Nat.le_refl _) _).alloc (by simp) _).drew))
     (first
       | (go_at_call 84; refine (cols_raw _ _ _ _ _ _).mono ?_; rintro e w' ⟨rfl, rfl⟩)
       | (go_at_call 85; refine (rows_raw _ _ _ _ _ _).mono ?_; rintro e w' ⟨rfl, rfl⟩))
    all_goals
     go_wp2_with fail
     go_meet
     case rel =>
      exact ⟨by rw [HQ.out]; rfl, (((Below.refl _ _).alloc (Nat.le_refl _) _).alloc (by simp) _).drew⟩
   case rest =>
    obtain ⟨rfl, hbx⟩ := hcut
    have hbw : Below w.heap.size w wc := K2.out.2.2.1.trans (hbx.mono K2.out.2.2.1.size)
    obtain ⟨a0, a1, a2, a3, a4, a5⟩ := HC.out wc hbx
    have K3 := Hid.mk (And.intro hbx hbw)
    have hwc := hbx.size
    clear hbx hbw hiqr
    cases iqr
    ·have HNE : Hid (q ≠ c) := Hid.mk (fun e => by have := HQ.out; rw [e] at this; simp at this)
     obtain ⟨⟨r0, r1, r2, rf, -⟩, ⟨s0, s1, s2, sf, -⟩, hbv⟩ := HBX.out _ K3.out.2
     have HT := Hid.mk (And.intro hbv (set6_trio (And.intro r0 (And.intro r1 r2)) (And.intro s0 (And.intro s1 s2)) (Nat.ne_of_lt (Nat.lt_succ_self _)) (.int .i64 0) (.int .i64 0) (.slice none 0 0) (.int .i64 0) (.int .i64 0) (.slice none 0 0)))
     clear hbv
     go_wp2_with fail
     clear r0 r1 r2 rf s0 s1 s2 sf
     obtain ⟨⟨r0, r1, r2⟩, s0, s1, s2⟩ := id HT.out.2
     have HB := Hid.mk (set6_below HT.out.1 (Nat.le_refl _) (Nat.le_succ _) (.int .i64 0) (.int .i64 0) (.slice none 0 0) (.int .i64 0) (.int .i64 0) (.slice none 0 0))
     clear HT
     unfold set6 at r0 r1 r2 s0 s1 s2 HB
     generalize World.setCell _ _ _ = WW at r0 r1 r2 s0 s1 s2 HB ⊢
     refine bodyPost_ret (v := .tuple #[.agg #[.int .i64 0, .int .i64 0, .slice none 0 0], .agg #[.int .i64 0, .int .i64 0, .slice none 0 0], .int .i64 3]) ?_ rfl ?_
     ·clear HBX HB
      (simp [results, Tryz.results81, go_sem, r0, r1, r2, s0, s1, s2]; done)
     ·exact ⟨0, 0, 0, 0, none, none, 0, 0, 0, 0, 3, rfl, .inr ⟨i, hd, r, q, zs, i', hd', r', c, ys, HF.out.1.1, HF.out.1.2.1, HF.out.1.2.2.1, HF.out.2.1, HF.out.2.2.1, HF.out.2.2.2.1, .inl ⟨HNE.out, rfl⟩⟩, HB.out⟩
    ·have hqr : q = c := by have := HQ.out; have h2 := beq_iff_eq.1 this.symm; omega
     have HQR := Hid.mk hqr
     clear hqr
     go_wp2_with fail
     refine (tooBig_any _ r q zs 200000000 _ (HF.out.1.2.2.2.below K3.out.1) (by omega)).mono ?_
     rintro e w3 ⟨fb, rfl, hfo, hb3⟩
     have hbX3 : Below X.heap.size X w3 := K3.out.1.trans (hb3.mono hwc)
     clear a0 a1 a2 a3 a4 a5
     obtain ⟨a0, a1, a2, a3, a4, a5⟩ := HC.out w3 hbX3
     have hw3 := hbX3.size
     have K4 := Hid.mk (And.intro hbX3 (And.intro (K2.out.2.2.1.trans (hbX3.mono K2.out.2.2.1.size)) hfo))
     clear hb3 hbX3 hfo
     cases fb
     ·have HNF : Hid (¬ FitsP r q zs) := Hid.mk (fun h => by have := K4.out.2.2.2 h; cases this)
      obtain ⟨⟨r0, r1, r2, rf, -⟩, ⟨s0, s1, s2, sf, -⟩, hbv⟩ := HBX.out _ K4.out.2.1
      have HT := Hid.mk (And.intro hbv (set6_trio (And.intro r0 (And.intro r1 r2)) (And.intro s0 (And.intro s1 s2)) (Nat.ne_of_lt (Nat.lt_succ_self _)) (.int .i64 0) (.int .i64 0) (.slice none 0 0) (.int .i64 0) (.int .i64 0) (.slice none 0 0)))
      clear hbv
      go_wp2_with fail
      clear r0 r1 r2 rf s0 s1 s2 sf
      obtain ⟨⟨r0, r1, r2⟩, s0, s1, s2⟩ := id HT.out.2
      have HB := Hid.mk (set6_below HT.out.1 (Nat.le_refl _) (Nat.le_succ _) (.int .i64 0) (.int .i64 0) (.slice none 0 0) (.int .i64 0) (.int .i64 0) (.slice none 0 0))
      clear HT
      unfold set6 at r0 r1 r2 s0 s1 s2 HB
      generalize World.setCell _ _ _ = WW at r0 r1 r2 s0 s1 s2 HB ⊢
      refine bodyPost_ret (v := .tuple #[.agg #[.int .i64 0, .int .i64 0, .slice none 0 0], .agg #[.int .i64 0, .int .i64 0, .slice none 0 0], .int .i64 4]) ?_ rfl ?_
      ·clear HBX HB
       (simp [results, Tryz.results81, go_sem, r0, r1, r2, s0, s1, s2]; done)
      ·exact ⟨0, 0, 0, 0, none, none, 0, 0, 0, 0, 4, rfl, .inr ⟨i, hd, r, q, zs, i', hd', r', c, ys, HF.out.1.1, HF.out.1.2.1, HF.out.1.2.2.1, HF.out.2.1, HF.out.2.2.1, HF.out.2.2.2.1, .inr (.inl ⟨HQR.out, fun h => HNF.out h.1, rfl⟩)⟩, HB.out⟩
     ·go_wp2_with fail
      refine (tooBig_any _ r' c ys 200000000 _ (HF.out.2.2.2.2.below K4.out.1) (by omega)).mono ?_
      rintro e w4 ⟨fb, rfl, hfo, hb4⟩
      have hbX4 : Below X.heap.size X w4 := K4.out.1.trans (hb4.mono hw3)
      clear a0 a1 a2 a3 a4 a5
      obtain ⟨a0, a1, a2, a3, a4, a5⟩ := HC.out w4 hbX4
      have hw4 := hbX4.size
      have K5 := Hid.mk (And.intro hbX4 (And.intro (K2.out.2.2.1.trans (hbX4.mono K2.out.2.2.1.size)) hfo))
      clear hb4 hbX4 hfo
      cases fb
      ·have HNF : Hid (¬ FitsP r' c ys) := Hid.mk (fun h => by have := K5.out.2.2.2 h; cases this)
       obtain ⟨⟨r0, r1, r2, rf, -⟩, ⟨s0, s1, s2, sf, -⟩, hbv⟩ := HBX.out _ K5.out.2.1
       have HT := Hid.mk (And.intro hbv (set6_trio (And.intro r0 (And.intro r1 r2)) (And.intro s0 (And.intro s1 s2)) (Nat.ne_of_lt (Nat.lt_succ_self _)) (.int .i64 0) (.int .i64 0) (.slice none 0 0) (.int .i64 0) (.int .i64 0) (.slice none 0 0)))
       clear hbv
       go_wp2_with fail
       clear r0 r1 r2 rf s0 s1 s2 sf
       obtain ⟨⟨r0, r1, r2⟩, s0, s1, s2⟩ := id HT.out.2
       have HB := Hid.mk (set6_below HT.out.1 (Nat.le_refl _) (Nat.le_succ _) (.int .i64 0) (.int .i64 0) (.slice none 0 0) (.int .i64 0) (.int .i64 0) (.slice none 0 0))
       clear HT
       unfold set6 at r0 r1 r2 s0 s1 s2 HB
       generalize World.setCell _ _ _ = WW at r0 r1 r2 s0 s1 s2 HB ⊢
       refine bodyPost_ret (v := .tuple #[.agg #[.int .i64 0, .int .i64 0, .slice none 0 0], .agg #[.int .i64 0, .int .i64 0, .slice none 0 0], .int .i64 4]) ?_ rfl ?_
       ·clear HBX HB
        (simp [results, Tryz.results81, go_sem, r0, r1, r2, s0, s1, s2]; done)
       ·exact ⟨0, 0, 0, 0, none, none, 0, 0, 0, 0, 4, rfl, .inr ⟨i, hd, r, q, zs, i', hd', r', c, ys, HF.out.1.1, HF.out.1.2.1, HF.out.1.2.2.1, HF.out.2.1, HF.out.2.2.1, HF.out.2.2.2.1, .inr (.inl ⟨HQR.out, fun h => HNF.out h.2, rfl⟩)⟩, HB.out⟩
      ·have HFF : Hid (FitsP r q zs ∧ FitsP r' c ys) := Hid.mk ⟨K4.out.2.2.1 rfl, K5.out.2.2.1 rfl⟩
       obtain ⟨⟨r0, r1, r2, rf, hty⟩, ⟨s0, s1, s2, sf, htz⟩, hbv⟩ := HBX.out _ K5.out.2.1
       have HT := Hid.mk (And.intro hbv (And.intro hty (And.intro htz (set6_trio (And.intro r0 (And.intro r1 r2)) (And.intro s0 (And.intro s1 s2)) (Nat.ne_of_lt (Nat.lt_succ_self _)) (.int .i64 r) (.int .i64 q) (.slice ao n cap) (.int .i64 r') (.int .i64 c) (.slice bo n' cap')))))
       have n1 : v0.heap.size ≠ w1.heap.size := by omega
       have n2 : v0.heap.size ≠ w2.heap.size := by omega
       have n3 : v0.heap.size + 1 ≠ w1.heap.size := by omega
       have n4 : v0.heap.size + 1 ≠ w2.heap.size := by omega
       clear hbv hty htz
       go_wp2_with fail
       go_region_with fail
       all_goals
        go_wp2_with fail
        clear r0 r1 r2 rf s0 s1 s2 sf a0 a1 a2 a3 a4 a5
        obtain ⟨⟨r0, r1, r2⟩, s0, s1, s2⟩ := id HT.out.2.2.2
        have HB := Hid.mk (And.intro (set6_below HT.out.1 (Nat.le_refl _) (Nat.le_succ _) (.int .i64 r) (.int .i64 q) (.slice ao n cap) (.int .i64 r') (.int .i64 c) (.slice bo n' cap')) (set6_KT w4 HT.out.2.1 HT.out.2.2.1 (by decide) (by decide) (by decide) (by decide) (.int .i64 r) (.int .i64 q) (.slice ao n cap) (.int .i64 r') (.int .i64 c) (.slice bo n' cap')))
        clear HT
        unfold set6 at r0 r1 r2 s0 s1 s2 HB
        generalize World.setCell _ _ _ = WW at r0 r1 r2 s0 s1 s2 HB ⊢
        have HD : Hid (Below v0.heap.size v0 WW.drew ∧ KT w4 WW.drew) := Hid.mk (And.intro HB.out.1.drew HB.out.2)
        refine bodyPost_ret (v := .tuple #[.agg #[.int .i64 r, .int .i64 q, .slice ao n cap], .agg #[.int .i64 r', .int .i64 c, .slice bo n' cap'], .int .i64 0]) ?_ rfl ?_
        ·clear HBX HB HD
         (simp [results, Tryz.results81, go_sem, r0, r1, r2, s0, s1, s2]; done)
        ·have hqc : q = c := HQR.out
         refine ⟨r, q, r', c, ao, bo, n, n', cap, cap', 0, rfl, .inr ⟨i, hd, r, q, zs, i', hd', r', c, ys, HF.out.1.1, HF.out.1.2.1, HF.out.1.2.2.1, HF.out.2.1, HF.out.2.2.1, HF.out.2.2.2.1, .inr (.inr ⟨hqc, HFF.out, rfl, ?_, ?_⟩)⟩, HD.out.1⟩
         ·exact ((HF.out.1.2.2.2.below K5.out.1).tight HFF.out.1).keepT HD.out.2
         ·rw [hqc]
          exact ((HF.out.2.2.2.2.below K5.out.1).tight HFF.out.2).keepT HD.out.2
  ·have KN := Hid.mk hno
   clear hno
   obtain ⟨⟨r0, r1, r2, rf, -⟩, ⟨s0, s1, s2, sf, -⟩, hbv⟩ := HBX.out _ K2.out.2.2.1
   have HT := Hid.mk (And.intro hbv (set6_trio (And.intro r0 (And.intro r1 r2)) (And.intro s0 (And.intro s1 s2)) (Nat.ne_of_lt (Nat.lt_succ_self _)) (.int .i64 0) (.int .i64 0) (.slice none 0 0) (.int .i64 0) (.int .i64 0) (.slice none 0 0)))
   clear hbv
   rw [HX.out] at r0 r1 r2 rf s0 s1 s2 sf
   go_wp2_with fail
   clear r0 r1 r2 rf s0 s1 s2 sf
   rw [← HX.out]
   obtain ⟨⟨r0, r1, r2⟩, s0, s1, s2⟩ := id HT.out.2
   have HB := Hid.mk (set6_below HT.out.1 (Nat.le_refl _) (Nat.le_succ _) (.int .i64 0) (.int .i64 0) (.slice none 0 0) (.int .i64 0) (.int .i64 0) (.slice none 0 0))
   clear HT
   unfold set6 at r0 r1 r2 s0 s1 s2 HB
   generalize World.setCell _ _ _ = WW at r0 r1 r2 s0 s1 s2 HB ⊢
   refine bodyPost_ret (v := .tuple #[.agg #[.int .i64 0, .int .i64 0, .slice none 0 0], .agg #[.int .i64 0, .int .i64 0, .slice none 0 0], .int .i64 2]) ?_ rfl ?_
   ·clear HBX HB
    (simp [results, Tryz.results81, go_sem, r0, r1, r2, s0, s1, s2]; done)
   ·exact ⟨0, 0, 0, 0, none, none, 0, 0, 0, 0, 2, rfl, .inl ⟨.inr KN.out, rfl⟩, HB.out⟩
 ·have KN := Hid.mk hno
  clear hno
  obtain ⟨⟨r0, r1, r2, rf, -⟩, ⟨s0, s1, s2, sf, -⟩, hbv⟩ := HBX.out _ K2.out.2.2.1
  have HT := Hid.mk (And.intro hbv (set6_trio (And.intro r0 (And.intro r1 r2)) (And.intro s0 (And.intro s1 s2)) (Nat.ne_of_lt (Nat.lt_succ_self _)) (.int .i64 0) (.int .i64 0) (.slice none 0 0) (.int .i64 0) (.int .i64 0) (.slice none 0 0)))
  clear hbv
  rw [HX.out] at r0 r1 r2 rf s0 s1 s2 sf
  go_wp2_with fail
  clear r0 r1 r2 rf s0 s1 s2 sf
  rw [← HX.out]
  obtain ⟨⟨r0, r1, r2⟩, s0, s1, s2⟩ := id HT.out.2
  have HB := Hid.mk (set6_below HT.out.1 (Nat.le_refl _) (Nat.le_succ _) (.int .i64 0) (.int .i64 0) (.slice none 0 0) (.int .i64 0) (.int .i64 0) (.slice none 0 0))
  clear HT
  unfold set6 at r0 r1 r2 s0 s1 s2 HB
  generalize World.setCell _ _ _ = WW at r0 r1 r2 s0 s1 s2 HB ⊢
  refine bodyPost_ret (v := .tuple #[.agg #[.int .i64 0, .int .i64 0, .slice none 0 0], .agg #[.int .i64 0, .int .i64 0, .slice none 0 0], .int .i64 2]) ?_ rfl ?_
  ·clear HBX HB
   (simp [results, Tryz.results81, go_sem, r0, r1, r2, s0, s1, s2]; done)
  ·exact ⟨0, 0, 0, 0, none, none, 0, 0, 0, 0, 2, rfl, .inl ⟨.inl KN.out, rfl⟩, HB.out⟩
end Go.Proofs.YtfjbijpagaipnabGreatDoor
namespace Go.Proofs.YtfjbijpagaipnabGreatDoor.R
open Go.RowKit
def lcells (xs : List Nat) : List Value := xs.map fun (x : Nat) => Value.int .i64 (x : Int)
def Own (w : World) (v : Value) (xs : List Nat) : Prop := w.ownsRow 0 3 1 v xs.length (lcells xs)
theorem lcells_get (xs : List Nat) (i : Nat) (h : i < xs.length) : (lcells xs)[i]? = some (.int .i64 (xs.getD i 0 : Nat)) := by
 simp [lcells, List.getD, List.getElem?_eq_getElem h]
theorem lcells_set (zs : List Nat) (k c : Nat) : (lcells zs).set k (.int .i64 (c : Nat)) = lcells (zs.set k c) := by simp [lcells, List.map_set]
theorem Own.stored {w : World} {g n cap : Nat} {zs : List Nat} (h : Own w (.slice (some ⟨g, 0, none⟩) n cap) zs) (hn : zs.length = n) (k c : Nat) :
 Own (w.setCell ⟨g, k, none⟩ (.int .i64 (c : Nat))) (.slice (some ⟨g, 0, none⟩) n cap) (zs.set k c) := by
 subst hn
 have := (World.ownsRow.stored (w := w) h k (.int .i64 (c : Nat))).1
 rw [lcells_set] at this
 unfold Own
 rw [List.length_set]
 exact this
theorem Own.stored_int {w : World} {g n cap : Nat} {zs : List Nat} (h : Own w (.slice (some ⟨g, 0, none⟩) n cap) zs) (hn : zs.length = n) (k c : Nat) {z : Int} (hz : z = (c : Int)) :
 Own (w.setCell ⟨g, k, none⟩ (.int .i64 z)) (.slice (some ⟨g, 0, none⟩) n cap) (zs.set k c) := by rw [hz]; exact h.stored hn k c
theorem Own.cell {w : World} {g n cap : Nat} {zs : List Nat} (h : Own w (.slice (some ⟨g, 0, none⟩) n cap) zs) (hn : zs.length = n) (k : Nat) (hk : k < n) :
 w.cell? ⟨g, k, none⟩ = some (.int .i64 (zs.getD k 0 : Nat)) := by
 subst hn
 rw [World.ownsRow.cellAt h k (by omega), lcells_get zs k hk]
theorem Own.frozen {w : World} {g n cap : Nat} {zs : List Nat} (h : Own w (.slice (some ⟨g, 0, none⟩) n cap) zs) (hn : zs.length = n) (k : Nat) : w.frozen? ⟨g, k, none⟩ = false := by
 subst hn
 exact World.ownsRow.frozenAt h k
theorem Own.lt {w : World} {g n cap : Nat} {zs : List Nat} (h : Own w (.slice (some ⟨g, 0, none⟩) n cap) zs) : g < w.heap.size := (World.ownsRow.lt h g rfl).2
theorem Tryz.info3 : (Tryz.prog.info? 3).map (fun i => (i.zero, i.size, i.bytes)) = some (some (.int .i64 0), 1, 8) := by kernel_rfl
theorem make_digits (w : World) {ops : Array Oper} {rest : List Oper} {o : Oper} {a : Act} {Q : Exit → Act → World → Prop}
 (hg : o.guard = none) (l c : Operand) (hop : o.op = Op.makeSlice 51 l c) (L C : Int) (n : Nat) (hl : a.eval l = .int .i64 L) (hc : a.eval c = .int .i64 C) (hL : L = (n : Int)) (hC : C = (n : Int)) (b : n ≤ 1000000000000)
 (hK : ∀ w', Own w' (.slice (some ⟨w.heap.size, 0, none⟩) n n) (List.replicate n 0) → Below w.heap.size w w' → wpList Tryz.prog ops Q rest (a.put o.dst (.slice (some ⟨w.heap.size, 0, none⟩) n n)) w') :
 wpList Tryz.prog ops Q (o :: rest) a w := by
 obtain ⟨i, hi, hz0, hz1, hz2⟩ := info_parts Tryz.info3
 refine wpList_make_full w hg l c 51 hop 0 3 i (.int .i64 0) 1 Tryz.underlying51 hi hz0 hz1 .i64 .i64 L C n hl hc hL hC (by rw [hz2]; omega) (by unfold maxLen; omega) (Nat.zero_le _) ?_
 intro w' hown hgrow
 refine hK w' ?_ ((Below.refl _ _).grown hgrow (Nat.le_refl _) (by simp))
 unfold Own
 rw [List.length_replicate]
 rw [show (Value.int IntKind.i64 0).cells = #[.int .i64 0] from rfl, toList_madeCells_one, Nat.mul_one] at hown
 simpa [lcells] using hown
end Go.Proofs.YtfjbijpagaipnabGreatDoor.R
namespace Go.Proofs.YtfjbijpagaipnabGreatDoor
open Go.RowKit
def ff (ms : List Hm) : Nat := ms.findIdx Option.isNone
def put1 (ms : List Hm) (nx : Nat) (x : Nat × Nat × List Int) : List Hm := ms.set (ff ms) (some (nx, x))
def puts (ms : List Hm) (nx : Nat) : List (Nat × Nat × List Int) → List Hm
 | [] => ms
 | x :: xs => puts (put1 ms nx x) (nx + 1) xs
theorem puts_snoc (x : Nat × Nat × List Int) : ∀ xs ms nx, puts ms nx (xs ++ [x]) = put1 (puts ms nx xs) (nx + xs.length) x := by
 intro xs
 induction xs with
 | nil => intro ms nx; rfl
 | cons y ys ih =>
   intro ms nx
   rw [List.cons_append, puts, ih, puts, List.length_cons, show nx + 1 + ys.length = nx + (ys.length + 1) from by omega]
theorem puts_len : ∀ xs ms nx, (puts ms nx xs).length = ms.length := by
 intro xs
 induction xs with
 | nil => intro ms nx; rfl
 | cons y ys ih => intro ms nx; rw [puts, ih]; simp [put1]
theorem ff_free {ms : List Hm} (hm : ms.length = 24) (hr : 0 < ms.countP Option.isNone) : FreeAt ms (ff ms) := by
 have h1 : ff ms < ms.length := List.findIdx_lt_length_of_exists (List.countP_pos_iff.1 hr)
 have h2 : (ms[ff ms]).isNone = true := List.findIdx_getElem (w := h1)
 refine ⟨by omega, ?_, fun j hj h => ?_⟩
 ·rw [List.getD, List.getElem?_eq_getElem h1]
  simpa using h2
 ·have h3 := List.not_of_lt_findIdx (show j < ms.findIdx Option.isNone from hj)
  rw [List.getD, List.getElem?_eq_getElem (by omega)] at h
  simp at h
  simp [h] at h3
theorem put1_room {ms : List Hm} (hm : ms.length = 24) (hr : 0 < ms.countP Option.isNone) (nx : Nat) (x : Nat × Nat × List Int) : (put1 ms nx x).countP Option.isNone + 1 = ms.countP Option.isNone := by
 have hf := ff_free hm hr
 have h1 : ff ms < ms.length := by have := hf.1; omega
 have h2 : ms[ff ms] = none := by have := hf.2.1; rw [List.getD, List.getElem?_eq_getElem h1] at this; simpa using this
 unfold put1
 rw [List.countP_set h1, h2]
 simp
 omega
theorem puts_room : ∀ xs ms nx, ms.length = 24 → xs.length ≤ ms.countP Option.isNone → (puts ms nx xs).countP Option.isNone + xs.length = ms.countP Option.isNone := by
 intro xs
 induction xs with
 | nil => intro ms nx _ _; rfl
 | cons y ys ih =>
   intro ms nx hm hl
   rw [List.length_cons] at hl
   have h1 := put1_room hm (by omega) nx y
   have h2 := ih (put1 ms nx y) (nx + 1) (by simp [put1, hm]) (by omega)
   rw [puts, List.length_cons]
   omega
def MRow (w : World) (g : Nat) (xs : List (Nat × Nat × List Int)) : Prop := ∀ j, j < xs.length → ∃ ao m cap, w.cell? ⟨g, j * 3, none⟩ = some (.int .i64 ((xs.getD j (0, 0, [])).1 : Nat)) ∧ w.cell? ⟨g, j * 3 + 1, none⟩ = some (.int .i64 ((xs.getD j (0, 0, [])).2.1 : Nat)) ∧ w.cell? ⟨g, j * 3 + 2, none⟩ = some (.slice ao m cap) ∧
 IsM w (.agg #[.int .i64 ((xs.getD j (0, 0, [])).1 : Nat), .int .i64 ((xs.getD j (0, 0, [])).2.1 : Nat), .slice ao m cap]) (xs.getD j (0, 0, [])).1 (xs.getD j (0, 0, [])).2.1 (xs.getD j (0, 0, [])).2.2 200000000
theorem R.Own.of_block {w w' : World} {v : Value} {xs : List Nat} (h : R.Own w v xs) (hb : ∀ g, v.ownBlock = some g → w'.heap[g]? = w.heap[g]?) : R.Own w' v xs := by
 obtain ⟨h1, h2⟩ := h
 refine ⟨h1, ?_⟩
 rcases h2 with h3 | ⟨g, cap, cur, hv, hg, hh, r⟩
 ·exact .inl h3
 ·exact .inr ⟨g, cap, cur, hv, hg, by rw [hb g (by rw [hv]; rfl)]; exact hh, r⟩
theorem R.Own.ty_ {w : World} {g n cap : Nat} {xs : List Nat} (h : R.Own w (.slice (some ⟨g, 0, none⟩) n cap) xs) : Ty w g 3 := by
 obtain ⟨h1, h2⟩ := h
 rcases h2 with ⟨h3, _⟩ | ⟨g', cap', cur, hv, hg, hh, r⟩
 ·simp at h3
 ·simp only [Value.slice.injEq, Option.some.injEq, Addr.mk.injEq] at hv
  obtain ⟨⟨rfl, _⟩, _⟩ := hv
  exact ⟨_, _, hh⟩
theorem cell_block {w w' : World} {g : Nat} (h : w'.heap[g]? = w.heap[g]?) (o : Nat) : w'.cell? ⟨g, o, none⟩ = w.cell? ⟨g, o, none⟩ := by simp only [World.cell?, h]
theorem MRow.fr {w w' : World} {g b : Nat} {xs : List (Nat × Nat × List Int)} (h : MRow w g xs) (hf : Fr b w w') (hg : g < w.heap.size) (hgb : g ≠ b) : MRow w' g xs := by
 intro j hj
 obtain ⟨ao, m, cap, h1, h2, h3, h4⟩ := h j hj
 have hb : w'.heap[g]? = w.heap[g]? := hf.1.block g hg (fun e => hgb (by injection e))
 exact ⟨ao, m, cap, by rw [cell_block hb]; exact h1, by rw [cell_block hb]; exact h2, by rw [cell_block hb]; exact h3, h4.keepT hf.2⟩
def KeptAll (w w' : World) (b nx n : Nat) (ms : List Hm) (xs : List (Nat × Nat × List Int)) (v : Value) : Prop := ∃ hb zs, v = .slice (some ⟨hb, 0, none⟩) n n ∧ w.heap.size ≤ hb ∧ zs.length = n ∧ (∀ j, j < n → zs.getD j 0 = nx + j) ∧ R.Own w' v zs ∧ Held w' b (puts ms nx xs) (nx + n) ∧ Fr b w w'
set_option maxRecDepth 100000 in
set_option maxHeartbeats 4000000 in
theorem keepAll_held (b g n cap : Nat) (xs : List (Nat × Nat × List Int)) (ms : List Hm) (nx : Nat) (w : World) (hst : Held w b ms nx) (hrow : MRow w g xs) (hn : xs.length = n) (hn5 : n ≤ 5) (hg : g < w.heap.size) (hgb : g ≠ b) (hroom : n ≤ ms.countP Option.isNone) (hnx : nx < 1000000 - 5) :
 Calls Tryz.prog 53 #[.pointer (some ⟨b, 0, none⟩), .slice (some ⟨g, 0, none⟩) n cap] w fun e w' => ∃ v, e = .returned v ∧ KeptAll w w' b nx n ms xs v := by
 have H := Hid.mk (And.intro hst (And.intro hrow (And.intro hn (And.intro hgb hroom))))
 have hbl := hst.lt
 clear hst hrow hn hroom
 go_enter Tryz.func53, Tryz.ntmps53
 go_wp2_with (refine R.make_digits _ rfl _ _ rfl _ _ n rfl rfl (by omega) (by omega) (by omega) ?_)
 intro w1 hown hbel
 obtain ⟨hb, hhb⟩ : ∃ hb, hb = w.heap.size := ⟨_, rfl⟩
 rw [← hhb] at hown ⊢
 have K0 := Hid.mk (And.intro hown (And.intro hbel hhb))
 clear hown hbel hhb
 go_wp2_with fail
 go_loopw [6] (fun i wr => ∃ (k : Nat) (zs : List Nat), k ≤ n ∧ i = .int .i64 k ∧ Hid (zs.length = n) ∧ R.Own wr (.slice (some ⟨hb, 0, none⟩) n n) zs ∧ Held wr b (puts ms nx (xs.take k)) (nx + k) ∧ Fr b w wr ∧ MRow wr g xs ∧ Hid (∀ j, j < k → zs.getD j 0 = nx + j)) (fun i _ => n - (intOf i).toNat)
 case atStart => exact ⟨0, _, Nat.zero_le _, rfl, Hid.mk List.length_replicate, K0.out.1, H.out.1.below K0.out.2.1, Fr.of_below K0.out.2.1, H.out.2.1.fr (Fr.of_below K0.out.2.1) hg hgb, Hid.mk (fun j hj => by omega)⟩
 case round =>
  obtain ⟨k, zs, hk, rfl, HZ, hown, hheld, hfr, hrow, HI⟩ := hrel
  have hwr : w.heap.size ≤ wr.heap.size := hfr.1.size
  by_cases hkn : k < n
  ·obtain ⟨ao, m, ecap, c1, c2, c3, hM⟩ := hrow k (by rw [H.out.2.2.1]; exact hkn)
   have hob := hown.lt
   obtain ⟨x, hx⟩ : ∃ x, x = xs.getD k (0, 0, []) := ⟨_, rfl⟩
   rw [← hx] at c1 c2 hM
   have htl : (xs.take k).length = k := by have := H.out.2.2.1; simp; omega
   have hfree := ff_free (ms := puts ms nx (xs.take k)) (by rw [puts_len]; exact H.out.1.1) (by
    have h1 := puts_room (xs.take k) ms nx H.out.1.1 (by have := H.out.2.2.2.2; omega)
    have := H.out.2.2.2.2
    omega)
   clear htl
   obtain ⟨xr, xc, xz⟩ := x
   have K := Hid.mk (And.intro hown (And.intro hheld (And.intro hfr (And.intro hrow (And.intro hM (And.intro hfree hx))))))
   have hki : (k : Int) < (n : Int) := by omega
   clear hown hheld hfr hrow hM hfree hx
   go_wp2_with fail
   refine (keep_held b xr xc ao m ecap xz _ _ _ _ K.out.2.1 K.out.2.2.2.2.1 K.out.2.2.2.2.2.1 (by omega)).mono ?_
   rintro e w2 ⟨rfl, hH2, hF2⟩
   have hne : hb ≠ b := by rw [K0.out.2.2]; omega
   have hown2 : R.Own w2 (.slice (some ⟨hb, 0, none⟩) n n) zs := K.out.1.of_block (fun g' hg' => by
    simp [Value.ownBlock] at hg'
    subst hg'
    exact hF2.1.block hb hob (fun e => hne (by injection e)))
   have d1 := hown2.frozen HZ.out k
   have d2 := hown2.cell HZ.out k hkn
   have K2 := Hid.mk (And.intro hown2 (And.intro hH2 (K.out.2.2.1.trans hF2)))
   clear hown2 hH2 hF2 c1 c2 c3
   go_wp2_with fail
   go_roundw
   case measure => simp [intOf]; omega
   case rel =>
    obtain ⟨e1, e2, e3⟩ := K2.out
    have hgl : g < w2.heap.size := by have := e3.1.size; omega
    have hty : Ty w2 hb 3 := R.Own.ty_ e1
    have hfn : Fr hb w2 (w2.setCell ⟨hb, k, none⟩ (.int .i64 ((nx + k : Nat) : Int))) := (Fr.refl hb w2).setOwn hty (by decide) (by decide) _
    have hgh : g ≠ hb := by rw [K0.out.2.2]; omega
    refine ⟨k + 1, zs.set k (nx + k), by omega, by go_num, Hid.mk (by simp [HZ.out]), e1.stored_int HZ.out k _ (by omega), ?_, e3.setNew (by rw [K0.out.2.2]; exact Nat.le_refl _) _, (H.out.2.1.fr e3 hg hgb).fr hfn hgl hgh, Hid.mk (fun j hj => ?_)⟩
    ·have h1 : puts ms nx (xs.take (k + 1)) = put1 (puts ms nx (xs.take k)) (nx + k) (xr, xc, xz) := by
      have h2 : xs.take (k + 1) = xs.take k ++ [(xr, xc, xz)] := by
       rw [K.out.2.2.2.2.2.2, List.take_add_one, List.getD, List.getElem?_eq_getElem (by have := H.out.2.2.1; omega)]; rfl
      rw [h2, puts_snoc, show (xs.take k).length = k from by have := H.out.2.2.1; simp; omega]
     rw [h1]
     exact e2.fr hfn hne.symm
    ·by_cases hjk : j = k
     ·subst hjk; simp [List.getD, show j < zs.length by rw [HZ.out]; exact hkn]
     ·rw [List.getD, List.getElem?_set_ne (fun e => hjk e.symm)]; exact HI.out j (by omega)
  ·have hkn' : k = n := by omega
   subst hkn'
   have hki : ¬ (k : Int) < (k : Int) := by omega
   have K := Hid.mk (And.intro hown (And.intro hheld hfr))
   clear hown hheld hfr hrow
   go_wp2_with fail
   go_ret
   refine ⟨_, rfl, hb, zs, rfl, by rw [K0.out.2.2]; exact Nat.le_refl _, HZ.out, HI.out, K.out.1, ?_, K.out.2.2⟩
   have := K.out.2.1
   rw [List.take_of_length_le (by have := H.out.2.2.1; omega)] at this
   exact this
end Go.Proofs.YtfjbijpagaipnabGreatDoor
