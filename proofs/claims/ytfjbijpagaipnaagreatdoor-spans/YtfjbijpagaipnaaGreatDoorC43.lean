import Derived.Test.YtfjbijpagaipnaaGreatDoorC39
import Derived.Test.YtfjbijpagaipnaaGreatDoorC40
import Derived.Test.YtfjbijpagaipnaaGreatDoorC35
namespace Go.Proofs.YtfjbijpagaipnaaGreatDoor
open Go.RowKit
def AlikeRel (w : World) (ms : List Hm) (g h : Int) (m n : Value) (e : Int) : Prop :=
 (((∀ i, i < 24 → ∀ x, ms.getD i none = some x → (x.1 : Int) ≠ g) ∨ (∀ i, i < 24 → ∀ x, ms.getD i none = some x → (x.1 : Int) ≠ h)) ∧ e = 2) ∨
 ∃ i hd r q zs j hd' r' c ys, i < 24 ∧ ms.getD i none = some (hd, r, q, zs) ∧ ((hd : Nat) : Int) = g ∧ j < 24 ∧ ms.getD j none = some (hd', r', c, ys) ∧ ((hd' : Nat) : Int) = h ∧
   ((q ≠ c ∧ e = 3) ∨ (q = c ∧ ¬ (FitsP r q zs ∧ FitsP r' c ys) ∧ e = 4) ∨ (q = c ∧ (FitsP r q zs ∧ FitsP r' c ys) ∧ e = 0 ∧ IsM w m r q zs 2 ∧ IsM w n r' q ys 2))
set_option maxRecDepth 100000 in
set_option maxHeartbeats 4000000 in
theorem alike_held (b : Nat) (g h : Int) (ms : List Hm) (nx : Nat) (v0 : World) (hst : Held v0 b ms nx) :
 Calls Tryz.prog 51 #[.pointer (some ⟨b, 0, none⟩), .int .i64 g, .int .i64 h] v0 fun x w' => ∃ (a1 a2 b1 b2 : Int) (o1 o2 : Option Addr) (n1 n2 p1 p2 : Nat) (e : Int), x = .returned (.tuple #[.agg #[.int .i64 a1, .int .i64 a2, .slice o1 n1 p1], .agg #[.int .i64 b1, .int .i64 b2, .slice o2 n2 p2], .int .i64 e]) ∧ AlikeRel w' ms g h (.agg #[.int .i64 a1, .int .i64 a2, .slice o1 n1 p1]) (.agg #[.int .i64 b1, .int .i64 b2, .slice o2 n2 p2]) e ∧ Below v0.heap.size v0 w' := by
 have H0 := Hid.mk hst
 clear hst
 go_enter Tryz.func51, Tryz.ntmps51
 go_wp2_with fail
 obtain ⟨w, hw⟩ : ∃ w, w = (v0.alloc (.cells #[.int .i64 0, .int .i64 0, .slice none 0 0] 76)).alloc (.cells #[.int .i64 0, .int .i64 0, .slice none 0 0] 76) := ⟨_, rfl⟩
 have hs0 : w.heap.size = v0.heap.size + 1 + 1 := by rw [hw]; simp
 have hb0 : Below v0.heap.size v0 w := by rw [hw]; repeat (first | exact Below.refl _ _ | refine Below.alloc ?_ (by simp <;> omega) _)
 have hz1 : w.heap[v0.heap.size]? = some (.cells #[.int .i64 0, .int .i64 0, .slice none 0 0] 76 (0, 0)) := by
  rw [hw, ((Below.refl (v0.alloc (.cells #[.int .i64 0, .int .i64 0, .slice none 0 0] 76)).heap.size _).alloc (Nat.le_refl _) (.cells #[.int .i64 0, .int .i64 0, .slice none 0 0] 76)).block v0.heap.size (by simp)]
  exact heap_alloc_new v0 _
 have hz2 : w.heap[v0.heap.size + 1]? = some (.cells #[.int .i64 0, .int .i64 0, .slice none 0 0] 76 (0, 0)) := by
  rw [hw]
  have := heap_alloc_new (v0.alloc (.cells #[.int .i64 0, .int .i64 0, .slice none 0 0] 76)) (.cells #[.int .i64 0, .int .i64 0, .slice none 0 0] 76)
  simpa using this
 have H := Hid.mk (H0.out.below hb0)
 have HZ := Hid.mk (And.intro hb0 (And.intro hz1 hz2))
 have HBX : Hid (∀ w', Below w.heap.size w w' → (w'.cell? ⟨v0.heap.size, 0, none⟩ = some (.int .i64 0) ∧ w'.cell? ⟨v0.heap.size, 1, none⟩ = some (.int .i64 0) ∧ w'.cell? ⟨v0.heap.size, 2, none⟩ = some (.slice none 0 0) ∧ (∀ o, w'.frozen? ⟨v0.heap.size, o, none⟩ = false) ∧ Ty w' v0.heap.size 76) ∧ (w'.cell? ⟨v0.heap.size + 1, 0, none⟩ = some (.int .i64 0) ∧ w'.cell? ⟨v0.heap.size + 1, 1, none⟩ = some (.int .i64 0) ∧ w'.cell? ⟨v0.heap.size + 1, 2, none⟩ = some (.slice none 0 0) ∧ (∀ o, w'.frozen? ⟨v0.heap.size + 1, o, none⟩ = false) ∧ Ty w' (v0.heap.size + 1) 76) ∧ Below v0.heap.size v0 w') := Hid.mk (fun w' hb => by
  have h1 := (hb.block v0.heap.size (by omega)).trans hz1
  have h2 := (hb.block (v0.heap.size + 1) (by omega)).trans hz2
  refine ⟨⟨?_, ?_, ?_, fun o => ?_, ⟨_, _, h1⟩⟩, ⟨?_, ?_, ?_, fun o => ?_, ⟨_, _, h2⟩⟩, hb0.trans (hb.mono (by omega))⟩ <;> first | (simp [World.cell?, h1]; done) | (simp [World.cell?, h2]; done) | (simp [World.frozen?, h1]; done) | (simp [World.frozen?, h2]; done))
 rw [← hw]
 clear hw hz1 hz2 hb0
 refine (find_held b g ms nx _ H.out).mono ?_
 rintro e w1 ⟨⟨r, q, ao, n, cap, ok, rfl, hf⟩, hb1⟩
 have K1 := Hid.mk (And.intro hf hb1)
 have hw1 := hb1.size
 clear hf hb1
 go_wp2_with fail
 have hbA : Below w.heap.size w (w1.alloc (.cells #[.int .i64 r, .int .i64 q, .slice ao n cap] 76)) := K1.out.2.alloc hw1 _
 refine (find_held b h ms nx _ (H.out.below hbA)).mono ?_
 rintro e w2 ⟨⟨r', c, bo, n', cap', ok', rfl, hf2⟩, hb2⟩
 have hT1 : Trio (w1.alloc (.cells #[.int .i64 r, .int .i64 q, .slice ao n cap] 76)) w1.heap.size (.int .i64 r) (.int .i64 q) (.slice ao n cap) := ⟨new_cell _ _ _ _ _ rfl rfl, new_cell _ _ _ _ _ rfl rfl, new_cell _ _ _ _ _ rfl rfl⟩
 have hb22 := (Below.refl w2.heap.size w2).alloc (Nat.le_refl _) (.cells #[.int .i64 r', .int .i64 c, .slice bo n' cap'] 76)
 have hT2 := (hT1.later hb2).later hb22
 have hT3 : Trio (w2.alloc (.cells #[.int .i64 r', .int .i64 c, .slice bo n' cap'] 76)) w2.heap.size (.int .i64 r') (.int .i64 c) (.slice bo n' cap') := ⟨new_cell _ _ _ _ _ rfl rfl, new_cell _ _ _ _ _ rfl rfl, new_cell _ _ _ _ _ rfl rfl⟩
 have hbB : Below w.heap.size w w2 := hbA.trans (hb2.mono hbA.size)
 have hf1' := ((K1.out.1.below ((Below.refl _ _).alloc (Nat.le_refl _) (.cells #[.int .i64 r, .int .i64 q, .slice ao n cap] 76))).below hb2).below hb22
 have hf2' := hf2.below hb22
 have hbC : Below w.heap.size w (w2.alloc (.cells #[.int .i64 r', .int .i64 c, .slice bo n' cap'] 76)) := hbB.alloc hbB.size _
 have hlt : w1.heap.size < w2.heap.size := by have := hb2.size; simp at this; omega
 have K2 := Hid.mk (And.intro hf1' (And.intro hf2' (And.intro hbC (And.intro hT2 hT3))))
 clear hf2 hb2 hT1 hb22 hT2 hT3 hbB hf1' hf2' hbC hbA
 obtain ⟨X, hX⟩ : ∃ X, X = w2.alloc (.cells #[.int .i64 r', .int .i64 c, .slice bo n' cap'] 76) := ⟨_, rfl⟩
 have HX := Hid.mk hX
 rw [← hX] at K2
 clear hX
 have hsX : X.heap.size = w2.heap.size + 1 := by rw [HX.out]; simp
 rcases id K2.out.1 with ⟨rfl, i, hd, zs, hi, hgi, hgh, hM⟩ | ⟨rfl, hno⟩
 ·rcases id K2.out.2.1 with ⟨rfl, i', hd', ys, hi', hgi', hgh', hM'⟩ | ⟨rfl, hno⟩
  ·have HF := Hid.mk (And.intro (And.intro hi (And.intro hgi (And.intro hgh hM))) (And.intro hi' (And.intro hgi' (And.intro hgh' hM'))))
   have HC := Hid.mk (show ∀ w', Below X.heap.size X w' → w'.cell? ⟨w1.heap.size, 0, none⟩ = some (.int .i64 r) ∧ w'.cell? ⟨w1.heap.size, 1, none⟩ = some (.int .i64 q) ∧ w'.cell? ⟨w1.heap.size, 2, none⟩ = some (.slice ao n cap) ∧ w'.cell? ⟨w2.heap.size, 0, none⟩ = some (.int .i64 r') ∧ w'.cell? ⟨w2.heap.size, 1, none⟩ = some (.int .i64 c) ∧ w'.cell? ⟨w2.heap.size, 2, none⟩ = some (.slice bo n' cap') from
    fun w' hb => ⟨(K2.out.2.2.2.1.later hb).1, (K2.out.2.2.2.1.later hb).2.1, (K2.out.2.2.2.1.later hb).2.2, (K2.out.2.2.2.2.later hb).1, (K2.out.2.2.2.2.later hb).2.1, (K2.out.2.2.2.2.later hb).2.2⟩)
   clear hi hgi hgh hM hi' hgi' hgh' hM'
   obtain ⟨iqr, hiqr⟩ : ∃ iqr, iqr = ((q : Int) == (c : Int)) := ⟨_, rfl⟩
   have HQ := Hid.mk hiqr
   go_upto_region 5 with fail
   rw [← HX.out]
   go_cut [37] from 33 to 37 (fun x wx => x = .bool (!iqr) ∧ Below X.heap.size X wx)
   case first =>
    go_region_held3 (fun w' => w'.cell? ⟨w1.heap.size, 0, none⟩ = some (.int .i64 r) ∧ w'.cell? ⟨w1.heap.size, 1, none⟩ = some (.int .i64 q) ∧ w'.cell? ⟨w1.heap.size, 2, none⟩ = some (.slice ao n cap) ∧ w'.cell? ⟨w2.heap.size, 0, none⟩ = some (.int .i64 r') ∧ w'.cell? ⟨w2.heap.size, 1, none⟩ = some (.int .i64 c) ∧ w'.cell? ⟨w2.heap.size, 2, none⟩ = some (.slice bo n' cap'))
     (exact HC.out _ (by first | exact (Below.refl _ _).drew | exact ((Below.refl _ _).alloc (Nat.le_refl _) _).drew | exact (((Below.refl _ _).alloc (Nat.le_refl _) _).alloc (by simp) _).drew))
     (first
       | (go_at_call 43; refine (cols_raw _ _ _ _ _ _).mono ?_; rintro e w' ⟨rfl, rfl⟩)
       | (go_at_call 42; refine (rows_raw _ _ _ _ _ _).mono ?_; rintro e w' ⟨rfl, rfl⟩))
    all_goals
     go_wp2_with fail
     go_meet
     case rel =>
      exact ⟨by rw [HQ.out]; rfl, (((Below.refl _ _).alloc (Nat.le_refl _) _).alloc (by simp) _).drew⟩
   case rest =>
    obtain ⟨rfl, hbx⟩ := hcut
    have hbw : Below w.heap.size w wc := K2.out.2.2.1.trans (hbx.mono K2.out.2.2.1.size)
    obtain ⟨a0, a1, a2, a3, a4, a5⟩ := HC.out wc hbx
    have K3 := Hid.mk (And.intro hbx hbw)
    have hwc := hbx.size
    clear hbx hbw hiqr
    cases iqr
    ·have HNE : Hid (q ≠ c) := Hid.mk (fun e => by have := HQ.out; rw [e] at this; simp at this)
     obtain ⟨⟨r0, r1, r2, rf, -⟩, ⟨s0, s1, s2, sf, -⟩, hbv⟩ := HBX.out _ K3.out.2
     have HT := Hid.mk (And.intro hbv (set6_trio (And.intro r0 (And.intro r1 r2)) (And.intro s0 (And.intro s1 s2)) (Nat.ne_of_lt (Nat.lt_succ_self _)) (.int .i64 0) (.int .i64 0) (.slice none 0 0) (.int .i64 0) (.int .i64 0) (.slice none 0 0)))
     clear hbv
     go_wp2_with fail
     clear r0 r1 r2 rf s0 s1 s2 sf
     obtain ⟨⟨r0, r1, r2⟩, s0, s1, s2⟩ := id HT.out.2
     have HB := Hid.mk (set6_below HT.out.1 (Nat.le_refl _) (Nat.le_succ _) (.int .i64 0) (.int .i64 0) (.slice none 0 0) (.int .i64 0) (.int .i64 0) (.slice none 0 0))
     clear HT
     unfold set6 at r0 r1 r2 s0 s1 s2 HB
     generalize World.setCell _ _ _ = WW at r0 r1 r2 s0 s1 s2 HB ⊢
     refine bodyPost_ret (v := .tuple #[.agg #[.int .i64 0, .int .i64 0, .slice none 0 0], .agg #[.int .i64 0, .int .i64 0, .slice none 0 0], .int .i64 3]) ?_ rfl ?_
     ·clear HBX HB
      (simp [results, Tryz.results51, go_sem, r0, r1, r2, s0, s1, s2]; done)
     ·exact ⟨0, 0, 0, 0, none, none, 0, 0, 0, 0, 3, rfl, .inr ⟨i, hd, r, q, zs, i', hd', r', c, ys, HF.out.1.1, HF.out.1.2.1, HF.out.1.2.2.1, HF.out.2.1, HF.out.2.2.1, HF.out.2.2.2.1, .inl ⟨HNE.out, rfl⟩⟩, HB.out⟩
    ·have hqr : q = c := by have := HQ.out; have h2 := beq_iff_eq.1 this.symm; omega
     have HQR := Hid.mk hqr
     clear hqr
     go_wp2_with fail
     refine (tooBig_any _ r q zs 200000000 _ (HF.out.1.2.2.2.below K3.out.1) (by omega)).mono ?_
     rintro e w3 ⟨fb, rfl, hfo, hb3⟩
     have hbX3 : Below X.heap.size X w3 := K3.out.1.trans (hb3.mono hwc)
     clear a0 a1 a2 a3 a4 a5
     obtain ⟨a0, a1, a2, a3, a4, a5⟩ := HC.out w3 hbX3
     have hw3 := hbX3.size
     have K4 := Hid.mk (And.intro hbX3 (And.intro (K2.out.2.2.1.trans (hbX3.mono K2.out.2.2.1.size)) hfo))
     clear hb3 hbX3 hfo
     cases fb
     ·have HNF : Hid (¬ FitsP r q zs) := Hid.mk (fun h => by have := K4.out.2.2.2 h; cases this)
      obtain ⟨⟨r0, r1, r2, rf, -⟩, ⟨s0, s1, s2, sf, -⟩, hbv⟩ := HBX.out _ K4.out.2.1
      have HT := Hid.mk (And.intro hbv (set6_trio (And.intro r0 (And.intro r1 r2)) (And.intro s0 (And.intro s1 s2)) (Nat.ne_of_lt (Nat.lt_succ_self _)) (.int .i64 0) (.int .i64 0) (.slice none 0 0) (.int .i64 0) (.int .i64 0) (.slice none 0 0)))
      clear hbv
      go_wp2_with fail
      clear r0 r1 r2 rf s0 s1 s2 sf
      obtain ⟨⟨r0, r1, r2⟩, s0, s1, s2⟩ := id HT.out.2
      have HB := Hid.mk (set6_below HT.out.1 (Nat.le_refl _) (Nat.le_succ _) (.int .i64 0) (.int .i64 0) (.slice none 0 0) (.int .i64 0) (.int .i64 0) (.slice none 0 0))
      clear HT
      unfold set6 at r0 r1 r2 s0 s1 s2 HB
      generalize World.setCell _ _ _ = WW at r0 r1 r2 s0 s1 s2 HB ⊢
      refine bodyPost_ret (v := .tuple #[.agg #[.int .i64 0, .int .i64 0, .slice none 0 0], .agg #[.int .i64 0, .int .i64 0, .slice none 0 0], .int .i64 4]) ?_ rfl ?_
      ·clear HBX HB
       (simp [results, Tryz.results51, go_sem, r0, r1, r2, s0, s1, s2]; done)
      ·exact ⟨0, 0, 0, 0, none, none, 0, 0, 0, 0, 4, rfl, .inr ⟨i, hd, r, q, zs, i', hd', r', c, ys, HF.out.1.1, HF.out.1.2.1, HF.out.1.2.2.1, HF.out.2.1, HF.out.2.2.1, HF.out.2.2.2.1, .inr (.inl ⟨HQR.out, fun h => HNF.out h.1, rfl⟩)⟩, HB.out⟩
     ·go_wp2_with fail
      refine (tooBig_any _ r' c ys 200000000 _ (HF.out.2.2.2.2.below K4.out.1) (by omega)).mono ?_
      rintro e w4 ⟨fb, rfl, hfo, hb4⟩
      have hbX4 : Below X.heap.size X w4 := K4.out.1.trans (hb4.mono hw3)
      clear a0 a1 a2 a3 a4 a5
      obtain ⟨a0, a1, a2, a3, a4, a5⟩ := HC.out w4 hbX4
      have hw4 := hbX4.size
      have K5 := Hid.mk (And.intro hbX4 (And.intro (K2.out.2.2.1.trans (hbX4.mono K2.out.2.2.1.size)) hfo))
      clear hb4 hbX4 hfo
      cases fb
      ·have HNF : Hid (¬ FitsP r' c ys) := Hid.mk (fun h => by have := K5.out.2.2.2 h; cases this)
       obtain ⟨⟨r0, r1, r2, rf, -⟩, ⟨s0, s1, s2, sf, -⟩, hbv⟩ := HBX.out _ K5.out.2.1
       have HT := Hid.mk (And.intro hbv (set6_trio (And.intro r0 (And.intro r1 r2)) (And.intro s0 (And.intro s1 s2)) (Nat.ne_of_lt (Nat.lt_succ_self _)) (.int .i64 0) (.int .i64 0) (.slice none 0 0) (.int .i64 0) (.int .i64 0) (.slice none 0 0)))
       clear hbv
       go_wp2_with fail
       clear r0 r1 r2 rf s0 s1 s2 sf
       obtain ⟨⟨r0, r1, r2⟩, s0, s1, s2⟩ := id HT.out.2
       have HB := Hid.mk (set6_below HT.out.1 (Nat.le_refl _) (Nat.le_succ _) (.int .i64 0) (.int .i64 0) (.slice none 0 0) (.int .i64 0) (.int .i64 0) (.slice none 0 0))
       clear HT
       unfold set6 at r0 r1 r2 s0 s1 s2 HB
       generalize World.setCell _ _ _ = WW at r0 r1 r2 s0 s1 s2 HB ⊢
       refine bodyPost_ret (v := .tuple #[.agg #[.int .i64 0, .int .i64 0, .slice none 0 0], .agg #[.int .i64 0, .int .i64 0, .slice none 0 0], .int .i64 4]) ?_ rfl ?_
       ·clear HBX HB
        (simp [results, Tryz.results51, go_sem, r0, r1, r2, s0, s1, s2]; done)
       ·exact ⟨0, 0, 0, 0, none, none, 0, 0, 0, 0, 4, rfl, .inr ⟨i, hd, r, q, zs, i', hd', r', c, ys, HF.out.1.1, HF.out.1.2.1, HF.out.1.2.2.1, HF.out.2.1, HF.out.2.2.1, HF.out.2.2.2.1, .inr (.inl ⟨HQR.out, fun h => HNF.out h.2, rfl⟩)⟩, HB.out⟩
      ·have HFF : Hid (FitsP r q zs ∧ FitsP r' c ys) := Hid.mk ⟨K4.out.2.2.1 rfl, K5.out.2.2.1 rfl⟩
       obtain ⟨⟨r0, r1, r2, rf, hty⟩, ⟨s0, s1, s2, sf, htz⟩, hbv⟩ := HBX.out _ K5.out.2.1
       have HT := Hid.mk (And.intro hbv (And.intro hty (And.intro htz (set6_trio (And.intro r0 (And.intro r1 r2)) (And.intro s0 (And.intro s1 s2)) (Nat.ne_of_lt (Nat.lt_succ_self _)) (.int .i64 r) (.int .i64 q) (.slice ao n cap) (.int .i64 r') (.int .i64 c) (.slice bo n' cap')))))
       have n1 : v0.heap.size ≠ w1.heap.size := by omega
       have n2 : v0.heap.size ≠ w2.heap.size := by omega
       have n3 : v0.heap.size + 1 ≠ w1.heap.size := by omega
       have n4 : v0.heap.size + 1 ≠ w2.heap.size := by omega
       clear hbv hty htz
       go_wp2_with fail
       go_region_with fail
       all_goals
        go_wp2_with fail
        clear r0 r1 r2 rf s0 s1 s2 sf a0 a1 a2 a3 a4 a5
        obtain ⟨⟨r0, r1, r2⟩, s0, s1, s2⟩ := id HT.out.2.2.2
        have HB := Hid.mk (And.intro (set6_below HT.out.1 (Nat.le_refl _) (Nat.le_succ _) (.int .i64 r) (.int .i64 q) (.slice ao n cap) (.int .i64 r') (.int .i64 c) (.slice bo n' cap')) (set6_KT w4 HT.out.2.1 HT.out.2.2.1 (by decide) (by decide) (by decide) (by decide) (.int .i64 r) (.int .i64 q) (.slice ao n cap) (.int .i64 r') (.int .i64 c) (.slice bo n' cap')))
        clear HT
        unfold set6 at r0 r1 r2 s0 s1 s2 HB
        generalize World.setCell _ _ _ = WW at r0 r1 r2 s0 s1 s2 HB ⊢
        have HD : Hid (Below v0.heap.size v0 WW.drew ∧ KT w4 WW.drew) := Hid.mk (And.intro HB.out.1.drew HB.out.2)
        refine bodyPost_ret (v := .tuple #[.agg #[.int .i64 r, .int .i64 q, .slice ao n cap], .agg #[.int .i64 r', .int .i64 c, .slice bo n' cap'], .int .i64 0]) ?_ rfl ?_
        ·clear HBX HB HD
         (simp [results, Tryz.results51, go_sem, r0, r1, r2, s0, s1, s2]; done)
        ·have hqc : q = c := HQR.out
         refine ⟨r, q, r', c, ao, bo, n, n', cap, cap', 0, rfl, .inr ⟨i, hd, r, q, zs, i', hd', r', c, ys, HF.out.1.1, HF.out.1.2.1, HF.out.1.2.2.1, HF.out.2.1, HF.out.2.2.1, HF.out.2.2.2.1, .inr (.inr ⟨hqc, HFF.out, rfl, ?_, ?_⟩)⟩, HD.out.1⟩
         ·exact ((HF.out.1.2.2.2.below K5.out.1).tight HFF.out.1).keepT HD.out.2
         ·rw [hqc]
          exact ((HF.out.2.2.2.2.below K5.out.1).tight HFF.out.2).keepT HD.out.2
  ·have KN := Hid.mk hno
   clear hno
   obtain ⟨⟨r0, r1, r2, rf, -⟩, ⟨s0, s1, s2, sf, -⟩, hbv⟩ := HBX.out _ K2.out.2.2.1
   have HT := Hid.mk (And.intro hbv (set6_trio (And.intro r0 (And.intro r1 r2)) (And.intro s0 (And.intro s1 s2)) (Nat.ne_of_lt (Nat.lt_succ_self _)) (.int .i64 0) (.int .i64 0) (.slice none 0 0) (.int .i64 0) (.int .i64 0) (.slice none 0 0)))
   clear hbv
   rw [HX.out] at r0 r1 r2 rf s0 s1 s2 sf
   go_wp2_with fail
   clear r0 r1 r2 rf s0 s1 s2 sf
   rw [← HX.out]
   obtain ⟨⟨r0, r1, r2⟩, s0, s1, s2⟩ := id HT.out.2
   have HB := Hid.mk (set6_below HT.out.1 (Nat.le_refl _) (Nat.le_succ _) (.int .i64 0) (.int .i64 0) (.slice none 0 0) (.int .i64 0) (.int .i64 0) (.slice none 0 0))
   clear HT
   unfold set6 at r0 r1 r2 s0 s1 s2 HB
   generalize World.setCell _ _ _ = WW at r0 r1 r2 s0 s1 s2 HB ⊢
   refine bodyPost_ret (v := .tuple #[.agg #[.int .i64 0, .int .i64 0, .slice none 0 0], .agg #[.int .i64 0, .int .i64 0, .slice none 0 0], .int .i64 2]) ?_ rfl ?_
   ·clear HBX HB
    (simp [results, Tryz.results51, go_sem, r0, r1, r2, s0, s1, s2]; done)
   ·exact ⟨0, 0, 0, 0, none, none, 0, 0, 0, 0, 2, rfl, .inl ⟨.inr KN.out, rfl⟩, HB.out⟩
 ·have KN := Hid.mk hno
  clear hno
  obtain ⟨⟨r0, r1, r2, rf, -⟩, ⟨s0, s1, s2, sf, -⟩, hbv⟩ := HBX.out _ K2.out.2.2.1
  have HT := Hid.mk (And.intro hbv (set6_trio (And.intro r0 (And.intro r1 r2)) (And.intro s0 (And.intro s1 s2)) (Nat.ne_of_lt (Nat.lt_succ_self _)) (.int .i64 0) (.int .i64 0) (.slice none 0 0) (.int .i64 0) (.int .i64 0) (.slice none 0 0)))
  clear hbv
  rw [HX.out] at r0 r1 r2 rf s0 s1 s2 sf
  go_wp2_with fail
  clear r0 r1 r2 rf s0 s1 s2 sf
  rw [← HX.out]
  obtain ⟨⟨r0, r1, r2⟩, s0, s1, s2⟩ := id HT.out.2
  have HB := Hid.mk (set6_below HT.out.1 (Nat.le_refl _) (Nat.le_succ _) (.int .i64 0) (.int .i64 0) (.slice none 0 0) (.int .i64 0) (.int .i64 0) (.slice none 0 0))
  clear HT
  unfold set6 at r0 r1 r2 s0 s1 s2 HB
  generalize World.setCell _ _ _ = WW at r0 r1 r2 s0 s1 s2 HB ⊢
  refine bodyPost_ret (v := .tuple #[.agg #[.int .i64 0, .int .i64 0, .slice none 0 0], .agg #[.int .i64 0, .int .i64 0, .slice none 0 0], .int .i64 2]) ?_ rfl ?_
  ·clear HBX HB
   (simp [results, Tryz.results51, go_sem, r0, r1, r2, s0, s1, s2]; done)
  ·exact ⟨0, 0, 0, 0, none, none, 0, 0, 0, 0, 2, rfl, .inl ⟨.inl KN.out, rfl⟩, HB.out⟩
open Go.RowKit
def SpEq (A B : Nat → Nat → Int) (r r' c : Nat) : Prop := (∀ i, i < r → Sp B r' c (A i)) ∧ ∀ i, i < r' → Sp A r c (B i)
theorem Sp.like {H H' : Nat → Nat → Int} {k c : Nat} {v : Nat → Int} (h : Sp H k c v) (he : ∀ b j, b < k → j < c → H b j = H' b j) : Sp H' k c v := by
 obtain ⟨x, hx⟩ := h
 exact ⟨x, fun j hj => (hx j hj).trans (sm_congr k fun l hl => by rw [he l j hl hj])⟩
theorem same_span {A B H H' U W U' W' : Nat → Nat → Int} {r r' c k k' : Nat} {pc pc' : Nat → Nat} (h : EchSt r c k pc H) (hE : EInv A H U W r c) (h' : EchSt r' c k' pc' H') (hE' : EInv B H' U' W' r' c) :
 (k = k' ∧ ∀ b j, b < k → j < c → H b j = H' b j) ↔ SpEq A B r r' c := by
 obtain ⟨s1, s2⟩ := span_rows h hE
 obtain ⟨t1, t2⟩ := span_rows h' hE'
 have l1 := h.le
 have l2 := h'.le
 constructor
 ·rintro ⟨rfl, he⟩
  exact ⟨fun i hi => ((s1 i hi).like he).trans (fun b hb => t2 b (by omega)), fun i hi => ((t1 i hi).like (fun b j hb hj => (he b j hb hj).symm)).trans (fun b hb => s2 b (by omega))⟩
 ·rintro ⟨e1, e2⟩
  exact h.uniq h' (fun b hb => ((s2 b (by omega)).trans e1).trans t1) (fun b hb => ((t2 b (by omega)).trans e2).trans s1)
def EqRel (ms : List Hm) (g h : Int) (y : Bool) (e : Int) : Prop :=
 (((∀ i, i < 24 → ∀ x, ms.getD i none = some x → (x.1 : Int) ≠ g) ∨ (∀ i, i < 24 → ∀ x, ms.getD i none = some x → (x.1 : Int) ≠ h)) ∧ y = false ∧ e = 2) ∨
 ∃ i hd r q zs j hd' r' c ys, i < 24 ∧ ms.getD i none = some (hd, r, q, zs) ∧ ((hd : Nat) : Int) = g ∧ j < 24 ∧ ms.getD j none = some (hd', r', c, ys) ∧ ((hd' : Nat) : Int) = h ∧
   ((q ≠ c ∧ y = false ∧ e = 3) ∨ (q = c ∧ ¬ (FitsP r q zs ∧ FitsP r' c ys) ∧ y = false ∧ e = 4) ∨ (q = c ∧ (FitsP r q zs ∧ FitsP r' c ys) ∧ e = 0 ∧ (y = true ↔ SpEq (ent q zs) (ent q ys) r r' q) ∧ HasF (ent q zs) r q ∧ HasF (ent q ys) r' q))
theorem AlikeRel.bad {w : World} {ms : List Hm} {g h : Int} {m n : Value} {e : Int} (H : AlikeRel w ms g h m n e) (he : e ≠ 0) : EqRel ms g h false e := by
 rcases H with ⟨h1, rfl⟩ | ⟨i, hd, r, q, zs, j, hd', r', c, ys, h1, h2, h3, h4, h5, h6, h7⟩
 ·exact .inl ⟨h1, rfl, rfl⟩
 ·refine .inr ⟨i, hd, r, q, zs, j, hd', r', c, ys, h1, h2, h3, h4, h5, h6, ?_⟩
  rcases h7 with ⟨a, rfl⟩ | ⟨a, a', rfl⟩ | ⟨-, -, a, -⟩
  ·exact .inl ⟨a, rfl, rfl⟩
  ·exact .inr (.inl ⟨a, a', rfl, rfl⟩)
  ·exact absurd a he
theorem AlikeRel.ok {w : World} {ms : List Hm} {g h : Int} {a1 a2 b1 b2 : Int} {s1 s2 : Value} (H : AlikeRel w ms g h (.agg #[.int .i64 a1, .int .i64 a2, s1]) (.agg #[.int .i64 b1, .int .i64 b2, s2]) 0) :
 ∃ i hd r q zs j hd' r' ys, (i < 24 ∧ ms.getD i none = some (hd, r, q, zs) ∧ ((hd : Nat) : Int) = g ∧ j < 24 ∧ ms.getD j none = some (hd', r', q, ys) ∧ ((hd' : Nat) : Int) = h) ∧ (FitsP r q zs ∧ FitsP r' q ys) ∧ a1 = r ∧ a2 = q ∧ b1 = r' ∧ b2 = q ∧ IsM w (.agg #[.int .i64 r, .int .i64 q, s1]) r q zs 2 ∧ IsM w (.agg #[.int .i64 r', .int .i64 q, s2]) r' q ys 2 := by
 rcases H with ⟨h1, h⟩ | ⟨i, hd, r, q, zs, j, hd', r', c, ys, h1, h2, h3, h4, h5, h6, h7⟩
 ·cases h
 ·rcases h7 with ⟨a, h⟩ | ⟨a, a', h⟩ | ⟨rfl, hf, -, m1, m2⟩
  ·cases h
  ·cases h
  ·obtain ⟨-, -, sl, e1, -⟩ := id m1
   obtain ⟨-, -, sl', e2, -⟩ := id m2
   simp only [Value.agg.injEq, Array.mk.injEq, List.cons.injEq, Value.int.injEq, true_and, and_true] at e1 e2
   obtain ⟨rfl, rfl, rfl⟩ := e1
   obtain ⟨rfl, rfl, rfl⟩ := e2
   exact ⟨i, hd, r, q, zs, j, hd', r', ys, ⟨h1, h2, h3, h4, h5, h6⟩, hf, rfl, rfl, rfl, rfl, m1, m2⟩
set_option maxRecDepth 100000 in
set_option maxHeartbeats 4000000 in
theorem equal_held (b : Nat) (g h : Int) (ms : List Hm) (nx : Nat) (v0 : World) (hst : Held v0 b ms nx) :
 Calls Tryz.prog 27 #[.pointer (some ⟨b, 0, none⟩), .int .i64 g, .int .i64 h] v0 fun x w' => ∃ (y : Bool) (e : Int), x = .returned (.tuple #[.bool y, .int .i64 e]) ∧ EqRel ms g h y e ∧ Below v0.heap.size v0 w' := by
 have H0 := Hid.mk hst
 clear hst
 go_enter Tryz.func27, Tryz.ntmps27
 go_wp2_with fail
 refine (alike_held b g h ms nx _ H0.out).mono ?_
 rintro x w1 ⟨a1, a2, b1, b2, o1, o2, n1, n2, p1, p2, e, rfl, hR, hb1⟩
 have K1 := Hid.mk (And.intro hR hb1)
 have hw1 := hb1.size
 clear hR hb1
 by_cases he : e = 0
 ·subst he
  obtain ⟨i, hd, r, q, zs, j, hd', r', ys, hF, hfit, rfl, rfl, rfl, rfl, m1, m2⟩ := K1.out.1.ok
  have hbB := ((Below.refl w1.heap.size w1).alloc (Nat.le_refl _) (.cells #[.int .i64 r, .int .i64 q, .slice o1 n1 p1] 76)).alloc (by simp) (.cells #[.int .i64 r', .int .i64 q, .slice o2 n2 p2] 76)
  have HF := Hid.mk (And.intro hF (And.intro hfit (And.intro (m1.below hbB) (m2.below hbB))))
  have HB := Hid.mk (K1.out.2.trans (hbB.mono hw1))
  have hT2 : Trio ((w1.alloc (.cells #[.int .i64 r, .int .i64 q, .slice o1 n1 p1] 76)).alloc (.cells #[.int .i64 r', .int .i64 q, .slice o2 n2 p2] 76)) (w1.heap.size + 1) (.int .i64 r') (.int .i64 q) (.slice o2 n2 p2) := ⟨by simp, by simp, by simp⟩
  have HT := Hid.mk hT2
  clear hF hfit m1 m2 hbB hT2
  go_wp2_with fail
  obtain ⟨X, hX⟩ : ∃ X, X = (w1.alloc (.cells #[.int .i64 r, .int .i64 q, .slice o1 n1 p1] 76)).alloc (.cells #[.int .i64 r', .int .i64 q, .slice o2 n2 p2] 76) := ⟨_, rfl⟩
  have hsX : X.heap.size = w1.heap.size + 2 := by rw [hX]; simp
  rw [← hX] at HF HB HT ⊢
  clear hX
  refine (gech_fit _ r q zs 2 _ HF.out.2.2.1 HF.out.2.1.1.1 HF.out.2.1.1.2.1 HF.out.2.1.1.ent (by omega)).mono ?_
  rintro e w3 ⟨v3, k, pc, hs, us, ws, rfl, hIF, hk, hE, -, hb3, -⟩
  have HE1 := Hid.mk (And.intro hk hE)
  have hkr := hk.le
  obtain ⟨sH, sU, sW, rfl, m3, m4, m5⟩ := id hIF
  obtain ⟨oH, cH, rfl⟩ := m3.slice
  obtain ⟨oU, cU, rfl⟩ := m4.slice
  obtain ⟨oW, cW, rfl⟩ := m5.slice
  clear m3 m4 m5 hk hE
  have HI := Hid.mk (And.intro hIF hb3)
  clear hIF hb3
  go_wp2_with fail
  refine (basis_any _ r q k hs us ws 4000 _ HI.out.1 hkr).mono ?_
  rintro e w4 ⟨v4, bs, rfl, hM4, hbs, hb4⟩
  have hX4 : Below X.heap.size X w4 := HI.out.2.trans (hb4.mono HI.out.2.size)
  obtain ⟨-, -, s4, rfl, hg4⟩ := id hM4
  obtain ⟨o4, c4, rfl, -⟩ := hg4.shape
  have hw4 := hX4.size
  have hb44 := (Below.refl w4.heap.size w4).alloc (Nat.le_refl _) (.cells #[.int .i64 k, .int .i64 q, .slice o4 (k * q) c4] 76)
  have hX5 := hX4.trans (hb44.mono hw4)
  have hT4 : Trio (w4.alloc (.cells #[.int .i64 k, .int .i64 q, .slice o4 (k * q) c4] 76)) w4.heap.size (.int .i64 k) (.int .i64 q) (.slice o4 (k * q) c4) := ⟨new_cell _ _ _ _ _ rfl rfl, new_cell _ _ _ _ _ rfl rfl, new_cell _ _ _ _ _ rfl rfl⟩
  obtain ⟨x0, x1, x2⟩ := HT.out.later hX5
  have K4 := Hid.mk (And.intro (hM4.below hb44) (And.intro hbs (And.intro hX5 hT4)))
  clear hg4 hM4 hbs hb4 hX4 hb44 hX5 hT4 HI
  go_wp2_with fail
  refine (gech_fit _ r' q ys 2 _ (HF.out.2.2.2.below K4.out.2.2.1) HF.out.2.1.2.1 HF.out.2.1.2.2.1 HF.out.2.1.2.ent (by omega)).mono ?_
  rintro e w5 ⟨v5, k', pc', hs', us', ws', rfl, hIF, hk, hE, -, hb5, -⟩
  have HE2 := Hid.mk (And.intro hk hE)
  have hkr' := hk.le
  obtain ⟨sH, sU, sW, rfl, m3, m4, m5⟩ := id hIF
  obtain ⟨oH', cH', rfl⟩ := m3.slice
  obtain ⟨oU', cU', rfl⟩ := m4.slice
  obtain ⟨oW', cW', rfl⟩ := m5.slice
  clear m3 m4 m5 hk hE x0 x1 x2
  have HI := Hid.mk (And.intro hIF hb5)
  clear hIF hb5
  go_wp2_with fail
  refine (basis_any _ r' q k' hs' us' ws' 4000 _ HI.out.1 hkr').mono ?_
  rintro e w6 ⟨v6, bs', rfl, hM6, hbs', hb6⟩
  have hw5 := HI.out.2.size
  have hY6 := HI.out.2.trans (hb6.mono HI.out.2.size)
  obtain ⟨-, -, s6, rfl, hg6⟩ := id hM6
  obtain ⟨o6, c6, rfl, -⟩ := hg6.shape
  have hb66 := (Below.refl w6.heap.size w6).alloc (Nat.le_refl _) (.cells #[.int .i64 k', .int .i64 q, .slice o6 (k' * q) c6] 76)
  have hY7 := hY6.trans (hb66.mono hY6.size)
  obtain ⟨x0, x1, x2⟩ := K4.out.2.2.2.later hY7
  have hw6 := hb6.size
  have K6 := Hid.mk (And.intro (hM6.below hb66) (And.intro hbs' (And.intro (HB.out.trans ((K4.out.2.2.1.trans (hY7.mono K4.out.2.2.1.size)).mono HB.out.size)) (K4.out.1.below hY7))))
  clear hg6 hM6 hbs' hb6 hY6 hb66 hY7 HI
  go_wp2_with fail
  refine (matIs_any _ _ k q k' q bs bs' 4000 _ K6.out.2.2.2 K6.out.1).mono ?_
  rintro e w7 ⟨rfl, hb7⟩
  go_wp2_with fail
  go_ret2
  refine ⟨_, 0, rfl, .inr ⟨i, hd, r, q, zs, j, hd', r', q, ys, HF.out.1.1, HF.out.1.2.1, HF.out.1.2.2.1, HF.out.1.2.2.2.1, HF.out.1.2.2.2.2.1, HF.out.1.2.2.2.2.2, .inr (.inr ⟨rfl, HF.out.2.1, rfl, ?_, ⟨_, _, _, _, _, HE1.out.1, HE1.out.2⟩, ⟨_, _, _, _, _, HE2.out.1, HE2.out.2⟩⟩)⟩, K6.out.2.2.1.trans (hb7.mono K6.out.2.2.1.size)⟩
  rw [← same_span HE1.out.1 HE1.out.2 HE2.out.1 HE2.out.2, Bool.and_eq_true, decide_eq_true_iff, decide_eq_true_iff]
  constructor
  ·rintro ⟨rfl, e⟩
   refine ⟨rfl, fun b j hb hj => ?_⟩
   rw [← K4.out.2.1 b j hb hj, e]
   exact K6.out.2.1 b j hb hj
  ·rintro ⟨rfl, e⟩
   refine ⟨rfl, list_ent K4.out.1.len K6.out.1.len fun b j hb hj => ?_⟩
   rw [K4.out.2.1 b j hb hj, e b j hb hj]
   exact (K6.out.2.1 b j hb hj).symm
 ·have HE := Hid.mk he
  have hbe : (e == 0) = false := by simpa using he
  have hbB := ((Below.refl w1.heap.size w1).alloc (Nat.le_refl _) (.cells #[.int .i64 a1, .int .i64 a2, .slice o1 n1 p1] 76)).alloc (by simp) (.cells #[.int .i64 b1, .int .i64 b2, .slice o2 n2 p2] 76)
  have HB := Hid.mk (K1.out.2.trans (hbB.mono hw1))
  clear hbB
  go_wp2_with fail
  go_ret2
  exact ⟨false, e, rfl, K1.out.1.bad HE.out, HB.out⟩
open Go.RowKit
theorem size8 {r c : Nat} (hr : r ≤ 8) (hc : c ≤ 4) : hB r 48 c ≤ 32 * 20000 ∧ uB r 48 c ≤ 32 * 20000 := by
 have key : ∀ r : Fin 9, ∀ c : Fin 5, hB r.val 48 c.val ≤ 32 * 20000 ∧ uB r.val 48 c.val ≤ 32 * 20000 := by decide
 exact key ⟨r, by omega⟩ ⟨c, by omega⟩
theorem ent_top {r c : Nat} {zs : List Int} (ys : List Int) (hl : zs.length = r * c) {i j : Nat} (hi : i < r) (hj : j < c) : ent c (zs ++ ys) i j = ent c zs i j := by
 have := idx_lt hi hj
 unfold ent
 rw [List.getD, List.getD, List.getElem?_append_left (by omega)]
theorem ent_low {r c : Nat} {zs : List Int} (ys : List Int) (hl : zs.length = r * c) (i j : Nat) : ent c (zs ++ ys) (r + i) j = ent c ys i j := by
 have : (r + i) * c + j = r * c + (i * c + j) := by rw [Nat.add_mul]; omega
 unfold ent
 rw [this, List.getD, List.getD, List.getElem?_append_right (by omega), hl, Nat.add_sub_cancel_left]
def BasisIs (r c : Nat) (zs : List Int) (k : Nat) (bs : List Int) : Prop :=
 bs.length = k * c ∧ ∃ pc hs us ws, EchSt r c k pc (ent c hs) ∧ EInv (ent c zs) (ent c hs) (ent r us) (ent r ws) r c ∧ ∀ i j, i < k → j < c → ent c bs i j = ent c hs i j
theorem BasisIs.uniq {r c : Nat} {zs : List Int} {k k' : Nat} {bs bs' : List Int} (a : BasisIs r c zs k bs) (b : BasisIs r c zs k' bs') : k = k' ∧ bs = bs' := by
 obtain ⟨a1, pc, hs, us, ws, a2, a3, a4⟩ := a
 obtain ⟨b1, pc', hs', us', ws', b2, b3, b4⟩ := b
 obtain ⟨rfl, e⟩ := (same_span a2 a3 b2 b3).2 ⟨fun i hi => Sp.row _ c hi, fun i hi => Sp.row _ c hi⟩
 exact ⟨rfl, list_ent a1 b1 fun i j hi hj => by rw [a4 i j hi hj, e i j hi hj, b4 i j hi hj]⟩
def SumRel (ms : List Hm) (nx : Nat) (g h k e : Int) (ms' : List Hm) (nx' : Nat) : Prop :=
 (((∀ i, i < 24 → ∀ x, ms.getD i none = some x → (x.1 : Int) ≠ g) ∨ (∀ i, i < 24 → ∀ x, ms.getD i none = some x → (x.1 : Int) ≠ h)) ∧ k = -1 ∧ e = 2 ∧ ms' = ms ∧ nx' = nx) ∨
 ∃ i hd r q zs j hd' r' c ys, i < 24 ∧ ms.getD i none = some (hd, r, q, zs) ∧ ((hd : Nat) : Int) = g ∧ j < 24 ∧ ms.getD j none = some (hd', r', c, ys) ∧ ((hd' : Nat) : Int) = h ∧
   ((q ≠ c ∧ k = -1 ∧ e = 3 ∧ ms' = ms ∧ nx' = nx) ∨ (q = c ∧ ¬ (FitsP r q zs ∧ FitsP r' c ys) ∧ k = -1 ∧ e = 4 ∧ ms' = ms ∧ nx' = nx) ∨
    (q = c ∧ (FitsP r q zs ∧ FitsP r' c ys) ∧ (∀ i, i < 24 → ms.getD i none ≠ none) ∧ k = -1 ∧ e = 5 ∧ ms' = ms ∧ nx' = nx) ∨
    (q = c ∧ (FitsP r q zs ∧ FitsP r' c ys) ∧ k = (nx : Int) ∧ e = 0 ∧ ∃ n rk bs, BasisIs (r + r') q (zs ++ ys) rk bs ∧ FreeAt ms n ∧ ms' = ms.set n (some (nx, rk, q, bs)) ∧ nx' = nx + 1))
theorem AlikeRel.badS {w : World} {ms : List Hm} {g h : Int} {m n : Value} {e : Int} (nx : Nat) (H : AlikeRel w ms g h m n e) (he : e ≠ 0) : SumRel ms nx g h (-1) e ms nx := by
 rcases H with ⟨h1, rfl⟩ | ⟨i, hd, r, q, zs, j, hd', r', c, ys, h1, h2, h3, h4, h5, h6, h7⟩
 ·exact .inl ⟨h1, rfl, rfl, rfl, rfl⟩
 ·refine .inr ⟨i, hd, r, q, zs, j, hd', r', c, ys, h1, h2, h3, h4, h5, h6, ?_⟩
  rcases h7 with ⟨a, rfl⟩ | ⟨a, a', rfl⟩ | ⟨-, -, a, -⟩
  ·exact .inl ⟨a, rfl, rfl, rfl, rfl⟩
  ·exact .inr (.inl ⟨a, a', rfl, rfl, rfl, rfl⟩)
  ·exact absurd a he
set_option maxRecDepth 100000 in
set_option maxHeartbeats 4000000 in
theorem sum_held (b : Nat) (g h : Int) (ms : List Hm) (nx : Nat) (v0 : World) (hst : Held v0 b ms nx) (hnx : nx < 1000000) :
 Calls Tryz.prog 28 #[.pointer (some ⟨b, 0, none⟩), .int .i64 g, .int .i64 h] v0 fun x w' => ∃ k e ms' nx', x = .returned (.tuple #[.int .i64 k, .int .i64 e]) ∧ SumRel ms nx g h k e ms' nx' ∧ Held w' b ms' nx' ∧ Fr b v0 w' := by
 have hm24 := hst.1
 have H0 := Hid.mk hst
 clear hst
 go_enter Tryz.func28, Tryz.ntmps28
 go_wp2_with fail
 refine (alike_held b g h ms nx _ H0.out).mono ?_
 rintro x w1 ⟨a1, a2, b1, b2, o1, o2, n1, n2, p1, p2, e, rfl, hR, hb1⟩
 have K1 := Hid.mk (And.intro hR hb1)
 have hw1 := hb1.size
 clear hR hb1
 by_cases he : e = 0
 ·subst he
  obtain ⟨i, hd, r, q, zs, j, hd', r', ys, hF, hfit, rfl, rfl, rfl, rfl, m1, m2⟩ := K1.out.1.ok
  have hbB := ((Below.refl w1.heap.size w1).alloc (Nat.le_refl _) (.cells #[.int .i64 r, .int .i64 q, .slice o1 n1 p1] 76)).alloc (by simp) (.cells #[.int .i64 r', .int .i64 q, .slice o2 n2 p2] 76)
  have HF := Hid.mk (And.intro hF (And.intro hfit (And.intro (m1.below hbB) (m2.below hbB))))
  have HB := Hid.mk (K1.out.2.trans (hbB.mono hw1))
  have hT1 : Trio ((w1.alloc (.cells #[.int .i64 r, .int .i64 q, .slice o1 n1 p1] 76)).alloc (.cells #[.int .i64 r', .int .i64 q, .slice o2 n2 p2] 76)) w1.heap.size (.int .i64 r) (.int .i64 q) (.slice o1 n1 p1) := ⟨by simp, by simp, by simp⟩
  have hT2 : Trio ((w1.alloc (.cells #[.int .i64 r, .int .i64 q, .slice o1 n1 p1] 76)).alloc (.cells #[.int .i64 r', .int .i64 q, .slice o2 n2 p2] 76)) (w1.heap.size + 1) (.int .i64 r') (.int .i64 q) (.slice o2 n2 p2) := ⟨by simp, by simp, by simp⟩
  have HT := Hid.mk (And.intro hT1 hT2)
  clear hF hfit m1 m2 hbB hT1 hT2
  go_wp2_with fail
  obtain ⟨X, hX⟩ : ∃ X, X = (w1.alloc (.cells #[.int .i64 r, .int .i64 q, .slice o1 n1 p1] 76)).alloc (.cells #[.int .i64 r', .int .i64 q, .slice o2 n2 p2] 76) := ⟨_, rfl⟩
  have hsX : X.heap.size = w1.heap.size + 2 := by rw [hX]; simp
  rw [← hX] at HF HB HT ⊢
  clear hX
  refine (room_held b ms nx _ (H0.out.below HB.out)).mono ?_
  rintro e X ⟨rfl, rfl⟩
  obtain ⟨rm, hrm⟩ : ∃ rm, rm = ms.countP Option.isNone := ⟨_, rfl⟩
  have HRM := Hid.mk hrm
  rw [← hrm]
  clear hrm
  by_cases h0 : rm = 0
  ·subst h0
   go_wp2_with fail
   go_ret2
   exact ⟨_, _, ms, nx, rfl, .inr ⟨i, hd, r, q, zs, j, hd', r', q, ys, HF.out.1.1, HF.out.1.2.1, HF.out.1.2.2.1, HF.out.1.2.2.2.1, HF.out.1.2.2.2.2.1, HF.out.1.2.2.2.2.2, .inr (.inr (.inl ⟨rfl, HF.out.2.1, full_of_room hm24 HRM.out.symm, rfl, rfl, rfl, rfl⟩))⟩, H0.out.below HB.out, Fr.of_below HB.out⟩
  ·obtain ⟨nf, hnf⟩ := free_of_room hm24 (show 0 < ms.countP Option.isNone from by have := HRM.out; omega)
   have HNF := Hid.mk hnf
   have h0' : ¬ ((rm : Int) < 1) := by omega
   clear hnf h0
   obtain ⟨⟨x0, x1, x2⟩, y0, y1, y2⟩ := id HT.out
   have hr4 := HF.out.2.1.1.1
   have hr4' := HF.out.2.1.2.1
   have hq4 := HF.out.2.1.1.2.1
   go_wp2_with fail
   refine (over_new _ _ r r' q zs ys 2 _ HF.out.2.2.1 HF.out.2.2.2 (by omega)).mono ?_
   rintro e w3 ⟨go, rfl, -, hG, hb3⟩
   have hl1 := HF.out.2.2.1.len
   have hl2 := HF.out.2.2.2.len
   have hM3 : IsM w3 (.agg #[.int .i64 ((r + r' : Nat) : Int), .int .i64 q, .slice (some ⟨go, 0, none⟩) ((r + r') * q) ((r + r') * q)]) (r + r') q (zs ++ ys) 2 := ⟨by omega, by omega, _, rfl, hG⟩
   have hfe : ∀ i j, i < r + r' → j < q → (ent q (zs ++ ys) i j).natAbs < 2 ^ 48 := fun i j hi hj => by
    by_cases h : i < r
    ·rw [ent_top ys hl1 h hj]; exact HF.out.2.1.1.ent i j h hj
    ·rw [show i = r + (i - r) by omega, ent_low ys hl1]; exact HF.out.2.1.2.ent _ j (by omega) hj
   have K3 := Hid.mk (And.intro hM3 (And.intro hfe hb3))
   clear hG hb3 hM3 hfe x0 x1 x2 y0 y1 y2
   go_wp2_with fail
   refine (gech_any _ (r + r') q (zs ++ ys) 48 20000 _ (K3.out.1.mono (by omega)) (by omega) (by omega) K3.out.2.1 (by omega) (size8 (by omega) hq4).1 (size8 (by omega) hq4).2).mono ?_
   rintro e w4 ⟨v4, k, pc, hs, us, ws, rfl, hIF, hk, hE, -, hb4, -⟩
   have HE1 := Hid.mk (And.intro hk hE)
   have hkr := hk.le
   obtain ⟨sH, sU, sW, rfl, m3, m4, m5⟩ := id hIF
   obtain ⟨oH, cH, rfl⟩ := m3.slice
   obtain ⟨oU, cU, rfl⟩ := m4.slice
   obtain ⟨oW, cW, rfl⟩ := m5.slice
   clear m3 m4 m5 hk hE
   have HI := Hid.mk (And.intro hIF (K3.out.2.2.trans (hb4.mono K3.out.2.2.size)))
   clear hIF hb4
   go_wp2_with fail
   refine (basis_any _ (r + r') q k hs us ws 20000 _ HI.out.1 hkr).mono ?_
   rintro e w5 ⟨v5, bs, rfl, hM5, hbs, hb5⟩
   have hX5 : Below X.heap.size X w5 := HI.out.2.trans (hb5.mono HI.out.2.size)
   obtain ⟨-, -, s5, rfl, hg5⟩ := id hM5
   obtain ⟨o5, c5, rfl, -⟩ := hg5.shape
   have K5 := Hid.mk (And.intro hM5 (And.intro (show BasisIs (r + r') q (zs ++ ys) k bs from ⟨hM5.len, pc, hs, us, ws, HE1.out.1, HE1.out.2, hbs⟩) (HB.out.trans (hX5.mono HB.out.size))))
   clear hg5 hM5 hbs hb5 hX5 HI
   obtain ⟨N5, hN5⟩ : ∃ N5, N5 = k * q := ⟨_, rfl⟩
   rw [← hN5] at K5 ⊢
   clear hN5
   go_wp2_with fail
   have hb55 := (Below.refl w5.heap.size w5).alloc (Nat.le_refl _) (.cells #[.int .i64 k, .int .i64 q, .slice o5 N5 c5] 76)
   have hbA := K5.out.2.2.trans (hb55.mono K5.out.2.2.size)
   refine (keep_held b k q o5 N5 c5 bs ms nx nf _ (H0.out.below hbA) ((K5.out.1.below hb55).mono (by omega)) HNF.out hnx).mono ?_
   rintro e w6 ⟨rfl, hH6, hF6⟩
   have K7 := Hid.mk (And.intro hH6 ((Fr.of_below hbA).trans hF6))
   clear hH6 hF6 hbA hb55
   go_wp2_with fail
   go_ret2
   exact ⟨_, _, _, nx + 1, rfl, .inr ⟨i, hd, r, q, zs, j, hd', r', q, ys, HF.out.1.1, HF.out.1.2.1, HF.out.1.2.2.1, HF.out.1.2.2.2.1, HF.out.1.2.2.2.2.1, HF.out.1.2.2.2.2.2, .inr (.inr (.inr ⟨rfl, HF.out.2.1, rfl, rfl, nf, k, bs, K5.out.2.1, HNF.out, rfl, rfl⟩))⟩, K7.out.1, K7.out.2⟩
 ·have HE := Hid.mk he
  have hbe : (e == 0) = false := by simpa using he
  have hbB := ((Below.refl w1.heap.size w1).alloc (Nat.le_refl _) (.cells #[.int .i64 a1, .int .i64 a2, .slice o1 n1 p1] 76)).alloc (by simp) (.cells #[.int .i64 b1, .int .i64 b2, .slice o2 n2 p2] 76)
  have HB := Hid.mk (K1.out.2.trans (hbB.mono hw1))
  clear hbB
  go_wp2_with fail
  go_ret2
  exact ⟨-1, e, ms, nx, rfl, K1.out.1.badS nx HE.out, H0.out.below HB.out, Fr.of_below HB.out⟩
end Go.Proofs.YtfjbijpagaipnaaGreatDoor
