import Derived.Test.YtfjbijpagaipnaaDoorS09
import Derived.Test.YtfjbijpagaipnaaDoorRows
import Derived.Test.YtfjbijpagaipnaaDoorS01
import Derived.WalkKit
import Derived.WalkSpells
import Derived.WalkLawsBesides
import Derived.Handy
import Derived.Test.YtfjbijpagaipnaaDoorS03
namespace Go.Proofs.YtfjbijpagaipnaaDoor
open Go.RowKit
def AlikeRel (w : World) (ms : List Hm) (g h : Int) (m n : Value) (e : Int) : Prop :=
 (((∀ i, i < 24 → ∀ x, ms.getD i none = some x → (x.1 : Int) ≠ g) ∨ (∀ i, i < 24 → ∀ x, ms.getD i none = some x → (x.1 : Int) ≠ h)) ∧ e = 2) ∨
 ∃ i hd r q zs j hd' r' c ys, i < 24 ∧ ms.getD i none = some (hd, r, q, zs) ∧ ((hd : Nat) : Int) = g ∧ j < 24 ∧ ms.getD j none = some (hd', r', c, ys) ∧ ((hd' : Nat) : Int) = h ∧
   ((q ≠ c ∧ e = 3) ∨ (q = c ∧ ¬ (FitsP r q zs ∧ FitsP r' c ys) ∧ e = 4) ∨ (q = c ∧ (FitsP r q zs ∧ FitsP r' c ys) ∧ e = 0 ∧ IsM w m r q zs 2 ∧ IsM w n r' q ys 2))
set_option maxRecDepth 100000 in
set_option maxHeartbeats 4000000 in
theorem alike_held (b : Nat) (g h : Int) (ms : List Hm) (nx : Nat) (v0 : World) (hst : Held v0 b ms nx) :
 Calls Tryd.prog 45 #[.pointer (some ⟨b, 0, none⟩), .int .i64 g, .int .i64 h] v0 fun x w' => ∃ (a1 a2 b1 b2 : Int) (o1 o2 : Option Addr) (n1 n2 p1 p2 : Nat) (e : Int), x = .returned (.tuple #[.agg #[.int .i64 a1, .int .i64 a2, .slice o1 n1 p1], .agg #[.int .i64 b1, .int .i64 b2, .slice o2 n2 p2], .int .i64 e]) ∧ AlikeRel w' ms g h (.agg #[.int .i64 a1, .int .i64 a2, .slice o1 n1 p1]) (.agg #[.int .i64 b1, .int .i64 b2, .slice o2 n2 p2]) e ∧ Below v0.heap.size v0 w' := by
 have H0 := Hid.mk hst
 clear hst
 go_enter Tryd.func45, Tryd.ntmps45
 go_wp2_with fail
 obtain ⟨w, hw⟩ : ∃ w, w = (v0.alloc (.cells #[.int .i64 0, .int .i64 0, .slice none 0 0] 63)).alloc (.cells #[.int .i64 0, .int .i64 0, .slice none 0 0] 63) := ⟨_, rfl⟩
 have hs0 : w.heap.size = v0.heap.size + 1 + 1 := by rw [hw]; simp
 have hb0 : Below v0.heap.size v0 w := by rw [hw]; repeat (first | exact Below.refl _ _ | refine Below.alloc ?_ (by simp <;> omega) _)
 have hz1 : w.heap[v0.heap.size]? = some (.cells #[.int .i64 0, .int .i64 0, .slice none 0 0] 63 (0, 0)) := by
  rw [hw, ((Below.refl (v0.alloc (.cells #[.int .i64 0, .int .i64 0, .slice none 0 0] 63)).heap.size _).alloc (Nat.le_refl _) (.cells #[.int .i64 0, .int .i64 0, .slice none 0 0] 63)).block v0.heap.size (by simp)]
  exact heap_alloc_new v0 _
 have hz2 : w.heap[v0.heap.size + 1]? = some (.cells #[.int .i64 0, .int .i64 0, .slice none 0 0] 63 (0, 0)) := by
  rw [hw]
  have := heap_alloc_new (v0.alloc (.cells #[.int .i64 0, .int .i64 0, .slice none 0 0] 63)) (.cells #[.int .i64 0, .int .i64 0, .slice none 0 0] 63)
  simpa using this
 have H := Hid.mk (H0.out.below hb0)
 have HZ := Hid.mk (And.intro hb0 (And.intro hz1 hz2))
 have HBX : Hid (∀ w', Below w.heap.size w w' → (w'.cell? ⟨v0.heap.size, 0, none⟩ = some (.int .i64 0) ∧ w'.cell? ⟨v0.heap.size, 1, none⟩ = some (.int .i64 0) ∧ w'.cell? ⟨v0.heap.size, 2, none⟩ = some (.slice none 0 0) ∧ (∀ o, w'.frozen? ⟨v0.heap.size, o, none⟩ = false) ∧ Ty w' v0.heap.size 63) ∧ (w'.cell? ⟨v0.heap.size + 1, 0, none⟩ = some (.int .i64 0) ∧ w'.cell? ⟨v0.heap.size + 1, 1, none⟩ = some (.int .i64 0) ∧ w'.cell? ⟨v0.heap.size + 1, 2, none⟩ = some (.slice none 0 0) ∧ (∀ o, w'.frozen? ⟨v0.heap.size + 1, o, none⟩ = false) ∧ Ty w' (v0.heap.size + 1) 63) ∧ Below v0.heap.size v0 w') := Hid.mk (fun w' hb => by
  have h1 := (hb.block v0.heap.size (by omega)).trans hz1
  have h2 := (hb.block (v0.heap.size + 1) (by omega)).trans hz2
  refine ⟨⟨?_, ?_, ?_, fun o => ?_, ⟨_, _, h1⟩⟩, ⟨?_, ?_, ?_, fun o => ?_, ⟨_, _, h2⟩⟩, hb0.trans (hb.mono (by omega))⟩ <;> first | (simp [World.cell?, h1]; done) | (simp [World.cell?, h2]; done) | (simp [World.frozen?, h1]; done) | (simp [World.frozen?, h2]; done))
 rw [← hw]
 clear hw hz1 hz2 hb0
 refine (find_held b g ms nx _ H.out).mono ?_
 rintro e w1 ⟨⟨r, q, ao, n, cap, ok, rfl, hf⟩, hb1⟩
 have K1 := Hid.mk (And.intro hf hb1)
 have hw1 := hb1.size
 clear hf hb1
 go_wp2_with fail
 have hbA : Below w.heap.size w (w1.alloc (.cells #[.int .i64 r, .int .i64 q, .slice ao n cap] 63)) := K1.out.2.alloc hw1 _
 refine (find_held b h ms nx _ (H.out.below hbA)).mono ?_
 rintro e w2 ⟨⟨r', c, bo, n', cap', ok', rfl, hf2⟩, hb2⟩
 have hT1 : Trio (w1.alloc (.cells #[.int .i64 r, .int .i64 q, .slice ao n cap] 63)) w1.heap.size (.int .i64 r) (.int .i64 q) (.slice ao n cap) := ⟨new_cell _ _ _ _ _ rfl rfl, new_cell _ _ _ _ _ rfl rfl, new_cell _ _ _ _ _ rfl rfl⟩
 have hb22 := (Below.refl w2.heap.size w2).alloc (Nat.le_refl _) (.cells #[.int .i64 r', .int .i64 c, .slice bo n' cap'] 63)
 have hT2 := (hT1.later hb2).later hb22
 have hT3 : Trio (w2.alloc (.cells #[.int .i64 r', .int .i64 c, .slice bo n' cap'] 63)) w2.heap.size (.int .i64 r') (.int .i64 c) (.slice bo n' cap') := ⟨new_cell _ _ _ _ _ rfl rfl, new_cell _ _ _ _ _ rfl rfl, new_cell _ _ _ _ _ rfl rfl⟩
 have hbB : Below w.heap.size w w2 := hbA.trans (hb2.mono hbA.size)
 have hf1' := ((K1.out.1.below ((Below.refl _ _).alloc (Nat.le_refl _) (.cells #[.int .i64 r, .int .i64 q, .slice ao n cap] 63))).below hb2).below hb22
 have hf2' := hf2.below hb22
 have hbC : Below w.heap.size w (w2.alloc (.cells #[.int .i64 r', .int .i64 c, .slice bo n' cap'] 63)) := hbB.alloc hbB.size _
 have hlt : w1.heap.size < w2.heap.size := by have := hb2.size; simp at this; omega
 have K2 := Hid.mk (And.intro hf1' (And.intro hf2' (And.intro hbC (And.intro hT2 hT3))))
 clear hf2 hb2 hT1 hb22 hT2 hT3 hbB hf1' hf2' hbC hbA
 obtain ⟨X, hX⟩ : ∃ X, X = w2.alloc (.cells #[.int .i64 r', .int .i64 c, .slice bo n' cap'] 63) := ⟨_, rfl⟩
 have HX := Hid.mk hX
 rw [← hX] at K2
 clear hX
 have hsX : X.heap.size = w2.heap.size + 1 := by rw [HX.out]; simp
 rcases id K2.out.1 with ⟨rfl, i, hd, zs, hi, hgi, hgh, hM⟩ | ⟨rfl, hno⟩
 ·rcases id K2.out.2.1 with ⟨rfl, i', hd', ys, hi', hgi', hgh', hM'⟩ | ⟨rfl, hno⟩
  ·have HF := Hid.mk (And.intro (And.intro hi (And.intro hgi (And.intro hgh hM))) (And.intro hi' (And.intro hgi' (And.intro hgh' hM'))))
   have HC := Hid.mk (show ∀ w', Below X.heap.size X w' → w'.cell? ⟨w1.heap.size, 0, none⟩ = some (.int .i64 r) ∧ w'.cell? ⟨w1.heap.size, 1, none⟩ = some (.int .i64 q) ∧ w'.cell? ⟨w1.heap.size, 2, none⟩ = some (.slice ao n cap) ∧ w'.cell? ⟨w2.heap.size, 0, none⟩ = some (.int .i64 r') ∧ w'.cell? ⟨w2.heap.size, 1, none⟩ = some (.int .i64 c) ∧ w'.cell? ⟨w2.heap.size, 2, none⟩ = some (.slice bo n' cap') from
    fun w' hb => ⟨(K2.out.2.2.2.1.later hb).1, (K2.out.2.2.2.1.later hb).2.1, (K2.out.2.2.2.1.later hb).2.2, (K2.out.2.2.2.2.later hb).1, (K2.out.2.2.2.2.later hb).2.1, (K2.out.2.2.2.2.later hb).2.2⟩)
   clear hi hgi hgh hM hi' hgi' hgh' hM'
   obtain ⟨iqr, hiqr⟩ : ∃ iqr, iqr = ((q : Int) == (c : Int)) := ⟨_, rfl⟩
   have HQ := Hid.mk hiqr
   go_upto_region 5 with fail
   rw [← HX.out]
   go_cut [37] from 33 to 37 (fun x wx => x = .bool (!iqr) ∧ Below X.heap.size X wx)
   case first =>
    go_region_held3 (fun w' => w'.cell? ⟨w1.heap.size, 0, none⟩ = some (.int .i64 r) ∧ w'.cell? ⟨w1.heap.size, 1, none⟩ = some (.int .i64 q) ∧ w'.cell? ⟨w1.heap.size, 2, none⟩ = some (.slice ao n cap) ∧ w'.cell? ⟨w2.heap.size, 0, none⟩ = some (.int .i64 r') ∧ w'.cell? ⟨w2.heap.size, 1, none⟩ = some (.int .i64 c) ∧ w'.cell? ⟨w2.heap.size, 2, none⟩ = some (.slice bo n' cap'))
     (exact HC.out _ (by first | exact (Below.refl _ _).drew | exact ((Below.refl _ _).alloc (Nat.le_refl _) _).drew | exact (((Below.refl _ _).alloc (Nat.le_refl _) _).alloc (by simp) _).drew))
     (first
       | (go_at_call 42; refine (cols_raw _ _ _ _ _ _).mono ?_; rintro e w' ⟨rfl, rfl⟩)
       | (go_at_call 43; refine (rows_raw _ _ _ _ _ _).mono ?_; rintro e w' ⟨rfl, rfl⟩))
    all_goals
     go_wp2_with fail
     go_meet
     case rel =>
      exact ⟨by rw [HQ.out]; rfl, (((Below.refl _ _).alloc (Nat.le_refl _) _).alloc (by simp) _).drew⟩
   case rest =>
    obtain ⟨rfl, hbx⟩ := hcut
    have hbw : Below w.heap.size w wc := K2.out.2.2.1.trans (hbx.mono K2.out.2.2.1.size)
    obtain ⟨a0, a1, a2, a3, a4, a5⟩ := HC.out wc hbx
    have K3 := Hid.mk (And.intro hbx hbw)
    have hwc := hbx.size
    clear hbx hbw hiqr
    cases iqr
    ·have HNE : Hid (q ≠ c) := Hid.mk (fun e => by have := HQ.out; rw [e] at this; simp at this)
     obtain ⟨⟨r0, r1, r2, rf, -⟩, ⟨s0, s1, s2, sf, -⟩, hbv⟩ := HBX.out _ K3.out.2
     have HT := Hid.mk (And.intro hbv (set6_trio (And.intro r0 (And.intro r1 r2)) (And.intro s0 (And.intro s1 s2)) (Nat.ne_of_lt (Nat.lt_succ_self _)) (.int .i64 0) (.int .i64 0) (.slice none 0 0) (.int .i64 0) (.int .i64 0) (.slice none 0 0)))
     clear hbv
     go_wp2_with fail
     clear r0 r1 r2 rf s0 s1 s2 sf
     obtain ⟨⟨r0, r1, r2⟩, s0, s1, s2⟩ := id HT.out.2
     have HB := Hid.mk (set6_below HT.out.1 (Nat.le_refl _) (Nat.le_succ _) (.int .i64 0) (.int .i64 0) (.slice none 0 0) (.int .i64 0) (.int .i64 0) (.slice none 0 0))
     clear HT
     unfold set6 at r0 r1 r2 s0 s1 s2 HB
     generalize World.setCell _ _ _ = WW at r0 r1 r2 s0 s1 s2 HB ⊢
     refine bodyPost_ret (v := .tuple #[.agg #[.int .i64 0, .int .i64 0, .slice none 0 0], .agg #[.int .i64 0, .int .i64 0, .slice none 0 0], .int .i64 3]) ?_ rfl ?_
     ·clear HBX HB
      (simp [results, Tryd.results45, go_sem, r0, r1, r2, s0, s1, s2]; done)
     ·exact ⟨0, 0, 0, 0, none, none, 0, 0, 0, 0, 3, rfl, .inr ⟨i, hd, r, q, zs, i', hd', r', c, ys, HF.out.1.1, HF.out.1.2.1, HF.out.1.2.2.1, HF.out.2.1, HF.out.2.2.1, HF.out.2.2.2.1, .inl ⟨HNE.out, rfl⟩⟩, HB.out⟩
    ·have hqr : q = c := by have := HQ.out; have h2 := beq_iff_eq.1 this.symm; omega
     have HQR := Hid.mk hqr
     clear hqr
     go_wp2_with fail
     refine (tooBig_any _ r q zs 200000000 _ (HF.out.1.2.2.2.below K3.out.1) (by omega)).mono ?_
     rintro e w3 ⟨fb, rfl, hfo, hb3⟩
     have hbX3 : Below X.heap.size X w3 := K3.out.1.trans (hb3.mono hwc)
     clear a0 a1 a2 a3 a4 a5
     obtain ⟨a0, a1, a2, a3, a4, a5⟩ := HC.out w3 hbX3
     have hw3 := hbX3.size
     have K4 := Hid.mk (And.intro hbX3 (And.intro (K2.out.2.2.1.trans (hbX3.mono K2.out.2.2.1.size)) hfo))
     clear hb3 hbX3 hfo
     cases fb
     ·have HNF : Hid (¬ FitsP r q zs) := Hid.mk (fun h => by have := K4.out.2.2.2 h; cases this)
      obtain ⟨⟨r0, r1, r2, rf, -⟩, ⟨s0, s1, s2, sf, -⟩, hbv⟩ := HBX.out _ K4.out.2.1
      have HT := Hid.mk (And.intro hbv (set6_trio (And.intro r0 (And.intro r1 r2)) (And.intro s0 (And.intro s1 s2)) (Nat.ne_of_lt (Nat.lt_succ_self _)) (.int .i64 0) (.int .i64 0) (.slice none 0 0) (.int .i64 0) (.int .i64 0) (.slice none 0 0)))
      clear hbv
      go_wp2_with fail
      clear r0 r1 r2 rf s0 s1 s2 sf
      obtain ⟨⟨r0, r1, r2⟩, s0, s1, s2⟩ := id HT.out.2
      have HB := Hid.mk (set6_below HT.out.1 (Nat.le_refl _) (Nat.le_succ _) (.int .i64 0) (.int .i64 0) (.slice none 0 0) (.int .i64 0) (.int .i64 0) (.slice none 0 0))
      clear HT
      unfold set6 at r0 r1 r2 s0 s1 s2 HB
      generalize World.setCell _ _ _ = WW at r0 r1 r2 s0 s1 s2 HB ⊢
      refine bodyPost_ret (v := .tuple #[.agg #[.int .i64 0, .int .i64 0, .slice none 0 0], .agg #[.int .i64 0, .int .i64 0, .slice none 0 0], .int .i64 4]) ?_ rfl ?_
      ·clear HBX HB
       (simp [results, Tryd.results45, go_sem, r0, r1, r2, s0, s1, s2]; done)
      ·exact ⟨0, 0, 0, 0, none, none, 0, 0, 0, 0, 4, rfl, .inr ⟨i, hd, r, q, zs, i', hd', r', c, ys, HF.out.1.1, HF.out.1.2.1, HF.out.1.2.2.1, HF.out.2.1, HF.out.2.2.1, HF.out.2.2.2.1, .inr (.inl ⟨HQR.out, fun h => HNF.out h.1, rfl⟩)⟩, HB.out⟩
     ·go_wp2_with fail
      refine (tooBig_any _ r' c ys 200000000 _ (HF.out.2.2.2.2.below K4.out.1) (by omega)).mono ?_
      rintro e w4 ⟨fb, rfl, hfo, hb4⟩
      have hbX4 : Below X.heap.size X w4 := K4.out.1.trans (hb4.mono hw3)
      clear a0 a1 a2 a3 a4 a5
      obtain ⟨a0, a1, a2, a3, a4, a5⟩ := HC.out w4 hbX4
      have hw4 := hbX4.size
      have K5 := Hid.mk (And.intro hbX4 (And.intro (K2.out.2.2.1.trans (hbX4.mono K2.out.2.2.1.size)) hfo))
      clear hb4 hbX4 hfo
      cases fb
      ·have HNF : Hid (¬ FitsP r' c ys) := Hid.mk (fun h => by have := K5.out.2.2.2 h; cases this)
       obtain ⟨⟨r0, r1, r2, rf, -⟩, ⟨s0, s1, s2, sf, -⟩, hbv⟩ := HBX.out _ K5.out.2.1
       have HT := Hid.mk (And.intro hbv (set6_trio (And.intro r0 (And.intro r1 r2)) (And.intro s0 (And.intro s1 s2)) (Nat.ne_of_lt (Nat.lt_succ_self _)) (.int .i64 0) (.int .i64 0) (.slice none 0 0) (.int .i64 0) (.int .i64 0) (.slice none 0 0)))
       clear hbv
       go_wp2_with fail
       clear r0 r1 r2 rf s0 s1 s2 sf
       obtain ⟨⟨r0, r1, r2⟩, s0, s1, s2⟩ := id HT.out.2
       have HB := Hid.mk (set6_below HT.out.1 (Nat.le_refl _) (Nat.le_succ _) (.int .i64 0) (.int .i64 0) (.slice none 0 0) (.int .i64 0) (.int .i64 0) (.slice none 0 0))
       clear HT
       unfold set6 at r0 r1 r2 s0 s1 s2 HB
       generalize World.setCell _ _ _ = WW at r0 r1 r2 s0 s1 s2 HB ⊢
       refine bodyPost_ret (v := .tuple #[.agg #[.int .i64 0, .int .i64 0, .slice none 0 0], .agg #[.int .i64 0, .int .i64 0, .slice none 0 0], .int .i64 4]) ?_ rfl ?_
       ·clear HBX HB
        (simp [results, Tryd.results45, go_sem, r0, r1, r2, s0, s1, s2]; done)
       ·exact ⟨0, 0, 0, 0, none, none, 0, 0, 0, 0, 4, rfl, .inr ⟨i, hd, r, q, zs, i', hd', r', c, ys, HF.out.1.1, HF.out.1.2.1, HF.out.1.2.2.1, HF.out.2.1, HF.out.2.2.1, HF.out.2.2.2.1, .inr (.inl ⟨HQR.out, fun h => HNF.out h.2, rfl⟩)⟩, HB.out⟩
      ·have HFF : Hid (FitsP r q zs ∧ FitsP r' c ys) := Hid.mk ⟨K4.out.2.2.1 rfl, K5.out.2.2.1 rfl⟩
       obtain ⟨⟨r0, r1, r2, rf, hty⟩, ⟨s0, s1, s2, sf, htz⟩, hbv⟩ := HBX.out _ K5.out.2.1
       have HT := Hid.mk (And.intro hbv (And.intro hty (And.intro htz (set6_trio (And.intro r0 (And.intro r1 r2)) (And.intro s0 (And.intro s1 s2)) (Nat.ne_of_lt (Nat.lt_succ_self _)) (.int .i64 r) (.int .i64 q) (.slice ao n cap) (.int .i64 r') (.int .i64 c) (.slice bo n' cap')))))
       have n1 : v0.heap.size ≠ w1.heap.size := by omega
       have n2 : v0.heap.size ≠ w2.heap.size := by omega
       have n3 : v0.heap.size + 1 ≠ w1.heap.size := by omega
       have n4 : v0.heap.size + 1 ≠ w2.heap.size := by omega
       clear hbv hty htz
       go_wp2_with fail
       go_region_with fail
       all_goals
        go_wp2_with fail
        clear r0 r1 r2 rf s0 s1 s2 sf a0 a1 a2 a3 a4 a5
        obtain ⟨⟨r0, r1, r2⟩, s0, s1, s2⟩ := id HT.out.2.2.2
        have HB := Hid.mk (And.intro (set6_below HT.out.1 (Nat.le_refl _) (Nat.le_succ _) (.int .i64 r) (.int .i64 q) (.slice ao n cap) (.int .i64 r') (.int .i64 c) (.slice bo n' cap')) (set6_KT w4 HT.out.2.1 HT.out.2.2.1 (by decide) (by decide) (by decide) (by decide) (.int .i64 r) (.int .i64 q) (.slice ao n cap) (.int .i64 r') (.int .i64 c) (.slice bo n' cap')))
        clear HT
        unfold set6 at r0 r1 r2 s0 s1 s2 HB
        generalize World.setCell _ _ _ = WW at r0 r1 r2 s0 s1 s2 HB ⊢
        have HD : Hid (Below v0.heap.size v0 WW.drew ∧ KT w4 WW.drew) := Hid.mk (And.intro HB.out.1.drew HB.out.2)
        refine bodyPost_ret (v := .tuple #[.agg #[.int .i64 r, .int .i64 q, .slice ao n cap], .agg #[.int .i64 r', .int .i64 c, .slice bo n' cap'], .int .i64 0]) ?_ rfl ?_
        ·clear HBX HB HD
         (simp [results, Tryd.results45, go_sem, r0, r1, r2, s0, s1, s2]; done)
        ·have hqc : q = c := HQR.out
         refine ⟨r, q, r', c, ao, bo, n, n', cap, cap', 0, rfl, .inr ⟨i, hd, r, q, zs, i', hd', r', c, ys, HF.out.1.1, HF.out.1.2.1, HF.out.1.2.2.1, HF.out.2.1, HF.out.2.2.1, HF.out.2.2.2.1, .inr (.inr ⟨hqc, HFF.out, rfl, ?_, ?_⟩)⟩, HD.out.1⟩
         ·exact ((HF.out.1.2.2.2.below K5.out.1).tight HFF.out.1).keepT HD.out.2
         ·rw [hqc]
          exact ((HF.out.2.2.2.2.below K5.out.1).tight HFF.out.2).keepT HD.out.2
  ·have KN := Hid.mk hno
   clear hno
   obtain ⟨⟨r0, r1, r2, rf, -⟩, ⟨s0, s1, s2, sf, -⟩, hbv⟩ := HBX.out _ K2.out.2.2.1
   have HT := Hid.mk (And.intro hbv (set6_trio (And.intro r0 (And.intro r1 r2)) (And.intro s0 (And.intro s1 s2)) (Nat.ne_of_lt (Nat.lt_succ_self _)) (.int .i64 0) (.int .i64 0) (.slice none 0 0) (.int .i64 0) (.int .i64 0) (.slice none 0 0)))
   clear hbv
   rw [HX.out] at r0 r1 r2 rf s0 s1 s2 sf
   go_wp2_with fail
   clear r0 r1 r2 rf s0 s1 s2 sf
   rw [← HX.out]
   obtain ⟨⟨r0, r1, r2⟩, s0, s1, s2⟩ := id HT.out.2
   have HB := Hid.mk (set6_below HT.out.1 (Nat.le_refl _) (Nat.le_succ _) (.int .i64 0) (.int .i64 0) (.slice none 0 0) (.int .i64 0) (.int .i64 0) (.slice none 0 0))
   clear HT
   unfold set6 at r0 r1 r2 s0 s1 s2 HB
   generalize World.setCell _ _ _ = WW at r0 r1 r2 s0 s1 s2 HB ⊢
   refine bodyPost_ret (v := .tuple #[.agg #[.int .i64 0, .int .i64 0, .slice none 0 0], .agg #[.int .i64 0, .int .i64 0, .slice none 0 0], .int .i64 2]) ?_ rfl ?_
   ·clear HBX HB
    (simp [results, Tryd.results45, go_sem, r0, r1, r2, s0, s1, s2]; done)
   ·exact ⟨0, 0, 0, 0, none, none, 0, 0, 0, 0, 2, rfl, .inl ⟨.inr KN.out, rfl⟩, HB.out⟩
 ·have KN := Hid.mk hno
  clear hno
  obtain ⟨⟨r0, r1, r2, rf, -⟩, ⟨s0, s1, s2, sf, -⟩, hbv⟩ := HBX.out _ K2.out.2.2.1
  have HT := Hid.mk (And.intro hbv (set6_trio (And.intro r0 (And.intro r1 r2)) (And.intro s0 (And.intro s1 s2)) (Nat.ne_of_lt (Nat.lt_succ_self _)) (.int .i64 0) (.int .i64 0) (.slice none 0 0) (.int .i64 0) (.int .i64 0) (.slice none 0 0)))
  clear hbv
  rw [HX.out] at r0 r1 r2 rf s0 s1 s2 sf
  go_wp2_with fail
  clear r0 r1 r2 rf s0 s1 s2 sf
  rw [← HX.out]
  obtain ⟨⟨r0, r1, r2⟩, s0, s1, s2⟩ := id HT.out.2
  have HB := Hid.mk (set6_below HT.out.1 (Nat.le_refl _) (Nat.le_succ _) (.int .i64 0) (.int .i64 0) (.slice none 0 0) (.int .i64 0) (.int .i64 0) (.slice none 0 0))
  clear HT
  unfold set6 at r0 r1 r2 s0 s1 s2 HB
  generalize World.setCell _ _ _ = WW at r0 r1 r2 s0 s1 s2 HB ⊢
  refine bodyPost_ret (v := .tuple #[.agg #[.int .i64 0, .int .i64 0, .slice none 0 0], .agg #[.int .i64 0, .int .i64 0, .slice none 0 0], .int .i64 2]) ?_ rfl ?_
  ·clear HBX HB
   (simp [results, Tryd.results45, go_sem, r0, r1, r2, s0, s1, s2]; done)
  ·exact ⟨0, 0, 0, 0, none, none, 0, 0, 0, 0, 2, rfl, .inl ⟨.inl KN.out, rfl⟩, HB.out⟩
end Go.Proofs.YtfjbijpagaipnaaDoor
namespace Go.Proofs.YtfjbijpagaipnaaDoor.R
open Go.RowKit
end Go.Proofs.YtfjbijpagaipnaaDoor.R
namespace Go.Proofs.YtfjbijpagaipnaaDoor
open Go.RowKit
theorem cell_block {w w' : World} {g : Nat} (h : w'.heap[g]? = w.heap[g]?) (o : Nat) : w'.cell? ⟨g, o, none⟩ = w.cell? ⟨g, o, none⟩ := by simp only [World.cell?, h]
open Go.RowKit
def Tri (w : World) (b o : Nat) (x y z : Value) : Prop := w.cell? ⟨b, o, none⟩ = some x ∧ w.cell? ⟨b, o + 1, none⟩ = some y ∧ w.cell? ⟨b, o + 2, none⟩ = some z
theorem Tri.later {w w' : World} {b o : Nat} {x y z : Value} (h : Tri w b o x y z) (hb : Below w.heap.size w w') : Tri w' b o x y z := ⟨cell_later hb h.1, cell_later hb h.2.1, cell_later hb h.2.2⟩
theorem Tri.grown {w w' : World} {b o s : Nat} {x y z : Value} (h : Tri w b o x y z) (hg : w.grownBy w' (some s)) (hne : b ≠ s) : Tri w' b o x y z := ⟨hg.cell h.1 (by simpa using hne), hg.cell h.2.1 (by simpa using hne), hg.cell h.2.2 (by simpa using hne)⟩
set_option maxRecDepth 100000 in
set_option maxHeartbeats 2000000 in
theorem set_o (p o g r c cap row col : Nat) (zs : List Int) (L : Nat) (x : Value) (z : Int) (w : World) (hp : Tri w p o (.int .i64 r) (.int .i64 c) (.slice (some ⟨g, 0, none⟩) (r * c) cap)) (hg : Grid w (.slice (some ⟨g, 0, none⟩) (r * c) cap) (r * c) zs L) (hx : IsI w x z L) (hr : r ≤ 99) (hc : c ≤ 99) (h1 : row < r) (h2 : col < c) :
 Calls Tryd.prog 70 #[.pointer (some ⟨p, o, none⟩), .int .i64 row, .int .i64 col, x] w fun e w' => e = .returned (.tuple #[]) ∧ Grid w' (.slice (some ⟨g, 0, none⟩) (r * c) cap) (r * c) (zs.set (row * c + col) z) L ∧ w.grownBy w' (some g) ∧ KU w w' := by
 obtain ⟨p0, p1, p2⟩ := hp
 have hk := idx_lt h1 h2
 obtain ⟨nb, bo, m, ecap, c1, c2, -⟩ := hg.cell _ hk
 have f1 := hg.frozen (2 * (row * c + col))
 have f2 := hg.frozen (2 * (row * c + col) + 1)
 have hgl : g < w.heap.size := World.block_lt_of_cell? w _ c1
 have hh := hasB_in h1 h2
 obtain ⟨b1, b2⟩ := idx_bd hr hc h1
 obtain ⟨sl, xs, rfl, q2, q3, q4, q5⟩ := id hx
 obtain ⟨ao, dcap, rfl, -⟩ := q5.open_
 rw [Nat.mul_comm 2] at c1 c2 f1 f2
 have d1 := cell2 c1
 have d2 := cell2 c2
 have d3 := frozen2 f1 hgl
 have d4 := frozen2 f2 hgl
 have d5 : ∀ v, ∀ o1 o2, (((w.setCell ⟨g, (row * c + col) * 2, none⟩ v).alloc o1).alloc o2).cell? ⟨g, (row * c + col) * 2 + 1, none⟩ = some (.slice bo m ecap) := fun v => cell2 (by rw [World.cell?_setCell_other _ _ _ _ (by simp)]; exact c2)
 have d6 : ∀ v, ∀ o1 o2, (((w.setCell ⟨g, (row * c + col) * 2, none⟩ v).alloc o1).alloc o2).frozen? ⟨g, (row * c + col) * 2 + 1, none⟩ = false := fun v => frozen2 (by rw [World.frozen?_setCell]; exact f2) (by simp [World.setCell]; exact hgl)
 have e0 := cell2 p0
 have e1 := cell2 p1
 have e2 := cell2 p2
 have e0' := cell1 p0
 have e1' := cell1 p1
 have e2' := cell1 p2
 have HX := Hid.mk hx
 have HG := Hid.mk hg
 have HK := Hid.mk hk
 clear hx hg q2 q3 q4 q5 p0 p1 p2 c1 c2 f1 f2
 obtain ⟨nz, hnz⟩ : ∃ nz, nz = decide (z < 0) := ⟨_, rfl⟩
 rw [← hnz] at HX ⊢
 clear hnz
 obtain ⟨N, hN⟩ : ∃ N, N = r * c := ⟨_, rfl⟩
 rw [← hN] at hk e2 e2' HG ⊢
 have hk2 : (row : Int) * (c : Int) + (col : Int) < (N : Int) := by rw [← Int.natCast_mul]; omega
 clear hN HK
 go_enter Tryd.func70, Tryd.ntmps70
 go_wp2_with (go_at_call 85; refine (has_raw _ _ _ _ _ _ _ _).mono ?_; rintro e w' ⟨rfl, rfl⟩; rw [hh])
 go_region
 all_goals
  go_end0
  obtain ⟨S1, S2⟩ := HG.out.stored _ hk HX.out
  rw [Nat.mul_comm 2] at S1 S2
  refine ⟨rfl, ?_, ?_, ?_⟩
  ·refine S1.below ?_
   repeat (first | exact Below.refl _ _ | refine Below.drew ?_ | refine Below.alloc ?_ (by simp <;> omega) _)
  ·refine grown_set2 (i := (row * c + col) * 2) (j := (row * c + col) * 2 + 1) (a := .bool nz) (b := .slice ao xs.length dcap) ?_
   repeat (first | exact Below.refl _ _ | refine Below.drew ?_ | refine Below.alloc ?_ (by simp <;> omega) _)
  ·refine S2.trans (KU.of_below ?_)
   repeat (first | exact Below.refl _ _ | refine Below.drew ?_ | refine Below.alloc ?_ (by simp <;> omega) _)
structure MatO (w : World) (p o g r c : Nat) (zs : List Int) (L : Nat) : Prop where
 hr : r ≤ 99
 hc : c ≤ 99
 tri : Tri w p o (.int .i64 r) (.int .i64 c) (.slice (some ⟨g, 0, none⟩) (r * c) (r * c))
 grid : Grid w (.slice (some ⟨g, 0, none⟩) (r * c) (r * c)) (r * c) zs L
theorem MatO.isM {w : World} {p o g r c L : Nat} {zs : List Int} (h : MatO w p o g r c zs L) : IsM w (.agg #[.int .i64 r, .int .i64 c, .slice (some ⟨g, 0, none⟩) (r * c) (r * c)]) r c zs L := ⟨h.hr, h.hc, _, rfl, h.grid⟩
theorem MatO.later {w w' : World} {p o g r c L : Nat} {zs : List Int} (h : MatO w p o g r c zs L) (hb : Below w.heap.size w w') : MatO w' p o g r c zs L := ⟨h.hr, h.hc, h.tri.later hb, h.grid.below hb⟩
theorem MatO.mono {w : World} {p o g r c L M : Nat} {zs : List Int} (h : MatO w p o g r c zs L) (hLM : L ≤ M) : MatO w p o g r c zs M := by
 refine ⟨h.hr, h.hc, h.tri, ?_⟩
 obtain ⟨h0, cs, h1, h2⟩ := h.grid
 refine ⟨h0, cs, h1, fun i hi => ?_⟩
 obtain ⟨a, b, e1, e2, e3⟩ := h2 i hi
 exact ⟨a, b, e1, e2, e3.mono hLM⟩
theorem MatO.len {w : World} {p o g r c L : Nat} {zs : List Int} (h : MatO w p o g r c zs L) : zs.length = r * c := h.grid.1
theorem MatO.glt {w : World} {p o g r c L : Nat} {zs : List Int} (h : MatO w p o g r c zs L) : g < w.heap.size := h.grid.ty.lt
theorem MatO.plt {w : World} {p o g r c L : Nat} {zs : List Int} (h : MatO w p o g r c zs L) : p < w.heap.size := World.block_lt_of_cell? w _ h.tri.1
theorem set_m (p o g r c row col : Nat) (zs : List Int) (L : Nat) (x : Value) (z : Int) (w : World) (hm : MatO w p o g r c zs L) (hpg : p ≠ g) (hx : IsI w x z L) (h1 : row < r) (h2 : col < c) :
 Calls Tryd.prog 70 #[.pointer (some ⟨p, o, none⟩), .int .i64 row, .int .i64 col, x] w fun e w' => e = .returned (.tuple #[]) ∧ MatO w' p o g r c (zs.set (row * c + col) z) L ∧ w.grownBy w' (some g) ∧ KU w w' := by
 refine (set_o p o g r c (r * c) row col zs L x z w hm.tri hm.grid hx hm.hr hm.hc h1 h2).mono ?_
 rintro e w' ⟨rfl, a, b, d⟩
 exact ⟨rfl, ⟨hm.hr, hm.hc, hm.tri.grown b hpg, a⟩, b, d⟩
def ent (c : Nat) (zs : List Int) (i j : Nat) : Int := zs.getD (i * c + j) 0
theorem ent_set (ms : List Int) (r c : Nat) (hl : ms.length = r * c) (a e i j : Nat) (z : Int) (ha : a < r) (he : e < c) (hj : j < c) : ent c (ms.set (a * c + e) z) i j = if i = a ∧ j = e then z else ent c ms i j := by
 unfold ent
 by_cases h : i = a ∧ j = e
 ·obtain ⟨rfl, rfl⟩ := h
  have : i * c + j < ms.length := by rw [hl]; exact idx_lt ha he
  rw [if_pos ⟨rfl, rfl⟩]
  simp [List.getD, this]
 ·rw [if_neg h]
  have hne : a * c + e ≠ i * c + j := fun e' => by
   obtain ⟨h1, h2⟩ := idx_inj he hj e'
   exact h ⟨h1.symm, h2.symm⟩
  simp [List.getD, List.getElem?_set_ne hne]
open Go.RowKit
theorem list_ent {r c : Nat} {xs ys : List Int} (h1 : xs.length = r * c) (h2 : ys.length = r * c) (h : ∀ i j, i < r → j < c → ent c xs i j = ent c ys i j) : xs = ys := by
 apply List.ext_getElem (by omega)
 intro t a b
 have hc : 0 < c := by
  rcases Nat.eq_zero_or_pos c with h0 | h0
  ·subst h0; rw [Nat.mul_zero] at h1; omega
  ·exact h0
 have h3 : t / c < r := by rw [Nat.div_lt_iff_lt_mul hc]; omega
 have h4 := Nat.mod_lt t hc
 have h5 : t / c * c + t % c = t := by rw [Nat.mul_comm]; exact Nat.div_add_mod t c
 have h6 := h (t / c) (t % c) h3 h4
 unfold ent at h6
 rw [h5] at h6
 simpa [List.getD, a, b] using h6
open Go.RowKit
theorem KU.of_grown {w w' : World} {g : Nat} {t : TypeId} (h : w.grownBy w' (some g)) (ht : Ty w g t) (hne : t ≠ 117) : KU w w' := by
 intro b arr hb
 rw [h.block b (Array.getElem?_eq_some_iff.1 hb).1 ?_]
 ·exact hb
 ·intro e
  simp only [Option.some.injEq] at e
  subst e
  obtain ⟨c, fr, hc⟩ := ht
  rw [hb] at hc
  simp only [Option.some.injEq, Obj.cells.injEq] at hc
  exact hne hc.2.1.symm
theorem Grid.grown {w w' : World} {g : Nat} {sl : Value} {n L : Nat} {zs : List Int} (h : Grid w sl n zs L) (hg : w.grownBy w' (some g)) (hn : ∀ a m c, sl = .slice (some a) m c → a.block ≠ g) (hk : KU w w') : Grid w' sl n zs L := by
 obtain ⟨h0, cs, h1, h2⟩ := h
 refine ⟨h0, cs, ⟨h1.1, ?_⟩, fun i hi => ?_⟩
 ·rcases h1.2 with h3 | ⟨g', cap, cur, hv, hg', hh, r⟩
  ·exact .inl h3
  ·exact .inr ⟨g', cap, cur, hv, hg', by rw [hg.block g' (Array.getElem?_eq_some_iff.1 hh).1 (by simpa using hn _ _ _ hv)]; exact hh, r⟩
 ·obtain ⟨a, b, e1, e2, e3⟩ := h2 i hi
  exact ⟨a, b, e1, e2, e3.keep hk⟩
theorem MatO.other {w w' : World} {p o g g' r c L : Nat} {zs : List Int} (h : MatO w p o g r c zs L) (hg : w.grownBy w' (some g')) (hk : KU w w') (hp : p ≠ g') (hne : g ≠ g') : MatO w' p o g r c zs L :=
 ⟨h.hr, h.hc, h.tri.grown hg hp, h.grid.grown hg (fun a m c e => by
   simp only [Value.slice.injEq, Option.some.injEq] at e
   obtain ⟨rfl, -, -⟩ := e
   exact hne) hk⟩
def sw (a b i : Nat) : Nat := if i = a then b else if i = b then a else i
def SwTo (r c a b e : Nat) (zs ms : List Int) : Prop := ∀ i j, i < r → j < c → ent c ms i j = ent c zs (if j < e then sw a b i else i) j
theorem SwTo.step {r c a b e : Nat} {zs ms : List Int} (h : SwTo r c a b e zs ms) (hl : ms.length = r * c) (ha : a < r) (hb : b < r) (he : e < c) {u l : Int} (hu : u = ent c ms a e) (hlo : l = ent c ms b e) : SwTo r c a b (e + 1) zs ((ms.set (a * c + e) l).set (b * c + e) u) := by
 intro i j hi hj
 rw [ent_set _ r c (by simpa using hl) b e i j u hb he hj, ent_set ms r c hl a e i j l ha he hj]
 have hua := h a e ha he
 have hlb := h b e hb he
 rw [if_neg (Nat.lt_irrefl e)] at hua hlb
 by_cases hje : j = e
 ·subst hje
  rw [if_pos (Nat.lt_succ_self j)]
  by_cases hib : i = b
  ·rw [if_pos ⟨hib, rfl⟩, hu, hua, hib]
   unfold sw
   by_cases hba : b = a
   ·rw [if_pos hba, hba]
   ·rw [if_neg hba, if_pos rfl]
  ·rw [if_neg (fun h => hib h.1)]
   by_cases hia : i = a
   ·rw [if_pos ⟨hia, rfl⟩, hlo, hlb, hia]
    unfold sw
    rw [if_pos rfl]
   ·rw [if_neg (fun h => hia h.1), h i j hi hj, if_neg (Nat.lt_irrefl j)]
    unfold sw
    rw [if_neg hia, if_neg hib]
 ·rw [if_neg (fun h => hje h.2), if_neg (fun h => hje h.2), h i j hi hj]
  by_cases hlt : j < e
  ·rw [if_pos hlt, if_pos (by omega)]
  ·rw [if_neg hlt, if_neg (by omega)]
def StepO (w w' : World) (p o g r c : Nat) (f : Nat → Nat → Int) (L : Nat) : Prop := (∃ ms, MatO w' p o g r c ms L ∧ ∀ i j, i < r → j < c → ent c ms i j = f i j) ∧ w.grownBy w' (some g)
set_option maxRecDepth 100000 in
set_option maxHeartbeats 4000000 in
theorem swapRows_any (p o g r c a b : Nat) (zs : List Int) (L : Nat) (w : World) (hm : MatO w p o g r c zs L) (hpg : p ≠ g) (ha : a < r) (hb : b < r) :
 Calls Tryd.prog 98 #[.pointer (some ⟨p, o, none⟩), .int .i64 a, .int .i64 b] w fun e w' => e = .returned (.tuple #[]) ∧ StepO w w' p o g r c (fun i j => ent c zs (sw a b i) j) L := by
 have H := Hid.mk hm
 have hr := hm.hr
 have hc := hm.hc
 clear hm
 go_enter Tryd.func98, Tryd.ntmps98
 go_wp2_with fail
 go_loopw [6] (fun i wr => ∃ (e : Nat) (ms : List Int), e ≤ c ∧ i = .int .i64 e ∧ Hid (MatO wr p o g r c ms L ∧ w.grownBy wr (some g) ∧ SwTo r c a b e zs ms)) (fun i _ => c - (intOf i).toNat)
 case atStart => exact ⟨0, zs, Nat.zero_le _, rfl, Hid.mk ⟨H.out, World.grownBy.refl _ _, fun i j _ _ => by simp⟩⟩
 case round =>
  obtain ⟨e, ms, he, rfl, HI⟩ := hrel
  obtain ⟨q0, q1, q2⟩ := HI.out.1.tri
  have hgl := HI.out.1.glt
  have hpl := HI.out.1.plt
  by_cases hec : e < c
  ·have hei : (e : Int) < (c : Int) := by omega
   go_wp2_with fail
   refine (at_in _ r c a e ms L _ HI.out.1.isM ha hec).mono ?_
   rintro e9 w1 ⟨x, rfl, hx, hb1⟩
   obtain ⟨nb1, so1, n1, cp1, rfl⟩ := hx.shape
   have hb11 := (Below.refl w1.heap.size w1).alloc (Nat.le_refl _) (.cells #[.bool nb1, .slice so1 n1 cp1] 78)
   have hbA := hb1.trans (hb11.mono hb1.size)
   have hw1 := hb1.size
   obtain ⟨d0, d1, d2⟩ := HI.out.1.tri.later hbA
   have K1 := Hid.mk (And.intro hbA (And.intro (hx.below hb11) (Duo.new w1 (.bool nb1) (.slice so1 n1 cp1) rfl)))
   clear hx hb1 hb11 hbA q0 q1 q2
   go_wp2_with fail
   refine (at_in _ r c b e ms L _ (HI.out.1.isM.below K1.out.1) hb hec).mono ?_
   rintro e9 w2 ⟨x, rfl, hx, hb2⟩
   obtain ⟨nb2, so2, n2, cp2, rfl⟩ := hx.shape
   have hs2 : w1.heap.size + 1 ≤ w2.heap.size := by have := hb2.size; simpa using this
   have hb22 := (Below.refl w2.heap.size w2).alloc (Nat.le_refl _) (.cells #[.bool nb2, .slice so2 n2 cp2] 78)
   have hbB := K1.out.1.trans ((hb2.trans (hb22.mono hb2.size)).mono (by simp; omega))
   have hU := (K1.out.2.2.below hb2 (by simp)).below hb22 (by omega)
   have K2 := Hid.mk (And.intro hbB (And.intro (hx.below hb22) (And.intro ((K1.out.2.1.below hb2).below hb22) hU)))
   clear hx hb2 hb22 hbB hU d0 d1 d2
   go_wp2_with fail
   refine (set_m p o g r c a e ms L _ _ _ (HI.out.1.later K2.out.1) hpg K2.out.2.1 ha hec).mono ?_
   rintro e9 w3 ⟨rfl, hM3, hgr3, hku3⟩
   have hU3 : Duo w3 w1.heap.size (.bool nb1) (.slice so1 n1 cp1) := by
    unfold Duo
    rw [hgr3.block _ (by simp; omega) (by simp; omega)]
    exact K2.out.2.2.2
   obtain ⟨u0, u1, -, -⟩ := hU3.cells
   have K3 := Hid.mk (And.intro hM3 (And.intro hgr3 (K2.out.2.2.1.keep hku3)))
   clear hM3 hgr3 hku3 hU3
   go_wp2_with fail
   refine (set_m p o g r c b e _ L _ _ _ K3.out.1 hpg K3.out.2.2 hb hec).mono ?_
   rintro e9 w4 ⟨rfl, hM4, hgr4, -⟩
   have K4 := Hid.mk (And.intro hM4 (grown_trans (grown_trans (grown_below HI.out.2.1 K2.out.1) K3.out.2.1) hgr4))
   clear hM4 hgr4 u0 u1
   go_wp2_with fail
   go_roundw
   case measure => simp [intOf]; omega
   case rel => exact ⟨e + 1, _, by omega, by go_num, Hid.mk ⟨K4.out.1, K4.out.2, HI.out.2.2.step HI.out.1.len ha hb hec rfl rfl⟩⟩
  ·have hei : ¬ (e : Int) < (c : Int) := by omega
   have hee : e = c := by omega
   have HEE := Hid.mk hee
   clear hee
   go_wp2_with fail
   go_end0
   refine ⟨rfl, ⟨ms, HI.out.1, fun i j hi hj => ?_⟩, HI.out.2.1⟩
   rw [HI.out.2.2 i j hi hj, if_pos (by have := HEE.out; omega)]
def SwCTo (r c a b e : Nat) (zs ms : List Int) : Prop := ∀ i j, i < r → j < c → ent c ms i j = ent c zs i (if i < e then sw a b j else j)
theorem SwCTo.step {r c a b e : Nat} {zs ms : List Int} (h : SwCTo r c a b e zs ms) (hl : ms.length = r * c) (ha : a < c) (hb : b < c) (he : e < r) {u l : Int} (hu : u = ent c ms e a) (hlo : l = ent c ms e b) : SwCTo r c a b (e + 1) zs ((ms.set (e * c + a) l).set (e * c + b) u) := by
 intro i j hi hj
 rw [ent_set _ r c (by simpa using hl) e b i j u he hb hj, ent_set ms r c hl e a i j l he ha hj]
 have hua := h e a he ha
 have hlb := h e b he hb
 rw [if_neg (Nat.lt_irrefl e)] at hua hlb
 by_cases hie : i = e
 ·subst hie
  rw [if_pos (Nat.lt_succ_self i)]
  by_cases hjb : j = b
  ·rw [if_pos ⟨rfl, hjb⟩, hu, hua, hjb]
   unfold sw
   by_cases hba : b = a
   ·rw [if_pos hba, hba]
   ·rw [if_neg hba, if_pos rfl]
  ·rw [if_neg (fun h => hjb h.2)]
   by_cases hja : j = a
   ·rw [if_pos ⟨rfl, hja⟩, hlo, hlb, hja]
    unfold sw
    rw [if_pos rfl]
   ·rw [if_neg (fun h => hja h.2), h i j hi hj, if_neg (Nat.lt_irrefl i)]
    unfold sw
    rw [if_neg hja, if_neg hjb]
 ·rw [if_neg (fun h => hie h.1), if_neg (fun h => hie h.1), h i j hi hj]
  by_cases hlt : i < e
  ·rw [if_pos hlt, if_pos (by omega)]
  ·rw [if_neg hlt, if_neg (by omega)]
set_option maxRecDepth 100000 in
set_option maxHeartbeats 4000000 in
theorem swapCols_any (p o g r c a b : Nat) (zs : List Int) (L : Nat) (w : World) (hm : MatO w p o g r c zs L) (hpg : p ≠ g) (ha : a < c) (hb : b < c) :
 Calls Tryd.prog 99 #[.pointer (some ⟨p, o, none⟩), .int .i64 a, .int .i64 b] w fun e w' => e = .returned (.tuple #[]) ∧ StepO w w' p o g r c (fun i j => ent c zs i (sw a b j)) L := by
 have H := Hid.mk hm
 have hr := hm.hr
 have hc := hm.hc
 clear hm
 go_enter Tryd.func99, Tryd.ntmps99
 go_wp2_with fail
 go_loopw [6] (fun i wr => ∃ (e : Nat) (ms : List Int), e ≤ r ∧ i = .int .i64 e ∧ Hid (MatO wr p o g r c ms L ∧ w.grownBy wr (some g) ∧ SwCTo r c a b e zs ms)) (fun i _ => r - (intOf i).toNat)
 case atStart => exact ⟨0, zs, Nat.zero_le _, rfl, Hid.mk ⟨H.out, World.grownBy.refl _ _, fun i j _ _ => by simp⟩⟩
 case round =>
  obtain ⟨e, ms, he, rfl, HI⟩ := hrel
  obtain ⟨q0, q1, q2⟩ := HI.out.1.tri
  have hgl := HI.out.1.glt
  have hpl := HI.out.1.plt
  by_cases hec : e < r
  ·have hei : (e : Int) < (r : Int) := by omega
   go_wp2_with fail
   refine (at_in _ r c e a ms L _ HI.out.1.isM hec ha).mono ?_
   rintro e9 w1 ⟨x, rfl, hx, hb1⟩
   obtain ⟨nb1, so1, n1, cp1, rfl⟩ := hx.shape
   have hb11 := (Below.refl w1.heap.size w1).alloc (Nat.le_refl _) (.cells #[.bool nb1, .slice so1 n1 cp1] 78)
   have hbA := hb1.trans (hb11.mono hb1.size)
   have hw1 := hb1.size
   obtain ⟨d0, d1, d2⟩ := HI.out.1.tri.later hbA
   have K1 := Hid.mk (And.intro hbA (And.intro (hx.below hb11) (Duo.new w1 (.bool nb1) (.slice so1 n1 cp1) rfl)))
   clear hx hb1 hb11 hbA q0 q1 q2
   go_wp2_with fail
   refine (at_in _ r c e b ms L _ (HI.out.1.isM.below K1.out.1) hec hb).mono ?_
   rintro e9 w2 ⟨x, rfl, hx, hb2⟩
   obtain ⟨nb2, so2, n2, cp2, rfl⟩ := hx.shape
   have hs2 : w1.heap.size + 1 ≤ w2.heap.size := by have := hb2.size; simpa using this
   have hb22 := (Below.refl w2.heap.size w2).alloc (Nat.le_refl _) (.cells #[.bool nb2, .slice so2 n2 cp2] 78)
   have hbB := K1.out.1.trans ((hb2.trans (hb22.mono hb2.size)).mono (by simp; omega))
   have hU := (K1.out.2.2.below hb2 (by simp)).below hb22 (by omega)
   have K2 := Hid.mk (And.intro hbB (And.intro (hx.below hb22) (And.intro ((K1.out.2.1.below hb2).below hb22) hU)))
   clear hx hb2 hb22 hbB hU d0 d1 d2
   go_wp2_with fail
   refine (set_m p o g r c e a ms L _ _ _ (HI.out.1.later K2.out.1) hpg K2.out.2.1 hec ha).mono ?_
   rintro e9 w3 ⟨rfl, hM3, hgr3, hku3⟩
   have hU3 : Duo w3 w1.heap.size (.bool nb1) (.slice so1 n1 cp1) := by
    unfold Duo
    rw [hgr3.block _ (by simp; omega) (by simp; omega)]
    exact K2.out.2.2.2
   obtain ⟨u0, u1, -, -⟩ := hU3.cells
   have K3 := Hid.mk (And.intro hM3 (And.intro hgr3 (K2.out.2.2.1.keep hku3)))
   clear hM3 hgr3 hku3 hU3
   go_wp2_with fail
   refine (set_m p o g r c e b _ L _ _ _ K3.out.1 hpg K3.out.2.2 hec hb).mono ?_
   rintro e9 w4 ⟨rfl, hM4, hgr4, -⟩
   have K4 := Hid.mk (And.intro hM4 (grown_trans (grown_trans (grown_below HI.out.2.1 K2.out.1) K3.out.2.1) hgr4))
   clear hM4 hgr4 u0 u1
   go_wp2_with fail
   go_roundw
   case measure => simp [intOf]; omega
   case rel => exact ⟨e + 1, _, by omega, by go_num, Hid.mk ⟨K4.out.1, K4.out.2, HI.out.2.2.step HI.out.1.len ha hb hec rfl rfl⟩⟩
  ·have hei : ¬ (e : Int) < (r : Int) := by omega
   have hee : e = r := by omega
   have HEE := Hid.mk hee
   clear hee
   go_wp2_with fail
   go_end0
   refine ⟨rfl, ⟨ms, HI.out.1, fun i j hi hj => ?_⟩, HI.out.2.1⟩
   rw [HI.out.2.2 i j hi hj, if_pos (by have := HEE.out; omega)]
end Go.Proofs.YtfjbijpagaipnaaDoor
