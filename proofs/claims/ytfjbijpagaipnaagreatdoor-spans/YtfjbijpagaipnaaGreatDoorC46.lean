import Derived.Test.YtfjbijpagaipnaaGreatDoorC45
import Derived.Test.YtfjbijpagaipnaaGreatDoorC22
namespace Go.Proofs.YtfjbijpagaipnaaGreatDoor
open Go.RowKit R
def MemOut (ms : List Hm) (nx : Nat) (r q : Nat) (zs ys : List Int) (y : Bool) (k e : Int) (ms' : List Hm) (nx' : Nat) : Prop :=
 ((¬ Sp (ent q zs) r q (ent q ys 0) ∧ HasF (ent q zs) r q) ∧ y = false ∧ k = -1 ∧ e = 0 ∧ ms' = ms ∧ nx' = nx) ∨
 ((Sp (ent q zs) r q (ent q ys 0) ∧ HasF (ent q zs) r q) ∧ (∀ i, i < 24 → ms.getD i none ≠ none) ∧ y = false ∧ k = -1 ∧ e = 5 ∧ ms' = ms ∧ nx' = nx) ∨
 ((Sp (ent q zs) r q (ent q ys 0) ∧ HasF (ent q zs) r q) ∧ y = true ∧ k = (nx : Int) ∧ e = 0 ∧ ∃ n xs, MemIs r q zs ys xs ∧ FreeAt ms n ∧ ms' = ms.set n (some (nx, 1, r, xs)) ∧ nx' = nx + 1)
theorem member_case {es : List Ent} {ms : List Hm} {nx : Nat} {g h k e want : Int} {a b : Value} {y : Bool} {ms' : List Hm} {nx' : Nat} (hd : Dst ms) (hp : PairG (fun _ q q' c => q' = 1 ∧ c = q) es ms g h a b want) (ht : MemRel ms nx g h y k e ms' nx') :
 ((want = 2 ∨ want = 3 ∨ want = 4) ∧ e = want ∧ y = false ∧ k = -1 ∧ ms' = ms ∧ nx' = nx) ∨
 (want = 0 ∧ ∃ e1 e2 i r q zs j ys, e1 ∈ es ∧ e2 ∈ es ∧ i < 24 ∧ ms.getD i none = some (e1.1, r, q, zs) ∧ j < 24 ∧ ms.getD j none = some (e2.1, 1, q, ys) ∧ FitsP r q zs ∧ FitsP 1 q ys ∧ a = .pointer (some ⟨e1.2.2, 0, none⟩) ∧ b = .pointer (some ⟨e2.2.2, 0, none⟩) ∧ MemOut ms nx r q zs ys y k e ms' nx') := by
 rcases ht with ⟨hn, rfl, rfl, rfl, rfl, rfl⟩ | ⟨i, d, r, q, zs, j, d', r', c, ys, hi, hx, hxg, hj, hy, hyh, ht⟩
 ·exact .inl ⟨.inl (hp.no hn), (hp.no hn).symm, rfl, rfl, rfl, rfl⟩
 ·obtain ⟨e1, e2, m1, m2, rfl, rfl, hp⟩ := hp.yes hd hi hx hxg hj hy hyh
  rcases hp with ⟨p1, rfl⟩ | ⟨p1, p2, rfl⟩ | ⟨p1, p2, rfl, rfl, rfl⟩
  ·rcases ht with ⟨-, rfl, rfl, rfl, rfl, rfl⟩ | ⟨t1, -⟩ | ⟨t1, -⟩ | ⟨t1, -⟩ | ⟨t1, -⟩
   ·exact .inl ⟨.inr (.inl rfl), rfl, rfl, rfl, rfl, rfl⟩
   all_goals exact absurd t1 p1
  ·rcases ht with ⟨t1, -⟩ | ⟨-, -, rfl, rfl, rfl, rfl, rfl⟩ | ⟨-, t2, -⟩ | ⟨-, t2, -⟩ | ⟨-, t2, -⟩
   ·exact absurd p1 t1
   ·exact .inl ⟨.inr (.inr rfl), rfl, rfl, rfl, rfl, rfl⟩
   all_goals exact absurd t2 p2
  ·rcases ht with ⟨t1, -⟩ | ⟨-, t2, -⟩ | ⟨⟨rfl, rfl⟩, -, t3⟩ | ⟨⟨rfl, rfl⟩, -, t3⟩ | ⟨⟨rfl, rfl⟩, -, t3⟩
   ·exact absurd p1 t1
   ·exact absurd p2 t2
   ·exact .inr ⟨rfl, e1, e2, i, r, _, zs, j, ys, m1, m2, hi, hx, hj, hy, p2.1, p2.2, rfl, rfl, .inl t3⟩
   ·exact .inr ⟨rfl, e1, e2, i, r, _, zs, j, ys, m1, m2, hi, hx, hj, hy, p2.1, p2.2, rfl, rfl, .inr (.inl t3)⟩
   ·exact .inr ⟨rfl, e1, e2, i, r, _, zs, j, ys, m1, m2, hi, hx, hj, hy, p2.1, p2.2, rfl, rfl, .inr (.inr t3)⟩
set_option maxRecDepth 100000 in
set_option maxHeartbeats 4000000 in
theorem member_any (B W T b1 b2 : Nat) (ms : List Hm) (nx : Nat) (es : List Ent) (g h : Int) (w : World) (hI : LInv B w W T b1 b2 ms nx es) (hnx : nx < 1000000) :
 Calls Tryz.prog 67 #[.pointer (some ⟨W, 0, none⟩), .int .i64 g, .int .i64 h] w fun x w' => x = .returned (.bool true) ∧ StepOut B w w' W T b1 b2 nx := by
 have hB := hI.size
 have hle := hI.le24
 have H := Hid.mk hI
 clear hI
 go_enter Tryz.func67, Tryz.ntmps67
 go_wp2_with fail
 refine (pair_member B W T b1 b2 ms nx es g h _ H.out).mono ?_
 rintro x w1 ⟨⟨a, b, want, rfl, hp⟩, hb1⟩
 have hI1 := H.out.below hb1
 obtain ⟨ioa, icap, loa, lcap, tv, c0, -⟩ := hI1.lcells
 have K1 := Hid.mk (And.intro hp (And.intro hb1 hI1))
 have hw1 := hb1.size
 clear hp hb1 hI1
 go_wp2_with fail
 refine (twMember_any B T b1 b2 g h ms nx _ K1.out.2.2.1 H.out.2.2.dst hnx).mono ?_
 rintro x w2 ⟨y, k, e, ms', nx', rfl, hrel, hT2, hC2⟩
 have hcase := member_case H.out.2.2.dst K1.out.1 hrel
 have hbel2 : Below B w w2 := (K1.out.2.1.mono hB).trans (hC2.below (St2.le H.out.1.2.2.2.2.2.2.1 H.out.1.2.2.2.2.2.2.2) (by omega))
 have hrows := K1.out.2.2.stores hC2
 have hw2 := hbel2.size
 have K2 := Hid.mk (And.intro hT2 (And.intro hrows (And.intro hbel2 hcase)))
 clear hrel hT2 hC2 hcase hbel2 hrows c0
 have hnum := H.out.2.2.num
 have hcf := cnt_full H.out.2.2.len
 have HCF := Hid.mk (And.intro hnum hcf)
 clear hnum hcf
 rcases K2.out.2.2.2 with ⟨hz, rfl, rfl, rfl, rfl, rfl⟩ | ⟨rfl, e1, e2, i, r, q, zs, j, ys, m1, m2, hi, hx, hj, hy, f1, f2, rfl, rfl, hout⟩
 ·have HF : Hid (StepOut B w w2 W T b1 b2 nx') := Hid.mk ⟨⟨ms', nx', es, ⟨K2.out.1, K2.out.2.1, H.out.2.2⟩, by omega⟩, K2.out.2.2.1⟩
  rcases hz with rfl | rfl | rfl
  ·go_wp2_with fail
   go_ret
   exact ⟨rfl, HF.out⟩
  ·go_wp2_with fail
   go_ret
   exact ⟨rfl, HF.out⟩
  ·go_wp2_with fail
   go_ret
   exact ⟨rfl, HF.out⟩
 ·have hM := K2.out.2.1
  obtain ⟨hv1, iv1, lv1, tv1, hL1, hI1, -, -, -, hM1, -⟩ := hM
  obtain ⟨t1, g1, -⟩ := K1.out.2.2.entry m1 hi hx rfl
  obtain ⟨t2, g2, -⟩ := K1.out.2.2.entry m2 hj hy rfl
  obtain ⟨lo1, hi1, hm1⟩ := hM1.find m1 t1 g1
  obtain ⟨lo2, hi2, hm2⟩ := hM1.find m2 t2 g2
  obtain ⟨gs1, hR1⟩ := hm1.isR
  obtain ⟨gs2, hR2⟩ := hm2.isR
  have hr4 := f1.1
  have hq4 := f1.2.1
  have KL := Hid.mk (And.intro hL1 hI1)
  have HD := Hid.mk (And.intro m1 (And.intro m2 (And.intro hi (And.intro hx (And.intro hj (And.intro hy (And.intro f1 (And.intro f2 hout))))))))
  obtain ⟨p1, hp1⟩ : ∃ p1, p1 = e1.2.2 := ⟨_, rfl⟩
  obtain ⟨p2, hp2⟩ : ∃ p2, p2 = e2.2.2 := ⟨_, rfl⟩
  rw [← hp1] at hR1 ⊢
  rw [← hp2] at hR2 ⊢
  have HPP := Hid.mk (And.intro hp1 hp2)
  have HR := Hid.mk (And.intro (hR1.tight (fits_fz f1)) (hR2.tight (fits_fz f2)))
  clear hM1 hL1 hI1 m1 m2 hi hx hj hy f1 f2 hm1 hm2 hR1 hR2 hp1 hp2 t1 t2 g1 g2 hout
  go_wp2_with fail
  refine (spans_any p1 p2 r 1 q gs1 gs2 (fz q zs) (fz q ys) lo1 lo2 4 _ HR.out.1 HR.out.2 (by omega) (by omega) (by omega)).mono ?_
  rintro x w3 ⟨can, rfl, hcan, hb3⟩
  have hcan' : HasF (ent q zs) r q → (can = true ↔ Sp (ent q zs) r q (ent q ys 0)) := fun hF => by
   rw [hcan]
   refine (HasF.say (N := fz q ys) (n := 1) hF hr4 hq4).trans ⟨fun h => h 0 (by omega), fun h i hi => ?_⟩
   obtain rfl : i = 0 := by omega
   exact h
  have K3 := Hid.mk (And.intro hcan' hb3)
  have hw3 := hb3.size
  clear hcan hcan' hb3
  rcases HD.out.2.2.2.2.2.2.2.2 with ⟨⟨s1, s2⟩, rfl, rfl, rfl, hms, hnx'⟩ | ⟨⟨s1, s2⟩, hful, rfl, rfl, rfl, hms, hnx'⟩ | ⟨⟨s1, s2⟩, rfl, rfl, rfl, n, xs, hmem, hn, hms, hnx'⟩
  ·have HF : Hid (StepOut B w w3 W T b1 b2 nx) := Hid.mk (by
    have hT := K2.out.1
    rw [hms, hnx'] at hT
    exact ⟨⟨ms, nx, es, (show LInv B w2 W T b1 b2 ms nx es from ⟨hT, K2.out.2.1, H.out.2.2⟩).below K3.out.2, by omega⟩, K2.out.2.2.1.trans (K3.out.2.mono (by omega))⟩)
   obtain rfl : can = false := by
    cases can
    ·rfl
    ·exact absurd ((K3.out.1 s2).1 rfl) s1
   clear s1 s2 hms hnx'
   go_wp2_with fail
   go_ret
   exact ⟨rfl, HF.out⟩
  ·obtain rfl : can = true := (K3.out.1 s2).2 s1
   have HF : Hid (StepOut B w w3 W T b1 b2 nx) := Hid.mk (by
    have hT := K2.out.1
    rw [hms, hnx'] at hT
    exact ⟨⟨ms, nx, es, (show LInv B w2 W T b1 b2 ms nx es from ⟨hT, K2.out.2.1, H.out.2.2⟩).below K3.out.2, by omega⟩, K2.out.2.2.1.trans (K3.out.2.mono (by omega))⟩)
   have HFU := Hid.mk hful
   clear s1 s2 hms hnx' hful
   go_wp2_with fail
   refine (full_raw W T nx 1 _ _ _ _ es _ (by omega) (KL.out.1.of_block (K3.out.2.block W KL.out.1.lt)) (KL.out.2.below K3.out.2) hle).mono ?_
   rintro x w' ⟨rfl, rfl⟩
   have hfl : decide (24 < es.length + 1) = true := decide_eq_true (by have h1 := HCF.out.1; have h2 := HCF.out.2.2 HFU.out; omega)
   rw [hfl]
   clear hfl
   go_wp2_with fail
   go_ret
   exact ⟨rfl, HF.out⟩
  ·obtain rfl : can = true := (K3.out.1 s2).2 s1
   have HN := Hid.mk (And.intro s1 (And.intro hmem (And.intro hn (And.intro hms hnx'))))
   clear s1 s2 hmem hn hms hnx'
   go_wp2_with fail
   refine (full_raw W T nx 1 _ _ _ _ es _ (by omega) (KL.out.1.of_block (K3.out.2.block W KL.out.1.lt)) (KL.out.2.below K3.out.2) hle).mono ?_
   rintro x w' ⟨rfl, rfl⟩
   have hne24 : es.length ≠ 24 := fun h => absurd HN.out.2.2.1.2.1 ((HCF.out.2.1 (by rw [← HCF.out.1]; exact h)) n HN.out.2.2.1.1)
   have hfl : decide (24 < es.length + 1) = false := decide_eq_false (by omega)
   rw [hfl]
   clear hfl hne24
   go_wp2_with fail
   have hT3 : TwH B w' T b1 b2 (ms.set n (some (nx, 1, r, xs))) (nx + 1) := by
    have hT := K2.out.1
    rw [HN.out.2.2.2.1, HN.out.2.2.2.2] at hT
    exact hT.below K3.out.2
   have hmi : (ms.set n (some (nx, 1, r, xs))).getD n none = some (nx, 1, r, xs) := by rw [hm_set (by rw [H.out.2.2.len]; exact HN.out.2.2.1.1), if_pos rfl]
   have hfine : Fine 1 r xs := hT3.2.1.fine HN.out.2.2.1.1 hmi (by omega) hr4
   refine (held_new B W T b1 b2 n 1 r nx ms es xs _ hT3 (K2.out.2.1.below K3.out.2) H.out.2.2 HN.out.2.2.1 hfine hnx hle (by omega)).mono ?_
   rintro x w5 ⟨og, ocap, p', rfl, o1, o2, ocell, ⟨lo5, gs', hIR5⟩, hinv, hbB⟩
   obtain ⟨m, hm⟩ : ∃ m, m = 400000000 := ⟨_, rfl⟩
   have hbits := hT3.2.1.bits HN.out.2.2.1.1 hmi (m := m) (by omega)
   have hIR6 : IsR lo5 w5 p' 1 r gs' (fz r xs) (2 * m) := hIR5.fit (fun i j hi hj => hbits _ (idx_lt hi hj))
   have hin : ∀ t x, ms.getD t none = some x → (ms.set n (some (nx, 1, r, xs))).getD t none = some x := fun t x ht => by
    rw [hm_set (by rw [H.out.2.2.len]; exact HN.out.2.2.1.1), if_neg (fun e => by rw [e, HN.out.2.2.1.2.1] at ht; cases ht)]
    exact ht
   obtain ⟨-, -, lo3, hi3, hm3⟩ := hinv.entry (List.mem_append.2 (.inl HD.out.1)) HD.out.2.2.1 (hin i _ HD.out.2.2.2.1) rfl
   obtain ⟨-, -, lo4, hi4, hm4⟩ := hinv.entry (List.mem_append.2 (.inl HD.out.2.1)) HD.out.2.2.2.2.1 (hin j _ HD.out.2.2.2.2.2.1) rfl
   obtain ⟨gs3, hR3⟩ := hm3.isR
   obtain ⟨gs4, hR4⟩ := hm4.isR
   rw [← HPP.out.1] at hR3
   rw [← HPP.out.2] at hR4
   have hB5 : Below B w w5 := K2.out.2.2.1.trans ((K3.out.2.mono (by omega)).trans hbB)
   have hw5 := hB5.size
   obtain ⟨-, ao5, cap5, x0, x1, -⟩ := hIR6.open_
   obtain ⟨-, ao6, cap6, y0, y1, -⟩ := hR3.open_
   have K5 := Hid.mk (And.intro hIR6 (And.intro (hR3.tight (fits_fz HD.out.2.2.2.2.2.2.1)) (And.intro (hR4.tight (fits_fz HD.out.2.2.2.2.2.2.2.1)) (And.intro hinv hB5))))
   have hm5 : m ≤ 400000000 := by omega
   clear hT3 hmi hfine hbits hIR5 hIR6 hin hm3 hm4 hR3 hR4 hinv hbB hB5 hm
   have hnil := nil_cmp ⟨og, 0, none⟩ 1 ocap
   have ir : ((r : Int) != (r : Int)) = false := by simp
   go_wp2_with fail
   try go_quiet (fail)
   try go_wp2_with fail
   have hbq := below_drewN (Below.refl w5.heap.size w5) nq
   refine (mtimes_any (2 * m) 4 p' 1 r gs' (fz r xs) lo5 p1 q gs3 (fz q zs) lo3 _ (K5.out.1.keep (KR.of_below hbq)) (K5.out.2.1.keep (KR.of_below hbq)) (by omega) (by omega) (by omega) (by omega)).mono ?_
   rintro x w6 ⟨rfl, ⟨go, hIp⟩, hb6⟩
   have hb56 : Below w5.heap.size w5 w6 := hbq.trans (hb6.mono hbq.size)
   have K6 := Hid.mk (And.intro hIp (And.intro ((K5.out.2.2.1.keep (KR.of_below hb56)).mono (show 4 ≤ 2 * m + 4 + 12 by omega)) hb56))
   clear hIp hb6 hb56 hbq x0 x1 y0 y1 ocell
   go_wp2_with fail
   refine (same_yes _ 1 q go _ 0 p2 gs4 _ lo4 (2 * m + 4 + 12) _ K6.out.1 K6.out.2.1 (HN.out.2.1.back HN.out.1) (by omega) (by omega) (by omega)).mono ?_
   rintro x w7 ⟨rfl, hb7⟩
   have hb57 : Below w5.heap.size w5 w7 := K6.out.2.2.trans (hb7.mono K6.out.2.2.size)
   have HF : Hid (StepOut B w w7 W T b1 b2 nx) := Hid.mk ⟨⟨_, _, _, K5.out.2.2.2.1.below hb57, by omega⟩, K5.out.2.2.2.2.trans (hb57.mono (by omega))⟩
   clear hb7 hb57
   go_wp2_with fail
   go_ret
   exact ⟨rfl, HF.out⟩
open Go.RowKit R
theorem equal_case {es : List Ent} {ms : List Hm} {g h e want : Int} {a b : Value} {y : Bool} (hd : Dst ms) (hp : PairG (fun _ q _ c => q = c) es ms g h a b want) (ht : EqRel ms g h y e) :
 ((want = 2 ∨ want = 3 ∨ want = 4) ∧ e = want ∧ y = false) ∨
 (want = 0 ∧ e = 0 ∧ ∃ e1 e2 i r q zs j r' ys, e1 ∈ es ∧ e2 ∈ es ∧ i < 24 ∧ ms.getD i none = some (e1.1, r, q, zs) ∧ j < 24 ∧ ms.getD j none = some (e2.1, r', q, ys) ∧ FitsP r q zs ∧ FitsP r' q ys ∧ a = .pointer (some ⟨e1.2.2, 0, none⟩) ∧ b = .pointer (some ⟨e2.2.2, 0, none⟩) ∧ (y = true ↔ SpEq (ent q zs) (ent q ys) r r' q) ∧ HasF (ent q zs) r q ∧ HasF (ent q ys) r' q) := by
 rcases ht with ⟨hn, rfl, rfl⟩ | ⟨i, d, r, q, zs, j, d', r', c, ys, hi, hx, hxg, hj, hy, hyh, ht⟩
 ·exact .inl ⟨.inl (hp.no hn), (hp.no hn).symm, rfl⟩
 ·obtain ⟨e1, e2, m1, m2, rfl, rfl, hp⟩ := hp.yes hd hi hx hxg hj hy hyh
  rcases hp with ⟨p1, rfl⟩ | ⟨p1, p2, rfl⟩ | ⟨p1, p2, rfl, rfl, rfl⟩
  ·rcases ht with ⟨-, rfl, rfl⟩ | ⟨t1, -⟩ | ⟨t1, -⟩
   ·exact .inl ⟨.inr (.inl rfl), rfl, rfl⟩
   ·exact absurd t1 p1
   ·exact absurd t1 p1
  ·rcases ht with ⟨t1, -⟩ | ⟨-, -, rfl, rfl⟩ | ⟨-, t2, -⟩
   ·exact absurd p1 t1
   ·exact .inl ⟨.inr (.inr rfl), rfl, rfl⟩
   ·exact absurd t2 p2
  ·rcases ht with ⟨t1, -⟩ | ⟨-, t2, -⟩ | ⟨rfl, -, rfl, t3, t4, t5⟩
   ·exact absurd p1 t1
   ·exact absurd p2 t2
   ·exact .inr ⟨rfl, rfl, e1, e2, i, r, q, zs, j, r', ys, m1, m2, hi, hx, hj, hy, p2.1, p2.2, rfl, rfl, t3, t4, t5⟩
set_option maxRecDepth 100000 in
set_option maxHeartbeats 4000000 in
theorem equal_any (B W T b1 b2 : Nat) (ms : List Hm) (nx : Nat) (es : List Ent) (g h : Int) (w : World) (hI : LInv B w W T b1 b2 ms nx es) :
 Calls Tryz.prog 68 #[.pointer (some ⟨W, 0, none⟩), .int .i64 g, .int .i64 h] w fun x w' => x = .returned (.bool true) ∧ StepOut B w w' W T b1 b2 nx := by
 have hB := hI.size
 have H := Hid.mk hI
 clear hI
 go_enter Tryz.func68, Tryz.ntmps68
 go_wp2_with fail
 refine (pair_alike B W T b1 b2 ms nx es g h 11 (by decide) (by decide) (by decide) _ H.out).mono ?_
 rintro x w1 ⟨⟨a, b, want, rfl, hp⟩, hb1⟩
 have hI1 := H.out.below hb1
 obtain ⟨ioa, icap, loa, lcap, tv, c0, -⟩ := hI1.lcells
 have K1 := Hid.mk (And.intro hp (And.intro hb1 hI1))
 have hw1 := hb1.size
 clear hp hb1 hI1
 go_wp2_with fail
 refine (twEqual_any B T b1 b2 g h ms nx _ K1.out.2.2.1 H.out.2.2.dst).mono ?_
 rintro x w2 ⟨y, e, rfl, hrel, hb2⟩
 have hcase := equal_case H.out.2.2.dst K1.out.1 hrel
 have hb02 : Below w.heap.size w w2 := K1.out.2.1.trans (hb2.mono hw1)
 have K2 := Hid.mk (And.intro hcase (And.intro hb02 (H.out.below hb02)))
 have hw2 := hb02.size
 clear hrel hb2 hcase hb02 c0
 rcases K2.out.1 with ⟨hz, rfl, rfl⟩ | ⟨rfl, rfl, e1, e2, i, r, q, zs, j, r', ys, m1, m2, hi, hx, hj, hy, f1, f2, rfl, rfl, hyy, hF1, hF2⟩
 ·have HF : Hid (StepOut B w w2 W T b1 b2 nx) := Hid.mk ⟨⟨ms, nx, es, K2.out.2.2, by omega⟩, K2.out.2.1.mono hB⟩
  rcases hz with rfl | rfl | rfl
  ·go_wp2_with fail
   go_ret
   exact ⟨rfl, HF.out⟩
  ·go_wp2_with fail
   go_ret
   exact ⟨rfl, HF.out⟩
  ·go_wp2_with fail
   go_ret
   exact ⟨rfl, HF.out⟩
 ·obtain ⟨-, -, lo1, hi1, hm1⟩ := K2.out.2.2.entry m1 hi hx rfl
  obtain ⟨-, -, lo2, hi2, hm2⟩ := K2.out.2.2.entry m2 hj hy rfl
  obtain ⟨gs1, hR1⟩ := hm1.isR
  obtain ⟨gs2, hR2⟩ := hm2.isR
  obtain ⟨p1, hp1⟩ : ∃ p1, p1 = e1.2.2 := ⟨_, rfl⟩
  obtain ⟨p2, hp2⟩ : ∃ p2, p2 = e2.2.2 := ⟨_, rfl⟩
  rw [← hp1] at hR1 ⊢
  rw [← hp2] at hR2 ⊢
  have hr4 := f1.1
  have hr4' := f2.1
  have hq4 := f1.2.1
  have HD := Hid.mk (And.intro (hR1.tight (fits_fz f1)) (And.intro (hR2.tight (fits_fz f2)) (And.intro hyy (And.intro hF1 hF2))))
  clear m1 m2 hi hx hj hy f1 f2 hyy hF1 hF2 hm1 hm2 hR1 hR2 hp1 hp2
  go_wp2_with fail
  refine (both_any p1 p2 r r' q gs1 gs2 (fz q zs) (fz q ys) lo1 lo2 4 _ HD.out.1 HD.out.2.1 (by omega) (by omega) (by omega)).mono ?_
  rintro x w3 ⟨same, rfl, hsame, hb3⟩
  have hys : y = same := by
   refine Bool.eq_iff_iff.2 (HD.out.2.2.1.trans ?_)
   rw [hsame]
   have h1 : SpSay (fz q zs) (fz q ys) r r' q ↔ ∀ i, i < r' → Sp (fz q zs) r q (fz q ys i) := HasF.say HD.out.2.2.2.1 hr4 hq4
   have h2 : SpSay (fz q ys) (fz q zs) r' r q ↔ ∀ i, i < r → Sp (fz q ys) r' q (fz q zs i) := HasF.say HD.out.2.2.2.2 hr4' hq4
   rw [h1, h2]
   exact And.comm
  subst hys
  have hb03 : Below w.heap.size w w3 := K2.out.2.1.trans (hb3.mono hw2)
  have HF : Hid (StepOut B w w3 W T b1 b2 nx) := Hid.mk ⟨⟨ms, nx, es, K2.out.2.2.below hb3, by omega⟩, hb03.mono hB⟩
  clear hb3 hb03 hsame
  have i0 : (y == y) = true := by simp
  go_wp2_with fail
  go_ret
  exact ⟨rfl, HF.out⟩
open Go.RowKit R
theorem sum_case {es : List Ent} {ms : List Hm} {nx : Nat} {g h k e want : Int} {a b : Value} {ms' : List Hm} {nx' : Nat} (hd : Dst ms) (hp : PairG (fun _ q _ c => q = c) es ms g h a b want) (ht : SumRel ms nx g h k e ms' nx') :
 ((want = 2 ∨ want = 3 ∨ want = 4) ∧ e = want ∧ k = -1 ∧ ms' = ms ∧ nx' = nx) ∨ (want = 0 ∧ e = 5 ∧ k = -1 ∧ ms' = ms ∧ nx' = nx ∧ ∀ i, i < 24 → ms.getD i none ≠ none) ∨
 (want = 0 ∧ e = 0 ∧ k = (nx : Int) ∧ ∃ e1 e2 i r q zs j r' ys n rk bs, e1 ∈ es ∧ e2 ∈ es ∧ i < 24 ∧ ms.getD i none = some (e1.1, r, q, zs) ∧ j < 24 ∧ ms.getD j none = some (e2.1, r', q, ys) ∧ FitsP r q zs ∧ FitsP r' q ys ∧ a = .pointer (some ⟨e1.2.2, 0, none⟩) ∧ b = .pointer (some ⟨e2.2.2, 0, none⟩) ∧ FreeAt ms n ∧ ms' = ms.set n (some (nx, rk, q, bs)) ∧ nx' = nx + 1 ∧ BasisIs (r + r') q (zs ++ ys) rk bs) := by
 rcases ht with ⟨hn, rfl, rfl, rfl, rfl⟩ | ⟨i, d, r, q, zs, j, d', r', c, ys, hi, hx, hxg, hj, hy, hyh, ht⟩
 ·exact .inl ⟨.inl (hp.no hn), (hp.no hn).symm, rfl, rfl, rfl⟩
 ·obtain ⟨e1, e2, m1, m2, rfl, rfl, hp⟩ := hp.yes hd hi hx hxg hj hy hyh
  rcases hp with ⟨p1, rfl⟩ | ⟨p1, p2, rfl⟩ | ⟨p1, p2, rfl, rfl, rfl⟩
  ·rcases ht with ⟨-, rfl, rfl, rfl, rfl⟩ | ⟨t1, -⟩ | ⟨t1, -⟩ | ⟨t1, -⟩
   ·exact .inl ⟨.inr (.inl rfl), rfl, rfl, rfl, rfl⟩
   all_goals exact absurd t1 p1
  ·rcases ht with ⟨t1, -⟩ | ⟨-, -, rfl, rfl, rfl, rfl⟩ | ⟨-, t2, -⟩ | ⟨-, t2, -⟩
   ·exact absurd p1 t1
   ·exact .inl ⟨.inr (.inr rfl), rfl, rfl, rfl, rfl⟩
   all_goals exact absurd t2 p2
  ·rcases ht with ⟨t1, -⟩ | ⟨-, t2, -⟩ | ⟨-, -, t3, rfl, rfl, rfl, rfl⟩ | ⟨rfl, -, rfl, rfl, n, rk, bs, t4, t5, rfl, rfl⟩
   ·exact absurd p1 t1
   ·exact absurd p2 t2
   ·exact .inr (.inl ⟨rfl, rfl, rfl, rfl, rfl, t3⟩)
   ·exact .inr (.inr ⟨rfl, rfl, rfl, e1, e2, i, r, q, zs, j, r', ys, n, rk, bs, m1, m2, hi, hx, hj, hy, p2.1, p2.2, rfl, rfl, t5, rfl, rfl, t4⟩)
set_option maxRecDepth 100000 in
set_option maxHeartbeats 4000000 in
theorem summed_any (B W T b1 b2 : Nat) (ms : List Hm) (nx : Nat) (es : List Ent) (g h : Int) (w : World) (hI : LInv B w W T b1 b2 ms nx es) (hnx : nx < 1000000) :
 Calls Tryz.prog 69 #[.pointer (some ⟨W, 0, none⟩), .int .i64 g, .int .i64 h] w fun x w' => x = .returned (.bool true) ∧ StepOut B w w' W T b1 b2 nx := by
 have hB := hI.size
 have hle := hI.le24
 have H := Hid.mk hI
 clear hI
 go_enter Tryz.func69, Tryz.ntmps69
 go_wp2_with fail
 refine (pair_alike B W T b1 b2 ms nx es g h 12 (by decide) (by decide) (by decide) _ H.out).mono ?_
 rintro x w1 ⟨⟨a, b, want, rfl, hp⟩, hb1⟩
 have hI1 := H.out.below hb1
 obtain ⟨ioa, icap, loa, lcap, tv, c0, -⟩ := hI1.lcells
 have K1 := Hid.mk (And.intro hp (And.intro hb1 hI1))
 have hw1 := hb1.size
 clear hp hb1 hI1
 go_wp2_with fail
 refine (twSum_any B T b1 b2 g h ms nx _ K1.out.2.2.1 H.out.2.2.dst hnx).mono ?_
 rintro x w2 ⟨k, e, ms', nx', rfl, hrel, hT2, hC2⟩
 have hcase := sum_case H.out.2.2.dst K1.out.1 hrel
 have hbel2 : Below B w w2 := (K1.out.2.1.mono hB).trans (hC2.below (St2.le H.out.1.2.2.2.2.2.2.1 H.out.1.2.2.2.2.2.2.2) (by omega))
 have hrows := K1.out.2.2.stores hC2
 obtain ⟨hv1, iv1, lv1, tv1, hL1, hI1, -⟩ := id hrows
 have hw2 := hbel2.size
 have K2 := Hid.mk (And.intro hT2 (And.intro hrows (And.intro hbel2 (And.intro hcase (And.intro hL1 hI1)))))
 clear hrel hT2 hC2 hcase hbel2 hrows hL1 hI1 c0
 go_wp2_with fail
 refine (full_raw W T nx 1 _ _ _ _ es _ (by omega) K2.out.2.2.2.2.1 K2.out.2.2.2.2.2 hle).mono ?_
 rintro x w' ⟨rfl, rfl⟩
 have hnum := H.out.2.2.num
 have hcf := cnt_full H.out.2.2.len
 have HCF := Hid.mk (And.intro hnum hcf)
 clear hnum hcf
 rcases K2.out.2.2.2.1 with ⟨hz, rfl, rfl, rfl, rfl⟩ | ⟨rfl, rfl, rfl, rfl, rfl, hful⟩ | ⟨rfl, rfl, rfl, e1, e2, i, r, q, zs, j, r', ys, n, rk, bs, m1, m2, hi, hx, hj, hy, f1, f2, rfl, rfl, hn, hms, hnx', hbas⟩
 ·have HF : Hid (StepOut B w w' W T b1 b2 nx') := Hid.mk ⟨⟨ms', nx', es, ⟨K2.out.1, K2.out.2.1, H.out.2.2⟩, by omega⟩, K2.out.2.2.1⟩
  rcases hz with rfl | rfl | rfl
  ·go_wp2_with fail
   go_ret
   exact ⟨rfl, HF.out⟩
  ·go_wp2_with fail
   go_ret
   exact ⟨rfl, HF.out⟩
  ·go_wp2_with fail
   go_ret
   exact ⟨rfl, HF.out⟩
 ·have HF : Hid (StepOut B w w' W T b1 b2 nx') := Hid.mk ⟨⟨ms', nx', es, ⟨K2.out.1, K2.out.2.1, H.out.2.2⟩, by omega⟩, K2.out.2.2.1⟩
  have hfl : decide (24 < es.length + 1) = true := decide_eq_true (by have h1 := HCF.out.1; have h2 := HCF.out.2.2 hful; omega)
  rw [hfl]
  clear hful hfl
  go_wp2_with fail
  go_ret
  exact ⟨rfl, HF.out⟩
 ·have hne24 : es.length ≠ 24 := fun h => absurd hn.2.1 ((HCF.out.2.1 (by rw [← HCF.out.1]; exact h)) n hn.1)
  have hfl : decide (24 < es.length + 1) = false := decide_eq_false (by omega)
  rw [hfl]
  have hr4 := f1.1
  have hr4' := f2.1
  have hq4 := f1.2.1
  have hl1 : zs.length = r * q := (held_side H.out.1.2.1 hi hx).2.2
  have hsay := hbas.say hl1 hq4
  have hrk4 := hsay.1
  have HD := Hid.mk (And.intro m1 (And.intro m2 (And.intro hi (And.intro hx (And.intro hj (And.intro hy (And.intro f1 (And.intro f2 (And.intro hn (And.intro hms (And.intro hnx' hsay)))))))))))
  obtain ⟨p1, hp1⟩ : ∃ p1, p1 = e1.2.2 := ⟨_, rfl⟩
  obtain ⟨p2, hp2⟩ : ∃ p2, p2 = e2.2.2 := ⟨_, rfl⟩
  have HPP := Hid.mk (And.intro hp1 hp2)
  rw [← hp1, ← hp2]
  clear m1 m2 hi hx hj hy f1 f2 hn hms hnx' hfl hp1 hp2 hl1 hsay hbas hne24
  go_wp2_with fail
  have hHD := HD.out
  obtain ⟨m1, m2, hi, hx, hj, hy, f1, f2, hn, hms, hnx', hsay⟩ := hHD
  have hT3 : TwH B w' T b1 b2 (ms.set n (some (nx, rk, q, bs))) (nx + 1) := by
   have hT := K2.out.1
   rw [hms, hnx'] at hT
   exact hT
  have hmi : (ms.set n (some (nx, rk, q, bs))).getD n none = some (nx, rk, q, bs) := by rw [hm_set (by rw [H.out.2.2.len]; exact hn.1), if_pos rfl]
  have hfine : Fine rk q bs := hT3.2.1.fine hn.1 hmi (by omega) hq4
  refine (held_new B W T b1 b2 n rk q nx ms es bs _ hT3 K2.out.2.1 H.out.2.2 hn hfine hnx hle (by omega)).mono ?_
  rintro x w5 ⟨og, ocap, p', rfl, o1, o2, ocell, ⟨lo5, gs', hIR5⟩, hinv, hbB⟩
  obtain ⟨m, hm⟩ : ∃ m, m = 400000000 := ⟨_, rfl⟩
  have hbits := hT3.2.1.bits hn.1 hmi (m := m) (by omega)
  have hm5 : m ≤ 400000000 := by omega
  have hm6 : 2 ≤ m := by omega
  have hIR6 : IsR lo5 w5 p' rk q gs' (fz q bs) (2 * m) := hIR5.fit (fun i j hi hj => hbits _ (idx_lt hi hj))
  have hin : ∀ t x, ms.getD t none = some x → (ms.set n (some (nx, rk, q, bs))).getD t none = some x := fun t x ht => by
   rw [hm_set (by rw [H.out.2.2.len]; exact hn.1), if_neg (fun e => by rw [e, hn.2.1] at ht; cases ht)]
   exact ht
  obtain ⟨-, -, lo3, hi3, hm3⟩ := hinv.entry (List.mem_append.2 (.inl m1)) hi (hin i _ hx) rfl
  obtain ⟨-, -, lo4, hi4, hm4⟩ := hinv.entry (List.mem_append.2 (.inl m2)) hj (hin j _ hy) rfl
  obtain ⟨gs3, hR3⟩ := hm3.isR
  obtain ⟨gs4, hR4⟩ := hm4.isR
  rw [← HPP.out.1] at hR3
  rw [← HPP.out.2] at hR4
  have hB5 : Below B w w5 := K2.out.2.2.1.trans hbB
  have hw5 := hB5.size
  obtain ⟨-, ao5, cap5, x0, x1, -⟩ := hIR6.open_
  obtain ⟨-, ao6, cap6, y0, y1, -⟩ := hR3.open_
  have K5 := Hid.mk (And.intro hIR6 (And.intro ((hR3.tight (fits_fz f1)).mono (show 4 ≤ 2 * m by omega)) (And.intro ((hR4.tight (fits_fz f2)).mono (show 4 ≤ 2 * m by omega)) (And.intro hinv hB5))))
  clear hT3 hmi hfine hbits hIR5 hIR6 hin hm3 hm4 hR3 hR4 hinv hbB hB5 hm m1 m2 hi hx hj hy f1 f2 hn hms hnx' hsay
  have hnil := nil_cmp ⟨og, 0, none⟩ 1 ocap
  have iq : ((q : Int) != (q : Int)) = false := by simp
  go_wp2_with fail
  try go_quiet (fail)
  try go_wp2_with fail
  have hbq := below_drewN (Below.refl w5.heap.size w5) nq
  refine (R.over_any p1 p2 r r' q gs3 gs4 (fz q zs) (fz q ys) lo3 lo4 (2 * m) _ (K5.out.2.1.keep (KR.of_below hbq)) (K5.out.2.2.1.keep (KR.of_below hbq)) (by omega) (by omega)).mono ?_
  rintro x w6 ⟨rfl, ⟨go, hIo⟩, hb6⟩
  have hb56 : Below w5.heap.size w5 w6 := hbq.trans (hb6.mono hbq.size)
  have K6 := Hid.mk (And.intro hIo hb56)
  have oc6 := cell_later hb56 ocell
  have x06 := cell_later hb56 x0
  have hw6 := hb56.size
  clear hIo hb6 hb56 hbq x0 x1 y0 y1 ocell
  go_wp2_with fail
  refine (rank_any _ (r + r') q go _ 0 (2 * m) _ K6.out.1 (by omega) (by omega) (by omega)).mono ?_
  rintro x w7 ⟨k, rfl, hk, hb7⟩
  obtain rfl : k = rk := rank_uniq hk HD.out.2.2.2.2.2.2.2.2.2.2.2.2.2.1
  have hb57 : Below w5.heap.size w5 w7 := K6.out.2.trans (hb7.mono hw6)
  have K7 := Hid.mk (And.intro (K6.out.1.keep (KR.of_below hb7)) hb57)
  have oc7 := cell_later hb7 oc6
  have x07 := cell_later hb7 x06
  have hw7 := hb57.size
  clear hk hb7 hb57 oc6 x06
  go_wp2_with fail
  obtain ⟨pc, hpc⟩ := HD.out.2.2.2.2.2.2.2.2.2.2.2.2.1
  refine (echelon_yes p' k q gs' (fz q bs) lo5 (2 * m) k pc _ (K5.out.1.keep (KR.of_below K7.out.2)) hpc (by omega) (by omega) (by omega)).mono ?_
  rintro x w8 ⟨rfl, hb8⟩
  have hb58 : Below w5.heap.size w5 w8 := K7.out.2.trans (hb8.mono hw7)
  have K8 := Hid.mk (And.intro (K7.out.1.keep (KR.of_below hb8)) hb58)
  have oc8 := cell_later hb8 oc7
  have x08 := cell_later hb8 x07
  have hw8 := hb58.size
  clear hb8 hb58 oc7 x07 hpc
  go_wp2_with fail
  refine (both_any p' _ k (r + r') q gs' go (fz q bs) (ov r (fz q zs) (fz q ys)) lo5 0 (2 * m) _ (K5.out.1.keep (KR.of_below K8.out.2)) K8.out.1 (by omega) (by omega) (by omega)).mono ?_
  rintro x w9 ⟨y, rfl, hy, hb9⟩
  obtain rfl : y = true := hy.2 ⟨HD.out.2.2.2.2.2.2.2.2.2.2.2.2.2.2.1, HD.out.2.2.2.2.2.2.2.2.2.2.2.2.2.2.2⟩
  have hb59 : Below w5.heap.size w5 w9 := K8.out.2.trans (hb9.mono hw8)
  have oc9 := cell_later hb9 oc8
  have x09 := cell_later hb9 x08
  have HF : Hid (StepOut B w w9 W T b1 b2 nx) := Hid.mk ⟨⟨_, _, _, K5.out.2.2.2.1.below hb59, by omega⟩, K5.out.2.2.2.2.trans (hb59.mono (by omega))⟩
  have ikk : ((k : Int) == (k : Int)) = true := by simp
  clear hb9 hb59 oc8 x08 hy
  go_wp2_with fail
  go_ret
  exact ⟨rfl, HF.out⟩
open Go.RowKit R
set_option maxRecDepth 100000 in
set_option maxHeartbeats 4000000 in
theorem step_member0 (B W T b1 b2 : Nat) (ms : List Hm) (nx : Nat) (es : List Ent) (kd a b c : Int) (s t : ByteArray) (w : World) (h : LInv B w W T b1 b2 ms nx es) (hkd : kd = 10) (ha1 : -9223372036854775808 ≤ a) (ha2 : a ≤ 9223372036854775807) (hb1 : -9223372036854775808 ≤ b) (hb2 : b ≤ 9223372036854775807) (hnx : nx < 999995) :
 Calls Tryz.prog 35 #[.pointer (some ⟨W, 0, none⟩), opV kd a b c s t] w fun x w' => x = .returned (.bool true) ∧ StepOut B w w' W T b1 b2 nx := by
 have H := Hid.mk h
 have hB := h.size
 have HKD := Hid.mk hkd
 clear h hkd
 unfold opV
 obtain ⟨W0, hW0⟩ : ∃ W0, W0 = w.alloc (.cells #[.int .i64 kd, .int .i64 a, .int .i64 b, .int .i64 c, .string s, .string t] 31) := ⟨_, rfl⟩
 have hbW : Below w.heap.size w W0 := by rw [hW0]; exact (Below.refl _ _).alloc (Nat.le_refl _) _
 have hblk : W0.heap[w.heap.size]? = some (.cells #[.int .i64 kd, .int .i64 a, .int .i64 b, .int .i64 c, .string s, .string t] 31 (0, 0)) := by rw [hW0]; exact heap_alloc_new w _
 have hsz : W0.heap.size = w.heap.size + 1 := by rw [hW0]; simp
 have H0 := Hid.mk (And.intro hbW (And.intro hblk hW0))
 clear hbW hblk hW0
 go_enter Tryz.func35, Tryz.ntmps35
 go_wp2_with fail
 rw [← H0.out.2.2]
 refine (handle_any B W T b1 b2 ms nx es a c _ (H.out.below H0.out.1) ha1 ha2).mono ?_
 rintro x w1 ⟨⟨hh, rfl⟩, hb1'⟩
 have hblk1 : w1.heap[w.heap.size]? = some (.cells #[.int .i64 kd, .int .i64 a, .int .i64 b, .int .i64 c, .string s, .string t] 31 (0, 0)) := by rw [hb1'.block _ (by omega)]; exact H0.out.2.1
 have hbe1 : Below w.heap.size w w1 := H0.out.1.trans (hb1'.mono H0.out.1.size)
 have g0 : w1.cell? ⟨w.heap.size, 0, none⟩ = some (.int .i64 kd) := by simp [World.cell?, hblk1]
 have g2 : w1.cell? ⟨w.heap.size, 2, none⟩ = some (.int .i64 b) := by simp [World.cell?, hblk1]
 have g3 : w1.cell? ⟨w.heap.size, 3, none⟩ = some (.int .i64 c) := by simp [World.cell?, hblk1]
 have hs1 := hb1'.size
 have K1 := Hid.mk (And.intro hbe1 hblk1)
 clear hb1' hblk1 hbe1
 go_wp2_with fail
 refine (handle_any B W T b1 b2 ms nx es b c _ (H.out.below K1.out.1) hb1 hb2).mono ?_
 rintro x w2 ⟨⟨hh2, rfl⟩, hb2'⟩
 have hblk2 : w2.heap[w.heap.size]? = some (.cells #[.int .i64 kd, .int .i64 a, .int .i64 b, .int .i64 c, .string s, .string t] 31 (0, 0)) := by rw [hb2'.block _ (by omega)]; exact K1.out.2
 have hbe2 : Below w.heap.size w w2 := K1.out.1.trans (hb2'.mono K1.out.1.size)
 clear g0 g2 g3
 have g0 : w2.cell? ⟨w.heap.size, 0, none⟩ = some (.int .i64 kd) := by simp [World.cell?, hblk2]
 have g4 : w2.cell? ⟨w.heap.size, 4, none⟩ = some (.string s) := by simp [World.cell?, hblk2]
 have K2 := Hid.mk (And.intro hbe2 (H.out.below hbe2))
 clear hb2' hblk2 hbe2
 obtain rfl := HKD.out
 go_wp2_with fail
 refine (member_any B W T b1 b2 ms nx es hh hh2 _ K2.out.2 (by omega)).mono ?_
 rintro x w3 ⟨rfl, ho⟩
 have HO := Hid.mk (ho.after (K2.out.1.mono hB))
 clear ho
 go_wp2_with fail
 go_ret
 exact ⟨rfl, HO.out⟩
theorem step_member : StepOk (fun kd => kd = 10) := fun B W T b1 b2 ms nx es kd a b c s t w h hkd ha1 ha2 hb1 hb2 _ hnx => step_member0 B W T b1 b2 ms nx es kd a b c s t w h hkd ha1 ha2 hb1 hb2 hnx
set_option maxRecDepth 100000 in
set_option maxHeartbeats 4000000 in
theorem step_equal0 (B W T b1 b2 : Nat) (ms : List Hm) (nx : Nat) (es : List Ent) (kd a b c : Int) (s t : ByteArray) (w : World) (h : LInv B w W T b1 b2 ms nx es) (hkd : kd = 11) (ha1 : -9223372036854775808 ≤ a) (ha2 : a ≤ 9223372036854775807) (hb1 : -9223372036854775808 ≤ b) (hb2 : b ≤ 9223372036854775807) :
 Calls Tryz.prog 35 #[.pointer (some ⟨W, 0, none⟩), opV kd a b c s t] w fun x w' => x = .returned (.bool true) ∧ StepOut B w w' W T b1 b2 nx := by
 have H := Hid.mk h
 have hB := h.size
 have HKD := Hid.mk hkd
 clear h hkd
 unfold opV
 obtain ⟨W0, hW0⟩ : ∃ W0, W0 = w.alloc (.cells #[.int .i64 kd, .int .i64 a, .int .i64 b, .int .i64 c, .string s, .string t] 31) := ⟨_, rfl⟩
 have hbW : Below w.heap.size w W0 := by rw [hW0]; exact (Below.refl _ _).alloc (Nat.le_refl _) _
 have hblk : W0.heap[w.heap.size]? = some (.cells #[.int .i64 kd, .int .i64 a, .int .i64 b, .int .i64 c, .string s, .string t] 31 (0, 0)) := by rw [hW0]; exact heap_alloc_new w _
 have hsz : W0.heap.size = w.heap.size + 1 := by rw [hW0]; simp
 have H0 := Hid.mk (And.intro hbW (And.intro hblk hW0))
 clear hbW hblk hW0
 go_enter Tryz.func35, Tryz.ntmps35
 go_wp2_with fail
 rw [← H0.out.2.2]
 refine (handle_any B W T b1 b2 ms nx es a c _ (H.out.below H0.out.1) ha1 ha2).mono ?_
 rintro x w1 ⟨⟨hh, rfl⟩, hb1'⟩
 have hblk1 : w1.heap[w.heap.size]? = some (.cells #[.int .i64 kd, .int .i64 a, .int .i64 b, .int .i64 c, .string s, .string t] 31 (0, 0)) := by rw [hb1'.block _ (by omega)]; exact H0.out.2.1
 have hbe1 : Below w.heap.size w w1 := H0.out.1.trans (hb1'.mono H0.out.1.size)
 have g0 : w1.cell? ⟨w.heap.size, 0, none⟩ = some (.int .i64 kd) := by simp [World.cell?, hblk1]
 have g2 : w1.cell? ⟨w.heap.size, 2, none⟩ = some (.int .i64 b) := by simp [World.cell?, hblk1]
 have g3 : w1.cell? ⟨w.heap.size, 3, none⟩ = some (.int .i64 c) := by simp [World.cell?, hblk1]
 have hs1 := hb1'.size
 have K1 := Hid.mk (And.intro hbe1 hblk1)
 clear hb1' hblk1 hbe1
 go_wp2_with fail
 refine (handle_any B W T b1 b2 ms nx es b c _ (H.out.below K1.out.1) hb1 hb2).mono ?_
 rintro x w2 ⟨⟨hh2, rfl⟩, hb2'⟩
 have hblk2 : w2.heap[w.heap.size]? = some (.cells #[.int .i64 kd, .int .i64 a, .int .i64 b, .int .i64 c, .string s, .string t] 31 (0, 0)) := by rw [hb2'.block _ (by omega)]; exact K1.out.2
 have hbe2 : Below w.heap.size w w2 := K1.out.1.trans (hb2'.mono K1.out.1.size)
 clear g0 g2 g3
 have g0 : w2.cell? ⟨w.heap.size, 0, none⟩ = some (.int .i64 kd) := by simp [World.cell?, hblk2]
 have g4 : w2.cell? ⟨w.heap.size, 4, none⟩ = some (.string s) := by simp [World.cell?, hblk2]
 have K2 := Hid.mk (And.intro hbe2 (H.out.below hbe2))
 clear hb2' hblk2 hbe2
 obtain rfl := HKD.out
 go_wp2_with fail
 refine (equal_any B W T b1 b2 ms nx es hh hh2 _ K2.out.2).mono ?_
 rintro x w3 ⟨rfl, ho⟩
 have HO := Hid.mk (ho.after (K2.out.1.mono hB))
 clear ho
 go_wp2_with fail
 go_ret
 exact ⟨rfl, HO.out⟩
theorem step_equal : StepOk (fun kd => kd = 11) := fun B W T b1 b2 ms nx es kd a b c s t w h hkd ha1 ha2 hb1 hb2 _ _ => step_equal0 B W T b1 b2 ms nx es kd a b c s t w h hkd ha1 ha2 hb1 hb2
set_option maxRecDepth 100000 in
set_option maxHeartbeats 4000000 in
theorem step_sum0 (B W T b1 b2 : Nat) (ms : List Hm) (nx : Nat) (es : List Ent) (kd a b c : Int) (s t : ByteArray) (w : World) (h : LInv B w W T b1 b2 ms nx es) (hkd : kd = 12) (ha1 : -9223372036854775808 ≤ a) (ha2 : a ≤ 9223372036854775807) (hb1 : -9223372036854775808 ≤ b) (hb2 : b ≤ 9223372036854775807) (hnx : nx < 999995) :
 Calls Tryz.prog 35 #[.pointer (some ⟨W, 0, none⟩), opV kd a b c s t] w fun x w' => x = .returned (.bool true) ∧ StepOut B w w' W T b1 b2 nx := by
 have H := Hid.mk h
 have hB := h.size
 have HKD := Hid.mk hkd
 clear h hkd
 unfold opV
 obtain ⟨W0, hW0⟩ : ∃ W0, W0 = w.alloc (.cells #[.int .i64 kd, .int .i64 a, .int .i64 b, .int .i64 c, .string s, .string t] 31) := ⟨_, rfl⟩
 have hbW : Below w.heap.size w W0 := by rw [hW0]; exact (Below.refl _ _).alloc (Nat.le_refl _) _
 have hblk : W0.heap[w.heap.size]? = some (.cells #[.int .i64 kd, .int .i64 a, .int .i64 b, .int .i64 c, .string s, .string t] 31 (0, 0)) := by rw [hW0]; exact heap_alloc_new w _
 have hsz : W0.heap.size = w.heap.size + 1 := by rw [hW0]; simp
 have H0 := Hid.mk (And.intro hbW (And.intro hblk hW0))
 clear hbW hblk hW0
 go_enter Tryz.func35, Tryz.ntmps35
 go_wp2_with fail
 rw [← H0.out.2.2]
 refine (handle_any B W T b1 b2 ms nx es a c _ (H.out.below H0.out.1) ha1 ha2).mono ?_
 rintro x w1 ⟨⟨hh, rfl⟩, hb1'⟩
 have hblk1 : w1.heap[w.heap.size]? = some (.cells #[.int .i64 kd, .int .i64 a, .int .i64 b, .int .i64 c, .string s, .string t] 31 (0, 0)) := by rw [hb1'.block _ (by omega)]; exact H0.out.2.1
 have hbe1 : Below w.heap.size w w1 := H0.out.1.trans (hb1'.mono H0.out.1.size)
 have g0 : w1.cell? ⟨w.heap.size, 0, none⟩ = some (.int .i64 kd) := by simp [World.cell?, hblk1]
 have g2 : w1.cell? ⟨w.heap.size, 2, none⟩ = some (.int .i64 b) := by simp [World.cell?, hblk1]
 have g3 : w1.cell? ⟨w.heap.size, 3, none⟩ = some (.int .i64 c) := by simp [World.cell?, hblk1]
 have hs1 := hb1'.size
 have K1 := Hid.mk (And.intro hbe1 hblk1)
 clear hb1' hblk1 hbe1
 go_wp2_with fail
 refine (handle_any B W T b1 b2 ms nx es b c _ (H.out.below K1.out.1) hb1 hb2).mono ?_
 rintro x w2 ⟨⟨hh2, rfl⟩, hb2'⟩
 have hblk2 : w2.heap[w.heap.size]? = some (.cells #[.int .i64 kd, .int .i64 a, .int .i64 b, .int .i64 c, .string s, .string t] 31 (0, 0)) := by rw [hb2'.block _ (by omega)]; exact K1.out.2
 have hbe2 : Below w.heap.size w w2 := K1.out.1.trans (hb2'.mono K1.out.1.size)
 clear g0 g2 g3
 have g0 : w2.cell? ⟨w.heap.size, 0, none⟩ = some (.int .i64 kd) := by simp [World.cell?, hblk2]
 have g4 : w2.cell? ⟨w.heap.size, 4, none⟩ = some (.string s) := by simp [World.cell?, hblk2]
 have K2 := Hid.mk (And.intro hbe2 (H.out.below hbe2))
 clear hb2' hblk2 hbe2
 obtain rfl := HKD.out
 go_wp2_with fail
 refine (summed_any B W T b1 b2 ms nx es hh hh2 _ K2.out.2 (by omega)).mono ?_
 rintro x w3 ⟨rfl, ho⟩
 have HO := Hid.mk (ho.after (K2.out.1.mono hB))
 clear ho
 go_wp2_with fail
 go_ret
 exact ⟨rfl, HO.out⟩
theorem step_sum : StepOk (fun kd => kd = 12) := fun B W T b1 b2 ms nx es kd a b c s t w h hkd ha1 ha2 hb1 hb2 _ hnx => step_sum0 B W T b1 b2 ms nx es kd a b c s t w h hkd ha1 ha2 hb1 hb2 hnx
end Go.Proofs.YtfjbijpagaipnaaGreatDoor
