import Derived.Test.YtfjbijpagaipnaaGreatDoorC43
import Derived.Test.YtfjbijpagaipnaaGreatDoorC44
import Derived.Test.YtfjbijpagaipnaaGreatDoorC22
namespace Go.Proofs.YtfjbijpagaipnaaGreatDoor
open Go.RowKit R
theorem Mats.find2 {w : World} {es : List Ent} {V : Nat → Prop} (hM : Mats w es V) {e : Ent} (he : e ∈ es) {r c : Nat} {zs : List Int} (h : e.2.1 = matT r c zs) (hf : Fine r c zs) : ∃ lo hi, MatAt w lo hi e.2.2 r c (fz c zs) ∧ ∀ q, V q → q < lo ∨ hi ≤ q := by
 obtain ⟨r1, c1, zs1, lo, hi, h1, h2, h3, h4⟩ := hM e he
 obtain ⟨rfl, rfl, rfl⟩ := fine_eq h2 hf (by rw [← h1, h])
 exact ⟨lo, hi, h3, h4⟩
def SolOut (ms : List Hm) (r q : Nat) (zs ys : List Int) (y : Bool) (e : Int) (xs : List Mx) : Prop :=
 ((¬ SolS r q zs ys ∧ HasF (ent r (flipL r q zs)) q r) ∧ y = false ∧ e = 0 ∧ xs = []) ∨
 ((SolS r q zs ys ∧ HasF (ent r (flipL r q zs)) q r) ∧ ms.countP Option.isNone < 2 ∧ y = false ∧ e = 5 ∧ xs = []) ∨
 ((SolS r q zs ys ∧ HasF (ent r (flipL r q zs)) q r) ∧ 2 ≤ ms.countP Option.isNone ∧ y = true ∧ e = 0 ∧ ∃ us nk ks, SolveIs r q zs ys us nk ks ∧ xs = [(q, 1, us), (nk, q, ks)])
theorem solved_case {es : List Ent} {ms : List Hm} {g h e want : Int} {a b : Value} {y : Bool} {xs : List Mx} (hd : Dst ms) (hp : PairG (fun r _ q' c => c = 1 ∧ q' = r) es ms g h a b want) (ht : SolRel ms g h y e xs) :
 ((want = 2 ∨ want = 3 ∨ want = 4) ∧ e = want ∧ y = false ∧ xs = []) ∨
 (want = 0 ∧ ∃ e1 e2 i r q zs j ys, e1 ∈ es ∧ e2 ∈ es ∧ i < 24 ∧ ms.getD i none = some (e1.1, r, q, zs) ∧ j < 24 ∧ ms.getD j none = some (e2.1, r, 1, ys) ∧ FitsP r q zs ∧ FitsP r 1 ys ∧ a = .pointer (some ⟨e1.2.2, 0, none⟩) ∧ b = .pointer (some ⟨e2.2.2, 0, none⟩) ∧ SolOut ms r q zs ys y e xs) := by
 rcases ht with ⟨hn, rfl, rfl, rfl⟩ | ⟨i, d, r, q, zs, j, d', r', c, ys, hi, hx, hxg, hj, hy, hyh, ht⟩
 ·exact .inl ⟨.inl (hp.no hn), (hp.no hn).symm, rfl, rfl⟩
 ·obtain ⟨e1, e2, m1, m2, rfl, rfl, hp⟩ := hp.yes hd hi hx hxg hj hy hyh
  rcases hp with ⟨p1, rfl⟩ | ⟨p1, p2, rfl⟩ | ⟨p1, p2, rfl, rfl, rfl⟩
  ·rcases ht with ⟨-, rfl, rfl, rfl⟩ | ⟨t1, -⟩ | ⟨t1, -⟩ | ⟨t1, -⟩ | ⟨t1, -⟩
   ·exact .inl ⟨.inr (.inl rfl), rfl, rfl, rfl⟩
   all_goals exact absurd t1 p1
  ·rcases ht with ⟨t1, -⟩ | ⟨-, -, rfl, rfl, rfl⟩ | ⟨-, t2, -⟩ | ⟨-, t2, -⟩ | ⟨-, t2, -⟩
   ·exact absurd p1 t1
   ·exact .inl ⟨.inr (.inr rfl), rfl, rfl, rfl⟩
   all_goals exact absurd t2 p2
  ·rcases ht with ⟨t1, -⟩ | ⟨-, t2, -⟩ | ⟨⟨rfl, rfl⟩, -, t3⟩ | ⟨⟨rfl, rfl⟩, -, t3⟩ | ⟨⟨rfl, rfl⟩, -, t3⟩
   ·exact absurd p1 t1
   ·exact absurd p2 t2
   ·exact .inr ⟨rfl, e1, e2, i, _, q, zs, j, ys, m1, m2, hi, hx, hj, hy, p2.1, p2.2, rfl, rfl, .inl t3⟩
   ·exact .inr ⟨rfl, e1, e2, i, _, q, zs, j, ys, m1, m2, hi, hx, hj, hy, p2.1, p2.2, rfl, rfl, .inr (.inl t3)⟩
   ·exact .inr ⟨rfl, e1, e2, i, _, q, zs, j, ys, m1, m2, hi, hx, hj, hy, p2.1, p2.2, rfl, rfl, .inr (.inr t3)⟩
set_option maxRecDepth 100000 in
set_option maxHeartbeats 8000000 in
theorem solved_any (B W T b1 b2 : Nat) (ms : List Hm) (nx : Nat) (es : List Ent) (g h : Int) (w : World) (hI : LInv B w W T b1 b2 ms nx es) (hnx : nx < 1000000 - 5) :
 Calls Tryz.prog 66 #[.pointer (some ⟨W, 0, none⟩), .int .i64 g, .int .i64 h] w fun x w' => x = .returned (.bool true) ∧ StepOut B w w' W T b1 b2 nx := by
 have hB := hI.size
 have hle := hI.le24
 have H := Hid.mk hI
 clear hI
 go_enter Tryz.func66, Tryz.ntmps66
 go_wp2_with fail
 refine (pair_solve B W T b1 b2 ms nx es g h _ H.out).mono ?_
 rintro x w1 ⟨⟨a, b, want, rfl, hp⟩, hb1⟩
 have hI1 := H.out.below hb1
 obtain ⟨ioa, icap, loa, lcap, tv, c0, -⟩ := hI1.lcells
 have K1 := Hid.mk (And.intro hp (And.intro hb1 hI1))
 have hw1 := hb1.size
 clear hp hb1 hI1
 go_wp2_with fail
 refine (twSolve_any B T b1 b2 g h ms nx _ K1.out.2.2.1 H.out.2.2.dst hnx).mono ?_
 rintro x w2 ⟨y, l, e, xs, rfl, hrel, htw⟩
 have hcase := solved_case H.out.2.2.dst K1.out.1 hrel
 have hchg : Chg (St2 b1 b2) w1 w2 := by rcases htw with ⟨-, -, -, f⟩ | ⟨-, -, -, f⟩ <;> exact f
 have hbel2 : Below B w w2 := (K1.out.2.1.mono hB).trans (hchg.below (St2.le H.out.1.2.2.2.2.2.2.1 H.out.1.2.2.2.2.2.2.2) (by omega))
 have hw2 := hbel2.size
 have hw12 := hchg.size
 obtain ⟨lo, ln, lcp, rfl⟩ : ∃ o n p, l = .slice o n p := by rcases htw with ⟨-, rfl, -⟩ | ⟨-, ⟨_, _, rfl, -⟩, -⟩ <;> exact ⟨_, _, _, rfl⟩
 have hnum := H.out.2.2.num
 have hcn := cnt_none ms
 rw [H.out.2.2.len, ← hnum] at hcn
 have HCN := Hid.mk hcn
 have hrows := K1.out.2.2.stores hchg
 obtain ⟨g0, hg0, hg1, hg2⟩ : ∃ g0, w1.heap.size ≤ g0 ∧ (∀ hb n k, Value.slice lo ln lcp = .slice (some ⟨hb, 0, none⟩) n k → hb = g0) ∧ (y = true → g0 < w2.heap.size) := by
  rcases htw with ⟨e1, e2, -⟩ | ⟨-, ⟨hb, hz, e2, e3, -, -, e4⟩, -⟩
  ·refine ⟨w1.heap.size, Nat.le_refl _, fun hb n k h => ?_, fun h => by rw [e1] at h; cases h⟩
   rw [e2] at h
   simp at h
  ·refine ⟨hb, e3, fun hb' n k h => ?_, fun _ => ?_⟩
   ·rw [e2] at h
    simp only [Value.slice.injEq, Option.some.injEq, Addr.mk.injEq] at h
    exact h.1.1.symm
   ·rw [e2] at e4
    exact e4.lt
 obtain ⟨hv, iv, lv, tv', ls, sL, sI, sP, sX, sS, sM, sH, sN, sB⟩ := K1.out.2.2.storesG hchg g0 hg0
 have hgS : ¬ S4 W iv lv tv' g0 := fun hs => by have := (sS g0 hs).2; omega
 have KS := Hid.mk (And.intro sL (And.intro sI (And.intro sP (And.intro sX (And.intro sS (And.intro sM (And.intro sH (And.intro sN (And.intro sB hgS)))))))))
 have KG := Hid.mk (And.intro hg1 hg2)
 clear sL sI sP sX sS sM sH sN sB hg1 hg2 hgS
 have K2 := Hid.mk (And.intro htw (And.intro hchg (And.intro hbel2 (And.intro hcase hrows))))
 clear hrel htw hcase hchg hbel2 hnum hcn hrows c0
 have hnil0 := nil_int
 rcases K2.out.2.2.2.1 with ⟨hz, rfl, rfl, rfl⟩ | ⟨rfl, e1, e2, i, r, q, zs, j, ys, m1, m2, hi, hx, hj, hy, f1, f2, rfl, rfl, hout⟩
 ·rcases K2.out.1 with ⟨-, hl, hT2, -⟩ | ⟨e1, -⟩
  rotate_left
  ·cases e1
  simp only [Value.slice.injEq] at hl
  obtain ⟨rfl, rfl, rfl⟩ := hl
  have HF : Hid (StepOut B w w2 W T b1 b2 nx) := Hid.mk ⟨⟨ms, nx, es, ⟨hT2, K2.out.2.2.2.2, H.out.2.2⟩, by omega⟩, K2.out.2.2.1⟩
  clear hT2
  rcases hz with rfl | rfl | rfl
  ·go_wp2_with fail
   go_ret
   exact ⟨rfl, HF.out⟩
  ·go_wp2_with fail
   go_ret
   exact ⟨rfl, HF.out⟩
  ·go_wp2_with fail
   go_ret
   exact ⟨rfl, HF.out⟩
 ·have hM1 := KS.out.2.2.2.2.2.1
  obtain ⟨t1, g1, -⟩ := K1.out.2.2.entry m1 hi hx rfl
  obtain ⟨t2, g2, -⟩ := K1.out.2.2.entry m2 hj hy rfl
  obtain ⟨lo1, hi1, hm1, hav⟩ := hM1.find2 m1 t1 g1
  obtain ⟨lo2, hi2, hm2⟩ := hM1.find m2 t2 g2
  obtain ⟨gs1, u1, hu1, hR1, hup1, hul1⟩ := id hm1
  obtain ⟨gs2, hR2⟩ := hm2.isR
  have hr4 := f1.1
  have hq4 := f1.2.1
  have KL := Hid.mk (And.intro KS.out.1 KS.out.2.1)
  have HAV := Hid.mk hav
  obtain ⟨p1, hp1⟩ : ∃ p1, p1 = e1.2.2 := ⟨_, rfl⟩
  obtain ⟨p2, hp2⟩ : ∃ p2, p2 = e2.2.2 := ⟨_, rfl⟩
  rw [← hp1] at hR1 ⊢
  rw [← hp2] at hR2 ⊢
  have HD := Hid.mk (And.intro m1 (And.intro m2 (And.intro hi (And.intro hx (And.intro hj (And.intro hy (And.intro f1 (And.intro f2 hout))))))))
  have HPP := Hid.mk (And.intro hp1 hp2)
  have HR := Hid.mk (And.intro (hR1.tight (fits_fz f1)) (And.intro (hR2.tight (fits_fz f2)) (And.intro hup1 (And.intro hu1 hm1))))
  have hus : u1.heap.size ≤ w2.heap.size := by omega
  have HUS := Hid.mk hu1
  clear hM1 hav m1 m2 hi hx hj hy f1 f2 hm1 hm2 hR1 hR2 hp1 hp2 t1 t2 g1 g2 hout hup1 hu1 hul1
  go_wp2_with fail
  refine (turned_at p1 r q lo1 gs1 (fz q zs) 4 u1 _ HR.out.1 HR.out.2.2.1 hus (by omega) (by omega)).mono ?_
  rintro x w3 ⟨rfl, ⟨go1, hat⟩, hb3⟩
  have hw3 := hb3.size
  have K3 := Hid.mk (And.intro hat hb3)
  clear hat hb3
  go_wp2_with fail
  refine (turned_any p2 r 1 gs2 (fz 1 ys) lo2 4 _ (HR.out.2.1.keep (KR.of_below K3.out.2)) (by omega) (by omega)).mono ?_
  rintro x w4 ⟨rfl, ⟨go2, hbt⟩, hb4⟩
  have hw4 := hb4.size
  have hb24 : Below w2.heap.size w2 w4 := K3.out.2.trans (hb4.mono hw3)
  have hA4 := (K3.out.1 w4 (fun k _ hk => hb4.block k hk) (HR.out.2.2.1.trans (UpN.of_below hb24) hus)).congr (fun i j hi hj => (flip_fz r q zs hi hj).symm)
  have K4 := Hid.mk (And.intro hA4 (And.intro (hbt.congr (fun i j hi hj => (flip_fz r 1 ys hi hj).symm)) hb24))
  have HB4 := Hid.mk hb4
  clear hA4 hbt hb4 hb24
  go_wp2_with fail
  refine (spans_any w2.heap.size w3.heap.size q 1 r go1 go2 (fz r (flipL r q zs)) (fz r (flipL r 1 ys)) lo1 0 4 _ K4.out.1 K4.out.2.1 (by omega) (by omega) (by omega)).mono ?_
  rintro x w5 ⟨can, rfl, hcan, hb5⟩
  have hcan' : HasF (ent r (flipL r q zs)) q r → (can = true ↔ SolS r q zs ys) := fun hF => by
   rw [hcan]
   refine (HasF.say (N := fz r (flipL r 1 ys)) (n := 1) hF hq4 hr4).trans ⟨fun h => h 0 (by omega), fun h i hi => ?_⟩
   obtain rfl : i = 0 := by omega
   exact h
  have hb25 : Below w2.heap.size w2 w5 := K4.out.2.2.trans (hb5.mono K4.out.2.2.size)
  have K5 := Hid.mk (And.intro hcan' hb25)
  have HB5 := Hid.mk (HB4.out.trans (hb5.mono hw4))
  have hw25 := hb25.size
  have hw5 := hb5.size
  clear hcan hcan' hb5 hb25
  rcases HD.out.2.2.2.2.2.2.2.2 with ⟨⟨s1, s2⟩, rfl, rfl, rfl⟩ | ⟨⟨s1, s2⟩, hful, rfl, rfl, rfl⟩ | ⟨⟨s1, s2⟩, hroom, rfl, rfl, us, nk, ks, hsol, rfl⟩
  ·obtain rfl : can = false := by
    cases can
    ·rfl
    ·exact absurd ((K5.out.1 s2).1 rfl) s1
   rcases K2.out.1 with ⟨-, hl, hT2, -⟩ | ⟨e1, -⟩
   rotate_left
   ·cases e1
   simp only [Value.slice.injEq] at hl
   obtain ⟨rfl, rfl, rfl⟩ := hl
   have HF : Hid (StepOut B w w5 W T b1 b2 nx) := Hid.mk ⟨⟨ms, nx, es, (show LInv B w2 W T b1 b2 ms nx es from ⟨hT2, K2.out.2.2.2.2, H.out.2.2⟩).below K5.out.2, by omega⟩, K2.out.2.2.1.trans (K5.out.2.mono (by omega))⟩
   clear s1 s2 hT2
   go_wp2_with fail
   go_ret
   exact ⟨rfl, HF.out⟩
  ·obtain rfl : can = true := (K5.out.1 s2).2 s1
   rcases K2.out.1 with ⟨-, hl, hT2, -⟩ | ⟨e1, -⟩
   rotate_left
   ·cases e1
   simp only [Value.slice.injEq] at hl
   obtain ⟨rfl, rfl, rfl⟩ := hl
   have HF : Hid (StepOut B w w5 W T b1 b2 nx) := Hid.mk ⟨⟨ms, nx, es, (show LInv B w2 W T b1 b2 ms nx es from ⟨hT2, K2.out.2.2.2.2, H.out.2.2⟩).below K5.out.2, by omega⟩, K2.out.2.2.1.trans (K5.out.2.mono (by omega))⟩
   have HFU := Hid.mk hful
   clear s1 s2 hT2 hful
   go_wp2_with fail
   refine (full_raw W T nx 2 _ _ _ _ es _ (by omega) (KL.out.1.of_block (K5.out.2.block W KL.out.1.lt)) (KL.out.2.below K5.out.2) hle).mono ?_
   rintro x w' ⟨rfl, rfl⟩
   have hfl : decide (24 < es.length + 2) = true := decide_eq_true (by have := HCN.out; have := HFU.out; omega)
   rw [hfl]
   clear hfl
   go_wp2_with fail
   go_ret
   exact ⟨rfl, HF.out⟩
  ·obtain rfl : can = true := (K5.out.1 s2).2 s1
   have HN := Hid.mk (And.intro s1 (And.intro hsol hroom))
   clear s1 s2 hsol hroom
   go_wp2_with fail
   refine (full_raw W T nx 2 _ _ _ _ es _ (by omega) (KL.out.1.of_block (K5.out.2.block W KL.out.1.lt)) (KL.out.2.below K5.out.2) hle).mono ?_
   rintro x w' ⟨rfl, rfl⟩
   have hfl : decide (24 < es.length + 2) = false := decide_eq_false (by have := HCN.out; have := HN.out.2.2; omega)
   rw [hfl]
   clear hfl
   go_wp2_with fail
   obtain ⟨xs, hxs⟩ : ∃ xs : List Mx, xs = [(q, 1, us), (nk, q, ks)] := ⟨_, rfl⟩
   rw [← hxs] at K2
   obtain ⟨hT2, hb, hz, q1, q3, q4⟩ : TwH B w' T b1 b2 (puts ms nx xs) (nx + 2) ∧ ∃ hb hz, (Value.slice lo ln lcp = .slice (some ⟨hb, 0, none⟩) 2 2) ∧ (hz.length = 2 ∧ ∀ j, j < 2 → hz.getD j 0 = nx + j) ∧ R.Own w' (Value.slice lo ln lcp) hz := by
    rcases K2.out.1 with ⟨e1, -⟩ | ⟨-, ⟨hb, hz, a1, a2, a3, a4, a5⟩, a6, -⟩
    ·cases e1
    ·exact ⟨a6.below K5.out.2, hb, hz, a1, ⟨a3, a4⟩, a5.below K5.out.2⟩
   obtain rfl := KG.out.1 hb 2 2 q1
   have hhb2 := KG.out.2 trivial
   simp only [Value.slice.injEq] at q1
   obtain ⟨rfl, rfl, rfl⟩ := q1
   obtain ⟨k0, hnk, hkq, hrk, hrk2, hdiv, hzero⟩ := HN.out.2.1.kernel hr4 hq4
   have hnk4 : nk ≤ 4 := by omega
   have hsub : (q : Int) - (k0 : Int) = (nk : Int) := by omega
   clear hnk
   have hxl : xs.length = 2 := by rw [hxs]; rfl
   have hxs2 : xs.length ≤ ms.countP Option.isNone := by rw [hxl]; exact HN.out.2.2
   have hfine : ∀ j, j < 2 → Fine (xs.getD j mxD).1 (xs.getD j mxD).2.1 (xs.getD j mxD).2.2 := fun j hj => by
    obtain ⟨a1, a2⟩ := puts_at (nx := nx) H.out.2.2.len hxs2 j (by rw [hxl]; exact hj)
    refine hT2.2.1.fine (hd := nx + j) a1 a2 ?_ ?_
    ·rw [hxs]
     match j, hj with
     | 0, _ => exact hq4
     | 1, _ => exact hnk4
    ·rw [hxs]
     match j, hj with
     | 0, _ => show 1 ≤ 4; omega
     | 1, _ => exact hq4
   have hdst : Dst (puts ms nx xs) := (H.out.2.2.pushes xs [0, 0] hxs2 (by rw [hxl]; rfl)).dst
   have sL := KS.out.1.of_block (K5.out.2.block W KS.out.1.lt)
   have K6 := Hid.mk (And.intro hT2 (And.intro q3 (And.intro q4 (And.intro sL (And.intro (KS.out.2.1.below K5.out.2) (And.intro (KS.out.2.2.1.below K5.out.2) (And.intro (KS.out.2.2.2.1.below K5.out.2) (And.intro hfine (And.intro hdst (And.intro hxs2 (And.intro hxl hxs)))))))))))
   have HK := Hid.mk (And.intro hrk (And.intro hrk2 (And.intro hdiv hzero)))
   clear hT2 q3 q4 sL hfine hdst hrk hrk2 hdiv hzero
   refine (held_any B W T b1 b2 hb 2 nx (nx + 2) iv lv tv' (puts ms nx xs) es xs (ksOf ms nx xs) _ K6.out.1 K6.out.2.2.2.1 K6.out.2.2.2.2.1 K6.out.2.2.2.2.2.1 K6.out.2.2.2.2.2.2.1 (fun k hk => (KS.out.2.2.2.2.1 k hk).1) (by omega) (by omega) (fun j hj => ?_) K6.out.2.2.2.2.2.2.2.2.1 hle (fun j hj => ?_) KS.out.2.2.2.2.2.2.2.2.2).mono ?_
   ·obtain ⟨a1, a2⟩ := puts_at (nx := nx) H.out.2.2.len hxs2 j (by rw [hxl]; exact hj)
    exact ⟨a1, a2, K6.out.2.2.2.2.2.2.2.1 j hj⟩
   ·have := K6.out.2.2.1.cell K6.out.2.1.1 j hj
    rw [K6.out.2.1.2 j hj] at this
    exact this
   rintro x w7 ⟨ov, ps, hpl, rfl, hst⟩
   have hst0 := hst
   obtain ⟨iv', lv', tv'', ⟨hov, hovS⟩, ⟨hL1, -⟩, -, -, hC1⟩ := hst
   rw [hpl] at hL1
   have hgS := KS.out.2.2.2.2.2.2.2.2.2
   have hsH := KS.out.2.2.2.2.2.2.1.below K5.out.2
   have hoR : R.Own w7 (.slice (some ⟨hb, 0, none⟩) 2 2) hz := K6.out.2.2.1.of_block (fun g hg => by
    simp [Value.ownBlock] at hg
    subst hg
    exact hC1.block K6.out.2.2.1.lt hgS)
   have hhR : RowG w7 25 hv (hlc ls) := hsH.1.chg hC1 (fun k hk hs => hsH.2.1 k hk (.inl (.inl hs)))
   have K7 := Hid.mk (And.intro hst0 (And.intro hov (And.intro hL1 (And.intro hoR (And.intro hhR (And.intro hpl hC1))))))
   have hw7 := hC1.size
   obtain ⟨og, ocap, rfl⟩ : ∃ og ocap, ov = .slice (some ⟨og, 0, none⟩) 2 ocap := by
    rcases hov with ⟨-, h0⟩ | ⟨g, cap, cur, h1, -⟩
    ·have := congrArg List.length h0; rw [ptrs_len, hpl] at this; simp at this
    ·rw [ptrs_len, hpl] at h1; exact ⟨g, cap, h1⟩
   clear hst0 hov hovS hL1 hoR hhR hC1 hsH hgS
   go_wp2_with fail
   refine (mine_any W T (nx + 2) hb 2 hv iv' lv' tv'' ls hz _ K7.out.2.2.1 K7.out.2.2.2.2.1 K7.out.2.2.2.1 K6.out.2.1.1 (by omega) (by have := KS.out.2.2.2.2.2.2.2.1; omega)).mono ?_
   rintro x w8 ⟨rfl, hmine⟩
   obtain ⟨hinv, hbB, -⟩ := many_inv K6.out.1 hxl (by omega) (by omega) H.out.2.2 HN.out.2.2 K6.out.2.2.2.1 K6.out.2.2.2.2.1 K6.out.2.2.2.2.2.1 K6.out.2.2.2.2.2.2.1 KS.out.2.2.2.2.1 (KS.out.2.2.2.2.2.1.below K5.out.2) (KS.out.2.2.2.2.2.2.1.below K5.out.2) KS.out.2.2.2.2.2.2.2.1 KS.out.2.2.2.2.2.2.2.2.1
    K6.out.2.2.1.lt hg0 (R.Own.ty_ K6.out.2.2.1) (by omega) hpl K6.out.2.2.2.2.2.2.2.1 K7.out.1 (fun a1 a2 a3 hL2 => by
     obtain ⟨rfl, rfl, rfl⟩ := Lw.inj hL2 K7.out.2.2.1
     exact hmine)
   have hov4 : RowG w8 130 (.slice (some ⟨og, 0, none⟩) 2 ocap) (ptrs ps) := by
    obtain ⟨_, _, _, _, hC2, _⟩ := hmine
    refine K7.out.2.1.chg hC2 (fun k hk hs => ?_)
    have hkt := (K7.out.2.1.own k hk).2
    rcases hs with hs | hs | hs
    ·exact ty_ne hkt K7.out.2.2.1.ty (by decide) hs
    ·exact ty_ne hkt (K7.out.2.2.2.2.1.own k hs).2 (by decide) rfl
    ·exact ty_ne hkt (R.Own.ty_ K7.out.2.2.2.1) (by decide) hs
   have hB8 : Below B w w8 := (K2.out.2.2.1.trans (K5.out.2.mono (by omega))).trans hbB
   have hw8 := hB8.size
   have hat8 : IsR lo1 w8 w2.heap.size q r go1 (fz r (flipL r q zs)) 4 := by
    obtain ⟨_, _, _, _, hC2, _⟩ := hmine
    have hC1 := K7.out.2.2.2.2.2.2
    refine (K3.out.1 w8 (fun k h1 h2 => ?_) (fun k h1 h2 => ?_)).congr (fun i j hi hj => (flip_fz r q zs hi hj).symm)
    ·have hk5 : k < w'.heap.size := by have := HB5.out.size; omega
     rw [hC2.block (by have := hC1.size; omega) (fun hs => ?_), hC1.block hk5 (fun hs => by have := (KS.out.2.2.2.2.1 k hs).2; omega), HB5.out.block k h2]
     rcases hs with hs | hs | hs
     ·have := (KS.out.2.2.2.2.1 k (.inl hs)).2; omega
     ·have := (KS.out.2.2.2.2.2.2.2.2.1 k hs).2; omega
     ·omega
    ·have hk2 : k < w2.heap.size := by omega
     have hav := HAV.out
     rw [hC2.block (by have := hC1.size; omega) (fun hs => ?_), hC1.block (by omega) (fun hs => ?_), K5.out.2.block k hk2]
     ·exact HR.out.2.2.1 k h1 h2
     ·have := hav k (.inl (.inl (.inl hs))); have := HUS.out; omega
     ·rcases hs with hs | hs | hs
      ·have := hav k (.inl (.inl (.inl (.inl hs)))); have := HUS.out; omega
      ·have := hav k (.inl (.inr hs)); have := HUS.out; omega
      ·have := hav k (.inr hs); have := HUS.out; omega
   obtain ⟨p0, pk, rfl⟩ : ∃ p0 pk, ps = [p0, pk] := by
    match ps, hpl with
    | [a, b], _ => exact ⟨a, b, rfl⟩
   have hin : ∀ j, j < 2 → ∃ lo hi, MatAt w8 lo hi ([p0, pk].getD j 0) (xs.getD j mxD).1 (xs.getD j mxD).2.1 (fz (xs.getD j mxD).2.1 (xs.getD j mxD).2.2) := fun j hj => by
    obtain ⟨a1, a2⟩ := puts_at (nx := nx) H.out.2.2.len hxs2 j (by rw [hxl]; exact hj)
    have hmem : (nx + j, mxT (xs.getD j mxD), [p0, pk].getD j 0) ∈ es ++ ents nx xs [p0, pk] := List.mem_append.2 (.inr (List.mem_map.2 ⟨j, List.mem_range.2 hj, rfl⟩))
    exact (hinv.entry hmem a1 a2 rfl).2.2
   obtain ⟨m, hm⟩ : ∃ m, m = 400000000 := ⟨_, rfl⟩
   have hbit : ∀ j, j < 2 → ∀ t, t < (xs.getD j mxD).1 * (xs.getD j mxD).2.1 → ((xs.getD j mxD).2.2.getD t 0).natAbs < 2 ^ (16 * m) := fun j hj => by
    obtain ⟨a1, a2⟩ := puts_at (nx := nx) H.out.2.2.len hxs2 j (by rw [hxl]; exact hj)
    exact K6.out.1.2.1.bits (hd := nx + j) a1 a2 (m := m) (by omega)
   have h0 := hin 0 (by omega)
   have h1 := hin 1 (by omega)
   have b0 := hbit 0 (by omega)
   have b1' := hbit 1 (by omega)
   rw [hxs] at h0 h1 b0 b1'
   obtain ⟨lo0, hi0, h0⟩ := h0
   obtain ⟨lok, hik, h1⟩ := h1
   obtain ⟨gs0, r0⟩ := h0.isR
   obtain ⟨gsk, rk⟩ := h1.isR
   have r0' : IsR lo0 w8 p0 q 1 gs0 (fz 1 us) (2 * m) := r0.fit (fun i j hi hj => b0 _ (idx_lt hi hj))
   have rk' : IsR lok w8 pk nk q gsk (fz q ks) (2 * m) := rk.fit (fun i j hi hj => b1' _ (idx_lt hi hj))
   obtain ⟨-, -, loa, hia, ha8⟩ := hinv.entry (List.mem_append.2 (.inl HD.out.1)) HD.out.2.2.1 (puts_old xs ms nx i _ H.out.2.2.len hxs2 HD.out.2.2.2.1) rfl
   obtain ⟨-, -, lob, hib, hb8⟩ := hinv.entry (List.mem_append.2 (.inl HD.out.2.1)) HD.out.2.2.2.2.1 (puts_old xs ms nx j _ H.out.2.2.len hxs2 HD.out.2.2.2.2.2.1) rfl
   obtain ⟨gsa, ra⟩ := ha8.isR
   obtain ⟨gsb, rb⟩ := hb8.isR
   rw [← HPP.out.1] at ra
   rw [← HPP.out.2] at rb
   have o0 : w8.cell? ⟨og, 0, none⟩ = some (.pointer (some ⟨p0, 0, none⟩)) := by
    obtain ⟨ao, cp, e1, -, -, -, e2⟩ := hov4.shape
    simp only [Value.slice.injEq] at e1
    obtain ⟨g', e3, e4⟩ := e2 0 (by simp [ptrs])
    rw [← e1.1] at e3
    simp only [Option.some.injEq, Addr.mk.injEq] at e3
    rw [e3.1, e4]; simp [ptrs]
   have o1 : w8.cell? ⟨og, 1, none⟩ = some (.pointer (some ⟨pk, 0, none⟩)) := by
    obtain ⟨ao, cp, e1, -, -, -, e2⟩ := hov4.shape
    simp only [Value.slice.injEq] at e1
    obtain ⟨g', e3, e4⟩ := e2 1 (by simp [ptrs])
    rw [← e1.1] at e3
    simp only [Option.some.injEq, Addr.mk.injEq] at e3
    rw [e3.1, e4]; simp [ptrs]
   have hm5 : m ≤ 400000000 := by omega
   obtain ⟨-, ao5, cap5, x0, x1, -⟩ := r0'.open_
   obtain ⟨-, ao6, cap6, y0, y1, -⟩ := rk'.open_
   obtain ⟨-, ao7, cap7, z0, z1, -⟩ := ra.open_
   have K8 := Hid.mk (And.intro r0' (And.intro rk' (And.intro (ra.tight (fits_fz HD.out.2.2.2.2.2.2.1)) (And.intro (rb.tight (fits_fz HD.out.2.2.2.2.2.2.2.1)) (And.intro hat8 (And.intro hinv hB8))))))
   have hnil := nil_cmp ⟨og, 0, none⟩ 2 ocap
   have iq : ((q : Int) != (q : Int)) = false := by simp
   clear hin hbit h0 h1 b0 b1' r0 rk r0' rk' ra rb ha8 hb8 hat8 hinv hB8 hbB hov4 hm
   go_wp2_with fail
   try go_quiet (fail)
   try go_wp2_with fail
   have hbq := below_drewN (Below.refl w8.heap.size w8) nq
   refine (mtimes_any 4 (2 * m) p1 r q gsa (fz q zs) loa p0 1 gs0 (fz 1 us) lo0 _ (K8.out.2.2.1.keep (KR.of_below hbq)) (K8.out.1.keep (KR.of_below hbq)) (by omega) (by omega) (by omega) (by omega)).mono ?_
   rintro x w9 ⟨rfl, ⟨go3, hIp⟩, hb9⟩
   have hb89 : Below w8.heap.size w8 w9 := hbq.trans (hb9.mono hbq.size)
   have K9 := Hid.mk (And.intro hIp (And.intro ((K8.out.2.2.2.1.keep (KR.of_below hb89)).mono (show 4 ≤ 4 + 2 * m + 12 by omega)) hb89))
   have o1' := cell_later hb89 o1
   have y0' := cell_later hb89 y0
   have z0' := cell_later hb89 z0
   have z1' := cell_later hb89 z1
   clear hIp hb9 hb89 hbq x0 x1 y0 y1 z0 z1 o0 o1
   go_wp2_with fail
   refine (same_yes _ r 1 go3 _ 0 p2 gsb _ lob (4 + 2 * m + 12) _ K9.out.1 K9.out.2.1 (HN.out.2.1.back HN.out.1) (by omega) (by omega) (by omega)).mono ?_
   rintro x w10 ⟨rfl, hb10⟩
   have hb810 : Below w8.heap.size w8 w10 := K9.out.2.2.trans (hb10.mono K9.out.2.2.size)
   have K10 := Hid.mk hb810
   have o1 := cell_later hb10 o1'
   have y0 := cell_later hb10 y0'
   have z0 := cell_later hb10 z0'
   have z1 := cell_later hb10 z1'
   clear hb10 hb810 o1' y0' z0' z1'
   go_wp2_with fail
   refine (rank_any p1 r q gsa (fz q zs) loa 4 _ (K8.out.2.2.1.keep (KR.of_below K10.out)) (by omega) (by omega) (by omega)).mono ?_
   rintro x w11 ⟨kr, rfl, hkr, hb11⟩
   have ekr : k0 = kr := (rank_uniq hkr HK.out.1).symm
   subst ekr
   have K11 := Hid.mk (K10.out.trans (hb11.mono K10.out.size))
   have o1' := cell_later hb11 o1
   have y0' := cell_later hb11 y0
   have z0' := cell_later hb11 z0
   have z1' := cell_later hb11 z1
   clear hb11 hkr o1 y0 z0 z1
   go_wp2_with fail
   refine (rank_any pk nk q gsk (fz q ks) lok (2 * m) _ (K8.out.2.1.keep (KR.of_below K11.out)) (by omega) (by omega) (by omega)).mono ?_
   rintro x w12 ⟨kk, rfl, hkk, hb12⟩
   have ekk : nk = kk := (rank_uniq hkk HK.out.2.1).symm
   subst ekk
   have K12 := Hid.mk (K11.out.trans (hb12.mono K11.out.size))
   have o1 := cell_later hb12 o1'
   have y0 := cell_later hb12 y0'
   have z0 := cell_later hb12 z0'
   have z1 := cell_later hb12 z1'
   clear hb12 hkk o1' y0' z0' z1'
   go_wp2_with fail
   refine (mtimes_any (2 * m) 4 pk nk q gsk (fz q ks) lok w2.heap.size r go1 (fz r (flipL r q zs)) lo1 _ (K8.out.2.1.keep (KR.of_below K12.out)) (K8.out.2.2.2.2.1.keep (KR.of_below K12.out)) (by omega) (by omega) (by omega) (by omega)).mono ?_
   rintro x w13 ⟨rfl, ⟨go4, hIq⟩, hb13⟩
   have K13 := Hid.mk (And.intro hIq (K12.out.trans (hb13.mono K12.out.size)))
   have o1' := cell_later hb13 o1
   have y0' := cell_later hb13 y0
   have z0' := cell_later hb13 z0
   have z1' := cell_later hb13 z1
   clear hIq hb13 o1 y0 z0 z1
   go_wp2_with fail
   go_still_tail 10, (by kernel_rfl)
   go_wp2_with fail
   have hbd : Below w8.heap.size w8 w13.drew := K13.out.2.drew
   refine (empty_any nk r _ (by omega) (by omega)).mono ?_
   rintro x w14 ⟨rfl, ⟨go5, hIz⟩, hb14⟩
   have K14 := Hid.mk (And.intro ((K13.out.1.keep (KR.of_below ((Below.refl w13.heap.size w13).drew.trans hb14)))) (And.intro ((hIz.weak (Nat.zero_le _)).mono (Nat.zero_le (2 * m + 4 + 12))) (hbd.trans (hb14.mono hbd.size))))
   have o1 := cell_later hb14 o1'
   have y0 := cell_later hb14 y0'
   have z0 := cell_later hb14 z0'
   have z1 := cell_later hb14 z1'
   clear hIz hb14 hbd o1' y0' z0' z1'
   go_wp2_with fail
   try go_quiet (fail)
   try go_wp2_with fail
   refine (same_yes _ nk r go4 _ 0 _ go5 _ 0 (2 * m + 4 + 12) _ K14.out.1 K14.out.2.1 (fun i j hi hj => HK.out.2.2.2 i j hi hj) (by omega) (by omega) (by omega)).mono ?_
   rintro x w15 ⟨rfl, hb15⟩
   have K15 := Hid.mk (K14.out.2.2.trans (hb15.mono K14.out.2.2.size))
   have o1' := cell_later hb15 o1
   have y0' := cell_later hb15 y0
   have z0' := cell_later hb15 z0
   have z1' := cell_later hb15 z1
   clear hb15 o1 y0 z0 z1
   go_wp2_with fail
   refine (divisor_any pk nk q nk gsk (fz q ks) lok (2 * m) _ (K8.out.2.1.keep (KR.of_below K15.out)) (by omega) (by omega) (by omega) (by omega) (LM_le (by omega) (by omega))).mono ?_
   rintro x w16 ⟨nv, rfl, hN, hb16⟩
   rw [HK.out.2.2.1] at hN
   have K16 := Hid.mk (And.intro hN (K15.out.trans (hb16.mono K15.out.size)))
   have o1 := cell_later hb16 o1'
   have y0 := cell_later hb16 y0'
   have z0 := cell_later hb16 z0'
   have z1 := cell_later hb16 z1'
   obtain ⟨na, ao, cap, ds, rfl, -⟩ := hN.parts
   clear hN hb16 o1' y0' z0' z1'
   go_wp2_with fail
   have hbA : Below w16.heap.size w16 (w16.alloc (.cells #[.bool na, .slice ao ds.length cap] 138)) := (Below.refl _ _).alloc (Nat.le_refl _) _
   refine (text_any _ _ _ _ (K16.out.1.below hbA) (by have := LM_le (L := 2 * m) (k := nk) (by omega) (by omega); omega)).mono ?_
   rintro x w17 ⟨rfl, hb17⟩
   have hb1617 : Below w16.heap.size w16 w17 := hbA.trans (hb17.mono hbA.size)
   have o1' := cell_later hb1617 o1
   have y0' := cell_later hb1617 y0
   have z0' := cell_later hb1617 z0
   have z1' := cell_later hb1617 z1
   have hb817 : Below w8.heap.size w8 w17 := K16.out.2.trans (hb1617.mono K16.out.2.size)
   have HF : Hid (StepOut B w w17 W T b1 b2 nx) := Hid.mk ⟨⟨_, _, _, K8.out.2.2.2.2.2.1.below hb817, by omega⟩, K8.out.2.2.2.2.2.2.trans (hb817.mono (by omega))⟩
   have hone : Lib.itoa (((1 : Nat) : Int)) = [49] := by rw [Lib.itoa_nonneg, Lib.decDigits_one (by omega)]; rfl
   rw [hone]
   clear hb17 hb1617 hb817 hbA o1 y0 z0 z1
   go_wp2_with fail
   go_ret
   exact ⟨rfl, HF.out⟩
open Go.RowKit R
set_option maxRecDepth 100000 in
set_option maxHeartbeats 4000000 in
theorem step_solve0 (B W T b1 b2 : Nat) (ms : List Hm) (nx : Nat) (es : List Ent) (kd a b c : Int) (s t : ByteArray) (w : World) (h : LInv B w W T b1 b2 ms nx es) (hkd : kd = 9) (ha1 : -9223372036854775808 ≤ a) (ha2 : a ≤ 9223372036854775807) (hb1 : -9223372036854775808 ≤ b) (hb2 : b ≤ 9223372036854775807) (hnx : nx < 999995) :
 Calls Tryz.prog 35 #[.pointer (some ⟨W, 0, none⟩), opV kd a b c s t] w fun x w' => x = .returned (.bool true) ∧ StepOut B w w' W T b1 b2 nx := by
 have H := Hid.mk h
 have hB := h.size
 have HKD := Hid.mk hkd
 clear h hkd
 unfold opV
 obtain ⟨W0, hW0⟩ : ∃ W0, W0 = w.alloc (.cells #[.int .i64 kd, .int .i64 a, .int .i64 b, .int .i64 c, .string s, .string t] 31) := ⟨_, rfl⟩
 have hbW : Below w.heap.size w W0 := by rw [hW0]; exact (Below.refl _ _).alloc (Nat.le_refl _) _
 have hblk : W0.heap[w.heap.size]? = some (.cells #[.int .i64 kd, .int .i64 a, .int .i64 b, .int .i64 c, .string s, .string t] 31 (0, 0)) := by rw [hW0]; exact heap_alloc_new w _
 have hsz : W0.heap.size = w.heap.size + 1 := by rw [hW0]; simp
 have H0 := Hid.mk (And.intro hbW (And.intro hblk hW0))
 clear hbW hblk hW0
 go_enter Tryz.func35, Tryz.ntmps35
 go_wp2_with fail
 rw [← H0.out.2.2]
 refine (handle_any B W T b1 b2 ms nx es a c _ (H.out.below H0.out.1) ha1 ha2).mono ?_
 rintro x w1 ⟨⟨hh, rfl⟩, hb1'⟩
 have hblk1 : w1.heap[w.heap.size]? = some (.cells #[.int .i64 kd, .int .i64 a, .int .i64 b, .int .i64 c, .string s, .string t] 31 (0, 0)) := by rw [hb1'.block _ (by omega)]; exact H0.out.2.1
 have hbe1 : Below w.heap.size w w1 := H0.out.1.trans (hb1'.mono H0.out.1.size)
 have g0 : w1.cell? ⟨w.heap.size, 0, none⟩ = some (.int .i64 kd) := by simp [World.cell?, hblk1]
 have g2 : w1.cell? ⟨w.heap.size, 2, none⟩ = some (.int .i64 b) := by simp [World.cell?, hblk1]
 have g3 : w1.cell? ⟨w.heap.size, 3, none⟩ = some (.int .i64 c) := by simp [World.cell?, hblk1]
 have hs1 := hb1'.size
 have K1 := Hid.mk (And.intro hbe1 hblk1)
 clear hb1' hblk1 hbe1
 go_wp2_with fail
 refine (handle_any B W T b1 b2 ms nx es b c _ (H.out.below K1.out.1) hb1 hb2).mono ?_
 rintro x w2 ⟨⟨hh2, rfl⟩, hb2'⟩
 have hblk2 : w2.heap[w.heap.size]? = some (.cells #[.int .i64 kd, .int .i64 a, .int .i64 b, .int .i64 c, .string s, .string t] 31 (0, 0)) := by rw [hb2'.block _ (by omega)]; exact K1.out.2
 have hbe2 : Below w.heap.size w w2 := K1.out.1.trans (hb2'.mono K1.out.1.size)
 clear g0 g2 g3
 have g0 : w2.cell? ⟨w.heap.size, 0, none⟩ = some (.int .i64 kd) := by simp [World.cell?, hblk2]
 have g4 : w2.cell? ⟨w.heap.size, 4, none⟩ = some (.string s) := by simp [World.cell?, hblk2]
 have K2 := Hid.mk (And.intro hbe2 (H.out.below hbe2))
 clear hb2' hblk2 hbe2
 obtain rfl := HKD.out
 go_wp2_with fail
 refine (solved_any B W T b1 b2 ms nx es hh hh2 _ K2.out.2 (by omega)).mono ?_
 rintro x w3 ⟨rfl, ho⟩
 have HO := Hid.mk (ho.after (K2.out.1.mono hB))
 clear ho
 go_wp2_with fail
 go_ret
 exact ⟨rfl, HO.out⟩
theorem step_solve : StepOk (fun kd => kd = 9) := fun B W T b1 b2 ms nx es kd a b c s t w h hkd ha1 ha2 hb1 hb2 _ hnx => step_solve0 B W T b1 b2 ms nx es kd a b c s t w h hkd ha1 ha2 hb1 hb2 hnx
end Go.Proofs.YtfjbijpagaipnaaGreatDoor
