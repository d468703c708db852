import Derived.Test.YtfjbijpagaipnabGreatDoorR41
import Derived.Test.YtfjbijpagaipnabGreatDoorR32
import Derived.Test.YtfjbijpagaipnabGreatDoorR33
import Derived.Test.YtfjbijpagaipnabGreatDoorR42
import Derived.Test.YtfjbijpagaipnabGreatDoorR38
import Derived.Test.YtfjbijpagaipnabGreatDoorR40
import Derived.Test.YtfjbijpagaipnabGreatDoorR35
import Derived.Test.YtfjbijpagaipnabGreatDoorR43
import Derived.Test.YtfjbijpagaipnabGreatDoorR23
namespace Go.Proofs.YtfjbijpagaipnabGreatDoor
open Go.RowKit R
open Go.RowKit R
open Go.RowKit R
open Go.RowKit
open Go.RowKit R
open Go.RowKit R
open Go.RowKit R
open Go.RowKit R
theorem R.gmF_ip (f : Nat → Nat → Int) (c i j : Nat) : gmF f c i j = ip c (f i) (f j) := by unfold gmF ip; rw [dot_sm]
theorem R.gm_vol (f : Nat → Nat → Int) (c k : Nat) : detF k (gmF f c) = vol c f k := by
 rw [← vol_E]
 exact detF_upto k _ _ (fun i j _ _ => gmF_ip f c i j)
theorem R.gm_lam (f : Nat → Nat → Int) (c i j : Nat) (hj : j ≤ 3) : minorF (gmF f c) (List.range (j + 1)) (List.range j ++ [i]) = lam c f i j := by
 rw [minor_det _ _ _ (by simp)]
 unfold lam
 rw [F_vol, gm_sym c _ _ (by simp) (by simp; omega), gm_det, List.length_range]
 refine detF_upto (j + 1) _ _ (fun x y hx hy => ?_)
 show gmF f c _ _ = _
 rw [gmF_ip, range_getD _ _ hx]
 by_cases e : y = j
 ·rw [if_pos e, e]
  have : (List.range j ++ [i]).getD j 0 = i := by simp [List.getD]
  rw [this]
  by_cases e' : x = j
  ·rw [if_pos e', e']
  ·rw [if_neg e']
 ·rw [if_neg e]
  have : (List.range j ++ [i]).getD y 0 = y := by
   rw [List.getD, List.getElem?_append_left (by simp; omega), List.getElem?_range (by omega)]; rfl
  rw [this]
  by_cases e' : x = j
  ·rw [if_pos e', e']
  ·rw [if_neg e']
theorem R.RedI.shp {c m n kk : Nat} {A b t : Nat → Nat → Int} (h : RedI c m n n kk A b t) : ShP b n c := by
 obtain ⟨z, hz, -⟩ := h.st
 have h1 := hz.kz
 have h2 := hz.zn
 have h4 := hz.n4
 refine ⟨fun i hi => by rw [gm_vol]; exact hz.pos _ (by omega), fun i j hi hj => ?_, fun i hi => ?_⟩
 ·rw [gm_vol, gm_lam _ _ _ _ (by omega)]
  have := hz.red i hi j hj
  have hp := hz.pos (j + 1) (by omega)
  omega
 ·rw [gm_vol, gm_vol, gm_vol, gm_lam _ _ _ _ (by omega)]
  exact hz.ord i hi
theorem R.vol_rank {c n : Nat} {b : Nat → Nat → Int} (hn : n ≤ 4) (h : 0 < vol c b n) : n ≤ c ∧ divF b n c n ≠ 0 := by
 have key : divF b n c n ≠ 0 := by
  intro h0
  rw [← div_tr b n c n hn, all_div _ _ _ _ hn, allV_iff] at h0
  have hr : List.range n ∈ chosenL n n := by
   have := h0
   rw [chosenL_self]; simp
  have h1 : AllD 0 (gmF b c) n (List.range n) := by
   refine allD_comb (h0 _ hr) (fun i hi => ⟨b i, fun x hx => ?_⟩)
   rw [gmF_ip]; rfl
  have h2 := h1 (List.range n) rfl (fun x hx => List.mem_range.1 hx)
  rw [← mv_minor, minor_range, gm_vol] at h2
  have := Int.zero_dvd.1 h2
  omega
 refine ⟨?_, key⟩
 rcases Nat.lt_or_ge c n with h1 | h1
 ·exfalso
  apply key
  rw [← div_tr b n c n hn]
  exact div_few _ h1
 ·exact h1
theorem R.RedI.rank {c m n kk k : Nat} {A b t : Nat → Nat → Int} (h : RedI c m n n kk A b t) (hA : RankIs A m c k) : RankIs b n c n ∧ n = k := by
 obtain ⟨z, hz, -⟩ := h.st
 have h1 := hz.kz
 have h2 := hz.zn
 have h4 := hz.n4
 obtain ⟨a1, a2⟩ := vol_rank h4 (hz.pos n (by omega))
 have hb := rank_of_div h4 a1 a2
 have hs : ∀ i, i < n → Sp A m c (b i) := fun i hi => ⟨t i, fun j hj => (h.tm i j hi hj).symm⟩
 exact ⟨hb, rank_uniq hb (rank_same h.back hs h.c4 hA)⟩
theorem R.RedI.spans {c m n kk : Nat} {A b t : Nat → Nat → Int} (h : RedI c m n n kk A b t) : ∃ l, RankIs b n c l ∧ RankIs (ov n b A) (n + m) c l ∧ divF (ov n b A) (n + m) c l = divF b n c l := by
 obtain ⟨z, hz, -⟩ := h.st
 have h1 := hz.kz
 have h2 := hz.zn
 have h4 := hz.n4
 obtain ⟨a1, a2⟩ := vol_rank h4 (hz.pos n (by omega))
 have hb := rank_of_div h4 a1 a2
 have s1 : ∀ i, i < n → Sp (ov n b A) (n + m) c (b i) := fun i hi => by
  have := Sp.row (ov n b A) c (show i < n + m by omega)
  refine Sp.eq this (fun j hj => ?_)
  unfold ov; rw [if_pos hi]
 have s2 : ∀ i, i < n + m → Sp b n c (ov n b A i) := fun i hi => by
  by_cases e : i < n
  ·exact Sp.eq (Sp.row b c e) (fun j hj => by unfold ov; rw [if_pos e])
  ·exact Sp.eq (h.back (i - n) (by omega)) (fun j hj => by unfold ov; rw [if_neg e])
 exact ⟨n, hb, rank_same s1 s2 h.c4 hb, (div_same s1 s2 h4).symm⟩
open Go.RowKit R
theorem R.RedI.bits' {c m n kk : Nat} {A b t : Nat → Nat → Int} (h : RedI c m n n kk A b t) {E : Nat} (hE : 147200001 ≤ E) (i j : Nat) (hi : i < n) (hj : j < m) : (t i j).natAbs < 2 ^ E := pow_up (h.bits i j hi hj) (by have := h.le; omega)
theorem R.RedI.n4 {c m n k kk : Nat} {A b t : Nat → Nat → Int} (h : RedI c m n k kk A b t) : n ≤ 4 := by
 obtain ⟨z, hz, -⟩ := h.st
 exact hz.n4
theorem RdRes.fine {r c : Nat} {zs : List Int} {xs : List Mx} (h : RdRes r c zs xs) (hr : r ≤ 4) (hc : c ≤ 4) (j : Nat) (hj : j < 2) : Fine (xs.getD j mxD).1 (xs.getD j mxD).2.1 (xs.getD j mxD).2.2 := by
 obtain ⟨n, kk, rs, ts, rfl, h1, -, l1, l2⟩ := h
 obtain ⟨m, hm⟩ : ∃ m, m = 60000000 := ⟨_, rfl⟩
 match j, hj with
 | 0, _ => exact fine_bits h1.n4 hc l1 (ent_all (P := fun z => z.natAbs < 2 ^ (16 * (m + 1))) (fun i j hi hj => pow_up (h1.short i j hi hj) (by omega))) (by omega)
 | 1, _ => exact fine_bits h1.n4 hr l2 (ent_all (P := fun z => z.natAbs < 2 ^ (16 * (m + 1))) (fun i j hi hj => h1.bits' (by omega) i j hi hj)) (by omega)
set_option maxRecDepth 100000 in
set_option maxHeartbeats 4000000 in
theorem reduced_any (B W T b1 b2 : Nat) (ms : List Hm) (nx : Nat) (es : List Ent) (h : Int) (w : World) (hI : LInv B w W T b1 b2 ms nx es) (hnx : nx < 1000000 - 5) :
 Calls Tryz.prog 120 #[.pointer (some ⟨W, 0, none⟩), .int .i64 h] w fun x w' => x = .returned (.bool true) ∧ StepOut B w w' W T b1 b2 nx := by
 have hB := hI.size
 have hle := hI.le24
 have H := Hid.mk hI
 clear hI
 go_enter Tryz.func120, Tryz.ntmps120
 go_wp2_with fail
 refine (due_any B W T b1 b2 ms nx es h false _ H.out).mono ?_
 rintro x w1 ⟨⟨v, want, rfl, hdue⟩, hb1⟩
 have hI1 := H.out.below hb1
 obtain ⟨ioa, icap, loa, lcap, tv, c0, -⟩ := hI1.lcells
 have K1 := Hid.mk (And.intro hdue (And.intro hb1 hI1))
 have hw1 := hb1.size
 clear hdue hb1 hI1
 go_wp2_with fail
 refine (twReduce_any B T b1 b2 h ms nx _ K1.out.2.2.1 H.out.2.2.dst hnx).mono ?_
 rintro x w2 ⟨l, e, ok, xs, rfl, hrel, htw⟩
 have hcase := many_case H.out.2.2.dst K1.out.1 hrel
 have hchg : Chg (St2 b1 b2) w1 w2 := by rcases htw with ⟨-, -, -, f⟩ | ⟨-, -, -, f⟩ <;> exact f
 have hbel2 : Below B w w2 := (K1.out.2.1.mono hB).trans (hchg.below (St2.le H.out.1.2.2.2.2.2.2.1 H.out.1.2.2.2.2.2.2.2) (by omega))
 have hw2 := hbel2.size
 obtain ⟨lo, ln, lcp, rfl⟩ : ∃ o n p, l = .slice o n p := by rcases htw with ⟨-, rfl, -⟩ | ⟨-, ⟨_, _, rfl, -⟩, -⟩ <;> exact ⟨_, _, _, rfl⟩
 have hnum := H.out.2.2.num
 have hcn := cnt_none ms
 rw [H.out.2.2.len, ← hnum] at hcn
 have HCN := Hid.mk hcn
 have hrows := K1.out.2.2.stores hchg
 obtain ⟨hv0, iv0, lv0, tv0, hL0, hI0, -⟩ := id hrows
 have K2 := Hid.mk (And.intro htw (And.intro hchg (And.intro hbel2 (And.intro hcase (And.intro hrows (And.intro hL0 hI0))))))
 clear hrel htw hcase hchg hbel2 hnum hcn hrows hL0 hI0 c0
 go_wp2_with fail
 refine (full_raw W T nx 2 _ _ _ _ es _ (by omega) K2.out.2.2.2.2.2.1 K2.out.2.2.2.2.2.2 hle).mono ?_
 rintro x w' ⟨rfl, rfl⟩
 rcases K2.out.2.2.2.1 with ⟨rfl, rfl, hw⟩ | ⟨rfl, rfl, rfl, hroom⟩ | ⟨rfl, rfl, rfl, hroom, en, i, r, c, zs, hen, hi, hx, hf, rfl, hxl, hres⟩
 ·rcases K2.out.1 with ⟨-, hl, hT2, -⟩ | ⟨e1, -⟩
  ·simp only [Value.slice.injEq] at hl
   obtain ⟨rfl, rfl, rfl⟩ := hl
   have HF : Hid (StepOut B w w' W T b1 b2 nx) := Hid.mk ⟨⟨ms, nx, es, ⟨hT2, K2.out.2.2.2.2.1, H.out.2.2⟩, by omega⟩, K2.out.2.2.1⟩
   have hnil := nil_int
   clear hT2
   have hee : (e == e) = true := by simp
   rcases hw with rfl | rfl
   ·go_wp2_with fail
    go_ret
    exact ⟨rfl, HF.out⟩
   ·go_wp2_with fail
    go_ret
    exact ⟨rfl, HF.out⟩
  ·cases e1
 ·rcases K2.out.1 with ⟨-, hl, hT2, -⟩ | ⟨e1, -⟩
  ·simp only [Value.slice.injEq] at hl
   obtain ⟨rfl, rfl, rfl⟩ := hl
   have HF : Hid (StepOut B w w' W T b1 b2 nx) := Hid.mk ⟨⟨ms, nx, es, ⟨hT2, K2.out.2.2.2.2.1, H.out.2.2⟩, by omega⟩, K2.out.2.2.1⟩
   have hnil := nil_int
   clear hT2
   have hfl : decide (24 < es.length + 2) = true := decide_eq_true (by have := HCN.out; omega)
   rw [hfl]
   clear hroom hfl
   go_wp2_with fail
   go_ret
   exact ⟨rfl, HF.out⟩
  ·cases e1
 ·have hfl : decide (24 < es.length + 2) = false := decide_eq_false (by have := HCN.out; omega)
  rw [hfl]
  have HD := Hid.mk (And.intro hroom (And.intro hen (And.intro hi (And.intro hx (And.intro hf (And.intro hxl hres))))))
  obtain ⟨p1, hp1⟩ : ∃ p1, p1 = en.2.2 := ⟨_, rfl⟩
  rw [← hp1]
  have HP1 := Hid.mk hp1
  clear hroom hen hi hx hf hxl hres hfl hp1
  go_wp2_with fail
  obtain ⟨hT2, hb, hz, q1, q2, q3, q4⟩ : TwH B w' T b1 b2 (puts ms nx xs) (nx + 2) ∧ ∃ hb hz, (Value.slice lo ln lcp = .slice (some ⟨hb, 0, none⟩) 2 2) ∧ w1.heap.size ≤ hb ∧ (hz.length = 2 ∧ ∀ j, j < 2 → hz.getD j 0 = nx + j) ∧ R.Own w' (Value.slice lo ln lcp) hz := by
   rcases K2.out.1 with ⟨e1, -⟩ | ⟨-, ⟨hb, hz, a1, a2, a3, a4, a5⟩, a6, -⟩
   ·cases e1
   ·exact ⟨a6, hb, hz, a1, a2, ⟨a3, a4⟩, a5⟩
  simp only [Value.slice.injEq] at q1
  obtain ⟨rfl, rfl, rfl⟩ := q1
  obtain ⟨hv, iv, lv, tv', ls, sL, sI, sP, sX, sS, sM, sH, sN, sB⟩ := K1.out.2.2.storesG K2.out.2.1 hb q2
  have hxs2 : xs.length ≤ ms.countP Option.isNone := by have := HD.out.1; have := HD.out.2.2.2.2.2.1; omega
  have hfine := RdRes.fine HD.out.2.2.2.2.2.2 HD.out.2.2.2.2.1.1 HD.out.2.2.2.2.1.2.1
  have hdst : Dst (puts ms nx xs) := (H.out.2.2.pushes xs [0, 0] hxs2 (by rw [HD.out.2.2.2.2.2.1]; rfl)).dst
  have hgS : ¬ S4 W iv lv tv' hb := fun hs => by have := (sS hb hs).2; omega
  have K3 := Hid.mk (And.intro hT2 (And.intro q2 (And.intro q3 (And.intro q4 (And.intro sL (And.intro sI (And.intro sP (And.intro sX (And.intro sS (And.intro sM (And.intro sH (And.intro sN (And.intro sB (And.intro hfine (And.intro hdst hxs2)))))))))))))))
  clear hT2 q2 q3 q4 sL sI sP sX sS sM sH sN sB hfine hdst
  refine (held_any B W T b1 b2 hb 2 nx (nx + 2) iv lv tv' (puts ms nx xs) es xs (ksOf ms nx xs) _ K3.out.1 K3.out.2.2.2.2.1 K3.out.2.2.2.2.2.1 K3.out.2.2.2.2.2.2.1 K3.out.2.2.2.2.2.2.2.1 (fun k hk => (K3.out.2.2.2.2.2.2.2.2.1 k hk).1) (by omega) (by omega) (fun j hj => ?_) K3.out.2.2.2.2.2.2.2.2.2.2.2.2.2.2.1 hle (fun j hj => ?_) hgS).mono ?_
  ·obtain ⟨a1, a2⟩ := puts_at (nx := nx) H.out.2.2.len hxs2 j (by rw [HD.out.2.2.2.2.2.1]; exact hj)
   exact ⟨a1, a2, K3.out.2.2.2.2.2.2.2.2.2.2.2.2.2.1 j hj⟩
  ·have := K3.out.2.2.2.1.cell K3.out.2.2.1.1 j hj
   rw [K3.out.2.2.1.2 j hj] at this
   exact this
  rintro x w3 ⟨ov, ps, hpl, rfl, hst⟩
  have hst0 := hst
  obtain ⟨iv', lv', tv'', ⟨hov, hovS⟩, ⟨hL1, -⟩, -, -, hC1⟩ := hst
  rw [hpl] at hL1
  have hoR : R.Own w3 (.slice (some ⟨hb, 0, none⟩) 2 2) hz := K3.out.2.2.2.1.of_block (fun g hg => by
   simp [Value.ownBlock] at hg
   subst hg
   exact hC1.block K3.out.2.2.2.1.lt hgS)
  have hhR : RowG w3 51 hv (hlc ls) := K3.out.2.2.2.2.2.2.2.2.2.2.1.1.chg hC1 (fun k hk hs => K3.out.2.2.2.2.2.2.2.2.2.2.1.2.1 k hk (.inl (.inl hs)))
  have K4 := Hid.mk (And.intro hst0 (And.intro hov (And.intro hL1 (And.intro hoR (And.intro hhR (And.intro hpl hC1))))))
  have hw3 := hC1.size
  obtain ⟨og, ocap, rfl⟩ : ∃ og ocap, ov = .slice (some ⟨og, 0, none⟩) 2 ocap := by
   rcases hov with ⟨-, h0⟩ | ⟨g, cap, cur, h1, -⟩
   ·have := congrArg List.length h0; rw [ptrs_len, hpl] at this; simp at this
   ·rw [ptrs_len, hpl] at h1; exact ⟨g, cap, h1⟩
  clear hst0 hov hovS hL1 hoR hhR hC1
  go_wp2_with fail
  refine (mine_any W T (nx + 2) hb 2 hv iv' lv' tv'' ls hz _ K4.out.2.2.1 K4.out.2.2.2.2.1 K4.out.2.2.2.1 K3.out.2.2.1.1 (by omega) (by have := K3.out.2.2.2.2.2.2.2.2.2.2.2.1; omega)).mono ?_
  rintro x w4 ⟨rfl, hmine⟩
  obtain ⟨hinv, hbB, -⟩ := many_inv K3.out.1 HD.out.2.2.2.2.2.1 (by omega) (by omega) H.out.2.2 HD.out.1 K3.out.2.2.2.2.1 K3.out.2.2.2.2.2.1 K3.out.2.2.2.2.2.2.1 K3.out.2.2.2.2.2.2.2.1 K3.out.2.2.2.2.2.2.2.2.1 K3.out.2.2.2.2.2.2.2.2.2.1 K3.out.2.2.2.2.2.2.2.2.2.2.1 K3.out.2.2.2.2.2.2.2.2.2.2.2.1 K3.out.2.2.2.2.2.2.2.2.2.2.2.2.1
   K3.out.2.2.2.1.lt K3.out.2.1 (R.Own.ty_ K3.out.2.2.2.1) (by omega) hpl K3.out.2.2.2.2.2.2.2.2.2.2.2.2.2.1 K4.out.1 (fun a1 a2 a3 hL2 => by
    obtain ⟨rfl, rfl, rfl⟩ := Lw.inj hL2 K4.out.2.2.1
    exact hmine)
  have hov4 : RowG w4 164 (.slice (some ⟨og, 0, none⟩) 2 ocap) (ptrs ps) := by
   obtain ⟨_, _, _, _, hC2, _⟩ := hmine
   refine K4.out.2.1.chg hC2 (fun k hk hs => ?_)
   have hkt := (K4.out.2.1.own k hk).2
   rcases hs with hs | hs | hs
   ·exact ty_ne hkt K4.out.2.2.1.ty (by decide) hs
   ·exact ty_ne hkt (K4.out.2.2.2.2.1.own k hs).2 (by decide) rfl
   ·exact ty_ne hkt (R.Own.ty_ K4.out.2.2.2.1) (by decide) hs
  have hB4 : Below B w w4 := K2.out.2.2.1.trans hbB
  have hw4 := hB4.size
  obtain ⟨n, kk, rs, ts, hxs, hRd, -⟩ := HD.out.2.2.2.2.2.2
  obtain ⟨p0, pu, rfl⟩ : ∃ p0 pu, ps = [p0, pu] := by
   match ps, hpl with
   | [a, b], _ => exact ⟨a, b, rfl⟩
  have hin : ∀ j, j < 2 → ∃ lo hi, MatAt w4 lo hi ([p0, pu].getD j 0) (xs.getD j mxD).1 (xs.getD j mxD).2.1 (fz (xs.getD j mxD).2.1 (xs.getD j mxD).2.2) := fun j hj => by
   obtain ⟨a1, a2⟩ := puts_at (nx := nx) H.out.2.2.len hxs2 j (by rw [HD.out.2.2.2.2.2.1]; exact hj)
   have hmem : (nx + j, mxT (xs.getD j mxD), [p0, pu].getD j 0) ∈ es ++ ents nx xs [p0, pu] := List.mem_append.2 (.inr (List.mem_map.2 ⟨j, List.mem_range.2 hj, rfl⟩))
   exact (hinv.entry hmem a1 a2 rfl).2.2
  have h0 := hin 0 (by omega)
  have h1 := hin 1 (by omega)
  rw [hxs] at h0 h1
  obtain ⟨lo0, hi0, h0⟩ := h0
  obtain ⟨lo1, hi1, h1⟩ := h1
  obtain ⟨gs0, r0⟩ := h0.isR
  obtain ⟨gs1, r1⟩ := h1.isR
  obtain ⟨-, -, lom, him, hm⟩ := hinv.entry (List.mem_append.2 (.inl HD.out.2.1)) HD.out.2.2.1 (puts_old xs ms nx i _ H.out.2.2.len hxs2 HD.out.2.2.2.1) rfl
  obtain ⟨gsm, rm⟩ := hm.isR
  rw [← HP1.out] at rm
  obtain ⟨M, hM⟩ : ∃ M, M = 60000000 := ⟨_, rfl⟩
  have hr4 := HD.out.2.2.2.2.1.1
  have hc4 := HD.out.2.2.2.2.1.2.1
  have hn4 := hRd.n4
  have hML : M ≤ 60000000 := by omega
  have R0 : IsR lo0 w4 p0 n c gs0 (fz c rs) 8 := r0.fit (m := 4) (fun i j hi hj => pow_up (hRd.short i j hi hj) (by omega))
  have R1 : IsR lo1 w4 pu n r gs1 (fz r ts) (2 * M) := r1.fit (m := M) (fun i j hi hj => hRd.bits' (by omega) i j hi hj)
  have K5 := Hid.mk (And.intro R0 (And.intro R1 (And.intro (rm.tight (fits_fz HD.out.2.2.2.2.1)) (And.intro hRd (And.intro hinv hB4)))))
  obtain ⟨-, -, -, m0, m1, -⟩ := rm.open_
  obtain ⟨-, -, -, a0, a1, -⟩ := R0.open_
  obtain ⟨-, -, -, b0, b1, -⟩ := R1.open_
  have o0 : w4.cell? ⟨og, 0, none⟩ = some (.pointer (some ⟨p0, 0, none⟩)) := by
   obtain ⟨ao, cp, e1, -, -, -, e2⟩ := hov4.shape
   simp only [Value.slice.injEq] at e1
   obtain ⟨g', e3, e4⟩ := e2 0 (by simp [ptrs])
   rw [← e1.1] at e3
   simp only [Option.some.injEq, Addr.mk.injEq] at e3
   rw [e3.1, e4]; simp [ptrs]
  have o1 : w4.cell? ⟨og, 1, none⟩ = some (.pointer (some ⟨pu, 0, none⟩)) := by
   obtain ⟨ao, cp, e1, -, -, -, e2⟩ := hov4.shape
   simp only [Value.slice.injEq] at e1
   obtain ⟨g', e3, e4⟩ := e2 1 (by simp [ptrs])
   rw [← e1.1] at e3
   simp only [Option.some.injEq, Addr.mk.injEq] at e3
   rw [e3.1, e4]; simp [ptrs]
  have hnil := nil_cmp ⟨og, 0, none⟩ 2 ocap
  clear hin h0 h1 r0 r1 R0 R1 rm hm hinv hB4 hbB hov4 hxs hRd hM hxs2
  go_wp2_with fail
  try go_quiet (fail)
  try go_wp2_with fail
  refine (mtimes_any (2 * M) 4 pu n r gs1 (fz r ts) lo1 p1 c gsm (fz c zs) lom _ (K5.out.2.1.keep (KR.of_below (below_drewN (Below.refl _ _) _))) (K5.out.2.2.1.keep (KR.of_below (below_drewN (Below.refl _ _) _))) (by omega) (by omega) (by omega) (by omega)).mono ?_
  rintro x5 w5 ⟨rfl, ⟨go, hIp⟩, hb5⟩
  have hb45 : Below w4.heap.size w4 w5 := (below_drewN (Below.refl _ _) _).trans hb5
  have hIp : IsR 0 w5 w4.heap.size n c go (fun i j => dot (fz r ts) (fz c zs) i j r) (2 * M + 4 + 12) := hIp
  have o05 := cell_later hb45 o0
  have a05 := cell_later hb45 a0
  have K6 := Hid.mk (And.intro hIp hb45)
  clear hIp hb5 hb45 o0 o1 m0 m1 a0 a1 b0 b1
  go_wp2_with fail
  try go_quiet (fail)
  try go_wp2_with fail
  refine (same_yes _ n c go _ 0 p0 gs0 _ lo0 (2 * M + 4 + 12) _ K6.out.1 ((K5.out.1.keep (KR.of_below K6.out.2)).mono (by omega)) (fun i j hi hj => by rw [dot_sm]; exact K5.out.2.2.2.1.tm i j hi hj) (by omega) (by omega) (by omega)).mono ?_
  rintro x5 w6 ⟨rfl, hb6⟩
  have hb46 : Below w4.heap.size w4 w6 := K6.out.2.trans (hb6.mono K6.out.2.size)
  have K7 := Hid.mk hb46
  have o06 := cell_later hb6 o05
  have a06 := cell_later hb6 a05
  clear hb6 hb46 o05 a05
  go_wp2_with fail
  refine (rank_any p1 r c gsm (fz c zs) lom 4 _ (K5.out.2.2.1.keep (KR.of_below K7.out)) (by omega) (by omega) (by omega)).mono ?_
  rintro x5 w7 ⟨k, rfl, hk, hb7⟩
  have hkn := (K5.out.2.2.2.1.rank hk).2
  have hb47 : Below w4.heap.size w4 w7 := K7.out.trans (hb7.mono K7.out.size)
  have K8 := Hid.mk hb47
  have o07 := cell_later hb7 o06
  have a07 := cell_later hb7 a06
  subst hkn
  clear hb7 hb47 o06 a06 hk
  go_wp2_with fail
  refine (short_yes p0 n c gs0 (fz c rs) lo0 8 _ (K5.out.1.keep (KR.of_below K8.out)) K5.out.2.2.2.1.shp (by omega) (by omega) (by omega)).mono ?_
  rintro x5 w8 ⟨rfl, hb8⟩
  have hb48 : Below w4.heap.size w4 w8 := K8.out.trans (hb8.mono K8.out.size)
  have K9 := Hid.mk hb48
  have o08 := cell_later hb8 o07
  have a08 := cell_later hb8 a07
  clear hb8 hb48 o07 a07
  go_wp2_with fail
  try go_quiet (fail)
  try go_wp2_with fail
  refine (spans_any p0 p1 n r c gs0 gsm (fz c rs) (fz c zs) lo0 lom 8 _ (K5.out.1.keep (KR.of_below K9.out)) ((K5.out.2.2.1.keep (KR.of_below K9.out)).mono (by omega)) (by omega) (by omega) (by omega)).mono ?_
  rintro x5 w9 ⟨y, rfl, hy, hb9⟩
  obtain rfl : y = true := hy.2 K5.out.2.2.2.1.spans
  have hb49 : Below w4.heap.size w4 w9 := K9.out.trans (hb9.mono K9.out.size)
  have o09 := cell_later hb9 o08
  have a09 := cell_later hb9 a08
  have HF : Hid (StepOut B w w9 W T b1 b2 nx) := Hid.mk ⟨⟨_, _, _, K5.out.2.2.2.2.1.below hb49, by omega⟩, K5.out.2.2.2.2.2.trans (hb49.mono (by omega))⟩
  clear hb9 hb49 hy o08 a08
  go_wp2_with fail
  try go_quiet (fail)
  try go_wp2_with fail
  go_ret
  exact ⟨rfl, HF.out⟩
open Go.RowKit R
set_option maxRecDepth 100000 in
set_option maxHeartbeats 4000000 in
theorem step_reduced0 (B W T b1 b2 : Nat) (ms : List Hm) (nx : Nat) (es : List Ent) (kd a b c : Int) (s t : ByteArray) (w : World) (h : LInv B w W T b1 b2 ms nx es) (hkd : kd = 13) (ha1 : -9223372036854775808 ≤ a) (ha2 : a ≤ 9223372036854775807) (hb1 : -9223372036854775808 ≤ b) (hb2 : b ≤ 9223372036854775807) (hnx : nx < 999995) :
 Calls Tryz.prog 77 #[.pointer (some ⟨W, 0, none⟩), opV kd a b c s t] w fun x w' => x = .returned (.bool true) ∧ StepOut B w w' W T b1 b2 nx := by
 have H := Hid.mk h
 have hB := h.size
 have HKD := Hid.mk hkd
 clear h hkd
 unfold opV
 obtain ⟨W0, hW0⟩ : ∃ W0, W0 = w.alloc (.cells #[.int .i64 kd, .int .i64 a, .int .i64 b, .int .i64 c, .string s, .string t] 87) := ⟨_, rfl⟩
 have hbW : Below w.heap.size w W0 := by rw [hW0]; exact (Below.refl _ _).alloc (Nat.le_refl _) _
 have hblk : W0.heap[w.heap.size]? = some (.cells #[.int .i64 kd, .int .i64 a, .int .i64 b, .int .i64 c, .string s, .string t] 87 (0, 0)) := by rw [hW0]; exact heap_alloc_new w _
 have hsz : W0.heap.size = w.heap.size + 1 := by rw [hW0]; simp
 have H0 := Hid.mk (And.intro hbW (And.intro hblk hW0))
 clear hbW hblk hW0
 go_enter Tryz.func77, Tryz.ntmps77
 go_wp2_with fail
 rw [← H0.out.2.2]
 refine (handle_any B W T b1 b2 ms nx es a c _ (H.out.below H0.out.1) ha1 ha2).mono ?_
 rintro x w1 ⟨⟨hh, rfl⟩, hb1'⟩
 have hblk1 : w1.heap[w.heap.size]? = some (.cells #[.int .i64 kd, .int .i64 a, .int .i64 b, .int .i64 c, .string s, .string t] 87 (0, 0)) := by rw [hb1'.block _ (by omega)]; exact H0.out.2.1
 have hbe1 : Below w.heap.size w w1 := H0.out.1.trans (hb1'.mono H0.out.1.size)
 have g0 : w1.cell? ⟨w.heap.size, 0, none⟩ = some (.int .i64 kd) := by simp [World.cell?, hblk1]
 have g2 : w1.cell? ⟨w.heap.size, 2, none⟩ = some (.int .i64 b) := by simp [World.cell?, hblk1]
 have g3 : w1.cell? ⟨w.heap.size, 3, none⟩ = some (.int .i64 c) := by simp [World.cell?, hblk1]
 have hs1 := hb1'.size
 have K1 := Hid.mk (And.intro hbe1 hblk1)
 clear hb1' hblk1 hbe1
 go_wp2_with fail
 refine (handle_any B W T b1 b2 ms nx es b c _ (H.out.below K1.out.1) hb1 hb2).mono ?_
 rintro x w2 ⟨⟨hh2, rfl⟩, hb2'⟩
 have hblk2 : w2.heap[w.heap.size]? = some (.cells #[.int .i64 kd, .int .i64 a, .int .i64 b, .int .i64 c, .string s, .string t] 87 (0, 0)) := by rw [hb2'.block _ (by omega)]; exact K1.out.2
 have hbe2 : Below w.heap.size w w2 := K1.out.1.trans (hb2'.mono K1.out.1.size)
 clear g0 g2 g3
 have g0 : w2.cell? ⟨w.heap.size, 0, none⟩ = some (.int .i64 kd) := by simp [World.cell?, hblk2]
 have g4 : w2.cell? ⟨w.heap.size, 4, none⟩ = some (.string s) := by simp [World.cell?, hblk2]
 have K2 := Hid.mk (And.intro hbe2 (H.out.below hbe2))
 clear hb2' hblk2 hbe2
 obtain rfl := HKD.out
 go_wp2_with fail
 refine (reduced_any B W T b1 b2 ms nx es hh _ K2.out.2 hnx).mono ?_
 rintro x w3 ⟨rfl, ho⟩
 have HO := Hid.mk (ho.after (K2.out.1.mono hB))
 clear ho
 go_wp2_with fail
 go_ret
 exact ⟨rfl, HO.out⟩
theorem step_reduced : StepOk (fun kd => kd = 13) := fun B W T b1 b2 ms nx es kd a b c s t w h hkd ha1 ha2 hb1 hb2 _ hnx => step_reduced0 B W T b1 b2 ms nx es kd a b c s t w h hkd ha1 ha2 hb1 hb2 hnx
end Go.Proofs.YtfjbijpagaipnabGreatDoor
