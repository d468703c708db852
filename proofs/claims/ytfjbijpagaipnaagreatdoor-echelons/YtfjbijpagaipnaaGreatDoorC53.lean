import Derived.Test.YtfjbijpagaipnaaGreatDoorC52
import Derived.Test.YtfjbijpagaipnaaGreatDoorC43
import Derived.StillTailTactics
import Derived.Test.YtfjbijpagaipnaaGreatDoorC23
namespace Go.Proofs.YtfjbijpagaipnaaGreatDoor
open Go.RowKit R
theorem cnt_none (ms : List Hm) : cnt ms + ms.countP Option.isNone = ms.length := by
  unfold cnt
  induction ms with
  | nil => rfl
  | cons x ms ih =>
    cases x with
    | none => simp at ih ⊢; omega
    | some y => simp at ih ⊢; omega
theorem many_case {n : Nat} {Res : Nat → Nat → List Int → List (Nat × Nat × List Int) → Prop} {es : List Ent} {ms : List Hm} {h e want : Int} {v : Value} {ok : Bool} {xs : List (Nat × Nat × List Int)} (hd : Dst ms) (hp : DueL es ms false h v want) (ht : ManyRel n Res ms h ok e xs) :
    (ok = false ∧ e = want ∧ (want = 2 ∨ want = 4)) ∨ (ok = false ∧ e = 5 ∧ want = 0 ∧ ms.countP Option.isNone < n) ∨
    (ok = true ∧ e = 0 ∧ want = 0 ∧ n ≤ ms.countP Option.isNone ∧ ∃ en i r c zs, en ∈ es ∧ i < 24 ∧ ms.getD i none = some (en.1, r, c, zs) ∧ FitsP r c zs ∧ v = .pointer (some ⟨en.2.2, 0, none⟩) ∧ xs.length = n ∧ Res r c zs xs) := by
  rcases hp with ⟨hno, rfl⟩ | ⟨en, i, r, c, zs, hen, hi, hx, hxh, hp⟩
  · rcases ht with ⟨-, rfl, rfl, -⟩ | ⟨i', hd', r', c', zs', hi', hx', hxh', -⟩
    · exact .inl ⟨rfl, rfl, .inl rfl⟩
    · exact absurd hxh' (hno i' hi' _ hx')
  · rcases ht with ⟨hno, -⟩ | ⟨i', hd', r', c', zs', hi', hx', hxh', ht⟩
    · exact absurd hxh (hno i hi _ hx)
    · have e1 : i = i' := hd i i' _ _ hi hi' hx hx' (by show en.1 = hd'; omega)
      subst e1
      rw [hx] at hx'
      simp only [Option.some.injEq, Prod.mk.injEq] at hx'
      obtain ⟨rfl, rfl, rfl, rfl⟩ := hx'
      rcases hp with ⟨hf, -⟩ | ⟨-, hnf, rfl⟩ | ⟨-, hf, rfl, rfl⟩
      · cases hf
      · rcases ht with ⟨-, rfl, rfl, -⟩ | ⟨hf, -⟩ | ⟨hf, -⟩
        · exact .inl ⟨rfl, rfl, .inr rfl⟩
        · exact absurd hf hnf
        · exact absurd hf hnf
      · rcases ht with ⟨hnf, -⟩ | ⟨-, hr, rfl, rfl, -⟩ | ⟨-, hr, rfl, rfl, hl, hR⟩
        · exact absurd hf hnf
        · exact .inr (.inl ⟨rfl, rfl, rfl, hr⟩)
        · exact .inr (.inr ⟨rfl, rfl, rfl, hr, en, i, r, c, zs, hen, hi, hx, hf, rfl, hl, hR⟩)
theorem nil_int (w : World) : Sem.run Tryz.prog (binOp BinOp.eql 25 (Value.slice none 0 0) (Value.slice none 0 0)) w = Result.ok (Value.bool true) w := by
  have h := run_equal_slice_nil (P := Tryz.prog) w 25 _ none 0 0 Tryz.underlying25
  simp [binOp, go_sem, h, Result.andThen]
theorem ent_all {r c : Nat} {zs : List Int} {P : Int → Prop} (h : ∀ i j, i < r → j < c → P (ent c zs i j)) (t : Nat) (ht : t < r * c) : P (zs.getD t 0) := by
  have hc : 0 < c := by
    rcases Nat.eq_zero_or_pos c with h0 | h0
    · subst h0; rw [Nat.mul_zero] at ht; omega
    · exact h0
  have h3 : t / c < r := by rw [Nat.div_lt_iff_lt_mul hc]; omega
  have h6 := h (t / c) (t % c) h3 (Nat.mod_lt t hc)
  unfold ent at h6
  rw [show t / c * c + t % c = t from by rw [Nat.mul_comm]; exact Nat.div_add_mod t c] at h6
  exact h6
theorem EchIs.small {r c k : Nat} {pc : Nat → Nat} {zs hs us ws : List Int} (h : EchIs r c zs k pc hs us ws) (hr : r ≤ 4) (hc : c ≤ 4) {m : Nat} (hm : 8000 ≤ m) : (∀ i j, i < r → j < c → (ent c hs i j).natAbs < 2 ^ (16 * m)) ∧ (∀ i j, i < r → j < r → (ent r us i j).natAbs < 2 ^ (16 * m)) ∧ (∀ i j, i < r → j < r → (ent r ws i j).natAbs < 2 ^ (16 * m)) := by
  obtain ⟨s1, s2⟩ := size48 hr hc
  have e1 := hB_mono r 48 h.st.te
  have e2 := uB_mono r 48 h.st.te
  have p1 : 2 ^ hB r 48 k ≤ 2 ^ (16 * m) := Nat.pow_le_pow_right (by decide) (by omega)
  have p2 : 2 ^ uB r 48 k ≤ 2 ^ (16 * m) := Nat.pow_le_pow_right (by decide) (by omega)
  exact ⟨fun i j a b => Nat.lt_of_lt_of_le (h.eb.h i j a b) p1, fun i j a b => Nat.lt_of_lt_of_le (h.eb.u i j a b) p2, fun i j a b => Nat.lt_of_lt_of_le (h.eb.w i j a b) p2⟩
theorem EchRes.fine {r c : Nat} {zs : List Int} {xs : List Mx} (h : EchRes r c zs xs) (hr : r ≤ 4) (hc : c ≤ 4) (j : Nat) (hj : j < 3) : Fine (xs.getD j mxD).1 (xs.getD j mxD).2.1 (xs.getD j mxD).2.2 := by
  obtain ⟨k, pc, hs, us, ws, rfl, h1⟩ := h
  obtain ⟨m, hm⟩ : ∃ m, m = 7999 := ⟨_, rfl⟩
  obtain ⟨a1, a2, a3⟩ := h1.small hr hc (m := m + 1) (by omega)
  match j, hj with
  | 0, _ => exact fine_bits hr hc h1.lh (ent_all (P := fun z => z.natAbs < 2 ^ (16 * (m + 1))) a1) (by omega)
  | 1, _ => exact fine_bits hr hr h1.lu (ent_all (P := fun z => z.natAbs < 2 ^ (16 * (m + 1))) a2) (by omega)
  | 2, _ => exact fine_bits hr hr h1.lw (ent_all (P := fun z => z.natAbs < 2 ^ (16 * (m + 1))) a3) (by omega)
theorem EchSt.echP {r c k : Nat} {pc : Nat → Nat} {H : Nat → Nat → Int} (h : EchSt r c k pc H) : EchP H r c k pc := ⟨h.le, h.col, h.up, h.left, h.piv, fun a i hai hi => h.above i hi a hai, h.rest⟩
theorem Lw.inj {w : World} {W T nx : Nat} {hv iv lv tv iv' lv' tv' : Value} (h : Lw w W T hv iv lv tv nx) (h' : Lw w W T hv iv' lv' tv' nx) : iv = iv' ∧ lv = lv' ∧ tv = tv' := by
  unfold Lw at h h'
  rw [h] at h'
  simp at h'
  exact h'
set_option maxRecDepth 100000 in
set_option maxHeartbeats 4000000 in
theorem echelon_any (B W T b1 b2 : Nat) (ms : List Hm) (nx : Nat) (es : List Ent) (h : Int) (w : World) (hI : LInv B w W T b1 b2 ms nx es) (hnx : nx < 1000000 - 5) :
    Calls Tryz.prog 64 #[.pointer (some ⟨W, 0, none⟩), .int .i64 h] w fun x w' => x = .returned (.bool true) ∧ StepOut B w w' W T b1 b2 nx := by
  have hB := hI.size
  have hle := hI.le24
  have H := Hid.mk hI
  clear hI
  go_enter Tryz.func64, Tryz.ntmps64
  go_wp2_with fail
  refine (due_any B W T b1 b2 ms nx es h false _ H.out).mono ?_
  rintro x w1 ⟨⟨v, want, rfl, hdue⟩, hb1⟩
  have hI1 := H.out.below hb1
  obtain ⟨ioa, icap, loa, lcap, tv, c0, -⟩ := hI1.lcells
  have K1 := Hid.mk (And.intro hdue (And.intro hb1 hI1))
  have hw1 := hb1.size
  clear hdue hb1 hI1
  go_wp2_with fail
  refine (twEchelon_any B T b1 b2 h ms nx _ K1.out.2.2.1 H.out.2.2.dst hnx).mono ?_
  rintro x w2 ⟨l, e, ok, xs, rfl, hrel, htw⟩
  have hcase := many_case H.out.2.2.dst K1.out.1 hrel
  have hchg : Chg (St2 b1 b2) w1 w2 := by rcases htw with ⟨-, -, -, f⟩ | ⟨-, -, -, f⟩ <;> exact f
  have hbel2 : Below B w w2 := (K1.out.2.1.mono hB).trans (hchg.below (St2.le H.out.1.2.2.2.2.2.2.1 H.out.1.2.2.2.2.2.2.2) (by omega))
  have hw2 := hbel2.size
  obtain ⟨lo, ln, lcp, rfl⟩ : ∃ o n p, l = .slice o n p := by rcases htw with ⟨-, rfl, -⟩ | ⟨-, ⟨_, _, rfl, -⟩, -⟩ <;> exact ⟨_, _, _, rfl⟩
  have hnum := H.out.2.2.num
  have hcn := cnt_none ms
  rw [H.out.2.2.len, ← hnum] at hcn
  have HCN := Hid.mk hcn
  have hrows := K1.out.2.2.stores hchg
  obtain ⟨hv0, iv0, lv0, tv0, hL0, hI0, -⟩ := id hrows
  have K2 := Hid.mk (And.intro htw (And.intro hchg (And.intro hbel2 (And.intro hcase (And.intro hrows (And.intro hL0 hI0))))))
  clear hrel htw hcase hchg hbel2 hnum hcn hrows hL0 hI0 c0
  go_wp2_with fail
  refine (full_raw W T nx 3 _ _ _ _ es _ (by omega) K2.out.2.2.2.2.2.1 K2.out.2.2.2.2.2.2 hle).mono ?_
  rintro x w' ⟨rfl, rfl⟩
  rcases K2.out.2.2.2.1 with ⟨rfl, rfl, hw⟩ | ⟨rfl, rfl, rfl, hroom⟩ | ⟨rfl, rfl, rfl, hroom, en, i, r, c, zs, hen, hi, hx, hf, rfl, hxl, hres⟩
  · rcases K2.out.1 with ⟨-, hl, hT2, -⟩ | ⟨e1, -⟩
    · simp only [Value.slice.injEq] at hl
      obtain ⟨rfl, rfl, rfl⟩ := hl
      have HF : Hid (StepOut B w w' W T b1 b2 nx) := Hid.mk ⟨⟨ms, nx, es, ⟨hT2, K2.out.2.2.2.2.1, H.out.2.2⟩, by omega⟩, K2.out.2.2.1⟩
      have hnil := nil_int
      clear hT2
      have hee : (e == e) = true := by simp
      rcases hw with rfl | rfl
      · go_wp2_with fail
        go_ret
        exact ⟨rfl, HF.out⟩
      · go_wp2_with fail
        go_ret
        exact ⟨rfl, HF.out⟩
    · cases e1
  · rcases K2.out.1 with ⟨-, hl, hT2, -⟩ | ⟨e1, -⟩
    · simp only [Value.slice.injEq] at hl
      obtain ⟨rfl, rfl, rfl⟩ := hl
      have HF : Hid (StepOut B w w' W T b1 b2 nx) := Hid.mk ⟨⟨ms, nx, es, ⟨hT2, K2.out.2.2.2.2.1, H.out.2.2⟩, by omega⟩, K2.out.2.2.1⟩
      have hnil := nil_int
      clear hT2
      have hfl : decide (24 < es.length + 3) = true := decide_eq_true (by have := HCN.out; omega)
      rw [hfl]
      clear hroom hfl
      go_wp2_with fail
      go_ret
      exact ⟨rfl, HF.out⟩
    · cases e1
  · have hfl : decide (24 < es.length + 3) = false := decide_eq_false (by have := HCN.out; omega)
    rw [hfl]
    have HD := Hid.mk (And.intro hroom (And.intro hen (And.intro hi (And.intro hx (And.intro hf (And.intro hxl hres))))))
    obtain ⟨p1, hp1⟩ : ∃ p1, p1 = en.2.2 := ⟨_, rfl⟩
    rw [← hp1]
    have HP1 := Hid.mk hp1
    clear hroom hen hi hx hf hxl hres hfl hp1
    go_wp2_with fail
    obtain ⟨hT2, hb, hz, q1, q2, q3, q4⟩ : TwH B w' T b1 b2 (puts ms nx xs) (nx + 3) ∧ ∃ hb hz, (Value.slice lo ln lcp = .slice (some ⟨hb, 0, none⟩) 3 3) ∧ w1.heap.size ≤ hb ∧ (hz.length = 3 ∧ ∀ j, j < 3 → hz.getD j 0 = nx + j) ∧ R.Own w' (Value.slice lo ln lcp) hz := by
      rcases K2.out.1 with ⟨e1, -⟩ | ⟨-, ⟨hb, hz, a1, a2, a3, a4, a5⟩, a6, -⟩
      · cases e1
      · exact ⟨a6, hb, hz, a1, a2, ⟨a3, a4⟩, a5⟩
    simp only [Value.slice.injEq] at q1
    obtain ⟨rfl, rfl, rfl⟩ := q1
    obtain ⟨hv, iv, lv, tv', ls, sL, sI, sP, sX, sS, sM, sH, sN, sB⟩ := K1.out.2.2.storesG K2.out.2.1 hb q2
    have hxs3 : xs.length ≤ ms.countP Option.isNone := by have := HD.out.1; have := HD.out.2.2.2.2.2.1; omega
    have hfine := EchRes.fine HD.out.2.2.2.2.2.2 HD.out.2.2.2.2.1.1 HD.out.2.2.2.2.1.2.1
    have hdst : Dst (puts ms nx xs) := (H.out.2.2.pushes xs [0, 0, 0] hxs3 (by rw [HD.out.2.2.2.2.2.1]; rfl)).dst
    have hgS : ¬ S4 W iv lv tv' hb := fun hs => by have := (sS hb hs).2; omega
    have K3 := Hid.mk (And.intro hT2 (And.intro q2 (And.intro q3 (And.intro q4 (And.intro sL (And.intro sI (And.intro sP (And.intro sX (And.intro sS (And.intro sM (And.intro sH (And.intro sN (And.intro sB (And.intro hfine (And.intro hdst hxs3)))))))))))))))
    clear hT2 q2 q3 q4 sL sI sP sX sS sM sH sN sB hfine hdst
    refine (held_any B W T b1 b2 hb 3 nx (nx + 3) iv lv tv' (puts ms nx xs) es xs (ksOf ms nx xs) _ K3.out.1 K3.out.2.2.2.2.1 K3.out.2.2.2.2.2.1 K3.out.2.2.2.2.2.2.1 K3.out.2.2.2.2.2.2.2.1 (fun k hk => (K3.out.2.2.2.2.2.2.2.2.1 k hk).1) (by omega) (by omega) (fun j hj => ?_) K3.out.2.2.2.2.2.2.2.2.2.2.2.2.2.2.1 hle (fun j hj => ?_) hgS).mono ?_
    · obtain ⟨a1, a2⟩ := puts_at (nx := nx) H.out.2.2.len hxs3 j (by rw [HD.out.2.2.2.2.2.1]; exact hj)
      exact ⟨a1, a2, K3.out.2.2.2.2.2.2.2.2.2.2.2.2.2.1 j hj⟩
    · have := K3.out.2.2.2.1.cell K3.out.2.2.1.1 j hj
      rw [K3.out.2.2.1.2 j hj] at this
      exact this
    rintro x w3 ⟨ov, ps, hpl, rfl, hst⟩
    have hst0 := hst
    obtain ⟨iv', lv', tv'', ⟨hov, hovS⟩, ⟨hL1, -⟩, -, -, hC1⟩ := hst
    rw [hpl] at hL1
    have hoR : R.Own w3 (.slice (some ⟨hb, 0, none⟩) 3 3) hz := K3.out.2.2.2.1.of_block (fun g hg => by
      simp [Value.ownBlock] at hg
      subst hg
      exact hC1.block K3.out.2.2.2.1.lt hgS)
    have hhR : RowG w3 25 hv (hlc ls) := K3.out.2.2.2.2.2.2.2.2.2.2.1.1.chg hC1 (fun k hk hs => K3.out.2.2.2.2.2.2.2.2.2.2.1.2.1 k hk (.inl (.inl hs)))
    have K4 := Hid.mk (And.intro hst0 (And.intro hov (And.intro hL1 (And.intro hoR (And.intro hhR (And.intro hpl hC1))))))
    have hw3 := hC1.size
    obtain ⟨og, ocap, rfl⟩ : ∃ og ocap, ov = .slice (some ⟨og, 0, none⟩) 3 ocap := by
      rcases hov with ⟨-, h0⟩ | ⟨g, cap, cur, h1, -⟩
      · have := congrArg List.length h0; rw [ptrs_len, hpl] at this; simp at this
      · rw [ptrs_len, hpl] at h1; exact ⟨g, cap, h1⟩
    clear hst0 hov hovS hL1 hoR hhR hC1
    go_wp2_with fail
    refine (mine_any W T (nx + 3) hb 3 hv iv' lv' tv'' ls hz _ K4.out.2.2.1 K4.out.2.2.2.2.1 K4.out.2.2.2.1 K3.out.2.2.1.1 (by omega) (by have := K3.out.2.2.2.2.2.2.2.2.2.2.2.1; omega)).mono ?_
    rintro x w4 ⟨rfl, hmine⟩
    obtain ⟨hinv, hbB, -⟩ := many_inv K3.out.1 HD.out.2.2.2.2.2.1 (by omega) (by omega) H.out.2.2 HD.out.1 K3.out.2.2.2.2.1 K3.out.2.2.2.2.2.1 K3.out.2.2.2.2.2.2.1 K3.out.2.2.2.2.2.2.2.1 K3.out.2.2.2.2.2.2.2.2.1 K3.out.2.2.2.2.2.2.2.2.2.1 K3.out.2.2.2.2.2.2.2.2.2.2.1 K3.out.2.2.2.2.2.2.2.2.2.2.2.1 K3.out.2.2.2.2.2.2.2.2.2.2.2.2.1
      K3.out.2.2.2.1.lt K3.out.2.1 (R.Own.ty_ K3.out.2.2.2.1) (by omega) hpl K3.out.2.2.2.2.2.2.2.2.2.2.2.2.2.1 K4.out.1 (fun a1 a2 a3 hL2 => by
        obtain ⟨rfl, rfl, rfl⟩ := Lw.inj hL2 K4.out.2.2.1
        exact hmine)
    have hov4 : RowG w4 130 (.slice (some ⟨og, 0, none⟩) 3 ocap) (ptrs ps) := by
      obtain ⟨_, _, _, _, hC2, _⟩ := hmine
      refine K4.out.2.1.chg hC2 (fun k hk hs => ?_)
      have hkt := (K4.out.2.1.own k hk).2
      rcases hs with hs | hs | hs
      · exact ty_ne hkt K4.out.2.2.1.ty (by decide) hs
      · exact ty_ne hkt (K4.out.2.2.2.2.1.own k hs).2 (by decide) rfl
      · exact ty_ne hkt (R.Own.ty_ K4.out.2.2.2.1) (by decide) hs
    have hB4 : Below B w w4 := K2.out.2.2.1.trans hbB
    have hw4 := hB4.size
    obtain ⟨kk, pc, hs, us, ws, hxs, hIs⟩ := HD.out.2.2.2.2.2.2
    obtain ⟨p0, pu, pw, rfl⟩ : ∃ p0 pu pw, ps = [p0, pu, pw] := by
      match ps, hpl with
      | [a, b, d], _ => exact ⟨a, b, d, rfl⟩
    have hin : ∀ j, j < 3 → ∃ lo hi, MatAt w4 lo hi ([p0, pu, pw].getD j 0) (xs.getD j mxD).1 (xs.getD j mxD).2.1 (fz (xs.getD j mxD).2.1 (xs.getD j mxD).2.2) := fun j hj => by
      obtain ⟨a1, a2⟩ := puts_at (nx := nx) H.out.2.2.len hxs3 j (by rw [HD.out.2.2.2.2.2.1]; exact hj)
      have hmem : (nx + j, mxT (xs.getD j mxD), [p0, pu, pw].getD j 0) ∈ es ++ ents nx xs [p0, pu, pw] := List.mem_append.2 (.inr (List.mem_map.2 ⟨j, List.mem_range.2 hj, rfl⟩))
      exact (hinv.entry hmem a1 a2 rfl).2.2
    have h0 := hin 0 (by omega)
    have h1 := hin 1 (by omega)
    have h2 := hin 2 (by omega)
    rw [hxs] at h0 h1 h2
    obtain ⟨lo0, hi0, h0⟩ := h0
    obtain ⟨lo1, hi1, h1⟩ := h1
    obtain ⟨lo2, hi2, h2⟩ := h2
    obtain ⟨gs0, r0⟩ := h0.isR
    obtain ⟨gs1, r1⟩ := h1.isR
    obtain ⟨gs2, r2⟩ := h2.isR
    obtain ⟨-, -, lom, him, hm⟩ := hinv.entry (List.mem_append.2 (.inl HD.out.2.1)) HD.out.2.2.1 (puts_old xs ms nx i _ H.out.2.2.len hxs3 HD.out.2.2.2.1) rfl
    obtain ⟨gsm, rm⟩ := hm.isR
    rw [← HP1.out] at rm
    obtain ⟨M, hM⟩ : ∃ M, M = 8000 := ⟨_, rfl⟩
    obtain ⟨b1', b2', b3'⟩ := hIs.small HD.out.2.2.2.2.1.1 HD.out.2.2.2.2.1.2.1 (m := M) (by omega)
    have K5 := Hid.mk (And.intro (r0.fit (m := M) b1') (And.intro (r1.fit (m := M) b2') (And.intro (r2.fit (m := M) b3') (And.intro (rm.tight (fits_fz HD.out.2.2.2.2.1)) (And.intro hIs (And.intro hinv (And.intro hB4 hM)))))))
    have hr4 := HD.out.2.2.2.2.1.1
    have hc4 := HD.out.2.2.2.2.1.2.1
    have hML : M ≤ 8000 := by omega
    obtain ⟨-, -, -, m0, -⟩ := rm.open_
    have o0 : w4.cell? ⟨og, 0, none⟩ = some (.pointer (some ⟨p0, 0, none⟩)) := by
      obtain ⟨ao, cp, e1, -, -, -, e2⟩ := hov4.shape
      simp only [Value.slice.injEq] at e1
      obtain ⟨g', e3, e4⟩ := e2 0 (by simp [ptrs])
      rw [← e1.1] at e3
      simp only [Option.some.injEq, Addr.mk.injEq] at e3
      rw [e3.1, e4]; simp [ptrs]
    have o1 : w4.cell? ⟨og, 1, none⟩ = some (.pointer (some ⟨pu, 0, none⟩)) := by
      obtain ⟨ao, cp, e1, -, -, -, e2⟩ := hov4.shape
      simp only [Value.slice.injEq] at e1
      obtain ⟨g', e3, e4⟩ := e2 1 (by simp [ptrs])
      rw [← e1.1] at e3
      simp only [Option.some.injEq, Addr.mk.injEq] at e3
      rw [e3.1, e4]; simp [ptrs]
    have o2 : w4.cell? ⟨og, 2, none⟩ = some (.pointer (some ⟨pw, 0, none⟩)) := by
      obtain ⟨ao, cp, e1, -, -, -, e2⟩ := hov4.shape
      simp only [Value.slice.injEq] at e1
      obtain ⟨g', e3, e4⟩ := e2 2 (by simp [ptrs])
      rw [← e1.1] at e3
      simp only [Option.some.injEq, Addr.mk.injEq] at e3
      rw [e3.1, e4]; simp [ptrs]
    have hnil := nil_cmp ⟨og, 0, none⟩ 3 ocap
    clear hin h0 h1 h2 r0 r1 r2 rm hm b1' b2' b3' hinv hB4 hbB hov4 hxs hIs hM hxs3
    go_wp2_with fail
    refine (echelon_yes p0 r c gs0 (fz c hs) lo0 (2 * M) kk pc _ K5.out.1 K5.out.2.2.2.2.1.st.echP (by omega) (by omega) (by omega)).mono ?_
    rintro x w5 ⟨rfl, hb5⟩
    have K6 := Hid.mk hb5
    have hw5 := hb5.size
    have m5 := cell_later hb5 m0
    have o15 := cell_later hb5 o1
    have o25 := cell_later hb5 o2
    have o05 := cell_later hb5 o0
    clear hb5 m0 o0 o1 o2
    go_wp2_with fail
    go_still_tail 10, (by kernel_rfl)
    go_wp2_with fail
    have hbd : Below w4.heap.size w4 w5.drew := K6.out.drew
    refine (inverse_yes pu pw r (2 * M) gs1 gs2 (fz r us) (fz r ws) lo1 lo2 _ (K5.out.2.1.keep (KR.of_below hbd)) (K5.out.2.2.1.keep (KR.of_below hbd)) (by omega) (by omega) (fun i j hi hj => K5.out.2.2.2.2.1.inv.uw i j hi hj)).mono ?_
    rintro x w6 ⟨rfl, hb6⟩
    have hb46 : Below w4.heap.size w4 w6 := hbd.trans (hb6.mono hbd.size)
    have K7 := Hid.mk hb46
    have o16 := cell_later hb6 o15
    have o06 := cell_later hb6 o05
    clear hb6 hb46 hbd o15 o25 o05 m5
    go_wp2_with fail
    refine (mtimes_any (2 * M) 4 pu r r gs1 (fz r us) lo1 p1 c gsm (fz c zs) lom _ (K5.out.2.1.keep (KR.of_below K7.out)) (K5.out.2.2.2.1.keep (KR.of_below K7.out)) (by omega) (by omega) (by omega) (by omega)).mono ?_
    rintro x w7 ⟨rfl, ⟨go, hIp⟩, hb7⟩
    have hb47 : Below w4.heap.size w4 w7 := K7.out.trans (hb7.mono K7.out.size)
    have o07 := cell_later hb7 o06
    have K8 := Hid.mk (And.intro hIp (And.intro ((K5.out.1.keep (KR.of_below hb47)).mono (show 2 * M ≤ 2 * M + 4 + 12 by omega)) hb47))
    clear hIp hb7 hb47 o06 o16
    go_wp2_with fail
    try go_quiet (fail)
    try go_wp2_with fail
    refine (same_yes w6.heap.size r c go _ 0 p0 gs0 _ lo0 (2 * M + 4 + 12) _ K8.out.1 K8.out.2.1 (fun i j hi hj => K5.out.2.2.2.2.1.inv.ua i j hi hj) (by omega) (by omega) (by omega)).mono ?_
    rintro x w8 ⟨rfl, hb8⟩
    have hb48 : Below w4.heap.size w4 w8 := K8.out.2.2.trans (hb8.mono K8.out.2.2.size)
    have HF : Hid (StepOut B w w8 W T b1 b2 nx) := Hid.mk ⟨⟨_, _, _, K5.out.2.2.2.2.2.1.below hb48, by omega⟩, K5.out.2.2.2.2.2.2.1.trans (hb48.mono (by omega))⟩
    clear hb8 hb48
    go_wp2_with fail
    go_ret
    exact ⟨rfl, HF.out⟩
end Go.Proofs.YtfjbijpagaipnaaGreatDoor
namespace Go.Proofs.YtfjbijpagaipnaaGreatDoor
open Go.RowKit R
set_option maxRecDepth 100000 in
set_option maxHeartbeats 4000000 in
theorem step_echelon0 (B W T b1 b2 : Nat) (ms : List Hm) (nx : Nat) (es : List Ent) (kd a b c : Int) (s t : ByteArray) (w : World) (h : LInv B w W T b1 b2 ms nx es) (hkd : kd = 7) (ha1 : -9223372036854775808 ≤ a) (ha2 : a ≤ 9223372036854775807) (hb1 : -9223372036854775808 ≤ b) (hb2 : b ≤ 9223372036854775807) (hnx : nx < 999995) :
    Calls Tryz.prog 35 #[.pointer (some ⟨W, 0, none⟩), opV kd a b c s t] w fun x w' => x = .returned (.bool true) ∧ StepOut B w w' W T b1 b2 nx := by
  have H := Hid.mk h
  have hB := h.size
  have HKD := Hid.mk hkd
  clear h hkd
  unfold opV
  obtain ⟨W0, hW0⟩ : ∃ W0, W0 = w.alloc (.cells #[.int .i64 kd, .int .i64 a, .int .i64 b, .int .i64 c, .string s, .string t] 31) := ⟨_, rfl⟩
  have hbW : Below w.heap.size w W0 := by rw [hW0]; exact (Below.refl _ _).alloc (Nat.le_refl _) _
  have hblk : W0.heap[w.heap.size]? = some (.cells #[.int .i64 kd, .int .i64 a, .int .i64 b, .int .i64 c, .string s, .string t] 31 (0, 0)) := by rw [hW0]; exact heap_alloc_new w _
  have hsz : W0.heap.size = w.heap.size + 1 := by rw [hW0]; simp
  have H0 := Hid.mk (And.intro hbW (And.intro hblk hW0))
  clear hbW hblk hW0
  go_enter Tryz.func35, Tryz.ntmps35
  go_wp2_with fail
  rw [← H0.out.2.2]
  refine (handle_any B W T b1 b2 ms nx es a c _ (H.out.below H0.out.1) ha1 ha2).mono ?_
  rintro x w1 ⟨⟨hh, rfl⟩, hb1'⟩
  have hblk1 : w1.heap[w.heap.size]? = some (.cells #[.int .i64 kd, .int .i64 a, .int .i64 b, .int .i64 c, .string s, .string t] 31 (0, 0)) := by rw [hb1'.block _ (by omega)]; exact H0.out.2.1
  have hbe1 : Below w.heap.size w w1 := H0.out.1.trans (hb1'.mono H0.out.1.size)
  have g0 : w1.cell? ⟨w.heap.size, 0, none⟩ = some (.int .i64 kd) := by simp [World.cell?, hblk1]
  have g2 : w1.cell? ⟨w.heap.size, 2, none⟩ = some (.int .i64 b) := by simp [World.cell?, hblk1]
  have g3 : w1.cell? ⟨w.heap.size, 3, none⟩ = some (.int .i64 c) := by simp [World.cell?, hblk1]
  have hs1 := hb1'.size
  have K1 := Hid.mk (And.intro hbe1 hblk1)
  clear hb1' hblk1 hbe1
  go_wp2_with fail
  refine (handle_any B W T b1 b2 ms nx es b c _ (H.out.below K1.out.1) hb1 hb2).mono ?_
  rintro x w2 ⟨⟨hh2, rfl⟩, hb2'⟩
  have hblk2 : w2.heap[w.heap.size]? = some (.cells #[.int .i64 kd, .int .i64 a, .int .i64 b, .int .i64 c, .string s, .string t] 31 (0, 0)) := by rw [hb2'.block _ (by omega)]; exact K1.out.2
  have hbe2 : Below w.heap.size w w2 := K1.out.1.trans (hb2'.mono K1.out.1.size)
  clear g0 g2 g3
  have g0 : w2.cell? ⟨w.heap.size, 0, none⟩ = some (.int .i64 kd) := by simp [World.cell?, hblk2]
  have g4 : w2.cell? ⟨w.heap.size, 4, none⟩ = some (.string s) := by simp [World.cell?, hblk2]
  have K2 := Hid.mk (And.intro hbe2 (H.out.below hbe2))
  clear hb2' hblk2 hbe2
  obtain rfl := HKD.out
  go_wp2_with fail
  refine (echelon_any B W T b1 b2 ms nx es hh _ K2.out.2 hnx).mono ?_
  rintro x w3 ⟨rfl, ho⟩
  have HO := Hid.mk (ho.after (K2.out.1.mono hB))
  clear ho
  go_wp2_with fail
  go_ret
  exact ⟨rfl, HO.out⟩
theorem step_echelon : StepOk (fun kd => kd = 7) := fun B W T b1 b2 ms nx es kd a b c s t w h hkd ha1 ha2 hb1 hb2 _ hnx => step_echelon0 B W T b1 b2 ms nx es kd a b c s t w h hkd ha1 ha2 hb1 hb2 hnx
end Go.Proofs.YtfjbijpagaipnaaGreatDoor
