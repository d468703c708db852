import Derived.Test.YtmijbimanaalbaaGreatDoorC31
import Derived.Test.YtmijbimanaalbaaGreatDoorC26
import Derived.Test.YtmijbimanaalbaaGreatDoorC32
import Derived.Test.YtmijbimanaalbaaGreatDoorC28
import Derived.Test.YtmijbimanaalbaaGreatDoorC04
import Derived.Test.YtmijbimanaalbaaGreatDoorC29
/- matriceslaw.World: times. -/
namespace Go.Proofs.YtmijbimanaalbaaGreatDoor
open Go.RowKit R

theorem R.IsN.tight {w : World} {v : Value} {z : Int} {L : Nat} (h : IsN w v z L) (hz : z.natAbs < 281474976710656) : IsN w v z 4 := by
  obtain ⟨neg, sl, xs, h1, h2, h3, h4, h5, h6⟩ := h
  refine ⟨neg, sl, xs, h1, h2, h3, h4, h5, ?_⟩
  rcases Nat.lt_or_ge 4 xs.length with h7 | h7
  · exfalso
    have h8 := R.Lim_ge h3 (by intro e; rw [e] at h7; simp at h7)
    have h9 : 10000 ^ 4 ≤ 10000 ^ (xs.length - 1) := Nat.pow_le_pow_right (by decide) (by omega)
    have h10 : z.natAbs = R.val xs := by
      cases neg
      · rw [h5]; simp
      · rw [h5]; simp
    omega
  · exact h7
theorem R.IsR.tight {B : Nat} {w : World} {b r c : Nat} {gs : Nat → Nat} {f : Nat → Nat → Int} {L : Nat} (h : IsR B w b r c gs f L) (hf : ∀ i j, i < r → j < c → (f i j).natAbs < 281474976710656) : IsR B w b r c gs f 4 := by
  obtain ⟨h0, v, h1, h2, h3, h4⟩ := h
  refine ⟨h0, v, h1, h2, fun i hi => ⟨(h3 i hi).1, ?_⟩, h4⟩
  obtain ⟨cs, q1, q2, q3⟩ := (h3 i hi).2
  refine ⟨cs, q1, q2, fun j hj => ?_⟩
  obtain ⟨a, b, e1, e2, e3, e4⟩ := q3 j hj
  exact ⟨a, b, e1, e2, e3.tight (hf i j hi hj), e4⟩
theorem fits_fz {r c : Nat} {zs : List Int} (h : FitsP r c zs) : ∀ i j, i < r → j < c → (fz c zs i j).natAbs < 281474976710656 := fun _ _ hi hj => h.2.2 _ (idx_lt hi hj)
theorem nDig_le (k u : Nat) (h : u < 10 ^ (k + 1)) : Lib.nDigits u ≤ k + 1 := by
  induction k generalizing u with
  | zero => rw [Lib.nDigits_small (by simpa using h)]; exact Nat.le_refl _
  | succ k ih =>
    by_cases h1 : u < 10
    · rw [Lib.nDigits_small h1]; omega
    · rw [Lib.nDigits_big h1]
      have := ih (u / 10) (by rw [Nat.pow_succ] at h; omega)
      omega
theorem itoa_lenk (k : Nat) (z : Int) (h : z.natAbs < 10 ^ (k + 1)) : (Lib.itoa z).length ≤ k + 2 := by
  have h1 := nDig_le k z.natAbs h
  unfold Lib.itoa
  by_cases hz : z < 0
  · rw [if_pos hz, List.length_cons, Lib.decDigits_length]; omega
  · rw [if_neg hz, Lib.decDigits_length]
    rw [show z.toNat = z.natAbs from by omega]
    omega
/-- Small matrices are written in few bytes. -/
theorem fine_small {r c k : Nat} {zs : List Int} (hr : r ≤ 4) (hc : c ≤ 4) (hl : zs.length = r * c) (hz : ∀ t, t < r * c → (zs.getD t 0).natAbs < 10 ^ (k + 1)) (hk : k ≤ 1000) : Fine r c zs := by
  refine ⟨by omega, by omega, hl, ?_⟩
  have hrc : r * c ≤ 16 := Nat.mul_le_mul hr hc
  have hb : ∀ (l : List (List UInt8)) (t : Nat), (∀ x ∈ l, x.length ≤ k + 2) → (bodyT c t l).length ≤ l.length * (k + 4) := by
    intro l
    induction l with
    | nil => intro t _; simp [bodyT]
    | cons a b ih =>
      intro t hx
      have h1 := hx a (by simp)
      have h2 := ih (t + 1) (fun x hx' => hx x (List.mem_cons_of_mem _ hx'))
      rw [bodyT]
      simp only [List.length_append, List.length_cons, Nat.succ_mul]
      split <;> simp <;> omega
  have h1 := hb (zs.map Lib.itoa) 0 (fun x hx => by
    obtain ⟨z, hz', rfl⟩ := List.mem_map.1 hx
    obtain ⟨i, hi, rfl⟩ := List.mem_iff_getElem.1 hz'
    have := hz i (by omega)
    rw [show zs.getD i 0 = zs[i] from by simp [List.getD, List.getElem?_eq_getElem hi]] at this
    exact itoa_lenk k _ this)
  rw [List.length_map, hl] at h1
  have h2 := dec_le2 r (by omega)
  have h3 := dec_le2 c (by omega)
  unfold matT
  simp only [List.length_append, List.length_cons]
  have : r * c * (k + 4) ≤ 16 * (k + 4) := Nat.mul_le_mul_right _ hrc
  omega
theorem fine_prodL {r q c : Nat} {zs ys : List Int} (h1 : FitsP r q zs) (h2 : FitsP q c ys) : Fine r c (prodL r q c zs ys) := by
  refine fine_small (k := 39) h1.1 h2.2.1 (prodL_len _ _ _ _ _) (fun t ht => ?_) (by omega)
  have hc : 0 < c := by
    rcases Nat.eq_zero_or_pos c with h0 | h0
    · subst h0; rw [Nat.mul_zero] at ht; omega
    · exact h0
  have h3 : t / c < r := by rw [Nat.div_lt_iff_lt_mul hc]; exact ht
  have h4 := Nat.mod_lt t hc
  have h5 : t / c * c + t % c = t := by rw [Nat.mul_comm]; exact Nat.div_add_mod t c
  have h6 := prodL_at (q := q) (zs := zs) (ys := ys) h3 h4
  rw [h5] at h6
  rw [h6]
  have h7 := dot_le (f := fun i j => zs.getD (i * q + j) 0) (g := fun i j => ys.getD (i * c + j) 0) (i := t / c) (j := t % c) (A := 281474976710656) q (fun k hk => Nat.le_of_lt (h1.2.2 _ (idx_lt h3 hk))) (fun k hk => Nat.le_of_lt (h2.2.2 _ (idx_lt hk h4)))
  have h8 : q * (281474976710656 * 281474976710656) ≤ 4 * (281474976710656 * 281474976710656) := Nat.mul_le_mul_right _ h2.1
  exact Nat.lt_of_le_of_lt (Nat.le_trans h7 h8) (by decide)
/-- Pair and Times, held together. -/
theorem times_case {es : List Ent} {ms : List Hm} {nx : Nat} {g h k e want : Int} {a b : Value} {ms' : List Hm} {nx' : Nat} (hd : Dst ms) (hp : PairL es ms g h a b want) (ht : TimesRel ms nx g h k e ms' nx') :
    ((want = 2 ∨ want = 3 ∨ want = 4) ∧ e = want ∧ k = -1 ∧ ms' = ms ∧ nx' = nx) ∨ (want = 0 ∧ e = 5 ∧ k = -1 ∧ ms' = ms ∧ nx' = nx ∧ ∀ i, i < 24 → ms.getD i none ≠ none) ∨
    (want = 0 ∧ e = 0 ∧ k = (nx : Int) ∧ ∃ e1 e2 i r q zs j c ys n, e1 ∈ es ∧ e2 ∈ es ∧ i < 24 ∧ ms.getD i none = some (e1.1, r, q, zs) ∧ j < 24 ∧ ms.getD j none = some (e2.1, q, c, ys) ∧ FitsP r q zs ∧ FitsP q c ys ∧ a = .pointer (some ⟨e1.2.2, 0, none⟩) ∧ b = .pointer (some ⟨e2.2.2, 0, none⟩) ∧ FreeAt ms n ∧ ms' = ms.set n (some (nx, r, c, prodL r q c zs ys)) ∧ nx' = nx + 1) := by
  rcases hp with ⟨hn, rfl⟩ | ⟨e1, e2, i, r, q, zs, j, q', c, ys, m1, m2, hi, hx, hxg, hj, hy, hyh, hp⟩
  · rcases ht with ⟨-, rfl, rfl, rfl, rfl⟩ | ⟨i, hd1, r, q, zs, j, hd2, q', c, ys, hi, hx, hxg, hj, hy, hyh, -⟩
    · exact .inl ⟨.inl rfl, rfl, rfl, rfl, rfl⟩
    · rcases hn with hn | hn
      · exact absurd hxg (hn i hi _ hx)
      · exact absurd hyh (hn j hj _ hy)
  · rcases ht with ⟨hn, -⟩ | ⟨i2, hd1, r2, q2, zs2, j2, hd2, q2', c2, ys2, hi2, hx2, hxg2, hj2, hy2, hyh2, ht⟩
    · rcases hn with hn | hn
      · exact absurd hxg (hn i hi _ hx)
      · exact absurd hyh (hn j hj _ hy)
    · have e5 : i = i2 := hd i i2 _ _ hi hi2 hx hx2 (by show e1.1 = hd1; omega)
      have e6 : j = j2 := hd j j2 _ _ hj hj2 hy hy2 (by show e2.1 = hd2; omega)
      subst e5; subst e6
      rw [hx] at hx2
      rw [hy] at hy2
      simp only [Option.some.injEq, Prod.mk.injEq] at hx2 hy2
      obtain ⟨rfl, rfl, rfl, rfl⟩ := hx2
      obtain ⟨rfl, rfl, rfl, rfl⟩ := hy2
      rcases hp with ⟨p1, rfl⟩ | ⟨p1, p2, rfl⟩ | ⟨p1, p2, rfl, rfl, rfl⟩
      · rcases ht with ⟨-, rfl, rfl, rfl, rfl⟩ | ⟨t1, _⟩ | ⟨t1, _⟩ | ⟨t1, _⟩
        · exact .inl ⟨.inr (.inl rfl), rfl, rfl, rfl, rfl⟩
        · exact absurd t1 p1
        · exact absurd t1 p1
        · exact absurd t1 p1
      · rcases ht with ⟨t1, _⟩ | ⟨-, -, rfl, rfl, rfl, rfl⟩ | ⟨-, t2, _⟩ | ⟨-, t2, _⟩
        · exact absurd p1 t1
        · exact .inl ⟨.inr (.inr rfl), rfl, rfl, rfl, rfl⟩
        · exact absurd t2 p2
        · exact absurd t2 p2
      · rcases ht with ⟨t1, _⟩ | ⟨-, t2, _⟩ | ⟨-, -, t3, rfl, rfl, rfl, rfl⟩ | ⟨-, -, rfl, rfl, n, t3, rfl, rfl⟩
        · exact absurd p1 t1
        · exact absurd p2 t2
        · exact .inr (.inl ⟨rfl, rfl, rfl, rfl, rfl, t3⟩)
        · subst p1
          exact .inr (.inr ⟨rfl, rfl, rfl, e1, e2, i, r, q, zs, j, c, ys, n, m1, m2, hi, hx, hj, hy, p2.1, p2.2, rfl, rfl, t3, rfl, rfl⟩)
set_option maxRecDepth 100000 in
set_option maxHeartbeats 4000000 in
theorem times_any (B W T b1 b2 : Nat) (ms : List Hm) (nx : Nat) (es : List Ent) (g h : Int) (w : World) (hI : LInv B w W T b1 b2 ms nx es) (hnx : nx < 1000000) :
    Calls Tryz.prog 71 #[.pointer (some ⟨W, 0, none⟩), .int .i64 g, .int .i64 h] w fun x w' => x = .returned (.bool true) ∧ StepOut B w w' W T b1 b2 nx := by
  have hB := hI.size
  have hle := hI.le24
  have H := Hid.mk hI
  clear hI
  go_enter Tryz.func71, Tryz.ntmps71
  go_wp2_with fail
  refine (pair_times B W T b1 b2 ms nx es g h _ H.out).mono ?_
  rintro x w1 ⟨⟨a, b, want, rfl, hp⟩, hb1⟩
  have hI1 := H.out.below hb1
  obtain ⟨ioa, icap, loa, lcap, tv, c0, -⟩ := hI1.lcells
  have K1 := Hid.mk (And.intro hp (And.intro hb1 hI1))
  have hw1 := hb1.size
  clear hp hb1 hI1
  go_wp2_with fail
  refine (twTimes_any B T b1 b2 g h ms nx _ K1.out.2.2.1 H.out.2.2.dst hnx).mono ?_
  rintro x w2 ⟨k, e, ms', nx', rfl, hrel, hT2, hC2⟩
  have hcase := times_case H.out.2.2.dst K1.out.1 hrel
  have hbel2 : Below B w w2 := (K1.out.2.1.mono hB).trans (hC2.below (St2.le H.out.1.2.2.2.2.2.2.1 H.out.1.2.2.2.2.2.2.2) (by omega))
  have hrows := K1.out.2.2.stores hC2
  obtain ⟨iv1, lv1, tv1, hL1, hI1, hP1, hX1, hS1, hM1⟩ := id hrows
  have hw2 := hbel2.size
  have K2 := Hid.mk (And.intro hT2 (And.intro hrows (And.intro hbel2 (And.intro hcase (And.intro hL1 (And.intro hI1 (And.intro hP1 (And.intro hX1 (And.intro hS1 hM1)))))))))
  clear hrel hT2 hC2 hcase hbel2 hrows hL1 hI1 hP1 hX1 hS1 hM1 c0
  go_wp2_with fail
  refine (full_raw W T nx _ _ _ es _ K2.out.2.2.2.2.1 K2.out.2.2.2.2.2.1 hle).mono ?_
  rintro x w' ⟨rfl, rfl⟩
  have hnum := H.out.2.2.num
  have hcf := cnt_full H.out.2.2.len
  have HCF := Hid.mk (And.intro hnum hcf)
  clear hnum hcf
  rcases K2.out.2.2.2.1 with ⟨hz, rfl, rfl, rfl, rfl⟩ | ⟨rfl, rfl, rfl, rfl, rfl, hful⟩ | ⟨rfl, rfl, rfl, e1, e2, i, r, q, zs, j, c, ys, n, m1, m2, hi, hx, hj, hy, f1, f2, rfl, rfl, hn, hms, hnx'⟩
  · have HF : Hid (StepOut B w w' W T b1 b2 nx') := Hid.mk ⟨⟨ms', nx', es, ⟨K2.out.1, K2.out.2.1, H.out.2.2⟩, by omega⟩, K2.out.2.2.1⟩
    rcases hz with rfl | rfl | rfl
    · go_wp2_with fail
      go_ret
      exact ⟨rfl, HF.out⟩
    · go_wp2_with fail
      go_ret
      exact ⟨rfl, HF.out⟩
    · go_wp2_with fail
      go_ret
      exact ⟨rfl, HF.out⟩
  · have HF : Hid (StepOut B w w' W T b1 b2 nx') := Hid.mk ⟨⟨ms', nx', es, ⟨K2.out.1, K2.out.2.1, H.out.2.2⟩, by omega⟩, K2.out.2.2.1⟩
    have hfl : decide (24 < es.length + 1) = true := decide_eq_true (by have h1 := HCF.out.1; have h2 := HCF.out.2.2 hful; omega)
    rw [hfl]
    clear hful hfl
    go_wp2_with fail
    go_ret
    exact ⟨rfl, HF.out⟩
  · have hne24 : es.length ≠ 24 := fun h => absurd hn.2.1 ((HCF.out.2.1 (by rw [← HCF.out.1]; exact h)) n hn.1)
    have hfl : decide (24 < es.length + 1) = false := decide_eq_false (by omega)
    rw [hfl]
    have HD := Hid.mk (And.intro m1 (And.intro m2 (And.intro hi (And.intro hx (And.intro hj (And.intro hy (And.intro f1 (And.intro f2 (And.intro hn (And.intro hms hnx'))))))))))
    obtain ⟨p1, hp1⟩ : ∃ p1, p1 = e1.2.2 := ⟨_, rfl⟩
    obtain ⟨p2, hp2⟩ : ∃ p2, p2 = e2.2.2 := ⟨_, rfl⟩
    have HPP := Hid.mk (And.intro hp1 hp2)
    rw [← hp1, ← hp2]
    clear m1 m2 hi hx hj hy f1 f2 hn hms hnx' hfl hp1 hp2
    go_wp2_with fail
    obtain ⟨Y, hY⟩ : ∃ Y, Y = w'.alloc (.cells #[.int .i64 (nx : Nat)] 3) := ⟨_, rfl⟩
    have hbX : Below w'.heap.size w' Y := by rw [hY]; exact (Below.refl _ _).alloc (Nat.le_refl _) _
    have hsX : Y.heap.size = w'.heap.size + 1 := by rw [hY]; simp
    have hgY : Y.heap[w'.heap.size]? = some (.cells #[.int .i64 (nx : Nat)] 3 (0, 0)) := by rw [hY]; exact heap_alloc_new w' _
    rw [← hY]
    clear hY
    have hHD := HD.out
    obtain ⟨m1, m2, hi, hx, hj, hy, f1, f2, hn, hms, hnx'⟩ := hHD
    have hTX : TwH B Y T b1 b2 (ms.set n (some (nx, r, c, prodL r q c zs ys))) (nx + 1) := by
      have := K2.out.1.below hbX
      rw [hms, hnx'] at this
      exact this
    have hfine := fine_prodL f1 f2
    have hmi : (ms.set n (some (nx, r, c, prodL r q c zs ys))).getD n none = some (nx, r, c, prodL r q c zs ys) := by rw [hm_set (by rw [H.out.2.2.len]; exact hn.1), if_pos rfl]
    have hpush := H.out.2.2.push hn r c (prodL r q c zs ys)
    obtain ⟨-, -, -, -, kL, kI, kP, kX, kS, kM⟩ := K2.out
    have hlt : ∀ k, S4 W iv1 lv1 tv1 k → k < w'.heap.size := fun k hk => by
      rcases hk with hk | hk | hk | hk
      · rw [hk]; exact kL.lt
      · exact (kI.own k hk).1
      · exact (kP.own k hk).1
      · exact (kX.own k hk).1
    have hLX := kL.of_block (hbX.block W kL.lt)
    have hIX := kI.below hbX
    have hPX := kP.below hbX
    have hXX := kX.below hbX
    refine (held_one B W T b1 b2 w'.heap.size n r c nx (nx + 1) iv1 lv1 tv1 (ms.set n (some (nx, r, c, prodL r q c zs ys))) es (prodL r q c zs ys) _ hTX hLX hIX hPX hXX kS (by omega) hn.1 hmi (hpush 0).dst hfine hle hgY (fun e => by have := hlt _ e; omega)).mono ?_
    rintro x w5 ⟨ov, rfl, p', iv', lv', tv', og, ocap, rfl, o1, o2, ocell, hL5, hI5, hP5, hX5, ow, hmat, hC5⟩
    obtain ⟨lo5, hi5, -, hmt, -⟩ := id hmat
    obtain ⟨gs', hIR5⟩ := hmt.isR
    obtain ⟨hinv, hbB⟩ := held_inv hTX hLX hIX hPX hXX kS (kM.below hbX) H.out.2.2 hn hfine (by rw [hsX]; omega) hL5 hI5 hP5 hX5 ow hmat hC5
    have hB5 : Below B w w5 := K2.out.2.2.1.trans ((hbX.mono (by omega)).trans hbB)
    have hin : ∀ t x, ms.getD t none = some x → (ms.set n (some (nx, r, c, prodL r q c zs ys))).getD t none = some x := fun t x ht => by
      rw [hm_set (by rw [H.out.2.2.len]; exact hn.1), if_neg (fun e => by rw [e, hn.2.1] at ht; cases ht)]
      exact ht
    obtain ⟨-, -, lo1, hi1, hm1⟩ := hinv.entry (List.mem_append.2 (.inl m1)) hi (hin i _ hx) rfl
    obtain ⟨-, -, lo2, hi2, hm2⟩ := hinv.entry (List.mem_append.2 (.inl m2)) hj (hin j _ hy) rfl
    obtain ⟨gs1, hR1⟩ := hm1.isR
    obtain ⟨gs2, hR2⟩ := hm2.isR
    rw [← HPP.out.1] at hR1
    rw [← HPP.out.2] at hR2
    have K5 := Hid.mk (And.intro hIR5 (And.intro (hR1.tight (fits_fz f1)) (And.intro (hR2.tight (fits_fz f2)) (And.intro hinv hB5))))
    have hr4 := f1.1
    have hq4 := f1.2.1
    have hc4 := f2.2.1
    have hw5 := hB5.size
    clear hL5 hI5 hP5 hX5 ow hIR5 hC5 hinv hB5 hbB hmat hmt hmi hbX hTX hpush hsX hLX hIX hPX hXX kL kI kP kX kS kM hlt hfine hin hm1 hm2 hR1 hR2 m1 m2 hi hx hj hy f1 f2 hn hms hnx' hgY
    have hnil := nil_cmp ⟨og, 0, none⟩ 1 ocap
    go_wp2_with fail
    refine (mtimes_any 4 4 p1 r q gs1 (fz q zs) lo1 p2 c gs2 (fz c ys) lo2 _ K5.out.2.1 K5.out.2.2.1 (by omega) (by omega) (by omega) (by omega)).mono ?_
    rintro x w6 ⟨rfl, ⟨go, hIp⟩, hb6⟩
    have oc6 := cell_later hb6 ocell
    have K6 := Hid.mk (And.intro (hIp.mono (show 20 ≤ 19001 by omega)) (And.intro (K5.out.1.keep (KR.of_below hb6)) hb6))
    clear hIp hb6 ocell
    go_wp2_with fail
    try go_quiet (fail)
    try go_wp2_with fail
    refine (same_yes w5.heap.size r c go _ 0 p' gs' _ lo5 19001 _ K6.out.1 K6.out.2.1 (fun i j hi hj => (prodL_at hi hj).symm) (by omega) (by omega) (by omega)).mono ?_
    rintro x w7 ⟨rfl, hb7⟩
    have hb57 : Below w5.heap.size w5 w7 := K6.out.2.2.trans (hb7.mono K6.out.2.2.size)
    have HF : Hid (StepOut B w w7 W T b1 b2 nx) := Hid.mk ⟨⟨_, _, _, K5.out.2.2.2.1.below hb57, Nat.le_refl _⟩, K5.out.2.2.2.2.trans (hb57.mono (by omega))⟩
    clear hb7 hb57
    go_wp2_with fail
    go_ret
    exact ⟨rfl, HF.out⟩
end Go.Proofs.YtmijbimanaalbaaGreatDoor

/- matriceslaw.World: step, of the kind Times. -/
namespace Go.Proofs.YtmijbimanaalbaaGreatDoor
open Go.RowKit R

set_option maxRecDepth 100000 in
set_option maxHeartbeats 4000000 in
theorem step_times0 (B W T b1 b2 : Nat) (ms : List Hm) (nx : Nat) (es : List Ent) (kd a b c : Int) (s t : ByteArray) (w : World) (h : LInv B w W T b1 b2 ms nx es) (hkd : kd = 14) (ha1 : -9223372036854775808 ≤ a) (ha2 : a ≤ 9223372036854775807) (hb1 : -9223372036854775808 ≤ b) (hb2 : b ≤ 9223372036854775807) (hnx : nx < 1000000) :
    Calls Tryz.prog 35 #[.pointer (some ⟨W, 0, none⟩), opV kd a b c s t] w fun x w' => x = .returned (.bool true) ∧ StepOut B w w' W T b1 b2 nx := by
  have H := Hid.mk h
  have hB := h.size
  have HKD := Hid.mk hkd
  clear h hkd
  unfold opV
  obtain ⟨W0, hW0⟩ : ∃ W0, W0 = w.alloc (.cells #[.int .i64 kd, .int .i64 a, .int .i64 b, .int .i64 c, .string s, .string t] 31) := ⟨_, rfl⟩
  have hbW : Below w.heap.size w W0 := by rw [hW0]; exact (Below.refl _ _).alloc (Nat.le_refl _) _
  have hblk : W0.heap[w.heap.size]? = some (.cells #[.int .i64 kd, .int .i64 a, .int .i64 b, .int .i64 c, .string s, .string t] 31 (0, 0)) := by rw [hW0]; exact heap_alloc_new w _
  have hsz : W0.heap.size = w.heap.size + 1 := by rw [hW0]; simp
  have H0 := Hid.mk (And.intro hbW (And.intro hblk hW0))
  clear hbW hblk hW0
  go_enter Tryz.func35, Tryz.ntmps35
  go_wp2_with fail
  rw [← H0.out.2.2]
  refine (handle_any B W T b1 b2 ms nx es a c _ (H.out.below H0.out.1) ha1 ha2).mono ?_
  rintro x w1 ⟨⟨hh, rfl⟩, hb1'⟩
  have hblk1 : w1.heap[w.heap.size]? = some (.cells #[.int .i64 kd, .int .i64 a, .int .i64 b, .int .i64 c, .string s, .string t] 31 (0, 0)) := by rw [hb1'.block _ (by omega)]; exact H0.out.2.1
  have hbe1 : Below w.heap.size w w1 := H0.out.1.trans (hb1'.mono H0.out.1.size)
  have g0 : w1.cell? ⟨w.heap.size, 0, none⟩ = some (.int .i64 kd) := by simp [World.cell?, hblk1]
  have g2 : w1.cell? ⟨w.heap.size, 2, none⟩ = some (.int .i64 b) := by simp [World.cell?, hblk1]
  have g3 : w1.cell? ⟨w.heap.size, 3, none⟩ = some (.int .i64 c) := by simp [World.cell?, hblk1]
  have hs1 := hb1'.size
  have K1 := Hid.mk (And.intro hbe1 hblk1)
  clear hb1' hblk1 hbe1
  go_wp2_with fail
  refine (handle_any B W T b1 b2 ms nx es b c _ (H.out.below K1.out.1) hb1 hb2).mono ?_
  rintro x w2 ⟨⟨hh2, rfl⟩, hb2'⟩
  have hblk2 : w2.heap[w.heap.size]? = some (.cells #[.int .i64 kd, .int .i64 a, .int .i64 b, .int .i64 c, .string s, .string t] 31 (0, 0)) := by rw [hb2'.block _ (by omega)]; exact K1.out.2
  have hbe2 : Below w.heap.size w w2 := K1.out.1.trans (hb2'.mono K1.out.1.size)
  clear g0 g2 g3
  have g0 : w2.cell? ⟨w.heap.size, 0, none⟩ = some (.int .i64 kd) := by simp [World.cell?, hblk2]
  have g4 : w2.cell? ⟨w.heap.size, 4, none⟩ = some (.string s) := by simp [World.cell?, hblk2]
  have K2 := Hid.mk (And.intro hbe2 (H.out.below hbe2))
  clear hb2' hblk2 hbe2
  obtain rfl := HKD.out
  go_wp2_with fail
  refine (times_any B W T b1 b2 ms nx es hh hh2 _ K2.out.2 hnx).mono ?_
  rintro x w3 ⟨rfl, ho⟩
  have HO := Hid.mk (ho.after (K2.out.1.mono hB))
  clear ho
  go_wp2_with fail
  go_ret
  exact ⟨rfl, HO.out⟩
theorem step_times : StepOk (fun kd => kd = 14) := fun B W T b1 b2 ms nx es kd a b c s t w h hkd ha1 ha2 hb1 hb2 _ hnx => step_times0 B W T b1 b2 ms nx es kd a b c s t w h hkd ha1 ha2 hb1 hb2 hnx
end Go.Proofs.YtmijbimanaalbaaGreatDoor

/- grid.Matrix.set, of a matrix that lies inside a greater block. -/
namespace Go.Proofs.YtmijbimanaalbaaGreatDoor
open Go.RowKit

/-- Three cells of block b, from o on. -/
def Tri (w : World) (b o : Nat) (x y z : Value) : Prop := w.cell? ⟨b, o, none⟩ = some x ∧ w.cell? ⟨b, o + 1, none⟩ = some y ∧ w.cell? ⟨b, o + 2, none⟩ = some z
theorem Tri.later {w w' : World} {b o : Nat} {x y z : Value} (h : Tri w b o x y z) (hb : Below w.heap.size w w') : Tri w' b o x y z := ⟨cell_later hb h.1, cell_later hb h.2.1, cell_later hb h.2.2⟩
theorem Tri.grown {w w' : World} {b o s : Nat} {x y z : Value} (h : Tri w b o x y z) (hg : w.grownBy w' (some s)) (hne : b ≠ s) : Tri w' b o x y z := ⟨hg.cell h.1 (by simpa using hne), hg.cell h.2.1 (by simpa using hne), hg.cell h.2.2 (by simpa using hne)⟩
set_option maxRecDepth 100000 in
set_option maxHeartbeats 2000000 in
theorem set_o (p o g r c cap row col : Nat) (zs : List Int) (L : Nat) (x : Value) (z : Int) (w : World) (hp : Tri w p o (.int .i64 r) (.int .i64 c) (.slice (some ⟨g, 0, none⟩) (r * c) cap)) (hg : Grid w (.slice (some ⟨g, 0, none⟩) (r * c) cap) (r * c) zs L) (hx : IsI w x z L) (hr : r ≤ 99) (hc : c ≤ 99) (h1 : row < r) (h2 : col < c) :
    Calls Tryz.prog 85 #[.pointer (some ⟨p, o, none⟩), .int .i64 row, .int .i64 col, x] w fun e w' => e = .returned (.tuple #[]) ∧ Grid w' (.slice (some ⟨g, 0, none⟩) (r * c) cap) (r * c) (zs.set (row * c + col) z) L ∧ w.grownBy w' (some g) ∧ KU w w' := by
  obtain ⟨p0, p1, p2⟩ := hp
  have hk := idx_lt h1 h2
  obtain ⟨nb, bo, m, ecap, c1, c2, -⟩ := hg.cell _ hk
  have f1 := hg.frozen (2 * (row * c + col))
  have f2 := hg.frozen (2 * (row * c + col) + 1)
  have hgl : g < w.heap.size := World.block_lt_of_cell? w _ c1
  have hh := hasB_in h1 h2
  obtain ⟨b1, b2⟩ := idx_bd hr hc h1
  obtain ⟨sl, xs, rfl, q2, q3, q4, q5⟩ := id hx
  obtain ⟨ao, dcap, rfl, -⟩ := q5.open_
  rw [Nat.mul_comm 2] at c1 c2 f1 f2
  have d1 := cell2 c1
  have d2 := cell2 c2
  have d3 := frozen2 f1 hgl
  have d4 := frozen2 f2 hgl
  have d5 : ∀ v, ∀ o1 o2, (((w.setCell ⟨g, (row * c + col) * 2, none⟩ v).alloc o1).alloc o2).cell? ⟨g, (row * c + col) * 2 + 1, none⟩ = some (.slice bo m ecap) := fun v => cell2 (by rw [World.cell?_setCell_other _ _ _ _ (by simp)]; exact c2)
  have d6 : ∀ v, ∀ o1 o2, (((w.setCell ⟨g, (row * c + col) * 2, none⟩ v).alloc o1).alloc o2).frozen? ⟨g, (row * c + col) * 2 + 1, none⟩ = false := fun v => frozen2 (by rw [World.frozen?_setCell]; exact f2) (by simp [World.setCell]; exact hgl)
  have e0 := cell2 p0
  have e1 := cell2 p1
  have e2 := cell2 p2
  have e0' := cell1 p0
  have e1' := cell1 p1
  have e2' := cell1 p2
  have HX := Hid.mk hx
  have HG := Hid.mk hg
  have HK := Hid.mk hk
  clear hx hg q2 q3 q4 q5 p0 p1 p2 c1 c2 f1 f2
  obtain ⟨nz, hnz⟩ : ∃ nz, nz = decide (z < 0) := ⟨_, rfl⟩
  rw [← hnz] at HX ⊢
  clear hnz
  obtain ⟨N, hN⟩ : ∃ N, N = r * c := ⟨_, rfl⟩
  rw [← hN] at hk e2 e2' HG ⊢
  have hk2 : (row : Int) * (c : Int) + (col : Int) < (N : Int) := by rw [← Int.natCast_mul]; omega
  clear hN HK
  go_enter Tryz.func85, Tryz.ntmps85
  go_wp2_with (go_at_call 144; refine (has_raw _ _ _ _ _ _ _ _).mono ?_; rintro e w' ⟨rfl, rfl⟩; rw [hh])
  go_region
  all_goals
    go_end0
    obtain ⟨S1, S2⟩ := HG.out.stored _ hk HX.out
    rw [Nat.mul_comm 2] at S1 S2
    refine ⟨rfl, ?_, ?_, ?_⟩
    · refine S1.below ?_
      repeat (first | exact Below.refl _ _ | refine Below.drew ?_ | refine Below.alloc ?_ (by simp <;> omega) _)
    · refine grown_set2 (i := (row * c + col) * 2) (j := (row * c + col) * 2 + 1) (a := .bool nz) (b := .slice ao xs.length dcap) ?_
      repeat (first | exact Below.refl _ _ | refine Below.drew ?_ | refine Below.alloc ?_ (by simp <;> omega) _)
    · refine S2.trans (KU.of_below ?_)
      repeat (first | exact Below.refl _ _ | refine Below.drew ?_ | refine Below.alloc ?_ (by simp <;> omega) _)
/-- The matrix at p, o: its sides, its row of entries at g. -/
structure MatO (w : World) (p o g r c : Nat) (zs : List Int) (L : Nat) : Prop where
  hr : r ≤ 99
  hc : c ≤ 99
  tri : Tri w p o (.int .i64 r) (.int .i64 c) (.slice (some ⟨g, 0, none⟩) (r * c) (r * c))
  grid : Grid w (.slice (some ⟨g, 0, none⟩) (r * c) (r * c)) (r * c) zs L
theorem MatO.isM {w : World} {p o g r c L : Nat} {zs : List Int} (h : MatO w p o g r c zs L) : IsM w (.agg #[.int .i64 r, .int .i64 c, .slice (some ⟨g, 0, none⟩) (r * c) (r * c)]) r c zs L := ⟨h.hr, h.hc, _, rfl, h.grid⟩
theorem MatO.later {w w' : World} {p o g r c L : Nat} {zs : List Int} (h : MatO w p o g r c zs L) (hb : Below w.heap.size w w') : MatO w' p o g r c zs L := ⟨h.hr, h.hc, h.tri.later hb, h.grid.below hb⟩
theorem MatO.mono {w : World} {p o g r c L M : Nat} {zs : List Int} (h : MatO w p o g r c zs L) (hLM : L ≤ M) : MatO w p o g r c zs M := by
  refine ⟨h.hr, h.hc, h.tri, ?_⟩
  obtain ⟨h0, cs, h1, h2⟩ := h.grid
  refine ⟨h0, cs, h1, fun i hi => ?_⟩
  obtain ⟨a, b, e1, e2, e3⟩ := h2 i hi
  exact ⟨a, b, e1, e2, e3.mono hLM⟩
theorem MatO.len {w : World} {p o g r c L : Nat} {zs : List Int} (h : MatO w p o g r c zs L) : zs.length = r * c := h.grid.1
theorem MatO.glt {w : World} {p o g r c L : Nat} {zs : List Int} (h : MatO w p o g r c zs L) : g < w.heap.size := h.grid.ty.lt
theorem MatO.plt {w : World} {p o g r c L : Nat} {zs : List Int} (h : MatO w p o g r c zs L) : p < w.heap.size := World.block_lt_of_cell? w _ h.tri.1
/-- An entry is written, of a matrix in its place. -/
theorem set_m (p o g r c row col : Nat) (zs : List Int) (L : Nat) (x : Value) (z : Int) (w : World) (hm : MatO w p o g r c zs L) (hpg : p ≠ g) (hx : IsI w x z L) (h1 : row < r) (h2 : col < c) :
    Calls Tryz.prog 85 #[.pointer (some ⟨p, o, none⟩), .int .i64 row, .int .i64 col, x] w fun e w' => e = .returned (.tuple #[]) ∧ MatO w' p o g r c (zs.set (row * c + col) z) L ∧ w.grownBy w' (some g) ∧ KU w w' := by
  refine (set_o p o g r c (r * c) row col zs L x z w hm.tri hm.grid hx hm.hr hm.hc h1 h2).mono ?_
  rintro e w' ⟨rfl, a, b, d⟩
  exact ⟨rfl, ⟨hm.hr, hm.hc, hm.tri.grown b hpg, a⟩, b, d⟩
/-- The entries, as a function of row and column. -/
def ent (c : Nat) (zs : List Int) (i j : Nat) : Int := zs.getD (i * c + j) 0
theorem ent_set (ms : List Int) (r c : Nat) (hl : ms.length = r * c) (a e i j : Nat) (z : Int) (ha : a < r) (he : e < c) (hj : j < c) : ent c (ms.set (a * c + e) z) i j = if i = a ∧ j = e then z else ent c ms i j := by
  unfold ent
  by_cases h : i = a ∧ j = e
  · obtain ⟨rfl, rfl⟩ := h
    have : i * c + j < ms.length := by rw [hl]; exact idx_lt ha he
    rw [if_pos ⟨rfl, rfl⟩]
    simp [List.getD, this]
  · rw [if_neg h]
    have hne : a * c + e ≠ i * c + j := fun e' => by
      obtain ⟨h1, h2⟩ := idx_inj he hj e'
      exact h ⟨h1.symm, h2.symm⟩
    simp [List.getD, List.getElem?_set_ne hne]
end Go.Proofs.YtmijbimanaalbaaGreatDoor
