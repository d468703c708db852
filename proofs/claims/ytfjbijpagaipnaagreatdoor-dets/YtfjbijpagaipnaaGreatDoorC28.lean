import Derived.Test.YtfjbijpagaipnaaGreatDoorC26
import Derived.Test.YtfjbijpagaipnaaGreatDoorC22
import Derived.Test.YtfjbijpagaipnaaGreatDoorC27
namespace Go.Proofs.YtfjbijpagaipnaaGreatDoor
open Go.RowKit R
theorem R.IsN.tight {w : World} {v : Value} {z : Int} {L : Nat} (h : IsN w v z L) (hz : z.natAbs < 281474976710656) : IsN w v z 4 := by
  obtain ⟨neg, sl, xs, h1, h2, h3, h4, h5, h6⟩ := h
  refine ⟨neg, sl, xs, h1, h2, h3, h4, h5, ?_⟩
  rcases Nat.lt_or_ge 4 xs.length with h7 | h7
  · exfalso
    have h8 := R.Lim_ge h3 (by intro e; rw [e] at h7; simp at h7)
    have h9 : 10000 ^ 4 ≤ 10000 ^ (xs.length - 1) := Nat.pow_le_pow_right (by decide) (by omega)
    have h10 : z.natAbs = R.val xs := by
      cases neg
      · rw [h5]; simp
      · rw [h5]; simp
    omega
  · exact h7
theorem R.IsR.tight {B : Nat} {w : World} {b r c : Nat} {gs : Nat → Nat} {f : Nat → Nat → Int} {L : Nat} (h : IsR B w b r c gs f L) (hf : ∀ i j, i < r → j < c → (f i j).natAbs < 281474976710656) : IsR B w b r c gs f 4 := by
  obtain ⟨h0, v, h1, h2, h3, h4⟩ := h
  refine ⟨h0, v, h1, h2, fun i hi => ⟨(h3 i hi).1, ?_⟩, h4⟩
  obtain ⟨cs, q1, q2, q3⟩ := (h3 i hi).2
  refine ⟨cs, q1, q2, fun j hj => ?_⟩
  obtain ⟨a, b, e1, e2, e3, e4⟩ := q3 j hj
  exact ⟨a, b, e1, e2, e3.tight (hf i j hi hj), e4⟩
theorem fits_fz {r c : Nat} {zs : List Int} (h : FitsP r c zs) : ∀ i j, i < r → j < c → (fz c zs i j).natAbs < 281474976710656 := fun _ _ hi hj => h.2.2 _ (idx_lt hi hj)
theorem nDig_le (k u : Nat) (h : u < 10 ^ (k + 1)) : Lib.nDigits u ≤ k + 1 := by
  induction k generalizing u with
  | zero => rw [Lib.nDigits_small (by simpa using h)]; exact Nat.le_refl _
  | succ k ih =>
    by_cases h1 : u < 10
    · rw [Lib.nDigits_small h1]; omega
    · rw [Lib.nDigits_big h1]
      have := ih (u / 10) (by rw [Nat.pow_succ] at h; omega)
      omega
theorem itoa_lenk (k : Nat) (z : Int) (h : z.natAbs < 10 ^ (k + 1)) : (Lib.itoa z).length ≤ k + 2 := by
  have h1 := nDig_le k z.natAbs h
  unfold Lib.itoa
  by_cases hz : z < 0
  · rw [if_pos hz, List.length_cons, Lib.decDigits_length]; omega
  · rw [if_neg hz, Lib.decDigits_length]
    rw [show z.toNat = z.natAbs from by omega]
    omega
theorem fine_small {r c k : Nat} {zs : List Int} (hr : r ≤ 4) (hc : c ≤ 4) (hl : zs.length = r * c) (hz : ∀ t, t < r * c → (zs.getD t 0).natAbs < 10 ^ (k + 1)) (hk : k ≤ 2000000000) : Fine r c zs := by
  refine ⟨by omega, by omega, hl, ?_⟩
  have hrc : r * c ≤ 16 := Nat.mul_le_mul hr hc
  have hb : ∀ (l : List (List UInt8)) (t : Nat), (∀ x ∈ l, x.length ≤ k + 2) → (bodyT c t l).length ≤ l.length * (k + 4) := by
    intro l
    induction l with
    | nil => intro t _; simp [bodyT]
    | cons a b ih =>
      intro t hx
      have h1 := hx a (by simp)
      have h2 := ih (t + 1) (fun x hx' => hx x (List.mem_cons_of_mem _ hx'))
      rw [bodyT]
      simp only [List.length_append, List.length_cons, Nat.succ_mul]
      split <;> simp <;> omega
  have h1 := hb (zs.map Lib.itoa) 0 (fun x hx => by
    obtain ⟨z, hz', rfl⟩ := List.mem_map.1 hx
    obtain ⟨i, hi, rfl⟩ := List.mem_iff_getElem.1 hz'
    have := hz i (by omega)
    rw [show zs.getD i 0 = zs[i] from by simp [List.getD, List.getElem?_eq_getElem hi]] at this
    exact itoa_lenk k _ this)
  rw [List.length_map, hl] at h1
  have h2 := dec_le2 r (by omega)
  have h3 := dec_le2 c (by omega)
  unfold matT
  simp only [List.length_append, List.length_cons]
  have : r * c * (k + 4) ≤ 16 * (k + 4) := Nat.mul_le_mul_right _ hrc
  omega
theorem fine_prodL {r q c : Nat} {zs ys : List Int} (h1 : FitsP r q zs) (h2 : FitsP q c ys) : Fine r c (prodL r q c zs ys) := by
  refine fine_small (k := 39) h1.1 h2.2.1 (prodL_len _ _ _ _ _) (fun t ht => ?_) (by omega)
  have hc : 0 < c := by
    rcases Nat.eq_zero_or_pos c with h0 | h0
    · subst h0; rw [Nat.mul_zero] at ht; omega
    · exact h0
  have h3 : t / c < r := by rw [Nat.div_lt_iff_lt_mul hc]; exact ht
  have h4 := Nat.mod_lt t hc
  have h5 : t / c * c + t % c = t := by rw [Nat.mul_comm]; exact Nat.div_add_mod t c
  have h6 := prodL_at (q := q) (zs := zs) (ys := ys) h3 h4
  rw [h5] at h6
  rw [h6]
  have h7 := dot_le (f := fun i j => zs.getD (i * q + j) 0) (g := fun i j => ys.getD (i * c + j) 0) (i := t / c) (j := t % c) (A := 281474976710656) q (fun k hk => Nat.le_of_lt (h1.2.2 _ (idx_lt h3 hk))) (fun k hk => Nat.le_of_lt (h2.2.2 _ (idx_lt hk h4)))
  have h8 : q * (281474976710656 * 281474976710656) ≤ 4 * (281474976710656 * 281474976710656) := Nat.mul_le_mul_right _ h2.1
  exact Nat.lt_of_le_of_lt (Nat.le_trans h7 h8) (by decide)
theorem times_case {es : List Ent} {ms : List Hm} {nx : Nat} {g h k e want : Int} {a b : Value} {ms' : List Hm} {nx' : Nat} (hd : Dst ms) (hp : PairL es ms g h a b want) (ht : TimesRel ms nx g h k e ms' nx') :
    ((want = 2 ∨ want = 3 ∨ want = 4) ∧ e = want ∧ k = -1 ∧ ms' = ms ∧ nx' = nx) ∨ (want = 0 ∧ e = 5 ∧ k = -1 ∧ ms' = ms ∧ nx' = nx ∧ ∀ i, i < 24 → ms.getD i none ≠ none) ∨
    (want = 0 ∧ e = 0 ∧ k = (nx : Int) ∧ ∃ e1 e2 i r q zs j c ys n, e1 ∈ es ∧ e2 ∈ es ∧ i < 24 ∧ ms.getD i none = some (e1.1, r, q, zs) ∧ j < 24 ∧ ms.getD j none = some (e2.1, q, c, ys) ∧ FitsP r q zs ∧ FitsP q c ys ∧ a = .pointer (some ⟨e1.2.2, 0, none⟩) ∧ b = .pointer (some ⟨e2.2.2, 0, none⟩) ∧ FreeAt ms n ∧ ms' = ms.set n (some (nx, r, c, prodL r q c zs ys)) ∧ nx' = nx + 1) := by
  rcases hp with ⟨hn, rfl⟩ | ⟨e1, e2, i, r, q, zs, j, q', c, ys, m1, m2, hi, hx, hxg, hj, hy, hyh, hp⟩
  · rcases ht with ⟨-, rfl, rfl, rfl, rfl⟩ | ⟨i, hd1, r, q, zs, j, hd2, q', c, ys, hi, hx, hxg, hj, hy, hyh, -⟩
    · exact .inl ⟨.inl rfl, rfl, rfl, rfl, rfl⟩
    · rcases hn with hn | hn
      · exact absurd hxg (hn i hi _ hx)
      · exact absurd hyh (hn j hj _ hy)
  · rcases ht with ⟨hn, -⟩ | ⟨i2, hd1, r2, q2, zs2, j2, hd2, q2', c2, ys2, hi2, hx2, hxg2, hj2, hy2, hyh2, ht⟩
    · rcases hn with hn | hn
      · exact absurd hxg (hn i hi _ hx)
      · exact absurd hyh (hn j hj _ hy)
    · have e5 : i = i2 := hd i i2 _ _ hi hi2 hx hx2 (by show e1.1 = hd1; omega)
      have e6 : j = j2 := hd j j2 _ _ hj hj2 hy hy2 (by show e2.1 = hd2; omega)
      subst e5; subst e6
      rw [hx] at hx2
      rw [hy] at hy2
      simp only [Option.some.injEq, Prod.mk.injEq] at hx2 hy2
      obtain ⟨rfl, rfl, rfl, rfl⟩ := hx2
      obtain ⟨rfl, rfl, rfl, rfl⟩ := hy2
      rcases hp with ⟨p1, rfl⟩ | ⟨p1, p2, rfl⟩ | ⟨p1, p2, rfl, rfl, rfl⟩
      · rcases ht with ⟨-, rfl, rfl, rfl, rfl⟩ | ⟨t1, _⟩ | ⟨t1, _⟩ | ⟨t1, _⟩
        · exact .inl ⟨.inr (.inl rfl), rfl, rfl, rfl, rfl⟩
        · exact absurd t1 p1
        · exact absurd t1 p1
        · exact absurd t1 p1
      · rcases ht with ⟨t1, _⟩ | ⟨-, -, rfl, rfl, rfl, rfl⟩ | ⟨-, t2, _⟩ | ⟨-, t2, _⟩
        · exact absurd p1 t1
        · exact .inl ⟨.inr (.inr rfl), rfl, rfl, rfl, rfl⟩
        · exact absurd t2 p2
        · exact absurd t2 p2
      · rcases ht with ⟨t1, _⟩ | ⟨-, t2, _⟩ | ⟨-, -, t3, rfl, rfl, rfl, rfl⟩ | ⟨-, -, rfl, rfl, n, t3, rfl, rfl⟩
        · exact absurd p1 t1
        · exact absurd p2 t2
        · exact .inr (.inl ⟨rfl, rfl, rfl, rfl, rfl, t3⟩)
        · subst p1
          exact .inr (.inr ⟨rfl, rfl, rfl, e1, e2, i, r, q, zs, j, c, ys, n, m1, m2, hi, hx, hj, hy, p2.1, p2.2, rfl, rfl, t3, rfl, rfl⟩)
set_option maxRecDepth 100000 in
set_option maxHeartbeats 4000000 in
theorem times_any (B W T b1 b2 : Nat) (ms : List Hm) (nx : Nat) (es : List Ent) (g h : Int) (w : World) (hI : LInv B w W T b1 b2 ms nx es) (hnx : nx < 1000000) :
    Calls Tryz.prog 71 #[.pointer (some ⟨W, 0, none⟩), .int .i64 g, .int .i64 h] w fun x w' => x = .returned (.bool true) ∧ StepOut B w w' W T b1 b2 nx := by
  have hB := hI.size
  have hle := hI.le24
  have H := Hid.mk hI
  clear hI
  go_enter Tryz.func71, Tryz.ntmps71
  go_wp2_with fail
  refine (pair_times B W T b1 b2 ms nx es g h _ H.out).mono ?_
  rintro x w1 ⟨⟨a, b, want, rfl, hp⟩, hb1⟩
  have hI1 := H.out.below hb1
  obtain ⟨ioa, icap, loa, lcap, tv, c0, -⟩ := hI1.lcells
  have K1 := Hid.mk (And.intro hp (And.intro hb1 hI1))
  have hw1 := hb1.size
  clear hp hb1 hI1
  go_wp2_with fail
  refine (twTimes_any B T b1 b2 g h ms nx _ K1.out.2.2.1 H.out.2.2.dst hnx).mono ?_
  rintro x w2 ⟨k, e, ms', nx', rfl, hrel, hT2, hC2⟩
  have hcase := times_case H.out.2.2.dst K1.out.1 hrel
  have hbel2 : Below B w w2 := (K1.out.2.1.mono hB).trans (hC2.below (St2.le H.out.1.2.2.2.2.2.2.1 H.out.1.2.2.2.2.2.2.2) (by omega))
  have hrows := K1.out.2.2.stores hC2
  obtain ⟨hv1, iv1, lv1, tv1, hL1, hI1, hP1, hX1, hS1, hM1, ls1, hH1, hHB1⟩ := id hrows
  have KH := Hid.mk (And.intro hH1 hHB1)
  clear hH1 hHB1
  have hw2 := hbel2.size
  have K2 := Hid.mk (And.intro hT2 (And.intro hrows (And.intro hbel2 (And.intro hcase (And.intro hL1 (And.intro hI1 (And.intro hP1 (And.intro hX1 (And.intro hS1 hM1)))))))))
  clear hrel hT2 hC2 hcase hbel2 hrows hL1 hI1 hP1 hX1 hS1 hM1 c0
  go_wp2_with fail
  refine (full_raw W T nx 1 _ _ _ _ es _ (by omega) K2.out.2.2.2.2.1 K2.out.2.2.2.2.2.1 hle).mono ?_
  rintro x w' ⟨rfl, rfl⟩
  have hnum := H.out.2.2.num
  have hcf := cnt_full H.out.2.2.len
  have HCF := Hid.mk (And.intro hnum hcf)
  clear hnum hcf
  rcases K2.out.2.2.2.1 with ⟨hz, rfl, rfl, rfl, rfl⟩ | ⟨rfl, rfl, rfl, rfl, rfl, hful⟩ | ⟨rfl, rfl, rfl, e1, e2, i, r, q, zs, j, c, ys, n, m1, m2, hi, hx, hj, hy, f1, f2, rfl, rfl, hn, hms, hnx'⟩
  · have HF : Hid (StepOut B w w' W T b1 b2 nx') := Hid.mk ⟨⟨ms', nx', es, ⟨K2.out.1, K2.out.2.1, H.out.2.2⟩, by omega⟩, K2.out.2.2.1⟩
    rcases hz with rfl | rfl | rfl
    · go_wp2_with fail
      go_ret
      exact ⟨rfl, HF.out⟩
    · go_wp2_with fail
      go_ret
      exact ⟨rfl, HF.out⟩
    · go_wp2_with fail
      go_ret
      exact ⟨rfl, HF.out⟩
  · have HF : Hid (StepOut B w w' W T b1 b2 nx') := Hid.mk ⟨⟨ms', nx', es, ⟨K2.out.1, K2.out.2.1, H.out.2.2⟩, by omega⟩, K2.out.2.2.1⟩
    have hfl : decide (24 < es.length + 1) = true := decide_eq_true (by have h1 := HCF.out.1; have h2 := HCF.out.2.2 hful; omega)
    rw [hfl]
    clear hful hfl
    go_wp2_with fail
    go_ret
    exact ⟨rfl, HF.out⟩
  · have hne24 : es.length ≠ 24 := fun h => absurd hn.2.1 ((HCF.out.2.1 (by rw [← HCF.out.1]; exact h)) n hn.1)
    have hfl : decide (24 < es.length + 1) = false := decide_eq_false (by omega)
    rw [hfl]
    have HD := Hid.mk (And.intro m1 (And.intro m2 (And.intro hi (And.intro hx (And.intro hj (And.intro hy (And.intro f1 (And.intro f2 (And.intro hn (And.intro hms hnx'))))))))))
    obtain ⟨p1, hp1⟩ : ∃ p1, p1 = e1.2.2 := ⟨_, rfl⟩
    obtain ⟨p2, hp2⟩ : ∃ p2, p2 = e2.2.2 := ⟨_, rfl⟩
    have HPP := Hid.mk (And.intro hp1 hp2)
    rw [← hp1, ← hp2]
    clear m1 m2 hi hx hj hy f1 f2 hn hms hnx' hfl hp1 hp2
    go_wp2_with fail
    obtain ⟨Y, hY⟩ : ∃ Y, Y = w'.alloc (.cells #[.int .i64 (nx : Nat)] 3) := ⟨_, rfl⟩
    have hbX : Below w'.heap.size w' Y := by rw [hY]; exact (Below.refl _ _).alloc (Nat.le_refl _) _
    have hsX : Y.heap.size = w'.heap.size + 1 := by rw [hY]; simp
    have hgY : Y.heap[w'.heap.size]? = some (.cells #[.int .i64 (nx : Nat)] 3 (0, 0)) := by rw [hY]; exact heap_alloc_new w' _
    rw [← hY]
    clear hY
    have hHD := HD.out
    obtain ⟨m1, m2, hi, hx, hj, hy, f1, f2, hn, hms, hnx'⟩ := hHD
    have hTX : TwH B Y T b1 b2 (ms.set n (some (nx, r, c, prodL r q c zs ys))) (nx + 1) := by
      have := K2.out.1.below hbX
      rw [hms, hnx'] at this
      exact this
    have hfine := fine_prodL f1 f2
    have hmi : (ms.set n (some (nx, r, c, prodL r q c zs ys))).getD n none = some (nx, r, c, prodL r q c zs ys) := by rw [hm_set (by rw [H.out.2.2.len]; exact hn.1), if_pos rfl]
    have hpush := H.out.2.2.push hn r c (prodL r q c zs ys)
    obtain ⟨-, -, -, -, kL, kI, kP, kX, kS, kM⟩ := K2.out
    have hlt : ∀ k, S4 W iv1 lv1 tv1 k → k < w'.heap.size := fun k hk => by
      rcases hk with hk | hk | hk | hk
      · rw [hk]; exact kL.lt
      · exact (kI.own k hk).1
      · exact (kP.own k hk).1
      · exact (kX.own k hk).1
    have hLX := kL.of_block (hbX.block W kL.lt)
    have hIX := kI.below hbX
    have hPX := kP.below hbX
    have hXX := kX.below hbX
    refine (held_one B W T b1 b2 w'.heap.size n r c nx (nx + 1) iv1 lv1 tv1 (ms.set n (some (nx, r, c, prodL r q c zs ys))) es (prodL r q c zs ys) _ hTX hLX hIX hPX hXX kS (by omega) hn.1 hmi (hpush 0).dst hfine hle hgY (fun e => by have := hlt _ e; omega)).mono ?_
    rintro x w5 ⟨ov, rfl, p', iv', lv', tv', og, ocap, rfl, o1, o2, ocell, hL5, hI5, hP5, hX5, ow, hmat, hC5⟩
    obtain ⟨lo5, hi5, -, hmt, -⟩ := id hmat
    obtain ⟨gs', hIR5⟩ := hmt.isR
    obtain ⟨hinv, hbB⟩ := held_inv hTX hLX hIX hPX hXX kS (kM.below hbX) (KH.out.1.below hbX) KH.out.2 H.out.2.2 hn hfine (by rw [hsX]; omega) hL5 hI5 hP5 hX5 ow hmat hC5
    have hB5 : Below B w w5 := K2.out.2.2.1.trans ((hbX.mono (by omega)).trans hbB)
    have hin : ∀ t x, ms.getD t none = some x → (ms.set n (some (nx, r, c, prodL r q c zs ys))).getD t none = some x := fun t x ht => by
      rw [hm_set (by rw [H.out.2.2.len]; exact hn.1), if_neg (fun e => by rw [e, hn.2.1] at ht; cases ht)]
      exact ht
    obtain ⟨-, -, lo1, hi1, hm1⟩ := hinv.entry (List.mem_append.2 (.inl m1)) hi (hin i _ hx) rfl
    obtain ⟨-, -, lo2, hi2, hm2⟩ := hinv.entry (List.mem_append.2 (.inl m2)) hj (hin j _ hy) rfl
    obtain ⟨gs1, hR1⟩ := hm1.isR
    obtain ⟨gs2, hR2⟩ := hm2.isR
    rw [← HPP.out.1] at hR1
    rw [← HPP.out.2] at hR2
    have K5 := Hid.mk (And.intro hIR5 (And.intro (hR1.tight (fits_fz f1)) (And.intro (hR2.tight (fits_fz f2)) (And.intro hinv hB5))))
    have hr4 := f1.1
    have hq4 := f1.2.1
    have hc4 := f2.2.1
    have hw5 := hB5.size
    clear hL5 hI5 hP5 hX5 ow hIR5 hC5 hinv hB5 hbB hmat hmt hmi hbX hTX hpush hsX hLX hIX hPX hXX kL kI kP kX kS kM hlt hfine hin hm1 hm2 hR1 hR2 m1 m2 hi hx hj hy f1 f2 hn hms hnx' hgY
    have hnil := nil_cmp ⟨og, 0, none⟩ 1 ocap
    go_wp2_with fail
    refine (mtimes_any 4 4 p1 r q gs1 (fz q zs) lo1 p2 c gs2 (fz c ys) lo2 _ K5.out.2.1 K5.out.2.2.1 (by omega) (by omega) (by omega) (by omega)).mono ?_
    rintro x w6 ⟨rfl, ⟨go, hIp⟩, hb6⟩
    have oc6 := cell_later hb6 ocell
    have K6 := Hid.mk (And.intro (hIp.mono (show 20 ≤ 40000000001 by omega)) (And.intro (K5.out.1.keep (KR.of_below hb6)) hb6))
    clear hIp hb6 ocell
    go_wp2_with fail
    try go_quiet (fail)
    try go_wp2_with fail
    refine (same_yes w5.heap.size r c go _ 0 p' gs' _ lo5 40000000001 _ K6.out.1 K6.out.2.1 (fun i j hi hj => (prodL_at hi hj).symm) (by omega) (by omega) (by omega)).mono ?_
    rintro x w7 ⟨rfl, hb7⟩
    have hb57 : Below w5.heap.size w5 w7 := K6.out.2.2.trans (hb7.mono K6.out.2.2.size)
    have HF : Hid (StepOut B w w7 W T b1 b2 nx) := Hid.mk ⟨⟨_, _, _, K5.out.2.2.2.1.below hb57, by omega⟩, K5.out.2.2.2.2.trans (hb57.mono (by omega))⟩
    clear hb7 hb57
    go_wp2_with fail
    go_ret
    exact ⟨rfl, HF.out⟩
end Go.Proofs.YtfjbijpagaipnaaGreatDoor
