import Derived.Test.YtmijbimanaalbaaGreatDoorC26
import Derived.Test.YtmijbimanaalbaaGreatDoorC30
import Derived.Deep.RegionHeld3
/- matriceslaw: twin.Times, World.find. -/
namespace Go.Proofs.YtmijbimanaalbaaGreatDoor
open Go.RowKit R

set_option maxRecDepth 100000 in
set_option maxHeartbeats 1000000 in
theorem twTimes_any (B T b1 b2 : Nat) (g h : Int) (ms : List Hm) (nx : Nat) (w : World) (hst : TwH B w T b1 b2 ms nx) (hd : Dst ms) (hnx : nx < 1000000) :
    Calls Tryz.prog 134 #[.pointer (some ⟨T, 0, none⟩), .int .i64 g, .int .i64 h] w fun x w' => ∃ k e ms' nx', x = .returned (.tuple #[.int .i64 k, .int .i64 e]) ∧ TimesRel ms nx g h k e ms' nx' ∧ TwH B w' T b1 b2 ms' nx' ∧ Chg (St2 b1 b2) w w' := by
  obtain ⟨c0, c1, c2, -⟩ := hst.1.cells
  have H := Hid.mk (And.intro hst hd)
  clear hst hd
  go_enter Tryz.func134, Tryz.ntmps134
  go_wp2_with fail
  refine (times_one b1 g h ms nx _ H.out.1.2.1 hnx).mono ?_
  rintro x w1 ⟨k, e, ms', nx', rfl, hrel, hH1, hF1⟩
  have hne1 : T ≠ b1 := H.out.1.1.ne H.out.1.2.1.ty
  have hT1 : Tw w1 T b1 b2 false := H.out.1.1.of_block (hF1.1.block T H.out.1.1.lt (by simpa using hne1))
  have hH2 : Held w1 b2 ms nx := H.out.1.2.2.1.fr hF1 (Ne.symm H.out.1.2.2.2.1)
  clear c0 c1 c2
  obtain ⟨c0, c1, c2, -⟩ := hT1.cells
  have K1 := Hid.mk (And.intro hH1 (And.intro hF1 (And.intro hT1 (And.intro hH2 hrel))))
  clear hH1 hF1 hT1 hH2 hrel
  go_wp2_with fail
  refine (times_one b2 g h ms nx _ K1.out.2.2.2.1 hnx).mono ?_
  rintro x w2 ⟨k2, e2, ms2, nx2, rfl, hrel2, hH3, hF2⟩
  obtain ⟨rfl, rfl, rfl, rfl⟩ := TimesRel.uniq H.out.2 K1.out.2.2.2.2 hrel2
  have hne2 : T ≠ b2 := K1.out.2.2.1.ne K1.out.2.2.2.1.ty
  have hT2 : Tw w2 T b1 b2 false := K1.out.2.2.1.of_block (hF2.1.block T K1.out.2.2.1.lt (by simpa using hne2))
  have hH1' : Held w2 b1 ms' nx' := K1.out.1.fr hF2 H.out.1.2.2.2.1
  have K2 := Hid.mk (And.intro hH3 (And.intro hF2 (And.intro hT2 hH1')))
  clear hH3 hF2 hT2 hH1' c0 c1 c2 hrel2
  go_wp2_with fail
  refine (one_same T k e _).mono ?_
  rintro x w' ⟨rfl, rfl⟩
  go_wp2_with fail
  go_ret2
  obtain ⟨hTw, -, -, hbb, htab, hB1, hB2, hB3⟩ := H.out.1
  have hbel1 : Below B w w1 := K1.out.2.1.belowB hB2 (by have := hTw.lt; omega)
  have hbel2 : Below B w1 w' := K2.out.2.1.belowB hB3 (by have := hbel1.size; have := hTw.lt; omega)
  exact ⟨k, e, ms', nx', rfl, K1.out.2.2.2.2, ⟨K2.out.2.2.1, K2.out.2.2.2, K2.out.1, hbb, (htab.below hbel1).below hbel2, hB1, hB2, hB3⟩, (Chg.of_fr K1.out.2.1 (.inl rfl)).trans (Chg.of_fr K2.out.2.1 (.inr rfl))⟩
/-- What the law's find hands back. -/
def FindL (es : List Ent) (h : Int) (v : Value) : Prop := (v = .pointer none ∧ ∀ e ∈ es, ((e.1 : Nat) : Int) ≠ h) ∨ ∃ e ∈ es, ((e.1 : Nat) : Int) = h ∧ v = .pointer (some ⟨e.2.2, 0, none⟩)
theorem LInv.lcells {B : Nat} {w : World} {W T b1 b2 : Nat} {ms : List Hm} {nx : Nat} {es : List Ent} (h : LInv B w W T b1 b2 ms nx es) : ∃ ioa icap loa lcap tv, w.cell? ⟨W, 0, none⟩ = some (.pointer (some ⟨T, 0, none⟩)) ∧ w.cell? ⟨W, 1, none⟩ = some (.slice ioa es.length icap) ∧ w.cell? ⟨W, 2, none⟩ = some (.slice loa es.length lcap) ∧ w.cell? ⟨W, 3, none⟩ = some tv ∧
    es.length ≤ icap ∧ icap ≤ 9223372036854775807 ∧ es.length ≤ lcap ∧ lcap ≤ 9223372036854775807 ∧ (∀ i (hi : i < es.length), (∃ g, ioa = some ⟨g, 0, none⟩ ∧ w.cell? ⟨g, i, none⟩ = some (.int .i64 ((es[i].1 : Nat) : Int))) ∧ (∃ g, loa = some ⟨g, 0, none⟩ ∧ w.cell? ⟨g, i, none⟩ = some (.pointer (some ⟨es[i].2.2, 0, none⟩)))) := by
  obtain ⟨-, ⟨iv, lv, tv, h2, h3, h4, h5, -⟩, -⟩ := h
  obtain ⟨ioa, icap, rfl, a1, a2, -, a3⟩ := h3.shape
  obtain ⟨loa, lcap, rfl, d1, d2, -, d3⟩ := h4.shape
  rw [idc_len] at a1 a3 h2
  rw [lpc_len] at d1 d3 h2
  obtain ⟨c0, c1, c2, c3, c4, c5, -⟩ := h2.cells
  refine ⟨ioa, icap, loa, lcap, tv, c0, c1, c2, c3, a1, a2, d1, d2, fun i hi => ⟨?_, ?_⟩⟩
  · obtain ⟨g, e1, e2⟩ := a3 i hi
    exact ⟨g, e1, by rw [e2, idc_at es i hi]⟩
  · obtain ⟨g, e1, e2⟩ := d3 i hi
    exact ⟨g, e1, by rw [e2]; simp [lpc, hi]⟩
set_option maxRecDepth 100000 in
set_option maxHeartbeats 2000000 in
theorem lfind_any (B W T b1 b2 : Nat) (ms : List Hm) (nx : Nat) (es : List Ent) (h : Int) (w : World) (hI : LInv B w W T b1 b2 ms nx es) :
    Calls Tryz.prog 166 #[.pointer (some ⟨W, 0, none⟩), .int .i64 h] w fun x w' => (∃ v, x = .returned v ∧ FindL es h v) ∧ Below w.heap.size w w' := by
  have hle := hI.le24
  obtain ⟨ioa, icap, loa, lcap, tv, c0, c1, c2, c3, a1, a2, d1, d2, a3⟩ := hI.lcells
  have HA := Hid.mk a3
  clear hI a3
  go_enter Tryz.func166, Tryz.ntmps166
  go_wp2_with fail
  go_loopw [5] (fun i wr => ∃ k : Nat, k ≤ es.length ∧ i = .int .i64 k ∧ Below w.heap.size w wr ∧ Hid (∀ i (hi : i < es.length), i < k → ((es[i].1 : Nat) : Int) ≠ h)) (fun i _ => es.length - (intOf i).toNat)
  case atStart => exact ⟨0, Nat.zero_le _, rfl, Below.refl _ _, Hid.mk (fun i _ hi => by omega)⟩
  case round =>
    obtain ⟨k, hk, rfl, hbel, HI⟩ := hrel
    have e1 := cell_later hbel c1
    have e2 := cell_later hbel c2
    have hwr := hbel.size
    have K := Hid.mk hbel
    clear hbel
    by_cases hkl : k < es.length
    · obtain ⟨⟨gi, rfl, f1⟩, ⟨gl, rfl, f2⟩⟩ := HA.out k hkl
      obtain ⟨hd, hhd⟩ : ∃ hd, hd = es[k].1 := ⟨_, rfl⟩
      obtain ⟨pp, hpp⟩ : ∃ pp, pp = es[k].2.2 := ⟨_, rfl⟩
      rw [← hhd] at f1
      rw [← hpp] at f2
      have f1' := cell_later K.out f1
      have f2' := cell_later K.out f2
      have HD := Hid.mk (And.intro hhd hpp)
      have hki : (k : Int) < (es.length : Int) := by omega
      clear hhd hpp f1 f2
      by_cases hdh : (hd : Int) = h
      · have hb : ((hd : Int) == h) = true := beq_iff_eq.2 hdh
        have HDH := Hid.mk hdh
        clear hdh
        go_wp2_with fail
        try go_quiet (fail)
        try go_wp2_with fail
        go_ret
        refine ⟨⟨_, rfl, .inr ⟨es[k], List.getElem_mem hkl, ?_, ?_⟩⟩, ?_⟩
        · rw [← HD.out.1]; exact HDH.out
        · rw [← HD.out.2]; rfl
        · first | exact K.out | exact below_drewN K.out _
      · have hb : ((hd : Int) == h) = false := beq_eq_false_iff_ne.2 hdh
        have HDH := Hid.mk hdh
        clear hdh
        go_wp2_with fail
        try go_quiet (fail)
        try go_wp2_with fail
        go_roundw
        case measure => simp [intOf]; omega
        case rel =>
          refine ⟨k + 1, by omega, by go_num, by first | exact K.out | exact below_drewN K.out _, Hid.mk (fun i hi hik => ?_)⟩
          by_cases hik' : i = k
          · subst hik'
            rw [← HD.out.1]; exact HDH.out
          · exact HI.out i hi (by omega)
    · go_wp2_with fail
      try go_quiet (fail)
      try go_wp2_with fail
      go_ret
      refine ⟨⟨_, rfl, .inl ⟨rfl, fun e he => ?_⟩⟩, by first | exact K.out | exact below_drewN K.out _⟩
      obtain ⟨i, hi, rfl⟩ := List.mem_iff_getElem.1 he
      exact HI.out i hi (by omega)
/-- One text, one matrix. -/
theorem fine_eq {r c r' c' : Nat} {zs zs' : List Int} (h : Fine r c zs) (h' : Fine r' c' zs') (he : matT r c zs = matT r' c' zs') : r = r' ∧ c = c' ∧ zs = zs' := by
  obtain ⟨rfl, rfl, hz⟩ := fine_uniq h h' he
  refine ⟨rfl, rfl, List.ext_getElem (by rw [h.2.2.1, h'.2.2.1]) (fun t h1 h2 => ?_)⟩
  have ht : t < r * c := by have := h.2.2.1; omega
  have hc : 0 < c := by
    rcases Nat.eq_zero_or_pos c with h0 | h0
    · subst h0; rw [Nat.mul_zero] at ht; omega
    · exact h0
  have h3 : t / c < r := by rw [Nat.div_lt_iff_lt_mul hc]; exact ht
  have h4 := Nat.mod_lt t hc
  have h5 : t / c * c + t % c = t := by rw [Nat.mul_comm]; exact Nat.div_add_mod t c
  have h6 := hz (t / c) (t % c) h3 h4
  unfold fz at h6
  rw [h5] at h6
  simpa [List.getD, List.getElem?_eq_getElem h1, List.getElem?_eq_getElem h2] using h6
theorem held_side {w : World} {b : Nat} {ms : List Hm} {nx k hd r c : Nat} {zs : List Int} (h : Held w b ms nx) (hk : k < 24) (hx : ms.getD k none = some (hd, r, c, zs)) : r ≤ 99 ∧ c ≤ 99 ∧ zs.length = r * c := by
  obtain ⟨-, -, sl, -, hsl⟩ := h
  have h1 := hsl k hk
  rw [hx] at h1
  cases hs : sl.getD k none with
  | none => rw [hs] at h1; exact h1.elim
  | some y =>
    rw [hs] at h1
    obtain ⟨-, -, -, h2, h3, s, -, h4⟩ := h1
    exact ⟨h2, h3, h4.1⟩
/-- What the law has of a handle is what the stores have. -/
theorem LInv.entry {B : Nat} {w : World} {W T b1 b2 : Nat} {ms : List Hm} {nx : Nat} {es : List Ent} (h : LInv B w W T b1 b2 ms nx es) {e : Ent} (he : e ∈ es) {k hd r c : Nat} {zs : List Int} (hk : k < 24) (hx : ms.getD k none = some (hd, r, c, zs)) (hh : e.1 = hd) : e.2.1 = matT r c zs ∧ Fine r c zs ∧ ∃ lo hi, MatAt w lo hi e.2.2 r c (fz c zs) := by
  obtain ⟨hT, ⟨iv, lv, tv, -, -, -, -, -, hM⟩, hR⟩ := h
  obtain ⟨r1, c1, zs1, lo, hi, h1, h2, h3, -⟩ := hM e he
  obtain ⟨k2, x, hk2, hx2, h4, h5⟩ := hR.has e he
  have hkk : k2 = k := hR.dst k2 k x _ hk2 hk hx2 hx (by rw [h4, hh])
  subst hkk
  rw [hx] at hx2
  injection hx2 with hx2
  subst hx2
  obtain ⟨s1, s2, s3⟩ := held_side hT.2.1 hk hx
  have hf : Fine r c zs := ⟨s1, s2, s3, by rw [← h5, h1]; exact h2.2.2.2⟩
  obtain ⟨rfl, rfl, rfl⟩ := fine_eq h2 hf (by rw [← h1, h5])
  exact ⟨h5, hf, lo, hi, h3⟩
theorem LInv.ent_of {B : Nat} {w : World} {W T b1 b2 : Nat} {ms : List Hm} {nx : Nat} {es : List Ent} (h : LInv B w W T b1 b2 ms nx es) {e : Ent} (he : e ∈ es) : ∃ k r c zs, k < 24 ∧ ms.getD k none = some (e.1, r, c, zs) := by
  obtain ⟨k, x, hk, hx, h4, -⟩ := h.2.2.has e he
  obtain ⟨hd, r, c, zs⟩ := x
  simp only at h4
  subst h4
  exact ⟨k, r, c, zs, hk, hx⟩
end Go.Proofs.YtmijbimanaalbaaGreatDoor

/- matriceslaw.World: pair, for products. -/
namespace Go.Proofs.YtmijbimanaalbaaGreatDoor
open Go.RowKit R

/-- What pair says of two handles. -/
def PairL (es : List Ent) (ms : List Hm) (g h : Int) (a b : Value) (want : Int) : Prop :=
  (((∀ i, i < 24 → ∀ x, ms.getD i none = some x → (x.1 : Int) ≠ g) ∨ (∀ i, i < 24 → ∀ x, ms.getD i none = some x → (x.1 : Int) ≠ h)) ∧ want = 2) ∨
  ∃ e1 e2 i r q zs j q' c ys, e1 ∈ es ∧ e2 ∈ es ∧ i < 24 ∧ ms.getD i none = some (e1.1, r, q, zs) ∧ ((e1.1 : Nat) : Int) = g ∧ j < 24 ∧ ms.getD j none = some (e2.1, q', c, ys) ∧ ((e2.1 : Nat) : Int) = h ∧
    ((q ≠ q' ∧ want = 3) ∨ (q = q' ∧ ¬ (FitsP r q zs ∧ FitsP q' c ys) ∧ want = 4) ∨ (q = q' ∧ (FitsP r q zs ∧ FitsP q' c ys) ∧ want = 0 ∧ a = .pointer (some ⟨e1.2.2, 0, none⟩) ∧ b = .pointer (some ⟨e2.2.2, 0, none⟩)))
theorem FindL.none {B : Nat} {w : World} {W T b1 b2 : Nat} {ms : List Hm} {nx : Nat} {es : List Ent} (h : LInv B w W T b1 b2 ms nx es) {g : Int} (hn : ∀ e ∈ es, ((e.1 : Nat) : Int) ≠ g) : ∀ i, i < 24 → ∀ x, ms.getD i none = some x → (x.1 : Int) ≠ g := by
  intro i hi x hx he
  obtain ⟨e, hm, h1⟩ := h.2.2.all i x hi hx
  exact hn e hm (by rw [h1]; exact he)
set_option maxRecDepth 100000 in
set_option maxHeartbeats 4000000 in
theorem pair_times (B W T b1 b2 : Nat) (ms : List Hm) (nx : Nat) (es : List Ent) (g h : Int) (w : World) (hI : LInv B w W T b1 b2 ms nx es) :
    Calls Tryz.prog 122 #[.pointer (some ⟨W, 0, none⟩), .int .i64 g, .int .i64 h, .int .i64 14] w fun x w' => (∃ a b want, x = .returned (.tuple #[a, b, .int .i64 want]) ∧ PairL es ms g h a b want) ∧ Below w.heap.size w w' := by
  have H := Hid.mk hI
  clear hI
  go_enter Tryz.func122, Tryz.ntmps122
  go_wp2_with fail
  refine (lfind_any B W T b1 b2 ms nx es g _ H.out).mono ?_
  rintro x w1 ⟨⟨v, rfl, hv⟩, hb1⟩
  have K1 := Hid.mk (And.intro hv hb1)
  have hw1 := hb1.size
  clear hv hb1
  obtain ⟨pv, rfl⟩ : ∃ pv, v = .pointer pv := by
    rcases K1.out.1 with ⟨rfl, -⟩ | ⟨e, -, -, rfl⟩ <;> exact ⟨_, rfl⟩
  go_wp2_with fail
  refine (lfind_any B W T b1 b2 ms nx es h _ (H.out.below K1.out.2)).mono ?_
  rintro x w2 ⟨⟨u, rfl, hu⟩, hb2⟩
  have hb02 : Below w.heap.size w w2 := K1.out.2.trans (hb2.mono hw1)
  obtain ⟨pu, rfl⟩ : ∃ pu, u = .pointer pu := by
    rcases hu with ⟨rfl, -⟩ | ⟨e, -, -, rfl⟩ <;> exact ⟨_, rfl⟩
  have K2 := Hid.mk (And.intro hu hb02)
  have hw2 := hb02.size
  clear hu hb2 hb02
  rcases K1.out.1 with ⟨hvn, hno⟩ | ⟨e1, he1, hg1, hve⟩
  · injection hvn with hvn
    subst hvn
    have KN := Hid.mk hno
    clear hno
    go_wp2_with fail
    go_ret3
    exact ⟨⟨_, _, _, rfl, .inl ⟨.inl (FindL.none H.out KN.out), rfl⟩⟩, K2.out.2⟩
  · injection hve with hve
    subst hve
    rcases K2.out.1 with ⟨hvn, hno⟩ | ⟨e2, he2, hg2, hve⟩
    · injection hvn with hvn
      subst hvn
      have KN := Hid.mk hno
      clear hno
      go_wp2_with fail
      go_ret3
      exact ⟨⟨_, _, _, rfl, .inl ⟨.inr (FindL.none H.out KN.out), rfl⟩⟩, K2.out.2⟩
    · injection hve with hve
      subst hve
      obtain ⟨i, r, q, zs, hi, hx⟩ := H.out.ent_of he1
      obtain ⟨j, q', c, ys, hj, hy⟩ := H.out.ent_of he2
      obtain ⟨-, hf1, lo1, hi1, hm1⟩ := (H.out.below K2.out.2).entry he1 hi hx rfl
      obtain ⟨-, hf2, lo2, hi2, hm2⟩ := (H.out.below K2.out.2).entry he2 hj hy rfl
      obtain ⟨gs1, hI1⟩ := hm1.isR
      obtain ⟨gs2, hI2⟩ := hm2.isR
      obtain ⟨p1, hp1⟩ : ∃ p1, p1 = e1.2.2 := ⟨_, rfl⟩
      obtain ⟨p2, hp2⟩ : ∃ p2, p2 = e2.2.2 := ⟨_, rfl⟩
      rw [← hp1] at hI1 ⊢
      rw [← hp2] at hI2 ⊢
      have HE := Hid.mk (And.intro (And.intro he1 (And.intro hg1 (And.intro hi (And.intro hx (And.intro hf1 (And.intro hI1 hp1)))))) (And.intro he2 (And.intro hg2 (And.intro hj (And.intro hy (And.intro hf2 (And.intro hI2 hp2)))))))
      obtain ⟨-, ao1, cap1, c0, c1, -⟩ := hI1.open_
      obtain ⟨-, ao2, cap2, d0, d1, -⟩ := hI2.open_
      clear he1 hg1 hi hx hf1 hI1 hp1 he2 hg2 hj hy hf2 hI2 hp2 hm1 hm2
      obtain ⟨qq, hqq⟩ : ∃ qq, qq = ((q : Int) == (q' : Int)) := ⟨_, rfl⟩
      have HQ := Hid.mk hqq
      go_upto_region 5 with fail
      go_cut [13] from 28 to 37 (fun x wx => (∃ bb, x = .bool bb) ∧ Below w2.heap.size w2 wx)
      case first =>
        go_quiet (fail)
        all_goals
          go_wp2_with fail
          go_meet
          case rel => exact ⟨⟨_, rfl⟩, below_drewN (Below.refl _ _) _⟩
      case rest =>
        obtain ⟨⟨bb, rfl⟩, hb3⟩ := hcut
        have c1' := cell_later hb3 c1
        have d0' := cell_later hb3 d0
        have K3 := Hid.mk hb3
        have hw3 := hb3.size
        clear hb3 c0 c1 d0 d1
        by_cases hqe : q = q'
        · have HQE := Hid.mk hqe
          have iq : ((q : Int) == (q' : Int)) = true := beq_iff_eq.2 (by omega)
          clear hqe hqq
          go_wp2_with fail
          go_quiet (fail)
          go_wp2_with fail
          refine (big_any p1 r q gs1 (fz q zs) lo1 19001 _ (HE.out.1.2.2.2.2.2.1.keep (KR.of_below (below_drewN K3.out _))) (by omega) HE.out.1.2.2.2.2.1.1 HE.out.1.2.2.2.2.1.2.1).mono ?_
          rintro x w5 ⟨bx, rfl, hbx, hb5⟩
          have hb25 : Below w2.heap.size w2 w5 := (below_drewN K3.out _).trans (hb5.mono (below_drewN K3.out _).size)
          have K5 := Hid.mk (And.intro hb25 (And.intro (show bx = true ↔ ¬ FitsP r q zs from by rw [← big_fits]; exact hbx) (K2.out.2.trans (hb25.mono hw2))))
          have hw5 := hb25.size
          clear hbx hb5 hb25
          go_wp2_with fail
          refine (big_any p2 q' c gs2 (fz c ys) lo2 19001 _ (HE.out.2.2.2.2.2.2.1.keep (KR.of_below K5.out.1)) (by omega) HE.out.2.2.2.2.2.1.1 HE.out.2.2.2.2.2.1.2.1).mono ?_
          rintro x w6 ⟨bq, rfl, hbq, hb6⟩
          have hb26 : Below w2.heap.size w2 w6 := K5.out.1.trans (hb6.mono hw5)
          have K6 := Hid.mk (And.intro (show bq = true ↔ ¬ FitsP q' c ys from by rw [← big_fits]; exact hbq) (K2.out.2.trans (hb26.mono hw2)))
          clear hbq hb6 hb26
          cases bx
          · cases bq
            · have HFF : Hid (FitsP r q zs ∧ FitsP q' c ys) := Hid.mk ⟨Classical.byContradiction fun h => (by have := K5.out.2.1.2 h; cases this), Classical.byContradiction fun h => (by have := K6.out.1.2 h; cases this)⟩
              go_wp2_with fail
              go_ret3
              obtain ⟨⟨a1, a2, a3, a4, -, -, a7⟩, ⟨b1, b2, b3, b4, -, -, b7⟩⟩ := HE.out
              exact ⟨⟨_, _, _, rfl, .inr ⟨e1, e2, i, r, q, zs, j, q', c, ys, a1, b1, a3, a4, a2, b3, b4, b2, .inr (.inr ⟨HQE.out, HFF.out, rfl, by rw [← a7]; rfl, by rw [← b7]; rfl⟩)⟩⟩, K6.out.2⟩
            · have HNF : Hid (¬ (FitsP r q zs ∧ FitsP q' c ys)) := Hid.mk (fun h => K6.out.1.1 rfl h.2)
              go_wp2_with fail
              go_ret3
              obtain ⟨⟨a1, a2, a3, a4, -⟩, ⟨b1, b2, b3, b4, -⟩⟩ := HE.out
              exact ⟨⟨_, _, _, rfl, .inr ⟨e1, e2, i, r, q, zs, j, q', c, ys, a1, b1, a3, a4, a2, b3, b4, b2, .inr (.inl ⟨HQE.out, HNF.out, rfl⟩)⟩⟩, K6.out.2⟩
          · have HNF : Hid (¬ (FitsP r q zs ∧ FitsP q' c ys)) := Hid.mk (fun h => K5.out.2.1.1 rfl h.1)
            go_wp2_with fail
            go_ret3
            obtain ⟨⟨a1, a2, a3, a4, -⟩, ⟨b1, b2, b3, b4, -⟩⟩ := HE.out
            exact ⟨⟨_, _, _, rfl, .inr ⟨e1, e2, i, r, q, zs, j, q', c, ys, a1, b1, a3, a4, a2, b3, b4, b2, .inr (.inl ⟨HQE.out, HNF.out, rfl⟩)⟩⟩, K6.out.2⟩
        · have iq : ((q : Int) == (q' : Int)) = false := beq_eq_false_iff_ne.2 (by omega)
          have HNE := Hid.mk hqe
          clear hqe hqq
          go_wp2_with fail
          go_quiet (fail)
          go_wp2_with fail
          go_ret3
          obtain ⟨⟨a1, a2, a3, a4, -⟩, ⟨b1, b2, b3, b4, -⟩⟩ := HE.out
          exact ⟨⟨_, _, _, rfl, .inr ⟨e1, e2, i, r, q, zs, j, q', c, ys, a1, b1, a3, a4, a2, b3, b4, b2, .inl ⟨HNE.out, rfl⟩⟩⟩, K2.out.2.trans ((below_drewN K3.out _).mono hw2)⟩
end Go.Proofs.YtmijbimanaalbaaGreatDoor
