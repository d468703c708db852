import Derived.Test.YtfjbijpagaipnaaGreatDoorC39
import Derived.Test.YtfjbijpagaipnaaGreatDoorC44
namespace Go.Proofs.YtfjbijpagaipnaaGreatDoor
open Go.RowKit R
theorem R.spans_say {A H U W N : Nat → Nat → Int} {r n c k : Nat} {pc : Nat → Nat} (h : EchSt r c k pc H) (hE : EInv A H U W r c) (hc : c ≤ 4) (hA : RankIs A r c k) :
 (∃ l, RankIs A r c l ∧ RankIs (ov r A N) (r + n) c l ∧ divF (ov r A N) (r + n) c l = divF A r c l) ↔ ∀ i, i < n → Sp A r c (N i) := by
 constructor
 ·rintro ⟨l, h1, h2, h3⟩
  obtain rfl := rank_uniq hA h1
  exact (spans_iff h hE hc hA).2 ⟨h2, h3⟩
 ·intro hN
  obtain ⟨h1, h2⟩ := (spans_iff h hE hc hA).1 hN
  exact ⟨k, hA, h1, h2⟩
theorem HasF.say {A N : Nat → Nat → Int} {r n c : Nat} (h : HasF A r c) (hr : r ≤ 4) (hc : c ≤ 4) :
 (∃ l, RankIs A r c l ∧ RankIs (ov r A N) (r + n) c l ∧ divF (ov r A N) (r + n) c l = divF A r c l) ↔ ∀ i, i < n → Sp A r c (N i) := by
 obtain ⟨k, pc, H, U, W, h1, h2⟩ := h
 exact spans_say h1 h2 hc (ech_rankIs h1 h2 hr hc)
theorem sm_cut (f : Nat → Int) (m : Nat) : ∀ n, m ≤ n → (∀ l, m ≤ l → l < n → f l = 0) → sm f n = sm f m := by
 intro n
 induction n with
 | zero => intro h _; rw [show m = 0 by omega]
 | succ n ih =>
   intro h h0
   by_cases e : m = n + 1
   ·rw [e]
   ·rw [sm, ih (by omega) (fun l a b => h0 l a (by omega)), h0 n (by omega) (by omega)]; omega
theorem shL_at (H : Nat → Nat → Int) (pc : Nat → Nat) (v : Nat → Int) {r k t : Nat} (ht : t < r) : (shL H pc v r k).getD t 0 = if t < k then exQ H pc v t else 0 := by
 unfold shL
 rw [List.getD, List.getElem?_map, List.getElem?_range ht]
 rfl
theorem MemIs.back {r c : Nat} {zs vs xs : List Int} (h : MemIs r c zs vs xs) (hs : Sp (ent c zs) r c (ent c vs 0)) : ∀ i j, i < 1 → j < c → dot (fz r xs) (fz c zs) i j r = fz c vs i j := by
 obtain ⟨k, pc, hs', us, ws, hE, rfl⟩ := h
 intro i j hi hj
 obtain rfl : i = 0 := by omega
 obtain ⟨sh, hsh⟩ : ∃ sh, sh = shL (ent c hs') pc (ent c vs 0) r k := ⟨_, rfl⟩
 have e1 : dot (fz r (prodL 1 r r (shL (ent c hs') pc (ent c vs 0) r k) us)) (fz c zs) 0 j r = mm r (mm r (fz r sh) (fz r us)) (fz c zs) 0 j := by
  refine dot_congr r (fun l hl => ?_) (fun l hl => rfl)
  rw [← hsh]
  exact prodL_at (by omega) hl
 rw [e1, mm_assoc]
 have e2 : mm r (fz r sh) (mm r (fz r us) (fz c zs)) 0 j = dot (fz r sh) (ent c hs') 0 j r := dot_congr r (fun l hl => rfl) (fun l hl => hE.inv.ua l j hl hj)
 rw [e2, dot_sm]
 have hle := hE.st.le
 have e3 : sm (fun l => fz r sh 0 l * ent c hs' l j) r = sm (fun l => exQ (ent c hs') pc (ent c vs 0) l * ent c hs' l j) k := by
  rw [sm_cut _ k r hle (fun l a b => by
   show sh.getD (0 * r + l) 0 * _ = 0
   rw [Nat.zero_mul, Nat.zero_add, hsh, shL_at _ _ _ b, if_neg (by omega)]; simp)]
  refine sm_congr k (fun l hl => ?_)
  show sh.getD (0 * r + l) 0 * _ = _
  rw [Nat.zero_mul, Nat.zero_add, hsh, shL_at _ _ _ (by omega), if_pos hl]
 rw [e3]
 exact (ex_back ((mem_iff hE.st hE.inv).2 hs) j hj).symm
theorem BasisIs.say {r r' c k : Nat} {zs ys bs : List Int} (h : BasisIs (r + r') c (zs ++ ys) k bs) (hl : zs.length = r * c) (hc : c ≤ 4) :
 k ≤ c ∧ (∃ pc, EchP (fz c bs) k c k pc) ∧ RankIs (ov r (fz c zs) (fz c ys)) (r + r') c k ∧
 (∃ l, RankIs (fz c bs) k c l ∧ RankIs (ov k (fz c bs) (ov r (fz c zs) (fz c ys))) (k + (r + r')) c l ∧ divF (ov k (fz c bs) (ov r (fz c zs) (fz c ys))) (k + (r + r')) c l = divF (fz c bs) k c l) ∧
 (∃ l, RankIs (ov r (fz c zs) (fz c ys)) (r + r') c l ∧ RankIs (ov (r + r') (ov r (fz c zs) (fz c ys)) (fz c bs)) (r + r' + k) c l ∧ divF (ov (r + r') (ov r (fz c zs) (fz c ys)) (fz c bs)) (r + r' + k) c l = divF (ov r (fz c zs) (fz c ys)) (r + r') c l) := by
 obtain ⟨hb, pc, hs, us, ws, hE, hI, he⟩ := h
 have hle := hE.le
 have hte := hE.te
 have hI2 : EInv (ov r (fz c zs) (fz c ys)) (ent c hs) (ent (r + r') us) (ent (r + r') ws) (r + r') c := hI.congr (fun i j hi hj => by
  unfold ov
  by_cases h : i < r
  ·rw [if_pos h]; exact (ent_top ys hl h hj).symm
  ·rw [if_neg h, show i = r + (i - r) by omega, ent_low ys hl, Nat.add_sub_cancel_left]; rfl) (fun _ _ _ _ => rfl) (fun _ _ _ _ => rfl) (fun _ _ _ _ => rfl)
 have hX : EchSt k c k pc (fz c bs) := by
  have eq : ∀ i j, i < k → j < c → fz c bs i j = ent c hs i j := he
  refine ⟨Nat.le_refl _, hte, hE.col, hE.up, fun b hb => ?_, fun b hb j hj => ?_, fun b hb i hi hir => ?_, fun b hb i hi => ?_, fun i hi hir => by omega⟩
  ·rw [eq b _ hb (hE.col b hb)]; exact hE.piv b hb
  ·rw [eq b j hb (by have := hE.col b hb; omega)]; exact hE.left b hb j hj
  ·rw [eq i _ hir (hE.col b hb)]; exact hE.below b hb i hi (by omega)
  ·rw [eq i _ (by omega) (hE.col b hb), eq b _ hb (hE.col b hb)]; exact hE.above b hb i hi
 have hXI := EInv.start (fz c bs) k c
 have hXR : RankIs (fz c bs) k c k := ech_rankIs hX hXI (by omega) hc
 obtain ⟨s1, s2⟩ := span_rows hE hI2
 have t1 : ∀ i, i < k → Sp (ov r (fz c zs) (fz c ys)) (r + r') c (fz c bs i) := fun i hi => by
  obtain ⟨x, hx⟩ := s2 i (by omega)
  exact ⟨x, fun j hj => (he i j hi hj).trans (hx j hj)⟩
 have t2 : ∀ i, i < r + r' → Sp (fz c bs) k c (ov r (fz c zs) (fz c ys) i) := fun i hi => (s1 i hi).like (fun b j hb hj => (he b j hb hj).symm)
 have hMR : RankIs (ov r (fz c zs) (fz c ys)) (r + r') c k := rank_same t1 t2 hc hXR
 exact ⟨hte, ⟨pc, hX.echP⟩, hMR, (spans_say hX hXI hc hXR).2 t2, (spans_say hE hI2 hc hMR).2 t1⟩
theorem Held.bits {w : World} {b : Nat} {ms : List Hm} {nx : Nat} (h : Held w b ms nx) {k hd r c : Nat} {zs : List Int} (hk : k < 24) (hx : ms.getD k none = some (hd, r, c, zs)) {m : Nat} (hm : 400000000 ≤ m) : ∀ t, t < r * c → (zs.getD t 0).natAbs < 2 ^ (16 * m) := by
 obtain ⟨-, -, sl, -, hsl⟩ := h
 have h1 := hsl k hk
 rw [hx] at h1
 cases hs : sl.getD k none with
 | none => rw [hs] at h1; exact h1.elim
 | some y =>
   rw [hs] at h1
   obtain ⟨-, -, -, h2, h3, s, -, h4, cs, -, h6⟩ := h1
   intro t ht
   obtain ⟨a, b, -, -, sl', xs, -, e4, e5, e6, -⟩ := h6 t ht
   have h7 := val_lt e4.1
   rw [e5] at h7
   refine Nat.lt_of_lt_of_le h7 ?_
   obtain ⟨M, hM⟩ : ∃ M, M = 200000000 := ⟨_, rfl⟩
   rw [← hM] at e6
   have h8 : (4294967296 : Nat) ^ xs.length ≤ 4294967296 ^ M := Nat.pow_le_pow_right (by decide) e6
   refine Nat.le_trans h8 ?_
   have h9 : (4294967296 : Nat) ^ M = 2 ^ (32 * M) := by rw [Nat.pow_mul]
   rw [h9]
   exact Nat.pow_le_pow_right (by decide) (by omega)
theorem Held.fine {w : World} {b : Nat} {ms : List Hm} {nx : Nat} (h : Held w b ms nx) {k hd r c : Nat} {zs : List Int} (hk : k < 24) (hx : ms.getD k none = some (hd, r, c, zs)) (hr : r ≤ 4) (hc : c ≤ 4) : Fine r c zs := by
 obtain ⟨m, hm⟩ : ∃ m, m = 399999999 := ⟨_, rfl⟩
 have hb := h.bits hk hx (m := m + 1) (by omega)
 exact fine_bits hr hc (held_side h hk hx).2.2 hb (by omega)
theorem Mats.find {w : World} {es : List Ent} {V : Nat → Prop} (hM : Mats w es V) {e : Ent} (he : e ∈ es) {r c : Nat} {zs : List Int} (h : e.2.1 = matT r c zs) (hf : Fine r c zs) : ∃ lo hi, MatAt w lo hi e.2.2 r c (fz c zs) := by
 obtain ⟨r1, c1, zs1, lo, hi, h1, h2, h3, -⟩ := hM e he
 obtain ⟨rfl, rfl, rfl⟩ := fine_eq h2 hf (by rw [← h1, h])
 exact ⟨lo, hi, h3⟩
open Go.RowKit R
def PairG (P : Nat → Nat → Nat → Nat → Prop) (es : List Ent) (ms : List Hm) (g h : Int) (a b : Value) (want : Int) : Prop :=
 (((∀ i, i < 24 → ∀ x, ms.getD i none = some x → (x.1 : Int) ≠ g) ∨ (∀ i, i < 24 → ∀ x, ms.getD i none = some x → (x.1 : Int) ≠ h)) ∧ want = 2) ∨
 ∃ e1 e2 i r q zs j q' c ys, e1 ∈ es ∧ e2 ∈ es ∧ i < 24 ∧ ms.getD i none = some (e1.1, r, q, zs) ∧ ((e1.1 : Nat) : Int) = g ∧ j < 24 ∧ ms.getD j none = some (e2.1, q', c, ys) ∧ ((e2.1 : Nat) : Int) = h ∧
   ((¬ P r q q' c ∧ want = 3) ∨ (P r q q' c ∧ ¬ (FitsP r q zs ∧ FitsP q' c ys) ∧ want = 4) ∨ (P r q q' c ∧ (FitsP r q zs ∧ FitsP q' c ys) ∧ want = 0 ∧ a = .pointer (some ⟨e1.2.2, 0, none⟩) ∧ b = .pointer (some ⟨e2.2.2, 0, none⟩)))
theorem PairG.no {P : Nat → Nat → Nat → Nat → Prop} {es : List Ent} {ms : List Hm} {g h : Int} {a b : Value} {want : Int} (hp : PairG P es ms g h a b want) (hn : (∀ i, i < 24 → ∀ x, ms.getD i none = some x → (x.1 : Int) ≠ g) ∨ (∀ i, i < 24 → ∀ x, ms.getD i none = some x → (x.1 : Int) ≠ h)) : want = 2 := by
 rcases hp with ⟨-, rfl⟩ | ⟨e1, e2, i, r, q, zs, j, q', c, ys, m1, m2, hi, hx, hxg, hj, hy, hyh, hp⟩
 ·rfl
 ·rcases hn with hn | hn
  ·exact absurd hxg (hn i hi _ hx)
  ·exact absurd hyh (hn j hj _ hy)
theorem PairG.yes {P : Nat → Nat → Nat → Nat → Prop} {es : List Ent} {ms : List Hm} {g h : Int} {a b : Value} {want : Int} (hd : Dst ms) (hp : PairG P es ms g h a b want) {i d r q : Nat} {zs : List Int} {j d' q' c : Nat} {ys : List Int} (hi : i < 24) (hx : ms.getD i none = some (d, r, q, zs)) (hg : ((d : Nat) : Int) = g) (hj : j < 24) (hy : ms.getD j none = some (d', q', c, ys)) (hh : ((d' : Nat) : Int) = h) :
 ∃ e1 e2, e1 ∈ es ∧ e2 ∈ es ∧ e1.1 = d ∧ e2.1 = d' ∧ ((¬ P r q q' c ∧ want = 3) ∨ (P r q q' c ∧ ¬ (FitsP r q zs ∧ FitsP q' c ys) ∧ want = 4) ∨ (P r q q' c ∧ (FitsP r q zs ∧ FitsP q' c ys) ∧ want = 0 ∧ a = .pointer (some ⟨e1.2.2, 0, none⟩) ∧ b = .pointer (some ⟨e2.2.2, 0, none⟩))) := by
 rcases hp with ⟨hn, -⟩ | ⟨e1, e2, i2, r2, q2, zs2, j2, q2', c2, ys2, m1, m2, hi2, hx2, hxg2, hj2, hy2, hyh2, hp⟩
 ·rcases hn with hn | hn
  ·exact absurd hg (hn i hi _ hx)
  ·exact absurd hh (hn j hj _ hy)
 ·have e5 : i = i2 := hd i i2 _ _ hi hi2 hx hx2 (by show d = e1.1; omega)
  have e6 : j = j2 := hd j j2 _ _ hj hj2 hy hy2 (by show d' = e2.1; omega)
  subst e5; subst e6
  rw [hx] at hx2
  rw [hy] at hy2
  simp only [Option.some.injEq, Prod.mk.injEq] at hx2 hy2
  obtain ⟨rfl, rfl, rfl, rfl⟩ := hx2
  obtain ⟨rfl, rfl, rfl, rfl⟩ := hy2
  exact ⟨e1, e2, m1, m2, rfl, rfl, hp⟩
set_option maxRecDepth 100000 in
set_option maxHeartbeats 4000000 in
theorem pair_alike (B W T b1 b2 : Nat) (ms : List Hm) (nx : Nat) (es : List Ent) (g h : Int) (kd : Int) (h9 : (kd == 9) = false) (h10 : (kd == 10) = false) (h14 : (kd == 14) = false) (w : World) (hI : LInv B w W T b1 b2 ms nx es) :
 Calls Tryz.prog 122 #[.pointer (some ⟨W, 0, none⟩), .int .i64 g, .int .i64 h,  .int .i64 kd] w fun x w' => (∃ a b want, x = .returned (.tuple #[a, b, .int .i64 want]) ∧ PairG (fun _ q _ c => q = c) es ms g h a b want) ∧ Below w.heap.size w w' := by
 have H := Hid.mk hI
 clear hI
 go_enter Tryz.func122, Tryz.ntmps122
 go_wp2_with fail
 refine (lfind_any B W T b1 b2 ms nx es g _ H.out).mono ?_
 rintro x w1 ⟨⟨v, rfl, hv⟩, hb1⟩
 have K1 := Hid.mk (And.intro hv hb1)
 have hw1 := hb1.size
 clear hv hb1
 obtain ⟨pv, rfl⟩ : ∃ pv, v = .pointer pv := by
  rcases K1.out.1 with ⟨rfl, -⟩ | ⟨e, -, -, rfl⟩ <;> exact ⟨_, rfl⟩
 go_wp2_with fail
 refine (lfind_any B W T b1 b2 ms nx es h _ (H.out.below K1.out.2)).mono ?_
 rintro x w2 ⟨⟨u, rfl, hu⟩, hb2⟩
 have hb02 : Below w.heap.size w w2 := K1.out.2.trans (hb2.mono hw1)
 obtain ⟨pu, rfl⟩ : ∃ pu, u = .pointer pu := by
  rcases hu with ⟨rfl, -⟩ | ⟨e, -, -, rfl⟩ <;> exact ⟨_, rfl⟩
 have K2 := Hid.mk (And.intro hu hb02)
 have hw2 := hb02.size
 clear hu hb2 hb02
 rcases K1.out.1 with ⟨hvn, hno⟩ | ⟨e1, he1, hg1, hve⟩
 ·injection hvn with hvn
  subst hvn
  have KN := Hid.mk hno
  clear hno
  go_wp2_with fail
  go_ret3
  exact ⟨⟨_, _, _, rfl, .inl ⟨.inl (FindL.none H.out KN.out), rfl⟩⟩, K2.out.2⟩
 ·injection hve with hve
  subst hve
  rcases K2.out.1 with ⟨hvn, hno⟩ | ⟨e2, he2, hg2, hve⟩
  ·injection hvn with hvn
   subst hvn
   have KN := Hid.mk hno
   clear hno
   go_wp2_with fail
   go_ret3
   exact ⟨⟨_, _, _, rfl, .inl ⟨.inr (FindL.none H.out KN.out), rfl⟩⟩, K2.out.2⟩
  ·injection hve with hve
   subst hve
   obtain ⟨i, r, q, zs, hi, hx⟩ := H.out.ent_of he1
   obtain ⟨j, q', c, ys, hj, hy⟩ := H.out.ent_of he2
   obtain ⟨-, hf1, lo1, hi1, hm1⟩ := (H.out.below K2.out.2).entry he1 hi hx rfl
   obtain ⟨-, hf2, lo2, hi2, hm2⟩ := (H.out.below K2.out.2).entry he2 hj hy rfl
   obtain ⟨gs1, hI1⟩ := hm1.isR
   obtain ⟨gs2, hI2⟩ := hm2.isR
   obtain ⟨p1, hp1⟩ : ∃ p1, p1 = e1.2.2 := ⟨_, rfl⟩
   obtain ⟨p2, hp2⟩ : ∃ p2, p2 = e2.2.2 := ⟨_, rfl⟩
   rw [← hp1] at hI1 ⊢
   rw [← hp2] at hI2 ⊢
   have HE := Hid.mk (And.intro (And.intro he1 (And.intro hg1 (And.intro hi (And.intro hx (And.intro hf1 (And.intro hI1 hp1)))))) (And.intro he2 (And.intro hg2 (And.intro hj (And.intro hy (And.intro hf2 (And.intro hI2 hp2)))))))
   obtain ⟨-, ao1, cap1, c0, c1, -⟩ := hI1.open_
   obtain ⟨-, ao2, cap2, d0, d1, -⟩ := hI2.open_
   clear he1 hg1 hi hx hf1 hI1 hp1 he2 hg2 hj hy hf2 hI2 hp2 hm1 hm2
   obtain ⟨qq, hqq⟩ : ∃ qq, qq = ((q : Int) == (c : Int)) := ⟨_, rfl⟩
   have HQ := Hid.mk hqq
   clear hqq
   go_upto_region 5 with fail
   go_cut [13] from 28 to 37 (fun x wx => x = .bool qq ∧ Below w2.heap.size w2 wx)
   case first =>
    go_quiet (fail)
    all_goals
     go_wp2_with fail
     go_meet
     case rel => exact ⟨by rw [HQ.out], below_drewN (Below.refl _ _) _⟩
   case rest =>
    obtain ⟨rfl, hb3⟩ := hcut
    have c1' := cell_later hb3 c1
    have d0' := cell_later hb3 d0
    have K3 := Hid.mk hb3
    have hw3 := hb3.size
    clear hb3 c0 c1 d0 d1
    have hqi := HQ.out
    cases qq
    ·have HNE : Hid (¬ q = c) := Hid.mk (fun e => by rw [e] at hqi; simp at hqi)
     clear hqi
     go_wp2_with fail
     go_ret3
     obtain ⟨⟨a1, a2, a3, a4, -⟩, ⟨b1, b2, b3, b4, -⟩⟩ := HE.out
     exact ⟨⟨_, _, _, rfl, .inr ⟨e1, e2, i, r, q, zs, j, q', c, ys, a1, b1, a3, a4, a2, b3, b4, b2, .inl ⟨HNE.out, rfl⟩⟩⟩, K2.out.2.trans (K3.out.mono hw2)⟩
    ·have HQE : Hid (q = c) := Hid.mk (by have := beq_iff_eq.1 hqi.symm; omega)
     clear hqi
     go_wp2_with fail
     refine (big_any p1 r q gs1 (fz q zs) lo1 40000000001 _ (HE.out.1.2.2.2.2.2.1.keep (KR.of_below K3.out)) (by omega) HE.out.1.2.2.2.2.1.1 HE.out.1.2.2.2.2.1.2.1).mono ?_
     rintro x w5 ⟨bx, rfl, hbx, hb5⟩
     have hb25 : Below w2.heap.size w2 w5 := K3.out.trans (hb5.mono K3.out.size)
     have K5 := Hid.mk (And.intro hb25 (And.intro (show bx = true ↔ ¬ FitsP r q zs from by rw [← big_fits]; exact hbx) (K2.out.2.trans (hb25.mono hw2))))
     have hw5 := hb25.size
     clear hbx hb5 hb25
     go_wp2_with fail
     refine (big_any p2 q' c gs2 (fz c ys) lo2 40000000001 _ (HE.out.2.2.2.2.2.2.1.keep (KR.of_below K5.out.1)) (by omega) HE.out.2.2.2.2.2.1.1 HE.out.2.2.2.2.2.1.2.1).mono ?_
     rintro x w6 ⟨bq, rfl, hbq, hb6⟩
     have hb26 : Below w2.heap.size w2 w6 := K5.out.1.trans (hb6.mono hw5)
     have K6 := Hid.mk (And.intro (show bq = true ↔ ¬ FitsP q' c ys from by rw [← big_fits]; exact hbq) (K2.out.2.trans (hb26.mono hw2)))
     clear hbq hb6 hb26
     cases bx
     ·cases bq
      ·have HFF : Hid (FitsP r q zs ∧ FitsP q' c ys) := Hid.mk ⟨Classical.byContradiction fun h => (by have := K5.out.2.1.2 h; cases this), Classical.byContradiction fun h => (by have := K6.out.1.2 h; cases this)⟩
       go_wp2_with fail
       go_ret3
       obtain ⟨⟨a1, a2, a3, a4, -, -, a7⟩, ⟨b1, b2, b3, b4, -, -, b7⟩⟩ := HE.out
       exact ⟨⟨_, _, _, rfl, .inr ⟨e1, e2, i, r, q, zs, j, q', c, ys, a1, b1, a3, a4, a2, b3, b4, b2, .inr (.inr ⟨HQE.out, HFF.out, rfl, by rw [← a7]; rfl, by rw [← b7]; rfl⟩)⟩⟩, K6.out.2⟩
      ·have HNF : Hid (¬ (FitsP r q zs ∧ FitsP q' c ys)) := Hid.mk (fun h => K6.out.1.1 rfl h.2)
       go_wp2_with fail
       go_ret3
       obtain ⟨⟨a1, a2, a3, a4, -⟩, ⟨b1, b2, b3, b4, -⟩⟩ := HE.out
       exact ⟨⟨_, _, _, rfl, .inr ⟨e1, e2, i, r, q, zs, j, q', c, ys, a1, b1, a3, a4, a2, b3, b4, b2, .inr (.inl ⟨HQE.out, HNF.out, rfl⟩)⟩⟩, K6.out.2⟩
     ·have HNF : Hid (¬ (FitsP r q zs ∧ FitsP q' c ys)) := Hid.mk (fun h => K5.out.2.1.1 rfl h.1)
      go_wp2_with fail
      go_ret3
      obtain ⟨⟨a1, a2, a3, a4, -⟩, ⟨b1, b2, b3, b4, -⟩⟩ := HE.out
      exact ⟨⟨_, _, _, rfl, .inr ⟨e1, e2, i, r, q, zs, j, q', c, ys, a1, b1, a3, a4, a2, b3, b4, b2, .inr (.inl ⟨HQE.out, HNF.out, rfl⟩)⟩⟩, K6.out.2⟩
set_option maxRecDepth 100000 in
set_option maxHeartbeats 4000000 in
theorem pair_member (B W T b1 b2 : Nat) (ms : List Hm) (nx : Nat) (es : List Ent) (g h : Int) (w : World) (hI : LInv B w W T b1 b2 ms nx es) :
 Calls Tryz.prog 122 #[.pointer (some ⟨W, 0, none⟩), .int .i64 g, .int .i64 h,  .int .i64 10] w fun x w' => (∃ a b want, x = .returned (.tuple #[a, b, .int .i64 want]) ∧ PairG (fun _ q q' c => q' = 1 ∧ c = q) es ms g h a b want) ∧ Below w.heap.size w w' := by
 have H := Hid.mk hI
 clear hI
 go_enter Tryz.func122, Tryz.ntmps122
 go_wp2_with fail
 refine (lfind_any B W T b1 b2 ms nx es g _ H.out).mono ?_
 rintro x w1 ⟨⟨v, rfl, hv⟩, hb1⟩
 have K1 := Hid.mk (And.intro hv hb1)
 have hw1 := hb1.size
 clear hv hb1
 obtain ⟨pv, rfl⟩ : ∃ pv, v = .pointer pv := by
  rcases K1.out.1 with ⟨rfl, -⟩ | ⟨e, -, -, rfl⟩ <;> exact ⟨_, rfl⟩
 go_wp2_with fail
 refine (lfind_any B W T b1 b2 ms nx es h _ (H.out.below K1.out.2)).mono ?_
 rintro x w2 ⟨⟨u, rfl, hu⟩, hb2⟩
 have hb02 : Below w.heap.size w w2 := K1.out.2.trans (hb2.mono hw1)
 obtain ⟨pu, rfl⟩ : ∃ pu, u = .pointer pu := by
  rcases hu with ⟨rfl, -⟩ | ⟨e, -, -, rfl⟩ <;> exact ⟨_, rfl⟩
 have K2 := Hid.mk (And.intro hu hb02)
 have hw2 := hb02.size
 clear hu hb2 hb02
 rcases K1.out.1 with ⟨hvn, hno⟩ | ⟨e1, he1, hg1, hve⟩
 ·injection hvn with hvn
  subst hvn
  have KN := Hid.mk hno
  clear hno
  go_wp2_with fail
  go_ret3
  exact ⟨⟨_, _, _, rfl, .inl ⟨.inl (FindL.none H.out KN.out), rfl⟩⟩, K2.out.2⟩
 ·injection hve with hve
  subst hve
  rcases K2.out.1 with ⟨hvn, hno⟩ | ⟨e2, he2, hg2, hve⟩
  ·injection hvn with hvn
   subst hvn
   have KN := Hid.mk hno
   clear hno
   go_wp2_with fail
   go_ret3
   exact ⟨⟨_, _, _, rfl, .inl ⟨.inr (FindL.none H.out KN.out), rfl⟩⟩, K2.out.2⟩
  ·injection hve with hve
   subst hve
   obtain ⟨i, r, q, zs, hi, hx⟩ := H.out.ent_of he1
   obtain ⟨j, q', c, ys, hj, hy⟩ := H.out.ent_of he2
   obtain ⟨-, hf1, lo1, hi1, hm1⟩ := (H.out.below K2.out.2).entry he1 hi hx rfl
   obtain ⟨-, hf2, lo2, hi2, hm2⟩ := (H.out.below K2.out.2).entry he2 hj hy rfl
   obtain ⟨gs1, hI1⟩ := hm1.isR
   obtain ⟨gs2, hI2⟩ := hm2.isR
   obtain ⟨p1, hp1⟩ : ∃ p1, p1 = e1.2.2 := ⟨_, rfl⟩
   obtain ⟨p2, hp2⟩ : ∃ p2, p2 = e2.2.2 := ⟨_, rfl⟩
   rw [← hp1] at hI1 ⊢
   rw [← hp2] at hI2 ⊢
   have HE := Hid.mk (And.intro (And.intro he1 (And.intro hg1 (And.intro hi (And.intro hx (And.intro hf1 (And.intro hI1 hp1)))))) (And.intro he2 (And.intro hg2 (And.intro hj (And.intro hy (And.intro hf2 (And.intro hI2 hp2)))))))
   obtain ⟨-, ao1, cap1, c0, c1, -⟩ := hI1.open_
   obtain ⟨-, ao2, cap2, d0, d1, -⟩ := hI2.open_
   clear he1 hg1 hi hx hf1 hI1 hp1 he2 hg2 hj hy hf2 hI2 hp2 hm1 hm2
   obtain ⟨qq, hqq⟩ : ∃ qq, qq = ((q : Int) == (c : Int)) := ⟨_, rfl⟩
   have HQ := Hid.mk hqq
   clear hqq
   go_upto_region 5 with fail
   go_cut [13] from 28 to 37 (fun x wx => x = .bool qq ∧ Below w2.heap.size w2 wx)
   case first =>
    go_quiet (fail)
    all_goals
     go_wp2_with fail
     go_meet
     case rel => exact ⟨by rw [HQ.out], below_drewN (Below.refl _ _) _⟩
   case rest =>
    obtain ⟨rfl, hb3⟩ := hcut
    have c1' := cell_later hb3 c1
    have d0' := cell_later hb3 d0
    have K3 := Hid.mk hb3
    have hw3 := hb3.size
    clear hb3 c0 c1 d0 d1
    have hqi := HQ.out
    cases qq
    ·have HNE : Hid (¬ (q' = 1 ∧ c = q)) := Hid.mk (fun e => by rw [e.2] at hqi; simp at hqi)
     clear hqi
     go_wp2_with fail
     go_ret3
     obtain ⟨⟨a1, a2, a3, a4, -⟩, ⟨b1, b2, b3, b4, -⟩⟩ := HE.out
     exact ⟨⟨_, _, _, rfl, .inr ⟨e1, e2, i, r, q, zs, j, q', c, ys, a1, b1, a3, a4, a2, b3, b4, b2, .inl ⟨HNE.out, rfl⟩⟩⟩, K2.out.2.trans (K3.out.mono hw2)⟩
    ·by_cases hq1 : q' = 1
     case neg =>
      have HNE : Hid (¬ (q' = 1 ∧ c = q)) := Hid.mk (fun e => hq1 e.1)
      have hqb : ((q' : Int) == 1) = false := beq_eq_false_iff_ne.2 (by omega)
      clear hqi hq1
      go_wp2_with fail
      go_ret3
      obtain ⟨⟨a1, a2, a3, a4, -⟩, ⟨b1, b2, b3, b4, -⟩⟩ := HE.out
      exact ⟨⟨_, _, _, rfl, .inr ⟨e1, e2, i, r, q, zs, j, q', c, ys, a1, b1, a3, a4, a2, b3, b4, b2, .inl ⟨HNE.out, rfl⟩⟩⟩, K2.out.2.trans (K3.out.mono hw2)⟩
     have HQE : Hid (q' = 1 ∧ c = q) := Hid.mk ⟨hq1, by have := beq_iff_eq.1 hqi.symm; omega⟩
     have hqb : ((q' : Int) == 1) = true := beq_iff_eq.2 (by omega)
     clear hqi hq1
     go_wp2_with fail
     refine (big_any p1 r q gs1 (fz q zs) lo1 40000000001 _ (HE.out.1.2.2.2.2.2.1.keep (KR.of_below K3.out)) (by omega) HE.out.1.2.2.2.2.1.1 HE.out.1.2.2.2.2.1.2.1).mono ?_
     rintro x w5 ⟨bx, rfl, hbx, hb5⟩
     have hb25 : Below w2.heap.size w2 w5 := K3.out.trans (hb5.mono K3.out.size)
     have K5 := Hid.mk (And.intro hb25 (And.intro (show bx = true ↔ ¬ FitsP r q zs from by rw [← big_fits]; exact hbx) (K2.out.2.trans (hb25.mono hw2))))
     have hw5 := hb25.size
     clear hbx hb5 hb25
     go_wp2_with fail
     refine (big_any p2 q' c gs2 (fz c ys) lo2 40000000001 _ (HE.out.2.2.2.2.2.2.1.keep (KR.of_below K5.out.1)) (by omega) HE.out.2.2.2.2.2.1.1 HE.out.2.2.2.2.2.1.2.1).mono ?_
     rintro x w6 ⟨bq, rfl, hbq, hb6⟩
     have hb26 : Below w2.heap.size w2 w6 := K5.out.1.trans (hb6.mono hw5)
     have K6 := Hid.mk (And.intro (show bq = true ↔ ¬ FitsP q' c ys from by rw [← big_fits]; exact hbq) (K2.out.2.trans (hb26.mono hw2)))
     clear hbq hb6 hb26
     cases bx
     ·cases bq
      ·have HFF : Hid (FitsP r q zs ∧ FitsP q' c ys) := Hid.mk ⟨Classical.byContradiction fun h => (by have := K5.out.2.1.2 h; cases this), Classical.byContradiction fun h => (by have := K6.out.1.2 h; cases this)⟩
       go_wp2_with fail
       go_ret3
       obtain ⟨⟨a1, a2, a3, a4, -, -, a7⟩, ⟨b1, b2, b3, b4, -, -, b7⟩⟩ := HE.out
       exact ⟨⟨_, _, _, rfl, .inr ⟨e1, e2, i, r, q, zs, j, q', c, ys, a1, b1, a3, a4, a2, b3, b4, b2, .inr (.inr ⟨HQE.out, HFF.out, rfl, by rw [← a7]; rfl, by rw [← b7]; rfl⟩)⟩⟩, K6.out.2⟩
      ·have HNF : Hid (¬ (FitsP r q zs ∧ FitsP q' c ys)) := Hid.mk (fun h => K6.out.1.1 rfl h.2)
       go_wp2_with fail
       go_ret3
       obtain ⟨⟨a1, a2, a3, a4, -⟩, ⟨b1, b2, b3, b4, -⟩⟩ := HE.out
       exact ⟨⟨_, _, _, rfl, .inr ⟨e1, e2, i, r, q, zs, j, q', c, ys, a1, b1, a3, a4, a2, b3, b4, b2, .inr (.inl ⟨HQE.out, HNF.out, rfl⟩)⟩⟩, K6.out.2⟩
     ·have HNF : Hid (¬ (FitsP r q zs ∧ FitsP q' c ys)) := Hid.mk (fun h => K5.out.2.1.1 rfl h.1)
      go_wp2_with fail
      go_ret3
      obtain ⟨⟨a1, a2, a3, a4, -⟩, ⟨b1, b2, b3, b4, -⟩⟩ := HE.out
      exact ⟨⟨_, _, _, rfl, .inr ⟨e1, e2, i, r, q, zs, j, q', c, ys, a1, b1, a3, a4, a2, b3, b4, b2, .inr (.inl ⟨HQE.out, HNF.out, rfl⟩)⟩⟩, K6.out.2⟩
open Go.RowKit R
def SpSay (f g : Nat → Nat → Int) (r n c : Nat) : Prop := ∃ l, RankIs f r c l ∧ RankIs (ov r f g) (r + n) c l ∧ divF (ov r f g) (r + n) c l = divF f r c l
set_option maxRecDepth 100000 in
set_option maxHeartbeats 4000000 in
theorem both_any (b b' r q c : Nat) (gs gs' : Nat → Nat) (f f' : Nat → Nat → Int) (B B' L : Nat) (w : World) (h : IsR B w b r c gs f L) (h' : IsR B' w b' q c gs' f' L) (hr : r + q ≤ 12) (hc : c ≤ 4) (hL : L ≤ 1000000000) :
 Calls Tryz.prog 129 #[.pointer (some ⟨b, 0, none⟩), .pointer (some ⟨b', 0, none⟩)] w fun e w' => ∃ y : Bool, e = .returned (.bool y) ∧ (y = true ↔ SpSay f f' r q c ∧ SpSay f' f q r c) ∧ Below w.heap.size w w' := by
 have H := Hid.mk (And.intro h h')
 clear h h'
 go_enter Tryz.func129, Tryz.ntmps129
 go_wp2_with fail
 refine (spans_any b b' r q c gs gs' f f' B B' L _ H.out.1 H.out.2 hr hc hL).mono ?_
 rintro e w1 ⟨y, rfl, hy, hb1⟩
 have K1 := Hid.mk (And.intro (show y = true ↔ SpSay f f' r q c from hy) hb1)
 clear hy hb1
 go_wp2_with fail
 refine (spans_any b' b q r c gs' gs f' f B' B L _ (H.out.2.keep (KR.of_below K1.out.2)) (H.out.1.keep (KR.of_below K1.out.2)) (by omega) hc hL).mono ?_
 rintro e w2 ⟨y', rfl, hy', hb2⟩
 have K2 := Hid.mk (And.intro (show y' = true ↔ SpSay f' f q r c from hy') (K1.out.2.trans (hb2.mono K1.out.2.size)))
 clear hy' hb2
 cases y
 ·go_wp2_with fail
  go_ret
  exact ⟨false, rfl, ⟨fun h => (by cases h), fun h => (K1.out.1.2 h.1)⟩, K2.out.2⟩
 ·go_wp2_with fail
  go_ret
  exact ⟨y', rfl, ⟨fun h => ⟨K1.out.1.1 (by trivial), K2.out.1.1 h⟩, fun h => K2.out.1.2 h.2⟩, K2.out.2⟩
open Go.RowKit R
theorem held_new (B W T b1 b2 n r c nx : Nat) (ms : List Hm) (es : List Ent) (zs : List Int) (w' : World) (hT2 : TwH B w' T b1 b2 (ms.set n (some (nx, r, c, zs))) (nx + 1)) (hrows : LRows B w' W T b1 b2 nx es) (hRel : Rel es ms nx) (hn : FreeAt ms n) (hfine : Fine r c zs) (hnx : nx < 1000000) (hle : es.length ≤ 24) (hBw : B ≤ w'.heap.size) :
 Calls Tryz.prog 104 #[.pointer (some ⟨W, 0, none⟩), .slice (some ⟨w'.heap.size, 0, none⟩) 1 1, .int .i64 1] (w'.alloc (.cells #[.int .i64 (nx : Nat)] 3)) fun x w5 => ∃ og ocap p, x = .returned (.slice (some ⟨og, 0, none⟩) 1 ocap) ∧ 1 ≤ ocap ∧ ocap ≤ 9223372036854775807 ∧ w5.cell? ⟨og, 0, none⟩ = some (.pointer (some ⟨p, 0, none⟩)) ∧ (∃ lo gs, IsR lo w5 p r c gs (fz c zs) 40000000001) ∧ LInv B w5 W T b1 b2 (ms.set n (some (nx, r, c, zs))) (nx + 1) (es ++ [(nx, matT r c zs, p)]) ∧ Below B w' w5 := by
 obtain ⟨hv1, iv1, lv1, tv1, kL, kI, kP, kX, kS, kM, ls1, hH1, hHB1⟩ := hrows
 obtain ⟨Y, hY⟩ : ∃ Y, Y = w'.alloc (.cells #[.int .i64 (nx : Nat)] 3) := ⟨_, rfl⟩
 have hbX : Below w'.heap.size w' Y := by rw [hY]; exact (Below.refl _ _).alloc (Nat.le_refl _) _
 have hsX : Y.heap.size = w'.heap.size + 1 := by rw [hY]; simp
 have hgY : Y.heap[w'.heap.size]? = some (.cells #[.int .i64 (nx : Nat)] 3 (0, 0)) := by rw [hY]; exact heap_alloc_new w' _
 rw [← hY]
 clear hY
 have hTX : TwH B Y T b1 b2 (ms.set n (some (nx, r, c, zs))) (nx + 1) := hT2.below hbX
 have hmi : (ms.set n (some (nx, r, c, zs))).getD n none = some (nx, r, c, zs) := by rw [hm_set (by rw [hRel.len]; exact hn.1), if_pos rfl]
 have hpush := hRel.push hn r c zs
 have hlt : ∀ k, S4 W iv1 lv1 tv1 k → k < w'.heap.size := fun k hk => by
  rcases hk with hk | hk | hk | hk
  ·rw [hk]; exact kL.lt
  ·exact (kI.own k hk).1
  ·exact (kP.own k hk).1
  ·exact (kX.own k hk).1
 have hLX := kL.of_block (hbX.block W kL.lt)
 have hIX := kI.below hbX
 have hPX := kP.below hbX
 have hXX := kX.below hbX
 refine (held_one B W T b1 b2 w'.heap.size n r c nx (nx + 1) iv1 lv1 tv1 (ms.set n (some (nx, r, c, zs))) es zs _ hTX hLX hIX hPX hXX kS (by omega) hn.1 hmi (hpush 0).dst hfine hle hgY (fun e => by have := hlt _ e; omega)).mono ?_
 rintro x w5 ⟨ov, rfl, p', iv', lv', tv', og, ocap, rfl, o1, o2, ocell, hL5, hI5, hP5, hX5, ow, hmat, hC5⟩
 obtain ⟨lo5, hi5, -, hmt, -⟩ := id hmat
 obtain ⟨gs', hIR5⟩ := hmt.isR
 obtain ⟨hinv, hbB⟩ := held_inv hTX hLX hIX hPX hXX kS (kM.below hbX) (hH1.below hbX) hHB1 hRel hn hfine (by rw [hsX]; omega) hL5 hI5 hP5 hX5 ow hmat hC5
 exact ⟨og, ocap, p', rfl, o1, o2, ocell, ⟨lo5, gs', hIR5⟩, hinv, (hbX.mono hBw).trans hbB⟩
end Go.Proofs.YtfjbijpagaipnaaGreatDoor
