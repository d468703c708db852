import Derived.Test.YtfjbijpagaipnaaGreatDoorC37
import Derived.Test.YtfjbijpagaipnaaGreatDoorC43
import Derived.Test.YtfjbijpagaipnaaGreatDoorC40
import Derived.Test.YtfjbijpagaipnaaGreatDoorC24
import Derived.Test.YtfjbijpagaipnaaGreatDoorC38
import Derived.Test.YtfjbijpagaipnaaGreatDoorC41
import Derived.Test.YtfjbijpagaipnaaGreatDoorC18
import Derived.Test.YtfjbijpagaipnaaGreatDoorC13
import Derived.Test.YtfjbijpagaipnaaGreatDoorC35
import Derived.Deep.RegionHeld3
import Derived.StillTailTactics
import Derived.Test.YtfjbijpagaipnaaGreatDoorC36
namespace Go.Proofs.YtfjbijpagaipnaaGreatDoor
open Go.RowKit
open Go.RowKit
open Go.RowKit
open Go.RowKit
open Go.RowKit
open Go.RowKit
open Go.RowKit R
end Go.Proofs.YtfjbijpagaipnaaGreatDoor
namespace Go.Proofs.YtfjbijpagaipnaaGreatDoor.R
open Go.RowKit
theorem IsN.len0 {w : World} {nb : Bool} {so : Option Addr} {n cp : Nat} {z : Int} {L : Nat} (h : IsN w (.agg #[.bool nb, .slice so n cp]) z L) : n = 0 ↔ z = 0 := by
 obtain ⟨neg, so', cp', zs, e1, -, e3, -, e5, -⟩ := h.parts
 simp only [Value.agg.injEq, Array.mk.injEq, List.cons.injEq, Value.slice.injEq, Value.bool.injEq, and_true] at e1
 obtain ⟨-, -, e6, -⟩ := e1
 have h0 := Lim_zero e3
 have h1 : z = 0 ↔ val zs = 0 := by cases neg <;> simp at e5 <;> omega
 rw [e6, h1, h0]
 constructor
 ·exact fun h => List.eq_nil_of_length_eq_zero h
 ·intro h; rw [h]; rfl
set_option maxRecDepth 100000 in
set_option maxHeartbeats 4000000 in
theorem divides_any (v u : Value) (x y L M : Nat) (w : World) (hv : IsN w v (x : Int) L) (hu : IsN w u (y : Int) M) (hL : L ≤ 10000000000) (hM : M ≤ 10000000000) :
 Calls Tryz.prog 179 #[v, u] w fun e w' => e = .returned (.bool (decide (x ∣ y))) ∧ Below w.heap.size w w' := by
 obtain ⟨na, ao, cap, xs, rfl, -⟩ := hv.parts
 obtain ⟨nb, bo, dap, ys, rfl, -⟩ := hu.parts
 obtain ⟨nx, hnx⟩ : ∃ nx, nx = xs.length := ⟨_, rfl⟩
 obtain ⟨ny, hny⟩ : ∃ ny, ny = ys.length := ⟨_, rfl⟩
 rw [← hnx] at hv ⊢
 rw [← hny] at hu ⊢
 have lx := hv.len0
 have ly := hu.len0
 have H := Hid.mk (And.intro hv hu)
 obtain ⟨D, hD⟩ : ∃ D, D = decide (x ∣ y) := ⟨_, rfl⟩
 rw [← hD]
 have HD := Hid.mk hD
 clear hv hu hnx hny hD
 by_cases hx : nx = 0
 ·have h0 : x = 0 := by have := lx.1 hx; omega
  have hd : ((ny : Int) == 0) = D := by
   rw [HD.out, Bool.eq_iff_iff, beq_iff_eq, decide_eq_true_eq, h0, Nat.zero_dvd]
   omega
  have HDD := Hid.mk hd
  subst hx
  clear lx ly hd
  go_enter Tryz.func179, Tryz.ntmps179
  go_wp2_with fail
  go_ret
  exact ⟨ret_bool HDD.out, ((Below.refl _ _).alloc (Nat.le_refl _) _).alloc (by simp) _⟩
 ·have hx' : ((nx : Int) == 0) = false := beq_eq_false_iff_ne.2 (by omega)
  have hx0 : 0 < x := by
   rcases Nat.eq_zero_or_pos x with h | h
   ·exact absurd (lx.2 (by omega)) hx
   ·exact h
  clear lx ly hx
  go_enter Tryz.func179, Tryz.ntmps179
  go_wp2_with fail
  have hbA := ((Below.refl w.heap.size w).alloc (Nat.le_refl _) (.cells #[.bool na, .slice ao nx cap] 138)).alloc (by simp) (.cells #[.bool nb, .slice bo ny dap] 138)
  refine (cutN_any _ _ y x M L _ (H.out.2.below hbA) (H.out.1.below hbA) hx0 hM hL).mono ?_
  rintro e w1 ⟨q, r, rfl, hq, hr, hb1⟩
  obtain ⟨nq, oq, cq, lq, rfl, -⟩ := hq.parts
  obtain ⟨nr, or, cr, lr, rfl, -⟩ := hr.parts
  have lr0 := hr.len0
  obtain ⟨kr, hkr⟩ : ∃ kr, kr = lr.length := ⟨_, rfl⟩
  rw [← hkr] at lr0 ⊢
  obtain ⟨kq, hkq⟩ : ∃ kq, kq = lq.length := ⟨_, rfl⟩
  rw [← hkq]
  have hd : ((kr : Int) == 0) = D := by
   rw [HD.out, Bool.eq_iff_iff, beq_iff_eq, decide_eq_true_eq, Nat.dvd_iff_mod_eq_zero]
   omega
  have K1 := Hid.mk (And.intro hd (hbA.trans (hb1.mono (by simp <;> omega))))
  clear hq hr hb1 hbA hkr hkq lr0 hd
  go_wp2_with fail
  go_ret
  exact ⟨ret_bool K1.out.1, (K1.out.2.alloc K1.out.2.size _).alloc (by have := K1.out.2.size; simp; omega) _⟩
structure DgP (f : Nat → Nat → Int) (r c : Nat) : Prop where
 pos : ∀ i j, i < r → j < c → 0 ≤ f i j
 off : ∀ i j, i < r → j < c → i ≠ j → f i j = 0
 div : ∀ i, i + 1 < r → i + 1 < c → f i i ∣ f (i + 1) (i + 1)
set_option maxRecDepth 100000 in
set_option maxHeartbeats 4000000 in
theorem diagonal_yes (b r c : Nat) (gs : Nat → Nat) (f : Nat → Nat → Int) (B L : Nat) (w : World) (h : IsR B w b r c gs f L) (he : DgP f r c) (hL : L ≤ 10000000000) (hr : r ≤ 99) (hc : c ≤ 99) :
 Calls Tryz.prog 121 #[.pointer (some ⟨b, 0, none⟩)] w fun e w' => e = .returned (.bool true) ∧ Below w.heap.size w w' := by
 have H := Hid.mk (And.intro h he)
 obtain ⟨hbl, ao, cap, c0, c1, c2, -⟩ := h.open_
 clear h he
 go_enter Tryz.func121, Tryz.ntmps121
 go_wp2_with fail
 go_loopw [3] (fun i wr => ∃ a : Nat, a ≤ r ∧ i = .int .i64 a ∧ Below w.heap.size w wr) (fun i _ => r - (intOf i).toNat)
 case atStart => exact ⟨0, Nat.zero_le _, rfl, Below.refl _ _⟩
 case round =>
  rename World => wi
  obtain ⟨a, ha, rfl, hbel⟩ := hrel
  clear c0 c1 c2
  obtain ⟨-, ao, cap, c0, c1, c2, -⟩ := (H.out.1.keep (KR.of_below hbel)).open_
  have HB := Hid.mk hbel
  clear hbel
  by_cases har : a < r
  ·have hai : (a : Int) < (r : Int) := by omega
   go_wp2_with fail
   go_loopw [4] (fun j wr => ∃ e : Nat, e ≤ c ∧ j = .int .i64 e ∧ Below w.heap.size w wr) (fun j _ => c - (intOf j).toNat)
   case atStart => exact ⟨0, Nat.zero_le _, rfl, HB.out⟩
   case round =>
    rename World => wj
    obtain ⟨e, he, rfl, hbel⟩ := hrel
    clear c0 c1 c2
    obtain ⟨-, ao, cap, c0, c1, c2, c3, c4, c5, c6⟩ := (H.out.1.keep (KR.of_below hbel)).open_
    have HB2 := Hid.mk hbel
    clear hbel
    by_cases hec : e < c
    ·have hei : (e : Int) < (c : Int) := by omega
     obtain ⟨gL, rfl, y1⟩ := c5 a har
     obtain ⟨nb, so, n, cp, y2, y3, -, -, hN⟩ := c6 a e har hec
     rw [Nat.mul_comm 2] at y2 y3
     have HN := Hid.mk hN
     obtain ⟨sg, hsg⟩ : ∃ sg, sg = sgn (f a e) := ⟨_, rfl⟩
     have hp := H.out.2.pos a e har hec
     have hsg0 : 0 ≤ sg := by rw [hsg]; unfold sgn; grind
     have ho : a ≠ e → sg = 0 := fun hne => by rw [hsg, H.out.2.off a e har hec hne]; rfl
     have HO := Hid.mk ho
     have HSG := Hid.mk hsg
     clear hN c5 c6 ho hsg hp
     go_wp2_with fail
     refine (sign_any _ (f a e) L _ HN.out).mono ?_
     rintro x w2 ⟨rfl, hb2⟩
     have HB3 := Hid.mk (HB2.out.trans (hb2.mono HB2.out.size))
     rw [← HSG.out]
     clear hb2 c0 c1 c2 y1 y2 y3
     by_cases hae : a = e
     ·have hae' : ((a : Int) != (e : Int)) = false := by simp [hae]
      clear hae
      go_wp2_with fail
      go_roundw
      case measure => simp [intOf]; omega
      case rel => exact ⟨e + 1, by omega, by go_num, HB3.out⟩
     ·have hae' : ((a : Int) != (e : Int)) = true := by simp; omega
      obtain rfl : sg = 0 := HO.out hae
      go_wp2_with fail
      go_roundw
      case measure => simp [intOf]; omega
      case rel => exact ⟨e + 1, by omega, by go_num, HB3.out⟩
    ·have hei : ¬ (e : Int) < (c : Int) := by omega
     clear c3 c4 c5 c6
     go_wp2_with fail
     go_roundw
     case measure => simp [intOf]; omega
     case rel => exact ⟨a + 1, by omega, by go_num, HB2.out⟩
  ·have hai : ¬ (a : Int) < (r : Int) := by omega
   go_wp2_with fail
   clear c0 c1 c2
   go_loopw [6] (fun i wr => ∃ q : Nat, q ≤ 99 ∧ i = .int .i64 q ∧ Below w.heap.size w wr) (fun i _ => 99 - (intOf i).toNat)
   case atStart => exact ⟨0, Nat.zero_le _, rfl, HB.out⟩
   case round =>
    rename World => wk
    obtain ⟨q, hq, rfl, hbel⟩ := hrel
    obtain ⟨-, ao, cap, c0, c1, c2, c3, c4, c5, c6⟩ := (H.out.1.keep (KR.of_below hbel)).open_
    have HB2 := Hid.mk hbel
    clear hbel
    obtain ⟨q1, hq1⟩ : ∃ q1, q1 = q + 1 := ⟨_, rfl⟩
    have hsum : (q : Int) + 1 = (q1 : Int) := by omega
    have hwQ : IntKind.i64.wrap (q1 : Int) = (q1 : Int) := IntWalk.i64_in _ (by omega)
    have HQ1 := Hid.mk hq1
    clear hq1
    by_cases hqr : q1 < r
    ·have hqri : (q1 : Int) < (r : Int) := by omega
     by_cases hqc : q1 < c
     ·have hqci : (q1 : Int) < (c : Int) := by omega
      have hqr0 : q < r := by have := HQ1.out; omega
      have hqc0 : q < c := by have := HQ1.out; omega
      have hqr0i : (q : Int) < (r : Int) := by omega
      have hqc0i : (q : Int) < (c : Int) := by omega
      obtain ⟨gL, rfl, y1⟩ := c5 q hqr0
      obtain ⟨nb, so, n, cp, y2, y3, -, -, hN⟩ := c6 q q hqr0 hqc0
      obtain ⟨gL', hgL', z1⟩ := c5 q1 hqr
      simp only [Option.some.injEq, Addr.mk.injEq, and_true] at hgL'
      subst hgL'
      obtain ⟨nb', so', n', cp', z2, z3, -, -, hN'⟩ := c6 q1 q1 hqr hqc
      rw [Nat.mul_comm 2] at y2 y3 z2 z3
      have HN := Hid.mk (And.intro hN hN')
      clear hN hN' c5 c6 c3 c4
      go_wp2_with fail
      refine (sign_any _ (f q q) L _ HN.out.1).mono ?_
      rintro x w2 ⟨rfl, hb2⟩
      have u1 := cell_later hb2 c1
      have u2 := cell_later hb2 c2
      have v1 := cell_later hb2 y1
      have v2 := cell_later hb2 y2
      have v3 := cell_later hb2 y3
      have x1 := cell_later hb2 z1
      have x2 := cell_later hb2 z2
      have x3 := cell_later hb2 z3
      obtain ⟨sg, hsg⟩ : ∃ sg, sg = sgn (f q q) := ⟨_, rfl⟩
      rw [← hsg]
      have K2 := Hid.mk (And.intro (HB2.out.trans (hb2.mono HB2.out.size)) (And.intro (HN.out.1.below hb2) (And.intro (HN.out.2.below hb2) hsg)))
      clear hb2 c0 c1 c2 y1 y2 y3 z1 z2 z3 hsg
      go_wp2_with fail
      go_still_tail 22, (by kernel_rfl)
      go_wp2_with fail
      obtain ⟨X, hX⟩ := Int.eq_ofNat_of_zero_le (H.out.2.pos q q hqr0 hqc0)
      obtain ⟨Y, hY⟩ := Int.eq_ofNat_of_zero_le (H.out.2.pos q1 q1 hqr hqc)
      have hdv : X ∣ Y := by
       have h1 := H.out.2.div q (by have := HQ1.out; omega) (by have := HQ1.out; omega)
       rw [← HQ1.out, hX, hY] at h1
       exact Int.ofNat_dvd.1 h1
      have hbd := (Below.refl w2.heap.size w2).drew
      refine (divides_any _ _ X Y L L _ (by rw [← hX]; exact K2.out.2.1.below hbd) (by rw [← hY]; exact K2.out.2.2.1.below hbd) hL hL).mono ?_
      rintro x w3 ⟨rfl, hb3⟩
      rw [decide_eq_true hdv]
      have hb23 : Below w2.heap.size w2 w3 := hbd.trans (hb3.mono hbd.size)
      have u2' := cell_later hb23 u2
      have x1' := cell_later hb23 x1
      have x2' := cell_later hb23 x2
      have x3' := cell_later hb23 x3
      have K3 := Hid.mk (And.intro (K2.out.1.trans (hb23.mono K2.out.1.size)) (And.intro (K2.out.2.2.1.below hb23) (And.intro hX (And.intro hY hdv))))
      clear hb3 hb23 hbd u1 u2 v1 v2 v3 x1 x2 x3 hX hY hdv
      by_cases hs0 : sg = 0
      ·subst hs0
       have hf0 : sgn (f q1 q1) = 0 := by
        have h1 := K2.out.2.2.2
        have h2 : X = 0 := by
         have h3 := K3.out.2.2.1
         unfold sgn at h1
         rw [h3] at h1
         split at h1
         ·omega
         ·split at h1 <;> omega
        have h4 := K3.out.2.2.2.2
        rw [h2, Nat.zero_dvd] at h4
        rw [K3.out.2.2.2.1, h4]
        rfl
       have HF0 := Hid.mk hf0
       clear hf0
       go_wp2_with fail
       refine (sign_any _ (f q1 q1) L _ K3.out.2.1).mono ?_
       rintro x w4 ⟨rfl, hb4⟩
       rw [HF0.out]
       have K4 := Hid.mk (K3.out.1.trans (hb4.mono K3.out.1.size))
       clear hb4 u2' x1' x2' x3'
       go_wp2_with fail
       go_roundw
       case measure => simp [intOf]; omega
       case rel => exact ⟨q + 1, by have := HQ1.out; omega, by go_num, K4.out⟩
      ·have hs1 : (sg == 0) = false := beq_eq_false_iff_ne.2 hs0
       clear hs0
       go_wp2_with fail
       go_roundw
       case measure => simp [intOf]; omega
       case rel => exact ⟨q + 1, by have := HQ1.out; omega, by go_num, K3.out.1⟩
     ·have hqci : ¬ (q1 : Int) < (c : Int) := by omega
      clear c3 c4 c5 c6
      go_wp2_with fail
      go_ret
      exact ⟨rfl, HB2.out⟩
    ·have hqri : ¬ (q1 : Int) < (r : Int) := by omega
     clear c3 c4 c5 c6
     go_wp2_with fail
     go_ret
     exact ⟨rfl, HB2.out⟩
end Go.Proofs.YtfjbijpagaipnaaGreatDoor.R
namespace Go.Proofs.YtfjbijpagaipnaaGreatDoor
open Go.RowKit R
theorem DgRes.fine {r c : Nat} {zs : List Int} {xs : List Mx} (h : DgRes r c zs xs) (hr : r ≤ 4) (hc : c ≤ 4) (j : Nat) (hj : j < 5) : Fine (xs.getD j mxD).1 (xs.getD j mxD).2.1 (xs.getD j mxD).2.2 := by
 obtain ⟨x, rfl, h1, l1, l2, l3, l4, l5⟩ := h
 obtain ⟨m, hm⟩ : ∃ m, m = 60000000 := ⟨_, rfl⟩
 have hb : bD 1579 ≤ 16 * (m + 1) := by unfold bD; omega
 obtain ⟨k, hk⟩ := h1.low
 match j, hj with
 | 0, _ => exact fine_bits hr hc l1 (ent_all (P := fun z => z.natAbs < 2 ^ (16 * (m + 1))) (fun i j hi hj => pow_up (hk.b i j hi hj) (by omega))) (by omega)
 | 1, _ => exact fine_bits hr hr l2 (ent_all (P := fun z => z.natAbs < 2 ^ (16 * (m + 1))) (fun i j hi hj => pow_up (h1.bits.1 i j hi hj) hb)) (by omega)
 | 2, _ => exact fine_bits hr hr l3 (ent_all (P := fun z => z.natAbs < 2 ^ (16 * (m + 1))) (fun i j hi hj => pow_up (h1.bits.2.1 i j hi hj) hb)) (by omega)
 | 3, _ => exact fine_bits hc hc l4 (ent_all (P := fun z => z.natAbs < 2 ^ (16 * (m + 1))) (fun i j hi hj => pow_up (h1.bits.2.2.1 i j hi hj) hb)) (by omega)
 | 4, _ => exact fine_bits hc hc l5 (ent_all (P := fun z => z.natAbs < 2 ^ (16 * (m + 1))) (fun i j hi hj => pow_up (h1.bits.2.2.2 i j hi hj) hb)) (by omega)
set_option maxRecDepth 100000 in
set_option maxHeartbeats 4000000 in
theorem diagonal_any (B W T b1 b2 : Nat) (ms : List Hm) (nx : Nat) (es : List Ent) (h : Int) (w : World) (hI : LInv B w W T b1 b2 ms nx es) (hnx : nx < 1000000 - 5) :
 Calls Tryz.prog 65 #[.pointer (some ⟨W, 0, none⟩), .int .i64 h] w fun x w' => x = .returned (.bool true) ∧ StepOut B w w' W T b1 b2 nx := by
 have hB := hI.size
 have hle := hI.le24
 have H := Hid.mk hI
 clear hI
 go_enter Tryz.func65, Tryz.ntmps65
 go_wp2_with fail
 refine (due_any B W T b1 b2 ms nx es h false _ H.out).mono ?_
 rintro x w1 ⟨⟨v, want, rfl, hdue⟩, hb1⟩
 have hI1 := H.out.below hb1
 obtain ⟨ioa, icap, loa, lcap, tv, c0, -⟩ := hI1.lcells
 have K1 := Hid.mk (And.intro hdue (And.intro hb1 hI1))
 have hw1 := hb1.size
 clear hdue hb1 hI1
 go_wp2_with fail
 refine (twDiagonal_any B T b1 b2 h ms nx _ K1.out.2.2.1 H.out.2.2.dst hnx).mono ?_
 rintro x w2 ⟨l, e, ok, xs, rfl, hrel, htw⟩
 have hcase := many_case H.out.2.2.dst K1.out.1 hrel
 have hchg : Chg (St2 b1 b2) w1 w2 := by rcases htw with ⟨-, -, -, f⟩ | ⟨-, -, -, f⟩ <;> exact f
 have hbel2 : Below B w w2 := (K1.out.2.1.mono hB).trans (hchg.below (St2.le H.out.1.2.2.2.2.2.2.1 H.out.1.2.2.2.2.2.2.2) (by omega))
 have hw2 := hbel2.size
 obtain ⟨lo, ln, lcp, rfl⟩ : ∃ o n p, l = .slice o n p := by rcases htw with ⟨-, rfl, -⟩ | ⟨-, ⟨_, _, rfl, -⟩, -⟩ <;> exact ⟨_, _, _, rfl⟩
 have hnum := H.out.2.2.num
 have hcn := cnt_none ms
 rw [H.out.2.2.len, ← hnum] at hcn
 have HCN := Hid.mk hcn
 have hrows := K1.out.2.2.stores hchg
 obtain ⟨hv0, iv0, lv0, tv0, hL0, hI0, -⟩ := id hrows
 have K2 := Hid.mk (And.intro htw (And.intro hchg (And.intro hbel2 (And.intro hcase (And.intro hrows (And.intro hL0 hI0))))))
 clear hrel htw hcase hchg hbel2 hnum hcn hrows hL0 hI0 c0
 go_wp2_with fail
 refine (full_raw W T nx 5 _ _ _ _ es _ (by omega) K2.out.2.2.2.2.2.1 K2.out.2.2.2.2.2.2 hle).mono ?_
 rintro x w' ⟨rfl, rfl⟩
 rcases K2.out.2.2.2.1 with ⟨rfl, rfl, hw⟩ | ⟨rfl, rfl, rfl, hroom⟩ | ⟨rfl, rfl, rfl, hroom, en, i, r, c, zs, hen, hi, hx, hf, rfl, hxl, hres⟩
 ·rcases K2.out.1 with ⟨-, hl, hT2, -⟩ | ⟨e1, -⟩
  ·simp only [Value.slice.injEq] at hl
   obtain ⟨rfl, rfl, rfl⟩ := hl
   have HF : Hid (StepOut B w w' W T b1 b2 nx) := Hid.mk ⟨⟨ms, nx, es, ⟨hT2, K2.out.2.2.2.2.1, H.out.2.2⟩, by omega⟩, K2.out.2.2.1⟩
   have hnil := nil_int
   clear hT2
   have hee : (e == e) = true := by simp
   rcases hw with rfl | rfl
   ·go_wp2_with fail
    go_ret
    exact ⟨rfl, HF.out⟩
   ·go_wp2_with fail
    go_ret
    exact ⟨rfl, HF.out⟩
  ·cases e1
 ·rcases K2.out.1 with ⟨-, hl, hT2, -⟩ | ⟨e1, -⟩
  ·simp only [Value.slice.injEq] at hl
   obtain ⟨rfl, rfl, rfl⟩ := hl
   have HF : Hid (StepOut B w w' W T b1 b2 nx) := Hid.mk ⟨⟨ms, nx, es, ⟨hT2, K2.out.2.2.2.2.1, H.out.2.2⟩, by omega⟩, K2.out.2.2.1⟩
   have hnil := nil_int
   clear hT2
   have hfl : decide (24 < es.length + 5) = true := decide_eq_true (by have := HCN.out; omega)
   rw [hfl]
   clear hroom hfl
   go_wp2_with fail
   go_ret
   exact ⟨rfl, HF.out⟩
  ·cases e1
 ·have hfl : decide (24 < es.length + 5) = false := decide_eq_false (by have := HCN.out; omega)
  rw [hfl]
  have HD := Hid.mk (And.intro hroom (And.intro hen (And.intro hi (And.intro hx (And.intro hf (And.intro hxl hres))))))
  obtain ⟨p1, hp1⟩ : ∃ p1, p1 = en.2.2 := ⟨_, rfl⟩
  rw [← hp1]
  have HP1 := Hid.mk hp1
  clear hroom hen hi hx hf hxl hres hfl hp1
  go_wp2_with fail
  obtain ⟨hT2, hb, hz, q1, q2, q3, q4⟩ : TwH B w' T b1 b2 (puts ms nx xs) (nx + 5) ∧ ∃ hb hz, (Value.slice lo ln lcp = .slice (some ⟨hb, 0, none⟩) 5 5) ∧ w1.heap.size ≤ hb ∧ (hz.length = 5 ∧ ∀ j, j < 5 → hz.getD j 0 = nx + j) ∧ R.Own w' (Value.slice lo ln lcp) hz := by
   rcases K2.out.1 with ⟨e1, -⟩ | ⟨-, ⟨hb, hz, a1, a2, a3, a4, a5⟩, a6, -⟩
   ·cases e1
   ·exact ⟨a6, hb, hz, a1, a2, ⟨a3, a4⟩, a5⟩
  simp only [Value.slice.injEq] at q1
  obtain ⟨rfl, rfl, rfl⟩ := q1
  obtain ⟨hv, iv, lv, tv', ls, sL, sI, sP, sX, sS, sM, sH, sN, sB⟩ := K1.out.2.2.storesG K2.out.2.1 hb q2
  have hxs5 : xs.length ≤ ms.countP Option.isNone := by have := HD.out.1; have := HD.out.2.2.2.2.2.1; omega
  have hfine := DgRes.fine HD.out.2.2.2.2.2.2 HD.out.2.2.2.2.1.1 HD.out.2.2.2.2.1.2.1
  have hdst : Dst (puts ms nx xs) := (H.out.2.2.pushes xs [0, 0, 0, 0, 0] hxs5 (by rw [HD.out.2.2.2.2.2.1]; rfl)).dst
  have hgS : ¬ S4 W iv lv tv' hb := fun hs => by have := (sS hb hs).2; omega
  have K3 := Hid.mk (And.intro hT2 (And.intro q2 (And.intro q3 (And.intro q4 (And.intro sL (And.intro sI (And.intro sP (And.intro sX (And.intro sS (And.intro sM (And.intro sH (And.intro sN (And.intro sB (And.intro hfine (And.intro hdst hxs5)))))))))))))))
  clear hT2 q2 q3 q4 sL sI sP sX sS sM sH sN sB hfine hdst
  refine (held_any B W T b1 b2 hb 5 nx (nx + 5) iv lv tv' (puts ms nx xs) es xs (ksOf ms nx xs) _ K3.out.1 K3.out.2.2.2.2.1 K3.out.2.2.2.2.2.1 K3.out.2.2.2.2.2.2.1 K3.out.2.2.2.2.2.2.2.1 (fun k hk => (K3.out.2.2.2.2.2.2.2.2.1 k hk).1) (by omega) (by omega) (fun j hj => ?_) K3.out.2.2.2.2.2.2.2.2.2.2.2.2.2.2.1 hle (fun j hj => ?_) hgS).mono ?_
  ·obtain ⟨a1, a2⟩ := puts_at (nx := nx) H.out.2.2.len hxs5 j (by rw [HD.out.2.2.2.2.2.1]; exact hj)
   exact ⟨a1, a2, K3.out.2.2.2.2.2.2.2.2.2.2.2.2.2.1 j hj⟩
  ·have := K3.out.2.2.2.1.cell K3.out.2.2.1.1 j hj
   rw [K3.out.2.2.1.2 j hj] at this
   exact this
  rintro x w3 ⟨ov, ps, hpl, rfl, hst⟩
  have hst0 := hst
  obtain ⟨iv', lv', tv'', ⟨hov, hovS⟩, ⟨hL1, -⟩, -, -, hC1⟩ := hst
  rw [hpl] at hL1
  have hoR : R.Own w3 (.slice (some ⟨hb, 0, none⟩) 5 5) hz := K3.out.2.2.2.1.of_block (fun g hg => by
   simp [Value.ownBlock] at hg
   subst hg
   exact hC1.block K3.out.2.2.2.1.lt hgS)
  have hhR : RowG w3 25 hv (hlc ls) := K3.out.2.2.2.2.2.2.2.2.2.2.1.1.chg hC1 (fun k hk hs => K3.out.2.2.2.2.2.2.2.2.2.2.1.2.1 k hk (.inl (.inl hs)))
  have K4 := Hid.mk (And.intro hst0 (And.intro hov (And.intro hL1 (And.intro hoR (And.intro hhR (And.intro hpl hC1))))))
  have hw3 := hC1.size
  obtain ⟨og, ocap, rfl⟩ : ∃ og ocap, ov = .slice (some ⟨og, 0, none⟩) 5 ocap := by
   rcases hov with ⟨-, h0⟩ | ⟨g, cap, cur, h1, -⟩
   ·have := congrArg List.length h0; rw [ptrs_len, hpl] at this; simp at this
   ·rw [ptrs_len, hpl] at h1; exact ⟨g, cap, h1⟩
  clear hst0 hov hovS hL1 hoR hhR hC1
  go_wp2_with fail
  refine (mine_any W T (nx + 5) hb 5 hv iv' lv' tv'' ls hz _ K4.out.2.2.1 K4.out.2.2.2.2.1 K4.out.2.2.2.1 K3.out.2.2.1.1 (by omega) (by have := K3.out.2.2.2.2.2.2.2.2.2.2.2.1; omega)).mono ?_
  rintro x w4 ⟨rfl, hmine⟩
  obtain ⟨hinv, hbB, -⟩ := many_inv K3.out.1 HD.out.2.2.2.2.2.1 (by omega) (by omega) H.out.2.2 HD.out.1 K3.out.2.2.2.2.1 K3.out.2.2.2.2.2.1 K3.out.2.2.2.2.2.2.1 K3.out.2.2.2.2.2.2.2.1 K3.out.2.2.2.2.2.2.2.2.1 K3.out.2.2.2.2.2.2.2.2.2.1 K3.out.2.2.2.2.2.2.2.2.2.2.1 K3.out.2.2.2.2.2.2.2.2.2.2.2.1 K3.out.2.2.2.2.2.2.2.2.2.2.2.2.1
   K3.out.2.2.2.1.lt K3.out.2.1 (R.Own.ty_ K3.out.2.2.2.1) (by omega) hpl K3.out.2.2.2.2.2.2.2.2.2.2.2.2.2.1 K4.out.1 (fun a1 a2 a3 hL2 => by
    obtain ⟨rfl, rfl, rfl⟩ := Lw.inj hL2 K4.out.2.2.1
    exact hmine)
  have hov4 : RowG w4 130 (.slice (some ⟨og, 0, none⟩) 5 ocap) (ptrs ps) := by
   obtain ⟨_, _, _, _, hC2, _⟩ := hmine
   refine K4.out.2.1.chg hC2 (fun k hk hs => ?_)
   have hkt := (K4.out.2.1.own k hk).2
   rcases hs with hs | hs | hs
   ·exact ty_ne hkt K4.out.2.2.1.ty (by decide) hs
   ·exact ty_ne hkt (K4.out.2.2.2.2.1.own k hs).2 (by decide) rfl
   ·exact ty_ne hkt (R.Own.ty_ K4.out.2.2.2.1) (by decide) hs
  have hB4 : Below B w w4 := K2.out.2.2.1.trans hbB
  have hw4 := hB4.size
  obtain ⟨x, hxs, hIs, -⟩ := HD.out.2.2.2.2.2.2
  obtain ⟨p0, pu, pw, pv, pt, rfl⟩ : ∃ p0 pu pw pv pt, ps = [p0, pu, pw, pv, pt] := by
   match ps, hpl with
   | [a, b, d, e, f], _ => exact ⟨a, b, d, e, f, rfl⟩
  have hin : ∀ j, j < 5 → ∃ lo hi, MatAt w4 lo hi ([p0, pu, pw, pv, pt].getD j 0) (xs.getD j mxD).1 (xs.getD j mxD).2.1 (fz (xs.getD j mxD).2.1 (xs.getD j mxD).2.2) := fun j hj => by
   obtain ⟨a1, a2⟩ := puts_at (nx := nx) H.out.2.2.len hxs5 j (by rw [HD.out.2.2.2.2.2.1]; exact hj)
   have hmem : (nx + j, mxT (xs.getD j mxD), [p0, pu, pw, pv, pt].getD j 0) ∈ es ++ ents nx xs [p0, pu, pw, pv, pt] := List.mem_append.2 (.inr (List.mem_map.2 ⟨j, List.mem_range.2 hj, rfl⟩))
   exact (hinv.entry hmem a1 a2 rfl).2.2
  have h0 := hin 0 (by omega)
  have h1 := hin 1 (by omega)
  have h2 := hin 2 (by omega)
  have h3 := hin 3 (by omega)
  have h4 := hin 4 (by omega)
  rw [hxs] at h0 h1 h2 h3 h4
  obtain ⟨lo0, hi0, h0⟩ := h0
  obtain ⟨lo1, hi1, h1⟩ := h1
  obtain ⟨lo2, hi2, h2⟩ := h2
  obtain ⟨lo3, hi3, h3⟩ := h3
  obtain ⟨lo4, hi4, h4⟩ := h4
  obtain ⟨gs0, r0⟩ := h0.isR
  obtain ⟨gs1, r1⟩ := h1.isR
  obtain ⟨gs2, r2⟩ := h2.isR
  obtain ⟨gs3, r3⟩ := h3.isR
  obtain ⟨gs4, r4⟩ := h4.isR
  obtain ⟨-, -, lom, him, hm⟩ := hinv.entry (List.mem_append.2 (.inl HD.out.2.1)) HD.out.2.2.1 (puts_old xs ms nx i _ H.out.2.2.len hxs5 HD.out.2.2.2.1) rfl
  obtain ⟨gsm, rm⟩ := hm.isR
  rw [← HP1.out] at rm
  obtain ⟨M, hM⟩ : ∃ M, M = 60000000 := ⟨_, rfl⟩
  have hr4 := HD.out.2.2.2.2.1.1
  have hc4 := HD.out.2.2.2.2.1.2.1
  have hML : M ≤ 60000000 := by omega
  obtain ⟨k0, hlow⟩ := hIs.low
  have hbD9 : bD 1579 ≤ 16 * M := by unfold bD; omega
  have K5 := Hid.mk (And.intro (r0.fit (m := M) (fun i j hi hj => pow_up (hlow.b i j hi hj) (by omega))) (And.intro (r1.fit (m := M) (fun i j hi hj => pow_up (hIs.bits.1 i j hi hj) hbD9)) (And.intro (r2.fit (m := M) (fun i j hi hj => pow_up (hIs.bits.2.1 i j hi hj) hbD9)) (And.intro (rm.tight (fits_fz HD.out.2.2.2.2.1)) (And.intro hIs (And.intro hinv (And.intro hB4 (And.intro hM (And.intro (r3.fit (m := M) (fun i j hi hj => pow_up (hIs.bits.2.2.1 i j hi hj) hbD9)) (r4.fit (m := M) (fun i j hi hj => pow_up (hIs.bits.2.2.2 i j hi hj) hbD9)))))))))))
  have HL := Hid.mk hlow
  obtain ⟨-, -, -, m0, m1, -⟩ := rm.open_
  have o0 : w4.cell? ⟨og, 0, none⟩ = some (.pointer (some ⟨p0, 0, none⟩)) := by
   obtain ⟨ao, cp, e1, -, -, -, e2⟩ := hov4.shape
   simp only [Value.slice.injEq] at e1
   obtain ⟨g', e3, e4⟩ := e2 0 (by simp [ptrs])
   rw [← e1.1] at e3
   simp only [Option.some.injEq, Addr.mk.injEq] at e3
   rw [e3.1, e4]; simp [ptrs]
  have o1 : w4.cell? ⟨og, 1, none⟩ = some (.pointer (some ⟨pu, 0, none⟩)) := by
   obtain ⟨ao, cp, e1, -, -, -, e2⟩ := hov4.shape
   simp only [Value.slice.injEq] at e1
   obtain ⟨g', e3, e4⟩ := e2 1 (by simp [ptrs])
   rw [← e1.1] at e3
   simp only [Option.some.injEq, Addr.mk.injEq] at e3
   rw [e3.1, e4]; simp [ptrs]
  have o2 : w4.cell? ⟨og, 2, none⟩ = some (.pointer (some ⟨pw, 0, none⟩)) := by
   obtain ⟨ao, cp, e1, -, -, -, e2⟩ := hov4.shape
   simp only [Value.slice.injEq] at e1
   obtain ⟨g', e3, e4⟩ := e2 2 (by simp [ptrs])
   rw [← e1.1] at e3
   simp only [Option.some.injEq, Addr.mk.injEq] at e3
   rw [e3.1, e4]; simp [ptrs]
  have o3 : w4.cell? ⟨og, 3, none⟩ = some (.pointer (some ⟨pv, 0, none⟩)) := by
   obtain ⟨ao, cp, e1, -, -, -, e2⟩ := hov4.shape
   simp only [Value.slice.injEq] at e1
   obtain ⟨g', e3, e4⟩ := e2 3 (by simp [ptrs])
   rw [← e1.1] at e3
   simp only [Option.some.injEq, Addr.mk.injEq] at e3
   rw [e3.1, e4]; simp [ptrs]
  have o4 : w4.cell? ⟨og, 4, none⟩ = some (.pointer (some ⟨pt, 0, none⟩)) := by
   obtain ⟨ao, cp, e1, -, -, -, e2⟩ := hov4.shape
   simp only [Value.slice.injEq] at e1
   obtain ⟨g', e3, e4⟩ := e2 4 (by simp [ptrs])
   rw [← e1.1] at e3
   simp only [Option.some.injEq, Addr.mk.injEq] at e3
   rw [e3.1, e4]; simp [ptrs]
  have hnil := nil_cmp ⟨og, 0, none⟩ 5 ocap
  clear hin h0 h1 h2 h3 h4 r0 r1 r2 r3 r4 rm hm hinv hB4 hbB hov4 hxs hIs hM hxs5 hlow hbD9
  go_wp2_with fail
  refine (diagonal_yes p0 r c gs0 (fz c x.d) lo0 (2 * M) _ K5.out.1 ⟨fun i j hi hj => ?_, K5.out.2.2.2.2.1.diag, K5.out.2.2.2.2.1.div⟩ (by omega) (by omega) (by omega)).mono ?_
  ·show 0 ≤ ent c x.d i j
   rcases Nat.decEq i j with hij | hij
   ·rw [K5.out.2.2.2.2.1.diag i j hi hj hij]; exact Int.le_refl _
   ·subst hij
    rcases Nat.lt_or_ge i k0 with hk | hk
    ·exact Int.le_of_lt (HL.out.low.pos i hk)
    ·rw [HL.out.low.out i i hi hj (.inl hk)]; exact Int.le_refl _
  rintro x5 w5 ⟨rfl, hb5⟩
  have K6 := Hid.mk hb5
  have hw5 := hb5.size
  have m05 := cell_later hb5 m0
  have m15 := cell_later hb5 m1
  have o05 := cell_later hb5 o0
  have o15 := cell_later hb5 o1
  have o25 := cell_later hb5 o2
  have o35 := cell_later hb5 o3
  have o45 := cell_later hb5 o4
  clear hb5 m0 m1 o0 o1 o2 o3 o4
  go_wp2_with fail
  go_still_tail 10, (by kernel_rfl)
  go_wp2_with fail
  have hbd : Below w4.heap.size w4 w5.drew := K6.out.drew
  refine (inverse_yes pu pw r (2 * M) gs1 gs2 (fz r x.u) (fz r x.s) lo1 lo2 _ (K5.out.2.1.keep (KR.of_below hbd)) (K5.out.2.2.1.keep (KR.of_below hbd)) (by omega) (by omega) (fun i j hi hj => K5.out.2.2.2.2.1.inv.us i j hi hj)).mono ?_
  rintro x5 w6 ⟨rfl, hb6⟩
  have hb46 : Below w4.heap.size w4 w6 := hbd.trans (hb6.mono hbd.size)
  have K7 := Hid.mk hb46
  have m16 := cell_later hb6 m15
  have o06 := cell_later hb6 o05
  have o16 := cell_later hb6 o15
  have o36 := cell_later hb6 o35
  have o46 := cell_later hb6 o45
  clear hb6 hb46 hbd o15 o25 o05 o35 o45 m05 m15
  go_wp2_with fail
  go_still_tail 10, (by kernel_rfl)
  go_wp2_with fail
  have hbd : Below w4.heap.size w4 w6.drew := K7.out.drew
  refine (inverse_yes pv pt c (2 * M) gs3 gs4 (fz c x.v) (fz c x.t) lo3 lo4 _ (K5.out.2.2.2.2.2.2.2.2.1.keep (KR.of_below hbd)) (K5.out.2.2.2.2.2.2.2.2.2.keep (KR.of_below hbd)) (by omega) (by omega) (fun i j hi hj => K5.out.2.2.2.2.1.inv.vt i j hi hj)).mono ?_
  rintro x5 w7 ⟨rfl, hb7⟩
  have hb47 : Below w4.heap.size w4 w7 := hbd.trans (hb7.mono hbd.size)
  have K8 := Hid.mk hb47
  have o07 := cell_later hb7 o06
  have o17 := cell_later hb7 o16
  have o37 := cell_later hb7 o36
  clear hb7 hb47 hbd o06 o16 o36 o46 m16
  go_wp2_with fail
  refine (mtimes_any (2 * M) 4 pu r r gs1 (fz r x.u) lo1 p1 c gsm (fz c zs) lom _ (K5.out.2.1.keep (KR.of_below K8.out)) (K5.out.2.2.2.1.keep (KR.of_below K8.out)) (by omega) (by omega) (by omega) (by omega)).mono ?_
  rintro x5 w8 ⟨rfl, ⟨go, hIp⟩, hb8⟩
  have hb48 : Below w4.heap.size w4 w8 := K8.out.trans (hb8.mono K8.out.size)
  have o08 := cell_later hb8 o07
  have o38 := cell_later hb8 o37
  have K9 := Hid.mk (And.intro hIp hb48)
  clear hIp hb8 hb48 o07 o17 o37
  go_wp2_with fail
  refine (mtimes_any (2 * M + 4 + 12) (2 * M) w7.heap.size r c go _ 0 pv c gs3 (fz c x.v) lo3 _ K9.out.1 (K5.out.2.2.2.2.2.2.2.2.1.keep (KR.of_below K9.out.2)) (by omega) (by omega) (by omega) (by omega)).mono ?_
  rintro x5 w9 ⟨rfl, ⟨go2, hIq⟩, hb9⟩
  have hb49 : Below w4.heap.size w4 w9 := K9.out.2.trans (hb9.mono K9.out.2.size)
  have o09 := cell_later hb9 o08
  have K10 := Hid.mk (And.intro hIq (And.intro ((K5.out.1.keep (KR.of_below hb49)).mono (show 2 * M ≤ 2 * M + 4 + 12 + 2 * M + 12 by omega)) hb49))
  clear hIq hb9 hb49 o08 o38
  go_wp2_with fail
  try go_quiet (fail)
  try go_wp2_with fail
  refine (same_yes w8.heap.size r c go2 _ 0 p0 gs0 _ lo0 (2 * M + 4 + 12 + 2 * M + 12) _ K10.out.1 K10.out.2.1 (fun i j hi hj => K5.out.2.2.2.2.1.inv.d i j hi hj) (by omega) (by omega) (by omega)).mono ?_
  rintro x5 w10 ⟨rfl, hb10⟩
  have hb410 : Below w4.heap.size w4 w10 := K10.out.2.2.trans (hb10.mono K10.out.2.2.size)
  have HF : Hid (StepOut B w w10 W T b1 b2 nx) := Hid.mk ⟨⟨_, _, _, K5.out.2.2.2.2.2.1.below hb410, by omega⟩, K5.out.2.2.2.2.2.2.1.trans (hb410.mono (by omega))⟩
  clear hb10 hb410
  go_wp2_with fail
  go_ret
  exact ⟨rfl, HF.out⟩
open Go.RowKit R
end Go.Proofs.YtfjbijpagaipnaaGreatDoor
