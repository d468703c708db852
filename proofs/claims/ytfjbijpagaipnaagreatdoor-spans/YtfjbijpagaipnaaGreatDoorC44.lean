import Derived.Test.YtfjbijpagaipnaaGreatDoorC39
import Derived.Test.YtfjbijpagaipnaaGreatDoorC42
import Derived.Test.YtfjbijpagaipnaaGreatDoorC43
import Derived.Deep.RegionHeld3
import Derived.Test.YtfjbijpagaipnaaGreatDoorC21
import Derived.Test.YtfjbijpagaipnaaGreatDoorC24
import Derived.Test.YtfjbijpagaipnaaGreatDoorC18
import Derived.Test.YtfjbijpagaipnaaGreatDoorC13
import Derived.Deep.CutRange
import Derived.BigQuiet
import Derived.StillTailTactics
import Derived.Test.YtfjbijpagaipnaaGreatDoorC36
namespace Go.Proofs.YtfjbijpagaipnaaGreatDoor
open Go.RowKit
theorem SumRel.uniq {ms : List Hm} {nx : Nat} {g h k e k2 e2 : Int} {ms1 ms2 : List Hm} {n1 n2 : Nat} (hd : Dst ms) (a : SumRel ms nx g h k e ms1 n1) (b : SumRel ms nx g h k2 e2 ms2 n2) : k = k2 ∧ e = e2 ∧ ms1 = ms2 ∧ n1 = n2 := by
 rcases a with ⟨ha, rfl, rfl, rfl, rfl⟩ | ⟨i, hd1, r, q, zs, j, hd2, q', c, ys, hi, hx, hxg, hj, hy, hyh, ha⟩
 ·rcases b with ⟨hb, rfl, rfl, rfl, rfl⟩ | ⟨i, hd1, r, q, zs, j, hd2, q', c, ys, hi, hx, hxg, hj, hy, hyh, hb⟩
  ·exact ⟨rfl, rfl, rfl, rfl⟩
  ·rcases ha with ha | ha
   ·exact absurd hxg (ha i hi _ hx)
   ·exact absurd hyh (ha j hj _ hy)
 ·rcases b with ⟨hb, rfl, rfl, rfl, rfl⟩ | ⟨i', hd1', r', q1, zs', j', hd2', q1', c', ys', hi', hx', hxg', hj', hy', hyh', hb⟩
  ·rcases hb with hb | hb
   ·exact absurd hxg (hb i hi _ hx)
   ·exact absurd hyh (hb j hj _ hy)
  ·have e1 : i = i' := hd i i' _ _ hi hi' hx hx' (by show hd1 = hd1'; omega)
   have e2 : j = j' := hd j j' _ _ hj hj' hy hy' (by show hd2 = hd2'; omega)
   subst e1; subst e2
   rw [hx] at hx'
   rw [hy] at hy'
   simp only [Option.some.injEq, Prod.mk.injEq] at hx' hy'
   obtain ⟨rfl, rfl, rfl, rfl⟩ := hx'
   obtain ⟨rfl, rfl, rfl, rfl⟩ := hy'
   rcases ha with ⟨a1, rfl, rfl, rfl, rfl⟩ | ⟨a1, a2, rfl, rfl, rfl, rfl⟩ | ⟨a1, a2, a3, rfl, rfl, rfl, rfl⟩ | ⟨a1, a2, rfl, rfl, n, rk, bs, a4, a3, rfl, rfl⟩
   ·rcases hb with ⟨b1, rfl, rfl, rfl, rfl⟩ | ⟨b1, _⟩ | ⟨b1, _⟩ | ⟨b1, _⟩
    ·exact ⟨rfl, rfl, rfl, rfl⟩
    ·exact absurd b1 a1
    ·exact absurd b1 a1
    ·exact absurd b1 a1
   ·rcases hb with ⟨b1, _⟩ | ⟨b1, b2, rfl, rfl, rfl, rfl⟩ | ⟨b1, b2, _⟩ | ⟨b1, b2, _⟩
    ·exact absurd a1 b1
    ·exact ⟨rfl, rfl, rfl, rfl⟩
    ·exact absurd b2 a2
    ·exact absurd b2 a2
   ·rcases hb with ⟨b1, _⟩ | ⟨b1, b2, _⟩ | ⟨b1, b2, b3, rfl, rfl, rfl, rfl⟩ | ⟨b1, b2, _, _, n, _, _, _, b3, _⟩
    ·exact absurd a1 b1
    ·exact absurd a2 b2
    ·exact ⟨rfl, rfl, rfl, rfl⟩
    ·exact absurd b3.2.1 (a3 n b3.1)
   ·rcases hb with ⟨b1, _⟩ | ⟨b1, b2, _⟩ | ⟨b1, b2, b3, _⟩ | ⟨b1, b2, rfl, rfl, n', rk', bs', b4, b3, rfl, rfl⟩
    ·exact absurd a1 b1
    ·exact absurd a2 b2
    ·exact absurd a3.2.1 (b3 n a3.1)
    ·obtain ⟨rfl, rfl⟩ := a4.uniq b4
     rw [a3.uniq b3]
     exact ⟨rfl, rfl, rfl, rfl⟩
theorem EqRel.uniq {ms : List Hm} {g h : Int} {y y2 : Bool} {e e2 : Int} (hd : Dst ms) (a : EqRel ms g h y e) (b : EqRel ms g h y2 e2) : y = y2 ∧ e = e2 := by
 rcases a with ⟨ha, rfl, rfl⟩ | ⟨i, hd1, r, q, zs, j, hd2, q', c, ys, hi, hx, hxg, hj, hy, hyh, ha⟩
 ·rcases b with ⟨hb, rfl, rfl⟩ | ⟨i, hd1, r, q, zs, j, hd2, q', c, ys, hi, hx, hxg, hj, hy, hyh, hb⟩
  ·exact ⟨rfl, rfl⟩
  ·rcases ha with ha | ha
   ·exact absurd hxg (ha i hi _ hx)
   ·exact absurd hyh (ha j hj _ hy)
 ·rcases b with ⟨hb, rfl, rfl⟩ | ⟨i', hd1', r', q1, zs', j', hd2', q1', c', ys', hi', hx', hxg', hj', hy', hyh', hb⟩
  ·rcases hb with hb | hb
   ·exact absurd hxg (hb i hi _ hx)
   ·exact absurd hyh (hb j hj _ hy)
  ·have e1 : i = i' := hd i i' _ _ hi hi' hx hx' (by show hd1 = hd1'; omega)
   have e2 : j = j' := hd j j' _ _ hj hj' hy hy' (by show hd2 = hd2'; omega)
   subst e1; subst e2
   rw [hx] at hx'
   rw [hy] at hy'
   simp only [Option.some.injEq, Prod.mk.injEq] at hx' hy'
   obtain ⟨rfl, rfl, rfl, rfl⟩ := hx'
   obtain ⟨rfl, rfl, rfl, rfl⟩ := hy'
   rcases ha with ⟨a1, rfl, rfl⟩ | ⟨a1, a2, rfl, rfl⟩ | ⟨a1, a2, rfl, a3⟩
   ·rcases hb with ⟨b1, rfl, rfl⟩ | ⟨b1, _⟩ | ⟨b1, _⟩
    ·exact ⟨rfl, rfl⟩
    ·exact absurd b1 a1
    ·exact absurd b1 a1
   ·rcases hb with ⟨b1, _⟩ | ⟨b1, b2, rfl, rfl⟩ | ⟨b1, b2, _⟩
    ·exact absurd a1 b1
    ·exact ⟨rfl, rfl⟩
    ·exact absurd b2 a2
   ·rcases hb with ⟨b1, _⟩ | ⟨b1, b2, _⟩ | ⟨b1, b2, rfl, b3⟩
    ·exact absurd a1 b1
    ·exact absurd a2 b2
    ·exact ⟨Bool.eq_iff_iff.2 (a3.1.trans b3.1.symm), rfl⟩
theorem MemRel.uniq {ms : List Hm} {nx : Nat} {g h : Int} {y y2 : Bool} {k e k2 e2 : Int} {ms1 ms2 : List Hm} {n1 n2 : Nat} (hd : Dst ms) (a : MemRel ms nx g h y k e ms1 n1) (b : MemRel ms nx g h y2 k2 e2 ms2 n2) : y = y2 ∧ k = k2 ∧ e = e2 ∧ ms1 = ms2 ∧ n1 = n2 := by
 rcases a with ⟨ha, rfl, rfl, rfl, rfl, rfl⟩ | ⟨i, hd1, r, q, zs, j, hd2, q', c, ys, hi, hx, hxg, hj, hy, hyh, ha⟩
 ·rcases b with ⟨hb, rfl, rfl, rfl, rfl, rfl⟩ | ⟨i, hd1, r, q, zs, j, hd2, q', c, ys, hi, hx, hxg, hj, hy, hyh, hb⟩
  ·exact ⟨rfl, rfl, rfl, rfl, rfl⟩
  ·rcases ha with ha | ha
   ·exact absurd hxg (ha i hi _ hx)
   ·exact absurd hyh (ha j hj _ hy)
 ·rcases b with ⟨hb, rfl, rfl, rfl, rfl, rfl⟩ | ⟨i', hd1', r', q1, zs', j', hd2', q1', c', ys', hi', hx', hxg', hj', hy', hyh', hb⟩
  ·rcases hb with hb | hb
   ·exact absurd hxg (hb i hi _ hx)
   ·exact absurd hyh (hb j hj _ hy)
  ·have e1 : i = i' := hd i i' _ _ hi hi' hx hx' (by show hd1 = hd1'; omega)
   have e2 : j = j' := hd j j' _ _ hj hj' hy hy' (by show hd2 = hd2'; omega)
   subst e1; subst e2
   rw [hx] at hx'
   rw [hy] at hy'
   simp only [Option.some.injEq, Prod.mk.injEq] at hx' hy'
   obtain ⟨rfl, rfl, rfl, rfl⟩ := hx'
   obtain ⟨rfl, rfl, rfl, rfl⟩ := hy'
   rcases ha with ⟨a1, rfl, rfl, rfl, rfl, rfl⟩ | ⟨a1, a2, rfl, rfl, rfl, rfl, rfl⟩ | ⟨a1, a2, a3, rfl, rfl, rfl, rfl, rfl⟩ | ⟨a1, a2, a3, a4, rfl, rfl, rfl, rfl, rfl⟩ | ⟨a1, a2, a3, rfl, rfl, rfl, n, xs, a4, a5, rfl, rfl⟩
   ·rcases hb with ⟨b1, rfl, rfl, rfl, rfl, rfl⟩ | ⟨b1, _⟩ | ⟨b1, _⟩ | ⟨b1, _⟩ | ⟨b1, _⟩
    ·exact ⟨rfl, rfl, rfl, rfl, rfl⟩
    all_goals exact absurd b1 a1
   ·rcases hb with ⟨b1, _⟩ | ⟨b1, b2, rfl, rfl, rfl, rfl, rfl⟩ | ⟨b1, b2, _⟩ | ⟨b1, b2, _⟩ | ⟨b1, b2, _⟩
    ·exact absurd a1 b1
    ·exact ⟨rfl, rfl, rfl, rfl, rfl⟩
    all_goals exact absurd b2 a2
   ·rcases hb with ⟨b1, _⟩ | ⟨b1, b2, _⟩ | ⟨b1, b2, b3, rfl, rfl, rfl, rfl, rfl⟩ | ⟨b1, b2, b3, _⟩ | ⟨b1, b2, b3, _⟩
    ·exact absurd a1 b1
    ·exact absurd a2 b2
    ·exact ⟨rfl, rfl, rfl, rfl, rfl⟩
    all_goals exact absurd b3.1 a3.1
   ·rcases hb with ⟨b1, _⟩ | ⟨b1, b2, _⟩ | ⟨b1, b2, b3, _⟩ | ⟨b1, b2, b3, b4, rfl, rfl, rfl, rfl, rfl⟩ | ⟨b1, b2, b3, _, _, _, n, _, _, b5, _⟩
    ·exact absurd a1 b1
    ·exact absurd a2 b2
    ·exact absurd a3.1 b3.1
    ·exact ⟨rfl, rfl, rfl, rfl, rfl⟩
    ·exact absurd b5.2.1 (a4 n b5.1)
   ·rcases hb with ⟨b1, _⟩ | ⟨b1, b2, _⟩ | ⟨b1, b2, b3, _⟩ | ⟨b1, b2, b3, b4, _⟩ | ⟨b1, b2, b3, rfl, rfl, rfl, n', xs', b4, b5, rfl, rfl⟩
    ·exact absurd a1 b1
    ·exact absurd a2 b2
    ·exact absurd a3.1 b3.1
    ·exact absurd a5.2.1 (b4 n a5.1)
    ·rw [a4.uniq b4, a5.uniq b5]
     exact ⟨rfl, rfl, rfl, rfl, rfl⟩
set_option maxRecDepth 100000 in
set_option maxHeartbeats 1000000 in
theorem twSum_any (B T b1 b2 : Nat) (g h : Int) (ms : List Hm) (nx : Nat) (w : World) (hst : TwH B w T b1 b2 ms nx) (hd : Dst ms) (hnx : nx < 1000000) :
 Calls Tryz.prog 130 #[.pointer (some ⟨T, 0, none⟩), .int .i64 g, .int .i64 h] w fun x w' => ∃ k e ms' nx', x = .returned (.tuple #[.int .i64 k, .int .i64 e]) ∧ SumRel ms nx g h k e ms' nx' ∧ TwH B w' T b1 b2 ms' nx' ∧ Chg (St2 b1 b2) w w' := by
 obtain ⟨c0, c1, c2, -⟩ := hst.1.cells
 have H := Hid.mk (And.intro hst hd)
 clear hst hd
 go_enter Tryz.func130, Tryz.ntmps130
 go_wp2_with fail
 refine (sum_held b1 g h ms nx _ H.out.1.2.1 hnx).mono ?_
 rintro x w1 ⟨k, e, ms', nx', rfl, hrel, hH1, hF1⟩
 have hne1 : T ≠ b1 := H.out.1.1.ne H.out.1.2.1.ty
 have hT1 : Tw w1 T b1 b2 false := H.out.1.1.of_block (hF1.1.block T H.out.1.1.lt (by simpa using hne1))
 have hH2 : Held w1 b2 ms nx := H.out.1.2.2.1.fr hF1 (Ne.symm H.out.1.2.2.2.1)
 clear c0 c1 c2
 obtain ⟨c0, c1, c2, -⟩ := hT1.cells
 have K1 := Hid.mk (And.intro hH1 (And.intro hF1 (And.intro hT1 (And.intro hH2 hrel))))
 clear hH1 hF1 hT1 hH2 hrel
 go_wp2_with fail
 refine (sum_held b2 g h ms nx _ K1.out.2.2.2.1 hnx).mono ?_
 rintro x w2 ⟨k2, e2, ms2, nx2, rfl, hrel2, hH3, hF2⟩
 obtain ⟨rfl, rfl, rfl, rfl⟩ := SumRel.uniq H.out.2 K1.out.2.2.2.2 hrel2
 have hne2 : T ≠ b2 := K1.out.2.2.1.ne K1.out.2.2.2.1.ty
 have hT2 : Tw w2 T b1 b2 false := K1.out.2.2.1.of_block (hF2.1.block T K1.out.2.2.1.lt (by simpa using hne2))
 have hH1' : Held w2 b1 ms' nx' := K1.out.1.fr hF2 H.out.1.2.2.2.1
 have K2 := Hid.mk (And.intro hH3 (And.intro hF2 (And.intro hT2 hH1')))
 clear hH3 hF2 hT2 hH1' c0 c1 c2 hrel2
 go_wp2_with fail
 refine (one_same T k e _).mono ?_
 rintro x w' ⟨rfl, rfl⟩
 go_wp2_with fail
 go_ret2
 obtain ⟨hTw, -, -, hbb, htab, hB1, hB2, hB3⟩ := H.out.1
 have hbel1 : Below B w w1 := K1.out.2.1.belowB hB2 (by have := hTw.lt; omega)
 have hbel2 : Below B w1 w' := K2.out.2.1.belowB hB3 (by have := hbel1.size; have := hTw.lt; omega)
 exact ⟨k, e, ms', nx', rfl, K1.out.2.2.2.2, ⟨K2.out.2.2.1, K2.out.2.2.2, K2.out.1, hbb, (htab.below hbel1).below hbel2, hB1, hB2, hB3⟩, (Chg.of_fr K1.out.2.1 (.inl rfl)).trans (Chg.of_fr K2.out.2.1 (.inr rfl))⟩
set_option maxRecDepth 100000 in
set_option maxHeartbeats 1000000 in
theorem twMember_any (B T b1 b2 : Nat) (g h : Int) (ms : List Hm) (nx : Nat) (w : World) (hst : TwH B w T b1 b2 ms nx) (hd : Dst ms) (hnx : nx < 1000000) :
 Calls Tryz.prog 127 #[.pointer (some ⟨T, 0, none⟩), .int .i64 g, .int .i64 h] w fun x w' => ∃ y k e ms' nx', x = .returned (.tuple #[.bool y, .int .i64 k, .int .i64 e]) ∧ MemRel ms nx g h y k e ms' nx' ∧ TwH B w' T b1 b2 ms' nx' ∧ Chg (St2 b1 b2) w w' := by
 obtain ⟨c0, c1, c2, -⟩ := hst.1.cells
 have H := Hid.mk (And.intro hst hd)
 clear hst hd
 go_enter Tryz.func127, Tryz.ntmps127
 go_wp2_with fail
 refine (member_held b1 g h ms nx _ H.out.1.2.1 hnx).mono ?_
 rintro x w1 ⟨y, k, e, ms', nx', rfl, hrel, hH1, hF1⟩
 have hne1 : T ≠ b1 := H.out.1.1.ne H.out.1.2.1.ty
 have hT1 : Tw w1 T b1 b2 false := H.out.1.1.of_block (hF1.1.block T H.out.1.1.lt (by simpa using hne1))
 have hH2 : Held w1 b2 ms nx := H.out.1.2.2.1.fr hF1 (Ne.symm H.out.1.2.2.2.1)
 clear c0 c1 c2
 obtain ⟨c0, c1, c2, -⟩ := hT1.cells
 have K1 := Hid.mk (And.intro hH1 (And.intro hF1 (And.intro hT1 (And.intro hH2 hrel))))
 clear hH1 hF1 hT1 hH2 hrel
 go_wp2_with fail
 refine (member_held b2 g h ms nx _ K1.out.2.2.2.1 hnx).mono ?_
 rintro x w2 ⟨y2, k2, e2, ms2, nx2, rfl, hrel2, hH3, hF2⟩
 obtain ⟨rfl, rfl, rfl, rfl, rfl⟩ := MemRel.uniq H.out.2 K1.out.2.2.2.2 hrel2
 have hne2 : T ≠ b2 := K1.out.2.2.1.ne K1.out.2.2.2.1.ty
 have hT2 : Tw w2 T b1 b2 false := K1.out.2.2.1.of_block (hF2.1.block T K1.out.2.2.1.lt (by simpa using hne2))
 have hH1' : Held w2 b1 ms' nx' := K1.out.1.fr hF2 H.out.1.2.2.2.1
 have K2 := Hid.mk (And.intro hH3 (And.intro hF2 (And.intro hT2 hH1')))
 clear hH3 hF2 hT2 hH1' c0 c1 c2 hrel2
 have i0 : (y == y) = true := by simp
 have i1 : (k == k) = true := by simp
 have i2 : (e == e) = true := by simp
 go_wp2_with fail
 refine (like_true T _).mono ?_
 rintro x w' ⟨rfl, rfl⟩
 go_wp2_with fail
 go_ret3
 obtain ⟨hTw, -, -, hbb, htab, hB1, hB2, hB3⟩ := H.out.1
 have hbel1 : Below B w w1 := K1.out.2.1.belowB hB2 (by have := hTw.lt; omega)
 have hbel2 : Below B w1 w' := K2.out.2.1.belowB hB3 (by have := hbel1.size; have := hTw.lt; omega)
 exact ⟨y, k, e, ms', nx', rfl, K1.out.2.2.2.2, ⟨K2.out.2.2.1, K2.out.2.2.2, K2.out.1, hbb, (htab.below hbel1).below hbel2, hB1, hB2, hB3⟩, (Chg.of_fr K1.out.2.1 (.inl rfl)).trans (Chg.of_fr K2.out.2.1 (.inr rfl))⟩
set_option maxRecDepth 100000 in
set_option maxHeartbeats 1000000 in
theorem twEqual_any (B T b1 b2 : Nat) (g h : Int) (ms : List Hm) (nx : Nat) (w : World) (hst : TwH B w T b1 b2 ms nx) (hd : Dst ms) :
 Calls Tryz.prog 128 #[.pointer (some ⟨T, 0, none⟩), .int .i64 g, .int .i64 h] w fun x w' => ∃ y e, x = .returned (.tuple #[.bool y, .int .i64 e]) ∧ EqRel ms g h y e ∧ Below w.heap.size w w' := by
 obtain ⟨c0, c1, c2, -⟩ := hst.1.cells
 have H := Hid.mk (And.intro hst hd)
 clear hst hd
 go_enter Tryz.func128, Tryz.ntmps128
 go_wp2_with fail
 refine (equal_held b1 g h ms nx _ H.out.1.2.1).mono ?_
 rintro x w1 ⟨y, e, rfl, hrel, hb1⟩
 have hT1 : Tw w1 T b1 b2 false := H.out.1.1.of_block (hb1.block T H.out.1.1.lt)
 clear c0 c1 c2
 obtain ⟨c0, c1, c2, -⟩ := hT1.cells
 have K1 := Hid.mk (And.intro hb1 hrel)
 clear hb1 hT1 hrel
 go_wp2_with fail
 refine (equal_held b2 g h ms nx _ (H.out.1.2.2.1.below K1.out.1)).mono ?_
 rintro x w2 ⟨y2, e2, rfl, hrel2, hb2⟩
 obtain ⟨rfl, rfl⟩ := EqRel.uniq H.out.2 K1.out.2 hrel2
 have K2 := Hid.mk hb2
 clear hb2 hrel2 c0 c1 c2
 have i0 : (y == y) = true := by simp
 have i2 : (e == e) = true := by simp
 go_wp2_with fail
 refine (like_true T _).mono ?_
 rintro x w' ⟨rfl, rfl⟩
 go_wp2_with fail
 go_ret2
 exact ⟨y, e, rfl, K1.out.2, K1.out.1.trans (K2.out.mono K1.out.1.size)⟩
open Go.RowKit R
open Go.RowKit R
open Go.RowKit R
open Go.RowKit R
theorem FindL.none {B : Nat} {w : World} {W T b1 b2 : Nat} {ms : List Hm} {nx : Nat} {es : List Ent} (h : LInv B w W T b1 b2 ms nx es) {g : Int} (hn : ∀ e ∈ es, ((e.1 : Nat) : Int) ≠ g) : ∀ i, i < 24 → ∀ x, ms.getD i none = some x → (x.1 : Int) ≠ g := by
 intro i hi x hx he
 obtain ⟨e, hm, h1⟩ := h.2.2.all i x hi hx
 exact hn e hm (by rw [h1]; exact he)
open Go.RowKit R
theorem R.IsN.tight {w : World} {v : Value} {z : Int} {L : Nat} (h : IsN w v z L) (hz : z.natAbs < 281474976710656) : IsN w v z 4 := by
 obtain ⟨neg, sl, xs, h1, h2, h3, h4, h5, h6⟩ := h
 refine ⟨neg, sl, xs, h1, h2, h3, h4, h5, ?_⟩
 rcases Nat.lt_or_ge 4 xs.length with h7 | h7
 ·exfalso
  have h8 := R.Lim_ge h3 (by intro e; rw [e] at h7; simp at h7)
  have h9 : 10000 ^ 4 ≤ 10000 ^ (xs.length - 1) := Nat.pow_le_pow_right (by decide) (by omega)
  have h10 : z.natAbs = R.val xs := by
   cases neg
   ·rw [h5]; simp
   ·rw [h5]; simp
  omega
 ·exact h7
theorem R.IsR.tight {B : Nat} {w : World} {b r c : Nat} {gs : Nat → Nat} {f : Nat → Nat → Int} {L : Nat} (h : IsR B w b r c gs f L) (hf : ∀ i j, i < r → j < c → (f i j).natAbs < 281474976710656) : IsR B w b r c gs f 4 := by
 obtain ⟨h0, v, h1, h2, h3, h4⟩ := h
 refine ⟨h0, v, h1, h2, fun i hi => ⟨(h3 i hi).1, ?_⟩, h4⟩
 obtain ⟨cs, q1, q2, q3⟩ := (h3 i hi).2
 refine ⟨cs, q1, q2, fun j hj => ?_⟩
 obtain ⟨a, b, e1, e2, e3, e4⟩ := q3 j hj
 exact ⟨a, b, e1, e2, e3.tight (hf i j hi hj), e4⟩
theorem fits_fz {r c : Nat} {zs : List Int} (h : FitsP r c zs) : ∀ i j, i < r → j < c → (fz c zs i j).natAbs < 281474976710656 := fun _ _ hi hj => h.2.2 _ (idx_lt hi hj)
theorem nDig_le (k u : Nat) (h : u < 10 ^ (k + 1)) : Lib.nDigits u ≤ k + 1 := by
 induction k generalizing u with
 | zero => rw [Lib.nDigits_small (by simpa using h)]; exact Nat.le_refl _
 | succ k ih =>
   by_cases h1 : u < 10
   ·rw [Lib.nDigits_small h1]; omega
   ·rw [Lib.nDigits_big h1]
    have := ih (u / 10) (by rw [Nat.pow_succ] at h; omega)
    omega
theorem itoa_lenk (k : Nat) (z : Int) (h : z.natAbs < 10 ^ (k + 1)) : (Lib.itoa z).length ≤ k + 2 := by
 have h1 := nDig_le k z.natAbs h
 unfold Lib.itoa
 by_cases hz : z < 0
 ·rw [if_pos hz, List.length_cons, Lib.decDigits_length]; omega
 ·rw [if_neg hz, Lib.decDigits_length]
  rw [show z.toNat = z.natAbs from by omega]
  omega
theorem fine_small {r c k : Nat} {zs : List Int} (hr : r ≤ 4) (hc : c ≤ 4) (hl : zs.length = r * c) (hz : ∀ t, t < r * c → (zs.getD t 0).natAbs < 10 ^ (k + 1)) (hk : k ≤ 2000000000) : Fine r c zs := by
 refine ⟨by omega, by omega, hl, ?_⟩
 have hrc : r * c ≤ 16 := Nat.mul_le_mul hr hc
 have hb : ∀ (l : List (List UInt8)) (t : Nat), (∀ x ∈ l, x.length ≤ k + 2) → (bodyT c t l).length ≤ l.length * (k + 4) := by
  intro l
  induction l with
  | nil => intro t _; simp [bodyT]
  | cons a b ih =>
    intro t hx
    have h1 := hx a (by simp)
    have h2 := ih (t + 1) (fun x hx' => hx x (List.mem_cons_of_mem _ hx'))
    rw [bodyT]
    simp only [List.length_append, List.length_cons, Nat.succ_mul]
    split <;> simp <;> omega
 have h1 := hb (zs.map Lib.itoa) 0 (fun x hx => by
  obtain ⟨z, hz', rfl⟩ := List.mem_map.1 hx
  obtain ⟨i, hi, rfl⟩ := List.mem_iff_getElem.1 hz'
  have := hz i (by omega)
  rw [show zs.getD i 0 = zs[i] from by simp [List.getD, List.getElem?_eq_getElem hi]] at this
  exact itoa_lenk k _ this)
 rw [List.length_map, hl] at h1
 have h2 := dec_le2 r (by omega)
 have h3 := dec_le2 c (by omega)
 unfold matT
 simp only [List.length_append, List.length_cons]
 have : r * c * (k + 4) ≤ 16 * (k + 4) := Nat.mul_le_mul_right _ hrc
 omega
open Go.RowKit R
open Go.RowKit R
theorem lt_dec {z : Int} {m : Nat} (h : z.natAbs < 2 ^ (16 * m)) : z.natAbs < 10 ^ (5 * m) ∧ z.natAbs < 10000 ^ (2 * m) := by
 have e1 : 2 ^ (16 * m) = (65536 : Nat) ^ m := by rw [Nat.pow_mul]
 have e2 : 10 ^ (5 * m) = (100000 : Nat) ^ m := by rw [Nat.pow_mul]
 have e3 : 10000 ^ (2 * m) = (100000000 : Nat) ^ m := by rw [Nat.pow_mul]
 rw [e1] at h
 rw [e2, e3]
 exact ⟨Nat.lt_of_lt_of_le h (Nat.pow_le_pow_left (by decide) m), Nat.lt_of_lt_of_le h (Nat.pow_le_pow_left (by decide) m)⟩
theorem R.IsN.fit {w : World} {v : Value} {z : Int} {L K : Nat} (h : IsN w v z L) (hz : z.natAbs < 10000 ^ K) : IsN w v z K := by
 obtain ⟨neg, sl, xs, h1, h2, h3, h4, h5, h6⟩ := h
 refine ⟨neg, sl, xs, h1, h2, h3, h4, h5, ?_⟩
 rcases Nat.lt_or_ge K xs.length with h7 | h7
 ·exfalso
  have h8 := R.Lim_ge h3 (by intro e; rw [e] at h7; simp at h7)
  have h9 : 10000 ^ K ≤ 10000 ^ (xs.length - 1) := Nat.pow_le_pow_right (by decide) (by omega)
  have h10 : z.natAbs = R.val xs := by
   cases neg
   ·rw [h5]; simp
   ·rw [h5]; simp
  omega
 ·exact h7
theorem R.IsR.fit {B : Nat} {w : World} {b r c : Nat} {gs : Nat → Nat} {f : Nat → Nat → Int} {L m : Nat} (h : IsR B w b r c gs f L) (hf : ∀ i j, i < r → j < c → (f i j).natAbs < 2 ^ (16 * m)) : IsR B w b r c gs f (2 * m) := by
 obtain ⟨h0, v, h1, h2, h3, h4⟩ := h
 refine ⟨h0, v, h1, h2, fun i hi => ⟨(h3 i hi).1, ?_⟩, h4⟩
 obtain ⟨cs, q1, q2, q3⟩ := (h3 i hi).2
 refine ⟨cs, q1, q2, fun j hj => ?_⟩
 obtain ⟨a, b, e1, e2, e3, e4⟩ := q3 j hj
 exact ⟨a, b, e1, e2, e3.fit (lt_dec (hf i j hi hj)).2, e4⟩
theorem fine_bits {r c m : Nat} {zs : List Int} (hr : r ≤ 4) (hc : c ≤ 4) (hl : zs.length = r * c) (hz : ∀ t, t < r * c → (zs.getD t 0).natAbs < 2 ^ (16 * (m + 1))) (hm : m ≤ 399999999) : Fine r c zs :=
 fine_small (k := 5 * m + 4) hr hc hl (fun t ht => (lt_dec (hz t ht)).1) (by omega)
end Go.Proofs.YtfjbijpagaipnaaGreatDoor
namespace Go.Proofs.YtfjbijpagaipnaaGreatDoor.R
open Go.RowKit
structure EchP (f : Nat → Nat → Int) (r c k : Nat) (pc : Nat → Nat) : Prop where
 le : k ≤ r
 col : ∀ i, i < k → pc i < c
 up : ∀ a b, a < b → b < k → pc a < pc b
 left : ∀ i, i < k → ∀ j, j < pc i → f i j = 0
 pos : ∀ i, i < k → 0 < f i (pc i)
 above : ∀ a i, a < i → i < k → 0 ≤ f a (pc i) ∧ f a (pc i) < f i (pc i)
 rest : ∀ i, k ≤ i → i < r → ∀ j, j < c → f i j = 0
def LastE (k : Nat) (pc : Nat → Nat) (i : Nat) (la : Int) : Prop := (i < k → la < (pc i : Int))
theorem sgn_pos' {z : Int} (h : 0 < z) : sgn z = 1 := by unfold sgn; grind
set_option maxRecDepth 100000 in
set_option maxHeartbeats 4000000 in
theorem echelon_yes (b r c : Nat) (gs : Nat → Nat) (f : Nat → Nat → Int) (B L k : Nat) (pc : Nat → Nat) (w : World) (h : IsR B w b r c gs f L) (he : EchP f r c k pc) (hL : L ≤ 50000000000) (hr : r ≤ 99) (hc : c ≤ 99) :
 Calls Tryz.prog 117 #[.pointer (some ⟨b, 0, none⟩)] w fun e w' => e = .returned (.bool true) ∧ Below w.heap.size w w' := by
 have H := Hid.mk (And.intro h he)
 obtain ⟨hbl, ao, cap, c0, c1, c2, -⟩ := h.open_
 clear h he
 go_enter Tryz.func117, Tryz.ntmps117
 go_wp2_with fail
 go_loopw [3, 4] (fun la i wr => ∃ (a : Nat) (l : Int), a ≤ r ∧ i = .int .i64 a ∧ la = .int .i64 l ∧ Hid (LastE k pc a l) ∧ Below w.heap.size w wr) (fun _ i _ => r - (intOf i).toNat)
 case atStart => exact ⟨0, -1, Nat.zero_le _, rfl, rfl, Hid.mk (fun _ => by omega), Below.refl _ _⟩
 case round =>
  rename World => wi
  obtain ⟨a, l, ha, rfl, rfl, HL, hbel⟩ := hrel
  clear c0 c1 c2
  obtain ⟨-, ao, cap, c0, c1, c2, -⟩ := (H.out.1.keep (KR.of_below hbel)).open_
  have HB := Hid.mk hbel
  clear hbel
  by_cases har : a < r
  ·by_cases hak : a < k
   ·obtain ⟨p, hp⟩ : ∃ p, p = pc a := ⟨_, rfl⟩
    have hpc : p < c := by rw [hp]; exact H.out.2.col a hak
    have hl0 : l < (p : Int) := by rw [hp]; exact HL.out hak
    have HP := Hid.mk hp
    clear hp
    go_wp2_with fail
    go_loopw [5] (fun j wr => ∃ e : Nat, e ≤ p ∧ j = .int .i64 e ∧ Below w.heap.size w wr) (fun j _ => p - (intOf j).toNat)
    case atStart => exact ⟨0, Nat.zero_le _, rfl, HB.out⟩
    case round =>
     rename World => wj
     obtain ⟨e, he, rfl, hbel⟩ := hrel
     clear c0 c1 c2
     obtain ⟨-, ao, cap, c0, c1, c2, c3, c4, c5, c6⟩ := (H.out.1.keep (KR.of_below hbel)).open_
     have HB2 := Hid.mk hbel
     clear hbel
     have hec : e < c := by omega
     have hai : (a : Int) < (r : Int) := by omega
     have hei : (e : Int) < (c : Int) := by omega
     obtain ⟨gL, rfl, y1⟩ := c5 a har
     obtain ⟨nb, so, n, cp, y2, y3, -, -, hN⟩ := c6 a e har hec
     rw [Nat.mul_comm 2] at y2 y3
     have HN := Hid.mk hN
     clear hN c5 c6
     by_cases hep : e < p
     ·have hz : sgn (f a e) = 0 := by rw [H.out.2.left a hak e (by have := HP.out; omega)]; rfl
      go_wp2_with fail
      refine (sign_any _ (f a e) L _ HN.out).mono ?_
      rintro x w2 ⟨rfl, hb2⟩
      have HB3 := Hid.mk (HB2.out.trans (hb2.mono HB2.out.size))
      rw [hz]
      clear hb2 c0 c1 c2 y1 y2 y3 hz
      go_wp2_with fail
      go_roundw
      case measure => simp [intOf]; omega
      case rel => exact ⟨e + 1, by omega, by go_num, HB3.out⟩
     ·obtain rfl : e = p := by omega
      have hz : sgn (f a e) = 1 := sgn_pos' (by rw [HP.out]; exact H.out.2.pos a hak)
      go_wp2_with fail
      refine (sign_any _ (f a e) L _ HN.out).mono ?_
      rintro x w2 ⟨rfl, hb2⟩
      have HB3 := Hid.mk (HB2.out.trans (hb2.mono HB2.out.size))
      have HN3 := Hid.mk (HN.out.below hb2)
      have x0 := cell_later hb2 c0
      have x1 := cell_later hb2 c1
      have x2 := cell_later hb2 c2
      have x3 := cell_later hb2 y1
      have x4 := cell_later hb2 y2
      have x5 := cell_later hb2 y3
      rw [hz]
      clear hb2 c0 c1 c2 y1 y2 y3
      go_wp2_with fail
      refine (sign_any _ (f a e) L _ HN3.out).mono ?_
      rintro x w3 ⟨rfl, hb3⟩
      have HB4 := Hid.mk (HB3.out.trans (hb3.mono HB3.out.size))
      rw [hz]
      clear hb3 x0 x1 x2 x3 x4 x5 hz
      go_wp2_with fail
      go_loopw [7, 8] (fun _ j wr => ∃ q : Nat, q ≤ a ∧ j = .int .i64 q ∧ Below w.heap.size w wr) (fun _ j _ => a - (intOf j).toNat)
      case atStart => exact ⟨0, Nat.zero_le _, rfl, HB4.out⟩
      case round =>
       rename World => wk
       obtain ⟨q, hq, rfl, hbel⟩ := hrel
       obtain ⟨-, ao, cap, c0, c1, c2, c3, c4, c5, c6⟩ := (H.out.1.keep (KR.of_below hbel)).open_
       have HB5 := Hid.mk hbel
       clear hbel
       by_cases hqa : q < a
       ·have hqr : q < r := by omega
        have hqi : (q : Int) < (r : Int) := by omega
        have hqi' : (q : Int) < (a : Int) := by omega
        obtain ⟨gL, rfl, y1⟩ := c5 a har
        obtain ⟨nb, so, n, cp, y2, y3, -, -, hN⟩ := c6 a e har hec
        obtain ⟨gL', hgL', z1⟩ := c5 q hqr
        simp only [Option.some.injEq, Addr.mk.injEq, and_true] at hgL'
        subst hgL'
        obtain ⟨nb', so', n', cp', z2, z3, -, -, hN'⟩ := c6 q e hqr hec
        rw [Nat.mul_comm 2] at y2 y3 z2 z3
        have HN := Hid.mk (And.intro hN' hN)
        clear hN hN' c5 c6
        have HA := Hid.mk (show 0 ≤ f q e ∧ f q e < f a e by rw [HP.out]; exact H.out.2.above q a hqa hak)
        obtain ⟨sg, hsg⟩ : ∃ sg, sg = sgn (f q e) := ⟨_, rfl⟩
        have hsg0 : 0 ≤ sg := by have := HA.out.1; rw [hsg]; unfold sgn; grind
        go_wp2_with fail
        refine (sign_any _ (f q e) L _ HN.out.1).mono ?_
        rintro x w4 ⟨rfl, hb4⟩
        rw [← hsg]
        have HC := Hid.mk (show ∀ w', Below w4.heap.size w4 w' → w'.cell? ⟨b, 2, none⟩ = some (.slice (some ⟨gL, 0, none⟩) r cap) ∧ w'.cell? ⟨gL, a, none⟩ = some (.slice (some ⟨gs a, 0, none⟩) c c) ∧ w'.cell? ⟨gs a, e * 2, none⟩ = some (.bool nb) ∧ w'.cell? ⟨gs a, e * 2 + 1, none⟩ = some (.slice so n cp) ∧ w'.cell? ⟨gL, q, none⟩ = some (.slice (some ⟨gs q, 0, none⟩) c c) ∧ w'.cell? ⟨gs q, e * 2, none⟩ = some (.bool nb') ∧ w'.cell? ⟨gs q, e * 2 + 1, none⟩ = some (.slice so' n' cp') from
         fun w' hb => ⟨cell_later hb (cell_later hb4 c2), cell_later hb (cell_later hb4 y1), cell_later hb (cell_later hb4 y2), cell_later hb (cell_later hb4 y3), cell_later hb (cell_later hb4 z1), cell_later hb (cell_later hb4 z2), cell_later hb (cell_later hb4 z3)⟩)
        have HB6 := Hid.mk (And.intro (HB5.out.trans (hb4.mono HB5.out.size)) (And.intro (HN.out.1.below hb4) (HN.out.2.below hb4)))
        have t2 := HC.out w4 (Below.refl _ _)
        obtain ⟨t2, t3, t4, t5, t6, t7, t8⟩ := t2
        clear hb4 c0 c1 c2 y1 y2 y3 z1 z2 z3 hsg
        go_upto_region 20 with fail
        go_cut [9] from 84 to 105 (fun o wx => o = .int .i64 (-1) ∧ Below w.heap.size w wx)
        case first =>
         go_region_held3 (fun w' => w'.cell? ⟨b, 2, none⟩ = some (.slice (some ⟨gL, 0, none⟩) r cap) ∧ w'.cell? ⟨gL, a, none⟩ = some (.slice (some ⟨gs a, 0, none⟩) c c) ∧ w'.cell? ⟨gs a, e * 2, none⟩ = some (.bool nb) ∧ w'.cell? ⟨gs a, e * 2 + 1, none⟩ = some (.slice so n cp) ∧ w'.cell? ⟨gL, q, none⟩ = some (.slice (some ⟨gs q, 0, none⟩) c c) ∧ w'.cell? ⟨gs q, e * 2, none⟩ = some (.bool nb') ∧ w'.cell? ⟨gs q, e * 2 + 1, none⟩ = some (.slice so' n' cp'))
          (exact HC.out _ (by first | exact hb9 | exact (Below.refl _ _).drew))
          (first | (go_at_call 163; refine (order_any _ _ (f q e) (f a e) L L _ (HB6.out.2.1.below ((Below.refl _ _).drew)) (HB6.out.2.2.below ((Below.refl _ _).drew)) hL hL).mono ?_; rintro e w2 ⟨rfl, hb2⟩; have hb9 : Below w4.heap.size w4 w2 := (Below.refl _ _).drew.trans hb2; clear hb2))
         all_goals
          go_wp2_with fail
          go_meet
          case rel =>
           refine ⟨?_, HB6.out.1.trans (hb9.mono HB6.out.1.size)⟩
           have : sgn (f q e - f a e) = -1 := by have := HA.out.2; unfold sgn; grind
           rw [this]
        case rest =>
         obtain ⟨rfl, hbc⟩ := hcut
         have HB7 := Hid.mk hbc
         clear hbc t2 t3 t4 t5 t6 t7 t8
         go_wp2_with fail
         go_roundw
         case measure => simp [intOf]; omega
         case rel => exact ⟨q + 1, by omega, by go_num, HB7.out⟩
       ·clear c5 c6
        go_wp2_with fail
        go_roundw
        case measure => simp [intOf]; omega
        case rel => exact ⟨a + 1, _, by omega, by go_num, rfl, Hid.mk (fun h => by have := H.out.2.up a (a + 1) (by omega) h; have := HP.out; omega), HB5.out⟩
   ·go_wp2_with fail
    go_loopw [5] (fun j wr => ∃ e : Nat, e ≤ c ∧ j = .int .i64 e ∧ Below w.heap.size w wr) (fun j _ => c - (intOf j).toNat)
    case atStart => exact ⟨0, Nat.zero_le _, rfl, HB.out⟩
    case round =>
     rename World => wj
     obtain ⟨e, he, rfl, hbel⟩ := hrel
     clear c0 c1 c2
     obtain ⟨-, ao, cap, c0, c1, c2, c3, c4, c5, c6⟩ := (H.out.1.keep (KR.of_below hbel)).open_
     have HB2 := Hid.mk hbel
     clear hbel
     by_cases hec : e < c
     ·have hai : (a : Int) < (r : Int) := by omega
      have hei : (e : Int) < (c : Int) := by omega
      obtain ⟨gL, rfl, y1⟩ := c5 a har
      obtain ⟨nb, so, n, cp, y2, y3, -, -, hN⟩ := c6 a e har hec
      rw [Nat.mul_comm 2] at y2 y3
      have HN := Hid.mk hN
      clear hN c5 c6
      have hz : sgn (f a e) = 0 := by rw [H.out.2.rest a (by omega) har e hec]; rfl
      go_wp2_with fail
      refine (sign_any _ (f a e) L _ HN.out).mono ?_
      rintro x w2 ⟨rfl, hb2⟩
      have HB3 := Hid.mk (HB2.out.trans (hb2.mono HB2.out.size))
      rw [hz]
      clear hb2 c0 c1 c2 y1 y2 y3 hz
      go_wp2_with fail
      go_roundw
      case measure => simp [intOf]; omega
      case rel => exact ⟨e + 1, by omega, by go_num, HB3.out⟩
     ·obtain rfl : e = c := by omega
      clear c5 c6
      have iee : ((e : Int) == (e : Int)) = true := by simp
      go_wp2_with fail
      go_roundw
      case measure => simp [intOf]; omega
      case rel => exact ⟨a + 1, _, by omega, by go_num, rfl, Hid.mk (fun h => by omega), HB2.out⟩
  ·go_wp2_with fail
   go_ret
   exact ⟨rfl, HB.out⟩
end Go.Proofs.YtfjbijpagaipnaaGreatDoor.R
namespace Go.Proofs.YtfjbijpagaipnaaGreatDoor
open Go.RowKit R
open Go.RowKit R
theorem EchSt.echP {r c k : Nat} {pc : Nat → Nat} {H : Nat → Nat → Int} (h : EchSt r c k pc H) : EchP H r c k pc := ⟨h.le, h.col, h.up, h.left, h.piv, fun a i hai hi => h.above i hi a hai, h.rest⟩
end Go.Proofs.YtfjbijpagaipnaaGreatDoor
namespace Go.Proofs.YtfjbijpagaipnaaGreatDoor.R
def mm (n : Nat) (X Y : Nat → Nat → Int) : Nat → Nat → Int := fun i j => dot X Y i j n
theorem sm_mulr (f : Nat → Int) (z : Int) (n : Nat) : sm f n * z = sm (fun k => f k * z) n := by
 induction n with
 | zero => simp [sm]
 | succ n ih => rw [sm, sm, Int.add_mul, ih]
theorem sm_add (f g : Nat → Int) (n : Nat) : sm f n + sm g n = sm (fun k => f k + g k) n := by
 induction n with
 | zero => rfl
 | succ n ih => rw [sm, sm, sm, ← ih]; omega
theorem sm_swap (f : Nat → Nat → Int) (m : Nat) : ∀ n, sm (fun k => sm (fun l => f k l) m) n = sm (fun l => sm (fun k => f k l) n) m := by
 intro n
 induction n with
 | zero => simp only [sm]; rw [sm_zero m (fun _ _ => rfl)]
 | succ n ih =>
   rw [sm, ih, sm_add]
   exact sm_congr m (fun l _ => by rw [sm])
theorem mm_assoc (m n : Nat) (X Y Z : Nat → Nat → Int) : mm m (mm n X Y) Z = mm n X (mm m Y Z) := by
 funext i j
 show dot (mm n X Y) Z i j m = dot X (mm m Y Z) i j n
 rw [dot_sm, dot_sm]
 have e1 : sm (fun k => mm n X Y i k * Z k j) m = sm (fun k => sm (fun l => X i l * Y l k * Z k j) n) m := sm_congr m (fun k _ => by
  show dot X Y i k n * Z k j = _
  rw [dot_sm, sm_mulr])
 rw [e1, sm_swap]
 refine sm_congr n (fun l _ => ?_)
 show _ = X i l * dot Y Z l j m
 rw [dot_sm, Int.mul_comm, sm_mulr]
 exact sm_congr m (fun k _ => by grind)
end Go.Proofs.YtfjbijpagaipnaaGreatDoor.R
