import Derived.Test.YtfjbijpagaipnaaGreatDoorC28
import Derived.Test.YtfjbijpagaipnaaGreatDoorC42
namespace Go.Proofs.YtfjbijpagaipnaaGreatDoor
open Go.RowKit R
set_option maxRecDepth 100000 in
set_option maxHeartbeats 1000000 in
theorem text_same (T : Nat) (a : ByteArray) (e : Int) (w : World) :
    Calls Tryz.prog 168 #[.pointer (some ⟨T, 0, none⟩), .string a, .int .i64 e, .string a, .int .i64 e] w fun x w' => x = .returned (.tuple #[.string a, .int .i64 e]) ∧ w' = w := by
  have i1 : (a.toList == a.toList) = true := by simp
  have i2 : (e == e) = true := by simp
  go_enter Tryz.func168, Tryz.ntmps168
  go_wp2_with fail
  refine (like_true T _).mono ?_
  rintro x w' ⟨rfl, rfl⟩
  go_wp2_with fail
  go_ret2
  exact ⟨rfl, rfl⟩
set_option maxRecDepth 100000 in
set_option maxHeartbeats 1000000 in
theorem twDet_any (B T b1 b2 : Nat) (h : Int) (ms : List Hm) (nx : Nat) (w : World) (hst : TwH B w T b1 b2 ms nx) (hd : Dst ms) :
    Calls Tryz.prog 108 #[.pointer (some ⟨T, 0, none⟩), .int .i64 h] w fun x w' => ∃ t e, x = .returned (.tuple #[.string ⟨t.toArray⟩, .int .i64 e]) ∧ DetRel ms h t e ∧ Below w.heap.size w w' := by
  obtain ⟨c0, c1, c2, -⟩ := hst.1.cells
  have H := Hid.mk (And.intro hst hd)
  clear hst hd
  go_enter Tryz.func108, Tryz.ntmps108
  go_wp2_with fail
  refine (det_held b1 h ms nx _ H.out.1.2.1 H.out.1.2.2.2.2.1.tab).mono ?_
  rintro x w1 ⟨t, e, rfl, hrel, hb1⟩
  have hT1 := H.out.1.below hb1
  clear c0 c1 c2
  obtain ⟨c0, c1, c2, -⟩ := hT1.1.cells
  have K1 := Hid.mk (And.intro hT1 (And.intro hrel hb1))
  have hw1 := hb1.size
  clear hT1 hrel hb1
  go_wp2_with fail
  refine (det_held b2 h ms nx _ K1.out.1.2.2.1 K1.out.1.2.2.2.2.1.tab).mono ?_
  rintro x w2 ⟨t2, e2, rfl, hrel2, hb2⟩
  obtain ⟨rfl, rfl⟩ := DetRel.uniq H.out.2 K1.out.2.1 hrel2
  have K2 := Hid.mk (K1.out.2.2.trans (hb2.mono hw1))
  clear hb2 hrel2 c0 c1 c2
  obtain ⟨tb, htb⟩ : ∃ tb : ByteArray, tb = ⟨t.toArray⟩ := ⟨_, rfl⟩
  have HTB := Hid.mk htb
  rw [← htb]
  clear htb
  go_wp2_with fail
  refine (text_same T tb e _).mono ?_
  rintro x w' ⟨rfl, rfl⟩
  go_wp2_with fail
  go_ret2
  exact ⟨t, e, by rw [HTB.out]; rfl, K1.out.2.1, K2.out⟩
set_option maxRecDepth 100000 in
set_option maxHeartbeats 1000000 in
theorem twRank_any (B T b1 b2 : Nat) (h : Int) (ms : List Hm) (nx : Nat) (w : World) (hst : TwH B w T b1 b2 ms nx) (hd : Dst ms) :
    Calls Tryz.prog 111 #[.pointer (some ⟨T, 0, none⟩), .int .i64 h] w fun x w' => ∃ z e, x = .returned (.tuple #[.int .i64 z, .int .i64 e]) ∧ RkRel ms h z e ∧ Below w.heap.size w w' := by
  obtain ⟨c0, c1, c2, -⟩ := hst.1.cells
  have H := Hid.mk (And.intro hst hd)
  clear hst hd
  go_enter Tryz.func111, Tryz.ntmps111
  go_wp2_with fail
  refine (rank_held b1 h ms nx _ H.out.1.2.1).mono ?_
  rintro x w1 ⟨t, e, rfl, hrel, hb1⟩
  have hT1 := H.out.1.below hb1
  clear c0 c1 c2
  obtain ⟨c0, c1, c2, -⟩ := hT1.1.cells
  have K1 := Hid.mk (And.intro hT1 (And.intro hrel hb1))
  have hw1 := hb1.size
  clear hT1 hrel hb1
  go_wp2_with fail
  refine (rank_held b2 h ms nx _ K1.out.1.2.2.1).mono ?_
  rintro x w2 ⟨t2, e2, rfl, hrel2, hb2⟩
  obtain ⟨rfl, rfl⟩ := RkRel.uniq H.out.2 K1.out.2.1 hrel2
  have K2 := Hid.mk (K1.out.2.2.trans (hb2.mono hw1))
  clear hb2 hrel2 c0 c1 c2
  go_wp2_with fail
  refine (one_same T t e _).mono ?_
  rintro x w' ⟨rfl, rfl⟩
  go_wp2_with fail
  go_ret2
  exact ⟨t, e, rfl, K1.out.2.1, K2.out⟩
def DueL (es : List Ent) (ms : List Hm) (sq : Bool) (h : Int) (v : Value) (want : Int) : Prop :=
  ((∀ i, i < 24 → ∀ x, ms.getD i none = some x → (x.1 : Int) ≠ h) ∧ want = 2) ∨
  ∃ e i r c zs, e ∈ es ∧ i < 24 ∧ ms.getD i none = some (e.1, r, c, zs) ∧ ((e.1 : Nat) : Int) = h ∧ ((sq = true ∧ r ≠ c ∧ want = 3) ∨ ((sq = true → r = c) ∧ ¬ FitsP r c zs ∧ want = 4) ∨ ((sq = true → r = c) ∧ FitsP r c zs ∧ want = 0 ∧ v = .pointer (some ⟨e.2.2, 0, none⟩)))
set_option maxRecDepth 100000 in
set_option maxHeartbeats 2000000 in
theorem due_any (B W T b1 b2 : Nat) (ms : List Hm) (nx : Nat) (es : List Ent) (h : Int) (sq : Bool) (w : World) (hI : LInv B w W T b1 b2 ms nx es) :
    Calls Tryz.prog 107 #[.pointer (some ⟨W, 0, none⟩), .int .i64 h, .bool sq] w fun x w' => (∃ v want, x = .returned (.tuple #[v, .int .i64 want]) ∧ DueL es ms sq h v want) ∧ Below w.heap.size w w' := by
  have H := Hid.mk hI
  clear hI
  go_enter Tryz.func107, Tryz.ntmps107
  go_wp2_with fail
  refine (lfind_any B W T b1 b2 ms nx es h _ H.out).mono ?_
  rintro x w1 ⟨⟨v, rfl, hv⟩, hb1⟩
  have K1 := Hid.mk (And.intro hv hb1)
  have hw1 := hb1.size
  clear hv hb1
  rcases K1.out.1 with ⟨rfl, hno⟩ | ⟨e1, he1, hg1, rfl⟩
  · have KN := Hid.mk hno
    clear hno
    go_wp2_with fail
    go_ret2
    exact ⟨⟨_, _, rfl, .inl ⟨FindL.none H.out KN.out, rfl⟩⟩, K1.out.2⟩
  · obtain ⟨i, r, q, zs, hi, hx⟩ := H.out.ent_of he1
    obtain ⟨-, hf1, lo1, hi1, hm1⟩ := (H.out.below K1.out.2).entry he1 hi hx rfl
    obtain ⟨gs1, hI1⟩ := hm1.isR
    obtain ⟨p1, hp1⟩ : ∃ p1, p1 = e1.2.2 := ⟨_, rfl⟩
    rw [← hp1] at hI1 ⊢
    have HE := Hid.mk (And.intro he1 (And.intro hg1 (And.intro hi (And.intro hx (And.intro hf1 (And.intro hI1 hp1))))))
    obtain ⟨-, ao1, cap1, c0, c1, -⟩ := hI1.open_
    clear he1 hg1 hi hx hf1 hI1 hp1 hm1
    by_cases hsq : sq = true ∧ r ≠ q
    · obtain ⟨rfl, hne⟩ := hsq
      have iq : ((r : Int) == (q : Int)) = false := beq_eq_false_iff_ne.2 (by omega)
      have HNE := Hid.mk hne
      clear hne
      go_wp2_with fail
      go_quiet (fail)
      all_goals
        go_wp2_with fail
        go_ret2
        obtain ⟨a1, a2, a3, a4, -⟩ := HE.out
        exact ⟨⟨_, _, rfl, .inr ⟨e1, i, r, q, zs, a1, a3, a4, a2, .inl ⟨rfl, HNE.out, rfl⟩⟩⟩, by first | exact K1.out.2 | exact below_drewN K1.out.2 _⟩
    · have HSQ : Hid (sq = true → r = q) := Hid.mk (fun h => Classical.byContradiction fun h2 => hsq ⟨h, h2⟩)
      cases sq
      · clear hsq
        go_wp2_with fail
        go_quiet (fail)
        go_wp2_with fail
        refine (big_any p1 r q gs1 (fz q zs) lo1 40000000001 _ (HE.out.2.2.2.2.2.1.keep (KR.of_below (below_drewN (Below.refl _ _) _))) (by omega) HE.out.2.2.2.2.1.1 HE.out.2.2.2.2.1.2.1).mono ?_
        rintro x w5 ⟨bx, rfl, hbx, hb5⟩
        have hb15 : Below w1.heap.size w1 w5 := (below_drewN (Below.refl w1.heap.size w1) _).trans (hb5.mono (below_drewN (Below.refl w1.heap.size w1) _).size)
        have K5 := Hid.mk (And.intro (show bx = true ↔ ¬ FitsP r q zs from by rw [← big_fits]; exact hbx) (K1.out.2.trans (hb15.mono hw1)))
        clear hbx hb5 hb15
        cases bx
        · have HF : Hid (FitsP r q zs) := Hid.mk (Classical.byContradiction fun h => (by have := K5.out.1.2 h; cases this))
          go_wp2_with fail
          go_ret2
          obtain ⟨a1, a2, a3, a4, -, -, a7⟩ := HE.out
          exact ⟨⟨_, _, rfl, .inr ⟨e1, i, r, q, zs, a1, a3, a4, a2, .inr (.inr ⟨HSQ.out, HF.out, rfl, by rw [← a7]; rfl⟩)⟩⟩, K5.out.2⟩
        · have HF : Hid (¬ FitsP r q zs) := Hid.mk (K5.out.1.1 rfl)
          go_wp2_with fail
          go_ret2
          obtain ⟨a1, a2, a3, a4, -, -, a7⟩ := HE.out
          exact ⟨⟨_, _, rfl, .inr ⟨e1, i, r, q, zs, a1, a3, a4, a2, .inr (.inl ⟨HSQ.out, HF.out, rfl⟩)⟩⟩, K5.out.2⟩
      · have hrq := HSQ.out rfl
        have iq : ((r : Int) == (q : Int)) = true := beq_iff_eq.2 (by omega)
        have HRQ := Hid.mk hrq
        clear hsq hrq
        go_wp2_with fail
        go_quiet (fail)
        go_wp2_with fail
        refine (big_any p1 r q gs1 (fz q zs) lo1 40000000001 _ (HE.out.2.2.2.2.2.1.keep (KR.of_below (below_drewN (Below.refl _ _) _))) (by omega) HE.out.2.2.2.2.1.1 HE.out.2.2.2.2.1.2.1).mono ?_
        rintro x w5 ⟨bx, rfl, hbx, hb5⟩
        have hb15 : Below w1.heap.size w1 w5 := (below_drewN (Below.refl w1.heap.size w1) _).trans (hb5.mono (below_drewN (Below.refl w1.heap.size w1) _).size)
        have K5 := Hid.mk (And.intro (show bx = true ↔ ¬ FitsP r q zs from by rw [← big_fits]; exact hbx) (K1.out.2.trans (hb15.mono hw1)))
        clear hbx hb5 hb15
        cases bx
        · have HF : Hid (FitsP r q zs) := Hid.mk (Classical.byContradiction fun h => (by have := K5.out.1.2 h; cases this))
          go_wp2_with fail
          go_ret2
          obtain ⟨a1, a2, a3, a4, -, -, a7⟩ := HE.out
          exact ⟨⟨_, _, rfl, .inr ⟨e1, i, r, q, zs, a1, a3, a4, a2, .inr (.inr ⟨fun _ => HRQ.out, HF.out, rfl, by rw [← a7]; rfl⟩)⟩⟩, K5.out.2⟩
        · have HF : Hid (¬ FitsP r q zs) := Hid.mk (K5.out.1.1 rfl)
          go_wp2_with fail
          go_ret2
          obtain ⟨a1, a2, a3, a4, -, -, a7⟩ := HE.out
          exact ⟨⟨_, _, rfl, .inr ⟨e1, i, r, q, zs, a1, a3, a4, a2, .inr (.inl ⟨fun _ => HRQ.out, HF.out, rfl⟩)⟩⟩, K5.out.2⟩
end Go.Proofs.YtfjbijpagaipnaaGreatDoor
