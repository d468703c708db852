import Derived.Test.YtfjbijpagaipnaaGreatDoorC51
import Derived.Test.YtfjbijpagaipnaaGreatDoorC52
import Derived.Test.YtfjbijpagaipnaaGreatDoorC23
import Derived.Test.YtfjbijpagaipnaaGreatDoorC17
import Derived.Deep.CutRange
import Derived.BigQuiet
/- matriceslaw: twin.Det, twin.Rank, World.due. -/
namespace Go.Proofs.YtfjbijpagaipnaaGreatDoor
open Go.RowKit R

set_option maxRecDepth 100000 in
set_option maxHeartbeats 1000000 in
theorem text_same (T : Nat) (a : ByteArray) (e : Int) (w : World) :
    Calls Tryz.prog 168 #[.pointer (some ⟨T, 0, none⟩), .string a, .int .i64 e, .string a, .int .i64 e] w fun x w' => x = .returned (.tuple #[.string a, .int .i64 e]) ∧ w' = w := by
  have i1 : (a.toList == a.toList) = true := by simp
  have i2 : (e == e) = true := by simp
  go_enter Tryz.func168, Tryz.ntmps168
  go_wp2_with fail
  refine (like_true T _).mono ?_
  rintro x w' ⟨rfl, rfl⟩
  go_wp2_with fail
  go_ret2
  exact ⟨rfl, rfl⟩
set_option maxRecDepth 100000 in
set_option maxHeartbeats 1000000 in
theorem twDet_any (B T b1 b2 : Nat) (h : Int) (ms : List Hm) (nx : Nat) (w : World) (hst : TwH B w T b1 b2 ms nx) (hd : Dst ms) :
    Calls Tryz.prog 108 #[.pointer (some ⟨T, 0, none⟩), .int .i64 h] w fun x w' => ∃ t e, x = .returned (.tuple #[.string ⟨t.toArray⟩, .int .i64 e]) ∧ DetRel ms h t e ∧ Below w.heap.size w w' := by
  obtain ⟨c0, c1, c2, -⟩ := hst.1.cells
  have H := Hid.mk (And.intro hst hd)
  clear hst hd
  go_enter Tryz.func108, Tryz.ntmps108
  go_wp2_with fail
  refine (det_held b1 h ms nx _ H.out.1.2.1 H.out.1.2.2.2.2.1.tab).mono ?_
  rintro x w1 ⟨t, e, rfl, hrel, hb1⟩
  have hT1 := H.out.1.below hb1
  clear c0 c1 c2
  obtain ⟨c0, c1, c2, -⟩ := hT1.1.cells
  have K1 := Hid.mk (And.intro hT1 (And.intro hrel hb1))
  have hw1 := hb1.size
  clear hT1 hrel hb1
  go_wp2_with fail
  refine (det_held b2 h ms nx _ K1.out.1.2.2.1 K1.out.1.2.2.2.2.1.tab).mono ?_
  rintro x w2 ⟨t2, e2, rfl, hrel2, hb2⟩
  obtain ⟨rfl, rfl⟩ := DetRel.uniq H.out.2 K1.out.2.1 hrel2
  have K2 := Hid.mk (K1.out.2.2.trans (hb2.mono hw1))
  clear hb2 hrel2 c0 c1 c2
  obtain ⟨tb, htb⟩ : ∃ tb : ByteArray, tb = ⟨t.toArray⟩ := ⟨_, rfl⟩
  have HTB := Hid.mk htb
  rw [← htb]
  clear htb
  go_wp2_with fail
  refine (text_same T tb e _).mono ?_
  rintro x w' ⟨rfl, rfl⟩
  go_wp2_with fail
  go_ret2
  exact ⟨t, e, by rw [HTB.out]; rfl, K1.out.2.1, K2.out⟩
set_option maxRecDepth 100000 in
set_option maxHeartbeats 1000000 in
theorem twRank_any (B T b1 b2 : Nat) (h : Int) (ms : List Hm) (nx : Nat) (w : World) (hst : TwH B w T b1 b2 ms nx) (hd : Dst ms) :
    Calls Tryz.prog 111 #[.pointer (some ⟨T, 0, none⟩), .int .i64 h] w fun x w' => ∃ z e, x = .returned (.tuple #[.int .i64 z, .int .i64 e]) ∧ RkRel ms h z e ∧ Below w.heap.size w w' := by
  obtain ⟨c0, c1, c2, -⟩ := hst.1.cells
  have H := Hid.mk (And.intro hst hd)
  clear hst hd
  go_enter Tryz.func111, Tryz.ntmps111
  go_wp2_with fail
  refine (rank_held b1 h ms nx _ H.out.1.2.1).mono ?_
  rintro x w1 ⟨t, e, rfl, hrel, hb1⟩
  have hT1 := H.out.1.below hb1
  clear c0 c1 c2
  obtain ⟨c0, c1, c2, -⟩ := hT1.1.cells
  have K1 := Hid.mk (And.intro hT1 (And.intro hrel hb1))
  have hw1 := hb1.size
  clear hT1 hrel hb1
  go_wp2_with fail
  refine (rank_held b2 h ms nx _ K1.out.1.2.2.1).mono ?_
  rintro x w2 ⟨t2, e2, rfl, hrel2, hb2⟩
  obtain ⟨rfl, rfl⟩ := RkRel.uniq H.out.2 K1.out.2.1 hrel2
  have K2 := Hid.mk (K1.out.2.2.trans (hb2.mono hw1))
  clear hb2 hrel2 c0 c1 c2
  go_wp2_with fail
  refine (one_same T t e _).mono ?_
  rintro x w' ⟨rfl, rfl⟩
  go_wp2_with fail
  go_ret2
  exact ⟨t, e, rfl, K1.out.2.1, K2.out⟩
/-- What due hands back: of a handle, its matrix or what is amiss. -/
def DueL (es : List Ent) (ms : List Hm) (sq : Bool) (h : Int) (v : Value) (want : Int) : Prop :=
  ((∀ i, i < 24 → ∀ x, ms.getD i none = some x → (x.1 : Int) ≠ h) ∧ want = 2) ∨
  ∃ e i r c zs, e ∈ es ∧ i < 24 ∧ ms.getD i none = some (e.1, r, c, zs) ∧ ((e.1 : Nat) : Int) = h ∧ ((sq = true ∧ r ≠ c ∧ want = 3) ∨ ((sq = true → r = c) ∧ ¬ FitsP r c zs ∧ want = 4) ∨ ((sq = true → r = c) ∧ FitsP r c zs ∧ want = 0 ∧ v = .pointer (some ⟨e.2.2, 0, none⟩)))
set_option maxRecDepth 100000 in
set_option maxHeartbeats 2000000 in
theorem due_any (B W T b1 b2 : Nat) (ms : List Hm) (nx : Nat) (es : List Ent) (h : Int) (sq : Bool) (w : World) (hI : LInv B w W T b1 b2 ms nx es) :
    Calls Tryz.prog 107 #[.pointer (some ⟨W, 0, none⟩), .int .i64 h, .bool sq] w fun x w' => (∃ v want, x = .returned (.tuple #[v, .int .i64 want]) ∧ DueL es ms sq h v want) ∧ Below w.heap.size w w' := by
  have H := Hid.mk hI
  clear hI
  go_enter Tryz.func107, Tryz.ntmps107
  go_wp2_with fail
  refine (lfind_any B W T b1 b2 ms nx es h _ H.out).mono ?_
  rintro x w1 ⟨⟨v, rfl, hv⟩, hb1⟩
  have K1 := Hid.mk (And.intro hv hb1)
  have hw1 := hb1.size
  clear hv hb1
  rcases K1.out.1 with ⟨rfl, hno⟩ | ⟨e1, he1, hg1, rfl⟩
  · have KN := Hid.mk hno
    clear hno
    go_wp2_with fail
    go_ret2
    exact ⟨⟨_, _, rfl, .inl ⟨FindL.none H.out KN.out, rfl⟩⟩, K1.out.2⟩
  · obtain ⟨i, r, q, zs, hi, hx⟩ := H.out.ent_of he1
    obtain ⟨-, hf1, lo1, hi1, hm1⟩ := (H.out.below K1.out.2).entry he1 hi hx rfl
    obtain ⟨gs1, hI1⟩ := hm1.isR
    obtain ⟨p1, hp1⟩ : ∃ p1, p1 = e1.2.2 := ⟨_, rfl⟩
    rw [← hp1] at hI1 ⊢
    have HE := Hid.mk (And.intro he1 (And.intro hg1 (And.intro hi (And.intro hx (And.intro hf1 (And.intro hI1 hp1))))))
    obtain ⟨-, ao1, cap1, c0, c1, -⟩ := hI1.open_
    clear he1 hg1 hi hx hf1 hI1 hp1 hm1
    by_cases hsq : sq = true ∧ r ≠ q
    · obtain ⟨rfl, hne⟩ := hsq
      have iq : ((r : Int) == (q : Int)) = false := beq_eq_false_iff_ne.2 (by omega)
      have HNE := Hid.mk hne
      clear hne
      go_wp2_with fail
      go_quiet (fail)
      all_goals
        go_wp2_with fail
        go_ret2
        obtain ⟨a1, a2, a3, a4, -⟩ := HE.out
        exact ⟨⟨_, _, rfl, .inr ⟨e1, i, r, q, zs, a1, a3, a4, a2, .inl ⟨rfl, HNE.out, rfl⟩⟩⟩, by first | exact K1.out.2 | exact below_drewN K1.out.2 _⟩
    · have HSQ : Hid (sq = true → r = q) := Hid.mk (fun h => Classical.byContradiction fun h2 => hsq ⟨h, h2⟩)
      cases sq
      · clear hsq
        go_wp2_with fail
        go_quiet (fail)
        go_wp2_with fail
        refine (big_any p1 r q gs1 (fz q zs) lo1 40000000001 _ (HE.out.2.2.2.2.2.1.keep (KR.of_below (below_drewN (Below.refl _ _) _))) (by omega) HE.out.2.2.2.2.1.1 HE.out.2.2.2.2.1.2.1).mono ?_
        rintro x w5 ⟨bx, rfl, hbx, hb5⟩
        have hb15 : Below w1.heap.size w1 w5 := (below_drewN (Below.refl w1.heap.size w1) _).trans (hb5.mono (below_drewN (Below.refl w1.heap.size w1) _).size)
        have K5 := Hid.mk (And.intro (show bx = true ↔ ¬ FitsP r q zs from by rw [← big_fits]; exact hbx) (K1.out.2.trans (hb15.mono hw1)))
        clear hbx hb5 hb15
        cases bx
        · have HF : Hid (FitsP r q zs) := Hid.mk (Classical.byContradiction fun h => (by have := K5.out.1.2 h; cases this))
          go_wp2_with fail
          go_ret2
          obtain ⟨a1, a2, a3, a4, -, -, a7⟩ := HE.out
          exact ⟨⟨_, _, rfl, .inr ⟨e1, i, r, q, zs, a1, a3, a4, a2, .inr (.inr ⟨HSQ.out, HF.out, rfl, by rw [← a7]; rfl⟩)⟩⟩, K5.out.2⟩
        · have HF : Hid (¬ FitsP r q zs) := Hid.mk (K5.out.1.1 rfl)
          go_wp2_with fail
          go_ret2
          obtain ⟨a1, a2, a3, a4, -, -, a7⟩ := HE.out
          exact ⟨⟨_, _, rfl, .inr ⟨e1, i, r, q, zs, a1, a3, a4, a2, .inr (.inl ⟨HSQ.out, HF.out, rfl⟩)⟩⟩, K5.out.2⟩
      · have hrq := HSQ.out rfl
        have iq : ((r : Int) == (q : Int)) = true := beq_iff_eq.2 (by omega)
        have HRQ := Hid.mk hrq
        clear hsq hrq
        go_wp2_with fail
        go_quiet (fail)
        go_wp2_with fail
        refine (big_any p1 r q gs1 (fz q zs) lo1 40000000001 _ (HE.out.2.2.2.2.2.1.keep (KR.of_below (below_drewN (Below.refl _ _) _))) (by omega) HE.out.2.2.2.2.1.1 HE.out.2.2.2.2.1.2.1).mono ?_
        rintro x w5 ⟨bx, rfl, hbx, hb5⟩
        have hb15 : Below w1.heap.size w1 w5 := (below_drewN (Below.refl w1.heap.size w1) _).trans (hb5.mono (below_drewN (Below.refl w1.heap.size w1) _).size)
        have K5 := Hid.mk (And.intro (show bx = true ↔ ¬ FitsP r q zs from by rw [← big_fits]; exact hbx) (K1.out.2.trans (hb15.mono hw1)))
        clear hbx hb5 hb15
        cases bx
        · have HF : Hid (FitsP r q zs) := Hid.mk (Classical.byContradiction fun h => (by have := K5.out.1.2 h; cases this))
          go_wp2_with fail
          go_ret2
          obtain ⟨a1, a2, a3, a4, -, -, a7⟩ := HE.out
          exact ⟨⟨_, _, rfl, .inr ⟨e1, i, r, q, zs, a1, a3, a4, a2, .inr (.inr ⟨fun _ => HRQ.out, HF.out, rfl, by rw [← a7]; rfl⟩)⟩⟩, K5.out.2⟩
        · have HF : Hid (¬ FitsP r q zs) := Hid.mk (K5.out.1.1 rfl)
          go_wp2_with fail
          go_ret2
          obtain ⟨a1, a2, a3, a4, -, -, a7⟩ := HE.out
          exact ⟨⟨_, _, rfl, .inr ⟨e1, i, r, q, zs, a1, a3, a4, a2, .inr (.inl ⟨fun _ => HRQ.out, HF.out, rfl⟩)⟩⟩, K5.out.2⟩
end Go.Proofs.YtfjbijpagaipnaaGreatDoor

/- How many digits so many bits are. -/
namespace Go.Proofs.YtfjbijpagaipnaaGreatDoor
open Go.RowKit R

theorem lt_dec {z : Int} {m : Nat} (h : z.natAbs < 2 ^ (16 * m)) : z.natAbs < 10 ^ (5 * m) ∧ z.natAbs < 10000 ^ (2 * m) := by
  have e1 : 2 ^ (16 * m) = (65536 : Nat) ^ m := by rw [Nat.pow_mul]
  have e2 : 10 ^ (5 * m) = (100000 : Nat) ^ m := by rw [Nat.pow_mul]
  have e3 : 10000 ^ (2 * m) = (100000000 : Nat) ^ m := by rw [Nat.pow_mul]
  rw [e1] at h
  rw [e2, e3]
  exact ⟨Nat.lt_of_lt_of_le h (Nat.pow_le_pow_left (by decide) m), Nat.lt_of_lt_of_le h (Nat.pow_le_pow_left (by decide) m)⟩
theorem R.IsN.fit {w : World} {v : Value} {z : Int} {L K : Nat} (h : IsN w v z L) (hz : z.natAbs < 10000 ^ K) : IsN w v z K := by
  obtain ⟨neg, sl, xs, h1, h2, h3, h4, h5, h6⟩ := h
  refine ⟨neg, sl, xs, h1, h2, h3, h4, h5, ?_⟩
  rcases Nat.lt_or_ge K xs.length with h7 | h7
  · exfalso
    have h8 := R.Lim_ge h3 (by intro e; rw [e] at h7; simp at h7)
    have h9 : 10000 ^ K ≤ 10000 ^ (xs.length - 1) := Nat.pow_le_pow_right (by decide) (by omega)
    have h10 : z.natAbs = R.val xs := by
      cases neg
      · rw [h5]; simp
      · rw [h5]; simp
    omega
  · exact h7
theorem R.IsR.fit {B : Nat} {w : World} {b r c : Nat} {gs : Nat → Nat} {f : Nat → Nat → Int} {L m : Nat} (h : IsR B w b r c gs f L) (hf : ∀ i j, i < r → j < c → (f i j).natAbs < 2 ^ (16 * m)) : IsR B w b r c gs f (2 * m) := by
  obtain ⟨h0, v, h1, h2, h3, h4⟩ := h
  refine ⟨h0, v, h1, h2, fun i hi => ⟨(h3 i hi).1, ?_⟩, h4⟩
  obtain ⟨cs, q1, q2, q3⟩ := (h3 i hi).2
  refine ⟨cs, q1, q2, fun j hj => ?_⟩
  obtain ⟨a, b, e1, e2, e3, e4⟩ := q3 j hj
  exact ⟨a, b, e1, e2, e3.fit (lt_dec (hf i j hi hj)).2, e4⟩
theorem fine_bits {r c m : Nat} {zs : List Int} (hr : r ≤ 4) (hc : c ≤ 4) (hl : zs.length = r * c) (hz : ∀ t, t < r * c → (zs.getD t 0).natAbs < 2 ^ (16 * (m + 1))) (hm : m ≤ 300000000) : Fine r c zs :=
  fine_small (k := 5 * m + 4) hr hc hl (fun t ht => (lt_dec (hz t ht)).1) (by omega)
end Go.Proofs.YtfjbijpagaipnaaGreatDoor

/- matricesref.M: One. -/
namespace Go.Proofs.YtfjbijpagaipnaaGreatDoor.R
open Go.RowKit

theorem IsR.ne_row {B : Nat} {w : World} {b r c : Nat} {gs : Nat → Nat} {f : Nat → Nat → Int} {L : Nat} (h : IsR B w b r c gs f L) {i : Nat} (hi : i < r) : b ≠ gs i := by
  obtain ⟨h0, v, h1, h2, h3, h4⟩ := h
  obtain ⟨cs, q1, -⟩ := (h3 i hi).2
  intro e
  rw [e, q1] at h1
  simp at h1
/-- The rows lie where they lay, when an entry is written. -/
theorem IsR.set_at {B : Nat} {w : World} {b r c : Nat} {gs : Nat → Nat} {f : Nat → Nat → Int} {L : Nat} (h : IsR B w b r c gs f L) {i j : Nat} (hi : i < r) (hj : j < c) {x y : Value} {z : Int} (hz : IsN w (.agg #[x, y]) z L) {gL cap : Nat} (h2 : w.cell? ⟨b, 2, none⟩ = some (.slice (some ⟨gL, 0, none⟩) r cap)) {k : Nat} (hk : k < r) :
    ((w.setCell ⟨gs i, 2 * j, none⟩ x).setCell ⟨gs i, 2 * j + 1, none⟩ y).cell? ⟨b, 2, none⟩ = some (.slice (some ⟨gL, 0, none⟩) r cap) ∧ ((w.setCell ⟨gs i, 2 * j, none⟩ x).setCell ⟨gs i, 2 * j + 1, none⟩ y).cell? ⟨gL, k, none⟩ = some (.slice (some ⟨gs k, 0, none⟩) c c) := by
  have hne := h.ne_row hi
  have e1 : ((w.setCell ⟨gs i, 2 * j, none⟩ x).setCell ⟨gs i, 2 * j + 1, none⟩ y).cell? ⟨b, 2, none⟩ = some (.slice (some ⟨gL, 0, none⟩) r cap) := by
    rw [World.cell?_setCell_other _ _ _ _ (fun e => hne (by injection e with e1; exact e1.symm)), World.cell?_setCell_other _ _ _ _ (fun e => hne (by injection e with e1; exact e1.symm))]
    exact h2
  refine ⟨e1, ?_⟩
  obtain ⟨-, ao, cap', -, -, e2, -, -, e3, -⟩ := ((h.weak (Nat.zero_le _)).set hi hj hz (AtB.zero _)).open_
  rw [e1] at e2
  simp only [Option.some.injEq, Value.slice.injEq] at e2
  obtain ⟨g, hg, hc⟩ := e3 k hk
  rw [← e2.1] at hg
  simp only [Option.some.injEq, Addr.mk.injEq, and_true] at hg
  rw [hg]
  exact hc
/-- Ones from the corner on, so far. -/
def OneTo (n : Nat) (g : Nat → Nat → Int) : Prop := ∀ i j, g i j = if i = j ∧ i < n then 1 else 0
theorem OneTo.next {n : Nat} {g : Nat → Nat → Int} (h : OneTo n g) : OneTo (n + 1) (upd2 g n n 1) := fun i j => by
  unfold upd2
  rw [h i j]
  grind
set_option maxRecDepth 100000 in
set_option maxHeartbeats 4000000 in
theorem one_yes (b r : Nat) (gs : Nat → Nat) (f : Nat → Nat → Int) (B L : Nat) (w : World) (h : IsR B w b r r gs f L) (he : ∀ i j, i < r → j < r → f i j = if i = j then 1 else 0) (hL : L ≤ 50000000000) (hL4 : 4 ≤ L) (hr : r ≤ 99) :
    Calls Tryz.prog 176 #[.pointer (some ⟨b, 0, none⟩)] w fun e w' => e = .returned (.bool true) ∧ Below w.heap.size w w' := by
  have H := Hid.mk (And.intro h he)
  obtain ⟨hbl, ao, cap, c0, c1, c2, -⟩ := h.open_
  clear h he
  go_enter Tryz.func176, Tryz.ntmps176
  go_upto_region 1 with fail
  go_cut [3] from 6 to 15 (fun o wx => o = .pointer (some ⟨w.heap.size, 0, none⟩) ∧ (∃ go, IsR w.heap.size wx w.heap.size r r go (fun _ _ => 0) 0) ∧ Below w.heap.size w wx)
  case first =>
    go_region_held3 (fun w' => w'.cell? ⟨b, 0, none⟩ = some (.int .i64 r)) (first | go_keep | exact cell_later hb2 c0)
      (first | (go_at_call 126; refine (empty_any r r _ (by omega) (by omega)).mono ?_; rintro e w2 ⟨rfl, hI2, hb2⟩))
    all_goals
      go_wp2_with fail
      go_meet
      case rel => exact ⟨rfl, hI2, (Below.refl w.heap.size w).drew.trans hb2⟩
  case rest =>
    obtain ⟨rfl, ⟨go, hI⟩, hbc⟩ := hcut
    have hgo := hI.rowsAt
    have HGO := Hid.mk hgo
    have H0 := Hid.mk (And.intro ((hI.weak (Nat.zero_le _)).mono (Nat.zero_le L)) hbc)
    clear hI hbc hgo c0 c1 c2
    go_wp2_with fail
    go_loopw [4] (fun i wr => ∃ (a : Nat) (g : Nat → Nat → Int), a ≤ r ∧ i = .int .i64 a ∧ IsR 0 wr w.heap.size r r go g L ∧ Below w.heap.size w wr ∧ Hid (OneTo a g)) (fun i _ => r - (intOf i).toNat)
    case atStart => exact ⟨0, _, Nat.zero_le _, rfl, H0.out.1, H0.out.2, Hid.mk (fun i j => by simp)⟩
    case round =>
      rename World => wi
      obtain ⟨a, g, ha, rfl, hI, hbel, HU⟩ := hrel
      obtain ⟨-, ao, cap, c0, c1, c2, -⟩ := (H.out.1.keep (KR.of_below hbel)).open_
      obtain ⟨-, ao', cap', d0, d1, d2, d3, d4, d5, d6⟩ := hI.open_
      have HB := Hid.mk (And.intro hI hbel)
      have hwi := hbel.size
      clear hI hbel
      by_cases har : a < r
      · have hai : (a : Int) < (r : Int) := by omega
        obtain ⟨gL, rfl, y1⟩ := d5 a har
        obtain ⟨nb, so, n, cp, y2, y3, y4, y5, -⟩ := d6 a a har har
        rw [Nat.mul_comm 2] at y2 y3 y4 y5
        clear d5 d6
        have HS := Hid.mk (show ∀ w', Below wi.heap.size wi w' → w'.cell? ⟨w.heap.size, 2, none⟩ = some (.slice (some ⟨gL, 0, none⟩) r cap') ∧ w'.cell? ⟨gL, a, none⟩ = some (.slice (some ⟨go a, 0, none⟩) r r) from fun w' hb => ⟨cell_later hb d2, cell_later hb y1⟩)
        have hgl : go a < wi.heap.size := (HB.out.1.rowsAt a har).2
        have HGL := Hid.mk (And.intro hgl (And.intro hwi (And.intro y2 (And.intro y3 (And.intro y4 y5)))))
        clear hgl hwi y2 y3 y4 y5
        go_wp2_with fail
        go_region_held3 (fun w' => w'.cell? ⟨w.heap.size, 2, none⟩ = some (.slice (some ⟨gL, 0, none⟩) r cap') ∧ w'.cell? ⟨gL, a, none⟩ = some (.slice (some ⟨go a, 0, none⟩) r r))
          (first | exact hk9 | exact HS.out _ (by first | exact hb9 | exact (Below.refl _ _).drew))
          (first | (go_at_call 172; refine (of_any 1 _ (by omega)).mono ?_; rintro e w2 ⟨p9, rfl, hp9, hb2⟩; obtain ⟨nb9, so9, cp9, xs9, rfl, -⟩ := hp9.parts; have hb9 : Below wi.heap.size wi w2 := (Below.refl _ _).drew.trans hb2; have hI9 := HB.out.1.keep (KR.of_below hb9); obtain ⟨-, ao9, cap9, -, -, -, -, -, -, d9⟩ := hI9.open_; obtain ⟨n9, s9, l9, q9, x2, x3, x4, x5, -⟩ := d9 a a har har; rw [Nat.mul_comm 2] at x2 x3 x4 x5; have hk9 := hI9.set_at har har (hp9.mono (show 3 ≤ L by omega)) (cell_later hb9 d2) har; rw [Nat.mul_comm 2] at hk9; clear hb2 d9))
        all_goals
          go_wp2_with fail
          go_roundw
          case measure => simp [intOf]; omega
          case rel =>
            have hset := hI9.set har har (hp9.mono (show 3 ≤ L by omega)) (AtB.zero _)
            rw [Nat.mul_comm 2] at hset
            have hge := (HGO.out a har).1
            have hbw : Below w.heap.size w w2 := HB.out.2.trans (hb9.mono HB.out.2.size)
            exact ⟨a + 1, _, by omega, by go_num, hset, (hbw.setCell hge _).setCell hge _, Hid.mk (HU.out.next)⟩
      · go_wp2_with fail
        refine (same_yes b r r gs f B w.heap.size go g 0 L _ (H.out.1.keep (KR.of_below HB.out.2)) HB.out.1 (fun i j hi hj => by rw [H.out.2 i j hi hj, HU.out i j]; by_cases hij : i = j <;> simp [hij]; omega) hL hr hr).mono ?_
        rintro x w7 ⟨rfl, hb7⟩
        have HF := Hid.mk (HB.out.2.trans (hb7.mono hwi))
        clear hb7
        go_wp2_with fail
        go_ret
        exact ⟨rfl, HF.out⟩
end Go.Proofs.YtfjbijpagaipnaaGreatDoor.R

/- matricesref.M: Echelon, where it is of row form. -/
namespace Go.Proofs.YtfjbijpagaipnaaGreatDoor.R
open Go.RowKit

/-- Row form, with k pivots in the columns pc. -/
structure EchP (f : Nat → Nat → Int) (r c k : Nat) (pc : Nat → Nat) : Prop where
  le : k ≤ r
  col : ∀ i, i < k → pc i < c
  up : ∀ a b, a < b → b < k → pc a < pc b
  left : ∀ i, i < k → ∀ j, j < pc i → f i j = 0
  pos : ∀ i, i < k → 0 < f i (pc i)
  above : ∀ a i, a < i → i < k → 0 ≤ f a (pc i) ∧ f a (pc i) < f i (pc i)
  rest : ∀ i, k ≤ i → i < r → ∀ j, j < c → f i j = 0
/-- Where the look has come to: ahead of the pivot of row i. -/
def LastE (k : Nat) (pc : Nat → Nat) (i : Nat) (la : Int) : Prop := (i < k → la < (pc i : Int))
theorem sgn_pos' {z : Int} (h : 0 < z) : sgn z = 1 := by unfold sgn; grind
set_option maxRecDepth 100000 in
set_option maxHeartbeats 4000000 in
theorem echelon_yes (b r c : Nat) (gs : Nat → Nat) (f : Nat → Nat → Int) (B L k : Nat) (pc : Nat → Nat) (w : World) (h : IsR B w b r c gs f L) (he : EchP f r c k pc) (hL : L ≤ 50000000000) (hr : r ≤ 99) (hc : c ≤ 99) :
    Calls Tryz.prog 117 #[.pointer (some ⟨b, 0, none⟩)] w fun e w' => e = .returned (.bool true) ∧ Below w.heap.size w w' := by
  have H := Hid.mk (And.intro h he)
  obtain ⟨hbl, ao, cap, c0, c1, c2, -⟩ := h.open_
  clear h he
  go_enter Tryz.func117, Tryz.ntmps117
  go_wp2_with fail
  go_loopw [3, 4] (fun la i wr => ∃ (a : Nat) (l : Int), a ≤ r ∧ i = .int .i64 a ∧ la = .int .i64 l ∧ Hid (LastE k pc a l) ∧ Below w.heap.size w wr) (fun _ i _ => r - (intOf i).toNat)
  case atStart => exact ⟨0, -1, Nat.zero_le _, rfl, rfl, Hid.mk (fun _ => by omega), Below.refl _ _⟩
  case round =>
    rename World => wi
    obtain ⟨a, l, ha, rfl, rfl, HL, hbel⟩ := hrel
    clear c0 c1 c2
    obtain ⟨-, ao, cap, c0, c1, c2, -⟩ := (H.out.1.keep (KR.of_below hbel)).open_
    have HB := Hid.mk hbel
    clear hbel
    by_cases har : a < r
    · by_cases hak : a < k
      · obtain ⟨p, hp⟩ : ∃ p, p = pc a := ⟨_, rfl⟩
        have hpc : p < c := by rw [hp]; exact H.out.2.col a hak
        have hl0 : l < (p : Int) := by rw [hp]; exact HL.out hak
        have HP := Hid.mk hp
        clear hp
        go_wp2_with fail
        go_loopw [5] (fun j wr => ∃ e : Nat, e ≤ p ∧ j = .int .i64 e ∧ Below w.heap.size w wr) (fun j _ => p - (intOf j).toNat)
        case atStart => exact ⟨0, Nat.zero_le _, rfl, HB.out⟩
        case round =>
          rename World => wj
          obtain ⟨e, he, rfl, hbel⟩ := hrel
          clear c0 c1 c2
          obtain ⟨-, ao, cap, c0, c1, c2, c3, c4, c5, c6⟩ := (H.out.1.keep (KR.of_below hbel)).open_
          have HB2 := Hid.mk hbel
          clear hbel
          have hec : e < c := by omega
          have hai : (a : Int) < (r : Int) := by omega
          have hei : (e : Int) < (c : Int) := by omega
          obtain ⟨gL, rfl, y1⟩ := c5 a har
          obtain ⟨nb, so, n, cp, y2, y3, -, -, hN⟩ := c6 a e har hec
          rw [Nat.mul_comm 2] at y2 y3
          have HN := Hid.mk hN
          clear hN c5 c6
          by_cases hep : e < p
          · have hz : sgn (f a e) = 0 := by rw [H.out.2.left a hak e (by have := HP.out; omega)]; rfl
            go_wp2_with fail
            refine (sign_any _ (f a e) L _ HN.out).mono ?_
            rintro x w2 ⟨rfl, hb2⟩
            have HB3 := Hid.mk (HB2.out.trans (hb2.mono HB2.out.size))
            rw [hz]
            clear hb2 c0 c1 c2 y1 y2 y3 hz
            go_wp2_with fail
            go_roundw
            case measure => simp [intOf]; omega
            case rel => exact ⟨e + 1, by omega, by go_num, HB3.out⟩
          · obtain rfl : e = p := by omega
            have hz : sgn (f a e) = 1 := sgn_pos' (by rw [HP.out]; exact H.out.2.pos a hak)
            go_wp2_with fail
            refine (sign_any _ (f a e) L _ HN.out).mono ?_
            rintro x w2 ⟨rfl, hb2⟩
            have HB3 := Hid.mk (HB2.out.trans (hb2.mono HB2.out.size))
            have HN3 := Hid.mk (HN.out.below hb2)
            have x0 := cell_later hb2 c0
            have x1 := cell_later hb2 c1
            have x2 := cell_later hb2 c2
            have x3 := cell_later hb2 y1
            have x4 := cell_later hb2 y2
            have x5 := cell_later hb2 y3
            rw [hz]
            clear hb2 c0 c1 c2 y1 y2 y3
            go_wp2_with fail
            refine (sign_any _ (f a e) L _ HN3.out).mono ?_
            rintro x w3 ⟨rfl, hb3⟩
            have HB4 := Hid.mk (HB3.out.trans (hb3.mono HB3.out.size))
            rw [hz]
            clear hb3 x0 x1 x2 x3 x4 x5 hz
            go_wp2_with fail
            go_loopw [7, 8] (fun _ j wr => ∃ q : Nat, q ≤ a ∧ j = .int .i64 q ∧ Below w.heap.size w wr) (fun _ j _ => a - (intOf j).toNat)
            case atStart => exact ⟨0, Nat.zero_le _, rfl, HB4.out⟩
            case round =>
              rename World => wk
              obtain ⟨q, hq, rfl, hbel⟩ := hrel
              obtain ⟨-, ao, cap, c0, c1, c2, c3, c4, c5, c6⟩ := (H.out.1.keep (KR.of_below hbel)).open_
              have HB5 := Hid.mk hbel
              clear hbel
              by_cases hqa : q < a
              · have hqr : q < r := by omega
                have hqi : (q : Int) < (r : Int) := by omega
                have hqi' : (q : Int) < (a : Int) := by omega
                obtain ⟨gL, rfl, y1⟩ := c5 a har
                obtain ⟨nb, so, n, cp, y2, y3, -, -, hN⟩ := c6 a e har hec
                obtain ⟨gL', hgL', z1⟩ := c5 q hqr
                simp only [Option.some.injEq, Addr.mk.injEq, and_true] at hgL'
                subst hgL'
                obtain ⟨nb', so', n', cp', z2, z3, -, -, hN'⟩ := c6 q e hqr hec
                rw [Nat.mul_comm 2] at y2 y3 z2 z3
                have HN := Hid.mk (And.intro hN' hN)
                clear hN hN' c5 c6
                have HA := Hid.mk (show 0 ≤ f q e ∧ f q e < f a e by rw [HP.out]; exact H.out.2.above q a hqa hak)
                obtain ⟨sg, hsg⟩ : ∃ sg, sg = sgn (f q e) := ⟨_, rfl⟩
                have hsg0 : 0 ≤ sg := by have := HA.out.1; rw [hsg]; unfold sgn; grind
                go_wp2_with fail
                refine (sign_any _ (f q e) L _ HN.out.1).mono ?_
                rintro x w4 ⟨rfl, hb4⟩
                rw [← hsg]
                have HC := Hid.mk (show ∀ w', Below w4.heap.size w4 w' → w'.cell? ⟨b, 2, none⟩ = some (.slice (some ⟨gL, 0, none⟩) r cap) ∧ w'.cell? ⟨gL, a, none⟩ = some (.slice (some ⟨gs a, 0, none⟩) c c) ∧ w'.cell? ⟨gs a, e * 2, none⟩ = some (.bool nb) ∧ w'.cell? ⟨gs a, e * 2 + 1, none⟩ = some (.slice so n cp) ∧ w'.cell? ⟨gL, q, none⟩ = some (.slice (some ⟨gs q, 0, none⟩) c c) ∧ w'.cell? ⟨gs q, e * 2, none⟩ = some (.bool nb') ∧ w'.cell? ⟨gs q, e * 2 + 1, none⟩ = some (.slice so' n' cp') from
                  fun w' hb => ⟨cell_later hb (cell_later hb4 c2), cell_later hb (cell_later hb4 y1), cell_later hb (cell_later hb4 y2), cell_later hb (cell_later hb4 y3), cell_later hb (cell_later hb4 z1), cell_later hb (cell_later hb4 z2), cell_later hb (cell_later hb4 z3)⟩)
                have HB6 := Hid.mk (And.intro (HB5.out.trans (hb4.mono HB5.out.size)) (And.intro (HN.out.1.below hb4) (HN.out.2.below hb4)))
                have t2 := HC.out w4 (Below.refl _ _)
                obtain ⟨t2, t3, t4, t5, t6, t7, t8⟩ := t2
                clear hb4 c0 c1 c2 y1 y2 y3 z1 z2 z3 hsg
                go_upto_region 20 with fail
                go_cut [9] from 84 to 105 (fun o wx => o = .int .i64 (-1) ∧ Below w.heap.size w wx)
                case first =>
                  go_region_held3 (fun w' => w'.cell? ⟨b, 2, none⟩ = some (.slice (some ⟨gL, 0, none⟩) r cap) ∧ w'.cell? ⟨gL, a, none⟩ = some (.slice (some ⟨gs a, 0, none⟩) c c) ∧ w'.cell? ⟨gs a, e * 2, none⟩ = some (.bool nb) ∧ w'.cell? ⟨gs a, e * 2 + 1, none⟩ = some (.slice so n cp) ∧ w'.cell? ⟨gL, q, none⟩ = some (.slice (some ⟨gs q, 0, none⟩) c c) ∧ w'.cell? ⟨gs q, e * 2, none⟩ = some (.bool nb') ∧ w'.cell? ⟨gs q, e * 2 + 1, none⟩ = some (.slice so' n' cp'))
                    (exact HC.out _ (by first | exact hb9 | exact (Below.refl _ _).drew))
                    (first | (go_at_call 163; refine (order_any _ _ (f q e) (f a e) L L _ (HB6.out.2.1.below ((Below.refl _ _).drew)) (HB6.out.2.2.below ((Below.refl _ _).drew)) hL hL).mono ?_; rintro e w2 ⟨rfl, hb2⟩; have hb9 : Below w4.heap.size w4 w2 := (Below.refl _ _).drew.trans hb2; clear hb2))
                  all_goals
                    go_wp2_with fail
                    go_meet
                    case rel =>
                      refine ⟨?_, HB6.out.1.trans (hb9.mono HB6.out.1.size)⟩
                      have : sgn (f q e - f a e) = -1 := by have := HA.out.2; unfold sgn; grind
                      rw [this]
                case rest =>
                  obtain ⟨rfl, hbc⟩ := hcut
                  have HB7 := Hid.mk hbc
                  clear hbc t2 t3 t4 t5 t6 t7 t8
                  go_wp2_with fail
                  go_roundw
                  case measure => simp [intOf]; omega
                  case rel => exact ⟨q + 1, by omega, by go_num, HB7.out⟩
              · clear c5 c6
                go_wp2_with fail
                go_roundw
                case measure => simp [intOf]; omega
                case rel => exact ⟨a + 1, _, by omega, by go_num, rfl, Hid.mk (fun h => by have := H.out.2.up a (a + 1) (by omega) h; have := HP.out; omega), HB5.out⟩
      · go_wp2_with fail
        go_loopw [5] (fun j wr => ∃ e : Nat, e ≤ c ∧ j = .int .i64 e ∧ Below w.heap.size w wr) (fun j _ => c - (intOf j).toNat)
        case atStart => exact ⟨0, Nat.zero_le _, rfl, HB.out⟩
        case round =>
          rename World => wj
          obtain ⟨e, he, rfl, hbel⟩ := hrel
          clear c0 c1 c2
          obtain ⟨-, ao, cap, c0, c1, c2, c3, c4, c5, c6⟩ := (H.out.1.keep (KR.of_below hbel)).open_
          have HB2 := Hid.mk hbel
          clear hbel
          by_cases hec : e < c
          · have hai : (a : Int) < (r : Int) := by omega
            have hei : (e : Int) < (c : Int) := by omega
            obtain ⟨gL, rfl, y1⟩ := c5 a har
            obtain ⟨nb, so, n, cp, y2, y3, -, -, hN⟩ := c6 a e har hec
            rw [Nat.mul_comm 2] at y2 y3
            have HN := Hid.mk hN
            clear hN c5 c6
            have hz : sgn (f a e) = 0 := by rw [H.out.2.rest a (by omega) har e hec]; rfl
            go_wp2_with fail
            refine (sign_any _ (f a e) L _ HN.out).mono ?_
            rintro x w2 ⟨rfl, hb2⟩
            have HB3 := Hid.mk (HB2.out.trans (hb2.mono HB2.out.size))
            rw [hz]
            clear hb2 c0 c1 c2 y1 y2 y3 hz
            go_wp2_with fail
            go_roundw
            case measure => simp [intOf]; omega
            case rel => exact ⟨e + 1, by omega, by go_num, HB3.out⟩
          · obtain rfl : e = c := by omega
            clear c5 c6
            have iee : ((e : Int) == (e : Int)) = true := by simp
            go_wp2_with fail
            go_roundw
            case measure => simp [intOf]; omega
            case rel => exact ⟨a + 1, _, by omega, by go_num, rfl, Hid.mk (fun h => by omega), HB2.out⟩
    · go_wp2_with fail
      go_ret
      exact ⟨rfl, HB.out⟩
end Go.Proofs.YtfjbijpagaipnaaGreatDoor.R

/- matriceslaw: inverse. -/
namespace Go.Proofs.YtfjbijpagaipnaaGreatDoor
open Go.RowKit R

set_option maxRecDepth 100000 in
set_option maxHeartbeats 2000000 in
theorem inverse_yes (b b' n L : Nat) (gs gs' : Nat → Nat) (f f' : Nat → Nat → Int) (B B' : Nat) (w : World) (h : IsR B w b n n gs f L) (h' : IsR B' w b' n n gs' f' L) (hn : n ≤ 8) (hL : L ≤ 15000000000) (he : ∀ i j, i < n → j < n → dot f f' i j n = if i = j then 1 else 0) :
    Calls Tryz.prog 118 #[.pointer (some ⟨b, 0, none⟩), .pointer (some ⟨b', 0, none⟩), .int .i64 n] w fun x w' => x = .returned (.bool true) ∧ Below w.heap.size w w' := by
  have H := Hid.mk (And.intro h (And.intro h' he))
  obtain ⟨-, ao, cap, c0, c1, -⟩ := h.open_
  obtain ⟨-, ao', cap', d0, d1, -⟩ := h'.open_
  clear h h' he
  have hnn : ((n : Int) == (n : Int)) = true := by simp
  go_enter Tryz.func118, Tryz.ntmps118
  go_wp2_with fail
  try go_quiet (fail)
  go_wp2_with fail
  refine (mtimes_any L L b n n gs f B b' n gs' f' B' _ H.out.1 H.out.2.1 hn hn hn (by omega)).mono ?_
  rintro e w1 ⟨rfl, ⟨go, hI⟩, hb1⟩
  have K := Hid.mk (And.intro hI hb1)
  clear hI hb1 c0 c1 d0 d1
  go_wp2_with fail
  refine (one_yes w.heap.size n go _ 0 (L + L + 12) _ K.out.1 H.out.2.2 (by omega) (by omega) (by omega)).mono ?_
  rintro e w2 ⟨rfl, hb2⟩
  have K2 := Hid.mk (K.out.2.trans (hb2.mono K.out.2.size))
  clear hb2
  go_wp2_with fail
  go_ret
  exact ⟨rfl, K2.out⟩
end Go.Proofs.YtfjbijpagaipnaaGreatDoor
