import Derived.Test.YtfjbijpagaipnaaGreatDoorC43
import Derived.Test.YtfjbijpagaipnaaGreatDoorC41
import Derived.Test.YtfjbijpagaipnaaGreatDoorC23
namespace Go.Proofs.YtfjbijpagaipnaaGreatDoor
open Go.RowKit R
theorem det_case {es : List Ent} {ms : List Hm} {h e want : Int} {v : Value} {t : List UInt8} (hd : Dst ms) (hp : DueL es ms true h v want) (ht : DetRel ms h t e) :
    ((want = 2 ∨ want = 3 ∨ want = 4) ∧ e = want ∧ t = []) ∨ (want = 0 ∧ e = 0 ∧ ∃ e1 i r zs, e1 ∈ es ∧ i < 24 ∧ ms.getD i none = some (e1.1, r, r, zs) ∧ FitsP r r zs ∧ v = .pointer (some ⟨e1.2.2, 0, none⟩) ∧ t = Lib.itoa (detF r (fz r zs))) := by
  rcases hp with ⟨hn, rfl⟩ | ⟨e1, i, r, c, zs, m1, hi, hx, hxh, hp⟩
  · rcases ht with ⟨-, rfl, rfl⟩ | ⟨i, hd1, r, c, zs, hi, hx, hxh, -⟩
    · exact .inl ⟨.inl rfl, rfl, rfl⟩
    · exact absurd hxh (hn i hi _ hx)
  · rcases ht with ⟨hn, -⟩ | ⟨i', hd1, r', c', zs', hi', hx', hxh', ht⟩
    · exact absurd hxh (hn i hi _ hx)
    · have e5 : i = i' := hd i i' _ _ hi hi' hx hx' (by show e1.1 = hd1; omega)
      subst e5
      rw [hx] at hx'
      simp only [Option.some.injEq, Prod.mk.injEq] at hx'
      obtain ⟨rfl, rfl, rfl, rfl⟩ := hx'
      rcases hp with ⟨-, p1, rfl⟩ | ⟨p0, p1, rfl⟩ | ⟨p0, p1, rfl, rfl⟩
      · rcases ht with ⟨-, rfl, rfl⟩ | ⟨t1, _⟩ | ⟨t1, _⟩
        · exact .inl ⟨.inr (.inl rfl), rfl, rfl⟩
        · exact absurd t1 p1
        · exact absurd t1 p1
      · rcases ht with ⟨t1, _⟩ | ⟨-, -, rfl, rfl⟩ | ⟨-, t2, _⟩
        · exact absurd (p0 rfl) t1
        · exact .inl ⟨.inr (.inr rfl), rfl, rfl⟩
        · exact absurd t2 p1
      · rcases ht with ⟨t1, _⟩ | ⟨-, t2, _⟩ | ⟨-, -, rfl, rfl⟩
        · exact absurd (p0 rfl) t1
        · exact absurd p1 t2
        · obtain rfl := p0 rfl
          exact .inr ⟨rfl, rfl, e1, i, r, zs, m1, hi, hx, p1, rfl, rfl⟩
theorem rank_case {es : List Ent} {ms : List Hm} {h z e want : Int} {v : Value} (hd : Dst ms) (hp : DueL es ms false h v want) (ht : RkRel ms h z e) :
    ((want = 2 ∨ want = 3 ∨ want = 4) ∧ e = want ∧ z = -1) ∨ (want = 0 ∧ e = 0 ∧ ∃ e1 i r c zs k, e1 ∈ es ∧ i < 24 ∧ ms.getD i none = some (e1.1, r, c, zs) ∧ FitsP r c zs ∧ v = .pointer (some ⟨e1.2.2, 0, none⟩) ∧ z = ((k : Nat) : Int) ∧ RankIs (fz c zs) r c k) := by
  rcases hp with ⟨hn, rfl⟩ | ⟨e1, i, r, c, zs, m1, hi, hx, hxh, hp⟩
  · rcases ht with ⟨-, rfl, rfl⟩ | ⟨i, hd1, r, c, zs, hi, hx, hxh, -⟩
    · exact .inl ⟨.inl rfl, rfl, rfl⟩
    · exact absurd hxh (hn i hi _ hx)
  · rcases ht with ⟨hn, -⟩ | ⟨i', hd1, r', c', zs', hi', hx', hxh', ht⟩
    · exact absurd hxh (hn i hi _ hx)
    · have e5 : i = i' := hd i i' _ _ hi hi' hx hx' (by show e1.1 = hd1; omega)
      subst e5
      rw [hx] at hx'
      simp only [Option.some.injEq, Prod.mk.injEq] at hx'
      obtain ⟨rfl, rfl, rfl, rfl⟩ := hx'
      rcases hp with ⟨h0, -⟩ | ⟨-, p1, rfl⟩ | ⟨-, p1, rfl, rfl⟩
      · cases h0
      · rcases ht with ⟨-, rfl, rfl⟩ | ⟨t1, _⟩
        · exact .inl ⟨.inr (.inr rfl), rfl, rfl⟩
        · exact absurd t1 p1
      · rcases ht with ⟨t1, _⟩ | ⟨-, rfl, k, rfl, hk⟩
        · exact absurd p1 t1
        · exact .inr ⟨rfl, rfl, e1, i, r, c, zs, k, m1, hi, hx, p1, rfl, rfl, hk⟩
set_option maxRecDepth 100000 in
set_option maxHeartbeats 4000000 in
theorem single_det (B W T b1 b2 : Nat) (ms : List Hm) (nx : Nat) (es : List Ent) (h : Int) (w : World) (hI : LInv B w W T b1 b2 ms nx es) :
    Calls Tryz.prog 63 #[.pointer (some ⟨W, 0, none⟩), .int .i64 4, .int .i64 h] w fun x w' => x = .returned (.bool true) ∧ StepOut B w w' W T b1 b2 nx := by
  have hB := hI.size
  have H := Hid.mk hI
  clear hI
  go_enter Tryz.func63, Tryz.ntmps63
  go_wp2_with fail
  refine (due_any B W T b1 b2 ms nx es h true _ H.out).mono ?_
  rintro x w1 ⟨⟨v, want, rfl, hp⟩, hb1⟩
  have hI1 := H.out.below hb1
  obtain ⟨ioa, icap, loa, lcap, tv, c0, -⟩ := hI1.lcells
  have K1 := Hid.mk (And.intro hp (And.intro hb1 hI1))
  have hw1 := hb1.size
  clear hp hb1 hI1
  go_wp2_with fail
  refine (twDet_any B T b1 b2 h ms nx _ K1.out.2.2.1 H.out.2.2.dst).mono ?_
  rintro x w2 ⟨t, e, rfl, hrel, hb2⟩
  have hcase := det_case H.out.2.2.dst K1.out.1 hrel
  have hb02 : Below w.heap.size w w2 := K1.out.2.1.trans (hb2.mono hw1)
  have K2 := Hid.mk (And.intro (H.out.below hb02) (And.intro hb02 hcase))
  have hw2 := hb02.size
  clear hrel hb2 hb02 hcase c0
  rcases K2.out.2.2 with ⟨hz, rfl, rfl⟩ | ⟨rfl, rfl, e1, i, r, zs, m1, hi, hx, f1, rfl, rfl⟩
  · have HF : Hid (StepOut B w w2 W T b1 b2 nx) := Hid.mk ⟨⟨ms, nx, es, K2.out.1, by omega⟩, K2.out.2.1.mono hB⟩
    rcases hz with rfl | rfl | rfl
    · go_wp2_with fail
      go_ret
      exact ⟨rfl, HF.out⟩
    · go_wp2_with fail
      go_ret
      exact ⟨rfl, HF.out⟩
    · go_wp2_with fail
      go_ret
      exact ⟨rfl, HF.out⟩
  · obtain ⟨-, -, lo1, hi1, hm1⟩ := K2.out.1.entry m1 hi hx rfl
    obtain ⟨gs1, hR1⟩ := hm1.isR
    obtain ⟨p1, hp1⟩ : ∃ p1, p1 = e1.2.2 := ⟨_, rfl⟩
    rw [← hp1] at hR1 ⊢
    have HR := Hid.mk (And.intro (hR1.tight (fits_fz f1)) f1.1)
    clear m1 hi hx hm1 hR1 hp1 f1
    have hr4 := HR.out.2
    have HLM : Hid (LM 4 r ≤ 10000) := Hid.mk (by obtain rfl | rfl | rfl | rfl | rfl : r = 0 ∨ r = 1 ∨ r = 2 ∨ r = 3 ∨ r = 4 := by omega
                                                  all_goals decide)
    obtain ⟨tb, htb⟩ : ∃ tb : ByteArray, tb = ⟨(Lib.itoa (detF r (fz r zs))).toArray⟩ := ⟨_, rfl⟩
    have HTB := Hid.mk htb
    rw [← htb]
    clear htb
    have istr : (tb.toList == tb.toList) = true := by simp
    go_wp2_with fail
    refine (mdet_any p1 r gs1 (fz r zs) lo1 4 _ HR.out.1 (by omega) (by omega) HLM.out).mono ?_
    rintro x w3 ⟨nv, rfl, hN, hb3⟩
    have K3 := Hid.mk (And.intro hN (K2.out.2.1.trans (hb3.mono hw2)))
    have hw3 := K3.out.2.size
    clear hN hb3
    obtain ⟨na, ao, cap, xs, rfl, -⟩ := K3.out.1.parts
    go_wp2_with fail
    have hbA : Below w3.heap.size w3 (w3.alloc (.cells #[.bool na, .slice ao xs.length cap] 138)) := (Below.refl _ _).alloc (Nat.le_refl _) _
    refine (text_any _ _ _ _ (K3.out.1.below hbA) (by have := HLM.out; omega)).mono ?_
    rintro x w4 ⟨rfl, hb4⟩
    have hb04 : Below w.heap.size w w4 := K3.out.2.trans ((hbA.trans (hb4.mono hbA.size)).mono hw3)
    have HF : Hid (StepOut B w w4 W T b1 b2 nx) := Hid.mk ⟨⟨ms, nx, es, H.out.below hb04, by omega⟩, hb04.mono hB⟩
    rw [← HTB.out]
    clear hb4 hb04 hbA
    go_wp2_with fail
    go_ret
    exact ⟨rfl, HF.out⟩
set_option maxRecDepth 100000 in
set_option maxHeartbeats 4000000 in
theorem single_rank (B W T b1 b2 : Nat) (ms : List Hm) (nx : Nat) (es : List Ent) (h : Int) (w : World) (hI : LInv B w W T b1 b2 ms nx es) :
    Calls Tryz.prog 63 #[.pointer (some ⟨W, 0, none⟩), .int .i64 5, .int .i64 h] w fun x w' => x = .returned (.bool true) ∧ StepOut B w w' W T b1 b2 nx := by
  have hB := hI.size
  have H := Hid.mk hI
  clear hI
  go_enter Tryz.func63, Tryz.ntmps63
  go_wp2_with fail
  refine (due_any B W T b1 b2 ms nx es h false _ H.out).mono ?_
  rintro x w1 ⟨⟨v, want, rfl, hp⟩, hb1⟩
  have hI1 := H.out.below hb1
  obtain ⟨ioa, icap, loa, lcap, tv, c0, -⟩ := hI1.lcells
  have K1 := Hid.mk (And.intro hp (And.intro hb1 hI1))
  have hw1 := hb1.size
  clear hp hb1 hI1
  go_wp2_with fail
  refine (twRank_any B T b1 b2 h ms nx _ K1.out.2.2.1 H.out.2.2.dst).mono ?_
  rintro x w2 ⟨z, e, rfl, hrel, hb2⟩
  have hcase := rank_case H.out.2.2.dst K1.out.1 hrel
  have hb02 : Below w.heap.size w w2 := K1.out.2.1.trans (hb2.mono hw1)
  have K2 := Hid.mk (And.intro (H.out.below hb02) (And.intro hb02 hcase))
  have hw2 := hb02.size
  clear hrel hb2 hb02 hcase c0
  rcases K2.out.2.2 with ⟨hz, rfl, rfl⟩ | ⟨rfl, rfl, e1, i, r, c, zs, k, m1, hi, hx, f1, rfl, rfl, hk⟩
  · have HF : Hid (StepOut B w w2 W T b1 b2 nx) := Hid.mk ⟨⟨ms, nx, es, K2.out.1, by omega⟩, K2.out.2.1.mono hB⟩
    rcases hz with rfl | rfl | rfl
    · go_wp2_with fail
      go_ret
      exact ⟨rfl, HF.out⟩
    · go_wp2_with fail
      go_ret
      exact ⟨rfl, HF.out⟩
    · go_wp2_with fail
      go_ret
      exact ⟨rfl, HF.out⟩
  · obtain ⟨-, -, lo1, hi1, hm1⟩ := K2.out.1.entry m1 hi hx rfl
    obtain ⟨gs1, hR1⟩ := hm1.isR
    obtain ⟨p1, hp1⟩ : ∃ p1, p1 = e1.2.2 := ⟨_, rfl⟩
    rw [← hp1] at hR1 ⊢
    have HR := Hid.mk (And.intro (hR1.tight (fits_fz f1)) (And.intro f1.1 (And.intro f1.2.1 hk)))
    clear m1 hi hx hm1 hR1 hp1 f1 hk
    have ikk : ((k : Int) == (k : Int)) = true := by simp
    go_wp2_with fail
    refine (rank_any p1 r c gs1 (fz c zs) lo1 4 _ HR.out.1 (by have := HR.out.2.1; omega) (by have := HR.out.2.2.1; omega) (by omega)).mono ?_
    rintro x w3 ⟨k', rfl, hk', hb3⟩
    obtain rfl := rank_uniq hk' HR.out.2.2.2
    have hb03 : Below w.heap.size w w3 := K2.out.2.1.trans (hb3.mono hw2)
    have HF : Hid (StepOut B w w3 W T b1 b2 nx) := Hid.mk ⟨⟨ms, nx, es, H.out.below hb03, by omega⟩, hb03.mono hB⟩
    clear hk' hb3 hb03
    go_wp2_with fail
    go_ret
    exact ⟨rfl, HF.out⟩
end Go.Proofs.YtfjbijpagaipnaaGreatDoor
namespace Go.Proofs.YtfjbijpagaipnaaGreatDoor
open Go.RowKit R
set_option maxRecDepth 100000 in
set_option maxHeartbeats 4000000 in
theorem step_det0 (B W T b1 b2 : Nat) (ms : List Hm) (nx : Nat) (es : List Ent) (kd a b c : Int) (s t : ByteArray) (w : World) (h : LInv B w W T b1 b2 ms nx es) (hkd : kd = 4) (ha1 : -9223372036854775808 ≤ a) (ha2 : a ≤ 9223372036854775807) (hb1 : -9223372036854775808 ≤ b) (hb2 : b ≤ 9223372036854775807) :
    Calls Tryz.prog 35 #[.pointer (some ⟨W, 0, none⟩), opV kd a b c s t] w fun x w' => x = .returned (.bool true) ∧ StepOut B w w' W T b1 b2 nx := by
  have H := Hid.mk h
  have hB := h.size
  have HKD := Hid.mk hkd
  clear h hkd
  unfold opV
  obtain ⟨W0, hW0⟩ : ∃ W0, W0 = w.alloc (.cells #[.int .i64 kd, .int .i64 a, .int .i64 b, .int .i64 c, .string s, .string t] 31) := ⟨_, rfl⟩
  have hbW : Below w.heap.size w W0 := by rw [hW0]; exact (Below.refl _ _).alloc (Nat.le_refl _) _
  have hblk : W0.heap[w.heap.size]? = some (.cells #[.int .i64 kd, .int .i64 a, .int .i64 b, .int .i64 c, .string s, .string t] 31 (0, 0)) := by rw [hW0]; exact heap_alloc_new w _
  have hsz : W0.heap.size = w.heap.size + 1 := by rw [hW0]; simp
  have H0 := Hid.mk (And.intro hbW (And.intro hblk hW0))
  clear hbW hblk hW0
  go_enter Tryz.func35, Tryz.ntmps35
  go_wp2_with fail
  rw [← H0.out.2.2]
  refine (handle_any B W T b1 b2 ms nx es a c _ (H.out.below H0.out.1) ha1 ha2).mono ?_
  rintro x w1 ⟨⟨hh, rfl⟩, hb1'⟩
  have hblk1 : w1.heap[w.heap.size]? = some (.cells #[.int .i64 kd, .int .i64 a, .int .i64 b, .int .i64 c, .string s, .string t] 31 (0, 0)) := by rw [hb1'.block _ (by omega)]; exact H0.out.2.1
  have hbe1 : Below w.heap.size w w1 := H0.out.1.trans (hb1'.mono H0.out.1.size)
  have g0 : w1.cell? ⟨w.heap.size, 0, none⟩ = some (.int .i64 kd) := by simp [World.cell?, hblk1]
  have g2 : w1.cell? ⟨w.heap.size, 2, none⟩ = some (.int .i64 b) := by simp [World.cell?, hblk1]
  have g3 : w1.cell? ⟨w.heap.size, 3, none⟩ = some (.int .i64 c) := by simp [World.cell?, hblk1]
  have hs1 := hb1'.size
  have K1 := Hid.mk (And.intro hbe1 hblk1)
  clear hb1' hblk1 hbe1
  go_wp2_with fail
  refine (handle_any B W T b1 b2 ms nx es b c _ (H.out.below K1.out.1) hb1 hb2).mono ?_
  rintro x w2 ⟨⟨hh2, rfl⟩, hb2'⟩
  have hblk2 : w2.heap[w.heap.size]? = some (.cells #[.int .i64 kd, .int .i64 a, .int .i64 b, .int .i64 c, .string s, .string t] 31 (0, 0)) := by rw [hb2'.block _ (by omega)]; exact K1.out.2
  have hbe2 : Below w.heap.size w w2 := K1.out.1.trans (hb2'.mono K1.out.1.size)
  clear g0 g2 g3
  have g0 : w2.cell? ⟨w.heap.size, 0, none⟩ = some (.int .i64 kd) := by simp [World.cell?, hblk2]
  have g4 : w2.cell? ⟨w.heap.size, 4, none⟩ = some (.string s) := by simp [World.cell?, hblk2]
  have K2 := Hid.mk (And.intro hbe2 (H.out.below hbe2))
  clear hb2' hblk2 hbe2
  obtain rfl := HKD.out
  go_wp2_with fail
  refine (single_det B W T b1 b2 ms nx es hh _ K2.out.2).mono ?_
  rintro x w3 ⟨rfl, ho⟩
  have HO := Hid.mk (ho.after (K2.out.1.mono hB))
  clear ho
  go_wp2_with fail
  go_ret
  exact ⟨rfl, HO.out⟩
theorem step_det : StepOk (fun kd => kd = 4) := fun B W T b1 b2 ms nx es kd a b c s t w h hkd ha1 ha2 hb1 hb2 _ _ => step_det0 B W T b1 b2 ms nx es kd a b c s t w h hkd ha1 ha2 hb1 hb2
set_option maxRecDepth 100000 in
set_option maxHeartbeats 4000000 in
theorem step_rank0 (B W T b1 b2 : Nat) (ms : List Hm) (nx : Nat) (es : List Ent) (kd a b c : Int) (s t : ByteArray) (w : World) (h : LInv B w W T b1 b2 ms nx es) (hkd : kd = 5) (ha1 : -9223372036854775808 ≤ a) (ha2 : a ≤ 9223372036854775807) (hb1 : -9223372036854775808 ≤ b) (hb2 : b ≤ 9223372036854775807) :
    Calls Tryz.prog 35 #[.pointer (some ⟨W, 0, none⟩), opV kd a b c s t] w fun x w' => x = .returned (.bool true) ∧ StepOut B w w' W T b1 b2 nx := by
  have H := Hid.mk h
  have hB := h.size
  have HKD := Hid.mk hkd
  clear h hkd
  unfold opV
  obtain ⟨W0, hW0⟩ : ∃ W0, W0 = w.alloc (.cells #[.int .i64 kd, .int .i64 a, .int .i64 b, .int .i64 c, .string s, .string t] 31) := ⟨_, rfl⟩
  have hbW : Below w.heap.size w W0 := by rw [hW0]; exact (Below.refl _ _).alloc (Nat.le_refl _) _
  have hblk : W0.heap[w.heap.size]? = some (.cells #[.int .i64 kd, .int .i64 a, .int .i64 b, .int .i64 c, .string s, .string t] 31 (0, 0)) := by rw [hW0]; exact heap_alloc_new w _
  have hsz : W0.heap.size = w.heap.size + 1 := by rw [hW0]; simp
  have H0 := Hid.mk (And.intro hbW (And.intro hblk hW0))
  clear hbW hblk hW0
  go_enter Tryz.func35, Tryz.ntmps35
  go_wp2_with fail
  rw [← H0.out.2.2]
  refine (handle_any B W T b1 b2 ms nx es a c _ (H.out.below H0.out.1) ha1 ha2).mono ?_
  rintro x w1 ⟨⟨hh, rfl⟩, hb1'⟩
  have hblk1 : w1.heap[w.heap.size]? = some (.cells #[.int .i64 kd, .int .i64 a, .int .i64 b, .int .i64 c, .string s, .string t] 31 (0, 0)) := by rw [hb1'.block _ (by omega)]; exact H0.out.2.1
  have hbe1 : Below w.heap.size w w1 := H0.out.1.trans (hb1'.mono H0.out.1.size)
  have g0 : w1.cell? ⟨w.heap.size, 0, none⟩ = some (.int .i64 kd) := by simp [World.cell?, hblk1]
  have g2 : w1.cell? ⟨w.heap.size, 2, none⟩ = some (.int .i64 b) := by simp [World.cell?, hblk1]
  have g3 : w1.cell? ⟨w.heap.size, 3, none⟩ = some (.int .i64 c) := by simp [World.cell?, hblk1]
  have hs1 := hb1'.size
  have K1 := Hid.mk (And.intro hbe1 hblk1)
  clear hb1' hblk1 hbe1
  go_wp2_with fail
  refine (handle_any B W T b1 b2 ms nx es b c _ (H.out.below K1.out.1) hb1 hb2).mono ?_
  rintro x w2 ⟨⟨hh2, rfl⟩, hb2'⟩
  have hblk2 : w2.heap[w.heap.size]? = some (.cells #[.int .i64 kd, .int .i64 a, .int .i64 b, .int .i64 c, .string s, .string t] 31 (0, 0)) := by rw [hb2'.block _ (by omega)]; exact K1.out.2
  have hbe2 : Below w.heap.size w w2 := K1.out.1.trans (hb2'.mono K1.out.1.size)
  clear g0 g2 g3
  have g0 : w2.cell? ⟨w.heap.size, 0, none⟩ = some (.int .i64 kd) := by simp [World.cell?, hblk2]
  have g4 : w2.cell? ⟨w.heap.size, 4, none⟩ = some (.string s) := by simp [World.cell?, hblk2]
  have K2 := Hid.mk (And.intro hbe2 (H.out.below hbe2))
  clear hb2' hblk2 hbe2
  obtain rfl := HKD.out
  go_wp2_with fail
  refine (single_rank B W T b1 b2 ms nx es hh _ K2.out.2).mono ?_
  rintro x w3 ⟨rfl, ho⟩
  have HO := Hid.mk (ho.after (K2.out.1.mono hB))
  clear ho
  go_wp2_with fail
  go_ret
  exact ⟨rfl, HO.out⟩
theorem step_rank : StepOk (fun kd => kd = 5) := fun B W T b1 b2 ms nx es kd a b c s t w h hkd ha1 ha2 hb1 hb2 _ _ => step_rank0 B W T b1 b2 ms nx es kd a b c s t w h hkd ha1 ha2 hb1 hb2
end Go.Proofs.YtfjbijpagaipnaaGreatDoor
