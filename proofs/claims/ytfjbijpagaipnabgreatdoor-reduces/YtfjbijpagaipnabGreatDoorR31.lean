import Derived.Test.YtfjbijpagaipnabGreatDoorR30
import Derived.Deep.LoopGhost
import Derived.BigRegion
namespace Go.Proofs.YtfjbijpagaipnabGreatDoor.R
open Go.RowKit
theorem len_le {xs ys : List Nat} (lx : Lo xs) (ly : Lim ys) (h : val ys ≤ val xs) : ys.length ≤ xs.length := by
 rcases Nat.lt_or_ge xs.length ys.length with h1 | h1
 ·have := val_lt_of_length lx ly h1; omega
 ·exact h1
def LimAt (w : World) (v : Value) (n L : Nat) : Prop := ∃ zs, Lim zs ∧ val zs = n ∧ zs.length ≤ L ∧ Own w v zs
theorem LimAt.below {w w' : World} {v : Value} {n L : Nat} (h : LimAt w v n L) (hb : Below w.heap.size w w') : LimAt w' v n L := by
 obtain ⟨zs, h1, h2, h3, h4⟩ := h
 exact ⟨zs, h1, h2, h3, h4.below hb⟩
theorem LimAt.shape {w : World} {v : Value} {n L : Nat} (h : LimAt w v n L) : ∃ ao k cap, v = .slice ao k cap ∧ (k = 0 ↔ n = 0) ∧ k ≤ L := by
 obtain ⟨zs, h1, h2, h3, h4⟩ := h
 obtain ⟨ao, cap, rfl, -⟩ := h4.open_
 refine ⟨ao, _, cap, rfl, ?_, h3⟩
 rw [← h2, Lim_zero h1]
 constructor
 ·exact fun h => List.eq_nil_of_length_eq_zero h
 ·intro h; rw [h]; rfl
theorem LimAt.tight {w w' : World} {v u : Value} {n m L M : Nat} (h : LimAt w v n L) (k : LimAt w' u m M) (hle : n ≤ m) : LimAt w v n M := by
 obtain ⟨zs, h1, h2, h3, h4⟩ := h
 obtain ⟨ys, k1, k2, k3, k4⟩ := k
 exact ⟨zs, h1, h2, Nat.le_trans (len_le k1.1 h1 (by omega)) k3, h4⟩
theorem LimAt.mono {w : World} {v : Value} {n L M : Nat} (h : LimAt w v n L) (hm : L ≤ M) : LimAt w v n M := by
 obtain ⟨zs, h1, h2, h3, h4⟩ := h
 exact ⟨zs, h1, h2, by omega, h4⟩
theorem LimAt.nil (w : World) : LimAt w (.slice none 0 0) 0 0 := ⟨[], ⟨Lo_nil, .inl rfl⟩, rfl, Nat.le_refl _, Own.nil _⟩
theorem sumL (v u : Value) (n m L M : Nat) (w : World) (hv : LimAt w v n L) (hu : LimAt w u m M) (hL : L ≤ 50000000000) (hM : M ≤ 50000000000) :
 Calls Tryz.prog 228 #[v, u] w fun e w' => ∃ r, e = .returned r ∧ LimAt w' r (n + m) (max L M + 1) ∧ Below w.heap.size w w' := by
 obtain ⟨xs, h1, rfl, h3, h4⟩ := hv
 obtain ⟨ys, k1, rfl, k3, k4⟩ := hu
 refine (sum_lim v u xs ys w h4 k4 h1 k1 (by omega) (by omega)).mono ?_
 rintro e w' ⟨r, rfl, ⟨zs, q1, q2, q3, q4⟩, hb⟩
 exact ⟨r, rfl, ⟨zs, q1, q2, by omega, q4⟩, hb⟩
theorem lessL (v u : Value) (n m L M : Nat) (w : World) (hv : LimAt w v n L) (hu : LimAt w u m M) (hle : m ≤ n) (hL : L ≤ 50000000000) :
 Calls Tryz.prog 229 #[v, u] w fun e w' => ∃ r, e = .returned r ∧ LimAt w' r (n - m) L ∧ Below w.heap.size w w' := by
 obtain ⟨xs, h1, rfl, h3, h4⟩ := hv
 obtain ⟨ys, k1, rfl, k3, k4⟩ := hu
 refine (less_lim v u xs ys w h4 k4 h1.1 k1.1 (by omega) (len_le h1.1 k1 hle) hle).mono ?_
 rintro e w' ⟨r, rfl, ⟨zs, q1, q2, q3, q4⟩, hb⟩
 exact ⟨r, rfl, ⟨zs, q1, q2, by omega, q4⟩, hb⟩
theorem halvedL (v : Value) (n L : Nat) (w : World) (hv : LimAt w v n L) (hL : L ≤ 50000000000) :
 Calls Tryz.prog 234 #[v] w fun e w' => ∃ r, e = .returned r ∧ LimAt w' r (n / 2) L ∧ Below w.heap.size w w' := by
 obtain ⟨xs, h1, rfl, h3, h4⟩ := hv
 refine (halved_any v xs w h4 h1.1 (by omega)).mono ?_
 rintro e w' ⟨r, rfl, ⟨zs, q1, q2, q3, q4⟩, hb⟩
 exact ⟨r, rfl, ⟨zs, q1, q2, by omega, q4⟩, hb⟩
theorem sizeL (v u : Value) (n m L M : Nat) (w : World) (hv : LimAt w v n L) (hu : LimAt w u m M) (hL : L ≤ 30000000000) :
 Calls Tryz.prog 224 #[v, u] w fun e w' => e = .returned (.int .i64 (cmpZ n m)) ∧ Below w.heap.size w w' := by
 obtain ⟨xs, h1, rfl, h3, h4⟩ := hv
 obtain ⟨ys, k1, rfl, k3, k4⟩ := hu
 exact size_any v u xs ys w h4 k4 h1 k1 (by omega)
theorem madeL (v : Value) (n L : Nat) (w : World) (hv : LimAt w v n L) :
 Calls Tryz.prog 223 #[.bool false, v] w fun e w' => ∃ r, e = .returned r ∧ IsN w' r (n : Int) L ∧ Below w.heap.size w w' := by
 obtain ⟨xs, h1, rfl, h3, h4⟩ := hv
 refine (made_any false v xs w h4 h1.1).mono ?_
 rintro e w' ⟨r, rfl, hr, hb⟩
 exact ⟨r, rfl, hr.mono h3, hb⟩
def HalfAt (B : Nat) (p o r : Nat) (t : Nat) : Prop := (o = 0 ∧ r < B ∧ t = 0) ∨ ∃ s, t = s + 1 ∧ o = 2 ^ s ∧ p = B * 2 ^ s ∧ r < B * 2 ^ (s + 1)
theorem half_next {B p o r t : Nat} (h : HalfAt B p o r t) (ho : 0 < o) : ∃ s, t = s + 1 ∧ o = 2 ^ s ∧ p = B * 2 ^ s ∧ ∀ r', (r' = r ∧ r < p ∨ p ≤ r ∧ r' = r - p) → HalfAt B (p / 2) (o / 2) r' s := by
 rcases h with ⟨h1, -, -⟩ | ⟨s, h1, h2, h3, h4⟩
 ·omega
 ·refine ⟨s, h1, h2, h3, fun r' hr => ?_⟩
  have h5 : B * 2 ^ (s + 1) = 2 * p := by rw [h3, Nat.pow_succ, ← Nat.mul_assoc, Nat.mul_comm]
  have h6 : r' < p := by omega
  cases s with
  | zero =>
    simp at h2 h3
    refine .inl ⟨by rw [h2], by omega, rfl⟩
  | succ s =>
    refine .inr ⟨s, rfl, ?_, ?_, by omega⟩
    ·rw [h2, Nat.pow_succ]; omega
    ·rw [h3, Nat.pow_succ, ← Nat.mul_assoc]; omega
set_option maxRecDepth 100000 in
set_option maxHeartbeats 4000000 in
theorem cutN_any (v u : Value) (x y L M : Nat) (w : World) (hv : IsN w v (x : Int) L) (hu : IsN w u (y : Int) M) (hy : 0 < y) (hL : L ≤ 10000000000) (hM : M ≤ 10000000000) :
 Calls Tryz.prog 227 #[v, u] w fun e w' => ∃ q r, e = .returned (.tuple #[q, r]) ∧ IsN w' q ((x / y : Nat) : Int) (L + 1) ∧ IsN w' r ((x % y : Nat) : Int) M ∧ Below w.heap.size w w' := by
 obtain ⟨na, ao, cap, xs, rfl, h2, h3, h4, h5, h6⟩ := hv.parts
 obtain ⟨nb, bo, dap, ys, rfl, k2, k3, k4, k5, k6⟩ := hu.parts
 have hna : na = false := by
  cases na
  ·rfl
  ·exfalso
   have := lim_pos h3 (h4 rfl)
   simp at h5; omega
 have hnb : nb = false := by
  cases nb
  ·rfl
  ·exfalso
   have := lim_pos k3 (k4 rfl)
   simp at k5; omega
 subst hna; subst hnb
 have hx : val xs = x := by simp at h5; omega
 have hyv : val ys = y := by simp at k5; omega
 have hX : LimAt w (.slice ao xs.length cap) x L := ⟨xs, h3, hx, h6, h2⟩
 have hY : LimAt w (.slice bo ys.length dap) y M := ⟨ys, k3, hyv, k6, k2⟩
 have H := Hid.mk (And.intro hX hY)
 clear hv hu h2 h3 h4 h5 k2 k3 k4 k5 hx hyv h6 k6 hX hY
 obtain ⟨nx, hnx⟩ : ∃ nx, nx = xs.length := ⟨_, rfl⟩
 obtain ⟨ny, hny⟩ : ∃ ny, ny = ys.length := ⟨_, rfl⟩
 rw [← hnx, ← hny] at H ⊢
 clear hnx hny
 obtain ⟨W0, hW0⟩ : ∃ W0, W0 = (((w.alloc (.cells #[.bool false, .slice ao nx cap] 171)).alloc (.cells #[.bool false, .slice bo ny dap] 171)).alloc (.cells #[.bool false, .slice none 0 0] 171)).alloc (.cells #[.bool false, .slice none 0 0] 171) := ⟨_, rfl⟩
 have hz0 : W0.heap.size = w.heap.size + 4 := by rw [hW0]; simp
 have hb0 : Below w.heap.size w W0 := by rw [hW0]; repeat (first | exact Below.refl _ _ | refine Below.alloc ?_ (by simp <;> omega) _)
 have hA : NBox W0 w.heap.size (.bool false) (.slice ao nx cap) := by rw [hW0]; exact (((NBox.new w _ _ rfl).alloc _).alloc _).alloc _
 have hB : NBox W0 (w.heap.size + 1) (.bool false) (.slice bo ny dap) := by rw [hW0]; exact ((NBox.new _ _ _ (by simp)).alloc _).alloc _
 have hR1 : NBox W0 (w.heap.size + 1 + 1) (.bool false) (.slice none 0 0) := by rw [hW0]; exact (NBox.new _ _ _ (by simp)).alloc _
 have hR2 : NBox W0 (w.heap.size + 1 + 1 + 1) (.bool false) (.slice none 0 0) := by rw [hW0]; exact NBox.new _ _ _ (by simp)
 have F := Hid.mk (And.intro hA (And.intro hB (And.intro hR1 (And.intro hR2 (And.intro hb0 (And.intro hz0 hW0))))))
 clear hA hB hR1 hR2 hb0 hW0
 go_enter Tryz.func227, Tryz.ntmps227
 go_wp2_with fail
 rw [← F.out.2.2.2.2.2.2]
 have hone : LimAt (W0.alloc (.cells #[.int .i64 1] 3)) (.slice (some ⟨w.heap.size + 1 + 1 + 1 + 1, 0, none⟩) 1 1) 1 1 := by
  refine ⟨[1], ⟨fun x hx => by simp at hx; omega, .inr (by decide)⟩, rfl, Nat.le_refl _, ?_⟩
  refine ⟨rfl, .inr ⟨w.heap.size + 4, 1, #[.int .i64 1], rfl, Nat.zero_le _, ?_, Nat.le_refl _, by decide, rfl, rfl⟩⟩
  have := heap_alloc_new W0 (.cells #[.int .i64 1] 3)
  rw [hz0] at this
  exact this
 have hb1 := (Below.refl W0.heap.size W0).alloc (Nat.le_refl _) (.cells #[.int .i64 1] 3)
 obtain ⟨W1, hW1⟩ : ∃ W1, W1 = W0.alloc (.cells #[.int .i64 1] 3) := ⟨_, rfl⟩
 rw [← hW1] at hone hb1 ⊢
 obtain ⟨ov, hov⟩ : ∃ ov, ov = Value.slice (some ⟨w.heap.size + 1 + 1 + 1 + 1, 0, none⟩) 1 1 := ⟨_, rfl⟩
 rw [← hov] at hone ⊢
 have K0 := Hid.mk (And.intro hone hb1)
 clear hone hb1 hW1 hov
 go_loopg [7, 8] (x + 1) (fun gk p o wr => ∃ (P O : Nat), LimAt wr p P (max L M + 1) ∧ LimAt wr o O (max L M + 1) ∧ Below W0.heap.size W0 wr ∧ Hid (∃ t, P = y * 2 ^ t ∧ O = 2 ^ t ∧ x + 1 - P ≤ gk))
 case atStart => exact ⟨y, 1, (((H.out.2.below F.out.2.2.2.2.1).below K0.out.2).mono (by omega)), K0.out.1.mono (by omega), K0.out.2, Hid.mk ⟨0, by simp, by simp, by omega⟩⟩
 case round =>
  obtain ⟨P, O, hp, ho, hbel, HT⟩ := hrel
  obtain ⟨po, pk, pcap, rfl, -⟩ := hp.shape
  obtain ⟨oo, ok, ocap, rfl, -⟩ := ho.shape
  have hbw : Below w.heap.size w wr := F.out.2.2.2.2.1.trans (hbel.mono (by omega))
  have K := Hid.mk (And.intro hp (And.intro ho (And.intro hbel (H.out.1.below hbw))))
  have hwr := hbel.size
  clear hp ho hbel hbw
  go_wp2_with fail
  refine (sizeL _ _ P x (max L M + 1) L _ K.out.1 K.out.2.2.2 (by omega)).mono ?_
  rintro e w2 ⟨rfl, hb2⟩
  have K2 := Hid.mk hb2
  have hw2 := hb2.size
  clear hb2
  by_cases hPx : P ≤ x
  ·have hc : cmpZ P x ≤ 0 := by unfold cmpZ; split <;> (try split) <;> omega
   obtain ⟨cz, hcz⟩ : ∃ cz, cz = cmpZ P x := ⟨_, rfl⟩
   rw [← hcz] at hc ⊢
   have hc' : decide (0 < cz) = false := decide_eq_false (by omega)
   clear hcz
   have hO : O ≤ P := by
    obtain ⟨t, h1, h2, -⟩ := HT.out
    rw [h1, h2]
    exact Nat.le_mul_of_pos_left _ hy
   go_wp2_with fail
   refine (sumL _ _ P P L L _ ((K.out.1.tight K.out.2.2.2 hPx).below K2.out) ((K.out.1.tight K.out.2.2.2 hPx).below K2.out) (by omega) (by omega)).mono ?_
   rintro e w3 ⟨p3, rfl, hp3, hb3⟩
   obtain ⟨po3, pk3, pcap3, rfl, -⟩ := hp3.shape
   have hb23 : Below wr.heap.size wr w3 := K2.out.trans (hb3.mono hw2)
   have K3 := Hid.mk (And.intro hp3 hb23)
   have hw3 := hb23.size
   clear hp3 hb3 hb23
   go_wp2_with fail
   refine (sumL _ _ O O L L _ ((K.out.2.1.tight K.out.2.2.2 (by omega)).below K3.out.2) ((K.out.2.1.tight K.out.2.2.2 (by omega)).below K3.out.2) (by omega) (by omega)).mono ?_
   rintro e w4 ⟨o4, rfl, ho4, hb4⟩
   obtain ⟨oo4, ok4, ocap4, rfl, -⟩ := ho4.shape
   have hb24 : Below wr.heap.size wr w4 := K3.out.2.trans (hb4.mono hw3)
   have K4 := Hid.mk (And.intro ho4 (And.intro (K3.out.1.below hb4) hb24))
   clear ho4 hb4 hb24
   go_wp2_with fail
   go_roundg (x + 1 - (P + P))
   case measure =>
    obtain ⟨t, h1, h2, h3⟩ := HT.out
    have : 0 < P := by rw [h1]; exact Nat.mul_pos hy (Nat.two_pow_pos t)
    omega
   case rel =>
    refine ⟨P + P, O + O, K4.out.2.1.mono (by omega), K4.out.1.mono (by omega), K.out.2.2.1.trans (K4.out.2.2.mono hwr), Hid.mk ?_⟩
    obtain ⟨t, h1, h2, h3⟩ := HT.out
    refine ⟨t + 1, ?_, ?_, Nat.le_refl _⟩
    ·rw [h1, Nat.pow_succ, ← Nat.mul_assoc]; omega
    ·rw [h2, Nat.pow_succ]; omega
  ·have hc : 0 < cmpZ P x := by unfold cmpZ; split <;> (try split) <;> omega
   obtain ⟨cz, hcz⟩ : ∃ cz, cz = cmpZ P x := ⟨_, rfl⟩
   rw [← hcz] at hc ⊢
   clear hcz
   obtain ⟨T, hT⟩ : ∃ T, P = y * 2 ^ T ∧ O = 2 ^ T := by
    obtain ⟨t, h1, h2, -⟩ := HT.out
    exact ⟨t, h1, h2⟩
   have HTT := Hid.mk hT
   clear hT
   have hbW2 : Below W0.heap.size W0 w2 := K.out.2.2.1.trans (K2.out.mono hwr)
   have KS := Hid.mk (And.intro (K.out.1.below K2.out) (And.intro (K.out.2.1.below K2.out) (And.intro (K.out.2.2.2.below K2.out) hbW2)))
   clear hbW2
   go_wp2_with fail
   go_loopg [6, 7, 8, 9] (T + 1) (fun gk r p o q ws => ∃ (R P O Q : Nat), LimAt ws r R L ∧ LimAt ws p P (max L M + 1) ∧ LimAt ws o O (max L M + 1) ∧ LimAt ws q Q (L + 1) ∧ Below W0.heap.size W0 ws ∧ Hid (HalfAt y P O R gk ∧ x = Q * y + R))
   case atStart =>
    refine ⟨x, P, O, 0, KS.out.2.2.1, KS.out.1, KS.out.2.1, (LimAt.nil _).mono (by omega), KS.out.2.2.2, Hid.mk ⟨.inr ⟨T, rfl, HTT.out.2, HTT.out.1, ?_⟩, by omega⟩⟩
    have := HTT.out.1
    rw [Nat.pow_succ, ← Nat.mul_assoc, ← this]
    omega
   case round =>
    rename World => ws
    obtain ⟨R, P, O, Q, hr, hp, ho, hq, hbs, HS⟩ := hrel
    obtain ⟨ro, rk, rcap, rfl, -⟩ := hr.shape
    obtain ⟨po, pk, pcap, rfl, -⟩ := hp.shape
    obtain ⟨oo, ok, ocap, rfl, hok, -⟩ := ho.shape
    obtain ⟨qo, qk, qcap, rfl, -⟩ := hq.shape
    have hws := hbs.size
    have KR := Hid.mk (And.intro hr (And.intro hp (And.intro ho (And.intro hq hbs))))
    clear hr hp ho hq hbs
    by_cases hO : O = 0
    ·have hk0 : ok = 0 := hok.2 hO
     have hk0' : decide (0 < ok) = false := decide_eq_false (by omega)
     have hk0'' : ¬ (0 < (ok : Int)) := by omega
     have HO := Hid.mk hO
     clear hO hok
     have hRy : R < y ∧ x = Q * y + R := by
      obtain ⟨h1, h2⟩ := HS.out
      have hO := HO.out
      rcases h1 with ⟨-, h3, -⟩ | ⟨s, -, h3, -, -⟩
      ·exact ⟨h3, h2⟩
      ·have := Nat.two_pow_pos s; omega
     have hdiv : Q = x / y ∧ R = x % y := by
      obtain ⟨h1, h2⟩ := hRy
      have e1 : x / y = Q := by rw [h2, Nat.mul_comm, Nat.mul_add_div hy, Nat.div_eq_of_lt h1]; omega
      have e2 : x % y = R := by rw [h2, Nat.mul_comm, Nat.mul_add_mod]; exact Nat.mod_eq_of_lt h1
      exact ⟨e1.symm, e2.symm⟩
     have hQx : Q ≤ x := by rw [hdiv.1]; exact Nat.div_le_self _ _
     have HQ := Hid.mk (And.intro hdiv (And.intro hRy.1 hQx))
     clear hRy hdiv hQx
     obtain ⟨a0, a1, -, -⟩ := (F.out.1.below KR.out.2.2.2.2 (by omega)).cells
     obtain ⟨b0, b1, -, -⟩ := (F.out.2.1.below KR.out.2.2.2.2 (by omega)).cells
     go_wp2_with fail
     refine (madeL _ Q (L + 1) _ KR.out.2.2.2.1).mono ?_
     rintro e w5 ⟨q5, rfl, hq5, hb5⟩
     obtain ⟨nq, qo5, qc5, qs5, rfl, -⟩ := hq5.parts
     obtain ⟨qn, hqn⟩ : ∃ qn, qn = qs5.length := ⟨_, rfl⟩
     rw [← hqn] at hq5 ⊢
     clear hqn
     have hbA : Below ws.heap.size ws (w5.alloc (.cells #[.bool nq, .slice qo5 qn qc5] 171)) := hb5.alloc hb5.size _
     have hbA' := (Below.refl w5.heap.size w5).alloc (Nat.le_refl _) (.cells #[.bool nq, .slice qo5 qn qc5] 171)
     have hxb := NBox.new w5 (.bool nq) (.slice qo5 qn qc5) rfl
     clear a0 a1 b0 b1
     obtain ⟨a0, a1, -, -⟩ := ((F.out.1.below KR.out.2.2.2.2 (by omega)).below hbA (by omega)).cells
     obtain ⟨b0, b1, -, -⟩ := ((F.out.2.1.below KR.out.2.2.2.2 (by omega)).below hbA (by omega)).cells
     have hw5 := hb5.size
     have K5 := Hid.mk (And.intro hbA (And.intro hxb (hq5.below hbA')))
     clear hq5 hb5 hbA hbA' hxb
     go_wp2_with fail
     refine (madeL _ R M _ ((KR.out.1.tight H.out.2 (by have := HQ.out.2.1; omega)).below K5.out.1)).mono ?_
     rintro e w6 ⟨r6, rfl, hr6, hb6⟩
     obtain ⟨nr, ro6, rc6, rs6, rfl, -⟩ := hr6.parts
     obtain ⟨rn, hrn⟩ : ∃ rn, rn = rs6.length := ⟨_, rfl⟩
     rw [← hrn] at hr6 ⊢
     clear hrn
     have hw6 : w5.heap.size + 1 ≤ w6.heap.size := by have := hb6.size; simpa using this
     have hb66 := (Below.refl w6.heap.size w6).alloc (Nat.le_refl _) (.cells #[.bool nr, .slice ro6 rn rc6] 171)
     have hbB : Below ws.heap.size ws w6 := K5.out.1.trans (hb6.mono (by simp; omega))
     have hbC : Below ws.heap.size ws (w6.alloc (.cells #[.bool nr, .slice ro6 rn rc6] 171)) := hbB.alloc hbB.size _
     have hyb := NBox.new w6 (.bool nr) (.slice ro6 rn rc6) rfl
     have hxb := (K5.out.2.1.below hb6 (by simp)).below hb66 (by omega)
     clear a0 a1 b0 b1
     obtain ⟨a0, a1, -, -⟩ := ((F.out.1.below KR.out.2.2.2.2 (by omega)).below hbC (by omega)).cells
     obtain ⟨b0, b1, -, -⟩ := ((F.out.2.1.below KR.out.2.2.2.2 (by omega)).below hbC (by omega)).cells
     have K6 := Hid.mk (And.intro hbC (And.intro hyb (And.intro hxb (And.intro (hr6.below hb66) ((K5.out.2.2.below hb6).below hb66)))))
     clear hr6 hb6 hb66 hbB hbC hyb hxb
     go_wp2_with fail
     refine (sign_any _ (R : Int) M _ K6.out.2.2.2.1).mono ?_
     rintro e w7 ⟨rfl, hb7⟩
     have hw7 : w6.heap.size + 1 ≤ w7.heap.size := by have := hb7.size; simpa using this
     have hbD : Below ws.heap.size ws w7 := K6.out.1.trans (hb7.mono (by simp; omega))
     have hbW : Below W0.heap.size W0 w7 := KR.out.2.2.2.2.trans (hbD.mono hws)
     obtain ⟨y0, y1, -, -⟩ := (K6.out.2.1.below hb7 (by simp)).cells
     obtain ⟨x0, x1, -, -⟩ := (K6.out.2.2.1.below hb7 (by simp; omega)).cells
     clear a0 a1 b0 b1
     obtain ⟨a0, a1, -, -⟩ := (F.out.1.below hbW (by omega)).cells
     obtain ⟨b0, b1, -, -⟩ := (F.out.2.1.below hbW (by omega)).cells
     have hP := F.out.2.2.1.below hbW (by omega)
     have hQ := F.out.2.2.2.1.below hbW (by omega)
     obtain ⟨s0, s1, s2, s3⟩ := hP.cells
     obtain ⟨t0, t1, t2, t3⟩ := hQ.cells
     have K7 := Hid.mk (And.intro (F.out.2.2.2.2.1.trans (hbW.mono (by omega))) (And.intro hP (And.intro hQ (And.intro (K6.out.2.2.2.1.below hb7) (K6.out.2.2.2.2.below hb7)))))
     obtain ⟨sg, hsg⟩ : ∃ sg, sg = sgn (R : Int) := ⟨_, rfl⟩
     rw [← hsg]
     clear hb7 hbD hbW hP hQ hsg
     have HFIN : Hid (∀ W', W' = ((((w7.setCell ⟨w.heap.size + 1 + 1, 0, none⟩ (.bool nq)).setCell ⟨w.heap.size + 1 + 1, 1, none⟩ (.slice qo5 qn qc5)).setCell ⟨w.heap.size + 1 + 1 + 1, 0, none⟩ (.bool nr)).setCell ⟨w.heap.size + 1 + 1 + 1, 1, none⟩ (.slice ro6 rn rc6)) →
      W'.cell? ⟨w.heap.size + 1 + 1, 0, none⟩ = some (.bool nq) ∧ W'.cell? ⟨w.heap.size + 1 + 1, 1, none⟩ = some (.slice qo5 qn qc5) ∧ W'.cell? ⟨w.heap.size + 1 + 1 + 1, 0, none⟩ = some (.bool nr) ∧ W'.cell? ⟨w.heap.size + 1 + 1 + 1, 1, none⟩ = some (.slice ro6 rn rc6) ∧
      IsN W' (.agg #[.bool nq, .slice qo5 qn qc5]) ((x / y : Nat) : Int) (L + 1) ∧ IsN W' (.agg #[.bool nr, .slice ro6 rn rc6]) ((x % y : Nat) : Int) M ∧ Below w.heap.size w W') := Hid.mk (by
      intro W' hW'
      obtain ⟨hb, hP, hQ, hr, hq⟩ := K7.out
      have g1 := hP.put (.bool nq) (.slice qo5 qn qc5)
      have hQ1 : NBox ((w7.setCell ⟨w.heap.size + 1 + 1, 0, none⟩ (.bool nq)).setCell ⟨w.heap.size + 1 + 1, 1, none⟩ (.slice qo5 qn qc5)) (w.heap.size + 1 + 1 + 1) (.bool false) (.slice none 0 0) := by
       unfold NBox
       rw [Below.heap_setCell _ _ _ _ (by simp), Below.heap_setCell _ _ _ _ (by simp)]
       exact hQ
      have g2 := hQ1.put (.bool nr) (.slice ro6 rn rc6)
      rw [← hW'] at g2
      have g3 : NBox W' (w.heap.size + 1 + 1) (.bool nq) (.slice qo5 qn qc5) := by
       unfold NBox
       rw [hW', Below.heap_setCell _ _ _ _ (by simp), Below.heap_setCell _ _ _ _ (by simp)]
       exact g1
      obtain ⟨f0, f1, -, -⟩ := g2.cells
      obtain ⟨e0, e1, -, -⟩ := g3.cells
      refine ⟨e0, e1, f0, f1, ?_, ?_, ?_⟩
      ·rw [← HQ.out.1.1, hW']
       exact (hq.box hP.ty (by decide) _ _).box hQ1.ty (by decide) _ _
      ·rw [← HQ.out.1.2, hW']
       exact (hr.box hP.ty (by decide) _ _).box hQ1.ty (by decide) _ _
      ·rw [hW']
       exact (((hb.setCell (by simp; omega) _).setCell (by simp; omega) _).setCell (by simp; omega) _).setCell (by simp; omega) _)
     by_cases hs0 : sg = 0
     ·subst hs0
      go_wp2_with fail
      go_region
      go_wp2_with fail
      obtain ⟨z0, z1, z2, z3, z4, z5, z6⟩ := HFIN.out _ rfl
      refine bodyPost_ret (v := .tuple #[.agg #[.bool nq, .slice qo5 qn qc5], .agg #[.bool nr, .slice ro6 rn rc6]]) ?_ rfl ?_
      ·(simp [results, Tryz.results227, go_sem, z0, z1, z2, z3]; done)
      ·exact ⟨_, _, rfl, z4, z5, z6.drew⟩
     ·have hs1 : (sg == 0) = false := beq_eq_false_iff_ne.2 hs0
      go_wp2_with fail
      go_region
      go_wp2_with fail
      obtain ⟨z0, z1, z2, z3, z4, z5, z6⟩ := HFIN.out _ rfl
      refine bodyPost_ret (v := .tuple #[.agg #[.bool nq, .slice qo5 qn qc5], .agg #[.bool nr, .slice ro6 rn rc6]]) ?_ rfl ?_
      ·(simp [results, Tryz.results227, go_sem, z0, z1, z2, z3]; done)
      ·exact ⟨_, _, rfl, z4, z5, z6.drew⟩
    ·have hk0 : 0 < ok := by
      rcases Nat.eq_zero_or_pos ok with h | h
      ·exact absurd (hok.1 h) hO
      ·exact h
     have hk0' : (0 : Int) < (ok : Int) := by omega
     clear hok
     go_wp2_with fail
     refine (sizeL _ _ P R (max L M + 1) L _ KR.out.2.1 KR.out.1 (by omega)).mono ?_
     rintro e w5 ⟨rfl, hb5⟩
     have K5 := Hid.mk hb5
     have hw5 := hb5.size
     clear hb5
     by_cases hPR : P ≤ R
     ·have hc : cmpZ P R ≤ 0 := by unfold cmpZ; split <;> (try split) <;> omega
      obtain ⟨cz, hcz⟩ : ∃ cz, cz = cmpZ P R := ⟨_, rfl⟩
      rw [← hcz] at hc ⊢
      clear hcz
      go_wp2_with fail
      refine (lessL _ _ R P L (max L M + 1) _ (KR.out.1.below K5.out) (KR.out.2.1.below K5.out) hPR (by omega)).mono ?_
      rintro e w6 ⟨r6, rfl, hr6, hb6⟩
      obtain ⟨ro6, rk6, rcap6, rfl, -⟩ := hr6.shape
      have hb56 : Below ws.heap.size ws w6 := K5.out.trans (hb6.mono hw5)
      have hw6 := hb56.size
      have K6 := Hid.mk (And.intro hr6 hb56)
      clear hr6 hb6 hb56
      have hQ : Q ≤ x := by have := HS.out.2; have : Q * 1 ≤ Q * y := Nat.mul_le_mul_left _ hy; omega
      have hOR : O ≤ R := by
       obtain ⟨s, -, h2, h3, -⟩ := half_next HS.out.1 (by omega)
       have : 1 * 2 ^ s ≤ y * 2 ^ s := Nat.mul_le_mul_right _ hy
       omega
      go_wp2_with fail
      refine (sumL _ _ Q O L L _ ((KR.out.2.2.2.1.tight H.out.1 hQ).below K6.out.2) ((KR.out.2.2.1.tight KR.out.1 hOR).below K6.out.2) (by omega) (by omega)).mono ?_
      rintro e w7 ⟨q7, rfl, hq7, hb7⟩
      obtain ⟨qo7, qk7, qcap7, rfl, -⟩ := hq7.shape
      have hb57 : Below ws.heap.size ws w7 := K6.out.2.trans (hb7.mono hw6)
      have hw7 := hb57.size
      have K7 := Hid.mk (And.intro hq7 (And.intro hb57 (K6.out.1.below hb7)))
      clear hq7 hb7 hb57
      go_wp2_with fail
      refine (halvedL _ P (max L M + 1) _ (KR.out.2.1.below K7.out.2.1) (by omega)).mono ?_
      rintro e w8 ⟨p8, rfl, hp8, hb8⟩
      obtain ⟨po8, pk8, pcap8, rfl, -⟩ := hp8.shape
      have hb58 : Below ws.heap.size ws w8 := K7.out.2.1.trans (hb8.mono hw7)
      have hw8 := hb58.size
      have K8 := Hid.mk (And.intro hp8 (And.intro hb58 (And.intro (K7.out.1.below hb8) (K7.out.2.2.below hb8))))
      clear hp8 hb8 hb58
      go_wp2_with fail
      refine (halvedL _ O (max L M + 1) _ (KR.out.2.2.1.below K8.out.2.1) (by omega)).mono ?_
      rintro e w9 ⟨o9, rfl, ho9, hb9⟩
      obtain ⟨oo9, ok9, ocap9, rfl, -⟩ := ho9.shape
      have hb59 : Below ws.heap.size ws w9 := K8.out.2.1.trans (hb9.mono hw8)
      have K9 := Hid.mk (And.intro ho9 (And.intro hb59 (And.intro (K8.out.1.below hb9) (And.intro (K8.out.2.2.1.below hb9) (K8.out.2.2.2.below hb9)))))
      clear ho9 hb9 hb59
      obtain ⟨s, hs1, hs2, hs3, hs4⟩ := half_next HS.out.1 (by omega)
      have HN := Hid.mk (And.intro hs1 (And.intro hs2 (And.intro hs3 (hs4 (R - P) (.inr ⟨hPR, rfl⟩)))))
      clear hs1 hs2 hs3 hs4
      go_wp2_with fail
      go_roundg s
      case measure => have := HN.out.1; omega
      case rel =>
       refine ⟨R - P, P / 2, O / 2, Q + O, K9.out.2.2.2.2, K9.out.2.2.1, K9.out.1, K9.out.2.2.2.1.mono (by omega), KR.out.2.2.2.2.trans (K9.out.2.1.mono hws), Hid.mk ⟨HN.out.2.2.2, ?_⟩⟩
       have h1 := HS.out.2
       have h2 : O * y = P := by rw [HN.out.2.1, HN.out.2.2.1, Nat.mul_comm]
       rw [Nat.add_mul, h2]
       omega
     ·have hc : 0 < cmpZ P R := by unfold cmpZ; split <;> (try split) <;> omega
      obtain ⟨cz, hcz⟩ : ∃ cz, cz = cmpZ P R := ⟨_, rfl⟩
      rw [← hcz] at hc ⊢
      have hc' : decide (cz ≤ 0) = false := decide_eq_false (by omega)
      clear hcz
      go_wp2_with fail
      refine (halvedL _ P (max L M + 1) _ (KR.out.2.1.below K5.out) (by omega)).mono ?_
      rintro e w8 ⟨p8, rfl, hp8, hb8⟩
      obtain ⟨po8, pk8, pcap8, rfl, -⟩ := hp8.shape
      have hb58 : Below ws.heap.size ws w8 := K5.out.trans (hb8.mono hw5)
      have hw8 := hb58.size
      have K8 := Hid.mk (And.intro hp8 hb58)
      clear hp8 hb8 hb58
      go_wp2_with fail
      refine (halvedL _ O (max L M + 1) _ (KR.out.2.2.1.below K8.out.2) (by omega)).mono ?_
      rintro e w9 ⟨o9, rfl, ho9, hb9⟩
      obtain ⟨oo9, ok9, ocap9, rfl, -⟩ := ho9.shape
      have hb59 : Below ws.heap.size ws w9 := K8.out.2.trans (hb9.mono hw8)
      have K9 := Hid.mk (And.intro ho9 (And.intro hb59 (K8.out.1.below hb9)))
      clear ho9 hb9 hb59
      obtain ⟨s, hs1, hs2, hs3, hs4⟩ := half_next HS.out.1 (by omega)
      have HN := Hid.mk (And.intro hs1 (hs4 R (.inl ⟨rfl, by omega⟩)))
      clear hs1 hs2 hs3 hs4
      go_wp2_with fail
      go_roundg s
      case measure => have := HN.out.1; omega
      case rel => exact ⟨R, P / 2, O / 2, Q, KR.out.1.below K9.out.2.1, K9.out.2.2, K9.out.1, KR.out.2.2.2.1.below K9.out.2.1, KR.out.2.2.2.2.trans (K9.out.2.1.mono hws), Hid.mk ⟨HN.out.2, HS.out.2⟩⟩
open Go.RowKit
set_option maxRecDepth 100000 in
set_option maxHeartbeats 4000000 in
theorem common_any (v u : Value) (x y : Int) (L : Nat) (w : World) (hv : IsN w v x L) (hu : IsN w u y L) (hL : L ≤ 10000000000) :
 Calls Tryz.prog 209 #[v, u] w fun e w' => ∃ r, e = .returned r ∧ NOut w w' r ((Nat.gcd x.natAbs y.natAbs : Nat) : Int) L := by
 obtain ⟨na, ao, cap, xs, rfl, -⟩ := hv.parts
 obtain ⟨nb, bo, dap, ys, rfl, -⟩ := hu.parts
 obtain ⟨nx, hnx⟩ : ∃ nx, nx = xs.length := ⟨_, rfl⟩
 obtain ⟨ny, hny⟩ : ∃ ny, ny = ys.length := ⟨_, rfl⟩
 rw [← hnx] at hv ⊢
 rw [← hny] at hu ⊢
 have H := Hid.mk (And.intro hv hu)
 clear hv hu hnx hny
 obtain ⟨W0, hW0⟩ : ∃ W0, W0 = ((w.alloc (.cells #[.bool na, .slice ao nx cap] 171)).alloc (.cells #[.bool nb, .slice bo ny dap] 171)).alloc (.cells #[.bool false, .slice none 0 0] 171) := ⟨_, rfl⟩
 have hz0 : W0.heap.size = w.heap.size + 3 := by rw [hW0]; simp
 have hb0 : Below w.heap.size w W0 := by rw [hW0]; repeat (first | exact Below.refl _ _ | refine Below.alloc ?_ (by simp <;> omega) _)
 have hA : NBox W0 w.heap.size (.bool na) (.slice ao nx cap) := by rw [hW0]; exact ((NBox.new w _ _ rfl).alloc _).alloc _
 have hB : NBox W0 (w.heap.size + 1) (.bool nb) (.slice bo ny dap) := by rw [hW0]; exact (NBox.new _ _ _ (by simp)).alloc _
 have hR : NBox W0 (w.heap.size + 1 + 1) (.bool false) (.slice none 0 0) := by rw [hW0]; exact NBox.new _ _ _ (by simp)
 have F := Hid.mk (And.intro hA (And.intro hB (And.intro hR (And.intro hb0 (And.intro hz0 hW0)))))
 clear hA hB hR hb0 hW0
 go_enter Tryz.func209, Tryz.ntmps209
 go_wp2_with fail
 rw [← F.out.2.2.2.2.2]
 refine (amount_any _ x L _ (H.out.1.below F.out.2.2.2.1)).mono ?_
 rintro e w1 ⟨p1, rfl, hp1, hb1⟩
 obtain ⟨n1, o1, c1, l1, rfl, -⟩ := hp1.parts
 obtain ⟨k1, hk1⟩ : ∃ k1, k1 = l1.length := ⟨_, rfl⟩
 rw [← hk1] at hp1 ⊢
 clear hk1
 have hb11 := (Below.refl w1.heap.size w1).alloc (Nat.le_refl _) (.cells #[.bool n1, .slice o1 k1 c1] 171)
 have hbA := hb1.trans (hb11.mono hb1.size)
 obtain ⟨b0, b1, -, -⟩ := (F.out.2.1.below hbA (by omega)).cells
 have K1 := Hid.mk (And.intro (hp1.below hb11) (And.intro hbA (NBox.new w1 (.bool n1) (.slice o1 k1 c1) rfl)))
 have hw1 := hb1.size
 clear hp1 hb1 hb11 hbA
 go_wp2_with fail
 refine (amount_any _ y L _ ((H.out.2.below F.out.2.2.2.1).below K1.out.2.1)).mono ?_
 rintro e w2 ⟨p2, rfl, hp2, hb2⟩
 obtain ⟨n2, o2, c2, l2, rfl, -⟩ := hp2.parts
 obtain ⟨k2, hk2⟩ : ∃ k2, k2 = l2.length := ⟨_, rfl⟩
 rw [← hk2] at hp2 ⊢
 clear hk2 b0 b1
 have hb22 := (Below.refl w2.heap.size w2).alloc (Nat.le_refl _) (.cells #[.bool n2, .slice o2 k2 c2] 171)
 have hs2 : w1.heap.size + 1 ≤ w2.heap.size := by have := hb2.size; simpa using this
 have hbB := K1.out.2.1.trans ((hb2.trans (hb22.mono hb2.size)).mono (by simp; omega))
 have hX := (K1.out.2.2.below hb2 (by simp)).below hb22 (by omega)
 have K2 := Hid.mk (And.intro ((K1.out.1.below hb2).below hb22) (And.intro (hp2.below hb22) (And.intro hbB (And.intro hX (NBox.new w2 (.bool n2) (.slice o2 k2 c2) rfl)))))
 clear hp2 hb2 hb22 hbB hX
 go_wp2_with fail
 obtain ⟨W2, hW2⟩ : ∃ W2, W2 = w2.alloc (.cells #[.bool n2, .slice o2 k2 c2] 171) := ⟨_, rfl⟩
 rw [← hW2] at K2 ⊢
 have hsW : W2.heap.size = w2.heap.size + 1 := by rw [hW2]; simp
 clear hW2
 obtain ⟨xb, hxb⟩ : ∃ xb, xb = w1.heap.size := ⟨_, rfl⟩
 obtain ⟨yb, hyb⟩ : ∃ yb, yb = w2.heap.size := ⟨_, rfl⟩
 rw [← hxb, ← hyb] at K2 ⊢
 have hxy : xb < yb := by omega
 have hxW : W0.heap.size ≤ xb := by omega
 have HX := Hid.mk (And.intro hxb hyb)
 clear hxb hyb
 go_loopg [] (y.natAbs) (fun gk wr => ∃ (X Y : Nat) (na : Bool) (ao : Option Addr) (ka ca : Nat) (nb : Bool) (bo : Option Addr) (kb cb : Nat), NBox wr xb (.bool na) (.slice ao ka ca) ∧ NBox wr yb (.bool nb) (.slice bo kb cb) ∧ IsN wr (.agg #[.bool na, .slice ao ka ca]) (X : Int) L ∧ IsN wr (.agg #[.bool nb, .slice bo kb cb]) (Y : Int) L ∧ Below W0.heap.size W0 wr ∧ Hid (Nat.gcd X Y = Nat.gcd x.natAbs y.natAbs ∧ gk = Y))
 case atStart => exact ⟨x.natAbs, y.natAbs, n1, o1, k1, c1, n2, o2, k2, c2, K2.out.2.2.2.1, K2.out.2.2.2.2, K2.out.1, K2.out.2.1, K2.out.2.2.1, Hid.mk ⟨rfl, rfl⟩⟩
 case round =>
  obtain ⟨X, Y, na, ao, ka, ca, nb, bo, kb, cb, hXB, hYB, hX, hY, hbel, HG⟩ := hrel
  obtain ⟨a0, a1, a2, a3⟩ := hXB.cells
  obtain ⟨b0, b1, b2, b3⟩ := hYB.cells
  have hk : kb = 0 ↔ Y = 0 := by
   obtain ⟨neg, so, cp, zs, e1, -, e3, -, e5, -⟩ := hY.parts
   simp only [Value.agg.injEq, Array.mk.injEq, List.cons.injEq, Value.slice.injEq, Value.bool.injEq, and_true] at e1
   obtain ⟨-, -, e6, -⟩ := e1
   have h0 := Lim_zero e3
   have h1 : Y = val zs := by cases neg <;> simp at e5 <;> omega
   rw [e6, h1, h0]
   constructor
   ·exact fun h => List.eq_nil_of_length_eq_zero h
   ·intro h; rw [h]; rfl
  have K := Hid.mk (And.intro hXB (And.intro hYB (And.intro hX (And.intro hY hbel))))
  have hwr := hbel.size
  have hyl := hYB.lt
  clear hXB hYB hX hY hbel
  by_cases hY0 : Y = 0
  ·have hk0 : kb = 0 := hk.2 hY0
   have HY0 := Hid.mk hY0
   clear hY0 hk
   have hRes := F.out.2.2.1.below K.out.2.2.2.2 (by omega)
   obtain ⟨s0, s1, s2, s3⟩ := hRes.cells
   have HR := Hid.mk hRes
   clear hRes
   go_wp2_with fail
   obtain ⟨g1, g2, -, -⟩ := (HR.out.put (.bool na) (.slice ao ka ca)).cells
   refine bodyPost_ret (v := .agg #[.bool na, .slice ao ka ca]) ?_ rfl ?_
   ·(simp [results, Tryz.results209, go_sem, g1, g2]; done)
   ·refine ⟨_, rfl, ?_, ((F.out.2.2.2.1.trans (K.out.2.2.2.2.mono (by omega))).setCell (by simp; omega) _).setCell (by simp; omega) _⟩
    have h1 := HG.out.1
    rw [HY0.out, Nat.gcd_zero_right] at h1
    rw [← h1]
    exact K.out.2.2.1.box HR.out.ty (by decide) _ _
  ·have hk0 : 0 < kb := by
    rcases Nat.eq_zero_or_pos kb with h | h
    ·exact absurd (hk.1 h) hY0
    ·exact h
   have hk0' : (0 : Int) < (kb : Int) := by omega
   clear hk
   go_wp2_with fail
   refine (cutN_any _ _ X Y L L _ K.out.2.2.1 K.out.2.2.2.1 (by omega) hL hL).mono ?_
   rintro e w3 ⟨q3, r3, rfl, hq3, hr3, hb3⟩
   obtain ⟨n3, o3, c3, l3, rfl, -⟩ := hr3.parts
   obtain ⟨n4, o4, c4, l4, rfl, -⟩ := hq3.parts
   obtain ⟨k3, hk3⟩ : ∃ k3, k3 = l3.length := ⟨_, rfl⟩
   rw [← hk3] at hr3 ⊢
   obtain ⟨k4, hk4⟩ : ∃ k4, k4 = l4.length := ⟨_, rfl⟩
   rw [← hk4]
   clear hk3 hk4 hq3
   have hX3 := K.out.1.below hb3 (by omega)
   have hY3 := K.out.2.1.below hb3 hyl
   have hw3 := hb3.size
   clear a0 a1 a2 a3 b0 b1 b2 b3
   obtain ⟨a0, a1, a2, a3⟩ := hX3.cells
   obtain ⟨b0, b1, b2, b3⟩ := hY3.cells
   have hA2 : ∀ p q, NBox ((w3.alloc p).alloc q) xb (.bool na) (.slice ao ka ca) := fun p q => (hX3.alloc p).alloc q
   have hB2 : ∀ p q, NBox ((w3.alloc p).alloc q) yb (.bool nb) (.slice bo kb cb) := fun p q => (hY3.alloc p).alloc q
   have d0 : ∀ p q, ((w3.alloc p).alloc q).cell? ⟨yb, 0, none⟩ = some (.bool nb) := fun p q => (hB2 p q).cells.1
   have d1 : ∀ p q, ((w3.alloc p).alloc q).cell? ⟨yb, 1, none⟩ = some (.slice bo kb cb) := fun p q => (hB2 p q).cells.2.1
   have e0 : ∀ p q, ((w3.alloc p).alloc q).cell? ⟨xb, 0, none⟩ = some (.bool na) := fun p q => (hA2 p q).cells.1
   have e1 : ∀ p q, ((w3.alloc p).alloc q).cell? ⟨xb, 1, none⟩ = some (.slice ao ka ca) := fun p q => (hA2 p q).cells.2.1
   have hxl : xb < w3.heap.size := hX3.lt
   have hyl3 : yb < w3.heap.size := hY3.lt
   have hne : xb ≠ yb := by omega
   have K3 := Hid.mk (And.intro hX3 (And.intro hY3 (And.intro hr3 hb3)))
   clear hX3 hY3 hr3 hb3 hA2 hB2
   go_wp2_with fail
   go_roundg (X % Y)
   case measure => have h := HG.out.2; have := Nat.mod_lt X (show 0 < Y by omega); omega
   case rel =>
    obtain ⟨hX3, hY3, hr3, hb3⟩ := K3.out
    have g1 := hX3.put (.bool nb) (.slice bo kb cb)
    have g2 : NBox ((w3.setCell ⟨xb, 0, none⟩ (.bool nb)).setCell ⟨xb, 1, none⟩ (.slice bo kb cb)) yb (.bool nb) (.slice bo kb cb) := by
     unfold NBox
     rw [Below.heap_setCell _ _ _ _ (by simp; omega), Below.heap_setCell _ _ _ _ (by simp; omega)]
     exact hY3
    have g3 := g2.put (.bool n3) (.slice o3 k3 c3)
    have g4 : NBox ((((w3.setCell ⟨xb, 0, none⟩ (.bool nb)).setCell ⟨xb, 1, none⟩ (.slice bo kb cb)).setCell ⟨yb, 0, none⟩ (.bool n3)).setCell ⟨yb, 1, none⟩ (.slice o3 k3 c3)) xb (.bool nb) (.slice bo kb cb) := by
     unfold NBox
     rw [Below.heap_setCell _ _ _ _ (by simp; omega), Below.heap_setCell _ _ _ _ (by simp; omega)]
     exact g1
    have hy9 := ((K.out.2.2.2.1.below hb3).box hX3.ty (by decide) (.bool nb) (.slice bo kb cb)).box g2.ty (by decide) (.bool n3) (.slice o3 k3 c3)
    have hr9 := (hr3.box hX3.ty (by decide) (.bool nb) (.slice bo kb cb)).box g2.ty (by decide) (.bool n3) (.slice o3 k3 c3)
    have hb9 : Below W0.heap.size W0 ((((w3.setCell ⟨xb, 0, none⟩ (.bool nb)).setCell ⟨xb, 1, none⟩ (.slice bo kb cb)).setCell ⟨yb, 0, none⟩ (.bool n3)).setCell ⟨yb, 1, none⟩ (.slice o3 k3 c3)) := ((((K.out.2.2.2.2.trans (hb3.mono hwr)).setCell hxW _).setCell hxW _).setCell (show W0.heap.size ≤ yb by omega) _).setCell (show W0.heap.size ≤ yb by omega) _
    have hal : ∀ (V : World) (p q : Obj), Below V.heap.size V ((V.alloc p).alloc q) := fun V p q => ((Below.refl _ _).alloc (Nat.le_refl _) _).alloc (by simp) _
    refine ⟨Y, X % Y, nb, bo, kb, cb, n3, o3, k3, c3, (g4.alloc _).alloc _, (g3.alloc _).alloc _, hy9.below (hal _ _ _), hr9.below (hal _ _ _), hb9.trans ((hal _ _ _).mono hb9.size), Hid.mk ⟨?_, rfl⟩⟩
    rw [← HG.out.1, Nat.gcd_comm X Y, Nat.gcd_rec Y X, Nat.gcd_comm]
end Go.Proofs.YtfjbijpagaipnabGreatDoor.R
