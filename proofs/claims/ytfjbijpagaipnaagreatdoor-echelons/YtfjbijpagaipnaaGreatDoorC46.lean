import Derived.Test.YtfjbijpagaipnaaGreatDoorC18
import Derived.Deep.LoopGhost
import Derived.BigRegion
/- matricesref: Amount, halved. -/
namespace Go.Proofs.YtfjbijpagaipnaaGreatDoor.R
open Go.RowKit

set_option maxRecDepth 100000 in
theorem amount_any (v : Value) (z : Int) (L : Nat) (w : World) (h : IsN w v z L) :
    Calls Tryz.prog 183 #[v] w fun e w' => ∃ r, e = .returned r ∧ NOut w w' r (z.natAbs : Int) L := by
  obtain ⟨neg, ao, cap, xs, rfl, h2, h3, h4, h5, h6⟩ := h.parts
  have H := Hid.mk (And.intro h2 (And.intro h3 (And.intro h4 (And.intro h5 h6))))
  clear h h2 h3 h4 h5 h6
  go_enter Tryz.func183, Tryz.ntmps183
  go_wp2_with fail
  refine (made_any false _ xs _ (H.out.1.below ?_) H.out.2.1.1).mono ?_
  · repeat (first | exact Below.refl _ _ | refine Below.alloc ?_ (by simp <;> omega) _)
  rintro e w1 ⟨r, rfl, hr, hb⟩
  obtain ⟨ng, co, ecap, zs, rfl, -⟩ := hr.parts
  obtain ⟨hc, hf⟩ := bcell hb
  have hty : Ty w1 (w.heap.size + 1) 138 := Ty.below (Ty.at_ _ _ _ (by simp)) hb (by simp)
  have hz : w.heap.size + 1 < w1.heap.size := hty.lt
  have hb0 : Below w.heap.size w w1 := Below.trans (by repeat (first | exact Below.refl _ _ | refine Below.alloc ?_ (by simp <;> omega) _)) (hb.mono (by simp <;> omega))
  have K := Hid.mk (And.intro hr (And.intro hb0 hty))
  clear hr hb hb0 hty
  go_wp2_with fail
  refine bodyPost_ret (v := .agg #[.bool ng, .slice co zs.length ecap]) ?_ rfl ?_
  · (simp [results, Tryz.results183, go_sem, hc]; done)
  · obtain ⟨h2, h3, h4, h5, h6⟩ := H.out
    refine ⟨_, rfl, ?_, (K.out.2.1.setCell (by simp) _).setCell (by simp) _⟩
    have := (K.out.1.box K.out.2.2 (by decide) (.bool ng) (.slice co zs.length ecap)).mono h6
    rw [h5]
    cases neg
    · simpa using this
    · simpa using this
theorem val_drop (xs : List Nat) (k : Nat) (hk : k < xs.length) : val (xs.drop k) = xs.getD k 0 + 10000 * val (xs.drop (k + 1)) := by
  rw [drop_getD xs k hk, val_cons]
theorem val_drop_set {zs : List Nat} {k c : Nat} (hk : k < zs.length) : val ((zs.set k c).drop k) = c + 10000 * val (zs.drop (k + 1)) := by
  rw [val_drop _ _ (by simpa using hk), List.drop_set_of_lt (by omega)]
  simp [List.getD, hk]
theorem half_step {x c V W : Nat} (h : 2 * V + c = W) : 2 * ((c * 10000 + x) / 2 + 10000 * V) + (c * 10000 + x) % 2 = x + 10000 * W := by omega
set_option maxRecDepth 100000 in
set_option maxHeartbeats 2000000 in
theorem halved_any (v : Value) (xs : List Nat) (w : World) (hv : Own w v xs) (lx : Lo xs) (bx : xs.length ≤ 100000) :
    Calls Tryz.prog 224 #[v] w fun e w' => ∃ r, e = .returned r ∧ LimOut w w' r (val xs / 2) xs.length := by
  obtain ⟨ao, cap, rfl, hc, hm, -⟩ := hv.open_
  have H := Hid.mk (And.intro hv lx)
  clear hv lx
  go_enter Tryz.func224, Tryz.ntmps224
  go_wp2_with (refine make_digits _ rfl _ _ rfl _ _ xs.length rfl rfl (by omega) (by omega) (by omega) ?_)
  intro w1 hown hbel
  obtain ⟨N, hN⟩ : ∃ N, N = xs.length := ⟨_, rfl⟩
  rw [← hN] at hown bx ⊢
  have HN := Hid.mk hN
  have K0 := Hid.mk (And.intro hown hbel)
  clear hN hown hbel
  go_wp2_with fail
  go_loopw [4, 5] (fun c i wr => ∃ (k cc : Nat) (zs : List Nat), k ≤ N ∧ i = .int .i64 ((k : Int) - 1) ∧ cc ≤ 1 ∧ c = .int .i64 cc ∧ Hid (zs.length = N) ∧ Lo zs ∧ Own wr (.slice (some ⟨w.heap.size, 0, none⟩) N N) zs ∧ Below w.heap.size w wr ∧ Hid (2 * val (zs.drop k) + cc = val (xs.drop k))) (fun _ i _ => (intOf i + 1).toNat)
  case atStart =>
    refine ⟨N, 0, _, Nat.le_refl _, rfl, by omega, rfl, Hid.mk List.length_replicate, ?_, K0.out.1, K0.out.2, Hid.mk ?_⟩
    · intro x hx
      rw [List.eq_of_mem_replicate hx]; decide
    · rw [List.drop_of_length_le (by simp), List.drop_of_length_le (by rw [HN.out]; exact Nat.le_refl _)]
      rfl
  case round =>
    obtain ⟨k, cc, zs, hk, rfl, hcc, rfl, HZ, hlo, hown, hbel, HI⟩ := hrel
    have hwr := hbel.size
    by_cases hk0 : k = 0
    · have hi0 : ¬ ((0 : Int) ≤ (k : Int) - 1) := by omega
      have K := Hid.mk (And.intro hown (And.intro hbel hlo))
      have HK0 := Hid.mk hk0
      clear hown hbel hlo hk0
      go_wp2_with fail
      refine (plain_any _ zs _ K.out.1 K.out.2.2).mono ?_
      rintro e w' ⟨⟨r, rfl, hr⟩, rfl⟩
      have HR := Hid.mk hr
      clear hr
      go_wp2_with fail
      go_ret
      obtain ⟨rs, r1, r2, r3, r4⟩ := HR.out
      refine ⟨_, rfl, ⟨rs, r1, ?_, by have := HZ.out; have := HN.out; omega, r4 _ K.out.1⟩, K.out.2.1⟩
      have hi := HI.out
      rw [HK0.out, List.drop_zero, List.drop_zero] at hi
      rw [r2]
      omega
    · obtain ⟨j, rfl⟩ : ∃ j, k = j + 1 := ⟨k - 1, by omega⟩
      obtain ⟨ii, hii⟩ : ∃ ii : Int, ii = ((j + 1 : Nat) : Int) - 1 := ⟨_, rfl⟩
      have hij : ii = (j : Int) := by omega
      rw [← hii]
      rw [hij]
      have hjx : j < xs.length := by have := HN.out; omega
      obtain ⟨ba, rfl, ca⟩ := (H.out.1.below hbel).at_ rfl j hjx
      have hxk := Lo_get H.out.2 j
      obtain ⟨x, hx⟩ : ∃ x, x = xs.getD j 0 := ⟨_, rfl⟩
      rw [← hx] at ca hxk
      have hz1 := hown.cell HZ.out j (by omega)
      have hz2 := hown.frozen HZ.out j
      have HX := Hid.mk hx
      have K := Hid.mk (And.intro hown (And.intro hbel hlo))
      have hji : (j : Int) < (N : Int) := by omega
      clear hx hown hbel hlo hii hij hk0
      go_wp2_with fail
      refine ⟨⟨j, (cc * 10000 + x) % 2, zs.set j ((cc * 10000 + x) / 2), by omega, rfl, by omega, ?_, Hid.mk (by simp [HZ.out]), Lo_set K.out.2.2 _ _ (by omega), K.out.1.stored_int HZ.out j _ (by omega), K.out.2.1.setCell (Nat.le_refl _) _, Hid.mk ?_⟩, by simp [intOf]⟩
      · congr 1
      · rw [val_drop_set (by rw [HZ.out]; omega), val_drop xs j hjx, ← HX.out]
        exact half_step HI.out
end Go.Proofs.YtfjbijpagaipnaaGreatDoor.R

/- matricesref.N: Cut, of amounts. -/
namespace Go.Proofs.YtfjbijpagaipnaaGreatDoor.R
open Go.RowKit

theorem len_le {xs ys : List Nat} (lx : Lo xs) (ly : Lim ys) (h : val ys ≤ val xs) : ys.length ≤ xs.length := by
  rcases Nat.lt_or_ge xs.length ys.length with h1 | h1
  · have := val_lt_of_length lx ly h1; omega
  · exact h1
/-- A plain row of digits: the amount n, at most L of them. -/
def LimAt (w : World) (v : Value) (n L : Nat) : Prop := ∃ zs, Lim zs ∧ val zs = n ∧ zs.length ≤ L ∧ Own w v zs
theorem LimAt.below {w w' : World} {v : Value} {n L : Nat} (h : LimAt w v n L) (hb : Below w.heap.size w w') : LimAt w' v n L := by
  obtain ⟨zs, h1, h2, h3, h4⟩ := h
  exact ⟨zs, h1, h2, h3, h4.below hb⟩
theorem LimAt.shape {w : World} {v : Value} {n L : Nat} (h : LimAt w v n L) : ∃ ao k cap, v = .slice ao k cap ∧ (k = 0 ↔ n = 0) ∧ k ≤ L := by
  obtain ⟨zs, h1, h2, h3, h4⟩ := h
  obtain ⟨ao, cap, rfl, -⟩ := h4.open_
  refine ⟨ao, _, cap, rfl, ?_, h3⟩
  rw [← h2, Lim_zero h1]
  constructor
  · exact fun h => List.eq_nil_of_length_eq_zero h
  · intro h; rw [h]; rfl
theorem LimAt.tight {w w' : World} {v u : Value} {n m L M : Nat} (h : LimAt w v n L) (k : LimAt w' u m M) (hle : n ≤ m) : LimAt w v n M := by
  obtain ⟨zs, h1, h2, h3, h4⟩ := h
  obtain ⟨ys, k1, k2, k3, k4⟩ := k
  exact ⟨zs, h1, h2, Nat.le_trans (len_le k1.1 h1 (by omega)) k3, h4⟩
theorem LimAt.mono {w : World} {v : Value} {n L M : Nat} (h : LimAt w v n L) (hm : L ≤ M) : LimAt w v n M := by
  obtain ⟨zs, h1, h2, h3, h4⟩ := h
  exact ⟨zs, h1, h2, by omega, h4⟩
theorem LimAt.nil (w : World) : LimAt w (.slice none 0 0) 0 0 := ⟨[], ⟨Lo_nil, .inl rfl⟩, rfl, Nat.le_refl _, Own.nil _⟩
theorem sumL (v u : Value) (n m L M : Nat) (w : World) (hv : LimAt w v n L) (hu : LimAt w u m M) (hL : L ≤ 50000000000) (hM : M ≤ 50000000000) :
    Calls Tryz.prog 211 #[v, u] w fun e w' => ∃ r, e = .returned r ∧ LimAt w' r (n + m) (max L M + 1) ∧ Below w.heap.size w w' := by
  obtain ⟨xs, h1, rfl, h3, h4⟩ := hv
  obtain ⟨ys, k1, rfl, k3, k4⟩ := hu
  refine (sum_lim v u xs ys w h4 k4 h1 k1 (by omega) (by omega)).mono ?_
  rintro e w' ⟨r, rfl, ⟨zs, q1, q2, q3, q4⟩, hb⟩
  exact ⟨r, rfl, ⟨zs, q1, q2, by omega, q4⟩, hb⟩
theorem lessL (v u : Value) (n m L M : Nat) (w : World) (hv : LimAt w v n L) (hu : LimAt w u m M) (hle : m ≤ n) (hL : L ≤ 50000000000) :
    Calls Tryz.prog 212 #[v, u] w fun e w' => ∃ r, e = .returned r ∧ LimAt w' r (n - m) L ∧ Below w.heap.size w w' := by
  obtain ⟨xs, h1, rfl, h3, h4⟩ := hv
  obtain ⟨ys, k1, rfl, k3, k4⟩ := hu
  refine (less_lim v u xs ys w h4 k4 h1.1 k1.1 (by omega) (len_le h1.1 k1 hle) hle).mono ?_
  rintro e w' ⟨r, rfl, ⟨zs, q1, q2, q3, q4⟩, hb⟩
  exact ⟨r, rfl, ⟨zs, q1, q2, by omega, q4⟩, hb⟩
theorem halvedL (v : Value) (n L : Nat) (w : World) (hv : LimAt w v n L) (hL : L ≤ 20005) :
    Calls Tryz.prog 224 #[v] w fun e w' => ∃ r, e = .returned r ∧ LimAt w' r (n / 2) L ∧ Below w.heap.size w w' := by
  obtain ⟨xs, h1, rfl, h3, h4⟩ := hv
  refine (halved_any v xs w h4 h1.1 (by omega)).mono ?_
  rintro e w' ⟨r, rfl, ⟨zs, q1, q2, q3, q4⟩, hb⟩
  exact ⟨r, rfl, ⟨zs, q1, q2, by omega, q4⟩, hb⟩
theorem sizeL (v u : Value) (n m L M : Nat) (w : World) (hv : LimAt w v n L) (hu : LimAt w u m M) (hL : L ≤ 30000) :
    Calls Tryz.prog 205 #[v, u] w fun e w' => e = .returned (.int .i64 (cmpZ n m)) ∧ Below w.heap.size w w' := by
  obtain ⟨xs, h1, rfl, h3, h4⟩ := hv
  obtain ⟨ys, k1, rfl, k3, k4⟩ := hu
  exact size_any v u xs ys w h4 k4 h1 k1 (by omega)
theorem madeL (v : Value) (n L : Nat) (w : World) (hv : LimAt w v n L) :
    Calls Tryz.prog 204 #[.bool false, v] w fun e w' => ∃ r, e = .returned r ∧ IsN w' r (n : Int) L ∧ Below w.heap.size w w' := by
  obtain ⟨xs, h1, rfl, h3, h4⟩ := hv
  refine (made_any false v xs w h4 h1.1).mono ?_
  rintro e w' ⟨r, rfl, hr, hb⟩
  exact ⟨r, rfl, hr.mono h3, hb⟩
/-- Where the halving stands. -/
def HalfAt (B : Nat) (p o r : Nat) (t : Nat) : Prop := (o = 0 ∧ r < B ∧ t = 0) ∨ ∃ s, t = s + 1 ∧ o = 2 ^ s ∧ p = B * 2 ^ s ∧ r < B * 2 ^ (s + 1)
theorem half_next {B p o r t : Nat} (h : HalfAt B p o r t) (ho : 0 < o) : ∃ s, t = s + 1 ∧ o = 2 ^ s ∧ p = B * 2 ^ s ∧ ∀ r', (r' = r ∧ r < p ∨ p ≤ r ∧ r' = r - p) → HalfAt B (p / 2) (o / 2) r' s := by
  rcases h with ⟨h1, -, -⟩ | ⟨s, h1, h2, h3, h4⟩
  · omega
  · refine ⟨s, h1, h2, h3, fun r' hr => ?_⟩
    have h5 : B * 2 ^ (s + 1) = 2 * p := by rw [h3, Nat.pow_succ, ← Nat.mul_assoc, Nat.mul_comm]
    have h6 : r' < p := by omega
    cases s with
    | zero =>
      simp at h2 h3
      refine .inl ⟨by rw [h2], by omega, rfl⟩
    | succ s =>
      refine .inr ⟨s, rfl, ?_, ?_, by omega⟩
      · rw [h2, Nat.pow_succ]; omega
      · rw [h3, Nat.pow_succ, ← Nat.mul_assoc]; omega
set_option maxRecDepth 100000 in
set_option maxHeartbeats 4000000 in
theorem cutN_any (v u : Value) (x y L M : Nat) (w : World) (hv : IsN w v (x : Int) L) (hu : IsN w u (y : Int) M) (hy : 0 < y) (hL : L ≤ 10000) (hM : M ≤ 10000) :
    Calls Tryz.prog 210 #[v, u] w fun e w' => ∃ q r, e = .returned (.tuple #[q, r]) ∧ IsN w' q ((x / y : Nat) : Int) (L + 1) ∧ IsN w' r ((x % y : Nat) : Int) M ∧ Below w.heap.size w w' := by
  obtain ⟨na, ao, cap, xs, rfl, h2, h3, h4, h5, h6⟩ := hv.parts
  obtain ⟨nb, bo, dap, ys, rfl, k2, k3, k4, k5, k6⟩ := hu.parts
  have hna : na = false := by
    cases na
    · rfl
    · exfalso
      have := lim_pos h3 (h4 rfl)
      simp at h5; omega
  have hnb : nb = false := by
    cases nb
    · rfl
    · exfalso
      have := lim_pos k3 (k4 rfl)
      simp at k5; omega
  subst hna; subst hnb
  have hx : val xs = x := by simp at h5; omega
  have hyv : val ys = y := by simp at k5; omega
  have hX : LimAt w (.slice ao xs.length cap) x L := ⟨xs, h3, hx, h6, h2⟩
  have hY : LimAt w (.slice bo ys.length dap) y M := ⟨ys, k3, hyv, k6, k2⟩
  have H := Hid.mk (And.intro hX hY)
  clear hv hu h2 h3 h4 h5 k2 k3 k4 k5 hx hyv h6 k6 hX hY
  obtain ⟨nx, hnx⟩ : ∃ nx, nx = xs.length := ⟨_, rfl⟩
  obtain ⟨ny, hny⟩ : ∃ ny, ny = ys.length := ⟨_, rfl⟩
  rw [← hnx, ← hny] at H ⊢
  clear hnx hny
  obtain ⟨W0, hW0⟩ : ∃ W0, W0 = (((w.alloc (.cells #[.bool false, .slice ao nx cap] 138)).alloc (.cells #[.bool false, .slice bo ny dap] 138)).alloc (.cells #[.bool false, .slice none 0 0] 138)).alloc (.cells #[.bool false, .slice none 0 0] 138) := ⟨_, rfl⟩
  have hz0 : W0.heap.size = w.heap.size + 4 := by rw [hW0]; simp
  have hb0 : Below w.heap.size w W0 := by rw [hW0]; repeat (first | exact Below.refl _ _ | refine Below.alloc ?_ (by simp <;> omega) _)
  have hA : NBox W0 w.heap.size (.bool false) (.slice ao nx cap) := by rw [hW0]; exact (((NBox.new w _ _ rfl).alloc _).alloc _).alloc _
  have hB : NBox W0 (w.heap.size + 1) (.bool false) (.slice bo ny dap) := by rw [hW0]; exact ((NBox.new _ _ _ (by simp)).alloc _).alloc _
  have hR1 : NBox W0 (w.heap.size + 1 + 1) (.bool false) (.slice none 0 0) := by rw [hW0]; exact (NBox.new _ _ _ (by simp)).alloc _
  have hR2 : NBox W0 (w.heap.size + 1 + 1 + 1) (.bool false) (.slice none 0 0) := by rw [hW0]; exact NBox.new _ _ _ (by simp)
  have F := Hid.mk (And.intro hA (And.intro hB (And.intro hR1 (And.intro hR2 (And.intro hb0 (And.intro hz0 hW0))))))
  clear hA hB hR1 hR2 hb0 hW0
  go_enter Tryz.func210, Tryz.ntmps210
  go_wp2_with fail
  rw [← F.out.2.2.2.2.2.2]
  have hone : LimAt (W0.alloc (.cells #[.int .i64 1] 3)) (.slice (some ⟨w.heap.size + 1 + 1 + 1 + 1, 0, none⟩) 1 1) 1 1 := by
    refine ⟨[1], ⟨fun x hx => by simp at hx; omega, .inr (by decide)⟩, rfl, Nat.le_refl _, ?_⟩
    refine ⟨rfl, .inr ⟨w.heap.size + 4, 1, #[.int .i64 1], rfl, Nat.zero_le _, ?_, Nat.le_refl _, by decide, rfl, rfl⟩⟩
    have := heap_alloc_new W0 (.cells #[.int .i64 1] 3)
    rw [hz0] at this
    exact this
  have hb1 := (Below.refl W0.heap.size W0).alloc (Nat.le_refl _) (.cells #[.int .i64 1] 3)
  obtain ⟨W1, hW1⟩ : ∃ W1, W1 = W0.alloc (.cells #[.int .i64 1] 3) := ⟨_, rfl⟩
  rw [← hW1] at hone hb1 ⊢
  obtain ⟨ov, hov⟩ : ∃ ov, ov = Value.slice (some ⟨w.heap.size + 1 + 1 + 1 + 1, 0, none⟩) 1 1 := ⟨_, rfl⟩
  rw [← hov] at hone ⊢
  have K0 := Hid.mk (And.intro hone hb1)
  clear hone hb1 hW1 hov
  go_loopg [7, 8] (x + 1) (fun gk p o wr => ∃ (P O : Nat), LimAt wr p P (max L M + 1) ∧ LimAt wr o O (max L M + 1) ∧ Below W0.heap.size W0 wr ∧ Hid (∃ t, P = y * 2 ^ t ∧ O = 2 ^ t ∧ x + 1 - P ≤ gk))
  case atStart => exact ⟨y, 1, (((H.out.2.below F.out.2.2.2.2.1).below K0.out.2).mono (by omega)), K0.out.1.mono (by omega), K0.out.2, Hid.mk ⟨0, by simp, by simp, by omega⟩⟩
  case round =>
    obtain ⟨P, O, hp, ho, hbel, HT⟩ := hrel
    obtain ⟨po, pk, pcap, rfl, -⟩ := hp.shape
    obtain ⟨oo, ok, ocap, rfl, -⟩ := ho.shape
    have hbw : Below w.heap.size w wr := F.out.2.2.2.2.1.trans (hbel.mono (by omega))
    have K := Hid.mk (And.intro hp (And.intro ho (And.intro hbel (H.out.1.below hbw))))
    have hwr := hbel.size
    clear hp ho hbel hbw
    go_wp2_with fail
    refine (sizeL _ _ P x (max L M + 1) L _ K.out.1 K.out.2.2.2 (by omega)).mono ?_
    rintro e w2 ⟨rfl, hb2⟩
    have K2 := Hid.mk hb2
    have hw2 := hb2.size
    clear hb2
    by_cases hPx : P ≤ x
    · have hc : cmpZ P x ≤ 0 := by unfold cmpZ; split <;> (try split) <;> omega
      obtain ⟨cz, hcz⟩ : ∃ cz, cz = cmpZ P x := ⟨_, rfl⟩
      rw [← hcz] at hc ⊢
      have hc' : decide (0 < cz) = false := decide_eq_false (by omega)
      clear hcz
      have hO : O ≤ P := by
        obtain ⟨t, h1, h2, -⟩ := HT.out
        rw [h1, h2]
        exact Nat.le_mul_of_pos_left _ hy
      go_wp2_with fail
      refine (sumL _ _ P P L L _ ((K.out.1.tight K.out.2.2.2 hPx).below K2.out) ((K.out.1.tight K.out.2.2.2 hPx).below K2.out) (by omega) (by omega)).mono ?_
      rintro e w3 ⟨p3, rfl, hp3, hb3⟩
      obtain ⟨po3, pk3, pcap3, rfl, -⟩ := hp3.shape
      have hb23 : Below wr.heap.size wr w3 := K2.out.trans (hb3.mono hw2)
      have K3 := Hid.mk (And.intro hp3 hb23)
      have hw3 := hb23.size
      clear hp3 hb3 hb23
      go_wp2_with fail
      refine (sumL _ _ O O L L _ ((K.out.2.1.tight K.out.2.2.2 (by omega)).below K3.out.2) ((K.out.2.1.tight K.out.2.2.2 (by omega)).below K3.out.2) (by omega) (by omega)).mono ?_
      rintro e w4 ⟨o4, rfl, ho4, hb4⟩
      obtain ⟨oo4, ok4, ocap4, rfl, -⟩ := ho4.shape
      have hb24 : Below wr.heap.size wr w4 := K3.out.2.trans (hb4.mono hw3)
      have K4 := Hid.mk (And.intro ho4 (And.intro (K3.out.1.below hb4) hb24))
      clear ho4 hb4 hb24
      go_wp2_with fail
      go_roundg (x + 1 - (P + P))
      case measure =>
        obtain ⟨t, h1, h2, h3⟩ := HT.out
        have : 0 < P := by rw [h1]; exact Nat.mul_pos hy (Nat.two_pow_pos t)
        omega
      case rel =>
        refine ⟨P + P, O + O, K4.out.2.1.mono (by omega), K4.out.1.mono (by omega), K.out.2.2.1.trans (K4.out.2.2.mono hwr), Hid.mk ?_⟩
        obtain ⟨t, h1, h2, h3⟩ := HT.out
        refine ⟨t + 1, ?_, ?_, Nat.le_refl _⟩
        · rw [h1, Nat.pow_succ, ← Nat.mul_assoc]; omega
        · rw [h2, Nat.pow_succ]; omega
    · have hc : 0 < cmpZ P x := by unfold cmpZ; split <;> (try split) <;> omega
      obtain ⟨cz, hcz⟩ : ∃ cz, cz = cmpZ P x := ⟨_, rfl⟩
      rw [← hcz] at hc ⊢
      clear hcz
      obtain ⟨T, hT⟩ : ∃ T, P = y * 2 ^ T ∧ O = 2 ^ T := by
        obtain ⟨t, h1, h2, -⟩ := HT.out
        exact ⟨t, h1, h2⟩
      have HTT := Hid.mk hT
      clear hT
      have hbW2 : Below W0.heap.size W0 w2 := K.out.2.2.1.trans (K2.out.mono hwr)
      have KS := Hid.mk (And.intro (K.out.1.below K2.out) (And.intro (K.out.2.1.below K2.out) (And.intro (K.out.2.2.2.below K2.out) hbW2)))
      clear hbW2
      go_wp2_with fail
      go_loopg [6, 7, 8, 9] (T + 1) (fun gk r p o q ws => ∃ (R P O Q : Nat), LimAt ws r R L ∧ LimAt ws p P (max L M + 1) ∧ LimAt ws o O (max L M + 1) ∧ LimAt ws q Q (L + 1) ∧ Below W0.heap.size W0 ws ∧ Hid (HalfAt y P O R gk ∧ x = Q * y + R))
      case atStart =>
        refine ⟨x, P, O, 0, KS.out.2.2.1, KS.out.1, KS.out.2.1, (LimAt.nil _).mono (by omega), KS.out.2.2.2, Hid.mk ⟨.inr ⟨T, rfl, HTT.out.2, HTT.out.1, ?_⟩, by omega⟩⟩
        have := HTT.out.1
        rw [Nat.pow_succ, ← Nat.mul_assoc, ← this]
        omega
      case round =>
        rename World => ws
        obtain ⟨R, P, O, Q, hr, hp, ho, hq, hbs, HS⟩ := hrel
        obtain ⟨ro, rk, rcap, rfl, -⟩ := hr.shape
        obtain ⟨po, pk, pcap, rfl, -⟩ := hp.shape
        obtain ⟨oo, ok, ocap, rfl, hok, -⟩ := ho.shape
        obtain ⟨qo, qk, qcap, rfl, -⟩ := hq.shape
        have hws := hbs.size
        have KR := Hid.mk (And.intro hr (And.intro hp (And.intro ho (And.intro hq hbs))))
        clear hr hp ho hq hbs
        by_cases hO : O = 0
        · have hk0 : ok = 0 := hok.2 hO
          have hk0' : decide (0 < ok) = false := decide_eq_false (by omega)
          have hk0'' : ¬ (0 < (ok : Int)) := by omega
          have HO := Hid.mk hO
          clear hO hok
          have hRy : R < y ∧ x = Q * y + R := by
            obtain ⟨h1, h2⟩ := HS.out
            have hO := HO.out
            rcases h1 with ⟨-, h3, -⟩ | ⟨s, -, h3, -, -⟩
            · exact ⟨h3, h2⟩
            · have := Nat.two_pow_pos s; omega
          have hdiv : Q = x / y ∧ R = x % y := by
            obtain ⟨h1, h2⟩ := hRy
            have e1 : x / y = Q := by rw [h2, Nat.mul_comm, Nat.mul_add_div hy, Nat.div_eq_of_lt h1]; omega
            have e2 : x % y = R := by rw [h2, Nat.mul_comm, Nat.mul_add_mod]; exact Nat.mod_eq_of_lt h1
            exact ⟨e1.symm, e2.symm⟩
          have hQx : Q ≤ x := by rw [hdiv.1]; exact Nat.div_le_self _ _
          have HQ := Hid.mk (And.intro hdiv (And.intro hRy.1 hQx))
          clear hRy hdiv hQx
          obtain ⟨a0, a1, -, -⟩ := (F.out.1.below KR.out.2.2.2.2 (by omega)).cells
          obtain ⟨b0, b1, -, -⟩ := (F.out.2.1.below KR.out.2.2.2.2 (by omega)).cells
          go_wp2_with fail
          refine (madeL _ Q (L + 1) _ KR.out.2.2.2.1).mono ?_
          rintro e w5 ⟨q5, rfl, hq5, hb5⟩
          obtain ⟨nq, qo5, qc5, qs5, rfl, -⟩ := hq5.parts
          obtain ⟨qn, hqn⟩ : ∃ qn, qn = qs5.length := ⟨_, rfl⟩
          rw [← hqn] at hq5 ⊢
          clear hqn
          have hbA : Below ws.heap.size ws (w5.alloc (.cells #[.bool nq, .slice qo5 qn qc5] 138)) := hb5.alloc hb5.size _
          have hbA' := (Below.refl w5.heap.size w5).alloc (Nat.le_refl _) (.cells #[.bool nq, .slice qo5 qn qc5] 138)
          have hxb := NBox.new w5 (.bool nq) (.slice qo5 qn qc5) rfl
          clear a0 a1 b0 b1
          obtain ⟨a0, a1, -, -⟩ := ((F.out.1.below KR.out.2.2.2.2 (by omega)).below hbA (by omega)).cells
          obtain ⟨b0, b1, -, -⟩ := ((F.out.2.1.below KR.out.2.2.2.2 (by omega)).below hbA (by omega)).cells
          have hw5 := hb5.size
          have K5 := Hid.mk (And.intro hbA (And.intro hxb (hq5.below hbA')))
          clear hq5 hb5 hbA hbA' hxb
          go_wp2_with fail
          refine (madeL _ R M _ ((KR.out.1.tight H.out.2 (by have := HQ.out.2.1; omega)).below K5.out.1)).mono ?_
          rintro e w6 ⟨r6, rfl, hr6, hb6⟩
          obtain ⟨nr, ro6, rc6, rs6, rfl, -⟩ := hr6.parts
          obtain ⟨rn, hrn⟩ : ∃ rn, rn = rs6.length := ⟨_, rfl⟩
          rw [← hrn] at hr6 ⊢
          clear hrn
          have hw6 : w5.heap.size + 1 ≤ w6.heap.size := by have := hb6.size; simpa using this
          have hb66 := (Below.refl w6.heap.size w6).alloc (Nat.le_refl _) (.cells #[.bool nr, .slice ro6 rn rc6] 138)
          have hbB : Below ws.heap.size ws w6 := K5.out.1.trans (hb6.mono (by simp; omega))
          have hbC : Below ws.heap.size ws (w6.alloc (.cells #[.bool nr, .slice ro6 rn rc6] 138)) := hbB.alloc hbB.size _
          have hyb := NBox.new w6 (.bool nr) (.slice ro6 rn rc6) rfl
          have hxb := (K5.out.2.1.below hb6 (by simp)).below hb66 (by omega)
          clear a0 a1 b0 b1
          obtain ⟨a0, a1, -, -⟩ := ((F.out.1.below KR.out.2.2.2.2 (by omega)).below hbC (by omega)).cells
          obtain ⟨b0, b1, -, -⟩ := ((F.out.2.1.below KR.out.2.2.2.2 (by omega)).below hbC (by omega)).cells
          have K6 := Hid.mk (And.intro hbC (And.intro hyb (And.intro hxb (And.intro (hr6.below hb66) ((K5.out.2.2.below hb6).below hb66)))))
          clear hr6 hb6 hb66 hbB hbC hyb hxb
          go_wp2_with fail
          refine (sign_any _ (R : Int) M _ K6.out.2.2.2.1).mono ?_
          rintro e w7 ⟨rfl, hb7⟩
          have hw7 : w6.heap.size + 1 ≤ w7.heap.size := by have := hb7.size; simpa using this
          have hbD : Below ws.heap.size ws w7 := K6.out.1.trans (hb7.mono (by simp; omega))
          have hbW : Below W0.heap.size W0 w7 := KR.out.2.2.2.2.trans (hbD.mono hws)
          obtain ⟨y0, y1, -, -⟩ := (K6.out.2.1.below hb7 (by simp)).cells
          obtain ⟨x0, x1, -, -⟩ := (K6.out.2.2.1.below hb7 (by simp; omega)).cells
          clear a0 a1 b0 b1
          obtain ⟨a0, a1, -, -⟩ := (F.out.1.below hbW (by omega)).cells
          obtain ⟨b0, b1, -, -⟩ := (F.out.2.1.below hbW (by omega)).cells
          have hP := F.out.2.2.1.below hbW (by omega)
          have hQ := F.out.2.2.2.1.below hbW (by omega)
          obtain ⟨s0, s1, s2, s3⟩ := hP.cells
          obtain ⟨t0, t1, t2, t3⟩ := hQ.cells
          have K7 := Hid.mk (And.intro (F.out.2.2.2.2.1.trans (hbW.mono (by omega))) (And.intro hP (And.intro hQ (And.intro (K6.out.2.2.2.1.below hb7) (K6.out.2.2.2.2.below hb7)))))
          obtain ⟨sg, hsg⟩ : ∃ sg, sg = sgn (R : Int) := ⟨_, rfl⟩
          rw [← hsg]
          clear hb7 hbD hbW hP hQ hsg
          have HFIN : Hid (∀ W', W' = ((((w7.setCell ⟨w.heap.size + 1 + 1, 0, none⟩ (.bool nq)).setCell ⟨w.heap.size + 1 + 1, 1, none⟩ (.slice qo5 qn qc5)).setCell ⟨w.heap.size + 1 + 1 + 1, 0, none⟩ (.bool nr)).setCell ⟨w.heap.size + 1 + 1 + 1, 1, none⟩ (.slice ro6 rn rc6)) →
              W'.cell? ⟨w.heap.size + 1 + 1, 0, none⟩ = some (.bool nq) ∧ W'.cell? ⟨w.heap.size + 1 + 1, 1, none⟩ = some (.slice qo5 qn qc5) ∧ W'.cell? ⟨w.heap.size + 1 + 1 + 1, 0, none⟩ = some (.bool nr) ∧ W'.cell? ⟨w.heap.size + 1 + 1 + 1, 1, none⟩ = some (.slice ro6 rn rc6) ∧
              IsN W' (.agg #[.bool nq, .slice qo5 qn qc5]) ((x / y : Nat) : Int) (L + 1) ∧ IsN W' (.agg #[.bool nr, .slice ro6 rn rc6]) ((x % y : Nat) : Int) M ∧ Below w.heap.size w W') := Hid.mk (by
            intro W' hW'
            obtain ⟨hb, hP, hQ, hr, hq⟩ := K7.out
            have g1 := hP.put (.bool nq) (.slice qo5 qn qc5)
            have hQ1 : NBox ((w7.setCell ⟨w.heap.size + 1 + 1, 0, none⟩ (.bool nq)).setCell ⟨w.heap.size + 1 + 1, 1, none⟩ (.slice qo5 qn qc5)) (w.heap.size + 1 + 1 + 1) (.bool false) (.slice none 0 0) := by
              unfold NBox
              rw [Below.heap_setCell _ _ _ _ (by simp), Below.heap_setCell _ _ _ _ (by simp)]
              exact hQ
            have g2 := hQ1.put (.bool nr) (.slice ro6 rn rc6)
            rw [← hW'] at g2
            have g3 : NBox W' (w.heap.size + 1 + 1) (.bool nq) (.slice qo5 qn qc5) := by
              unfold NBox
              rw [hW', Below.heap_setCell _ _ _ _ (by simp), Below.heap_setCell _ _ _ _ (by simp)]
              exact g1
            obtain ⟨f0, f1, -, -⟩ := g2.cells
            obtain ⟨e0, e1, -, -⟩ := g3.cells
            refine ⟨e0, e1, f0, f1, ?_, ?_, ?_⟩
            · rw [← HQ.out.1.1, hW']
              exact (hq.box hP.ty (by decide) _ _).box hQ1.ty (by decide) _ _
            · rw [← HQ.out.1.2, hW']
              exact (hr.box hP.ty (by decide) _ _).box hQ1.ty (by decide) _ _
            · rw [hW']
              exact (((hb.setCell (by simp; omega) _).setCell (by simp; omega) _).setCell (by simp; omega) _).setCell (by simp; omega) _)
          by_cases hs0 : sg = 0
          · subst hs0
            go_wp2_with fail
            go_region
            go_wp2_with fail
            obtain ⟨z0, z1, z2, z3, z4, z5, z6⟩ := HFIN.out _ rfl
            refine bodyPost_ret (v := .tuple #[.agg #[.bool nq, .slice qo5 qn qc5], .agg #[.bool nr, .slice ro6 rn rc6]]) ?_ rfl ?_
            · (simp [results, Tryz.results210, go_sem, z0, z1, z2, z3]; done)
            · exact ⟨_, _, rfl, z4, z5, z6.drew⟩
          · have hs1 : (sg == 0) = false := beq_eq_false_iff_ne.2 hs0
            go_wp2_with fail
            go_region
            go_wp2_with fail
            obtain ⟨z0, z1, z2, z3, z4, z5, z6⟩ := HFIN.out _ rfl
            refine bodyPost_ret (v := .tuple #[.agg #[.bool nq, .slice qo5 qn qc5], .agg #[.bool nr, .slice ro6 rn rc6]]) ?_ rfl ?_
            · (simp [results, Tryz.results210, go_sem, z0, z1, z2, z3]; done)
            · exact ⟨_, _, rfl, z4, z5, z6.drew⟩
        · have hk0 : 0 < ok := by
            rcases Nat.eq_zero_or_pos ok with h | h
            · exact absurd (hok.1 h) hO
            · exact h
          have hk0' : (0 : Int) < (ok : Int) := by omega
          clear hok
          go_wp2_with fail
          refine (sizeL _ _ P R (max L M + 1) L _ KR.out.2.1 KR.out.1 (by omega)).mono ?_
          rintro e w5 ⟨rfl, hb5⟩
          have K5 := Hid.mk hb5
          have hw5 := hb5.size
          clear hb5
          by_cases hPR : P ≤ R
          · have hc : cmpZ P R ≤ 0 := by unfold cmpZ; split <;> (try split) <;> omega
            obtain ⟨cz, hcz⟩ : ∃ cz, cz = cmpZ P R := ⟨_, rfl⟩
            rw [← hcz] at hc ⊢
            clear hcz
            go_wp2_with fail
            refine (lessL _ _ R P L (max L M + 1) _ (KR.out.1.below K5.out) (KR.out.2.1.below K5.out) hPR (by omega)).mono ?_
            rintro e w6 ⟨r6, rfl, hr6, hb6⟩
            obtain ⟨ro6, rk6, rcap6, rfl, -⟩ := hr6.shape
            have hb56 : Below ws.heap.size ws w6 := K5.out.trans (hb6.mono hw5)
            have hw6 := hb56.size
            have K6 := Hid.mk (And.intro hr6 hb56)
            clear hr6 hb6 hb56
            have hQ : Q ≤ x := by have := HS.out.2; have : Q * 1 ≤ Q * y := Nat.mul_le_mul_left _ hy; omega
            have hOR : O ≤ R := by
              obtain ⟨s, -, h2, h3, -⟩ := half_next HS.out.1 (by omega)
              have : 1 * 2 ^ s ≤ y * 2 ^ s := Nat.mul_le_mul_right _ hy
              omega
            go_wp2_with fail
            refine (sumL _ _ Q O L L _ ((KR.out.2.2.2.1.tight H.out.1 hQ).below K6.out.2) ((KR.out.2.2.1.tight KR.out.1 hOR).below K6.out.2) (by omega) (by omega)).mono ?_
            rintro e w7 ⟨q7, rfl, hq7, hb7⟩
            obtain ⟨qo7, qk7, qcap7, rfl, -⟩ := hq7.shape
            have hb57 : Below ws.heap.size ws w7 := K6.out.2.trans (hb7.mono hw6)
            have hw7 := hb57.size
            have K7 := Hid.mk (And.intro hq7 (And.intro hb57 (K6.out.1.below hb7)))
            clear hq7 hb7 hb57
            go_wp2_with fail
            refine (halvedL _ P (max L M + 1) _ (KR.out.2.1.below K7.out.2.1) (by omega)).mono ?_
            rintro e w8 ⟨p8, rfl, hp8, hb8⟩
            obtain ⟨po8, pk8, pcap8, rfl, -⟩ := hp8.shape
            have hb58 : Below ws.heap.size ws w8 := K7.out.2.1.trans (hb8.mono hw7)
            have hw8 := hb58.size
            have K8 := Hid.mk (And.intro hp8 (And.intro hb58 (And.intro (K7.out.1.below hb8) (K7.out.2.2.below hb8))))
            clear hp8 hb8 hb58
            go_wp2_with fail
            refine (halvedL _ O (max L M + 1) _ (KR.out.2.2.1.below K8.out.2.1) (by omega)).mono ?_
            rintro e w9 ⟨o9, rfl, ho9, hb9⟩
            obtain ⟨oo9, ok9, ocap9, rfl, -⟩ := ho9.shape
            have hb59 : Below ws.heap.size ws w9 := K8.out.2.1.trans (hb9.mono hw8)
            have K9 := Hid.mk (And.intro ho9 (And.intro hb59 (And.intro (K8.out.1.below hb9) (And.intro (K8.out.2.2.1.below hb9) (K8.out.2.2.2.below hb9)))))
            clear ho9 hb9 hb59
            obtain ⟨s, hs1, hs2, hs3, hs4⟩ := half_next HS.out.1 (by omega)
            have HN := Hid.mk (And.intro hs1 (And.intro hs2 (And.intro hs3 (hs4 (R - P) (.inr ⟨hPR, rfl⟩)))))
            clear hs1 hs2 hs3 hs4
            go_wp2_with fail
            go_roundg s
            case measure => have := HN.out.1; omega
            case rel =>
              refine ⟨R - P, P / 2, O / 2, Q + O, K9.out.2.2.2.2, K9.out.2.2.1, K9.out.1, K9.out.2.2.2.1.mono (by omega), KR.out.2.2.2.2.trans (K9.out.2.1.mono hws), Hid.mk ⟨HN.out.2.2.2, ?_⟩⟩
              have h1 := HS.out.2
              have h2 : O * y = P := by rw [HN.out.2.1, HN.out.2.2.1, Nat.mul_comm]
              rw [Nat.add_mul, h2]
              omega
          · have hc : 0 < cmpZ P R := by unfold cmpZ; split <;> (try split) <;> omega
            obtain ⟨cz, hcz⟩ : ∃ cz, cz = cmpZ P R := ⟨_, rfl⟩
            rw [← hcz] at hc ⊢
            have hc' : decide (cz ≤ 0) = false := decide_eq_false (by omega)
            clear hcz
            go_wp2_with fail
            refine (halvedL _ P (max L M + 1) _ (KR.out.2.1.below K5.out) (by omega)).mono ?_
            rintro e w8 ⟨p8, rfl, hp8, hb8⟩
            obtain ⟨po8, pk8, pcap8, rfl, -⟩ := hp8.shape
            have hb58 : Below ws.heap.size ws w8 := K5.out.trans (hb8.mono hw5)
            have hw8 := hb58.size
            have K8 := Hid.mk (And.intro hp8 hb58)
            clear hp8 hb8 hb58
            go_wp2_with fail
            refine (halvedL _ O (max L M + 1) _ (KR.out.2.2.1.below K8.out.2) (by omega)).mono ?_
            rintro e w9 ⟨o9, rfl, ho9, hb9⟩
            obtain ⟨oo9, ok9, ocap9, rfl, -⟩ := ho9.shape
            have hb59 : Below ws.heap.size ws w9 := K8.out.2.trans (hb9.mono hw8)
            have K9 := Hid.mk (And.intro ho9 (And.intro hb59 (K8.out.1.below hb9)))
            clear ho9 hb9 hb59
            obtain ⟨s, hs1, hs2, hs3, hs4⟩ := half_next HS.out.1 (by omega)
            have HN := Hid.mk (And.intro hs1 (hs4 R (.inl ⟨rfl, by omega⟩)))
            clear hs1 hs2 hs3 hs4
            go_wp2_with fail
            go_roundg s
            case measure => have := HN.out.1; omega
            case rel => exact ⟨R, P / 2, O / 2, Q, KR.out.1.below K9.out.2.1, K9.out.2.2, K9.out.1, KR.out.2.2.2.1.below K9.out.2.1, KR.out.2.2.2.2.trans (K9.out.2.1.mono hws), Hid.mk ⟨HN.out.2, HS.out.2⟩⟩
end Go.Proofs.YtfjbijpagaipnaaGreatDoor.R
