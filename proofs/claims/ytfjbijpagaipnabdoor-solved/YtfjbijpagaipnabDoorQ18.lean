import Derived.Test.YtfjbijpagaipnabDoorQ17
import Derived.Test.YtfjbijpagaipnabDoorQ13
import Derived.Test.YtfjbijpagaipnabDoorQ08
import Derived.Test.YtfjbijpagaipnabDoorQ10
import Derived.Test.YtfjbijpagaipnabDoorQ16
namespace Go.Proofs.YtfjbijpagaipnabDoor.R
structure Ech (g : Nat → Nat → Int) (r c p : Nat) (pc : Nat → Nat) : Prop where
 le : p ≤ r
 col : ∀ b, b < p → pc b < c
 up : ∀ a b, a < b → b < p → pc a < pc b
 piv : ∀ b, b < p → g b (pc b) ≠ 0
 below : ∀ a b, b < p → b < a → a < r → g a (pc b) = 0
 rest : ∀ a, p ≤ a → a < r → ∀ j, j < c → g a j = 0
theorem cols_mem {pc : Nat → Nat} {p : Nat} (up : ∀ a b, a < b → b < p → pc a < pc b) : ∀ n N, n ≤ p → (∀ b, b < n → pc b < N) → (List.range n).map pc ∈ chosenL n N := by
 intro n
 induction n with
 | zero => intro N _ _; simp [chosenL]
 | succ n ih =>
   intro N hn hb
   rw [List.range_succ, List.map_append, List.map_singleton]
   exact chosenL_snoc (ih (pc n) (by omega) (fun b hb' => up b n hb' (by omega))) (hb n (by omega))
theorem sumF_one (n : Nat) (g : Nat → Int) (h : ∀ k, 0 < k → k < n + 1 → g k = 0) : sumF (n + 1) g = g 0 := by
 induction n with
 | zero => simp [sumF]
 | succ n ih => rw [sumF, ih (fun k h1 h2 => h k h1 (by omega)), h (n + 1) (by omega) (by omega)]; simp
theorem tri {g : Nat → Nat → Int} {r c p : Nat} {pc : Nat → Nat} (h : Ech g r c p pc) : ∀ n o, o + n ≤ p → mv ((List.range' o n).map g) ((List.range' o n).map pc) ≠ 0 := by
 intro n
 induction n with
 | zero => intro o _; simp [mv]
 | succ n ih =>
   intro o ho
   rw [List.range'_succ, List.map_cons, List.map_cons, mv, List.length_cons, sumF_one _ _ (fun k hk0 hk => ?_)]
   ·have e : signed 0 (g o ((pc o :: (List.range' (o + 1) n).map pc).getD 0 0) * mv ((List.range' (o + 1) n).map g) ((pc o :: (List.range' (o + 1) n).map pc).eraseIdx 0)) = g o (pc o) * mv ((List.range' (o + 1) n).map g) ((List.range' (o + 1) n).map pc) := by simp [signed]
    rw [e]
    intro h0
    rcases Int.mul_eq_zero.1 h0 with h1 | h1
    ·exact h.piv o (by omega) h1
    ·exact ih (o + 1) (by omega) h1
   ·have hz : mv ((List.range' (o + 1) n).map g) ((pc o :: (List.range' (o + 1) n).map pc).eraseIdx k) = 0 := by
     refine mv_zero_col (pc o) _ _ (fun v hv => ?_) ?_ ?_
     ·obtain ⟨a, ha, rfl⟩ := List.mem_map.1 hv
      have ha' := List.mem_range'_1.1 ha
      have := h.le
      exact h.below a o (by omega) (by omega) (by omega)
     ·match k, hk0 with
      | k + 1, _ => simp
     ·rw [List.length_eraseIdx, if_pos (by simpa using hk)]
      simp
    rw [hz]
    unfold signed; split <;> simp
theorem ech_cols {g : Nat → Nat → Int} {r c p : Nat} {pc : Nat → Nat} (h : Ech g r c p pc) : p ≤ c := by
 have key : ∀ b, b < p → b ≤ pc b := by
  intro b
  induction b with
  | zero => intro _; omega
  | succ b ih => intro hb; have h1 := ih (by omega); have h2 := h.up b (b + 1) (by omega) hb; omega
 rcases Nat.eq_zero_or_pos p with h0 | h0
 ·omega
 ·have h1 := key (p - 1) (by omega)
  have h2 := h.col (p - 1) (by omega)
  omega
theorem ech_rank {f g : Nat → Nat → Int} {r c p : Nat} {pc : Nat → Nat} (h : Ech g r c p pc) (hfg : ∀ m, AllV f r c m ↔ AllV g r c m) (hr : r ≤ 4) (_hc : c ≤ 4) : RankIs f r c p := by
 refine ⟨h.le, ech_cols h, fun i hi h0 => ?_, ?_⟩
 ·have hle := h.le
  have h1 := (hfg (i + 1)).1 ((all_div f r c (i + 1) (by omega)).1 h0)
  have h2 := h1 (List.range (i + 1)) List.length_range (fun x hx => by have := List.mem_range.1 hx; omega) ((List.range (i + 1)).map pc) (cols_mem h.up (i + 1) c (by omega) (fun b hb => h.col b (by omega)))
  have h3 := tri h (i + 1) 0 (by omega)
  rw [← List.range_eq_range'] at h3
  exact h3 h2
 ·by_cases hpr : p = r
  ·exact .inl hpr
  ·by_cases hpc : p = c
   ·exact .inr (.inl hpc)
   ·refine .inr (.inr ?_)
    have hle := h.le
    rw [all_div f r c (p + 1) (by omega), hfg, ← all_div g r c (p + 1) (by omega)]
    unfold divF
    rw [gA_zero]
    refine ⟨rfl, fun R hR C hC => ?_⟩
    obtain ⟨Q, last, rfl, hQ, hlast, hlr⟩ := chosenL_last hR
    rw [mv_minor, List.map_append, List.map_singleton]
    have hCm := chosenL_mem (p + 1) c C hC
    have hQm := chosenL_mem p last Q hQ
    exact mv_zero_row (g last) [] (Q.map g) C (fun x hx => h.rest last hlast hlr x (hCm.2 x hx)) (by simp [hCm.1, hQm.1])
theorem mv_at {v v' : Nat → Int} (ys : List (Nat → Int)) : ∀ (xs : List (Nat → Int)) (C : List Nat), (∀ x ∈ C, v x = v' x) → mv (xs ++ v :: ys) C = mv (xs ++ v' :: ys) C := by
 intro xs
 induction xs with
 | nil =>
   intro C hC
   rw [List.nil_append, List.nil_append, mv, mv]
   refine sumF_congr (fun k hk => ?_)
   rw [hC (C.getD k 0) (by rw [List.getD, List.getElem?_eq_getElem hk]; exact List.getElem_mem _)]
 | cons x xs ih =>
   intro C hC
   rw [List.cons_append, List.cons_append, mv, mv]
   refine sumF_congr (fun k _ => ?_)
   rw [ih (C.eraseIdx k) (fun y hy => hC y (List.mem_of_mem_eraseIdx hy))]
theorem mv_sum (u : Nat → Int) (f : Nat → Nat → Int) (xs ys : List (Nat → Int)) (C : List Nat) : ∀ n, mv (xs ++ (fun j => sm (fun k => u k * f k j) n) :: ys) C = sm (fun k => u k * mv (xs ++ f k :: ys) C) n := by
 intro n
 induction n with
 | zero =>
   have := mv_lin 0 0 (fun _ => 0) (fun _ => 0) ys xs C
   rw [Int.zero_mul, Int.zero_mul, Int.add_zero] at this
   rw [sm]
   rw [← this]
   exact mv_at ys xs C (fun x _ => by simp [sm])
 | succ n ih =>
   have h := mv_lin 1 (u n) (fun j => sm (fun k => u k * f k j) n) (f n) ys xs C
   rw [ih] at h
   rw [sm, show sm (fun k => u k * mv (xs ++ f k :: ys) C) n + u n * mv (xs ++ f n :: ys) C = 1 * sm (fun k => u k * mv (xs ++ f k :: ys) C) n + u n * mv (xs ++ f n :: ys) C from by omega, ← h]
   exact mv_at ys xs C (fun x _ => by rw [sm]; omega)
theorem sm_dvd {d : Int} {f : Nat → Int} (n : Nat) (h : ∀ k, k < n → d ∣ f k) : d ∣ sm f n := by
 induction n with
 | zero => exact Int.dvd_zero d
 | succ n ih => rw [sm]; exact Int.dvd_add (ih (fun k hk => h k (by omega))) (h n (by omega))
def CombOf (f : Nat → Nat → Int) (r : Nat) (C : List Nat) (v : Nat → Int) : Prop := ∃ u : Nat → Int, ∀ x ∈ C, v x = sm (fun k => u k * f k x) r
theorem comb_dvd {d : Int} {f : Nat → Nat → Int} {r : Nat} {C : List Nat} (h : AllD d f r C) : ∀ (vs : List (Nat → Int)), (∀ v ∈ vs, CombOf f r C v) → ∀ (xs : List Nat), xs.length + vs.length = C.length → (∀ x ∈ xs, x < r) → d ∣ mv (xs.map f ++ vs) C := by
 intro vs
 induction vs with
 | nil =>
   intro _ xs hl hx
   rw [List.append_nil]
   exact h xs (by simpa using hl) hx
 | cons v vs ih =>
   intro hv xs hl hx
   obtain ⟨u, hu⟩ := hv v (by simp)
   rw [mv_at vs (xs.map f) C hu, mv_sum u f (xs.map f) vs C r]
   refine sm_dvd r (fun k hk => Int.dvd_trans ?_ (Int.dvd_mul_left _ _))
   have := ih (fun v hv' => hv v (by simp [hv'])) (xs ++ [k]) (by simp at hl ⊢; omega) (fun x hx' => by
    rcases List.mem_append.1 hx' with h1 | h1
    ·exact hx x h1
    ·simp at h1; omega)
   simpa using this
theorem allD_comb {d : Int} {f g : Nat → Nat → Int} {r r' : Nat} {C : List Nat} (h : AllD d f r C) (hg : ∀ i, i < r' → CombOf f r C (g i)) : AllD d g r' C := by
 intro R hR hx
 have := comb_dvd h (R.map g) (fun v hv => by
  obtain ⟨i, hi, rfl⟩ := List.mem_map.1 hv
  exact hg i (hx i hi)) [] (by simpa using hR) (fun x hx => by simp at hx)
 simpa using this
theorem comb_of_dot {f g u : Nat → Nat → Int} {r c i : Nat} {C : List Nat} (hC : ∀ x ∈ C, x < c) (h : ∀ j, j < c → dot u f i j r = g i j) : CombOf f r C (g i) :=
 ⟨u i, fun x hx => by rw [← h x (hC x hx), dot_sm]⟩
theorem chosenL_lt {m c : Nat} {C : List Nat} (h : C ∈ chosenL m c) : C.length = m ∧ ∀ x ∈ C, x < c := by
 have := chosenL_mem m c C h
 exact ⟨this.1, fun x hx => by
  obtain ⟨i, hi, he⟩ := List.mem_iff_getElem.1 hx
  have h2 := this.2
  first
   | exact h2 x hx
   | (rw [← he]; exact h2 i hi)⟩
theorem allV_einv {A H U W : Nat → Nat → Int} {r c : Nat} (h : EInv A H U W r c) (m : Nat) : AllV A r c m ↔ AllV H r c m := by
 rw [allV_iff, allV_iff]
 constructor
 ·intro hA C hC
  exact allD_comb (hA C hC) (fun i hi => comb_of_dot (chosenL_lt hC).2 (fun j hj => h.ua i j hi hj))
 ·intro hH C hC
  exact allD_comb (hH C hC) (fun i hi => comb_of_dot (chosenL_lt hC).2 (fun j hj => h.wh i j hi hj))
end Go.Proofs.YtfjbijpagaipnabDoor.R
namespace Go.Proofs.YtfjbijpagaipnabDoor
open Go.RowKit R
def gz (c : Nat) (zs : List Int) : Nat → Nat → Int := fun i j => zs.getD (i * c + j) 0
theorem EchSt.ech {r c k : Nat} {pc : Nat → Nat} {H : Nat → Nat → Int} (h : EchSt r c k pc H) : Ech H r c k pc :=
 ⟨h.le, h.col, h.up, fun b hb => by have := h.piv b hb; omega, fun a b hb hba har => h.below b hb a hba har, h.rest⟩
theorem ech_rankIs {r c k : Nat} {pc : Nat → Nat} {A H U W : Nat → Nat → Int} (h : EchSt r c k pc H) (hE : EInv A H U W r c) (hr : r ≤ 4) (hc : c ≤ 4) : RankIs A r c k :=
 ech_rank h.ech (fun m => allV_einv hE m) hr hc
theorem IsM.slice {w : World} {s : Value} {r c L : Nat} {zs : List Int} (h : IsM w (.agg #[.int .i64 r, .int .i64 c, s]) r c zs L) : ∃ ao cap, s = .slice ao (r * c) cap := by
 obtain ⟨_, _, sl, h2, h3⟩ := h
 obtain ⟨ao, cap, rfl, -⟩ := h3.shape
 simp only [Value.agg.injEq, Array.mk.injEq, List.cons.injEq, and_true, true_and] at h2
 exact ⟨ao, cap, h2⟩
theorem field_rank (a b s1 d e s2 f g s3 : Value) (k : Int) : ∀ w : World, (Instr.field 77 (.agg #[a, b, s1, d, e, s2, f, g, s3, .int .i64 k]) 3).run Tryd.prog w = .ok (.int .i64 k) w := fun _ => by kernel_rfl
theorem FitsP.ent {r c : Nat} {zs : List Int} (h : FitsP r c zs) (i j : Nat) (hi : i < r) (hj : j < c) : (ent c zs i j).natAbs < 2 ^ 48 := h.2.2 _ (idx_lt hi hj)
theorem size48 {r c : Nat} (hr : r ≤ 4) (hc : c ≤ 4) : hB r 48 c ≤ 32 * 4000 ∧ uB r 48 c ≤ 32 * 4000 := by
 have key : ∀ r : Fin 5, ∀ c : Fin 5, hB r.val 48 c.val ≤ 32 * 4000 ∧ uB r.val 48 c.val ≤ 32 * 4000 := by decide
 exact key ⟨r, by omega⟩ ⟨c, by omega⟩
theorem gech_fit (v : Value) (r c : Nat) (zs : List Int) (L : Nat) (w : World) (hm : IsM w v r c zs L) (hr : r ≤ 4) (hc : c ≤ 4) (hz : ∀ i j, i < r → j < c → (ent c zs i j).natAbs < 2 ^ 48) (hL : L ≤ 4000) :
 Calls Tryd.prog 37 #[v] w fun e w' => EchOut w w' e r c zs 48 4000 :=
 gech_any v r c zs 48 4000 w (hm.mono hL) (by omega) (by omega) hz (by omega) (size48 hr hc).1 (size48 hr hc).2
open Go.RowKit
structure EchIs (r c : Nat) (zs : List Int) (k : Nat) (pc : Nat → Nat) (hs us ws : List Int) : Prop where
 lh : hs.length = r * c
 lu : us.length = r * r
 lw : ws.length = r * r
 st : EchSt r c k pc (ent c hs)
 inv : EInv (ent c zs) (ent c hs) (ent r us) (ent r ws) r c
 eb : EB (ent c hs) (ent r us) (ent r ws) r c k 48
 run : EcTo r c (ent c zs) c k (e3 r c hs us ws)
open Go.RowKit
theorem set3 (w : World) (b : Nat) {t : TypeId} (ht : Ty w b t) (hne : t ≠ 110) (v0 v1 v2 : Value) : KU w (((w.setCell ⟨b, 0, none⟩ v0).setCell ⟨b, 1, none⟩ v1).setCell ⟨b, 2, none⟩ v2) ∧ w.grownBy (((w.setCell ⟨b, 0, none⟩ v0).setCell ⟨b, 1, none⟩ v1).setCell ⟨b, 2, none⟩ v2) (some b) := by
 have k0 := KU.setCell (o := 0) (KU.refl w) ht hne v0
 have t0 := ht.setCell ⟨b, 0, none⟩ v0
 have k1 := KU.setCell (o := 1) k0 t0 hne v1
 have t1 := t0.setCell ⟨b, 1, none⟩ v1
 have k2 := KU.setCell (o := 2) k1 t1 hne v2
 exact ⟨k2, grown_trans (grown_trans (grown_cell _ _ _ _) (grown_cell _ _ _ _)) (grown_cell _ _ _ _)⟩
theorem Grid.besides {w W : World} {b g n L : Nat} {zs : List Int} (h : Grid w (.slice (some ⟨g, 0, none⟩) n n) n zs L) (hg : w.grownBy W (some b)) (hk : KU w W) (hne : g ≠ b) : Grid W (.slice (some ⟨g, 0, none⟩) n n) n zs L :=
 h.grown hg (fun a m c e => by
  simp only [Value.slice.injEq, Option.some.injEq] at e
  obtain ⟨rfl, -, -⟩ := e
  exact hne) hk
set_option maxRecDepth 100000 in
set_option maxHeartbeats 4000000 in
theorem flip_new (v : Value) (r c : Nat) (zs : List Int) (L : Nat) (w : World) (hm : IsM w v r c zs L) :
 Calls Tryd.prog 41 #[v] w fun e w' => ∃ g ms, e = .returned (.agg #[.int .i64 c, .int .i64 r, .slice (some ⟨g, 0, none⟩) (c * r) (c * r)]) ∧ w.heap.size ≤ g ∧ Grid w' (.slice (some ⟨g, 0, none⟩) (c * r) (c * r)) (c * r) ms L ∧ (∀ i j, i < c → j < r → ent r ms i j = ent c zs j i) ∧ Below w.heap.size w w' := by
 have HM := Hid.mk hm
 obtain ⟨hr, hc, sl, rfl, hg0⟩ := hm
 obtain ⟨ao, cap, rfl, -⟩ := hg0.shape
 clear hg0
 obtain ⟨N, hN⟩ : ∃ N, N = r * c := ⟨_, rfl⟩
 rw [← hN] at HM ⊢
 clear hN
 go_enter Tryd.func41, Tryd.ntmps41
 go_wp2_with fail
 obtain ⟨W0, hW0⟩ : ∃ W0, W0 = (w.alloc (.cells #[.int .i64 r, .int .i64 c, .slice ao N cap] 56)).alloc (.cells #[.int .i64 0, .int .i64 0, .slice none 0 0] 56) := ⟨_, rfl⟩
 have hs0 : W0.heap.size = w.heap.size + 2 := by rw [hW0]; simp
 have hb0 : Below w.heap.size w W0 := by rw [hW0]; repeat (first | exact Below.refl _ _ | refine Below.alloc ?_ (by simp <;> omega) _)
 have hm0 : Trio W0 w.heap.size (.int .i64 r) (.int .i64 c) (.slice ao N cap) := by
  rw [hW0]
  exact Trio.later (w := w.alloc (.cells #[.int .i64 r, .int .i64 c, .slice ao N cap] 56)) ⟨new_cell _ _ _ _ _ rfl rfl, new_cell _ _ _ _ _ rfl rfl, new_cell _ _ _ _ _ rfl rfl⟩ ((Below.refl _ _).alloc (Nat.le_refl _) _)
 have hR0 : W0.heap[w.heap.size + 1]? = some (.cells #[.int .i64 0, .int .i64 0, .slice none 0 0] 56 (0, 0)) := by
  rw [hW0]
  have := heap_alloc_new (w.alloc (.cells #[.int .i64 r, .int .i64 c, .slice ao N cap] 56)) (.cells #[.int .i64 0, .int .i64 0, .slice none 0 0] 56)
  simpa using this
 have K0 := Hid.mk (And.intro hb0 (And.intro hm0 hR0))
 rw [← hW0]
 clear hb0 hm0 hR0 hW0
 refine (noughts_any c r _ hc hr).mono ?_
 rintro e w1 ⟨g, rfl, hg1, hG1, hb1⟩
 have hw1 : W0.heap.size ≤ w1.heap.size := hb1.size
 have hgl := hG1.ty.lt
 have hb11 := (Below.refl w1.heap.size w1).alloc (Nat.le_refl _) (.cells #[.int .i64 c, .int .i64 r, .slice (some ⟨g, 0, none⟩) (c * r) (c * r)] 56)
 have hTm : Tri (w1.alloc (.cells #[.int .i64 c, .int .i64 r, .slice (some ⟨g, 0, none⟩) (c * r) (c * r)] 56)) w1.heap.size 0 (.int .i64 c) (.int .i64 r) (.slice (some ⟨g, 0, none⟩) (c * r) (c * r)) := ⟨new_cell _ _ _ _ _ rfl rfl, new_cell _ _ _ _ _ rfl rfl, new_cell _ _ _ _ _ rfl rfl⟩
 obtain ⟨W1, hW1⟩ : ∃ W1, W1 = w1.alloc (.cells #[.int .i64 c, .int .i64 r, .slice (some ⟨g, 0, none⟩) (c * r) (c * r)] 56) := ⟨_, rfl⟩
 have hs1 : W1.heap.size = w1.heap.size + 1 := by rw [hW1]; simp
 rw [← hW1] at hb11 hTm
 have hbW := hb1.trans (hb11.mono hw1)
 have K1 := Hid.mk (And.intro (show MatO W1 w1.heap.size 0 g c r (List.replicate (c * r) 0) L from ⟨hc, hr, hTm, (hG1.mono (Nat.zero_le _)).below hb11⟩) (And.intro hbW hW1))
 clear hG1 hb1 hb11 hTm hW1 hbW
 go_wp2_with fail
 rw [← K1.out.2.2]
 have hpg : w1.heap.size ≠ g := by omega
 go_loopw [4] (fun i wr => ∃ (a : Nat) (ms : List Int), a ≤ r ∧ i = .int .i64 a ∧ Hid (MatO wr w1.heap.size 0 g c r ms L ∧ W1.grownBy wr (some g) ∧ ∀ i j, i < c → j < r → j < a → ent r ms i j = ent c zs j i)) (fun i _ => r - (intOf i).toNat)
 case atStart => exact ⟨0, _, Nat.zero_le _, rfl, Hid.mk ⟨K1.out.1, World.grownBy.refl _ _, fun i j _ _ h => by omega⟩⟩
 case round =>
  rename World => wo
  obtain ⟨a, ms, ha, rfl, HI⟩ := hrel
  have hTo := (K0.out.2.1.later K1.out.2.1).grown HI.out.2.1 (by omega)
  obtain ⟨q0, q1, q2⟩ := hTo
  by_cases har : a < r
  ·have hai : (a : Int) < (r : Int) := by omega
   go_wp2_with fail
   clear q0 q1 q2
   go_loopw [5] (fun i wr => ∃ (e : Nat) (ns : List Int), e ≤ c ∧ i = .int .i64 e ∧ Hid (MatO wr w1.heap.size 0 g c r ns L ∧ W1.grownBy wr (some g) ∧ ∀ i j, i < c → j < r → (j < a ∨ (j = a ∧ i < e)) → ent r ns i j = ent c zs j i)) (fun i _ => c - (intOf i).toNat)
   case atStart => exact ⟨0, ms, Nat.zero_le _, rfl, Hid.mk ⟨HI.out.1, HI.out.2.1, fun i j x y h => HI.out.2.2 i j x y (by omega)⟩⟩
   case round =>
    rename World => wi
    obtain ⟨e, ns, he, rfl, HJ⟩ := hrel
    have hTi := (K0.out.2.1.later K1.out.2.1).grown HJ.out.2.1 (by omega)
    obtain ⟨q0, q1, q2⟩ := hTi
    have hbi : Below w.heap.size w wi := (K0.out.1.trans (K1.out.2.1.mono (by omega))).trans (below_of_grown HJ.out.2.1 (by omega) (by omega))
    have hwi := HJ.out.2.1.size
    have KI := Hid.mk hbi
    clear hbi
    by_cases hec : e < c
    ·have hei : (e : Int) < (c : Int) := by omega
     go_wp2_with fail
     refine (at_in _ r c a e zs L _ (HM.out.below KI.out) har hec).mono ?_
     rintro e9 w2 ⟨x, rfl, hx, hb2⟩
     obtain ⟨nb2, so2, n2, cp2, rfl⟩ := hx.shape
     have hb22 := (Below.refl w2.heap.size w2).alloc (Nat.le_refl _) (.cells #[.bool nb2, .slice so2 n2 cp2] 69)
     have hbB := hb2.trans (hb22.mono hb2.size)
     have K2 := Hid.mk (And.intro hbB (hx.below hb22))
     clear hx hb2 hb22 hbB q0 q1 q2
     go_wp2_with fail
     refine (set_m w1.heap.size 0 g c r e a ns L _ _ _ (HJ.out.1.later K2.out.1) hpg K2.out.2 hec har).mono ?_
     rintro e9 w3 ⟨rfl, hM3, hgr3, -⟩
     have K3 := Hid.mk (And.intro hM3 (grown_trans (grown_below HJ.out.2.1 K2.out.1) hgr3))
     clear hM3 hgr3
     go_wp2_with fail
     go_roundw
     case measure => simp [intOf]; omega
     case rel =>
      refine ⟨e + 1, _, by omega, by go_num, Hid.mk ⟨K3.out.1, K3.out.2, fun i j hi hj hd => ?_⟩⟩
      rw [ent_set ns c r HJ.out.1.len e a i j _ hec har hj]
      by_cases hij : i = e ∧ j = a
      ·obtain ⟨rfl, rfl⟩ := hij
       rw [if_pos ⟨rfl, rfl⟩]
       rfl
      ·rw [if_neg hij]
       exact HJ.out.2.2 i j hi hj (by omega)
    ·have hei : ¬ (e : Int) < (c : Int) := by omega
     go_wp2_with fail
     go_roundw
     case measure => simp [intOf]; omega
     case rel => exact ⟨a + 1, ns, by omega, by go_num, Hid.mk ⟨HJ.out.1, HJ.out.2.1, fun i j hi hj hd => HJ.out.2.2 i j hi hj (by omega)⟩⟩
  ·have hai : ¬ (a : Int) < (r : Int) := by omega
   have hR : wo.heap[w.heap.size + 1]? = some (.cells #[.int .i64 0, .int .i64 0, .slice none 0 0] 56 (0, 0)) := ((HI.out.2.1.block _ (by omega) (fun e => by injection e with e; omega)).trans (K1.out.2.1.block _ (by omega))).trans K0.out.2.2
   have r0 : wo.cell? ⟨w.heap.size + 1, 0, none⟩ = some (.int .i64 0) := by simp [World.cell?, hR]
   have r1 : wo.cell? ⟨w.heap.size + 1, 1, none⟩ = some (.int .i64 0) := by simp [World.cell?, hR]
   have r2 : wo.cell? ⟨w.heap.size + 1, 2, none⟩ = some (.slice none 0 0) := by simp [World.cell?, hR]
   have f0 : ∀ o, wo.frozen? ⟨w.heap.size + 1, o, none⟩ = false := fun o => by simp [World.frozen?, hR]
   have HT : Hid (Ty wo (w.heap.size + 1) 56) := Hid.mk ⟨_, _, hR⟩
   obtain ⟨s0, s1, s2⟩ := HI.out.1.tri
   clear hR
   go_wp2_with fail
   refine bodyPost_ret (v := .agg #[.int .i64 c, .int .i64 r, .slice (some ⟨g, 0, none⟩) (c * r) (c * r)]) ?_ rfl ?_
   ·(simp [results, Tryd.results41, go_sem, r0, r1, r2]; done)
   ·have h3 := set3 wo (w.heap.size + 1) HT.out (by decide) (.int .i64 c) (.int .i64 r) (.slice (some ⟨g, 0, none⟩) (c * r) (c * r))
    have hbo : Below w.heap.size w wo := (K0.out.1.trans (K1.out.2.1.mono (by omega))).trans (below_of_grown HI.out.2.1 (by omega) (by omega))
    exact ⟨g, rfl, by omega, ms, HI.out.1.grid.besides h3.2 h3.1 (by omega), fun i j hi hj => HI.out.2.2 i j hi hj (by omega), hbo.trans (below_of_grown h3.2 (by omega) hbo.size)⟩
theorem flip_any (v : Value) (r c : Nat) (zs : List Int) (L : Nat) (w : World) (hm : IsM w v r c zs L) :
 Calls Tryd.prog 41 #[v] w fun e w' => ∃ x ms, e = .returned x ∧ IsM w' x c r ms L ∧ (∀ i j, i < c → j < r → ent r ms i j = ent c zs j i) ∧ Below w.heap.size w w' := by
 refine (flip_new v r c zs L w hm).mono ?_
 rintro e w' ⟨g, ms, rfl, -, hG, hP, hb⟩
 exact ⟨_, ms, rfl, ⟨hm.2.1, hm.1, _, rfl, hG⟩, hP, hb⟩
open Go.RowKit
open Go.RowKit
theorem Grid.at2 {w : World} {ao : Option Addr} {n cap L : Nat} {zs : List Int} (h : Grid w (.slice ao n cap) n zs L) (k : Nat) (hk : k < n) : ∃ g nb bo m ecap, ao = some ⟨g, 0, none⟩ ∧ w.cell? ⟨g, k * 2, none⟩ = some (.bool nb) ∧ w.cell? ⟨g, k * 2 + 1, none⟩ = some (.slice bo m ecap) ∧ IsI w (.agg #[.bool nb, .slice bo m ecap]) (zs.getD k 0) L := by
 obtain ⟨ao', cap', e, -, -, hao⟩ := h.shape
 obtain ⟨g, hg⟩ := hao k hk
 simp only [Value.slice.injEq] at e
 obtain ⟨rfl, -, rfl⟩ := e
 subst hg
 obtain ⟨nb, bo, m, ecap, c1, c2, hI⟩ := h.cell k hk
 rw [Nat.mul_comm 2] at c1 c2
 exact ⟨g, nb, bo, m, ecap, rfl, c1, c2, hI⟩
def Sp (H : Nat → Nat → Int) (k c : Nat) (v : Nat → Int) : Prop := ∃ x : Nat → Int, ∀ j, j < c → v j = sm (fun l => x l * H l j) k
theorem Sp.sub {H : Nat → Nat → Int} {k c : Nat} {v w : Nat → Int} (h : Sp H k c v) (h' : Sp H k c w) : Sp H k c (fun j => v j - w j) := by
 obtain ⟨x, hx⟩ := h
 obtain ⟨y, hy⟩ := h'
 refine ⟨fun l => x l - y l, fun j hj => ?_⟩
 show v j - w j = _
 rw [hx j hj, hy j hj, sm_sub]
 exact sm_congr k (fun l _ => by grind)
theorem Sp.row (H : Nat → Nat → Int) {k b : Nat} (c : Nat) (hb : b < k) : Sp H k c (H b) :=
 ⟨fun l => if l = b then 1 else 0, fun j _ => by
   rw [sm_one k b hb (fun l _ hne => by show (if l = b then (1 : Int) else 0) * H l j = 0; rw [if_neg hne]; simp)]
   simp⟩
theorem first_ne (x : Nat → Int) (k : Nat) : (∀ l, l < k → x l = 0) ∨ ∃ b, b < k ∧ x b ≠ 0 ∧ ∀ l, l < b → x l = 0 := by
 induction k with
 | zero => exact .inl (fun l h => by omega)
 | succ k ih =>
   rcases ih with h | ⟨b, h1, h2, h3⟩
   ·by_cases hk : x k = 0
    ·exact .inl (fun l hl => by
      by_cases e : l = k
      ·rw [e]; exact hk
      ·exact h l (by omega))
    ·exact .inr ⟨k, by omega, hk, h⟩
   ·exact .inr ⟨b, by omega, h2, h3⟩
theorem EchSt.lead {r c k : Nat} {pc : Nat → Nat} {H : Nat → Nat → Int} (h : EchSt r c k pc H) {v : Nat → Int} (hv : Sp H k c v) : (∀ j, j < c → v j = 0) ∨ ∃ b, b < k ∧ (∀ j, j < pc b → v j = 0) ∧ v (pc b) ≠ 0 ∧ H b (pc b) ∣ v (pc b) := by
 obtain ⟨x, hx⟩ := hv
 rcases first_ne x k with h0 | ⟨b, h1, h2, h3⟩
 ·exact .inl (fun j hj => by rw [hx j hj]; exact sm_zero k (fun l hl => by rw [h0 l hl]; simp))
 ·have hle := h.le
  have hcb := h.col b h1
  have hz : ∀ j, j < pc b → v j = 0 := fun j hj => by
   rw [hx j (by omega)]
   refine sm_zero k (fun l hl => ?_)
   by_cases hlb : l < b
   ·rw [h3 l hlb]; simp
   ·have : pc b ≤ pc l := by
     by_cases e : l = b
     ·rw [e]; exact Nat.le_refl _
     ·exact Nat.le_of_lt (h.up b l (by omega) hl)
    rw [h.left l hl j (by omega)]; simp
  have hp : v (pc b) = x b * H b (pc b) := by
   rw [hx _ hcb]
   refine sm_one k b h1 (fun l hl hne => ?_)
   by_cases hlb : l < b
   ·rw [h3 l hlb]; simp
   ·rw [h.below b h1 l (by omega) (by omega)]; simp
  have hpos := h.piv b h1
  refine .inr ⟨b, h1, hz, ?_, ?_⟩
  ·rw [hp]
   intro e
   rcases Int.mul_eq_zero.1 e with e | e
   ·exact h2 e
   ·omega
  ·rw [hp]; exact Int.dvd_mul_left _ _
def exV (H : Nat → Nat → Int) (pc : Nat → Nat) (v : Nat → Int) : Nat → Nat → Int
 | 0 => v
 | t + 1 => fun j => exV H pc v t j - H t j * (exV H pc v t (pc t)).fdiv (H t (pc t))
def exQ (H : Nat → Nat → Int) (pc : Nat → Nat) (v : Nat → Int) (t : Nat) : Int := (exV H pc v t (pc t)).fdiv (H t (pc t))
theorem exV_sum (H : Nat → Nat → Int) (pc : Nat → Nat) (v : Nat → Int) (j : Nat) : ∀ t, v j = exV H pc v t j + sm (fun l => exQ H pc v l * H l j) t := by
 intro t
 induction t with
 | zero => simp [exV, sm]
 | succ t ih =>
   rw [exV, sm, ih]
   unfold exQ
   grind
theorem ex_back {H : Nat → Nat → Int} {pc : Nat → Nat} {v : Nat → Int} {k c : Nat} (h : ∀ j, j < c → exV H pc v k j = 0) (j : Nat) (hj : j < c) : v j = sm (fun l => exQ H pc v l * H l j) k := by
 have := exV_sum H pc v j k
 rw [h j hj] at this
 omega
theorem fdiv_just (x y : Int) (hy : y ≠ 0) : (x * y).fdiv y = x := by
 have h := rem_dvd (x := x * y) hy (Int.dvd_mul_left _ _)
 unfold rem at h
 have h2 : y * (x - (x * y).fdiv y) = 0 := by grind
 rcases Int.mul_eq_zero.1 h2 with h3 | h3
 ·exact absurd h3 hy
 ·omega
theorem EchSt.ex_span {r c k : Nat} {pc : Nat → Nat} {H : Nat → Nat → Int} (h : EchSt r c k pc H) {v : Nat → Int} (hv : Sp H k c v) (j : Nat) (hj : j < c) : exV H pc v k j = 0 := by
 obtain ⟨x, hx⟩ := hv
 have hle := h.le
 have key : ∀ t, t ≤ k → ∀ j, j < c → exV H pc v t j = sm (fun l => (if l < t then 0 else x l) * H l j) k := by
  intro t
  induction t with
  | zero => intro _ j hj; rw [exV, hx j hj]; exact sm_congr k (fun l _ => by rw [if_neg (by omega)])
  | succ t ih =>
    intro ht j hj
    have hc := h.col t (by omega)
    have hp := h.piv t (by omega)
    have e1 : exV H pc v t (pc t) = x t * H t (pc t) := by
     rw [ih (by omega) _ hc]
     rw [sm_one k t (by omega) (fun l hl hne => ?_)]
     ·rw [if_neg (Nat.lt_irrefl t)]
     ·show (if l < t then 0 else x l) * H l (pc t) = 0
      by_cases hlt : l < t
      ·rw [if_pos hlt]; simp
      ·rw [h.below t (by omega) l (by omega) (by omega)]; simp
    show exV H pc v t j - H t j * (exV H pc v t (pc t)).fdiv (H t (pc t)) = _
    rw [e1, fdiv_just _ _ (by omega), ih (by omega) j hj]
    have e2 : H t j * x t = sm (fun l => (if l = t then x t else 0) * H l j) k := by
     rw [sm_one k t (by omega) (fun l hl hne => by show (if l = t then x t else 0) * H l j = 0; rw [if_neg hne]; simp)]
     rw [if_pos rfl]; grind
    rw [e2, sm_sub]
    refine sm_congr k (fun l hl => ?_)
    by_cases hlt : l < t
    ·rw [if_pos hlt, if_neg (by omega), if_pos (by omega)]; simp
    ·by_cases he : l = t
     ·subst he; rw [if_neg (Nat.lt_irrefl l), if_pos rfl, if_pos (by omega)]; omega
     ·rw [if_neg hlt, if_neg he, if_neg (by omega)]; simp
 rw [key k (Nat.le_refl _) j hj]
 exact sm_zero k (fun l hl => by rw [if_pos hl]; simp)
theorem span_rows {r c k : Nat} {pc : Nat → Nat} {A H U W : Nat → Nat → Int} (h : EchSt r c k pc H) (hE : EInv A H U W r c) : (∀ i, i < r → Sp H k c (A i)) ∧ (∀ i, i < r → Sp A r c (H i)) := by
 have cut : ∀ (f : Nat → Int) n m, m ≤ n → (∀ l, m ≤ l → l < n → f l = 0) → sm f n = sm f m := by
  intro f n
  induction n with
  | zero => intro m hm _; rw [show m = 0 from by omega]
  | succ n ih =>
    intro m hm hz
    by_cases e : m = n + 1
    ·rw [e]
    ·rw [sm, hz n (by omega) (by omega), ih m (by omega) (fun l a b => hz l a (by omega))]; omega
 refine ⟨fun i hi => ⟨W i, fun j hj => ?_⟩, fun i hi => ⟨U i, fun j hj => ?_⟩⟩
 ·rw [← hE.wh i j hi hj, dot_sm]
  exact cut _ r k h.le (fun l a b => by rw [h.rest l a b j hj]; simp)
 ·rw [← hE.ua i j hi hj, dot_sm]
theorem Sp.trans {H A : Nat → Nat → Int} {k r c : Nat} {v : Nat → Int} (hv : Sp H k c v) (hH : ∀ i, i < k → Sp A r c (H i)) : Sp A r c v := by
 obtain ⟨x, hx⟩ := hv
 have key : ∀ n, n ≤ k → Sp A r c (fun j => sm (fun l => x l * H l j) n) := by
  intro n
  induction n with
  | zero => intro _; exact ⟨fun _ => 0, fun j _ => (sm_zero r (fun l _ => by simp)).symm⟩
  | succ n ih =>
    intro hn
    obtain ⟨y, hy⟩ := ih (by omega)
    obtain ⟨u, hu⟩ := hH n (by omega)
    refine ⟨fun l => y l + x n * u l, fun j hj => ?_⟩
    have e1 : sm (fun l => x l * H l j) n = sm (fun l => y l * A l j) r := hy j hj
    show sm (fun l => x l * H l j) (n + 1) = _
    rw [sm, e1, hu j hj]
    have := sm_lin 1 (x n) (fun l => y l * A l j) (fun l => u l * A l j) r
    rw [show sm (fun l => y l * A l j) r + x n * sm (fun l => u l * A l j) r = 1 * sm (fun l => y l * A l j) r + x n * sm (fun l => u l * A l j) r from by omega, ← this]
    exact sm_congr r (fun l _ => by grind)
 obtain ⟨y, hy⟩ := key k (Nat.le_refl _)
 exact ⟨y, fun j hj => by rw [hx j hj]; exact hy j hj⟩
def HasF (A : Nat → Nat → Int) (r c : Nat) : Prop := ∃ k pc H U W, EchSt r c k pc H ∧ EInv A H U W r c
open Go.RowKit
end Go.Proofs.YtfjbijpagaipnabDoor
