import Derived.Test.YtfjbijpagaipnabGreatDoorT17
import Derived.Test.YtfjbijpagaipnabGreatDoorT13
import Derived.Test.YtfjbijpagaipnabGreatDoorT08
import Derived.Test.YtfjbijpagaipnabGreatDoorT10
import Derived.Test.YtfjbijpagaipnabGreatDoorT16
import Derived.Test.YtfjbijpagaipnabGreatDoorT05
import Derived.Test.YtfjbijpagaipnabGreatDoorT09
import Derived.Deep.CutRange
import Derived.Deep.LoopGhost
namespace Go.Proofs.YtfjbijpagaipnabGreatDoor.R
structure Ech (g : Nat → Nat → Int) (r c p : Nat) (pc : Nat → Nat) : Prop where
 le : p ≤ r
 col : ∀ b, b < p → pc b < c
 up : ∀ a b, a < b → b < p → pc a < pc b
 piv : ∀ b, b < p → g b (pc b) ≠ 0
 below : ∀ a b, b < p → b < a → a < r → g a (pc b) = 0
 rest : ∀ a, p ≤ a → a < r → ∀ j, j < c → g a j = 0
theorem cols_mem {pc : Nat → Nat} {p : Nat} (up : ∀ a b, a < b → b < p → pc a < pc b) : ∀ n N, n ≤ p → (∀ b, b < n → pc b < N) → (List.range n).map pc ∈ chosenL n N := by
 intro n
 induction n with
 | zero => intro N _ _; simp [chosenL]
 | succ n ih =>
   intro N hn hb
   rw [List.range_succ, List.map_append, List.map_singleton]
   exact chosenL_snoc (ih (pc n) (by omega) (fun b hb' => up b n hb' (by omega))) (hb n (by omega))
theorem sumF_one (n : Nat) (g : Nat → Int) (h : ∀ k, 0 < k → k < n + 1 → g k = 0) : sumF (n + 1) g = g 0 := by
 induction n with
 | zero => simp [sumF]
 | succ n ih => rw [sumF, ih (fun k h1 h2 => h k h1 (by omega)), h (n + 1) (by omega) (by omega)]; simp
theorem tri {g : Nat → Nat → Int} {r c p : Nat} {pc : Nat → Nat} (h : Ech g r c p pc) : ∀ n o, o + n ≤ p → mv ((List.range' o n).map g) ((List.range' o n).map pc) ≠ 0 := by
 intro n
 induction n with
 | zero => intro o _; simp [mv]
 | succ n ih =>
   intro o ho
   rw [List.range'_succ, List.map_cons, List.map_cons, mv, List.length_cons, sumF_one _ _ (fun k hk0 hk => ?_)]
   ·have e : signed 0 (g o ((pc o :: (List.range' (o + 1) n).map pc).getD 0 0) * mv ((List.range' (o + 1) n).map g) ((pc o :: (List.range' (o + 1) n).map pc).eraseIdx 0)) = g o (pc o) * mv ((List.range' (o + 1) n).map g) ((List.range' (o + 1) n).map pc) := by simp [signed]
    rw [e]
    intro h0
    rcases Int.mul_eq_zero.1 h0 with h1 | h1
    ·exact h.piv o (by omega) h1
    ·exact ih (o + 1) (by omega) h1
   ·have hz : mv ((List.range' (o + 1) n).map g) ((pc o :: (List.range' (o + 1) n).map pc).eraseIdx k) = 0 := by
     refine mv_zero_col (pc o) _ _ (fun v hv => ?_) ?_ ?_
     ·obtain ⟨a, ha, rfl⟩ := List.mem_map.1 hv
      have ha' := List.mem_range'_1.1 ha
      have := h.le
      exact h.below a o (by omega) (by omega) (by omega)
     ·match k, hk0 with
      | k + 1, _ => simp
     ·rw [List.length_eraseIdx, if_pos (by simpa using hk)]
      simp
    rw [hz]
    unfold signed; split <;> simp
theorem ech_cols {g : Nat → Nat → Int} {r c p : Nat} {pc : Nat → Nat} (h : Ech g r c p pc) : p ≤ c := by
 have key : ∀ b, b < p → b ≤ pc b := by
  intro b
  induction b with
  | zero => intro _; omega
  | succ b ih => intro hb; have h1 := ih (by omega); have h2 := h.up b (b + 1) (by omega) hb; omega
 rcases Nat.eq_zero_or_pos p with h0 | h0
 ·omega
 ·have h1 := key (p - 1) (by omega)
  have h2 := h.col (p - 1) (by omega)
  omega
theorem ech_rank {f g : Nat → Nat → Int} {r c p : Nat} {pc : Nat → Nat} (h : Ech g r c p pc) (hfg : ∀ m, AllV f r c m ↔ AllV g r c m) (hr : r ≤ 4) (_hc : c ≤ 4) : RankIs f r c p := by
 refine ⟨h.le, ech_cols h, fun i hi h0 => ?_, ?_⟩
 ·have hle := h.le
  have h1 := (hfg (i + 1)).1 ((all_div f r c (i + 1) (by omega)).1 h0)
  have h2 := h1 (List.range (i + 1)) List.length_range (fun x hx => by have := List.mem_range.1 hx; omega) ((List.range (i + 1)).map pc) (cols_mem h.up (i + 1) c (by omega) (fun b hb => h.col b (by omega)))
  have h3 := tri h (i + 1) 0 (by omega)
  rw [← List.range_eq_range'] at h3
  exact h3 h2
 ·by_cases hpr : p = r
  ·exact .inl hpr
  ·by_cases hpc : p = c
   ·exact .inr (.inl hpc)
   ·refine .inr (.inr ?_)
    have hle := h.le
    rw [all_div f r c (p + 1) (by omega), hfg, ← all_div g r c (p + 1) (by omega)]
    unfold divF
    rw [gA_zero]
    refine ⟨rfl, fun R hR C hC => ?_⟩
    obtain ⟨Q, last, rfl, hQ, hlast, hlr⟩ := chosenL_last hR
    rw [mv_minor, List.map_append, List.map_singleton]
    have hCm := chosenL_mem (p + 1) c C hC
    have hQm := chosenL_mem p last Q hQ
    exact mv_zero_row (g last) [] (Q.map g) C (fun x hx => h.rest last hlast hlr x (hCm.2 x hx)) (by simp [hCm.1, hQm.1])
theorem mv_at {v v' : Nat → Int} (ys : List (Nat → Int)) : ∀ (xs : List (Nat → Int)) (C : List Nat), (∀ x ∈ C, v x = v' x) → mv (xs ++ v :: ys) C = mv (xs ++ v' :: ys) C := by
 intro xs
 induction xs with
 | nil =>
   intro C hC
   rw [List.nil_append, List.nil_append, mv, mv]
   refine sumF_congr (fun k hk => ?_)
   rw [hC (C.getD k 0) (by rw [List.getD, List.getElem?_eq_getElem hk]; exact List.getElem_mem _)]
 | cons x xs ih =>
   intro C hC
   rw [List.cons_append, List.cons_append, mv, mv]
   refine sumF_congr (fun k _ => ?_)
   rw [ih (C.eraseIdx k) (fun y hy => hC y (List.mem_of_mem_eraseIdx hy))]
theorem mv_sum (u : Nat → Int) (f : Nat → Nat → Int) (xs ys : List (Nat → Int)) (C : List Nat) : ∀ n, mv (xs ++ (fun j => sm (fun k => u k * f k j) n) :: ys) C = sm (fun k => u k * mv (xs ++ f k :: ys) C) n := by
 intro n
 induction n with
 | zero =>
   have := mv_lin 0 0 (fun _ => 0) (fun _ => 0) ys xs C
   rw [Int.zero_mul, Int.zero_mul, Int.add_zero] at this
   rw [sm]
   rw [← this]
   exact mv_at ys xs C (fun x _ => by simp [sm])
 | succ n ih =>
   have h := mv_lin 1 (u n) (fun j => sm (fun k => u k * f k j) n) (f n) ys xs C
   rw [ih] at h
   rw [sm, show sm (fun k => u k * mv (xs ++ f k :: ys) C) n + u n * mv (xs ++ f n :: ys) C = 1 * sm (fun k => u k * mv (xs ++ f k :: ys) C) n + u n * mv (xs ++ f n :: ys) C from by omega, ← h]
   exact mv_at ys xs C (fun x _ => by rw [sm]; omega)
theorem sm_dvd {d : Int} {f : Nat → Int} (n : Nat) (h : ∀ k, k < n → d ∣ f k) : d ∣ sm f n := by
 induction n with
 | zero => exact Int.dvd_zero d
 | succ n ih => rw [sm]; exact Int.dvd_add (ih (fun k hk => h k (by omega))) (h n (by omega))
def CombOf (f : Nat → Nat → Int) (r : Nat) (C : List Nat) (v : Nat → Int) : Prop := ∃ u : Nat → Int, ∀ x ∈ C, v x = sm (fun k => u k * f k x) r
theorem comb_dvd {d : Int} {f : Nat → Nat → Int} {r : Nat} {C : List Nat} (h : AllD d f r C) : ∀ (vs : List (Nat → Int)), (∀ v ∈ vs, CombOf f r C v) → ∀ (xs : List Nat), xs.length + vs.length = C.length → (∀ x ∈ xs, x < r) → d ∣ mv (xs.map f ++ vs) C := by
 intro vs
 induction vs with
 | nil =>
   intro _ xs hl hx
   rw [List.append_nil]
   exact h xs (by simpa using hl) hx
 | cons v vs ih =>
   intro hv xs hl hx
   obtain ⟨u, hu⟩ := hv v (by simp)
   rw [mv_at vs (xs.map f) C hu, mv_sum u f (xs.map f) vs C r]
   refine sm_dvd r (fun k hk => Int.dvd_trans ?_ (Int.dvd_mul_left _ _))
   have := ih (fun v hv' => hv v (by simp [hv'])) (xs ++ [k]) (by simp at hl ⊢; omega) (fun x hx' => by
    rcases List.mem_append.1 hx' with h1 | h1
    ·exact hx x h1
    ·simp at h1; omega)
   simpa using this
theorem allD_comb {d : Int} {f g : Nat → Nat → Int} {r r' : Nat} {C : List Nat} (h : AllD d f r C) (hg : ∀ i, i < r' → CombOf f r C (g i)) : AllD d g r' C := by
 intro R hR hx
 have := comb_dvd h (R.map g) (fun v hv => by
  obtain ⟨i, hi, rfl⟩ := List.mem_map.1 hv
  exact hg i (hx i hi)) [] (by simpa using hR) (fun x hx => by simp at hx)
 simpa using this
theorem comb_of_dot {f g u : Nat → Nat → Int} {r c i : Nat} {C : List Nat} (hC : ∀ x ∈ C, x < c) (h : ∀ j, j < c → dot u f i j r = g i j) : CombOf f r C (g i) :=
 ⟨u i, fun x hx => by rw [← h x (hC x hx), dot_sm]⟩
theorem chosenL_lt {m c : Nat} {C : List Nat} (h : C ∈ chosenL m c) : C.length = m ∧ ∀ x ∈ C, x < c := by
 have := chosenL_mem m c C h
 exact ⟨this.1, fun x hx => by
  obtain ⟨i, hi, he⟩ := List.mem_iff_getElem.1 hx
  have h2 := this.2
  first
   | exact h2 x hx
   | (rw [← he]; exact h2 i hi)⟩
theorem allV_einv {A H U W : Nat → Nat → Int} {r c : Nat} (h : EInv A H U W r c) (m : Nat) : AllV A r c m ↔ AllV H r c m := by
 rw [allV_iff, allV_iff]
 constructor
 ·intro hA C hC
  exact allD_comb (hA C hC) (fun i hi => comb_of_dot (chosenL_lt hC).2 (fun j hj => h.ua i j hi hj))
 ·intro hH C hC
  exact allD_comb (hH C hC) (fun i hi => comb_of_dot (chosenL_lt hC).2 (fun j hj => h.wh i j hi hj))
end Go.Proofs.YtfjbijpagaipnabGreatDoor.R
namespace Go.Proofs.YtfjbijpagaipnabGreatDoor
open Go.RowKit R
theorem EchSt.ech {r c k : Nat} {pc : Nat → Nat} {H : Nat → Nat → Int} (h : EchSt r c k pc H) : Ech H r c k pc :=
 ⟨h.le, h.col, h.up, fun b hb => by have := h.piv b hb; omega, fun a b hb hba har => h.below b hb a hba har, h.rest⟩
theorem ech_rankIs {r c k : Nat} {pc : Nat → Nat} {A H U W : Nat → Nat → Int} (h : EchSt r c k pc H) (hE : EInv A H U W r c) (hr : r ≤ 4) (hc : c ≤ 4) : RankIs A r c k :=
 ech_rank h.ech (fun m => allV_einv hE m) hr hc
theorem IsM.slice {w : World} {s : Value} {r c L : Nat} {zs : List Int} (h : IsM w (.agg #[.int .i64 r, .int .i64 c, s]) r c zs L) : ∃ ao cap, s = .slice ao (r * c) cap := by
 obtain ⟨_, _, sl, h2, h3⟩ := h
 obtain ⟨ao, cap, rfl, -⟩ := h3.shape
 simp only [Value.agg.injEq, Array.mk.injEq, List.cons.injEq, and_true, true_and] at h2
 exact ⟨ao, cap, h2⟩
theorem FitsP.ent {r c : Nat} {zs : List Int} (h : FitsP r c zs) (i j : Nat) (hi : i < r) (hj : j < c) : (ent c zs i j).natAbs < 2 ^ 48 := h.2.2 _ (idx_lt hi hj)
theorem size48 {r c : Nat} (hr : r ≤ 4) (hc : c ≤ 4) : hB r 48 c ≤ 32 * 4000 ∧ uB r 48 c ≤ 32 * 4000 := by
 have key : ∀ r : Fin 5, ∀ c : Fin 5, hB r.val 48 c.val ≤ 32 * 4000 ∧ uB r.val 48 c.val ≤ 32 * 4000 := by decide
 exact key ⟨r, by omega⟩ ⟨c, by omega⟩
theorem gech_fit (v : Value) (r c : Nat) (zs : List Int) (L : Nat) (w : World) (hm : IsM w v r c zs L) (hr : r ≤ 4) (hc : c ≤ 4) (hz : ∀ i j, i < r → j < c → (ent c zs i j).natAbs < 2 ^ 48) (hL : L ≤ 4000) :
 Calls Tryz.prog 37 #[v] w fun e w' => EchOut w w' e r c zs 48 4000 :=
 gech_any v r c zs 48 4000 w (hm.mono hL) (by omega) (by omega) hz (by omega) (size48 hr hc).1 (size48 hr hc).2
open Go.RowKit
structure EchIs (r c : Nat) (zs : List Int) (k : Nat) (pc : Nat → Nat) (hs us ws : List Int) : Prop where
 lh : hs.length = r * c
 lu : us.length = r * r
 lw : ws.length = r * r
 st : EchSt r c k pc (ent c hs)
 inv : EInv (ent c zs) (ent c hs) (ent r us) (ent r ws) r c
 eb : EB (ent c hs) (ent r us) (ent r ws) r c k 48
 run : EcTo r c (ent c zs) c k (e3 r c hs us ws)
def EchRes (r c : Nat) (zs : List Int) (xs : List (Nat × Nat × List Int)) : Prop := ∃ k pc hs us ws, xs = [(r, c, hs), (r, r, us), (r, r, ws)] ∧ EchIs r c zs k pc hs us ws
theorem IsM.len {w : World} {v : Value} {r c L : Nat} {zs : List Int} (h : IsM w v r c zs L) : zs.length = r * c := by
 obtain ⟨_, _, sl, _, h3⟩ := h
 exact h3.1
theorem MRow.three {w : World} {g : Nat} {x y z : Nat × Nat × List Int} {o1 o2 o3 : Option Addr} {m1 m2 m3 c1 c2 c3 : Nat} {t : TypeId} (hg : w.heap[g]? = some (.cells #[.int .i64 (x.1 : Nat), .int .i64 (x.2.1 : Nat), .slice o1 m1 c1, .int .i64 (y.1 : Nat), .int .i64 (y.2.1 : Nat), .slice o2 m2 c2, .int .i64 (z.1 : Nat), .int .i64 (z.2.1 : Nat), .slice o3 m3 c3] t (0, 0)))
 (h1 : IsM w (.agg #[.int .i64 (x.1 : Nat), .int .i64 (x.2.1 : Nat), .slice o1 m1 c1]) x.1 x.2.1 x.2.2 200000000) (h2 : IsM w (.agg #[.int .i64 (y.1 : Nat), .int .i64 (y.2.1 : Nat), .slice o2 m2 c2]) y.1 y.2.1 y.2.2 200000000) (h3 : IsM w (.agg #[.int .i64 (z.1 : Nat), .int .i64 (z.2.1 : Nat), .slice o3 m3 c3]) z.1 z.2.1 z.2.2 200000000) : MRow w g [x, y, z] := by
 intro j hj
 match j, hj with
 | 0, _ => exact ⟨o1, m1, c1, by simp [World.cell?, hg], by simp [World.cell?, hg], by simp [World.cell?, hg], h1⟩
 | 1, _ => exact ⟨o2, m2, c2, by simp [World.cell?, hg], by simp [World.cell?, hg], by simp [World.cell?, hg], h2⟩
 | 2, _ => exact ⟨o3, m3, c3, by simp [World.cell?, hg], by simp [World.cell?, hg], by simp [World.cell?, hg], h3⟩
set_option maxRecDepth 100000 in
set_option maxHeartbeats 4000000 in
theorem echelon_held (b : Nat) (h : Int) (ms : List Hm) (nx : Nat) (w : World) (hst : Held w b ms nx) (hnx : nx < 1000000 - 5) :
 Calls Tryz.prog 27 #[.pointer (some ⟨b, 0, none⟩), .int .i64 h] w fun x w' => ∃ v e ok xs, x = .returned (.tuple #[v, .int .i64 e]) ∧ ManyRel 3 EchRes ms h ok e xs ∧ ManyOut w w' b 3 nx ms ok xs v := by
 have H := Hid.mk hst
 have hm24 := hst.1
 have hbl := hst.lt
 clear hst
 go_enter Tryz.func27, Tryz.ntmps27
 go_wp2_with fail
 refine (find_held b h ms nx _ H.out).mono ?_
 rintro e w1 ⟨⟨r, c, ao, n, cap, ok, rfl, hf⟩, hb1⟩
 have hbA := (Below.refl w1.heap.size w1).alloc (Nat.le_refl _) (.cells #[.int .i64 r, .int .i64 c, .slice ao n cap] 66)
 have hbw := hb1.trans (hbA.mono hb1.size)
 have hw1 := hb1.size
 rcases id hf with ⟨rfl, i, hd, zs, hi, hgi, hgh, hM⟩ | ⟨rfl, hno⟩
 ·have K1 := Hid.mk (And.intro (hM.below hbA) (And.intro hbw (And.intro hi (And.intro hgi hgh))))
  clear hf hM hb1 hbA hbw hi hgi hgh
  go_wp2_with fail
  refine (tooBig_any _ r c zs 200000000 _ K1.out.1 (by omega)).mono ?_
  rintro e w2 ⟨fb, rfl, hfo, hb2⟩
  have hs2 : w1.heap.size + 1 ≤ w2.heap.size := by have := hb2.size; simpa using this
  have m0 : w2.cell? ⟨w1.heap.size, 0, none⟩ = some (.int .i64 r) := cell_later hb2 (by simp)
  have m1 : w2.cell? ⟨w1.heap.size, 1, none⟩ = some (.int .i64 c) := cell_later hb2 (by simp)
  have m2 : w2.cell? ⟨w1.heap.size, 2, none⟩ = some (.slice ao n cap) := cell_later hb2 (by simp)
  have K2 := Hid.mk (And.intro (K1.out.1.below hb2) (And.intro (K1.out.2.1.trans (hb2.mono K1.out.2.1.size)) hfo))
  clear hb2 hfo
  cases fb
  ·have HNF : Hid (¬ FitsP r c zs) := Hid.mk (fun h => by have := K2.out.2.2.2 h; cases this)
   go_wp2_with fail
   go_ret2
   exact ⟨_, _, false, [], rfl, .inr ⟨i, hd, r, c, zs, K1.out.2.2.1, K1.out.2.2.2.1, K1.out.2.2.2.2, .inl ⟨HNF.out, rfl, rfl, rfl⟩⟩, .inl ⟨rfl, rfl, H.out.below K2.out.2.1, Fr.of_below K2.out.2.1⟩⟩
  ·have HFP : Hid (FitsP r c zs) := Hid.mk (K2.out.2.2.1 rfl)
   go_wp2_with fail
   refine (room_held b ms nx _ (H.out.below K2.out.2.1)).mono ?_
   rintro e w' ⟨rfl, rfl⟩
   obtain ⟨rm, hrm⟩ : ∃ rm, rm = ms.countP Option.isNone := ⟨_, rfl⟩
   have HRM := Hid.mk hrm
   rw [← hrm]
   clear hrm
   by_cases h0 : rm < 3
   ·have h0' : ((rm : Int) < 3) := by omega
    go_wp2_with fail
    go_ret2
    exact ⟨_, _, false, [], rfl, .inr ⟨i, hd, r, c, zs, K1.out.2.2.1, K1.out.2.2.2.1, K1.out.2.2.2.2, .inr (.inl ⟨HFP.out, by rw [← HRM.out]; exact h0, rfl, rfl, rfl⟩)⟩, .inl ⟨rfl, rfl, H.out.below K2.out.2.1, Fr.of_below K2.out.2.1⟩⟩
   ·have h0' : ¬ ((rm : Int) < 3) := by omega
    go_wp2_with fail
    refine (gech_fit _ r c zs 2 _ (K2.out.1.tight HFP.out) HFP.out.1 HFP.out.2.1 HFP.out.ent (by omega)).mono ?_
    rintro e w3 ⟨v3, k, pc, hs, us, ws, rfl, ⟨sH, sU, sW, rfl, m3, m4, m5⟩, hk, hE, hEB, hb3, hto⟩
    have hIs : EchIs r c zs k pc hs us ws := ⟨m3.len, m4.len, m5.len, hk, hE, hEB, hto⟩
    obtain ⟨oH, cH, rfl⟩ := m3.slice
    obtain ⟨oU, cU, rfl⟩ := m4.slice
    obtain ⟨oW, cW, rfl⟩ := m5.slice
    have hb03 := K2.out.2.1.trans (hb3.mono K2.out.2.1.size)
    have K3 := Hid.mk (And.intro m3 (And.intro m4 (And.intro m5 (And.intro hIs hb03))))
    have hw3 := hb3.size
    clear hk hE hb3 m0 m1 m2 m3 m4 m5 hEB hto hIs hb03
    go_wp2_with fail
    obtain ⟨X, hX⟩ : ∃ X, X = (w3.alloc (.cells #[.int .i64 r, .int .i64 c, .slice oH (r * c) cH, .int .i64 r, .int .i64 r, .slice oU (r * r) cU, .int .i64 r, .int .i64 r, .slice oW (r * r) cW, .int .i64 k] 74)).alloc (.cells #[.int .i64 r, .int .i64 c, .slice oH (r * c) cH, .int .i64 r, .int .i64 r, .slice oU (r * r) cU, .int .i64 r, .int .i64 r, .slice oW (r * r) cW] 66) := ⟨_, rfl⟩
    rw [← hX]
    have hbX : Below w3.heap.size w3 X := by rw [hX]; exact ((Below.refl _ _).alloc (Nat.le_refl _) _).alloc (by simp) _
    have hsX : X.heap.size = w3.heap.size + 1 + 1 := by rw [hX]; simp
    have hgX : X.heap[w3.heap.size + 1]? = some (.cells #[.int .i64 r, .int .i64 c, .slice oH (r * c) cH, .int .i64 r, .int .i64 r, .slice oU (r * r) cU, .int .i64 r, .int .i64 r, .slice oW (r * r) cW] 66 (0, 0)) := by
     rw [hX]
     have := heap_alloc_new (w3.alloc (.cells #[.int .i64 r, .int .i64 c, .slice oH (r * c) cH, .int .i64 r, .int .i64 r, .slice oU (r * r) cU, .int .i64 r, .int .i64 r, .slice oW (r * r) cW, .int .i64 k] 74)) (.cells #[.int .i64 r, .int .i64 c, .slice oH (r * c) cH, .int .i64 r, .int .i64 r, .slice oU (r * r) cU, .int .i64 r, .int .i64 r, .slice oW (r * r) cW] 66)
     simpa using this
    have hbwX := K3.out.2.2.2.2.trans (hbX.mono K3.out.2.2.2.2.size)
    have hrow : MRow X (w3.heap.size + 1) [(r, c, hs), (r, r, us), (r, r, ws)] := MRow.three (x := (r, c, hs)) (y := (r, r, us)) (z := (r, r, ws)) hgX ((K3.out.1.below hbX).mono (by omega)) ((K3.out.2.1.below hbX).mono (by omega)) ((K3.out.2.2.1.below hbX).mono (by omega))
    have hw03 := K3.out.2.2.2.2.size
    have HX := Hid.mk (And.intro hbwX hrow)
    clear hX hbX hgX hbwX hrow
    refine (keepAll_held b (w3.heap.size + 1) 3 3 [(r, c, hs), (r, r, us), (r, r, ws)] ms nx _ (H.out.below HX.out.1) HX.out.2 rfl (by omega) (by omega) (by omega) (by have := HRM.out; omega) hnx).mono ?_
    rintro e w4 ⟨v4, rfl, hb4, zs4, rfl, k1, k2, k3, k4, k5, k6⟩
    have K4 := Hid.mk (And.intro k1 (And.intro k2 (And.intro k3 (And.intro k4 (And.intro k5 ((Fr.of_below HX.out.1).trans k6))))))
    clear k1 k2 k3 k4 k5 k6
    go_wp2_with fail
    go_ret2
    exact ⟨_, _, true, [(r, c, hs), (r, r, us), (r, r, ws)], rfl, .inr ⟨i, hd, r, c, zs, K1.out.2.2.1, K1.out.2.2.2.1, K1.out.2.2.2.2, .inr (.inr ⟨HFP.out, by have := HRM.out; omega, rfl, rfl, rfl, k, pc, hs, us, ws, rfl, K3.out.2.2.2.1⟩)⟩, .inr ⟨rfl, hb4, zs4, rfl, by have := HX.out.1.size; have := K4.out.1; omega, K4.out.2.1, K4.out.2.2.1, K4.out.2.2.2.1, K4.out.2.2.2.2.1, K4.out.2.2.2.2.2⟩⟩
 ·have KN := Hid.mk (And.intro hno hbw)
  clear hno hbw hb1 hbA hf
  go_wp2_with fail
  go_ret2
  exact ⟨_, _, false, [], rfl, .inl ⟨KN.out.1, rfl, rfl, rfl⟩, .inl ⟨rfl, rfl, H.out.below KN.out.2, Fr.of_below KN.out.2⟩⟩
open Go.RowKit
theorem set3 (w : World) (b : Nat) {t : TypeId} (ht : Ty w b t) (hne : t ≠ 144) (v0 v1 v2 : Value) : KU w (((w.setCell ⟨b, 0, none⟩ v0).setCell ⟨b, 1, none⟩ v1).setCell ⟨b, 2, none⟩ v2) ∧ w.grownBy (((w.setCell ⟨b, 0, none⟩ v0).setCell ⟨b, 1, none⟩ v1).setCell ⟨b, 2, none⟩ v2) (some b) := by
 have k0 := KU.setCell (o := 0) (KU.refl w) ht hne v0
 have t0 := ht.setCell ⟨b, 0, none⟩ v0
 have k1 := KU.setCell (o := 1) k0 t0 hne v1
 have t1 := t0.setCell ⟨b, 1, none⟩ v1
 have k2 := KU.setCell (o := 2) k1 t1 hne v2
 exact ⟨k2, grown_trans (grown_trans (grown_cell _ _ _ _) (grown_cell _ _ _ _)) (grown_cell _ _ _ _)⟩
theorem Grid.besides {w W : World} {b g n L : Nat} {zs : List Int} (h : Grid w (.slice (some ⟨g, 0, none⟩) n n) n zs L) (hg : w.grownBy W (some b)) (hk : KU w W) (hne : g ≠ b) : Grid W (.slice (some ⟨g, 0, none⟩) n n) n zs L :=
 h.grown hg (fun a m c e => by
  simp only [Value.slice.injEq, Option.some.injEq] at e
  obtain ⟨rfl, -, -⟩ := e
  exact hne) hk
set_option maxRecDepth 100000 in
set_option maxHeartbeats 4000000 in
theorem flip_new (v : Value) (r c : Nat) (zs : List Int) (L : Nat) (w : World) (hm : IsM w v r c zs L) :
 Calls Tryz.prog 105 #[v] w fun e w' => ∃ g ms, e = .returned (.agg #[.int .i64 c, .int .i64 r, .slice (some ⟨g, 0, none⟩) (c * r) (c * r)]) ∧ w.heap.size ≤ g ∧ Grid w' (.slice (some ⟨g, 0, none⟩) (c * r) (c * r)) (c * r) ms L ∧ (∀ i j, i < c → j < r → ent r ms i j = ent c zs j i) ∧ Below w.heap.size w w' := by
 have HM := Hid.mk hm
 obtain ⟨hr, hc, sl, rfl, hg0⟩ := hm
 obtain ⟨ao, cap, rfl, -⟩ := hg0.shape
 clear hg0
 obtain ⟨N, hN⟩ : ∃ N, N = r * c := ⟨_, rfl⟩
 rw [← hN] at HM ⊢
 clear hN
 go_enter Tryz.func105, Tryz.ntmps105
 go_wp2_with fail
 obtain ⟨W0, hW0⟩ : ∃ W0, W0 = (w.alloc (.cells #[.int .i64 r, .int .i64 c, .slice ao N cap] 66)).alloc (.cells #[.int .i64 0, .int .i64 0, .slice none 0 0] 66) := ⟨_, rfl⟩
 have hs0 : W0.heap.size = w.heap.size + 2 := by rw [hW0]; simp
 have hb0 : Below w.heap.size w W0 := by rw [hW0]; repeat (first | exact Below.refl _ _ | refine Below.alloc ?_ (by simp <;> omega) _)
 have hm0 : Trio W0 w.heap.size (.int .i64 r) (.int .i64 c) (.slice ao N cap) := by
  rw [hW0]
  exact Trio.later (w := w.alloc (.cells #[.int .i64 r, .int .i64 c, .slice ao N cap] 66)) ⟨new_cell _ _ _ _ _ rfl rfl, new_cell _ _ _ _ _ rfl rfl, new_cell _ _ _ _ _ rfl rfl⟩ ((Below.refl _ _).alloc (Nat.le_refl _) _)
 have hR0 : W0.heap[w.heap.size + 1]? = some (.cells #[.int .i64 0, .int .i64 0, .slice none 0 0] 66 (0, 0)) := by
  rw [hW0]
  have := heap_alloc_new (w.alloc (.cells #[.int .i64 r, .int .i64 c, .slice ao N cap] 66)) (.cells #[.int .i64 0, .int .i64 0, .slice none 0 0] 66)
  simpa using this
 have K0 := Hid.mk (And.intro hb0 (And.intro hm0 hR0))
 rw [← hW0]
 clear hb0 hm0 hR0 hW0
 refine (noughts_any c r _ hc hr).mono ?_
 rintro e w1 ⟨g, rfl, hg1, hG1, hb1⟩
 have hw1 : W0.heap.size ≤ w1.heap.size := hb1.size
 have hgl := hG1.ty.lt
 have hb11 := (Below.refl w1.heap.size w1).alloc (Nat.le_refl _) (.cells #[.int .i64 c, .int .i64 r, .slice (some ⟨g, 0, none⟩) (c * r) (c * r)] 66)
 have hTm : Tri (w1.alloc (.cells #[.int .i64 c, .int .i64 r, .slice (some ⟨g, 0, none⟩) (c * r) (c * r)] 66)) w1.heap.size 0 (.int .i64 c) (.int .i64 r) (.slice (some ⟨g, 0, none⟩) (c * r) (c * r)) := ⟨new_cell _ _ _ _ _ rfl rfl, new_cell _ _ _ _ _ rfl rfl, new_cell _ _ _ _ _ rfl rfl⟩
 obtain ⟨W1, hW1⟩ : ∃ W1, W1 = w1.alloc (.cells #[.int .i64 c, .int .i64 r, .slice (some ⟨g, 0, none⟩) (c * r) (c * r)] 66) := ⟨_, rfl⟩
 have hs1 : W1.heap.size = w1.heap.size + 1 := by rw [hW1]; simp
 rw [← hW1] at hb11 hTm
 have hbW := hb1.trans (hb11.mono hw1)
 have K1 := Hid.mk (And.intro (show MatO W1 w1.heap.size 0 g c r (List.replicate (c * r) 0) L from ⟨hc, hr, hTm, (hG1.mono (Nat.zero_le _)).below hb11⟩) (And.intro hbW hW1))
 clear hG1 hb1 hb11 hTm hW1 hbW
 go_wp2_with fail
 rw [← K1.out.2.2]
 have hpg : w1.heap.size ≠ g := by omega
 go_loopw [4] (fun i wr => ∃ (a : Nat) (ms : List Int), a ≤ r ∧ i = .int .i64 a ∧ Hid (MatO wr w1.heap.size 0 g c r ms L ∧ W1.grownBy wr (some g) ∧ ∀ i j, i < c → j < r → j < a → ent r ms i j = ent c zs j i)) (fun i _ => r - (intOf i).toNat)
 case atStart => exact ⟨0, _, Nat.zero_le _, rfl, Hid.mk ⟨K1.out.1, World.grownBy.refl _ _, fun i j _ _ h => by omega⟩⟩
 case round =>
  rename World => wo
  obtain ⟨a, ms, ha, rfl, HI⟩ := hrel
  have hTo := (K0.out.2.1.later K1.out.2.1).grown HI.out.2.1 (by omega)
  obtain ⟨q0, q1, q2⟩ := hTo
  by_cases har : a < r
  ·have hai : (a : Int) < (r : Int) := by omega
   go_wp2_with fail
   clear q0 q1 q2
   go_loopw [5] (fun i wr => ∃ (e : Nat) (ns : List Int), e ≤ c ∧ i = .int .i64 e ∧ Hid (MatO wr w1.heap.size 0 g c r ns L ∧ W1.grownBy wr (some g) ∧ ∀ i j, i < c → j < r → (j < a ∨ (j = a ∧ i < e)) → ent r ns i j = ent c zs j i)) (fun i _ => c - (intOf i).toNat)
   case atStart => exact ⟨0, ms, Nat.zero_le _, rfl, Hid.mk ⟨HI.out.1, HI.out.2.1, fun i j x y h => HI.out.2.2 i j x y (by omega)⟩⟩
   case round =>
    rename World => wi
    obtain ⟨e, ns, he, rfl, HJ⟩ := hrel
    have hTi := (K0.out.2.1.later K1.out.2.1).grown HJ.out.2.1 (by omega)
    obtain ⟨q0, q1, q2⟩ := hTi
    have hbi : Below w.heap.size w wi := (K0.out.1.trans (K1.out.2.1.mono (by omega))).trans (below_of_grown HJ.out.2.1 (by omega) (by omega))
    have hwi := HJ.out.2.1.size
    have KI := Hid.mk hbi
    clear hbi
    by_cases hec : e < c
    ·have hei : (e : Int) < (c : Int) := by omega
     go_wp2_with fail
     refine (at_in _ r c a e zs L _ (HM.out.below KI.out) har hec).mono ?_
     rintro e9 w2 ⟨x, rfl, hx, hb2⟩
     obtain ⟨nb2, so2, n2, cp2, rfl⟩ := hx.shape
     have hb22 := (Below.refl w2.heap.size w2).alloc (Nat.le_refl _) (.cells #[.bool nb2, .slice so2 n2 cp2] 79)
     have hbB := hb2.trans (hb22.mono hb2.size)
     have K2 := Hid.mk (And.intro hbB (hx.below hb22))
     clear hx hb2 hb22 hbB q0 q1 q2
     go_wp2_with fail
     refine (set_m w1.heap.size 0 g c r e a ns L _ _ _ (HJ.out.1.later K2.out.1) hpg K2.out.2 hec har).mono ?_
     rintro e9 w3 ⟨rfl, hM3, hgr3, -⟩
     have K3 := Hid.mk (And.intro hM3 (grown_trans (grown_below HJ.out.2.1 K2.out.1) hgr3))
     clear hM3 hgr3
     go_wp2_with fail
     go_roundw
     case measure => simp [intOf]; omega
     case rel =>
      refine ⟨e + 1, _, by omega, by go_num, Hid.mk ⟨K3.out.1, K3.out.2, fun i j hi hj hd => ?_⟩⟩
      rw [ent_set ns c r HJ.out.1.len e a i j _ hec har hj]
      by_cases hij : i = e ∧ j = a
      ·obtain ⟨rfl, rfl⟩ := hij
       rw [if_pos ⟨rfl, rfl⟩]
       rfl
      ·rw [if_neg hij]
       exact HJ.out.2.2 i j hi hj (by omega)
    ·have hei : ¬ (e : Int) < (c : Int) := by omega
     go_wp2_with fail
     go_roundw
     case measure => simp [intOf]; omega
     case rel => exact ⟨a + 1, ns, by omega, by go_num, Hid.mk ⟨HJ.out.1, HJ.out.2.1, fun i j hi hj hd => HJ.out.2.2 i j hi hj (by omega)⟩⟩
  ·have hai : ¬ (a : Int) < (r : Int) := by omega
   have hR : wo.heap[w.heap.size + 1]? = some (.cells #[.int .i64 0, .int .i64 0, .slice none 0 0] 66 (0, 0)) := ((HI.out.2.1.block _ (by omega) (fun e => by injection e with e; omega)).trans (K1.out.2.1.block _ (by omega))).trans K0.out.2.2
   have r0 : wo.cell? ⟨w.heap.size + 1, 0, none⟩ = some (.int .i64 0) := by simp [World.cell?, hR]
   have r1 : wo.cell? ⟨w.heap.size + 1, 1, none⟩ = some (.int .i64 0) := by simp [World.cell?, hR]
   have r2 : wo.cell? ⟨w.heap.size + 1, 2, none⟩ = some (.slice none 0 0) := by simp [World.cell?, hR]
   have f0 : ∀ o, wo.frozen? ⟨w.heap.size + 1, o, none⟩ = false := fun o => by simp [World.frozen?, hR]
   have HT : Hid (Ty wo (w.heap.size + 1) 66) := Hid.mk ⟨_, _, hR⟩
   obtain ⟨s0, s1, s2⟩ := HI.out.1.tri
   clear hR
   go_wp2_with fail
   refine bodyPost_ret (v := .agg #[.int .i64 c, .int .i64 r, .slice (some ⟨g, 0, none⟩) (c * r) (c * r)]) ?_ rfl ?_
   ·(simp [results, Tryz.results105, go_sem, r0, r1, r2]; done)
   ·have h3 := set3 wo (w.heap.size + 1) HT.out (by decide) (.int .i64 c) (.int .i64 r) (.slice (some ⟨g, 0, none⟩) (c * r) (c * r))
    have hbo : Below w.heap.size w wo := (K0.out.1.trans (K1.out.2.1.mono (by omega))).trans (below_of_grown HI.out.2.1 (by omega) (by omega))
    exact ⟨g, rfl, by omega, ms, HI.out.1.grid.besides h3.2 h3.1 (by omega), fun i j hi hj => HI.out.2.2 i j hi hj (by omega), hbo.trans (below_of_grown h3.2 (by omega) hbo.size)⟩
theorem flip_any (v : Value) (r c : Nat) (zs : List Int) (L : Nat) (w : World) (hm : IsM w v r c zs L) :
 Calls Tryz.prog 105 #[v] w fun e w' => ∃ x ms, e = .returned x ∧ IsM w' x c r ms L ∧ (∀ i j, i < c → j < r → ent r ms i j = ent c zs j i) ∧ Below w.heap.size w w' := by
 refine (flip_new v r c zs L w hm).mono ?_
 rintro e w' ⟨g, ms, rfl, -, hG, hP, hb⟩
 exact ⟨_, ms, rfl, ⟨hm.2.1, hm.1, _, rfl, hG⟩, hP, hb⟩
open Go.RowKit
open Go.RowKit
def Sp (H : Nat → Nat → Int) (k c : Nat) (v : Nat → Int) : Prop := ∃ x : Nat → Int, ∀ j, j < c → v j = sm (fun l => x l * H l j) k
theorem Sp.sub {H : Nat → Nat → Int} {k c : Nat} {v w : Nat → Int} (h : Sp H k c v) (h' : Sp H k c w) : Sp H k c (fun j => v j - w j) := by
 obtain ⟨x, hx⟩ := h
 obtain ⟨y, hy⟩ := h'
 refine ⟨fun l => x l - y l, fun j hj => ?_⟩
 show v j - w j = _
 rw [hx j hj, hy j hj, sm_sub]
 exact sm_congr k (fun l _ => by grind)
theorem Sp.row (H : Nat → Nat → Int) {k b : Nat} (c : Nat) (hb : b < k) : Sp H k c (H b) :=
 ⟨fun l => if l = b then 1 else 0, fun j _ => by
   rw [sm_one k b hb (fun l _ hne => by show (if l = b then (1 : Int) else 0) * H l j = 0; rw [if_neg hne]; simp)]
   simp⟩
theorem first_ne (x : Nat → Int) (k : Nat) : (∀ l, l < k → x l = 0) ∨ ∃ b, b < k ∧ x b ≠ 0 ∧ ∀ l, l < b → x l = 0 := by
 induction k with
 | zero => exact .inl (fun l h => by omega)
 | succ k ih =>
   rcases ih with h | ⟨b, h1, h2, h3⟩
   ·by_cases hk : x k = 0
    ·exact .inl (fun l hl => by
      by_cases e : l = k
      ·rw [e]; exact hk
      ·exact h l (by omega))
    ·exact .inr ⟨k, by omega, hk, h⟩
   ·exact .inr ⟨b, by omega, h2, h3⟩
theorem EchSt.lead {r c k : Nat} {pc : Nat → Nat} {H : Nat → Nat → Int} (h : EchSt r c k pc H) {v : Nat → Int} (hv : Sp H k c v) : (∀ j, j < c → v j = 0) ∨ ∃ b, b < k ∧ (∀ j, j < pc b → v j = 0) ∧ v (pc b) ≠ 0 ∧ H b (pc b) ∣ v (pc b) := by
 obtain ⟨x, hx⟩ := hv
 rcases first_ne x k with h0 | ⟨b, h1, h2, h3⟩
 ·exact .inl (fun j hj => by rw [hx j hj]; exact sm_zero k (fun l hl => by rw [h0 l hl]; simp))
 ·have hle := h.le
  have hcb := h.col b h1
  have hz : ∀ j, j < pc b → v j = 0 := fun j hj => by
   rw [hx j (by omega)]
   refine sm_zero k (fun l hl => ?_)
   by_cases hlb : l < b
   ·rw [h3 l hlb]; simp
   ·have : pc b ≤ pc l := by
     by_cases e : l = b
     ·rw [e]; exact Nat.le_refl _
     ·exact Nat.le_of_lt (h.up b l (by omega) hl)
    rw [h.left l hl j (by omega)]; simp
  have hp : v (pc b) = x b * H b (pc b) := by
   rw [hx _ hcb]
   refine sm_one k b h1 (fun l hl hne => ?_)
   by_cases hlb : l < b
   ·rw [h3 l hlb]; simp
   ·rw [h.below b h1 l (by omega) (by omega)]; simp
  have hpos := h.piv b h1
  refine .inr ⟨b, h1, hz, ?_, ?_⟩
  ·rw [hp]
   intro e
   rcases Int.mul_eq_zero.1 e with e | e
   ·exact h2 e
   ·omega
  ·rw [hp]; exact Int.dvd_mul_left _ _
theorem EchSt.match_ {r r' c k k' : Nat} {pc pc' : Nat → Nat} {H H' : Nat → Nat → Int} (h : EchSt r c k pc H) (h' : EchSt r' c k' pc' H') (hs : ∀ b, b < k → Sp H' k' c (H b)) (b : Nat) (hb : b < k) : ∃ b', b' < k' ∧ pc' b' = pc b ∧ H' b' (pc' b') ∣ H b (pc b) := by
 have hp := h.piv b hb
 have hc := h.col b hb
 rcases h'.lead (hs b hb) with h0 | ⟨b', h1, h2, h3, h4⟩
 ·have := h0 _ hc; omega
 ·have e : pc' b' = pc b := by
   rcases Nat.lt_trichotomy (pc' b') (pc b) with hlt | heq | hgt
   ·exact absurd (h.left b hb _ hlt) h3
   ·exact heq
   ·have := h2 _ hgt; omega
  rw [e] at h4
  exact ⟨b', h1, e, by rw [e]; exact h4⟩
theorem EchSt.cols {r r' c k k' : Nat} {pc pc' : Nat → Nat} {H H' : Nat → Nat → Int} (h : EchSt r c k pc H) (h' : EchSt r' c k' pc' H') (hs : ∀ b, b < k → Sp H' k' c (H b)) (hs' : ∀ b, b < k' → Sp H k c (H' b)) : ∀ b, b < k → b < k' ∧ pc' b = pc b := by
 intro b
 induction b using Nat.strongRecOn with
 | _ b ih =>
   intro hb
   obtain ⟨b', h1, h2, -⟩ := h.match_ h' hs b hb
   rcases Nat.lt_trichotomy b' b with hlt | heq | hgt
   ·have e1 := (ih b' hlt (by omega)).2
    have e2 := h.up b' b hlt hb
    omega
   ·subst heq; exact ⟨h1, h2⟩
   ·obtain ⟨b2, h3, h4, -⟩ := h'.match_ h hs' b (by omega)
    have e1 := h'.up b b' hgt h1
    have e2 : b2 < b := by
     rcases Nat.lt_trichotomy b2 b with hl | he | hg
     ·exact hl
     ·subst he; omega
     ·have := h.up b b2 hg h3; omega
    have e3 := ih b2 e2 (by omega)
    have e4 := h'.up b2 b e2 (by omega)
    omega
theorem EchSt.uniq {r r' c k k' : Nat} {pc pc' : Nat → Nat} {H H' : Nat → Nat → Int} (h : EchSt r c k pc H) (h' : EchSt r' c k' pc' H') (hs : ∀ b, b < k → Sp H' k' c (H b)) (hs' : ∀ b, b < k' → Sp H k c (H' b)) : k = k' ∧ ∀ b j, b < k → j < c → H b j = H' b j := by
 have c1 := h.cols h' hs hs'
 have c2 := h'.cols h hs' hs
 have hk : k = k' := by
  rcases Nat.lt_trichotomy k k' with hl | he | hg
  ·have := c2 k hl; omega
  ·exact he
  ·have := c1 k' hg; omega
 subst hk
 have hpiv : ∀ b, b < k → H b (pc b) = H' b (pc b) := fun b hb => by
  obtain ⟨b1, h1, h2, h3⟩ := h.match_ h' hs b hb
  obtain ⟨b2, h4, h5, h6⟩ := h'.match_ h hs' b hb
  have e1 := (c1 b hb).2
  have e2 : b1 = b := by
   rcases Nat.lt_trichotomy b1 b with hl | he | hg
   ·have := h'.up b1 b hl hb; omega
   ·exact he
   ·have := h'.up b b1 hg h1; omega
  have e3 : b2 = b := by
   rcases Nat.lt_trichotomy b2 b with hl | he | hg
   ·have := h.up b2 b hl hb; omega
   ·exact he
   ·have := h.up b b2 hg h4; omega
  subst e2
  subst e3
  rw [e1] at h3 h6
  have p1 := h.piv _ hb
  have p2 := h'.piv _ hb
  rw [e1] at p2
  exact Int.dvd_antisymm (by omega) (by omega) h6 h3
 refine ⟨rfl, fun b j hb hj => ?_⟩
 have hsp : Sp H k c (fun j => H b j - H' b j) := (Sp.row H c hb).sub (hs' b hb)
 rcases h.lead hsp with h0 | ⟨l, h1, h2, h3, h4⟩
 ·have e := h0 j hj
  have e2 : H b j - H' b j = 0 := e
  omega
 ·exfalso
  have e3 : H b (pc l) - H' b (pc l) ≠ 0 := h3
  have e4 : H l (pc l) ∣ H b (pc l) - H' b (pc l) := h4
  have cl := (c1 l h1).2
  rcases Nat.lt_trichotomy l b with hl | he | hg
  ·have a1 := h.below l h1 b hl (by have := h.le; omega)
   have a2 := h'.below l (c1 l h1).1 b hl (by have := h'.le; omega)
   rw [cl] at a2
   omega
  ·subst he
   have := hpiv l hb
   omega
  ·obtain ⟨a1, a2⟩ := h.above l h1 b hg
   have a3 := h'.above l (c1 l h1).1 b hg
   rw [cl, ← hpiv l h1] at a3
   obtain ⟨m, hm⟩ := e4
   have a5 : (H b (pc l) - H' b (pc l)).natAbs < (H l (pc l)).natAbs := by omega
   rw [hm, Int.natAbs_mul] at a5
   have a6 : m ≠ 0 := by
    intro e; rw [e, Int.mul_zero] at hm; omega
   have a7 := Nat.mul_le_mul_left (H l (pc l)).natAbs (show 1 ≤ m.natAbs by omega)
   omega
theorem span_rows {r c k : Nat} {pc : Nat → Nat} {A H U W : Nat → Nat → Int} (h : EchSt r c k pc H) (hE : EInv A H U W r c) : (∀ i, i < r → Sp H k c (A i)) ∧ (∀ i, i < r → Sp A r c (H i)) := by
 have cut : ∀ (f : Nat → Int) n m, m ≤ n → (∀ l, m ≤ l → l < n → f l = 0) → sm f n = sm f m := by
  intro f n
  induction n with
  | zero => intro m hm _; rw [show m = 0 from by omega]
  | succ n ih =>
    intro m hm hz
    by_cases e : m = n + 1
    ·rw [e]
    ·rw [sm, hz n (by omega) (by omega), ih m (by omega) (fun l a b => hz l a (by omega))]; omega
 refine ⟨fun i hi => ⟨W i, fun j hj => ?_⟩, fun i hi => ⟨U i, fun j hj => ?_⟩⟩
 ·rw [← hE.wh i j hi hj, dot_sm]
  exact cut _ r k h.le (fun l a b => by rw [h.rest l a b j hj]; simp)
 ·rw [← hE.ua i j hi hj, dot_sm]
theorem Sp.trans {H A : Nat → Nat → Int} {k r c : Nat} {v : Nat → Int} (hv : Sp H k c v) (hH : ∀ i, i < k → Sp A r c (H i)) : Sp A r c v := by
 obtain ⟨x, hx⟩ := hv
 have key : ∀ n, n ≤ k → Sp A r c (fun j => sm (fun l => x l * H l j) n) := by
  intro n
  induction n with
  | zero => intro _; exact ⟨fun _ => 0, fun j _ => (sm_zero r (fun l _ => by simp)).symm⟩
  | succ n ih =>
    intro hn
    obtain ⟨y, hy⟩ := ih (by omega)
    obtain ⟨u, hu⟩ := hH n (by omega)
    refine ⟨fun l => y l + x n * u l, fun j hj => ?_⟩
    have e1 : sm (fun l => x l * H l j) n = sm (fun l => y l * A l j) r := hy j hj
    show sm (fun l => x l * H l j) (n + 1) = _
    rw [sm, e1, hu j hj]
    have := sm_lin 1 (x n) (fun l => y l * A l j) (fun l => u l * A l j) r
    rw [show sm (fun l => y l * A l j) r + x n * sm (fun l => u l * A l j) r = 1 * sm (fun l => y l * A l j) r + x n * sm (fun l => u l * A l j) r from by omega, ← this]
    exact sm_congr r (fun l _ => by grind)
 obtain ⟨y, hy⟩ := key k (Nat.le_refl _)
 exact ⟨y, fun j hj => by rw [hx j hj]; exact hy j hj⟩
open Go.RowKit
def SpEq (A B : Nat → Nat → Int) (r r' c : Nat) : Prop := (∀ i, i < r → Sp B r' c (A i)) ∧ ∀ i, i < r' → Sp A r c (B i)
theorem Sp.like {H H' : Nat → Nat → Int} {k c : Nat} {v : Nat → Int} (h : Sp H k c v) (he : ∀ b j, b < k → j < c → H b j = H' b j) : Sp H' k c v := by
 obtain ⟨x, hx⟩ := h
 exact ⟨x, fun j hj => (hx j hj).trans (sm_congr k fun l hl => by rw [he l j hl hj])⟩
theorem same_span {A B H H' U W U' W' : Nat → Nat → Int} {r r' c k k' : Nat} {pc pc' : Nat → Nat} (h : EchSt r c k pc H) (hE : EInv A H U W r c) (h' : EchSt r' c k' pc' H') (hE' : EInv B H' U' W' r' c) :
 (k = k' ∧ ∀ b j, b < k → j < c → H b j = H' b j) ↔ SpEq A B r r' c := by
 obtain ⟨s1, s2⟩ := span_rows h hE
 obtain ⟨t1, t2⟩ := span_rows h' hE'
 have l1 := h.le
 have l2 := h'.le
 constructor
 ·rintro ⟨rfl, he⟩
  exact ⟨fun i hi => ((s1 i hi).like he).trans (fun b hb => t2 b (by omega)), fun i hi => ((t1 i hi).like (fun b j hb hj => (he b j hb hj).symm)).trans (fun b hb => s2 b (by omega))⟩
 ·rintro ⟨e1, e2⟩
  exact h.uniq h' (fun b hb => ((s2 b (by omega)).trans e1).trans t1) (fun b hb => ((t2 b (by omega)).trans e2).trans s1)
open Go.RowKit
open Go.RowKit
open Go.RowKit
open Go.RowKit R
open Go.RowKit
theorem hm_ext {a b : List Hm} (h : a.length = 24) (h' : b.length = 24) (he : ∀ k, k < 24 → a.getD k none = b.getD k none) : a = b := by
 apply List.ext_getElem (by omega)
 intro k h1 h2
 have := he k (by omega)
 rw [List.getD, List.getD, List.getElem?_eq_getElem h1, List.getElem?_eq_getElem h2] at this
 simpa using this
end Go.Proofs.YtfjbijpagaipnabGreatDoor
