import Derived.Test.YtfjbijpagaipnaaDoorS17
import Derived.Test.YtfjbijpagaipnaaDoorS13
import Derived.Test.YtfjbijpagaipnaaDoorS08
import Derived.Test.YtfjbijpagaipnaaDoorS10
import Derived.Test.YtfjbijpagaipnaaDoorS16
namespace Go.Proofs.YtfjbijpagaipnaaDoor.R
structure Ech (g : Nat → Nat → Int) (r c p : Nat) (pc : Nat → Nat) : Prop where
 le : p ≤ r
 col : ∀ b, b < p → pc b < c
 up : ∀ a b, a < b → b < p → pc a < pc b
 piv : ∀ b, b < p → g b (pc b) ≠ 0
 below : ∀ a b, b < p → b < a → a < r → g a (pc b) = 0
 rest : ∀ a, p ≤ a → a < r → ∀ j, j < c → g a j = 0
theorem cols_mem {pc : Nat → Nat} {p : Nat} (up : ∀ a b, a < b → b < p → pc a < pc b) : ∀ n N, n ≤ p → (∀ b, b < n → pc b < N) → (List.range n).map pc ∈ chosenL n N := by
 intro n
 induction n with
 | zero => intro N _ _; simp [chosenL]
 | succ n ih =>
   intro N hn hb
   rw [List.range_succ, List.map_append, List.map_singleton]
   exact chosenL_snoc (ih (pc n) (by omega) (fun b hb' => up b n hb' (by omega))) (hb n (by omega))
theorem sumF_one (n : Nat) (g : Nat → Int) (h : ∀ k, 0 < k → k < n + 1 → g k = 0) : sumF (n + 1) g = g 0 := by
 induction n with
 | zero => simp [sumF]
 | succ n ih => rw [sumF, ih (fun k h1 h2 => h k h1 (by omega)), h (n + 1) (by omega) (by omega)]; simp
theorem tri {g : Nat → Nat → Int} {r c p : Nat} {pc : Nat → Nat} (h : Ech g r c p pc) : ∀ n o, o + n ≤ p → mv ((List.range' o n).map g) ((List.range' o n).map pc) ≠ 0 := by
 intro n
 induction n with
 | zero => intro o _; simp [mv]
 | succ n ih =>
   intro o ho
   rw [List.range'_succ, List.map_cons, List.map_cons, mv, List.length_cons, sumF_one _ _ (fun k hk0 hk => ?_)]
   ·have e : signed 0 (g o ((pc o :: (List.range' (o + 1) n).map pc).getD 0 0) * mv ((List.range' (o + 1) n).map g) ((pc o :: (List.range' (o + 1) n).map pc).eraseIdx 0)) = g o (pc o) * mv ((List.range' (o + 1) n).map g) ((List.range' (o + 1) n).map pc) := by simp [signed]
    rw [e]
    intro h0
    rcases Int.mul_eq_zero.1 h0 with h1 | h1
    ·exact h.piv o (by omega) h1
    ·exact ih (o + 1) (by omega) h1
   ·have hz : mv ((List.range' (o + 1) n).map g) ((pc o :: (List.range' (o + 1) n).map pc).eraseIdx k) = 0 := by
     refine mv_zero_col (pc o) _ _ (fun v hv => ?_) ?_ ?_
     ·obtain ⟨a, ha, rfl⟩ := List.mem_map.1 hv
      have ha' := List.mem_range'_1.1 ha
      have := h.le
      exact h.below a o (by omega) (by omega) (by omega)
     ·match k, hk0 with
      | k + 1, _ => simp
     ·rw [List.length_eraseIdx, if_pos (by simpa using hk)]
      simp
    rw [hz]
    unfold signed; split <;> simp
theorem ech_cols {g : Nat → Nat → Int} {r c p : Nat} {pc : Nat → Nat} (h : Ech g r c p pc) : p ≤ c := by
 have key : ∀ b, b < p → b ≤ pc b := by
  intro b
  induction b with
  | zero => intro _; omega
  | succ b ih => intro hb; have h1 := ih (by omega); have h2 := h.up b (b + 1) (by omega) hb; omega
 rcases Nat.eq_zero_or_pos p with h0 | h0
 ·omega
 ·have h1 := key (p - 1) (by omega)
  have h2 := h.col (p - 1) (by omega)
  omega
theorem ech_rank {f g : Nat → Nat → Int} {r c p : Nat} {pc : Nat → Nat} (h : Ech g r c p pc) (hfg : ∀ m, AllV f r c m ↔ AllV g r c m) (hr : r ≤ 4) (_hc : c ≤ 4) : RankIs f r c p := by
 refine ⟨h.le, ech_cols h, fun i hi h0 => ?_, ?_⟩
 ·have hle := h.le
  have h1 := (hfg (i + 1)).1 ((all_div f r c (i + 1) (by omega)).1 h0)
  have h2 := h1 (List.range (i + 1)) List.length_range (fun x hx => by have := List.mem_range.1 hx; omega) ((List.range (i + 1)).map pc) (cols_mem h.up (i + 1) c (by omega) (fun b hb => h.col b (by omega)))
  have h3 := tri h (i + 1) 0 (by omega)
  rw [← List.range_eq_range'] at h3
  exact h3 h2
 ·by_cases hpr : p = r
  ·exact .inl hpr
  ·by_cases hpc : p = c
   ·exact .inr (.inl hpc)
   ·refine .inr (.inr ?_)
    have hle := h.le
    rw [all_div f r c (p + 1) (by omega), hfg, ← all_div g r c (p + 1) (by omega)]
    unfold divF
    rw [gA_zero]
    refine ⟨rfl, fun R hR C hC => ?_⟩
    obtain ⟨Q, last, rfl, hQ, hlast, hlr⟩ := chosenL_last hR
    rw [mv_minor, List.map_append, List.map_singleton]
    have hCm := chosenL_mem (p + 1) c C hC
    have hQm := chosenL_mem p last Q hQ
    exact mv_zero_row (g last) [] (Q.map g) C (fun x hx => h.rest last hlast hlr x (hCm.2 x hx)) (by simp [hCm.1, hQm.1])
theorem mv_at {v v' : Nat → Int} (ys : List (Nat → Int)) : ∀ (xs : List (Nat → Int)) (C : List Nat), (∀ x ∈ C, v x = v' x) → mv (xs ++ v :: ys) C = mv (xs ++ v' :: ys) C := by
 intro xs
 induction xs with
 | nil =>
   intro C hC
   rw [List.nil_append, List.nil_append, mv, mv]
   refine sumF_congr (fun k hk => ?_)
   rw [hC (C.getD k 0) (by rw [List.getD, List.getElem?_eq_getElem hk]; exact List.getElem_mem _)]
 | cons x xs ih =>
   intro C hC
   rw [List.cons_append, List.cons_append, mv, mv]
   refine sumF_congr (fun k _ => ?_)
   rw [ih (C.eraseIdx k) (fun y hy => hC y (List.mem_of_mem_eraseIdx hy))]
theorem mv_sum (u : Nat → Int) (f : Nat → Nat → Int) (xs ys : List (Nat → Int)) (C : List Nat) : ∀ n, mv (xs ++ (fun j => sm (fun k => u k * f k j) n) :: ys) C = sm (fun k => u k * mv (xs ++ f k :: ys) C) n := by
 intro n
 induction n with
 | zero =>
   have := mv_lin 0 0 (fun _ => 0) (fun _ => 0) ys xs C
   rw [Int.zero_mul, Int.zero_mul, Int.add_zero] at this
   rw [sm]
   rw [← this]
   exact mv_at ys xs C (fun x _ => by simp [sm])
 | succ n ih =>
   have h := mv_lin 1 (u n) (fun j => sm (fun k => u k * f k j) n) (f n) ys xs C
   rw [ih] at h
   rw [sm, show sm (fun k => u k * mv (xs ++ f k :: ys) C) n + u n * mv (xs ++ f n :: ys) C = 1 * sm (fun k => u k * mv (xs ++ f k :: ys) C) n + u n * mv (xs ++ f n :: ys) C from by omega, ← h]
   exact mv_at ys xs C (fun x _ => by rw [sm]; omega)
theorem sm_dvd {d : Int} {f : Nat → Int} (n : Nat) (h : ∀ k, k < n → d ∣ f k) : d ∣ sm f n := by
 induction n with
 | zero => exact Int.dvd_zero d
 | succ n ih => rw [sm]; exact Int.dvd_add (ih (fun k hk => h k (by omega))) (h n (by omega))
def CombOf (f : Nat → Nat → Int) (r : Nat) (C : List Nat) (v : Nat → Int) : Prop := ∃ u : Nat → Int, ∀ x ∈ C, v x = sm (fun k => u k * f k x) r
theorem comb_dvd {d : Int} {f : Nat → Nat → Int} {r : Nat} {C : List Nat} (h : AllD d f r C) : ∀ (vs : List (Nat → Int)), (∀ v ∈ vs, CombOf f r C v) → ∀ (xs : List Nat), xs.length + vs.length = C.length → (∀ x ∈ xs, x < r) → d ∣ mv (xs.map f ++ vs) C := by
 intro vs
 induction vs with
 | nil =>
   intro _ xs hl hx
   rw [List.append_nil]
   exact h xs (by simpa using hl) hx
 | cons v vs ih =>
   intro hv xs hl hx
   obtain ⟨u, hu⟩ := hv v (by simp)
   rw [mv_at vs (xs.map f) C hu, mv_sum u f (xs.map f) vs C r]
   refine sm_dvd r (fun k hk => Int.dvd_trans ?_ (Int.dvd_mul_left _ _))
   have := ih (fun v hv' => hv v (by simp [hv'])) (xs ++ [k]) (by simp at hl ⊢; omega) (fun x hx' => by
    rcases List.mem_append.1 hx' with h1 | h1
    ·exact hx x h1
    ·simp at h1; omega)
   simpa using this
theorem allD_comb {d : Int} {f g : Nat → Nat → Int} {r r' : Nat} {C : List Nat} (h : AllD d f r C) (hg : ∀ i, i < r' → CombOf f r C (g i)) : AllD d g r' C := by
 intro R hR hx
 have := comb_dvd h (R.map g) (fun v hv => by
  obtain ⟨i, hi, rfl⟩ := List.mem_map.1 hv
  exact hg i (hx i hi)) [] (by simpa using hR) (fun x hx => by simp at hx)
 simpa using this
theorem comb_of_dot {f g u : Nat → Nat → Int} {r c i : Nat} {C : List Nat} (hC : ∀ x ∈ C, x < c) (h : ∀ j, j < c → dot u f i j r = g i j) : CombOf f r C (g i) :=
 ⟨u i, fun x hx => by rw [← h x (hC x hx), dot_sm]⟩
theorem chosenL_lt {m c : Nat} {C : List Nat} (h : C ∈ chosenL m c) : C.length = m ∧ ∀ x ∈ C, x < c := by
 have := chosenL_mem m c C h
 exact ⟨this.1, fun x hx => by
  obtain ⟨i, hi, he⟩ := List.mem_iff_getElem.1 hx
  have h2 := this.2
  first
   | exact h2 x hx
   | (rw [← he]; exact h2 i hi)⟩
theorem allV_einv {A H U W : Nat → Nat → Int} {r c : Nat} (h : EInv A H U W r c) (m : Nat) : AllV A r c m ↔ AllV H r c m := by
 rw [allV_iff, allV_iff]
 constructor
 ·intro hA C hC
  exact allD_comb (hA C hC) (fun i hi => comb_of_dot (chosenL_lt hC).2 (fun j hj => h.ua i j hi hj))
 ·intro hH C hC
  exact allD_comb (hH C hC) (fun i hi => comb_of_dot (chosenL_lt hC).2 (fun j hj => h.wh i j hi hj))
end Go.Proofs.YtfjbijpagaipnaaDoor.R
namespace Go.Proofs.YtfjbijpagaipnaaDoor
open Go.RowKit R
def gz (c : Nat) (zs : List Int) : Nat → Nat → Int := fun i j => zs.getD (i * c + j) 0
theorem EchSt.ech {r c k : Nat} {pc : Nat → Nat} {H : Nat → Nat → Int} (h : EchSt r c k pc H) : Ech H r c k pc :=
 ⟨h.le, h.col, h.up, fun b hb => by have := h.piv b hb; omega, fun a b hb hba har => h.below b hb a hba har, h.rest⟩
theorem ech_rankIs {r c k : Nat} {pc : Nat → Nat} {A H U W : Nat → Nat → Int} (h : EchSt r c k pc H) (hE : EInv A H U W r c) (hr : r ≤ 4) (hc : c ≤ 4) : RankIs A r c k :=
 ech_rank h.ech (fun m => allV_einv hE m) hr hc
theorem IsM.slice {w : World} {s : Value} {r c L : Nat} {zs : List Int} (h : IsM w (.agg #[.int .i64 r, .int .i64 c, s]) r c zs L) : ∃ ao cap, s = .slice ao (r * c) cap := by
 obtain ⟨_, _, sl, h2, h3⟩ := h
 obtain ⟨ao, cap, rfl, -⟩ := h3.shape
 simp only [Value.agg.injEq, Array.mk.injEq, List.cons.injEq, and_true, true_and] at h2
 exact ⟨ao, cap, h2⟩
theorem field_rank (a b s1 d e s2 f g s3 : Value) (k : Int) : ∀ w : World, (Instr.field 71 (.agg #[a, b, s1, d, e, s2, f, g, s3, .int .i64 k]) 3).run Tryd.prog w = .ok (.int .i64 k) w := fun _ => by kernel_rfl
theorem FitsP.ent {r c : Nat} {zs : List Int} (h : FitsP r c zs) (i j : Nat) (hi : i < r) (hj : j < c) : (ent c zs i j).natAbs < 2 ^ 48 := h.2.2 _ (idx_lt hi hj)
theorem size48 {r c : Nat} (hr : r ≤ 4) (hc : c ≤ 4) : hB r 48 c ≤ 32 * 4000 ∧ uB r 48 c ≤ 32 * 4000 := by
 have key : ∀ r : Fin 5, ∀ c : Fin 5, hB r.val 48 c.val ≤ 32 * 4000 ∧ uB r.val 48 c.val ≤ 32 * 4000 := by decide
 exact key ⟨r, by omega⟩ ⟨c, by omega⟩
theorem gech_fit (v : Value) (r c : Nat) (zs : List Int) (L : Nat) (w : World) (hm : IsM w v r c zs L) (hr : r ≤ 4) (hc : c ≤ 4) (hz : ∀ i j, i < r → j < c → (ent c zs i j).natAbs < 2 ^ 48) (hL : L ≤ 4000) :
 Calls Tryd.prog 35 #[v] w fun e w' => EchOut w w' e r c zs 48 4000 :=
 gech_any v r c zs 48 4000 w (hm.mono hL) (by omega) (by omega) hz (by omega) (size48 hr hc).1 (size48 hr hc).2
open Go.RowKit
structure EchIs (r c : Nat) (zs : List Int) (k : Nat) (pc : Nat → Nat) (hs us ws : List Int) : Prop where
 lh : hs.length = r * c
 lu : us.length = r * r
 lw : ws.length = r * r
 st : EchSt r c k pc (ent c hs)
 inv : EInv (ent c zs) (ent c hs) (ent r us) (ent r ws) r c
 eb : EB (ent c hs) (ent r us) (ent r ws) r c k 48
 run : EcTo r c (ent c zs) c k (e3 r c hs us ws)
theorem IsM.len {w : World} {v : Value} {r c L : Nat} {zs : List Int} (h : IsM w v r c zs L) : zs.length = r * c := by
 obtain ⟨_, _, sl, _, h3⟩ := h
 exact h3.1
open Go.RowKit
theorem set3 (w : World) (b : Nat) {t : TypeId} (ht : Ty w b t) (hne : t ≠ 117) (v0 v1 v2 : Value) : KU w (((w.setCell ⟨b, 0, none⟩ v0).setCell ⟨b, 1, none⟩ v1).setCell ⟨b, 2, none⟩ v2) ∧ w.grownBy (((w.setCell ⟨b, 0, none⟩ v0).setCell ⟨b, 1, none⟩ v1).setCell ⟨b, 2, none⟩ v2) (some b) := by
 have k0 := KU.setCell (o := 0) (KU.refl w) ht hne v0
 have t0 := ht.setCell ⟨b, 0, none⟩ v0
 have k1 := KU.setCell (o := 1) k0 t0 hne v1
 have t1 := t0.setCell ⟨b, 1, none⟩ v1
 have k2 := KU.setCell (o := 2) k1 t1 hne v2
 exact ⟨k2, grown_trans (grown_trans (grown_cell _ _ _ _) (grown_cell _ _ _ _)) (grown_cell _ _ _ _)⟩
theorem Grid.besides {w W : World} {b g n L : Nat} {zs : List Int} (h : Grid w (.slice (some ⟨g, 0, none⟩) n n) n zs L) (hg : w.grownBy W (some b)) (hk : KU w W) (hne : g ≠ b) : Grid W (.slice (some ⟨g, 0, none⟩) n n) n zs L :=
 h.grown hg (fun a m c e => by
  simp only [Value.slice.injEq, Option.some.injEq] at e
  obtain ⟨rfl, -, -⟩ := e
  exact hne) hk
open Go.RowKit
theorem run_copy_part (w : World) (ty : TypeId) (g n m cap : Nat) (ad : Addr) (cur : Array Value) (cs : List Value) (hg : w.heap[g]? = some (.cells cur 78 (0, 0))) (hc : cur.size = n * 2) (hn : cs.length = n * 2) (hnm : n ≤ m)
 (hsrc : ∀ j v, cs[j]? = some v → w.cell? (ad.add j) = some v) (h1 : ∀ v ∈ cs, v.oneCell' = true) :
 (Builtin.copy_ #[61, 61] ty #[.slice (some ⟨g, 0, none⟩) n n, .slice (some ad) m cap]).run Tryd.prog w = .ok (goInt n) (w.setRow g cs.toArray) := by
 obtain ⟨i, hi, hz0, hz1, hz2⟩ := info_parts Tryd.info78
 have hf := run_firstCells_some (P := Tryd.prog) w 2 n ad m cap cs hn hsrc
 have hst := run_storeCells_at Tryd.prog g 0 78 cs 0 cur w hg (by omega) h1
 simp only [Nat.add_zero, Nat.zero_add, List.take_zero, List.nil_append] at hst
 rw [List.drop_of_length_le (by rw [Array.length_toList]; omega), List.append_nil] at hst
 simp [Builtin.copy_, run_underlying Tryd.underlying61, Builtin.lenOf, sizeOf, typeInfo, hi, hz1, show m.min n = n from Nat.min_eq_right hnm, hf, hst]
theorem copy_part (w : World) {ops : Array Oper} {rest : List Oper} {o : Oper} {a : Act} {Q : Exit → Act → World → Prop} (hgd : o.guard = none) (d s : Operand)
 (ho : o.op = .call { callee := .builtin .copy, args := #[d, s], argTypes := #[61, 61] }) (g n m : Nat) (sv : Value) (ys zs : List Int) (M L : Nat) (hnm : n ≤ m)
 (hd : a.eval d = .slice (some ⟨g, 0, none⟩) n n) (hs : a.eval s = sv) (hgr : Grid w (.slice (some ⟨g, 0, none⟩) n n) n ys M) (hsv : Grid w sv m zs L)
 (hK : ∀ w', Grid w' (.slice (some ⟨g, 0, none⟩) n n) n (zs.take n) L → w.grownBy w' (some g) → wpList Tryd.prog ops Q rest (a.put o.dst (goInt n)) w') : wpList Tryd.prog ops Q (o :: rest) a w := by
 refine wpList_plain hgd fun K hK' => ?_
 have hty := hgr.ty
 obtain ⟨h0, cs0, h1, h2⟩ := hgr
 rcases h1.2 with ⟨h3, _⟩ | ⟨g', cap', cur, hv, hgg, hh, r1, r2, r3, r4⟩
 ·simp at h3
 simp only [Value.slice.injEq, Option.some.injEq, Addr.mk.injEq, and_true, true_and] at hv
 obtain ⟨rfl, rfl⟩ := hv
 obtain ⟨k0, cs, k1, k2⟩ := hsv
 rcases k1.2 with ⟨rfl, hn⟩ | ⟨gs, cap, cur2, rfl, hgs, hh2, q1, q2, q3, q4⟩
 ·subst hn
  obtain rfl : n = 0 := by omega
  have hrun := run_copy_zero w o.type g
  unfold Oper.wp
  simp [execOp, ho, resolve, invoke, builtin, hd, hs, hrun, Result.andThen]
  exact hK' _ _ (hK w ⟨by simp, cs0, h1, fun i hi => by omega⟩ (World.grownBy.refl _ _))
 ·have hl : cs.length = m * 2 := k1.1
  have hone : ∀ v ∈ cs.take (n * 2), v.oneCell' = true := by
   intro v hv
   obtain ⟨j, hj, hjv⟩ := List.getElem_of_mem (List.mem_of_mem_take hv)
   obtain ⟨x, y, e1, e2, e3⟩ := k2 (j / 2) (by omega)
   obtain ⟨nb, ao', m', c', e4⟩ := e3.shape
   simp only [Value.agg.injEq, Array.mk.injEq, List.cons.injEq, and_true] at e4
   have hj' : cs[j]? = some v := by rw [List.getElem?_eq_getElem hj, hjv]
   rcases (show j = 2 * (j / 2) ∨ j = 2 * (j / 2) + 1 from by omega) with hjj | hjj
   ·rw [hjj, e1] at hj'; injection hj' with hj'; rw [← hj', e4.1]; rfl
   ·rw [hjj, e2] at hj'; injection hj' with hj'; rw [← hj', e4.2]; rfl
  have htl : (cs.take (n * 2)).length = n * 2 := by rw [List.length_take]; omega
  have hrun := run_copy_part w o.type g n m cap ⟨gs, 0, none⟩ cur (cs.take (n * 2)) hh r3 htl hnm (fun j v hj => World.ownsRow.cells k1 rfl j v (by
   rw [List.getElem?_take] at hj
   split at hj
   ·exact hj
   ·simp at hj)) hone
  unfold Oper.wp
  simp [execOp, ho, resolve, invoke, builtin, hd, hs, hrun, Result.andThen]
  have hgrow : w.grownBy (w.setRow g (cs.take (n * 2)).toArray) (some g) := ⟨rfl, rfl, rfl, by simp [World.setRow], fun k _ hne => setRow_other w g k _ (fun e => hne (by simp [e]))⟩
  have hku : KU w (w.setRow g (cs.take (n * 2)).toArray) := KU.grown hgrow (fun k hk => by simp at hk; subst hk; exact hty)
  have hG : Grid (w.setRow g (cs.take (n * 2)).toArray) (.slice (some ⟨g, 0, none⟩) n n) n (zs.take n) L := by
   refine ⟨by rw [List.length_take]; omega, cs.take (n * 2), ⟨htl, .inr ⟨g, n, (cs.take (n * 2)).toArray, rfl, Nat.zero_le _, setRow_heap w g _ _ _ _ hh, Nat.le_refl _, r2, by simpa using htl, ?_⟩⟩, fun i hi => ?_⟩
   ·rw [List.take_of_length_le (by simp [htl])]
   ·obtain ⟨x, y, e1, e2, e3⟩ := k2 i (by omega)
    refine ⟨x, y, by rw [List.getElem?_take, if_pos (by omega)]; exact e1, by rw [List.getElem?_take, if_pos (by omega)]; exact e2, ?_⟩
    rw [show (zs.take n).getD i 0 = zs.getD i 0 from by simp [List.getD, hi]]
    exact e3.keep hku
  exact hK' _ _ (hK _ hG hgrow)
set_option maxRecDepth 100000 in
set_option maxHeartbeats 2000000 in
theorem fromCells_part (r c m : Nat) (sv : Value) (zs : List Int) (L : Nat) (w : World) (hr : r ≤ 99) (hc : c ≤ 99) (hnm : r * c ≤ m) (hg : Grid w sv m zs L) :
 Calls Tryd.prog 54 #[.int .i64 r, .int .i64 c, sv] w fun e w' => ∃ g, e = .returned (.agg #[.int .i64 r, .int .i64 c, .slice (some ⟨g, 0, none⟩) (r * c) (r * c)]) ∧ w.heap.size ≤ g ∧ Grid w' (.slice (some ⟨g, 0, none⟩) (r * c) (r * c)) (r * c) (zs.take (r * c)) L ∧ Below w.heap.size w w' := by
 obtain ⟨ao, cap, rfl, -⟩ := hg.shape
 have HG := Hid.mk hg
 have HNM := Hid.mk hnm
 clear hg hnm
 go_enter Tryd.func54, Tryd.ntmps54
 go_wp2_with fail
 refine (noughts_any r c _ hr hc).mono ?_
 rintro e w2 ⟨g, rfl, hgn, hg2, hb2⟩
 obtain ⟨hc2, hf2⟩ := bcell hb2
 have hsz2 : w.heap.size < w2.heap.size := by have := hb2.size; simp at this; omega
 have hgl : g < w2.heap.size := hg2.ty.lt
 have hgn2 : w.heap.size + 1 ≤ g := by simpa using hgn
 have hbw : Below w.heap.size w w2 := by
  refine Below.trans ?_ (hb2.mono (by simp <;> omega))
  repeat (first | exact Below.refl _ _ | refine Below.alloc ?_ (by simp <;> omega) _)
 have hres : w2.heap[w.heap.size]? = some (.cells #[.int .i64 0, .int .i64 0, .slice none 0 0] 63 (0, 0)) := by
  rw [hb2.block _ (by simp)]; exact heap_alloc_new w _
 have H2 := Hid.mk (And.intro hg2 (And.intro hbw hres))
 clear hgn hg2 hb2 hbw hres hc2 hf2
 go_wp2_with (refine copy_part _ rfl (.tmp 12) (.tmp 13) rfl g (r * c) m _ (List.replicate (r * c) 0) zs 0 L HNM.out rfl rfl ?_ ?_ ?_)
 ·exact H2.out.1.below ((Below.refl _ _).alloc (Nat.le_refl _) _)
 ·exact (HG.out.below H2.out.2.1).below ((Below.refl _ _).alloc (Nat.le_refl _) _)
 intro w3 hg3 hgr3
 obtain ⟨W2, hW2⟩ : ∃ W2, W2 = w2.alloc (.cells #[.int .i64 r, .int .i64 c, .slice (some ⟨g, 0, none⟩) (r * c) (r * c)] 63) := ⟨_, rfl⟩
 rw [← hW2] at hgr3
 have p0 : W2.cell? ⟨w2.heap.size, 0, none⟩ = some (.int .i64 r) := by rw [hW2]; simp
 have p1 : W2.cell? ⟨w2.heap.size, 1, none⟩ = some (.int .i64 c) := by rw [hW2]; simp
 have p2 : W2.cell? ⟨w2.heap.size, 2, none⟩ = some (.slice (some ⟨g, 0, none⟩) (r * c) (r * c)) := by rw [hW2]; simp
 have q0 := hgr3.cell p0 (by simp; omega)
 have q1 := hgr3.cell p1 (by simp; omega)
 have q2 := hgr3.cell p2 (by simp; omega)
 have hW2s : W2.heap.size = w2.heap.size + 1 := by rw [hW2]; simp
 have hres3 : w3.heap[w.heap.size]? = some (.cells #[.int .i64 0, .int .i64 0, .slice none 0 0] 63 (0, 0)) := by
  rw [hgr3.block _ (by omega) (by simp; omega), hW2, Below.heap_alloc _ _ _ (by omega)]; exact H2.out.2.2
 have hB3 : Below w.heap.size w w3 := by
  have h1 : Below w.heap.size w W2 := by rw [hW2]; exact H2.out.2.1.alloc (by omega) _
  exact h1.grown hgr3 (by omega) (fun j hj => by simp at hj; omega)
 have r0 : w3.cell? ⟨w.heap.size, 0, none⟩ = some (.int .i64 0) := by simp [World.cell?, hres3]
 have r1 : w3.cell? ⟨w.heap.size, 1, none⟩ = some (.int .i64 0) := by simp [World.cell?, hres3]
 have r2 : w3.cell? ⟨w.heap.size, 2, none⟩ = some (.slice none 0 0) := by simp [World.cell?, hres3]
 have z0 : w3.frozen? ⟨w.heap.size, 0, none⟩ = false := by simp [World.frozen?, hres3]
 have z1 : w3.frozen? ⟨w.heap.size, 1, none⟩ = false := by simp [World.frozen?, hres3]
 have z2 : w3.frozen? ⟨w.heap.size, 2, none⟩ = false := by simp [World.frozen?, hres3]
 have HT : Hid (Ty w3 w.heap.size 63) := Hid.mk ⟨_, _, hres3⟩
 have H3 := Hid.mk (And.intro hg3 hB3)
 clear hg3 hB3 hgr3 hres3 p0 p1 p2 hW2 hW2s H2 HG HNM
 go_wp2_with fail
 refine bodyPost_ret (v := .agg #[.int .i64 r, .int .i64 c, .slice (some ⟨g, 0, none⟩) (r * c) (r * c)]) ?_ rfl ?_
 ·(simp [results, Tryd.results54, go_sem, r0, r1, r2]; done)
 ·refine ⟨g, rfl, by omega, H3.out.1.keep (KT.setCell (KT.setCell (KT.setCell (KT.refl _) HT.out (by decide) (by decide) _) (HT.out.setCell _ _) (by decide) (by decide) _) ((HT.out.setCell _ _).setCell _ _) (by decide) (by decide) _), ?_⟩
  exact ((H3.out.2.setCell (Nat.le_refl _) _).setCell (Nat.le_refl _) _).setCell (Nat.le_refl _) _
open Go.RowKit
theorem take_ent (zs : List Int) {k c i j : Nat} (hi : i < k) (hj : j < c) : ent c (zs.take (k * c)) i j = ent c zs i j := by
 unfold ent
 have := idx_lt hi hj
 simp [List.getD, this]
set_option maxRecDepth 100000 in
set_option maxHeartbeats 2000000 in
theorem basis_any (v : Value) (r c k : Nat) (hs us ws : List Int) (L : Nat) (w : World) (hf : IsF w v r c k hs us ws L) (hk : k ≤ r) :
 Calls Tryd.prog 47 #[v] w fun e w' => ∃ x ms, e = .returned x ∧ IsM w' x k c ms L ∧ (∀ i j, i < k → j < c → ent c ms i j = ent c hs i j) ∧ Below w.heap.size w w' := by
 obtain ⟨sH, sU, sW, rfl, mH, mU, mW⟩ := hf
 obtain ⟨oH, cH, rfl⟩ := mH.slice
 obtain ⟨oU, cU, rfl⟩ := mU.slice
 obtain ⟨oW, cW, rfl⟩ := mW.slice
 have hr := mH.1
 have hc := mH.2.1
 have HM := Hid.mk mH
 have HNM := Hid.mk (Nat.mul_le_mul_right c hk)
 clear mH mU mW
 obtain ⟨N, hN⟩ : ∃ N, N = r * c := ⟨_, rfl⟩
 obtain ⟨M, hM⟩ : ∃ M, M = r * r := ⟨_, rfl⟩
 rw [← hN] at HM HNM ⊢
 rw [← hM]
 have HN := Hid.mk hN
 clear hN hM
 go_enter Tryd.func47, Tryd.ntmps47
 go_wp2_with fail
 obtain ⟨W0, hW0⟩ : ∃ W0, W0 = (w.alloc (.cells #[.int .i64 r, .int .i64 c, .slice oH N cH, .int .i64 r, .int .i64 r, .slice oU M cU, .int .i64 r, .int .i64 r, .slice oW M cW, .int .i64 k] 71)).alloc (.cells #[.int .i64 0, .int .i64 0, .slice none 0 0] 63) := ⟨_, rfl⟩
 have hs0 : W0.heap.size = w.heap.size + 2 := by rw [hW0]; simp
 have hb0 : Below w.heap.size w W0 := by rw [hW0]; repeat (first | exact Below.refl _ _ | refine Below.alloc ?_ (by simp <;> omega) _)
 have hR0 : W0.heap[w.heap.size + 1]? = some (.cells #[.int .i64 0, .int .i64 0, .slice none 0 0] 63 (0, 0)) := by
  rw [hW0]
  have := heap_alloc_new (w.alloc (.cells #[.int .i64 r, .int .i64 c, .slice oH N cH, .int .i64 r, .int .i64 r, .slice oU M cU, .int .i64 r, .int .i64 r, .slice oW M cW, .int .i64 k] 71)) (.cells #[.int .i64 0, .int .i64 0, .slice none 0 0] 63)
  simpa using this
 have K0 := Hid.mk (And.intro hb0 hR0)
 rw [← hW0]
 clear hb0 hR0 hW0
 have hGr : Grid W0 (.slice oH N cH) N hs L := by
  obtain ⟨_, _, sl, e, hg⟩ := HM.out
  simp only [Value.agg.injEq, Array.mk.injEq, List.cons.injEq, and_true, true_and] at e
  rw [e, HN.out]
  exact hg.below K0.out.1
 refine (fromCells_part k c N _ hs L _ (by omega) hc HNM.out hGr).mono ?_
 rintro e w1 ⟨g, rfl, hg1, hG1, hb1⟩
 have hw1 : W0.heap.size ≤ w1.heap.size := hb1.size
 have hR : w1.heap[w.heap.size + 1]? = some (.cells #[.int .i64 0, .int .i64 0, .slice none 0 0] 63 (0, 0)) := (hb1.block _ (by omega)).trans K0.out.2
 have r0 : w1.cell? ⟨w.heap.size + 1, 0, none⟩ = some (.int .i64 0) := by simp [World.cell?, hR]
 have r1 : w1.cell? ⟨w.heap.size + 1, 1, none⟩ = some (.int .i64 0) := by simp [World.cell?, hR]
 have r2 : w1.cell? ⟨w.heap.size + 1, 2, none⟩ = some (.slice none 0 0) := by simp [World.cell?, hR]
 have f0 : ∀ o, w1.frozen? ⟨w.heap.size + 1, o, none⟩ = false := fun o => by simp [World.frozen?, hR]
 have HT : Hid (Ty w1 (w.heap.size + 1) 63) := Hid.mk ⟨_, _, hR⟩
 have K1 := Hid.mk (And.intro hG1 (K0.out.1.trans (hb1.mono (by omega))))
 clear hR hG1 hb1 hGr
 go_wp2_with fail
 refine bodyPost_ret (v := .agg #[.int .i64 k, .int .i64 c, .slice (some ⟨g, 0, none⟩) (k * c) (k * c)]) ?_ rfl ?_
 ·(simp [results, Tryd.results47, go_sem, r0, r1, r2]; done)
 ·have h3 := set3 w1 (w.heap.size + 1) HT.out (by decide) (.int .i64 k) (.int .i64 c) (.slice (some ⟨g, 0, none⟩) (k * c) (k * c))
  exact ⟨_, _, rfl, ⟨by omega, hc, _, rfl, K1.out.1.besides h3.2 h3.1 (by omega)⟩, fun i j hi hj => take_ent hs hi hj, K1.out.2.trans (below_of_grown h3.2 (by omega) K1.out.2.size)⟩
theorem Grid.at2 {w : World} {ao : Option Addr} {n cap L : Nat} {zs : List Int} (h : Grid w (.slice ao n cap) n zs L) (k : Nat) (hk : k < n) : ∃ g nb bo m ecap, ao = some ⟨g, 0, none⟩ ∧ w.cell? ⟨g, k * 2, none⟩ = some (.bool nb) ∧ w.cell? ⟨g, k * 2 + 1, none⟩ = some (.slice bo m ecap) ∧ IsI w (.agg #[.bool nb, .slice bo m ecap]) (zs.getD k 0) L := by
 obtain ⟨ao', cap', e, -, -, hao⟩ := h.shape
 obtain ⟨g, hg⟩ := hao k hk
 simp only [Value.slice.injEq] at e
 obtain ⟨rfl, -, rfl⟩ := e
 subst hg
 obtain ⟨nb, bo, m, ecap, c1, c2, hI⟩ := h.cell k hk
 rw [Nat.mul_comm 2] at c1 c2
 exact ⟨g, nb, bo, m, ecap, rfl, c1, c2, hI⟩
def Sp (H : Nat → Nat → Int) (k c : Nat) (v : Nat → Int) : Prop := ∃ x : Nat → Int, ∀ j, j < c → v j = sm (fun l => x l * H l j) k
theorem Sp.sub {H : Nat → Nat → Int} {k c : Nat} {v w : Nat → Int} (h : Sp H k c v) (h' : Sp H k c w) : Sp H k c (fun j => v j - w j) := by
 obtain ⟨x, hx⟩ := h
 obtain ⟨y, hy⟩ := h'
 refine ⟨fun l => x l - y l, fun j hj => ?_⟩
 show v j - w j = _
 rw [hx j hj, hy j hj, sm_sub]
 exact sm_congr k (fun l _ => by grind)
theorem Sp.row (H : Nat → Nat → Int) {k b : Nat} (c : Nat) (hb : b < k) : Sp H k c (H b) :=
 ⟨fun l => if l = b then 1 else 0, fun j _ => by
   rw [sm_one k b hb (fun l _ hne => by show (if l = b then (1 : Int) else 0) * H l j = 0; rw [if_neg hne]; simp)]
   simp⟩
theorem first_ne (x : Nat → Int) (k : Nat) : (∀ l, l < k → x l = 0) ∨ ∃ b, b < k ∧ x b ≠ 0 ∧ ∀ l, l < b → x l = 0 := by
 induction k with
 | zero => exact .inl (fun l h => by omega)
 | succ k ih =>
   rcases ih with h | ⟨b, h1, h2, h3⟩
   ·by_cases hk : x k = 0
    ·exact .inl (fun l hl => by
      by_cases e : l = k
      ·rw [e]; exact hk
      ·exact h l (by omega))
    ·exact .inr ⟨k, by omega, hk, h⟩
   ·exact .inr ⟨b, by omega, h2, h3⟩
theorem EchSt.lead {r c k : Nat} {pc : Nat → Nat} {H : Nat → Nat → Int} (h : EchSt r c k pc H) {v : Nat → Int} (hv : Sp H k c v) : (∀ j, j < c → v j = 0) ∨ ∃ b, b < k ∧ (∀ j, j < pc b → v j = 0) ∧ v (pc b) ≠ 0 ∧ H b (pc b) ∣ v (pc b) := by
 obtain ⟨x, hx⟩ := hv
 rcases first_ne x k with h0 | ⟨b, h1, h2, h3⟩
 ·exact .inl (fun j hj => by rw [hx j hj]; exact sm_zero k (fun l hl => by rw [h0 l hl]; simp))
 ·have hle := h.le
  have hcb := h.col b h1
  have hz : ∀ j, j < pc b → v j = 0 := fun j hj => by
   rw [hx j (by omega)]
   refine sm_zero k (fun l hl => ?_)
   by_cases hlb : l < b
   ·rw [h3 l hlb]; simp
   ·have : pc b ≤ pc l := by
     by_cases e : l = b
     ·rw [e]; exact Nat.le_refl _
     ·exact Nat.le_of_lt (h.up b l (by omega) hl)
    rw [h.left l hl j (by omega)]; simp
  have hp : v (pc b) = x b * H b (pc b) := by
   rw [hx _ hcb]
   refine sm_one k b h1 (fun l hl hne => ?_)
   by_cases hlb : l < b
   ·rw [h3 l hlb]; simp
   ·rw [h.below b h1 l (by omega) (by omega)]; simp
  have hpos := h.piv b h1
  refine .inr ⟨b, h1, hz, ?_, ?_⟩
  ·rw [hp]
   intro e
   rcases Int.mul_eq_zero.1 e with e | e
   ·exact h2 e
   ·omega
  ·rw [hp]; exact Int.dvd_mul_left _ _
theorem EchSt.match_ {r r' c k k' : Nat} {pc pc' : Nat → Nat} {H H' : Nat → Nat → Int} (h : EchSt r c k pc H) (h' : EchSt r' c k' pc' H') (hs : ∀ b, b < k → Sp H' k' c (H b)) (b : Nat) (hb : b < k) : ∃ b', b' < k' ∧ pc' b' = pc b ∧ H' b' (pc' b') ∣ H b (pc b) := by
 have hp := h.piv b hb
 have hc := h.col b hb
 rcases h'.lead (hs b hb) with h0 | ⟨b', h1, h2, h3, h4⟩
 ·have := h0 _ hc; omega
 ·have e : pc' b' = pc b := by
   rcases Nat.lt_trichotomy (pc' b') (pc b) with hlt | heq | hgt
   ·exact absurd (h.left b hb _ hlt) h3
   ·exact heq
   ·have := h2 _ hgt; omega
  rw [e] at h4
  exact ⟨b', h1, e, by rw [e]; exact h4⟩
theorem EchSt.cols {r r' c k k' : Nat} {pc pc' : Nat → Nat} {H H' : Nat → Nat → Int} (h : EchSt r c k pc H) (h' : EchSt r' c k' pc' H') (hs : ∀ b, b < k → Sp H' k' c (H b)) (hs' : ∀ b, b < k' → Sp H k c (H' b)) : ∀ b, b < k → b < k' ∧ pc' b = pc b := by
 intro b
 induction b using Nat.strongRecOn with
 | _ b ih =>
   intro hb
   obtain ⟨b', h1, h2, -⟩ := h.match_ h' hs b hb
   rcases Nat.lt_trichotomy b' b with hlt | heq | hgt
   ·have e1 := (ih b' hlt (by omega)).2
    have e2 := h.up b' b hlt hb
    omega
   ·subst heq; exact ⟨h1, h2⟩
   ·obtain ⟨b2, h3, h4, -⟩ := h'.match_ h hs' b (by omega)
    have e1 := h'.up b b' hgt h1
    have e2 : b2 < b := by
     rcases Nat.lt_trichotomy b2 b with hl | he | hg
     ·exact hl
     ·subst he; omega
     ·have := h.up b b2 hg h3; omega
    have e3 := ih b2 e2 (by omega)
    have e4 := h'.up b2 b e2 (by omega)
    omega
theorem EchSt.uniq {r r' c k k' : Nat} {pc pc' : Nat → Nat} {H H' : Nat → Nat → Int} (h : EchSt r c k pc H) (h' : EchSt r' c k' pc' H') (hs : ∀ b, b < k → Sp H' k' c (H b)) (hs' : ∀ b, b < k' → Sp H k c (H' b)) : k = k' ∧ ∀ b j, b < k → j < c → H b j = H' b j := by
 have c1 := h.cols h' hs hs'
 have c2 := h'.cols h hs' hs
 have hk : k = k' := by
  rcases Nat.lt_trichotomy k k' with hl | he | hg
  ·have := c2 k hl; omega
  ·exact he
  ·have := c1 k' hg; omega
 subst hk
 have hpiv : ∀ b, b < k → H b (pc b) = H' b (pc b) := fun b hb => by
  obtain ⟨b1, h1, h2, h3⟩ := h.match_ h' hs b hb
  obtain ⟨b2, h4, h5, h6⟩ := h'.match_ h hs' b hb
  have e1 := (c1 b hb).2
  have e2 : b1 = b := by
   rcases Nat.lt_trichotomy b1 b with hl | he | hg
   ·have := h'.up b1 b hl hb; omega
   ·exact he
   ·have := h'.up b b1 hg h1; omega
  have e3 : b2 = b := by
   rcases Nat.lt_trichotomy b2 b with hl | he | hg
   ·have := h.up b2 b hl hb; omega
   ·exact he
   ·have := h.up b b2 hg h4; omega
  subst e2
  subst e3
  rw [e1] at h3 h6
  have p1 := h.piv _ hb
  have p2 := h'.piv _ hb
  rw [e1] at p2
  exact Int.dvd_antisymm (by omega) (by omega) h6 h3
 refine ⟨rfl, fun b j hb hj => ?_⟩
 have hsp : Sp H k c (fun j => H b j - H' b j) := (Sp.row H c hb).sub (hs' b hb)
 rcases h.lead hsp with h0 | ⟨l, h1, h2, h3, h4⟩
 ·have e := h0 j hj
  have e2 : H b j - H' b j = 0 := e
  omega
 ·exfalso
  have e3 : H b (pc l) - H' b (pc l) ≠ 0 := h3
  have e4 : H l (pc l) ∣ H b (pc l) - H' b (pc l) := h4
  have cl := (c1 l h1).2
  rcases Nat.lt_trichotomy l b with hl | he | hg
  ·have a1 := h.below l h1 b hl (by have := h.le; omega)
   have a2 := h'.below l (c1 l h1).1 b hl (by have := h'.le; omega)
   rw [cl] at a2
   omega
  ·subst he
   have := hpiv l hb
   omega
  ·obtain ⟨a1, a2⟩ := h.above l h1 b hg
   have a3 := h'.above l (c1 l h1).1 b hg
   rw [cl, ← hpiv l h1] at a3
   obtain ⟨m, hm⟩ := e4
   have a5 : (H b (pc l) - H' b (pc l)).natAbs < (H l (pc l)).natAbs := by omega
   rw [hm, Int.natAbs_mul] at a5
   have a6 : m ≠ 0 := by
    intro e; rw [e, Int.mul_zero] at hm; omega
   have a7 := Nat.mul_le_mul_left (H l (pc l)).natAbs (show 1 ≤ m.natAbs by omega)
   omega
def exV (H : Nat → Nat → Int) (pc : Nat → Nat) (v : Nat → Int) : Nat → Nat → Int
 | 0 => v
 | t + 1 => fun j => exV H pc v t j - H t j * (exV H pc v t (pc t)).fdiv (H t (pc t))
def exQ (H : Nat → Nat → Int) (pc : Nat → Nat) (v : Nat → Int) (t : Nat) : Int := (exV H pc v t (pc t)).fdiv (H t (pc t))
theorem exV_sum (H : Nat → Nat → Int) (pc : Nat → Nat) (v : Nat → Int) (j : Nat) : ∀ t, v j = exV H pc v t j + sm (fun l => exQ H pc v l * H l j) t := by
 intro t
 induction t with
 | zero => simp [exV, sm]
 | succ t ih =>
   rw [exV, sm, ih]
   unfold exQ
   grind
theorem ex_back {H : Nat → Nat → Int} {pc : Nat → Nat} {v : Nat → Int} {k c : Nat} (h : ∀ j, j < c → exV H pc v k j = 0) (j : Nat) (hj : j < c) : v j = sm (fun l => exQ H pc v l * H l j) k := by
 have := exV_sum H pc v j k
 rw [h j hj] at this
 omega
theorem fdiv_just (x y : Int) (hy : y ≠ 0) : (x * y).fdiv y = x := by
 have h := rem_dvd (x := x * y) hy (Int.dvd_mul_left _ _)
 unfold rem at h
 have h2 : y * (x - (x * y).fdiv y) = 0 := by grind
 rcases Int.mul_eq_zero.1 h2 with h3 | h3
 ·exact absurd h3 hy
 ·omega
theorem EchSt.ex_span {r c k : Nat} {pc : Nat → Nat} {H : Nat → Nat → Int} (h : EchSt r c k pc H) {v : Nat → Int} (hv : Sp H k c v) (j : Nat) (hj : j < c) : exV H pc v k j = 0 := by
 obtain ⟨x, hx⟩ := hv
 have hle := h.le
 have key : ∀ t, t ≤ k → ∀ j, j < c → exV H pc v t j = sm (fun l => (if l < t then 0 else x l) * H l j) k := by
  intro t
  induction t with
  | zero => intro _ j hj; rw [exV, hx j hj]; exact sm_congr k (fun l _ => by rw [if_neg (by omega)])
  | succ t ih =>
    intro ht j hj
    have hc := h.col t (by omega)
    have hp := h.piv t (by omega)
    have e1 : exV H pc v t (pc t) = x t * H t (pc t) := by
     rw [ih (by omega) _ hc]
     rw [sm_one k t (by omega) (fun l hl hne => ?_)]
     ·rw [if_neg (Nat.lt_irrefl t)]
     ·show (if l < t then 0 else x l) * H l (pc t) = 0
      by_cases hlt : l < t
      ·rw [if_pos hlt]; simp
      ·rw [h.below t (by omega) l (by omega) (by omega)]; simp
    show exV H pc v t j - H t j * (exV H pc v t (pc t)).fdiv (H t (pc t)) = _
    rw [e1, fdiv_just _ _ (by omega), ih (by omega) j hj]
    have e2 : H t j * x t = sm (fun l => (if l = t then x t else 0) * H l j) k := by
     rw [sm_one k t (by omega) (fun l hl hne => by show (if l = t then x t else 0) * H l j = 0; rw [if_neg hne]; simp)]
     rw [if_pos rfl]; grind
    rw [e2, sm_sub]
    refine sm_congr k (fun l hl => ?_)
    by_cases hlt : l < t
    ·rw [if_pos hlt, if_neg (by omega), if_pos (by omega)]; simp
    ·by_cases he : l = t
     ·subst he; rw [if_neg (Nat.lt_irrefl l), if_pos rfl, if_pos (by omega)]; omega
     ·rw [if_neg hlt, if_neg he, if_neg (by omega)]; simp
 rw [key k (Nat.le_refl _) j hj]
 exact sm_zero k (fun l hl => by rw [if_pos hl]; simp)
theorem span_rows {r c k : Nat} {pc : Nat → Nat} {A H U W : Nat → Nat → Int} (h : EchSt r c k pc H) (hE : EInv A H U W r c) : (∀ i, i < r → Sp H k c (A i)) ∧ (∀ i, i < r → Sp A r c (H i)) := by
 have cut : ∀ (f : Nat → Int) n m, m ≤ n → (∀ l, m ≤ l → l < n → f l = 0) → sm f n = sm f m := by
  intro f n
  induction n with
  | zero => intro m hm _; rw [show m = 0 from by omega]
  | succ n ih =>
    intro m hm hz
    by_cases e : m = n + 1
    ·rw [e]
    ·rw [sm, hz n (by omega) (by omega), ih m (by omega) (fun l a b => hz l a (by omega))]; omega
 refine ⟨fun i hi => ⟨W i, fun j hj => ?_⟩, fun i hi => ⟨U i, fun j hj => ?_⟩⟩
 ·rw [← hE.wh i j hi hj, dot_sm]
  exact cut _ r k h.le (fun l a b => by rw [h.rest l a b j hj]; simp)
 ·rw [← hE.ua i j hi hj, dot_sm]
theorem Sp.trans {H A : Nat → Nat → Int} {k r c : Nat} {v : Nat → Int} (hv : Sp H k c v) (hH : ∀ i, i < k → Sp A r c (H i)) : Sp A r c v := by
 obtain ⟨x, hx⟩ := hv
 have key : ∀ n, n ≤ k → Sp A r c (fun j => sm (fun l => x l * H l j) n) := by
  intro n
  induction n with
  | zero => intro _; exact ⟨fun _ => 0, fun j _ => (sm_zero r (fun l _ => by simp)).symm⟩
  | succ n ih =>
    intro hn
    obtain ⟨y, hy⟩ := ih (by omega)
    obtain ⟨u, hu⟩ := hH n (by omega)
    refine ⟨fun l => y l + x n * u l, fun j hj => ?_⟩
    have e1 : sm (fun l => x l * H l j) n = sm (fun l => y l * A l j) r := hy j hj
    show sm (fun l => x l * H l j) (n + 1) = _
    rw [sm, e1, hu j hj]
    have := sm_lin 1 (x n) (fun l => y l * A l j) (fun l => u l * A l j) r
    rw [show sm (fun l => y l * A l j) r + x n * sm (fun l => u l * A l j) r = 1 * sm (fun l => y l * A l j) r + x n * sm (fun l => u l * A l j) r from by omega, ← this]
    exact sm_congr r (fun l _ => by grind)
 obtain ⟨y, hy⟩ := key k (Nat.le_refl _)
 exact ⟨y, fun j hj => by rw [hx j hj]; exact hy j hj⟩
def HasF (A : Nat → Nat → Int) (r c : Nat) : Prop := ∃ k pc H U W, EchSt r c k pc H ∧ EInv A H U W r c
open Go.RowKit
def SpEq (A B : Nat → Nat → Int) (r r' c : Nat) : Prop := (∀ i, i < r → Sp B r' c (A i)) ∧ ∀ i, i < r' → Sp A r c (B i)
theorem Sp.like {H H' : Nat → Nat → Int} {k c : Nat} {v : Nat → Int} (h : Sp H k c v) (he : ∀ b j, b < k → j < c → H b j = H' b j) : Sp H' k c v := by
 obtain ⟨x, hx⟩ := h
 exact ⟨x, fun j hj => (hx j hj).trans (sm_congr k fun l hl => by rw [he l j hl hj])⟩
theorem same_span {A B H H' U W U' W' : Nat → Nat → Int} {r r' c k k' : Nat} {pc pc' : Nat → Nat} (h : EchSt r c k pc H) (hE : EInv A H U W r c) (h' : EchSt r' c k' pc' H') (hE' : EInv B H' U' W' r' c) :
 (k = k' ∧ ∀ b j, b < k → j < c → H b j = H' b j) ↔ SpEq A B r r' c := by
 obtain ⟨s1, s2⟩ := span_rows h hE
 obtain ⟨t1, t2⟩ := span_rows h' hE'
 have l1 := h.le
 have l2 := h'.le
 constructor
 ·rintro ⟨rfl, he⟩
  exact ⟨fun i hi => ((s1 i hi).like he).trans (fun b hb => t2 b (by omega)), fun i hi => ((t1 i hi).like (fun b j hb hj => (he b j hb hj).symm)).trans (fun b hb => s2 b (by omega))⟩
 ·rintro ⟨e1, e2⟩
  exact h.uniq h' (fun b hb => ((s2 b (by omega)).trans e1).trans t1) (fun b hb => ((t2 b (by omega)).trans e2).trans s1)
theorem AlikeRel.ok {w : World} {ms : List Hm} {g h : Int} {a1 a2 b1 b2 : Int} {s1 s2 : Value} (H : AlikeRel w ms g h (.agg #[.int .i64 a1, .int .i64 a2, s1]) (.agg #[.int .i64 b1, .int .i64 b2, s2]) 0) :
 ∃ i hd r q zs j hd' r' ys, (i < 24 ∧ ms.getD i none = some (hd, r, q, zs) ∧ ((hd : Nat) : Int) = g ∧ j < 24 ∧ ms.getD j none = some (hd', r', q, ys) ∧ ((hd' : Nat) : Int) = h) ∧ (FitsP r q zs ∧ FitsP r' q ys) ∧ a1 = r ∧ a2 = q ∧ b1 = r' ∧ b2 = q ∧ IsM w (.agg #[.int .i64 r, .int .i64 q, s1]) r q zs 2 ∧ IsM w (.agg #[.int .i64 r', .int .i64 q, s2]) r' q ys 2 := by
 rcases H with ⟨h1, h⟩ | ⟨i, hd, r, q, zs, j, hd', r', c, ys, h1, h2, h3, h4, h5, h6, h7⟩
 ·cases h
 ·rcases h7 with ⟨a, h⟩ | ⟨a, a', h⟩ | ⟨rfl, hf, -, m1, m2⟩
  ·cases h
  ·cases h
  ·obtain ⟨-, -, sl, e1, -⟩ := id m1
   obtain ⟨-, -, sl', e2, -⟩ := id m2
   simp only [Value.agg.injEq, Array.mk.injEq, List.cons.injEq, Value.int.injEq, true_and, and_true] at e1 e2
   obtain ⟨rfl, rfl, rfl⟩ := e1
   obtain ⟨rfl, rfl, rfl⟩ := e2
   exact ⟨i, hd, r, q, zs, j, hd', r', ys, ⟨h1, h2, h3, h4, h5, h6⟩, hf, rfl, rfl, rfl, rfl, m1, m2⟩
end Go.Proofs.YtfjbijpagaipnaaDoor
