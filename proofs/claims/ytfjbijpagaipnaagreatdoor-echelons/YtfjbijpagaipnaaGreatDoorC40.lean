import Derived.Test.YtfjbijpagaipnaaGreatDoorC39
import Derived.Deep.LoopGhost
/- The row form is told by the matrix alone. -/
namespace Go.Proofs.YtfjbijpagaipnaaGreatDoor
/-- H, U, W. -/
structure F3 where
  H : Nat → Nat → Int
  U : Nat → Nat → Int
  W : Nat → Nat → Int
/-- The same entries. -/
def F3.Eq (r c : Nat) (s t : F3) : Prop := (∀ i j, i < r → j < c → s.H i j = t.H i j) ∧ (∀ i j, i < r → j < r → s.U i j = t.U i j) ∧ (∀ i j, i < r → j < r → s.W i j = t.W i j)
theorem F3.Eq.symm {r c : Nat} {s t : F3} (h : F3.Eq r c s t) : F3.Eq r c t s := ⟨fun i j a b => (h.1 i j a b).symm, fun i j a b => (h.2.1 i j a b).symm, fun i j a b => (h.2.2 i j a b).symm⟩
theorem F3.Eq.trans {r c : Nat} {s t u : F3} (h : F3.Eq r c s t) (k : F3.Eq r c t u) : F3.Eq r c s u := ⟨fun i j a b => (h.1 i j a b).trans (k.1 i j a b), fun i j a b => (h.2.1 i j a b).trans (k.2.1 i j a b), fun i j a b => (h.2.2 i j a b).trans (k.2.2 i j a b)⟩
theorem F3.Eq.refl (r c : Nat) (s : F3) : F3.Eq r c s s := ⟨fun _ _ _ _ => rfl, fun _ _ _ _ => rfl, fun _ _ _ _ => rfl⟩
theorem LeastIs.uniq {f : Nat → Int} {a n : Nat} {z z' : Int} (h : LeastIs f a n z) (h' : LeastIs f a n z') : z = z' := by
  rcases h with ⟨i, i1, i2, rfl, i3, i4, i5⟩ | ⟨rfl, h0⟩
  · rcases h' with ⟨j, j1, j2, rfl, j3, j4, j5⟩ | ⟨rfl, h0⟩
    · rcases Nat.lt_trichotomy i j with h | h | h
      · have := j5 i i1 h i3; have := i4 j j1 j2 j3; omega
      · rw [h]
      · have := i5 j j1 h j3; have := j4 i i1 i2 i3; omega
    · exact absurd (h0 i i1 i2) i3
  · rcases h' with ⟨j, j1, j2, rfl, j3, j4, j5⟩ | ⟨rfl, -⟩
    · exact absurd (h0 j j1 j2) j3
    · rfl
/-- One round of gather. -/
def rd3 (r t i0 col : Nat) (s : F3) : F3 := ⟨rdH s.H s.H r t i0 col, rdH s.U s.H r t i0 col, rdW s.W s.H r t i0 col⟩
theorem lsH_congr {f g : Nat → Nat → Int} {q q' : Nat → Int} {first e p i j : Nat} (hp : f p j = g p j) (hi : f i j = g i j) (hq : first ≤ i → i < e → q i = q' i) : lsH f q first e p i j = lsH g q' first e p i j := by
  unfold lsH
  split
  · rename_i h; rw [hp, hi, hq h.1 h.2]
  · exact hi
theorem lsW_congr {f g : Nat → Nat → Int} {q q' : Nat → Int} {first e p i j : Nat} (hf : ∀ k, k < e → f i k = g i k) (hp : f i p = g i p) (hj : f i j = g i j) (hq : ∀ k, k < e → q k = q' k) : lsW f q first e p i j = lsW g q' first e p i j := by
  unfold lsW
  split
  · rw [hp, wsum_congr e hq hf]
  · exact hj
theorem rd3_congr {r c t i0 col : Nat} {s s' : F3} (h : F3.Eq r c s s') (ht : t < r) (hi0 : i0 < r) (hc : col < c) : F3.Eq r c (rd3 r t i0 col s) (rd3 r t i0 col s') := by
  have hq : ∀ i, i < r → rq s.H t i0 col i = rq s'.H t i0 col i := fun i hi => by
    unfold rq
    rw [h.1 _ _ (swq_lt ht hi0 hi) hc, h.1 _ _ (swq_lt ht hi0 ht) hc]
  refine ⟨fun i j hi hj => ?_, fun i j hi hj => ?_, fun i j hi hj => ?_⟩
  · exact lsH_congr (f := fun i j => s.H (swq t i0 i) j) (g := fun i j => s'.H (swq t i0 i) j) (q := rq s.H t i0 col) (q' := rq s'.H t i0 col) (h.1 _ _ (swq_lt ht hi0 ht) hj) (h.1 _ _ (swq_lt ht hi0 hi) hj) (fun _ _ => hq i hi)
  · exact lsH_congr (f := fun i j => s.U (swq t i0 i) j) (g := fun i j => s'.U (swq t i0 i) j) (q := rq s.H t i0 col) (q' := rq s'.H t i0 col) (h.2.1 _ _ (swq_lt ht hi0 ht) hj) (h.2.1 _ _ (swq_lt ht hi0 hi) hj) (fun _ _ => hq i hi)
  · exact lsW_congr (f := fun i j => s.W i (swq t i0 j)) (g := fun i j => s'.W i (swq t i0 j)) (q := rq s.H t i0 col) (q' := rq s'.H t i0 col) (fun k hk => h.2.2 _ _ hi (swq_lt ht hi0 hk)) (h.2.2 _ _ hi (swq_lt ht hi0 ht)) (h.2.2 _ _ hi (swq_lt ht hi0 hj)) (fun k hk => hq k hk)
/-- So many rounds of gather. -/
inductive GaTo (r c t col : Nat) (s0 : F3) : Nat → F3 → Prop
  | start (s : F3) : F3.Eq r c s0 s → GaTo r c t col s0 0 s
  | step (n i0 : Nat) (s s' : F3) : GaTo r c t col s0 n s → LeastIs (fun i => s.H i col) (if n = 0 then t else t + 1) r i0 → F3.Eq r c (rd3 r t i0 col s) s' → GaTo r c t col s0 (n + 1) s'
theorem least_at {r c col a : Nat} {s s' : F3} (h : F3.Eq r c s s') (hc : col < c) {z : Int} (hl : LeastIs (fun i => s.H i col) a r z) : LeastIs (fun i => s'.H i col) a r z := hl.congr (fun k _ hk => (h.1 k col hk hc).symm)
theorem GaTo.det {r c t col : Nat} {s0 s0' : F3} (h0 : F3.Eq r c s0 s0') (ht : t < r) (hc : col < c) : ∀ n s s', GaTo r c t col s0 n s → GaTo r c t col s0' n s' → F3.Eq r c s s' := by
  intro n
  induction n with
  | zero =>
    intro s s' h h'
    cases h with
    | start _ e => cases h' with
      | start _ e' => exact e.symm.trans (h0.trans e')
  | succ n ih =>
    intro s s' h h'
    cases h with
    | step n i0 a s g l e => cases h' with
      | step n i0' a' s' g' l' e' =>
        have h1 := ih a a' g g'
        have h2 : (i0 : Int) = i0' := (least_at h1 hc l).uniq l'
        have h3 : i0 = i0' := by omega
        subst h3
        have h4 : i0 < r := by rcases l with ⟨i, _, b, d, _⟩ | ⟨d, _⟩ <;> omega
        exact e.symm.trans ((rd3_congr h1 ht h4 hc).trans e')
theorem GaTo.past {r c t col : Nat} {s0 : F3} {m : Nat} {s' : F3} (h : GaTo r c t col s0 m s') : ∀ n, n < m → ∃ s i0, GaTo r c t col s0 n s ∧ LeastIs (fun i => s.H i col) (if n = 0 then t else t + 1) r (i0 : Nat) := by
  induction h with
  | start => intro n hn; omega
  | step k i0 a b g l e ih =>
    intro n hn
    by_cases hk : n = k
    · subst hk; exact ⟨a, i0, g, l⟩
    · exact ih n (by omega)
/-- The end of gather: the sign is turned, the rows above are lessened. -/
def sgn (t col : Nat) (s : F3) : Int := if s.H t col < 0 then -1 else 1
def tn3 (t col : Nat) (s : F3) : F3 := ⟨fun i j => if i = t then sgn t col s * s.H i j else s.H i j, fun i j => if i = t then sgn t col s * s.U i j else s.U i j, fun i j => if j = t then sgn t col s * s.W i j else s.W i j⟩
def fn3 (t col : Nat) (s : F3) : F3 := ⟨lsH (tn3 t col s).H (fun i => ((tn3 t col s).H i col).fdiv ((tn3 t col s).H t col)) 0 t t, lsH (tn3 t col s).U (fun i => ((tn3 t col s).H i col).fdiv ((tn3 t col s).H t col)) 0 t t, lsW (tn3 t col s).W (fun i => ((tn3 t col s).H i col).fdiv ((tn3 t col s).H t col)) 0 t t⟩
theorem fn3_congr {r c t col : Nat} {s s' : F3} (h : F3.Eq r c s s') (ht : t < r) (hc : col < c) : F3.Eq r c (fn3 t col s) (fn3 t col s') := by
  have hs : sgn t col s = sgn t col s' := by unfold sgn; rw [h.1 t col ht hc]
  have h1 : F3.Eq r c (tn3 t col s) (tn3 t col s') := by
    refine ⟨fun i j hi hj => ?_, fun i j hi hj => ?_, fun i j hi hj => ?_⟩
    · show (if i = t then _ else _) = (if i = t then _ else _)
      rw [hs, h.1 i j hi hj]
    · show (if i = t then _ else _) = (if i = t then _ else _)
      rw [hs, h.2.1 i j hi hj]
    · show (if j = t then _ else _) = (if j = t then _ else _)
      rw [hs, h.2.2 i j hi hj]
  have hq : ∀ i, i < r → ((tn3 t col s).H i col).fdiv ((tn3 t col s).H t col) = ((tn3 t col s').H i col).fdiv ((tn3 t col s').H t col) := fun i hi => by rw [h1.1 i col hi hc, h1.1 t col ht hc]
  refine ⟨fun i j hi hj => ?_, fun i j hi hj => ?_, fun i j hi hj => ?_⟩
  · exact lsH_congr (q := fun i => ((tn3 t col s).H i col).fdiv ((tn3 t col s).H t col)) (q' := fun i => ((tn3 t col s').H i col).fdiv ((tn3 t col s').H t col)) (h1.1 _ _ ht hj) (h1.1 _ _ hi hj) (fun _ _ => hq i hi)
  · exact lsH_congr (q := fun i => ((tn3 t col s).H i col).fdiv ((tn3 t col s).H t col)) (q' := fun i => ((tn3 t col s').H i col).fdiv ((tn3 t col s').H t col)) (h1.2.1 _ _ ht hj) (h1.2.1 _ _ hi hj) (fun _ _ => hq i hi)
  · exact lsW_congr (q := fun i => ((tn3 t col s).H i col).fdiv ((tn3 t col s).H t col)) (q' := fun i => ((tn3 t col s').H i col).fdiv ((tn3 t col s').H t col)) (fun k hk => h1.2.2 _ _ hi (by omega)) (h1.2.2 _ _ hi ht) (h1.2.2 _ _ hi hj) (fun k hk => hq k (by omega))
/-- What gather does. -/
def GaDoes (r c t col : Nat) (s0 : F3) (t' : Nat) (s' : F3) : Prop := ((∀ i, t ≤ i → i < r → s0.H i col = 0) ∧ t' = t ∧ F3.Eq r c s0 s') ∨
  (t < r ∧ t' = t + 1 ∧ ∃ n s1, GaTo r c t col s0 (n + 1) s1 ∧ LeastIs (fun i => s1.H i col) (t + 1) r (-1) ∧ F3.Eq r c (fn3 t col s1) s')
theorem GaTo.ne {r c t col n : Nat} {s0 s1 : F3} (h : GaTo r c t col s0 (n + 1) s1) (hc : col < c) : ¬ ∀ i, t ≤ i → i < r → s0.H i col = 0 := by
  intro h0
  obtain ⟨s, i0, g, l⟩ := h.past 0 (by omega)
  cases g with
  | start _ e =>
    rw [if_pos rfl] at l
    rcases l with ⟨i, i1, i2, -, i3, -⟩ | ⟨i1, -⟩
    · exact i3 (by show s.H i col = 0; rw [← e.1 i col i2 hc]; exact h0 i i1 i2)
    · omega
theorem GaDoes.det {r c t col t1 t2 : Nat} {s0 s0' s1 s2 : F3} (h0 : F3.Eq r c s0 s0') (hc : col < c) (h : GaDoes r c t col s0 t1 s1) (h' : GaDoes r c t col s0' t2 s2) : t1 = t2 ∧ F3.Eq r c s1 s2 := by
  rcases h with ⟨z, rfl, e⟩ | ⟨ht, rfl, n, a, g, l, e⟩
  · rcases h' with ⟨z', rfl, e'⟩ | ⟨ht', rfl, n', a', g', l', e'⟩
    · exact ⟨rfl, e.symm.trans (h0.trans e')⟩
    · exact absurd (fun i i1 i2 => by rw [← h0.1 i col i2 hc]; exact z i i1 i2) (g'.ne hc)
  · rcases h' with ⟨z', rfl, e'⟩ | ⟨ht', rfl, n', a', g', l', e'⟩
    · exact absurd (fun i i1 i2 => by rw [h0.1 i col i2 hc]; exact z' i i1 i2) (g.ne hc)
    · refine ⟨rfl, ?_⟩
      have key : ∀ {n m : Nat} {x y p q : F3}, F3.Eq r c x y → GaTo r c t col x (n + 1) p → GaTo r c t col y (m + 1) q → LeastIs (fun i => p.H i col) (t + 1) r (-1) → n < m → False := by
        intro n m x y p q hxy gp gq lp hnm
        obtain ⟨s, i0, gs, ls⟩ := gq.past (n + 1) (by omega)
        rw [if_neg (by omega)] at ls
        have := least_at (GaTo.det hxy ht hc (n + 1) p s gp gs) hc lp
        have := this.uniq ls
        omega
      rcases Nat.lt_trichotomy n n' with h1 | h1 | h1
      · exact (key h0 g g' l h1).elim
      · subst h1
        exact e.symm.trans ((fn3_congr (GaTo.det h0 ht hc _ _ _ g g') ht hc).trans e')
      · exact (key h0.symm g' g l' h1).elim
/-- The columns ahead of n are gathered. -/
inductive EcTo (r c : Nat) (A : Nat → Nat → Int) : Nat → Nat → F3 → Prop
  | start (s : F3) : F3.Eq r c ⟨A, kd, kd⟩ s → EcTo r c A 0 0 s
  | step (n t t' : Nat) (s s' : F3) : EcTo r c A n t s → GaDoes r c t n s t' s' → EcTo r c A (n + 1) t' s'
theorem EcTo.det {r c : Nat} {A : Nat → Nat → Int} : ∀ n, n ≤ c → ∀ t1 t2 s1 s2, EcTo r c A n t1 s1 → EcTo r c A n t2 s2 → t1 = t2 ∧ F3.Eq r c s1 s2 := by
  intro n
  induction n with
  | zero =>
    intro _ t1 t2 s1 s2 h h'
    cases h with
    | start _ e => cases h' with
      | start _ e' => exact ⟨rfl, e.symm.trans e'⟩
  | succ n ih =>
    intro hn t1 t2 s1 s2 h h'
    cases h with
    | step _ a _ x _ g d => cases h' with
      | step _ a' _ x' _ g' d' =>
        obtain ⟨rfl, e⟩ := ih (by omega) a a' x x' g g'
        exact d.det e (by omega) d'
end Go.Proofs.YtfjbijpagaipnaaGreatDoor

/- grid.RowForm: gather. -/
namespace Go.Proofs.YtfjbijpagaipnaaGreatDoor
open Go.RowKit

/-- How great the numbers may be in a column's gathering. -/
structure GaBd (H U W : Nat → Nat → Int) (r c t col L X MH MU MW KH KU KW : Nat) : Prop where
  hX : ∀ i, t ≤ i → i < r → (H i col).natAbs ≤ X
  hM : Bd H U W r c t 1 MH MU MW
  k1 : MH ≤ KH
  k2 : MU ≤ KU
  k3 : MW ≤ KW
  k4 : t + 1 < r → MH * ((1 + 7 * X) * X ^ 8) ≤ KH ∧ MU * ((1 + 7 * X) * X ^ 8) ≤ KU ∧ MW * ((1 + 7 * X) * X ^ 8) ≤ KW
  l1 : KH < 4294967296 ^ L
  l2 : KU < 4294967296 ^ L
  l3 : KW < 4294967296 ^ L
/-- The three, as functions. -/
def e3 (r c : Nat) (hs us ws : List Int) : F3 := ⟨ent c hs, ent r us, ent r ws⟩
/-- What gather leaves: no pivot in the column, or the next. -/
def GaOut (w w' : World) (B pb gH gU gW r c t col : Nat) (hs us ws : List Int) (A : Nat → Nat → Int) (L KH KU KW : Nat) : Prop :=
  Below B w w' ∧ (((∀ i, t ≤ i → i < r → ent c hs i col = 0) ∧ FormO w' B pb gH gU gW r c t hs us ws L) ∨
    (t < r ∧ ∃ hs' us' ws', FormO w' B pb gH gU gW r c (t + 1) hs' us' ws' (2 * L + 1) ∧ EInv A (ent c hs') (ent r us') (ent r ws') r c ∧ GaEnd (ent c hs) (ent r us) r c t col (ent c hs') (ent r us') (ent r ws') KH KU KW ∧ GaDoes r c t col (e3 r c hs us ws) (t + 1) (e3 r c hs' us' ws')))
/-- The end of gather, as a function. -/
theorem ga_does {r c t col : Nat} {hs us ws hs1 us1 ws1 hs5 us5 ws5 : List Int} {H4 U4 W4 : Nat → Nat → Int} {z : Int} (ht : t < r) (hT : ∃ n, GaTo r c t col (e3 r c hs us ws) (n + 1) (e3 r c hs1 us1 ws1)) (hl : LeastIs (fun i => ent c hs1 i col) (t + 1) r z) (hz : z < 0) (σ : Int) (hσ : sgn t col (e3 r c hs1 us1 ws1) = σ)
    (x1 : ∀ i j, i < r → j < c → H4 i j = if i = t then σ * ent c hs1 i j else ent c hs1 i j) (x2 : ∀ i j, i < r → j < r → U4 i j = if i = t then σ * ent r us1 i j else ent r us1 i j) (x3 : ∀ i j, i < r → j < r → W4 i j = if j = t then σ * ent r ws1 i j else ent r ws1 i j)
    (q : Nat → Int) (hq : ∀ i, i < r → q i = (H4 i col).fdiv (H4 t col)) (hc : col < c) (y1 : ∀ i j, i < r → j < c → ent c hs5 i j = lsH H4 q 0 t t i j) (y2 : ∀ i j, i < r → j < r → ent r us5 i j = lsH U4 q 0 t t i j) (y3 : ∀ i j, i < r → j < r → ent r ws5 i j = lsW W4 q 0 t t i j) :
    GaDoes r c t col (e3 r c hs us ws) (t + 1) (e3 r c hs5 us5 ws5) := by
  obtain ⟨n, hT⟩ := hT
  have hz1 : z = -1 := by rcases hl with ⟨i, _, _, d, _⟩ | ⟨d, _⟩ <;> omega
  subst hz1
  have hqq : ∀ i, i < r → ((tn3 t col (e3 r c hs1 us1 ws1)).H i col).fdiv ((tn3 t col (e3 r c hs1 us1 ws1)).H t col) = q i := fun i hi => by
    rw [hq i hi, x1 i col hi hc, x1 t col ht hc]
    unfold tn3
    rw [hσ]
    rfl
  refine .inr ⟨ht, rfl, n, _, hT, hl, fun i j hi hj => ?_, fun i j hi hj => ?_, fun i j hi hj => ?_⟩
  · show lsH (tn3 t col (e3 r c hs1 us1 ws1)).H (fun k => ((tn3 t col (e3 r c hs1 us1 ws1)).H k col).fdiv ((tn3 t col (e3 r c hs1 us1 ws1)).H t col)) 0 t t i j = ent c hs5 i j
    rw [y1 i j hi hj]
    refine lsH_congr ?_ ?_ (fun _ _ => hqq i hi)
    · rw [x1 t j ht hj]; unfold tn3; rw [hσ]; rfl
    · rw [x1 i j hi hj]; unfold tn3; rw [hσ]; rfl
  · show lsH (tn3 t col (e3 r c hs1 us1 ws1)).U (fun k => ((tn3 t col (e3 r c hs1 us1 ws1)).H k col).fdiv ((tn3 t col (e3 r c hs1 us1 ws1)).H t col)) 0 t t i j = ent r us5 i j
    rw [y2 i j hi hj]
    refine lsH_congr ?_ ?_ (fun _ _ => hqq i hi)
    · rw [x2 t j ht hj]; unfold tn3; rw [hσ]; rfl
    · rw [x2 i j hi hj]; unfold tn3; rw [hσ]; rfl
  · show lsW (tn3 t col (e3 r c hs1 us1 ws1)).W (fun k => ((tn3 t col (e3 r c hs1 us1 ws1)).H k col).fdiv ((tn3 t col (e3 r c hs1 us1 ws1)).H t col)) 0 t t i j = ent r ws5 i j
    rw [y3 i j hi hj]
    refine lsW_congr (fun k hk => ?_) ?_ ?_ (fun k hk => hqq k (by omega))
    · rw [x3 i k hi (by omega)]; unfold tn3; rw [hσ]; rfl
    · rw [x3 i t hi ht]; unfold tn3; rw [hσ]; rfl
    · rw [x3 i j hi hj]; unfold tn3; rw [hσ]; rfl
set_option maxRecDepth 100000 in
set_option maxHeartbeats 4000000 in
theorem gather_any (B pb gH gU gW r c t col : Nat) (hs us ws : List Int) (A : Nat → Nat → Int) (L X MH MU MW KH KU KW : Nat) (w : World) (h : FormO w B pb gH gU gW r c t hs us ws L) (hr8 : r ≤ 8) (ht : t ≤ r) (hcol : col < c) (hL : L ≤ 60000000)
    (hb : GaBd (ent c hs) (ent r us) (ent r ws) r c t col L X MH MU MW KH KU KW) (hE : EInv A (ent c hs) (ent r us) (ent r ws) r c) :
    Calls Tryz.prog 79 #[.pointer (some ⟨pb, 0, none⟩), .int .i64 col] w fun e w' => e = .returned (.tuple #[]) ∧ GaOut w w' B pb gH gU gW r c t col hs us ws A L KH KU KW := by
  have F := Hid.mk (And.intro h (And.intro hb hE))
  obtain ⟨q0, q1, q2⟩ := h.H.tri
  have q3 := h.rk
  have hpl := h.H.plt
  clear h hb hE
  go_enter Tryz.func79, Tryz.ntmps79
  go_wp2_with fail
  refine (leastIn_any _ r c col t hs L _ F.out.1.H.isM hcol ht).mono ?_
  rintro e w1 ⟨z, rfl, hz, hb1⟩
  have hw1 := hb1.size
  have G := Hid.mk (And.intro hz (And.intro hb1 (F.out.1.later hb1)))
  clear hz hb1 q0 q1 q2 q3
  by_cases hz0 : z < 0
  · go_wp2_with fail
    refine bodyPost_ret (v := .tuple #[]) (results_none rfl _ _ _) rfl ?_
    refine ⟨rfl, G.out.2.1.mono F.out.1.ble, .inl ⟨?_, G.out.2.2⟩⟩
    rcases G.out.1 with ⟨i, a, b, d, _⟩ | ⟨_, x⟩
    · omega
    · exact x
  · obtain ⟨i0, rfl⟩ := Int.eq_ofNat_of_zero_le (show 0 ≤ z by omega)
    have hi0 : t ≤ i0 ∧ i0 < r := by
      rcases G.out.1 with ⟨i, a, b, d, _⟩ | ⟨x, _⟩ <;> omega
    obtain ⟨hi1, hi2⟩ := hi0
    have htr : t < r := by omega
    clear hz0
    go_wp2_with fail
    obtain ⟨n0, hn0⟩ : ∃ n0, n0 = (ent c hs i0 col).natAbs + 1 := ⟨_, rfl⟩
    have HN := Hid.mk hn0
    clear hn0
    go_loopg [5] n0 (fun k l wr => ∃ (z : Int) (hs1 us1 ws1 : List Int), l = .int .i64 z ∧ Hid (FormO wr B pb gH gU gW r c t hs1 us1 ws1 L ∧ Chg3 w wr gH gU gW ∧ EInv A (ent c hs1) (ent r us1) (ent r ws1) r c ∧ ((z = (i0 : Int) ∧ hs1 = hs ∧ us1 = us ∧ ws1 = ws ∧ k = n0) ∨ ((∃ n, GaTo r c t col (e3 r c hs us ws) (n + 1) (e3 r c hs1 us1 ws1)) ∧ GaPost (ent c hs) (ent r us) r c t col (ent c hs1) (ent r us1) (ent r ws1) KH KU KW z ∧ ((z < 0 ∧ k = 0) ∨ ∃ i : Nat, z = (i : Int) ∧ k = (ent c hs1 i col).natAbs)))))
    case atStart => exact ⟨i0, hs, us, ws, rfl, Hid.mk ⟨G.out.2.2, Chg3.of_below _ _ _ G.out.2.1, F.out.2.2, .inl ⟨rfl, rfl, rfl, rfl, rfl⟩⟩⟩
    case round =>
      obtain ⟨z, hs1, us1, ws1, rfl, HI⟩ := hrel
      obtain ⟨q0, q1, q2⟩ := HI.out.1.H.tri
      have hpl2 := HI.out.1.H.plt
      by_cases hz : z < 0
      · have HP : Hid (GaPost (ent c hs) (ent r us) r c t col (ent c hs1) (ent r us1) (ent r ws1) KH KU KW z) := Hid.mk (by
          rcases HI.out.2.2.2 with ⟨a, _⟩ | ⟨_, a, _⟩
          · omega
          · exact a)
        have HT : Hid (∃ n, GaTo r c t col (e3 r c hs us ws) (n + 1) (e3 r c hs1 us1 ws1)) := Hid.mk (by
          rcases HI.out.2.2.2 with ⟨a, _⟩ | ⟨a, _⟩
          · omega
          · exact a)
        go_wp2_with fail
        refine (at_in _ r c t col hs1 L _ HI.out.1.H.isM htr hcol).mono ?_
        rintro e9 w2 ⟨x2, rfl, hx2, hb2⟩
        obtain ⟨nb2, so2, n2, cp2, rfl⟩ := hx2.shape
        have hw2 := hb2.size
        have K2 := Hid.mk (And.intro hx2 hb2)
        clear hx2 hb2
        go_wp2_with fail
        refine (isBelow_any _ (hs1.getD (t * c + col) 0) L _ K2.out.1).mono ?_
        rintro e9 w3 ⟨rfl, hb3⟩
        have hb23 := K2.out.2.trans (hb3.mono hw2)
        have K3 := Hid.mk (And.intro hb23 (HI.out.1.later hb23))
        clear hb3 hb23 q0 q1 q2
        obtain ⟨D, hD⟩ : ∃ D, D = decide (hs1.getD (t * c + col) 0 < 0) := ⟨_, rfl⟩
        rw [← hD]
        have HD := Hid.mk hD
        clear hD
        cases hDD : D
        case true =>
          have HN0 := Hid.mk (of_decide_eq_true (HD.out.symm.trans hDD))
          clear hDD HD
          go_wp2_with fail
          refine (fturn_any B pb gH gU gW r c t t hs1 us1 ws1 L _ K3.out.2 htr).mono ?_
          rintro e9 w4 ⟨rfl, hs4, us4, ws4, hF4, hc4, x1, x2, x3⟩
          obtain ⟨q, hq⟩ : ∃ q : Nat → Int, q = fun i => (ent c hs4 i col).fdiv (ent c hs4 t col) := ⟨_, rfl⟩
          have hpl4 := hF4.H.plt
          have K4 := Hid.mk (And.intro hF4 (And.intro hc4 (And.intro x1 (And.intro x2 (And.intro x3 hq)))))
          clear hF4 hc4 x1 x2 x3 hq
          go_wp2_with fail
          refine (lessen_any B pb gH gU gW r c t 0 t t col hs4 us4 ws4 L _ K4.out.1 hL (Nat.zero_le _) (by omega) htr (by omega) hcol q K4.out.2.2.2.2.2).mono ?_
          rintro e9 w5 ⟨rfl, hs5, us5, ws5, hF5, hc5, y1, y2, y3⟩
          have q3 := hF5.rk
          have q4 := hF5.fr
          have hpl5 := hF5.H.plt
          have K5 := Hid.mk (And.intro hF5 (And.intro hc5 (And.intro y1 (And.intro y2 y3))))
          clear hF5 hc5 y1 y2 y3
          go_wp2_with fail
          go_end0
          obtain ⟨F6, b6⟩ := K5.out.1.rank (t + 1) (z := (t : Int) + 1) (by omega)
          have hbB : Below B w w5 := F.out.1.below (((HI.out.2.1.trans (Chg3.of_below _ _ _ K3.out.1)).trans K4.out.2.1).trans K5.out.2.1)
          refine ⟨rfl, hbB.trans b6, .inr ⟨htr, hs5, us5, ws5, F6, ?_, ?_, ga_does htr HT.out HP.out.least hz (-1) (by unfold sgn; rw [if_pos (show (e3 r c hs1 us1 ws1).H t col < 0 from HN0.out)]) (fun i j a b => by rw [K4.out.2.2.1 i j a b]; split <;> omega) (fun i j a b => by rw [K4.out.2.2.2.1 i j a b]; split <;> omega) (fun i j a b => by rw [K4.out.2.2.2.2.1 i j a b]; split <;> omega) q (fun i _ => by rw [K4.out.2.2.2.2.2]) hcol K5.out.2.2.1 K5.out.2.2.2.1 K5.out.2.2.2.2⟩⟩
          · refine EInv.congr (EInv.lessen (EInv.congr (HI.out.2.2.1.turn t) (fun _ _ _ _ => rfl) K4.out.2.2.1 K4.out.2.2.2.1 K4.out.2.2.2.2.1) q htr t (Nat.zero_le _) (by omega) (by omega)) (fun _ _ _ _ => rfl) K5.out.2.2.1 K5.out.2.2.2.1 K5.out.2.2.2.2
          · exact HP.out.ends hz hr8 htr hcol (-1) (.inr rfl) (by have := HN0.out; show 0 < -1 * ent c hs1 t col; unfold ent; omega) (fun i j a b => by rw [K4.out.2.2.1 i j a b]; split <;> omega) (fun i j a b => by rw [K4.out.2.2.2.1 i j a b]; split <;> omega) (fun i j a b => by rw [K4.out.2.2.2.2.1 i j a b]; split <;> omega) q (fun i _ => by rw [K4.out.2.2.2.2.2]) K5.out.2.2.1 K5.out.2.2.2.1 K5.out.2.2.2.2
        case false =>
          have HN0 := Hid.mk (of_decide_eq_false (HD.out.symm.trans hDD))
          clear hDD HD
          go_wp2_with fail
          obtain ⟨q, hq⟩ : ∃ q : Nat → Int, q = fun i => (ent c hs1 i col).fdiv (ent c hs1 t col) := ⟨_, rfl⟩
          have HQ := Hid.mk hq
          clear hq
          refine (lessen_any B pb gH gU gW r c t 0 t t col hs1 us1 ws1 L _ K3.out.2 hL (Nat.zero_le _) (by omega) htr (by omega) hcol q HQ.out).mono ?_
          rintro e9 w5 ⟨rfl, hs5, us5, ws5, hF5, hc5, y1, y2, y3⟩
          have q3 := hF5.rk
          have q4 := hF5.fr
          have hpl5 := hF5.H.plt
          have K5 := Hid.mk (And.intro hF5 (And.intro hc5 (And.intro y1 (And.intro y2 y3))))
          clear hF5 hc5 y1 y2 y3
          go_wp2_with fail
          go_end0
          obtain ⟨F6, b6⟩ := K5.out.1.rank (t + 1) (z := (t : Int) + 1) (by omega)
          have hbB : Below B w w5 := F.out.1.below ((HI.out.2.1.trans (Chg3.of_below _ _ _ K3.out.1)).trans K5.out.2.1)
          refine ⟨rfl, hbB.trans b6, .inr ⟨htr, hs5, us5, ws5, F6, ?_, ?_, ga_does htr HT.out HP.out.least hz 1 (by unfold sgn; rw [if_neg (show ¬ (e3 r c hs1 us1 ws1).H t col < 0 from Int.not_lt.2 HN0.out)]) (fun i j a b => by split <;> omega) (fun i j a b => by split <;> omega) (fun i j a b => by split <;> omega) q (fun i _ => by rw [HQ.out]) hcol K5.out.2.2.1 K5.out.2.2.2.1 K5.out.2.2.2.2⟩⟩
          · refine EInv.congr (EInv.lessen HI.out.2.2.1 q htr t (Nat.zero_le _) (by omega) (by omega)) (fun _ _ _ _ => rfl) K5.out.2.2.1 K5.out.2.2.2.1 K5.out.2.2.2.2
          · exact HP.out.ends hz hr8 htr hcol 1 (.inl rfl) (by have := HN0.out; have h2 := HP.out.ne; show 0 < 1 * ent c hs1 t col; unfold ent at *; omega) (fun i j a b => by split <;> omega) (fun i j a b => by split <;> omega) (fun i j a b => by split <;> omega) q (fun i _ => by rw [HQ.out]) K5.out.2.2.1 K5.out.2.2.2.1 K5.out.2.2.2.2
      · obtain ⟨i, rfl⟩ := Int.eq_ofNat_of_zero_le (show 0 ≤ z by omega)
        have hi : t ≤ i ∧ i < r := by
          rcases HI.out.2.2.2 with ⟨a, _⟩ | ⟨_, a, _⟩
          · omega
          · rcases a.least with ⟨i', x, y, u, _⟩ | ⟨x, _⟩ <;> omega
        obtain ⟨hti, hir⟩ := hi
        clear hz
        go_wp2_with fail
        refine (fswap_any B pb gH gU gW r c t t i hs1 us1 ws1 L _ HI.out.1 htr hir).mono ?_
        rintro e9 w2 ⟨rfl, hs2, us2, ws2, hF2, hc2, x1, x2, x3⟩
        obtain ⟨q, hq⟩ : ∃ q : Nat → Int, q = fun i => (ent c hs2 i col).fdiv (ent c hs2 t col) := ⟨_, rfl⟩
        clear q0 q1 q2
        obtain ⟨q0, q1, q2⟩ := hF2.H.tri
        have hpl3 := hF2.H.plt
        have K2 := Hid.mk (And.intro hF2 (And.intro hc2 (And.intro x1 (And.intro x2 (And.intro x3 hq)))))
        clear hF2 hc2 x1 x2 x3 hq
        go_wp2_with fail
        refine (lessen_any B pb gH gU gW r c t (t + 1) r t col hs2 us2 ws2 L _ K2.out.1 hL (by omega) (Nat.le_refl _) htr (by omega) hcol q K2.out.2.2.2.2.2).mono ?_
        rintro e9 w3 ⟨rfl, hs3, us3, ws3, hF3, hc3, y1, y2, y3⟩
        clear q0 q1 q2
        obtain ⟨q0, q1, q2⟩ := hF3.H.tri
        have hpl4 := hF3.H.plt
        have K3 := Hid.mk (And.intro hF3 (And.intro hc3 (And.intro y1 (And.intro y2 y3))))
        clear hF3 hc3 y1 y2 y3
        go_wp2_with fail
        refine (leastIn_any _ r c col (t + 1) hs3 (2 * L + 1) _ K3.out.1.H.isM hcol (by omega)).mono ?_
        rintro e9 w4 ⟨z4, rfl, hz4, hb4⟩
        have K4 := Hid.mk (And.intro hz4 hb4)
        clear hz4 hb4 q0 q1 q2
        have HP : Hid (GaPost (ent c hs) (ent r us) r c t col (ent c hs3) (ent r us3) (ent r ws3) KH KU KW z4 ∧ ent c hs3 t col = ent c hs1 i col ∧ EInv A (ent c hs3) (ent r us3) (ent r ws3) r c ∧ ∃ n, GaTo r c t col (e3 r c hs us ws) (n + 1) (e3 r c hs3 us3 ws3)) := Hid.mk (by
          obtain ⟨-, -, x1, x2, x3, hq⟩ := K2.out
          obtain ⟨-, -, y1, y2, y3⟩ := K3.out
          have hq2 : ∀ k, k < r → q k = rq (ent c hs1) t i col k := fun k hk => by
            rw [hq]
            unfold rq
            show (ent c hs2 k col).fdiv (ent c hs2 t col) = _
            rw [x1 k col hk hcol, x1 t col htr hcol]
          have e1 := rdH_of htr x1 y1 hq2
          have e2 := rdH_of htr x2 y2 hq2
          have e3' := rdW_of htr x3 y3 hq2
          have hl : LeastIs (fun k => rdH (ent c hs1) (ent c hs1) r t i col k col) (t + 1) r z4 := K4.out.1.congr (fun k _ hk => (e1 k col hk hcol).symm)
          have eq3 : F3.Eq r c (rd3 r t i col (e3 r c hs1 us1 ws1)) (e3 r c hs3 us3 ws3) := ⟨fun a b x y => (e1 a b x y).symm, fun a b x y => (e2 a b x y).symm, fun a b x y => (e3' a b x y).symm⟩
          refine ⟨?_, by rw [e1 t col htr hcol, rdH_top], HI.out.2.2.1.round htr hir x1 x2 x3 y1 y2 y3, ?_⟩
          case' refine_2 =>
            rcases HI.out.2.2.2 with ⟨a1, rfl, rfl, rfl, -⟩ | ⟨⟨n, g1⟩, a1, -⟩
            · have hii : i = i0 := by omega
              subst hii
              exact ⟨0, .step 0 i _ _ (.start _ (F3.Eq.refl _ _ _)) G.out.1 eq3⟩
            · exact ⟨n + 1, .step (n + 1) i _ _ g1 a1.least eq3⟩
          rcases HI.out.2.2.2 with ⟨a1, rfl, rfl, rfl, -⟩ | ⟨-, a1, -⟩
          · have hii : i = i0 := by omega
            subst hii
            exact (GaPost.first hr8 G.out.1 F.out.2.1.hX F.out.2.1.hM F.out.2.1.k1 F.out.2.1.k2 F.out.2.1.k3 F.out.2.1.k4 hl).congr htr hcol e1 e2 e3'
          · exact (a1.next hr8 hl).congr htr hcol e1 e2 e3')
        go_wp2_with fail
        go_roundg (if z4 < 0 then 0 else (ent c hs3 z4.toNat col).natAbs)
        case measure =>
          have hpos : 0 < gk ∧ (ent c hs1 i col).natAbs ≤ gk := by
            rcases HI.out.2.2.2 with ⟨a1, rfl, -, -, rfl⟩ | ⟨-, a1, ⟨a2, -⟩ | ⟨i', a2, rfl⟩⟩
            · have := HN.out
              have hii : i = i0 := by omega
              subst hii; omega
            · omega
            · have hii : i = i' := by omega
              subst hii
              rcases a1.least with ⟨i2, b1, b2, b3, b4, -⟩ | ⟨b1, -⟩
              · have hi2 : i2 = i := by omega
                subst hi2
                have b5 : ent c hs1 i2 col ≠ 0 := b4
                omega
              · omega
          split
          · exact hpos.1
          · rcases HP.out.1.least with ⟨i2, b1, b2, b3, -⟩ | ⟨b1, -⟩
            · have := HP.out.1.lt i2 (by omega) b2
              rw [HP.out.2.1] at this
              rw [b3, Int.toNat_natCast]
              omega
            · omega
        case rel =>
          obtain ⟨F3, c3, -⟩ := K3.out
          have hbd := HP.out.1.bd1
          refine ⟨z4, hs3, us3, ws3, rfl, Hid.mk ⟨(F3.fit (fun k j a b => ?_) (fun k j a b => ?_) (fun k j a b => ?_)).later K4.out.2, ((HI.out.2.1.trans K2.out.2.1).trans c3).trans (Chg3.of_below _ _ _ K4.out.2), HP.out.2.2.1, .inr ⟨HP.out.2.2.2, HP.out.1, ?_⟩⟩⟩
          · by_cases hk : k < t
            · rw [HP.out.1.keepH k j hk b]; exact (F.out.1.H.has a b).lt
            · have h1 := hbd.h k j (by omega) a b; have h2 := F.out.2.1.l1; omega
          · by_cases hk : k < t
            · rw [HP.out.1.keepU k j hk b]; exact (F.out.1.U.has a b).lt
            · have h1 := hbd.u k j (by omega) a b; have h2 := F.out.2.1.l2; omega
          · have h1 := hbd.w k j a b; have h2 := F.out.2.1.l3; omega
          · by_cases hz4 : z4 < 0
            · exact .inl ⟨hz4, if_pos hz4⟩
            · refine .inr ⟨z4.toNat, by omega, if_neg hz4⟩
end Go.Proofs.YtfjbijpagaipnaaGreatDoor
