import Derived.Test.YtfjbijpagaipnaaGreatDoorC40
import Derived.Test.YtfjbijpagaipnaaGreatDoorC30
import Derived.Test.YtfjbijpagaipnaaGreatDoorC25
import Derived.Test.YtfjbijpagaipnaaGreatDoorC41
namespace Go.Proofs.YtfjbijpagaipnaaGreatDoor
open Go.RowKit R
theorem prod_eq {r q c : Nat} {zs ys ms ms' : List Int} (h : ProdOf r q c zs ys ms) (h' : ProdOf r q c zs ys ms') (l : ms.length = r * c) (l' : ms'.length = r * c) : ms = ms' :=
 list_ent l l' fun i j hi hj => (h i j hi hj).trans (h' i j hi hj).symm
theorem FlipOf.uniq {r c : Nat} {zs ms ms' : List Int} (h : FlipOf r c zs ms) (h' : FlipOf r c zs ms') : ms = ms' :=
 list_ent h.1 h'.1 fun i j hi hj => (h.2 i j hi hj).trans (h'.2 i j hi hj).symm
theorem RowsTo.det {r c : Nat} {ds us ss d1 u1 s1 d2 u2 s2 : List Int} (h : RowsTo r c ds us ss d1 u1 s1) (h' : RowsTo r c ds us ss d2 u2 s2) : d1 = d2 ∧ u1 = u2 ∧ s1 = s2 := by
 obtain ⟨k, a, b, g, la, lb, ld, lu, ls, p1, p2, -, -⟩ := h
 obtain ⟨k', a', b', g', la', lb', ld', lu', ls', p1', p2', -, -⟩ := h'
 obtain ⟨-, e1, e2, e3'⟩ := EcTo.det c (Nat.le_refl _) _ _ _ _ g g'
 obtain rfl := list_ent la la' e2
 obtain rfl := list_ent lb lb' e3'
 exact ⟨list_ent ld ld' e1, prod_eq p1 p1' lu lu', prod_eq p2 p2' ls ls'⟩
theorem ColsTo.det {r c : Nat} {ds vs ts d1 v1 t1 d2 v2 t2 : List Int} (h : ColsTo r c ds vs ts d1 v1 t1) (h' : ColsTo r c ds vs ts d2 v2 t2) : d1 = d2 ∧ v1 = v2 ∧ t1 = t2 := by
 obtain ⟨k, fs, es, a, b, ra, tb, f1, g, le, la, lb, fd, fa, fb, lv, lt, p1, p2, -, -⟩ := h
 obtain ⟨k', fs', es', a', b', ra', tb', f1', g', le', la', lb', fd', fa', fb', lv', lt', p1', p2', -, -⟩ := h'
 obtain rfl := f1.uniq f1'
 obtain ⟨-, e1, e2, e3'⟩ := EcTo.det r (Nat.le_refl _) _ _ _ _ g g'
 obtain rfl := list_ent le le' e1
 obtain rfl := list_ent la la' e2
 obtain rfl := list_ent lb lb' e3'
 obtain rfl := fa.uniq fa'
 obtain rfl := fb.uniq fb'
 exact ⟨fd.uniq fd', prod_eq p1 p1' lv lv', prod_eq p2 p2' lt lt'⟩
theorem OddAt.uniq {r c a b : Nat} {ds : List Int} (h : OddAt r c a ds) (h' : OddAt r c b ds) : a = b := by
 rcases Nat.lt_trichotomy a b with e | e | e
 ·exact absurd (h'.2.2.2 a e) h.2.2.1
 ·exact e
 ·exact absurd (h.2.2.2 b e) h'.2.2.1
theorem MixTo.det {r c a : Nat} {ds vs ts d1 v1 t1 d2 v2 t2 : List Int} (h : MixTo r c a ds vs ts d1 v1 t1) (h' : MixTo r c a ds vs ts d2 v2 t2) : d1 = d2 ∧ v1 = v2 ∧ t1 = t2 :=
 ⟨list_ent h.1 h'.1 fun i j hi hj => (h.2.2.2.1 i j hi hj).trans (h'.2.2.2.1 i j hi hj).symm, list_ent h.2.1 h'.2.1 fun i j hi hj => (h.2.2.2.2.1 i j hi hj).trans (h'.2.2.2.2.1 i j hi hj).symm, list_ent h.2.2.1 h'.2.2.1 fun i j hi hj => (h.2.2.2.2.2 i j hi hj).trans (h'.2.2.2.2.2 i j hi hj).symm⟩
structure D5 where
 d : List Int
 u : List Int
 s : List Int
 v : List Int
 t : List Int
def DiagP (r c : Nat) (ds : List Int) : Prop := ∀ i j, i < r → j < c → i ≠ j → ent c ds i j = 0
def AllDiv (r c : Nat) (ds : List Int) : Prop := ∀ i, i + 1 < r → i + 1 < c → ent c ds i i ∣ ent c ds (i + 1) (i + 1)
def D5.rnd (r c : Nat) (x y : D5) : Prop := ∃ d1, RowsTo r c x.d x.u x.s d1 y.u y.s ∧ ColsTo r c d1 x.v x.t y.d y.v y.t
def D5.mixd (r c : Nat) (x y : D5) : Prop := ∃ a, OddAt r c a x.d ∧ MixTo r c a x.d x.v x.t y.d y.v y.t ∧ y.u = x.u ∧ y.s = x.s
theorem D5.rnd_det {r c : Nat} {x y z : D5} (h : D5.rnd r c x y) (h' : D5.rnd r c x z) : y = z := by
 obtain ⟨d1, a, b⟩ := h
 obtain ⟨d2, a', b'⟩ := h'
 obtain ⟨rfl, e1, e2⟩ := a.det a'
 obtain ⟨e3, e4, e5⟩ := b.det b'
 cases y; cases z
 simp only at e1 e2 e3 e4 e5
 subst e1 e2 e3 e4 e5
 rfl
theorem D5.mix_det {r c : Nat} {x y z : D5} (h : D5.mixd r c x y) (h' : D5.mixd r c x z) : y = z := by
 obtain ⟨a, o, m, e1, e2⟩ := h
 obtain ⟨b, o', m', e1', e2'⟩ := h'
 obtain rfl := o.uniq o'
 obtain ⟨e3, e4, e5⟩ := m.det m'
 cases y; cases z
 simp only at e1 e2 e1' e2' e3 e4 e5
 subst e1 e2 e3 e4 e5
 rw [e1', e2']
def D5.runN (r c : Nat) : Nat → D5 → D5 → Prop
  | 0, _, _ => False
  | n + 1, x, z => ∃ y, D5.rnd r c x y ∧ ((DiagP r c y.d ∧ AllDiv r c y.d ∧ y = z) ∨ (¬ DiagP r c y.d ∧ D5.runN r c n y z) ∨ (DiagP r c y.d ∧ ∃ m, D5.mixd r c y m ∧ D5.runN r c n m z))
def D5.run (r c : Nat) (x y : D5) : Prop := ∃ n, D5.runN r c n x y
theorem D5.run.stop {r c : Nat} {x y : D5} (a : D5.rnd r c x y) (b : DiagP r c y.d) (d : AllDiv r c y.d) : D5.run r c x y := ⟨1, y, a, .inl ⟨b, d, rfl⟩⟩
theorem D5.run.more {r c : Nat} {x y z : D5} (a : D5.rnd r c x y) (n : ¬ DiagP r c y.d) (g : D5.run r c y z) : D5.run r c x z := g.elim fun k g => ⟨k + 1, y, a, .inr (.inl ⟨n, g⟩)⟩
theorem D5.run.mix {r c : Nat} {x y m z : D5} (a : D5.rnd r c x y) (b : DiagP r c y.d) (h : D5.mixd r c y m) (g : D5.run r c m z) : D5.run r c x z := g.elim fun k g => ⟨k + 1, y, a, .inr (.inr ⟨b, m, h, g⟩)⟩
theorem D5.run_det {r c : Nat} {x y : D5} (h : D5.run r c x y) : ∀ {z}, D5.run r c x z → y = z := by
  obtain ⟨n, h⟩ := h
  induction n generalizing x with
  | zero => exact h.elim
  | succ n ih =>
    obtain ⟨u, a, h⟩ := h
    intro z h'
    obtain ⟨k, h'⟩ := h'
    cases k with
    | zero => exact h'.elim
    | succ k =>
      obtain ⟨u', a', h'⟩ := h'
      obtain rfl := D5.rnd_det a a'
      rcases h with ⟨b, d, rfl⟩ | ⟨nb, g⟩ | ⟨b, m, hm, g⟩
      · rcases h' with ⟨_, _, rfl⟩ | ⟨nb', _⟩ | ⟨_, m', hm', _⟩
        · rfl
        · exact absurd b nb'
        · obtain ⟨i, o, -⟩ := hm'
          exact absurd (d i o.1 o.2.1) o.2.2.1
      · rcases h' with ⟨b', _, _⟩ | ⟨_, g'⟩ | ⟨b', _⟩
        · exact absurd b' nb
        · exact ih g ⟨k, g'⟩
        · exact absurd b' nb
      · rcases h' with ⟨_, d', _⟩ | ⟨nb', _⟩ | ⟨_, m', hm', g'⟩
        · obtain ⟨i, o, -⟩ := hm
          exact absurd (d' i o.1 o.2.1) o.2.2.1
        · exact absurd b nb'
        · obtain rfl := D5.mix_det hm hm'
          exact ih g ⟨k, g'⟩
open Go.RowKit R
theorem RowsTo.inv {A V T : Nat → Nat → Int} {r c : Nat} {ds us ss d1 u1 s1 : List Int} (h : RowsTo r c ds us ss d1 u1 s1) (hI : DInv A (ent c ds) (ent r us) (ent r ss) V T r c) : DInv A (ent c d1) (ent r u1) (ent r s1) V T r c := by
 obtain ⟨k, a, b, g, la, lb, ld, lu, ls, p1, p2, -, hE⟩ := h
 exact (hI.rows hE).congr (fun _ _ _ _ => rfl) (fun i j hi hj => p1 i j hi hj) (fun i j hi hj => p2 i j hi hj) (fun _ _ _ _ => rfl) (fun _ _ _ _ => rfl)
theorem ColsTo.form {r c : Nat} {d1 vs ts d2 v2 t2 : List Int} (h : ColsTo r c d1 vs ts d2 v2 t2) : ∃ k pc E U W, EchSt c r k pc E ∧ EInv (tr (ent c d1)) E U W c r ∧ ∀ i j, i < r → j < c → ent c d2 i j = tr E i j := by
 obtain ⟨k, fs, es, a, b, ra, tb, f1, g, le, la, lb, fd, fa, fb, lv, lt, p1, p2, ⟨pc, hst⟩, hE⟩ := h
 exact ⟨k, pc, ent r es, ent c a, ent c b, hst, hE.congr (fun i j hi hj => (f1.2 i j hi hj).symm) (fun _ _ _ _ => rfl) (fun _ _ _ _ => rfl) (fun _ _ _ _ => rfl), fun i j hi hj => fd.2 i j hi hj⟩
theorem ColsTo.inv {A U S : Nat → Nat → Int} {r c : Nat} {d1 vs ts d2 v2 t2 : List Int} (h : ColsTo r c d1 vs ts d2 v2 t2) (hI : DInv A (ent c d1) U S (ent c vs) (ent c ts) r c) : DInv A (ent c d2) U S (ent c v2) (ent c t2) r c := by
 obtain ⟨k, fs, es, a, b, ra, tb, f1, g, le, la, lb, fd, fa, fb, lv, lt, p1, p2, -, hE⟩ := h
 have hE' : EInv (tr (ent c d1)) (ent r es) (ent c a) (ent c b) c r := hE.congr (fun i j hi hj => (f1.2 i j hi hj).symm) (fun _ _ _ _ => rfl) (fun _ _ _ _ => rfl) (fun _ _ _ _ => rfl)
 refine (hI.cols hE').congr (fun i j hi hj => fd.2 i j hi hj) (fun _ _ _ _ => rfl) (fun _ _ _ _ => rfl) (fun i j hi hj => ?_) (fun i j hi hj => ?_)
 ·exact (p1 i j hi hj).trans (dot_congr c (fun _ _ => rfl) (fun l hl => fa.2 l j hl hj))
 ·exact (p2 i j hi hj).trans (dot_congr c (fun l hl => fb.2 i l hi hl) (fun _ _ => rfl))
theorem D5.rnd_inv {A : Nat → Nat → Int} {r c : Nat} {x y : D5} (h : D5.rnd r c x y) (hI : DInv A (ent c x.d) (ent r x.u) (ent r x.s) (ent c x.v) (ent c x.t) r c) : DInv A (ent c y.d) (ent r y.u) (ent r y.s) (ent c y.v) (ent c y.t) r c := by
 obtain ⟨d1, a, b⟩ := h
 exact b.inv (a.inv hI)
theorem D5.mix_inv {A : Nat → Nat → Int} {r c : Nat} {x y : D5} (h : D5.mixd r c x y) (hI : DInv A (ent c x.d) (ent r x.u) (ent r x.s) (ent c x.v) (ent c x.t) r c) : DInv A (ent c y.d) (ent r y.u) (ent r y.s) (ent c y.v) (ent c y.t) r c := by
 obtain ⟨a, o, m, e1, e2⟩ := h
 rw [e1, e2]
 exact (hI.mix o.2.1).congr (fun i j hi hj => m.2.2.2.1 i j hi hj) (fun _ _ _ _ => rfl) (fun _ _ _ _ => rfl) (fun i j hi hj => m.2.2.2.2.1 i j hi hj) (fun i j hi hj => m.2.2.2.2.2 i j hi hj)
theorem low_bits {r c k B : Nat} {D : Nat → Nat → Int} (h : LowT r c k D) (hred : ∀ i b, i < b → b < k → 0 ≤ D b i ∧ D b i < D b b) (hP : pr D 0 k < 2 ^ B) : ∀ i j, i < r → j < c → (D i j).natAbs < 2 ^ B := by
 intro i j hi hj
 have hpos : (0 : Int) < 2 ^ B := Int.pow_pos (by decide)
 have h0 : (0 : Int).natAbs < 2 ^ B := by
  have : 0 < 2 ^ B := Nat.pow_pos (by decide)
  simpa using this
 have hcast : ((2 ^ B : Nat) : Int) = 2 ^ B := by simp
 by_cases hk : k ≤ i ∨ k ≤ j
 ·rw [h.out i j hi hj hk]; exact h0
 ·have hd := diag_le (X := D) (k := k) (i := i) h.pos (by omega)
  have hp := h.pos i (by omega)
  rcases Nat.lt_trichotomy i j with e | e | e
  ·rw [h.up i j hi hj e]; exact h0
  ·subst e; omega
  ·have := hred j i e (by omega)
   omega
theorem R.FormT.bits {r c k B : Nat} {D H : Nat → Nat → Int} (h : FormT r c k D H) (hD : LowT r c k D) (hP : pr D 0 k < 2 ^ B) : (∀ i j, i < r → j < c → (H i j).natAbs < 2 ^ B) ∧ pr (tr H) 0 k < 2 ^ B := by
 have h1 : pr H 0 k ≤ pr D 0 k := Int.le_of_dvd (hD.pr_pos (Nat.le_refl _)) (h.dvd k (Nat.le_refl _))
 have h2 : pr (tr H) 0 k < 2 ^ B := by rw [pr_tr]; omega
 exact ⟨fun i j hi hj => low_bits h.low (fun i b hib hb => h.red i b hib hb) h2 j i hj hi, h2⟩
theorem RowsTo.bits {r c k B : Nat} {ds us ss d1 u1 s1 : List Int} (h : RowsTo r c ds us ss d1 u1 s1) (hD : LowT r c k (ent c ds)) (hk : k ≤ 4) (hP : pr (ent c ds) 0 k < 2 ^ B) : ∀ i j, i < r → j < c → (ent c d1 i j).natAbs < 2 ^ B := by
 obtain ⟨k', a, b, g, la, lb, ld, lu, ls, p1, p2, ⟨pc, hst⟩, hE⟩ := h
 obtain ⟨rfl, -, f1⟩ := form_step hD hk hst hE
 exact (f1.bits hD hP).1
theorem D5.rnd_low {r c k B : Nat} {x y : D5} (h : D5.rnd r c x y) (hD : LowT r c k (ent c x.d)) (hk : k ≤ 4) (hP : pr (ent c x.d) 0 k < 2 ^ B) :
 LowT r c k (ent c y.d) ∧ pr (ent c y.d) 0 k < 2 ^ B ∧ (∀ i j, i < r → j < c → (ent c y.d i j).natAbs < 2 ^ B) ∧ (∀ m, m ≤ k → pr (ent c y.d) 0 m ∣ pr (ent c x.d) 0 m) ∧
 ((∀ m, m ≤ k → pr (ent c y.d) 0 m = pr (ent c x.d) 0 m) → DiagP r c y.d ∧ ∀ i j, i < k → j < k → ent c x.d j j ∣ ent c x.d i j) := by
 obtain ⟨d1, ⟨k', a, b, g, la, lb, ld, lu, ls, p1, p2, ⟨pc, hst⟩, hE⟩, hcol⟩ := h
 obtain ⟨k2, pc2, E, U, W, hst2, hE2, heq⟩ := hcol.form
 obtain ⟨f1, f2, f3, f4⟩ := round_low hD hk hst hE hst2 hE2
 have hlow := f2.low.congr heq
 have hkr := hD.kr
 have hkc := hD.kc
 have hpr : ∀ m, m ≤ k → pr (ent c y.d) 0 m = pr (tr E) 0 m := fun m hm => pr_congr m 0 (fun i _ hi => heq i i (by omega) (by omega))
 obtain ⟨-, b1⟩ := f1.bits hD hP
 obtain ⟨b2, b3⟩ := f2.bits f1.low b1
 refine ⟨hlow, by rw [hpr k (Nat.le_refl _)]; exact b3, fun i j hi hj => by rw [heq i j hi hj]; exact b2 j i hj hi, fun m hm => by rw [hpr m hm]; exact f3 m hm, fun he => ?_⟩
 obtain ⟨g1, g2⟩ := f4 (fun m hm => by rw [← hpr m hm]; exact he m hm)
 exact ⟨fun i j hi hj hij => by rw [heq i j hi hj]; exact g1 i j hi hj hij, g2⟩
theorem D5.rnd_first {r c : Nat} {x y : D5} (h : D5.rnd r c x y) (hr : r ≤ 4) (hc : c ≤ 4) (hA : ∀ i j, i < r → j < c → (ent c x.d i j).natAbs < 2 ^ 48) :
 ∃ k, k ≤ 4 ∧ LowT r c k (ent c y.d) ∧ pr (ent c y.d) 0 k < 2 ^ 197 ∧ (∀ i j, i < r → j < c → (ent c y.d i j).natAbs < 2 ^ 197) ∧ (pr (ent c y.d) 0 k).natAbs = divF (ent c x.d) r c k ∧ RankIs (ent c x.d) r c k := by
 obtain ⟨d1, ⟨k, a, b, g, la, lb, ld, lu, ls, p1, p2, ⟨pc, hst⟩, hE⟩, hcol⟩ := h
 obtain ⟨k2, pc2, E, U, W, hst2, hE2, heq⟩ := hcol.form
 have hle := hst.le
 obtain ⟨rfl, -, l1, l2⟩ := form_first hst (by omega) hst2 hE2
 have hlow := l1.congr heq
 have hkc := l1.kc
 have hpr : pr (ent c y.d) 0 k2 = pr (tr E) 0 k2 := pr_congr k2 0 (fun i _ hi => heq i i (by omega) (by omega))
 have hk4 : k2 ≤ 4 := by omega
 have e1 : divF (tr E) r c k2 = divF (ent c x.d) r c k2 := by
  rw [div_tr E c r k2 hk4, div_einv hE2 hk4, div_tr (ent c d1) r c k2 hk4, div_einv hE hk4]
 have e2 := low_div l1 hk4
 have hp0 := l1.pr_pos (Nat.le_refl k2)
 have e3 : divF (ent c x.d) r c k2 ≠ 0 := by rw [← e1, e2]; omega
 have e4 := div_bound hk4 (fun i j hi hj => Nat.le_of_lt (hA i j hi hj)) e3
 have e5 := fct4 hk4 (Nat.le_refl (2 ^ 48))
 have hcast : ((2 ^ 197 : Nat) : Int) = 2 ^ 197 := by simp
 have e6 : pr (tr E) 0 k2 < 2 ^ 197 := by rw [e1] at e2; omega
 refine ⟨k2, hk4, hlow, by rw [hpr]; exact e6, fun i j hi hj => by rw [heq i j hi hj]; exact low_bits l1 (fun i b hib hb => l2 i b hib hb) e6 i j hi hj, by rw [hpr, ← e2, e1], ech_rankIs hst hE hr hc⟩
def muD (D : Nat → Nat → Int) (k : Nat) : Nat := 2 * nD D k + (if ∀ i, i < k → ∀ j, j < k → D i j % D j j = 0 then 1 else 0)
theorem mu_bound {r c k : Nat} {D : Nat → Nat → Int} (h : LowT r c k D) (hk : k ≤ 4) (hP : pr D 0 k < 2 ^ 197) : muD D k ≤ 1577 := by
 have hcast : ((2 ^ 197 : Nat) : Int) = 2 ^ 197 := by simp
 have h1 := nD_bound (D := D) (k := k) (B := 197) (fun m hm => by
  have e1 := h.pr_pos hm
  have e2 := pr_mono (X := D) (k := k) h.pos (k - m) m (by omega)
  rw [show m + (k - m) = k by omega] at e2
  omega) (fun m hm => h.pr_pos hm) k (Nat.le_refl _)
 have h2 : k * 197 ≤ 4 * 197 := Nat.mul_le_mul_right _ hk
 unfold muD
 split <;> omega
theorem mu_le {D : Nat → Nat → Int} {k : Nat} : muD D k ≤ 2 * nD D k + 1 := by
 unfold muD
 split <;> omega
theorem D5.rnd_nD {r c k B : Nat} {x y : D5} (h : D5.rnd r c x y) (hD : LowT r c k (ent c x.d)) (hk : k ≤ 4) (hP : pr (ent c x.d) 0 k < 2 ^ B) :
 nD (ent c y.d) k ≤ nD (ent c x.d) k ∧ (nD (ent c y.d) k = nD (ent c x.d) k → DiagP r c y.d ∧ ∀ i j, i < k → j < k → ent c x.d j j ∣ ent c x.d i j) := by
 obtain ⟨h1, h2, h3, h4, h5⟩ := D5.rnd_low h hD hk hP
 obtain ⟨e1, e2⟩ := nD_le (D := ent c x.d) (E := ent c y.d) (k := k) h4 (fun m hm => hD.pr_pos hm) (fun m hm => h1.pr_pos hm) k (Nat.le_refl _)
 exact ⟨e1, fun e => h5 (e2 e)⟩
theorem D5.mu_more {r c k B : Nat} {x y : D5} (h : D5.rnd r c x y) (hD : LowT r c k (ent c x.d)) (hk : k ≤ 4) (hP : pr (ent c x.d) 0 k < 2 ^ B) (hn : ¬ DiagP r c y.d) : muD (ent c y.d) k < muD (ent c x.d) k := by
 obtain ⟨h1, h2⟩ := D5.rnd_nD h hD hk hP
 have h3 : nD (ent c y.d) k ≠ nD (ent c x.d) k := fun e => hn (h2 e).1
 have h4 := mu_le (D := ent c y.d) (k := k)
 have h5 : 2 * nD (ent c x.d) k ≤ muD (ent c x.d) k := by unfold muD; omega
 omega
theorem OddAt.inside {r c k a : Nat} {ds : List Int} (h : OddAt r c a ds) (hD : LowT r c k (ent c ds)) : a + 1 < k := by
 refine Nat.lt_of_not_le fun hk => h.2.2.1 ?_
 rw [hD.out (a + 1) (a + 1) h.1 h.2.1 (.inl hk)]
 exact Int.dvd_zero _
theorem D5.mix_low {r c k B : Nat} {x y : D5} (h : D5.mixd r c x y) (hD : LowT r c k (ent c x.d)) (hd : DiagP r c x.d) (hP : pr (ent c x.d) 0 k < 2 ^ B) (hb : ∀ i j, i < r → j < c → (ent c x.d i j).natAbs < 2 ^ B) :
    LowT r c k (ent c y.d) ∧ pr (ent c y.d) 0 k < 2 ^ B ∧ (∀ i j, i < r → j < c → (ent c y.d i j).natAbs < 2 ^ (B + 1)) ∧ muD (ent c y.d) k = 2 * nD (ent c x.d) k := by
  obtain ⟨a, o, m, -, -⟩ := h
  have hak := o.inside hD
  obtain ⟨l1, l2, l3⟩ := R.mix_low hD hak hd o.2.2.1
  have heq : ∀ i j, i < r → j < c → ent c y.d i j = mixD (ent c x.d) a i j := m.2.2.2.1
  have hkr := hD.kr
  have hkc := hD.kc
  have hpr : ∀ m, m ≤ k → pr (ent c y.d) 0 m = pr (ent c x.d) 0 m := fun m hm => by
    rw [pr_congr (D := mixD (ent c x.d) a) m 0 (fun i _ hi => heq i i (by omega) (by omega))]
    rcases l2 m with e | e
    · exact e
    · omega
  have hnD : ∀ m, m ≤ k → nD (ent c y.d) m = nD (ent c x.d) m := by
    intro m
    induction m with
    | zero => intro _; rfl
    | succ m ih => intro hm; rw [nD, nD, ih (by omega), hpr (m + 1) hm]
  refine ⟨l1.congr heq, by rw [hpr k (Nat.le_refl _)]; exact hP, fun i j hi hj => ?_, ?_⟩
  · rw [heq i j hi hj]
    have h2 : 2 ^ (B + 1) = 2 * 2 ^ B := by rw [Nat.pow_succ]; omega
    unfold mixD
    split
    · rename_i e
      subst e
      have e1 := hb i j hi hj
      have e2 := hb i (j + 1) hi o.2.1
      omega
    · have e1 := hb i j hi hj
      omega
  · unfold muD
    rw [hnD k (Nat.le_refl _), if_neg]
    · rfl
    · intro hall
      refine l3 fun i j hi hj => ?_
      have := Int.dvd_of_emod_eq_zero (hall i hi j hj)
      rw [heq j j (by omega) (by omega), heq i j (by omega) (by omega)] at this
      exact this
theorem D5.mu_mix {r c k B : Nat} {x y m : D5} (h : D5.rnd r c x y) (hD : LowT r c k (ent c x.d)) (hk : k ≤ 4) (hP : pr (ent c x.d) 0 k < 2 ^ B) (hd : DiagP r c y.d) (hm : D5.mixd r c y m) : muD (ent c m.d) k < muD (ent c x.d) k := by
  obtain ⟨h1, h2⟩ := D5.rnd_nD h hD hk hP
  obtain ⟨g1, g2, g3, -⟩ := D5.rnd_low h hD hk hP
  obtain ⟨-, -, -, e⟩ := D5.mix_low hm g1 hd g2 g3
  rw [e]
  by_cases he : nD (ent c y.d) k = nD (ent c x.d) k
  · unfold muD
    rw [if_pos (fun i hi j hj => Int.emod_eq_zero_of_dvd ((h2 he).2 i j hi hj))]
    omega
  · unfold muD
    split <;> omega
open Go.RowKit R
def bD (n : Nat) : Nat := 227842700 + n * 442910
def D5.bits (r c : Nat) (x : D5) (X : Nat) : Prop := (∀ i j, i < r → j < r → (ent r x.u i j).natAbs < 2 ^ X) ∧ (∀ i j, i < r → j < r → (ent r x.s i j).natAbs < 2 ^ X) ∧ (∀ i j, i < c → j < c → (ent c x.v i j).natAbs < 2 ^ X) ∧ ∀ i j, i < c → j < c → (ent c x.t i j).natAbs < 2 ^ X
def unitL (n : Nat) : List Int := (List.range (n * n)).map fun t => kd (t / n) (t % n)
theorem unitL_len (n : Nat) : (unitL n).length = n * n := by simp [unitL]
theorem unitL_at {n i j : Nat} (hi : i < n) (hj : j < n) : ent n (unitL n) i j = kd i j := by
 have h1 : (i * n + j) / n = i := by rw [Nat.mul_comm, Nat.mul_add_div (by omega), Nat.div_eq_of_lt hj]; omega
 have h2 : (i * n + j) % n = j := by rw [Nat.mul_comm, Nat.mul_add_mod]; exact Nat.mod_eq_of_lt hj
 unfold ent unitL
 rw [List.getD, List.getElem?_map, List.getElem?_range (idx_lt hi hj)]
 simp only [Option.map_some, Option.getD_some, h1, h2]
def D5.start (r c : Nat) (zs : List Int) : D5 := ⟨zs, unitL r, unitL r, unitL c, unitL c⟩
theorem kd_bits (i j : Nat) : (kd i j).natAbs < 2 ^ 1 := by unfold kd; split <;> decide
theorem start_bits (r c : Nat) (zs : List Int) : D5.bits r c (D5.start r c zs) 1 :=
 ⟨fun i j hi hj => by rw [show ent r (D5.start r c zs).u i j = kd i j from unitL_at hi hj]; exact kd_bits i j, fun i j hi hj => by rw [show ent r (D5.start r c zs).s i j = kd i j from unitL_at hi hj]; exact kd_bits i j, fun i j hi hj => by rw [show ent c (D5.start r c zs).v i j = kd i j from unitL_at hi hj]; exact kd_bits i j, fun i j hi hj => by rw [show ent c (D5.start r c zs).t i j = kd i j from unitL_at hi hj]; exact kd_bits i j⟩
theorem start_inv (r c : Nat) (zs : List Int) : DInv (ent c zs) (ent c (D5.start r c zs).d) (ent r (D5.start r c zs).u) (ent r (D5.start r c zs).s) (ent c (D5.start r c zs).v) (ent c (D5.start r c zs).t) r c :=
 (DInv.start (ent c zs) r c).congr (fun _ _ _ _ => rfl) (fun _ _ hi hj => unitL_at hi hj) (fun _ _ hi hj => unitL_at hi hj) (fun _ _ hi hj => unitL_at hi hj) (fun _ _ hi hj => unitL_at hi hj)
structure Low (r c : Nat) (zs : List Int) (x : D5) (k : Nat) : Prop where
 k4 : k ≤ 4
 low : LowT r c k (ent c x.d)
 p : pr (ent c x.d) 0 k < 2 ^ 197
 b : ∀ i j, i < r → j < c → (ent c x.d i j).natAbs < 2 ^ 198
 q : (pr (ent c x.d) 0 k).natAbs = divF (ent c zs) r c k
 rk : RankIs (ent c zs) r c k
def Head (r c : Nat) (zs : List Int) (x : D5) (n kk : Nat) : Prop :=
 (n = 0 ∧ x = D5.start r c zs ∧ kk = 1579) ∨ (1 ≤ n ∧ D5.bits r c x (bD n) ∧ ∃ k, Low r c zs x k ∧ kk = muD (ent c x.d) k + 1 ∧ n + kk ≤ 1579)
theorem sizes1 {r c : Nat} (hr : r ≤ 4) (hc : c ≤ 4) : (hB r 48 c ≤ 32 * 7200000 ∧ uB r 48 c ≤ 107948) ∧ (hB c (hB r 48 c) r ≤ 32 * 7200000 ∧ uB c (hB r 48 c) r ≤ 227842686) := by
 have key : ∀ r : Fin 5, ∀ c : Fin 5, (hB r.val 48 c.val ≤ 32 * 7200000 ∧ uB r.val 48 c.val ≤ 107948) ∧ (hB c.val (hB r.val 48 c.val) r.val ≤ 32 * 7200000 ∧ uB c.val (hB r.val 48 c.val) r.val ≤ 227842686) := by decide +kernel
 exact key ⟨r, by omega⟩ ⟨c, by omega⟩
theorem sizes2 {r c : Nat} (hr : r ≤ 4) (hc : c ≤ 4) : hB r 198 c ≤ 32 * 7200000 ∧ uB r 198 c ≤ 442898 := by
 have key : ∀ r : Fin 5, ∀ c : Fin 5, hB r.val 198 c.val ≤ 32 * 7200000 ∧ uB r.val 198 c.val ≤ 442898 := by decide +kernel
 exact key ⟨r, by omega⟩ ⟨c, by omega⟩
theorem Head.prep {r c n kk : Nat} {zs : List Int} {x : D5} (h : Head r c zs x n kk) (hr : r ≤ 4) (hc : c ≤ 4) (hz : ∀ i j, i < r → j < c → (ent c zs i j).natAbs < 2 ^ 48) :
 ∃ β β' X, (∀ i j, i < r → j < c → (ent c x.d i j).natAbs < 2 ^ β) ∧ hB r β c ≤ 32 * 7200000 ∧ uB r β c ≤ 32 * 7200000 ∧ hB c β' r ≤ 32 * 7200000 ∧ uB c β' r ≤ 32 * 7200000 ∧
   (∀ d1 u1 s1, RowsTo r c x.d x.u x.s d1 u1 s1 → (∀ i j, i < r → j < c → (ent c d1 i j).natAbs < 2 ^ hB r β c) → ∀ i j, i < r → j < c → (ent c d1 i j).natAbs < 2 ^ β') ∧
   D5.bits r c x X ∧ X + uB r β c + 4 + 1 ≤ bD (n + 1) ∧ X + uB c β' r + 4 + 1 ≤ bD (n + 1) := by
 rcases h with ⟨rfl, rfl, -⟩ | ⟨hn, hb, k, hL, -, -⟩
 ·obtain ⟨⟨a1, a2⟩, a3, a4⟩ := sizes1 hr hc
  refine ⟨48, hB r 48 c, 1, hz, a1, by omega, a3, by omega, fun _ _ _ _ h => h, start_bits r c zs, ?_, ?_⟩
  ·unfold bD; omega
  ·unfold bD; omega
 ·obtain ⟨a1, a2⟩ := sizes2 hr hc
  obtain ⟨a3, a4⟩ := sizes2 hc hr
  refine ⟨198, 198, bD n, hL.b, a1, by omega, a3, by omega, fun d1 u1 s1 hR _ i j hi hj => pow_up (hR.bits hL.low hL.k4 hL.p i j hi hj) (by omega), hb, ?_, ?_⟩
  ·unfold bD; omega
  ·unfold bD; omega
theorem D5.rnd_div {r c k : Nat} {x y : D5} (h : D5.rnd r c x y) (hD : LowT r c k (ent c x.d)) (hk : k ≤ 4) : (pr (ent c y.d) 0 k).natAbs = (pr (ent c x.d) 0 k).natAbs := by
 obtain ⟨d1, ⟨k', a, b, g, la, lb, ld, lu, ls, p1, p2, ⟨pc, hst⟩, hE⟩, hcol⟩ := h
 obtain ⟨k2, pc2, E, U, W, hst2, hE2, heq⟩ := hcol.form
 obtain ⟨f1, f2, -, -⟩ := round_low hD hk hst hE hst2 hE2
 have hkr := hD.kr
 have hkc := hD.kc
 rw [pr_congr (D := tr E) k 0 (fun i _ hi => heq i i (by omega) (by omega)), ← low_div f2.low hk, ← low_div hD hk, div_tr E c r k hk, div_einv hE2 hk, div_tr (ent c d1) r c k hk, div_einv hE hk]
theorem Head.after {r c n kk : Nat} {zs : List Int} {x y : D5} (h : Head r c zs x n kk) (hr : r ≤ 4) (hc : c ≤ 4) (hz : ∀ i j, i < r → j < c → (ent c zs i j).natAbs < 2 ^ 48) (hy : D5.rnd r c x y) :
 n ≤ 1578 ∧ 0 < kk ∧ ∃ k, Low r c zs y k ∧ (¬ DiagP r c y.d → muD (ent c y.d) k + 1 < kk ∧ n + 1 + (muD (ent c y.d) k + 1) ≤ 1579) ∧
   ∀ m, DiagP r c y.d → D5.mixd r c y m → Low r c zs m k ∧ muD (ent c m.d) k + 1 < kk ∧ n + 1 + (muD (ent c m.d) k + 1) ≤ 1579 := by
 rcases h with ⟨rfl, rfl, rfl⟩ | ⟨hn, hb, k, hL, rfl, hle⟩
 ·obtain ⟨k, k4, l1, l2, l3, l4, l5⟩ := D5.rnd_first hy hr hc hz
  have hLy : Low r c zs y k := ⟨k4, l1, l2, fun i j hi hj => pow_up (l3 i j hi hj) (by omega), l4, l5⟩
  refine ⟨by omega, by omega, k, hLy, fun _ => ?_, fun m hd hm => ?_⟩
  ·have := mu_bound l1 k4 l2
   omega
  ·obtain ⟨m1, m2, m3, m4⟩ := D5.mix_low hm l1 hd l2 l3
   have hq : pr (ent c m.d) 0 k = pr (ent c y.d) 0 k := by
    obtain ⟨a, o, mm, -, -⟩ := hm
    have hak := o.inside l1
    obtain ⟨-, e2, -⟩ := R.mix_low l1 hak hd o.2.2.1
    have hkr := l1.kr
    have hkc := l1.kc
    rw [pr_congr (D := mixD (ent c y.d) a) k 0 (fun i _ hi => mm.2.2.2.1 i i (by omega) (by omega))]
    rcases e2 k with e | e
    ·exact e
    ·omega
   have := mu_bound m1 k4 m2
   exact ⟨⟨k4, m1, m2, m3, by rw [hq]; exact l4, l5⟩, by omega, by omega⟩
 ·obtain ⟨l1, l2, l3, -, l5⟩ := D5.rnd_low hy hL.low hL.k4 hL.p
  have hqy : (pr (ent c y.d) 0 k).natAbs = divF (ent c zs) r c k := (D5.rnd_div hy hL.low hL.k4).trans hL.q
  have hLy : Low r c zs y k := ⟨hL.k4, l1, l2, fun i j hi hj => pow_up (l3 i j hi hj) (by omega), hqy, hL.rk⟩
  refine ⟨by omega, by omega, k, hLy, fun hn => ?_, fun m hd hm => ?_⟩
  ·have := D5.mu_more hy hL.low hL.k4 hL.p hn
   omega
  ·obtain ⟨m1, m2, m3, m4⟩ := D5.mix_low hm l1 hd l2 l3
   have := D5.mu_mix hy hL.low hL.k4 hL.p hd hm
   have hq : pr (ent c m.d) 0 k = pr (ent c y.d) 0 k := by
    obtain ⟨a, o, mm, -, -⟩ := hm
    have hak := o.inside l1
    obtain ⟨-, e2, -⟩ := R.mix_low l1 hak hd o.2.2.1
    have hkr := l1.kr
    have hkc := l1.kc
    rw [pr_congr (D := mixD (ent c y.d) a) k 0 (fun i _ hi => mm.2.2.2.1 i i (by omega) (by omega))]
    rcases e2 k with e | e
    ·exact e
    ·omega
   exact ⟨⟨hL.k4, m1, m2, m3, by rw [hq]; exact hqy, hL.rk⟩, by omega, by omega⟩
end Go.Proofs.YtfjbijpagaipnaaGreatDoor
