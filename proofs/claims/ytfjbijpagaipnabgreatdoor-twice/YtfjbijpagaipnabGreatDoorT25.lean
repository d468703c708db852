import Derived.Test.YtfjbijpagaipnabGreatDoorT24
import Derived.Test.YtfjbijpagaipnabGreatDoorT17
import Derived.BigRegion
import Derived.Test.YtfjbijpagaipnabGreatDoorT08
import Derived.Test.YtfjbijpagaipnabGreatDoorT19
import Derived.BigQuiet
import Derived.Deep.RegionHeld3
import Derived.Test.YtfjbijpagaipnabGreatDoorT09
import Derived.Deep.CutRange
import Derived.Laws.CopyOwn
import Derived.Deep.RegionLaw
import Derived.Test.YtfjbijpagaipnabGreatDoorT21
import Derived.Deep.RegionLawGrows
import Derived.StillTailTactics
import Derived.Test.YtfjbijpagaipnabGreatDoorT18
import Derived.Test.YtfjbijpagaipnabGreatDoorT10
import Derived.Deep.RegionWith
import Derived.Laws.Cover3
import Derived.Test.YtfjbijpagaipnabGreatDoorT20
import Derived.Test.YtfjbijpagaipnabGreatDoorT22
namespace Go.Proofs.YtfjbijpagaipnabGreatDoor
open Go.RowKit
def Only (ms : List Hm) (h k : Nat) : Prop := ∀ j, j < 24 → (ms.map (Option.map Prod.fst)).getD j none = some h → j = k
theorem only_is {ms : List Hm} {h k i hd r c : Nat} {zs : List Int} {y : KMx} (ho : Only ms h k) (hk : ms.getD k none = some (h, y)) (hi : i < 24) (hx : ms.getD i none = some (hd, r, c, zs)) (he : ((hd : Nat) : Int) = (h : Int)) : y = (r, c, zs) := by
 obtain rfl : hd = h := by omega
 have e : i = k := ho i hi (by
  rw [List.getD, List.getElem?_map]
  rw [List.getD] at hx
  cases e1 : ms[i]? with
  | none => rw [e1] at hx; simp at hx
  | some z => rw [e1] at hx; simp at hx; subst hx; rfl)
 subst e
 rw [hk] at hx
 simp only [Option.some.injEq, Prod.mk.injEq, true_and] at hx
 exact hx
theorem only_no {ms : List Hm} {h k : Nat} {y : KMx} (hk24 : k < 24) (hk : ms.getD k none = some (h, y)) (hn : ∀ i, i < 24 → ∀ x, ms.getD i none = some x → (x.1 : Int) ≠ (h : Int)) : False := hn k hk24 _ hk rfl
theorem many_at {n : Nat} {Res : Nat → Nat → List Int → List (Nat × Nat × List Int) → Prop} {ms : List Hm} {nx h k r c : Nat} {zs : List Int} {ok : Bool} {e : Int} {xs : List KMx} {w w' : World} {b B d : Nat} {v : Value} (hk : KS B w d b ms nx) (hr : n ≤ ms.countP Option.isNone) (hk24 : k < 24) (ho : Only ms h k) (hg : ms.getD k none = some (h, r, c, zs)) (f : FitsP r c zs)
 (hrel : ManyRel n Res ms (h : Int) ok e xs) (hout : ManyOut w w' b n nx ms ok xs v) :
 e = 0 ∧ Res r c zs xs ∧ xs.length = n ∧ KS B w' d b (puts ms nx xs) (nx + n) ∧ Fr b w w' ∧ ∃ hb, v = .slice (some ⟨hb, 0, none⟩) n n ∧ hb < w'.heap.size ∧ w.heap.size ≤ hb ∧ ∀ j, j < n → w'.cell? ⟨hb, j, none⟩ = some (.int .i64 ((nx + j : Nat) : Int)) := by
 obtain ⟨rfl, rfl, hxl, hR⟩ : ok = true ∧ e = 0 ∧ xs.length = n ∧ Res r c zs xs := by
  rcases hrel with ⟨hn, -⟩ | ⟨i, hd, r1, c1, zs1, hi, hx, hxh, h⟩
  ·exact (only_no hk24 hg hn).elim
  ·have e1 := only_is ho hg hi hx hxh
   simp only [Prod.mk.injEq] at e1
   obtain ⟨rfl, rfl, rfl⟩ := e1
   rcases h with ⟨h, -⟩ | ⟨-, h, -⟩ | ⟨-, -, h1, h2, h3, h4⟩
   ·exact absurd f h
   ·omega
   ·exact ⟨h1, h2, h3, h4⟩
 rcases hout with ⟨h, -⟩ | ⟨-, hb, hz, rfl, hbl, hzl, hzj, hown, hH, hF⟩
 ·cases h
 ·refine ⟨rfl, hR, hxl, KS.step hk hH hF, hF, hb, rfl, hown.lt, hbl, fun j hj => ?_⟩
  have := hown.cell hzl j hj
  rw [hzj j hj] at this
  exact this
theorem echelon_at (B d b h k r c nx : Nat) (zs : List Int) (ms : List Hm) (w : World) (hk : KS B w d b ms nx) (hnx : nx < 900000) (hr : 3 ≤ ms.countP Option.isNone) (hk24 : k < 24) (ho : Only ms h k) (hg : ms.getD k none = some (h, r, c, zs)) (f : FitsP r c zs) :
 Calls Tryz.prog 27 #[.pointer (some ⟨b, 0, none⟩), .int .i64 h] w fun x w' => ∃ hb xs, x = .returned (.tuple #[.slice (some ⟨hb, 0, none⟩) 3 3, .int .i64 0]) ∧ EchRes r c zs xs ∧ xs.length = 3 ∧ KS B w' d b (puts ms nx xs) (nx + 3) ∧ Fr b w w' ∧ (hb < w'.heap.size ∧ w.heap.size ≤ hb) ∧ ∀ j, j < 3 → w'.cell? ⟨hb, j, none⟩ = some (.int .i64 ((nx + j : Nat) : Int)) := by
 refine (echelon_held b h ms nx w hk.held (by omega)).mono ?_
 rintro x w' ⟨v, e, ok, xs, rfl, hrel, hout⟩
 obtain ⟨rfl, h1, h2, h3, h4, hb, rfl, h5, h6, h7⟩ := many_at hk hr hk24 ho hg f hrel hout
 exact ⟨hb, xs, rfl, h1, h2, h3, h4, ⟨h5, h6⟩, h7⟩
theorem diagonal_at (B d b h k r c nx : Nat) (zs : List Int) (ms : List Hm) (w : World) (hk : KS B w d b ms nx) (hnx : nx < 900000) (hr : 5 ≤ ms.countP Option.isNone) (hk24 : k < 24) (ho : Only ms h k) (hg : ms.getD k none = some (h, r, c, zs)) (f : FitsP r c zs) :
 Calls Tryz.prog 28 #[.pointer (some ⟨b, 0, none⟩), .int .i64 h] w fun x w' => ∃ hb xs, x = .returned (.tuple #[.slice (some ⟨hb, 0, none⟩) 5 5, .int .i64 0]) ∧ DgRes r c zs xs ∧ xs.length = 5 ∧ KS B w' d b (puts ms nx xs) (nx + 5) ∧ Fr b w w' ∧ (hb < w'.heap.size ∧ w.heap.size ≤ hb) ∧ ∀ j, j < 5 → w'.cell? ⟨hb, j, none⟩ = some (.int .i64 ((nx + j : Nat) : Int)) := by
 refine (diagonal_held b h ms nx w hk.held (by omega)).mono ?_
 rintro x w' ⟨v, e, ok, xs, rfl, hrel, hout⟩
 obtain ⟨rfl, h1, h2, h3, h4, hb, rfl, h5, h6, h7⟩ := many_at hk hr hk24 ho hg f hrel hout
 exact ⟨hb, xs, rfl, h1, h2, h3, h4, ⟨h5, h6⟩, h7⟩
theorem shown_at (B d b h k r c nx : Nat) (zs : List Int) (ms : List Hm) (w : World) (hk : KS B w d b ms nx) (hk24 : k < 24) (ho : Only ms h k) (hg : ms.getD k none = some (h, r, c, zs)) :
 Calls Tryz.prog 20 #[.pointer (some ⟨d, 0, none⟩), .int .i64 h] w fun x w' => x = .returned (.string ⟨(matT r c zs).toArray⟩) ∧ Below w.heap.size w w' := by
 refine (shown_any B d b h ms nx w hk).mono ?_
 rintro x w' ⟨t, rfl, ⟨t0, e0, hs, ht⟩, hb⟩
 rcases hs with ⟨rfl, i, ⟨hd, r1, c1, zs1⟩, hi, hx, hxk, h1⟩ | ⟨-, -, hn⟩
 ·have e1 := only_is ho hg hi hx hxk
  simp only [Prod.mk.injEq] at e1
  obtain ⟨rfl, rfl, rfl⟩ := e1
  rcases ht with ⟨-, rfl⟩ | ⟨h2, -⟩
  ·rw [h1]; exact ⟨rfl, hb⟩
  ·exact absurd rfl h2
 ·exact (only_no hk24 hg hn).elim
theorem free_at (B d b h k nx : Nat) (y : KMx) (ms : List Hm) (w : World) (hk : KS B w d b ms nx) (hk24 : k < 24) (ho : Only ms h k) (hg : ms.getD k none = some (h, y)) :
 Calls Tryz.prog 29 #[.pointer (some ⟨b, 0, none⟩), .int .i64 h] w fun x w' => x = .returned (.int .i64 0) ∧ KS B w' d b (ms.set k none) nx ∧ Fr b w w' := by
 refine (free_held b h ms nx w hk.held).mono ?_
 rintro x w' ⟨fe, rfl, hfr⟩
 rcases hfr with ⟨rfl, i, hi, ⟨z, hz, hzk⟩, hH, hF⟩ | ⟨-, -, hn⟩
 ·obtain rfl : i = k := ho i hi (by
   rw [List.getD, List.getElem?_map]
   rw [List.getD] at hz
   cases e1 : ms[i]? with
   | none => rw [e1] at hz; simp at hz
   | some z' =>
     rw [e1] at hz
     simp at hz
     subst hz
     show some z.1 = some h
     rw [show z.1 = h from by omega])
  exact ⟨rfl, hk.step hH hF, hF⟩
 ·exact (only_no hk24 hg hn).elim
end Go.Proofs.YtfjbijpagaipnabGreatDoor
namespace Go.Proofs.YtfjbijpagaipnabGreatDoor.R
open Go.RowKit
open Go.RowKit
open Go.RowKit
open Go.RowKit
open Go.RowKit
open Go.RowKit
open Go.RowKit
open Go.RowKit
open Go.RowKit
end Go.Proofs.YtfjbijpagaipnabGreatDoor.R
namespace Go.Proofs.YtfjbijpagaipnabGreatDoor
open Go.RowKit R
open Go.RowKit R
open Go.RowKit R
open Go.RowKit R
open Go.RowKit R
open Go.RowKit R
open Go.RowKit R
open Go.RowKit R
open Go.RowKit
open Go.RowKit R
open Go.RowKit R
open Go.RowKit R
open Go.RowKit R
open Go.RowKit R
open Go.RowKit R
open Go.RowKit R
end Go.Proofs.YtfjbijpagaipnabGreatDoor
namespace Go.Proofs.YtfjbijpagaipnabGreatDoor.R
open Go.RowKit
end Go.Proofs.YtfjbijpagaipnabGreatDoor.R
namespace Go.Proofs.YtfjbijpagaipnabGreatDoor
open Go.RowKit R
open Go.RowKit R
open Go.RowKit R
theorem Sp.to {H : Nat → Nat → Int} {k c : Nat} {v v' : Nat → Int} (h : Sp H k c v) (he : ∀ j, j < c → v' j = v j) : Sp H k c v' := by
 obtain ⟨x, hx⟩ := h
 exact ⟨x, fun j hj => by rw [he j hj]; exact hx j hj⟩
theorem Sp.mul {O : Nat → Nat → Int} {n c : Nat} {v : Nat → Int} (h : Sp O n c v) (t : Int) : Sp O n c (fun j => t * v j) := R.Sp.scale t h
end Go.Proofs.YtfjbijpagaipnabGreatDoor
namespace Go.Proofs.YtfjbijpagaipnabGreatDoor.R
open Go.RowKit
theorem signed_dvd {d : Int} (k : Nat) {x : Int} (h : d ∣ x) : d ∣ signed k x := by
 unfold signed
 split
 ·exact (Int.dvd_neg).2 h
 ·exact h
theorem sumF_dvd {d : Int} {f : Nat → Int} : ∀ n, (∀ k, k < n → d ∣ f k) → d ∣ sumF n f := by
 intro n
 induction n with
 | zero => intro _; exact Int.dvd_zero _
 | succ n ih => intro h; rw [sumF]; exact Int.dvd_add (ih fun k hk => h k (by omega)) (h n (by omega))
theorem chain_rows {X : Nat → Nat → Int} {r c : Nat} (hd : ∀ i j, i < r → j < c → i ≠ j → X i j = 0) (hv : ∀ i j, i ≤ j → j < r → j < c → X i i ∣ X j j) : ∀ (R : List Nat) (o : Nat) (C : List Nat), R.length = C.length → (∀ i, i < R.length → o + i ≤ R.getD i 0) → (∀ x ∈ R, x < r) → (∀ x ∈ C, x < c) → pr X o R.length ∣ mv (R.map X) C := by
 intro R
 induction R with
 | nil => intro o C _ _ _ _; exact Int.one_dvd _
 | cons x R ih =>
   intro o C hl ho hr hc
   rw [List.map_cons, mv, List.length_cons, pr]
   refine sumF_dvd _ fun k hk => signed_dvd k ?_
   refine Int.mul_dvd_mul ?_ (ih (o + 1) _ ?_ ?_ (fun y hy => hr y (by simp [hy])) (fun y hy => hc y (List.mem_of_mem_eraseIdx hy)))
   ·have hx := hr x (by simp)
    have h0 := ho 0 (by simp)
    have hck : C.getD k 0 < c := hc _ (by rw [List.getD, List.getElem?_eq_getElem hk]; exact List.getElem_mem _)
    by_cases e : x = C.getD k 0
    ·rw [← e]
     rw [← e] at hck
     exact hv o x (by simpa using h0) hx hck
    ·rw [hd x _ hx hck e]; exact Int.dvd_zero _
   ·rw [List.length_eraseIdx_of_lt hk]; simp at hl; omega
   ·intro i hi
    have := ho (i + 1) (by simp; omega)
    simp at this
    simp
    omega
theorem chosenL_ge : ∀ (m n : Nat) (R : List Nat), R ∈ chosenL m n → ∀ i, i < R.length → i ≤ R.getD i 0 := by
 intro m
 induction m with
 | zero =>
   intro n R hR i hi
   have := (chosenL_lt hR).1
   omega
 | succ m ih =>
   intro n R hR i hi
   have hlR := (chosenL_lt hR).1
   obtain ⟨Q, last, rfl, hQ, h1, h2⟩ := chosenL_last hR
   have hl := (chosenL_lt hQ).1
   by_cases e : i < Q.length
   ·have := ih last Q hQ i e
    rw [List.getD, List.getElem?_append_left e, ← List.getD]
    exact this
   ·obtain rfl : i = Q.length := by omega
    simp
    omega
theorem chain_div {X : Nat → Nat → Int} {r c m : Nat} (hd : ∀ i j, i < r → j < c → i ≠ j → X i j = 0) (hv : ∀ i j, i ≤ j → j < r → j < c → X i i ∣ X j j) (hm : m ≤ 4) (hr : m ≤ r) (hc : m ≤ c) : divF X r c m = (pr X 0 m).natAbs := by
 refine Nat.dvd_antisymm ?_ ?_
 ·have h1 := (div_dvd _ X r c m hm).1 (Nat.dvd_refl _)
  have h2 := chosenL_any hm h1 (R := List.range m) (C := List.range m) (by simp) (fun x hx => by have := List.mem_range.1 hx; omega) (by simp) (fun x hx => by have := List.mem_range.1 hx; omega)
  have h3 : mv ((List.range m).map X) (List.range m) = pr X 0 m := by
   rw [List.range_eq_range']
   exact mv_up m 0 (fun i j h1 h2 => hd i j (by omega) (by omega) (by omega))
  rw [h3] at h2
  exact Int.ofNat_dvd_left.1 h2
 ·rw [div_dvd _ X r c m hm]
  intro C hC R hR hRr
  have hCl := chosenL_lt hC
  have := rise_all (((pr X 0 m).natAbs : Nat) : Int) X C (by omega) m r [] (by simp [hCl.1]) (fun R' hR' => by
   have h1 := chosenL_lt hR'
   rw [List.append_nil]
   have h2 := chain_rows hd hv R' 0 C (by omega) (fun i hi => by have := chosenL_ge m r R' hR' i hi; omega) h1.2 hCl.2
   rw [h1.1] at h2
   exact Int.natAbs_dvd.2 h2) R (by omega) hRr
  simpa using this
theorem div_like {f g : Nat → Nat → Int} {r c m : Nat} (h : ∀ i j, i < r → j < c → f i j = g i j) (hm : m ≤ 4) : divF f r c m = divF g r c m :=
 div_same (fun i hi => (Sp.row g c hi).to fun j hj => h i j hi hj) (fun i hi => (Sp.row f c hi).to fun j hj => (h i j hi hj).symm) hm
theorem cols_div {r c m : Nat} {d1 vs ts d2 v2 t2 : List Int} (h : ColsTo r c d1 vs ts d2 v2 t2) (hm : m ≤ 4) : divF (ent c d2) r c m = divF (ent c d1) r c m := by
 obtain ⟨k, pc, E, U, W, -, hE, he⟩ := h.form
 rw [div_like he hm, div_tr E c r m hm, div_einv hE hm, div_tr (ent c d1) r c m hm]
theorem rows_div {r c m : Nat} {ds us ss d1 u1 s1 : List Int} (h : RowsTo r c ds us ss d1 u1 s1) (hm : m ≤ 4) : divF (ent c d1) r c m = divF (ent c ds) r c m := by
 obtain ⟨k, a, b, -, -, -, -, -, -, -, -, -, hE⟩ := h
 exact div_einv hE hm
theorem rnd_div {r c m : Nat} {x y : D5} (h : D5.rnd r c x y) (hm : m ≤ 4) : divF (ent c y.d) r c m = divF (ent c x.d) r c m := by
 obtain ⟨d1, h1, h2⟩ := h
 rw [cols_div h2 hm, rows_div h1 hm]
theorem mix_div {r c m : Nat} {x y : D5} (h : D5.mixd r c x y) (hm : m ≤ 4) : divF (ent c y.d) r c m = divF (ent c x.d) r c m := by
 obtain ⟨a, ho, ⟨-, -, -, h1, -⟩, -, -⟩ := h
 have ha : a + 1 < c := ho.2.1
 rw [← div_tr (ent c y.d) r c m hm, ← div_tr (ent c x.d) r c m hm]
 refine div_same (fun i hi => ?_) (fun i hi => ?_) hm
 ·by_cases e : i = a
  ·subst e
   have s1 := Sp.row (tr (ent c x.d)) r (show i < c by omega)
   have s2 := (Sp.row (tr (ent c x.d)) r ha).mul (-1)
   refine (s1.sub s2).to fun j hj => ?_
   show ent c y.d j i = ent c x.d j i - -1 * ent c x.d j (i + 1)
   rw [h1 j i hj hi, if_pos rfl]; omega
  ·refine (Sp.row (tr (ent c x.d)) r hi).to fun j hj => ?_
   show ent c y.d j i = ent c x.d j i
   rw [h1 j i hj hi, if_neg e]
 ·by_cases e : i = a
  ·subst e
   refine ((Sp.row (tr (ent c y.d)) r (show i < c by omega)).sub (Sp.row (tr (ent c y.d)) r ha)).to fun j hj => ?_
   show ent c x.d j i = ent c y.d j i - ent c y.d j (i + 1)
   rw [h1 j i hj hi, if_pos rfl, h1 j (i + 1) hj ha, if_neg (by omega)]; omega
  ·refine (Sp.row (tr (ent c y.d)) r hi).to fun j hj => ?_
   show ent c x.d j i = ent c y.d j i
   rw [h1 j i hj hi, if_neg e]
theorem run_div {r c m : Nat} {x y : D5} (h : D5.run r c x y) (hm : m ≤ 4) : divF (ent c y.d) r c m = divF (ent c x.d) r c m := by
  obtain ⟨n, h⟩ := h
  induction n generalizing x with
  | zero => exact h.elim
  | succ n ih =>
    obtain ⟨u, a, h⟩ := h
    rcases h with ⟨_, _, rfl⟩ | ⟨_, g⟩ | ⟨_, v, b, g⟩
    · exact rnd_div a hm
    · rw [ih g, rnd_div a hm]
    · rw [ih g, mix_div b hm, rnd_div a hm]
theorem rankIs_uniq {f g : Nat → Nat → Int} {r r' c k k' : Nat} (hd : ∀ m, m ≤ 4 → divF f r c m = divF g r' c m) (hc : c ≤ 4) (h : RankIs f r c k) (h' : RankIs g r' c k') : k = k' := by
 have key : ∀ {f g : Nat → Nat → Int} {r r' k k' : Nat}, (∀ m, m ≤ 4 → divF f r c m = divF g r' c m) → RankIs f r c k → RankIs g r' c k' → k ≤ k' := by
  intro f g r r' k k' hd h h'
  apply Classical.byContradiction
  intro hn
  have h1 := h.2.1
  have h3 := h.2.2.1 k' (by omega)
  rw [hd (k' + 1) (by omega)] at h3
  rcases h'.2.2.2 with e | e | e
  ·exact h3 (div_few g (by omega))
  ·omega
  ·exact h3 e
 have a := key hd h h'
 have b := key (fun m hm => (hd m hm).symm) h' h
 omega
theorem diag_uniq {r c : Nat} {zs ys : List Int} {x y : D5} (hx : DgIs r c zs x) (hy : DgIs r c ys y) (lx : x.d.length = r * c) (ly : y.d.length = r * c) (hc : c ≤ 4) (hd : ∀ m, m ≤ 4 → divF (ent c zs) r c m = divF (ent c ys) r c m) : x.d = y.d := by
 obtain ⟨k, lk⟩ := hx.low
 obtain ⟨k', lk'⟩ := hy.low
 obtain rfl := rankIs_uniq hd hc lk.rk lk'.rk
 have chain : ∀ {zs : List Int} {x : D5}, DgIs r c zs x → ∀ n i j, j = i + n → j < r → j < c → ent c x.d i i ∣ ent c x.d j j := by
  intro zs x hx n
  induction n with
  | zero => intro i j e _ _; rw [e]; exact Int.dvd_refl _
  | succ n ih =>
    intro i j e hr hc
    subst e
    exact Int.dvd_trans (ih i (i + n) rfl (by omega) (by omega)) (hx.div (i + n) (by omega) (by omega))
 have e1 : ∀ m, m ≤ k → pr (ent c x.d) 0 m = pr (ent c y.d) 0 m := by
  intro m hm
  have h4 := lk.k4
  have hkr := lk.low.kr
  have hkc := lk.low.kc
  have a := chain_div (m := m) hx.diag (fun i j hij hr hc => chain hx (j - i) i j (by omega) hr hc) (by omega) (by omega) (by omega)
  have b := chain_div (m := m) hy.diag (fun i j hij hr hc => chain hy (j - i) i j (by omega) hr hc) (by omega) (by omega) (by omega)
  have a' : divF (ent c x.d) r c m = divF (ent c zs) r c m := run_div hx.run (by omega)
  have b' : divF (ent c y.d) r c m = divF (ent c ys) r c m := run_div hy.run (by omega)
  have p1 := lk.low.pr_pos hm
  have p2 := lk'.low.pr_pos hm
  have := hd m (by omega)
  omega
 have e2 := diag_eq e1 (fun m hm => lk.low.pr_pos hm)
 refine list_ent lx ly fun i j hi hj => ?_
 by_cases e : i = j
 ·subst e
  by_cases hk : i < k
  ·exact e2 i hk
  ·rw [lk.low.out i i hi hj (.inl (by omega)), lk'.low.out i i hi hj (.inl (by omega))]
 ·rw [hx.diag i j hi hj e, hy.diag i j hi hj e]
open Go.RowKit
theorem form_all {r c k : Nat} {pc : Nat → Nat} {H : Nat → Nat → Int} (h : EchSt r c k pc H) (C : List Nat) (hC : C.length = k) (hc : ∀ x ∈ C, x < c) (h4 : k ≤ 4) : AllD (mv ((List.range k).map H) C) H r C := by
 intro R hR hr
 have := rise_all (mv ((List.range k).map H) C) H C (by omega) k r [] (by simp [hC]) (fun R' hR' => by
  rw [List.append_nil]
  obtain ⟨h1, h2⟩ := chosenL_lt hR'
  by_cases hall : ∀ x ∈ R', x < k
  ·rw [chosen_in hR' hall]
   exact Int.dvd_refl _
  ·have hex : ∃ x, x ∈ R' ∧ k ≤ x := Classical.byContradiction (fun hn => hall (fun x hx => Nat.lt_of_not_le (fun hle => hn ⟨x, hx, hle⟩)))
   obtain ⟨x, hx, hle⟩ := hex
   obtain ⟨xs, ys, he⟩ := List.append_of_mem hx
   have hlen : xs.length + ys.length + 1 = k := by have := congrArg List.length he; simp at this; omega
   rw [he, List.map_append, List.map_cons, mv_zero_row (H x) (ys.map H) (xs.map H) C (fun j hj => h.rest x hle (h2 x hx) j (hc j hj)) (by simp; omega)]
   exact Int.dvd_zero _) R (by omega) hr
 simpa using this
theorem form_minor {r c k B : Nat} {pc : Nat → Nat} {A H U W : Nat → Nat → Int} (h : EchSt r c k pc H) (hE : EInv A H U W r c) (hA : ∀ i j, i < r → j < c → (A i j).natAbs ≤ B) (C : List Nat) (hC : C.length = k) (hc : ∀ x ∈ C, x < c) (h4 : k ≤ 4) :
 (mv ((List.range k).map H) C).natAbs ≤ fct k * B ^ k := by
 have e1 := allD_comb (form_all h C hC hc h4) (fun i hi => comb_of_dot hc (fun j hj => hE.wh i j hi hj))
 by_cases h0 : AllD 0 A r C
 ·have e2 := allD_comb h0 (fun i hi => comb_of_dot hc (fun j hj => hE.ua i j hi hj))
  have e3 := e2 (List.range k) (by simp [hC]) (fun x hx => by have := List.mem_range.1 hx; have := h.le; omega)
  rw [Int.zero_dvd.1 e3]
  simp
 ·have : ∃ R : List Nat, R.length = C.length ∧ (∀ x ∈ R, x < r) ∧ mv (R.map A) C ≠ 0 := Classical.byContradiction (fun hn => h0 (fun R hR hr => by
   rw [Int.zero_dvd]
   exact Classical.byContradiction (fun hne => hn ⟨R, hR, hr, hne⟩)))
  obtain ⟨R, hR, hr, hne⟩ := this
  have e2 := e1 R hR hr
  have e3 := mv_bound B (R.map A) C (by simp [hR]) (fun v hv x hx => by
   obtain ⟨i, hi, rfl⟩ := List.mem_map.1 hv
   exact hA i x (hr i hi) (hc x hx))
  rw [List.length_map, hR, hC] at e3
  exact Nat.le_trans (Nat.le_of_dvd (Int.natAbs_pos.2 hne) (Int.natAbs_dvd_natAbs.2 e2)) e3
theorem le_of_mul {a b : Int} {M : Nat} (ha : 0 < a) (h : (a * b).natAbs ≤ M) : b.natAbs ≤ M := by
 rw [Int.natAbs_mul] at h
 have h1 : 1 ≤ a.natAbs := by omega
 have h2 := Nat.mul_le_mul_right b.natAbs h1
 omega
theorem mv2 (u v : Nat → Int) (i j : Nat) : mv [u, v] [i, j] = u i * v j - u j * v i := by
 simp [mv, sumF, signed, List.eraseIdx, Int.sub_eq_add_neg]
theorem mv1 (u : Nat → Int) (i : Nat) : mv [u] [i] = u i := by
 simp [mv, sumF, signed]
theorem mv3 (u v x : Nat → Int) (hv0 : v 0 = 0) (hx0 : x 0 = 0) (hx1 : x 1 = 0) : mv [u, v, x] [0, 1, 2] = u 0 * (v 1 * x 2) := by
 simp [mv, sumF, signed, List.eraseIdx, hv0, hx0, hx1]
theorem form_small {r c k B : Nat} {pc : Nat → Nat} {A H U W : Nat → Nat → Int} (h : EchSt r c k pc H) (hE : EInv A H U W r c) (hc3 : c ≤ 3) (hB : B ≤ 36) (hA : ∀ i j, i < r → j < c → (A i j).natAbs ≤ B) : ∀ i j, i < r → j < c → (H i j).natAbs ≤ 600000 := by
 have hk3 : k ≤ 3 := by have := h.te; omega
 have hkr := h.le
 have hM : ∀ C : List Nat, C.length = k → (∀ x ∈ C, x < c) → (mv ((List.range k).map H) C).natAbs ≤ 279936 := by
  intro C hC hc
  refine Nat.le_trans (form_minor h hE hA C hC hc (by omega)) ?_
  have h1 : B ^ k ≤ 36 ^ k := Nat.pow_le_pow_left hB k
  obtain rfl | rfl | rfl | rfl : k = 0 ∨ k = 1 ∨ k = 2 ∨ k = 3 := by omega
  ·simp [fct]
  ·simp only [fct]; omega
  ·simp only [fct]; omega
  ·simp only [fct]; omega
 intro i j hi hj
 by_cases hik : k ≤ i
 ·rw [h.rest i hik hi j hj]; simp
 obtain rfl | rfl | rfl | rfl : k = 0 ∨ k = 1 ∨ k = 2 ∨ k = 3 := by omega
 ·omega
 ·obtain rfl : i = 0 := by omega
  have := hM [j] rfl (by simpa using hj)
  simp only [List.range_one, List.map_cons, List.map_nil, mv1] at this
  omega
 ·have hM2 : ∀ a b, a < c → b < c → (H 0 a * H 1 b - H 0 b * H 1 a).natAbs ≤ 279936 := fun a b ha hb => by
   have := hM [a, b] rfl (by simp; exact ⟨ha, hb⟩)
   rw [show List.range 2 = [0, 1] from rfl] at this
   simpa only [List.map_cons, List.map_nil, mv2] using this
  have p0 := h.piv 0 (by omega)
  have p1 := h.piv 1 (by omega)
  have hup := h.up 0 1 (by omega) (by omega)
  have q1 := h.col 1 (by omega)
  have b1 := h.below 0 (by omega) 1 (by omega) (by omega)
  have a1 := h.above 1 (by omega) 0 (by omega)
  have l0 := h.left 0 (by omega)
  have l1 := h.left 1 (by omega)
  have d1 := hM2 (pc 0) (pc 1) (by omega) q1
  rw [b1, Int.mul_zero, Int.sub_zero] at d1
  have g1 := le_of_mul p0 d1
  have g0 := le_of_mul p1 (by rw [Int.mul_comm]; exact d1)
  generalize e0 : pc 0 = P0 at *
  generalize e1 : pc 1 = P1 at *
  have hcol : j = P0 ∨ j = P1 ∨ (j ≠ P0 ∧ j ≠ P1) := by omega
  obtain rfl | rfl : i = 0 ∨ i = 1 := by omega
  ·rcases hcol with rfl | rfl | ⟨n0, n1⟩
   ·omega
   ·omega
   ·by_cases hj0 : j < P0
    ·rw [l0 j hj0]; simp
    ·by_cases hj1 : j < P1
     ·have d2 := hM2 j P1 hj q1
      rw [l1 j hj1, Int.mul_zero, Int.sub_zero] at d2
      have := le_of_mul p1 (by rw [Int.mul_comm]; exact d2)
      omega
     ·have d2 := hM2 P0 j (by omega) hj
      rw [b1, Int.mul_zero, Int.sub_zero] at d2
      have y := le_of_mul p0 d2
      have d3 := hM2 P1 j q1 hj
      have e2 : (H 0 P1 * H 1 j).natAbs ≤ (H 1 P1).natAbs * 279936 := by
       rw [Int.natAbs_mul]
       exact Nat.mul_le_mul (by omega) y
      have e3 : (H 0 j * H 1 P1).natAbs ≤ 279936 + (H 1 P1).natAbs * 279936 := by omega
      rw [Int.natAbs_mul] at e3
      have e4 : 1 ≤ (H 1 P1).natAbs := by omega
      have e5 : (H 0 j).natAbs * (H 1 P1).natAbs ≤ 559872 * (H 1 P1).natAbs := by omega
      have := Nat.le_of_mul_le_mul_right e5 e4
      omega
  ·rcases hcol with rfl | rfl | ⟨n0, n1⟩
   ·rw [b1]; simp
   ·omega
   ·by_cases hj1 : j < P1
    ·rw [l1 j hj1]; simp
    ·have d2 := hM2 P0 j (by omega) hj
     rw [b1, Int.mul_zero, Int.sub_zero] at d2
     have y := le_of_mul p0 d2
     omega
 ·have c3 : c = 3 := by have := h.te; omega
  subst c3
  have u1 := h.up 0 1 (by omega) (by omega)
  have u2 := h.up 1 2 (by omega) (by omega)
  have q2 := h.col 2 (by omega)
  have e0 : pc 0 = 0 := by omega
  have e1 : pc 1 = 1 := by omega
  have e2 : pc 2 = 2 := by omega
  have p0 := h.piv 0 (by omega)
  have p1 := h.piv 1 (by omega)
  have p2 := h.piv 2 (by omega)
  have b01 := h.below 0 (by omega) 1 (by omega) (by omega)
  have b02 := h.below 0 (by omega) 2 (by omega) (by omega)
  have b12 := h.below 1 (by omega) 2 (by omega) (by omega)
  have a10 := h.above 1 (by omega) 0 (by omega)
  have a20 := h.above 2 (by omega) 0 (by omega)
  have a21 := h.above 2 (by omega) 1 (by omega)
  rw [e0] at p0 b01 b02
  rw [e1] at p1 b12 a10
  rw [e2] at p2 a20 a21
  have d := hM [0, 1, 2] rfl (by simp)
  rw [show List.range 3 = [0, 1, 2] from rfl, List.map_cons, List.map_cons, List.map_cons, List.map_nil, mv3 _ _ _ b01 b02 b12] at d
  have g := le_of_mul p0 d
  have g2 := le_of_mul p1 g
  have g1 := le_of_mul p2 (by rw [Int.mul_comm]; exact g)
  have g0 := le_of_mul (Int.mul_pos p1 p2) (by rw [Int.mul_comm]; exact d)
  obtain rfl | rfl | rfl : i = 0 ∨ i = 1 ∨ i = 2 := by omega
  ·obtain rfl | rfl | rfl : j = 0 ∨ j = 1 ∨ j = 2 := by omega
   ·omega
   ·omega
   ·omega
  ·obtain rfl | rfl | rfl : j = 0 ∨ j = 1 ∨ j = 2 := by omega
   ·rw [b01]; simp
   ·omega
   ·omega
  ·obtain rfl | rfl | rfl : j = 0 ∨ j = 1 ∨ j = 2 := by omega
   ·rw [b02]; simp
   ·rw [b12]; simp
   ·omega
end Go.Proofs.YtfjbijpagaipnabGreatDoor.R
namespace Go.Proofs.YtfjbijpagaipnabGreatDoor
open Go.RowKit
theorem ech_again {r c k k' : Nat} {zs hs hs' us us' ws ws' : List Int} {pc pc' : Nat → Nat} (h : EchIs r c zs k pc hs us ws) (h' : EchIs r c hs k' pc' hs' us' ws') : hs = hs' := by
 obtain ⟨s1, s2⟩ := span_rows h.st h.inv
 have hle := h.st.le
 obtain ⟨rfl, e⟩ := (same_span h.st h.inv h'.st h'.inv).2 ⟨fun i hi => (s1 i hi).trans fun l hl => Sp.row _ c (by omega), s2⟩
 refine list_ent h.lh h'.lh fun i j hi hj => ?_
 by_cases hk : i < k
 ·exact e i j hk hj
 ·rw [h.st.rest i (by omega) hi j hj, h'.st.rest i (by omega) hi j hj]
theorem small_fits {r c : Nat} {zs : List Int} (hr : r ≤ 4) (hc : c ≤ 4) (h : ∀ i j, i < r → j < c → (ent c zs i j).natAbs ≤ 600000) : FitsP r c zs := by
 refine ⟨hr, hc, fun t ht => ?_⟩
 have hd := rect_div ht
 have h1 := h _ _ hd.1 hd.2
 have h2 : ent c zs (t / c) (t % c) = zs.getD t 0 := by
  unfold ent
  rw [Nat.mul_comm, Nat.div_add_mod]
 rw [h2] at h1
 omega
theorem ech_fits {r c k : Nat} {zs hs us ws : List Int} {pc : Nat → Nat} (h : EchIs r c zs k pc hs us ws) (hr : r ≤ 3) (hc : c ≤ 3) (hz : ∀ i j, i < r → j < c → (ent c zs i j).natAbs ≤ 36) : FitsP r c hs :=
 small_fits (by omega) (by omega) (R.form_small h.st h.inv hc (Nat.le_refl 36) hz)
theorem dg_fits {r c : Nat} {zs : List Int} {y : D5} (h : DgIs r c zs y) (hr : r ≤ 3) (hc : c ≤ 3) (hz : ∀ i j, i < r → j < c → (ent c zs i j).natAbs ≤ 36) : FitsP r c y.d := by
 obtain ⟨k, lk⟩ := h.low
 refine small_fits (by omega) (by omega) fun i j hi hj => ?_
 by_cases e : i = j
 ·subst e
  by_cases hk : i < k
  ·have h1 := R.diag_le lk.low.pos hk
   have h2 := lk.low.pos i hk
   have h3 := lk.q
   have h4 := lk.low.pr_pos (Nat.le_refl k)
   have hkr := lk.low.kr
   have h5 := R.div_bound (k := k) (by omega) hz (by omega)
   have h6 : R.fct k * 36 ^ k ≤ 279936 := by
    obtain rfl | rfl | rfl | rfl : k = 0 ∨ k = 1 ∨ k = 2 ∨ k = 3 := by omega
    all_goals decide
   omega
  ·rw [lk.low.out i i hi hj (.inl (by omega))]; simp
 ·rw [h.diag i j hi hj e]; simp
theorem dg_again {r c : Nat} {zs : List Int} {x y : D5} (hx : DgIs r c zs x) (hy : DgIs r c x.d y) (lx : x.d.length = r * c) (ly : y.d.length = r * c) (hc : c ≤ 4) : x.d = y.d :=
 R.diag_uniq hx hy lx ly hc fun _ hm => (R.run_div hx.run hm).symm
end Go.Proofs.YtfjbijpagaipnabGreatDoor
