import Derived.Test.YtfjbijpagaipnabDoorQ28
import Derived.Test.YtfjbijpagaipnabDoorQ29
import Derived.Test.YtfjbijpagaipnabDoorQ21
namespace Go.Proofs.YtfjbijpagaipnabDoor
open Go.RowKit
theorem solve_yes (B d b g h r q : Nat) (zs ys : List Int) (l : List KMx) (w : World) (hk : KL B w d b l) (hl : l.length + 2 ≤ 24) (hg : l[g]? = some (r, q, zs)) (hh : l[h]? = some (r, 1, ys)) (f1 : FitsP r q zs) (f2 : FitsP r 1 ys) (hs : SolS r q zs ys) :
 Calls Tryd.prog 14 #[.pointer (some ⟨b, 0, none⟩), .int .i64 g, .int .i64 h] w fun x w' => ∃ hb us nk ks, x = .returned (.tuple #[.bool true, .slice (some ⟨hb, 0, none⟩) 2 2, .int .i64 0]) ∧ SolveIs r q zs ys us nk ks ∧ KL B w' d b (l ++ [(q, 1, us), (nk, q, ks)]) ∧ Fr b w w' ∧ ∀ j, j < 2 → w'.cell? ⟨hb, j, none⟩ = some (.int .i64 ((l.length + j : Nat) : Int)) := by
 refine (solve_held b g h (stk l) l.length w hk.held (by omega)).mono ?_
 rintro x w' ⟨y, v, e, xs, rfl, hrel, hout⟩
 obtain ⟨rfl, rfl, us, nk, ks, hS, rfl⟩ : y = true ∧ e = 0 ∧ ∃ us nk ks, SolveIs r q zs ys us nk ks ∧ xs = [(q, 1, us), (nk, q, ks)] := by
  rcases hrel with ⟨h1, -⟩ | ⟨i, hd, r1, q1, zs1, j, hd', r', c1, ys1, hi, hx, hxk, hj, hy, hyk, hrel⟩
  ·rcases h1 with h1 | h1
   ·exact (stk_no (by omega) hg h1).elim
   ·exact (stk_no (by omega) hh h1).elim
  ·have e1 := stk_is hi hx hxk hg
   have e2 := stk_is hj hy hyk hh
   simp only [Prod.mk.injEq] at e1 e2
   obtain ⟨rfl, rfl, rfl⟩ := e1
   obtain ⟨rfl, rfl, rfl⟩ := e2
   rcases hrel with ⟨h1, -⟩ | ⟨-, h1, -⟩ | ⟨-, -, ⟨h1, -⟩, -⟩ | ⟨-, -, -, h1, -⟩ | ⟨-, -, -, -, h1, h2, h3⟩
   ·exact absurd ⟨rfl, rfl⟩ h1
   ·exact absurd ⟨f1, f2⟩ h1
   ·exact absurd hs h1
   ·rw [stk_count l (by omega)] at h1; omega
   ·exact ⟨h1, h2, h3⟩
 rcases hout with ⟨h, -⟩ | ⟨-, hb, hz, rfl, -, hzl, hzj, hown, hH, hF⟩
 ·cases h
 ·rw [stk_puts _ l (by simp; omega)] at hH
  refine ⟨hb, us, nk, ks, rfl, hS, ?_, hF, fun j hj => ?_⟩
  ·unfold KL
   rw [List.length_append]
   exact KS.step hk hH hF
  ·have := hown.cell hzl j hj
   rw [hzj j hj] at this
   exact this
theorem solve_no (B d b g h r q : Nat) (zs ys : List Int) (l : List KMx) (w : World) (hk : KL B w d b l) (hl : l.length ≤ 24) (hg : l[g]? = some (r, q, zs)) (hh : l[h]? = some (r, 1, ys)) (f1 : FitsP r q zs) (f2 : FitsP r 1 ys) (hs : ¬ SolS r q zs ys) :
 Calls Tryd.prog 14 #[.pointer (some ⟨b, 0, none⟩), .int .i64 g, .int .i64 h] w fun x w' => x = .returned (.tuple #[.bool false, .slice none 0 0, .int .i64 0]) ∧ KL B w' d b l ∧ Fr b w w' := by
 refine (solve_held b g h (stk l) l.length w hk.held (by omega)).mono ?_
 rintro x w' ⟨y, v, e, xs, rfl, hrel, hout⟩
 obtain ⟨rfl, rfl⟩ : y = false ∧ e = 0 := by
  rcases hrel with ⟨h1, -⟩ | ⟨i, hd, r1, q1, zs1, j, hd', r', c1, ys1, hi, hx, hxk, hj, hy, hyk, hrel⟩
  ·rcases h1 with h1 | h1
   ·exact (stk_no (by omega) hg h1).elim
   ·exact (stk_no (by omega) hh h1).elim
  ·have e1 := stk_is hi hx hxk hg
   have e2 := stk_is hj hy hyk hh
   simp only [Prod.mk.injEq] at e1 e2
   obtain ⟨rfl, rfl, rfl⟩ := e1
   obtain ⟨rfl, rfl, rfl⟩ := e2
   rcases hrel with ⟨h1, -⟩ | ⟨-, h1, -⟩ | ⟨-, -, -, h1, h2, -⟩ | ⟨-, -, ⟨h1, -⟩, -⟩ | ⟨-, -, ⟨h1, -⟩, -⟩
   ·exact absurd ⟨rfl, rfl⟩ h1
   ·exact absurd ⟨f1, f2⟩ h1
   ·exact ⟨h1, h2⟩
   ·exact absurd h1 hs
   ·exact absurd h1 hs
 rcases hout with ⟨-, rfl, hH, hF⟩ | ⟨h, -⟩
 ·exact ⟨rfl, hk.same hH hF, hF⟩
 ·cases h
theorem sol_iff (r q : Nat) (em ew : Nat → Nat → Int) : SolS r q (nums r q em) (nums r 1 ew) ↔ ∃ x : Nat → Int, ∀ i, i < r → ew i 0 = sm (fun l => x l * em i l) q := by
 have h1 : ∀ i, i < r → ent r (flipL r 1 (nums r 1 ew)) 0 i = ew i 0 := fun i hi => by rw [(flipL_is r 1 _).2 0 i (by omega) hi, nums_ent _ hi (by omega)]
 have h2 : ∀ l i, l < q → i < r → ent r (flipL r q (nums r q em)) l i = em i l := fun l i hl hi => by rw [(flipL_is r q _).2 l i hl hi, nums_ent _ hi hl]
 unfold SolS
 constructor
 ·rintro ⟨x, hx⟩
  refine ⟨x, fun i hi => ?_⟩
  rw [← h1 i hi, hx i hi]
  exact sm_congr q fun l hl => by rw [h2 l i hl hi]
 ·rintro ⟨x, hx⟩
  refine ⟨x, fun i hi => ?_⟩
  rw [h1 i hi, hx i hi]
  exact sm_congr q fun l hl => by rw [h2 l i hl hi]
theorem sol_made (r q : Nat) (em ev ew : Nat → Nat → Int) (f : Int) (hw : ∀ i, i < r → ew i 0 = f * dot em ev i 0 q) : SolS r q (nums r q (fun i j => f * em i j)) (nums r 1 ew) := by
 rw [sol_iff]
 refine ⟨fun l => ev l 0, fun i hi => ?_⟩
 rw [hw i hi, dot_sm]
 have h2 := sm_lin f 0 (fun k => em i k * ev k 0) (fun k => em i k * ev k 0) q
 have h3 : sm (fun l => ev l 0 * (f * em i l)) q = sm (fun k => f * (em i k * ev k 0) + 0 * (em i k * ev k 0)) q := sm_congr q fun l _ => by
  rw [Int.mul_left_comm, Int.mul_comm (ev l 0)]; omega
 rw [h3, h2]; omega
theorem sol_off (r q : Nat) (em ew : Nat → Nat → Int) (f : Int) (hf : 2 ≤ f) (z : Int) {i : Nat} (hi : i < r) (hw : ew i 0 = f * z + 1) : ¬ SolS r q (nums r q (fun i j => f * em i j)) (nums r 1 ew) := by
 rw [sol_iff]
 rintro ⟨x, hx⟩
 have h1 := hx i hi
 have h2 : f ∣ sm (fun l => x l * (f * em i l)) q := R.sm_dvd q fun l _ => ⟨x l * em i l, by rw [Int.mul_left_comm]⟩
 rw [← h1, hw] at h2
 have h3 : f ∣ 1 := (Int.dvd_add_right (Int.dvd_mul_right f z)).1 h2
 have := Int.le_of_dvd (by omega) h3
 omega
theorem sol_prod {r q nk : Nat} {zs ys us ks : List Int} (h : SolveIs r q zs ys us nk ks) (hs : SolS r q zs ys) (hl : ys.length = r * 1) : prodL r q 1 zs us = ys := by
 refine list_ent (prodL_len _ _ _ _ _) hl fun i j hi hj => ?_
 have h1 := h.back hs i j hi hj
 have h2 : ent 1 (prodL r q 1 zs us) i j = dot (fz q zs) (fz 1 us) i j q := prodL_at hi hj
 rw [h2, h1]
 rfl
theorem detF_low : ∀ (n : Nat) (f g : Nat → Nat → Int), (∀ i j, i < n → j < n → f i j = g i j) → detF n f = detF n g := by
 intro n
 induction n with
 | zero => intro f g _; rfl
 | succ n ih =>
   intro f g h
   rw [detF, detF]
   refine R.sumF_congr (fun k hk => ?_)
   rw [h 0 k (by omega) hk, ih _ (fun i j => g (i + 1) (skip k j)) (fun i j hi hj => h (i + 1) (skip k j) (by omega) (by unfold skip; split <;> omega))]
theorem det_ranged (n : Nat) (f : Nat → Nat → Int) : detF n (fun i j => f ((List.range n).getD i 0) ((List.range n).getD j 0)) = detF n f :=
 detF_low n _ _ (fun i j hi hj => by simp [List.getD, hi, hj])
theorem div_det (n : Nat) (f : Nat → Nat → Int) : R.divF f n n n = (detF n f).natAbs := by
 unfold R.divF
 rw [R.chosenL_self]
 have h1 : R.minorF f (List.range n) (List.range n) = detF n f := by
  rw [R.minor_det f (List.range n) (List.range n) rfl, List.length_range]
  exact det_ranged n f
 simp [R.gA, R.gR, h1]
open Go.RowKit
theorem KL.fr3 {B : Nat} {w w' : World} {d b : Nat} {l : List KMx} (h : KL B w d b l) (hF : Fr b w w') : Below B w w' := hF.below h.hb h.lo
theorem KL.kb3 {B B' : Nat} {w w' : World} {d b : Nat} {l : List KMx} (h : KL B w d b l) (hF : Fr b w w') : KB B' w w' := KB.of_grown hF.1 h.held.ty (by decide) (by decide)
theorem ty_apart {w : World} {a b : Nat} {s t : TypeId} (h : Ty w a s) (k : Ty w b t) (hst : s ≠ t) : a ≠ b := by
 rintro rfl
 obtain ⟨c, fr, h1⟩ := h
 obtain ⟨c', fr', h2⟩ := k
 rw [h1] at h2
 simp only [Option.some.injEq, Obj.cells.injEq] at h2
 exact hst h2.2.1
theorem KL.stored {B : Nat} {w : World} {d b p j : Nat} {l : List KMx} (h : KL B w d b l) (hp : Ty w p 3) (hB : B ≤ p) (u : Value) : KL B (w.setCell ⟨p, j, none⟩ u) d b l := by
 have hdk : Ty w d 42 := ⟨_, _, h.dk⟩
 have hF : Fr p w (w.setCell ⟨p, j, none⟩ u) := ⟨grown_set _ _ _ _, (KT.refl w).setCell hp (by decide) (by decide) u⟩
 exact ⟨h.dk.grown hF.1 (ty_apart hp hdk (by decide)), h.held.fr hF (ty_apart h.held.ty hp (by decide)), fun w'' hw => h.tab w'' ((Below.ofG hF.1 hB h.lo).trans hw), h.hb, h.hd⟩
theorem KL.weak {B B' : Nat} {w : World} {d b : Nat} {l : List KMx} (h : KL B w d b l) (hB : B' ≤ B) (ht : ∀ w', Below B' w w' → Tab w') : KL B' w d b l := ⟨h.dk, h.held, ht, Nat.le_trans hB h.hb, Nat.le_trans hB h.hd⟩
theorem KL.drew {B : Nat} {w : World} {d b : Nat} {l : List KMx} (h : KL B w d b l) : KL B w.drew d b l := KL.below h (Below.refl _ _).drew
theorem Mat.drew {B : Nat} {w : World} {v : Value} {n c : Nat} {gs : Nat → Nat} {e : Nat → Nat → Int} (h : Mat B w v n c gs e) : Mat B w.drew v n c gs e := ⟨h.1, h.2⟩
def scF (f : Int) (e : Nat → Nat → Int) (i j : Nat) : Nat → Nat → Int := fun a t => if a < i ∨ (a = i ∧ t < j) then f * e a t else e a t
theorem scF_next (f : Int) (e : Nat → Nat → Int) (i j : Nat) : ∀ a t, upE (scF f e i j) i j (f * e i j) a t = scF f e i (j + 1) a t := by
 intro a t
 unfold upE scF upd
 by_cases h : a = i
 ·subst h
  by_cases h2 : t = j
  ·subst h2; simp
  ·by_cases h3 : t < j
   ·simp [h2, h3, show t < j + 1 from by omega]
   ·simp [h2, h3, show ¬ t < j + 1 from by omega]
 ·simp [h]
theorem scF_here (f : Int) (e : Nat → Nat → Int) (i j : Nat) : scF f e i j i j = e i j := by simp [scF]
theorem scF_row (f : Int) (e : Nat → Nat → Int) (i c : Nat) : ∀ a t, t < c → scF f e i c a t = scF f e (i + 1) 0 a t := by
 intro a t ht
 unfold scF
 by_cases h : a < i
 ·simp [h, show a < i + 1 from by omega]
 ·by_cases h2 : a = i
  ·subst h2; simp [ht]
  ·simp [h, h2, show ¬ a < i + 1 from by omega]
theorem scF_zero (f : Int) (e : Nat → Nat → Int) : ∀ a t, scF f e 0 0 a t = e a t := by intro a t; simp [scF]
theorem scF_all (f : Int) (e : Nat → Nat → Int) {r a : Nat} (ha : a < r) (t : Nat) : scF f e r 0 a t = f * e a t := by simp [scF, ha]
theorem det_small (n : Nat) (e : Nat → Nat → Int) (hn : n ≤ 3) (ht : TinyR n n e) : (detF n e).natAbs ≤ 279936 := by
 have h1 : R.mv ((List.range n).map e) (List.range n) = detF n e := by
  rw [← R.mv_minor, R.minor_det e (List.range n) (List.range n) rfl, List.length_range]
  exact det_ranged n e
 have h2 := R.mv_bound 36 ((List.range n).map e) (List.range n) (by simp) (fun v hv x hx => by
  obtain ⟨i, hi, rfl⟩ := List.mem_map.1 hv
  have := ht i x (List.mem_range.1 hi) (List.mem_range.1 hx)
  omega)
 rw [h1] at h2
 refine Nat.le_trans h2 ?_
 rw [List.length_map, List.length_range]
 obtain rfl | rfl | rfl | rfl : n = 0 ∨ n = 1 ∨ n = 2 ∨ n = 3 := by omega
 all_goals decide
theorem sq_rank {n k : Nat} {f : Nat → Nat → Int} (hn : n ≤ 4) (h : R.RankIs f n n k) : (k = n ↔ detF n f ≠ 0) := by
 have h1 := div_det n f
 constructor
 ·rintro rfl
  have := h.pos
  omega
 ·intro h0
  exact rank_uniq h (R.rank_of_div hn (Nat.le_refl _) (by omega))
end Go.Proofs.YtfjbijpagaipnabDoor
