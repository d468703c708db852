import Derived.Test.YtfjbijpagaipnabGreatDoorK18
import Derived.Deep.RegionLawGrows
import Derived.Test.YtfjbijpagaipnabGreatDoorK15
import Derived.Deep.LoopGhost
import Derived.BigRegion
import Derived.Deep.RegionHeld3
import Derived.Deep.CutRange
import Derived.Test.YtfjbijpagaipnabGreatDoorK07
import Derived.Test.YtfjbijpagaipnabGreatDoorK14
import Derived.Test.YtfjbijpagaipnabGreatDoorK16
namespace Go.Proofs.YtfjbijpagaipnabGreatDoor
open Go.RowKit
def ShowOut (ms : List Hm) (h : Int) (t : List UInt8) (e : Int) : Prop := (e = 0 ∧ ∃ k x, k < 24 ∧ ms.getD k none = some x ∧ (x.1 : Int) = h ∧ t = matT x.2.1 x.2.2.1 x.2.2.2) ∨ (e = 2 ∧ t = [] ∧ ∀ k, k < 24 → ∀ x, ms.getD k none = some x → (x.1 : Int) ≠ h)
theorem none_of {w : World} {sl : List Slt} {ms : List Hm} {h : Int} (hsl : ∀ i, i < 24 → SlotM w (sl.getD i none) (ms.getD i none)) (hno : ∀ k, k < 24 → ∀ x, sl.getD k none = some x → (x.1 : Int) ≠ h) : ∀ k, k < 24 → ∀ x, ms.getD k none = some x → (x.1 : Int) ≠ h := by
 intro k hk x hx
 have h1 := hsl k hk
 rw [hx] at h1
 cases hs : sl.getD k none with
 | none => rw [hs] at h1; exact h1.elim
 | some y =>
   rw [hs] at h1
   have := hno k hk y hs
   rw [h1.1] at this
   exact this
theorem some_of {w : World} {sl : List Slt} {ms : List Hm} {k : Nat} {x : Nat × Nat × Nat × Value} (hsl : ∀ i, i < 24 → SlotM w (sl.getD i none) (ms.getD i none)) (hk : k < 24) (hx : sl.getD k none = some x) : ∃ y, ms.getD k none = some y ∧ x.1 = y.1 ∧ x.2.1 = y.2.1 ∧ x.2.2.1 = y.2.2.1 ∧ IsM w (.agg #[.int .i64 (x.2.1 : Nat), .int .i64 (x.2.2.1 : Nat), x.2.2.2]) y.2.1 y.2.2.1 y.2.2.2 200000000 := by
 have h1 := hsl k hk
 rw [hx] at h1
 cases hs : ms.getD k none with
 | none => rw [hs] at h1; exact h1.elim
 | some y => rw [hs] at h1; exact ⟨y, rfl, h1⟩
set_option maxRecDepth 100000 in
set_option maxHeartbeats 1000000 in
theorem show_any (b : Nat) (h : Int) (ms : List Hm) (nx : Nat) (w : World) (hst : Held w b ms nx) (htab : Tab w) :
 Calls Tryz.prog 43 #[.pointer (some ⟨b, 0, none⟩), .int .i64 h] w fun e w' => ∃ t e', e = .returned (.tuple #[.string ⟨t.toArray⟩, .int .i64 e']) ∧ ShowOut ms h t e' ∧ Below w.heap.size w w' := by
 obtain ⟨hm24, -, sl, hsg, hsl⟩ := hst
 have HS := Hid.mk (And.intro hsg (And.intro hsl (And.intro hm24 htab)))
 have HSH : Hid (∀ k x, sl.getD k none = some x → ∃ ao n cap, x.2.2.2 = .slice ao n cap) := Hid.mk (fun k x hx => by
  have hk := getD_past24 hsg.1 hx
  have h1 := hsl k hk
  rw [hx] at h1
  exact h1.shape)
 clear hsg hsl hm24 htab
 go_enter Tryz.func43, Tryz.ntmps43
 go_wp2_with fail
 refine (find_any b h sl nx _ HS.out.1 HSH.out).mono ?_
 rintro e w1 ⟨⟨v, ok, rfl, hf⟩, hb1⟩
 rcases hf with ⟨rfl, k, hk, x, hx, hxh, rfl⟩ | ⟨rfl, rfl, hno⟩
 ·obtain ⟨y, hy, e1, e2, e3, hM⟩ := some_of HS.out.2.1 hk hx
  obtain ⟨ao, n, cap, hv⟩ := HSH.out k x hx
  obtain ⟨hd, r, c, v⟩ := x
  obtain ⟨hd', r', c', zs⟩ := y
  simp only at e1 e2 e3 hM hv hxh
  subst e1; subst e2; subst e3; subst hv
  have K := Hid.mk (And.intro hM (And.intro hb1 (And.intro hy hxh)))
  clear hM hb1 hy hxh hx
  go_wp2_with fail
  have hB : Below w.heap.size w (w1.alloc (.cells #[.int .i64 r, .int .i64 c, .slice ao n cap] 66)) := K.out.2.1.alloc K.out.2.1.size _
  refine (write_any _ r c zs 200000000 _ (K.out.1.below hB) (by omega) (HS.out.2.2.2.below hB)).mono ?_
  rintro e w2 ⟨rfl, hb2⟩
  have K2 := Hid.mk (hB.trans (hb2.mono hB.size))
  clear hb2 hB
  obtain ⟨T, hT⟩ : ∃ T, T = matT r c zs := ⟨_, rfl⟩
  have HT := Hid.mk hT
  rw [← hT]
  clear hT
  go_wp2_with fail
  go_ret2
  exact ⟨_, _, rfl, .inl ⟨rfl, k, (hd, r, c, zs), hk, K.out.2.2.1, K.out.2.2.2, HT.out⟩, K2.out⟩
 ·have K := Hid.mk (And.intro hb1 hno)
  clear hb1 hno
  go_wp2_with fail
  go_ret2
  exact ⟨[], _, rfl, .inr ⟨rfl, rfl, none_of HS.out.2.1 K.out.2⟩, K.out.1.alloc K.out.1.size _⟩
set_option maxRecDepth 100000 in
theorem zero_facts : Tryz.zeroCells103.size = 121 ∧ Tryz.zeroCells103[120]? = some (.int .i64 0) ∧ ∀ i, i < 24 → Tryz.zeroCells103[i * 5]? = some (.bool false) := by
 refine ⟨rfl, rfl, fun i hi => ?_⟩
 obtain rfl | rfl | rfl | rfl | rfl | rfl | rfl | rfl | rfl | rfl | rfl | rfl | rfl | rfl | rfl | rfl | rfl | rfl | rfl | rfl | rfl | rfl | rfl | rfl : i = 0 ∨ i = 1 ∨ i = 2 ∨ i = 3 ∨ i = 4 ∨ i = 5 ∨ i = 6 ∨ i = 7 ∨ i = 8 ∨ i = 9 ∨ i = 10 ∨ i = 11 ∨ i = 12 ∨ i = 13 ∨ i = 14 ∨ i = 15 ∨ i = 16 ∨ i = 17 ∨ i = 18 ∨ i = 19 ∨ i = 20 ∨ i = 21 ∨ i = 22 ∨ i = 23 := by omega
 all_goals rfl
theorem rep_none {α : Type} (n i : Nat) : (List.replicate n (none : Option α)).getD i none = none := by
 rw [List.getD, List.getElem?_replicate]
 by_cases h : i < n
 ·rw [if_pos h]; rfl
 ·rw [if_neg h]; rfl
set_option maxRecDepth 100000 in
set_option maxHeartbeats 1000000 in
theorem new_held (w : World) :
 Calls Tryz.prog 30 #[] w fun e w' => e = .returned (.pointer (some ⟨w.heap.size, 0, none⟩)) ∧ Held w' w.heap.size (List.replicate 24 none) 0 ∧ Below w.heap.size w w' := by
 go_enter Tryz.func30, Tryz.ntmps30
 go_wp2_with fail
 go_ret
 refine ⟨rfl, ⟨by simp, by omega, List.replicate 24 none, ⟨by simp, Tryz.zeroCells103, heap_alloc_new w _, zero_facts.1, zero_facts.2.1, fun i hi => ?_⟩, fun i hi => ?_⟩, (Below.refl _ _).alloc (Nat.le_refl _) _⟩
 ·rw [rep_none]
  exact zero_facts.2.2 i hi
 ·rw [rep_none, rep_none]
  trivial
open Go.RowKit
open Go.RowKit
end Go.Proofs.YtfjbijpagaipnabGreatDoor
namespace Go.Proofs.YtfjbijpagaipnabGreatDoor.R
open Go.RowKit
def chosenL : Nat → Nat → List (List Nat)
 | 0, _ => [[]]
 | k + 1, n => ((List.range n).drop k).flatMap fun last => (chosenL k last).map (· ++ [last])
theorem chosenL_mem (k : Nat) : ∀ n, ∀ l ∈ chosenL k n, l.length = k ∧ ∀ x ∈ l, x < n := by
 induction k with
 | zero => intro n l hl; simp [chosenL] at hl; subst hl; simp
 | succ k ih =>
   intro n l hl
   rw [chosenL, List.mem_flatMap] at hl
   obtain ⟨last, hlast, hl⟩ := hl
   obtain ⟨l', hl', rfl⟩ := List.mem_map.1 hl
   have h1 := List.mem_range.1 (List.mem_of_mem_drop hlast)
   obtain ⟨h2, h3⟩ := ih last l' hl'
   refine ⟨by simp [h2], fun x hx => ?_⟩
   rcases List.mem_append.1 hx with hx | hx
   ·have := h3 x hx; omega
   ·simp at hx; omega
open Go.RowKit
open Go.RowKit
open Go.RowKit
open Go.RowKit
def gR (f : Nat → Nat → Int) (rs : List Nat) (css : List (List Nat)) (a : Nat) : Nat := css.foldl (fun a cs => Nat.gcd a (minorF f rs cs).natAbs) a
def gA (f : Nat → Nat → Int) (rss css : List (List Nat)) (a : Nat) : Nat := rss.foldl (fun a rs => gR f rs css a) a
theorem gR_zero (f : Nat → Nat → Int) (rs : List Nat) : ∀ (css : List (List Nat)) (a : Nat), gR f rs css a = 0 ↔ a = 0 ∧ ∀ cs ∈ css, minorF f rs cs = 0 := by
 intro css
 induction css with
 | nil => intro a; simp [gR]
 | cons c t ih =>
   intro a
   have : gR f rs (c :: t) a = gR f rs t (Nat.gcd a (minorF f rs c).natAbs) := rfl
   rw [this, ih, Nat.gcd_eq_zero_iff]
   simp only [List.mem_cons, forall_eq_or_imp, Int.natAbs_eq_zero]
   constructor
   ·rintro ⟨⟨h1, h2⟩, h3⟩; exact ⟨h1, h2, h3⟩
   ·rintro ⟨h1, h2, h3⟩; exact ⟨⟨h1, h2⟩, h3⟩
theorem gA_zero (f : Nat → Nat → Int) (css : List (List Nat)) : ∀ (rss : List (List Nat)) (a : Nat), gA f rss css a = 0 ↔ a = 0 ∧ ∀ rs ∈ rss, ∀ cs ∈ css, minorF f rs cs = 0 := by
 intro rss
 induction rss with
 | nil => intro a; simp [gA]
 | cons r t ih =>
   intro a
   have : gA f (r :: t) css a = gA f t css (gR f r css a) := rfl
   rw [this, ih, gR_zero]
   simp only [List.mem_cons, forall_eq_or_imp]
   constructor
   ·rintro ⟨⟨h1, h2⟩, h3⟩; exact ⟨h1, h2, h3⟩
   ·rintro ⟨h1, h2, h3⟩; exact ⟨⟨h1, h2⟩, h3⟩
def divF (f : Nat → Nat → Int) (r c k : Nat) : Nat := gA f (chosenL k r) (chosenL k c) 0
open Go.RowKit
def RankIs (f : Nat → Nat → Int) (r c k : Nat) : Prop := k ≤ r ∧ k ≤ c ∧ (∀ i, i < k → divF f r c (i + 1) ≠ 0) ∧ (k = r ∨ k = c ∨ divF f r c (k + 1) = 0)
def mv : List (Nat → Int) → List Nat → Int
 | [], _ => 1
 | v :: vs, cols => sumF cols.length fun k => signed k (v (cols.getD k 0) * mv vs (cols.eraseIdx k))
theorem mv_minor (f : Nat → Nat → Int) : ∀ (R C : List Nat), minorF f R C = mv (R.map f) C := by
 intro R
 induction R with
 | nil => intro C; rfl
 | cons r rs ih => intro C; rw [minorF, List.map_cons, mv]; exact sumF_congr (fun k _ => by rw [ih])
theorem sumF_lin (n : Nat) (a b : Int) (g h : Nat → Int) : sumF n (fun k => a * g k + b * h k) = a * sumF n g + b * sumF n h := by
 induction n with
 | zero => simp [sumF]
 | succ n ih => rw [sumF, sumF, sumF, ih]; grind
theorem signed_lin (k : Nat) (a b x y : Int) : signed k (a * x + b * y) = a * signed k x + b * signed k y := by
 unfold signed; split <;> grind
theorem mv_lin (a b : Int) (u v : Nat → Int) (ys : List (Nat → Int)) : ∀ (xs : List (Nat → Int)) (C : List Nat), mv (xs ++ (fun j => a * u j + b * v j) :: ys) C = a * mv (xs ++ u :: ys) C + b * mv (xs ++ v :: ys) C := by
 intro xs
 induction xs with
 | nil =>
   intro C
   rw [List.nil_append, List.nil_append, List.nil_append, mv, mv, mv, ← sumF_lin]
   refine sumF_congr (fun k _ => ?_)
   rw [← signed_lin]
   congr 1
   grind
 | cons x xs ih =>
   intro C
   rw [List.cons_append, List.cons_append, List.cons_append, mv, mv, mv, ← sumF_lin]
   refine sumF_congr (fun k _ => ?_)
   rw [ih, ← signed_lin]
   congr 1
   grind
theorem sumF_zero (n : Nat) (g : Nat → Int) (h : ∀ k, k < n → g k = 0) : sumF n g = 0 := by
 induction n with
 | zero => rfl
 | succ n ih => rw [sumF, ih (fun k hk => h k (by omega)), h n (by omega)]; rfl
theorem mv_zero_row (u : Nat → Int) (ys : List (Nat → Int)) : ∀ (xs : List (Nat → Int)) (C : List Nat), (∀ x ∈ C, u x = 0) → xs.length < C.length → mv (xs ++ u :: ys) C = 0 := by
 intro xs
 induction xs with
 | nil =>
   intro C hC _
   rw [List.nil_append, mv]
   refine sumF_zero _ _ (fun k hk => ?_)
   rw [hC (C.getD k 0) (by rw [List.getD, List.getElem?_eq_getElem hk]; exact List.getElem_mem _)]
   unfold signed; split <;> simp
 | cons x xs ih =>
   intro C hC hl
   rw [List.cons_append, mv]
   refine sumF_zero _ _ (fun k hk => ?_)
   rw [ih (C.eraseIdx k) (fun y hy => hC y (List.mem_of_mem_eraseIdx hy)) (by rw [List.length_eraseIdx, if_pos hk]; simp at hl; omega)]
   unfold signed; split <;> simp
theorem mv_zero_col (c0 : Nat) : ∀ (vs : List (Nat → Int)) (C : List Nat), (∀ v ∈ vs, v c0 = 0) → c0 ∈ C → C.length = vs.length → mv vs C = 0 := by
 intro vs
 induction vs with
 | nil => intro C _ hc hl; have : C = [] := List.eq_nil_of_length_eq_zero hl; subst this; cases hc
 | cons v vs ih =>
   intro C hv hc hl
   rw [mv]
   refine sumF_zero _ _ (fun k hk => ?_)
   by_cases hck : C.getD k 0 = c0
   ·rw [hck, hv v (by simp)]
    unfold signed; split <;> simp
   ·rw [ih (C.eraseIdx k) (fun w hw => hv w (List.mem_cons_of_mem _ hw)) ?_ (by rw [List.length_eraseIdx, if_pos hk]; simp at hl; omega)]
    ·unfold signed; split <;> simp
    ·rw [List.mem_eraseIdx_iff_getElem?]
     obtain ⟨i, hi, he⟩ := List.mem_iff_getElem.1 hc
     refine ⟨i, fun e => hck ?_, by rw [List.getElem?_eq_getElem hi, he]⟩
     subst e
     rw [List.getD, List.getElem?_eq_getElem hi]
     exact he
theorem mv_swap0 (u v : Nat → Int) : ∀ (ys : List (Nat → Int)) (C : List Nat), ys.length ≤ 2 → C.length = ys.length + 2 → mv (u :: v :: ys) C = -mv (v :: u :: ys) C := by
 intro ys C hl hC
 match ys, hl with
 | [], _ =>
   match C, hC with
   | [a, b], _ => simp [mv, sumF, signed]; grind
 | [y], _ =>
   match C, hC with
   | [a, b, c], _ => simp [mv, sumF, signed]; grind
 | [y, z], _ =>
   match C, hC with
   | [a, b, c, d], _ => simp [mv, sumF, signed]; grind
theorem sumF_neg (n : Nat) (g : Nat → Int) : sumF n (fun k => -g k) = -sumF n g := by
 induction n with
 | zero => rfl
 | succ n ih => rw [sumF, sumF, ih]; grind
theorem mv_swap (u v : Nat → Int) (ys : List (Nat → Int)) : ∀ (xs : List (Nat → Int)) (C : List Nat), C.length = xs.length + ys.length + 2 → ys.length ≤ 2 → mv (xs ++ u :: v :: ys) C = -mv (xs ++ v :: u :: ys) C := by
 intro xs
 induction xs with
 | nil => intro C hC hl; exact mv_swap0 u v ys C hl (by simpa using hC)
 | cons x xs ih =>
   intro C hC hl
   rw [List.cons_append, List.cons_append, mv, mv, ← sumF_neg]
   refine sumF_congr (fun k hk => ?_)
   rw [ih (C.eraseIdx k) (by rw [List.length_eraseIdx, if_pos hk]; simp at hC; omega) hl]
   unfold signed; split <;> grind
theorem mv_move (d : Int) (u : Nat → Int) (zs : List (Nat → Int)) : ∀ (ys xs : List (Nat → Int)) (C : List Nat), C.length = xs.length + ys.length + zs.length + 1 → C.length ≤ 4 → (d ∣ mv (xs ++ u :: ys ++ zs) C ↔ d ∣ mv (xs ++ ys ++ u :: zs) C) := by
 intro ys
 induction ys with
 | nil => intro xs C _ _; simp
 | cons y ys ih =>
   intro xs C hC h4
   have h1 : mv (xs ++ u :: (y :: ys) ++ zs) C = -mv ((xs ++ [y]) ++ u :: ys ++ zs) C := by
    have := mv_swap u y (ys ++ zs) xs C (by simp at hC ⊢; omega) (by simp at hC ⊢; omega)
    simpa using this
   have h2 := ih (xs ++ [y]) C (by simp at hC ⊢; omega) h4
   rw [h1, Int.dvd_neg, h2]
   simp
theorem mv_same (u : Nat → Int) (xs ys zs : List (Nat → Int)) (C : List Nat) (hC : C.length = xs.length + ys.length + zs.length + 2) (h4 : C.length ≤ 4) : mv (xs ++ u :: ys ++ u :: zs) C = 0 := by
 have h1 := mv_move 0 u (u :: zs) ys xs C (by simp; omega) h4
 rw [Int.zero_dvd, Int.zero_dvd] at h1
 rw [h1]
 have h2 := mv_swap u u zs (xs ++ ys) C (by simp; omega) (by omega)
 omega
theorem chosenL_le {k n : Nat} {Q : List Nat} (h : Q ∈ chosenL k n) : k ≤ n := by
 cases k with
 | zero => omega
 | succ k =>
   rw [chosenL, List.mem_flatMap] at h
   obtain ⟨last, hl, -⟩ := h
   obtain ⟨i, hi, he⟩ := List.mem_iff_getElem.1 hl
   rw [List.length_drop, List.length_range] at hi
   omega
theorem mem_drop_range {k n x : Nat} : x ∈ (List.range n).drop k ↔ k ≤ x ∧ x < n := by
 constructor
 ·intro h
  obtain ⟨i, hi, he⟩ := List.mem_iff_getElem.1 h
  rw [List.getElem_drop, List.getElem_range] at he
  rw [List.length_drop, List.length_range] at hi
  omega
 ·rintro ⟨h1, h2⟩
  refine List.mem_iff_getElem.2 ⟨x - k, by rw [List.length_drop, List.length_range]; omega, ?_⟩
  rw [List.getElem_drop, List.getElem_range]
  omega
theorem chosenL_snoc {k n last : Nat} {Q : List Nat} (h : Q ∈ chosenL k last) (hl : last < n) : Q ++ [last] ∈ chosenL (k + 1) n := by
 rw [chosenL, List.mem_flatMap]
 exact ⟨last, mem_drop_range.2 ⟨chosenL_le h, hl⟩, List.mem_map.2 ⟨Q, h, rfl⟩⟩
theorem chosenL_last {k n : Nat} {R : List Nat} (h : R ∈ chosenL (k + 1) n) : ∃ Q last, R = Q ++ [last] ∧ Q ∈ chosenL k last ∧ k ≤ last ∧ last < n := by
 rw [chosenL, List.mem_flatMap] at h
 obtain ⟨last, hl, h⟩ := h
 obtain ⟨Q, hQ, rfl⟩ := List.mem_map.1 h
 have := mem_drop_range.1 hl
 exact ⟨Q, last, rfl, hQ, this.1, this.2⟩
theorem max_split : ∀ (R : List Nat), R ≠ [] → ∃ xs m ys, R = xs ++ m :: ys ∧ ∀ x ∈ R, x ≤ m := by
 intro R
 induction R with
 | nil => intro h; exact absurd rfl h
 | cons a R ih =>
   intro _
   by_cases hR : R = []
   ·subst hR
    exact ⟨[], a, [], rfl, fun x hx => by simp at hx; omega⟩
   ·obtain ⟨xs, m, ys, rfl, hm⟩ := ih hR
    by_cases ham : a ≤ m
    ·exact ⟨a :: xs, m, ys, rfl, fun x hx => by
      rcases List.mem_cons.1 hx with h | h
      ·omega
      ·exact hm x h⟩
    ·exact ⟨[], a, xs ++ m :: ys, rfl, fun x hx => by
      rcases List.mem_cons.1 hx with h | h
      ·omega
      ·have := hm x h; omega⟩
theorem rise_all (d : Int) (f : Nat → Nat → Int) (C : List Nat) (h4 : C.length ≤ 4) : ∀ (m n : Nat) (S : List Nat), C.length = m + S.length → (∀ R ∈ chosenL m n, d ∣ mv ((R ++ S).map f) C) → ∀ R : List Nat, R.length = m → (∀ x ∈ R, x < n) → d ∣ mv ((R ++ S).map f) C := by
 intro m
 induction m with
 | zero =>
   intro n S hC h R hR _
   have : R = [] := List.eq_nil_of_length_eq_zero hR
   subst this
   exact h [] (by simp [chosenL])
 | succ m ih =>
   intro n S hC h R hR hRn
   obtain ⟨xs, last, ys, rfl, hmax⟩ := max_split R (by intro e; rw [e] at hR; simp at hR)
   have hlen : xs.length + ys.length = m := by simp at hR; omega
   have hln : last < n := hRn last (by simp)
   have hmove := mv_move d (f last) (S.map f) (ys.map f) (xs.map f) C (by simp; omega) h4
   have e1 : (xs ++ last :: ys ++ S).map f = xs.map f ++ f last :: ys.map f ++ S.map f := by simp
   have e2 : (xs ++ ys ++ last :: S).map f = xs.map f ++ ys.map f ++ f last :: S.map f := by simp
   rw [e1, hmove, ← e2]
   by_cases hdup : last ∈ xs ++ ys
   ·obtain ⟨ps, qs, hab⟩ := List.append_of_mem hdup
    rw [hab, show ps ++ last :: qs ++ last :: S = ps ++ last :: (qs ++ last :: S) from by simp]
    have := mv_same (f last) (ps.map f) (qs.map f) (S.map f) C (by
     have h2 : (xs ++ ys).length = ps.length + qs.length + 1 := by rw [hab]; simp; omega
     simp at h2 ⊢
     omega) h4
    have h0 : mv (List.map f (ps ++ last :: (qs ++ last :: S))) C = 0 := by simpa using this
    rw [h0]
    exact Int.dvd_zero d
   ·refine ih last (last :: S) (by simp; omega) (fun Q hQ => ?_) (xs ++ ys) (by simp; omega) (fun x hx => ?_)
    ·have := h (Q ++ [last]) (chosenL_snoc hQ hln)
     simpa using this
    ·have h1 := hmax x (by
      rcases List.mem_append.1 hx with h | h
      ·exact List.mem_append.2 (.inl h)
      ·exact List.mem_append.2 (.inr (List.mem_cons_of_mem _ h)))
     rcases Nat.lt_or_ge x last with h2 | h2
     ·exact h2
     ·have : x = last := by omega
      subst this
      exact absurd hx hdup
def AllD (d : Int) (f : Nat → Nat → Int) (r : Nat) (C : List Nat) : Prop := ∀ R : List Nat, R.length = C.length → (∀ x ∈ R, x < r) → d ∣ mv (R.map f) C
theorem gR_dvd (d : Nat) (f : Nat → Nat → Int) (rs : List Nat) : ∀ (css : List (List Nat)) (a : Nat), d ∣ gR f rs css a ↔ d ∣ a ∧ ∀ cs ∈ css, (d : Int) ∣ minorF f rs cs := by
 intro css
 induction css with
 | nil => intro a; simp [gR]
 | cons c t ih =>
   intro a
   have : gR f rs (c :: t) a = gR f rs t (Nat.gcd a (minorF f rs c).natAbs) := rfl
   rw [this, ih, Nat.dvd_gcd_iff]
   simp only [List.mem_cons, forall_eq_or_imp, Int.ofNat_dvd_left, and_assoc]
theorem gA_dvd (d : Nat) (f : Nat → Nat → Int) (css : List (List Nat)) : ∀ (rss : List (List Nat)) (a : Nat), d ∣ gA f rss css a ↔ d ∣ a ∧ ∀ rs ∈ rss, ∀ cs ∈ css, (d : Int) ∣ minorF f rs cs := by
 intro rss
 induction rss with
 | nil => intro a; simp [gA]
 | cons r t ih =>
   intro a
   have : gA f (r :: t) css a = gA f t css (gR f r css a) := rfl
   rw [this, ih, gR_dvd]
   simp only [List.mem_cons, forall_eq_or_imp, and_assoc]
theorem div_dvd (d : Nat) (f : Nat → Nat → Int) (r c m : Nat) (hm : m ≤ 4) : d ∣ divF f r c m ↔ ∀ C ∈ chosenL m c, AllD d f r C := by
 unfold divF
 rw [gA_dvd]
 constructor
 ·rintro ⟨-, h⟩ C hC R hR hRr
  have hl := (chosenL_mem m c C hC).1
  have := rise_all d f C (by omega) m r [] (by simp [hl]) (fun R' hR' => by
   have := h R' hR' C hC
   rw [mv_minor] at this
   simpa using this) R (by omega) hRr
  simpa using this
 ·intro h
  refine ⟨Nat.dvd_zero d, fun R hR C hC => ?_⟩
  rw [mv_minor]
  have h1 := chosenL_mem m r R hR
  exact h C hC R (by rw [h1.1, (chosenL_mem m c C hC).1]) h1.2
def AllV (f : Nat → Nat → Int) (r c m : Nat) : Prop := ∀ R : List Nat, R.length = m → (∀ x ∈ R, x < r) → ∀ C ∈ chosenL m c, mv (R.map f) C = 0
theorem allV_iff (f : Nat → Nat → Int) (r c m : Nat) : AllV f r c m ↔ ∀ C ∈ chosenL m c, AllD 0 f r C := by
 constructor
 ·intro h C hC R hR hx
  rw [h R (by rw [hR, (chosenL_mem m c C hC).1]) hx C hC]
  exact Int.dvd_refl 0
 ·intro h R hR hx C hC
  exact Int.zero_dvd.1 (h C hC R (by rw [hR, (chosenL_mem m c C hC).1]) hx)
theorem all_div (f : Nat → Nat → Int) (r c m : Nat) (hm : m ≤ 4) : divF f r c m = 0 ↔ AllV f r c m := by
 rw [allV_iff, ← Nat.zero_dvd, div_dvd 0 f r c m hm]
 exact Iff.rfl
structure Ech (g : Nat → Nat → Int) (r c p : Nat) (pc : Nat → Nat) : Prop where
 le : p ≤ r
 col : ∀ b, b < p → pc b < c
 up : ∀ a b, a < b → b < p → pc a < pc b
 piv : ∀ b, b < p → g b (pc b) ≠ 0
 below : ∀ a b, b < p → b < a → a < r → g a (pc b) = 0
 rest : ∀ a, p ≤ a → a < r → ∀ j, j < c → g a j = 0
theorem cols_mem {pc : Nat → Nat} {p : Nat} (up : ∀ a b, a < b → b < p → pc a < pc b) : ∀ n N, n ≤ p → (∀ b, b < n → pc b < N) → (List.range n).map pc ∈ chosenL n N := by
 intro n
 induction n with
 | zero => intro N _ _; simp [chosenL]
 | succ n ih =>
   intro N hn hb
   rw [List.range_succ, List.map_append, List.map_singleton]
   exact chosenL_snoc (ih (pc n) (by omega) (fun b hb' => up b n hb' (by omega))) (hb n (by omega))
theorem sumF_one (n : Nat) (g : Nat → Int) (h : ∀ k, 0 < k → k < n + 1 → g k = 0) : sumF (n + 1) g = g 0 := by
 induction n with
 | zero => simp [sumF]
 | succ n ih => rw [sumF, ih (fun k h1 h2 => h k h1 (by omega)), h (n + 1) (by omega) (by omega)]; simp
theorem tri {g : Nat → Nat → Int} {r c p : Nat} {pc : Nat → Nat} (h : Ech g r c p pc) : ∀ n o, o + n ≤ p → mv ((List.range' o n).map g) ((List.range' o n).map pc) ≠ 0 := by
 intro n
 induction n with
 | zero => intro o _; simp [mv]
 | succ n ih =>
   intro o ho
   rw [List.range'_succ, List.map_cons, List.map_cons, mv, List.length_cons, sumF_one _ _ (fun k hk0 hk => ?_)]
   ·have e : signed 0 (g o ((pc o :: (List.range' (o + 1) n).map pc).getD 0 0) * mv ((List.range' (o + 1) n).map g) ((pc o :: (List.range' (o + 1) n).map pc).eraseIdx 0)) = g o (pc o) * mv ((List.range' (o + 1) n).map g) ((List.range' (o + 1) n).map pc) := by simp [signed]
    rw [e]
    intro h0
    rcases Int.mul_eq_zero.1 h0 with h1 | h1
    ·exact h.piv o (by omega) h1
    ·exact ih (o + 1) (by omega) h1
   ·have hz : mv ((List.range' (o + 1) n).map g) ((pc o :: (List.range' (o + 1) n).map pc).eraseIdx k) = 0 := by
     refine mv_zero_col (pc o) _ _ (fun v hv => ?_) ?_ ?_
     ·obtain ⟨a, ha, rfl⟩ := List.mem_map.1 hv
      have ha' := List.mem_range'_1.1 ha
      have := h.le
      exact h.below a o (by omega) (by omega) (by omega)
     ·match k, hk0 with
      | k + 1, _ => simp
     ·rw [List.length_eraseIdx, if_pos (by simpa using hk)]
      simp
    rw [hz]
    unfold signed; split <;> simp
theorem ech_cols {g : Nat → Nat → Int} {r c p : Nat} {pc : Nat → Nat} (h : Ech g r c p pc) : p ≤ c := by
 have key : ∀ b, b < p → b ≤ pc b := by
  intro b
  induction b with
  | zero => intro _; omega
  | succ b ih => intro hb; have h1 := ih (by omega); have h2 := h.up b (b + 1) (by omega) hb; omega
 rcases Nat.eq_zero_or_pos p with h0 | h0
 ·omega
 ·have h1 := key (p - 1) (by omega)
  have h2 := h.col (p - 1) (by omega)
  omega
theorem ech_rank {f g : Nat → Nat → Int} {r c p : Nat} {pc : Nat → Nat} (h : Ech g r c p pc) (hfg : ∀ m, AllV f r c m ↔ AllV g r c m) (hr : r ≤ 4) (_hc : c ≤ 4) : RankIs f r c p := by
 refine ⟨h.le, ech_cols h, fun i hi h0 => ?_, ?_⟩
 ·have hle := h.le
  have h1 := (hfg (i + 1)).1 ((all_div f r c (i + 1) (by omega)).1 h0)
  have h2 := h1 (List.range (i + 1)) List.length_range (fun x hx => by have := List.mem_range.1 hx; omega) ((List.range (i + 1)).map pc) (cols_mem h.up (i + 1) c (by omega) (fun b hb => h.col b (by omega)))
  have h3 := tri h (i + 1) 0 (by omega)
  rw [← List.range_eq_range'] at h3
  exact h3 h2
 ·by_cases hpr : p = r
  ·exact .inl hpr
  ·by_cases hpc : p = c
   ·exact .inr (.inl hpc)
   ·refine .inr (.inr ?_)
    have hle := h.le
    rw [all_div f r c (p + 1) (by omega), hfg, ← all_div g r c (p + 1) (by omega)]
    unfold divF
    rw [gA_zero]
    refine ⟨rfl, fun R hR C hC => ?_⟩
    obtain ⟨Q, last, rfl, hQ, hlast, hlr⟩ := chosenL_last hR
    rw [mv_minor, List.map_append, List.map_singleton]
    have hCm := chosenL_mem (p + 1) c C hC
    have hQm := chosenL_mem p last Q hQ
    exact mv_zero_row (g last) [] (Q.map g) C (fun x hx => h.rest last hlast hlr x (hCm.2 x hx)) (by simp [hCm.1, hQm.1])
theorem mv_at {v v' : Nat → Int} (ys : List (Nat → Int)) : ∀ (xs : List (Nat → Int)) (C : List Nat), (∀ x ∈ C, v x = v' x) → mv (xs ++ v :: ys) C = mv (xs ++ v' :: ys) C := by
 intro xs
 induction xs with
 | nil =>
   intro C hC
   rw [List.nil_append, List.nil_append, mv, mv]
   refine sumF_congr (fun k hk => ?_)
   rw [hC (C.getD k 0) (by rw [List.getD, List.getElem?_eq_getElem hk]; exact List.getElem_mem _)]
 | cons x xs ih =>
   intro C hC
   rw [List.cons_append, List.cons_append, mv, mv]
   refine sumF_congr (fun k _ => ?_)
   rw [ih (C.eraseIdx k) (fun y hy => hC y (List.mem_of_mem_eraseIdx hy))]
theorem mv_sum (u : Nat → Int) (f : Nat → Nat → Int) (xs ys : List (Nat → Int)) (C : List Nat) : ∀ n, mv (xs ++ (fun j => sm (fun k => u k * f k j) n) :: ys) C = sm (fun k => u k * mv (xs ++ f k :: ys) C) n := by
 intro n
 induction n with
 | zero =>
   have := mv_lin 0 0 (fun _ => 0) (fun _ => 0) ys xs C
   rw [Int.zero_mul, Int.zero_mul, Int.add_zero] at this
   rw [sm]
   rw [← this]
   exact mv_at ys xs C (fun x _ => by simp [sm])
 | succ n ih =>
   have h := mv_lin 1 (u n) (fun j => sm (fun k => u k * f k j) n) (f n) ys xs C
   rw [ih] at h
   rw [sm, show sm (fun k => u k * mv (xs ++ f k :: ys) C) n + u n * mv (xs ++ f n :: ys) C = 1 * sm (fun k => u k * mv (xs ++ f k :: ys) C) n + u n * mv (xs ++ f n :: ys) C from by omega, ← h]
   exact mv_at ys xs C (fun x _ => by rw [sm]; omega)
theorem sm_dvd {d : Int} {f : Nat → Int} (n : Nat) (h : ∀ k, k < n → d ∣ f k) : d ∣ sm f n := by
 induction n with
 | zero => exact Int.dvd_zero d
 | succ n ih => rw [sm]; exact Int.dvd_add (ih (fun k hk => h k (by omega))) (h n (by omega))
def CombOf (f : Nat → Nat → Int) (r : Nat) (C : List Nat) (v : Nat → Int) : Prop := ∃ u : Nat → Int, ∀ x ∈ C, v x = sm (fun k => u k * f k x) r
theorem comb_dvd {d : Int} {f : Nat → Nat → Int} {r : Nat} {C : List Nat} (h : AllD d f r C) : ∀ (vs : List (Nat → Int)), (∀ v ∈ vs, CombOf f r C v) → ∀ (xs : List Nat), xs.length + vs.length = C.length → (∀ x ∈ xs, x < r) → d ∣ mv (xs.map f ++ vs) C := by
 intro vs
 induction vs with
 | nil =>
   intro _ xs hl hx
   rw [List.append_nil]
   exact h xs (by simpa using hl) hx
 | cons v vs ih =>
   intro hv xs hl hx
   obtain ⟨u, hu⟩ := hv v (by simp)
   rw [mv_at vs (xs.map f) C hu, mv_sum u f (xs.map f) vs C r]
   refine sm_dvd r (fun k hk => Int.dvd_trans ?_ (Int.dvd_mul_left _ _))
   have := ih (fun v hv' => hv v (by simp [hv'])) (xs ++ [k]) (by simp at hl ⊢; omega) (fun x hx' => by
    rcases List.mem_append.1 hx' with h1 | h1
    ·exact hx x h1
    ·simp at h1; omega)
   simpa using this
theorem allD_comb {d : Int} {f g : Nat → Nat → Int} {r r' : Nat} {C : List Nat} (h : AllD d f r C) (hg : ∀ i, i < r' → CombOf f r C (g i)) : AllD d g r' C := by
 intro R hR hx
 have := comb_dvd h (R.map g) (fun v hv => by
  obtain ⟨i, hi, rfl⟩ := List.mem_map.1 hv
  exact hg i (hx i hi)) [] (by simpa using hR) (fun x hx => by simp at hx)
 simpa using this
theorem comb_of_dot {f g u : Nat → Nat → Int} {r c i : Nat} {C : List Nat} (hC : ∀ x ∈ C, x < c) (h : ∀ j, j < c → dot u f i j r = g i j) : CombOf f r C (g i) :=
 ⟨u i, fun x hx => by rw [← h x (hC x hx), dot_sm]⟩
theorem chosenL_lt {m c : Nat} {C : List Nat} (h : C ∈ chosenL m c) : C.length = m ∧ ∀ x ∈ C, x < c := by
 have := chosenL_mem m c C h
 exact ⟨this.1, fun x hx => by
  obtain ⟨i, hi, he⟩ := List.mem_iff_getElem.1 hx
  have h2 := this.2
  first
   | exact h2 x hx
   | (rw [← he]; exact h2 i hi)⟩
theorem allV_einv {A H U W : Nat → Nat → Int} {r c : Nat} (h : EInv A H U W r c) (m : Nat) : AllV A r c m ↔ AllV H r c m := by
 rw [allV_iff, allV_iff]
 constructor
 ·intro hA C hC
  exact allD_comb (hA C hC) (fun i hi => comb_of_dot (chosenL_lt hC).2 (fun j hj => h.ua i j hi hj))
 ·intro hH C hC
  exact allD_comb (hH C hC) (fun i hi => comb_of_dot (chosenL_lt hC).2 (fun j hj => h.wh i j hi hj))
end Go.Proofs.YtfjbijpagaipnabGreatDoor.R
namespace Go.Proofs.YtfjbijpagaipnabGreatDoor
open Go.RowKit R
def gz (c : Nat) (zs : List Int) : Nat → Nat → Int := fun i j => zs.getD (i * c + j) 0
theorem EchSt.ech {r c k : Nat} {pc : Nat → Nat} {H : Nat → Nat → Int} (h : EchSt r c k pc H) : Ech H r c k pc :=
 ⟨h.le, h.col, h.up, fun b hb => by have := h.piv b hb; omega, fun a b hb hba har => h.below b hb a hba har, h.rest⟩
theorem ech_rankIs {r c k : Nat} {pc : Nat → Nat} {A H U W : Nat → Nat → Int} (h : EchSt r c k pc H) (hE : EInv A H U W r c) (hr : r ≤ 4) (hc : c ≤ 4) : RankIs A r c k :=
 ech_rank h.ech (fun m => allV_einv hE m) hr hc
theorem IsM.slice {w : World} {s : Value} {r c L : Nat} {zs : List Int} (h : IsM w (.agg #[.int .i64 r, .int .i64 c, s]) r c zs L) : ∃ ao cap, s = .slice ao (r * c) cap := by
 obtain ⟨_, _, sl, h2, h3⟩ := h
 obtain ⟨ao, cap, rfl, -⟩ := h3.shape
 simp only [Value.agg.injEq, Array.mk.injEq, List.cons.injEq, and_true, true_and] at h2
 exact ⟨ao, cap, h2⟩
theorem field_rank (a b s1 d e s2 f g s3 : Value) (k : Int) : ∀ w : World, (Instr.field 74 (.agg #[a, b, s1, d, e, s2, f, g, s3, .int .i64 k]) 3).run Tryz.prog w = .ok (.int .i64 k) w := fun _ => by kernel_rfl
theorem FitsP.ent {r c : Nat} {zs : List Int} (h : FitsP r c zs) (i j : Nat) (hi : i < r) (hj : j < c) : (ent c zs i j).natAbs < 2 ^ 48 := h.2.2 _ (idx_lt hi hj)
theorem size48 {r c : Nat} (hr : r ≤ 4) (hc : c ≤ 4) : hB r 48 c ≤ 32 * 4000 ∧ uB r 48 c ≤ 32 * 4000 := by
 have key : ∀ r : Fin 5, ∀ c : Fin 5, hB r.val 48 c.val ≤ 32 * 4000 ∧ uB r.val 48 c.val ≤ 32 * 4000 := by decide
 exact key ⟨r, by omega⟩ ⟨c, by omega⟩
theorem gech_fit (v : Value) (r c : Nat) (zs : List Int) (L : Nat) (w : World) (hm : IsM w v r c zs L) (hr : r ≤ 4) (hc : c ≤ 4) (hz : ∀ i j, i < r → j < c → (ent c zs i j).natAbs < 2 ^ 48) (hL : L ≤ 4000) :
 Calls Tryz.prog 37 #[v] w fun e w' => EchOut w w' e r c zs 48 4000 :=
 gech_any v r c zs 48 4000 w (hm.mono hL) (by omega) (by omega) hz (by omega) (size48 hr hc).1 (size48 hr hc).2
end Go.Proofs.YtfjbijpagaipnabGreatDoor
