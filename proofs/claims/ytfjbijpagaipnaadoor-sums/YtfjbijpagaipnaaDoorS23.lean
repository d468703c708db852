import Derived.Test.YtfjbijpagaipnaaDoorS22
import Derived.Test.YtfjbijpagaipnaaDoorS20
import Derived.Test.YtfjbijpagaipnaaDoorS09
import Derived.BigRegion
import Derived.Test.YtfjbijpagaipnaaDoorS18
import Derived.Test.YtfjbijpagaipnaaDoorS12
import Derived.Deep.RegionHeld3
import Derived.Test.YtfjbijpagaipnaaDoorS13
import Derived.StillTailTactics
import Derived.Test.YtfjbijpagaipnaaDoorS15
import Derived.Test.YtfjbijpagaipnaaDoorS10
import Derived.Test.YtfjbijpagaipnaaDoorS19
import Derived.Test.YtfjbijpagaipnaaDoorS21
namespace Go.Proofs.YtfjbijpagaipnaaDoor
open Go.RowKit
theorem basis_eq {r r' c : Nat} {X Y : List Int} {k k' : Nat} {bs bs' : List Int} (a : BasisIs r c X k bs) (b : BasisIs r' c Y k' bs') (h : SpEq (ent c X) (ent c Y) r r' c) : k = k' ∧ bs = bs' := by
 obtain ⟨a1, pc, hs, us, ws, a2, a3, a4⟩ := a
 obtain ⟨b1, pc', hs', us', ws', b2, b3, b4⟩ := b
 obtain ⟨rfl, e⟩ := (same_span a2 a3 b2 b3).2 h
 exact ⟨rfl, list_ent a1 b1 fun i j hi hj => by rw [a4 i j hi hj, e i j hi hj, b4 i j hi hj]⟩
theorem basis_sp {r c k : Nat} {X bs : List Int} (a : BasisIs r c X k bs) : SpEq (ent c X) (ent c bs) r k c := by
 obtain ⟨a1, pc, hs, us, ws, a2, a3, a4⟩ := a
 obtain ⟨s1, s2⟩ := span_rows a2 a3
 have hle := a2.le
 refine ⟨fun i hi => (s1 i hi).like fun b j hb hj => (a4 b j hb hj).symm, fun i hi => (s2 i (by omega)).to fun j hj => a4 i j hi hj⟩
theorem basis_fits {r c k : Nat} {X bs : List Int} (a : BasisIs r c X k bs) (hc : c ≤ 3) (hX : ∀ i j, i < r → j < c → (ent c X i j).natAbs ≤ 36) : FitsP k c bs := by
 obtain ⟨a1, pc, hs, us, ws, a2, a3, a4⟩ := a
 have hte := a2.te
 have hle := a2.le
 refine ⟨by omega, by omega, fun t ht => ?_⟩
 have hd := rect_div ht
 have h1 := R.form_small a2 a3 hc (Nat.le_refl 36) hX (t / c) (t % c) (by omega) hd.2
 rw [← a4 _ _ hd.1 hd.2] at h1
 have h2 : ent c bs (t / c) (t % c) = bs.getD t 0 := by
  unfold ent
  rw [Nat.mul_comm, Nat.div_add_mod]
 rw [h2] at h1
 omega
theorem over_rows {r r1 c : Nat} {zs ys : List Int} (hz : zs.length = r * c) : (∀ i, i < r → Sp (ent c (zs ++ ys)) (r + r1) c (ent c zs i)) ∧ ∀ i, i < r1 → Sp (ent c (zs ++ ys)) (r + r1) c (ent c ys i) :=
 ⟨fun i hi => (Sp.row _ c (show i < r + r1 by omega)).to fun j hj => (ent_top ys hz hi hj).symm, fun i hi => (Sp.row _ c (show r + i < r + r1 by omega)).to fun j _ => (ent_low ys hz i j).symm⟩
theorem over_all {r r1 n c : Nat} {zs ys : List Int} {B : Nat → Nat → Int} (hz : zs.length = r * c) (h1 : ∀ i, i < r → Sp B n c (ent c zs i)) (h2 : ∀ i, i < r1 → Sp B n c (ent c ys i)) (i : Nat) (hi : i < r + r1) : Sp B n c (ent c (zs ++ ys) i) := by
 by_cases hir : i < r
 ·exact (h1 i hir).to fun j hj => ent_top ys hz hir hj
 ·exact (h2 (i - r) (by omega)).to fun j hj => by have := ent_low ys hz (i - r) j; rw [show r + (i - r) = i from by omega] at this; exact this
theorem sum_swap {r q c : Nat} {zs ys : List Int} (hz : zs.length = r * c) (hy : ys.length = q * c) : SpEq (ent c (zs ++ ys)) (ent c (ys ++ zs)) (r + q) (q + r) c :=
 ⟨over_all hz (over_rows hy).2 (over_rows hy).1, over_all hy (over_rows hz).2 (over_rows hz).1⟩
theorem sum_part {r q c k : Nat} {zs ys bs : List Int} (a : BasisIs (r + q) c (zs ++ ys) k bs) (hz : zs.length = r * c) : SpEq (ent c (zs ++ ys)) (ent c (bs ++ zs)) (r + q) (k + r) c := by
 have hb : bs.length = k * c := a.1
 have h := basis_sp a
 exact ⟨fun i hi => (h.1 i hi).trans (over_rows hb).1, over_all hb h.2 (over_rows hz).1⟩
theorem rank_mono {A B : Nat → Nat → Int} {r s c p l : Nat} (h : ∀ i, i < r → Sp B s c (A i)) (hc : c ≤ 4) (ha : R.RankIs A r c p) (hb : R.RankIs B s c l) : p ≤ l := by
 apply Classical.byContradiction
 intro hn
 have hpc := ha.2.1
 have h0 : R.divF B s c (l + 1) = 0 := by
  rcases hb.2.2.2 with e | e | e
  ·exact R.div_few B (by omega)
  ·omega
  ·exact e
 have h1 := (R.all_div B s c (l + 1) (by omega)).1 h0
 have h2 : R.AllV A r c (l + 1) := by
  rw [R.allV_iff] at h1 ⊢
  intro C hC
  exact R.allD_comb (h1 C hC) (fun i hi => R.Sp.comb (h i hi) (R.chosenL_lt hC).2)
 exact ha.2.2.1 l (by omega) ((R.all_div A r c (l + 1) (by omega)).2 h2)
theorem mv_expand (v : Nat → Int) (vs : List (Nat → Int)) (C : List Nat) (h : ∀ k, k < C.length → R.mv vs (C.eraseIdx k) = 0) : R.mv (v :: vs) C = 0 := by
 rw [R.mv]
 refine R.sumF_zero _ _ fun k hk => ?_
 rw [h k hk, Int.mul_zero]
 unfold signed
 split <;> rfl
theorem erase_len {C : List Nat} {k n : Nat} (hk : k < C.length) (hl : C.length = n + 1) : (C.eraseIdx k).length = n := by
 rw [List.length_eraseIdx_of_lt hk]; omega
theorem tail_zero {c : Nat} {us : List (Nat → Int)} (h : ∀ C : List Nat, C.length = us.length → (∀ x ∈ C, x < c) → R.mv us C = 0) : ∀ (vs : List (Nat → Int)) (C : List Nat), C.length = vs.length + us.length → (∀ x ∈ C, x < c) → R.mv (vs ++ us) C = 0 := by
 intro vs
 induction vs with
 | nil => intro C hl hc; exact h C (by simpa using hl) hc
 | cons v vs ih =>
   intro C hl hc
   simp only [List.length_cons] at hl
   exact mv_expand v _ C fun k hk => ih _ (erase_len hk (by omega)) (fun x hx => hc x (List.mem_of_mem_eraseIdx hx))
theorem front_zero {c : Nat} {us : List (Nat → Int)} (h : ∀ C : List Nat, C.length = us.length → (∀ x ∈ C, x < c) → R.mv us C = 0) : ∀ (vs : List (Nat → Int)) (C : List Nat), C.length = us.length + vs.length → C.length ≤ 4 → (∀ x ∈ C, x < c) → R.mv (us ++ vs) C = 0 := by
 intro vs
 induction vs with
 | nil => intro C hl _ hc; rw [List.append_nil]; exact h C (by simpa using hl) hc
 | cons v vs ih =>
   intro C hl h4 hc
   simp only [List.length_cons] at hl
   have h1 : R.mv (v :: (us ++ vs)) C = 0 := mv_expand v _ C fun k hk => ih _ (erase_len hk (by omega)) (by rw [erase_len (n := us.length + vs.length) hk (by omega)]; omega) (fun x hx => hc x (List.mem_of_mem_eraseIdx hx))
   have h2 := R.mv_move 0 v vs us [] C (by simp; omega) h4
   simp only [List.nil_append, List.cons_append] at h2
   exact Int.zero_dvd.1 (h2.1 (by rw [h1]; exact Int.dvd_refl _))
theorem split_rise : ∀ (m n r : Nat) (S : List Nat), S ∈ R.chosenL m n → ∃ S1 S2, S = S1 ++ S2 ∧ (∀ x ∈ S1, x < r) ∧ ∀ x ∈ S2, r ≤ x ∧ x < n := by
 intro m
 induction m with
 | zero =>
   intro n r S hS
   have : S = [] := List.eq_nil_of_length_eq_zero (R.chosenL_lt hS).1
   exact ⟨[], [], by simp [this], by simp, by simp⟩
 | succ m ih =>
   intro n r S hS
   obtain ⟨Q, last, rfl, hQ, h1, h2⟩ := R.chosenL_last hS
   by_cases hl : last < r
   ·exact ⟨Q ++ [last], [], by simp, fun x hx => by
     rcases List.mem_append.1 hx with h3 | h3
     ·have := (R.chosenL_lt hQ).2 x h3; omega
     ·simp at h3; omega, by simp⟩
   ·obtain ⟨S1, S2, rfl, h3, h4⟩ := ih last r Q hQ
    exact ⟨S1, S2 ++ [last], by simp, h3, fun x hx => by
     rcases List.mem_append.1 hx with h5 | h5
     ·have := h4 x h5; omega
     ·simp at h5; omega⟩
theorem rank_zero {A : Nat → Nat → Int} {r c p n : Nat} (ha : R.RankIs A r c p) (hc : c ≤ 4) (hn : p < n) (hnc : n ≤ c) : ∀ (S C : List Nat), S.length = n → (∀ x ∈ S, x < r) → C.length = n → (∀ x ∈ C, x < c) → R.mv (S.map A) C = 0 := by
 have h0 : R.divF A r c (p + 1) = 0 := by
  rcases ha.2.2.2 with e | e | e
  ·exact R.div_few A (by omega)
  ·omega
  ·exact e
 have h1 : ∀ t, p + 1 + t ≤ 4 → R.divF A r c (p + 1 + t) = 0 := by
  intro t
  induction t with
  | zero => intro _; exact h0
  | succ t ih => intro h4; exact R.div_up (by omega) (ih (by omega))
 have h2 := h1 (n - (p + 1)) (by omega)
 rw [show p + 1 + (n - (p + 1)) = n from by omega] at h2
 have h3 := (R.allV_iff A r c n).1 ((R.all_div A r c n (by omega)).1 h2)
 intro S C hS hSr hC hCc
 exact Int.zero_dvd.1 (R.chosenL_any (by omega) h3 hS hSr hC hCc)
theorem rank_sum {r q c p k l : Nat} {zs ys : List Int} (hz : zs.length = r * c) (hc : c ≤ 3) (ha : R.RankIs (ent c zs) r c p) (hb : R.RankIs (ent c ys) q c k) (hl : R.RankIs (ent c (zs ++ ys)) (r + q) c l) : l ≤ p + k := by
 apply Classical.byContradiction
 intro hn
 have hlc := hl.2.1
 refine hl.2.2.1 (p + k) (by omega) ((R.all_div _ _ _ _ (by omega)).2 ((R.allV_iff _ _ _ _).2 ?_))
 intro C hC S hS hSr
 have hCl := R.chosenL_lt hC
 have key := R.rise_all 0 (ent c (zs ++ ys)) C (by omega) (p + k + 1) (r + q) [] (by simp [hCl.1]) (fun S' hS' => by
  rw [List.append_nil]
  obtain ⟨S1, S2, rfl, h1, h2⟩ := split_rise _ _ r S' hS'
  have hlen := (R.chosenL_lt hS').1
  rw [List.length_append] at hlen
  rw [List.map_append]
  by_cases hp : p < S1.length
  ·have := front_zero (c := c) (us := S1.map (ent c (zs ++ ys))) (fun C' hC' hc' => by
    have h3 := rank_zero ha (by omega) hp (by omega) S1 C' rfl h1 (by simpa using hC') hc'
    rw [← h3]
    refine R.mv_congr _ _ C' (by simp) (fun i hi x hx => ?_)
    simp only [List.length_map] at hi
    simp only [List.getD, List.getElem?_map, List.getElem?_eq_getElem hi, Option.map_some, Option.getD_some]
    exact ent_top ys hz (h1 _ (List.getElem_mem _)) (hc' x hx)) (S2.map (ent c (zs ++ ys))) C (by simp; omega) (by omega) hCl.2
   rw [this]
   exact Int.dvd_refl _
  ·have := tail_zero (c := c) (us := S2.map (ent c (zs ++ ys))) (fun C' hC' hc' => by
    have h3 := rank_zero hb (by omega) (n := S2.length) (by omega) (by omega) (S2.map fun x => x - r) C' (by simp) (fun x hx => by
     obtain ⟨y, hy, rfl⟩ := List.mem_map.1 hx
     have := h2 y hy; omega) (by simpa using hC') hc'
    rw [← h3]
    refine R.mv_congr _ _ C' (by simp) (fun i hi x hx => ?_)
    simp only [List.length_map] at hi
    simp only [List.getD, List.getElem?_map, List.getElem?_eq_getElem hi, Option.map_some, Option.getD_some]
    have h4 := h2 _ (List.getElem_mem hi)
    have h5 := ent_low ys hz (S2[i] - r) x
    rw [show r + (S2[i] - r) = S2[i] from by omega] at h5
    exact h5) (S1.map (ent c (zs ++ ys))) C (by simp; omega) hCl.2
   rw [this]
   exact Int.dvd_refl _) S (by omega) hSr
 simpa using key
open Go.RowKit
def RowIn (c : Nat) (f : Nat → Int) (m : Int) : Prop := ∀ j, j < c → -m ≤ f j ∧ f j ≤ m
theorem RowIn.upd {c : Nat} {f : Nat → Int} {m : Int} (h : RowIn c f m) (j : Nat) (z : Int) (h1 : -m ≤ z) (h2 : z ≤ m) : RowIn c (upd f j z) m := by
 intro k hk
 unfold Proofs.YtfjbijpagaipnaaDoor.upd
 split
 ·exact ⟨h1, h2⟩
 ·exact h k hk
def RowsIn (n c : Nat) (e : Nat → Nat → Int) : Prop := ∀ i, i < n → RowIn c (e i) (9 * 2 ^ i)
theorem IRow.grown {w w' : World} {g c p : Nat} {f : Nat → Int} (h : IRow w g c f) (hg : w.grownBy w' (some p)) (hp : p ≠ g) : IRow w' g c f := by
 unfold IRow
 rw [hg.block g h.lt (fun e => hp (by injection e with e; exact e.symm))]; exact h
theorem IRow.below {B : Nat} {w w' : World} {g c : Nat} {f : Nat → Int} (h : IRow w g c f) (hb : Below B w w') (hB : g < B) : IRow w' g c f := by
 unfold IRow
 rw [hb.block g hB]; exact h
def RS (wr ws : World) (d G c : Nat) (M : Int) : Prop := ∃ f, IRow ws G c f ∧ RowIn c f M ∧ Di ws d ∧ wr.grownBy ws (some d)
theorem RS.under {wr ws ws' : World} {d G c : Nat} {M : Int} (h : RS wr ws d G c M) (hd : d ≠ G) (hdi : Di ws' d) (hg : ws.grownBy ws' (some d)) : RS wr ws' d G c M := by
 obtain ⟨f, h1, h2, h3, h4⟩ := h
 exact ⟨f, h1.grown hg hd, h2, hdi, grown_trans h4 hg⟩
theorem grown_store {W w : World} {row : Option Nat} {p i : Nat} {x : Value} (h : W.grownBy w row) (hp : W.heap.size ≤ p) : W.grownBy (w.setCell ⟨p, i, none⟩ x) row := by
 refine ⟨h.os, h.tape, h.output, by have := h.size; simp [World.setCell]; omega, fun k hk hne => ?_⟩
 rw [Below.heap_setCell _ _ _ _ (by simp; omega)]
 exact h.block k hk hne
theorem Di.store {w : World} {d g j : Nat} (h : Di w d) (hd : d ≠ g) (u : Value) : Di (w.setCell ⟨g, j, none⟩ u) d := by
 obtain ⟨x, h1, h2⟩ := h
 exact ⟨x, h1, by rw [Below.heap_setCell _ _ _ _ (by simpa using hd)]; exact h2⟩
theorem RS.store {wr ws : World} {d G c : Nat} {M : Int} (h : RS wr ws d G c M) (hd : d ≠ G) (hG : wr.heap.size ≤ G) (j : Nat) (z : Int) (h1 : -M ≤ z) (h2 : z ≤ M) : RS wr (ws.setCell ⟨G, j, none⟩ (.int .i64 z)) d G c M := by
 obtain ⟨f, e1, e2, e3, e4⟩ := h
 exact ⟨_, e1.stored j z, e2.upd j z h1 h2, e3.store hd _, grown_store e4 hG⟩
theorem RS.cell {wr ws : World} {d G c : Nat} {M : Int} (h : RS wr ws d G c M) (j : Nat) (hj : j < c) : (∃ z, ws.cell? ⟨G, j, none⟩ = some (.int .i64 z)) ∧ ws.frozen? ⟨G, j, none⟩ = false := by
 obtain ⟨f, e1, -⟩ := h
 exact ⟨⟨_, e1.cell j hj⟩, e1.frozen j⟩
theorem grown_own {w ws w5 : World} {d : Nat} {row : Option Nat} (h : w.grownBy ws (some d)) (hg : ws.grownBy w5 row) (hr : ∀ k, row = some k → w.heap.size ≤ k) : w.grownBy w5 (some d) := by
 have hsz := h.size
 exact ⟨hg.os.trans h.os, hg.tape.trans h.tape, hg.output.trans h.output, Nat.le_trans hsz hg.size, fun k hk hne => (hg.block k (by omega) (fun e => by have := hr k e.symm; omega)).trans (h.block k hk hne)⟩
theorem Di.own {w w' : World} {d B : Nat} {row : Option Nat} (h : Di w d) (hg : w.grownBy w' row) (hr : ∀ k, row = some k → B ≤ k) (hd : d < B) : Di w' d := by
 have hl := h.lt
 obtain ⟨x, h1, h2⟩ := h
 exact ⟨x, h1, by rw [hg.block d hl (fun e => by have := hr d e.symm; omega)]; exact h2⟩
theorem RowsIn.next {k c : Nat} {e : Nat → Nat → Int} {f : Nat → Int} {M : Int} (h : RowsIn k c e) (hf : RowIn c f M) (hM : M ≤ 9 * 2 ^ k) : RowsIn (k + 1) c (fun i => if i = k then f else e i) := by
 intro i hi
 by_cases hik : i = k
 ·subst hik
  simp only [if_true]
  intro j hj
  have := hf j hj
  omega
 ·simp only [hik, if_false]; exact h i (by omega)
theorem pow_box (k : Nat) (hk : k < 3) : (9 : Int) * 2 ^ k ≤ 36 ∧ (9 : Int) ≤ 9 * 2 ^ k := by
 obtain rfl | rfl | rfl : k = 0 ∨ k = 1 ∨ k = 2 := by omega
 all_goals decide
theorem pow_next (k : Nat) : (9 : Int) * 2 ^ (k + 1) = 2 * (9 * 2 ^ k) := by rw [Int.pow_succ]; omega
def Rise (n : Nat) (gs : Nat → Nat) : Prop := ∀ i j, i < j → j < n → gs i < gs j
theorem low_next {B X n : Nat} {gs : Nat → Nat} (h : ∀ i, i < n → B ≤ gs i) (hX : B ≤ X) : ∀ i, i < n + 1 → B ≤ (if i = n then X else gs i) := by
 intro i hi
 by_cases e0 : i = n
 ·simp only [e0, if_true]; exact hX
 ·simp only [e0, if_false]; exact h i (by omega)
theorem Rise.next {B : Nat} {w : World} {v : Value} {n c : Nat} {gs : Nat → Nat} {e : Nat → Nat → Int} (h : Rise n gs) (hm : Mat B w v n c gs e) : Rise (n + 1) (fun i => if i = n then w.heap.size else gs i) := by
 intro i j hij hj
 have hi : i ≠ n := by omega
 simp only [hi, if_false]
 by_cases e0 : j = n
 ·simp only [e0, if_true]
  exact (hm.2 i (by omega)).lt
 ·simp only [e0, if_false]
  exact h i j hij (by omega)
set_option maxRecDepth 100000 in
set_option maxHeartbeats 4000000 in
theorem drawn_rise (d r c : Nat) (w : World) (h : Di w d) (hr : r ≤ 3) (hc : c ≤ 3) :
 Calls Tryd.prog 21 #[.pointer (some ⟨d, 0, none⟩), .int .i64 r, .int .i64 c] w fun x w' => ∃ v gs e, x = .returned v ∧ Mat w.heap.size w' v r c gs e ∧ RowsIn r c e ∧ Di w' d ∧ w.grownBy w' (some d) ∧ Rise r gs ∧ ∀ i, i < r → w.heap.size ≤ gs i := by
 have hdl := h.lt
 have H := Hid.mk h
 clear h
 go_enter Tryd.func21, Tryd.ntmps21
 go_wp2_with fail
 go_loopw [7, 8] (fun v i wr => ∃ (k : Nat) (gs : Nat → Nat) (e : Nat → Nat → Int), k ≤ r ∧ i = .int .i64 k ∧ Mat w.heap.size wr v k c gs e ∧ RowsIn k c e ∧ Di wr d ∧ w.grownBy wr (some d) ∧ (Rise k gs ∧ ∀ i, i < k → w.heap.size ≤ gs i)) (fun _ i _ => r - (intOf i).toNat)
 case atStart => exact ⟨0, fun _ => 0, fun _ _ => 0, Nat.zero_le _, rfl, Mat.nil _ _ _ _ _, fun i hi => by omega, H.out, World.grownBy.refl _ _, fun i j hi hj => by omega, fun i hi => by omega⟩
 case round =>
  rename World => wr0
  obtain ⟨k, gs, e, hk, rfl, hm, hin, hdi, hgr, hri⟩ := hrel
  have HRI := Hid.mk hri
  clear hri
  have hwr := hgr.size
  have K := Hid.mk (And.intro hm (And.intro hin (And.intro hdi hgr)))
  by_cases hkr : k < r
  ·obtain ⟨M, hM⟩ : ∃ M : Int, M = 9 * 2 ^ k := ⟨_, rfl⟩
   have hMb := pow_box k (by omega)
   rw [← hM] at hMb
   obtain ⟨hM1, hM2⟩ := hMb
   have HM := Hid.mk hM
   have hdw : d ≠ wr0.heap.size := by omega
   by_cases hk0 : 0 < k
   ·rcases hm.shape with ⟨rfl, h0⟩ | ⟨g, cap, rfl, hcap1, hcap2, -, hgl, -, -⟩
    ·omega
    clear hm hin hdi hgr hM
    go_wp2_with (at_make; refine make_row _ rfl _ _ rfl _ _ c rfl rfl rfl rfl (by omega) ?_)
    intro w1 hrow hb1 hsz1
    have R1 : RS wr0 w1 d wr0.heap.size c M := ⟨_, hrow, fun j hj => by constructor <;> (simp; omega), K.out.2.2.1.below hb1 K.out.2.2.1.lt, grown_below (World.grownBy.refl _ _) hb1⟩
    have HR := Hid.mk R1
    clear hrow hb1 R1
    go_wp2_with fail
    go_loopw [10] (fun i ws => ∃ j : Nat, j ≤ c ∧ i = .int .i64 j ∧ RS wr0 ws d wr0.heap.size c M) (fun i _ => c - (intOf i).toNat)
    case atStart => exact ⟨0, Nat.zero_le _, rfl, HR.out⟩
    case round =>
     clear HR
     obtain ⟨j, hj, rfl, hrs⟩ := hrel
     have HR := Hid.mk hrs
     clear hrs
     by_cases hjc : j < c
     ·go_wp2_with fail
      refine (under_any d 19 _ HR.out.choose_spec.2.2.1 (by omega) (by omega)).mono ?_
      rintro x w2 ⟨⟨u, rfl, hu⟩, hd2, hg2⟩
      have R2 := HR.out.under hdw hd2 hg2
      obtain ⟨⟨z, c1⟩, f1⟩ := R2.cell j hjc
      have HR2 := Hid.mk R2
      clear R2 hd2 hg2 HR
      go_wp2_with fail
      go_roundw
      case measure => simp [intOf]; omega
      case rel => exact ⟨j + 1, by omega, by go_num, HR2.out.store hdw (Nat.le_refl _) j _ (by omega) (by omega)⟩
     ·go_wp2_with fail
      refine (under_any d 4 _ HR.out.choose_spec.2.2.1 (by omega) (by omega)).mono ?_
      rintro x w2 ⟨⟨u, rfl, hu⟩, hd2, hg2⟩
      have R2 := HR.out.under hdw hd2 hg2
      have HR2 := Hid.mk R2
      clear R2 hd2 hg2 HR
      by_cases hu0 : u = 0
      ·subst hu0
       go_wp2_with fail
       go_loopw [13] (fun i ws => ∃ j : Nat, j ≤ c ∧ i = .int .i64 j ∧ RS wr0 ws d wr0.heap.size c M) (fun i _ => c - (intOf i).toNat)
       case atStart => exact ⟨0, Nat.zero_le _, rfl, HR2.out⟩
       case round =>
        clear HR2
        obtain ⟨j2, hj2, rfl, hrs⟩ := hrel
        have HR2 := Hid.mk hrs
        clear hrs
        by_cases hjc2 : j2 < c
        ·obtain ⟨⟨z, c1⟩, f1⟩ := HR2.out.cell j2 hjc2
         have hM2' := K.out.1.keep (KB.of_grown HR2.out.choose_spec.2.2.2 K.out.2.2.1.ty (by decide) (by decide))
         have c2 := hM2'.cell (k - 1) (by omega)
         have c3 := (hM2'.2 (k - 1) (by omega)).cell j2 hjc2
         have bz := K.out.2.1 (k - 1) (by omega) j2 hjc2
         have hpn := pow_next (k - 1)
         rw [show k - 1 + 1 = k from by omega, ← HM.out] at hpn
         generalize gs (k - 1) = G1 at c2 c3
         generalize e (k - 1) j2 = zz at c3 bz
         have b1 : -M ≤ 2 * zz := by omega
         have b2 : 2 * zz ≤ M := by omega
         clear hM2' hpn bz
         go_wp2_with fail
         go_roundw
         case measure => simp [intOf]; omega
         case rel => exact ⟨j2 + 1, by omega, by go_num, HR2.out.store hdw (Nat.le_refl _) j2 _ b1 b2⟩
        ·skip
         obtain ⟨f, q1, q2, q3, q4⟩ := HR2.out
         have Q := Hid.mk (And.intro q1 (And.intro q2 (And.intro q3 q4)))
         clear q1 q2 q3 q4 HR2
         go_wp2_with (at_builtin; refine append_row _ rfl (.tmp 59) (.tmp 61) rfl w.heap.size _ k c gs e rfl ?_ ⟨_, 0, none⟩ rfl wr0.heap.size f ?_ ?_ (by omega) ?_ ?_)
         ·exact (K.out.1.keep (KB.of_grown Q.out.2.2.2 K.out.2.2.1.ty (by decide) (by decide))).keep (KB.of_below ((Below.refl _ _).alloc (Nat.le_refl _) _))
         ·simp [Addr.add]
         ·exact Q.out.1.below ((Below.refl _ _).alloc (Nat.le_refl _) _) Q.out.1.lt
         ·have := Q.out.2.2.2.size; simp; omega
         intro v' w5 hM5 _ hg5 hown
         have hg6 := grown_own (grown_below (grown_trans K.out.2.2.2 Q.out.2.2.2) ((Below.refl _ _).alloc (Nat.le_refl _) _)) hg5 hown
         have hd6 := (Q.out.2.2.1.below ((Below.refl _ _).alloc (Nat.le_refl _) _) Q.out.2.2.1.lt).own hg5 hown hdl
         have HF := Hid.mk (And.intro hM5 (And.intro (K.out.2.1.next Q.out.2.1 (Int.le_of_eq HM.out)) (And.intro hd6 hg6)))
         clear hM5 hg5 hown hg6 hd6
         go_wp2_with fail
         go_roundw
         case measure => simp [intOf]; omega
         case rel => exact ⟨k + 1, _, _, by omega, by go_num, HF.out.1, HF.out.2.1, HF.out.2.2.1, HF.out.2.2.2, HRI.out.1.next K.out.1, low_next HRI.out.2 hwr⟩
      ·have hub : ((u : Int) == 0) = false := beq_eq_false_iff_ne.2 (by omega)
       clear hu0
       obtain ⟨f, q1, q2, q3, q4⟩ := HR2.out
       have Q := Hid.mk (And.intro q1 (And.intro q2 (And.intro q3 q4)))
       clear q1 q2 q3 q4 HR2
       go_wp2_with (at_builtin; refine append_row _ rfl (.tmp 59) (.tmp 61) rfl w.heap.size _ k c gs e rfl ?_ ⟨_, 0, none⟩ rfl wr0.heap.size f ?_ ?_ (by omega) ?_ ?_)
       ·exact (K.out.1.keep (KB.of_grown Q.out.2.2.2 K.out.2.2.1.ty (by decide) (by decide))).keep (KB.of_below ((Below.refl _ _).alloc (Nat.le_refl _) _))
       ·simp [Addr.add]
       ·exact Q.out.1.below ((Below.refl _ _).alloc (Nat.le_refl _) _) Q.out.1.lt
       ·have := Q.out.2.2.2.size; simp; omega
       intro v' w5 hM5 _ hg5 hown
       have hg6 := grown_own (grown_below (grown_trans K.out.2.2.2 Q.out.2.2.2) ((Below.refl _ _).alloc (Nat.le_refl _) _)) hg5 hown
       have hd6 := (Q.out.2.2.1.below ((Below.refl _ _).alloc (Nat.le_refl _) _) Q.out.2.2.1.lt).own hg5 hown hdl
       have HF := Hid.mk (And.intro hM5 (And.intro (K.out.2.1.next Q.out.2.1 (Int.le_of_eq HM.out)) (And.intro hd6 hg6)))
       clear hM5 hg5 hown hg6 hd6
       go_wp2_with fail
       go_roundw
       case measure => simp [intOf]; omega
       case rel => exact ⟨k + 1, _, _, by omega, by go_num, HF.out.1, HF.out.2.1, HF.out.2.2.1, HF.out.2.2.2, HRI.out.1.next K.out.1, low_next HRI.out.2 hwr⟩
   ·have hk00 : decide (0 < k) = false := by simp; omega
    clear hm hin hdi hgr hM hk0
    go_wp2_with (at_make; refine make_row _ rfl _ _ rfl _ _ c rfl rfl rfl rfl (by omega) ?_)
    intro w1 hrow hb1 hsz1
    have R1 : RS wr0 w1 d wr0.heap.size c M := ⟨_, hrow, fun j hj => by constructor <;> (simp; omega), K.out.2.2.1.below hb1 K.out.2.2.1.lt, grown_below (World.grownBy.refl _ _) hb1⟩
    have HR := Hid.mk R1
    clear hrow hb1 R1
    go_wp2_with fail
    go_loopw [10] (fun i ws => ∃ j : Nat, j ≤ c ∧ i = .int .i64 j ∧ RS wr0 ws d wr0.heap.size c M) (fun i _ => c - (intOf i).toNat)
    case atStart => exact ⟨0, Nat.zero_le _, rfl, HR.out⟩
    case round =>
     clear HR
     obtain ⟨j, hj, rfl, hrs⟩ := hrel
     have HR := Hid.mk hrs
     clear hrs
     by_cases hjc : j < c
     ·go_wp2_with fail
      refine (under_any d 19 _ HR.out.choose_spec.2.2.1 (by omega) (by omega)).mono ?_
      rintro x w2 ⟨⟨u, rfl, hu⟩, hd2, hg2⟩
      have R2 := HR.out.under hdw hd2 hg2
      obtain ⟨⟨z, c1⟩, f1⟩ := R2.cell j hjc
      have HR2 := Hid.mk R2
      clear R2 hd2 hg2 HR
      go_wp2_with fail
      go_roundw
      case measure => simp [intOf]; omega
      case rel => exact ⟨j + 1, by omega, by go_num, HR2.out.store hdw (Nat.le_refl _) j _ (by omega) (by omega)⟩
     ·go_wp2_with fail
      refine (under_any d 4 _ HR.out.choose_spec.2.2.1 (by omega) (by omega)).mono ?_
      rintro x w2 ⟨⟨u, rfl, hu⟩, hd2, hg2⟩
      have R2 := HR.out.under hdw hd2 hg2
      have HR2 := Hid.mk R2
      clear R2 hd2 hg2 HR
      by_cases hu0 : u = 0
      ·subst hu0
       obtain ⟨f, q1, q2, q3, q4⟩ := HR2.out
       have Q := Hid.mk (And.intro q1 (And.intro q2 (And.intro q3 q4)))
       clear q1 q2 q3 q4 HR2
       go_wp2_with (at_builtin; refine append_row _ rfl (.tmp 59) (.tmp 61) rfl w.heap.size _ k c gs e rfl ?_ ⟨_, 0, none⟩ rfl wr0.heap.size f ?_ ?_ (by omega) ?_ ?_)
       ·exact (K.out.1.keep (KB.of_grown Q.out.2.2.2 K.out.2.2.1.ty (by decide) (by decide))).keep (KB.of_below ((Below.refl _ _).alloc (Nat.le_refl _) _))
       ·simp [Addr.add]
       ·exact Q.out.1.below ((Below.refl _ _).alloc (Nat.le_refl _) _) Q.out.1.lt
       ·have := Q.out.2.2.2.size; simp; omega
       intro v' w5 hM5 _ hg5 hown
       have hg6 := grown_own (grown_below (grown_trans K.out.2.2.2 Q.out.2.2.2) ((Below.refl _ _).alloc (Nat.le_refl _) _)) hg5 hown
       have hd6 := (Q.out.2.2.1.below ((Below.refl _ _).alloc (Nat.le_refl _) _) Q.out.2.2.1.lt).own hg5 hown hdl
       have HF := Hid.mk (And.intro hM5 (And.intro (K.out.2.1.next Q.out.2.1 (Int.le_of_eq HM.out)) (And.intro hd6 hg6)))
       clear hM5 hg5 hown hg6 hd6
       go_wp2_with fail
       go_roundw
       case measure => simp [intOf]; omega
       case rel => exact ⟨k + 1, _, _, by omega, by go_num, HF.out.1, HF.out.2.1, HF.out.2.2.1, HF.out.2.2.2, HRI.out.1.next K.out.1, low_next HRI.out.2 hwr⟩
      ·have hub : ((u : Int) == 0) = false := beq_eq_false_iff_ne.2 (by omega)
       clear hu0
       obtain ⟨f, q1, q2, q3, q4⟩ := HR2.out
       have Q := Hid.mk (And.intro q1 (And.intro q2 (And.intro q3 q4)))
       clear q1 q2 q3 q4 HR2
       go_wp2_with (at_builtin; refine append_row _ rfl (.tmp 59) (.tmp 61) rfl w.heap.size _ k c gs e rfl ?_ ⟨_, 0, none⟩ rfl wr0.heap.size f ?_ ?_ (by omega) ?_ ?_)
       ·exact (K.out.1.keep (KB.of_grown Q.out.2.2.2 K.out.2.2.1.ty (by decide) (by decide))).keep (KB.of_below ((Below.refl _ _).alloc (Nat.le_refl _) _))
       ·simp [Addr.add]
       ·exact Q.out.1.below ((Below.refl _ _).alloc (Nat.le_refl _) _) Q.out.1.lt
       ·have := Q.out.2.2.2.size; simp; omega
       intro v' w5 hM5 _ hg5 hown
       have hg6 := grown_own (grown_below (grown_trans K.out.2.2.2 Q.out.2.2.2) ((Below.refl _ _).alloc (Nat.le_refl _) _)) hg5 hown
       have hd6 := (Q.out.2.2.1.below ((Below.refl _ _).alloc (Nat.le_refl _) _) Q.out.2.2.1.lt).own hg5 hown hdl
       have HF := Hid.mk (And.intro hM5 (And.intro (K.out.2.1.next Q.out.2.1 (Int.le_of_eq HM.out)) (And.intro hd6 hg6)))
       clear hM5 hg5 hown hg6 hd6
       go_wp2_with fail
       go_roundw
       case measure => simp [intOf]; omega
       case rel => exact ⟨k + 1, _, _, by omega, by go_num, HF.out.1, HF.out.2.1, HF.out.2.2.1, HF.out.2.2.2, HRI.out.1.next K.out.1, low_next HRI.out.2 hwr⟩
  ·have hke : k = r := by omega
   have HK := Hid.mk hke
   clear hm hin hdi hgr hke
   go_wp2_with fail
   go_ret
   have hke := HK.out
   subst hke
   exact ⟨_, gs, e, rfl, K.out.1, K.out.2.1, K.out.2.2.1, K.out.2.2.2, HRI.out.1, HRI.out.2⟩
theorem drawn_any (d r c : Nat) (w : World) (h : Di w d) (hr : r ≤ 3) (hc : c ≤ 3) :
 Calls Tryd.prog 21 #[.pointer (some ⟨d, 0, none⟩), .int .i64 r, .int .i64 c] w fun x w' => ∃ v gs e, x = .returned v ∧ Mat w.heap.size w' v r c gs e ∧ RowsIn r c e ∧ Di w' d ∧ w.grownBy w' (some d) := by
 refine (drawn_rise d r c w h hr hc).mono ?_
 rintro x w' ⟨v, gs, e, h1, h2, h3, h4, h5, -⟩
 exact ⟨v, gs, e, h1, h2, h3, h4, h5⟩
open Go.RowKit
theorem Below.ofG {B p : Nat} {w w' : World} (h : w.grownBy w' (some p)) (hp : B ≤ p) (hB : B ≤ w.heap.size) : Below B w w' := ⟨h.os, h.tape, h.output, h.size, fun k hk => h.block k (by omega) (by intro e; injection e with e; omega)⟩
def TinyR (r c : Nat) (e : Nat → Nat → Int) : Prop := ∀ i j, i < r → j < c → -36 ≤ e i j ∧ e i j ≤ 36
theorem TinyR.small {r c : Nat} {e : Nat → Nat → Int} (h : TinyR r c e) : SmallR r c e := fun i j hi hj => by have := h i j hi hj; omega
theorem RowsIn.tinyR {r c : Nat} {e : Nat → Nat → Int} (h : RowsIn r c e) (hr : r ≤ 3) : TinyR r c e := by
 intro i j hi hj
 have h1 := h i hi j hj
 have h2 := pow_box i (by omega)
 omega
open Go.RowKit
theorem KL.put1 {B : Nat} {w w' : World} {d b : Nat} {l : List KMx} {x : KMx} (h : KL B w d b l) (hl : l.length < 24) {n : Nat} (hn : FreeAt (stk l) n) (hH : Held w' b ((stk l).set n (some (l.length, x))) (l.length + 1)) (hF : Fr b w w') : KL B w' d b (l ++ [x]) := by
 rw [stk_put hl x hn] at hH
 unfold KL
 rw [List.length_append]
 exact KS.step h hH hF
theorem member_stk (B d b g h r c : Nat) (zs ys : List Int) (l : List KMx) (w : World) (hk : KL B w d b l) (hl : l.length < 24) (hg : l[g]? = some (r, c, zs)) (hh : l[h]? = some (1, c, ys)) (f1 : FitsP r c zs) (f2 : FitsP 1 c ys) (hs : Sp (ent c zs) r c (ent c ys 0)) :
 Calls Tryd.prog 27 #[.pointer (some ⟨b, 0, none⟩), .int .i64 g, .int .i64 h] w fun x w' => x = .returned (.tuple #[.bool true, .int .i64 (l.length : Nat), .int .i64 0]) ∧ (∃ xs, MemIs r c zs ys xs ∧ KL B w' d b (l ++ [(1, r, xs)])) ∧ Fr b w w' := by
 refine (member_held b g h (stk l) l.length w hk.held (by omega)).mono ?_
 rintro x w' ⟨y, k, e, ms', nx', rfl, hrel, hH, hF⟩
 rcases hrel with ⟨h1, -⟩ | ⟨i, hd, r1, q1, zs1, j, hd', r', c1, ys1, hi, hx, hxk, hj, hy, hyk, hrel⟩
 ·rcases h1 with h1 | h1
  ·exact (stk_no (by omega) hg h1).elim
  ·exact (stk_no (by omega) hh h1).elim
 ·have e1 := stk_is hi hx hxk hg
  have e2 := stk_is hj hy hyk hh
  simp only [Prod.mk.injEq] at e1 e2
  obtain ⟨rfl, rfl, rfl⟩ := e1
  obtain ⟨rfl, rfl, rfl⟩ := e2
  rcases hrel with ⟨h1, -⟩ | ⟨-, h1, -⟩ | ⟨-, -, ⟨h1, -⟩, -⟩ | ⟨-, -, -, h1, -⟩ | ⟨-, -, -, rfl, rfl, rfl, n, xs, h2, h3, rfl, rfl⟩
  ·exact absurd ⟨rfl, rfl⟩ h1
  ·exact absurd ⟨f1, f2⟩ h1
  ·exact absurd hs h1
  ·exact (stk_room hl h1).elim
  ·exact ⟨rfl, ⟨xs, h2, hk.put1 hl h3 hH hF⟩, hF⟩
theorem sum_stk (B d b g h r r' c : Nat) (zs ys : List Int) (l : List KMx) (w : World) (hk : KL B w d b l) (hl : l.length < 24) (hg : l[g]? = some (r, c, zs)) (hh : l[h]? = some (r', c, ys)) (f1 : FitsP r c zs) (f2 : FitsP r' c ys) :
 Calls Tryd.prog 18 #[.pointer (some ⟨b, 0, none⟩), .int .i64 g, .int .i64 h] w fun x w' => x = .returned (.tuple #[.int .i64 (l.length : Nat), .int .i64 0]) ∧ (∃ rk bs, BasisIs (r + r') c (zs ++ ys) rk bs ∧ KL B w' d b (l ++ [(rk, c, bs)])) ∧ Fr b w w' := by
 refine (sum_held b g h (stk l) l.length w hk.held (by omega)).mono ?_
 rintro x w' ⟨k, e, ms', nx', rfl, hrel, hH, hF⟩
 rcases hrel with ⟨h1, -⟩ | ⟨i, hd, r1, q1, zs1, j, hd', r1', c1, ys1, hi, hx, hxk, hj, hy, hyk, hrel⟩
 ·rcases h1 with h1 | h1
  ·exact (stk_no (by omega) hg h1).elim
  ·exact (stk_no (by omega) hh h1).elim
 ·have e1 := stk_is hi hx hxk hg
  have e2 := stk_is hj hy hyk hh
  simp only [Prod.mk.injEq] at e1 e2
  obtain ⟨rfl, rfl, rfl⟩ := e1
  obtain ⟨rfl, rfl, rfl⟩ := e2
  rcases hrel with ⟨h1, -⟩ | ⟨-, h1, -⟩ | ⟨-, -, h1, -⟩ | ⟨-, -, rfl, rfl, n, rk, bs, h2, h3, rfl, rfl⟩
  ·exact absurd rfl h1
  ·exact absurd ⟨f1, f2⟩ h1
  ·exact (stk_room hl h1).elim
  ·exact ⟨rfl, ⟨rk, bs, h2, hk.put1 hl h3 hH hF⟩, hF⟩
theorem shown_stk (B d b g r c : Nat) (zs : List Int) (l : List KMx) (w : World) (hk : KL B w d b l) (hl : l.length ≤ 24) (hg : l[g]? = some (r, c, zs)) :
 Calls Tryd.prog 17 #[.pointer (some ⟨d, 0, none⟩), .int .i64 g] w fun x w' => x = .returned (.string ⟨(matT r c zs).toArray⟩) ∧ Below w.heap.size w w' := by
 refine (shown_any B d b g (stk l) l.length w hk).mono ?_
 rintro x w' ⟨t, rfl, ⟨t0, e0, hs, ht⟩, hb⟩
 rcases hs with ⟨rfl, i, ⟨hd, r1, c1, zs1⟩, hi, hx, hxk, h1⟩ | ⟨-, -, hn⟩
 ·have e1 := stk_is hi hx hxk hg
  simp only [Prod.mk.injEq] at e1
  obtain ⟨rfl, rfl, rfl⟩ := e1
  rcases ht with ⟨-, rfl⟩ | ⟨h2, -⟩
  ·rw [h1]; exact ⟨rfl, hb⟩
  ·exact absurd rfl h2
 ·exact (stk_no hl hg hn).elim
open Go.RowKit
open Go.RowKit
open Go.RowKit
open Go.RowKit
open Go.RowKit R
open Go.RowKit R
open Go.RowKit R
open Go.RowKit R
open Go.RowKit
open Go.RowKit R
open Go.RowKit R
open Go.RowKit
theorem rank_stk (B d b g r c : Nat) (zs : List Int) (l : List KMx) (w : World) (hk : KL B w d b l) (hl : l.length ≤ 24) (hg : l[g]? = some (r, c, zs)) (f : FitsP r c zs) :
 Calls Tryd.prog 28 #[.pointer (some ⟨b, 0, none⟩), .int .i64 g] w fun x w' => ∃ k : Nat, R.RankIs (ent c zs) r c k ∧ x = .returned (.tuple #[.int .i64 k, .int .i64 0]) ∧ Below w.heap.size w w' := by
 refine (rank_held b g (stk l) l.length w hk.held).mono ?_
 rintro x w' ⟨t, e, rfl, hrel, hb⟩
 rcases hrel with ⟨hn, -⟩ | ⟨i, hd, r1, c1, zs1, hi, hx, hxh, h⟩
 ·exact (stk_no hl hg hn).elim
 ·have e1 := stk_is hi hx hxh hg
  simp only [Prod.mk.injEq] at e1
  obtain ⟨rfl, rfl, rfl⟩ := e1
  rcases h with ⟨h, -⟩ | ⟨-, rfl, k, rfl, h1⟩
  ·exact absurd f h
  ·exact ⟨k, h1, rfl, hb⟩
open Go.RowKit R
open Go.RowKit
open Go.RowKit
open Go.RowKit
open Go.RowKit R
open Go.RowKit R
open Go.RowKit
open Go.RowKit
theorem KL.fr3 {B : Nat} {w w' : World} {d b : Nat} {l : List KMx} (h : KL B w d b l) (hF : Fr b w w') : Below B w w' := hF.below h.hb h.lo
end Go.Proofs.YtfjbijpagaipnaaDoor
