import Derived.Test.YtfjbijpagaipnaaGreatDoorM25
import Derived.Test.YtfjbijpagaipnaaGreatDoorM26
import Derived.Maps.AppendAt
import Derived.Test.YtfjbijpagaipnaaGreatDoorM33
namespace Go.Proofs.YtfjbijpagaipnaaGreatDoor
open Go.RowKit
structure MX (B : Nat) (w : World) (v : Value) (n c : Nat) (rv : Nat → Value) (e : Nat → Nat → Int) : Prop where
 out : w.ownsRow B 25 1 v n ((List.range n).map rv)
 rows : ∀ i, i < n → w.ownsRow B 3 1 (rv i) c (icells c (e i))
 dst : ∀ i j, i < n → j < n → i ≠ j → (rv i).ownBlock = none ∨ (rv i).ownBlock ≠ (rv j).ownBlock
theorem own_kind {w : World} {B : Nat} {t : TypeId} {v : Value} {n : Nat} {xs : List Value} (h : w.ownsRow B t 1 v n xs) (g : Nat) (hg : v.ownBlock = some g) : ∃ c fz, w.heap[g]? = some (.cells c t fz) := by
 rcases h.2 with ⟨rfl, -⟩ | ⟨g', cap, cur, rfl, -, hh, -⟩
 ·simp [Value.ownBlock] at hg
 ·simp [Value.ownBlock] at hg
  subst hg
  exact ⟨_, _, hh⟩
theorem own_apart {w : World} {B B' : Nat} {t t' : TypeId} {v v' : Value} {n n' : Nat} {xs xs' : List Value} (h : w.ownsRow B t 1 v n xs) (h' : w.ownsRow B' t' 1 v' n' xs') (ht : t ≠ t') : v.ownBlock = none ∨ v.ownBlock ≠ v'.ownBlock := by
 cases e : v.ownBlock with
 | none => exact .inl rfl
 | some g =>
   right
   intro e'
   obtain ⟨c1, f1, h1⟩ := own_kind h g e
   obtain ⟨c2, f2, h2⟩ := own_kind h' g e'.symm
   rw [h1] at h2
   simp only [Option.some.injEq, Obj.cells.injEq] at h2
   exact ht h2.2.1
theorem own_low {w : World} {B p : Nat} {t : TypeId} {v : Value} {n : Nat} {xs : List Value} (h : w.ownsRow B t 1 v n xs) (hp : p < B) : v.ownBlock = none ∨ v.ownBlock ≠ some p := by
 cases e : v.ownBlock with
 | none => exact .inl rfl
 | some g => exact .inr (fun e' => by have := (World.ownsRow.lt h g e).1; injection e' with e'; omega)
theorem MX.grown {B : Nat} {w w' : World} {v : Value} {n c p : Nat} {rv : Nat → Value} {e : Nat → Nat → Int} (h : MX B w v n c rv e) (hg : w.grownBy w' (some p)) (hp : p < B) : MX B w' v n c rv e :=
 ⟨World.ownsRow.kept h.out hg (own_low h.out hp), fun i hi => World.ownsRow.kept (h.rows i hi) hg (own_low (h.rows i hi) hp), h.dst⟩
theorem Below.grownN {w w' : World} (h : Below w.heap.size w w') : w.grownBy w' none := ⟨h.os, h.tape, h.output, h.size, fun k hk _ => h.block k hk⟩
theorem own_below {B : Nat} {w w' : World} {t : TypeId} {v : Value} {n : Nat} {xs : List Value} (h : w.ownsRow B t 1 v n xs) (hb : Below w.heap.size w w') : w'.ownsRow B t 1 v n xs := by
 refine World.ownsRow.kept h (Below.grownN hb) ?_
 cases v.ownBlock
 ·exact .inl rfl
 ·exact .inr (by simp)
theorem MX.below {B : Nat} {w w' : World} {v : Value} {n c : Nat} {rv : Nat → Value} {e : Nat → Nat → Int} (h : MX B w v n c rv e) (hb : Below w.heap.size w w') : MX B w' v n c rv e :=
 ⟨own_below h.out hb, fun i hi => own_below (h.rows i hi) hb, h.dst⟩
theorem own_form {w : World} {B : Nat} {t : TypeId} {v : Value} {n : Nat} {xs : List Value} (h : w.ownsRow B t 1 v n xs) : ∃ ao cap, v = .slice ao n cap ∧ n ≤ cap ∧ cap ≤ 9223372036854775807 ∧ (0 < n → ∃ g, ao = some ⟨g, 0, none⟩ ∧ B ≤ g ∧ g < w.heap.size) := by
 rcases h.2 with ⟨rfl, rfl⟩ | ⟨g, cap, cur, rfl, hg, hh, h1, h2, -⟩
 ·exact ⟨none, 0, rfl, Nat.le_refl _, by omega, fun h => by omega⟩
 ·exact ⟨_, cap, rfl, h1, by simpa [maxLen] using h2, fun _ => ⟨g, rfl, hg, (Array.getElem?_eq_some_iff.1 hh).1⟩⟩
theorem MX.rd {B : Nat} {w : World} {v : Value} {n c : Nat} {rv : Nat → Value} {e : Nat → Nat → Int} (h : MX B w v n c rv e) : RdM w v n c e := by
 obtain ⟨ao, cap, rfl, h1, h2, h3⟩ := own_form h.out
 refine ⟨ao, cap, rfl, h1, h2, fun i hi => ?_⟩
 obtain ⟨g, rfl, -⟩ := h3 (by omega)
 obtain ⟨ro, rcap, hro, h4, h5, h6⟩ := own_form (h.rows i hi)
 refine ⟨g, 0, rfl, ro, rcap, ?_, h4, h5, fun j hj => ?_⟩
 ·rw [Nat.zero_add, World.ownsRow.cellAt h.out i (by omega)]
  simp [hi, hro]
 ·obtain ⟨rg, rfl, -⟩ := h6 (by omega)
  have hr := h.rows i hi
  rw [hro] at hr
  refine ⟨rg, 0, rfl, ?_⟩
  rw [Nat.zero_add, World.ownsRow.cellAt hr j (by omega)]
  simp [icells, hj]
theorem MX.cells {B : Nat} {w : World} {v : Value} {n c : Nat} {rv : Nat → Value} {e : Nat → Nat → Int} (h : MX B w v n c rv e) {i : Nat} (hi : i < n) (hc : 0 < c) : ∃ g cap rg rcap, v = .slice (some ⟨g, 0, none⟩) n cap ∧ n ≤ cap ∧ rv i = .slice (some ⟨rg, 0, none⟩) c rcap ∧ c ≤ rcap ∧ w.cell? ⟨g, i, none⟩ = some (.slice (some ⟨rg, 0, none⟩) c rcap) ∧ ∀ j, j < c → w.cell? ⟨rg, j, none⟩ = some (.int .i64 (e i j)) ∧ w.frozen? ⟨rg, j, none⟩ = false := by
 obtain ⟨ao, cap, rfl, h1, h2, h3⟩ := own_form h.out
 obtain ⟨g, rfl, -⟩ := h3 (by omega)
 obtain ⟨ro, rcap, hro, h4, h5, h6⟩ := own_form (h.rows i hi)
 obtain ⟨rg, rfl, -⟩ := h6 hc
 have hr := h.rows i hi
 rw [hro] at hr
 refine ⟨g, cap, rg, rcap, rfl, h1, hro, h4, ?_, fun j hj => ⟨?_, World.ownsRow.frozenAt hr j⟩⟩
 ·rw [World.ownsRow.cellAt h.out i (by omega)]
  simp [hi, hro]
 ·rw [World.ownsRow.cellAt hr j (by omega)]
  simp [icells, hj]
def upd2 (e : Nat → Nat → Int) (i j : Nat) (z : Int) : Nat → Nat → Int := fun a => if a = i then upd (e i) j z else e a
theorem MX.store {B : Nat} {w : World} {v : Value} {n c : Nat} {rv : Nat → Value} {e : Nat → Nat → Int} (h : MX B w v n c rv e) {i rg rcap : Nat} (hi : i < n) (hrv : rv i = .slice (some ⟨rg, 0, none⟩) c rcap) (j : Nat) (z : Int) : MX B (w.setCell ⟨rg, j, none⟩ (.int .i64 z)) v n c rv (upd2 e i j z) := by
 have hr := h.rows i hi
 rw [hrv] at hr
 obtain ⟨h1, h2⟩ := World.ownsRow.stored hr j (.int .i64 z)
 have hown : (rv i).ownBlock = some rg := by rw [hrv]; rfl
 refine ⟨World.ownsRow.kept h.out h2 ?_, fun a ha => ?_, h.dst⟩
 ·have := own_apart h.out (h.rows i hi) (by decide)
  rw [hown] at this
  exact this
 ·unfold upd2
  by_cases e0 : a = i
  ·subst e0
   rw [if_pos rfl, hrv, ← icells_set]
   exact h1
  ·rw [if_neg e0]
   refine World.ownsRow.kept (h.rows a ha) h2 ?_
   have := h.dst a i ha hi e0
   rw [hown] at this
   exact this
theorem MX.same {B : Nat} {w : World} {v : Value} {n c : Nat} {rv : Nat → Value} {e e' : Nat → Nat → Int} (h : MX B w v n c rv e) (he : ∀ i j, i < n → j < c → e i j = e' i j) : MX B w v n c rv e' := by
 refine ⟨h.out, fun i hi => ?_, h.dst⟩
 have : icells c (e i) = icells c (e' i) := by
  unfold icells
  apply List.map_congr_left
  intro j hj
  rw [he i j hi (List.mem_range.1 hj)]
 rw [← this]
 exact h.rows i hi
theorem append_copy (w : World) {ops : Array Oper} {rest : List Oper} {o : Oper} {a : Act} {Q : Exit → Act → World → Prop} (hgd : o.guard = none) (s x : Operand)
 (ho : o.op = .call { callee := .builtin .append, args := #[s, x], argTypes := #[25, 25] }) (B : Nat) (hs : a.eval s = .slice none 0 0) (g c : Nat) (f : Nat → Int) (hx : a.eval x = .slice (some ⟨g, 0, none⟩) c c) (hr : IRow w g c f) (hc : c ≤ 10000) (hB : B ≤ w.heap.size)
 (hK : ∀ v' w', w'.ownsRow B 3 1 v' c (icells c f) → Below w.heap.size w w' → (v'.ownBlock = none ∨ v'.ownBlock = some w.heap.size) → wpList Tryz.prog ops Q rest (a.put o.dst v') w') : wpList Tryz.prog ops Q (o :: rest) a w := by
 obtain ⟨i, hi, hz0, hz1, hz2⟩ := info_parts Tryz.info3'
 refine wpList_append_own_at w hgd s x 25 ho B 3 i (.int .i64 0) 1 8 Tryz.underlying25 hi hz0 hz1 hz2 rfl (by decide) (.slice none 0 0) 0 [] hs (World.ownsRow_nil _ _ _ _) ⟨g, 0, none⟩ c c (icells c f) hx (by simp [icells]) ?_ ?_ ?_ ?_ hB ?_
 ·intro j u hj
  have hjc : j < c := by have := (List.getElem?_eq_some_iff.1 hj).1; simpa [icells] using this
  have h1 := hr.cell j hjc
  simp [icells, hjc] at hj
  subst hj
  rw [R.addr_add, Nat.zero_add]
  exact h1
 ·intro u hu
  simp [icells] at hu
  obtain ⟨j, -, rfl⟩ := hu
  rfl
 ·unfold maxLen; omega
 ·omega
 ·intro v' w' k1 k2 _ k3
  rw [Nat.zero_add, List.nil_append] at k1
  refine hK v' w' k1 ⟨k2.os, k2.tape, k2.output, k2.size, fun k hk => k2.block k hk (by simp [Value.ownBlock])⟩ ?_
  rcases k3 with k3 | k3
  ·exact .inl k3
  ·exact .inr k3
set_option maxRecDepth 100000 in
theorem append_own (w : World) {ops : Array Oper} {rest : List Oper} {o : Oper} {a : Act} {Q : Exit → Act → World → Prop} (hgd : o.guard = none) (s x : Operand)
 (ho : o.op = .call { callee := .builtin .append, args := #[s, x], argTypes := #[38, 38] }) (B : Nat) (v : Value) (n c : Nat) (rv : Nat → Value) (e : Nat → Nat → Int) (hs : a.eval s = v) (hm : MX B w v n c rv e)
 (ad : Addr) (hx : a.eval x = .slice (some ad) 1 1) (u : Value) (f : Nat → Int) (h0 : w.cell? (ad.add 0) = some u) (hu : u.oneCell' = true) (hr : w.ownsRow B 3 1 u c (icells c f)) (hd : ∀ i, i < n → (rv i).ownBlock = none ∨ (rv i).ownBlock ≠ u.ownBlock) (hn : n ≤ 10000) (hB : B ≤ w.heap.size)
 (hK : ∀ v' w', MX B w' v' (n + 1) c (fun i => if i = n then u else rv i) (fun i => if i = n then f else e i) → w.grownBy w' v.ownBlock → (∀ k, v.ownBlock = some k → B ≤ k) → wpList Tryz.prog ops Q rest (a.put o.dst v') w') : wpList Tryz.prog ops Q (o :: rest) a w := by
 obtain ⟨i, hi, hz0, hz1, hz2⟩ := info_parts Tryz.info25'
 refine wpList_append_own w hgd s x 38 ho B 25 i (.slice none 0 0) 1 24 Tryz.underlying38 hi hz0 hz1 hz2 rfl (by decide) v n ((List.range n).map rv) hs hm.out ad 1 1 [u] hx rfl ?_ ?_ ?_ ?_ hB ?_
 ·intro j u' hj
  match j, hj with
  | 0, hj => simp at hj; subst hj; exact h0
 ·intro u' hu'; simp at hu'; subst hu'; exact hu
 ·unfold maxLen; omega
 ·omega
 ·intro v' w' k1 k2 _
  refine hK v' w' ⟨?_, fun j hj => ?_, fun p q hp hq hpq => ?_⟩ k2 (fun k hk => (World.ownsRow.lt hm.out k hk).1)
  ·have e1 : (List.range n).map rv ++ [u] = (List.range (n + 1)).map fun i => if i = n then u else rv i := by
    have h2 : (List.range n).map (fun i => if i = n then u else rv i) = (List.range n).map rv := List.map_congr_left (fun i hi => by
     have := List.mem_range.1 hi
     rw [if_neg (by omega)])
    rw [List.range_succ, List.map_append, List.map_singleton, h2, if_pos rfl]
   rw [← e1]
   exact k1
  ·by_cases hjn : j = n
   ·simp only [hjn, if_true]
    exact World.ownsRow.kept hr k2 (own_apart hr hm.out (by decide))
   ·simp only [hjn, if_false]
    have hj' : j < n := by omega
    exact World.ownsRow.kept (hm.rows j hj') k2 (own_apart (hm.rows j hj') hm.out (by decide))
  ·by_cases hpn : p = n
   ·by_cases hqn : q = n
    ·omega
    ·simp only [hpn, hqn, if_true, if_false]
     rcases hd q (by omega) with h1 | h1
     ·cases e1 : u.ownBlock with
      | none => exact .inl rfl
      | some k => exact .inr (by rw [h1]; simp)
     ·exact .inr (Ne.symm h1)
   ·by_cases hqn : q = n
    ·simp only [hpn, hqn, if_true, if_false]
     exact hd p (by omega)
    ·simp only [hpn, hqn, if_false]
     exact hm.dst p q (by omega) (by omega) hpq
theorem SpEq.refl (A : Nat → Nat → Int) (r c : Nat) : SpEq A A r r c := ⟨fun _ hi => Sp.row A c hi, fun _ hi => Sp.row A c hi⟩
theorem SpEq.trans {A B C : Nat → Nat → Int} {r s t c : Nat} (h : SpEq A B r s c) (k : SpEq B C s t c) : SpEq A C r t c :=
 ⟨fun i hi => (h.1 i hi).trans k.1, fun i hi => (k.2 i hi).trans h.2⟩
theorem SpEq.neg {A B : Nat → Nat → Int} {r c i : Nat} (_hi : i < r) (hB : ∀ a j, a < r → j < c → B a j = if a = i then -A i j else A a j) : SpEq A B r r c := by
 have key : ∀ {A B : Nat → Nat → Int}, (∀ a j, a < r → j < c → B a j = if a = i then -A i j else A a j) → ∀ a, a < r → Sp A r c (B a) := by
  intro A B hB a ha
  by_cases e : a = i
  ·subst e
   exact ((Sp.row A c ha).mul (-1)).to fun j hj => by rw [hB a j ha hj, if_pos rfl]; omega
  ·exact (Sp.row A c ha).to fun j hj => by rw [hB a j ha hj, if_neg e]
 refine ⟨key (fun a j ha hj => ?_), key hB⟩
 by_cases e : a = i
 ·subst e; rw [if_pos rfl, hB a j ha hj, if_pos rfl]; omega
 ·rw [if_neg e, hB a j ha hj, if_neg e]
theorem SpEq.add {A B : Nat → Nat → Int} {r c i k : Nat} {t : Int} (_hi : i < r) (hk : k < r) (hik : i ≠ k) (hB : ∀ a j, a < r → j < c → B a j = if a = i then A i j + t * A k j else A a j) : SpEq A B r r c := by
 have key : ∀ {A B : Nat → Nat → Int} {t : Int}, (∀ a j, a < r → j < c → B a j = if a = i then A i j + t * A k j else A a j) → ∀ a, a < r → Sp A r c (B a) := by
  intro A B t hB a ha
  by_cases e : a = i
  ·subst e
   refine ((Sp.row A c ha).sub ((Sp.row A c hk).mul (-t))).to fun j hj => ?_
   rw [hB a j ha hj, if_pos rfl, Int.neg_mul]; omega
  ·exact (Sp.row A c ha).to fun j hj => by rw [hB a j ha hj, if_neg e]
 refine ⟨key (t := -t) (fun a j ha hj => ?_), key hB⟩
 by_cases e : a = i
 ·subst e
  rw [if_pos rfl, hB a j ha hj, if_pos rfl, hB k j hk hj, if_neg (Ne.symm hik), Int.neg_mul]; omega
 ·rw [if_neg e, hB a j ha hj, if_neg e]
def rowN (e : Nat → Nat → Int) (i : Nat) (f : Nat → Int) (n : Nat) : Nat → Nat → Int := fun a t => if a = i ∧ t < n then f t else e a t
theorem rowN_next (e : Nat → Nat → Int) (i : Nat) (f : Nat → Int) (n : Nat) : ∀ a t, upd2 (rowN e i f n) i n (f n) a t = rowN e i f (n + 1) a t := by
 intro a t
 unfold upd2 rowN upd
 by_cases h : a = i
 ·subst h
  by_cases h2 : t = n
  ·subst h2; simp
  ·by_cases h3 : t < n
   ·simp [h2, h3, show t < n + 1 from by omega]
   ·simp [h2, h3, show ¬ t < n + 1 from by omega]
 ·simp [h]
theorem rowN_zero (e : Nat → Nat → Int) (i : Nat) (f : Nat → Int) : ∀ a t, rowN e i f 0 a t = e a t := by intro a t; simp [rowN]
theorem rowN_here (e : Nat → Nat → Int) (i : Nat) (f : Nat → Int) (n : Nat) : rowN e i f n i n = e i n := by simp [rowN]
theorem rowN_other (e : Nat → Nat → Int) {i k : Nat} (f : Nat → Int) (n t : Nat) (h : k ≠ i) : rowN e i f n k t = e k t := by simp [rowN, h]
def BoxR (r c : Nat) (e : Nat → Nat → Int) (M : Int) : Prop := ∀ i j, i < r → j < c → -M ≤ e i j ∧ e i j ≤ M
def XS (w wr : World) (d : Nat) (out : Value) (r c : Nat) (rv : Nat → Value) (e : Nat → Nat → Int) : Prop := MX w.heap.size wr out r c rv e ∧ Di wr d ∧ w.grownBy wr (some d)
theorem XS.under {w wr wr' : World} {d : Nat} {out : Value} {r c : Nat} {rv : Nat → Value} {e : Nat → Nat → Int} (h : XS w wr d out r c rv e) (hd : d < w.heap.size) (hdi : Di wr' d) (hg : wr.grownBy wr' (some d)) : XS w wr' d out r c rv e :=
 ⟨h.1.grown hg hd, hdi, grown_trans h.2.2 hg⟩
theorem XS.store {w wr : World} {d : Nat} {out : Value} {r c : Nat} {rv : Nat → Value} {e : Nat → Nat → Int} (h : XS w wr d out r c rv e) (hd : d < w.heap.size) {i rg rcap : Nat} (hi : i < r) (hrv : rv i = .slice (some ⟨rg, 0, none⟩) c rcap) (j : Nat) (z : Int) : XS w (wr.setCell ⟨rg, j, none⟩ (.int .i64 z)) d out r c rv (upd2 e i j z) := by
 have hrg : w.heap.size ≤ rg := (World.ownsRow.lt (h.1.rows i hi) rg (by rw [hrv]; rfl)).1
 exact ⟨h.1.store hi hrv j z, h.2.1.store (by omega) _, grown_store h.2.2 hrg⟩
theorem XS.drew {w wr : World} {d : Nat} {out : Value} {r c : Nat} {rv : Nat → Value} {e : Nat → Nat → Int} (h : XS w wr d out r c rv e) : XS w wr.drew d out r c rv e := ⟨⟨h.1.out, h.1.rows, h.1.dst⟩, h.2.1, ⟨h.2.2.os, h.2.2.tape, h.2.2.output, h.2.2.size, h.2.2.block⟩⟩
theorem XS.same {w wr : World} {d : Nat} {out : Value} {r c : Nat} {rv : Nat → Value} {e e' : Nat → Nat → Int} (h : XS w wr d out r c rv e) (he : ∀ i j, i < r → j < c → e i j = e' i j) : XS w wr d out r c rv e' := ⟨h.1.same he, h.2⟩
theorem pow3 {k : Nat} (hk : k ≤ 5) : (36 : Int) * 3 ^ (5 - k) ≤ 8748 ∧ 0 ≤ (36 : Int) * 3 ^ (5 - k) := by
 obtain rfl | rfl | rfl | rfl | rfl | rfl : k = 0 ∨ k = 1 ∨ k = 2 ∨ k = 3 ∨ k = 4 ∨ k = 5 := by omega
 all_goals decide
theorem pow3_next {k : Nat} (hk : 0 < k) (hk5 : k ≤ 5) : (36 : Int) * 3 ^ (5 - (k - 1)) = 3 * (36 * 3 ^ (5 - k)) := by
 obtain rfl | rfl | rfl | rfl | rfl : k = 1 ∨ k = 2 ∨ k = 3 ∨ k = 4 ∨ k = 5 := by omega
 all_goals decide
theorem mul_small {q z M : Int} (h1 : -2 ≤ q) (h2 : q ≤ 2) (h3 : -M ≤ z) (h4 : z ≤ M) (hM : 0 ≤ M) : -(2 * M) ≤ q * z ∧ q * z ≤ 2 * M := by
 obtain rfl | rfl | rfl | rfl | rfl : q = -2 ∨ q = -1 ∨ q = 0 ∨ q = 1 ∨ q = 2 := by omega
 all_goals omega
set_option maxRecDepth 100000 in
set_option maxHeartbeats 8000000 in
theorem mixed_any (d r c BM : Nat) (v : Value) (gs : Nat → Nat) (e : Nat → Nat → Int) (w : World) (h : Di w d) (hm : Mat BM w v r c gs e) (hr : r ≤ 3) (hc : c ≤ 3) (ht : TinyR r c e) :
 Calls Tryz.prog 30 #[.pointer (some ⟨d, 0, none⟩), v, .int .i64 c] w fun x w' => ∃ v' e', x = .returned v' ∧ RdM w' v' r c e' ∧ SpEq e e' r r c ∧ SmallR r c e' ∧ Di w' d ∧ w.grownBy w' (some d) := by
 have hdl := h.lt
 obtain ⟨ao, cap, rfl, hcap, hcap2⟩ : ∃ ao cap, v = .slice ao r cap ∧ r ≤ cap ∧ cap ≤ 9223372036854775807 := by
  obtain ⟨ao, cap, h1, h2, h3, -⟩ := hm.rd (by omega)
  exact ⟨ao, cap, h1, h2, h3⟩
 have H := Hid.mk (And.intro h (And.intro hm ht))
 clear h hm ht
 go_enter Tryz.func30, Tryz.ntmps30
 go_wp2_with fail
 go_loopw [7, 8] (fun v i wr => ∃ (k : Nat) (rv : Nat → Value), k ≤ r ∧ i = .int .i64 k ∧ MX w.heap.size wr v k c rv e ∧ Below w.heap.size w wr) (fun _ i _ => r - (intOf i).toNat)
 case atStart => exact ⟨0, fun _ => .slice none 0 0, Nat.zero_le _, rfl, ⟨World.ownsRow_nil _ _ _ _, fun i hi => by omega, fun i j hi => by omega⟩, Below.refl _ _⟩
 case round =>
  rename World => wr0
  obtain ⟨k, rv, hk, rfl, hx, hbel⟩ := hrel
  have hwr := hbel.size
  have K := Hid.mk (And.intro hx hbel)
  by_cases hkr : k < r
  ·obtain ⟨g, rfl⟩ : ∃ g, ao = some ⟨g, 0, none⟩ := by
    rcases H.out.2.1.shape with ⟨h1, h0⟩ | ⟨g, cap', h1, -⟩
    ·omega
    ·injection h1 with h1 _ _
     exact ⟨g, h1⟩
   have hA := H.out.2.1.keep (KB.of_below hbel)
   have a0 := hA.cell k hkr
   have hrow := hA.2 k hkr
   generalize gs k = G at a0 hrow
   have HR := Hid.mk hrow
   clear hx hbel hA hrow
   go_wp2_with (at_builtin; refine append_copy _ rfl _ _ rfl w.heap.size rfl G c (e k) rfl HR.out (by omega) (by omega) ?_)
   intro l w2 hl hb2 hob
   obtain ⟨lo, lcap, rfl, -⟩ := own_form hl
   have K2 := Hid.mk (And.intro hl (And.intro hb2 hob))
   clear hl hb2 hob
   go_wp2_with (at_builtin; refine append_own _ rfl _ _ rfl w.heap.size _ k c rv e rfl ?_ ⟨_, 0, none⟩ rfl (.slice lo c lcap) (e k) ?_ rfl ?_ ?_ (by omega) ?_ ?_)
   ·exact (K.out.1.below K2.out.2.1).below ((Below.refl _ _).alloc (Nat.le_refl _) _)
   ·simp [Addr.add]
   ·exact own_below K2.out.1 ((Below.refl _ _).alloc (Nat.le_refl _) _)
   ·intro i hi
    rcases K2.out.2.2 with h1 | h1
    ·cases e1 : (rv i).ownBlock with
     | none => exact .inl rfl
     | some q => exact .inr (by rw [h1]; simp)
    ·cases e1 : (rv i).ownBlock with
     | none => exact .inl rfl
     | some q => exact .inr (by
        rw [h1]
        intro e2
        injection e2 with e2
        have := (World.ownsRow.lt (K.out.1.rows i hi) q e1).2
        omega)
   ·have := K2.out.2.1.size; simp; omega
   intro v' w5 hM5 hg5 hown
   have hb5 : Below w.heap.size w w5 := by
    have h1 := (K.out.2.trans (K2.out.2.1.mono hwr)).trans (((Below.refl _ _).alloc (Nat.le_refl _) (.cells #[.slice lo c lcap] 25)).mono (by have := K2.out.2.1.size; omega))
    exact h1.grown hg5 (by have := K2.out.2.1.size; simp; omega) hown
   have HF := Hid.mk (And.intro hM5 hb5)
   clear hM5 hg5 hown hb5
   go_wp2_with fail
   go_roundw
   case measure => simp [intOf]; omega
   case rel => exact ⟨k + 1, _, by omega, by go_num, HF.out.1.same (fun i j _ _ => by split <;> simp_all), HF.out.2⟩
  ·obtain rfl : k = r := by omega
   clear hx hbel
   obtain ⟨oo, ocap, rfl, hoc, hoc2, -⟩ := own_form K.out.1.out
   go_wp2_with fail
   refine (under_any d 6 _ (H.out.1.below K.out.2 hdl) (by omega) (by omega)).mono ?_
   rintro x w2 ⟨⟨u, rfl, hu⟩, hd2, hg2⟩
   have K2 : Hid (XS w w2 d (.slice oo k ocap) k c rv e) := Hid.mk ⟨K.out.1.grown hg2 hdl, hd2, grown_trans (grown_below (World.grownBy.refl _ _) K.out.2) hg2⟩
   clear hd2 hg2 K
   go_wp2_with fail
   go_loopw [11] (fun i wr => ∃ (q : Nat) (e' : Nat → Nat → Int), q ≤ 5 ∧ i = .int .i64 q ∧ XS w wr d (.slice oo k ocap) k c rv e' ∧ SpEq e e' k k c ∧ BoxR k c e' (36 * 3 ^ (5 - q))) (fun i _ => (intOf i).toNat)
   case atStart =>
    refine ⟨u, e, by omega, rfl, K2.out, SpEq.refl _ _ _, fun i j hi hj => ?_⟩
    have := H.out.2.2 i j hi hj
    have h3 : (36 : Int) ≤ 36 * 3 ^ (5 - u) := by
     obtain rfl | rfl | rfl | rfl | rfl | rfl : u = 0 ∨ u = 1 ∨ u = 2 ∨ u = 3 ∨ u = 4 ∨ u = 5 := by omega
     all_goals decide
    omega
   case round =>
    clear K2
    rename World => wr1
    obtain ⟨q, e', hq, rfl, hxs, hsp, hbx⟩ := hrel
    have K2 := Hid.mk (And.intro hxs (And.intro hsp hbx))
    clear hxs hsp hbx
    by_cases hgo : 0 < q ∧ 1 < k
    ·obtain ⟨hq0, hk1⟩ := hgo
     go_wp2_with fail
     refine (under_any d k _ K2.out.1.2.1 (by omega) (by omega)).mono ?_
     rintro x w3 ⟨⟨i, rfl, hi⟩, hd3, hg3⟩
     have K3 := Hid.mk (K2.out.1.under hdl hd3 hg3)
     clear hd3 hg3
     go_wp2_with fail
     refine (under_any d k _ K3.out.2.1 (by omega) (by omega)).mono ?_
     rintro x w4 ⟨⟨j, rfl, hj⟩, hd4, hg4⟩
     have K4 := Hid.mk (K3.out.under hdl hd4 hg4)
     clear hd4 hg4 K3
     go_wp2_with fail
     refine (under_any d 5 _ K4.out.2.1 (by omega) (by omega)).mono ?_
     rintro x w5 ⟨⟨t, rfl, htt⟩, hd5, hg5⟩
     have K5 := Hid.mk (K4.out.under hdl hd5 hg5)
     clear hd5 hg5 K4
     have hM := pow3 hq
     have hMn := pow3_next hq0 hq
     obtain ⟨M, hMd⟩ : ∃ M : Int, M = 36 * 3 ^ (5 - q) := ⟨_, rfl⟩
     rw [← hMd] at hM hMn
     obtain ⟨hM1, hM2⟩ := hM
     have HB : Hid (BoxR k c e' M) := Hid.mk (by rw [hMd]; exact K2.out.2.2)
     have HMN := Hid.mk (And.intro hMd hMn)
     clear hMd hMn
     by_cases hij : i = j
     ·subst hij
      have hb0 : ((i : Int) == (i : Int)) = true := by simp
      go_wp2_with fail
      go_loopw [15] (fun z ws => ∃ n : Nat, n ≤ c ∧ z = .int .i64 n ∧ XS w ws d (.slice oo k ocap) k c rv (rowN e' i (fun t => -e' i t) n)) (fun z _ => c - (intOf z).toNat)
      case atStart => exact ⟨0, Nat.zero_le _, rfl, K5.out.same (fun a t _ _ => (rowN_zero _ _ _ a t).symm)⟩
      case round =>
       clear K5
       rename World => ws
       obtain ⟨n, hn, rfl, hxs⟩ := hrel
       by_cases hnc : n < c
       ·obtain ⟨g, cp, rg, rcap, hv, -, hrv, hrc, a0, a1⟩ := hxs.1.cells hi (by omega)
        injection hv with hv hv1 hv2
        subst hv
        subst hv2
        obtain ⟨a2, f2⟩ := a1 n hnc
        rw [rowN_here] at a2
        have bz := HB.out i n hi hnc
        have hnx := (hxs.store hdl hi hrv n (-e' i n)).same (fun a t _ _ => rowN_next e' i (fun t => -e' i t) n a t)
        have HN := Hid.mk hnx
        generalize e' i n = z at a2 bz HN
        obtain ⟨b1, b2⟩ := bz
        clear hxs a1 hnx hrv
        go_wp2_with fail
        go_region
        all_goals go_wp2_with fail
        go_roundw
        case measure => simp [intOf]; omega
        case rel => exact ⟨n + 1, by omega, by go_num, HN.out.drew⟩
       ·obtain rfl : n = c := by omega
        have HX := Hid.mk hxs
        clear hxs
        go_wp2_with fail
        go_roundw
        case measure => simp [intOf]; omega
        case rel =>
         refine ⟨q - 1, _, by omega, by go_num, HX.out, K2.out.2.1.trans (SpEq.neg hi (fun a t ha ht => by unfold rowN; by_cases e0 : a = i <;> simp [e0, ht])), fun a t ha ht => ?_⟩
         have h1 := HB.out a t ha ht
         have h2 := HB.out i t hi ht
         rw [HMN.out.2]
         unfold rowN
         dsimp only
         split <;> omega
     ·have hb0 : ((i : Int) == (j : Int)) = false := by simp; omega
      go_wp2_with fail
      go_loopw [16] (fun z ws => ∃ n : Nat, n ≤ c ∧ z = .int .i64 n ∧ XS w ws d (.slice oo k ocap) k c rv (rowN e' i (fun s => e' i s + ((t : Int) - 2) * e' j s) n)) (fun z _ => c - (intOf z).toNat)
      case atStart => exact ⟨0, Nat.zero_le _, rfl, K5.out.same (fun a t _ _ => (rowN_zero _ _ _ a t).symm)⟩
      case round =>
       clear K5
       rename World => ws
       obtain ⟨n, hn, rfl, hxs⟩ := hrel
       by_cases hnc : n < c
       ·obtain ⟨g, cp, rg, rcap, hv, -, hrv, hrc, a0, a1⟩ := hxs.1.cells hi (by omega)
        injection hv with hv hv1 hv2
        subst hv
        subst hv2
        obtain ⟨a2, f2⟩ := a1 n hnc
        rw [rowN_here] at a2
        obtain ⟨g', cp', rg', rcap', hv', -, hrv', hrc', c0, c1⟩ := hxs.1.cells hj (by omega)
        injection hv' with hv' _ hv3
        simp only [Option.some.injEq, Addr.mk.injEq, and_true] at hv'
        subst hv'
        subst hv3
        obtain ⟨c2, -⟩ := c1 n hnc
        rw [rowN_other _ _ _ _ (Ne.symm hij)] at c2
        have bz := HB.out i n hi hnc
        have by' := HB.out j n hj hnc
        have hnx := (hxs.store hdl hi hrv n (e' i n + ((t : Int) - 2) * e' j n)).same (fun a s _ _ => rowN_next e' i (fun s => e' i s + ((t : Int) - 2) * e' j s) n a s)
        have HN := Hid.mk hnx
        generalize e' i n = z at a2 bz HN
        generalize e' j n = y at c2 by' HN
        have bp := mul_small (q := (t : Int) - 2) (by omega) (by omega) by'.1 by'.2 hM2
        obtain ⟨b1, b2⟩ := bz
        obtain ⟨b3, b4⟩ := by'
        obtain ⟨b5, b6⟩ := bp
        clear hxs a1 c1 hnx hrv hrv'
        go_wp2_with fail
        go_region
        all_goals go_wp2_with fail
        go_roundw
        case measure => simp [intOf]; omega
        case rel => exact ⟨n + 1, by omega, by go_num, HN.out.drew⟩
       ·obtain rfl : n = c := by omega
        have HX := Hid.mk hxs
        clear hxs
        go_wp2_with fail
        go_roundw
        case measure => simp [intOf]; omega
        case rel =>
         refine ⟨q - 1, _, by omega, by go_num, HX.out, K2.out.2.1.trans (SpEq.add (t := (t : Int) - 2) hi hj hij (fun a s ha hs => by unfold rowN; by_cases e0 : a = i <;> simp [e0, hs])), fun a s ha hs => ?_⟩
         have h1 := HB.out a s ha hs
         have h2 := HB.out i s hi hs
         have h3 := HB.out j s hj hs
         have h4 := mul_small (q := (t : Int) - 2) (by omega) (by omega) h3.1 h3.2 hM2
         rw [HMN.out.2]
         unfold rowN
         dsimp only
         split <;> omega
    ·have fin : ∃ v' e2, Value.slice oo k ocap = v' ∧ RdM wr1 v' k c e2 ∧ SpEq e e2 k k c ∧ SmallR k c e2 ∧ Di wr1 d ∧ w.grownBy wr1 (some d) := by
      refine ⟨_, e', rfl, K2.out.1.1.rd, K2.out.2.1, fun i j hi hj => ?_, K2.out.1.2.1, K2.out.1.2.2⟩
      have h1 := K2.out.2.2 i j hi hj
      have h2 := pow3 hq
      omega
     have HF := Hid.mk fin
     clear fin
     by_cases hq0 : 0 < q
     ·have hk1 : ¬ 1 < k := by omega
      clear hgo
      go_wp2_with fail
      go_ret
      obtain ⟨v', e2, rfl, h1⟩ := HF.out
      exact ⟨_, e2, rfl, h1⟩
     ·obtain rfl : q = 0 := by omega
      clear hgo
      go_wp2_with fail
      go_ret
      obtain ⟨v', e2, rfl, h1⟩ := HF.out
      exact ⟨_, e2, rfl, h1⟩
end Go.Proofs.YtfjbijpagaipnaaGreatDoor
namespace Go.Proofs.YtfjbijpagaipnaaGreatDoor.R
open Go.RowKit
theorem signed_dvd {d : Int} (k : Nat) {x : Int} (h : d ∣ x) : d ∣ signed k x := by
 unfold signed
 split
 ·exact (Int.dvd_neg).2 h
 ·exact h
theorem sumF_dvd {d : Int} {f : Nat → Int} : ∀ n, (∀ k, k < n → d ∣ f k) → d ∣ sumF n f := by
 intro n
 induction n with
 | zero => intro _; exact Int.dvd_zero _
 | succ n ih => intro h; rw [sumF]; exact Int.dvd_add (ih fun k hk => h k (by omega)) (h n (by omega))
theorem chain_rows {X : Nat → Nat → Int} {r c : Nat} (hd : ∀ i j, i < r → j < c → i ≠ j → X i j = 0) (hv : ∀ i j, i ≤ j → j < r → j < c → X i i ∣ X j j) : ∀ (R : List Nat) (o : Nat) (C : List Nat), R.length = C.length → (∀ i, i < R.length → o + i ≤ R.getD i 0) → (∀ x ∈ R, x < r) → (∀ x ∈ C, x < c) → pr X o R.length ∣ mv (R.map X) C := by
 intro R
 induction R with
 | nil => intro o C _ _ _ _; exact Int.one_dvd _
 | cons x R ih =>
   intro o C hl ho hr hc
   rw [List.map_cons, mv, List.length_cons, pr]
   refine sumF_dvd _ fun k hk => signed_dvd k ?_
   refine Int.mul_dvd_mul ?_ (ih (o + 1) _ ?_ ?_ (fun y hy => hr y (by simp [hy])) (fun y hy => hc y (List.mem_of_mem_eraseIdx hy)))
   ·have hx := hr x (by simp)
    have h0 := ho 0 (by simp)
    have hck : C.getD k 0 < c := hc _ (by rw [List.getD, List.getElem?_eq_getElem hk]; exact List.getElem_mem _)
    by_cases e : x = C.getD k 0
    ·rw [← e]
     rw [← e] at hck
     exact hv o x (by simpa using h0) hx hck
    ·rw [hd x _ hx hck e]; exact Int.dvd_zero _
   ·rw [List.length_eraseIdx_of_lt hk]; simp at hl; omega
   ·intro i hi
    have := ho (i + 1) (by simp; omega)
    simp at this
    simp
    omega
theorem chosenL_ge : ∀ (m n : Nat) (R : List Nat), R ∈ chosenL m n → ∀ i, i < R.length → i ≤ R.getD i 0 := by
 intro m
 induction m with
 | zero =>
   intro n R hR i hi
   have := (chosenL_lt hR).1
   omega
 | succ m ih =>
   intro n R hR i hi
   have hlR := (chosenL_lt hR).1
   obtain ⟨Q, last, rfl, hQ, h1, h2⟩ := chosenL_last hR
   have hl := (chosenL_lt hQ).1
   by_cases e : i < Q.length
   ·have := ih last Q hQ i e
    rw [List.getD, List.getElem?_append_left e, ← List.getD]
    exact this
   ·obtain rfl : i = Q.length := by omega
    simp
    omega
theorem chain_div {X : Nat → Nat → Int} {r c m : Nat} (hd : ∀ i j, i < r → j < c → i ≠ j → X i j = 0) (hv : ∀ i j, i ≤ j → j < r → j < c → X i i ∣ X j j) (hm : m ≤ 4) (hr : m ≤ r) (hc : m ≤ c) : divF X r c m = (pr X 0 m).natAbs := by
 refine Nat.dvd_antisymm ?_ ?_
 ·have h1 := (div_dvd _ X r c m hm).1 (Nat.dvd_refl _)
  have h2 := chosenL_any hm h1 (R := List.range m) (C := List.range m) (by simp) (fun x hx => by have := List.mem_range.1 hx; omega) (by simp) (fun x hx => by have := List.mem_range.1 hx; omega)
  have h3 : mv ((List.range m).map X) (List.range m) = pr X 0 m := by
   rw [List.range_eq_range']
   exact mv_up m 0 (fun i j h1 h2 => hd i j (by omega) (by omega) (by omega))
  rw [h3] at h2
  exact Int.ofNat_dvd_left.1 h2
 ·rw [div_dvd _ X r c m hm]
  intro C hC R hR hRr
  have hCl := chosenL_lt hC
  have := rise_all (((pr X 0 m).natAbs : Nat) : Int) X C (by omega) m r [] (by simp [hCl.1]) (fun R' hR' => by
   have h1 := chosenL_lt hR'
   rw [List.append_nil]
   have h2 := chain_rows hd hv R' 0 C (by omega) (fun i hi => by have := chosenL_ge m r R' hR' i hi; omega) h1.2 hCl.2
   rw [h1.1] at h2
   exact Int.natAbs_dvd.2 h2) R (by omega) hRr
  simpa using this
theorem div_like {f g : Nat → Nat → Int} {r c m : Nat} (h : ∀ i j, i < r → j < c → f i j = g i j) (hm : m ≤ 4) : divF f r c m = divF g r c m :=
 div_same (fun i hi => (Sp.row g c hi).to fun j hj => h i j hi hj) (fun i hi => (Sp.row f c hi).to fun j hj => (h i j hi hj).symm) hm
theorem cols_div {r c m : Nat} {d1 vs ts d2 v2 t2 : List Int} (h : ColsTo r c d1 vs ts d2 v2 t2) (hm : m ≤ 4) : divF (ent c d2) r c m = divF (ent c d1) r c m := by
 obtain ⟨k, pc, E, U, W, -, hE, he⟩ := h.form
 rw [div_like he hm, div_tr E c r m hm, div_einv hE hm, div_tr (ent c d1) r c m hm]
theorem rows_div {r c m : Nat} {ds us ss d1 u1 s1 : List Int} (h : RowsTo r c ds us ss d1 u1 s1) (hm : m ≤ 4) : divF (ent c d1) r c m = divF (ent c ds) r c m := by
 obtain ⟨k, a, b, -, -, -, -, -, -, -, -, -, hE⟩ := h
 exact div_einv hE hm
theorem rnd_div {r c m : Nat} {x y : D5} (h : D5.rnd r c x y) (hm : m ≤ 4) : divF (ent c y.d) r c m = divF (ent c x.d) r c m := by
 obtain ⟨d1, h1, h2⟩ := h
 rw [cols_div h2 hm, rows_div h1 hm]
theorem mix_div {r c m : Nat} {x y : D5} (h : D5.mixd r c x y) (hm : m ≤ 4) : divF (ent c y.d) r c m = divF (ent c x.d) r c m := by
 obtain ⟨a, ho, ⟨-, -, -, h1, -⟩, -, -⟩ := h
 have ha : a + 1 < c := ho.2.1
 rw [← div_tr (ent c y.d) r c m hm, ← div_tr (ent c x.d) r c m hm]
 refine div_same (fun i hi => ?_) (fun i hi => ?_) hm
 ·by_cases e : i = a
  ·subst e
   have s1 := Sp.row (tr (ent c x.d)) r (show i < c by omega)
   have s2 := (Sp.row (tr (ent c x.d)) r ha).mul (-1)
   refine (s1.sub s2).to fun j hj => ?_
   show ent c y.d j i = ent c x.d j i - -1 * ent c x.d j (i + 1)
   rw [h1 j i hj hi, if_pos rfl]; omega
  ·refine (Sp.row (tr (ent c x.d)) r hi).to fun j hj => ?_
   show ent c y.d j i = ent c x.d j i
   rw [h1 j i hj hi, if_neg e]
 ·by_cases e : i = a
  ·subst e
   refine ((Sp.row (tr (ent c y.d)) r (show i < c by omega)).sub (Sp.row (tr (ent c y.d)) r ha)).to fun j hj => ?_
   show ent c x.d j i = ent c y.d j i - ent c y.d j (i + 1)
   rw [h1 j i hj hi, if_pos rfl, h1 j (i + 1) hj ha, if_neg (by omega)]; omega
  ·refine (Sp.row (tr (ent c y.d)) r hi).to fun j hj => ?_
   show ent c x.d j i = ent c y.d j i
   rw [h1 j i hj hi, if_neg e]
theorem run_div {r c m : Nat} {x y : D5} (h : D5.run r c x y) (hm : m ≤ 4) : divF (ent c y.d) r c m = divF (ent c x.d) r c m := by
  obtain ⟨n, h⟩ := h
  induction n generalizing x with
  | zero => exact h.elim
  | succ n ih =>
    obtain ⟨u, a, h⟩ := h
    rcases h with ⟨_, _, rfl⟩ | ⟨_, g⟩ | ⟨_, v, b, g⟩
    · exact rnd_div a hm
    · rw [ih g, rnd_div a hm]
    · rw [ih g, mix_div b hm, rnd_div a hm]
theorem rankIs_uniq {f g : Nat → Nat → Int} {r r' c k k' : Nat} (hd : ∀ m, m ≤ 4 → divF f r c m = divF g r' c m) (hc : c ≤ 4) (h : RankIs f r c k) (h' : RankIs g r' c k') : k = k' := by
 have key : ∀ {f g : Nat → Nat → Int} {r r' k k' : Nat}, (∀ m, m ≤ 4 → divF f r c m = divF g r' c m) → RankIs f r c k → RankIs g r' c k' → k ≤ k' := by
  intro f g r r' k k' hd h h'
  apply Classical.byContradiction
  intro hn
  have h1 := h.2.1
  have h3 := h.2.2.1 k' (by omega)
  rw [hd (k' + 1) (by omega)] at h3
  rcases h'.2.2.2 with e | e | e
  ·exact h3 (div_few g (by omega))
  ·omega
  ·exact h3 e
 have a := key hd h h'
 have b := key (fun m hm => (hd m hm).symm) h' h
 omega
theorem diag_uniq {r c : Nat} {zs ys : List Int} {x y : D5} (hx : DgIs r c zs x) (hy : DgIs r c ys y) (lx : x.d.length = r * c) (ly : y.d.length = r * c) (hc : c ≤ 4) (hd : ∀ m, m ≤ 4 → divF (ent c zs) r c m = divF (ent c ys) r c m) : x.d = y.d := by
 obtain ⟨k, lk⟩ := hx.low
 obtain ⟨k', lk'⟩ := hy.low
 obtain rfl := rankIs_uniq hd hc lk.rk lk'.rk
 have chain : ∀ {zs : List Int} {x : D5}, DgIs r c zs x → ∀ n i j, j = i + n → j < r → j < c → ent c x.d i i ∣ ent c x.d j j := by
  intro zs x hx n
  induction n with
  | zero => intro i j e _ _; rw [e]; exact Int.dvd_refl _
  | succ n ih =>
    intro i j e hr hc
    subst e
    exact Int.dvd_trans (ih i (i + n) rfl (by omega) (by omega)) (hx.div (i + n) (by omega) (by omega))
 have e1 : ∀ m, m ≤ k → pr (ent c x.d) 0 m = pr (ent c y.d) 0 m := by
  intro m hm
  have h4 := lk.k4
  have hkr := lk.low.kr
  have hkc := lk.low.kc
  have a := chain_div (m := m) hx.diag (fun i j hij hr hc => chain hx (j - i) i j (by omega) hr hc) (by omega) (by omega) (by omega)
  have b := chain_div (m := m) hy.diag (fun i j hij hr hc => chain hy (j - i) i j (by omega) hr hc) (by omega) (by omega) (by omega)
  have a' : divF (ent c x.d) r c m = divF (ent c zs) r c m := run_div hx.run (by omega)
  have b' : divF (ent c y.d) r c m = divF (ent c ys) r c m := run_div hy.run (by omega)
  have p1 := lk.low.pr_pos hm
  have p2 := lk'.low.pr_pos hm
  have := hd m (by omega)
  omega
 have e2 := diag_eq e1 (fun m hm => lk.low.pr_pos hm)
 refine list_ent lx ly fun i j hi hj => ?_
 by_cases e : i = j
 ·subst e
  by_cases hk : i < k
  ·exact e2 i hk
  ·rw [lk.low.out i i hi hj (.inl (by omega)), lk'.low.out i i hi hj (.inl (by omega))]
 ·rw [hx.diag i j hi hj e, hy.diag i j hi hj e]
end Go.Proofs.YtfjbijpagaipnaaGreatDoor.R
