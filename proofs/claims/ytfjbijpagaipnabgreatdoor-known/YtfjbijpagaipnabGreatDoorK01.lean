import Derived.Test.YtfjbijpagaipnabGreatDoorRows
import Derived.WalkKit
import Derived.WalkSpells
import Derived.WalkLawsBesides
import Derived.Handy
import Derived.Deep.QuietTactic
import Derived.BigQuiet
namespace Go.Proofs.YtfjbijpagaipnabGreatDoor
def val : List Nat → Nat
 | [] => 0
 | x :: r => x + 4294967296 * val r
def Lo (xs : List Nat) : Prop := ∀ x ∈ xs, x < 4294967296
def Lim (xs : List Nat) : Prop := Lo xs ∧ (xs = [] ∨ 0 < xs.getD (xs.length - 1) 0)
theorem val_nil : val [] = 0 := rfl
theorem val_cons (x : Nat) (r : List Nat) : val (x :: r) = x + 4294967296 * val r := rfl
theorem val_append (xs ys : List Nat) : val (xs ++ ys) = val xs + 4294967296 ^ xs.length * val ys := by
 induction xs with
 | nil => simp [val]
 | cons x r ih =>
   simp only [List.cons_append, val_cons, ih, List.length_cons, Nat.pow_succ, Nat.mul_add]
   rw [Nat.mul_comm (4294967296 ^ r.length) 4294967296, Nat.mul_assoc]
   omega
theorem Lo_nil : Lo [] := by intro x hx; cases hx
theorem Lo_cons {x : Nat} {r : List Nat} (h : x < 4294967296) (hr : Lo r) : Lo (x :: r) := by
 intro y hy
 rcases List.mem_cons.1 hy with rfl | hy
 ·exact h
 ·exact hr y hy
theorem Lo_append {a b : List Nat} (ha : Lo a) (hb : Lo b) : Lo (a ++ b) := by
 intro y hy
 rcases List.mem_append.1 hy with hy | hy
 ·exact ha y hy
 ·exact hb y hy
theorem Lo_take {xs : List Nat} (h : Lo xs) (k : Nat) : Lo (xs.take k) := fun x hx => h x (List.mem_of_mem_take hx)
theorem Lo_get {xs : List Nat} (h : Lo xs) (k : Nat) : xs.getD k 0 < 4294967296 := by
 by_cases hk : k < xs.length
 ·simp only [List.getD, List.getElem?_eq_getElem hk, Option.getD_some]; exact h _ (List.getElem_mem hk)
 ·simp [List.getD, List.getElem?_eq_none (by omega : xs.length ≤ k)]
theorem val_lt {xs : List Nat} (h : Lo xs) : val xs < 4294967296 ^ xs.length := by
 induction xs with
 | nil => simp [val]
 | cons x r ih =>
   have h1 : x < 4294967296 := h x (by simp)
   have h2 := ih (fun y hy => h y (by simp [hy]))
   simp only [val_cons, List.length_cons, Nat.pow_succ]
   omega
theorem val_zeros {xs : List Nat} (h : ∀ x ∈ xs, x = 0) : val xs = 0 := by
 induction xs with
 | nil => rfl
 | cons x r ih =>
   have h1 := h x (by simp)
   have h2 := ih (fun y hy => h y (by simp [hy]))
   simp [val_cons, h1, h2]
theorem val_take_drop (xs : List Nat) (k : Nat) (hk : k ≤ xs.length) : val xs = val (xs.take k) + 4294967296 ^ k * val (xs.drop k) := by
 have := val_append (xs.take k) (xs.drop k)
 rw [List.take_append_drop, List.length_take, Nat.min_eq_left hk] at this
 exact this
theorem take_succ_getD (xs : List Nat) (k : Nat) (hk : k < xs.length) : xs.take (k + 1) = xs.take k ++ [xs.getD k 0] := by
 rw [List.take_succ_eq_append_getElem hk]; simp [List.getD, List.getElem?_eq_getElem hk]
theorem val_take_succ (xs : List Nat) (k : Nat) (hk : k < xs.length) : val (xs.take (k + 1)) = val (xs.take k) + 4294967296 ^ k * xs.getD k 0 := by
 rw [take_succ_getD xs k hk, val_append, List.length_take, Nat.min_eq_left (by omega)]; simp [val]
theorem drop_getD (xs : List Nat) (k : Nat) (hk : k < xs.length) : xs.drop k = xs.getD k 0 :: xs.drop (k + 1) := by
 rw [List.drop_eq_getElem_cons hk]; simp [List.getD, List.getElem?_eq_getElem hk]
theorem trim_spec {xs : List Nat} (lo : Lo xs) (k : Nat) (hk : k ≤ xs.length) (hz : ∀ x ∈ xs.drop k, x = 0) (hn : k = 0 ∨ 0 < xs.getD (k - 1) 0) :
 Lim (xs.take k) ∧ val (xs.take k) = val xs ∧ (xs.take k).length = k := by
 have hl : (xs.take k).length = k := by rw [List.length_take, Nat.min_eq_left hk]
 refine ⟨⟨Lo_take lo k, ?_⟩, ?_, hl⟩
 ·rcases hn with rfl | hn
  ·exact .inl (by simp)
  ·by_cases h0 : k = 0
   ·subst h0; exact .inl (by simp)
   ·refine .inr ?_
    rw [hl]
    simpa [List.getD, List.getElem?_take, show k - 1 < k from by omega] using hn
 ·rw [val_take_drop xs k hk, val_zeros hz]; simp
theorem Lim_zero {xs : List Nat} (h : Lim xs) : val xs = 0 ↔ xs = [] := by
 constructor
 ·intro hv
  rcases h.2 with h | h
  ·exact h
  ·exfalso
   have hl : 0 < xs.length := by
    cases xs with
    | nil => simp at h
    | cons x r => simp
   have := val_take_drop xs (xs.length - 1) (by omega)
   rw [drop_getD xs (xs.length - 1) (by omega), val_cons] at this
   have hp : 0 < 4294967296 ^ (xs.length - 1) := Nat.pow_pos (by decide)
   have : 4294967296 ^ (xs.length - 1) * (xs.getD (xs.length - 1) 0 + 4294967296 * val (xs.drop (xs.length - 1 + 1))) = 0 := by omega
   rcases Nat.mul_eq_zero.1 this with h1 | h1 <;> omega
 ·rintro rfl; rfl
theorem Lim_ge {xs : List Nat} (h : Lim xs) (hne : xs ≠ []) : 4294967296 ^ (xs.length - 1) ≤ val xs := by
 have h1 : 0 < xs.getD (xs.length - 1) 0 := h.2.resolve_left hne
 have hl : 0 < xs.length := List.length_pos_iff.2 hne
 have := val_take_drop xs (xs.length - 1) (by omega)
 rw [drop_getD xs (xs.length - 1) (by omega), val_cons] at this
 rw [this]
 have : 4294967296 ^ (xs.length - 1) * 1 ≤ 4294967296 ^ (xs.length - 1) * (xs.getD (xs.length - 1) 0 + 4294967296 * val (xs.drop (xs.length - 1 + 1))) := Nat.mul_le_mul_left _ (by omega)
 omega
theorem val_lt_of_length {a b : List Nat} (la : Lo a) (lb : Lim b) (h : a.length < b.length) : val a < val b := by
 have h1 := val_lt la
 have h2 := Lim_ge lb (by rintro rfl; simp at h)
 have h3 : 4294967296 ^ a.length ≤ 4294967296 ^ (b.length - 1) := Nat.pow_le_pow_right (by decide) (by omega)
 omega
theorem val_cmp {a b : List Nat} (la : Lo a) (hl : a.length = b.length) (k : Nat) (hk : k < a.length) (he : a.drop (k + 1) = b.drop (k + 1)) (h : a.getD k 0 < b.getD k 0) : val a < val b := by
 have ha := val_take_drop a k (by omega)
 have hb := val_take_drop b k (by omega)
 rw [drop_getD a k hk, val_cons] at ha
 rw [drop_getD b k (by omega), val_cons] at hb
 have h1 := val_lt (Lo_take la k)
 rw [List.length_take, Nat.min_eq_left (by omega)] at h1
 rw [he] at ha
 generalize val (b.drop (k + 1)) = R at *
 have h2 : 4294967296 ^ k * (a.getD k 0 + 1 + 4294967296 * R) ≤ 4294967296 ^ k * (b.getD k 0 + 4294967296 * R) := Nat.mul_le_mul_left _ (by omega)
 have h3 : 4294967296 ^ k * (a.getD k 0 + 1 + 4294967296 * R) = 4294967296 ^ k * (a.getD k 0 + 4294967296 * R) + 4294967296 ^ k := by
  rw [show a.getD k 0 + 1 + 4294967296 * R = (a.getD k 0 + 4294967296 * R) + 1 from by omega, Nat.mul_add, Nat.mul_one]
 omega
theorem getD_past (xs : List Nat) (k : Nat) (h : xs.length ≤ k) : xs.getD k 0 = 0 := by simp [List.getD, List.getElem?_eq_none h]
theorem val_take_next (xs : List Nat) (k : Nat) : val (xs.take (k + 1)) = val (xs.take k) + 4294967296 ^ k * xs.getD k 0 := by
 by_cases hk : k < xs.length
 ·exact val_take_succ xs k hk
 ·rw [getD_past xs k (by omega), List.take_of_length_le (by omega), List.take_of_length_le (by omega)]; simp
theorem val_take_set (zs : List Nat) (k c : Nat) (hk : k < zs.length) : val ((zs.set k c).take (k + 1)) = val (zs.take k) + 4294967296 ^ k * c := by
 rw [val_take_next, List.take_set_of_le (Nat.le_refl k)]
 simp [List.getD, hk]
theorem Lo_set {zs : List Nat} (h : Lo zs) (k c : Nat) (hc : c < 4294967296) : Lo (zs.set k c) := by
 intro x hx
 rcases List.mem_or_eq_of_mem_set hx with h1 | h1
 ·exact h x h1
 ·omega
theorem Lo_zeros (n : Nat) : Lo (List.replicate n 0) := by
 intro x hx
 rw [List.eq_of_mem_replicate hx]; decide
theorem add_round {P Z X Y c x y : Nat} (h : Z + P * c = X + Y) : Z + P * ((c + (x + y)) % 4294967296) + P * 4294967296 * ((c + (x + y)) / 4294967296) = X + P * x + (Y + P * y) := by
 have h1 : P * ((c + (x + y)) % 4294967296) + P * 4294967296 * ((c + (x + y)) / 4294967296) = P * (c + (x + y)) := by
  rw [Nat.mul_assoc, ← Nat.mul_add, Nat.mod_add_div]
 rw [Nat.mul_add, Nat.mul_add] at h1
 omega
theorem add_end {xs ys zs : List Nat} {c n : Nat} (lx : Lo xs) (ly : Lo ys) (hx : xs.length < n) (hy : ys.length < n) (h : val zs + 4294967296 ^ n * c = val xs + val ys) : val zs = val xs + val ys := by
 have h1 := val_lt lx
 have h2 := val_lt ly
 have h3 : 4294967296 ^ xs.length ≤ 4294967296 ^ (n - 1) := Nat.pow_le_pow_right (by decide) (by omega)
 have h4 : 4294967296 ^ ys.length ≤ 4294967296 ^ (n - 1) := Nat.pow_le_pow_right (by decide) (by omega)
 have h5 : 4294967296 ^ n = 4294967296 ^ (n - 1) * 4294967296 := by rw [← Nat.pow_succ]; congr 1; omega
 rcases Nat.eq_zero_or_pos c with rfl | hc
 ·omega
 ·have : 4294967296 ^ n * 1 ≤ 4294967296 ^ n * c := Nat.mul_le_mul_left _ hc
  omega
theorem sub_round {P Z X Y b x y : Nat} (h : Z + Y = X + P * b) (hx : x < 4294967296) (hy : y < 4294967296) (hb : b ≤ 1) :
 Z + P * (if x < y + b then x + 4294967296 - (y + b) else x - (y + b)) + (Y + P * y) = X + P * x + P * 4294967296 * (if x < y + b then 1 else 0) := by
 split
 ·have : P * (x + 4294967296 - (y + b)) + P * y + P * b = P * x + P * 4294967296 := by
   rw [← Nat.mul_add, ← Nat.mul_add, ← Nat.mul_add]; congr 1; omega
  omega
 ·have : P * (x - (y + b)) + P * y + P * b = P * x := by
   rw [← Nat.mul_add, ← Nat.mul_add]; congr 1; omega
  omega
theorem sub_end {xs ys zs : List Nat} {b n : Nat} (lz : Lo zs) (hz : zs.length = n) (hle : val ys ≤ val xs) (h : val zs + val ys = val xs + 4294967296 ^ n * b) : val zs = val xs - val ys := by
 have h1 := val_lt lz
 rw [hz] at h1
 rcases Nat.eq_zero_or_pos b with rfl | hb
 ·omega
 ·have : 4294967296 ^ n * 1 ≤ 4294967296 ^ n * b := Nat.mul_le_mul_left _ hb
  omega
theorem val_set (zs : List Nat) (k c : Nat) (hk : k < zs.length) : val (zs.set k c) + 4294967296 ^ k * zs.getD k 0 = val zs + 4294967296 ^ k * c := by
 have h1 := val_take_drop zs k (by omega)
 have h2 := val_take_drop (zs.set k c) k (by simp; omega)
 rw [drop_getD zs k hk, val_cons] at h1
 rw [drop_getD (zs.set k c) k (by simpa using hk), val_cons, List.take_set_of_le (Nat.le_refl k), List.drop_set_of_lt (by omega)] at h2
 rw [show (zs.set k c).getD k 0 = c from by simp [List.getD, hk]] at h2
 rw [h1, h2, Nat.mul_add, Nat.mul_add]
 omega
theorem getD_set_ne (zs : List Nat) (k c j : Nat) (h : k ≠ j) : (zs.set k c).getD j 0 = zs.getD j 0 := by simp [List.getD, List.getElem?_set_ne h]
theorem mul_step {zs : List Nat} {i j c x y V Y : Nat} (hk : i + j < zs.length) (h : val zs + 4294967296 ^ (i + j) * c = V + 4294967296 ^ i * (x * Y)) :
 val (zs.set (i + j) ((c + (x * y + zs.getD (i + j) 0)) % 4294967296)) + 4294967296 ^ (i + (j + 1)) * ((c + (x * y + zs.getD (i + j) 0)) / 4294967296) = V + 4294967296 ^ i * (x * (Y + 4294967296 ^ j * y)) := by
 have h1 := val_set zs (i + j) ((c + (x * y + zs.getD (i + j) 0)) % 4294967296) hk
 generalize zs.getD (i + j) 0 = z at *
 have h2 : 4294967296 ^ (i + j) * ((c + (x * y + z)) % 4294967296) + 4294967296 ^ (i + (j + 1)) * ((c + (x * y + z)) / 4294967296) = 4294967296 ^ (i + j) * (c + (x * y + z)) := by
  rw [show i + (j + 1) = (i + j) + 1 from rfl, Nat.pow_succ, Nat.mul_assoc, ← Nat.mul_add, Nat.mod_add_div]
 have h3 : 4294967296 ^ i * (x * (Y + 4294967296 ^ j * y)) = 4294967296 ^ i * (x * Y) + 4294967296 ^ (i + j) * (x * y) := by
  rw [Nat.mul_add, Nat.mul_add, Nat.pow_add]
  congr 1
  rw [Nat.mul_left_comm x, Nat.mul_assoc]
 rw [Nat.mul_add, Nat.mul_add] at h2
 omega
theorem mul_done {zs xs ys : List Nat} {i c : Nat} (hk : i + ys.length < zs.length) (h0 : zs.getD (i + ys.length) 0 = 0)
 (h : val zs + 4294967296 ^ (i + ys.length) * c = val (xs.take i) * val ys + 4294967296 ^ i * (xs.getD i 0 * val ys)) :
 val (zs.set (i + ys.length) c) = val (xs.take (i + 1)) * val ys := by
 have h1 := val_set zs (i + ys.length) c hk
 rw [h0] at h1
 rw [val_take_next, Nat.add_mul, Nat.mul_assoc]
 omega
open Go.RowKit
def lcells (xs : List Nat) : List Value := xs.map fun (x : Nat) => Value.int .u32 (x : Int)
def Own (w : World) (v : Value) (xs : List Nat) : Prop := w.ownsRow 0 144 1 v xs.length (lcells xs)
theorem Own.nil (w : World) : Own w (.slice none 0 0) [] := World.ownsRow_nil _ _ _ _
theorem Own.below {w w' : World} {v : Value} {xs : List Nat} (h : Own w v xs) (hb : Below w.heap.size w w') : Own w' v xs := by
 refine ⟨h.1, ?_⟩
 rcases h.2 with h2 | ⟨g, cap, cur, hv, hg, hh, r⟩
 ·exact .inl h2
 ·exact .inr ⟨g, cap, cur, hv, hg, by rw [hb.block g (Array.getElem?_eq_some_iff.1 hh).1]; exact hh, r⟩
theorem lcells_get (xs : List Nat) (i : Nat) (h : i < xs.length) : (lcells xs)[i]? = some (.int .u32 (xs.getD i 0 : Nat)) := by
 simp [lcells, List.getD, List.getElem?_eq_getElem h]
theorem Own.open_ {w : World} {v : Value} {xs : List Nat} (h : Own w v xs) : ∃ ao cap, v = .slice ao xs.length cap ∧ xs.length ≤ cap ∧ cap ≤ 9223372036854775807 ∧
 (∀ i, i < xs.length → ∃ b, ao = some ⟨b, 0, none⟩ ∧ w.cell? ⟨b, i, none⟩ = some (.int .u32 (xs.getD i 0 : Nat))) ∧ (ao = none → xs = [] ∧ cap = 0) ∧ (∀ b, ao = some b → ∃ g, b = ⟨g, 0, none⟩) := by
 rcases h.2 with ⟨rfl, hn⟩ | ⟨g, cap, cur, rfl, hg, hh, h1, h2, h3, h4⟩
 ·have : xs = [] := List.eq_nil_of_length_eq_zero hn
  subst this
  exact ⟨none, 0, rfl, by simp, by simp, by simp, by simp, by simp⟩
 ·refine ⟨some ⟨g, 0, none⟩, cap, rfl, h1, by simpa [maxLen] using h2, fun i hi => ⟨g, rfl, ?_⟩, by simp, by simp⟩
  have h5 := lcells_get xs i hi
  rw [← h4, Nat.mul_one, List.getElem?_take, if_pos hi] at h5
  simp only [World.cell?, hh]
  simpa using h5
theorem Own.cut {w : World} {ao : Option Addr} {cap : Nat} {xs : List Nat} (h : Own w (.slice ao xs.length cap) xs) (k : Nat) (hk : k ≤ xs.length) : Own w (.slice ao k cap) (xs.take k) := by
 have hl : (xs.take k).length = k := by rw [List.length_take, Nat.min_eq_left hk]
 unfold Own World.ownsRow
 rw [hl]
 refine ⟨by simp [lcells, Nat.min_eq_left hk], ?_⟩
 rcases h.2 with ⟨hv, hn⟩ | ⟨g, cap', cur, hv, hg, hh, h1, h2, h3, h4⟩
 ·simp only [Value.slice.injEq] at hv
  obtain ⟨rfl, hl0, rfl⟩ := hv
  exact .inl ⟨by rw [show k = 0 from by omega], by omega⟩
 ·simp only [Value.slice.injEq] at hv
  obtain ⟨rfl, _, rfl⟩ := hv
  refine .inr ⟨g, cap, cur, rfl, hg, hh, by omega, h2, h3, ?_⟩
  rw [Nat.mul_one] at h4 ⊢
  have : List.take k (lcells xs) = lcells (xs.take k) := by simp [lcells, List.map_take]
  rw [← this, ← h4, List.take_take, Nat.min_eq_left hk]
theorem bcell {W w1 : World} (hb : Below W.heap.size W w1) : (∀ b o, b < W.heap.size → w1.cell? ⟨b, o, none⟩ = W.cell? ⟨b, o, none⟩) ∧ (∀ b o, b < W.heap.size → w1.frozen? ⟨b, o, none⟩ = W.frozen? ⟨b, o, none⟩) :=
 ⟨fun b o h => hb.cell (p := ⟨b, o, none⟩) h, fun b o h => hb.frozen (p := ⟨b, o, none⟩) h⟩
theorem lcells_set (zs : List Nat) (k c : Nat) : (lcells zs).set k (.int .u32 (c : Nat)) = lcells (zs.set k c) := by simp [lcells, List.map_set]
theorem Own.stored {w : World} {g n cap : Nat} {zs : List Nat} (h : Own w (.slice (some ⟨g, 0, none⟩) n cap) zs) (hn : zs.length = n) (k c : Nat) :
 Own (w.setCell ⟨g, k, none⟩ (.int .u32 (c : Nat))) (.slice (some ⟨g, 0, none⟩) n cap) (zs.set k c) := by
 subst hn
 have := (World.ownsRow.stored (w := w) h k (.int .u32 (c : Nat))).1
 rw [lcells_set] at this
 unfold Own
 rw [List.length_set]
 exact this
theorem Own.stored_int {w : World} {g n cap : Nat} {zs : List Nat} (h : Own w (.slice (some ⟨g, 0, none⟩) n cap) zs) (hn : zs.length = n) (k c : Nat) {z : Int} (hz : z = (c : Int)) :
 Own (w.setCell ⟨g, k, none⟩ (.int .u32 z)) (.slice (some ⟨g, 0, none⟩) n cap) (zs.set k c) := by rw [hz]; exact h.stored hn k c
theorem Own.cell {w : World} {g n cap : Nat} {zs : List Nat} (h : Own w (.slice (some ⟨g, 0, none⟩) n cap) zs) (hn : zs.length = n) (k : Nat) (hk : k < n) :
 w.cell? ⟨g, k, none⟩ = some (.int .u32 (zs.getD k 0 : Nat)) := by
 subst hn
 rw [World.ownsRow.cellAt h k (by omega), lcells_get zs k hk]
theorem Own.frozen {w : World} {g n cap : Nat} {zs : List Nat} (h : Own w (.slice (some ⟨g, 0, none⟩) n cap) zs) (hn : zs.length = n) (k : Nat) : w.frozen? ⟨g, k, none⟩ = false := by
 subst hn
 exact World.ownsRow.frozenAt h k
theorem Own.lt {w : World} {g n cap : Nat} {zs : List Nat} (h : Own w (.slice (some ⟨g, 0, none⟩) n cap) zs) : g < w.heap.size := (World.ownsRow.lt h g rfl).2
theorem Tryz.info144 : (Tryz.prog.info? 144).map (fun i => (i.zero, i.size, i.bytes)) = some (some (.int .u32 0), 1, 4) := by kernel_rfl
theorem make_limbs (w : World) {ops : Array Oper} {rest : List Oper} {o : Oper} {a : Act} {Q : Exit → Act → World → Prop}
 (hg : o.guard = none) (l c : Operand) (hop : o.op = Op.makeSlice 77 l c) (L C : Int) (n : Nat) (hl : a.eval l = .int .i64 L) (hc : a.eval c = .int .i64 C) (hL : L = (n : Int)) (hC : C = (n : Int)) (b : n ≤ 4294967296)
 (hK : ∀ w', Own w' (.slice (some ⟨w.heap.size, 0, none⟩) n n) (List.replicate n 0) → Below w.heap.size w w' → wpList Tryz.prog ops Q rest (a.put o.dst (.slice (some ⟨w.heap.size, 0, none⟩) n n)) w') :
 wpList Tryz.prog ops Q (o :: rest) a w := by
 obtain ⟨i, hi, hz0, hz1, hz2⟩ := info_parts Tryz.info144
 refine wpList_make_full w hg l c 77 hop 0 144 i (.int .u32 0) 1 Tryz.underlying77 hi hz0 hz1 .i64 .i64 L C n hl hc hL hC (by rw [hz2]; omega) (by unfold maxLen; omega) (Nat.zero_le _) ?_
 intro w' hown hgrow
 refine hK w' ?_ ((Below.refl _ _).grown hgrow (Nat.le_refl _) (by simp))
 unfold Own
 rw [List.length_replicate]
 rw [show (Value.int IntKind.u32 0).cells = #[.int .u32 0] from rfl, toList_madeCells_one, Nat.mul_one] at hown
 simpa [lcells] using hown
def Ty (w : World) (b : Nat) (t : TypeId) : Prop := ∃ c fr, w.heap[b]? = some (.cells c t fr)
theorem Ty.lt {w : World} {b : Nat} {t : TypeId} (h : Ty w b t) : b < w.heap.size := by
 obtain ⟨c, fr, h⟩ := h
 exact (Array.getElem?_eq_some_iff.1 h).1
theorem Ty.below {w w' : World} {b B : Nat} {t : TypeId} (h : Ty w b t) (hb : Below B w w') (hB : b < B) : Ty w' b t := by
 obtain ⟨c, fr, h⟩ := h
 exact ⟨c, fr, by rw [hb.block b hB]; exact h⟩
theorem Ty.setCell {w : World} {b : Nat} {t : TypeId} (h : Ty w b t) (a : Addr) (u : Value) : Ty (w.setCell a u) b t := by
 obtain ⟨c, fr, h⟩ := h
 by_cases hb : b = a.block
 ·subst hb
  simp only [Ty, World.setCell, Array.getElem?_modify, h]
  simp
 ·exact ⟨c, fr, by rw [Below.heap_setCell _ _ _ _ hb]; exact h⟩
theorem Ty.alloc {w : World} {b : Nat} {t : TypeId} (h : Ty w b t) (o : Obj) : Ty (w.alloc o) b t := h.below ((Below.refl w.heap.size w).alloc (Nat.le_refl _) o) h.lt
theorem Ty.new (w : World) (c : Array Value) (t : TypeId) : Ty (w.alloc (.cells c t)) w.heap.size t := ⟨c, (0, 0), heap_alloc_new w _⟩
theorem Ty.at_ (w : World) (c : Array Value) (t : TypeId) {b : Nat} (h : b = w.heap.size) : Ty (w.alloc (.cells c t)) b t := by rw [h]; exact Ty.new w c t
theorem Ty.drew {w : World} {b : Nat} {t : TypeId} (h : Ty w b t) : Ty w.drew b t := h
def KU (w w' : World) : Prop := ∀ (b : Nat) (arr : Array Value), w.heap[b]? = some (.cells arr 144 (0, 0)) → w'.heap[b]? = some (.cells arr 144 (0, 0))
theorem KU.refl (w : World) : KU w w := fun _ _ h => h
theorem KU.trans {a b c : World} (h : KU a b) (k : KU b c) : KU a c := fun i arr hi => k i arr (h i arr hi)
theorem KU.of_below {w w' : World} (h : Below w.heap.size w w') : KU w w' := fun i arr hi => by rw [h.block i (Array.getElem?_eq_some_iff.1 hi).1]; exact hi
theorem KU.setCell {a w : World} (h : KU a w) {b o : Nat} {t : TypeId} (ht : Ty w b t) (hne : t ≠ 144) (u : Value) : KU a (w.setCell ⟨b, o, none⟩ u) := by
 intro i arr hi
 have h1 := h i arr hi
 obtain ⟨c, fr, h2⟩ := ht
 by_cases hb : i = b
 ·subst hb
  rw [h1] at h2
  simp only [Option.some.injEq, Obj.cells.injEq] at h2
  exact absurd h2.2.1.symm hne
 ·rw [Below.heap_setCell _ _ _ _ hb]; exact h1
theorem Own.keep {w w' : World} {v : Value} {xs : List Nat} (h : Own w v xs) (hk : KU w w') : Own w' v xs := by
 refine ⟨h.1, ?_⟩
 rcases h.2 with h2 | ⟨g, cap, cur, hv, hg, hh, r⟩
 ·exact .inl h2
 ·exact .inr ⟨g, cap, cur, hv, hg, hk g cur hh, r⟩
theorem Hid.mk {p : Prop} (h : p) : Hid p := h
theorem ret_int {k : IntKind} {a b : Int} (h : a = b) : Ending.returned (.int k a) = .returned (.int k b) := by rw [h]
open Go.RowKit
def TrimOut (w : World) (xs : List Nat) (v : Value) : Prop := ∃ ys, Lim ys ∧ val ys = val xs ∧ ys.length ≤ xs.length ∧ Own w v ys
def FrB (B : Nat) (v : Value) : Prop := ∀ a n c, v = .slice (some a) n c → B ≤ a.block
theorem FrB.same {B : Nat} {ao : Option Addr} {n m c : Nat} (h : FrB B (.slice ao n c)) : FrB B (.slice ao m c) := by
 intro a n' c' e
 simp only [Value.slice.injEq] at e
 obtain ⟨rfl, -, -⟩ := e
 exact h _ _ _ rfl
theorem FrB.mk (B g n c : Nat) (h : B ≤ g) : FrB B (.slice (some ⟨g, 0, none⟩) n c) := by
 intro a n' c' e
 simp only [Value.slice.injEq, Option.some.injEq] at e
 obtain ⟨rfl, -, -⟩ := e
 exact h
set_option maxHeartbeats 400000 in
theorem trim_fr (v : Value) (xs : List Nat) (w : World) (h : Own w v xs) (lo : Lo xs) :
 Calls Tryz.prog 98 #[v] w fun e w' => (∃ v', e = .returned v' ∧ TrimOut w xs v' ∧ ∀ B, FrB B v → FrB B v') ∧ w' = w := by
 obtain ⟨ao, cap, rfl, hc, hm, hcell, hnil, _⟩ := h.open_
 have HH := Hid.mk h
 clear h
 have HL := Hid.mk lo
 clear lo
 go_enter Tryz.func98, Tryz.ntmps98
 go_wp2
 go_loop [3] (fun n => ∃ k : Nat, k ≤ xs.length ∧ n = .int .i64 k ∧ ∀ x ∈ xs.drop k, x = 0) (fun n => (intOf n).toNat)
 case atStart => exact ⟨xs.length, Nat.le_refl _, rfl, by simp⟩
 case round =>
  obtain ⟨k, hk, rfl, hz⟩ := hrel
  by_cases h0 : k = 0
  ·subst h0
   go_wp2
   go_ret
   have T := trim_spec HL.out 0 (Nat.zero_le _) hz (.inl rfl)
   exact ⟨⟨_, rfl, ⟨_, T.1, T.2.1, by omega, HH.out.cut 0 (Nat.zero_le _)⟩, fun B h => h.same⟩, rfl⟩
  ·obtain ⟨b, rfl, hb⟩ := hcell (k - 1) (by omega)
   obtain ⟨x, hx⟩ : ∃ x, x = xs.getD (k - 1) 0 := ⟨_, rfl⟩
   rw [← hx] at hb
   clear hcell
   have HX := Hid.mk hx
   clear hx
   go_wp2
   ·have hx0 : ((x : Int) == 0) = true := by assumption
    have hx1 : x = 0 := by simpa using hx0
    go_round
    case rel =>
     refine ⟨k - 1, by omega, by go_num, fun y hy => ?_⟩
     rw [drop_getD xs (k - 1) (by omega), ← HX.out, show k - 1 + 1 = k from by omega] at hy
     rcases List.mem_cons.1 hy with hy | hy
     ·omega
     ·exact hz y hy
    case measure => simp [intOf]; omega
   ·have hx0 : ((x : Int) == 0) = false := by assumption
    have hx1 : x ≠ 0 := by simpa using hx0
    go_ret
    have T := trim_spec HL.out k hk hz (.inr (by rw [← HX.out]; omega))
    exact ⟨⟨_, rfl, ⟨_, T.1, T.2.1, by omega, HH.out.cut k hk⟩, fun B h => h.same⟩, rfl⟩
theorem trim_any (v : Value) (xs : List Nat) (w : World) (h : Own w v xs) (lo : Lo xs) :
 Calls Tryz.prog 98 #[v] w fun e w' => (∃ v', e = .returned v' ∧ TrimOut w xs v') ∧ w' = w := by
 refine (trim_fr v xs w h lo).mono ?_
 rintro e w' ⟨⟨v', h1, h2, -⟩, h3⟩
 exact ⟨⟨v', h1, h2⟩, h3⟩
set_option maxHeartbeats 400000 in
theorem limbAt_any (v : Value) (xs : List Nat) (i : Int) (w : World) (h : Own w v xs) (lo : Lo xs) (hi0 : 0 ≤ i) :
 Calls Tryz.prog 139 #[v, .int .i64 i] w fun e w' => e = .returned (.int .u64 ((xs.getD i.toNat 0 : Nat) : Int)) ∧ w' = w := by
 obtain ⟨ao, cap, rfl, hc, hm, hcell, hnil, _⟩ := h.open_
 obtain ⟨k, rfl⟩ := Int.eq_ofNat_of_zero_le hi0
 rw [Int.toNat_natCast]
 by_cases hk : k < xs.length
 ·obtain ⟨b, rfl, hb⟩ := hcell k hk
  obtain ⟨x, hx⟩ : ∃ x, x = xs.getD k 0 := ⟨_, rfl⟩
  have hxl : x < 4294967296 := by rw [hx]; exact Lo_get lo k
  rw [← hx] at hb ⊢
  clear hcell hx
  go_enter Tryz.func139, Tryz.ntmps139
  go_wp2
  go_ret
  exact ⟨rfl, rfl⟩
 ·have hx : xs.getD k 0 = 0 := by simp [List.getD, List.getElem?_eq_none (by omega : xs.length ≤ k)]
  rw [hx]
  clear hcell hx
  go_enter Tryz.func139, Tryz.ntmps139
  go_wp2
  go_ret
  exact ⟨rfl, rfl⟩
open Go.RowKit
def NatOut (w w' : World) (v : Value) (n L : Nat) : Prop := (∃ zs, Lim zs ∧ val zs = n ∧ zs.length ≤ L ∧ Own w' v zs) ∧ Below w.heap.size w w'
set_option maxRecDepth 100000 in
set_option maxHeartbeats 1000000 in
theorem addAmounts_any (v u : Value) (xs ys : List Nat) (w : World) (hv : Own w v xs) (hu : Own w u ys) (lx : Lo xs) (ly : Lo ys) (bx : xs.length ≤ 1000000000) (by_ : ys.length ≤ 1000000000) :
 Calls Tryz.prog 101 #[v, u] w fun e w' => ∃ r, e = .returned r ∧ NatOut w w' r (val xs + val ys) (max xs.length ys.length + 1) := by
 obtain ⟨ao, cap, hveq, hc, hm, -⟩ := hv.open_
 obtain ⟨bo, dap, hueq, hd, hn, -⟩ := hu.open_
 have HV := Hid.mk hv
 have HU := Hid.mk hu
 clear hv hu
 subst hveq
 subst hueq
 by_cases hlt : xs.length < ys.length
 all_goals
  obtain ⟨N, hN⟩ : ∃ N, N = max xs.length ys.length + 1 := ⟨_, rfl⟩
  have hN1 : xs.length < N := by omega
  have hN2 : ys.length < N := by omega
  have hN3 : N ≤ 1000000001 := by omega
  first
   | (have hN4 : N ≤ ys.length + 1 := by omega)
   | (have hN4 : N ≤ xs.length + 1 := by omega)
  have HN := Hid.mk hN
  clear hN
  go_enter Tryz.func101, Tryz.ntmps101
  go_wp2_with (at_make; refine make_limbs _ rfl (.tmp 20) (.tmp 20) rfl _ _ N rfl rfl ?_ ?_ (by omega) ?_)
  ·have := HN.out; omega
  ·have := HN.out; omega
  intro w1 hown hbel
  have hlt1 := hown.lt
  go_wp2_with fail
  go_loopw [7, 8] (fun c i wr => ∃ (k cc : Nat) (zs : List Nat), k ≤ N ∧ i = .int .i64 k ∧ cc ≤ 1 ∧ c = .int .u64 cc ∧ zs.length = N ∧ Lo zs ∧ Own wr (.slice (some ⟨w.heap.size, 0, none⟩) N N) zs ∧ Below w.heap.size w wr ∧
   Hid (val (zs.take k) + 4294967296 ^ k * cc = val (xs.take k) + val (ys.take k))) (fun _ i _ => N - (intOf i).toNat)
  case atStart => exact ⟨0, 0, _, Nat.zero_le _, rfl, Nat.zero_le _, rfl, List.length_replicate, Lo_zeros N, hown, hbel, Hid.mk (by simp [val])⟩
  case round =>
   clear hown hbel hlt1
   obtain ⟨k, cc, zs, hk, rfl, hcc, rfl, hzl, hlo, hown, hbel, HI⟩ := hrel
   by_cases hkN : k < N
   ·have hxk := Lo_get lx k
    have hyk := Lo_get ly k
    have hz1 := hown.cell hzl k hkN
    have hz2 := hown.frozen hzl k
    obtain ⟨x, hx⟩ : ∃ x, x = xs.getD k 0 := ⟨_, rfl⟩
    obtain ⟨y, hy⟩ : ∃ y, y = ys.getD k 0 := ⟨_, rfl⟩
    obtain ⟨z, hz⟩ : ∃ z, z = zs.getD k 0 := ⟨_, rfl⟩
    rw [← hx] at hxk
    rw [← hy] at hyk
    rw [← hz] at hz1
    have HX := Hid.mk hx
    have HY := Hid.mk hy
    clear hx hy hz
    go_wp2_with fail
    refine (limbAt_any _ xs _ _ (HV.out.below hbel) lx (by omega)).mono ?_
    rintro e w' ⟨rfl, rfl⟩
    rw [Int.toNat_natCast, ← HX.out]
    go_wp2_with fail
    refine (limbAt_any _ ys _ _ (HU.out.below hbel) ly (by omega)).mono ?_
    rintro e w' ⟨rfl, rfl⟩
    rw [Int.toNat_natCast, ← HY.out]
    go_wp2_with fail
    go_roundw
    case rel =>
     refine ⟨k + 1, (cc + (x + y)) / 4294967296, zs.set k ((cc + (x + y)) % 4294967296), by omega, by go_num, by omega, by go_num, by simp [hzl], Lo_set hlo _ _ (Nat.mod_lt _ (by decide)), ?_, hbel.setCell (Nat.le_refl _) _, Hid.mk ?_⟩
     ·exact hown.stored_int hzl k _ (by omega)
     ·rw [val_take_set zs k _ (by omega), val_take_next, val_take_next, ← HX.out, ← HY.out, Nat.pow_succ]
      exact add_round HI.out
    case measure => simp [intOf]; omega
   ·have hkN' : N ≤ k := by omega
    go_wp2_with fail
    refine (trim_any _ zs _ hown hlo).mono ?_
    rintro e w' ⟨⟨r, rfl, hr⟩, rfl⟩
    go_wp2_with fail
    go_ret
    obtain ⟨rs, h1, h2, h3, h4⟩ := hr
    refine ⟨_, rfl, ⟨rs, h1, ?_, by rw [hzl] at h3; have := HN.out; omega, h4⟩, hbel⟩
    have hkk : k = N := by omega
    have HI' := HI.out
    rw [hkk, List.take_of_length_le (by omega), List.take_of_length_le (by omega), List.take_of_length_le (by omega)] at HI'
    rw [h2]
    exact add_end lx ly hN1 hN2 HI'
open Go.RowKit
set_option maxRecDepth 100000 in
set_option maxHeartbeats 1000000 in
theorem subAmounts_fr (v u : Value) (xs ys : List Nat) (w : World) (hv : Own w v xs) (hu : Own w u ys) (lx : Lo xs) (ly : Lo ys) (bx : xs.length ≤ 1000000000) (hle : val ys ≤ val xs) (hyl : ys.length ≤ xs.length) :
 Calls Tryz.prog 103 #[v, u] w fun e w' => ∃ r, e = .returned r ∧ NatOut w w' r (val xs - val ys) xs.length ∧ FrB w.heap.size r := by
 obtain ⟨ao, cap, hveq, hc, hm, hcell, -, -⟩ := hv.open_
 obtain ⟨bo, dap, hueq, hd, hn, -⟩ := hu.open_
 have HC := Hid.mk hcell
 have HU := Hid.mk hu
 have HY := Hid.mk hyl
 have HLE := Hid.mk hle
 clear hv hu hcell hyl hle
 subst hveq
 subst hueq
 go_enter Tryz.func103, Tryz.ntmps103
 go_wp2_with (at_make; refine make_limbs _ rfl (.tmp 11) (.tmp 11) rfl _ _ xs.length rfl rfl rfl rfl (by omega) ?_)
 intro w1 hown hbel
 go_wp2_with fail
 go_loopw [6, 7] (fun c i wr => ∃ (k cc : Nat) (zs : List Nat), k ≤ xs.length ∧ i = .int .i64 k ∧ cc ≤ 1 ∧ c = .int .u64 cc ∧ zs.length = xs.length ∧ Lo zs ∧ Own wr (.slice (some ⟨w.heap.size, 0, none⟩) xs.length xs.length) zs ∧ Below w.heap.size w wr ∧
  Hid (val (zs.take k) + val (ys.take k) = val (xs.take k) + 4294967296 ^ k * cc)) (fun _ i _ => xs.length - (intOf i).toNat)
 case atStart => exact ⟨0, 0, _, Nat.zero_le _, rfl, Nat.zero_le _, rfl, List.length_replicate, Lo_zeros _, hown, hbel, Hid.mk (by simp [val])⟩
 case round =>
  clear hown hbel
  obtain ⟨k, cc, zs, hk, rfl, hcc, rfl, hzl, hlo, hown, hbel, HI⟩ := hrel
  by_cases hkN : k < xs.length
  ·have hxk := Lo_get lx k
   have hyk := Lo_get ly k
   have hz1 := hown.cell hzl k hkN
   have hz2 := hown.frozen hzl k
   obtain ⟨b, rfl, hb0⟩ := HC.out k hkN
   have hb1 := cell_later hbel hb0
   obtain ⟨x, hx⟩ : ∃ x, x = xs.getD k 0 := ⟨_, rfl⟩
   obtain ⟨y, hy⟩ : ∃ y, y = ys.getD k 0 := ⟨_, rfl⟩
   obtain ⟨z, hz⟩ : ∃ z, z = zs.getD k 0 := ⟨_, rfl⟩
   rw [← hx] at hxk hb1
   rw [← hy] at hyk
   rw [← hz] at hz1
   have HX := Hid.mk hx
   have HYY := Hid.mk hy
   have HZL := Hid.mk hzl
   clear hx hy hz hb0 hzl
   have hr := fun Z X Y => @sub_round (4294967296 ^ k) Z X Y cc x y
   have HR := Hid.mk hr
   clear hr
   by_cases hxy : x < y + cc
   all_goals
    go_wp2_with fail
    refine (limbAt_any _ ys _ _ (HU.out.below hbel) ly (by omega)).mono ?_
    rintro e w' ⟨rfl, rfl⟩
    rw [Int.toNat_natCast, ← HYY.out]
    go_wp2_with fail
   ·go_roundw
    case rel =>
     refine ⟨k + 1, 1, zs.set k (x + 4294967296 - (y + cc)), by omega, by go_num, by omega, rfl, by simp [HZL.out], Lo_set hlo _ _ (by omega), hown.stored_int HZL.out k _ (by omega), hbel.setCell (Nat.le_refl _) _, Hid.mk ?_⟩
     rw [val_take_set zs k _ (by have := HZL.out; omega), val_take_next, val_take_next, ← HX.out, ← HYY.out, Nat.pow_succ]
     have := HR.out _ _ _ HI.out hxk hyk hcc
     rw [if_pos hxy, if_pos hxy] at this
     exact this
    case measure => simp [intOf]; omega
   ·go_roundw
    case rel =>
     refine ⟨k + 1, 0, zs.set k (x - (y + cc)), by omega, by go_num, by omega, rfl, by simp [HZL.out], Lo_set hlo _ _ (by omega), hown.stored_int HZL.out k _ (by omega), hbel.setCell (Nat.le_refl _) _, Hid.mk ?_⟩
     rw [val_take_set zs k _ (by have := HZL.out; omega), val_take_next, val_take_next, ← HX.out, ← HYY.out, Nat.pow_succ]
     have := HR.out _ _ _ HI.out hxk hyk hcc
     rw [if_neg (by omega), if_neg (by omega)] at this
     exact this
    case measure => simp [intOf]; omega
  ·have hkN' : xs.length ≤ k := by omega
   go_wp2_with fail
   refine (trim_fr _ zs _ hown hlo).mono ?_
   rintro e w' ⟨⟨r, rfl, hr, hfr⟩, rfl⟩
   have HF := Hid.mk (hfr _ (FrB.mk _ _ _ _ (Nat.le_refl _)))
   clear hfr
   go_wp2_with fail
   go_ret
   obtain ⟨rs, h1, h2, h3, h4⟩ := hr
   refine ⟨_, rfl, ⟨⟨rs, h1, ?_, by omega, h4⟩, hbel⟩, HF.out⟩
   have hkk : k = xs.length := by omega
   have HI' := HI.out
   have := HY.out
   rw [hkk, List.take_of_length_le (by omega), List.take_of_length_le (by omega), List.take_of_length_le (by omega)] at HI'
   rw [h2]
   exact sub_end hlo hzl HLE.out HI'
theorem subAmounts_any (v u : Value) (xs ys : List Nat) (w : World) (hv : Own w v xs) (hu : Own w u ys) (lx : Lo xs) (ly : Lo ys) (bx : xs.length ≤ 1000000000) (hle : val ys ≤ val xs) (hyl : ys.length ≤ xs.length) :
 Calls Tryz.prog 103 #[v, u] w fun e w' => ∃ r, e = .returned r ∧ NatOut w w' r (val xs - val ys) xs.length := by
 refine (subAmounts_fr v u xs ys w hv hu lx ly bx hle hyl).mono ?_
 rintro e w' ⟨r, h1, h2, -⟩
 exact ⟨r, h1, h2⟩
open Go.RowKit
theorem prod_bound {x y : Nat} (hx : x < 4294967296) (hy : y < 4294967296) : (0 : Int) ≤ (x : Int) * (y : Int) ∧ (x : Int) * (y : Int) ≤ 18446744065119617025 := by
 have h : x * y ≤ 4294967295 * 4294967295 := Nat.mul_le_mul (by omega) (by omega)
 rw [← Int.natCast_mul]
 omega
theorem prod_cast (x y : Nat) : (x : Int) * (y : Int) = ((x * y : Nat) : Int) := (Int.natCast_mul x y).symm
set_option maxRecDepth 100000 in
set_option maxHeartbeats 2000000 in
theorem mulAmounts_any (v u : Value) (xs ys : List Nat) (w : World) (hv : Own w v xs) (hu : Own w u ys) (lx : Lo xs) (ly : Lo ys) (bx : xs.length ≤ 500000000) (by_ : ys.length ≤ 500000000) :
 Calls Tryz.prog 100 #[v, u] w fun e w' => ∃ r, e = .returned r ∧ NatOut w w' r (val xs * val ys) (xs.length + ys.length) := by
 obtain ⟨ao, cap, hveq, hc, hm, hcell, -, -⟩ := hv.open_
 obtain ⟨bo, dap, hueq, hd, hn, hdell, -, -⟩ := hu.open_
 have HC := Hid.mk hcell
 have HD := Hid.mk hdell
 clear hv hu hcell hdell
 subst hveq
 subst hueq
 go_enter Tryz.func100, Tryz.ntmps100
 go_wp2_with (at_make; refine make_limbs _ rfl (.tmp 13) (.tmp 13) rfl _ _ (xs.length + ys.length) rfl rfl ?_ ?_ (by omega) ?_)
 ·omega
 ·omega
 intro w1 hown hbel
 go_wp2_with fail
 go_loopw [6] (fun i wr => ∃ (k : Nat) (zs : List Nat), k ≤ xs.length ∧ i = .int .i64 k ∧ zs.length = xs.length + ys.length ∧ Lo zs ∧ Own wr (.slice (some ⟨w.heap.size, 0, none⟩) (xs.length + ys.length) (xs.length + ys.length)) zs ∧ Below w.heap.size w wr ∧
  Hid (val zs = val (xs.take k) * val ys ∧ ∀ j, k + ys.length ≤ j → zs.getD j 0 = 0)) (fun i _ => xs.length - (intOf i).toNat)
 case atStart =>
  refine ⟨0, _, Nat.zero_le _, rfl, List.length_replicate, Lo_zeros _, hown, hbel, Hid.mk ⟨?_, fun j _ => ?_⟩⟩
  ·rw [val_zeros (fun x hx => List.eq_of_mem_replicate hx)]; simp [val]
  ·by_cases hj : j < xs.length + ys.length <;> simp [List.getD, hj]
 case round =>
  clear hown hbel
  obtain ⟨k, zs, hk, rfl, hzl, hlo, hown, hbel, HI⟩ := hrel
  by_cases hkN : k < xs.length
  ·obtain ⟨b, rfl, hb0⟩ := HC.out k hkN
   have hxk := Lo_get lx k
   obtain ⟨x, hx⟩ : ∃ x, x = xs.getD k 0 := ⟨_, rfl⟩
   rw [← hx] at hxk hb0
   have HX := Hid.mk hx
   have HB := Hid.mk hb0
   have HZL := Hid.mk hzl
   clear hx hb0 hzl
   have hyl : ys.length ≤ 500000000 := by_
   go_wp2_with fail
   go_loopw [7, 8] (fun c i ws => ∃ (j cc : Nat) (qs : List Nat), j ≤ ys.length ∧ i = .int .i64 j ∧ cc ≤ 4294967295 ∧ c = .int .u64 cc ∧ Hid (qs.length = xs.length + ys.length) ∧ Lo qs ∧ Own ws (.slice (some ⟨w.heap.size, 0, none⟩) (xs.length + ys.length) (xs.length + ys.length)) qs ∧ Below w.heap.size w ws ∧
    Hid (val qs + 4294967296 ^ (k + j) * cc = val (xs.take k) * val ys + 4294967296 ^ k * (x * val (ys.take j)) ∧ ∀ j, k + ys.length ≤ j → qs.getD j 0 = 0)) (fun _ i _ => ys.length - (intOf i).toNat)
   case atStart =>
    exact ⟨0, 0, zs, Nat.zero_le _, rfl, by omega, rfl, HZL, hlo, hown, hbel, Hid.mk ⟨by have := HI.out.1; simp [val, this], HI.out.2⟩⟩
   case round =>
    clear hown hbel hlo
    obtain ⟨j, cc, qs, hj, rfl, hcc, rfl, HQ, hlo, hown, hbel, HI2⟩ := hrel
    have hb1 := cell_later hbel HB.out
    by_cases hjN : j < ys.length
    ·obtain ⟨d, rfl, hd0⟩ := HD.out j hjN
     have hd1 := cell_later hbel hd0
     have hyk := Lo_get ly j
     have hzk := Lo_get hlo (k + j)
     have hz1 := hown.cell HQ.out (k + j) (by omega)
     have hz2 := hown.frozen HQ.out (k + j)
     obtain ⟨y, hy⟩ : ∃ y, y = ys.getD j 0 := ⟨_, rfl⟩
     obtain ⟨z, hz⟩ : ∃ z, z = qs.getD (k + j) 0 := ⟨_, rfl⟩
     rw [← hy] at hyk hd1
     rw [← hz] at hz1 hzk
     obtain ⟨p1, p2⟩ := prod_bound hxk hyk
     have HYY := Hid.mk hy
     have HZ := Hid.mk hz
     clear hy hz hd0
     go_wp2_with fail
     go_quiet (fail)
     go_wp2_with fail
     have p3 : x * y ≤ 18446744065119617025 := by rw [prod_cast] at p2; omega
     go_roundw
     case rel =>
      refine ⟨j + 1, (cc + (x * y + z)) / 4294967296, qs.set (k + j) ((cc + (x * y + z)) % 4294967296), by omega, by go_num, by omega, by rw [prod_cast]; go_num, Hid.mk (by simp [HQ.out]), Lo_set hlo _ _ (Nat.mod_lt _ (by decide)),
       hown.stored_int HQ.out (k + j) _ (by rw [prod_cast]; omega), below_drewN (hbel.setCell (Nat.le_refl _) _) _, Hid.mk ⟨?_, fun i hi => ?_⟩⟩
      ·rw [val_take_next, ← HYY.out, HZ.out]
       exact mul_step (by have := HQ.out; omega) HI2.out.1
      ·rw [getD_set_ne _ _ _ _ (by omega)]; exact HI2.out.2 i hi
     case measure => simp [intOf]; omega
    ·have hjN' : ys.length ≤ j := by omega
     have hz0 := HI2.out.2 (k + ys.length) (Nat.le_refl _)
     have hz1 := hown.cell HQ.out (k + ys.length) (by omega)
     have hz2 := hown.frozen HQ.out (k + ys.length)
     have HZ0 := Hid.mk hz0
     rw [hz0] at hz1
     clear hz0
     go_wp2_with fail
     go_roundw
     case rel =>
      refine ⟨k + 1, qs.set (k + ys.length) cc, by omega, by go_num, by simp [HQ.out], Lo_set hlo _ _ (by omega), hown.stored_int HQ.out (k + ys.length) _ (by omega), hbel.setCell (Nat.le_refl _) _, Hid.mk ⟨?_, fun i hi => ?_⟩⟩
      ·refine mul_done (by have := HQ.out; omega) HZ0.out ?_
       have := HI2.out.1
       rw [show j = ys.length from by omega, List.take_of_length_le (Nat.le_refl _)] at this
       rw [← HX.out]
       exact this
      ·rw [getD_set_ne _ _ _ _ (by omega)]; exact HI2.out.2 i (by omega)
     case measure => simp [intOf]; omega
  ·have hkN' : xs.length ≤ k := by omega
   go_wp2_with fail
   refine (trim_any _ zs _ hown hlo).mono ?_
   rintro e w' ⟨⟨r, rfl, hr⟩, rfl⟩
   go_wp2_with fail
   go_ret
   obtain ⟨rs, h1, h2, h3, h4⟩ := hr
   refine ⟨_, rfl, ⟨rs, h1, ?_, by omega, h4⟩, hbel⟩
   have HI' := HI.out.1
   rw [List.take_of_length_le (by omega)] at HI'
   rw [h2, HI']
end Go.Proofs.YtfjbijpagaipnabGreatDoor
