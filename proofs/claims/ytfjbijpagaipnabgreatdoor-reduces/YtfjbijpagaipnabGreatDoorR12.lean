import Derived.Test.YtfjbijpagaipnabGreatDoorR11
import Derived.Deep.RegionLawGrows
import Derived.Test.YtfjbijpagaipnabGreatDoorRows
import Derived.Test.YtfjbijpagaipnabGreatDoorR01
import Derived.WalkKit
import Derived.WalkSpells
import Derived.WalkLawsBesides
import Derived.Handy
namespace Go.Proofs.YtfjbijpagaipnabGreatDoor
open Go.RowKit
def RowG (w : World) (T : TypeId) (v : Value) (xs : List Value) : Prop := (v = .slice none 0 0 ∧ xs = []) ∨ ∃ g cap cur, v = .slice (some ⟨g, 0, none⟩) xs.length cap ∧ w.heap[g]? = some (.cells cur T (0, 0)) ∧ xs.length ≤ cap ∧ cap ≤ cur.size ∧ cap ≤ maxLen ∧ ∀ i, i < xs.length → cur[i]? = xs[i]?
theorem RowG.nil (w : World) (T : TypeId) : RowG w T (.slice none 0 0) [] := .inl ⟨rfl, rfl⟩
theorem RowG.shape {w : World} {T : TypeId} {v : Value} {xs : List Value} (h : RowG w T v xs) : ∃ ao cap, v = .slice ao xs.length cap ∧ xs.length ≤ cap ∧ cap ≤ 9223372036854775807 ∧ (ao = none → xs.length = 0 ∧ cap = 0) ∧ (∀ i, i < xs.length → ∃ g, ao = some ⟨g, 0, none⟩ ∧ w.cell? ⟨g, i, none⟩ = xs[i]?) := by
 rcases h with ⟨rfl, rfl⟩ | ⟨g, cap, cur, rfl, h1, h2, h3, h4, h5⟩
 ·exact ⟨none, 0, rfl, Nat.le_refl _, by omega, fun _ => ⟨rfl, rfl⟩, fun i hi => by simp at hi⟩
 ·refine ⟨_, cap, rfl, h2, by simpa [maxLen] using h4, (fun e => by cases e), fun i hi => ⟨g, rfl, ?_⟩⟩
  rw [← h5 i hi]
  simp [World.cell?, h1]
theorem RowG.of_block {w w' : World} {T : TypeId} {v : Value} {xs : List Value} (h : RowG w T v xs) (hb : ∀ g, v.ownBlock = some g → w'.heap[g]? = w.heap[g]?) : RowG w' T v xs := by
 rcases h with h | ⟨g, cap, cur, rfl, h1, h2⟩
 ·exact .inl h
 ·exact .inr ⟨g, cap, cur, rfl, by rw [hb g rfl]; exact h1, h2⟩
theorem RowG.own {w : World} {T : TypeId} {v : Value} {xs : List Value} (h : RowG w T v xs) : ∀ g, v.ownBlock = some g → g < w.heap.size ∧ Ty w g T := by
 intro g hg
 rcases h with ⟨rfl, rfl⟩ | ⟨g', cap, cur, rfl, h1, h2⟩
 ·simp [Value.ownBlock] at hg
 ·simp [Value.ownBlock] at hg
  subst hg
  exact ⟨(Array.getElem?_eq_some_iff.1 h1).1, _, _, h1⟩
theorem RowG.below {w w' : World} {T : TypeId} {v : Value} {xs : List Value} (h : RowG w T v xs) (hb : Below w.heap.size w w') : RowG w' T v xs := h.of_block (fun g hg => hb.block g (h.own g hg).1)
theorem RowG.of_owns {w : World} {T : TypeId} {B : Nat} {v : Value} {xs : List Value} (h : w.ownsRow B T 1 v xs.length xs) : RowG w T v xs := by
 rcases h.2 with ⟨h1, h2⟩ | ⟨g, cap, cur, h1, h2, h3, h4, h5, h6, h7⟩
 ·exact .inl ⟨h1, List.eq_nil_of_length_eq_zero h2⟩
 ·refine .inr ⟨g, cap, cur, h1, h3, h4, by omega, h5, fun i hi => ?_⟩
  rw [Nat.mul_one] at h7
  have : xs[i]? = (cur.toList.take xs.length)[i]? := by rw [h7]
  rw [this, List.getElem?_take_of_lt hi]
  simp
def AppOut (w : World) (T : TypeId) (v : Value) (xs : List Value) (x : Value) (v' : Value) (w' : World) : Prop := RowG w' T v' (xs ++ [x]) ∧ w.grownBy w' v.ownBlock ∧ ∀ g, v'.ownBlock = some g → v.ownBlock = some g ∨ w.heap.size ≤ g
theorem step_append_row {P : Program} {ops : Array Oper} {o : Oper} {a : Act} {w : World} {K : Act → World → Prop} {Q : Exit → Act → World → Prop} {E : Prop}
 (hg : o.guard = none) (s x : Operand) (t : TypeId) (hop : o.op = Op.call { callee := Callee.builtin Builtin.append, args := #[s, x], argTypes := #[t, t] })
 (T : TypeId) (i : TypeInfo) (z : Value) (bytes : Nat) (h1 : P.underlying t = some (.slice T)) (h2 : P.info? T = some i) (h3 : i.zero = some z) (h4 : i.size = 1) (h5 : i.bytes = bytes) (h6 : z.cells.size = 1)
 (v : Value) (xs : List Value) (hs : a.eval s = v) (hrow : RowG w T v xs) (ad : Addr) (u : Value) (hx : a.eval x = .slice (some ad) 1 1) (hc : w.cell? (ad.add 0) = some u) (h1c : u.oneCell' = true)
 (b1 : xs.length + 1 ≤ maxLen) (b2 : (xs.length + 1) * bytes ≤ 140737488355328)
 (hK : ∀ v' w', AppOut w T v xs u v' w' → K (a.put o.dst v') w') :
 if Region.wanted o (yielded ops a.tmps) = true then Oper.wp P o a w K Q else E := by
 have hcs : ∀ j y, [u][j]? = some y → w.cell? (ad.add j) = some y := by
  intro j y hj
  match j, hj with
  | 0, hj => simp at hj; subst hj; exact hc
 have h1s : ∀ y ∈ [u], y.oneCell' = true := by
  intro y hy
  simp at hy
  subst hy
  exact h1c
 rcases id hrow with ⟨rfl, rfl⟩ | ⟨g, cap, cur, rfl, q1, q2, q3, q4, q5⟩
 ·refine step_append_grows hg s x t hop T i z 1 bytes h1 h2 h3 h4 h5 h6 (by decide) none 0 0 [] hs (fun _ => ⟨rfl, rfl⟩) rfl (fun b hb => by cases hb) ad 1 1 [u] hx rfl hcs h1s (by decide) (by simpa using b1) (by simpa using b2) ?_
  intro v' w' r1 r2
  refine hK v' w' ⟨RowG.of_owns (by simpa using r1), r2, fun g hg => .inr (World.ownsRow.lt r1 g hg).1⟩
 ·by_cases hroom : xs.length + 1 ≤ cap
  ·refine step_append_room hg s x t hop T i 1 h1 h2 h4 g 0 xs.length cap hs ad 1 1 [u] hx rfl hcs h1s hroom (fun j hj => ?_) ?_
   ·have hj0 : j = 0 := by simpa using hj
    subst hj0
    have hlt : xs.length < cur.size := by omega
    refine ⟨?_, ?_⟩
    ·simp [World.cell?, q1, hlt]
    ·simp [World.frozen?, q1]
   ·have e : w.setCells g (0 + xs.length * 1) [u] = w.setCell ⟨g, xs.length, none⟩ u := by
     rw [Nat.mul_one, Nat.zero_add]; rfl
    rw [e]
    refine hK _ _ ⟨.inr ⟨g, cap, cur.setIfInBounds xs.length u, by simp, heap_setCell_same _ _ _ _ _ _ q1, by simpa using hroom, by simpa using q3, q4, fun j hj => ?_⟩, ⟨rfl, rfl, rfl, by simp [World.setCell], fun k _ hne => ?_⟩, fun g' hg' => .inl hg'⟩
    ·by_cases hjn : j = xs.length
     ·subst hjn
      rw [Array.getElem?_setIfInBounds_self, if_pos (by omega)]
      simp
     ·have hj' : j < xs.length := by simp at hj; omega
      rw [Array.getElem?_setIfInBounds_ne (by omega), q5 j hj', List.getElem?_append_left hj']
    ·exact Below.heap_setCell _ _ _ _ (fun e => hne (by simp [Value.ownBlock, e]))
  ·refine step_append_grows hg s x t hop T i z 1 bytes h1 h2 h3 h4 h5 h6 (by decide) (some ⟨g, 0, none⟩) xs.length cap xs hs (fun e => by cases e) (by simp) (fun b hb j y hj => ?_) ad 1 1 [u] hx rfl hcs h1s (by omega) b1 b2 ?_
   ·injection hb with hb
    subst hb
    have hj' : j < xs.length := by
     rcases Nat.lt_or_ge j xs.length with h | h
     ·exact h
     ·rw [List.getElem?_eq_none h] at hj; cases hj
    have := q5 j hj'
    rw [hj] at this
    have e : Addr.add ⟨g, 0, none⟩ j = ⟨g, j, none⟩ := by simp [Addr.add]; exact fun h => h.symm
    rw [e]
    simp only [World.cell?, q1]
    exact this
   ·intro v' w' r1 r2
    refine hK v' w' ⟨RowG.of_owns (by simpa using r1), ⟨r2.os, r2.tape, r2.output, r2.size, fun k hk _ => r2.block k hk (by simp)⟩, fun g' hg' => .inr (World.ownsRow.lt r1 g' hg').1⟩
theorem wpList_append_row {P : Program} (w : World) {ops : Array Oper} {rest : List Oper} {o : Oper} {a : Act} {Q : Exit → Act → World → Prop}
 (hg : o.guard = none) (s x : Operand) (t : TypeId) (hop : o.op = Op.call { callee := Callee.builtin Builtin.append, args := #[s, x], argTypes := #[t, t] })
 (T : TypeId) (i : TypeInfo) (z : Value) (bytes : Nat) (h1 : P.underlying t = some (.slice T)) (h2 : P.info? T = some i) (h3 : i.zero = some z) (h4 : i.size = 1) (h5 : i.bytes = bytes) (h6 : z.cells.size = 1)
 (v : Value) (xs : List Value) (hs : a.eval s = v) (hrow : RowG w T v xs) (ad : Addr) (u : Value) (hx : a.eval x = .slice (some ad) 1 1) (hc : w.cell? (ad.add 0) = some u) (h1c : u.oneCell' = true)
 (b1 : xs.length + 1 ≤ maxLen) (b2 : (xs.length + 1) * bytes ≤ 140737488355328)
 (hK : ∀ v' w', AppOut w T v xs u v' w' → wpList P ops Q rest (a.put o.dst v') w') : wpList P ops Q (o :: rest) a w := by
 refine wpList_plain hg fun K hK' => ?_
 have h := step_append_row (P := P) (ops := ops) (Q := Q) (E := False) (K := K) hg s x t hop T i z bytes h1 h2 h3 h4 h5 h6 v xs hs hrow ad u hx hc h1c b1 b2 (fun v' w' h => hK' _ _ (hK v' w' h))
 rw [if_pos (by simp [Region.wanted, hg])] at h
 exact h
open Go.RowKit
def Dst (ms : List Hm) : Prop := ∀ i j x y, i < 24 → j < 24 → ms.getD i none = some x → ms.getD j none = some y → x.1 = y.1 → i = j
theorem show_uniq {ms : List Hm} (hd : Dst ms) {h e e' : Int} {t t' : List UInt8} (h1 : ShowOut ms h t e) (h2 : ShowOut ms h t' e') : t = t' ∧ e = e' := by
 rcases h1 with ⟨rfl, k, x, hk, hx, hxh, rfl⟩ | ⟨rfl, rfl, hn⟩
 ·rcases h2 with ⟨rfl, k', x', hk', hx', hxh', rfl⟩ | ⟨rfl, rfl, hn⟩
  ·have := hd k k' x x' hk hk' hx hx' (by omega)
   subst this
   rw [hx] at hx'
   injection hx' with hx'
   subst hx'
   exact ⟨rfl, rfl⟩
  ·exact absurd hxh (hn k hk x hx)
 ·rcases h2 with ⟨rfl, k', x', hk', hx', hxh', rfl⟩ | ⟨rfl, rfl, -⟩
  ·exact absurd hxh' (hn k' hk' x' hx')
  ·exact ⟨rfl, rfl⟩
set_option maxRecDepth 100000 in
set_option maxHeartbeats 1000000 in
theorem twShow_any (B T b1 b2 : Nat) (h : Int) (ms : List Hm) (nx : Nat) (w : World) (hst : TwH B w T b1 b2 ms nx) :
 Calls Tryz.prog 122 #[.pointer (some ⟨T, 0, none⟩), .int .i64 h] w fun x w' => ∃ t e, x = .returned (.tuple #[.string ⟨t.toArray⟩, .int .i64 e]) ∧ ShowOut ms h t e ∧ Below w.heap.size w w' := by
 obtain ⟨c0, c1, c2, -⟩ := hst.1.cells
 have H := Hid.mk hst
 clear hst
 go_enter Tryz.func122, Tryz.ntmps122
 go_wp2_with fail
 refine (show_any b1 h ms nx _ H.out.2.1 H.out.2.2.2.2.1.tab).mono ?_
 rintro x w1 ⟨t, e, rfl, hs, hb⟩
 have K := Hid.mk (And.intro hs hb)
 clear hs hb
 go_wp2_with fail
 go_ret2
 exact ⟨t, e, rfl, K.out.1, K.out.2⟩
def FreeRel (ms : List Hm) (h e : Int) (ms' : List Hm) : Prop := (e = 0 ∧ ∃ k x, k < 24 ∧ ms.getD k none = some x ∧ (x.1 : Int) = h ∧ ms' = ms.set k none) ∨ (e = 2 ∧ ms' = ms ∧ ∀ k, k < 24 → ∀ x, ms.getD k none = some x → (x.1 : Int) ≠ h)
theorem free_rel (h : Int) (ms : List Hm) (nx : Nat) (hd : Dst ms) : ∃ e ms', FreeRel ms h e ms' ∧ ∀ b w, Held w b ms nx →
 Calls Tryz.prog 29 #[.pointer (some ⟨b, 0, none⟩), .int .i64 h] w fun x w' => x = .returned (.int .i64 e) ∧ Held w' b ms' nx ∧ Fr b w w' := by
 by_cases hk : ∃ k x, k < 24 ∧ ms.getD k none = some x ∧ (x.1 : Int) = h
 ·obtain ⟨k, x, hk, hx, hxh⟩ := hk
  refine ⟨0, ms.set k none, .inl ⟨rfl, k, x, hk, hx, hxh, rfl⟩, fun b w hst => (free_held b h ms nx w hst).mono ?_⟩
  rintro y w' ⟨i, rfl, hf⟩
  rcases hf with ⟨rfl, k', hk', ⟨x', hx', hxh'⟩, hH, hF⟩ | ⟨rfl, rfl, hn⟩
  ·have := hd k k' x x' hk hk' hx hx' (by omega)
   subst this
   exact ⟨rfl, hH, hF⟩
  ·exact absurd hxh (hn k hk x hx)
 ·refine ⟨2, ms, .inr ⟨rfl, rfl, fun k hk' x hx e => hk ⟨k, x, hk', hx, e⟩⟩, fun b w hst => (free_held b h ms nx w hst).mono ?_⟩
  rintro y w' ⟨i, rfl, hf⟩
  rcases hf with ⟨rfl, k', hk', ⟨x', hx', hxh'⟩, hH, hF⟩ | ⟨rfl, rfl, hn⟩
  ·exact absurd ⟨k', x', hk', hx', hxh'⟩ hk
  ·exact ⟨rfl, hst, Fr.refl _ _⟩
set_option maxRecDepth 100000 in
set_option maxHeartbeats 1000000 in
theorem twFree_any (B T b1 b2 : Nat) (h : Int) (ms : List Hm) (nx : Nat) (w : World) (hst : TwH B w T b1 b2 ms nx) (hd : Dst ms) :
 Calls Tryz.prog 154 #[.pointer (some ⟨T, 0, none⟩), .int .i64 h] w fun x w' => ∃ e ms', x = .returned (.int .i64 e) ∧ FreeRel ms h e ms' ∧ TwH B w' T b1 b2 ms' nx ∧ Chg (St2 b1 b2) w w' := by
 obtain ⟨e, ms', hrel, hcall⟩ := free_rel h ms nx hd
 obtain ⟨c0, c1, c2, -⟩ := hst.1.cells
 have H := Hid.mk (And.intro hst (And.intro hrel hcall))
 have ie : (e == e) = true := by simp
 clear hst hrel hcall
 go_enter Tryz.func154, Tryz.ntmps154
 go_wp2_with fail
 refine (H.out.2.2 b1 _ H.out.1.2.1).mono ?_
 rintro x w1 ⟨rfl, hH1, hF1⟩
 have hne1 : T ≠ b1 := H.out.1.1.ne H.out.1.2.1.ty
 have hT1 : Tw w1 T b1 b2 false := H.out.1.1.of_block (hF1.1.block T H.out.1.1.lt (by simpa using hne1))
 have hH2 : Held w1 b2 ms nx := H.out.1.2.2.1.fr hF1 (Ne.symm H.out.1.2.2.2.1)
 clear c0 c1 c2
 obtain ⟨c0, c1, c2, -⟩ := hT1.cells
 have K1 := Hid.mk (And.intro hH1 (And.intro hF1 (And.intro hT1 hH2)))
 clear hH1 hF1 hT1 hH2
 go_wp2_with fail
 refine (H.out.2.2 b2 _ K1.out.2.2.2).mono ?_
 rintro x w2 ⟨rfl, hH3, hF2⟩
 have hne2 : T ≠ b2 := K1.out.2.2.1.ne K1.out.2.2.2.ty
 have hT2 : Tw w2 T b1 b2 false := K1.out.2.2.1.of_block (hF2.1.block T K1.out.2.2.1.lt (by simpa using hne2))
 have hH1' : Held w2 b1 ms' nx := K1.out.1.fr hF2 H.out.1.2.2.2.1
 have K2 := Hid.mk (And.intro hH3 (And.intro hF2 (And.intro hT2 hH1')))
 clear hH3 hF2 hT2 hH1' c0 c1 c2
 go_wp2_with fail
 refine (like_true T _).mono ?_
 rintro x w' ⟨rfl, rfl⟩
 go_wp2_with fail
 go_ret
 obtain ⟨hTw, -, -, hbb, htab, hB1, hB2, hB3⟩ := H.out.1
 have hbel1 : Below B w w1 := K1.out.2.1.belowB hB2 (by have := hTw.lt; omega)
 have hbel2 : Below B w1 w' := K2.out.2.1.belowB hB3 (by have := hbel1.size; have := hTw.lt; omega)
 exact ⟨e, ms', rfl, H.out.2.1, ⟨K2.out.2.2.1, K2.out.2.2.2, K2.out.1, hbb, (htab.below hbel1).below hbel2, hB1, hB2, hB3⟩, (Chg.of_fr K1.out.2.1 (.inl rfl)).trans (Chg.of_fr K2.out.2.1 (.inr rfl))⟩
set_option maxRecDepth 100000 in
set_option maxHeartbeats 1000000 in
theorem twins_any (w : World) (htab : Tab w) :
 Calls Tryz.prog 76 #[] w fun x w' => ∃ T b1 b2, x = .returned (.pointer (some ⟨T, 0, none⟩)) ∧ TwH w.heap.size w' T b1 b2 (List.replicate 24 none) 0 ∧ Below w.heap.size w w' := by
 have H := Hid.mk htab
 clear htab
 go_enter Tryz.func76, Tryz.ntmps76
 go_wp2_with fail
 refine (new_held w).mono ?_
 rintro x w1 ⟨rfl, hH1, hb1⟩
 have K1 := Hid.mk (And.intro hH1 hb1)
 have hl1 := hH1.lt
 clear hH1 hb1
 go_wp2_with fail
 refine (new_held w1).mono ?_
 rintro x w2 ⟨rfl, hH2, hb2⟩
 have K2 := Hid.mk (And.intro hH2 hb2)
 have hl2 := hH2.lt
 clear hH2 hb2
 go_wp2_with fail
 go_ret
 have hbe : Below w2.heap.size w2 (w2.alloc (.cells #[.pointer (some ⟨w.heap.size, 0, none⟩), .pointer (some ⟨w1.heap.size, 0, none⟩), .bool false] 149)) := (Below.refl _ _).alloc (Nat.le_refl _) _
 have hb02 : Below w.heap.size w w2 := K1.out.2.trans (K2.out.2.mono K1.out.2.size)
 have hb03 := hb02.trans (hbe.mono hb02.size)
 exact ⟨w2.heap.size, w.heap.size, w1.heap.size, rfl, ⟨heap_alloc_new w2 _, (K1.out.1.below K2.out.2).below hbe, K2.out.1.below hbe, by omega, (TabF.of H.out).below hb03, hb02.size, Nat.le_refl _, K1.out.2.size⟩, hb03⟩
end Go.Proofs.YtfjbijpagaipnabGreatDoor
namespace Go.Proofs.YtfjbijpagaipnabGreatDoor.R
def val : List Nat → Nat
 | [] => 0
 | x :: r => x + 10000 * val r
def Lo (xs : List Nat) : Prop := ∀ x ∈ xs, x < 10000
def Lim (xs : List Nat) : Prop := Lo xs ∧ (xs = [] ∨ 0 < xs.getD (xs.length - 1) 0)
theorem val_nil : val [] = 0 := rfl
theorem val_cons (x : Nat) (r : List Nat) : val (x :: r) = x + 10000 * val r := rfl
theorem val_append (xs ys : List Nat) : val (xs ++ ys) = val xs + 10000 ^ xs.length * val ys := by
 induction xs with
 | nil => simp [val]
 | cons x r ih =>
   simp only [List.cons_append, val_cons, ih, List.length_cons, Nat.pow_succ, Nat.mul_add]
   rw [Nat.mul_comm (10000 ^ r.length) 10000, Nat.mul_assoc]
   omega
theorem Lo_nil : Lo [] := by intro x hx; cases hx
theorem Lo_cons {x : Nat} {r : List Nat} (h : x < 10000) (hr : Lo r) : Lo (x :: r) := by
 intro y hy
 rcases List.mem_cons.1 hy with rfl | hy
 ·exact h
 ·exact hr y hy
theorem Lo_append {a b : List Nat} (ha : Lo a) (hb : Lo b) : Lo (a ++ b) := by
 intro y hy
 rcases List.mem_append.1 hy with hy | hy
 ·exact ha y hy
 ·exact hb y hy
theorem Lo_take {xs : List Nat} (h : Lo xs) (k : Nat) : Lo (xs.take k) := fun x hx => h x (List.mem_of_mem_take hx)
theorem Lo_get {xs : List Nat} (h : Lo xs) (k : Nat) : xs.getD k 0 < 10000 := by
 by_cases hk : k < xs.length
 ·simp only [List.getD, List.getElem?_eq_getElem hk, Option.getD_some]; exact h _ (List.getElem_mem hk)
 ·simp [List.getD, List.getElem?_eq_none (by omega : xs.length ≤ k)]
theorem val_lt {xs : List Nat} (h : Lo xs) : val xs < 10000 ^ xs.length := by
 induction xs with
 | nil => simp [val]
 | cons x r ih =>
   have h1 : x < 10000 := h x (by simp)
   have h2 := ih (fun y hy => h y (by simp [hy]))
   simp only [val_cons, List.length_cons, Nat.pow_succ]
   omega
theorem val_zeros {xs : List Nat} (h : ∀ x ∈ xs, x = 0) : val xs = 0 := by
 induction xs with
 | nil => rfl
 | cons x r ih =>
   have h1 := h x (by simp)
   have h2 := ih (fun y hy => h y (by simp [hy]))
   simp [val_cons, h1, h2]
theorem val_take_drop (xs : List Nat) (k : Nat) (hk : k ≤ xs.length) : val xs = val (xs.take k) + 10000 ^ k * val (xs.drop k) := by
 have := val_append (xs.take k) (xs.drop k)
 rw [List.take_append_drop, List.length_take, Nat.min_eq_left hk] at this
 exact this
theorem take_succ_getD (xs : List Nat) (k : Nat) (hk : k < xs.length) : xs.take (k + 1) = xs.take k ++ [xs.getD k 0] := by
 rw [List.take_succ_eq_append_getElem hk]; simp [List.getD, List.getElem?_eq_getElem hk]
theorem val_take_succ (xs : List Nat) (k : Nat) (hk : k < xs.length) : val (xs.take (k + 1)) = val (xs.take k) + 10000 ^ k * xs.getD k 0 := by
 rw [take_succ_getD xs k hk, val_append, List.length_take, Nat.min_eq_left (by omega)]; simp [val]
theorem drop_getD (xs : List Nat) (k : Nat) (hk : k < xs.length) : xs.drop k = xs.getD k 0 :: xs.drop (k + 1) := by
 rw [List.drop_eq_getElem_cons hk]; simp [List.getD, List.getElem?_eq_getElem hk]
theorem trim_spec {xs : List Nat} (lo : Lo xs) (k : Nat) (hk : k ≤ xs.length) (hz : ∀ x ∈ xs.drop k, x = 0) (hn : k = 0 ∨ 0 < xs.getD (k - 1) 0) :
 Lim (xs.take k) ∧ val (xs.take k) = val xs ∧ (xs.take k).length = k := by
 have hl : (xs.take k).length = k := by rw [List.length_take, Nat.min_eq_left hk]
 refine ⟨⟨Lo_take lo k, ?_⟩, ?_, hl⟩
 ·rcases hn with rfl | hn
  ·exact .inl (by simp)
  ·by_cases h0 : k = 0
   ·subst h0; exact .inl (by simp)
   ·refine .inr ?_
    rw [hl]
    simpa [List.getD, List.getElem?_take, show k - 1 < k from by omega] using hn
 ·rw [val_take_drop xs k hk, val_zeros hz]; simp
theorem Lim_zero {xs : List Nat} (h : Lim xs) : val xs = 0 ↔ xs = [] := by
 constructor
 ·intro hv
  rcases h.2 with h | h
  ·exact h
  ·exfalso
   have hl : 0 < xs.length := by
    cases xs with
    | nil => simp at h
    | cons x r => simp
   have := val_take_drop xs (xs.length - 1) (by omega)
   rw [drop_getD xs (xs.length - 1) (by omega), val_cons] at this
   have hp : 0 < 10000 ^ (xs.length - 1) := Nat.pow_pos (by decide)
   have : 10000 ^ (xs.length - 1) * (xs.getD (xs.length - 1) 0 + 10000 * val (xs.drop (xs.length - 1 + 1))) = 0 := by omega
   rcases Nat.mul_eq_zero.1 this with h1 | h1 <;> omega
 ·rintro rfl; rfl
theorem Lim_ge {xs : List Nat} (h : Lim xs) (hne : xs ≠ []) : 10000 ^ (xs.length - 1) ≤ val xs := by
 have h1 : 0 < xs.getD (xs.length - 1) 0 := h.2.resolve_left hne
 have hl : 0 < xs.length := List.length_pos_iff.2 hne
 have := val_take_drop xs (xs.length - 1) (by omega)
 rw [drop_getD xs (xs.length - 1) (by omega), val_cons] at this
 rw [this]
 have : 10000 ^ (xs.length - 1) * 1 ≤ 10000 ^ (xs.length - 1) * (xs.getD (xs.length - 1) 0 + 10000 * val (xs.drop (xs.length - 1 + 1))) := Nat.mul_le_mul_left _ (by omega)
 omega
theorem val_lt_of_length {a b : List Nat} (la : Lo a) (lb : Lim b) (h : a.length < b.length) : val a < val b := by
 have h1 := val_lt la
 have h2 := Lim_ge lb (by rintro rfl; simp at h)
 have h3 : 10000 ^ a.length ≤ 10000 ^ (b.length - 1) := Nat.pow_le_pow_right (by decide) (by omega)
 omega
theorem getD_past (xs : List Nat) (k : Nat) (h : xs.length ≤ k) : xs.getD k 0 = 0 := by simp [List.getD, List.getElem?_eq_none h]
theorem val_take_next (xs : List Nat) (k : Nat) : val (xs.take (k + 1)) = val (xs.take k) + 10000 ^ k * xs.getD k 0 := by
 by_cases hk : k < xs.length
 ·exact val_take_succ xs k hk
 ·rw [getD_past xs k (by omega), List.take_of_length_le (by omega), List.take_of_length_le (by omega)]; simp
theorem Lo_set {zs : List Nat} (h : Lo zs) (k c : Nat) (hc : c < 10000) : Lo (zs.set k c) := by
 intro x hx
 rcases List.mem_or_eq_of_mem_set hx with h1 | h1
 ·exact h x h1
 ·omega
theorem Lo_zeros (n : Nat) : Lo (List.replicate n 0) := by
 intro x hx
 rw [List.eq_of_mem_replicate hx]; decide
theorem sub_round {P Z X Y b x y : Nat} (h : Z + Y = X + P * b) (hx : x < 10000) (hy : y < 10000) (hb : b ≤ 1) :
 Z + P * (if x < y + b then x + 10000 - (y + b) else x - (y + b)) + (Y + P * y) = X + P * x + P * 10000 * (if x < y + b then 1 else 0) := by
 split
 ·have : P * (x + 10000 - (y + b)) + P * y + P * b = P * x + P * 10000 := by
   rw [← Nat.mul_add, ← Nat.mul_add, ← Nat.mul_add]; congr 1; omega
  omega
 ·have : P * (x - (y + b)) + P * y + P * b = P * x := by
   rw [← Nat.mul_add, ← Nat.mul_add]; congr 1; omega
  omega
theorem sub_end {xs ys zs : List Nat} {b n : Nat} (lz : Lo zs) (hz : zs.length = n) (hle : val ys ≤ val xs) (h : val zs + val ys = val xs + 10000 ^ n * b) : val zs = val xs - val ys := by
 have h1 := val_lt lz
 rw [hz] at h1
 rcases Nat.eq_zero_or_pos b with rfl | hb
 ·omega
 ·have : 10000 ^ n * 1 ≤ 10000 ^ n * b := Nat.mul_le_mul_left _ hb
  omega
theorem val_set (zs : List Nat) (k c : Nat) (hk : k < zs.length) : val (zs.set k c) + 10000 ^ k * zs.getD k 0 = val zs + 10000 ^ k * c := by
 have h1 := val_take_drop zs k (by omega)
 have h2 := val_take_drop (zs.set k c) k (by simp; omega)
 rw [drop_getD zs k hk, val_cons] at h1
 rw [drop_getD (zs.set k c) k (by simpa using hk), val_cons, List.take_set_of_le (Nat.le_refl k), List.drop_set_of_lt (by omega)] at h2
 rw [show (zs.set k c).getD k 0 = c from by simp [List.getD, hk]] at h2
 rw [h1, h2, Nat.mul_add, Nat.mul_add]
 omega
theorem getD_set_ne (zs : List Nat) (k c j : Nat) (h : k ≠ j) : (zs.set k c).getD j 0 = zs.getD j 0 := by simp [List.getD, List.getElem?_set_ne h]
open Go.RowKit
def lcells (xs : List Nat) : List Value := xs.map fun (x : Nat) => Value.int .i64 (x : Int)
def Own (w : World) (v : Value) (xs : List Nat) : Prop := w.ownsRow 0 3 1 v xs.length (lcells xs)
theorem Own.nil (w : World) : Own w (.slice none 0 0) [] := World.ownsRow_nil _ _ _ _
theorem Own.below {w w' : World} {v : Value} {xs : List Nat} (h : Own w v xs) (hb : Below w.heap.size w w') : Own w' v xs := by
 refine ⟨h.1, ?_⟩
 rcases h.2 with h2 | ⟨g, cap, cur, hv, hg, hh, r⟩
 ·exact .inl h2
 ·exact .inr ⟨g, cap, cur, hv, hg, by rw [hb.block g (Array.getElem?_eq_some_iff.1 hh).1]; exact hh, r⟩
theorem lcells_get (xs : List Nat) (i : Nat) (h : i < xs.length) : (lcells xs)[i]? = some (.int .i64 (xs.getD i 0 : Nat)) := by
 simp [lcells, List.getD, List.getElem?_eq_getElem h]
theorem Own.open_ {w : World} {v : Value} {xs : List Nat} (h : Own w v xs) : ∃ ao cap, v = .slice ao xs.length cap ∧ xs.length ≤ cap ∧ cap ≤ 9223372036854775807 ∧
 (∀ i, i < xs.length → ∃ b, ao = some ⟨b, 0, none⟩ ∧ w.cell? ⟨b, i, none⟩ = some (.int .i64 (xs.getD i 0 : Nat))) ∧ (ao = none → xs = [] ∧ cap = 0) ∧ (∀ b, ao = some b → ∃ g, b = ⟨g, 0, none⟩) := by
 rcases h.2 with ⟨rfl, hn⟩ | ⟨g, cap, cur, rfl, hg, hh, h1, h2, h3, h4⟩
 ·have : xs = [] := List.eq_nil_of_length_eq_zero hn
  subst this
  exact ⟨none, 0, rfl, by simp, by simp, by simp, by simp, by simp⟩
 ·refine ⟨some ⟨g, 0, none⟩, cap, rfl, h1, by simpa [maxLen] using h2, fun i hi => ⟨g, rfl, ?_⟩, by simp, by simp⟩
  have h5 := lcells_get xs i hi
  rw [← h4, Nat.mul_one, List.getElem?_take, if_pos hi] at h5
  simp only [World.cell?, hh]
  simpa using h5
theorem Own.cut {w : World} {ao : Option Addr} {cap : Nat} {xs : List Nat} (h : Own w (.slice ao xs.length cap) xs) (k : Nat) (hk : k ≤ xs.length) : Own w (.slice ao k cap) (xs.take k) := by
 have hl : (xs.take k).length = k := by rw [List.length_take, Nat.min_eq_left hk]
 unfold Own World.ownsRow
 rw [hl]
 refine ⟨by simp [lcells, Nat.min_eq_left hk], ?_⟩
 rcases h.2 with ⟨hv, hn⟩ | ⟨g, cap', cur, hv, hg, hh, h1, h2, h3, h4⟩
 ·simp only [Value.slice.injEq] at hv
  obtain ⟨rfl, hl0, rfl⟩ := hv
  exact .inl ⟨by rw [show k = 0 from by omega], by omega⟩
 ·simp only [Value.slice.injEq] at hv
  obtain ⟨rfl, _, rfl⟩ := hv
  refine .inr ⟨g, cap, cur, rfl, hg, hh, by omega, h2, h3, ?_⟩
  rw [Nat.mul_one] at h4 ⊢
  have : List.take k (lcells xs) = lcells (xs.take k) := by simp [lcells, List.map_take]
  rw [← this, ← h4, List.take_take, Nat.min_eq_left hk]
theorem lcells_set (zs : List Nat) (k c : Nat) : (lcells zs).set k (.int .i64 (c : Nat)) = lcells (zs.set k c) := by simp [lcells, List.map_set]
theorem Own.stored {w : World} {g n cap : Nat} {zs : List Nat} (h : Own w (.slice (some ⟨g, 0, none⟩) n cap) zs) (hn : zs.length = n) (k c : Nat) :
 Own (w.setCell ⟨g, k, none⟩ (.int .i64 (c : Nat))) (.slice (some ⟨g, 0, none⟩) n cap) (zs.set k c) := by
 subst hn
 have := (World.ownsRow.stored (w := w) h k (.int .i64 (c : Nat))).1
 rw [lcells_set] at this
 unfold Own
 rw [List.length_set]
 exact this
theorem Own.stored_int {w : World} {g n cap : Nat} {zs : List Nat} (h : Own w (.slice (some ⟨g, 0, none⟩) n cap) zs) (hn : zs.length = n) (k c : Nat) {z : Int} (hz : z = (c : Int)) :
 Own (w.setCell ⟨g, k, none⟩ (.int .i64 z)) (.slice (some ⟨g, 0, none⟩) n cap) (zs.set k c) := by rw [hz]; exact h.stored hn k c
theorem Own.cell {w : World} {g n cap : Nat} {zs : List Nat} (h : Own w (.slice (some ⟨g, 0, none⟩) n cap) zs) (hn : zs.length = n) (k : Nat) (hk : k < n) :
 w.cell? ⟨g, k, none⟩ = some (.int .i64 (zs.getD k 0 : Nat)) := by
 subst hn
 rw [World.ownsRow.cellAt h k (by omega), lcells_get zs k hk]
theorem Own.frozen {w : World} {g n cap : Nat} {zs : List Nat} (h : Own w (.slice (some ⟨g, 0, none⟩) n cap) zs) (hn : zs.length = n) (k : Nat) : w.frozen? ⟨g, k, none⟩ = false := by
 subst hn
 exact World.ownsRow.frozenAt h k
theorem Own.lt {w : World} {g n cap : Nat} {zs : List Nat} (h : Own w (.slice (some ⟨g, 0, none⟩) n cap) zs) : g < w.heap.size := (World.ownsRow.lt h g rfl).2
theorem Tryz.info3 : (Tryz.prog.info? 3).map (fun i => (i.zero, i.size, i.bytes)) = some (some (.int .i64 0), 1, 8) := by kernel_rfl
theorem make_digits (w : World) {ops : Array Oper} {rest : List Oper} {o : Oper} {a : Act} {Q : Exit → Act → World → Prop}
 (hg : o.guard = none) (l c : Operand) (hop : o.op = Op.makeSlice 51 l c) (L C : Int) (n : Nat) (hl : a.eval l = .int .i64 L) (hc : a.eval c = .int .i64 C) (hL : L = (n : Int)) (hC : C = (n : Int)) (b : n ≤ 1000000000000)
 (hK : ∀ w', Own w' (.slice (some ⟨w.heap.size, 0, none⟩) n n) (List.replicate n 0) → Below w.heap.size w w' → wpList Tryz.prog ops Q rest (a.put o.dst (.slice (some ⟨w.heap.size, 0, none⟩) n n)) w') :
 wpList Tryz.prog ops Q (o :: rest) a w := by
 obtain ⟨i, hi, hz0, hz1, hz2⟩ := info_parts Tryz.info3
 refine wpList_make_full w hg l c 51 hop 0 3 i (.int .i64 0) 1 Tryz.underlying51 hi hz0 hz1 .i64 .i64 L C n hl hc hL hC (by rw [hz2]; omega) (by unfold maxLen; omega) (Nat.zero_le _) ?_
 intro w' hown hgrow
 refine hK w' ?_ ((Below.refl _ _).grown hgrow (Nat.le_refl _) (by simp))
 unfold Own
 rw [List.length_replicate]
 rw [show (Value.int IntKind.i64 0).cells = #[.int .i64 0] from rfl, toList_madeCells_one, Nat.mul_one] at hown
 simpa [lcells] using hown
open Go.RowKit
def TrimOut (v0 : Value) (xs : List Nat) (v : Value) : Prop := ∃ ys, Lim ys ∧ val ys = val xs ∧ ys.length ≤ xs.length ∧ ∀ W, Own W v0 xs → Own W v ys
set_option maxHeartbeats 400000 in
theorem plain_any (v : Value) (xs : List Nat) (w : World) (h : Own w v xs) (lo : Lo xs) :
 Calls Tryz.prog 233 #[v] w fun e w' => (∃ v', e = .returned v' ∧ TrimOut v xs v') ∧ w' = w := by
 obtain ⟨ao, cap, rfl, hc, hm, hcell, hnil, _⟩ := h.open_
 have HH := Hid.mk h
 clear h
 have HL := Hid.mk lo
 clear lo
 go_enter Tryz.func233, Tryz.ntmps233
 go_wp2
 go_loop [3] (fun n => ∃ k : Nat, k ≤ xs.length ∧ n = .int .i64 k ∧ ∀ x ∈ xs.drop k, x = 0) (fun n => (intOf n).toNat)
 case atStart => exact ⟨xs.length, Nat.le_refl _, rfl, by simp⟩
 case round =>
  obtain ⟨k, hk, rfl, hz⟩ := hrel
  by_cases h0 : k = 0
  ·subst h0
   go_wp2
   go_ret
   have T := trim_spec HL.out 0 (Nat.zero_le _) hz (.inl rfl)
   exact ⟨⟨_, rfl, _, T.1, T.2.1, by omega, fun W hW => hW.cut 0 (Nat.zero_le _)⟩, rfl⟩
  ·obtain ⟨b, rfl, hb⟩ := hcell (k - 1) (by omega)
   obtain ⟨x, hx⟩ : ∃ x, x = xs.getD (k - 1) 0 := ⟨_, rfl⟩
   rw [← hx] at hb
   clear hcell
   have HX := Hid.mk hx
   clear hx
   go_wp2
   ·have hx0 : ((x : Int) == 0) = true := by assumption
    have hx1 : x = 0 := by simpa using hx0
    go_round
    case rel =>
     refine ⟨k - 1, by omega, by go_num, fun y hy => ?_⟩
     rw [drop_getD xs (k - 1) (by omega), ← HX.out, show k - 1 + 1 = k from by omega] at hy
     rcases List.mem_cons.1 hy with hy | hy
     ·omega
     ·exact hz y hy
    case measure => simp [intOf]; omega
   ·have hx0 : ((x : Int) == 0) = false := by assumption
    have hx1 : x ≠ 0 := by simpa using hx0
    go_ret
    have T := trim_spec HL.out k hk hz (.inr (by rw [← HX.out]; omega))
    exact ⟨⟨_, rfl, _, T.1, T.2.1, by omega, fun W hW => hW.cut k hk⟩, rfl⟩
end Go.Proofs.YtfjbijpagaipnabGreatDoor.R
