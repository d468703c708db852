import Derived.Test.YtmijbimanaalbaaGreatDoorC21
import Derived.Deep.RegionLawGrows
/- Rows of cells that grow, and are cut. -/
namespace Go.Proofs.YtmijbimanaalbaaGreatDoor
open Go.RowKit

/-- A row of the cells xs (one cell an element). -/
def RowG (w : World) (T : TypeId) (v : Value) (xs : List Value) : Prop := (v = .slice none 0 0 ∧ xs = []) ∨ ∃ g cap cur, v = .slice (some ⟨g, 0, none⟩) xs.length cap ∧ w.heap[g]? = some (.cells cur T (0, 0)) ∧ xs.length ≤ cap ∧ cap ≤ cur.size ∧ cap ≤ maxLen ∧ ∀ i, i < xs.length → cur[i]? = xs[i]?
theorem RowG.nil (w : World) (T : TypeId) : RowG w T (.slice none 0 0) [] := .inl ⟨rfl, rfl⟩
theorem RowG.shape {w : World} {T : TypeId} {v : Value} {xs : List Value} (h : RowG w T v xs) : ∃ ao cap, v = .slice ao xs.length cap ∧ xs.length ≤ cap ∧ cap ≤ 9223372036854775807 ∧ (ao = none → xs.length = 0 ∧ cap = 0) ∧ (∀ i, i < xs.length → ∃ g, ao = some ⟨g, 0, none⟩ ∧ w.cell? ⟨g, i, none⟩ = xs[i]?) := by
  rcases h with ⟨rfl, rfl⟩ | ⟨g, cap, cur, rfl, h1, h2, h3, h4, h5⟩
  · exact ⟨none, 0, rfl, Nat.le_refl _, by omega, fun _ => ⟨rfl, rfl⟩, fun i hi => by simp at hi⟩
  · refine ⟨_, cap, rfl, h2, by simpa [maxLen] using h4, (fun e => by cases e), fun i hi => ⟨g, rfl, ?_⟩⟩
    rw [← h5 i hi]
    simp [World.cell?, h1]
theorem RowG.of_block {w w' : World} {T : TypeId} {v : Value} {xs : List Value} (h : RowG w T v xs) (hb : ∀ g, v.ownBlock = some g → w'.heap[g]? = w.heap[g]?) : RowG w' T v xs := by
  rcases h with h | ⟨g, cap, cur, rfl, h1, h2⟩
  · exact .inl h
  · exact .inr ⟨g, cap, cur, rfl, by rw [hb g rfl]; exact h1, h2⟩
theorem RowG.own {w : World} {T : TypeId} {v : Value} {xs : List Value} (h : RowG w T v xs) : ∀ g, v.ownBlock = some g → g < w.heap.size ∧ Ty w g T := by
  intro g hg
  rcases h with ⟨rfl, rfl⟩ | ⟨g', cap, cur, rfl, h1, h2⟩
  · simp [Value.ownBlock] at hg
  · simp [Value.ownBlock] at hg
    subst hg
    exact ⟨(Array.getElem?_eq_some_iff.1 h1).1, _, _, h1⟩
theorem RowG.below {w w' : World} {T : TypeId} {v : Value} {xs : List Value} (h : RowG w T v xs) (hb : Below w.heap.size w w') : RowG w' T v xs := h.of_block (fun g hg => hb.block g (h.own g hg).1)
theorem RowG.of_owns {w : World} {T : TypeId} {B : Nat} {v : Value} {xs : List Value} (h : w.ownsRow B T 1 v xs.length xs) : RowG w T v xs := by
  rcases h.2 with ⟨h1, h2⟩ | ⟨g, cap, cur, h1, h2, h3, h4, h5, h6, h7⟩
  · exact .inl ⟨h1, List.eq_nil_of_length_eq_zero h2⟩
  · refine .inr ⟨g, cap, cur, h1, h3, h4, by omega, h5, fun i hi => ?_⟩
    rw [Nat.mul_one] at h7
    have : xs[i]? = (cur.toList.take xs.length)[i]? := by rw [h7]
    rw [this, List.getElem?_take_of_lt hi]
    simp
/-- What an append of one element leaves. -/
def AppOut (w : World) (T : TypeId) (v : Value) (xs : List Value) (x : Value) (v' : Value) (w' : World) : Prop := RowG w' T v' (xs ++ [x]) ∧ w.grownBy w' v.ownBlock ∧ ∀ g, v'.ownBlock = some g → v.ownBlock = some g ∨ w.heap.size ≤ g
/-- append(row, x), as one step of a region that draws. -/
theorem step_append_row {P : Program} {ops : Array Oper} {o : Oper} {a : Act} {w : World} {K : Act → World → Prop} {Q : Exit → Act → World → Prop} {E : Prop}
    (hg : o.guard = none) (s x : Operand) (t : TypeId) (hop : o.op = Op.call { callee := Callee.builtin Builtin.append, args := #[s, x], argTypes := #[t, t] })
    (T : TypeId) (i : TypeInfo) (z : Value) (bytes : Nat) (h1 : P.underlying t = some (.slice T)) (h2 : P.info? T = some i) (h3 : i.zero = some z) (h4 : i.size = 1) (h5 : i.bytes = bytes) (h6 : z.cells.size = 1)
    (v : Value) (xs : List Value) (hs : a.eval s = v) (hrow : RowG w T v xs) (ad : Addr) (u : Value) (hx : a.eval x = .slice (some ad) 1 1) (hc : w.cell? (ad.add 0) = some u) (h1c : u.oneCell' = true)
    (b1 : xs.length + 1 ≤ maxLen) (b2 : (xs.length + 1) * bytes ≤ 140737488355328)
    (hK : ∀ v' w', AppOut w T v xs u v' w' → K (a.put o.dst v') w') :
    if Region.wanted o (yielded ops a.tmps) = true then Oper.wp P o a w K Q else E := by
  have hcs : ∀ j y, [u][j]? = some y → w.cell? (ad.add j) = some y := by
    intro j y hj
    match j, hj with
    | 0, hj => simp at hj; subst hj; exact hc
  have h1s : ∀ y ∈ [u], y.oneCell' = true := by
    intro y hy
    simp at hy
    subst hy
    exact h1c
  rcases id hrow with ⟨rfl, rfl⟩ | ⟨g, cap, cur, rfl, q1, q2, q3, q4, q5⟩
  · refine step_append_grows hg s x t hop T i z 1 bytes h1 h2 h3 h4 h5 h6 (by decide) none 0 0 [] hs (fun _ => ⟨rfl, rfl⟩) rfl (fun b hb => by cases hb) ad 1 1 [u] hx rfl hcs h1s (by decide) (by simpa using b1) (by simpa using b2) ?_
    intro v' w' r1 r2
    refine hK v' w' ⟨RowG.of_owns (by simpa using r1), r2, fun g hg => .inr (World.ownsRow.lt r1 g hg).1⟩
  · by_cases hroom : xs.length + 1 ≤ cap
    · refine step_append_room hg s x t hop T i 1 h1 h2 h4 g 0 xs.length cap hs ad 1 1 [u] hx rfl hcs h1s hroom (fun j hj => ?_) ?_
      · have hj0 : j = 0 := by simpa using hj
        subst hj0
        have hlt : xs.length < cur.size := by omega
        refine ⟨?_, ?_⟩
        · simp [World.cell?, q1, hlt]
        · simp [World.frozen?, q1]
      · have e : w.setCells g (0 + xs.length * 1) [u] = w.setCell ⟨g, xs.length, none⟩ u := by
          rw [Nat.mul_one, Nat.zero_add]; rfl
        rw [e]
        refine hK _ _ ⟨.inr ⟨g, cap, cur.setIfInBounds xs.length u, by simp, heap_setCell_same _ _ _ _ _ _ q1, by simpa using hroom, by simpa using q3, q4, fun j hj => ?_⟩, ⟨rfl, rfl, rfl, by simp [World.setCell], fun k _ hne => ?_⟩, fun g' hg' => .inl hg'⟩
        · by_cases hjn : j = xs.length
          · subst hjn
            rw [Array.getElem?_setIfInBounds_self, if_pos (by omega)]
            simp
          · have hj' : j < xs.length := by simp at hj; omega
            rw [Array.getElem?_setIfInBounds_ne (by omega), q5 j hj', List.getElem?_append_left hj']
        · exact Below.heap_setCell _ _ _ _ (fun e => hne (by simp [Value.ownBlock, e]))
    · refine step_append_grows hg s x t hop T i z 1 bytes h1 h2 h3 h4 h5 h6 (by decide) (some ⟨g, 0, none⟩) xs.length cap xs hs (fun e => by cases e) (by simp) (fun b hb j y hj => ?_) ad 1 1 [u] hx rfl hcs h1s (by omega) b1 b2 ?_
      · injection hb with hb
        subst hb
        have hj' : j < xs.length := by
          rcases Nat.lt_or_ge j xs.length with h | h
          · exact h
          · rw [List.getElem?_eq_none h] at hj; cases hj
        have := q5 j hj'
        rw [hj] at this
        have e : Addr.add ⟨g, 0, none⟩ j = ⟨g, j, none⟩ := by simp [Addr.add]; exact fun h => h.symm
        rw [e]
        simp only [World.cell?, q1]
        exact this
      · intro v' w' r1 r2
        refine hK v' w' ⟨RowG.of_owns (by simpa using r1), ⟨r2.os, r2.tape, r2.output, r2.size, fun k hk _ => r2.block k hk (by simp)⟩, fun g' hg' => .inr (World.ownsRow.lt r1 g' hg').1⟩
/-- append(row, x), in a list of operations. -/
theorem wpList_append_row {P : Program} (w : World) {ops : Array Oper} {rest : List Oper} {o : Oper} {a : Act} {Q : Exit → Act → World → Prop}
    (hg : o.guard = none) (s x : Operand) (t : TypeId) (hop : o.op = Op.call { callee := Callee.builtin Builtin.append, args := #[s, x], argTypes := #[t, t] })
    (T : TypeId) (i : TypeInfo) (z : Value) (bytes : Nat) (h1 : P.underlying t = some (.slice T)) (h2 : P.info? T = some i) (h3 : i.zero = some z) (h4 : i.size = 1) (h5 : i.bytes = bytes) (h6 : z.cells.size = 1)
    (v : Value) (xs : List Value) (hs : a.eval s = v) (hrow : RowG w T v xs) (ad : Addr) (u : Value) (hx : a.eval x = .slice (some ad) 1 1) (hc : w.cell? (ad.add 0) = some u) (h1c : u.oneCell' = true)
    (b1 : xs.length + 1 ≤ maxLen) (b2 : (xs.length + 1) * bytes ≤ 140737488355328)
    (hK : ∀ v' w', AppOut w T v xs u v' w' → wpList P ops Q rest (a.put o.dst v') w') : wpList P ops Q (o :: rest) a w := by
  refine wpList_plain hg fun K hK' => ?_
  have h := step_append_row (P := P) (ops := ops) (Q := Q) (E := False) (K := K) hg s x t hop T i z bytes h1 h2 h3 h4 h5 h6 v xs hs hrow ad u hx hc h1c b1 b2 (fun v' w' h => hK' _ _ (hK v' w' h))
  rw [if_pos (by simp [Region.wanted, hg])] at h
  exact h
end Go.Proofs.YtmijbimanaalbaaGreatDoor

/- matriceslaw.twin: Show, Free, ends, twins. -/
namespace Go.Proofs.YtmijbimanaalbaaGreatDoor
open Go.RowKit

/-- No handle stands for two. -/
def Dst (ms : List Hm) : Prop := ∀ i j x y, i < 24 → j < 24 → ms.getD i none = some x → ms.getD j none = some y → x.1 = y.1 → i = j
theorem show_uniq {ms : List Hm} (hd : Dst ms) {h e e' : Int} {t t' : List UInt8} (h1 : ShowOut ms h t e) (h2 : ShowOut ms h t' e') : t = t' ∧ e = e' := by
  rcases h1 with ⟨rfl, k, x, hk, hx, hxh, rfl⟩ | ⟨rfl, rfl, hn⟩
  · rcases h2 with ⟨rfl, k', x', hk', hx', hxh', rfl⟩ | ⟨rfl, rfl, hn⟩
    · have := hd k k' x x' hk hk' hx hx' (by omega)
      subst this
      rw [hx] at hx'
      injection hx' with hx'
      subst hx'
      exact ⟨rfl, rfl⟩
    · exact absurd hxh (hn k hk x hx)
  · rcases h2 with ⟨rfl, k', x', hk', hx', hxh', rfl⟩ | ⟨rfl, rfl, -⟩
    · exact absurd hxh' (hn k' hk' x' hx')
    · exact ⟨rfl, rfl⟩
set_option maxRecDepth 100000 in
set_option maxHeartbeats 1000000 in
theorem twShow_any (B T b1 b2 : Nat) (h : Int) (ms : List Hm) (nx : Nat) (w : World) (hst : TwH B w T b1 b2 ms nx) :
    Calls Tryz.prog 72 #[.pointer (some ⟨T, 0, none⟩), .int .i64 h] w fun x w' => ∃ t e, x = .returned (.tuple #[.string ⟨t.toArray⟩, .int .i64 e]) ∧ ShowOut ms h t e ∧ Below w.heap.size w w' := by
  obtain ⟨c0, c1, c2, -⟩ := hst.1.cells
  have H := Hid.mk hst
  clear hst
  go_enter Tryz.func72, Tryz.ntmps72
  go_wp2_with fail
  refine (show_any b1 h ms nx _ H.out.2.1 H.out.2.2.2.2.1.tab).mono ?_
  rintro x w1 ⟨t, e, rfl, hs, hb⟩
  have K := Hid.mk (And.intro hs hb)
  clear hs hb
  go_wp2_with fail
  go_ret2
  exact ⟨t, e, rfl, K.out.1, K.out.2⟩
/-- How Free answers. -/
def FreeRel (ms : List Hm) (h e : Int) (ms' : List Hm) : Prop := (e = 0 ∧ ∃ k x, k < 24 ∧ ms.getD k none = some x ∧ (x.1 : Int) = h ∧ ms' = ms.set k none) ∨ (e = 2 ∧ ms' = ms ∧ ∀ k, k < 24 → ∀ x, ms.getD k none = some x → (x.1 : Int) ≠ h)
theorem free_rel (h : Int) (ms : List Hm) (nx : Nat) (hd : Dst ms) : ∃ e ms', FreeRel ms h e ms' ∧ ∀ b w, Held w b ms nx →
    Calls Tryz.prog 164 #[.pointer (some ⟨b, 0, none⟩), .int .i64 h] w fun x w' => x = .returned (.int .i64 e) ∧ Held w' b ms' nx ∧ Fr b w w' := by
  by_cases hk : ∃ k x, k < 24 ∧ ms.getD k none = some x ∧ (x.1 : Int) = h
  · obtain ⟨k, x, hk, hx, hxh⟩ := hk
    refine ⟨0, ms.set k none, .inl ⟨rfl, k, x, hk, hx, hxh, rfl⟩, fun b w hst => (free_held b h ms nx w hst).mono ?_⟩
    rintro y w' ⟨i, rfl, hf⟩
    rcases hf with ⟨rfl, k', hk', ⟨x', hx', hxh'⟩, hH, hF⟩ | ⟨rfl, rfl, hn⟩
    · have := hd k k' x x' hk hk' hx hx' (by omega)
      subst this
      exact ⟨rfl, hH, hF⟩
    · exact absurd hxh (hn k hk x hx)
  · refine ⟨2, ms, .inr ⟨rfl, rfl, fun k hk' x hx e => hk ⟨k, x, hk', hx, e⟩⟩, fun b w hst => (free_held b h ms nx w hst).mono ?_⟩
    rintro y w' ⟨i, rfl, hf⟩
    rcases hf with ⟨rfl, k', hk', ⟨x', hx', hxh'⟩, hH, hF⟩ | ⟨rfl, rfl, hn⟩
    · exact absurd ⟨k', x', hk', hx', hxh'⟩ hk
    · exact ⟨rfl, hst, Fr.refl _ _⟩
set_option maxRecDepth 100000 in
set_option maxHeartbeats 1000000 in
theorem twFree_any (B T b1 b2 : Nat) (h : Int) (ms : List Hm) (nx : Nat) (w : World) (hst : TwH B w T b1 b2 ms nx) (hd : Dst ms) :
    Calls Tryz.prog 106 #[.pointer (some ⟨T, 0, none⟩), .int .i64 h] w fun x w' => ∃ e ms', x = .returned (.int .i64 e) ∧ FreeRel ms h e ms' ∧ TwH B w' T b1 b2 ms' nx ∧ Chg (St2 b1 b2) w w' := by
  obtain ⟨e, ms', hrel, hcall⟩ := free_rel h ms nx hd
  obtain ⟨c0, c1, c2, -⟩ := hst.1.cells
  have H := Hid.mk (And.intro hst (And.intro hrel hcall))
  have ie : (e == e) = true := by simp
  clear hst hrel hcall
  go_enter Tryz.func106, Tryz.ntmps106
  go_wp2_with fail
  refine (H.out.2.2 b1 _ H.out.1.2.1).mono ?_
  rintro x w1 ⟨rfl, hH1, hF1⟩
  have hne1 : T ≠ b1 := H.out.1.1.ne H.out.1.2.1.ty
  have hT1 : Tw w1 T b1 b2 false := H.out.1.1.of_block (hF1.1.block T H.out.1.1.lt (by simpa using hne1))
  have hH2 : Held w1 b2 ms nx := H.out.1.2.2.1.fr hF1 (Ne.symm H.out.1.2.2.2.1)
  clear c0 c1 c2
  obtain ⟨c0, c1, c2, -⟩ := hT1.cells
  have K1 := Hid.mk (And.intro hH1 (And.intro hF1 (And.intro hT1 hH2)))
  clear hH1 hF1 hT1 hH2
  go_wp2_with fail
  refine (H.out.2.2 b2 _ K1.out.2.2.2).mono ?_
  rintro x w2 ⟨rfl, hH3, hF2⟩
  have hne2 : T ≠ b2 := K1.out.2.2.1.ne K1.out.2.2.2.ty
  have hT2 : Tw w2 T b1 b2 false := K1.out.2.2.1.of_block (hF2.1.block T K1.out.2.2.1.lt (by simpa using hne2))
  have hH1' : Held w2 b1 ms' nx := K1.out.1.fr hF2 H.out.1.2.2.2.1
  have K2 := Hid.mk (And.intro hH3 (And.intro hF2 (And.intro hT2 hH1')))
  clear hH3 hF2 hT2 hH1' c0 c1 c2
  go_wp2_with fail
  refine (like_true T _).mono ?_
  rintro x w' ⟨rfl, rfl⟩
  go_wp2_with fail
  go_ret
  obtain ⟨hTw, -, -, hbb, htab, hB1, hB2, hB3⟩ := H.out.1
  have hbel1 : Below B w w1 := K1.out.2.1.belowB hB2 (by have := hTw.lt; omega)
  have hbel2 : Below B w1 w' := K2.out.2.1.belowB hB3 (by have := hbel1.size; have := hTw.lt; omega)
  exact ⟨e, ms', rfl, H.out.2.1, ⟨K2.out.2.2.1, K2.out.2.2.2, K2.out.1, hbb, (htab.below hbel1).below hbel2, hB1, hB2, hB3⟩, (Chg.of_fr K1.out.2.1 (.inl rfl)).trans (Chg.of_fr K2.out.2.1 (.inr rfl))⟩

set_option maxRecDepth 100000 in
set_option maxHeartbeats 1000000 in
theorem twins_any (w : World) (htab : Tab w) :
    Calls Tryz.prog 34 #[] w fun x w' => ∃ T b1 b2, x = .returned (.pointer (some ⟨T, 0, none⟩)) ∧ TwH w.heap.size w' T b1 b2 (List.replicate 24 none) 0 ∧ Below w.heap.size w w' := by
  have H := Hid.mk htab
  clear htab
  go_enter Tryz.func34, Tryz.ntmps34
  go_wp2_with fail
  refine (new_held w).mono ?_
  rintro x w1 ⟨rfl, hH1, hb1⟩
  have K1 := Hid.mk (And.intro hH1 hb1)
  have hl1 := hH1.lt
  clear hH1 hb1
  go_wp2_with fail
  refine (new_held w1).mono ?_
  rintro x w2 ⟨rfl, hH2, hb2⟩
  have K2 := Hid.mk (And.intro hH2 hb2)
  have hl2 := hH2.lt
  clear hH2 hb2
  go_wp2_with fail
  go_ret
  have hbe : Below w2.heap.size w2 (w2.alloc (.cells #[.pointer (some ⟨w.heap.size, 0, none⟩), .pointer (some ⟨w1.heap.size, 0, none⟩), .bool false] 101)) := (Below.refl _ _).alloc (Nat.le_refl _) _
  have hb02 : Below w.heap.size w w2 := K1.out.2.trans (K2.out.2.mono K1.out.2.size)
  have hb03 := hb02.trans (hbe.mono hb02.size)
  exact ⟨w2.heap.size, w.heap.size, w1.heap.size, rfl, ⟨heap_alloc_new w2 _, (K1.out.1.below K2.out.2).below hbe, K2.out.1.below hbe, by omega, (TabF.of H.out).below hb03, hb02.size, Nat.le_refl _, K1.out.2.size⟩, hb03⟩
end Go.Proofs.YtmijbimanaalbaaGreatDoor
