/- append(cells, entry): a row of whole numbers that grows. -/
import Derived.Test.YtjhcbenldfplcaaDoorSide
namespace Go.Proofs.YtjhcbenldfplcaaDoor
open Go.RowKit

def GridB (B : Nat) (w : World) (sl : Value) (n : Nat) (zs : List Int) (L : Nat) : Prop :=
  zs.length = n ∧ ∃ cs, w.ownsRow B 66 2 sl n cs ∧ ∀ i, i < n → ∃ a b, cs[2 * i]? = some a ∧ cs[2 * i + 1]? = some b ∧ IsI w (.agg #[a, b]) (zs.getD i 0) L
theorem GridB.grid {B : Nat} {w : World} {sl : Value} {n L : Nat} {zs : List Int} (h : GridB B w sl n zs L) : Grid w sl n zs L := by
  obtain ⟨h0, cs, h1, h2⟩ := h
  refine ⟨h0, cs, ⟨h1.1, ?_⟩, h2⟩
  rcases h1.2 with h3 | ⟨g, cap, cur, hv, _, r⟩
  · exact .inl h3
  · exact .inr ⟨g, cap, cur, hv, Nat.zero_le _, r⟩
theorem GridB.keep {B : Nat} {w W : World} {sl : Value} {n L : Nat} {zs : List Int} (h : GridB B w sl n zs L) (hk : KT w W) : GridB B W sl n zs L := by
  obtain ⟨h0, cs, h1, h2⟩ := h
  refine ⟨h0, cs, ⟨h1.1, ?_⟩, fun i hi => ?_⟩
  · rcases h1.2 with h3 | ⟨g, cap, cur, hv, hg, hh, r⟩
    · exact .inl h3
    · exact .inr ⟨g, cap, cur, hv, hg, hk.1 g cur hh, r⟩
  · obtain ⟨a, b, e1, e2, e3⟩ := h2 i hi
    exact ⟨a, b, e1, e2, e3.keep hk.2⟩
theorem GridB.lt {B : Nat} {w : World} {sl : Value} {n L : Nat} {zs : List Int} (h : GridB B w sl n zs L) : ∀ k, sl.ownBlock = some k → B ≤ k ∧ Ty w k 66 := by
  intro k hk
  obtain ⟨h0, cs, h1, h2⟩ := h
  rcases h1.2 with ⟨rfl, _⟩ | ⟨g, cap, cur, rfl, hg, hh, r⟩
  · simp [Value.ownBlock] at hk
  · simp [Value.ownBlock] at hk
    subst hk
    exact ⟨hg, _, _, hh⟩
theorem KU.grown {w w' : World} {row : Option Nat} (h : w.grownBy w' row) (ht : ∀ k, row = some k → Ty w k 66) : KU w w' := by
  intro b arr hb
  rw [h.block b (Array.getElem?_eq_some_iff.1 hb).1 ?_]
  · exact hb
  · intro e
    obtain ⟨c, fr, h2⟩ := ht b e.symm
    rw [hb] at h2
    simp at h2
theorem append_int (w : World) {ops : Array Oper} {rest : List Oper} {o : Oper} {a : Act} {Q : Exit → Act → World → Prop} (hgd : o.guard = none) (s x : Operand)
    (ho : o.op = .call { callee := .builtin .append, args := #[s, x], argTypes := #[50, 50] }) (B : Nat) (v : Value) (n : Nat) (zs : List Int) (L : Nat) (hs : a.eval s = v) (hg : GridB B w v n zs L)
    (ad : Addr) (hx : a.eval x = .slice (some ad) 1 1) (c1 c2 : Value) (z : Int) (h0 : w.cell? (ad.add 0) = some c1) (h1 : w.cell? (ad.add 1) = some c2) (o1 : c1.oneCell' = true) (o2 : c2.oneCell' = true) (hz : IsI w (.agg #[c1, c2]) z L) (hn : n ≤ 10000) (hB : B ≤ w.heap.size)
    (hK : ∀ v' w', GridB B w' v' (n + 1) (zs ++ [z]) L → w.grownBy w' v.ownBlock → wpList Tryd.prog ops Q rest (a.put o.dst v') w') : wpList Tryd.prog ops Q (o :: rest) a w := by
  obtain ⟨i, hi, hz0, hz1, hz2⟩ := info_parts Tryd.info66
  have hlt := hg.lt
  obtain ⟨g0, cs, g1, g2⟩ := hg
  refine wpList_append_own w hgd s x 50 ho B 66 i (.agg #[.bool false, .slice none 0 0]) 2 32 Tryd.underlying50 hi hz0 hz1 hz2 rfl (by decide) v n cs hs g1 ad 1 1 [c1, c2] hx rfl ?_ ?_ ?_ ?_ hB ?_
  · intro j u hj
    match j, hj with
    | 0, hj => simp at hj; subst hj; exact h0
    | 1, hj => simp at hj; subst hj; exact h1
  · intro u hu; simp at hu; rcases hu with rfl | rfl
    · exact o1
    · exact o2
  · unfold maxLen; omega
  · omega
  · intro v' w' k1 k2 _
    have hku := KU.grown k2 (fun k hk => (hlt k hk).2)
    have hcl : cs.length = n * 2 := g1.1
    refine hK v' w' ⟨by simp [g0], cs ++ [c1, c2], k1, fun j hj => ?_⟩ k2
    by_cases hjn : j < n
    · obtain ⟨a', b', e1, e2, e3⟩ := g2 j hjn
      refine ⟨a', b', by rw [List.getElem?_append_left (by omega)]; exact e1, by rw [List.getElem?_append_left (by omega)]; exact e2, ?_⟩
      rw [show (zs ++ [z]).getD j 0 = zs.getD j 0 from by simp [List.getD, List.getElem?_append_left (show j < zs.length from by omega)]]
      exact e3.keep hku
    · have hje : j = n := by omega
      subst hje
      refine ⟨c1, c2, ?_, ?_, ?_⟩
      · rw [List.getElem?_append_right (by omega), show 2 * j - cs.length = 0 from by omega]; rfl
      · rw [List.getElem?_append_right (by omega), show 2 * j + 1 - cs.length = 1 from by omega]; rfl
      · rw [show (zs ++ [z]).getD j 0 = z from by simp [List.getD, ← g0]]
        exact hz.keep hku
theorem Fr.grown {p : Nat} {w0 w w' : World} {row : Option Nat} (h : Fr p w0 w) (hg : w.grownBy w' row) (hr : ∀ k, row = some k → w0.heap.size ≤ k) : Fr p w0 w' := by
  have hsz := h.1.size
  have key : ∀ k, k < w0.heap.size → w'.heap[k]? = w.heap[k]? := fun k hk => hg.block k (by omega) (fun e => by have := hr k e.symm; omega)
  refine ⟨⟨hg.os.trans h.1.os, hg.tape.trans h.1.tape, hg.output.trans h.1.output, Nat.le_trans hsz hg.size, fun k hk hne => ?_⟩, fun i arr hi => ?_, fun i arr hi => ?_⟩
  · rw [key k hk]; exact h.1.block k hk hne
  · rw [key i (Array.getElem?_eq_some_iff.1 hi).1]; exact h.2.1 i arr hi
  · rw [key i (Array.getElem?_eq_some_iff.1 hi).1]; exact h.2.2 i arr hi
theorem Rd.grown {w w' : World} {p : Nat} {s : ByteArray} {q : Nat} {row : Option Nat} (h : Rd w p s q) (hg : w.grownBy w' row) (hne : row ≠ some p) : Rd w' p s q := by
  unfold Rd; rw [hg.block p h.lt (Ne.symm hne)]; exact h
end Go.Proofs.YtjhcbenldfplcaaDoor
