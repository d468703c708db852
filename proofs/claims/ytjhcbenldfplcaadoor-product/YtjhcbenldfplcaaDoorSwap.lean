/- Rows of rows: all of them appended to none, two of them swapped. -/
import Derived.Test.YtjhcbenldfplcaaDoorAlg
namespace Go.Proofs.YtjhcbenldfplcaaDoor
open Go.RowKit

/-- 'append(mat(nil), p...)'. -/
theorem append_all (w : World) {ops : Array Oper} {rest : List Oper} {o : Oper} {a : Act} {Q : Exit → Act → World → Prop} (hgd : o.guard = none) (s x : Operand)
    (ho : o.op = .call { callee := .builtin .append, args := #[s, x], argTypes := #[31, 31] }) (hs : a.eval s = .slice none 0 0) (B n c g cap : Nat) (gs : Nat → Nat) (e : Nat → Nat → Int)
    (hx : a.eval x = .slice (some ⟨g, 0, none⟩) n cap) (hm : Mat B w (.slice (some ⟨g, 0, none⟩) n cap) n c gs e) (hn : n ≤ 10000)
    (hK : ∀ v' w', Mat w.heap.size w' v' n c gs e → Below w.heap.size w w' → wpList Tryd.prog ops Q rest (a.put o.dst v') w') : wpList Tryd.prog ops Q (o :: rest) a w := by
  obtain ⟨i, hi, hz0, hz1, hz2⟩ := info_parts Tryd.info39'
  refine wpList_append_own w hgd s x 31 ho w.heap.size 39 i (.slice none 0 0) 1 24 Tryd.underlying31 hi hz0 hz1 hz2 rfl (by decide) _ 0 [] hs (World.ownsRow_nil _ _ _ _) ⟨g, 0, none⟩ n cap (rcells n c gs) hx (by simp [rcells]) ?_ ?_ ?_ ?_ (Nat.le_refl _) ?_
  · exact World.ownsRow.cells hm.1 rfl
  · intro u hu
    obtain ⟨j, _, rfl⟩ := List.mem_map.1 hu
    rfl
  · unfold maxLen; omega
  · omega
  · intro v' w' k1 k2 _
    have hb : Below w.heap.size w w' := (Below.refl _ _).grown k2 (Nat.le_refl _) (by simp [Value.ownBlock])
    rw [Nat.zero_add, List.nil_append] at k1
    exact hK v' w' ⟨k1, fun j hj => (hm.2 j hj).below hb (hm.2 j hj).lt⟩ hb
theorem rcells_swap (n c : Nat) (gs : Nat → Nat) (hn : 0 < n) : ((rcells n c gs).set 0 (rowV c (gs (n - 1)))).set (n - 1) (rowV c (gs 0)) = rcells n c (fun i => gs (swp n i)) := by
  apply List.ext_getElem?
  intro k
  simp only [rcells, List.getElem?_set, List.length_map, List.length_range, List.length_set, List.getElem?_map, swp]
  by_cases h1 : n - 1 = k
  · subst h1
    simp [show n - 1 < n from by omega]
  · by_cases h2 : 0 = k
    · subst h2
      have h3 : ¬ (0 = n - 1) := fun e => h1 e.symm
      simp [h1, h3, hn]
    · have h3 : ¬ (k = n - 1) := fun e => h1 e.symm
      have h4 : ¬ (k = 0) := fun e => h2 e.symm
      by_cases h5 : k < n
      · simp [h1, h2, h3, h4, h5]
      · simp [h1, h2, h5]
theorem Mat.swap {B : Nat} {w : World} {n c cap g : Nat} {gs : Nat → Nat} {e : Nat → Nat → Int} (h : Mat B w (.slice (some ⟨g, 0, none⟩) n cap) n c gs e) (hn : 0 < n) :
    Mat B ((w.setCell ⟨g, 0, none⟩ (.slice (some ⟨gs (n - 1), 0, none⟩) c c)).setCell ⟨g, n - 1, none⟩ (.slice (some ⟨gs 0, 0, none⟩) c c)) (.slice (some ⟨g, 0, none⟩) n cap) n c (fun i => gs (swp n i)) (fun i => e (swp n i)) := by
  have hty : Ty w g 39 := by
    rcases h.shape with ⟨h1, _⟩ | ⟨g', cap', h1, _, _, _, _, h2, _⟩
    · simp at h1
    · simp at h1; rw [h1.1]; exact h2
  refine ⟨?_, fun i hi => ?_⟩
  · have h1 := (World.ownsRow.stored h.1 0 (.slice (some ⟨gs (n - 1), 0, none⟩) c c)).1
    have h2 := (World.ownsRow.stored h1 (n - 1) (.slice (some ⟨gs 0, 0, none⟩) c c)).1
    have h3 := rcells_swap n c gs hn
    unfold rowV at h3
    rw [h3] at h2
    exact h2
  · have hs : swp n i < n := by unfold swp; split <;> (try split) <;> omega
    have h1 := h.2 (swp n i) hs
    have hne : g ≠ gs (swp n i) := hty.ne h1.ty (by decide)
    exact (h1.other hne _).other hne _
/-- The first row is turned: the rest stays. -/
theorem Mat.first {B : Nat} {w w' : World} {v : Value} {n c : Nat} {gs : Nat → Nat} {e : Nat → Nat → Int} {f : Nat → Int} (h : Mat B w v n c gs e) (hn : 0 < n) (hne : ∀ i, i < n → 0 < i → gs 0 ≠ gs i) (hg : w.grownBy w' (some (gs 0))) (hr : IRow w' (gs 0) c f) :
    Mat B w' v n c gs (fun i => if i = 0 then f else e i) := by
  refine ⟨⟨h.1.1, ?_⟩, fun i hi => ?_⟩
  · rcases h.1.2 with h2 | ⟨g, cap, cur, hv, hg', hh, r⟩
    · exact .inl h2
    · have hty : Ty w g 39 := ⟨_, _, hh⟩
      have hne' : g ≠ gs 0 := hty.ne (h.2 0 hn).ty (by decide)
      exact .inr ⟨g, cap, cur, hv, hg', by rw [hg.block g (Array.getElem?_eq_some_iff.1 hh).1 (fun e => hne' (by injection e))]; exact hh, r⟩
  · by_cases hi0 : i = 0
    · subst hi0; simpa using hr
    · simp only [hi0, if_false]
      exact (h.2 i hi).grown hg (hne i hi (by omega))
theorem scale_next (f : Int) (e : Nat → Nat → Int) (j t : Nat) : upd (fun t => if t < j then f * e t 0 else e t 0) j (f * e j 0) t = if t < j + 1 then f * e t 0 else e t 0 := by
  unfold upd
  by_cases h : t = j
  · subst h; simp
  · rcases Nat.lt_or_gt_of_ne h with h1 | h1
    · simp [h, h1, show t < j + 1 from by omega]
    · simp [h, show ¬ t < j from by omega, show ¬ t < j + 1 from by omega]
end Go.Proofs.YtjhcbenldfplcaaDoor
