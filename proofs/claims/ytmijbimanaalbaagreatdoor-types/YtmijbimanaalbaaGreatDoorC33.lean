import Derived.Test.YtmijbimanaalbaaGreatDoorC32
/- matricesref.M: an entry is written; what a text says. -/
namespace Go.Proofs.YtmijbimanaalbaaGreatDoor.R
open Go.RowKit

def upd2 (f : Nat → Nat → Int) (i j : Nat) (z : Int) : Nat → Nat → Int := fun a b => if a = i ∧ b = j then z else f a b
theorem KI.setN {w : World} {g o : Nat} (ht : Ty w g 138) (u : Value) : KI w (w.setCell ⟨g, o, none⟩ u) := KI.setCell (KI.refl _) ht (by decide) u
theorem heap_set2 {w : World} {g k : Nat} {cs : Array Value} {t : TypeId} (h : w.heap[g]? = some (.cells cs t (0, 0))) (a b : Value) : ((w.setCell ⟨g, k, none⟩ a).setCell ⟨g, k + 1, none⟩ b).heap[g]? = some (.cells ((cs.setIfInBounds k a).setIfInBounds (k + 1) b) t (0, 0)) := by
  rw [heap_setCell_same _ _ _ _ _ _ (heap_setCell_same _ _ _ _ _ _ h)]
theorem RRow.set {B : Nat} {w : World} {g c : Nat} {f : Nat → Int} {L : Nat} (h : RRow B w g c f L) {j : Nat} (hj : j < c) {a b : Value} {z : Int} (hz : IsN w (.agg #[a, b]) z L) (hat : AtB B (.agg #[a, b])) : RRow B ((w.setCell ⟨g, 2 * j, none⟩ a).setCell ⟨g, 2 * j + 1, none⟩ b) g c (fun k => if k = j then z else f k) L := by
  obtain ⟨cs, h1, h2, h3⟩ := h
  have hty : Ty w g 138 := ⟨_, _, h1⟩
  have hki : KI w ((w.setCell ⟨g, 2 * j, none⟩ a).setCell ⟨g, 2 * j + 1, none⟩ b) := (KI.setN hty a).trans (KI.setN (hty.setCell _ _) b)
  refine ⟨_, heap_set2 h1 a b, by simp [h2], fun k hk => ?_⟩
  by_cases hkj : k = j
  · subst hkj
    refine ⟨a, b, ?_, ?_, by simpa using hz.keep hki, hat⟩
    · rw [Array.getElem?_setIfInBounds_ne (by omega), Array.getElem?_setIfInBounds_self, if_pos (by omega)]
    · rw [Array.getElem?_setIfInBounds_self, if_pos (by simp; omega)]
  · obtain ⟨x, y, e1, e2, e3, e4⟩ := h3 k hk
    refine ⟨x, y, ?_, ?_, by simp only [hkj, if_false]; exact e3.keep hki, e4⟩
    · rw [Array.getElem?_setIfInBounds_ne (by omega), Array.getElem?_setIfInBounds_ne (by omega), e1]
    · rw [Array.getElem?_setIfInBounds_ne (by omega), Array.getElem?_setIfInBounds_ne (by omega), e2]
theorem heap_set2_ne {w : World} {g i k : Nat} (h : i ≠ g) (a b : Value) : ((w.setCell ⟨g, k, none⟩ a).setCell ⟨g, k + 1, none⟩ b).heap[i]? = w.heap[i]? := by
  rw [Below.heap_setCell _ _ _ _ (by simpa using h), Below.heap_setCell _ _ _ _ (by simpa using h)]
theorem IsR.set {B : Nat} {w : World} {b r c : Nat} {gs : Nat → Nat} {f : Nat → Nat → Int} {L : Nat} (h : IsR B w b r c gs f L) {i j : Nat} (hi : i < r) (hj : j < c) {x y : Value} {z : Int} (hz : IsN w (.agg #[x, y]) z L) (hat : AtB B (.agg #[x, y])) :
    IsR B ((w.setCell ⟨gs i, 2 * j, none⟩ x).setCell ⟨gs i, 2 * j + 1, none⟩ y) b r c gs (upd2 f i j z) L := by
  obtain ⟨h0, v, h1, h2, h3, h4⟩ := h
  have hrow := (h3 i hi).2
  obtain ⟨cs, q1, -⟩ := id hrow
  have hty : Ty w (gs i) 138 := ⟨_, _, q1⟩
  have hki : KI w ((w.setCell ⟨gs i, 2 * j, none⟩ x).setCell ⟨gs i, 2 * j + 1, none⟩ y) := (KI.setN hty x).trans (KI.setN (hty.setCell _ _) y)
  have hother : ∀ (k : Nat) (arr : Array Value) (t : TypeId), t ≠ 138 → w.heap[k]? = some (.cells arr t (0, 0)) → ((w.setCell ⟨gs i, 2 * j, none⟩ x).setCell ⟨gs i, 2 * j + 1, none⟩ y).heap[k]? = some (.cells arr t (0, 0)) := by
    intro k arr t ht hk
    rw [heap_set2_ne (fun e => by subst e; exact ht (ty_block hk hty))]
    exact hk
  refine ⟨h0, v, hother _ _ _ (by decide) h1, ⟨h2.1, ?_⟩, fun k hk => ⟨(h3 k hk).1, ?_⟩, h4⟩
  · rcases h2.2 with h5 | ⟨g, cap, cur, hv, hg, hh, r⟩
    · exact .inl h5
    · exact .inr ⟨g, cap, cur, hv, hg, hother _ _ _ (by decide) hh, r⟩
  · by_cases hki' : k = i
    · subst hki'
      have := hrow.set hj hz hat
      have e : upd2 f k j z k = fun b => if b = j then z else f k b := by
        funext b
        simp [upd2]
      rw [e]
      exact this
    · have hne : gs k ≠ gs i := by
        rcases Nat.lt_or_gt_of_ne hki' with h5 | h5
        · have := h4 k i h5 hi; omega
        · have := h4 i k h5 hk; omega
      have e : upd2 f i j z k = f k := by
        funext b
        simp [upd2, hki']
      rw [e]
      obtain ⟨cs', p1, p2, p3⟩ := (h3 k hk).2
      refine ⟨cs', by rw [heap_set2_ne hne]; exact p1, p2, fun t ht => ?_⟩
      obtain ⟨a', b', e1, e2, e3, e4⟩ := p3 t ht
      exact ⟨a', b', e1, e2, e3.keep hki, e4⟩
theorem IsR.congr {B : Nat} {w : World} {b r c : Nat} {gs : Nat → Nat} {f f' : Nat → Nat → Int} {L : Nat} (h : IsR B w b r c gs f L) (he : ∀ i j, i < r → j < c → f i j = f' i j) : IsR B w b r c gs f' L := by
  obtain ⟨h0, v, h1, h2, h3, h4⟩ := h
  refine ⟨h0, v, h1, h2, fun i hi => ⟨(h3 i hi).1, ?_⟩, h4⟩
  obtain ⟨cs, q1, q2, q3⟩ := (h3 i hi).2
  refine ⟨cs, q1, q2, fun j hj => ?_⟩
  obtain ⟨a, b, e1, e2, e3, e4⟩ := q3 j hj
  exact ⟨a, b, e1, e2, by rw [← he i j hi hj]; exact e3, e4⟩
theorem IsR.mono {B : Nat} {w : World} {b r c : Nat} {gs : Nat → Nat} {f : Nat → Nat → Int} {L M : Nat} (h : IsR B w b r c gs f L) (hM : L ≤ M) : IsR B w b r c gs f M := by
  obtain ⟨h0, v, h1, h2, h3, h4⟩ := h
  refine ⟨h0, v, h1, h2, fun i hi => ⟨(h3 i hi).1, ?_⟩, h4⟩
  obtain ⟨cs, q1, q2, q3⟩ := (h3 i hi).2
  refine ⟨cs, q1, q2, fun j hj => ?_⟩
  obtain ⟨a, b, e1, e2, e3, e4⟩ := q3 j hj
  exact ⟨a, b, e1, e2, e3.mono hM, e4⟩
/-- What is to be read of such a matrix. -/
theorem IsR.open_ {B : Nat} {w : World} {b r c : Nat} {gs : Nat → Nat} {f : Nat → Nat → Int} {L : Nat} (h : IsR B w b r c gs f L) : b < w.heap.size ∧ ∃ ao cap, w.cell? ⟨b, 0, none⟩ = some (.int .i64 r) ∧ w.cell? ⟨b, 1, none⟩ = some (.int .i64 c) ∧ w.cell? ⟨b, 2, none⟩ = some (.slice ao r cap) ∧ r ≤ cap ∧ cap ≤ 9223372036854775807 ∧
    (∀ i, i < r → ∃ g, ao = some ⟨g, 0, none⟩ ∧ w.cell? ⟨g, i, none⟩ = some (.slice (some ⟨gs i, 0, none⟩) c c)) ∧
    (∀ i j, i < r → j < c → ∃ nb so n cp, w.cell? ⟨gs i, 2 * j, none⟩ = some (.bool nb) ∧ w.cell? ⟨gs i, 2 * j + 1, none⟩ = some (.slice so n cp) ∧ w.frozen? ⟨gs i, 2 * j, none⟩ = false ∧ w.frozen? ⟨gs i, 2 * j + 1, none⟩ = false ∧ IsN w (.agg #[.bool nb, .slice so n cp]) (f i j) L) := by
  obtain ⟨h0, v, h1, h2⟩ := h
  obtain ⟨ao, cap, rfl, p1, p2, p3⟩ := h2.shape
  refine ⟨(Array.getElem?_eq_some_iff.1 h1).1, ao, cap, by simp [World.cell?, h1], by simp [World.cell?, h1], by simp [World.cell?, h1], p1, p2, p3, fun i j hi hj => ?_⟩
  obtain ⟨cs, q1, q2, q3⟩ := (h2.2.1 i hi).2
  obtain ⟨x, y, e1, e2, e3, -⟩ := q3 j hj
  obtain ⟨nb, so, cp, xs, e4, -⟩ := e3.parts
  simp only [Value.agg.injEq, Array.mk.injEq, List.cons.injEq, and_true] at e4
  obtain ⟨rfl, rfl⟩ := e4
  exact ⟨nb, so, _, cp, by simp [World.cell?, q1, e1], by simp [World.cell?, q1, e2], by simp [World.frozen?, q1], by simp [World.frozen?, q1], e3⟩
/-- The number that a text says. -/
noncomputable def num (l : List UInt8) : Int := open Classical in if h : ∃ z, Says l z then h.choose else 0
theorem Says.uniq {l : List UInt8} {z y : Int} (h : Says l z) (k : Says l y) : z = y := by
  by_cases h0 : ∃ r, l = 45 :: r
  · obtain ⟨r, rfl⟩ := h0
    rw [h.neg.2, k.neg.2]
  · rw [(h.pos (fun r e => h0 ⟨r, e⟩)).2, (k.pos (fun r e => h0 ⟨r, e⟩)).2]
theorem Says.num {l : List UInt8} {z : Int} (h : Says l z) : num l = z := by
  have h' : ∃ z, Says l z := ⟨z, h⟩
  unfold R.num
  rw [dif_pos h']
  exact h'.choose_spec.uniq h
end Go.Proofs.YtmijbimanaalbaaGreatDoor.R
