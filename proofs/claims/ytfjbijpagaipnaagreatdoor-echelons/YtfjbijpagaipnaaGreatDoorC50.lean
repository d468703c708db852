import Derived.Test.YtfjbijpagaipnaaGreatDoorC49
import Derived.Test.YtfjbijpagaipnaaGreatDoorC31
import Derived.Deep.RegionHeld3
/- Several matrices come to be held: what the law keeps. -/
namespace Go.Proofs.YtfjbijpagaipnaaGreatDoor
open Go.RowKit R

theorem put1_get {ms : List Hm} (hm : ms.length = 24) (hr : 0 < ms.countP Option.isNone) (nx : Nat) (x : Nat × Nat × List Int) (k : Nat) : (put1 ms nx x).getD k none = if k = ff ms then some (nx, x) else ms.getD k none := by
  have := (ff_free hm hr).1
  exact hm_set (by omega)
/-- What is kept stays where it is. -/
theorem puts_old : ∀ (xs : List Mx) (ms : List Hm) (nx k : Nat) (y : Nat × Nat × Nat × List Int), ms.length = 24 → xs.length ≤ ms.countP Option.isNone → ms.getD k none = some y → (puts ms nx xs).getD k none = some y := by
  intro xs
  induction xs with
  | nil => intro ms nx k y _ _ h; exact h
  | cons x xs ih =>
    intro ms nx k y hm hl h
    rw [List.length_cons] at hl
    have h1 := put1_room hm (by omega) nx x
    refine ih (put1 ms nx x) (nx + 1) k y (by simp [put1, hm]) (by omega) ?_
    rw [put1_get hm (by omega), if_neg (fun e => by
      have := (ff_free hm (show 0 < ms.countP Option.isNone by omega)).2.1
      rw [← e, h] at this; cases this)]
    exact h
/-- Where each comes to lie. -/
def ksOf (ms : List Hm) (nx : Nat) (xs : List Mx) (j : Nat) : Nat := ff (puts ms nx (xs.take j))
theorem puts_at {xs : List Mx} {ms : List Hm} {nx : Nat} (hm : ms.length = 24) (hl : xs.length ≤ ms.countP Option.isNone) (j : Nat) (hj : j < xs.length) : ksOf ms nx xs j < 24 ∧ (puts ms nx xs).getD (ksOf ms nx xs j) none = some (nx + j, xs.getD j mxD) := by
  have htl : (xs.take j).length = j := by simp; omega
  have h1 := puts_room (xs.take j) ms nx hm (by omega)
  have hm1 : (puts ms nx (xs.take j)).length = 24 := by rw [puts_len]; exact hm
  have hf := ff_free hm1 (by omega)
  refine ⟨hf.1, ?_⟩
  have hsplit : xs = xs.take j ++ (xs.getD j mxD :: xs.drop (j + 1)) := by
    rw [show xs.getD j mxD = xs[j] from by simp [List.getD, hj], ← List.drop_eq_getElem_cons hj, List.take_append_drop]
  have key : ∀ (a b : List Mx) (ms : List Hm) (nx : Nat), puts ms nx (a ++ b) = puts (puts ms nx a) (nx + a.length) b := by
    intro a
    induction a with
    | nil => intro b ms nx; rfl
    | cons x a ih => intro b ms nx; rw [List.cons_append, puts, ih, puts, List.length_cons, show nx + 1 + a.length = nx + (a.length + 1) from by omega]
  have h2 : puts ms nx xs = puts (put1 (puts ms nx (xs.take j)) (nx + j) (xs.getD j mxD)) (nx + j + 1) (xs.drop (j + 1)) := by
    conv => lhs; rw [hsplit]
    rw [key, htl, puts]
  rw [h2]
  have h3 := put1_room hm1 (show 0 < (puts ms nx (xs.take j)).countP Option.isNone by omega) (nx + j) (xs.getD j mxD)
  refine puts_old _ _ _ _ _ (by simp [put1, hm1]) (by rw [List.length_drop]; omega) ?_
  rw [put1_get hm1 (by omega), if_pos (show ksOf ms nx xs j = ff (puts ms nx (xs.take j)) from rfl)]
theorem Rel.pushes {es : List Ent} {ms : List Hm} {nx : Nat} (h : Rel es ms nx) (xs : List Mx) (ps : List Nat) (hl : xs.length ≤ ms.countP Option.isNone) (hp : ps.length = xs.length) : Rel (es ++ ents nx xs ps) (puts ms nx xs) (nx + xs.length) := by
  have key : ∀ n, n ≤ xs.length → Rel (es ++ ents nx xs (ps.take n)) (puts ms nx (xs.take n)) (nx + n) := by
    intro n
    induction n with
    | zero => intro _; simpa [ents, puts] using h
    | succ n ih =>
      intro hn
      have h1 := ih (by omega)
      have htl : (xs.take n).length = n := by simp; omega
      have hpl : (ps.take n).length = n := by simp; omega
      have h2 := puts_room (xs.take n) ms nx h.len (by omega)
      have hf := ff_free (ms := puts ms nx (xs.take n)) (by rw [puts_len]; exact h.len) (by omega)
      have h3 := h1.push hf (xs.getD n mxD).1 (xs.getD n mxD).2.1 (xs.getD n mxD).2.2 (ps.getD n 0)
      rw [show xs.take (n + 1) = xs.take n ++ [xs.getD n mxD] from by rw [List.take_add_one, List.getD, List.getElem?_eq_getElem (by omega)]; rfl, puts_snoc, htl, show ps.take (n + 1) = ps.take n ++ [ps.getD n 0] from by rw [List.take_add_one, List.getD, List.getElem?_eq_getElem (by omega)]; rfl, ents_snoc, hpl, ← List.append_assoc]
      exact h3
  have := key xs.length (Nat.le_refl _)
  rw [List.take_of_length_le (Nat.le_refl _), List.take_of_length_le (by omega)] at this
  exact this
/-- What is apart from what turns is apart from what is new. -/
theorem LInv.storesG {B : Nat} {w w' : World} {W T b1 b2 : Nat} {ms : List Hm} {nx : Nat} {es : List Ent} (h : LInv B w W T b1 b2 ms nx es) (hc : Chg (St2 b1 b2) w w') (g : Nat) (hg : w.heap.size ≤ g) :
    ∃ hv iv lv tv ls, Lw w' W T hv iv lv tv nx ∧ RowG w' 3 iv (idc es) ∧ RowG w' 130 lv (lpc es) ∧ RowG w' 9 tv (txc es) ∧ (∀ k, S4 W iv lv tv k → B ≤ k ∧ k < w.heap.size) ∧ Mats w' es (fun k => Vh W hv iv lv tv b1 b2 k ∨ k = g) ∧ Hs w' hv ls (fun k => Vl W iv lv tv b1 b2 k ∨ k = g) ∧ ls.length ≤ nx ∧ ∀ g, hv.ownBlock = some g → B ≤ g ∧ g < w.heap.size := by
  obtain ⟨h1, ⟨hv, iv, lv, tv, h2, h3, h4, h5, h6, hM, ls, hH, hH2⟩, h7⟩ := h
  have key : ∀ k t, Ty w k t → t ≠ 109 → ¬ St2 b1 b2 k := fun k t hk hne hs => by
    rcases hs with hs | hs
    · exact ty_ne hk h1.2.1.ty hne hs
    · exact ty_ne hk h1.2.2.1.ty hne hs
  refine ⟨hv, iv, lv, tv, ls, h2.of_block (hc.block h2.lt (key W _ h2.ty (by decide))), h3.chg hc (fun k hk => key k _ (h3.own k hk).2 (by decide)), h4.chg hc (fun k hk => key k _ (h4.own k hk).2 (by decide)), h5.chg hc (fun k hk => key k _ (h5.own k hk).2 (by decide)), fun k hk => ⟨h6 k hk, ?_⟩, hM.chg hc (fun k hk => .inl (.inr hk)) (fun k hk => ?_), hH.chg hc (fun k hk => .inr hk) (fun k hk => ?_), hH2.1, fun q hq => ⟨hH2.2 q hq, (hH.1.own q hq).1⟩⟩
  · rcases hk with hk | hk | hk | hk
    · rw [hk]; exact h2.lt
    · exact (h3.own k hk).1
    · exact (h4.own k hk).1
    · exact (h5.own k hk).1
  · rcases hk with hk | hk
    · exact .inl hk
    · exact .inr (by omega)
  · rcases hk with hk | hk
    · exact .inl hk
    · exact .inr (by omega)
/-- Several matrices more are held, and the law has them in its lists; the list that was handed out is marked. -/
theorem many_inv {B W T b1 b2 nx g n N0 : Nat} {hv iv lv tv ov : Value} {ls : List Hl} {ms : List Hm} {es : List Ent} {xs : List Mx} {ps : List Nat} {w w1 w2 : World} (hT : TwH B w T b1 b2 (puts ms nx xs) (nx + n)) (hn : xs.length = n) (hn1 : 1 ≤ n) (hn5 : n ≤ 5) (hR : Rel es ms nx) (hroom : n ≤ ms.countP Option.isNone)
    (hL : Lw w W T hv iv lv tv nx) (hI : RowG w 3 iv (idc es)) (hP : RowG w 130 lv (lpc es)) (hX : RowG w 9 tv (txc es)) (hS : ∀ k, S4 W iv lv tv k → B ≤ k ∧ k < N0) (hM : Mats w es (fun k => Vh W hv iv lv tv b1 b2 k ∨ k = g)) (hH : Hs w hv ls (fun k => Vl W iv lv tv b1 b2 k ∨ k = g)) (hls : ls.length ≤ nx) (hvB : ∀ q, hv.ownBlock = some q → B ≤ q ∧ q < N0)
    (hgl : g < w.heap.size) (hg0 : N0 ≤ g) (hgt : Ty w g 3) (hB : B ≤ N0) (hp : ps.length = n) (hf : ∀ j, j < n → Fine (xs.getD j mxD).1 (xs.getD j mxD).2.1 (xs.getD j mxD).2.2)
    (hst : HSt w W T hv iv lv tv nx es xs ps ov w1) (hm : ∀ iv' lv' tv', Lw w1 W T hv iv' lv' tv' (nx + n) → MineOut w1 w2 W T (nx + n) g n hv iv' lv' tv' ls) :
    LInv B w2 W T b1 b2 (puts ms nx xs) (nx + n) (es ++ ents nx xs ps) ∧ Below B w w2 ∧ Chg (fun k => S4 W iv lv tv k ∨ hv.ownBlock = some k ∨ k = g) w w2 := by
  obtain ⟨iv', lv', tv', ⟨hov, hovS⟩, ⟨hL1, hI1, hP1, hX1⟩, hS1, hmt, hC1⟩ := hst
  rw [hp] at hL1
  obtain ⟨hv', hL2, hr2, hl2, hC2, ho2⟩ := hm iv' lv' tv' hL1
  have hs1 := hC1.size
  have hs2 := hC2.size
  have hb1 : b1 < w.heap.size := hT.2.1.ty.lt
  have hb2 : b2 < w.heap.size := hT.2.2.1.ty.lt
  have hS1' : ∀ k, S4 W iv' lv' tv' k → (k < N0 ∨ w.heap.size ≤ k) ∧ B ≤ k := fun k hk => by
    rcases hS1 k hk with h | h
    · exact ⟨.inl (hS k h).2, (hS k h).1⟩
    · exact ⟨.inr h, by omega⟩
  -- nothing of another type turns
  have no1 : ∀ k t, Ty w k t → t ≠ 67 → t ≠ 3 → t ≠ 130 → t ≠ 9 → ¬ S4 W iv lv tv k := fun k t hk n1 n2 n3 n4 h => by
    rcases h with h | h | h | h
    · exact ty_ne hk hL.ty n1 h
    · exact ty_ne hk (hI.own k h).2 n2 rfl
    · exact ty_ne hk (hP.own k h).2 n3 rfl
    · exact ty_ne hk (hX.own k h).2 n4 rfl
  have hT1 : TwH B w1 T b1 b2 (puts ms nx xs) (nx + n) := hT.chg hC1 (no1 T _ ⟨_, _, hT.1⟩ (by decide) (by decide) (by decide) (by decide)) (no1 b1 _ hT.2.1.ty (by decide) (by decide) (by decide) (by decide)) (no1 b2 _ hT.2.2.1.ty (by decide) (by decide) (by decide) (by decide)) (fun k hk => (hS k hk).1)
  have hgS : ¬ S4 W iv lv tv g := fun h => by have := (hS g h).2; omega
  have hgt1 : Ty w1 g 3 := by
    obtain ⟨c, fr, q⟩ := hgt
    exact ⟨c, fr, by rw [hC1.block hgl hgS]; exact q⟩
  have hhv1 : RowG w1 25 hv (hlc ls) := hH.1.chg hC1 (fun k hk hs => hH.2.1 k hk (.inl (.inl hs)))
  have no2 : ∀ k t, Ty w1 k t → t ≠ 67 → t ≠ 25 → t ≠ 3 → ¬ (k = W ∨ hv.ownBlock = some k ∨ k = g) := fun k t hk n1 n2 n3 h => by
    rcases h with h | h | h
    · exact ty_ne hk hL1.ty n1 h
    · exact ty_ne hk (hhv1.own k h).2 n2 rfl
    · exact ty_ne hk hgt1 n3 h
  have hB2 : ∀ k, (k = W ∨ hv.ownBlock = some k ∨ k = g) → B ≤ k := fun k hk => by
    rcases hk with hk | hk | hk
    · rw [hk]; exact (hS W (.inl rfl)).1
    · exact (hvB k hk).1
    · omega
  have hT2 : TwH B w2 T b1 b2 (puts ms nx xs) (nx + n) := hT1.chg hC2 (no2 T _ ⟨_, _, hT1.1⟩ (by decide) (by decide) (by decide)) (no2 b1 _ hT1.2.1.ty (by decide) (by decide) (by decide)) (no2 b2 _ hT1.2.2.1.ty (by decide) (by decide) (by decide)) hB2
  have hivg : ∀ k, S4 W iv' lv' tv' k → k ≠ g := fun k hk e => by
    rcases (hS1' k hk).1 with h | h <;> omega
  have hI2 : RowG w2 3 iv' (idc (es ++ ents nx xs ps)) := hI1.chg hC2 (fun k hk h => by
    rcases h with h | h | h
    · exact ty_ne (hI1.own k hk).2 hL1.ty (by decide) h
    · exact ty_ne (hI1.own k hk).2 (hhv1.own k h).2 (by decide) rfl
    · exact hivg k (.inr (.inl hk)) h)
  have hP2 : RowG w2 130 lv' (lpc (es ++ ents nx xs ps)) := hP1.chg hC2 (fun k hk => no2 k _ (hP1.own k hk).2 (by decide) (by decide) (by decide))
  have hX2 : RowG w2 9 tv' (txc (es ++ ents nx xs ps)) := hX1.chg hC2 (fun k hk => no2 k _ (hX1.own k hk).2 (by decide) (by decide) (by decide))
  have hVold : ∀ k, (Vh W hv' iv' lv' tv' b1 b2 k ∨ k = g) → (Vh W hv iv lv tv b1 b2 k ∨ k = g) ∨ w.heap.size ≤ k := fun k hk => by
    rcases hk with ((hk | hk) | hk) | hk
    · rcases hS1 k hk with h | h
      · exact .inl (.inl (.inl (.inl h)))
      · exact .inr h
    · exact .inl (.inl (.inl (.inr hk)))
    · rcases ho2 k hk with h | h
      · exact .inl (.inl (.inr h))
      · exact .inr (by omega)
    · exact .inl (.inr hk)
  have hC12 : Chg (fun k => S4 W iv lv tv k ∨ hv.ownBlock = some k ∨ k = g) w w2 := (hC1.mono (fun k hk => .inl hk)).trans (hC2.mono (fun k hk => by
    rcases hk with hk | hk | hk
    · exact .inl (.inl hk)
    · exact .inr (.inl hk)
    · exact .inr (.inr hk)))
  have hb12 : Below B w w2 := hC12.below (fun k hk => by
    rcases hk with hk | hk | hk
    · exact (hS k hk).1
    · exact (hvB k hk).1
    · omega) (by omega)
  have hnoVl : ∀ k t, Ty w2 k t → t ≠ 67 → t ≠ 3 → t ≠ 130 → t ≠ 9 → t ≠ 109 → ¬ Vl W iv' lv' tv' b1 b2 k := fun k t hk n1 n2 n3 n4 n5 h => by
    rcases h with (h | h | h | h) | h | h
    · exact ty_ne hk hL2.ty n1 h
    · exact ty_ne hk (hI2.own k h).2 n2 rfl
    · exact ty_ne hk (hP2.own k h).2 n3 rfl
    · exact ty_ne hk (hX2.own k h).2 n4 rfl
    · exact ty_ne hk hT2.2.1.ty n5 h
    · exact ty_ne hk hT2.2.2.1.ty n5 h
  refine ⟨⟨hT2, ⟨hv', iv', lv', tv', hL2, hI2, hP2, hX2, fun k hk => (hS1' k hk).2, Mats.app ?_ (fun e he => ?_), ls ++ [(g, n)], ⟨hr2, fun q hq => hnoVl q _ (hr2.own q hq).2 (by decide) (by decide) (by decide) (by decide) (by decide), fun i hi => ?_⟩, by simp; omega, fun q hq => ?_⟩, hn ▸ hR.pushes xs ps (by omega) (by omega)⟩, hb12, hC12⟩
  · have h1 := hM.chg (S := fun k => S4 W iv lv tv k ∨ hv.ownBlock = some k ∨ k = g) (V' := Vh W hv' iv' lv' tv' b1 b2) hC12 (fun k hk => by
      rcases hk with hk | hk | hk
      · exact .inl (.inl (.inl hk))
      · exact .inl (.inr hk)
      · exact .inr hk) (fun k hk => hVold k (.inl hk))
    exact h1
  · unfold ents at he
    obtain ⟨j, hj, rfl⟩ := List.mem_map.1 he
    have hj' : j < ps.length := List.mem_range.1 hj
    obtain ⟨lo, hi, k1, k2, k3⟩ := hmt j hj'
    have hhi : hi ≤ w1.heap.size := by obtain ⟨_, _, _, _, _, h6⟩ := k2; exact h6
    refine ⟨_, _, _, lo, hi, rfl, hf j (by omega), k2.chg hC2 (fun k hk => ?_), fun q hq => ?_⟩
    · rcases hk with hk | hk | hk
      · exact k3 k (.inl (.inl hk))
      · exact .inl (by have := (hvB k hk).2; omega)
      · exact .inl (by omega)
    · rcases hq with (hq | hq) | hq
      · exact k3 q (.inl hq)
      · rcases hq with hq | hq <;> exact .inl (by omega)
      · rcases ho2 q hq with h | h
        · exact .inl (by have := (hvB q h).2; omega)
        · exact .inr (by omega)
  · rw [List.length_append, List.length_singleton] at hi
    by_cases hil : i < ls.length
    · have e1 : (ls ++ [(g, n)]).getD i (0, 0) = ls.getD i (0, 0) := by simp [List.getD, List.getElem?_append_left hil]
      rw [e1]
      have h1 := hH.chg (S := S4 W iv lv tv) (V' := fun k => Vl W iv' lv' tv' b1 b2 k ∨ k = g) hC1 (fun k hk => .inl (.inl hk)) (fun k hk => by
        rcases hk with (hk | hk) | hk
        · rcases hS1 k hk with h | h
          · exact .inl (.inl (.inl h))
          · exact .inr h
        · exact .inl (.inl (.inr hk))
        · exact .inl (.inr hk))
      obtain ⟨a1, a2, a3⟩ := h1.2.2 i hil
      refine ⟨a1, fun hv2 => a2 (.inl hv2), a3.chg hC2 (fun k hk h => ?_)⟩
      have hkk := (hl1_own _ _).1 hk
      rcases h with h | h | h
      · exact ty_ne (a3.own k hk).2 hL1.ty (by decide) h
      · exact ty_ne (a3.own k hk).2 (hhv1.own k h).2 (by decide) rfl
      · exact a2 (.inr (by rw [← hkk]; exact h))
    · have hie : i = ls.length := by omega
      have e1 : (ls ++ [(g, n)]).getD i (0, 0) = (g, n) := by simp [List.getD, hie]
      rw [e1, hie]
      refine ⟨hn5, fun h => ?_, hl2⟩
      have hg2 := (hl2.own g ((hl1_own _ _).2 rfl)).2
      rcases h with (h | h | h | h) | h | h
      · exact ty_ne hg2 hL2.ty (by decide) h
      · exact hivg g (.inr (.inl h)) rfl
      · exact ty_ne hg2 (hP2.own g h).2 (by decide) rfl
      · exact ty_ne hg2 (hX2.own g h).2 (by decide) rfl
      · exact ty_ne hg2 hT2.2.1.ty (by decide) h
      · exact ty_ne hg2 hT2.2.2.1.ty (by decide) h
  · rcases ho2 q hq with h | h
    · exact (hvB q h).1
    · omega
end Go.Proofs.YtfjbijpagaipnaaGreatDoor

/- matriceslaw.World: pair, for products. -/
namespace Go.Proofs.YtfjbijpagaipnaaGreatDoor
open Go.RowKit R

/-- What pair says of two handles. -/
def PairL (es : List Ent) (ms : List Hm) (g h : Int) (a b : Value) (want : Int) : Prop :=
  (((∀ i, i < 24 → ∀ x, ms.getD i none = some x → (x.1 : Int) ≠ g) ∨ (∀ i, i < 24 → ∀ x, ms.getD i none = some x → (x.1 : Int) ≠ h)) ∧ want = 2) ∨
  ∃ e1 e2 i r q zs j q' c ys, e1 ∈ es ∧ e2 ∈ es ∧ i < 24 ∧ ms.getD i none = some (e1.1, r, q, zs) ∧ ((e1.1 : Nat) : Int) = g ∧ j < 24 ∧ ms.getD j none = some (e2.1, q', c, ys) ∧ ((e2.1 : Nat) : Int) = h ∧
    ((q ≠ q' ∧ want = 3) ∨ (q = q' ∧ ¬ (FitsP r q zs ∧ FitsP q' c ys) ∧ want = 4) ∨ (q = q' ∧ (FitsP r q zs ∧ FitsP q' c ys) ∧ want = 0 ∧ a = .pointer (some ⟨e1.2.2, 0, none⟩) ∧ b = .pointer (some ⟨e2.2.2, 0, none⟩)))
theorem FindL.none {B : Nat} {w : World} {W T b1 b2 : Nat} {ms : List Hm} {nx : Nat} {es : List Ent} (h : LInv B w W T b1 b2 ms nx es) {g : Int} (hn : ∀ e ∈ es, ((e.1 : Nat) : Int) ≠ g) : ∀ i, i < 24 → ∀ x, ms.getD i none = some x → (x.1 : Int) ≠ g := by
  intro i hi x hx he
  obtain ⟨e, hm, h1⟩ := h.2.2.all i x hi hx
  exact hn e hm (by rw [h1]; exact he)
set_option maxRecDepth 100000 in
set_option maxHeartbeats 4000000 in
theorem pair_times (B W T b1 b2 : Nat) (ms : List Hm) (nx : Nat) (es : List Ent) (g h : Int) (w : World) (hI : LInv B w W T b1 b2 ms nx es) :
    Calls Tryz.prog 122 #[.pointer (some ⟨W, 0, none⟩), .int .i64 g, .int .i64 h, .int .i64 14] w fun x w' => (∃ a b want, x = .returned (.tuple #[a, b, .int .i64 want]) ∧ PairL es ms g h a b want) ∧ Below w.heap.size w w' := by
  have H := Hid.mk hI
  clear hI
  go_enter Tryz.func122, Tryz.ntmps122
  go_wp2_with fail
  refine (lfind_any B W T b1 b2 ms nx es g _ H.out).mono ?_
  rintro x w1 ⟨⟨v, rfl, hv⟩, hb1⟩
  have K1 := Hid.mk (And.intro hv hb1)
  have hw1 := hb1.size
  clear hv hb1
  obtain ⟨pv, rfl⟩ : ∃ pv, v = .pointer pv := by
    rcases K1.out.1 with ⟨rfl, -⟩ | ⟨e, -, -, rfl⟩ <;> exact ⟨_, rfl⟩
  go_wp2_with fail
  refine (lfind_any B W T b1 b2 ms nx es h _ (H.out.below K1.out.2)).mono ?_
  rintro x w2 ⟨⟨u, rfl, hu⟩, hb2⟩
  have hb02 : Below w.heap.size w w2 := K1.out.2.trans (hb2.mono hw1)
  obtain ⟨pu, rfl⟩ : ∃ pu, u = .pointer pu := by
    rcases hu with ⟨rfl, -⟩ | ⟨e, -, -, rfl⟩ <;> exact ⟨_, rfl⟩
  have K2 := Hid.mk (And.intro hu hb02)
  have hw2 := hb02.size
  clear hu hb2 hb02
  rcases K1.out.1 with ⟨hvn, hno⟩ | ⟨e1, he1, hg1, hve⟩
  · injection hvn with hvn
    subst hvn
    have KN := Hid.mk hno
    clear hno
    go_wp2_with fail
    go_ret3
    exact ⟨⟨_, _, _, rfl, .inl ⟨.inl (FindL.none H.out KN.out), rfl⟩⟩, K2.out.2⟩
  · injection hve with hve
    subst hve
    rcases K2.out.1 with ⟨hvn, hno⟩ | ⟨e2, he2, hg2, hve⟩
    · injection hvn with hvn
      subst hvn
      have KN := Hid.mk hno
      clear hno
      go_wp2_with fail
      go_ret3
      exact ⟨⟨_, _, _, rfl, .inl ⟨.inr (FindL.none H.out KN.out), rfl⟩⟩, K2.out.2⟩
    · injection hve with hve
      subst hve
      obtain ⟨i, r, q, zs, hi, hx⟩ := H.out.ent_of he1
      obtain ⟨j, q', c, ys, hj, hy⟩ := H.out.ent_of he2
      obtain ⟨-, hf1, lo1, hi1, hm1⟩ := (H.out.below K2.out.2).entry he1 hi hx rfl
      obtain ⟨-, hf2, lo2, hi2, hm2⟩ := (H.out.below K2.out.2).entry he2 hj hy rfl
      obtain ⟨gs1, hI1⟩ := hm1.isR
      obtain ⟨gs2, hI2⟩ := hm2.isR
      obtain ⟨p1, hp1⟩ : ∃ p1, p1 = e1.2.2 := ⟨_, rfl⟩
      obtain ⟨p2, hp2⟩ : ∃ p2, p2 = e2.2.2 := ⟨_, rfl⟩
      rw [← hp1] at hI1 ⊢
      rw [← hp2] at hI2 ⊢
      have HE := Hid.mk (And.intro (And.intro he1 (And.intro hg1 (And.intro hi (And.intro hx (And.intro hf1 (And.intro hI1 hp1)))))) (And.intro he2 (And.intro hg2 (And.intro hj (And.intro hy (And.intro hf2 (And.intro hI2 hp2)))))))
      obtain ⟨-, ao1, cap1, c0, c1, -⟩ := hI1.open_
      obtain ⟨-, ao2, cap2, d0, d1, -⟩ := hI2.open_
      clear he1 hg1 hi hx hf1 hI1 hp1 he2 hg2 hj hy hf2 hI2 hp2 hm1 hm2
      obtain ⟨qq, hqq⟩ : ∃ qq, qq = ((q : Int) == (q' : Int)) := ⟨_, rfl⟩
      have HQ := Hid.mk hqq
      go_upto_region 5 with fail
      go_cut [13] from 28 to 37 (fun x wx => (∃ bb, x = .bool bb) ∧ Below w2.heap.size w2 wx)
      case first =>
        go_quiet (fail)
        all_goals
          go_wp2_with fail
          go_meet
          case rel => exact ⟨⟨_, rfl⟩, below_drewN (Below.refl _ _) _⟩
      case rest =>
        obtain ⟨⟨bb, rfl⟩, hb3⟩ := hcut
        have c1' := cell_later hb3 c1
        have d0' := cell_later hb3 d0
        have K3 := Hid.mk hb3
        have hw3 := hb3.size
        clear hb3 c0 c1 d0 d1
        by_cases hqe : q = q'
        · have HQE := Hid.mk hqe
          have iq : ((q : Int) == (q' : Int)) = true := beq_iff_eq.2 (by omega)
          clear hqe hqq
          go_wp2_with fail
          go_quiet (fail)
          go_wp2_with fail
          refine (big_any p1 r q gs1 (fz q zs) lo1 40000000001 _ (HE.out.1.2.2.2.2.2.1.keep (KR.of_below (below_drewN K3.out _))) (by omega) HE.out.1.2.2.2.2.1.1 HE.out.1.2.2.2.2.1.2.1).mono ?_
          rintro x w5 ⟨bx, rfl, hbx, hb5⟩
          have hb25 : Below w2.heap.size w2 w5 := (below_drewN K3.out _).trans (hb5.mono (below_drewN K3.out _).size)
          have K5 := Hid.mk (And.intro hb25 (And.intro (show bx = true ↔ ¬ FitsP r q zs from by rw [← big_fits]; exact hbx) (K2.out.2.trans (hb25.mono hw2))))
          have hw5 := hb25.size
          clear hbx hb5 hb25
          go_wp2_with fail
          refine (big_any p2 q' c gs2 (fz c ys) lo2 40000000001 _ (HE.out.2.2.2.2.2.2.1.keep (KR.of_below K5.out.1)) (by omega) HE.out.2.2.2.2.2.1.1 HE.out.2.2.2.2.2.1.2.1).mono ?_
          rintro x w6 ⟨bq, rfl, hbq, hb6⟩
          have hb26 : Below w2.heap.size w2 w6 := K5.out.1.trans (hb6.mono hw5)
          have K6 := Hid.mk (And.intro (show bq = true ↔ ¬ FitsP q' c ys from by rw [← big_fits]; exact hbq) (K2.out.2.trans (hb26.mono hw2)))
          clear hbq hb6 hb26
          cases bx
          · cases bq
            · have HFF : Hid (FitsP r q zs ∧ FitsP q' c ys) := Hid.mk ⟨Classical.byContradiction fun h => (by have := K5.out.2.1.2 h; cases this), Classical.byContradiction fun h => (by have := K6.out.1.2 h; cases this)⟩
              go_wp2_with fail
              go_ret3
              obtain ⟨⟨a1, a2, a3, a4, -, -, a7⟩, ⟨b1, b2, b3, b4, -, -, b7⟩⟩ := HE.out
              exact ⟨⟨_, _, _, rfl, .inr ⟨e1, e2, i, r, q, zs, j, q', c, ys, a1, b1, a3, a4, a2, b3, b4, b2, .inr (.inr ⟨HQE.out, HFF.out, rfl, by rw [← a7]; rfl, by rw [← b7]; rfl⟩)⟩⟩, K6.out.2⟩
            · have HNF : Hid (¬ (FitsP r q zs ∧ FitsP q' c ys)) := Hid.mk (fun h => K6.out.1.1 rfl h.2)
              go_wp2_with fail
              go_ret3
              obtain ⟨⟨a1, a2, a3, a4, -⟩, ⟨b1, b2, b3, b4, -⟩⟩ := HE.out
              exact ⟨⟨_, _, _, rfl, .inr ⟨e1, e2, i, r, q, zs, j, q', c, ys, a1, b1, a3, a4, a2, b3, b4, b2, .inr (.inl ⟨HQE.out, HNF.out, rfl⟩)⟩⟩, K6.out.2⟩
          · have HNF : Hid (¬ (FitsP r q zs ∧ FitsP q' c ys)) := Hid.mk (fun h => K5.out.2.1.1 rfl h.1)
            go_wp2_with fail
            go_ret3
            obtain ⟨⟨a1, a2, a3, a4, -⟩, ⟨b1, b2, b3, b4, -⟩⟩ := HE.out
            exact ⟨⟨_, _, _, rfl, .inr ⟨e1, e2, i, r, q, zs, j, q', c, ys, a1, b1, a3, a4, a2, b3, b4, b2, .inr (.inl ⟨HQE.out, HNF.out, rfl⟩)⟩⟩, K6.out.2⟩
        · have iq : ((q : Int) == (q' : Int)) = false := beq_eq_false_iff_ne.2 (by omega)
          have HNE := Hid.mk hqe
          clear hqe hqq
          go_wp2_with fail
          go_quiet (fail)
          go_wp2_with fail
          go_ret3
          obtain ⟨⟨a1, a2, a3, a4, -⟩, ⟨b1, b2, b3, b4, -⟩⟩ := HE.out
          exact ⟨⟨_, _, _, rfl, .inr ⟨e1, e2, i, r, q, zs, j, q', c, ys, a1, b1, a3, a4, a2, b3, b4, b2, .inl ⟨HNE.out, rfl⟩⟩⟩, K2.out.2.trans ((below_drewN K3.out _).mono hw2)⟩
end Go.Proofs.YtfjbijpagaipnaaGreatDoor
