import Derived.Test.YtfjbijpagaipnaaGreatDoorC51
import Derived.Test.YtfjbijpagaipnaaGreatDoorC28
import Derived.Test.YtfjbijpagaipnaaGreatDoorC19
import Derived.Test.YtfjbijpagaipnaaGreatDoorC27
import Derived.Test.YtfjbijpagaipnaaGreatDoorC14
import Derived.Deep.CutRange
import Derived.BigQuiet
namespace Go.Proofs.YtfjbijpagaipnaaGreatDoor
open Go.RowKit R
theorem put1_get {ms : List Hm} (hm : ms.length = 24) (hr : 0 < ms.countP Option.isNone) (nx : Nat) (x : Nat × Nat × List Int) (k : Nat) : (put1 ms nx x).getD k none = if k = ff ms then some (nx, x) else ms.getD k none := by
  have := (ff_free hm hr).1
  exact hm_set (by omega)
theorem puts_old : ∀ (xs : List Mx) (ms : List Hm) (nx k : Nat) (y : Nat × Nat × Nat × List Int), ms.length = 24 → xs.length ≤ ms.countP Option.isNone → ms.getD k none = some y → (puts ms nx xs).getD k none = some y := by
  intro xs
  induction xs with
  | nil => intro ms nx k y _ _ h; exact h
  | cons x xs ih =>
    intro ms nx k y hm hl h
    rw [List.length_cons] at hl
    have h1 := put1_room hm (by omega) nx x
    refine ih (put1 ms nx x) (nx + 1) k y (by simp [put1, hm]) (by omega) ?_
    rw [put1_get hm (by omega), if_neg (fun e => by
      have := (ff_free hm (show 0 < ms.countP Option.isNone by omega)).2.1
      rw [← e, h] at this; cases this)]
    exact h
def ksOf (ms : List Hm) (nx : Nat) (xs : List Mx) (j : Nat) : Nat := ff (puts ms nx (xs.take j))
theorem puts_at {xs : List Mx} {ms : List Hm} {nx : Nat} (hm : ms.length = 24) (hl : xs.length ≤ ms.countP Option.isNone) (j : Nat) (hj : j < xs.length) : ksOf ms nx xs j < 24 ∧ (puts ms nx xs).getD (ksOf ms nx xs j) none = some (nx + j, xs.getD j mxD) := by
  have htl : (xs.take j).length = j := by simp; omega
  have h1 := puts_room (xs.take j) ms nx hm (by omega)
  have hm1 : (puts ms nx (xs.take j)).length = 24 := by rw [puts_len]; exact hm
  have hf := ff_free hm1 (by omega)
  refine ⟨hf.1, ?_⟩
  have hsplit : xs = xs.take j ++ (xs.getD j mxD :: xs.drop (j + 1)) := by
    rw [show xs.getD j mxD = xs[j] from by simp [List.getD, hj], ← List.drop_eq_getElem_cons hj, List.take_append_drop]
  have key : ∀ (a b : List Mx) (ms : List Hm) (nx : Nat), puts ms nx (a ++ b) = puts (puts ms nx a) (nx + a.length) b := by
    intro a
    induction a with
    | nil => intro b ms nx; rfl
    | cons x a ih => intro b ms nx; rw [List.cons_append, puts, ih, puts, List.length_cons, show nx + 1 + a.length = nx + (a.length + 1) from by omega]
  have h2 : puts ms nx xs = puts (put1 (puts ms nx (xs.take j)) (nx + j) (xs.getD j mxD)) (nx + j + 1) (xs.drop (j + 1)) := by
    conv => lhs; rw [hsplit]
    rw [key, htl, puts]
  rw [h2]
  have h3 := put1_room hm1 (show 0 < (puts ms nx (xs.take j)).countP Option.isNone by omega) (nx + j) (xs.getD j mxD)
  refine puts_old _ _ _ _ _ (by simp [put1, hm1]) (by rw [List.length_drop]; omega) ?_
  rw [put1_get hm1 (by omega), if_pos (show ksOf ms nx xs j = ff (puts ms nx (xs.take j)) from rfl)]
theorem Rel.pushes {es : List Ent} {ms : List Hm} {nx : Nat} (h : Rel es ms nx) (xs : List Mx) (ps : List Nat) (hl : xs.length ≤ ms.countP Option.isNone) (hp : ps.length = xs.length) : Rel (es ++ ents nx xs ps) (puts ms nx xs) (nx + xs.length) := by
  have key : ∀ n, n ≤ xs.length → Rel (es ++ ents nx xs (ps.take n)) (puts ms nx (xs.take n)) (nx + n) := by
    intro n
    induction n with
    | zero => intro _; simpa [ents, puts] using h
    | succ n ih =>
      intro hn
      have h1 := ih (by omega)
      have htl : (xs.take n).length = n := by simp; omega
      have hpl : (ps.take n).length = n := by simp; omega
      have h2 := puts_room (xs.take n) ms nx h.len (by omega)
      have hf := ff_free (ms := puts ms nx (xs.take n)) (by rw [puts_len]; exact h.len) (by omega)
      have h3 := h1.push hf (xs.getD n mxD).1 (xs.getD n mxD).2.1 (xs.getD n mxD).2.2 (ps.getD n 0)
      rw [show xs.take (n + 1) = xs.take n ++ [xs.getD n mxD] from by rw [List.take_add_one, List.getD, List.getElem?_eq_getElem (by omega)]; rfl, puts_snoc, htl, show ps.take (n + 1) = ps.take n ++ [ps.getD n 0] from by rw [List.take_add_one, List.getD, List.getElem?_eq_getElem (by omega)]; rfl, ents_snoc, hpl, ← List.append_assoc]
      exact h3
  have := key xs.length (Nat.le_refl _)
  rw [List.take_of_length_le (Nat.le_refl _), List.take_of_length_le (by omega)] at this
  exact this
theorem LInv.storesG {B : Nat} {w w' : World} {W T b1 b2 : Nat} {ms : List Hm} {nx : Nat} {es : List Ent} (h : LInv B w W T b1 b2 ms nx es) (hc : Chg (St2 b1 b2) w w') (g : Nat) (hg : w.heap.size ≤ g) :
    ∃ hv iv lv tv ls, Lw w' W T hv iv lv tv nx ∧ RowG w' 3 iv (idc es) ∧ RowG w' 130 lv (lpc es) ∧ RowG w' 9 tv (txc es) ∧ (∀ k, S4 W iv lv tv k → B ≤ k ∧ k < w.heap.size) ∧ Mats w' es (fun k => Vh W hv iv lv tv b1 b2 k ∨ k = g) ∧ Hs w' hv ls (fun k => Vl W iv lv tv b1 b2 k ∨ k = g) ∧ ls.length ≤ nx ∧ ∀ g, hv.ownBlock = some g → B ≤ g ∧ g < w.heap.size := by
  obtain ⟨h1, ⟨hv, iv, lv, tv, h2, h3, h4, h5, h6, hM, ls, hH, hH2⟩, h7⟩ := h
  have key : ∀ k t, Ty w k t → t ≠ 109 → ¬ St2 b1 b2 k := fun k t hk hne hs => by
    rcases hs with hs | hs
    · exact ty_ne hk h1.2.1.ty hne hs
    · exact ty_ne hk h1.2.2.1.ty hne hs
  refine ⟨hv, iv, lv, tv, ls, h2.of_block (hc.block h2.lt (key W _ h2.ty (by decide))), h3.chg hc (fun k hk => key k _ (h3.own k hk).2 (by decide)), h4.chg hc (fun k hk => key k _ (h4.own k hk).2 (by decide)), h5.chg hc (fun k hk => key k _ (h5.own k hk).2 (by decide)), fun k hk => ⟨h6 k hk, ?_⟩, hM.chg hc (fun k hk => .inl (.inr hk)) (fun k hk => ?_), hH.chg hc (fun k hk => .inr hk) (fun k hk => ?_), hH2.1, fun q hq => ⟨hH2.2 q hq, (hH.1.own q hq).1⟩⟩
  · rcases hk with hk | hk | hk | hk
    · rw [hk]; exact h2.lt
    · exact (h3.own k hk).1
    · exact (h4.own k hk).1
    · exact (h5.own k hk).1
  · rcases hk with hk | hk
    · exact .inl hk
    · exact .inr (by omega)
  · rcases hk with hk | hk
    · exact .inl hk
    · exact .inr (by omega)
theorem many_inv {B W T b1 b2 nx g n N0 : Nat} {hv iv lv tv ov : Value} {ls : List Hl} {ms : List Hm} {es : List Ent} {xs : List Mx} {ps : List Nat} {w w1 w2 : World} (hT : TwH B w T b1 b2 (puts ms nx xs) (nx + n)) (hn : xs.length = n) (hn1 : 1 ≤ n) (hn5 : n ≤ 5) (hR : Rel es ms nx) (hroom : n ≤ ms.countP Option.isNone)
    (hL : Lw w W T hv iv lv tv nx) (hI : RowG w 3 iv (idc es)) (hP : RowG w 130 lv (lpc es)) (hX : RowG w 9 tv (txc es)) (hS : ∀ k, S4 W iv lv tv k → B ≤ k ∧ k < N0) (hM : Mats w es (fun k => Vh W hv iv lv tv b1 b2 k ∨ k = g)) (hH : Hs w hv ls (fun k => Vl W iv lv tv b1 b2 k ∨ k = g)) (hls : ls.length ≤ nx) (hvB : ∀ q, hv.ownBlock = some q → B ≤ q ∧ q < N0)
    (hgl : g < w.heap.size) (hg0 : N0 ≤ g) (hgt : Ty w g 3) (hB : B ≤ N0) (hp : ps.length = n) (hf : ∀ j, j < n → Fine (xs.getD j mxD).1 (xs.getD j mxD).2.1 (xs.getD j mxD).2.2)
    (hst : HSt w W T hv iv lv tv nx es xs ps ov w1) (hm : ∀ iv' lv' tv', Lw w1 W T hv iv' lv' tv' (nx + n) → MineOut w1 w2 W T (nx + n) g n hv iv' lv' tv' ls) :
    LInv B w2 W T b1 b2 (puts ms nx xs) (nx + n) (es ++ ents nx xs ps) ∧ Below B w w2 ∧ Chg (fun k => S4 W iv lv tv k ∨ hv.ownBlock = some k ∨ k = g) w w2 := by
  obtain ⟨iv', lv', tv', ⟨hov, hovS⟩, ⟨hL1, hI1, hP1, hX1⟩, hS1, hmt, hC1⟩ := hst
  rw [hp] at hL1
  obtain ⟨hv', hL2, hr2, hl2, hC2, ho2⟩ := hm iv' lv' tv' hL1
  have hs1 := hC1.size
  have hs2 := hC2.size
  have hb1 : b1 < w.heap.size := hT.2.1.ty.lt
  have hb2 : b2 < w.heap.size := hT.2.2.1.ty.lt
  have hS1' : ∀ k, S4 W iv' lv' tv' k → (k < N0 ∨ w.heap.size ≤ k) ∧ B ≤ k := fun k hk => by
    rcases hS1 k hk with h | h
    · exact ⟨.inl (hS k h).2, (hS k h).1⟩
    · exact ⟨.inr h, by omega⟩
  have no1 : ∀ k t, Ty w k t → t ≠ 67 → t ≠ 3 → t ≠ 130 → t ≠ 9 → ¬ S4 W iv lv tv k := fun k t hk n1 n2 n3 n4 h => by
    rcases h with h | h | h | h
    · exact ty_ne hk hL.ty n1 h
    · exact ty_ne hk (hI.own k h).2 n2 rfl
    · exact ty_ne hk (hP.own k h).2 n3 rfl
    · exact ty_ne hk (hX.own k h).2 n4 rfl
  have hT1 : TwH B w1 T b1 b2 (puts ms nx xs) (nx + n) := hT.chg hC1 (no1 T _ ⟨_, _, hT.1⟩ (by decide) (by decide) (by decide) (by decide)) (no1 b1 _ hT.2.1.ty (by decide) (by decide) (by decide) (by decide)) (no1 b2 _ hT.2.2.1.ty (by decide) (by decide) (by decide) (by decide)) (fun k hk => (hS k hk).1)
  have hgS : ¬ S4 W iv lv tv g := fun h => by have := (hS g h).2; omega
  have hgt1 : Ty w1 g 3 := by
    obtain ⟨c, fr, q⟩ := hgt
    exact ⟨c, fr, by rw [hC1.block hgl hgS]; exact q⟩
  have hhv1 : RowG w1 25 hv (hlc ls) := hH.1.chg hC1 (fun k hk hs => hH.2.1 k hk (.inl (.inl hs)))
  have no2 : ∀ k t, Ty w1 k t → t ≠ 67 → t ≠ 25 → t ≠ 3 → ¬ (k = W ∨ hv.ownBlock = some k ∨ k = g) := fun k t hk n1 n2 n3 h => by
    rcases h with h | h | h
    · exact ty_ne hk hL1.ty n1 h
    · exact ty_ne hk (hhv1.own k h).2 n2 rfl
    · exact ty_ne hk hgt1 n3 h
  have hB2 : ∀ k, (k = W ∨ hv.ownBlock = some k ∨ k = g) → B ≤ k := fun k hk => by
    rcases hk with hk | hk | hk
    · rw [hk]; exact (hS W (.inl rfl)).1
    · exact (hvB k hk).1
    · omega
  have hT2 : TwH B w2 T b1 b2 (puts ms nx xs) (nx + n) := hT1.chg hC2 (no2 T _ ⟨_, _, hT1.1⟩ (by decide) (by decide) (by decide)) (no2 b1 _ hT1.2.1.ty (by decide) (by decide) (by decide)) (no2 b2 _ hT1.2.2.1.ty (by decide) (by decide) (by decide)) hB2
  have hivg : ∀ k, S4 W iv' lv' tv' k → k ≠ g := fun k hk e => by
    rcases (hS1' k hk).1 with h | h <;> omega
  have hI2 : RowG w2 3 iv' (idc (es ++ ents nx xs ps)) := hI1.chg hC2 (fun k hk h => by
    rcases h with h | h | h
    · exact ty_ne (hI1.own k hk).2 hL1.ty (by decide) h
    · exact ty_ne (hI1.own k hk).2 (hhv1.own k h).2 (by decide) rfl
    · exact hivg k (.inr (.inl hk)) h)
  have hP2 : RowG w2 130 lv' (lpc (es ++ ents nx xs ps)) := hP1.chg hC2 (fun k hk => no2 k _ (hP1.own k hk).2 (by decide) (by decide) (by decide))
  have hX2 : RowG w2 9 tv' (txc (es ++ ents nx xs ps)) := hX1.chg hC2 (fun k hk => no2 k _ (hX1.own k hk).2 (by decide) (by decide) (by decide))
  have hVold : ∀ k, (Vh W hv' iv' lv' tv' b1 b2 k ∨ k = g) → (Vh W hv iv lv tv b1 b2 k ∨ k = g) ∨ w.heap.size ≤ k := fun k hk => by
    rcases hk with ((hk | hk) | hk) | hk
    · rcases hS1 k hk with h | h
      · exact .inl (.inl (.inl (.inl h)))
      · exact .inr h
    · exact .inl (.inl (.inl (.inr hk)))
    · rcases ho2 k hk with h | h
      · exact .inl (.inl (.inr h))
      · exact .inr (by omega)
    · exact .inl (.inr hk)
  have hC12 : Chg (fun k => S4 W iv lv tv k ∨ hv.ownBlock = some k ∨ k = g) w w2 := (hC1.mono (fun k hk => .inl hk)).trans (hC2.mono (fun k hk => by
    rcases hk with hk | hk | hk
    · exact .inl (.inl hk)
    · exact .inr (.inl hk)
    · exact .inr (.inr hk)))
  have hb12 : Below B w w2 := hC12.below (fun k hk => by
    rcases hk with hk | hk | hk
    · exact (hS k hk).1
    · exact (hvB k hk).1
    · omega) (by omega)
  have hnoVl : ∀ k t, Ty w2 k t → t ≠ 67 → t ≠ 3 → t ≠ 130 → t ≠ 9 → t ≠ 109 → ¬ Vl W iv' lv' tv' b1 b2 k := fun k t hk n1 n2 n3 n4 n5 h => by
    rcases h with (h | h | h | h) | h | h
    · exact ty_ne hk hL2.ty n1 h
    · exact ty_ne hk (hI2.own k h).2 n2 rfl
    · exact ty_ne hk (hP2.own k h).2 n3 rfl
    · exact ty_ne hk (hX2.own k h).2 n4 rfl
    · exact ty_ne hk hT2.2.1.ty n5 h
    · exact ty_ne hk hT2.2.2.1.ty n5 h
  refine ⟨⟨hT2, ⟨hv', iv', lv', tv', hL2, hI2, hP2, hX2, fun k hk => (hS1' k hk).2, Mats.app ?_ (fun e he => ?_), ls ++ [(g, n)], ⟨hr2, fun q hq => hnoVl q _ (hr2.own q hq).2 (by decide) (by decide) (by decide) (by decide) (by decide), fun i hi => ?_⟩, by simp; omega, fun q hq => ?_⟩, hn ▸ hR.pushes xs ps (by omega) (by omega)⟩, hb12, hC12⟩
  · have h1 := hM.chg (S := fun k => S4 W iv lv tv k ∨ hv.ownBlock = some k ∨ k = g) (V' := Vh W hv' iv' lv' tv' b1 b2) hC12 (fun k hk => by
      rcases hk with hk | hk | hk
      · exact .inl (.inl (.inl hk))
      · exact .inl (.inr hk)
      · exact .inr hk) (fun k hk => hVold k (.inl hk))
    exact h1
  · unfold ents at he
    obtain ⟨j, hj, rfl⟩ := List.mem_map.1 he
    have hj' : j < ps.length := List.mem_range.1 hj
    obtain ⟨lo, hi, k1, k2, k3⟩ := hmt j hj'
    have hhi : hi ≤ w1.heap.size := by obtain ⟨_, _, _, _, _, h6⟩ := k2; exact h6
    refine ⟨_, _, _, lo, hi, rfl, hf j (by omega), k2.chg hC2 (fun k hk => ?_), fun q hq => ?_⟩
    · rcases hk with hk | hk | hk
      · exact k3 k (.inl (.inl hk))
      · exact .inl (by have := (hvB k hk).2; omega)
      · exact .inl (by omega)
    · rcases hq with (hq | hq) | hq
      · exact k3 q (.inl hq)
      · rcases hq with hq | hq <;> exact .inl (by omega)
      · rcases ho2 q hq with h | h
        · exact .inl (by have := (hvB q h).2; omega)
        · exact .inr (by omega)
  · rw [List.length_append, List.length_singleton] at hi
    by_cases hil : i < ls.length
    · have e1 : (ls ++ [(g, n)]).getD i (0, 0) = ls.getD i (0, 0) := by simp [List.getD, List.getElem?_append_left hil]
      rw [e1]
      have h1 := hH.chg (S := S4 W iv lv tv) (V' := fun k => Vl W iv' lv' tv' b1 b2 k ∨ k = g) hC1 (fun k hk => .inl (.inl hk)) (fun k hk => by
        rcases hk with (hk | hk) | hk
        · rcases hS1 k hk with h | h
          · exact .inl (.inl (.inl h))
          · exact .inr h
        · exact .inl (.inl (.inr hk))
        · exact .inl (.inr hk))
      obtain ⟨a1, a2, a3⟩ := h1.2.2 i hil
      refine ⟨a1, fun hv2 => a2 (.inl hv2), a3.chg hC2 (fun k hk h => ?_)⟩
      have hkk := (hl1_own _ _).1 hk
      rcases h with h | h | h
      · exact ty_ne (a3.own k hk).2 hL1.ty (by decide) h
      · exact ty_ne (a3.own k hk).2 (hhv1.own k h).2 (by decide) rfl
      · exact a2 (.inr (by rw [← hkk]; exact h))
    · have hie : i = ls.length := by omega
      have e1 : (ls ++ [(g, n)]).getD i (0, 0) = (g, n) := by simp [List.getD, hie]
      rw [e1, hie]
      refine ⟨hn5, fun h => ?_, hl2⟩
      have hg2 := (hl2.own g ((hl1_own _ _).2 rfl)).2
      rcases h with (h | h | h | h) | h | h
      · exact ty_ne hg2 hL2.ty (by decide) h
      · exact hivg g (.inr (.inl h)) rfl
      · exact ty_ne hg2 (hP2.own g h).2 (by decide) rfl
      · exact ty_ne hg2 (hX2.own g h).2 (by decide) rfl
      · exact ty_ne hg2 hT2.2.1.ty (by decide) h
      · exact ty_ne hg2 hT2.2.2.1.ty (by decide) h
  · rcases ho2 q hq with h | h
    · exact (hvB q h).1
    · omega
end Go.Proofs.YtfjbijpagaipnaaGreatDoor
namespace Go.Proofs.YtfjbijpagaipnaaGreatDoor
open Go.RowKit R
theorem lt_dec {z : Int} {m : Nat} (h : z.natAbs < 2 ^ (16 * m)) : z.natAbs < 10 ^ (5 * m) ∧ z.natAbs < 10000 ^ (2 * m) := by
  have e1 : 2 ^ (16 * m) = (65536 : Nat) ^ m := by rw [Nat.pow_mul]
  have e2 : 10 ^ (5 * m) = (100000 : Nat) ^ m := by rw [Nat.pow_mul]
  have e3 : 10000 ^ (2 * m) = (100000000 : Nat) ^ m := by rw [Nat.pow_mul]
  rw [e1] at h
  rw [e2, e3]
  exact ⟨Nat.lt_of_lt_of_le h (Nat.pow_le_pow_left (by decide) m), Nat.lt_of_lt_of_le h (Nat.pow_le_pow_left (by decide) m)⟩
theorem R.IsN.fit {w : World} {v : Value} {z : Int} {L K : Nat} (h : IsN w v z L) (hz : z.natAbs < 10000 ^ K) : IsN w v z K := by
  obtain ⟨neg, sl, xs, h1, h2, h3, h4, h5, h6⟩ := h
  refine ⟨neg, sl, xs, h1, h2, h3, h4, h5, ?_⟩
  rcases Nat.lt_or_ge K xs.length with h7 | h7
  · exfalso
    have h8 := R.Lim_ge h3 (by intro e; rw [e] at h7; simp at h7)
    have h9 : 10000 ^ K ≤ 10000 ^ (xs.length - 1) := Nat.pow_le_pow_right (by decide) (by omega)
    have h10 : z.natAbs = R.val xs := by
      cases neg
      · rw [h5]; simp
      · rw [h5]; simp
    omega
  · exact h7
theorem R.IsR.fit {B : Nat} {w : World} {b r c : Nat} {gs : Nat → Nat} {f : Nat → Nat → Int} {L m : Nat} (h : IsR B w b r c gs f L) (hf : ∀ i j, i < r → j < c → (f i j).natAbs < 2 ^ (16 * m)) : IsR B w b r c gs f (2 * m) := by
  obtain ⟨h0, v, h1, h2, h3, h4⟩ := h
  refine ⟨h0, v, h1, h2, fun i hi => ⟨(h3 i hi).1, ?_⟩, h4⟩
  obtain ⟨cs, q1, q2, q3⟩ := (h3 i hi).2
  refine ⟨cs, q1, q2, fun j hj => ?_⟩
  obtain ⟨a, b, e1, e2, e3, e4⟩ := q3 j hj
  exact ⟨a, b, e1, e2, e3.fit (lt_dec (hf i j hi hj)).2, e4⟩
theorem fine_bits {r c m : Nat} {zs : List Int} (hr : r ≤ 4) (hc : c ≤ 4) (hl : zs.length = r * c) (hz : ∀ t, t < r * c → (zs.getD t 0).natAbs < 2 ^ (16 * (m + 1))) (hm : m ≤ 300000000) : Fine r c zs :=
  fine_small (k := 5 * m + 4) hr hc hl (fun t ht => (lt_dec (hz t ht)).1) (by omega)
end Go.Proofs.YtfjbijpagaipnaaGreatDoor
namespace Go.Proofs.YtfjbijpagaipnaaGreatDoor.R
open Go.RowKit
theorem IsR.ne_row {B : Nat} {w : World} {b r c : Nat} {gs : Nat → Nat} {f : Nat → Nat → Int} {L : Nat} (h : IsR B w b r c gs f L) {i : Nat} (hi : i < r) : b ≠ gs i := by
  obtain ⟨h0, v, h1, h2, h3, h4⟩ := h
  obtain ⟨cs, q1, -⟩ := (h3 i hi).2
  intro e
  rw [e, q1] at h1
  simp at h1
theorem IsR.set_at {B : Nat} {w : World} {b r c : Nat} {gs : Nat → Nat} {f : Nat → Nat → Int} {L : Nat} (h : IsR B w b r c gs f L) {i j : Nat} (hi : i < r) (hj : j < c) {x y : Value} {z : Int} (hz : IsN w (.agg #[x, y]) z L) {gL cap : Nat} (h2 : w.cell? ⟨b, 2, none⟩ = some (.slice (some ⟨gL, 0, none⟩) r cap)) {k : Nat} (hk : k < r) :
    ((w.setCell ⟨gs i, 2 * j, none⟩ x).setCell ⟨gs i, 2 * j + 1, none⟩ y).cell? ⟨b, 2, none⟩ = some (.slice (some ⟨gL, 0, none⟩) r cap) ∧ ((w.setCell ⟨gs i, 2 * j, none⟩ x).setCell ⟨gs i, 2 * j + 1, none⟩ y).cell? ⟨gL, k, none⟩ = some (.slice (some ⟨gs k, 0, none⟩) c c) := by
  have hne := h.ne_row hi
  have e1 : ((w.setCell ⟨gs i, 2 * j, none⟩ x).setCell ⟨gs i, 2 * j + 1, none⟩ y).cell? ⟨b, 2, none⟩ = some (.slice (some ⟨gL, 0, none⟩) r cap) := by
    rw [World.cell?_setCell_other _ _ _ _ (fun e => hne (by injection e with e1; exact e1.symm)), World.cell?_setCell_other _ _ _ _ (fun e => hne (by injection e with e1; exact e1.symm))]
    exact h2
  refine ⟨e1, ?_⟩
  obtain ⟨-, ao, cap', -, -, e2, -, -, e3, -⟩ := ((h.weak (Nat.zero_le _)).set hi hj hz (AtB.zero _)).open_
  rw [e1] at e2
  simp only [Option.some.injEq, Value.slice.injEq] at e2
  obtain ⟨g, hg, hc⟩ := e3 k hk
  rw [← e2.1] at hg
  simp only [Option.some.injEq, Addr.mk.injEq, and_true] at hg
  rw [hg]
  exact hc
def OneTo (n : Nat) (g : Nat → Nat → Int) : Prop := ∀ i j, g i j = if i = j ∧ i < n then 1 else 0
theorem OneTo.next {n : Nat} {g : Nat → Nat → Int} (h : OneTo n g) : OneTo (n + 1) (upd2 g n n 1) := fun i j => by
  unfold upd2
  rw [h i j]
  grind
set_option maxRecDepth 100000 in
set_option maxHeartbeats 4000000 in
theorem one_yes (b r : Nat) (gs : Nat → Nat) (f : Nat → Nat → Int) (B L : Nat) (w : World) (h : IsR B w b r r gs f L) (he : ∀ i j, i < r → j < r → f i j = if i = j then 1 else 0) (hL : L ≤ 50000000000) (hL4 : 4 ≤ L) (hr : r ≤ 99) :
    Calls Tryz.prog 176 #[.pointer (some ⟨b, 0, none⟩)] w fun e w' => e = .returned (.bool true) ∧ Below w.heap.size w w' := by
  have H := Hid.mk (And.intro h he)
  obtain ⟨hbl, ao, cap, c0, c1, c2, -⟩ := h.open_
  clear h he
  go_enter Tryz.func176, Tryz.ntmps176
  go_upto_region 1 with fail
  go_cut [3] from 6 to 15 (fun o wx => o = .pointer (some ⟨w.heap.size, 0, none⟩) ∧ (∃ go, IsR w.heap.size wx w.heap.size r r go (fun _ _ => 0) 0) ∧ Below w.heap.size w wx)
  case first =>
    go_region_held3 (fun w' => w'.cell? ⟨b, 0, none⟩ = some (.int .i64 r)) (first | go_keep | exact cell_later hb2 c0)
      (first | (go_at_call 126; refine (empty_any r r _ (by omega) (by omega)).mono ?_; rintro e w2 ⟨rfl, hI2, hb2⟩))
    all_goals
      go_wp2_with fail
      go_meet
      case rel => exact ⟨rfl, hI2, (Below.refl w.heap.size w).drew.trans hb2⟩
  case rest =>
    obtain ⟨rfl, ⟨go, hI⟩, hbc⟩ := hcut
    have hgo := hI.rowsAt
    have HGO := Hid.mk hgo
    have H0 := Hid.mk (And.intro ((hI.weak (Nat.zero_le _)).mono (Nat.zero_le L)) hbc)
    clear hI hbc hgo c0 c1 c2
    go_wp2_with fail
    go_loopw [4] (fun i wr => ∃ (a : Nat) (g : Nat → Nat → Int), a ≤ r ∧ i = .int .i64 a ∧ IsR 0 wr w.heap.size r r go g L ∧ Below w.heap.size w wr ∧ Hid (OneTo a g)) (fun i _ => r - (intOf i).toNat)
    case atStart => exact ⟨0, _, Nat.zero_le _, rfl, H0.out.1, H0.out.2, Hid.mk (fun i j => by simp)⟩
    case round =>
      rename World => wi
      obtain ⟨a, g, ha, rfl, hI, hbel, HU⟩ := hrel
      obtain ⟨-, ao, cap, c0, c1, c2, -⟩ := (H.out.1.keep (KR.of_below hbel)).open_
      obtain ⟨-, ao', cap', d0, d1, d2, d3, d4, d5, d6⟩ := hI.open_
      have HB := Hid.mk (And.intro hI hbel)
      have hwi := hbel.size
      clear hI hbel
      by_cases har : a < r
      · have hai : (a : Int) < (r : Int) := by omega
        obtain ⟨gL, rfl, y1⟩ := d5 a har
        obtain ⟨nb, so, n, cp, y2, y3, y4, y5, -⟩ := d6 a a har har
        rw [Nat.mul_comm 2] at y2 y3 y4 y5
        clear d5 d6
        have HS := Hid.mk (show ∀ w', Below wi.heap.size wi w' → w'.cell? ⟨w.heap.size, 2, none⟩ = some (.slice (some ⟨gL, 0, none⟩) r cap') ∧ w'.cell? ⟨gL, a, none⟩ = some (.slice (some ⟨go a, 0, none⟩) r r) from fun w' hb => ⟨cell_later hb d2, cell_later hb y1⟩)
        have hgl : go a < wi.heap.size := (HB.out.1.rowsAt a har).2
        have HGL := Hid.mk (And.intro hgl (And.intro hwi (And.intro y2 (And.intro y3 (And.intro y4 y5)))))
        clear hgl hwi y2 y3 y4 y5
        go_wp2_with fail
        go_region_held3 (fun w' => w'.cell? ⟨w.heap.size, 2, none⟩ = some (.slice (some ⟨gL, 0, none⟩) r cap') ∧ w'.cell? ⟨gL, a, none⟩ = some (.slice (some ⟨go a, 0, none⟩) r r))
          (first | exact hk9 | exact HS.out _ (by first | exact hb9 | exact (Below.refl _ _).drew))
          (first | (go_at_call 172; refine (of_any 1 _ (by omega)).mono ?_; rintro e w2 ⟨p9, rfl, hp9, hb2⟩; obtain ⟨nb9, so9, cp9, xs9, rfl, -⟩ := hp9.parts; have hb9 : Below wi.heap.size wi w2 := (Below.refl _ _).drew.trans hb2; have hI9 := HB.out.1.keep (KR.of_below hb9); obtain ⟨-, ao9, cap9, -, -, -, -, -, -, d9⟩ := hI9.open_; obtain ⟨n9, s9, l9, q9, x2, x3, x4, x5, -⟩ := d9 a a har har; rw [Nat.mul_comm 2] at x2 x3 x4 x5; have hk9 := hI9.set_at har har (hp9.mono (show 3 ≤ L by omega)) (cell_later hb9 d2) har; rw [Nat.mul_comm 2] at hk9; clear hb2 d9))
        all_goals
          go_wp2_with fail
          go_roundw
          case measure => simp [intOf]; omega
          case rel =>
            have hset := hI9.set har har (hp9.mono (show 3 ≤ L by omega)) (AtB.zero _)
            rw [Nat.mul_comm 2] at hset
            have hge := (HGO.out a har).1
            have hbw : Below w.heap.size w w2 := HB.out.2.trans (hb9.mono HB.out.2.size)
            exact ⟨a + 1, _, by omega, by go_num, hset, (hbw.setCell hge _).setCell hge _, Hid.mk (HU.out.next)⟩
      · go_wp2_with fail
        refine (same_yes b r r gs f B w.heap.size go g 0 L _ (H.out.1.keep (KR.of_below HB.out.2)) HB.out.1 (fun i j hi hj => by rw [H.out.2 i j hi hj, HU.out i j]; by_cases hij : i = j <;> simp [hij]; omega) hL hr hr).mono ?_
        rintro x w7 ⟨rfl, hb7⟩
        have HF := Hid.mk (HB.out.2.trans (hb7.mono hwi))
        clear hb7
        go_wp2_with fail
        go_ret
        exact ⟨rfl, HF.out⟩
end Go.Proofs.YtfjbijpagaipnaaGreatDoor.R
namespace Go.Proofs.YtfjbijpagaipnaaGreatDoor.R
open Go.RowKit
structure EchP (f : Nat → Nat → Int) (r c k : Nat) (pc : Nat → Nat) : Prop where
  le : k ≤ r
  col : ∀ i, i < k → pc i < c
  up : ∀ a b, a < b → b < k → pc a < pc b
  left : ∀ i, i < k → ∀ j, j < pc i → f i j = 0
  pos : ∀ i, i < k → 0 < f i (pc i)
  above : ∀ a i, a < i → i < k → 0 ≤ f a (pc i) ∧ f a (pc i) < f i (pc i)
  rest : ∀ i, k ≤ i → i < r → ∀ j, j < c → f i j = 0
def LastE (k : Nat) (pc : Nat → Nat) (i : Nat) (la : Int) : Prop := (i < k → la < (pc i : Int))
theorem sgn_pos' {z : Int} (h : 0 < z) : sgn z = 1 := by unfold sgn; grind
set_option maxRecDepth 100000 in
set_option maxHeartbeats 4000000 in
theorem echelon_yes (b r c : Nat) (gs : Nat → Nat) (f : Nat → Nat → Int) (B L k : Nat) (pc : Nat → Nat) (w : World) (h : IsR B w b r c gs f L) (he : EchP f r c k pc) (hL : L ≤ 50000000000) (hr : r ≤ 99) (hc : c ≤ 99) :
    Calls Tryz.prog 117 #[.pointer (some ⟨b, 0, none⟩)] w fun e w' => e = .returned (.bool true) ∧ Below w.heap.size w w' := by
  have H := Hid.mk (And.intro h he)
  obtain ⟨hbl, ao, cap, c0, c1, c2, -⟩ := h.open_
  clear h he
  go_enter Tryz.func117, Tryz.ntmps117
  go_wp2_with fail
  go_loopw [3, 4] (fun la i wr => ∃ (a : Nat) (l : Int), a ≤ r ∧ i = .int .i64 a ∧ la = .int .i64 l ∧ Hid (LastE k pc a l) ∧ Below w.heap.size w wr) (fun _ i _ => r - (intOf i).toNat)
  case atStart => exact ⟨0, -1, Nat.zero_le _, rfl, rfl, Hid.mk (fun _ => by omega), Below.refl _ _⟩
  case round =>
    rename World => wi
    obtain ⟨a, l, ha, rfl, rfl, HL, hbel⟩ := hrel
    clear c0 c1 c2
    obtain ⟨-, ao, cap, c0, c1, c2, -⟩ := (H.out.1.keep (KR.of_below hbel)).open_
    have HB := Hid.mk hbel
    clear hbel
    by_cases har : a < r
    · by_cases hak : a < k
      · obtain ⟨p, hp⟩ : ∃ p, p = pc a := ⟨_, rfl⟩
        have hpc : p < c := by rw [hp]; exact H.out.2.col a hak
        have hl0 : l < (p : Int) := by rw [hp]; exact HL.out hak
        have HP := Hid.mk hp
        clear hp
        go_wp2_with fail
        go_loopw [5] (fun j wr => ∃ e : Nat, e ≤ p ∧ j = .int .i64 e ∧ Below w.heap.size w wr) (fun j _ => p - (intOf j).toNat)
        case atStart => exact ⟨0, Nat.zero_le _, rfl, HB.out⟩
        case round =>
          rename World => wj
          obtain ⟨e, he, rfl, hbel⟩ := hrel
          clear c0 c1 c2
          obtain ⟨-, ao, cap, c0, c1, c2, c3, c4, c5, c6⟩ := (H.out.1.keep (KR.of_below hbel)).open_
          have HB2 := Hid.mk hbel
          clear hbel
          have hec : e < c := by omega
          have hai : (a : Int) < (r : Int) := by omega
          have hei : (e : Int) < (c : Int) := by omega
          obtain ⟨gL, rfl, y1⟩ := c5 a har
          obtain ⟨nb, so, n, cp, y2, y3, -, -, hN⟩ := c6 a e har hec
          rw [Nat.mul_comm 2] at y2 y3
          have HN := Hid.mk hN
          clear hN c5 c6
          by_cases hep : e < p
          · have hz : sgn (f a e) = 0 := by rw [H.out.2.left a hak e (by have := HP.out; omega)]; rfl
            go_wp2_with fail
            refine (sign_any _ (f a e) L _ HN.out).mono ?_
            rintro x w2 ⟨rfl, hb2⟩
            have HB3 := Hid.mk (HB2.out.trans (hb2.mono HB2.out.size))
            rw [hz]
            clear hb2 c0 c1 c2 y1 y2 y3 hz
            go_wp2_with fail
            go_roundw
            case measure => simp [intOf]; omega
            case rel => exact ⟨e + 1, by omega, by go_num, HB3.out⟩
          · obtain rfl : e = p := by omega
            have hz : sgn (f a e) = 1 := sgn_pos' (by rw [HP.out]; exact H.out.2.pos a hak)
            go_wp2_with fail
            refine (sign_any _ (f a e) L _ HN.out).mono ?_
            rintro x w2 ⟨rfl, hb2⟩
            have HB3 := Hid.mk (HB2.out.trans (hb2.mono HB2.out.size))
            have HN3 := Hid.mk (HN.out.below hb2)
            have x0 := cell_later hb2 c0
            have x1 := cell_later hb2 c1
            have x2 := cell_later hb2 c2
            have x3 := cell_later hb2 y1
            have x4 := cell_later hb2 y2
            have x5 := cell_later hb2 y3
            rw [hz]
            clear hb2 c0 c1 c2 y1 y2 y3
            go_wp2_with fail
            refine (sign_any _ (f a e) L _ HN3.out).mono ?_
            rintro x w3 ⟨rfl, hb3⟩
            have HB4 := Hid.mk (HB3.out.trans (hb3.mono HB3.out.size))
            rw [hz]
            clear hb3 x0 x1 x2 x3 x4 x5 hz
            go_wp2_with fail
            go_loopw [7, 8] (fun _ j wr => ∃ q : Nat, q ≤ a ∧ j = .int .i64 q ∧ Below w.heap.size w wr) (fun _ j _ => a - (intOf j).toNat)
            case atStart => exact ⟨0, Nat.zero_le _, rfl, HB4.out⟩
            case round =>
              rename World => wk
              obtain ⟨q, hq, rfl, hbel⟩ := hrel
              obtain ⟨-, ao, cap, c0, c1, c2, c3, c4, c5, c6⟩ := (H.out.1.keep (KR.of_below hbel)).open_
              have HB5 := Hid.mk hbel
              clear hbel
              by_cases hqa : q < a
              · have hqr : q < r := by omega
                have hqi : (q : Int) < (r : Int) := by omega
                have hqi' : (q : Int) < (a : Int) := by omega
                obtain ⟨gL, rfl, y1⟩ := c5 a har
                obtain ⟨nb, so, n, cp, y2, y3, -, -, hN⟩ := c6 a e har hec
                obtain ⟨gL', hgL', z1⟩ := c5 q hqr
                simp only [Option.some.injEq, Addr.mk.injEq, and_true] at hgL'
                subst hgL'
                obtain ⟨nb', so', n', cp', z2, z3, -, -, hN'⟩ := c6 q e hqr hec
                rw [Nat.mul_comm 2] at y2 y3 z2 z3
                have HN := Hid.mk (And.intro hN' hN)
                clear hN hN' c5 c6
                have HA := Hid.mk (show 0 ≤ f q e ∧ f q e < f a e by rw [HP.out]; exact H.out.2.above q a hqa hak)
                obtain ⟨sg, hsg⟩ : ∃ sg, sg = sgn (f q e) := ⟨_, rfl⟩
                have hsg0 : 0 ≤ sg := by have := HA.out.1; rw [hsg]; unfold sgn; grind
                go_wp2_with fail
                refine (sign_any _ (f q e) L _ HN.out.1).mono ?_
                rintro x w4 ⟨rfl, hb4⟩
                rw [← hsg]
                have HC := Hid.mk (show ∀ w', Below w4.heap.size w4 w' → w'.cell? ⟨b, 2, none⟩ = some (.slice (some ⟨gL, 0, none⟩) r cap) ∧ w'.cell? ⟨gL, a, none⟩ = some (.slice (some ⟨gs a, 0, none⟩) c c) ∧ w'.cell? ⟨gs a, e * 2, none⟩ = some (.bool nb) ∧ w'.cell? ⟨gs a, e * 2 + 1, none⟩ = some (.slice so n cp) ∧ w'.cell? ⟨gL, q, none⟩ = some (.slice (some ⟨gs q, 0, none⟩) c c) ∧ w'.cell? ⟨gs q, e * 2, none⟩ = some (.bool nb') ∧ w'.cell? ⟨gs q, e * 2 + 1, none⟩ = some (.slice so' n' cp') from
                  fun w' hb => ⟨cell_later hb (cell_later hb4 c2), cell_later hb (cell_later hb4 y1), cell_later hb (cell_later hb4 y2), cell_later hb (cell_later hb4 y3), cell_later hb (cell_later hb4 z1), cell_later hb (cell_later hb4 z2), cell_later hb (cell_later hb4 z3)⟩)
                have HB6 := Hid.mk (And.intro (HB5.out.trans (hb4.mono HB5.out.size)) (And.intro (HN.out.1.below hb4) (HN.out.2.below hb4)))
                have t2 := HC.out w4 (Below.refl _ _)
                obtain ⟨t2, t3, t4, t5, t6, t7, t8⟩ := t2
                clear hb4 c0 c1 c2 y1 y2 y3 z1 z2 z3 hsg
                go_upto_region 20 with fail
                go_cut [9] from 84 to 105 (fun o wx => o = .int .i64 (-1) ∧ Below w.heap.size w wx)
                case first =>
                  go_region_held3 (fun w' => w'.cell? ⟨b, 2, none⟩ = some (.slice (some ⟨gL, 0, none⟩) r cap) ∧ w'.cell? ⟨gL, a, none⟩ = some (.slice (some ⟨gs a, 0, none⟩) c c) ∧ w'.cell? ⟨gs a, e * 2, none⟩ = some (.bool nb) ∧ w'.cell? ⟨gs a, e * 2 + 1, none⟩ = some (.slice so n cp) ∧ w'.cell? ⟨gL, q, none⟩ = some (.slice (some ⟨gs q, 0, none⟩) c c) ∧ w'.cell? ⟨gs q, e * 2, none⟩ = some (.bool nb') ∧ w'.cell? ⟨gs q, e * 2 + 1, none⟩ = some (.slice so' n' cp'))
                    (exact HC.out _ (by first | exact hb9 | exact (Below.refl _ _).drew))
                    (first | (go_at_call 163; refine (order_any _ _ (f q e) (f a e) L L _ (HB6.out.2.1.below ((Below.refl _ _).drew)) (HB6.out.2.2.below ((Below.refl _ _).drew)) hL hL).mono ?_; rintro e w2 ⟨rfl, hb2⟩; have hb9 : Below w4.heap.size w4 w2 := (Below.refl _ _).drew.trans hb2; clear hb2))
                  all_goals
                    go_wp2_with fail
                    go_meet
                    case rel =>
                      refine ⟨?_, HB6.out.1.trans (hb9.mono HB6.out.1.size)⟩
                      have : sgn (f q e - f a e) = -1 := by have := HA.out.2; unfold sgn; grind
                      rw [this]
                case rest =>
                  obtain ⟨rfl, hbc⟩ := hcut
                  have HB7 := Hid.mk hbc
                  clear hbc t2 t3 t4 t5 t6 t7 t8
                  go_wp2_with fail
                  go_roundw
                  case measure => simp [intOf]; omega
                  case rel => exact ⟨q + 1, by omega, by go_num, HB7.out⟩
              · clear c5 c6
                go_wp2_with fail
                go_roundw
                case measure => simp [intOf]; omega
                case rel => exact ⟨a + 1, _, by omega, by go_num, rfl, Hid.mk (fun h => by have := H.out.2.up a (a + 1) (by omega) h; have := HP.out; omega), HB5.out⟩
      · go_wp2_with fail
        go_loopw [5] (fun j wr => ∃ e : Nat, e ≤ c ∧ j = .int .i64 e ∧ Below w.heap.size w wr) (fun j _ => c - (intOf j).toNat)
        case atStart => exact ⟨0, Nat.zero_le _, rfl, HB.out⟩
        case round =>
          rename World => wj
          obtain ⟨e, he, rfl, hbel⟩ := hrel
          clear c0 c1 c2
          obtain ⟨-, ao, cap, c0, c1, c2, c3, c4, c5, c6⟩ := (H.out.1.keep (KR.of_below hbel)).open_
          have HB2 := Hid.mk hbel
          clear hbel
          by_cases hec : e < c
          · have hai : (a : Int) < (r : Int) := by omega
            have hei : (e : Int) < (c : Int) := by omega
            obtain ⟨gL, rfl, y1⟩ := c5 a har
            obtain ⟨nb, so, n, cp, y2, y3, -, -, hN⟩ := c6 a e har hec
            rw [Nat.mul_comm 2] at y2 y3
            have HN := Hid.mk hN
            clear hN c5 c6
            have hz : sgn (f a e) = 0 := by rw [H.out.2.rest a (by omega) har e hec]; rfl
            go_wp2_with fail
            refine (sign_any _ (f a e) L _ HN.out).mono ?_
            rintro x w2 ⟨rfl, hb2⟩
            have HB3 := Hid.mk (HB2.out.trans (hb2.mono HB2.out.size))
            rw [hz]
            clear hb2 c0 c1 c2 y1 y2 y3 hz
            go_wp2_with fail
            go_roundw
            case measure => simp [intOf]; omega
            case rel => exact ⟨e + 1, by omega, by go_num, HB3.out⟩
          · obtain rfl : e = c := by omega
            clear c5 c6
            have iee : ((e : Int) == (e : Int)) = true := by simp
            go_wp2_with fail
            go_roundw
            case measure => simp [intOf]; omega
            case rel => exact ⟨a + 1, _, by omega, by go_num, rfl, Hid.mk (fun h => by omega), HB2.out⟩
    · go_wp2_with fail
      go_ret
      exact ⟨rfl, HB.out⟩
end Go.Proofs.YtfjbijpagaipnaaGreatDoor.R
namespace Go.Proofs.YtfjbijpagaipnaaGreatDoor
open Go.RowKit R
set_option maxRecDepth 100000 in
set_option maxHeartbeats 2000000 in
theorem inverse_yes (b b' n L : Nat) (gs gs' : Nat → Nat) (f f' : Nat → Nat → Int) (B B' : Nat) (w : World) (h : IsR B w b n n gs f L) (h' : IsR B' w b' n n gs' f' L) (hn : n ≤ 8) (hL : L ≤ 15000000000) (he : ∀ i j, i < n → j < n → dot f f' i j n = if i = j then 1 else 0) :
    Calls Tryz.prog 118 #[.pointer (some ⟨b, 0, none⟩), .pointer (some ⟨b', 0, none⟩), .int .i64 n] w fun x w' => x = .returned (.bool true) ∧ Below w.heap.size w w' := by
  have H := Hid.mk (And.intro h (And.intro h' he))
  obtain ⟨-, ao, cap, c0, c1, -⟩ := h.open_
  obtain ⟨-, ao', cap', d0, d1, -⟩ := h'.open_
  clear h h' he
  have hnn : ((n : Int) == (n : Int)) = true := by simp
  go_enter Tryz.func118, Tryz.ntmps118
  go_wp2_with fail
  try go_quiet (fail)
  go_wp2_with fail
  refine (mtimes_any L L b n n gs f B b' n gs' f' B' _ H.out.1 H.out.2.1 hn hn hn (by omega)).mono ?_
  rintro e w1 ⟨rfl, ⟨go, hI⟩, hb1⟩
  have K := Hid.mk (And.intro hI hb1)
  clear hI hb1 c0 c1 d0 d1
  go_wp2_with fail
  refine (one_yes w.heap.size n go _ 0 (L + L + 12) _ K.out.1 H.out.2.2 (by omega) (by omega) (by omega)).mono ?_
  rintro e w2 ⟨rfl, hb2⟩
  have K2 := Hid.mk (K.out.2.trans (hb2.mono K.out.2.size))
  clear hb2
  go_wp2_with fail
  go_ret
  exact ⟨rfl, K2.out⟩
end Go.Proofs.YtfjbijpagaipnaaGreatDoor
