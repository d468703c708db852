import Derived.Test.YtjhcbenldfplcaaGreatDoorC32
import Derived.Test.YtjhcbenldfplcaaGreatDoorC28
import Derived.Test.YtjhcbenldfplcaaGreatDoorC09
import Derived.Test.YtjhcbenldfplcaaGreatDoorC06
import Derived.Test.YtjhcbenldfplcaaGreatDoorC24
import Derived.Deep.CutRange
import Derived.Deep.LoopGhost
/- The rank of what is cleared. -/
namespace Go.Proofs.YtjhcbenldfplcaaGreatDoor.R

/-- A matrix that is cleared: p pivots, in the columns pc. -/
structure Ech (g : Nat → Nat → Int) (r c p : Nat) (pc : Nat → Nat) : Prop where
  le : p ≤ r
  col : ∀ b, b < p → pc b < c
  up : ∀ a b, a < b → b < p → pc a < pc b
  piv : ∀ b, b < p → g b (pc b) ≠ 0
  below : ∀ a b, b < p → b < a → a < r → g a (pc b) = 0
  rest : ∀ a, p ≤ a → a < r → ∀ j, j < c → g a j = 0
theorem cols_mem {pc : Nat → Nat} {p : Nat} (up : ∀ a b, a < b → b < p → pc a < pc b) : ∀ n N, n ≤ p → (∀ b, b < n → pc b < N) → (List.range n).map pc ∈ chosenL n N := by
  intro n
  induction n with
  | zero => intro N _ _; simp [chosenL]
  | succ n ih =>
    intro N hn hb
    rw [List.range_succ, List.map_append, List.map_singleton]
    exact chosenL_snoc (ih (pc n) (by omega) (fun b hb' => up b n hb' (by omega))) (hb n (by omega))
theorem sumF_one (n : Nat) (g : Nat → Int) (h : ∀ k, 0 < k → k < n + 1 → g k = 0) : sumF (n + 1) g = g 0 := by
  induction n with
  | zero => simp [sumF]
  | succ n ih => rw [sumF, ih (fun k h1 h2 => h k h1 (by omega)), h (n + 1) (by omega) (by omega)]; simp
theorem tri {g : Nat → Nat → Int} {r c p : Nat} {pc : Nat → Nat} (h : Ech g r c p pc) : ∀ n o, o + n ≤ p → mv ((List.range' o n).map g) ((List.range' o n).map pc) ≠ 0 := by
  intro n
  induction n with
  | zero => intro o _; simp [mv]
  | succ n ih =>
    intro o ho
    rw [List.range'_succ, List.map_cons, List.map_cons, mv, List.length_cons, sumF_one _ _ (fun k hk0 hk => ?_)]
    · have e : signed 0 (g o ((pc o :: (List.range' (o + 1) n).map pc).getD 0 0) * mv ((List.range' (o + 1) n).map g) ((pc o :: (List.range' (o + 1) n).map pc).eraseIdx 0)) = g o (pc o) * mv ((List.range' (o + 1) n).map g) ((List.range' (o + 1) n).map pc) := by simp [signed]
      rw [e]
      intro h0
      rcases Int.mul_eq_zero.1 h0 with h1 | h1
      · exact h.piv o (by omega) h1
      · exact ih (o + 1) (by omega) h1
    · have hz : mv ((List.range' (o + 1) n).map g) ((pc o :: (List.range' (o + 1) n).map pc).eraseIdx k) = 0 := by
        refine mv_zero_col (pc o) _ _ (fun v hv => ?_) ?_ ?_
        · obtain ⟨a, ha, rfl⟩ := List.mem_map.1 hv
          have ha' := List.mem_range'_1.1 ha
          have := h.le
          exact h.below a o (by omega) (by omega) (by omega)
        · match k, hk0 with
          | k + 1, _ => simp
        · rw [List.length_eraseIdx, if_pos (by simpa using hk)]
          simp
      rw [hz]
      unfold signed; split <;> simp
theorem ech_cols {g : Nat → Nat → Int} {r c p : Nat} {pc : Nat → Nat} (h : Ech g r c p pc) : p ≤ c := by
  have key : ∀ b, b < p → b ≤ pc b := by
    intro b
    induction b with
    | zero => intro _; omega
    | succ b ih => intro hb; have h1 := ih (by omega); have h2 := h.up b (b + 1) (by omega) hb; omega
  rcases Nat.eq_zero_or_pos p with h0 | h0
  · omega
  · have h1 := key (p - 1) (by omega)
    have h2 := h.col (p - 1) (by omega)
    omega
/-- The number of pivots is the rank. -/
theorem ech_rank {f g : Nat → Nat → Int} {r c p : Nat} {pc : Nat → Nat} (h : Ech g r c p pc) (hfg : ∀ m, AllV f r c m ↔ AllV g r c m) (hr : r ≤ 4) (_hc : c ≤ 4) : RankIs f r c p := by
  refine ⟨h.le, ech_cols h, fun i hi h0 => ?_, ?_⟩
  · have hle := h.le
    have h1 := (hfg (i + 1)).1 ((all_div f r c (i + 1) (by omega)).1 h0)
    have h2 := h1 (List.range (i + 1)) List.length_range (fun x hx => by have := List.mem_range.1 hx; omega) ((List.range (i + 1)).map pc) (cols_mem h.up (i + 1) c (by omega) (fun b hb => h.col b (by omega)))
    have h3 := tri h (i + 1) 0 (by omega)
    rw [← List.range_eq_range'] at h3
    exact h3 h2
  · by_cases hpr : p = r
    · exact .inl hpr
    · by_cases hpc : p = c
      · exact .inr (.inl hpc)
      · refine .inr (.inr ?_)
        have hle := h.le
        rw [all_div f r c (p + 1) (by omega), hfg, ← all_div g r c (p + 1) (by omega)]
        unfold divF
        rw [gA_zero]
        refine ⟨rfl, fun R hR C hC => ?_⟩
        obtain ⟨Q, last, rfl, hQ, hlast, hlr⟩ := chosenL_last hR
        rw [mv_minor, List.map_append, List.map_singleton]
        have hCm := chosenL_mem (p + 1) c C hC
        have hQm := chosenL_mem p last Q hQ
        exact mv_zero_row (g last) [] (Q.map g) C (fun x hx => h.rest last hlast hlr x (hCm.2 x hx)) (by simp [hCm.1, hQm.1])
end Go.Proofs.YtjhcbenldfplcaaGreatDoor.R

/- grid.Matrix: Rank. -/
namespace Go.Proofs.YtjhcbenldfplcaaGreatDoor
open Go.RowKit R

/-- The entries, as a function of row and column. -/
def gz (c : Nat) (zs : List Int) : Nat → Nat → Int := fun i j => zs.getD (i * c + j) 0
/-- Where the clearing stands: the columns ahead of e are done, with k pivots. -/
structure RkSt (F : Nat → Nat → Int) (r c e k : Nat) (pc : Nat → Nat) (G : Nat → Nat → Int) : Prop where
  le : k ≤ r
  col : ∀ b, b < k → pc b < e
  up : ∀ a b, a < b → b < k → pc a < pc b
  piv : ∀ b, b < k → G b (pc b) ≠ 0
  below : ∀ a b, b < k → b < a → a < r → G a (pc b) = 0
  rest : ∀ a, k ≤ a → a < r → ∀ j, j < e → G a j = 0
  all : ∀ m, AllV F r c m ↔ AllV G r c m
theorem RkSt.skip {F G : Nat → Nat → Int} {r c e k : Nat} {pc : Nat → Nat} (h : RkSt F r c e k pc G) (hz : ∀ i, k ≤ i → i < r → G i e = 0) : RkSt F r c (e + 1) k pc G :=
  ⟨h.le, fun b hb => by have := h.col b hb; omega, h.up, h.piv, h.below, fun a h1 h2 j hj => by
    by_cases hje : j = e
    · rw [hje]; exact hz a h1 h2
    · exact h.rest a h1 h2 j (by omega), h.all⟩
theorem sw_lt {a b i r : Nat} (ha : a < r) (hb : b < r) (hi : i < r) : sw a b i < r := by unfold sw; split <;> (try split) <;> omega
theorem sw_sw (a b i : Nat) : sw a b (sw a b i) = i := by
  unfold sw
  by_cases h1 : i = a
  · subst h1
    simp
  · by_cases h2 : i = b
    · subst h2; simp [h1]
    · simp [h1, h2]
/-- Rows change places, and all below the pivot is cleared. -/
theorem RkSt.pivot {F G G1 G2 : Nat → Nat → Int} {r c e k i0 : Nat} {pc : Nat → Nat} (h : RkSt F r c e k pc G) (hi0 : k ≤ i0) (hi0r : i0 < r) (hne : G i0 e ≠ 0) (hec : e < c)
    (h1 : ∀ i j, i < r → j < c → G1 i j = G (sw k i0 i) j) (h2 : ∀ i j, i < r → j < c → G2 i j = if k < i then G1 i j * G1 k e - G1 k j * G1 i e else G1 i j) :
    RkSt F r c (e + 1) (k + 1) (fun b => if b = k then e else pc b) G2 := by
  have hkr : k < r := by omega
  have hp : G1 k e ≠ 0 := by
    rw [h1 k e hkr hec]
    unfold sw
    rw [if_pos rfl]
    exact hne
  have hlow : ∀ i, i < k → ∀ j, j < c → G2 i j = G i j := fun i hi j hj => by
    rw [h2 i j (by omega) hj, if_neg (by omega), h1 i j (by omega) hj]
    unfold sw
    rw [if_neg (by omega), if_neg (by omega)]
  have hrow1 : ∀ i, k ≤ i → i < r → ∀ j, j < e → G1 i j = 0 := fun i hi hir j hj => by
    rw [h1 i j hir (by omega)]
    refine h.rest _ ?_ (sw_lt hkr hi0r hir) j hj
    unfold sw; split <;> (try split) <;> omega
  have hk2 : ∀ j, j < c → G2 k j = G1 k j := fun j hj => by rw [h2 k j hkr hj, if_neg (Nat.lt_irrefl k)]
  refine ⟨by omega, fun b hb => ?_, fun a b hab hb => ?_, fun b hb => ?_, fun a b hb hba har => ?_, fun a ha har j hj => ?_, fun m => ?_⟩
  · show (if b = k then e else pc b) < e + 1
    by_cases hbk : b = k
    · rw [if_pos hbk]; omega
    · rw [if_neg hbk]; have := h.col b (by omega); omega
  · show (if a = k then e else pc a) < (if b = k then e else pc b)
    rw [if_neg (by omega)]
    by_cases hbk : b = k
    · rw [if_pos hbk]; exact h.col a (by omega)
    · rw [if_neg hbk]; exact h.up a b hab (by omega)
  · show G2 b (if b = k then e else pc b) ≠ 0
    by_cases hbk : b = k
    · rw [if_pos hbk, hbk, hk2 e hec]; exact hp
    · rw [if_neg hbk]
      have hc := h.col b (by omega)
      rw [hlow b (by omega) (pc b) (by omega)]
      exact h.piv b (by omega)
  · show G2 a (if b = k then e else pc b) = 0
    by_cases hbk : b = k
    · rw [if_pos hbk, h2 a e har hec, if_pos (by omega)]
      grind
    · rw [if_neg hbk]
      have hc := h.col b (by omega)
      by_cases hak : a < k
      · rw [hlow a hak (pc b) (by omega)]; exact h.below a b (by omega) hba har
      · have hz : ∀ i, k ≤ i → i < r → G1 i (pc b) = 0 := fun i hi hir => hrow1 i hi hir (pc b) hc
        rw [h2 a (pc b) har (by omega), hz a (by omega) har, hz k (Nat.le_refl _) hkr]
        split <;> simp
  · by_cases hje : j = e
    · rw [hje, h2 a e har hec, if_pos (by omega)]
      grind
    · have hz := fun i hi hir => hrow1 i hi hir j (by omega)
      rw [h2 a j har (by omega), hz a (by omega) har, hz k (Nat.le_refl _) hkr]
      split <;> simp
  · rw [h.all m]
    constructor
    · intro hA
      have hB : AllV G1 r c m := all_made hA (fun i hi => ⟨1, 0, sw k i0 i, i, sw_lt hkr hi0r hi, hi, fun j hj => by rw [h1 i j hi hj]; omega⟩)
      exact all_made hB (fun i hi => by
        by_cases hki : k < i
        · exact ⟨G1 k e, -G1 i e, i, k, hi, hkr, fun j hj => by rw [h2 i j hi hj, if_pos hki]; grind⟩
        · exact ⟨1, 0, i, i, hi, hi, fun j hj => by rw [h2 i j hi hj, if_neg hki]; omega⟩)
    · intro hA
      have hB : AllV G1 r c m := all_made_mul hA (fun i hi => by
        by_cases hki : k < i
        · exact ⟨G1 k e, 1, G1 i e, i, k, hp, hi, hkr, fun j hj => by rw [h2 i j hi hj, if_pos hki, hk2 j hj]; grind⟩
        · exact ⟨1, 1, 0, i, i, by omega, hi, hi, fun j hj => by rw [h2 i j hi hj, if_neg hki]; omega⟩)
      exact all_made hB (fun i hi => ⟨1, 0, sw k i0 i, i, sw_lt hkr hi0r hi, hi, fun j hj => by rw [h1 _ j (sw_lt hkr hi0r hi) hj, sw_sw]; omega⟩)
theorem RkSt.done {F G : Nat → Nat → Int} {r c k : Nat} {pc : Nat → Nat} (h : RkSt F r c c k pc G) (hr : r ≤ 4) (hc : c ≤ 4) : RankIs F r c k :=
  ech_rank (g := G) (pc := pc) ⟨h.le, h.col, h.up, h.piv, h.below, h.rest⟩ h.all hr hc
/-- The size of the entries after e columns. -/
def LB : Nat → Nat
  | 0 => 2
  | e + 1 => LB e + LB e + 1
theorem LB_le (e : Nat) (he : e ≤ 4) : LB e ≤ 47 := by
  obtain rfl | rfl | rfl | rfl | rfl : e = 0 ∨ e = 1 ∨ e = 2 ∨ e = 3 ∨ e = 4 := by omega
  all_goals decide
/-- The rows from k + 1 to q are cleared. -/
def ClRows (r c k e q : Nat) (zs ms : List Int) : Prop := ∀ i j, i < r → j < c → ms.getD (i * c + j) 0 = if k < i ∧ i < q then zs.getD (i * c + j) 0 * zs.getD (k * c + e) 0 - zs.getD (k * c + j) 0 * zs.getD (i * c + e) 0 else zs.getD (i * c + j) 0
theorem ClRows.step {r c k e q : Nat} {zs ms ms' : List Int} (h : ClRows r c k e q zs ms) (hkq : k < q) (hq : q < r) (he : e < c) (h' : ClTo r c q k e c ms ms') : ClRows r c k e (q + 1) zs ms' := by
  intro i j hi hj
  rw [h' i j hi hj]
  have hq0 : ∀ j, j < c → ms.getD (q * c + j) 0 = zs.getD (q * c + j) 0 := fun j hj => by rw [h q j hq hj, if_neg (by omega)]
  have hk0 : ∀ j, j < c → ms.getD (k * c + j) 0 = zs.getD (k * c + j) 0 := fun j hj => by rw [h k j (by omega) hj, if_neg (by omega)]
  by_cases hiq : i = q ∧ j < c
  · obtain ⟨rfl, -⟩ := hiq
    rw [if_pos ⟨rfl, hj⟩, if_pos ⟨hkq, by omega⟩, hq0 j hj, hk0 e he, hk0 j hj, hq0 e he]
  · rw [if_neg hiq, h i j hi hj]
    by_cases hlt : k < i ∧ i < q
    · rw [if_pos hlt, if_pos (by omega)]
    · rw [if_neg hlt, if_neg (by omega)]
set_option maxRecDepth 100000 in
set_option maxHeartbeats 4000000 in
theorem grank_any (v : Value) (r c : Nat) (zs : List Int) (w : World) (hm : IsM w v r c zs 2) (hr4 : r ≤ 4) (hc4 : c ≤ 4) :
    Calls Tryz.prog 117 #[v] w fun e w' => ∃ k : Nat, e = .returned (.int .i64 k) ∧ RankIs (gz c zs) r c k ∧ Below w.heap.size w w' := by
  have HM := Hid.mk hm
  obtain ⟨hr, hc, sl, rfl, hg0⟩ := hm
  obtain ⟨ao, cap, rfl, -⟩ := hg0.shape
  obtain ⟨RC, hRC⟩ : ∃ RC, RC = r * c := ⟨_, rfl⟩
  rw [← hRC] at hg0
  rw [← hRC] at HM ⊢
  have H := Hid.mk (And.intro hg0 hRC)
  clear hg0 hRC
  go_enter Tryz.func117, Tryz.ntmps117
  go_wp2_with fail
  have hbA : Below w.heap.size w (w.alloc (.cells #[.int .i64 r, .int .i64 c, .slice ao RC cap] 54)) := (Below.refl _ _).alloc (Nat.le_refl _) _
  refine (fromCells_new r c _ zs 2 _ hr hc (by rw [← H.out.2]; exact H.out.1.below hbA)).mono ?_
  rintro e w1 ⟨g, rfl, hg1, hG1, hb1⟩
  rw [← H.out.2] at hG1 ⊢
  have hgn : w.heap.size + 1 ≤ g := by simpa using hg1
  have hgl : g < w1.heap.size := hG1.ty.lt
  have hbw1 : Below w.heap.size w w1 := hbA.trans (hb1.mono hbA.size)
  have hw1 := hbw1.size
  obtain ⟨W1, hW1⟩ : ∃ W1, W1 = w1.alloc (.cells #[.int .i64 r, .int .i64 c, .slice (some ⟨g, 0, none⟩) RC RC] 54) := ⟨_, rfl⟩
  have hb11 : Below w1.heap.size w1 W1 := by rw [hW1]; exact (Below.refl _ _).alloc (Nat.le_refl _) _
  have hT1 : Trio W1 w1.heap.size (.int .i64 r) (.int .i64 c) (.slice (some ⟨g, 0, none⟩) RC RC) := by rw [hW1]; exact ⟨new_cell _ _ _ _ _ rfl rfl, new_cell _ _ _ _ _ rfl rfl, new_cell _ _ _ _ _ rfl rfl⟩
  have hs1 : W1.heap.size = w1.heap.size + 1 := by rw [hW1]; simp
  have F := Hid.mk (And.intro (hG1.below hb11) (And.intro hT1 (And.intro (hbw1.trans (hb11.mono hw1)) hW1)))
  clear hG1 hb1 hbw1 hb11 hT1 hbA hg1 hW1
  go_wp2_with fail
  rw [← F.out.2.2.2]
  obtain ⟨p, hp⟩ : ∃ p, p = w1.heap.size := ⟨_, rfl⟩
  rw [← hp] at F ⊢
  have hpg : p ≠ g := by omega
  have hpw : w.heap.size + 1 ≤ p := by omega
  have hW1s : W1.heap.size = p + 1 := by omega
  have hgp : g < p := by omega
  clear hp hs1 hgl hw1
  go_loopw [4, 5] (fun rk i wr => ∃ (k e : Nat) (pc : Nat → Nat) (ms : List Int), e ≤ c ∧ k ≤ r ∧ rk = .int .i64 k ∧ i = .int .i64 e ∧ Grid wr (.slice (some ⟨g, 0, none⟩) RC RC) RC ms (LB e) ∧ W1.grownBy wr (some g) ∧ Hid (RkSt (gz c zs) r c e k pc (gz c ms))) (fun _ i _ => c - (intOf i).toNat)
  case atStart =>
    refine ⟨0, 0, id, zs, Nat.zero_le _, Nat.zero_le _, rfl, rfl, F.out.1, World.grownBy.refl _ _, Hid.mk ⟨Nat.zero_le _, fun b hb => by omega, fun a b _ hb => by omega, fun b hb => by omega, fun a b hb => by omega, fun a _ _ j hj => by omega, fun m => Iff.rfl⟩⟩
  case round =>
    rename World => wo
    obtain ⟨k, e, pc, ms, he, hk, rfl, rfl, hG, hgr, HS⟩ := hrel
    have hT := F.out.2.1.grown hgr hpg
    obtain ⟨q0, q1, q2⟩ := id hT
    have hIM : IsM wo (.agg #[.int .i64 r, .int .i64 c, .slice (some ⟨g, 0, none⟩) RC RC]) r c ms (LB e) := ⟨hr, hc, _, rfl, by rw [← H.out.2]; exact hG⟩
    have hwo := hgr.size
    have hbw : Below w.heap.size w wo := F.out.2.2.1.grown hgr (by omega) (fun j hj => by simp at hj; omega)
    have K := Hid.mk (And.intro hG (And.intro hgr (And.intro hT (And.intro hIM hbw))))
    clear hG hgr hT hIM hbw
    by_cases hec : e < c
    · have hei : (e : Int) < (c : Int) := by omega
      go_wp2_with fail
      refine (firstRow_any _ r c e k ms (LB e) _ K.out.2.2.2.1 hec hk).mono ?_
      rintro e9 w2 ⟨z, rfl, hz, hb2⟩
      have hgr2 := grown_below K.out.2.1 hb2
      have hw2 := hb2.size
      have K2 := Hid.mk (And.intro (K.out.1.below hb2) (And.intro hgr2 (K.out.2.2.1.later hb2)))
      clear hb2 hgr2 q0 q1 q2
      rcases hz with ⟨i0, hi0, hi0r, rfl, hnz⟩ | ⟨rfl, hz⟩
      · have HZ := Hid.mk hnz
        have hi00 : ¬ ((i0 : Int) < 0) := by omega
        have hkr : k < r := by omega
        clear hnz
        go_wp2_with fail
        refine (swap_any p g r c RC k i0 H.out.2 ms (LB e) _ K2.out.2.2 K2.out.1 hpg hr hc hkr hi0r).mono ?_
        rintro e9 w3 ⟨rfl, ⟨ms1, hG3, hsw⟩, hgr3⟩
        have hgr03 := grown_trans K2.out.2.1 hgr3
        have hw3 := hgr3.size
        have hM1 := LB_le (e + 1) (by omega)
        have K3 := Hid.mk (And.intro hG3 (And.intro hgr03 (And.intro (F.out.2.1.grown hgr03 hpg) hsw)))
        clear hG3 hgr3 hgr03 hsw
        go_wp2_with fail
        go_loopw [7] (fun i wr => ∃ (q : Nat) (ns : List Int), k < q ∧ q ≤ r ∧ i = .int .i64 q ∧ Grid wr (.slice (some ⟨g, 0, none⟩) RC RC) RC ns (LB (e + 1)) ∧ W1.grownBy wr (some g) ∧ Hid (ClRows r c k e q ms1 ns)) (fun i _ => r - (intOf i).toNat)
        case atStart => exact ⟨k + 1, ms1, by omega, by omega, by go_num, K3.out.1.mono (by rw [LB]; omega), K3.out.2.1, Hid.mk (fun i j _ _ => by rw [if_neg (by omega)])⟩
        case round =>
          rename World => wi
          obtain ⟨q, ns, hkq, hqr, rfl, hG, hgr, HI⟩ := hrel
          have hT := F.out.2.1.grown hgr hpg
          obtain ⟨q0, q1, q2⟩ := id hT
          have K4 := Hid.mk (And.intro hG (And.intro hgr hT))
          clear hG hgr hT
          by_cases hqrr : q < r
          · have hqi : (q : Int) < (r : Int) := by omega
            have HH : Hid (∀ j, j < c → Has (ns.getD (q * c + j) 0) (LB e) ∧ Has (ns.getD (k * c + j) 0) (LB e)) := Hid.mk (fun j hj => by
              rw [HI.out q j hqrr hj, if_neg (by omega), HI.out k j hkr hj, if_neg (by omega)]
              have h3 := H.out.2
              exact ⟨K3.out.1.has _ (by rw [h3]; exact idx_lt hqrr hj), K3.out.1.has _ (by rw [h3]; exact idx_lt hkr hj)⟩)
            go_wp2_with fail
            refine (clear_any p g r c RC q k e H.out.2 ns (LB e) (LB (e + 1)) _ K4.out.2.2 K4.out.1 (by rw [LB]; omega) HH.out hpg hr hc hqrr hkr (by omega) hec (by omega)).mono ?_
            rintro e9 w5 ⟨rfl, ⟨ns', hG5, hcl⟩, hgr5⟩
            have K5 := Hid.mk (And.intro hG5 (And.intro (grown_trans K4.out.2.1 hgr5) hcl))
            clear hG5 hgr5 hcl q0 q1 q2
            go_wp2_with fail
            go_roundw
            case measure => simp [intOf]; omega
            case rel => exact ⟨q + 1, ns', by omega, by omega, by go_num, K5.out.1, K5.out.2.1, Hid.mk (HI.out.step hkq hqrr hec K5.out.2.2)⟩
          · have hqi : ¬ (q : Int) < (r : Int) := by omega
            have hqe : q = r := by omega
            have HQE := Hid.mk hqe
            clear hqe
            go_wp2_with fail
            go_roundw
            case measure => simp [intOf]; omega
            case rel =>
              refine ⟨k + 1, e + 1, fun b => if b = k then e else pc b, ns, by omega, by omega, by go_num, by go_num, K4.out.1, K4.out.2.1, Hid.mk ?_⟩
              refine HS.out.pivot (G1 := gz c ms1) hi0 hi0r HZ.out hec (fun i j hi hj => ?_) (fun i j hi hj => ?_)
              · have := K3.out.2.2.2 i j hi hj
                rw [if_pos hj] at this
                exact this
              · have := HI.out i j hi hj
                have hqe := HQE.out
                by_cases hki : k < i
                · rw [if_pos ⟨hki, by omega⟩] at this
                  rw [if_pos hki]
                  exact this
                · rw [if_neg (fun h => hki h.1)] at this
                  rw [if_neg hki]
                  exact this
      · have HZ := Hid.mk hz
        clear hz
        go_wp2_with fail
        go_roundw
        case measure => simp [intOf]; omega
        case rel => exact ⟨k, e + 1, pc, ms, by omega, hk, rfl, by go_num, K2.out.1.mono (by rw [LB]; omega), K2.out.2.1, Hid.mk (HS.out.skip HZ.out)⟩
    · have hei : ¬ (e : Int) < (c : Int) := by omega
      have hee : e = c := by omega
      have HEE := Hid.mk hee
      clear hee
      go_wp2_with fail
      go_ret
      refine ⟨k, rfl, ?_, K.out.2.2.2.2⟩
      have := HS.out
      rw [HEE.out] at this
      exact this.done hr4 hc4
end Go.Proofs.YtjhcbenldfplcaaGreatDoor

/- grid.Matrix.Det: one row more. -/
namespace Go.Proofs.YtjhcbenldfplcaaGreatDoor
open Go.RowKit

theorem at_first (v : Value) (r c col : Nat) (zs : List Int) (L : Nat) (w : World) (hm : IsM w v r c zs L) (h1 : 0 < r) (h2 : col < c) :
    Calls Tryz.prog 105 #[v, .int .i64 0, .int .i64 col] w fun e w' => ∃ x, e = .returned x ∧ IntOut w w' x (zs.getD col 0) L := by
  have := at_in v r c 0 col zs L w hm h1 h2
  rw [Nat.zero_mul, Nat.zero_add] at this
  exact this
theorem Boxes.other {w : World} {b d r c p : Nat} {sl : Value} {nb : Bool} {s x y : Value} (h : Boxes w b d r c sl nb s) (h1 : p ≠ b) (h2 : p ≠ d) : Boxes ((w.setCell ⟨p, 0, none⟩ x).setCell ⟨p, 1, none⟩ y) b d r c sl nb s := by
  have o : ∀ i j : Nat, (⟨p, i, none⟩ : Addr) ≠ ⟨b, j, none⟩ := fun i j e => h1 (by injection e)
  have o2 : ∀ i j : Nat, (⟨p, i, none⟩ : Addr) ≠ ⟨d, j, none⟩ := fun i j e => h2 (by injection e)
  obtain ⟨a1, a2, a3, a4, a5, a6, a7⟩ := h
  refine ⟨?_, ?_, ?_, ?_, ?_, by simpa using a6, by simpa using a7⟩
  · rw [World.cell?_setCell_other _ _ _ _ (o _ _), World.cell?_setCell_other _ _ _ _ (o _ _)]; exact a1
  · rw [World.cell?_setCell_other _ _ _ _ (o _ _), World.cell?_setCell_other _ _ _ _ (o _ _)]; exact a2
  · rw [World.cell?_setCell_other _ _ _ _ (o _ _), World.cell?_setCell_other _ _ _ _ (o _ _)]; exact a3
  · rw [World.cell?_setCell_other _ _ _ _ (o2 _ _), World.cell?_setCell_other _ _ _ _ (o2 _ _)]; exact a4
  · rw [World.cell?_setCell_other _ _ _ _ (o2 _ _), World.cell?_setCell_other _ _ _ _ (o2 _ _)]; exact a5
/-- The product of an entry and what is left lies in a box of Det's own. -/
def PartOut (w4 : World) (z : Int) (L : Nat) (p : Value) (wx : World) : Prop := ∃ (pb : Nat) (nq : Bool) (qo : Option Addr) (mq qcap : Nat), p = .pointer (some ⟨pb, 0, none⟩) ∧ w4.heap.size ≤ pb ∧ Duo wx pb (.bool nq) (.slice qo mq qcap) ∧ IsI wx (.agg #[.bool nq, .slice qo mq qcap]) z L ∧ Below w4.heap.size w4 wx
theorem PartOut.made {w4 w6 : World} {z : Int} {L : Nat} {nq : Bool} {qo : Option Addr} {mq qcap : Nat} (hq : IsI w6 (.agg #[.bool nq, .slice qo mq qcap]) z L) (hb : Below w4.heap.size w4 w6) :
    PartOut w4 z L (.pointer (some ⟨w6.heap.size, 0, none⟩)) (w6.alloc (.cells #[.bool nq, .slice qo mq qcap] 121)) :=
  ⟨_, nq, qo, mq, qcap, rfl, hb.size, Duo.new _ _ _ rfl, hq.below ((Below.refl _ _).alloc (Nat.le_refl _) _), hb.alloc hb.size _⟩
theorem PartOut.stored {w4 w6 : World} {z : Int} {L b : Nat} {nq : Bool} {qo : Option Addr} {mq qcap : Nat} {x y : Value} (ht : Duo w6 b x y) (hle : w4.heap.size ≤ b) (hq : IsI w6 (.agg #[.bool nq, .slice qo mq qcap]) z L) (hb : Below w4.heap.size w4 w6) :
    PartOut w4 z L (.pointer (some ⟨b, 0, none⟩)) ((w6.setCell ⟨b, 0, none⟩ (.bool nq)).setCell ⟨b, 1, none⟩ (.slice qo mq qcap)) :=
  ⟨_, nq, qo, mq, qcap, rfl, hle, ht.put _ _, hq.keep (KU.setCell (KU.setCell (KU.refl _) ht.ty (by decide) _) (ht.ty.setCell _ _) (by decide) _), (hb.setCell hle _).setCell hle _⟩
theorem sum_next {n k : Nat} {f : Nat → Nat → Int} {S : Int} (h : S = sumF k fun c => signed c (f 0 c * detF n fun i j => f (i + 1) (skip c j))) :
    S + signed k (f 0 k * detF n fun i j => f (i + 1) (skip k j)) = sumF (k + 1) fun c => signed c (f 0 c * detF n fun i j => f (i + 1) (skip c j)) := by rw [sumF, h]

set_option maxRecDepth 100000 in
set_option maxHeartbeats 4000000 in
theorem det_succ (n : Nat) (ih : DetSaid n) : DetSaid (n + 1) := by
  intro v zs f L w hm hrep hl hL
  have HIH := Hid.mk ih
  have HREP := Hid.mk hrep
  have HLD := Hid.mk hl
  have HM := Hid.mk hm
  clear ih hrep hl
  obtain ⟨hr, _, sl, rfl, hg0⟩ := hm
  obtain ⟨ao, cap, rfl, -⟩ := hg0.shape
  clear hg0
  obtain ⟨R, hR⟩ : ∃ R, R = n + 1 := ⟨_, rfl⟩
  obtain ⟨N, hN⟩ : ∃ N, N = (n + 1) * (n + 1) := ⟨_, rfl⟩
  rw [← hN] at HM ⊢
  rw [← hR] at HM hr ⊢
  have HR := Hid.mk hR
  have hR0 : 0 < R := by omega
  have hne : ((R : Int) == 0) = false := beq_eq_false_iff_ne.2 (by omega)
  clear hR hN
  go_enter Tryz.func115, Tryz.ntmps115
  go_wp2_with (go_at_call 114; refine (isSquare_raw _ _ _ _ _ _).mono ?_; rintro e w' ⟨rfl, rfl⟩)
  obtain ⟨W1, hW1⟩ : ∃ W1, W1 = (((w.alloc (.cells #[.int .i64 R, .int .i64 R, .slice ao N cap] 54)).alloc (.cells #[.bool false, .slice none 0 0] 121)).alloc (.cells #[.int .i64 R, .int .i64 R, .slice ao N cap] 54)).alloc (.cells #[.bool false, .slice none 0 0] 121) := ⟨_, rfl⟩
  rw [← hW1]
  have hB1 : Below w.heap.size w W1 := by
    rw [hW1]
    repeat (first | exact Below.refl _ _ | refine Below.alloc ?_ (by simp <;> omega) _)
  have hx1 : Boxes W1 w.heap.size (w.heap.size + 1 + 1 + 1) R R (.slice ao N cap) false (.slice none 0 0) := by
    rw [hW1]
    refine ⟨?_, ?_, ?_, ?_, ?_, ?_, ?_⟩
    · exact cell3 (by simp) _ _ _
    · exact cell3 (by simp) _ _ _
    · exact cell3 (by simp) _ _ _
    · exact new_cell _ _ _ _ _ (by simp) rfl
    · exact new_cell _ _ _ _ _ (by simp) rfl
    · exact new_frozen _ _ _ _ _ (by simp)
    · exact new_frozen _ _ _ _ _ (by simp)
  have hty1 : Ty W1 (w.heap.size + 1 + 1 + 1) 121 := by rw [hW1]; exact Ty.at_ _ _ _ (by simp)
  have hres : W1.heap[w.heap.size + 1]? = some (.cells #[.bool false, .slice none 0 0] 121 (0, 0)) := by
    rw [hW1, Below.heap_alloc _ _ _ (by simp), Below.heap_alloc _ _ _ (by simp)]
    have := heap_alloc_new (w.alloc (.cells #[.int .i64 R, .int .i64 R, .slice ao N cap] 54)) (.cells #[.bool false, .slice none 0 0] 121)
    simpa using this
  have hS : W1.heap.size = w.heap.size + 4 := by rw [hW1]; simp
  obtain ⟨sb, hsb⟩ : ∃ sb, sb = w.heap.size + 1 + 1 + 1 := ⟨_, rfl⟩
  rw [← hsb] at hx1 hty1 ⊢
  have hsb1 : w.heap.size + 3 ≤ sb := by omega
  have hsb2 : sb ≤ w.heap.size + 3 := by omega
  have FR := Hid.mk hres
  have HS := Hid.mk hS
  clear hW1 hres hS hsb
  go_loopg [4] R (fun gk i wr => ∃ (k : Nat) (S : Int) (nb : Bool) (bo : Option Addr) (m ecap : Nat), k ≤ R ∧ i = .int .i64 k ∧ Ty wr sb 121 ∧ Boxes wr w.heap.size sb R R (.slice ao N cap) nb (.slice bo m ecap) ∧ IsI wr (.agg #[.bool nb, .slice bo m ecap]) S (L + LD L n + k) ∧ W1.grownBy wr (some sb) ∧ Below w.heap.size w wr ∧
      Hid (gk = R - k ∧ S = sumF k fun c => signed c (f 0 c * detF n fun i j => f (i + 1) (skip c j))))
  case atStart => exact ⟨0, 0, _, _, _, _, Nat.zero_le _, rfl, hty1, hx1, IsI.zero _ _, World.grownBy.refl _ _, hB1, Hid.mk ⟨by omega, rfl⟩⟩
  case round =>
    clear hx1 hB1 hty1
    obtain ⟨k, S, nb, bo, m, ecap, hk, rfl, hty, hx, hI, hgr, hB, HSUM⟩ := hrel
    obtain ⟨m0, m1, m2, s0, s1, z0, z1⟩ := id hx
    have HX := Hid.mk hx
    have HTY := Hid.mk hty
    clear hty
    have HI := Hid.mk hI
    have HG := Hid.mk hgr
    have HB := Hid.mk hB
    clear hx hI hgr hB
    by_cases hkR : k < R
    · go_wp2_with fail
      refine (minor_any _ R R k zs L _ ((HR.out ▸ HM.out : IsM w _ R R zs L).below HB.out) (by omega) hkR).mono ?_
      rintro e w2 ⟨x, rfl, ⟨ms, hms, hmo⟩, hb2⟩
      have HTY2 := Hid.mk (HTY.out.below hb2 HTY.out.lt)
      have hrep2 : Rep n ms fun i j => f (i + 1) (skip k j) := HREP.out.minor (HR.out ▸ hmo)
      have hms2 : IsM w2 x n n ms L := by have := HR.out; subst this; exact hms
      obtain ⟨g1, g2, sl2, rfl, hg2⟩ := id hms2
      obtain ⟨co, dcap, rfl, -⟩ := hg2.shape
      have hx2 := HX.out.below hb2
      have hI2 := HI.out.below hb2
      have hgr2 := grown_below HG.out hb2
      have hB2 : Below w.heap.size w w2 := HB.out.trans (hb2.mono HB.out.size)
      clear m0 m1 m2 s0 s1 z0 z1 HX HI HG HB hg2 hms hmo hb2
      have H2 := Hid.mk (And.intro hms2 (And.intro hrep2 (And.intro hx2 (And.intro hI2 (And.intro hgr2 hB2)))))
      clear hms2 hrep2 hx2 hI2 hgr2 hB2
      go_wp2_with fail
      refine (HIH.out _ ms (fun i j => f (i + 1) (skip k j)) L _ (H2.out.1.below ((Below.refl _ _).alloc (Nat.le_refl _) _)) H2.out.2.1 (by have := HLD.out; have := LD_mono L n; omega) hL).mono ?_
      rintro e w4 ⟨rest, rfl, hrest, hb4⟩
      obtain ⟨nr, eo, me, fcap, rfl⟩ := hrest.shape
      have h24 : Below w2.heap.size w2 w4 := ((Below.refl w2.heap.size w2).alloc (Nat.le_refl _) _).trans (hb4.mono (by simp))
      obtain ⟨-, -, hx2, hI2, hgr2, hB2⟩ := H2.out
      have HTS := Hid.mk (HTY2.out.below h24 HTY2.out.lt)
      have hx4 := hx2.below h24
      have hI4 := hI2.below h24
      have hgr4 := grown_below hgr2 h24
      have hB4 : Below w.heap.size w w4 := hB2.trans (h24.mono hB2.size)
      have hM4 : IsM w4 (.agg #[.int .i64 R, .int .i64 R, .slice ao N cap]) R R zs L := (HR.out ▸ HM.out : IsM w _ R R zs L).below hB4
      obtain ⟨m0, m1, m2, s0, s1, z0, z1⟩ := id hx4
      have m0' := cell1 m0
      have m1' := cell1 m1
      have m2' := cell1 m2
      have hlt := hx4.lt
      have H4 := Hid.mk (And.intro hx4 (And.intro hI4 (And.intro hgr4 (And.intro hB4 (And.intro hM4 hrest)))))
      clear H2 hx2 hI2 hgr2 hB2 hx4 hI4 hgr4 hB4 hM4 hrest hb4 h24 m0 m1 m2 s0 s1 z0 z1
      obtain ⟨hlt1, hlt2⟩ := hlt
      go_upto_region 11 with fail
      go_cut [7] from 17 to 40 (fun p wx => PartOut w4 (zs.getD k 0 * detF n fun i j => f (i + 1) (skip k j)) (L + LD L n) p wx)
      case first =>
        go_region_with (first
          | (go_at_call 105; go_must (refine (at_first _ R R k zs L _ (H4.out.2.2.2.2.1.below (by repeat (first | exact Below.refl _ _ | refine Below.drew ?_ | refine Below.alloc ?_ (by simp <;> omega) _))) hR0 hkR).mono ?_; rintro e w5 ⟨y, rfl, hy, hb5⟩; obtain ⟨ny, fo, mf, gcap, rfl⟩ := hy.shape; obtain ⟨hc5, hf5⟩ := bcell hb5; have hsz5 : w4.heap.size < w5.heap.size := (by have := hb5.size; simp at this; omega); try (have TW5 := Hid.mk (Duo.below (Duo.drew (Duo.new (w4.alloc _) (.bool false) (.slice none 0 0) (b := w4.heap.size + 1) (by simp))) hb5 (by simp)); obtain ⟨a1, a2, a3, a4⟩ := TW5.out.cells; have l5 : w4.heap.size + 1 < w5.heap.size := TW5.out.ty.lt)))
          | (go_at_call 135; go_must (refine (mul_any _ _ _ _ L (LD L n) _ (hy.below (by repeat (first | exact Below.refl _ _ | refine Below.alloc ?_ (by first | omega | (simp <;> omega)) _))) (H4.out.2.2.2.2.2.below (by repeat (first | exact Below.refl _ _ | refine Below.trans ?_ (hb5.mono (by first | omega | (simp <;> omega))) | refine Below.drew ?_ | refine Below.alloc ?_ (by first | omega | (simp <;> omega)) _))) (by omega) (by have := HLD.out; have := LD_mono L n; omega)).mono ?_; rintro e w6 ⟨q, rfl, hq, hb6⟩; have HB46 : Hid (Below w4.heap.size w4 w6) := Hid.mk (Below.trans (by repeat (first | exact Below.refl _ _ | refine Below.trans ?_ (hb5.mono (by first | omega | (simp <;> omega))) | refine Below.drew ?_ | refine Below.alloc ?_ (by first | omega | (simp <;> omega)) _)) (hb6.mono (by first | omega | (simp <;> omega)))); obtain ⟨nq, qo, mq, qcap, rfl⟩ := hq.shape; obtain ⟨hc6, hf6⟩ := bcell hb6; have hsz6 := hb6.size; try (have TW := Hid.mk (Duo.below (Duo.new w5 (.bool false) (.slice none 0 0) rfl) hb6 (by simp)); obtain ⟨t1, t2, t3, t4⟩ := TW.out.cells); try (have TW := Hid.mk (TW5.out.below hb6 (by have := TW5.out.ty.lt; omega)); obtain ⟨t1, t2, t3, t4⟩ := TW.out.cells))))
        all_goals
          go_wp2_with fail
          go_meet
          case rel =>
            first
              | exact PartOut.made hq HB46.out
              | exact PartOut.stored TW.out (Nat.le_of_lt hsz5) hq HB46.out
              | exact PartOut.stored TW.out (Nat.le_succ _) hq HB46.out
              | exact PartOut.stored (TW5.out.below hb6 l5) (Nat.le_succ _) hq HB46.out
      case rest =>
        obtain ⟨pb, nq, qo, mq, qcap, rfl, hpb, hTwo, hq, hbc⟩ := hcut
        obtain ⟨hx4, hI4, hgr4, hB4, -, -⟩ := H4.out
        have hxC := hx4.below hbc
        have hIC := hI4.below hbc
        have hgC := grown_below hgr4 hbc
        have hBC : Below w.heap.size w wc := hB4.trans (hbc.mono hB4.size)
        have hTC : Ty wc sb 121 := HTS.out.below hbc HTS.out.lt
        have hf0 : zs.getD k 0 = f 0 k := by have := HREP.out 0 k (by omega) (by have := HR.out; omega); simpa using this
        have hltp : pb < wc.heap.size := hTwo.ty.lt
        rw [hf0] at hq
        clear H4 hx4 hI4 hgr4 hB4 hbc m0' m1' m2' hf0
        by_cases hodd : k % 2 = 1
        · have hod : ((k : Int) % 2 == 1) = true := beq_iff_eq.2 (by omega)
          have HZZ0 : Hid (-(f 0 k * detF n fun i j => f (i + 1) (skip k j)) = signed k (f 0 k * detF n fun i j => f (i + 1) (skip k j))) := Hid.mk (by unfold signed; rw [if_pos hodd])
          clear hodd
          have HC := Hid.mk (And.intro hxC (And.intro hIC (And.intro hgC (And.intro hBC (And.intro hTC (And.intro hTwo hq))))))
          obtain ⟨t1, t2, t3, t4⟩ := hTwo.cells
          clear hxC hIC hgC hBC hTC hTwo hq
          go_wp2_with fail
          refine (neg_any _ _ _ _ HC.out.2.2.2.2.2.2).mono ?_
          rintro e w7 ⟨r, rfl, hr, hb7⟩
          obtain ⟨nz7, oz7, mz7, cz7, rfl⟩ := hr.shape
          obtain ⟨hxC, hIC, hgC, hBC, hTC, hTwo, -⟩ := HC.out
          have hT7 := hTwo.below hb7 hltp
          have hx7 := hxC.below hb7
          obtain ⟨t5, t6, t7, t8⟩ := hT7.cells
          have hku : KU w7 ((w7.setCell ⟨pb, 0, none⟩ (.bool nz7)).setCell ⟨pb, 1, none⟩ (.slice oz7 mz7 cz7)) := KU.setCell (KU.setCell (KU.refl _) hT7.ty (by decide) _) (hT7.ty.setCell _ _) (by decide) _
          have hPX : IsI ((w7.setCell ⟨pb, 0, none⟩ (.bool nz7)).setCell ⟨pb, 1, none⟩ (.slice oz7 mz7 cz7)) (.agg #[.bool nz7, .slice oz7 mz7 cz7]) (-(f 0 k * detF n fun i j => f (i + 1) (skip k j))) (L + LD L n) := hr.keep hku
          have hIX := (hIC.below hb7).keep hku
          have hxX : Boxes ((w7.setCell ⟨pb, 0, none⟩ (.bool nz7)).setCell ⟨pb, 1, none⟩ (.slice oz7 mz7 cz7)) w.heap.size sb R R (.slice ao N cap) nb (.slice bo m ecap) := hx7.other (by omega) (by omega)
          have hgX : W1.grownBy ((w7.setCell ⟨pb, 0, none⟩ (.bool nz7)).setCell ⟨pb, 1, none⟩ (.slice oz7 mz7 cz7)) (some sb) := grown_new (grown_below hgC hb7) (by have := HS.out; omega)
          have hBX : Below w.heap.size w ((w7.setCell ⟨pb, 0, none⟩ (.bool nz7)).setCell ⟨pb, 1, none⟩ (.slice oz7 mz7 cz7)) := ((hBC.trans (hb7.mono hBC.size)).setCell (by simp; omega) _).setCell (by simp; omega) _
          have hTX := ((hTC.below hb7 hTC.lt).setCell ⟨pb, 0, none⟩ (.bool nz7)).setCell ⟨pb, 1, none⟩ (.slice oz7 mz7 cz7)
          obtain ⟨q0, q1, q2, q3, q4, q5, q6⟩ := id hxX
          obtain ⟨y1, y2, y3, y4⟩ := (hT7.put (.bool nz7) (.slice oz7 mz7 cz7)).cells
          generalize hzz : -(f 0 k * detF n fun i j => f (i + 1) (skip k j)) = zz at hPX HZZ0
          have HZZ := HZZ0
          clear HZZ0 hzz hr hb7 hT7 hx7 hku hxC hIC hgC hBC hTC hTwo t1 t2 t3 t4
          have P := Hid.mk (And.intro hPX (And.intro hIX (And.intro hxX (And.intro hgX (And.intro hBX hTX)))))
          clear hPX hIX hxX hgX hBX hTX HC
          go_wp2_with fail
          obtain ⟨hPX, hIX, hxX, hgX, hBX, hTX⟩ := P.out
          refine (add_any _ _ S zz (L + LD L n + k) (L + LD L n) _ hIX hPX (by have := HLD.out; rw [LD] at this; omega) (by have := HLD.out; rw [LD] at this; omega)).mono ?_
          rintro e w9 ⟨r2, rfl, hr2, hb9⟩
          obtain ⟨nb2, bo2, m2, ec2, rfl⟩ := hr2.shape
          have hx9 := hxX.below hb9
          have hg9 := grown_below hgX hb9
          have hB9 : Below w.heap.size w w9 := hBX.trans (hb9.mono hBX.size)
          obtain ⟨-, -, -, s0, s1, z0, z1⟩ := id hx9
          have hty9 : Ty w9 sb 121 := hTX.below hb9 hTX.lt
          have H9 := Hid.mk (And.intro hx9 (And.intro hg9 (And.intro hB9 (And.intro hr2 hty9))))
          clear hx9 hg9 hB9 hr2 hty9 hb9 hxX hIX hPX hgX hBX hTX P t5 t6 t7 t8 q0 q1 q2 q3 q4 q5 q6 y1 y2 y3 y4
          go_wp2_with fail
          go_roundg (R - (k + 1))
          case measure => have := HSUM.out.1; omega
          case rel =>
            obtain ⟨hx9, hg9, hB9, hr2, hty9⟩ := H9.out
            refine ⟨k + 1, S + zz, nb2, bo2, m2, ec2, by omega, by go_num, (hty9.setCell _ _).setCell _ _, hx9.put (by omega), (hr2.mono (by omega)).keep (KU.setCell (KU.setCell (KU.refl _) hty9 (by decide) _) (hty9.setCell _ _) (by decide) _), grown_put2 hg9, (hB9.setCell (by simp; omega) _).setCell (by simp; omega) _, Hid.mk ⟨rfl, ?_⟩⟩
            rw [← sum_next HSUM.out.2, HZZ.out]
        · have hod : ((k : Int) % 2 == 1) = false := beq_eq_false_iff_ne.2 (by omega)
          have HZZ0 : Hid ((f 0 k * detF n fun i j => f (i + 1) (skip k j)) = signed k (f 0 k * detF n fun i j => f (i + 1) (skip k j))) := Hid.mk (by unfold signed; rw [if_neg hodd])
          clear hodd
          obtain ⟨q0, q1, q2, q3, q4, q5, q6⟩ := id hxC
          obtain ⟨y1, y2, y3, y4⟩ := hTwo.cells
          generalize hzz : (f 0 k * detF n fun i j => f (i + 1) (skip k j)) = zz at hq HZZ0
          have HZZ : Hid (zz = signed k (f 0 k * detF n fun i j => f (i + 1) (skip k j))) := Hid.mk (by rw [hzz]; exact HZZ0.out)
          have P := Hid.mk (And.intro hq (And.intro hIC (And.intro hxC (And.intro hgC (And.intro hBC hTC)))))
          clear HZZ0 hzz hq hIC hxC hgC hBC hTC hTwo
          go_wp2_with fail
          obtain ⟨hPX, hIX, hxX, hgX, hBX, hTX⟩ := P.out
          refine (add_any _ _ S zz (L + LD L n + k) (L + LD L n) _ hIX hPX (by have := HLD.out; rw [LD] at this; omega) (by have := HLD.out; rw [LD] at this; omega)).mono ?_
          rintro e w9 ⟨r2, rfl, hr2, hb9⟩
          obtain ⟨nb2, bo2, m2, ec2, rfl⟩ := hr2.shape
          have hx9 := hxX.below hb9
          have hg9 := grown_below hgX hb9
          have hB9 : Below w.heap.size w w9 := hBX.trans (hb9.mono hBX.size)
          obtain ⟨-, -, -, s0, s1, z0, z1⟩ := id hx9
          have hty9 : Ty w9 sb 121 := hTX.below hb9 hTX.lt
          have H9 := Hid.mk (And.intro hx9 (And.intro hg9 (And.intro hB9 (And.intro hr2 hty9))))
          clear hx9 hg9 hB9 hr2 hty9 hb9 hxX hIX hPX hgX hBX hTX P q0 q1 q2 q3 q4 q5 q6 y1 y2 y3 y4
          go_wp2_with fail
          go_roundg (R - (k + 1))
          case measure => have := HSUM.out.1; omega
          case rel =>
            obtain ⟨hx9, hg9, hB9, hr2, hty9⟩ := H9.out
            refine ⟨k + 1, S + zz, nb2, bo2, m2, ec2, by omega, by go_num, (hty9.setCell _ _).setCell _ _, hx9.put (by omega), (hr2.mono (by omega)).keep (KU.setCell (KU.setCell (KU.refl _) hty9 (by decide) _) (hty9.setCell _ _) (by decide) _), grown_put2 hg9, (hB9.setCell (by simp; omega) _).setCell (by simp; omega) _, Hid.mk ⟨rfl, ?_⟩⟩
            rw [← sum_next HSUM.out.2, HZZ.out]
    · have hres : wr.heap[w.heap.size + 1]? = some (.cells #[.bool false, .slice none 0 0] 121 (0, 0)) := by
        rw [HG.out.block _ (by have := HS.out; omega) (by simp; omega)]; exact FR.out
      have hTr : Duo wr (w.heap.size + 1) (.bool false) (.slice none 0 0) := hres
      obtain ⟨r0, r1, r2, r3⟩ := hTr.cells
      have HTR := Hid.mk hTr
      clear hres hTr
      go_wp2_with fail
      refine bodyPost_ret (v := .agg #[.bool nb, .slice bo m ecap]) ?_ rfl ?_
      · (simp [results, Tryz.results115, go_sem, r0, r1]; done)
      · have hkk : k = n + 1 := by have := HR.out; omega
        refine ⟨_, rfl, ?_, (HB.out.setCell (by simp) _).setCell (by simp) _⟩
        have h1 : S = detF R f := by rw [HSUM.out.2, hkk, HR.out, detF]
        rw [← h1]
        refine (HI.out.mono ?_).keep (KU.setCell (KU.setCell (KU.refl _) HTR.out.ty (by decide) _) (HTR.out.ty.setCell _ _) (by decide) _)
        rw [HR.out, LD, hkk]
        exact Nat.le_refl _
theorem det_any (n : Nat) : DetSaid n := by
  induction n with
  | zero => exact det_zero
  | succ n ih => exact det_succ n ih
end Go.Proofs.YtjhcbenldfplcaaGreatDoor
