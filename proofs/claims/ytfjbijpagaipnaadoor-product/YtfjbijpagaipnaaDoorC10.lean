import Derived.Test.YtfjbijpagaipnaaDoorC09
namespace Go.Proofs.YtfjbijpagaipnaaDoor
open Go.RowKit
def icells (c : Nat) (f : Nat → Int) : List Value := (List.range c).map fun j => Value.int .i64 (f j)
def rowV (c g : Nat) : Value := .slice (some ⟨g, 0, none⟩) c c
def IRow (w : World) (g c : Nat) (f : Nat → Int) : Prop := w.heap[g]? = some (.cells (icells c f).toArray 3 (0, 0))
theorem IRow.lt {w : World} {g c : Nat} {f : Nat → Int} (h : IRow w g c f) : g < w.heap.size := (Array.getElem?_eq_some_iff.1 h).1
theorem IRow.ty {w : World} {g c : Nat} {f : Nat → Int} (h : IRow w g c f) : Ty w g 3 := ⟨_, _, h⟩
theorem IRow.cell {w : World} {g c : Nat} {f : Nat → Int} (h : IRow w g c f) (j : Nat) (hj : j < c) : w.cell? ⟨g, j, none⟩ = some (.int .i64 (f j)) := by
  unfold IRow at h
  simp [World.cell?, h, icells, hj]
theorem IRow.frozen {w : World} {g c : Nat} {f : Nat → Int} (h : IRow w g c f) (j : Nat) : w.frozen? ⟨g, j, none⟩ = false := by
  unfold IRow at h
  simp [World.frozen?, h]
def upd (f : Nat → Int) (j : Nat) (z : Int) : Nat → Int := fun k => if k = j then z else f k
theorem icells_set (c : Nat) (f : Nat → Int) (j : Nat) (z : Int) : (icells c f).set j (.int .i64 z) = icells c (upd f j z) := by
  apply List.ext_getElem?
  intro k
  simp only [icells, List.getElem?_set, List.length_map, List.length_range, List.getElem?_map, upd]
  by_cases hk : j = k
  · subst hk
    by_cases hc : j < c
    · simp [hc]
    · simp [hc]
  · have hk' : ¬ k = j := fun e => hk e.symm
    by_cases hc : k < c
    · simp [hk, hk', hc]
    · simp [hk, hc]
theorem IRow.stored {w : World} {g c : Nat} {f : Nat → Int} (h : IRow w g c f) (j : Nat) (z : Int) : IRow (w.setCell ⟨g, j, none⟩ (.int .i64 z)) g c (upd f j z) := by
  unfold IRow at *
  rw [heap_setCell_same _ _ _ _ _ _ h, ← icells_set]
  simp
theorem IRow.other {w : World} {g c : Nat} {f : Nat → Int} (h : IRow w g c f) {b j : Nat} (hb : b ≠ g) (u : Value) : IRow (w.setCell ⟨b, j, none⟩ u) g c f := by
  unfold IRow
  rw [Below.heap_setCell _ _ _ _ (Ne.symm hb)]; exact h
theorem IRow.congr {w : World} {g c : Nat} {f f' : Nat → Int} (h : IRow w g c f) (he : ∀ j, j < c → f j = f' j) : IRow w g c f' := by
  unfold IRow at *
  rw [h]
  have : icells c f = icells c f' := by
    unfold icells
    apply List.map_congr_left
    intro j hj
    rw [he j (List.mem_range.1 hj)]
  rw [this]
theorem Tryd.info3' : (Tryd.prog.info? 3).map (fun i => (i.zero, i.size, i.bytes)) = some (some (.int .i64 0), 1, 8) := by kernel_rfl
theorem Tryd.info37' : (Tryd.prog.info? 37).map (fun i => (i.zero, i.size, i.bytes)) = some (some (.slice none 0 0), 1, 24) := by kernel_rfl
theorem make_row (w : World) {ops : Array Oper} {rest : List Oper} {o : Oper} {a : Act} {Q : Exit → Act → World → Prop}
    (hg : o.guard = none) (l c : Operand) (hop : o.op = Op.makeSlice 37 l c) (L C : Int) (n : Nat) (hl : a.eval l = .int .i64 L) (hc : a.eval c = .int .i64 C) (hL : L = (n : Int)) (hC : C = (n : Int)) (b : n ≤ 1000000000)
    (hK : ∀ w', IRow w' w.heap.size n (fun _ => 0) → Below w.heap.size w w' → w.heap.size < w'.heap.size → wpList Tryd.prog ops Q rest (a.put o.dst (.slice (some ⟨w.heap.size, 0, none⟩) n n)) w') :
    wpList Tryd.prog ops Q (o :: rest) a w := by
  obtain ⟨i, hi, hz0, hz1, hz2⟩ := info_parts Tryd.info3'
  refine wpList_make_full w hg l c 37 hop 0 3 i (.int .i64 0) 1 Tryd.underlying37 hi hz0 hz1 .i64 .i64 L C n hl hc hL hC (by rw [hz2]; omega) (by unfold maxLen; omega) (Nat.zero_le _) ?_
  intro w' hown hgrow
  rw [show (Value.int IntKind.i64 0).cells = #[.int .i64 0] from rfl, toList_madeCells_one, Nat.mul_one] at hown
  refine hK w' ?_ ((Below.refl _ _).grown hgrow (Nat.le_refl _) (by simp)) (World.ownsRow.lt hown _ rfl).2
  rcases hown.2 with ⟨h1, _⟩ | ⟨g, cap, cur, h1, h2, h3, h4, h5, h6, h7⟩
  · simp at h1
  · simp only [Value.slice.injEq, Option.some.injEq, Addr.mk.injEq, and_true, true_and] at h1
    obtain ⟨rfl, rfl⟩ := h1
    unfold IRow
    rw [h3]
    have h8 : cur.toList = icells n (fun _ => 0) := by
      rw [List.take_of_length_le (by simp [h6])] at h7
      rw [h7]
      simp [icells, List.map_const']
    rw [← h8]
def rcells (n c : Nat) (gs : Nat → Nat) : List Value := (List.range n).map fun i => rowV c (gs i)
def Mat (B : Nat) (w : World) (v : Value) (n c : Nat) (gs : Nat → Nat) (e : Nat → Nat → Int) : Prop := w.ownsRow B 37 1 v n (rcells n c gs) ∧ ∀ i, i < n → IRow w (gs i) c (e i)
def KB (B : Nat) (w w' : World) : Prop := ∀ (i : Nat) (arr : Array Value) (t : TypeId), i < B → (t = 3 ∨ t = 37) → w.heap[i]? = some (.cells arr t (0, 0)) → w'.heap[i]? = some (.cells arr t (0, 0))
theorem KB.refl (B : Nat) (w : World) : KB B w w := fun _ _ _ _ _ h => h
theorem KB.trans {B : Nat} {a b c : World} (h : KB B a b) (k : KB B b c) : KB B a c := fun i arr t hi ht h0 => k i arr t hi ht (h i arr t hi ht h0)
theorem KB.mono {B B' : Nat} {a b : World} (h : KB B a b) (hB : B' ≤ B) : KB B' a b := fun i arr t hi ht h0 => h i arr t (by omega) ht h0
theorem KB.of_below {B : Nat} {w w' : World} (h : Below B w w') : KB B w w' := fun i arr t hi _ h0 => by rw [h.block i hi]; exact h0
theorem KB.of_grown {B : Nat} {w w' : World} {p : Nat} {t : TypeId} (h : w.grownBy w' (some p)) (ht : Ty w p t) (h1 : t ≠ 3) (h2 : t ≠ 37) : KB B w w' := by
  intro i arr u _ hu h0
  rw [h.block i (Array.getElem?_eq_some_iff.1 h0).1 ?_]
  · exact h0
  · intro e
    injection e with e
    subst e
    obtain ⟨c, fr, h3⟩ := ht
    rw [h0] at h3
    simp only [Option.some.injEq, Obj.cells.injEq] at h3
    rcases hu with rfl | rfl
    · exact h1 h3.2.1.symm
    · exact h2 h3.2.1.symm
theorem KB.store {B : Nat} {w : World} {b j : Nat} (hb : B ≤ b) (u : Value) : KB B w (w.setCell ⟨b, j, none⟩ u) := by
  intro i arr t hi _ h0
  rw [Below.heap_setCell _ _ _ _ (show i ≠ b from by omega)]; exact h0
theorem IRow.keep {B : Nat} {w w' : World} {g c : Nat} {f : Nat → Int} (h : IRow w g c f) (hk : KB B w w') (hg : g < B) : IRow w' g c f := hk g _ _ hg (.inl rfl) h
theorem Mat.keep {B : Nat} {w w' : World} {v : Value} {n c : Nat} {gs : Nat → Nat} {e : Nat → Nat → Int} (h : Mat B w v n c gs e) (hk : KB w.heap.size w w') : Mat B w' v n c gs e := by
  refine ⟨⟨h.1.1, ?_⟩, fun i hi => (h.2 i hi).keep hk (h.2 i hi).lt⟩
  rcases h.1.2 with h2 | ⟨g, cap, cur, hv, hg, hh, r⟩
  · exact .inl h2
  · exact .inr ⟨g, cap, cur, hv, hg, hk g cur _ (Array.getElem?_eq_some_iff.1 hh).1 (.inr rfl) hh, r⟩
theorem Mat.nil (B : Nat) (w : World) (c : Nat) (gs : Nat → Nat) (e : Nat → Nat → Int) : Mat B w (.slice none 0 0) 0 c gs e := ⟨World.ownsRow_nil _ _ _ _, fun i hi => by omega⟩
theorem Mat.shape {B : Nat} {w : World} {v : Value} {n c : Nat} {gs : Nat → Nat} {e : Nat → Nat → Int} (h : Mat B w v n c gs e) :
    (v = .slice none 0 0 ∧ n = 0) ∨ ∃ g cap, v = .slice (some ⟨g, 0, none⟩) n cap ∧ n ≤ cap ∧ cap ≤ 9223372036854775807 ∧ B ≤ g ∧ g < w.heap.size ∧ Ty w g 37 ∧ ∀ i, i < n → w.cell? ⟨g, i, none⟩ = some (.slice (some ⟨gs i, 0, none⟩) c c) ∧ w.frozen? ⟨g, i, none⟩ = false := by
  rcases h.1.2 with h2 | ⟨g, cap, cur, rfl, hg, hh, h1, h3, h4, h5⟩
  · exact .inl h2
  · refine .inr ⟨g, cap, rfl, h1, by simpa [maxLen] using h3, hg, (Array.getElem?_eq_some_iff.1 hh).1, ⟨_, _, hh⟩, fun i hi => ⟨?_, ?_⟩⟩
    · rw [World.ownsRow.cellAt h.1 i (by omega)]
      simp [rcells, hi, rowV]
    · exact World.ownsRow.frozenAt h.1 i
theorem Mat.cell {B : Nat} {w : World} {n c cap g : Nat} {gs : Nat → Nat} {e : Nat → Nat → Int} (h : Mat B w (.slice (some ⟨g, 0, none⟩) n cap) n c gs e) (i : Nat) (hi : i < n) :
    w.cell? ⟨g, i, none⟩ = some (.slice (some ⟨gs i, 0, none⟩) c c) := by
  rw [World.ownsRow.cellAt h.1 i (by omega)]
  simp [rcells, hi, rowV]
theorem rcells_snoc (n c : Nat) (gs : Nat → Nat) (g : Nat) : rcells n c gs ++ [rowV c g] = rcells (n + 1) c (fun i => if i = n then g else gs i) := by
  unfold rcells
  rw [List.range_succ, List.map_append, List.map_singleton]
  simp only [if_true]
  congr 1
  apply List.map_congr_left
  intro i hi
  have := List.mem_range.1 hi
  rw [if_neg (by omega)]
theorem append_row (w : World) {ops : Array Oper} {rest : List Oper} {o : Oper} {a : Act} {Q : Exit → Act → World → Prop} (hgd : o.guard = none) (s x : Operand)
    (ho : o.op = .call { callee := .builtin .append, args := #[s, x], argTypes := #[51, 51] }) (B : Nat) (v : Value) (n c : Nat) (gs : Nat → Nat) (e : Nat → Nat → Int) (hs : a.eval s = v) (hm : Mat B w v n c gs e)
    (ad : Addr) (hx : a.eval x = .slice (some ad) 1 1) (g : Nat) (f : Nat → Int) (h0 : w.cell? (ad.add 0) = some (.slice (some ⟨g, 0, none⟩) c c)) (hr : IRow w g c f) (hn : n ≤ 10000) (hB : B ≤ w.heap.size)
    (hK : ∀ v' w', Mat B w' v' (n + 1) c (fun i => if i = n then g else gs i) (fun i => if i = n then f else e i) → KB B w w' → w.grownBy w' v.ownBlock → (∀ k, v.ownBlock = some k → B ≤ k) → wpList Tryd.prog ops Q rest (a.put o.dst v') w') : wpList Tryd.prog ops Q (o :: rest) a w := by
  obtain ⟨i, hi, hz0, hz1, hz2⟩ := info_parts Tryd.info37'
  have hlt := World.ownsRow.lt hm.1
  have hty : ∀ k, v.ownBlock = some k → Ty w k 37 := by
    intro k hk
    rcases hm.1.2 with ⟨rfl, _⟩ | ⟨g, cap, cur, rfl, hg, hh, r⟩
    · simp [Value.ownBlock] at hk
    · simp [Value.ownBlock] at hk
      subst hk
      exact ⟨_, _, hh⟩
  refine wpList_append_own w hgd s x 51 ho B 37 i (.slice none 0 0) 1 24 Tryd.underlying51 hi hz0 hz1 hz2 rfl (by decide) v n (rcells n c gs) hs hm.1 ad 1 1 [rowV c g] hx rfl ?_ ?_ ?_ ?_ hB ?_
  · intro j u hj
    match j, hj with
    | 0, hj => simp at hj; subst hj; exact h0
  · intro u hu; simp at hu; subst hu; rfl
  · unfold maxLen; omega
  · omega
  · intro v' w' k1 k2 _
    have key : ∀ (b : Nat) (f' : Nat → Int), IRow w b c f' → IRow w' b c f' := by
      intro b f' hb
      unfold IRow
      rw [k2.block b hb.lt ?_]
      · exact hb
      · intro e
        obtain ⟨cc, fr, h3⟩ := hty b e.symm
        unfold IRow at hb
        rw [hb] at h3
        simp at h3
    refine hK v' w' ⟨by rw [← rcells_snoc]; exact k1, fun j hj => ?_⟩ ?_ k2 (fun k hk => (hlt k hk).1)
    · by_cases hjn : j = n
      · simp only [hjn, if_true]; exact key _ _ hr
      · simp only [hjn, if_false]; exact key _ _ (hm.2 j (by omega))
    · intro b arr t hb _ h1
      rw [k2.block b (Array.getElem?_eq_some_iff.1 h1).1 ?_]
      · exact h1
      · intro e; have := (hlt b e.symm).1; omega
end Go.Proofs.YtfjbijpagaipnaaDoor
namespace Go.Proofs.YtfjbijpagaipnaaDoor
open Go.RowKit
def Di (w : World) (d : Nat) : Prop := ∃ x : Nat, x < 2147483648 ∧ w.heap[d]? = some (.cells #[.int .i64 (x : Nat)] 48 (0, 0))
theorem Di.lt {w : World} {d : Nat} (h : Di w d) : d < w.heap.size := by obtain ⟨x, _, h⟩ := h; exact (Array.getElem?_eq_some_iff.1 h).1
theorem Di.ty {w : World} {d : Nat} (h : Di w d) : Ty w d 48 := by obtain ⟨x, _, h⟩ := h; exact ⟨_, _, h⟩
theorem Di.below {w w' : World} {d : Nat} {B : Nat} (h : Di w d) (hb : Below B w w') (hB : d < B) : Di w' d := by obtain ⟨x, h0, h⟩ := h; exact ⟨x, h0, by rw [hb.block d hB]; exact h⟩
theorem pick_any (c n : Int) (w : World) (hc1 : -9223372036854775808 ≤ c) (hc2 : c ≤ 9223372036854775807) (hn : 0 < n) (hn2 : n ≤ 4294967296) :
    Calls Tryd.prog 11 #[.int .i64 c, .int .i64 n] w fun e w' => (∃ v : Nat, e = .returned (.int .i64 (v : Nat)) ∧ (v : Int) < n) ∧ w' = w := by
  by_cases h0 : c < 0
  · have hn0 : n ≠ 0 := by omega
    go_enter Tryd.func11, Tryd.ntmps11
    go_wp2_with fail
    go_ret
    refine ⟨⟨((-(c + 1)) % n).toNat, ?_, ?_⟩, rfl⟩
    · refine ret_int ?_
      have h1 := Int.emod_nonneg (-(c + 1)) hn0
      have h2 : (-(c + 1)).tmod n = (-(c + 1)) % n := Int.tmod_eq_emod_of_nonneg (by omega)
      rw [Int.neg_tmod] at h2
      omega
    · have := Int.emod_lt_of_pos (-(c + 1)) hn; have := Int.emod_nonneg (-(c + 1)) hn0; omega
  · have hn0 : n ≠ 0 := by omega
    go_enter Tryd.func11, Tryd.ntmps11
    go_wp2_with fail
    go_ret
    refine ⟨⟨(c % n).toNat, ?_, ?_⟩, rfl⟩
    · exact ret_int (by have := Int.emod_nonneg c hn0; omega)
    · have := Int.emod_lt_of_pos c hn; have := Int.emod_nonneg c hn0; omega
set_option maxHeartbeats 1000000 in
theorem under_any (d n : Nat) (w : World) (h : Di w d) (hn : 0 < n) (hn2 : n ≤ 1000) :
    Calls Tryd.prog 20 #[.pointer (some ⟨d, 0, none⟩), .int .i64 n] w fun e w' => (∃ v : Nat, e = .returned (.int .i64 (v : Nat)) ∧ v < n) ∧ Di w' d ∧ w.grownBy w' (some d) := by
  obtain ⟨x, hx, hh⟩ := h
  have c0 : w.cell? ⟨d, 0, none⟩ = some (.int .i64 (x : Nat)) := by simp [World.cell?, hh]
  have f0 : w.frozen? ⟨d, 0, none⟩ = false := by simp [World.frozen?, hh]
  have hxi : (x : Int) < 2147483648 := by omega
  have HH := Hid.mk hh
  clear hh
  go_enter Tryd.func20, Tryd.ntmps20
  go_wp2_with fail
  go_ret
  have hy : ∃ y : Nat, y < 2147483648 ∧ ((x : Int) * 1103515245 + 12345) % 2147483648 = (y : Nat) := ⟨((x : Int) * 1103515245 + 12345).toNat % 2147483648, by omega, by omega⟩
  obtain ⟨y, hy1, hy2⟩ := hy
  rw [hy2]
  refine ⟨⟨y / 256 % n, ret_int (by simp), Nat.mod_lt _ hn⟩, ⟨y, hy1, ?_⟩, rfl, rfl, rfl, by simp [World.setCell], fun k _ hne => ?_⟩
  · rw [heap_setCell_same _ _ _ _ _ _ HH.out]; simp
  · exact Below.heap_setCell _ _ _ _ (fun e => hne (by simp [e]))
set_option maxRecDepth 100000 in
theorem zero_store : Tryd.zeroCells85.size = 121 ∧ Tryd.zeroCells85[120]? = some (.int .i64 0) ∧ ∀ i, i < 24 → Tryd.zeroCells85[i * 5]? = some (.bool false) := by
  refine ⟨rfl, rfl, fun i hi => ?_⟩
  obtain rfl | rfl | rfl | rfl | rfl | rfl | rfl | rfl | rfl | rfl | rfl | rfl | rfl | rfl | rfl | rfl | rfl | rfl | rfl | rfl | rfl | rfl | rfl | rfl : i = 0 ∨ i = 1 ∨ i = 2 ∨ i = 3 ∨ i = 4 ∨ i = 5 ∨ i = 6 ∨ i = 7 ∨ i = 8 ∨ i = 9 ∨ i = 10 ∨ i = 11 ∨ i = 12 ∨ i = 13 ∨ i = 14 ∨ i = 15 ∨ i = 16 ∨ i = 17 ∨ i = 18 ∨ i = 19 ∨ i = 20 ∨ i = 21 ∨ i = 22 ∨ i = 23 := by omega
  all_goals rfl
theorem new_any (w : World) : Calls Tryd.prog 29 #[] w fun e w' => ∃ b, e = .returned (.pointer (some ⟨b, 0, none⟩)) ∧ St w' b [] ∧ Below w.heap.size w w' ∧ w.heap.size ≤ b := by
  go_enter Tryd.func29, Tryd.ntmps29
  go_wp2_with fail
  go_ret
  refine ⟨w.heap.size, rfl, ⟨by simp, _, heap_alloc_new w _, zero_store.1, zero_store.2.1, fun i hi => by simp at hi, fun i _ hi => zero_store.2.2 i hi⟩, (Below.refl _ _).alloc (Nat.le_refl _) _, Nat.le_refl _⟩
def Dk (w : World) (d b : Nat) : Prop := w.heap[d]? = some (.cells #[.pointer (some ⟨b, 0, none⟩)] 34 (0, 0))
theorem Dk.lt {w : World} {d b : Nat} (h : Dk w d b) : d < w.heap.size := (Array.getElem?_eq_some_iff.1 h).1
theorem Dk.cell {w : World} {d b : Nat} (h : Dk w d b) : w.cell? ⟨d, 0, none⟩ = some (.pointer (some ⟨b, 0, none⟩)) := by unfold Dk at h; simp [World.cell?, h]
theorem Dk.below {B : Nat} {w w' : World} {d b : Nat} (h : Dk w d b) (hb : Below B w w') (hB : d < B) : Dk w' d b := by unfold Dk; rw [hb.block d hB]; exact h
theorem Dk.grown {w w' : World} {d b p : Nat} (h : Dk w d b) (hg : w.grownBy w' (some p)) (hp : p ≠ d) : Dk w' d b := by unfold Dk; rw [hg.block d h.lt (fun e => hp (by injection e with e; exact e.symm))]; exact h
theorem desk_any (w : World) : Calls Tryd.prog 9 #[] w fun e w' => ∃ d b, e = .returned (.pointer (some ⟨d, 0, none⟩)) ∧ Dk w' d b ∧ St w' b [] ∧ b ≠ d ∧ w.heap.size ≤ b ∧ w.heap.size ≤ d ∧ Below w.heap.size w w' := by
  go_enter Tryd.func9, Tryd.ntmps9
  go_wp2_with fail
  refine (new_any _).mono ?_
  rintro e w1 ⟨b, rfl, hs, hb, hbl⟩
  have hbl2 := hs.lt
  have H := Hid.mk (And.intro hs hb)
  clear hs hb
  go_wp2_with fail
  go_ret
  exact ⟨w1.heap.size, b, rfl, heap_alloc_new w1 _, H.out.1.below ((Below.refl _ _).alloc (Nat.le_refl _) _), by omega, hbl, H.out.2.size, H.out.2.trans (((Below.refl _ _).alloc (Nat.le_refl _) _).mono H.out.2.size)⟩
theorem start_any (a : Int) (w : World) (h1 : -9223372036854775808 ≤ a) (h2 : a ≤ 9223372036854775807) : Calls Tryd.prog 6 #[.int .i64 a] w fun e w' => ∃ d, e = .returned (.pointer (some ⟨d, 0, none⟩)) ∧ Di w' d ∧ w.heap.size ≤ d ∧ Below w.heap.size w w' := by
  go_enter Tryd.func6, Tryd.ntmps6
  go_wp2_with fail
  refine (pick_any a 2147483648 _ h1 h2 (by omega) (by omega)).mono ?_
  rintro e w' ⟨⟨v, rfl, hv⟩, rfl⟩
  go_wp2_with fail
  refine (under_any w'.heap.size 2 _ ⟨v, by omega, heap_alloc_new w' _⟩ (by omega) (by omega)).mono ?_
  rintro e w2 ⟨⟨u, rfl, hu⟩, hd, hg⟩
  have H := Hid.mk (And.intro hd hg)
  clear hd hg
  go_wp2_with fail
  go_ret
  refine ⟨w'.heap.size, rfl, H.out.1, Nat.le_refl _, ?_⟩
  have hg := H.out.2
  refine ⟨hg.os, hg.tape, hg.output, by have := hg.size; simp at this; omega, fun k hk => ?_⟩
  rw [hg.block k (by simp; omega) (by intro e; injection e with e; omega)]
  exact (((Below.refl w'.heap.size w').alloc (Nat.le_refl _) _).block k hk)
end Go.Proofs.YtfjbijpagaipnaaDoor
namespace Go.Proofs.YtfjbijpagaipnaaDoor
open Go.RowKit
theorem detF0 (e : Nat → Nat → Int) : detF 0 e = 1 := rfl
theorem detF1 (e : Nat → Nat → Int) : detF 1 e = e 0 0 := by simp [detF, sumF, signed]
theorem detF2 (e : Nat → Nat → Int) : detF 2 e = e 0 0 * e 1 1 - e 0 1 * e 1 0 := by simp [detF, sumF, signed, skip]; omega
theorem detF3 (e : Nat → Nat → Int) : detF 3 e = e 0 0 * (e 1 1 * e 2 2 - e 1 2 * e 2 1) - e 0 1 * (e 1 0 * e 2 2 - e 1 2 * e 2 0) + e 0 2 * (e 1 0 * e 2 1 - e 1 1 * e 2 0) := by
  simp [detF, sumF, signed, skip]
  grind
def Tiny (n : Nat) (e : Nat → Nat → Int) : Prop := ∀ i j, i < n → j < n → -36 ≤ e i j ∧ e i j ≤ 36
theorem mul_box {a b : Int} {A B : Nat} (h1 : -(A : Int) ≤ a) (h2 : a ≤ A) (h3 : -(B : Int) ≤ b) (h4 : b ≤ B) : -((A * B : Nat) : Int) ≤ a * b ∧ a * b ≤ ((A * B : Nat) : Int) := by
  have h5 : (a * b).natAbs ≤ A * B := by
    rw [Int.natAbs_mul]
    exact Nat.mul_le_mul (by omega) (by omega)
  omega
set_option maxRecDepth 100000 in
set_option maxHeartbeats 2000000 in
theorem kdet_zero (w : World) : Calls Tryd.prog 24 #[.slice none 0 0] w fun x w' => x = .returned (.int .i64 1) ∧ Below w.heap.size w w' := by
  go_enter Tryd.func24, Tryd.ntmps24
  go_wp2_with fail
  go_ret
  exact ⟨rfl, Below.refl _ _⟩
set_option maxRecDepth 100000 in
set_option maxHeartbeats 2000000 in
theorem kdet_one (g cap g0 : Nat) (a00 : Int) (w : World) (c0 : w.cell? ⟨g, 0, none⟩ = some (.slice (some ⟨g0, 0, none⟩) 1 1)) (c00 : w.cell? ⟨g0, 0, none⟩ = some (.int .i64 a00)) :
    Calls Tryd.prog 24 #[.slice (some ⟨g, 0, none⟩) 1 cap] w fun x w' => x = .returned (.int .i64 a00) ∧ Below w.heap.size w w' := by
  go_enter Tryd.func24, Tryd.ntmps24
  go_wp2_with fail
  go_ret
  exact ⟨rfl, Below.refl _ _⟩
set_option maxRecDepth 100000 in
set_option maxHeartbeats 2000000 in
theorem kdet_two (g cap g0 g1 : Nat) (a00 a01 a10 a11 : Int) (w : World) (c0 : w.cell? ⟨g, 0, none⟩ = some (.slice (some ⟨g0, 0, none⟩) 2 2)) (c1 : w.cell? ⟨g, 1, none⟩ = some (.slice (some ⟨g1, 0, none⟩) 2 2)) (c00 : w.cell? ⟨g0, 0, none⟩ = some (.int .i64 a00)) (c01 : w.cell? ⟨g0, 1, none⟩ = some (.int .i64 a01)) (c10 : w.cell? ⟨g1, 0, none⟩ = some (.int .i64 a10)) (c11 : w.cell? ⟨g1, 1, none⟩ = some (.int .i64 a11))
    (b1 : -1296 ≤ a00 * a11 ∧ a00 * a11 ≤ 1296) (b2 : -1296 ≤ a01 * a10 ∧ a01 * a10 ≤ 1296) :
    Calls Tryd.prog 24 #[.slice (some ⟨g, 0, none⟩) 2 cap] w fun x w' => x = .returned (.int .i64 (a00 * a11 - a01 * a10)) ∧ Below w.heap.size w w' := by
  obtain ⟨b1, b1'⟩ := b1
  obtain ⟨b2, b2'⟩ := b2
  go_enter Tryd.func24, Tryd.ntmps24
  go_wp2_with fail
  go_quiet (fail)
  go_wp2_with fail
  go_ret
  exact ⟨rfl, below_drewN (Below.refl _ _) _⟩
set_option maxRecDepth 100000 in
set_option maxHeartbeats 2000000 in
theorem kdet_nought (g cap : Nat) (w : World) : Calls Tryd.prog 24 #[.slice (some ⟨g, 0, none⟩) 0 cap] w fun x w' => x = .returned (.int .i64 1) ∧ Below w.heap.size w w' := by
  go_enter Tryd.func24, Tryd.ntmps24
  go_wp2_with fail
  go_ret
  exact ⟨rfl, Below.refl _ _⟩
set_option maxRecDepth 100000 in
set_option maxHeartbeats 4000000 in
theorem kdet_three (g cap g0 g1 g2 : Nat) (a00 a01 a02 a10 a11 a12 a20 a21 a22 : Int) (w : World) (c0 : w.cell? ⟨g, 0, none⟩ = some (.slice (some ⟨g0, 0, none⟩) 3 3)) (c1 : w.cell? ⟨g, 1, none⟩ = some (.slice (some ⟨g1, 0, none⟩) 3 3)) (c2 : w.cell? ⟨g, 2, none⟩ = some (.slice (some ⟨g2, 0, none⟩) 3 3)) (c00 : w.cell? ⟨g0, 0, none⟩ = some (.int .i64 a00)) (c01 : w.cell? ⟨g0, 1, none⟩ = some (.int .i64 a01)) (c02 : w.cell? ⟨g0, 2, none⟩ = some (.int .i64 a02)) (c10 : w.cell? ⟨g1, 0, none⟩ = some (.int .i64 a10)) (c11 : w.cell? ⟨g1, 1, none⟩ = some (.int .i64 a11)) (c12 : w.cell? ⟨g1, 2, none⟩ = some (.int .i64 a12)) (c20 : w.cell? ⟨g2, 0, none⟩ = some (.int .i64 a20)) (c21 : w.cell? ⟨g2, 1, none⟩ = some (.int .i64 a21)) (c22 : w.cell? ⟨g2, 2, none⟩ = some (.int .i64 a22))
    (b0 : -1296 ≤ a11 * a22 ∧ a11 * a22 ≤ 1296) (b1 : -1296 ≤ a12 * a21 ∧ a12 * a21 ≤ 1296) (b2 : -1296 ≤ a10 * a22 ∧ a10 * a22 ≤ 1296) (b3 : -1296 ≤ a12 * a20 ∧ a12 * a20 ≤ 1296) (b4 : -1296 ≤ a10 * a21 ∧ a10 * a21 ≤ 1296) (b5 : -1296 ≤ a11 * a20 ∧ a11 * a20 ≤ 1296) (d0 : -93312 ≤ a00 * (a11 * a22 - a12 * a21) ∧ a00 * (a11 * a22 - a12 * a21) ≤ 93312) (d1 : -93312 ≤ a01 * (a10 * a22 - a12 * a20) ∧ a01 * (a10 * a22 - a12 * a20) ≤ 93312) (d2 : -93312 ≤ a02 * (a10 * a21 - a11 * a20) ∧ a02 * (a10 * a21 - a11 * a20) ≤ 93312) :
    Calls Tryd.prog 24 #[.slice (some ⟨g, 0, none⟩) 3 cap] w fun x w' => x = .returned (.int .i64 (a00 * (a11 * a22 - a12 * a21) - a01 * (a10 * a22 - a12 * a20) + a02 * (a10 * a21 - a11 * a20))) ∧ Below w.heap.size w w' := by
  obtain ⟨b0, b0'⟩ := b0
  obtain ⟨b1, b1'⟩ := b1
  obtain ⟨b2, b2'⟩ := b2
  obtain ⟨b3, b3'⟩ := b3
  obtain ⟨b4, b4'⟩ := b4
  obtain ⟨b5, b5'⟩ := b5
  obtain ⟨d0, d0'⟩ := d0
  obtain ⟨d1, d1'⟩ := d1
  obtain ⟨d2, d2'⟩ := d2
  go_enter Tryd.func24, Tryd.ntmps24
  go_wp2_with fail
  go_quiet (fail)
  go_wp2_with fail
  go_quiet (fail)
  go_wp2_with fail
  go_quiet (fail)
  go_wp2_with fail
  go_quiet (fail)
  go_wp2_with fail
  go_ret
  exact ⟨rfl, by repeat (first | exact Below.refl _ _ | refine below_drewN ?_ _)⟩
theorem kdet_any (B n : Nat) (v : Value) (gs : Nat → Nat) (e : Nat → Nat → Int) (w : World) (h : Mat B w v n n gs e) (hn : n ≤ 3) (ht : Tiny n e) :
    Calls Tryd.prog 24 #[v] w fun x w' => x = .returned (.int .i64 (detF n e)) ∧ Below w.heap.size w w' := by
  rcases h.shape with ⟨rfl, rfl⟩ | ⟨g, cap, rfl, -, -, -, -, -, -⟩
  · exact kdet_zero w
  · have P : ∀ i j k l, i < n → j < n → k < n → l < n → -1296 ≤ e i j * e k l ∧ e i j * e k l ≤ 1296 := fun i j k l hi hj hk hl => mul_box (A := 36) (B := 36) (ht i j hi hj).1 (ht i j hi hj).2 (ht k l hk hl).1 (ht k l hk hl).2
    match n, h, hn, ht, P with
    | 0, _, _, _, _ =>
      rw [detF0]
      exact kdet_nought g cap w
    | 1, h, _, _, _ =>
      rw [detF1]
      exact kdet_one g cap (gs 0) (e 0 0) w (h.cell 0 (by omega)) ((h.2 0 (by omega)).cell 0 (by omega))
    | 2, h, _, _, P =>
      rw [detF2]
      exact kdet_two g cap (gs 0) (gs 1) (e 0 0) (e 0 1) (e 1 0) (e 1 1) w (h.cell 0 (by omega)) (h.cell 1 (by omega)) ((h.2 0 (by omega)).cell 0 (by omega)) ((h.2 0 (by omega)).cell 1 (by omega)) ((h.2 1 (by omega)).cell 0 (by omega)) ((h.2 1 (by omega)).cell 1 (by omega))
        (P 0 0 1 1 (by omega) (by omega) (by omega) (by omega)) (P 0 1 1 0 (by omega) (by omega) (by omega) (by omega))
    | 3, h, _, ht, P =>
      have D : ∀ j (x y : Int), j < 3 → (-1296 ≤ x ∧ x ≤ 1296) → (-1296 ≤ y ∧ y ≤ 1296) → -93312 ≤ e 0 j * (x - y) ∧ e 0 j * (x - y) ≤ 93312 := fun j x y hj hx hy =>
        mul_box (A := 36) (B := 2592) (ht 0 j (by omega) hj).1 (ht 0 j (by omega) hj).2 (by omega) (by omega)
      have q1 := P 1 1 2 2 (by omega) (by omega) (by omega) (by omega)
      have q2 := P 1 2 2 1 (by omega) (by omega) (by omega) (by omega)
      have q3 := P 1 0 2 2 (by omega) (by omega) (by omega) (by omega)
      have q4 := P 1 2 2 0 (by omega) (by omega) (by omega) (by omega)
      have q5 := P 1 0 2 1 (by omega) (by omega) (by omega) (by omega)
      have q6 := P 1 1 2 0 (by omega) (by omega) (by omega) (by omega)
      rw [detF3]
      exact kdet_three g cap (gs 0) (gs 1) (gs 2) (e 0 0) (e 0 1) (e 0 2) (e 1 0) (e 1 1) (e 1 2) (e 2 0) (e 2 1) (e 2 2) w (h.cell 0 (by omega)) (h.cell 1 (by omega)) (h.cell 2 (by omega))
        ((h.2 0 (by omega)).cell 0 (by omega)) ((h.2 0 (by omega)).cell 1 (by omega)) ((h.2 0 (by omega)).cell 2 (by omega))
        ((h.2 1 (by omega)).cell 0 (by omega)) ((h.2 1 (by omega)).cell 1 (by omega)) ((h.2 1 (by omega)).cell 2 (by omega))
        ((h.2 2 (by omega)).cell 0 (by omega)) ((h.2 2 (by omega)).cell 1 (by omega)) ((h.2 2 (by omega)).cell 2 (by omega))
        q1 q2 q3 q4 q5 q6 (D 0 _ _ (by omega) q1 q2) (D 1 _ _ (by omega) q3 q4) (D 2 _ _ (by omega) q5 q6)
end Go.Proofs.YtfjbijpagaipnaaDoor
