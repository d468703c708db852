import Derived.Test.YtfjbijpagaipnabGreatDoorT05
import Derived.Lib.ItoaLen
import Derived.Test.YtfjbijpagaipnabGreatDoorT07
import Derived.Test.YtfjbijpagaipnabGreatDoorT18
import Derived.Test.YtfjbijpagaipnabGreatDoorT10
namespace Go.Proofs.YtfjbijpagaipnabGreatDoor
open Go.RowKit
theorem itoa_digit (n : Nat) (h : n < 10) : Lib.itoa (n : Int) = [UInt8.ofNat (48 + n)] := by rw [Lib.itoa_nonneg, Lib.decDigits_one h]
theorem itoa_more (n : Nat) (h : ¬ n < 10) : Lib.itoa (n : Int) = Lib.itoa ((n / 10 : Nat) : Int) ++ [UInt8.ofNat (48 + n % 10)] := by
 rw [Lib.itoa_nonneg, Lib.itoa_nonneg, decDigits_big h]
theorem byte_str (w : World) (d : Nat) (hd : d < 10) (z : Int) (hz : z = 48 + (d : Int)) (bt : UInt8) (hbt : bt = UInt8.ofNat (48 + d)) :
 (convert 85 9 (.slice (some ⟨w.heap.size, 0, none⟩) 1 1)).run Tryz.prog (w.alloc (.cells #[.int .u8 z] 5)) = .ok (.string ⟨[bt].toArray⟩) (w.alloc (.cells #[.int .u8 z] 5)) := by
 subst hbt
 have h := run_convert_bytes_back (P := Tryz.prog) (w.alloc (.cells #[.int .u8 z] 5)) 85 9 5 ⟨w.heap.size, 0, none⟩ 1 [UInt8.ofNat (48 + d)] Tryz.underlying85 Tryz.underlying5 Tryz.underlying9 (fun j hj => by
  have hj0 : j = 0 := by simpa using hj
  subst hj0
  rw [Lib.add_plain, World.cell?_alloc_new]
  have e : ((UInt8.ofNat (48 + d)).toNat : Int) = z := by
   rw [hz, UInt8.toNat_ofNat', Nat.mod_eq_of_lt (by omega)]; omega
  simp only [List.getElem_cons_zero]
  rw [e]
  rfl)
 exact h
set_option maxRecDepth 100000 in
set_option maxHeartbeats 1000000 in
theorem number_nat (f : Nat) : ∀ (n : Nat) (w : World), n ≤ f → n ≤ 4611686018427387904 →
 Calls Tryz.prog 21 #[.int .i64 n] w fun e w' => e = .returned (.string ⟨(Lib.itoa (n : Int)).toArray⟩) ∧ Below w.heap.size w w' := by
 induction f with
 | zero =>
   intro n w hf hn
   have h0 : n < 10 := by omega
   obtain ⟨bt, hbt⟩ : ∃ bt, bt = UInt8.ofNat (48 + n % 10) := ⟨_, rfl⟩
   have hcv := byte_str w (n % 10) (by omega) (48 + (n : Int) % 10) (by omega) bt hbt
   have HBT := Hid.mk hbt
   clear hbt
   go_enter Tryz.func21, Tryz.ntmps21
   go_wp2_with fail
   go_ret
   refine ⟨?_, (Below.refl _ _).alloc (Nat.le_refl _) _⟩
   rw [itoa_digit n h0]
   exact ret_str (by rw [HBT.out, Nat.mod_eq_of_lt h0])
 | succ f ih =>
   intro n w hf hn
   by_cases h0 : n < 10
   ·obtain ⟨bt, hbt⟩ : ∃ bt, bt = UInt8.ofNat (48 + n % 10) := ⟨_, rfl⟩
    have hcv := byte_str w (n % 10) (by omega) (48 + (n : Int) % 10) (by omega) bt hbt
    have HBT := Hid.mk hbt
    clear hbt
    clear ih
    go_enter Tryz.func21, Tryz.ntmps21
    go_wp2_with fail
    go_ret
    refine ⟨?_, (Below.refl _ _).alloc (Nat.le_refl _) _⟩
    rw [itoa_digit n h0]
    exact ret_str (by rw [HBT.out, Nat.mod_eq_of_lt h0])
   ·obtain ⟨bt, hbt⟩ : ∃ bt, bt = UInt8.ofNat (48 + n % 10) := ⟨_, rfl⟩
    have hcv := byte_str w (n % 10) (by omega) (48 + (n : Int) % 10) (by omega) bt hbt
    have HBT := Hid.mk hbt
    clear hbt
    have HIH := Hid.mk ih
    clear ih
    have hlen : (Lib.itoa ((n / 10 : Nat) : Int)).length ≤ 40 := by
     have := Lib.itoa_length_le ((n / 10 : Nat) : Int) (by omega) (by omega)
     omega
    go_enter Tryz.func21, Tryz.ntmps21
    go_wp2_with fail
    rw [show (n : Int) / 10 = ((n / 10 : Nat) : Int) from by omega]
    refine (HIH.out (n / 10) _ (by omega) (by omega)).mono ?_
    rintro e w2 ⟨rfl, hb⟩
    generalize hT : Lib.itoa ((n / 10 : Nat) : Int) = T at *
    have HT := Hid.mk hT
    clear hT
    go_wp2_with fail
    go_ret
    refine ⟨?_, ((Below.refl w.heap.size w).alloc (Nat.le_refl _) _).trans (hb.mono (by simp))⟩
    rw [itoa_more n h0, HT.out, ← HBT.out]
    exact ret_str (str_app T [bt])
theorem number_any (z : Int) (w : World) (h1 : -4611686018427387904 ≤ z) (h2 : z ≤ 4611686018427387904) :
 Calls Tryz.prog 21 #[.int .i64 z] w fun e w' => e = .returned (.string ⟨(Lib.itoa z).toArray⟩) ∧ Below w.heap.size w w' := by
 by_cases hz : z < 0
 ·obtain ⟨u, rfl⟩ : ∃ u : Nat, z = -(u : Int) := ⟨z.natAbs, by omega⟩
  have hu : 1 ≤ u := by omega
  have hlen : (Lib.itoa (u : Int)).length ≤ 40 := by
   have := Lib.itoa_length_le (u : Int) (by omega) (by omega)
   omega
  go_enter Tryz.func21, Tryz.ntmps21
  go_wp2_with fail
  refine (number_nat u u _ (Nat.le_refl _) (by omega)).mono ?_
  rintro e w2 ⟨rfl, hb⟩
  generalize hT : Lib.itoa (u : Int) = T at *
  have HT := Hid.mk hT
  clear hT
  go_wp2_with fail
  go_ret
  refine ⟨?_, hb⟩
  rw [Lib.itoa_neg u hu, ← Lib.itoa_nonneg, HT.out]
  exact ret_str (str_app [45] _)
 ·obtain ⟨u, rfl⟩ : ∃ u : Nat, z = (u : Int) := ⟨z.natAbs, by omega⟩
  exact number_nat u u w (Nat.le_refl _) (by omega)
open Go.RowKit
open Go.RowKit
def icells (c : Nat) (f : Nat → Int) : List Value := (List.range c).map fun j => Value.int .i64 (f j)
def rowV (c g : Nat) : Value := .slice (some ⟨g, 0, none⟩) c c
def IRow (w : World) (g c : Nat) (f : Nat → Int) : Prop := w.heap[g]? = some (.cells (icells c f).toArray 3 (0, 0))
theorem IRow.lt {w : World} {g c : Nat} {f : Nat → Int} (h : IRow w g c f) : g < w.heap.size := (Array.getElem?_eq_some_iff.1 h).1
theorem IRow.cell {w : World} {g c : Nat} {f : Nat → Int} (h : IRow w g c f) (j : Nat) (hj : j < c) : w.cell? ⟨g, j, none⟩ = some (.int .i64 (f j)) := by
 unfold IRow at h
 simp [World.cell?, h, icells, hj]
theorem IRow.frozen {w : World} {g c : Nat} {f : Nat → Int} (h : IRow w g c f) (j : Nat) : w.frozen? ⟨g, j, none⟩ = false := by
 unfold IRow at h
 simp [World.frozen?, h]
def upd (f : Nat → Int) (j : Nat) (z : Int) : Nat → Int := fun k => if k = j then z else f k
theorem icells_set (c : Nat) (f : Nat → Int) (j : Nat) (z : Int) : (icells c f).set j (.int .i64 z) = icells c (upd f j z) := by
 apply List.ext_getElem?
 intro k
 simp only [icells, List.getElem?_set, List.length_map, List.length_range, List.getElem?_map, upd]
 by_cases hk : j = k
 ·subst hk
  by_cases hc : j < c
  ·simp [hc]
  ·simp [hc]
 ·have hk' : ¬ k = j := fun e => hk e.symm
  by_cases hc : k < c
  ·simp [hk, hk', hc]
  ·simp [hk, hc]
theorem IRow.stored {w : World} {g c : Nat} {f : Nat → Int} (h : IRow w g c f) (j : Nat) (z : Int) : IRow (w.setCell ⟨g, j, none⟩ (.int .i64 z)) g c (upd f j z) := by
 unfold IRow at *
 rw [heap_setCell_same _ _ _ _ _ _ h, ← icells_set]
 simp
theorem Tryz.info3' : (Tryz.prog.info? 3).map (fun i => (i.zero, i.size, i.bytes)) = some (some (.int .i64 0), 1, 8) := by kernel_rfl
theorem Tryz.info51' : (Tryz.prog.info? 51).map (fun i => (i.zero, i.size, i.bytes)) = some (some (.slice none 0 0), 1, 24) := by kernel_rfl
theorem make_row (w : World) {ops : Array Oper} {rest : List Oper} {o : Oper} {a : Act} {Q : Exit → Act → World → Prop}
 (hg : o.guard = none) (l c : Operand) (hop : o.op = Op.makeSlice 51 l c) (L C : Int) (n : Nat) (hl : a.eval l = .int .i64 L) (hc : a.eval c = .int .i64 C) (hL : L = (n : Int)) (hC : C = (n : Int)) (b : n ≤ 1000000000)
 (hK : ∀ w', IRow w' w.heap.size n (fun _ => 0) → Below w.heap.size w w' → w.heap.size < w'.heap.size → wpList Tryz.prog ops Q rest (a.put o.dst (.slice (some ⟨w.heap.size, 0, none⟩) n n)) w') :
 wpList Tryz.prog ops Q (o :: rest) a w := by
 obtain ⟨i, hi, hz0, hz1, hz2⟩ := info_parts Tryz.info3'
 refine wpList_make_full w hg l c 51 hop 0 3 i (.int .i64 0) 1 Tryz.underlying51 hi hz0 hz1 .i64 .i64 L C n hl hc hL hC (by rw [hz2]; omega) (by unfold maxLen; omega) (Nat.zero_le _) ?_
 intro w' hown hgrow
 rw [show (Value.int IntKind.i64 0).cells = #[.int .i64 0] from rfl, toList_madeCells_one, Nat.mul_one] at hown
 refine hK w' ?_ ((Below.refl _ _).grown hgrow (Nat.le_refl _) (by simp)) (World.ownsRow.lt hown _ rfl).2
 rcases hown.2 with ⟨h1, _⟩ | ⟨g, cap, cur, h1, h2, h3, h4, h5, h6, h7⟩
 ·simp at h1
 ·simp only [Value.slice.injEq, Option.some.injEq, Addr.mk.injEq, and_true, true_and] at h1
  obtain ⟨rfl, rfl⟩ := h1
  unfold IRow
  rw [h3]
  have h8 : cur.toList = icells n (fun _ => 0) := by
   rw [List.take_of_length_le (by simp [h6])] at h7
   rw [h7]
   simp [icells, List.map_const']
  rw [← h8]
def rcells (n c : Nat) (gs : Nat → Nat) : List Value := (List.range n).map fun i => rowV c (gs i)
def Mat (B : Nat) (w : World) (v : Value) (n c : Nat) (gs : Nat → Nat) (e : Nat → Nat → Int) : Prop := w.ownsRow B 51 1 v n (rcells n c gs) ∧ ∀ i, i < n → IRow w (gs i) c (e i)
def KB (B : Nat) (w w' : World) : Prop := ∀ (i : Nat) (arr : Array Value) (t : TypeId), i < B → (t = 3 ∨ t = 51) → w.heap[i]? = some (.cells arr t (0, 0)) → w'.heap[i]? = some (.cells arr t (0, 0))
theorem KB.of_below {B : Nat} {w w' : World} (h : Below B w w') : KB B w w' := fun i arr t hi _ h0 => by rw [h.block i hi]; exact h0
theorem KB.of_grown {B : Nat} {w w' : World} {p : Nat} {t : TypeId} (h : w.grownBy w' (some p)) (ht : Ty w p t) (h1 : t ≠ 3) (h2 : t ≠ 51) : KB B w w' := by
 intro i arr u _ hu h0
 rw [h.block i (Array.getElem?_eq_some_iff.1 h0).1 ?_]
 ·exact h0
 ·intro e
  injection e with e
  subst e
  obtain ⟨c, fr, h3⟩ := ht
  rw [h0] at h3
  simp only [Option.some.injEq, Obj.cells.injEq] at h3
  rcases hu with rfl | rfl
  ·exact h1 h3.2.1.symm
  ·exact h2 h3.2.1.symm
theorem IRow.keep {B : Nat} {w w' : World} {g c : Nat} {f : Nat → Int} (h : IRow w g c f) (hk : KB B w w') (hg : g < B) : IRow w' g c f := hk g _ _ hg (.inl rfl) h
theorem Mat.keep {B : Nat} {w w' : World} {v : Value} {n c : Nat} {gs : Nat → Nat} {e : Nat → Nat → Int} (h : Mat B w v n c gs e) (hk : KB w.heap.size w w') : Mat B w' v n c gs e := by
 refine ⟨⟨h.1.1, ?_⟩, fun i hi => (h.2 i hi).keep hk (h.2 i hi).lt⟩
 rcases h.1.2 with h2 | ⟨g, cap, cur, hv, hg, hh, r⟩
 ·exact .inl h2
 ·exact .inr ⟨g, cap, cur, hv, hg, hk g cur _ (Array.getElem?_eq_some_iff.1 hh).1 (.inr rfl) hh, r⟩
theorem Mat.nil (B : Nat) (w : World) (c : Nat) (gs : Nat → Nat) (e : Nat → Nat → Int) : Mat B w (.slice none 0 0) 0 c gs e := ⟨World.ownsRow_nil _ _ _ _, fun i hi => by omega⟩
theorem Mat.shape {B : Nat} {w : World} {v : Value} {n c : Nat} {gs : Nat → Nat} {e : Nat → Nat → Int} (h : Mat B w v n c gs e) :
 (v = .slice none 0 0 ∧ n = 0) ∨ ∃ g cap, v = .slice (some ⟨g, 0, none⟩) n cap ∧ n ≤ cap ∧ cap ≤ 9223372036854775807 ∧ B ≤ g ∧ g < w.heap.size ∧ Ty w g 51 ∧ ∀ i, i < n → w.cell? ⟨g, i, none⟩ = some (.slice (some ⟨gs i, 0, none⟩) c c) ∧ w.frozen? ⟨g, i, none⟩ = false := by
 rcases h.1.2 with h2 | ⟨g, cap, cur, rfl, hg, hh, h1, h3, h4, h5⟩
 ·exact .inl h2
 ·refine .inr ⟨g, cap, rfl, h1, by simpa [maxLen] using h3, hg, (Array.getElem?_eq_some_iff.1 hh).1, ⟨_, _, hh⟩, fun i hi => ⟨?_, ?_⟩⟩
  ·rw [World.ownsRow.cellAt h.1 i (by omega)]
   simp [rcells, hi, rowV]
  ·exact World.ownsRow.frozenAt h.1 i
theorem Mat.cell {B : Nat} {w : World} {n c cap g : Nat} {gs : Nat → Nat} {e : Nat → Nat → Int} (h : Mat B w (.slice (some ⟨g, 0, none⟩) n cap) n c gs e) (i : Nat) (hi : i < n) :
 w.cell? ⟨g, i, none⟩ = some (.slice (some ⟨gs i, 0, none⟩) c c) := by
 rw [World.ownsRow.cellAt h.1 i (by omega)]
 simp [rcells, hi, rowV]
theorem rcells_snoc (n c : Nat) (gs : Nat → Nat) (g : Nat) : rcells n c gs ++ [rowV c g] = rcells (n + 1) c (fun i => if i = n then g else gs i) := by
 unfold rcells
 rw [List.range_succ, List.map_append, List.map_singleton]
 simp only [if_true]
 congr 1
 apply List.map_congr_left
 intro i hi
 have := List.mem_range.1 hi
 rw [if_neg (by omega)]
theorem append_row (w : World) {ops : Array Oper} {rest : List Oper} {o : Oper} {a : Act} {Q : Exit → Act → World → Prop} (hgd : o.guard = none) (s x : Operand)
 (ho : o.op = .call { callee := .builtin .append, args := #[s, x], argTypes := #[57, 57] }) (B : Nat) (v : Value) (n c : Nat) (gs : Nat → Nat) (e : Nat → Nat → Int) (hs : a.eval s = v) (hm : Mat B w v n c gs e)
 (ad : Addr) (hx : a.eval x = .slice (some ad) 1 1) (g : Nat) (f : Nat → Int) (h0 : w.cell? (ad.add 0) = some (.slice (some ⟨g, 0, none⟩) c c)) (hr : IRow w g c f) (hn : n ≤ 10000) (hB : B ≤ w.heap.size)
 (hK : ∀ v' w', Mat B w' v' (n + 1) c (fun i => if i = n then g else gs i) (fun i => if i = n then f else e i) → KB B w w' → w.grownBy w' v.ownBlock → (∀ k, v.ownBlock = some k → B ≤ k) → wpList Tryz.prog ops Q rest (a.put o.dst v') w') : wpList Tryz.prog ops Q (o :: rest) a w := by
 obtain ⟨i, hi, hz0, hz1, hz2⟩ := info_parts Tryz.info51'
 have hlt := World.ownsRow.lt hm.1
 have hty : ∀ k, v.ownBlock = some k → Ty w k 51 := by
  intro k hk
  rcases hm.1.2 with ⟨rfl, _⟩ | ⟨g, cap, cur, rfl, hg, hh, r⟩
  ·simp [Value.ownBlock] at hk
  ·simp [Value.ownBlock] at hk
   subst hk
   exact ⟨_, _, hh⟩
 refine wpList_append_own w hgd s x 57 ho B 51 i (.slice none 0 0) 1 24 Tryz.underlying57 hi hz0 hz1 hz2 rfl (by decide) v n (rcells n c gs) hs hm.1 ad 1 1 [rowV c g] hx rfl ?_ ?_ ?_ ?_ hB ?_
 ·intro j u hj
  match j, hj with
  | 0, hj => simp at hj; subst hj; exact h0
 ·intro u hu; simp at hu; subst hu; rfl
 ·unfold maxLen; omega
 ·omega
 ·intro v' w' k1 k2 _
  have key : ∀ (b : Nat) (f' : Nat → Int), IRow w b c f' → IRow w' b c f' := by
   intro b f' hb
   unfold IRow
   rw [k2.block b hb.lt ?_]
   ·exact hb
   ·intro e
    obtain ⟨cc, fr, h3⟩ := hty b e.symm
    unfold IRow at hb
    rw [hb] at h3
    simp at h3
  refine hK v' w' ⟨by rw [← rcells_snoc]; exact k1, fun j hj => ?_⟩ ?_ k2 (fun k hk => (hlt k hk).1)
  ·by_cases hjn : j = n
   ·simp only [hjn, if_true]; exact key _ _ hr
   ·simp only [hjn, if_false]; exact key _ _ (hm.2 j (by omega))
  ·intro b arr t hb _ h1
   rw [k2.block b (Array.getElem?_eq_some_iff.1 h1).1 ?_]
   ·exact h1
   ·intro e; have := (hlt b e.symm).1; omega
open Go.RowKit
def Di (w : World) (d : Nat) : Prop := ∃ x : Nat, x < 2147483648 ∧ w.heap[d]? = some (.cells #[.int .i64 (x : Nat)] 54 (0, 0))
theorem Di.lt {w : World} {d : Nat} (h : Di w d) : d < w.heap.size := by obtain ⟨x, _, h⟩ := h; exact (Array.getElem?_eq_some_iff.1 h).1
theorem Di.ty {w : World} {d : Nat} (h : Di w d) : Ty w d 54 := by obtain ⟨x, _, h⟩ := h; exact ⟨_, _, h⟩
theorem Di.below {w w' : World} {d : Nat} {B : Nat} (h : Di w d) (hb : Below B w w') (hB : d < B) : Di w' d := by obtain ⟨x, h0, h⟩ := h; exact ⟨x, h0, by rw [hb.block d hB]; exact h⟩
theorem pick_any (c n : Int) (w : World) (hc1 : -9223372036854775808 ≤ c) (hc2 : c ≤ 9223372036854775807) (hn : 0 < n) (hn2 : n ≤ 4294967296) :
 Calls Tryz.prog 12 #[.int .i64 c, .int .i64 n] w fun e w' => (∃ v : Nat, e = .returned (.int .i64 (v : Nat)) ∧ (v : Int) < n) ∧ w' = w := by
 by_cases h0 : c < 0
 ·have hn0 : n ≠ 0 := by omega
  go_enter Tryz.func12, Tryz.ntmps12
  go_wp2_with fail
  go_ret
  refine ⟨⟨((-(c + 1)) % n).toNat, ?_, ?_⟩, rfl⟩
  ·refine ret_int ?_
   have h1 := Int.emod_nonneg (-(c + 1)) hn0
   have h2 : (-(c + 1)).tmod n = (-(c + 1)) % n := Int.tmod_eq_emod_of_nonneg (by omega)
   rw [Int.neg_tmod] at h2
   omega
  ·have := Int.emod_lt_of_pos (-(c + 1)) hn; have := Int.emod_nonneg (-(c + 1)) hn0; omega
 ·have hn0 : n ≠ 0 := by omega
  go_enter Tryz.func12, Tryz.ntmps12
  go_wp2_with fail
  go_ret
  refine ⟨⟨(c % n).toNat, ?_, ?_⟩, rfl⟩
  ·exact ret_int (by have := Int.emod_nonneg c hn0; omega)
  ·have := Int.emod_lt_of_pos c hn; have := Int.emod_nonneg c hn0; omega
set_option maxHeartbeats 1000000 in
theorem under_any (d n : Nat) (w : World) (h : Di w d) (hn : 0 < n) (hn2 : n ≤ 1000) :
 Calls Tryz.prog 24 #[.pointer (some ⟨d, 0, none⟩), .int .i64 n] w fun e w' => (∃ v : Nat, e = .returned (.int .i64 (v : Nat)) ∧ v < n) ∧ Di w' d ∧ w.grownBy w' (some d) := by
 obtain ⟨x, hx, hh⟩ := h
 have c0 : w.cell? ⟨d, 0, none⟩ = some (.int .i64 (x : Nat)) := by simp [World.cell?, hh]
 have f0 : w.frozen? ⟨d, 0, none⟩ = false := by simp [World.frozen?, hh]
 have hxi : (x : Int) < 2147483648 := by omega
 have HH := Hid.mk hh
 clear hh
 go_enter Tryz.func24, Tryz.ntmps24
 go_wp2_with fail
 go_ret
 have hy : ∃ y : Nat, y < 2147483648 ∧ ((x : Int) * 1103515245 + 12345) % 2147483648 = (y : Nat) := ⟨((x : Int) * 1103515245 + 12345).toNat % 2147483648, by omega, by omega⟩
 obtain ⟨y, hy1, hy2⟩ := hy
 rw [hy2]
 refine ⟨⟨y / 256 % n, ret_int (by simp), Nat.mod_lt _ hn⟩, ⟨y, hy1, ?_⟩, rfl, rfl, rfl, by simp [World.setCell], fun k _ hne => ?_⟩
 ·rw [heap_setCell_same _ _ _ _ _ _ HH.out]; simp
 ·exact Below.heap_setCell _ _ _ _ (fun e => hne (by simp [e]))
def Dk (w : World) (d b : Nat) : Prop := w.heap[d]? = some (.cells #[.pointer (some ⟨b, 0, none⟩)] 40 (0, 0))
theorem Dk.lt {w : World} {d b : Nat} (h : Dk w d b) : d < w.heap.size := (Array.getElem?_eq_some_iff.1 h).1
theorem Dk.cell {w : World} {d b : Nat} (h : Dk w d b) : w.cell? ⟨d, 0, none⟩ = some (.pointer (some ⟨b, 0, none⟩)) := by unfold Dk at h; simp [World.cell?, h]
theorem Dk.below {B : Nat} {w w' : World} {d b : Nat} (h : Dk w d b) (hb : Below B w w') (hB : d < B) : Dk w' d b := by unfold Dk; rw [hb.block d hB]; exact h
theorem Dk.grown {w w' : World} {d b p : Nat} (h : Dk w d b) (hg : w.grownBy w' (some p)) (hp : p ≠ d) : Dk w' d b := by unfold Dk; rw [hg.block d h.lt (fun e => hp (by injection e with e; exact e.symm))]; exact h
theorem start_any (a : Int) (w : World) (h1 : -9223372036854775808 ≤ a) (h2 : a ≤ 9223372036854775807) : Calls Tryz.prog 8 #[.int .i64 a] w fun e w' => ∃ d, e = .returned (.pointer (some ⟨d, 0, none⟩)) ∧ Di w' d ∧ w.heap.size ≤ d ∧ Below w.heap.size w w' := by
 go_enter Tryz.func8, Tryz.ntmps8
 go_wp2_with fail
 refine (pick_any a 2147483648 _ h1 h2 (by omega) (by omega)).mono ?_
 rintro e w' ⟨⟨v, rfl, hv⟩, rfl⟩
 go_wp2_with fail
 refine (under_any w'.heap.size 2 _ ⟨v, by omega, heap_alloc_new w' _⟩ (by omega) (by omega)).mono ?_
 rintro e w2 ⟨⟨u, rfl, hu⟩, hd, hg⟩
 have H := Hid.mk (And.intro hd hg)
 clear hd hg
 go_wp2_with fail
 go_ret
 refine ⟨w'.heap.size, rfl, H.out.1, Nat.le_refl _, ?_⟩
 have hg := H.out.2
 refine ⟨hg.os, hg.tape, hg.output, by have := hg.size; simp at this; omega, fun k hk => ?_⟩
 rw [hg.block k (by simp; omega) (by intro e; injection e with e; omega)]
 exact (((Below.refl w'.heap.size w').alloc (Nat.le_refl _) _).block k hk)
open Go.RowKit
structure KS (B : Nat) (w : World) (d b : Nat) (ms : List Hm) (nx : Nat) : Prop where
 dk : Dk w d b
 held : Held w b ms nx
 tab : ∀ w', Below B w w' → Tab w'
 hb : B ≤ b
 hd : B ≤ d
theorem KS.ne {B : Nat} {w : World} {d b : Nat} {ms : List Hm} {nx : Nat} (h : KS B w d b ms nx) : d ≠ b := by
 rintro rfl
 obtain ⟨c, fr, h1⟩ := h.held.ty
 have h2 := h.dk
 unfold Dk at h2
 rw [h1] at h2
 simp at h2
theorem KS.lo {B : Nat} {w : World} {d b : Nat} {ms : List Hm} {nx : Nat} (h : KS B w d b ms nx) : B ≤ w.heap.size := by have := h.dk.lt; have := h.hd; omega
theorem KS.below {B : Nat} {w w' : World} {d b : Nat} {ms : List Hm} {nx : Nat} (h : KS B w d b ms nx) (hb : Below w.heap.size w w') : KS B w' d b ms nx :=
 ⟨h.dk.below hb h.dk.lt, h.held.below hb, fun w'' hw => h.tab w'' ((hb.mono h.lo).trans hw), h.hb, h.hd⟩
theorem KS.step {B : Nat} {w w' : World} {d b : Nat} {ms ms' : List Hm} {nx nx' : Nat} (h : KS B w d b ms nx) (hH : Held w' b ms' nx') (hF : Fr b w w') : KS B w' d b ms' nx' :=
 ⟨h.dk.grown hF.1 (Ne.symm h.ne), hH, fun w'' hw => h.tab w'' ((hF.below h.hb h.lo).trans hw), h.hb, h.hd⟩
theorem KS.tb {B : Nat} {w : World} {d b : Nat} {ms : List Hm} {nx : Nat} (h : KS B w d b ms nx) : Tab w := h.tab w (Below.refl _ _)
theorem deskK_any (w : World) (ht : Tab w) : Calls Tryz.prog 13 #[] w fun e w' => ∃ d b, e = .returned (.pointer (some ⟨d, 0, none⟩)) ∧ KS w.heap.size w' d b (List.replicate 24 none) 0 ∧ Below w.heap.size w w' := by
 have HT := Hid.mk ht
 clear ht
 go_enter Tryz.func13, Tryz.ntmps13
 go_wp2_with fail
 refine (new_held _).mono ?_
 rintro e w1 ⟨rfl, hs, hb⟩
 have hbl2 := hs.lt
 have H := Hid.mk (And.intro hs hb)
 clear hs hb
 go_wp2_with fail
 go_ret
 have hbA := (Below.refl w1.heap.size w1).alloc (Nat.le_refl _) (.cells #[.pointer (some ⟨w.heap.size, 0, none⟩)] 40)
 exact ⟨w1.heap.size, w.heap.size, rfl, ⟨heap_alloc_new w1 _, H.out.1.below hbA, fun w'' hw => HT.out.below ((H.out.2.trans (hbA.mono H.out.2.size)).trans hw), Nat.le_refl _, H.out.2.size⟩, H.out.2.trans (hbA.mono H.out.2.size)⟩
theorem shown_any (B d b : Nat) (h : Int) (ms : List Hm) (nx : Nat) (w : World) (hk : KS B w d b ms nx) :
 Calls Tryz.prog 20 #[.pointer (some ⟨d, 0, none⟩), .int .i64 h] w fun e w' => ∃ t, e = .returned (.string ⟨t.toArray⟩) ∧ (∃ t0 e0, ShowOut ms h t0 e0 ∧ ((e0 = 0 ∧ t = t0) ∨ (e0 ≠ 0 ∧ t = [63]))) ∧ Below w.heap.size w w' := by
 have c0 := hk.dk.cell
 have H := Hid.mk hk
 clear hk
 go_enter Tryz.func20, Tryz.ntmps20
 go_wp2_with fail
 refine (show_any b h ms nx _ H.out.held H.out.tb).mono ?_
 rintro e w1 ⟨t, e', rfl, hs, hb⟩
 have K := Hid.mk (And.intro hs hb)
 clear hs hb
 by_cases he : e' = 0
 ·subst he
  go_wp2_with fail
  go_ret
  exact ⟨t, rfl, ⟨t, 0, K.out.1, .inl ⟨rfl, rfl⟩⟩, K.out.2⟩
 ·have he' : (e' != 0) = true := by simp [he]
  have HE := Hid.mk he
  clear he
  go_wp2_with fail
  go_ret
  exact ⟨[63], rfl, ⟨t, e', K.out.1, .inr ⟨HE.out, rfl⟩⟩, K.out.2⟩
open Go.RowKit
abbrev KMx := Nat × Nat × List Int
def stk (l : List KMx) : List Hm := (List.range 24).map fun j => (l[j]?).map fun x => (j, x)
theorem stk_len (l : List KMx) : (stk l).length = 24 := by simp [stk]
theorem stk_get (l : List KMx) {k : Nat} (hk : k < 24) : (stk l).getD k none = (l[k]?).map fun x => (k, x) := by
 unfold stk
 rw [List.getD, List.getElem?_map, List.getElem?_range hk]
 rfl
theorem stk_nil : stk [] = List.replicate 24 none := by decide
theorem stk_free {l : List KMx} (hl : l.length < 24) : FreeAt (stk l) l.length := by
 refine ⟨hl, by rw [stk_get l hl]; simp, fun j hj => ?_⟩
 rw [stk_get l (by omega), List.getElem?_eq_getElem hj]
 simp
theorem stk_room {l : List KMx} (hl : l.length < 24) (hf : ∀ i, i < 24 → (stk l).getD i none ≠ none) : False := hf _ hl (stk_free hl).2.1
theorem stk_set {l : List KMx} (hl : l.length < 24) (x : KMx) : (stk l).set l.length (some (l.length, x)) = stk (l ++ [x]) := by
 refine hm_ext (by simp [stk_len]) (stk_len _) fun k hk => ?_
 rw [hm_set (by rw [stk_len]; exact hl), stk_get l hk, stk_get _ hk]
 by_cases e : k = l.length
 ·subst e; simp
 ·rw [if_neg e]
  by_cases h : k < l.length
  ·rw [List.getElem?_append_left h]
  ·rw [List.getElem?_eq_none (by omega), List.getElem?_eq_none (by simp; omega)]
theorem stk_put {l : List KMx} (hl : l.length < 24) (x : KMx) {n : Nat} (hn : FreeAt (stk l) n) : (stk l).set n (some (l.length, x)) = stk (l ++ [x]) := by
 rw [hn.uniq (stk_free hl)]; exact stk_set hl x
open Go.RowKit
theorem digit_nat (d : Nat) (h : d < 10) : (UInt8.ofNat (48 + d)).toNat = 48 + d := by rw [UInt8.toNat_ofNat', Nat.mod_eq_of_lt (by omega)]
theorem decDigits_facts (u : Nat) : Lib.decDigits u ≠ [] ∧ Digs (Lib.decDigits u) ∧ decval (Lib.decDigits u) = u ∧ (0 < u → ∃ d r, Lib.decDigits u = d :: r ∧ d.toNat ≠ 48) := by
 induction u using Nat.strongRecOn with
 | ind u ih =>
   by_cases h : u < 10
   ·rw [Lib.decDigits_one h]
    refine ⟨by simp, ?_, ?_, fun h0 => ⟨_, _, rfl, ?_⟩⟩
    ·intro c hc
     rw [List.mem_singleton] at hc
     rw [hc, digit_nat u h]; omega
    ·have := digit_nat u h
     unfold decval
     simp only [List.foldl_cons, List.foldl_nil]
     rw [this]; omega
    ·rw [digit_nat u h]; omega
   ·obtain ⟨h1, h2, h3, h4⟩ := ih (u / 10) (by omega)
    rw [decDigits_big h]
    have hd := digit_nat (u % 10) (by omega)
    refine ⟨by simp, ?_, ?_, fun _ => ?_⟩
    ·intro c hc
     rcases List.mem_append.1 hc with hc | hc
     ·exact h2 c hc
     ·rw [List.mem_singleton] at hc
      rw [hc, hd]; omega
    ·rw [decval_snoc, h3, hd]; omega
    ·obtain ⟨d, r, e1, e2⟩ := h4 (by omega)
     exact ⟨d, r ++ [UInt8.ofNat (48 + u % 10)], by rw [e1]; rfl, e2⟩
theorem decDigits_run (u : Nat) : Run (Lib.decDigits u) := by
 obtain ⟨h1, h2, h3, h4⟩ := decDigits_facts u
 refine ⟨h1, h2, ?_⟩
 rcases Nat.eq_zero_or_pos u with h | h
 ·subst h
  exact .inl (by rw [Lib.decDigits_one (by decide)]; rfl)
 ·exact .inr (h4 h)
theorem tok_itoa (z : Int) : Tok (Lib.itoa z) z := by
 by_cases hz : z < 0
 ·obtain ⟨u, rfl⟩ : ∃ u : Nat, z = -(u : Int) := ⟨z.natAbs, by omega⟩
  have hu : 1 ≤ u := by omega
  rw [Lib.itoa_neg u hu]
  refine .inr ⟨_, rfl, decDigits_run u, ?_, by rw [(decDigits_facts u).2.2.1]⟩
  obtain ⟨d, r, e1, e2⟩ := (decDigits_facts u).2.2.2 hu
  rw [e1]
  intro e
  injection e with e3 e4
  subst e3
  exact e2 (by decide)
 ·obtain ⟨u, rfl⟩ : ∃ u : Nat, z = (u : Int) := ⟨z.natAbs, by omega⟩
  rw [Lib.itoa_nonneg]
  exact .inl ⟨decDigits_run u, by rw [(decDigits_facts u).2.2.1]⟩
theorem run_itoa (n : Nat) : Run (Lib.itoa (n : Int)) ∧ decval (Lib.itoa (n : Int)) = n := by
 rw [Lib.itoa_nonneg]
 exact ⟨decDigits_run n, (decDigits_facts n).2.2.1⟩
open Go.RowKit
theorem bodyT_snoc (c : Nat) (x : List UInt8) : ∀ (l : List (List UInt8)) (t : Nat), bodyT c t (l ++ [x]) = bodyT c t l ++ ((if 0 < t + l.length ∧ (t + l.length) % c = 0 then [59] else []) ++ (32 :: x))
 | [], t => by simp [bodyT]
 | a :: l, t => by
   have := bodyT_snoc c x l (t + 1)
   rw [List.cons_append, bodyT, bodyT, this, List.length_cons, show t + 1 + l.length = t + (l.length + 1) from by omega]
   simp [List.append_assoc]
def toks (r c : Nat) (e : Nat → Nat → Int) : List (List UInt8) := (List.range (r * c)).map fun t => Lib.itoa (e (t / c) (t % c))
def nums (r c : Nat) (e : Nat → Nat → Int) : List Int := (List.range (r * c)).map fun t => e (t / c) (t % c)
theorem toks_next {r c : Nat} (e : Nat → Nat → Int) {i j : Nat} (hi : i < r) (hj : j < c) :
 bodyT c 0 ((toks r c e).take (i * c + j + 1)) = bodyT c 0 ((toks r c e).take (i * c + j)) ++ ((if 0 < i ∧ j = 0 then [59] else []) ++ (32 :: Lib.itoa (e i j))) := by
 have hlt : i * c + j < r * c := by
  have := Nat.mul_le_mul_right c (Nat.succ_le_of_lt hi)
  rw [Nat.succ_mul] at this; omega
 have hl : (toks r c e).length = r * c := by simp [toks]
 rw [List.take_succ_eq_append_getElem (by omega), bodyT_snoc]
 have h1 : (i * c + j) / c = i := by rw [Nat.mul_comm, Nat.mul_add_div (by omega), Nat.div_eq_of_lt hj]; omega
 have h2 : (i * c + j) % c = j := by rw [Nat.mul_comm, Nat.mul_add_mod, Nat.mod_eq_of_lt hj]
 have h3 : (toks r c e)[i * c + j]'(by omega) = Lib.itoa (e i j) := by simp [toks, h1, h2]
 rw [h3, List.length_take, hl, Nat.min_eq_left (by omega), Nat.zero_add]
 simp only [sep_iff hj]
theorem writes_toks (r c : Nat) (e : Nat → Nat → Int) (s : ByteArray) (hb : ∀ i j, i < r → j < c → -9223372036854775808 ≤ e i j ∧ e i j ≤ 9223372036854775807)
 (hs : s.data.toList = Lib.itoa (r : Int) ++ (120 :: (Lib.itoa (c : Int) ++ (58 :: bodyT c 0 (toks r c e))))) : Writes s r c (nums r c e) 21 := by
 refine ⟨_, _, _, hs, (run_itoa r).1, (run_itoa c).1, (run_itoa r).2, (run_itoa c).2, by simp [toks], by simp [nums], fun t ht => ?_⟩
 have h1 : (toks r c e).getD t [] = Lib.itoa (e (t / c) (t % c)) := by simp [toks, List.getD, ht]
 have h2 : (nums r c e).getD t 0 = e (t / c) (t % c) := by simp [nums, List.getD, ht]
 rw [h1, h2]
 refine ⟨tok_itoa _, ?_⟩
 have hc : 0 < c := by rcases Nat.eq_zero_or_pos c with h | h; · subst h; simp at ht
                       ·exact h
 have := hb (t / c) (t % c) (Nat.div_lt_of_lt_mul (by rw [Nat.mul_comm]; exact ht)) (Nat.mod_lt _ hc)
 exact Lib.itoa_length_le _ this.1 this.2
open Go.RowKit
def headT (r c : Nat) : List UInt8 := Lib.itoa (r : Int) ++ (120 :: (Lib.itoa (c : Int) ++ [58]))
theorem head_str (a b : List UInt8) : ((⟨a.toArray⟩ : ByteArray) ++ ⟨[120].toArray⟩ ++ ⟨b.toArray⟩ ++ ⟨[58].toArray⟩) = ⟨(a ++ (120 :: (b ++ [58]))).toArray⟩ := by
 rw [str_app, str_app, str_app]; simp
theorem body_len (c : Nat) : ∀ (l : List (List UInt8)) (t : Nat), (∀ x ∈ l, x.length ≤ 21) → (bodyT c t l).length ≤ 23 * l.length
 | [], _, _ => by simp [bodyT]
 | a :: l, t, h => by
   have h1 := body_len c l (t + 1) (fun x hx => h x (by simp [hx]))
   have h2 := h a (by simp)
   unfold bodyT
   split <;> (simp; omega)
open Go.RowKit
def SmallR (r c : Nat) (e : Nat → Nat → Int) : Prop := ∀ i j, i < r → j < c → -1000000000 ≤ e i j ∧ e i j ≤ 1000000000
def RdM (w : World) (v : Value) (n c : Nat) (e : Nat → Nat → Int) : Prop := ∃ ao cap, v = .slice ao n cap ∧ n ≤ cap ∧ cap ≤ 9223372036854775807 ∧ ∀ i, i < n → ∃ g o, ao = some ⟨g, o, none⟩ ∧ ∃ ro rcap, w.cell? ⟨g, o + i, none⟩ = some (.slice ro c rcap) ∧ c ≤ rcap ∧ rcap ≤ 9223372036854775807 ∧ ∀ j, j < c → ∃ rg rp, ro = some ⟨rg, rp, none⟩ ∧ w.cell? ⟨rg, rp + j, none⟩ = some (.int .i64 (e i j))
theorem RdM.at {w : World} {ao : Option Addr} {cap n c i : Nat} {e : Nat → Nat → Int} (h : RdM w (.slice ao n cap) n c e) (hi : i < n) : ∃ g o, ao = some ⟨g, o, none⟩ ∧ ∃ ro rcap, w.cell? ⟨g, o + i, none⟩ = some (.slice ro c rcap) ∧ c ≤ rcap ∧ rcap ≤ 9223372036854775807 ∧ ∀ j, j < c → ∃ rg rp, ro = some ⟨rg, rp, none⟩ ∧ w.cell? ⟨rg, rp + j, none⟩ = some (.int .i64 (e i j)) := by
 obtain ⟨ao', cap', e1, -, -, h1⟩ := h
 injection e1 with e1 _ _
 subst e1
 exact h1 i hi
theorem cell_lt {w : World} {g o : Nat} {v : Value} (h : w.cell? ⟨g, o, none⟩ = some v) : g < w.heap.size := by
 apply Classical.byContradiction
 intro hn
 unfold World.cell? at h
 rw [Array.getElem?_eq_none (by simpa using hn)] at h
 simp at h
theorem RdM.below {w w' : World} {v : Value} {n c : Nat} {e : Nat → Nat → Int} (h : RdM w v n c e) (hb : Below w.heap.size w w') : RdM w' v n c e := by
 obtain ⟨ao, cap, e1, h1, h2, h3⟩ := h
 refine ⟨ao, cap, e1, h1, h2, fun i hi => ?_⟩
 obtain ⟨g, o, e2, ro, rcap, c0, h4, h5, h6⟩ := h3 i hi
 refine ⟨g, o, e2, ro, rcap, by rw [cell_block (hb.block g (cell_lt c0))]; exact c0, h4, h5, fun j hj => ?_⟩
 obtain ⟨rg, rp, e3, c1⟩ := h6 j hj
 exact ⟨rg, rp, e3, by rw [cell_block (hb.block rg (cell_lt c1))]; exact c1⟩
theorem Mat.rd {B : Nat} {w : World} {v : Value} {n c : Nat} {gs : Nat → Nat} {e : Nat → Nat → Int} (h : Mat B w v n c gs e) (hc : c ≤ 9) : RdM w v n c e := by
 rcases h.shape with ⟨rfl, rfl⟩ | ⟨g, cap, rfl, h1, h2, -, -, -, h3⟩
 ·exact ⟨none, 0, rfl, Nat.le_refl _, by omega, fun i hi => by omega⟩
 ·refine ⟨some ⟨g, 0, none⟩, cap, rfl, h1, h2, fun i hi => ⟨g, 0, rfl, some ⟨gs i, 0, none⟩, c, by rw [Nat.zero_add]; exact (h3 i hi).1, Nat.le_refl _, by omega, fun j hj => ⟨gs i, 0, rfl, ?_⟩⟩⟩
  rw [Nat.zero_add]
  exact (h.2 i hi).cell j hj
set_option maxRecDepth 100000 in
set_option maxHeartbeats 2000000 in
theorem text_rd (ao : Option Addr) (cap r c : Nat) (e : Nat → Nat → Int) (w : World) (h : RdM w (.slice ao r cap) r c e) (hr : r ≤ 9) (hc : c ≤ 9) (hrc : r ≤ cap) (hcap : cap ≤ 9223372036854775807) (hb : SmallR r c e) :
 Calls Tryz.prog 52 #[.slice ao r cap, .int .i64 c] w fun x w' => x = .returned (.string ⟨(headT r c ++ bodyT c 0 (toks r c e)).toArray⟩) ∧ Below w.heap.size w w' := by
 have H := Hid.mk (And.intro h hb)
 clear h hb
 go_enter Tryz.func52, Tryz.ntmps52
 go_wp2_with fail
 refine (number_nat r r _ (Nat.le_refl _) (by omega)).mono ?_
 rintro e1 w1 ⟨rfl, hb1⟩
 have hl1 : (Lib.itoa (r : Int)).length ≤ 21 := Lib.itoa_length_le _ (by omega) (by omega)
 generalize hT1 : Lib.itoa (r : Int) = T1 at *
 have HT1 := Hid.mk hT1
 have HB1 := Hid.mk hb1
 clear hT1 hb1
 go_wp2_with fail
 refine (number_nat c c _ (Nat.le_refl _) (by omega)).mono ?_
 rintro e2 w2 ⟨rfl, hb2⟩
 have hl2 : (Lib.itoa (c : Int)).length ≤ 21 := Lib.itoa_length_le _ (by omega) (by omega)
 generalize hT2 : Lib.itoa (c : Int) = T2 at *
 have HT2 := Hid.mk hT2
 have HB2 := Hid.mk (HB1.out.trans (hb2.mono HB1.out.size))
 clear hT2 hb2 HB1
 go_wp2_with fail
 go_loopw [7, 8] (fun v i wr => ∃ (k : Nat) (T : List UInt8), k ≤ r ∧ i = .int .i64 k ∧ v = .string ⟨T.toArray⟩ ∧ T.length ≤ 100 + 30 * (k * 9) ∧ Below w.heap.size w wr ∧ Hid (T = headT r c ++ bodyT c 0 ((toks r c e).take (k * c)))) (fun _ i _ => r - (intOf i).toNat)
 case atStart =>
  refine ⟨0, headT r c, Nat.zero_le _, rfl, ?_, ?_, HB2.out, Hid.mk ?_⟩
  ·unfold headT; rw [HT1.out, HT2.out]; exact val_str (head_str T1 T2)
  ·unfold headT; rw [HT1.out, HT2.out]; simp; omega
  ·simp [bodyT]
 case round =>
  obtain ⟨k, T, hk, rfl, rfl, hT, hB, HT⟩ := hrel
  have HBB := Hid.mk hB
  clear hB
  by_cases hkr : k < r
  ·go_wp2_with fail
   go_loopw [7, 9] (fun v i wr => ∃ (j : Nat) (T : List UInt8), j ≤ c ∧ i = .int .i64 j ∧ v = .string ⟨T.toArray⟩ ∧ T.length ≤ 100 + 30 * (k * 9 + j) ∧ Below w.heap.size w wr ∧ Hid (T = headT r c ++ bodyT c 0 ((toks r c e).take (k * c + j)))) (fun _ i _ => c - (intOf i).toNat)
   case atStart => exact ⟨0, T, Nat.zero_le _, rfl, rfl, by omega, HBB.out, Hid.mk (by simpa using HT.out)⟩
   case round =>
    clear HBB
    obtain ⟨j, T', hj, rfl, rfl, hT', hB, HT'⟩ := hrel
    have HBB := Hid.mk hB
    clear hB
    by_cases hjc : j < c
    ·obtain ⟨g, o, rfl, ro, rcap, c0, hrc1, hrc2, c1f⟩ := (H.out.1.below HBB.out).at hkr
     obtain ⟨G, oj, rfl, c1⟩ := c1f j hjc
     clear c1f
     have bb := H.out.2 k j hkr hjc
     have hnx := toks_next e hkr hjc
     generalize hz : e k j = z at c1 bb hnx
     obtain ⟨b1, b2⟩ := bb
     have hlz : (Lib.itoa z).length ≤ 21 := Lib.itoa_length_le _ (by omega) (by omega)
     have HNX := Hid.mk hnx
     clear hz hnx
     by_cases hs : 0 < k ∧ j = 0
     ·have hj0 : ((j : Int) == 0) = true := beq_iff_eq.2 (by omega)
      have hk0 : 0 < k := hs.1
      have HS := Hid.mk hs
      clear hs
      go_wp2_with fail
      refine (number_any z _ (by omega) (by omega)).mono ?_
      rintro e3 w3 ⟨rfl, hb3⟩
      generalize hT3 : Lib.itoa z = T3 at *
      have HT3 := Hid.mk hT3
      have HB3 := Hid.mk (HBB.out.trans (hb3.mono HBB.out.size))
      clear hT3 hb3 HBB
      go_wp2_with fail
      go_roundw
      case measure => simp [intOf]; omega
      case rel =>
       refine ⟨j + 1, T' ++ ([59] ++ (32 :: T3)), by omega, by go_num, ?_, by simp; omega, HB3.out, Hid.mk ?_⟩
       ·refine val_str ?_
        rw [show T' ++ ([59] ++ (32 :: T3)) = (T' ++ [59]) ++ [32] ++ T3 from by simp, ← str_app, ← str_app, ← str_app]
       ·have h1 := HNX.out
        rw [if_pos HS.out] at h1
        rw [← Nat.add_assoc, h1, HT'.out]; simp
     ·have HS := Hid.mk hs
      by_cases hj00 : j = 0
      ·have hj0 : ((j : Int) == 0) = true := beq_iff_eq.2 (by omega)
       have hk0 : decide (0 < k) = false := by simp; omega
       clear hs hj00
       go_wp2_with fail
       refine (number_any z _ (by omega) (by omega)).mono ?_
       rintro e3 w3 ⟨rfl, hb3⟩
       generalize hT3 : Lib.itoa z = T3 at *
       have HT3 := Hid.mk hT3
       have HB3 := Hid.mk (HBB.out.trans (hb3.mono HBB.out.size))
       clear hT3 hb3 HBB
       go_wp2_with fail
       go_roundw
       case measure => simp [intOf]; omega
       case rel =>
        refine ⟨j + 1, T' ++ (32 :: T3), by omega, by go_num, ?_, by simp; omega, HB3.out, Hid.mk ?_⟩
        ·refine val_str ?_
         rw [show T' ++ (32 :: T3) = T' ++ [32] ++ T3 from by simp, ← str_app, ← str_app]
        ·have h1 := HNX.out
         rw [if_neg HS.out] at h1
         rw [← Nat.add_assoc, h1, HT'.out]; simp
      ·have hj0 : ((j : Int) == 0) = false := beq_eq_false_iff_ne.2 (by omega)
       clear hs hj00
       go_wp2_with fail
       refine (number_any z _ (by omega) (by omega)).mono ?_
       rintro e3 w3 ⟨rfl, hb3⟩
       generalize hT3 : Lib.itoa z = T3 at *
       have HT3 := Hid.mk hT3
       have HB3 := Hid.mk (HBB.out.trans (hb3.mono HBB.out.size))
       clear hT3 hb3 HBB
       go_wp2_with fail
       go_roundw
       case measure => simp [intOf]; omega
       case rel =>
        refine ⟨j + 1, T' ++ (32 :: T3), by omega, by go_num, ?_, by simp; omega, HB3.out, Hid.mk ?_⟩
        ·refine val_str ?_
         rw [show T' ++ (32 :: T3) = T' ++ [32] ++ T3 from by simp, ← str_app, ← str_app]
        ·have h1 := HNX.out
         rw [if_neg HS.out] at h1
         rw [← Nat.add_assoc, h1, HT'.out]; simp
    ·have hje : j = c := by omega
     have HJ := Hid.mk hje
     clear hje
     go_wp2_with fail
     go_roundw
     case measure => simp [intOf]; omega
     case rel =>
      refine ⟨k + 1, T', by omega, by go_num, rfl, by omega, HBB.out, Hid.mk ?_⟩
      rw [HT'.out, HJ.out, Nat.succ_mul]
  ·have hke : k = r := by omega
   have HK := Hid.mk hke
   clear hke
   go_wp2_with fail
   go_ret
   refine ⟨ret_str ?_, HBB.out⟩
   rw [HT.out, HK.out, List.take_of_length_le (by simp [toks])]
end Go.Proofs.YtfjbijpagaipnabGreatDoor
