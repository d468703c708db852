import Derived.Test.YtfjbijpagaipnabGreatDoorR19
namespace Go.Proofs.YtfjbijpagaipnabGreatDoor
open Go.RowKit R
def Lw (w : World) (W T : Nat) (hv iv lv tv : Value) (nx : Nat) : Prop := w.heap[W]? = some (.cells #[.pointer (some ⟨T, 0, none⟩), iv, lv, tv, .int .i64 nx, hv] 129 (0, 0))
theorem Lw.lt {w : World} {W T : Nat} {hv iv lv tv : Value} {nx : Nat} (h : Lw w W T hv iv lv tv nx) : W < w.heap.size := (Array.getElem?_eq_some_iff.1 h).1
theorem Lw.of_block {w w' : World} {W T : Nat} {hv iv lv tv : Value} {nx : Nat} (h : Lw w W T hv iv lv tv nx) (hb : w'.heap[W]? = w.heap[W]?) : Lw w' W T hv iv lv tv nx := by unfold Lw; rw [hb]; exact h
theorem Lw.cells {w : World} {W T : Nat} {hv iv lv tv : Value} {nx : Nat} (h : Lw w W T hv iv lv tv nx) : w.cell? ⟨W, 0, none⟩ = some (.pointer (some ⟨T, 0, none⟩)) ∧ w.cell? ⟨W, 1, none⟩ = some iv ∧ w.cell? ⟨W, 2, none⟩ = some lv ∧ w.cell? ⟨W, 3, none⟩ = some tv ∧ w.cell? ⟨W, 4, none⟩ = some (.int .i64 nx) ∧ w.cell? ⟨W, 5, none⟩ = some hv ∧ (∀ j, w.frozen? ⟨W, j, none⟩ = false) := by
 unfold Lw at h
 refine ⟨?_, ?_, ?_, ?_, ?_, ?_, fun j => ?_⟩ <;> simp [World.cell?, World.frozen?, h]
abbrev Ent := Nat × List UInt8 × Nat
def idc (es : List Ent) : List Value := es.map fun e => Value.int .i64 (e.1 : Nat)
def lpc (es : List Ent) : List Value := es.map fun e => Value.pointer (some ⟨e.2.2, 0, none⟩)
def txc (es : List Ent) : List Value := es.map fun e => Value.string ⟨e.2.1.toArray⟩
theorem idc_len (es : List Ent) : (idc es).length = es.length := by simp [idc]
theorem lpc_len (es : List Ent) : (lpc es).length = es.length := by simp [lpc]
theorem txc_len (es : List Ent) : (txc es).length = es.length := by simp [txc]
theorem ent_snoc (es : List Ent) (e : Ent) : idc es ++ [Value.int .i64 (e.1 : Nat)] = idc (es ++ [e]) ∧ lpc es ++ [Value.pointer (some ⟨e.2.2, 0, none⟩)] = lpc (es ++ [e]) ∧ txc es ++ [Value.string ⟨e.2.1.toArray⟩] = txc (es ++ [e]) := by simp [idc, lpc, txc]
def S4 (W : Nat) (iv lv tv : Value) : Nat → Prop := fun k => k = W ∨ iv.ownBlock = some k ∨ lv.ownBlock = some k ∨ tv.ownBlock = some k
theorem KT.grownT {w w' : World} {o : Option Nat} {T : TypeId} (h : w.grownBy w' o) (ht : ∀ k, o = some k → Ty w k T) (h1 : T ≠ 144) (h2 : T ≠ 79) : KT w w' := by
 have key : ∀ (b : Nat) (arr : Array Value) (u : TypeId), u ≠ T → w.heap[b]? = some (.cells arr u (0, 0)) → w'.heap[b]? = some (.cells arr u (0, 0)) := fun b arr u hu hb => by
  rw [h.block b (Array.getElem?_eq_some_iff.1 hb).1 (fun e => hu (ty_block hb (ht b e.symm)))]
  exact hb
 exact ⟨fun b arr hb => key b arr _ (Ne.symm h2) hb, fun b arr hb => key b arr _ (Ne.symm h1) hb⟩
theorem Chg.grownT {S : Nat → Prop} {w w' : World} {o : Option Nat} {T : TypeId} (h : w.grownBy w' o) (ht : ∀ k, o = some k → Ty w k T) (h1 : T ≠ 144) (h2 : T ≠ 79) (hS : ∀ k, o = some k → S k) : Chg S w w' :=
 ⟨⟨h.os, h.tape, h.output, h.size, fun k hk hs => h.block k hk (fun e => hs (hS k e.symm))⟩, KT.grownT h ht h1 h2⟩
theorem Chg.setW {S : Nat → Prop} {w : World} {W o : Nat} {T : TypeId} (ht : Ty w W T) (h1 : T ≠ 144) (h2 : T ≠ 79) (hS : S W) (u : Value) : Chg S w (w.setCell ⟨W, o, none⟩ u) := by
 refine ⟨⟨rfl, rfl, rfl, by simp [World.setCell], fun k _ hs => ?_⟩, KT.setCell (KT.refl _) ht h1 h2 u⟩
 exact Below.heap_setCell _ _ _ _ (fun e => hs (by have e' : k = W := e; rw [e']; exact hS))
theorem Chg.up {S : Nat → Prop} {N : Nat} {w w' : World} (h : Chg S w w') (hS : ∀ k, S k → k < N) : UpN N w w' := fun k h1 h2 => h.block h2 (fun e => by have := hS k e; omega)
theorem RowG.chg {S : Nat → Prop} {w w' : World} {T : TypeId} {v : Value} {xs : List Value} (h : RowG w T v xs) (hc : Chg S w w') (hn : ∀ k, v.ownBlock = some k → ¬ S k) : RowG w' T v xs := h.of_block (fun k hk => hc.block (h.own k hk).1 (hn k hk))
theorem Lw.ty {w : World} {W T : Nat} {hv iv lv tv : Value} {nx : Nat} (h : Lw w W T hv iv lv tv nx) : Ty w W 129 := ⟨_, _, h⟩
theorem Tryz.infoI : (Tryz.prog.info? 3).map (fun i => (i.zero, i.size, i.bytes)) = some (some (.int .i64 0), 1, 8) := by kernel_rfl
theorem Tryz.infoP : (Tryz.prog.info? 164).map (fun i => (i.zero, i.size, i.bytes)) = some (some (.pointer none), 1, 8) := by kernel_rfl
theorem Tryz.infoS : (Tryz.prog.info? 9).map (fun i => (i.zero, i.size, i.bytes)) = some (some (.string ⟨#[]⟩), 1, 16) := by kernel_rfl
theorem Held.chg {S : Nat → Prop} {w w' : World} {b : Nat} {ms : List Hm} {nx : Nat} (h : Held w b ms nx) (hc : Chg S w w') (hb : ¬ S b) : Held w' b ms nx := by
 have hl := h.lt
 obtain ⟨h0, hn, sl, h1, h2⟩ := h
 exact ⟨h0, hn, sl, h1.of_block (hc.block hl hb), fun i hi => (h2 i hi).keep hc.2⟩
theorem TwH.chg {S : Nat → Prop} {B : Nat} {w w' : World} {T b1 b2 : Nat} {ms : List Hm} {nx : Nat} (h : TwH B w T b1 b2 ms nx) (hc : Chg S w w') (hT : ¬ S T) (h1 : ¬ S b1) (h2 : ¬ S b2) (hS : ∀ k, S k → B ≤ k) : TwH B w' T b1 b2 ms nx := by
 obtain ⟨a1, a2, a3, a4, a5, a6, a7, a8⟩ := h
 exact ⟨a1.of_block (hc.block a1.lt hT), a2.chg hc h1, a3.chg hc h2, a4, a5.below (hc.below hS (by have := a1.lt; omega)), a6, a7, a8⟩
theorem ty_ne {w : World} {a b : Nat} {s t : TypeId} (ha : Ty w a s) (hb : Ty w b t) (h : s ≠ t) : a ≠ b := by
 intro e
 subst e
 obtain ⟨c, fr, h1⟩ := ha
 obtain ⟨c', fr', h2⟩ := hb
 rw [h1] at h2
 simp only [Option.some.injEq, Obj.cells.injEq] at h2
 exact h h2.2.1
theorem app_row {w2 X w' : World} {W j : Nat} {Tt : TypeId} {v v' u : Value} {xs : List Value} (hW : Ty w2 W 129) (hX : Below w2.heap.size w2 X) (hrow : RowG w2 Tt v xs) (hA : AppOut X Tt v xs u v' w') (hT : Tt ≠ 129 ∧ Tt ≠ 144 ∧ Tt ≠ 79) :
 RowG (w'.setCell ⟨W, j, none⟩ v') Tt v' (xs ++ [u]) ∧ Chg (fun k => k = W ∨ v.ownBlock = some k) w2 (w'.setCell ⟨W, j, none⟩ v') ∧ w'.heap[W]? = w2.heap[W]? ∧ (∀ g, v'.ownBlock = some g → v.ownBlock = some g ∨ w2.heap.size ≤ g) := by
 obtain ⟨hr, hg, ho⟩ := hA
 have hlt := hW.lt
 have hXs := hX.size
 have hownX : ∀ k, v.ownBlock = some k → Ty X k Tt := fun k hk => (hrow.own k hk).2.below hX (hrow.own k hk).1
 have hWX : Ty X W 129 := hW.below hX hlt
 have hWb : w'.heap[W]? = X.heap[W]? := hg.block W (by omega) (fun e => ty_ne (hownX W e.symm) hWX hT.1 rfl)
 have hW' : Ty w' W 129 := by
  obtain ⟨c, fr, h1⟩ := hWX
  exact ⟨c, fr, by rw [hWb]; exact h1⟩
 refine ⟨hr.of_block (fun g hg' => ?_), ?_, hWb.trans (hX.block W hlt), fun g hg' => ?_⟩
 ·exact Below.heap_setCell _ _ _ _ (fun e => ty_ne (hr.own g hg').2 hW' hT.1 e)
 ·exact ((Chg.of_below hX).trans (Chg.grownT hg hownX hT.2.1 hT.2.2 (fun k hk => .inr hk))).trans (Chg.setW hW' (by decide) (by decide) (.inl rfl) _)
 ·rcases ho g hg' with h | h
  ·exact .inl h
  ·exact .inr (by omega)
theorem RowG.keepRow {w2 wx : World} {W : Nat} {Tt Tv : TypeId} {v r : Value} {xs ys : List Value} (h : RowG w2 Tt r ys) (hv : RowG w2 Tv v xs) (hW : Ty w2 W 129) (hne : Tt ≠ Tv) (hnW : Tt ≠ 129) (hc : Chg (fun k => k = W ∨ v.ownBlock = some k) w2 wx) : RowG wx Tt r ys := by
 refine h.chg hc (fun k hk hs => ?_)
 rcases hs with hs | hs
 ·exact ty_ne (h.own k hk).2 hW hnW hs
 ·exact ty_ne (h.own k hk).2 (hv.own k hs).2 hne rfl
theorem ncell (w : World) (c : Array Value) (t : TypeId) (i b : Nat) {v : Value} (hb : b = w.heap.size) (h : c[i]? = some v) : (w.alloc (.cells c t)).cell? ⟨b, i, none⟩ = some v := by
 have h1 := heap_alloc_new w (.cells c t)
 rw [hb]
 simp only [World.cell?, h1]
 exact h
theorem RowG.setW {w : World} {W o : Nat} {Tt : TypeId} {v : Value} {xs : List Value} (h : RowG w Tt v xs) (hW : Ty w W 129) (hne : Tt ≠ 129) (u : Value) : RowG (w.setCell ⟨W, o, none⟩ u) Tt v xs :=
 h.of_block (fun g hg => Below.heap_setCell _ _ _ _ (fun e => ty_ne (h.own g hg).2 hW hne e))
theorem lw_set {w : World} {W T : Nat} {hv iv lv tv : Value} {nx : Nat} (h : Lw w W T hv iv lv tv nx) (u : Value) : Lw (w.setCell ⟨W, 1, none⟩ u) W T hv u lv tv nx ∧ Lw (w.setCell ⟨W, 2, none⟩ u) W T hv iv u tv nx ∧ Lw (w.setCell ⟨W, 3, none⟩ u) W T hv iv lv u nx := by
 unfold Lw at *
 refine ⟨?_, ?_, ?_⟩ <;> (rw [heap_setCell_same _ _ _ _ _ _ h]; simp)
theorem lw_next {w : World} {W T : Nat} {hv iv lv tv : Value} {nx : Nat} (h : Lw w W T hv iv lv tv nx) {z : Int} {n : Nat} (hz : z = (n : Int)) : Lw (w.setCell ⟨W, 4, none⟩ (.int .i64 z)) W T hv iv lv tv n := by
 unfold Lw at *
 rw [heap_setCell_same _ _ _ _ _ _ h, hz]
 simp
open Go.RowKit R
def MatAt (w : World) (lo hi p r c : Nat) (f : Nat → Nat → Int) : Prop := ∃ gs w0, w0.heap.size = hi ∧ IsR lo w0 p r c gs f 40000000001 ∧ UpN lo w0 w ∧ hi ≤ w.heap.size
theorem MatAt.isR {w : World} {lo hi p r c : Nat} {f : Nat → Nat → Int} (h : MatAt w lo hi p r c f) : ∃ gs, IsR lo w p r c gs f 40000000001 := by
 obtain ⟨gs, w0, -, h2, h3, -⟩ := h
 exact ⟨gs, isR_up h2 h3⟩
theorem MatAt.keep {w w' : World} {lo hi p r c : Nat} {f : Nat → Nat → Int} (h : MatAt w lo hi p r c f) (hs : w.heap.size ≤ w'.heap.size) (hk : ∀ k, lo ≤ k → k < hi → w'.heap[k]? = w.heap[k]?) : MatAt w' lo hi p r c f := by
 obtain ⟨gs, w0, h1, h2, h3, h4⟩ := h
 exact ⟨gs, w0, h1, h2, fun k a b => (hk k a (by omega)).trans (h3 k a b), by omega⟩
theorem MatAt.below {w w' : World} {lo hi p r c : Nat} {f : Nat → Nat → Int} (h : MatAt w lo hi p r c f) (hb : Below w.heap.size w w') : MatAt w' lo hi p r c f := by
 obtain ⟨gs, w0, h1, h2, h3, h4⟩ := id h
 exact h.keep hb.size (fun k _ hk => hb.block k (by omega))
theorem MatAt.chg {S : Nat → Prop} {w w' : World} {lo hi p r c : Nat} {f : Nat → Nat → Int} (h : MatAt w lo hi p r c f) (hc : Chg S w w') (hS : ∀ k, S k → k < lo ∨ hi ≤ k) : MatAt w' lo hi p r c f := by
 obtain ⟨gs, w0, h1, h2, h3, h4⟩ := id h
 exact h.keep hc.size (fun k a b => hc.block (by omega) (fun hs => by have := hS k hs; omega))
theorem MatAt.new {w0 w : World} {lo p r c : Nat} {gs : Nat → Nat} {f : Nat → Nat → Int} (h : IsR lo w0 p r c gs f 40000000001) (hu : UpN lo w0 w) (hs : w0.heap.size ≤ w.heap.size) : MatAt w lo w0.heap.size p r c f := ⟨gs, w0, rfl, h, hu, hs⟩
def fz (c : Nat) (zs : List Int) : Nat → Nat → Int := fun i j => zs.getD (i * c + j) 0
def Fine (r c : Nat) (zs : List Int) : Prop := r ≤ 99 ∧ c ≤ 99 ∧ zs.length = r * c ∧ (matT r c zs).length ≤ 40000000000
theorem bodyT_tok (c : Nat) : ∀ (l : List (List UInt8)) (t i : Nat), i < l.length → (l.getD i []).length ≤ (bodyT c t l).length := by
 intro l
 induction l with
 | nil => intro t i hi; simp at hi
 | cons a b ih =>
   intro t i hi
   rw [bodyT]
   simp only [List.length_append, List.length_cons]
   cases i with
   | zero => simp; omega
   | succ i =>
     have := ih (t + 1) i (by simpa using hi)
     simp only [List.getD_cons_succ]
     omega
theorem writes_fine {r c : Nat} {zs : List Int} (h : Fine r c zs) : Writes ⟨(matT r c zs).toArray⟩ r c zs 40000000000 := by
 obtain ⟨h1, h2, hl, h3⟩ := h
 have hget : ∀ t, t < r * c → (zs.map Lib.itoa).getD t [] = Lib.itoa (zs.getD t 0) := fun t ht => by
  simp [List.getD, List.getElem?_map, List.getElem?_eq_getElem (show t < zs.length from by omega)]
 refine ⟨Lib.decDigits r, Lib.decDigits c, zs.map Lib.itoa, rfl, decDigits_run r, decDigits_run c, (decDigits_facts r).2.2.1, (decDigits_facts c).2.2.1, by simp [hl], hl, fun t ht => ⟨by rw [hget t ht]; exact tok_itoa _, ?_⟩⟩
 have h4 := bodyT_tok c (zs.map Lib.itoa) 0 t (by simp [hl]; exact ht)
 unfold matT at h3
 simp only [List.length_append, List.length_cons] at h3
 omega
theorem fine_of_fits {r c : Nat} {zs : List Int} (h : FitsP r c zs) (hl : zs.length = r * c) : Fine r c zs := ⟨by have := h.1; omega, by have := h.2.1; omega, hl, Nat.le_trans (writes_matT h hl).2 (by decide)⟩
theorem fine_uniq {r c r' c' : Nat} {zs zs' : List Int} (h : Fine r c zs) (h' : Fine r' c' zs') (he : matT r c zs = matT r' c' zs') : r = r' ∧ c = c' ∧ ∀ i j, i < r → j < c → fz c zs i j = fz c' zs' i j := by
 have h1 := says_of_writes h.1 h.2.1 (writes_fine h)
 have h2 := says_of_writes h'.1 h'.2.1 (writes_fine h')
 rw [he] at h1
 exact rsays_uniq h1 h2
def Mats (w : World) (es : List Ent) (V : Nat → Prop) : Prop := ∀ e ∈ es, ∃ r c zs lo hi, e.2.1 = matT r c zs ∧ Fine r c zs ∧ MatAt w lo hi e.2.2 r c (fz c zs) ∧ ∀ q, V q → q < lo ∨ hi ≤ q
theorem Mats.nil (w : World) (V : Nat → Prop) : Mats w [] V := fun e he => by cases he
theorem Mats.below {w w' : World} {es : List Ent} {V : Nat → Prop} (h : Mats w es V) (hb : Below w.heap.size w w') : Mats w' es V := by
 intro e he
 obtain ⟨r, c, zs, lo, hi, h1, h2, h3, h4⟩ := h e he
 exact ⟨r, c, zs, lo, hi, h1, h2, h3.below hb, h4⟩
theorem Mats.chg {S V V' : Nat → Prop} {w w' : World} {es : List Ent} (h : Mats w es V) (hc : Chg S w w') (hS : ∀ k, S k → V k) (hV : ∀ k, V' k → V k ∨ w.heap.size ≤ k) : Mats w' es V' := by
 intro e he
 obtain ⟨r, c, zs, lo, hi, h1, h2, h3, h4⟩ := h e he
 refine ⟨r, c, zs, lo, hi, h1, h2, h3.chg hc (fun k hk => h4 k (hS k hk)), fun q hq => ?_⟩
 rcases hV q hq with h5 | h5
 ·exact h4 q h5
 ·obtain ⟨_, _, _, _, _, h6⟩ := h3
  exact .inr (by omega)
theorem Mats.sub {w : World} {es es' : List Ent} {V : Nat → Prop} (h : Mats w es V) (hs : ∀ e ∈ es', e ∈ es) : Mats w es' V := fun e he => h e (hs e he)
theorem Mats.app {w : World} {es es' : List Ent} {V : Nat → Prop} (h : Mats w es V) (h' : Mats w es' V) : Mats w (es ++ es') V := fun e he => by
 rcases List.mem_append.1 he with h1 | h1
 ·exact h e h1
 ·exact h' e h1
abbrev Hl := Nat × Nat
def hl1 (l : Hl) : Value := .slice (some ⟨l.1, 0, none⟩) l.2 l.2
def hlc (ls : List Hl) : List Value := ls.map hl1
theorem hlc_len (ls : List Hl) : (hlc ls).length = ls.length := by simp [hlc]
def Hs (w : World) (hv : Value) (ls : List Hl) (V : Nat → Prop) : Prop := RowG w 51 hv (hlc ls) ∧ (∀ g, hv.ownBlock = some g → ¬ V g) ∧ ∀ i, i < ls.length → (ls.getD i (0, 0)).2 ≤ 5 ∧ ¬ V (ls.getD i (0, 0)).1 ∧ RowG w 3 (hl1 (ls.getD i (0, 0))) (List.replicate (ls.getD i (0, 0)).2 (.int .i64 (-1 - (i : Int))))
theorem Hs.nil (w : World) (V : Nat → Prop) : Hs w (.slice none 0 0) [] V := ⟨RowG.nil _ _, fun g hg => by simp [Value.ownBlock] at hg, fun i hi => by simp at hi⟩
theorem Hs.below {w w' : World} {hv : Value} {ls : List Hl} {V : Nat → Prop} (h : Hs w hv ls V) (hb : Below w.heap.size w w') : Hs w' hv ls V :=
 ⟨h.1.below hb, h.2.1, fun i hi => ⟨(h.2.2 i hi).1, (h.2.2 i hi).2.1, (h.2.2 i hi).2.2.below hb⟩⟩
theorem hl1_own (l : Hl) (k : Nat) : (hl1 l).ownBlock = some k ↔ k = l.1 := by
 simp [hl1, Value.ownBlock, eq_comm]
theorem Hs.chg {S V V' : Nat → Prop} {w w' : World} {hv : Value} {ls : List Hl} (h : Hs w hv ls V) (hc : Chg S w w') (hS : ∀ k, S k → V k) (hV : ∀ k, V' k → V k ∨ w.heap.size ≤ k) : Hs w' hv ls V' := by
 obtain ⟨h1, h2, h3⟩ := h
 refine ⟨h1.chg hc (fun k hk hs => h2 k hk (hS k hs)), fun g hg hv' => ?_, fun i hi => ?_⟩
 ·rcases hV g hv' with h4 | h4
  ·exact h2 g hg h4
  ·have := (h1.own g hg).1; omega
 ·obtain ⟨a1, a2, a3⟩ := h3 i hi
  refine ⟨a1, fun hv' => ?_, a3.chg hc (fun k hk hs => ?_)⟩
  ·rcases hV _ hv' with h4 | h4
   ·exact a2 h4
   ·have := (a3.own _ ((hl1_own _ _).2 rfl)).1; omega
  ·rw [hl1_own] at hk
   exact a2 (hk ▸ hS k hs)
end Go.Proofs.YtfjbijpagaipnabGreatDoor
