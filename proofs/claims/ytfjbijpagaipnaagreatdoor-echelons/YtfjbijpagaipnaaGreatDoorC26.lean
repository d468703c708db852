import Derived.Test.YtfjbijpagaipnaaGreatDoorC25
import Derived.Laws.Cover3
import Derived.BigQuiet
import Derived.Deep.CutRange
import Derived.Deep.RegionWith
/- What the law's lists have to do with what the stores hold. -/
namespace Go.Proofs.YtfjbijpagaipnaaGreatDoor
open Go.RowKit R

def cnt (ms : List Hm) : Nat := (ms.filter Option.isSome).length
theorem cnt_set {ms : List Hm} {i : Nat} (hi : i < ms.length) (x : Hm) : cnt (ms.set i x) + (if (ms.getD i none).isSome then 1 else 0) = cnt ms + (if x.isSome then 1 else 0) := by
  have h1 : ms = ms.take i ++ ms[i] :: ms.drop (i + 1) := by rw [← List.drop_eq_getElem_cons hi, List.take_append_drop]
  have h2 : ms.set i x = ms.take i ++ x :: ms.drop (i + 1) := by rw [List.set_eq_take_append_cons_drop, if_pos hi]
  have h3 : ms.getD i none = ms[i] := by simp [List.getD, List.getElem?_eq_getElem hi]
  have h4 : cnt ms = cnt (ms.take i) + ((if (ms[i]).isSome then 1 else 0) + cnt (ms.drop (i + 1))) := by
    conv => lhs; rw [h1]
    unfold cnt
    rw [List.filter_append, List.length_append, List.filter_cons]
    split <;> simp <;> omega
  have h5 : cnt (ms.set i x) = cnt (ms.take i) + ((if x.isSome then 1 else 0) + cnt (ms.drop (i + 1))) := by
    rw [h2]
    unfold cnt
    rw [List.filter_append, List.length_append, List.filter_cons]
    split <;> simp <;> omega
  rw [h3, h4, h5]
  omega
theorem cnt_le (ms : List Hm) : cnt ms ≤ ms.length := List.length_filter_le _ _
theorem cnt_full {ms : List Hm} (hl : ms.length = 24) : cnt ms = 24 ↔ ∀ i, i < 24 → ms.getD i none ≠ none := by
  unfold cnt
  rw [← hl, List.length_filter_eq_length_iff]
  constructor
  · intro h i hi e
    have := h (ms[i]'hi) (List.getElem_mem _)
    rw [List.getD, List.getElem?_eq_getElem hi] at e
    simp at e
    rw [e] at this
    cases this
  · intro h x hx
    obtain ⟨i, hi, rfl⟩ := List.mem_iff_getElem.1 hx
    have := h i hi
    rw [List.getD, List.getElem?_eq_getElem hi] at this
    cases hm : ms[i] with
    | none => rw [hm] at this; simp at this
    | some y => rfl
/-- The law's list, and what is held. -/
structure Rel (es : List Ent) (ms : List Hm) (nx : Nat) : Prop where
  dst : Dst ms
  len : ms.length = 24
  old : ∀ k x, k < 24 → ms.getD k none = some x → x.1 < nx
  num : es.length = cnt ms
  has : ∀ e ∈ es, ∃ k x, k < 24 ∧ ms.getD k none = some x ∧ x.1 = e.1 ∧ e.2.1 = matT x.2.1 x.2.2.1 x.2.2.2
  all : ∀ k x, k < 24 → ms.getD k none = some x → ∃ e ∈ es, e.1 = x.1
  nodup : (es.map (fun e => e.1)).Nodup
theorem Rel.start : Rel [] (List.replicate 24 none) 0 := by
  refine ⟨?_, by simp, ?_, ?_, (fun e he => by cases he), ?_, by simp⟩
  · intro i j x y _ _ hx
    rw [rep_none] at hx; cases hx
  · intro k x _ hx
    rw [rep_none] at hx; cases hx
  · rfl
  · intro k x _ hx
    rw [rep_none] at hx; cases hx
theorem Rel.push {es : List Ent} {ms : List Hm} {nx : Nat} (h : Rel es ms nx) {i : Nat} (hi : FreeAt ms i) (r c : Nat) (zs : List Int) (p : Nat) : Rel (es ++ [(nx, matT r c zs, p)]) (ms.set i (some (nx, r, c, zs))) (nx + 1) := by
  have hil : i < ms.length := by rw [h.len]; exact hi.1
  have hg : ∀ k, (ms.set i (some (nx, r, c, zs))).getD k none = if k = i then some (nx, r, c, zs) else ms.getD k none := fun k => hm_set hil
  refine ⟨?_, by simp [h.len], ?_, ?_, ?_, ?_, ?_⟩
  · intro a b x y ha hb hx hy he
    rw [hg] at hx hy
    by_cases h1 : a = i
    · by_cases h2 : b = i
      · omega
      · rw [if_pos h1] at hx
        rw [if_neg h2] at hy
        injection hx with hx
        have := h.old b y hb hy
        rw [← hx] at he
        simp at he
        omega
    · rw [if_neg h1] at hx
      by_cases h2 : b = i
      · rw [if_pos h2] at hy
        injection hy with hy
        have := h.old a x ha hx
        rw [← hy] at he
        simp at he
        omega
      · rw [if_neg h2] at hy
        exact h.dst a b x y ha hb hx hy he
  · intro k x hk hx
    rw [hg] at hx
    by_cases h1 : k = i
    · rw [if_pos h1] at hx
      injection hx with hx
      rw [← hx]
      simp
    · rw [if_neg h1] at hx
      have := h.old k x hk hx
      omega
  · have := cnt_set hil (some (nx, r, c, zs))
    rw [hi.2.1] at this
    simp at this
    have := h.num
    simp
    omega
  · intro e he
    rcases List.mem_append.1 he with he | he
    · obtain ⟨k, x, hk, hx, h1, h2⟩ := h.has e he
      refine ⟨k, x, hk, ?_, h1, h2⟩
      rw [hg, if_neg (fun e => by rw [e, hi.2.1] at hx; cases hx)]
      exact hx
    · rw [List.mem_singleton] at he
      exact ⟨i, (nx, r, c, zs), hi.1, by rw [hg, if_pos rfl], by rw [he], by rw [he]⟩
  · intro k x hk hx
    rw [hg] at hx
    by_cases h1 : k = i
    · rw [if_pos h1] at hx
      injection hx with hx
      exact ⟨(nx, matT r c zs, p), by simp, by rw [← hx]⟩
    · rw [if_neg h1] at hx
      obtain ⟨e, he, h2⟩ := h.all k x hk hx
      exact ⟨e, by simp [he], h2⟩
  · rw [List.map_append, List.nodup_append]
    refine ⟨h.nodup, by simp, fun a ha b hb => ?_⟩
    obtain ⟨e, he, rfl⟩ := List.mem_map.1 ha
    simp at hb
    obtain ⟨k, x, hk, hx, h1, -⟩ := h.has e he
    have := h.old k x hk hx
    omega
/-- A matrix is let go. -/
theorem Rel.pop {es : List Ent} {ms : List Hm} {nx : Nat} (h : Rel es ms nx) {at_ k : Nat} {x : Nat × Nat × Nat × List Int} (ha : at_ < es.length) (hk : k < 24) (hx : ms.getD k none = some x) (he : es[at_].1 = x.1) : Rel (es.take at_ ++ es.drop (at_ + 1)) (ms.set k none) nx := by
  have hkl : k < ms.length := by rw [h.len]; exact hk
  have hg : ∀ j, (ms.set k none).getD j none = if j = k then none else ms.getD j none := fun j => hm_set hkl
  have hsplit : es = es.take at_ ++ es[at_] :: es.drop (at_ + 1) := by rw [← List.drop_eq_getElem_cons ha, List.take_append_drop]
  have hnd : ∀ e ∈ es.take at_ ++ es.drop (at_ + 1), e ∈ es ∧ e.1 ≠ x.1 := by
    intro e hm
    have hmem : e ∈ es := by
      rcases List.mem_append.1 hm with hm | hm
      · exact List.mem_of_mem_take hm
      · exact List.mem_of_mem_drop hm
    refine ⟨hmem, fun heq => ?_⟩
    have hn := h.nodup
    rw [hsplit, List.map_append, List.map_cons, List.nodup_append] at hn
    obtain ⟨-, h2, h3⟩ := hn
    rw [List.nodup_cons] at h2
    rcases List.mem_append.1 hm with hm | hm
    · exact h3 e.1 (List.mem_map.2 ⟨e, hm, rfl⟩) es[at_].1 (by simp) (by rw [heq, he])
    · exact h2.1 (List.mem_map.2 ⟨e, hm, by rw [heq, he]⟩)
  refine ⟨?_, by simp [h.len], ?_, ?_, ?_, ?_, ?_⟩
  · intro a b y z ha' hb hy hz hyz
    rw [hg] at hy hz
    by_cases h1 : a = k
    · rw [if_pos h1] at hy; cases hy
    · by_cases h2 : b = k
      · rw [if_pos h2] at hz; cases hz
      · rw [if_neg h1] at hy
        rw [if_neg h2] at hz
        exact h.dst a b y z ha' hb hy hz hyz
  · intro j y hj hy
    rw [hg] at hy
    by_cases h1 : j = k
    · rw [if_pos h1] at hy; cases hy
    · rw [if_neg h1] at hy
      exact h.old j y hj hy
  · have h1 := cnt_set hkl none
    rw [hx] at h1
    simp at h1
    have h2 := h.num
    rw [List.length_append, List.length_take, List.length_drop]
    omega
  · intro e hm
    obtain ⟨h1, h2⟩ := hnd e hm
    obtain ⟨j, y, hj, hy, h3, h4⟩ := h.has e h1
    refine ⟨j, y, hj, ?_, h3, h4⟩
    rw [hg, if_neg (fun e' => ?_)]
    · exact hy
    · rw [e', hx] at hy
      injection hy with hy
      rw [hy] at h2
      exact h2 h3.symm
  · intro j y hj hy
    rw [hg] at hy
    by_cases h1 : j = k
    · rw [if_pos h1] at hy; cases hy
    · rw [if_neg h1] at hy
      obtain ⟨e, hm, h2⟩ := h.all j y hj hy
      refine ⟨e, ?_, h2⟩
      rw [hsplit] at hm
      rcases List.mem_append.1 hm with hm | hm
      · exact List.mem_append.2 (.inl hm)
      · rcases List.mem_cons.1 hm with hm | hm
        · exfalso
          refine h1 (h.dst j k y x hj hk hy hx ?_)
          rw [← h2, hm, he]
        · exact List.mem_append.2 (.inr hm)
  · have hn := h.nodup
    rw [hsplit, List.map_append, List.map_cons, List.nodup_append] at hn
    obtain ⟨h1, h2, h3⟩ := hn
    rw [List.nodup_cons] at h2
    rw [List.map_append, List.nodup_append]
    exact ⟨h1, h2.2, fun a ha' b hb => h3 a ha' b (List.mem_cons_of_mem _ hb)⟩
/-- What turns while a script is played. -/
def Vl (W : Nat) (iv lv tv : Value) (b1 b2 : Nat) : Nat → Prop := fun q => S4 W iv lv tv q ∨ (q = b1 ∨ q = b2)
def Vh (W : Nat) (hv iv lv tv : Value) (b1 b2 : Nat) : Nat → Prop := fun q => Vl W iv lv tv b1 b2 q ∨ hv.ownBlock = some q
/-- The law's lists. -/
def LRows (B : Nat) (w : World) (W T b1 b2 nx : Nat) (es : List Ent) : Prop := ∃ hv iv lv tv, Lw w W T hv iv lv tv nx ∧ RowG w 3 iv (idc es) ∧ RowG w 130 lv (lpc es) ∧ RowG w 9 tv (txc es) ∧ (∀ k, S4 W iv lv tv k → B ≤ k) ∧ Mats w es (Vh W hv iv lv tv b1 b2) ∧ ∃ ls, Hs w hv ls (Vl W iv lv tv b1 b2) ∧ ls.length ≤ nx ∧ ∀ g, hv.ownBlock = some g → B ≤ g
theorem LRows.below {B : Nat} {w w' : World} {W T b1 b2 nx : Nat} {es : List Ent} (h : LRows B w W T b1 b2 nx es) (hb : Below w.heap.size w w') : LRows B w' W T b1 b2 nx es := by
  obtain ⟨hv, iv, lv, tv, h2, h3, h4, h5, h6, h7, ls, h8, h9⟩ := h
  exact ⟨hv, iv, lv, tv, h2.of_block (hb.block W h2.lt), h3.below hb, h4.below hb, h5.below hb, h6, h7.below hb, ls, h8.below hb, h9⟩
/-- All that the law keeps. -/
def LInv (B : Nat) (w : World) (W T b1 b2 : Nat) (ms : List Hm) (nx : Nat) (es : List Ent) : Prop := TwH B w T b1 b2 ms nx ∧ LRows B w W T b1 b2 nx es ∧ Rel es ms nx
theorem LInv.below {B : Nat} {w w' : World} {W T b1 b2 : Nat} {ms : List Hm} {nx : Nat} {es : List Ent} (h : LInv B w W T b1 b2 ms nx es) (hb : Below w.heap.size w w') : LInv B w' W T b1 b2 ms nx es := ⟨h.1.below hb, h.2.1.below hb, h.2.2⟩
theorem LInv.le24 {B : Nat} {w : World} {W T b1 b2 : Nat} {ms : List Hm} {nx : Nat} {es : List Ent} (h : LInv B w W T b1 b2 ms nx es) : es.length ≤ 24 := by
  have := cnt_le ms
  have h1 := h.2.2.num
  have h2 := h.2.2.len
  omega
set_option maxRecDepth 100000 in
set_option maxHeartbeats 1000000 in
theorem full_raw (W T nx n : Nat) (hv iv lv tv : Value) (es : List Ent) (w : World) (hn5 : n ≤ 5) (h2 : Lw w W T hv iv lv tv nx) (h3 : RowG w 3 iv (idc es)) (hle : es.length ≤ 24) :
    Calls Tryz.prog 103 #[.pointer (some ⟨W, 0, none⟩), .int .i64 n] w fun x w' => x = .returned (.bool (decide (24 < es.length + n))) ∧ w' = w := by
  obtain ⟨ioa, icap, rfl, h4, h5, -⟩ := h3.shape
  rw [idc_len] at h2 h4
  obtain ⟨-, c1, -⟩ := h2.cells
  clear h2 h3
  go_enter Tryz.func103, Tryz.ntmps103
  go_wp2_with fail
  go_ret
  exact ⟨ret_bool (by rw [decide_eq_decide]; omega), rfl⟩
end Go.Proofs.YtfjbijpagaipnaaGreatDoor

/- matriceslaw.World: typed. -/
namespace Go.Proofs.YtfjbijpagaipnaaGreatDoor
open Go.RowKit R

/-- What a step leaves. -/
def StepOut (B : Nat) (w w' : World) (W T b1 b2 nx : Nat) : Prop := (∃ ms' nx' es', LInv B w' W T b1 b2 ms' nx' es' ∧ nx' ≤ nx + 5) ∧ Below B w w'
theorem LInv.size {B : Nat} {w : World} {W T b1 b2 : Nat} {ms : List Hm} {nx : Nat} {es : List Ent} (h : LInv B w W T b1 b2 ms nx es) : B ≤ w.heap.size := by
  have := h.1.1.lt
  have := h.1.2.2.2.2.2.1
  omega
/-- The law's lists stay where the stores turn. -/
theorem LInv.stores {B : Nat} {w w' : World} {W T b1 b2 : Nat} {ms : List Hm} {nx : Nat} {es : List Ent} (h : LInv B w W T b1 b2 ms nx es) (hc : Chg (St2 b1 b2) w w') : LRows B w' W T b1 b2 nx es := by
  obtain ⟨h1, ⟨hv, iv, lv, tv, h2, h3, h4, h5, h6, hM, ls, hH, hH2⟩, h7⟩ := h
  have key : ∀ k t, Ty w k t → t ≠ 109 → ¬ St2 b1 b2 k := fun k t hk hne hs => by
    rcases hs with hs | hs
    · exact ty_ne hk h1.2.1.ty hne hs
    · exact ty_ne hk h1.2.2.1.ty hne hs
  exact ⟨hv, iv, lv, tv, h2.of_block (hc.block h2.lt (key W _ h2.ty (by decide))), h3.chg hc (fun k hk => key k _ (h3.own k hk).2 (by decide)), h4.chg hc (fun k hk => key k _ (h4.own k hk).2 (by decide)), h5.chg hc (fun k hk => key k _ (h5.own k hk).2 (by decide)), h6, hM.chg hc (fun k hk => .inl (.inr hk)) (fun k hk => .inl hk), ls, hH.chg hc (fun k hk => .inr hk) (fun k hk => .inl hk), hH2⟩
/-- One matrix more is held, and the law has it in its lists. -/
theorem held_inv {B W T b1 b2 i r c nx p : Nat} {hv iv lv tv iv' lv' tv' : Value} {ls : List Hl} {ms : List Hm} {es : List Ent} {zs : List Int} {w w' : World} (hT : TwH B w T b1 b2 (ms.set i (some (nx, r, c, zs))) (nx + 1)) (hL : Lw w W T hv iv lv tv nx) (hI : RowG w 3 iv (idc es)) (hP : RowG w 130 lv (lpc es)) (hX : RowG w 9 tv (txc es)) (hS : ∀ k, S4 W iv lv tv k → B ≤ k) (hM : Mats w es (Vh W hv iv lv tv b1 b2)) (hH : Hs w hv ls (Vl W iv lv tv b1 b2)) (hH2 : ls.length ≤ nx ∧ ∀ g, hv.ownBlock = some g → B ≤ g) (hR : Rel es ms nx) (hi : FreeAt ms i) (hf : Fine r c zs) (hB : B ≤ w.heap.size)
    (h1 : Lw w' W T hv iv' lv' tv' (nx + 1)) (h2 : RowG w' 3 iv' (idc (es ++ [(nx, matT r c zs, p)]))) (h3 : RowG w' 130 lv' (lpc (es ++ [(nx, matT r c zs, p)]))) (h4 : RowG w' 9 tv' (txc (es ++ [(nx, matT r c zs, p)])))
    (h5 : ∀ g, S4 W iv' lv' tv' g → S4 W iv lv tv g ∨ w.heap.size ≤ g) (h6 : ∃ lo hi, w.heap.size ≤ lo ∧ MatAt w' lo hi p r c (fz c zs) ∧ ∀ k, S4 W iv' lv' tv' k → k < lo ∨ hi ≤ k) (h7 : Chg (S4 W iv lv tv) w w') :
    LInv B w' W T b1 b2 (ms.set i (some (nx, r, c, zs))) (nx + 1) (es ++ [(nx, matT r c zs, p)]) ∧ Below B w w' := by
  have no : ∀ k t, Ty w k t → t ≠ 67 → t ≠ 3 → t ≠ 130 → t ≠ 9 → ¬ S4 W iv lv tv k := fun k t hk n1 n2 n3 n4 h => by
    rcases h with h | h | h | h
    · exact ty_ne hk hL.ty n1 h
    · exact ty_ne hk (hI.own k h).2 n2 rfl
    · exact ty_ne hk (hP.own k h).2 n3 rfl
    · exact ty_ne hk (hX.own k h).2 n4 rfl
  have hT5 : TwH B w' T b1 b2 (ms.set i (some (nx, r, c, zs))) (nx + 1) := hT.chg h7 (no T _ ⟨_, _, hT.1⟩ (by decide) (by decide) (by decide) (by decide)) (no b1 _ hT.2.1.ty (by decide) (by decide) (by decide) (by decide)) (no b2 _ hT.2.2.1.ty (by decide) (by decide) (by decide) (by decide)) hS
  have hb1 : b1 < w.heap.size := hT.2.1.ty.lt
  have hb2 : b2 < w.heap.size := hT.2.2.1.ty.lt
  have hVl : ∀ k, Vl W iv' lv' tv' b1 b2 k → Vl W iv lv tv b1 b2 k ∨ w.heap.size ≤ k := fun k hk => by
    rcases hk with hk | hk
    · rcases h5 k hk with h | h
      · exact .inl (.inl h)
      · exact .inr h
    · exact .inl (.inr hk)
  refine ⟨⟨hT5, ⟨hv, iv', lv', tv', h1, h2, h3, h4, fun k hk => ?_, Mats.app (hM.chg h7 (fun k hk => .inl (.inl hk)) (fun k hk => ?_)) (fun e he => ?_), ls, hH.chg h7 (fun k hk => .inl hk) hVl, by omega, hH2.2⟩, hR.push hi r c zs p⟩, h7.below hS hB⟩
  · rcases h5 k hk with h | h
    · exact hS k h
    · omega
  · rcases hk with hk | hk
    · rcases hVl k hk with h | h
      · exact .inl (.inl h)
      · exact .inr h
    · exact .inl (.inr hk)
  · rw [List.mem_singleton] at he
    subst he
    obtain ⟨lo, hi, h8, h9, h10⟩ := h6
    refine ⟨r, c, zs, lo, hi, rfl, hf, h9, fun q hq => ?_⟩
    rcases hq with (hq | hq) | hq
    · exact h10 q hq
    · rcases hq with hq | hq <;> exact .inl (by omega)
    · exact .inl (by have := (hH.1.own q hq).1; omega)
theorem St2.le {B b1 b2 : Nat} (h1 : B ≤ b1) (h2 : B ≤ b2) : ∀ k, St2 b1 b2 k → B ≤ k := fun k h => by
  rcases h with h | h <;> omega

theorem nil_cmp (a : Addr) (n cap : Nat) (w : World) : Sem.run Tryz.prog (binOp BinOp.eql 64 (Value.slice (some a) n cap) (Value.slice none 0 0)) w = Result.ok (Value.bool false) w := by
  have h := run_equal_slice_nil (P := Tryz.prog) w 64 _ (some a) n cap Tryz.underlying64
  simp [binOp, go_sem, h, Result.andThen]
set_option maxRecDepth 100000 in
set_option maxHeartbeats 4000000 in
theorem typed_any (B W T b1 b2 : Nat) (s : ByteArray) (ms : List Hm) (nx : Nat) (es : List Ent) (w : World) (h : LInv B w W T b1 b2 ms nx es) (hs : s.size ≤ 16384) (hnx : nx < 1000000) :
    Calls Tryz.prog 61 #[.pointer (some ⟨W, 0, none⟩), .string s] w fun x w' => x = .returned (.bool true) ∧ StepOut B w w' W T b1 b2 nx := by
  have hB := h.size
  have H := Hid.mk h
  obtain ⟨-, ⟨hv, iv, lv, tv, hL, -⟩, -⟩ := h
  obtain ⟨c0, -⟩ := hL.cells
  clear hL
  go_enter Tryz.func61, Tryz.ntmps61
  go_wp2_with fail
  refine (twType_any B T b1 b2 s ms nx _ H.out.1 hnx).mono ?_
  rintro x w1 ⟨hh, ee, ms1, nx1, rfl, hrel, hT1, hC1⟩
  have hbel1 : Below B w w1 := hC1.below (St2.le H.out.1.2.2.2.2.2.2.1 H.out.1.2.2.2.2.2.2.2) hB
  have hrows := H.out.stores hC1
  have K1 := Hid.mk (And.intro hT1 (And.intro hrows hbel1))
  have hw1 := hbel1.size
  clear hT1 hC1 hbel1 hrows c0
  rcases hrel with ⟨hbad, rfl, rfl, rfl, rfl⟩ | ⟨r, c, zs, hs4, hr, hc, hwr, hcase⟩
  · by_cases h4 : 4000 < s.size
    · have i4 : (4000 : Int) < (s.size : Int) := by omega
      go_wp2_with fail
      refine (read_ref s _ (by omega)).mono ?_
      rintro x w2 ⟨v, rfl, hv, hb2⟩
      have HF : Hid (StepOut B w w2 W T b1 b2 nx1) := Hid.mk ⟨⟨ms1, nx1, es, LInv.below ⟨K1.out.1, K1.out.2.1, H.out.2.2⟩ hb2, by omega⟩, K1.out.2.2.trans (hb2.mono (by omega))⟩
      clear hv hb2
      go_wp2_with fail
      go_ret
      exact ⟨rfl, HF.out⟩
    · have hno : ¬ Wr s := by
        rcases hbad with h | h
        · omega
        · exact h
      have HNO := Hid.mk hno
      have i4 : decide ((4000 : Int) < (s.size : Int)) = false := decide_eq_false (by omega)
      clear hno hbad
      go_wp2_with fail
      refine (read_none s _ (by omega) HNO.out).mono ?_
      rintro x w2 ⟨rfl, hb2⟩
      have HF : Hid (StepOut B w w2 W T b1 b2 nx1) := Hid.mk ⟨⟨ms1, nx1, es, LInv.below ⟨K1.out.1, K1.out.2.1, H.out.2.2⟩ hb2, by omega⟩, K1.out.2.2.trans (hb2.mono (by omega))⟩
      clear hb2
      go_wp2_with fail
      go_ret
      exact ⟨rfl, HF.out⟩
  · have HW := Hid.mk hwr
    have i4 : decide ((4000 : Int) < (s.size : Int)) = false := decide_eq_false (by omega)
    have HCS := Hid.mk hcase
    clear hwr hcase
    go_wp2_with fail
    refine (read_yes s r c zs 4000 _ (by omega) hr hc HW.out).mono ?_
    rintro x w2 ⟨p, gs, rfl, hIR, hb2⟩
    have K2 := Hid.mk (And.intro hIR hb2)
    have hw2 := hb2.size
    clear hIR hb2
    go_wp2_with fail
    refine (big_any p r c gs _ w1.heap.size 40000000001 _ K2.out.1 (by omega) hr hc).mono ?_
    rintro x w3 ⟨bg, rfl, hbg, hb3⟩
    have hb13 : Below w1.heap.size w1 w3 := K2.out.2.trans (hb3.mono hw2)
    obtain ⟨hv1, iv1, lv1, tv1, hL1, hI1, hP1, hX1, hS1, hM1, ls1, hH1, hHB1⟩ := K1.out.2.1
    have hM3 := hM1.below hb13
    have KH := Hid.mk (And.intro (hH1.below hb13) hHB1)
    clear hH1 hHB1
    have hL3 := hL1.of_block (hb13.block W hL1.lt)
    have hI3 := hI1.below hb13
    have hP3 := hP1.below hb13
    have hX3 := hX1.below hb13
    have hlt : ∀ k, S4 W iv1 lv1 tv1 k → k < w1.heap.size := fun k hk => by
      rcases hk with hk | hk | hk | hk
      · rw [hk]; exact hL1.lt
      · exact (hI1.own k hk).1
      · exact (hP1.own k hk).1
      · exact (hX1.own k hk).1
    have hIR3 := K2.out.1.keep (KR.of_below hb3)
    have hbg' : bg = true ↔ ¬ FitsP r c zs := by rw [← big_fits]; exact hbg
    have K3 := Hid.mk (And.intro hb13 (And.intro hL3 (And.intro hI3 (And.intro hP3 (And.intro hX3 (And.intro hlt (And.intro hIR3 (And.intro hS1 (And.intro hM3 hbg')))))))))
    have hw3 := hb13.size
    have hle := H.out.le24
    have hnum := H.out.2.2.num
    have hcf := cnt_full H.out.2.2.len
    have HCF := Hid.mk (And.intro hnum hcf)
    clear hb3 hb13 hL1 hI1 hP1 hX1 hL3 hI3 hP3 hX3 hlt hIR3 hbg hbg' hS1 hM1 hM3 hnum hcf
    go_wp2_with fail
    refine (full_raw W T nx 1 _ _ _ _ es _ (by omega) K3.out.2.1 K3.out.2.2.1 hle).mono ?_
    rintro x w' ⟨rfl, rfl⟩
    have HF0 : Hid (ms1 = ms → nx1 = nx → StepOut B w w' W T b1 b2 nx) := Hid.mk (fun e1 e2 => by
      subst e1; subst e2
      exact ⟨⟨ms1, nx1, es, LInv.below ⟨K1.out.1, K1.out.2.1, H.out.2.2⟩ K3.out.1, by omega⟩, K1.out.2.2.trans (K3.out.1.mono (by omega))⟩)
    rcases HCS.out with ⟨hnf, rfl, rfl, e1, e2⟩ | ⟨hfit, hroom, rfl, rfl, e1, e2⟩ | ⟨hfit, rfl, rfl, i, hi, e1, e2⟩
    · have hbt : bg = true := K3.out.2.2.2.2.2.2.2.2.2.2 hnf
      subst hbt
      have HF := Hid.mk (HF0.out e1 e2)
      clear e1 e2 hnf
      go_wp2_with fail
      go_ret
      exact ⟨rfl, HF.out⟩
    · have hbt : bg = false := by
        cases bg
        · rfl
        · exact absurd hfit (K3.out.2.2.2.2.2.2.2.2.2.1 rfl)
      subst hbt
      have hfl : decide (24 < es.length + 1) = true := decide_eq_true (by have h1 := HCF.out.1; have h2 := HCF.out.2.2 hroom; omega)
      rw [hfl]
      have HF := Hid.mk (HF0.out e1 e2)
      clear e1 e2 hfit hroom hfl
      go_wp2_with fail
      go_ret
      exact ⟨rfl, HF.out⟩
    · have hbt : bg = false := by
        cases bg
        · rfl
        · exact absurd hfit (K3.out.2.2.2.2.2.2.2.2.2.1 rfl)
      subst hbt
      have hne24 : es.length ≠ 24 := fun h => absurd hi.2.1 ((HCF.out.2.1 (by rw [← HCF.out.1]; exact h)) i hi.1)
      have hfl : decide (24 < es.length + 1) = false := decide_eq_false (by omega)
      rw [hfl]
      have HD := Hid.mk (And.intro hfit (And.intro hi (And.intro e1 e2)))
      clear hfit hi e1 e2 hfl HF0
      go_wp2_with fail
      have hmi : (ms.set i (some (nx, r, c, zs))).getD i none = some (nx, r, c, zs) := by rw [hm_set (by rw [H.out.2.2.len]; exact HD.out.2.1.1), if_pos rfl]
      have hbX : Below w'.heap.size w' (w'.alloc (.cells #[.int .i64 (nx : Nat)] 3)) := (Below.refl _ _).alloc (Nat.le_refl _) _
      have hTX : TwH B (w'.alloc (.cells #[.int .i64 (nx : Nat)] 3)) T b1 b2 (ms.set i (some (nx, r, c, zs))) (nx + 1) := by
        have := (K1.out.1.below K3.out.1).below hbX
        rw [HD.out.2.2.1, HD.out.2.2.2] at this
        exact this
      have hpush := H.out.2.2.push HD.out.2.1 r c zs
      have hzl : zs.length = r * c := by
        obtain ⟨_, _, _, _, _, _, _, _, _, h7, _⟩ := HW.out
        exact h7
      have hLX := K3.out.2.1.of_block (hbX.block W K3.out.2.1.lt)
      have hIX := K3.out.2.2.1.below hbX
      have hPX := K3.out.2.2.2.1.below hbX
      have hXX := K3.out.2.2.2.2.1.below hbX
      refine (held_one B W T b1 b2 w'.heap.size i r c nx (nx + 1) iv1 lv1 tv1 (ms.set i (some (nx, r, c, zs))) es zs _ hTX hLX hIX hPX hXX K3.out.2.2.2.2.2.2.2.1 (by omega) HD.out.2.1.1 hmi (hpush 0).dst (fine_of_fits HD.out.1 hzl) hle (heap_alloc_new w' _) (fun e => by have := K3.out.2.2.2.2.2.1 _ e; omega)).mono ?_
      rintro x w5 ⟨ov, rfl, p', iv', lv', tv', og, ocap, rfl, o1, o2, ocell, hL5, hI5, hP5, hX5, ow, hmat, hC5⟩
      have hsX : (w'.alloc (.cells #[.int .i64 (nx : Nat)] 3)).heap.size = w'.heap.size + 1 := by simp
      have hw5 : w'.heap.size + 1 ≤ w5.heap.size := by rw [← hsX]; exact hC5.size
      have hIRm : IsR w1.heap.size w5 p r c gs (fun i j => zs.getD (i * c + j) 0) 40000000001 := isR_up (K3.out.2.2.2.2.2.2.1.keep (KR.of_below hbX)) (hC5.up K3.out.2.2.2.2.2.1)
      obtain ⟨lo5, hi5, -, hmt, -⟩ := id hmat
      obtain ⟨gs', hIR5⟩ := hmt.isR
      obtain ⟨hinv, hbB⟩ := held_inv hTX hLX hIX hPX hXX K3.out.2.2.2.2.2.2.2.1 (K3.out.2.2.2.2.2.2.2.2.1.below hbX) (KH.out.1.below hbX) KH.out.2 H.out.2.2 HD.out.2.1 (fine_of_fits HD.out.1 hzl) (by rw [hsX]; omega) hL5 hI5 hP5 hX5 ow hmat hC5
      have hB5 : Below B w w5 := (K1.out.2.2.trans (K3.out.1.mono (by omega))).trans ((hbX.mono (by omega)).trans hbB)
      have K5 := Hid.mk (And.intro hIR5 (And.intro hIRm (And.intro hinv hB5)))
      clear hL5 hI5 hP5 hX5 ow hIR5 hC5 hIRm hinv hB5 hbB hmat hmt hmi hbX hTX hpush hsX hzl hLX hIX hPX hXX
      have hnil := nil_cmp ⟨og, 0, none⟩ 1 ocap
      go_wp2_with fail
      refine (same_yes p' r c gs' _ _ p gs _ w1.heap.size 40000000001 _ K5.out.1 K5.out.2.1 (fun _ _ _ _ => rfl) (by omega) hr hc).mono ?_
      rintro x w6 ⟨rfl, hb6⟩
      have HF : Hid (StepOut B w w6 W T b1 b2 nx) := Hid.mk ⟨⟨_, _, _, K5.out.2.2.1.below hb6, by omega⟩, K5.out.2.2.2.trans (hb6.mono (by have := K5.out.2.2.2.size; omega))⟩
      clear hb6
      go_wp2_with fail
      go_ret
      exact ⟨rfl, HF.out⟩
end Go.Proofs.YtfjbijpagaipnaaGreatDoor

/- matriceslaw: looks, ends, handle, pick. -/
namespace Go.Proofs.YtfjbijpagaipnaaGreatDoor
open Go.RowKit R

/-- How a kept matrix is shown. -/
theorem Rel.shown {es : List Ent} {ms : List Hm} {nx : Nat} (h : Rel es ms nx) {i : Nat} (hi : i < es.length) : ShowOut ms ((es[i].1 : Nat) : Int) es[i].2.1 0 := by
  obtain ⟨k, x, hk, hx, h1, h2⟩ := h.has es[i] (List.getElem_mem hi)
  exact .inl ⟨rfl, k, x, hk, hx, by omega, h2⟩
theorem idc_at (es : List Ent) (i : Nat) (hi : i < es.length) : (idc es)[i]? = some (.int .i64 ((es[i].1 : Nat) : Int)) := by simp [idc, hi]
theorem txc_at (es : List Ent) (i : Nat) (hi : i < es.length) : (txc es)[i]? = some (.string ⟨es[i].2.1.toArray⟩) := by simp [txc, hi]
theorem LInv.cells {B : Nat} {w : World} {W T b1 b2 : Nat} {ms : List Hm} {nx : Nat} {es : List Ent} (h : LInv B w W T b1 b2 ms nx es) : ∃ ioa icap lv toa tcap, w.cell? ⟨W, 0, none⟩ = some (.pointer (some ⟨T, 0, none⟩)) ∧ w.cell? ⟨W, 1, none⟩ = some (.slice ioa es.length icap) ∧ w.cell? ⟨W, 2, none⟩ = some lv ∧ w.cell? ⟨W, 3, none⟩ = some (.slice toa es.length tcap) ∧
    es.length ≤ icap ∧ icap ≤ 9223372036854775807 ∧ es.length ≤ tcap ∧ tcap ≤ 9223372036854775807 ∧ (∀ i (hi : i < es.length), (∃ g, ioa = some ⟨g, 0, none⟩ ∧ w.cell? ⟨g, i, none⟩ = some (.int .i64 ((es[i].1 : Nat) : Int))) ∧ (∃ g, toa = some ⟨g, 0, none⟩ ∧ w.cell? ⟨g, i, none⟩ = some (.string ⟨es[i].2.1.toArray⟩))) := by
  obtain ⟨-, ⟨hv, iv, lv, tv, h2, h3, h4, h5, -⟩, -⟩ := h
  obtain ⟨ioa, icap, rfl, a1, a2, -, a3⟩ := h3.shape
  obtain ⟨toa, tcap, rfl, d1, d2, -, d3⟩ := h5.shape
  rw [idc_len] at a1 a3 h2
  rw [txc_len] at d1 d3 h2
  obtain ⟨c0, c1, c2, c3, c4, c5, -⟩ := h2.cells
  refine ⟨ioa, icap, lv, toa, tcap, c0, c1, c2, c3, a1, a2, d1, d2, fun i hi => ⟨?_, ?_⟩⟩
  · obtain ⟨g, e1, e2⟩ := a3 i hi
    exact ⟨g, e1, by rw [e2, idc_at es i hi]⟩
  · obtain ⟨g, e1, e2⟩ := d3 i hi
    exact ⟨g, e1, by rw [e2, txc_at es i hi]⟩

theorem LInv.hcells {B : Nat} {w : World} {W T b1 b2 : Nat} {ms : List Hm} {nx : Nat} {es : List Ent} (h : LInv B w W T b1 b2 ms nx es) : ∃ (ls : List Hl) (ho : Option Addr) (hcap : Nat), w.cell? ⟨W, 5, none⟩ = some (.slice ho ls.length hcap) ∧ ls.length ≤ hcap ∧ hcap ≤ 9223372036854775807 ∧ ls.length ≤ nx ∧ nx ≤ 1000000 ∧
    ∀ i, i < ls.length → ∃ g b n, ho = some ⟨g, 0, none⟩ ∧ w.cell? ⟨g, i, none⟩ = some (.slice (some ⟨b, 0, none⟩) n n) ∧ n ≤ 5 ∧ ∀ j, j < n → w.cell? ⟨b, j, none⟩ = some (.int .i64 (-1 - (i : Int))) := by
  obtain ⟨hT, ⟨hv, iv, lv, tv, h2, -, -, -, -, -, ls, ⟨h3, -, h4⟩, h5, -⟩, -⟩ := h
  obtain ⟨ho, hcap, rfl, a1, a2, -, a3⟩ := h3.shape
  rw [hlc_len] at a1 a3 h2
  obtain ⟨-, -, -, -, -, c5, -⟩ := h2.cells
  refine ⟨ls, ho, hcap, c5, a1, a2, h5, hT.2.1.2.1, fun i hi => ?_⟩
  obtain ⟨g, rfl, e1⟩ := a3 i hi
  obtain ⟨d1, -, d3⟩ := h4 i hi
  have hg : (hlc ls)[i]? = some (hl1 (ls.getD i (0, 0))) := by simp [hlc, List.getD, hi]
  obtain ⟨ao, cap, hs, -, -, -, d4⟩ := d3.shape
  simp only [hl1, Value.slice.injEq, List.length_replicate] at hs
  obtain ⟨rfl, -⟩ := hs
  refine ⟨g, _, _, rfl, by rw [e1, hg]; rfl, d1, fun j hj => ?_⟩
  obtain ⟨g', e2, e3⟩ := d4 j (by simpa using hj)
  simp only [Option.some.injEq, Addr.mk.injEq] at e2
  rw [e2.1, e3, List.getElem?_replicate, if_pos hj]
set_option maxRecDepth 100000 in
set_option maxHeartbeats 4000000 in
theorem looks_any (B W T b1 b2 : Nat) (ms : List Hm) (nx : Nat) (es : List Ent) (w : World) (h : LInv B w W T b1 b2 ms nx es) :
    Calls Tryz.prog 36 #[.pointer (some ⟨W, 0, none⟩)] w fun x w' => x = .returned (.bool true) ∧ Below w.heap.size w w' := by
  have hle := h.le24
  have H := Hid.mk h
  obtain ⟨ioa, icap, lv, toa, tcap, c0, c1, c2, c3, -⟩ := h.cells
  obtain ⟨ls, ho, hcap, c5, f1, f2, f3, f4, f5⟩ := h.hcells
  have HLS := Hid.mk f5
  clear h f5
  go_enter Tryz.func36, Tryz.ntmps36
  go_wp2_with fail
  go_loopw [3] (fun i wr => ∃ k : Nat, k ≤ ls.length ∧ i = .int .i64 k ∧ Below w.heap.size w wr) (fun i _ => ls.length - (intOf i).toNat)
  case atStart => exact ⟨0, Nat.zero_le _, rfl, Below.refl _ _⟩
  case round =>
    obtain ⟨k0, hk0, rfl, hbel0⟩ := hrel
    have e5 := cell_later hbel0 c5
    have HB0 := Hid.mk hbel0
    have hw0 := hbel0.size
    clear c0 c1 c2 c3 c5
    by_cases hkl0 : k0 < ls.length
    · obtain ⟨g, b, n, rfl, d1, hn5, d2⟩ := HLS.out k0 hkl0
      have d1' := cell_later hbel0 d1
      have HD := Hid.mk (And.intro d1 d2)
      clear d1 d2 hbel0
      go_wp2_with fail
      go_loopw [4] (fun j ws => ∃ m : Nat, m ≤ n ∧ j = .int .i64 m ∧ Below wr.heap.size wr ws) (fun j _ => n - (intOf j).toNat)
      case atStart => exact ⟨0, Nat.zero_le _, rfl, Below.refl _ _⟩
      case round =>
        rename World => ws
        obtain ⟨m, hm, rfl, hbel⟩ := hrel
        have e6 := cell_later hbel e5
        have d3 := cell_later hbel d1'
        have K := Hid.mk hbel
        clear e5 d1'
        by_cases hmn : m < n
        · have d4 := cell_later (HB0.out.trans (hbel.mono hw0)) (HD.out.2 m hmn)
          clear hbel
          go_wp2_with fail
          go_roundw
          case measure => simp [intOf]; omega
          case rel => exact ⟨m + 1, by omega, by go_num, K.out⟩
        · clear hbel
          go_wp2_with fail
          go_roundw
          case measure => simp [intOf]; omega
          case rel => exact ⟨k0 + 1, by omega, by go_num, HB0.out.trans (K.out.mono hw0)⟩
    clear hbel0
    replace H := Hid.mk (H.out.below HB0.out)
    go_wp2_with fail
    go_loopw [5] (fun i ws => ∃ k : Nat, k ≤ es.length ∧ i = .int .i64 k ∧ Below wr.heap.size wr ws) (fun i _ => es.length - (intOf i).toNat)
    case atStart => exact ⟨0, Nat.zero_le _, rfl, Below.refl _ _⟩
    case round =>
      rename World => ws
      obtain ⟨k, hk, rfl, hbel⟩ := hrel
      have hI := H.out.below hbel
      obtain ⟨ioa, icap, lv, toa, tcap, c0, c1, c2, c3, a1, a2, d1, d2, a3⟩ := hI.cells
      have K := Hid.mk (And.intro hI hbel)
      have hws := hbel.size
      clear hI hbel
      by_cases hkl : k < es.length
      · obtain ⟨⟨gi, rfl, e1⟩, ⟨gt, rfl, e2⟩⟩ := a3 k hkl
        obtain ⟨hd, hhd⟩ : ∃ hd, hd = es[k].1 := ⟨_, rfl⟩
        obtain ⟨ST, hST⟩ : ∃ ST : ByteArray, ST = ⟨es[k].2.1.toArray⟩ := ⟨_, rfl⟩
        have hsh := K.out.1.2.2.shown hkl
        rw [← hhd] at e1 hsh
        rw [← hST] at e2
        have HSH := Hid.mk (And.intro hsh hST)
        clear a3 hsh hhd hST
        have istr : (ST.toList == ST.toList) = true := by simp
        go_upto_region 12 with fail
        go_cut [6, 7] from 51 to 65 (fun tt e wx => tt = .string ST ∧ e = .int .i64 0 ∧ Below ws.heap.size ws wx)
        case first =>
          have hki : (k : Int) < (es.length : Int) := by omega
          go_region_with (go_at_call 72; go_must (refine (twShow_any B T b1 b2 hd ms nx _ (K.out.1.1.below ((Below.refl _ _).drew))).mono ?_; rintro x w1 ⟨tt, e, rfl, hs, hb⟩; obtain ⟨rfl, rfl⟩ := show_uniq K.out.1.2.2.dst hs HSH.out.1))
          all_goals
            go_wp2_with fail
            go_meet
            case rel => exact ⟨by rw [HSH.out.2], rfl, ((Below.refl _ _).drew).trans hb⟩
        case rest =>
          obtain ⟨rfl, rfl, hbc⟩ := hcut
          have hI := K.out.1.below hbc
          have g3 : wc.cell? ⟨W, 3, none⟩ = some (.slice (some ⟨gt, 0, none⟩) es.length tcap) := cell_later hbc c3
          have g4 : wc.cell? ⟨gt, k, none⟩ = some (.string ST) := cell_later hbc e2
          have K2 := Hid.mk (K.out.2.trans (hbc.mono hws))
          have hki : (k : Int) < (es.length : Int) := by omega
          clear hI hbc c0 c1 c2 c3 e1 e2
          go_wp2_with fail
          go_roundw
          case measure => simp [intOf]; omega
          case rel => exact ⟨k + 1, by omega, by go_num, K2.out⟩
      · clear a3
        go_wp2_with fail
        go_ret
        exact ⟨rfl, HB0.out.trans (K.out.2.mono hw0)⟩
end Go.Proofs.YtfjbijpagaipnaaGreatDoor
