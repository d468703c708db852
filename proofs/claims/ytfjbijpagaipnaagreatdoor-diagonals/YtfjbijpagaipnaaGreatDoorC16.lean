import Derived.Test.YtfjbijpagaipnaaGreatDoorC15
import Derived.Deep.RegionLaw
import Derived.Deep.CutRange
namespace Go.Proofs.YtfjbijpagaipnaaGreatDoor.R
open Go.RowKit
theorem step_append_own {P : Program} {ops : Array Oper} {o : Oper} {a : Act} {w : World} {K : Act → World → Prop} {Q : Exit → Act → World → Prop} {E : Prop}
 (hg : o.guard = none) (s x : Operand) (t : TypeId) (hop : o.op = Op.call { callee := Callee.builtin Builtin.append, args := #[s, x], argTypes := #[t, t] })
 (base : Nat) (e : TypeId) (i : TypeInfo) (z : Value) (size bytes : Nat) (h1 : P.underlying t = some (.slice e)) (h2 : P.info? e = some i) (h3 : i.zero = some z) (h4 : i.size = size) (h5 : i.bytes = bytes) (h6 : z.cells.size = size) (h7 : 0 < size)
 (v : Value) (n : Nat) (xs : List Value) (hs : a.eval s = v) (hown : w.ownsRow base e size v n xs)
 (ad : Addr) (m c : Nat) (news : List Value) (hx : a.eval x = .slice (some ad) m c) (hn : news.length = m * size) (hc : ∀ j u, news[j]? = some u → w.cell? (ad.add j) = some u) (h1c : ∀ u ∈ news, u.oneCell' = true)
 (b1 : n + m ≤ maxLen) (b2 : (n + m) * bytes ≤ 140737488355328) (b3 : base ≤ w.heap.size)
 (hK : ∀ v' w', w'.ownsRow base e size v' (n + m) (xs ++ news) → w.grownBy w' v.ownBlock → K (a.put o.dst v') w') :
 if Region.wanted o (yielded ops a.tmps) = true then Oper.wp P o a w K Q else E := by
 have hw : Region.wanted o (yielded ops a.tmps) = true := by simp [Region.wanted, hg]
 rw [if_pos hw]
 obtain ⟨v', w', hrun, r1, r2, _⟩ := run_append_own (P := P) w base t o.type e i z size bytes h1 h2 h3 h4 h5 h6 h7 v n xs hown ad m c news hn hc h1c b1 b2 b3
 unfold Oper.wp
 simp [execOp, hop, resolve, invoke, builtin, hs, hx, hrun, Result.andThen]
 exact hK v' w' r1 r2
def RRow (B : Nat) (w : World) (g c : Nat) (f : Nat → Int) (L : Nat) : Prop := ∃ cs : Array Value, w.heap[g]? = some (.cells cs 138 (0, 0)) ∧ cs.size = 2 * c ∧ ∀ j, j < c → ∃ a b, cs[2 * j]? = some a ∧ cs[2 * j + 1]? = some b ∧ IsN w (.agg #[a, b]) (f j) L ∧ AtB B (.agg #[a, b])
def nrows (n c : Nat) (gs : Nat → Nat) : List Value := (List.range n).map fun i => Value.slice (some ⟨gs i, 0, none⟩) c c
def RRows (B : Nat) (w : World) (v : Value) (n c : Nat) (gs : Nat → Nat) (f : Nat → Nat → Int) (L : Nat) : Prop := w.ownsRow B 174 1 v n (nrows n c gs) ∧ (∀ i, i < n → B ≤ gs i ∧ RRow B w (gs i) c (f i) L) ∧ (∀ i j, i < j → j < n → gs i < gs j)
def IsR (B : Nat) (w : World) (b r c : Nat) (gs : Nat → Nat) (f : Nat → Nat → Int) (L : Nat) : Prop := B ≤ b ∧ ∃ v, w.heap[b]? = some (.cells #[.int .i64 r, .int .i64 c, v] 145 (0, 0)) ∧ RRows B w v r c gs f L
def KR (w w' : World) : Prop := ∀ (i : Nat) (arr : Array Value) (t : TypeId), (t = 3 ∨ t = 138 ∨ t = 174 ∨ t = 145) → w.heap[i]? = some (.cells arr t (0, 0)) → w'.heap[i]? = some (.cells arr t (0, 0))
theorem KR.of_below {w w' : World} (h : Below w.heap.size w w') : KR w w' := fun i arr t _ h0 => by rw [h.block i (Array.getElem?_eq_some_iff.1 h0).1]; exact h0
def KQ (w w' : World) : Prop := ∀ (i : Nat) (arr : Array Value) (t : TypeId), (t = 3 ∨ t = 138 ∨ t = 174) → w.heap[i]? = some (.cells arr t (0, 0)) → w'.heap[i]? = some (.cells arr t (0, 0))
theorem KR.kq {w w' : World} (h : KR w w') : KQ w w' := fun i arr t ht h0 => h i arr t (by rcases ht with h | h | h; exact .inl h; exact .inr (.inl h); exact .inr (.inr (.inl h))) h0
theorem KQ.ki {w w' : World} (h : KQ w w') : KI w w' := fun i arr h0 => h i arr _ (.inl rfl) h0
theorem KQ.setCell {w : World} {b o : Nat} {t : TypeId} (ht : Ty w b t) (h1 : t ≠ 3 ∧ t ≠ 138 ∧ t ≠ 174) (u : Value) : KQ w (w.setCell ⟨b, o, none⟩ u) := by
 intro i arr s hs h0
 rw [Below.heap_setCell _ _ _ _ ?_]
 ·exact h0
 ·intro e
  have e' : i = b := by simpa using e
  subst e'
  obtain ⟨c, fr, h3⟩ := ht
  rw [h0] at h3
  simp only [Option.some.injEq, Obj.cells.injEq] at h3
  rcases hs with rfl | rfl | rfl
  ·exact h1.1 h3.2.1.symm
  ·exact h1.2.1 h3.2.1.symm
  ·exact h1.2.2 h3.2.1.symm
theorem RRow.keep {B : Nat} {w w' : World} {g c : Nat} {f : Nat → Int} {L : Nat} (h : RRow B w g c f L) (hk : KQ w w') : RRow B w' g c f L := by
 obtain ⟨cs, h1, h2, h3⟩ := h
 refine ⟨cs, hk g cs _ (.inr (.inl rfl)) h1, h2, fun j hj => ?_⟩
 obtain ⟨a, b, e1, e2, e3, e4⟩ := h3 j hj
 exact ⟨a, b, e1, e2, e3.keep hk.ki, e4⟩
theorem RRow.lt {B : Nat} {w : World} {g c : Nat} {f : Nat → Int} {L : Nat} (h : RRow B w g c f L) : g < w.heap.size := by
 obtain ⟨cs, h1, -⟩ := h
 exact (Array.getElem?_eq_some_iff.1 h1).1
theorem RRows.keep {B : Nat} {w w' : World} {v : Value} {n c : Nat} {gs : Nat → Nat} {f : Nat → Nat → Int} {L : Nat} (h : RRows B w v n c gs f L) (hk : KQ w w') : RRows B w' v n c gs f L := by
 refine ⟨⟨h.1.1, ?_⟩, fun i hi => ⟨(h.2.1 i hi).1, (h.2.1 i hi).2.keep hk⟩, h.2.2⟩
 rcases h.1.2 with h2 | ⟨g, cap, cur, hv, hg, hh, r⟩
 ·exact .inl h2
 ·exact .inr ⟨g, cap, cur, hv, hg, hk g cur _ (.inr (.inr rfl)) hh, r⟩
theorem IsR.keep {B : Nat} {w w' : World} {b r c : Nat} {gs : Nat → Nat} {f : Nat → Nat → Int} {L : Nat} (h : IsR B w b r c gs f L) (hk : KR w w') : IsR B w' b r c gs f L := by
 obtain ⟨h0, v, h1, h2⟩ := h
 exact ⟨h0, v, hk b _ _ (.inr (.inr (.inr rfl))) h1, h2.keep hk.kq⟩
theorem RRows.nil (B : Nat) (w : World) (c : Nat) (gs : Nat → Nat) (f : Nat → Nat → Int) (L : Nat) : RRows B w (.slice none 0 0) 0 c gs f L := ⟨World.ownsRow_nil _ _ _ _, fun i hi => by omega, fun i j _ hj => by omega⟩
theorem RRows.shape {B : Nat} {w : World} {v : Value} {n c : Nat} {gs : Nat → Nat} {f : Nat → Nat → Int} {L : Nat} (h : RRows B w v n c gs f L) : ∃ ao cap, v = .slice ao n cap ∧ n ≤ cap ∧ cap ≤ 9223372036854775807 ∧ (∀ i, i < n → ∃ g, ao = some ⟨g, 0, none⟩ ∧ w.cell? ⟨g, i, none⟩ = some (.slice (some ⟨gs i, 0, none⟩) c c)) := by
 rcases h.1.2 with ⟨rfl, hn⟩ | ⟨g, cap, cur, rfl, hg, hh, h1, h3, h4, h5⟩
 ·subst hn; exact ⟨none, 0, rfl, Nat.le_refl _, by omega, fun i hi => by omega⟩
 ·refine ⟨_, cap, rfl, h1, by simpa [maxLen] using h3, fun i hi => ⟨g, rfl, ?_⟩⟩
  rw [World.ownsRow.cellAt h.1 i (by omega)]
  simp [nrows, hi]
theorem nrows_snoc (n c : Nat) (gs : Nat → Nat) (g : Nat) : nrows n c gs ++ [Value.slice (some ⟨g, 0, none⟩) c c] = nrows (n + 1) c (fun i => if i = n then g else gs i) := by
 unfold nrows
 rw [List.range_succ, List.map_append, List.map_singleton]
 simp only [if_true]
 congr 1
 apply List.map_congr_left
 intro i hi
 have := List.mem_range.1 hi
 rw [if_neg (by omega)]
theorem Tryz.info138 : (Tryz.prog.info? 138).map (fun i => (i.zero, i.size, i.bytes)) = some (some (.agg #[.bool false, .slice none 0 0]), 2, 32) := by kernel_rfl
theorem Tryz.info174 : (Tryz.prog.info? 174).map (fun i => (i.zero, i.size, i.bytes)) = some (some (.slice none 0 0), 1, 24) := by kernel_rfl
def zrow (c : Nat) : Array Value := madeCells #[Value.bool false, .slice none 0 0] (c * 2)
theorem make_zrow (c : Nat) (hc : c ≤ 1000000) (w : World) : (Instr.makeSlice 174 (.int .i64 (c : Int)) (.int .i64 (c : Int))).run Tryz.prog w = .ok (.slice (some ⟨w.heap.size, 0, none⟩) c c) (w.alloc (.cells (zrow c) 138)) := by
 obtain ⟨i, hi, hz0, hz1, hz2⟩ := info_parts Tryz.info138
 have hr := run_make (P := Tryz.prog) w 174 138 i (.agg #[.bool false, .slice none 0 0]) Tryz.underlying174 hi hz0 .i64 .i64 c c (by omega) (Int.le_refl _) (by rw [hz2]; omega) (by omega)
 simp only [Int.toNat_natCast, hz1] at hr
 exact hr
theorem zrow_is (B : Nat) (w : World) (g c : Nat) (L : Nat) (h : w.heap[g]? = some (.cells (zrow c) 138 (0, 0))) : RRow B w g c (fun _ => 0) L := by
 refine ⟨zrow c, h, by simp [zrow, size_madeCells]; omega, fun j hj => ⟨.bool false, .slice none 0 0, ?_, ?_, ⟨false, _, [], rfl, Own.nil _, ⟨Lo_nil, .inl rfl⟩, by simp, by simp [val], by simp⟩, AtB.none _ _ _ _⟩⟩
 ·simp [zrow, madeCells, show 2 * j < c * 2 from by omega, show 2 * j % 2 = 0 from by omega]
 ·simp [zrow, madeCells, show 2 * j + 1 < c * 2 from by omega, show (2 * j + 1) % 2 = 1 from by omega]
open Go.RowKit
def MakR (w : World) (b r c n : Nat) (v : Value) (B : Nat) (gs : Nat → Nat) (f : Nat → Nat → Int) (L : Nat) : Prop := w.heap[b]? = some (.cells #[.int .i64 r, .int .i64 c, v] 145 (0, 0)) ∧ RRows B w v n c gs f L
theorem MakR.cells {w : World} {b r c n : Nat} {v : Value} {B : Nat} {gs : Nat → Nat} {f : Nat → Nat → Int} {L : Nat} (h : MakR w b r c n v B gs f L) : w.cell? ⟨b, 0, none⟩ = some (.int .i64 r) ∧ w.cell? ⟨b, 1, none⟩ = some (.int .i64 c) ∧ w.cell? ⟨b, 2, none⟩ = some v ∧ (∀ j, w.frozen? ⟨b, j, none⟩ = false) := by
 have h1 := h.1
 refine ⟨?_, ?_, ?_, fun j => ?_⟩ <;> simp [World.cell?, World.frozen?, h1]
theorem MakR.lt {w : World} {b r c n : Nat} {v : Value} {B : Nat} {gs : Nat → Nat} {f : Nat → Nat → Int} {L : Nat} (h : MakR w b r c n v B gs f L) : b < w.heap.size := (Array.getElem?_eq_some_iff.1 h.1).1
def RowMore (W : World) (b r c n : Nat) (v : Value) (B : Nat) (L : Nat) (v' : Value) (w' : World) : Prop := W.grownBy w' v.ownBlock ∧ w'.heap[b]? = some (.cells #[.int .i64 r, .int .i64 c, v] 145 (0, 0)) ∧ ∃ gs, RRows B w' v' (n + 1) c gs (fun _ _ => 0) L
theorem rows_own {B : Nat} {w : World} {v : Value} {n c : Nat} {gs : Nat → Nat} {f : Nat → Nat → Int} {L : Nat} (h : RRows B w v n c gs f L) : ∀ k, v.ownBlock = some k → B ≤ k ∧ Ty w k 174 := by
 intro k hk
 rcases h.1.2 with ⟨rfl, _⟩ | ⟨g, cap, cur, rfl, hg, hh, r⟩
 ·simp [Value.ownBlock] at hk
 ·simp [Value.ownBlock] at hk
  subst hk
  exact ⟨hg, _, _, hh⟩
theorem ty_block {w : World} {b : Nat} {t u : TypeId} {arr : Array Value} (h : w.heap[b]? = some (.cells arr u (0, 0))) (ht : Ty w b t) : u = t := by
 obtain ⟨c, fr, h3⟩ := ht
 rw [h] at h3
 simp only [Option.some.injEq, Obj.cells.injEq] at h3
 exact h3.2.1
theorem row_more {W X w' : World} {b r c n B L g : Nat} {v v' : Value} {gs : Nat → Nat} (h : MakR W b r c n v B gs (fun _ _ => 0) L) (hX : Below W.heap.size W X) (hg : W.heap.size ≤ g) (hrow : X.heap[g]? = some (.cells (zrow c) 138 (0, 0))) (hBg : B ≤ g)
 (h1 : w'.ownsRow B 174 1 v' (n + 1) (nrows n c gs ++ [Value.slice (some ⟨g, 0, none⟩) c c])) (h2 : X.grownBy w' v.ownBlock) : RowMore W b r c n v B L v' w' := by
 have hown := rows_own h.2
 have hWX := hX.size
 have hX' : ∀ (i : Nat) (arr : Array Value) (t : TypeId), t ≠ 174 → X.heap[i]? = some (.cells arr t (0, 0)) → w'.heap[i]? = some (.cells arr t (0, 0)) := by
  intro i arr t ht h0
  rw [h2.block i (Array.getElem?_eq_some_iff.1 h0).1 ?_]
  ·exact h0
  ·intro e
   have h3 := (hown i e.symm).2
   have h4 : X.heap[i]? = W.heap[i]? := hX.block i h3.lt
   rw [h4] at h0
   exact ht (ty_block h0 h3)
 have hki : KI X w' := fun i arr h0 => hX' i arr _ (by decide) h0
 refine ⟨⟨h2.os.trans hX.os, h2.tape.trans hX.tape, h2.output.trans hX.output, Nat.le_trans hWX h2.size, fun k hk hne => ?_⟩, hX' b _ _ (by decide) (by rw [hX.block b h.lt]; exact h.1), fun i => if i = n then g else gs i, by rw [← nrows_snoc]; exact h1, fun i hi => ?_, fun i j hij hj => ?_⟩
 ·rw [h2.block k (by omega) hne]
  exact hX.block k hk
 ·show B ≤ (if i = n then g else gs i) ∧ RRow B w' (if i = n then g else gs i) c (fun _ => 0) L
  by_cases hin : i = n
  ·rw [if_pos hin]
   exact ⟨hBg, zrow_is B w' g c L (hX' g _ _ (by decide) hrow)⟩
  ·rw [if_neg hin]
   obtain ⟨q1, cs, q2, q3, q4⟩ := h.2.2.1 i (by omega)
   have hlt : gs i < W.heap.size := (Array.getElem?_eq_some_iff.1 q2).1
   refine ⟨q1, cs, hX' _ _ _ (by decide) (by rw [hX.block _ hlt]; exact q2), q3, fun j hj => ?_⟩
   obtain ⟨x, y, e1, e2, e3, e4⟩ := q4 j hj
   exact ⟨x, y, e1, e2, (e3.below hX).keep hki, e4⟩
 ·show (if i = n then g else gs i) < (if j = n then g else gs j)
  by_cases hjn : j = n
  ·rw [if_pos hjn, if_neg (by omega)]
   have := (h.2.2.1 i (by omega)).2.lt
   omega
  ·rw [if_neg hjn, if_neg (by omega)]
   exact h.2.2.2 i j hij (by omega)
set_option maxRecDepth 100000 in
set_option maxHeartbeats 4000000 in
theorem empty_any (r c : Nat) (w : World) (hr : r ≤ 99) (hc : c ≤ 99) :
 Calls Tryz.prog 126 #[.int .i64 r, .int .i64 c] w fun e w' => e = .returned (.pointer (some ⟨w.heap.size, 0, none⟩)) ∧ (∃ gs, IsR w.heap.size w' w.heap.size r c gs (fun _ _ => 0) 0) ∧ Below w.heap.size w w' := by
 have hmk := make_zrow c (by omega)
 obtain ⟨in_, hin, hz0, hz1, hz2⟩ := info_parts Tryz.info174
 have HIN := Hid.mk (And.intro hin (And.intro hz0 (And.intro hz1 hz2)))
 clear hin hz0 hz1 hz2
 go_enter Tryz.func126, Tryz.ntmps126
 go_wp2_with fail
 go_loopw [6] (fun i wr => ∃ (k : Nat) (v : Value) (gs : Nat → Nat), k ≤ r ∧ i = .int .i64 k ∧ MakR wr w.heap.size r c k v w.heap.size gs (fun _ _ => 0) 0 ∧ Below w.heap.size w wr) (fun i _ => r - (intOf i).toNat)
 case atStart => exact ⟨0, .slice none 0 0, id, Nat.zero_le _, rfl, ⟨heap_alloc_new w _, RRows.nil _ _ _ _ _ _⟩, (Below.refl _ _).alloc (Nat.le_refl _) _⟩
 case round =>
  obtain ⟨k, v, gs, hk, rfl, hmak, hbel⟩ := hrel
  have hwr := hbel.size
  have hbl := hmak.lt
  obtain ⟨c0, c1, c2, c3⟩ := hmak.cells
  have H := Hid.mk (And.intro hmak hbel)
  clear hmak hbel
  by_cases hkr : k < r
  ·go_upto_region 5 with fail
   go_cut [7] from 17 to 25 (fun v' wx => RowMore wr w.heap.size r c k v w.heap.size 0 v' wx)
   case first =>
    obtain ⟨X, hX⟩ : ∃ X, X = (((wr.alloc (.cells (zrow c) 138)).alloc (.cells #[.slice (some ⟨wr.heap.size, 0, none⟩) c c] 174)).drew) := ⟨_, rfl⟩
    have hBX : Below wr.heap.size wr X := by rw [hX]; exact (((Below.refl _ _).alloc (Nat.le_refl _) _).alloc (by simp) _).drew
    have s1 : (((wr.alloc (.cells (zrow c) 138)).alloc (.cells #[.slice (some ⟨wr.heap.size, 0, none⟩) c c] 174)).drew).ownsRow w.heap.size 174 1 v k (nrows k c gs) := by rw [← hX]; exact (H.out.1.2.keep (KR.of_below hBX).kq).1
    have s2 : ∀ (j : Nat) (u : Value), [Value.slice (some ⟨wr.heap.size, 0, none⟩) c c][j]? = some u → (((wr.alloc (.cells (zrow c) 138)).alloc (.cells #[.slice (some ⟨wr.heap.size, 0, none⟩) c c] 174)).drew).cell? (Addr.add ⟨wr.heap.size + 1, 0, none⟩ j) = some u := by
     intro j u hj
     match j, hj with
     | 0, hj =>
       simp at hj
       subst hj
       simp [Addr.add]
    have s3 : X.heap[wr.heap.size]? = some (.cells (zrow c) 138 (0, 0)) := by
     rw [hX]
     show ((wr.alloc (.cells (zrow c) 138)).alloc _).heap[wr.heap.size]? = _
     rw [Below.heap_alloc _ _ _ (by simp)]
     exact heap_alloc_new wr _
    have s4 : ∀ u ∈ [Value.slice (some ⟨wr.heap.size, 0, none⟩) c c], u.oneCell' = true := by
     intro u hu
     simp at hu
     subst hu
     rfl
    obtain ⟨ao, cap, hve, -⟩ := H.out.1.2.shape
    subst hve
    have S1 := Hid.mk (And.intro s1 (And.intro s2 (And.intro s3 (And.intro s4 (And.intro hX hBX)))))
    have d2 := rcell1 c2
    clear s1 s2 s3 s4 hX hBX
    go_region_law (refine step_append_own rfl (.tmp 20) (.tmp 23) 143 rfl w.heap.size 174 in_ (.slice none 0 0) 1 24 Tryz.underlying143 HIN.out.1 HIN.out.2.1 HIN.out.2.2.1 HIN.out.2.2.2 rfl (by decide) (.slice ao k cap) k (nrows k c gs) rfl S1.out.1 ⟨wr.heap.size + 1, 0, none⟩ 1 1 [Value.slice (some ⟨wr.heap.size, 0, none⟩) c c] rfl rfl S1.out.2.1 S1.out.2.2.2.1 (by unfold maxLen; omega) (by omega) (by simp; omega) ?_; intro v' w' q1 q2)
    all_goals
     go_wp2_with fail
     go_meet
     case rel =>
      refine row_more H.out.1 S1.out.2.2.2.2.2 (Nat.le_refl _) S1.out.2.2.1 hwr q1 ?_
      rw [S1.out.2.2.2.2.1]
      exact q2
   case rest =>
    obtain ⟨hgr, hblk, gs', hrows⟩ := hcut
    obtain ⟨ao, cap, hve, -⟩ := hrows.shape
    subst hve
    have hbc : Below w.heap.size w wc := H.out.2.grown hgr hwr (fun j hj => (rows_own H.out.1.2 j hj).1)
    have e2 : wc.cell? ⟨w.heap.size, 2, none⟩ = some v := by simp [World.cell?, hblk]
    have e3 : wc.frozen? ⟨w.heap.size, 2, none⟩ = false := by simp [World.frozen?, hblk]
    have HC := Hid.mk (And.intro hblk (And.intro hrows hbc))
    clear hgr hblk hrows hbc c0 c1 c2 c3
    go_wp2_with fail
    go_roundw
    case measure => simp [intOf]; omega
    case rel =>
     refine ⟨k + 1, _, gs', by omega, by go_num, ⟨?_, HC.out.2.1.keep (KQ.setCell ⟨_, _, HC.out.1⟩ (by decide) _)⟩, HC.out.2.2.setCell (Nat.le_refl _) _⟩
     rw [heap_setCell_same _ _ _ _ _ _ HC.out.1]
     simp
  ·have hke : k = r := by omega
   subst hke
   go_wp2_with fail
   go_ret
   exact ⟨rfl, ⟨gs, Nat.le_refl _, v, H.out.1.1, H.out.1.2⟩, H.out.2⟩
open Go.RowKit
def upd2 (f : Nat → Nat → Int) (i j : Nat) (z : Int) : Nat → Nat → Int := fun a b => if a = i ∧ b = j then z else f a b
theorem KI.setN {w : World} {g o : Nat} (ht : Ty w g 138) (u : Value) : KI w (w.setCell ⟨g, o, none⟩ u) := KI.setCell (KI.refl _) ht (by decide) u
theorem heap_set2 {w : World} {g k : Nat} {cs : Array Value} {t : TypeId} (h : w.heap[g]? = some (.cells cs t (0, 0))) (a b : Value) : ((w.setCell ⟨g, k, none⟩ a).setCell ⟨g, k + 1, none⟩ b).heap[g]? = some (.cells ((cs.setIfInBounds k a).setIfInBounds (k + 1) b) t (0, 0)) := by
 rw [heap_setCell_same _ _ _ _ _ _ (heap_setCell_same _ _ _ _ _ _ h)]
theorem RRow.set {B : Nat} {w : World} {g c : Nat} {f : Nat → Int} {L : Nat} (h : RRow B w g c f L) {j : Nat} (hj : j < c) {a b : Value} {z : Int} (hz : IsN w (.agg #[a, b]) z L) (hat : AtB B (.agg #[a, b])) : RRow B ((w.setCell ⟨g, 2 * j, none⟩ a).setCell ⟨g, 2 * j + 1, none⟩ b) g c (fun k => if k = j then z else f k) L := by
 obtain ⟨cs, h1, h2, h3⟩ := h
 have hty : Ty w g 138 := ⟨_, _, h1⟩
 have hki : KI w ((w.setCell ⟨g, 2 * j, none⟩ a).setCell ⟨g, 2 * j + 1, none⟩ b) := (KI.setN hty a).trans (KI.setN (hty.setCell _ _) b)
 refine ⟨_, heap_set2 h1 a b, by simp [h2], fun k hk => ?_⟩
 by_cases hkj : k = j
 ·subst hkj
  refine ⟨a, b, ?_, ?_, by simpa using hz.keep hki, hat⟩
  ·rw [Array.getElem?_setIfInBounds_ne (by omega), Array.getElem?_setIfInBounds_self, if_pos (by omega)]
  ·rw [Array.getElem?_setIfInBounds_self, if_pos (by simp; omega)]
 ·obtain ⟨x, y, e1, e2, e3, e4⟩ := h3 k hk
  refine ⟨x, y, ?_, ?_, by simp only [hkj, if_false]; exact e3.keep hki, e4⟩
  ·rw [Array.getElem?_setIfInBounds_ne (by omega), Array.getElem?_setIfInBounds_ne (by omega), e1]
  ·rw [Array.getElem?_setIfInBounds_ne (by omega), Array.getElem?_setIfInBounds_ne (by omega), e2]
theorem heap_set2_ne {w : World} {g i k : Nat} (h : i ≠ g) (a b : Value) : ((w.setCell ⟨g, k, none⟩ a).setCell ⟨g, k + 1, none⟩ b).heap[i]? = w.heap[i]? := by
 rw [Below.heap_setCell _ _ _ _ (by simpa using h), Below.heap_setCell _ _ _ _ (by simpa using h)]
theorem IsR.set {B : Nat} {w : World} {b r c : Nat} {gs : Nat → Nat} {f : Nat → Nat → Int} {L : Nat} (h : IsR B w b r c gs f L) {i j : Nat} (hi : i < r) (hj : j < c) {x y : Value} {z : Int} (hz : IsN w (.agg #[x, y]) z L) (hat : AtB B (.agg #[x, y])) :
 IsR B ((w.setCell ⟨gs i, 2 * j, none⟩ x).setCell ⟨gs i, 2 * j + 1, none⟩ y) b r c gs (upd2 f i j z) L := by
 obtain ⟨h0, v, h1, h2, h3, h4⟩ := h
 have hrow := (h3 i hi).2
 obtain ⟨cs, q1, -⟩ := id hrow
 have hty : Ty w (gs i) 138 := ⟨_, _, q1⟩
 have hki : KI w ((w.setCell ⟨gs i, 2 * j, none⟩ x).setCell ⟨gs i, 2 * j + 1, none⟩ y) := (KI.setN hty x).trans (KI.setN (hty.setCell _ _) y)
 have hother : ∀ (k : Nat) (arr : Array Value) (t : TypeId), t ≠ 138 → w.heap[k]? = some (.cells arr t (0, 0)) → ((w.setCell ⟨gs i, 2 * j, none⟩ x).setCell ⟨gs i, 2 * j + 1, none⟩ y).heap[k]? = some (.cells arr t (0, 0)) := by
  intro k arr t ht hk
  rw [heap_set2_ne (fun e => by subst e; exact ht (ty_block hk hty))]
  exact hk
 refine ⟨h0, v, hother _ _ _ (by decide) h1, ⟨h2.1, ?_⟩, fun k hk => ⟨(h3 k hk).1, ?_⟩, h4⟩
 ·rcases h2.2 with h5 | ⟨g, cap, cur, hv, hg, hh, r⟩
  ·exact .inl h5
  ·exact .inr ⟨g, cap, cur, hv, hg, hother _ _ _ (by decide) hh, r⟩
 ·by_cases hki' : k = i
  ·subst hki'
   have := hrow.set hj hz hat
   have e : upd2 f k j z k = fun b => if b = j then z else f k b := by
    funext b
    simp [upd2]
   rw [e]
   exact this
  ·have hne : gs k ≠ gs i := by
    rcases Nat.lt_or_gt_of_ne hki' with h5 | h5
    ·have := h4 k i h5 hi; omega
    ·have := h4 i k h5 hk; omega
   have e : upd2 f i j z k = f k := by
    funext b
    simp [upd2, hki']
   rw [e]
   obtain ⟨cs', p1, p2, p3⟩ := (h3 k hk).2
   refine ⟨cs', by rw [heap_set2_ne hne]; exact p1, p2, fun t ht => ?_⟩
   obtain ⟨a', b', e1, e2, e3, e4⟩ := p3 t ht
   exact ⟨a', b', e1, e2, e3.keep hki, e4⟩
theorem IsR.congr {B : Nat} {w : World} {b r c : Nat} {gs : Nat → Nat} {f f' : Nat → Nat → Int} {L : Nat} (h : IsR B w b r c gs f L) (he : ∀ i j, i < r → j < c → f i j = f' i j) : IsR B w b r c gs f' L := by
 obtain ⟨h0, v, h1, h2, h3, h4⟩ := h
 refine ⟨h0, v, h1, h2, fun i hi => ⟨(h3 i hi).1, ?_⟩, h4⟩
 obtain ⟨cs, q1, q2, q3⟩ := (h3 i hi).2
 refine ⟨cs, q1, q2, fun j hj => ?_⟩
 obtain ⟨a, b, e1, e2, e3, e4⟩ := q3 j hj
 exact ⟨a, b, e1, e2, by rw [← he i j hi hj]; exact e3, e4⟩
theorem IsR.mono {B : Nat} {w : World} {b r c : Nat} {gs : Nat → Nat} {f : Nat → Nat → Int} {L M : Nat} (h : IsR B w b r c gs f L) (hM : L ≤ M) : IsR B w b r c gs f M := by
 obtain ⟨h0, v, h1, h2, h3, h4⟩ := h
 refine ⟨h0, v, h1, h2, fun i hi => ⟨(h3 i hi).1, ?_⟩, h4⟩
 obtain ⟨cs, q1, q2, q3⟩ := (h3 i hi).2
 refine ⟨cs, q1, q2, fun j hj => ?_⟩
 obtain ⟨a, b, e1, e2, e3, e4⟩ := q3 j hj
 exact ⟨a, b, e1, e2, e3.mono hM, e4⟩
theorem IsR.open_ {B : Nat} {w : World} {b r c : Nat} {gs : Nat → Nat} {f : Nat → Nat → Int} {L : Nat} (h : IsR B w b r c gs f L) : b < w.heap.size ∧ ∃ ao cap, w.cell? ⟨b, 0, none⟩ = some (.int .i64 r) ∧ w.cell? ⟨b, 1, none⟩ = some (.int .i64 c) ∧ w.cell? ⟨b, 2, none⟩ = some (.slice ao r cap) ∧ r ≤ cap ∧ cap ≤ 9223372036854775807 ∧
 (∀ i, i < r → ∃ g, ao = some ⟨g, 0, none⟩ ∧ w.cell? ⟨g, i, none⟩ = some (.slice (some ⟨gs i, 0, none⟩) c c)) ∧
 (∀ i j, i < r → j < c → ∃ nb so n cp, w.cell? ⟨gs i, 2 * j, none⟩ = some (.bool nb) ∧ w.cell? ⟨gs i, 2 * j + 1, none⟩ = some (.slice so n cp) ∧ w.frozen? ⟨gs i, 2 * j, none⟩ = false ∧ w.frozen? ⟨gs i, 2 * j + 1, none⟩ = false ∧ IsN w (.agg #[.bool nb, .slice so n cp]) (f i j) L) := by
 obtain ⟨h0, v, h1, h2⟩ := h
 obtain ⟨ao, cap, rfl, p1, p2, p3⟩ := h2.shape
 refine ⟨(Array.getElem?_eq_some_iff.1 h1).1, ao, cap, by simp [World.cell?, h1], by simp [World.cell?, h1], by simp [World.cell?, h1], p1, p2, p3, fun i j hi hj => ?_⟩
 obtain ⟨cs, q1, q2, q3⟩ := (h2.2.1 i hi).2
 obtain ⟨x, y, e1, e2, e3, -⟩ := q3 j hj
 obtain ⟨nb, so, cp, xs, e4, -⟩ := e3.parts
 simp only [Value.agg.injEq, Array.mk.injEq, List.cons.injEq, and_true] at e4
 obtain ⟨rfl, rfl⟩ := e4
 exact ⟨nb, so, _, cp, by simp [World.cell?, q1, e1], by simp [World.cell?, q1, e2], by simp [World.frozen?, q1], by simp [World.frozen?, q1], e3⟩
def num (l : List UInt8) : Int := if l.head? = some 45 then -(dval l.tail : Int) else (dval l : Int)
theorem Says.uniq {l : List UInt8} {z y : Int} (h : Says l z) (k : Says l y) : z = y := by
 by_cases h0 : ∃ r, l = 45 :: r
 ·obtain ⟨r, rfl⟩ := h0
  rw [h.neg.2, k.neg.2]
 ·rw [(h.pos (fun r e => h0 ⟨r, e⟩)).2, (k.pos (fun r e => h0 ⟨r, e⟩)).2]
theorem Says.num {l : List UInt8} {z : Int} (h : Says l z) : num l = z := by
  unfold R.num
  by_cases h0 : ∃ r, l = 45 :: r
  · obtain ⟨r, rfl⟩ := h0
    rw [if_pos (show ((45 :: r : List UInt8)).head? = some 45 from rfl), h.neg.2]
    rfl
  · rw [if_neg (fun e => ?_), (h.pos (fun r e => h0 ⟨r, e⟩)).2]
    cases l with
    | nil => simp at e
    | cons x r => simp at e; exact h0 ⟨r, by rw [e]⟩
end Go.Proofs.YtfjbijpagaipnaaGreatDoor.R
