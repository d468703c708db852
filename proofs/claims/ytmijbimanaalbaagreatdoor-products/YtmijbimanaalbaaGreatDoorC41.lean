import Derived.Test.YtmijbimanaalbaaGreatDoorC40
import Derived.BigQuiet
import Derived.Deep.CutRange
import Derived.Deep.RegionWith
import Derived.Deep.RegionLawGrows
/- matriceslaw: looks, ends, handle, pick. -/
namespace Go.Proofs.YtmijbimanaalbaaGreatDoor
open Go.RowKit R

/-- How a kept matrix is shown. -/
theorem Rel.shown {es : List Ent} {ms : List Hm} {nx : Nat} (h : Rel es ms nx) {i : Nat} (hi : i < es.length) : ShowOut ms ((es[i].1 : Nat) : Int) es[i].2.1 0 := by
  obtain ⟨k, x, hk, hx, h1, h2⟩ := h.has es[i] (List.getElem_mem hi)
  exact .inl ⟨rfl, k, x, hk, hx, by omega, h2⟩
theorem idc_at (es : List Ent) (i : Nat) (hi : i < es.length) : (idc es)[i]? = some (.int .i64 ((es[i].1 : Nat) : Int)) := by simp [idc, hi]
theorem txc_at (es : List Ent) (i : Nat) (hi : i < es.length) : (txc es)[i]? = some (.string ⟨es[i].2.1.toArray⟩) := by simp [txc, hi]
theorem LInv.cells {B : Nat} {w : World} {W T b1 b2 : Nat} {ms : List Hm} {nx : Nat} {es : List Ent} (h : LInv B w W T b1 b2 ms nx es) : ∃ ioa icap lv toa tcap, w.cell? ⟨W, 0, none⟩ = some (.pointer (some ⟨T, 0, none⟩)) ∧ w.cell? ⟨W, 1, none⟩ = some (.slice ioa es.length icap) ∧ w.cell? ⟨W, 2, none⟩ = some lv ∧ w.cell? ⟨W, 3, none⟩ = some (.slice toa es.length tcap) ∧ w.cell? ⟨W, 5, none⟩ = some (.slice none 0 0) ∧
    es.length ≤ icap ∧ icap ≤ 9223372036854775807 ∧ es.length ≤ tcap ∧ tcap ≤ 9223372036854775807 ∧ (∀ i (hi : i < es.length), (∃ g, ioa = some ⟨g, 0, none⟩ ∧ w.cell? ⟨g, i, none⟩ = some (.int .i64 ((es[i].1 : Nat) : Int))) ∧ (∃ g, toa = some ⟨g, 0, none⟩ ∧ w.cell? ⟨g, i, none⟩ = some (.string ⟨es[i].2.1.toArray⟩))) := by
  obtain ⟨-, ⟨iv, lv, tv, h2, h3, h4, h5, -⟩, -⟩ := h
  obtain ⟨ioa, icap, rfl, a1, a2, -, a3⟩ := h3.shape
  obtain ⟨toa, tcap, rfl, d1, d2, -, d3⟩ := h5.shape
  rw [idc_len] at a1 a3 h2
  rw [txc_len] at d1 d3 h2
  obtain ⟨c0, c1, c2, c3, c4, c5, -⟩ := h2.cells
  refine ⟨ioa, icap, lv, toa, tcap, c0, c1, c2, c3, c5, a1, a2, d1, d2, fun i hi => ⟨?_, ?_⟩⟩
  · obtain ⟨g, e1, e2⟩ := a3 i hi
    exact ⟨g, e1, by rw [e2, idc_at es i hi]⟩
  · obtain ⟨g, e1, e2⟩ := d3 i hi
    exact ⟨g, e1, by rw [e2, txc_at es i hi]⟩

set_option maxRecDepth 100000 in
set_option maxHeartbeats 4000000 in
theorem looks_any (B W T b1 b2 : Nat) (ms : List Hm) (nx : Nat) (es : List Ent) (w : World) (h : LInv B w W T b1 b2 ms nx es) :
    Calls Tryz.prog 36 #[.pointer (some ⟨W, 0, none⟩)] w fun x w' => x = .returned (.bool true) ∧ Below w.heap.size w w' := by
  have hle := h.le24
  have H := Hid.mk h
  obtain ⟨ioa, icap, lv, toa, tcap, c0, c1, c2, c3, c5, -⟩ := h.cells
  clear h
  go_enter Tryz.func36, Tryz.ntmps36
  go_wp2_with fail
  go_loopw [3] (fun i wr => i = .int .i64 0 ∧ wr = w) (fun _ _ => 0)
  case atStart => exact ⟨rfl, rfl⟩
  case round =>
    obtain ⟨rfl, rfl⟩ := hrel
    go_wp2_with fail
    go_loopw [5] (fun i ws => ∃ k : Nat, k ≤ es.length ∧ i = .int .i64 k ∧ Below wr.heap.size wr ws) (fun i _ => es.length - (intOf i).toNat)
    case atStart => exact ⟨0, Nat.zero_le _, rfl, Below.refl _ _⟩
    case round =>
      rename World => ws
      obtain ⟨k, hk, rfl, hbel⟩ := hrel
      clear c0 c1 c2 c3 c5
      have hI := H.out.below hbel
      obtain ⟨ioa, icap, lv, toa, tcap, c0, c1, c2, c3, c5, a1, a2, d1, d2, a3⟩ := hI.cells
      have K := Hid.mk (And.intro hI hbel)
      have hws := hbel.size
      clear hI hbel
      by_cases hkl : k < es.length
      · obtain ⟨⟨gi, rfl, e1⟩, ⟨gt, rfl, e2⟩⟩ := a3 k hkl
        obtain ⟨hd, hhd⟩ : ∃ hd, hd = es[k].1 := ⟨_, rfl⟩
        obtain ⟨ST, hST⟩ : ∃ ST : ByteArray, ST = ⟨es[k].2.1.toArray⟩ := ⟨_, rfl⟩
        have hsh := K.out.1.2.2.shown hkl
        rw [← hhd] at e1 hsh
        rw [← hST] at e2
        have HSH := Hid.mk (And.intro hsh hST)
        clear a3 hsh hhd hST
        have istr : (ST.toList == ST.toList) = true := by simp
        go_upto_region 12 with fail
        go_cut [6, 7] from 51 to 65 (fun tt e wx => tt = .string ST ∧ e = .int .i64 0 ∧ Below ws.heap.size ws wx)
        case first =>
          have hki : (k : Int) < (es.length : Int) := by omega
          go_region_with (go_at_call 72; go_must (refine (twShow_any B T b1 b2 hd ms nx _ (K.out.1.1.below ((Below.refl _ _).drew))).mono ?_; rintro x w1 ⟨tt, e, rfl, hs, hb⟩; obtain ⟨rfl, rfl⟩ := show_uniq K.out.1.2.2.dst hs HSH.out.1))
          all_goals
            go_wp2_with fail
            go_meet
            case rel => exact ⟨by rw [HSH.out.2], rfl, ((Below.refl _ _).drew).trans hb⟩
        case rest =>
          obtain ⟨rfl, rfl, hbc⟩ := hcut
          have hI := K.out.1.below hbc
          have g3 : wc.cell? ⟨W, 3, none⟩ = some (.slice (some ⟨gt, 0, none⟩) es.length tcap) := cell_later hbc c3
          have g4 : wc.cell? ⟨gt, k, none⟩ = some (.string ST) := cell_later hbc e2
          have K2 := Hid.mk (K.out.2.trans (hbc.mono hws))
          have hki : (k : Int) < (es.length : Int) := by omega
          clear hI hbc c0 c1 c2 c3 c5 e1 e2
          go_wp2_with fail
          go_roundw
          case measure => simp [intOf]; omega
          case rel => exact ⟨k + 1, by omega, by go_num, K2.out⟩
      · clear a3
        go_wp2_with fail
        go_ret
        exact ⟨rfl, K.out.2⟩
end Go.Proofs.YtmijbimanaalbaaGreatDoor

/- matriceslaw.World: shows, where nothing is freed. -/
namespace Go.Proofs.YtmijbimanaalbaaGreatDoor
open Go.RowKit R

/-- Where a handle stands in the law's list. -/
def AtIs (es : List Ent) (h a : Int) : Prop := (a = -1 ∧ ∀ i (hi : i < es.length), ((es[i].1 : Nat) : Int) ≠ h) ∨ (∃ k, ∃ hk : k < es.length, a = (k : Int) ∧ ((es[k].1 : Nat) : Int) = h)
theorem AtIs.none {es : List Ent} {ms : List Hm} {nx : Nat} (h : Rel es ms nx) {hh : Int} (hn : ∀ i (hi : i < es.length), ((es[i].1 : Nat) : Int) ≠ hh) : ∀ k, k < 24 → ∀ x, ms.getD k none = some x → (x.1 : Int) ≠ hh := by
  intro k hk x hx e
  obtain ⟨en, hm, he⟩ := h.all k x hk hx
  obtain ⟨i, hi, rfl⟩ := List.mem_iff_getElem.1 hm
  exact hn i hi (by omega)
set_option maxRecDepth 100000 in
set_option maxHeartbeats 4000000 in
theorem shows_show (B W T b1 b2 : Nat) (ms : List Hm) (nx : Nat) (es : List Ent) (h : Int) (w : World) (hI : LInv B w W T b1 b2 ms nx es) :
    Calls Tryz.prog 62 #[.pointer (some ⟨W, 0, none⟩), .int .i64 h, .bool false] w fun x w' => x = .returned (.bool true) ∧ Below w.heap.size w w' := by
  have hle := hI.le24
  have H := Hid.mk hI
  obtain ⟨ioa, icap, lv, toa, tcap, c0, c1, c2, c3, c5, a1, a2, d1, d2, a3⟩ := hI.cells
  have HA := Hid.mk a3
  clear hI a3
  go_enter Tryz.func62, Tryz.ntmps62
  go_wp2_with fail
  go_loopw [7, 8] (fun a i wr => ∃ (k : Nat) (az : Int), k ≤ es.length ∧ i = .int .i64 k ∧ a = .int .i64 az ∧ -1 ≤ az ∧ az < es.length ∧ Below w.heap.size w wr ∧ Hid (AtIs (es.take k) h az)) (fun _ i _ => es.length - (intOf i).toNat)
  case atStart => exact ⟨0, -1, Nat.zero_le _, rfl, rfl, by omega, by omega, Below.refl _ _, Hid.mk (.inl ⟨rfl, fun i hi => by simp at hi⟩)⟩
  case round =>
    obtain ⟨k, az, hk, rfl, rfl, haz1, haz2, hbel, HI⟩ := hrel
    have e0 := cell_later hbel c0
    have e1 := cell_later hbel c1
    have e3 := cell_later hbel c3
    have hwr := hbel.size
    have K := Hid.mk hbel
    clear hbel
    by_cases hkl : k < es.length
    · obtain ⟨⟨gi, rfl, f1⟩, -⟩ := HA.out k hkl
      obtain ⟨hd, hhd⟩ : ∃ hd, hd = es[k].1 := ⟨_, rfl⟩
      rw [← hhd] at f1
      have f1' := cell_later K.out f1
      have HD := Hid.mk hhd
      have hki : (k : Int) < (es.length : Int) := by omega
      clear hhd f1
      have htake : ∀ i (hi : i < (es.take (k + 1)).length), i < k ∧ (∃ hi' : i < (es.take k).length, (es.take (k + 1))[i] = (es.take k)[i]) ∨ (i = k ∧ (es.take (k + 1))[i] = es[k]) := by
        intro i hi
        rw [List.length_take] at hi
        by_cases hik : i < k
        · refine .inl ⟨hik, by rw [List.length_take]; omega, ?_⟩
          rw [List.getElem_take, List.getElem_take]
        · have : i = k := by omega
          subst this
          exact .inr ⟨rfl, by rw [List.getElem_take]⟩
      have HTK := Hid.mk htake
      clear htake
      by_cases hdh : (hd : Int) = h
      · have hb : ((hd : Int) == h) = true := beq_iff_eq.2 hdh
        have HDH := Hid.mk hdh
        clear hdh
        go_wp2_with fail
        try go_quiet (fail)
        try go_wp2_with fail
        go_roundw
        case measure => simp [intOf]; omega
        case rel =>
          refine ⟨k + 1, k, by omega, by go_num, by go_num, by omega, by omega, by first | exact K.out | exact below_drewN K.out _, Hid.mk (.inr ⟨k, by rw [List.length_take]; omega, rfl, ?_⟩)⟩
          rw [List.getElem_take, ← HD.out]
          exact HDH.out
      · have hb : ((hd : Int) == h) = false := beq_eq_false_iff_ne.2 hdh
        have HDH := Hid.mk hdh
        clear hdh
        go_wp2_with fail
        try go_quiet (fail)
        try go_wp2_with fail
        go_roundw
        case measure => simp [intOf]; omega
        case rel =>
          refine ⟨k + 1, az, by omega, by go_num, rfl, by omega, by omega, by first | exact K.out | exact below_drewN K.out _, Hid.mk ?_⟩
          rcases HI.out with ⟨h1, h2⟩ | ⟨j, hj, h1, h2⟩
          · refine .inl ⟨h1, fun i hi => ?_⟩
            rcases HTK.out i hi with ⟨_, hi', he⟩ | ⟨_, he⟩
            · rw [he]; exact h2 i hi'
            · rw [he, ← HD.out]; exact HDH.out
          · refine .inr ⟨j, by rw [List.length_take] at hj ⊢; omega, h1, ?_⟩
            rw [List.getElem_take] at h2 ⊢
            exact h2
    · have hat : AtIs es h az := by
        have := HI.out
        rw [List.take_of_length_le (by omega)] at this
        exact this
      have HAT := Hid.mk hat
      clear hat
      go_wp2_with fail
      refine (twShow_any B T b1 b2 h ms nx _ (H.out.1.below K.out)).mono ?_
      rintro x w1 ⟨tt, e, rfl, hs, hb⟩
      have hB1 := K.out.trans (hb.mono hwr)
      rcases HAT.out with ⟨rfl, hn⟩ | ⟨j, hj, rfl, hjh⟩
      · have hno := AtIs.none H.out.2.2 hn
        obtain ⟨rfl, rfl⟩ := show_uniq H.out.2.2.dst hs (.inr ⟨rfl, rfl, hno⟩)
        have K1 := Hid.mk hB1
        clear hs hb hB1 hn hno
        go_wp2_with fail
        go_ret
        exact ⟨rfl, K1.out⟩
      · have hsh := H.out.2.2.shown hj
        rw [hjh] at hsh
        obtain ⟨rfl, rfl⟩ := show_uniq H.out.2.2.dst hs hsh
        obtain ⟨-, ⟨gt, rfl, f2⟩⟩ := HA.out j hj
        obtain ⟨ST, hST⟩ : ∃ ST : ByteArray, ST = ⟨es[j].2.1.toArray⟩ := ⟨_, rfl⟩
        rw [← hST] at f2 ⊢
        have g3 := cell_later hB1 c3
        have g2 := cell_later hB1 f2
        have istr : (ST.toList == ST.toList) = true := by simp
        have hji : (j : Int) < (es.length : Int) := by omega
        have hj0 : ¬ ((j : Int) < 0) := by omega
        have K1 := Hid.mk hB1
        clear hs hb hB1 hsh hST f2 e0 e1 e3
        go_wp2_with fail
        go_ret
        exact ⟨rfl, K1.out⟩
end Go.Proofs.YtmijbimanaalbaaGreatDoor

/- append(x[:at:at], x[at+1:]...). -/
namespace Go.Proofs.YtmijbimanaalbaaGreatDoor
open Go.RowKit R

/-- What is left where one element is taken out. -/
def CutRow (w : World) (T : TypeId) (g : Nat) (xs : List Value) (j : Nat) (v' : Value) (w' : World) : Prop := RowG w' T v' (xs.take j ++ xs.drop (j + 1)) ∧ w.grownBy w' none ∧ (∀ g', v'.ownBlock = some g' → g' = g ∨ w.heap.size ≤ g')
theorem step_append_cut {P : Program} {ops : Array Oper} {o : Oper} {a : Act} {w : World} {K : Act → World → Prop} {Q : Exit → Act → World → Prop} {E : Prop}
    (hg : o.guard = none) (s x : Operand) (t : TypeId) (hop : o.op = Op.call { callee := Callee.builtin Builtin.append, args := #[s, x], argTypes := #[t, t] })
    (T : TypeId) (i : TypeInfo) (z : Value) (bytes : Nat) (h1 : P.underlying t = some (.slice T)) (h2 : P.info? T = some i) (h3 : i.zero = some z) (h4 : i.size = 1) (h5 : i.bytes = bytes) (h6 : z.cells.size = 1)
    (g n cap j : Nat) (xs : List Value) (hn : xs.length = n) (hrow : RowG w T (.slice (some ⟨g, 0, none⟩) n cap) xs) (hj : j < n) (A : Addr) (hA : (if cap = j + 1 then some (⟨g, 0, none⟩ : Addr) else some ⟨g, j + 1, none⟩) = some A)
    (hs : a.eval s = .slice (some ⟨g, 0, none⟩) j j) (hx : a.eval x = .slice (some A) (n - (j + 1)) (cap - (j + 1))) (h1c : ∀ u ∈ xs, u.oneCell' = true)
    (b1 : n ≤ 1000) (b2 : bytes ≤ 1000)
    (hK : ∀ v' w', CutRow w T g xs j v' w' → K (a.put o.dst v') w') :
    if Region.wanted o (yielded ops a.tmps) = true then Oper.wp P o a w K Q else E := by
  rcases id hrow with ⟨hbad, -⟩ | ⟨g', cap', cur, hv, q1, q2, q3, q4, q5⟩
  · cases hbad
  · simp only [Value.slice.injEq, Option.some.injEq, Addr.mk.injEq, and_true] at hv
    obtain ⟨rfl, _, rfl⟩ := hv
    subst hn
    have hcell : ∀ m u, xs[m]? = some u → w.cell? ⟨g, m, none⟩ = some u := fun m u hm => by
      have hm' : m < xs.length := by
        rcases Nat.lt_or_ge m xs.length with h | h
        · exact h
        · rw [List.getElem?_eq_none h] at hm; cases hm
      have := q5 m hm'
      rw [hm] at this
      simp only [World.cell?, q1]
      exact this
    by_cases hm : xs.length - (j + 1) = 0
    · have hd : xs.drop (j + 1) = [] := List.drop_of_length_le (by omega)
      rw [hm] at hx
      refine step_append_room hg s x t hop T i 1 h1 h2 h4 g 0 j j hs A 0 (cap - (j + 1)) [] hx rfl (fun k u hk => by simp at hk) (fun u hu => by cases hu) (Nat.le_refl _) (fun k hk => by simp at hk) ?_
      refine hK _ _ ⟨?_, ⟨rfl, rfl, rfl, Nat.le_refl _, fun _ _ _ => rfl⟩, fun g' hg' => .inl ?_⟩
      · rw [hd, List.append_nil]
        have hl : (xs.take j).length = j := by rw [List.length_take]; omega
        refine .inr ⟨g, j, cur, by rw [hl]; rfl, q1, by omega, by omega, by unfold maxLen; omega, fun k hk => ?_⟩
        rw [hl] at hk
        rw [q5 k (by omega), List.getElem?_take_of_lt hk]
      · simp [Value.ownBlock] at hg'
        exact hg'.symm
    · have hAe : A = ⟨g, j + 1, none⟩ := by
        rw [if_neg (by omega)] at hA
        injection hA with hA
        exact hA.symm
      subst hAe
      have hl : (xs.take j).length = j := by rw [List.length_take]; omega
      have hl2 : (xs.drop (j + 1)).length = xs.length - (j + 1) := by rw [List.length_drop]
      have hle : j + (xs.length - (j + 1)) ≤ 1000 := by omega
      refine step_append_grows hg s x t hop T i z 1 bytes h1 h2 h3 h4 h5 h6 (by decide) (some ⟨g, 0, none⟩) j j (xs.take j) hs (fun e => by cases e) (by rw [hl]; omega) (fun b hb k u hk => ?_) ⟨g, j + 1, none⟩ (xs.length - (j + 1)) (cap - (j + 1)) (xs.drop (j + 1)) hx (by rw [hl2]; omega) (fun k u hk => ?_) (fun u hu => h1c u (List.mem_of_mem_drop hu)) (by omega) (by unfold maxLen; omega) (Nat.le_trans (Nat.mul_le_mul hle b2) (by decide)) ?_
      · injection hb with hb
        subst hb
        have hk' : k < j := by
          rcases Nat.lt_or_ge k j with h | h
          · exact h
          · rw [List.getElem?_eq_none (by omega)] at hk; cases hk
        rw [List.getElem?_take_of_lt hk'] at hk
        have e : Addr.add ⟨g, 0, none⟩ k = ⟨g, k, none⟩ := by simp [Addr.add]; exact fun h => h.symm
        rw [e]
        exact hcell k u hk
      · rw [List.getElem?_drop] at hk
        have e : Addr.add ⟨g, j + 1, none⟩ k = ⟨g, j + 1 + k, none⟩ := by simp [Addr.add]; try omega
        rw [e]
        exact hcell (j + 1 + k) u hk
      · intro v' w' r1 r2
        refine hK v' w' ⟨RowG.of_owns (B := w.heap.size) ?_, r2, fun g' hg' => .inr (World.ownsRow.lt r1 g' hg').1⟩
        rw [List.length_append, hl, hl2]
        exact r1
theorem cut_row {w2 X w' : World} {W f jj g : Nat} {Tt : TypeId} {v' : Value} {xs : List Value} (hW : Ty w2 W 67) (hX : Below w2.heap.size w2 X) (hA : CutRow X Tt g xs jj v' w') (hT : Tt ≠ 67) :
    RowG (w'.setCell ⟨W, f, none⟩ v') Tt v' (xs.take jj ++ xs.drop (jj + 1)) ∧ Chg (fun k => k = W) w2 (w'.setCell ⟨W, f, none⟩ v') ∧ w'.heap[W]? = w2.heap[W]? ∧ (∀ g', v'.ownBlock = some g' → g' = g ∨ w2.heap.size ≤ g') := by
  obtain ⟨hr, hg, ho⟩ := hA
  have hlt := hW.lt
  have hXs := hX.size
  have hWb : w'.heap[W]? = X.heap[W]? := hg.block W (by omega) (by simp)
  have hWX : Ty X W 67 := hW.below hX hlt
  have hW' : Ty w' W 67 := by
    obtain ⟨c, fr, h1⟩ := hWX
    exact ⟨c, fr, by rw [hWb]; exact h1⟩
  have hb : Below X.heap.size X w' := ⟨hg.os, hg.tape, hg.output, hg.size, fun k hk => hg.block k hk (by simp)⟩
  refine ⟨hr.of_block (fun g hg' => ?_), ?_, hWb.trans (hX.block W hlt), fun g' hg' => ?_⟩
  · exact Below.heap_setCell _ _ _ _ (fun e => ty_ne (hr.own g hg').2 hW' hT (by simpa using e))
  · exact ((Chg.of_below hX).trans (Chg.of_below hb)).trans (Chg.setW (S := fun k => k = W) hW' (by decide) (by decide) rfl _)
  · rcases ho g' hg' with h | h
    · exact .inl h
    · exact .inr (by omega)
theorem RowG.keepW {w2 wx : World} {W : Nat} {Tt : TypeId} {r : Value} {ys : List Value} (h : RowG w2 Tt r ys) (hW : Ty w2 W 67) (hnW : Tt ≠ 67) (hc : Chg (fun k => k = W) w2 wx) : RowG wx Tt r ys :=
  h.chg hc (fun k hk hs => ty_ne (h.own k hk).2 hW hnW hs)
theorem idc_cut (es : List Ent) (j : Nat) : (idc es).take j ++ (idc es).drop (j + 1) = idc (es.take j ++ es.drop (j + 1)) := by simp [idc, List.map_take, List.map_drop]
theorem lpc_cut (es : List Ent) (j : Nat) : (lpc es).take j ++ (lpc es).drop (j + 1) = lpc (es.take j ++ es.drop (j + 1)) := by simp [lpc, List.map_take, List.map_drop]
theorem txc_cut (es : List Ent) (j : Nat) : (txc es).take j ++ (txc es).drop (j + 1) = txc (es.take j ++ es.drop (j + 1)) := by simp [txc, List.map_take, List.map_drop]
theorem idc_one (es : List Ent) : ∀ u ∈ idc es, u.oneCell' = true := by
  intro u hu
  obtain ⟨e, -, rfl⟩ := List.mem_map.1 hu
  rfl
theorem lpc_one (es : List Ent) : ∀ u ∈ lpc es, u.oneCell' = true := by
  intro u hu
  obtain ⟨e, -, rfl⟩ := List.mem_map.1 hu
  rfl
theorem txc_one (es : List Ent) : ∀ u ∈ txc es, u.oneCell' = true := by
  intro u hu
  obtain ⟨e, -, rfl⟩ := List.mem_map.1 hu
  rfl
theorem addr_if (g cap j : Nat) : ∃ A : Addr, (if cap = j + 1 then some (⟨g, 0, none⟩ : Addr) else some ⟨g, j + 1, none⟩) = some A := by
  by_cases h : cap = j + 1
  · exact ⟨_, by rw [if_pos h]⟩
  · exact ⟨_, by rw [if_neg h]⟩
end Go.Proofs.YtmijbimanaalbaaGreatDoor
