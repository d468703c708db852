import Derived.Test.YtfjbijpagaipnaaGreatDoorC26
import Derived.Deep.RegionLawGrows
import Derived.Deep.CutRange
import Derived.Deep.RegionLaw
/- matriceslaw.World: shows, where nothing is freed. -/
namespace Go.Proofs.YtfjbijpagaipnaaGreatDoor
open Go.RowKit R

/-- Where a handle stands in the law's list. -/
def AtIs (es : List Ent) (h a : Int) : Prop := (a = -1 ∧ ∀ i (hi : i < es.length), ((es[i].1 : Nat) : Int) ≠ h) ∨ (∃ k, ∃ hk : k < es.length, a = (k : Int) ∧ ((es[k].1 : Nat) : Int) = h)
theorem AtIs.none {es : List Ent} {ms : List Hm} {nx : Nat} (h : Rel es ms nx) {hh : Int} (hn : ∀ i (hi : i < es.length), ((es[i].1 : Nat) : Int) ≠ hh) : ∀ k, k < 24 → ∀ x, ms.getD k none = some x → (x.1 : Int) ≠ hh := by
  intro k hk x hx e
  obtain ⟨en, hm, he⟩ := h.all k x hk hx
  obtain ⟨i, hi, rfl⟩ := List.mem_iff_getElem.1 hm
  exact hn i hi (by omega)
set_option maxRecDepth 100000 in
set_option maxHeartbeats 4000000 in
theorem shows_show (B W T b1 b2 : Nat) (ms : List Hm) (nx : Nat) (es : List Ent) (h : Int) (w : World) (hI : LInv B w W T b1 b2 ms nx es) :
    Calls Tryz.prog 62 #[.pointer (some ⟨W, 0, none⟩), .int .i64 h, .bool false] w fun x w' => x = .returned (.bool true) ∧ Below w.heap.size w w' := by
  have hle := hI.le24
  have H := Hid.mk hI
  obtain ⟨ioa, icap, lv, toa, tcap, c0, c1, c2, c3, a1, a2, d1, d2, a3⟩ := hI.cells
  have HA := Hid.mk a3
  clear hI a3
  go_enter Tryz.func62, Tryz.ntmps62
  go_wp2_with fail
  go_loopw [7, 8] (fun a i wr => ∃ (k : Nat) (az : Int), k ≤ es.length ∧ i = .int .i64 k ∧ a = .int .i64 az ∧ -1 ≤ az ∧ az < es.length ∧ Below w.heap.size w wr ∧ Hid (AtIs (es.take k) h az)) (fun _ i _ => es.length - (intOf i).toNat)
  case atStart => exact ⟨0, -1, Nat.zero_le _, rfl, rfl, by omega, by omega, Below.refl _ _, Hid.mk (.inl ⟨rfl, fun i hi => by simp at hi⟩)⟩
  case round =>
    obtain ⟨k, az, hk, rfl, rfl, haz1, haz2, hbel, HI⟩ := hrel
    have e0 := cell_later hbel c0
    have e1 := cell_later hbel c1
    have e3 := cell_later hbel c3
    have hwr := hbel.size
    have K := Hid.mk hbel
    clear hbel
    by_cases hkl : k < es.length
    · obtain ⟨⟨gi, rfl, f1⟩, -⟩ := HA.out k hkl
      obtain ⟨hd, hhd⟩ : ∃ hd, hd = es[k].1 := ⟨_, rfl⟩
      rw [← hhd] at f1
      have f1' := cell_later K.out f1
      have HD := Hid.mk hhd
      have hki : (k : Int) < (es.length : Int) := by omega
      clear hhd f1
      have htake : ∀ i (hi : i < (es.take (k + 1)).length), i < k ∧ (∃ hi' : i < (es.take k).length, (es.take (k + 1))[i] = (es.take k)[i]) ∨ (i = k ∧ (es.take (k + 1))[i] = es[k]) := by
        intro i hi
        rw [List.length_take] at hi
        by_cases hik : i < k
        · refine .inl ⟨hik, by rw [List.length_take]; omega, ?_⟩
          rw [List.getElem_take, List.getElem_take]
        · have : i = k := by omega
          subst this
          exact .inr ⟨rfl, by rw [List.getElem_take]⟩
      have HTK := Hid.mk htake
      clear htake
      by_cases hdh : (hd : Int) = h
      · have hb : ((hd : Int) == h) = true := beq_iff_eq.2 hdh
        have HDH := Hid.mk hdh
        clear hdh
        go_wp2_with fail
        try go_quiet (fail)
        try go_wp2_with fail
        go_roundw
        case measure => simp [intOf]; omega
        case rel =>
          refine ⟨k + 1, k, by omega, by go_num, by go_num, by omega, by omega, by first | exact K.out | exact below_drewN K.out _, Hid.mk (.inr ⟨k, by rw [List.length_take]; omega, rfl, ?_⟩)⟩
          rw [List.getElem_take, ← HD.out]
          exact HDH.out
      · have hb : ((hd : Int) == h) = false := beq_eq_false_iff_ne.2 hdh
        have HDH := Hid.mk hdh
        clear hdh
        go_wp2_with fail
        try go_quiet (fail)
        try go_wp2_with fail
        go_roundw
        case measure => simp [intOf]; omega
        case rel =>
          refine ⟨k + 1, az, by omega, by go_num, rfl, by omega, by omega, by first | exact K.out | exact below_drewN K.out _, Hid.mk ?_⟩
          rcases HI.out with ⟨h1, h2⟩ | ⟨j, hj, h1, h2⟩
          · refine .inl ⟨h1, fun i hi => ?_⟩
            rcases HTK.out i hi with ⟨_, hi', he⟩ | ⟨_, he⟩
            · rw [he]; exact h2 i hi'
            · rw [he, ← HD.out]; exact HDH.out
          · refine .inr ⟨j, by rw [List.length_take] at hj ⊢; omega, h1, ?_⟩
            rw [List.getElem_take] at h2 ⊢
            exact h2
    · have hat : AtIs es h az := by
        have := HI.out
        rw [List.take_of_length_le (by omega)] at this
        exact this
      have HAT := Hid.mk hat
      clear hat
      go_wp2_with fail
      refine (twShow_any B T b1 b2 h ms nx _ (H.out.1.below K.out)).mono ?_
      rintro x w1 ⟨tt, e, rfl, hs, hb⟩
      have hB1 := K.out.trans (hb.mono hwr)
      rcases HAT.out with ⟨rfl, hn⟩ | ⟨j, hj, rfl, hjh⟩
      · have hno := AtIs.none H.out.2.2 hn
        obtain ⟨rfl, rfl⟩ := show_uniq H.out.2.2.dst hs (.inr ⟨rfl, rfl, hno⟩)
        have K1 := Hid.mk hB1
        clear hs hb hB1 hn hno
        go_wp2_with fail
        go_ret
        exact ⟨rfl, K1.out⟩
      · have hsh := H.out.2.2.shown hj
        rw [hjh] at hsh
        obtain ⟨rfl, rfl⟩ := show_uniq H.out.2.2.dst hs hsh
        obtain ⟨-, ⟨gt, rfl, f2⟩⟩ := HA.out j hj
        obtain ⟨ST, hST⟩ : ∃ ST : ByteArray, ST = ⟨es[j].2.1.toArray⟩ := ⟨_, rfl⟩
        rw [← hST] at f2 ⊢
        have g3 := cell_later hB1 c3
        have g2 := cell_later hB1 f2
        have istr : (ST.toList == ST.toList) = true := by simp
        have hji : (j : Int) < (es.length : Int) := by omega
        have hj0 : ¬ ((j : Int) < 0) := by omega
        have K1 := Hid.mk hB1
        clear hs hb hB1 hsh hST f2 e0 e1 e3
        go_wp2_with fail
        go_ret
        exact ⟨rfl, K1.out⟩
end Go.Proofs.YtfjbijpagaipnaaGreatDoor

/- append(x[:at:at], x[at+1:]...). -/
namespace Go.Proofs.YtfjbijpagaipnaaGreatDoor
open Go.RowKit R

/-- What is left where one element is taken out. -/
def CutRow (w : World) (T : TypeId) (g : Nat) (xs : List Value) (j : Nat) (v' : Value) (w' : World) : Prop := RowG w' T v' (xs.take j ++ xs.drop (j + 1)) ∧ w.grownBy w' none ∧ (∀ g', v'.ownBlock = some g' → g' = g ∨ w.heap.size ≤ g')
theorem step_append_cut {P : Program} {ops : Array Oper} {o : Oper} {a : Act} {w : World} {K : Act → World → Prop} {Q : Exit → Act → World → Prop} {E : Prop}
    (hg : o.guard = none) (s x : Operand) (t : TypeId) (hop : o.op = Op.call { callee := Callee.builtin Builtin.append, args := #[s, x], argTypes := #[t, t] })
    (T : TypeId) (i : TypeInfo) (z : Value) (bytes : Nat) (h1 : P.underlying t = some (.slice T)) (h2 : P.info? T = some i) (h3 : i.zero = some z) (h4 : i.size = 1) (h5 : i.bytes = bytes) (h6 : z.cells.size = 1)
    (g n cap j : Nat) (xs : List Value) (hn : xs.length = n) (hrow : RowG w T (.slice (some ⟨g, 0, none⟩) n cap) xs) (hj : j < n) (A : Addr) (hA : (if cap = j + 1 then some (⟨g, 0, none⟩ : Addr) else some ⟨g, j + 1, none⟩) = some A)
    (hs : a.eval s = .slice (some ⟨g, 0, none⟩) j j) (hx : a.eval x = .slice (some A) (n - (j + 1)) (cap - (j + 1))) (h1c : ∀ u ∈ xs, u.oneCell' = true)
    (b1 : n ≤ 1000) (b2 : bytes ≤ 1000)
    (hK : ∀ v' w', CutRow w T g xs j v' w' → K (a.put o.dst v') w') :
    if Region.wanted o (yielded ops a.tmps) = true then Oper.wp P o a w K Q else E := by
  rcases id hrow with ⟨hbad, -⟩ | ⟨g', cap', cur, hv, q1, q2, q3, q4, q5⟩
  · cases hbad
  · simp only [Value.slice.injEq, Option.some.injEq, Addr.mk.injEq, and_true] at hv
    obtain ⟨rfl, _, rfl⟩ := hv
    subst hn
    have hcell : ∀ m u, xs[m]? = some u → w.cell? ⟨g, m, none⟩ = some u := fun m u hm => by
      have hm' : m < xs.length := by
        rcases Nat.lt_or_ge m xs.length with h | h
        · exact h
        · rw [List.getElem?_eq_none h] at hm; cases hm
      have := q5 m hm'
      rw [hm] at this
      simp only [World.cell?, q1]
      exact this
    by_cases hm : xs.length - (j + 1) = 0
    · have hd : xs.drop (j + 1) = [] := List.drop_of_length_le (by omega)
      rw [hm] at hx
      refine step_append_room hg s x t hop T i 1 h1 h2 h4 g 0 j j hs A 0 (cap - (j + 1)) [] hx rfl (fun k u hk => by simp at hk) (fun u hu => by cases hu) (Nat.le_refl _) (fun k hk => by simp at hk) ?_
      refine hK _ _ ⟨?_, ⟨rfl, rfl, rfl, Nat.le_refl _, fun _ _ _ => rfl⟩, fun g' hg' => .inl ?_⟩
      · rw [hd, List.append_nil]
        have hl : (xs.take j).length = j := by rw [List.length_take]; omega
        refine .inr ⟨g, j, cur, by rw [hl]; rfl, q1, by omega, by omega, by unfold maxLen; omega, fun k hk => ?_⟩
        rw [hl] at hk
        rw [q5 k (by omega), List.getElem?_take_of_lt hk]
      · simp [Value.ownBlock] at hg'
        exact hg'.symm
    · have hAe : A = ⟨g, j + 1, none⟩ := by
        rw [if_neg (by omega)] at hA
        injection hA with hA
        exact hA.symm
      subst hAe
      have hl : (xs.take j).length = j := by rw [List.length_take]; omega
      have hl2 : (xs.drop (j + 1)).length = xs.length - (j + 1) := by rw [List.length_drop]
      have hle : j + (xs.length - (j + 1)) ≤ 1000 := by omega
      refine step_append_grows hg s x t hop T i z 1 bytes h1 h2 h3 h4 h5 h6 (by decide) (some ⟨g, 0, none⟩) j j (xs.take j) hs (fun e => by cases e) (by rw [hl]; omega) (fun b hb k u hk => ?_) ⟨g, j + 1, none⟩ (xs.length - (j + 1)) (cap - (j + 1)) (xs.drop (j + 1)) hx (by rw [hl2]; omega) (fun k u hk => ?_) (fun u hu => h1c u (List.mem_of_mem_drop hu)) (by omega) (by unfold maxLen; omega) (Nat.le_trans (Nat.mul_le_mul hle b2) (by decide)) ?_
      · injection hb with hb
        subst hb
        have hk' : k < j := by
          rcases Nat.lt_or_ge k j with h | h
          · exact h
          · rw [List.getElem?_eq_none (by omega)] at hk; cases hk
        rw [List.getElem?_take_of_lt hk'] at hk
        have e : Addr.add ⟨g, 0, none⟩ k = ⟨g, k, none⟩ := by simp [Addr.add]; exact fun h => h.symm
        rw [e]
        exact hcell k u hk
      · rw [List.getElem?_drop] at hk
        have e : Addr.add ⟨g, j + 1, none⟩ k = ⟨g, j + 1 + k, none⟩ := by simp [Addr.add]; try omega
        rw [e]
        exact hcell (j + 1 + k) u hk
      · intro v' w' r1 r2
        refine hK v' w' ⟨RowG.of_owns (B := w.heap.size) ?_, r2, fun g' hg' => .inr (World.ownsRow.lt r1 g' hg').1⟩
        rw [List.length_append, hl, hl2]
        exact r1
theorem cut_row {w2 X w' : World} {W f jj g : Nat} {Tt : TypeId} {v' : Value} {xs : List Value} (hW : Ty w2 W 67) (hX : Below w2.heap.size w2 X) (hA : CutRow X Tt g xs jj v' w') (hT : Tt ≠ 67) :
    RowG (w'.setCell ⟨W, f, none⟩ v') Tt v' (xs.take jj ++ xs.drop (jj + 1)) ∧ Chg (fun k => k = W) w2 (w'.setCell ⟨W, f, none⟩ v') ∧ w'.heap[W]? = w2.heap[W]? ∧ (∀ g', v'.ownBlock = some g' → g' = g ∨ w2.heap.size ≤ g') := by
  obtain ⟨hr, hg, ho⟩ := hA
  have hlt := hW.lt
  have hXs := hX.size
  have hWb : w'.heap[W]? = X.heap[W]? := hg.block W (by omega) (by simp)
  have hWX : Ty X W 67 := hW.below hX hlt
  have hW' : Ty w' W 67 := by
    obtain ⟨c, fr, h1⟩ := hWX
    exact ⟨c, fr, by rw [hWb]; exact h1⟩
  have hb : Below X.heap.size X w' := ⟨hg.os, hg.tape, hg.output, hg.size, fun k hk => hg.block k hk (by simp)⟩
  refine ⟨hr.of_block (fun g hg' => ?_), ?_, hWb.trans (hX.block W hlt), fun g' hg' => ?_⟩
  · exact Below.heap_setCell _ _ _ _ (fun e => ty_ne (hr.own g hg').2 hW' hT (by simpa using e))
  · exact ((Chg.of_below hX).trans (Chg.of_below hb)).trans (Chg.setW (S := fun k => k = W) hW' (by decide) (by decide) rfl _)
  · rcases ho g' hg' with h | h
    · exact .inl h
    · exact .inr (by omega)
theorem RowG.keepW {w2 wx : World} {W : Nat} {Tt : TypeId} {r : Value} {ys : List Value} (h : RowG w2 Tt r ys) (hW : Ty w2 W 67) (hnW : Tt ≠ 67) (hc : Chg (fun k => k = W) w2 wx) : RowG wx Tt r ys :=
  h.chg hc (fun k hk hs => ty_ne (h.own k hk).2 hW hnW hs)
theorem idc_cut (es : List Ent) (j : Nat) : (idc es).take j ++ (idc es).drop (j + 1) = idc (es.take j ++ es.drop (j + 1)) := by simp [idc, List.map_take, List.map_drop]
theorem lpc_cut (es : List Ent) (j : Nat) : (lpc es).take j ++ (lpc es).drop (j + 1) = lpc (es.take j ++ es.drop (j + 1)) := by simp [lpc, List.map_take, List.map_drop]
theorem txc_cut (es : List Ent) (j : Nat) : (txc es).take j ++ (txc es).drop (j + 1) = txc (es.take j ++ es.drop (j + 1)) := by simp [txc, List.map_take, List.map_drop]
theorem idc_one (es : List Ent) : ∀ u ∈ idc es, u.oneCell' = true := by
  intro u hu
  obtain ⟨e, -, rfl⟩ := List.mem_map.1 hu
  rfl
theorem lpc_one (es : List Ent) : ∀ u ∈ lpc es, u.oneCell' = true := by
  intro u hu
  obtain ⟨e, -, rfl⟩ := List.mem_map.1 hu
  rfl
theorem txc_one (es : List Ent) : ∀ u ∈ txc es, u.oneCell' = true := by
  intro u hu
  obtain ⟨e, -, rfl⟩ := List.mem_map.1 hu
  rfl
theorem addr_if (g cap j : Nat) : ∃ A : Addr, (if cap = j + 1 then some (⟨g, 0, none⟩ : Addr) else some ⟨g, j + 1, none⟩) = some A := by
  by_cases h : cap = j + 1
  · exact ⟨_, by rw [if_pos h]⟩
  · exact ⟨_, by rw [if_neg h]⟩
end Go.Proofs.YtfjbijpagaipnaaGreatDoor

/- matriceslaw.World: shows, where a matrix is freed. -/
namespace Go.Proofs.YtfjbijpagaipnaaGreatDoor
open Go.RowKit R

set_option maxRecDepth 100000 in
set_option maxHeartbeats 4000000 in
theorem shows_free (B W T b1 b2 : Nat) (ms : List Hm) (nx : Nat) (es : List Ent) (h : Int) (w : World) (hI : LInv B w W T b1 b2 ms nx es) :
    Calls Tryz.prog 62 #[.pointer (some ⟨W, 0, none⟩), .int .i64 h, .bool true] w fun x w' => x = .returned (.bool true) ∧ StepOut B w w' W T b1 b2 nx := by
  have hle := hI.le24
  have H := Hid.mk hI
  obtain ⟨ioa, icap, lv, toa, tcap, c0, c1, c2, c3, a1, a2, d1, d2, a3⟩ := hI.cells
  have HA := Hid.mk a3
  clear hI a3
  obtain ⟨ii, hii, hii0, hii1, hii2⟩ := info_parts Tryz.infoI
  obtain ⟨ip, hip, hip0, hip1, hip2⟩ := info_parts Tryz.infoP
  obtain ⟨is_, his, his0, his1, his2⟩ := info_parts Tryz.infoS
  have HII := Hid.mk (And.intro hii (And.intro hii0 (And.intro hii1 hii2)))
  have HIP := Hid.mk (And.intro hip (And.intro hip0 (And.intro hip1 hip2)))
  have HIS := Hid.mk (And.intro his (And.intro his0 (And.intro his1 his2)))
  clear hii hii0 hii1 hii2 hip hip0 hip1 hip2 his his0 his1 his2
  go_enter Tryz.func62, Tryz.ntmps62
  go_wp2_with fail
  go_loopw [7, 8] (fun a i wr => ∃ (k : Nat) (az : Int), k ≤ es.length ∧ i = .int .i64 k ∧ a = .int .i64 az ∧ -1 ≤ az ∧ az < es.length ∧ Below w.heap.size w wr ∧ Hid (AtIs (es.take k) h az)) (fun _ i _ => es.length - (intOf i).toNat)
  case atStart => exact ⟨0, -1, Nat.zero_le _, rfl, rfl, by omega, by omega, Below.refl _ _, Hid.mk (.inl ⟨rfl, fun i hi => by simp at hi⟩)⟩
  case round =>
    obtain ⟨k, az, hk, rfl, rfl, haz1, haz2, hbel, HI⟩ := hrel
    have e0 := cell_later hbel c0
    have e1 := cell_later hbel c1
    have e3 := cell_later hbel c3
    have hwr := hbel.size
    have K := Hid.mk hbel
    clear hbel
    by_cases hkl : k < es.length
    · obtain ⟨⟨gi, rfl, f1⟩, -⟩ := HA.out k hkl
      obtain ⟨hd, hhd⟩ : ∃ hd, hd = es[k].1 := ⟨_, rfl⟩
      rw [← hhd] at f1
      have f1' := cell_later K.out f1
      have HD := Hid.mk hhd
      have hki : (k : Int) < (es.length : Int) := by omega
      clear hhd f1
      have htake : ∀ i (hi : i < (es.take (k + 1)).length), i < k ∧ (∃ hi' : i < (es.take k).length, (es.take (k + 1))[i] = (es.take k)[i]) ∨ (i = k ∧ (es.take (k + 1))[i] = es[k]) := by
        intro i hi
        rw [List.length_take] at hi
        by_cases hik : i < k
        · refine .inl ⟨hik, by rw [List.length_take]; omega, ?_⟩
          rw [List.getElem_take, List.getElem_take]
        · have : i = k := by omega
          subst this
          exact .inr ⟨rfl, by rw [List.getElem_take]⟩
      have HTK := Hid.mk htake
      clear htake
      by_cases hdh : (hd : Int) = h
      · have hb : ((hd : Int) == h) = true := beq_iff_eq.2 hdh
        have HDH := Hid.mk hdh
        clear hdh
        go_wp2_with fail
        try go_quiet (fail)
        try go_wp2_with fail
        go_roundw
        case measure => simp [intOf]; omega
        case rel =>
          refine ⟨k + 1, k, by omega, by go_num, by go_num, by omega, by omega, by first | exact K.out | exact below_drewN K.out _, Hid.mk (.inr ⟨k, by rw [List.length_take]; omega, rfl, ?_⟩)⟩
          rw [List.getElem_take, ← HD.out]
          exact HDH.out
      · have hb : ((hd : Int) == h) = false := beq_eq_false_iff_ne.2 hdh
        have HDH := Hid.mk hdh
        clear hdh
        go_wp2_with fail
        try go_quiet (fail)
        try go_wp2_with fail
        go_roundw
        case measure => simp [intOf]; omega
        case rel =>
          refine ⟨k + 1, az, by omega, by go_num, rfl, by omega, by omega, by first | exact K.out | exact below_drewN K.out _, Hid.mk ?_⟩
          rcases HI.out with ⟨h1, h2⟩ | ⟨j, hj, h1, h2⟩
          · refine .inl ⟨h1, fun i hi => ?_⟩
            rcases HTK.out i hi with ⟨_, hi', he⟩ | ⟨_, he⟩
            · rw [he]; exact h2 i hi'
            · rw [he, ← HD.out]; exact HDH.out
          · refine .inr ⟨j, by rw [List.length_take] at hj ⊢; omega, h1, ?_⟩
            rw [List.getElem_take] at h2 ⊢
            exact h2
    · have hat : AtIs es h az := by
        have := HI.out
        rw [List.take_of_length_le (by omega)] at this
        exact this
      have HAT := Hid.mk hat
      clear hat
      go_wp2_with fail
      refine (twFree_any B T b1 b2 h ms nx _ (H.out.1.below K.out) H.out.2.2.dst).mono ?_
      rintro x w1 ⟨e, ms1, rfl, hfr, hT1, hC1⟩
      have hB := H.out.size
      have hIw := H.out.below K.out
      have hbel1 : Below B _ w1 := hC1.below (St2.le H.out.1.2.2.2.2.2.2.1 H.out.1.2.2.2.2.2.2.2) hIw.size
      have hrows := hIw.stores hC1
      have hB01 : Below B w w1 := (K.out.mono hB).trans hbel1
      rcases HAT.out with ⟨rfl, hn⟩ | ⟨j, hj, rfl, hjh⟩
      · have hno := AtIs.none H.out.2.2 hn
        rcases hfr with ⟨rfl, k', x, hk', hx, hxh, -⟩ | ⟨rfl, rfl, -⟩
        · exact absurd hxh (hno k' hk' x hx)
        · have HF : Hid (StepOut B w w1 W T b1 b2 nx) := Hid.mk ⟨⟨ms1, nx, es, ⟨hT1, hrows, H.out.2.2⟩, by omega⟩, hB01⟩
          clear hT1 hC1 hbel1 hrows hB01 hn hno
          go_wp2_with fail
          go_ret
          exact ⟨rfl, HF.out⟩
      · rcases hfr with ⟨rfl, k', x, hk', hx, hxh, rfl⟩ | ⟨rfl, rfl, hno⟩
        · have hpop := H.out.2.2.pop hj hk' hx (by omega)
          obtain ⟨hv, iv, lv, tv, hL1, hI1, hP1, hX1, hS1, hM1, ls1, hH1, hHB1⟩ := hrows
          rcases id hI1 with ⟨-, hbad⟩ | ⟨gI, capI, curI, rfl, -, i3, -⟩
          · rw [← List.length_eq_zero_iff, idc_len] at hbad; omega
          rcases id hP1 with ⟨-, hbad⟩ | ⟨gP, capP, curP, rfl, -, p3, -⟩
          · rw [← List.length_eq_zero_iff, lpc_len] at hbad; omega
          rcases id hX1 with ⟨-, hbad⟩ | ⟨gX, capX, curX, rfl, -, x3, -⟩
          · rw [← List.length_eq_zero_iff, txc_len] at hbad; omega
          rw [idc_len] at hL1 hI1 hS1 hM1 hH1 i3
          rw [lpc_len] at hL1 hP1 hS1 hM1 hH1 p3
          rw [txc_len] at hL1 hX1 hS1 hM1 hH1 x3
          have KH := Hid.mk (And.intro hH1 hHB1)
          clear hH1 hHB1
          obtain ⟨m0, m1, m2, m3, m4, m5, m6⟩ := hL1.cells
          have K1 := Hid.mk (And.intro hT1 (And.intro hL1 (And.intro hI1 (And.intro hP1 (And.intro hX1 (And.intro hS1 (And.intro hB01 (And.intro hpop hM1))))))))
          have hji : (j : Int) < (es.length : Int) := by omega
          have hj0 : ¬ ((j : Int) < 0) := by omega
          clear hT1 hC1 hbel1 hL1 hI1 hP1 hX1 hS1 hM1 hB01 hpop e0 e1 e3
          have hjc : j ≤ capI := by omega
          have hj1 : j + 1 ≤ es.length := by omega
          obtain ⟨AI, hAI⟩ := addr_if gI capI j
          obtain ⟨AP, hAP⟩ := addr_if gP capP j
          obtain ⟨AX, hAX⟩ := addr_if gX capX j
          have HAA := Hid.mk (And.intro hAI (And.intro hAP hAX))
          have hw1 : IntKind.i64.wrap ((j : Int) + 1) = (j : Int) + 1 := IntWalk.i64_in _ (by omega)
          have hw2 : (0 : Int) ≤ (j : Int) + 1 := by omega
          have hw3 : (j : Int) + 1 ≤ (es.length : Int) := by omega
          have hw4 : ((j : Int) + 1).toNat = j + 1 := by omega
          clear hAP hAX
          go_upto_region 15 with fail
          go_cut [] from 73 to 90 (fun wx => ∃ iv', Lw wx W T hv iv' (.slice (some ⟨gP, 0, none⟩) es.length capP) (.slice (some ⟨gX, 0, none⟩) es.length capX) nx ∧ RowG wx 3 iv' ((idc es).take j ++ (idc es).drop (j + 1)) ∧ Chg (fun k => k = W) w1 wx ∧ (∀ g, iv'.ownBlock = some g → g = gI ∨ w1.heap.size ≤ g))
          case first =>
            go_region_law (refine step_append_cut rfl (.tmp 80) (.tmp 87) 25 rfl 3 ii (.int .i64 0) 8 Tryz.underlying25 HII.out.1 HII.out.2.1 HII.out.2.2.1 HII.out.2.2.2 rfl gI es.length capI j (idc es) (idc_len es) (K1.out.2.2.1.below ((Below.refl _ _).drew)) hj AI HAA.out.1 rfl rfl (idc_one es) (by omega) (by decide) ?_; intro v' w' hA; obtain ⟨voa, vcap, hve, -⟩ := hA.1.shape; obtain ⟨vm, hvm⟩ : ∃ vm, vm = ((idc es).take j ++ (idc es).drop (j + 1)).length := ⟨_, rfl⟩; rw [← hvm] at hve; clear hvm; subst hve; have HR := Hid.mk (cut_row (f := 1) K1.out.2.1.ty ((Below.refl _ _).drew) hA (by decide)); have HLW := K1.out.2.1.of_block HR.out.2.2.1; obtain ⟨-, q1, -, -, -, -, q7⟩ := HLW.cells; have HLW := Hid.mk HLW; clear hA)
            all_goals
              go_wp2_with fail
              go_meet
              case rel => exact ⟨_, (lw_set HLW.out _).1, HR.out.1, HR.out.2.1, HR.out.2.2.2⟩
          case rest =>
            obtain ⟨iv2, hL2, hI2, hC2, hO2⟩ := hcut
            rename World => w2
            have hP2 := K1.out.2.2.2.1.keepW K1.out.2.1.ty (by decide) hC2
            have hX2 := K1.out.2.2.2.2.1.keepW K1.out.2.1.ty (by decide) hC2
            have hw2s := hC2.size
            clear m0 m1 m2 m3 m4 m5 m6 hAI
            obtain ⟨m0, m1, m2, m3, m4, m5, m6⟩ := hL2.cells
            have K2 := Hid.mk (And.intro hL2 (And.intro hI2 (And.intro hP2 (And.intro hX2 (And.intro hC2 hO2)))))
            have hAP := HAA.out.2.1
            have hjp : j ≤ capP := by omega
            clear hL2 hI2 hP2 hX2 hC2 hO2
            go_upto_region 16 with fail
            go_cut [] from 91 to 108 (fun wx => ∃ lv', Lw wx W T hv iv2 lv' (.slice (some ⟨gX, 0, none⟩) es.length capX) nx ∧ RowG wx 130 lv' ((lpc es).take j ++ (lpc es).drop (j + 1)) ∧ Chg (fun k => k = W) w2 wx ∧ (∀ g, lv'.ownBlock = some g → g = gP ∨ w2.heap.size ≤ g))
            case first =>
              go_region_law (refine step_append_cut rfl (.tmp 98) (.tmp 105) 64 rfl 130 ip (.pointer none) 8 Tryz.underlying64 HIP.out.1 HIP.out.2.1 HIP.out.2.2.1 HIP.out.2.2.2 rfl gP es.length capP j (lpc es) (lpc_len es) (K2.out.2.2.1.below ((Below.refl _ _).drew)) hj AP HAA.out.2.1 rfl rfl (lpc_one es) (by omega) (by decide) ?_; intro v' w' hA; obtain ⟨voa, vcap, hve, -⟩ := hA.1.shape; obtain ⟨vm, hvm⟩ : ∃ vm, vm = ((lpc es).take j ++ (lpc es).drop (j + 1)).length := ⟨_, rfl⟩; rw [← hvm] at hve; clear hvm; subst hve; have HR := Hid.mk (cut_row (f := 2) K2.out.1.ty ((Below.refl _ _).drew) hA (by decide)); have HLW := K2.out.1.of_block HR.out.2.2.1; obtain ⟨-, -, q1, -, -, -, q7⟩ := HLW.cells; have HLW := Hid.mk HLW; clear hA)
              all_goals
                go_wp2_with fail
                go_meet
                case rel => exact ⟨_, (lw_set HLW.out _).2.1, HR.out.1, HR.out.2.1, HR.out.2.2.2⟩
            case rest =>
              obtain ⟨lv2, hL3, hP3, hC3, hO3⟩ := hcut
              rename World => w3
              have hI3 := K2.out.2.1.keepW K2.out.1.ty (by decide) hC3
              have hX3 := K2.out.2.2.2.1.keepW K2.out.1.ty (by decide) hC3
              have hw3s := hC3.size
              clear m0 m1 m2 m3 m4 m5 m6 hAP
              obtain ⟨m0, m1, m2, m3, m4, m5, m6⟩ := hL3.cells
              have K3 := Hid.mk (And.intro hL3 (And.intro hI3 (And.intro hP3 (And.intro hX3 (And.intro hC3 hO3)))))
              have hAX := HAA.out.2.2
              have hjx : j ≤ capX := by omega
              clear hL3 hI3 hP3 hX3 hC3 hO3
              go_upto_region 17 with fail
              go_cut [] from 109 to 126 (fun wx => ∃ tv', Lw wx W T hv iv2 lv2 tv' nx ∧ RowG wx 9 tv' ((txc es).take j ++ (txc es).drop (j + 1)) ∧ Chg (fun k => k = W) w3 wx ∧ (∀ g, tv'.ownBlock = some g → g = gX ∨ w3.heap.size ≤ g))
              case first =>
                go_region_law (refine step_append_cut rfl (.tmp 116) (.tmp 123) 65 rfl 9 is_ (.string ⟨#[]⟩) 16 Tryz.underlying65 HIS.out.1 HIS.out.2.1 HIS.out.2.2.1 HIS.out.2.2.2 rfl gX es.length capX j (txc es) (txc_len es) (K3.out.2.2.2.1.below ((Below.refl _ _).drew)) hj AX HAA.out.2.2 rfl rfl (txc_one es) (by omega) (by decide) ?_; intro v' w' hA; obtain ⟨voa, vcap, hve, -⟩ := hA.1.shape; obtain ⟨vm, hvm⟩ : ∃ vm, vm = ((txc es).take j ++ (txc es).drop (j + 1)).length := ⟨_, rfl⟩; rw [← hvm] at hve; clear hvm; subst hve; have HR := Hid.mk (cut_row (f := 3) K3.out.1.ty ((Below.refl _ _).drew) hA (by decide)); have HLW := K3.out.1.of_block HR.out.2.2.1; obtain ⟨-, -, -, q1, -, -, q7⟩ := HLW.cells; have HLW := Hid.mk HLW; clear hA)
                all_goals
                  go_wp2_with fail
                  go_meet
                  case rel => exact ⟨_, (lw_set HLW.out _).2.2, HR.out.1, HR.out.2.1, HR.out.2.2.2⟩
              case rest =>
                obtain ⟨tv2, hL4, hX4, hC4, hO4⟩ := hcut
                rename World => w4
                have hI4 := K3.out.2.1.keepW K3.out.1.ty (by decide) hC4
                have hP4 := K3.out.2.2.1.keepW K3.out.1.ty (by decide) hC4
                have hw4s := hC4.size
                have HF : Hid (StepOut B w w4 W T b1 b2 nx) := Hid.mk (by
                  obtain ⟨hT1, hL1, hI1, hP1, hX1, hS1, hB01, hpop, hM1⟩ := K1.out
                  have hc14 : Chg (fun k => k = W) w1 w4 := (K2.out.2.2.2.2.1.trans K3.out.2.2.2.2.1).trans hC4
                  have hWB : B ≤ W := hS1 W (.inl rfl)
                  have hb14 : Below B w1 w4 := hc14.below (fun k hk => by rw [hk]; exact hWB) (by have := hB01.size; omega)
                  have hw1B : B ≤ w1.heap.size := by have := hB01.size; omega
                  have hT4 : TwH B w4 T b1 b2 (ms.set k' none) nx := hT1.chg hc14 (fun h => ty_ne ⟨_, _, hT1.1⟩ hL1.ty (by decide) h) (fun h => ty_ne hT1.2.1.ty hL1.ty (by decide) h) (fun h => ty_ne hT1.2.2.1.ty hL1.ty (by decide) h) (fun k hk => by rw [hk]; exact hWB)
                  rw [idc_cut] at hI4
                  rw [lpc_cut] at hP4
                  rw [txc_cut] at hX4
                  have hcut : ∀ e ∈ es.take j ++ es.drop (j + 1), e ∈ es := fun e he => by
                    rcases List.mem_append.1 he with h | h
                    · exact List.mem_of_mem_take h
                    · exact List.mem_of_mem_drop h
                  have hnew : ∀ k, S4 W iv2 lv2 tv2 k → S4 W (.slice (some ⟨gI, 0, none⟩) es.length capI) (.slice (some ⟨gP, 0, none⟩) es.length capP) (.slice (some ⟨gX, 0, none⟩) es.length capX) k ∨ w1.heap.size ≤ k := fun k hk => by
                    rcases hk with hk | hk | hk | hk
                    · exact .inl (.inl hk)
                    · rcases K2.out.2.2.2.2.2 k hk with h | h
                      · rw [h]; exact .inl (.inr (.inl rfl))
                      · exact .inr h
                    · rcases K3.out.2.2.2.2.2 k hk with h | h
                      · rw [h]; exact .inl (.inr (.inr (.inl rfl)))
                      · exact .inr (by omega)
                    · rcases hO4 k hk with h | h
                      · rw [h]; exact .inl (.inr (.inr (.inr rfl)))
                      · exact .inr (by omega)
                  have hVl : ∀ k, Vl W iv2 lv2 tv2 b1 b2 k → Vl W (.slice (some ⟨gI, 0, none⟩) es.length capI) (.slice (some ⟨gP, 0, none⟩) es.length capP) (.slice (some ⟨gX, 0, none⟩) es.length capX) b1 b2 k ∨ w1.heap.size ≤ k := fun k hk => by
                    rcases hk with hk | hk
                    · rcases hnew k hk with h | h
                      · exact .inl (.inl h)
                      · exact .inr h
                    · exact .inl (.inr hk)
                  refine ⟨⟨_, nx, _, ⟨hT4, ⟨hv, iv2, lv2, tv2, hL4, hI4, hP4, hX4, fun k hk => ?_, (hM1.sub hcut).chg hc14 (fun k hk => .inl (.inl (.inl hk))) (fun k hk => ?_), ls1, KH.out.1.chg hc14 (fun k hk => .inl (.inl hk)) hVl, KH.out.2⟩, hpop⟩, by omega⟩, hB01.trans hb14⟩
                  · rcases hnew k hk with h | h
                    · exact hS1 k h
                    · omega
                  · rcases hk with hk | hk
                    · rcases hVl k hk with h | h
                      · exact .inl (.inl h)
                      · exact .inr h
                    · exact .inl (.inr hk))
                clear hL4 hX4 hC4 hO4 hI4 hP4 m0 m1 m2 m3 m4 m5 m6
                go_wp2_with fail
                go_ret
                exact ⟨rfl, HF.out⟩
        · have hsome := H.out.2.2.has es[j] (List.getElem_mem hj)
          obtain ⟨k', x, hk', hx, hxh, -⟩ := hsome
          exact absurd (by omega) (hno k' hk' x hx)
end Go.Proofs.YtfjbijpagaipnaaGreatDoor

/- matriceslaw: pick, handle. -/
namespace Go.Proofs.YtfjbijpagaipnaaGreatDoor
open Go.RowKit R

set_option maxRecDepth 100000 in
set_option maxHeartbeats 1000000 in
theorem pick_any (c : Int) (n : Nat) (w : World) (h1 : -9223372036854775808 ≤ c) (h2 : c ≤ 9223372036854775807) (hn : 0 < n) (hn2 : n ≤ 1000) :
    Calls Tryz.prog 99 #[.int .i64 c, .int .i64 n] w fun x w' => (∃ k : Nat, k < n ∧ x = .returned (.int .i64 k)) ∧ w' = w := by
  have hn0 : (n : Int) ≠ 0 := by omega
  have hnb : ((n : Int) == 0) = false := beq_eq_false_iff_ne.2 hn0
  by_cases hc : c < 0
  · go_enter Tryz.func99, Tryz.ntmps99
    go_wp2_with fail
    go_ret
    have e : -(c + 1).tmod (n : Int) = ((-(c + 1)) % (n : Int)) := by rw [← Int.neg_tmod, Int.tmod_eq_emod_of_nonneg (by omega)]
    have h3 := Int.emod_nonneg (-(c + 1)) hn0
    have h4 := Int.emod_lt_of_pos (-(c + 1)) (show (0 : Int) < (n : Int) from by omega)
    exact ⟨⟨((-(c + 1)) % (n : Int)).toNat, by omega, ret_int (by rw [e]; omega)⟩, rfl⟩
  · have hc' : decide (c < 0) = false := decide_eq_false hc
    go_enter Tryz.func99, Tryz.ntmps99
    go_wp2_with fail
    go_ret
    have h3 := Int.emod_nonneg c hn0
    have h4 := Int.emod_lt_of_pos c (show (0 : Int) < (n : Int) from by omega)
    exact ⟨⟨(c % (n : Int)).toNat, by omega, ret_int (by omega)⟩, rfl⟩

set_option maxRecDepth 100000 in
set_option maxHeartbeats 2000000 in
theorem handle_any (B W T b1 b2 : Nat) (ms : List Hm) (nx : Nat) (es : List Ent) (a c : Int) (w : World) (h : LInv B w W T b1 b2 ms nx es) (h1 : -9223372036854775808 ≤ a) (h2 : a ≤ 9223372036854775807) :
    Calls Tryz.prog 60 #[.pointer (some ⟨W, 0, none⟩), .int .i64 a, .int .i64 c] w fun x w' => (∃ h : Int, x = .returned (.int .i64 h)) ∧ Below w.heap.size w w' := by
  have hle := h.le24
  have H := Hid.mk h
  obtain ⟨ioa, icap, lv, toa, tcap, c0, c1, c2, c3, a1, a2, d1, d2, a3⟩ := h.cells
  clear h c0 c2 c3
  by_cases hlen : 0 < es.length
  · obtain ⟨⟨gi, rfl, -⟩, -⟩ := a3 0 hlen
    have hli : (0 : Int) < (es.length : Int) := by omega
    have HA : Hid (∀ i, i < es.length → ∃ z : Int, w.cell? ⟨gi, i, none⟩ = some (.int .i64 z)) := Hid.mk (fun i hi => by
      obtain ⟨⟨g, e1, e2⟩, -⟩ := a3 i hi
      injection e1 with e1
      injection e1 with e1 _
      subst e1
      exact ⟨_, e2⟩)
    clear a3
    go_enter Tryz.func60, Tryz.ntmps60
    go_wp2_with fail
    · go_region_with (go_at_call 99; go_must (refine (pick_any a es.length _ h1 h2 hlen (by omega)).mono ?_; rintro x w' ⟨⟨k, hk, rfl⟩, rfl⟩; obtain ⟨z, hz⟩ := HA.out k hk; have hki : (k : Int) < (es.length : Int) := (by omega)))
      all_goals
        go_wp2_with fail
        go_ret
        exact ⟨⟨_, rfl⟩, (Below.refl _ _).drew⟩
    · go_ret
      exact ⟨⟨_, rfl⟩, Below.refl _ _⟩
  · have hli : decide ((0 : Int) < (es.length : Int)) = false := decide_eq_false (by omega)
    clear a3
    go_enter Tryz.func60, Tryz.ntmps60
    go_wp2_with fail
    all_goals
      go_ret
      exact ⟨⟨_, rfl⟩, Below.refl _ _⟩
end Go.Proofs.YtfjbijpagaipnaaGreatDoor
