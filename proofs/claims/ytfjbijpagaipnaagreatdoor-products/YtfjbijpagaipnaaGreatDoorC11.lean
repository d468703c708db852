import Derived.Test.YtfjbijpagaipnaaGreatDoorC10
import Derived.Test.YtfjbijpagaipnaaGreatDoorC08
import Derived.Test.YtfjbijpagaipnaaGreatDoorC09
import Derived.Deep.CutRange
import Derived.Deep.RegionWith
namespace Go.Proofs.YtfjbijpagaipnaaGreatDoor
open Go.RowKit
theorem Rem.join {s : ByteArray} {q : Nat} {a l : List UInt8} (h : Rem s q (a ++ l)) {b : List UInt8} (h2 : Rem s (q + a.length) b) : l = b := h.app.uniq h2
def ReadOut (s : ByteArray) (w w' : World) (x : Value) (ok : Bool) : Prop := ((ok = true ∧ ∃ r c zs, Writes s r c zs 4000 ∧ IsM w' x r c zs 4000) ∨ (ok = false ∧ x = .agg #[.int .i64 0, .int .i64 0, .slice none 0 0])) ∧ Below w.heap.size w w'
set_option maxRecDepth 100000 in
set_option maxHeartbeats 8000000 in
theorem read_gen (s : ByteArray) (w : World) (hs : s.size ≤ 4000) :
    Calls Tryz.prog 74 #[.string s] w fun e w' => ∃ x ok, e = .returned (.tuple #[x, .bool ok]) ∧ ReadOut s w w' x ok := by
  obtain ⟨p, hp⟩ : ∃ p, p = w.heap.size + 1 := ⟨_, rfl⟩
  have hR0 : Rb ((w.alloc (.cells #[.int .i64 0, .int .i64 0, .slice none 0 0] 76)).alloc (.cells #[.string s, .int .i64 0, .bool false] 157)) p s 0 false := by
    have := heap_alloc_new (w.alloc (.cells #[.int .i64 0, .int .i64 0, .slice none 0 0] 76)) (.cells #[.string s, .int .i64 0, .bool false] 157)
    rw [hp]
    simpa [Rb] using this
  obtain ⟨dr, l1, hsp1, hdr, hst1⟩ := split_digs s.data.toList
  have hrem0 : Rem s 0 (dr ++ l1) := ⟨Nat.zero_le _, by simpa using hsp1⟩
  have HD := Hid.mk (And.intro hrem0 (And.intro hdr hst1))
  have HP := Hid.mk hp
  have HR0 := Hid.mk hR0
  clear hsp1 hdr hst1 hrem0 hR0
  go_enter Tryz.func74, Tryz.ntmps74
  go_wp2_with fail
  rw [← HP.out]
  obtain ⟨W0, hW0⟩ : ∃ W0, W0 = (w.alloc (.cells #[.int .i64 0, .int .i64 0, .slice none 0 0] 76)).alloc (.cells #[.string s, .int .i64 0, .bool false] 157) := ⟨_, rfl⟩
  rw [← hW0] at HR0 ⊢
  have hB0 : Below w.heap.size w W0 := by
    rw [hW0]
    repeat (first | exact Below.refl _ _ | refine Below.alloc ?_ (by simp <;> omega) _)
  have hres : W0.heap[w.heap.size]? = some (.cells #[.int .i64 0, .int .i64 0, .slice none 0 0] 76 (0, 0)) := by
    rw [hW0, Below.heap_alloc _ _ _ (by simp)]; exact heap_alloc_new w _
  have hS0 : W0.heap.size = w.heap.size + 2 := by rw [hW0]; simp
  have H0 := Hid.mk (And.intro hB0 (And.intro hres hS0))
  clear hB0 hres hS0 hW0
  have hpw : w.heap.size < p := by omega
  clear hp
  refine (side_any p s 0 false dr l1 _ HR0.out HD.out.1 hs HD.out.2.1 HD.out.2.2).mono ?_
  rintro e w1 ⟨i1, rfl, ⟨r, hr, rfl, b1, hR1, hb1⟩, hF1⟩
  rw [Nat.zero_add] at hR1
  have hq1 : dr.length ≤ s.size := by have := HD.out.1.app.1; omega
  obtain ⟨q1, hq1e⟩ : ∃ q1, q1 = dr.length := ⟨_, rfl⟩
  rw [← hq1e] at hR1 hq1
  have HQ1 := Hid.mk hq1e
  have K1 := Hid.mk (And.intro hR1 (And.intro hF1 hb1))
  clear hR1 hF1 hb1 hq1e
  go_wp2_with fail
  refine (want_any p s q1 b1 120 _ K1.out.1 hq1 (by omega)).mono ?_
  rintro e w2 ⟨rfl, ⟨q2, b2, hR2, hq2, hb2⟩, hF2⟩
  have K2 := Hid.mk (And.intro hR2 (And.intro (K1.out.2.1.trans hF2) (And.intro hb2 K1.out.2.2)))
  clear hR2 hF2 hb2 K1
  obtain ⟨dc, l2, hsp2, hdc, hst2⟩ := split_digs (s.data.toList.drop q2)
  have hrem2 : Rem s q2 (dc ++ l2) := ⟨hq2, hsp2⟩
  have HD2 := Hid.mk (And.intro hrem2 (And.intro hdc hst2))
  clear hsp2 hdc hst2 hrem2
  go_wp2_with fail
  refine (side_any p s q2 b2 dc l2 _ K2.out.1 HD2.out.1 hs HD2.out.2.1 HD2.out.2.2).mono ?_
  rintro e w3 ⟨i3, rfl, ⟨c, hc, rfl, b3, hR3, hb3⟩, hF3⟩
  have hq3 : q2 + dc.length ≤ s.size := HD2.out.1.app.1
  obtain ⟨q3, hq3e⟩ : ∃ q3, q3 = q2 + dc.length := ⟨_, rfl⟩
  rw [← hq3e] at hR3 hq3
  have HQ3 := Hid.mk hq3e
  have K3 := Hid.mk (And.intro hR3 (And.intro (K2.out.2.1.trans hF3) (And.intro hb3 K2.out.2.2)))
  clear hR3 hF3 hb3 K2 hq3e
  go_wp2_with fail
  refine (want_any p s q3 b3 58 _ K3.out.1 hq3 (by omega)).mono ?_
  rintro e w4 ⟨rfl, ⟨q4, b4, hR4, hq4, hb4⟩, hF4⟩
  have K4 := Hid.mk (And.intro hR4 (And.intro (K3.out.2.1.trans hF4) (And.intro hb4 K3.out.2.2)))
  clear hR4 hF4 hb4 K3
  go_wp2_with fail
  refine (entries_any p s q4 r c b4 _ K4.out.1 hq4 hs hr hc).mono ?_
  rintro e w5 ⟨v, rfl, ⟨zs, q5, b5, hG5, hR5, hq5, hb5⟩, hF5⟩
  obtain ⟨c0, c1, c2, c3, c4⟩ := hR5.cells
  have HOK : Hid (b5 = false → q5 = s.size → zs.length = r * c ∧ Writes s r c zs 4000) := Hid.mk (fun e1 e2 => by
    obtain ⟨-, -, k4, k3, k2, k1⟩ := K4.out
    obtain ⟨f4, n5, tk5⟩ := hb5 e1
    obtain ⟨f3, e4, l4, m4⟩ := k4 f4
    obtain ⟨f2, run2, v2⟩ := k3 f3
    obtain ⟨f1, e3, l3, m3⟩ := k2 f2
    obtain ⟨-, run1, v1⟩ := k1 f1
    obtain ⟨tks, t1, t2, t3⟩ := tk5.all e2
    refine ⟨n5, dr, dc, tks, ?_, run1, run2, v1, v2, by omega, n5, fun t ht => t2 t (by omega)⟩
    have s1 : l1 = 120 :: l3 := by
      have := HD.out.1
      exact this.join (by rw [Nat.zero_add, ← HQ1.out]; exact m3)
    have s2 : l3 = dc ++ l2 := by
      obtain ⟨_, _, h⟩ := m3.cons
      rw [← e3] at h
      exact h.uniq HD2.out.1
    have s3 : l2 = 58 :: l4 := HD2.out.1.join (by rw [← HQ3.out]; exact m4)
    have s4 : l4 = bodyT c 0 tks := by
      obtain ⟨_, _, h⟩ := m4.cons
      rw [← e4] at h
      exact h.uniq t3
    have := HD.out.1.2
    rw [List.drop_zero, s1, s2, s3, s4] at this
    exact this)
  have K5 := Hid.mk (And.intro hG5 (And.intro hR5 (K4.out.2.1.trans hF5)))
  clear hG5 hR5 hF5 K4 hb5
  have hw5 : w.heap.size + 2 ≤ w5.heap.size := by have := K5.out.2.2.1.size; have := H0.out.2.2; omega
  have hB5 : Below w.heap.size w w5 := by
    have h1 := H0.out.1
    exact h1.trans (K5.out.2.2.below (by omega) h1.size)
  have hres5 : w5.heap[w.heap.size]? = some (.cells #[.int .i64 0, .int .i64 0, .slice none 0 0] 76 (0, 0)) := by
    have h2 := H0.out.2.2
    rw [K5.out.2.2.1.block _ (by omega) (by simp; omega)]
    exact H0.out.2.1
  have HF := Hid.mk (And.intro hB5 hres5)
  by_cases hgood : b5 = false ∧ q5 = s.size
  · obtain ⟨rfl, rfl⟩ := hgood
    have hne : ((s.size : Int) != (s.size : Int)) = false := by simp
    have hgl := (HOK.out rfl rfl).1
    have HWR := Hid.mk (HOK.out rfl rfl).2
    clear hB5 hres5
    go_wp2_with fail
    refine (fromCells_any r c v zs 4000 _ hr hc (by rw [← hgl]; exact K5.out.1)).mono ?_
    rintro e w6 ⟨x, rfl, hx, hb6⟩
    have hres6 : w6.heap[w.heap.size]? = some (.cells #[.int .i64 0, .int .i64 0, .slice none 0 0] 76 (0, 0)) := by
      rw [hb6.block _ (by omega)]; exact HF.out.2
    have hB6 : Below w.heap.size w w6 := HF.out.1.trans (hb6.mono HF.out.1.size)
    obtain ⟨_, _, sl, rfl, hg6⟩ := id hx
    obtain ⟨ao, cap, rfl, -⟩ := hg6.shape
    have r0 : w6.cell? ⟨w.heap.size, 0, none⟩ = some (.int .i64 0) := by simp [World.cell?, hres6]
    have r1 : w6.cell? ⟨w.heap.size, 1, none⟩ = some (.int .i64 0) := by simp [World.cell?, hres6]
    have r2 : w6.cell? ⟨w.heap.size, 2, none⟩ = some (.slice none 0 0) := by simp [World.cell?, hres6]
    have z0 : w6.frozen? ⟨w.heap.size, 0, none⟩ = false := by simp [World.frozen?, hres6]
    have z1 : w6.frozen? ⟨w.heap.size, 1, none⟩ = false := by simp [World.frozen?, hres6]
    have z2 : w6.frozen? ⟨w.heap.size, 2, none⟩ = false := by simp [World.frozen?, hres6]
    have HTy : Hid (Ty w6 w.heap.size 76) := Hid.mk ⟨_, _, hres6⟩
    have K6 := Hid.mk (And.intro hg6 hB6)
    clear hg6 hB6 hx hb6 hres6 K5 c0 c1 c2 c3 c4
    go_wp2_with fail
    refine bodyPost_ret (v := .tuple #[.agg #[.int .i64 r, .int .i64 c, .slice ao (r * c) cap], .bool true]) ?_ rfl ?_
    · (simp [results, Tryz.results74, go_sem, r0, r1, r2]; done)
    · refine ⟨_, _, rfl, .inl ⟨rfl, r, c, zs, HWR.out, ⟨hr, hc, _, rfl, K6.out.1.keep (KT.setCell (KT.setCell (KT.setCell (KT.refl _) HTy.out (by decide) (by decide) _) (HTy.out.setCell _ _) (by decide) (by decide) _) ((HTy.out.setCell _ _).setCell _ _) (by decide) (by decide) _)⟩⟩, ?_⟩
      exact ((K6.out.2.setCell (Nat.le_refl _) _).setCell (Nat.le_refl _) _).setCell (Nat.le_refl _) _
  · have r0 : w5.cell? ⟨w.heap.size, 0, none⟩ = some (.int .i64 0) := by simp [World.cell?, hres5]
    have r1 : w5.cell? ⟨w.heap.size, 1, none⟩ = some (.int .i64 0) := by simp [World.cell?, hres5]
    have r2 : w5.cell? ⟨w.heap.size, 2, none⟩ = some (.slice none 0 0) := by simp [World.cell?, hres5]
    have z0 : w5.frozen? ⟨w.heap.size, 0, none⟩ = false := by simp [World.frozen?, hres5]
    have z1 : w5.frozen? ⟨w.heap.size, 1, none⟩ = false := by simp [World.frozen?, hres5]
    have z2 : w5.frozen? ⟨w.heap.size, 2, none⟩ = false := by simp [World.frozen?, hres5]
    clear hB5 hres5
    cases b5
    case' false =>
      have hne : ((q5 : Int) != (s.size : Int)) = true := by simp; intro e; exact hgood ⟨rfl, by omega⟩
    all_goals
      clear hgood
      go_wp2_with fail
      refine bodyPost_ret (v := .tuple #[.agg #[.int .i64 0, .int .i64 0, .slice none 0 0], .bool false]) ?_ rfl ?_
      · (simp [results, Tryz.results74, go_sem, r0, r1, r2]; done)
      · exact ⟨_, _, rfl, .inr ⟨rfl, rfl⟩, ((HF.out.1.setCell (Nat.le_refl _) _).setCell (Nat.le_refl _) _).setCell (Nat.le_refl _) _⟩
end Go.Proofs.YtfjbijpagaipnaaGreatDoor
namespace Go.Proofs.YtfjbijpagaipnaaGreatDoor
open Go.RowKit
theorem IsM.keepT {w w' : World} {v : Value} {r c L : Nat} {zs : List Int} (h : IsM w v r c zs L) (hk : KT w w') : IsM w' v r c zs L := by
  obtain ⟨h0, h1, sl, h2, h3⟩ := h
  exact ⟨h0, h1, sl, h2, h3.keep hk⟩
abbrev Hm := Option (Nat × Nat × Nat × List Int)
def SlotM (w : World) : Slt → Hm → Prop
  | none, none => True
  | some x, some y => x.1 = y.1 ∧ x.2.1 = y.2.1 ∧ x.2.2.1 = y.2.2.1 ∧ IsM w (.agg #[.int .i64 (x.2.1 : Nat), .int .i64 (x.2.2.1 : Nat), x.2.2.2]) y.2.1 y.2.2.1 y.2.2.2 200000000
  | _, _ => False
def Held (w : World) (b : Nat) (ms : List Hm) (nx : Nat) : Prop := ms.length = 24 ∧ nx ≤ 1000000 ∧ ∃ sl, Sg w b sl nx ∧ ∀ i, i < 24 → SlotM w (sl.getD i none) (ms.getD i none)
theorem SlotM.keep {w w' : World} {x : Slt} {y : Hm} (h : SlotM w x y) (hk : KT w w') : SlotM w' x y := by
  cases x with
  | none => cases y <;> exact h
  | some x => cases y with
    | none => exact h
    | some y => exact ⟨h.1, h.2.1, h.2.2.1, h.2.2.2.keepT hk⟩
theorem Held.lt {w : World} {b : Nat} {ms : List Hm} {nx : Nat} (h : Held w b ms nx) : b < w.heap.size := h.2.2.choose_spec.1.lt
theorem Held.ty {w : World} {b : Nat} {ms : List Hm} {nx : Nat} (h : Held w b ms nx) : Ty w b 109 := h.2.2.choose_spec.1.ty
theorem Held.below {w w' : World} {b : Nat} {ms : List Hm} {nx : Nat} (h : Held w b ms nx) (hb : Below w.heap.size w w') : Held w' b ms nx := by
  obtain ⟨h0, hn, sl, h1, h2⟩ := h
  exact ⟨h0, hn, sl, h1.below hb, fun i hi => (h2 i hi).keep (KT.of_below hb)⟩
theorem Held.fr {w w' : World} {b p : Nat} {ms : List Hm} {nx : Nat} (h : Held w b ms nx) (hf : Fr p w w') (hne : b ≠ p) : Held w' b ms nx := by
  obtain ⟨h0, hn, sl, h1, h2⟩ := h
  exact ⟨h0, hn, sl, h1.fr hf hne, fun i hi => (h2 i hi).keep hf.2⟩
theorem SlotM.none_iff {w : World} {x : Slt} {y : Hm} (h : SlotM w x y) : x = none ↔ y = none := by
  cases x <;> cases y <;> simp_all [SlotM]
theorem SlotM.shape {w : World} {x : Nat × Nat × Nat × Value} {y : Hm} (h : SlotM w (some x) y) : ∃ ao n cap, x.2.2.2 = .slice ao n cap := by
  cases y with
  | none => exact h.elim
  | some y =>
    obtain ⟨-, -, -, -, -, sl, h2, h3⟩ := h
    obtain ⟨ao, cap, rfl, -⟩ := h3.shape
    simp only [Value.agg.injEq, Array.mk.injEq, List.cons.injEq, and_true] at h2
    exact ⟨ao, _, cap, h2.2.2⟩
theorem getD_past24 {sl : List Slt} (h : sl.length = 24) {k : Nat} {x : Nat × Nat × Nat × Value} (hx : sl.getD k none = some x) : k < 24 := by
  rcases Nat.lt_or_ge k 24 with h1 | h1
  · exact h1
  · rw [List.getD, List.getElem?_eq_none (by omega)] at hx; cases hx
theorem hm_set {ms : List Hm} {k i : Nat} {x : Hm} (hk : k < ms.length) : (ms.set k x).getD i none = if i = k then x else ms.getD i none := by
  by_cases h : i = k
  · subst h; simp [List.getD, hk]
  · have h' : ¬ k = i := fun e => h e.symm
    simp [List.getD, h, h']
def FreeAt (ms : List Hm) (i : Nat) : Prop := i < 24 ∧ ms.getD i none = none ∧ ∀ j, j < i → ms.getD j none ≠ none
theorem FreeAt.uniq {ms : List Hm} {i j : Nat} (h : FreeAt ms i) (k : FreeAt ms j) : i = j := by
  rcases Nat.lt_trichotomy i j with h1 | h1 | h1
  · exact absurd h.2.1 (k.2.2 i h1)
  · exact h1
  · exact absurd k.2.1 (h.2.2 j h1)
theorem FreeAt.of {w : World} {sl : List Slt} {ms : List Hm} (h : ∀ i, i < 24 → SlotM w (sl.getD i none) (ms.getD i none)) {i : Nat} (hf : FirstFree sl i) : FreeAt ms i :=
  ⟨hf.1, (h i hf.1).none_iff.1 hf.2.1, fun j hj e => hf.2.2 j hj ((h j (by have := hf.1; omega)).none_iff.2 e)⟩
theorem no_room {w : World} {sl : List Slt} {ms : List Hm} (hl : sl.length = 24) (h : ∀ i, i < 24 → SlotM w (sl.getD i none) (ms.getD i none)) (hc : sl.countP Option.isNone = 0) : ∀ i, i < 24 → ms.getD i none ≠ none := by
  intro i hi e
  have h1 := (h i hi).none_iff.2 e
  rw [List.countP_eq_zero] at hc
  have h2 := hc (sl[i]'(by omega)) (List.getElem_mem _)
  rw [List.getD, List.getElem?_eq_getElem (show i < sl.length from by omega)] at h1
  simp at h1
  simp [h1] at h2
def Wr (s : ByteArray) : Prop := ∃ r c zs, r ≤ 99 ∧ c ≤ 99 ∧ Writes s r c zs 4000
set_option maxRecDepth 100000 in
set_option maxHeartbeats 1000000 in
theorem type_no (b : Nat) (s : ByteArray) (w : World) (hs : 4000 < s.size ∨ ¬ Wr s) :
    Calls Tryz.prog 40 #[.pointer (some ⟨b, 0, none⟩), .string s] w fun e w' => e = .returned (.tuple #[.int .i64 (-1), .int .i64 1]) ∧ Below w.heap.size w w' := by
  by_cases h4 : s.size ≤ 4000
  · have hno : ¬ Wr s := by
      rcases hs with h | h
      · omega
      · exact h
    have HN := Hid.mk hno
    clear hs hno
    go_enter Tryz.func40, Tryz.ntmps40
    go_wp2_with fail
    refine (read_gen s _ h4).mono ?_
    rintro e w1 ⟨x, ok, rfl, hx, hb⟩
    rcases hx with ⟨rfl, r, c, zs, h1, h2⟩ | ⟨rfl, rfl⟩
    · exact absurd ⟨r, c, zs, h2.1, h2.2.1, h1⟩ HN.out
    · have HB := Hid.mk hb
      clear hb
      go_wp2_with fail
      go_ret2
      exact ⟨rfl, HB.out.trans ((Below.refl _ _).alloc HB.out.size _)⟩
  · have h4' : (4000 : Int) < (s.size : Int) := by omega
    clear h4 hs
    go_enter Tryz.func40, Tryz.ntmps40
    go_wp2_with fail
    go_ret2
    exact ⟨rfl, Below.refl _ _⟩
def TypeOut (b : Nat) (r c : Nat) (zs : List Int) (ms : List Hm) (nx : Nat) (w w' : World) (h e : Int) : Prop :=
  (h = -1 ∧ e = 4 ∧ ¬ FitsP r c zs ∧ Below w.heap.size w w') ∨ (h = -1 ∧ e = 5 ∧ FitsP r c zs ∧ (∀ i, i < 24 → ms.getD i none ≠ none) ∧ Below w.heap.size w w') ∨
  (h = (nx : Int) ∧ e = 0 ∧ FitsP r c zs ∧ (∃ i, FreeAt ms i ∧ Held w' b (ms.set i (some (nx, r, c, zs))) (nx + 1)) ∧ Fr b w w')
set_option maxRecDepth 100000 in
set_option maxHeartbeats 2000000 in
theorem type_yes (b : Nat) (s : ByteArray) (r c : Nat) (zs : List Int) (ms : List Hm) (nx : Nat) (w : World) (hst : Held w b ms nx) (hnx : nx < 1000000) (hs : s.size ≤ 4000) (hr : r ≤ 99) (hc : c ≤ 99) (hw : Writes s r c zs 4000) :
    Calls Tryz.prog 40 #[.pointer (some ⟨b, 0, none⟩), .string s] w fun e w' => ∃ h e' : Int, e = .returned (.tuple #[.int .i64 h, .int .i64 e']) ∧ TypeOut b r c zs ms nx w w' h e' := by
  obtain ⟨hm24, -, sl, hsg, hsl⟩ := hst
  have HS := Hid.mk (And.intro hsg (And.intro hsl hm24))
  have HW := Hid.mk hw
  have hbl := hsg.lt
  clear hsg hsl hw hm24
  go_enter Tryz.func40, Tryz.ntmps40
  go_wp2_with fail
  refine (read_ok s r c zs 4000 _ hs hr hc HW.out).mono ?_
  rintro e w1 ⟨x, rfl, hx, hb1⟩
  obtain ⟨_, _, sl0, rfl, hg⟩ := id hx
  obtain ⟨ao, cap, rfl, -⟩ := hg.shape
  clear hg
  obtain ⟨N, hN⟩ : ∃ N, N = r * c := ⟨_, rfl⟩
  rw [← hN] at hx ⊢
  clear hN
  have K1 := Hid.mk (And.intro hx hb1)
  clear hx hb1
  go_wp2_with fail
  refine (tooBig_any _ r c zs 4000 _ (K1.out.1.below ((Below.refl _ _).alloc (Nat.le_refl _) _)) (by omega)).mono ?_
  rintro e w2 ⟨fb, rfl, hf, hb2⟩
  have h12 : Below w1.heap.size w1 w2 := ((Below.refl w1.heap.size w1).alloc (Nat.le_refl _) _).trans (hb2.mono (by simp))
  have h02 : Below w.heap.size w w2 := K1.out.2.trans (h12.mono K1.out.2.size)
  have m0 : w2.cell? ⟨w1.heap.size, 0, none⟩ = some (.int .i64 r) := cell_later hb2 (by simp)
  have m1 : w2.cell? ⟨w1.heap.size, 1, none⟩ = some (.int .i64 c) := cell_later hb2 (by simp)
  have m2 : w2.cell? ⟨w1.heap.size, 2, none⟩ = some (.slice ao N cap) := cell_later hb2 (by simp)
  have K2 := Hid.mk (And.intro (K1.out.1.below h12) (And.intro h02 hf))
  clear hb2 h12 h02 K1 hf
  cases fb
  · have HNF : Hid (¬ FitsP r c zs) := Hid.mk (fun h => by have := K2.out.2.2.2 h; cases this)
    go_wp2_with fail
    go_ret2
    exact ⟨_, _, rfl, .inl ⟨rfl, rfl, HNF.out, K2.out.2.1⟩⟩
  · have HFP : Hid (FitsP r c zs) := Hid.mk (K2.out.2.2.1 rfl)
    go_wp2_with fail
    refine (room_any b sl nx _ (HS.out.1.below K2.out.2.1)).mono ?_
    rintro e w' ⟨rfl, rfl⟩
    obtain ⟨rm, hrm⟩ : ∃ rm, rm = sl.countP Option.isNone := ⟨_, rfl⟩
    have HRM := Hid.mk hrm
    rw [← hrm]
    clear hrm
    by_cases h0 : rm = 0
    · subst h0
      go_wp2_with fail
      go_ret2
      exact ⟨_, _, rfl, .inr (.inl ⟨rfl, rfl, HFP.out, no_room HS.out.1.1 HS.out.2.1 HRM.out.symm, K2.out.2.1⟩)⟩
    · obtain ⟨n, hn⟩ := FirstFree.exists HS.out.1.1 (show 0 < sl.countP Option.isNone from by have := HRM.out; omega)
      have HFF := Hid.mk hn
      have h0' : ¬ ((rm : Int) < 1) := by omega
      clear hn h0
      go_wp2_with fail
      refine (keep_any b r c ao N cap sl nx n _ (HS.out.1.below K2.out.2.1) HFF.out (by omega)).mono ?_
      rintro e w3 ⟨rfl, hS3, hF3⟩
      have K3 := Hid.mk (And.intro hS3 (And.intro (K2.out.1.keepT hF3.2) ((Fr.of_below (p := b) K2.out.2.1).trans hF3)))
      clear hS3 hF3 K2 m0 m1 m2
      go_wp2_with fail
      go_ret2
      refine ⟨_, _, rfl, .inr (.inr ⟨rfl, rfl, HFP.out, ⟨n, FreeAt.of HS.out.2.1 HFF.out, ?_⟩, K3.out.2.2⟩)⟩
      refine ⟨by simp [HS.out.2.2], by omega, _, K3.out.1, fun i hi => ?_⟩
      rw [slt_set (by have := HS.out.1.1; have := HFF.out.1; omega), hm_set (by have := HS.out.2.2; have := HFF.out.1; omega)]
      by_cases hin : i = n
      · rw [if_pos hin, if_pos hin]
        exact ⟨rfl, rfl, rfl, K3.out.2.1.mono (by omega)⟩
      · rw [if_neg hin, if_neg hin]
        exact (HS.out.2.1 i hi).keep K3.out.2.2.2
end Go.Proofs.YtfjbijpagaipnaaGreatDoor
namespace Go.Proofs.YtfjbijpagaipnaaGreatDoor
open Go.RowKit
set_option maxRecDepth 100000 in
set_option maxHeartbeats 8000000 in
theorem write_any (v : Value) (r c : Nat) (zs : List Int) (L : Nat) (w : World) (hm : IsM w v r c zs L) (hL : L ≤ 200000000) (htab : Tab w) :
    Calls Tryz.prog 87 #[v] w fun e w' => e = .returned (.string ⟨(matT r c zs).toArray⟩) ∧ Below w.heap.size w w' := by
  have HM := Hid.mk (And.intro hm htab)
  obtain ⟨hr, hc, sl, rfl, hg⟩ := hm
  obtain ⟨ao, cap, rfl, -⟩ := hg.shape
  have hzl : zs.length = r * c := hg.1
  have HZ := Hid.mk hzl
  clear hg hzl htab
  obtain ⟨N, hN⟩ : ∃ N, N = r * c := ⟨_, rfl⟩
  rw [← hN] at HM ⊢
  clear hN
  obtain ⟨W0, hW0⟩ : ∃ W0, W0 = w.alloc (.cells #[.int .i64 r, .int .i64 c, .slice ao N cap] 76) := ⟨_, rfl⟩
  have HW := Hid.mk hW0
  clear hW0
  have hw0 : W0.heap.size = w.heap.size + 1 := by rw [HW.out]; simp
  have HB0 : Hid (Below w.heap.size w W0) := Hid.mk (by rw [HW.out]; exact (Below.refl _ _).alloc (Nat.le_refl _) _)
  have hrl := dec_le2 r (by omega)
  have hcl := dec_le2 c (by omega)
  go_enter Tryz.func87, Tryz.ntmps87
  go_upto_region 1 with fail
  go_cut [3] from 6 to 15 (fun t wx => t = .string ⟨(partT r c zs 0).toArray⟩ ∧ Below (w.heap.size + 1) W0 wx)
  case first =>
    go_region_with (first
      | (go_at_call 42; refine (rows_raw _ _ _ _ _ _).mono ?_; rintro e w' ⟨rfl, rfl⟩)
      | (go_at_call 43; refine (cols_raw _ _ _ _ _ _).mono ?_; rintro e w' ⟨rfl, rfl⟩)
      | (go_at_call 149; refine (Tryz.strconv_Itoa_small _ (by omega) _).mono ?_; rintro e w' ⟨rfl, rfl⟩))
    all_goals
      go_wp2_with fail
      go_meet
      case rel =>
        rw [HW.out]
        exact ⟨part0 r c zs, by repeat (first | exact Below.refl _ _ | refine Below.drew ?_ | refine Below.alloc ?_ (by simp <;> omega) _)⟩
  case rest =>
    obtain ⟨rfl, hbc⟩ := hcut
    have HBC := Hid.mk hbc
    clear hbc
    obtain ⟨T0, hT0⟩ : ∃ T0, T0 = partT r c zs 0 := ⟨_, rfl⟩
    have hT0l : T0.length ≤ 10 := by
      rw [hT0]; unfold partT; simp [bodyT]; omega
    have HT0 := Hid.mk hT0
    rw [← hT0]
    clear hT0
    go_wp2_with fail
    go_loopw [3, 4] (fun t i wr => ∃ (k : Nat) (T : List UInt8), k ≤ r ∧ i = .int .i64 k ∧ t = .string ⟨T.toArray⟩ ∧ T.length ≤ 250000000000 * k + 10 ∧ Below (w.heap.size + 1) W0 wr ∧ Hid (T = partT r c zs (k * c))) (fun _ i _ => r - (intOf i).toNat)
    case atStart => exact ⟨0, T0, Nat.zero_le _, rfl, rfl, by omega, HBC.out, Hid.mk (by rw [HT0.out, Nat.zero_mul])⟩
    case round =>
      rename World => wr0
      obtain ⟨k, T, hk, rfl, rfl, hT, hbel, HI⟩ := hrel
      have hwr := hbel.size
      have hbx : MBox wr0 w.heap.size r c (.slice ao N cap) := (MBox.new w r c (.slice ao N cap) rfl).below (by rw [← HW.out]; exact hbel) (by omega)
      obtain ⟨a0, a1, a2, -⟩ := hbx.cells
      have HB := Hid.mk hbel
      clear hbel hbx
      go_wp2_with fail
      refine (rows_raw _ _ _ _ _ _).mono ?_
      rintro e w' ⟨rfl, rfl⟩
      by_cases hkr : k < r
      · go_wp2_with fail
        go_loopw [3, 5] (fun t i ws => ∃ (j : Nat) (T' : List UInt8), j ≤ c ∧ i = .int .i64 j ∧ t = .string ⟨T'.toArray⟩ ∧ T'.length ≤ 250000000000 * k + 10 + 2500000000 * j ∧ Below (w.heap.size + 1) W0 ws ∧ Hid (T' = partT r c zs (k * c + j))) (fun _ i _ => c - (intOf i).toNat)
        case atStart => exact ⟨0, T, Nat.zero_le _, rfl, rfl, by omega, HB.out.alloc (by omega) _, Hid.mk (by rw [HI.out, Nat.add_zero])⟩
        case round =>
          clear a0 a1 a2
          obtain ⟨j, T', hj, rfl, rfl, hT', hbel, HJ⟩ := hrel
          have hws := hbel.size
          have hbx : MBox wr w.heap.size r c (.slice ao N cap) := (MBox.new w r c (.slice ao N cap) rfl).below (by rw [← HW.out]; exact hbel) (by omega)
          obtain ⟨a0, a1, a2, -⟩ := hbx.cells
          have HB2 := Hid.mk (And.intro hbel hbx)
          clear hbel hbx
          go_wp2_with fail
          refine (cols_raw _ _ _ _ _ _).mono ?_
          rintro e w' ⟨rfl, rfl⟩
          have b0 := cell1 a0
          have b1 := cell1 a1
          have b2 := cell1 a2
          by_cases hjc : j < c
          · have hcases : k = 0 ∨ (0 < k ∧ j = 0) ∨ (0 < k ∧ 0 < j) := by omega
            obtain ⟨jj, hjj⟩ : ∃ jj, jj = j := ⟨_, rfl⟩
            have HJJ := Hid.mk hjj
            have hjjc : jj < c := by omega
            obtain ⟨S, hS⟩ : ∃ S : List UInt8, S = if 0 < k ∧ jj = 0 then [59] else [] := ⟨_, rfl⟩
            have HS := Hid.mk hS
            have hnx := HZ.out
            have hidx : k * c + jj < zs.length := by rw [hnx]; exact idx_lt hkr hjjc
            have HNX := Hid.mk (partT_next (r := r) (i := k) hjjc hidx)
            clear hnx hidx
            rcases hcases with h0 | ⟨h0, h1⟩ | ⟨h0, h1⟩
            case' inl =>
              have f1 : decide (0 < k) = false := decide_eq_false (by omega)
              have f2 : decide ((0 : Int) < (k : Int)) = false := decide_eq_false (by omega)
              rw [if_neg (by omega)] at hS
              have HS1 := Hid.mk hS
              clear hS h0 hjj
            case' inr.inl =>
              rw [if_pos ⟨h0, by omega⟩] at hS
              have HS1 := Hid.mk hS
              clear hS hjj
              subst h1
            case' inr.inr =>
              have f1 : ((j : Int) == 0) = false := beq_eq_false_iff_ne.2 (by omega)
              rw [if_neg (by omega)] at hS
              have HS1 := Hid.mk hS
              clear hS hjj
            all_goals
              go_wp2_with fail
              first
                | refine (at_in _ r c k j zs L _ (HM.out.1.below ?_) hkr hjc).mono ?_
                | refine (at_in _ r c k 0 zs L _ (HM.out.1.below ?_) hkr hjc).mono ?_
              · exact HB0.out.trans ((HB2.out.1.alloc (by omega) _).mono (by omega))
              rintro e w2 ⟨x, rfl, hx, hb2⟩
              obtain ⟨nb, bo, mm, ecap, rfl⟩ := hx.shape
              have hb02 : Below w.heap.size w w2 := (HB0.out.trans ((HB2.out.1.alloc (by omega) _).mono (by omega))).trans (hb2.mono (by simp; omega))
              have hb2' : Below (w.heap.size + 1) W0 w2 := (HB2.out.1.alloc (by omega) _).trans (hb2.mono (by simp; omega))
              have K2 := Hid.mk (And.intro hx (And.intro hb02 hb2'))
              clear hx hb2 hb02 hb2'
              go_wp2_with fail
              refine (decimal_any _ _ L _ K2.out.1 hL (HM.out.2.below K2.out.2.1)).mono ?_
              rintro e w3 ⟨rfl, hb3⟩
              have hb3' : Below (w.heap.size + 1) W0 w3 := K2.out.2.2.trans (hb3.mono (by have := K2.out.2.2.size; omega))
              have K3 := Hid.mk hb3'
              clear hb3 hb3'
              obtain ⟨D, hD⟩ : ∃ D, D = Lib.itoa (zs.getD (k * c + jj) 0) := ⟨_, rfl⟩
              rw [HJJ.out] at hD
              rw [← hD]
              have hDl : D.length ≤ 2400000001 := by rw [hD]; exact itoa_len K2.out.1 hL
              rw [← HJJ.out] at hD
              have HD := Hid.mk hD
              clear hD
              go_wp2_with fail
              go_roundw
              case measure => simp [intOf]; omega
              case rel =>
                have hv : T' ++ (S ++ (32 :: D)) = partT r c zs (k * c + (jj + 1)) := by
                  rw [show k * c + (jj + 1) = k * c + jj + 1 from rfl, HNX.out, ← HS.out, ← HD.out, HJJ.out, ← HJ.out]
                have hl : (T' ++ (S ++ (32 :: D))).length ≤ T'.length + 2400000010 := by
                  have : S.length ≤ 1 := by rw [HS1.out]; simp
                  simp only [List.length_append, List.length_cons]; omega
                rw [HJJ.out] at hv
                have hl2 : ∀ n : Nat, n = jj + 1 → (T' ++ (S ++ (32 :: D))).length ≤ 250000000000 * k + 10 + 2500000000 * n := by
                  intro n hn
                  rw [HJJ.out] at hn
                  subst hn
                  exact Nat.le_trans hl (by omega)
                first
                  | refine ⟨j + 1, T' ++ (S ++ (32 :: D)), by omega, by go_num, ?_, hl2 _ (by rw [HJJ.out]), K3.out, Hid.mk hv⟩
                  | refine ⟨0 + 1, T' ++ (S ++ (32 :: D)), by omega, by go_num, ?_, hl2 _ (by rw [HJJ.out]), K3.out, Hid.mk hv⟩
                rw [HS1.out]
                first | exact wval0 _ _ | exact wval1 _ _
          · have hje : j = c := by omega
            have HJE := Hid.mk hje
            clear hje
            go_wp2_with fail
            go_roundw
            case measure => simp [intOf]; omega
            case rel => exact ⟨k + 1, T', by omega, by go_num, rfl, by have := HJE.out; omega, HB2.out.1.alloc (by omega) _, Hid.mk (by rw [HJ.out, HJE.out, Nat.add_mul, Nat.one_mul])⟩
      · have hke : k = r := by omega
        have HKE := Hid.mk hke
        clear hke
        go_wp2_with fail
        go_ret
        refine ⟨rret_w (by rw [HI.out, HKE.out, partT_all (by rw [HZ.out]; exact Nat.le_refl _)]), ?_⟩
        exact HB0.out.trans ((HB.out.alloc (by omega) _).mono (by omega))
end Go.Proofs.YtfjbijpagaipnaaGreatDoor
namespace Go.Proofs.YtfjbijpagaipnaaGreatDoor
open Go.RowKit
def ShowOut (ms : List Hm) (h : Int) (t : List UInt8) (e : Int) : Prop := (e = 0 ∧ ∃ k x, k < 24 ∧ ms.getD k none = some x ∧ (x.1 : Int) = h ∧ t = matT x.2.1 x.2.2.1 x.2.2.2) ∨ (e = 2 ∧ t = [] ∧ ∀ k, k < 24 → ∀ x, ms.getD k none = some x → (x.1 : Int) ≠ h)
theorem none_of {w : World} {sl : List Slt} {ms : List Hm} {h : Int} (hsl : ∀ i, i < 24 → SlotM w (sl.getD i none) (ms.getD i none)) (hno : ∀ k, k < 24 → ∀ x, sl.getD k none = some x → (x.1 : Int) ≠ h) : ∀ k, k < 24 → ∀ x, ms.getD k none = some x → (x.1 : Int) ≠ h := by
  intro k hk x hx
  have h1 := hsl k hk
  rw [hx] at h1
  cases hs : sl.getD k none with
  | none => rw [hs] at h1; exact h1.elim
  | some y =>
    rw [hs] at h1
    have := hno k hk y hs
    rw [h1.1] at this
    exact this
theorem some_of {w : World} {sl : List Slt} {ms : List Hm} {k : Nat} {x : Nat × Nat × Nat × Value} (hsl : ∀ i, i < 24 → SlotM w (sl.getD i none) (ms.getD i none)) (hk : k < 24) (hx : sl.getD k none = some x) : ∃ y, ms.getD k none = some y ∧ x.1 = y.1 ∧ x.2.1 = y.2.1 ∧ x.2.2.1 = y.2.2.1 ∧ IsM w (.agg #[.int .i64 (x.2.1 : Nat), .int .i64 (x.2.2.1 : Nat), x.2.2.2]) y.2.1 y.2.2.1 y.2.2.2 200000000 := by
  have h1 := hsl k hk
  rw [hx] at h1
  cases hs : ms.getD k none with
  | none => rw [hs] at h1; exact h1.elim
  | some y => rw [hs] at h1; exact ⟨y, rfl, h1⟩
set_option maxRecDepth 100000 in
set_option maxHeartbeats 1000000 in
theorem show_any (b : Nat) (h : Int) (ms : List Hm) (nx : Nat) (w : World) (hst : Held w b ms nx) (htab : Tab w) :
    Calls Tryz.prog 50 #[.pointer (some ⟨b, 0, none⟩), .int .i64 h] w fun e w' => ∃ t e', e = .returned (.tuple #[.string ⟨t.toArray⟩, .int .i64 e']) ∧ ShowOut ms h t e' ∧ Below w.heap.size w w' := by
  obtain ⟨hm24, -, sl, hsg, hsl⟩ := hst
  have HS := Hid.mk (And.intro hsg (And.intro hsl (And.intro hm24 htab)))
  have HSH : Hid (∀ k x, sl.getD k none = some x → ∃ ao n cap, x.2.2.2 = .slice ao n cap) := Hid.mk (fun k x hx => by
    have hk := getD_past24 hsg.1 hx
    have h1 := hsl k hk
    rw [hx] at h1
    exact h1.shape)
  clear hsg hsl hm24 htab
  go_enter Tryz.func50, Tryz.ntmps50
  go_wp2_with fail
  refine (find_any b h sl nx _ HS.out.1 HSH.out).mono ?_
  rintro e w1 ⟨⟨v, ok, rfl, hf⟩, hb1⟩
  rcases hf with ⟨rfl, k, hk, x, hx, hxh, rfl⟩ | ⟨rfl, rfl, hno⟩
  · obtain ⟨y, hy, e1, e2, e3, hM⟩ := some_of HS.out.2.1 hk hx
    obtain ⟨ao, n, cap, hv⟩ := HSH.out k x hx
    obtain ⟨hd, r, c, v⟩ := x
    obtain ⟨hd', r', c', zs⟩ := y
    simp only at e1 e2 e3 hM hv hxh
    subst e1; subst e2; subst e3; subst hv
    have K := Hid.mk (And.intro hM (And.intro hb1 (And.intro hy hxh)))
    clear hM hb1 hy hxh hx
    go_wp2_with fail
    have hB : Below w.heap.size w (w1.alloc (.cells #[.int .i64 r, .int .i64 c, .slice ao n cap] 76)) := K.out.2.1.alloc K.out.2.1.size _
    refine (write_any _ r c zs 200000000 _ (K.out.1.below hB) (by omega) (HS.out.2.2.2.below hB)).mono ?_
    rintro e w2 ⟨rfl, hb2⟩
    have K2 := Hid.mk (hB.trans (hb2.mono hB.size))
    clear hb2 hB
    obtain ⟨T, hT⟩ : ∃ T, T = matT r c zs := ⟨_, rfl⟩
    have HT := Hid.mk hT
    rw [← hT]
    clear hT
    go_wp2_with fail
    go_ret2
    exact ⟨_, _, rfl, .inl ⟨rfl, k, (hd, r, c, zs), hk, K.out.2.2.1, K.out.2.2.2, HT.out⟩, K2.out⟩
  · have K := Hid.mk (And.intro hb1 hno)
    clear hb1 hno
    go_wp2_with fail
    go_ret2
    exact ⟨[], _, rfl, .inr ⟨rfl, rfl, none_of HS.out.2.1 K.out.2⟩, K.out.1.alloc K.out.1.size _⟩
def FreeH (b : Nat) (ms : List Hm) (nx : Nat) (h : Int) (w w' : World) (e : Int) : Prop := (e = 0 ∧ ∃ k, k < 24 ∧ (∃ x, ms.getD k none = some x ∧ (x.1 : Int) = h) ∧ Held w' b (ms.set k none) nx ∧ Fr b w w') ∨ (e = 2 ∧ w' = w ∧ ∀ k, k < 24 → ∀ x, ms.getD k none = some x → (x.1 : Int) ≠ h)
theorem free_held (b : Nat) (h : Int) (ms : List Hm) (nx : Nat) (w : World) (hst : Held w b ms nx) :
    Calls Tryz.prog 164 #[.pointer (some ⟨b, 0, none⟩), .int .i64 h] w fun e w' => ∃ i : Int, e = .returned (.int .i64 i) ∧ FreeH b ms nx h w w' i := by
  obtain ⟨hm24, hnx, sl, hsg, hsl⟩ := hst
  refine (free_any b h sl nx w hsg).mono ?_
  rintro e w' ⟨i, rfl, hf⟩
  refine ⟨i, rfl, ?_⟩
  rcases hf with ⟨rfl, k, hk, ⟨x, hx, hxh⟩, hS, hF⟩ | ⟨rfl, rfl, hno⟩
  · obtain ⟨y, hy, e1, -⟩ := some_of hsl hk hx
    refine .inl ⟨rfl, k, hk, ⟨y, hy, by rw [← e1]; exact hxh⟩, ⟨by simp [hm24], hnx, _, hS, fun i hi => ?_⟩, hF⟩
    rw [slt_set (by have := hsg.1; omega), hm_set (by omega)]
    by_cases hik : i = k
    · rw [if_pos hik, if_pos hik]; trivial
    · rw [if_neg hik, if_neg hik]; exact (hsl i hi).keep hF.2
  · exact .inr ⟨rfl, rfl, none_of hsl hno⟩
set_option maxRecDepth 100000 in
theorem zero_facts : Tryz.zeroCells109.size = 121 ∧ Tryz.zeroCells109[120]? = some (.int .i64 0) ∧ ∀ i, i < 24 → Tryz.zeroCells109[i * 5]? = some (.bool false) := by
  refine ⟨rfl, rfl, fun i hi => ?_⟩
  obtain rfl | rfl | rfl | rfl | rfl | rfl | rfl | rfl | rfl | rfl | rfl | rfl | rfl | rfl | rfl | rfl | rfl | rfl | rfl | rfl | rfl | rfl | rfl | rfl : i = 0 ∨ i = 1 ∨ i = 2 ∨ i = 3 ∨ i = 4 ∨ i = 5 ∨ i = 6 ∨ i = 7 ∨ i = 8 ∨ i = 9 ∨ i = 10 ∨ i = 11 ∨ i = 12 ∨ i = 13 ∨ i = 14 ∨ i = 15 ∨ i = 16 ∨ i = 17 ∨ i = 18 ∨ i = 19 ∨ i = 20 ∨ i = 21 ∨ i = 22 ∨ i = 23 := by omega
  all_goals rfl
theorem rep_none {α : Type} (n i : Nat) : (List.replicate n (none : Option α)).getD i none = none := by
  rw [List.getD, List.getElem?_replicate]
  by_cases h : i < n
  · rw [if_pos h]; rfl
  · rw [if_neg h]; rfl
set_option maxRecDepth 100000 in
set_option maxHeartbeats 1000000 in
theorem new_held (w : World) :
    Calls Tryz.prog 38 #[] w fun e w' => e = .returned (.pointer (some ⟨w.heap.size, 0, none⟩)) ∧ Held w' w.heap.size (List.replicate 24 none) 0 ∧ Below w.heap.size w w' := by
  go_enter Tryz.func38, Tryz.ntmps38
  go_wp2_with fail
  go_ret
  refine ⟨rfl, ⟨by simp, by omega, List.replicate 24 none, ⟨by simp, Tryz.zeroCells109, heap_alloc_new w _, zero_facts.1, zero_facts.2.1, fun i hi => ?_⟩, fun i hi => ?_⟩, (Below.refl _ _).alloc (Nat.le_refl _) _⟩
  · rw [rep_none]
    exact zero_facts.2.2 i hi
  · rw [rep_none, rep_none]
    trivial
end Go.Proofs.YtfjbijpagaipnaaGreatDoor
