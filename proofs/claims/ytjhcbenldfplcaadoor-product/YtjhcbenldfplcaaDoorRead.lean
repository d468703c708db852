/- notation.Read of a text that writes a matrix. -/
import Derived.Test.YtjhcbenldfplcaaDoorEntries
import Derived.Test.YtjhcbenldfplcaaDoorFromC
namespace Go.Proofs.YtjhcbenldfplcaaDoor
open Go.RowKit

theorem Fr.below {p B : Nat} {a b : World} (h : Fr p a b) (hp : B ≤ p) (hB : B ≤ a.heap.size) : Below B a b := ⟨h.1.os, h.1.tape, h.1.output, h.1.size, fun k hk => h.1.block k (by omega) (by simp; omega)⟩
/-- The text s writes the matrix of r rows, c columns, entries zs; no entry has more than L signs. -/
def Writes (s : ByteArray) (r c : Nat) (zs : List Int) (L : Nat) : Prop := ∃ dr dc tks, s.data.toList = dr ++ (120 :: (dc ++ (58 :: bodyT c 0 tks))) ∧ Run dr ∧ Run dc ∧ decval dr = r ∧ decval dc = c ∧ tks.length = r * c ∧ zs.length = r * c ∧
  ∀ t, t < r * c → Tok (tks.getD t []) (zs.getD t 0) ∧ (tks.getD t []).length ≤ L
theorem stops_x (l : List UInt8) : Stops (120 :: l) := .inr ⟨120, l, rfl, .inr (by decide)⟩
theorem stops_colon (l : List UInt8) : Stops (58 :: l) := .inr ⟨58, l, rfl, .inr (by decide)⟩

set_option maxRecDepth 100000 in
set_option maxHeartbeats 4000000 in
theorem read_ok (s : ByteArray) (r c : Nat) (zs : List Int) (L : Nat) (w : World) (hs : s.size ≤ 4000) (hr : r ≤ 99) (hc : c ≤ 99) (hw : Writes s r c zs L) :
    Calls Tryd.prog 24 #[.string s] w fun e w' => ∃ x, e = .returned (.tuple #[x, .bool true]) ∧ IsM w' x r c zs L ∧ Below w.heap.size w w' := by
  obtain ⟨dr, dc, tks, htext, hdr, hdc, hvr, hvc, hl1, hl2, htok⟩ := hw
  obtain ⟨p, hp⟩ : ∃ p, p = w.heap.size + 1 := ⟨_, rfl⟩
  have hR0 : Rd ((w.alloc (.cells #[.int .i64 0, .int .i64 0, .slice none 0 0] 52)).alloc (.cells #[.string s, .int .i64 0, .bool false] 82)) p s 0 := by
    have := heap_alloc_new (w.alloc (.cells #[.int .i64 0, .int .i64 0, .slice none 0 0] 52)) (.cells #[.string s, .int .i64 0, .bool false] 82)
    rw [hp]
    simpa [Rd] using this
  have hrem0 : Rem s 0 (dr ++ (120 :: (dc ++ (58 :: bodyT c 0 tks)))) := ⟨Nat.zero_le _, by simpa using htext⟩
  have HREM := Hid.mk hrem0
  have HD := Hid.mk (And.intro hdr hdc)
  have HV := Hid.mk (And.intro hvr hvc)
  have HT := Hid.mk (And.intro hl1 (And.intro hl2 htok))
  have HP := Hid.mk hp
  have HR0 := Hid.mk hR0
  clear htext hdr hdc hvr hvc hl1 hl2 htok hrem0 hR0
  go_enter Tryd.func24, Tryd.ntmps24
  go_wp2_with fail
  rw [← HP.out]
  obtain ⟨W0, hW0⟩ : ∃ W0, W0 = (w.alloc (.cells #[.int .i64 0, .int .i64 0, .slice none 0 0] 52)).alloc (.cells #[.string s, .int .i64 0, .bool false] 82) := ⟨_, rfl⟩
  rw [← hW0] at HR0 ⊢
  have hB0 : Below w.heap.size w W0 := by
    rw [hW0]
    repeat (first | exact Below.refl _ _ | refine Below.alloc ?_ (by simp <;> omega) _)
  have hres : W0.heap[w.heap.size]? = some (.cells #[.int .i64 0, .int .i64 0, .slice none 0 0] 52 (0, 0)) := by
    rw [hW0, Below.heap_alloc _ _ _ (by simp)]; exact heap_alloc_new w _
  have hS0 : W0.heap.size = w.heap.size + 2 := by rw [hW0]; simp
  have H0 := Hid.mk (And.intro hB0 (And.intro hres hS0))
  clear hB0 hres hS0 hW0
  have hpw : w.heap.size < p := by omega
  clear hp
  refine (side_ok p s 0 dr _ _ HR0.out HREM.out hs HD.out.1 (stops_x _) (by have := HV.out.1; omega)).mono ?_
  rintro e w1 ⟨rfl, hR1, hF1⟩
  rw [HV.out.1]
  have K1 := Hid.mk (And.intro hR1 hF1)
  have hrem1 := HREM.out.app
  have HREM1 := Hid.mk hrem1
  clear hR1 hF1 hrem1
  go_wp2_with fail
  refine (want_ok p s _ 120 120 _ _ K1.out.1 HREM1.out (by omega) rfl).mono ?_
  rintro e w2 ⟨rfl, hR2, hF2⟩
  have K2 := Hid.mk (And.intro hR2 (K1.out.2.trans hF2))
  obtain ⟨_, _, hrem2⟩ := HREM1.out.cons
  have HREM2 := Hid.mk hrem2
  clear hR2 hF2 hrem2 K1
  go_wp2_with fail
  refine (side_ok p s _ dc _ _ K2.out.1 HREM2.out hs HD.out.2 (stops_colon _) (by have := HV.out.2; omega)).mono ?_
  rintro e w3 ⟨rfl, hR3, hF3⟩
  rw [HV.out.2]
  have K3 := Hid.mk (And.intro hR3 (K2.out.2.trans hF3))
  have hrem3 := HREM2.out.app
  have HREM3 := Hid.mk hrem3
  clear hR3 hF3 hrem3 K2
  go_wp2_with fail
  refine (want_ok p s _ 58 58 _ _ K3.out.1 HREM3.out (by omega) rfl).mono ?_
  rintro e w4 ⟨rfl, hR4, hF4⟩
  have K4 := Hid.mk (And.intro hR4 (K3.out.2.trans hF4))
  obtain ⟨_, _, hrem4⟩ := HREM3.out.cons
  have HREM4 := Hid.mk hrem4
  clear hR4 hF4 hrem4 K3
  go_wp2_with fail
  refine (entries_ok p s _ r c tks zs L _ K4.out.1 HREM4.out hs hr hc HT.out.1 HT.out.2.1 HT.out.2.2).mono ?_
  rintro e w5 ⟨v, rfl, hG5, hR5, hF5⟩
  obtain ⟨c0, c1, c2, c3, c4⟩ := hR5.cells
  have K5 := Hid.mk (And.intro hG5 (And.intro hR5 (K4.out.2.trans hF5)))
  clear hG5 hR5 hF5 K4
  have hne : ((s.size : Int) != (s.size : Int)) = false := by simp
  go_wp2_with fail
  refine (fromCells_any r c v zs L _ hr hc K5.out.1).mono ?_
  rintro e w6 ⟨x, rfl, hx, hb6⟩
  have hres6 : w6.heap[w.heap.size]? = some (.cells #[.int .i64 0, .int .i64 0, .slice none 0 0] 52 (0, 0)) := by
    have h1 := K5.out.2.2.1.size
    have h2 := H0.out.2.2
    rw [hb6.block _ (by omega), K5.out.2.2.1.block _ (by omega) (by simp; omega)]
    exact H0.out.2.1
  have hB6 : Below w.heap.size w w6 := by
    have h1 := H0.out.1
    have h2 : Below w.heap.size W0 w5 := K5.out.2.2.below (by omega) h1.size
    exact (h1.trans h2).trans (hb6.mono (Nat.le_trans h1.size h2.size))
  obtain ⟨_, _, sl, rfl, hg6⟩ := id hx
  obtain ⟨ao, cap, rfl, -⟩ := hg6.shape
  have r0 : w6.cell? ⟨w.heap.size, 0, none⟩ = some (.int .i64 0) := by simp [World.cell?, hres6]
  have r1 : w6.cell? ⟨w.heap.size, 1, none⟩ = some (.int .i64 0) := by simp [World.cell?, hres6]
  have r2 : w6.cell? ⟨w.heap.size, 2, none⟩ = some (.slice none 0 0) := by simp [World.cell?, hres6]
  have z0 : w6.frozen? ⟨w.heap.size, 0, none⟩ = false := by simp [World.frozen?, hres6]
  have z1 : w6.frozen? ⟨w.heap.size, 1, none⟩ = false := by simp [World.frozen?, hres6]
  have z2 : w6.frozen? ⟨w.heap.size, 2, none⟩ = false := by simp [World.frozen?, hres6]
  have HTy : Hid (Ty w6 w.heap.size 52) := Hid.mk ⟨_, _, hres6⟩
  have K6 := Hid.mk (And.intro hg6 hB6)
  clear hg6 hB6 hx hb6 hres6 K5 c0 c1 c2 c3 c4
  go_wp2_with fail
  refine bodyPost_ret (v := .tuple #[.agg #[.int .i64 r, .int .i64 c, .slice ao (r * c) cap], .bool true]) ?_ rfl ?_
  · (simp [results, Tryd.results24, go_sem, r0, r1, r2]; done)
  · refine ⟨_, rfl, ⟨hr, hc, _, rfl, K6.out.1.keep (KT.setCell (KT.setCell (KT.setCell (KT.refl _) HTy.out (by decide) (by decide) _) (HTy.out.setCell _ _) (by decide) (by decide) _) ((HTy.out.setCell _ _).setCell _ _) (by decide) (by decide) _)⟩, ?_⟩
    exact ((K6.out.2.setCell (Nat.le_refl _) _).setCell (Nat.le_refl _) _).setCell (Nat.le_refl _) _
end Go.Proofs.YtjhcbenldfplcaaDoor
