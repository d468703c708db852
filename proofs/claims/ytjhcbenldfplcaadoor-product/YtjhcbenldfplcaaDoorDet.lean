/- grid.Matrix.Det. -/
import Derived.Test.YtjhcbenldfplcaaDoorMinor
namespace Go.Proofs.YtjhcbenldfplcaaDoor
open Go.RowKit

def sumF : Nat → (Nat → Int) → Int
  | 0, _ => 0
  | k + 1, f => sumF k f + f k
def signed (c : Nat) (z : Int) : Int := if c % 2 = 1 then -z else z
def detF : Nat → (Nat → Nat → Int) → Int
  | 0, _ => 1
  | n + 1, f => sumF (n + 1) fun c => signed c (f 0 c * detF n fun i j => f (i + 1) (skip c j))
/-- zs holds the matrix f, of n rows and columns. -/
def Rep (n : Nat) (zs : List Int) (f : Nat → Nat → Int) : Prop := ∀ i j, i < n → j < n → zs.getD (i * n + j) 0 = f i j
theorem Rep.minor {n col : Nat} {zs ms : List Int} {f : Nat → Nat → Int} (h : Rep (n + 1) zs f) (hm : MinorOf (n + 1) (n + 1) col zs ms) : Rep n ms fun i j => f (i + 1) (skip col j) := by
  intro i j hi hj
  have := hm i j (by omega) (by omega)
  simp only [Nat.add_sub_cancel] at this
  rw [this]
  exact h (i + 1) (skip col j) (by omega) (by unfold skip; split <;> omega)
/-- How many limbs a determinant's number takes at the most. -/
def LD (L : Nat) : Nat → Nat
  | 0 => 2
  | n + 1 => L + LD L n + (n + 1)
theorem LD_mono (L : Nat) (n : Nat) : LD L n ≤ LD L (n + 1) := by rw [LD]; omega

/-- The boxes of Det's own: the matrix at b, the sum at d. -/
def Boxes (w : World) (b d r c : Nat) (sl : Value) (nb : Bool) (s : Value) : Prop :=
  w.cell? ⟨b, 0, none⟩ = some (.int .i64 r) ∧ w.cell? ⟨b, 1, none⟩ = some (.int .i64 c) ∧ w.cell? ⟨b, 2, none⟩ = some sl ∧ w.cell? ⟨d, 0, none⟩ = some (.bool nb) ∧ w.cell? ⟨d, 1, none⟩ = some s ∧
    w.frozen? ⟨d, 0, none⟩ = false ∧ w.frozen? ⟨d, 1, none⟩ = false
theorem Boxes.lt {w : World} {b d r c : Nat} {sl : Value} {nb : Bool} {s : Value} (h : Boxes w b d r c sl nb s) : b < w.heap.size ∧ d < w.heap.size := ⟨World.block_lt_of_cell? w _ h.1, World.block_lt_of_cell? w _ h.2.2.2.1⟩
theorem Boxes.below {w w' : World} {b d r c : Nat} {sl : Value} {nb : Bool} {s : Value} (h : Boxes w b d r c sl nb s) (hb : Below w.heap.size w w') : Boxes w' b d r c sl nb s := by
  have hl := h.lt.2
  obtain ⟨h1, h2, h3, h4, h5, h6, h7⟩ := h
  exact ⟨cell_later hb h1, cell_later hb h2, cell_later hb h3, cell_later hb h4, cell_later hb h5, by rw [hb.frozen (p := ⟨d, 0, none⟩) hl]; exact h6, by rw [hb.frozen (p := ⟨d, 1, none⟩) hl]; exact h7⟩
/-- The sum is written. -/
theorem Boxes.put {w : World} {b d r c : Nat} {sl : Value} {nb nb' : Bool} {s s' : Value} (h : Boxes w b d r c sl nb s) (hne : b ≠ d) : Boxes ((w.setCell ⟨d, 0, none⟩ (.bool nb')).setCell ⟨d, 1, none⟩ s') b d r c sl nb' s' := by
  obtain ⟨h1, h2, h3, h4, h5, h6, h7⟩ := h
  have o : ∀ i j : Nat, (⟨d, i, none⟩ : Addr) ≠ ⟨b, j, none⟩ := fun i j e => hne (by injection e with e1; exact e1.symm)
  have e0 : (w.setCell ⟨d, 0, none⟩ (.bool nb')).cell? ⟨d, 0, none⟩ = some (.bool nb') := World.cell?_setCell_same _ _ _ h4
  have e1 : (w.setCell ⟨d, 0, none⟩ (.bool nb')).cell? ⟨d, 1, none⟩ = some s := by rw [World.cell?_setCell_other _ _ _ _ (by simp)]; exact h5
  refine ⟨?_, ?_, ?_, ?_, ?_, by simpa using h6, by simpa using h7⟩
  · rw [World.cell?_setCell_other _ _ _ _ (o _ _), World.cell?_setCell_other _ _ _ _ (o _ _)]; exact h1
  · rw [World.cell?_setCell_other _ _ _ _ (o _ _), World.cell?_setCell_other _ _ _ _ (o _ _)]; exact h2
  · rw [World.cell?_setCell_other _ _ _ _ (o _ _), World.cell?_setCell_other _ _ _ _ (o _ _)]; exact h3
  · rw [World.cell?_setCell_other _ _ _ _ (by simp)]; exact e0
  · exact World.cell?_setCell_same _ _ _ e1

def DetSaid (n : Nat) : Prop := ∀ (v : Value) (zs : List Int) (f : Nat → Nat → Int) (L : Nat) (w : World), IsM w v n n zs L → Rep n zs f → LD L n ≤ 10000 → L ≤ 5000 →
    Calls Tryd.prog 22 #[v] w fun e w' => ∃ x, e = .returned x ∧ IntOut w w' x (detF n f) (LD L n)

set_option maxRecDepth 100000 in
set_option maxHeartbeats 2000000 in
theorem det_zero : DetSaid 0 := by
  intro v zs f L w hm hrep hl hL
  obtain ⟨_, _, sl, rfl, hg⟩ := hm
  obtain ⟨ao, cap, rfl, -⟩ := hg.shape
  clear hg
  go_enter Tryd.func22, Tryd.ntmps22
  go_wp2_with (first | (go_at_call 20; refine (isSquare_raw _ _ _ _ _ _).mono ?_; rintro e w' ⟨rfl, rfl⟩))
  refine (fromOne_any _).mono ?_
  rintro e w1 ⟨r, rfl, hr, hb⟩
  obtain ⟨nb, bo, n, ecap, rfl⟩ := hr.shape
  obtain ⟨hc, hf⟩ := bcell hb
  have hty : Ty w1 (w.heap.size + 1) 66 := Ty.below (Ty.alloc (Ty.at_ _ _ _ (by simp)) _) hb (by simp)
  have hz : w.heap.size + 2 < w1.heap.size := by have := hb.size; simp at this; omega
  have HT := Hid.mk hty
  have HR := Hid.mk hr
  have HB := Hid.mk hb
  clear hb hr hty
  go_wp2_with fail
  refine bodyPost_ret (v := .agg #[.bool nb, .slice bo n ecap]) ?_ rfl ?_
  · (simp [results, Tryd.results22, go_sem, hc]; done)
  · refine ⟨_, rfl, HR.out.keep (KU.setCell (KU.setCell (KU.refl _) HT.out (by decide) _) (HT.out.setCell _ _) (by decide) _), ?_⟩
    refine Below.setCell (Below.setCell ?_ (by simp) _) (by simp) _
    refine Below.trans ?_ (HB.out.mono (by simp <;> omega))
    repeat (first | exact Below.refl _ _ | refine Below.alloc ?_ (by simp <;> omega) _)
end Go.Proofs.YtjhcbenldfplcaaDoor
