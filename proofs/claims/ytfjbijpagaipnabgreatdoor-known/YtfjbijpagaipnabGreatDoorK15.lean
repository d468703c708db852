import Derived.Test.YtfjbijpagaipnabGreatDoorK14
import Derived.Test.YtfjbijpagaipnabGreatDoorK05
import Derived.Test.YtfjbijpagaipnabGreatDoorRows
import Derived.Test.YtfjbijpagaipnabGreatDoorK01
import Derived.WalkKit
import Derived.WalkSpells
import Derived.WalkLawsBesides
import Derived.Handy
import Derived.Deep.QuietTactic
import Derived.BigQuiet
import Derived.Test.YtfjbijpagaipnabGreatDoorK12
import Derived.Lib.ItoaLen
import Derived.Deep.RegionLaw
import Derived.Deep.CutRange
import Derived.Test.YtfjbijpagaipnabGreatDoorK03
import Derived.Deep.RegionHeld3
import Derived.Test.YtfjbijpagaipnabGreatDoorK13
namespace Go.Proofs.YtfjbijpagaipnabGreatDoor
open Go.RowKit
def DiagOut (r c : Nat) (zs : List Int) (e : Ending) : Prop := ∃ y : Bool, e = .returned (.bool y) ∧ (y = true ↔ ∀ i j, i < r → j < c → i ≠ j → ent c zs i j = 0)
theorem DiagOut.mk {r c : Nat} {zs : List Int} {e : Ending} (y : Bool) (h : e = .returned (.bool y)) (h2 : y = true ↔ ∀ i j, i < r → j < c → i ≠ j → ent c zs i j = 0) : DiagOut r c zs e := ⟨y, h, h2⟩
def OddOut (r c : Nat) (zs : List Int) (e : Ending) : Prop := ∃ z : Int, e = .returned (.int .i64 z) ∧ ((z = -1 ∧ ∀ i, i + 1 < r → i + 1 < c → ent c zs i i ∣ ent c zs (i + 1) (i + 1)) ∨ ∃ a : Nat, z = a ∧ a + 1 < r ∧ a + 1 < c ∧ ¬ ent c zs a a ∣ ent c zs (a + 1) (a + 1) ∧ ∀ i, i < a → ent c zs i i ∣ ent c zs (i + 1) (i + 1))
theorem OddOut.mk {r c : Nat} {zs : List Int} {e : Ending} (z : Int) (h : e = .returned (.int .i64 z)) (h2 : (z = -1 ∧ ∀ i, i + 1 < r → i + 1 < c → ent c zs i i ∣ ent c zs (i + 1) (i + 1)) ∨ ∃ a : Nat, z = a ∧ a + 1 < r ∧ a + 1 < c ∧ ¬ ent c zs a a ∣ ent c zs (a + 1) (a + 1) ∧ ∀ i, i < a → ent c zs i i ∣ ent c zs (i + 1) (i + 1)) : OddOut r c zs e := ⟨z, h, h2⟩
set_option maxRecDepth 100000 in
set_option maxHeartbeats 4000000 in
theorem isDiag_any (v : Value) (r c : Nat) (zs : List Int) (L : Nat) (w : World) (hm : IsM w v r c zs L) :
 Calls Tryz.prog 73 #[v] w fun e w' => DiagOut r c zs e ∧ Below w.heap.size w w' := by
 have HM := Hid.mk hm
 obtain ⟨hr, hc, sl, rfl, hg0⟩ := hm
 obtain ⟨ao, cap, rfl, -⟩ := hg0.shape
 clear hg0
 obtain ⟨N, hN⟩ : ∃ N, N = r * c := ⟨_, rfl⟩
 rw [← hN] at HM ⊢
 clear hN
 go_enter Tryz.func73, Tryz.ntmps73
 go_wp2_with fail
 obtain ⟨W0, hW0⟩ : ∃ W0, W0 = w.alloc (.cells #[.int .i64 r, .int .i64 c, .slice ao N cap] 66) := ⟨_, rfl⟩
 have hs0 : W0.heap.size = w.heap.size + 1 := by rw [hW0]; simp
 have hb0 : Below w.heap.size w W0 := by rw [hW0]; exact (Below.refl _ _).alloc (Nat.le_refl _) _
 have hm0 : Trio W0 w.heap.size (.int .i64 r) (.int .i64 c) (.slice ao N cap) := by
  rw [hW0]
  exact ⟨new_cell _ _ _ _ _ rfl rfl, new_cell _ _ _ _ _ rfl rfl, new_cell _ _ _ _ _ rfl rfl⟩
 have K0 := Hid.mk (And.intro hb0 hm0)
 rw [← hW0]
 clear hb0 hm0 hW0
 go_loopw [3] (fun i wr => ∃ a : Nat, a ≤ r ∧ i = .int .i64 a ∧ Hid (Below W0.heap.size W0 wr ∧ ∀ i j, i < a → j < c → i ≠ j → ent c zs i j = 0)) (fun i _ => r - (intOf i).toNat)
 case atStart => exact ⟨0, Nat.zero_le _, rfl, Hid.mk ⟨Below.refl _ _, fun i j h => by omega⟩⟩
 case round =>
  rename World => wo
  obtain ⟨a, ha, rfl, HI⟩ := hrel
  obtain ⟨q0, q1, q2⟩ := K0.out.2.later HI.out.1
  by_cases har : a < r
  ·have hai : (a : Int) < (r : Int) := by omega
   go_wp2_with fail
   clear q0 q1 q2
   go_loopw [4] (fun i wr => ∃ e : Nat, e ≤ c ∧ i = .int .i64 e ∧ Hid (Below W0.heap.size W0 wr ∧ ∀ j, j < e → a ≠ j → ent c zs a j = 0)) (fun i _ => c - (intOf i).toNat)
   case atStart => exact ⟨0, Nat.zero_le _, rfl, Hid.mk ⟨HI.out.1, fun j h => by omega⟩⟩
   case round =>
    rename World => wi
    obtain ⟨e, he, rfl, HJ⟩ := hrel
    obtain ⟨q0, q1, q2⟩ := K0.out.2.later HJ.out.1
    have hwi := HJ.out.1.size
    by_cases hec : e < c
    ·have hei : (e : Int) < (c : Int) := by omega
     by_cases hae : a = e
     ·have hae' : ((a : Int) != (e : Int)) = false := by simp [hae]
      have HAE := Hid.mk hae
      clear hae
      go_wp2_with fail
      go_roundw
      case measure => simp [intOf]; omega
      case rel => exact ⟨e + 1, by omega, by go_num, Hid.mk ⟨HJ.out.1, fun j hj hne => HJ.out.2 j (by have := HAE.out; omega) hne⟩⟩
     ·have hae' : ((a : Int) != (e : Int)) = true := by simp; omega
      go_wp2_with fail
      refine (at_in _ r c a e zs L _ ((HM.out.below K0.out.1).below HJ.out.1) har hec).mono ?_
      rintro e9 w2 ⟨x, rfl, hx, hb2⟩
      have hb02 := HJ.out.1.trans (hb2.mono hwi)
      have K2 := Hid.mk (And.intro hx hb02)
      have hw2 := hb02.size
      clear hx hb2 hb02
      go_wp2_with fail
      refine (isZero_any _ _ L _ K2.out.1).mono ?_
      rintro e9 w3 ⟨rfl, hb3⟩
      have hb03 := K2.out.2.trans (hb3.mono hw2)
      obtain ⟨D, hD⟩ : ∃ D, D = decide (zs.getD (a * c + e) 0 = 0) := ⟨_, rfl⟩
      rw [← hD]
      have K3 := Hid.mk (And.intro hb03 hD)
      clear hb3 hb03 hD q0 q1 q2
      cases D
      ·go_wp2_with fail
       go_ret
       exact ⟨DiagOut.mk false rfl ⟨fun h => (by cases h), fun h => absurd (h a e har hec hae) (of_decide_eq_false K3.out.2.symm)⟩, K0.out.1.trans (K3.out.1.mono (by omega))⟩
      ·go_wp2_with fail
       go_roundw
       case measure => simp [intOf]; omega
       case rel =>
        refine ⟨e + 1, by omega, by go_num, Hid.mk ⟨K3.out.1, fun j hj hne => ?_⟩⟩
        by_cases hje : j = e
        ·subst hje; exact of_decide_eq_true K3.out.2.symm
        ·exact HJ.out.2 j (by omega) hne
    ·have hei : ¬ (e : Int) < (c : Int) := by omega
     go_wp2_with fail
     go_roundw
     case measure => simp [intOf]; omega
     case rel =>
      refine ⟨a + 1, by omega, by go_num, Hid.mk ⟨HJ.out.1, fun i j hi hj hne => ?_⟩⟩
      by_cases hia : i = a
      ·subst hia; exact HJ.out.2 j (by omega) hne
      ·exact HI.out.2 i j (by omega) hj hne
  ·have hai : ¬ (a : Int) < (r : Int) := by omega
   go_wp2_with fail
   go_ret
   exact ⟨DiagOut.mk true rfl ⟨fun _ i j hi hj hne => HI.out.2 i j (by omega) hj hne, fun _ => rfl⟩, K0.out.1.trans (HI.out.1.mono (by omega))⟩
set_option maxRecDepth 100000 in
set_option maxHeartbeats 4000000 in
theorem oddPlace_any (v : Value) (r c : Nat) (zs : List Int) (L : Nat) (w : World) (hm : IsM w v r c zs L) (hL : L ≤ 400000000) :
 Calls Tryz.prog 106 #[v] w fun e w' => OddOut r c zs e ∧ Below w.heap.size w w' := by
 have HM := Hid.mk hm
 obtain ⟨hr, hc, sl, rfl, hg0⟩ := hm
 obtain ⟨ao, cap, rfl, -⟩ := hg0.shape
 clear hg0
 obtain ⟨N, hN⟩ : ∃ N, N = r * c := ⟨_, rfl⟩
 rw [← hN] at HM ⊢
 clear hN
 go_enter Tryz.func106, Tryz.ntmps106
 go_wp2_with fail
 obtain ⟨W0, hW0⟩ : ∃ W0, W0 = w.alloc (.cells #[.int .i64 r, .int .i64 c, .slice ao N cap] 66) := ⟨_, rfl⟩
 have hs0 : W0.heap.size = w.heap.size + 1 := by rw [hW0]; simp
 have hb0 : Below w.heap.size w W0 := by rw [hW0]; exact (Below.refl _ _).alloc (Nat.le_refl _) _
 have hm0 : Trio W0 w.heap.size (.int .i64 r) (.int .i64 c) (.slice ao N cap) := by
  rw [hW0]
  exact ⟨new_cell _ _ _ _ _ rfl rfl, new_cell _ _ _ _ _ rfl rfl, new_cell _ _ _ _ _ rfl rfl⟩
 have K0 := Hid.mk (And.intro hb0 hm0)
 rw [← hW0]
 clear hb0 hm0 hW0
 go_loopw [3] (fun i wr => ∃ a a1 : Nat, Hid (a1 = a + 1) ∧ a1 ≤ 100 ∧ i = .int .i64 a1 ∧ Hid (Below W0.heap.size W0 wr ∧ ∀ i, i < a → i + 1 < r → i + 1 < c → ent c zs i i ∣ ent c zs (i + 1) (i + 1))) (fun i _ => 100 - (intOf i).toNat)
 case atStart => exact ⟨0, 1, Hid.mk rfl, by omega, rfl, Hid.mk ⟨Below.refl _ _, fun i h => by omega⟩⟩
 case round =>
  rename World => wo
  obtain ⟨a, a1, HA, ha, rfl, HI⟩ := hrel
  obtain ⟨q0, q1, q2⟩ := K0.out.2.later HI.out.1
  have hwo := HI.out.1.size
  have hsub : (a1 : Int) - 1 = (a : Int) := by have := HA.out; omega
  by_cases har : a1 < r
  ·have hai : (a1 : Int) < (r : Int) := by omega
   by_cases hac : a1 < c
   ·have hci : (a1 : Int) < (c : Int) := by omega
    go_wp2_with fail
    refine (at_in _ r c a a zs L _ ((HM.out.below K0.out.1).below HI.out.1) (by have := HA.out; omega) (by have := HA.out; omega)).mono ?_
    rintro e9 w2 ⟨x, rfl, hx, hb2⟩
    obtain ⟨nb2, so2, n2, cp2, rfl⟩ := hx.shape
    have hb22 := (Below.refl w2.heap.size w2).alloc (Nat.le_refl _) (.cells #[.bool nb2, .slice so2 n2 cp2] 79)
    have hb02 := (HI.out.1.trans (hb2.mono hwo)).trans (hb22.mono (by have := hb2.size; omega))
    have y0 : (w2.alloc (.cells #[.bool nb2, .slice so2 n2 cp2] 79)).cell? ⟨w2.heap.size, 0, none⟩ = some (.bool nb2) := new_cell _ _ _ _ _ rfl rfl
    have y1 : (w2.alloc (.cells #[.bool nb2, .slice so2 n2 cp2] 79)).cell? ⟨w2.heap.size, 1, none⟩ = some (.slice so2 n2 cp2) := new_cell _ _ _ _ _ rfl rfl
    have K2 := Hid.mk (And.intro (hx.below hb22) (And.intro hb02 (And.intro y0 y1)))
    clear hx hb2 hb22 hb02 q0 q1 q2
    obtain ⟨q0, q1, q2⟩ := K0.out.2.later K2.out.2.1
    obtain ⟨D, hD⟩ : ∃ D, D = decide (zs.getD (a * c + a) 0 ∣ zs.getD (a1 * c + a1) 0) := ⟨_, rfl⟩
    have HD := Hid.mk hD
    have HC := Hid.mk (show ∀ w', Below (w2.alloc (.cells #[.bool nb2, .slice so2 n2 cp2] 79)).heap.size (w2.alloc (.cells #[.bool nb2, .slice so2 n2 cp2] 79)) w' → w'.cell? ⟨w.heap.size, 0, none⟩ = some (.int .i64 r) ∧ w'.cell? ⟨w.heap.size, 1, none⟩ = some (.int .i64 c) ∧ w'.cell? ⟨w.heap.size, 2, none⟩ = some (.slice ao N cap) ∧ w'.cell? ⟨w2.heap.size, 0, none⟩ = some (.bool nb2) ∧ w'.cell? ⟨w2.heap.size, 1, none⟩ = some (.slice so2 n2 cp2) from fun w' hb => ⟨cell_later hb q0, cell_later hb q1, cell_later hb q2, cell_later hb K2.out.2.2.1, cell_later hb K2.out.2.2.2⟩)
    have hw2 := K2.out.2.1.size
    clear hD q0 q1 q2 y0 y1
    go_wp2_with fail
    obtain ⟨X, hX⟩ : ∃ X, X = w2.alloc (.cells #[.bool nb2, .slice so2 n2 cp2] 79) := ⟨_, rfl⟩
    rw [← hX] at K2 HC hw2 ⊢
    clear hX
    go_region_held3 (fun w' => w'.cell? ⟨w.heap.size, 0, none⟩ = some (.int .i64 r) ∧ w'.cell? ⟨w.heap.size, 1, none⟩ = some (.int .i64 c) ∧ w'.cell? ⟨w.heap.size, 2, none⟩ = some (.slice ao N cap) ∧ w'.cell? ⟨w2.heap.size, 0, none⟩ = some (.bool nb2) ∧ w'.cell? ⟨w2.heap.size, 1, none⟩ = some (.slice so2 n2 cp2))
     (exact HC.out _ (by first | exact hbV | exact hbW | exact (Below.refl _ _).drew | exact Below.refl _ _))
     (first
       | (go_at_call 64; refine (at_in _ r c a1 a1 zs L _ (((HM.out.below K0.out.1).below K2.out.2.1).below ((Below.refl _ _).drew)) har hac).mono ?_; rintro e9 w3 ⟨x3, rfl, hx3, hb3⟩; obtain ⟨nb3, so3, n3, cp3, rfl⟩ := hx3.shape; have hbW : Below X.heap.size X w3 := ((Below.refl _ _).drew).trans hb3; clear hb3)
       | (go_at_call 144; refine (isMultiple_any _ _ _ _ L L _ hx3 (K2.out.1.below hbW) hL hL).mono ?_; rintro e9 w4 ⟨rfl, hb4⟩; rw [← HD.out]; have hbV : Below X.heap.size X w4 := hbW.trans (hb4.mono hbW.size); clear hb4 hbW hx3))
    all_goals
     have K4 := Hid.mk (And.intro (K2.out.2.1.trans (hbV.mono hw2)) HD.out)
     clear hbV
     cases D
     ·go_wp2_with fail
      go_ret
      refine ⟨OddOut.mk a rfl (.inr ⟨a, rfl, by have := HA.out; omega, by have := HA.out; omega, fun h => ?_, fun i hi => HI.out.2 i hi (by have := HA.out; omega) (by have := HA.out; omega)⟩), K0.out.1.trans (K4.out.1.mono (by omega))⟩
      rw [← HA.out] at h
      exact of_decide_eq_false K4.out.2.symm h
     ·go_wp2_with fail
      go_roundw
      case measure => simp [intOf]; omega
      case rel =>
       refine ⟨a1, a1 + 1, Hid.mk rfl, by omega, by go_num, Hid.mk ⟨K4.out.1, fun i hi h1 h2 => ?_⟩⟩
       by_cases hia : i = a
       ·subst hia
        rw [← HA.out]
        exact of_decide_eq_true K4.out.2.symm
       ·exact HI.out.2 i (by have := HA.out; omega) h1 h2
   ·have hci : ¬ (a1 : Int) < (c : Int) := by omega
    go_wp2_with fail
    go_ret
    exact ⟨OddOut.mk (-1) rfl (.inl ⟨rfl, fun i h1 h2 => HI.out.2 i (by have := HA.out; omega) h1 h2⟩), K0.out.1.trans (HI.out.1.mono (by omega))⟩
  ·have hai : ¬ (a1 : Int) < (r : Int) := by omega
   go_wp2_with fail
   go_ret
   exact ⟨OddOut.mk (-1) rfl (.inl ⟨rfl, fun i h1 h2 => HI.out.2 i (by have := HA.out; omega) h1 h2⟩), K0.out.1.trans (HI.out.1.mono (by omega))⟩
end Go.Proofs.YtfjbijpagaipnabGreatDoor
namespace Go.Proofs.YtfjbijpagaipnabGreatDoor.R
open Go.RowKit
def lcells (xs : List Nat) : List Value := xs.map fun (x : Nat) => Value.int .i64 (x : Int)
def Own (w : World) (v : Value) (xs : List Nat) : Prop := w.ownsRow 0 3 1 v xs.length (lcells xs)
theorem lcells_get (xs : List Nat) (i : Nat) (h : i < xs.length) : (lcells xs)[i]? = some (.int .i64 (xs.getD i 0 : Nat)) := by
 simp [lcells, List.getD, List.getElem?_eq_getElem h]
theorem lcells_set (zs : List Nat) (k c : Nat) : (lcells zs).set k (.int .i64 (c : Nat)) = lcells (zs.set k c) := by simp [lcells, List.map_set]
theorem Own.stored {w : World} {g n cap : Nat} {zs : List Nat} (h : Own w (.slice (some ⟨g, 0, none⟩) n cap) zs) (hn : zs.length = n) (k c : Nat) :
 Own (w.setCell ⟨g, k, none⟩ (.int .i64 (c : Nat))) (.slice (some ⟨g, 0, none⟩) n cap) (zs.set k c) := by
 subst hn
 have := (World.ownsRow.stored (w := w) h k (.int .i64 (c : Nat))).1
 rw [lcells_set] at this
 unfold Own
 rw [List.length_set]
 exact this
theorem Own.stored_int {w : World} {g n cap : Nat} {zs : List Nat} (h : Own w (.slice (some ⟨g, 0, none⟩) n cap) zs) (hn : zs.length = n) (k c : Nat) {z : Int} (hz : z = (c : Int)) :
 Own (w.setCell ⟨g, k, none⟩ (.int .i64 z)) (.slice (some ⟨g, 0, none⟩) n cap) (zs.set k c) := by rw [hz]; exact h.stored hn k c
theorem Own.cell {w : World} {g n cap : Nat} {zs : List Nat} (h : Own w (.slice (some ⟨g, 0, none⟩) n cap) zs) (hn : zs.length = n) (k : Nat) (hk : k < n) :
 w.cell? ⟨g, k, none⟩ = some (.int .i64 (zs.getD k 0 : Nat)) := by
 subst hn
 rw [World.ownsRow.cellAt h k (by omega), lcells_get zs k hk]
theorem Own.frozen {w : World} {g n cap : Nat} {zs : List Nat} (h : Own w (.slice (some ⟨g, 0, none⟩) n cap) zs) (hn : zs.length = n) (k : Nat) : w.frozen? ⟨g, k, none⟩ = false := by
 subst hn
 exact World.ownsRow.frozenAt h k
theorem Own.lt {w : World} {g n cap : Nat} {zs : List Nat} (h : Own w (.slice (some ⟨g, 0, none⟩) n cap) zs) : g < w.heap.size := (World.ownsRow.lt h g rfl).2
theorem Tryz.info3 : (Tryz.prog.info? 3).map (fun i => (i.zero, i.size, i.bytes)) = some (some (.int .i64 0), 1, 8) := by kernel_rfl
theorem make_digits (w : World) {ops : Array Oper} {rest : List Oper} {o : Oper} {a : Act} {Q : Exit → Act → World → Prop}
 (hg : o.guard = none) (l c : Operand) (hop : o.op = Op.makeSlice 51 l c) (L C : Int) (n : Nat) (hl : a.eval l = .int .i64 L) (hc : a.eval c = .int .i64 C) (hL : L = (n : Int)) (hC : C = (n : Int)) (b : n ≤ 1000000000000)
 (hK : ∀ w', Own w' (.slice (some ⟨w.heap.size, 0, none⟩) n n) (List.replicate n 0) → Below w.heap.size w w' → wpList Tryz.prog ops Q rest (a.put o.dst (.slice (some ⟨w.heap.size, 0, none⟩) n n)) w') :
 wpList Tryz.prog ops Q (o :: rest) a w := by
 obtain ⟨i, hi, hz0, hz1, hz2⟩ := info_parts Tryz.info3
 refine wpList_make_full w hg l c 51 hop 0 3 i (.int .i64 0) 1 Tryz.underlying51 hi hz0 hz1 .i64 .i64 L C n hl hc hL hC (by rw [hz2]; omega) (by unfold maxLen; omega) (Nat.zero_le _) ?_
 intro w' hown hgrow
 refine hK w' ?_ ((Below.refl _ _).grown hgrow (Nat.le_refl _) (by simp))
 unfold Own
 rw [List.length_replicate]
 rw [show (Value.int IntKind.i64 0).cells = #[.int .i64 0] from rfl, toList_madeCells_one, Nat.mul_one] at hown
 simpa [lcells] using hown
open Go.RowKit
open Go.RowKit
open Go.RowKit
open Go.RowKit
open Go.RowKit
open Go.RowKit
open Go.RowKit
open Go.RowKit
open Go.RowKit
open Go.RowKit
open Go.RowKit
open Go.RowKit
open Go.RowKit
open Go.RowKit
open Go.RowKit
open Go.RowKit
open Go.RowKit
def minorF (f : Nat → Nat → Int) : List Nat → List Nat → Int
 | [], _ => 1
 | r :: rs, cols => sumF cols.length fun k => signed k (f r (cols.getD k 0) * minorF f rs (cols.eraseIdx k))
theorem sumF_congr {n : Nat} {g h : Nat → Int} (he : ∀ k, k < n → g k = h k) : sumF n g = sumF n h := by
 induction n with
 | zero => rfl
 | succ n ih => rw [sumF, sumF, ih (fun k hk => he k (by omega)), he n (by omega)]
open Go.RowKit
end Go.Proofs.YtfjbijpagaipnabGreatDoor.R
namespace Go.Proofs.YtfjbijpagaipnabGreatDoor
open Go.RowKit
open Go.RowKit
open Go.RowKit
def bodyT (c : Nat) : Nat → List (List UInt8) → List UInt8
 | _, [] => []
 | t, tk :: r => (if 0 < t ∧ t % c = 0 then [59] else []) ++ (32 :: (tk ++ bodyT c (t + 1) r))
theorem bodyT_stops (c t : Nat) (l : List (List UInt8)) : Stops (bodyT c t l) := by
 cases l with
 | nil => exact .inl rfl
 | cons tk r =>
   refine .inr ?_
   unfold bodyT
   split
   ·exact ⟨59, _, rfl, .inr (by decide)⟩
   ·exact ⟨32, _, rfl, .inl (by decide)⟩
theorem bodyT_at (c t : Nat) (tks : List (List UInt8)) (ht : t < tks.length) : bodyT c t (tks.drop t) = (if 0 < t ∧ t % c = 0 then [59] else []) ++ (32 :: (tks.getD t [] ++ bodyT c (t + 1) (tks.drop (t + 1)))) := by
 rw [List.drop_eq_getElem_cons ht, bodyT]
 simp [List.getD, List.getElem?_eq_getElem ht]
theorem sep_iff {row c k : Nat} (hk : k < c) : (0 < row * c + k ∧ (row * c + k) % c = 0) ↔ (0 < row ∧ k = 0) := by
 have h1 : (row * c + k) % c = k := by rw [Nat.mul_comm, Nat.mul_add_mod, Nat.mod_eq_of_lt hk]
 rw [h1]
 constructor
 ·rintro ⟨h2, rfl⟩
  refine ⟨?_, rfl⟩
  rcases Nat.eq_zero_or_pos row with h3 | h3
  ·subst h3; simp at h2
  ·exact h3
 ·rintro ⟨h2, rfl⟩
  exact ⟨by have := Nat.mul_le_mul h2 (Nat.succ_le_of_lt hk); omega, rfl⟩
theorem take_snocI (zs : List Int) (t : Nat) (ht : t < zs.length) : zs.take t ++ [zs[t]?.getD 0] = zs.take (t + 1) := by
 rw [List.take_succ_eq_append_getElem ht]; simp [List.getElem?_eq_getElem ht]
set_option maxRecDepth 100000 in
set_option maxHeartbeats 4000000 in
theorem entries_ok (p : Nat) (s : ByteArray) (a r c : Nat) (tks : List (List UInt8)) (zs : List Int) (L : Nat) (w : World) (h : Rd w p s a) (hr : Rem s a (bodyT c 0 tks)) (hs : s.size ≤ 4000) (hrr : r ≤ 99) (hcc : c ≤ 99)
 (hl1 : tks.length = r * c) (hl2 : zs.length = r * c) (ht : ∀ t, t < r * c → Tok (tks.getD t []) (zs.getD t 0) ∧ (tks.getD t []).length ≤ L) :
 Calls Tryz.prog 57 #[.pointer (some ⟨p, 0, none⟩), .int .i64 r, .int .i64 c] w fun e w' => ∃ v, e = .returned v ∧ Grid w' v (r * c) zs L ∧ Rd w' p s s.size ∧ Fr p w w' := by
 have H := Hid.mk h
 have HR := Hid.mk hr
 have HT := Hid.mk ht
 have HL := Hid.mk (And.intro hl1 hl2)
 have hpl := h.lt
 clear h hr ht hl1 hl2
 go_enter Tryz.func57, Tryz.ntmps57
 go_wp2_with fail
 go_loopw [7, 8] (fun v i wr => ∃ row q n : Nat, row ≤ r ∧ i = .int .i64 row ∧ GridB w.heap.size wr v n (zs.take n) L ∧ Rd wr p s q ∧ Fr p w wr ∧ Hid (n = row * c ∧ Rem s q (bodyT c n (tks.drop n)))) (fun _ i _ => r - (intOf i).toNat)
 case atStart =>
  refine ⟨0, a, 0, Nat.zero_le _, rfl, ⟨rfl, [], ?_, fun i hi => by omega⟩, H.out.below ((Below.refl _ _).alloc (Nat.le_refl _) _), Fr.of_below ((Below.refl _ _).alloc (Nat.le_refl _) _), Hid.mk ⟨by simp, by simpa using HR.out⟩⟩
  have := World.ownsRow_lit (base := w.heap.size) (e := 79) (size := 2) w #[] 0 (Nat.le_refl _) (by simp [maxLen]) rfl
  simpa using this
 case round =>
  obtain ⟨row, q, n, hrow, rfl, hG, hRd, hFr, HI⟩ := hrel
  have H1 := Hid.mk (And.intro hG (And.intro hRd hFr))
  clear hG hRd hFr
  by_cases hrw : row < r
  ·go_wp2_with fail
   go_loopw [7, 9] (fun v i ws => ∃ k q n : Nat, k ≤ c ∧ i = .int .i64 k ∧ GridB w.heap.size ws v n (zs.take n) L ∧ Rd ws p s q ∧ Fr p w ws ∧ Hid (n = row * c + k ∧ Rem s q (bodyT c n (tks.drop n)))) (fun _ i _ => c - (intOf i).toNat)
   case atStart => exact ⟨0, q, n, Nat.zero_le _, rfl, H1.out.1, H1.out.2.1, H1.out.2.2, HI⟩
   case round =>
    clear H1 HI
    obtain ⟨k, q, n, hk, rfl, hG, hRd, hFr, HI⟩ := hrel
    obtain ⟨c0, c1, c2, c3, c4⟩ := hRd.cells
    by_cases hkc : k < c
    ·have hnlt : n < r * c := by rw [HI.out.1]; exact idx_lt hrw hkc
     have hrc : r * c ≤ 9801 := Nat.mul_le_mul hrr hcc
     have HTN := Hid.mk (HT.out n hnlt)
     have hrem := HI.out.2
     rw [bodyT_at c n tks (by have := HL.out.1; omega)] at hrem
     have hsep := sep_iff (row := row) hkc
     rw [← HI.out.1] at hsep
     by_cases h1 : 0 < row ∧ k = 0
     ·rw [if_pos (hsep.2 h1)] at hrem
      obtain ⟨_, _, hrem1⟩ := hrem.cons
      obtain ⟨hrow0, rfl⟩ := h1
      obtain ⟨_, _, hrem2⟩ := hrem1.cons
      obtain ⟨q1, hq1⟩ : ∃ q1, q1 = q + 1 := ⟨_, rfl⟩
      rw [← hq1] at hrem1 hrem2
      have HREM := Hid.mk hrem
      have HREM1 := Hid.mk hrem1
      have HREM2 := Hid.mk hrem2
      have HQ1 := Hid.mk hq1
      have G0 := Hid.mk (And.intro hG (And.intro hRd hFr))
      clear hrem hrem1 hrem2 hsep hG hRd hFr hq1
      go_wp2_with fail
      refine (want_ok p s q 59 59 _ _ G0.out.2.1 HREM.out (by omega) rfl).mono ?_
      rintro e w1 ⟨rfl, hRd1, hFr1⟩
      have G1 := Hid.mk (And.intro (G0.out.1.keep hFr1.2) (And.intro (show Rd w1 p s q1 from by rw [HQ1.out]; exact hRd1) (G0.out.2.2.trans hFr1)))
      clear hRd1 hFr1 G0 c0 c1 c2 c3 c4
      go_wp2_with fail
      refine (want_ok p s q1 32 32 (tks.getD n [] ++ bodyT c (n + 1) (tks.drop (n + 1))) _ G1.out.2.1 HREM1.out (by omega) rfl).mono ?_
      rintro e w2 ⟨rfl, hRd2, hFr2⟩
      have G2 := Hid.mk (And.intro (G1.out.1.keep hFr2.2) (And.intro hRd2 (G1.out.2.2.trans hFr2)))
      clear hRd2 hFr2 G1
      go_wp2_with fail
      refine (entry_ok p s (q1 + 1) (tks.getD n []) (bodyT c (n + 1) (tks.drop (n + 1))) (zs.getD n 0) _ G2.out.2.1 HREM2.out hs HTN.out.1 (bodyT_stops _ _ _)).mono ?_
      rintro e w3 ⟨x, rfl, hx, hRd3, hFr3⟩
      obtain ⟨nb, bo, m, ecap, rfl⟩ := hx.shape
      have G3 := Hid.mk (And.intro (G2.out.1.keep hFr3.2) (And.intro hRd3 (And.intro (G2.out.2.2.trans hFr3) (hx.mono HTN.out.2))))
      clear hx hRd3 hFr3 G2
      go_wp2_with (at_builtin; refine append_int _ rfl (.tmp 41) (.tmp 43) rfl w.heap.size _ n (zs.take n) L rfl ?_ ⟨_, 0, none⟩ rfl (.bool nb) (.slice bo m ecap) (zs.getD n 0) ?_ ?_ rfl rfl ?_ (by omega) ?_ ?_)
      ·refine G3.out.1.keep (KT.of_below ?_)
       repeat (first | exact Below.refl _ _ | refine Below.alloc ?_ (by simp <;> omega) _)
      ·simp [Addr.add]
      ·simp [Addr.add]
      ·refine G3.out.2.2.2.below ?_
       repeat (first | exact Below.refl _ _ | refine Below.alloc ?_ (by simp <;> omega) _)
      ·have := G3.out.2.2.1.1.size; simp; omega
      intro v' w5 hG5 hgr5
      have hbe : Below w3.heap.size w3 ((w3.alloc (.cells #[.bool nb, .slice bo m ecap] 79)).alloc (.cells #[.bool nb, .slice bo m ecap] 79)) := by
       repeat (first | exact Below.refl _ _ | refine Below.alloc ?_ (by simp <;> omega) _)
      have hrowlt : ∀ j, u7.ownBlock = some j → w.heap.size ≤ j := fun j hj => (G3.out.1.lt j hj).1
      have hFr5 : Fr p w w5 := (G3.out.2.2.1.trans (Fr.of_below hbe)).grown hgr5 hrowlt
      have hRd5 : Rd w5 p s (q1 + 1 + (tks.getD n []).length) := (G3.out.2.1.below hbe).grown hgr5 (fun e => by have := hrowlt p e; omega)
      rw [take_snocI zs n (by have := HL.out.2; omega)] at hG5
      have G5 := Hid.mk (And.intro hG5 (And.intro hRd5 hFr5))
      clear hG5 hRd5 hFr5 hgr5 hbe hrowlt G3
      go_wp2_with fail
      go_roundw
      case rel => exact ⟨0 + 1, _, n + 1, by omega, by go_num, G5.out.1, G5.out.2.1, G5.out.2.2, Hid.mk ⟨by have := HI.out.1; omega, HREM2.out.app⟩⟩
      case measure => simp [intOf]; omega
     ·rw [if_neg (fun e => h1 (hsep.1 e)), List.nil_append] at hrem
      obtain ⟨_, _, hrem2⟩ := hrem.cons
      obtain ⟨q1, hq1⟩ : ∃ q1, q1 = q := ⟨_, rfl⟩
      rw [← hq1] at hrem hrem2 hRd
      have HREM1 := Hid.mk hrem
      have HREM2 := Hid.mk hrem2
      have G1 := Hid.mk (And.intro hG (And.intro hRd hFr))
      clear hrem hrem2 hsep hG hRd hFr hq1
      by_cases h2 : row = 0
      ·have h3 : decide (0 < row) = false := by simp; omega
       have h4 : decide ((0 : Int) < (row : Int)) = false := by simp; omega
       clear h1 h2
       go_wp2_with fail
       refine (want_ok p s q1 32 32 (tks.getD n [] ++ bodyT c (n + 1) (tks.drop (n + 1))) _ G1.out.2.1 HREM1.out (by omega) rfl).mono ?_
       rintro e w2 ⟨rfl, hRd2, hFr2⟩
       have G2 := Hid.mk (And.intro (G1.out.1.keep hFr2.2) (And.intro hRd2 (G1.out.2.2.trans hFr2)))
       clear hRd2 hFr2 G1
       go_wp2_with fail
       refine (entry_ok p s (q1 + 1) (tks.getD n []) (bodyT c (n + 1) (tks.drop (n + 1))) (zs.getD n 0) _ G2.out.2.1 HREM2.out hs HTN.out.1 (bodyT_stops _ _ _)).mono ?_
       rintro e w3 ⟨x, rfl, hx, hRd3, hFr3⟩
       obtain ⟨nb, bo, m, ecap, rfl⟩ := hx.shape
       have G3 := Hid.mk (And.intro (G2.out.1.keep hFr3.2) (And.intro hRd3 (And.intro (G2.out.2.2.trans hFr3) (hx.mono HTN.out.2))))
       clear hx hRd3 hFr3 G2
       go_wp2_with (at_builtin; refine append_int _ rfl (.tmp 41) (.tmp 43) rfl w.heap.size _ n (zs.take n) L rfl ?_ ⟨_, 0, none⟩ rfl (.bool nb) (.slice bo m ecap) (zs.getD n 0) ?_ ?_ rfl rfl ?_ (by omega) ?_ ?_)
       ·refine G3.out.1.keep (KT.of_below ?_)
        repeat (first | exact Below.refl _ _ | refine Below.alloc ?_ (by simp <;> omega) _)
       ·simp [Addr.add]
       ·simp [Addr.add]
       ·refine G3.out.2.2.2.below ?_
        repeat (first | exact Below.refl _ _ | refine Below.alloc ?_ (by simp <;> omega) _)
       ·have := G3.out.2.2.1.1.size; simp; omega
       intro v' w5 hG5 hgr5
       have hbe : Below w3.heap.size w3 ((w3.alloc (.cells #[.bool nb, .slice bo m ecap] 79)).alloc (.cells #[.bool nb, .slice bo m ecap] 79)) := by
        repeat (first | exact Below.refl _ _ | refine Below.alloc ?_ (by simp <;> omega) _)
       have hrowlt : ∀ j, u7.ownBlock = some j → w.heap.size ≤ j := fun j hj => (G3.out.1.lt j hj).1
       have hFr5 : Fr p w w5 := (G3.out.2.2.1.trans (Fr.of_below hbe)).grown hgr5 hrowlt
       have hRd5 : Rd w5 p s (q1 + 1 + (tks.getD n []).length) := (G3.out.2.1.below hbe).grown hgr5 (fun e => by have := hrowlt p e; omega)
       rw [take_snocI zs n (by have := HL.out.2; omega)] at hG5
       have G5 := Hid.mk (And.intro hG5 (And.intro hRd5 hFr5))
       clear hG5 hRd5 hFr5 hgr5 hbe hrowlt G3
       go_wp2_with fail
       go_roundw
       case rel => exact ⟨k + 1, _, n + 1, by omega, by go_num, G5.out.1, G5.out.2.1, G5.out.2.2, Hid.mk ⟨by have := HI.out.1; omega, HREM2.out.app⟩⟩
       case measure => simp [intOf]; omega
      ·have h3 : ((k : Int) == 0) = false := beq_eq_false_iff_ne.2 (by omega)
       have h4 : 0 < row := by omega
       clear h1 h2
       go_wp2_with fail
       refine (want_ok p s q1 32 32 (tks.getD n [] ++ bodyT c (n + 1) (tks.drop (n + 1))) _ G1.out.2.1 HREM1.out (by omega) rfl).mono ?_
       rintro e w2 ⟨rfl, hRd2, hFr2⟩
       have G2 := Hid.mk (And.intro (G1.out.1.keep hFr2.2) (And.intro hRd2 (G1.out.2.2.trans hFr2)))
       clear hRd2 hFr2 G1
       go_wp2_with fail
       refine (entry_ok p s (q1 + 1) (tks.getD n []) (bodyT c (n + 1) (tks.drop (n + 1))) (zs.getD n 0) _ G2.out.2.1 HREM2.out hs HTN.out.1 (bodyT_stops _ _ _)).mono ?_
       rintro e w3 ⟨x, rfl, hx, hRd3, hFr3⟩
       obtain ⟨nb, bo, m, ecap, rfl⟩ := hx.shape
       have G3 := Hid.mk (And.intro (G2.out.1.keep hFr3.2) (And.intro hRd3 (And.intro (G2.out.2.2.trans hFr3) (hx.mono HTN.out.2))))
       clear hx hRd3 hFr3 G2
       go_wp2_with (at_builtin; refine append_int _ rfl (.tmp 41) (.tmp 43) rfl w.heap.size _ n (zs.take n) L rfl ?_ ⟨_, 0, none⟩ rfl (.bool nb) (.slice bo m ecap) (zs.getD n 0) ?_ ?_ rfl rfl ?_ (by omega) ?_ ?_)
       ·refine G3.out.1.keep (KT.of_below ?_)
        repeat (first | exact Below.refl _ _ | refine Below.alloc ?_ (by simp <;> omega) _)
       ·simp [Addr.add]
       ·simp [Addr.add]
       ·refine G3.out.2.2.2.below ?_
        repeat (first | exact Below.refl _ _ | refine Below.alloc ?_ (by simp <;> omega) _)
       ·have := G3.out.2.2.1.1.size; simp; omega
       intro v' w5 hG5 hgr5
       have hbe : Below w3.heap.size w3 ((w3.alloc (.cells #[.bool nb, .slice bo m ecap] 79)).alloc (.cells #[.bool nb, .slice bo m ecap] 79)) := by
        repeat (first | exact Below.refl _ _ | refine Below.alloc ?_ (by simp <;> omega) _)
       have hrowlt : ∀ j, u7.ownBlock = some j → w.heap.size ≤ j := fun j hj => (G3.out.1.lt j hj).1
       have hFr5 : Fr p w w5 := (G3.out.2.2.1.trans (Fr.of_below hbe)).grown hgr5 hrowlt
       have hRd5 : Rd w5 p s (q1 + 1 + (tks.getD n []).length) := (G3.out.2.1.below hbe).grown hgr5 (fun e => by have := hrowlt p e; omega)
       rw [take_snocI zs n (by have := HL.out.2; omega)] at hG5
       have G5 := Hid.mk (And.intro hG5 (And.intro hRd5 hFr5))
       clear hG5 hRd5 hFr5 hgr5 hbe hrowlt G3
       go_wp2_with fail
       go_roundw
       case rel => exact ⟨k + 1, _, n + 1, by omega, by go_num, G5.out.1, G5.out.2.1, G5.out.2.2, Hid.mk ⟨by have := HI.out.1; omega, HREM2.out.app⟩⟩
       case measure => simp [intOf]; omega
    ·have hke : k = c := by omega
     have HKE := Hid.mk hke
     clear hke
     have hd0 : decide (k < c) = false := by simp; omega
     have G0 := Hid.mk (And.intro hG (And.intro hRd hFr))
     clear hG hRd hFr
     go_wp2_with fail
     go_roundw
     case rel => exact ⟨row + 1, q, n, by omega, by go_num, G0.out.1, G0.out.2.1, G0.out.2.2, Hid.mk ⟨by rw [HI.out.1, HKE.out, Nat.add_mul, Nat.one_mul], HI.out.2⟩⟩
     case measure => simp [intOf]; omega
  ·have hre : row = r := by omega
   have HRE := Hid.mk hre
   clear hre
   go_wp2_with fail
   go_ret
   have e1 : n = r * c := by rw [← HRE.out]; exact HI.out.1
   have e2 := HI.out.2
   rw [e1, List.drop_of_length_le (by have := HL.out.1; omega)] at e2
   have e3 := e2.nil
   obtain ⟨g1, g2, g3⟩ := H1.out
   rw [e3] at g2
   rw [e1, List.take_of_length_le (by have := HL.out.2; omega)] at g1
   exact ⟨_, rfl, g1.grid, g2, g3⟩
open Go.RowKit
theorem Fr.below {p B : Nat} {a b : World} (h : Fr p a b) (hp : B ≤ p) (hB : B ≤ a.heap.size) : Below B a b := ⟨h.1.os, h.1.tape, h.1.output, h.1.size, fun k hk => h.1.block k (by omega) (by simp; omega)⟩
def Writes (s : ByteArray) (r c : Nat) (zs : List Int) (L : Nat) : Prop := ∃ dr dc tks, s.data.toList = dr ++ (120 :: (dc ++ (58 :: bodyT c 0 tks))) ∧ Run dr ∧ Run dc ∧ decval dr = r ∧ decval dc = c ∧ tks.length = r * c ∧ zs.length = r * c ∧
 ∀ t, t < r * c → Tok (tks.getD t []) (zs.getD t 0) ∧ (tks.getD t []).length ≤ L
theorem stops_x (l : List UInt8) : Stops (120 :: l) := .inr ⟨120, l, rfl, .inr (by decide)⟩
theorem stops_colon (l : List UInt8) : Stops (58 :: l) := .inr ⟨58, l, rfl, .inr (by decide)⟩
set_option maxRecDepth 100000 in
set_option maxHeartbeats 4000000 in
theorem read_ok (s : ByteArray) (r c : Nat) (zs : List Int) (L : Nat) (w : World) (hs : s.size ≤ 4000) (hr : r ≤ 99) (hc : c ≤ 99) (hw : Writes s r c zs L) :
 Calls Tryz.prog 32 #[.string s] w fun e w' => ∃ x, e = .returned (.tuple #[x, .bool true]) ∧ IsM w' x r c zs L ∧ Below w.heap.size w w' := by
 obtain ⟨dr, dc, tks, htext, hdr, hdc, hvr, hvc, hl1, hl2, htok⟩ := hw
 obtain ⟨p, hp⟩ : ∃ p, p = w.heap.size + 1 := ⟨_, rfl⟩
 have hR0 : Rd ((w.alloc (.cells #[.int .i64 0, .int .i64 0, .slice none 0 0] 66)).alloc (.cells #[.string s, .int .i64 0, .bool false] 106)) p s 0 := by
  have := heap_alloc_new (w.alloc (.cells #[.int .i64 0, .int .i64 0, .slice none 0 0] 66)) (.cells #[.string s, .int .i64 0, .bool false] 106)
  rw [hp]
  simpa [Rd] using this
 have hrem0 : Rem s 0 (dr ++ (120 :: (dc ++ (58 :: bodyT c 0 tks)))) := ⟨Nat.zero_le _, by simpa using htext⟩
 have HREM := Hid.mk hrem0
 have HD := Hid.mk (And.intro hdr hdc)
 have HV := Hid.mk (And.intro hvr hvc)
 have HT := Hid.mk (And.intro hl1 (And.intro hl2 htok))
 have HP := Hid.mk hp
 have HR0 := Hid.mk hR0
 clear htext hdr hdc hvr hvc hl1 hl2 htok hrem0 hR0
 go_enter Tryz.func32, Tryz.ntmps32
 go_wp2_with fail
 rw [← HP.out]
 obtain ⟨W0, hW0⟩ : ∃ W0, W0 = (w.alloc (.cells #[.int .i64 0, .int .i64 0, .slice none 0 0] 66)).alloc (.cells #[.string s, .int .i64 0, .bool false] 106) := ⟨_, rfl⟩
 rw [← hW0] at HR0 ⊢
 have hB0 : Below w.heap.size w W0 := by
  rw [hW0]
  repeat (first | exact Below.refl _ _ | refine Below.alloc ?_ (by simp <;> omega) _)
 have hres : W0.heap[w.heap.size]? = some (.cells #[.int .i64 0, .int .i64 0, .slice none 0 0] 66 (0, 0)) := by
  rw [hW0, Below.heap_alloc _ _ _ (by simp)]; exact heap_alloc_new w _
 have hS0 : W0.heap.size = w.heap.size + 2 := by rw [hW0]; simp
 have H0 := Hid.mk (And.intro hB0 (And.intro hres hS0))
 clear hB0 hres hS0 hW0
 have hpw : w.heap.size < p := by omega
 clear hp
 refine (side_ok p s 0 dr _ _ HR0.out HREM.out hs HD.out.1 (stops_x _) (by have := HV.out.1; omega)).mono ?_
 rintro e w1 ⟨rfl, hR1, hF1⟩
 rw [HV.out.1]
 have K1 := Hid.mk (And.intro hR1 hF1)
 have hrem1 := HREM.out.app
 have HREM1 := Hid.mk hrem1
 clear hR1 hF1 hrem1
 go_wp2_with fail
 refine (want_ok p s _ 120 120 _ _ K1.out.1 HREM1.out (by omega) rfl).mono ?_
 rintro e w2 ⟨rfl, hR2, hF2⟩
 have K2 := Hid.mk (And.intro hR2 (K1.out.2.trans hF2))
 obtain ⟨_, _, hrem2⟩ := HREM1.out.cons
 have HREM2 := Hid.mk hrem2
 clear hR2 hF2 hrem2 K1
 go_wp2_with fail
 refine (side_ok p s _ dc _ _ K2.out.1 HREM2.out hs HD.out.2 (stops_colon _) (by have := HV.out.2; omega)).mono ?_
 rintro e w3 ⟨rfl, hR3, hF3⟩
 rw [HV.out.2]
 have K3 := Hid.mk (And.intro hR3 (K2.out.2.trans hF3))
 have hrem3 := HREM2.out.app
 have HREM3 := Hid.mk hrem3
 clear hR3 hF3 hrem3 K2
 go_wp2_with fail
 refine (want_ok p s _ 58 58 _ _ K3.out.1 HREM3.out (by omega) rfl).mono ?_
 rintro e w4 ⟨rfl, hR4, hF4⟩
 have K4 := Hid.mk (And.intro hR4 (K3.out.2.trans hF4))
 obtain ⟨_, _, hrem4⟩ := HREM3.out.cons
 have HREM4 := Hid.mk hrem4
 clear hR4 hF4 hrem4 K3
 go_wp2_with fail
 refine (entries_ok p s _ r c tks zs L _ K4.out.1 HREM4.out hs hr hc HT.out.1 HT.out.2.1 HT.out.2.2).mono ?_
 rintro e w5 ⟨v, rfl, hG5, hR5, hF5⟩
 obtain ⟨c0, c1, c2, c3, c4⟩ := hR5.cells
 have K5 := Hid.mk (And.intro hG5 (And.intro hR5 (K4.out.2.trans hF5)))
 clear hG5 hR5 hF5 K4
 have hne : ((s.size : Int) != (s.size : Int)) = false := by simp
 go_wp2_with fail
 refine (fromCells_any r c v zs L _ hr hc K5.out.1).mono ?_
 rintro e w6 ⟨x, rfl, hx, hb6⟩
 have hres6 : w6.heap[w.heap.size]? = some (.cells #[.int .i64 0, .int .i64 0, .slice none 0 0] 66 (0, 0)) := by
  have h1 := K5.out.2.2.1.size
  have h2 := H0.out.2.2
  rw [hb6.block _ (by omega), K5.out.2.2.1.block _ (by omega) (by simp; omega)]
  exact H0.out.2.1
 have hB6 : Below w.heap.size w w6 := by
  have h1 := H0.out.1
  have h2 : Below w.heap.size W0 w5 := K5.out.2.2.below (by omega) h1.size
  exact (h1.trans h2).trans (hb6.mono (Nat.le_trans h1.size h2.size))
 obtain ⟨_, _, sl, rfl, hg6⟩ := id hx
 obtain ⟨ao, cap, rfl, -⟩ := hg6.shape
 have r0 : w6.cell? ⟨w.heap.size, 0, none⟩ = some (.int .i64 0) := by simp [World.cell?, hres6]
 have r1 : w6.cell? ⟨w.heap.size, 1, none⟩ = some (.int .i64 0) := by simp [World.cell?, hres6]
 have r2 : w6.cell? ⟨w.heap.size, 2, none⟩ = some (.slice none 0 0) := by simp [World.cell?, hres6]
 have z0 : w6.frozen? ⟨w.heap.size, 0, none⟩ = false := by simp [World.frozen?, hres6]
 have z1 : w6.frozen? ⟨w.heap.size, 1, none⟩ = false := by simp [World.frozen?, hres6]
 have z2 : w6.frozen? ⟨w.heap.size, 2, none⟩ = false := by simp [World.frozen?, hres6]
 have HTy : Hid (Ty w6 w.heap.size 66) := Hid.mk ⟨_, _, hres6⟩
 have K6 := Hid.mk (And.intro hg6 hB6)
 clear hg6 hB6 hx hb6 hres6 K5 c0 c1 c2 c3 c4
 go_wp2_with fail
 refine bodyPost_ret (v := .tuple #[.agg #[.int .i64 r, .int .i64 c, .slice ao (r * c) cap], .bool true]) ?_ rfl ?_
 ·(simp [results, Tryz.results32, go_sem, r0, r1, r2]; done)
 ·refine ⟨_, rfl, ⟨hr, hc, _, rfl, K6.out.1.keep (KT.setCell (KT.setCell (KT.setCell (KT.refl _) HTy.out (by decide) (by decide) _) (HTy.out.setCell _ _) (by decide) (by decide) _) ((HTy.out.setCell _ _).setCell _ _) (by decide) (by decide) _)⟩, ?_⟩
  exact ((K6.out.2.setCell (Nat.le_refl _) _).setCell (Nat.le_refl _) _).setCell (Nat.le_refl _) _
end Go.Proofs.YtfjbijpagaipnabGreatDoor
