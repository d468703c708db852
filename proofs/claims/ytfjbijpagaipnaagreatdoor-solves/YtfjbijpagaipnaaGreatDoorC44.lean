import Derived.Test.YtfjbijpagaipnaaGreatDoorC24
import Derived.Test.YtfjbijpagaipnaaGreatDoorC18
import Derived.Test.YtfjbijpagaipnaaGreatDoorC38
import Derived.Test.YtfjbijpagaipnaaGreatDoorC13
import Derived.Test.YtfjbijpagaipnaaGreatDoorC27
import Derived.Deep.RegionHeld3
import Derived.StillTailTactics
import Derived.Test.YtfjbijpagaipnaaGreatDoorC41
import Derived.Test.YtfjbijpagaipnaaGreatDoorC42
namespace Go.Proofs.YtfjbijpagaipnaaGreatDoor.R
open Go.RowKit
def TurnTo (f : Nat → Nat → Int) (c a e : Nat) (g : Nat → Nat → Int) : Prop := ∀ i j, i < c → (j < a ∨ (j = a ∧ i < e)) → g i j = f j i
theorem TurnTo.next {f : Nat → Nat → Int} {c a e : Nat} {g : Nat → Nat → Int} (h : TurnTo f c a e g) : TurnTo f c a (e + 1) (upd2 g e a (f a e)) := by
 intro i j hi hd
 unfold upd2
 by_cases hij : i = e ∧ j = a
 ·rw [if_pos hij, hij.1, hij.2]
 ·rw [if_neg hij]
  exact h i j hi (by omega)
theorem TurnTo.row {f : Nat → Nat → Int} {c a e : Nat} {g : Nat → Nat → Int} (h : TurnTo f c a e g) (he : c ≤ e) : TurnTo f c (a + 1) 0 g := fun i j hi hd => h i j hi (by omega)
set_option maxRecDepth 100000 in
set_option maxHeartbeats 4000000 in
theorem turned_any (b r c : Nat) (gs : Nat → Nat) (f : Nat → Nat → Int) (B L : Nat) (w : World) (h : IsR B w b r c gs f L) (hr : r ≤ 99) (hc : c ≤ 99) :
 Calls Tryz.prog 124 #[.pointer (some ⟨b, 0, none⟩)] w fun e w' => e = .returned (.pointer (some ⟨w.heap.size, 0, none⟩)) ∧ (∃ go, IsR 0 w' w.heap.size c r go (fun i j => f j i) L) ∧ Below w.heap.size w w' := by
 have H := Hid.mk h
 obtain ⟨hbl, ao, cap, c0, c1, c2, -⟩ := h.open_
 clear h
 go_enter Tryz.func124, Tryz.ntmps124
 go_upto_region 1 with fail
 go_region_held3 (fun w' => w'.cell? ⟨b, 0, none⟩ = some (.int .i64 r) ∧ w'.cell? ⟨b, 1, none⟩ = some (.int .i64 c)) (first | go_keep | exact ⟨cell_later hb2 c0, cell_later hb2 c1⟩)
  (first | (go_at_call 126; refine (empty_any c r _ (by omega) (by omega)).mono ?_; rintro e w2 ⟨rfl, hI2, hb2⟩))
 all_goals
  have hbc : Below w.heap.size w w2 := (Below.refl w.heap.size w).drew.trans hb2
  obtain ⟨go, hI⟩ := hI2
  have hgo := hI.rowsAt
  have HGO := Hid.mk hgo
  have H0 := Hid.mk (And.intro ((hI.weak (Nat.zero_le _)).mono (Nat.zero_le L)) hbc)
  clear hI hbc hgo hb2 c0 c1 c2
  go_wp2_with fail
  go_loopw [4] (fun i wr => ∃ (a : Nat) (g : Nat → Nat → Int), a ≤ r ∧ i = .int .i64 a ∧ IsR 0 wr w.heap.size c r go g L ∧ Below w.heap.size w wr ∧ Hid (TurnTo f c a 0 g)) (fun i _ => r - (intOf i).toNat)
  case atStart => exact ⟨0, _, Nat.zero_le _, rfl, H0.out.1, H0.out.2, Hid.mk (fun i j hj hd => by omega)⟩
  case round =>
   rename World => wi
   obtain ⟨a, g, ha, rfl, hI, hbel, HU⟩ := hrel
   obtain ⟨-, ao, cap, c0, c1, c2, -⟩ := (H.out.keep (KR.of_below hbel)).open_
   have HB := Hid.mk (And.intro hI hbel)
   clear hI hbel
   by_cases har : a < r
   ·have hai : (a : Int) < (r : Int) := by omega
    go_wp2_with fail
    go_loopw [5] (fun j wr => ∃ (e : Nat) (g : Nat → Nat → Int), e ≤ c ∧ j = .int .i64 e ∧ IsR 0 wr w.heap.size c r go g L ∧ Below w.heap.size w wr ∧ Hid (TurnTo f c a e g)) (fun j _ => c - (intOf j).toNat)
    case atStart => exact ⟨0, g, Nat.zero_le _, rfl, HB.out.1, HB.out.2, HU⟩
    case round =>
     rename World => wj
     clear c0 c1 c2
     obtain ⟨e, g, he, rfl, hI, hbel, HU2⟩ := hrel
     have hIm := H.out.keep (KR.of_below hbel)
     obtain ⟨-, ao, cap, c0, c1, c2, c3, c4, c5, c6⟩ := hIm.open_
     obtain ⟨-, co, ecap, f0, f1, f2, f3, f4, f5, f6⟩ := hI.open_
     have HB2 := Hid.mk (And.intro hI hbel)
     clear hI hbel hIm
     by_cases hec : e < c
     ·have hei : (e : Int) < (c : Int) := by omega
      obtain ⟨gL, rfl, x1⟩ := c5 a har
      obtain ⟨nb2, so2, n2, cp2, x2, x3, -, -, hN2⟩ := c6 a e har hec
      obtain ⟨gO, rfl, y1⟩ := f5 e hec
      obtain ⟨nb7, so7, n7, cp7, y2, y3, y4, y5, -⟩ := f6 e a hec har
      rw [Nat.mul_comm 2] at x2 x3 y2 y3 y4 y5
      have HN := Hid.mk hN2
      clear c5 c6 f5 f6 hN2
      go_wp2_with fail
      go_region
      all_goals
       go_wp2_with fail
       go_roundw
       case measure => simp [intOf]; omega
       case rel =>
        have hset := HB2.out.1.set hec har HN.out (AtB.zero _)
        rw [Nat.mul_comm 2] at hset
        have hge : w.heap.size ≤ go e := (HGO.out e hec).1
        exact ⟨e + 1, _, by omega, by go_num, hset, ((HB2.out.2.setCell hge _).setCell hge _).drew, Hid.mk HU2.out.next⟩
     ·go_wp2_with fail
      go_roundw
      case measure => simp [intOf]; omega
      case rel => exact ⟨a + 1, g, by omega, by go_num, HB2.out.1, HB2.out.2, Hid.mk (HU2.out.row (by omega))⟩
   ·go_wp2_with fail
    go_ret
    refine ⟨rfl, ⟨go, ?_⟩, HB.out.2⟩
    exact HB.out.1.congr fun i j hi hj => HU.out i j hi (by omega)
end Go.Proofs.YtfjbijpagaipnaaGreatDoor.R
namespace Go.Proofs.YtfjbijpagaipnaaGreatDoor
open Go.RowKit R
def KM (X w : World) : Prop := ∀ (i : Nat) (arr : Array Value) (t : TypeId), (t = 174 ∨ t = 145) → X.heap[i]? = some (.cells arr t (0, 0)) → w.heap[i]? = some (.cells arr t (0, 0))
theorem KM.set {X w : World} (h : KM X w) {b o : Nat} (ht : Ty w b 138) (u : Value) : KM X (w.setCell ⟨b, o, none⟩ u) := fun i arr t hk hi => by
 have h1 := h i arr t hk hi
 rw [Below.heap_setCell _ _ _ _ (fun e => ?_)]
 ·exact h1
 ·have e' : i = b := e
  subst e'
  have := ty_block h1 ht
  rcases hk with rfl | rfl
  ·revert this; decide
  ·revert this; decide
def DoneT (w0 : World) (lo : Nat) (f : Nat → Nat → Int) (L : Nat) (go : Nat → Nat) (c r a e : Nat) (w : World) : Prop := ∀ i j, i < c → j < r → (j < a ∨ (j = a ∧ i < e)) → ∃ x y, w.cell? ⟨go i, j * 2, none⟩ = some x ∧ w.cell? ⟨go i, j * 2 + 1, none⟩ = some y ∧ IsN w0 (.agg #[x, y]) (f j i) L ∧ AtB lo (.agg #[x, y])
theorem cell_set2_ne {w : World} {g k g' k' : Nat} (h : g' ≠ g ∨ (k' ≠ k ∧ k' ≠ k + 1)) (a b : Value) : ((w.setCell ⟨g, k, none⟩ a).setCell ⟨g, k + 1, none⟩ b).cell? ⟨g', k', none⟩ = w.cell? ⟨g', k', none⟩ := by
 refine (World.cell?_setCell_other (w := w.setCell ⟨g, k, none⟩ a) (v := b) (a := ⟨g, k + 1, none⟩) (b := ⟨g', k', none⟩) (fun e => ?_)).trans (World.cell?_setCell_other (w := w) (v := a) (a := ⟨g, k, none⟩) (b := ⟨g', k', none⟩) (fun e => ?_))
 ·have e1 : g = g' := congrArg Addr.block e
  have e2 : k + 1 = k' := congrArg Addr.off e
  rcases h with h | h
  ·exact h e1.symm
  ·exact h.2 e2.symm
 ·have e1 : g = g' := congrArg Addr.block e
  have e2 : k = k' := congrArg Addr.off e
  rcases h with h | h
  ·exact h e1.symm
  ·exact h.1 e2.symm
theorem DoneT.next {w0 : World} {lo : Nat} {f : Nat → Nat → Int} {L : Nat} {go : Nat → Nat} {c r a e : Nat} {w : World} (h : DoneT w0 lo f L go c r a e w) (hg : ∀ i, i < c → i ≠ e → go i ≠ go e) {x y u v : Value} (c1 : w.cell? ⟨go e, a * 2, none⟩ = some u) (c2 : w.cell? ⟨go e, a * 2 + 1, none⟩ = some v) (hx : IsN w0 (.agg #[x, y]) (f a e) L) (hat : AtB lo (.agg #[x, y])) :
 DoneT w0 lo f L go c r a (e + 1) ((w.setCell ⟨go e, a * 2, none⟩ x).setCell ⟨go e, a * 2 + 1, none⟩ y) := by
 intro i j hi hj hd
 by_cases hij : i = e ∧ j = a
 ·obtain ⟨rfl, rfl⟩ := hij
  have h1 : (w.setCell ⟨go i, j * 2, none⟩ x).cell? ⟨go i, j * 2, none⟩ = some x := World.cell?_setCell_same _ _ _ c1
  have h2 : (w.setCell ⟨go i, j * 2, none⟩ x).cell? ⟨go i, j * 2 + 1, none⟩ = some v := (World.cell?_setCell_other (w := w) (v := x) (a := ⟨go i, j * 2, none⟩) (b := ⟨go i, j * 2 + 1, none⟩) (fun e => by have := congrArg Addr.off e; simp at this)).trans c2
  refine ⟨x, y, ?_, World.cell?_setCell_same _ _ _ h2, hx, hat⟩
  exact (World.cell?_setCell_other (w := w.setCell ⟨go i, j * 2, none⟩ x) (v := y) (a := ⟨go i, j * 2 + 1, none⟩) (b := ⟨go i, j * 2, none⟩) (fun e => by have := congrArg Addr.off e; simp at this)).trans h1
 ·obtain ⟨x', y', d1, d2, d3⟩ := h i j hi hj (by omega)
  have hne : go i ≠ go e ∨ j ≠ a := by
   by_cases hie : i = e
   ·exact .inr (fun e' => hij ⟨hie, e'⟩)
   ·exact .inl (hg i hi hie)
  refine ⟨x', y', ?_, ?_, d3⟩
  ·rw [cell_set2_ne (by rcases hne with h | h; exact .inl h; exact .inr (by omega))]; exact d1
  ·rw [cell_set2_ne (by rcases hne with h | h; exact .inl h; exact .inr (by omega))]; exact d2
theorem DoneT.row {w0 : World} {lo : Nat} {f : Nat → Nat → Int} {L : Nat} {go : Nat → Nat} {c r a e : Nat} {w : World} (h : DoneT w0 lo f L go c r a e w) (he : c ≤ e) : DoneT w0 lo f L go c r (a + 1) 0 w := fun i j hi hj hd => h i j hi hj (by omega)
theorem turn_later {w0 X W v : World} {lo L r c N : Nat} {f g : Nat → Nat → Int} {go : Nat → Nat} (hX : IsR N X N c r go (fun _ _ => 0) 0) (hW : IsR 0 W N c r go g L) (hk : KM X W) (hd : DoneT w0 lo f L go c r r 0 W) (hlo : lo ≤ N) (hv : ∀ k, N ≤ k → k < W.heap.size → v.heap[k]? = W.heap[k]?) (hu : UpN lo w0 v) : IsR lo v N c r go (fun i j => f j i) L := by
 obtain ⟨-, vX, x1, ⟨x2a, x2⟩, x3, x4⟩ := hX
 obtain ⟨-, vW, -, -, y3, -⟩ := hW
 have lt : ∀ {i : Nat} {o : Obj}, W.heap[i]? = some o → i < W.heap.size := fun h => (Array.getElem?_eq_some_iff.1 h).1
 have z1 := hk N _ _ (.inr rfl) x1
 refine ⟨hlo, vX, by rw [hv N (Nat.le_refl _) (lt z1)]; exact z1, ⟨x2a, ?_⟩, fun i hi => ⟨by have := (x3 i hi).1; omega, ?_⟩, x4⟩
 ·rcases x2 with h5 | ⟨q, cap, cur, hq, hg, hh, rr⟩
  ·exact .inl h5
  ·have z2 := hk q _ _ (.inl rfl) hh
   exact .inr ⟨q, cap, cur, hq, by omega, by rw [hv q hg (lt z2)]; exact z2, rr⟩
 ·obtain ⟨cs, q1, q2, q3⟩ := (y3 i hi).2
  refine ⟨cs, by rw [hv _ (x3 i hi).1 (lt q1)]; exact q1, q2, fun j hj => ?_⟩
  obtain ⟨x, y, d1, d2, d3, d4⟩ := hd i j hi hj (.inl hj)
  rw [Nat.mul_comm j 2] at d1 d2
  refine ⟨x, y, by simpa [World.cell?, q1] using d1, by simpa [World.cell?, q1] using d2, isN_up d3 d4 hu, d4⟩
set_option maxRecDepth 100000 in
set_option maxHeartbeats 4000000 in
theorem turned_at (b r c lo : Nat) (gs : Nat → Nat) (f : Nat → Nat → Int) (L : Nat) (w0 w : World) (h0 : IsR lo w0 b r c gs f L) (hu0 : UpN lo w0 w) (hs0 : w0.heap.size ≤ w.heap.size) (hr : r ≤ 99) (hc : c ≤ 99) :
 Calls Tryz.prog 124 #[.pointer (some ⟨b, 0, none⟩)] w fun e w' => e = .returned (.pointer (some ⟨w.heap.size, 0, none⟩)) ∧ (∃ go, ∀ v : World, (∀ k, w.heap.size ≤ k → k < w'.heap.size → v.heap[k]? = w'.heap[k]?) → UpN lo w0 v → IsR lo v w.heap.size c r go (fun i j => f j i) L) ∧ Below w.heap.size w w' := by
 have H0 := Hid.mk (And.intro h0 (And.intro hu0 hs0))
 have h := isR_up h0 hu0
 have H := Hid.mk h
 have hlo : lo ≤ w.heap.size := by have := h.1; have := h.open_.1; omega
 obtain ⟨hbl, ao, cap, c0, c1, c2, -⟩ := h.open_
 clear h h0 hu0 hs0
 go_enter Tryz.func124, Tryz.ntmps124
 go_upto_region 1 with fail
 go_region_held3 (fun w' => w'.cell? ⟨b, 0, none⟩ = some (.int .i64 r) ∧ w'.cell? ⟨b, 1, none⟩ = some (.int .i64 c)) (first | go_keep | exact ⟨cell_later hb2 c0, cell_later hb2 c1⟩)
  (first | (go_at_call 126; refine (empty_any c r _ (by omega) (by omega)).mono ?_; rintro e w2 ⟨rfl, hI2, hb2⟩))
 all_goals
  have hbc : Below w.heap.size w w2 := (Below.refl w.heap.size w).drew.trans hb2
  obtain ⟨go, hI⟩ := hI2
  have hgo := hI.rowsAt
  have HGO := Hid.mk hgo
  have HX := Hid.mk (show IsR w.heap.size w2 w.heap.size c r go (fun _ _ => 0) 0 from hI)
  have HJ : Hid (∀ i e, i < c → e < c → i ≠ e → go i ≠ go e) := Hid.mk (fun i e hi he hne => by
   obtain ⟨-, _, -, -, -, hm⟩ := hI
   rcases Nat.lt_trichotomy i e with h | h | h
   ·have := hm i e h he; omega
   ·exact absurd h hne
   ·have := hm e i h hi; omega)
  have H2 := Hid.mk (And.intro ((hI.weak (Nat.zero_le _)).mono (Nat.zero_le L)) hbc)
  clear hI hbc hgo hb2 c0 c1 c2
  go_wp2_with fail
  go_loopw [4] (fun i wr => ∃ (a : Nat) (g : Nat → Nat → Int), a ≤ r ∧ i = .int .i64 a ∧ IsR 0 wr w.heap.size c r go g L ∧ Below w.heap.size w wr ∧ Hid (KM w2 wr ∧ DoneT w0 lo f L go c r a 0 wr)) (fun i _ => r - (intOf i).toNat)
  case atStart => exact ⟨0, _, Nat.zero_le _, rfl, H2.out.1, H2.out.2, Hid.mk ⟨fun _ _ _ _ h => h, fun i j _ _ hd => by omega⟩⟩
  case round =>
   rename World => wi
   obtain ⟨a, g, ha, rfl, hI, hbel, HU⟩ := hrel
   obtain ⟨-, ao, cap, c0, c1, c2, -⟩ := (H.out.keep (KR.of_below hbel)).open_
   have HB := Hid.mk (And.intro hI hbel)
   clear hI hbel
   by_cases har : a < r
   ·have hai : (a : Int) < (r : Int) := by omega
    go_wp2_with fail
    go_loopw [5] (fun j wr => ∃ (e : Nat) (g : Nat → Nat → Int), e ≤ c ∧ j = .int .i64 e ∧ IsR 0 wr w.heap.size c r go g L ∧ Below w.heap.size w wr ∧ Hid (KM w2 wr ∧ DoneT w0 lo f L go c r a e wr)) (fun j _ => c - (intOf j).toNat)
    case atStart => exact ⟨0, g, Nat.zero_le _, rfl, HB.out.1, HB.out.2, HU⟩
    case round =>
     rename World => wj
     clear c0 c1 c2
     obtain ⟨e, g, he, rfl, hI, hbel, HU2⟩ := hrel
     have hIm := H.out.keep (KR.of_below hbel)
     obtain ⟨-, ao, cap, c0, c1, c2, c3, c4, c5, c6⟩ := hIm.open_
     obtain ⟨-, co, ecap, f0, f1, f2, f3, f4, f5, f6⟩ := hI.open_
     have HB2 := Hid.mk (And.intro hI hbel)
     have huj : UpN lo w0 wj := H0.out.2.1.trans (UpN.of_below hbel) H0.out.2.2
     clear hI hbel hIm
     by_cases hec : e < c
     ·have hei : (e : Int) < (c : Int) := by omega
      obtain ⟨gL, rfl, x1⟩ := c5 a har
      obtain ⟨-, _, -, -, q0, -⟩ := H0.out.1
      obtain ⟨qlo, cs, q1, q2, q3⟩ := q0 a har
      obtain ⟨vx, vy, e1, e2, e3, e4⟩ := q3 e hec
      obtain ⟨nb2, so2, cp2, xs2, ev, -⟩ := e3.parts
      simp only [Value.agg.injEq, Array.mk.injEq, List.cons.injEq, and_true] at ev
      obtain ⟨rfl, rfl⟩ := ev
      obtain ⟨n2, hn2⟩ : ∃ n2, n2 = xs2.length := ⟨_, rfl⟩
      rw [← hn2] at e2 e3 e4
      have hq : wj.heap[gs a]? = some (.cells cs 138 (0, 0)) := (huj (gs a) qlo (Array.getElem?_eq_some_iff.1 q1).1).trans q1
      have x2 : wj.cell? ⟨gs a, 2 * e, none⟩ = some (.bool nb2) := by simp [World.cell?, hq, e1]
      have x3 : wj.cell? ⟨gs a, 2 * e + 1, none⟩ = some (.slice so2 n2 cp2) := by simp [World.cell?, hq, e2]
      obtain ⟨gO, rfl, y1⟩ := f5 e hec
      obtain ⟨nb7, so7, n7, cp7, y2, y3, y4, y5, -⟩ := f6 e a hec har
      rw [Nat.mul_comm 2] at x2 x3 y2 y3 y4 y5
      have HN := Hid.mk (And.intro (isN_up e3 e4 huj) (And.intro e3 (And.intro e4 (And.intro y2 y3))))
      clear c5 c6 f5 f6 q0 qlo q1 q2 q3 e1 e2 e3 e4 hq huj hn2
      go_wp2_with fail
      go_region
      all_goals
       go_wp2_with fail
       go_roundw
       case measure => simp [intOf]; omega
       case rel =>
        have hset := HB2.out.1.set hec har HN.out.1 (AtB.zero _)
        rw [Nat.mul_comm 2] at hset
        have hge : w.heap.size ≤ go e := (HGO.out e hec).1
        have hty : Ty wj (go e) 138 := by
         obtain ⟨-, _, -, -, z0, -⟩ := HB2.out.1
         obtain ⟨cs, z1, -⟩ := (z0 e hec).2
         exact ⟨_, _, z1⟩
        exact ⟨e + 1, _, by omega, by go_num, hset, ((HB2.out.2.setCell hge _).setCell hge _).drew, Hid.mk ⟨(HU2.out.1.set hty _).set (hty.setCell _ _) _, HU2.out.2.next (fun i hi hne => HJ.out i e hi hec hne) HN.out.2.2.2.1 HN.out.2.2.2.2 HN.out.2.1 HN.out.2.2.1⟩⟩
     ·clear huj
      go_wp2_with fail
      go_roundw
      case measure => simp [intOf]; omega
      case rel => exact ⟨a + 1, g, by omega, by go_num, HB2.out.1, HB2.out.2, Hid.mk ⟨HU2.out.1, HU2.out.2.row (by omega)⟩⟩
   ·go_wp2_with fail
    go_ret
    have hae : a = r := by omega
    subst hae
    exact ⟨rfl, ⟨go, fun v hv hu => turn_later HX.out HB.out.1 HU.out.1 HU.out.2 hlo hv hu⟩, HB.out.2⟩
open Go.RowKit R
end Go.Proofs.YtfjbijpagaipnaaGreatDoor
namespace Go.Proofs.YtfjbijpagaipnaaGreatDoor.R
open Go.RowKit
end Go.Proofs.YtfjbijpagaipnaaGreatDoor.R
namespace Go.Proofs.YtfjbijpagaipnaaGreatDoor
open Go.RowKit R
end Go.Proofs.YtfjbijpagaipnaaGreatDoor
