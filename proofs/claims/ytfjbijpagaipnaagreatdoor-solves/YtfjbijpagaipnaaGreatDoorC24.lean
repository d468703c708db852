import Derived.Test.YtfjbijpagaipnaaGreatDoorC16
import Derived.Test.YtfjbijpagaipnaaGreatDoorC23
import Derived.BigRegion
import Derived.BigQuiet
import Derived.Deep.RegionHeld3
import Derived.Deep.CutRange
import Derived.Test.YtfjbijpagaipnaaGreatDoorC18
import Derived.Test.YtfjbijpagaipnaaGreatDoorC03
namespace Go.Proofs.YtfjbijpagaipnaaGreatDoor.R
open Go.RowKit
theorem RRow.weak {B B' : Nat} {w : World} {g c : Nat} {f : Nat → Int} {L : Nat} (h : RRow B w g c f L) (hB : B' ≤ B) : RRow B' w g c f L := by
 obtain ⟨cs, h1, h2, h3⟩ := h
 refine ⟨cs, h1, h2, fun j hj => ?_⟩
 obtain ⟨a, b, e1, e2, e3, e4⟩ := h3 j hj
 exact ⟨a, b, e1, e2, e3, e4.mono hB⟩
theorem IsR.weak {B B' : Nat} {w : World} {b r c : Nat} {gs : Nat → Nat} {f : Nat → Nat → Int} {L : Nat} (h : IsR B w b r c gs f L) (hB : B' ≤ B) : IsR B' w b r c gs f L := by
 obtain ⟨h0, v, h1, ⟨h2, h2'⟩, h3, h4⟩ := h
 refine ⟨by omega, v, h1, ⟨h2, ?_⟩, fun i hi => ⟨by have := (h3 i hi).1; omega, (h3 i hi).2.weak hB⟩, h4⟩
 rcases h2' with h5 | ⟨g, cap, cur, hv, hg, hh, r⟩
 ·exact .inl h5
 ·exact .inr ⟨g, cap, cur, hv, by omega, hh, r⟩
theorem AtB.zero (v : Value) : AtB 0 v := fun _ _ _ _ _ _ _ => Nat.zero_le _
theorem IsR.rowsAt {B : Nat} {w : World} {b r c : Nat} {gs : Nat → Nat} {f : Nat → Nat → Int} {L : Nat} (h : IsR B w b r c gs f L) : ∀ i, i < r → B ≤ gs i ∧ gs i < w.heap.size := by
 obtain ⟨h0, v, h1, h2, h3, h4⟩ := h
 exact fun i hi => ⟨(h3 i hi).1, (h3 i hi).2.lt⟩
theorem NBox.drew' {w : World} {b : Nat} {x y : Value} (h : NBox w b x y) : NBox w.drew b x y := h
def Upto (f f' : Nat → Nat → Int) (q c a e : Nat) (g : Nat → Nat → Int) : Prop := ∀ i j, j < c → (i < a ∨ (i = a ∧ j < e)) → g i j = dot f f' i j q
theorem Upto.next {f f' : Nat → Nat → Int} {q c a e : Nat} {g : Nat → Nat → Int} (h : Upto f f' q c a e g) {z : Int} (hz : z = dot f f' a e q) : Upto f f' q c a (e + 1) (upd2 g a e z) := by
 intro i j hj hd
 unfold upd2
 by_cases hij : i = a ∧ j = e
 ·rw [if_pos hij, hz, hij.1, hij.2]
 ·rw [if_neg hij]
  exact h i j hj (by omega)
theorem Upto.row {f f' : Nat → Nat → Int} {q c a e : Nat} {g : Nat → Nat → Int} (h : Upto f f' q c a e g) (he : c ≤ e) : Upto f f' q c (a + 1) 0 g := fun i j hj hd => h i j hj (by omega)
def TimesOut (W : World) (z : Int) (N : Nat) (p : Value) (wx : World) : Prop := ∃ (pb : Nat) (x y : Value), p = .pointer (some ⟨pb, 0, none⟩) ∧ W.heap.size ≤ pb ∧ NBox wx pb x y ∧ IsN wx (.agg #[x, y]) z N ∧ Below W.heap.size W wx
set_option maxRecDepth 100000 in
set_option maxHeartbeats 4000000 in
theorem mtimes_any (L M : Nat) (b r q : Nat) (gs : Nat → Nat) (f : Nat → Nat → Int) (B b' c : Nat) (gs' : Nat → Nat) (f' : Nat → Nat → Int) (B' : Nat) (w : World) (h : IsR B w b r q gs f L) (h' : IsR B' w b' q c gs' f' M) (hr : r ≤ 8) (hq : q ≤ 8) (hc : c ≤ 8) (hLM : L + M ≤ 40000000000) :
 Calls Tryz.prog 119 #[.pointer (some ⟨b, 0, none⟩), .pointer (some ⟨b', 0, none⟩)] w fun e w' => e = .returned (.pointer (some ⟨w.heap.size, 0, none⟩)) ∧ (∃ go, IsR 0 w' w.heap.size r c go (fun i j => dot f f' i j q) (L + M + 12)) ∧ Below w.heap.size w w' := by
 have H := Hid.mk (And.intro h h')
 obtain ⟨hbl, ao, cap, c0, c1, c2, -⟩ := h.open_
 obtain ⟨hbl', ao', cap', d0, d1, d2, -⟩ := h'.open_
 clear h h'
 go_enter Tryz.func119, Tryz.ntmps119
 go_upto_region 1 with fail
 go_cut [5] from 11 to 20 (fun o wx => o = .pointer (some ⟨w.heap.size, 0, none⟩) ∧ (∃ go, IsR w.heap.size wx w.heap.size r c go (fun _ _ => 0) 0) ∧ Below w.heap.size w wx)
 case first =>
  go_region_held3 (fun w' => w'.cell? ⟨b, 0, none⟩ = some (.int .i64 r) ∧ w'.cell? ⟨b', 1, none⟩ = some (.int .i64 c)) (first | go_keep | exact ⟨cell_later hb2 c0, cell_later hb2 d1⟩)
   (first | (go_at_call 126; refine (empty_any r c _ (by omega) (by omega)).mono ?_; rintro e w2 ⟨rfl, hI2, hb2⟩))
  all_goals
   go_wp2_with fail
   go_meet
   case rel => exact ⟨rfl, hI2, (Below.refl w.heap.size w).drew.trans hb2⟩
 case rest =>
  obtain ⟨rfl, ⟨go, hI⟩, hbc⟩ := hcut
  have hgo := hI.rowsAt
  have HGO := Hid.mk hgo
  have H0 := Hid.mk (And.intro ((hI.weak (Nat.zero_le _)).mono (Nat.zero_le (L + M + 12))) hbc)
  clear hI hbc hgo c0 c1 c2 d0 d1 d2
  go_wp2_with fail
  go_loopw [6] (fun i wr => ∃ (a : Nat) (g : Nat → Nat → Int), a ≤ r ∧ i = .int .i64 a ∧ IsR 0 wr w.heap.size r c go g (L + M + 12) ∧ Below w.heap.size w wr ∧ Hid (Upto f f' q c a 0 g)) (fun i _ => r - (intOf i).toNat)
  case atStart => exact ⟨0, _, Nat.zero_le _, rfl, H0.out.1, H0.out.2, Hid.mk (fun i j hj hd => by omega)⟩
  case round =>
   rename World => wi
   obtain ⟨a, g, ha, rfl, hI, hbel, HU⟩ := hrel
   obtain ⟨-, ao, cap, c0, c1, c2, -⟩ := (H.out.1.keep (KR.of_below hbel)).open_
   have HB := Hid.mk (And.intro hI hbel)
   clear hI hbel
   by_cases har : a < r
   ·have hai : (a : Int) < (r : Int) := by omega
    go_wp2_with fail
    go_loopw [7] (fun j wr => ∃ (e : Nat) (g : Nat → Nat → Int), e ≤ c ∧ j = .int .i64 e ∧ IsR 0 wr w.heap.size r c go g (L + M + 12) ∧ Below w.heap.size w wr ∧ Hid (Upto f f' q c a e g)) (fun j _ => c - (intOf j).toNat)
    case atStart => exact ⟨0, g, Nat.zero_le _, rfl, HB.out.1, HB.out.2, HU⟩
    case round =>
     rename World => wj
     clear c0 c1 c2
     obtain ⟨e, g, he, rfl, hI, hbel, HU2⟩ := hrel
     obtain ⟨-, ao', cap', d0, d1, d2, -⟩ := (H.out.2.keep (KR.of_below hbel)).open_
     have HB2 := Hid.mk (And.intro hI hbel)
     clear hI hbel
     by_cases hec : e < c
     ·have hei : (e : Int) < (c : Int) := by omega
      go_wp2_with fail
      refine (of_any 0 _ (by omega)).mono ?_
      rintro x0 w3 ⟨s0, rfl, hs0, hb3⟩
      obtain ⟨nb, so, cp, xs, rfl, -⟩ := hs0.parts
      have HS0 := Hid.mk (And.intro hs0 hb3)
      clear hs0 hb3 d0 d1 d2
      go_wp2_with fail
      obtain ⟨SB, hSB⟩ : ∃ SB, SB = w3.heap.size := ⟨_, rfl⟩
      have hN0 : NBox (w3.alloc (.cells #[.bool nb, .slice so xs.length cp] 138)) SB (.bool nb) (.slice so xs.length cp) := NBox.new w3 _ _ hSB
      rw [← hSB]
      obtain ⟨w4, hw4⟩ : ∃ w4, w4 = w3.alloc (.cells #[.bool nb, .slice so xs.length cp] 138) := ⟨_, rfl⟩
      have hb4 : Below wj.heap.size wj w4 := by rw [hw4]; exact HS0.out.2.alloc HS0.out.2.size _
      have hn4 : IsN w4 (.agg #[.bool nb, .slice so xs.length cp]) 0 (L + M + 3) := by rw [hw4]; exact (HS0.out.1.mono (by omega)).below ((Below.refl _ _).alloc (Nat.le_refl _) _)
      have hSB1 : wj.heap.size ≤ SB := by rw [hSB]; exact HS0.out.2.size
      rw [← hw4] at hN0 ⊢
      have K4 := Hid.mk (And.intro hN0 (And.intro hn4 hb4))
      have HSB := Hid.mk hSB1
      clear hN0 hn4 hb4 hw4 hSB hSB1
      go_loopw [9] (fun k wr => ∃ (t : Nat) (x y : Value), t ≤ q ∧ k = .int .i64 t ∧ NBox wr SB x y ∧ IsN wr (.agg #[x, y]) (dot f f' a e t) (L + M + 3 + t) ∧ Below wj.heap.size wj wr) (fun k _ => q - (intOf k).toNat)
      case atStart => exact ⟨0, _, _, Nat.zero_le _, rfl, K4.out.1, K4.out.2.1, K4.out.2.2⟩
      case round =>
       rename World => wk
       obtain ⟨t, sx, sy, ht, rfl, hNB, hN, hbk⟩ := hrel
       obtain ⟨nb1, so1, cp1, xs1, hv1, -⟩ := hN.parts
       simp only [Value.agg.injEq, Array.mk.injEq, List.cons.injEq, and_true] at hv1
       obtain ⟨rfl, rfl⟩ := hv1
       obtain ⟨n1, hn1⟩ : ∃ n1, n1 = xs1.length := ⟨_, rfl⟩
       rw [← hn1] at hNB hN
       clear hn1
       have hbw : Below w.heap.size w wk := HB2.out.2.trans (hbk.mono HB2.out.2.size)
       obtain ⟨-, ao, cap, c0, c1, c2, c3, c4, c5, c6⟩ := (H.out.1.keep (KR.of_below hbw)).open_
       obtain ⟨-, ao', cap', d0, d1, d2, d3, d4, d5, d6⟩ := (H.out.2.keep (KR.of_below hbw)).open_
       have K5 := Hid.mk (And.intro hNB (And.intro hN (And.intro hbk hbw)))
       clear hNB hN hbk hbw
       by_cases htq : t < q
       ·obtain ⟨gL, rfl, y1⟩ := c5 a har
        obtain ⟨nb2, so2, n2, cp2, y2, y3, -, -, hN2⟩ := c6 a t har htq
        obtain ⟨gL', rfl, z1⟩ := d5 t htq
        obtain ⟨nb3, so3, n3, cp3, z2, z3, -, -, hN3⟩ := d6 t e htq hec
        rw [Nat.mul_comm 2] at y2 y3 z2 z3
        have HN := Hid.mk (And.intro hN2 hN3)
        have hti : (t : Int) < (q : Int) := by omega
        have HC := Hid.mk (show ∀ w', Below wk.heap.size wk w' → w'.cell? ⟨b, 2, none⟩ = some (.slice (some ⟨gL, 0, none⟩) r cap) ∧ w'.cell? ⟨gL, a, none⟩ = some (.slice (some ⟨gs a, 0, none⟩) q q) ∧ w'.cell? ⟨gs a, t * 2, none⟩ = some (.bool nb2) ∧ w'.cell? ⟨gs a, t * 2 + 1, none⟩ = some (.slice so2 n2 cp2) ∧
         w'.cell? ⟨b', 2, none⟩ = some (.slice (some ⟨gL', 0, none⟩) q cap') ∧ w'.cell? ⟨gL', t, none⟩ = some (.slice (some ⟨gs' t, 0, none⟩) c c) ∧ w'.cell? ⟨gs' t, e * 2, none⟩ = some (.bool nb3) ∧ w'.cell? ⟨gs' t, e * 2 + 1, none⟩ = some (.slice so3 n3 cp3) from
         fun w' hb => ⟨cell_later hb c2, cell_later hb y1, cell_later hb y2, cell_later hb y3, cell_later hb d2, cell_later hb z1, cell_later hb z2, cell_later hb z3⟩)
        clear hN2 hN3 c5 c6 d5 d6
        go_upto_region 12 with fail
        go_cut [10] from 45 to 66 (fun p wx => TimesOut wk (f a t * f' t e) (L + M + 1) p wx)
        case first =>
         go_region_held3 (fun w' => w'.cell? ⟨b, 2, none⟩ = some (.slice (some ⟨gL, 0, none⟩) r cap) ∧ w'.cell? ⟨gL, a, none⟩ = some (.slice (some ⟨gs a, 0, none⟩) q q) ∧ w'.cell? ⟨gs a, t * 2, none⟩ = some (.bool nb2) ∧ w'.cell? ⟨gs a, t * 2 + 1, none⟩ = some (.slice so2 n2 cp2) ∧
          w'.cell? ⟨b', 2, none⟩ = some (.slice (some ⟨gL', 0, none⟩) q cap') ∧ w'.cell? ⟨gL', t, none⟩ = some (.slice (some ⟨gs' t, 0, none⟩) c c) ∧ w'.cell? ⟨gs' t, e * 2, none⟩ = some (.bool nb3) ∧ w'.cell? ⟨gs' t, e * 2 + 1, none⟩ = some (.slice so3 n3 cp3))
          (exact HC.out _ (by first | exact hb9 | exact (Below.refl _ _).drew | exact ((Below.refl _ _).alloc (Nat.le_refl _) _).drew | exact hb9.alloc hb9.size _ | exact (hb9.setCell (Nat.le_refl _) _).setCell (Nat.le_refl _) _))
          (first
            | (go_at_call 177; refine (ntimes_any _ _ (f a t) (f' t e) L M _ (HN.out.1.below ((Below.refl _ _).drew)) (HN.out.2.below ((Below.refl _ _).drew)) (by omega) (by omega)).mono ?_; rintro e w2 ⟨p9, rfl, hp9, hb8⟩; obtain ⟨nb9, so9, cp9, xs9, rfl, -⟩ := hp9.parts; have hb9 : Below wk.heap.size wk w2 := (Below.refl _ _).drew.trans hb8; clear hb8)
            | (go_at_call 177; refine (ntimes_any _ _ (f a t) (f' t e) L M _ (HN.out.1.below (((Below.refl _ _).alloc (Nat.le_refl _) _).drew)) (HN.out.2.below (((Below.refl _ _).alloc (Nat.le_refl _) _).drew)) (by omega) (by omega)).mono ?_; rintro e w2 ⟨p9, rfl, hp9, hb8⟩; obtain ⟨nb9, so9, cp9, xs9, rfl, -⟩ := hp9.parts; have hb9 : Below wk.heap.size wk w2 := ((Below.refl _ _).alloc (Nat.le_refl _) _).drew.trans (hb8.mono (by simp)); have hx9 : NBox w2 wk.heap.size (.bool false) (.slice none 0 0) := (NBox.new wk (.bool false) (.slice none 0 0) rfl).drew'.below hb8 (by simp); have hx8 := hx9.cells; clear hb8))
         all_goals
          go_wp2_with fail
          go_meet
          case rel =>
           first
            | exact ⟨_, _, _, rfl, hb9.size, NBox.new _ _ _ rfl, hp9.below ((Below.refl _ _).alloc (Nat.le_refl _) _), hb9.alloc hb9.size _⟩
            | exact ⟨_, _, _, rfl, Nat.le_refl _, hx9.put _ _, hp9.box hx9.ty (by decide) _ _, (hb9.setCell (Nat.le_refl _) _).setCell (Nat.le_refl _) _⟩
        case rest =>
         obtain ⟨pb, px, py, rfl, hpb, hPB, hp, hbp⟩ := hcut
         obtain ⟨nb5, so5, cp5, xs5, hv5, -⟩ := hp.parts
         simp only [Value.agg.injEq, Array.mk.injEq, List.cons.injEq, and_true] at hv5
         obtain ⟨rfl, rfl⟩ := hv5
         obtain ⟨n5, hn5⟩ : ∃ n5, n5 = xs5.length := ⟨_, rfl⟩
         rw [← hn5] at hPB hp
         clear hn5
         have hNB := K5.out.1.below hbp K5.out.1.lt
         obtain ⟨e1, e2, e3, e4⟩ := hNB.cells
         obtain ⟨p1, p2, -, -⟩ := hPB.cells
         have K6 := Hid.mk (And.intro hNB (And.intro hp (And.intro (K5.out.2.1.below hbp) (K5.out.2.2.1.trans (hbp.mono K5.out.2.2.1.size)))))
         clear hpb hPB hp hbp hNB c0 c1 c2 d0 d1 d2 y1 y2 y3 z1 z2 z3
         go_wp2_with fail
         refine (plus_any _ _ (dot f f' a e t) (f a t * f' t e) (L + M + 3 + t) (L + M + 1) _ K6.out.2.2.1 K6.out.2.1 (by omega) (by omega)).mono ?_
         rintro e9 w6 ⟨s6, rfl, hs6, hb6⟩
         obtain ⟨nb6, so6, cp6, xs6, rfl, -⟩ := hs6.parts
         clear e1 e2 e3 e4 p1 p2
         have hNB := K6.out.1.below hb6 K6.out.1.lt
         obtain ⟨e1, e2, e3, e4⟩ := hNB.cells
         have K7 := Hid.mk (And.intro hNB (And.intro hs6 (K6.out.2.2.2.trans (hb6.mono K6.out.2.2.2.size))))
         clear hNB hs6 hb6
         go_wp2_with fail
         go_roundw
         case measure => simp [intOf]; omega
         case rel =>
          refine ⟨t + 1, _, _, by omega, by go_num, K7.out.1.put _ _, ?_, (K7.out.2.2.setCell HSB.out _).setCell HSB.out _⟩
          exact (K7.out.2.1.box K7.out.1.ty (by decide) _ _).mono (by omega)
       ·have hte : t = q := by omega
        have hIk := HB2.out.1.keep (KR.of_below K5.out.2.2.1)
        obtain ⟨-, co, ecap, f0, f1, f2, f3, f4, f5, f6⟩ := hIk.open_
        obtain ⟨gO, rfl, y1⟩ := f5 a har
        obtain ⟨nb7, so7, n7, cp7, y2, y3, y4, y5, -⟩ := f6 a e har hec
        obtain ⟨e1, e2, -, -⟩ := K5.out.1.cells
        rw [Nat.mul_comm 2] at y2 y3 y4 y5
        have HI := Hid.mk (And.intro hIk hte)
        clear c2 c3 c4 c5 c6 d0 d1 d2 d3 d4 d5 d6 f5 f6 hIk hte
        go_wp2_with fail
        go_region
        all_goals
         go_wp2_with fail
         go_roundw
         case measure => simp [intOf]; omega
         case rel =>
          have hset := HI.out.1.set har hec (K5.out.2.1.mono (M := L + M + 12) (by omega)) (AtB.zero _)
          rw [Nat.mul_comm 2] at hset
          have hge := (HGO.out a har).1
          exact ⟨e + 1, _, by omega, by go_num, hset, ((K5.out.2.2.2.setCell hge _).setCell hge _).drew, Hid.mk (HU2.out.next (by rw [HI.out.2]))⟩
     ·go_wp2_with fail
      go_roundw
      case measure => simp [intOf]; omega
      case rel => exact ⟨a + 1, g, by omega, by go_num, HB2.out.1, HB2.out.2, Hid.mk (HU2.out.row (by omega))⟩
   ·go_wp2_with fail
    go_ret
    exact ⟨rfl, ⟨go, HB.out.1.congr (fun i j hi hj => HU.out i j hj (.inl (by omega)))⟩, HB.out.2⟩
open Go.RowKit
theorem IsR.ne_row {B : Nat} {w : World} {b r c : Nat} {gs : Nat → Nat} {f : Nat → Nat → Int} {L : Nat} (h : IsR B w b r c gs f L) {i : Nat} (hi : i < r) : b ≠ gs i := by
 obtain ⟨h0, v, h1, h2, h3, h4⟩ := h
 obtain ⟨cs, q1, -⟩ := (h3 i hi).2
 intro e
 rw [e, q1] at h1
 simp at h1
end Go.Proofs.YtfjbijpagaipnaaGreatDoor.R
namespace Go.Proofs.YtfjbijpagaipnaaGreatDoor
open Go.RowKit
theorem new_cell (w : World) (c : Array Value) (t : TypeId) (i b : Nat) {v : Value} (hb : b = w.heap.size) (h : c[i]? = some v) : (w.alloc (.cells c t)).cell? ⟨b, i, none⟩ = some v := by
 rw [hb, World.cell?_alloc_new]; exact h
def Duo (w : World) (b : Nat) (x y : Value) : Prop := w.heap[b]? = some (.cells #[x, y] 94 (0, 0))
theorem Duo.below {B : Nat} {w w' : World} {b : Nat} {x y : Value} (h : Duo w b x y) (hb : Below B w w') (hB : b < B) : Duo w' b x y := by unfold Duo; rw [hb.block b hB]; exact h
theorem Duo.new (w : World) (x y : Value) {b : Nat} (hb : b = w.heap.size) : Duo (w.alloc (.cells #[x, y] 94)) b x y := by rw [hb]; exact heap_alloc_new w _
theorem Duo.drew {w : World} {b : Nat} {x y : Value} (h : Duo w b x y) : Duo w.drew b x y := h
theorem Duo.put {w : World} {b : Nat} {x y : Value} (h : Duo w b x y) (x' y' : Value) : Duo ((w.setCell ⟨b, 0, none⟩ x').setCell ⟨b, 1, none⟩ y') b x' y' := by
 unfold Duo at *
 rw [heap_setCell_same _ _ _ _ _ _ (heap_setCell_same _ _ _ _ _ _ h)]
 simp
theorem Duo.ty {w : World} {b : Nat} {x y : Value} (h : Duo w b x y) : Ty w b 94 := ⟨_, _, h⟩
theorem Duo.cells {w : World} {b : Nat} {x y : Value} (h : Duo w b x y) : w.cell? ⟨b, 0, none⟩ = some x ∧ w.cell? ⟨b, 1, none⟩ = some y ∧ w.frozen? ⟨b, 0, none⟩ = false ∧ w.frozen? ⟨b, 1, none⟩ = false := by
 unfold Duo at h
 refine ⟨?_, ?_, ?_, ?_⟩ <;> simp [World.cell?, World.frozen?, h]
theorem IsI.duo {w : World} {v : Value} {z : Int} {L b : Nat} {x y : Value} (h : IsI w v z L) (hd : Duo w b x y) (x' y' : Value) : IsI ((w.setCell ⟨b, 0, none⟩ x').setCell ⟨b, 1, none⟩ y') v z L := h.keep (KU.setCell (KU.setCell (KU.refl _) hd.ty (by decide) _) (hd.ty.setCell _ _) (by decide) _)
theorem grown_put2 {W w : World} {b i j : Nat} {x y : Value} (h : W.grownBy w (some b)) : W.grownBy ((w.setCell ⟨b, i, none⟩ x).setCell ⟨b, j, none⟩ y) (some b) := by
 refine grown_trans h ⟨rfl, rfl, rfl, by simp [World.setCell], fun k _ hne => ?_⟩
 rw [Below.heap_setCell _ _ _ _ (fun e => hne (by simp [e])), Below.heap_setCell _ _ _ _ (fun e => hne (by simp [e]))]
end Go.Proofs.YtfjbijpagaipnaaGreatDoor
