import Derived.Test.YtfjbijpagaipnaaGreatDoorC16
import Derived.Test.YtfjbijpagaipnaaGreatDoorC32
import Derived.Test.YtfjbijpagaipnaaGreatDoorC23
import Derived.BigRegion
import Derived.BigQuiet
import Derived.Deep.RegionHeld3
import Derived.Deep.CutRange
import Derived.Test.YtfjbijpagaipnaaGreatDoorC37
import Derived.Test.YtfjbijpagaipnaaGreatDoorC21
import Derived.Test.YtfjbijpagaipnaaGreatDoorC05
import Derived.Deep.LoopGhost
import Derived.Test.YtfjbijpagaipnaaGreatDoorC24
import Derived.Test.YtfjbijpagaipnaaGreatDoorC18
import Derived.Test.YtfjbijpagaipnaaGreatDoorC13
import Derived.StillTailTactics
namespace Go.Proofs.YtfjbijpagaipnaaGreatDoor.R
open Go.RowKit
theorem RRow.weak {B B' : Nat} {w : World} {g c : Nat} {f : Nat → Int} {L : Nat} (h : RRow B w g c f L) (hB : B' ≤ B) : RRow B' w g c f L := by
 obtain ⟨cs, h1, h2, h3⟩ := h
 refine ⟨cs, h1, h2, fun j hj => ?_⟩
 obtain ⟨a, b, e1, e2, e3, e4⟩ := h3 j hj
 exact ⟨a, b, e1, e2, e3, e4.mono hB⟩
theorem IsR.weak {B B' : Nat} {w : World} {b r c : Nat} {gs : Nat → Nat} {f : Nat → Nat → Int} {L : Nat} (h : IsR B w b r c gs f L) (hB : B' ≤ B) : IsR B' w b r c gs f L := by
 obtain ⟨h0, v, h1, ⟨h2, h2'⟩, h3, h4⟩ := h
 refine ⟨by omega, v, h1, ⟨h2, ?_⟩, fun i hi => ⟨by have := (h3 i hi).1; omega, (h3 i hi).2.weak hB⟩, h4⟩
 rcases h2' with h5 | ⟨g, cap, cur, hv, hg, hh, r⟩
 ·exact .inl h5
 ·exact .inr ⟨g, cap, cur, hv, by omega, hh, r⟩
theorem AtB.zero (v : Value) : AtB 0 v := fun _ _ _ _ _ _ _ => Nat.zero_le _
theorem IsR.rowsAt {B : Nat} {w : World} {b r c : Nat} {gs : Nat → Nat} {f : Nat → Nat → Int} {L : Nat} (h : IsR B w b r c gs f L) : ∀ i, i < r → B ≤ gs i ∧ gs i < w.heap.size := by
 obtain ⟨h0, v, h1, h2, h3, h4⟩ := h
 exact fun i hi => ⟨(h3 i hi).1, (h3 i hi).2.lt⟩
theorem NBox.drew' {w : World} {b : Nat} {x y : Value} (h : NBox w b x y) : NBox w.drew b x y := h
def Upto (f f' : Nat → Nat → Int) (q c a e : Nat) (g : Nat → Nat → Int) : Prop := ∀ i j, j < c → (i < a ∨ (i = a ∧ j < e)) → g i j = dot f f' i j q
theorem Upto.next {f f' : Nat → Nat → Int} {q c a e : Nat} {g : Nat → Nat → Int} (h : Upto f f' q c a e g) {z : Int} (hz : z = dot f f' a e q) : Upto f f' q c a (e + 1) (upd2 g a e z) := by
 intro i j hj hd
 unfold upd2
 by_cases hij : i = a ∧ j = e
 ·rw [if_pos hij, hz, hij.1, hij.2]
 ·rw [if_neg hij]
  exact h i j hj (by omega)
theorem Upto.row {f f' : Nat → Nat → Int} {q c a e : Nat} {g : Nat → Nat → Int} (h : Upto f f' q c a e g) (he : c ≤ e) : Upto f f' q c (a + 1) 0 g := fun i j hj hd => h i j hj (by omega)
def TimesOut (W : World) (z : Int) (N : Nat) (p : Value) (wx : World) : Prop := ∃ (pb : Nat) (x y : Value), p = .pointer (some ⟨pb, 0, none⟩) ∧ W.heap.size ≤ pb ∧ NBox wx pb x y ∧ IsN wx (.agg #[x, y]) z N ∧ Below W.heap.size W wx
set_option maxRecDepth 100000 in
set_option maxHeartbeats 4000000 in
theorem mtimes_any (L M : Nat) (b r q : Nat) (gs : Nat → Nat) (f : Nat → Nat → Int) (B b' c : Nat) (gs' : Nat → Nat) (f' : Nat → Nat → Int) (B' : Nat) (w : World) (h : IsR B w b r q gs f L) (h' : IsR B' w b' q c gs' f' M) (hr : r ≤ 8) (hq : q ≤ 8) (hc : c ≤ 8) (hLM : L + M ≤ 40000000000) :
 Calls Tryz.prog 119 #[.pointer (some ⟨b, 0, none⟩), .pointer (some ⟨b', 0, none⟩)] w fun e w' => e = .returned (.pointer (some ⟨w.heap.size, 0, none⟩)) ∧ (∃ go, IsR 0 w' w.heap.size r c go (fun i j => dot f f' i j q) (L + M + 12)) ∧ Below w.heap.size w w' := by
 have H := Hid.mk (And.intro h h')
 obtain ⟨hbl, ao, cap, c0, c1, c2, -⟩ := h.open_
 obtain ⟨hbl', ao', cap', d0, d1, d2, -⟩ := h'.open_
 clear h h'
 go_enter Tryz.func119, Tryz.ntmps119
 go_upto_region 1 with fail
 go_cut [5] from 11 to 20 (fun o wx => o = .pointer (some ⟨w.heap.size, 0, none⟩) ∧ (∃ go, IsR w.heap.size wx w.heap.size r c go (fun _ _ => 0) 0) ∧ Below w.heap.size w wx)
 case first =>
  go_region_held3 (fun w' => w'.cell? ⟨b, 0, none⟩ = some (.int .i64 r) ∧ w'.cell? ⟨b', 1, none⟩ = some (.int .i64 c)) (first | go_keep | exact ⟨cell_later hb2 c0, cell_later hb2 d1⟩)
   (first | (go_at_call 126; refine (empty_any r c _ (by omega) (by omega)).mono ?_; rintro e w2 ⟨rfl, hI2, hb2⟩))
  all_goals
   go_wp2_with fail
   go_meet
   case rel => exact ⟨rfl, hI2, (Below.refl w.heap.size w).drew.trans hb2⟩
 case rest =>
  obtain ⟨rfl, ⟨go, hI⟩, hbc⟩ := hcut
  have hgo := hI.rowsAt
  have HGO := Hid.mk hgo
  have H0 := Hid.mk (And.intro ((hI.weak (Nat.zero_le _)).mono (Nat.zero_le (L + M + 12))) hbc)
  clear hI hbc hgo c0 c1 c2 d0 d1 d2
  go_wp2_with fail
  go_loopw [6] (fun i wr => ∃ (a : Nat) (g : Nat → Nat → Int), a ≤ r ∧ i = .int .i64 a ∧ IsR 0 wr w.heap.size r c go g (L + M + 12) ∧ Below w.heap.size w wr ∧ Hid (Upto f f' q c a 0 g)) (fun i _ => r - (intOf i).toNat)
  case atStart => exact ⟨0, _, Nat.zero_le _, rfl, H0.out.1, H0.out.2, Hid.mk (fun i j hj hd => by omega)⟩
  case round =>
   rename World => wi
   obtain ⟨a, g, ha, rfl, hI, hbel, HU⟩ := hrel
   obtain ⟨-, ao, cap, c0, c1, c2, -⟩ := (H.out.1.keep (KR.of_below hbel)).open_
   have HB := Hid.mk (And.intro hI hbel)
   clear hI hbel
   by_cases har : a < r
   ·have hai : (a : Int) < (r : Int) := by omega
    go_wp2_with fail
    go_loopw [7] (fun j wr => ∃ (e : Nat) (g : Nat → Nat → Int), e ≤ c ∧ j = .int .i64 e ∧ IsR 0 wr w.heap.size r c go g (L + M + 12) ∧ Below w.heap.size w wr ∧ Hid (Upto f f' q c a e g)) (fun j _ => c - (intOf j).toNat)
    case atStart => exact ⟨0, g, Nat.zero_le _, rfl, HB.out.1, HB.out.2, HU⟩
    case round =>
     rename World => wj
     clear c0 c1 c2
     obtain ⟨e, g, he, rfl, hI, hbel, HU2⟩ := hrel
     obtain ⟨-, ao', cap', d0, d1, d2, -⟩ := (H.out.2.keep (KR.of_below hbel)).open_
     have HB2 := Hid.mk (And.intro hI hbel)
     clear hI hbel
     by_cases hec : e < c
     ·have hei : (e : Int) < (c : Int) := by omega
      go_wp2_with fail
      refine (of_any 0 _ (by omega)).mono ?_
      rintro x0 w3 ⟨s0, rfl, hs0, hb3⟩
      obtain ⟨nb, so, cp, xs, rfl, -⟩ := hs0.parts
      have HS0 := Hid.mk (And.intro hs0 hb3)
      clear hs0 hb3 d0 d1 d2
      go_wp2_with fail
      obtain ⟨SB, hSB⟩ : ∃ SB, SB = w3.heap.size := ⟨_, rfl⟩
      have hN0 : NBox (w3.alloc (.cells #[.bool nb, .slice so xs.length cp] 138)) SB (.bool nb) (.slice so xs.length cp) := NBox.new w3 _ _ hSB
      rw [← hSB]
      obtain ⟨w4, hw4⟩ : ∃ w4, w4 = w3.alloc (.cells #[.bool nb, .slice so xs.length cp] 138) := ⟨_, rfl⟩
      have hb4 : Below wj.heap.size wj w4 := by rw [hw4]; exact HS0.out.2.alloc HS0.out.2.size _
      have hn4 : IsN w4 (.agg #[.bool nb, .slice so xs.length cp]) 0 (L + M + 3) := by rw [hw4]; exact (HS0.out.1.mono (by omega)).below ((Below.refl _ _).alloc (Nat.le_refl _) _)
      have hSB1 : wj.heap.size ≤ SB := by rw [hSB]; exact HS0.out.2.size
      rw [← hw4] at hN0 ⊢
      have K4 := Hid.mk (And.intro hN0 (And.intro hn4 hb4))
      have HSB := Hid.mk hSB1
      clear hN0 hn4 hb4 hw4 hSB hSB1
      go_loopw [9] (fun k wr => ∃ (t : Nat) (x y : Value), t ≤ q ∧ k = .int .i64 t ∧ NBox wr SB x y ∧ IsN wr (.agg #[x, y]) (dot f f' a e t) (L + M + 3 + t) ∧ Below wj.heap.size wj wr) (fun k _ => q - (intOf k).toNat)
      case atStart => exact ⟨0, _, _, Nat.zero_le _, rfl, K4.out.1, K4.out.2.1, K4.out.2.2⟩
      case round =>
       rename World => wk
       obtain ⟨t, sx, sy, ht, rfl, hNB, hN, hbk⟩ := hrel
       obtain ⟨nb1, so1, cp1, xs1, hv1, -⟩ := hN.parts
       simp only [Value.agg.injEq, Array.mk.injEq, List.cons.injEq, and_true] at hv1
       obtain ⟨rfl, rfl⟩ := hv1
       obtain ⟨n1, hn1⟩ : ∃ n1, n1 = xs1.length := ⟨_, rfl⟩
       rw [← hn1] at hNB hN
       clear hn1
       have hbw : Below w.heap.size w wk := HB2.out.2.trans (hbk.mono HB2.out.2.size)
       obtain ⟨-, ao, cap, c0, c1, c2, c3, c4, c5, c6⟩ := (H.out.1.keep (KR.of_below hbw)).open_
       obtain ⟨-, ao', cap', d0, d1, d2, d3, d4, d5, d6⟩ := (H.out.2.keep (KR.of_below hbw)).open_
       have K5 := Hid.mk (And.intro hNB (And.intro hN (And.intro hbk hbw)))
       clear hNB hN hbk hbw
       by_cases htq : t < q
       ·obtain ⟨gL, rfl, y1⟩ := c5 a har
        obtain ⟨nb2, so2, n2, cp2, y2, y3, -, -, hN2⟩ := c6 a t har htq
        obtain ⟨gL', rfl, z1⟩ := d5 t htq
        obtain ⟨nb3, so3, n3, cp3, z2, z3, -, -, hN3⟩ := d6 t e htq hec
        rw [Nat.mul_comm 2] at y2 y3 z2 z3
        have HN := Hid.mk (And.intro hN2 hN3)
        have hti : (t : Int) < (q : Int) := by omega
        have HC := Hid.mk (show ∀ w', Below wk.heap.size wk w' → w'.cell? ⟨b, 2, none⟩ = some (.slice (some ⟨gL, 0, none⟩) r cap) ∧ w'.cell? ⟨gL, a, none⟩ = some (.slice (some ⟨gs a, 0, none⟩) q q) ∧ w'.cell? ⟨gs a, t * 2, none⟩ = some (.bool nb2) ∧ w'.cell? ⟨gs a, t * 2 + 1, none⟩ = some (.slice so2 n2 cp2) ∧
         w'.cell? ⟨b', 2, none⟩ = some (.slice (some ⟨gL', 0, none⟩) q cap') ∧ w'.cell? ⟨gL', t, none⟩ = some (.slice (some ⟨gs' t, 0, none⟩) c c) ∧ w'.cell? ⟨gs' t, e * 2, none⟩ = some (.bool nb3) ∧ w'.cell? ⟨gs' t, e * 2 + 1, none⟩ = some (.slice so3 n3 cp3) from
         fun w' hb => ⟨cell_later hb c2, cell_later hb y1, cell_later hb y2, cell_later hb y3, cell_later hb d2, cell_later hb z1, cell_later hb z2, cell_later hb z3⟩)
        clear hN2 hN3 c5 c6 d5 d6
        go_upto_region 12 with fail
        go_cut [10] from 45 to 66 (fun p wx => TimesOut wk (f a t * f' t e) (L + M + 1) p wx)
        case first =>
         go_region_held3 (fun w' => w'.cell? ⟨b, 2, none⟩ = some (.slice (some ⟨gL, 0, none⟩) r cap) ∧ w'.cell? ⟨gL, a, none⟩ = some (.slice (some ⟨gs a, 0, none⟩) q q) ∧ w'.cell? ⟨gs a, t * 2, none⟩ = some (.bool nb2) ∧ w'.cell? ⟨gs a, t * 2 + 1, none⟩ = some (.slice so2 n2 cp2) ∧
          w'.cell? ⟨b', 2, none⟩ = some (.slice (some ⟨gL', 0, none⟩) q cap') ∧ w'.cell? ⟨gL', t, none⟩ = some (.slice (some ⟨gs' t, 0, none⟩) c c) ∧ w'.cell? ⟨gs' t, e * 2, none⟩ = some (.bool nb3) ∧ w'.cell? ⟨gs' t, e * 2 + 1, none⟩ = some (.slice so3 n3 cp3))
          (exact HC.out _ (by first | exact hb9 | exact (Below.refl _ _).drew | exact ((Below.refl _ _).alloc (Nat.le_refl _) _).drew | exact hb9.alloc hb9.size _ | exact (hb9.setCell (Nat.le_refl _) _).setCell (Nat.le_refl _) _))
          (first
            | (go_at_call 177; refine (ntimes_any _ _ (f a t) (f' t e) L M _ (HN.out.1.below ((Below.refl _ _).drew)) (HN.out.2.below ((Below.refl _ _).drew)) (by omega) (by omega)).mono ?_; rintro e w2 ⟨p9, rfl, hp9, hb8⟩; obtain ⟨nb9, so9, cp9, xs9, rfl, -⟩ := hp9.parts; have hb9 : Below wk.heap.size wk w2 := (Below.refl _ _).drew.trans hb8; clear hb8)
            | (go_at_call 177; refine (ntimes_any _ _ (f a t) (f' t e) L M _ (HN.out.1.below (((Below.refl _ _).alloc (Nat.le_refl _) _).drew)) (HN.out.2.below (((Below.refl _ _).alloc (Nat.le_refl _) _).drew)) (by omega) (by omega)).mono ?_; rintro e w2 ⟨p9, rfl, hp9, hb8⟩; obtain ⟨nb9, so9, cp9, xs9, rfl, -⟩ := hp9.parts; have hb9 : Below wk.heap.size wk w2 := ((Below.refl _ _).alloc (Nat.le_refl _) _).drew.trans (hb8.mono (by simp)); have hx9 : NBox w2 wk.heap.size (.bool false) (.slice none 0 0) := (NBox.new wk (.bool false) (.slice none 0 0) rfl).drew'.below hb8 (by simp); have hx8 := hx9.cells; clear hb8))
         all_goals
          go_wp2_with fail
          go_meet
          case rel =>
           first
            | exact ⟨_, _, _, rfl, hb9.size, NBox.new _ _ _ rfl, hp9.below ((Below.refl _ _).alloc (Nat.le_refl _) _), hb9.alloc hb9.size _⟩
            | exact ⟨_, _, _, rfl, Nat.le_refl _, hx9.put _ _, hp9.box hx9.ty (by decide) _ _, (hb9.setCell (Nat.le_refl _) _).setCell (Nat.le_refl _) _⟩
        case rest =>
         obtain ⟨pb, px, py, rfl, hpb, hPB, hp, hbp⟩ := hcut
         obtain ⟨nb5, so5, cp5, xs5, hv5, -⟩ := hp.parts
         simp only [Value.agg.injEq, Array.mk.injEq, List.cons.injEq, and_true] at hv5
         obtain ⟨rfl, rfl⟩ := hv5
         obtain ⟨n5, hn5⟩ : ∃ n5, n5 = xs5.length := ⟨_, rfl⟩
         rw [← hn5] at hPB hp
         clear hn5
         have hNB := K5.out.1.below hbp K5.out.1.lt
         obtain ⟨e1, e2, e3, e4⟩ := hNB.cells
         obtain ⟨p1, p2, -, -⟩ := hPB.cells
         have K6 := Hid.mk (And.intro hNB (And.intro hp (And.intro (K5.out.2.1.below hbp) (K5.out.2.2.1.trans (hbp.mono K5.out.2.2.1.size)))))
         clear hpb hPB hp hbp hNB c0 c1 c2 d0 d1 d2 y1 y2 y3 z1 z2 z3
         go_wp2_with fail
         refine (plus_any _ _ (dot f f' a e t) (f a t * f' t e) (L + M + 3 + t) (L + M + 1) _ K6.out.2.2.1 K6.out.2.1 (by omega) (by omega)).mono ?_
         rintro e9 w6 ⟨s6, rfl, hs6, hb6⟩
         obtain ⟨nb6, so6, cp6, xs6, rfl, -⟩ := hs6.parts
         clear e1 e2 e3 e4 p1 p2
         have hNB := K6.out.1.below hb6 K6.out.1.lt
         obtain ⟨e1, e2, e3, e4⟩ := hNB.cells
         have K7 := Hid.mk (And.intro hNB (And.intro hs6 (K6.out.2.2.2.trans (hb6.mono K6.out.2.2.2.size))))
         clear hNB hs6 hb6
         go_wp2_with fail
         go_roundw
         case measure => simp [intOf]; omega
         case rel =>
          refine ⟨t + 1, _, _, by omega, by go_num, K7.out.1.put _ _, ?_, (K7.out.2.2.setCell HSB.out _).setCell HSB.out _⟩
          exact (K7.out.2.1.box K7.out.1.ty (by decide) _ _).mono (by omega)
       ·have hte : t = q := by omega
        have hIk := HB2.out.1.keep (KR.of_below K5.out.2.2.1)
        obtain ⟨-, co, ecap, f0, f1, f2, f3, f4, f5, f6⟩ := hIk.open_
        obtain ⟨gO, rfl, y1⟩ := f5 a har
        obtain ⟨nb7, so7, n7, cp7, y2, y3, y4, y5, -⟩ := f6 a e har hec
        obtain ⟨e1, e2, -, -⟩ := K5.out.1.cells
        rw [Nat.mul_comm 2] at y2 y3 y4 y5
        have HI := Hid.mk (And.intro hIk hte)
        clear c2 c3 c4 c5 c6 d0 d1 d2 d3 d4 d5 d6 f5 f6 hIk hte
        go_wp2_with fail
        go_region
        all_goals
         go_wp2_with fail
         go_roundw
         case measure => simp [intOf]; omega
         case rel =>
          have hset := HI.out.1.set har hec (K5.out.2.1.mono (M := L + M + 12) (by omega)) (AtB.zero _)
          rw [Nat.mul_comm 2] at hset
          have hge := (HGO.out a har).1
          exact ⟨e + 1, _, by omega, by go_num, hset, ((K5.out.2.2.2.setCell hge _).setCell hge _).drew, Hid.mk (HU2.out.next (by rw [HI.out.2]))⟩
     ·go_wp2_with fail
      go_roundw
      case measure => simp [intOf]; omega
      case rel => exact ⟨a + 1, g, by omega, by go_num, HB2.out.1, HB2.out.2, Hid.mk (HU2.out.row (by omega))⟩
   ·go_wp2_with fail
    go_ret
    exact ⟨rfl, ⟨go, HB.out.1.congr (fun i j hi hj => HU.out i j hj (.inl (by omega)))⟩, HB.out.2⟩
end Go.Proofs.YtfjbijpagaipnaaGreatDoor.R
namespace Go.Proofs.YtfjbijpagaipnaaGreatDoor
open Go.RowKit R
theorem R.IsN.tight {w : World} {v : Value} {z : Int} {L : Nat} (h : IsN w v z L) (hz : z.natAbs < 281474976710656) : IsN w v z 4 := by
 obtain ⟨neg, sl, xs, h1, h2, h3, h4, h5, h6⟩ := h
 refine ⟨neg, sl, xs, h1, h2, h3, h4, h5, ?_⟩
 rcases Nat.lt_or_ge 4 xs.length with h7 | h7
 ·exfalso
  have h8 := R.Lim_ge h3 (by intro e; rw [e] at h7; simp at h7)
  have h9 : 10000 ^ 4 ≤ 10000 ^ (xs.length - 1) := Nat.pow_le_pow_right (by decide) (by omega)
  have h10 : z.natAbs = R.val xs := by
   cases neg
   ·rw [h5]; simp
   ·rw [h5]; simp
  omega
 ·exact h7
theorem R.IsR.tight {B : Nat} {w : World} {b r c : Nat} {gs : Nat → Nat} {f : Nat → Nat → Int} {L : Nat} (h : IsR B w b r c gs f L) (hf : ∀ i j, i < r → j < c → (f i j).natAbs < 281474976710656) : IsR B w b r c gs f 4 := by
 obtain ⟨h0, v, h1, h2, h3, h4⟩ := h
 refine ⟨h0, v, h1, h2, fun i hi => ⟨(h3 i hi).1, ?_⟩, h4⟩
 obtain ⟨cs, q1, q2, q3⟩ := (h3 i hi).2
 refine ⟨cs, q1, q2, fun j hj => ?_⟩
 obtain ⟨a, b, e1, e2, e3, e4⟩ := q3 j hj
 exact ⟨a, b, e1, e2, e3.tight (hf i j hi hj), e4⟩
theorem fits_fz {r c : Nat} {zs : List Int} (h : FitsP r c zs) : ∀ i j, i < r → j < c → (fz c zs i j).natAbs < 281474976710656 := fun _ _ hi hj => h.2.2 _ (idx_lt hi hj)
theorem nDig_le (k u : Nat) (h : u < 10 ^ (k + 1)) : Lib.nDigits u ≤ k + 1 := by
 induction k generalizing u with
 | zero => rw [Lib.nDigits_small (by simpa using h)]; exact Nat.le_refl _
 | succ k ih =>
   by_cases h1 : u < 10
   ·rw [Lib.nDigits_small h1]; omega
   ·rw [Lib.nDigits_big h1]
    have := ih (u / 10) (by rw [Nat.pow_succ] at h; omega)
    omega
theorem itoa_lenk (k : Nat) (z : Int) (h : z.natAbs < 10 ^ (k + 1)) : (Lib.itoa z).length ≤ k + 2 := by
 have h1 := nDig_le k z.natAbs h
 unfold Lib.itoa
 by_cases hz : z < 0
 ·rw [if_pos hz, List.length_cons, Lib.decDigits_length]; omega
 ·rw [if_neg hz, Lib.decDigits_length]
  rw [show z.toNat = z.natAbs from by omega]
  omega
theorem fine_small {r c k : Nat} {zs : List Int} (hr : r ≤ 4) (hc : c ≤ 4) (hl : zs.length = r * c) (hz : ∀ t, t < r * c → (zs.getD t 0).natAbs < 10 ^ (k + 1)) (hk : k ≤ 2000000000) : Fine r c zs := by
 refine ⟨by omega, by omega, hl, ?_⟩
 have hrc : r * c ≤ 16 := Nat.mul_le_mul hr hc
 have hb : ∀ (l : List (List UInt8)) (t : Nat), (∀ x ∈ l, x.length ≤ k + 2) → (bodyT c t l).length ≤ l.length * (k + 4) := by
  intro l
  induction l with
  | nil => intro t _; simp [bodyT]
  | cons a b ih =>
    intro t hx
    have h1 := hx a (by simp)
    have h2 := ih (t + 1) (fun x hx' => hx x (List.mem_cons_of_mem _ hx'))
    rw [bodyT]
    simp only [List.length_append, List.length_cons, Nat.succ_mul]
    split <;> simp <;> omega
 have h1 := hb (zs.map Lib.itoa) 0 (fun x hx => by
  obtain ⟨z, hz', rfl⟩ := List.mem_map.1 hx
  obtain ⟨i, hi, rfl⟩ := List.mem_iff_getElem.1 hz'
  have := hz i (by omega)
  rw [show zs.getD i 0 = zs[i] from by simp [List.getD, List.getElem?_eq_getElem hi]] at this
  exact itoa_lenk k _ this)
 rw [List.length_map, hl] at h1
 have h2 := dec_le2 r (by omega)
 have h3 := dec_le2 c (by omega)
 unfold matT
 simp only [List.length_append, List.length_cons]
 have : r * c * (k + 4) ≤ 16 * (k + 4) := Nat.mul_le_mul_right _ hrc
 omega
open Go.RowKit
open Go.RowKit R
theorem rank_uniq {f : Nat → Nat → Int} {r c k l : Nat} (h : RankIs f r c k) (h' : RankIs f r c l) : k = l := by
 obtain ⟨a1, a2, a3, a4⟩ := h
 obtain ⟨b1, b2, b3, b4⟩ := h'
 rcases Nat.lt_trichotomy k l with hlt | heq | hgt
 ·rcases a4 with h1 | h1 | h1
  ·omega
  ·omega
  ·exact absurd h1 (b3 k hlt)
 ·exact heq
 ·rcases b4 with h1 | h1 | h1
  ·omega
  ·omega
  ·exact absurd h1 (a3 l hgt)
open Go.RowKit R
set_option maxRecDepth 100000 in
set_option maxHeartbeats 1000000 in
theorem text_same (T : Nat) (a : ByteArray) (e : Int) (w : World) :
 Calls Tryz.prog 168 #[.pointer (some ⟨T, 0, none⟩), .string a, .int .i64 e, .string a, .int .i64 e] w fun x w' => x = .returned (.tuple #[.string a, .int .i64 e]) ∧ w' = w := by
 have i1 : (a.toList == a.toList) = true := by simp
 have i2 : (e == e) = true := by simp
 go_enter Tryz.func168, Tryz.ntmps168
 go_wp2_with fail
 refine (like_true T _).mono ?_
 rintro x w' ⟨rfl, rfl⟩
 go_wp2_with fail
 go_ret2
 exact ⟨rfl, rfl⟩
def DueL (es : List Ent) (ms : List Hm) (sq : Bool) (h : Int) (v : Value) (want : Int) : Prop :=
 ((∀ i, i < 24 → ∀ x, ms.getD i none = some x → (x.1 : Int) ≠ h) ∧ want = 2) ∨
 ∃ e i r c zs, e ∈ es ∧ i < 24 ∧ ms.getD i none = some (e.1, r, c, zs) ∧ ((e.1 : Nat) : Int) = h ∧ ((sq = true ∧ r ≠ c ∧ want = 3) ∨ ((sq = true → r = c) ∧ ¬ FitsP r c zs ∧ want = 4) ∨ ((sq = true → r = c) ∧ FitsP r c zs ∧ want = 0 ∧ v = .pointer (some ⟨e.2.2, 0, none⟩)))
set_option maxRecDepth 100000 in
set_option maxHeartbeats 2000000 in
theorem due_any (B W T b1 b2 : Nat) (ms : List Hm) (nx : Nat) (es : List Ent) (h : Int) (sq : Bool) (w : World) (hI : LInv B w W T b1 b2 ms nx es) :
 Calls Tryz.prog 107 #[.pointer (some ⟨W, 0, none⟩), .int .i64 h, .bool sq] w fun x w' => (∃ v want, x = .returned (.tuple #[v, .int .i64 want]) ∧ DueL es ms sq h v want) ∧ Below w.heap.size w w' := by
 have H := Hid.mk hI
 clear hI
 go_enter Tryz.func107, Tryz.ntmps107
 go_wp2_with fail
 refine (lfind_any B W T b1 b2 ms nx es h _ H.out).mono ?_
 rintro x w1 ⟨⟨v, rfl, hv⟩, hb1⟩
 have K1 := Hid.mk (And.intro hv hb1)
 have hw1 := hb1.size
 clear hv hb1
 rcases K1.out.1 with ⟨rfl, hno⟩ | ⟨e1, he1, hg1, rfl⟩
 ·have KN := Hid.mk hno
  clear hno
  go_wp2_with fail
  go_ret2
  exact ⟨⟨_, _, rfl, .inl ⟨FindL.none H.out KN.out, rfl⟩⟩, K1.out.2⟩
 ·obtain ⟨i, r, q, zs, hi, hx⟩ := H.out.ent_of he1
  obtain ⟨-, hf1, lo1, hi1, hm1⟩ := (H.out.below K1.out.2).entry he1 hi hx rfl
  obtain ⟨gs1, hI1⟩ := hm1.isR
  obtain ⟨p1, hp1⟩ : ∃ p1, p1 = e1.2.2 := ⟨_, rfl⟩
  rw [← hp1] at hI1 ⊢
  have HE := Hid.mk (And.intro he1 (And.intro hg1 (And.intro hi (And.intro hx (And.intro hf1 (And.intro hI1 hp1))))))
  obtain ⟨-, ao1, cap1, c0, c1, -⟩ := hI1.open_
  clear he1 hg1 hi hx hf1 hI1 hp1 hm1
  by_cases hsq : sq = true ∧ r ≠ q
  ·obtain ⟨rfl, hne⟩ := hsq
   have iq : ((r : Int) == (q : Int)) = false := beq_eq_false_iff_ne.2 (by omega)
   have HNE := Hid.mk hne
   clear hne
   go_wp2_with fail
   go_quiet (fail)
   all_goals
    go_wp2_with fail
    go_ret2
    obtain ⟨a1, a2, a3, a4, -⟩ := HE.out
    exact ⟨⟨_, _, rfl, .inr ⟨e1, i, r, q, zs, a1, a3, a4, a2, .inl ⟨rfl, HNE.out, rfl⟩⟩⟩, by first | exact K1.out.2 | exact below_drewN K1.out.2 _⟩
  ·have HSQ : Hid (sq = true → r = q) := Hid.mk (fun h => Classical.byContradiction fun h2 => hsq ⟨h, h2⟩)
   cases sq
   ·clear hsq
    go_wp2_with fail
    go_quiet (fail)
    go_wp2_with fail
    refine (big_any p1 r q gs1 (fz q zs) lo1 40000000001 _ (HE.out.2.2.2.2.2.1.keep (KR.of_below (below_drewN (Below.refl _ _) _))) (by omega) HE.out.2.2.2.2.1.1 HE.out.2.2.2.2.1.2.1).mono ?_
    rintro x w5 ⟨bx, rfl, hbx, hb5⟩
    have hb15 : Below w1.heap.size w1 w5 := (below_drewN (Below.refl w1.heap.size w1) _).trans (hb5.mono (below_drewN (Below.refl w1.heap.size w1) _).size)
    have K5 := Hid.mk (And.intro (show bx = true ↔ ¬ FitsP r q zs from by rw [← big_fits]; exact hbx) (K1.out.2.trans (hb15.mono hw1)))
    clear hbx hb5 hb15
    cases bx
    ·have HF : Hid (FitsP r q zs) := Hid.mk (Classical.byContradiction fun h => (by have := K5.out.1.2 h; cases this))
     go_wp2_with fail
     go_ret2
     obtain ⟨a1, a2, a3, a4, -, -, a7⟩ := HE.out
     exact ⟨⟨_, _, rfl, .inr ⟨e1, i, r, q, zs, a1, a3, a4, a2, .inr (.inr ⟨HSQ.out, HF.out, rfl, by rw [← a7]; rfl⟩)⟩⟩, K5.out.2⟩
    ·have HF : Hid (¬ FitsP r q zs) := Hid.mk (K5.out.1.1 rfl)
     go_wp2_with fail
     go_ret2
     obtain ⟨a1, a2, a3, a4, -, -, a7⟩ := HE.out
     exact ⟨⟨_, _, rfl, .inr ⟨e1, i, r, q, zs, a1, a3, a4, a2, .inr (.inl ⟨HSQ.out, HF.out, rfl⟩)⟩⟩, K5.out.2⟩
   ·have hrq := HSQ.out rfl
    have iq : ((r : Int) == (q : Int)) = true := beq_iff_eq.2 (by omega)
    have HRQ := Hid.mk hrq
    clear hsq hrq
    go_wp2_with fail
    go_quiet (fail)
    go_wp2_with fail
    refine (big_any p1 r q gs1 (fz q zs) lo1 40000000001 _ (HE.out.2.2.2.2.2.1.keep (KR.of_below (below_drewN (Below.refl _ _) _))) (by omega) HE.out.2.2.2.2.1.1 HE.out.2.2.2.2.1.2.1).mono ?_
    rintro x w5 ⟨bx, rfl, hbx, hb5⟩
    have hb15 : Below w1.heap.size w1 w5 := (below_drewN (Below.refl w1.heap.size w1) _).trans (hb5.mono (below_drewN (Below.refl w1.heap.size w1) _).size)
    have K5 := Hid.mk (And.intro (show bx = true ↔ ¬ FitsP r q zs from by rw [← big_fits]; exact hbx) (K1.out.2.trans (hb15.mono hw1)))
    clear hbx hb5 hb15
    cases bx
    ·have HF : Hid (FitsP r q zs) := Hid.mk (Classical.byContradiction fun h => (by have := K5.out.1.2 h; cases this))
     go_wp2_with fail
     go_ret2
     obtain ⟨a1, a2, a3, a4, -, -, a7⟩ := HE.out
     exact ⟨⟨_, _, rfl, .inr ⟨e1, i, r, q, zs, a1, a3, a4, a2, .inr (.inr ⟨fun _ => HRQ.out, HF.out, rfl, by rw [← a7]; rfl⟩)⟩⟩, K5.out.2⟩
    ·have HF : Hid (¬ FitsP r q zs) := Hid.mk (K5.out.1.1 rfl)
     go_wp2_with fail
     go_ret2
     obtain ⟨a1, a2, a3, a4, -, -, a7⟩ := HE.out
     exact ⟨⟨_, _, rfl, .inr ⟨e1, i, r, q, zs, a1, a3, a4, a2, .inr (.inl ⟨fun _ => HRQ.out, HF.out, rfl⟩)⟩⟩, K5.out.2⟩
open Go.RowKit R
theorem lt_dec {z : Int} {m : Nat} (h : z.natAbs < 2 ^ (16 * m)) : z.natAbs < 10 ^ (5 * m) ∧ z.natAbs < 10000 ^ (2 * m) := by
 have e1 : 2 ^ (16 * m) = (65536 : Nat) ^ m := by rw [Nat.pow_mul]
 have e2 : 10 ^ (5 * m) = (100000 : Nat) ^ m := by rw [Nat.pow_mul]
 have e3 : 10000 ^ (2 * m) = (100000000 : Nat) ^ m := by rw [Nat.pow_mul]
 rw [e1] at h
 rw [e2, e3]
 exact ⟨Nat.lt_of_lt_of_le h (Nat.pow_le_pow_left (by decide) m), Nat.lt_of_lt_of_le h (Nat.pow_le_pow_left (by decide) m)⟩
theorem R.IsN.fit {w : World} {v : Value} {z : Int} {L K : Nat} (h : IsN w v z L) (hz : z.natAbs < 10000 ^ K) : IsN w v z K := by
 obtain ⟨neg, sl, xs, h1, h2, h3, h4, h5, h6⟩ := h
 refine ⟨neg, sl, xs, h1, h2, h3, h4, h5, ?_⟩
 rcases Nat.lt_or_ge K xs.length with h7 | h7
 ·exfalso
  have h8 := R.Lim_ge h3 (by intro e; rw [e] at h7; simp at h7)
  have h9 : 10000 ^ K ≤ 10000 ^ (xs.length - 1) := Nat.pow_le_pow_right (by decide) (by omega)
  have h10 : z.natAbs = R.val xs := by
   cases neg
   ·rw [h5]; simp
   ·rw [h5]; simp
  omega
 ·exact h7
theorem R.IsR.fit {B : Nat} {w : World} {b r c : Nat} {gs : Nat → Nat} {f : Nat → Nat → Int} {L m : Nat} (h : IsR B w b r c gs f L) (hf : ∀ i j, i < r → j < c → (f i j).natAbs < 2 ^ (16 * m)) : IsR B w b r c gs f (2 * m) := by
 obtain ⟨h0, v, h1, h2, h3, h4⟩ := h
 refine ⟨h0, v, h1, h2, fun i hi => ⟨(h3 i hi).1, ?_⟩, h4⟩
 obtain ⟨cs, q1, q2, q3⟩ := (h3 i hi).2
 refine ⟨cs, q1, q2, fun j hj => ?_⟩
 obtain ⟨a, b, e1, e2, e3, e4⟩ := q3 j hj
 exact ⟨a, b, e1, e2, e3.fit (lt_dec (hf i j hi hj)).2, e4⟩
theorem fine_bits {r c m : Nat} {zs : List Int} (hr : r ≤ 4) (hc : c ≤ 4) (hl : zs.length = r * c) (hz : ∀ t, t < r * c → (zs.getD t 0).natAbs < 2 ^ (16 * (m + 1))) (hm : m ≤ 399999999) : Fine r c zs :=
 fine_small (k := 5 * m + 4) hr hc hl (fun t ht => (lt_dec (hz t ht)).1) (by omega)
end Go.Proofs.YtfjbijpagaipnaaGreatDoor
namespace Go.Proofs.YtfjbijpagaipnaaGreatDoor.R
open Go.RowKit
theorem IsR.ne_row {B : Nat} {w : World} {b r c : Nat} {gs : Nat → Nat} {f : Nat → Nat → Int} {L : Nat} (h : IsR B w b r c gs f L) {i : Nat} (hi : i < r) : b ≠ gs i := by
 obtain ⟨h0, v, h1, h2, h3, h4⟩ := h
 obtain ⟨cs, q1, -⟩ := (h3 i hi).2
 intro e
 rw [e, q1] at h1
 simp at h1
theorem IsR.set_at {B : Nat} {w : World} {b r c : Nat} {gs : Nat → Nat} {f : Nat → Nat → Int} {L : Nat} (h : IsR B w b r c gs f L) {i j : Nat} (hi : i < r) (hj : j < c) {x y : Value} {z : Int} (hz : IsN w (.agg #[x, y]) z L) {gL cap : Nat} (h2 : w.cell? ⟨b, 2, none⟩ = some (.slice (some ⟨gL, 0, none⟩) r cap)) {k : Nat} (hk : k < r) :
 ((w.setCell ⟨gs i, 2 * j, none⟩ x).setCell ⟨gs i, 2 * j + 1, none⟩ y).cell? ⟨b, 2, none⟩ = some (.slice (some ⟨gL, 0, none⟩) r cap) ∧ ((w.setCell ⟨gs i, 2 * j, none⟩ x).setCell ⟨gs i, 2 * j + 1, none⟩ y).cell? ⟨gL, k, none⟩ = some (.slice (some ⟨gs k, 0, none⟩) c c) := by
 have hne := h.ne_row hi
 have e1 : ((w.setCell ⟨gs i, 2 * j, none⟩ x).setCell ⟨gs i, 2 * j + 1, none⟩ y).cell? ⟨b, 2, none⟩ = some (.slice (some ⟨gL, 0, none⟩) r cap) := by
  rw [World.cell?_setCell_other _ _ _ _ (fun e => hne (by injection e with e1; exact e1.symm)), World.cell?_setCell_other _ _ _ _ (fun e => hne (by injection e with e1; exact e1.symm))]
  exact h2
 refine ⟨e1, ?_⟩
 obtain ⟨-, ao, cap', -, -, e2, -, -, e3, -⟩ := ((h.weak (Nat.zero_le _)).set hi hj hz (AtB.zero _)).open_
 rw [e1] at e2
 simp only [Option.some.injEq, Value.slice.injEq] at e2
 obtain ⟨g, hg, hc⟩ := e3 k hk
 rw [← e2.1] at hg
 simp only [Option.some.injEq, Addr.mk.injEq, and_true] at hg
 rw [hg]
 exact hc
def OneTo (n : Nat) (g : Nat → Nat → Int) : Prop := ∀ i j, g i j = if i = j ∧ i < n then 1 else 0
theorem OneTo.next {n : Nat} {g : Nat → Nat → Int} (h : OneTo n g) : OneTo (n + 1) (upd2 g n n 1) := fun i j => by
 unfold upd2
 rw [h i j]
 grind
set_option maxRecDepth 100000 in
set_option maxHeartbeats 4000000 in
theorem one_yes (b r : Nat) (gs : Nat → Nat) (f : Nat → Nat → Int) (B L : Nat) (w : World) (h : IsR B w b r r gs f L) (he : ∀ i j, i < r → j < r → f i j = if i = j then 1 else 0) (hL : L ≤ 50000000000) (hL4 : 4 ≤ L) (hr : r ≤ 99) :
 Calls Tryz.prog 176 #[.pointer (some ⟨b, 0, none⟩)] w fun e w' => e = .returned (.bool true) ∧ Below w.heap.size w w' := by
 have H := Hid.mk (And.intro h he)
 obtain ⟨hbl, ao, cap, c0, c1, c2, -⟩ := h.open_
 clear h he
 go_enter Tryz.func176, Tryz.ntmps176
 go_upto_region 1 with fail
 go_cut [3] from 6 to 15 (fun o wx => o = .pointer (some ⟨w.heap.size, 0, none⟩) ∧ (∃ go, IsR w.heap.size wx w.heap.size r r go (fun _ _ => 0) 0) ∧ Below w.heap.size w wx)
 case first =>
  go_region_held3 (fun w' => w'.cell? ⟨b, 0, none⟩ = some (.int .i64 r)) (first | go_keep | exact cell_later hb2 c0)
   (first | (go_at_call 126; refine (empty_any r r _ (by omega) (by omega)).mono ?_; rintro e w2 ⟨rfl, hI2, hb2⟩))
  all_goals
   go_wp2_with fail
   go_meet
   case rel => exact ⟨rfl, hI2, (Below.refl w.heap.size w).drew.trans hb2⟩
 case rest =>
  obtain ⟨rfl, ⟨go, hI⟩, hbc⟩ := hcut
  have hgo := hI.rowsAt
  have HGO := Hid.mk hgo
  have H0 := Hid.mk (And.intro ((hI.weak (Nat.zero_le _)).mono (Nat.zero_le L)) hbc)
  clear hI hbc hgo c0 c1 c2
  go_wp2_with fail
  go_loopw [4] (fun i wr => ∃ (a : Nat) (g : Nat → Nat → Int), a ≤ r ∧ i = .int .i64 a ∧ IsR 0 wr w.heap.size r r go g L ∧ Below w.heap.size w wr ∧ Hid (OneTo a g)) (fun i _ => r - (intOf i).toNat)
  case atStart => exact ⟨0, _, Nat.zero_le _, rfl, H0.out.1, H0.out.2, Hid.mk (fun i j => by simp)⟩
  case round =>
   rename World => wi
   obtain ⟨a, g, ha, rfl, hI, hbel, HU⟩ := hrel
   obtain ⟨-, ao, cap, c0, c1, c2, -⟩ := (H.out.1.keep (KR.of_below hbel)).open_
   obtain ⟨-, ao', cap', d0, d1, d2, d3, d4, d5, d6⟩ := hI.open_
   have HB := Hid.mk (And.intro hI hbel)
   have hwi := hbel.size
   clear hI hbel
   by_cases har : a < r
   ·have hai : (a : Int) < (r : Int) := by omega
    obtain ⟨gL, rfl, y1⟩ := d5 a har
    obtain ⟨nb, so, n, cp, y2, y3, y4, y5, -⟩ := d6 a a har har
    rw [Nat.mul_comm 2] at y2 y3 y4 y5
    clear d5 d6
    have HS := Hid.mk (show ∀ w', Below wi.heap.size wi w' → w'.cell? ⟨w.heap.size, 2, none⟩ = some (.slice (some ⟨gL, 0, none⟩) r cap') ∧ w'.cell? ⟨gL, a, none⟩ = some (.slice (some ⟨go a, 0, none⟩) r r) from fun w' hb => ⟨cell_later hb d2, cell_later hb y1⟩)
    have hgl : go a < wi.heap.size := (HB.out.1.rowsAt a har).2
    have HGL := Hid.mk (And.intro hgl (And.intro hwi (And.intro y2 (And.intro y3 (And.intro y4 y5)))))
    clear hgl hwi y2 y3 y4 y5
    go_wp2_with fail
    go_region_held3 (fun w' => w'.cell? ⟨w.heap.size, 2, none⟩ = some (.slice (some ⟨gL, 0, none⟩) r cap') ∧ w'.cell? ⟨gL, a, none⟩ = some (.slice (some ⟨go a, 0, none⟩) r r))
     (first | exact hk9 | exact HS.out _ (by first | exact hb9 | exact (Below.refl _ _).drew))
     (first | (go_at_call 172; refine (of_any 1 _ (by omega)).mono ?_; rintro e w2 ⟨p9, rfl, hp9, hb2⟩; obtain ⟨nb9, so9, cp9, xs9, rfl, -⟩ := hp9.parts; have hb9 : Below wi.heap.size wi w2 := (Below.refl _ _).drew.trans hb2; have hI9 := HB.out.1.keep (KR.of_below hb9); obtain ⟨-, ao9, cap9, -, -, -, -, -, -, d9⟩ := hI9.open_; obtain ⟨n9, s9, l9, q9, x2, x3, x4, x5, -⟩ := d9 a a har har; rw [Nat.mul_comm 2] at x2 x3 x4 x5; have hk9 := hI9.set_at har har (hp9.mono (show 3 ≤ L by omega)) (cell_later hb9 d2) har; rw [Nat.mul_comm 2] at hk9; clear hb2 d9))
    all_goals
     go_wp2_with fail
     go_roundw
     case measure => simp [intOf]; omega
     case rel =>
      have hset := hI9.set har har (hp9.mono (show 3 ≤ L by omega)) (AtB.zero _)
      rw [Nat.mul_comm 2] at hset
      have hge := (HGO.out a har).1
      have hbw : Below w.heap.size w w2 := HB.out.2.trans (hb9.mono HB.out.2.size)
      exact ⟨a + 1, _, by omega, by go_num, hset, (hbw.setCell hge _).setCell hge _, Hid.mk (HU.out.next)⟩
   ·go_wp2_with fail
    refine (same_yes b r r gs f B w.heap.size go g 0 L _ (H.out.1.keep (KR.of_below HB.out.2)) HB.out.1 (fun i j hi hj => by rw [H.out.2 i j hi hj, HU.out i j]; by_cases hij : i = j <;> simp [hij]; omega) hL hr hr).mono ?_
    rintro x w7 ⟨rfl, hb7⟩
    have HF := Hid.mk (HB.out.2.trans (hb7.mono hwi))
    clear hb7
    go_wp2_with fail
    go_ret
    exact ⟨rfl, HF.out⟩
open Go.RowKit
end Go.Proofs.YtfjbijpagaipnaaGreatDoor.R
namespace Go.Proofs.YtfjbijpagaipnaaGreatDoor
open Go.RowKit R
set_option maxRecDepth 100000 in
set_option maxHeartbeats 2000000 in
theorem inverse_yes (b b' n L : Nat) (gs gs' : Nat → Nat) (f f' : Nat → Nat → Int) (B B' : Nat) (w : World) (h : IsR B w b n n gs f L) (h' : IsR B' w b' n n gs' f' L) (hn : n ≤ 8) (hL : L ≤ 15000000000) (he : ∀ i j, i < n → j < n → dot f f' i j n = if i = j then 1 else 0) :
 Calls Tryz.prog 118 #[.pointer (some ⟨b, 0, none⟩), .pointer (some ⟨b', 0, none⟩), .int .i64 n] w fun x w' => x = .returned (.bool true) ∧ Below w.heap.size w w' := by
 have H := Hid.mk (And.intro h (And.intro h' he))
 obtain ⟨-, ao, cap, c0, c1, -⟩ := h.open_
 obtain ⟨-, ao', cap', d0, d1, -⟩ := h'.open_
 clear h h' he
 have hnn : ((n : Int) == (n : Int)) = true := by simp
 go_enter Tryz.func118, Tryz.ntmps118
 go_wp2_with fail
 try go_quiet (fail)
 go_wp2_with fail
 refine (mtimes_any L L b n n gs f B b' n gs' f' B' _ H.out.1 H.out.2.1 hn hn hn (by omega)).mono ?_
 rintro e w1 ⟨rfl, ⟨go, hI⟩, hb1⟩
 have K := Hid.mk (And.intro hI hb1)
 clear hI hb1 c0 c1 d0 d1
 go_wp2_with fail
 refine (one_yes w.heap.size n go _ 0 (L + L + 12) _ K.out.1 H.out.2.2 (by omega) (by omega) (by omega)).mono ?_
 rintro e w2 ⟨rfl, hb2⟩
 have K2 := Hid.mk (K.out.2.trans (hb2.mono K.out.2.size))
 clear hb2
 go_wp2_with fail
 go_ret
 exact ⟨rfl, K2.out⟩
open Go.RowKit R
theorem cnt_none (ms : List Hm) : cnt ms + ms.countP Option.isNone = ms.length := by
 unfold cnt
 induction ms with
 | nil => rfl
 | cons x ms ih =>
   cases x with
   | none => simp at ih ⊢; omega
   | some y => simp at ih ⊢; omega
theorem many_case {n : Nat} {Res : Nat → Nat → List Int → List (Nat × Nat × List Int) → Prop} {es : List Ent} {ms : List Hm} {h e want : Int} {v : Value} {ok : Bool} {xs : List (Nat × Nat × List Int)} (hd : Dst ms) (hp : DueL es ms false h v want) (ht : ManyRel n Res ms h ok e xs) :
 (ok = false ∧ e = want ∧ (want = 2 ∨ want = 4)) ∨ (ok = false ∧ e = 5 ∧ want = 0 ∧ ms.countP Option.isNone < n) ∨
 (ok = true ∧ e = 0 ∧ want = 0 ∧ n ≤ ms.countP Option.isNone ∧ ∃ en i r c zs, en ∈ es ∧ i < 24 ∧ ms.getD i none = some (en.1, r, c, zs) ∧ FitsP r c zs ∧ v = .pointer (some ⟨en.2.2, 0, none⟩) ∧ xs.length = n ∧ Res r c zs xs) := by
 rcases hp with ⟨hno, rfl⟩ | ⟨en, i, r, c, zs, hen, hi, hx, hxh, hp⟩
 ·rcases ht with ⟨-, rfl, rfl, -⟩ | ⟨i', hd', r', c', zs', hi', hx', hxh', -⟩
  ·exact .inl ⟨rfl, rfl, .inl rfl⟩
  ·exact absurd hxh' (hno i' hi' _ hx')
 ·rcases ht with ⟨hno, -⟩ | ⟨i', hd', r', c', zs', hi', hx', hxh', ht⟩
  ·exact absurd hxh (hno i hi _ hx)
  ·have e1 : i = i' := hd i i' _ _ hi hi' hx hx' (by show en.1 = hd'; omega)
   subst e1
   rw [hx] at hx'
   simp only [Option.some.injEq, Prod.mk.injEq] at hx'
   obtain ⟨rfl, rfl, rfl, rfl⟩ := hx'
   rcases hp with ⟨hf, -⟩ | ⟨-, hnf, rfl⟩ | ⟨-, hf, rfl, rfl⟩
   ·cases hf
   ·rcases ht with ⟨-, rfl, rfl, -⟩ | ⟨hf, -⟩ | ⟨hf, -⟩
    ·exact .inl ⟨rfl, rfl, .inr rfl⟩
    ·exact absurd hf hnf
    ·exact absurd hf hnf
   ·rcases ht with ⟨hnf, -⟩ | ⟨-, hr, rfl, rfl, -⟩ | ⟨-, hr, rfl, rfl, hl, hR⟩
    ·exact absurd hf hnf
    ·exact .inr (.inl ⟨rfl, rfl, rfl, hr⟩)
    ·exact .inr (.inr ⟨rfl, rfl, rfl, hr, en, i, r, c, zs, hen, hi, hx, hf, rfl, hl, hR⟩)
theorem nil_int (w : World) : Sem.run Tryz.prog (binOp BinOp.eql 25 (Value.slice none 0 0) (Value.slice none 0 0)) w = Result.ok (Value.bool true) w := by
 have h := run_equal_slice_nil (P := Tryz.prog) w 25 _ none 0 0 Tryz.underlying25
 simp [binOp, go_sem, h, Result.andThen]
theorem ent_all {r c : Nat} {zs : List Int} {P : Int → Prop} (h : ∀ i j, i < r → j < c → P (ent c zs i j)) (t : Nat) (ht : t < r * c) : P (zs.getD t 0) := by
 have hc : 0 < c := by
  rcases Nat.eq_zero_or_pos c with h0 | h0
  ·subst h0; rw [Nat.mul_zero] at ht; omega
  ·exact h0
 have h3 : t / c < r := by rw [Nat.div_lt_iff_lt_mul hc]; omega
 have h6 := h (t / c) (t % c) h3 (Nat.mod_lt t hc)
 unfold ent at h6
 rw [show t / c * c + t % c = t from by rw [Nat.mul_comm]; exact Nat.div_add_mod t c] at h6
 exact h6
theorem Lw.inj {w : World} {W T nx : Nat} {hv iv lv tv iv' lv' tv' : Value} (h : Lw w W T hv iv lv tv nx) (h' : Lw w W T hv iv' lv' tv' nx) : iv = iv' ∧ lv = lv' ∧ tv = tv' := by
 unfold Lw at h h'
 rw [h] at h'
 simp at h'
 exact h'
end Go.Proofs.YtfjbijpagaipnaaGreatDoor
