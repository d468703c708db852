import Derived.Test.YtfjbijpagaipnabGreatDoorR17
import Derived.Test.YtfjbijpagaipnabGreatDoorR28
import Derived.Test.YtfjbijpagaipnabGreatDoorR24
import Derived.BigRegion
import Derived.BigQuiet
import Derived.Deep.RegionHeld3
import Derived.Deep.CutRange
import Derived.Test.YtfjbijpagaipnabGreatDoorR33
import Derived.Test.YtfjbijpagaipnabGreatDoorR22
import Derived.Test.YtfjbijpagaipnabGreatDoorR06
import Derived.Deep.LoopGhost
import Derived.Test.YtfjbijpagaipnabGreatDoorR25
import Derived.Test.YtfjbijpagaipnabGreatDoorR32
namespace Go.Proofs.YtfjbijpagaipnabGreatDoor.R
open Go.RowKit
theorem RRow.weak {B B' : Nat} {w : World} {g c : Nat} {f : Nat → Int} {L : Nat} (h : RRow B w g c f L) (hB : B' ≤ B) : RRow B' w g c f L := by
 obtain ⟨cs, h1, h2, h3⟩ := h
 refine ⟨cs, h1, h2, fun j hj => ?_⟩
 obtain ⟨a, b, e1, e2, e3, e4⟩ := h3 j hj
 exact ⟨a, b, e1, e2, e3, e4.mono hB⟩
theorem IsR.weak {B B' : Nat} {w : World} {b r c : Nat} {gs : Nat → Nat} {f : Nat → Nat → Int} {L : Nat} (h : IsR B w b r c gs f L) (hB : B' ≤ B) : IsR B' w b r c gs f L := by
 obtain ⟨h0, v, h1, ⟨h2, h2'⟩, h3, h4⟩ := h
 refine ⟨by omega, v, h1, ⟨h2, ?_⟩, fun i hi => ⟨by have := (h3 i hi).1; omega, (h3 i hi).2.weak hB⟩, h4⟩
 rcases h2' with h5 | ⟨g, cap, cur, hv, hg, hh, r⟩
 ·exact .inl h5
 ·exact .inr ⟨g, cap, cur, hv, by omega, hh, r⟩
theorem AtB.zero (v : Value) : AtB 0 v := fun _ _ _ _ _ _ _ => Nat.zero_le _
theorem IsR.rowsAt {B : Nat} {w : World} {b r c : Nat} {gs : Nat → Nat} {f : Nat → Nat → Int} {L : Nat} (h : IsR B w b r c gs f L) : ∀ i, i < r → B ≤ gs i ∧ gs i < w.heap.size := by
 obtain ⟨h0, v, h1, h2, h3, h4⟩ := h
 exact fun i hi => ⟨(h3 i hi).1, (h3 i hi).2.lt⟩
theorem NBox.drew' {w : World} {b : Nat} {x y : Value} (h : NBox w b x y) : NBox w.drew b x y := h
def Upto (f f' : Nat → Nat → Int) (q c a e : Nat) (g : Nat → Nat → Int) : Prop := ∀ i j, j < c → (i < a ∨ (i = a ∧ j < e)) → g i j = dot f f' i j q
theorem Upto.next {f f' : Nat → Nat → Int} {q c a e : Nat} {g : Nat → Nat → Int} (h : Upto f f' q c a e g) {z : Int} (hz : z = dot f f' a e q) : Upto f f' q c a (e + 1) (upd2 g a e z) := by
 intro i j hj hd
 unfold upd2
 by_cases hij : i = a ∧ j = e
 ·rw [if_pos hij, hz, hij.1, hij.2]
 ·rw [if_neg hij]
  exact h i j hj (by omega)
theorem Upto.row {f f' : Nat → Nat → Int} {q c a e : Nat} {g : Nat → Nat → Int} (h : Upto f f' q c a e g) (he : c ≤ e) : Upto f f' q c (a + 1) 0 g := fun i j hj hd => h i j hj (by omega)
def TimesOut (W : World) (z : Int) (N : Nat) (p : Value) (wx : World) : Prop := ∃ (pb : Nat) (x y : Value), p = .pointer (some ⟨pb, 0, none⟩) ∧ W.heap.size ≤ pb ∧ NBox wx pb x y ∧ IsN wx (.agg #[x, y]) z N ∧ Below W.heap.size W wx
set_option maxRecDepth 100000 in
set_option maxHeartbeats 4000000 in
theorem mtimes_any (L M : Nat) (b r q : Nat) (gs : Nat → Nat) (f : Nat → Nat → Int) (B b' c : Nat) (gs' : Nat → Nat) (f' : Nat → Nat → Int) (B' : Nat) (w : World) (h : IsR B w b r q gs f L) (h' : IsR B' w b' q c gs' f' M) (hr : r ≤ 8) (hq : q ≤ 8) (hc : c ≤ 8) (hLM : L + M ≤ 40000000000) :
 Calls Tryz.prog 167 #[.pointer (some ⟨b, 0, none⟩), .pointer (some ⟨b', 0, none⟩)] w fun e w' => e = .returned (.pointer (some ⟨w.heap.size, 0, none⟩)) ∧ (∃ go, IsR 0 w' w.heap.size r c go (fun i j => dot f f' i j q) (L + M + 12)) ∧ Below w.heap.size w w' := by
 have H := Hid.mk (And.intro h h')
 obtain ⟨hbl, ao, cap, c0, c1, c2, -⟩ := h.open_
 obtain ⟨hbl', ao', cap', d0, d1, d2, -⟩ := h'.open_
 clear h h'
 go_enter Tryz.func167, Tryz.ntmps167
 go_upto_region 1 with fail
 go_cut [5] from 11 to 20 (fun o wx => o = .pointer (some ⟨w.heap.size, 0, none⟩) ∧ (∃ go, IsR w.heap.size wx w.heap.size r c go (fun _ _ => 0) 0) ∧ Below w.heap.size w wx)
 case first =>
  go_region_held3 (fun w' => w'.cell? ⟨b, 0, none⟩ = some (.int .i64 r) ∧ w'.cell? ⟨b', 1, none⟩ = some (.int .i64 c)) (first | go_keep | exact ⟨cell_later hb2 c0, cell_later hb2 d1⟩)
   (first | (go_at_call 174; refine (empty_any r c _ (by omega) (by omega)).mono ?_; rintro e w2 ⟨rfl, hI2, hb2⟩))
  all_goals
   go_wp2_with fail
   go_meet
   case rel => exact ⟨rfl, hI2, (Below.refl w.heap.size w).drew.trans hb2⟩
 case rest =>
  obtain ⟨rfl, ⟨go, hI⟩, hbc⟩ := hcut
  have hgo := hI.rowsAt
  have HGO := Hid.mk hgo
  have H0 := Hid.mk (And.intro ((hI.weak (Nat.zero_le _)).mono (Nat.zero_le (L + M + 12))) hbc)
  clear hI hbc hgo c0 c1 c2 d0 d1 d2
  go_wp2_with fail
  go_loopw [6] (fun i wr => ∃ (a : Nat) (g : Nat → Nat → Int), a ≤ r ∧ i = .int .i64 a ∧ IsR 0 wr w.heap.size r c go g (L + M + 12) ∧ Below w.heap.size w wr ∧ Hid (Upto f f' q c a 0 g)) (fun i _ => r - (intOf i).toNat)
  case atStart => exact ⟨0, _, Nat.zero_le _, rfl, H0.out.1, H0.out.2, Hid.mk (fun i j hj hd => by omega)⟩
  case round =>
   rename World => wi
   obtain ⟨a, g, ha, rfl, hI, hbel, HU⟩ := hrel
   obtain ⟨-, ao, cap, c0, c1, c2, -⟩ := (H.out.1.keep (KR.of_below hbel)).open_
   have HB := Hid.mk (And.intro hI hbel)
   clear hI hbel
   by_cases har : a < r
   ·have hai : (a : Int) < (r : Int) := by omega
    go_wp2_with fail
    go_loopw [7] (fun j wr => ∃ (e : Nat) (g : Nat → Nat → Int), e ≤ c ∧ j = .int .i64 e ∧ IsR 0 wr w.heap.size r c go g (L + M + 12) ∧ Below w.heap.size w wr ∧ Hid (Upto f f' q c a e g)) (fun j _ => c - (intOf j).toNat)
    case atStart => exact ⟨0, g, Nat.zero_le _, rfl, HB.out.1, HB.out.2, HU⟩
    case round =>
     rename World => wj
     clear c0 c1 c2
     obtain ⟨e, g, he, rfl, hI, hbel, HU2⟩ := hrel
     obtain ⟨-, ao', cap', d0, d1, d2, -⟩ := (H.out.2.keep (KR.of_below hbel)).open_
     have HB2 := Hid.mk (And.intro hI hbel)
     clear hI hbel
     by_cases hec : e < c
     ·have hei : (e : Int) < (c : Int) := by omega
      go_wp2_with fail
      refine (of_any 0 _ (by omega)).mono ?_
      rintro x0 w3 ⟨s0, rfl, hs0, hb3⟩
      obtain ⟨nb, so, cp, xs, rfl, -⟩ := hs0.parts
      have HS0 := Hid.mk (And.intro hs0 hb3)
      clear hs0 hb3 d0 d1 d2
      go_wp2_with fail
      obtain ⟨SB, hSB⟩ : ∃ SB, SB = w3.heap.size := ⟨_, rfl⟩
      have hN0 : NBox (w3.alloc (.cells #[.bool nb, .slice so xs.length cp] 171)) SB (.bool nb) (.slice so xs.length cp) := NBox.new w3 _ _ hSB
      rw [← hSB]
      obtain ⟨w4, hw4⟩ : ∃ w4, w4 = w3.alloc (.cells #[.bool nb, .slice so xs.length cp] 171) := ⟨_, rfl⟩
      have hb4 : Below wj.heap.size wj w4 := by rw [hw4]; exact HS0.out.2.alloc HS0.out.2.size _
      have hn4 : IsN w4 (.agg #[.bool nb, .slice so xs.length cp]) 0 (L + M + 3) := by rw [hw4]; exact (HS0.out.1.mono (by omega)).below ((Below.refl _ _).alloc (Nat.le_refl _) _)
      have hSB1 : wj.heap.size ≤ SB := by rw [hSB]; exact HS0.out.2.size
      rw [← hw4] at hN0 ⊢
      have K4 := Hid.mk (And.intro hN0 (And.intro hn4 hb4))
      have HSB := Hid.mk hSB1
      clear hN0 hn4 hb4 hw4 hSB hSB1
      go_loopw [9] (fun k wr => ∃ (t : Nat) (x y : Value), t ≤ q ∧ k = .int .i64 t ∧ NBox wr SB x y ∧ IsN wr (.agg #[x, y]) (dot f f' a e t) (L + M + 3 + t) ∧ Below wj.heap.size wj wr) (fun k _ => q - (intOf k).toNat)
      case atStart => exact ⟨0, _, _, Nat.zero_le _, rfl, K4.out.1, K4.out.2.1, K4.out.2.2⟩
      case round =>
       rename World => wk
       obtain ⟨t, sx, sy, ht, rfl, hNB, hN, hbk⟩ := hrel
       obtain ⟨nb1, so1, cp1, xs1, hv1, -⟩ := hN.parts
       simp only [Value.agg.injEq, Array.mk.injEq, List.cons.injEq, and_true] at hv1
       obtain ⟨rfl, rfl⟩ := hv1
       obtain ⟨n1, hn1⟩ : ∃ n1, n1 = xs1.length := ⟨_, rfl⟩
       rw [← hn1] at hNB hN
       clear hn1
       have hbw : Below w.heap.size w wk := HB2.out.2.trans (hbk.mono HB2.out.2.size)
       obtain ⟨-, ao, cap, c0, c1, c2, c3, c4, c5, c6⟩ := (H.out.1.keep (KR.of_below hbw)).open_
       obtain ⟨-, ao', cap', d0, d1, d2, d3, d4, d5, d6⟩ := (H.out.2.keep (KR.of_below hbw)).open_
       have K5 := Hid.mk (And.intro hNB (And.intro hN (And.intro hbk hbw)))
       clear hNB hN hbk hbw
       by_cases htq : t < q
       ·obtain ⟨gL, rfl, y1⟩ := c5 a har
        obtain ⟨nb2, so2, n2, cp2, y2, y3, -, -, hN2⟩ := c6 a t har htq
        obtain ⟨gL', rfl, z1⟩ := d5 t htq
        obtain ⟨nb3, so3, n3, cp3, z2, z3, -, -, hN3⟩ := d6 t e htq hec
        rw [Nat.mul_comm 2] at y2 y3 z2 z3
        have HN := Hid.mk (And.intro hN2 hN3)
        have hti : (t : Int) < (q : Int) := by omega
        have HC := Hid.mk (show ∀ w', Below wk.heap.size wk w' → w'.cell? ⟨b, 2, none⟩ = some (.slice (some ⟨gL, 0, none⟩) r cap) ∧ w'.cell? ⟨gL, a, none⟩ = some (.slice (some ⟨gs a, 0, none⟩) q q) ∧ w'.cell? ⟨gs a, t * 2, none⟩ = some (.bool nb2) ∧ w'.cell? ⟨gs a, t * 2 + 1, none⟩ = some (.slice so2 n2 cp2) ∧
         w'.cell? ⟨b', 2, none⟩ = some (.slice (some ⟨gL', 0, none⟩) q cap') ∧ w'.cell? ⟨gL', t, none⟩ = some (.slice (some ⟨gs' t, 0, none⟩) c c) ∧ w'.cell? ⟨gs' t, e * 2, none⟩ = some (.bool nb3) ∧ w'.cell? ⟨gs' t, e * 2 + 1, none⟩ = some (.slice so3 n3 cp3) from
         fun w' hb => ⟨cell_later hb c2, cell_later hb y1, cell_later hb y2, cell_later hb y3, cell_later hb d2, cell_later hb z1, cell_later hb z2, cell_later hb z3⟩)
        clear hN2 hN3 c5 c6 d5 d6
        go_upto_region 12 with fail
        go_cut [10] from 45 to 66 (fun p wx => TimesOut wk (f a t * f' t e) (L + M + 1) p wx)
        case first =>
         go_region_held3 (fun w' => w'.cell? ⟨b, 2, none⟩ = some (.slice (some ⟨gL, 0, none⟩) r cap) ∧ w'.cell? ⟨gL, a, none⟩ = some (.slice (some ⟨gs a, 0, none⟩) q q) ∧ w'.cell? ⟨gs a, t * 2, none⟩ = some (.bool nb2) ∧ w'.cell? ⟨gs a, t * 2 + 1, none⟩ = some (.slice so2 n2 cp2) ∧
          w'.cell? ⟨b', 2, none⟩ = some (.slice (some ⟨gL', 0, none⟩) q cap') ∧ w'.cell? ⟨gL', t, none⟩ = some (.slice (some ⟨gs' t, 0, none⟩) c c) ∧ w'.cell? ⟨gs' t, e * 2, none⟩ = some (.bool nb3) ∧ w'.cell? ⟨gs' t, e * 2 + 1, none⟩ = some (.slice so3 n3 cp3))
          (exact HC.out _ (by first | exact hb9 | exact (Below.refl _ _).drew | exact ((Below.refl _ _).alloc (Nat.le_refl _) _).drew | exact hb9.alloc hb9.size _ | exact (hb9.setCell (Nat.le_refl _) _).setCell (Nat.le_refl _) _))
          (first
            | (go_at_call 212; refine (ntimes_any _ _ (f a t) (f' t e) L M _ (HN.out.1.below ((Below.refl _ _).drew)) (HN.out.2.below ((Below.refl _ _).drew)) (by omega) (by omega)).mono ?_; rintro e w2 ⟨p9, rfl, hp9, hb8⟩; obtain ⟨nb9, so9, cp9, xs9, rfl, -⟩ := hp9.parts; have hb9 : Below wk.heap.size wk w2 := (Below.refl _ _).drew.trans hb8; clear hb8)
            | (go_at_call 212; refine (ntimes_any _ _ (f a t) (f' t e) L M _ (HN.out.1.below (((Below.refl _ _).alloc (Nat.le_refl _) _).drew)) (HN.out.2.below (((Below.refl _ _).alloc (Nat.le_refl _) _).drew)) (by omega) (by omega)).mono ?_; rintro e w2 ⟨p9, rfl, hp9, hb8⟩; obtain ⟨nb9, so9, cp9, xs9, rfl, -⟩ := hp9.parts; have hb9 : Below wk.heap.size wk w2 := ((Below.refl _ _).alloc (Nat.le_refl _) _).drew.trans (hb8.mono (by simp)); have hx9 : NBox w2 wk.heap.size (.bool false) (.slice none 0 0) := (NBox.new wk (.bool false) (.slice none 0 0) rfl).drew'.below hb8 (by simp); have hx8 := hx9.cells; clear hb8))
         all_goals
          go_wp2_with fail
          go_meet
          case rel =>
           first
            | exact ⟨_, _, _, rfl, hb9.size, NBox.new _ _ _ rfl, hp9.below ((Below.refl _ _).alloc (Nat.le_refl _) _), hb9.alloc hb9.size _⟩
            | exact ⟨_, _, _, rfl, Nat.le_refl _, hx9.put _ _, hp9.box hx9.ty (by decide) _ _, (hb9.setCell (Nat.le_refl _) _).setCell (Nat.le_refl _) _⟩
        case rest =>
         obtain ⟨pb, px, py, rfl, hpb, hPB, hp, hbp⟩ := hcut
         obtain ⟨nb5, so5, cp5, xs5, hv5, -⟩ := hp.parts
         simp only [Value.agg.injEq, Array.mk.injEq, List.cons.injEq, and_true] at hv5
         obtain ⟨rfl, rfl⟩ := hv5
         obtain ⟨n5, hn5⟩ : ∃ n5, n5 = xs5.length := ⟨_, rfl⟩
         rw [← hn5] at hPB hp
         clear hn5
         have hNB := K5.out.1.below hbp K5.out.1.lt
         obtain ⟨e1, e2, e3, e4⟩ := hNB.cells
         obtain ⟨p1, p2, -, -⟩ := hPB.cells
         have K6 := Hid.mk (And.intro hNB (And.intro hp (And.intro (K5.out.2.1.below hbp) (K5.out.2.2.1.trans (hbp.mono K5.out.2.2.1.size)))))
         clear hpb hPB hp hbp hNB c0 c1 c2 d0 d1 d2 y1 y2 y3 z1 z2 z3
         go_wp2_with fail
         refine (plus_any _ _ (dot f f' a e t) (f a t * f' t e) (L + M + 3 + t) (L + M + 1) _ K6.out.2.2.1 K6.out.2.1 (by omega) (by omega)).mono ?_
         rintro e9 w6 ⟨s6, rfl, hs6, hb6⟩
         obtain ⟨nb6, so6, cp6, xs6, rfl, -⟩ := hs6.parts
         clear e1 e2 e3 e4 p1 p2
         have hNB := K6.out.1.below hb6 K6.out.1.lt
         obtain ⟨e1, e2, e3, e4⟩ := hNB.cells
         have K7 := Hid.mk (And.intro hNB (And.intro hs6 (K6.out.2.2.2.trans (hb6.mono K6.out.2.2.2.size))))
         clear hNB hs6 hb6
         go_wp2_with fail
         go_roundw
         case measure => simp [intOf]; omega
         case rel =>
          refine ⟨t + 1, _, _, by omega, by go_num, K7.out.1.put _ _, ?_, (K7.out.2.2.setCell HSB.out _).setCell HSB.out _⟩
          exact (K7.out.2.1.box K7.out.1.ty (by decide) _ _).mono (by omega)
       ·have hte : t = q := by omega
        have hIk := HB2.out.1.keep (KR.of_below K5.out.2.2.1)
        obtain ⟨-, co, ecap, f0, f1, f2, f3, f4, f5, f6⟩ := hIk.open_
        obtain ⟨gO, rfl, y1⟩ := f5 a har
        obtain ⟨nb7, so7, n7, cp7, y2, y3, y4, y5, -⟩ := f6 a e har hec
        obtain ⟨e1, e2, -, -⟩ := K5.out.1.cells
        rw [Nat.mul_comm 2] at y2 y3 y4 y5
        have HI := Hid.mk (And.intro hIk hte)
        clear c2 c3 c4 c5 c6 d0 d1 d2 d3 d4 d5 d6 f5 f6 hIk hte
        go_wp2_with fail
        go_region
        all_goals
         go_wp2_with fail
         go_roundw
         case measure => simp [intOf]; omega
         case rel =>
          have hset := HI.out.1.set har hec (K5.out.2.1.mono (M := L + M + 12) (by omega)) (AtB.zero _)
          rw [Nat.mul_comm 2] at hset
          have hge := (HGO.out a har).1
          exact ⟨e + 1, _, by omega, by go_num, hset, ((K5.out.2.2.2.setCell hge _).setCell hge _).drew, Hid.mk (HU2.out.next (by rw [HI.out.2]))⟩
     ·go_wp2_with fail
      go_roundw
      case measure => simp [intOf]; omega
      case rel => exact ⟨a + 1, g, by omega, by go_num, HB2.out.1, HB2.out.2, Hid.mk (HU2.out.row (by omega))⟩
   ·go_wp2_with fail
    go_ret
    exact ⟨rfl, ⟨go, HB.out.1.congr (fun i j hi hj => HU.out i j hj (.inl (by omega)))⟩, HB.out.2⟩
end Go.Proofs.YtfjbijpagaipnabGreatDoor.R
namespace Go.Proofs.YtfjbijpagaipnabGreatDoor
open Go.RowKit R
theorem R.IsN.tight {w : World} {v : Value} {z : Int} {L : Nat} (h : IsN w v z L) (hz : z.natAbs < 281474976710656) : IsN w v z 4 := by
 obtain ⟨neg, sl, xs, h1, h2, h3, h4, h5, h6⟩ := h
 refine ⟨neg, sl, xs, h1, h2, h3, h4, h5, ?_⟩
 rcases Nat.lt_or_ge 4 xs.length with h7 | h7
 ·exfalso
  have h8 := R.Lim_ge h3 (by intro e; rw [e] at h7; simp at h7)
  have h9 : 10000 ^ 4 ≤ 10000 ^ (xs.length - 1) := Nat.pow_le_pow_right (by decide) (by omega)
  have h10 : z.natAbs = R.val xs := by
   cases neg
   ·rw [h5]; simp
   ·rw [h5]; simp
  omega
 ·exact h7
theorem R.IsR.tight {B : Nat} {w : World} {b r c : Nat} {gs : Nat → Nat} {f : Nat → Nat → Int} {L : Nat} (h : IsR B w b r c gs f L) (hf : ∀ i j, i < r → j < c → (f i j).natAbs < 281474976710656) : IsR B w b r c gs f 4 := by
 obtain ⟨h0, v, h1, h2, h3, h4⟩ := h
 refine ⟨h0, v, h1, h2, fun i hi => ⟨(h3 i hi).1, ?_⟩, h4⟩
 obtain ⟨cs, q1, q2, q3⟩ := (h3 i hi).2
 refine ⟨cs, q1, q2, fun j hj => ?_⟩
 obtain ⟨a, b, e1, e2, e3, e4⟩ := q3 j hj
 exact ⟨a, b, e1, e2, e3.tight (hf i j hi hj), e4⟩
theorem fits_fz {r c : Nat} {zs : List Int} (h : FitsP r c zs) : ∀ i j, i < r → j < c → (fz c zs i j).natAbs < 281474976710656 := fun _ _ hi hj => h.2.2 _ (idx_lt hi hj)
theorem nDig_le (k u : Nat) (h : u < 10 ^ (k + 1)) : Lib.nDigits u ≤ k + 1 := by
 induction k generalizing u with
 | zero => rw [Lib.nDigits_small (by simpa using h)]; exact Nat.le_refl _
 | succ k ih =>
   by_cases h1 : u < 10
   ·rw [Lib.nDigits_small h1]; omega
   ·rw [Lib.nDigits_big h1]
    have := ih (u / 10) (by rw [Nat.pow_succ] at h; omega)
    omega
theorem itoa_lenk (k : Nat) (z : Int) (h : z.natAbs < 10 ^ (k + 1)) : (Lib.itoa z).length ≤ k + 2 := by
 have h1 := nDig_le k z.natAbs h
 unfold Lib.itoa
 by_cases hz : z < 0
 ·rw [if_pos hz, List.length_cons, Lib.decDigits_length]; omega
 ·rw [if_neg hz, Lib.decDigits_length]
  rw [show z.toNat = z.natAbs from by omega]
  omega
theorem fine_small {r c k : Nat} {zs : List Int} (hr : r ≤ 4) (hc : c ≤ 4) (hl : zs.length = r * c) (hz : ∀ t, t < r * c → (zs.getD t 0).natAbs < 10 ^ (k + 1)) (hk : k ≤ 2000000000) : Fine r c zs := by
 refine ⟨by omega, by omega, hl, ?_⟩
 have hrc : r * c ≤ 16 := Nat.mul_le_mul hr hc
 have hb : ∀ (l : List (List UInt8)) (t : Nat), (∀ x ∈ l, x.length ≤ k + 2) → (bodyT c t l).length ≤ l.length * (k + 4) := by
  intro l
  induction l with
  | nil => intro t _; simp [bodyT]
  | cons a b ih =>
    intro t hx
    have h1 := hx a (by simp)
    have h2 := ih (t + 1) (fun x hx' => hx x (List.mem_cons_of_mem _ hx'))
    rw [bodyT]
    simp only [List.length_append, List.length_cons, Nat.succ_mul]
    split <;> simp <;> omega
 have h1 := hb (zs.map Lib.itoa) 0 (fun x hx => by
  obtain ⟨z, hz', rfl⟩ := List.mem_map.1 hx
  obtain ⟨i, hi, rfl⟩ := List.mem_iff_getElem.1 hz'
  have := hz i (by omega)
  rw [show zs.getD i 0 = zs[i] from by simp [List.getD, List.getElem?_eq_getElem hi]] at this
  exact itoa_lenk k _ this)
 rw [List.length_map, hl] at h1
 have h2 := dec_le2 r (by omega)
 have h3 := dec_le2 c (by omega)
 unfold matT
 simp only [List.length_append, List.length_cons]
 have : r * c * (k + 4) ≤ 16 * (k + 4) := Nat.mul_le_mul_right _ hrc
 omega
open Go.RowKit
theorem at_first (v : Value) (r c col : Nat) (zs : List Int) (L : Nat) (w : World) (hm : IsM w v r c zs L) (h1 : 0 < r) (h2 : col < c) :
 Calls Tryz.prog 64 #[v, .int .i64 0, .int .i64 col] w fun e w' => ∃ x, e = .returned x ∧ IntOut w w' x (zs.getD col 0) L := by
 have := at_in v r c 0 col zs L w hm h1 h2
 rw [Nat.zero_mul, Nat.zero_add] at this
 exact this
theorem Boxes.other {w : World} {b d r c p : Nat} {sl : Value} {nb : Bool} {s x y : Value} (h : Boxes w b d r c sl nb s) (h1 : p ≠ b) (h2 : p ≠ d) : Boxes ((w.setCell ⟨p, 0, none⟩ x).setCell ⟨p, 1, none⟩ y) b d r c sl nb s := by
 have o : ∀ i j : Nat, (⟨p, i, none⟩ : Addr) ≠ ⟨b, j, none⟩ := fun i j e => h1 (by injection e)
 have o2 : ∀ i j : Nat, (⟨p, i, none⟩ : Addr) ≠ ⟨d, j, none⟩ := fun i j e => h2 (by injection e)
 obtain ⟨a1, a2, a3, a4, a5, a6, a7⟩ := h
 refine ⟨?_, ?_, ?_, ?_, ?_, by simpa using a6, by simpa using a7⟩
 ·rw [World.cell?_setCell_other _ _ _ _ (o _ _), World.cell?_setCell_other _ _ _ _ (o _ _)]; exact a1
 ·rw [World.cell?_setCell_other _ _ _ _ (o _ _), World.cell?_setCell_other _ _ _ _ (o _ _)]; exact a2
 ·rw [World.cell?_setCell_other _ _ _ _ (o _ _), World.cell?_setCell_other _ _ _ _ (o _ _)]; exact a3
 ·rw [World.cell?_setCell_other _ _ _ _ (o2 _ _), World.cell?_setCell_other _ _ _ _ (o2 _ _)]; exact a4
 ·rw [World.cell?_setCell_other _ _ _ _ (o2 _ _), World.cell?_setCell_other _ _ _ _ (o2 _ _)]; exact a5
def PartOut (w4 : World) (z : Int) (L : Nat) (p : Value) (wx : World) : Prop := ∃ (pb : Nat) (nq : Bool) (qo : Option Addr) (mq qcap : Nat), p = .pointer (some ⟨pb, 0, none⟩) ∧ w4.heap.size ≤ pb ∧ Duo wx pb (.bool nq) (.slice qo mq qcap) ∧ IsI wx (.agg #[.bool nq, .slice qo mq qcap]) z L ∧ Below w4.heap.size w4 wx
theorem PartOut.made {w4 w6 : World} {z : Int} {L : Nat} {nq : Bool} {qo : Option Addr} {mq qcap : Nat} (hq : IsI w6 (.agg #[.bool nq, .slice qo mq qcap]) z L) (hb : Below w4.heap.size w4 w6) :
 PartOut w4 z L (.pointer (some ⟨w6.heap.size, 0, none⟩)) (w6.alloc (.cells #[.bool nq, .slice qo mq qcap] 79)) :=
 ⟨_, nq, qo, mq, qcap, rfl, hb.size, Duo.new _ _ _ rfl, hq.below ((Below.refl _ _).alloc (Nat.le_refl _) _), hb.alloc hb.size _⟩
theorem PartOut.stored {w4 w6 : World} {z : Int} {L b : Nat} {nq : Bool} {qo : Option Addr} {mq qcap : Nat} {x y : Value} (ht : Duo w6 b x y) (hle : w4.heap.size ≤ b) (hq : IsI w6 (.agg #[.bool nq, .slice qo mq qcap]) z L) (hb : Below w4.heap.size w4 w6) :
 PartOut w4 z L (.pointer (some ⟨b, 0, none⟩)) ((w6.setCell ⟨b, 0, none⟩ (.bool nq)).setCell ⟨b, 1, none⟩ (.slice qo mq qcap)) :=
 ⟨_, nq, qo, mq, qcap, rfl, hle, ht.put _ _, hq.keep (KU.setCell (KU.setCell (KU.refl _) ht.ty (by decide) _) (ht.ty.setCell _ _) (by decide) _), (hb.setCell hle _).setCell hle _⟩
theorem sum_next {n k : Nat} {f : Nat → Nat → Int} {S : Int} (h : S = sumF k fun c => signed c (f 0 c * detF n fun i j => f (i + 1) (skip c j))) :
 S + signed k (f 0 k * detF n fun i j => f (i + 1) (skip k j)) = sumF (k + 1) fun c => signed c (f 0 c * detF n fun i j => f (i + 1) (skip c j)) := by rw [sumF, h]
set_option maxRecDepth 100000 in
set_option maxHeartbeats 4000000 in
theorem det_succ (n : Nat) (ih : DetSaid n) : DetSaid (n + 1) := by
 intro v zs f L w hm hrep hl hL
 have HIH := Hid.mk ih
 have HREP := Hid.mk hrep
 have HLD := Hid.mk hl
 have HM := Hid.mk hm
 clear ih hrep hl
 obtain ⟨hr, _, sl, rfl, hg0⟩ := hm
 obtain ⟨ao, cap, rfl, -⟩ := hg0.shape
 clear hg0
 obtain ⟨R, hR⟩ : ∃ R, R = n + 1 := ⟨_, rfl⟩
 obtain ⟨N, hN⟩ : ∃ N, N = (n + 1) * (n + 1) := ⟨_, rfl⟩
 rw [← hN] at HM ⊢
 rw [← hR] at HM hr ⊢
 have HR := Hid.mk hR
 have hR0 : 0 < R := by omega
 have hne : ((R : Int) == 0) = false := beq_eq_false_iff_ne.2 (by omega)
 clear hR hN
 go_enter Tryz.func39, Tryz.ntmps39
 go_wp2_with (go_at_call 38; refine (isSquare_raw _ _ _ _ _ _).mono ?_; rintro e w' ⟨rfl, rfl⟩)
 obtain ⟨W1, hW1⟩ : ∃ W1, W1 = (((w.alloc (.cells #[.int .i64 R, .int .i64 R, .slice ao N cap] 66)).alloc (.cells #[.bool false, .slice none 0 0] 79)).alloc (.cells #[.int .i64 R, .int .i64 R, .slice ao N cap] 66)).alloc (.cells #[.bool false, .slice none 0 0] 79) := ⟨_, rfl⟩
 rw [← hW1]
 have hB1 : Below w.heap.size w W1 := by
  rw [hW1]
  repeat (first | exact Below.refl _ _ | refine Below.alloc ?_ (by simp <;> omega) _)
 have hx1 : Boxes W1 w.heap.size (w.heap.size + 1 + 1 + 1) R R (.slice ao N cap) false (.slice none 0 0) := by
  rw [hW1]
  refine ⟨?_, ?_, ?_, ?_, ?_, ?_, ?_⟩
  ·exact cell3 (by simp) _ _ _
  ·exact cell3 (by simp) _ _ _
  ·exact cell3 (by simp) _ _ _
  ·exact new_cell _ _ _ _ _ (by simp) rfl
  ·exact new_cell _ _ _ _ _ (by simp) rfl
  ·exact new_frozen _ _ _ _ _ (by simp)
  ·exact new_frozen _ _ _ _ _ (by simp)
 have hty1 : Ty W1 (w.heap.size + 1 + 1 + 1) 79 := by rw [hW1]; exact Ty.at_ _ _ _ (by simp)
 have hres : W1.heap[w.heap.size + 1]? = some (.cells #[.bool false, .slice none 0 0] 79 (0, 0)) := by
  rw [hW1, Below.heap_alloc _ _ _ (by simp), Below.heap_alloc _ _ _ (by simp)]
  have := heap_alloc_new (w.alloc (.cells #[.int .i64 R, .int .i64 R, .slice ao N cap] 66)) (.cells #[.bool false, .slice none 0 0] 79)
  simpa using this
 have hS : W1.heap.size = w.heap.size + 4 := by rw [hW1]; simp
 obtain ⟨sb, hsb⟩ : ∃ sb, sb = w.heap.size + 1 + 1 + 1 := ⟨_, rfl⟩
 rw [← hsb] at hx1 hty1 ⊢
 have hsb1 : w.heap.size + 3 ≤ sb := by omega
 have hsb2 : sb ≤ w.heap.size + 3 := by omega
 have FR := Hid.mk hres
 have HS := Hid.mk hS
 clear hW1 hres hS hsb
 go_loopg [4] R (fun gk i wr => ∃ (k : Nat) (S : Int) (nb : Bool) (bo : Option Addr) (m ecap : Nat), k ≤ R ∧ i = .int .i64 k ∧ Ty wr sb 79 ∧ Boxes wr w.heap.size sb R R (.slice ao N cap) nb (.slice bo m ecap) ∧ IsI wr (.agg #[.bool nb, .slice bo m ecap]) S (L + LD L n + k) ∧ W1.grownBy wr (some sb) ∧ Below w.heap.size w wr ∧
  Hid (gk = R - k ∧ S = sumF k fun c => signed c (f 0 c * detF n fun i j => f (i + 1) (skip c j))))
 case atStart => exact ⟨0, 0, _, _, _, _, Nat.zero_le _, rfl, hty1, hx1, IsI.zero _ _, World.grownBy.refl _ _, hB1, Hid.mk ⟨by omega, rfl⟩⟩
 case round =>
  clear hx1 hB1 hty1
  obtain ⟨k, S, nb, bo, m, ecap, hk, rfl, hty, hx, hI, hgr, hB, HSUM⟩ := hrel
  obtain ⟨m0, m1, m2, s0, s1, z0, z1⟩ := id hx
  have HX := Hid.mk hx
  have HTY := Hid.mk hty
  clear hty
  have HI := Hid.mk hI
  have HG := Hid.mk hgr
  have HB := Hid.mk hB
  clear hx hI hgr hB
  by_cases hkR : k < R
  ·go_wp2_with fail
   refine (minor_any _ R R k zs L _ ((HR.out ▸ HM.out : IsM w _ R R zs L).below HB.out) (by omega) hkR).mono ?_
   rintro e w2 ⟨x, rfl, ⟨ms, hms, hmo⟩, hb2⟩
   have HTY2 := Hid.mk (HTY.out.below hb2 HTY.out.lt)
   have hrep2 : Rep n ms fun i j => f (i + 1) (skip k j) := HREP.out.minor (HR.out ▸ hmo)
   have hms2 : IsM w2 x n n ms L := by have := HR.out; subst this; exact hms
   obtain ⟨g1, g2, sl2, rfl, hg2⟩ := id hms2
   obtain ⟨co, dcap, rfl, -⟩ := hg2.shape
   have hx2 := HX.out.below hb2
   have hI2 := HI.out.below hb2
   have hgr2 := grown_below HG.out hb2
   have hB2 : Below w.heap.size w w2 := HB.out.trans (hb2.mono HB.out.size)
   clear m0 m1 m2 s0 s1 z0 z1 HX HI HG HB hg2 hms hmo hb2
   have H2 := Hid.mk (And.intro hms2 (And.intro hrep2 (And.intro hx2 (And.intro hI2 (And.intro hgr2 hB2)))))
   clear hms2 hrep2 hx2 hI2 hgr2 hB2
   go_wp2_with fail
   refine (HIH.out _ ms (fun i j => f (i + 1) (skip k j)) L _ (H2.out.1.below ((Below.refl _ _).alloc (Nat.le_refl _) _)) H2.out.2.1 (by have := HLD.out; have := LD_mono L n; omega) hL).mono ?_
   rintro e w4 ⟨rest, rfl, hrest, hb4⟩
   obtain ⟨nr, eo, me, fcap, rfl⟩ := hrest.shape
   have h24 : Below w2.heap.size w2 w4 := ((Below.refl w2.heap.size w2).alloc (Nat.le_refl _) _).trans (hb4.mono (by simp))
   obtain ⟨-, -, hx2, hI2, hgr2, hB2⟩ := H2.out
   have HTS := Hid.mk (HTY2.out.below h24 HTY2.out.lt)
   have hx4 := hx2.below h24
   have hI4 := hI2.below h24
   have hgr4 := grown_below hgr2 h24
   have hB4 : Below w.heap.size w w4 := hB2.trans (h24.mono hB2.size)
   have hM4 : IsM w4 (.agg #[.int .i64 R, .int .i64 R, .slice ao N cap]) R R zs L := (HR.out ▸ HM.out : IsM w _ R R zs L).below hB4
   obtain ⟨m0, m1, m2, s0, s1, z0, z1⟩ := id hx4
   have m0' := cell1 m0
   have m1' := cell1 m1
   have m2' := cell1 m2
   have hlt := hx4.lt
   have H4 := Hid.mk (And.intro hx4 (And.intro hI4 (And.intro hgr4 (And.intro hB4 (And.intro hM4 hrest)))))
   clear H2 hx2 hI2 hgr2 hB2 hx4 hI4 hgr4 hB4 hM4 hrest hb4 h24 m0 m1 m2 s0 s1 z0 z1
   obtain ⟨hlt1, hlt2⟩ := hlt
   go_upto_region 11 with fail
   go_cut [7] from 17 to 40 (fun p wx => PartOut w4 (zs.getD k 0 * detF n fun i j => f (i + 1) (skip k j)) (L + LD L n) p wx)
   case first =>
    go_region_with (first
     | (go_at_call 64; go_must (refine (at_first _ R R k zs L _ (H4.out.2.2.2.2.1.below (by repeat (first | exact Below.refl _ _ | refine Below.drew ?_ | refine Below.alloc ?_ (by simp <;> omega) _))) hR0 hkR).mono ?_; rintro e w5 ⟨y, rfl, hy, hb5⟩; obtain ⟨ny, fo, mf, gcap, rfl⟩ := hy.shape; obtain ⟨hc5, hf5⟩ := bcell hb5; have hsz5 : w4.heap.size < w5.heap.size := (by have := hb5.size; simp at this; omega); try (have TW5 := Hid.mk (Duo.below (Duo.drew (Duo.new (w4.alloc _) (.bool false) (.slice none 0 0) (b := w4.heap.size + 1) (by simp))) hb5 (by simp)); obtain ⟨a1, a2, a3, a4⟩ := TW5.out.cells; have l5 : w4.heap.size + 1 < w5.heap.size := TW5.out.ty.lt)))
     | (go_at_call 65; go_must (refine (mul_any _ _ _ _ L (LD L n) _ (hy.below (by repeat (first | exact Below.refl _ _ | refine Below.alloc ?_ (by first | omega | (simp <;> omega)) _))) (H4.out.2.2.2.2.2.below (by repeat (first | exact Below.refl _ _ | refine Below.trans ?_ (hb5.mono (by first | omega | (simp <;> omega))) | refine Below.drew ?_ | refine Below.alloc ?_ (by first | omega | (simp <;> omega)) _))) (by omega) (by have := HLD.out; have := LD_mono L n; omega)).mono ?_; rintro e w6 ⟨q, rfl, hq, hb6⟩; have HB46 : Hid (Below w4.heap.size w4 w6) := Hid.mk (Below.trans (by repeat (first | exact Below.refl _ _ | refine Below.trans ?_ (hb5.mono (by first | omega | (simp <;> omega))) | refine Below.drew ?_ | refine Below.alloc ?_ (by first | omega | (simp <;> omega)) _)) (hb6.mono (by first | omega | (simp <;> omega)))); obtain ⟨nq, qo, mq, qcap, rfl⟩ := hq.shape; obtain ⟨hc6, hf6⟩ := bcell hb6; have hsz6 := hb6.size; try (have TW := Hid.mk (Duo.below (Duo.new w5 (.bool false) (.slice none 0 0) rfl) hb6 (by simp)); obtain ⟨t1, t2, t3, t4⟩ := TW.out.cells); try (have TW := Hid.mk (TW5.out.below hb6 (by have := TW5.out.ty.lt; omega)); obtain ⟨t1, t2, t3, t4⟩ := TW.out.cells))))
    all_goals
     go_wp2_with fail
     go_meet
     case rel =>
      first
       | exact PartOut.made hq HB46.out
       | exact PartOut.stored TW.out (Nat.le_of_lt hsz5) hq HB46.out
       | exact PartOut.stored TW.out (Nat.le_succ _) hq HB46.out
       | exact PartOut.stored (TW5.out.below hb6 l5) (Nat.le_succ _) hq HB46.out
   case rest =>
    obtain ⟨pb, nq, qo, mq, qcap, rfl, hpb, hTwo, hq, hbc⟩ := hcut
    obtain ⟨hx4, hI4, hgr4, hB4, -, -⟩ := H4.out
    have hxC := hx4.below hbc
    have hIC := hI4.below hbc
    have hgC := grown_below hgr4 hbc
    have hBC : Below w.heap.size w wc := hB4.trans (hbc.mono hB4.size)
    have hTC : Ty wc sb 79 := HTS.out.below hbc HTS.out.lt
    have hf0 : zs.getD k 0 = f 0 k := by have := HREP.out 0 k (by omega) (by have := HR.out; omega); simpa using this
    have hltp : pb < wc.heap.size := hTwo.ty.lt
    rw [hf0] at hq
    clear H4 hx4 hI4 hgr4 hB4 hbc m0' m1' m2' hf0
    by_cases hodd : k % 2 = 1
    ·have hod : ((k : Int) % 2 == 1) = true := beq_iff_eq.2 (by omega)
     have HZZ0 : Hid (-(f 0 k * detF n fun i j => f (i + 1) (skip k j)) = signed k (f 0 k * detF n fun i j => f (i + 1) (skip k j))) := Hid.mk (by unfold signed; rw [if_pos hodd])
     clear hodd
     have HC := Hid.mk (And.intro hxC (And.intro hIC (And.intro hgC (And.intro hBC (And.intro hTC (And.intro hTwo hq))))))
     obtain ⟨t1, t2, t3, t4⟩ := hTwo.cells
     clear hxC hIC hgC hBC hTC hTwo hq
     go_wp2_with fail
     refine (neg_any _ _ _ _ HC.out.2.2.2.2.2.2).mono ?_
     rintro e w7 ⟨r, rfl, hr, hb7⟩
     obtain ⟨nz7, oz7, mz7, cz7, rfl⟩ := hr.shape
     obtain ⟨hxC, hIC, hgC, hBC, hTC, hTwo, -⟩ := HC.out
     have hT7 := hTwo.below hb7 hltp
     have hx7 := hxC.below hb7
     obtain ⟨t5, t6, t7, t8⟩ := hT7.cells
     have hku : KU w7 ((w7.setCell ⟨pb, 0, none⟩ (.bool nz7)).setCell ⟨pb, 1, none⟩ (.slice oz7 mz7 cz7)) := KU.setCell (KU.setCell (KU.refl _) hT7.ty (by decide) _) (hT7.ty.setCell _ _) (by decide) _
     have hPX : IsI ((w7.setCell ⟨pb, 0, none⟩ (.bool nz7)).setCell ⟨pb, 1, none⟩ (.slice oz7 mz7 cz7)) (.agg #[.bool nz7, .slice oz7 mz7 cz7]) (-(f 0 k * detF n fun i j => f (i + 1) (skip k j))) (L + LD L n) := hr.keep hku
     have hIX := (hIC.below hb7).keep hku
     have hxX : Boxes ((w7.setCell ⟨pb, 0, none⟩ (.bool nz7)).setCell ⟨pb, 1, none⟩ (.slice oz7 mz7 cz7)) w.heap.size sb R R (.slice ao N cap) nb (.slice bo m ecap) := hx7.other (by omega) (by omega)
     have hgX : W1.grownBy ((w7.setCell ⟨pb, 0, none⟩ (.bool nz7)).setCell ⟨pb, 1, none⟩ (.slice oz7 mz7 cz7)) (some sb) := grown_new (grown_below hgC hb7) (by have := HS.out; omega)
     have hBX : Below w.heap.size w ((w7.setCell ⟨pb, 0, none⟩ (.bool nz7)).setCell ⟨pb, 1, none⟩ (.slice oz7 mz7 cz7)) := ((hBC.trans (hb7.mono hBC.size)).setCell (by simp; omega) _).setCell (by simp; omega) _
     have hTX := ((hTC.below hb7 hTC.lt).setCell ⟨pb, 0, none⟩ (.bool nz7)).setCell ⟨pb, 1, none⟩ (.slice oz7 mz7 cz7)
     obtain ⟨q0, q1, q2, q3, q4, q5, q6⟩ := id hxX
     obtain ⟨y1, y2, y3, y4⟩ := (hT7.put (.bool nz7) (.slice oz7 mz7 cz7)).cells
     generalize hzz : -(f 0 k * detF n fun i j => f (i + 1) (skip k j)) = zz at hPX HZZ0
     have HZZ := HZZ0
     clear HZZ0 hzz hr hb7 hT7 hx7 hku hxC hIC hgC hBC hTC hTwo t1 t2 t3 t4
     have P := Hid.mk (And.intro hPX (And.intro hIX (And.intro hxX (And.intro hgX (And.intro hBX hTX)))))
     clear hPX hIX hxX hgX hBX hTX HC
     go_wp2_with fail
     obtain ⟨hPX, hIX, hxX, hgX, hBX, hTX⟩ := P.out
     refine (add_any _ _ S zz (L + LD L n + k) (L + LD L n) _ hIX hPX (by have := HLD.out; rw [LD] at this; omega) (by have := HLD.out; rw [LD] at this; omega)).mono ?_
     rintro e w9 ⟨r2, rfl, hr2, hb9⟩
     obtain ⟨nb2, bo2, m2, ec2, rfl⟩ := hr2.shape
     have hx9 := hxX.below hb9
     have hg9 := grown_below hgX hb9
     have hB9 : Below w.heap.size w w9 := hBX.trans (hb9.mono hBX.size)
     obtain ⟨-, -, -, s0, s1, z0, z1⟩ := id hx9
     have hty9 : Ty w9 sb 79 := hTX.below hb9 hTX.lt
     have H9 := Hid.mk (And.intro hx9 (And.intro hg9 (And.intro hB9 (And.intro hr2 hty9))))
     clear hx9 hg9 hB9 hr2 hty9 hb9 hxX hIX hPX hgX hBX hTX P t5 t6 t7 t8 q0 q1 q2 q3 q4 q5 q6 y1 y2 y3 y4
     go_wp2_with fail
     go_roundg (R - (k + 1))
     case measure => have := HSUM.out.1; omega
     case rel =>
      obtain ⟨hx9, hg9, hB9, hr2, hty9⟩ := H9.out
      refine ⟨k + 1, S + zz, nb2, bo2, m2, ec2, by omega, by go_num, (hty9.setCell _ _).setCell _ _, hx9.put (by omega), (hr2.mono (by omega)).keep (KU.setCell (KU.setCell (KU.refl _) hty9 (by decide) _) (hty9.setCell _ _) (by decide) _), grown_put2 hg9, (hB9.setCell (by simp; omega) _).setCell (by simp; omega) _, Hid.mk ⟨rfl, ?_⟩⟩
      rw [← sum_next HSUM.out.2, HZZ.out]
    ·have hod : ((k : Int) % 2 == 1) = false := beq_eq_false_iff_ne.2 (by omega)
     have HZZ0 : Hid ((f 0 k * detF n fun i j => f (i + 1) (skip k j)) = signed k (f 0 k * detF n fun i j => f (i + 1) (skip k j))) := Hid.mk (by unfold signed; rw [if_neg hodd])
     clear hodd
     obtain ⟨q0, q1, q2, q3, q4, q5, q6⟩ := id hxC
     obtain ⟨y1, y2, y3, y4⟩ := hTwo.cells
     generalize hzz : (f 0 k * detF n fun i j => f (i + 1) (skip k j)) = zz at hq HZZ0
     have HZZ : Hid (zz = signed k (f 0 k * detF n fun i j => f (i + 1) (skip k j))) := Hid.mk (by rw [hzz]; exact HZZ0.out)
     have P := Hid.mk (And.intro hq (And.intro hIC (And.intro hxC (And.intro hgC (And.intro hBC hTC)))))
     clear HZZ0 hzz hq hIC hxC hgC hBC hTC hTwo
     go_wp2_with fail
     obtain ⟨hPX, hIX, hxX, hgX, hBX, hTX⟩ := P.out
     refine (add_any _ _ S zz (L + LD L n + k) (L + LD L n) _ hIX hPX (by have := HLD.out; rw [LD] at this; omega) (by have := HLD.out; rw [LD] at this; omega)).mono ?_
     rintro e w9 ⟨r2, rfl, hr2, hb9⟩
     obtain ⟨nb2, bo2, m2, ec2, rfl⟩ := hr2.shape
     have hx9 := hxX.below hb9
     have hg9 := grown_below hgX hb9
     have hB9 : Below w.heap.size w w9 := hBX.trans (hb9.mono hBX.size)
     obtain ⟨-, -, -, s0, s1, z0, z1⟩ := id hx9
     have hty9 : Ty w9 sb 79 := hTX.below hb9 hTX.lt
     have H9 := Hid.mk (And.intro hx9 (And.intro hg9 (And.intro hB9 (And.intro hr2 hty9))))
     clear hx9 hg9 hB9 hr2 hty9 hb9 hxX hIX hPX hgX hBX hTX P q0 q1 q2 q3 q4 q5 q6 y1 y2 y3 y4
     go_wp2_with fail
     go_roundg (R - (k + 1))
     case measure => have := HSUM.out.1; omega
     case rel =>
      obtain ⟨hx9, hg9, hB9, hr2, hty9⟩ := H9.out
      refine ⟨k + 1, S + zz, nb2, bo2, m2, ec2, by omega, by go_num, (hty9.setCell _ _).setCell _ _, hx9.put (by omega), (hr2.mono (by omega)).keep (KU.setCell (KU.setCell (KU.refl _) hty9 (by decide) _) (hty9.setCell _ _) (by decide) _), grown_put2 hg9, (hB9.setCell (by simp; omega) _).setCell (by simp; omega) _, Hid.mk ⟨rfl, ?_⟩⟩
      rw [← sum_next HSUM.out.2, HZZ.out]
  ·have hres : wr.heap[w.heap.size + 1]? = some (.cells #[.bool false, .slice none 0 0] 79 (0, 0)) := by
    rw [HG.out.block _ (by have := HS.out; omega) (by simp; omega)]; exact FR.out
   have hTr : Duo wr (w.heap.size + 1) (.bool false) (.slice none 0 0) := hres
   obtain ⟨r0, r1, r2, r3⟩ := hTr.cells
   have HTR := Hid.mk hTr
   clear hres hTr
   go_wp2_with fail
   refine bodyPost_ret (v := .agg #[.bool nb, .slice bo m ecap]) ?_ rfl ?_
   ·(simp [results, Tryz.results39, go_sem, r0, r1]; done)
   ·have hkk : k = n + 1 := by have := HR.out; omega
    refine ⟨_, rfl, ?_, (HB.out.setCell (by simp) _).setCell (by simp) _⟩
    have h1 : S = detF R f := by rw [HSUM.out.2, hkk, HR.out, detF]
    rw [← h1]
    refine (HI.out.mono ?_).keep (KU.setCell (KU.setCell (KU.refl _) HTR.out.ty (by decide) _) (HTR.out.ty.setCell _ _) (by decide) _)
    rw [HR.out, LD, hkk]
    exact Nat.le_refl _
theorem det_any (n : Nat) : DetSaid n := by
 induction n with
 | zero => exact det_zero
 | succ n ih => exact det_succ n ih
open Go.RowKit R
theorem rank_uniq {f : Nat → Nat → Int} {r c k l : Nat} (h : RankIs f r c k) (h' : RankIs f r c l) : k = l := by
 obtain ⟨a1, a2, a3, a4⟩ := h
 obtain ⟨b1, b2, b3, b4⟩ := h'
 rcases Nat.lt_trichotomy k l with hlt | heq | hgt
 ·rcases a4 with h1 | h1 | h1
  ·omega
  ·omega
  ·exact absurd h1 (b3 k hlt)
 ·exact heq
 ·rcases b4 with h1 | h1 | h1
  ·omega
  ·omega
  ·exact absurd h1 (a3 l hgt)
end Go.Proofs.YtfjbijpagaipnabGreatDoor
