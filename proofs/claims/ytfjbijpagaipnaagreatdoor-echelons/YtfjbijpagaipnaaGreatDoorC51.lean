import Derived.Test.YtfjbijpagaipnaaGreatDoorC21
import Derived.Test.YtfjbijpagaipnaaGreatDoorC43
import Derived.Test.YtfjbijpagaipnaaGreatDoorC29
import Derived.BigRegion
import Derived.BigQuiet
import Derived.Deep.RegionHeld3
import Derived.Deep.CutRange
import Derived.Test.YtfjbijpagaipnaaGreatDoorC50
import Derived.Test.YtfjbijpagaipnaaGreatDoorC26
/- matricesref.M: Times. -/
namespace Go.Proofs.YtfjbijpagaipnaaGreatDoor.R
open Go.RowKit

theorem RRow.weak {B B' : Nat} {w : World} {g c : Nat} {f : Nat → Int} {L : Nat} (h : RRow B w g c f L) (hB : B' ≤ B) : RRow B' w g c f L := by
  obtain ⟨cs, h1, h2, h3⟩ := h
  refine ⟨cs, h1, h2, fun j hj => ?_⟩
  obtain ⟨a, b, e1, e2, e3, e4⟩ := h3 j hj
  exact ⟨a, b, e1, e2, e3, e4.mono hB⟩
theorem IsR.weak {B B' : Nat} {w : World} {b r c : Nat} {gs : Nat → Nat} {f : Nat → Nat → Int} {L : Nat} (h : IsR B w b r c gs f L) (hB : B' ≤ B) : IsR B' w b r c gs f L := by
  obtain ⟨h0, v, h1, ⟨h2, h2'⟩, h3, h4⟩ := h
  refine ⟨by omega, v, h1, ⟨h2, ?_⟩, fun i hi => ⟨by have := (h3 i hi).1; omega, (h3 i hi).2.weak hB⟩, h4⟩
  rcases h2' with h5 | ⟨g, cap, cur, hv, hg, hh, r⟩
  · exact .inl h5
  · exact .inr ⟨g, cap, cur, hv, by omega, hh, r⟩
theorem AtB.zero (v : Value) : AtB 0 v := fun _ _ _ _ _ _ _ => Nat.zero_le _
theorem IsR.rowsAt {B : Nat} {w : World} {b r c : Nat} {gs : Nat → Nat} {f : Nat → Nat → Int} {L : Nat} (h : IsR B w b r c gs f L) : ∀ i, i < r → B ≤ gs i ∧ gs i < w.heap.size := by
  obtain ⟨h0, v, h1, h2, h3, h4⟩ := h
  exact fun i hi => ⟨(h3 i hi).1, (h3 i hi).2.lt⟩
theorem NBox.drew' {w : World} {b : Nat} {x y : Value} (h : NBox w b x y) : NBox w.drew b x y := h
/-- What is reckoned so far of the product. -/
def Upto (f f' : Nat → Nat → Int) (q c a e : Nat) (g : Nat → Nat → Int) : Prop := ∀ i j, j < c → (i < a ∨ (i = a ∧ j < e)) → g i j = dot f f' i j q
theorem Upto.next {f f' : Nat → Nat → Int} {q c a e : Nat} {g : Nat → Nat → Int} (h : Upto f f' q c a e g) {z : Int} (hz : z = dot f f' a e q) : Upto f f' q c a (e + 1) (upd2 g a e z) := by
  intro i j hj hd
  unfold upd2
  by_cases hij : i = a ∧ j = e
  · rw [if_pos hij, hz, hij.1, hij.2]
  · rw [if_neg hij]
    exact h i j hj (by omega)
theorem Upto.row {f f' : Nat → Nat → Int} {q c a e : Nat} {g : Nat → Nat → Int} (h : Upto f f' q c a e g) (he : c ≤ e) : Upto f f' q c (a + 1) 0 g := fun i j hj hd => h i j hj (by omega)
/-- The product of two entries lies in a box of its own. -/
def TimesOut (W : World) (z : Int) (N : Nat) (p : Value) (wx : World) : Prop := ∃ (pb : Nat) (x y : Value), p = .pointer (some ⟨pb, 0, none⟩) ∧ W.heap.size ≤ pb ∧ NBox wx pb x y ∧ IsN wx (.agg #[x, y]) z N ∧ Below W.heap.size W wx
set_option maxRecDepth 100000 in
set_option maxHeartbeats 4000000 in
theorem mtimes_any (L M : Nat) (b r q : Nat) (gs : Nat → Nat) (f : Nat → Nat → Int) (B b' c : Nat) (gs' : Nat → Nat) (f' : Nat → Nat → Int) (B' : Nat) (w : World) (h : IsR B w b r q gs f L) (h' : IsR B' w b' q c gs' f' M) (hr : r ≤ 8) (hq : q ≤ 8) (hc : c ≤ 8) (hLM : L + M ≤ 40000000000) :
    Calls Tryz.prog 119 #[.pointer (some ⟨b, 0, none⟩), .pointer (some ⟨b', 0, none⟩)] w fun e w' => e = .returned (.pointer (some ⟨w.heap.size, 0, none⟩)) ∧ (∃ go, IsR 0 w' w.heap.size r c go (fun i j => dot f f' i j q) (L + M + 12)) ∧ Below w.heap.size w w' := by
  have H := Hid.mk (And.intro h h')
  obtain ⟨hbl, ao, cap, c0, c1, c2, -⟩ := h.open_
  obtain ⟨hbl', ao', cap', d0, d1, d2, -⟩ := h'.open_
  clear h h'
  go_enter Tryz.func119, Tryz.ntmps119
  go_upto_region 1 with fail
  go_cut [5] from 11 to 20 (fun o wx => o = .pointer (some ⟨w.heap.size, 0, none⟩) ∧ (∃ go, IsR w.heap.size wx w.heap.size r c go (fun _ _ => 0) 0) ∧ Below w.heap.size w wx)
  case first =>
    go_region_held3 (fun w' => w'.cell? ⟨b, 0, none⟩ = some (.int .i64 r) ∧ w'.cell? ⟨b', 1, none⟩ = some (.int .i64 c)) (first | go_keep | exact ⟨cell_later hb2 c0, cell_later hb2 d1⟩)
      (first | (go_at_call 126; refine (empty_any r c _ (by omega) (by omega)).mono ?_; rintro e w2 ⟨rfl, hI2, hb2⟩))
    all_goals
      go_wp2_with fail
      go_meet
      case rel => exact ⟨rfl, hI2, (Below.refl w.heap.size w).drew.trans hb2⟩
  case rest =>
    obtain ⟨rfl, ⟨go, hI⟩, hbc⟩ := hcut
    have hgo := hI.rowsAt
    have HGO := Hid.mk hgo
    have H0 := Hid.mk (And.intro ((hI.weak (Nat.zero_le _)).mono (Nat.zero_le (L + M + 12))) hbc)
    clear hI hbc hgo c0 c1 c2 d0 d1 d2
    go_wp2_with fail
    go_loopw [6] (fun i wr => ∃ (a : Nat) (g : Nat → Nat → Int), a ≤ r ∧ i = .int .i64 a ∧ IsR 0 wr w.heap.size r c go g (L + M + 12) ∧ Below w.heap.size w wr ∧ Hid (Upto f f' q c a 0 g)) (fun i _ => r - (intOf i).toNat)
    case atStart => exact ⟨0, _, Nat.zero_le _, rfl, H0.out.1, H0.out.2, Hid.mk (fun i j hj hd => by omega)⟩
    case round =>
      rename World => wi
      obtain ⟨a, g, ha, rfl, hI, hbel, HU⟩ := hrel
      obtain ⟨-, ao, cap, c0, c1, c2, -⟩ := (H.out.1.keep (KR.of_below hbel)).open_
      have HB := Hid.mk (And.intro hI hbel)
      clear hI hbel
      by_cases har : a < r
      · have hai : (a : Int) < (r : Int) := by omega
        go_wp2_with fail
        go_loopw [7] (fun j wr => ∃ (e : Nat) (g : Nat → Nat → Int), e ≤ c ∧ j = .int .i64 e ∧ IsR 0 wr w.heap.size r c go g (L + M + 12) ∧ Below w.heap.size w wr ∧ Hid (Upto f f' q c a e g)) (fun j _ => c - (intOf j).toNat)
        case atStart => exact ⟨0, g, Nat.zero_le _, rfl, HB.out.1, HB.out.2, HU⟩
        case round =>
          rename World => wj
          clear c0 c1 c2
          obtain ⟨e, g, he, rfl, hI, hbel, HU2⟩ := hrel
          obtain ⟨-, ao', cap', d0, d1, d2, -⟩ := (H.out.2.keep (KR.of_below hbel)).open_
          have HB2 := Hid.mk (And.intro hI hbel)
          clear hI hbel
          by_cases hec : e < c
          · have hei : (e : Int) < (c : Int) := by omega
            go_wp2_with fail
            refine (of_any 0 _ (by omega)).mono ?_
            rintro x0 w3 ⟨s0, rfl, hs0, hb3⟩
            obtain ⟨nb, so, cp, xs, rfl, -⟩ := hs0.parts
            have HS0 := Hid.mk (And.intro hs0 hb3)
            clear hs0 hb3 d0 d1 d2
            go_wp2_with fail
            obtain ⟨SB, hSB⟩ : ∃ SB, SB = w3.heap.size := ⟨_, rfl⟩
            have hN0 : NBox (w3.alloc (.cells #[.bool nb, .slice so xs.length cp] 138)) SB (.bool nb) (.slice so xs.length cp) := NBox.new w3 _ _ hSB
            rw [← hSB]
            obtain ⟨w4, hw4⟩ : ∃ w4, w4 = w3.alloc (.cells #[.bool nb, .slice so xs.length cp] 138) := ⟨_, rfl⟩
            have hb4 : Below wj.heap.size wj w4 := by rw [hw4]; exact HS0.out.2.alloc HS0.out.2.size _
            have hn4 : IsN w4 (.agg #[.bool nb, .slice so xs.length cp]) 0 (L + M + 3) := by rw [hw4]; exact (HS0.out.1.mono (by omega)).below ((Below.refl _ _).alloc (Nat.le_refl _) _)
            have hSB1 : wj.heap.size ≤ SB := by rw [hSB]; exact HS0.out.2.size
            rw [← hw4] at hN0 ⊢
            have K4 := Hid.mk (And.intro hN0 (And.intro hn4 hb4))
            have HSB := Hid.mk hSB1
            clear hN0 hn4 hb4 hw4 hSB hSB1
            go_loopw [9] (fun k wr => ∃ (t : Nat) (x y : Value), t ≤ q ∧ k = .int .i64 t ∧ NBox wr SB x y ∧ IsN wr (.agg #[x, y]) (dot f f' a e t) (L + M + 3 + t) ∧ Below wj.heap.size wj wr) (fun k _ => q - (intOf k).toNat)
            case atStart => exact ⟨0, _, _, Nat.zero_le _, rfl, K4.out.1, K4.out.2.1, K4.out.2.2⟩
            case round =>
              rename World => wk
              obtain ⟨t, sx, sy, ht, rfl, hNB, hN, hbk⟩ := hrel
              obtain ⟨nb1, so1, cp1, xs1, hv1, -⟩ := hN.parts
              simp only [Value.agg.injEq, Array.mk.injEq, List.cons.injEq, and_true] at hv1
              obtain ⟨rfl, rfl⟩ := hv1
              obtain ⟨n1, hn1⟩ : ∃ n1, n1 = xs1.length := ⟨_, rfl⟩
              rw [← hn1] at hNB hN
              clear hn1
              have hbw : Below w.heap.size w wk := HB2.out.2.trans (hbk.mono HB2.out.2.size)
              obtain ⟨-, ao, cap, c0, c1, c2, c3, c4, c5, c6⟩ := (H.out.1.keep (KR.of_below hbw)).open_
              obtain ⟨-, ao', cap', d0, d1, d2, d3, d4, d5, d6⟩ := (H.out.2.keep (KR.of_below hbw)).open_
              have K5 := Hid.mk (And.intro hNB (And.intro hN (And.intro hbk hbw)))
              clear hNB hN hbk hbw
              by_cases htq : t < q
              · obtain ⟨gL, rfl, y1⟩ := c5 a har
                obtain ⟨nb2, so2, n2, cp2, y2, y3, -, -, hN2⟩ := c6 a t har htq
                obtain ⟨gL', rfl, z1⟩ := d5 t htq
                obtain ⟨nb3, so3, n3, cp3, z2, z3, -, -, hN3⟩ := d6 t e htq hec
                rw [Nat.mul_comm 2] at y2 y3 z2 z3
                have HN := Hid.mk (And.intro hN2 hN3)
                have hti : (t : Int) < (q : Int) := by omega
                have HC := Hid.mk (show ∀ w', Below wk.heap.size wk w' → w'.cell? ⟨b, 2, none⟩ = some (.slice (some ⟨gL, 0, none⟩) r cap) ∧ w'.cell? ⟨gL, a, none⟩ = some (.slice (some ⟨gs a, 0, none⟩) q q) ∧ w'.cell? ⟨gs a, t * 2, none⟩ = some (.bool nb2) ∧ w'.cell? ⟨gs a, t * 2 + 1, none⟩ = some (.slice so2 n2 cp2) ∧
                    w'.cell? ⟨b', 2, none⟩ = some (.slice (some ⟨gL', 0, none⟩) q cap') ∧ w'.cell? ⟨gL', t, none⟩ = some (.slice (some ⟨gs' t, 0, none⟩) c c) ∧ w'.cell? ⟨gs' t, e * 2, none⟩ = some (.bool nb3) ∧ w'.cell? ⟨gs' t, e * 2 + 1, none⟩ = some (.slice so3 n3 cp3) from
                  fun w' hb => ⟨cell_later hb c2, cell_later hb y1, cell_later hb y2, cell_later hb y3, cell_later hb d2, cell_later hb z1, cell_later hb z2, cell_later hb z3⟩)
                clear hN2 hN3 c5 c6 d5 d6
                go_upto_region 12 with fail
                go_cut [10] from 45 to 66 (fun p wx => TimesOut wk (f a t * f' t e) (L + M + 1) p wx)
                case first =>
                  go_region_held3 (fun w' => w'.cell? ⟨b, 2, none⟩ = some (.slice (some ⟨gL, 0, none⟩) r cap) ∧ w'.cell? ⟨gL, a, none⟩ = some (.slice (some ⟨gs a, 0, none⟩) q q) ∧ w'.cell? ⟨gs a, t * 2, none⟩ = some (.bool nb2) ∧ w'.cell? ⟨gs a, t * 2 + 1, none⟩ = some (.slice so2 n2 cp2) ∧
                    w'.cell? ⟨b', 2, none⟩ = some (.slice (some ⟨gL', 0, none⟩) q cap') ∧ w'.cell? ⟨gL', t, none⟩ = some (.slice (some ⟨gs' t, 0, none⟩) c c) ∧ w'.cell? ⟨gs' t, e * 2, none⟩ = some (.bool nb3) ∧ w'.cell? ⟨gs' t, e * 2 + 1, none⟩ = some (.slice so3 n3 cp3))
                    (exact HC.out _ (by first | exact hb9 | exact (Below.refl _ _).drew | exact ((Below.refl _ _).alloc (Nat.le_refl _) _).drew | exact hb9.alloc hb9.size _ | exact (hb9.setCell (Nat.le_refl _) _).setCell (Nat.le_refl _) _))
                    (first
                      | (go_at_call 177; refine (ntimes_any _ _ (f a t) (f' t e) L M _ (HN.out.1.below ((Below.refl _ _).drew)) (HN.out.2.below ((Below.refl _ _).drew)) (by omega) (by omega)).mono ?_; rintro e w2 ⟨p9, rfl, hp9, hb8⟩; obtain ⟨nb9, so9, cp9, xs9, rfl, -⟩ := hp9.parts; have hb9 : Below wk.heap.size wk w2 := (Below.refl _ _).drew.trans hb8; clear hb8)
                      | (go_at_call 177; refine (ntimes_any _ _ (f a t) (f' t e) L M _ (HN.out.1.below (((Below.refl _ _).alloc (Nat.le_refl _) _).drew)) (HN.out.2.below (((Below.refl _ _).alloc (Nat.le_refl _) _).drew)) (by omega) (by omega)).mono ?_; rintro e w2 ⟨p9, rfl, hp9, hb8⟩; obtain ⟨nb9, so9, cp9, xs9, rfl, -⟩ := hp9.parts; have hb9 : Below wk.heap.size wk w2 := ((Below.refl _ _).alloc (Nat.le_refl _) _).drew.trans (hb8.mono (by simp)); have hx9 : NBox w2 wk.heap.size (.bool false) (.slice none 0 0) := (NBox.new wk (.bool false) (.slice none 0 0) rfl).drew'.below hb8 (by simp); have hx8 := hx9.cells; clear hb8))
                  all_goals
                    go_wp2_with fail
                    go_meet
                    case rel =>
                      first
                        | exact ⟨_, _, _, rfl, hb9.size, NBox.new _ _ _ rfl, hp9.below ((Below.refl _ _).alloc (Nat.le_refl _) _), hb9.alloc hb9.size _⟩
                        | exact ⟨_, _, _, rfl, Nat.le_refl _, hx9.put _ _, hp9.box hx9.ty (by decide) _ _, (hb9.setCell (Nat.le_refl _) _).setCell (Nat.le_refl _) _⟩
                case rest =>
                  obtain ⟨pb, px, py, rfl, hpb, hPB, hp, hbp⟩ := hcut
                  obtain ⟨nb5, so5, cp5, xs5, hv5, -⟩ := hp.parts
                  simp only [Value.agg.injEq, Array.mk.injEq, List.cons.injEq, and_true] at hv5
                  obtain ⟨rfl, rfl⟩ := hv5
                  obtain ⟨n5, hn5⟩ : ∃ n5, n5 = xs5.length := ⟨_, rfl⟩
                  rw [← hn5] at hPB hp
                  clear hn5
                  have hNB := K5.out.1.below hbp K5.out.1.lt
                  obtain ⟨e1, e2, e3, e4⟩ := hNB.cells
                  obtain ⟨p1, p2, -, -⟩ := hPB.cells
                  have K6 := Hid.mk (And.intro hNB (And.intro hp (And.intro (K5.out.2.1.below hbp) (K5.out.2.2.1.trans (hbp.mono K5.out.2.2.1.size)))))
                  clear hpb hPB hp hbp hNB c0 c1 c2 d0 d1 d2 y1 y2 y3 z1 z2 z3
                  go_wp2_with fail
                  refine (plus_any _ _ (dot f f' a e t) (f a t * f' t e) (L + M + 3 + t) (L + M + 1) _ K6.out.2.2.1 K6.out.2.1 (by omega) (by omega)).mono ?_
                  rintro e9 w6 ⟨s6, rfl, hs6, hb6⟩
                  obtain ⟨nb6, so6, cp6, xs6, rfl, -⟩ := hs6.parts
                  clear e1 e2 e3 e4 p1 p2
                  have hNB := K6.out.1.below hb6 K6.out.1.lt
                  obtain ⟨e1, e2, e3, e4⟩ := hNB.cells
                  have K7 := Hid.mk (And.intro hNB (And.intro hs6 (K6.out.2.2.2.trans (hb6.mono K6.out.2.2.2.size))))
                  clear hNB hs6 hb6
                  go_wp2_with fail
                  go_roundw
                  case measure => simp [intOf]; omega
                  case rel =>
                    refine ⟨t + 1, _, _, by omega, by go_num, K7.out.1.put _ _, ?_, (K7.out.2.2.setCell HSB.out _).setCell HSB.out _⟩
                    exact (K7.out.2.1.box K7.out.1.ty (by decide) _ _).mono (by omega)
              · have hte : t = q := by omega
                have hIk := HB2.out.1.keep (KR.of_below K5.out.2.2.1)
                obtain ⟨-, co, ecap, f0, f1, f2, f3, f4, f5, f6⟩ := hIk.open_
                obtain ⟨gO, rfl, y1⟩ := f5 a har
                obtain ⟨nb7, so7, n7, cp7, y2, y3, y4, y5, -⟩ := f6 a e har hec
                obtain ⟨e1, e2, -, -⟩ := K5.out.1.cells
                rw [Nat.mul_comm 2] at y2 y3 y4 y5
                have HI := Hid.mk (And.intro hIk hte)
                clear c2 c3 c4 c5 c6 d0 d1 d2 d3 d4 d5 d6 f5 f6 hIk hte
                go_wp2_with fail
                go_region
                all_goals
                  go_wp2_with fail
                  go_roundw
                  case measure => simp [intOf]; omega
                  case rel =>
                    have hset := HI.out.1.set har hec (K5.out.2.1.mono (M := L + M + 12) (by omega)) (AtB.zero _)
                    rw [Nat.mul_comm 2] at hset
                    have hge := (HGO.out a har).1
                    exact ⟨e + 1, _, by omega, by go_num, hset, ((K5.out.2.2.2.setCell hge _).setCell hge _).drew, Hid.mk (HU2.out.next (by rw [HI.out.2]))⟩
          · go_wp2_with fail
            go_roundw
            case measure => simp [intOf]; omega
            case rel => exact ⟨a + 1, g, by omega, by go_num, HB2.out.1, HB2.out.2, Hid.mk (HU2.out.row (by omega))⟩
      · go_wp2_with fail
        go_ret
        exact ⟨rfl, ⟨go, HB.out.1.congr (fun i j hi hj => HU.out i j hj (.inl (by omega)))⟩, HB.out.2⟩
end Go.Proofs.YtfjbijpagaipnaaGreatDoor.R

/- matriceslaw.World: times. -/
namespace Go.Proofs.YtfjbijpagaipnaaGreatDoor
open Go.RowKit R

theorem R.IsN.tight {w : World} {v : Value} {z : Int} {L : Nat} (h : IsN w v z L) (hz : z.natAbs < 281474976710656) : IsN w v z 4 := by
  obtain ⟨neg, sl, xs, h1, h2, h3, h4, h5, h6⟩ := h
  refine ⟨neg, sl, xs, h1, h2, h3, h4, h5, ?_⟩
  rcases Nat.lt_or_ge 4 xs.length with h7 | h7
  · exfalso
    have h8 := R.Lim_ge h3 (by intro e; rw [e] at h7; simp at h7)
    have h9 : 10000 ^ 4 ≤ 10000 ^ (xs.length - 1) := Nat.pow_le_pow_right (by decide) (by omega)
    have h10 : z.natAbs = R.val xs := by
      cases neg
      · rw [h5]; simp
      · rw [h5]; simp
    omega
  · exact h7
theorem R.IsR.tight {B : Nat} {w : World} {b r c : Nat} {gs : Nat → Nat} {f : Nat → Nat → Int} {L : Nat} (h : IsR B w b r c gs f L) (hf : ∀ i j, i < r → j < c → (f i j).natAbs < 281474976710656) : IsR B w b r c gs f 4 := by
  obtain ⟨h0, v, h1, h2, h3, h4⟩ := h
  refine ⟨h0, v, h1, h2, fun i hi => ⟨(h3 i hi).1, ?_⟩, h4⟩
  obtain ⟨cs, q1, q2, q3⟩ := (h3 i hi).2
  refine ⟨cs, q1, q2, fun j hj => ?_⟩
  obtain ⟨a, b, e1, e2, e3, e4⟩ := q3 j hj
  exact ⟨a, b, e1, e2, e3.tight (hf i j hi hj), e4⟩
theorem fits_fz {r c : Nat} {zs : List Int} (h : FitsP r c zs) : ∀ i j, i < r → j < c → (fz c zs i j).natAbs < 281474976710656 := fun _ _ hi hj => h.2.2 _ (idx_lt hi hj)
theorem nDig_le (k u : Nat) (h : u < 10 ^ (k + 1)) : Lib.nDigits u ≤ k + 1 := by
  induction k generalizing u with
  | zero => rw [Lib.nDigits_small (by simpa using h)]; exact Nat.le_refl _
  | succ k ih =>
    by_cases h1 : u < 10
    · rw [Lib.nDigits_small h1]; omega
    · rw [Lib.nDigits_big h1]
      have := ih (u / 10) (by rw [Nat.pow_succ] at h; omega)
      omega
theorem itoa_lenk (k : Nat) (z : Int) (h : z.natAbs < 10 ^ (k + 1)) : (Lib.itoa z).length ≤ k + 2 := by
  have h1 := nDig_le k z.natAbs h
  unfold Lib.itoa
  by_cases hz : z < 0
  · rw [if_pos hz, List.length_cons, Lib.decDigits_length]; omega
  · rw [if_neg hz, Lib.decDigits_length]
    rw [show z.toNat = z.natAbs from by omega]
    omega
/-- Small matrices are written in few bytes. -/
theorem fine_small {r c k : Nat} {zs : List Int} (hr : r ≤ 4) (hc : c ≤ 4) (hl : zs.length = r * c) (hz : ∀ t, t < r * c → (zs.getD t 0).natAbs < 10 ^ (k + 1)) (hk : k ≤ 2000000000) : Fine r c zs := by
  refine ⟨by omega, by omega, hl, ?_⟩
  have hrc : r * c ≤ 16 := Nat.mul_le_mul hr hc
  have hb : ∀ (l : List (List UInt8)) (t : Nat), (∀ x ∈ l, x.length ≤ k + 2) → (bodyT c t l).length ≤ l.length * (k + 4) := by
    intro l
    induction l with
    | nil => intro t _; simp [bodyT]
    | cons a b ih =>
      intro t hx
      have h1 := hx a (by simp)
      have h2 := ih (t + 1) (fun x hx' => hx x (List.mem_cons_of_mem _ hx'))
      rw [bodyT]
      simp only [List.length_append, List.length_cons, Nat.succ_mul]
      split <;> simp <;> omega
  have h1 := hb (zs.map Lib.itoa) 0 (fun x hx => by
    obtain ⟨z, hz', rfl⟩ := List.mem_map.1 hx
    obtain ⟨i, hi, rfl⟩ := List.mem_iff_getElem.1 hz'
    have := hz i (by omega)
    rw [show zs.getD i 0 = zs[i] from by simp [List.getD, List.getElem?_eq_getElem hi]] at this
    exact itoa_lenk k _ this)
  rw [List.length_map, hl] at h1
  have h2 := dec_le2 r (by omega)
  have h3 := dec_le2 c (by omega)
  unfold matT
  simp only [List.length_append, List.length_cons]
  have : r * c * (k + 4) ≤ 16 * (k + 4) := Nat.mul_le_mul_right _ hrc
  omega
theorem fine_prodL {r q c : Nat} {zs ys : List Int} (h1 : FitsP r q zs) (h2 : FitsP q c ys) : Fine r c (prodL r q c zs ys) := by
  refine fine_small (k := 39) h1.1 h2.2.1 (prodL_len _ _ _ _ _) (fun t ht => ?_) (by omega)
  have hc : 0 < c := by
    rcases Nat.eq_zero_or_pos c with h0 | h0
    · subst h0; rw [Nat.mul_zero] at ht; omega
    · exact h0
  have h3 : t / c < r := by rw [Nat.div_lt_iff_lt_mul hc]; exact ht
  have h4 := Nat.mod_lt t hc
  have h5 : t / c * c + t % c = t := by rw [Nat.mul_comm]; exact Nat.div_add_mod t c
  have h6 := prodL_at (q := q) (zs := zs) (ys := ys) h3 h4
  rw [h5] at h6
  rw [h6]
  have h7 := dot_le (f := fun i j => zs.getD (i * q + j) 0) (g := fun i j => ys.getD (i * c + j) 0) (i := t / c) (j := t % c) (A := 281474976710656) q (fun k hk => Nat.le_of_lt (h1.2.2 _ (idx_lt h3 hk))) (fun k hk => Nat.le_of_lt (h2.2.2 _ (idx_lt hk h4)))
  have h8 : q * (281474976710656 * 281474976710656) ≤ 4 * (281474976710656 * 281474976710656) := Nat.mul_le_mul_right _ h2.1
  exact Nat.lt_of_le_of_lt (Nat.le_trans h7 h8) (by decide)
/-- Pair and Times, held together. -/
theorem times_case {es : List Ent} {ms : List Hm} {nx : Nat} {g h k e want : Int} {a b : Value} {ms' : List Hm} {nx' : Nat} (hd : Dst ms) (hp : PairL es ms g h a b want) (ht : TimesRel ms nx g h k e ms' nx') :
    ((want = 2 ∨ want = 3 ∨ want = 4) ∧ e = want ∧ k = -1 ∧ ms' = ms ∧ nx' = nx) ∨ (want = 0 ∧ e = 5 ∧ k = -1 ∧ ms' = ms ∧ nx' = nx ∧ ∀ i, i < 24 → ms.getD i none ≠ none) ∨
    (want = 0 ∧ e = 0 ∧ k = (nx : Int) ∧ ∃ e1 e2 i r q zs j c ys n, e1 ∈ es ∧ e2 ∈ es ∧ i < 24 ∧ ms.getD i none = some (e1.1, r, q, zs) ∧ j < 24 ∧ ms.getD j none = some (e2.1, q, c, ys) ∧ FitsP r q zs ∧ FitsP q c ys ∧ a = .pointer (some ⟨e1.2.2, 0, none⟩) ∧ b = .pointer (some ⟨e2.2.2, 0, none⟩) ∧ FreeAt ms n ∧ ms' = ms.set n (some (nx, r, c, prodL r q c zs ys)) ∧ nx' = nx + 1) := by
  rcases hp with ⟨hn, rfl⟩ | ⟨e1, e2, i, r, q, zs, j, q', c, ys, m1, m2, hi, hx, hxg, hj, hy, hyh, hp⟩
  · rcases ht with ⟨-, rfl, rfl, rfl, rfl⟩ | ⟨i, hd1, r, q, zs, j, hd2, q', c, ys, hi, hx, hxg, hj, hy, hyh, -⟩
    · exact .inl ⟨.inl rfl, rfl, rfl, rfl, rfl⟩
    · rcases hn with hn | hn
      · exact absurd hxg (hn i hi _ hx)
      · exact absurd hyh (hn j hj _ hy)
  · rcases ht with ⟨hn, -⟩ | ⟨i2, hd1, r2, q2, zs2, j2, hd2, q2', c2, ys2, hi2, hx2, hxg2, hj2, hy2, hyh2, ht⟩
    · rcases hn with hn | hn
      · exact absurd hxg (hn i hi _ hx)
      · exact absurd hyh (hn j hj _ hy)
    · have e5 : i = i2 := hd i i2 _ _ hi hi2 hx hx2 (by show e1.1 = hd1; omega)
      have e6 : j = j2 := hd j j2 _ _ hj hj2 hy hy2 (by show e2.1 = hd2; omega)
      subst e5; subst e6
      rw [hx] at hx2
      rw [hy] at hy2
      simp only [Option.some.injEq, Prod.mk.injEq] at hx2 hy2
      obtain ⟨rfl, rfl, rfl, rfl⟩ := hx2
      obtain ⟨rfl, rfl, rfl, rfl⟩ := hy2
      rcases hp with ⟨p1, rfl⟩ | ⟨p1, p2, rfl⟩ | ⟨p1, p2, rfl, rfl, rfl⟩
      · rcases ht with ⟨-, rfl, rfl, rfl, rfl⟩ | ⟨t1, _⟩ | ⟨t1, _⟩ | ⟨t1, _⟩
        · exact .inl ⟨.inr (.inl rfl), rfl, rfl, rfl, rfl⟩
        · exact absurd t1 p1
        · exact absurd t1 p1
        · exact absurd t1 p1
      · rcases ht with ⟨t1, _⟩ | ⟨-, -, rfl, rfl, rfl, rfl⟩ | ⟨-, t2, _⟩ | ⟨-, t2, _⟩
        · exact absurd p1 t1
        · exact .inl ⟨.inr (.inr rfl), rfl, rfl, rfl, rfl⟩
        · exact absurd t2 p2
        · exact absurd t2 p2
      · rcases ht with ⟨t1, _⟩ | ⟨-, t2, _⟩ | ⟨-, -, t3, rfl, rfl, rfl, rfl⟩ | ⟨-, -, rfl, rfl, n, t3, rfl, rfl⟩
        · exact absurd p1 t1
        · exact absurd p2 t2
        · exact .inr (.inl ⟨rfl, rfl, rfl, rfl, rfl, t3⟩)
        · subst p1
          exact .inr (.inr ⟨rfl, rfl, rfl, e1, e2, i, r, q, zs, j, c, ys, n, m1, m2, hi, hx, hj, hy, p2.1, p2.2, rfl, rfl, t3, rfl, rfl⟩)
set_option maxRecDepth 100000 in
set_option maxHeartbeats 4000000 in
theorem times_any (B W T b1 b2 : Nat) (ms : List Hm) (nx : Nat) (es : List Ent) (g h : Int) (w : World) (hI : LInv B w W T b1 b2 ms nx es) (hnx : nx < 1000000) :
    Calls Tryz.prog 71 #[.pointer (some ⟨W, 0, none⟩), .int .i64 g, .int .i64 h] w fun x w' => x = .returned (.bool true) ∧ StepOut B w w' W T b1 b2 nx := by
  have hB := hI.size
  have hle := hI.le24
  have H := Hid.mk hI
  clear hI
  go_enter Tryz.func71, Tryz.ntmps71
  go_wp2_with fail
  refine (pair_times B W T b1 b2 ms nx es g h _ H.out).mono ?_
  rintro x w1 ⟨⟨a, b, want, rfl, hp⟩, hb1⟩
  have hI1 := H.out.below hb1
  obtain ⟨ioa, icap, loa, lcap, tv, c0, -⟩ := hI1.lcells
  have K1 := Hid.mk (And.intro hp (And.intro hb1 hI1))
  have hw1 := hb1.size
  clear hp hb1 hI1
  go_wp2_with fail
  refine (twTimes_any B T b1 b2 g h ms nx _ K1.out.2.2.1 H.out.2.2.dst hnx).mono ?_
  rintro x w2 ⟨k, e, ms', nx', rfl, hrel, hT2, hC2⟩
  have hcase := times_case H.out.2.2.dst K1.out.1 hrel
  have hbel2 : Below B w w2 := (K1.out.2.1.mono hB).trans (hC2.below (St2.le H.out.1.2.2.2.2.2.2.1 H.out.1.2.2.2.2.2.2.2) (by omega))
  have hrows := K1.out.2.2.stores hC2
  obtain ⟨hv1, iv1, lv1, tv1, hL1, hI1, hP1, hX1, hS1, hM1, ls1, hH1, hHB1⟩ := id hrows
  have KH := Hid.mk (And.intro hH1 hHB1)
  clear hH1 hHB1
  have hw2 := hbel2.size
  have K2 := Hid.mk (And.intro hT2 (And.intro hrows (And.intro hbel2 (And.intro hcase (And.intro hL1 (And.intro hI1 (And.intro hP1 (And.intro hX1 (And.intro hS1 hM1)))))))))
  clear hrel hT2 hC2 hcase hbel2 hrows hL1 hI1 hP1 hX1 hS1 hM1 c0
  go_wp2_with fail
  refine (full_raw W T nx 1 _ _ _ _ es _ (by omega) K2.out.2.2.2.2.1 K2.out.2.2.2.2.2.1 hle).mono ?_
  rintro x w' ⟨rfl, rfl⟩
  have hnum := H.out.2.2.num
  have hcf := cnt_full H.out.2.2.len
  have HCF := Hid.mk (And.intro hnum hcf)
  clear hnum hcf
  rcases K2.out.2.2.2.1 with ⟨hz, rfl, rfl, rfl, rfl⟩ | ⟨rfl, rfl, rfl, rfl, rfl, hful⟩ | ⟨rfl, rfl, rfl, e1, e2, i, r, q, zs, j, c, ys, n, m1, m2, hi, hx, hj, hy, f1, f2, rfl, rfl, hn, hms, hnx'⟩
  · have HF : Hid (StepOut B w w' W T b1 b2 nx') := Hid.mk ⟨⟨ms', nx', es, ⟨K2.out.1, K2.out.2.1, H.out.2.2⟩, by omega⟩, K2.out.2.2.1⟩
    rcases hz with rfl | rfl | rfl
    · go_wp2_with fail
      go_ret
      exact ⟨rfl, HF.out⟩
    · go_wp2_with fail
      go_ret
      exact ⟨rfl, HF.out⟩
    · go_wp2_with fail
      go_ret
      exact ⟨rfl, HF.out⟩
  · have HF : Hid (StepOut B w w' W T b1 b2 nx') := Hid.mk ⟨⟨ms', nx', es, ⟨K2.out.1, K2.out.2.1, H.out.2.2⟩, by omega⟩, K2.out.2.2.1⟩
    have hfl : decide (24 < es.length + 1) = true := decide_eq_true (by have h1 := HCF.out.1; have h2 := HCF.out.2.2 hful; omega)
    rw [hfl]
    clear hful hfl
    go_wp2_with fail
    go_ret
    exact ⟨rfl, HF.out⟩
  · have hne24 : es.length ≠ 24 := fun h => absurd hn.2.1 ((HCF.out.2.1 (by rw [← HCF.out.1]; exact h)) n hn.1)
    have hfl : decide (24 < es.length + 1) = false := decide_eq_false (by omega)
    rw [hfl]
    have HD := Hid.mk (And.intro m1 (And.intro m2 (And.intro hi (And.intro hx (And.intro hj (And.intro hy (And.intro f1 (And.intro f2 (And.intro hn (And.intro hms hnx'))))))))))
    obtain ⟨p1, hp1⟩ : ∃ p1, p1 = e1.2.2 := ⟨_, rfl⟩
    obtain ⟨p2, hp2⟩ : ∃ p2, p2 = e2.2.2 := ⟨_, rfl⟩
    have HPP := Hid.mk (And.intro hp1 hp2)
    rw [← hp1, ← hp2]
    clear m1 m2 hi hx hj hy f1 f2 hn hms hnx' hfl hp1 hp2
    go_wp2_with fail
    obtain ⟨Y, hY⟩ : ∃ Y, Y = w'.alloc (.cells #[.int .i64 (nx : Nat)] 3) := ⟨_, rfl⟩
    have hbX : Below w'.heap.size w' Y := by rw [hY]; exact (Below.refl _ _).alloc (Nat.le_refl _) _
    have hsX : Y.heap.size = w'.heap.size + 1 := by rw [hY]; simp
    have hgY : Y.heap[w'.heap.size]? = some (.cells #[.int .i64 (nx : Nat)] 3 (0, 0)) := by rw [hY]; exact heap_alloc_new w' _
    rw [← hY]
    clear hY
    have hHD := HD.out
    obtain ⟨m1, m2, hi, hx, hj, hy, f1, f2, hn, hms, hnx'⟩ := hHD
    have hTX : TwH B Y T b1 b2 (ms.set n (some (nx, r, c, prodL r q c zs ys))) (nx + 1) := by
      have := K2.out.1.below hbX
      rw [hms, hnx'] at this
      exact this
    have hfine := fine_prodL f1 f2
    have hmi : (ms.set n (some (nx, r, c, prodL r q c zs ys))).getD n none = some (nx, r, c, prodL r q c zs ys) := by rw [hm_set (by rw [H.out.2.2.len]; exact hn.1), if_pos rfl]
    have hpush := H.out.2.2.push hn r c (prodL r q c zs ys)
    obtain ⟨-, -, -, -, kL, kI, kP, kX, kS, kM⟩ := K2.out
    have hlt : ∀ k, S4 W iv1 lv1 tv1 k → k < w'.heap.size := fun k hk => by
      rcases hk with hk | hk | hk | hk
      · rw [hk]; exact kL.lt
      · exact (kI.own k hk).1
      · exact (kP.own k hk).1
      · exact (kX.own k hk).1
    have hLX := kL.of_block (hbX.block W kL.lt)
    have hIX := kI.below hbX
    have hPX := kP.below hbX
    have hXX := kX.below hbX
    refine (held_one B W T b1 b2 w'.heap.size n r c nx (nx + 1) iv1 lv1 tv1 (ms.set n (some (nx, r, c, prodL r q c zs ys))) es (prodL r q c zs ys) _ hTX hLX hIX hPX hXX kS (by omega) hn.1 hmi (hpush 0).dst hfine hle hgY (fun e => by have := hlt _ e; omega)).mono ?_
    rintro x w5 ⟨ov, rfl, p', iv', lv', tv', og, ocap, rfl, o1, o2, ocell, hL5, hI5, hP5, hX5, ow, hmat, hC5⟩
    obtain ⟨lo5, hi5, -, hmt, -⟩ := id hmat
    obtain ⟨gs', hIR5⟩ := hmt.isR
    obtain ⟨hinv, hbB⟩ := held_inv hTX hLX hIX hPX hXX kS (kM.below hbX) (KH.out.1.below hbX) KH.out.2 H.out.2.2 hn hfine (by rw [hsX]; omega) hL5 hI5 hP5 hX5 ow hmat hC5
    have hB5 : Below B w w5 := K2.out.2.2.1.trans ((hbX.mono (by omega)).trans hbB)
    have hin : ∀ t x, ms.getD t none = some x → (ms.set n (some (nx, r, c, prodL r q c zs ys))).getD t none = some x := fun t x ht => by
      rw [hm_set (by rw [H.out.2.2.len]; exact hn.1), if_neg (fun e => by rw [e, hn.2.1] at ht; cases ht)]
      exact ht
    obtain ⟨-, -, lo1, hi1, hm1⟩ := hinv.entry (List.mem_append.2 (.inl m1)) hi (hin i _ hx) rfl
    obtain ⟨-, -, lo2, hi2, hm2⟩ := hinv.entry (List.mem_append.2 (.inl m2)) hj (hin j _ hy) rfl
    obtain ⟨gs1, hR1⟩ := hm1.isR
    obtain ⟨gs2, hR2⟩ := hm2.isR
    rw [← HPP.out.1] at hR1
    rw [← HPP.out.2] at hR2
    have K5 := Hid.mk (And.intro hIR5 (And.intro (hR1.tight (fits_fz f1)) (And.intro (hR2.tight (fits_fz f2)) (And.intro hinv hB5))))
    have hr4 := f1.1
    have hq4 := f1.2.1
    have hc4 := f2.2.1
    have hw5 := hB5.size
    clear hL5 hI5 hP5 hX5 ow hIR5 hC5 hinv hB5 hbB hmat hmt hmi hbX hTX hpush hsX hLX hIX hPX hXX kL kI kP kX kS kM hlt hfine hin hm1 hm2 hR1 hR2 m1 m2 hi hx hj hy f1 f2 hn hms hnx' hgY
    have hnil := nil_cmp ⟨og, 0, none⟩ 1 ocap
    go_wp2_with fail
    refine (mtimes_any 4 4 p1 r q gs1 (fz q zs) lo1 p2 c gs2 (fz c ys) lo2 _ K5.out.2.1 K5.out.2.2.1 (by omega) (by omega) (by omega) (by omega)).mono ?_
    rintro x w6 ⟨rfl, ⟨go, hIp⟩, hb6⟩
    have oc6 := cell_later hb6 ocell
    have K6 := Hid.mk (And.intro (hIp.mono (show 20 ≤ 40000000001 by omega)) (And.intro (K5.out.1.keep (KR.of_below hb6)) hb6))
    clear hIp hb6 ocell
    go_wp2_with fail
    try go_quiet (fail)
    try go_wp2_with fail
    refine (same_yes w5.heap.size r c go _ 0 p' gs' _ lo5 40000000001 _ K6.out.1 K6.out.2.1 (fun i j hi hj => (prodL_at hi hj).symm) (by omega) (by omega) (by omega)).mono ?_
    rintro x w7 ⟨rfl, hb7⟩
    have hb57 : Below w5.heap.size w5 w7 := K6.out.2.2.trans (hb7.mono K6.out.2.2.size)
    have HF : Hid (StepOut B w w7 W T b1 b2 nx) := Hid.mk ⟨⟨_, _, _, K5.out.2.2.2.1.below hb57, by omega⟩, K5.out.2.2.2.2.trans (hb57.mono (by omega))⟩
    clear hb7 hb57
    go_wp2_with fail
    go_ret
    exact ⟨rfl, HF.out⟩
end Go.Proofs.YtfjbijpagaipnaaGreatDoor
