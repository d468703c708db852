import Derived.Test.YtmijbimanaalbaaGreatDoorC36
import Derived.BigQuiet
import Derived.Deep.RegionHeld3
import Derived.Test.YtmijbimanaalbaaGreatDoorC22
/- matricesref: Big. -/
namespace Go.Proofs.YtmijbimanaalbaaGreatDoor.R
open Go.RowKit

/-- The matrix is too great. -/
def BigP (r c : Nat) (f : Nat → Nat → Int) : Prop := 4 < r ∨ 4 < c ∨ ∃ i j, i < r ∧ j < c ∧ 281474976710656 ≤ (f i j).natAbs
def BigOut (r c : Nat) (f : Nat → Nat → Int) (b : Bool) : Prop := b = true ↔ BigP r c f
set_option maxRecDepth 100000 in
set_option maxHeartbeats 4000000 in
theorem big_any (b r c : Nat) (gs : Nat → Nat) (f : Nat → Nat → Int) (B L : Nat) (w : World) (h : IsR B w b r c gs f L) (hL : L ≤ 20000) (hr : r ≤ 99) (hc : c ≤ 99) :
    Calls Tryz.prog 102 #[.pointer (some ⟨b, 0, none⟩), .int .i64 4, .int .i64 48] w fun e w' => ∃ x, e = .returned (.bool x) ∧ BigOut r c f x ∧ Below w.heap.size w w' := by
  have H := Hid.mk h
  obtain ⟨hbl, ao, cap, c0, c1, c2, -⟩ := h.open_
  clear h
  by_cases hr4 : r ≤ 4
  · by_cases hc4 : c ≤ 4
    · have i1 : decide ((4 : Int) < (r : Int)) = false := decide_eq_false (by omega)
      have i2 : decide ((4 : Int) < (c : Int)) = false := decide_eq_false (by omega)
      go_enter Tryz.func102, Tryz.ntmps102
      go_wp2_with fail
      go_loopw [7] (fun i wr => ∃ k : Nat, k ≤ r ∧ i = .int .i64 k ∧ Below w.heap.size w wr ∧ Hid (∀ a j, a < k → j < c → (f a j).natAbs < 281474976710656)) (fun i _ => r - (intOf i).toNat)
      case atStart => exact ⟨0, Nat.zero_le _, rfl, Below.refl _ _, Hid.mk (fun a j ha => by omega)⟩
      case round =>
        rename World => wr0
        obtain ⟨k, hk, rfl, hbel, HI⟩ := hrel
        clear c0 c1 c2
        obtain ⟨-, ao, cap, c0, c1, c2, -⟩ := (H.out.keep (KR.of_below hbel)).open_
        have HB := Hid.mk hbel
        clear hbel
        by_cases hkr : k < r
        · go_wp2_with fail
          go_loopw [8] (fun j wr => ∃ q : Nat, q ≤ c ∧ j = .int .i64 q ∧ Below w.heap.size w wr ∧ Hid (∀ j, j < q → (f k j).natAbs < 281474976710656)) (fun j _ => c - (intOf j).toNat)
          case atStart => exact ⟨0, Nat.zero_le _, rfl, HB.out, Hid.mk (fun j hj => by omega)⟩
          case round =>
            obtain ⟨q, hq, rfl, hbel, HJ⟩ := hrel
            clear c0 c1 c2
            obtain ⟨-, ao, cap, c0, c1, c2, c3, c4, c5, c6⟩ := (H.out.keep (KR.of_below hbel)).open_
            have HB2 := Hid.mk hbel
            clear hbel
            by_cases hqc : q < c
            · obtain ⟨gL, rfl, y1⟩ := c5 k hkr
              obtain ⟨nb, so, n, cp, y2, y3, -, -, hN⟩ := c6 k q hkr hqc
              rw [Nat.mul_comm 2] at y2 y3
              have HN := Hid.mk hN
              clear hN c5 c6
              go_wp2_with fail
              refine (wide_any _ (f k q) L 48 _ HN.out hL (by omega)).mono ?_
              rintro e w2 ⟨rfl, hb2⟩
              have hB2 : Below w.heap.size w w2 := HB2.out.trans (hb2.mono HB2.out.size)
              have HB3 := Hid.mk hB2
              clear hb2 hB2
              by_cases hw : 2 ^ 48 ≤ (f k q).natAbs
              · have hd : decide (2 ^ 48 ≤ (f k q).natAbs) = true := decide_eq_true hw
                have HW := Hid.mk hw
                rw [hd]
                clear hd hw
                go_wp2_with fail
                go_ret
                exact ⟨_, rfl, ⟨fun _ => .inr (.inr ⟨k, q, hkr, hqc, HW.out⟩), fun _ => rfl⟩, HB3.out⟩
              · have hd : decide (2 ^ 48 ≤ (f k q).natAbs) = false := decide_eq_false hw
                have HW := Hid.mk hw
                rw [hd]
                clear hd hw
                go_wp2_with fail
                go_roundw
                case measure => simp [intOf]; omega
                case rel =>
                  refine ⟨q + 1, by omega, by go_num, HB3.out, Hid.mk (fun j hj => ?_)⟩
                  by_cases hjq : j = q
                  · rw [hjq]; have := HW.out; omega
                  · exact HJ.out j (by omega)
            · have hqe : q = c := by omega
              have HQ := Hid.mk hqe
              clear hqe c5 c6
              go_wp2_with fail
              go_roundw
              case measure => simp [intOf]; omega
              case rel =>
                refine ⟨k + 1, by omega, by go_num, HB2.out, Hid.mk (fun a j ha hj => ?_)⟩
                by_cases hak : a = k
                · rw [hak]; exact HJ.out j (by have := HQ.out; omega)
                · exact HI.out a j (by omega) hj
        · have hke : k = r := by omega
          have HK := Hid.mk hke
          clear hke
          go_wp2_with fail
          go_ret
          refine ⟨_, rfl, ⟨(fun h => by cases h), fun h => ?_⟩, HB.out⟩
          exfalso
          rcases h with h | h | ⟨i, j, hi, hj, h⟩
          · omega
          · omega
          · have := HI.out i j (by have := HK.out; omega) hj
            omega
    · have hci : (4 : Int) < (c : Int) := by omega
      have i1 : decide ((4 : Int) < (r : Int)) = false := decide_eq_false (by omega)
      have HC := Hid.mk hc4
      clear hc4
      go_enter Tryz.func102, Tryz.ntmps102
      go_wp2_with fail
      go_ret
      exact ⟨_, rfl, ⟨fun _ => .inr (.inl (by have := HC.out; omega)), fun _ => rfl⟩, Below.refl _ _⟩
  · have hri : (4 : Int) < (r : Int) := by omega
    have HR := Hid.mk hr4
    clear hr4
    go_enter Tryz.func102, Tryz.ntmps102
    go_wp2_with fail
    go_ret
    exact ⟨_, rfl, ⟨fun _ => .inl (by have := HR.out; omega), fun _ => rfl⟩, Below.refl _ _⟩
end Go.Proofs.YtmijbimanaalbaaGreatDoor.R

/- matricesref: Same. -/
namespace Go.Proofs.YtmijbimanaalbaaGreatDoor.R
open Go.RowKit

def SameP (r c : Nat) (f : Nat → Nat → Int) (r' c' : Nat) (f' : Nat → Nat → Int) : Prop := r = r' ∧ c = c' ∧ ∀ i j, i < r → j < c → f i j = f' i j
set_option maxRecDepth 100000 in
set_option maxHeartbeats 4000000 in
theorem same_yes (b r c : Nat) (gs : Nat → Nat) (f : Nat → Nat → Int) (B b' : Nat) (gs' : Nat → Nat) (f' : Nat → Nat → Int) (B' L : Nat) (w : World) (h : IsR B w b r c gs f L) (h' : IsR B' w b' r c gs' f' L) (he : ∀ i j, i < r → j < c → f i j = f' i j) (hL : L ≤ 20000) (hr : r ≤ 99) (hc : c ≤ 99) :
    Calls Tryz.prog 105 #[.pointer (some ⟨b, 0, none⟩), .pointer (some ⟨b', 0, none⟩)] w fun e w' => e = .returned (.bool true) ∧ Below w.heap.size w w' := by
  have H := Hid.mk (And.intro h (And.intro h' he))
  obtain ⟨hbl, ao, cap, c0, c1, c2, -⟩ := h.open_
  obtain ⟨hbl', ao', cap', d0, d1, d2, -⟩ := h'.open_
  clear h h' he
  have ir : ((r : Int) == (r : Int)) = true := by simp
  have ic : ((c : Int) == (c : Int)) = true := by simp
  go_enter Tryz.func105, Tryz.ntmps105
  go_wp2_with fail
  go_quiet (fail)
  go_wp2_with fail
  go_loopw [5] (fun i wr => ∃ k : Nat, k ≤ r ∧ i = .int .i64 k ∧ Below w.heap.size w wr) (fun i _ => r - (intOf i).toNat)
  case atStart => exact ⟨0, Nat.zero_le _, rfl, below_drewN (Below.refl _ _) _⟩
  case round =>
    rename World => wr0
    obtain ⟨k, hk, rfl, hbel⟩ := hrel
    clear c0 c1 c2 d0 d1 d2
    obtain ⟨-, ao, cap, c0, c1, c2, -⟩ := (H.out.1.keep (KR.of_below hbel)).open_
    have HB := Hid.mk hbel
    clear hbel
    by_cases hkr : k < r
    · go_wp2_with fail
      go_loopw [6] (fun j wr => ∃ q : Nat, q ≤ c ∧ j = .int .i64 q ∧ Below w.heap.size w wr) (fun j _ => c - (intOf j).toNat)
      case atStart => exact ⟨0, Nat.zero_le _, rfl, HB.out⟩
      case round =>
        obtain ⟨q, hq, rfl, hbel⟩ := hrel
        clear c0 c1 c2
        obtain ⟨-, ao, cap, c0, c1, c2, c3, c4, c5, c6⟩ := (H.out.1.keep (KR.of_below hbel)).open_
        obtain ⟨-, ao', cap', d0, d1, d2, d3, d4, d5, d6⟩ := (H.out.2.1.keep (KR.of_below hbel)).open_
        have HB2 := Hid.mk hbel
        clear hbel
        by_cases hqc : q < c
        · obtain ⟨gL, rfl, y1⟩ := c5 k hkr
          obtain ⟨nb, so, n, cp, y2, y3, -, -, hN⟩ := c6 k q hkr hqc
          obtain ⟨gL', rfl, z1⟩ := d5 k hkr
          obtain ⟨nb', so', n', cp', z2, z3, -, -, hN'⟩ := d6 k q hkr hqc
          rw [Nat.mul_comm 2] at y2 y3 z2 z3
          have HN := Hid.mk (And.intro hN hN')
          have hki : (k : Int) < (r : Int) := by omega
          have hqi : (q : Int) < (c : Int) := by omega
          have HC := Hid.mk (show ∀ w', Below wr.heap.size wr w' → w'.cell? ⟨b, 2, none⟩ = some (.slice (some ⟨gL, 0, none⟩) r cap) ∧ w'.cell? ⟨gL, k, none⟩ = some (.slice (some ⟨gs k, 0, none⟩) c c) ∧ w'.cell? ⟨gs k, q * 2, none⟩ = some (.bool nb) ∧ w'.cell? ⟨gs k, q * 2 + 1, none⟩ = some (.slice so n cp) ∧ w'.cell? ⟨b', 2, none⟩ = some (.slice (some ⟨gL', 0, none⟩) r cap') ∧ w'.cell? ⟨gL', k, none⟩ = some (.slice (some ⟨gs' k, 0, none⟩) c c) ∧ w'.cell? ⟨gs' k, q * 2, none⟩ = some (.bool nb') ∧ w'.cell? ⟨gs' k, q * 2 + 1, none⟩ = some (.slice so' n' cp') from
            fun w' hb => ⟨cell_later hb c2, cell_later hb y1, cell_later hb y2, cell_later hb y3, cell_later hb d2, cell_later hb z1, cell_later hb z2, cell_later hb z3⟩)
          clear hN hN' c5 c6 d5 d6
          go_upto_region 9 with fail
          go_cut [7] from 44 to 64 (fun o wx => o = .int .i64 0 ∧ Below w.heap.size w wx)
          case first =>
            go_region_held3 (fun w' => w'.cell? ⟨b, 2, none⟩ = some (.slice (some ⟨gL, 0, none⟩) r cap) ∧ w'.cell? ⟨gL, k, none⟩ = some (.slice (some ⟨gs k, 0, none⟩) c c) ∧ w'.cell? ⟨gs k, q * 2, none⟩ = some (.bool nb) ∧ w'.cell? ⟨gs k, q * 2 + 1, none⟩ = some (.slice so n cp) ∧ w'.cell? ⟨b', 2, none⟩ = some (.slice (some ⟨gL', 0, none⟩) r cap') ∧ w'.cell? ⟨gL', k, none⟩ = some (.slice (some ⟨gs' k, 0, none⟩) c c) ∧ w'.cell? ⟨gs' k, q * 2, none⟩ = some (.bool nb') ∧ w'.cell? ⟨gs' k, q * 2 + 1, none⟩ = some (.slice so' n' cp'))
              (exact HC.out _ (by first | exact hb9 | exact (Below.refl _ _).drew))
              (first | (go_at_call 163; refine (order_any _ _ (f k q) (f' k q) L L _ (HN.out.1.below ((Below.refl _ _).drew)) (HN.out.2.below ((Below.refl _ _).drew)) hL hL).mono ?_; rintro e w2 ⟨rfl, hb2⟩; have hb9 : Below wr.heap.size wr w2 := (Below.refl _ _).drew.trans hb2; clear hb2))
            all_goals
              go_wp2_with fail
              go_meet
              case rel =>
                refine ⟨?_, HB2.out.trans (hb9.mono HB2.out.size)⟩
                rw [H.out.2.2 k q hkr hqc, Int.sub_self]
                rfl
          case rest =>
            obtain ⟨rfl, hbc⟩ := hcut
            have HB3 := Hid.mk hbc
            clear hbc c0 c1 c2 d0 d1 d2 y1 y2 y3 z1 z2 z3
            go_wp2_with fail
            go_roundw
            case measure => simp [intOf]; omega
            case rel => exact ⟨q + 1, by omega, by go_num, HB3.out⟩
        · clear c5 c6 d5 d6
          go_wp2_with fail
          go_roundw
          case measure => simp [intOf]; omega
          case rel => exact ⟨k + 1, by omega, by go_num, HB2.out⟩
    · go_wp2_with fail
      go_ret
      exact ⟨rfl, HB.out⟩
end Go.Proofs.YtmijbimanaalbaaGreatDoor.R

/- What the law keeps, and what stays as it was. -/
namespace Go.Proofs.YtmijbimanaalbaaGreatDoor
open Go.RowKit R

/-- The blocks from N on have not turned. -/
def UpN (N : Nat) (w w' : World) : Prop := ∀ k, N ≤ k → k < w.heap.size → w'.heap[k]? = w.heap[k]?
theorem UpN.refl (N : Nat) (w : World) : UpN N w w := fun _ _ _ => rfl
theorem UpN.trans {N : Nat} {a b c : World} (h : UpN N a b) (k : UpN N b c) (hs : a.heap.size ≤ b.heap.size) : UpN N a c := fun i h1 h2 => (k i h1 (by omega)).trans (h i h1 h2)
theorem UpN.of_below {N : Nat} {w w' : World} (h : Below w.heap.size w w') : UpN N w w' := fun k _ hk => h.block k hk
theorem UpN.of_grown {N : Nat} {w w' : World} {o : Option Nat} (h : w.grownBy w' o) (ho : ∀ k, o = some k → k < N) : UpN N w w' := fun k h1 h2 => h.block k h2 (fun e => by have := ho k e.symm; omega)
theorem UpN.setCell {N : Nat} {w : World} {b o : Nat} (hb : b < N) (u : Value) : UpN N w (w.setCell ⟨b, o, none⟩ u) := fun k h1 _ => Below.heap_setCell _ _ _ _ (fun e => by
  have e' : k = b := e
  omega)
theorem isN_up {N : Nat} {w w' : World} {v : Value} {z : Int} {L : Nat} (h : IsN w v z L) (hat : AtB N v) (hu : UpN N w w') : IsN w' v z L := by
  obtain ⟨neg, sl, xs, rfl, h2, h3⟩ := h
  refine ⟨neg, sl, xs, rfl, ⟨h2.1, ?_⟩, h3⟩
  rcases h2.2 with h4 | ⟨g, cap, cur, rfl, hg, hh, r⟩
  · exact .inl h4
  · exact .inr ⟨g, cap, cur, rfl, hg, by rw [hu g (hat _ _ _ _ _ _ rfl) (Array.getElem?_eq_some_iff.1 hh).1]; exact hh, r⟩
theorem isR_up {N : Nat} {w w' : World} {b r c : Nat} {gs : Nat → Nat} {f : Nat → Nat → Int} {L : Nat} (h : IsR N w b r c gs f L) (hu : UpN N w w') : IsR N w' b r c gs f L := by
  obtain ⟨h0, v, h1, h2, h3, h4⟩ := h
  refine ⟨h0, v, by rw [hu b h0 (Array.getElem?_eq_some_iff.1 h1).1]; exact h1, ⟨h2.1, ?_⟩, fun i hi => ⟨(h3 i hi).1, ?_⟩, h4⟩
  · rcases h2.2 with h5 | ⟨g, cap, cur, hv, hg, hh, r⟩
    · exact .inl h5
    · exact .inr ⟨g, cap, cur, hv, hg, by rw [hu g hg (Array.getElem?_eq_some_iff.1 hh).1]; exact hh, r⟩
  · obtain ⟨cs, q1, q2, q3⟩ := (h3 i hi).2
    refine ⟨cs, by rw [hu _ (h3 i hi).1 (Array.getElem?_eq_some_iff.1 q1).1]; exact q1, q2, fun j hj => ?_⟩
    obtain ⟨a, b', e1, e2, e3, e4⟩ := q3 j hj
    exact ⟨a, b', e1, e2, isN_up e3 e4 hu, e4⟩
theorem itoa_small {z : Int} (h : z.natAbs < 281474976710656) : (Lib.itoa z).length ≤ 21 := Lib.itoa_length_le z (by omega) (by omega)
/-- A matrix that is not too great is written in few bytes, and so that it is read again. -/
theorem writes_matT {r c : Nat} {zs : List Int} (h : FitsP r c zs) (hl : zs.length = r * c) : Writes ⟨(matT r c zs).toArray⟩ r c zs 4000 ∧ (matT r c zs).length ≤ 4000 := by
  have hget : ∀ t, t < r * c → (zs.map Lib.itoa).getD t [] = Lib.itoa (zs.getD t 0) := fun t ht => by
    simp [List.getD, List.getElem?_map, List.getElem?_eq_getElem (show t < zs.length from by omega)]
  refine ⟨⟨Lib.decDigits r, Lib.decDigits c, zs.map Lib.itoa, rfl, decDigits_run r, decDigits_run c, (decDigits_facts r).2.2.1, (decDigits_facts c).2.2.1, by simp [hl], hl, fun t ht => ?_⟩, ?_⟩
  · rw [hget t ht]
    exact ⟨tok_itoa _, Nat.le_trans (itoa_small (h.2.2 t ht)) (by decide)⟩
  · have hrc : r * c ≤ 16 := Nat.mul_le_mul h.1 h.2.1
    have hb : ∀ (l : List (List UInt8)) (t : Nat), (∀ x ∈ l, x.length ≤ 21) → (bodyT c t l).length ≤ l.length * 23 := by
      intro l
      induction l with
      | nil => intro t _; simp [bodyT]
      | cons a b ih =>
        intro t hx
        have h1 := hx a (by simp)
        have h2 := ih (t + 1) (fun x hx' => hx x (List.mem_cons_of_mem _ hx'))
        rw [bodyT]
        simp only [List.length_append, List.length_cons]
        split <;> simp <;> omega
    have h1 := hb (zs.map Lib.itoa) 0 (fun x hx => by
      obtain ⟨z, hz, rfl⟩ := List.mem_map.1 hx
      obtain ⟨i, hi, rfl⟩ := List.mem_iff_getElem.1 hz
      have := h.2.2 i (by omega)
      rw [show zs.getD i 0 = zs[i] from by simp [List.getD, List.getElem?_eq_getElem hi]] at this
      exact itoa_small this)
    rw [List.length_map, hl] at h1
    have h2 := dec_le2 r (by have := h.1; omega)
    have h3 := dec_le2 c (by have := h.2.1; omega)
    unfold matT
    simp only [List.length_append, List.length_cons]
    have : r * c * 23 ≤ 16 * 23 := Nat.mul_le_mul_right _ hrc
    omega
theorem rsays_uniq {l : List UInt8} {r c r' c' : Nat} {f f' : Nat → Nat → Int} (h : RSays l r c f) (h' : RSays l r' c' f') : r = r' ∧ c = c' ∧ ∀ i j, i < r → j < c → f i j = f' i j := by
  obtain ⟨h0, h1, d0, d1, e1, e2, -, -, e5, e6, e7⟩ := h
  obtain ⟨k0, k1, t0, t1, g1, g2, -, -, g5, g6, g7⟩ := h'
  rw [e1] at g1
  injection g1 with g1 g1'
  injection g1' with g1' _
  subst g1; subst g1'
  rw [e2] at g2
  injection g2 with g2 g2'
  injection g2' with g2' _
  subst g2; subst g2'
  have hr : r = r' := by rw [← e5, g5]
  have hc : c = c' := by rw [← e6, g6]
  subst hr; subst hc
  refine ⟨rfl, rfl, fun i j hi hj => ?_⟩
  rcases e7 with ⟨hz, -⟩ | ⟨-, -, -, q⟩
  · omega
  · rcases g7 with ⟨hz, -⟩ | ⟨-, -, -, q'⟩
    · omega
    · rw [(q i hi).2 j hj, (q' i hi).2 j hj]
/-- The document's Read of a text that writes a matrix. -/
theorem read_yes (s : ByteArray) (r c : Nat) (zs : List Int) (L : Nat) (w : World) (hs : s.size ≤ 19000) (hr : r ≤ 99) (hc : c ≤ 99) (hw : Writes s r c zs L) :
    Calls Tryz.prog 101 #[.string s] w fun e w' => ∃ b gs, e = .returned (.pointer (some ⟨b, 0, none⟩)) ∧ IsR w.heap.size w' b r c gs (fun i j => zs.getD (i * c + j) 0) 19001 ∧ Below w.heap.size w w' := by
  refine (read_ref s w hs).mono ?_
  rintro e w' ⟨v, rfl, hv, hb⟩
  have hsay := says_of_writes hr hc hw
  rcases hv with ⟨-, hn⟩ | ⟨b, r', c', gs, f, rfl, hsay', hI⟩
  · exact absurd ⟨r, c, _, hsay⟩ hn
  · obtain ⟨rfl, rfl, he⟩ := rsays_uniq hsay' hsay
    exact ⟨b, gs, rfl, hI.congr he, hb⟩
/-- The document's Read of a text that writes none. -/
theorem read_none (s : ByteArray) (w : World) (hs : s.size ≤ 4000) (hw : ¬ Wr s) :
    Calls Tryz.prog 101 #[.string s] w fun e w' => e = .returned (.pointer none) ∧ Below w.heap.size w w' := by
  refine (read_ref s w (by omega)).mono ?_
  rintro e w' ⟨v, rfl, hv, hb⟩
  rcases hv with ⟨rfl, -⟩ | ⟨b, r', c', gs, f, rfl, hsay', hI⟩
  · exact ⟨rfl, hb⟩
  · obtain ⟨zs, h1, h2, h3⟩ := writes_of_says hs hsay'
    exact absurd ⟨r', c', zs, h1, h2, h3⟩ hw
theorem big_fits {r c : Nat} {zs : List Int} : BigP r c (fun i j => zs.getD (i * c + j) 0) ↔ ¬ FitsP r c zs := by
  constructor
  · rintro h ⟨h1, h2, h3⟩
    rcases h with h | h | ⟨i, j, hi, hj, h⟩
    · omega
    · omega
    · have h4 := h3 (i * c + j) (idx_lt hi hj)
      have h5 : 281474976710656 ≤ (zs.getD (i * c + j) 0).natAbs := h
      omega
  · intro h
    by_cases h1 : 4 < r
    · exact .inl h1
    · by_cases h2 : 4 < c
      · exact .inr (.inl h2)
      · refine .inr (.inr (Classical.byContradiction fun hn => h ⟨by omega, by omega, fun t ht => ?_⟩))
        have hc0 : 0 < c := by
          rcases Nat.eq_zero_or_pos c with h0 | h0
          · subst h0; simp at ht
          · exact h0
        have hlt : t / c < r := by rw [Nat.div_lt_iff_lt_mul hc0]; exact ht
        have hmod := Nat.mod_lt t hc0
        have he : t / c * c + t % c = t := by rw [Nat.mul_comm]; exact Nat.div_add_mod t c
        rcases Nat.lt_or_ge (zs.getD t 0).natAbs 281474976710656 with h5 | h5
        · exact h5
        · exact absurd ⟨t / c, t % c, hlt, hmod, by show 281474976710656 ≤ (zs.getD (t / c * c + t % c) 0).natAbs; rw [he]; exact h5⟩ hn
end Go.Proofs.YtmijbimanaalbaaGreatDoor
