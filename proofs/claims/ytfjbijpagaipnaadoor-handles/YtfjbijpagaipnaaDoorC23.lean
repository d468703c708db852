import Derived.Test.YtfjbijpagaipnaaDoorC11
import Derived.Test.YtfjbijpagaipnaaDoorC12
import Derived.Test.YtfjbijpagaipnaaDoorC20
import Derived.Test.YtfjbijpagaipnaaDoorC22
import Derived.Test.YtfjbijpagaipnaaDoorC06
import Derived.Lib.ItoaLen
import Derived.Test.YtfjbijpagaipnaaDoorC08
namespace Go.Proofs.YtfjbijpagaipnaaDoor
open Go.RowKit R
def DetRel (ms : List Hm) (h : Int) (t : List UInt8) (e : Int) : Prop :=
 ((∀ i, i < 24 → ∀ x, ms.getD i none = some x → (x.1 : Int) ≠ h) ∧ t = [] ∧ e = 2) ∨
 ∃ i hd r c zs, i < 24 ∧ ms.getD i none = some (hd, r, c, zs) ∧ ((hd : Nat) : Int) = h ∧ ((r ≠ c ∧ t = [] ∧ e = 3) ∨ (r = c ∧ ¬ FitsP r c zs ∧ t = [] ∧ e = 4) ∨ (r = c ∧ FitsP r c zs ∧ t = Lib.itoa (detF r (gz c zs)) ∧ e = 0))
theorem sq_is {w : World} {v : Value} {r c : Nat} {zs : List Int} {L : Nat} (e : r = c) (h : IsM w v r c zs L) : IsM w v r r zs L := by subst e; exact h
theorem LD_small (n : Nat) (h : n ≤ 4) : LD 2 n ≤ 100 := by
 obtain rfl | rfl | rfl | rfl | rfl : n = 0 ∨ n = 1 ∨ n = 2 ∨ n = 3 ∨ n = 4 := by omega
 all_goals decide
set_option maxRecDepth 100000 in
set_option maxHeartbeats 2000000 in
theorem det_held (b : Nat) (h : Int) (ms : List Hm) (nx : Nat) (w : World) (hst : Held w b ms nx) (htab : Tab w) :
 Calls Tryd.prog 13 #[.pointer (some ⟨b, 0, none⟩), .int .i64 h] w fun x w' => ∃ t e, x = .returned (.tuple #[.string ⟨t.toArray⟩, .int .i64 e]) ∧ DetRel ms h t e ∧ Below w.heap.size w w' := by
 have H := Hid.mk (And.intro hst htab)
 clear hst htab
 go_enter Tryd.func13, Tryd.ntmps13
 go_wp2_with fail
 refine (find_held b h ms nx _ H.out.1).mono ?_
 rintro e w1 ⟨⟨r, c, ao, n, cap, ok, rfl, hf⟩, hb1⟩
 have hbA := (Below.refl w1.heap.size w1).alloc (Nat.le_refl _) (.cells #[.int .i64 r, .int .i64 c, .slice ao n cap] 63)
 have hbw := hb1.trans (hbA.mono hb1.size)
 have hw1 := hb1.size
 rcases id hf with ⟨rfl, i, hd, zs, hi, hgi, hgh, hM⟩ | ⟨rfl, hno⟩
 ·have K1 := Hid.mk (And.intro (hM.below hbA) (And.intro hbw (And.intro hi (And.intro hgi hgh))))
  clear hf hM hb1 hbA hbw hi hgi hgh
  have hbS := (Below.refl (w1.alloc (.cells #[.int .i64 r, .int .i64 c, .slice ao n cap] 63)).heap.size (w1.alloc (.cells #[.int .i64 r, .int .i64 c, .slice ao n cap] 63))).alloc (Nat.le_refl _) (.cells #[.int .i64 r, .int .i64 c, .slice ao n cap] 63)
  have KS := Hid.mk (And.intro (K1.out.1.below hbS) (K1.out.2.1.trans (hbS.mono K1.out.2.1.size)))
  clear hbS
  by_cases hrc : r = c
  ·have hsq : ((r : Int) == (c : Int)) = true := beq_iff_eq.2 (by omega)
   have HRC := Hid.mk hrc
   clear hrc
   go_wp2_with (go_at_call 37; refine (isSquare_raw _ _ _ _ _ _).mono ?_; rintro e w' ⟨rfl, rfl⟩)
   refine (tooBig_any _ r c zs 200000000 _ KS.out.1 (by omega)).mono ?_
   rintro e w2 ⟨fb, rfl, hfo, hb2⟩
   have hs2 : w1.heap.size + 1 + 1 ≤ w2.heap.size := by have := hb2.size; simpa using this
   have m0 : w2.cell? ⟨w1.heap.size, 0, none⟩ = some (.int .i64 r) := cell_later hb2 (by simp)
   have m1 : w2.cell? ⟨w1.heap.size, 1, none⟩ = some (.int .i64 c) := cell_later hb2 (by simp)
   have m2 : w2.cell? ⟨w1.heap.size, 2, none⟩ = some (.slice ao n cap) := cell_later hb2 (by simp)
   have K2 := Hid.mk (And.intro (KS.out.1.below hb2) (And.intro (KS.out.2.trans (hb2.mono KS.out.2.size)) hfo))
   clear hb2 hfo
   cases fb
   ·have HNF : Hid (¬ FitsP r c zs) := Hid.mk (fun h => by have := K2.out.2.2.2 h; cases this)
    go_wp2_with fail
    go_ret2
    exact ⟨[], _, rfl, .inr ⟨i, hd, r, c, zs, K1.out.2.2.1, K1.out.2.2.2.1, K1.out.2.2.2.2, .inr (.inl ⟨HRC.out, HNF.out, rfl, rfl⟩)⟩, K2.out.2.1⟩
   ·have HFP : Hid (FitsP r c zs) := Hid.mk (K2.out.2.2.1 rfl)
    have HL : Hid (LD 2 r ≤ 100) := Hid.mk (LD_small r HFP.out.1)
    go_wp2_with fail
    refine (det_any r _ zs (gz c zs) 2 _ (sq_is HRC.out (K2.out.1.tight HFP.out)) (by rw [HRC.out]; exact fun _ _ _ _ => rfl) (by have := HL.out; omega) (by omega)).mono ?_
    rintro e w3 ⟨x, rfl, hx, hb3⟩
    obtain ⟨nx0, xo, xn, xcap, rfl⟩ := hx.shape
    have K3 := Hid.mk (And.intro hx (And.intro (K2.out.2.1.trans (hb3.mono K2.out.2.1.size)) (H.out.2.below (K2.out.2.1.trans (hb3.mono K2.out.2.1.size)))))
    clear hx hb3 m0 m1 m2
    go_wp2_with fail
    refine (decimal_any _ _ _ _ K3.out.1 (by have := HL.out; omega) K3.out.2.2).mono ?_
    rintro e w4 ⟨rfl, hb4⟩
    have K4 := Hid.mk (K3.out.2.1.trans (hb4.mono K3.out.2.1.size))
    clear hb4
    go_wp2_with fail
    go_ret2
    exact ⟨_, _, rfl, .inr ⟨i, hd, r, c, zs, K1.out.2.2.1, K1.out.2.2.2.1, K1.out.2.2.2.2, .inr (.inr ⟨HRC.out, HFP.out, rfl, rfl⟩)⟩, K4.out⟩
  ·have hsq : ((r : Int) == (c : Int)) = false := beq_eq_false_iff_ne.2 (by omega)
   have HRC := Hid.mk hrc
   clear hrc
   go_wp2_with (go_at_call 37; refine (isSquare_raw _ _ _ _ _ _).mono ?_; rintro e w' ⟨rfl, rfl⟩)
   go_ret2
   exact ⟨[], _, rfl, .inr ⟨i, hd, r, c, zs, K1.out.2.2.1, K1.out.2.2.2.1, K1.out.2.2.2.2, .inl ⟨HRC.out, rfl, rfl⟩⟩, KS.out.2⟩
 ·have KN := Hid.mk (And.intro hno hbw)
  clear hno hbw hb1 hbA hf
  go_wp2_with fail
  go_ret2
  exact ⟨[], _, rfl, .inl ⟨KN.out.1, rfl, rfl⟩, KN.out.2⟩
open Go.RowKit
def sixL (i : Nat) : List Hm := (List.range 24).map fun j => if j < i then some (j, 1, 1, [6]) else none
theorem sixL_len (i : Nat) : (sixL i).length = 24 := by simp [sixL]
theorem sixL_get (i : Nat) {k : Nat} (hk : k < 24) : (sixL i).getD k none = if k < i then some (k, 1, 1, [6]) else none := by
 unfold sixL
 rw [List.getD, List.getElem?_map, List.getElem?_range hk]
 rfl
theorem sixL_zero : sixL 0 = List.replicate 24 none := by decide
theorem hm_ext {a b : List Hm} (h : a.length = 24) (h' : b.length = 24) (he : ∀ k, k < 24 → a.getD k none = b.getD k none) : a = b := by
 apply List.ext_getElem (by omega)
 intro k h1 h2
 have := he k (by omega)
 rw [List.getD, List.getD, List.getElem?_eq_getElem h1, List.getElem?_eq_getElem h2] at this
 simpa using this
theorem sixL_free {i : Nat} (hi : i < 24) : FreeAt (sixL i) i := by
 refine ⟨hi, by rw [sixL_get i hi, if_neg (by omega)], fun j hj => ?_⟩
 rw [sixL_get i (by omega), if_pos hj]
 simp
theorem sixL_next {i : Nat} (hi : i < 24) : (sixL i).set i (some (i, 1, 1, [6])) = sixL (i + 1) := by
 refine hm_ext (by simp [sixL_len]) (sixL_len _) fun k hk => ?_
 rw [hm_set (by rw [sixL_len]; exact hi), sixL_get i hk, sixL_get (i + 1) hk]
 by_cases e : k = i
 ·rw [if_pos e, if_pos (by omega), e]
 ·rw [if_neg e]
  by_cases h : k < i
  ·rw [if_pos h, if_pos (by omega)]
  ·rw [if_neg h, if_neg (by omega)]
theorem sixL_full : ∀ i, i < 24 → (sixL 24).getD i none ≠ none := fun i hi => by rw [sixL_get 24 hi, if_pos hi]; simp
theorem six_fits : FitsP 1 1 [6] := by
 refine ⟨by omega, by omega, fun t ht => ?_⟩
 obtain rfl : t = 0 := by omega
 decide
theorem FreeAt.not_full {ms : List Hm} {i : Nat} (h : FreeAt ms i) (hf : ∀ i, i < 24 → ms.getD i none ≠ none) : False := hf i h.1 h.2.1
open Go.RowKit
theorem itoa_digit (n : Nat) (h : n < 10) : Lib.itoa (n : Int) = [UInt8.ofNat (48 + n)] := by rw [Lib.itoa_nonneg, Lib.decDigits_one h]
theorem itoa_more (n : Nat) (h : ¬ n < 10) : Lib.itoa (n : Int) = Lib.itoa ((n / 10 : Nat) : Int) ++ [UInt8.ofNat (48 + n % 10)] := by
 rw [Lib.itoa_nonneg, Lib.itoa_nonneg, decDigits_big h]
open Go.RowKit
open Go.RowKit
open Go.RowKit
theorem pick_any (c n : Int) (w : World) (hc1 : -9223372036854775808 ≤ c) (hc2 : c ≤ 9223372036854775807) (hn : 0 < n) (hn2 : n ≤ 4294967296) :
 Calls Tryd.prog 11 #[.int .i64 c, .int .i64 n] w fun e w' => (∃ v : Nat, e = .returned (.int .i64 (v : Nat)) ∧ (v : Int) < n) ∧ w' = w := by
 by_cases h0 : c < 0
 ·have hn0 : n ≠ 0 := by omega
  go_enter Tryd.func11, Tryd.ntmps11
  go_wp2_with fail
  go_ret
  refine ⟨⟨((-(c + 1)) % n).toNat, ?_, ?_⟩, rfl⟩
  ·refine ret_int ?_
   have h1 := Int.emod_nonneg (-(c + 1)) hn0
   have h2 : (-(c + 1)).tmod n = (-(c + 1)) % n := Int.tmod_eq_emod_of_nonneg (by omega)
   rw [Int.neg_tmod] at h2
   omega
  ·have := Int.emod_lt_of_pos (-(c + 1)) hn; have := Int.emod_nonneg (-(c + 1)) hn0; omega
 ·have hn0 : n ≠ 0 := by omega
  go_enter Tryd.func11, Tryd.ntmps11
  go_wp2_with fail
  go_ret
  refine ⟨⟨(c % n).toNat, ?_, ?_⟩, rfl⟩
  ·exact ret_int (by have := Int.emod_nonneg c hn0; omega)
  ·have := Int.emod_lt_of_pos c hn; have := Int.emod_nonneg c hn0; omega
def Dk (w : World) (d b : Nat) : Prop := w.heap[d]? = some (.cells #[.pointer (some ⟨b, 0, none⟩)] 34 (0, 0))
theorem Dk.lt {w : World} {d b : Nat} (h : Dk w d b) : d < w.heap.size := (Array.getElem?_eq_some_iff.1 h).1
theorem Dk.cell {w : World} {d b : Nat} (h : Dk w d b) : w.cell? ⟨d, 0, none⟩ = some (.pointer (some ⟨b, 0, none⟩)) := by unfold Dk at h; simp [World.cell?, h]
theorem Dk.below {B : Nat} {w w' : World} {d b : Nat} (h : Dk w d b) (hb : Below B w w') (hB : d < B) : Dk w' d b := by unfold Dk; rw [hb.block d hB]; exact h
theorem Dk.grown {w w' : World} {d b p : Nat} (h : Dk w d b) (hg : w.grownBy w' (some p)) (hp : p ≠ d) : Dk w' d b := by unfold Dk; rw [hg.block d h.lt (fun e => hp (by injection e with e; exact e.symm))]; exact h
open Go.RowKit
structure KS (B : Nat) (w : World) (d b : Nat) (ms : List Hm) (nx : Nat) : Prop where
 dk : Dk w d b
 held : Held w b ms nx
 tab : ∀ w', Below B w w' → Tab w'
 hb : B ≤ b
 hd : B ≤ d
theorem KS.ne {B : Nat} {w : World} {d b : Nat} {ms : List Hm} {nx : Nat} (h : KS B w d b ms nx) : d ≠ b := by
 rintro rfl
 obtain ⟨c, fr, h1⟩ := h.held.ty
 have h2 := h.dk
 unfold Dk at h2
 rw [h1] at h2
 simp at h2
theorem KS.lo {B : Nat} {w : World} {d b : Nat} {ms : List Hm} {nx : Nat} (h : KS B w d b ms nx) : B ≤ w.heap.size := by have := h.dk.lt; have := h.hd; omega
theorem KS.below {B : Nat} {w w' : World} {d b : Nat} {ms : List Hm} {nx : Nat} (h : KS B w d b ms nx) (hb : Below w.heap.size w w') : KS B w' d b ms nx :=
 ⟨h.dk.below hb h.dk.lt, h.held.below hb, fun w'' hw => h.tab w'' ((hb.mono h.lo).trans hw), h.hb, h.hd⟩
theorem KS.step {B : Nat} {w w' : World} {d b : Nat} {ms ms' : List Hm} {nx nx' : Nat} (h : KS B w d b ms nx) (hH : Held w' b ms' nx') (hF : Fr b w w') : KS B w' d b ms' nx' :=
 ⟨h.dk.grown hF.1 (Ne.symm h.ne), hH, fun w'' hw => h.tab w'' ((hF.below h.hb h.lo).trans hw), h.hb, h.hd⟩
theorem KS.tb {B : Nat} {w : World} {d b : Nat} {ms : List Hm} {nx : Nat} (h : KS B w d b ms nx) : Tab w := h.tab w (Below.refl _ _)
theorem deskK_any (w : World) (ht : Tab w) : Calls Tryd.prog 9 #[] w fun e w' => ∃ d b, e = .returned (.pointer (some ⟨d, 0, none⟩)) ∧ KS w.heap.size w' d b (List.replicate 24 none) 0 ∧ Below w.heap.size w w' := by
 have HT := Hid.mk ht
 clear ht
 go_enter Tryd.func9, Tryd.ntmps9
 go_wp2_with fail
 refine (new_held _).mono ?_
 rintro e w1 ⟨rfl, hs, hb⟩
 have hbl2 := hs.lt
 have H := Hid.mk (And.intro hs hb)
 clear hs hb
 go_wp2_with fail
 go_ret
 have hbA := (Below.refl w1.heap.size w1).alloc (Nat.le_refl _) (.cells #[.pointer (some ⟨w.heap.size, 0, none⟩)] 34)
 exact ⟨w1.heap.size, w.heap.size, rfl, ⟨heap_alloc_new w1 _, H.out.1.below hbA, fun w'' hw => HT.out.below ((H.out.2.trans (hbA.mono H.out.2.size)).trans hw), Nat.le_refl _, H.out.2.size⟩, H.out.2.trans (hbA.mono H.out.2.size)⟩
theorem shown_any (B d b : Nat) (h : Int) (ms : List Hm) (nx : Nat) (w : World) (hk : KS B w d b ms nx) :
 Calls Tryd.prog 17 #[.pointer (some ⟨d, 0, none⟩), .int .i64 h] w fun e w' => ∃ t, e = .returned (.string ⟨t.toArray⟩) ∧ (∃ t0 e0, ShowOut ms h t0 e0 ∧ ((e0 = 0 ∧ t = t0) ∨ (e0 ≠ 0 ∧ t = [63]))) ∧ Below w.heap.size w w' := by
 have c0 := hk.dk.cell
 have H := Hid.mk hk
 clear hk
 go_enter Tryd.func17, Tryd.ntmps17
 go_wp2_with fail
 refine (show_any b h ms nx _ H.out.held H.out.tb).mono ?_
 rintro e w1 ⟨t, e', rfl, hs, hb⟩
 have K := Hid.mk (And.intro hs hb)
 clear hs hb
 by_cases he : e' = 0
 ·subst he
  go_wp2_with fail
  go_ret
  exact ⟨t, rfl, ⟨t, 0, K.out.1, .inl ⟨rfl, rfl⟩⟩, K.out.2⟩
 ·have he' : (e' != 0) = true := by simp [he]
  have HE := Hid.mk he
  clear he
  go_wp2_with fail
  go_ret
  exact ⟨[63], rfl, ⟨t, e', K.out.1, .inr ⟨HE.out, rfl⟩⟩, K.out.2⟩
open Go.RowKit
theorem run_one {d : UInt8} (h : 48 ≤ d.toNat ∧ d.toNat ≤ 57) : Run [d] := ⟨by simp, fun c hc => by simp at hc; rw [hc]; exact h, .inl rfl⟩
theorem six_writes : Writes ⟨#[49, 120, 49, 58, 32, 54]⟩ 1 1 [6] 4000 := by
 refine ⟨[49], [49], [[54]], by decide, run_one (by decide), run_one (by decide), by decide, by decide, rfl, rfl, fun t ht => ?_⟩
 obtain rfl : t = 0 := by omega
 exact ⟨.inl ⟨run_one (by decide), by decide⟩, by simp⟩
theorem nine_writes : Writes ⟨#[57, 120, 48, 58]⟩ 9 0 [] 4000 :=
 ⟨[57], [48], [], by decide, run_one (by decide), run_one (by decide), by decide, by decide, rfl, rfl, fun t ht => by omega⟩
theorem x_not : ¬ Wr ⟨#[120]⟩ := by
 rintro ⟨r, c, zs, -, -, dr, dc, tks, h, h1, -⟩
 obtain ⟨hne, hd, -⟩ := h1
 cases dr with
 | nil => exact hne rfl
 | cons a l =>
   have h2 := hd a (by simp)
   have h3 : a = 120 := by
    have : ([120] : List UInt8) = a :: (l ++ (120 :: (dc ++ (58 :: bodyT c 0 tks)))) := h
    simp at this
   rw [h3] at h2
   exact absurd h2.2 (by decide)
theorem nine_not : ¬ FitsP 9 0 [] := fun h => by have := h.1; omega
theorem none_left : (sixL 24).countP Option.isNone = 0 := by decide
theorem itoa6 : Lib.itoa (detF 1 (gz 1 [6])) = [54] := by
 have : detF 1 (gz 1 [6]) = 6 := by decide
 rw [this]
 exact itoa_digit 6 (by decide)
theorem set_get {k : Nat} (hk : k < 24) (x : Hm) {i : Nat} (hi : i < 24) : ((sixL 24).set k x).getD i none = if i = k then x else some (i, 1, 1, [6]) := by
 rw [hm_set (by rw [sixL_len]; exact hk), sixL_get 24 hi, if_pos hi]
theorem dst_set {k : Nat} (hk : k < 24) : ∀ i, i < 24 → ∀ x, ((sixL 24).set k none).getD i none = some x → (x.1 : Int) ≠ (k : Int) := by
 intro i hi x hx
 rw [set_get hk none hi] at hx
 split at hx
 ·cases hx
 ·rename_i h
  injection hx with hx
  subst hx
  show ((i : Nat) : Int) ≠ _
  omega
theorem free_set {k : Nat} (hk : k < 24) : FreeAt ((sixL 24).set k none) k := by
 refine ⟨hk, by rw [set_get hk none hk, if_pos rfl], fun j hj => ?_⟩
 rw [set_get hk none (by omega), if_neg (by omega)]
 simp
theorem full_set {k : Nat} (hk : k < 24) (y : Nat × Nat × Nat × List Int) : ∀ i, i < 24 → ((sixL 24).set k (some y)).getD i none ≠ none := by
 intro i hi
 rw [set_get hk _ hi]
 split <;> simp
theorem prod_six : prodL 1 1 1 [6] [6] = [36] := by decide
theorem text36 : matT 1 1 [36] = [49, 120, 49, 58, 32, 51, 54] := by
 have h1 : Lib.itoa ((36 : Nat) : Int) = [51, 54] := by rw [itoa_more 36 (by decide), itoa_digit (36 / 10) (by decide)]; rfl
 have h2 : Lib.itoa (36 : Int) = [51, 54] := h1
 have h3 : Lib.decDigits 1 = [49] := Lib.decDigits_one (by decide)
 simp only [matT, List.map, bodyT, h2, h3]
 decide
theorem thirty_fits : FitsP 1 1 [36] := by
 refine ⟨by omega, by omega, fun t ht => ?_⟩
 obtain rfl : t = 0 := by omega
 decide
theorem six_not : ¬ SpEq (ent 1 [6]) (ent 1 [36]) 1 1 1 := by
 rintro ⟨h, -⟩
 obtain ⟨x, hx⟩ := h 0 (by omega)
 have := hx 0 (by omega)
 have e1 : ent 1 [6] 0 0 = 6 := by decide
 have e2 : ent 1 [36] 0 0 = 36 := by decide
 rw [e1] at this
 simp only [sm, e2] at this
 omega
open Go.RowKit
set_option maxRecDepth 100000 in
set_option maxHeartbeats 8000000 in
theorem handles_any (a : Int) (w : World) (ht : Tab w) (ha1 : -9223372036854775808 ≤ a) (ha2 : a ≤ 9223372036854775807) :
 Calls Tryd.prog 5 #[.int .i64 a] w fun x w' => x = .returned (.bool true) ∧ Below w.heap.size w w' := by
 have HT := Hid.mk ht
 clear ht
 go_enter Tryd.func5, Tryd.ntmps5
 go_wp2_with fail
 refine (deskK_any _ HT.out).mono ?_
 rintro e w1 ⟨d, b, rfl, hk, hb1⟩
 rw [← sixL_zero] at hk
 have K1 := Hid.mk (And.intro hk hb1)
 clear hk hb1
 go_wp2_with fail
 go_loopw [4] (fun i wr => ∃ k : Nat, k ≤ 24 ∧ i = .int .i64 k ∧ Hid (KS w.heap.size wr d b (sixL k) k ∧ Below w.heap.size w wr)) (fun i _ => 24 - (intOf i).toNat)
 case atStart => exact ⟨0, by omega, rfl, Hid.mk ⟨K1.out.1, K1.out.2⟩⟩
 case round =>
  rename World => wr
  obtain ⟨k, hk, rfl, HI⟩ := hrel
  have c0 := HI.out.1.dk.cell
  by_cases hk24 : k < 24
  ·have hki : (k : Int) < 24 := by omega
   go_wp2_with fail
   refine (type_yes b _ 1 1 [6] (sixL k) k _ HI.out.1.held (by omega) (by decide) (by omega) (by omega) six_writes).mono ?_
   rintro x w2 ⟨h, e, rfl, ho⟩
   rcases ho with ⟨-, -, hn, -⟩ | ⟨-, -, -, hf, -⟩ | ⟨rfl, rfl, -, ⟨i, hi, hH⟩, hF⟩
   ·exact absurd six_fits hn
   ·exact absurd (sixL_free hk24).2.1 (hf k hk24)
   ·obtain rfl := (sixL_free hk24).uniq hi
    rw [sixL_next hk24] at hH
    have K2 := Hid.mk (And.intro (HI.out.1.step hH hF) (HI.out.2.trans (hF.below HI.out.1.hb HI.out.1.lo)))
    have ikk : ((k : Int) != (k : Int)) = false := by simp
    clear hH hF hi c0
    go_wp2_with fail
    go_roundw
    case measure => simp [intOf]; omega
    case rel => exact ⟨k + 1, by omega, by go_num, Hid.mk ⟨K2.out.1, K2.out.2⟩⟩
  ·obtain rfl : k = 24 := by omega
   go_wp2_with fail
   refine (type_yes b _ 1 1 [6] (sixL 24) 24 _ HI.out.1.held (by omega) (by decide) (by omega) (by omega) six_writes).mono ?_
   rintro x w2 ⟨h, e, rfl, ho⟩
   rcases ho with ⟨-, -, hn, -⟩ | ⟨rfl, rfl, -, hf, hb2⟩ | ⟨-, -, -, ⟨i, hi, -⟩, -⟩
   ·exact absurd six_fits hn
   rotate_left
   ·exact (hi.not_full sixL_full).elim
   have K2 := Hid.mk (And.intro (HI.out.1.below hb2) (HI.out.2.trans (hb2.mono HI.out.1.lo)))
   clear hb2 c0 hf
   have c0 := K2.out.1.dk.cell
   go_wp2_with fail
   refine (type_yes b _ 9 0 [] (sixL 24) 24 _ K2.out.1.held (by omega) (by decide) (by omega) (by omega) nine_writes).mono ?_
   rintro x w3 ⟨h, e, rfl, ho⟩
   rcases ho with ⟨rfl, rfl, hn, hb3⟩ | ⟨-, -, hf, -⟩ | ⟨-, -, hf, -⟩
   rotate_left
   ·exact absurd hf nine_not
   ·exact absurd hf nine_not
   have K3 := Hid.mk (And.intro (K2.out.1.below hb3) (K2.out.2.trans (hb3.mono K2.out.1.lo)))
   clear hb3 c0 hn
   have c0 := K3.out.1.dk.cell
   go_wp2_with fail
   refine (type_no b _ _ (.inr x_not)).mono ?_
   rintro x w4 ⟨rfl, hb4⟩
   have K4 := Hid.mk (And.intro (K3.out.1.below hb4) (K3.out.2.trans (hb4.mono K3.out.1.lo)))
   clear hb4 c0
   go_wp2_with fail
   refine (pick_any a 24 _ ha1 ha2 (by omega) (by omega)).mono ?_
   rintro x w4 ⟨⟨k, rfl, hk⟩, rfl⟩
   have hk24 : k < 24 := by omega
   have c0 := K4.out.1.dk.cell
   go_wp2_with fail
   refine (echelon_held b k (sixL 24) 24 _ K4.out.1.held (by omega)).mono ?_
   rintro x w5 ⟨v, e, ok, xs, rfl, hrel, hout⟩
   obtain ⟨rfl, rfl⟩ : ok = false ∧ e = 5 := by
    rcases hrel with ⟨hn, -⟩ | ⟨i, hd, r, c, zs, hi, hx, hxh, h⟩
    ·exact absurd rfl (hn k hk24 _ (by rw [sixL_get 24 hk24, if_pos hk24]))
    ·rw [sixL_get 24 hi, if_pos hi] at hx
     simp only [Option.some.injEq, Prod.mk.injEq] at hx
     obtain ⟨rfl, rfl, rfl, rfl⟩ := hx
     rcases h with ⟨h, -⟩ | ⟨-, -, h1, h2, -⟩ | ⟨-, h, -⟩
     ·exact absurd six_fits h
     ·exact ⟨h1, h2⟩
     ·rw [none_left] at h; omega
   rcases hout with ⟨-, rfl, hH5, hF5⟩ | ⟨h, -⟩
   rotate_left
   ·cases h
   have K5 := Hid.mk (And.intro (K4.out.1.step hH5 hF5) (K4.out.2.trans (hF5.below K4.out.1.hb K4.out.1.lo)))
   clear hH5 hF5 hrel c0
   have c0 := K5.out.1.dk.cell
   go_wp2_with fail
   refine (det_held b k (sixL 24) 24 _ K5.out.1.held K5.out.1.tb).mono ?_
   rintro x w6 ⟨t, e, rfl, hrel, hb6⟩
   obtain ⟨rfl, rfl⟩ : t = [54] ∧ e = 0 := by
    rcases hrel with ⟨hn, -⟩ | ⟨i, hd, r, c, zs, hi, hx, hxh, h⟩
    ·exact absurd rfl (hn k hk24 _ (by rw [sixL_get 24 hk24, if_pos hk24]))
    ·rw [sixL_get 24 hi, if_pos hi] at hx
     simp only [Option.some.injEq, Prod.mk.injEq] at hx
     obtain ⟨rfl, rfl, rfl, rfl⟩ := hx
     rcases h with ⟨h, -⟩ | ⟨-, h, -⟩ | ⟨-, -, h1, h2⟩
     ·exact absurd rfl h
     ·exact absurd six_fits h
     ·exact ⟨by rw [h1, itoa6], h2⟩
   have K6 := Hid.mk (And.intro (K5.out.1.below hb6) (K5.out.2.trans (hb6.mono K5.out.1.lo)))
   clear hb6 hrel c0
   have c0 := K6.out.1.dk.cell
   go_wp2_with fail
   refine (free_held b k (sixL 24) 24 _ K6.out.1.held).mono ?_
   rintro x w7 ⟨fe, rfl, hfr⟩
   rcases hfr with ⟨rfl, i, hi, ⟨y, hy, hyk⟩, hH7, hF7⟩ | ⟨-, -, hn⟩
   rotate_left
   ·exact absurd rfl (hn k hk24 _ (by rw [sixL_get 24 hk24, if_pos hk24]))
   obtain rfl : i = k := by
    rw [sixL_get 24 hi, if_pos hi] at hy
    injection hy with hy
    subst hy
    have : ((i : Nat) : Int) = (k : Int) := hyk
    omega
   have K7 := Hid.mk (And.intro (K6.out.1.step hH7 hF7) (K6.out.2.trans (hF7.below K6.out.1.hb K6.out.1.lo)))
   clear hH7 hF7 hy hyk c0
   have c0 := K7.out.1.dk.cell
   go_wp2_with fail
   refine (free_held b i ((sixL 24).set i none) 24 _ K7.out.1.held).mono ?_
   rintro x w8 ⟨fe, rfl, hfr⟩
   rcases hfr with ⟨-, j, hj, ⟨y, hy, hyk⟩, -⟩ | ⟨rfl, rfl, -⟩
   ·exact absurd hyk (dst_set hk24 j hj y hy)
   have K8 := Hid.mk (And.intro K7.out.1 K7.out.2)
   clear c0
   have c0 := K8.out.1.dk.cell
   go_wp2_with fail
   refine (show_any b i ((sixL 24).set i none) 24 _ K8.out.1.held K8.out.1.tb).mono ?_
   rintro x w9 ⟨t, e, rfl, hs, hb9⟩
   rcases hs with ⟨-, j, y, hj, hy, hyk, -⟩ | ⟨rfl, rfl, -⟩
   ·exact absurd hyk (dst_set hk24 j hj y hy)
   have K9 := Hid.mk (And.intro (K8.out.1.below hb9) (K8.out.2.trans (hb9.mono K8.out.1.lo)))
   clear hb9 c0
   have c0 := K9.out.1.dk.cell
   go_wp2_with fail
   refine (times_one b i i ((sixL 24).set i none) 24 _ K9.out.1.held (by omega)).mono ?_
   rintro x w10 ⟨kk, e, ms', nx', rfl, hrel, hH10, hF10⟩
   obtain ⟨rfl, rfl, rfl, rfl⟩ : kk = -1 ∧ e = 2 ∧ ms' = (sixL 24).set i none ∧ nx' = 24 := by
    rcases hrel with ⟨-, h1, h2, h3, h4⟩ | ⟨j, d, r, q, zs, j', d', q', c, ys, hj, hy, hyk, -⟩
    ·exact ⟨h1, h2, h3, h4⟩
    ·exact absurd hyk (dst_set hk24 j hj _ hy)
   have K10 := Hid.mk (And.intro (K9.out.1.step hH10 hF10) (K9.out.2.trans (hF10.below K9.out.1.hb K9.out.1.lo)))
   clear hH10 hF10 hrel c0
   have c0 := K10.out.1.dk.cell
   obtain ⟨j, hj⟩ : ∃ j, j = (i + 1) % 24 := ⟨_, rfl⟩
   have hj24 : j < 24 := by omega
   have hji : j ≠ i := by omega
   have hjm : ((i : Int) + 1).tmod 24 = (j : Int) := by
    rw [Int.tmod_eq_emod_of_nonneg (by omega)]
    omega
   have HJ := Hid.mk hj
   clear hj
   go_wp2_with fail
   refine (times_one b j j ((sixL 24).set i none) 24 _ K10.out.1.held (by omega)).mono ?_
   rintro x w11 ⟨kk, e, ms', nx', rfl, hrel, hH11, hF11⟩
   obtain ⟨rfl, rfl, rfl, rfl⟩ : kk = 24 ∧ e = 0 ∧ ms' = (sixL 24).set i (some (24, 1, 1, [36])) ∧ nx' = 25 := by
    have hgj : ((sixL 24).set i none).getD j none = some (j, 1, 1, [6]) := by rw [set_get hk24 none hj24, if_neg hji]
    rcases hrel with ⟨h1, -⟩ | ⟨a1, d, r, q, zs, a2, d', q', c, ys, ha1, hx, hxk, ha2, hy, hyk, hrel⟩
    ·rcases h1 with h1 | h1 <;> exact absurd rfl (h1 j hj24 _ hgj)
    ·have e1 : a1 = j := by
      rw [set_get hk24 none ha1] at hx
      split at hx
      ·cases hx
      ·simp only [Option.some.injEq, Prod.mk.injEq] at hx; omega
     have e2 : a2 = j := by
      rw [set_get hk24 none ha2] at hy
      split at hy
      ·cases hy
      ·simp only [Option.some.injEq, Prod.mk.injEq] at hy; omega
     rw [e1, hgj] at hx
     rw [e2, hgj] at hy
     simp only [Option.some.injEq, Prod.mk.injEq] at hx hy
     obtain ⟨-, rfl, rfl, rfl⟩ := hx
     obtain ⟨-, rfl, rfl, rfl⟩ := hy
     rcases hrel with ⟨h1, -⟩ | ⟨-, h1, -⟩ | ⟨-, -, h1, -⟩ | ⟨-, -, h1, h2, n, h3, h4, h5⟩
     ·exact absurd rfl h1
     ·exact absurd ⟨six_fits, six_fits⟩ h1
     ·exact absurd (free_set hk24).2.1 (h1 i hk24)
     ·obtain rfl := (free_set hk24).uniq h3
      refine ⟨h1, h2, ?_, h5⟩
      rw [h4, prod_six]
      simp
   have K11 := Hid.mk (And.intro (K10.out.1.step hH11 hF11) (K10.out.2.trans (hF11.below K10.out.1.hb K10.out.1.lo)))
   clear hH11 hF11 hrel c0
   have hg24 : ((sixL 24).set i (some (24, 1, 1, [36]))).getD i none = some (24, 1, 1, [36]) := by rw [set_get hk24 _ hk24, if_pos rfl]
   have hgj : ((sixL 24).set i (some (24, 1, 1, [36]))).getD j none = some (j, 1, 1, [6]) := by rw [set_get hk24 _ hj24, if_neg hji]
   have huniq : ∀ a x, a < 24 → ((sixL 24).set i (some (24, 1, 1, [36]))).getD a none = some x → (x.1 : Int) = 24 → a = i := fun a x ha hx he => by
    rw [set_get hk24 _ ha] at hx
    split at hx
    ·assumption
    ·injection hx with hx
     subst hx
     have : ((a : Nat) : Int) = 24 := he
     omega
   have huniqj : ∀ a x, a < 24 → ((sixL 24).set i (some (24, 1, 1, [36]))).getD a none = some x → (x.1 : Int) = (j : Int) → a = j := fun a x ha hx he => by
    rw [set_get hk24 _ ha] at hx
    split at hx
    ·injection hx with hx
     subst hx
     have : ((24 : Nat) : Int) = (j : Int) := he
     omega
    ·injection hx with hx
     subst hx
     have : ((a : Nat) : Int) = (j : Int) := he
     omega
   have HG := Hid.mk (And.intro hg24 (And.intro hgj (And.intro huniq huniqj)))
   clear hg24 hgj huniq huniqj
   go_wp2_with fail
   refine (shown_any _ d b 24 _ 25 _ K11.out.1).mono ?_
   rintro x w12 ⟨t, rfl, ⟨t0, e0, hs, ht⟩, hb12⟩
   obtain rfl : t = [49, 120, 49, 58, 32, 51, 54] := by
    rcases hs with ⟨rfl, a, y, ha, hy, hyk, h1⟩ | ⟨-, -, hn⟩
    ·rcases ht with ⟨-, rfl⟩ | ⟨h2, -⟩
     ·have := HG.out.2.2.1 a y ha hy hyk
      rw [this, HG.out.1] at hy
      injection hy with hy
      subst hy
      rw [h1]
      exact text36
     ·exact absurd rfl h2
    ·exact absurd rfl (hn i hk24 _ HG.out.1)
   have K12 := Hid.mk (And.intro (K11.out.1.below hb12) (K11.out.2.trans (hb12.mono K11.out.1.lo)))
   clear hb12 hs ht
   have c0 := K12.out.1.dk.cell
   go_wp2_with fail
   refine (sum_held b j 24 ((sixL 24).set i (some (24, 1, 1, [36]))) 25 _ K12.out.1.held (by omega)).mono ?_
   rintro x w13 ⟨kk, e, ms', nx', rfl, hrel, hH13, hF13⟩
   obtain ⟨rfl, rfl, rfl, rfl⟩ : kk = -1 ∧ e = 5 ∧ ms' = (sixL 24).set i (some (24, 1, 1, [36])) ∧ nx' = 25 := by
    rcases hrel with ⟨h1, -⟩ | ⟨a1, d1, r, q, zs, a2, d', q', c, ys, ha1, hx, hxk, ha2, hy, hyk, hrel⟩
    ·rcases h1 with h1 | h1
     ·exact absurd rfl (h1 j hj24 _ HG.out.2.1)
     ·exact absurd rfl (h1 i hk24 _ HG.out.1)
    ·have e1 := HG.out.2.2.2 a1 _ ha1 hx hxk
     have e2 := HG.out.2.2.1 a2 _ ha2 hy hyk
     rw [e1, HG.out.2.1] at hx
     rw [e2, HG.out.1] at hy
     simp only [Option.some.injEq, Prod.mk.injEq] at hx hy
     obtain ⟨-, rfl, rfl, rfl⟩ := hx
     obtain ⟨-, rfl, rfl, rfl⟩ := hy
     rcases hrel with ⟨h1, -⟩ | ⟨-, h1, -⟩ | ⟨-, -, -, h1, h2, h3, h4⟩ | ⟨-, -, -, -, n, rk, bs, -, h3, -⟩
     ·exact absurd rfl h1
     ·exact absurd ⟨six_fits, thirty_fits⟩ h1
     ·exact ⟨h1, h2, h3, h4⟩
     ·exact (h3.not_full (full_set hk24 _)).elim
   have K13 := Hid.mk (And.intro (K12.out.1.step hH13 hF13) (K12.out.2.trans (hF13.below K12.out.1.hb K12.out.1.lo)))
   clear hH13 hF13 hrel c0
   have c0 := K13.out.1.dk.cell
   go_wp2_with fail
   refine (equal_held b j 24 ((sixL 24).set i (some (24, 1, 1, [36]))) 25 _ K13.out.1.held).mono ?_
   rintro x w14 ⟨y, e, rfl, hrel, hb14⟩
   obtain ⟨rfl, rfl⟩ : y = false ∧ e = 0 := by
    rcases hrel with ⟨h1, -⟩ | ⟨a1, d1, r, q, zs, a2, d', q', c, ys, ha1, hx, hxk, ha2, hy, hyk, hrel⟩
    ·rcases h1 with h1 | h1
     ·exact absurd rfl (h1 j hj24 _ HG.out.2.1)
     ·exact absurd rfl (h1 i hk24 _ HG.out.1)
    ·have e1 := HG.out.2.2.2 a1 _ ha1 hx hxk
     have e2 := HG.out.2.2.1 a2 _ ha2 hy hyk
     rw [e1, HG.out.2.1] at hx
     rw [e2, HG.out.1] at hy
     simp only [Option.some.injEq, Prod.mk.injEq] at hx hy
     obtain ⟨-, rfl, rfl, rfl⟩ := hx
     obtain ⟨-, rfl, rfl, rfl⟩ := hy
     rcases hrel with ⟨h1, -⟩ | ⟨-, h1, -⟩ | ⟨-, -, h2, h3, -⟩
     ·exact absurd rfl h1
     ·exact absurd ⟨six_fits, thirty_fits⟩ h1
     ·refine ⟨?_, h2⟩
      cases y
      ·rfl
      ·exact absurd (h3.1 rfl) six_not
   have K14 := Hid.mk (K13.out.2.trans (hb14.mono K13.out.1.lo))
   clear hb14 hrel c0
   go_wp2_with fail
   go_ret
   exact ⟨rfl, K14.out⟩
end Go.Proofs.YtfjbijpagaipnaaDoor
