import Derived.Test.YtfjbijpagaipnabGreatDoorS22
import Derived.Test.YtfjbijpagaipnabGreatDoorS11
import Derived.Test.YtfjbijpagaipnabGreatDoorS08
import Derived.Test.YtfjbijpagaipnabGreatDoorS21
import Derived.Test.YtfjbijpagaipnabGreatDoorS10
import Derived.Test.YtfjbijpagaipnabGreatDoorS14
import Derived.Test.YtfjbijpagaipnabGreatDoorS15
import Derived.Test.YtfjbijpagaipnabGreatDoorS20
import Derived.Test.YtfjbijpagaipnabGreatDoorS13
import Derived.Deep.RegionHeld3
import Derived.StillTailTactics
namespace Go.Proofs.YtfjbijpagaipnabGreatDoor
open Go.RowKit
structure KS (B : Nat) (w : World) (d b : Nat) (ms : List Hm) (nx : Nat) : Prop where
 dk : Dk w d b
 held : Held w b ms nx
 tab : ∀ w', Below B w w' → Tab w'
 hb : B ≤ b
 hd : B ≤ d
theorem KS.ne {B : Nat} {w : World} {d b : Nat} {ms : List Hm} {nx : Nat} (h : KS B w d b ms nx) : d ≠ b := by
 rintro rfl
 obtain ⟨c, fr, h1⟩ := h.held.ty
 have h2 := h.dk
 unfold Dk at h2
 rw [h1] at h2
 simp at h2
theorem KS.lo {B : Nat} {w : World} {d b : Nat} {ms : List Hm} {nx : Nat} (h : KS B w d b ms nx) : B ≤ w.heap.size := by have := h.dk.lt; have := h.hd; omega
theorem KS.below {B : Nat} {w w' : World} {d b : Nat} {ms : List Hm} {nx : Nat} (h : KS B w d b ms nx) (hb : Below w.heap.size w w') : KS B w' d b ms nx :=
 ⟨h.dk.below hb h.dk.lt, h.held.below hb, fun w'' hw => h.tab w'' ((hb.mono h.lo).trans hw), h.hb, h.hd⟩
theorem KS.step {B : Nat} {w w' : World} {d b : Nat} {ms ms' : List Hm} {nx nx' : Nat} (h : KS B w d b ms nx) (hH : Held w' b ms' nx') (hF : Fr b w w') : KS B w' d b ms' nx' :=
 ⟨h.dk.grown hF.1 (Ne.symm h.ne), hH, fun w'' hw => h.tab w'' ((hF.below h.hb h.lo).trans hw), h.hb, h.hd⟩
theorem KS.tb {B : Nat} {w : World} {d b : Nat} {ms : List Hm} {nx : Nat} (h : KS B w d b ms nx) : Tab w := h.tab w (Below.refl _ _)
theorem deskK_any (w : World) (ht : Tab w) : Calls Tryz.prog 13 #[] w fun e w' => ∃ d b, e = .returned (.pointer (some ⟨d, 0, none⟩)) ∧ KS w.heap.size w' d b (List.replicate 24 none) 0 ∧ Below w.heap.size w w' := by
 have HT := Hid.mk ht
 clear ht
 go_enter Tryz.func13, Tryz.ntmps13
 go_wp2_with fail
 refine (new_held _).mono ?_
 rintro e w1 ⟨rfl, hs, hb⟩
 have hbl2 := hs.lt
 have H := Hid.mk (And.intro hs hb)
 clear hs hb
 go_wp2_with fail
 go_ret
 have hbA := (Below.refl w1.heap.size w1).alloc (Nat.le_refl _) (.cells #[.pointer (some ⟨w.heap.size, 0, none⟩)] 40)
 exact ⟨w1.heap.size, w.heap.size, rfl, ⟨heap_alloc_new w1 _, H.out.1.below hbA, fun w'' hw => HT.out.below ((H.out.2.trans (hbA.mono H.out.2.size)).trans hw), Nat.le_refl _, H.out.2.size⟩, H.out.2.trans (hbA.mono H.out.2.size)⟩
theorem shown_any (B d b : Nat) (h : Int) (ms : List Hm) (nx : Nat) (w : World) (hk : KS B w d b ms nx) :
 Calls Tryz.prog 20 #[.pointer (some ⟨d, 0, none⟩), .int .i64 h] w fun e w' => ∃ t, e = .returned (.string ⟨t.toArray⟩) ∧ (∃ t0 e0, ShowOut ms h t0 e0 ∧ ((e0 = 0 ∧ t = t0) ∨ (e0 ≠ 0 ∧ t = [63]))) ∧ Below w.heap.size w w' := by
 have c0 := hk.dk.cell
 have H := Hid.mk hk
 clear hk
 go_enter Tryz.func20, Tryz.ntmps20
 go_wp2_with fail
 refine (show_any b h ms nx _ H.out.held H.out.tb).mono ?_
 rintro e w1 ⟨t, e', rfl, hs, hb⟩
 have K := Hid.mk (And.intro hs hb)
 clear hs hb
 by_cases he : e' = 0
 ·subst he
  go_wp2_with fail
  go_ret
  exact ⟨t, rfl, ⟨t, 0, K.out.1, .inl ⟨rfl, rfl⟩⟩, K.out.2⟩
 ·have he' : (e' != 0) = true := by simp [he]
  have HE := Hid.mk he
  clear he
  go_wp2_with fail
  go_ret
  exact ⟨[63], rfl, ⟨t, e', K.out.1, .inr ⟨HE.out, rfl⟩⟩, K.out.2⟩
open Go.RowKit
abbrev KMx := Nat × Nat × List Int
def stk (l : List KMx) : List Hm := (List.range 24).map fun j => (l[j]?).map fun x => (j, x)
theorem stk_len (l : List KMx) : (stk l).length = 24 := by simp [stk]
theorem stk_get (l : List KMx) {k : Nat} (hk : k < 24) : (stk l).getD k none = (l[k]?).map fun x => (k, x) := by
 unfold stk
 rw [List.getD, List.getElem?_map, List.getElem?_range hk]
 rfl
theorem stk_nil : stk [] = List.replicate 24 none := by decide
theorem stk_free {l : List KMx} (hl : l.length < 24) : FreeAt (stk l) l.length := by
 refine ⟨hl, by rw [stk_get l hl]; simp, fun j hj => ?_⟩
 rw [stk_get l (by omega), List.getElem?_eq_getElem hj]
 simp
theorem stk_room {l : List KMx} (hl : l.length < 24) (hf : ∀ i, i < 24 → (stk l).getD i none ≠ none) : False := hf _ hl (stk_free hl).2.1
theorem stk_set {l : List KMx} (hl : l.length < 24) (x : KMx) : (stk l).set l.length (some (l.length, x)) = stk (l ++ [x]) := by
 refine hm_ext (by simp [stk_len]) (stk_len _) fun k hk => ?_
 rw [hm_set (by rw [stk_len]; exact hl), stk_get l hk, stk_get _ hk]
 by_cases e : k = l.length
 ·subst e; simp
 ·rw [if_neg e]
  by_cases h : k < l.length
  ·rw [List.getElem?_append_left h]
  ·rw [List.getElem?_eq_none (by omega), List.getElem?_eq_none (by simp; omega)]
theorem stk_put {l : List KMx} (hl : l.length < 24) (x : KMx) {n : Nat} (hn : FreeAt (stk l) n) : (stk l).set n (some (l.length, x)) = stk (l ++ [x]) := by
 rw [hn.uniq (stk_free hl)]; exact stk_set hl x
theorem stk_is {l : List KMx} {i k hd r c : Nat} {zs : List Int} {y : KMx} (hi : i < 24) (hx : (stk l).getD i none = some (hd, r, c, zs)) (he : ((hd : Nat) : Int) = (k : Int)) (hl : l[k]? = some y) : y = (r, c, zs) := by
 rw [stk_get l hi] at hx
 obtain ⟨z, hz, e⟩ := Option.map_eq_some_iff.1 hx
 simp only [Prod.mk.injEq] at e
 obtain ⟨rfl, rfl⟩ := e
 obtain rfl : i = k := by omega
 rw [hl] at hz
 injection hz
theorem stk_no {l : List KMx} {k : Nat} {y : KMx} (h24 : l.length ≤ 24) (hl : l[k]? = some y) (hn : ∀ i, i < 24 → ∀ x, (stk l).getD i none = some x → (x.1 : Int) ≠ (k : Int)) : False := by
 have hk := (List.getElem?_eq_some_iff.1 hl).1
 exact hn k (by omega) (k, y) (by rw [stk_get l (by omega), hl]; rfl) rfl
theorem stk_count : ∀ l : List KMx, l.length ≤ 24 → (stk l).countP Option.isNone = 24 - l.length := by
 intro l hl
 have key : ∀ n, n ≤ 24 → ((List.range n).map fun j => (l[j]?).map fun x => (j, x)).countP Option.isNone = n - l.length := by
  intro n
  induction n with
  | zero => intro _; simp
  | succ n ih =>
    intro hn
    rw [List.range_succ, List.map_append, List.countP_append, ih (by omega)]
    by_cases h : n < l.length
    ·simp [List.getElem?_eq_getElem h]; omega
    ·simp [List.getElem?_eq_none (Nat.le_of_not_lt h)]; omega
 exact key 24 (Nat.le_refl _)
theorem stk_puts : ∀ (xs l : List KMx), l.length + xs.length ≤ 24 → puts (stk l) l.length xs = stk (l ++ xs) := by
 intro xs
 induction xs with
 | nil => intro l _; simp [puts]
 | cons x xs ih =>
   intro l hl
   simp only [List.length_cons] at hl
   have h1 : put1 (stk l) l.length x = stk (l ++ [x]) := by
    unfold put1
    exact stk_put (by omega) x (ff_free (stk_len l) (by rw [stk_count l (by omega)]; omega))
   have h2 := ih (l ++ [x]) (by simp; omega)
   rw [puts, h1]
   simpa using h2
open Go.RowKit
theorem digit_nat (d : Nat) (h : d < 10) : (UInt8.ofNat (48 + d)).toNat = 48 + d := by rw [UInt8.toNat_ofNat', Nat.mod_eq_of_lt (by omega)]
theorem decDigits_facts (u : Nat) : Lib.decDigits u ≠ [] ∧ Digs (Lib.decDigits u) ∧ decval (Lib.decDigits u) = u ∧ (0 < u → ∃ d r, Lib.decDigits u = d :: r ∧ d.toNat ≠ 48) := by
 induction u using Nat.strongRecOn with
 | ind u ih =>
   by_cases h : u < 10
   ·rw [Lib.decDigits_one h]
    refine ⟨by simp, ?_, ?_, fun h0 => ⟨_, _, rfl, ?_⟩⟩
    ·intro c hc
     rw [List.mem_singleton] at hc
     rw [hc, digit_nat u h]; omega
    ·have := digit_nat u h
     unfold decval
     simp only [List.foldl_cons, List.foldl_nil]
     rw [this]; omega
    ·rw [digit_nat u h]; omega
   ·obtain ⟨h1, h2, h3, h4⟩ := ih (u / 10) (by omega)
    rw [decDigits_big h]
    have hd := digit_nat (u % 10) (by omega)
    refine ⟨by simp, ?_, ?_, fun _ => ?_⟩
    ·intro c hc
     rcases List.mem_append.1 hc with hc | hc
     ·exact h2 c hc
     ·rw [List.mem_singleton] at hc
      rw [hc, hd]; omega
    ·rw [decval_snoc, h3, hd]; omega
    ·obtain ⟨d, r, e1, e2⟩ := h4 (by omega)
     exact ⟨d, r ++ [UInt8.ofNat (48 + u % 10)], by rw [e1]; rfl, e2⟩
theorem decDigits_run (u : Nat) : Run (Lib.decDigits u) := by
 obtain ⟨h1, h2, h3, h4⟩ := decDigits_facts u
 refine ⟨h1, h2, ?_⟩
 rcases Nat.eq_zero_or_pos u with h | h
 ·subst h
  exact .inl (by rw [Lib.decDigits_one (by decide)]; rfl)
 ·exact .inr (h4 h)
theorem tok_itoa (z : Int) : Tok (Lib.itoa z) z := by
 by_cases hz : z < 0
 ·obtain ⟨u, rfl⟩ : ∃ u : Nat, z = -(u : Int) := ⟨z.natAbs, by omega⟩
  have hu : 1 ≤ u := by omega
  rw [Lib.itoa_neg u hu]
  refine .inr ⟨_, rfl, decDigits_run u, ?_, by rw [(decDigits_facts u).2.2.1]⟩
  obtain ⟨d, r, e1, e2⟩ := (decDigits_facts u).2.2.2 hu
  rw [e1]
  intro e
  injection e with e3 e4
  subst e3
  exact e2 (by decide)
 ·obtain ⟨u, rfl⟩ : ∃ u : Nat, z = (u : Int) := ⟨z.natAbs, by omega⟩
  rw [Lib.itoa_nonneg]
  exact .inl ⟨decDigits_run u, by rw [(decDigits_facts u).2.2.1]⟩
theorem run_itoa (n : Nat) : Run (Lib.itoa (n : Int)) ∧ decval (Lib.itoa (n : Int)) = n := by
 rw [Lib.itoa_nonneg]
 exact ⟨decDigits_run n, (decDigits_facts n).2.2.1⟩
open Go.RowKit
theorem bodyT_snoc (c : Nat) (x : List UInt8) : ∀ (l : List (List UInt8)) (t : Nat), bodyT c t (l ++ [x]) = bodyT c t l ++ ((if 0 < t + l.length ∧ (t + l.length) % c = 0 then [59] else []) ++ (32 :: x))
 | [], t => by simp [bodyT]
 | a :: l, t => by
   have := bodyT_snoc c x l (t + 1)
   rw [List.cons_append, bodyT, bodyT, this, List.length_cons, show t + 1 + l.length = t + (l.length + 1) from by omega]
   simp [List.append_assoc]
def toks (r c : Nat) (e : Nat → Nat → Int) : List (List UInt8) := (List.range (r * c)).map fun t => Lib.itoa (e (t / c) (t % c))
def nums (r c : Nat) (e : Nat → Nat → Int) : List Int := (List.range (r * c)).map fun t => e (t / c) (t % c)
theorem toks_next {r c : Nat} (e : Nat → Nat → Int) {i j : Nat} (hi : i < r) (hj : j < c) :
 bodyT c 0 ((toks r c e).take (i * c + j + 1)) = bodyT c 0 ((toks r c e).take (i * c + j)) ++ ((if 0 < i ∧ j = 0 then [59] else []) ++ (32 :: Lib.itoa (e i j))) := by
 have hlt : i * c + j < r * c := by
  have := Nat.mul_le_mul_right c (Nat.succ_le_of_lt hi)
  rw [Nat.succ_mul] at this; omega
 have hl : (toks r c e).length = r * c := by simp [toks]
 rw [List.take_succ_eq_append_getElem (by omega), bodyT_snoc]
 have h1 : (i * c + j) / c = i := by rw [Nat.mul_comm, Nat.mul_add_div (by omega), Nat.div_eq_of_lt hj]; omega
 have h2 : (i * c + j) % c = j := by rw [Nat.mul_comm, Nat.mul_add_mod, Nat.mod_eq_of_lt hj]
 have h3 : (toks r c e)[i * c + j]'(by omega) = Lib.itoa (e i j) := by simp [toks, h1, h2]
 rw [h3, List.length_take, hl, Nat.min_eq_left (by omega), Nat.zero_add]
 simp only [sep_iff hj]
theorem writes_toks (r c : Nat) (e : Nat → Nat → Int) (s : ByteArray) (hb : ∀ i j, i < r → j < c → -9223372036854775808 ≤ e i j ∧ e i j ≤ 9223372036854775807)
 (hs : s.data.toList = Lib.itoa (r : Int) ++ (120 :: (Lib.itoa (c : Int) ++ (58 :: bodyT c 0 (toks r c e))))) : Writes s r c (nums r c e) 21 := by
 refine ⟨_, _, _, hs, (run_itoa r).1, (run_itoa c).1, (run_itoa r).2, (run_itoa c).2, by simp [toks], by simp [nums], fun t ht => ?_⟩
 have h1 : (toks r c e).getD t [] = Lib.itoa (e (t / c) (t % c)) := by simp [toks, List.getD, ht]
 have h2 : (nums r c e).getD t 0 = e (t / c) (t % c) := by simp [nums, List.getD, ht]
 rw [h1, h2]
 refine ⟨tok_itoa _, ?_⟩
 have hc : 0 < c := by rcases Nat.eq_zero_or_pos c with h | h; · subst h; simp at ht
                       ·exact h
 have := hb (t / c) (t % c) (Nat.div_lt_of_lt_mul (by rw [Nat.mul_comm]; exact ht)) (Nat.mod_lt _ hc)
 exact Lib.itoa_length_le _ this.1 this.2
open Go.RowKit
def headT (r c : Nat) : List UInt8 := Lib.itoa (r : Int) ++ (120 :: (Lib.itoa (c : Int) ++ [58]))
theorem head_str (a b : List UInt8) : ((⟨a.toArray⟩ : ByteArray) ++ ⟨[120].toArray⟩ ++ ⟨b.toArray⟩ ++ ⟨[58].toArray⟩) = ⟨(a ++ (120 :: (b ++ [58]))).toArray⟩ := by
 rw [str_app, str_app, str_app]; simp
theorem body_len (c : Nat) : ∀ (l : List (List UInt8)) (t : Nat), (∀ x ∈ l, x.length ≤ 21) → (bodyT c t l).length ≤ 23 * l.length
 | [], _, _ => by simp [bodyT]
 | a :: l, t, h => by
   have h1 := body_len c l (t + 1) (fun x hx => h x (by simp [hx]))
   have h2 := h a (by simp)
   unfold bodyT
   split <;> (simp; omega)
open Go.RowKit
def SmallR (r c : Nat) (e : Nat → Nat → Int) : Prop := ∀ i j, i < r → j < c → -1000000000 ≤ e i j ∧ e i j ≤ 1000000000
def RdM (w : World) (v : Value) (n c : Nat) (e : Nat → Nat → Int) : Prop := ∃ ao cap, v = .slice ao n cap ∧ n ≤ cap ∧ cap ≤ 9223372036854775807 ∧ ∀ i, i < n → ∃ g o, ao = some ⟨g, o, none⟩ ∧ ∃ ro rcap, w.cell? ⟨g, o + i, none⟩ = some (.slice ro c rcap) ∧ c ≤ rcap ∧ rcap ≤ 9223372036854775807 ∧ ∀ j, j < c → ∃ rg rp, ro = some ⟨rg, rp, none⟩ ∧ w.cell? ⟨rg, rp + j, none⟩ = some (.int .i64 (e i j))
theorem RdM.at {w : World} {ao : Option Addr} {cap n c i : Nat} {e : Nat → Nat → Int} (h : RdM w (.slice ao n cap) n c e) (hi : i < n) : ∃ g o, ao = some ⟨g, o, none⟩ ∧ ∃ ro rcap, w.cell? ⟨g, o + i, none⟩ = some (.slice ro c rcap) ∧ c ≤ rcap ∧ rcap ≤ 9223372036854775807 ∧ ∀ j, j < c → ∃ rg rp, ro = some ⟨rg, rp, none⟩ ∧ w.cell? ⟨rg, rp + j, none⟩ = some (.int .i64 (e i j)) := by
 obtain ⟨ao', cap', e1, -, -, h1⟩ := h
 injection e1 with e1 _ _
 subst e1
 exact h1 i hi
theorem cell_lt {w : World} {g o : Nat} {v : Value} (h : w.cell? ⟨g, o, none⟩ = some v) : g < w.heap.size := by
 apply Classical.byContradiction
 intro hn
 unfold World.cell? at h
 rw [Array.getElem?_eq_none (by simpa using hn)] at h
 simp at h
theorem RdM.below {w w' : World} {v : Value} {n c : Nat} {e : Nat → Nat → Int} (h : RdM w v n c e) (hb : Below w.heap.size w w') : RdM w' v n c e := by
 obtain ⟨ao, cap, e1, h1, h2, h3⟩ := h
 refine ⟨ao, cap, e1, h1, h2, fun i hi => ?_⟩
 obtain ⟨g, o, e2, ro, rcap, c0, h4, h5, h6⟩ := h3 i hi
 refine ⟨g, o, e2, ro, rcap, by rw [cell_block (hb.block g (cell_lt c0))]; exact c0, h4, h5, fun j hj => ?_⟩
 obtain ⟨rg, rp, e3, c1⟩ := h6 j hj
 exact ⟨rg, rp, e3, by rw [cell_block (hb.block rg (cell_lt c1))]; exact c1⟩
theorem Mat.rd {B : Nat} {w : World} {v : Value} {n c : Nat} {gs : Nat → Nat} {e : Nat → Nat → Int} (h : Mat B w v n c gs e) (hc : c ≤ 9) : RdM w v n c e := by
 rcases h.shape with ⟨rfl, rfl⟩ | ⟨g, cap, rfl, h1, h2, -, -, -, h3⟩
 ·exact ⟨none, 0, rfl, Nat.le_refl _, by omega, fun i hi => by omega⟩
 ·refine ⟨some ⟨g, 0, none⟩, cap, rfl, h1, h2, fun i hi => ⟨g, 0, rfl, some ⟨gs i, 0, none⟩, c, by rw [Nat.zero_add]; exact (h3 i hi).1, Nat.le_refl _, by omega, fun j hj => ⟨gs i, 0, rfl, ?_⟩⟩⟩
  rw [Nat.zero_add]
  exact (h.2 i hi).cell j hj
set_option maxRecDepth 100000 in
set_option maxHeartbeats 2000000 in
theorem text_rd (ao : Option Addr) (cap r c : Nat) (e : Nat → Nat → Int) (w : World) (h : RdM w (.slice ao r cap) r c e) (hr : r ≤ 9) (hc : c ≤ 9) (hrc : r ≤ cap) (hcap : cap ≤ 9223372036854775807) (hb : SmallR r c e) :
 Calls Tryz.prog 52 #[.slice ao r cap, .int .i64 c] w fun x w' => x = .returned (.string ⟨(headT r c ++ bodyT c 0 (toks r c e)).toArray⟩) ∧ Below w.heap.size w w' := by
 have H := Hid.mk (And.intro h hb)
 clear h hb
 go_enter Tryz.func52, Tryz.ntmps52
 go_wp2_with fail
 refine (number_nat r r _ (Nat.le_refl _) (by omega)).mono ?_
 rintro e1 w1 ⟨rfl, hb1⟩
 have hl1 : (Lib.itoa (r : Int)).length ≤ 21 := Lib.itoa_length_le _ (by omega) (by omega)
 generalize hT1 : Lib.itoa (r : Int) = T1 at *
 have HT1 := Hid.mk hT1
 have HB1 := Hid.mk hb1
 clear hT1 hb1
 go_wp2_with fail
 refine (number_nat c c _ (Nat.le_refl _) (by omega)).mono ?_
 rintro e2 w2 ⟨rfl, hb2⟩
 have hl2 : (Lib.itoa (c : Int)).length ≤ 21 := Lib.itoa_length_le _ (by omega) (by omega)
 generalize hT2 : Lib.itoa (c : Int) = T2 at *
 have HT2 := Hid.mk hT2
 have HB2 := Hid.mk (HB1.out.trans (hb2.mono HB1.out.size))
 clear hT2 hb2 HB1
 go_wp2_with fail
 go_loopw [7, 8] (fun v i wr => ∃ (k : Nat) (T : List UInt8), k ≤ r ∧ i = .int .i64 k ∧ v = .string ⟨T.toArray⟩ ∧ T.length ≤ 100 + 30 * (k * 9) ∧ Below w.heap.size w wr ∧ Hid (T = headT r c ++ bodyT c 0 ((toks r c e).take (k * c)))) (fun _ i _ => r - (intOf i).toNat)
 case atStart =>
  refine ⟨0, headT r c, Nat.zero_le _, rfl, ?_, ?_, HB2.out, Hid.mk ?_⟩
  ·unfold headT; rw [HT1.out, HT2.out]; exact val_str (head_str T1 T2)
  ·unfold headT; rw [HT1.out, HT2.out]; simp; omega
  ·simp [bodyT]
 case round =>
  obtain ⟨k, T, hk, rfl, rfl, hT, hB, HT⟩ := hrel
  have HBB := Hid.mk hB
  clear hB
  by_cases hkr : k < r
  ·go_wp2_with fail
   go_loopw [7, 9] (fun v i wr => ∃ (j : Nat) (T : List UInt8), j ≤ c ∧ i = .int .i64 j ∧ v = .string ⟨T.toArray⟩ ∧ T.length ≤ 100 + 30 * (k * 9 + j) ∧ Below w.heap.size w wr ∧ Hid (T = headT r c ++ bodyT c 0 ((toks r c e).take (k * c + j)))) (fun _ i _ => c - (intOf i).toNat)
   case atStart => exact ⟨0, T, Nat.zero_le _, rfl, rfl, by omega, HBB.out, Hid.mk (by simpa using HT.out)⟩
   case round =>
    clear HBB
    obtain ⟨j, T', hj, rfl, rfl, hT', hB, HT'⟩ := hrel
    have HBB := Hid.mk hB
    clear hB
    by_cases hjc : j < c
    ·obtain ⟨g, o, rfl, ro, rcap, c0, hrc1, hrc2, c1f⟩ := (H.out.1.below HBB.out).at hkr
     obtain ⟨G, oj, rfl, c1⟩ := c1f j hjc
     clear c1f
     have bb := H.out.2 k j hkr hjc
     have hnx := toks_next e hkr hjc
     generalize hz : e k j = z at c1 bb hnx
     obtain ⟨b1, b2⟩ := bb
     have hlz : (Lib.itoa z).length ≤ 21 := Lib.itoa_length_le _ (by omega) (by omega)
     have HNX := Hid.mk hnx
     clear hz hnx
     by_cases hs : 0 < k ∧ j = 0
     ·have hj0 : ((j : Int) == 0) = true := beq_iff_eq.2 (by omega)
      have hk0 : 0 < k := hs.1
      have HS := Hid.mk hs
      clear hs
      go_wp2_with fail
      refine (number_any z _ (by omega) (by omega)).mono ?_
      rintro e3 w3 ⟨rfl, hb3⟩
      generalize hT3 : Lib.itoa z = T3 at *
      have HT3 := Hid.mk hT3
      have HB3 := Hid.mk (HBB.out.trans (hb3.mono HBB.out.size))
      clear hT3 hb3 HBB
      go_wp2_with fail
      go_roundw
      case measure => simp [intOf]; omega
      case rel =>
       refine ⟨j + 1, T' ++ ([59] ++ (32 :: T3)), by omega, by go_num, ?_, by simp; omega, HB3.out, Hid.mk ?_⟩
       ·refine val_str ?_
        rw [show T' ++ ([59] ++ (32 :: T3)) = (T' ++ [59]) ++ [32] ++ T3 from by simp, ← str_app, ← str_app, ← str_app]
       ·have h1 := HNX.out
        rw [if_pos HS.out] at h1
        rw [← Nat.add_assoc, h1, HT'.out]; simp
     ·have HS := Hid.mk hs
      by_cases hj00 : j = 0
      ·have hj0 : ((j : Int) == 0) = true := beq_iff_eq.2 (by omega)
       have hk0 : decide (0 < k) = false := by simp; omega
       clear hs hj00
       go_wp2_with fail
       refine (number_any z _ (by omega) (by omega)).mono ?_
       rintro e3 w3 ⟨rfl, hb3⟩
       generalize hT3 : Lib.itoa z = T3 at *
       have HT3 := Hid.mk hT3
       have HB3 := Hid.mk (HBB.out.trans (hb3.mono HBB.out.size))
       clear hT3 hb3 HBB
       go_wp2_with fail
       go_roundw
       case measure => simp [intOf]; omega
       case rel =>
        refine ⟨j + 1, T' ++ (32 :: T3), by omega, by go_num, ?_, by simp; omega, HB3.out, Hid.mk ?_⟩
        ·refine val_str ?_
         rw [show T' ++ (32 :: T3) = T' ++ [32] ++ T3 from by simp, ← str_app, ← str_app]
        ·have h1 := HNX.out
         rw [if_neg HS.out] at h1
         rw [← Nat.add_assoc, h1, HT'.out]; simp
      ·have hj0 : ((j : Int) == 0) = false := beq_eq_false_iff_ne.2 (by omega)
       clear hs hj00
       go_wp2_with fail
       refine (number_any z _ (by omega) (by omega)).mono ?_
       rintro e3 w3 ⟨rfl, hb3⟩
       generalize hT3 : Lib.itoa z = T3 at *
       have HT3 := Hid.mk hT3
       have HB3 := Hid.mk (HBB.out.trans (hb3.mono HBB.out.size))
       clear hT3 hb3 HBB
       go_wp2_with fail
       go_roundw
       case measure => simp [intOf]; omega
       case rel =>
        refine ⟨j + 1, T' ++ (32 :: T3), by omega, by go_num, ?_, by simp; omega, HB3.out, Hid.mk ?_⟩
        ·refine val_str ?_
         rw [show T' ++ (32 :: T3) = T' ++ [32] ++ T3 from by simp, ← str_app, ← str_app]
        ·have h1 := HNX.out
         rw [if_neg HS.out] at h1
         rw [← Nat.add_assoc, h1, HT'.out]; simp
    ·have hje : j = c := by omega
     have HJ := Hid.mk hje
     clear hje
     go_wp2_with fail
     go_roundw
     case measure => simp [intOf]; omega
     case rel =>
      refine ⟨k + 1, T', by omega, by go_num, rfl, by omega, HBB.out, Hid.mk ?_⟩
      rw [HT'.out, HJ.out, Nat.succ_mul]
  ·have hke : k = r := by omega
   have HK := Hid.mk hke
   clear hke
   go_wp2_with fail
   go_ret
   refine ⟨ret_str ?_, HBB.out⟩
   rw [HT.out, HK.out, List.take_of_length_le (by simp [toks])]
open Go.RowKit
theorem Writes.wide {s : ByteArray} {r c L L' : Nat} {zs : List Int} (h : Writes s r c zs L) (hL : L ≤ L') : Writes s r c zs L' := by
 obtain ⟨dr, dc, tks, h1, h2, h3, h4, h5, h6, h7, h8⟩ := h
 exact ⟨dr, dc, tks, h1, h2, h3, h4, h5, h6, h7, fun t ht => ⟨(h8 t ht).1, Nat.le_trans (h8 t ht).2 hL⟩⟩
theorem rect_writes (r c : Nat) (e : Nat → Nat → Int) (hb : SmallR r c e) : Writes ⟨(headT r c ++ bodyT c 0 (toks r c e)).toArray⟩ r c (nums r c e) 4000 := by
 refine (writes_toks r c e _ (fun i j hi hj => ?_) ?_).wide (by omega)
 ·have := hb i j hi hj; omega
 ·simp [headT]
theorem rect_div {r c t : Nat} (ht : t < r * c) : t / c < r ∧ t % c < c := by
 have hc : 0 < c := by
  rcases Nat.eq_zero_or_pos c with h | h
  ·subst h; simp at ht
  ·exact h
 exact ⟨Nat.div_lt_of_lt_mul (by rw [Nat.mul_comm]; exact ht), Nat.mod_lt _ hc⟩
theorem rect_len (r c : Nat) (e : Nat → Nat → Int) (hr : r ≤ 4) (hc : c ≤ 4) (hb : SmallR r c e) : (⟨(headT r c ++ bodyT c 0 (toks r c e)).toArray⟩ : ByteArray).size ≤ 4000 := by
 have h1 : (bodyT c 0 (toks r c e)).length ≤ 23 * (toks r c e).length := by
  refine body_len c _ 0 (fun x hx => ?_)
  obtain ⟨t, ht, rfl⟩ := List.mem_map.1 hx
  have ht := rect_div (List.mem_range.1 ht)
  have := hb (t / c) (t % c) ht.1 ht.2
  exact Lib.itoa_length_le _ (by omega) (by omega)
 have h2 : (toks r c e).length ≤ 16 := by
  have : r * c ≤ 4 * 4 := Nat.mul_le_mul hr hc
  simp [toks]; omega
 have h3 : (Lib.itoa (r : Int)).length ≤ 21 := Lib.itoa_length_le _ (by omega) (by omega)
 have h4 : (Lib.itoa (c : Int)).length ≤ 21 := Lib.itoa_length_le _ (by omega) (by omega)
 show (headT r c ++ bodyT c 0 (toks r c e)).toArray.size ≤ 4000
 simp [headT]; omega
theorem nums_get {r c t : Nat} (e : Nat → Nat → Int) (ht : t < r * c) : (nums r c e).getD t 0 = e (t / c) (t % c) := by simp [nums, List.getD, ht]
theorem nums_ent {r c i j : Nat} (e : Nat → Nat → Int) (hi : i < r) (hj : j < c) : ent c (nums r c e) i j = e i j := by
 have hlt : i * c + j < r * c := by
  have := Nat.mul_le_mul_right c (Nat.succ_le_of_lt hi)
  rw [Nat.succ_mul] at this; omega
 have h1 : (i * c + j) / c = i := by rw [Nat.mul_comm, Nat.mul_add_div (by omega), Nat.div_eq_of_lt hj]; omega
 have h2 : (i * c + j) % c = j := by rw [Nat.mul_comm, Nat.mul_add_mod, Nat.mod_eq_of_lt hj]
 unfold ent
 rw [nums_get e hlt, h1, h2]
theorem nums_fits {r c : Nat} {e : Nat → Nat → Int} (hr : r ≤ 4) (hc : c ≤ 4) (hb : SmallR r c e) : FitsP r c (nums r c e) := by
 refine ⟨hr, hc, fun t ht => ?_⟩
 have h1 := rect_div ht
 rw [nums_get e ht]
 have := hb _ _ h1.1 h1.2
 omega
def KL (B : Nat) (w : World) (d b : Nat) (l : List KMx) : Prop := KS B w d b (stk l) l.length
theorem KL.below {B : Nat} {w w' : World} {d b : Nat} {l : List KMx} (h : KL B w d b l) (hb : Below w.heap.size w w') : KL B w' d b l := KS.below h hb
set_option maxRecDepth 100000 in
set_option maxHeartbeats 1000000 in
theorem put_stk (B d b r c : Nat) (v : Value) (e : Nat → Nat → Int) (l : List KMx) (w : World) (hk : KL B w d b l) (hl : l.length < 24) (hm : RdM w v r c e) (hr : r ≤ 4) (hc : c ≤ 4) (hs : SmallR r c e) :
 Calls Tryz.prog 26 #[.pointer (some ⟨d, 0, none⟩), v, .int .i64 c] w fun x w' => x = .returned (.int .i64 (l.length : Nat)) ∧ KL B w' d b (l ++ [(r, c, nums r c e)]) ∧ Fr b w w' := by
 have hdl := hk.dk.lt
 obtain ⟨ao, cap, rfl, hrc, hcap⟩ : ∃ ao cap, v = .slice ao r cap ∧ r ≤ cap ∧ cap ≤ 9223372036854775807 := by
  obtain ⟨ao, cap, h1, h2, h3, -⟩ := hm
  exact ⟨ao, cap, h1, h2, h3⟩
 have H := Hid.mk (And.intro hk (And.intro hm hs))
 clear hk hm hs
 go_enter Tryz.func26, Tryz.ntmps26
 go_wp2_with fail
 refine (text_rd ao cap r c e _ H.out.2.1 (by omega) (by omega) hrc hcap H.out.2.2).mono ?_
 rintro x w1 ⟨rfl, hb1⟩
 have hlen := rect_len r c e hr hc H.out.2.2
 have hwr := rect_writes r c e H.out.2.2
 generalize (⟨(headT r c ++ bodyT c 0 (toks r c e)).toArray⟩ : ByteArray) = S at *
 have K1 := Hid.mk (And.intro (H.out.1.below hb1) (And.intro hb1 hwr))
 have c0 := K1.out.1.dk.cell
 clear hb1 hwr
 go_wp2_with fail
 refine (type_yes b S r c (nums r c e) (stk l) l.length _ K1.out.1.held (by omega) hlen (by omega) (by omega) K1.out.2.2).mono ?_
 rintro x w2 ⟨h, e', rfl, ho⟩
 rcases ho with ⟨-, -, hn, -⟩ | ⟨-, -, -, hf, -⟩ | ⟨rfl, rfl, -, ⟨i, hi, hH⟩, hF⟩
 ·exact absurd (nums_fits hr hc H.out.2.2) hn
 ·exact (stk_room hl hf).elim
 ·rw [stk_put hl _ hi] at hH
  have K2 := Hid.mk (And.intro (K1.out.1.step hH hF) ((Fr.of_below (p := b) K1.out.2.1).trans hF))
  clear hH hF hi c0
  go_wp2_with fail
  go_ret
  refine ⟨rfl, ?_, K2.out.2⟩
  have := K2.out.1
  unfold KL
  rw [List.length_append]
  exact this
open Go.RowKit
open Go.RowKit
open Go.RowKit
open Go.RowKit
theorem KL.put1 {B : Nat} {w w' : World} {d b : Nat} {l : List KMx} {x : KMx} (h : KL B w d b l) (hl : l.length < 24) {n : Nat} (hn : FreeAt (stk l) n) (hH : Held w' b ((stk l).set n (some (l.length, x))) (l.length + 1)) (hF : Fr b w w') : KL B w' d b (l ++ [x]) := by
 rw [stk_put hl x hn] at hH
 unfold KL
 rw [List.length_append]
 exact KS.step h hH hF
theorem KL.same {B : Nat} {w w' : World} {d b : Nat} {l : List KMx} (h : KL B w d b l) (hH : Held w' b (stk l) l.length) (hF : Fr b w w') : KL B w' d b l := KS.step h hH hF
theorem times_stk (B d b g h r q c : Nat) (zs ys : List Int) (l : List KMx) (w : World) (hk : KL B w d b l) (hl : l.length < 24) (hg : l[g]? = some (r, q, zs)) (hh : l[h]? = some (q, c, ys)) :
 Calls Tryz.prog 48 #[.pointer (some ⟨b, 0, none⟩), .int .i64 g, .int .i64 h] w fun x w' => ∃ k e : Int, x = .returned (.tuple #[.int .i64 k, .int .i64 e]) ∧
  ((¬ (FitsP r q zs ∧ FitsP q c ys) ∧ k = -1 ∧ e = 4 ∧ KL B w' d b l) ∨ ((FitsP r q zs ∧ FitsP q c ys) ∧ k = (l.length : Int) ∧ e = 0 ∧ KL B w' d b (l ++ [(r, c, prodL r q c zs ys)]))) ∧ Fr b w w' := by
 refine (times_one b g h (stk l) l.length w hk.held (by omega)).mono ?_
 rintro x w' ⟨k, e, ms', nx', rfl, hrel, hH, hF⟩
 refine ⟨k, e, rfl, ?_, hF⟩
 rcases hrel with ⟨h1, -⟩ | ⟨i, hd, r1, q1, zs1, j, hd', q', c1, ys1, hi, hx, hxk, hj, hy, hyk, hrel⟩
 ·rcases h1 with h1 | h1
  ·exact (stk_no (by omega) hg h1).elim
  ·exact (stk_no (by omega) hh h1).elim
 ·have e1 := stk_is hi hx hxk hg
  have e2 := stk_is hj hy hyk hh
  simp only [Prod.mk.injEq] at e1 e2
  obtain ⟨rfl, rfl, rfl⟩ := e1
  obtain ⟨rfl, rfl, rfl⟩ := e2
  rcases hrel with ⟨h1, -⟩ | ⟨-, h1, h2, h3, rfl, rfl⟩ | ⟨-, -, h1, -⟩ | ⟨-, h0, h1, h2, n, h3, rfl, rfl⟩
  ·exact absurd rfl h1
  ·exact .inl ⟨h1, h2, h3, hk.same hH hF⟩
  ·exact (stk_room hl h1).elim
  ·exact .inr ⟨h0, h1, h2, hk.put1 hl h3 hH hF⟩
theorem shown_stk (B d b g r c : Nat) (zs : List Int) (l : List KMx) (w : World) (hk : KL B w d b l) (hl : l.length ≤ 24) (hg : l[g]? = some (r, c, zs)) :
 Calls Tryz.prog 20 #[.pointer (some ⟨d, 0, none⟩), .int .i64 g] w fun x w' => x = .returned (.string ⟨(matT r c zs).toArray⟩) ∧ Below w.heap.size w w' := by
 refine (shown_any B d b g (stk l) l.length w hk).mono ?_
 rintro x w' ⟨t, rfl, ⟨t0, e0, hs, ht⟩, hb⟩
 rcases hs with ⟨rfl, i, ⟨hd, r1, c1, zs1⟩, hi, hx, hxk, h1⟩ | ⟨-, -, hn⟩
 ·have e1 := stk_is hi hx hxk hg
  simp only [Prod.mk.injEq] at e1
  obtain ⟨rfl, rfl, rfl⟩ := e1
  rcases ht with ⟨-, rfl⟩ | ⟨h2, -⟩
  ·rw [h1]; exact ⟨rfl, hb⟩
  ·exact absurd rfl h2
 ·exact (stk_no hl hg hn).elim
theorem shown_out (B d b : Nat) (h : Int) (l : List KMx) (w : World) (hk : KL B w d b l) :
 Calls Tryz.prog 20 #[.pointer (some ⟨d, 0, none⟩), .int .i64 h] w fun x w' => (∃ t, x = .returned (.string ⟨t⟩)) ∧ Below w.heap.size w w' := by
 refine (shown_any B d b h (stk l) l.length w hk).mono ?_
 rintro x w' ⟨t, rfl, -, hb⟩
 exact ⟨⟨_, rfl⟩, hb⟩
open Go.RowKit
open Go.RowKit
abbrev put3 (w : World) (p o : Nat) (x y z : Value) : World := ((w.setCell ⟨p, o, none⟩ x).setCell ⟨p, o + 1, none⟩ y).setCell ⟨p, o + 2, none⟩ z
theorem put3_fr {w : World} {p : Nat} {t : TypeId} (ht : Ty w p t) (h1 : t ≠ 144) (h2 : t ≠ 79) (o : Nat) (x y z : Value) : Fr p w (put3 w p o x y z) :=
 ⟨grown_trans (grown_trans (grown_cell _ _ _ _) (grown_cell _ _ _ _)) (grown_cell _ _ _ _), KT.setCell (KT.setCell (KT.setCell (KT.refl _) ht h1 h2 x) (ht.setCell ⟨p, o, none⟩ x) h1 h2 y) ((ht.setCell ⟨p, o, none⟩ x).setCell ⟨p, o + 1, none⟩ y) h1 h2 z⟩
theorem IsM.fr {w w' : World} {v : Value} {r c L p : Nat} {zs : List Int} (h : IsM w v r c zs L) (hf : Fr p w w') : IsM w' v r c zs L := h.keepT hf.2
theorem IsM.lng {w : World} {v : Value} {r c L : Nat} {zs : List Int} (h : IsM w v r c zs L) : zs.length = r * c := by
 obtain ⟨_, _, sl, _, h3⟩ := h
 exact h3.1
open Go.RowKit
open Go.RowKit
end Go.Proofs.YtfjbijpagaipnabGreatDoor
