import Derived.Test.YtfjbijpagaipnaaGreatDoorC28
import Derived.Test.YtfjbijpagaipnaaGreatDoorC35
import Derived.Deep.RegionLawGrows
import Derived.StillTailTactics
import Derived.Test.YtfjbijpagaipnaaGreatDoorC10
import Derived.Test.YtfjbijpagaipnaaGreatDoorC29
import Derived.Test.YtfjbijpagaipnaaGreatDoorC11
import Derived.Deep.RegionHeld3
import Derived.Test.YtfjbijpagaipnaaGreatDoorC34
namespace Go.Proofs.YtfjbijpagaipnaaGreatDoor.R
open Go.RowKit
theorem below_grown {B p : Nat} {w w' : World} (h : w.grownBy w' (some p)) (hp : B ≤ p) (hB : B ≤ w.heap.size) : Below B w w' := ⟨h.os, h.tape, h.output, h.size, fun k hk => h.block k (by omega) (by intro e; injection e with e; omega)⟩
set_option maxRecDepth 100000 in
set_option maxHeartbeats 4000000 in
theorem over_any (b b' r q c : Nat) (gs gs' : Nat → Nat) (f f' : Nat → Nat → Int) (B B' L : Nat) (w : World) (h : IsR B w b r c gs f L) (h' : IsR B' w b' q c gs' f' L) (hr : r + q ≤ 99) (hc : c ≤ 99) :
 Calls Tryz.prog 131 #[.pointer (some ⟨b, 0, none⟩), .pointer (some ⟨b', 0, none⟩)] w fun e w' => e = .returned (.pointer (some ⟨w.heap.size, 0, none⟩)) ∧ (∃ go, IsR 0 w' w.heap.size (r + q) c go (ov r f f') L) ∧ Below w.heap.size w w' := by
 have H := Hid.mk (And.intro h h')
 obtain ⟨hbl, ao, cap, c0, c1, c2, -⟩ := h.open_
 obtain ⟨hbl', ao', cap', d0, d1, d2, -⟩ := h'.open_
 clear h h'
 obtain ⟨R, hR⟩ : ∃ R, R = r + q := ⟨_, rfl⟩
 have hRi : (r : Int) + (q : Int) = (R : Int) := by omega
 have HR := Hid.mk hR
 rw [← hR] at hr ⊢
 clear hR
 go_enter Tryz.func131, Tryz.ntmps131
 go_upto_region 1 with fail
 go_still_tail 13, (by kernel_rfl)
 go_wp2_with fail
 refine (empty_any R c _ (by omega) hc).mono ?_
 rintro e w2 ⟨rfl, ⟨go, hI⟩, hb2⟩
 have hbc : Below w.heap.size w w2 := (Below.refl w.heap.size w).drew.trans hb2
 have hgo := hI.rowsAt
 have HGO := Hid.mk hgo
 have H0 := Hid.mk (And.intro ((hI.weak (Nat.zero_le _)).mono (Nat.zero_le L)) hbc)
 clear hI hb2 hbc hgo c0 c1 c2 d0 d1 d2
 go_wp2_with fail
 go_loopw [6] (fun i wr => ∃ (a : Nat) (g : Nat → Nat → Int), a ≤ r ∧ i = .int .i64 a ∧ IsR 0 wr w.heap.size R c go g L ∧ Below w.heap.size w wr ∧ Hid (∀ i j, i < a → g i j = f i j)) (fun i _ => r - (intOf i).toNat)
 case atStart => exact ⟨0, _, Nat.zero_le _, rfl, H0.out.1, H0.out.2, Hid.mk (fun i j h => by omega)⟩
 case round =>
  rename World => wi
  obtain ⟨a, g, ha, rfl, hI, hbel, HU⟩ := hrel
  obtain ⟨-, ao, cap, c0, c1, c2, c3, c4, c5, -⟩ := (H.out.1.keep (KR.of_below hbel)).open_
  obtain ⟨-, ao', cap', d0, d1, d2, d3, d4, d5, -⟩ := hI.open_
  have HB := Hid.mk (And.intro hI hbel)
  have hwi := hbel.size
  clear hI hbel
  by_cases har : a < r
  ·have hai : (a : Int) < (r : Int) := by omega
   have haR : a < R := by have := HR.out; omega
   obtain ⟨gL, rfl, y1⟩ := d5 a haR
   obtain ⟨gM, rfl, x1⟩ := c5 a har
   have S := Hid.mk (And.intro (HB.out.1.row haR) ((H.out.1.keep (KR.of_below HB.out.2)).row har))
   clear c5 d5
   go_wp2_with fail
   go_region_law (refine step_copy_n rfl (.tmp 36) (.tmp 43) rfl (go a) (gs a) c (f a) (g a) L L rfl rfl S.out.1 S.out.2 ?_; intro w3 hrow hgr)
   all_goals
    go_wp2_with fail
    go_roundw
    case measure => simp [intOf]; omega
    case rel =>
     have hge := (HGO.out a haR).1
     exact ⟨a + 1, _, by omega, by go_num, IsR.rowed (w := wi.drew) HB.out.1 haR hrow hgr, HB.out.2.drew.trans (below_grown hgr hge hwi), Hid.mk (fun i j hi => by
      show (if i = a then f a j else g i j) = f i j
      by_cases e : i = a
      ·rw [if_pos e, e]
      ·rw [if_neg e]; exact HU.out i j (by omega))⟩
  ·have hae : a = r := by omega
   subst hae
   clear c3 c4 c5 d3 d4 d5 d0 d1 d2
   go_wp2_with fail
   clear c0 c1 c2
   go_loopw [7] (fun i wr => ∃ (k : Nat) (g' : Nat → Nat → Int), k ≤ q ∧ i = .int .i64 k ∧ IsR 0 wr w.heap.size R c go g' L ∧ Below w.heap.size w wr ∧ Hid (∀ i j, i < a + k → g' i j = ov a f f' i j)) (fun i _ => q - (intOf i).toNat)
   case atStart => exact ⟨0, g, Nat.zero_le _, rfl, HB.out.1, HB.out.2, Hid.mk (fun i j h => by unfold ov; rw [if_pos (by omega)]; exact HU.out i j (by omega))⟩
   case round =>
    rename World => wj
    obtain ⟨k, g', hk, rfl, hI, hbel, HV⟩ := hrel
    obtain ⟨-, ao, cap, c0, c1, c2, -⟩ := (H.out.1.keep (KR.of_below hbel)).open_
    obtain ⟨-, ao', cap', d0, d1, d2, d3, d4, d5, -⟩ := hI.open_
    obtain ⟨-, ao2, cap2, e0, e1, e2, e3, e4, e5, -⟩ := (H.out.2.keep (KR.of_below hbel)).open_
    have HC := Hid.mk (And.intro hI hbel)
    have hwj := hbel.size
    clear hI hbel
    by_cases hkq : k < q
    ·have hki : (k : Int) < (q : Int) := by omega
     obtain ⟨A, hA⟩ : ∃ A, A = a + k := ⟨_, rfl⟩
     have hkR : A < R := by have := HR.out; omega
     obtain ⟨gL, rfl, y1⟩ := d5 A hkR
     obtain ⟨gM, rfl, x1⟩ := e5 k hkq
     have hsum : (a : Int) + (k : Int) = (A : Int) := by omega
     have hwA : IntKind.i64.wrap (A : Int) = (A : Int) := IntWalk.i64_in _ (by omega)
     have hAR : (A : Int) < (R : Int) := by omega
     have S := Hid.mk (And.intro (HC.out.1.row hkR) ((H.out.2.keep (KR.of_below HC.out.2)).row hkq))
     have HA := Hid.mk hA
     clear d5 e5 hA
     go_wp2_with fail
     go_region_law (refine step_copy_n rfl (.tmp 64) (.tmp 71) rfl (go A) (gs' k) c (f' k) (g' A) L L rfl rfl S.out.1 S.out.2 ?_; intro w3 hrow hgr)
     all_goals
      go_wp2_with fail
      go_roundw
      case measure => simp [intOf]; omega
      case rel =>
       have hge := (HGO.out A hkR).1
       have hA := HA.out
       exact ⟨k + 1, _, by omega, by go_num, IsR.rowed (w := wj.drew) HC.out.1 hkR hrow hgr, HC.out.2.drew.trans (below_grown hgr hge hwj), Hid.mk (fun i j hi => by
        show (if i = A then f' k j else g' i j) = ov a f f' i j
        by_cases e : i = A
        ·rw [if_pos e, e, hA]
         unfold ov
         rw [if_neg (by omega), Nat.add_sub_cancel_left]
        ·rw [if_neg e]; exact HV.out i j (by omega))⟩
    ·go_wp2_with fail
     go_ret
     refine ⟨rfl, ⟨go, ?_⟩, HC.out.2⟩
     have hkq2 : k = q := by omega
     subst hkq2
     refine HC.out.1.congr fun i j hi _ => ?_
     exact HV.out i j (by have := HR.out; omega)
end Go.Proofs.YtfjbijpagaipnaaGreatDoor.R
namespace Go.Proofs.YtfjbijpagaipnaaGreatDoor
open Go.RowKit
def FoundM (w : World) (ms : List Hm) (g : Int) (r q : Nat) (v : Value) (ok : Bool) : Prop := (ok = true ∧ ∃ i hd zs, i < 24 ∧ ms.getD i none = some (hd, r, q, zs) ∧ (hd : Int) = g ∧ IsM w v r q zs 200000000) ∨ (ok = false ∧ ∀ k, k < 24 → ∀ x, ms.getD k none = some x → (x.1 : Int) ≠ g)
theorem FoundM.below {w w' : World} {ms : List Hm} {g : Int} {r q : Nat} {v : Value} {ok : Bool} (h : FoundM w ms g r q v ok) (hb : Below w.heap.size w w') : FoundM w' ms g r q v ok := by
 rcases h with ⟨h1, i, hd, zs, h2, h3, h4, h5⟩ | h
 ·exact .inl ⟨h1, i, hd, zs, h2, h3, h4, h5.below hb⟩
 ·exact .inr h
theorem find_held (b : Nat) (g : Int) (ms : List Hm) (nx : Nat) (w : World) (hst : Held w b ms nx) :
 Calls Tryz.prog 41 #[.pointer (some ⟨b, 0, none⟩), .int .i64 g] w fun e w' => (∃ r q ao n cap ok, e = .returned (.tuple #[.agg #[.int .i64 ((r : Nat) : Int), .int .i64 ((q : Nat) : Int), .slice ao n cap], .bool ok]) ∧ FoundM w' ms g r q (.agg #[.int .i64 (r : Nat), .int .i64 (q : Nat), .slice ao n cap]) ok) ∧ Below w.heap.size w w' := by
 obtain ⟨hm24, -, sl, hsg, hsl⟩ := hst
 have hsh : ∀ k x, sl.getD k none = some x → ∃ ao n cap, x.2.2.2 = .slice ao n cap := fun k x hx => by
  have hk := getD_past24 hsg.1 hx
  have h1 := hsl k hk
  rw [hx] at h1
  exact h1.shape
 refine (find_any b g sl nx w hsg hsh).mono ?_
 rintro e w1 ⟨⟨v, ok, rfl, hf⟩, hb1⟩
 refine ⟨?_, hb1⟩
 rcases hf with ⟨rfl, k, hk, x, hx, hxh, rfl⟩ | ⟨rfl, rfl, hno⟩
 ·obtain ⟨y, hy, e1, e2, e3, hM⟩ := some_of hsl hk hx
  obtain ⟨ao, n, cap, hv⟩ := hsh k x hx
  obtain ⟨hd, r, c, v⟩ := x
  obtain ⟨hd', r', c', zs⟩ := y
  simp only at e1 e2 e3 hM hv hxh
  subst e1; subst e2; subst e3; subst hv
  exact ⟨r, c, ao, n, cap, true, rfl, .inl ⟨rfl, k, hd, zs, hk, hy, hxh, hM.below hb1⟩⟩
 ·exact ⟨0, 0, none, 0, 0, false, rfl, .inr ⟨rfl, none_of hsl hno⟩⟩
theorem keep_held (b r c : Nat) (ao : Option Addr) (m cap : Nat) (zs : List Int) (ms : List Hm) (nx n : Nat) (w : World) (hst : Held w b ms nx) (hM : IsM w (.agg #[.int .i64 r, .int .i64 c, .slice ao m cap]) r c zs 200000000) (hn : FreeAt ms n) (hnx : nx < 1000000) :
 Calls Tryz.prog 48 #[.pointer (some ⟨b, 0, none⟩), .agg #[.int .i64 r, .int .i64 c, .slice ao m cap]] w fun e w' => e = .returned (.int .i64 (nx : Nat)) ∧ Held w' b (ms.set n (some (nx, r, c, zs))) (nx + 1) ∧ Fr b w w' := by
 obtain ⟨hm24, -, sl, hsg, hsl⟩ := hst
 have hff : FirstFree sl n := ⟨hn.1, (hsl n hn.1).none_iff.2 hn.2.1, fun j hj e => hn.2.2 j hj ((hsl j (by have := hn.1; omega)).none_iff.1 e)⟩
 refine (keep_any b r c ao m cap sl nx n w hsg hff (by omega)).mono ?_
 rintro e w3 ⟨rfl, hS3, hF3⟩
 refine ⟨rfl, ⟨by simp [hm24], by omega, _, hS3, fun i hi => ?_⟩, hF3⟩
 rw [slt_set (by have := hsg.1; have := hff.1; omega), hm_set (by have := hff.1; omega)]
 by_cases hin : i = n
 ·rw [if_pos hin, if_pos hin]
  exact ⟨rfl, rfl, rfl, hM.keepT hF3.2⟩
 ·rw [if_neg hin, if_neg hin]
  exact (hsl i hi).keep hF3.2
theorem room_held (b : Nat) (ms : List Hm) (nx : Nat) (w : World) (hst : Held w b ms nx) :
 Calls Tryz.prog 47 #[.pointer (some ⟨b, 0, none⟩)] w fun e w' => e = .returned (.int .i64 ((ms.countP Option.isNone : Nat) : Int)) ∧ w' = w := by
 obtain ⟨hm24, -, sl, hsg, hsl⟩ := hst
 refine (room_any b sl nx w hsg).mono ?_
 rintro e w' ⟨rfl, rfl⟩
 refine ⟨?_, rfl⟩
 have key : ∀ (a : List Slt) (m : List Hm), a.length = m.length → (∀ i, i < a.length → ((a.getD i none).isNone = (m.getD i none).isNone)) → a.countP Option.isNone = m.countP Option.isNone := by
  intro a
  induction a with
  | nil => intro m hl _; cases m with
    | nil => rfl
    | cons => simp at hl
  | cons x a ih => intro m hl h; cases m with
    | nil => simp at hl
    | cons y m =>
      have h0 := h 0 (by simp)
      have h1 := ih m (by simpa using hl) (fun i hi => by have := h (i + 1) (by simpa using hi); simpa using this)
      rw [List.countP_cons, List.countP_cons, h1]
      simp at h0
      rw [h0]
 rw [key sl ms (by rw [hsg.1, hm24]) (fun i hi => by
  have h1 := (hsl i (by have := hsg.1; omega)).none_iff
  cases hx : sl.getD i none with
  | none => rw [h1.1 hx]; rfl
  | some x => cases hy : ms.getD i none with
    | none => rw [h1.2 hy] at hx; cases hx
    | some y => rfl)]
open Go.RowKit
def ProdTo (r q c a e : Nat) (zs ys ms : List Int) : Prop := ∀ i j, i < r → j < c → (i < a ∨ (i = a ∧ j < e)) → ms.getD (i * c + j) 0 = dot (fun i j => zs.getD (i * q + j) 0) (fun i j => ys.getD (i * c + j) 0) i j q
theorem ProdTo.step {r q c a e : Nat} {zs ys ms : List Int} (h : ProdTo r q c a e zs ys ms) (hl : ms.length = r * c) (ha : a < r) (he : e < c) {z : Int} (hz : z = dot (fun i j => zs.getD (i * q + j) 0) (fun i j => ys.getD (i * c + j) 0) a e q) : ProdTo r q c a (e + 1) zs ys (ms.set (a * c + e) z) := by
 intro i j hi hj hd
 by_cases hij : i = a ∧ j = e
 ·obtain ⟨rfl, rfl⟩ := hij
  have : i * c + j < ms.length := by rw [hl]; exact idx_lt hi hj
  rw [← hz]
  simp [List.getD, this]
 ·have hne : a * c + e ≠ i * c + j := fun e' => by
   obtain ⟨h1, h2⟩ := idx_inj he hj e'
   exact hij ⟨h1.symm, h2.symm⟩
  rw [show (ms.set (a * c + e) z).getD (i * c + j) 0 = ms.getD (i * c + j) 0 from by simp [List.getD, List.getElem?_set_ne hne]]
  exact h i j hi hj (by omega)
theorem ProdTo.row {r q c a e : Nat} {zs ys ms : List Int} (h : ProdTo r q c a e zs ys ms) (he : c ≤ e) : ProdTo r q c (a + 1) 0 zs ys ms := fun i j hi hj hd => h i j hi hj (by omega)
def ProdOf (r q c : Nat) (zs ys ms : List Int) : Prop := ∀ i j, i < r → j < c → ms.getD (i * c + j) 0 = dot (fun i j => zs.getD (i * q + j) 0) (fun i j => ys.getD (i * c + j) 0) i j q
theorem set_rc (p g r c RC row col : Nat) (hRC : RC = r * c) (zs : List Int) (L : Nat) (x : Value) (z : Int) (w : World) (p0 : w.cell? ⟨p, 0, none⟩ = some (.int .i64 r)) (p1 : w.cell? ⟨p, 1, none⟩ = some (.int .i64 c))
 (p2 : w.cell? ⟨p, 2, none⟩ = some (.slice (some ⟨g, 0, none⟩) RC RC)) (hg : Grid w (.slice (some ⟨g, 0, none⟩) RC RC) RC zs L) (hx : IsI w x z L) (hr : r ≤ 99) (hc : c ≤ 99) (h1 : row < r) (h2 : col < c) :
 Calls Tryz.prog 85 #[.pointer (some ⟨p, 0, none⟩), .int .i64 row, .int .i64 col, x] w fun e w' => e = .returned (.tuple #[]) ∧ Grid w' (.slice (some ⟨g, 0, none⟩) RC RC) RC (zs.set (row * c + col) z) L ∧ w.grownBy w' (some g) ∧ KU w w' := by
 subst hRC
 exact set_in p g r c (r * c) row col zs L x z w p0 p1 p2 hg hx hr hc h1 h2
set_option maxRecDepth 100000 in
set_option maxHeartbeats 4000000 in
theorem gtimes_new (v u : Value) (r q c : Nat) (zs ys : List Int) (L : Nat) (w : World) (hm : IsM w v r q zs L) (hn : IsM w u q c ys L) (hL : L ≤ 200000000) :
 Calls Tryz.prog 49 #[v, u] w fun e w' => ∃ g ms, e = .returned (.agg #[.int .i64 r, .int .i64 c, .slice (some ⟨g, 0, none⟩) (r * c) (r * c)]) ∧ w.heap.size ≤ g ∧ Grid w' (.slice (some ⟨g, 0, none⟩) (r * c) (r * c)) (r * c) ms (L + L + 1 + q) ∧ ProdOf r q c zs ys ms ∧ Below w.heap.size w w' := by
 have HM := Hid.mk hm
 have HN := Hid.mk hn
 obtain ⟨hr, hq, sl, rfl, hg0⟩ := hm
 obtain ⟨ao, cap, rfl, -⟩ := hg0.shape
 obtain ⟨-, hc, sl', rfl, hg1⟩ := hn
 obtain ⟨bo, dap, rfl, -⟩ := hg1.shape
 clear hg0 hg1
 obtain ⟨N, hN⟩ : ∃ N, N = r * q := ⟨_, rfl⟩
 rw [← hN] at HM ⊢
 obtain ⟨M, hM⟩ : ∃ M, M = q * c := ⟨_, rfl⟩
 rw [← hM] at HN ⊢
 clear hN hM
 obtain ⟨RC, hRC⟩ : ∃ RC, RC = r * c := ⟨_, rfl⟩
 have HRC := Hid.mk hRC
 obtain ⟨W0, hW0⟩ : ∃ W0, W0 = ((w.alloc (.cells #[.int .i64 r, .int .i64 q, .slice ao N cap] 76)).alloc (.cells #[.int .i64 q, .int .i64 c, .slice bo M dap] 76)).alloc (.cells #[.int .i64 0, .int .i64 0, .slice none 0 0] 76) := ⟨_, rfl⟩
 have hz0 : W0.heap.size = w.heap.size + 3 := by rw [hW0]; simp
 have hm0 : Trio W0 w.heap.size (.int .i64 r) (.int .i64 q) (.slice ao N cap) := by
  rw [hW0]
  exact ⟨cell1 (cell1 (new_cell _ _ _ _ _ (by simp) rfl) _) _, cell1 (cell1 (new_cell _ _ _ _ _ (by simp) rfl) _) _, cell1 (cell1 (new_cell _ _ _ _ _ (by simp) rfl) _) _⟩
 have hn0 : Trio W0 (w.heap.size + 1) (.int .i64 q) (.int .i64 c) (.slice bo M dap) := by
  rw [hW0]
  exact ⟨cell1 (new_cell _ _ _ _ _ (by simp) rfl) _, cell1 (new_cell _ _ _ _ _ (by simp) rfl) _, cell1 (new_cell _ _ _ _ _ (by simp) rfl) _⟩
 have hr0 : W0.heap[w.heap.size + 2]? = some (.cells #[.int .i64 0, .int .i64 0, .slice none 0 0] 76 (0, 0)) := by
  rw [hW0]
  have := heap_alloc_new ((w.alloc (.cells #[.int .i64 r, .int .i64 q, .slice ao N cap] 76)).alloc (.cells #[.int .i64 q, .int .i64 c, .slice bo M dap] 76)) (.cells #[.int .i64 0, .int .i64 0, .slice none 0 0] 76)
  simpa using this
 have hb0 : Below w.heap.size w W0 := by
  rw [hW0]
  repeat (first | exact Below.refl _ _ | refine Below.alloc ?_ (by simp <;> omega) _)
 have F0 := Hid.mk (And.intro hm0 (And.intro hn0 (And.intro hr0 (And.intro hb0 (And.intro hz0 hW0)))))
 clear hm0 hn0 hr0 hb0 hz0 hW0 hRC
 go_enter Tryz.func49, Tryz.ntmps49
 go_wp2_with fail
 rw [← F0.out.2.2.2.2.2]
 refine (noughts_any r c _ hr hc).mono ?_
 rintro e w2 ⟨g, rfl, hgn, hg, hb⟩
 rw [← HRC.out] at hg ⊢
 have hz0 := F0.out.2.2.2.2.1
 have hbw : Below w.heap.size w w2 := F0.out.2.2.2.1.trans (hb.mono (by omega))
 have hgl : g < w2.heap.size := hg.ty.lt
 have hw2 := hb.size
 have F2 := Hid.mk (And.intro hg (And.intro hb hbw))
 clear hg hb hbw
 go_wp2_with fail
 obtain ⟨W3, hW3⟩ : ∃ W3, W3 = w2.alloc (.cells #[.int .i64 r, .int .i64 c, .slice (some ⟨g, 0, none⟩) RC RC] 76) := ⟨_, rfl⟩
 rw [← hW3]
 have hb23 : Below w2.heap.size w2 W3 := by rw [hW3]; exact (Below.refl _ _).alloc (Nat.le_refl _) _
 have hm3 : Trio W3 w.heap.size (.int .i64 r) (.int .i64 q) (.slice ao N cap) := (F0.out.1.later F2.out.2.1).later hb23
 have hn3 : Trio W3 (w.heap.size + 1) (.int .i64 q) (.int .i64 c) (.slice bo M dap) := (F0.out.2.1.later F2.out.2.1).later hb23
 have hp3 : Trio W3 w2.heap.size (.int .i64 r) (.int .i64 c) (.slice (some ⟨g, 0, none⟩) RC RC) := by
  rw [hW3]
  exact ⟨new_cell _ _ _ _ _ rfl rfl, new_cell _ _ _ _ _ rfl rfl, new_cell _ _ _ _ _ rfl rfl⟩
 have hres : W3.heap[w.heap.size + 2]? = some (.cells #[.int .i64 0, .int .i64 0, .slice none 0 0] 76 (0, 0)) := by
  rw [hb23.block _ (by omega), F2.out.2.1.block _ (by omega)]
  exact F0.out.2.2.1
 have hG3 : Grid W3 (.slice (some ⟨g, 0, none⟩) RC RC) RC (List.replicate RC 0) (L + L + 1 + q) := (F2.out.1.mono (Nat.zero_le _)).below hb23
 have hS : W3.heap.size = w2.heap.size + 1 := by rw [hW3]; simp
 have hB3 : Below w.heap.size w W3 := F2.out.2.2.trans (hb23.mono (by omega))
 have F3 := Hid.mk (And.intro hm3 (And.intro hn3 (And.intro hp3 (And.intro hres (And.intro hG3 (And.intro hS hB3))))))
 clear hm3 hn3 hp3 hres hG3 hB3 hW3 hb23
 go_loopw [6] (fun i wr => ∃ (a : Nat) (ms : List Int), a ≤ r ∧ i = .int .i64 a ∧ Grid wr (.slice (some ⟨g, 0, none⟩) RC RC) RC ms (L + L + 1 + q) ∧ W3.grownBy wr (some g) ∧ Below w.heap.size w wr ∧ Hid (ProdTo r q c a 0 zs ys ms)) (fun i _ => r - (intOf i).toNat)
 case atStart => exact ⟨0, _, Nat.zero_le _, rfl, F3.out.2.2.2.2.1, World.grownBy.refl _ _, F3.out.2.2.2.2.2.2, Hid.mk (fun i j _ _ hd => by omega)⟩
 case round =>
  obtain ⟨a, ms, ha, rfl, hG, hgr, hB, HI⟩ := hrel
  obtain ⟨q0, q1, q2⟩ := F3.out.1.grown hgr (by omega)
  have K := Hid.mk (And.intro hG (And.intro hgr hB))
  clear hG hgr hB
  by_cases har : a < r
  ·have hai : (a : Int) < (r : Int) := by omega
   go_wp2_with fail
   go_loopw [7] (fun i ws => ∃ (e : Nat) (ms : List Int), e ≤ c ∧ i = .int .i64 e ∧ Grid ws (.slice (some ⟨g, 0, none⟩) RC RC) RC ms (L + L + 1 + q) ∧ W3.grownBy ws (some g) ∧ Below w.heap.size w ws ∧ Hid (ProdTo r q c a e zs ys ms)) (fun i _ => c - (intOf i).toNat)
   case atStart => exact ⟨0, ms, Nat.zero_le _, rfl, K.out.1, K.out.2.1, K.out.2.2, HI⟩
   case round =>
    rename World => ws
    clear q0 q1 q2
    obtain ⟨e, ms, he, rfl, hG, hgr, hB, HI2⟩ := hrel
    obtain ⟨q0, q1, q2⟩ := F3.out.1.grown hgr (by omega)
    obtain ⟨p0, p1, p2⟩ := F3.out.2.1.grown hgr (by omega)
    have hwr := hB.size
    have K2 := Hid.mk (And.intro hG (And.intro hgr hB))
    clear hG hgr hB
    by_cases hec : e < c
    ·have hei : (e : Int) < (c : Int) := by omega
     go_wp2_with fail
     refine (dotm_any _ _ r q c a e zs ys L _ (HM.out.below K2.out.2.2) (HN.out.below K2.out.2.2) har hec hL).mono ?_
     rintro e9 w4 ⟨x, rfl, hx, hb4⟩
     obtain ⟨nb, so, n, ecap, rfl⟩ := hx.shape
     have hw4 := hb4.size
     have W5b := (Below.refl w4.heap.size w4).alloc (Nat.le_refl _) (.cells #[.bool nb, .slice so n ecap] 94)
     have hbA : Below ws.heap.size ws (w4.alloc (.cells #[.bool nb, .slice so n ecap] 94)) := hb4.trans (W5b.mono hw4)
     have hgrA := grown_below K2.out.2.1 hbA
     obtain ⟨s0, s1, s2⟩ := F3.out.2.2.1.grown hgrA (by omega)
     have K4 := Hid.mk (And.intro (And.intro s0 (And.intro s1 s2)) (And.intro (K2.out.1.below hbA) (And.intro (hx.below W5b) (And.intro hgrA (K2.out.2.2.trans (hbA.mono hwr))))))
     clear hx hb4 W5b hbA hgrA q0 q1 q2 p0 p1 p2
     go_wp2_with fail
     refine (set_rc w2.heap.size g r c RC a e HRC.out ms (L + L + 1 + q) _ _ _ K4.out.1.1 K4.out.1.2.1 K4.out.1.2.2 K4.out.2.1 K4.out.2.2.1 (by omega) (by omega) (by omega) (by omega)).mono ?_
     rintro e9 w6 ⟨rfl, a1, a2, -⟩
     have K6 := Hid.mk (And.intro a1 (And.intro (grown_trans K4.out.2.2.2.1 a2) (K4.out.2.2.2.2.grown a2 (by simp; omega) (fun j hj => by simp at hj; omega))))
     clear a1 a2 s0 s1 s2
     go_wp2_with fail
     go_roundw
     case measure => simp [intOf]; omega
     case rel =>
      refine ⟨e + 1, _, by omega, by go_num, K6.out.1, K6.out.2.1, K6.out.2.2, Hid.mk (HI2.out.step ?_ har hec rfl)⟩
      rw [← HRC.out]
      exact K2.out.1.1
    ·go_wp2_with fail
     go_roundw
     case measure => simp [intOf]; omega
     case rel => exact ⟨a + 1, ms, by omega, by go_num, K2.out.1, K2.out.2.1, K2.out.2.2, Hid.mk (HI2.out.row (by omega))⟩
  ·obtain ⟨s0, s1, s2⟩ := F3.out.2.2.1.grown K.out.2.1 (by omega)
   have hres : wr.heap[w.heap.size + 2]? = some (.cells #[.int .i64 0, .int .i64 0, .slice none 0 0] 76 (0, 0)) := by
    rw [K.out.2.1.block _ (by have := F3.out.2.2.2.2.2.1; omega) (by simp; omega)]; exact F3.out.2.2.2.1
   have r0 : wr.cell? ⟨w.heap.size + 1 + 1, 0, none⟩ = some (.int .i64 0) := by simp [World.cell?, hres]
   have r1 : wr.cell? ⟨w.heap.size + 1 + 1, 1, none⟩ = some (.int .i64 0) := by simp [World.cell?, hres]
   have r2 : wr.cell? ⟨w.heap.size + 1 + 1, 2, none⟩ = some (.slice none 0 0) := by simp [World.cell?, hres]
   have z0 : wr.frozen? ⟨w.heap.size + 1 + 1, 0, none⟩ = false := by simp [World.frozen?, hres]
   have z1 : wr.frozen? ⟨w.heap.size + 1 + 1, 1, none⟩ = false := by simp [World.frozen?, hres]
   have z2 : wr.frozen? ⟨w.heap.size + 1 + 1, 2, none⟩ = false := by simp [World.frozen?, hres]
   have HT : Hid (Ty wr (w.heap.size + 1 + 1) 76) := Hid.mk ⟨_, _, hres⟩
   clear hres
   go_wp2_with fail
   refine bodyPost_ret (v := .agg #[.int .i64 r, .int .i64 c, .slice (some ⟨g, 0, none⟩) RC RC]) ?_ rfl ?_
   ·(simp [results, Tryz.results49, go_sem, r0, r1, r2]; done)
   ·refine ⟨g, ms, by rw [← HRC.out], by omega, ?_, fun i j hi hj => HI.out i j hi hj (.inl (by omega)), ((K.out.2.2.setCell (by simp; omega) _).setCell (by simp; omega) _).setCell (by simp; omega) _⟩
    have hG := K.out.1.keep (KT.setCell (KT.setCell (KT.setCell (KT.refl _) HT.out (by decide) (by decide) (.int .i64 r)) (HT.out.setCell ⟨w.heap.size + 1 + 1, 0, none⟩ (.int .i64 r)) (by decide) (by decide) (.int .i64 c)) ((HT.out.setCell ⟨w.heap.size + 1 + 1, 0, none⟩ (.int .i64 r)).setCell ⟨w.heap.size + 1 + 1, 1, none⟩ (.int .i64 c)) (by decide) (by decide) (.slice (some ⟨g, 0, none⟩) RC RC) (o := 2))
    rw [← HRC.out]
    exact hG
theorem gtimes_any (v u : Value) (r q c : Nat) (zs ys : List Int) (L : Nat) (w : World) (hm : IsM w v r q zs L) (hn : IsM w u q c ys L) (hL : L ≤ 200000000) :
 Calls Tryz.prog 49 #[v, u] w fun e w' => ∃ x, e = .returned x ∧ (∃ ms, IsM w' x r c ms (L + L + 1 + q) ∧ ProdOf r q c zs ys ms) ∧ Below w.heap.size w w' := by
 refine (gtimes_new v u r q c zs ys L w hm hn hL).mono ?_
 rintro e w' ⟨g, ms, rfl, -, hG, hP, hb⟩
 exact ⟨_, rfl, ⟨ms, ⟨hm.1, hn.2.1, _, rfl, hG⟩, hP⟩, hb⟩
open Go.RowKit
theorem IsI.tight {w : World} {v : Value} {z : Int} {L : Nat} (h : IsI w v z L) (hz : z.natAbs < 281474976710656) : IsI w v z 2 := by
 obtain ⟨sl, xs, h1, h2, h3, h4, h5⟩ := h
 refine ⟨sl, xs, h1, h2, h3, ?_, h5⟩
 rcases Nat.lt_or_ge 2 xs.length with h6 | h6
 ·exfalso
  have h7 := Lim_ge h2 (by intro e; rw [e] at h6; simp at h6)
  have h8 : 4294967296 ^ 2 ≤ 4294967296 ^ (xs.length - 1) := Nat.pow_le_pow_right (by decide) (by omega)
  omega
 ·exact h6
theorem IsM.tight {w : World} {v : Value} {r c L : Nat} {zs : List Int} (h : IsM w v r c zs L) (hf : FitsP r c zs) : IsM w v r c zs 2 := by
 obtain ⟨h1, h2, sl, h3, h4, cs, h5, h6⟩ := h
 refine ⟨h1, h2, sl, h3, h4, cs, h5, fun i hi => ?_⟩
 obtain ⟨a, b, e1, e2, e3⟩ := h6 i hi
 exact ⟨a, b, e1, e2, e3.tight (hf.2.2 i hi)⟩
def prodL (r q c : Nat) (zs ys : List Int) : List Int := (List.range (r * c)).map fun t => dot (fun i j => zs.getD (i * q + j) 0) (fun i j => ys.getD (i * c + j) 0) (t / c) (t % c) q
theorem prodL_len (r q c : Nat) (zs ys : List Int) : (prodL r q c zs ys).length = r * c := by simp [prodL]
theorem prodL_at {r q c : Nat} {zs ys : List Int} {i j : Nat} (hi : i < r) (hj : j < c) : (prodL r q c zs ys).getD (i * c + j) 0 = dot (fun i j => zs.getD (i * q + j) 0) (fun i j => ys.getD (i * c + j) 0) i j q := by
 have h1 : (i * c + j) / c = i := by rw [Nat.mul_comm, Nat.mul_add_div (by omega), Nat.div_eq_of_lt hj]; omega
 have h2 : (i * c + j) % c = j := by rw [Nat.mul_comm, Nat.mul_add_mod]; exact Nat.mod_eq_of_lt hj
 have h3 : i * c + j < r * c := idx_lt hi hj
 unfold prodL
 rw [List.getD, List.getElem?_map, List.getElem?_range h3]
 simp only [Option.map_some, Option.getD_some, h1, h2]
theorem prodL_eq {r q c : Nat} {zs ys ms : List Int} (hl : ms.length = r * c) (h : ProdOf r q c zs ys ms) : ms = prodL r q c zs ys := by
 apply List.ext_getElem (by rw [hl, prodL_len])
 intro t h1 h2
 have hc : 0 < c := by
  rcases Nat.eq_zero_or_pos c with h0 | h0
  ·subst h0; rw [Nat.mul_zero] at hl; omega
  ·exact h0
 have ht : t < r * c := by omega
 have h3 : t / c < r := by rw [Nat.div_lt_iff_lt_mul hc]; exact ht
 have h4 := Nat.mod_lt t hc
 have h5 : t / c * c + t % c = t := by rw [Nat.mul_comm]; exact Nat.div_add_mod t c
 have h6 := h (t / c) (t % c) h3 h4
 rw [← prodL_at h3 h4, h5] at h6
 simpa [List.getD, List.getElem?_eq_getElem h1, List.getElem?_eq_getElem h2] using h6
structure F3 where
 H : Nat → Nat → Int
 U : Nat → Nat → Int
 W : Nat → Nat → Int
def F3.Eq (r c : Nat) (s t : F3) : Prop := (∀ i j, i < r → j < c → s.H i j = t.H i j) ∧ (∀ i j, i < r → j < r → s.U i j = t.U i j) ∧ (∀ i j, i < r → j < r → s.W i j = t.W i j)
theorem F3.Eq.symm {r c : Nat} {s t : F3} (h : F3.Eq r c s t) : F3.Eq r c t s := ⟨fun i j a b => (h.1 i j a b).symm, fun i j a b => (h.2.1 i j a b).symm, fun i j a b => (h.2.2 i j a b).symm⟩
theorem F3.Eq.trans {r c : Nat} {s t u : F3} (h : F3.Eq r c s t) (k : F3.Eq r c t u) : F3.Eq r c s u := ⟨fun i j a b => (h.1 i j a b).trans (k.1 i j a b), fun i j a b => (h.2.1 i j a b).trans (k.2.1 i j a b), fun i j a b => (h.2.2 i j a b).trans (k.2.2 i j a b)⟩
theorem F3.Eq.refl (r c : Nat) (s : F3) : F3.Eq r c s s := ⟨fun _ _ _ _ => rfl, fun _ _ _ _ => rfl, fun _ _ _ _ => rfl⟩
theorem LeastIs.uniq {f : Nat → Int} {a n : Nat} {z z' : Int} (h : LeastIs f a n z) (h' : LeastIs f a n z') : z = z' := by
 rcases h with ⟨i, i1, i2, rfl, i3, i4, i5⟩ | ⟨rfl, h0⟩
 ·rcases h' with ⟨j, j1, j2, rfl, j3, j4, j5⟩ | ⟨rfl, h0⟩
  ·rcases Nat.lt_trichotomy i j with h | h | h
   ·have := j5 i i1 h i3; have := i4 j j1 j2 j3; omega
   ·rw [h]
   ·have := i5 j j1 h j3; have := j4 i i1 i2 i3; omega
  ·exact absurd (h0 i i1 i2) i3
 ·rcases h' with ⟨j, j1, j2, rfl, j3, j4, j5⟩ | ⟨rfl, -⟩
  ·exact absurd (h0 j j1 j2) j3
  ·rfl
def rd3 (r t i0 col : Nat) (s : F3) : F3 := ⟨rdH s.H s.H r t i0 col, rdH s.U s.H r t i0 col, rdW s.W s.H r t i0 col⟩
theorem lsH_congr {f g : Nat → Nat → Int} {q q' : Nat → Int} {first e p i j : Nat} (hp : f p j = g p j) (hi : f i j = g i j) (hq : first ≤ i → i < e → q i = q' i) : lsH f q first e p i j = lsH g q' first e p i j := by
 unfold lsH
 split
 ·rename_i h; rw [hp, hi, hq h.1 h.2]
 ·exact hi
theorem lsW_congr {f g : Nat → Nat → Int} {q q' : Nat → Int} {first e p i j : Nat} (hf : ∀ k, k < e → f i k = g i k) (hp : f i p = g i p) (hj : f i j = g i j) (hq : ∀ k, k < e → q k = q' k) : lsW f q first e p i j = lsW g q' first e p i j := by
 unfold lsW
 split
 ·rw [hp, wsum_congr e hq hf]
 ·exact hj
theorem rd3_congr {r c t i0 col : Nat} {s s' : F3} (h : F3.Eq r c s s') (ht : t < r) (hi0 : i0 < r) (hc : col < c) : F3.Eq r c (rd3 r t i0 col s) (rd3 r t i0 col s') := by
 have hq : ∀ i, i < r → rq s.H t i0 col i = rq s'.H t i0 col i := fun i hi => by
  unfold rq
  rw [h.1 _ _ (swq_lt ht hi0 hi) hc, h.1 _ _ (swq_lt ht hi0 ht) hc]
 refine ⟨fun i j hi hj => ?_, fun i j hi hj => ?_, fun i j hi hj => ?_⟩
 ·exact lsH_congr (f := fun i j => s.H (swq t i0 i) j) (g := fun i j => s'.H (swq t i0 i) j) (q := rq s.H t i0 col) (q' := rq s'.H t i0 col) (h.1 _ _ (swq_lt ht hi0 ht) hj) (h.1 _ _ (swq_lt ht hi0 hi) hj) (fun _ _ => hq i hi)
 ·exact lsH_congr (f := fun i j => s.U (swq t i0 i) j) (g := fun i j => s'.U (swq t i0 i) j) (q := rq s.H t i0 col) (q' := rq s'.H t i0 col) (h.2.1 _ _ (swq_lt ht hi0 ht) hj) (h.2.1 _ _ (swq_lt ht hi0 hi) hj) (fun _ _ => hq i hi)
 ·exact lsW_congr (f := fun i j => s.W i (swq t i0 j)) (g := fun i j => s'.W i (swq t i0 j)) (q := rq s.H t i0 col) (q' := rq s'.H t i0 col) (fun k hk => h.2.2 _ _ hi (swq_lt ht hi0 hk)) (h.2.2 _ _ hi (swq_lt ht hi0 ht)) (h.2.2 _ _ hi (swq_lt ht hi0 hj)) (fun k hk => hq k hk)
def GaTo (r c t col : Nat) (s0 : F3) : Nat → F3 → Prop
  | 0, s => F3.Eq r c s0 s
  | n + 1, s' => ∃ (i0 : Nat) (s : F3), GaTo r c t col s0 n s ∧ LeastIs (fun i => s.H i col) (if n = 0 then t else t + 1) r i0 ∧ F3.Eq r c (rd3 r t i0 col s) s'
theorem GaTo.start {r c t col : Nat} {s0 : F3} (s : F3) (h : F3.Eq r c s0 s) : GaTo r c t col s0 0 s := h
theorem GaTo.step {r c t col : Nat} {s0 : F3} (n i0 : Nat) (s s' : F3) (g : GaTo r c t col s0 n s) (l : LeastIs (fun i => s.H i col) (if n = 0 then t else t + 1) r i0) (e : F3.Eq r c (rd3 r t i0 col s) s') : GaTo r c t col s0 (n + 1) s' := ⟨i0, s, g, l, e⟩
theorem least_at {r c col a : Nat} {s s' : F3} (h : F3.Eq r c s s') (hc : col < c) {z : Int} (hl : LeastIs (fun i => s.H i col) a r z) : LeastIs (fun i => s'.H i col) a r z := hl.congr (fun k _ hk => (h.1 k col hk hc).symm)
theorem GaTo.det {r c t col : Nat} {s0 s0' : F3} (h0 : F3.Eq r c s0 s0') (ht : t < r) (hc : col < c) : ∀ n s s', GaTo r c t col s0 n s → GaTo r c t col s0' n s' → F3.Eq r c s s' := by
  intro n
  induction n with
  | zero =>
    intro s s' h h'
    have e : F3.Eq r c s0 s := h
    exact e.symm.trans (h0.trans h')
  | succ n ih =>
    intro s s' h h'
    obtain ⟨i0, a, g, l, e⟩ := h
    obtain ⟨i0', a', g', l', e'⟩ := h'
    have h1 := ih a a' g g'
    have h2 : (i0 : Int) = i0' := (least_at h1 hc l).uniq l'
    have h3 : i0 = i0' := by omega
    subst h3
    have h4 : i0 < r := by rcases l with ⟨i, _, b, d, _⟩ | ⟨d, _⟩ <;> omega
    exact e.symm.trans ((rd3_congr h1 ht h4 hc).trans e')
theorem GaTo.past {r c t col : Nat} {s0 : F3} {m : Nat} {s' : F3} (h : GaTo r c t col s0 m s') : ∀ n, n < m → ∃ s i0, GaTo r c t col s0 n s ∧ LeastIs (fun i => s.H i col) (if n = 0 then t else t + 1) r (i0 : Nat) := by
  induction m generalizing s' with
  | zero => intro n hn; omega
  | succ k ih =>
    obtain ⟨i0, a, g, l, -⟩ := h
    intro n hn
    by_cases hk : n = k
    · subst hk; exact ⟨a, i0, g, l⟩
    · exact ih g n (by omega)
def sgn (t col : Nat) (s : F3) : Int := if s.H t col < 0 then -1 else 1
def tn3 (t col : Nat) (s : F3) : F3 := ⟨fun i j => if i = t then sgn t col s * s.H i j else s.H i j, fun i j => if i = t then sgn t col s * s.U i j else s.U i j, fun i j => if j = t then sgn t col s * s.W i j else s.W i j⟩
def fn3 (t col : Nat) (s : F3) : F3 := ⟨lsH (tn3 t col s).H (fun i => ((tn3 t col s).H i col).fdiv ((tn3 t col s).H t col)) 0 t t, lsH (tn3 t col s).U (fun i => ((tn3 t col s).H i col).fdiv ((tn3 t col s).H t col)) 0 t t, lsW (tn3 t col s).W (fun i => ((tn3 t col s).H i col).fdiv ((tn3 t col s).H t col)) 0 t t⟩
theorem fn3_congr {r c t col : Nat} {s s' : F3} (h : F3.Eq r c s s') (ht : t < r) (hc : col < c) : F3.Eq r c (fn3 t col s) (fn3 t col s') := by
 have hs : sgn t col s = sgn t col s' := by unfold sgn; rw [h.1 t col ht hc]
 have h1 : F3.Eq r c (tn3 t col s) (tn3 t col s') := by
  refine ⟨fun i j hi hj => ?_, fun i j hi hj => ?_, fun i j hi hj => ?_⟩
  ·show (if i = t then _ else _) = (if i = t then _ else _)
   rw [hs, h.1 i j hi hj]
  ·show (if i = t then _ else _) = (if i = t then _ else _)
   rw [hs, h.2.1 i j hi hj]
  ·show (if j = t then _ else _) = (if j = t then _ else _)
   rw [hs, h.2.2 i j hi hj]
 have hq : ∀ i, i < r → ((tn3 t col s).H i col).fdiv ((tn3 t col s).H t col) = ((tn3 t col s').H i col).fdiv ((tn3 t col s').H t col) := fun i hi => by rw [h1.1 i col hi hc, h1.1 t col ht hc]
 refine ⟨fun i j hi hj => ?_, fun i j hi hj => ?_, fun i j hi hj => ?_⟩
 ·exact lsH_congr (q := fun i => ((tn3 t col s).H i col).fdiv ((tn3 t col s).H t col)) (q' := fun i => ((tn3 t col s').H i col).fdiv ((tn3 t col s').H t col)) (h1.1 _ _ ht hj) (h1.1 _ _ hi hj) (fun _ _ => hq i hi)
 ·exact lsH_congr (q := fun i => ((tn3 t col s).H i col).fdiv ((tn3 t col s).H t col)) (q' := fun i => ((tn3 t col s').H i col).fdiv ((tn3 t col s').H t col)) (h1.2.1 _ _ ht hj) (h1.2.1 _ _ hi hj) (fun _ _ => hq i hi)
 ·exact lsW_congr (q := fun i => ((tn3 t col s).H i col).fdiv ((tn3 t col s).H t col)) (q' := fun i => ((tn3 t col s').H i col).fdiv ((tn3 t col s').H t col)) (fun k hk => h1.2.2 _ _ hi (by omega)) (h1.2.2 _ _ hi ht) (h1.2.2 _ _ hi hj) (fun k hk => hq k (by omega))
def GaDoes (r c t col : Nat) (s0 : F3) (t' : Nat) (s' : F3) : Prop := ((∀ i, t ≤ i → i < r → s0.H i col = 0) ∧ t' = t ∧ F3.Eq r c s0 s') ∨
 (t < r ∧ t' = t + 1 ∧ ∃ n s1, GaTo r c t col s0 (n + 1) s1 ∧ LeastIs (fun i => s1.H i col) (t + 1) r (-1) ∧ F3.Eq r c (fn3 t col s1) s')
theorem GaTo.ne {r c t col n : Nat} {s0 s1 : F3} (h : GaTo r c t col s0 (n + 1) s1) (hc : col < c) : ¬ ∀ i, t ≤ i → i < r → s0.H i col = 0 := by
  intro h0
  obtain ⟨s, i0, g, l⟩ := h.past 0 (by omega)
  have e : F3.Eq r c s0 s := g
  rw [if_pos rfl] at l
  rcases l with ⟨i, i1, i2, -, i3, -⟩ | ⟨i1, -⟩
  · exact i3 (by show s.H i col = 0; rw [← e.1 i col i2 hc]; exact h0 i i1 i2)
  · omega
theorem GaDoes.det {r c t col t1 t2 : Nat} {s0 s0' s1 s2 : F3} (h0 : F3.Eq r c s0 s0') (hc : col < c) (h : GaDoes r c t col s0 t1 s1) (h' : GaDoes r c t col s0' t2 s2) : t1 = t2 ∧ F3.Eq r c s1 s2 := by
 rcases h with ⟨z, rfl, e⟩ | ⟨ht, rfl, n, a, g, l, e⟩
 ·rcases h' with ⟨z', rfl, e'⟩ | ⟨ht', rfl, n', a', g', l', e'⟩
  ·exact ⟨rfl, e.symm.trans (h0.trans e')⟩
  ·exact absurd (fun i i1 i2 => by rw [← h0.1 i col i2 hc]; exact z i i1 i2) (g'.ne hc)
 ·rcases h' with ⟨z', rfl, e'⟩ | ⟨ht', rfl, n', a', g', l', e'⟩
  ·exact absurd (fun i i1 i2 => by rw [h0.1 i col i2 hc]; exact z' i i1 i2) (g.ne hc)
  ·refine ⟨rfl, ?_⟩
   have key : ∀ {n m : Nat} {x y p q : F3}, F3.Eq r c x y → GaTo r c t col x (n + 1) p → GaTo r c t col y (m + 1) q → LeastIs (fun i => p.H i col) (t + 1) r (-1) → n < m → False := by
    intro n m x y p q hxy gp gq lp hnm
    obtain ⟨s, i0, gs, ls⟩ := gq.past (n + 1) (by omega)
    rw [if_neg (by omega)] at ls
    have := least_at (GaTo.det hxy ht hc (n + 1) p s gp gs) hc lp
    have := this.uniq ls
    omega
   rcases Nat.lt_trichotomy n n' with h1 | h1 | h1
   ·exact (key h0 g g' l h1).elim
   ·subst h1
    exact e.symm.trans ((fn3_congr (GaTo.det h0 ht hc _ _ _ g g') ht hc).trans e')
   ·exact (key h0.symm g' g l' h1).elim
def EcTo (r c : Nat) (A : Nat → Nat → Int) : Nat → Nat → F3 → Prop
  | 0, t, s => t = 0 ∧ F3.Eq r c ⟨A, kd, kd⟩ s
  | n + 1, t', s' => ∃ (t : Nat) (s : F3), EcTo r c A n t s ∧ GaDoes r c t n s t' s'
theorem EcTo.start {r c : Nat} {A : Nat → Nat → Int} (s : F3) (h : F3.Eq r c ⟨A, kd, kd⟩ s) : EcTo r c A 0 0 s := ⟨rfl, h⟩
theorem EcTo.step {r c : Nat} {A : Nat → Nat → Int} (n t t' : Nat) (s s' : F3) (g : EcTo r c A n t s) (d : GaDoes r c t n s t' s') : EcTo r c A (n + 1) t' s' := ⟨t, s, g, d⟩
theorem EcTo.det {r c : Nat} {A : Nat → Nat → Int} : ∀ n, n ≤ c → ∀ t1 t2 s1 s2, EcTo r c A n t1 s1 → EcTo r c A n t2 s2 → t1 = t2 ∧ F3.Eq r c s1 s2 := by
  intro n
  induction n with
  | zero =>
    intro _ t1 t2 s1 s2 h h'
    obtain ⟨rfl, e⟩ := h
    obtain ⟨rfl, e'⟩ := h'
    exact ⟨rfl, e.symm.trans e'⟩
  | succ n ih =>
    intro hn t1 t2 s1 s2 h h'
    obtain ⟨a, x, g, d⟩ := h
    obtain ⟨a', x', g', d'⟩ := h'
    obtain ⟨rfl, e⟩ := ih (by omega) a a' x x' g g'
    exact d.det e (by omega) d'
end Go.Proofs.YtfjbijpagaipnaaGreatDoor
