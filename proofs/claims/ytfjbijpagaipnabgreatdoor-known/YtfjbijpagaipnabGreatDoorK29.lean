import Derived.Test.YtfjbijpagaipnabGreatDoorK28
import Derived.Test.YtfjbijpagaipnabGreatDoorK26
import Derived.Test.YtfjbijpagaipnabGreatDoorK25
import Derived.StillTailTactics
import Derived.Deep.CutRange
namespace Go.Proofs.YtfjbijpagaipnabGreatDoor
open Go.RowKit R
def IdxRel (ms : List Hm) (h : Int) (t : List UInt8) (e : Int) : Prop :=
 ((∀ i, i < 24 → ∀ x, ms.getD i none = some x → (x.1 : Int) ≠ h) ∧ t = [] ∧ e = 2) ∨
 ∃ i hd r c zs, i < 24 ∧ ms.getD i none = some (hd, r, c, zs) ∧ ((hd : Nat) : Int) = h ∧ ((¬ FitsP r c zs ∧ t = [] ∧ e = 4) ∨ (FitsP r c zs ∧ e = 0 ∧ ∃ k, RankIs (gz c zs) r c k ∧ t = Lib.itoa ((divF (gz c zs) r c k : Nat) : Int)))
theorem DgIs.index {r c : Nat} {zs : List Int} {x : D5} (h : DgIs r c zs x) : ∃ k, RankIs (gz c zs) r c k ∧ idxP (ent c x.d) (min r c) = ((divF (gz c zs) r c k : Nat) : Int) := by
 obtain ⟨k, hk⟩ := h.low
 refine ⟨k, hk.rk, ?_⟩
 have h1 := hk.low.kr
 have h2 := hk.low.kc
 rw [idx_pr hk.low (min r c) (by omega) (by omega), show min (min r c) k = k by omega]
 have h3 := hk.low.pr_pos (Nat.le_refl k)
 have h4 : (pr (ent c x.d) 0 k).natAbs = divF (gz c zs) r c k := hk.q
 omega
set_option maxRecDepth 100000 in
set_option maxHeartbeats 4000000 in
theorem index_held (b : Nat) (h : Int) (ms : List Hm) (nx : Nat) (w : World) (hst : Held w b ms nx) (htab : Tab w) :
 Calls Tryz.prog 18 #[.pointer (some ⟨b, 0, none⟩), .int .i64 h] w fun x w' => ∃ t e, x = .returned (.tuple #[.string ⟨t.toArray⟩, .int .i64 e]) ∧ IdxRel ms h t e ∧ Below w.heap.size w w' := by
 have H := Hid.mk (And.intro hst htab)
 clear hst htab
 go_enter Tryz.func18, Tryz.ntmps18
 go_wp2_with fail
 refine (find_held b h ms nx _ H.out.1).mono ?_
 rintro e w1 ⟨⟨r, c, ao, n, cap, ok, rfl, hf⟩, hb1⟩
 have hbA := (Below.refl w1.heap.size w1).alloc (Nat.le_refl _) (.cells #[.int .i64 r, .int .i64 c, .slice ao n cap] 66)
 have hbw := hb1.trans (hbA.mono hb1.size)
 have hw1 := hb1.size
 rcases id hf with ⟨rfl, i, hd, zs, hi, hgi, hgh, hM⟩ | ⟨rfl, hno⟩
 ·have K1 := Hid.mk (And.intro (hM.below hbA) (And.intro hbw (And.intro hi (And.intro hgi hgh))))
  clear hf hM hb1 hbA hbw hi hgi hgh
  go_wp2_with fail
  refine (tooBig_any _ r c zs 200000000 _ K1.out.1 (by omega)).mono ?_
  rintro e w2 ⟨fb, rfl, hfo, hb2⟩
  have hs2 : w1.heap.size + 1 ≤ w2.heap.size := by have := hb2.size; simpa using this
  have m0 : w2.cell? ⟨w1.heap.size, 0, none⟩ = some (.int .i64 r) := cell_later hb2 (by simp)
  have m1 : w2.cell? ⟨w1.heap.size, 1, none⟩ = some (.int .i64 c) := cell_later hb2 (by simp)
  have m2 : w2.cell? ⟨w1.heap.size, 2, none⟩ = some (.slice ao n cap) := cell_later hb2 (by simp)
  have K2 := Hid.mk (And.intro (K1.out.1.below hb2) (And.intro (K1.out.2.1.trans (hb2.mono K1.out.2.1.size)) hfo))
  clear hb2 hfo
  cases fb
  ·have HNF : Hid (¬ FitsP r c zs) := Hid.mk (fun h => by have := K2.out.2.2.2 h; cases this)
   go_wp2_with fail
   go_ret2
   exact ⟨[], _, rfl, .inr ⟨i, hd, r, c, zs, K1.out.2.2.1, K1.out.2.2.2.1, K1.out.2.2.2.2, .inl ⟨HNF.out, rfl, rfl⟩⟩, K2.out.2.1⟩
  ·have HFP : Hid (FitsP r c zs) := Hid.mk (K2.out.2.2.1 rfl)
   go_wp2_with fail
   refine (gdiag_any _ r c zs _ (K2.out.1.tight HFP.out) HFP.out.1 HFP.out.2.1 HFP.out.ent).mono ?_
   rintro e w3 ⟨x, sD, sU, sS, sV, sT, rfl, hMs, hIs, hb3⟩
   have K3 := Hid.mk (And.intro hMs (And.intro hIs (K2.out.2.1.trans (hb3.mono K2.out.2.1.size))))
   clear hMs hIs hb3 m0 m1 m2
   go_wp2_with fail
   refine (index_any r c sD sU sS sV sT x.d x.u x.s x.v x.t 7200000 30000000 _ K3.out.1.1 K3.out.1.2.1 K3.out.1.2.2.1 K3.out.1.2.2.2.1 K3.out.1.2.2.2.2 HFP.out.1 HFP.out.2.1 (by omega)).mono ?_
   rintro e w4 ⟨v4, rfl, hx4, hb4⟩
   obtain ⟨k, hk, hidx⟩ := K3.out.2.1.index
   rw [hidx] at hx4
   have hb04 := K3.out.2.2.trans (hb4.mono K3.out.2.2.size)
   have K4 := Hid.mk (And.intro hx4 (And.intro hb04 (And.intro (H.out.2.below hb04) hk)))
   clear hx4 hb4 hidx hk hb04
   go_wp2_with fail
   refine (decimal_any _ _ _ _ K4.out.1 (by omega) K4.out.2.2.1).mono ?_
   rintro e w5 ⟨rfl, hb5⟩
   have K5 := Hid.mk (K4.out.2.1.trans (hb5.mono K4.out.2.1.size))
   clear hb5
   go_wp2_with fail
   go_ret2
   exact ⟨_, _, rfl, .inr ⟨i, hd, r, c, zs, K1.out.2.2.1, K1.out.2.2.2.1, K1.out.2.2.2.2, .inr ⟨HFP.out, rfl, k, K4.out.2.2.2, rfl⟩⟩, K5.out⟩
 ·have KN := Hid.mk (And.intro hno hbw)
  clear hno hbw hb1 hbA hf
  go_wp2_with fail
  go_ret2
  exact ⟨[], _, rfl, .inl ⟨KN.out.1, rfl, rfl⟩, KN.out.2⟩
open Go.RowKit
theorem many_stk {n : Nat} {Res : Nat → Nat → List Int → List (Nat × Nat × List Int) → Prop} {l : List KMx} {g r c : Nat} {zs : List Int} {ok : Bool} {e : Int} {xs : List KMx} {w w' : World} {b B d : Nat} {v : Value} (hk : KL B w d b l) (hl : l.length + n ≤ 24) (hg : l[g]? = some (r, c, zs)) (f : FitsP r c zs)
 (hrel : ManyRel n Res (stk l) (g : Int) ok e xs) (hout : ManyOut w w' b n l.length (stk l) ok xs v) :
 e = 0 ∧ Res r c zs xs ∧ xs.length = n ∧ KL B w' d b (l ++ xs) ∧ Fr b w w' ∧ ∃ hb, v = .slice (some ⟨hb, 0, none⟩) n n ∧ ∀ j, j < n → w'.cell? ⟨hb, j, none⟩ = some (.int .i64 ((l.length + j : Nat) : Int)) := by
 obtain ⟨rfl, rfl, hxl, hR⟩ : ok = true ∧ e = 0 ∧ xs.length = n ∧ Res r c zs xs := by
  rcases hrel with ⟨hn, -⟩ | ⟨i, hd, r1, c1, zs1, hi, hx, hxh, h⟩
  ·exact (stk_no (by omega) hg hn).elim
  ·have e1 := stk_is hi hx hxh hg
   simp only [Prod.mk.injEq] at e1
   obtain ⟨rfl, rfl, rfl⟩ := e1
   rcases h with ⟨h, -⟩ | ⟨-, h, -⟩ | ⟨-, -, h1, h2, h3, h4⟩
   ·exact absurd f h
   ·rw [stk_count l (by omega)] at h; omega
   ·exact ⟨h1, h2, h3, h4⟩
 rcases hout with ⟨h, -⟩ | ⟨-, hb, hz, rfl, -, hzl, hzj, hown, hH, hF⟩
 ·cases h
 ·rw [stk_puts xs l (by omega)] at hH
  refine ⟨rfl, hR, hxl, ?_, hF, hb, rfl, fun j hj => ?_⟩
  ·unfold KL
   rw [List.length_append, hxl]
   exact KS.step hk hH hF
  ·have := hown.cell hzl j hj
   rw [hzj j hj] at this
   exact this
theorem echelon_stk (B d b g r c : Nat) (zs : List Int) (l : List KMx) (w : World) (hk : KL B w d b l) (hl : l.length + 3 ≤ 24) (hg : l[g]? = some (r, c, zs)) (f : FitsP r c zs) :
 Calls Tryz.prog 27 #[.pointer (some ⟨b, 0, none⟩), .int .i64 g] w fun x w' => ∃ hb xs, x = .returned (.tuple #[.slice (some ⟨hb, 0, none⟩) 3 3, .int .i64 0]) ∧ EchRes r c zs xs ∧ xs.length = 3 ∧ KL B w' d b (l ++ xs) ∧ Fr b w w' ∧ ∀ j, j < 3 → w'.cell? ⟨hb, j, none⟩ = some (.int .i64 ((l.length + j : Nat) : Int)) := by
 refine (echelon_held b g (stk l) l.length w hk.held (by omega)).mono ?_
 rintro x w' ⟨v, e, ok, xs, rfl, hrel, hout⟩
 obtain ⟨rfl, h1, h2, h3, h4, hb, rfl, h5⟩ := many_stk hk hl hg f hrel hout
 exact ⟨hb, xs, rfl, h1, h2, h3, h4, h5⟩
theorem diagonal_stk (B d b g r c : Nat) (zs : List Int) (l : List KMx) (w : World) (hk : KL B w d b l) (hl : l.length + 5 ≤ 24) (hg : l[g]? = some (r, c, zs)) (f : FitsP r c zs) :
 Calls Tryz.prog 28 #[.pointer (some ⟨b, 0, none⟩), .int .i64 g] w fun x w' => ∃ hb xs, x = .returned (.tuple #[.slice (some ⟨hb, 0, none⟩) 5 5, .int .i64 0]) ∧ DgRes r c zs xs ∧ xs.length = 5 ∧ KL B w' d b (l ++ xs) ∧ Fr b w w' ∧ ∀ j, j < 5 → w'.cell? ⟨hb, j, none⟩ = some (.int .i64 ((l.length + j : Nat) : Int)) := by
 refine (diagonal_held b g (stk l) l.length w hk.held (by omega)).mono ?_
 rintro x w' ⟨v, e, ok, xs, rfl, hrel, hout⟩
 obtain ⟨rfl, h1, h2, h3, h4, hb, rfl, h5⟩ := many_stk hk hl hg f hrel hout
 exact ⟨hb, xs, rfl, h1, h2, h3, h4, h5⟩
theorem index_stk (B d b g r c : Nat) (zs : List Int) (l : List KMx) (w : World) (hk : KL B w d b l) (hl : l.length ≤ 24) (hg : l[g]? = some (r, c, zs)) (f : FitsP r c zs) :
 Calls Tryz.prog 18 #[.pointer (some ⟨b, 0, none⟩), .int .i64 g] w fun x w' => ∃ k, R.RankIs (ent c zs) r c k ∧ x = .returned (.tuple #[.string ⟨(Lib.itoa ((R.divF (ent c zs) r c k : Nat) : Int)).toArray⟩, .int .i64 0]) ∧ Below w.heap.size w w' := by
 refine (index_held b g (stk l) l.length w hk.held hk.tb).mono ?_
 rintro x w' ⟨t, e, rfl, hrel, hb⟩
 rcases hrel with ⟨hn, -⟩ | ⟨i, hd, r1, c1, zs1, hi, hx, hxh, h⟩
 ·exact (stk_no hl hg hn).elim
 ·have e1 := stk_is hi hx hxh hg
  simp only [Prod.mk.injEq] at e1
  obtain ⟨rfl, rfl, rfl⟩ := e1
  rcases h with ⟨h, -⟩ | ⟨-, rfl, k, h1, rfl⟩
  ·exact absurd f h
  ·exact ⟨k, h1, rfl, hb⟩
theorem rank_stk (B d b g r c : Nat) (zs : List Int) (l : List KMx) (w : World) (hk : KL B w d b l) (hl : l.length ≤ 24) (hg : l[g]? = some (r, c, zs)) (f : FitsP r c zs) :
 Calls Tryz.prog 16 #[.pointer (some ⟨b, 0, none⟩), .int .i64 g] w fun x w' => ∃ k : Nat, R.RankIs (ent c zs) r c k ∧ x = .returned (.tuple #[.int .i64 k, .int .i64 0]) ∧ Below w.heap.size w w' := by
 refine (rank_held b g (stk l) l.length w hk.held).mono ?_
 rintro x w' ⟨t, e, rfl, hrel, hb⟩
 rcases hrel with ⟨hn, -⟩ | ⟨i, hd, r1, c1, zs1, hi, hx, hxh, h⟩
 ·exact (stk_no hl hg hn).elim
 ·have e1 := stk_is hi hx hxh hg
  simp only [Prod.mk.injEq] at e1
  obtain ⟨rfl, rfl, rfl⟩ := e1
  rcases h with ⟨h, -⟩ | ⟨-, rfl, k, rfl, h1⟩
  ·exact absurd f h
  ·exact ⟨k, h1, rfl, hb⟩
theorem form_ech (B d b g r c : Nat) (zs : List Int) (l : List KMx) (w : World) (hk : KL B w d b l) (hl : l.length + 3 ≤ 24) (hg : l[g]? = some (r, c, zs)) (f : FitsP r c zs) :
 Calls Tryz.prog 19 #[.pointer (some ⟨d, 0, none⟩), .int .i64 g, .bool false] w fun x w' => ∃ k pc hs us ws, EchIs r c zs k pc hs us ws ∧ x = .returned (.string ⟨(matT r c hs).toArray⟩) ∧ (∃ xs, xs.length = 3 ∧ KL B w' d b (l ++ xs)) ∧ Fr b w w' := by
 have c0 := hk.dk.cell
 have H := Hid.mk (And.intro hk (And.intro hg f))
 clear hk hg f
 go_enter Tryz.func19, Tryz.ntmps19
 go_wp2_with fail
 refine (echelon_stk B d b g r c zs l _ H.out.1 hl H.out.2.1 H.out.2.2).mono ?_
 rintro x w1 ⟨hb, xs, rfl, ⟨k, pc, hs, us, ws, rfl, hE⟩, -, hk1, hF, hcell⟩
 have c1 := hcell 0 (by omega)
 rw [Nat.add_zero] at c1
 have K := Hid.mk (And.intro hE (And.intro hk1 hF))
 clear hE hk1 hF hcell c0
 go_wp2_with fail
 refine (shown_stk B d b l.length r c hs _ _ K.out.2.1 (by simp; omega) (by simp)).mono ?_
 rintro x w2 ⟨rfl, hb2⟩
 have K2 := Hid.mk (And.intro (K.out.2.1.below hb2) (K.out.2.2.trans (Fr.of_below hb2)))
 clear hb2
 generalize hT : (⟨(matT r c hs).toArray⟩ : ByteArray) = T
 have HT := Hid.mk hT
 clear hT
 go_wp2_with fail
 go_ret
 exact ⟨k, pc, hs, us, ws, K.out.1, by rw [HT.out]; rfl, ⟨_, rfl, K2.out.1⟩, K2.out.2⟩
theorem form_dg (B d b g r c : Nat) (zs : List Int) (l : List KMx) (w : World) (hk : KL B w d b l) (hl : l.length + 8 ≤ 24) (hg : l[g]? = some (r, c, zs)) (f : FitsP r c zs) :
 Calls Tryz.prog 19 #[.pointer (some ⟨d, 0, none⟩), .int .i64 g, .bool true] w fun x w' => ∃ y : D5, DgIs r c zs y ∧ y.d.length = r * c ∧ x = .returned (.string ⟨(matT r c y.d).toArray⟩) ∧ (∃ xs, xs.length = 8 ∧ KL B w' d b (l ++ xs)) ∧ Fr b w w' := by
 have c0 := hk.dk.cell
 have H := Hid.mk (And.intro hk (And.intro hg f))
 clear hk hg f
 go_enter Tryz.func19, Tryz.ntmps19
 go_wp2_with fail
 refine (echelon_stk B d b g r c zs l _ H.out.1 (by omega) H.out.2.1 H.out.2.2).mono ?_
 rintro x w1 ⟨hb, xs1, rfl, -, hx1, hk1, hF, -⟩
 have HG : Hid ((l ++ xs1)[g]? = some (r, c, zs)) := Hid.mk (by
  have h1 := H.out.2.1
  rw [List.getElem?_append_left (List.getElem?_eq_some_iff.1 h1).1]; exact h1)
 have HL : Hid ((l ++ xs1).length = l.length + 3) := Hid.mk (by simp [hx1])
 have K := Hid.mk (And.intro hk1 hF)
 have HX := Hid.mk hx1
 clear hk1 hF c0 hx1
 have c0 := K.out.1.dk.cell
 go_wp2_with fail
 refine (diagonal_stk B d b g r c zs (l ++ xs1) _ K.out.1 (by have := HL.out; omega) HG.out H.out.2.2).mono ?_
 rintro x w2 ⟨hb', xs, rfl, ⟨y, rfl, hD, hlen⟩, -, hk2, hF2, hcell⟩
 have c1 := hcell 0 (by omega)
 rw [Nat.add_zero] at c1
 have K1 := Hid.mk (And.intro hD (And.intro hk2 (K.out.2.trans hF2)))
 have HY := Hid.mk hlen.1
 clear hD hk2 hF2 hcell c0 hlen
 generalize hLL : (l ++ xs1).length = LL at c1
 have HLL := Hid.mk hLL
 clear hLL
 go_wp2_with fail
 refine (shown_stk B d b LL r c y.d _ _ K1.out.2.1 (by have := HL.out; simp at this ⊢; omega) (by rw [← HLL.out]; simp)).mono ?_
 rintro x w3 ⟨rfl, hb2⟩
 have K2 := Hid.mk (And.intro (K1.out.2.1.below hb2) (K1.out.2.2.trans (Fr.of_below hb2)))
 clear hb2
 generalize hT : (⟨(matT r c y.d).toArray⟩ : ByteArray) = T
 have HT := Hid.mk hT
 clear hT
 go_wp2_with fail
 go_ret
 refine ⟨y, K1.out.1, HY.out, by rw [HT.out]; rfl, ⟨xs1 ++ [(r, c, y.d), (r, r, y.u), (r, r, y.s), (c, c, y.v), (c, c, y.t)], by simp [HX.out], ?_⟩, K2.out.2⟩
 rw [← List.append_assoc]
 exact K2.out.1
open Go.RowKit
theorem flat_get {α β : Type} (f : α → List β) (n : Nat) (hf : ∀ x, (f x).length = n) : ∀ (l : List α) (k j : Nat) (x : α), l[k]? = some x → j < n → (l.flatMap f)[k * n + j]? = (f x)[j]?
 | [], k, j, x, h, _ => by simp at h
 | a :: l, 0, j, x, h, hj => by
   simp at h
   subst h
   rw [List.flatMap_cons, Nat.zero_mul, Nat.zero_add, List.getElem?_append_left (by rw [hf]; exact hj)]
 | a :: l, k + 1, j, x, h, hj => by
   rw [List.flatMap_cons, List.getElem?_append_right (by rw [hf, Nat.succ_mul]; omega), hf, show (k + 1) * n + j - n = k * n + j by rw [Nat.succ_mul]; omega]
   exact flat_get f n hf l k j x (by simpa using h) hj
def RfAt (w : World) (g : Nat) : Prop := g < w.heap.size ∧ ∀ (k : Nat) (x : Rf), rfs[k]? = some x → ∀ (j : Nat) (v : Value), (rfCells x)[j]? = some v → w.cell? ⟨g, k * 2 + j, none⟩ = some v
def FmAt (w : World) (g : Nat) : Prop := g < w.heap.size ∧ ∀ (k : Nat) (x : Fm), fms[k]? = some x → ∀ (j : Nat) (v : Value), (fmCells x)[j]? = some v → w.cell? ⟨g, k * 6 + j, none⟩ = some v
theorem RfAt.below {w w' : World} {g : Nat} (h : RfAt w g) (hB : Below w.heap.size w w') : RfAt w' g := ⟨by have := hB.size; have := h.1; omega, fun k x hk j v hj => by rw [cell_block (hB.block g h.1)]; exact h.2 k x hk j v hj⟩
theorem FmAt.below {w w' : World} {g : Nat} (h : FmAt w g) (hB : Below w.heap.size w w') : FmAt w' g := ⟨by have := hB.size; have := h.1; omega, fun k x hk j v hj => by rw [cell_block (hB.block g h.1)]; exact h.2 k x hk j v hj⟩
theorem refusals_at (w : World) : Calls Tryz.prog 11 #[] w fun x w' => ∃ g, x = .returned (.slice (some ⟨g, 0, none⟩) 24 24) ∧ RfAt w' g ∧ Below w.heap.size w w' := by
 refine (refusals_any w).mono ?_
 rintro x w' ⟨rfl, rfl⟩
 refine ⟨_, rfl, ⟨by simp, fun k x hk j v hj => ?_⟩, (Below.refl _ _).alloc (Nat.le_refl _) _⟩
 have h1 := flat_get rfCells 2 (fun _ => rfl) rfs k j x hk (List.getElem?_eq_some_iff.1 hj).1
 simp only [World.cell?, heap_alloc_new]
 simp [h1, hj]
theorem knowns_at (w : World) : Calls Tryz.prog 10 #[] w fun x w' => ∃ g, x = .returned (.slice (some ⟨g, 0, none⟩) 12 12) ∧ FmAt w' g ∧ Below w.heap.size w w' := by
 refine (knowns_any w).mono ?_
 rintro x w' ⟨rfl, rfl⟩
 refine ⟨_, rfl, ⟨by simp, fun k x hk j v hj => ?_⟩, (Below.refl _ _).alloc (Nat.le_refl _) _⟩
 have h1 := flat_get fmCells 6 (fun _ => rfl) fms k j x hk (List.getElem?_eq_some_iff.1 hj).1
 simp only [World.cell?, heap_alloc_new]
 simp [h1, hj]
def XAt (w : World) (p : Nat) (cs : List Value) : Prop := p < w.heap.size ∧ ∀ (j : Nat) (v : Value), cs[j]? = some v → w.cell? ⟨p, j, none⟩ = some v
theorem XAt.new (w : World) (cs : List Value) (t : TypeId) : XAt (w.alloc (.cells cs.toArray t)) w.heap.size cs := by
 refine ⟨by simp, fun j v hj => ?_⟩
 simp only [World.cell?, heap_alloc_new]
 simp [hj]
theorem XAt.below {w w' : World} {p : Nat} {cs : List Value} (h : XAt w p cs) (hB : Below w.heap.size w w') : XAt w' p cs := ⟨by have := hB.size; have := h.1; omega, fun j v hj => by rw [cell_block (hB.block p h.1)]; exact h.2 j v hj⟩
theorem XAt.fr {w w' : World} {p b : Nat} {cs : List Value} (h : XAt w p cs) (hF : Fr b w w') (hne : p ≠ b) : XAt w' p cs := ⟨by have := hF.1.size; have := h.1; omega, fun j v hj => by rw [cell_block (hF.1.block p h.1 (by simpa using hne))]; exact h.2 j v hj⟩
theorem KL.frb' {B : Nat} {w w' : World} {d b : Nat} {l : List KMx} (h : KL B w d b l) (hF : Fr b w w') : Below B w w' := hF.below (KS.hb h) (KS.lo h)
theorem det_kn (B d b g : Nat) (x : Fm) (hx : Kn x) (l : List KMx) (w : World) (hk : KL B w d b l) (hl : l.length ≤ 24) (hg : l[g]? = some (x.r, x.c, x.zs)) :
 Calls Tryz.prog 17 #[.pointer (some ⟨b, 0, none⟩), .int .i64 g] w fun y w' => ∃ e : Int, y = .returned (.tuple #[.string ⟨x.dt.toArray⟩, .int .i64 e]) ∧ (e = 3 ∨ e = 0) ∧ Below w.heap.size w w' := by
 refine (det_held b g (stk l) l.length w hk.held hk.tb).mono ?_
 rintro y w' ⟨t, e, rfl, hrel, hb⟩
 rcases hrel with ⟨hn, -⟩ | ⟨i, hd, r1, c1, zs1, hi, hy, hyh, h⟩
 ·exact (stk_no hl hg hn).elim
 ·have e1 := stk_is hi hy hyh hg
  simp only [Prod.mk.injEq] at e1
  obtain ⟨rfl, rfl, rfl⟩ := e1
  rcases h with ⟨h1, rfl, rfl⟩ | ⟨h1, h2, -⟩ | ⟨h1, -, rfl, rfl⟩
  ·exact ⟨3, by rw [hx.nodet h1], .inl rfl, hb⟩
  ·exact absurd hx.fits h2
  ·refine ⟨0, ?_, .inr rfl, hb⟩
   have := hx.det h1
   rw [← this]
   rfl
theorem type_big (B d b r c : Nat) (S : ByteArray) (zs : List Int) (w : World) (hk : KL B w d b []) (hs : S.size ≤ 4000) (hr : r ≤ 99) (hc : c ≤ 99) (hw : Writes S r c zs 4000) (hf : ¬ FitsP r c zs) :
 Calls Tryz.prog 15 #[.pointer (some ⟨b, 0, none⟩), .string S] w fun x w' => x = .returned (.tuple #[.int .i64 (-1), .int .i64 4]) ∧ Below w.heap.size w w' := by
 refine (type_yes b S r c zs (stk []) 0 w hk.held (by omega) hs hr hc hw).mono ?_
 rintro x w' ⟨h, e, rfl, ho⟩
 rcases ho with ⟨rfl, rfl, -, hb⟩ | ⟨-, -, h1, -⟩ | ⟨-, -, h1, -⟩
 ·exact ⟨rfl, hb⟩
 ·exact absurd h1 hf
 ·exact absurd h1 hf
theorem type_fit (B d b r c : Nat) (S : ByteArray) (zs : List Int) (w : World) (hk : KL B w d b []) (hs : S.size ≤ 4000) (hw : Writes S r c zs 4000) (hf : FitsP r c zs) :
 Calls Tryz.prog 15 #[.pointer (some ⟨b, 0, none⟩), .string S] w fun x w' => x = .returned (.tuple #[.int .i64 0, .int .i64 0]) ∧ KL B w' d b [(r, c, zs)] ∧ Fr b w w' := by
 refine (type_yes b S r c zs (stk []) 0 w hk.held (by omega) hs (by have := hf.1; omega) (by have := hf.2.1; omega) hw).mono ?_
 rintro x w' ⟨h, e, rfl, ho⟩
 rcases ho with ⟨-, -, h1, -⟩ | ⟨-, -, -, h1, -⟩ | ⟨rfl, rfl, -, ⟨i, hi, hH⟩, hF⟩
 ·exact absurd hf h1
 ·exact (stk_room (l := []) (by decide) h1).elim
 ·refine ⟨rfl, ?_, hF⟩
  have h1 := stk_put (l := []) (by decide) (r, c, zs) hi
  exact KS.step hk (by have := hH; rw [show (some (0, r, c, zs) : Hm) = some (([] : List KMx).length, r, c, zs) from rfl, h1] at this; exact this) hF
set_option maxRecDepth 100000 in
set_option maxHeartbeats 8000000 in
theorem Known_all (a : Int) (w : World) (ht : Tab w) (ha1 : -9223372036854775808 ≤ a) (ha2 : a ≤ 9223372036854775807) :
 Calls Tryz.prog 4 #[.int .i64 a] w fun x w' => x = .returned (.bool true) ∧ Below w.heap.size w w' := by
 have HT := Hid.mk ht
 clear ht
 go_enter Tryz.func4, Tryz.ntmps4
 go_wp2_with fail
 refine (knowns_at _).mono ?_
 rintro x w1 ⟨g, rfl, hg, hb1⟩
 have K1 := Hid.mk (And.intro hg hb1)
 clear hg hb1
 go_wp2_with fail
 refine (refusals_at _).mono ?_
 rintro x w2 ⟨g2, rfl, hg2, hb2⟩
 have K2 := Hid.mk (And.intro (K1.out.1.below hb2) (And.intro hg2 (K1.out.2.trans (hb2.mono K1.out.2.size))))
 clear hg2 hb2 K1
 go_wp2_with fail
 refine (pick_any a 37 _ ha1 ha2 (by omega) (by omega)).mono ?_
 rintro x w3 ⟨⟨v, rfl, hv⟩, rfl⟩
 go_wp2_with fail
 refine (deskK_any _ (HT.out.below K2.out.2.2)).mono ?_
 rintro x w4 ⟨d, b, rfl, hk, hb4⟩
 have hk' : KL w3.heap.size w4 d b [] := by unfold KL; rw [stk_nil]; exact hk
 have K4 := Hid.mk (And.intro hk' (And.intro (K2.out.1.below hb4) (And.intro (K2.out.2.1.below hb4) (K2.out.2.2.trans (hb4.mono K2.out.2.2.size)))))
 have hlo : w.heap.size ≤ w3.heap.size := K2.out.2.2.size
 clear hk hk' hb4 K2
 by_cases h36 : v = 36
 ·subst h36
  go_wp2_with fail
  refine (longest_any w3.heap.size d b _ K4.out.1).mono ?_
  rintro x w5 ⟨rfl, hb5⟩
  have K5 := Hid.mk (K4.out.2.2.2.trans (hb5.mono K4.out.2.2.2.size))
  clear hb5
  go_wp2_with fail
  go_ret
  exact ⟨rfl, K5.out⟩
 ·by_cases h12 : 12 ≤ v
  ·obtain ⟨k, rfl⟩ : ∃ k, v = k + 12 := ⟨v - 12, by omega⟩
   have hk24 : k < 24 := by omega
   obtain ⟨y, hy⟩ : ∃ y, rfs[k]? = some y := ⟨_, List.getElem?_eq_getElem (show k < rfs.length from hk24)⟩
   have c1 := K4.out.2.2.1.2 k y hy 0 _ rfl
   have c2 := K4.out.2.2.1.2 k y hy 1 _ rfl
   rw [Nat.add_zero] at c1
   obtain ⟨hlen, hcase⟩ := rf_all hy
   have hsz : (⟨y.t.toArray⟩ : ByteArray).size ≤ 4000 := by
    show y.t.toArray.size ≤ 4000
    simpa using hlen
   clear hy hlen
   generalize (⟨y.t.toArray⟩ : ByteArray) = S at *
   generalize y.e = e at *
   have c0 := K4.out.1.dk.cell
   rcases hcase with ⟨rfl, hno⟩ | ⟨r, c, zs, hr, hc, hwr, hcase⟩
   ·have HN := Hid.mk hno
    clear hno
    go_wp2_with fail
    have hX := XAt.new w4 [.string S, .int .i64 1] 36
    have hA : Below w4.heap.size w4 (w4.alloc (.cells #[.string S, .int .i64 1] 36)) := (Below.refl _ _).alloc (Nat.le_refl _) _
    generalize w4.alloc (.cells #[.string S, .int .i64 1] 36) = W at hX hA ⊢
    have KW := Hid.mk (And.intro (K4.out.1.below hA) (And.intro hX (K4.out.2.2.2.trans (hA.mono K4.out.2.2.2.size))))
    have m0 := hX.2 0 _ rfl
    clear hX hA c0
    generalize w4.heap.size = p at *
    have c0 := KW.out.1.dk.cell
    go_region_with (go_at_call 15; refine (type_no b S _ (.inr HN.out)).mono ?_; rintro x w5 ⟨rfl, hb5⟩; replace hb5 := ((Below.refl _ _).drew).trans hb5)
    all_goals
     have K5 := Hid.mk (KW.out.2.2.trans (hb5.mono KW.out.2.2.size))
     have m1 := (KW.out.2.1.below hb5).2 1 _ rfl
     clear hb5 m0 c0
     go_wp2_with fail
     go_ret
     exact ⟨rfl, K5.out⟩
   ·have HN := Hid.mk hwr
    clear hwr
    rcases hcase with ⟨rfl, hf⟩ | ⟨rfl, hf⟩
    ·have HF := Hid.mk hf
     clear hf
     go_wp2_with fail
     have hX := XAt.new w4 [.string S, .int .i64 4] 36
     have hA : Below w4.heap.size w4 (w4.alloc (.cells #[.string S, .int .i64 4] 36)) := (Below.refl _ _).alloc (Nat.le_refl _) _
     generalize w4.alloc (.cells #[.string S, .int .i64 4] 36) = W at hX hA ⊢
     have KW := Hid.mk (And.intro (K4.out.1.below hA) (And.intro hX (K4.out.2.2.2.trans (hA.mono K4.out.2.2.2.size))))
     have m0 := hX.2 0 _ rfl
     clear hX hA c0
     generalize w4.heap.size = p at *
     have c0 := KW.out.1.dk.cell
     go_region_with (go_at_call 15; refine (type_big w3.heap.size d b r c S zs _ (KW.out.1.below (Below.refl _ _).drew) hsz hr hc HN.out HF.out).mono ?_; rintro x w5 ⟨rfl, hb5⟩; replace hb5 := ((Below.refl _ _).drew).trans hb5)
     all_goals
      have K5 := Hid.mk (KW.out.2.2.trans (hb5.mono KW.out.2.2.size))
      have m1 := (KW.out.2.1.below hb5).2 1 _ rfl
      clear hb5 m0 c0
      go_wp2_with fail
      go_ret
      exact ⟨rfl, K5.out⟩
    ·have HF := Hid.mk hf
     clear hf
     go_wp2_with fail
     have hX := XAt.new w4 [.string S, .int .i64 0] 36
     have hA : Below w4.heap.size w4 (w4.alloc (.cells #[.string S, .int .i64 0] 36)) := (Below.refl _ _).alloc (Nat.le_refl _) _
     have hpb : w4.heap.size ≠ b := by have := K4.out.1.held.lt; omega
     generalize w4.alloc (.cells #[.string S, .int .i64 0] 36) = W at hX hA ⊢
     have KW := Hid.mk (And.intro (K4.out.1.below hA) (And.intro hX (K4.out.2.2.2.trans (hA.mono K4.out.2.2.2.size))))
     have m0 := hX.2 0 _ rfl
     clear hX hA c0
     generalize w4.heap.size = p at *
     have c0 := KW.out.1.dk.cell
     go_region_with (go_at_call 15; refine (type_fit w3.heap.size d b r c S zs _ (KW.out.1.below (Below.refl _ _).drew) hsz HN.out HF.out).mono ?_; rintro x w5 ⟨rfl, hk5, hF5⟩)
     all_goals
      have K5 := Hid.mk (KW.out.2.2.trans (((Below.refl _ _).drew).trans (((KW.out.1.below (Below.refl _ _).drew).frb' hF5).mono hlo)))
      have m1 := ((KW.out.2.1.below (Below.refl _ _).drew).fr hF5 hpb).2 1 _ rfl
      clear hk5 hF5 m0 c0
      go_wp2_with fail
      go_ret
      exact ⟨rfl, K5.out⟩
  ·obtain ⟨y, hy⟩ : ∃ y, fms[v]? = some y := ⟨_, List.getElem?_eq_getElem (show v < fms.length from by show v < 12; omega)⟩
   have c1 := K4.out.2.1.2 v y hy 0 _ rfl
   have c2 := K4.out.2.1.2 v y hy 1 _ rfl
   have c3 := K4.out.2.1.2 v y hy 2 _ rfl
   have c4 := K4.out.2.1.2 v y hy 3 _ rfl
   have c5 := K4.out.2.1.2 v y hy 4 _ rfl
   have c6 := K4.out.2.1.2 v y hy 5 _ rfl
   rw [Nat.add_zero] at c1
   have HK := Hid.mk (kn_all hy)
   have hsz : (⟨y.m.toArray⟩ : ByteArray).size ≤ 4000 := by
    show y.m.toArray.size ≤ 4000
    simpa using HK.out.size
   clear hy
   have HW := Hid.mk HK.out.wr
   obtain ⟨Sm, hSm⟩ : ∃ S, (⟨y.m.toArray⟩ : ByteArray) = S := ⟨_, rfl⟩
   obtain ⟨Sr, hSr⟩ : ∃ S, (⟨y.rk.toArray⟩ : ByteArray) = S := ⟨_, rfl⟩
   obtain ⟨Sd, hSd⟩ : ∃ S, (⟨y.dt.toArray⟩ : ByteArray) = S := ⟨_, rfl⟩
   obtain ⟨Si, hSi⟩ : ∃ S, (⟨y.ix.toArray⟩ : ByteArray) = S := ⟨_, rfl⟩
   obtain ⟨Sf, hSf⟩ : ∃ S, (⟨y.fo.toArray⟩ : ByteArray) = S := ⟨_, rfl⟩
   obtain ⟨Sg, hSg⟩ : ∃ S, (⟨y.dg.toArray⟩ : ByteArray) = S := ⟨_, rfl⟩
   rw [hSm] at c1 HW hsz
   rw [hSr] at c2
   rw [hSd] at c3
   rw [hSi] at c4
   rw [hSf] at c5
   rw [hSg] at c6
   have hgq : Sg ≠ (⟨#[63]⟩ : ByteArray) := by
    rw [← hSg]
    intro e
    have h1 : y.dg.toArray = [63].toArray := congrArg ByteArray.data e
    exact HK.out.dgq (by simpa using h1)
   have HS := Hid.mk (And.intro hSm (And.intro hSr (And.intro hSd (And.intro hSi (And.intro hSf hSg)))))
   clear hSm hSr hSd hSi hSf hSg
   have c0 := K4.out.1.dk.cell
   have hv12 : v < 12 := by omega
   have HF := Hid.mk HK.out.fits
   clear h36 h12 hv
   go_upto_region 12 with fail
   have hX := XAt.new w4 [.string Sm, .string Sr, .string Sd, .string Si, .string Sf, .string Sg] 43
   have hA : Below w4.heap.size w4 (w4.alloc (.cells #[.string Sm, .string Sr, .string Sd, .string Si, .string Sf, .string Sg] 43)) := (Below.refl _ _).alloc (Nat.le_refl _) _
   have hpb : w4.heap.size ≠ b := by have := K4.out.1.held.lt; omega
   generalize w4.alloc (.cells #[.string Sm, .string Sr, .string Sd, .string Si, .string Sf, .string Sg] 43) = W at hX hA ⊢
   have KW := Hid.mk (And.intro (K4.out.1.below hA) (And.intro hX (K4.out.2.2.2.trans (hA.mono K4.out.2.2.2.size))))
   have m0 := hX.2 0 _ rfl
   clear hX hA c0 c1 c2 c3 c4 c5 c6 K4
   generalize w4.heap.size = p at *
   have c0 := KW.out.1.dk.cell
   go_region_with (go_at_call 15; refine (type_fit w3.heap.size d b y.r y.c Sm y.zs _ (KW.out.1.below (Below.refl _ _).drew) hsz HW.out HF.out).mono ?_; rintro x w5 ⟨rfl, hk5, hF5⟩)
   all_goals
    have K5 := Hid.mk (And.intro hk5 (And.intro ((KW.out.2.1.below (Below.refl _ _).drew).fr hF5 hpb) (KW.out.2.2.trans (((Below.refl _ _).drew).trans (((KW.out.1.below (Below.refl _ _).drew).frb' hF5).mono hlo)))))
    clear hk5 hF5 c0 m0 KW
    have c0 := K5.out.1.dk.cell
    go_wp2_with fail
    refine (rank_stk w3.heap.size d b 0 y.r y.c y.zs [(y.r, y.c, y.zs)] _ K5.out.1 (by simp) rfl HF.out).mono ?_
    rintro x w6 ⟨kr, hkr, rfl, hb6⟩
    have hkr4 : kr ≤ 4 := Nat.le_trans hkr.1 HF.out.1
    have HR := Hid.mk hkr
    have K6 := Hid.mk (And.intro (K5.out.1.below hb6) (And.intro (K5.out.2.1.below hb6) (K5.out.2.2.trans (hb6.mono K5.out.2.2.size))))
    clear hkr hb6 K5 c0
    have c0 := K6.out.1.dk.cell
    go_wp2_with fail
    refine (det_kn w3.heap.size d b 0 y HK.out [(y.r, y.c, y.zs)] _ K6.out.1 (by simp) rfl).mono ?_
    rintro x w7 ⟨e7, rfl, he7, hb7⟩
    rw [HS.out.2.2.1]
    have K7 := Hid.mk (And.intro (K6.out.1.below hb7) (And.intro (K6.out.2.1.below hb7) (K6.out.2.2.trans (hb7.mono K6.out.2.2.size))))
    clear hb7 K6 c0
    have c0 := K7.out.1.dk.cell
    go_wp2_with fail
    refine (index_stk w3.heap.size d b 0 y.r y.c y.zs [(y.r, y.c, y.zs)] _ K7.out.1 (by simp) rfl HF.out).mono ?_
    rintro x w8 ⟨ki, hki, rfl, hb8⟩
    have e8 : (⟨(Lib.itoa ((R.divF (ent y.c y.zs) y.r y.c ki : Nat) : Int)).toArray⟩ : ByteArray) = Si := by rw [HK.out.index ki hki, HS.out.2.2.2.1]
    rw [e8]
    have K8 := Hid.mk (And.intro (K7.out.1.below hb8) (And.intro (K7.out.2.1.below hb8) (K7.out.2.2.trans (hb8.mono K7.out.2.2.size))))
    clear hb8 K7 c0 hki e8
    have c0 := K8.out.1.dk.cell
    rcases he7 with rfl | rfl
    all_goals
     go_wp2_with fail
     refine (form_ech w3.heap.size d b 0 y.r y.c y.zs [(y.r, y.c, y.zs)] _ K8.out.1 (by simp) rfl HF.out).mono ?_
     rintro x w9 ⟨kf, pc, hs, us, ws, hE, rfl, ⟨xs, hxl, hk9⟩, hF9⟩
     have hq9 : Sf = (⟨#[63]⟩ : ByteArray) ∨ (⟨(matT y.r y.c hs).toArray⟩ : ByteArray) = Sf := by
      rcases HK.out.form with h1 | h1
      ·exact .inl (by rw [← HS.out.2.2.2.2.1, h1])
      ·exact .inr (by rw [h1 _ _ _ _ _ hE, HS.out.2.2.2.2.1])
     have K9 := Hid.mk (And.intro hk9 (And.intro (K8.out.2.1.fr hF9 hpb) (K8.out.2.2.trans ((K8.out.1.frb' hF9).mono hlo))))
     generalize (⟨(matT y.r y.c hs).toArray⟩ : ByteArray) = U at *
     have HX := Hid.mk hxl
     have HQ := Hid.mk hq9
     clear hE hk9 hF9 K8 c0 hxl hq9
     go_wp2_with fail
     refine (form_dg w3.heap.size d b 0 y.r y.c y.zs ([(y.r, y.c, y.zs)] ++ xs) _ K9.out.1 (by simp [HX.out]) rfl HF.out).mono ?_
     rintro x wA ⟨z, hD, hzl, rfl, ⟨ys, hyl, hkA⟩, hFA⟩
     have eA : (⟨(matT y.r y.c z.d).toArray⟩ : ByteArray) = Sg := by rw [HK.out.diag z hD hzl, HS.out.2.2.2.2.2]
     rw [eA]
     have KA := Hid.mk (And.intro hkA (And.intro (K9.out.2.1.fr hFA hpb) (K9.out.2.2.trans ((K9.out.1.frb' hFA).mono hlo))))
     have HY := Hid.mk hyl
     clear hD hzl eA hkA hFA K9 hyl
     go_wp2_with fail
     refine (shown_stk w3.heap.size d b 0 y.r y.c y.zs ([(y.r, y.c, y.zs)] ++ xs ++ ys) _ KA.out.1 (by simp [HX.out, HY.out]) rfl).mono ?_
     rintro x wB ⟨rfl, hbB⟩
     have eB : (⟨(matT y.r y.c y.zs).toArray⟩ : ByteArray) = Sm := by rw [HK.out.txt, HS.out.1]
     rw [eB]
     have KB := Hid.mk (And.intro (KA.out.2.1.below hbB) (KA.out.2.2.trans (hbB.mono KA.out.2.2.size)))
     clear hbB KA eB
     go_wp2_with fail
     refine (number_any kr _ (by omega) (by omega)).mono ?_
     rintro x wC ⟨rfl, hbC⟩
     have eC : (⟨(Lib.itoa (kr : Int)).toArray⟩ : ByteArray) = Sr := by rw [HK.out.rank kr HR.out, HS.out.2.1]
     rw [eC]
     have KC := Hid.mk (KB.out.2.trans (hbC.mono KB.out.2.size))
     obtain ⟨hpC, hXC⟩ := KB.out.1.below hbC
     have m0 := hXC 0 _ rfl
     have m1 := hXC 1 _ rfl
     have m2 := hXC 2 _ rfl
     have m3 := hXC 3 _ rfl
     have m4 := hXC 4 _ rfl
     have m5 := hXC 5 _ rfl
     clear hXC hbC KB eC
     rcases HQ.out with rfl | rfl
     all_goals
      go_wp2_with fail
      all_goals
       go_ret
       exact ⟨rfl, KC.out⟩
end Go.Proofs.YtfjbijpagaipnabGreatDoor
