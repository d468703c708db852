import Derived.Test.YtfjbijpagaipnabDoorQ27
import Derived.Test.YtfjbijpagaipnabDoorQ19
import Derived.Test.YtfjbijpagaipnabDoorQ22
import Derived.Test.YtfjbijpagaipnabDoorQ18
import Derived.Test.YtfjbijpagaipnabDoorQ17
import Derived.BigRegion
import Derived.Test.YtfjbijpagaipnabDoorQ08
import Derived.Test.YtfjbijpagaipnabDoorQ20
import Derived.BigQuiet
import Derived.Deep.RegionHeld3
import Derived.Test.YtfjbijpagaipnabDoorQ09
import Derived.Deep.CutRange
import Derived.Laws.CopyOwn
import Derived.Deep.RegionLaw
import Derived.Test.YtfjbijpagaipnabDoorQ24
import Derived.Deep.RegionLawGrows
import Derived.StillTailTactics
import Derived.Deep.RegionWith
import Derived.Laws.Cover3
import Derived.Test.YtfjbijpagaipnabDoorQ25
import Derived.Test.YtfjbijpagaipnabDoorQ23
namespace Go.Proofs.YtfjbijpagaipnabDoor
open Go.RowKit R
def IdxRel (ms : List Hm) (h : Int) (t : List UInt8) (e : Int) : Prop :=
 ((∀ i, i < 24 → ∀ x, ms.getD i none = some x → (x.1 : Int) ≠ h) ∧ t = [] ∧ e = 2) ∨
 ∃ i hd r c zs, i < 24 ∧ ms.getD i none = some (hd, r, c, zs) ∧ ((hd : Nat) : Int) = h ∧ ((¬ FitsP r c zs ∧ t = [] ∧ e = 4) ∨ (FitsP r c zs ∧ e = 0 ∧ ∃ k, RankIs (gz c zs) r c k ∧ t = Lib.itoa ((divF (gz c zs) r c k : Nat) : Int)))
theorem DgIs.index {r c : Nat} {zs : List Int} {x : D5} (h : DgIs r c zs x) : ∃ k, RankIs (gz c zs) r c k ∧ idxP (ent c x.d) (min r c) = ((divF (gz c zs) r c k : Nat) : Int) := by
 obtain ⟨k, hk⟩ := h.low
 refine ⟨k, hk.rk, ?_⟩
 have h1 := hk.low.kr
 have h2 := hk.low.kc
 rw [idx_pr hk.low (min r c) (by omega) (by omega), show min (min r c) k = k by omega]
 have h3 := hk.low.pr_pos (Nat.le_refl k)
 have h4 : (pr (ent c x.d) 0 k).natAbs = divF (gz c zs) r c k := hk.q
 omega
set_option maxRecDepth 100000 in
set_option maxHeartbeats 4000000 in
theorem index_held (b : Nat) (h : Int) (ms : List Hm) (nx : Nat) (w : World) (hst : Held w b ms nx) (htab : Tab w) :
 Calls Tryd.prog 18 #[.pointer (some ⟨b, 0, none⟩), .int .i64 h] w fun x w' => ∃ t e, x = .returned (.tuple #[.string ⟨t.toArray⟩, .int .i64 e]) ∧ IdxRel ms h t e ∧ Below w.heap.size w w' := by
 have H := Hid.mk (And.intro hst htab)
 clear hst htab
 go_enter Tryd.func18, Tryd.ntmps18
 go_wp2_with fail
 refine (find_held b h ms nx _ H.out.1).mono ?_
 rintro e w1 ⟨⟨r, c, ao, n, cap, ok, rfl, hf⟩, hb1⟩
 have hbA := (Below.refl w1.heap.size w1).alloc (Nat.le_refl _) (.cells #[.int .i64 r, .int .i64 c, .slice ao n cap] 56)
 have hbw := hb1.trans (hbA.mono hb1.size)
 have hw1 := hb1.size
 rcases id hf with ⟨rfl, i, hd, zs, hi, hgi, hgh, hM⟩ | ⟨rfl, hno⟩
 ·have K1 := Hid.mk (And.intro (hM.below hbA) (And.intro hbw (And.intro hi (And.intro hgi hgh))))
  clear hf hM hb1 hbA hbw hi hgi hgh
  go_wp2_with fail
  refine (tooBig_any _ r c zs 200000000 _ K1.out.1 (by omega)).mono ?_
  rintro e w2 ⟨fb, rfl, hfo, hb2⟩
  have hs2 : w1.heap.size + 1 ≤ w2.heap.size := by have := hb2.size; simpa using this
  have m0 : w2.cell? ⟨w1.heap.size, 0, none⟩ = some (.int .i64 r) := cell_later hb2 (by simp)
  have m1 : w2.cell? ⟨w1.heap.size, 1, none⟩ = some (.int .i64 c) := cell_later hb2 (by simp)
  have m2 : w2.cell? ⟨w1.heap.size, 2, none⟩ = some (.slice ao n cap) := cell_later hb2 (by simp)
  have K2 := Hid.mk (And.intro (K1.out.1.below hb2) (And.intro (K1.out.2.1.trans (hb2.mono K1.out.2.1.size)) hfo))
  clear hb2 hfo
  cases fb
  ·have HNF : Hid (¬ FitsP r c zs) := Hid.mk (fun h => by have := K2.out.2.2.2 h; cases this)
   go_wp2_with fail
   go_ret2
   exact ⟨[], _, rfl, .inr ⟨i, hd, r, c, zs, K1.out.2.2.1, K1.out.2.2.2.1, K1.out.2.2.2.2, .inl ⟨HNF.out, rfl, rfl⟩⟩, K2.out.2.1⟩
  ·have HFP : Hid (FitsP r c zs) := Hid.mk (K2.out.2.2.1 rfl)
   go_wp2_with fail
   refine (gdiag_any _ r c zs _ (K2.out.1.tight HFP.out) HFP.out.1 HFP.out.2.1 HFP.out.ent).mono ?_
   rintro e w3 ⟨x, sD, sU, sS, sV, sT, rfl, hMs, hIs, hb3⟩
   have K3 := Hid.mk (And.intro hMs (And.intro hIs (K2.out.2.1.trans (hb3.mono K2.out.2.1.size))))
   clear hMs hIs hb3 m0 m1 m2
   go_wp2_with fail
   refine (index_any r c sD sU sS sV sT x.d x.u x.s x.v x.t 7200000 30000000 _ K3.out.1.1 K3.out.1.2.1 K3.out.1.2.2.1 K3.out.1.2.2.2.1 K3.out.1.2.2.2.2 HFP.out.1 HFP.out.2.1 (by omega)).mono ?_
   rintro e w4 ⟨v4, rfl, hx4, hb4⟩
   obtain ⟨k, hk, hidx⟩ := K3.out.2.1.index
   rw [hidx] at hx4
   have hb04 := K3.out.2.2.trans (hb4.mono K3.out.2.2.size)
   have K4 := Hid.mk (And.intro hx4 (And.intro hb04 (And.intro (H.out.2.below hb04) hk)))
   clear hx4 hb4 hidx hk hb04
   go_wp2_with fail
   refine (decimal_any _ _ _ _ K4.out.1 (by omega) K4.out.2.2.1).mono ?_
   rintro e w5 ⟨rfl, hb5⟩
   have K5 := Hid.mk (K4.out.2.1.trans (hb5.mono K4.out.2.1.size))
   clear hb5
   go_wp2_with fail
   go_ret2
   exact ⟨_, _, rfl, .inr ⟨i, hd, r, c, zs, K1.out.2.2.1, K1.out.2.2.2.1, K1.out.2.2.2.2, .inr ⟨HFP.out, rfl, k, K4.out.2.2.2, rfl⟩⟩, K5.out⟩
 ·have KN := Hid.mk (And.intro hno hbw)
  clear hno hbw hb1 hbA hf
  go_wp2_with fail
  go_ret2
  exact ⟨[], _, rfl, .inl ⟨KN.out.1, rfl, rfl⟩, KN.out.2⟩
open Go.RowKit
theorem index_stk (B d b g r c : Nat) (zs : List Int) (l : List KMx) (w : World) (hk : KL B w d b l) (hl : l.length ≤ 24) (hg : l[g]? = some (r, c, zs)) (f : FitsP r c zs) :
 Calls Tryd.prog 18 #[.pointer (some ⟨b, 0, none⟩), .int .i64 g] w fun x w' => ∃ k, R.RankIs (ent c zs) r c k ∧ x = .returned (.tuple #[.string ⟨(Lib.itoa ((R.divF (ent c zs) r c k : Nat) : Int)).toArray⟩, .int .i64 0]) ∧ Below w.heap.size w w' := by
 refine (index_held b g (stk l) l.length w hk.held hk.tb).mono ?_
 rintro x w' ⟨t, e, rfl, hrel, hb⟩
 rcases hrel with ⟨hn, -⟩ | ⟨i, hd, r1, c1, zs1, hi, hx, hxh, h⟩
 ·exact (stk_no hl hg hn).elim
 ·have e1 := stk_is hi hx hxh hg
  simp only [Prod.mk.injEq] at e1
  obtain ⟨rfl, rfl, rfl⟩ := e1
  rcases h with ⟨h, -⟩ | ⟨-, rfl, k, h1, rfl⟩
  ·exact absurd f h
  ·exact ⟨k, h1, rfl, hb⟩
theorem rank_stk (B d b g r c : Nat) (zs : List Int) (l : List KMx) (w : World) (hk : KL B w d b l) (hl : l.length ≤ 24) (hg : l[g]? = some (r, c, zs)) (f : FitsP r c zs) :
 Calls Tryd.prog 20 #[.pointer (some ⟨b, 0, none⟩), .int .i64 g] w fun x w' => ∃ k : Nat, R.RankIs (ent c zs) r c k ∧ x = .returned (.tuple #[.int .i64 k, .int .i64 0]) ∧ Below w.heap.size w w' := by
 refine (rank_held b g (stk l) l.length w hk.held).mono ?_
 rintro x w' ⟨t, e, rfl, hrel, hb⟩
 rcases hrel with ⟨hn, -⟩ | ⟨i, hd, r1, c1, zs1, hi, hx, hxh, h⟩
 ·exact (stk_no hl hg hn).elim
 ·have e1 := stk_is hi hx hxh hg
  simp only [Prod.mk.injEq] at e1
  obtain ⟨rfl, rfl, rfl⟩ := e1
  rcases h with ⟨h, -⟩ | ⟨-, rfl, k, rfl, h1⟩
  ·exact absurd f h
  ·exact ⟨k, h1, rfl, hb⟩
end Go.Proofs.YtfjbijpagaipnabDoor
namespace Go.Proofs.YtfjbijpagaipnabDoor.R
open Go.RowKit
open Go.RowKit
open Go.RowKit
open Go.RowKit
open Go.RowKit
open Go.RowKit
open Go.RowKit
open Go.RowKit
open Go.RowKit
end Go.Proofs.YtfjbijpagaipnabDoor.R
namespace Go.Proofs.YtfjbijpagaipnabDoor
open Go.RowKit R
open Go.RowKit R
open Go.RowKit R
def fz (c : Nat) (zs : List Int) : Nat → Nat → Int := fun i j => zs.getD (i * c + j) 0
open Go.RowKit R
open Go.RowKit R
open Go.RowKit R
open Go.RowKit R
open Go.RowKit R
open Go.RowKit
open Go.RowKit R
open Go.RowKit R
open Go.RowKit R
open Go.RowKit R
open Go.RowKit R
open Go.RowKit R
open Go.RowKit R
end Go.Proofs.YtfjbijpagaipnabDoor
namespace Go.Proofs.YtfjbijpagaipnabDoor.R
open Go.RowKit
end Go.Proofs.YtfjbijpagaipnabDoor.R
namespace Go.Proofs.YtfjbijpagaipnabDoor
open Go.RowKit R
open Go.RowKit R
open Go.RowKit R
theorem sm_cut (f : Nat → Int) (m : Nat) : ∀ n, m ≤ n → (∀ l, m ≤ l → l < n → f l = 0) → sm f n = sm f m := by
 intro n
 induction n with
 | zero => intro h _; rw [show m = 0 by omega]
 | succ n ih =>
   intro h h0
   by_cases e : m = n + 1
   ·rw [e]
   ·rw [sm, ih (by omega) (fun l a b => h0 l a (by omega)), h0 n (by omega) (by omega)]; omega
theorem shL_at (H : Nat → Nat → Int) (pc : Nat → Nat) (v : Nat → Int) {r k t : Nat} (ht : t < r) : (shL H pc v r k).getD t 0 = if t < k then exQ H pc v t else 0 := by
 unfold shL
 rw [List.getD, List.getElem?_map, List.getElem?_range ht]
 rfl
theorem MemIs.back {r c : Nat} {zs vs xs : List Int} (h : MemIs r c zs vs xs) (hs : Sp (ent c zs) r c (ent c vs 0)) : ∀ i j, i < 1 → j < c → dot (fz r xs) (fz c zs) i j r = fz c vs i j := by
 obtain ⟨k, pc, hs', us, ws, hE, rfl⟩ := h
 intro i j hi hj
 obtain rfl : i = 0 := by omega
 obtain ⟨sh, hsh⟩ : ∃ sh, sh = shL (ent c hs') pc (ent c vs 0) r k := ⟨_, rfl⟩
 have e1 : dot (fz r (prodL 1 r r (shL (ent c hs') pc (ent c vs 0) r k) us)) (fz c zs) 0 j r = mm r (mm r (fz r sh) (fz r us)) (fz c zs) 0 j := by
  refine dot_congr r (fun l hl => ?_) (fun l hl => rfl)
  rw [← hsh]
  exact prodL_at (by omega) hl
 rw [e1, mm_assoc]
 have e2 : mm r (fz r sh) (mm r (fz r us) (fz c zs)) 0 j = dot (fz r sh) (ent c hs') 0 j r := dot_congr r (fun l hl => rfl) (fun l hl => hE.inv.ua l j hl hj)
 rw [e2, dot_sm]
 have hle := hE.st.le
 have e3 : sm (fun l => fz r sh 0 l * ent c hs' l j) r = sm (fun l => exQ (ent c hs') pc (ent c vs 0) l * ent c hs' l j) k := by
  rw [sm_cut _ k r hle (fun l a b => by
   show sh.getD (0 * r + l) 0 * _ = 0
   rw [Nat.zero_mul, Nat.zero_add, hsh, shL_at _ _ _ b, if_neg (by omega)]; simp)]
  refine sm_congr k (fun l hl => ?_)
  show sh.getD (0 * r + l) 0 * _ = _
  rw [Nat.zero_mul, Nat.zero_add, hsh, shL_at _ _ _ (by omega), if_pos hl]
 rw [e3]
 exact (ex_back ((mem_iff hE.st hE.inv).2 hs) j hj).symm
open Go.RowKit R
open Go.RowKit
set_option maxRecDepth 100000 in
set_option maxHeartbeats 4000000 in
theorem kernel_any (v : Value) (r c k : Nat) (hs us ws : List Int) (L : Nat) (w : World) (hf : IsF w v r c k hs us ws L) (hk : k ≤ r) :
 Calls Tryd.prog 43 #[v] w fun e w' => ∃ g ms, e = .returned (.agg #[.int .i64 ((r - k : Nat) : Int), .int .i64 r, .slice (some ⟨g, 0, none⟩) ((r - k) * r) ((r - k) * r)]) ∧ w.heap.size ≤ g ∧ Grid w' (.slice (some ⟨g, 0, none⟩) ((r - k) * r) ((r - k) * r)) ((r - k) * r) ms L ∧ (∀ i j, i < r - k → j < r → ent r ms i j = ent r us (k + i) j) ∧ Below w.heap.size w w' := by
 obtain ⟨sH, sU, sW, rfl, mH, mU, mW⟩ := hf
 obtain ⟨oH, cH, rfl⟩ := mH.slice
 obtain ⟨oU, cU, rfl⟩ := mU.slice
 obtain ⟨oW, cW, rfl⟩ := mW.slice
 have hr := mH.1
 have HM := Hid.mk mU
 clear mH mU mW
 obtain ⟨N, hN⟩ : ∃ N, N = r * c := ⟨_, rfl⟩
 obtain ⟨M, hM⟩ : ∃ M, M = r * r := ⟨_, rfl⟩
 obtain ⟨q, hq⟩ : ∃ q, q = r - k := ⟨_, rfl⟩
 rw [← hM] at HM ⊢
 rw [← hN, ← hq]
 have hsub : (r : Int) - (k : Int) = (q : Int) := by omega
 have hqr : q ≤ r := by omega
 have HQ := Hid.mk hq
 clear hN hM hq
 go_enter Tryd.func43, Tryd.ntmps43
 go_wp2_with fail
 obtain ⟨W0, hW0⟩ : ∃ W0, W0 = (w.alloc (.cells #[.int .i64 r, .int .i64 c, .slice oH N cH, .int .i64 r, .int .i64 r, .slice oU M cU, .int .i64 r, .int .i64 r, .slice oW M cW, .int .i64 k] 77)).alloc (.cells #[.int .i64 0, .int .i64 0, .slice none 0 0] 56) := ⟨_, rfl⟩
 have hs0 : W0.heap.size = w.heap.size + 2 := by rw [hW0]; simp
 have hb0 : Below w.heap.size w W0 := by rw [hW0]; repeat (first | exact Below.refl _ _ | refine Below.alloc ?_ (by simp <;> omega) _)
 have hR0 : W0.heap[w.heap.size + 1]? = some (.cells #[.int .i64 0, .int .i64 0, .slice none 0 0] 56 (0, 0)) := by
  rw [hW0]
  have := heap_alloc_new (w.alloc (.cells #[.int .i64 r, .int .i64 c, .slice oH N cH, .int .i64 r, .int .i64 r, .slice oU M cU, .int .i64 r, .int .i64 r, .slice oW M cW, .int .i64 k] 77)) (.cells #[.int .i64 0, .int .i64 0, .slice none 0 0] 56)
  simpa using this
 have hF0 : W0.heap[w.heap.size]? = some (.cells #[.int .i64 r, .int .i64 c, .slice oH N cH, .int .i64 r, .int .i64 r, .slice oU M cU, .int .i64 r, .int .i64 r, .slice oW M cW, .int .i64 k] 77 (0, 0)) := by
  rw [hW0]
  have h1 := heap_alloc_new w (.cells #[.int .i64 r, .int .i64 c, .slice oH N cH, .int .i64 r, .int .i64 r, .slice oU M cU, .int .i64 r, .int .i64 r, .slice oW M cW, .int .i64 k] 77)
  exact (((Below.refl (w.alloc (.cells #[.int .i64 r, .int .i64 c, .slice oH N cH, .int .i64 r, .int .i64 r, .slice oU M cU, .int .i64 r, .int .i64 r, .slice oW M cW, .int .i64 k] 77)).heap.size _).alloc (Nat.le_refl _) _).block _ (by simp)).trans h1
 have K0 := Hid.mk (And.intro hb0 (And.intro (show RfM W0 w.heap.size r c k (.slice oH N cH) (.slice oU M cU) (.slice oW M cW) from hF0) (And.intro hR0 hW0)))
 rw [← hW0]
 clear hb0 hF0 hR0 hW0
 refine (noughts_any q r _ (by omega) hr).mono ?_
 rintro e w1 ⟨g, rfl, hg1, hG1, hb1⟩
 have hw1 : W0.heap.size ≤ w1.heap.size := hb1.size
 have hgl := hG1.ty.lt
 have hb11 := (Below.refl w1.heap.size w1).alloc (Nat.le_refl _) (.cells #[.int .i64 q, .int .i64 r, .slice (some ⟨g, 0, none⟩) (q * r) (q * r)] 56)
 have hTm : Tri (w1.alloc (.cells #[.int .i64 q, .int .i64 r, .slice (some ⟨g, 0, none⟩) (q * r) (q * r)] 56)) w1.heap.size 0 (.int .i64 q) (.int .i64 r) (.slice (some ⟨g, 0, none⟩) (q * r) (q * r)) := ⟨new_cell _ _ _ _ _ rfl rfl, new_cell _ _ _ _ _ rfl rfl, new_cell _ _ _ _ _ rfl rfl⟩
 obtain ⟨W1, hW1⟩ : ∃ W1, W1 = w1.alloc (.cells #[.int .i64 q, .int .i64 r, .slice (some ⟨g, 0, none⟩) (q * r) (q * r)] 56) := ⟨_, rfl⟩
 have hs1 : W1.heap.size = w1.heap.size + 1 := by rw [hW1]; simp
 rw [← hW1] at hb11 hTm
 have hbW := hb1.trans (hb11.mono hw1)
 have K1 := Hid.mk (And.intro (show MatO W1 w1.heap.size 0 g q r (List.replicate (q * r) 0) L from ⟨by omega, hr, hTm, (hG1.mono (Nat.zero_le _)).below hb11⟩) (And.intro hbW hW1))
 clear hG1 hb1 hb11 hTm hW1 hbW
 go_wp2_with fail
 rw [← K1.out.2.2]
 have hpg : w1.heap.size ≠ g := by omega
 have hg2 : W0.heap.size ≤ g := hg1
 go_loopw [5] (fun i wr => ∃ (a : Nat) (ms : List Int), a ≤ q ∧ i = .int .i64 a ∧ Hid (MatO wr w1.heap.size 0 g q r ms L ∧ W1.grownBy wr (some g) ∧ ∀ i j, i < q → j < r → i < a → ent r ms i j = ent r us (k + i) j)) (fun i _ => q - (intOf i).toNat)
 case atStart => exact ⟨0, _, Nat.zero_le _, rfl, Hid.mk ⟨K1.out.1, World.grownBy.refl _ _, fun i j _ _ h => by omega⟩⟩
 case round =>
  rename World => wo
  obtain ⟨a, ms, ha, rfl, HI⟩ := hrel
  have hfo : RfM wo w.heap.size r c k (.slice oH N cH) (.slice oU M cU) (.slice oW M cW) := (HI.out.2.1.block _ (by omega) (by simp; omega)).trans (K0.out.2.1.below K1.out.2.1 (by omega))
  by_cases haq : a < q
  ·have hai : (a : Int) < (q : Int) := by omega
   go_wp2_with fail
   go_loopw [6] (fun i wr => ∃ (e : Nat) (ns : List Int), e ≤ r ∧ i = .int .i64 e ∧ Hid (MatO wr w1.heap.size 0 g q r ns L ∧ W1.grownBy wr (some g) ∧ ∀ i j, i < q → j < r → (i < a ∨ (i = a ∧ j < e)) → ent r ns i j = ent r us (k + i) j)) (fun i _ => r - (intOf i).toNat)
   case atStart => exact ⟨0, ms, Nat.zero_le _, rfl, Hid.mk ⟨HI.out.1, HI.out.2.1, fun i j x y h => HI.out.2.2 i j x y (by omega)⟩⟩
   case round =>
    rename World => wi
    obtain ⟨e, ns, he, rfl, HJ⟩ := hrel
    have hfi : RfM wi w.heap.size r c k (.slice oH N cH) (.slice oU M cU) (.slice oW M cW) := (HJ.out.2.1.block _ (by omega) (by simp; omega)).trans (K0.out.2.1.below K1.out.2.1 (by omega))
    obtain ⟨f0, f1, f2, f3, f4, f5, f6, f7, f8⟩ := hfi.cells
    have f9 : wi.cell? ⟨w.heap.size, 9, none⟩ = some (.int .i64 k) := by unfold RfM at hfi; simp [World.cell?, hfi]
    have hbi : Below w.heap.size w wi := (K0.out.1.trans (K1.out.2.1.mono (by omega))).trans (below_of_grown HJ.out.2.1 (by omega) (by omega))
    have hwi := HJ.out.2.1.size
    have KI := Hid.mk hbi
    clear hbi hfi
    by_cases her : e < r
    ·have hei : (e : Int) < (r : Int) := by omega
     obtain ⟨A, hA⟩ : ∃ A, A = k + a := ⟨_, rfl⟩
     have hsum : (k : Int) + (a : Int) = (A : Int) := by omega
     have hwA : IntKind.i64.wrap (A : Int) = (A : Int) := IntWalk.i64_in _ (by omega)
     have hAr : A < r := by have := HQ.out; omega
     have HA := Hid.mk hA
     clear hA
     go_wp2_with fail
     refine (at_in _ r r A e us L _ (HM.out.below KI.out) hAr her).mono ?_
     rintro e9 w2 ⟨x, rfl, hx, hb2⟩
     obtain ⟨nb2, so2, n2, cp2, rfl⟩ := hx.shape
     have hb22 := (Below.refl w2.heap.size w2).alloc (Nat.le_refl _) (.cells #[.bool nb2, .slice so2 n2 cp2] 69)
     have hbB := hb2.trans (hb22.mono hb2.size)
     have K2 := Hid.mk (And.intro hbB (hx.below hb22))
     clear hx hb2 hb22 hbB f0 f1 f2 f3 f4 f5 f6 f7 f8 f9
     go_wp2_with fail
     refine (set_m w1.heap.size 0 g q r a e ns L _ _ _ (HJ.out.1.later K2.out.1) hpg K2.out.2 haq her).mono ?_
     rintro e9 w3 ⟨rfl, hM3, hgr3, -⟩
     have K3 := Hid.mk (And.intro hM3 (grown_trans (grown_below HJ.out.2.1 K2.out.1) hgr3))
     clear hM3 hgr3
     go_wp2_with fail
     go_roundw
     case measure => simp [intOf]; omega
     case rel =>
      refine ⟨e + 1, _, by omega, by go_num, Hid.mk ⟨K3.out.1, K3.out.2, fun i j hi hj hd => ?_⟩⟩
      rw [ent_set ns q r HJ.out.1.len a e i j _ haq her hj]
      by_cases hij : i = a ∧ j = e
      ·obtain ⟨rfl, rfl⟩ := hij
       rw [if_pos ⟨rfl, rfl⟩, HA.out]
       rfl
      ·rw [if_neg hij]
       exact HJ.out.2.2 i j hi hj (by omega)
    ·have hei : ¬ (e : Int) < (r : Int) := by omega
     go_wp2_with fail
     go_roundw
     case measure => simp [intOf]; omega
     case rel => exact ⟨a + 1, ns, by omega, by go_num, Hid.mk ⟨HJ.out.1, HJ.out.2.1, fun i j hi hj hd => HJ.out.2.2 i j hi hj (by omega)⟩⟩
  ·have hai : ¬ (a : Int) < (q : Int) := by omega
   have hR : wo.heap[w.heap.size + 1]? = some (.cells #[.int .i64 0, .int .i64 0, .slice none 0 0] 56 (0, 0)) := ((HI.out.2.1.block _ (by omega) (fun e => by injection e with e; omega)).trans (K1.out.2.1.block _ (by omega))).trans K0.out.2.2.1
   have r0 : wo.cell? ⟨w.heap.size + 1, 0, none⟩ = some (.int .i64 0) := by simp [World.cell?, hR]
   have r1 : wo.cell? ⟨w.heap.size + 1, 1, none⟩ = some (.int .i64 0) := by simp [World.cell?, hR]
   have r2 : wo.cell? ⟨w.heap.size + 1, 2, none⟩ = some (.slice none 0 0) := by simp [World.cell?, hR]
   have f0 : ∀ o, wo.frozen? ⟨w.heap.size + 1, o, none⟩ = false := fun o => by simp [World.frozen?, hR]
   have HT : Hid (Ty wo (w.heap.size + 1) 56) := Hid.mk ⟨_, _, hR⟩
   obtain ⟨s0, s1, s2⟩ := HI.out.1.tri
   clear hR
   go_wp2_with fail
   refine bodyPost_ret (v := .agg #[.int .i64 q, .int .i64 r, .slice (some ⟨g, 0, none⟩) (q * r) (q * r)]) ?_ rfl ?_
   ·(simp [results, Tryd.results43, go_sem, r0, r1, r2]; done)
   ·have h3 := set3 wo (w.heap.size + 1) HT.out (by decide) (.int .i64 q) (.int .i64 r) (.slice (some ⟨g, 0, none⟩) (q * r) (q * r))
    have hbo : Below w.heap.size w wo := (K0.out.1.trans (K1.out.2.1.mono (by omega))).trans (below_of_grown HI.out.2.1 (by omega) (by omega))
    exact ⟨g, rfl, by omega, ms, HI.out.1.grid.besides h3.2 h3.1 (by omega), fun i j hi hj => HI.out.2.2 i j hi hj (by omega), hbo.trans (below_of_grown h3.2 (by omega) hbo.size)⟩
end Go.Proofs.YtfjbijpagaipnabDoor
