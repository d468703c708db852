import Derived.Test.YtfjbijpagaipnaaGreatDoorC36
import Derived.Test.YtfjbijpagaipnaaGreatDoorC11
import Derived.Test.YtfjbijpagaipnaaGreatDoorC29
import Derived.Test.YtfjbijpagaipnaaGreatDoorC38
namespace Go.Proofs.YtfjbijpagaipnaaGreatDoor
open Go.RowKit
def ff (ms : List Hm) : Nat := ms.findIdx Option.isNone
def put1 (ms : List Hm) (nx : Nat) (x : Nat × Nat × List Int) : List Hm := ms.set (ff ms) (some (nx, x))
def puts (ms : List Hm) (nx : Nat) : List (Nat × Nat × List Int) → List Hm
 | [] => ms
 | x :: xs => puts (put1 ms nx x) (nx + 1) xs
theorem puts_snoc (x : Nat × Nat × List Int) : ∀ xs ms nx, puts ms nx (xs ++ [x]) = put1 (puts ms nx xs) (nx + xs.length) x := by
 intro xs
 induction xs with
 | nil => intro ms nx; rfl
 | cons y ys ih =>
   intro ms nx
   rw [List.cons_append, puts, ih, puts, List.length_cons, show nx + 1 + ys.length = nx + (ys.length + 1) from by omega]
theorem puts_len : ∀ xs ms nx, (puts ms nx xs).length = ms.length := by
 intro xs
 induction xs with
 | nil => intro ms nx; rfl
 | cons y ys ih => intro ms nx; rw [puts, ih]; simp [put1]
theorem ff_free {ms : List Hm} (hm : ms.length = 24) (hr : 0 < ms.countP Option.isNone) : FreeAt ms (ff ms) := by
 have h1 : ff ms < ms.length := List.findIdx_lt_length_of_exists (List.countP_pos_iff.1 hr)
 have h2 : (ms[ff ms]).isNone = true := List.findIdx_getElem (w := h1)
 refine ⟨by omega, ?_, fun j hj h => ?_⟩
 ·rw [List.getD, List.getElem?_eq_getElem h1]
  simpa using h2
 ·have h3 := List.not_of_lt_findIdx (show j < ms.findIdx Option.isNone from hj)
  rw [List.getD, List.getElem?_eq_getElem (by omega)] at h
  simp at h
  simp [h] at h3
theorem put1_room {ms : List Hm} (hm : ms.length = 24) (hr : 0 < ms.countP Option.isNone) (nx : Nat) (x : Nat × Nat × List Int) : (put1 ms nx x).countP Option.isNone + 1 = ms.countP Option.isNone := by
 have hf := ff_free hm hr
 have h1 : ff ms < ms.length := by have := hf.1; omega
 have h2 : ms[ff ms] = none := by have := hf.2.1; rw [List.getD, List.getElem?_eq_getElem h1] at this; simpa using this
 unfold put1
 rw [List.countP_set h1, h2]
 simp
 omega
theorem puts_room : ∀ xs ms nx, ms.length = 24 → xs.length ≤ ms.countP Option.isNone → (puts ms nx xs).countP Option.isNone + xs.length = ms.countP Option.isNone := by
 intro xs
 induction xs with
 | nil => intro ms nx _ _; rfl
 | cons y ys ih =>
   intro ms nx hm hl
   rw [List.length_cons] at hl
   have h1 := put1_room hm (by omega) nx y
   have h2 := ih (put1 ms nx y) (nx + 1) (by simp [put1, hm]) (by omega)
   rw [puts, List.length_cons]
   omega
def MRow (w : World) (g : Nat) (xs : List (Nat × Nat × List Int)) : Prop := ∀ j, j < xs.length → ∃ ao m cap, w.cell? ⟨g, j * 3, none⟩ = some (.int .i64 ((xs.getD j (0, 0, [])).1 : Nat)) ∧ w.cell? ⟨g, j * 3 + 1, none⟩ = some (.int .i64 ((xs.getD j (0, 0, [])).2.1 : Nat)) ∧ w.cell? ⟨g, j * 3 + 2, none⟩ = some (.slice ao m cap) ∧
 IsM w (.agg #[.int .i64 ((xs.getD j (0, 0, [])).1 : Nat), .int .i64 ((xs.getD j (0, 0, [])).2.1 : Nat), .slice ao m cap]) (xs.getD j (0, 0, [])).1 (xs.getD j (0, 0, [])).2.1 (xs.getD j (0, 0, [])).2.2 200000000
theorem R.Own.of_block {w w' : World} {v : Value} {xs : List Nat} (h : R.Own w v xs) (hb : ∀ g, v.ownBlock = some g → w'.heap[g]? = w.heap[g]?) : R.Own w' v xs := by
 obtain ⟨h1, h2⟩ := h
 refine ⟨h1, ?_⟩
 rcases h2 with h3 | ⟨g, cap, cur, hv, hg, hh, r⟩
 ·exact .inl h3
 ·exact .inr ⟨g, cap, cur, hv, hg, by rw [hb g (by rw [hv]; rfl)]; exact hh, r⟩
theorem R.Own.ty_ {w : World} {g n cap : Nat} {xs : List Nat} (h : R.Own w (.slice (some ⟨g, 0, none⟩) n cap) xs) : Ty w g 3 := by
 obtain ⟨h1, h2⟩ := h
 rcases h2 with ⟨h3, _⟩ | ⟨g', cap', cur, hv, hg, hh, r⟩
 ·simp at h3
 ·simp only [Value.slice.injEq, Option.some.injEq, Addr.mk.injEq] at hv
  obtain ⟨⟨rfl, _⟩, _⟩ := hv
  exact ⟨_, _, hh⟩
theorem cell_block {w w' : World} {g : Nat} (h : w'.heap[g]? = w.heap[g]?) (o : Nat) : w'.cell? ⟨g, o, none⟩ = w.cell? ⟨g, o, none⟩ := by simp only [World.cell?, h]
theorem MRow.fr {w w' : World} {g b : Nat} {xs : List (Nat × Nat × List Int)} (h : MRow w g xs) (hf : Fr b w w') (hg : g < w.heap.size) (hgb : g ≠ b) : MRow w' g xs := by
 intro j hj
 obtain ⟨ao, m, cap, h1, h2, h3, h4⟩ := h j hj
 have hb : w'.heap[g]? = w.heap[g]? := hf.1.block g hg (fun e => hgb (by injection e))
 exact ⟨ao, m, cap, by rw [cell_block hb]; exact h1, by rw [cell_block hb]; exact h2, by rw [cell_block hb]; exact h3, h4.keepT hf.2⟩
def KeptAll (w w' : World) (b nx n : Nat) (ms : List Hm) (xs : List (Nat × Nat × List Int)) (v : Value) : Prop := ∃ hb zs, v = .slice (some ⟨hb, 0, none⟩) n n ∧ w.heap.size ≤ hb ∧ zs.length = n ∧ (∀ j, j < n → zs.getD j 0 = nx + j) ∧ R.Own w' v zs ∧ Held w' b (puts ms nx xs) (nx + n) ∧ Fr b w w'
set_option maxRecDepth 100000 in
set_option maxHeartbeats 4000000 in
theorem keepAll_held (b g n cap : Nat) (xs : List (Nat × Nat × List Int)) (ms : List Hm) (nx : Nat) (w : World) (hst : Held w b ms nx) (hrow : MRow w g xs) (hn : xs.length = n) (hn5 : n ≤ 5) (hg : g < w.heap.size) (hgb : g ≠ b) (hroom : n ≤ ms.countP Option.isNone) (hnx : nx < 1000000 - 5) :
 Calls Tryz.prog 89 #[.pointer (some ⟨b, 0, none⟩), .slice (some ⟨g, 0, none⟩) n cap] w fun e w' => ∃ v, e = .returned v ∧ KeptAll w w' b nx n ms xs v := by
 have H := Hid.mk (And.intro hst (And.intro hrow (And.intro hn (And.intro hgb hroom))))
 have hbl := hst.lt
 clear hst hrow hn hroom
 go_enter Tryz.func89, Tryz.ntmps89
 go_wp2_with (refine R.make_digits _ rfl _ _ rfl _ _ n rfl rfl (by omega) (by omega) (by omega) ?_)
 intro w1 hown hbel
 obtain ⟨hb, hhb⟩ : ∃ hb, hb = w.heap.size := ⟨_, rfl⟩
 rw [← hhb] at hown ⊢
 have K0 := Hid.mk (And.intro hown (And.intro hbel hhb))
 clear hown hbel hhb
 go_wp2_with fail
 go_loopw [6] (fun i wr => ∃ (k : Nat) (zs : List Nat), k ≤ n ∧ i = .int .i64 k ∧ Hid (zs.length = n) ∧ R.Own wr (.slice (some ⟨hb, 0, none⟩) n n) zs ∧ Held wr b (puts ms nx (xs.take k)) (nx + k) ∧ Fr b w wr ∧ MRow wr g xs ∧ Hid (∀ j, j < k → zs.getD j 0 = nx + j)) (fun i _ => n - (intOf i).toNat)
 case atStart => exact ⟨0, _, Nat.zero_le _, rfl, Hid.mk List.length_replicate, K0.out.1, H.out.1.below K0.out.2.1, Fr.of_below K0.out.2.1, H.out.2.1.fr (Fr.of_below K0.out.2.1) hg hgb, Hid.mk (fun j hj => by omega)⟩
 case round =>
  obtain ⟨k, zs, hk, rfl, HZ, hown, hheld, hfr, hrow, HI⟩ := hrel
  have hwr : w.heap.size ≤ wr.heap.size := hfr.1.size
  by_cases hkn : k < n
  ·obtain ⟨ao, m, ecap, c1, c2, c3, hM⟩ := hrow k (by rw [H.out.2.2.1]; exact hkn)
   have hob := hown.lt
   obtain ⟨x, hx⟩ : ∃ x, x = xs.getD k (0, 0, []) := ⟨_, rfl⟩
   rw [← hx] at c1 c2 hM
   have htl : (xs.take k).length = k := by have := H.out.2.2.1; simp; omega
   have hfree := ff_free (ms := puts ms nx (xs.take k)) (by rw [puts_len]; exact H.out.1.1) (by
    have h1 := puts_room (xs.take k) ms nx H.out.1.1 (by have := H.out.2.2.2.2; omega)
    have := H.out.2.2.2.2
    omega)
   clear htl
   obtain ⟨xr, xc, xz⟩ := x
   have K := Hid.mk (And.intro hown (And.intro hheld (And.intro hfr (And.intro hrow (And.intro hM (And.intro hfree hx))))))
   have hki : (k : Int) < (n : Int) := by omega
   clear hown hheld hfr hrow hM hfree hx
   go_wp2_with fail
   refine (keep_held b xr xc ao m ecap xz _ _ _ _ K.out.2.1 K.out.2.2.2.2.1 K.out.2.2.2.2.2.1 (by omega)).mono ?_
   rintro e w2 ⟨rfl, hH2, hF2⟩
   have hne : hb ≠ b := by rw [K0.out.2.2]; omega
   have hown2 : R.Own w2 (.slice (some ⟨hb, 0, none⟩) n n) zs := K.out.1.of_block (fun g' hg' => by
    simp [Value.ownBlock] at hg'
    subst hg'
    exact hF2.1.block hb hob (fun e => hne (by injection e)))
   have d1 := hown2.frozen HZ.out k
   have d2 := hown2.cell HZ.out k hkn
   have K2 := Hid.mk (And.intro hown2 (And.intro hH2 (K.out.2.2.1.trans hF2)))
   clear hown2 hH2 hF2 c1 c2 c3
   go_wp2_with fail
   go_roundw
   case measure => simp [intOf]; omega
   case rel =>
    obtain ⟨e1, e2, e3⟩ := K2.out
    have hgl : g < w2.heap.size := by have := e3.1.size; omega
    have hty : Ty w2 hb 3 := R.Own.ty_ e1
    have hfn : Fr hb w2 (w2.setCell ⟨hb, k, none⟩ (.int .i64 ((nx + k : Nat) : Int))) := (Fr.refl hb w2).setOwn hty (by decide) (by decide) _
    have hgh : g ≠ hb := by rw [K0.out.2.2]; omega
    refine ⟨k + 1, zs.set k (nx + k), by omega, by go_num, Hid.mk (by simp [HZ.out]), e1.stored_int HZ.out k _ (by omega), ?_, e3.setNew (by rw [K0.out.2.2]; exact Nat.le_refl _) _, (H.out.2.1.fr e3 hg hgb).fr hfn hgl hgh, Hid.mk (fun j hj => ?_)⟩
    ·have h1 : puts ms nx (xs.take (k + 1)) = put1 (puts ms nx (xs.take k)) (nx + k) (xr, xc, xz) := by
      have h2 : xs.take (k + 1) = xs.take k ++ [(xr, xc, xz)] := by
       rw [K.out.2.2.2.2.2.2, List.take_add_one, List.getD, List.getElem?_eq_getElem (by have := H.out.2.2.1; omega)]; rfl
      rw [h2, puts_snoc, show (xs.take k).length = k from by have := H.out.2.2.1; simp; omega]
     rw [h1]
     exact e2.fr hfn hne.symm
    ·by_cases hjk : j = k
     ·subst hjk; simp [List.getD, show j < zs.length by rw [HZ.out]; exact hkn]
     ·rw [List.getD, List.getElem?_set_ne (fun e => hjk e.symm)]; exact HI.out j (by omega)
  ·have hkn' : k = n := by omega
   subst hkn'
   have hki : ¬ (k : Int) < (k : Int) := by omega
   have K := Hid.mk (And.intro hown (And.intro hheld hfr))
   clear hown hheld hfr hrow
   go_wp2_with fail
   go_ret
   refine ⟨_, rfl, hb, zs, rfl, by rw [K0.out.2.2]; exact Nat.le_refl _, HZ.out, HI.out, K.out.1, ?_, K.out.2.2⟩
   have := K.out.2.1
   rw [List.take_of_length_le (by have := H.out.2.2.1; omega)] at this
   exact this
open Go.RowKit
def ManyOut (w w' : World) (b n nx : Nat) (ms : List Hm) (ok : Bool) (xs : List (Nat × Nat × List Int)) (v : Value) : Prop :=
 (ok = false ∧ v = .slice none 0 0 ∧ Held w' b ms nx ∧ Fr b w w') ∨ (ok = true ∧ KeptAll w w' b nx n ms xs v)
theorem list_ent {r c : Nat} {xs ys : List Int} (h1 : xs.length = r * c) (h2 : ys.length = r * c) (h : ∀ i j, i < r → j < c → ent c xs i j = ent c ys i j) : xs = ys := by
 apply List.ext_getElem (by omega)
 intro t a b
 have hc : 0 < c := by
  rcases Nat.eq_zero_or_pos c with h0 | h0
  ·subst h0; rw [Nat.mul_zero] at h1; omega
  ·exact h0
 have h3 : t / c < r := by rw [Nat.div_lt_iff_lt_mul hc]; omega
 have h4 := Nat.mod_lt t hc
 have h5 : t / c * c + t % c = t := by rw [Nat.mul_comm]; exact Nat.div_add_mod t c
 have h6 := h (t / c) (t % c) h3 h4
 unfold ent at h6
 rw [h5] at h6
 simpa [List.getD, a, b] using h6
open Go.RowKit
structure EchIs (r c : Nat) (zs : List Int) (k : Nat) (pc : Nat → Nat) (hs us ws : List Int) : Prop where
 lh : hs.length = r * c
 lu : us.length = r * r
 lw : ws.length = r * r
 st : EchSt r c k pc (ent c hs)
 inv : EInv (ent c zs) (ent c hs) (ent r us) (ent r ws) r c
 eb : EB (ent c hs) (ent r us) (ent r ws) r c k 48
 run : EcTo r c (ent c zs) c k (e3 r c hs us ws)
open Go.RowKit
theorem set3 (w : World) (b : Nat) {t : TypeId} (ht : Ty w b t) (hne : t ≠ 165) (v0 v1 v2 : Value) : KU w (((w.setCell ⟨b, 0, none⟩ v0).setCell ⟨b, 1, none⟩ v1).setCell ⟨b, 2, none⟩ v2) ∧ w.grownBy (((w.setCell ⟨b, 0, none⟩ v0).setCell ⟨b, 1, none⟩ v1).setCell ⟨b, 2, none⟩ v2) (some b) := by
 have k0 := KU.setCell (o := 0) (KU.refl w) ht hne v0
 have t0 := ht.setCell ⟨b, 0, none⟩ v0
 have k1 := KU.setCell (o := 1) k0 t0 hne v1
 have t1 := t0.setCell ⟨b, 1, none⟩ v1
 have k2 := KU.setCell (o := 2) k1 t1 hne v2
 exact ⟨k2, grown_trans (grown_trans (grown_cell _ _ _ _) (grown_cell _ _ _ _)) (grown_cell _ _ _ _)⟩
theorem Grid.besides {w W : World} {b g n L : Nat} {zs : List Int} (h : Grid w (.slice (some ⟨g, 0, none⟩) n n) n zs L) (hg : w.grownBy W (some b)) (hk : KU w W) (hne : g ≠ b) : Grid W (.slice (some ⟨g, 0, none⟩) n n) n zs L :=
 h.grown hg (fun a m c e => by
  simp only [Value.slice.injEq, Option.some.injEq] at e
  obtain ⟨rfl, -, -⟩ := e
  exact hne) hk
set_option maxRecDepth 100000 in
set_option maxHeartbeats 4000000 in
theorem flip_new (v : Value) (r c : Nat) (zs : List Int) (L : Nat) (w : World) (hm : IsM w v r c zs L) :
 Calls Tryz.prog 151 #[v] w fun e w' => ∃ g ms, e = .returned (.agg #[.int .i64 c, .int .i64 r, .slice (some ⟨g, 0, none⟩) (c * r) (c * r)]) ∧ w.heap.size ≤ g ∧ Grid w' (.slice (some ⟨g, 0, none⟩) (c * r) (c * r)) (c * r) ms L ∧ (∀ i j, i < c → j < r → ent r ms i j = ent c zs j i) ∧ Below w.heap.size w w' := by
 have HM := Hid.mk hm
 obtain ⟨hr, hc, sl, rfl, hg0⟩ := hm
 obtain ⟨ao, cap, rfl, -⟩ := hg0.shape
 clear hg0
 obtain ⟨N, hN⟩ : ∃ N, N = r * c := ⟨_, rfl⟩
 rw [← hN] at HM ⊢
 clear hN
 go_enter Tryz.func151, Tryz.ntmps151
 go_wp2_with fail
 obtain ⟨W0, hW0⟩ : ∃ W0, W0 = (w.alloc (.cells #[.int .i64 r, .int .i64 c, .slice ao N cap] 76)).alloc (.cells #[.int .i64 0, .int .i64 0, .slice none 0 0] 76) := ⟨_, rfl⟩
 have hs0 : W0.heap.size = w.heap.size + 2 := by rw [hW0]; simp
 have hb0 : Below w.heap.size w W0 := by rw [hW0]; repeat (first | exact Below.refl _ _ | refine Below.alloc ?_ (by simp <;> omega) _)
 have hm0 : Trio W0 w.heap.size (.int .i64 r) (.int .i64 c) (.slice ao N cap) := by
  rw [hW0]
  exact Trio.later (w := w.alloc (.cells #[.int .i64 r, .int .i64 c, .slice ao N cap] 76)) ⟨new_cell _ _ _ _ _ rfl rfl, new_cell _ _ _ _ _ rfl rfl, new_cell _ _ _ _ _ rfl rfl⟩ ((Below.refl _ _).alloc (Nat.le_refl _) _)
 have hR0 : W0.heap[w.heap.size + 1]? = some (.cells #[.int .i64 0, .int .i64 0, .slice none 0 0] 76 (0, 0)) := by
  rw [hW0]
  have := heap_alloc_new (w.alloc (.cells #[.int .i64 r, .int .i64 c, .slice ao N cap] 76)) (.cells #[.int .i64 0, .int .i64 0, .slice none 0 0] 76)
  simpa using this
 have K0 := Hid.mk (And.intro hb0 (And.intro hm0 hR0))
 rw [← hW0]
 clear hb0 hm0 hR0 hW0
 refine (noughts_any c r _ hc hr).mono ?_
 rintro e w1 ⟨g, rfl, hg1, hG1, hb1⟩
 have hw1 : W0.heap.size ≤ w1.heap.size := hb1.size
 have hgl := hG1.ty.lt
 have hb11 := (Below.refl w1.heap.size w1).alloc (Nat.le_refl _) (.cells #[.int .i64 c, .int .i64 r, .slice (some ⟨g, 0, none⟩) (c * r) (c * r)] 76)
 have hTm : Tri (w1.alloc (.cells #[.int .i64 c, .int .i64 r, .slice (some ⟨g, 0, none⟩) (c * r) (c * r)] 76)) w1.heap.size 0 (.int .i64 c) (.int .i64 r) (.slice (some ⟨g, 0, none⟩) (c * r) (c * r)) := ⟨new_cell _ _ _ _ _ rfl rfl, new_cell _ _ _ _ _ rfl rfl, new_cell _ _ _ _ _ rfl rfl⟩
 obtain ⟨W1, hW1⟩ : ∃ W1, W1 = w1.alloc (.cells #[.int .i64 c, .int .i64 r, .slice (some ⟨g, 0, none⟩) (c * r) (c * r)] 76) := ⟨_, rfl⟩
 have hs1 : W1.heap.size = w1.heap.size + 1 := by rw [hW1]; simp
 rw [← hW1] at hb11 hTm
 have hbW := hb1.trans (hb11.mono hw1)
 have K1 := Hid.mk (And.intro (show MatO W1 w1.heap.size 0 g c r (List.replicate (c * r) 0) L from ⟨hc, hr, hTm, (hG1.mono (Nat.zero_le _)).below hb11⟩) (And.intro hbW hW1))
 clear hG1 hb1 hb11 hTm hW1 hbW
 go_wp2_with fail
 rw [← K1.out.2.2]
 have hpg : w1.heap.size ≠ g := by omega
 go_loopw [4] (fun i wr => ∃ (a : Nat) (ms : List Int), a ≤ r ∧ i = .int .i64 a ∧ Hid (MatO wr w1.heap.size 0 g c r ms L ∧ W1.grownBy wr (some g) ∧ ∀ i j, i < c → j < r → j < a → ent r ms i j = ent c zs j i)) (fun i _ => r - (intOf i).toNat)
 case atStart => exact ⟨0, _, Nat.zero_le _, rfl, Hid.mk ⟨K1.out.1, World.grownBy.refl _ _, fun i j _ _ h => by omega⟩⟩
 case round =>
  rename World => wo
  obtain ⟨a, ms, ha, rfl, HI⟩ := hrel
  have hTo := (K0.out.2.1.later K1.out.2.1).grown HI.out.2.1 (by omega)
  obtain ⟨q0, q1, q2⟩ := hTo
  by_cases har : a < r
  ·have hai : (a : Int) < (r : Int) := by omega
   go_wp2_with fail
   clear q0 q1 q2
   go_loopw [5] (fun i wr => ∃ (e : Nat) (ns : List Int), e ≤ c ∧ i = .int .i64 e ∧ Hid (MatO wr w1.heap.size 0 g c r ns L ∧ W1.grownBy wr (some g) ∧ ∀ i j, i < c → j < r → (j < a ∨ (j = a ∧ i < e)) → ent r ns i j = ent c zs j i)) (fun i _ => c - (intOf i).toNat)
   case atStart => exact ⟨0, ms, Nat.zero_le _, rfl, Hid.mk ⟨HI.out.1, HI.out.2.1, fun i j x y h => HI.out.2.2 i j x y (by omega)⟩⟩
   case round =>
    rename World => wi
    obtain ⟨e, ns, he, rfl, HJ⟩ := hrel
    have hTi := (K0.out.2.1.later K1.out.2.1).grown HJ.out.2.1 (by omega)
    obtain ⟨q0, q1, q2⟩ := hTi
    have hbi : Below w.heap.size w wi := (K0.out.1.trans (K1.out.2.1.mono (by omega))).trans (below_of_grown HJ.out.2.1 (by omega) (by omega))
    have hwi := HJ.out.2.1.size
    have KI := Hid.mk hbi
    clear hbi
    by_cases hec : e < c
    ·have hei : (e : Int) < (c : Int) := by omega
     go_wp2_with fail
     refine (at_in _ r c a e zs L _ (HM.out.below KI.out) har hec).mono ?_
     rintro e9 w2 ⟨x, rfl, hx, hb2⟩
     obtain ⟨nb2, so2, n2, cp2, rfl⟩ := hx.shape
     have hb22 := (Below.refl w2.heap.size w2).alloc (Nat.le_refl _) (.cells #[.bool nb2, .slice so2 n2 cp2] 94)
     have hbB := hb2.trans (hb22.mono hb2.size)
     have K2 := Hid.mk (And.intro hbB (hx.below hb22))
     clear hx hb2 hb22 hbB q0 q1 q2
     go_wp2_with fail
     refine (set_m w1.heap.size 0 g c r e a ns L _ _ _ (HJ.out.1.later K2.out.1) hpg K2.out.2 hec har).mono ?_
     rintro e9 w3 ⟨rfl, hM3, hgr3, -⟩
     have K3 := Hid.mk (And.intro hM3 (grown_trans (grown_below HJ.out.2.1 K2.out.1) hgr3))
     clear hM3 hgr3
     go_wp2_with fail
     go_roundw
     case measure => simp [intOf]; omega
     case rel =>
      refine ⟨e + 1, _, by omega, by go_num, Hid.mk ⟨K3.out.1, K3.out.2, fun i j hi hj hd => ?_⟩⟩
      rw [ent_set ns c r HJ.out.1.len e a i j _ hec har hj]
      by_cases hij : i = e ∧ j = a
      ·obtain ⟨rfl, rfl⟩ := hij
       rw [if_pos ⟨rfl, rfl⟩]
       rfl
      ·rw [if_neg hij]
       exact HJ.out.2.2 i j hi hj (by omega)
    ·have hei : ¬ (e : Int) < (c : Int) := by omega
     go_wp2_with fail
     go_roundw
     case measure => simp [intOf]; omega
     case rel => exact ⟨a + 1, ns, by omega, by go_num, Hid.mk ⟨HJ.out.1, HJ.out.2.1, fun i j hi hj hd => HJ.out.2.2 i j hi hj (by omega)⟩⟩
  ·have hai : ¬ (a : Int) < (r : Int) := by omega
   have hR : wo.heap[w.heap.size + 1]? = some (.cells #[.int .i64 0, .int .i64 0, .slice none 0 0] 76 (0, 0)) := ((HI.out.2.1.block _ (by omega) (fun e => by injection e with e; omega)).trans (K1.out.2.1.block _ (by omega))).trans K0.out.2.2
   have r0 : wo.cell? ⟨w.heap.size + 1, 0, none⟩ = some (.int .i64 0) := by simp [World.cell?, hR]
   have r1 : wo.cell? ⟨w.heap.size + 1, 1, none⟩ = some (.int .i64 0) := by simp [World.cell?, hR]
   have r2 : wo.cell? ⟨w.heap.size + 1, 2, none⟩ = some (.slice none 0 0) := by simp [World.cell?, hR]
   have f0 : ∀ o, wo.frozen? ⟨w.heap.size + 1, o, none⟩ = false := fun o => by simp [World.frozen?, hR]
   have HT : Hid (Ty wo (w.heap.size + 1) 76) := Hid.mk ⟨_, _, hR⟩
   obtain ⟨s0, s1, s2⟩ := HI.out.1.tri
   clear hR
   go_wp2_with fail
   refine bodyPost_ret (v := .agg #[.int .i64 c, .int .i64 r, .slice (some ⟨g, 0, none⟩) (c * r) (c * r)]) ?_ rfl ?_
   ·(simp [results, Tryz.results151, go_sem, r0, r1, r2]; done)
   ·have h3 := set3 wo (w.heap.size + 1) HT.out (by decide) (.int .i64 c) (.int .i64 r) (.slice (some ⟨g, 0, none⟩) (c * r) (c * r))
    have hbo : Below w.heap.size w wo := (K0.out.1.trans (K1.out.2.1.mono (by omega))).trans (below_of_grown HI.out.2.1 (by omega) (by omega))
    exact ⟨g, rfl, by omega, ms, HI.out.1.grid.besides h3.2 h3.1 (by omega), fun i j hi hj => HI.out.2.2 i j hi hj (by omega), hbo.trans (below_of_grown h3.2 (by omega) hbo.size)⟩
theorem flip_any (v : Value) (r c : Nat) (zs : List Int) (L : Nat) (w : World) (hm : IsM w v r c zs L) :
 Calls Tryz.prog 151 #[v] w fun e w' => ∃ x ms, e = .returned x ∧ IsM w' x c r ms L ∧ (∀ i j, i < c → j < r → ent r ms i j = ent c zs j i) ∧ Below w.heap.size w w' := by
 refine (flip_new v r c zs L w hm).mono ?_
 rintro e w' ⟨g, ms, rfl, -, hG, hP, hb⟩
 exact ⟨_, ms, rfl, ⟨hm.2.1, hm.1, _, rfl, hG⟩, hP, hb⟩
open Go.RowKit
open Go.RowKit
theorem Grid.at2 {w : World} {ao : Option Addr} {n cap L : Nat} {zs : List Int} (h : Grid w (.slice ao n cap) n zs L) (k : Nat) (hk : k < n) : ∃ g nb bo m ecap, ao = some ⟨g, 0, none⟩ ∧ w.cell? ⟨g, k * 2, none⟩ = some (.bool nb) ∧ w.cell? ⟨g, k * 2 + 1, none⟩ = some (.slice bo m ecap) ∧ IsI w (.agg #[.bool nb, .slice bo m ecap]) (zs.getD k 0) L := by
 obtain ⟨ao', cap', e, -, -, hao⟩ := h.shape
 obtain ⟨g, hg⟩ := hao k hk
 simp only [Value.slice.injEq] at e
 obtain ⟨rfl, -, rfl⟩ := e
 subst hg
 obtain ⟨nb, bo, m, ecap, c1, c2, hI⟩ := h.cell k hk
 rw [Nat.mul_comm 2] at c1 c2
 exact ⟨g, nb, bo, m, ecap, rfl, c1, c2, hI⟩
open Go.RowKit
theorem GridB.nilLit (B : Nat) (w : World) (L : Nat) (hB : B ≤ w.heap.size) : GridB B (w.alloc (.cells #[] 94)) (.slice (some ⟨w.heap.size, 0, none⟩) 0 0) 0 [] L := by
 have := World.ownsRow_lit (base := B) (e := 94) (size := 2) w #[] 0 hB (by simp [maxLen]) rfl
 exact ⟨rfl, _, by simpa using this, fun i hi => by omega⟩
set_option maxRecDepth 100000 in
set_option maxHeartbeats 4000000 in
theorem over_new (v u : Value) (r q c : Nat) (zs ys : List Int) (L : Nat) (w : World) (hm : IsM w v r c zs L) (hn : IsM w u q c ys L) (hrq : r + q ≤ 99) :
 Calls Tryz.prog 54 #[v, u] w fun e w' => ∃ g, e = .returned (.agg #[.int .i64 ((r + q : Nat) : Int), .int .i64 c, .slice (some ⟨g, 0, none⟩) ((r + q) * c) ((r + q) * c)]) ∧ w.heap.size ≤ g ∧ Grid w' (.slice (some ⟨g, 0, none⟩) ((r + q) * c) ((r + q) * c)) ((r + q) * c) (zs ++ ys) L ∧ Below w.heap.size w w' := by
 obtain ⟨hr, hc, sl, rfl, hg0⟩ := hm
 obtain ⟨hq, -, tl, rfl, hg1⟩ := hn
 obtain ⟨ao, cap, rfl, hcap, hcm, -⟩ := hg0.shape
 obtain ⟨bo, dap, rfl, hdap, hdm, -⟩ := hg1.shape
 have HG := Hid.mk (And.intro hg0 hg1)
 clear hg0 hg1
 obtain ⟨N, hN⟩ : ∃ N, N = r * c := ⟨_, rfl⟩
 obtain ⟨M, hM⟩ : ∃ M, M = q * c := ⟨_, rfl⟩
 have hN2 : N ≤ 9801 := by rw [hN]; exact Nat.mul_le_mul hr hc
 have hM2 : M ≤ 9801 := by rw [hM]; exact Nat.mul_le_mul hq hc
 have hNM : N + M ≤ 9801 := by rw [hN, hM, ← Nat.add_mul]; exact Nat.mul_le_mul hrq hc
 rw [← hN] at HG hcap ⊢
 rw [← hM] at HG hdap ⊢
 have HN := Hid.mk (And.intro hN hM)
 clear hN hM
 go_enter Tryz.func54, Tryz.ntmps54
 go_wp2_with fail
 obtain ⟨W0, hW0⟩ : ∃ W0, W0 = ((w.alloc (.cells #[.int .i64 r, .int .i64 c, .slice ao N cap] 76)).alloc (.cells #[.int .i64 q, .int .i64 c, .slice bo M dap] 76)).alloc (.cells #[.int .i64 0, .int .i64 0, .slice none 0 0] 76) := ⟨_, rfl⟩
 have hs0 : W0.heap.size = w.heap.size + 3 := by rw [hW0]; simp
 have hb0 : Below w.heap.size w W0 := by rw [hW0]; repeat (first | exact Below.refl _ _ | refine Below.alloc ?_ (by simp <;> omega) _)
 have hm0 : Trio W0 w.heap.size (.int .i64 r) (.int .i64 c) (.slice ao N cap) := by
  rw [hW0]
  exact ⟨cell1 (cell1 (new_cell _ _ _ _ _ (by simp) rfl) _) _, cell1 (cell1 (new_cell _ _ _ _ _ (by simp) rfl) _) _, cell1 (cell1 (new_cell _ _ _ _ _ (by simp) rfl) _) _⟩
 have hn0 : Trio W0 (w.heap.size + 1) (.int .i64 q) (.int .i64 c) (.slice bo M dap) := by
  rw [hW0]
  exact ⟨cell1 (new_cell _ _ _ _ _ (by simp) rfl) _, cell1 (new_cell _ _ _ _ _ (by simp) rfl) _, cell1 (new_cell _ _ _ _ _ (by simp) rfl) _⟩
 have hR0 : W0.heap[w.heap.size + 2]? = some (.cells #[.int .i64 0, .int .i64 0, .slice none 0 0] 76 (0, 0)) := by
  rw [hW0]
  have := heap_alloc_new ((w.alloc (.cells #[.int .i64 r, .int .i64 c, .slice ao N cap] 76)).alloc (.cells #[.int .i64 q, .int .i64 c, .slice bo M dap] 76)) (.cells #[.int .i64 0, .int .i64 0, .slice none 0 0] 76)
  simpa using this
 have hlit := GridB.nilLit W0.heap.size W0 L (Nat.le_refl _)
 have hbl := (Below.refl W0.heap.size W0).alloc (Nat.le_refl _) (.cells #[] 94)
 have K0 := Hid.mk (And.intro hb0 (And.intro hm0 (And.intro hn0 (And.intro hR0 (And.intro (HG.out.1.below hb0) (And.intro (HG.out.2.below hb0) (And.intro hlit hbl)))))))
 rw [← hW0]
 have hsz : w.heap.size + 1 + 1 + 1 = W0.heap.size := by omega
 rw [hsz]
 have hs1 : w.heap.size + 3 ≤ W0.heap.size := by omega
 have hs2 : W0.heap.size ≤ w.heap.size + 3 := by omega
 clear hb0 hm0 hn0 hR0 hW0 hlit hbl hsz hs0
 go_loopw [5, 6] (fun cv i wr => ∃ k : Nat, k ≤ N ∧ i = .int .i64 k ∧ Hid (∃ co cc, cv = .slice co k cc ∧ GridB W0.heap.size wr (.slice co k cc) k (zs.take k) L ∧ Below W0.heap.size W0 wr)) (fun _ i _ => N - (intOf i).toNat)
 case atStart => exact ⟨0, Nat.zero_le _, rfl, Hid.mk ⟨_, _, rfl, by simpa using K0.out.2.2.2.2.2.2.1, K0.out.2.2.2.2.2.2.2⟩⟩
 case round =>
  obtain ⟨k, hk, rfl, HI0⟩ := hrel
  obtain ⟨co, cc, rfl, hGB, hBB⟩ := HI0.out
  have HI := Hid.mk (And.intro hGB hBB)
  clear hGB hBB HI0
  obtain ⟨-, -, q2⟩ := K0.out.2.1.later HI.out.2
  have hwr := HI.out.2.size
  by_cases hkN : k < N
  ·have hki : (k : Int) < (N : Int) := by omega
   obtain ⟨g1, nb1, so1, n1, cp1, rfl, c1, c2, hI1⟩ := (K0.out.2.2.2.2.1.below HI.out.2).at2 k hkN
   have hzl : zs.length = N := K0.out.2.2.2.2.1.1
   have hba := (Below.refl wr.heap.size wr).alloc (Nat.le_refl _) (.cells #[.bool nb1, .slice so1 n1 cp1] 94)
   have KI := Hid.mk (And.intro (hI1.below hba) (And.intro hba hzl))
   clear hI1 hba hzl
   go_wp2_with (at_builtin; refine append_int _ rfl (.tmp 16) (.tmp 22) rfl W0.heap.size _ k (zs.take k) L rfl ?_ ⟨_, 0, none⟩ rfl (.bool nb1) (.slice so1 n1 cp1) (zs.getD k 0) ?_ ?_ rfl rfl ?_ (by omega) ?_ ?_)
   ·exact HI.out.1.keep (KT.of_below KI.out.2.1)
   ·simp [Addr.add]
   ·simp [Addr.add]
   ·exact KI.out.1
   ·simp; omega
   intro v' w' hgb hgr
   have hlt := HI.out.1.lt
   obtain ⟨co', cc', hv', -⟩ := hgb.grid.shape
   subst hv'
   have hbw' : Below W0.heap.size W0 w' := (HI.out.2.trans (KI.out.2.1.mono hwr)).grown hgr (by simp; omega) (fun j hj => (hlt j hj).1)
   have K2 := Hid.mk (And.intro hgb hbw')
   clear hgb hgr hlt hbw'
   go_wp2_with fail
   go_roundw
   case measure => simp [intOf]; omega
   case rel =>
    refine ⟨k + 1, by omega, by go_num, Hid.mk ⟨co', cc', rfl, ?_, K2.out.2⟩⟩
    have e : zs.take (k + 1) = zs.take k ++ [zs.getD k 0] := by
     rw [List.take_succ_eq_append_getElem (by have := KI.out.2.2; omega)]
     simp [List.getD, show k < zs.length from by have := KI.out.2.2; omega]
    rw [e]
    exact K2.out.1
  ·have hki : ¬ (k : Int) < (N : Int) := by omega
   have hkk : k = N := by omega
   have HKK := Hid.mk hkk
   clear hkk
   go_wp2_with fail
   have HI1 : Hid (GridB W0.heap.size wr (.slice co N cc) N zs L ∧ Below W0.heap.size W0 wr ∧ k = N) := Hid.mk (by
    have h := HI.out
    have e := HKK.out
    have hzl : zs.length = N := K0.out.2.2.2.2.1.1
    rw [e, List.take_of_length_le (by omega)] at h
    exact ⟨h.1, h.2, e⟩)
   rw [HI1.out.2.2]
   clear q2
   rename World => w1
   go_loopw [5, 7] (fun cv i wr => ∃ k : Nat, k ≤ M ∧ i = .int .i64 k ∧ Hid (∃ co cc, cv = .slice co (N + k) cc ∧ GridB W0.heap.size wr (.slice co (N + k) cc) (N + k) (zs ++ ys.take k) L ∧ Below W0.heap.size W0 wr)) (fun _ i _ => M - (intOf i).toNat)
   case atStart => exact ⟨0, Nat.zero_le _, rfl, Hid.mk ⟨co, cc, rfl, by simpa using HI1.out.1, HI1.out.2.1⟩⟩
   case round =>
    rename World => wr
    obtain ⟨l, hl, rfl, HJ0⟩ := hrel
    obtain ⟨do_, dc, rfl, hGB, hBB⟩ := HJ0.out
    have HJ := Hid.mk (And.intro hGB hBB)
    clear hGB hBB HJ0
    obtain ⟨-, -, q2⟩ := K0.out.2.2.1.later HJ.out.2
    have hwr2 := HJ.out.2.size
    by_cases hlM : l < M
    ·have hli : (l : Int) < (M : Int) := by omega
     obtain ⟨g2, nb2, so2, n2, cp2, rfl, c1, c2, hI2⟩ := (K0.out.2.2.2.2.2.1.below HJ.out.2).at2 l hlM
     have hyl : ys.length = M := K0.out.2.2.2.2.2.1.1
     have hba := (Below.refl wr.heap.size wr).alloc (Nat.le_refl _) (.cells #[.bool nb2, .slice so2 n2 cp2] 94)
     have KJ := Hid.mk (And.intro (hI2.below hba) (And.intro hba hyl))
     clear hI2 hba hyl
     go_wp2_with (at_builtin; refine append_int _ rfl (.tmp 31) (.tmp 37) rfl W0.heap.size _ (N + l) (zs ++ ys.take l) L rfl ?_ ⟨_, 0, none⟩ rfl (.bool nb2) (.slice so2 n2 cp2) (ys.getD l 0) ?_ ?_ rfl rfl ?_ (by omega) ?_ ?_)
     ·exact HJ.out.1.keep (KT.of_below KJ.out.2.1)
     ·simp [Addr.add]
     ·simp [Addr.add]
     ·exact KJ.out.1
     ·simp; omega
     intro v' w' hgb hgr
     have hlt := HJ.out.1.lt
     obtain ⟨co', cc', hv', -⟩ := hgb.grid.shape
     subst hv'
     have hbw' : Below W0.heap.size W0 w' := (HJ.out.2.trans (KJ.out.2.1.mono hwr2)).grown hgr (by simp; omega) (fun j hj => (hlt j hj).1)
     have K2 := Hid.mk (And.intro hgb hbw')
     clear hgb hgr hlt hbw'
     go_wp2_with fail
     go_roundw
     case measure => simp [intOf]; omega
     case rel =>
      refine ⟨l + 1, by omega, by go_num, Hid.mk ⟨co', cc', rfl, ?_, K2.out.2⟩⟩
      have e : zs ++ ys.take (l + 1) = zs ++ (ys.take l ++ [ys[l]?.getD 0]) := by
       rw [List.take_succ_eq_append_getElem (by have := KJ.out.2.2; omega)]
       simp [show l < ys.length from by have := KJ.out.2.2; omega]
      rw [e, ← Nat.add_assoc]
      exact K2.out.1
    ·have hli : ¬ (l : Int) < (M : Int) := by omega
     have HLL : Hid (l = M) := Hid.mk (by omega)
     obtain ⟨p0, p1, -⟩ := K0.out.2.1.later HJ.out.2
     obtain ⟨p3, p4, -⟩ := K0.out.2.2.1.later HJ.out.2
     go_wp2_with fail
     have hGr : Grid wr (.slice do_ (N + l) dc) ((r + q) * c) (zs ++ ys) L ∧ ((r : Int) + (q : Int)) = ((r + q : Nat) : Int) := by
      have h := HJ.out.1.grid
      have e := HLL.out
      have hyl : ys.length = M := K0.out.2.2.2.2.2.1.1
      rw [e, List.take_of_length_le (by omega)] at h
      rw [e, show (r + q) * c = N + M from by rw [HN.out.1, HN.out.2, Nat.add_mul]]
      exact ⟨h, by omega⟩
     rw [hGr.2]
     refine (fromCells_new (r + q) c _ (zs ++ ys) L _ hrq hc hGr.1).mono ?_
     rintro e9 w5 ⟨g5, rfl, hg5, hG5, hb5⟩
     have hR : w5.heap[w.heap.size + 2]? = some (.cells #[.int .i64 0, .int .i64 0, .slice none 0 0] 76 (0, 0)) := ((hb5.block _ (by omega)).trans (HJ.out.2.block _ (by omega))).trans K0.out.2.2.2.1
     have r0 : w5.cell? ⟨w.heap.size + 1 + 1, 0, none⟩ = some (.int .i64 0) := by simp [World.cell?, hR]
     have r1 : w5.cell? ⟨w.heap.size + 1 + 1, 1, none⟩ = some (.int .i64 0) := by simp [World.cell?, hR]
     have r2 : w5.cell? ⟨w.heap.size + 1 + 1, 2, none⟩ = some (.slice none 0 0) := by simp [World.cell?, hR]
     have f0 : ∀ o, w5.frozen? ⟨w.heap.size + 1 + 1, o, none⟩ = false := fun o => by simp [World.frozen?, hR]
     have HT : Hid (Ty w5 (w.heap.size + 1 + 1) 76) := Hid.mk ⟨_, _, hR⟩
     have hbw := (K0.out.1.trans (HJ.out.2.mono (by omega))).trans (hb5.mono (by omega))
     have hg5' : w.heap.size + 1 + 1 < g5 := by omega
     have K5 := Hid.mk (And.intro hG5 hbw)
     clear hG5 hR hbw hb5 hGr
     obtain ⟨RC, hRC⟩ : ∃ RC, RC = (r + q) * c := ⟨_, rfl⟩
     rw [← hRC] at K5 ⊢
     have HRC := Hid.mk hRC
     clear hRC
     go_wp2_with fail
     refine bodyPost_ret (v := .agg #[.int .i64 ((r : Int) + (q : Int)), .int .i64 c, .slice (some ⟨g5, 0, none⟩) RC RC]) ?_ rfl ?_
     ·(simp [results, Tryz.results54, go_sem, r0, r1, r2]; done)
     ·have k3 : ∀ v0 v1 v2 : Value, KT w5 (((w5.setCell ⟨w.heap.size + 1 + 1, 0, none⟩ v0).setCell ⟨w.heap.size + 1 + 1, 1, none⟩ v1).setCell ⟨w.heap.size + 1 + 1, 2, none⟩ v2) := fun v0 v1 v2 => KT.setCell (KT.setCell (KT.setCell (KT.refl _) HT.out (by decide) (by decide) v0) (HT.out.setCell ⟨w.heap.size + 1 + 1, 0, none⟩ v0) (by decide) (by decide) v1) ((HT.out.setCell ⟨w.heap.size + 1 + 1, 0, none⟩ v0).setCell ⟨w.heap.size + 1 + 1, 1, none⟩ v1) (by decide) (by decide) v2
      have hr2 : ((r : Int) + (q : Int)) = ((r + q : Nat) : Int) := by omega
      rw [hr2]
      have eRC := HRC.out
      subst eRC
      refine ⟨g5, rfl, by omega, K5.out.1.keep (k3 _ _ _), ((K5.out.2.setCell (by simp; omega) _).setCell (by simp; omega) _).setCell (by simp; omega) _⟩
end Go.Proofs.YtfjbijpagaipnaaGreatDoor
