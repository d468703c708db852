import Derived.Test.YtfjbijpagaipnabGreatDoorK21
import Derived.Test.YtfjbijpagaipnabGreatDoorK15
import Derived.Test.YtfjbijpagaipnabGreatDoorK04
import Derived.Test.YtfjbijpagaipnabGreatDoorK14
import Derived.Test.YtfjbijpagaipnabGreatDoorK19
namespace Go.Proofs.YtfjbijpagaipnabGreatDoor
open Go.RowKit
def ff (ms : List Hm) : Nat := ms.findIdx Option.isNone
def put1 (ms : List Hm) (nx : Nat) (x : Nat × Nat × List Int) : List Hm := ms.set (ff ms) (some (nx, x))
def puts (ms : List Hm) (nx : Nat) : List (Nat × Nat × List Int) → List Hm
 | [] => ms
 | x :: xs => puts (put1 ms nx x) (nx + 1) xs
theorem puts_snoc (x : Nat × Nat × List Int) : ∀ xs ms nx, puts ms nx (xs ++ [x]) = put1 (puts ms nx xs) (nx + xs.length) x := by
 intro xs
 induction xs with
 | nil => intro ms nx; rfl
 | cons y ys ih =>
   intro ms nx
   rw [List.cons_append, puts, ih, puts, List.length_cons, show nx + 1 + ys.length = nx + (ys.length + 1) from by omega]
theorem puts_len : ∀ xs ms nx, (puts ms nx xs).length = ms.length := by
 intro xs
 induction xs with
 | nil => intro ms nx; rfl
 | cons y ys ih => intro ms nx; rw [puts, ih]; simp [put1]
theorem ff_free {ms : List Hm} (hm : ms.length = 24) (hr : 0 < ms.countP Option.isNone) : FreeAt ms (ff ms) := by
 have h1 : ff ms < ms.length := List.findIdx_lt_length_of_exists (List.countP_pos_iff.1 hr)
 have h2 : (ms[ff ms]).isNone = true := List.findIdx_getElem (w := h1)
 refine ⟨by omega, ?_, fun j hj h => ?_⟩
 ·rw [List.getD, List.getElem?_eq_getElem h1]
  simpa using h2
 ·have h3 := List.not_of_lt_findIdx (show j < ms.findIdx Option.isNone from hj)
  rw [List.getD, List.getElem?_eq_getElem (by omega)] at h
  simp at h
  simp [h] at h3
theorem put1_room {ms : List Hm} (hm : ms.length = 24) (hr : 0 < ms.countP Option.isNone) (nx : Nat) (x : Nat × Nat × List Int) : (put1 ms nx x).countP Option.isNone + 1 = ms.countP Option.isNone := by
 have hf := ff_free hm hr
 have h1 : ff ms < ms.length := by have := hf.1; omega
 have h2 : ms[ff ms] = none := by have := hf.2.1; rw [List.getD, List.getElem?_eq_getElem h1] at this; simpa using this
 unfold put1
 rw [List.countP_set h1, h2]
 simp
 omega
theorem puts_room : ∀ xs ms nx, ms.length = 24 → xs.length ≤ ms.countP Option.isNone → (puts ms nx xs).countP Option.isNone + xs.length = ms.countP Option.isNone := by
 intro xs
 induction xs with
 | nil => intro ms nx _ _; rfl
 | cons y ys ih =>
   intro ms nx hm hl
   rw [List.length_cons] at hl
   have h1 := put1_room hm (by omega) nx y
   have h2 := ih (put1 ms nx y) (nx + 1) (by simp [put1, hm]) (by omega)
   rw [puts, List.length_cons]
   omega
def MRow (w : World) (g : Nat) (xs : List (Nat × Nat × List Int)) : Prop := ∀ j, j < xs.length → ∃ ao m cap, w.cell? ⟨g, j * 3, none⟩ = some (.int .i64 ((xs.getD j (0, 0, [])).1 : Nat)) ∧ w.cell? ⟨g, j * 3 + 1, none⟩ = some (.int .i64 ((xs.getD j (0, 0, [])).2.1 : Nat)) ∧ w.cell? ⟨g, j * 3 + 2, none⟩ = some (.slice ao m cap) ∧
 IsM w (.agg #[.int .i64 ((xs.getD j (0, 0, [])).1 : Nat), .int .i64 ((xs.getD j (0, 0, [])).2.1 : Nat), .slice ao m cap]) (xs.getD j (0, 0, [])).1 (xs.getD j (0, 0, [])).2.1 (xs.getD j (0, 0, [])).2.2 200000000
theorem R.Own.of_block {w w' : World} {v : Value} {xs : List Nat} (h : R.Own w v xs) (hb : ∀ g, v.ownBlock = some g → w'.heap[g]? = w.heap[g]?) : R.Own w' v xs := by
 obtain ⟨h1, h2⟩ := h
 refine ⟨h1, ?_⟩
 rcases h2 with h3 | ⟨g, cap, cur, hv, hg, hh, r⟩
 ·exact .inl h3
 ·exact .inr ⟨g, cap, cur, hv, hg, by rw [hb g (by rw [hv]; rfl)]; exact hh, r⟩
theorem R.Own.ty_ {w : World} {g n cap : Nat} {xs : List Nat} (h : R.Own w (.slice (some ⟨g, 0, none⟩) n cap) xs) : Ty w g 3 := by
 obtain ⟨h1, h2⟩ := h
 rcases h2 with ⟨h3, _⟩ | ⟨g', cap', cur, hv, hg, hh, r⟩
 ·simp at h3
 ·simp only [Value.slice.injEq, Option.some.injEq, Addr.mk.injEq] at hv
  obtain ⟨⟨rfl, _⟩, _⟩ := hv
  exact ⟨_, _, hh⟩
theorem cell_block {w w' : World} {g : Nat} (h : w'.heap[g]? = w.heap[g]?) (o : Nat) : w'.cell? ⟨g, o, none⟩ = w.cell? ⟨g, o, none⟩ := by simp only [World.cell?, h]
theorem MRow.fr {w w' : World} {g b : Nat} {xs : List (Nat × Nat × List Int)} (h : MRow w g xs) (hf : Fr b w w') (hg : g < w.heap.size) (hgb : g ≠ b) : MRow w' g xs := by
 intro j hj
 obtain ⟨ao, m, cap, h1, h2, h3, h4⟩ := h j hj
 have hb : w'.heap[g]? = w.heap[g]? := hf.1.block g hg (fun e => hgb (by injection e))
 exact ⟨ao, m, cap, by rw [cell_block hb]; exact h1, by rw [cell_block hb]; exact h2, by rw [cell_block hb]; exact h3, h4.keepT hf.2⟩
def KeptAll (w w' : World) (b nx n : Nat) (ms : List Hm) (xs : List (Nat × Nat × List Int)) (v : Value) : Prop := ∃ hb zs, v = .slice (some ⟨hb, 0, none⟩) n n ∧ w.heap.size ≤ hb ∧ zs.length = n ∧ (∀ j, j < n → zs.getD j 0 = nx + j) ∧ R.Own w' v zs ∧ Held w' b (puts ms nx xs) (nx + n) ∧ Fr b w w'
set_option maxRecDepth 100000 in
set_option maxHeartbeats 4000000 in
theorem keepAll_held (b g n cap : Nat) (xs : List (Nat × Nat × List Int)) (ms : List Hm) (nx : Nat) (w : World) (hst : Held w b ms nx) (hrow : MRow w g xs) (hn : xs.length = n) (hn5 : n ≤ 5) (hg : g < w.heap.size) (hgb : g ≠ b) (hroom : n ≤ ms.countP Option.isNone) (hnx : nx < 1000000 - 5) :
 Calls Tryz.prog 53 #[.pointer (some ⟨b, 0, none⟩), .slice (some ⟨g, 0, none⟩) n cap] w fun e w' => ∃ v, e = .returned v ∧ KeptAll w w' b nx n ms xs v := by
 have H := Hid.mk (And.intro hst (And.intro hrow (And.intro hn (And.intro hgb hroom))))
 have hbl := hst.lt
 clear hst hrow hn hroom
 go_enter Tryz.func53, Tryz.ntmps53
 go_wp2_with (refine R.make_digits _ rfl _ _ rfl _ _ n rfl rfl (by omega) (by omega) (by omega) ?_)
 intro w1 hown hbel
 obtain ⟨hb, hhb⟩ : ∃ hb, hb = w.heap.size := ⟨_, rfl⟩
 rw [← hhb] at hown ⊢
 have K0 := Hid.mk (And.intro hown (And.intro hbel hhb))
 clear hown hbel hhb
 go_wp2_with fail
 go_loopw [6] (fun i wr => ∃ (k : Nat) (zs : List Nat), k ≤ n ∧ i = .int .i64 k ∧ Hid (zs.length = n) ∧ R.Own wr (.slice (some ⟨hb, 0, none⟩) n n) zs ∧ Held wr b (puts ms nx (xs.take k)) (nx + k) ∧ Fr b w wr ∧ MRow wr g xs ∧ Hid (∀ j, j < k → zs.getD j 0 = nx + j)) (fun i _ => n - (intOf i).toNat)
 case atStart => exact ⟨0, _, Nat.zero_le _, rfl, Hid.mk List.length_replicate, K0.out.1, H.out.1.below K0.out.2.1, Fr.of_below K0.out.2.1, H.out.2.1.fr (Fr.of_below K0.out.2.1) hg hgb, Hid.mk (fun j hj => by omega)⟩
 case round =>
  obtain ⟨k, zs, hk, rfl, HZ, hown, hheld, hfr, hrow, HI⟩ := hrel
  have hwr : w.heap.size ≤ wr.heap.size := hfr.1.size
  by_cases hkn : k < n
  ·obtain ⟨ao, m, ecap, c1, c2, c3, hM⟩ := hrow k (by rw [H.out.2.2.1]; exact hkn)
   have hob := hown.lt
   obtain ⟨x, hx⟩ : ∃ x, x = xs.getD k (0, 0, []) := ⟨_, rfl⟩
   rw [← hx] at c1 c2 hM
   have htl : (xs.take k).length = k := by have := H.out.2.2.1; simp; omega
   have hfree := ff_free (ms := puts ms nx (xs.take k)) (by rw [puts_len]; exact H.out.1.1) (by
    have h1 := puts_room (xs.take k) ms nx H.out.1.1 (by have := H.out.2.2.2.2; omega)
    have := H.out.2.2.2.2
    omega)
   clear htl
   obtain ⟨xr, xc, xz⟩ := x
   have K := Hid.mk (And.intro hown (And.intro hheld (And.intro hfr (And.intro hrow (And.intro hM (And.intro hfree hx))))))
   have hki : (k : Int) < (n : Int) := by omega
   clear hown hheld hfr hrow hM hfree hx
   go_wp2_with fail
   refine (keep_held b xr xc ao m ecap xz _ _ _ _ K.out.2.1 K.out.2.2.2.2.1 K.out.2.2.2.2.2.1 (by omega)).mono ?_
   rintro e w2 ⟨rfl, hH2, hF2⟩
   have hne : hb ≠ b := by rw [K0.out.2.2]; omega
   have hown2 : R.Own w2 (.slice (some ⟨hb, 0, none⟩) n n) zs := K.out.1.of_block (fun g' hg' => by
    simp [Value.ownBlock] at hg'
    subst hg'
    exact hF2.1.block hb hob (fun e => hne (by injection e)))
   have d1 := hown2.frozen HZ.out k
   have d2 := hown2.cell HZ.out k hkn
   have K2 := Hid.mk (And.intro hown2 (And.intro hH2 (K.out.2.2.1.trans hF2)))
   clear hown2 hH2 hF2 c1 c2 c3
   go_wp2_with fail
   go_roundw
   case measure => simp [intOf]; omega
   case rel =>
    obtain ⟨e1, e2, e3⟩ := K2.out
    have hgl : g < w2.heap.size := by have := e3.1.size; omega
    have hty : Ty w2 hb 3 := R.Own.ty_ e1
    have hfn : Fr hb w2 (w2.setCell ⟨hb, k, none⟩ (.int .i64 ((nx + k : Nat) : Int))) := (Fr.refl hb w2).setOwn hty (by decide) (by decide) _
    have hgh : g ≠ hb := by rw [K0.out.2.2]; omega
    refine ⟨k + 1, zs.set k (nx + k), by omega, by go_num, Hid.mk (by simp [HZ.out]), e1.stored_int HZ.out k _ (by omega), ?_, e3.setNew (by rw [K0.out.2.2]; exact Nat.le_refl _) _, (H.out.2.1.fr e3 hg hgb).fr hfn hgl hgh, Hid.mk (fun j hj => ?_)⟩
    ·have h1 : puts ms nx (xs.take (k + 1)) = put1 (puts ms nx (xs.take k)) (nx + k) (xr, xc, xz) := by
      have h2 : xs.take (k + 1) = xs.take k ++ [(xr, xc, xz)] := by
       rw [K.out.2.2.2.2.2.2, List.take_add_one, List.getD, List.getElem?_eq_getElem (by have := H.out.2.2.1; omega)]; rfl
      rw [h2, puts_snoc, show (xs.take k).length = k from by have := H.out.2.2.1; simp; omega]
     rw [h1]
     exact e2.fr hfn hne.symm
    ·by_cases hjk : j = k
     ·subst hjk; simp [List.getD, show j < zs.length by rw [HZ.out]; exact hkn]
     ·rw [List.getD, List.getElem?_set_ne (fun e => hjk e.symm)]; exact HI.out j (by omega)
  ·have hkn' : k = n := by omega
   subst hkn'
   have hki : ¬ (k : Int) < (k : Int) := by omega
   have K := Hid.mk (And.intro hown (And.intro hheld hfr))
   clear hown hheld hfr hrow
   go_wp2_with fail
   go_ret
   refine ⟨_, rfl, hb, zs, rfl, by rw [K0.out.2.2]; exact Nat.le_refl _, HZ.out, HI.out, K.out.1, ?_, K.out.2.2⟩
   have := K.out.2.1
   rw [List.take_of_length_le (by have := H.out.2.2.1; omega)] at this
   exact this
open Go.RowKit
def ManyRel (n : Nat) (Res : Nat → Nat → List Int → List (Nat × Nat × List Int) → Prop) (ms : List Hm) (h : Int) (ok : Bool) (e : Int) (xs : List (Nat × Nat × List Int)) : Prop :=
 ((∀ k, k < 24 → ∀ x, ms.getD k none = some x → (x.1 : Int) ≠ h) ∧ ok = false ∧ e = 2 ∧ xs = []) ∨
 ∃ i hd r c zs, i < 24 ∧ ms.getD i none = some (hd, r, c, zs) ∧ (hd : Int) = h ∧
   ((¬ FitsP r c zs ∧ ok = false ∧ e = 4 ∧ xs = []) ∨ (FitsP r c zs ∧ ms.countP Option.isNone < n ∧ ok = false ∧ e = 5 ∧ xs = []) ∨ (FitsP r c zs ∧ n ≤ ms.countP Option.isNone ∧ ok = true ∧ e = 0 ∧ xs.length = n ∧ Res r c zs xs))
def ManyOut (w w' : World) (b n nx : Nat) (ms : List Hm) (ok : Bool) (xs : List (Nat × Nat × List Int)) (v : Value) : Prop :=
 (ok = false ∧ v = .slice none 0 0 ∧ Held w' b ms nx ∧ Fr b w w') ∨ (ok = true ∧ KeptAll w w' b nx n ms xs v)
theorem list_ent {r c : Nat} {xs ys : List Int} (h1 : xs.length = r * c) (h2 : ys.length = r * c) (h : ∀ i j, i < r → j < c → ent c xs i j = ent c ys i j) : xs = ys := by
 apply List.ext_getElem (by omega)
 intro t a b
 have hc : 0 < c := by
  rcases Nat.eq_zero_or_pos c with h0 | h0
  ·subst h0; rw [Nat.mul_zero] at h1; omega
  ·exact h0
 have h3 : t / c < r := by rw [Nat.div_lt_iff_lt_mul hc]; omega
 have h4 := Nat.mod_lt t hc
 have h5 : t / c * c + t % c = t := by rw [Nat.mul_comm]; exact Nat.div_add_mod t c
 have h6 := h (t / c) (t % c) h3 h4
 unfold ent at h6
 rw [h5] at h6
 simpa [List.getD, a, b] using h6
def Sp (H : Nat → Nat → Int) (k c : Nat) (v : Nat → Int) : Prop := ∃ x : Nat → Int, ∀ j, j < c → v j = sm (fun l => x l * H l j) k
theorem Sp.sub {H : Nat → Nat → Int} {k c : Nat} {v w : Nat → Int} (h : Sp H k c v) (h' : Sp H k c w) : Sp H k c (fun j => v j - w j) := by
 obtain ⟨x, hx⟩ := h
 obtain ⟨y, hy⟩ := h'
 refine ⟨fun l => x l - y l, fun j hj => ?_⟩
 show v j - w j = _
 rw [hx j hj, hy j hj, sm_sub]
 exact sm_congr k (fun l _ => by grind)
theorem Sp.row (H : Nat → Nat → Int) {k b : Nat} (c : Nat) (hb : b < k) : Sp H k c (H b) :=
 ⟨fun l => if l = b then 1 else 0, fun j _ => by
   rw [sm_one k b hb (fun l _ hne => by show (if l = b then (1 : Int) else 0) * H l j = 0; rw [if_neg hne]; simp)]
   simp⟩
theorem first_ne (x : Nat → Int) (k : Nat) : (∀ l, l < k → x l = 0) ∨ ∃ b, b < k ∧ x b ≠ 0 ∧ ∀ l, l < b → x l = 0 := by
 induction k with
 | zero => exact .inl (fun l h => by omega)
 | succ k ih =>
   rcases ih with h | ⟨b, h1, h2, h3⟩
   ·by_cases hk : x k = 0
    ·exact .inl (fun l hl => by
      by_cases e : l = k
      ·rw [e]; exact hk
      ·exact h l (by omega))
    ·exact .inr ⟨k, by omega, hk, h⟩
   ·exact .inr ⟨b, by omega, h2, h3⟩
theorem EchSt.lead {r c k : Nat} {pc : Nat → Nat} {H : Nat → Nat → Int} (h : EchSt r c k pc H) {v : Nat → Int} (hv : Sp H k c v) : (∀ j, j < c → v j = 0) ∨ ∃ b, b < k ∧ (∀ j, j < pc b → v j = 0) ∧ v (pc b) ≠ 0 ∧ H b (pc b) ∣ v (pc b) := by
 obtain ⟨x, hx⟩ := hv
 rcases first_ne x k with h0 | ⟨b, h1, h2, h3⟩
 ·exact .inl (fun j hj => by rw [hx j hj]; exact sm_zero k (fun l hl => by rw [h0 l hl]; simp))
 ·have hle := h.le
  have hcb := h.col b h1
  have hz : ∀ j, j < pc b → v j = 0 := fun j hj => by
   rw [hx j (by omega)]
   refine sm_zero k (fun l hl => ?_)
   by_cases hlb : l < b
   ·rw [h3 l hlb]; simp
   ·have : pc b ≤ pc l := by
     by_cases e : l = b
     ·rw [e]; exact Nat.le_refl _
     ·exact Nat.le_of_lt (h.up b l (by omega) hl)
    rw [h.left l hl j (by omega)]; simp
  have hp : v (pc b) = x b * H b (pc b) := by
   rw [hx _ hcb]
   refine sm_one k b h1 (fun l hl hne => ?_)
   by_cases hlb : l < b
   ·rw [h3 l hlb]; simp
   ·rw [h.below b h1 l (by omega) (by omega)]; simp
  have hpos := h.piv b h1
  refine .inr ⟨b, h1, hz, ?_, ?_⟩
  ·rw [hp]
   intro e
   rcases Int.mul_eq_zero.1 e with e | e
   ·exact h2 e
   ·omega
  ·rw [hp]; exact Int.dvd_mul_left _ _
theorem EchSt.match_ {r r' c k k' : Nat} {pc pc' : Nat → Nat} {H H' : Nat → Nat → Int} (h : EchSt r c k pc H) (h' : EchSt r' c k' pc' H') (hs : ∀ b, b < k → Sp H' k' c (H b)) (b : Nat) (hb : b < k) : ∃ b', b' < k' ∧ pc' b' = pc b ∧ H' b' (pc' b') ∣ H b (pc b) := by
 have hp := h.piv b hb
 have hc := h.col b hb
 rcases h'.lead (hs b hb) with h0 | ⟨b', h1, h2, h3, h4⟩
 ·have := h0 _ hc; omega
 ·have e : pc' b' = pc b := by
   rcases Nat.lt_trichotomy (pc' b') (pc b) with hlt | heq | hgt
   ·exact absurd (h.left b hb _ hlt) h3
   ·exact heq
   ·have := h2 _ hgt; omega
  rw [e] at h4
  exact ⟨b', h1, e, by rw [e]; exact h4⟩
theorem EchSt.cols {r r' c k k' : Nat} {pc pc' : Nat → Nat} {H H' : Nat → Nat → Int} (h : EchSt r c k pc H) (h' : EchSt r' c k' pc' H') (hs : ∀ b, b < k → Sp H' k' c (H b)) (hs' : ∀ b, b < k' → Sp H k c (H' b)) : ∀ b, b < k → b < k' ∧ pc' b = pc b := by
 intro b
 induction b using Nat.strongRecOn with
 | _ b ih =>
   intro hb
   obtain ⟨b', h1, h2, -⟩ := h.match_ h' hs b hb
   rcases Nat.lt_trichotomy b' b with hlt | heq | hgt
   ·have e1 := (ih b' hlt (by omega)).2
    have e2 := h.up b' b hlt hb
    omega
   ·subst heq; exact ⟨h1, h2⟩
   ·obtain ⟨b2, h3, h4, -⟩ := h'.match_ h hs' b (by omega)
    have e1 := h'.up b b' hgt h1
    have e2 : b2 < b := by
     rcases Nat.lt_trichotomy b2 b with hl | he | hg
     ·exact hl
     ·subst he; omega
     ·have := h.up b b2 hg h3; omega
    have e3 := ih b2 e2 (by omega)
    have e4 := h'.up b2 b e2 (by omega)
    omega
theorem EchSt.uniq {r r' c k k' : Nat} {pc pc' : Nat → Nat} {H H' : Nat → Nat → Int} (h : EchSt r c k pc H) (h' : EchSt r' c k' pc' H') (hs : ∀ b, b < k → Sp H' k' c (H b)) (hs' : ∀ b, b < k' → Sp H k c (H' b)) : k = k' ∧ ∀ b j, b < k → j < c → H b j = H' b j := by
 have c1 := h.cols h' hs hs'
 have c2 := h'.cols h hs' hs
 have hk : k = k' := by
  rcases Nat.lt_trichotomy k k' with hl | he | hg
  ·have := c2 k hl; omega
  ·exact he
  ·have := c1 k' hg; omega
 subst hk
 have hpiv : ∀ b, b < k → H b (pc b) = H' b (pc b) := fun b hb => by
  obtain ⟨b1, h1, h2, h3⟩ := h.match_ h' hs b hb
  obtain ⟨b2, h4, h5, h6⟩ := h'.match_ h hs' b hb
  have e1 := (c1 b hb).2
  have e2 : b1 = b := by
   rcases Nat.lt_trichotomy b1 b with hl | he | hg
   ·have := h'.up b1 b hl hb; omega
   ·exact he
   ·have := h'.up b b1 hg h1; omega
  have e3 : b2 = b := by
   rcases Nat.lt_trichotomy b2 b with hl | he | hg
   ·have := h.up b2 b hl hb; omega
   ·exact he
   ·have := h.up b b2 hg h4; omega
  subst e2
  subst e3
  rw [e1] at h3 h6
  have p1 := h.piv _ hb
  have p2 := h'.piv _ hb
  rw [e1] at p2
  exact Int.dvd_antisymm (by omega) (by omega) h6 h3
 refine ⟨rfl, fun b j hb hj => ?_⟩
 have hsp : Sp H k c (fun j => H b j - H' b j) := (Sp.row H c hb).sub (hs' b hb)
 rcases h.lead hsp with h0 | ⟨l, h1, h2, h3, h4⟩
 ·have e := h0 j hj
  have e2 : H b j - H' b j = 0 := e
  omega
 ·exfalso
  have e3 : H b (pc l) - H' b (pc l) ≠ 0 := h3
  have e4 : H l (pc l) ∣ H b (pc l) - H' b (pc l) := h4
  have cl := (c1 l h1).2
  rcases Nat.lt_trichotomy l b with hl | he | hg
  ·have a1 := h.below l h1 b hl (by have := h.le; omega)
   have a2 := h'.below l (c1 l h1).1 b hl (by have := h'.le; omega)
   rw [cl] at a2
   omega
  ·subst he
   have := hpiv l hb
   omega
  ·obtain ⟨a1, a2⟩ := h.above l h1 b hg
   have a3 := h'.above l (c1 l h1).1 b hg
   rw [cl, ← hpiv l h1] at a3
   obtain ⟨m, hm⟩ := e4
   have a5 : (H b (pc l) - H' b (pc l)).natAbs < (H l (pc l)).natAbs := by omega
   rw [hm, Int.natAbs_mul] at a5
   have a6 : m ≠ 0 := by
    intro e; rw [e, Int.mul_zero] at hm; omega
   have a7 := Nat.mul_le_mul_left (H l (pc l)).natAbs (show 1 ≤ m.natAbs by omega)
   omega
theorem span_rows {r c k : Nat} {pc : Nat → Nat} {A H U W : Nat → Nat → Int} (h : EchSt r c k pc H) (hE : EInv A H U W r c) : (∀ i, i < r → Sp H k c (A i)) ∧ (∀ i, i < r → Sp A r c (H i)) := by
 have cut : ∀ (f : Nat → Int) n m, m ≤ n → (∀ l, m ≤ l → l < n → f l = 0) → sm f n = sm f m := by
  intro f n
  induction n with
  | zero => intro m hm _; rw [show m = 0 from by omega]
  | succ n ih =>
    intro m hm hz
    by_cases e : m = n + 1
    ·rw [e]
    ·rw [sm, hz n (by omega) (by omega), ih m (by omega) (fun l a b => hz l a (by omega))]; omega
 refine ⟨fun i hi => ⟨W i, fun j hj => ?_⟩, fun i hi => ⟨U i, fun j hj => ?_⟩⟩
 ·rw [← hE.wh i j hi hj, dot_sm]
  exact cut _ r k h.le (fun l a b => by rw [h.rest l a b j hj]; simp)
 ·rw [← hE.ua i j hi hj, dot_sm]
theorem Sp.trans {H A : Nat → Nat → Int} {k r c : Nat} {v : Nat → Int} (hv : Sp H k c v) (hH : ∀ i, i < k → Sp A r c (H i)) : Sp A r c v := by
 obtain ⟨x, hx⟩ := hv
 have key : ∀ n, n ≤ k → Sp A r c (fun j => sm (fun l => x l * H l j) n) := by
  intro n
  induction n with
  | zero => intro _; exact ⟨fun _ => 0, fun j _ => (sm_zero r (fun l _ => by simp)).symm⟩
  | succ n ih =>
    intro hn
    obtain ⟨y, hy⟩ := ih (by omega)
    obtain ⟨u, hu⟩ := hH n (by omega)
    refine ⟨fun l => y l + x n * u l, fun j hj => ?_⟩
    have e1 : sm (fun l => x l * H l j) n = sm (fun l => y l * A l j) r := hy j hj
    show sm (fun l => x l * H l j) (n + 1) = _
    rw [sm, e1, hu j hj]
    have := sm_lin 1 (x n) (fun l => y l * A l j) (fun l => u l * A l j) r
    rw [show sm (fun l => y l * A l j) r + x n * sm (fun l => u l * A l j) r = 1 * sm (fun l => y l * A l j) r + x n * sm (fun l => u l * A l j) r from by omega, ← this]
    exact sm_congr r (fun l _ => by grind)
 obtain ⟨y, hy⟩ := key k (Nat.le_refl _)
 exact ⟨y, fun j hj => by rw [hx j hj]; exact hy j hj⟩
end Go.Proofs.YtfjbijpagaipnabGreatDoor
namespace Go.Proofs.YtfjbijpagaipnabGreatDoor.R
theorem Sp.comb {O : Nat → Nat → Int} {R c : Nat} {C : List Nat} {v : Nat → Int} (h : Sp O R c v) (hC : ∀ x ∈ C, x < c) : CombOf O R C v := by
 obtain ⟨x, hx⟩ := h
 exact ⟨x, fun y hy => hx y (hC y hy)⟩
theorem Sp.scale {O : Nat → Nat → Int} {R c : Nat} {v : Nat → Int} (t : Int) (h : Sp O R c v) : Sp O R c (fun j => t * v j) := by
 obtain ⟨x, hx⟩ := h
 refine ⟨fun l => t * x l, fun j hj => ?_⟩
 have := sm_lin t 0 (fun l => x l * O l j) (fun l => x l * O l j) R
 show t * v j = sm (fun l => t * x l * O l j) R
 rw [hx j hj, show sm (fun l => t * x l * O l j) R = sm (fun l => t * (x l * O l j) + 0 * (x l * O l j)) R from sm_congr R (fun l _ => by grind), this]
 grind
theorem chosenL_self (k : Nat) : chosenL k k = [List.range k] := by
 induction k with
 | zero => rfl
 | succ k ih =>
   rw [chosenL, List.range_succ, List.drop_append_of_le_length (by simp), List.drop_of_length_le (by simp)]
   simp [ih]
theorem div_same {A O : Nat → Nat → Int} {r R c m : Nat} (h1 : ∀ i, i < r → Sp O R c (A i)) (h2 : ∀ i, i < R → Sp A r c (O i)) (hm : m ≤ 4) : divF A r c m = divF O R c m := by
 refine Nat.dvd_antisymm ?_ ?_
 ·rw [div_dvd _ O R c m hm]
  exact fun C hC => allD_comb ((div_dvd _ A r c m hm).1 (Nat.dvd_refl _) C hC) (fun i hi => Sp.comb (h2 i hi) (chosenL_lt hC).2)
 ·rw [div_dvd _ A r c m hm]
  exact fun C hC => allD_comb ((div_dvd _ O R c m hm).1 (Nat.dvd_refl _) C hC) (fun i hi => Sp.comb (h1 i hi) (chosenL_lt hC).2)
theorem chosenL_none {k n : Nat} (h : n < k) : chosenL k n = [] := by
 cases hc : chosenL k n with
 | nil => rfl
 | cons a l => have := chosenL_le (show a ∈ chosenL k n by rw [hc]; simp); omega
theorem div_few (f : Nat → Nat → Int) {r c k : Nat} (h : r < k) : divF f r c k = 0 := by
 unfold divF; rw [chosenL_none h]; rfl
theorem chosen_in {k n : Nat} {R : List Nat} (hR : R ∈ chosenL k n) (h : ∀ x ∈ R, x < k) : R = List.range k := by
 have : R ∈ chosenL k k := by
  cases k with
  | zero => exact hR
  | succ k =>
    obtain ⟨Q, last, e, hQ, hl1, hl2⟩ := chosenL_last hR
    have : last = k := by have := h last (by rw [e]; simp); omega
    subst this
    rw [e]
    exact chosenL_snoc hQ (by omega)
 rw [chosenL_self, List.mem_singleton] at this
 exact this
def tr (X : Nat → Nat → Int) : Nat → Nat → Int := fun i j => X j i
theorem mv_tr (X : Nat → Nat → Int) (R C : List Nat) (hl : R.length = C.length) (h4 : R.length ≤ 4) : mv (R.map (tr X)) C = mv (C.map X) R := by
 match R, C, hl, h4 with
 | [], [], _, _ => rfl
 | [a], [x], _, _ => simp [mv, sumF, signed, tr]
 | [a, b], [x, y], _, _ => simp [mv, sumF, signed, tr]; grind
 | [a, b, c], [x, y, z], _, _ => simp [mv, sumF, signed, tr]; grind
 | [a, b, c, d], [x, y, z, u], _, _ => simp [mv, sumF, signed, tr]; grind
theorem chosenL_any {m n : Nat} {d : Int} {f : Nat → Nat → Int} {r : Nat} (hm : m ≤ 4) (h : ∀ C ∈ chosenL m n, AllD d f r C) {R C : List Nat} (hR : R.length = m) (hr : ∀ x ∈ R, x < r) (hC : C.length = m) (hc : ∀ x ∈ C, x < n) : d ∣ mv (R.map f) C := by
 have := rise_all d (tr f) R (by omega) m n [] (by simp [hR]) (fun C' hC' => by
  have h1 := chosenL_lt hC'
  rw [List.append_nil, mv_tr f C' R (by omega) (by omega)]
  exact h C' hC' R (by omega) hr) C hC hc
 rw [List.append_nil, mv_tr f C R (by omega) (by omega)] at this
 exact this
theorem div_tr (f : Nat → Nat → Int) (r c m : Nat) (hm : m ≤ 4) : divF (tr f) c r m = divF f r c m := by
 have key : ∀ (f : Nat → Nat → Int) (r c : Nat), divF f r c m ∣ divF (tr f) c r m := fun f r c => by
  rw [div_dvd _ (tr f) c r m hm]
  intro C hC R hR hRc
  have h1 := chosenL_lt hC
  rw [mv_tr f R C hR (by omega)]
  exact chosenL_any hm ((div_dvd _ f r c m hm).1 (Nat.dvd_refl _)) h1.1 h1.2 (by omega) hRc
 exact Nat.dvd_antisymm (key (tr f) c r) (key f r c)
def pr (X : Nat → Nat → Int) (o : Nat) : Nat → Int
 | 0 => 1
 | n + 1 => X o o * pr X (o + 1) n
theorem pr_succ (X : Nat → Nat → Int) : ∀ n o, pr X o (n + 1) = pr X o n * X (o + n) (o + n) := by
 intro n
 induction n with
 | zero => intro o; simp [pr]
 | succ n ih =>
   intro o
   rw [pr, ih (o + 1), pr, show o + 1 + n = o + (n + 1) from by omega, Int.mul_assoc]
theorem pr_tr (X : Nat → Nat → Int) : ∀ n o, pr (tr X) o n = pr X o n := by
 intro n
 induction n with
 | zero => intro o; rfl
 | succ n ih => intro o; rw [pr, pr, ih]; rfl
theorem mv_up {X : Nat → Nat → Int} : ∀ n o, (∀ i j, j < i → i < o + n → X i j = 0) → mv ((List.range' o n).map X) (List.range' o n) = pr X o n := by
 intro n
 induction n with
 | zero => intro o _; simp [mv, pr]
 | succ n ih =>
   intro o hX
   rw [List.range'_succ, List.map_cons, mv, List.length_cons, sumF_one _ _ (fun k hk0 hk => ?_)]
   ·have e : signed 0 (X o ((o :: List.range' (o + 1) n).getD 0 0) * mv ((List.range' (o + 1) n).map X) ((o :: List.range' (o + 1) n).eraseIdx 0)) = X o o * mv ((List.range' (o + 1) n).map X) (List.range' (o + 1) n) := by simp [signed]
    rw [e, ih (o + 1) (fun i j h1 h2 => hX i j h1 (by omega)), pr]
   ·have hz : mv ((List.range' (o + 1) n).map X) ((o :: List.range' (o + 1) n).eraseIdx k) = 0 := by
     refine mv_zero_col o _ _ (fun v hv => ?_) ?_ ?_
     ·obtain ⟨a, ha, rfl⟩ := List.mem_map.1 hv
      have ha' := List.mem_range'_1.1 ha
      exact hX a o (by omega) (by omega)
     ·match k, hk0 with
      | k + 1, _ => simp
     ·rw [List.length_eraseIdx, if_pos (by simpa using hk)]
      simp
    rw [hz]
    unfold signed; split <;> simp
theorem pr_ne {X : Nat → Nat → Int} : ∀ n o, pr X o n ≠ 0 → ∀ i, o ≤ i → i < o + n → X i i ≠ 0 := by
 intro n
 induction n with
 | zero => intro o _ i h1 h2; omega
 | succ n ih =>
   intro o h i h1 h2
   rw [pr] at h
   by_cases hio : i = o
   ·subst hio; intro h0; rw [h0] at h; simp at h
   ·exact ih (o + 1) (fun h0 => h (by rw [h0]; simp)) i (by omega) (by omega)
theorem pr_pos {X : Nat → Nat → Int} : ∀ n o, (∀ i, o ≤ i → i < o + n → 0 < X i i) → 0 < pr X o n := by
 intro n
 induction n with
 | zero => intro o _; simp [pr]
 | succ n ih => intro o h; rw [pr]; exact Int.mul_pos (h o (by omega) (by omega)) (ih (o + 1) (fun i h1 h2 => h i (by omega) (by omega)))
theorem EchSt.low {r c k : Nat} {pc : Nat → Nat} {H : Nat → Nat → Int} (h : EchSt r c k pc H) : ∀ i j, j < i → i < r → j < c → H i j = 0 := by
 intro i j h1 h2 h3
 rcases Nat.lt_or_ge i k with hk | hk
 ·have key : ∀ b, b < k → b ≤ pc b := by
   intro b
   induction b with
   | zero => intro _; omega
   | succ b ih => intro hb; have h1 := ih (by omega); have h2 := h.up b (b + 1) (by omega) hb; omega
  exact h.left i hk j (by have := key i hk; omega)
 ·exact h.rest i hk h2 j h3
theorem up_all {X : Nat → Nat → Int} {r m : Nat} (hm : m ≤ 4) (hmr : m ≤ r) (hX : ∀ i j, j < i → i < r → j < m → X i j = 0) : AllD (pr X 0 m) X r (List.range m) := by
 intro R hR hr
 have := rise_all (pr X 0 m) X (List.range m) (by simpa using hm) m r [] (by simp) (fun R' hR' => by
  rw [List.append_nil]
  obtain ⟨h1, h2⟩ := chosenL_lt hR'
  by_cases hall : ∀ x ∈ R', x < m
  ·have := chosen_in hR' hall
   rw [this, List.range_eq_range', mv_up m 0 (fun i j a b => hX i j a (by omega) (by omega))]
   exact Int.dvd_refl _
  ·have hex : ∃ x, x ∈ R' ∧ m ≤ x := Classical.byContradiction (fun hn => hall (fun x hx => Nat.lt_of_not_le (fun hle => hn ⟨x, hx, hle⟩)))
   obtain ⟨x, hx, hle⟩ := hex
   obtain ⟨xs, ys, he⟩ := List.append_of_mem hx
   have hlen : xs.length + ys.length + 1 = m := by have := congrArg List.length he; simp at this; omega
   rw [he, List.map_append, List.map_cons, mv_zero_row (X x) (ys.map X) (xs.map X) (List.range m) (fun j hj => hX x j (by have := List.mem_range.1 hj; omega) (h2 x hx) (List.mem_range.1 hj)) (by simp; omega)]
   exact Int.dvd_zero _) R (by simpa using hR) hr
 simpa using this
theorem form_diag {r c k k' : Nat} {pc : Nat → Nat} {D H U W : Nat → Nat → Int} (h : EchSt r c k' pc H) (hE : EInv D H U W r c) (hkc : k ≤ c) (hk4 : k ≤ 4) (hz : ∀ i j, i < r → k ≤ j → j < c → D i j = 0)
 (hR : ∀ m, m ≤ k → ∃ R : List Nat, R.length = m ∧ (∀ x ∈ R, x < r) ∧ mv (R.map D) (List.range m) ≠ 0) :
 k' = k ∧ (∀ b, b < k → pc b = b) ∧ (∀ i j, i < r → k ≤ j → j < c → H i j = 0) ∧ ∀ m, m ≤ k → ∀ R : List Nat, R.length = m → (∀ x ∈ R, x < r) → pr H 0 m ∣ mv (R.map D) (List.range m) := by
 have hHz : ∀ i j, i < r → k ≤ j → j < c → H i j = 0 := fun i j hi h1 h2 => by
  rw [← hE.ua i j hi h2, dot_sm]
  exact sm_zero r (fun l hl => by rw [hz l j hl h1 h2, Int.mul_zero])
 have hle := h.le
 have hpk : ∀ b, b < k' → pc b < k := fun b hb => by
  rcases Nat.lt_or_ge (pc b) k with h1 | h1
  ·exact h1
  ·have h2 := h.piv b hb
   rw [hHz b (pc b) (by omega) h1 (h.col b hb)] at h2
   omega
 have hge : ∀ b, b < k' → b ≤ pc b := by
  intro b
  induction b with
  | zero => intro _; omega
  | succ b ih => intro hb; have h1 := ih (by omega); have h2 := h.up b (b + 1) (by omega) hb; omega
 have hkk : k' ≤ k := by
  rcases Nat.eq_zero_or_pos k' with h0 | h0
  ·omega
  ·have h1 := hpk (k' - 1) (by omega)
   have h2 := hge (k' - 1) (by omega)
   omega
 have hdv : ∀ m, m ≤ k → m ≤ r → ∀ R : List Nat, R.length = m → (∀ x ∈ R, x < r) → pr H 0 m ∣ mv (R.map D) (List.range m) := fun m hm hmr R hRl hRr => by
  have h1 := up_all (X := H) (by omega) hmr (fun i j a b e => EchSt.low h i j a b (by omega))
  have h2 := allD_comb h1 (fun i hi => comb_of_dot (c := c) (fun x hx => by have := List.mem_range.1 hx; omega) (fun j hj => hE.wh i j hi hj))
  exact h2 R (by simpa using hRl) hRr
 have hkr : k ≤ r := by
  obtain ⟨R, h1, h2, h3⟩ := hR k (Nat.le_refl _)
  rcases Nat.lt_or_ge r k with h4 | h4
  ·exfalso
   have : (0 : Int) ∣ mv (R.map D) (List.range k) := by
    have := rise_all 0 D (List.range k) (by simpa using hk4) k r [] (by simp) (fun R' hR' => by rw [chosenL_none h4] at hR'; simp at hR') R h1 h2
    simpa using this
   exact h3 (Int.zero_dvd.1 this)
  ·exact h4
 have hne : ∀ i, i < k → H i i ≠ 0 := fun i hi => by
  obtain ⟨R, h1, h2, h3⟩ := hR k (Nat.le_refl _)
  have h4 := hdv k (Nat.le_refl _) hkr R h1 h2
  exact pr_ne k 0 (fun h0 => h3 (by rw [h0] at h4; exact Int.zero_dvd.1 h4)) i (by omega) (by omega)
 have hk' : k' = k := by
  rcases Nat.lt_or_ge k' k with h1 | h1
  ·exact absurd (h.rest k' (Nat.le_refl _) (by omega) k' (by omega)) (hne k' h1)
  ·omega
 subst hk'
 refine ⟨rfl, fun b hb => ?_, hHz, fun m hm => hdv m hm (by omega)⟩
 have h1 := hge b hb
 rcases Nat.lt_or_ge b (pc b) with h2 | h2
 ·exact absurd (h.left b hb b h2) (hne b hb)
 ·omega
end Go.Proofs.YtfjbijpagaipnabGreatDoor.R
