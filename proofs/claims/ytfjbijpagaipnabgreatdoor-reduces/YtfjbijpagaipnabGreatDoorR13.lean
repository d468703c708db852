import Derived.Test.YtfjbijpagaipnabGreatDoorR12
import Derived.Deep.QuietTactic
import Derived.BigQuiet
namespace Go.Proofs.YtfjbijpagaipnabGreatDoor.R
open Go.RowKit
def OwnB (B : Nat) (w : World) (v : Value) (xs : List Nat) : Prop := w.ownsRow B 3 1 v xs.length (lcells xs)
theorem OwnB.own {B : Nat} {w : World} {v : Value} {xs : List Nat} (h : OwnB B w v xs) : Own w v xs := by
 refine ⟨h.1, ?_⟩
 rcases h.2 with h2 | ⟨g, cap, cur, hv, hg, r⟩
 ·exact .inl h2
 ·exact .inr ⟨g, cap, cur, hv, Nat.zero_le _, r⟩
theorem append_digit (w : World) {ops : Array Oper} {rest : List Oper} {o : Oper} {a : Act} {Q : Exit → Act → World → Prop} (hgd : o.guard = none) (s x : Operand)
 (ho : o.op = .call { callee := .builtin .append, args := #[s, x], argTypes := #[51, 51] }) (B : Nat) (v : Value) (zs : List Nat) (hs : a.eval s = v) (hown : OwnB B w v zs)
 (ad : Addr) (hx : a.eval x = .slice (some ad) 1 1) (c : Nat) (hc : w.cell? (ad.add 0) = some (.int .i64 (c : Nat))) (hl : zs.length ≤ 100000000000) (hB : B ≤ w.heap.size)
 (hK : ∀ v' w', OwnB B w' v' (zs ++ [c]) → w.grownBy w' v.ownBlock → wpList Tryz.prog ops Q rest (a.put o.dst v') w') : wpList Tryz.prog ops Q (o :: rest) a w := by
 obtain ⟨i, hi, hz0, hz1, hz2⟩ := info_parts Tryz.info3
 refine wpList_append_own w hgd s x 51 ho B 3 i (.int .i64 0) 1 8 Tryz.underlying51 hi hz0 hz1 hz2 rfl (by decide) v zs.length (lcells zs) hs hown ad 1 1 [.int .i64 (c : Nat)] hx rfl ?_ ?_ ?_ ?_ hB ?_
 ·intro j u hj
  match j, hj with
  | 0, hj => simp at hj; subst hj; exact hc
 ·intro u hu; simp at hu; subst hu; rfl
 ·unfold maxLen; omega
 ·omega
 ·intro v' w' h1 h2 _
  refine hK v' w' ?_ h2
  unfold OwnB
  rw [show lcells (zs ++ [c]) = lcells zs ++ [.int .i64 (c : Nat)] from by simp [lcells], List.length_append, List.length_singleton]
  exact h1
theorem Own.at_ {w : World} {ao : Option Addr} {n cap : Nat} {xs : List Nat} (h : Own w (.slice ao n cap) xs) (hn : xs.length = n) (k : Nat) (hk : k < n) : ∃ b, ao = some ⟨b, 0, none⟩ ∧ w.cell? ⟨b, k, none⟩ = some (.int .i64 (xs.getD k 0 : Nat)) := by
 obtain ⟨ao', cap', h1, _, _, h2, _⟩ := h.open_
 simp only [Value.slice.injEq] at h1
 obtain ⟨rfl, _, rfl⟩ := h1
 exact h2 k (by omega)
def cmpZ (a b : Nat) : Int := if a < b then -1 else if b < a then 1 else 0
theorem val_top {xs : List Nat} (h : Lim xs) : 0 < xs.length → 10000 ^ (xs.length - 1) ≤ val xs := by
 intro hl
 have h1 := val_take_drop xs (xs.length - 1) (by omega)
 rw [drop_getD xs (xs.length - 1) (by omega), val_cons, show xs.length - 1 + 1 = xs.length from by omega, List.drop_length, val_nil] at h1
 rcases h.2 with h2 | h2
 ·subst h2; simp at hl
 ·have : 10000 ^ (xs.length - 1) * 1 ≤ 10000 ^ (xs.length - 1) * (xs.getD (xs.length - 1) 0 + 10000 * 0) := Nat.mul_le_mul_left _ (by omega)
  omega
theorem cmp_len {xs ys : List Nat} (hx : Lo xs) (hy : Lim ys) (h : xs.length < ys.length) : val xs < val ys := by
 have h1 := val_lt hx
 have h2 := val_top hy (by omega)
 have h3 : 10000 ^ xs.length ≤ 10000 ^ (ys.length - 1) := Nat.pow_le_pow_right (by decide) (by omega)
 omega
theorem cmp_at {xs ys : List Nat} (hx : Lo xs) (hl : xs.length = ys.length) (k : Nat) (hk : k < xs.length) (he : xs.drop (k + 1) = ys.drop (k + 1)) (hlt : xs.getD k 0 < ys.getD k 0) : val xs < val ys := by
 rw [val_take_drop xs k (by omega), val_take_drop ys k (by omega), drop_getD xs k hk, drop_getD ys k (by omega), val_cons, val_cons, he]
 have h1 := val_lt (Lo_take hx k)
 rw [List.length_take, Nat.min_eq_left (by omega)] at h1
 have h2 : 10000 ^ k * (xs.getD k 0 + 10000 * val (ys.drop (k + 1))) + 10000 ^ k ≤ 10000 ^ k * (ys.getD k 0 + 10000 * val (ys.drop (k + 1))) := by
  rw [← Nat.mul_succ]; exact Nat.mul_le_mul_left _ (by omega)
 omega
set_option maxRecDepth 100000 in
set_option maxHeartbeats 1000000 in
theorem size_any (v u : Value) (xs ys : List Nat) (w : World) (hv : Own w v xs) (hu : Own w u ys) (lx : Lim xs) (ly : Lim ys) (bx : xs.length ≤ 100000000000) :
 Calls Tryz.prog 224 #[v, u] w fun e w' => e = .returned (.int .i64 (cmpZ (val xs) (val ys))) ∧ Below w.heap.size w w' := by
 obtain ⟨ao, cap, rfl, hc, hm, -⟩ := hv.open_
 obtain ⟨bo, dap, rfl, hd, hn, -⟩ := hu.open_
 have H := Hid.mk (And.intro hv (And.intro hu (And.intro lx ly)))
 clear hv hu lx ly
 by_cases h1 : xs.length < ys.length
 ·go_enter Tryz.func224, Tryz.ntmps224
  go_wp2_with fail
  go_ret
  refine ⟨ret_int ?_, Below.refl _ _⟩
  obtain ⟨_, _, lx, ly⟩ := H.out
  unfold cmpZ
  rw [if_pos (cmp_len lx.1 ly (by omega))]
 ·by_cases h2 : ys.length < xs.length
  ·have h1' : decide (xs.length < ys.length) = false := by simp; omega
   go_enter Tryz.func224, Tryz.ntmps224
   go_wp2_with fail
   go_ret
   refine ⟨ret_int ?_, Below.refl _ _⟩
   obtain ⟨_, _, lx, ly⟩ := H.out
   have := cmp_len ly.1 lx (by omega)
   unfold cmpZ
   rw [if_neg (by omega), if_pos this]
  ·have h3 : xs.length = ys.length := by omega
   have h1' : decide (xs.length < ys.length) = false := by simp; omega
   have h2' : decide (ys.length < xs.length) = false := by simp; omega
   have HE0 := Hid.mk h3
   clear h1 h2 h3
   go_enter Tryz.func224, Tryz.ntmps224
   go_wp2_with fail
   go_loopw [5] (fun i wr => ∃ k : Nat, k ≤ xs.length ∧ i = .int .i64 ((k : Int) - 1) ∧ Below w.heap.size w wr ∧ Hid (xs.drop k = ys.drop k)) (fun i _ => (intOf i + 1).toNat)
   case atStart =>
    exact ⟨xs.length, Nat.le_refl _, rfl, Below.refl _ _, Hid.mk (by rw [List.drop_of_length_le (by omega), List.drop_of_length_le (by rw [HE0.out]; omega)])⟩
   case round =>
    obtain ⟨k, hk, rfl, hbel, HE⟩ := hrel
    have HB := Hid.mk hbel
    clear hbel
    by_cases hk0 : k = 0
    ·subst hk0
     go_wp2_with fail
     go_ret
     refine ⟨ret_int ?_, HB.out⟩
     have he := HE.out
     rw [List.drop_zero, List.drop_zero] at he
     rw [he]
     simp [cmpZ]
    ·obtain ⟨k, rfl⟩ : ∃ k', k = k' + 1 := ⟨k - 1, by omega⟩
     have hky : k < ys.length := by have := HE0.out; omega
     obtain ⟨ba, rfl, ca⟩ := (H.out.1.below HB.out).at_ rfl k (by omega)
     obtain ⟨bb, rfl, cb⟩ := (H.out.2.1.below HB.out).at_ rfl k hky
     obtain ⟨x, hx⟩ : ∃ x, x = xs.getD k 0 := ⟨_, rfl⟩
     obtain ⟨y, hy⟩ : ∃ y, y = ys.getD k 0 := ⟨_, rfl⟩
     have bx1 := Lo_get H.out.2.2.1.1 k
     have by1 := Lo_get H.out.2.2.2.1 k
     rw [← hx] at ca bx1
     rw [← hy] at cb by1
     have HX := Hid.mk (And.intro hx hy)
     clear hx hy
     by_cases h5 : x < y
     ·go_wp2_with fail
      go_quiet (fail)
      go_wp2_with fail
      go_ret
      refine ⟨ret_int ?_, below_drewN HB.out _⟩
      unfold cmpZ
      rw [if_pos (cmp_at H.out.2.2.1.1 HE0.out k (by omega) HE.out (by rw [← HX.out.1, ← HX.out.2]; exact h5))]
     ·have h5' : decide (x < y) = false := by simp; omega
      have h5'' : decide ((x : Int) < (y : Int)) = false := by simp; omega
      by_cases h6 : y < x
      ·clear h5
       go_wp2_with fail
       go_quiet (fail)
       go_wp2_with fail
       go_quiet (fail)
       go_wp2_with fail
       go_ret
       refine ⟨ret_int ?_, by repeat (first | exact HB.out | refine below_drewN ?_ _)⟩
       have h7 := cmp_at H.out.2.2.2.1 HE0.out.symm k hky HE.out.symm (by rw [← HX.out.1, ← HX.out.2]; exact h6)
       unfold cmpZ
       rw [if_neg (by omega), if_pos h7]
      ·have h6' : decide (y < x) = false := by simp; omega
       have h6'' : decide ((y : Int) < (x : Int)) = false := by simp; omega
       have HXY := Hid.mk (show x = y from by omega)
       clear h5 h6
       go_wp2_with fail
       go_quiet (fail)
       go_wp2_with fail
       go_quiet (fail)
       go_wp2_with fail
       go_roundw
       case measure => simp [intOf]
       case rel =>
        refine ⟨k, by omega, by go_num, by repeat (first | exact HB.out | refine below_drewN ?_ _), Hid.mk ?_⟩
        rw [drop_getD xs k (by omega), drop_getD ys k hky, HE.out, ← HX.out.1, ← HX.out.2, HXY.out]
def IsN (w : World) (v : Value) (z : Int) (L : Nat) : Prop := ∃ neg sl xs, v = .agg #[.bool neg, sl] ∧ Own w sl xs ∧ Lim xs ∧ (neg = true → xs ≠ []) ∧ z = (if neg then -(val xs : Int) else (val xs : Int)) ∧ xs.length ≤ L
theorem IsN.below {w w' : World} {v : Value} {z : Int} {L : Nat} (h : IsN w v z L) (hb : Below w.heap.size w w') : IsN w' v z L := by
 obtain ⟨neg, sl, xs, h1, h2, h3⟩ := h
 exact ⟨neg, sl, xs, h1, h2.below hb, h3⟩
set_option maxRecDepth 100000 in
theorem made_any (neg : Bool) (v : Value) (xs : List Nat) (w : World) (hv : Own w v xs) (lx : Lo xs) :
 Calls Tryz.prog 223 #[.bool neg, v] w fun e w' => ∃ r, e = .returned r ∧ IsN w' r (if neg then -(val xs : Int) else (val xs : Int)) xs.length ∧ Below w.heap.size w w' := by
 have H := Hid.mk (And.intro hv lx)
 clear hv lx
 go_enter Tryz.func223, Tryz.ntmps223
 go_wp2_with fail
 refine (plain_any v xs _ (H.out.1.below ((Below.refl _ _).alloc (Nat.le_refl _) _)) H.out.2).mono ?_
 rintro e w' ⟨⟨u, rfl, hu⟩, rfl⟩
 obtain ⟨ys, h1, h2, h3, h4⟩ := hu
 obtain ⟨ao, cap, rfl, hc, hm, -⟩ := (h4 _ H.out.1).open_
 have K := Hid.mk (And.intro h1 (And.intro h2 (And.intro h3 h4)))
 clear h1 h2 h4
 have fin : ∀ (b : Bool) (W : World), Below w.heap.size w W → (b = true → ys ≠ []) → IsN W (.agg #[.bool b, .slice ao ys.length cap]) (if b then -(val xs : Int) else (val xs : Int)) xs.length := by
  intro b W hb hne
  obtain ⟨k1, k2, k3, k4⟩ := K.out
  exact ⟨b, _, ys, rfl, (k4 _ H.out.1).below hb, k1, hne, by rw [k2], k3⟩
 have HF := Hid.mk fin
 clear fin
 cases neg
 ·go_wp2_with fail
  refine bodyPost_ret (v := .agg #[.bool false, .slice ao ys.length cap]) (by simp [results, Tryz.results223, go_sem]) rfl ?_
  exact ⟨_, rfl, HF.out false _ ((Below.refl _ _).alloc (Nat.le_refl _) _) (fun h => by cases h), (Below.refl _ _).alloc (Nat.le_refl _) _⟩
 ·by_cases hy : 0 < ys.length
  ·go_wp2_with fail
   refine bodyPost_ret (v := .agg #[.bool true, .slice ao ys.length cap]) (by simp [results, Tryz.results223, go_sem]) rfl ?_
   exact ⟨_, rfl, HF.out true _ ((Below.refl _ _).alloc (Nat.le_refl _) _) (fun _ e => by rw [e] at hy; simp at hy), (Below.refl _ _).alloc (Nat.le_refl _) _⟩
  ·have hy' : decide (0 < ys.length) = false := decide_eq_false hy
   have hy0 : ys = [] := List.eq_nil_of_length_eq_zero (by omega)
   have H0 := Hid.mk hy0
   clear hy0
   go_wp2_with fail
   refine bodyPost_ret (v := .agg #[.bool false, .slice ao ys.length cap]) (by simp [results, Tryz.results223, go_sem]) rfl ?_
   have h0 : val xs = 0 := by rw [← K.out.2.1, H0.out]; rfl
   have := HF.out false (w.alloc (.cells #[.bool false, .slice ao ys.length cap] 171)) ((Below.refl _ _).alloc (Nat.le_refl _) _) (fun h => by cases h)
   refine ⟨_, rfl, ?_, (Below.refl _ _).alloc (Nat.le_refl _) _⟩
   rw [h0] at this ⊢
   exact this
open Go.RowKit
theorem val_snoc (zs : List Nat) (c : Nat) : val (zs ++ [c]) = val zs + 10000 ^ zs.length * c := by rw [val_append]; simp [val]
theorem Lo_snoc {zs : List Nat} {c : Nat} (h : Lo zs) (hc : c < 10000) : Lo (zs ++ [c]) := Lo_append h (Lo_cons hc Lo_nil)
theorem sum_round {Z P cc X Y x y : Nat} (h : Z + P * cc = X + Y) : Z + P * ((cc + x + y) % 10000) + P * 10000 * ((cc + x + y) / 10000) = X + P * x + (Y + P * y) := by
 have h1 : P * ((cc + x + y) % 10000) + P * 10000 * ((cc + x + y) / 10000) = P * (cc + x + y) := by
  rw [Nat.mul_assoc, ← Nat.mul_add, Nat.mod_add_div]
 rw [Nat.mul_add, Nat.mul_add] at h1
 omega
def SumOut (w w' : World) (v : Value) (n L : Nat) : Prop := (∃ zs, Lo zs ∧ val zs = n ∧ zs.length ≤ L ∧ Own w' v zs) ∧ Below w.heap.size w w'
def SumTop (w w' : World) (v : Value) (n L N : Nat) : Prop := (∃ zs, Lo zs ∧ val zs = n ∧ zs.length ≤ L ∧ Own w' v zs ∧ (zs.length ≤ N ∨ 0 < zs.getD (zs.length - 1) 0)) ∧ Below w.heap.size w w'
set_option maxRecDepth 100000 in
set_option maxHeartbeats 2000000 in
theorem sum_top (v u : Value) (xs ys : List Nat) (w : World) (hv : Own w v xs) (hu : Own w u ys) (lx : Lo xs) (ly : Lo ys) (bx : xs.length ≤ 50000000000) (by_ : ys.length ≤ 50000000000) :
 Calls Tryz.prog 228 #[v, u] w fun e w' => ∃ r, e = .returned r ∧ SumTop w w' r (val xs + val ys) (max xs.length ys.length + 1) (max xs.length ys.length) := by
 obtain ⟨ao, cap, rfl, hc, hm, -⟩ := hv.open_
 obtain ⟨bo, dap, rfl, hd, hn, -⟩ := hu.open_
 have H := Hid.mk (And.intro hv (And.intro hu (And.intro lx ly)))
 clear hv hu lx ly
 obtain ⟨N, hN⟩ : ∃ N, N = max xs.length ys.length := ⟨_, rfl⟩
 have hN1 : xs.length ≤ N := by omega
 have hN2 : ys.length ≤ N := by omega
 have hN3 : N ≤ 50000000000 := by omega
 have HN := Hid.mk hN
 clear hN
 go_enter Tryz.func228, Tryz.ntmps228
 go_wp2_with fail
 go_loopw [5, 6, 7] (fun out c i wr => ∃ (k cc : Nat) (zs : List Nat), i = .int .i64 k ∧ cc ≤ 1 ∧ c = .int .i64 cc ∧ (k ≤ N ∨ (k = N + 1 ∧ cc = 0)) ∧ Hid (zs.length = k) ∧ Lo zs ∧ OwnB w.heap.size wr out zs ∧ Below w.heap.size w wr ∧
  Hid (val zs + 10000 ^ k * cc = val (xs.take k) + val (ys.take k) ∧ (k ≤ N ∨ 0 < zs.getD (k - 1) 0))) (fun _ c i _ => 2 * (N - (intOf i).toNat) + (intOf c).toNat)
 case atStart => exact ⟨0, 0, [], rfl, by omega, rfl, .inl (Nat.zero_le _), Hid.mk rfl, Lo_nil, World.ownsRow_nil _ _ _ _, Below.refl _ _, Hid.mk ⟨by simp [val], .inl (Nat.zero_le _)⟩⟩
 case round =>
  obtain ⟨k, cc, zs, rfl, hcc, rfl, hkn, HZ, hlo, hown, hbel, HI⟩ := hrel
  have hwr := hbel.size
  have K := Hid.mk (And.intro hown (And.intro hbel hlo))
  clear hown hbel hlo
  by_cases h1 : k < xs.length
  ·obtain ⟨ba, rfl, ca⟩ := (H.out.1.below K.out.2.1).at_ rfl k h1
   have hxk := Lo_get H.out.2.2.1 k
   obtain ⟨x, hx⟩ : ∃ x, x = xs.getD k 0 := ⟨_, rfl⟩
   obtain ⟨y, hy⟩ : ∃ y, y = ys.getD k 0 := ⟨_, rfl⟩
   rw [← hx] at ca hxk
   by_cases h2 : k < ys.length
   ·obtain ⟨bb, rfl, cb⟩ := (H.out.2.1.below K.out.2.1).at_ rfl k h2
    have hyk := Lo_get H.out.2.2.2 k
    rw [← hy] at cb hyk
    have HX := Hid.mk (And.intro hx hy)
    clear hx hy
    go_wp2_with (at_builtin; refine append_digit _ rfl _ _ rfl w.heap.size _ zs rfl ?_ ⟨_, 0, none⟩ rfl ((cc + x + y) % 10000) ?_ ?_ ?_ ?_)
    ·exact World.ownsRow.alloc K.out.1 _
    ·simp [Addr.add]
    ·have := HZ.out; omega
    ·simp; omega
    intro v' w' q1 q2
    have hbel2 : Below w.heap.size w w' := (K.out.2.1.alloc hwr _).grown q2 (by simp; omega) (fun j hj => (World.ownsRow.lt K.out.1 j hj).1)
    have K2 := Hid.mk (And.intro q1 hbel2)
    clear q1 q2 hbel2
    go_wp2_with fail
    go_roundw
    case measure => simp [intOf]; omega
    case rel =>
     refine ⟨k + 1, (cc + x + y) / 10000, zs ++ [(cc + x + y) % 10000], by go_num, by omega, by go_num, by omega, Hid.mk (by have := HZ.out; simp; omega), Lo_snoc K.out.2.2 (Nat.mod_lt _ (by decide)), K2.out.1, K2.out.2, Hid.mk ⟨?_, .inl (by omega)⟩⟩
     rw [val_snoc, HZ.out, val_take_next, val_take_next, ← HX.out.1, ← HX.out.2, Nat.pow_succ]
     exact sum_round (x := x) (y := y) HI.out.1
   ·have h2' : decide (k < ys.length) = false := decide_eq_false h2
    have HX := Hid.mk (And.intro hx hy)
    clear hx hy
    go_wp2_with (at_builtin; refine append_digit _ rfl _ _ rfl w.heap.size _ zs rfl ?_ ⟨_, 0, none⟩ rfl ((cc + x) % 10000) ?_ ?_ ?_ ?_)
    ·exact World.ownsRow.alloc K.out.1 _
    ·simp [Addr.add]
    ·have := HZ.out; omega
    ·simp; omega
    intro v' w' q1 q2
    have hbel2 : Below w.heap.size w w' := (K.out.2.1.alloc hwr _).grown q2 (by simp; omega) (fun j hj => (World.ownsRow.lt K.out.1 j hj).1)
    have K2 := Hid.mk (And.intro q1 hbel2)
    clear q1 q2 hbel2
    go_wp2_with fail
    go_roundw
    case measure => simp [intOf]; omega
    case rel =>
     refine ⟨k + 1, (cc + x) / 10000, zs ++ [(cc + x) % 10000], by go_num, by omega, by go_num, by omega, Hid.mk (by have := HZ.out; simp; omega), Lo_snoc K.out.2.2 (Nat.mod_lt _ (by decide)), K2.out.1, K2.out.2, Hid.mk ⟨?_, .inl (by omega)⟩⟩
     rw [val_snoc, HZ.out, val_take_next, val_take_next, ← HX.out.1, getD_past ys k (by omega), Nat.pow_succ]
     exact sum_round (x := x) (y := 0) HI.out.1
  ·have h1' : decide (k < xs.length) = false := decide_eq_false h1
   obtain ⟨x, hx⟩ : ∃ x, x = xs.getD k 0 := ⟨_, rfl⟩
   obtain ⟨y, hy⟩ : ∃ y, y = ys.getD k 0 := ⟨_, rfl⟩
   by_cases h2 : k < ys.length
   ·obtain ⟨bb, rfl, cb⟩ := (H.out.2.1.below K.out.2.1).at_ rfl k h2
    have hyk := Lo_get H.out.2.2.2 k
    rw [← hy] at cb hyk
    have HX := Hid.mk (And.intro hx hy)
    clear hx hy
    go_wp2_with (at_builtin; refine append_digit _ rfl _ _ rfl w.heap.size _ zs rfl ?_ ⟨_, 0, none⟩ rfl ((cc + y) % 10000) ?_ ?_ ?_ ?_)
    ·exact World.ownsRow.alloc K.out.1 _
    ·simp [Addr.add]
    ·have := HZ.out; omega
    ·simp; omega
    intro v' w' q1 q2
    have hbel2 : Below w.heap.size w w' := (K.out.2.1.alloc hwr _).grown q2 (by simp; omega) (fun j hj => (World.ownsRow.lt K.out.1 j hj).1)
    have K2 := Hid.mk (And.intro q1 hbel2)
    clear q1 q2 hbel2
    go_wp2_with fail
    go_roundw
    case measure => simp [intOf]; omega
    case rel =>
     refine ⟨k + 1, (cc + y) / 10000, zs ++ [(cc + y) % 10000], by go_num, by omega, by go_num, by omega, Hid.mk (by have := HZ.out; simp; omega), Lo_snoc K.out.2.2 (Nat.mod_lt _ (by decide)), K2.out.1, K2.out.2, Hid.mk ⟨?_, .inl (by omega)⟩⟩
     rw [val_snoc, HZ.out, val_take_next, val_take_next, getD_past xs k (by omega), ← HX.out.2, Nat.pow_succ]
     exact sum_round (x := 0) (y := y) HI.out.1
   ·have h2' : decide (k < ys.length) = false := decide_eq_false h2
    by_cases h3 : 0 < cc
    ·have HX := Hid.mk (And.intro hx hy)
     clear hx hy
     go_wp2_with (at_builtin; refine append_digit _ rfl _ _ rfl w.heap.size _ zs rfl ?_ ⟨_, 0, none⟩ rfl ((cc) % 10000) ?_ ?_ ?_ ?_)
     ·exact World.ownsRow.alloc K.out.1 _
     ·simp [Addr.add]
     ·have := HZ.out; omega
     ·simp; omega
     intro v' w' q1 q2
     have hbel2 : Below w.heap.size w w' := (K.out.2.1.alloc hwr _).grown q2 (by simp; omega) (fun j hj => (World.ownsRow.lt K.out.1 j hj).1)
     have K2 := Hid.mk (And.intro q1 hbel2)
     clear q1 q2 hbel2
     go_wp2_with fail
     go_roundw
     case measure => simp [intOf]; omega
     case rel =>
      refine ⟨k + 1, (cc) / 10000, zs ++ [(cc) % 10000], by go_num, by omega, by go_num, by omega, Hid.mk (by have := HZ.out; simp; omega), Lo_snoc K.out.2.2 (Nat.mod_lt _ (by decide)), K2.out.1, K2.out.2, Hid.mk ⟨?_, .inr (by rw [show k + 1 - 1 = zs.length from by have := HZ.out; omega]; simp [List.getD]; omega)⟩⟩
      rw [val_snoc, HZ.out, val_take_next, val_take_next, getD_past xs k (by omega), getD_past ys k (by omega), Nat.pow_succ]
      exact sum_round (x := 0) (y := 0) HI.out.1
    ·have h3' : decide (0 < cc) = false := decide_eq_false h3
     have h3'' : decide (0 < (cc : Int)) = false := decide_eq_false (by omega)
     clear hx hy
     go_wp2_with fail
     go_ret
     have h4 : cc = 0 := by omega
     refine ⟨_, rfl, ⟨zs, K.out.2.2, ?_, ?_, K.out.1.own, ?_⟩, K.out.2.1⟩
     ·have hi := HI.out.1
      rw [h4, Nat.mul_zero, Nat.add_zero, List.take_of_length_le (by omega), List.take_of_length_le (by omega)] at hi
      exact hi
     ·have := HZ.out; have := HN.out; omega
     ·rw [HZ.out, ← HN.out]
      exact HI.out.2
theorem sum_any (v u : Value) (xs ys : List Nat) (w : World) (hv : Own w v xs) (hu : Own w u ys) (lx : Lo xs) (ly : Lo ys) (bx : xs.length ≤ 50000000000) (by_ : ys.length ≤ 50000000000) :
 Calls Tryz.prog 228 #[v, u] w fun e w' => ∃ r, e = .returned r ∧ SumOut w w' r (val xs + val ys) (max xs.length ys.length + 1) := by
 refine (sum_top v u xs ys w hv hu lx ly bx by_).mono ?_
 rintro e w' ⟨r, rfl, ⟨zs, h1, h2, h3, h4, -⟩, hb⟩
 exact ⟨r, rfl, ⟨zs, h1, h2, h3, h4⟩, hb⟩
def LimOut (w w' : World) (v : Value) (n L : Nat) : Prop := (∃ zs, Lim zs ∧ val zs = n ∧ zs.length ≤ L ∧ Own w' v zs) ∧ Below w.heap.size w w'
theorem lim_of_ge {zs : List Nat} (h : Lo zs) (hv : zs = [] ∨ 10000 ^ (zs.length - 1) ≤ val zs) : Lim zs := by
 refine ⟨h, ?_⟩
 rcases hv with h0 | h0
 ·exact .inl h0
 ·by_cases hz : zs = []
  ·exact .inl hz
  ·refine .inr ?_
   have hl : 0 < zs.length := List.length_pos_iff.2 hz
   rcases Nat.eq_zero_or_pos (zs.getD (zs.length - 1) 0) with h1 | h1
   ·exfalso
    have h2 := val_take_next zs (zs.length - 1)
    rw [show zs.length - 1 + 1 = zs.length from by omega, List.take_of_length_le (Nat.le_refl _), h1, Nat.mul_zero, Nat.add_zero] at h2
    have h3 := val_lt (Lo_take h (zs.length - 1))
    rw [List.length_take, Nat.min_eq_left (by omega)] at h3
    omega
   ·exact h1
theorem sum_lim (v u : Value) (xs ys : List Nat) (w : World) (hv : Own w v xs) (hu : Own w u ys) (lx : Lim xs) (ly : Lim ys) (bx : xs.length ≤ 50000000000) (by_ : ys.length ≤ 50000000000) :
 Calls Tryz.prog 228 #[v, u] w fun e w' => ∃ r, e = .returned r ∧ LimOut w w' r (val xs + val ys) (max xs.length ys.length + 1) := by
 refine (sum_top v u xs ys w hv hu lx.1 ly.1 bx by_).mono ?_
 rintro e w' ⟨r, rfl, ⟨zs, h1, h2, h3, h4, h5⟩, hb⟩
 refine ⟨r, rfl, ⟨zs, ?_, h2, h3, h4⟩, hb⟩
 rcases h5 with h5 | h5
 ·refine lim_of_ge h1 ?_
  by_cases hz : zs = []
  ·exact .inl hz
  ·have hl : 0 < zs.length := List.length_pos_iff.2 hz
   refine .inr ?_
   rw [h2]
   by_cases hm : ys.length ≤ xs.length
   ·have hne : xs ≠ [] := by intro e; rw [e] at hm h5; simp at hm; rw [hm] at h5; simp at h5; exact hz h5
    have h6 := Lim_ge lx hne
    have h7 : 10000 ^ (zs.length - 1) ≤ 10000 ^ (xs.length - 1) := Nat.pow_le_pow_right (by decide) (by omega)
    omega
   ·have hne : ys ≠ [] := by intro e; rw [e] at hm; simp at hm
    have h6 := Lim_ge ly hne
    have h7 : 10000 ^ (zs.length - 1) ≤ 10000 ^ (ys.length - 1) := Nat.pow_le_pow_right (by decide) (by omega)
    omega
 ·exact ⟨h1, .inr h5⟩
open Go.RowKit
set_option maxRecDepth 100000 in
set_option maxHeartbeats 2000000 in
theorem less_lim (v u : Value) (xs ys : List Nat) (w : World) (hv : Own w v xs) (hu : Own w u ys) (lx : Lo xs) (ly : Lo ys) (bx : xs.length ≤ 50000000000) (hl : ys.length ≤ xs.length) (hle : val ys ≤ val xs) :
 Calls Tryz.prog 229 #[v, u] w fun e w' => ∃ r, e = .returned r ∧ LimOut w w' r (val xs - val ys) xs.length := by
 obtain ⟨ao, cap, rfl, hc, hm, -⟩ := hv.open_
 obtain ⟨bo, dap, rfl, hd, hn, -⟩ := hu.open_
 have H := Hid.mk (And.intro hv (And.intro hu (And.intro lx (And.intro ly hle))))
 clear hv hu lx ly hle
 go_enter Tryz.func229, Tryz.ntmps229
 go_wp2_with fail
 go_loopw [5, 6, 7] (fun out c i wr => ∃ (k bw : Nat) (zs : List Nat), k ≤ xs.length ∧ i = .int .i64 k ∧ bw ≤ 1 ∧ c = .int .i64 bw ∧ Hid (zs.length = k) ∧ Lo zs ∧ OwnB w.heap.size wr out zs ∧ Below w.heap.size w wr ∧
  Hid (val zs + val (ys.take k) = val (xs.take k) + 10000 ^ k * bw)) (fun _ _ i _ => xs.length - (intOf i).toNat)
 case atStart => exact ⟨0, 0, [], Nat.zero_le _, rfl, by omega, rfl, Hid.mk rfl, Lo_nil, World.ownsRow_nil _ _ _ _, Below.refl _ _, Hid.mk (by simp [val])⟩
 case round =>
  obtain ⟨k, bw, zs, hk, rfl, hbw, rfl, HZ, hlo, hown, hbel, HI⟩ := hrel
  have hwr := hbel.size
  have K := Hid.mk (And.intro hown (And.intro hbel hlo))
  clear hown hbel hlo
  by_cases h1 : k < xs.length
  ·obtain ⟨ba, rfl, ca⟩ := (H.out.1.below K.out.2.1).at_ rfl k h1
   have hxk := Lo_get H.out.2.2.1 k
   obtain ⟨x, hx⟩ : ∃ x, x = xs.getD k 0 := ⟨_, rfl⟩
   obtain ⟨y, hy⟩ : ∃ y, y = ys.getD k 0 := ⟨_, rfl⟩
   rw [← hx] at ca hxk
   by_cases h2 : k < ys.length
   ·obtain ⟨bb, rfl, cb⟩ := (H.out.2.1.below K.out.2.1).at_ rfl k h2
    have hyk := Lo_get H.out.2.2.2.1 k
    rw [← hy] at cb hyk
    have HX := Hid.mk (And.intro hx hy)
    clear hx hy
    by_cases h3 : x < y + bw
    ·have h3' : (x : Int) - (bw : Int) - (y : Int) < 0 := by omega
     go_wp2_with (at_builtin; refine append_digit _ rfl _ _ rfl w.heap.size _ zs rfl ?_ ⟨_, 0, none⟩ rfl (x + 10000 - (y + bw)) ?_ ?_ ?_ ?_)
     ·exact World.ownsRow.alloc K.out.1 _
     ·simp [Addr.add]; omega
     ·have := HZ.out; omega
     ·simp; omega
     intro v' w' q1 q2
     have hbel2 : Below w.heap.size w w' := (K.out.2.1.alloc hwr _).grown q2 (by simp; omega) (fun j hj => (World.ownsRow.lt K.out.1 j hj).1)
     have K2 := Hid.mk (And.intro q1 hbel2)
     clear q1 q2 hbel2
     go_wp2_with fail
     go_roundw
     case measure => simp [intOf]; omega
     case rel =>
      refine ⟨k + 1, 1, zs ++ [x + 10000 - (y + bw)], by omega, by go_num, by omega, by go_num, Hid.mk (by have := HZ.out; simp; omega), Lo_snoc K.out.2.2 (by omega), K2.out.1, K2.out.2, Hid.mk ?_⟩
      have hr := sub_round (x := x) (y := y) HI.out hxk hyk hbw
      rw [if_pos (by omega), if_pos (by omega)] at hr
      rw [val_snoc, HZ.out, val_take_next, val_take_next, ← HX.out.1, ← HX.out.2, Nat.pow_succ]
      omega
    ·have h3' : decide ((x : Int) - (bw : Int) - (y : Int) < 0) = false := decide_eq_false (by omega)
     go_wp2_with (at_builtin; refine append_digit _ rfl _ _ rfl w.heap.size _ zs rfl ?_ ⟨_, 0, none⟩ rfl (x - (y + bw)) ?_ ?_ ?_ ?_)
     ·exact World.ownsRow.alloc K.out.1 _
     ·simp [Addr.add]; omega
     ·have := HZ.out; omega
     ·simp; omega
     intro v' w' q1 q2
     have hbel2 : Below w.heap.size w w' := (K.out.2.1.alloc hwr _).grown q2 (by simp; omega) (fun j hj => (World.ownsRow.lt K.out.1 j hj).1)
     have K2 := Hid.mk (And.intro q1 hbel2)
     clear q1 q2 hbel2
     go_wp2_with fail
     go_roundw
     case measure => simp [intOf]; omega
     case rel =>
      refine ⟨k + 1, 0, zs ++ [x - (y + bw)], by omega, by go_num, by omega, by go_num, Hid.mk (by have := HZ.out; simp; omega), Lo_snoc K.out.2.2 (by omega), K2.out.1, K2.out.2, Hid.mk ?_⟩
      have hr := sub_round (x := x) (y := y) HI.out hxk hyk hbw
      rw [if_neg (by omega), if_neg (by omega)] at hr
      rw [val_snoc, HZ.out, val_take_next, val_take_next, ← HX.out.1, ← HX.out.2, Nat.pow_succ]
      omega
   ·have h2' : decide (k < ys.length) = false := decide_eq_false h2
    have HX := Hid.mk (And.intro hx hy)
    clear hx hy
    by_cases h3 : x < bw
    ·have h3' : (x : Int) - (bw : Int) < 0 := by omega
     go_wp2_with (at_builtin; refine append_digit _ rfl _ _ rfl w.heap.size _ zs rfl ?_ ⟨_, 0, none⟩ rfl (x + 10000 - bw) ?_ ?_ ?_ ?_)
     ·exact World.ownsRow.alloc K.out.1 _
     ·simp [Addr.add]; omega
     ·have := HZ.out; omega
     ·simp; omega
     intro v' w' q1 q2
     have hbel2 : Below w.heap.size w w' := (K.out.2.1.alloc hwr _).grown q2 (by simp; omega) (fun j hj => (World.ownsRow.lt K.out.1 j hj).1)
     have K2 := Hid.mk (And.intro q1 hbel2)
     clear q1 q2 hbel2
     go_wp2_with fail
     go_roundw
     case measure => simp [intOf]; omega
     case rel =>
      refine ⟨k + 1, 1, zs ++ [x + 10000 - bw], by omega, by go_num, by omega, by go_num, Hid.mk (by have := HZ.out; simp; omega), Lo_snoc K.out.2.2 (by omega), K2.out.1, K2.out.2, Hid.mk ?_⟩
      have hr := sub_round (x := x) (y := 0) HI.out hxk (by omega) hbw
      simp only [Nat.zero_add, Nat.mul_zero, Nat.add_zero] at hr
      rw [if_pos (by omega), if_pos (by omega)] at hr
      rw [val_snoc, HZ.out, val_take_next, val_take_next, ← HX.out.1, getD_past ys k (by omega), Nat.pow_succ, Nat.mul_zero, Nat.add_zero]
      omega
    ·have h3' : decide ((x : Int) - (bw : Int) < 0) = false := decide_eq_false (by omega)
     go_wp2_with (at_builtin; refine append_digit _ rfl _ _ rfl w.heap.size _ zs rfl ?_ ⟨_, 0, none⟩ rfl (x - bw) ?_ ?_ ?_ ?_)
     ·exact World.ownsRow.alloc K.out.1 _
     ·simp [Addr.add]; omega
     ·have := HZ.out; omega
     ·simp; omega
     intro v' w' q1 q2
     have hbel2 : Below w.heap.size w w' := (K.out.2.1.alloc hwr _).grown q2 (by simp; omega) (fun j hj => (World.ownsRow.lt K.out.1 j hj).1)
     have K2 := Hid.mk (And.intro q1 hbel2)
     clear q1 q2 hbel2
     go_wp2_with fail
     go_roundw
     case measure => simp [intOf]; omega
     case rel =>
      refine ⟨k + 1, 0, zs ++ [x - bw], by omega, by go_num, by omega, by go_num, Hid.mk (by have := HZ.out; simp; omega), Lo_snoc K.out.2.2 (by omega), K2.out.1, K2.out.2, Hid.mk ?_⟩
      have hr := sub_round (x := x) (y := 0) HI.out hxk (by omega) hbw
      simp only [Nat.zero_add, Nat.mul_zero, Nat.add_zero] at hr
      rw [if_neg (by omega), if_neg (by omega)] at hr
      rw [val_snoc, HZ.out, val_take_next, val_take_next, ← HX.out.1, getD_past ys k (by omega), Nat.pow_succ, Nat.mul_zero, Nat.add_zero]
      omega
  ·have hke : k = xs.length := by omega
   go_wp2_with fail
   refine (plain_any _ zs _ K.out.1.own K.out.2.2).mono ?_
   rintro e w' ⟨⟨r, rfl, hr⟩, rfl⟩
   have HR := Hid.mk hr
   clear hr
   go_wp2_with fail
   go_ret
   obtain ⟨rs, r1, r2, r3, r4⟩ := HR.out
   refine ⟨_, rfl, ⟨rs, r1, ?_, by have := HZ.out; omega, r4 _ K.out.1.own⟩, K.out.2.1⟩
   have hi := HI.out
   rw [hke, List.take_of_length_le (Nat.le_refl _), List.take_of_length_le (by omega)] at hi
   rw [r2]
   exact sub_end K.out.2.2 (by rw [HZ.out, hke]) H.out.2.2.2.2 hi
theorem less_any (v u : Value) (xs ys : List Nat) (w : World) (hv : Own w v xs) (hu : Own w u ys) (lx : Lo xs) (ly : Lo ys) (bx : xs.length ≤ 50000000000) (hl : ys.length ≤ xs.length) (hle : val ys ≤ val xs) :
 Calls Tryz.prog 229 #[v, u] w fun e w' => ∃ r, e = .returned r ∧ SumOut w w' r (val xs - val ys) xs.length := by
 refine (less_lim v u xs ys w hv hu lx ly bx hl hle).mono ?_
 rintro e w' ⟨r, rfl, ⟨zs, h1, h2, h3, h4⟩, hb⟩
 exact ⟨r, rfl, ⟨zs, h1.1, h2, h3, h4⟩, hb⟩
end Go.Proofs.YtfjbijpagaipnabGreatDoor.R
