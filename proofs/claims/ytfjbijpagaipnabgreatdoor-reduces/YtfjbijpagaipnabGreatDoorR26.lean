import Derived.Test.YtfjbijpagaipnabGreatDoorR25
import Derived.Test.YtfjbijpagaipnabGreatDoorR01
import Derived.Laws.BitsAllLaws
import Derived.Test.YtfjbijpagaipnabGreatDoorR02
namespace Go.Proofs.YtfjbijpagaipnabGreatDoor
open Go.RowKit
def ManyRel (n : Nat) (Res : Nat → Nat → List Int → List (Nat × Nat × List Int) → Prop) (ms : List Hm) (h : Int) (ok : Bool) (e : Int) (xs : List (Nat × Nat × List Int)) : Prop :=
 ((∀ k, k < 24 → ∀ x, ms.getD k none = some x → (x.1 : Int) ≠ h) ∧ ok = false ∧ e = 2 ∧ xs = []) ∨
 ∃ i hd r c zs, i < 24 ∧ ms.getD i none = some (hd, r, c, zs) ∧ (hd : Int) = h ∧
   ((¬ FitsP r c zs ∧ ok = false ∧ e = 4 ∧ xs = []) ∨ (FitsP r c zs ∧ ms.countP Option.isNone < n ∧ ok = false ∧ e = 5 ∧ xs = []) ∨ (FitsP r c zs ∧ n ≤ ms.countP Option.isNone ∧ ok = true ∧ e = 0 ∧ xs.length = n ∧ Res r c zs xs))
def ManyOut (w w' : World) (b n nx : Nat) (ms : List Hm) (ok : Bool) (xs : List (Nat × Nat × List Int)) (v : Value) : Prop :=
 (ok = false ∧ v = .slice none 0 0 ∧ Held w' b ms nx ∧ Fr b w w') ∨ (ok = true ∧ KeptAll w w' b nx n ms xs v)
theorem ManyRel.uniq {n : Nat} {Res : Nat → Nat → List Int → List (Nat × Nat × List Int) → Prop} (hR : ∀ r c zs x y, Res r c zs x → Res r c zs y → x = y) {ms : List Hm} {h e e2 : Int} {ok ok2 : Bool} {xs ys : List (Nat × Nat × List Int)} (hd : Dst ms) (a : ManyRel n Res ms h ok e xs) (b : ManyRel n Res ms h ok2 e2 ys) : ok = ok2 ∧ e = e2 ∧ xs = ys := by
 rcases a with ⟨ha, rfl, rfl, rfl⟩ | ⟨i, hd1, r, c, zs, hi, hx, hxh, ha⟩
 ·rcases b with ⟨-, rfl, rfl, rfl⟩ | ⟨i', hd1', r', c', zs', hi', hx', hxh', hb⟩
  ·exact ⟨rfl, rfl, rfl⟩
  ·exact absurd hxh' (ha i' hi' _ hx')
 ·rcases b with ⟨hb, -⟩ | ⟨i', hd1', r', c', zs', hi', hx', hxh', hb⟩
  ·exact absurd hxh (hb i hi _ hx)
  ·have e1 : i = i' := hd i i' _ _ hi hi' hx hx' (by show hd1 = hd1'; omega)
   subst e1
   rw [hx] at hx'
   simp only [Option.some.injEq, Prod.mk.injEq] at hx'
   obtain ⟨rfl, rfl, rfl, rfl⟩ := hx'
   rcases ha with ⟨a1, rfl, rfl, rfl⟩ | ⟨a1, a2, rfl, rfl, rfl⟩ | ⟨a1, a2, rfl, rfl, -, a3⟩
   ·rcases hb with ⟨-, rfl, rfl, rfl⟩ | ⟨b1, _⟩ | ⟨b1, _⟩
    ·exact ⟨rfl, rfl, rfl⟩
    ·exact absurd b1 a1
    ·exact absurd b1 a1
   ·rcases hb with ⟨b1, _⟩ | ⟨-, -, rfl, rfl, rfl⟩ | ⟨-, b2, _⟩
    ·exact absurd a1 b1
    ·exact ⟨rfl, rfl, rfl⟩
    ·omega
   ·rcases hb with ⟨b1, _⟩ | ⟨-, b2, _⟩ | ⟨-, -, rfl, rfl, -, b3⟩
    ·exact absurd a1 b1
    ·omega
    ·exact ⟨rfl, rfl, hR _ _ _ _ _ a3 b3⟩
theorem list_ent {r c : Nat} {xs ys : List Int} (h1 : xs.length = r * c) (h2 : ys.length = r * c) (h : ∀ i j, i < r → j < c → ent c xs i j = ent c ys i j) : xs = ys := by
 apply List.ext_getElem (by omega)
 intro t a b
 have hc : 0 < c := by
  rcases Nat.eq_zero_or_pos c with h0 | h0
  ·subst h0; rw [Nat.mul_zero] at h1; omega
  ·exact h0
 have h3 : t / c < r := by rw [Nat.div_lt_iff_lt_mul hc]; omega
 have h4 := Nat.mod_lt t hc
 have h5 : t / c * c + t % c = t := by rw [Nat.mul_comm]; exact Nat.div_add_mod t c
 have h6 := h (t / c) (t % c) h3 h4
 unfold ent at h6
 rw [h5] at h6
 simpa [List.getD, a, b] using h6
open Go.RowKit
theorem KU.of_grown {w w' : World} {g : Nat} {t : TypeId} (h : w.grownBy w' (some g)) (ht : Ty w g t) (hne : t ≠ 144) : KU w w' := by
 intro b arr hb
 rw [h.block b (Array.getElem?_eq_some_iff.1 hb).1 ?_]
 ·exact hb
 ·intro e
  simp only [Option.some.injEq] at e
  subst e
  obtain ⟨c, fr, hc⟩ := ht
  rw [hb] at hc
  simp only [Option.some.injEq, Obj.cells.injEq] at hc
  exact hne hc.2.1.symm
theorem Grid.grown {w w' : World} {g : Nat} {sl : Value} {n L : Nat} {zs : List Int} (h : Grid w sl n zs L) (hg : w.grownBy w' (some g)) (hn : ∀ a m c, sl = .slice (some a) m c → a.block ≠ g) (hk : KU w w') : Grid w' sl n zs L := by
 obtain ⟨h0, cs, h1, h2⟩ := h
 refine ⟨h0, cs, ⟨h1.1, ?_⟩, fun i hi => ?_⟩
 ·rcases h1.2 with h3 | ⟨g', cap, cur, hv, hg', hh, r⟩
  ·exact .inl h3
  ·exact .inr ⟨g', cap, cur, hv, hg', by rw [hg.block g' (Array.getElem?_eq_some_iff.1 hh).1 (by simpa using hn _ _ _ hv)]; exact hh, r⟩
 ·obtain ⟨a, b, e1, e2, e3⟩ := h2 i hi
  exact ⟨a, b, e1, e2, e3.keep hk⟩
theorem MatO.other {w w' : World} {p o g g' r c L : Nat} {zs : List Int} (h : MatO w p o g r c zs L) (hg : w.grownBy w' (some g')) (hk : KU w w') (hp : p ≠ g') (hne : g ≠ g') : MatO w' p o g r c zs L :=
 ⟨h.hr, h.hc, h.tri.grown hg hp, h.grid.grown hg (fun a m c e => by
   simp only [Value.slice.injEq, Option.some.injEq] at e
   obtain ⟨rfl, -, -⟩ := e
   exact hne) hk⟩
def sw (a b i : Nat) : Nat := if i = a then b else if i = b then a else i
def SwTo (r c a b e : Nat) (zs ms : List Int) : Prop := ∀ i j, i < r → j < c → ent c ms i j = ent c zs (if j < e then sw a b i else i) j
theorem SwTo.step {r c a b e : Nat} {zs ms : List Int} (h : SwTo r c a b e zs ms) (hl : ms.length = r * c) (ha : a < r) (hb : b < r) (he : e < c) {u l : Int} (hu : u = ent c ms a e) (hlo : l = ent c ms b e) : SwTo r c a b (e + 1) zs ((ms.set (a * c + e) l).set (b * c + e) u) := by
 intro i j hi hj
 rw [ent_set _ r c (by simpa using hl) b e i j u hb he hj, ent_set ms r c hl a e i j l ha he hj]
 have hua := h a e ha he
 have hlb := h b e hb he
 rw [if_neg (Nat.lt_irrefl e)] at hua hlb
 by_cases hje : j = e
 ·subst hje
  rw [if_pos (Nat.lt_succ_self j)]
  by_cases hib : i = b
  ·rw [if_pos ⟨hib, rfl⟩, hu, hua, hib]
   unfold sw
   by_cases hba : b = a
   ·rw [if_pos hba, hba]
   ·rw [if_neg hba, if_pos rfl]
  ·rw [if_neg (fun h => hib h.1)]
   by_cases hia : i = a
   ·rw [if_pos ⟨hia, rfl⟩, hlo, hlb, hia]
    unfold sw
    rw [if_pos rfl]
   ·rw [if_neg (fun h => hia h.1), h i j hi hj, if_neg (Nat.lt_irrefl j)]
    unfold sw
    rw [if_neg hia, if_neg hib]
 ·rw [if_neg (fun h => hje h.2), if_neg (fun h => hje h.2), h i j hi hj]
  by_cases hlt : j < e
  ·rw [if_pos hlt, if_pos (by omega)]
  ·rw [if_neg hlt, if_neg (by omega)]
def StepO (w w' : World) (p o g r c : Nat) (f : Nat → Nat → Int) (L : Nat) : Prop := (∃ ms, MatO w' p o g r c ms L ∧ ∀ i j, i < r → j < c → ent c ms i j = f i j) ∧ w.grownBy w' (some g)
set_option maxRecDepth 100000 in
set_option maxHeartbeats 4000000 in
theorem swapRows_any (p o g r c a b : Nat) (zs : List Int) (L : Nat) (w : World) (hm : MatO w p o g r c zs L) (hpg : p ≠ g) (ha : a < r) (hb : b < r) :
 Calls Tryz.prog 133 #[.pointer (some ⟨p, o, none⟩), .int .i64 a, .int .i64 b] w fun e w' => e = .returned (.tuple #[]) ∧ StepO w w' p o g r c (fun i j => ent c zs (sw a b i) j) L := by
 have H := Hid.mk hm
 have hr := hm.hr
 have hc := hm.hc
 clear hm
 go_enter Tryz.func133, Tryz.ntmps133
 go_wp2_with fail
 go_loopw [6] (fun i wr => ∃ (e : Nat) (ms : List Int), e ≤ c ∧ i = .int .i64 e ∧ Hid (MatO wr p o g r c ms L ∧ w.grownBy wr (some g) ∧ SwTo r c a b e zs ms)) (fun i _ => c - (intOf i).toNat)
 case atStart => exact ⟨0, zs, Nat.zero_le _, rfl, Hid.mk ⟨H.out, World.grownBy.refl _ _, fun i j _ _ => by simp⟩⟩
 case round =>
  obtain ⟨e, ms, he, rfl, HI⟩ := hrel
  obtain ⟨q0, q1, q2⟩ := HI.out.1.tri
  have hgl := HI.out.1.glt
  have hpl := HI.out.1.plt
  by_cases hec : e < c
  ·have hei : (e : Int) < (c : Int) := by omega
   go_wp2_with fail
   refine (at_in _ r c a e ms L _ HI.out.1.isM ha hec).mono ?_
   rintro e9 w1 ⟨x, rfl, hx, hb1⟩
   obtain ⟨nb1, so1, n1, cp1, rfl⟩ := hx.shape
   have hb11 := (Below.refl w1.heap.size w1).alloc (Nat.le_refl _) (.cells #[.bool nb1, .slice so1 n1 cp1] 79)
   have hbA := hb1.trans (hb11.mono hb1.size)
   have hw1 := hb1.size
   obtain ⟨d0, d1, d2⟩ := HI.out.1.tri.later hbA
   have K1 := Hid.mk (And.intro hbA (And.intro (hx.below hb11) (Duo.new w1 (.bool nb1) (.slice so1 n1 cp1) rfl)))
   clear hx hb1 hb11 hbA q0 q1 q2
   go_wp2_with fail
   refine (at_in _ r c b e ms L _ (HI.out.1.isM.below K1.out.1) hb hec).mono ?_
   rintro e9 w2 ⟨x, rfl, hx, hb2⟩
   obtain ⟨nb2, so2, n2, cp2, rfl⟩ := hx.shape
   have hs2 : w1.heap.size + 1 ≤ w2.heap.size := by have := hb2.size; simpa using this
   have hb22 := (Below.refl w2.heap.size w2).alloc (Nat.le_refl _) (.cells #[.bool nb2, .slice so2 n2 cp2] 79)
   have hbB := K1.out.1.trans ((hb2.trans (hb22.mono hb2.size)).mono (by simp; omega))
   have hU := (K1.out.2.2.below hb2 (by simp)).below hb22 (by omega)
   have K2 := Hid.mk (And.intro hbB (And.intro (hx.below hb22) (And.intro ((K1.out.2.1.below hb2).below hb22) hU)))
   clear hx hb2 hb22 hbB hU d0 d1 d2
   go_wp2_with fail
   refine (set_m p o g r c a e ms L _ _ _ (HI.out.1.later K2.out.1) hpg K2.out.2.1 ha hec).mono ?_
   rintro e9 w3 ⟨rfl, hM3, hgr3, hku3⟩
   have hU3 : Duo w3 w1.heap.size (.bool nb1) (.slice so1 n1 cp1) := by
    unfold Duo
    rw [hgr3.block _ (by simp; omega) (by simp; omega)]
    exact K2.out.2.2.2
   obtain ⟨u0, u1, -, -⟩ := hU3.cells
   have K3 := Hid.mk (And.intro hM3 (And.intro hgr3 (K2.out.2.2.1.keep hku3)))
   clear hM3 hgr3 hku3 hU3
   go_wp2_with fail
   refine (set_m p o g r c b e _ L _ _ _ K3.out.1 hpg K3.out.2.2 hb hec).mono ?_
   rintro e9 w4 ⟨rfl, hM4, hgr4, -⟩
   have K4 := Hid.mk (And.intro hM4 (grown_trans (grown_trans (grown_below HI.out.2.1 K2.out.1) K3.out.2.1) hgr4))
   clear hM4 hgr4 u0 u1
   go_wp2_with fail
   go_roundw
   case measure => simp [intOf]; omega
   case rel => exact ⟨e + 1, _, by omega, by go_num, Hid.mk ⟨K4.out.1, K4.out.2, HI.out.2.2.step HI.out.1.len ha hb hec rfl rfl⟩⟩
  ·have hei : ¬ (e : Int) < (c : Int) := by omega
   have hee : e = c := by omega
   have HEE := Hid.mk hee
   clear hee
   go_wp2_with fail
   go_end0
   refine ⟨rfl, ⟨ms, HI.out.1, fun i j hi hj => ?_⟩, HI.out.2.1⟩
   rw [HI.out.2.2 i j hi hj, if_pos (by have := HEE.out; omega)]
open Go.RowKit
open Go.RowKit
theorem or_low (c x s : Nat) (hs : s < 32) (hc : c < 2 ^ s) (hx : x < 4294967296) : bits BinOp.or IntKind.u64 (c : Int) (IntKind.u64.wrap ((x : Int) * 2 ^ s)) = ((c + x * 2 ^ s : Nat) : Int) := by
 have hS : 2 ^ s ≤ 2 ^ 31 := Nat.pow_le_pow_right (by decide) (by omega)
 have hp : x * 2 ^ s ≤ 4294967295 * 2 ^ 31 := Nat.mul_le_mul (by omega) hS
 have e : ((x : Int) * 2 ^ s) = ((x * 2 ^ s : Nat) : Int) := by rw [Int.natCast_mul, Int.natCast_pow]; rfl
 have e2 : IntKind.u64.wrap ((x * 2 ^ s : Nat) : Int) = ((x * 2 ^ s : Nat) : Int) := by rw [IntKind.wrap_u64]; omega
 rw [e, e2, u64_or_nat c (x * 2 ^ s) (by omega) (by omega), Nat.or_comm]
 have h2 := Nat.shiftLeft_add_eq_or_of_lt (i := s) (b := c) hc x
 rw [Nat.shiftLeft_eq] at h2
 rw [← h2, Nat.add_comm]
theorem shift_step {zs xs : List Nat} {k sk c S x : Nat} (hk : k + sk < zs.length) (hx : x = xs.getD k 0) (h : val (zs.take (k + sk)) + 4294967296 ^ (k + sk) * c = 4294967296 ^ sk * (S * val (xs.take k))) :
 val ((zs.set (k + sk) ((c + x * S) % 4294967296)).take (k + 1 + sk)) + 4294967296 ^ (k + 1 + sk) * ((c + x * S) / 4294967296) = 4294967296 ^ sk * (S * val (xs.take (k + 1))) := by
 rw [show k + 1 + sk = (k + sk) + 1 from by omega, val_take_set zs _ _ hk, val_take_next, ← hx, Nat.pow_succ]
 have h1 := Nat.mod_add_div (c + x * S) 4294967296
 have h2 : 4294967296 ^ (k + sk) * ((c + x * S) % 4294967296) + 4294967296 ^ (k + sk) * 4294967296 * ((c + x * S) / 4294967296) = 4294967296 ^ (k + sk) * c + 4294967296 ^ (k + sk) * (x * S) := by
  rw [Nat.mul_assoc, ← Nat.mul_add, h1, Nat.mul_add]
 have h3 : 4294967296 ^ sk * (S * (val (xs.take k) + 4294967296 ^ k * x)) = 4294967296 ^ sk * (S * val (xs.take k)) + 4294967296 ^ (k + sk) * (x * S) := by
  rw [Nat.mul_add, Nat.mul_add, Nat.pow_add, Nat.mul_comm x S]
  congr 1
  rw [Nat.mul_left_comm S, ← Nat.mul_assoc, Nat.mul_comm (4294967296 ^ sk)]
 rw [h3, ← h]
 omega
set_option maxRecDepth 100000 in
set_option maxHeartbeats 1000000 in
theorem shiftAmount_raw (v : Value) (xs : List Nat) (p sk s : Nat) (w : World) (hv : Own w v xs) (lx : Lo xs) (bx : xs.length ≤ 500000000) (bs : sk ≤ 500000000) (hs : s < 32) (hq : (p : Int) / 32 = (sk : Int)) (hr : (p : Int) % 32 = (s : Int)) :
 Calls Tryz.prog 220 #[v, .int .i64 p] w fun e w' => ∃ r, e = .returned r ∧ NatOut w w' r (4294967296 ^ sk * (2 ^ s * val xs)) (xs.length + sk + 1) := by
 obtain ⟨ao, cap, hveq, hc, hm, hcell, -, -⟩ := hv.open_
 have HC := Hid.mk hcell
 clear hv hcell
 subst hveq
 go_enter Tryz.func220, Tryz.ntmps220
 go_wp2_with (at_make; refine make_limbs _ rfl (.tmp 19) (.tmp 19) rfl _ _ (xs.length + sk + 1) rfl rfl ?_ ?_ (by omega) ?_)
 ·omega
 ·omega
 intro w1 hown hbel
 clear hq hr
 obtain ⟨N, hN⟩ : ∃ N, N = xs.length + sk + 1 := ⟨_, rfl⟩
 rw [← hN] at hown ⊢
 have hN1 : xs.length + sk < N := by omega
 have HN := Hid.mk hN
 have hSle : 2 ^ s ≤ 2147483648 := Nat.pow_le_pow_right (n := 2) (j := 31) (by decide) (by omega)
 have HS := Hid.mk hSle
 clear hN hSle
 go_wp2_with fail
 go_loopw [8, 9] (fun c i wr => ∃ (k cc : Nat) (zs : List Nat), k ≤ xs.length ∧ i = .int .i64 k ∧ cc ≤ 2147483647 ∧ c = .int .u64 cc ∧ zs.length = N ∧ Lo zs ∧ Own wr (.slice (some ⟨w.heap.size, 0, none⟩) N N) zs ∧ Below w.heap.size w wr ∧
  Hid (cc < 2 ^ s ∧ val (zs.take (k + sk)) + 4294967296 ^ (k + sk) * cc = 4294967296 ^ sk * (2 ^ s * val (xs.take k)))) (fun _ i _ => xs.length - (intOf i).toNat)
 case atStart => exact ⟨0, 0, _, Nat.zero_le _, rfl, Nat.zero_le _, rfl, by rw [List.length_replicate], Lo_zeros _, by rw [HN.out]; rw [HN.out] at hown; exact hown, hbel, Hid.mk ⟨Nat.pow_pos (by decide), by rw [val_zeros (fun x hx => List.eq_of_mem_replicate (List.mem_of_mem_take hx))]; simp [val]⟩⟩
 case round =>
  clear hown hbel
  obtain ⟨k, cc, zs, hk, rfl, hcc, rfl, hzl, hlo, hown, hbel, HI⟩ := hrel
  by_cases hkN : k < xs.length
  ·have hxk := Lo_get lx k
   have hz1 := hown.cell hzl (k + sk) (by omega)
   have hz2 := hown.frozen hzl (k + sk)
   obtain ⟨b, rfl, hb0⟩ := HC.out k hkN
   have hb1 := cell_later hbel hb0
   obtain ⟨x, hx⟩ : ∃ x, x = xs.getD k 0 := ⟨_, rfl⟩
   obtain ⟨z, hz⟩ : ∃ z, z = zs.getD (k + sk) 0 := ⟨_, rfl⟩
   rw [← hx] at hxk hb1
   rw [← hz] at hz1
   have HX := Hid.mk hx
   have HZL := Hid.mk hzl
   clear hx hz hb0 hzl
   have hor := or_low cc x s hs HI.out.1 hxk
   obtain ⟨q, hq⟩ : ∃ q, q = cc + x * 2 ^ s := ⟨_, rfl⟩
   rw [← hq] at hor
   have HQ := Hid.mk hq
   clear hq
   go_wp2_with fail
   have hP : x * 2 ^ s + 2 ^ s ≤ 4294967296 * 2 ^ s := by
    have := Nat.mul_le_mul_right (2 ^ s) (show x + 1 ≤ 4294967296 from hxk)
    rw [Nat.add_mul, Nat.one_mul] at this
    exact this
   have hcs := HI.out.1
   have hSS := HS.out
   have hq := HQ.out
   go_roundw
   case rel =>
    refine ⟨k + 1, q / 4294967296, zs.set (k + sk) (q % 4294967296), by omega, by go_num, by omega, by go_num, by simp [HZL.out], Lo_set hlo _ _ (Nat.mod_lt _ (by decide)), hown.stored_int HZL.out (k + sk) _ (by omega), hbel.setCell (Nat.le_refl _) _, Hid.mk ⟨by omega, ?_⟩⟩
    rw [hq]
    exact shift_step (by have := HZL.out; omega) HX.out HI.out.2
   case measure => simp [intOf]; omega
  ·have hkN' : xs.length ≤ k := by omega
   have hz1 := hown.cell hzl (xs.length + sk) (by omega)
   have hz2 := hown.frozen hzl (xs.length + sk)
   have HZL := Hid.mk hzl
   clear hzl
   go_wp2_with fail
   have hown2 := hown.stored_int HZL.out (xs.length + sk) cc (z := (cc : Int)) rfl
   have hlo2 := Lo_set hlo (xs.length + sk) cc (by omega)
   refine (trim_any _ _ _ hown2 hlo2).mono ?_
   rintro e w' ⟨⟨r, rfl, hr⟩, rfl⟩
   go_wp2_with fail
   go_ret
   obtain ⟨rs, h1, h2, h3, h4⟩ := hr
   have hkk : k = xs.length := by omega
   have HI' := HI.out.2
   have hzl := HZL.out
   have hN := HN.out
   refine ⟨_, rfl, ⟨rs, h1, ?_, by simp at h3; omega, h4⟩, hbel.setCell (Nat.le_refl _) _⟩
   rw [hkk, List.take_of_length_le (Nat.le_refl _)] at HI'
   have h5 := val_take_set zs (xs.length + sk) cc (by omega)
   rw [List.take_of_length_le (by simp; omega)] at h5
   rw [h2, h5, HI']
theorem shiftAmount_any (v : Value) (xs : List Nat) (p : Nat) (w : World) (hv : Own w v xs) (lx : Lo xs) (bx : xs.length ≤ 500000000) (bs : p ≤ 16000000000) :
 Calls Tryz.prog 220 #[v, .int .i64 p] w fun e w' => ∃ r, e = .returned r ∧ NatOut w w' r (2 ^ p * val xs) (xs.length + p / 32 + 1) := by
 have h := shiftAmount_raw v xs p (p / 32) (p % 32) w hv lx bx (by omega) (by omega) (by omega) (by omega)
 have e : 4294967296 ^ (p / 32) * (2 ^ (p % 32) * val xs) = 2 ^ p * val xs := by
  rw [show (4294967296 : Nat) = 2 ^ 32 from rfl, ← Nat.pow_mul, ← Nat.mul_assoc, ← Nat.pow_add, Nat.div_add_mod]
 rw [e] at h
 exact h
open Go.RowKit
def NotAt (g : Nat) (v : Value) : Prop := ∀ a n c, v = .slice (some a) n c → a.block ≠ g
theorem FrB.notAt {B g : Nat} {v : Value} (h : FrB B v) (hg : g < B) : NotAt g v := fun a n c e => by have := h a n c e; omega
theorem Own.notAt {w : World} {v : Value} {xs : List Nat} (h : Own w v xs) {g : Nat} (hg : w.heap.size ≤ g) : NotAt g v := by
 intro a n c e
 rcases h.2 with ⟨h2, _⟩ | ⟨g', cap, cur, hv, _, hh, _⟩
 ·rw [h2] at e; simp at e
 ·rw [hv] at e
  simp only [Value.slice.injEq, Option.some.injEq] at e
  obtain ⟨rfl, -, -⟩ := e
  have := (Array.getElem?_eq_some_iff.1 hh).1
  show g' ≠ g
  omega
theorem Own.other {w : World} {v : Value} {xs : List Nat} (h : Own w v xs) {g o : Nat} (u : Value) (hn : NotAt g v) : Own (w.setCell ⟨g, o, none⟩ u) v xs := by
 refine ⟨h.1, ?_⟩
 rcases h.2 with h2 | ⟨g', cap, cur, hv, hg, hh, r⟩
 ·exact .inl h2
 ·exact .inr ⟨g', cap, cur, hv, hg, by rw [Below.heap_setCell _ _ _ _ (hn _ _ _ hv)]; exact hh, r⟩
theorem limb_dvd {zs : List Nat} (lo : Lo zs) {j e : Nat} (he : e ≤ 32) (hj : j < zs.length) (h : 2 ^ (32 * j + e) ∣ val zs) : 2 ^ e ∣ zs.getD j 0 := by
 have h1 := val_take_drop zs j (by omega)
 have h2 := val_lt (Lo_take lo j)
 rw [List.length_take, Nat.min_eq_left (by omega)] at h2
 have hB : (4294967296 : Nat) ^ j = 2 ^ (32 * j) := by rw [Nat.pow_mul]
 rw [hB] at h1 h2
 rw [Nat.pow_add] at h
 have h3 : 2 ^ (32 * j) ∣ val (zs.take j) := by
  have h4 : 2 ^ (32 * j) ∣ val zs := Nat.dvd_trans (Nat.dvd_mul_right _ _) h
  rw [h1] at h4
  exact (Nat.dvd_add_left (Nat.dvd_mul_right _ _)).1 h4
 have h5 : val (zs.take j) = 0 := Nat.eq_zero_of_dvd_of_lt h3 h2
 rw [h5, Nat.zero_add] at h1
 rw [h1] at h
 have h6 : 2 ^ e ∣ val (zs.drop j) := Nat.dvd_of_mul_dvd_mul_left (Nat.pow_pos (by decide)) h
 rw [drop_getD zs j hj, val_cons] at h6
 have h7 : 2 ^ e ∣ 4294967296 * val (zs.drop (j + 1)) := Nat.dvd_trans (Nat.pow_dvd_pow 2 he) (Nat.dvd_mul_right _ _)
 exact (Nat.dvd_add_left h7).1 h6
theorem or_bit (z s : Nat) (hs : s < 32) (hz : z < 4294967296) (hd : 2 ^ (s + 1) ∣ z) : z + 2 ^ s < 4294967296 ∧ bits BinOp.or IntKind.u32 (z : Int) (2 ^ s % 4294967296) = ((z + 2 ^ s : Nat) : Int) := by
 obtain ⟨q, rfl⟩ := hd
 have hS : 2 ^ s ≤ 2 ^ 31 := Nat.pow_le_pow_right (by decide) (by omega)
 have hlt : 2 ^ s < 2 ^ (s + 1) := by rw [Nat.pow_succ]; have := Nat.pow_pos (n := s) (show 0 < 2 by decide); omega
 have hb : 2 ^ (s + 1) * q + 2 ^ s < 4294967296 := by
  have h1 : 2 ^ (s + 1) * 2 ^ (31 - s) = 4294967296 := by rw [← Nat.pow_add, show s + 1 + (31 - s) = 32 from by omega]
  have h2 : q < 2 ^ (31 - s) := by
   rcases Nat.lt_or_ge q (2 ^ (31 - s)) with h | h
   ·exact h
   ·have := Nat.mul_le_mul_left (2 ^ (s + 1)) h; omega
  have h3 := Nat.mul_le_mul_left (2 ^ (s + 1)) (show q + 1 ≤ 2 ^ (31 - s) from h2)
  rw [Nat.mul_add, Nat.mul_one] at h3
  omega
 refine ⟨hb, ?_⟩
 have e : (2 ^ s : Int) = ((2 ^ s : Nat) : Int) := by rw [Int.natCast_pow]; rfl
 rw [e, show ((2 ^ s : Nat) : Int) % 4294967296 = ((2 ^ s : Nat) : Int) from by omega, u32_or_nat _ (2 ^ s) hz (by omega)]
 have h2 := Nat.shiftLeft_add_eq_or_of_lt (i := s + 1) (b := 2 ^ s) hlt q
 rw [Nat.shiftLeft_eq, Nat.mul_comm q] at h2
 rw [h2]
structure DivSt (A B k Q l : Nat) : Prop where
 eq : A = Q * B + l
 lt : l < B * 2 ^ k
 dvd : 2 ^ k ∣ Q
theorem DivSt.no {A B p Q l : Nat} (h : DivSt A B (p + 1) Q l) (hl : l < 2 ^ p * B) : DivSt A B p Q l := ⟨h.eq, by rw [Nat.mul_comm]; exact hl, Nat.dvd_trans (Nat.pow_dvd_pow 2 (Nat.le_succ p)) h.dvd⟩
theorem DivSt.yes {A B p Q l : Nat} (h : DivSt A B (p + 1) Q l) (hl : 2 ^ p * B ≤ l) : DivSt A B p (Q + 2 ^ p) (l - 2 ^ p * B) := by
 refine ⟨?_, ?_, ?_⟩
 ·rw [Nat.add_mul]; have := h.eq; omega
 ·have := h.lt
  rw [Nat.pow_succ, ← Nat.mul_assoc, Nat.mul_comm B] at this
  rw [Nat.mul_comm B]
  omega
 ·exact Nat.dvd_add (Nat.dvd_trans (Nat.pow_dvd_pow 2 (Nat.le_succ p)) h.dvd) (Nat.dvd_refl _)
theorem DivSt.done {A B Q l : Nat} (h : DivSt A B 0 Q l) : Q = A / B ∧ l = A % B := by
 have h1 := h.lt
 rw [Nat.pow_zero, Nat.mul_one] at h1
 have h2 := h.eq
 rw [Nat.mul_comm] at h2
 constructor
 ·rw [h2, Nat.mul_add_div (by omega), Nat.div_eq_of_lt h1]; rfl
 ·rw [h2, Nat.mul_add_mod, Nat.mod_eq_of_lt h1]
theorem DivSt.start {A B a b : Nat} (ha : BitsOf a A) (hb : BitsOf b B) (hb0 : 0 < b) : DivSt A B ((a : Int) - (b : Int) + 1).toNat 0 A := by
 refine ⟨by omega, ?_, Nat.dvd_zero _⟩
 have h1 : A < 2 ^ a := (ha a).1 (Nat.le_refl _)
 have h2 : 2 ^ (b - 1) ≤ B := by
  rcases Nat.lt_or_ge B (2 ^ (b - 1)) with h | h
  ·have := (hb (b - 1)).2 h; omega
  ·exact h
 have h3 : 2 ^ (b - 1) * 2 ^ ((a : Int) - (b : Int) + 1).toNat ≤ B * 2 ^ ((a : Int) - (b : Int) + 1).toNat := Nat.mul_le_mul_right _ h2
 rw [← Nat.pow_add] at h3
 have h4 : 2 ^ a ≤ 2 ^ (b - 1 + ((a : Int) - (b : Int) + 1).toNat) := Nat.pow_le_pow_right (by decide) (by omega)
 omega
theorem lit_nil (w : World) : Own (w.alloc (.cells #[] 144)) (.slice (some ⟨w.heap.size, 0, none⟩) 0 0) [] := by
 have := World.ownsRow_lit (base := 0) (e := 144) (size := 1) w #[] 0 (Nat.zero_le _) (by simp [maxLen]) rfl
 simpa [Own, lcells] using this
set_option maxRecDepth 100000 in
set_option maxHeartbeats 2000000 in
theorem divAmounts_any (v u : Value) (xs ys : List Nat) (w : World) (hv : Own w v xs) (hu : Own w u ys) (lx : Lim xs) (ly : Lim ys) (bx : xs.length ≤ 400000000) (by_ : ys.length ≤ 400000000) :
 Calls Tryz.prog 188 #[v, u] w fun e w' => ∃ q r, e = .returned (.tuple #[q, r]) ∧ NatOut w w' q (val xs / val ys) xs.length ∧ NatOut w w' r (val xs % val ys) xs.length := by
 obtain ⟨ao, cap, hveq, hc, hm, -⟩ := hv.open_
 obtain ⟨bo, dap, hueq, hd, hn, -⟩ := hu.open_
 have HV := Hid.mk hv
 have HU := Hid.mk hu
 have HLX := Hid.mk lx
 have HLY := Hid.mk ly
 clear hv hu lx ly
 subst hveq
 subst hueq
 go_enter Tryz.func188, Tryz.ntmps188
 go_wp2_with fail
 refine (bitsOf_any _ ys _ HU.out HLY.out (by omega)).mono ?_
 rintro e w' ⟨wd, rfl, hwd, rfl⟩
 have HWD := Hid.mk hwd
 clear hwd
 by_cases hw0 : wd = 0
 ·have H0 := Hid.mk hw0
  subst hw0
  go_wp2_with fail
  have h0 : val ys = 0 := by
   have := (HWD.out 0).1 (Nat.le_refl _)
   simpa using this
  have hb := (Below.refl w'.heap.size w').alloc (Nat.le_refl _) (.cells #[] 144)
  go_ret2
  rw [h0, Nat.div_zero, Nat.mod_zero]
  exact ⟨_, _, rfl, ⟨⟨[], ⟨Lo_nil, .inl rfl⟩, rfl, Nat.zero_le _, lit_nil w'⟩, hb⟩, ⟨xs, HLX.out, rfl, Nat.le_refl _, HV.out.below hb⟩, hb⟩
 ·have hw1 : ((wd : Int) == 0) = false := beq_eq_false_iff_ne.2 (by omega)
  rename World => w
  go_wp2_with (at_make; refine make_limbs _ rfl (.tmp 18) (.tmp 18) rfl _ _ xs.length rfl rfl rfl rfl (by omega) ?_)
  intro w1 hown hbel
  have hw1s := hown.lt
  go_wp2_with fail
  refine (bitsOf_any _ xs _ (HV.out.below hbel) HLX.out (by omega)).mono ?_
  rintro e w2 ⟨ba, rfl, hba, rfl⟩
  have hbab : ba ≤ 32 * xs.length := (hba _).2 (by have := val_lt HLX.out.1; rw [pow32] at this; exact this)
  have hwdb : wd ≤ 32 * ys.length := (HWD.out _).2 (by have := val_lt HLY.out.1; rw [pow32] at this; exact this)
  have HST := Hid.mk (DivSt.start hba HWD.out (by omega))
  have HB0 := Hid.mk (And.intro hown hbel)
  clear hba hown hbel
  go_wp2_with fail
  go_loopw [8, 9] (fun lv i wr => ∃ (pl : Int) (zs ls : List Nat), -13000000000 ≤ pl ∧ pl ≤ 32 * (xs.length : Int) - (wd : Int) ∧ i = .int .i64 pl ∧ Hid (zs.length = xs.length ∧ Lo zs ∧ Own wr (.slice (some ⟨w.heap.size, 0, none⟩) xs.length xs.length) zs ∧ Lim ls ∧ ls.length ≤ xs.length ∧ Own wr lv ls ∧ NotAt w.heap.size lv ∧ Below w.heap.size w wr ∧ w.heap.size < wr.heap.size ∧
   DivSt (val xs) (val ys) (pl + 1).toNat (val zs) (val ls))) (fun _ i _ => (intOf i + 1).toNat)
  case atStart =>
   refine ⟨(ba : Int) - (wd : Int), _, xs, by omega, by omega, rfl, Hid.mk ⟨List.length_replicate, Lo_zeros _, HB0.out.1, HLX.out, Nat.le_refl _, HV.out.below HB0.out.2, HV.out.notAt (Nat.le_refl _), HB0.out.2, hw1s, ?_⟩⟩
   rw [val_zeros (fun x hx => List.eq_of_mem_replicate hx)]
   exact HST.out
  case round =>
   obtain ⟨pl, zs, ls, hpl0, hpl1, rfl, HI⟩ := hrel
   obtain ⟨lo, lcap, hlv, -⟩ := HI.out.2.2.2.2.2.1.open_
   subst hlv
   by_cases hp0 : pl < 0
   ·go_wp2_with fail
    refine (trim_any _ zs _ HI.out.2.2.1 HI.out.2.1).mono ?_
    rintro e w' ⟨⟨r, rfl, hr⟩, rfl⟩
    have HR := Hid.mk hr
    clear hr
    go_wp2_with fail
    go_ret2
    obtain ⟨rs, h1, h2, h3, h4⟩ := HR.out
    obtain ⟨i1, i2, i3, i4, i5, i6, i7, i8, i9, i10⟩ := HI.out
    rw [show (pl + 1).toNat = 0 from by omega] at i10
    obtain ⟨d1, d2⟩ := i10.done
    exact ⟨_, _, rfl, ⟨⟨rs, h1, by omega, by omega, h4⟩, i8⟩, ⟨ls, i4, d2, i5, i6⟩, i8⟩
   ·obtain ⟨p, rfl⟩ := Int.eq_ofNat_of_zero_le (show 0 ≤ pl by omega)
    have hp1 : ¬ ((p : Int) < 0) := by omega
    go_wp2_with fail
    refine (shiftAmount_any _ ys p _ (HU.out.below HI.out.2.2.2.2.2.2.2.1) HLY.out.1 (by omega) (by omega)).mono ?_
    rintro e w3 ⟨r3, rfl, hr3⟩
    obtain ⟨co3, ec3, ps, rfl, hZ3, hb3⟩ := hr3.shape
    have hw3 := hb3.size
    have HB3 := Hid.mk hb3
    clear hr3 hb3
    go_wp2_with fail
    refine (lessAmount_any _ _ ls ps _ (HI.out.2.2.2.2.2.1.below HB3.out) hZ3.out.2.2.2 HI.out.2.2.2.1 hZ3.out.1).mono ?_
    rintro e w4 ⟨rfl, nd, rfl⟩
    by_cases hlt : val ls < val ps
    ·have hdl : decide (val ls < val ps) = true := decide_eq_true hlt
     have HLT := Hid.mk hlt
     rw [hdl]
     clear hlt hdl
     go_wp2_with fail
     go_roundw
     case measure => simp [intOf] <;> omega
     case rel =>
      obtain ⟨i1, i2, i3, i4, i5, i6, i7, i8, i9, i10⟩ := HI.out
      have hbb := below_drewN HB3.out nd
      refine ⟨(p : Int) - 1, zs, ls, by omega, by omega, by go_num, Hid.mk ⟨i1, i2, i3.below hbb, i4, i5, i6.below hbb, i7, i8.trans (hbb.mono (by omega)), by have := hbb.size; omega, ?_⟩⟩
      rw [show ((p : Int) - 1 + 1).toNat = p from by omega]
      rw [show ((p : Int) + 1).toNat = p + 1 from by omega] at i10
      exact i10.no (by have := HLT.out; rw [hZ3.out.2.1] at this; exact this)
    ·have hdl : decide (val ls < val ps) = false := decide_eq_false hlt
     have HLT := Hid.mk hlt
     rw [hdl]
     clear hlt hdl
     go_wp2_with fail
     have HB4 := Hid.mk (below_drewN HB3.out nd)
     have hle : val ps ≤ val ls := by have := HLT.out; omega
     refine (subAmounts_fr _ _ ls ps _ (HI.out.2.2.2.2.2.1.below HB4.out) (hZ3.out.2.2.2.below (below_drewN (Below.refl _ _) nd)) HI.out.2.2.2.1.1 hZ3.out.1.1 (by have := HI.out.2.2.2.2.1; omega) hle (len_of_val HI.out.2.2.2.1 hZ3.out.1 hle)).mono ?_
     rintro e w5 ⟨r5, rfl, hr5, hf5⟩
     obtain ⟨co5, ec5, qs, rfl, hZ5, hb5⟩ := hr5.shape
     have hw4 := HB4.out.size
     have HB5 := Hid.mk (HB4.out.trans (hb5.mono hw4))
     have hw5 := HB5.out.size
     have HF5 := Hid.mk (hf5.notAt (g := w.heap.size) (by have := HI.out.2.2.2.2.2.2.2.2.1; omega))
     clear hr5 hb5 hle hf5
     obtain ⟨j, hj⟩ : ∃ j, j = p / 32 := ⟨_, rfl⟩
     obtain ⟨s, hs⟩ : ∃ s, s = p % 32 := ⟨_, rfl⟩
     have hq : (p : Int) / 32 = (j : Int) := by omega
     have hr : (p : Int) % 32 = (s : Int) := by omega
     have hs32 : s < 32 := by omega
     have hjx : j < xs.length := by omega
     have HP : Hid (p = 32 * j + s) := Hid.mk (by omega)
     clear hj hs
     have hown5 := HI.out.2.2.1.below HB5.out
     have hz1 := hown5.cell HI.out.1 j hjx
     have hz2 := hown5.frozen HI.out.1 j
     have hdv : 2 ^ (s + 1) ∣ zs.getD j 0 := by
      refine limb_dvd HI.out.2.1 (by omega) (by have := HI.out.1; omega) ?_
      have h := HI.out.2.2.2.2.2.2.2.2.2.dvd
      rw [show ((p : Int) + 1).toNat = 32 * j + (s + 1) from by have := HP.out; omega] at h
      exact h
     have hzl := Lo_get HI.out.2.1 j
     obtain ⟨ho1, ho2⟩ := or_bit _ s hs32 hzl hdv
     obtain ⟨z, hz⟩ : ∃ z, z = zs.getD j 0 := ⟨_, rfl⟩
     rw [← hz] at hz1 ho1 ho2 hzl
     obtain ⟨zz, hzz⟩ : ∃ zz, zz = z + 2 ^ s := ⟨_, rfl⟩
     rw [← hzz] at ho1 ho2
     have HZ := Hid.mk (And.intro hz hzz)
     have HO := Hid.mk hown5
     clear hz hzz hown5 hdv
     go_wp2_with fail
     go_roundw
     case measure => simp [intOf] <;> omega
     case rel =>
      obtain ⟨i1, i2, i3, i4, i5, i6, i7, i8, i9, i10⟩ := HI.out
      have e1 := hZ5.out.2.1
      have e2 := hZ3.out.2.1
      refine ⟨(p : Int) - 1, zs.set j zz, qs, by omega, by omega, by go_num, Hid.mk ⟨by simpa using i1, Lo_set i2 _ _ ho1, HO.out.stored_int i1 j zz rfl, hZ5.out.1, by have := hZ5.out.2.2.1; omega, hZ5.out.2.2.2.other _ HF5.out, HF5.out, (i8.trans (HB5.out.mono (by omega))).setCell (Nat.le_refl _) _, by simp [World.setCell]; omega, ?_⟩⟩
      rw [show ((p : Int) - 1 + 1).toNat = p from by omega]
      rw [show ((p : Int) + 1).toNat = p + 1 from by omega] at i10
      have h6 := val_set zs j zz (by omega)
      have h7 : val (zs.set j zz) = val zs + 2 ^ p := by
       have h8 : 4294967296 ^ j * zz = 4294967296 ^ j * z + 2 ^ p := by rw [HZ.out.2, Nat.mul_add, HP.out, Nat.pow_add, pow32]
       rw [← HZ.out.1, h8] at h6
       omega
      rw [h7, e1, e2]
      exact i10.yes (by have := HLT.out; rw [e2] at this; omega)
end Go.Proofs.YtfjbijpagaipnabGreatDoor
