import Derived.Test.YtfjbijpagaipnabGreatDoorR09
import Derived.Test.YtfjbijpagaipnabGreatDoorR07
import Derived.Test.YtfjbijpagaipnabGreatDoorR08
namespace Go.Proofs.YtfjbijpagaipnabGreatDoor
open Go.RowKit
def SideOut (p : Nat) (s : ByteArray) (a : Nat) (bad : Bool) (ds : List UInt8) (w w' : World) (i : Int) : Prop := (∃ n : Nat, n ≤ 99 ∧ i = (n : Int) ∧ ∃ bad', Rb w' p s (a + ds.length) bad' ∧ (bad' = false → bad = false ∧ Run ds ∧ decval ds = n)) ∧ Fr p w w'
set_option maxRecDepth 100000 in
set_option maxHeartbeats 4000000 in
theorem side_any (p : Nat) (s : ByteArray) (a : Nat) (bad : Bool) (ds l : List UInt8) (w : World) (h : Rb w p s a bad) (hr : Rem s a (ds ++ l)) (hs : s.size ≤ 4000) (hd : Digs ds) (hl : Stops l) :
 Calls Tryz.prog 55 #[.pointer (some ⟨p, 0, none⟩)] w fun e w' => ∃ i : Int, e = .returned (.int .i64 i) ∧ SideOut p s a bad ds w w' i := by
 have H := Hid.mk h
 have HR := Hid.mk hr
 have HD := Hid.mk hd
 have HL := Hid.mk hl
 have hdl : ds.length ≤ 4000 := by have := hr.app.1; omega
 clear h hr hd hl
 go_enter Tryz.func55, Tryz.ntmps55
 go_wp2_with fail
 refine (digits_any p s a bad ds l _ H.out HR.out (by omega) HD.out HL.out).mono ?_
 rintro e w2 ⟨rfl, ⟨bad2, hR2, hb2⟩, hF2⟩
 obtain ⟨c0, c1, c2, c3, c4⟩ := hR2.cells
 have H2 := Hid.mk (And.intro hR2 (And.intro hF2 hb2))
 clear hR2 hF2 hb2
 obtain ⟨rb, hrb⟩ : ∃ rb : ByteArray, rb = ⟨ds.toArray⟩ := ⟨_, rfl⟩
 have hrs : rb.size = ds.length := by rw [hrb]; rfl
 have hrl : rb.data.toList = ds := by rw [hrb]
 have HB := Hid.mk (And.intro hrs hrl)
 have hrz : rb.size ≤ 4000 := by omega
 rw [← hrb]
 clear hrb hrs hrl
 go_wp2_with fail
 go_loop [4, 5] (fun v i => ∃ k sd : Nat, k ≤ rb.size ∧ i = .int .i64 k ∧ sd ≤ 999 ∧ v = .int .i64 sd ∧ Hid (sd = decval (ds.take k))) (fun _ i => rb.size - (intOf i).toNat)
 case atStart => exact ⟨0, 0, Nat.zero_le _, rfl, by omega, rfl, Hid.mk rfl⟩
 case round =>
  obtain ⟨k, sd, hk, rfl, hsd, rfl, HI⟩ := hrel
  by_cases hkr : k < rb.size
  ·by_cases hs99 : sd ≤ 99
   ·have hdd := dig_at rb (by rw [HB.out.2]; exact HD.out) k hkr
    obtain ⟨d1, d2⟩ := hdd
    have hnext : decval (ds.take (k + 1)) = 10 * sd + ((rb[k]'hkr).toNat - 48) := by
     have := decval_at rb k hkr
     rw [HB.out.2] at this
     rw [this, HI.out]
    have HN := Hid.mk hnext
    have hle2 : 10 * sd + ((rb[k]'hkr).toNat - 48) ≤ 999 := by omega
    clear hnext
    go_wp2_with fail
    go_round
    case rel => exact ⟨k + 1, 10 * sd + ((rb[k]'hkr).toNat - 48), by omega, by go_num, hle2, by go_num, Hid.mk HN.out.symm⟩
    case measure => simp [intOf]; omega
   ·have hd0 : decide (sd ≤ 99) = false := by simp; omega
    have hd1 : decide ((sd : Int) ≤ (99 : Int)) = false := by simp; omega
    have hd2 : (99 : Int) < (sd : Int) := by omega
    clear hs99
    go_wp2_with fail
    go_ret
    exact ⟨_, rfl, ⟨0, by omega, rfl, true, (H2.out.1.fault 0).1, (fun e => by cases e)⟩, H2.out.2.1.trans (H2.out.1.fault 0).2⟩
  ·have hd0 : decide (k < rb.size) = false := by simp; omega
   have hd1 : decide ((k : Int) < (rb.size : Int)) = false := by simp; omega
   by_cases hs99 : sd ≤ 99
   ·go_wp2_with fail
    go_ret
    refine ⟨_, rfl, ⟨sd, hs99, rfl, bad2, H2.out.1, fun e => ⟨(H2.out.2.2 e).1, (H2.out.2.2 e).2, ?_⟩⟩, H2.out.2.1⟩
    have := HI.out
    rw [List.take_of_length_le (by have := HB.out.1; omega)] at this
    omega
   ·have hd2 : (99 : Int) < (sd : Int) := by omega
    clear hs99
    go_wp2_with fail
    go_ret
    exact ⟨_, rfl, ⟨0, by omega, rfl, true, (H2.out.1.fault 0).1, (fun e => by cases e)⟩, H2.out.2.1.trans (H2.out.1.fault 0).2⟩
def EntOut (p : Nat) (s : ByteArray) (a : Nat) (bad : Bool) (w' : World) (x : Value) : Prop := ∃ (z : Int) (q' : Nat) (bad' : Bool), IsI w' x z 4000 ∧ Rb w' p s q' bad' ∧ q' ≤ s.size ∧ (bad' = false → bad = false ∧ ∃ tk l, Rem s a (tk ++ l) ∧ Stops l ∧ Tok tk z ∧ q' = a + tk.length)
set_option maxRecDepth 100000 in
set_option maxHeartbeats 4000000 in
theorem entry_any (p : Nat) (s : ByteArray) (a : Nat) (bad : Bool) (w : World) (h : Rb w p s a bad) (ha : a ≤ s.size) (hs : s.size ≤ 4000) :
 Calls Tryz.prog 89 #[.pointer (some ⟨p, 0, none⟩)] w fun e w' => ∃ x, e = .returned x ∧ EntOut p s a bad w' x ∧ Fr p w w' := by
 have H := Hid.mk h
 have hpl := h.lt
 clear h
 go_enter Tryz.func89, Tryz.ntmps89
 go_wp2_with fail
 refine (sees_any p s a bad 45 _ (H.out.below ((Below.refl _ _).alloc (Nat.le_refl _) _)) ha (by omega)).mono ?_
 rintro e w' ⟨⟨b, rfl, hb1, hb2⟩, n, rfl⟩
 have HB := Hid.mk (And.intro hb1 hb2)
 clear hb1 hb2
 obtain ⟨X, hX⟩ : ∃ X, X = (w.alloc (.cells #[.bool false, .slice none 0 0] 79)).drewN n := ⟨_, rfl⟩
 have hT0 : Two X w.heap.size (.bool false) (.slice none 0 0) := by rw [hX]; exact Two.new w _ _ rfl
 have hF0 : Fr p w X := by rw [hX]; exact Fr.of_below (below_drewN ((Below.refl _ _).alloc (Nat.le_refl _) _) _)
 have hR0 : Rb X p s a bad := by rw [hX]; exact H.out.below (below_drewN ((Below.refl _ _).alloc (Nat.le_refl _) _) _)
 obtain ⟨c0, c1, c2, c3, c4⟩ := hR0.cells
 rw [← hX]
 have H0 := Hid.mk (And.intro hT0 (And.intro hF0 hR0))
 clear hT0 hF0 hR0 hX
 cases b
 ·obtain ⟨ds, l, hsp, hdg, hst⟩ := split_digs (s.data.toList.drop a)
  have hrem : Rem s a (ds ++ l) := ⟨ha, hsp⟩
  have htl : ds.length ≤ s.size := by have := hrem.app.1; omega
  have HD := Hid.mk (And.intro hrem (And.intro hdg hst))
  clear hsp hdg hst hrem
  go_wp2_with fail
  refine (digits_any p s a bad ds l _ H0.out.2.2 HD.out.1 (by omega) HD.out.2.1 HD.out.2.2).mono ?_
  rintro e w2 ⟨rfl, ⟨bad2, hR2, hb2⟩, hF2⟩
  have hT2 := H0.out.1.fr hF2 (by omega)
  have hF2' := H0.out.2.1.trans hF2
  have H2 := Hid.mk (And.intro hT2 (And.intro hF2' (And.intro hR2 hb2)))
  clear H0 hT2 hF2 hR2 hF2' hb2 c0 c1 c2 c3 c4
  go_wp2_with fail
  refine (fromDigits_any ⟨ds.toArray⟩ _ (by show ds.toArray.size ≤ 4000; simp; omega) (by simpa using HD.out.2.1)).mono ?_
  rintro e w3 ⟨x, rfl, hx, hb3⟩
  obtain ⟨nb, bo, m, ecap, rfl⟩ := hx.shape
  have hT3 := H2.out.1.below hb3
  obtain ⟨t1, t2, t3, t4⟩ := hT3.cells
  have H3 := Hid.mk (And.intro hT3 (And.intro (H2.out.2.1.trans (Fr.of_below hb3)) (And.intro (H2.out.2.2.1.below hb3) (And.intro hx H2.out.2.2.2))))
  clear hT3 hx hb3 H2
  go_wp2_with fail
  refine bodyPost_ret (v := .agg #[.bool nb, .slice bo m ecap]) ?_ rfl ?_
  ·(simp [results, Tryz.results89, go_sem, t1, t2]; done)
  ·obtain ⟨hT3, hF3, hR3, hx, hb⟩ := H3.out
   have hx' : IsI w3 (.agg #[.bool nb, .slice bo m ecap]) (decval ds) ds.length := hx
   refine ⟨_, rfl, ⟨(decval ds : Nat), a + ds.length, bad2, ?_, (hR3.setOther (by omega) _).setOther (by omega) _, HD.out.1.app.1, fun e => ⟨(hb e).1, ds, l, HD.out.1, HD.out.2.2, .inl ⟨(hb e).2, rfl⟩, rfl⟩⟩, (hF3.setNew (Nat.le_refl _) _).setNew (Nat.le_refl _) _⟩
   exact (hx'.keep (KU.setCell (KU.setCell (KU.refl _) hT3.ty (by decide) _) (hT3.ty.setCell _ _) (by decide) _)).mono (by omega)
 ·obtain ⟨l0, hl0⟩ := HB.out.1 rfl
  obtain ⟨hq, -, hr1⟩ := hl0.cons
  obtain ⟨ds, l, hsp, hdg, hst⟩ := split_digs l0
  rw [hsp] at hr1
  have hrem0 : Rem s a (45 :: (ds ++ l)) := by rw [← hsp]; exact hl0
  have htl : ds.length ≤ s.size := by have := hr1.app.1; omega
  have HD := Hid.mk (And.intro hr1 (And.intro hdg (And.intro hst hrem0)))
  clear hsp hdg hst hrem0 hr1 hl0
  go_wp2_with fail
  have M := H0.out.2.2.move (z := (a : Int) + 1) (q' := a + 1) (by omega) 0
  refine (digits_any p s (a + 1) bad ds l _ M.1 HD.out.1 (by omega) HD.out.2.1 HD.out.2.2.1).mono ?_
  rintro e w2 ⟨rfl, ⟨bad2, hR2, hb2⟩, hF2⟩
  have hT2 := (H0.out.1.fr M.2 (by omega)).fr hF2 (by omega)
  have hF2' := (H0.out.2.1.trans M.2).trans hF2
  have H2 := Hid.mk (And.intro hT2 (And.intro hF2' (And.intro hR2 hb2)))
  clear M c0 c1 c2 c3 c4
  obtain ⟨c0, c1, c2, c3, c4⟩ := hR2.cells
  clear H0 hT2 hF2 hR2 hF2' hb2
  by_cases hz : ds = [48]
  ·have hne : (ds == [48]) = true := beq_iff_eq.2 hz
   have HZ := Hid.mk hz
   clear hz
   go_wp2_with fail
   have F := H2.out.2.2.1.fault 0
   have H2b := Hid.mk (And.intro (H2.out.1.fr F.2 (by omega)) (And.intro (H2.out.2.1.trans F.2) F.1))
   refine (fromDigits_any ⟨ds.toArray⟩ _ (by show ds.toArray.size ≤ 4000; simp; omega) (by simpa using HD.out.2.1)).mono ?_
   rintro e w3 ⟨x, rfl, hx, hb3⟩
   have H3 := Hid.mk (And.intro (H2b.out.1.below hb3) (And.intro (H2b.out.2.1.trans (Fr.of_below hb3)) (And.intro (H2b.out.2.2.below hb3) hx)))
   clear hx hb3 H2 H2b F c0 c1 c2 c3 c4
   go_wp2_with fail
   refine (neg_any _ _ _ _ H3.out.2.2.2).mono ?_
   rintro e w4 ⟨y, rfl, hy, hb4⟩
   obtain ⟨nb, bo, m, ecap, rfl⟩ := hy.shape
   have hT4 := H3.out.1.below hb4
   obtain ⟨t1, t2, t3, t4⟩ := hT4.cells
   have H4 := Hid.mk (And.intro hT4 (And.intro (H3.out.2.1.trans (Fr.of_below hb4)) (And.intro (H3.out.2.2.1.below hb4) hy)))
   clear hT4 hy hb4 H3
   go_wp2_with fail
   refine bodyPost_ret (v := .agg #[.bool nb, .slice bo m ecap]) ?_ rfl ?_
   ·(simp [results, Tryz.results89, go_sem, t1, t2]; done)
   ·obtain ⟨hT3, hF3, hR3, hx⟩ := H4.out
    have hx' : IsI w4 (.agg #[.bool nb, .slice bo m ecap]) (-(decval ds : Int)) ds.length := hx
    exact ⟨_, rfl, ⟨_, _, true, (hx'.keep (KU.setCell (KU.setCell (KU.refl _) hT3.ty (by decide) _) (hT3.ty.setCell _ _) (by decide) _)).mono (by omega), (hR3.setOther (by omega) _).setOther (by omega) _, HD.out.1.app.1, (fun e => by cases e)⟩, (hF3.setNew (Nat.le_refl _) _).setNew (Nat.le_refl _) _⟩
  ·have hne : (ds == [48]) = false := beq_eq_false_iff_ne.2 hz
   have HZ := Hid.mk hz
   clear hz
   go_wp2_with fail
   refine (fromDigits_any ⟨ds.toArray⟩ _ (by show ds.toArray.size ≤ 4000; simp; omega) (by simpa using HD.out.2.1)).mono ?_
   rintro e w3 ⟨x, rfl, hx, hb3⟩
   have H3 := Hid.mk (And.intro (H2.out.1.below hb3) (And.intro (H2.out.2.1.trans (Fr.of_below hb3)) (And.intro (H2.out.2.2.1.below hb3) (And.intro hx H2.out.2.2.2))))
   clear hx hb3 H2 c0 c1 c2 c3 c4
   go_wp2_with fail
   refine (neg_any _ _ _ _ H3.out.2.2.2.1).mono ?_
   rintro e w4 ⟨y, rfl, hy, hb4⟩
   obtain ⟨nb, bo, m, ecap, rfl⟩ := hy.shape
   have hT4 := H3.out.1.below hb4
   obtain ⟨t1, t2, t3, t4⟩ := hT4.cells
   have H4 := Hid.mk (And.intro hT4 (And.intro (H3.out.2.1.trans (Fr.of_below hb4)) (And.intro (H3.out.2.2.1.below hb4) (And.intro hy H3.out.2.2.2.2))))
   clear hT4 hy hb4 H3
   go_wp2_with fail
   refine bodyPost_ret (v := .agg #[.bool nb, .slice bo m ecap]) ?_ rfl ?_
   ·(simp [results, Tryz.results89, go_sem, t1, t2]; done)
   ·obtain ⟨hT3, hF3, hR3, hx, hb⟩ := H4.out
    have hx' : IsI w4 (.agg #[.bool nb, .slice bo m ecap]) (-(decval ds : Int)) ds.length := hx
    exact ⟨_, rfl, ⟨_, _, bad2, (hx'.keep (KU.setCell (KU.setCell (KU.refl _) hT3.ty (by decide) _) (hT3.ty.setCell _ _) (by decide) _)).mono (by omega), (hR3.setOther (by omega) _).setOther (by omega) _, HD.out.1.app.1, fun e => ⟨(hb e).1, 45 :: ds, l, HD.out.2.2.2, HD.out.2.2.1, .inr ⟨ds, rfl, (hb e).2, HZ.out, rfl⟩, by rw [List.length_cons]; omega⟩⟩, (hF3.setNew (Nat.le_refl _) _).setNew (Nat.le_refl _) _⟩
open Go.RowKit
theorem wbody_snoc (c : Nat) (x : List UInt8) : ∀ (l : List (List UInt8)) (t : Nat), bodyT c t (l ++ [x]) = bodyT c t l ++ ((if 0 < t + l.length ∧ (t + l.length) % c = 0 then [59] else []) ++ (32 :: x))
 | [], t => by simp [bodyT]
 | a :: l, t => by
   have := wbody_snoc c x l (t + 1)
   rw [List.cons_append, bodyT, bodyT, this, List.length_cons, show t + 1 + l.length = t + (l.length + 1) from by omega]
   simp [List.append_assoc]
def matT (r c : Nat) (zs : List Int) : List UInt8 := Lib.decDigits r ++ (120 :: (Lib.decDigits c ++ (58 :: bodyT c 0 (zs.map Lib.itoa))))
def partT (r c : Nat) (zs : List Int) (n : Nat) : List UInt8 := Lib.decDigits r ++ (120 :: (Lib.decDigits c ++ (58 :: bodyT c 0 ((zs.take n).map Lib.itoa))))
theorem partT_next {r c : Nat} {zs : List Int} {i j : Nat} (hj : j < c) (hn : i * c + j < zs.length) :
 partT r c zs (i * c + j + 1) = partT r c zs (i * c + j) ++ ((if 0 < i ∧ j = 0 then [59] else []) ++ (32 :: Lib.itoa (zs.getD (i * c + j) 0))) := by
 unfold partT
 have e : (zs.take (i * c + j + 1)).map Lib.itoa = (zs.take (i * c + j)).map Lib.itoa ++ [Lib.itoa (zs.getD (i * c + j) 0)] := by
  rw [List.take_add_one, List.getElem?_eq_getElem hn, List.map_append]
  simp [List.getD, List.getElem?_eq_getElem hn]
 rw [e, wbody_snoc]
 have h1 : ((zs.take (i * c + j)).map Lib.itoa).length = i * c + j := by rw [List.length_map, List.length_take]; omega
 rw [h1, Nat.zero_add]
 have h2 : (0 < i * c + j ∧ (i * c + j) % c = 0) ↔ (0 < i ∧ j = 0) := by
  rw [show (i * c + j) % c = j from by rw [Nat.mul_comm, Nat.mul_add_mod, Nat.mod_eq_of_lt hj]]
  constructor
  ·rintro ⟨a, rfl⟩
   refine ⟨?_, rfl⟩
   rcases Nat.eq_zero_or_pos i with h | h
   ·subst h; simp at a
   ·exact h
  ·rintro ⟨a, rfl⟩
   have := Nat.mul_le_mul a (Nat.le_refl c)
   exact ⟨by omega, rfl⟩
 simp only [h2]
 simp [List.append_assoc]
theorem partT_all {r c : Nat} {zs : List Int} {n : Nat} (hn : zs.length ≤ n) : partT r c zs n = matT r c zs := by
 unfold partT matT; rw [List.take_of_length_le hn]
theorem wstr_app (a b : List UInt8) : (⟨a.toArray⟩ : ByteArray) ++ ⟨b.toArray⟩ = ⟨(a ++ b).toArray⟩ := by
 apply ByteArray.ext
 simp [ByteArray.data_append]
theorem dec_le2 (n : Nat) (h : n < 100) : (Lib.decDigits n).length ≤ 2 := by
 by_cases h1 : n < 10
 ·rw [Lib.decDigits_one h1]; simp
 ·rw [decDigits_big h1, Lib.decDigits_one (by omega)]; simp
theorem part0 (r c : Nat) (zs : List Int) : Value.string ((⟨(Lib.decDigits r).toArray⟩ : ByteArray) ++ ⟨#[120]⟩ ++ ⟨(Lib.decDigits c).toArray⟩ ++ ⟨#[58]⟩) = .string ⟨(partT r c zs 0).toArray⟩ := by
 rw [show (⟨#[120]⟩ : ByteArray) = ⟨[(120 : UInt8)].toArray⟩ from rfl, show (⟨#[58]⟩ : ByteArray) = ⟨[(58 : UInt8)].toArray⟩ from rfl, wstr_app, wstr_app, wstr_app]
 simp [partT, bodyT]
theorem wval0 (T D : List UInt8) : Value.string ((⟨T.toArray⟩ : ByteArray) ++ (⟨#[32]⟩ ++ ⟨D.toArray⟩)) = .string ⟨(T ++ ([] ++ (32 :: D))).toArray⟩ := by
 rw [show (⟨#[32]⟩ : ByteArray) = ⟨[(32 : UInt8)].toArray⟩ from rfl, wstr_app, wstr_app]; rfl
theorem wval1 (T D : List UInt8) : Value.string ((⟨T.toArray⟩ : ByteArray) ++ ⟨#[59]⟩ ++ (⟨#[32]⟩ ++ ⟨D.toArray⟩)) = .string ⟨(T ++ ([59] ++ (32 :: D))).toArray⟩ := by
 rw [show (⟨#[32]⟩ : ByteArray) = ⟨[(32 : UInt8)].toArray⟩ from rfl, show (⟨#[59]⟩ : ByteArray) = ⟨[(59 : UInt8)].toArray⟩ from rfl, wstr_app, wstr_app, wstr_app]
 simp
theorem rret_w {s t : List UInt8} (h : s = t) : Ending.returned (.string ⟨s.toArray⟩) = .returned (.string ⟨t.toArray⟩) := by rw [h]
set_option maxHeartbeats 1000000 in
theorem rows_raw (r c : Int) (ao : Option Addr) (n cap : Nat) (w : World) :
 Calls Tryz.prog 85 #[.agg #[.int .i64 r, .int .i64 c, .slice ao n cap]] w fun e w' => e = .returned (.int .i64 r) ∧ w' = w.alloc (.cells #[.int .i64 r, .int .i64 c, .slice ao n cap] 66) := by
 go_enter Tryz.func85, Tryz.ntmps85
 go_wp2
 go_ret
 exact ⟨rfl, rfl⟩
set_option maxHeartbeats 1000000 in
theorem cols_raw (r c : Int) (ao : Option Addr) (n cap : Nat) (w : World) :
 Calls Tryz.prog 84 #[.agg #[.int .i64 r, .int .i64 c, .slice ao n cap]] w fun e w' => e = .returned (.int .i64 c) ∧ w' = w.alloc (.cells #[.int .i64 r, .int .i64 c, .slice ao n cap] 66) := by
 go_enter Tryz.func84, Tryz.ntmps84
 go_wp2
 go_ret
 exact ⟨rfl, rfl⟩
theorem itoa_len {w : World} {v : Value} {z : Int} {L : Nat} (h : IsI w v z L) (hL : L ≤ 200000000) : (Lib.itoa z).length ≤ 2400000001 := by
 obtain ⟨sl, xs, -, h2, h3, h4, -⟩ := h
 have hn : Lib.nDigits z.natAbs ≤ 2400000000 := by
  rw [← h3]
  have := nDigits_limbs h2.1
  omega
 rcases Int.lt_or_le z 0 with hz | hz
 ·have e : z = -((z.natAbs : Nat) : Int) := by omega
  rw [e, Lib.itoa_neg _ (by omega), List.length_cons, Lib.decDigits_length]; omega
 ·have e : z = ((z.natAbs : Nat) : Int) := by omega
  rw [e, Lib.itoa_nonneg, Lib.decDigits_length]; omega
def MBox (w : World) (b : Nat) (r c : Int) (sl : Value) : Prop := w.heap[b]? = some (.cells #[.int .i64 r, .int .i64 c, sl] 66 (0, 0))
theorem MBox.new (w : World) (r c : Int) (sl : Value) {b : Nat} (hb : b = w.heap.size) : MBox (w.alloc (.cells #[.int .i64 r, .int .i64 c, sl] 66)) b r c sl := by rw [hb]; exact heap_alloc_new w _
theorem MBox.below {B : Nat} {w w' : World} {b : Nat} {r c : Int} {sl : Value} (h : MBox w b r c sl) (hb : Below B w w') (hB : b < B) : MBox w' b r c sl := by unfold MBox; rw [hb.block b hB]; exact h
theorem MBox.cells {w : World} {b : Nat} {r c : Int} {sl : Value} (h : MBox w b r c sl) : w.cell? ⟨b, 0, none⟩ = some (.int .i64 r) ∧ w.cell? ⟨b, 1, none⟩ = some (.int .i64 c) ∧ w.cell? ⟨b, 2, none⟩ = some sl ∧ (∀ j, w.frozen? ⟨b, j, none⟩ = false) := by
 unfold MBox at h
 refine ⟨?_, ?_, ?_, fun j => ?_⟩ <;> simp [World.cell?, World.frozen?, h]
open Go.RowKit
theorem Rb.grown {w w' : World} {p : Nat} {s : ByteArray} {q : Nat} {bad : Bool} {row : Option Nat} (h : Rb w p s q bad) (hg : w.grownBy w' row) (hne : row ≠ some p) : Rb w' p s q bad := by
 unfold Rb; rw [hg.block p h.lt (fun e => hne e.symm)]; exact h
theorem Rem.uniq {s : ByteArray} {q : Nat} {l l' : List UInt8} (h : Rem s q l) (h' : Rem s q l') : l = l' := by rw [← h.2, h'.2]
def Took (s : ByteArray) (a c : Nat) (zs : List Int) (q : Nat) : Prop := ∃ tks l, tks.length = zs.length ∧ (∀ t, t < zs.length → Tok (tks.getD t []) (zs.getD t 0) ∧ (tks.getD t []).length ≤ 4000) ∧ Rem s a (bodyT c 0 tks ++ l) ∧ q = a + (bodyT c 0 tks).length
theorem Took.start (s : ByteArray) (a c : Nat) (ha : a ≤ s.size) : Took s a c [] a := ⟨[], s.data.toList.drop a, rfl, (fun t ht => absurd ht (Nat.not_lt_zero _)), by simpa [bodyT] using Rem.rest s a ha, by simp [bodyT]⟩
theorem Took.next {s : ByteArray} {a c row k q q1 : Nat} {zs : List Int} {z : Int} {tk l l2 : List UInt8} (h : Took s a c zs q) (hs : s.size ≤ 4000) (hk : k < c) (hn : zs.length = row * c + k)
 (h1 : if 0 < row ∧ k = 0 then q1 = q + 1 ∧ ∃ l, Rem s q (59 :: l) else q1 = q) (h2 : Rem s q1 (32 :: l2)) (h3 : Rem s (q1 + 1) (tk ++ l)) (ht : Tok tk z) : Took s a c (zs ++ [z]) (q1 + 1 + tk.length) := by
 obtain ⟨tks, l0, e1, e2, e3, e4⟩ := h
 have hq : Rem s q l0 := by rw [e4]; exact e3.app
 have htl : tk.length ≤ 4000 := by have := h3.app.1; omega
 have e5 : l2 = tk ++ l := by
  obtain ⟨_, _, h4⟩ := h2.cons
  exact h4.uniq h3
 have e6 : l0 = (if 0 < row ∧ k = 0 then [59] else []) ++ (32 :: (tk ++ l)) := by
  by_cases hc : 0 < row ∧ k = 0
  ·rw [if_pos hc] at h1 ⊢
   obtain ⟨rfl, l', h5⟩ := h1
   obtain ⟨_, _, h6⟩ := h5.cons
   rw [hq.uniq h5, h6.uniq h2, e5]; rfl
  ·rw [if_neg hc] at h1 ⊢
   subst h1
   rw [hq.uniq h2, e5]; rfl
 have hsnoc := wbody_snoc c tk tks 0
 rw [Nat.zero_add, e1, hn] at hsnoc
 simp only [sep_iff (row := row) hk] at hsnoc
 refine ⟨tks ++ [tk], l, by simp [e1], fun t ht' => ?_, ?_, ?_⟩
 ·by_cases hlt : t < zs.length
  ·have := e2 t hlt
   rw [show (tks ++ [tk]).getD t [] = tks.getD t [] from by simp [List.getD, List.getElem?_append_left (show t < tks.length from by omega)],
    show (zs ++ [z]).getD t 0 = zs.getD t 0 from by simp [List.getD, List.getElem?_append_left hlt]]
   exact this
  ·have hte : t = zs.length := by simp at ht'; omega
   subst hte
   rw [show (tks ++ [tk]).getD zs.length [] = tk from by simp [List.getD, ← e1], show (zs ++ [z]).getD zs.length 0 = z from by simp [List.getD]]
   exact ⟨ht, htl⟩
 ·rw [hsnoc]
  rw [e6] at e3
  simpa [List.append_assoc] using e3
 ·rw [hsnoc]
  have hq1 : q1 = q + (if 0 < row ∧ k = 0 then [(59 : UInt8)] else []).length := by
   by_cases hc : 0 < row ∧ k = 0
   ·rw [if_pos hc] at h1 ⊢; exact h1.1
   ·rw [if_neg hc] at h1 ⊢; exact h1
  simp only [List.length_append, List.length_cons]
  omega
theorem Took.all {s : ByteArray} {a c q : Nat} {zs : List Int} (h : Took s a c zs q) (hq : q = s.size) : ∃ tks, tks.length = zs.length ∧ (∀ t, t < zs.length → Tok (tks.getD t []) (zs.getD t 0) ∧ (tks.getD t []).length ≤ 4000) ∧ Rem s a (bodyT c 0 tks) := by
 obtain ⟨tks, l, e1, e2, e3, e4⟩ := h
 refine ⟨tks, e1, e2, ?_⟩
 have h1 := e3.app
 rw [← e4, hq] at h1
 have : l = [] := by
  have h2 := h1.2
  rw [List.drop_of_length_le (by simp)] at h2
  exact h2.symm
 rw [this, List.append_nil] at e3
 exact e3
def EntsOut (p : Nat) (s : ByteArray) (a r c : Nat) (bad : Bool) (w w' : World) (v : Value) : Prop := (∃ (zs : List Int) (q' : Nat) (bad' : Bool), Grid w' v zs.length zs 4000 ∧ Rb w' p s q' bad' ∧ q' ≤ s.size ∧ (bad' = false → bad = false ∧ zs.length = r * c ∧ Took s a c zs q')) ∧ Fr p w w'
set_option maxRecDepth 100000 in
set_option maxHeartbeats 8000000 in
theorem entries_any (p : Nat) (s : ByteArray) (a r c : Nat) (bad : Bool) (w : World) (h : Rb w p s a bad) (ha : a ≤ s.size) (hs : s.size ≤ 4000) (hrr : r ≤ 99) (hcc : c ≤ 99) :
 Calls Tryz.prog 57 #[.pointer (some ⟨p, 0, none⟩), .int .i64 r, .int .i64 c] w fun e w' => ∃ v, e = .returned v ∧ EntsOut p s a r c bad w w' v := by
 have H := Hid.mk h
 have hpl := h.lt
 have hrc : r * c ≤ 9801 := Nat.mul_le_mul hrr hcc
 have HRC := Hid.mk hrc
 clear h hrc
 go_enter Tryz.func57, Tryz.ntmps57
 go_wp2_with fail
 go_loopw [7, 8] (fun v i wr => ∃ (row q n : Nat) (zs : List Int) (bd : Bool), row ≤ r ∧ i = .int .i64 row ∧ GridB w.heap.size wr v n zs 4000 ∧ Rb wr p s q bd ∧ q ≤ s.size ∧ Fr p w wr ∧ Hid (zs.length = n ∧ n ≤ row * c ∧ (bd = false → bad = false ∧ n = row * c ∧ Took s a c zs q))) (fun _ i _ => r - (intOf i).toNat)
 case atStart =>
  refine ⟨0, a, 0, [], bad, Nat.zero_le _, rfl, ⟨rfl, [], ?_, fun i hi => by omega⟩, H.out.below ((Below.refl _ _).alloc (Nat.le_refl _) _), ha, Fr.of_below ((Below.refl _ _).alloc (Nat.le_refl _) _), Hid.mk ⟨rfl, Nat.zero_le _, fun e => ⟨e, by simp, Took.start s a c ha⟩⟩⟩
  have := World.ownsRow_lit (base := w.heap.size) (e := 79) (size := 2) w #[] 0 (Nat.le_refl _) (by simp [maxLen]) rfl
  simpa using this
 case round =>
  rename World => wr0
  obtain ⟨row, q, n, zs, bd, hrow, rfl, hG, hRd, hq, hFr, HI⟩ := hrel
  have H1 := Hid.mk (And.intro hG (And.intro hRd hFr))
  clear hG hRd hFr
  by_cases hrw : row < r
  ·go_wp2_with fail
   go_loopw [7, 9] (fun v i ws => ∃ (k q n : Nat) (zs : List Int) (bd : Bool), k ≤ c ∧ i = .int .i64 k ∧ GridB w.heap.size ws v n zs 4000 ∧ Rb ws p s q bd ∧ q ≤ s.size ∧ Fr p w ws ∧ Hid (zs.length = n ∧ n ≤ row * c + k ∧ (bd = false → bad = false ∧ n = row * c + k ∧ Took s a c zs q))) (fun _ i _ => c - (intOf i).toNat)
   case atStart => exact ⟨0, q, n, zs, bd, Nat.zero_le _, rfl, H1.out.1, H1.out.2.1, hq, H1.out.2.2, HI⟩
   case round =>
    clear H1 HI hq
    obtain ⟨k, q, n, zs, bd, hk, rfl, hG, hRd, hq, hFr, HI⟩ := hrel
    obtain ⟨c0, c1, c2, c3, c4⟩ := hRd.cells
    have G0 := Hid.mk (And.intro hG (And.intro hRd hFr))
    clear hG hRd hFr
    by_cases hkc : k < c
    ·cases bd
     ·have hnlt : n < r * c := by
       have h1 := HI.out.2.1
       have := idx_lt hrw hkc
       omega
      have hn9 : n ≤ 9801 := by have := HRC.out; omega
      obtain ⟨kk, hkk⟩ : ∃ kk, kk = k := ⟨_, rfl⟩
      have HKK := Hid.mk hkk
      have HKC : Hid (kk < c) := Hid.mk (by rw [hkk]; exact hkc)
      clear hkk
      have hcases : row = 0 ∨ (0 < row ∧ k = 0) ∨ (0 < row ∧ 0 < k) := by omega
      rcases hcases with h0 | ⟨h0, h1⟩ | ⟨h0, h1⟩
      case' inl =>
       have f1 : decide (0 < row) = false := decide_eq_false (by omega)
       have f2 : decide ((0 : Int) < (row : Int)) = false := decide_eq_false (by omega)
       have H00 := Hid.mk h0
       clear h0
       obtain ⟨q1, hq1⟩ : ∃ q1, q1 = q := ⟨_, rfl⟩
       obtain ⟨bd1, hbd1⟩ : ∃ bd1 : Bool, bd1 = false := ⟨_, rfl⟩
       have hq1s : q1 ≤ s.size := by rw [hq1]; exact hq
       have HSEP : Hid (bd1 = false → if 0 < row ∧ kk = 0 then q1 = q + 1 ∧ ∃ l, Rem s q (59 :: l) else q1 = q) := Hid.mk fun _ => by rw [if_neg (by have := HKK.out; have := H00.out; omega)]; exact hq1
       have G1 : Hid (GridB w.heap.size wr u7 n zs 4000 ∧ Rb wr p s q1 bd1 ∧ Fr p w wr) := Hid.mk (by rw [hq1, hbd1]; exact G0.out)
       clear hq1 hbd1
       go_wp2_with fail
      case' inr.inl =>
       subst h1
       go_wp2_with fail
       refine (want_any p s q false 59 _ G0.out.2.1 hq (by omega)).mono ?_
       rintro e w1 ⟨rfl, ⟨q1, bd1, hR1, hq1s, hb1⟩, hF1⟩
       have HSEP : Hid (bd1 = false → if 0 < row ∧ kk = 0 then q1 = q + 1 ∧ ∃ l, Rem s q (59 :: l) else q1 = q) := Hid.mk fun e => by rw [if_pos ⟨h0, HKK.out⟩]; exact (hb1 e).2
       have G1 := Hid.mk (And.intro (G0.out.1.keep hF1.2) (And.intro hR1 (G0.out.2.2.trans hF1)))
       clear hR1 hF1 hb1 c0 c1 c2 c3 c4
       go_wp2_with fail
      case' inr.inr =>
       have f1 : ((k : Int) == 0) = false := beq_eq_false_iff_ne.2 (by omega)
       obtain ⟨q1, hq1⟩ : ∃ q1, q1 = q := ⟨_, rfl⟩
       obtain ⟨bd1, hbd1⟩ : ∃ bd1 : Bool, bd1 = false := ⟨_, rfl⟩
       have hq1s : q1 ≤ s.size := by rw [hq1]; exact hq
       have HSEP : Hid (bd1 = false → if 0 < row ∧ kk = 0 then q1 = q + 1 ∧ ∃ l, Rem s q (59 :: l) else q1 = q) := Hid.mk fun _ => by rw [if_neg (by have := HKK.out; omega)]; exact hq1
       have G1 : Hid (GridB w.heap.size wr u7 n zs 4000 ∧ Rb wr p s q1 bd1 ∧ Fr p w wr) := Hid.mk (by rw [hq1, hbd1]; exact G0.out)
       clear hq1 hbd1
       go_wp2_with fail
      all_goals
       clear G0
       refine (want_any p s q1 bd1 32 _ G1.out.2.1 hq1s (by omega)).mono ?_
       rintro e w2 ⟨rfl, ⟨q2, bd2, hR2, hq2s, hb2⟩, hF2⟩
       have G2 := Hid.mk (And.intro (G1.out.1.keep hF2.2) (And.intro hR2 (And.intro (G1.out.2.2.trans hF2) hb2)))
       clear hR2 hF2 hb2 G1
       go_wp2_with fail
       refine (entry_any p s q2 bd2 _ G2.out.2.1 hq2s hs).mono ?_
       rintro e w3 ⟨x, rfl, ⟨z, q3, bd3, hx, hR3, hq3s, hb3⟩, hF3⟩
       obtain ⟨nb, bo, m, ecap, rfl⟩ := hx.shape
       have G3 := Hid.mk (And.intro (G2.out.1.keep hF3.2) (And.intro hR3 (And.intro (G2.out.2.2.1.trans hF3) (And.intro hx (And.intro hb3 G2.out.2.2.2)))))
       clear hx hR3 hF3 G2 hb3
       go_wp2_with (at_builtin; refine append_int _ rfl (.tmp 41) (.tmp 43) rfl w.heap.size _ n zs 4000 rfl ?_ ⟨_, 0, none⟩ rfl (.bool nb) (.slice bo m ecap) z ?_ ?_ rfl rfl ?_ (by omega) ?_ ?_)
       ·refine G3.out.1.keep (KT.of_below ?_)
        repeat (first | exact Below.refl _ _ | refine Below.alloc ?_ (by simp <;> omega) _)
       ·simp [Addr.add]
       ·simp [Addr.add]
       ·refine G3.out.2.2.2.1.below ?_
        repeat (first | exact Below.refl _ _ | refine Below.alloc ?_ (by simp <;> omega) _)
       ·have := G3.out.2.2.1.1.size; simp; omega
       intro v' w5 hG5 hgr5
       have hbe : Below w3.heap.size w3 ((w3.alloc (.cells #[.bool nb, .slice bo m ecap] 79)).alloc (.cells #[.bool nb, .slice bo m ecap] 79)) := by
        repeat (first | exact Below.refl _ _ | refine Below.alloc ?_ (by simp <;> omega) _)
       have hrowlt : ∀ j, u7.ownBlock = some j → w.heap.size ≤ j := fun j hj => (G3.out.1.lt j hj).1
       have hFr5 : Fr p w w5 := (G3.out.2.2.1.trans (Fr.of_below hbe)).grown hgr5 hrowlt
       have hRd5 : Rb w5 p s q3 bd3 := (G3.out.2.1.below hbe).grown hgr5 (fun e => by have := hrowlt p e; omega)
       have G5 := Hid.mk (And.intro hG5 (And.intro hRd5 hFr5))
       have HNX : Hid ((zs ++ [z]).length = n + 1 ∧ n + 1 ≤ row * c + (kk + 1) ∧ (bd3 = false → bad = false ∧ n + 1 = row * c + (kk + 1) ∧ Took s a c (zs ++ [z]) q3)) := Hid.mk (by
        have hkk := HKK.out
        obtain ⟨i1, i2, i3⟩ := HI.out
        obtain ⟨_, _, _, _, b3, b2⟩ := G3.out
        refine ⟨by simp [i1], by omega, fun e => ?_⟩
        obtain ⟨e2, tk, l, h6, -, h7, h8⟩ := b3 e
        obtain ⟨e1, h9, l2, h10⟩ := b2 e2
        obtain ⟨j1, j2, j3⟩ := i3 (by first | rfl | trivial)
        refine ⟨j1, by omega, ?_⟩
        rw [h8, h9]
        rw [h9] at h6
        exact j3.next hs HKC.out (by omega) (HSEP.out e1) h10 h6 h7)
       have HNX2 := HNX.out
       rw [HKK.out] at HNX2
       replace HNX := Hid.mk HNX2
       clear HNX2
       clear hG5 hRd5 hFr5 hgr5 hbe hrowlt G3
       go_wp2_with fail
       go_roundw
       case rel => first | exact ⟨k + 1, q3, n + 1, zs ++ [z], bd3, by omega, by go_num, G5.out.1, G5.out.2.1, hq3s, G5.out.2.2, HNX⟩ | exact ⟨0 + 1, q3, n + 1, zs ++ [z], bd3, by omega, by go_num, G5.out.1, G5.out.2.1, hq3s, G5.out.2.2, HNX⟩
       case measure => simp [intOf]; omega
     ·have hki : (k : Int) < (c : Int) := by omega
      go_wp2_with fail
      go_roundw
      case rel => exact ⟨row + 1, q, n, zs, true, by omega, by go_num, G0.out.1, G0.out.2.1, hq, G0.out.2.2, Hid.mk ⟨HI.out.1, by have := HI.out.2.1; rw [Nat.add_mul, Nat.one_mul]; omega, (fun e => by cases e)⟩⟩
      case measure => simp [intOf]; omega
    ·have hke : k = c := by omega
     have HKE := Hid.mk hke
     clear hke
     have hd0 : decide (k < c) = false := by simp; omega
     have hd1 : decide ((k : Int) < (c : Int)) = false := by simp; omega
     go_wp2_with fail
     go_roundw
     case rel => exact ⟨row + 1, q, n, zs, bd, by omega, by go_num, G0.out.1, G0.out.2.1, hq, G0.out.2.2, Hid.mk ⟨HI.out.1, by have := HI.out.2.1; rw [Nat.add_mul, Nat.one_mul]; omega, fun e => ⟨(HI.out.2.2 e).1, by rw [(HI.out.2.2 e).2.1, HKE.out, Nat.add_mul, Nat.one_mul], (HI.out.2.2 e).2.2⟩⟩⟩
     case measure => simp [intOf]; omega
  ·have hre : row = r := by omega
   have HRE := Hid.mk hre
   clear hre
   go_wp2_with fail
   go_ret
   refine ⟨_, rfl, ⟨zs, q, bd, ?_, H1.out.2.1, hq, fun e => ⟨(HI.out.2.2 e).1, by rw [HI.out.1, (HI.out.2.2 e).2.1, HRE.out], (HI.out.2.2 e).2.2⟩⟩, H1.out.2.2⟩
   rw [HI.out.1]
   exact H1.out.1.grid
open Go.RowKit
theorem Rem.join {s : ByteArray} {q : Nat} {a l : List UInt8} (h : Rem s q (a ++ l)) {b : List UInt8} (h2 : Rem s (q + a.length) b) : l = b := h.app.uniq h2
def ReadOut (s : ByteArray) (w w' : World) (x : Value) (ok : Bool) : Prop := ((ok = true ∧ ∃ r c zs, Writes s r c zs 4000 ∧ IsM w' x r c zs 4000) ∨ (ok = false ∧ x = .agg #[.int .i64 0, .int .i64 0, .slice none 0 0])) ∧ Below w.heap.size w w'
set_option maxRecDepth 100000 in
set_option maxHeartbeats 8000000 in
theorem read_gen (s : ByteArray) (w : World) (hs : s.size ≤ 4000) :
 Calls Tryz.prog 32 #[.string s] w fun e w' => ∃ x ok, e = .returned (.tuple #[x, .bool ok]) ∧ ReadOut s w w' x ok := by
 obtain ⟨p, hp⟩ : ∃ p, p = w.heap.size + 1 := ⟨_, rfl⟩
 have hR0 : Rb ((w.alloc (.cells #[.int .i64 0, .int .i64 0, .slice none 0 0] 66)).alloc (.cells #[.string s, .int .i64 0, .bool false] 106)) p s 0 false := by
  have := heap_alloc_new (w.alloc (.cells #[.int .i64 0, .int .i64 0, .slice none 0 0] 66)) (.cells #[.string s, .int .i64 0, .bool false] 106)
  rw [hp]
  simpa [Rb] using this
 obtain ⟨dr, l1, hsp1, hdr, hst1⟩ := split_digs s.data.toList
 have hrem0 : Rem s 0 (dr ++ l1) := ⟨Nat.zero_le _, by simpa using hsp1⟩
 have HD := Hid.mk (And.intro hrem0 (And.intro hdr hst1))
 have HP := Hid.mk hp
 have HR0 := Hid.mk hR0
 clear hsp1 hdr hst1 hrem0 hR0
 go_enter Tryz.func32, Tryz.ntmps32
 go_wp2_with fail
 rw [← HP.out]
 obtain ⟨W0, hW0⟩ : ∃ W0, W0 = (w.alloc (.cells #[.int .i64 0, .int .i64 0, .slice none 0 0] 66)).alloc (.cells #[.string s, .int .i64 0, .bool false] 106) := ⟨_, rfl⟩
 rw [← hW0] at HR0 ⊢
 have hB0 : Below w.heap.size w W0 := by
  rw [hW0]
  repeat (first | exact Below.refl _ _ | refine Below.alloc ?_ (by simp <;> omega) _)
 have hres : W0.heap[w.heap.size]? = some (.cells #[.int .i64 0, .int .i64 0, .slice none 0 0] 66 (0, 0)) := by
  rw [hW0, Below.heap_alloc _ _ _ (by simp)]; exact heap_alloc_new w _
 have hS0 : W0.heap.size = w.heap.size + 2 := by rw [hW0]; simp
 have H0 := Hid.mk (And.intro hB0 (And.intro hres hS0))
 clear hB0 hres hS0 hW0
 have hpw : w.heap.size < p := by omega
 clear hp
 refine (side_any p s 0 false dr l1 _ HR0.out HD.out.1 hs HD.out.2.1 HD.out.2.2).mono ?_
 rintro e w1 ⟨i1, rfl, ⟨r, hr, rfl, b1, hR1, hb1⟩, hF1⟩
 rw [Nat.zero_add] at hR1
 have hq1 : dr.length ≤ s.size := by have := HD.out.1.app.1; omega
 obtain ⟨q1, hq1e⟩ : ∃ q1, q1 = dr.length := ⟨_, rfl⟩
 rw [← hq1e] at hR1 hq1
 have HQ1 := Hid.mk hq1e
 have K1 := Hid.mk (And.intro hR1 (And.intro hF1 hb1))
 clear hR1 hF1 hb1 hq1e
 go_wp2_with fail
 refine (want_any p s q1 b1 120 _ K1.out.1 hq1 (by omega)).mono ?_
 rintro e w2 ⟨rfl, ⟨q2, b2, hR2, hq2, hb2⟩, hF2⟩
 have K2 := Hid.mk (And.intro hR2 (And.intro (K1.out.2.1.trans hF2) (And.intro hb2 K1.out.2.2)))
 clear hR2 hF2 hb2 K1
 obtain ⟨dc, l2, hsp2, hdc, hst2⟩ := split_digs (s.data.toList.drop q2)
 have hrem2 : Rem s q2 (dc ++ l2) := ⟨hq2, hsp2⟩
 have HD2 := Hid.mk (And.intro hrem2 (And.intro hdc hst2))
 clear hsp2 hdc hst2 hrem2
 go_wp2_with fail
 refine (side_any p s q2 b2 dc l2 _ K2.out.1 HD2.out.1 hs HD2.out.2.1 HD2.out.2.2).mono ?_
 rintro e w3 ⟨i3, rfl, ⟨c, hc, rfl, b3, hR3, hb3⟩, hF3⟩
 have hq3 : q2 + dc.length ≤ s.size := HD2.out.1.app.1
 obtain ⟨q3, hq3e⟩ : ∃ q3, q3 = q2 + dc.length := ⟨_, rfl⟩
 rw [← hq3e] at hR3 hq3
 have HQ3 := Hid.mk hq3e
 have K3 := Hid.mk (And.intro hR3 (And.intro (K2.out.2.1.trans hF3) (And.intro hb3 K2.out.2.2)))
 clear hR3 hF3 hb3 K2 hq3e
 go_wp2_with fail
 refine (want_any p s q3 b3 58 _ K3.out.1 hq3 (by omega)).mono ?_
 rintro e w4 ⟨rfl, ⟨q4, b4, hR4, hq4, hb4⟩, hF4⟩
 have K4 := Hid.mk (And.intro hR4 (And.intro (K3.out.2.1.trans hF4) (And.intro hb4 K3.out.2.2)))
 clear hR4 hF4 hb4 K3
 go_wp2_with fail
 refine (entries_any p s q4 r c b4 _ K4.out.1 hq4 hs hr hc).mono ?_
 rintro e w5 ⟨v, rfl, ⟨zs, q5, b5, hG5, hR5, hq5, hb5⟩, hF5⟩
 obtain ⟨c0, c1, c2, c3, c4⟩ := hR5.cells
 have HOK : Hid (b5 = false → q5 = s.size → zs.length = r * c ∧ Writes s r c zs 4000) := Hid.mk (fun e1 e2 => by
  obtain ⟨-, -, k4, k3, k2, k1⟩ := K4.out
  obtain ⟨f4, n5, tk5⟩ := hb5 e1
  obtain ⟨f3, e4, l4, m4⟩ := k4 f4
  obtain ⟨f2, run2, v2⟩ := k3 f3
  obtain ⟨f1, e3, l3, m3⟩ := k2 f2
  obtain ⟨-, run1, v1⟩ := k1 f1
  obtain ⟨tks, t1, t2, t3⟩ := tk5.all e2
  refine ⟨n5, dr, dc, tks, ?_, run1, run2, v1, v2, by omega, n5, fun t ht => t2 t (by omega)⟩
  have s1 : l1 = 120 :: l3 := by
   have := HD.out.1
   exact this.join (by rw [Nat.zero_add, ← HQ1.out]; exact m3)
  have s2 : l3 = dc ++ l2 := by
   obtain ⟨_, _, h⟩ := m3.cons
   rw [← e3] at h
   exact h.uniq HD2.out.1
  have s3 : l2 = 58 :: l4 := HD2.out.1.join (by rw [← HQ3.out]; exact m4)
  have s4 : l4 = bodyT c 0 tks := by
   obtain ⟨_, _, h⟩ := m4.cons
   rw [← e4] at h
   exact h.uniq t3
  have := HD.out.1.2
  rw [List.drop_zero, s1, s2, s3, s4] at this
  exact this)
 have K5 := Hid.mk (And.intro hG5 (And.intro hR5 (K4.out.2.1.trans hF5)))
 clear hG5 hR5 hF5 K4 hb5
 have hw5 : w.heap.size + 2 ≤ w5.heap.size := by have := K5.out.2.2.1.size; have := H0.out.2.2; omega
 have hB5 : Below w.heap.size w w5 := by
  have h1 := H0.out.1
  exact h1.trans (K5.out.2.2.below (by omega) h1.size)
 have hres5 : w5.heap[w.heap.size]? = some (.cells #[.int .i64 0, .int .i64 0, .slice none 0 0] 66 (0, 0)) := by
  have h2 := H0.out.2.2
  rw [K5.out.2.2.1.block _ (by omega) (by simp; omega)]
  exact H0.out.2.1
 have HF := Hid.mk (And.intro hB5 hres5)
 by_cases hgood : b5 = false ∧ q5 = s.size
 ·obtain ⟨rfl, rfl⟩ := hgood
  have hne : ((s.size : Int) != (s.size : Int)) = false := by simp
  have hgl := (HOK.out rfl rfl).1
  have HWR := Hid.mk (HOK.out rfl rfl).2
  clear hB5 hres5
  go_wp2_with fail
  refine (fromCells_any r c v zs 4000 _ hr hc (by rw [← hgl]; exact K5.out.1)).mono ?_
  rintro e w6 ⟨x, rfl, hx, hb6⟩
  have hres6 : w6.heap[w.heap.size]? = some (.cells #[.int .i64 0, .int .i64 0, .slice none 0 0] 66 (0, 0)) := by
   rw [hb6.block _ (by omega)]; exact HF.out.2
  have hB6 : Below w.heap.size w w6 := HF.out.1.trans (hb6.mono HF.out.1.size)
  obtain ⟨_, _, sl, rfl, hg6⟩ := id hx
  obtain ⟨ao, cap, rfl, -⟩ := hg6.shape
  have r0 : w6.cell? ⟨w.heap.size, 0, none⟩ = some (.int .i64 0) := by simp [World.cell?, hres6]
  have r1 : w6.cell? ⟨w.heap.size, 1, none⟩ = some (.int .i64 0) := by simp [World.cell?, hres6]
  have r2 : w6.cell? ⟨w.heap.size, 2, none⟩ = some (.slice none 0 0) := by simp [World.cell?, hres6]
  have z0 : w6.frozen? ⟨w.heap.size, 0, none⟩ = false := by simp [World.frozen?, hres6]
  have z1 : w6.frozen? ⟨w.heap.size, 1, none⟩ = false := by simp [World.frozen?, hres6]
  have z2 : w6.frozen? ⟨w.heap.size, 2, none⟩ = false := by simp [World.frozen?, hres6]
  have HTy : Hid (Ty w6 w.heap.size 66) := Hid.mk ⟨_, _, hres6⟩
  have K6 := Hid.mk (And.intro hg6 hB6)
  clear hg6 hB6 hx hb6 hres6 K5 c0 c1 c2 c3 c4
  go_wp2_with fail
  refine bodyPost_ret (v := .tuple #[.agg #[.int .i64 r, .int .i64 c, .slice ao (r * c) cap], .bool true]) ?_ rfl ?_
  ·(simp [results, Tryz.results32, go_sem, r0, r1, r2]; done)
  ·refine ⟨_, _, rfl, .inl ⟨rfl, r, c, zs, HWR.out, ⟨hr, hc, _, rfl, K6.out.1.keep (KT.setCell (KT.setCell (KT.setCell (KT.refl _) HTy.out (by decide) (by decide) _) (HTy.out.setCell _ _) (by decide) (by decide) _) ((HTy.out.setCell _ _).setCell _ _) (by decide) (by decide) _)⟩⟩, ?_⟩
   exact ((K6.out.2.setCell (Nat.le_refl _) _).setCell (Nat.le_refl _) _).setCell (Nat.le_refl _) _
 ·have r0 : w5.cell? ⟨w.heap.size, 0, none⟩ = some (.int .i64 0) := by simp [World.cell?, hres5]
  have r1 : w5.cell? ⟨w.heap.size, 1, none⟩ = some (.int .i64 0) := by simp [World.cell?, hres5]
  have r2 : w5.cell? ⟨w.heap.size, 2, none⟩ = some (.slice none 0 0) := by simp [World.cell?, hres5]
  have z0 : w5.frozen? ⟨w.heap.size, 0, none⟩ = false := by simp [World.frozen?, hres5]
  have z1 : w5.frozen? ⟨w.heap.size, 1, none⟩ = false := by simp [World.frozen?, hres5]
  have z2 : w5.frozen? ⟨w.heap.size, 2, none⟩ = false := by simp [World.frozen?, hres5]
  clear hB5 hres5
  cases b5
  case' false =>
   have hne : ((q5 : Int) != (s.size : Int)) = true := by simp; intro e; exact hgood ⟨rfl, by omega⟩
  all_goals
   clear hgood
   go_wp2_with fail
   refine bodyPost_ret (v := .tuple #[.agg #[.int .i64 0, .int .i64 0, .slice none 0 0], .bool false]) ?_ rfl ?_
   ·(simp [results, Tryz.results32, go_sem, r0, r1, r2]; done)
   ·exact ⟨_, _, rfl, .inr ⟨rfl, rfl⟩, ((HF.out.1.setCell (Nat.le_refl _) _).setCell (Nat.le_refl _) _).setCell (Nat.le_refl _) _⟩
end Go.Proofs.YtfjbijpagaipnabGreatDoor
