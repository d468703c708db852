import Derived.Test.YtfjbijpagaipnabGreatDoorR15
namespace Go.Proofs.YtfjbijpagaipnabGreatDoor.R
open Go.RowKit
def NumOut (s : ByteArray) (w w' : World) (r : Value) (b : Bool) : Prop := (∃ z, IsN w' r z (s.size + 1) ∧ (b = true → Says s.data.toList z) ∧ (b = false → ∀ z, ¬ Says s.data.toList z)) ∧ Below w.heap.size w w' ∧ AtB w.heap.size r
def Cut (s tt : ByteArray) (neg : Bool) : Prop := (neg = false ∧ s.data.toList = tt.data.toList ∧ ∀ r, s.data.toList ≠ 45 :: r) ∨ (neg = true ∧ s.data.toList = 45 :: tt.data.toList)
theorem Cut.says {s tt : ByteArray} {neg : Bool} (h : Cut s tt neg) {z : Int} (hz : Says s.data.toList z) : (∀ c ∈ tt.data.toList, IsDig c) ∧ z = if neg then -(dval tt.data.toList : Int) else (dval tt.data.toList : Int) := by
 rcases h with ⟨rfl, h1, h2⟩ | ⟨rfl, h1⟩
 ·have := hz.pos h2
  rw [h1] at this
  simpa using this
 ·rw [h1] at hz
  simpa using hz.neg
theorem NumOut.bad {s tt : ByteArray} {neg : Bool} {w W : World} (hc : Cut s tt neg) (hnd : ∃ c ∈ tt.data.toList, ¬ IsDig c) (hb : Below w.heap.size w W) : NumOut s w W (.agg #[.bool false, .slice none 0 0]) false := by
 refine ⟨⟨0, ⟨false, _, [], rfl, Own.nil _, ⟨Lo_nil, .inl rfl⟩, by simp, by simp [val], by simp⟩, (fun h => by cases h), fun _ z hz => ?_⟩, hb, AtB.none _ _ _ _⟩
 obtain ⟨c, hm, hd⟩ := hnd
 exact hd ((hc.says hz).1 c hm)
theorem NumOut.good {s tt : ByteArray} {neg b : Bool} {w W : World} {r : Value} {z : Int} {L : Nat} (hc : Cut s tt neg) (hn : IsN W r z L) (hL : L ≤ s.size + 1) (hz : z = if neg then -(dval tt.data.toList : Int) else (dval tt.data.toList : Int)) (hb : Below w.heap.size w W) (h : b = true ↔ s.data.toList = Lib.itoa z) (hat : AtB w.heap.size r) : NumOut s w W r b := by
 refine ⟨⟨z, hn.mono hL, h.1, fun hf z' hz' => ?_⟩, hb, hat⟩
 have e : z' = z := by rw [hz, (hc.says hz').2]
 rw [e] at hz'
 rw [h.2 hz'] at hf
 cases hf
theorem eqT {T s : ByteArray} {l : List UInt8} (h : T = ⟨l.toArray⟩) : (T.toList == s.toList) = true ↔ s.data.toList = l := by
 rw [beq_iff_eq, ByteArray.toList_eq, ByteArray.toList_eq, h]
 exact eq_comm
theorem head_tail (s : ByteArray) (h0 : 0 < s.size) : s.data.toList = (s[0]'h0) :: (s.extract 1 s.size).data.toList := by
 rw [ByteArray.data_extract, Array.toList_extract, List.extract_eq_take_drop]
 cases s with
 | mk d =>
   cases d with
   | mk l =>
     cases l with
     | nil => simp [ByteArray.size] at h0
     | cons c r =>
       simp only [ByteArray.size, List.size_toArray, List.length_cons, List.drop_succ_cons, List.drop_zero, Nat.add_sub_cancel, List.take_length]
       rfl
theorem pow_next {k pp : Nat} (h : pp = 10 ^ (k % 4)) : (if pp = 1000 then 1 else pp * 10) = 10 ^ ((k + 1) % 4) := by
 have hq : k % 4 = 0 ∨ k % 4 = 1 ∨ k % 4 = 2 ∨ k % 4 = 3 := by omega
 rcases hq with e | e | e | e
 ·rw [h, e, show (k + 1) % 4 = 1 from by omega]; decide
 ·rw [h, e, show (k + 1) % 4 = 2 from by omega]; decide
 ·rw [h, e, show (k + 1) % 4 = 3 from by omega]; decide
 ·rw [h, e, show (k + 1) % 4 = 0 from by omega]; decide
theorem le100 {k pp : Nat} (h : pp = 10 ^ (k % 4)) (hn : ¬ pp = 1000) : pp ≤ 100 := by
 have hq : k % 4 = 0 ∨ k % 4 = 1 ∨ k % 4 = 2 ∨ k % 4 = 3 := by omega
 rcases hq with e | e | e | e <;> rw [e] at h <;> omega
set_option maxRecDepth 100000 in
set_option maxHeartbeats 4000000 in
theorem number_any (s : ByteArray) (w : World) (hs : s.size ≤ 50000000000) :
 Calls Tryz.prog 198 #[.string s] w fun e w' => ∃ r b, e = .returned (.tuple #[r, .bool b]) ∧ NumOut s w w' r b := by
 obtain ⟨W0, hW0⟩ : ∃ W0, W0 = w.alloc (.cells #[.bool false, .slice none 0 0] 171) := ⟨_, rfl⟩
 have HW := Hid.mk hW0
 clear hW0
 have hcase : s.size = 0 ∨ (∃ h0 : 0 < s.size, (((s[0]'h0).toNat : Int) == 45) = false ∧ ∀ r, s.data.toList ≠ 45 :: r) ∨ (∃ h0 : 0 < s.size, (((s[0]'h0).toNat : Int) == 45) = true ∧ s.data.toList = 45 :: (s.extract 1 s.size).data.toList) := by
  rcases Nat.eq_zero_or_pos s.size with h0 | h0
  ·exact .inl h0
  ·by_cases h45 : (s[0]'h0) = 45
   ·refine .inr (.inr ⟨h0, by rw [h45]; rfl, ?_⟩)
    rw [head_tail s h0, h45]
   ·refine .inr (.inl ⟨h0, beq_eq_false_iff_ne.2 (fun e => h45 (UInt8.toNat_inj.1 (by have : ((s[0]'h0).toNat : Int) = ((45 : UInt8).toNat : Int) := e; omega))), fun r e => h45 ?_⟩)
    rw [head_tail s h0] at e
    injection e
 rcases hcase with h0 | ⟨h0, h45, hsl⟩ | ⟨h0, h45, hsl⟩
 case' inl =>
  have hne : s.toList.isEmpty = true := by rw [toList_empty]; exact decide_eq_true h0
  obtain ⟨neg, hneg⟩ : ∃ neg : Bool, neg = false := ⟨_, rfl⟩
  obtain ⟨tt, htt⟩ : ∃ tt, tt = s := ⟨_, rfl⟩
  obtain ⟨N, hN⟩ : ∃ N, N = tt.size / 4 + 1 := ⟨_, rfl⟩
  have HNG := Hid.mk hneg
  have HS : Hid (Cut s tt neg ∧ tt.size ≤ s.size) := Hid.mk ⟨.inl ⟨hneg, by rw [htt], fun r e => by
   have := congrArg List.length e
   simp at this; omega⟩, by rw [htt]; exact Nat.le_refl _⟩
  have HNN := Hid.mk hN
  have htt20 : tt.size ≤ 50000000000 := by rw [htt]; exact hs
  have HSZ : Hid (s.size = tt.size) := Hid.mk (by rw [htt])
  subst htt
  clear hN h0 hneg
  go_enter Tryz.func198, Tryz.ntmps198
  go_wp2_with (at_make; refine make_digits _ rfl _ _ rfl _ _ N rfl rfl ?_ ?_ ?_ ?_)
  ·have := HNN.out; omega
  ·have := HNN.out; omega
  ·have := HNN.out; omega
 case' inr.inl =>
  have hne : s.toList.isEmpty = false := by rw [toList_empty]; exact decide_eq_false (by omega)
  obtain ⟨neg, hneg⟩ : ∃ neg : Bool, neg = false := ⟨_, rfl⟩
  obtain ⟨tt, htt⟩ : ∃ tt, tt = s := ⟨_, rfl⟩
  obtain ⟨N, hN⟩ : ∃ N, N = tt.size / 4 + 1 := ⟨_, rfl⟩
  have HNG := Hid.mk hneg
  have HS : Hid (Cut s tt neg ∧ tt.size ≤ s.size) := Hid.mk ⟨.inl ⟨hneg, by rw [htt], hsl⟩, by rw [htt]; exact Nat.le_refl _⟩
  have HNN := Hid.mk hN
  have htt20 : tt.size ≤ 50000000000 := by rw [htt]; exact hs
  have HSZ : Hid (s.size = tt.size) := Hid.mk (by rw [htt])
  subst htt
  clear hN hsl hneg
  go_enter Tryz.func198, Tryz.ntmps198
  go_wp2_with (at_make; refine make_digits _ rfl _ _ rfl _ _ N rfl rfl ?_ ?_ ?_ ?_)
  ·have := HNN.out; omega
  ·have := HNN.out; omega
  ·have := HNN.out; omega
 case' inr.inr =>
  have hne : s.toList.isEmpty = false := by rw [toList_empty]; exact decide_eq_false (by omega)
  obtain ⟨neg, hneg⟩ : ∃ neg : Bool, neg = true := ⟨_, rfl⟩
  obtain ⟨tt, htt⟩ : ∃ tt, tt = s.extract 1 s.size := ⟨_, rfl⟩
  have HTT := Hid.mk htt
  obtain ⟨N, hN⟩ : ∃ N, N = tt.size / 4 + 1 := ⟨_, rfl⟩
  have HNG := Hid.mk hneg
  have HS : Hid (Cut s tt neg ∧ tt.size ≤ s.size) := Hid.mk ⟨.inr ⟨hneg, by rw [htt]; exact hsl⟩, by rw [htt, ByteArray.size_extract]; omega⟩
  have HNN := Hid.mk hN
  have htt20 : tt.size ≤ 50000000000 := by have := HS.out.2; omega
  have HSZ : Hid (s.size - 1 = tt.size) := Hid.mk (by rw [htt, ByteArray.size_extract]; omega)
  clear htt hN hsl hneg
  go_enter Tryz.func198, Tryz.ntmps198
  go_wp2_with (at_make; rw [← HTT.out, HSZ.out]; refine make_digits _ rfl _ _ rfl _ _ N rfl rfl ?_ ?_ ?_ ?_)
  ·have := HNN.out; omega
  ·have := HNN.out; omega
  ·have := HNN.out; omega
 all_goals
  intro w1 hown hbel
  have hlt1 := hown.lt
  have hb0 : Below (w.heap.size + 1) W0 w1 := by rw [HW.out]; simpa using hbel
  have hw0 : W0.heap.size = w.heap.size + 1 := by rw [HW.out]; simp
  have HO := Hid.mk (And.intro hown hb0)
  clear hown hbel hb0
  go_wp2_with fail
  go_loopw [8, 9] (fun p i wr => ∃ (k pp : Nat) (zs : List Nat), k ≤ tt.size ∧ i = .int .i64 k ∧ 1 ≤ pp ∧ pp ≤ 1000 ∧ p = .int .i64 pp ∧ Hid (zs.length = N) ∧ Own wr (.slice (some ⟨w.heap.size + 1, 0, none⟩) N N) zs ∧ Below (w.heap.size + 1) W0 wr ∧ Hid (pp = 10 ^ (k % 4) ∧ Part tt.data.toList k zs)) (fun _ i _ => tt.size - (intOf i).toNat)
  case atStart => exact ⟨0, 1, _, Nat.zero_le _, rfl, by omega, by omega, rfl, Hid.mk List.length_replicate, HO.out.1, HO.out.2, Hid.mk ⟨rfl, Part.start _ _⟩⟩
  case round =>
   obtain ⟨k, pp, zs, hk, rfl, hp1, hp2, rfl, HZ, hown, hbel, HI⟩ := hrel
   have hwr := hbel.size
   have hltr := hown.lt
   have hbx : NBox wr w.heap.size (.bool false) (.slice none 0 0) := (NBox.new w (.bool false) (.slice none 0 0) rfl).below (by rw [← HW.out]; exact hbel) (by omega)
   have J := Hid.mk (And.intro hown (And.intro hbel hbx))
   by_cases hkn : k < tt.size
   ·obtain ⟨q, hq⟩ : ∃ q, q = tt.size - 1 - k := ⟨_, rfl⟩
    have hqi : (tt.size : Int) - 1 - (k : Int) = (q : Int) := by omega
    have hql : q < tt.size := by omega
    have hqli : (q : Int) < (tt.size : Int) := by omega
    obtain ⟨c, hc⟩ : ∃ c, c = tt[q]'hql := ⟨_, rfl⟩
    have hcg : tt.data.toList[tt.data.toList.length - 1 - k]? = some c := by
     have e : tt.data.toList.length = tt.size := by simp
     rw [e, ← hq, List.getElem?_eq_getElem (by rw [e]; exact hql), hc]
     rfl
    have HCG := Hid.mk hcg
    have hce : (tt[q]'hql).toNat = c.toNat := by rw [hc]
    clear hc hcg hq
    by_cases hd : IsDig c
    ·have d1 : 48 ≤ c.toNat := hd.1
     have d2 : c.toNat ≤ 57 := hd.2
     have e1 : decide ((c.toNat : Int) < 48) = false := decide_eq_false (by omega)
     have e2 : decide (57 < (c.toNat : Int)) = false := decide_eq_false (by omega)
     have e1' : decide (c.toNat < 48) = false := decide_eq_false (by omega)
     have e2' : decide (57 < c.toNat) = false := decide_eq_false (by omega)
     have HDG := Hid.mk hd
     obtain ⟨dd, hdd⟩ : ∃ dd, dd = c.toNat - 48 := ⟨_, rfl⟩
     have hdi : (c.toNat : Int) - 48 = (dd : Int) := by omega
     have hd9 : dd ≤ 9 := by omega
     obtain ⟨g, hg⟩ : ∃ g, g = k / 4 := ⟨_, rfl⟩
     have hgi : (k : Int) / 4 = (g : Int) := by omega
     have hgN : g < N := by have := HNN.out; omega
     have hgNi : (g : Int) < (N : Int) := by omega
     obtain ⟨x, hx⟩ : ∃ x, x = zs.getD g 0 := ⟨_, rfl⟩
     have c1 := hown.cell HZ.out g hgN
     have c2 := hown.frozen HZ.out g
     rw [← hx] at c1
     obtain ⟨pd, hpd⟩ : ∃ pd, pd = pp * dd := ⟨_, rfl⟩
     have hpdi : (pp : Int) * (dd : Int) = (pd : Int) := by rw [hpd]; exact (Int.natCast_mul pp dd).symm
     have hxp : x + pd < 10000 ∧ x < 10000 := by
      have h3 := HI.out.2.2.2.1
      rw [← HI.out.1, ← hg, ← hx] at h3
      have : pp * dd ≤ pp * 9 := Nat.mul_le_mul_left _ hd9
      omega
     obtain ⟨hx1, hx2⟩ := hxp
     have HX := Hid.mk (And.intro hx (And.intro hpd (And.intro hg hdd)))
     clear hd hdd hx hpd hg hown hbel hbx
     have HNX : Hid (Part tt.data.toList (k + 1) (zs.set g (x + pd)) ∧ (if pp = 1000 then 1 else pp * 10) = 10 ^ ((k + 1) % 4)) := Hid.mk (by
      obtain ⟨hx, hpd, hg, hdd⟩ := HX.out
      obtain ⟨hi1, hi2⟩ := HI.out
      have hl : tt.data.toList.length = tt.size := by simp
      have := hi2.next (by omega) (by have := HZ.out; have := HNN.out; omega) c HCG.out HDG.out
      rw [← hi1, ← hg, ← hdd, ← hx, ← hpd] at this
      refine ⟨this, ?_⟩
      exact pow_next hi1)
     by_cases hp10 : pp = 1000
     ·subst hp10
      go_wp2_with fail
      go_roundw
      case measure => simp [intOf]; omega
      case rel => exact ⟨k + 1, 1, zs.set g (x + pd), by omega, by go_num, by omega, by omega, rfl, Hid.mk (by rw [List.length_set]; exact HZ.out), J.out.1.stored_int HZ.out g _ (by rw [show (1000 : Int) * (dd : Int) = (pd : Int) from hpdi]; omega), J.out.2.1.setCell (by simp) _, Hid.mk ⟨HNX.out.2, HNX.out.1⟩⟩
     ·have hpn : ((pp : Int) * 10 == 10000) = false := beq_eq_false_iff_ne.2 (by omega)
      have hpp : pp ≤ 100 := le100 HI.out.1 hp10
      go_wp2_with fail
      go_roundw
      case measure => simp [intOf]; omega
      case rel =>
       have h9 := HNX.out.2
       rw [if_neg hp10] at h9
       exact ⟨k + 1, pp * 10, zs.set g (x + pd), by omega, by go_num, by omega, by omega, by go_num, Hid.mk (by rw [List.length_set]; exact HZ.out), J.out.1.stored_int HZ.out g _ (by omega), J.out.2.1.setCell (by simp) _, Hid.mk ⟨h9, HNX.out.1⟩⟩
    ·have HDG := Hid.mk hd
     obtain ⟨a1, a2, a3, a4⟩ := hbx.cells
     have a5 := hbx.put1 (.bool false)
     have hnd : ∃ c ∈ tt.data.toList, ¬ IsDig c := ⟨c, List.mem_of_getElem? HCG.out, hd⟩
     have hbw : Below w.heap.size w wr := Below.trans ((Below.refl _ _).alloc (Nat.le_refl _) _) ((by rw [← HW.out]; exact hbel : Below (w.heap.size + 1) (w.alloc (.cells #[.bool false, .slice none 0 0] 171)) wr).mono (by omega))
     have HND := Hid.mk (And.intro hnd hbw)
     clear hown hbel hbx hnd hbw hd
     by_cases hlo : c.toNat < 48
     ·have e1 : decide ((c.toNat : Int) < 48) = true := decide_eq_true (by omega)
      have e1' : decide (c.toNat < 48) = true := decide_eq_true (by omega)
      go_wp2_with fail
      refine bodyPost_ret (v := .tuple #[.agg #[.bool false, .slice none 0 0], .bool false]) ?_ rfl ?_
      ·obtain ⟨q1, q2, -, -⟩ := (J.out.2.2.put (.bool false) (.slice none 0 0)).cells
       (simp [results, Tryz.results198, go_sem, q1, q2]; done)
      ·exact ⟨_, _, rfl, NumOut.bad HS.out.1 HND.out.1 ((HND.out.2.setCell (by simp) _).setCell (by simp) _)⟩
     ·have e1 : decide ((c.toNat : Int) < 48) = false := decide_eq_false (by omega)
      have e2 : decide (57 < (c.toNat : Int)) = true := decide_eq_true (by have := HDG.out; unfold IsDig at this; omega)
      have e1' : decide (c.toNat < 48) = false := decide_eq_false (by omega)
      have e2' : decide (57 < c.toNat) = true := decide_eq_true (by have := HDG.out; unfold IsDig at this; omega)
      go_wp2_with fail
      refine bodyPost_ret (v := .tuple #[.agg #[.bool false, .slice none 0 0], .bool false]) ?_ rfl ?_
      ·obtain ⟨q1, q2, -, -⟩ := (J.out.2.2.put (.bool false) (.slice none 0 0)).cells
       (simp [results, Tryz.results198, go_sem, q1, q2]; done)
      ·exact ⟨_, _, rfl, NumOut.bad HS.out.1 HND.out.1 ((HND.out.2.setCell (by simp) _).setCell (by simp) _)⟩
   ·have hke : k = tt.size := by omega
    have HKE := Hid.mk hke
    clear hown hbel hbx hke
    go_wp2_with fail
    refine (made_at _ _ zs wr J.out.1 HI.out.2.1).mono ?_
    rintro e w2 ⟨r, rfl, hr, hb2, hmo⟩
    have HAT : Hid (AtB w.heap.size r) := Hid.mk (by
     obtain ⟨ao, n, cp, k, e1, b, e2⟩ := hmo
     simp only [Value.slice.injEq] at e1
     obtain ⟨rfl, rfl, rfl⟩ := e1
     rw [e2]
     exact AtB.at_ (by omega) _ _ _ _ _)
    clear hmo
    obtain ⟨zz, hzz⟩ : ∃ zz : Int, zz = (if neg then -(val zs : Int) else (val zs : Int)) := ⟨_, rfl⟩
    replace hr : IsN w2 r zz zs.length := by rw [hzz, HNG.out]; exact hr
    have HZZ := Hid.mk hzz
    clear hzz
    obtain ⟨nc, co, ecap, ws, rfl, -⟩ := id hr.parts
    have hb2s := hb2.size
    have BX := J.out.2.2.below hb2 J.out.2.2.lt
    have K := Hid.mk (And.intro hr (And.intro (J.out.2.1.trans (hb2.mono (by omega))) BX))
    clear hr hb2 BX
    obtain ⟨P, hP⟩ : ∃ P, P = w2.heap.size := ⟨_, rfl⟩
    have HP := Hid.mk hP
    go_wp2_with fail
    rw [← hP]
    clear hP
    have hzl : zs.length ≤ 50000000000 := by have := HZ.out; have := HNN.out; omega
    refine (text_any _ zz zs.length _ (K.out.1.below ((Below.refl _ _).alloc (Nat.le_refl _) _)) hzl).mono ?_
    rintro e w3 ⟨rfl, hb3⟩
    have hb3s := hb3.size
    simp at hb3s
    have BA := (NBox.new w2 (.bool nc) (.slice co ws.length ecap) HP.out).below hb3 (by simp; have := HP.out; omega)
    have BX := K.out.2.2.below ((Below.refl _ _).alloc (Nat.le_refl _) _) K.out.2.2.lt |>.below hb3 (by simp; have := K.out.2.2.lt; omega)
    obtain ⟨a1, a2, -, -⟩ := BA.cells
    obtain ⟨b1, b2, b3, b4⟩ := BX.cells
    have b5 := BX.put1 (.bool nc)
    have M := Hid.mk (And.intro BX (And.intro ((K.out.1.below ((Below.refl _ _).alloc (Nat.le_refl _) _)).below hb3) hb3))
    clear BA BX hb3
    obtain ⟨T, hT⟩ : ∃ T : ByteArray, T = ⟨(Lib.itoa zz).toArray⟩ := ⟨_, rfl⟩
    have HT := Hid.mk hT
    rw [← hT]
    clear hT
    go_wp2_with fail
    first
     | refine bodyPost_ret (v := .tuple #[.agg #[.bool nc, .slice co ws.length ecap], .bool (T.toList == s.toList)]) ?_ rfl ?_
     | refine bodyPost_ret (v := .tuple #[.agg #[.bool nc, .slice co ws.length ecap], .bool (T.toList == tt.toList)]) ?_ rfl ?_
    ·obtain ⟨q1, q2, -, -⟩ := (M.out.1.put (.bool nc) (.slice co ws.length ecap)).cells
     (simp [results, Tryz.results198, go_sem, q1, q2]; done)
    ·refine ⟨_, _, rfl, NumOut.good HS.out.1 (M.out.2.1.box M.out.1.ty (by decide) (.bool nc) (.slice co ws.length ecap)) ?_ ?_ ?_ (eqT HT.out) HAT.out⟩
     ·have := HZ.out; have := HNN.out; have := HS.out.2; omega
     ·have := HI.out.2.2.1
      rw [HKE.out, show tt.size = tt.data.toList.length from by simp, Nat.sub_self, List.drop_zero] at this
      rw [HZZ.out, this]
     ·have hbw : Below w.heap.size w w2 := Below.trans ((Below.refl _ _).alloc (Nat.le_refl _) _) ((by rw [← HW.out]; exact K.out.2.1 : Below (w.heap.size + 1) (w.alloc (.cells #[.bool false, .slice none 0 0] 171)) w2).mono (by omega))
      have hb4 : Below w.heap.size w w3 := (hbw.trans ((Below.refl _ _).alloc (by have := hbw.size; omega) _)).trans (M.out.2.2.mono (by simp; have := hbw.size; omega))
      exact (hb4.setCell (by simp) _).setCell (by simp) _
open Go.RowKit
def scells (ts : List (List UInt8)) : List Value := ts.map fun l => Value.string ⟨l.toArray⟩
def OwnS (B : Nat) (w : World) (v : Value) (ts : List (List UInt8)) : Prop := w.ownsRow B 9 1 v ts.length (scells ts)
theorem OwnS.nil (B : Nat) (w : World) : OwnS B w (.slice none 0 0) [] := World.ownsRow_nil _ _ _ _
theorem OwnS.below {B : Nat} {w w' : World} {v : Value} {ts : List (List UInt8)} (h : OwnS B w v ts) (hb : Below w.heap.size w w') : OwnS B w' v ts := by
 refine ⟨h.1, ?_⟩
 rcases h.2 with h3 | ⟨g, cap, cur, hv, hg, hh, r⟩
 ·exact .inl h3
 ·exact .inr ⟨g, cap, cur, hv, hg, by rw [hb.block g (Array.getElem?_eq_some_iff.1 hh).1]; exact hh, r⟩
theorem OwnS.shape {B : Nat} {w : World} {v : Value} {ts : List (List UInt8)} (h : OwnS B w v ts) : ∃ ao cap, v = .slice ao ts.length cap ∧ ts.length ≤ cap ∧ cap ≤ 9223372036854775807 ∧ (∀ i, i < ts.length → ∃ g, ao = some ⟨g, 0, none⟩ ∧ w.cell? ⟨g, i, none⟩ = some (.string ⟨(ts.getD i []).toArray⟩)) := by
 have h0 := h
 rcases h.2 with ⟨rfl, hn⟩ | ⟨g, cap, cur, rfl, hg, hh, r1, r2, r3, r4⟩
 ·rw [hn]; exact ⟨none, 0, rfl, Nat.le_refl _, by omega, fun i hi => by omega⟩
 ·refine ⟨_, cap, rfl, r1, by simpa [maxLen] using r2, fun i hi => ⟨g, rfl, ?_⟩⟩
  rw [World.ownsRow.cellAt h0 i (by omega)]
  simp [scells, List.getD, List.getElem?_eq_getElem hi]
theorem Tryz.info9 : (Tryz.prog.info? 9).map (fun i => (i.zero, i.size, i.bytes)) = some (some (.string ⟨#[]⟩), 1, 16) := by kernel_rfl
theorem append_str (w : World) {ops : Array Oper} {rest : List Oper} {o : Oper} {a : Act} {Q : Exit → Act → World → Prop} (hgd : o.guard = none) (s x : Operand)
 (ho : o.op = .call { callee := .builtin .append, args := #[s, x], argTypes := #[127, 127] }) (B : Nat) (v : Value) (ts : List (List UInt8)) (hs : a.eval s = v) (hown : OwnS B w v ts)
 (ad : Addr) (hx : a.eval x = .slice (some ad) 1 1) (t : List UInt8) (hc : w.cell? (ad.add 0) = some (.string ⟨t.toArray⟩)) (hl : ts.length ≤ 60000000000) (hB : B ≤ w.heap.size)
 (hK : ∀ v' w', OwnS B w' v' (ts ++ [t]) → w.grownBy w' v.ownBlock → wpList Tryz.prog ops Q rest (a.put o.dst v') w') : wpList Tryz.prog ops Q (o :: rest) a w := by
 obtain ⟨i, hi, hz0, hz1, hz2⟩ := info_parts Tryz.info9
 refine wpList_append_own w hgd s x 127 ho B 9 i (.string ⟨#[]⟩) 1 16 Tryz.underlying127 hi hz0 hz1 hz2 rfl (by decide) v ts.length (scells ts) hs hown ad 1 1 [.string ⟨t.toArray⟩] hx rfl ?_ ?_ ?_ ?_ hB ?_
 ·intro j u hj
  match j, hj with
  | 0, hj => simp at hj; subst hj; exact hc
 ·intro u hu; simp at hu; subst hu; rfl
 ·unfold maxLen; omega
 ·omega
 ·intro v' w' h1 h2 _
  refine hK v' w' ?_ h2
  unfold OwnS
  rw [show scells (ts ++ [t]) = scells ts ++ [.string ⟨t.toArray⟩] from by simp [scells], List.length_append, List.length_singleton]
  exact h1
def cutL (c : UInt8) : List UInt8 → List (List UInt8)
 | [] => [[]]
 | x :: r => if x = c then [] :: cutL c r else match cutL c r with
   | [] => [[x]]
   | h :: t => (x :: h) :: t
theorem cutL_ne (c : UInt8) (l : List UInt8) : cutL c l ≠ [] := by
 cases l with
 | nil => simp [cutL]
 | cons x r =>
   unfold cutL
   split
   ·simp
   ·split <;> simp
def glue (o : List (List UInt8)) (t : List UInt8) : List (List UInt8) → List (List UInt8)
 | [] => o ++ [t]
 | h :: r => o ++ ((t ++ h) :: r)
theorem glue_cut {o : List (List UInt8)} {t : List UInt8} {c : UInt8} (r : List UInt8) : glue o t (cutL c (c :: r)) = glue (o ++ [t]) [] (cutL c r) := by
 have h1 : cutL c (c :: r) = [] :: cutL c r := by rw [cutL, if_pos rfl]
 rw [h1]
 cases h : cutL c r with
 | nil => exact absurd h (cutL_ne c r)
 | cons a b => simp [glue]
theorem glue_go {o : List (List UInt8)} {t : List UInt8} {c x : UInt8} (hx : x ≠ c) (r : List UInt8) : glue o t (cutL c (x :: r)) = glue o (t ++ [x]) (cutL c r) := by
 rw [cutL, if_neg hx]
 cases h : cutL c r with
 | nil => exact absurd h (cutL_ne c r)
 | cons a b => simp [glue]
theorem cut_len (c : UInt8) (l : List UInt8) : (cutL c l).length ≤ l.length + 1 := by
 induction l with
 | nil => simp [cutL]
 | cons x r ih =>
   unfold cutL
   split
   ·simp; omega
   ·cases h : cutL c r with
    | nil => simp
    | cons a b => rw [h] at ih; simp at ih ⊢; omega
theorem str_one (s : ByteArray) (k : Nat) (hk : k < s.size) : s.extract k (k + 1) = ⟨[s[k]'hk].toArray⟩ := by
 apply ByteArray.ext
 have h3 : (s.extract k (k + 1)).data.toList = [s[k]'hk] := by
  rw [ByteArray.data_extract, Array.toList_extract, List.extract_eq_take_drop, Nat.add_sub_cancel_left, List.drop_eq_getElem_cons (show k < s.data.toList.length from by simpa using hk)]
  rfl
 rw [← Array.toArray_toList (xs := (s.extract k (k + 1)).data), h3]
def CutOut (c : UInt8) (s : ByteArray) (w w' : World) (v : Value) : Prop := OwnS w.heap.size w' v (cutL c s.data.toList) ∧ Below w.heap.size w w'
set_option maxRecDepth 100000 in
set_option maxHeartbeats 4000000 in
theorem cut_any (s : ByteArray) (c : UInt8) (w : World) (hs : s.size ≤ 50000000000) :
 Calls Tryz.prog 196 #[.string s, .int .u8 (c.toNat : Nat)] w fun e w' => ∃ v, e = .returned v ∧ CutOut c s w w' v := by
 go_enter Tryz.func196, Tryz.ntmps196
 go_wp2_with fail
 go_loopw [5, 6, 7] (fun out t i wr => ∃ (k : Nat) (o : List (List UInt8)) (tt : List UInt8), k ≤ s.size ∧ i = .int .i64 k ∧ t = .string ⟨tt.toArray⟩ ∧ tt.length ≤ k ∧ o.length ≤ k ∧ OwnS w.heap.size wr out o ∧ Below w.heap.size w wr ∧ Hid (glue o tt (cutL c (s.data.toList.drop k)) = cutL c s.data.toList)) (fun _ _ i _ => s.size - (intOf i).toNat)
 case atStart =>
  refine ⟨0, [], [], Nat.zero_le _, rfl, rfl, by simp, by simp, OwnS.nil _ _, Below.refl _ _, Hid.mk ?_⟩
  rw [List.drop_zero]
  cases h : cutL c s.data.toList with
  | nil => exact absurd h (cutL_ne _ _)
  | cons a b => simp [glue]
 case round =>
  obtain ⟨k, o, tt, hk, rfl, rfl, htl, hol, hown, hbel, HI⟩ := hrel
  have hwr := hbel.size
  have K := Hid.mk (And.intro hown hbel)
  clear hown hbel
  by_cases hkn : k < s.size
  ·obtain ⟨x, hx⟩ : ∃ x, x = s[k]'hkn := ⟨_, rfl⟩
   have hdr : s.data.toList.drop k = x :: s.data.toList.drop (k + 1) := by
    rw [List.drop_eq_getElem_cons (show k < s.data.toList.length from by simpa using hkn), hx]
    rfl
   have hxe : (s[k]'hkn).toNat = x.toNat := by rw [hx]
   have hex : s.extract k (k + 1) = ⟨[x].toArray⟩ := by rw [hx]; exact str_one s k hkn
   have HDR := Hid.mk hdr
   have HEX := Hid.mk hex
   have hki : (k : Int) < (s.size : Int) := by omega
   clear hx hdr hex
   by_cases hc : x = c
   ·have hb : ((x.toNat : Int) == (c.toNat : Int)) = true := beq_iff_eq.2 (by rw [hc])
    have HC := Hid.mk hc
    clear hc
    go_wp2_with (at_builtin; refine append_str _ rfl _ _ rfl w.heap.size _ o rfl ?_ ⟨_, 0, none⟩ rfl tt ?_ ?_ ?_ ?_)
    ·exact World.ownsRow.alloc K.out.1 _
    ·simp [Addr.add]
    ·omega
    ·simp; omega
    intro v' w' q1 q2
    have hbel2 : Below w.heap.size w w' := (K.out.2.alloc hwr _).grown q2 (by simp; omega) (fun j hj => (World.ownsRow.lt K.out.1 j hj).1)
    have K2 := Hid.mk (And.intro q1 hbel2)
    clear q1 q2 hbel2
    go_wp2_with fail
    go_roundw
    case measure => simp [intOf]; omega
    case rel =>
     refine ⟨k + 1, o ++ [tt], [], by omega, by go_num, rfl, by simp, by simp; omega, K2.out.1, K2.out.2, Hid.mk ?_⟩
     have := HI.out
     rw [HDR.out, HC.out, glue_cut] at this
     exact this
   ·have hb : ((x.toNat : Int) == (c.toNat : Int)) = false := beq_eq_false_iff_ne.2 (fun e => hc (UInt8.toNat_inj.1 (by omega)))
    have HC := Hid.mk hc
    clear hc
    go_wp2_with fail
    go_roundw
    case measure => simp [intOf]; omega
    case rel =>
     refine ⟨k + 1, o, tt ++ [x], by omega, by go_num, ?_, by simp; omega, by omega, K.out.1, K.out.2, Hid.mk ?_⟩
     ·rw [HEX.out]; exact rval_str (rstr_app tt [x])
     ·have := HI.out
      rw [HDR.out, glue_go HC.out] at this
      exact this
  ·have hke : k = s.size := by omega
   have HKE := Hid.mk hke
   clear hke
   go_wp2_with (at_builtin; refine append_str _ rfl _ _ rfl w.heap.size _ o rfl ?_ ⟨_, 0, none⟩ rfl tt ?_ ?_ ?_ ?_)
   ·exact World.ownsRow.alloc K.out.1 _
   ·simp [Addr.add]
   ·omega
   ·simp; omega
   intro v' w' q1 q2
   have hbel2 : Below w.heap.size w w' := (K.out.2.alloc hwr _).grown q2 (by simp; omega) (fun j hj => (World.ownsRow.lt K.out.1 j hj).1)
   have K2 := Hid.mk (And.intro q1 hbel2)
   clear q1 q2 hbel2
   go_wp2_with fail
   go_ret
   refine ⟨_, rfl, ?_, K2.out.2⟩
   have := HI.out
   rw [HKE.out, List.drop_of_length_le (by simp)] at this
   simp only [cutL, glue, List.append_nil] at this
   rw [← this]
   exact K2.out.1
open Go.RowKit
def OkSide (l : List UInt8) : Prop := l ≠ [] ∧ l.length ≤ 2 ∧ (∀ c ∈ l, IsDig c) ∧ (l.length = 2 → ∀ d r, l = d :: r → d.toNat ≠ 48)
def SideR (l : List UInt8) (i : Int) : Prop := (i = -1 ∧ ¬ OkSide l) ∨ (i = (dval l : Int) ∧ OkSide l ∧ i ≤ 99)
theorem dval_take (l : List UInt8) (k : Nat) (hk : k < l.length) : dval (l.take (k + 1)) = 10 * dval (l.take k) + (l[k].toNat - 48) := by
 rw [List.take_succ_eq_append_getElem hk, dval_snoc]
set_option maxRecDepth 100000 in
set_option maxHeartbeats 4000000 in
theorem side_ref (s : ByteArray) (w : World) (hmax : s.size ≤ 50000000000) :
 Calls Tryz.prog 197 #[.string s] w fun e w' => ∃ i, e = .returned (.int .i64 i) ∧ SideR s.data.toList i ∧ Below w.heap.size w w' := by
 have hlen : s.data.toList.length = s.size := by simp
 have HL := Hid.mk hlen
 clear hlen
 by_cases h0 : s.size = 0
 ·have hi : (s.size : Int) < 1 := by omega
  have H0 := Hid.mk h0
  clear h0
  go_enter Tryz.func197, Tryz.ntmps197
  go_wp2_with fail
  go_ret
  exact ⟨_, rfl, .inl ⟨rfl, fun h => h.1 (List.eq_nil_of_length_eq_zero (by have := HL.out; have := H0.out; omega))⟩, Below.refl _ _⟩
 ·by_cases h2 : 2 < s.size
  ·have hi : (2 : Int) < (s.size : Int) := by omega
   have hi2 : decide ((s.size : Int) < 1) = false := decide_eq_false (by omega)
   have H2 := Hid.mk h2
   clear h0
   go_enter Tryz.func197, Tryz.ntmps197
   go_wp2_with fail
   go_ret
   exact ⟨_, rfl, .inl ⟨rfl, fun h => by have := h.2.1; have := HL.out; have := H2.out; omega⟩, Below.refl _ _⟩
  ·have hpos : 0 < s.size := by omega
   have hi1 : decide ((s.size : Int) < 1) = false := decide_eq_false (by omega)
   have hi2 : decide ((2 : Int) < (s.size : Int)) = false := decide_eq_false (by omega)
   have hs2 : s.size ≤ 2 := by omega
   have hsi : (s.size : Int) ≤ 2 := by omega
   obtain ⟨d, hd⟩ : ∃ d, d = s[0]'hpos := ⟨_, rfl⟩
   have hde : (s[0]'hpos).toNat = d.toNat := by rw [hd]
   have hlist : ∃ r, s.data.toList = d :: r := ⟨_, by rw [hd]; exact head_tail s hpos⟩
   have HLI := Hid.mk hlist
   clear h0 h2 hd hlist
   by_cases hz : s.size = 2 ∧ d.toNat = 48
   ·have e1 : ((s.size : Int) == 2) = true := beq_iff_eq.2 (by omega)
    have e2 : ((d.toNat : Int) == 48) = true := beq_iff_eq.2 (by omega)
    have HZ := Hid.mk hz
    clear hz
    go_enter Tryz.func197, Tryz.ntmps197
    go_wp2_with fail
    try go_quiet (fail)
    try go_wp2_with fail
    go_ret
    refine ⟨_, rfl, .inl ⟨rfl, fun h => ?_⟩, ?_⟩
    ·obtain ⟨r, hr⟩ := HLI.out
     exact h.2.2.2 (by have := HL.out; have := HZ.out; omega) d r hr HZ.out.2
    ·first | exact Below.refl _ _ | exact below_drewN (Below.refl _ _) _
   ·have hsz : s.size = 1 ∨ (s.size = 2 ∧ ((d.toNat : Int) == 48) = false) := by
     by_cases h1 : s.size = 1
     ·exact .inl h1
     ·exact .inr ⟨by omega, beq_eq_false_iff_ne.2 (by omega)⟩
    have HZ := Hid.mk hz
    clear hz
    rcases hsz with h1 | ⟨h1, e2⟩
    case' inl => have e1 : ((s.size : Int) == 2) = false := beq_eq_false_iff_ne.2 (by omega)
    case' inr => have e1 : ((s.size : Int) == 2) = true := beq_iff_eq.2 (by omega)
    all_goals
     have H1 := Hid.mk h1
     clear h1
     go_enter Tryz.func197, Tryz.ntmps197
     go_wp2_with fail
     go_loop [3, 4] (fun n i => ∃ (k nn : Nat), k ≤ s.size ∧ i = .int .i64 k ∧ n = .int .i64 nn ∧ nn ≤ 99 ∧ (k ≤ 1 → nn ≤ 9) ∧ (k = 0 → nn = 0) ∧ Hid (nn = dval (s.data.toList.take k) ∧ ∀ c ∈ s.data.toList.take k, IsDig c)) (fun _ i => s.size - (intOf i).toNat)
     case atStart => exact ⟨0, 0, Nat.zero_le _, rfl, rfl, by omega, by omega, fun _ => rfl, Hid.mk ⟨rfl, fun c hc => by simp at hc⟩⟩
     case round =>
      obtain ⟨k, nn, hk, rfl, rfl, hn99, hn9, hn0, HI⟩ := hrel
      by_cases hks : k < s.size
      ·obtain ⟨x, hx⟩ : ∃ x, x = s[k]'hks := ⟨_, rfl⟩
       have hxe : (s[k]'hks).toNat = x.toNat := by rw [hx]
       have hmem : x ∈ s.data.toList := by rw [hx]; exact List.mem_of_getElem (i := k) (h := by simpa using hks) rfl
       have hnx : dval (s.data.toList.take (k + 1)) = 10 * dval (s.data.toList.take k) + (x.toNat - 48) := by
        rw [dval_take _ k (by simpa using hks), hx]; rfl
       have htk : s.data.toList.take (k + 1) = s.data.toList.take k ++ [x] := by
        rw [List.take_succ_eq_append_getElem (show k < s.data.toList.length from by simpa using hks), hx]; rfl
       have HX := Hid.mk (And.intro hmem (And.intro hnx htk))
       have hki : (k : Int) < (s.size : Int) := by omega
       clear hx hmem hnx htk
       by_cases hd1 : x.toNat < 48
       ·have f1 : decide ((x.toNat : Int) < 48) = true := decide_eq_true (by omega)
        have f2 : decide (x.toNat < 48) = true := decide_eq_true (by omega)
        have HD := Hid.mk hd1
        clear hd1
        go_wp2_with fail
        go_ret
        exact ⟨_, rfl, .inl ⟨rfl, fun h => by have := (h.2.2.1 x HX.out.1).1; have := HD.out; omega⟩, Below.refl _ _⟩
       ·have f1 : decide ((x.toNat : Int) < 48) = false := decide_eq_false (by omega)
        have f2 : decide (x.toNat < 48) = false := decide_eq_false (by omega)
        by_cases hd2 : 57 < x.toNat
        ·have f3 : decide (57 < (x.toNat : Int)) = true := decide_eq_true (by omega)
         have f4 : decide (57 < x.toNat) = true := decide_eq_true (by omega)
         have HD := Hid.mk hd2
         clear hd1 hd2
         go_wp2_with fail
         go_ret
         exact ⟨_, rfl, .inl ⟨rfl, fun h => by have := (h.2.2.1 x HX.out.1).2; have := HD.out; omega⟩, Below.refl _ _⟩
        ·have f3 : decide (57 < (x.toNat : Int)) = false := decide_eq_false (by omega)
         have f4 : decide (57 < x.toNat) = false := decide_eq_false (by omega)
         have d1 : 48 ≤ x.toNat := by omega
         have d2 : x.toNat ≤ 57 := by omega
         have hk1 : nn ≤ 9 := hn9 (by omega)
         clear hd1 hd2
         go_wp2_with fail
         go_round
         case measure => simp [intOf]; omega
         case rel =>
          refine ⟨k + 1, 10 * nn + (x.toNat - 48), by omega, by go_num, by go_num, by omega, ?_, by omega, Hid.mk ⟨?_, ?_⟩⟩
          ·intro h
           have := hn0 (by omega)
           omega
          ·rw [HX.out.2.1, HI.out.1]
          ·rw [HX.out.2.2]
           intro c hc
           rcases List.mem_append.1 hc with hc | hc
           ·exact HI.out.2 c hc
           ·rw [List.mem_singleton] at hc; rw [hc]; exact ⟨d1, d2⟩
      ·have hd0 : decide (k < s.size) = false := decide_eq_false hks
       have hd1 : decide ((k : Int) < (s.size : Int)) = false := decide_eq_false (by omega)
       have hke : k = s.size := by omega
       have HKE := Hid.mk hke
       clear hke hks
       go_wp2_with fail
       go_ret
       have h1 := HI.out
       rw [HKE.out, List.take_of_length_le (by simp)] at h1
       refine ⟨_, rfl, .inr ⟨by rw [h1.1], ⟨?_, by have := HL.out; omega, h1.2, ?_⟩, by omega⟩, Below.refl _ _⟩
       ·intro e
        have := HL.out
        rw [e] at this
        simp at this
        omega
       ·intro h2 d' r' he hd
        obtain ⟨r, hr⟩ := HLI.out
        rw [he] at hr
        injection hr with hr _
        rw [hr] at hd
        exact HZ.out ⟨by have := HL.out; omega, hd⟩
end Go.Proofs.YtfjbijpagaipnabGreatDoor.R
