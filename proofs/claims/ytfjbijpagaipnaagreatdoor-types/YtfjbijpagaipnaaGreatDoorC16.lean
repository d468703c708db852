import Derived.Test.YtfjbijpagaipnaaGreatDoorC15
namespace Go.Proofs.YtfjbijpagaipnaaGreatDoor.R
open Go.RowKit
def Pre (v v' : Value) : Prop := ∃ ao n cap k, v = .slice ao n cap ∧ v' = .slice ao k cap
def MadeOf (v r : Value) : Prop := ∃ ao n cap k, v = .slice ao n cap ∧ ∃ b, r = .agg #[.bool b, .slice ao k cap]
theorem Pre.of {v : Value} {ao : Option Addr} {k cap : Nat} (h : Pre v (.slice ao k cap)) : ∀ b, MadeOf v (.agg #[.bool b, .slice ao k cap]) := by
  obtain ⟨ao', n, cap', k', h1, h2⟩ := h
  simp only [Value.slice.injEq] at h2
  obtain ⟨rfl, rfl, rfl⟩ := h2
  exact fun b => ⟨ao, n, cap, k, h1, b, rfl⟩
def AtB (B : Nat) (v : Value) : Prop := ∀ x g o s n cap, v = .agg #[x, .slice (some ⟨g, o, s⟩) n cap] → B ≤ g
theorem AtB.none (B : Nat) (x : Value) (n cap : Nat) : AtB B (.agg #[x, .slice none n cap]) := by
  intro y g o s m c h
  simp at h
theorem AtB.mono {B B' : Nat} {v : Value} (h : AtB B v) (hB : B' ≤ B) : AtB B' v := fun x g o s n cap e => Nat.le_trans hB (h x g o s n cap e)
theorem AtB.at_ {B g : Nat} (hg : B ≤ g) (x : Value) (o : Nat) (s : Option Nat) (n cap : Nat) : AtB B (.agg #[x, .slice (some ⟨g, o, s⟩) n cap]) := by
  intro y g' o' s' m c h
  simp only [Value.agg.injEq, Array.mk.injEq, List.cons.injEq, Value.slice.injEq, Option.some.injEq, Addr.mk.injEq, and_true] at h
  omega
set_option maxHeartbeats 400000 in
theorem plain_at (v : Value) (xs : List Nat) (w : World) (h : Own w v xs) (lo : Lo xs) :
    Calls Tryz.prog 222 #[v] w fun e w' => (∃ v', e = .returned v' ∧ TrimOut v xs v' ∧ Pre v v') ∧ w' = w := by
  obtain ⟨ao, cap, rfl, hc, hm, hcell, hnil, _⟩ := h.open_
  have HH := Hid.mk h
  clear h
  have HL := Hid.mk lo
  clear lo
  go_enter Tryz.func222, Tryz.ntmps222
  go_wp2
  go_loop [3] (fun n => ∃ k : Nat, k ≤ xs.length ∧ n = .int .i64 k ∧ ∀ x ∈ xs.drop k, x = 0) (fun n => (intOf n).toNat)
  case atStart => exact ⟨xs.length, Nat.le_refl _, rfl, by simp⟩
  case round =>
    obtain ⟨k, hk, rfl, hz⟩ := hrel
    by_cases h0 : k = 0
    · subst h0
      go_wp2
      go_ret
      have T := trim_spec HL.out 0 (Nat.zero_le _) hz (.inl rfl)
      exact ⟨⟨_, rfl, ⟨_, T.1, T.2.1, by omega, fun W hW => hW.cut 0 (Nat.zero_le _)⟩, ⟨_, _, _, _, rfl, rfl⟩⟩, rfl⟩
    · obtain ⟨b, rfl, hb⟩ := hcell (k - 1) (by omega)
      obtain ⟨x, hx⟩ : ∃ x, x = xs.getD (k - 1) 0 := ⟨_, rfl⟩
      rw [← hx] at hb
      clear hcell
      have HX := Hid.mk hx
      clear hx
      go_wp2
      · have hx0 : ((x : Int) == 0) = true := by assumption
        have hx1 : x = 0 := by simpa using hx0
        go_round
        case rel =>
          refine ⟨k - 1, by omega, by go_num, fun y hy => ?_⟩
          rw [drop_getD xs (k - 1) (by omega), ← HX.out, show k - 1 + 1 = k from by omega] at hy
          rcases List.mem_cons.1 hy with hy | hy
          · omega
          · exact hz y hy
        case measure => simp [intOf]; omega
      · have hx0 : ((x : Int) == 0) = false := by assumption
        have hx1 : x ≠ 0 := by simpa using hx0
        go_ret
        have T := trim_spec HL.out k hk hz (.inr (by rw [← HX.out]; omega))
        exact ⟨⟨_, rfl, ⟨_, T.1, T.2.1, by omega, fun W hW => hW.cut k hk⟩, ⟨_, _, _, _, rfl, rfl⟩⟩, rfl⟩
set_option maxRecDepth 100000 in
theorem made_at (neg : Bool) (v : Value) (xs : List Nat) (w : World) (hv : Own w v xs) (lx : Lo xs) :
    Calls Tryz.prog 204 #[.bool neg, v] w fun e w' => ∃ r, e = .returned r ∧ IsN w' r (if neg then -(val xs : Int) else (val xs : Int)) xs.length ∧ Below w.heap.size w w' ∧ MadeOf v r := by
  have H := Hid.mk (And.intro hv lx)
  clear hv lx
  go_enter Tryz.func204, Tryz.ntmps204
  go_wp2_with fail
  refine (plain_at v xs _ (H.out.1.below ((Below.refl _ _).alloc (Nat.le_refl _) _)) H.out.2).mono ?_
  rintro e w' ⟨⟨u, rfl, hu, hpre⟩, rfl⟩
  obtain ⟨ys, h1, h2, h3, h4⟩ := hu
  obtain ⟨ao, cap, rfl, hc, hm, -⟩ := (h4 _ H.out.1).open_
  have HP := Hid.mk hpre.of
  clear hpre
  have K := Hid.mk (And.intro h1 (And.intro h2 (And.intro h3 h4)))
  clear h1 h2 h4
  have fin : ∀ (b : Bool) (W : World), Below w.heap.size w W → (b = true → ys ≠ []) → IsN W (.agg #[.bool b, .slice ao ys.length cap]) (if b then -(val xs : Int) else (val xs : Int)) xs.length := by
    intro b W hb hne
    obtain ⟨k1, k2, k3, k4⟩ := K.out
    exact ⟨b, _, ys, rfl, (k4 _ H.out.1).below hb, k1, hne, by rw [k2], k3⟩
  have HF := Hid.mk fin
  clear fin
  cases neg
  · go_wp2_with fail
    refine bodyPost_ret (v := .agg #[.bool false, .slice ao ys.length cap]) (by simp [results, Tryz.results204, go_sem]) rfl ?_
    exact ⟨_, rfl, HF.out false _ ((Below.refl _ _).alloc (Nat.le_refl _) _) (fun h => by cases h), (Below.refl _ _).alloc (Nat.le_refl _) _, HP.out _⟩
  · by_cases hy : 0 < ys.length
    · go_wp2_with fail
      refine bodyPost_ret (v := .agg #[.bool true, .slice ao ys.length cap]) (by simp [results, Tryz.results204, go_sem]) rfl ?_
      exact ⟨_, rfl, HF.out true _ ((Below.refl _ _).alloc (Nat.le_refl _) _) (fun _ e => by rw [e] at hy; simp at hy), (Below.refl _ _).alloc (Nat.le_refl _) _, HP.out _⟩
    · have hy' : decide (0 < ys.length) = false := decide_eq_false hy
      have hy0 : ys = [] := List.eq_nil_of_length_eq_zero (by omega)
      have H0 := Hid.mk hy0
      clear hy0
      go_wp2_with fail
      refine bodyPost_ret (v := .agg #[.bool false, .slice ao ys.length cap]) (by simp [results, Tryz.results204, go_sem]) rfl ?_
      have h0 : val xs = 0 := by rw [← K.out.2.1, H0.out]; rfl
      have := HF.out false (w.alloc (.cells #[.bool false, .slice ao ys.length cap] 138)) ((Below.refl _ _).alloc (Nat.le_refl _) _) (fun h => by cases h)
      refine ⟨_, rfl, ?_, (Below.refl _ _).alloc (Nat.le_refl _) _, HP.out _⟩
      rw [h0] at this ⊢
      exact this
end Go.Proofs.YtfjbijpagaipnaaGreatDoor.R
namespace Go.Proofs.YtfjbijpagaipnaaGreatDoor.R
open Go.RowKit
def NumOut (s : ByteArray) (w w' : World) (r : Value) (b : Bool) : Prop := (∃ z, IsN w' r z (s.size + 1) ∧ (b = true → Says s.data.toList z) ∧ (b = false → ∀ z, ¬ Says s.data.toList z)) ∧ Below w.heap.size w w' ∧ AtB w.heap.size r
def Cut (s tt : ByteArray) (neg : Bool) : Prop := (neg = false ∧ s.data.toList = tt.data.toList ∧ ∀ r, s.data.toList ≠ 45 :: r) ∨ (neg = true ∧ s.data.toList = 45 :: tt.data.toList)
theorem Cut.says {s tt : ByteArray} {neg : Bool} (h : Cut s tt neg) {z : Int} (hz : Says s.data.toList z) : (∀ c ∈ tt.data.toList, IsDig c) ∧ z = if neg then -(dval tt.data.toList : Int) else (dval tt.data.toList : Int) := by
  rcases h with ⟨rfl, h1, h2⟩ | ⟨rfl, h1⟩
  · have := hz.pos h2
    rw [h1] at this
    simpa using this
  · rw [h1] at hz
    simpa using hz.neg
theorem NumOut.bad {s tt : ByteArray} {neg : Bool} {w W : World} (hc : Cut s tt neg) (hnd : ∃ c ∈ tt.data.toList, ¬ IsDig c) (hb : Below w.heap.size w W) : NumOut s w W (.agg #[.bool false, .slice none 0 0]) false := by
  refine ⟨⟨0, ⟨false, _, [], rfl, Own.nil _, ⟨Lo_nil, .inl rfl⟩, by simp, by simp [val], by simp⟩, (fun h => by cases h), fun _ z hz => ?_⟩, hb, AtB.none _ _ _ _⟩
  obtain ⟨c, hm, hd⟩ := hnd
  exact hd ((hc.says hz).1 c hm)
theorem NumOut.good {s tt : ByteArray} {neg b : Bool} {w W : World} {r : Value} {z : Int} {L : Nat} (hc : Cut s tt neg) (hn : IsN W r z L) (hL : L ≤ s.size + 1) (hz : z = if neg then -(dval tt.data.toList : Int) else (dval tt.data.toList : Int)) (hb : Below w.heap.size w W) (h : b = true ↔ s.data.toList = Lib.itoa z) (hat : AtB w.heap.size r) : NumOut s w W r b := by
  refine ⟨⟨z, hn.mono hL, h.1, fun hf z' hz' => ?_⟩, hb, hat⟩
  have e : z' = z := by rw [hz, (hc.says hz').2]
  rw [e] at hz'
  rw [h.2 hz'] at hf
  cases hf
theorem eqT {T s : ByteArray} {l : List UInt8} (h : T = ⟨l.toArray⟩) : (T.toList == s.toList) = true ↔ s.data.toList = l := by
  rw [beq_iff_eq, ByteArray.toList_eq, ByteArray.toList_eq, h]
  exact eq_comm
theorem head_tail (s : ByteArray) (h0 : 0 < s.size) : s.data.toList = (s[0]'h0) :: (s.extract 1 s.size).data.toList := by
  rw [ByteArray.data_extract, Array.toList_extract, List.extract_eq_take_drop]
  cases s with
  | mk d =>
    cases d with
    | mk l =>
      cases l with
      | nil => simp [ByteArray.size] at h0
      | cons c r =>
        simp only [ByteArray.size, List.size_toArray, List.length_cons, List.drop_succ_cons, List.drop_zero, Nat.add_sub_cancel, List.take_length]
        rfl
theorem pow_next {k pp : Nat} (h : pp = 10 ^ (k % 4)) : (if pp = 1000 then 1 else pp * 10) = 10 ^ ((k + 1) % 4) := by
  have hq : k % 4 = 0 ∨ k % 4 = 1 ∨ k % 4 = 2 ∨ k % 4 = 3 := by omega
  rcases hq with e | e | e | e
  · rw [h, e, show (k + 1) % 4 = 1 from by omega]; decide
  · rw [h, e, show (k + 1) % 4 = 2 from by omega]; decide
  · rw [h, e, show (k + 1) % 4 = 3 from by omega]; decide
  · rw [h, e, show (k + 1) % 4 = 0 from by omega]; decide
theorem le100 {k pp : Nat} (h : pp = 10 ^ (k % 4)) (hn : ¬ pp = 1000) : pp ≤ 100 := by
  have hq : k % 4 = 0 ∨ k % 4 = 1 ∨ k % 4 = 2 ∨ k % 4 = 3 := by omega
  rcases hq with e | e | e | e <;> rw [e] at h <;> omega
set_option maxRecDepth 100000 in
set_option maxHeartbeats 4000000 in
theorem number_any (s : ByteArray) (w : World) (hs : s.size ≤ 50000000000) :
    Calls Tryz.prog 161 #[.string s] w fun e w' => ∃ r b, e = .returned (.tuple #[r, .bool b]) ∧ NumOut s w w' r b := by
  obtain ⟨W0, hW0⟩ : ∃ W0, W0 = w.alloc (.cells #[.bool false, .slice none 0 0] 138) := ⟨_, rfl⟩
  have HW := Hid.mk hW0
  clear hW0
  have hcase : s.size = 0 ∨ (∃ h0 : 0 < s.size, (((s[0]'h0).toNat : Int) == 45) = false ∧ ∀ r, s.data.toList ≠ 45 :: r) ∨ (∃ h0 : 0 < s.size, (((s[0]'h0).toNat : Int) == 45) = true ∧ s.data.toList = 45 :: (s.extract 1 s.size).data.toList) := by
    rcases Nat.eq_zero_or_pos s.size with h0 | h0
    · exact .inl h0
    · by_cases h45 : (s[0]'h0) = 45
      · refine .inr (.inr ⟨h0, by rw [h45]; rfl, ?_⟩)
        rw [head_tail s h0, h45]
      · refine .inr (.inl ⟨h0, beq_eq_false_iff_ne.2 (fun e => h45 (UInt8.toNat_inj.1 (by have : ((s[0]'h0).toNat : Int) = ((45 : UInt8).toNat : Int) := e; omega))), fun r e => h45 ?_⟩)
        rw [head_tail s h0] at e
        injection e
  rcases hcase with h0 | ⟨h0, h45, hsl⟩ | ⟨h0, h45, hsl⟩
  case' inl =>
    have hne : s.toList.isEmpty = true := by rw [toList_empty]; exact decide_eq_true h0
    obtain ⟨neg, hneg⟩ : ∃ neg : Bool, neg = false := ⟨_, rfl⟩
    obtain ⟨tt, htt⟩ : ∃ tt, tt = s := ⟨_, rfl⟩
    obtain ⟨N, hN⟩ : ∃ N, N = tt.size / 4 + 1 := ⟨_, rfl⟩
    have HNG := Hid.mk hneg
    have HS : Hid (Cut s tt neg ∧ tt.size ≤ s.size) := Hid.mk ⟨.inl ⟨hneg, by rw [htt], fun r e => by
      have := congrArg List.length e
      simp at this; omega⟩, by rw [htt]; exact Nat.le_refl _⟩
    have HNN := Hid.mk hN
    have htt20 : tt.size ≤ 50000000000 := by rw [htt]; exact hs
    have HSZ : Hid (s.size = tt.size) := Hid.mk (by rw [htt])
    subst htt
    clear hN h0 hneg
    go_enter Tryz.func161, Tryz.ntmps161
    go_wp2_with (at_make; refine make_digits _ rfl _ _ rfl _ _ N rfl rfl ?_ ?_ ?_ ?_)
    · have := HNN.out; omega
    · have := HNN.out; omega
    · have := HNN.out; omega
  case' inr.inl =>
    have hne : s.toList.isEmpty = false := by rw [toList_empty]; exact decide_eq_false (by omega)
    obtain ⟨neg, hneg⟩ : ∃ neg : Bool, neg = false := ⟨_, rfl⟩
    obtain ⟨tt, htt⟩ : ∃ tt, tt = s := ⟨_, rfl⟩
    obtain ⟨N, hN⟩ : ∃ N, N = tt.size / 4 + 1 := ⟨_, rfl⟩
    have HNG := Hid.mk hneg
    have HS : Hid (Cut s tt neg ∧ tt.size ≤ s.size) := Hid.mk ⟨.inl ⟨hneg, by rw [htt], hsl⟩, by rw [htt]; exact Nat.le_refl _⟩
    have HNN := Hid.mk hN
    have htt20 : tt.size ≤ 50000000000 := by rw [htt]; exact hs
    have HSZ : Hid (s.size = tt.size) := Hid.mk (by rw [htt])
    subst htt
    clear hN hsl hneg
    go_enter Tryz.func161, Tryz.ntmps161
    go_wp2_with (at_make; refine make_digits _ rfl _ _ rfl _ _ N rfl rfl ?_ ?_ ?_ ?_)
    · have := HNN.out; omega
    · have := HNN.out; omega
    · have := HNN.out; omega
  case' inr.inr =>
    have hne : s.toList.isEmpty = false := by rw [toList_empty]; exact decide_eq_false (by omega)
    obtain ⟨neg, hneg⟩ : ∃ neg : Bool, neg = true := ⟨_, rfl⟩
    obtain ⟨tt, htt⟩ : ∃ tt, tt = s.extract 1 s.size := ⟨_, rfl⟩
    have HTT := Hid.mk htt
    obtain ⟨N, hN⟩ : ∃ N, N = tt.size / 4 + 1 := ⟨_, rfl⟩
    have HNG := Hid.mk hneg
    have HS : Hid (Cut s tt neg ∧ tt.size ≤ s.size) := Hid.mk ⟨.inr ⟨hneg, by rw [htt]; exact hsl⟩, by rw [htt, ByteArray.size_extract]; omega⟩
    have HNN := Hid.mk hN
    have htt20 : tt.size ≤ 50000000000 := by have := HS.out.2; omega
    have HSZ : Hid (s.size - 1 = tt.size) := Hid.mk (by rw [htt, ByteArray.size_extract]; omega)
    clear htt hN hsl hneg
    go_enter Tryz.func161, Tryz.ntmps161
    go_wp2_with (at_make; rw [← HTT.out, HSZ.out]; refine make_digits _ rfl _ _ rfl _ _ N rfl rfl ?_ ?_ ?_ ?_)
    · have := HNN.out; omega
    · have := HNN.out; omega
    · have := HNN.out; omega
  all_goals
    intro w1 hown hbel
    have hlt1 := hown.lt
    have hb0 : Below (w.heap.size + 1) W0 w1 := by rw [HW.out]; simpa using hbel
    have hw0 : W0.heap.size = w.heap.size + 1 := by rw [HW.out]; simp
    have HO := Hid.mk (And.intro hown hb0)
    clear hown hbel hb0
    go_wp2_with fail
    go_loopw [8, 9] (fun p i wr => ∃ (k pp : Nat) (zs : List Nat), k ≤ tt.size ∧ i = .int .i64 k ∧ 1 ≤ pp ∧ pp ≤ 1000 ∧ p = .int .i64 pp ∧ Hid (zs.length = N) ∧ Own wr (.slice (some ⟨w.heap.size + 1, 0, none⟩) N N) zs ∧ Below (w.heap.size + 1) W0 wr ∧ Hid (pp = 10 ^ (k % 4) ∧ Part tt.data.toList k zs)) (fun _ i _ => tt.size - (intOf i).toNat)
    case atStart => exact ⟨0, 1, _, Nat.zero_le _, rfl, by omega, by omega, rfl, Hid.mk List.length_replicate, HO.out.1, HO.out.2, Hid.mk ⟨rfl, Part.start _ _⟩⟩
    case round =>
      obtain ⟨k, pp, zs, hk, rfl, hp1, hp2, rfl, HZ, hown, hbel, HI⟩ := hrel
      have hwr := hbel.size
      have hltr := hown.lt
      have hbx : NBox wr w.heap.size (.bool false) (.slice none 0 0) := (NBox.new w (.bool false) (.slice none 0 0) rfl).below (by rw [← HW.out]; exact hbel) (by omega)
      have J := Hid.mk (And.intro hown (And.intro hbel hbx))
      by_cases hkn : k < tt.size
      · obtain ⟨q, hq⟩ : ∃ q, q = tt.size - 1 - k := ⟨_, rfl⟩
        have hqi : (tt.size : Int) - 1 - (k : Int) = (q : Int) := by omega
        have hql : q < tt.size := by omega
        have hqli : (q : Int) < (tt.size : Int) := by omega
        obtain ⟨c, hc⟩ : ∃ c, c = tt[q]'hql := ⟨_, rfl⟩
        have hcg : tt.data.toList[tt.data.toList.length - 1 - k]? = some c := by
          have e : tt.data.toList.length = tt.size := by simp
          rw [e, ← hq, List.getElem?_eq_getElem (by rw [e]; exact hql), hc]
          rfl
        have HCG := Hid.mk hcg
        have hce : (tt[q]'hql).toNat = c.toNat := by rw [hc]
        clear hc hcg hq
        by_cases hd : IsDig c
        · have d1 : 48 ≤ c.toNat := hd.1
          have d2 : c.toNat ≤ 57 := hd.2
          have e1 : decide ((c.toNat : Int) < 48) = false := decide_eq_false (by omega)
          have e2 : decide (57 < (c.toNat : Int)) = false := decide_eq_false (by omega)
          have e1' : decide (c.toNat < 48) = false := decide_eq_false (by omega)
          have e2' : decide (57 < c.toNat) = false := decide_eq_false (by omega)
          have HDG := Hid.mk hd
          obtain ⟨dd, hdd⟩ : ∃ dd, dd = c.toNat - 48 := ⟨_, rfl⟩
          have hdi : (c.toNat : Int) - 48 = (dd : Int) := by omega
          have hd9 : dd ≤ 9 := by omega
          obtain ⟨g, hg⟩ : ∃ g, g = k / 4 := ⟨_, rfl⟩
          have hgi : (k : Int) / 4 = (g : Int) := by omega
          have hgN : g < N := by have := HNN.out; omega
          have hgNi : (g : Int) < (N : Int) := by omega
          obtain ⟨x, hx⟩ : ∃ x, x = zs.getD g 0 := ⟨_, rfl⟩
          have c1 := hown.cell HZ.out g hgN
          have c2 := hown.frozen HZ.out g
          rw [← hx] at c1
          obtain ⟨pd, hpd⟩ : ∃ pd, pd = pp * dd := ⟨_, rfl⟩
          have hpdi : (pp : Int) * (dd : Int) = (pd : Int) := by rw [hpd]; exact (Int.natCast_mul pp dd).symm
          have hxp : x + pd < 10000 ∧ x < 10000 := by
            have h3 := HI.out.2.2.2.1
            rw [← HI.out.1, ← hg, ← hx] at h3
            have : pp * dd ≤ pp * 9 := Nat.mul_le_mul_left _ hd9
            omega
          obtain ⟨hx1, hx2⟩ := hxp
          have HX := Hid.mk (And.intro hx (And.intro hpd (And.intro hg hdd)))
          clear hd hdd hx hpd hg hown hbel hbx
          have HNX : Hid (Part tt.data.toList (k + 1) (zs.set g (x + pd)) ∧ (if pp = 1000 then 1 else pp * 10) = 10 ^ ((k + 1) % 4)) := Hid.mk (by
            obtain ⟨hx, hpd, hg, hdd⟩ := HX.out
            obtain ⟨hi1, hi2⟩ := HI.out
            have hl : tt.data.toList.length = tt.size := by simp
            have := hi2.next (by omega) (by have := HZ.out; have := HNN.out; omega) c HCG.out HDG.out
            rw [← hi1, ← hg, ← hdd, ← hx, ← hpd] at this
            refine ⟨this, ?_⟩
            exact pow_next hi1)
          by_cases hp10 : pp = 1000
          · subst hp10
            go_wp2_with fail
            go_roundw
            case measure => simp [intOf]; omega
            case rel => exact ⟨k + 1, 1, zs.set g (x + pd), by omega, by go_num, by omega, by omega, rfl, Hid.mk (by rw [List.length_set]; exact HZ.out), J.out.1.stored_int HZ.out g _ (by rw [show (1000 : Int) * (dd : Int) = (pd : Int) from hpdi]; omega), J.out.2.1.setCell (by simp) _, Hid.mk ⟨HNX.out.2, HNX.out.1⟩⟩
          · have hpn : ((pp : Int) * 10 == 10000) = false := beq_eq_false_iff_ne.2 (by omega)
            have hpp : pp ≤ 100 := le100 HI.out.1 hp10
            go_wp2_with fail
            go_roundw
            case measure => simp [intOf]; omega
            case rel =>
              have h9 := HNX.out.2
              rw [if_neg hp10] at h9
              exact ⟨k + 1, pp * 10, zs.set g (x + pd), by omega, by go_num, by omega, by omega, by go_num, Hid.mk (by rw [List.length_set]; exact HZ.out), J.out.1.stored_int HZ.out g _ (by omega), J.out.2.1.setCell (by simp) _, Hid.mk ⟨h9, HNX.out.1⟩⟩
        · have HDG := Hid.mk hd
          obtain ⟨a1, a2, a3, a4⟩ := hbx.cells
          have a5 := hbx.put1 (.bool false)
          have hnd : ∃ c ∈ tt.data.toList, ¬ IsDig c := ⟨c, List.mem_of_getElem? HCG.out, hd⟩
          have hbw : Below w.heap.size w wr := Below.trans ((Below.refl _ _).alloc (Nat.le_refl _) _) ((by rw [← HW.out]; exact hbel : Below (w.heap.size + 1) (w.alloc (.cells #[.bool false, .slice none 0 0] 138)) wr).mono (by omega))
          have HND := Hid.mk (And.intro hnd hbw)
          clear hown hbel hbx hnd hbw hd
          by_cases hlo : c.toNat < 48
          · have e1 : decide ((c.toNat : Int) < 48) = true := decide_eq_true (by omega)
            have e1' : decide (c.toNat < 48) = true := decide_eq_true (by omega)
            go_wp2_with fail
            refine bodyPost_ret (v := .tuple #[.agg #[.bool false, .slice none 0 0], .bool false]) ?_ rfl ?_
            · obtain ⟨q1, q2, -, -⟩ := (J.out.2.2.put (.bool false) (.slice none 0 0)).cells
              (simp [results, Tryz.results161, go_sem, q1, q2]; done)
            · exact ⟨_, _, rfl, NumOut.bad HS.out.1 HND.out.1 ((HND.out.2.setCell (by simp) _).setCell (by simp) _)⟩
          · have e1 : decide ((c.toNat : Int) < 48) = false := decide_eq_false (by omega)
            have e2 : decide (57 < (c.toNat : Int)) = true := decide_eq_true (by have := HDG.out; unfold IsDig at this; omega)
            have e1' : decide (c.toNat < 48) = false := decide_eq_false (by omega)
            have e2' : decide (57 < c.toNat) = true := decide_eq_true (by have := HDG.out; unfold IsDig at this; omega)
            go_wp2_with fail
            refine bodyPost_ret (v := .tuple #[.agg #[.bool false, .slice none 0 0], .bool false]) ?_ rfl ?_
            · obtain ⟨q1, q2, -, -⟩ := (J.out.2.2.put (.bool false) (.slice none 0 0)).cells
              (simp [results, Tryz.results161, go_sem, q1, q2]; done)
            · exact ⟨_, _, rfl, NumOut.bad HS.out.1 HND.out.1 ((HND.out.2.setCell (by simp) _).setCell (by simp) _)⟩
      · have hke : k = tt.size := by omega
        have HKE := Hid.mk hke
        clear hown hbel hbx hke
        go_wp2_with fail
        refine (made_at _ _ zs wr J.out.1 HI.out.2.1).mono ?_
        rintro e w2 ⟨r, rfl, hr, hb2, hmo⟩
        have HAT : Hid (AtB w.heap.size r) := Hid.mk (by
          obtain ⟨ao, n, cp, k, e1, b, e2⟩ := hmo
          simp only [Value.slice.injEq] at e1
          obtain ⟨rfl, rfl, rfl⟩ := e1
          rw [e2]
          exact AtB.at_ (by omega) _ _ _ _ _)
        clear hmo
        obtain ⟨zz, hzz⟩ : ∃ zz : Int, zz = (if neg then -(val zs : Int) else (val zs : Int)) := ⟨_, rfl⟩
        replace hr : IsN w2 r zz zs.length := by rw [hzz, HNG.out]; exact hr
        have HZZ := Hid.mk hzz
        clear hzz
        obtain ⟨nc, co, ecap, ws, rfl, -⟩ := id hr.parts
        have hb2s := hb2.size
        have BX := J.out.2.2.below hb2 J.out.2.2.lt
        have K := Hid.mk (And.intro hr (And.intro (J.out.2.1.trans (hb2.mono (by omega))) BX))
        clear hr hb2 BX
        obtain ⟨P, hP⟩ : ∃ P, P = w2.heap.size := ⟨_, rfl⟩
        have HP := Hid.mk hP
        go_wp2_with fail
        rw [← hP]
        clear hP
        have hzl : zs.length ≤ 50000000000 := by have := HZ.out; have := HNN.out; omega
        refine (text_any _ zz zs.length _ (K.out.1.below ((Below.refl _ _).alloc (Nat.le_refl _) _)) hzl).mono ?_
        rintro e w3 ⟨rfl, hb3⟩
        have hb3s := hb3.size
        simp at hb3s
        have BA := (NBox.new w2 (.bool nc) (.slice co ws.length ecap) HP.out).below hb3 (by simp; have := HP.out; omega)
        have BX := K.out.2.2.below ((Below.refl _ _).alloc (Nat.le_refl _) _) K.out.2.2.lt |>.below hb3 (by simp; have := K.out.2.2.lt; omega)
        obtain ⟨a1, a2, -, -⟩ := BA.cells
        obtain ⟨b1, b2, b3, b4⟩ := BX.cells
        have b5 := BX.put1 (.bool nc)
        have M := Hid.mk (And.intro BX (And.intro ((K.out.1.below ((Below.refl _ _).alloc (Nat.le_refl _) _)).below hb3) hb3))
        clear BA BX hb3
        obtain ⟨T, hT⟩ : ∃ T : ByteArray, T = ⟨(Lib.itoa zz).toArray⟩ := ⟨_, rfl⟩
        have HT := Hid.mk hT
        rw [← hT]
        clear hT
        go_wp2_with fail
        first
          | refine bodyPost_ret (v := .tuple #[.agg #[.bool nc, .slice co ws.length ecap], .bool (T.toList == s.toList)]) ?_ rfl ?_
          | refine bodyPost_ret (v := .tuple #[.agg #[.bool nc, .slice co ws.length ecap], .bool (T.toList == tt.toList)]) ?_ rfl ?_
        · obtain ⟨q1, q2, -, -⟩ := (M.out.1.put (.bool nc) (.slice co ws.length ecap)).cells
          (simp [results, Tryz.results161, go_sem, q1, q2]; done)
        · refine ⟨_, _, rfl, NumOut.good HS.out.1 (M.out.2.1.box M.out.1.ty (by decide) (.bool nc) (.slice co ws.length ecap)) ?_ ?_ ?_ (eqT HT.out) HAT.out⟩
          · have := HZ.out; have := HNN.out; have := HS.out.2; omega
          · have := HI.out.2.2.1
            rw [HKE.out, show tt.size = tt.data.toList.length from by simp, Nat.sub_self, List.drop_zero] at this
            rw [HZZ.out, this]
          · have hbw : Below w.heap.size w w2 := Below.trans ((Below.refl _ _).alloc (Nat.le_refl _) _) ((by rw [← HW.out]; exact K.out.2.1 : Below (w.heap.size + 1) (w.alloc (.cells #[.bool false, .slice none 0 0] 138)) w2).mono (by omega))
            have hb4 : Below w.heap.size w w3 := (hbw.trans ((Below.refl _ _).alloc (by have := hbw.size; omega) _)).trans (M.out.2.2.mono (by simp; have := hbw.size; omega))
            exact (hb4.setCell (by simp) _).setCell (by simp) _
end Go.Proofs.YtfjbijpagaipnaaGreatDoor.R
namespace Go.Proofs.YtfjbijpagaipnaaGreatDoor.R
open Go.RowKit
def scells (ts : List (List UInt8)) : List Value := ts.map fun l => Value.string ⟨l.toArray⟩
def OwnS (B : Nat) (w : World) (v : Value) (ts : List (List UInt8)) : Prop := w.ownsRow B 9 1 v ts.length (scells ts)
theorem OwnS.nil (B : Nat) (w : World) : OwnS B w (.slice none 0 0) [] := World.ownsRow_nil _ _ _ _
theorem OwnS.below {B : Nat} {w w' : World} {v : Value} {ts : List (List UInt8)} (h : OwnS B w v ts) (hb : Below w.heap.size w w') : OwnS B w' v ts := by
  refine ⟨h.1, ?_⟩
  rcases h.2 with h3 | ⟨g, cap, cur, hv, hg, hh, r⟩
  · exact .inl h3
  · exact .inr ⟨g, cap, cur, hv, hg, by rw [hb.block g (Array.getElem?_eq_some_iff.1 hh).1]; exact hh, r⟩
theorem OwnS.shape {B : Nat} {w : World} {v : Value} {ts : List (List UInt8)} (h : OwnS B w v ts) : ∃ ao cap, v = .slice ao ts.length cap ∧ ts.length ≤ cap ∧ cap ≤ 9223372036854775807 ∧ (∀ i, i < ts.length → ∃ g, ao = some ⟨g, 0, none⟩ ∧ w.cell? ⟨g, i, none⟩ = some (.string ⟨(ts.getD i []).toArray⟩)) := by
  have h0 := h
  rcases h.2 with ⟨rfl, hn⟩ | ⟨g, cap, cur, rfl, hg, hh, r1, r2, r3, r4⟩
  · rw [hn]; exact ⟨none, 0, rfl, Nat.le_refl _, by omega, fun i hi => by omega⟩
  · refine ⟨_, cap, rfl, r1, by simpa [maxLen] using r2, fun i hi => ⟨g, rfl, ?_⟩⟩
    rw [World.ownsRow.cellAt h0 i (by omega)]
    simp [scells, List.getD, List.getElem?_eq_getElem hi]
theorem Tryz.info9 : (Tryz.prog.info? 9).map (fun i => (i.zero, i.size, i.bytes)) = some (some (.string ⟨#[]⟩), 1, 16) := by kernel_rfl
theorem append_str (w : World) {ops : Array Oper} {rest : List Oper} {o : Oper} {a : Act} {Q : Exit → Act → World → Prop} (hgd : o.guard = none) (s x : Operand)
    (ho : o.op = .call { callee := .builtin .append, args := #[s, x], argTypes := #[65, 65] }) (B : Nat) (v : Value) (ts : List (List UInt8)) (hs : a.eval s = v) (hown : OwnS B w v ts)
    (ad : Addr) (hx : a.eval x = .slice (some ad) 1 1) (t : List UInt8) (hc : w.cell? (ad.add 0) = some (.string ⟨t.toArray⟩)) (hl : ts.length ≤ 60000000000) (hB : B ≤ w.heap.size)
    (hK : ∀ v' w', OwnS B w' v' (ts ++ [t]) → w.grownBy w' v.ownBlock → wpList Tryz.prog ops Q rest (a.put o.dst v') w') : wpList Tryz.prog ops Q (o :: rest) a w := by
  obtain ⟨i, hi, hz0, hz1, hz2⟩ := info_parts Tryz.info9
  refine wpList_append_own w hgd s x 65 ho B 9 i (.string ⟨#[]⟩) 1 16 Tryz.underlying65 hi hz0 hz1 hz2 rfl (by decide) v ts.length (scells ts) hs hown ad 1 1 [.string ⟨t.toArray⟩] hx rfl ?_ ?_ ?_ ?_ hB ?_
  · intro j u hj
    match j, hj with
    | 0, hj => simp at hj; subst hj; exact hc
  · intro u hu; simp at hu; subst hu; rfl
  · unfold maxLen; omega
  · omega
  · intro v' w' h1 h2 _
    refine hK v' w' ?_ h2
    unfold OwnS
    rw [show scells (ts ++ [t]) = scells ts ++ [.string ⟨t.toArray⟩] from by simp [scells], List.length_append, List.length_singleton]
    exact h1
def cutL (c : UInt8) : List UInt8 → List (List UInt8)
  | [] => [[]]
  | x :: r => if x = c then [] :: cutL c r else match cutL c r with
    | [] => [[x]]
    | h :: t => (x :: h) :: t
theorem cutL_ne (c : UInt8) (l : List UInt8) : cutL c l ≠ [] := by
  cases l with
  | nil => simp [cutL]
  | cons x r =>
    unfold cutL
    split
    · simp
    · split <;> simp
def glue (o : List (List UInt8)) (t : List UInt8) : List (List UInt8) → List (List UInt8)
  | [] => o ++ [t]
  | h :: r => o ++ ((t ++ h) :: r)
theorem glue_cut {o : List (List UInt8)} {t : List UInt8} {c : UInt8} (r : List UInt8) : glue o t (cutL c (c :: r)) = glue (o ++ [t]) [] (cutL c r) := by
  have h1 : cutL c (c :: r) = [] :: cutL c r := by rw [cutL, if_pos rfl]
  rw [h1]
  cases h : cutL c r with
  | nil => exact absurd h (cutL_ne c r)
  | cons a b => simp [glue]
theorem glue_go {o : List (List UInt8)} {t : List UInt8} {c x : UInt8} (hx : x ≠ c) (r : List UInt8) : glue o t (cutL c (x :: r)) = glue o (t ++ [x]) (cutL c r) := by
  rw [cutL, if_neg hx]
  cases h : cutL c r with
  | nil => exact absurd h (cutL_ne c r)
  | cons a b => simp [glue]
theorem cut_len (c : UInt8) (l : List UInt8) : (cutL c l).length ≤ l.length + 1 := by
  induction l with
  | nil => simp [cutL]
  | cons x r ih =>
    unfold cutL
    split
    · simp; omega
    · cases h : cutL c r with
      | nil => simp
      | cons a b => rw [h] at ih; simp at ih ⊢; omega
theorem str_one (s : ByteArray) (k : Nat) (hk : k < s.size) : s.extract k (k + 1) = ⟨[s[k]'hk].toArray⟩ := by
  apply ByteArray.ext
  have h3 : (s.extract k (k + 1)).data.toList = [s[k]'hk] := by
    rw [ByteArray.data_extract, Array.toList_extract, List.extract_eq_take_drop, Nat.add_sub_cancel_left, List.drop_eq_getElem_cons (show k < s.data.toList.length from by simpa using hk)]
    rfl
  rw [← Array.toArray_toList (xs := (s.extract k (k + 1)).data), h3]
def CutOut (c : UInt8) (s : ByteArray) (w w' : World) (v : Value) : Prop := OwnS w.heap.size w' v (cutL c s.data.toList) ∧ Below w.heap.size w w'
set_option maxRecDepth 100000 in
set_option maxHeartbeats 4000000 in
theorem cut_any (s : ByteArray) (c : UInt8) (w : World) (hs : s.size ≤ 50000000000) :
    Calls Tryz.prog 159 #[.string s, .int .u8 (c.toNat : Nat)] w fun e w' => ∃ v, e = .returned v ∧ CutOut c s w w' v := by
  go_enter Tryz.func159, Tryz.ntmps159
  go_wp2_with fail
  go_loopw [5, 6, 7] (fun out t i wr => ∃ (k : Nat) (o : List (List UInt8)) (tt : List UInt8), k ≤ s.size ∧ i = .int .i64 k ∧ t = .string ⟨tt.toArray⟩ ∧ tt.length ≤ k ∧ o.length ≤ k ∧ OwnS w.heap.size wr out o ∧ Below w.heap.size w wr ∧ Hid (glue o tt (cutL c (s.data.toList.drop k)) = cutL c s.data.toList)) (fun _ _ i _ => s.size - (intOf i).toNat)
  case atStart =>
    refine ⟨0, [], [], Nat.zero_le _, rfl, rfl, by simp, by simp, OwnS.nil _ _, Below.refl _ _, Hid.mk ?_⟩
    rw [List.drop_zero]
    cases h : cutL c s.data.toList with
    | nil => exact absurd h (cutL_ne _ _)
    | cons a b => simp [glue]
  case round =>
    obtain ⟨k, o, tt, hk, rfl, rfl, htl, hol, hown, hbel, HI⟩ := hrel
    have hwr := hbel.size
    have K := Hid.mk (And.intro hown hbel)
    clear hown hbel
    by_cases hkn : k < s.size
    · obtain ⟨x, hx⟩ : ∃ x, x = s[k]'hkn := ⟨_, rfl⟩
      have hdr : s.data.toList.drop k = x :: s.data.toList.drop (k + 1) := by
        rw [List.drop_eq_getElem_cons (show k < s.data.toList.length from by simpa using hkn), hx]
        rfl
      have hxe : (s[k]'hkn).toNat = x.toNat := by rw [hx]
      have hex : s.extract k (k + 1) = ⟨[x].toArray⟩ := by rw [hx]; exact str_one s k hkn
      have HDR := Hid.mk hdr
      have HEX := Hid.mk hex
      have hki : (k : Int) < (s.size : Int) := by omega
      clear hx hdr hex
      by_cases hc : x = c
      · have hb : ((x.toNat : Int) == (c.toNat : Int)) = true := beq_iff_eq.2 (by rw [hc])
        have HC := Hid.mk hc
        clear hc
        go_wp2_with (at_builtin; refine append_str _ rfl _ _ rfl w.heap.size _ o rfl ?_ ⟨_, 0, none⟩ rfl tt ?_ ?_ ?_ ?_)
        · exact World.ownsRow.alloc K.out.1 _
        · simp [Addr.add]
        · omega
        · simp; omega
        intro v' w' q1 q2
        have hbel2 : Below w.heap.size w w' := (K.out.2.alloc hwr _).grown q2 (by simp; omega) (fun j hj => (World.ownsRow.lt K.out.1 j hj).1)
        have K2 := Hid.mk (And.intro q1 hbel2)
        clear q1 q2 hbel2
        go_wp2_with fail
        go_roundw
        case measure => simp [intOf]; omega
        case rel =>
          refine ⟨k + 1, o ++ [tt], [], by omega, by go_num, rfl, by simp, by simp; omega, K2.out.1, K2.out.2, Hid.mk ?_⟩
          have := HI.out
          rw [HDR.out, HC.out, glue_cut] at this
          exact this
      · have hb : ((x.toNat : Int) == (c.toNat : Int)) = false := beq_eq_false_iff_ne.2 (fun e => hc (UInt8.toNat_inj.1 (by omega)))
        have HC := Hid.mk hc
        clear hc
        go_wp2_with fail
        go_roundw
        case measure => simp [intOf]; omega
        case rel =>
          refine ⟨k + 1, o, tt ++ [x], by omega, by go_num, ?_, by simp; omega, by omega, K.out.1, K.out.2, Hid.mk ?_⟩
          · rw [HEX.out]; exact rval_str (rstr_app tt [x])
          · have := HI.out
            rw [HDR.out, glue_go HC.out] at this
            exact this
    · have hke : k = s.size := by omega
      have HKE := Hid.mk hke
      clear hke
      go_wp2_with (at_builtin; refine append_str _ rfl _ _ rfl w.heap.size _ o rfl ?_ ⟨_, 0, none⟩ rfl tt ?_ ?_ ?_ ?_)
      · exact World.ownsRow.alloc K.out.1 _
      · simp [Addr.add]
      · omega
      · simp; omega
      intro v' w' q1 q2
      have hbel2 : Below w.heap.size w w' := (K.out.2.alloc hwr _).grown q2 (by simp; omega) (fun j hj => (World.ownsRow.lt K.out.1 j hj).1)
      have K2 := Hid.mk (And.intro q1 hbel2)
      clear q1 q2 hbel2
      go_wp2_with fail
      go_ret
      refine ⟨_, rfl, ?_, K2.out.2⟩
      have := HI.out
      rw [HKE.out, List.drop_of_length_le (by simp)] at this
      simp only [cutL, glue, List.append_nil] at this
      rw [← this]
      exact K2.out.1
end Go.Proofs.YtfjbijpagaipnaaGreatDoor.R
