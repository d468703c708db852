import Derived.Test.YtfjbijpagaipnaaGreatDoorC18
/- Texts of numbers. -/
namespace Go.Proofs.YtfjbijpagaipnaaGreatDoor.R
open Go.RowKit

/-- The number that a run of digits writes. -/
def dval (l : List UInt8) : Nat := l.foldl (fun a c => 10 * a + (c.toNat - 48)) 0
def IsDig (c : UInt8) : Prop := 48 ≤ c.toNat ∧ c.toNat ≤ 57
theorem dval_from (l : List UInt8) : ∀ a : Nat, l.foldl (fun a c => 10 * a + (c.toNat - 48)) a = a * 10 ^ l.length + dval l := by
  induction l with
  | nil => intro a; simp [dval]
  | cons c r ih =>
    intro a
    unfold dval
    simp only [List.foldl_cons, List.length_cons]
    rw [ih, ih, Nat.pow_succ, Nat.mul_zero, Nat.zero_add, Nat.add_mul, Nat.mul_comm (10 ^ r.length) 10, ← Nat.mul_assoc, Nat.mul_comm 10 a]
    omega
theorem dval_cons (c : UInt8) (r : List UInt8) : dval (c :: r) = (c.toNat - 48) * 10 ^ r.length + dval r := by
  conv => lhs; unfold dval
  rw [List.foldl_cons, dval_from]; simp
theorem dval_snoc (l : List UInt8) (c : UInt8) : dval (l ++ [c]) = 10 * dval l + (c.toNat - 48) := by simp [dval]
theorem dval_dec (u : Nat) : dval (Lib.decDigits u) = u ∧ ∀ c ∈ Lib.decDigits u, IsDig c := by
  induction u using Nat.strongRecOn with
  | ind u ih =>
    have dn : ∀ d, d < 10 → (UInt8.ofNat (48 + d)).toNat = 48 + d := fun d h => by rw [UInt8.toNat_ofNat', Nat.mod_eq_of_lt (by omega)]
    by_cases h : u < 10
    · rw [Lib.decDigits_one h]
      refine ⟨?_, fun c hc => ?_⟩
      · unfold dval
        simp only [List.foldl_cons, List.foldl_nil]
        rw [dn u h]; omega
      · rw [List.mem_singleton] at hc
        unfold IsDig
        rw [hc, dn u h]; omega
    · obtain ⟨h1, h2⟩ := ih (u / 10) (by omega)
      rw [decDigits_big h]
      refine ⟨?_, fun c hc => ?_⟩
      · rw [dval_snoc, h1, dn _ (by omega)]; omega
      · rcases List.mem_append.1 hc with hc | hc
        · exact h2 c hc
        · rw [List.mem_singleton] at hc
          unfold IsDig
          rw [hc, dn _ (by omega)]; omega
theorem decDigits_ne (u : Nat) : Lib.decDigits u ≠ [] := by
  by_cases h : u < 10
  · rw [Lib.decDigits_one h]; simp
  · rw [decDigits_big h]; simp
/-- The text writes the number z, as it is written. -/
def Says (l : List UInt8) (z : Int) : Prop := l = Lib.itoa z
theorem Says.neg {l : List UInt8} {z : Int} (h : Says (45 :: l) z) : (∀ c ∈ l, IsDig c) ∧ z = -(dval l : Int) := by
  unfold Says at h
  by_cases hz : z < 0
  · obtain ⟨u, rfl⟩ : ∃ u : Nat, z = -(u : Int) := ⟨z.natAbs, by omega⟩
    rw [Lib.itoa_neg u (by omega)] at h
    injection h with _ h
    rw [h]
    exact ⟨(dval_dec u).2, by rw [(dval_dec u).1]⟩
  · exfalso
    obtain ⟨u, rfl⟩ : ∃ u : Nat, z = (u : Int) := ⟨z.natAbs, by omega⟩
    rw [Lib.itoa_nonneg] at h
    have := (dval_dec u).2 45 (by rw [← h]; simp)
    exact absurd this.1 (by decide)
theorem Says.pos {l : List UInt8} {z : Int} (h : Says l z) (h0 : ∀ r, l ≠ 45 :: r) : (∀ c ∈ l, IsDig c) ∧ z = (dval l : Int) := by
  unfold Says at h
  by_cases hz : z < 0
  · exfalso
    obtain ⟨u, rfl⟩ : ∃ u : Nat, z = -(u : Int) := ⟨z.natAbs, by omega⟩
    rw [Lib.itoa_neg u (by omega)] at h
    exact h0 _ h
  · obtain ⟨u, rfl⟩ : ∃ u : Nat, z = (u : Int) := ⟨z.natAbs, by omega⟩
    rw [Lib.itoa_nonneg] at h
    rw [h]
    exact ⟨(dval_dec u).2, by rw [(dval_dec u).1]⟩
/-- How far the digits are taken in: i of them, from the end. -/
def Part (l : List UInt8) (i : Nat) (zs : List Nat) : Prop := Lo zs ∧ val zs = dval (l.drop (l.length - i)) ∧ zs.getD (i / 4) 0 < 10 ^ (i % 4) ∧ (∀ j, i / 4 < j → zs.getD j 0 = 0) ∧ ∀ c ∈ l.drop (l.length - i), IsDig c
theorem getD_set (zs : List Nat) (k a j : Nat) (hk : k < zs.length) : (zs.set k a).getD j 0 = if j = k then a else zs.getD j 0 := by
  by_cases h : j = k
  · subst h; simp [List.getD, hk]
  · have h' : ¬ k = j := fun e => h e.symm
    simp [List.getD, h, h']
theorem Part.start (l : List UInt8) (n : Nat) : Part l 0 (List.replicate n 0) := by
  refine ⟨Lo_zeros n, ?_, ?_, fun j _ => ?_, ?_⟩
  · rw [Nat.sub_zero, List.drop_length]
    rw [val_zeros (fun x hx => (List.mem_replicate.1 hx).2)]; rfl
  · have : (List.replicate n 0).getD (0 / 4) 0 = 0 := by simp [List.getD, List.getElem?_replicate]; split <;> rfl
    rw [this]; decide
  · simp [List.getD, List.getElem?_replicate]; split <;> rfl
  · rw [Nat.sub_zero, List.drop_length]; intro c hc; cases hc
theorem Part.next {l : List UInt8} {i : Nat} {zs : List Nat} (h : Part l i zs) (hi : i < l.length) (hz : l.length / 4 < zs.length) (c : UInt8) (hc : l[l.length - 1 - i]? = some c) (hd : IsDig c) :
    Part l (i + 1) (zs.set (i / 4) (zs.getD (i / 4) 0 + 10 ^ (i % 4) * (c.toNat - 48))) := by
  obtain ⟨h1, h2, h3, h4, h5⟩ := h
  have hk : i / 4 < zs.length := by omega
  have hdr : l.drop (l.length - (i + 1)) = c :: l.drop (l.length - i) := by
    have e : l.length - (i + 1) = l.length - 1 - i := by omega
    rw [e, List.drop_eq_getElem_cons (show l.length - 1 - i < l.length from by omega)]
    rw [List.getElem?_eq_getElem (show l.length - 1 - i < l.length from by omega)] at hc
    injection hc with hc
    rw [hc, show l.length - 1 - i + 1 = l.length - i from by omega]
  have hp : 10 ^ (i % 4) * (c.toNat - 48) ≤ 10 ^ (i % 4) * 9 := Nat.mul_le_mul_left _ (by unfold IsDig at hd; omega)
  have hq : i % 4 = 0 ∨ i % 4 = 1 ∨ i % 4 = 2 ∨ i % 4 = 3 := by omega
  have hbound : zs.getD (i / 4) 0 + 10 ^ (i % 4) * (c.toNat - 48) < 10 ^ (i % 4) * 10 := by omega
  have h1000 : 10 ^ (i % 4) ≤ 1000 := by rcases hq with e | e | e | e <;> rw [e] <;> decide
  refine ⟨Lo_set h1 _ _ (by omega), ?_, ?_, fun j hj => ?_, ?_⟩
  · have hvs := val_set zs (i / 4) (zs.getD (i / 4) 0 + 10 ^ (i % 4) * (c.toNat - 48)) hk
    rw [Nat.mul_add, h2] at hvs
    rw [hdr, dval_cons]
    have e : (l.drop (l.length - i)).length = i := by rw [List.length_drop]; omega
    rw [e]
    have e2 : 10 ^ i = 10000 ^ (i / 4) * 10 ^ (i % 4) := by
      rw [pow4, ← Nat.pow_add]; congr 1; omega
    rw [e2, Nat.mul_comm (c.toNat - 48), Nat.mul_assoc]
    omega
  · rw [getD_set _ _ _ _ hk]
    by_cases e : (i + 1) / 4 = i / 4
    · rw [if_pos e, show (i + 1) % 4 = i % 4 + 1 from by omega, Nat.pow_succ]
      exact hbound
    · rw [if_neg e, h4 _ (by omega), show (i + 1) % 4 = 0 from by omega]; decide
  · rw [getD_set _ _ _ _ hk, if_neg (by omega)]
    exact h4 j (by omega)
  · rw [hdr]
    intro d hdm
    rcases List.mem_cons.1 hdm with rfl | hdm
    · exact hd
    · exact h5 d hdm
theorem toList_empty (s : ByteArray) : s.toList.isEmpty = decide (s.size = 0) := by
  rw [ByteArray.toList_eq]
  cases s with
  | mk d =>
    cases d with
    | mk l => cases l <;> simp [ByteArray.size]

end Go.Proofs.YtfjbijpagaipnaaGreatDoor.R

/- matricesref: plain, made: where the digits lie. -/
namespace Go.Proofs.YtfjbijpagaipnaaGreatDoor.R
open Go.RowKit

/-- A row, cut short. -/
def Pre (v v' : Value) : Prop := ∃ ao n cap k, v = .slice ao n cap ∧ v' = .slice ao k cap
/-- The number's digits are that row's. -/
def MadeOf (v r : Value) : Prop := ∃ ao n cap k, v = .slice ao n cap ∧ ∃ b, r = .agg #[.bool b, .slice ao k cap]
theorem Pre.of {v : Value} {ao : Option Addr} {k cap : Nat} (h : Pre v (.slice ao k cap)) : ∀ b, MadeOf v (.agg #[.bool b, .slice ao k cap]) := by
  obtain ⟨ao', n, cap', k', h1, h2⟩ := h
  simp only [Value.slice.injEq] at h2
  obtain ⟨rfl, rfl, rfl⟩ := h2
  exact fun b => ⟨ao, n, cap, k, h1, b, rfl⟩
/-- The number's digits lie at block B or later. -/
def AtB (B : Nat) (v : Value) : Prop := ∀ x g o s n cap, v = .agg #[x, .slice (some ⟨g, o, s⟩) n cap] → B ≤ g
theorem AtB.none (B : Nat) (x : Value) (n cap : Nat) : AtB B (.agg #[x, .slice none n cap]) := by
  intro y g o s m c h
  simp at h
theorem AtB.mono {B B' : Nat} {v : Value} (h : AtB B v) (hB : B' ≤ B) : AtB B' v := fun x g o s n cap e => Nat.le_trans hB (h x g o s n cap e)
theorem AtB.at_ {B g : Nat} (hg : B ≤ g) (x : Value) (o : Nat) (s : Option Nat) (n cap : Nat) : AtB B (.agg #[x, .slice (some ⟨g, o, s⟩) n cap]) := by
  intro y g' o' s' m c h
  simp only [Value.agg.injEq, Array.mk.injEq, List.cons.injEq, Value.slice.injEq, Option.some.injEq, Addr.mk.injEq, and_true] at h
  omega
set_option maxHeartbeats 400000 in
theorem plain_at (v : Value) (xs : List Nat) (w : World) (h : Own w v xs) (lo : Lo xs) :
    Calls Tryz.prog 222 #[v] w fun e w' => (∃ v', e = .returned v' ∧ TrimOut v xs v' ∧ Pre v v') ∧ w' = w := by
  obtain ⟨ao, cap, rfl, hc, hm, hcell, hnil, _⟩ := h.open_
  have HH := Hid.mk h
  clear h
  have HL := Hid.mk lo
  clear lo
  go_enter Tryz.func222, Tryz.ntmps222
  go_wp2
  go_loop [3] (fun n => ∃ k : Nat, k ≤ xs.length ∧ n = .int .i64 k ∧ ∀ x ∈ xs.drop k, x = 0) (fun n => (intOf n).toNat)
  case atStart => exact ⟨xs.length, Nat.le_refl _, rfl, by simp⟩
  case round =>
    obtain ⟨k, hk, rfl, hz⟩ := hrel
    by_cases h0 : k = 0
    · subst h0
      go_wp2
      go_ret
      have T := trim_spec HL.out 0 (Nat.zero_le _) hz (.inl rfl)
      exact ⟨⟨_, rfl, ⟨_, T.1, T.2.1, by omega, fun W hW => hW.cut 0 (Nat.zero_le _)⟩, ⟨_, _, _, _, rfl, rfl⟩⟩, rfl⟩
    · obtain ⟨b, rfl, hb⟩ := hcell (k - 1) (by omega)
      obtain ⟨x, hx⟩ : ∃ x, x = xs.getD (k - 1) 0 := ⟨_, rfl⟩
      rw [← hx] at hb
      clear hcell
      have HX := Hid.mk hx
      clear hx
      go_wp2
      · have hx0 : ((x : Int) == 0) = true := by assumption
        have hx1 : x = 0 := by simpa using hx0
        go_round
        case rel =>
          refine ⟨k - 1, by omega, by go_num, fun y hy => ?_⟩
          rw [drop_getD xs (k - 1) (by omega), ← HX.out, show k - 1 + 1 = k from by omega] at hy
          rcases List.mem_cons.1 hy with hy | hy
          · omega
          · exact hz y hy
        case measure => simp [intOf]; omega
      · have hx0 : ((x : Int) == 0) = false := by assumption
        have hx1 : x ≠ 0 := by simpa using hx0
        go_ret
        have T := trim_spec HL.out k hk hz (.inr (by rw [← HX.out]; omega))
        exact ⟨⟨_, rfl, ⟨_, T.1, T.2.1, by omega, fun W hW => hW.cut k hk⟩, ⟨_, _, _, _, rfl, rfl⟩⟩, rfl⟩

set_option maxRecDepth 100000 in
theorem made_at (neg : Bool) (v : Value) (xs : List Nat) (w : World) (hv : Own w v xs) (lx : Lo xs) :
    Calls Tryz.prog 204 #[.bool neg, v] w fun e w' => ∃ r, e = .returned r ∧ IsN w' r (if neg then -(val xs : Int) else (val xs : Int)) xs.length ∧ Below w.heap.size w w' ∧ MadeOf v r := by
  have H := Hid.mk (And.intro hv lx)
  clear hv lx
  go_enter Tryz.func204, Tryz.ntmps204
  go_wp2_with fail
  refine (plain_at v xs _ (H.out.1.below ((Below.refl _ _).alloc (Nat.le_refl _) _)) H.out.2).mono ?_
  rintro e w' ⟨⟨u, rfl, hu, hpre⟩, rfl⟩
  obtain ⟨ys, h1, h2, h3, h4⟩ := hu
  obtain ⟨ao, cap, rfl, hc, hm, -⟩ := (h4 _ H.out.1).open_
  have HP := Hid.mk hpre.of
  clear hpre
  have K := Hid.mk (And.intro h1 (And.intro h2 (And.intro h3 h4)))
  clear h1 h2 h4
  have fin : ∀ (b : Bool) (W : World), Below w.heap.size w W → (b = true → ys ≠ []) → IsN W (.agg #[.bool b, .slice ao ys.length cap]) (if b then -(val xs : Int) else (val xs : Int)) xs.length := by
    intro b W hb hne
    obtain ⟨k1, k2, k3, k4⟩ := K.out
    exact ⟨b, _, ys, rfl, (k4 _ H.out.1).below hb, k1, hne, by rw [k2], k3⟩
  have HF := Hid.mk fin
  clear fin
  cases neg
  · go_wp2_with fail
    refine bodyPost_ret (v := .agg #[.bool false, .slice ao ys.length cap]) (by simp [results, Tryz.results204, go_sem]) rfl ?_
    exact ⟨_, rfl, HF.out false _ ((Below.refl _ _).alloc (Nat.le_refl _) _) (fun h => by cases h), (Below.refl _ _).alloc (Nat.le_refl _) _, HP.out _⟩
  · by_cases hy : 0 < ys.length
    · go_wp2_with fail
      refine bodyPost_ret (v := .agg #[.bool true, .slice ao ys.length cap]) (by simp [results, Tryz.results204, go_sem]) rfl ?_
      exact ⟨_, rfl, HF.out true _ ((Below.refl _ _).alloc (Nat.le_refl _) _) (fun _ e => by rw [e] at hy; simp at hy), (Below.refl _ _).alloc (Nat.le_refl _) _, HP.out _⟩
    · have hy' : decide (0 < ys.length) = false := decide_eq_false hy
      have hy0 : ys = [] := List.eq_nil_of_length_eq_zero (by omega)
      have H0 := Hid.mk hy0
      clear hy0
      go_wp2_with fail
      refine bodyPost_ret (v := .agg #[.bool false, .slice ao ys.length cap]) (by simp [results, Tryz.results204, go_sem]) rfl ?_
      have h0 : val xs = 0 := by rw [← K.out.2.1, H0.out]; rfl
      have := HF.out false (w.alloc (.cells #[.bool false, .slice ao ys.length cap] 138)) ((Below.refl _ _).alloc (Nat.le_refl _) _) (fun h => by cases h)
      refine ⟨_, rfl, ?_, (Below.refl _ _).alloc (Nat.le_refl _) _, HP.out _⟩
      rw [h0] at this ⊢
      exact this
end Go.Proofs.YtfjbijpagaipnaaGreatDoor.R

/- matricesref.Number. -/
namespace Go.Proofs.YtfjbijpagaipnaaGreatDoor.R
open Go.RowKit

/-- What Number hands back. -/
def NumOut (s : ByteArray) (w w' : World) (r : Value) (b : Bool) : Prop := (∃ z, IsN w' r z (s.size + 1) ∧ (b = true → Says s.data.toList z) ∧ (b = false → ∀ z, ¬ Says s.data.toList z)) ∧ Below w.heap.size w w' ∧ AtB w.heap.size r
/-- How the text hangs together with its digits. -/
def Cut (s tt : ByteArray) (neg : Bool) : Prop := (neg = false ∧ s.data.toList = tt.data.toList ∧ ∀ r, s.data.toList ≠ 45 :: r) ∨ (neg = true ∧ s.data.toList = 45 :: tt.data.toList)
theorem Cut.says {s tt : ByteArray} {neg : Bool} (h : Cut s tt neg) {z : Int} (hz : Says s.data.toList z) : (∀ c ∈ tt.data.toList, IsDig c) ∧ z = if neg then -(dval tt.data.toList : Int) else (dval tt.data.toList : Int) := by
  rcases h with ⟨rfl, h1, h2⟩ | ⟨rfl, h1⟩
  · have := hz.pos h2
    rw [h1] at this
    simpa using this
  · rw [h1] at hz
    simpa using hz.neg

theorem NumOut.bad {s tt : ByteArray} {neg : Bool} {w W : World} (hc : Cut s tt neg) (hnd : ∃ c ∈ tt.data.toList, ¬ IsDig c) (hb : Below w.heap.size w W) : NumOut s w W (.agg #[.bool false, .slice none 0 0]) false := by
  refine ⟨⟨0, ⟨false, _, [], rfl, Own.nil _, ⟨Lo_nil, .inl rfl⟩, by simp, by simp [val], by simp⟩, (fun h => by cases h), fun _ z hz => ?_⟩, hb, AtB.none _ _ _ _⟩
  obtain ⟨c, hm, hd⟩ := hnd
  exact hd ((hc.says hz).1 c hm)
theorem NumOut.good {s tt : ByteArray} {neg b : Bool} {w W : World} {r : Value} {z : Int} {L : Nat} (hc : Cut s tt neg) (hn : IsN W r z L) (hL : L ≤ s.size + 1) (hz : z = if neg then -(dval tt.data.toList : Int) else (dval tt.data.toList : Int)) (hb : Below w.heap.size w W) (h : b = true ↔ s.data.toList = Lib.itoa z) (hat : AtB w.heap.size r) : NumOut s w W r b := by
  refine ⟨⟨z, hn.mono hL, h.1, fun hf z' hz' => ?_⟩, hb, hat⟩
  have e : z' = z := by rw [hz, (hc.says hz').2]
  rw [e] at hz'
  rw [h.2 hz'] at hf
  cases hf

theorem eqT {T s : ByteArray} {l : List UInt8} (h : T = ⟨l.toArray⟩) : (T.toList == s.toList) = true ↔ s.data.toList = l := by
  rw [beq_iff_eq, ByteArray.toList_eq, ByteArray.toList_eq, h]
  exact eq_comm
theorem head_tail (s : ByteArray) (h0 : 0 < s.size) : s.data.toList = (s[0]'h0) :: (s.extract 1 s.size).data.toList := by
  rw [ByteArray.data_extract, Array.toList_extract, List.extract_eq_take_drop]
  cases s with
  | mk d =>
    cases d with
    | mk l =>
      cases l with
      | nil => simp [ByteArray.size] at h0
      | cons c r =>
        simp only [ByteArray.size, List.size_toArray, List.length_cons, List.drop_succ_cons, List.drop_zero, Nat.add_sub_cancel, List.take_length]
        rfl

theorem pow_next {k pp : Nat} (h : pp = 10 ^ (k % 4)) : (if pp = 1000 then 1 else pp * 10) = 10 ^ ((k + 1) % 4) := by
  have hq : k % 4 = 0 ∨ k % 4 = 1 ∨ k % 4 = 2 ∨ k % 4 = 3 := by omega
  rcases hq with e | e | e | e
  · rw [h, e, show (k + 1) % 4 = 1 from by omega]; decide
  · rw [h, e, show (k + 1) % 4 = 2 from by omega]; decide
  · rw [h, e, show (k + 1) % 4 = 3 from by omega]; decide
  · rw [h, e, show (k + 1) % 4 = 0 from by omega]; decide
theorem le100 {k pp : Nat} (h : pp = 10 ^ (k % 4)) (hn : ¬ pp = 1000) : pp ≤ 100 := by
  have hq : k % 4 = 0 ∨ k % 4 = 1 ∨ k % 4 = 2 ∨ k % 4 = 3 := by omega
  rcases hq with e | e | e | e <;> rw [e] at h <;> omega

set_option maxRecDepth 100000 in
set_option maxHeartbeats 4000000 in
theorem number_any (s : ByteArray) (w : World) (hs : s.size ≤ 50000000000) :
    Calls Tryz.prog 161 #[.string s] w fun e w' => ∃ r b, e = .returned (.tuple #[r, .bool b]) ∧ NumOut s w w' r b := by
  obtain ⟨W0, hW0⟩ : ∃ W0, W0 = w.alloc (.cells #[.bool false, .slice none 0 0] 138) := ⟨_, rfl⟩
  have HW := Hid.mk hW0
  clear hW0
  have hcase : s.size = 0 ∨ (∃ h0 : 0 < s.size, (((s[0]'h0).toNat : Int) == 45) = false ∧ ∀ r, s.data.toList ≠ 45 :: r) ∨ (∃ h0 : 0 < s.size, (((s[0]'h0).toNat : Int) == 45) = true ∧ s.data.toList = 45 :: (s.extract 1 s.size).data.toList) := by
    rcases Nat.eq_zero_or_pos s.size with h0 | h0
    · exact .inl h0
    · by_cases h45 : (s[0]'h0) = 45
      · refine .inr (.inr ⟨h0, by rw [h45]; rfl, ?_⟩)
        rw [head_tail s h0, h45]
      · refine .inr (.inl ⟨h0, beq_eq_false_iff_ne.2 (fun e => h45 (UInt8.toNat_inj.1 (by have : ((s[0]'h0).toNat : Int) = ((45 : UInt8).toNat : Int) := e; omega))), fun r e => h45 ?_⟩)
        rw [head_tail s h0] at e
        injection e
  rcases hcase with h0 | ⟨h0, h45, hsl⟩ | ⟨h0, h45, hsl⟩
  case' inl =>
    have hne : s.toList.isEmpty = true := by rw [toList_empty]; exact decide_eq_true h0
    obtain ⟨neg, hneg⟩ : ∃ neg : Bool, neg = false := ⟨_, rfl⟩
    obtain ⟨tt, htt⟩ : ∃ tt, tt = s := ⟨_, rfl⟩
    obtain ⟨N, hN⟩ : ∃ N, N = tt.size / 4 + 1 := ⟨_, rfl⟩
    have HNG := Hid.mk hneg
    have HS : Hid (Cut s tt neg ∧ tt.size ≤ s.size) := Hid.mk ⟨.inl ⟨hneg, by rw [htt], fun r e => by
      have := congrArg List.length e
      simp at this; omega⟩, by rw [htt]; exact Nat.le_refl _⟩
    have HNN := Hid.mk hN
    have htt20 : tt.size ≤ 50000000000 := by rw [htt]; exact hs
    have HSZ : Hid (s.size = tt.size) := Hid.mk (by rw [htt])
    subst htt
    clear hN h0 hneg
    go_enter Tryz.func161, Tryz.ntmps161
    go_wp2_with (at_make; refine make_digits _ rfl _ _ rfl _ _ N rfl rfl ?_ ?_ ?_ ?_)
    · have := HNN.out; omega
    · have := HNN.out; omega
    · have := HNN.out; omega
  case' inr.inl =>
    have hne : s.toList.isEmpty = false := by rw [toList_empty]; exact decide_eq_false (by omega)
    obtain ⟨neg, hneg⟩ : ∃ neg : Bool, neg = false := ⟨_, rfl⟩
    obtain ⟨tt, htt⟩ : ∃ tt, tt = s := ⟨_, rfl⟩
    obtain ⟨N, hN⟩ : ∃ N, N = tt.size / 4 + 1 := ⟨_, rfl⟩
    have HNG := Hid.mk hneg
    have HS : Hid (Cut s tt neg ∧ tt.size ≤ s.size) := Hid.mk ⟨.inl ⟨hneg, by rw [htt], hsl⟩, by rw [htt]; exact Nat.le_refl _⟩
    have HNN := Hid.mk hN
    have htt20 : tt.size ≤ 50000000000 := by rw [htt]; exact hs
    have HSZ : Hid (s.size = tt.size) := Hid.mk (by rw [htt])
    subst htt
    clear hN hsl hneg
    go_enter Tryz.func161, Tryz.ntmps161
    go_wp2_with (at_make; refine make_digits _ rfl _ _ rfl _ _ N rfl rfl ?_ ?_ ?_ ?_)
    · have := HNN.out; omega
    · have := HNN.out; omega
    · have := HNN.out; omega
  case' inr.inr =>
    have hne : s.toList.isEmpty = false := by rw [toList_empty]; exact decide_eq_false (by omega)
    obtain ⟨neg, hneg⟩ : ∃ neg : Bool, neg = true := ⟨_, rfl⟩
    obtain ⟨tt, htt⟩ : ∃ tt, tt = s.extract 1 s.size := ⟨_, rfl⟩
    have HTT := Hid.mk htt
    obtain ⟨N, hN⟩ : ∃ N, N = tt.size / 4 + 1 := ⟨_, rfl⟩
    have HNG := Hid.mk hneg
    have HS : Hid (Cut s tt neg ∧ tt.size ≤ s.size) := Hid.mk ⟨.inr ⟨hneg, by rw [htt]; exact hsl⟩, by rw [htt, ByteArray.size_extract]; omega⟩
    have HNN := Hid.mk hN
    have htt20 : tt.size ≤ 50000000000 := by have := HS.out.2; omega
    have HSZ : Hid (s.size - 1 = tt.size) := Hid.mk (by rw [htt, ByteArray.size_extract]; omega)
    clear htt hN hsl hneg
    go_enter Tryz.func161, Tryz.ntmps161
    go_wp2_with (at_make; rw [← HTT.out, HSZ.out]; refine make_digits _ rfl _ _ rfl _ _ N rfl rfl ?_ ?_ ?_ ?_)
    · have := HNN.out; omega
    · have := HNN.out; omega
    · have := HNN.out; omega
  all_goals
    intro w1 hown hbel
    have hlt1 := hown.lt
    have hb0 : Below (w.heap.size + 1) W0 w1 := by rw [HW.out]; simpa using hbel
    have hw0 : W0.heap.size = w.heap.size + 1 := by rw [HW.out]; simp
    have HO := Hid.mk (And.intro hown hb0)
    clear hown hbel hb0
    go_wp2_with fail
    go_loopw [8, 9] (fun p i wr => ∃ (k pp : Nat) (zs : List Nat), k ≤ tt.size ∧ i = .int .i64 k ∧ 1 ≤ pp ∧ pp ≤ 1000 ∧ p = .int .i64 pp ∧ Hid (zs.length = N) ∧ Own wr (.slice (some ⟨w.heap.size + 1, 0, none⟩) N N) zs ∧ Below (w.heap.size + 1) W0 wr ∧ Hid (pp = 10 ^ (k % 4) ∧ Part tt.data.toList k zs)) (fun _ i _ => tt.size - (intOf i).toNat)
    case atStart => exact ⟨0, 1, _, Nat.zero_le _, rfl, by omega, by omega, rfl, Hid.mk List.length_replicate, HO.out.1, HO.out.2, Hid.mk ⟨rfl, Part.start _ _⟩⟩
    case round =>
      obtain ⟨k, pp, zs, hk, rfl, hp1, hp2, rfl, HZ, hown, hbel, HI⟩ := hrel
      have hwr := hbel.size
      have hltr := hown.lt
      have hbx : NBox wr w.heap.size (.bool false) (.slice none 0 0) := (NBox.new w (.bool false) (.slice none 0 0) rfl).below (by rw [← HW.out]; exact hbel) (by omega)
      have J := Hid.mk (And.intro hown (And.intro hbel hbx))
      by_cases hkn : k < tt.size
      · obtain ⟨q, hq⟩ : ∃ q, q = tt.size - 1 - k := ⟨_, rfl⟩
        have hqi : (tt.size : Int) - 1 - (k : Int) = (q : Int) := by omega
        have hql : q < tt.size := by omega
        have hqli : (q : Int) < (tt.size : Int) := by omega
        obtain ⟨c, hc⟩ : ∃ c, c = tt[q]'hql := ⟨_, rfl⟩
        have hcg : tt.data.toList[tt.data.toList.length - 1 - k]? = some c := by
          have e : tt.data.toList.length = tt.size := by simp
          rw [e, ← hq, List.getElem?_eq_getElem (by rw [e]; exact hql), hc]
          rfl
        have HCG := Hid.mk hcg
        have hce : (tt[q]'hql).toNat = c.toNat := by rw [hc]
        clear hc hcg hq
        by_cases hd : IsDig c
        · have d1 : 48 ≤ c.toNat := hd.1
          have d2 : c.toNat ≤ 57 := hd.2
          have e1 : decide ((c.toNat : Int) < 48) = false := decide_eq_false (by omega)
          have e2 : decide (57 < (c.toNat : Int)) = false := decide_eq_false (by omega)
          have e1' : decide (c.toNat < 48) = false := decide_eq_false (by omega)
          have e2' : decide (57 < c.toNat) = false := decide_eq_false (by omega)
          have HDG := Hid.mk hd
          obtain ⟨dd, hdd⟩ : ∃ dd, dd = c.toNat - 48 := ⟨_, rfl⟩
          have hdi : (c.toNat : Int) - 48 = (dd : Int) := by omega
          have hd9 : dd ≤ 9 := by omega
          obtain ⟨g, hg⟩ : ∃ g, g = k / 4 := ⟨_, rfl⟩
          have hgi : (k : Int) / 4 = (g : Int) := by omega
          have hgN : g < N := by have := HNN.out; omega
          have hgNi : (g : Int) < (N : Int) := by omega
          obtain ⟨x, hx⟩ : ∃ x, x = zs.getD g 0 := ⟨_, rfl⟩
          have c1 := hown.cell HZ.out g hgN
          have c2 := hown.frozen HZ.out g
          rw [← hx] at c1
          obtain ⟨pd, hpd⟩ : ∃ pd, pd = pp * dd := ⟨_, rfl⟩
          have hpdi : (pp : Int) * (dd : Int) = (pd : Int) := by rw [hpd]; exact (Int.natCast_mul pp dd).symm
          have hxp : x + pd < 10000 ∧ x < 10000 := by
            have h3 := HI.out.2.2.2.1
            rw [← HI.out.1, ← hg, ← hx] at h3
            have : pp * dd ≤ pp * 9 := Nat.mul_le_mul_left _ hd9
            omega
          obtain ⟨hx1, hx2⟩ := hxp
          have HX := Hid.mk (And.intro hx (And.intro hpd (And.intro hg hdd)))
          clear hd hdd hx hpd hg hown hbel hbx
          have HNX : Hid (Part tt.data.toList (k + 1) (zs.set g (x + pd)) ∧ (if pp = 1000 then 1 else pp * 10) = 10 ^ ((k + 1) % 4)) := Hid.mk (by
            obtain ⟨hx, hpd, hg, hdd⟩ := HX.out
            obtain ⟨hi1, hi2⟩ := HI.out
            have hl : tt.data.toList.length = tt.size := by simp
            have := hi2.next (by omega) (by have := HZ.out; have := HNN.out; omega) c HCG.out HDG.out
            rw [← hi1, ← hg, ← hdd, ← hx, ← hpd] at this
            refine ⟨this, ?_⟩
            exact pow_next hi1)
          by_cases hp10 : pp = 1000
          · subst hp10
            go_wp2_with fail
            go_roundw
            case measure => simp [intOf]; omega
            case rel => exact ⟨k + 1, 1, zs.set g (x + pd), by omega, by go_num, by omega, by omega, rfl, Hid.mk (by rw [List.length_set]; exact HZ.out), J.out.1.stored_int HZ.out g _ (by rw [show (1000 : Int) * (dd : Int) = (pd : Int) from hpdi]; omega), J.out.2.1.setCell (by simp) _, Hid.mk ⟨HNX.out.2, HNX.out.1⟩⟩
          · have hpn : ((pp : Int) * 10 == 10000) = false := beq_eq_false_iff_ne.2 (by omega)
            have hpp : pp ≤ 100 := le100 HI.out.1 hp10
            go_wp2_with fail
            go_roundw
            case measure => simp [intOf]; omega
            case rel =>
              have h9 := HNX.out.2
              rw [if_neg hp10] at h9
              exact ⟨k + 1, pp * 10, zs.set g (x + pd), by omega, by go_num, by omega, by omega, by go_num, Hid.mk (by rw [List.length_set]; exact HZ.out), J.out.1.stored_int HZ.out g _ (by omega), J.out.2.1.setCell (by simp) _, Hid.mk ⟨h9, HNX.out.1⟩⟩
        · have HDG := Hid.mk hd
          obtain ⟨a1, a2, a3, a4⟩ := hbx.cells
          have a5 := hbx.put1 (.bool false)
          have hnd : ∃ c ∈ tt.data.toList, ¬ IsDig c := ⟨c, List.mem_of_getElem? HCG.out, hd⟩
          have hbw : Below w.heap.size w wr := Below.trans ((Below.refl _ _).alloc (Nat.le_refl _) _) ((by rw [← HW.out]; exact hbel : Below (w.heap.size + 1) (w.alloc (.cells #[.bool false, .slice none 0 0] 138)) wr).mono (by omega))
          have HND := Hid.mk (And.intro hnd hbw)
          clear hown hbel hbx hnd hbw hd
          by_cases hlo : c.toNat < 48
          · have e1 : decide ((c.toNat : Int) < 48) = true := decide_eq_true (by omega)
            have e1' : decide (c.toNat < 48) = true := decide_eq_true (by omega)
            go_wp2_with fail
            refine bodyPost_ret (v := .tuple #[.agg #[.bool false, .slice none 0 0], .bool false]) ?_ rfl ?_
            · obtain ⟨q1, q2, -, -⟩ := (J.out.2.2.put (.bool false) (.slice none 0 0)).cells
              (simp [results, Tryz.results161, go_sem, q1, q2]; done)
            · exact ⟨_, _, rfl, NumOut.bad HS.out.1 HND.out.1 ((HND.out.2.setCell (by simp) _).setCell (by simp) _)⟩
          · have e1 : decide ((c.toNat : Int) < 48) = false := decide_eq_false (by omega)
            have e2 : decide (57 < (c.toNat : Int)) = true := decide_eq_true (by have := HDG.out; unfold IsDig at this; omega)
            have e1' : decide (c.toNat < 48) = false := decide_eq_false (by omega)
            have e2' : decide (57 < c.toNat) = true := decide_eq_true (by have := HDG.out; unfold IsDig at this; omega)
            go_wp2_with fail
            refine bodyPost_ret (v := .tuple #[.agg #[.bool false, .slice none 0 0], .bool false]) ?_ rfl ?_
            · obtain ⟨q1, q2, -, -⟩ := (J.out.2.2.put (.bool false) (.slice none 0 0)).cells
              (simp [results, Tryz.results161, go_sem, q1, q2]; done)
            · exact ⟨_, _, rfl, NumOut.bad HS.out.1 HND.out.1 ((HND.out.2.setCell (by simp) _).setCell (by simp) _)⟩
      · have hke : k = tt.size := by omega
        have HKE := Hid.mk hke
        clear hown hbel hbx hke
        go_wp2_with fail
        refine (made_at _ _ zs wr J.out.1 HI.out.2.1).mono ?_
        rintro e w2 ⟨r, rfl, hr, hb2, hmo⟩
        have HAT : Hid (AtB w.heap.size r) := Hid.mk (by
          obtain ⟨ao, n, cp, k, e1, b, e2⟩ := hmo
          simp only [Value.slice.injEq] at e1
          obtain ⟨rfl, rfl, rfl⟩ := e1
          rw [e2]
          exact AtB.at_ (by omega) _ _ _ _ _)
        clear hmo
        obtain ⟨zz, hzz⟩ : ∃ zz : Int, zz = (if neg then -(val zs : Int) else (val zs : Int)) := ⟨_, rfl⟩
        replace hr : IsN w2 r zz zs.length := by rw [hzz, HNG.out]; exact hr
        have HZZ := Hid.mk hzz
        clear hzz
        obtain ⟨nc, co, ecap, ws, rfl, -⟩ := id hr.parts
        have hb2s := hb2.size
        have BX := J.out.2.2.below hb2 J.out.2.2.lt
        have K := Hid.mk (And.intro hr (And.intro (J.out.2.1.trans (hb2.mono (by omega))) BX))
        clear hr hb2 BX
        obtain ⟨P, hP⟩ : ∃ P, P = w2.heap.size := ⟨_, rfl⟩
        have HP := Hid.mk hP
        go_wp2_with fail
        rw [← hP]
        clear hP
        have hzl : zs.length ≤ 50000000000 := by have := HZ.out; have := HNN.out; omega
        refine (text_any _ zz zs.length _ (K.out.1.below ((Below.refl _ _).alloc (Nat.le_refl _) _)) hzl).mono ?_
        rintro e w3 ⟨rfl, hb3⟩
        have hb3s := hb3.size
        simp at hb3s
        have BA := (NBox.new w2 (.bool nc) (.slice co ws.length ecap) HP.out).below hb3 (by simp; have := HP.out; omega)
        have BX := K.out.2.2.below ((Below.refl _ _).alloc (Nat.le_refl _) _) K.out.2.2.lt |>.below hb3 (by simp; have := K.out.2.2.lt; omega)
        obtain ⟨a1, a2, -, -⟩ := BA.cells
        obtain ⟨b1, b2, b3, b4⟩ := BX.cells
        have b5 := BX.put1 (.bool nc)
        have M := Hid.mk (And.intro BX (And.intro ((K.out.1.below ((Below.refl _ _).alloc (Nat.le_refl _) _)).below hb3) hb3))
        clear BA BX hb3
        obtain ⟨T, hT⟩ : ∃ T : ByteArray, T = ⟨(Lib.itoa zz).toArray⟩ := ⟨_, rfl⟩
        have HT := Hid.mk hT
        rw [← hT]
        clear hT
        go_wp2_with fail
        first
          | refine bodyPost_ret (v := .tuple #[.agg #[.bool nc, .slice co ws.length ecap], .bool (T.toList == s.toList)]) ?_ rfl ?_
          | refine bodyPost_ret (v := .tuple #[.agg #[.bool nc, .slice co ws.length ecap], .bool (T.toList == tt.toList)]) ?_ rfl ?_
        · obtain ⟨q1, q2, -, -⟩ := (M.out.1.put (.bool nc) (.slice co ws.length ecap)).cells
          (simp [results, Tryz.results161, go_sem, q1, q2]; done)
        · refine ⟨_, _, rfl, NumOut.good HS.out.1 (M.out.2.1.box M.out.1.ty (by decide) (.bool nc) (.slice co ws.length ecap)) ?_ ?_ ?_ (eqT HT.out) HAT.out⟩
          · have := HZ.out; have := HNN.out; have := HS.out.2; omega
          · have := HI.out.2.2.1
            rw [HKE.out, show tt.size = tt.data.toList.length from by simp, Nat.sub_self, List.drop_zero] at this
            rw [HZZ.out, this]
          · have hbw : Below w.heap.size w w2 := Below.trans ((Below.refl _ _).alloc (Nat.le_refl _) _) ((by rw [← HW.out]; exact K.out.2.1 : Below (w.heap.size + 1) (w.alloc (.cells #[.bool false, .slice none 0 0] 138)) w2).mono (by omega))
            have hb4 : Below w.heap.size w w3 := (hbw.trans ((Below.refl _ _).alloc (by have := hbw.size; omega) _)).trans (M.out.2.2.mono (by simp; have := hbw.size; omega))
            exact (hb4.setCell (by simp) _).setCell (by simp) _
end Go.Proofs.YtfjbijpagaipnaaGreatDoor.R
