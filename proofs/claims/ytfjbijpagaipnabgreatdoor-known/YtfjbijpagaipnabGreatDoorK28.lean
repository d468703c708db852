import Derived.Test.YtfjbijpagaipnabGreatDoorK27
import Derived.Test.YtfjbijpagaipnabGreatDoorK25
import Derived.Lib.ItoaLen
import Derived.Test.YtfjbijpagaipnabGreatDoorK01
namespace Go.Proofs.YtfjbijpagaipnabGreatDoor
open Go.RowKit
def dd : Nat → Nat → List UInt8
 | 0, u => [UInt8.ofNat (48 + u)]
 | n + 1, u => if u < 10 then [UInt8.ofNat (48 + u)] else dd n (u / 10) ++ [UInt8.ofNat (48 + u % 10)]
theorem dd_is : ∀ n u, u < 10 ^ (n + 1) → Lib.decDigits u = dd n u
 | 0, u, h => by rw [Lib.decDigits_one (by simpa using h)]; rfl
 | n + 1, u, h => by
   unfold dd
   by_cases h1 : u < 10
   ·rw [if_pos h1, Lib.decDigits_one h1]
   ·rw [if_neg h1, decDigits_big h1, dd_is n (u / 10) (by rw [Nat.pow_succ] at h; omega)]
def itC (z : Int) : List UInt8 := if z < 0 then 45 :: dd 20 z.natAbs else dd 20 z.toNat
theorem itC_is {z : Int} (h : z.natAbs < 4611686018427387904) : Lib.itoa z = itC z := by
 unfold Lib.itoa itC
 by_cases h1 : z < 0
 ·rw [if_pos h1, if_pos h1, dd_is 20 _ (Nat.lt_of_lt_of_le h (by decide))]
 ·rw [if_neg h1, if_neg h1, dd_is 20 _ (Nat.lt_of_lt_of_le (show z.toNat < 4611686018427387904 by omega) (by decide))]
def matC (r c : Nat) (zs : List Int) : List UInt8 := dd 20 r ++ (120 :: (dd 20 c ++ (58 :: bodyT c 0 (zs.map itC))))
theorem matC_is {r c : Nat} {zs : List Int} (hr : r ≤ 99) (hc : c ≤ 99) (h : ∀ z ∈ zs, z.natAbs < 4611686018427387904) : matT r c zs = matC r c zs := by
 unfold matT matC
 rw [dd_is 20 r (Nat.lt_of_le_of_lt hr (by decide)), dd_is 20 c (Nat.lt_of_le_of_lt hc (by decide)), List.map_congr_left (fun z hz => itC_is (h z hz))]
def EchB (x : Fm) : Prop :=
 x.fs.length = x.r * x.c ∧ (∀ z ∈ x.fs, z.natAbs < 4611686018427387904) ∧
 (x.k ≤ x.r ∧ x.k ≤ x.c ∧
  (∀ b, b < x.k → x.pc.getD b 0 < x.c) ∧
  (∀ b, b < x.k → ∀ a, a < b → x.pc.getD a 0 < x.pc.getD b 0) ∧
  (∀ b, b < x.k → 0 < ent x.c x.fs b (x.pc.getD b 0)) ∧
  (∀ b, b < x.k → ∀ j, j < x.pc.getD b 0 → ent x.c x.fs b j = 0) ∧
  (∀ b, b < x.k → ∀ i, i < x.r → b < i → ent x.c x.fs i (x.pc.getD b 0) = 0) ∧
  (∀ b, b < x.k → ∀ i, i < b → 0 ≤ ent x.c x.fs i (x.pc.getD b 0) ∧ ent x.c x.fs i (x.pc.getD b 0) < ent x.c x.fs b (x.pc.getD b 0)) ∧
  (∀ i, i < x.r → x.k ≤ i → ∀ j, j < x.c → ent x.c x.fs i j = 0)) ∧
 ((∀ i, i < x.r → ∀ j, j < x.c → dot (ent x.r x.us) (ent x.c x.zs) i j x.r = ent x.c x.fs i j) ∧
  (∀ i, i < x.r → ∀ j, j < x.r → dot (ent x.r x.us) (ent x.r x.ws) i j x.r = kd i j) ∧
  (∀ i, i < x.r → ∀ j, j < x.r → dot (ent x.r x.ws) (ent x.r x.us) i j x.r = kd i j) ∧
  (∀ i, i < x.r → ∀ j, j < x.c → dot (ent x.r x.ws) (ent x.c x.fs) i j x.r = ent x.c x.zs i j))
def decEch (x : Fm) : Decidable (EchB x) := by unfold EchB; infer_instance
def DgB (x : Fm) : Prop :=
 x.ds.length = x.r * x.c ∧ (∀ z ∈ x.ds, z.natAbs < 4611686018427387904) ∧
 (∀ i, i < x.r → ∀ j, j < x.c → i ≠ j → ent x.c x.ds i j = 0) ∧
 (∀ i, i < x.r → ∀ j, j < x.r → i < x.c → j < x.c → i ≤ j → ent x.c x.ds j j % ent x.c x.ds i i = 0) ∧
 (∀ i, i < x.k → 0 < ent x.c x.ds i i) ∧
 (∀ i, i < x.r → x.k ≤ i → i < x.c → ent x.c x.ds i i = 0) ∧
 (∀ m, m < 5 → R.divF (ent x.c x.zs) x.r x.c m = R.divF (ent x.c x.ds) x.r x.c m)
def decDg (x : Fm) : Decidable (DgB x) := by
  unfold DgB
  exact @instDecidableAnd _ _ inferInstance (@instDecidableAnd _ _ inferInstance (@instDecidableAnd _ _ inferInstance (@instDecidableAnd _ _ inferInstance (@instDecidableAnd _ _ inferInstance (@instDecidableAnd _ _ inferInstance inferInstance)))))
def RkB (x : Fm) : Prop := x.k ≤ x.r ∧ x.k ≤ x.c ∧ (∀ i, i < x.k → R.divF (ent x.c x.zs) x.r x.c (i + 1) ≠ 0) ∧ (x.k = x.r ∨ x.k = x.c ∨ R.divF (ent x.c x.zs) x.r x.c (x.k + 1) = 0)
def decRk (x : Fm) : Decidable (RkB x) := by unfold RkB; infer_instance
def TxB (x : Fm) : Prop :=
 (x.r ≤ 4 ∧ x.c ≤ 4 ∧ ∀ t, t < x.r * x.c → (x.zs.getD t 0).natAbs < 281474976710656) ∧ x.zs.length = x.r * x.c ∧ (∀ z ∈ x.zs, z.natAbs < 4611686018427387904) ∧
 x.m = matC x.r x.c x.zs ∧ x.rk = itC x.k ∧ (R.divF (ent x.c x.zs) x.r x.c x.k < 4611686018427387904 ∧ x.ix = itC (R.divF (ent x.c x.zs) x.r x.c x.k)) ∧
 ((x.r ≠ x.c ∧ x.dt = []) ∨ (x.r = x.c ∧ (detF x.r (ent x.c x.zs)).natAbs < 4611686018427387904 ∧ x.dt = itC (detF x.r (ent x.c x.zs)))) ∧
 (x.fo = [63] ∨ (x.fo = matC x.r x.c x.fs ∧ EchB x)) ∧ x.dg = matC x.r x.c x.ds ∧ x.dg ≠ [63] ∧ x.m.length ≤ 4000
def decTx (x : Fm) : Decidable (TxB x) := by
  haveI := decEch x
  unfold TxB
  infer_instance
def RfB (x : Rf) : Prop :=
 x.t.length ≤ 4000 ∧ ((x.e = 1 ∧ wrB x.t = false) ∨
 (x.zs.length = x.r * x.c ∧ x.r ≤ 99 ∧ x.c ≤ 99 ∧ (∀ z ∈ x.zs, z.natAbs < 4611686018427387904) ∧ x.t = matC x.r x.c x.zs ∧
  ((x.e = 4 ∧ ¬ (x.r ≤ 4 ∧ x.c ≤ 4 ∧ ∀ t, t < x.r * x.c → (x.zs.getD t 0).natAbs < 281474976710656)) ∨ (x.e = 0 ∧ (x.r ≤ 4 ∧ x.c ≤ 4 ∧ ∀ t, t < x.r * x.c → (x.zs.getD t 0).natAbs < 281474976710656)))))
def decRf (x : Rf) : Decidable (RfB x) := by unfold RfB; infer_instance
theorem fms_tx : ∀ x ∈ fms, TxB x := @of_decide_eq_true _ (@List.decidableBAll Fm TxB decTx fms) (by kernel_rfl)
theorem fms_rk : ∀ x ∈ fms, RkB x := @of_decide_eq_true _ (@List.decidableBAll Fm RkB decRk fms) (by kernel_rfl)
theorem fms_dg : ∀ x ∈ fms, DgB x := @of_decide_eq_true _ (@List.decidableBAll Fm DgB decDg fms) (by kernel_rfl)
theorem rfs_ok : ∀ x ∈ rfs, RfB x := @of_decide_eq_true _ (@List.decidableBAll Rf RfB decRf rfs) (by kernel_rfl)
theorem EchB.form {x : Fm} (h : EchB x) {k : Nat} {pc : Nat → Nat} {hs us ws : List Int} (hE : EchIs x.r x.c x.zs k pc hs us ws) : hs = x.fs := by
 obtain ⟨h1, -, ⟨a1, a2, a3, a4, a5, a6, a7, a8, a9⟩, b1, b2, b3, b4⟩ := h
 have st : EchSt x.r x.c x.k (fun b => x.pc.getD b 0) (ent x.c x.fs) := ⟨a1, a2, a3, fun a b hab hb => a4 b hb a hab, a5, a6, fun b hb i hi hr => a7 b hb i hr hi, a8, fun i hi hr j hj => a9 i hr hi j hj⟩
 have inv : EInv (ent x.c x.zs) (ent x.c x.fs) (ent x.r x.us) (ent x.r x.ws) x.r x.c := ⟨fun i j hi hj => b1 i hi j hj, fun i j hi hj => b2 i hi j hj, fun i j hi hj => b3 i hi j hj, fun i j hi hj => b4 i hi j hj⟩
 obtain ⟨rfl, e⟩ := (same_span hE.st hE.inv st inv).2 ⟨fun i hi => Sp.row _ _ hi, fun i hi => Sp.row _ _ hi⟩
 refine list_ent hE.lh h1 fun i j hi hj => ?_
 by_cases hk : i < x.k
 ·exact e i j hk hj
 ·rw [hE.st.rest i (by omega) hi j hj, st.rest i (by omega) hi j hj]
theorem RkB.is {x : Fm} (h : RkB x) : R.RankIs (ent x.c x.zs) x.r x.c x.k := h
theorem DgB.diag {x : Fm} (h : DgB x) (hr : RkB x) (hc : x.c ≤ 4) {y : D5} (hD : DgIs x.r x.c x.zs y) (hl : y.d.length = x.r * x.c) : y.d = x.ds := by
 obtain ⟨h1, -, h2, h3, h4, h5, h6⟩ := h
 obtain ⟨k, lk⟩ := hD.low
 obtain rfl := R.rankIs_uniq (fun m _ => rfl) hc hr.is lk.rk
 have chain : ∀ n i j, j = i + n → j < x.r → j < x.c → ent x.c y.d i i ∣ ent x.c y.d j j := by
  intro n
  induction n with
  | zero => intro i j e _ _; rw [e]; exact Int.dvd_refl _
  | succ n ih =>
    intro i j e hr hc
    subst e
    exact Int.dvd_trans (ih i (i + n) rfl (by omega) (by omega)) (hD.div (i + n) (by omega) (by omega))
 have k4 := lk.k4
 have kr := lk.low.kr
 have kc := lk.low.kc
 have p2 : ∀ m, m ≤ x.k → 0 < R.pr (ent x.c x.ds) 0 m := fun m hm => R.pr_pos m 0 (fun i _ hi => h4 i (by omega))
 have e1 : ∀ m, m ≤ x.k → R.pr (ent x.c y.d) 0 m = R.pr (ent x.c x.ds) 0 m := by
  intro m hm
  have a := R.chain_div (m := m) hD.diag (fun i j hij hr hc => chain (j - i) i j (by omega) hr hc) (by omega) (by omega) (by omega)
  have b := R.chain_div (X := ent x.c x.ds) (r := x.r) (c := x.c) (m := m) (fun i j hi hj hne => h2 i hi j hj hne) (fun i j hij hr hc => Int.dvd_of_emod_eq_zero (h3 i (by omega) j hr (by omega) hc hij)) (by omega) (by omega) (by omega)
  have a' : R.divF (ent x.c y.d) x.r x.c m = R.divF (ent x.c x.zs) x.r x.c m := R.run_div hD.run (by omega)
  have p1 := lk.low.pr_pos hm
  have p2 := p2 m hm
  have := h6 m (by omega)
  omega
 have e2 := R.diag_eq e1 (fun m hm => lk.low.pr_pos hm)
 refine list_ent hl h1 fun i j hi hj => ?_
 by_cases e : i = j
 ·subst e
  by_cases hk : i < x.k
  ·exact e2 i hk
  ·rw [lk.low.out i i hi hj (.inl (by omega)), h5 i hi (by omega) hj]
 ·rw [hD.diag i j hi hj e, h2 i hi j hj e]
theorem writes_txt {r c : Nat} {zs : List Int} (hl : zs.length = r * c) (hz : ∀ z ∈ zs, z.natAbs < 4611686018427387904) : Writes ⟨(matT r c zs).toArray⟩ r c zs 4000 := by
 have hget : ∀ t, t < r * c → (zs.map Lib.itoa).getD t [] = Lib.itoa (zs.getD t 0) := fun t ht => by
  simp [List.getD, List.getElem?_map, List.getElem?_eq_getElem (show t < zs.length from by omega)]
 refine ⟨Lib.decDigits r, Lib.decDigits c, zs.map Lib.itoa, rfl, decDigits_run r, decDigits_run c, (decDigits_facts r).2.2.1, (decDigits_facts c).2.2.1, by simp [hl], hl, fun t ht => ?_⟩
 rw [hget t ht]
 have hm : zs.getD t 0 ∈ zs := by rw [List.getD, List.getElem?_eq_getElem (show t < zs.length from by omega)]; exact List.getElem_mem _
 have := hz _ hm
 exact ⟨tok_itoa _, Nat.le_trans (Lib.itoa_length_le _ (by omega) (by omega)) (by decide)⟩
structure Kn (x : Fm) : Prop where
 fits : FitsP x.r x.c x.zs
 len : x.zs.length = x.r * x.c
 wr : Writes ⟨x.m.toArray⟩ x.r x.c x.zs 4000
 size : x.m.length ≤ 4000
 txt : matT x.r x.c x.zs = x.m
 rank : ∀ k, R.RankIs (ent x.c x.zs) x.r x.c k → Lib.itoa (k : Int) = x.rk
 index : ∀ k, R.RankIs (ent x.c x.zs) x.r x.c k → Lib.itoa ((R.divF (ent x.c x.zs) x.r x.c k : Nat) : Int) = x.ix
 nodet : x.r ≠ x.c → x.dt = []
 det : x.r = x.c → Lib.itoa (detF x.r (ent x.c x.zs)) = x.dt
 form : x.fo = [63] ∨ ∀ k pc hs us ws, EchIs x.r x.c x.zs k pc hs us ws → matT x.r x.c hs = x.fo
 diag : ∀ y : D5, DgIs x.r x.c x.zs y → y.d.length = x.r * x.c → matT x.r x.c y.d = x.dg
 dgq : x.dg ≠ [63]
theorem kn_all {k : Nat} {x : Fm} (hk : fms[k]? = some x) : Kn x := by
 have hm := List.mem_of_getElem? hk
 obtain ⟨t1, t2, t3, t4, t5, ⟨t6, t7⟩, t8, t9, t10, t11, t12⟩ := fms_tx x hm
 have hr := fms_rk x hm
 have hd := fms_dg x hm
 have hr4 := t1.1
 have hc4 := t1.2.1
 have et : matT x.r x.c x.zs = x.m := by rw [t4]; exact matC_is (by omega) (by omega) t3
 have ek : ∀ k, R.RankIs (ent x.c x.zs) x.r x.c k → k = x.k := fun k h => R.rankIs_uniq (fun m _ => rfl) hc4 h hr.is
 refine ⟨t1, t2, by rw [← et]; exact writes_txt t2 t3, t12, et, fun k h => ?_, fun k h => ?_, fun h => ?_, fun h => ?_, ?_, fun y h hl => ?_, t11⟩
 ·have := hr.1
  rw [ek k h, t5]; exact itC_is (by omega)
 ·rw [ek k h, t7]; exact itC_is (by omega)
 ·rcases t8 with t8 | t8
  ·exact t8.2
  ·exact absurd t8.1 h
 ·rcases t8 with t8 | t8
  ·exact absurd h t8.1
  ·rw [t8.2.2]; exact itC_is t8.2.1
 ·rcases t9 with t9 | t9
  ·exact .inl t9
  ·refine .inr fun k pc hs us ws h => ?_
   rw [t9.2.form h, t9.1]
   exact matC_is (by omega) (by omega) t9.2.2.1
 ·rw [hd.diag hr hc4 h hl, t10]
  exact matC_is (by omega) (by omega) hd.2.1
theorem rf_all {k : Nat} {x : Rf} (hk : rfs[k]? = some x) : x.t.length ≤ 4000 ∧ ((x.e = 1 ∧ ¬ Wr ⟨x.t.toArray⟩) ∨ (∃ r c zs, r ≤ 99 ∧ c ≤ 99 ∧ Writes ⟨x.t.toArray⟩ r c zs 4000 ∧ ((x.e = 4 ∧ ¬ FitsP r c zs) ∨ (x.e = 0 ∧ FitsP r c zs)))) := by
 obtain ⟨h1, h2⟩ := rfs_ok x (List.mem_of_getElem? hk)
 refine ⟨h1, ?_⟩
 rcases h2 with ⟨h2, h3⟩ | ⟨h2, h3, h4, h5, h6, h7⟩
 ·exact .inl ⟨h2, not_wr h3⟩
 ·refine .inr ⟨x.r, x.c, x.zs, h3, h4, ?_, h7⟩
  rw [h6, ← matC_is h3 h4 h5]
  exact writes_txt h2 h5
open Go.RowKit
theorem nine_app (k : Nat) : (⟨(List.replicate k (57 : UInt8)).toArray⟩ : ByteArray) ++ ⟨#[57]⟩ = ⟨(List.replicate (k + 1) (57 : UInt8)).toArray⟩ := by
 apply ByteArray.ext
 have h : (List.replicate k (57 : UInt8)).toArray ++ [57].toArray = (List.replicate (k + 1) (57 : UInt8)).toArray := by rw [List.append_toArray, List.replicate_succ']
 simpa using h
set_option maxRecDepth 100000 in
set_option maxHeartbeats 2000000 in
theorem nines_any (n : Nat) (w : World) (hn : n ≤ 4000) : Calls Tryz.prog 31 #[.int .i64 n] w fun x w' => x = .returned (.string ⟨(List.replicate n 57).toArray⟩) ∧ Below w.heap.size w w' := by
 go_enter Tryz.func31, Tryz.ntmps31
 go_wp2_with fail
 go_loopw [3, 4] (fun v i wr => ∃ k : Nat, k ≤ n ∧ i = .int .i64 k ∧ v = .string ⟨(List.replicate k (57 : UInt8)).toArray⟩ ∧ Below w.heap.size w wr) (fun _ i _ => n - (intOf i).toNat)
 case atStart => exact ⟨0, Nat.zero_le _, rfl, rfl, Below.refl _ _⟩
 case round =>
  obtain ⟨k, hk, rfl, rfl, hB⟩ := hrel
  have HB := Hid.mk hB
  clear hB
  have e := nine_app k
  have hsz : (⟨(List.replicate k (57 : UInt8)).toArray⟩ : ByteArray).size = k := by
   show (List.replicate k (57 : UInt8)).toArray.size = k
   simp
  generalize hS : (⟨(List.replicate k (57 : UInt8)).toArray⟩ : ByteArray) = S at *
  have HE := Hid.mk (And.intro e hS)
  clear e hS
  by_cases hkn : k < n
  ·go_wp2_with fail
   go_roundw
   case measure => simp [intOf]; omega
   case rel => exact ⟨k + 1, hkn, by go_num, by rw [← HE.out.1], HB.out⟩
  ·obtain rfl : k = n := by omega
   go_wp2_with fail
   go_ret
   exact ⟨by rw [HE.out.2]; rfl, HB.out⟩
open Go.RowKit
theorem nines_val : ∀ n, 15 ≤ n → 281474976710656 ≤ decval (List.replicate n 57)
 | 0, h => by omega
 | n + 1, h => by
   rw [List.replicate_succ', decval_snoc]
   by_cases h1 : n = 14
   ·subst h1; decide +kernel
   ·have := nines_val n (by omega)
    omega
theorem nines_run (n : Nat) (h : 0 < n) : Run (List.replicate n 57) := by
 obtain ⟨k, rfl⟩ : ∃ k, n = k + 1 := ⟨n - 1, by omega⟩
 refine ⟨by simp, fun c hc => ?_, .inr ⟨57, List.replicate k 57, by rw [List.replicate_succ], by decide⟩⟩
 rw [(List.mem_replicate.1 hc).2]
 decide
theorem nines_writes (n : Nat) (h : 0 < n) (h4 : n ≤ 4000) : Writes ((⟨#[49, 120, 49, 58, 32]⟩ : ByteArray) ++ ⟨(List.replicate n 57).toArray⟩) 1 1 [(decval (List.replicate n 57) : Int)] 4000 := by
 refine ⟨[49], [49], [List.replicate n 57], ?_, ⟨by simp, fun c hc => ?_, .inl rfl⟩, ⟨by simp, fun c hc => ?_, .inl rfl⟩, by decide, by decide, rfl, rfl, fun t ht => ?_⟩
 ·simp [bodyT]
 ·simp at hc; subst hc; decide
 ·simp at hc; subst hc; decide
 ·obtain rfl : t = 0 := by omega
  exact ⟨.inl ⟨nines_run n h, rfl⟩, by simp; omega⟩
theorem nines_unfit (n : Nat) (h : 15 ≤ n) : ¬ FitsP 1 1 [(decval (List.replicate n 57) : Int)] := fun hf => by
 have h1 := hf.2.2 0 (by omega)
 have h2 := nines_val n h
 simp at h1
 omega
theorem nines_size (n : Nat) : ((⟨#[49, 120, 49, 58, 32]⟩ : ByteArray) ++ ⟨(List.replicate n 57).toArray⟩).size = n + 5 := by
 rw [ByteArray.size_append]
 show 5 + (List.replicate n (57 : UInt8)).toArray.size = n + 5
 simp; omega
set_option maxRecDepth 100000 in
set_option maxHeartbeats 2000000 in
theorem longest_any (B d b : Nat) (w : World) (hk : KL B w d b []) :
 Calls Tryz.prog 14 #[.pointer (some ⟨d, 0, none⟩)] w fun x w' => x = .returned (.bool true) ∧ Below w.heap.size w w' := by
 have HK := Hid.mk hk
 clear hk
 go_enter Tryz.func14, Tryz.ntmps14
 go_wp2_with fail
 refine (nines_any 3995 _ (by omega)).mono ?_
 rintro x w1 ⟨rfl, hb1⟩
 have hw := nines_writes 3995 (by omega) (by omega)
 have hu := nines_unfit 3995 (by omega)
 have hsz := nines_size 3995
 have hs9 : (⟨(List.replicate 3995 (57 : UInt8)).toArray⟩ : ByteArray).size = 3995 := by
  show (List.replicate 3995 (57 : UInt8)).toArray.size = 3995
  simp
 generalize (⟨(List.replicate 3995 (57 : UInt8)).toArray⟩ : ByteArray) = S at *
 generalize (decval (List.replicate 3995 57) : Int) = z at *
 have H := Hid.mk (And.intro hw (And.intro hu (And.intro hsz hb1)))
 have c0 := (HK.out.below hb1).dk.cell
 clear hw hu hsz hb1
 go_wp2_with fail
 refine (type_yes b _ 1 1 [z] (stk []) 0 _ (HK.out.below H.out.2.2.2).held (by omega) (by rw [H.out.2.2.1]; omega) (by omega) (by omega) H.out.1).mono ?_
 rintro x w2 ⟨h, e, rfl, ho⟩
 rcases ho with ⟨rfl, rfl, -, hb2⟩ | ⟨-, -, hf, -⟩ | ⟨-, -, hf, -⟩
 ·have K := Hid.mk (H.out.2.2.2.trans (hb2.mono H.out.2.2.2.size))
  have c1 := (HK.out.below K.out).dk.cell
  clear hb2 c0
  go_wp2_with fail
  refine (type_no b _ _ (.inl ?_)).mono ?_
  ·rw [ByteArray.size_append, H.out.2.2.1]
   show 4000 < 3995 + 5 + 1
   omega
  rintro x w3 ⟨rfl, hb3⟩
  have K3 := Hid.mk (K.out.trans (hb3.mono K.out.size))
  clear hb3
  go_wp2_with fail
  go_ret
  exact ⟨rfl, K3.out⟩
 ·exact absurd hf H.out.2.1
 ·exact absurd hf H.out.2.1
open Go.RowKit
theorem shown_stk (B d b g r c : Nat) (zs : List Int) (l : List KMx) (w : World) (hk : KL B w d b l) (hl : l.length ≤ 24) (hg : l[g]? = some (r, c, zs)) :
 Calls Tryz.prog 20 #[.pointer (some ⟨d, 0, none⟩), .int .i64 g] w fun x w' => x = .returned (.string ⟨(matT r c zs).toArray⟩) ∧ Below w.heap.size w w' := by
 refine (shown_any B d b g (stk l) l.length w hk).mono ?_
 rintro x w' ⟨t, rfl, ⟨t0, e0, hs, ht⟩, hb⟩
 rcases hs with ⟨rfl, i, ⟨hd, r1, c1, zs1⟩, hi, hx, hxk, h1⟩ | ⟨-, -, hn⟩
 ·have e1 := stk_is hi hx hxk hg
  simp only [Prod.mk.injEq] at e1
  obtain ⟨rfl, rfl, rfl⟩ := e1
  rcases ht with ⟨-, rfl⟩ | ⟨h2, -⟩
  ·rw [h1]; exact ⟨rfl, hb⟩
  ·exact absurd rfl h2
 ·exact (stk_no hl hg hn).elim
open Go.RowKit
def DgRes (r c : Nat) (zs : List Int) (xs : List (Nat × Nat × List Int)) : Prop := ∃ x : D5, xs = [(r, c, x.d), (r, r, x.u), (r, r, x.s), (c, c, x.v), (c, c, x.t)] ∧ DgIs r c zs x ∧ (x.d.length = r * c ∧ x.u.length = r * r ∧ x.s.length = r * r ∧ x.v.length = c * c ∧ x.t.length = c * c)
theorem MRow.five {w : World} {g : Nat} {x y z y' z' : Nat × Nat × List Int} {o1 o2 o3 o4 o5 : Option Addr} {m1 m2 m3 m4 m5 c1 c2 c3 c4 c5 : Nat} {t : TypeId} (hg : w.heap[g]? = some (.cells #[.int .i64 (x.1 : Nat), .int .i64 (x.2.1 : Nat), .slice o1 m1 c1, .int .i64 (y.1 : Nat), .int .i64 (y.2.1 : Nat), .slice o2 m2 c2, .int .i64 (z.1 : Nat), .int .i64 (z.2.1 : Nat), .slice o3 m3 c3, .int .i64 (y'.1 : Nat), .int .i64 (y'.2.1 : Nat), .slice o4 m4 c4, .int .i64 (z'.1 : Nat), .int .i64 (z'.2.1 : Nat), .slice o5 m5 c5] t (0, 0)))
 (h1 : IsM w (.agg #[.int .i64 (x.1 : Nat), .int .i64 (x.2.1 : Nat), .slice o1 m1 c1]) x.1 x.2.1 x.2.2 200000000) (h2 : IsM w (.agg #[.int .i64 (y.1 : Nat), .int .i64 (y.2.1 : Nat), .slice o2 m2 c2]) y.1 y.2.1 y.2.2 200000000) (h3 : IsM w (.agg #[.int .i64 (z.1 : Nat), .int .i64 (z.2.1 : Nat), .slice o3 m3 c3]) z.1 z.2.1 z.2.2 200000000)
 (h4 : IsM w (.agg #[.int .i64 (y'.1 : Nat), .int .i64 (y'.2.1 : Nat), .slice o4 m4 c4]) y'.1 y'.2.1 y'.2.2 200000000) (h5 : IsM w (.agg #[.int .i64 (z'.1 : Nat), .int .i64 (z'.2.1 : Nat), .slice o5 m5 c5]) z'.1 z'.2.1 z'.2.2 200000000) : MRow w g [x, y, z, y', z'] := by
 intro j hj
 match j, hj with
 | 0, _ => exact ⟨o1, m1, c1, by simp [World.cell?, hg], by simp [World.cell?, hg], by simp [World.cell?, hg], h1⟩
 | 1, _ => exact ⟨o2, m2, c2, by simp [World.cell?, hg], by simp [World.cell?, hg], by simp [World.cell?, hg], h2⟩
 | 2, _ => exact ⟨o3, m3, c3, by simp [World.cell?, hg], by simp [World.cell?, hg], by simp [World.cell?, hg], h3⟩
 | 3, _ => exact ⟨o4, m4, c4, by simp [World.cell?, hg], by simp [World.cell?, hg], by simp [World.cell?, hg], h4⟩
 | 4, _ => exact ⟨o5, m5, c5, by simp [World.cell?, hg], by simp [World.cell?, hg], by simp [World.cell?, hg], h5⟩
set_option maxRecDepth 100000 in
set_option maxHeartbeats 4000000 in
theorem diagonal_held (b : Nat) (h : Int) (ms : List Hm) (nx : Nat) (w : World) (hst : Held w b ms nx) (hnx : nx < 1000000 - 5) :
 Calls Tryz.prog 28 #[.pointer (some ⟨b, 0, none⟩), .int .i64 h] w fun x w' => ∃ v e ok xs, x = .returned (.tuple #[v, .int .i64 e]) ∧ ManyRel 5 DgRes ms h ok e xs ∧ ManyOut w w' b 5 nx ms ok xs v := by
 have H := Hid.mk hst
 have hm24 := hst.1
 have hbl := hst.lt
 clear hst
 go_enter Tryz.func28, Tryz.ntmps28
 go_wp2_with fail
 refine (find_held b h ms nx _ H.out).mono ?_
 rintro e w1 ⟨⟨r, c, ao, n, cap, ok, rfl, hf⟩, hb1⟩
 have hbA := (Below.refl w1.heap.size w1).alloc (Nat.le_refl _) (.cells #[.int .i64 r, .int .i64 c, .slice ao n cap] 66)
 have hbw := hb1.trans (hbA.mono hb1.size)
 have hw1 := hb1.size
 rcases id hf with ⟨rfl, i, hd, zs, hi, hgi, hgh, hM⟩ | ⟨rfl, hno⟩
 ·have K1 := Hid.mk (And.intro (hM.below hbA) (And.intro hbw (And.intro hi (And.intro hgi hgh))))
  clear hf hM hb1 hbA hbw hi hgi hgh
  go_wp2_with fail
  refine (tooBig_any _ r c zs 200000000 _ K1.out.1 (by omega)).mono ?_
  rintro e w2 ⟨fb, rfl, hfo, hb2⟩
  have hs2 : w1.heap.size + 1 ≤ w2.heap.size := by have := hb2.size; simpa using this
  have m0 : w2.cell? ⟨w1.heap.size, 0, none⟩ = some (.int .i64 r) := cell_later hb2 (by simp)
  have m1 : w2.cell? ⟨w1.heap.size, 1, none⟩ = some (.int .i64 c) := cell_later hb2 (by simp)
  have m2 : w2.cell? ⟨w1.heap.size, 2, none⟩ = some (.slice ao n cap) := cell_later hb2 (by simp)
  have K2 := Hid.mk (And.intro (K1.out.1.below hb2) (And.intro (K1.out.2.1.trans (hb2.mono K1.out.2.1.size)) hfo))
  clear hb2 hfo
  cases fb
  ·have HNF : Hid (¬ FitsP r c zs) := Hid.mk (fun h => by have := K2.out.2.2.2 h; cases this)
   go_wp2_with fail
   go_ret2
   exact ⟨_, _, false, [], rfl, .inr ⟨i, hd, r, c, zs, K1.out.2.2.1, K1.out.2.2.2.1, K1.out.2.2.2.2, .inl ⟨HNF.out, rfl, rfl, rfl⟩⟩, .inl ⟨rfl, rfl, H.out.below K2.out.2.1, Fr.of_below K2.out.2.1⟩⟩
  ·have HFP : Hid (FitsP r c zs) := Hid.mk (K2.out.2.2.1 rfl)
   go_wp2_with fail
   refine (room_held b ms nx _ (H.out.below K2.out.2.1)).mono ?_
   rintro e w' ⟨rfl, rfl⟩
   obtain ⟨rm, hrm⟩ : ∃ rm, rm = ms.countP Option.isNone := ⟨_, rfl⟩
   have HRM := Hid.mk hrm
   rw [← hrm]
   clear hrm
   by_cases h0 : rm < 5
   ·have h0' : ((rm : Int) < 5) := by omega
    go_wp2_with fail
    go_ret2
    exact ⟨_, _, false, [], rfl, .inr ⟨i, hd, r, c, zs, K1.out.2.2.1, K1.out.2.2.2.1, K1.out.2.2.2.2, .inr (.inl ⟨HFP.out, by rw [← HRM.out]; exact h0, rfl, rfl, rfl⟩)⟩, .inl ⟨rfl, rfl, H.out.below K2.out.2.1, Fr.of_below K2.out.2.1⟩⟩
   ·have h0' : ¬ ((rm : Int) < 5) := by omega
    go_wp2_with fail
    refine (gdiag_any _ r c zs _ (K2.out.1.tight HFP.out) HFP.out.1 HFP.out.2.1 HFP.out.ent).mono ?_
    rintro e w3 ⟨x, sD, sU, sS, sV, sT, rfl, ⟨m3, m4, m5, m6, m7⟩, hIs, hb3⟩
    obtain ⟨oD, cD, rfl⟩ := m3.slice
    obtain ⟨oU, cU, rfl⟩ := m4.slice
    obtain ⟨oS, cS, rfl⟩ := m5.slice
    obtain ⟨oV, cV, rfl⟩ := m6.slice
    obtain ⟨oT, cT, rfl⟩ := m7.slice
    have hb03 := K2.out.2.1.trans (hb3.mono K2.out.2.1.size)
    have hlen : x.d.length = r * c ∧ x.u.length = r * r ∧ x.s.length = r * r ∧ x.v.length = c * c ∧ x.t.length = c * c := ⟨m3.lng, m4.lng, m5.lng, m6.lng, m7.lng⟩
    have K3 := Hid.mk (And.intro (And.intro m3 (And.intro m4 (And.intro m5 (And.intro m6 m7)))) (And.intro (And.intro hIs hlen) hb03))
    have hw3 := hb3.size
    clear hb3 m0 m1 m2 m3 m4 m5 m6 m7 hIs hlen hb03
    go_wp2_with fail
    obtain ⟨X, hX⟩ : ∃ X, X = (w3.alloc (.cells #[.int .i64 r, .int .i64 c, .slice oD (r * c) cD, .int .i64 r, .int .i64 r, .slice oU (r * r) cU, .int .i64 r, .int .i64 r, .slice oS (r * r) cS, .int .i64 c, .int .i64 c, .slice oV (c * c) cV, .int .i64 c, .int .i64 c, .slice oT (c * c) cT] 83)).alloc (.cells #[.int .i64 r, .int .i64 c, .slice oD (r * c) cD, .int .i64 r, .int .i64 r, .slice oU (r * r) cU, .int .i64 r, .int .i64 r, .slice oS (r * r) cS, .int .i64 c, .int .i64 c, .slice oV (c * c) cV, .int .i64 c, .int .i64 c, .slice oT (c * c) cT] 66) := ⟨_, rfl⟩
    rw [← hX]
    have hbX : Below w3.heap.size w3 X := by rw [hX]; exact ((Below.refl _ _).alloc (Nat.le_refl _) _).alloc (by simp) _
    have hsX : X.heap.size = w3.heap.size + 1 + 1 := by rw [hX]; simp
    have hgX : X.heap[w3.heap.size + 1]? = some (.cells #[.int .i64 r, .int .i64 c, .slice oD (r * c) cD, .int .i64 r, .int .i64 r, .slice oU (r * r) cU, .int .i64 r, .int .i64 r, .slice oS (r * r) cS, .int .i64 c, .int .i64 c, .slice oV (c * c) cV, .int .i64 c, .int .i64 c, .slice oT (c * c) cT] 66 (0, 0)) := by
     rw [hX]
     have := heap_alloc_new (w3.alloc (.cells #[.int .i64 r, .int .i64 c, .slice oD (r * c) cD, .int .i64 r, .int .i64 r, .slice oU (r * r) cU, .int .i64 r, .int .i64 r, .slice oS (r * r) cS, .int .i64 c, .int .i64 c, .slice oV (c * c) cV, .int .i64 c, .int .i64 c, .slice oT (c * c) cT] 83)) (.cells #[.int .i64 r, .int .i64 c, .slice oD (r * c) cD, .int .i64 r, .int .i64 r, .slice oU (r * r) cU, .int .i64 r, .int .i64 r, .slice oS (r * r) cS, .int .i64 c, .int .i64 c, .slice oV (c * c) cV, .int .i64 c, .int .i64 c, .slice oT (c * c) cT] 66)
     simpa using this
    have hbwX := K3.out.2.2.trans (hbX.mono K3.out.2.2.size)
    have hrow : MRow X (w3.heap.size + 1) [(r, c, x.d), (r, r, x.u), (r, r, x.s), (c, c, x.v), (c, c, x.t)] := MRow.five (x := (r, c, x.d)) (y := (r, r, x.u)) (z := (r, r, x.s)) (y' := (c, c, x.v)) (z' := (c, c, x.t)) hgX ((K3.out.1.1.below hbX).mono (by omega)) ((K3.out.1.2.1.below hbX).mono (by omega)) ((K3.out.1.2.2.1.below hbX).mono (by omega)) ((K3.out.1.2.2.2.1.below hbX).mono (by omega)) ((K3.out.1.2.2.2.2.below hbX).mono (by omega))
    have hw03 := K3.out.2.2.size
    have HX := Hid.mk (And.intro hbwX hrow)
    clear hX hbX hgX hbwX hrow
    refine (keepAll_held b (w3.heap.size + 1) 5 5 [(r, c, x.d), (r, r, x.u), (r, r, x.s), (c, c, x.v), (c, c, x.t)] ms nx _ (H.out.below HX.out.1) HX.out.2 rfl (by omega) (by omega) (by omega) (by have := HRM.out; omega) hnx).mono ?_
    rintro e w4 ⟨v4, rfl, hb4, zs4, rfl, k1, k2, k3, k4, k5, k6⟩
    have K4 := Hid.mk (And.intro k1 (And.intro k2 (And.intro k3 (And.intro k4 (And.intro k5 ((Fr.of_below HX.out.1).trans k6))))))
    clear k1 k2 k3 k4 k5 k6
    go_wp2_with fail
    go_ret2
    exact ⟨_, _, true, [(r, c, x.d), (r, r, x.u), (r, r, x.s), (c, c, x.v), (c, c, x.t)], rfl, .inr ⟨i, hd, r, c, zs, K1.out.2.2.1, K1.out.2.2.2.1, K1.out.2.2.2.2, .inr (.inr ⟨HFP.out, by have := HRM.out; omega, rfl, rfl, rfl, x, rfl, K3.out.2.1.1, K3.out.2.1.2⟩)⟩, .inr ⟨rfl, hb4, zs4, rfl, by have := HX.out.1.size; have := K4.out.1; omega, K4.out.2.1, K4.out.2.2.1, K4.out.2.2.2.1, K4.out.2.2.2.2.1, K4.out.2.2.2.2.2⟩⟩
 ·have KN := Hid.mk (And.intro hno hbw)
  clear hno hbw hb1 hbA hf
  go_wp2_with fail
  go_ret2
  exact ⟨_, _, false, [], rfl, .inl ⟨KN.out.1, rfl, rfl, rfl⟩, .inl ⟨rfl, rfl, H.out.below KN.out.2, Fr.of_below KN.out.2⟩⟩
open Go.RowKit R
def idxP (D : Nat → Nat → Int) : Nat → Int
 | 0 => 1
 | n + 1 => if D n n = 0 then idxP D n else idxP D n * D n n
theorem idx_pr {r c k : Nat} {D : Nat → Nat → Int} (h : LowT r c k D) : ∀ n, n ≤ r → n ≤ c → idxP D n = pr D 0 (min n k) := by
 intro n
 induction n with
 | zero => intro _ _; simp [idxP, pr]
 | succ n ih =>
   intro hr hc
   rw [idxP, ih (by omega) (by omega)]
   by_cases hn : n < k
   ·have hp := h.pos n hn
    rw [if_neg (by omega), show min n k = n by omega, show min (n + 1) k = n + 1 by omega, pr_succ, Nat.zero_add]
   ·rw [if_pos (h.out n n (by omega) (by omega) (.inl (by omega))), show min n k = k by omega, show min (n + 1) k = k by omega]
set_option maxRecDepth 100000 in
set_option maxHeartbeats 4000000 in
theorem index_any (r c : Nat) (sD sU sS sV sT : Value) (ds us ss vs ts : List Int) (L K : Nat) (w : World) (hD : IsM w (.agg #[.int .i64 r, .int .i64 c, sD]) r c ds L) (hU : IsM w (.agg #[.int .i64 r, .int .i64 r, sU]) r r us K) (hS : IsM w (.agg #[.int .i64 r, .int .i64 r, sS]) r r ss K) (hV : IsM w (.agg #[.int .i64 c, .int .i64 c, sV]) c c vs K) (hT : IsM w (.agg #[.int .i64 c, .int .i64 c, sT]) c c ts K) (hr4 : r ≤ 4) (hc4 : c ≤ 4) (hL : L ≤ 10000000) :
 Calls Tryz.prog 42 #[.agg #[.int .i64 r, .int .i64 c, sD, .int .i64 r, .int .i64 r, sU, .int .i64 r, .int .i64 r, sS, .int .i64 c, .int .i64 c, sV, .int .i64 c, .int .i64 c, sT]] w fun e w' => ∃ v, e = .returned v ∧ IntOut w w' v (idxP (ent c ds) (min r c)) 50000000 := by
 have HM := Hid.mk hD
 obtain ⟨oD, cD, rfl⟩ := hD.slice
 obtain ⟨oU, cU, rfl⟩ := hU.slice
 obtain ⟨oS, cS, rfl⟩ := hS.slice
 obtain ⟨oV, cV, rfl⟩ := hV.slice
 obtain ⟨oT, cT, rfl⟩ := hT.slice
 clear hD hU hS hV hT
 obtain ⟨N1, hN1⟩ : ∃ N1, N1 = r * c := ⟨_, rfl⟩
 obtain ⟨N2, hN2⟩ : ∃ N2, N2 = r * r := ⟨_, rfl⟩
 obtain ⟨N3, hN3⟩ : ∃ N3, N3 = c * c := ⟨_, rfl⟩
 rw [← hN1] at HM ⊢
 rw [← hN2, ← hN3]
 clear hN1 hN2 hN3
 go_enter Tryz.func42, Tryz.ntmps42
 go_wp2_with fail
 obtain ⟨W1, hW1⟩ : ∃ W1, W1 = (w.alloc (.cells #[.int .i64 r, .int .i64 c, .slice oD N1 cD, .int .i64 r, .int .i64 r, .slice oU N2 cU, .int .i64 r, .int .i64 r, .slice oS N2 cS, .int .i64 c, .int .i64 c, .slice oV N3 cV, .int .i64 c, .int .i64 c, .slice oT N3 cT] 83)).alloc (.cells #[.bool false, .slice none 0 0] 79) := ⟨_, rfl⟩
 have hs1 : W1.heap.size = w.heap.size + 2 := by rw [hW1]; simp
 have hb1 : Below w.heap.size w W1 := by rw [hW1]; repeat (first | exact Below.refl _ _ | refine Below.alloc ?_ (by simp <;> omega) _)
 have hm1 : Trio W1 w.heap.size (.int .i64 r) (.int .i64 c) (.slice oD N1 cD) := by
  rw [hW1]
  exact Trio.later (w := w.alloc (.cells #[.int .i64 r, .int .i64 c, .slice oD N1 cD, .int .i64 r, .int .i64 r, .slice oU N2 cU, .int .i64 r, .int .i64 r, .slice oS N2 cS, .int .i64 c, .int .i64 c, .slice oV N3 cV, .int .i64 c, .int .i64 c, .slice oT N3 cT] 83)) ⟨new_cell _ _ _ _ _ rfl rfl, new_cell _ _ _ _ _ rfl rfl, new_cell _ _ _ _ _ rfl rfl⟩ ((Below.refl _ _).alloc (Nat.le_refl _) _)
 have hres : Duo W1 (w.heap.size + 1) (.bool false) (.slice none 0 0) := by rw [hW1]; exact Duo.new _ _ _ (by simp)
 have K1 := Hid.mk (And.intro hb1 (And.intro hm1 hres))
 rw [← hW1]
 clear hW1 hb1 hm1 hres
 refine (fromOne_any _).mono ?_
 rintro e w2 ⟨v2, rfl, hx2, hb2⟩
 obtain ⟨nb2, so2, n2, cp2, rfl⟩ := hx2.shape
 have hb22 := (Below.refl w2.heap.size w2).alloc (Nat.le_refl _) (.cells #[.bool nb2, .slice so2 n2 cp2] 79)
 have hw2 := hb2.size
 obtain ⟨W2, hW2⟩ : ∃ W2, W2 = w2.alloc (.cells #[.bool nb2, .slice so2 n2 cp2] 79) := ⟨_, rfl⟩
 have hs2 : W2.heap.size = w2.heap.size + 1 := by rw [hW2]; simp
 have hD2 : Duo W2 w2.heap.size (.bool nb2) (.slice so2 n2 cp2) := by rw [hW2]; exact Duo.new _ _ _ rfl
 rw [← hW2] at hb22
 have hb12 := hb2.trans (hb22.mono hw2)
 obtain ⟨sb, hsb⟩ : ∃ sb, sb = w2.heap.size := ⟨_, rfl⟩
 rw [← hsb] at hD2 hs2 hw2
 have K2 := Hid.mk (And.intro (hx2.below hb22) (And.intro hD2 (And.intro (K1.out.2.1.later hb12) (And.intro (K1.out.2.2.below hb12 (by omega)) (And.intro (K1.out.1.trans (hb12.mono (by omega))) hW2)))))
 have HSB := Hid.mk hsb
 clear hx2 hb2 hb22 hb12 hD2 hW2
 go_wp2_with fail
 rw [← K2.out.2.2.2.2.2, ← HSB.out]
 clear hsb
 go_loopw [4] (fun i wr => ∃ (t : Nat) (nb : Bool) (so : Option Addr) (n ecap : Nat), t ≤ 4 ∧ i = .int .i64 t ∧ Duo wr sb (.bool nb) (.slice so n ecap) ∧ Hid ((t ≤ r ∧ t ≤ c) ∧ IsI wr (.agg #[.bool nb, .slice so n ecap]) (idxP (ent c ds) t) (2 + t * L) ∧ W2.grownBy wr (some sb) ∧ Below w.heap.size w wr)) (fun i _ => 4 - (intOf i).toNat)
 case atStart => exact ⟨0, _, _, _, _, by omega, rfl, K2.out.2.1, Hid.mk ⟨by omega, by rw [idxP, Nat.zero_mul]; exact K2.out.1, World.grownBy.refl _ _, K2.out.2.2.2.2.1⟩⟩
 case round =>
  obtain ⟨t, nb, so, n, ecap, ht, rfl, hD, HI⟩ := hrel
  obtain ⟨q0, q1, q2⟩ := K2.out.2.2.1.grown HI.out.2.2.1 (by omega)
  have hwr := HI.out.2.2.2.size
  have hgs := HI.out.2.2.1.size
  have hDl := hD.ty.lt
  have K := Hid.mk hD
  have ht4 : t * L ≤ 4 * 10000000 := Nat.mul_le_mul ht hL
  by_cases htr : t < r
  ·have hti : (t : Int) < (r : Int) := by omega
   by_cases htc : t < c
   ·have htci : (t : Int) < (c : Int) := by omega
    obtain ⟨d1, d2, d3, d4⟩ := hD.cells
    clear hD
    go_wp2_with fail
    refine (at_in _ r c t t ds L _ (HM.out.below HI.out.2.2.2) htr htc).mono ?_
    rintro e w4 ⟨x, rfl, hx, hb4⟩
    obtain ⟨nb4, so4, n4, cp4, rfl⟩ := hx.shape
    have hb44 := (Below.refl w4.heap.size w4).alloc (Nat.le_refl _) (.cells #[.bool nb4, .slice so4 n4 cp4] 79)
    have hbA : Below wr.heap.size wr (w4.alloc (.cells #[.bool nb4, .slice so4 n4 cp4] 79)) := hb4.trans (hb44.mono hb4.size)
    have hl4 := Duo.new w4 (.bool nb4) (.slice so4 n4 cp4) rfl
    have KA := Hid.mk (And.intro hbA (And.intro hl4 (hx.below hb44)))
    have hw4 := hb4.size
    obtain ⟨e0, e1, -, -⟩ := hl4.cells
    clear hx hb4 hb44 hbA hl4 q0 q1 q2 d1 d2 d3 d4
    go_wp2_with fail
    refine (isZero_any _ _ L _ KA.out.2.2).mono ?_
    rintro e w5 ⟨rfl, hb5⟩
    obtain ⟨Z, hZ⟩ : ∃ Z, Z = decide (ds.getD (t * c + t) 0 = 0) := ⟨_, rfl⟩
    rw [← hZ]
    have hs5 : w4.heap.size + 1 ≤ w5.heap.size := by have := hb5.size; simpa using this
    have hbB : Below wr.heap.size wr w5 := KA.out.1.trans (hb5.mono (by simp; omega))
    have hl5 := KA.out.2.1.below hb5 (by simp)
    have KB := Hid.mk (And.intro hbB (And.intro (KA.out.2.2.below hb5) (And.intro hZ (And.intro hl5 (K.out.below hbB hDl)))))
    clear hb5 hZ hbB hl5 e0 e1
    cases Z
    ·obtain ⟨e0, e1, -, -⟩ := KB.out.2.2.2.1.cells
     obtain ⟨d1, d2, d3, d4⟩ := KB.out.2.2.2.2.cells
     go_wp2_with fail
     refine (mul_any _ _ _ _ (2 + t * L) L _ (HI.out.2.1.below KB.out.1) KB.out.2.1 (by omega) (by omega)).mono ?_
     rintro e w6 ⟨x, rfl, hx, hb6⟩
     obtain ⟨nb6, so6, n6, cp6, rfl⟩ := hx.shape
     have hbC : Below wr.heap.size wr w6 := KB.out.1.trans (hb6.mono (by omega))
     have hD6 := K.out.below hbC hDl
     have KC := Hid.mk (And.intro hbC (And.intro hx hD6))
     clear hx hb6 hbC hD6 e0 e1 d1 d2 d3 d4
     obtain ⟨d1, d2, d3, d4⟩ := KC.out.2.2.cells
     go_wp2_with fail
     go_roundw
     case measure => simp [intOf]; omega
     case rel =>
      refine ⟨t + 1, nb6, so6, n6, cp6, by omega, by go_num, KC.out.2.2.put _ _, Hid.mk ⟨by omega, ?_, grown_put2 (grown_below HI.out.2.2.1 KC.out.1), ((HI.out.2.2.2.trans (KC.out.1.mono hwr)).setCell (by simp; omega) _).setCell (by simp; omega) _⟩⟩
      have h0 : ¬ ent c ds t t = 0 := of_decide_eq_false KB.out.2.2.1.symm
      rw [idxP, if_neg h0, Nat.succ_mul]
      exact (KC.out.2.1.duo KC.out.2.2 _ _).mono (by omega)
    ·go_wp2_with fail
     go_roundw
     case measure => simp [intOf]; omega
     case rel =>
      have h0 : ent c ds t t = 0 := of_decide_eq_true KB.out.2.2.1.symm
      refine ⟨t + 1, nb, so, n, ecap, by omega, by go_num, KB.out.2.2.2.2, Hid.mk ⟨by omega, ?_, grown_below HI.out.2.2.1 KB.out.1, HI.out.2.2.2.trans (KB.out.1.mono hwr)⟩⟩
      rw [idxP, if_pos h0, Nat.succ_mul]
      exact (HI.out.2.1.below KB.out.1).mono (by omega)
   ·have htci : ¬ (t : Int) < (c : Int) := by omega
    have HE : Hid (t = min r c) := Hid.mk (by have := HI.out.1; omega)
    obtain ⟨d1, d2, d3, d4⟩ := hD.cells
    have hRD : Duo wr (w.heap.size + 1) (.bool false) (.slice none 0 0) := (HI.out.2.2.1.block _ (by omega) (by simp; omega)).trans K2.out.2.2.2.1
    have hcell := (hRD.put (.bool nb) (.slice so n ecap)).cells
    have HR := Hid.mk (And.intro hRD hcell)
    obtain ⟨r1, r2, r3, r4⟩ := hRD.cells
    clear hRD hcell hD
    go_wp2_with fail
    obtain ⟨g1, g2, -, -⟩ := HR.out.2
    refine bodyPost_ret (v := .agg #[.bool nb, .slice so n ecap]) ?_ rfl ?_
    ·(simp [results, Tryz.results42, go_sem, g1, g2]; done)
    ·refine ⟨_, rfl, ?_, (HI.out.2.2.2.setCell (by simp) _).setCell (by simp) _⟩
     rw [← HE.out]
     exact (HI.out.2.1.duo HR.out.1 _ _).mono (by omega)
  ·have hti : ¬ (t : Int) < (r : Int) := by omega
   have HE : Hid (t = min r c) := Hid.mk (by have := HI.out.1; omega)
   obtain ⟨d1, d2, d3, d4⟩ := hD.cells
   have hRD : Duo wr (w.heap.size + 1) (.bool false) (.slice none 0 0) := (HI.out.2.2.1.block _ (by omega) (by simp; omega)).trans K2.out.2.2.2.1
   have hcell := (hRD.put (.bool nb) (.slice so n ecap)).cells
   have HR := Hid.mk (And.intro hRD hcell)
   obtain ⟨r1, r2, r3, r4⟩ := hRD.cells
   clear hRD hcell hD
   go_wp2_with fail
   obtain ⟨g1, g2, -, -⟩ := HR.out.2
   refine bodyPost_ret (v := .agg #[.bool nb, .slice so n ecap]) ?_ rfl ?_
   ·(simp [results, Tryz.results42, go_sem, g1, g2]; done)
   ·refine ⟨_, rfl, ?_, (HI.out.2.2.2.setCell (by simp) _).setCell (by simp) _⟩
    rw [← HE.out]
    exact (HI.out.2.1.duo HR.out.1 _ _).mono (by omega)
end Go.Proofs.YtfjbijpagaipnabGreatDoor
