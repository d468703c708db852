import Derived.Test.YtfjbijpagaipnabGreatDoorK01
import Derived.Test.YtfjbijpagaipnabGreatDoorShelf
import Derived.Lib.ItoaMem
import Derived.Test.YtfjbijpagaipnabGreatDoorK02
import Derived.Test.YtfjbijpagaipnabGreatDoorK10
import Derived.Deep.LoopGhost
import Derived.Test.YtfjbijpagaipnabGreatDoorK03
namespace Go.Proofs.YtfjbijpagaipnabGreatDoor
open Go.RowKit Go.Sort
def Tab (w : World) : Prop := Lib.TabIs Tryz.prog w "internal/strconv.uint64pow10" .u64 Lib.pow10Tab
theorem Tab.alloc {w : World} (h : Tab w) (o : Obj) : Tab (w.alloc o) := Lib.tabIs_alloc h o
theorem holds_head (w : World) (T : TypeId) (nd : Nat) (hs : nd ≤ 24) : Holds (fun (b : UInt8) => Value.int .u8 (b.toNat : Int)) (w.alloc (.cells Lib.zeros24 T)) w.heap.size 0 (Array.replicate nd (0 : UInt8)) := fun j hj => by
 have hj' : j < nd := by simpa using hj
 refine ⟨?_, World.frozen?_alloc_new _ _ _ _⟩
 rw [World.cell?_alloc_new, Nat.zero_add, Lib.zeros24_at _ (by omega), getElem!_pos _ j hj]
 simp
theorem below_put (w : World) (o : Obj) (dk : Array UInt8) (k : Nat) : Below w.heap.size w ((putRow (fun (b : UInt8) => Value.int .u8 (b.toNat : Int)) (w.alloc o) w.heap.size 0 dk).drewN k) := by
 rw [alloc_eq_grow]
 obtain ⟨os', _, e⟩ := putRow_grow_new (fun (b : UInt8) => Value.int .u8 (b.toNat : Int)) w #[o] w.heap.size 0 dk (Nat.le_refl _)
 rw [e]
 refine ⟨rfl, rfl, rfl, by simp [grow], fun i hi => ?_⟩
 show (w.heap ++ os')[i]? = _
 rw [Array.getElem?_append_left hi]
set_option maxRecDepth 100000 in
set_option maxHeartbeats 2000000 in
theorem fmtUint_inner (u : Nat) (hu64 : u < 18446744073709551616) (w : World) (htab : Tab w) :
 Calls Tryz.prog 104 #[.int .u64 u, .int .i64 10] w fun e w' => e = .returned (.string ⟨(Lib.decDigits u).toArray⟩) ∧ Below w.heap.size w w' := by
 by_cases hs : u < 100
 ·go_enter Tryz.func104, Tryz.ntmps104
  go_wp2_with (go_at_call 140; refine (Tryz.internal_strconv_small u hs _).mono ?_; rintro e w' ⟨rfl, rfl⟩)
  go_ret
  exact ⟨rfl, Below.refl _ _⟩
 ·have hu1 : 1 ≤ u := by omega
  have hnd20 : Lib.nDigits u ≤ 20 := by have := Lib.numDigits_eq u hu1 hu64; split at this <;> omega
  have hal : Tryz.prog.arrayLen 159 = 24 := by kernel_rfl
  have hsl1 : ∀ W, (Instr.sliceAt 159 (.pointer (some ⟨w.heap.size, 0, none⟩)) none (some (.int .i64 (Lib.nDigits u : Int))) none).run Tryz.prog W = .ok (.slice (some ⟨w.heap.size, 0, none⟩) (Lib.nDigits u) 24) W := fun W => by
   rw [run_sliceAt_array_h W 159 ⟨w.heap.size, 0, none⟩ (by kernel_rfl) .i64 (Lib.nDigits u : Int) (by omega) (by rw [hal]; omega)]
   go_simp
  have hH0 := holds_head w 159 (Lib.nDigits u) (by omega)
  have hfmt := Tryz.internal_strconv_formatBase10 w.heap.size 0 24 u (Array.replicate (Lib.nDigits u) 0) (w.alloc (.cells Lib.zeros24 159)) hH0 (by rw [Array.size_replicate]; exact Lib.lt_pow_nDigits u) hu64 (by rw [Array.size_replicate]; omega)
  rw [Array.size_replicate] at hfmt
  have HH0 := Hid.mk hH0
  clear hH0 hal
  have HF := Hid.mk hfmt
  clear hfmt
  go_enter Tryz.func104, Tryz.ntmps104
  go_wp2_with (go_at_call 141; refine (Tryz.internal_strconv_numDigits u hu1 hu64 _ (htab.alloc _)).mono ?_; rintro e w' ⟨rfl, rfl⟩)
  refine HF.out.mono ?_
  rintro e w' ⟨rfl, k, v', dk, rfl, hF⟩
  have hcv : (convert 85 9 (.slice (some ⟨w.heap.size, 0, none⟩) (Lib.nDigits u) 24)).run Tryz.prog ((putRow (fun (b : UInt8) => Value.int .u8 (b.toNat : Int)) (w.alloc (.cells Lib.zeros24 159)) w.heap.size 0 dk).drewN k) =
   .ok (.string ⟨(Lib.decDigits u).toArray⟩) ((putRow (fun (b : UInt8) => Value.int .u8 (b.toNat : Int)) (w.alloc (.cells Lib.zeros24 159)) w.heap.size 0 dk).drewN k) := by
   have h := run_convert_bytes_back (P := Tryz.prog) ((putRow (fun (b : UInt8) => Value.int .u8 (b.toNat : Int)) (w.alloc (.cells Lib.zeros24 159)) w.heap.size 0 dk).drewN k) 85 9 5 ⟨w.heap.size, 0, none⟩ 24 (Lib.decDigits u) Tryz.underlying85 Tryz.underlying5 Tryz.underlying9 (fun j hj => by
    rw [Lib.row_is_numeral hF j hj, Lib.add_plain, World.cell?_drewN]
    exact cell?_putRow (fun (b : UInt8) => Value.int .u8 (b.toNat : Int)) _ w.heap.size 0 _ dk HH0.out (by rw [hF.size, Array.size_replicate]) j (by rw [hF.size]; rw [Lib.decDigits_length] at hj; exact hj))
   rw [Lib.decDigits_length] at h
   exact h
  have hbl := below_put w (.cells Lib.zeros24 159) dk k
  have HB := Hid.mk hbl
  clear hbl
  go_wp2
  go_ret
  exact ⟨rfl, HB.out⟩
theorem fmtUint_any (u : Nat) (hu64 : u < 18446744073709551616) (w : World) (htab : Tab w) :
 Calls Tryz.prog 70 #[.int .u64 u, .int .i64 10] w fun e w' => e = .returned (.string ⟨(Lib.decDigits u).toArray⟩) ∧ Below w.heap.size w w' := by
 go_enter Tryz.func70, Tryz.ntmps70
 go_wp2_with (go_at_call 104; refine (fmtUint_inner u hu64 _ htab).mono ?_; rintro e w' ⟨rfl, hb⟩)
 go_ret
 exact ⟨rfl, hb⟩
def padD : Nat → Nat → List UInt8
 | 0, _ => []
 | k + 1, l => padD k (l / 10) ++ [UInt8.ofNat (48 + l % 10)]
theorem decDigits_big {u : Nat} (h : ¬ u < 10) : Lib.decDigits u = Lib.decDigits (u / 10) ++ [UInt8.ofNat (48 + u % 10)] := by
 rw [Lib.decDigits, dif_neg h]
theorem padD_zero (k : Nat) : padD k 0 = List.replicate k 48 := by
 induction k with
 | zero => rfl
 | succ k ih => rw [padD, Nat.zero_div, ih, List.replicate_succ']; rfl
theorem padD_eq (k l : Nat) (h : l < 10 ^ (k + 1)) : padD (k + 1) l = List.replicate (k + 1 - Lib.nDigits l) 48 ++ Lib.decDigits l := by
 induction k generalizing l with
 | zero =>
   have h1 : l < 10 := by simpa using h
   rw [Lib.nDigits_small h1, Lib.decDigits_one h1]
   simp [padD, Nat.mod_eq_of_lt h1]
 | succ k ih =>
   rw [padD]
   by_cases h1 : l < 10
   ·rw [show l / 10 = 0 from by omega, padD_zero, Lib.nDigits_small h1, Lib.decDigits_one h1, Nat.mod_eq_of_lt h1]; rfl
   ·have h2 : l / 10 < 10 ^ (k + 1) := by rw [Nat.pow_succ] at h; omega
    rw [ih _ h2, Lib.nDigits_big h1, decDigits_big h1, List.append_assoc]
    congr 2
    omega
theorem decDigits_split (k h l : Nat) (hh : 0 < h) (hl : l < 10 ^ k) : Lib.decDigits (h * 10 ^ k + l) = Lib.decDigits h ++ padD k l := by
 induction k generalizing l with
 | zero => simp [padD, show l = 0 from by simpa using hl]
 | succ k ih =>
   have h1 : 10 ≤ h * 10 ^ (k + 1) := by
    rw [Nat.pow_succ]
    have : 1 ≤ 10 ^ k := Nat.one_le_pow _ _ (by decide)
    have : 1 * 1 ≤ h * 10 ^ k := Nat.mul_le_mul hh this
    rw [← Nat.mul_assoc]
    omega
   have h2 : (h * 10 ^ (k + 1) + l) / 10 = h * 10 ^ k + l / 10 := by rw [Nat.pow_succ, ← Nat.mul_assoc]; omega
   have h3 : (h * 10 ^ (k + 1) + l) % 10 = l % 10 := by rw [Nat.pow_succ, ← Nat.mul_assoc]; omega
   rw [decDigits_big (by omega), h2, h3, ih _ (by rw [Nat.pow_succ] at hl; omega), padD, List.append_assoc]
theorem dec_chunk (r : Nat) (h : 0 < r / 1000000000) : Lib.decDigits r = Lib.decDigits (r / 1000000000) ++ (List.replicate (9 - Lib.nDigits (r % 1000000000)) 48 ++ Lib.decDigits (r % 1000000000)) := by
 have hl : r % 1000000000 < 10 ^ (8 + 1) := Nat.mod_lt _ (by decide)
 have h1 := decDigits_split 9 (r / 1000000000) (r % 1000000000) h hl
 rw [show r / 1000000000 * 10 ^ 9 + r % 1000000000 = r from Nat.div_add_mod' r 1000000000] at h1
 rw [h1, padD_eq 8 _ hl]
theorem nDigits_le9 (l : Nat) (h : l < 1000000000) : Lib.nDigits l ≤ 9 := by
 rcases Nat.lt_or_ge 9 (Lib.nDigits l) with h1 | h1
 ·exfalso
  have h2 := congrArg List.length (padD_eq 8 l h)
  have h3 : ∀ k l, (padD k l).length = k := by
   intro k
   induction k with
   | zero => intro l; rfl
   | succ k ih => intro l; simp [padD, ih]
  rw [h3, List.length_append, List.length_replicate, Lib.decDigits_length] at h2
  omega
 ·exact h1
open Go.RowKit
theorem Tab.below {w w' : World} (h : Tab w) (hb : Below w.heap.size w w') : Tab w' := by
 unfold Tab Lib.TabIs at *
 cases hg : Tryz.prog.globalNamed "internal/strconv.uint64pow10" with
 | none => simp [World.var?, hg] at h
 | some g =>
   refine var?_below hb hg ?_ h
   unfold World.var? at h
   simp only [hg, Option.bind_some] at h
   cases ho : w.heap[g]? with
   | none => rw [ho] at h; simp at h
   | some o => exact (Array.getElem?_eq_some_iff.1 ho).1
theorem nDigits_le {n : Nat} (k : Nat) (h : n < 10 ^ (k + 1)) : Lib.nDigits n ≤ k + 1 := by
 induction k generalizing n with
 | zero => rw [Lib.nDigits_small (by simpa using h)]; exact Nat.le_refl _
 | succ k ih =>
   by_cases h1 : n < 10
   ·rw [Lib.nDigits_small h1]; omega
   ·rw [Lib.nDigits_big h1]
    have := ih (n := n / 10) (by rw [Nat.pow_succ] at h; omega)
    omega
theorem nDigits_limbs {xs : List Nat} (h : Lo xs) : Lib.nDigits (val xs) ≤ 10 * xs.length + 1 := by
 refine nDigits_le _ (Nat.lt_of_lt_of_le (val_lt h) ?_)
 calc 4294967296 ^ xs.length ≤ (10 ^ 10) ^ xs.length := Nat.pow_le_pow_left (by decide) _
  _ = 10 ^ (10 * xs.length) := by rw [← Nat.pow_mul]
  _ ≤ 10 ^ (10 * xs.length + 1) := Nat.pow_le_pow_right (by decide) (by omega)
theorem str_app (a b : List UInt8) : (⟨a.toArray⟩ : ByteArray) ++ ⟨b.toArray⟩ = ⟨(a ++ b).toArray⟩ := by
 apply ByteArray.ext
 simp
theorem ret_str {s t : ByteArray} (h : s = t) : Ending.returned (.string s) = .returned (.string t) := by rw [h]
theorem pad_next {pl dl : List UInt8} {nd : Nat} (h : pl = List.replicate (pl.length - nd) 48 ++ dl) (hn : nd ≤ pl.length) : 48 :: pl = List.replicate ((48 :: pl).length - nd) 48 ++ dl := by
 rw [List.length_cons, show pl.length + 1 - nd = (pl.length - nd) + 1 from by omega, List.replicate_succ, List.cons_append, ← h]
theorem val_str {s t : ByteArray} (h : s = t) : Value.string s = .string t := by rw [h]
theorem dec_round {r : Nat} {tt pl D : List UInt8} (h : Lib.decDigits r ++ tt = D) (hp : (0 < r / 1000000000 ∧ pl = List.replicate (9 - Lib.nDigits (r % 1000000000)) 48 ++ Lib.decDigits (r % 1000000000)) ∨ (r / 1000000000 = 0 ∧ pl = Lib.decDigits (r % 1000000000))) :
 if r / 1000000000 = 0 then pl ++ tt = D else Lib.decDigits (r / 1000000000) ++ (pl ++ tt) = D := by
 rcases hp with ⟨h1, rfl⟩ | ⟨h1, rfl⟩
 ·rw [if_neg (by omega), ← List.append_assoc, ← dec_chunk r h1, h]
 ·rw [if_pos h1, show r % 1000000000 = r from by omega, h]
theorem dec_len {r : Nat} {t D : List UInt8} (h : if r = 0 then t = D else Lib.decDigits r ++ t = D) : t.length ≤ D.length := by
 split at h
 ·rw [h]; exact Nat.le_refl _
 ·rw [← h, List.length_append]; omega
set_option maxRecDepth 100000 in
set_option maxHeartbeats 2000000 in
theorem decimal_any (v : Value) (z : Int) (L : Nat) (w : World) (hv : IsI w v z L) (hL : L ≤ 200000000) (htab : Tab w) :
 Calls Tryz.prog 40 #[v] w fun e w' => e = .returned (.string ⟨(Lib.itoa z).toArray⟩) ∧ Below w.heap.size w w' := by
 obtain ⟨sl, xs, rfl, h2, h3, h4, h5⟩ := hv
 obtain ⟨ao, cap, rfl, -⟩ := h5.open_
 have HZ := Hid.mk (Lim_len_zero h2 h3)
 have HT := Hid.mk htab
 have H := Hid.mk (And.intro h2 (And.intro h3 (And.intro h4 h5)))
 have hlx : xs.length ≤ 200000000 := by omega
 clear h2 h3 h4 h5 htab
 by_cases hz : z = 0
 ·have hl : ((xs.length : Int) == 0) = true := beq_iff_eq.2 (by have := HZ.out.2 hz; omega)
  subst hz
  go_enter Tryz.func40, Tryz.ntmps40
  go_wp2_with (go_at_call 68; refine (isZero_raw _ _ _ _ _).mono ?_; rintro e w' ⟨rfl, rfl⟩)
  go_ret
  refine ⟨?_, ?_⟩
  ·rw [show Lib.itoa 0 = [48] from by decide +kernel]; rfl
  ·repeat (first | exact Below.refl _ _ | refine Below.alloc ?_ (by simp <;> omega) _)
 ·have hl : ((xs.length : Int) == 0) = false := beq_eq_false_iff_ne.2 (by have := HZ.out; omega)
  have HZ0 := Hid.mk hz
  clear hz
  obtain ⟨W0, hW0⟩ : ∃ W0, W0 = w.alloc (.cells #[.bool (decide (z < 0)), .slice ao xs.length cap] 79) := ⟨_, rfl⟩
  have HW := Hid.mk hW0
  clear hW0
  obtain ⟨D, hD⟩ : ∃ D, D = Lib.decDigits z.natAbs := ⟨_, rfl⟩
  have hDl : D.length ≤ 2400000000 := by
   rw [hD, Lib.decDigits_length, ← H.out.2.1]
   have := nDigits_limbs H.out.1.1
   omega
  have HD := Hid.mk hD
  clear hD
  go_enter Tryz.func40, Tryz.ntmps40
  go_wp2_with (go_at_call 68; refine (isZero_raw _ _ _ _ _).mono ?_; rintro e w' ⟨rfl, rfl⟩)
  go_loopg [3, 4] (val xs) (fun g t v wr => ∃ (tt : List UInt8) (ys : List Nat), t = .string ⟨tt.toArray⟩ ∧ tt.length ≤ 2400000000 ∧ ys.length ≤ 200000000 ∧ Own wr v ys ∧ Lim ys ∧ Below W0.heap.size W0 wr ∧ Hid (val ys = g ∧ if val ys = 0 then tt = D else Lib.decDigits (val ys) ++ tt = D))
  case atStart =>
   refine ⟨[], xs, rfl, by simp, hlx, ?_, H.out.1, ?_, Hid.mk ⟨rfl, ?_⟩⟩
   ·refine H.out.2.2.2.below ?_
    repeat (first | exact Below.refl _ _ | refine Below.alloc ?_ (by simp <;> omega) _)
   ·rw [HW.out]; exact (Below.refl _ _).alloc (by simp) _
   ·have := HZ0.out
    rw [if_neg (by rw [H.out.2.1]; omega), HD.out, H.out.2.1, List.append_nil]
  case round =>
   obtain ⟨tt, ys, rfl, htl, hyl, hown, hlim, hbel, HI⟩ := hrel
   obtain ⟨bo, dap, rfl, -⟩ := hown.open_
   by_cases hy : ys = []
   ·subst hy
    have htt : tt = D := by have := HI.out.2; rw [if_pos val_nil] at this; exact this
    have HTT := Hid.mk htt
    clear htt
    have hb1 : wr.cell? ⟨w.heap.size, 0, none⟩ = some (.bool (decide (z < 0))) := by
     rw [hbel.cell (p := ⟨w.heap.size, 0, none⟩) (by rw [HW.out]; simp), HW.out]; simp
    by_cases hn : z < 0
    ·have hd : decide (z < 0) = true := by simpa using hn
     have HN := Hid.mk hn
     clear hn
     go_wp2_with fail
     go_ret
     refine ⟨?_, (by rw [HW.out]; exact (Below.refl _ _).alloc (Nat.le_refl _) _ : Below w.heap.size w W0).trans (hbel.mono (by rw [HW.out]; simp))⟩
     have e1 : Lib.itoa z = 45 :: tt := by
      obtain ⟨u, rfl⟩ : ∃ u : Nat, z = -(u : Int) := ⟨z.natAbs, by have := HN.out; omega⟩
      rw [Lib.itoa_neg u (by have := HN.out; omega), HTT.out, HD.out]
      simp
     rw [e1]
     exact ret_str (str_app [45] tt)
    ·have hd : decide (z < 0) = false := by simpa using hn
     have HN := Hid.mk hn
     clear hn
     go_wp2_with fail
     go_ret
     refine ⟨?_, (by rw [HW.out]; exact (Below.refl _ _).alloc (Nat.le_refl _) _ : Below w.heap.size w W0).trans (hbel.mono (by rw [HW.out]; simp))⟩
     have e1 : Lib.itoa z = tt := by
      obtain ⟨u, rfl⟩ : ∃ u : Nat, z = (u : Int) := ⟨z.natAbs, by have := HN.out; omega⟩
      rw [Lib.itoa_nonneg, HTT.out, HD.out]
      simp
     rw [e1]
     rfl
   ·have hyp : 0 < ys.length := List.length_pos_iff.2 hy
    have HV : Hid (0 < val ys) := Hid.mk (by have := Lim_zero hlim; have : val ys ≠ 0 := fun h => hy (this.1 h); omega)
    have HY := Hid.mk hy
    clear hy
    go_wp2_with fail
    refine (splitChunk_any _ ys _ hown hlim.1 (by omega)).mono ?_
    rintro e w1 ⟨r, rfl, hr⟩
    obtain ⟨co, ecap, hs, rfl, hZ, hb⟩ := hr.shape
    generalize hlq : val ys % 1000000000 = l at *
    have hll : l < 1000000000 := by omega
    have HLQ := Hid.mk hlq
    clear hlq hr
    have hlen : hs.length ≤ 200000000 := by have := hZ.out.2.2.1; omega
    go_wp2_with fail
    refine (fmtUint_any l (by omega) _ ((((HT.out.alloc _).below (by rw [← HW.out]; exact hbel)).below hb))).mono ?_
    rintro e w2 ⟨rfl, hb2⟩
    have ho2 : Own w2 (.slice co hs.length ecap) hs := hZ.out.2.2.2.below hb2
    have hbel2 : Below W0.heap.size W0 w2 := (hbel.trans (hb.mono hbel.size)).trans (hb2.mono (Nat.le_trans hbel.size hb.size))
    have hnd := nDigits_le9 l hll
    have hnd1 := Lib.nDigits_pos l
    have hfin : ∀ pl', (0 < hs.length ∧ pl' = List.replicate (9 - Lib.nDigits l) 48 ++ Lib.decDigits l) ∨ (hs.length = 0 ∧ pl' = Lib.decDigits l) →
     (if val hs = 0 then pl' ++ tt = D else Lib.decDigits (val hs) ++ (pl' ++ tt) = D) ∧ val hs < gk := by
     intro pl' hp
     have e1 := HI.out.1
     have e2 := HI.out.2
     have e3 := HV.out
     have e4 := hZ.out.2.1
     have e5 := Lim_zero hZ.out.1
     rw [if_neg (by omega)] at e2
     rw [e4]
     refine ⟨dec_round e2 ?_, by omega⟩
     rw [HLQ.out]
     rcases hp with ⟨hp1, hp2⟩ | ⟨hp1, hp2⟩
     ·refine .inl ⟨?_, hp2⟩
      have : val hs ≠ 0 := fun h => by rw [e5.1 h] at hp1; simp at hp1
      omega
     ·refine .inr ⟨?_, hp2⟩
      rw [← e4]
      exact e5.2 (List.eq_nil_of_length_eq_zero hp1)
    have HFN := Hid.mk hfin
    clear hfin
    have H2 := Hid.mk (And.intro ho2 hbel2)
    clear hb hb2 ho2 hbel2 hbel hown
    go_wp2_with fail
    go_loopg [7] (9 - Lib.nDigits l) (fun g p ws => ∃ pl : List UInt8, p = .string ⟨pl.toArray⟩ ∧ pl.length ≤ 9 ∧ ws = w2 ∧ Hid (g = 9 - pl.length ∧ pl = List.replicate (pl.length - Lib.nDigits l) 48 ++ Lib.decDigits l ∧ Lib.nDigits l ≤ pl.length ∧ (hs.length = 0 → pl = Lib.decDigits l)))
    case atStart => exact ⟨Lib.decDigits l, rfl, by rw [Lib.decDigits_length]; exact hnd, rfl, Hid.mk ⟨by rw [Lib.decDigits_length], by rw [Lib.decDigits_length]; simp, by rw [Lib.decDigits_length]; exact Nat.le_refl _, fun _ => rfl⟩⟩
    case round =>
     obtain ⟨pl, rfl, hpl, rfl, HI2⟩ := hrel
     by_cases hh : 0 < hs.length
     ·by_cases h9 : pl.length < 9
      ·go_wp2_with fail
       go_roundg (9 - (48 :: pl).length)
       case measure => have := HI2.out.1; simp; omega
       case rel => exact ⟨48 :: pl, val_str (str_app [48] pl), by simp; omega, rfl, Hid.mk ⟨rfl, pad_next HI2.out.2.1 HI2.out.2.2.1, by have := HI2.out.2.2.1; simp; omega, fun h => by omega⟩⟩
      ·have hpe : pl = List.replicate (9 - Lib.nDigits l) 48 ++ Lib.decDigits l := by
        have := HI2.out.2.1
        rw [show pl.length = 9 from by omega] at this
        exact this
       have HPE := Hid.mk hpe
       clear hpe
       go_wp2_with fail
       obtain ⟨f1, f2⟩ := HFN.out pl (.inl ⟨hh, HPE.out⟩)
       go_roundg (val hs)
       case measure => exact f2
       case rel => exact ⟨pl ++ tt, hs, val_str (str_app pl tt), Nat.le_trans (dec_len f1) hDl, hlen, H2.out.1, hZ.out.1, H2.out.2, Hid.mk ⟨rfl, f1⟩⟩
     ·have h0 : hs.length = 0 := by omega
      have H0 := Hid.mk h0
      clear h0
      go_wp2_with fail
      obtain ⟨f1, f2⟩ := HFN.out pl (.inr ⟨H0.out, HI2.out.2.2.2 H0.out⟩)
      go_roundg (val hs)
      case measure => exact f2
      case rel => exact ⟨pl ++ tt, hs, val_str (str_app pl tt), Nat.le_trans (dec_len f1) hDl, hlen, H2.out.1, hZ.out.1, H2.out.2, Hid.mk ⟨rfl, f1⟩⟩
open Go.RowKit
def Rd (w : World) (p : Nat) (s : ByteArray) (q : Nat) : Prop := w.heap[p]? = some (.cells #[.string s, .int .i64 q, .bool false] 106 (0, 0))
def Fr (p : Nat) (w w' : World) : Prop := w.grownBy w' (some p) ∧ KT w w'
theorem Fr.refl (p : Nat) (w : World) : Fr p w w := ⟨World.grownBy.refl _ _, KT.refl _⟩
theorem Fr.trans {p : Nat} {a b c : World} (h : Fr p a b) (k : Fr p b c) : Fr p a c := ⟨grown_trans h.1 k.1, h.2.trans k.2⟩
theorem Fr.of_below {p : Nat} {w w' : World} (h : Below w.heap.size w w') : Fr p w w' := ⟨grown_below (World.grownBy.refl _ _) h, KT.of_below h⟩
theorem Rd.lt {w : World} {p : Nat} {s : ByteArray} {q : Nat} (h : Rd w p s q) : p < w.heap.size := (Array.getElem?_eq_some_iff.1 h).1
theorem Rd.ty {w : World} {p : Nat} {s : ByteArray} {q : Nat} (h : Rd w p s q) : Ty w p 106 := ⟨_, _, h⟩
theorem Rd.below {w w' : World} {p : Nat} {s : ByteArray} {q : Nat} (h : Rd w p s q) (hb : Below w.heap.size w w') : Rd w' p s q := by unfold Rd; rw [hb.block p h.lt]; exact h
theorem Rd.cells {w : World} {p : Nat} {s : ByteArray} {q : Nat} (h : Rd w p s q) : w.cell? ⟨p, 0, none⟩ = some (.string s) ∧ w.cell? ⟨p, 1, none⟩ = some (.int .i64 q) ∧ w.cell? ⟨p, 2, none⟩ = some (.bool false) ∧ w.frozen? ⟨p, 1, none⟩ = false ∧ w.frozen? ⟨p, 2, none⟩ = false := by
 unfold Rd at h
 refine ⟨?_, ?_, ?_, ?_, ?_⟩ <;> simp [World.cell?, World.frozen?, h]
theorem Rd.move {w : World} {p : Nat} {s : ByteArray} {q : Nat} (h : Rd w p s q) {z : Int} {q' : Nat} (hz : z = q') (n : Nat) : Rd ((w.setCell ⟨p, 1, none⟩ (.int .i64 z)).drewN n) p s q' ∧ Fr p w ((w.setCell ⟨p, 1, none⟩ (.int .i64 z)).drewN n) := by
 subst hz
 refine ⟨?_, ⟨rfl, rfl, rfl, by simp [World.setCell], fun k _ hne => ?_⟩, ?_⟩
 ·show (w.setCell ⟨p, 1, none⟩ (.int .i64 q')).heap[p]? = _
  rw [heap_setCell_same _ _ _ _ _ _ h]
  simp
 ·show (w.setCell ⟨p, 1, none⟩ (.int .i64 q')).heap[k]? = _
  rw [Below.heap_setCell _ _ _ _ (fun e => hne (by simp [e]))]
 ·exact KT.setCell (KT.refl _) h.ty (by decide) (by decide) _
def Rem (s : ByteArray) (q : Nat) (l : List UInt8) : Prop := q ≤ s.size ∧ s.data.toList.drop q = l
theorem Rem.cons {s : ByteArray} {q : Nat} {c : UInt8} {l : List UInt8} (h : Rem s q (c :: l)) : ∃ hq : q < s.size, s[q]'hq = c ∧ Rem s (q + 1) l := by
 obtain ⟨h1, h2⟩ := h
 have hq : q < s.data.toList.length := by
  rcases Nat.lt_or_ge q s.data.toList.length with h3 | h3
  ·exact h3
  ·rw [List.drop_eq_nil_of_le h3] at h2; cases h2
 rw [List.drop_eq_getElem_cons hq] at h2
 injection h2 with e1 e2
 have hq' : q < s.size := by simpa using hq
 exact ⟨hq', e1, by omega, e2⟩
theorem Rem.nil {s : ByteArray} {q : Nat} (h : Rem s q []) : q = s.size := by
 obtain ⟨h1, h2⟩ := h
 have := List.drop_eq_nil_iff.1 h2
 have h3 : s.data.toList.length = s.size := by simp
 omega
theorem Rem.app {s : ByteArray} {q : Nat} {a l : List UInt8} (h : Rem s q (a ++ l)) : Rem s (q + a.length) l := by
 induction a generalizing q with
 | nil => simpa using h
 | cons x r ih =>
   obtain ⟨_, _, h3⟩ := h.cons
   have := ih h3
   rwa [List.length_cons, show q + (r.length + 1) = q + 1 + r.length from by omega]
set_option maxRecDepth 100000 in
set_option maxHeartbeats 1000000 in
theorem sees_some (p : Nat) (s : ByteArray) (q : Nat) (c : Int) (x : UInt8) (l : List UInt8) (w : World) (h : Rd w p s q) (hr : Rem s q (x :: l)) (_hs : s.size ≤ 4611686018427387904) :
 Calls Tryz.prog 88 #[.pointer (some ⟨p, 0, none⟩), .int .u8 c] w fun e w' => e = .returned (.bool ((x.toNat : Int) == c)) ∧ ∃ n, w' = w.drewN n := by
 obtain ⟨hq, hx, -⟩ := hr.cons
 obtain ⟨c0, c1, c2, -, -⟩ := h.cells
 have hx' : (s[q]'hq).toNat = x.toNat := by rw [hx]
 have hqi : (q : Int) < (s.size : Int) := by omega
 clear h hr hx
 go_enter Tryz.func88, Tryz.ntmps88
 go_wp2_with fail
 go_quiet (fail)
 go_wp2_with fail
 go_ret
 exact ⟨rfl, _, rfl⟩
set_option maxRecDepth 100000 in
set_option maxHeartbeats 1000000 in
theorem want_ok (p : Nat) (s : ByteArray) (q : Nat) (c : Int) (x : UInt8) (l : List UInt8) (w : World) (h : Rd w p s q) (hr : Rem s q (x :: l)) (hs : s.size ≤ 4611686018427387904) (hc : (x.toNat : Int) = c) :
 Calls Tryz.prog 56 #[.pointer (some ⟨p, 0, none⟩), .int .u8 c] w fun e w' => e = .returned (.tuple #[]) ∧ Rd w' p s (q + 1) ∧ Fr p w w' := by
 obtain ⟨hq, -, -⟩ := hr.cons
 obtain ⟨c0, c1, c2, c3, c4⟩ := h.cells
 have hb : ((x.toNat : Int) == c) = true := beq_iff_eq.2 hc
 have H := Hid.mk h
 have HR := Hid.mk hr
 clear h hr hc
 go_enter Tryz.func56, Tryz.ntmps56
 go_wp2_with fail
 refine (sees_some p s q c x l _ H.out HR.out hs).mono ?_
 rintro e w' ⟨rfl, n, rfl⟩
 rw [hb]
 go_wp2_with fail
 refine bodyPost_ret (v := .tuple #[]) ?_ rfl ?_
 ·(simp [results, Tryz.results56, go_sem]; done)
 ·exact ⟨rfl, H.out.move (by omega) n⟩
def Run (ds : List UInt8) : Prop := ds ≠ [] ∧ Digs ds ∧ (ds.length = 1 ∨ ∃ d r, ds = d :: r ∧ d.toNat ≠ 48)
def Stops (l : List UInt8) : Prop := l = [] ∨ ∃ c r, l = c :: r ∧ (c.toNat < 48 ∨ 57 < c.toNat)
theorem Rem.dig {s : ByteArray} {q : Nat} {ds l : List UInt8} (h : Rem s q (ds ++ l)) (k : Nat) (hk : k < ds.length) : ∃ hq : q + k < s.size, s[q + k]'hq = ds[k] := by
 induction ds generalizing q k with
 | nil => simp at hk
 | cons x r ih =>
   obtain ⟨h1, h2, h3⟩ := h.cons
   match k, hk with
   | 0, _ => exact ⟨h1, h2⟩
   | k + 1, hk =>
     obtain ⟨h4, h5⟩ := ih h3 k (by simpa using hk)
     have e : q + (k + 1) = q + 1 + k := by omega
     refine ⟨by omega, ?_⟩
     simp only [List.getElem_cons_succ, ← h5]
     congr 1
theorem Rem.cut {s : ByteArray} {q : Nat} {ds l : List UInt8} (h : Rem s q (ds ++ l)) : s.extract q (q + ds.length) = ⟨ds.toArray⟩ := by
 apply ByteArray.ext
 obtain ⟨h1, h2⟩ := h
 have h3 : (s.extract q (q + ds.length)).data.toList = ds := by
  rw [ByteArray.data_extract, Array.toList_extract, List.extract_eq_take_drop, h2, Nat.add_sub_cancel_left, List.take_left]
 show (s.extract q (q + ds.length)).data = ds.toArray
 rw [← Array.toArray_toList (xs := (s.extract q (q + ds.length)).data), h3]
set_option maxRecDepth 100000 in
set_option maxHeartbeats 2000000 in
theorem digits_ok (p : Nat) (s : ByteArray) (a : Nat) (ds l : List UInt8) (w : World) (h : Rd w p s a) (hr : Rem s a (ds ++ l)) (hs : s.size ≤ 4611686018427387904) (hd : Run ds) (hl : Stops l) :
 Calls Tryz.prog 87 #[.pointer (some ⟨p, 0, none⟩)] w fun e w' => e = .returned (.string ⟨ds.toArray⟩) ∧ Rd w' p s (a + ds.length) ∧ Fr p w w' := by
 have H := Hid.mk h
 have HR := Hid.mk hr
 have HD := Hid.mk hd
 have HL := Hid.mk hl
 obtain ⟨c0, c1, c2, c3, c4⟩ := h.cells
 clear h hr hd hl
 go_enter Tryz.func87, Tryz.ntmps87
 go_wp2_with fail
 go_loopg [] ds.length (fun g wr => ∃ k q : Nat, k ≤ ds.length ∧ Rd wr p s q ∧ Fr p w wr ∧ Hid (q = a + k ∧ g = ds.length - k))
 case atStart => exact ⟨0, a, Nat.zero_le _, H.out, Fr.refl _ _, Hid.mk ⟨rfl, rfl⟩⟩
 case round =>
  clear c0 c1 c2 c3 c4
  obtain ⟨k, q, hk, hrd, hfr, HI⟩ := hrel
  obtain ⟨c0, c1, c2, c3, c4⟩ := hrd.cells
  have HRD := Hid.mk hrd
  have HFR := Hid.mk hfr
  clear hrd hfr
  by_cases hkd : k < ds.length
  ·obtain ⟨hq0, hx⟩ := HR.out.dig k hkd
   have hq : q < s.size := by rw [HI.out.1]; exact hq0
   have hd := HD.out.2.1 _ (List.getElem_mem hkd)
   have hxq : s[q]'hq = ds[k] := by rw [← hx]; congr 1; exact HI.out.1
   rw [← hxq] at hd
   have d1 : (48 : Int) ≤ ((s[q]'hq).toNat : Int) := by omega
   have d2 : ((s[q]'hq).toNat : Int) ≤ 57 := by omega
   have hqi : (q : Int) < (s.size : Int) := by omega
   clear hd hxq hx hq0
   go_wp2_with fail
   go_quiet (fail)
   go_wp2_with fail
   go_roundg (ds.length - (k + 1))
   case measure => have := HI.out.2; omega
   case rel =>
    have M := HRD.out.move (q' := q + 1) (z := (q : Int) + 1) (by omega) nq
    exact ⟨k + 1, q + 1, by omega, M.1, HFR.out.trans M.2, Hid.mk ⟨by have := HI.out.1; omega, rfl⟩⟩
  ·have hkk : k = ds.length := by omega
   have hqq : q = a + ds.length := by rw [← hkk]; exact HI.out.1
   have HQ := Hid.mk hqq
   have hdl : 0 < ds.length := List.length_pos_iff.2 HD.out.1
   obtain ⟨rb, hrb⟩ : ∃ rb, s.extract a q = rb := ⟨_, rfl⟩
   have hrb2 : rb = ⟨ds.toArray⟩ := by rw [← hrb, hqq]; exact HR.out.cut
   have hrs : rb.size = ds.length := by rw [hrb2]; rfl
   have HRUN : Hid (rb.size = 1 ∨ (1 < rb.size ∧ ∃ hz : 0 < rb.size, ((rb[0]'hz).toNat == 48) = false)) := by
    refine Hid.mk ?_
    rcases HD.out.2.2 with h1 | ⟨d, r, h1, h2⟩
    ·exact .inl (by omega)
    ·by_cases h3 : rb.size = 1
     ·exact .inl h3
     ·refine .inr ⟨by omega, by omega, ?_⟩
      have h4 : rb[0]'(by omega) = d := by subst h1; subst hrb2; rfl
      rw [h4]
      exact beq_eq_false_iff_ne.2 h2
   have HRB := Hid.mk hrb2
   have hn1 : 1 ≤ rb.size := by omega
   have haq : a ≤ q := by omega
   have hqs : q ≤ s.size := by have := HR.out.app; rw [hqq]; exact this.1
   clear hrb2 hqq hkk hrs hkd
   rcases HL.out with hl | ⟨c, r, hl, hc⟩
   ·have hd0 : decide (q < s.size) = false := by
     have h1 := HR.out.app
     rw [hl, ← HQ.out] at h1
     have := h1.nil
     simp; omega
    go_wp2_with fail
    go_quiet (fail)
    go_wp2_with fail
    go_quiet (fail)
    rcases HRUN.out with h1 | ⟨h1, h0⟩
    ·have g1 : ((rb.size : Int) == 0) = false := beq_eq_false_iff_ne.2 (by omega)
     have g2 : decide (1 < (rb.size : Int)) = false := by simp; omega
     go_wp2_with fail
     go_ret
     exact ⟨ret_str HRB.out, by rw [← HQ.out]; exact HRD.out.below (below_drewN (Below.refl _ _) _), HFR.out.trans (Fr.of_below (below_drewN (Below.refl _ _) _))⟩
    ·have g1 : ((rb.size : Int) == 0) = false := beq_eq_false_iff_ne.2 (by omega)
     have g2 : (1 : Int) < (rb.size : Int) := by omega
     obtain ⟨hz, g3⟩ := h0
     go_wp2_with fail
     go_ret
     exact ⟨ret_str HRB.out, by rw [← HQ.out]; exact HRD.out.below (below_drewN (Below.refl _ _) _), HFR.out.trans (Fr.of_below (below_drewN (Below.refl _ _) _))⟩
   ·have h1 := HR.out.app
    rw [hl, ← HQ.out] at h1
    obtain ⟨hq, hx, -⟩ := h1.cons
    have hxc : (s[q]'hq).toNat = c.toNat := by rw [hx]
    have hqi : (q : Int) < (s.size : Int) := by omega
    rcases hc with hc | hc
    ·have e1 : decide ((48 : Int) ≤ ((s[q]'hq).toNat : Int)) = false := by rw [hxc]; simp; omega
     have e2 : decide (48 ≤ (s[q]'hq).toNat) = false := by rw [hxc]; simp; omega
     clear hxc hx h1 hc
     go_wp2_with fail
     go_quiet (fail)
     go_wp2_with fail
     go_quiet (fail)
     rcases HRUN.out with h1 | ⟨h1, h0⟩
     ·have g1 : ((rb.size : Int) == 0) = false := beq_eq_false_iff_ne.2 (by omega)
      have g2 : decide (1 < (rb.size : Int)) = false := by simp; omega
      go_wp2_with fail
      go_ret
      exact ⟨ret_str HRB.out, by rw [← HQ.out]; exact HRD.out.below (below_drewN (Below.refl _ _) _), HFR.out.trans (Fr.of_below (below_drewN (Below.refl _ _) _))⟩
     ·have g1 : ((rb.size : Int) == 0) = false := beq_eq_false_iff_ne.2 (by omega)
      have g2 : (1 : Int) < (rb.size : Int) := by omega
      obtain ⟨hz, g3⟩ := h0
      go_wp2_with fail
      go_ret
      exact ⟨ret_str HRB.out, by rw [← HQ.out]; exact HRD.out.below (below_drewN (Below.refl _ _) _), HFR.out.trans (Fr.of_below (below_drewN (Below.refl _ _) _))⟩
    ·have d1 : (48 : Int) ≤ ((s[q]'hq).toNat : Int) := by rw [hxc]; omega
     have e1 : decide (((s[q]'hq).toNat : Int) ≤ 57) = false := by rw [hxc]; simp; omega
     have e2 : decide ((s[q]'hq).toNat ≤ 57) = false := by rw [hxc]; simp; omega
     clear hxc hx h1 hc
     go_wp2_with fail
     go_quiet (fail)
     go_wp2_with fail
     go_quiet (fail)
     rcases HRUN.out with h1 | ⟨h1, h0⟩
     ·have g1 : ((rb.size : Int) == 0) = false := beq_eq_false_iff_ne.2 (by omega)
      have g2 : decide (1 < (rb.size : Int)) = false := by simp; omega
      go_wp2_with fail
      go_ret
      exact ⟨ret_str HRB.out, by rw [← HQ.out]; exact HRD.out.below (below_drewN (Below.refl _ _) _), HFR.out.trans (Fr.of_below (below_drewN (Below.refl _ _) _))⟩
     ·have g1 : ((rb.size : Int) == 0) = false := beq_eq_false_iff_ne.2 (by omega)
      have g2 : (1 : Int) < (rb.size : Int) := by omega
      obtain ⟨hz, g3⟩ := h0
      go_wp2_with fail
      go_ret
      exact ⟨ret_str HRB.out, by rw [← HQ.out]; exact HRD.out.below (below_drewN (Below.refl _ _) _), HFR.out.trans (Fr.of_below (below_drewN (Below.refl _ _) _))⟩
open Go.RowKit
def sumF : Nat → (Nat → Int) → Int
 | 0, _ => 0
 | k + 1, f => sumF k f + f k
def signed (c : Nat) (z : Int) : Int := if c % 2 = 1 then -z else z
def detF : Nat → (Nat → Nat → Int) → Int
 | 0, _ => 1
 | n + 1, f => sumF (n + 1) fun c => signed c (f 0 c * detF n fun i j => f (i + 1) (skip c j))
def Rep (n : Nat) (zs : List Int) (f : Nat → Nat → Int) : Prop := ∀ i j, i < n → j < n → zs.getD (i * n + j) 0 = f i j
theorem Rep.minor {n col : Nat} {zs ms : List Int} {f : Nat → Nat → Int} (h : Rep (n + 1) zs f) (hm : MinorOf (n + 1) (n + 1) col zs ms) : Rep n ms fun i j => f (i + 1) (skip col j) := by
 intro i j hi hj
 have := hm i j (by omega) (by omega)
 simp only [Nat.add_sub_cancel] at this
 rw [this]
 exact h (i + 1) (skip col j) (by omega) (by unfold skip; split <;> omega)
def LD (L : Nat) : Nat → Nat
 | 0 => 2
 | n + 1 => L + LD L n + (n + 1)
theorem LD_mono (L : Nat) (n : Nat) : LD L n ≤ LD L (n + 1) := by rw [LD]; omega
def Boxes (w : World) (b d r c : Nat) (sl : Value) (nb : Bool) (s : Value) : Prop :=
 w.cell? ⟨b, 0, none⟩ = some (.int .i64 r) ∧ w.cell? ⟨b, 1, none⟩ = some (.int .i64 c) ∧ w.cell? ⟨b, 2, none⟩ = some sl ∧ w.cell? ⟨d, 0, none⟩ = some (.bool nb) ∧ w.cell? ⟨d, 1, none⟩ = some s ∧
  w.frozen? ⟨d, 0, none⟩ = false ∧ w.frozen? ⟨d, 1, none⟩ = false
theorem Boxes.lt {w : World} {b d r c : Nat} {sl : Value} {nb : Bool} {s : Value} (h : Boxes w b d r c sl nb s) : b < w.heap.size ∧ d < w.heap.size := ⟨World.block_lt_of_cell? w _ h.1, World.block_lt_of_cell? w _ h.2.2.2.1⟩
theorem Boxes.below {w w' : World} {b d r c : Nat} {sl : Value} {nb : Bool} {s : Value} (h : Boxes w b d r c sl nb s) (hb : Below w.heap.size w w') : Boxes w' b d r c sl nb s := by
 have hl := h.lt.2
 obtain ⟨h1, h2, h3, h4, h5, h6, h7⟩ := h
 exact ⟨cell_later hb h1, cell_later hb h2, cell_later hb h3, cell_later hb h4, cell_later hb h5, by rw [hb.frozen (p := ⟨d, 0, none⟩) hl]; exact h6, by rw [hb.frozen (p := ⟨d, 1, none⟩) hl]; exact h7⟩
theorem Boxes.put {w : World} {b d r c : Nat} {sl : Value} {nb nb' : Bool} {s s' : Value} (h : Boxes w b d r c sl nb s) (hne : b ≠ d) : Boxes ((w.setCell ⟨d, 0, none⟩ (.bool nb')).setCell ⟨d, 1, none⟩ s') b d r c sl nb' s' := by
 obtain ⟨h1, h2, h3, h4, h5, h6, h7⟩ := h
 have o : ∀ i j : Nat, (⟨d, i, none⟩ : Addr) ≠ ⟨b, j, none⟩ := fun i j e => hne (by injection e with e1; exact e1.symm)
 have e0 : (w.setCell ⟨d, 0, none⟩ (.bool nb')).cell? ⟨d, 0, none⟩ = some (.bool nb') := World.cell?_setCell_same _ _ _ h4
 have e1 : (w.setCell ⟨d, 0, none⟩ (.bool nb')).cell? ⟨d, 1, none⟩ = some s := by rw [World.cell?_setCell_other _ _ _ _ (by simp)]; exact h5
 refine ⟨?_, ?_, ?_, ?_, ?_, by simpa using h6, by simpa using h7⟩
 ·rw [World.cell?_setCell_other _ _ _ _ (o _ _), World.cell?_setCell_other _ _ _ _ (o _ _)]; exact h1
 ·rw [World.cell?_setCell_other _ _ _ _ (o _ _), World.cell?_setCell_other _ _ _ _ (o _ _)]; exact h2
 ·rw [World.cell?_setCell_other _ _ _ _ (o _ _), World.cell?_setCell_other _ _ _ _ (o _ _)]; exact h3
 ·rw [World.cell?_setCell_other _ _ _ _ (by simp)]; exact e0
 ·exact World.cell?_setCell_same _ _ _ e1
def DetSaid (n : Nat) : Prop := ∀ (v : Value) (zs : List Int) (f : Nat → Nat → Int) (L : Nat) (w : World), IsM w v n n zs L → Rep n zs f → LD L n ≤ 10000 → L ≤ 5000 →
    Calls Tryz.prog 39 #[v] w fun e w' => ∃ x, e = .returned x ∧ IntOut w w' x (detF n f) (LD L n)
set_option maxRecDepth 100000 in
set_option maxHeartbeats 2000000 in
theorem det_zero : DetSaid 0 := by
 intro v zs f L w hm hrep hl hL
 obtain ⟨_, _, sl, rfl, hg⟩ := hm
 obtain ⟨ao, cap, rfl, -⟩ := hg.shape
 clear hg
 go_enter Tryz.func39, Tryz.ntmps39
 go_wp2_with (first | (go_at_call 38; refine (isSquare_raw _ _ _ _ _ _).mono ?_; rintro e w' ⟨rfl, rfl⟩))
 refine (fromOne_any _).mono ?_
 rintro e w1 ⟨r, rfl, hr, hb⟩
 obtain ⟨nb, bo, n, ecap, rfl⟩ := hr.shape
 obtain ⟨hc, hf⟩ := bcell hb
 have hty : Ty w1 (w.heap.size + 1) 79 := Ty.below (Ty.alloc (Ty.at_ _ _ _ (by simp)) _) hb (by simp)
 have hz : w.heap.size + 2 < w1.heap.size := by have := hb.size; simp at this; omega
 have HT := Hid.mk hty
 have HR := Hid.mk hr
 have HB := Hid.mk hb
 clear hb hr hty
 go_wp2_with fail
 refine bodyPost_ret (v := .agg #[.bool nb, .slice bo n ecap]) ?_ rfl ?_
 ·(simp [results, Tryz.results39, go_sem, hc]; done)
 ·refine ⟨_, rfl, HR.out.keep (KU.setCell (KU.setCell (KU.refl _) HT.out (by decide) _) (HT.out.setCell _ _) (by decide) _), ?_⟩
  refine Below.setCell (Below.setCell ?_ (by simp) _) (by simp) _
  refine Below.trans ?_ (HB.out.mono (by simp <;> omega))
  repeat (first | exact Below.refl _ _ | refine Below.alloc ?_ (by simp <;> omega) _)
end Go.Proofs.YtfjbijpagaipnabGreatDoor
