import Derived.Test.YtfjbijpagaipnabGreatDoorS33
import Derived.Deep.RegionHeld3
import Derived.StillTailTactics
namespace Go.Proofs.YtfjbijpagaipnabGreatDoor
open Go.RowKit R
theorem grown_belowB {B p : Nat} {w w' : World} (h : w.grownBy w' (some p)) (hp : B ≤ p) (hB : B ≤ w.heap.size) : Below B w w' := ⟨h.os, h.tape, h.output, h.size, fun k hk => h.block k (by omega) (by intro e; injection e with e; omega)⟩
theorem KL.frb' {B : Nat} {w w' : World} {d b : Nat} {l : List KMx} (h : KL B w d b l) (hF : Fr b w w') : Below B w w' := hF.below (KS.hb h) (KS.lo h)
theorem RowsIn.box {r c : Nat} {e : Nat → Nat → Int} (h : RowsIn r c e) (hr : r ≤ 3) : ∀ i j, i < r → j < c → -36 ≤ e i j ∧ e i j ≤ 36 := fun i j hi hj => by
 have h1 := h i hi j hj
 have h2 := pow_box i (by omega)
 omega
theorem shown_of' (B d b : Nat) (h : Int) (P : Prop) (T : List UInt8) (l : List KMx) (w : World) (hk : KL B w d b l) (hP : P → ∃ k r c zs, h = ((k : Nat) : Int) ∧ l.length ≤ 24 ∧ l[k]? = some (r, c, zs) ∧ matT r c zs = T) :
 Calls Tryz.prog 20 #[.pointer (some ⟨d, 0, none⟩), .int .i64 h] w fun x w' => ∃ t : ByteArray, x = .returned (.string t) ∧ (P → t = ⟨T.toArray⟩) ∧ Below w.heap.size w w' := by
 by_cases h0 : P
 ·obtain ⟨k, r, c, zs, rfl, h1, h2, rfl⟩ := hP h0
  refine (shown_stk B d b k r c zs l w hk h1 h2).mono ?_
  rintro x w' ⟨rfl, hb⟩
  exact ⟨_, rfl, fun _ => rfl, hb⟩
 ·refine (shown_out B d b h l w hk).mono ?_
  rintro x w' ⟨⟨t, rfl⟩, hb⟩
  exact ⟨_, rfl, fun h => absurd h h0, hb⟩
theorem ShA.prod {r c n : Nat} {zs rs ts : List Int} (h : ShA r c zs n rs ts) : prodL n r c ts zs = rs := by
 refine list_ent (r := n) (c := c) (by simp [prodL]) h.len (fun i j hi hj => ?_)
 show (prodL n r c ts zs).getD (i * c + j) 0 = _
 rw [prodL_at hi hj, dot_sm]
 exact h.made i j hi hj
theorem Mat.rowR {B : Nat} {w v : World} {mo : Option Addr} {mcap r c : Nat} {gm : Nat → Nat} {em : Nat → Nat → Int} (h : Mat B w (.slice mo r mcap) r c gm em) (hb : Below w.heap.size w v) (hc : c ≤ 9) {i : Nat} (hi : i < r) : ∃ g, mo = some ⟨g, 0, none⟩ ∧ v.cell? ⟨g, i, none⟩ = some (.slice (some ⟨gm i, 0, none⟩) c c) ∧ RdR v (.slice (some ⟨gm i, 0, none⟩) c c) c (em i) := by
 rcases h.shape with ⟨-, h0⟩ | ⟨g, cap, e, -, -, -, hg, -, h1⟩
 ·omega
 ·simp only [Value.slice.injEq] at e
  refine ⟨g, e.1, cell_later hb (h1 i hi).1, _, _, rfl, Nat.le_refl _, by omega, fun j hj => ⟨gm i, 0, rfl, ?_⟩⟩
  rw [Nat.zero_add]
  exact cell_later hb ((h.2 i hi).cell j hj)
theorem RMs.rowR {B B' : Nat} {w v : World} {so : Option Addr} {scap n c : Nat} {rs : List Int} (h : RMs B B' w (.slice so n scap) (rowsL rs c n)) (hb : Below w.heap.size w v) {i : Nat} (hi : i < n) : ∃ g uo ucap, so = some ⟨g, 0, none⟩ ∧ v.cell? ⟨g, i, none⟩ = some (.slice uo c ucap) ∧ RdR v (.slice uo c ucap) c (ent c rs i) := by
 have hl : (rowsL rs c n).length = n := by simp [rowsL]
 obtain ⟨vs, h1, h2⟩ := h.below hb
 rw [hl] at h1 h2
 obtain ⟨h3, -⟩ := h2 i hi
 have hr : (rowsL rs c n).getD i [] = entsL rs (i * c) c := by simp [rowsL, List.getD, hi]
 rw [hr] at h3
 have h4 := h3.rdR
 have hel : (entsL rs (i * c) c).length = c := by simp [entsL]
 rw [hel] at h4
 obtain ⟨uo, ucap, hu, h5, h6, h7⟩ := h4
 rcases h1.2 with ⟨-, h0⟩ | ⟨g, cap, cur, e, hg, hh, q1, q2, q3, q4⟩
 ·omega
 ·simp only [Value.slice.injEq] at e
  have hvl : vs.length = n := by have := h1.1; omega
  refine ⟨g, uo, ucap, e.1, ?_, uo, ucap, rfl, h5, h6, fun j hj => ?_⟩
  ·have h8 : vs[i]? = some (.slice uo c ucap) := by
    have : vs.getD i (.slice none 0 0) = vs[i]'(by omega) := by simp [List.getD, hvl, hi]
    rw [List.getElem?_eq_getElem (show i < vs.length by omega), ← this, hu]
   rw [← q4, Nat.mul_one, List.getElem?_take, if_pos hi] at h8
   simp only [World.cell?, hh]
   simpa using h8
  ·obtain ⟨g', o', e1, e2⟩ := h7 j hj
   refine ⟨g', o', e1, ?_⟩
   rw [e2]
   simp [entsL, List.getD, hj, ent]
theorem Mat.below' {B : Nat} {w v : World} {x : Value} {n c : Nat} {gs : Nat → Nat} {e : Nat → Nat → Int} (h : Mat B w x n c gs e) (hb : Below w.heap.size w v) : Mat B v x n c gs e :=
 h.keep (fun i arr t hi _ h0 => by rw [hb.block i hi]; exact h0)
set_option maxRecDepth 100000 in
set_option maxHeartbeats 8000000 in
theorem short_all (d B : Nat) (w : World) (hd : Di w d) (ht : ∀ w', Below B w w' → Tab w') (hB : B ≤ d) :
 Calls Tryz.prog 23 #[.pointer (some ⟨d, 0, none⟩)] w fun x w' => x = .returned (.bool true) ∧ Below B w w' := by
 have hdl := hd.lt
 have H := Hid.mk (And.intro hd ht)
 clear hd ht
 go_enter Tryz.func23, Tryz.ntmps23
 go_wp2_with fail
 refine (under_any d 4 _ H.out.1 (by omega) (by omega)).mono ?_
 rintro x w1 ⟨⟨r, rfl, hr⟩, hd1, hg1⟩
 have K1 := Hid.mk (And.intro hd1 (grown_belowB hg1 hB (by omega)))
 clear hd1 hg1
 go_wp2_with fail
 refine (under_any d 4 _ K1.out.1 (by omega) (by omega)).mono ?_
 rintro x w2 ⟨⟨c, rfl, hc⟩, hd2, hg2⟩
 have K2 := Hid.mk (And.intro hd2 (K1.out.2.trans (grown_belowB hg2 hB (by have := K1.out.2.size; omega))))
 clear hd2 hg2 K1
 have hr3 : r ≤ 3 := by omega
 have hc3 : c ≤ 3 := by omega
 go_wp2_with fail
 refine (drawn_rise d r c _ K2.out.1 hr3 hc3).mono ?_
 rintro x w3 ⟨m, gm, em, rfl, hM3, hin3, hd3, hg3, -⟩
 obtain ⟨mo, mcap, hmv, hmc1, hmc2, -⟩ := hM3.rd (by omega)
 have K3 := Hid.mk (And.intro hM3 (And.intro (hin3.box hr3) (K2.out.2.trans (grown_belowB hg3 hB (by have := K2.out.2.size; omega)))))
 clear hM3 hin3 hd3 hg3 K2
 subst hmv
 go_wp2_with fail
 refine (deskK_any _ (H.out.2 _ K3.out.2.2)).mono ?_
 rintro x w4 ⟨dk, b, rfl, hk4, hb4⟩
 rw [← stk_nil] at hk4
 have hB3 : B ≤ w3.heap.size := by have := K3.out.2.2.size; omega
 have K4 : Hid (KL w3.heap.size w4 dk b [] ∧ Below w3.heap.size w3 w4) := Hid.mk ⟨hk4, hb4⟩
 clear hk4 hb4
 have hsm : SmallR r c em := fun i j hi hj => by have := K3.out.2.1 i j hi hj; omega
 have HSM := Hid.mk hsm
 clear hsm
 go_wp2_with fail
 refine (put_stk w3.heap.size dk b r c _ em [] _ K4.out.1 (by simp) ((K3.out.1.rd (by omega)).below K4.out.2) (by omega) (by omega) HSM.out).mono ?_
 rintro x w5 ⟨rfl, hk5, hF5⟩
 obtain ⟨zm, hzm⟩ : ∃ zm, zm = nums r c em := ⟨_, rfl⟩
 rw [← hzm] at hk5
 have HZ : Hid (FitsP r c zm ∧ (∀ i j, i < r → j < c → (ent c zm i j).natAbs ≤ 36) ∧ ∀ i j, i < r → j < c → ent c zm i j = em i j) := Hid.mk ⟨by rw [hzm]; exact nums_fits (by omega) (by omega) HSM.out, fun i j hi hj => by
  rw [hzm, nums_ent _ hi hj]
  have := K3.out.2.1 i j hi hj
  omega, fun i j hi hj => by rw [hzm, nums_ent _ hi hj]⟩
 have K5 : Hid (KL w3.heap.size w5 dk b [(r, c, zm)] ∧ Below w3.heap.size w3 w5) := Hid.mk ⟨hk5, K4.out.2.trans (K4.out.1.frb' hF5)⟩
 have c0 := (KS.dk K5.out.1).cell
 clear hk5 hF5 K4 hzm HSM
 go_wp2_with fail
 refine (reduce_stk w3.heap.size dk b 0 r c zm [(r, c, zm)] _ K5.out.1 (by simp) rfl HZ.out.1).mono ?_
 rintro x w6 ⟨hb, xs, rfl, hres, -, hk6, hF6, hl6⟩
 obtain ⟨n, rs, ts, rfl, hS⟩ := hres.all hr3 hc3 HZ.out.2.1
 have hn3 : n ≤ 3 := by have := hS.nr; omega
 have K6 : Hid (KL w3.heap.size w6 dk b [(r, c, zm), (n, c, rs), (n, r, ts)] ∧ Below w3.heap.size w3 w6 ∧ ShA r c zm n rs ts) := Hid.mk ⟨hk6, K5.out.2.trans (K5.out.1.frb' hF6), hS⟩
 have l0 : w6.cell? ⟨hb, 0, none⟩ = some (.int .i64 1) := hl6 0 (by omega)
 have l1 : w6.cell? ⟨hb, 1, none⟩ = some (.int .i64 2) := hl6 1 (by omega)
 clear c0
 have c0 := (KS.dk K6.out.1).cell
 clear hres hk6 hF6 hl6 hS K5
 go_upto_region 9 with fail
 go_cut [9, 10] from 51 to 62 (fun ev qv wx => ev = .int .i64 0 ∧ qv = .bool true ∧ Hid (HasF (ent c zm) r c ∧ Below w6.heap.size w6 wx))
 case first =>
  go_region_with (go_at_call 47; refine (equal_stkF w3.heap.size dk b 0 1 r n c zm rs [(r, c, zm), (n, c, rs), (n, r, ts)] _ (K6.out.1.below (Below.refl _ _).drew) (by simp) rfl rfl HZ.out.1 (few_fits (by omega) (by omega) K6.out.2.2.small)).mono ?_; rintro x w7 ⟨y, rfl, hy, hF, hb7⟩; obtain rfl : y = true := hy.2 K6.out.2.2.same; replace hF := Hid.mk (And.intro hF ((Below.refl w6.heap.size w6).drew.trans hb7)); clear hy hb7)
  all_goals
   go_wp2_with fail
   go_meet
   case rel => exact ⟨rfl, rfl, hF⟩
 case rest =>
  obtain ⟨rfl, rfl, HE⟩ := hcut
  have hs7 := HE.out.2.size
  have l07 := cell_later HE.out.2 l0
  have l17 := cell_later HE.out.2 l1
  have K7 := Hid.mk (And.intro (K6.out.1.below HE.out.2) (K6.out.2.1.trans (HE.out.2.mono K6.out.2.1.size)))
  clear l0 l1 c0
  go_wp2_with fail
  refine (shown_stk w3.heap.size dk b 1 n c rs [(r, c, zm), (n, c, rs), (n, r, ts)] _ K7.out.1 (by simp) rfl).mono ?_
  rintro x w8 ⟨rfl, hb8⟩
  have l18 := cell_later hb8 l17
  have K8 := Hid.mk (And.intro (K7.out.1.below hb8) (K7.out.2.trans (hb8.mono K7.out.2.size)))
  have c0 := (KS.dk K8.out.1).cell
  clear hb8 l07 l17
  obtain ⟨T, hT⟩ : ∃ T : ByteArray, T = ⟨(matT n c rs).toArray⟩ := ⟨_, rfl⟩
  rw [← hT]
  have HT := Hid.mk hT
  clear hT
  go_upto_region 11 with fail
  go_cut [12, 13] from 68 to 79 (fun pv fv wx => ∃ p e : Int, pv = .int .i64 p ∧ fv = .int .i64 e ∧ (e = 4 ∨ e = 0) ∧ Hid ((∃ l2 : List KMx, l2.length ≤ 24 ∧ KL w3.heap.size wx dk b l2 ∧ (e = 0 → p = ((3 : Nat) : Int) ∧ l2[3]? = some (n, c, rs))) ∧ Below w3.heap.size w3 wx))
  case first =>
   go_region_with (go_at_call 48; refine (times_stk w3.heap.size dk b 2 0 n r c ts zm [(r, c, zm), (n, c, rs), (n, r, ts)] _ (K8.out.1.below (Below.refl _ _).drew) (by simp) rfl rfl).mono ?_; rintro x w9 ⟨p, e, rfl, hrel, hF9⟩; replace hrel : (e = 4 ∨ e = 0) ∧ Hid ((∃ l2 : List KMx, l2.length ≤ 24 ∧ KL w3.heap.size w9 dk b l2 ∧ (e = 0 → p = ((3 : Nat) : Int) ∧ l2[3]? = some (n, c, rs))) ∧ Below w3.heap.size w3 w9) := ⟨by rcases hrel with ⟨-, -, h, -⟩ | ⟨-, -, h, -⟩ <;> simp [h], Hid.mk ⟨by
    rcases hrel with ⟨-, -, h, hk⟩ | ⟨-, hp, h, hk⟩
    ·exact ⟨_, by simp, hk, fun h0 => by omega⟩
    ·refine ⟨_, by simp, hk, fun _ => ⟨hp, ?_⟩⟩
     show some (n, c, prodL n r c ts zm) = _
     rw [K6.out.2.2.prod], (K8.out.2.trans (Below.refl _ _).drew).trans ((K8.out.1.below (Below.refl _ _).drew).frb' hF9)⟩⟩; obtain ⟨hrel1, hrel2⟩ := hrel; clear hF9)
   all_goals
    go_wp2_with fail
    go_meet
    case rel => exact ⟨_, _, rfl, rfl, hrel1, hrel2⟩
  case rest =>
   obtain ⟨p, f, rfl, rfl, hf, HR⟩ := hcut
   have hs9 := HR.out.2.size
   clear l18 c0
   obtain ⟨l2, hl2, hk9, hp9⟩ := HR.out.1
   have K9 := Hid.mk (And.intro hk9 (And.intro HR.out.2 hp9))
   clear hk9 hp9 HR
   go_wp2_with fail
   refine (shown_of' w3.heap.size dk b p (f = 0) (matT n c rs) l2 _ K9.out.1 (fun h0 => ⟨3, n, c, rs, (K9.out.2.2 h0).1, hl2, (K9.out.2.2 h0).2, rfl⟩)).mono ?_
   rintro x w10 ⟨ty, rfl, hty, hb10⟩
   rw [← HT.out] at hty
   have K10 := Hid.mk (K9.out.2.1.trans (hb10.mono K9.out.2.1.size))
   clear hb10
   rcases hf with rfl | rfl
   ·clear hty
    go_wp2_with fail
    rw [HT.out]
    refine (read_mat n c rs _ hn3 hc3 K6.out.2.2.len (fun t ht => by
     have hd := rect_div (show t < n * c by rw [← K6.out.2.2.len]; exact ht)
     have h1 := K6.out.2.2.small _ _ hd.1 hd.2
     have h2 : ent c rs (t / c) (t % c) = rs.getD t 0 := by
      unfold ent
      rw [Nat.mul_comm, Nat.div_add_mod]
     rw [h2] at h1
     omega)).mono ?_
    rintro x w11 ⟨sv, B', rfl, hRM, hb11⟩
    have hs11 := hb11.size
    have hb311 := K10.out.trans (hb11.mono K10.out.size)
    obtain ⟨so, scap, hsv, hsc1, hsc2⟩ := hRM.shape
    obtain ⟨sl, hsl⟩ : ∃ sl, sl = (if c = 0 then [] else rowsL rs c n).length := ⟨_, rfl⟩
    rw [← hsl] at hsv hsc1
    subst hsv
    by_cases hs0 : sl = 0
    ·subst hs0
     have KZ := Hid.mk (K3.out.2.2.trans (hb311.mono hB3))
     clear hRM hb11 hsl
     go_wp2_with fail
     go_ret
     exact ⟨rfl, KZ.out⟩
    ·have hc0 : c ≠ 0 := fun e => by rw [if_pos e] at hsl; exact hs0 hsl
     rw [if_neg hc0] at hRM hsl
     obtain rfl : sl = n := by rw [hsl]; simp [rowsL]
     have K11 := Hid.mk (And.intro hRM hb311)
     clear hRM hb11 hsl hb311 hc0
     have hs1 : ((sl : Int) == 0) = false := beq_eq_false_iff_ne.2 (by omega)
     go_wp2_with fail
     go_loopw [18] (fun iv wr => ∃ i : Nat, i ≤ r ∧ iv = .int .i64 i ∧ Hid (Below w11.heap.size w11 wr)) (fun iv _ => r - (intOf iv).toNat)
     case atStart => exact ⟨0, Nat.zero_le _, rfl, Hid.mk (Below.refl _ _)⟩
     case round =>
      rename World => wi
      obtain ⟨i, hi, rfl, KI⟩ := hrel
      by_cases hir : i < r
      ·have hii : (i : Int) < (r : Int) := by omega
       obtain ⟨mg, rfl, m1, hrow⟩ := K3.out.1.rowR (K11.out.2.trans (KI.out.mono K11.out.2.size)) (by omega) hir
       have HROW := Hid.mk hrow
       clear hrow
       go_wp2_with fail
       refine (long_any _ c (em i) _ HROW.out (by omega) (fun j hj => by have := K3.out.2.1 i j hir hj; omega)).mono ?_
       rintro x wl ⟨rfl, hbl⟩
       have KJ := Hid.mk (KI.out.trans (hbl.mono KI.out.size))
       clear hbl m1
       obtain ⟨N, hN⟩ : ∃ N, N = sqs (em i) c := ⟨_, rfl⟩
       rw [← hN]
       have HN := Hid.mk hN
       clear hN
       go_upto_region 23 with fail
       go_cut [141] from 118 to 141 (fun x wx => x = .bool false ∧ Hid (Below w11.heap.size w11 wx))
       case first =>
        by_cases hN0 : 0 < N
        ·obtain ⟨sg, uo, ucap, hso, s1, hsrow⟩ := K11.out.1.rowR KJ.out.drew (show 0 < sl by omega)
         subst hso
         obtain ⟨Q, hQ⟩ : ∃ Q, Q = sqs (ent c rs 0) c := ⟨_, rfl⟩
         have HSR := Hid.mk (And.intro hsrow hQ)
         have HKJ := Hid.mk KJ.out.drew
         clear hsrow hQ
         have hsl1 : 0 < sl := by omega
         have hNb : N ≤ 1000000 := by
          rw [HN.out]
          have h1 := ip_le (M := 36) (x := em i) (c := c) (fun j hj => by have := K3.out.2.1 i j hir hj; omega)
          have h2 : c * (36 * 36) ≤ 3 * (36 * 36) := Nat.mul_le_mul_right _ hc3
          have h3 : sqs (em i) c = ip c (em i) (em i) := rfl
          omega
         have hQN : Q ≤ ((2 ^ (sl - 1) : Nat) : Int) * N := by
          have h1 := K6.out.2.2.first i hir
          have h2 : ip c (ent c zm i) (ent c zm i) = N := by
           rw [HN.out]
           exact sm_congr c (fun j hj => by rw [HZ.out.2.2 i j hir hj])
          rw [h2] at h1
          rw [HSR.out.2]
          refine (h1 ?_).2
          refine Classical.byContradiction fun hne => ?_
          have h3 : N = 0 := by
           rw [← h2]
           refine sm_zero c (fun j hj => ?_)
           have : ent c zm i j = 0 := Classical.byContradiction fun e => hne ⟨j, hj, e⟩
           rw [this]; rfl
          omega
         have w0 : IntKind.i64.wrap (0 : Int) = 0 := rfl
         have w1 : IntKind.i64.wrap (1 : Int) = 1 := rfl
         have w2 : IntKind.i64.wrap (2 : Int) = 2 := rfl
         have HQN := Hid.mk hQN
         clear hQN
         obtain rfl | rfl | rfl : sl = 1 ∨ sl = 2 ∨ sl = 3 := by omega
         all_goals
          go_region_held3 (fun w' => w'.cell? ⟨sg, 0, none⟩ = some (.slice uo c ucap))
           (first | exact s1 | exact cell_later hb9 s1)
           (first | (go_at_call 50; refine (long_any _ c (ent c rs 0) _ HSR.out.1 (by omega) (fun j hj => by have := K6.out.2.2.small 0 j (by omega) hj; omega)).mono ?_; rintro x w9 ⟨rfl, hb9⟩; rw [← HSR.out.2]))
          all_goals
           go_wp2_with fail
           go_meet
           case rel =>
            refine ⟨congrArg Value.bool (decide_eq_false ?_), Hid.mk (HKJ.out.trans (hb9.mono HKJ.out.size))⟩
            rw [IntWalk.i64_in _ (by omega)]
            have h := HQN.out
            simp at h
            omega
        ·have hN1 : N ≤ 0 := by omega
         first | go_quiet (fail) | go_region | go_wp2_with fail
         all_goals
          go_wp2_with fail
          go_meet
          case rel => exact ⟨rfl, Hid.mk (below_drewN KJ.out _)⟩
       case rest =>
        obtain ⟨rfl, KM⟩ := hcut
        go_wp2_with fail
        go_roundw
        case measure => simp [intOf]; omega
        case rel => exact ⟨i + 1, by omega, by go_num, KM⟩
      ·have hii : ¬ (i : Int) < (r : Int) := by omega
       have KE := Hid.mk (K11.out.2.trans (KI.out.mono K11.out.2.size))
       have KZ := Hid.mk (K3.out.2.2.trans (KE.out.mono hB3))
       by_cases hrc : r = c
       ·subst hrc
        go_wp2_with fail
        refine (kdet_any w2.heap.size r _ gm em _ (K3.out.1.below' KE.out) hr3 (fun a b ha hb' => K3.out.2.1 a b ha hb')).mono ?_
        rintro x wd ⟨rfl, hbd⟩
        have KD := Hid.mk (And.intro (KI.out.trans (hbd.mono KI.out.size)) (KZ.out.trans (hbd.mono (by have := KZ.out.size; omega))))
        obtain ⟨D, hD⟩ : ∃ D, D = detF r em := ⟨_, rfl⟩
        rw [← hD]
        by_cases hd1 : D = 1 ∨ D = -1
        ·have hdiv : divF (ent r zm) r r r = 1 := by
          rw [div_det, detF_upto r (ent r zm) em (fun a b ha hb' => HZ.out.2.2 a b ha hb'), ← hD]
          rcases hd1 with h | h <;> rw [h] <;> rfl
         obtain ⟨hsr, hun⟩ := K6.out.2.2.unit rfl HE.out.1 hdiv
         have HUN := Hid.mk (And.intro hsr hun)
         clear hbd hD hdiv hun
         rcases hd1 with rfl | rfl
         all_goals
          go_wp2_with fail
          go_loopw [21] (fun iv wr => ∃ i : Nat, i ≤ r ∧ iv = .int .i64 i ∧ Hid (Below w11.heap.size w11 wr ∧ Below B w wr)) (fun iv _ => r - (intOf iv).toNat)
          case atStart => exact ⟨0, Nat.zero_le _, rfl, Hid.mk ⟨KD.out.1, KD.out.2⟩⟩
          case round =>
           rename World => wu
           obtain ⟨e, he, rfl, KU⟩ := hrel
           by_cases her : e < r
           ·have hei : (e : Int) < (r : Int) := by omega
            obtain ⟨sg, uo, ucap, hso, s1, hsrow⟩ := K11.out.1.rowR KU.out.1 (show e < sl by have := HUN.out.1; omega)
            subst hso
            have HSR := Hid.mk hsrow
            have hesl : (e : Int) < (sl : Int) := by have := HUN.out.1; omega
            clear hsrow
            go_wp2_with fail
            refine (long_any _ r (ent r rs e) _ HSR.out (by omega) (fun j hj => by have := K6.out.2.2.small e j (by have := HUN.out.1; omega) hj; omega)).mono ?_
            rintro x wv ⟨rfl, hbv⟩
            have hone : sqs (ent r rs e) r = 1 := HUN.out.2 e her
            rw [hone]
            have KX := Hid.mk (And.intro (KU.out.1.trans (hbv.mono KU.out.1.size)) (KU.out.2.trans (hbv.mono (by have := KU.out.2.size; omega))))
            clear hbv hone s1
            go_wp2_with fail
            go_roundw
            case measure => simp [intOf]; omega
            case rel => exact ⟨e + 1, by omega, by go_num, KX⟩
           ·have hei : ¬ (e : Int) < (r : Int) := by omega
            go_wp2_with fail
            go_ret
            exact ⟨rfl, KU.out.2⟩
        ·have hd2 : (D != 1) = true := by simp; omega
         have hd3 : (D != -1) = true := by simp; omega
         clear hbd hD hd1
         go_wp2_with fail
         go_ret
         exact ⟨rfl, KD.out.2⟩
       ·have hrci : ((r : Int) != (c : Int)) = true := by simp; omega
        clear hrc
        go_wp2_with fail
        go_ret
        exact ⟨rfl, KZ.out⟩
   ·have e := (hty rfl).symm
    subst e
    clear hty
    go_wp2_with fail
    rw [HT.out]
    refine (read_mat n c rs _ hn3 hc3 K6.out.2.2.len (fun t ht => by
     have hd := rect_div (show t < n * c by rw [← K6.out.2.2.len]; exact ht)
     have h1 := K6.out.2.2.small _ _ hd.1 hd.2
     have h2 : ent c rs (t / c) (t % c) = rs.getD t 0 := by
      unfold ent
      rw [Nat.mul_comm, Nat.div_add_mod]
     rw [h2] at h1
     omega)).mono ?_
    rintro x w11 ⟨sv, B', rfl, hRM, hb11⟩
    have hs11 := hb11.size
    have hb311 := K10.out.trans (hb11.mono K10.out.size)
    obtain ⟨so, scap, hsv, hsc1, hsc2⟩ := hRM.shape
    obtain ⟨sl, hsl⟩ : ∃ sl, sl = (if c = 0 then [] else rowsL rs c n).length := ⟨_, rfl⟩
    rw [← hsl] at hsv hsc1
    subst hsv
    by_cases hs0 : sl = 0
    ·subst hs0
     have KZ := Hid.mk (K3.out.2.2.trans (hb311.mono hB3))
     clear hRM hb11 hsl
     go_wp2_with fail
     go_ret
     exact ⟨rfl, KZ.out⟩
    ·have hc0 : c ≠ 0 := fun e => by rw [if_pos e] at hsl; exact hs0 hsl
     rw [if_neg hc0] at hRM hsl
     obtain rfl : sl = n := by rw [hsl]; simp [rowsL]
     have K11 := Hid.mk (And.intro hRM hb311)
     clear hRM hb11 hsl hb311 hc0
     have hs1 : ((sl : Int) == 0) = false := beq_eq_false_iff_ne.2 (by omega)
     go_wp2_with fail
     go_loopw [18] (fun iv wr => ∃ i : Nat, i ≤ r ∧ iv = .int .i64 i ∧ Hid (Below w11.heap.size w11 wr)) (fun iv _ => r - (intOf iv).toNat)
     case atStart => exact ⟨0, Nat.zero_le _, rfl, Hid.mk (Below.refl _ _)⟩
     case round =>
      rename World => wi
      obtain ⟨i, hi, rfl, KI⟩ := hrel
      by_cases hir : i < r
      ·have hii : (i : Int) < (r : Int) := by omega
       obtain ⟨mg, rfl, m1, hrow⟩ := K3.out.1.rowR (K11.out.2.trans (KI.out.mono K11.out.2.size)) (by omega) hir
       have HROW := Hid.mk hrow
       clear hrow
       go_wp2_with fail
       refine (long_any _ c (em i) _ HROW.out (by omega) (fun j hj => by have := K3.out.2.1 i j hir hj; omega)).mono ?_
       rintro x wl ⟨rfl, hbl⟩
       have KJ := Hid.mk (KI.out.trans (hbl.mono KI.out.size))
       clear hbl m1
       obtain ⟨N, hN⟩ : ∃ N, N = sqs (em i) c := ⟨_, rfl⟩
       rw [← hN]
       have HN := Hid.mk hN
       clear hN
       go_upto_region 23 with fail
       go_cut [141] from 118 to 141 (fun x wx => x = .bool false ∧ Hid (Below w11.heap.size w11 wx))
       case first =>
        by_cases hN0 : 0 < N
        ·obtain ⟨sg, uo, ucap, hso, s1, hsrow⟩ := K11.out.1.rowR KJ.out.drew (show 0 < sl by omega)
         subst hso
         obtain ⟨Q, hQ⟩ : ∃ Q, Q = sqs (ent c rs 0) c := ⟨_, rfl⟩
         have HSR := Hid.mk (And.intro hsrow hQ)
         have HKJ := Hid.mk KJ.out.drew
         clear hsrow hQ
         have hsl1 : 0 < sl := by omega
         have hNb : N ≤ 1000000 := by
          rw [HN.out]
          have h1 := ip_le (M := 36) (x := em i) (c := c) (fun j hj => by have := K3.out.2.1 i j hir hj; omega)
          have h2 : c * (36 * 36) ≤ 3 * (36 * 36) := Nat.mul_le_mul_right _ hc3
          have h3 : sqs (em i) c = ip c (em i) (em i) := rfl
          omega
         have hQN : Q ≤ ((2 ^ (sl - 1) : Nat) : Int) * N := by
          have h1 := K6.out.2.2.first i hir
          have h2 : ip c (ent c zm i) (ent c zm i) = N := by
           rw [HN.out]
           exact sm_congr c (fun j hj => by rw [HZ.out.2.2 i j hir hj])
          rw [h2] at h1
          rw [HSR.out.2]
          refine (h1 ?_).2
          refine Classical.byContradiction fun hne => ?_
          have h3 : N = 0 := by
           rw [← h2]
           refine sm_zero c (fun j hj => ?_)
           have : ent c zm i j = 0 := Classical.byContradiction fun e => hne ⟨j, hj, e⟩
           rw [this]; rfl
          omega
         have w0 : IntKind.i64.wrap (0 : Int) = 0 := rfl
         have w1 : IntKind.i64.wrap (1 : Int) = 1 := rfl
         have w2 : IntKind.i64.wrap (2 : Int) = 2 := rfl
         have HQN := Hid.mk hQN
         clear hQN
         obtain rfl | rfl | rfl : sl = 1 ∨ sl = 2 ∨ sl = 3 := by omega
         all_goals
          go_region_held3 (fun w' => w'.cell? ⟨sg, 0, none⟩ = some (.slice uo c ucap))
           (first | exact s1 | exact cell_later hb9 s1)
           (first | (go_at_call 50; refine (long_any _ c (ent c rs 0) _ HSR.out.1 (by omega) (fun j hj => by have := K6.out.2.2.small 0 j (by omega) hj; omega)).mono ?_; rintro x w9 ⟨rfl, hb9⟩; rw [← HSR.out.2]))
          all_goals
           go_wp2_with fail
           go_meet
           case rel =>
            refine ⟨congrArg Value.bool (decide_eq_false ?_), Hid.mk (HKJ.out.trans (hb9.mono HKJ.out.size))⟩
            rw [IntWalk.i64_in _ (by omega)]
            have h := HQN.out
            simp at h
            omega
        ·have hN1 : N ≤ 0 := by omega
         first | go_quiet (fail) | go_region | go_wp2_with fail
         all_goals
          go_wp2_with fail
          go_meet
          case rel => exact ⟨rfl, Hid.mk (below_drewN KJ.out _)⟩
       case rest =>
        obtain ⟨rfl, KM⟩ := hcut
        go_wp2_with fail
        go_roundw
        case measure => simp [intOf]; omega
        case rel => exact ⟨i + 1, by omega, by go_num, KM⟩
      ·have hii : ¬ (i : Int) < (r : Int) := by omega
       have KE := Hid.mk (K11.out.2.trans (KI.out.mono K11.out.2.size))
       have KZ := Hid.mk (K3.out.2.2.trans (KE.out.mono hB3))
       by_cases hrc : r = c
       ·subst hrc
        go_wp2_with fail
        refine (kdet_any w2.heap.size r _ gm em _ (K3.out.1.below' KE.out) hr3 (fun a b ha hb' => K3.out.2.1 a b ha hb')).mono ?_
        rintro x wd ⟨rfl, hbd⟩
        have KD := Hid.mk (And.intro (KI.out.trans (hbd.mono KI.out.size)) (KZ.out.trans (hbd.mono (by have := KZ.out.size; omega))))
        obtain ⟨D, hD⟩ : ∃ D, D = detF r em := ⟨_, rfl⟩
        rw [← hD]
        by_cases hd1 : D = 1 ∨ D = -1
        ·have hdiv : divF (ent r zm) r r r = 1 := by
          rw [div_det, detF_upto r (ent r zm) em (fun a b ha hb' => HZ.out.2.2 a b ha hb'), ← hD]
          rcases hd1 with h | h <;> rw [h] <;> rfl
         obtain ⟨hsr, hun⟩ := K6.out.2.2.unit rfl HE.out.1 hdiv
         have HUN := Hid.mk (And.intro hsr hun)
         clear hbd hD hdiv hun
         rcases hd1 with rfl | rfl
         all_goals
          go_wp2_with fail
          go_loopw [21] (fun iv wr => ∃ i : Nat, i ≤ r ∧ iv = .int .i64 i ∧ Hid (Below w11.heap.size w11 wr ∧ Below B w wr)) (fun iv _ => r - (intOf iv).toNat)
          case atStart => exact ⟨0, Nat.zero_le _, rfl, Hid.mk ⟨KD.out.1, KD.out.2⟩⟩
          case round =>
           rename World => wu
           obtain ⟨e, he, rfl, KU⟩ := hrel
           by_cases her : e < r
           ·have hei : (e : Int) < (r : Int) := by omega
            obtain ⟨sg, uo, ucap, hso, s1, hsrow⟩ := K11.out.1.rowR KU.out.1 (show e < sl by have := HUN.out.1; omega)
            subst hso
            have HSR := Hid.mk hsrow
            have hesl : (e : Int) < (sl : Int) := by have := HUN.out.1; omega
            clear hsrow
            go_wp2_with fail
            refine (long_any _ r (ent r rs e) _ HSR.out (by omega) (fun j hj => by have := K6.out.2.2.small e j (by have := HUN.out.1; omega) hj; omega)).mono ?_
            rintro x wv ⟨rfl, hbv⟩
            have hone : sqs (ent r rs e) r = 1 := HUN.out.2 e her
            rw [hone]
            have KX := Hid.mk (And.intro (KU.out.1.trans (hbv.mono KU.out.1.size)) (KU.out.2.trans (hbv.mono (by have := KU.out.2.size; omega))))
            clear hbv hone s1
            go_wp2_with fail
            go_roundw
            case measure => simp [intOf]; omega
            case rel => exact ⟨e + 1, by omega, by go_num, KX⟩
           ·have hei : ¬ (e : Int) < (r : Int) := by omega
            go_wp2_with fail
            go_ret
            exact ⟨rfl, KU.out.2⟩
        ·have hd2 : (D != 1) = true := by simp; omega
         have hd3 : (D != -1) = true := by simp; omega
         clear hbd hD hd1
         go_wp2_with fail
         go_ret
         exact ⟨rfl, KD.out.2⟩
       ·have hrci : ((r : Int) != (c : Int)) = true := by simp; omega
        clear hrc
        go_wp2_with fail
        go_ret
        exact ⟨rfl, KZ.out⟩
open Go.RowKit
theorem Short_all (a : Int) (w : World) (ht : Tab w) (ha1 : -9223372036854775808 ≤ a) (ha2 : a ≤ 9223372036854775807) :
 Calls Tryz.prog 6 #[.int .i64 a] w fun x w' => x = .returned (.bool true) ∧ Below w.heap.size w w' := by
 have HT := Hid.mk ht
 clear ht
 go_enter Tryz.func6, Tryz.ntmps6
 go_wp2_with fail
 refine (start_any a _ ha1 ha2).mono ?_
 rintro e w1 ⟨d, rfl, hd, hdb, hb⟩
 have H := Hid.mk (And.intro hd hb)
 clear hd hb
 go_wp2_with fail
 refine (short_all d w.heap.size _ H.out.1 (fun w' hw => HT.out.below (H.out.2.trans hw)) hdb).mono ?_
 rintro e w2 ⟨rfl, hb2⟩
 have K := Hid.mk (H.out.2.trans hb2)
 clear hb2
 go_wp2_with fail
 go_ret
 exact ⟨rfl, K.out⟩
end Go.Proofs.YtfjbijpagaipnabGreatDoor
