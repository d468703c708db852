import Derived.Test.YtfjbijpagaipnaaGreatDoorM24
import Derived.Test.YtfjbijpagaipnaaGreatDoorM25
import Derived.Test.YtfjbijpagaipnaaGreatDoorM26
import Derived.Deep.CutRange
namespace Go.Proofs.YtfjbijpagaipnaaGreatDoor
open Go.RowKit
theorem KL.fr {B : Nat} {w w' : World} {d b : Nat} {l : List KMx} (h : KL B w d b l) (hF : Fr b w w') : Below B w w' := hF.below h.hb h.lo
theorem KL.kb {B B' : Nat} {w w' : World} {d b : Nat} {l : List KMx} (h : KL B w d b l) (hF : Fr b w w') : KB B' w w' := KB.of_grown hF.1 h.held.ty (by decide) (by decide)
theorem KL.lo' {B : Nat} {w : World} {d b : Nat} {l : List KMx} (h : KL B w d b l) : B ≤ w.heap.size := h.lo
theorem basis_stk (B d b g r c : Nat) (zs : List Int) (l : List KMx) (w : World) (hk : KL B w d b l) (hl : l.length < 24) (hg : l[g]? = some (r, c, zs)) (f1 : FitsP r c zs) :
 Calls Tryz.prog 29 #[.pointer (some ⟨d, 0, none⟩), .int .i64 g] w fun x w' => ∃ rk bs, BasisIs (r + r) c (zs ++ zs) rk bs ∧ x = .returned (.string ⟨(matT rk c bs).toArray⟩) ∧ Below B w w' := by
 have c0 := hk.dk.cell
 have H := Hid.mk (And.intro hk (And.intro hg f1))
 clear hk hg f1
 go_enter Tryz.func29, Tryz.ntmps29
 go_wp2_with fail
 refine (sum_stk B d b g g r r c zs zs l _ H.out.1 hl H.out.2.1 H.out.2.1 H.out.2.2 H.out.2.2).mono ?_
 rintro x w1 ⟨rfl, ⟨rk, bs, hB, hk1⟩, hF⟩
 have K := Hid.mk (And.intro hB (And.intro hk1 (H.out.1.fr hF)))
 clear hB hk1 hF c0
 go_wp2_with fail
 refine (shown_stk B d b l.length rk c bs _ _ K.out.2.1 (by simp; omega) (by simp)).mono ?_
 rintro x w2 ⟨rfl, hb⟩
 have K2 := Hid.mk (K.out.2.2.trans (hb.mono K.out.2.1.lo))
 clear hb
 generalize hT : (⟨(matT rk c bs).toArray⟩ : ByteArray) = T
 have HT := Hid.mk hT
 clear hT
 go_wp2_with fail
 go_ret
 exact ⟨rk, bs, K.out.1, by rw [HT.out]; rfl, K2.out⟩
def SomeIs (e : Nat → Nat → Int) (k c j : Nat) (s : Bool) : Prop := s = true ↔ (∃ i t, i < k ∧ t < c ∧ e i t ≠ 0) ∨ ∃ t, t < j ∧ e k t ≠ 0
theorem SomeIs.next {e : Nat → Nat → Int} {k c j : Nat} {s : Bool} (h : SomeIs e k c j s) : SomeIs e k c (j + 1) (s || (2 * e k j != 0)) := by
 unfold SomeIs at *
 rw [Bool.or_eq_true, h]
 constructor
 ·rintro ((h1 | ⟨t, h1, h2⟩) | h1)
  ·exact .inl h1
  ·exact .inr ⟨t, by omega, h2⟩
  ·exact .inr ⟨j, by omega, fun e0 => by rw [e0] at h1; simp at h1⟩
 ·rintro (h1 | ⟨t, h1, h2⟩)
  ·exact .inl (.inl h1)
  ·by_cases e0 : t = j
   ·subst e0; right; simp; omega
   ·exact .inl (.inr ⟨t, by omega, h2⟩)
theorem SomeIs.row {e : Nat → Nat → Int} {k c : Nat} {s : Bool} (h : SomeIs e k c c s) : SomeIs e (k + 1) c 0 s := by
 unfold SomeIs at *
 rw [h]
 constructor
 ·rintro (⟨i, t, h1, h2, h3⟩ | ⟨t, h1, h2⟩)
  ·exact .inl ⟨i, t, by omega, h2, h3⟩
  ·exact .inl ⟨k, t, by omega, h1, h2⟩
 ·rintro (⟨i, t, h1, h2, h3⟩ | ⟨t, h1, -⟩)
  ·by_cases e0 : i = k
   ·subst e0; exact .inr ⟨t, h2, h3⟩
   ·exact .inl ⟨i, t, by omega, h2, h3⟩
  ·omega
theorem twice_sp {A : Nat → Nat → Int} {r c i : Nat} (hi : i < r) : Sp A r c (fun j => 2 * A i j) := (Sp.row A c hi).mul 2
theorem twice_next (f : Nat → Int) (j t : Nat) : upd (fun t => if t < j then 2 * f t else 0) j (2 * f j) t = if t < j + 1 then 2 * f t else 0 := by
 unfold upd
 by_cases h : t = j
 ·subst h; simp
 ·rcases Nat.lt_or_gt_of_ne h with h1 | h1
  ·simp [h, h1, show t < j + 1 from by omega]
  ·simp [h, show ¬ t < j from by omega, show ¬ t < j + 1 from by omega]
def MS (w0 w : World) (B6 B d b : Nat) (l : List KMx) (Bm : Nat) (m : Value) (r c : Nat) (gm : Nat → Nat) (em : Nat → Nat → Int) : Prop := KL B6 w d b l ∧ Mat Bm w m r c gm em ∧ TinyR r c em ∧ Below B w0 w
theorem MS.below {w0 w w' : World} {B6 B d b : Nat} {l : List KMx} {Bm : Nat} {m : Value} {r c : Nat} {gm : Nat → Nat} {em : Nat → Nat → Int} (h : MS w0 w B6 B d b l Bm m r c gm em) (hb : Below w.heap.size w w') (hB : B ≤ B6) : MS w0 w' B6 B d b l Bm m r c gm em :=
 ⟨h.1.below hb, h.2.1.keep (KB.of_below hb), h.2.2.1, h.2.2.2.trans (hb.mono (Nat.le_trans hB h.1.lo'))⟩
theorem shown_of (B d b : Nat) (h : Int) (P : Prop) (T : List UInt8) (l : List KMx) (w : World) (hk : KL B w d b l) (hP : P → ∃ k r c zs, h = ((k : Nat) : Int) ∧ l.length ≤ 24 ∧ l[k]? = some (r, c, zs) ∧ matT r c zs = T) :
 Calls Tryz.prog 26 #[.pointer (some ⟨d, 0, none⟩), .int .i64 h] w fun x w' => ∃ t : ByteArray, x = .returned (.string t) ∧ (P → t = ⟨T.toArray⟩) ∧ Below w.heap.size w w' := by
 by_cases h0 : P
 ·obtain ⟨k, r, c, zs, rfl, h1, h2, rfl⟩ := hP h0
  refine (shown_stk B d b k r c zs l w hk h1 h2).mono ?_
  rintro x w' ⟨rfl, hb⟩
  exact ⟨_, rfl, fun _ => rfl, hb⟩
 ·refine (shown_out B d b h l w hk).mono ?_
  rintro x w' ⟨⟨t, rfl⟩, hb⟩
  exact ⟨_, rfl, fun h => absurd h h0, hb⟩
set_option maxRecDepth 100000 in
set_option maxHeartbeats 8000000 in
theorem member_any (d B : Nat) (w : World) (hd : Di w d) (ht : ∀ w', Below B w w' → Tab w') (hB : B ≤ d) :
 Calls Tryz.prog 14 #[.pointer (some ⟨d, 0, none⟩)] w fun x w' => x = .returned (.bool true) ∧ Below B w w' := by
 have hdl := hd.lt
 have H := Hid.mk (And.intro hd ht)
 clear hd ht
 go_enter Tryz.func14, Tryz.ntmps14
 go_wp2_with fail
 refine (under_any d 3 _ H.out.1 (by omega) (by omega)).mono ?_
 rintro x w1 ⟨⟨r', rfl, hr'⟩, hd1, hg1⟩
 have K1 := Hid.mk (And.intro hd1 (Below.ofG hg1 hB (by omega)))
 clear hd1 hg1
 go_wp2_with fail
 refine (under_any d 3 _ K1.out.1 (by omega) (by omega)).mono ?_
 rintro x w2 ⟨⟨c', rfl, hc'⟩, hd2, hg2⟩
 have K2 := Hid.mk (And.intro hd2 (K1.out.2.trans (Below.ofG hg2 hB (by have := K1.out.2.size; omega))))
 clear hd2 hg2 K1
 obtain ⟨r, hr⟩ : ∃ r, r = 1 + r' := ⟨_, rfl⟩
 obtain ⟨c, hc⟩ : ∃ c, c = 1 + c' := ⟨_, rfl⟩
 have hri : (1 : Int) + r' = (r : Nat) := by omega
 have hci : (1 : Int) + c' = (c : Nat) := by omega
 have hr0 : 0 < r := by omega
 have hc0 : 0 < c := by omega
 have hr3 : r ≤ 3 := by omega
 have hc3 : c ≤ 3 := by omega
 clear hr hc hr' hc'
 go_wp2_with fail
 refine (drawn_any d r c _ K2.out.1 hr3 hc3).mono ?_
 rintro x w3 ⟨m, gm, em, rfl, hM3, hin3, hd3, hg3⟩
 have K3 := Hid.mk (And.intro hM3 (And.intro (hin3.tinyR hr3) (And.intro hd3 (K2.out.2.trans (Below.ofG hg3 hB (by have := K2.out.2.size; omega))))))
 clear hM3 hin3 hd3 hg3 K2
 go_wp2_with fail
 refine (drawn_any d 1 r _ K3.out.2.2.1 (by omega) hr3).mono ?_
 rintro x w4 ⟨v, gv, ev, rfl, hM4, hin4, hd4, hg4⟩
 have K4 := Hid.mk (And.intro (K3.out.1.keep (KB.of_grown hg4 K3.out.2.2.1.ty (by decide) (by decide))) (And.intro K3.out.2.1 (And.intro hM4 (And.intro (hin4.tinyR (by omega)) (K3.out.2.2.2.trans (Below.ofG hg4 hB (by have := K3.out.2.2.2.size; omega)))))))
 clear hM4 hin4 hd4 hg4 K3
 go_wp2_with fail
 refine (times_rect _ _ 1 r c v m gv gm ev em _ (by omega) hr0 (by omega) hr3 hc3 K4.out.2.2.1 K4.out.1 K4.out.2.2.2.1 K4.out.2.1).mono ?_
 rintro x w5 ⟨ww, gw, rfl, hM5, hb5⟩
 have hBw : B ≤ w4.heap.size := by have := K4.out.2.2.2.2.size; omega
 have K5 := Hid.mk (And.intro (K4.out.1.keep (KB.of_below hb5)) (And.intro K4.out.2.1 (And.intro hM5 (And.intro (dot_smallR hr3 K4.out.2.2.2.1 K4.out.2.1) (K4.out.2.2.2.2.trans (hb5.mono hBw))))))
 have HV := Hid.mk K4.out.2.2.2.1
 clear hM5 hb5 K4
 obtain ⟨ew, hew⟩ : ∃ ew : Nat → Nat → Int, ew = fun i j => dot ev em i j r := ⟨_, rfl⟩
 rw [← hew] at K5
 have HEW := Hid.mk hew
 clear hew
 generalize w2.heap.size = Bm at K5
 generalize w4.heap.size = Bw at K5
 clear hBw
 go_wp2_with fail
 refine (deskK_any _ (H.out.2 _ K5.out.2.2.2.2)).mono ?_
 rintro x w6 ⟨dk, b, rfl, hk6, hb6⟩
 rw [← stk_nil] at hk6
 have hB5 : B ≤ w5.heap.size := by have := K5.out.2.2.2.2.size; omega
 obtain ⟨B6, hB6⟩ : ∃ B6, B6 = w5.heap.size := ⟨_, rfl⟩
 rw [← hB6] at hk6 hb6 hB5
 have K6 : Hid (KL B6 w6 dk b [] ∧ Mat Bm w6 m r c gm em ∧ TinyR r c em ∧ Mat Bw w6 ww 1 c gw ew ∧ SmallR 1 c ew ∧ Below B w w6) :=
  Hid.mk ⟨hk6, K5.out.1.keep (KB.of_below (hB6 ▸ hb6)), K5.out.2.1, K5.out.2.2.1.keep (KB.of_below (hB6 ▸ hb6)), K5.out.2.2.2.1, K5.out.2.2.2.2.trans (hb6.mono hB5)⟩
 clear hk6 hb6 K5 hB6
 go_wp2_with fail
 refine (put_stk B6 dk b r c m em [] _ K6.out.1 (by simp) (K6.out.2.1.rd (by omega)) (by omega) (by omega) K6.out.2.2.1.small).mono ?_
 rintro x w7 ⟨rfl, hk7, hF7⟩
 have K7 : Hid (KL B6 w7 dk b [(r, c, nums r c em)] ∧ Mat Bm w7 m r c gm em ∧ TinyR r c em ∧ Mat Bw w7 ww 1 c gw ew ∧ SmallR 1 c ew ∧ Below B w w7) :=
  Hid.mk ⟨hk7, K6.out.2.1.keep (K6.out.1.kb hF7), K6.out.2.2.1, K6.out.2.2.2.1.keep (K6.out.1.kb hF7), K6.out.2.2.2.2.1, K6.out.2.2.2.2.2.trans ((K6.out.1.fr hF7).mono hB5)⟩
 clear hk7 hF7 K6
 go_wp2_with fail
 refine (put_stk B6 dk b 1 c ww ew [(r, c, nums r c em)] _ K7.out.1 (by simp) (K7.out.2.2.2.1.rd (by omega)) (by omega) (by omega) K7.out.2.2.2.2.1).mono ?_
 rintro x w8 ⟨rfl, hk8, hF8⟩
 have hsw := K7.out.2.2.2.2.1
 have K8 : Hid (KL B6 w8 dk b [(r, c, nums r c em), (1, c, nums 1 c ew)] ∧ Mat Bm w8 m r c gm em ∧ TinyR r c em ∧ Below B w w8) :=
  Hid.mk ⟨hk8, K7.out.2.1.keep (K7.out.1.kb hF8), K7.out.2.2.1, K7.out.2.2.2.2.2.trans ((K7.out.1.fr hF8).mono hB5)⟩
 have HF : Hid (FitsP r c (nums r c em) ∧ FitsP 1 c (nums 1 c ew)) := Hid.mk ⟨nums_fits (by omega) (by omega) K7.out.2.2.1.small, nums_fits (by omega) (by omega) hsw⟩
 clear hk8 hF8 K7 hsw
 obtain ⟨zm, hzm⟩ : ∃ zm, zm = nums r c em := ⟨_, rfl⟩
 obtain ⟨zw, hzw⟩ : ∃ zw, zw = nums 1 c ew := ⟨_, rfl⟩
 rw [← hzm, ← hzw] at K8 HF
 have HZ := Hid.mk (And.intro hzm hzw)
 clear hzm hzw
 have c0 := K8.out.1.dk.cell
 go_wp2_with fail
 refine (member_stk B6 dk b 0 1 r c zm zw [(r, c, zm), (1, c, zw)] _ K8.out.1 (by simp) rfl rfl HF.out.1 HF.out.2 ?_).mono ?_
 ·have hz := HZ.out
  rw [hz.1, hz.2, HEW.out]
  exact made_sp r c ev em
 rintro x w9 ⟨rfl, ⟨xs, hxs, hk9⟩, hF9⟩
 have K9 : Hid (KL B6 w9 dk b [(r, c, zm), (1, c, zw), (1, r, xs)] ∧ Mat Bm w9 m r c gm em ∧ TinyR r c em ∧ Below B w w9) :=
  Hid.mk ⟨hk9, K8.out.2.1.keep (K8.out.1.kb hF9), K8.out.2.2.1, K8.out.2.2.2.trans ((K8.out.1.fr hF9).mono hB5)⟩
 have HX := Hid.mk hxs
 clear hk9 hF9 K8 hxs c0
 have c0 := K9.out.1.dk.cell
 go_wp2_with fail
 refine (times_stk B6 dk b 2 0 1 r c xs zm [(r, c, zm), (1, c, zw), (1, r, xs)] _ K9.out.1 (by simp) rfl rfl).mono ?_
 rintro x w10 ⟨p, e, rfl, hrel, hF10⟩
 have key : ∃ l2 : List KMx, (∃ y, l2 = (r, c, zm) :: (1, c, zw) :: y) ∧ l2.length < 5 ∧ MS w w10 B6 B dk b l2 Bm m r c gm em ∧ ((e = 4 ∧ p = -1) ∨ (e = 0 ∧ ∃ pk : Nat, p = (pk : Int) ∧ l2[pk]? = some (1, c, zw))) := by
  have hk1 := K9.out.2.1.keep (K9.out.1.kb hF10)
  have hb1 := K9.out.2.2.2.trans ((K9.out.1.fr hF10).mono hB5)
  rcases hrel with ⟨-, hp, he, hk10⟩ | ⟨-, hp, he, hk10⟩
  ·exact ⟨_, ⟨[(1, r, xs)], rfl⟩, by simp, ⟨hk10, hk1, K9.out.2.2.1, hb1⟩, .inl ⟨he, hp⟩⟩
  ·refine ⟨_, ⟨[(1, r, xs), (1, c, prodL 1 r c xs zm)], rfl⟩, by simp, ⟨hk10, hk1, K9.out.2.2.1, hb1⟩, .inr ⟨he, 3, hp, ?_⟩⟩
   have h2 : prodL 1 r c xs zm = zw := by
    refine mem_prod HX.out (by rw [HZ.out.2, nums_len]) ?_
    rw [HZ.out.1, HZ.out.2, HEW.out]
    exact made_sp r c ev em
   show some (1, c, prodL 1 r c xs zm) = _
   rw [h2]
 clear hrel hF10 K9 c0
 obtain ⟨l2, ⟨ly, hly⟩, hl2, hM10, hpe⟩ := key
 have HG : Hid (l2[0]? = some (r, c, zm) ∧ l2[1]? = some (1, c, zw)) := Hid.mk ⟨by rw [hly]; rfl, by rw [hly]; rfl⟩
 clear hly
 obtain ⟨gq, cap, rfl, hcap⟩ : ∃ gq cap, m = .slice (some ⟨gq, 0, none⟩) r cap ∧ r ≤ cap := by
  rcases hM10.2.1.shape with ⟨_, h0⟩ | ⟨g, cap, h1, h2, -⟩
  ·omega
  ·exact ⟨g, cap, h1, h2⟩
 have K10 := Hid.mk hM10
 clear hM10
 have PE := Hid.mk hpe
 have he : e = 4 ∨ e = 0 := by rcases hpe with ⟨h, -⟩ | ⟨h, -⟩ <;> simp [h]
 clear hpe
 go_wp2_with fail
 refine (shown_of B6 dk b p (e = 0) (matT 1 c zw) l2 _ K10.out.1 (fun h0 => ?_)).mono ?_
 ·rcases PE.out with ⟨h1, -⟩ | ⟨-, pk, rfl, hpk⟩
  ·omega
  ·exact ⟨pk, 1, c, zw, rfl, by omega, hpk, rfl⟩
 rintro x w11 ⟨ty, rfl, hty, hb11⟩
 have K11 := Hid.mk (K10.out.below hb11 hB5)
 clear hb11 K10 PE
 go_wp2_with fail
 refine (shown_stk B6 dk b 1 1 c zw l2 _ K11.out.1 (by omega) HG.out.2).mono ?_
 rintro x w12 ⟨rfl, hb12⟩
 have K12 := Hid.mk (K11.out.below hb12 hB5)
 clear hb12 K11
 generalize (⟨(matT 1 c zw).toArray⟩ : ByteArray) = TZ at hty ⊢
 go_upto_region 16 with fail
 go_cut [99] from 89 to 99 (fun x wx => x = .bool false ∧ wx = w12)
 case first =>
  rcases he with rfl | rfl
  ·clear hty
   go_wp2_with fail
   go_meet
   case rel => exact ⟨rfl, rfl⟩
  ·obtain rfl := hty rfl
   go_wp2_with fail
   go_meet
   case rel => exact ⟨rfl, rfl⟩
 case rest =>
  obtain ⟨rfl, rfl⟩ := hcut
  clear hty he
  go_wp2_with fail
  go_loopw [18, 19, 20] (fun t s i wr => ∃ (k : Nat) (sb : Bool) (gs : Nat → Nat), k ≤ r ∧ i = .int .i64 k ∧ s = .bool sb ∧ Mat wc.heap.size wr t k c gs (fun i j => 2 * em i j) ∧ SomeIs em k c 0 sb ∧ Below wc.heap.size wc wr) (fun _ _ i _ => r - (intOf i).toNat)
  case atStart => exact ⟨0, false, fun _ => 0, Nat.zero_le _, rfl, rfl, Mat.nil _ _ _ _ _, by simp [SomeIs], Below.refl _ _⟩
  case round =>
   rename World => wr0
   obtain ⟨k, sb, gs, hk, rfl, rfl, hm, hso, hbel⟩ := hrel
   have hwr := hbel.size
   have K := Hid.mk (And.intro hm (And.intro hso hbel))
   clear hm hso hbel
   by_cases hkr : k < r
   ·go_wp2_with (at_make; refine make_row _ rfl _ _ rfl _ _ c rfl rfl rfl rfl (by omega) ?_)
    intro wa hrow hba hsza
    have R1 : MadeR wr0 wa c (fun t => if t < 0 then 2 * em k t else 0) := ⟨hrow.congr (fun t _ => by simp), hba⟩
    have HR := Hid.mk R1
    clear hrow hba R1
    go_wp2_with fail
    go_loopw [19, 22] (fun s i ws => ∃ (j : Nat) (sb : Bool), j ≤ c ∧ i = .int .i64 j ∧ s = .bool sb ∧ SomeIs em k c j sb ∧ MadeR wr0 ws c (fun t => if t < j then 2 * em k t else 0)) (fun _ i _ => c - (intOf i).toNat)
    case atStart => exact ⟨0, sb, Nat.zero_le _, rfl, rfl, K.out.2.1, HR.out⟩
    case round =>
     clear HR
     rename World => wj
     obtain ⟨j, sc, hj, rfl, rfl, hso, hrs⟩ := hrel
     have HR := Hid.mk (And.intro hrs hso)
     clear hrs hso
     by_cases hjc : j < c
     ·have hB2 := K.out.2.2.trans (HR.out.1.2.mono hwr)
      have hA := K12.out.2.1.keep (KB.of_below hB2)
      have a0 := hA.cell k hkr
      have a1 := (hA.2 k hkr).cell j hjc
      have c1 := HR.out.1.1.cell j hjc
      have f1 := HR.out.1.1.frozen j
      have x1 := K12.out.2.2.1 k j hkr hjc
      have hso2 := HR.out.2.next
      have hnx : IRow (wj.setCell ⟨wr0.heap.size, j, none⟩ (.int .i64 (2 * em k j))) wr0.heap.size c (fun t => if t < j + 1 then 2 * em k t else 0) := (HR.out.1.1.stored j _).congr (fun t _ => twice_next (em k) j t)
      have c2 := hnx.cell j hjc
      rw [if_pos (Nat.lt_succ_self j)] at c2
      have HN := Hid.mk (And.intro hnx hso2)
      generalize gm k = G1 at a0 a1
      generalize em k j = z1 at a1 x1 HN c2
      simp only [Nat.lt_irrefl, if_false] at c1
      obtain ⟨x11, x12⟩ := x1
      clear hA hB2 hnx hso2
      cases sc
      ·go_wp2_with fail
       go_roundw
       case measure => simp [intOf]; omega
       case rel => exact ⟨j + 1, _, by omega, by go_num, rfl, HN.out.2, HN.out.1, HR.out.1.2.setCell (Nat.le_refl _) _⟩
      ·go_wp2_with fail
       go_roundw
       case measure => simp [intOf]; omega
       case rel => exact ⟨j + 1, _, by omega, by go_num, rfl, HN.out.2, HN.out.1, HR.out.1.2.setCell (Nat.le_refl _) _⟩
     ·have hje : j = c := by omega
      subst hje
      go_wp2_with (at_builtin; refine append_row _ rfl _ _ rfl wc.heap.size _ k j gs (fun i j => 2 * em i j) rfl ?_ ⟨_, 0, none⟩ rfl wr0.heap.size (fun t => 2 * em k t) ?_ ?_ (by omega) ?_ ?_)
      ·exact (K.out.1.keep (KB.of_below HR.out.1.2)).keep (KB.of_below ((Below.refl _ _).alloc (Nat.le_refl _) _))
      ·simp [Addr.add]
      ·refine IRow.below (IRow.congr HR.out.1.1 (fun t ht => ?_)) ((Below.refl _ _).alloc (Nat.le_refl _) _) HR.out.1.1.lt
       rw [if_pos ht]
      ·have := HR.out.1.2.size; simp; omega
      intro v' w5 hM5 _ hg5 hown
      have hb5 : Below wc.heap.size wc w5 := by
       have h1 := (K.out.2.2.trans (HR.out.1.2.mono hwr)).trans (((Below.refl _ _).alloc (Nat.le_refl _) (.cells #[.slice (some ⟨wr0.heap.size, 0, none⟩) j j] 25)).mono (by have := HR.out.1.2.size; omega))
       exact h1.grown hg5 (by have := HR.out.1.2.size; simp; omega) hown
      have HF := Hid.mk (And.intro hM5 (And.intro HR.out.2.row hb5))
      clear hM5 hg5 hown hb5
      go_wp2_with fail
      go_roundw
      case measure => simp [intOf]; omega
      case rel => exact ⟨k + 1, sc, _, by omega, by go_num, rfl, HF.out.1.same (fun i j _ _ => by split <;> simp_all), HF.out.2.1, HF.out.2.2⟩
   ·obtain rfl : k = r := by omega
    have K13 := Hid.mk (And.intro (K12.out.below K.out.2.2 hB5) (And.intro K.out.1 K.out.2.1))
    clear K K12
    go_wp2_with fail
    refine (put_stk B6 dk b k c _ (fun i j => 2 * em i j) l2 _ K13.out.1.1 (by omega) (K13.out.2.1.rd (by omega)) (by omega) (by omega) (fun i j hi hj => ?_)).mono ?_
    ·have := K13.out.1.2.2.1 i j hi hj
     show -1000000000 ≤ 2 * em i j ∧ 2 * em i j ≤ 1000000000
     omega
    rintro x w14 ⟨rfl, hk14, hF14⟩
    obtain ⟨zt, hzt⟩ : ∃ zt, zt = nums k c (fun i j => 2 * em i j) := ⟨_, rfl⟩
    rw [← hzt] at hk14
    have hft : FitsP k c zt := by
     rw [hzt]
     refine nums_fits (by omega) (by omega) (fun i j hi hj => ?_)
     have := K13.out.1.2.2.1 i j hi hj
     show -1000000000 ≤ 2 * em i j ∧ 2 * em i j ≤ 1000000000
     omega
    have K14 := Hid.mk (And.intro hk14 (And.intro hft (And.intro hzt (And.intro K13.out.2.2 (K13.out.1.2.2.2.trans ((K13.out.1.1.fr hF14).mono hB5))))))
    have HG3 : Hid ((l2 ++ [(k, c, zt)])[0]? = some (k, c, zm) ∧ (l2 ++ [(k, c, zt)])[l2.length]? = some (k, c, zt)) := Hid.mk ⟨by
     have h1 := HG.out.1
     have h2 := (List.getElem?_eq_some_iff.1 h1).1
     rw [List.getElem?_append_left h2]; exact h1, by simp⟩
    have HL3 : Hid ((l2 ++ [(k, c, zt)]).length < 7) := Hid.mk (by simp; omega)
    generalize l2 ++ [(k, c, zt)] = l3 at K14 HG3 HL3
    clear hk14 hft hzt hF14 K13
    have c0 := K14.out.1.dk.cell
    go_wp2_with fail
    refine (equal_stk B6 dk b 0 l2.length k k c zm zt l3 _ K14.out.1 (by have := HL3.out; omega) HG3.out.1 HG3.out.2 HF.out.1 K14.out.2.1).mono ?_
    rintro x w15 ⟨y, rfl, hy, hb15⟩
    have hye : y = !sb := by
     have hz := K14.out.2.2.1
     have hq := HZ.out.1
     have h1 : SpEq (ent c zm) (ent c zt) k k c ↔ ∀ i j, i < k → j < c → ent c zm i j = 0 := twice_span (fun i j hi hj => by rw [hz, hq, nums_ent _ hi hj, nums_ent _ hi hj])
     have h2 := K14.out.2.2.2.1
     unfold SomeIs at h2
     cases sb with
     | false =>
       show y = true
       rw [hy, h1]
       intro i j hi hj
       rw [hq, nums_ent _ hi hj]
       exact Classical.byContradiction fun h0 => by have := h2.2 (.inl ⟨i, j, hi, hj, h0⟩); cases this
     | true =>
       cases y with
       | false => rfl
       | true =>
         rcases h2.1 rfl with ⟨i, j, hi, hj, h0⟩ | ⟨t, h0, -⟩
         ·have h3 := (h1.1 (hy.1 rfl)) i j hi hj
          rw [hq, nums_ent _ hi hj] at h3
          exact absurd h3 h0
         ·omega
    have K15 := Hid.mk (And.intro (K14.out.1.below hb15) (K14.out.2.2.2.2.trans (hb15.mono (Nat.le_trans hB5 K14.out.1.lo'))))
    clear hy hb15 c0
    have c0 := K15.out.1.dk.cell
    go_wp2_with fail
    refine (sum_stk B6 dk b 0 l2.length k k c zm zt l3 _ K15.out.1 (by have := HL3.out; omega) HG3.out.1 HG3.out.2 HF.out.1 K14.out.2.1).mono ?_
    rintro x w16 ⟨rfl, ⟨rk, bs, hbs, hk16⟩, hF16⟩
    have K16 := Hid.mk (And.intro hk16 (And.intro hbs (K15.out.2.trans ((K15.out.1.fr hF16).mono hB5))))
    have HG4 : Hid ((l3 ++ [(rk, c, bs)])[0]? = some (k, c, zm)) := Hid.mk (by
     have h1 := HG3.out.1
     have h2 := (List.getElem?_eq_some_iff.1 h1).1
     rw [List.getElem?_append_left h2]; exact h1)
    clear hk16 hbs hF16 c0
    go_wp2_with fail
    refine (shown_stk B6 dk b l3.length rk c bs _ _ K16.out.1 (by have := HL3.out; simp; omega) (by simp)).mono ?_
    rintro x w17 ⟨rfl, hb17⟩
    have K17 := Hid.mk (And.intro (K16.out.1.below hb17) (K16.out.2.2.trans (hb17.mono (Nat.le_trans hB5 K16.out.1.lo'))))
    clear hb17
    generalize hT1 : (⟨(matT rk c bs).toArray⟩ : ByteArray) = T1
    have HT1 := Hid.mk hT1
    clear hT1
    go_wp2_with fail
    refine (basis_stk B6 dk b 0 k c zm _ _ K17.out.1 (by have := HL3.out; simp; omega) HG4.out HF.out.1).mono ?_
    rintro x w18 ⟨rk', bs', hbs', rfl, hb18⟩
    have hsame : (⟨(matT rk' c bs').toArray⟩ : ByteArray) = T1 := by
     have hz := K14.out.2.2.1
     have hq := HZ.out.1
     obtain ⟨rfl, rfl⟩ := basis_same K16.out.2.1 hbs' (by rw [hq, nums_len]) (fun i hi => (twice_sp hi).to fun j hj => by rw [hz, nums_ent _ hi hj, hq, nums_ent _ hi hj]) (fun i hi => Sp.row _ c hi)
     exact HT1.out
    rw [hsame]
    have K18 := Hid.mk (K17.out.2.trans (hb18.mono hB5))
    clear hb18 hbs' hsame
    cases sb
    ·simp only [Bool.not_false] at hye
     subst hye
     go_wp2_with fail
     go_ret
     exact ⟨rfl, K18.out⟩
    ·simp only [Bool.not_true] at hye
     subst hye
     go_wp2_with fail
     go_ret
     exact ⟨rfl, K18.out⟩
theorem Made_all (a : Int) (w : World) (ht : Tab w) (ha1 : -9223372036854775808 ≤ a) (ha2 : a ≤ 9223372036854775807) :
 Calls Tryz.prog 8 #[.int .i64 a] w fun x w' => x = .returned (.bool true) ∧ Below w.heap.size w w' := by
 have HT := Hid.mk ht
 clear ht
 go_enter Tryz.func8, Tryz.ntmps8
 go_wp2_with fail
 refine (start_any a _ ha1 ha2).mono ?_
 rintro e w1 ⟨d, rfl, hd, hdb, hb⟩
 have H := Hid.mk (And.intro hd hb)
 clear hd hb
 go_wp2_with fail
 refine (member_any d w.heap.size _ H.out.1 (fun w' hw => HT.out.below (H.out.2.trans hw)) hdb).mono ?_
 rintro e w2 ⟨rfl, hb2⟩
 have K := Hid.mk (H.out.2.trans hb2)
 clear hb2
 go_wp2_with fail
 go_ret
 exact ⟨rfl, K.out⟩
end Go.Proofs.YtfjbijpagaipnaaGreatDoor
