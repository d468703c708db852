import Derived.Test.YtfjbijpagaipnabDoorQ22
import Derived.Test.YtfjbijpagaipnabDoorQ21
import Derived.Test.YtfjbijpagaipnabDoorQ29
import Derived.Deep.CutRange
import Derived.Test.YtfjbijpagaipnabDoorQ30
import Derived.StillTailTactics
import Derived.BigRegion
namespace Go.Proofs.YtfjbijpagaipnabDoor
open Go.RowKit
theorem shown_of (B d b : Nat) (h : Int) (P : Prop) (T : List UInt8) (l : List KMx) (w : World) (hk : KL B w d b l) (hP : P → ∃ k r c zs, h = ((k : Nat) : Int) ∧ l.length ≤ 24 ∧ l[k]? = some (r, c, zs) ∧ matT r c zs = T) :
 Calls Tryd.prog 16 #[.pointer (some ⟨d, 0, none⟩), .int .i64 h] w fun x w' => ∃ t : ByteArray, x = .returned (.string t) ∧ (P → t = ⟨T.toArray⟩) ∧ Below w.heap.size w w' := by
 by_cases h0 : P
 ·obtain ⟨k, r, c, zs, rfl, h1, h2, rfl⟩ := hP h0
  refine (shown_stk B d b k r c zs l w hk h1 h2).mono ?_
  rintro x w' ⟨rfl, hb⟩
  exact ⟨_, rfl, fun _ => rfl, hb⟩
 ·refine (shown_out B d b h l w hk).mono ?_
  rintro x w' ⟨⟨t, rfl⟩, hb⟩
  exact ⟨_, rfl, fun h => absurd h h0, hb⟩
open Go.RowKit
def SS (w0 w : World) (B d b : Nat) (l : List KMx) (Bm Bw : Nat) (m u : Value) (r c : Nat) (gm gw : Nat → Nat) (em ew : Nat → Nat → Int) : Prop := KL B w d b l ∧ Mat Bm w m r c gm em ∧ Mat Bw w u r 1 gw ew ∧ Below B w0 w
section
variable {w0 w w' : World} {B d b : Nat} {l l' : List KMx} {Bm Bw : Nat} {m u : Value} {r c : Nat} {gm gw : Nat → Nat} {em ew em' ew' : Nat → Nat → Int}
theorem SS.below (h : SS w0 w B d b l Bm Bw m u r c gm gw em ew) (hb : Below w.heap.size w w') : SS w0 w' B d b l Bm Bw m u r c gm gw em ew :=
 ⟨h.1.below hb, h.2.1.keep (KB.of_below hb), h.2.2.1.keep (KB.of_below hb), h.2.2.2.trans (hb.mono h.1.lo)⟩
theorem SS.step (h : SS w0 w B d b l Bm Bw m u r c gm gw em ew) (hk : KL B w' d b l') (hF : Fr b w w') : SS w0 w' B d b l' Bm Bw m u r c gm gw em ew :=
 ⟨hk, h.2.1.keep (h.1.kb3 hF), h.2.2.1.keep (h.1.kb3 hF), h.2.2.2.trans (h.1.fr3 hF)⟩
theorem SS.putM (h : SS w0 w B d b l Bm Bw m u r c gm gw em ew) (hr : Rise r gm) (hlo : ∀ i, i < r → B ≤ gm i) (hne : ∀ i j, i < r → j < r → gm i ≠ gw j) {i : Nat} (hi : i < r) (j : Nat) (z : Int) : SS w0 (w.setCell ⟨gm i, j, none⟩ (.int .i64 z)) B d b l Bm Bw m u r c gm gw (upE em i j z) ew :=
 ⟨h.1.stored (h.2.1.2 i hi).ty (hlo i hi) _, h.2.1.put hr hi j z, h.2.2.1.aside (h.2.1.2 i hi).ty (fun a ha => hne i a hi ha) _, h.2.2.2.trans (Below.ofG (grown_set _ _ _ _) (hlo i hi) h.1.lo)⟩
theorem SS.putW (h : SS w0 w B d b l Bm Bw m u r c gm gw em ew) (hr : Rise r gw) (hlo : ∀ i, i < r → B ≤ gw i) (hne : ∀ i j, i < r → j < r → gm i ≠ gw j) {i : Nat} (hi : i < r) (j : Nat) (z : Int) : SS w0 (w.setCell ⟨gw i, j, none⟩ (.int .i64 z)) B d b l Bm Bw m u r c gm gw em (upE ew i j z) :=
 ⟨h.1.stored (h.2.2.1.2 i hi).ty (hlo i hi) _, h.2.1.aside (h.2.2.1.2 i hi).ty (fun a ha => Ne.symm (hne a i ha hi)) _, h.2.2.1.put hr hi j z, h.2.2.2.trans (Below.ofG (grown_set _ _ _ _) (hlo i hi) h.1.lo)⟩
theorem SS.drew (h : SS w0 w B d b l Bm Bw m u r c gm gw em ew) : SS w0 w.drew B d b l Bm Bw m u r c gm gw em ew := ⟨h.1.drew, h.2.1.drew, h.2.2.1.drew, h.2.2.2.drew⟩
theorem SS.same (h : SS w0 w B d b l Bm Bw m u r c gm gw em ew) (he : ∀ i j, i < r → j < c → em i j = em' i j) (hf : ∀ i j, i < r → j < 1 → ew i j = ew' i j) : SS w0 w B d b l Bm Bw m u r c gm gw em' ew' := ⟨h.1, h.2.1.same he, h.2.2.1.same hf, h.2.2.2⟩
end
theorem nil_nil (W : World) : (Go.binOp BinOp.eql 37 (.slice none 0 0) (.slice none 0 0)).run Tryd.prog W = .ok (.bool true) W := by kernel_rfl
set_option maxRecDepth 100000 in
set_option maxHeartbeats 8000000 in
theorem solved_all (d B : Nat) (bb : Int) (w : World) (hd : Di w d) (ht : ∀ w', Below B w w' → Tab w') (hB : B ≤ d) (hb1 : -9223372036854775808 ≤ bb) (hb2 : bb ≤ 9223372036854775807) :
 Calls Tryd.prog 6 #[.pointer (some ⟨d, 0, none⟩), .int .i64 bb] w fun x w' => x = .returned (.bool true) ∧ Below B w w' := by
 have hdl := hd.lt
 have H := Hid.mk (And.intro hd ht)
 clear hd ht
 go_enter Tryd.func6, Tryd.ntmps6
 go_wp2_with fail
 refine (under_any d 3 _ H.out.1 (by omega) (by omega)).mono ?_
 rintro x w1 ⟨⟨r', rfl, hr'⟩, hd1, hg1⟩
 have K1 := Hid.mk (And.intro hd1 (Below.ofG hg1 hB (by omega)))
 clear hd1 hg1
 go_wp2_with fail
 refine (under_any d 3 _ K1.out.1 (by omega) (by omega)).mono ?_
 rintro x w2 ⟨⟨c', rfl, hc'⟩, hd2, hg2⟩
 have K2 := Hid.mk (And.intro hd2 (K1.out.2.trans (Below.ofG hg2 hB (by have := K1.out.2.size; omega))))
 clear hd2 hg2 K1
 obtain ⟨r, hr⟩ : ∃ r, r = 1 + r' := ⟨_, rfl⟩
 obtain ⟨c, hc⟩ : ∃ c, c = 1 + c' := ⟨_, rfl⟩
 have hri : (1 : Int) + r' = (r : Nat) := by omega
 have hci : (1 : Int) + c' = (c : Nat) := by omega
 have hr0 : 0 < r := by omega
 have hc0 : 0 < c := by omega
 have hr3 : r ≤ 3 := by omega
 have hc3 : c ≤ 3 := by omega
 clear hr hc hr' hc'
 have hB2 : B ≤ w2.heap.size := by have := K2.out.2.size; omega
 go_wp2_with fail
 refine (drawn_rise d r c _ K2.out.1 hr3 hc3).mono ?_
 rintro x w3 ⟨m, gm, em, rfl, hM3, hin3, hd3, hg3, hri3, hlo3⟩
 have K3 := Hid.mk (And.intro hM3 (And.intro (hin3.tinyR hr3) (And.intro hd3 (K2.out.2.trans (Below.ofG hg3 hB hB2)))))
 have HR : Hid (Rise r gm ∧ (∀ i, i < r → B ≤ gm i) ∧ TinyR r c em) := Hid.mk ⟨hri3, fun i hi => Nat.le_trans hB2 (hlo3 i hi), hin3.tinyR hr3⟩
 clear hM3 hin3 hd3 hg3 K2 hri3 hlo3
 go_wp2_with fail
 refine (drawn_rise d c 1 _ K3.out.2.2.1 hc3 (by omega)).mono ?_
 rintro x w4 ⟨v, gv, ev, rfl, hM4, hin4, hd4, hg4, -, -⟩
 have K4 := Hid.mk (And.intro (K3.out.1.keep (KB.of_grown hg4 K3.out.2.2.1.ty (by decide) (by decide))) (And.intro hM4 (And.intro (hin4.tinyR hc3) (K3.out.2.2.2.trans (Below.ofG hg4 hB (by have := K3.out.2.2.2.size; omega))))))
 clear hM4 hin4 hd4 hg4 K3
 go_wp2_with fail
 refine (times_rise _ _ r c 1 m v gm gv em ev _ hr0 hc0 hr3 hc3 (by omega) K4.out.1 K4.out.2.1 HR.out.2.2 K4.out.2.2.1).mono ?_
 rintro x w5 ⟨u, gw, rfl, hM5, hb5, hri5, hlo5⟩
 have hBw : B ≤ w4.heap.size := by have := K4.out.2.2.2.size; omega
 obtain ⟨ew, hew⟩ : ∃ ew : Nat → Nat → Int, ew = fun i j => dot em ev i j c := ⟨_, rfl⟩
 rw [← hew] at hM5
 have hsm : SmallR r 1 ew := by rw [hew]; exact dot_smallR hc3 HR.out.2.2 K4.out.2.2.1
 have hbx : ∀ i, i < r → -3888 ≤ ew i 0 ∧ ew i 0 ≤ 3888 := fun i hi => by
  have := dot_boxR HR.out.2.2 K4.out.2.2.1 hi (show 0 < 1 by omega) c (Nat.le_refl _)
  rw [hew]
  show -3888 ≤ dot em ev i 0 c ∧ dot em ev i 0 c ≤ 3888
  omega
 have HW : Hid (Rise r gw ∧ (∀ i, i < r → B ≤ gw i) ∧ (∀ i j, i < r → j < r → gm i ≠ gw j) ∧ SmallR r 1 ew ∧ (∀ i, i < r → ew i 0 = dot em ev i 0 c) ∧ ∀ i, i < r → -3888 ≤ ew i 0 ∧ ew i 0 ≤ 3888) :=
  Hid.mk ⟨hri5, fun i hi => Nat.le_trans hBw (hlo5 i hi), fun i j hi hj => by have h1 := (K4.out.1.2 i hi).lt; have h2 := hlo5 j hj; omega, hsm, fun i _ => by rw [hew], hbx⟩
 have K5 := Hid.mk (And.intro (K4.out.1.keep (KB.of_below hb5)) (And.intro hM5 (K4.out.2.2.2.trans (hb5.mono hBw))))
 generalize w2.heap.size = Bm at K5
 generalize w4.heap.size = Bw at K5
 clear hM5 hb5 K4 hri5 hlo5 hew hsm hbx hBw hB2
 go_wp2_with fail
 refine (deskK_any _ (H.out.2 _ K5.out.2.2)).mono ?_
 rintro x w6 ⟨dk, b, rfl, hk6, hb6⟩
 rw [← stk_nil] at hk6
 have hB5 : B ≤ w5.heap.size := by have := K5.out.2.2.size; omega
 have hbel : Below B w w6 := K5.out.2.2.trans (hb6.mono hB5)
 have K6 : Hid (SS w w6 B dk b [] Bm Bw m u r c gm gw em ew) := Hid.mk ⟨KL.weak hk6 hB5 (fun w' hw => H.out.2 w' (hbel.trans hw)), K5.out.1.keep (KB.of_below hb6), K5.out.2.1.keep (KB.of_below hb6), hbel⟩
 clear hk6 hb6 hbel K5 hB5
 go_wp2_with fail
 refine (put_stk B dk b r c m em [] _ K6.out.1 (by simp) (K6.out.2.1.rd (by omega)) (by omega) (by omega) HR.out.2.2.small).mono ?_
 rintro x w7 ⟨rfl, hk7, hF7⟩
 have K7 : Hid (SS w w7 B dk b [(r, c, nums r c em)] Bm Bw m u r c gm gw em ew) := Hid.mk (K6.out.step hk7 hF7)
 clear hk7 hF7 K6
 go_wp2_with fail
 refine (put_stk B dk b r 1 u ew [(r, c, nums r c em)] _ K7.out.1 (by simp) (K7.out.2.2.1.rd (by omega)) (by omega) (by omega) HW.out.2.2.2.1).mono ?_
 rintro x w8 ⟨rfl, hk8, hF8⟩
 have K8 : Hid (SS w w8 B dk b [(r, c, nums r c em), (r, 1, nums r 1 ew)] Bm Bw m u r c gm gw em ew) := Hid.mk (K7.out.step hk8 hF8)
 have HF : Hid (FitsP r c (nums r c em) ∧ FitsP r 1 (nums r 1 ew) ∧ SolS r c (nums r c em) (nums r 1 ew) ∧ (nums r 1 ew).length = r * 1) := Hid.mk ⟨nums_fits (by omega) (by omega) HR.out.2.2.small, nums_fits (by omega) (by omega) HW.out.2.2.2.1, by
  have := sol_made r c em ev ew 1 (fun i hi => by rw [HW.out.2.2.2.2.1 i hi, Int.one_mul])
  simpa using this, nums_len _ _ _⟩
 clear hk8 hF8 K7
 generalize nums r c em = zm at K8 HF
 generalize nums r 1 ew = zw at K8 HF
 have c0 := K8.out.1.dk.cell
 go_wp2_with fail
 refine (solve_yes B dk b 0 1 r c zm zw [(r, c, zm), (r, 1, zw)] _ K8.out.1 (by simp) rfl rfl HF.out.1 HF.out.2.1 HF.out.2.2.1).mono ?_
 rintro x w9 ⟨hb, us, nk, ks, rfl, hS, hk9, hF9, hcell⟩
 have c1 := hcell 0 (by omega)
 simp only [List.length_cons, List.length_nil, Nat.add_zero, Nat.zero_add] at c1
 have K9 : Hid (SS w w9 B dk b [(r, c, zm), (r, 1, zw), (c, 1, us), (nk, c, ks)] Bm Bw m u r c gm gw em ew) := Hid.mk (K8.out.step hk9 hF9)
 have HS := Hid.mk hS
 clear hk9 hF9 K8 hS hcell c0
 have c0 := K9.out.1.dk.cell
 have K9' := Hid.mk K9.out.drew
 clear K9
 have K9 := K9'
 clear K9'
 go_upto_region 12 with fail
 obtain ⟨X, hX⟩ : ∃ X : World, X = w9.drew := ⟨_, rfl⟩
 have HX := Hid.mk hX
 clear hX
 go_cut [15, 16] from 73 to 84 (fun ev pv wx => ∃ p e : Int, pv = .int .i64 p ∧ ev = .int .i64 e ∧ Hid (((¬ (FitsP r c zm ∧ FitsP c 1 us) ∧ p = -1 ∧ e = 4 ∧ KL B wx dk b [(r, c, zm), (r, 1, zw), (c, 1, us), (nk, c, ks)]) ∨ ((FitsP r c zm ∧ FitsP c 1 us) ∧ p = (4 : Int) ∧ e = 0 ∧ KL B wx dk b [(r, c, zm), (r, 1, zw), (c, 1, us), (nk, c, ks), (r, 1, prodL r c 1 zm us)])) ∧ Fr b X wx))
 case first =>
  go_region_with (go_at_call 15; refine (times_stk B dk b 0 2 r c 1 zm us [(r, c, zm), (r, 1, zw), (c, 1, us), (nk, c, ks)] _ K9.out.1 (by simp) rfl rfl).mono ?_; rintro x w10 ⟨p, e, rfl, hrel, hF10⟩; replace hrel := Hid.mk (And.intro hrel hF10); clear hF10)
  all_goals
   go_wp2_with fail
   go_meet
   case rel => exact ⟨_, _, rfl, rfl, by rw [HX.out]; assumption⟩
 case rest =>
  obtain ⟨p, e, rfl, rfl, HREL⟩ := hcut
  rw [HX.out] at HREL
  obtain ⟨hrel, hF10⟩ := HREL.out
  clear HREL HX
  have key : ∃ l2 : List KMx, (∃ y, l2 = (r, c, zm) :: (r, 1, zw) :: y) ∧ l2.length < 6 ∧ SS w wc B dk b l2 Bm Bw m u r c gm gw em ew ∧ ((e = 4 ∧ p = -1) ∨ (e = 0 ∧ ∃ pk : Nat, p = (pk : Int) ∧ l2[pk]? = some (r, 1, zw))) := by
   rcases hrel with ⟨-, hp, he, hk10⟩ | ⟨-, hp, he, hk10⟩
   ·exact ⟨_, ⟨[(c, 1, us), (nk, c, ks)], rfl⟩, by simp, K9.out.step hk10 hF10, .inl ⟨he, hp⟩⟩
   ·refine ⟨_, ⟨[(c, 1, us), (nk, c, ks), (r, 1, prodL r c 1 zm us)], rfl⟩, by simp, K9.out.step hk10 hF10, .inr ⟨he, 4, hp, ?_⟩⟩
    show some (r, 1, prodL r c 1 zm us) = _
    rw [sol_prod HS.out HF.out.2.2.1 HF.out.2.2.2]
  clear hrel hF10 K9 c0 c1
  obtain ⟨l2, ⟨ly, hly⟩, hl2, hM10, hpe⟩ := key
  have HG : Hid (l2[1]? = some (r, 1, zw)) := Hid.mk (by rw [hly]; rfl)
  clear hly
  obtain ⟨gq, cap, rfl, hcap⟩ : ∃ gq cap, m = .slice (some ⟨gq, 0, none⟩) r cap ∧ r ≤ cap := by
   rcases hM10.2.1.shape with ⟨_, h0⟩ | ⟨g, cap, h1, h2, -⟩
   ·omega
   ·exact ⟨g, cap, h1, h2⟩
  obtain ⟨gz', cap', rfl, hcap'⟩ : ∃ gq cap, u = .slice (some ⟨gq, 0, none⟩) r cap ∧ r ≤ cap := by
   rcases hM10.2.2.1.shape with ⟨_, h0⟩ | ⟨g, cap, h1, h2, -⟩
   ·omega
   ·exact ⟨g, cap, h1, h2⟩
  have K10 := Hid.mk hM10
  clear hM10
  have PE := Hid.mk hpe
  have he : e = 4 ∨ e = 0 := by rcases hpe with ⟨h, -⟩ | ⟨h, -⟩ <;> simp [h]
  clear hpe
  go_wp2_with fail
  refine (shown_of B dk b p (e = 0) (matT r 1 zw) l2 _ K10.out.1 (fun h0 => ?_)).mono ?_
  ·rcases PE.out with ⟨h1, -⟩ | ⟨-, pk, rfl, hpk⟩
   ·omega
   ·exact ⟨pk, r, 1, zw, rfl, by omega, hpk, rfl⟩
  rintro x w11 ⟨ty, rfl, hty, hb11⟩
  have K11 := Hid.mk (K10.out.below hb11)
  clear hb11 K10 PE
  go_wp2_with fail
  refine (shown_stk B dk b 1 r 1 zw l2 _ K11.out.1 (by omega) HG.out).mono ?_
  rintro x w12 ⟨rfl, hb12⟩
  have K12 := Hid.mk (K11.out.below hb12)
  clear hb12 K11
  generalize (⟨(matT r 1 zw).toArray⟩ : ByteArray) = TZ at hty ⊢
  go_upto_region 16 with fail
  go_cut [103] from 93 to 103 (fun x wx => x = .bool false ∧ wx = w12)
  case first =>
   rcases he with rfl | rfl
   ·clear hty
    go_wp2_with fail
    go_meet
    case rel => exact ⟨rfl, rfl⟩
   ·obtain rfl := hty rfl
    go_wp2_with fail
    go_meet
    case rel => exact ⟨rfl, rfl⟩
  case rest =>
   obtain ⟨rfl, rfl⟩ := hcut
   clear hty he
   go_wp2_with fail
   refine (pick_any bb 7 _ hb1 hb2 (by omega) (by omega)).mono ?_
   rintro x w' ⟨⟨q, rfl, hq⟩, rfl⟩
   obtain ⟨f, hf⟩ : ∃ f : Int, f = 2 + (q : Int) := ⟨_, rfl⟩
   have hf1 : 2 ≤ f := by omega
   have hf9 : f ≤ 8 := by omega
   go_wp2_with fail
   rw [← hf]
   clear hf
   go_loopw [21] (fun iv wr => ∃ i : Nat, i ≤ r ∧ iv = .int .i64 i ∧ Hid (SS w wr B dk b l2 Bm Bw (.slice (some ⟨gq, 0, none⟩) r cap) (.slice (some ⟨gz', 0, none⟩) r cap') r c gm gw (scF f em i 0) (scF f ew i 0))) (fun iv _ => r - (intOf iv).toNat)
   case atStart => exact ⟨0, Nat.zero_le _, rfl, Hid.mk (K12.out.same (fun i j _ _ => (scF_zero f em i j).symm) (fun i j _ _ => (scF_zero f ew i j).symm))⟩
   case round =>
    clear K12
    rename World => wr0
    obtain ⟨i, hi, rfl, K⟩ := hrel
    by_cases hir : i < r
    ·go_wp2_with fail
     go_loopw [22] (fun jv ws => ∃ j : Nat, j ≤ c ∧ jv = .int .i64 j ∧ Hid (SS w ws B dk b l2 Bm Bw (.slice (some ⟨gq, 0, none⟩) r cap) (.slice (some ⟨gz', 0, none⟩) r cap') r c gm gw (scF f em i j) (scF f ew i 0))) (fun jv _ => c - (intOf jv).toNat)
     case atStart => exact ⟨0, Nat.zero_le _, rfl, K⟩
     case round =>
      clear K
      rename World => ws
      obtain ⟨j, hj, rfl, K⟩ := hrel
      by_cases hjc : j < c
      ·have a0 := K.out.2.1.cell i hir
       have a1 := (K.out.2.1.2 i hir).cell j hjc
       have f1 := (K.out.2.1.2 i hir).frozen j
       rw [scF_here] at a1
       have hx := HR.out.2.2 i j hir hjc
       have hnx := ((K.out.putM HR.out.1 HR.out.2.1 HW.out.2.2.1 hir j (f * em i j)).same (fun a t _ _ => scF_next f em i j a t) (fun _ _ _ _ => rfl)).drew
       have HN := Hid.mk hnx
       have hp := mul_boxR (A := 8) (B := 36) (a := f) (b := em i j) (by omega) (by omega) hx.1 hx.2
       generalize gm i = G at a0 a1 f1 HN
       generalize em i j = y at a1 hx HN hp
       obtain ⟨hx1, hx2⟩ := hx
       obtain ⟨hp1, hp2⟩ := hp
       simp only [Nat.reduceMul] at hp1 hp2
       clear hnx
       go_wp2_with fail
       go_region
       all_goals go_wp2_with fail
       go_roundw
       case measure => simp [intOf]; omega
       case rel => exact ⟨j + 1, by omega, by go_num, HN⟩
      ·obtain rfl : j = c := by omega
       have a0 := K.out.2.2.1.cell i hir
       have a1 := (K.out.2.2.1.2 i hir).cell 0 (by omega)
       have f1 := (K.out.2.2.1.2 i hir).frozen 0
       rw [scF_here] at a1
       have hx := HW.out.2.2.2.2.2 i hir
       have hnx := ((K.out.putW HW.out.1 HW.out.2.1 HW.out.2.2.1 hir 0 (f * ew i 0)).same (fun a t _ ht => scF_row f em i j a t ht) (fun a t _ ht => (scF_next f ew i 0 a t).trans (scF_row f ew i 1 a t ht))).drew
       have HN := Hid.mk hnx
       have hp := mul_boxR (A := 8) (B := 3888) (a := f) (b := ew i 0) (by omega) (by omega) hx.1 hx.2
       generalize gw i = G at a0 a1 f1 HN
       generalize ew i 0 = y at a1 hx HN hp
       obtain ⟨hx1, hx2⟩ := hx
       obtain ⟨hp1, hp2⟩ := hp
       simp only [Nat.reduceMul] at hp1 hp2
       clear hnx
       go_wp2_with fail
       go_region
       all_goals go_wp2_with fail
       go_roundw
       case measure => simp [intOf]; omega
       case rel => exact ⟨i + 1, by omega, by go_num, HN⟩
    ·obtain rfl : i = r := by omega
     have K13 : Hid (SS w wr0 B dk b l2 Bm Bw (.slice (some ⟨gq, 0, none⟩) i cap) (.slice (some ⟨gz', 0, none⟩) i cap') i c gm gw (fun a t => f * em a t) (fun a t => f * ew a t)) := Hid.mk (K.out.same (fun a t ha _ => scF_all f em ha t) (fun a t ha _ => scF_all f ew ha t))
     have HSM : Hid (SmallR i c (fun a t => f * em a t) ∧ (∀ a, a < i → -31104 ≤ f * ew a 0 ∧ f * ew a 0 ≤ 31104)) := Hid.mk ⟨fun a t ha htt => by
      have hx := HR.out.2.2 a t ha htt
      have hp := mul_boxR (A := 8) (B := 36) (a := f) (b := em a t) (by omega) (by omega) hx.1 hx.2
      simp only [Nat.reduceMul] at hp
      show -1000000000 ≤ f * em a t ∧ f * em a t ≤ 1000000000
      omega, fun a ha => by
      have hx := HW.out.2.2.2.2.2 a ha
      have hp := mul_boxR (A := 8) (B := 3888) (a := f) (b := ew a 0) (by omega) (by omega) hx.1 hx.2
      simp only [Nat.reduceMul] at hp
      omega⟩
     clear K
     go_wp2_with fail
     refine (put_stk B dk b i c _ (fun a t => f * em a t) l2 _ K13.out.1 (by omega) (K13.out.2.1.rd (by omega)) (by omega) (by omega) HSM.out.1).mono ?_
     rintro x w14 ⟨rfl, hk14, hF14⟩
     have K14 := Hid.mk (K13.out.step hk14 hF14)
     clear hk14 hF14 K13
     have HSW : Hid (SmallR i 1 (fun a t => f * ew a t)) := Hid.mk (fun a t ha htt => by
      obtain rfl : t = 0 := by omega
      have := HSM.out.2 a ha
      show -1000000000 ≤ f * ew a 0 ∧ f * ew a 0 ≤ 1000000000
      omega)
     have HL3 : Hid ((l2 ++ [(i, c, nums i c (fun a t => f * em a t))]).length = l2.length + 1 ∧ (l2 ++ [(i, c, nums i c (fun a t => f * em a t))])[l2.length]? = some (i, c, nums i c (fun a t => f * em a t))) := Hid.mk ⟨by simp, by simp⟩
     generalize l2 ++ [(i, c, nums i c (fun a t => f * em a t))] = l3 at K14 HL3
     obtain ⟨h3, hh3⟩ : ∃ h3, h3 = l2.length := ⟨_, rfl⟩
     rw [← hh3] at HL3 ⊢
     have hh6 : h3 < 6 := by omega
     clear hh3
     go_wp2_with fail
     refine (put_stk B dk b i 1 _ (fun a t => f * ew a t) l3 _ K14.out.1 (by have := HL3.out.1; omega) (K14.out.2.2.1.rd (by omega)) (by omega) (by omega) HSW.out).mono ?_
     rintro x w15 ⟨rfl, hk15, hF15⟩
     have K15 := Hid.mk (K14.out.step hk15 hF15)
     clear hk15 hF15 K14
     obtain ⟨zs, hzs⟩ : ∃ zs, zs = nums i c (fun a t => f * em a t) := ⟨_, rfl⟩
     obtain ⟨ys, hys⟩ : ∃ ys, ys = nums i 1 (fun a t => f * ew a t) := ⟨_, rfl⟩
     have HF3 : Hid (FitsP i c zs ∧ FitsP i 1 ys ∧ SolS i c zs ys) := Hid.mk ⟨by rw [hzs]; exact nums_fits (by omega) (by omega) HSM.out.1, by rw [hys]; exact nums_fits (by omega) (by omega) HSW.out, by
      rw [hzs, hys]
      exact sol_made i c em ev (fun a t => f * ew a t) f (fun a ha => by show f * ew a 0 = _; rw [HW.out.2.2.2.2.1 a ha])⟩
     rw [← hys] at K15
     rw [← hzs] at HL3
     have HZS := Hid.mk hzs
     obtain ⟨h4, hh4⟩ : ∃ h4, h4 = l3.length := ⟨_, rfl⟩
     have HL4 : Hid ((l3 ++ [(i, 1, ys)]).length = h3 + 2 ∧ (l3 ++ [(i, 1, ys)])[h3]? = some (i, c, zs) ∧ (l3 ++ [(i, 1, ys)])[h4]? = some (i, 1, ys)) := Hid.mk ⟨by simp; have := HL3.out.1; omega, by
      rw [List.getElem?_append_left (by have := HL3.out.1; omega)]; exact HL3.out.2, by rw [hh4]; simp⟩
     rw [← hh4]
     generalize l3 ++ [(i, 1, ys)] = l4 at K15 HL4
     clear hzs hys HL3 hh4
     have c0 := K15.out.1.dk.cell
     go_wp2_with fail
     refine (solve_yes B dk b h3 h4 i c zs ys l4 _ K15.out.1 (by have := HL4.out.1; omega) HL4.out.2.1 HL4.out.2.2 HF3.out.1 HF3.out.2.1 HF3.out.2.2).mono ?_
     rintro x w16 ⟨hb', us', nk', ks', rfl, -, hk16, hF16, -⟩
     have K16 := Hid.mk (K15.out.step hk16 hF16)
     have HL5 : Hid ((l4 ++ [(c, 1, us'), (nk', c, ks')]).length = h3 + 4 ∧ (l4 ++ [(c, 1, us'), (nk', c, ks')])[h3]? = some (i, c, zs)) := Hid.mk ⟨by simp; have := HL4.out.1; omega, by
      rw [List.getElem?_append_left (by have := HL4.out.1; omega)]; exact HL4.out.2.1⟩
     generalize l4 ++ [(c, 1, us'), (nk', c, ks')] = l5 at K16 HL5
     clear hk16 hF16 K15 c0 HL4
     have hi1 : i - 1 < i := by omega
     have hii : (i : Int) - 1 = ((i - 1 : Nat) : Int) := by omega
     have a0 := K16.out.2.2.1.cell (i - 1) hi1
     have a1 : w16.cell? ⟨gw (i - 1), 0, none⟩ = some (.int .i64 (f * ew (i - 1) 0)) := (K16.out.2.2.1.2 (i - 1) hi1).cell 0 (by omega)
     have f1 := (K16.out.2.2.1.2 (i - 1) hi1).frozen 0
     have hx := HSM.out.2 (i - 1) hi1
     have hnx := K16.out.putW HW.out.1 HW.out.2.1 HW.out.2.2.1 hi1 0 (f * ew (i - 1) 0 + 1)
     have HOFF : Hid (upE (fun a t => f * ew a t) (i - 1) 0 (f * ew (i - 1) 0 + 1) (i - 1) 0 = f * ew (i - 1) 0 + 1) := Hid.mk (by simp [upE, upd])
     have HSM2 : Hid (SmallR i 1 (upE (fun a t => f * ew a t) (i - 1) 0 (f * ew (i - 1) 0 + 1))) := Hid.mk (fun a t ha htt => by
      obtain rfl : t = 0 := by omega
      have h1 := HSM.out.2 a ha
      have h2 := HSM.out.2 (i - 1) hi1
      unfold upE
      by_cases e0 : a = i - 1
      ·simp only [e0, if_true]
       simp [upd]
       omega
      ·simp only [e0, if_false]
       omega)
     have HN := Hid.mk hnx
     generalize upE (fun a t => f * ew a t) (i - 1) 0 (f * ew (i - 1) 0 + 1) = e2 at HN HOFF HSM2
     generalize gw (i - 1) = G at a0 a1 f1 HN
     generalize ew (i - 1) 0 = y at a1 hx HN HOFF
     generalize hfy : f * y = fy at a1 hx HN HOFF
     obtain ⟨hx1, hx2⟩ := hx
     generalize hjj : i - 1 = jj at a0 hii hi1 HOFF
     have HFY := Hid.mk (And.intro hfy hjj)
     clear hnx hfy hjj
     go_wp2_with fail
     refine (put_stk B dk b i 1 _ e2 l5 _ HN.out.1 (by have := HL5.out.1; omega) (HN.out.2.2.1.rd (by omega)) (by omega) (by omega) HSM2.out).mono ?_
     rintro x w17 ⟨rfl, hk17, hF17⟩
     have K17 := Hid.mk (HN.out.step hk17 hF17)
     have HF4 : Hid (FitsP i 1 (nums i 1 e2) ∧ ¬ SolS i c zs (nums i 1 e2)) := Hid.mk ⟨nums_fits (by omega) (by omega) HSM2.out, by
      rw [HZS.out]
      exact sol_off i c em e2 f hf1 y hi1 (by rw [HOFF.out, HFY.out.1])⟩
     obtain ⟨h6, hh6'⟩ : ∃ h6, h6 = l5.length := ⟨_, rfl⟩
     have HL6 : Hid ((l5 ++ [(i, 1, nums i 1 e2)]).length = h3 + 5 ∧ (l5 ++ [(i, 1, nums i 1 e2)])[h3]? = some (i, c, zs) ∧ (l5 ++ [(i, 1, nums i 1 e2)])[h6]? = some (i, 1, nums i 1 e2)) := Hid.mk ⟨by simp; have := HL5.out.1; omega, by
      rw [List.getElem?_append_left (by have := HL5.out.1; omega)]; exact HL5.out.2, by rw [hh6']; simp⟩
     rw [← hh6']
     generalize l5 ++ [(i, 1, nums i 1 e2)] = l6 at K17 HL6
     clear hk17 hF17 HN K16 HL5 hh6' a0 a1 f1
     have c0 := K17.out.1.dk.cell
     go_wp2_with fail
     refine (solve_no B dk b h3 h6 i c zs (nums i 1 e2) l6 _ K17.out.1 (by have := HL6.out.1; omega) HL6.out.2.1 HL6.out.2.2 HF3.out.1 HF4.out.1 HF4.out.2).mono ?_
     rintro x w18 ⟨rfl, hk18, hF18⟩
     have K18 := Hid.mk (K17.out.step hk18 hF18)
     clear hk18 hF18 K17 c0
     have hnil := nil_nil w18
     go_wp2_with fail
     go_ret
     exact ⟨rfl, K18.out.2.2.2⟩
theorem Solved_any (a bb : Int) (w : World) (ha1 : -9223372036854775808 ≤ a) (ha2 : a ≤ 9223372036854775807) (hb1 : -9223372036854775808 ≤ bb) (hb2 : bb ≤ 9223372036854775807) (ht : Tab w) :
 Calls Tryd.prog 3 #[.int .i64 a, .int .i64 bb] w fun x w' => x = .returned (.bool true) ∧ Below w.heap.size w w' := by
 have HT := Hid.mk ht
 clear ht
 go_enter Tryd.func3, Tryd.ntmps3
 go_wp2_with fail
 refine (start_any a _ ha1 ha2).mono ?_
 rintro e w1 ⟨d, rfl, hd, hdb, hb⟩
 have H := Hid.mk (And.intro hd hb)
 clear hd hb
 go_wp2_with fail
 refine (solved_all d w.heap.size bb _ H.out.1 (fun w' hw => HT.out.below (H.out.2.trans hw)) hdb hb1 hb2).mono ?_
 rintro e w2 ⟨rfl, hb2⟩
 have K := Hid.mk (H.out.2.trans hb2)
 clear hb2
 go_wp2_with fail
 go_ret
 exact ⟨rfl, K.out⟩
end Go.Proofs.YtfjbijpagaipnabDoor
