import Derived.Test.YtfjbijpagaipnaaGreatDoorM30
import Derived.Test.YtfjbijpagaipnaaGreatDoorM14
import Derived.StillTailTactics
import Derived.Test.YtfjbijpagaipnaaGreatDoorM26
import Derived.Test.YtfjbijpagaipnaaGreatDoorM16
import Derived.Test.YtfjbijpagaipnaaGreatDoorM11
namespace Go.Proofs.YtfjbijpagaipnaaGreatDoor
open Go.RowKit
def FlipOf (r c : Nat) (zs ms : List Int) : Prop := ms.length = c * r ∧ ∀ i j, i < c → j < r → ent r ms i j = ent c zs j i
def ColsTo (r c : Nat) (ds vs ts ds' vs' ts' : List Int) : Prop := ∃ k fs es a b ra tb, FlipOf r c ds fs ∧ EcTo c r (ent r fs) r k (e3 c r es a b) ∧ es.length = c * r ∧ a.length = c * c ∧ b.length = c * c ∧ FlipOf c r es ds' ∧ FlipOf c c a ra ∧ FlipOf c c b tb ∧ vs'.length = c * c ∧ ts'.length = c * c ∧ ProdOf c c c vs ra vs' ∧ ProdOf c c c tb ts ts' ∧
 (∃ pc, EchSt c r k pc (ent r es)) ∧ EInv (ent r fs) (ent r es) (ent c a) (ent c b) c r
set_option maxRecDepth 100000 in
set_option maxHeartbeats 4000000 in
theorem formCols_any (p r c : Nat) (oD oV oT : Option Addr) (nD nV nT cD cV cT : Nat) (sU sS : Value) (ds vs ts : List Int) (β L K : Nat) (w : World) (hp : DgM w p r c (.slice oD nD cD) sU sS (.slice oV nV cV) (.slice oT nT cT))
 (hD : IsM w (.agg #[.int .i64 r, .int .i64 c, .slice oD nD cD]) r c ds L) (hV : IsM w (.agg #[.int .i64 c, .int .i64 c, .slice oV nV cV]) c c vs K) (hT : IsM w (.agg #[.int .i64 c, .int .i64 c, .slice oT nT cT]) c c ts K)
 (hr : r ≤ 8) (hc : c ≤ 8) (hβ : ∀ i j, i < r → j < c → (ent c ds i j).natAbs < 2 ^ β) (hL : L ≤ 60000000) (h1 : hB c β r ≤ 32 * L) (h2 : uB c β r ≤ 32 * L) (hLK : L ≤ K) (hK : K ≤ 200000000) :
 Calls Tryz.prog 91 #[.pointer (some ⟨p, 0, none⟩)] w fun e w' => e = .returned (.tuple #[]) ∧ ∃ (gD gV gT : Nat) (ds' vs' ts' : List Int), DgM w' p r c (.slice (some ⟨gD, 0, none⟩) (r * c) (r * c)) sU sS (.slice (some ⟨gV, 0, none⟩) (c * c) (c * c)) (.slice (some ⟨gT, 0, none⟩) (c * c) (c * c)) ∧
  Grid w' (.slice (some ⟨gD, 0, none⟩) (r * c) (r * c)) (r * c) ds' L ∧ Grid w' (.slice (some ⟨gV, 0, none⟩) (c * c) (c * c)) (c * c) vs' (K + K + 1 + c) ∧ Grid w' (.slice (some ⟨gT, 0, none⟩) (c * c) (c * c)) (c * c) ts' (K + K + 1 + c) ∧ (w.heap.size ≤ gD ∧ gD < gV ∧ gV < gT) ∧ ColsTo r c ds vs ts ds' vs' ts' ∧ Fr p w w' ∧ (∀ i j, i < r → j < c → (ent c ds' i j).natAbs < 2 ^ hB c β r) ∧ BitsTo c vs vs' (uB c β r) ∧ BitsTo c ts ts' (uB c β r) := by
 have H := Hid.mk (And.intro hp (And.intro hD (And.intro hV hT)))
 obtain ⟨x0, x1, x2, -⟩ := hp.cells
 have hpl := hp.lt
 clear hp hD hV hT
 go_enter Tryz.func91, Tryz.ntmps91
 go_wp2_with fail
 refine (flip_any _ r c ds L _ H.out.2.1).mono ?_
 rintro e w1 ⟨v1, fs, rfl, hM1, hfl, hb1⟩
 have hfb : ∀ i j, i < c → j < r → (ent r fs i j).natAbs < 2 ^ β := fun i j hi hj => by rw [hfl i j hi hj]; exact hβ j i hj hi
 have K1 := Hid.mk (And.intro hM1 (And.intro hfl (And.intro hb1 hfb)))
 have hw1 := hb1.size
 clear hM1 hfl hb1 hfb x0 x1 x2
 go_wp2_with fail
 refine (gech_any _ c r fs β L _ K1.out.1 hc hr K1.out.2.2.2 hL h1 h2).mono ?_
 rintro e w2 ⟨v, k, pc, hs, as1, bs, rfl, hIF, hst, hE, hEB, hb2, hrun⟩
 obtain ⟨sH, sA, sB, rfl, mH, mA, mB⟩ := hIF
 obtain ⟨oH, cH, rfl⟩ := mH.slice
 obtain ⟨oA, cA, rfl⟩ := mA.slice
 obtain ⟨oB, cB, rfl⟩ := mB.slice
 obtain ⟨NH, hNH⟩ : ∃ NH, NH = c * r := ⟨_, rfl⟩
 obtain ⟨NA, hNA⟩ : ∃ NA, NA = c * c := ⟨_, rfl⟩
 rw [← hNH] at mH ⊢
 rw [← hNA] at mA mB ⊢
 have HN := Hid.mk (And.intro hNH hNA)
 clear hNH hNA
 have hb22 := (Below.refl w2.heap.size w2).alloc (Nat.le_refl _) (.cells #[.int .i64 c, .int .i64 r, .slice oH NH cH, .int .i64 c, .int .i64 c, .slice oA NA cA, .int .i64 c, .int .i64 c, .slice oB NA cB, .int .i64 k] 82)
 have hb02 : Below w.heap.size w (w2.alloc (.cells #[.int .i64 c, .int .i64 r, .slice oH NH cH, .int .i64 c, .int .i64 c, .slice oA NA cA, .int .i64 c, .int .i64 c, .slice oB NA cB, .int .i64 k] 82)) := K1.out.2.2.1.trans ((hb2.trans (hb22.mono hb2.size)).mono hw1)
 have hR2 : RfM (w2.alloc (.cells #[.int .i64 c, .int .i64 r, .slice oH NH cH, .int .i64 c, .int .i64 c, .slice oA NA cA, .int .i64 c, .int .i64 c, .slice oB NA cB, .int .i64 k] 82)) w2.heap.size c r k (.slice oH NH cH) (.slice oA NA cA) (.slice oB NA cB) := heap_alloc_new w2 _
 have K2 := Hid.mk (And.intro (mH.below hb22) (And.intro (mA.below hb22) (And.intro (mB.below hb22) (And.intro hR2 hb02))))
 have KM := Hid.mk (And.intro hst (And.intro hE (And.intro hrun hEB)))
 have hw2 : w.heap.size ≤ w2.heap.size := by have := hb2.size; omega
 clear mH mA mB hst hE hrun hEB hb2 hb22 hb02 hR2
 go_wp2_with fail
 obtain ⟨X, hX⟩ : ∃ X, X = w2.alloc (.cells #[.int .i64 c, .int .i64 r, .slice oH NH cH, .int .i64 c, .int .i64 c, .slice oA NA cA, .int .i64 c, .int .i64 c, .slice oB NA cB, .int .i64 k] 82) := ⟨_, rfl⟩
 have hsX : X.heap.size = w2.heap.size + 1 := by rw [hX]; simp
 rw [← hX] at K2 ⊢
 clear hX
 refine (flip_any _ c c as1 L _ K2.out.2.1).mono ?_
 rintro e w3 ⟨v3, ra, rfl, hM3, hra, hb3⟩
 obtain ⟨-, -, s3, rfl, hg3⟩ := id hM3
 obtain ⟨o3, c3, rfl, -⟩ := hg3.shape
 obtain ⟨N3, hN3⟩ : ∃ N3, N3 = c * c := ⟨_, rfl⟩
 rw [← hN3] at hM3 ⊢
 have hb33 := (Below.refl w3.heap.size w3).alloc (Nat.le_refl _) (.cells #[.int .i64 c, .int .i64 c, .slice o3 N3 c3] 76)
 have hbX3 : Below X.heap.size X (w3.alloc (.cells #[.int .i64 c, .int .i64 c, .slice o3 N3 c3] 76)) := hb3.trans (hb33.mono hb3.size)
 have hT3 : Trio (w3.alloc (.cells #[.int .i64 c, .int .i64 c, .slice o3 N3 c3] 76)) w3.heap.size (.int .i64 c) (.int .i64 c) (.slice o3 N3 c3) := ⟨new_cell _ _ _ _ _ rfl rfl, new_cell _ _ _ _ _ rfl rfl, new_cell _ _ _ _ _ rfl rfl⟩
 have hw3 := hb3.size
 have K3 := Hid.mk (And.intro (hM3.below hb33) (And.intro hra (And.intro hbX3 hT3)))
 obtain ⟨y0, y1, y2, y3, y4, y5, y6, y7, y8⟩ := (K2.out.2.2.2.1.below hbX3 K2.out.2.2.2.1.lt).cells
 clear hM3 hg3 hb3 hb33 hbX3 hT3 hra hN3
 go_wp2_with fail
 obtain ⟨Y, hY⟩ : ∃ Y, Y = w3.alloc (.cells #[.int .i64 c, .int .i64 c, .slice o3 N3 c3] 76) := ⟨_, rfl⟩
 have hsY : Y.heap.size = w3.heap.size + 1 := by rw [hY]; simp
 rw [← hY] at K3 y0 y1 y2 y3 y4 y5 y6 y7 y8 ⊢
 clear hY
 refine (flip_any _ c c bs L _ (K2.out.2.2.1.below K3.out.2.2.1)).mono ?_
 rintro e w4 ⟨v4, tb, rfl, hM4, htb, hb4⟩
 obtain ⟨-, -, s4, rfl, hg4⟩ := id hM4
 obtain ⟨o4, c4, rfl, -⟩ := hg4.shape
 obtain ⟨N4, hN4⟩ : ∃ N4, N4 = c * c := ⟨_, rfl⟩
 rw [← hN4] at hM4 ⊢
 have hb44 := (Below.refl w4.heap.size w4).alloc (Nat.le_refl _) (.cells #[.int .i64 c, .int .i64 c, .slice o4 N4 c4] 76)
 have hbY4 : Below Y.heap.size Y (w4.alloc (.cells #[.int .i64 c, .int .i64 c, .slice o4 N4 c4] 76)) := hb4.trans (hb44.mono hb4.size)
 have hT4 : Trio (w4.alloc (.cells #[.int .i64 c, .int .i64 c, .slice o4 N4 c4] 76)) w4.heap.size (.int .i64 c) (.int .i64 c) (.slice o4 N4 c4) := ⟨new_cell _ _ _ _ _ rfl rfl, new_cell _ _ _ _ _ rfl rfl, new_cell _ _ _ _ _ rfl rfl⟩
 have hw4 := hb4.size
 have hbX4 := K3.out.2.2.1.trans (hbY4.mono K3.out.2.2.1.size)
 have K4 := Hid.mk (And.intro (hM4.below hb44) (And.intro htb (And.intro hbX4 (And.intro hT4 (And.intro (K3.out.2.2.2.later hbY4) (K3.out.1.below hbY4))))))
 clear y0 y1 y2 y3 y4 y5 y6 y7 y8
 obtain ⟨y0, y1, y2, y3, y4, y5, y6, y7, y8⟩ := (K2.out.2.2.2.1.below hbX4 K2.out.2.2.2.1.lt).cells
 clear hM4 hg4 hb4 hb44 hbY4 hbX4 hT4 htb hN4
 go_wp2_with fail
 obtain ⟨Z, hZ⟩ : ∃ Z, Z = w4.alloc (.cells #[.int .i64 c, .int .i64 c, .slice o4 N4 c4] 76) := ⟨_, rfl⟩
 have hsZ : Z.heap.size = w4.heap.size + 1 := by rw [hZ]; simp
 rw [← hZ] at K4 y0 y1 y2 y3 y4 y5 y6 y7 y8 ⊢
 clear hZ
 refine (flip_new _ c r hs L _ (K2.out.1.below K4.out.2.2.1)).mono ?_
 rintro e w5 ⟨gD, ds', rfl, hgD, hG5, hds, hb5⟩
 obtain ⟨ND, hND⟩ : ∃ ND, ND = r * c := ⟨_, rfl⟩
 rw [← hND] at hG5 ⊢
 have HND := Hid.mk hND
 clear hND
 have hw5 := hb5.size
 have hgl5 := hG5.ty.lt
 have hbX5 := K4.out.2.2.1.trans (hb5.mono K4.out.2.2.1.size)
 have hb05 : Below w.heap.size w w5 := K2.out.2.2.2.2.trans (hbX5.mono (by omega))
 have hp5 := H.out.1.below hb05 hpl
 have hf5 := hp5.put 0 (.int .i64 r) (.int .i64 c) (.slice (some ⟨gD, 0, none⟩) ND ND)
 obtain ⟨z0, z1, z2, -, -, -, -, -, -, -, -, -, -, -, -, zf⟩ := hp5.cells
 have hne4 : w4.heap.size ≠ p := by omega
 have hne3 : w3.heap.size ≠ p := by omega
 have hgp : gD ≠ p := by omega
 have K5 := Hid.mk (And.intro (show Grid (put3 w5 p 0 (.int .i64 r) (.int .i64 c) (.slice (some ⟨gD, 0, none⟩) ND ND)) (.slice (some ⟨gD, 0, none⟩) ND ND) ND ds' L from hG5.keep hf5.2) (And.intro hds (And.intro (hp5.putD (.slice (some ⟨gD, 0, none⟩) ND ND)) (And.intro ((K4.out.2.2.2.1.later hb5).grown hf5.1 hne4) (And.intro ((K4.out.2.2.2.2.1.later hb5).grown hf5.1 hne3) (And.intro ((K4.out.1.below hb5).fr hf5) (And.intro ((K4.out.2.2.2.2.2.below hb5).fr hf5) ((Fr.of_below hb05).trans hf5))))))))
 have hs5 := hf5.1.size
 clear hG5 hds hb5 hbX5 hb05 hp5 hf5 y0 y1 y2 y3 y4 y5 y6 y7 y8
 go_wp2_with fail
 obtain ⟨A, hA⟩ : ∃ A, A = put3 w5 p 0 (.int .i64 r) (.int .i64 c) (.slice (some ⟨gD, 0, none⟩) ND ND) := ⟨_, rfl⟩
 rw [← hA] at K5 hs5
 simp only [put3, Nat.zero_add] at hA
 rw [← hA]
 clear hA z0 z1 z2 zf
 obtain ⟨-, -, -, -, -, -, -, -, -, z9, z10, z11, z12, z13, z14, zf⟩ := K5.out.2.2.1.cells
 obtain ⟨u0, u1, u2⟩ := K5.out.2.2.2.2.1
 have hplA := K5.out.2.2.1.lt
 go_region_with (go_at_call 49; refine (gtimes_new _ _ c c c vs ra K _ ((H.out.2.2.1.fr K5.out.2.2.2.2.2.2.2).below (Below.refl _ _).drew) ((K5.out.2.2.2.2.2.2.1.below (Below.refl _ _).drew).mono hLK) hK).mono ?_; rintro e w6 ⟨gV, vs2, rfl, hgV, hG6, hP6, hb6⟩; have hbA6 : Below A.heap.size A w6 := ((Below.refl _ _).drew).trans hb6; have hz6 := (K5.out.2.2.1.below hbA6 hplA).cells; clear hb6)
 all_goals
  obtain ⟨NV, hNV⟩ : ∃ NV, NV = c * c := ⟨_, rfl⟩
  rw [← hNV] at hG6 ⊢
  have HNV := Hid.mk hNV
  clear hNV
  have hp6 := K5.out.2.2.1.below hbA6 hplA
  have hf6 := hp6.put 9 (.int .i64 c) (.int .i64 c) (.slice (some ⟨gV, 0, none⟩) NV NV)
  have hF6 : Fr p A (put3 w6 p 9 (.int .i64 c) (.int .i64 c) (.slice (some ⟨gV, 0, none⟩) NV NV)) := (Fr.of_below hbA6).trans hf6
  have hgV' : w5.heap.size ≤ gV := by have hq : A.heap.size ≤ gV := hgV; omega
  have hgl6 := hG6.ty.lt
  have hs6 := hf6.1.size
  have hAs := hbA6.size
  have K6 := Hid.mk (And.intro (show Grid (put3 w6 p 9 (.int .i64 c) (.int .i64 c) (.slice (some ⟨gV, 0, none⟩) NV NV)) (.slice (some ⟨gV, 0, none⟩) NV NV) NV vs2 (K + K + 1 + c) from hG6.keep hf6.2) (And.intro hP6 (And.intro (hp6.putV (.slice (some ⟨gV, 0, none⟩) NV NV)) (And.intro ((K5.out.2.2.2.1.later hbA6).grown hf6.1 hne4) hF6))))
  clear hG6 hP6 hbA6 hp6 hf6 hF6 hz6 hgV z9 z10 z11 z12 z13 z14 zf u0 u1 u2
  go_wp2_with fail
  obtain ⟨E, hE⟩ : ∃ E, E = put3 w6 p 9 (.int .i64 c) (.int .i64 c) (.slice (some ⟨gV, 0, none⟩) NV NV) := ⟨_, rfl⟩
  rw [← hE] at K6 hs6
  simp only [put3, Nat.reduceAdd] at hE
  rw [← hE]
  clear hE
  obtain ⟨-, -, -, -, -, -, -, -, -, -, -, -, z12, z13, z14, zf⟩ := K6.out.2.2.1.cells
  obtain ⟨u0, u1, u2⟩ := K6.out.2.2.2.1
  have hplE := K6.out.2.2.1.lt
  go_region_with (go_at_call 49; refine (gtimes_new _ _ c c c tb ts K _ (((K5.out.2.2.2.2.2.1.fr K6.out.2.2.2.2).below (Below.refl _ _).drew).mono hLK) (((H.out.2.2.2.fr K5.out.2.2.2.2.2.2.2).fr K6.out.2.2.2.2).below (Below.refl _ _).drew) hK).mono ?_; rintro e w7 ⟨gT, ts2, rfl, hgT, hG7, hP7, hb7⟩; have hbE7 : Below E.heap.size E w7 := ((Below.refl _ _).drew).trans hb7; have hz7 := (K6.out.2.2.1.below hbE7 hplE).cells; clear hb7)
  all_goals
   rw [← HNV.out] at hG7 ⊢
   have hp7 := K6.out.2.2.1.below hbE7 hplE
   have hf7 := hp7.put 12 (.int .i64 c) (.int .i64 c) (.slice (some ⟨gT, 0, none⟩) NV NV)
   have hF7 : Fr p E (put3 w7 p 12 (.int .i64 c) (.int .i64 c) (.slice (some ⟨gT, 0, none⟩) NV NV)) := (Fr.of_below hbE7).trans hf7
   have hgT' : w6.heap.size ≤ gT := by have hq : E.heap.size ≤ gT := hgT; omega
   have K7 := Hid.mk (And.intro (show Grid (put3 w7 p 12 (.int .i64 c) (.int .i64 c) (.slice (some ⟨gT, 0, none⟩) NV NV)) (.slice (some ⟨gT, 0, none⟩) NV NV) NV ts2 (K + K + 1 + c) from hG7.keep hf7.2) (And.intro hP7 (And.intro (hp7.putT (.slice (some ⟨gT, 0, none⟩) NV NV)) hF7)))
   clear hG7 hP7 hbE7 hp7 hf7 hF7 hz7 hgT z12 z13 z14 zf u0 u1 u2
   go_wp2_with fail
   go_end0
   rw [← HND.out, ← HNV.out]
   refine ⟨rfl, gD, gV, gT, ds', vs2, ts2, K7.out.2.2.1, ?_, ?_, K7.out.1, ⟨?_, ?_, ?_⟩, ?_, (K5.out.2.2.2.2.2.2.2.trans K6.out.2.2.2.2).trans K7.out.2.2.2, fun i j hi hj => ?_, fun x hx i j hi hj => ?_, fun x hx i j hi hj => ?_⟩
   ·exact (K5.out.1.keep K6.out.2.2.2.2.2).keep K7.out.2.2.2.2
   ·exact K6.out.1.keep K7.out.2.2.2.2
   ·omega
   ·omega
   ·omega
   ·refine ⟨k, fs, hs, as1, bs, ra, tb, ⟨K1.out.1.lng, K1.out.2.1⟩, KM.out.2.2.1, K2.out.1.lng, K2.out.2.1.lng, K2.out.2.2.1.lng, ⟨?_, K5.out.2.1⟩, ⟨K3.out.1.lng, K3.out.2.1⟩, ⟨K4.out.1.lng, K4.out.2.1⟩, ?_, ?_, K6.out.2.1, K7.out.2.1, ⟨pc, KM.out.1⟩, KM.out.2.1⟩
    ·rw [← HND.out]; exact K5.out.1.1
    ·rw [← HNV.out]; exact K6.out.1.1
    ·rw [← HNV.out]; exact K7.out.1.1
   ·rw [K5.out.2.1 i j hi hj]
    exact pow_up (KM.out.2.2.2.h j i hj hi) (hB_mono c β KM.out.1.te)
   ·rw [show ent c vs2 i j = dot (ent c vs) (ent c ra) i j c from K6.out.2.1 i j hi hj, show x + uB c β r + 4 = uB c β r + x + 4 by omega]
    exact dot_bits c hc (fun l hl => hx i l hi hl) (fun l hl => by rw [K3.out.2.1 l j hl hj]; exact pow_up (KM.out.2.2.2.u j l hj hl) (uB_mono c β KM.out.1.te))
   ·rw [show ent c ts2 i j = dot (ent c tb) (ent c ts) i j c from K7.out.2.1 i j hi hj]
    exact dot_bits c hc (fun l hl => by rw [K4.out.2.1 i l hi hl]; exact pow_up (KM.out.2.2.2.w l i hl hi) (uB_mono c β KM.out.1.te)) (fun l hl => hx l j hl hj)
open Go.RowKit
def MixTo (r c a : Nat) (ds vs ts ds' vs' ts' : List Int) : Prop := ds'.length = r * c ∧ vs'.length = c * c ∧ ts'.length = c * c ∧ (∀ i j, i < r → j < c → ent c ds' i j = if j = a then ent c ds i a + ent c ds i (a + 1) else ent c ds i j) ∧ (∀ i j, i < c → j < c → ent c vs' i j = if j = a then ent c vs i a + ent c vs i (a + 1) else ent c vs i j) ∧
 ∀ i j, i < c → j < c → ent c ts' i j = if i = a + 1 then ent c ts (a + 1) j - ent c ts a j else ent c ts i j
def OddAt (r c a : Nat) (ds : List Int) : Prop := a + 1 < r ∧ a + 1 < c ∧ ¬ ent c ds a a ∣ ent c ds (a + 1) (a + 1) ∧ ∀ i, i < a → ent c ds i i ∣ ent c ds (i + 1) (i + 1)
def Others (w w' : World) (g1 g2 g3 : Nat) : Prop := ∀ sl n zs L, Grid w sl n zs L → (∀ a m c, sl = .slice (some a) m c → a.block ≠ g1 ∧ a.block ≠ g2 ∧ a.block ≠ g3) → Grid w' sl n zs L
theorem Grid.lt {w : World} {a : Addr} {m n cap L : Nat} {zs : List Int} (h : Grid w (.slice (some a) m cap) n zs L) : a.block < w.heap.size := by
 obtain ⟨h0, cs, h1, h2⟩ := h
 rcases h1.2 with ⟨h3, _⟩ | ⟨g', cap', cur, hv, hg, hh, r⟩
 ·simp at h3
 ·simp only [Value.slice.injEq, Option.some.injEq] at hv
  rw [hv.1]
  exact (Array.getElem?_eq_some_iff.1 hh).1
def MixOut (w w' : World) (p r c gD gV gT : Nat) (sU sS : Value) (ds vs ts : List Int) (L K : Nat) (e : Ending) : Prop :=
 (e = .returned (.bool false) ∧ (∀ i, i + 1 < r → i + 1 < c → ent c ds i i ∣ ent c ds (i + 1) (i + 1)) ∧ Below w.heap.size w w') ∨
 (e = .returned (.bool true) ∧ ∃ a ds' vs' ts', OddAt r c a ds ∧ MixTo r c a ds vs ts ds' vs' ts' ∧ DgM w' p r c (.slice (some ⟨gD, 0, none⟩) (r * c) (r * c)) sU sS (.slice (some ⟨gV, 0, none⟩) (c * c) (c * c)) (.slice (some ⟨gT, 0, none⟩) (c * c) (c * c)) ∧
   Grid w' (.slice (some ⟨gD, 0, none⟩) (r * c) (r * c)) (r * c) ds' (L + 3) ∧ Grid w' (.slice (some ⟨gV, 0, none⟩) (c * c) (c * c)) (c * c) vs' (K + 3) ∧ Grid w' (.slice (some ⟨gT, 0, none⟩) (c * c) (c * c)) (c * c) ts' (K + 3) ∧ Chg3 w w' gD gV gT ∧ Others w w' gD gV gT)
theorem DgM.triD {w : World} {p r c : Nat} {sD sU sS sV sT : Value} (h : DgM w p r c sD sU sS sV sT) : Tri w p 0 (.int .i64 r) (.int .i64 c) sD := ⟨h.cells.1, h.cells.2.1, h.cells.2.2.1⟩
theorem DgM.triV {w : World} {p r c : Nat} {sD sU sS sV sT : Value} (h : DgM w p r c sD sU sS sV sT) : Tri w p 9 (.int .i64 c) (.int .i64 c) sV := by
 obtain ⟨-, -, -, -, -, -, -, -, -, a, b, d, -⟩ := h.cells
 exact ⟨a, b, d⟩
theorem DgM.triT {w : World} {p r c : Nat} {sD sU sS sV sT : Value} (h : DgM w p r c sD sU sS sV sT) : Tri w p 12 (.int .i64 c) (.int .i64 c) sT := by
 obtain ⟨-, -, -, -, -, -, -, -, -, -, -, -, a, b, d, -⟩ := h.cells
 exact ⟨a, b, d⟩
theorem DgM.grown {w w' : World} {p r c g : Nat} {sD sU sS sV sT : Value} (h : DgM w p r c sD sU sS sV sT) (hg : w.grownBy w' (some g)) (hn : p ≠ g) : DgM w' p r c sD sU sS sV sT := (hg.block p h.lt (by simpa using hn)).trans h
theorem Grid.else {w w' : World} {g g' n L : Nat} {zs : List Int} (h : Grid w (.slice (some ⟨g, 0, none⟩) n n) n zs L) (hg : w.grownBy w' (some g')) (hk : KU w w') (hne : g ≠ g') : Grid w' (.slice (some ⟨g, 0, none⟩) n n) n zs L := h.besides hg hk hne
set_option maxRecDepth 100000 in
set_option maxHeartbeats 4000000 in
theorem mix_any (p r c gD gV gT : Nat) (sU sS : Value) (ds vs ts : List Int) (L K : Nat) (w : World) (hp : DgM w p r c (.slice (some ⟨gD, 0, none⟩) (r * c) (r * c)) sU sS (.slice (some ⟨gV, 0, none⟩) (c * c) (c * c)) (.slice (some ⟨gT, 0, none⟩) (c * c) (c * c)))
 (hD : Grid w (.slice (some ⟨gD, 0, none⟩) (r * c) (r * c)) (r * c) ds L) (hV : Grid w (.slice (some ⟨gV, 0, none⟩) (c * c) (c * c)) (c * c) vs K) (hT : Grid w (.slice (some ⟨gT, 0, none⟩) (c * c) (c * c)) (c * c) ts K)
 (hr : r ≤ 99) (hc : c ≤ 99) (d1 : p ≠ gD) (d2 : p ≠ gV) (d3 : p ≠ gT) (d4 : gD ≠ gV) (d5 : gD ≠ gT) (d6 : gV ≠ gT) (hL : L ≤ 200000000) (hK : K ≤ 200000000) :
 Calls Tryz.prog 93 #[.pointer (some ⟨p, 0, none⟩)] w fun e w' => MixOut w w' p r c gD gV gT sU sS ds vs ts L K e := by
 have H := Hid.mk (And.intro hp (And.intro hD (And.intro hV hT)))
 obtain ⟨x0, x1, x2, -⟩ := hp.cells
 have hpl := hp.lt
 clear hp hD hV hT
 obtain ⟨ND, hND⟩ : ∃ ND, ND = r * c := ⟨_, rfl⟩
 have HND := Hid.mk hND
 rw [← hND] at x2
 clear hND
 go_enter Tryz.func93, Tryz.ntmps93
 go_wp2_with fail
 refine (oddPlace_any _ r c ds L _ ⟨hr, hc, _, rfl, by rw [HND.out]; exact H.out.2.1⟩ (by omega)).mono ?_
 rintro e w1 ⟨⟨z, rfl, hz⟩, hb1⟩
 have K1 := Hid.mk (And.intro hz hb1)
 have hw1 := hb1.size
 clear hz hb1 x0 x1 x2
 rcases K1.out.1 with ⟨rfl, hall⟩ | ⟨a, rfl, ha1, ha2, hodd, hbef⟩
 ·have HA := Hid.mk hall
  clear hall
  go_wp2_with fail
  go_ret
  exact .inl ⟨rfl, HA.out, K1.out.2⟩
 ·have HA := Hid.mk (show OddAt r c a ds from ⟨ha1, ha2, hodd, hbef⟩)
  clear hodd hbef
  go_wp2_with fail
  refine (fromOne_any _).mono ?_
  rintro e w2 ⟨v2, rfl, hx2, hb2⟩
  obtain ⟨nb2, so2, n2, cp2, rfl⟩ := hx2.shape
  have hb22 := (Below.refl w2.heap.size w2).alloc (Nat.le_refl _) (.cells #[.bool nb2, .slice so2 n2 cp2] 94)
  have hb12 : Below w1.heap.size w1 (w2.alloc (.cells #[.bool nb2, .slice so2 n2 cp2] 94)) := hb2.trans (hb22.mono hb2.size)
  have hU2 := Duo.new w2 (.bool nb2) (.slice so2 n2 cp2) rfl
  have K2 := Hid.mk (And.intro (hx2.below hb22) (And.intro (K1.out.2.trans (hb12.mono hw1)) hU2))
  have hw2 : w.heap.size ≤ w2.heap.size := by have := hb2.size; omega
  clear hx2 hb2 hb22 hb12 hU2
  go_wp2_with fail
  refine (neg_any _ _ 2 _ K2.out.1).mono ?_
  rintro e w3 ⟨v3, rfl, hx3, hb3⟩
  obtain ⟨nb3, so3, n3, cp3, rfl⟩ := hx3.shape
  have hb33 := (Below.refl w3.heap.size w3).alloc (Nat.le_refl _) (.cells #[.bool nb3, .slice so3 n3 cp3] 94)
  have hs3 : w2.heap.size + 1 ≤ w3.heap.size := by have := hb3.size; simpa using this
  have hb23 := hb3.trans (hb33.mono hb3.size)
  have hb03 : Below w.heap.size w (w3.alloc (.cells #[.bool nb3, .slice so3 n3 cp3] 94)) := K2.out.2.1.trans (hb23.mono (by simp; omega))
  have hU3 := Duo.new w3 (.bool nb3) (.slice so3 n3 cp3) rfl
  have hU2 := K2.out.2.2.below hb23 (by simp)
  have hp3 := H.out.1.below hb03 hpl
  have K3 := Hid.mk (And.intro (hx3.below hb33) (And.intro (K2.out.1.below hb23) (And.intro hU3 (And.intro hU2 (And.intro hp3 hb03)))))
  obtain ⟨u0, u1, -, -⟩ := hU3.cells
  obtain ⟨t0, t1, -, -⟩ := hU2.cells
  clear hx3 hb3 hb33 hb23 hb03 hU3 hU2 hp3
  go_wp2_with fail
  obtain ⟨X, hX⟩ : ∃ X, X = w3.alloc (.cells #[.bool nb3, .slice so3 n3 cp3] 94) := ⟨_, rfl⟩
  have hsX : X.heap.size = w3.heap.size + 1 := by rw [hX]; simp
  rw [← hX] at K3 u0 u1 t0 t1 ⊢
  clear hX
  obtain ⟨a1, ha⟩ : ∃ a1, a1 = a + 1 := ⟨_, rfl⟩
  have hsum : (a : Int) + 1 = (a1 : Int) := by omega
  have HA1 := Hid.mk ha
  have ha1c : a1 < c := by omega
  have hac : a < c := by omega
  have haa : a ≠ a1 := by omega
  have hi1 : -9223372036854775808 ≤ (a1 : Int) ∧ (a1 : Int) ≤ 9223372036854775807 := by omega
  clear ha ha1 ha2
  have hplX := K3.out.2.2.2.2.1.lt
  go_still_tail 7, (by kernel_rfl)
  go_wp2_with fail
  have hXd := (Below.refl X.heap.size X).drew
  have hmD : MatO X.drew p 0 gD r c ds L := ⟨hr, hc, (K3.out.2.2.2.2.1.triD).later hXd, ((H.out.2.1.below K3.out.2.2.2.2.2)).below hXd⟩
  refine (takeCol_any p 0 gD r c a a1 ds L 2 _ (-1) _ hmD (K3.out.1.below hXd) hL (by omega) d1 hac ha1c haa).mono ?_
  rintro e w4 ⟨rfl, ⟨ds', hM4, hds⟩, hg4⟩
  have hgX4 : X.grownBy w4 (some gD) := grown_trans (grown_below (World.grownBy.refl X (some gD)) hXd) hg4
  have hk4 : KU X w4 := KU.of_grown hgX4 ((H.out.2.1.below K3.out.2.2.2.2.2).ty) (by decide)
  have hlD : gD < w.heap.size := H.out.2.1.ty.lt
  have hlV : gV < w.heap.size := H.out.2.2.1.ty.lt
  have hlT : gT < w.heap.size := H.out.2.2.2.ty.lt
  have hXs := K3.out.2.2.2.2.2.size
  have hU3 := (hgX4.block w3.heap.size (by omega) (by simp; omega)).trans K3.out.2.2.1
  have hU2 := (hgX4.block w2.heap.size (by omega) (by simp; omega)).trans K3.out.2.2.2.1
  have K4 := Hid.mk (And.intro hM4 (And.intro hds (And.intro ((H.out.2.2.1.below K3.out.2.2.2.2.2).else hgX4 hk4 (Ne.symm d4)) (And.intro ((H.out.2.2.2.below K3.out.2.2.2.2.2).else hgX4 hk4 (Ne.symm d5)) (And.intro (K3.out.1.keep hk4) (And.intro (K3.out.2.1.keep hk4) (And.intro (show Duo w4 w3.heap.size _ _ from hU3) (And.intro (show Duo w4 w2.heap.size _ _ from hU2) (And.intro (K3.out.2.2.2.2.1.grown hgX4 d1) hgX4)))))))))
  have hs4 := hgX4.size
  clear hXd hmD hM4 hds hg4 hgX4 hk4 hU3 hU2 u0 u1 t0 t1
  obtain ⟨u0, u1, -, -⟩ := K4.out.2.2.2.2.2.2.1.cells
  obtain ⟨t0, t1, -, -⟩ := K4.out.2.2.2.2.2.2.2.1.cells
  go_wp2_with fail
  go_still_tail 7, (by kernel_rfl)
  go_wp2_with fail
  have hXd := (Below.refl w4.heap.size w4).drew
  have hmV : MatO w4.drew p 9 gV c c vs K := ⟨hc, hc, (K4.out.2.2.2.2.2.2.2.2.1.triV).later hXd, K4.out.2.2.1.below hXd⟩
  refine (takeCol_any p 9 gV c c a a1 vs K 2 _ (-1) _ hmV (K4.out.2.2.2.2.1.below hXd) hK (by omega) d2 hac ha1c haa).mono ?_
  rintro e w5 ⟨rfl, ⟨vs', hM5, hvs⟩, hg5⟩
  have hgX5 : w4.grownBy w5 (some gV) := grown_trans (grown_below (World.grownBy.refl w4 (some gV)) hXd) hg5
  have hk5 : KU w4 w5 := KU.of_grown hgX5 K4.out.2.2.1.ty (by decide)
  have hU2 := (hgX5.block w2.heap.size (by omega) (by simp; omega)).trans K4.out.2.2.2.2.2.2.2.1
  have K5 := Hid.mk (And.intro hM5 (And.intro hvs (And.intro (K4.out.1.grid.else hgX5 hk5 d4) (And.intro (K4.out.2.2.2.1.else hgX5 hk5 (Ne.symm d6)) (And.intro (K4.out.2.2.2.2.2.1.keep hk5) (And.intro (show Duo w5 w2.heap.size _ _ from hU2) (And.intro (K4.out.2.2.2.2.2.2.2.2.1.grown hgX5 d2) hgX5)))))))
  have hs5 := hgX5.size
  clear hXd hmV hM5 hvs hg5 hgX5 hk5 hU2 u0 u1 t0 t1
  obtain ⟨t0, t1, -, -⟩ := K5.out.2.2.2.2.2.1.cells
  go_wp2_with fail
  go_still_tail 7, (by kernel_rfl)
  go_wp2_with fail
  have hXd := (Below.refl w5.heap.size w5).drew
  have hmT : MatO w5.drew p 12 gT c c ts K := ⟨hc, hc, (K5.out.2.2.2.2.2.2.1.triT).later hXd, K5.out.2.2.2.1.below hXd⟩
  refine (takeRow_any p 12 gT c c a1 a ts K 2 _ 1 _ hmT (K5.out.2.2.2.2.1.below hXd) hK (by omega) d3 ha1c hac (Ne.symm haa)).mono ?_
  rintro e w6 ⟨rfl, ⟨ts', hM6, hts⟩, hg6⟩
  have hgX6 : w5.grownBy w6 (some gT) := grown_trans (grown_below (World.grownBy.refl w5 (some gT)) hXd) hg6
  have hk6 : KU w5 w6 := KU.of_grown hgX6 K5.out.2.2.2.1.ty (by decide)
  have K6 := Hid.mk (And.intro hM6 (And.intro hts (And.intro (K5.out.2.2.1.else hgX6 hk6 d5) (And.intro (K5.out.1.grid.else hgX6 hk6 d6) (And.intro (K5.out.2.2.2.2.2.2.1.grown hgX6 d3) hgX6)))))
  clear hXd hmT hM6 hts hg6 hgX6 hk6 t0 t1
  go_wp2_with fail
  go_ret
  refine .inr ⟨rfl, a, ds', vs', ts', HA.out, ⟨K4.out.1.len, K5.out.1.len, K6.out.1.len, fun i j hi hj => ?_, fun i j hi hj => ?_, fun i j hi hj => ?_⟩, K6.out.2.2.2.2.1, K6.out.2.2.1, K6.out.2.2.2.1, K6.out.1.grid, ?_⟩
  ·rw [K4.out.2.1 i j hi hj, HA1.out]
   split
   ·omega
   ·rfl
  ·rw [K5.out.2.1 i j hi hj, HA1.out]
   split
   ·omega
   ·rfl
  ·rw [K6.out.2.1 i j hi hj, HA1.out]
   split
   ·omega
   ·rfl
  ·refine ⟨?_, fun sl n zs L hG hne => ?_⟩
   rotate_left
   ·have k4 : KU X w4 := KU.of_grown K4.out.2.2.2.2.2.2.2.2.2 ((H.out.2.1.below K3.out.2.2.2.2.2).ty) (by decide)
    have k5 : KU w4 w5 := KU.of_grown K5.out.2.2.2.2.2.2.2 K4.out.2.2.1.ty (by decide)
    have k6 : KU w5 _ := KU.of_grown K6.out.2.2.2.2.2 K5.out.2.2.2.1.ty (by decide)
    exact (((hG.below K3.out.2.2.2.2.2).grown K4.out.2.2.2.2.2.2.2.2.2 (fun a m c e => (hne a m c e).1) k4).grown K5.out.2.2.2.2.2.2.2 (fun a m c e => (hne a m c e).2.1) k5).grown K6.out.2.2.2.2.2 (fun a m c e => (hne a m c e).2.2) k6
   exact (((Chg3.of_below gD gV gT K3.out.2.2.2.2.2).trans (Chg3.of_grown K4.out.2.2.2.2.2.2.2.2.2 (.inl rfl))).trans (Chg3.of_grown K5.out.2.2.2.2.2.2.2 (.inr (.inl rfl)))).trans (Chg3.of_grown K6.out.2.2.2.2.2 (.inr (.inr rfl)))
end Go.Proofs.YtfjbijpagaipnaaGreatDoor
namespace Go.Proofs.YtfjbijpagaipnaaGreatDoor.R
open Go.RowKit
theorem sumF_le (f : Nat → Int) (M : Nat) : ∀ k, (∀ i, i < k → (f i).natAbs ≤ M) → (sumF k f).natAbs ≤ k * M := by
 intro k
 induction k with
 | zero => intro _; simp [sumF]
 | succ k ih =>
   intro h
   rw [sumF, Nat.succ_mul]
   have h1 := ih (fun i hi => h i (by omega))
   have h2 := h k (by omega)
   omega
def fct : Nat → Nat
 | 0 => 1
 | n + 1 => (n + 1) * fct n
theorem mv_bound (B : Nat) : ∀ (vs : List (Nat → Int)) (C : List Nat), C.length = vs.length → (∀ v ∈ vs, ∀ x ∈ C, (v x).natAbs ≤ B) → (mv vs C).natAbs ≤ fct vs.length * B ^ vs.length := by
 intro vs
 induction vs with
 | nil => intro C _ _; simp [mv, fct]
 | cons v vs ih =>
   intro C hC h
   rw [mv]
   have hl : C.length = vs.length + 1 := by simpa using hC
   have key := sumF_le (fun k => signed k (v (C.getD k 0) * mv vs (C.eraseIdx k))) (B * (fct vs.length * B ^ vs.length)) C.length (fun k hk => ?_)
   ·refine Nat.le_trans key ?_
    rw [hl, List.length_cons, fct, Nat.pow_succ]
    refine Nat.le_of_eq ?_
    rw [Nat.mul_assoc, Nat.mul_comm B, Nat.mul_assoc]
   ·have hx : C.getD k 0 ∈ C := by
     rw [List.getD, List.getElem?_eq_getElem hk]
     exact List.getElem_mem _
    have h1 := h v (by simp) _ hx
    have h2 := ih (C.eraseIdx k) (by rw [List.length_eraseIdx_of_lt hk]; omega) (fun u hu x hx => h u (by simp [hu]) x (List.mem_of_mem_eraseIdx hx))
    have h3 : (signed k (v (C.getD k 0) * mv vs (C.eraseIdx k))).natAbs = (v (C.getD k 0)).natAbs * (mv vs (C.eraseIdx k)).natAbs := by
     unfold signed
     split
     ·rw [Int.natAbs_neg, Int.natAbs_mul]
     ·rw [Int.natAbs_mul]
    rw [h3]
    exact Nat.mul_le_mul h1 h2
theorem div_bound {A : Nat → Nat → Int} {r c k B : Nat} (hk : k ≤ 4) (hA : ∀ i j, i < r → j < c → (A i j).natAbs ≤ B) (h0 : divF A r c k ≠ 0) : divF A r c k ≤ fct k * B ^ k := by
 have h1 : ¬ AllV A r c k := fun h => h0 ((all_div A r c k hk).2 h)
 have h2 : ∃ R : List Nat, R.length = k ∧ (∀ x ∈ R, x < r) ∧ ∃ C ∈ chosenL k c, mv (R.map A) C ≠ 0 := by
  refine Classical.byContradiction fun hn => h1 fun R hR hx C hC => Classical.byContradiction fun hm => hn ⟨R, hR, hx, C, hC, hm⟩
 obtain ⟨R, hR, hx, C, hC, hm⟩ := h2
 obtain ⟨hCl, hCx⟩ := chosenL_mem k c C hC
 have h3 := (div_dvd (divF A r c k) A r c k hk).1 (Nat.dvd_refl _) C hC R (by rw [hR, hCl]) hx
 have h4 : divF A r c k ∣ (mv (R.map A) C).natAbs := by
  have := Int.natAbs_dvd_natAbs.2 h3
  simpa using this
 have h5 := Nat.le_of_dvd (by omega) h4
 have h6 := mv_bound B (R.map A) C (by rw [List.length_map, hCl, hR]) (fun v hv x hx' => by
  obtain ⟨i, hi, rfl⟩ := List.mem_map.1 hv
  exact hA i x (hx i hi) (hCx x hx'))
 rw [List.length_map, hR] at h6
 omega
theorem fct4 {k : Nat} (hk : k ≤ 4) {B : Nat} (hB : B ≤ 2 ^ 48) : fct k * B ^ k < 2 ^ 197 := by
 have h1 : B ^ k ≤ (2 ^ 48) ^ k := Nat.pow_le_pow_left hB k
 have h2 : fct k * (2 ^ 48) ^ k < 2 ^ 197 := by
  obtain rfl | rfl | rfl | rfl | rfl : k = 0 ∨ k = 1 ∨ k = 2 ∨ k = 3 ∨ k = 4 := by omega
  all_goals decide
 exact Nat.lt_of_le_of_lt (Nat.mul_le_mul_left _ h1) h2
theorem DInv.congr {A D U S V T D' U' S' V' T' : Nat → Nat → Int} {r c : Nat} (h : DInv A D U S V T r c) (hD : ∀ i j, i < r → j < c → D' i j = D i j) (hU : ∀ i j, i < r → j < r → U' i j = U i j) (hS : ∀ i j, i < r → j < r → S' i j = S i j) (hV : ∀ i j, i < c → j < c → V' i j = V i j) (hT : ∀ i j, i < c → j < c → T' i j = T i j) : DInv A D' U' S' V' T' r c := by
 refine ⟨fun i j hi hj => ?_, fun i j hi hj => ?_, fun i j hi hj => ?_⟩
 ·rw [hD i j hi hj, ← h.d i j hi hj]
  exact mm_congr (fun k _ => mm_congr (fun l hl => hU i l hi hl) (fun _ _ => rfl)) (fun k hk => hV k j hk hj)
 ·rw [← h.us i j hi hj]
  exact mm_congr (fun k hk => hU i k hi hk) (fun k hk => hS k j hk hj)
 ·rw [← h.vt i j hi hj]
  exact mm_congr (fun k hk => hV i k hi hk) (fun k hk => hT k j hk hj)
theorem LowT.congr {r c k : Nat} {D D' : Nat → Nat → Int} (h : LowT r c k D) (hD : ∀ i j, i < r → j < c → D' i j = D i j) : LowT r c k D' := by
 have h1 := h.kr
 have h2 := h.kc
 exact ⟨h.kr, h.kc, fun i j hi hj hij => by rw [hD i j hi hj]; exact h.up i j hi hj hij, fun i j hi hj hk => by rw [hD i j hi hj]; exact h.out i j hi hj hk, fun i hi => by rw [hD i i (by omega) (by omega)]; exact h.pos i hi⟩
theorem pr_congr {D D' : Nat → Nat → Int} : ∀ n o, (∀ i, o ≤ i → i < o + n → D' i i = D i i) → pr D' o n = pr D o n := by
 intro n
 induction n with
 | zero => intro o _; rfl
 | succ n ih =>
   intro o h
   rw [pr, pr, h o (by omega) (by omega), ih (o + 1) (fun i a b => h i (by omega) (by omega))]
end Go.Proofs.YtfjbijpagaipnaaGreatDoor.R
namespace Go.Proofs.YtfjbijpagaipnaaGreatDoor
open Go.RowKit R
structure D5 where
 d : List Int
 u : List Int
 s : List Int
 v : List Int
 t : List Int
def DiagP (r c : Nat) (ds : List Int) : Prop := ∀ i j, i < r → j < c → i ≠ j → ent c ds i j = 0
def AllDiv (r c : Nat) (ds : List Int) : Prop := ∀ i, i + 1 < r → i + 1 < c → ent c ds i i ∣ ent c ds (i + 1) (i + 1)
def D5.rnd (r c : Nat) (x y : D5) : Prop := ∃ d1, RowsTo r c x.d x.u x.s d1 y.u y.s ∧ ColsTo r c d1 x.v x.t y.d y.v y.t
def D5.mixd (r c : Nat) (x y : D5) : Prop := ∃ a, OddAt r c a x.d ∧ MixTo r c a x.d x.v x.t y.d y.v y.t ∧ y.u = x.u ∧ y.s = x.s
def D5.runN (r c : Nat) : Nat → D5 → D5 → Prop
  | 0, _, _ => False
  | n + 1, x, z => ∃ y, D5.rnd r c x y ∧ ((DiagP r c y.d ∧ AllDiv r c y.d ∧ y = z) ∨ (¬ DiagP r c y.d ∧ D5.runN r c n y z) ∨ (DiagP r c y.d ∧ ∃ m, D5.mixd r c y m ∧ D5.runN r c n m z))
def D5.run (r c : Nat) (x y : D5) : Prop := ∃ n, D5.runN r c n x y
theorem D5.run.stop {r c : Nat} {x y : D5} (a : D5.rnd r c x y) (b : DiagP r c y.d) (d : AllDiv r c y.d) : D5.run r c x y := ⟨1, y, a, .inl ⟨b, d, rfl⟩⟩
theorem D5.run.more {r c : Nat} {x y z : D5} (a : D5.rnd r c x y) (n : ¬ DiagP r c y.d) (g : D5.run r c y z) : D5.run r c x z := g.elim fun k g => ⟨k + 1, y, a, .inr (.inl ⟨n, g⟩)⟩
theorem D5.run.mix {r c : Nat} {x y m z : D5} (a : D5.rnd r c x y) (b : DiagP r c y.d) (h : D5.mixd r c y m) (g : D5.run r c m z) : D5.run r c x z := g.elim fun k g => ⟨k + 1, y, a, .inr (.inr ⟨b, m, h, g⟩)⟩
end Go.Proofs.YtfjbijpagaipnaaGreatDoor
