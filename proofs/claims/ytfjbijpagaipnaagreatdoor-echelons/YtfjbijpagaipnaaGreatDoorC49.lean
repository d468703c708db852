import Derived.Test.YtfjbijpagaipnaaGreatDoorC32
import Derived.Test.YtfjbijpagaipnaaGreatDoorC48
import Derived.Test.YtfjbijpagaipnaaGreatDoorC31
/- matrices.Store: Echelon. -/
namespace Go.Proofs.YtfjbijpagaipnaaGreatDoor
open Go.RowKit

/-- The row form of a matrix, with what shows it. -/
structure EchIs (r c : Nat) (zs : List Int) (k : Nat) (pc : Nat → Nat) (hs us ws : List Int) : Prop where
  lh : hs.length = r * c
  lu : us.length = r * r
  lw : ws.length = r * r
  st : EchSt r c k pc (ent c hs)
  inv : EInv (ent c zs) (ent c hs) (ent r us) (ent r ws) r c
  eb : EB (ent c hs) (ent r us) (ent r ws) r c k 48
  run : EcTo r c (ent c zs) c k (e3 r c hs us ws)
def EchRes (r c : Nat) (zs : List Int) (xs : List (Nat × Nat × List Int)) : Prop := ∃ k pc hs us ws, xs = [(r, c, hs), (r, r, us), (r, r, ws)] ∧ EchIs r c zs k pc hs us ws
theorem echRes_uniq (r c : Nat) (zs : List Int) (x y : List (Nat × Nat × List Int)) (h : EchRes r c zs x) (h' : EchRes r c zs y) : x = y := by
  obtain ⟨k, pc, hs, us, ws, rfl, a⟩ := h
  obtain ⟨k', pc', hs', us', ws', rfl, b⟩ := h'
  obtain ⟨-, e1, e2, e3'⟩ := EcTo.det c (Nat.le_refl _) _ _ _ _ a.run b.run
  rw [list_ent a.lh b.lh e1, list_ent a.lu b.lu e2, list_ent a.lw b.lw e3']
theorem IsM.len {w : World} {v : Value} {r c L : Nat} {zs : List Int} (h : IsM w v r c zs L) : zs.length = r * c := by
  obtain ⟨_, _, sl, _, h3⟩ := h
  exact h3.1
theorem MRow.three {w : World} {g : Nat} {x y z : Nat × Nat × List Int} {o1 o2 o3 : Option Addr} {m1 m2 m3 c1 c2 c3 : Nat} {t : TypeId} (hg : w.heap[g]? = some (.cells #[.int .i64 (x.1 : Nat), .int .i64 (x.2.1 : Nat), .slice o1 m1 c1, .int .i64 (y.1 : Nat), .int .i64 (y.2.1 : Nat), .slice o2 m2 c2, .int .i64 (z.1 : Nat), .int .i64 (z.2.1 : Nat), .slice o3 m3 c3] t (0, 0)))
    (h1 : IsM w (.agg #[.int .i64 (x.1 : Nat), .int .i64 (x.2.1 : Nat), .slice o1 m1 c1]) x.1 x.2.1 x.2.2 200000000) (h2 : IsM w (.agg #[.int .i64 (y.1 : Nat), .int .i64 (y.2.1 : Nat), .slice o2 m2 c2]) y.1 y.2.1 y.2.2 200000000) (h3 : IsM w (.agg #[.int .i64 (z.1 : Nat), .int .i64 (z.2.1 : Nat), .slice o3 m3 c3]) z.1 z.2.1 z.2.2 200000000) : MRow w g [x, y, z] := by
  intro j hj
  match j, hj with
  | 0, _ => exact ⟨o1, m1, c1, by simp [World.cell?, hg], by simp [World.cell?, hg], by simp [World.cell?, hg], h1⟩
  | 1, _ => exact ⟨o2, m2, c2, by simp [World.cell?, hg], by simp [World.cell?, hg], by simp [World.cell?, hg], h2⟩
  | 2, _ => exact ⟨o3, m3, c3, by simp [World.cell?, hg], by simp [World.cell?, hg], by simp [World.cell?, hg], h3⟩
set_option maxRecDepth 100000 in
set_option maxHeartbeats 4000000 in
theorem echelon_held (b : Nat) (h : Int) (ms : List Hm) (nx : Nat) (w : World) (hst : Held w b ms nx) (hnx : nx < 1000000 - 5) :
    Calls Tryz.prog 55 #[.pointer (some ⟨b, 0, none⟩), .int .i64 h] w fun x w' => ∃ v e ok xs, x = .returned (.tuple #[v, .int .i64 e]) ∧ ManyRel 3 EchRes ms h ok e xs ∧ ManyOut w w' b 3 nx ms ok xs v := by
  have H := Hid.mk hst
  have hm24 := hst.1
  have hbl := hst.lt
  clear hst
  go_enter Tryz.func55, Tryz.ntmps55
  go_wp2_with fail
  refine (find_held b h ms nx _ H.out).mono ?_
  rintro e w1 ⟨⟨r, c, ao, n, cap, ok, rfl, hf⟩, hb1⟩
  have hbA := (Below.refl w1.heap.size w1).alloc (Nat.le_refl _) (.cells #[.int .i64 r, .int .i64 c, .slice ao n cap] 76)
  have hbw := hb1.trans (hbA.mono hb1.size)
  have hw1 := hb1.size
  rcases id hf with ⟨rfl, i, hd, zs, hi, hgi, hgh, hM⟩ | ⟨rfl, hno⟩
  · have K1 := Hid.mk (And.intro (hM.below hbA) (And.intro hbw (And.intro hi (And.intro hgi hgh))))
    clear hf hM hb1 hbA hbw hi hgi hgh
    go_wp2_with fail
    refine (tooBig_any _ r c zs 200000000 _ K1.out.1 (by omega)).mono ?_
    rintro e w2 ⟨fb, rfl, hfo, hb2⟩
    have hs2 : w1.heap.size + 1 ≤ w2.heap.size := by have := hb2.size; simpa using this
    have m0 : w2.cell? ⟨w1.heap.size, 0, none⟩ = some (.int .i64 r) := cell_later hb2 (by simp)
    have m1 : w2.cell? ⟨w1.heap.size, 1, none⟩ = some (.int .i64 c) := cell_later hb2 (by simp)
    have m2 : w2.cell? ⟨w1.heap.size, 2, none⟩ = some (.slice ao n cap) := cell_later hb2 (by simp)
    have K2 := Hid.mk (And.intro (K1.out.1.below hb2) (And.intro (K1.out.2.1.trans (hb2.mono K1.out.2.1.size)) hfo))
    clear hb2 hfo
    cases fb
    · have HNF : Hid (¬ FitsP r c zs) := Hid.mk (fun h => by have := K2.out.2.2.2 h; cases this)
      go_wp2_with fail
      go_ret2
      exact ⟨_, _, false, [], rfl, .inr ⟨i, hd, r, c, zs, K1.out.2.2.1, K1.out.2.2.2.1, K1.out.2.2.2.2, .inl ⟨HNF.out, rfl, rfl, rfl⟩⟩, .inl ⟨rfl, rfl, H.out.below K2.out.2.1, Fr.of_below K2.out.2.1⟩⟩
    · have HFP : Hid (FitsP r c zs) := Hid.mk (K2.out.2.2.1 rfl)
      go_wp2_with fail
      refine (room_held b ms nx _ (H.out.below K2.out.2.1)).mono ?_
      rintro e w' ⟨rfl, rfl⟩
      obtain ⟨rm, hrm⟩ : ∃ rm, rm = ms.countP Option.isNone := ⟨_, rfl⟩
      have HRM := Hid.mk hrm
      rw [← hrm]
      clear hrm
      by_cases h0 : rm < 3
      · have h0' : ((rm : Int) < 3) := by omega
        go_wp2_with fail
        go_ret2
        exact ⟨_, _, false, [], rfl, .inr ⟨i, hd, r, c, zs, K1.out.2.2.1, K1.out.2.2.2.1, K1.out.2.2.2.2, .inr (.inl ⟨HFP.out, by rw [← HRM.out]; exact h0, rfl, rfl, rfl⟩)⟩, .inl ⟨rfl, rfl, H.out.below K2.out.2.1, Fr.of_below K2.out.2.1⟩⟩
      · have h0' : ¬ ((rm : Int) < 3) := by omega
        go_wp2_with fail
        refine (gech_fit _ r c zs 2 _ (K2.out.1.tight HFP.out) HFP.out.1 HFP.out.2.1 HFP.out.ent (by omega)).mono ?_
        rintro e w3 ⟨v3, k, pc, hs, us, ws, rfl, ⟨sH, sU, sW, rfl, m3, m4, m5⟩, hk, hE, hEB, hb3, hto⟩
        have hIs : EchIs r c zs k pc hs us ws := ⟨m3.len, m4.len, m5.len, hk, hE, hEB, hto⟩
        obtain ⟨oH, cH, rfl⟩ := m3.slice
        obtain ⟨oU, cU, rfl⟩ := m4.slice
        obtain ⟨oW, cW, rfl⟩ := m5.slice
        have hb03 := K2.out.2.1.trans (hb3.mono K2.out.2.1.size)
        have K3 := Hid.mk (And.intro m3 (And.intro m4 (And.intro m5 (And.intro hIs hb03))))
        have hw3 := hb3.size
        clear hk hE hb3 m0 m1 m2 m3 m4 m5 hEB hto hIs hb03
        go_wp2_with fail
        obtain ⟨X, hX⟩ : ∃ X, X = (w3.alloc (.cells #[.int .i64 r, .int .i64 c, .slice oH (r * c) cH, .int .i64 r, .int .i64 r, .slice oU (r * r) cU, .int .i64 r, .int .i64 r, .slice oW (r * r) cW, .int .i64 k] 82)).alloc (.cells #[.int .i64 r, .int .i64 c, .slice oH (r * c) cH, .int .i64 r, .int .i64 r, .slice oU (r * r) cU, .int .i64 r, .int .i64 r, .slice oW (r * r) cW] 76) := ⟨_, rfl⟩
        rw [← hX]
        have hbX : Below w3.heap.size w3 X := by rw [hX]; exact ((Below.refl _ _).alloc (Nat.le_refl _) _).alloc (by simp) _
        have hsX : X.heap.size = w3.heap.size + 1 + 1 := by rw [hX]; simp
        have hgX : X.heap[w3.heap.size + 1]? = some (.cells #[.int .i64 r, .int .i64 c, .slice oH (r * c) cH, .int .i64 r, .int .i64 r, .slice oU (r * r) cU, .int .i64 r, .int .i64 r, .slice oW (r * r) cW] 76 (0, 0)) := by
          rw [hX]
          have := heap_alloc_new (w3.alloc (.cells #[.int .i64 r, .int .i64 c, .slice oH (r * c) cH, .int .i64 r, .int .i64 r, .slice oU (r * r) cU, .int .i64 r, .int .i64 r, .slice oW (r * r) cW, .int .i64 k] 82)) (.cells #[.int .i64 r, .int .i64 c, .slice oH (r * c) cH, .int .i64 r, .int .i64 r, .slice oU (r * r) cU, .int .i64 r, .int .i64 r, .slice oW (r * r) cW] 76)
          simpa using this
        have hbwX := K3.out.2.2.2.2.trans (hbX.mono K3.out.2.2.2.2.size)
        have hrow : MRow X (w3.heap.size + 1) [(r, c, hs), (r, r, us), (r, r, ws)] := MRow.three (x := (r, c, hs)) (y := (r, r, us)) (z := (r, r, ws)) hgX ((K3.out.1.below hbX).mono (by omega)) ((K3.out.2.1.below hbX).mono (by omega)) ((K3.out.2.2.1.below hbX).mono (by omega))
        have hw03 := K3.out.2.2.2.2.size
        have HX := Hid.mk (And.intro hbwX hrow)
        clear hX hbX hgX hbwX hrow
        refine (keepAll_held b (w3.heap.size + 1) 3 3 [(r, c, hs), (r, r, us), (r, r, ws)] ms nx _ (H.out.below HX.out.1) HX.out.2 rfl (by omega) (by omega) (by omega) (by have := HRM.out; omega) hnx).mono ?_
        rintro e w4 ⟨v4, rfl, hb4, zs4, rfl, k1, k2, k3, k4, k5, k6⟩
        have K4 := Hid.mk (And.intro k1 (And.intro k2 (And.intro k3 (And.intro k4 (And.intro k5 ((Fr.of_below HX.out.1).trans k6))))))
        clear k1 k2 k3 k4 k5 k6
        go_wp2_with fail
        go_ret2
        exact ⟨_, _, true, [(r, c, hs), (r, r, us), (r, r, ws)], rfl, .inr ⟨i, hd, r, c, zs, K1.out.2.2.1, K1.out.2.2.2.1, K1.out.2.2.2.2, .inr (.inr ⟨HFP.out, by have := HRM.out; omega, rfl, rfl, rfl, k, pc, hs, us, ws, rfl, K3.out.2.2.2.1⟩)⟩, .inr ⟨rfl, hb4, zs4, rfl, by have := HX.out.1.size; have := K4.out.1; omega, K4.out.2.1, K4.out.2.2.1, K4.out.2.2.2.1, K4.out.2.2.2.2.1, K4.out.2.2.2.2.2⟩⟩
  · have KN := Hid.mk (And.intro hno hbw)
    clear hno hbw hb1 hbA hf
    go_wp2_with fail
    go_ret2
    exact ⟨_, _, false, [], rfl, .inl ⟨KN.out.1, rfl, rfl, rfl⟩, .inl ⟨rfl, rfl, H.out.below KN.out.2, Fr.of_below KN.out.2⟩⟩
end Go.Proofs.YtfjbijpagaipnaaGreatDoor

/- matriceslaw: alike, twin.many, twin.Echelon. -/
namespace Go.Proofs.YtfjbijpagaipnaaGreatDoor
open Go.RowKit R

set_option maxRecDepth 100000 in
set_option maxHeartbeats 2000000 in
theorem alike_same (v u : Value) (zs : List Nat) (w : World) (hv : R.Own w v zs) (hu : R.Own w u zs) :
    Calls Tryz.prog 181 #[v, u] w fun x w' => x = .returned (.bool true) ∧ Below w.heap.size w w' := by
  obtain ⟨ao, cap, rfl, h1, h2, -⟩ := hv.open_
  obtain ⟨bo, dap, rfl, k1, k2, -⟩ := hu.open_
  have H := Hid.mk (And.intro hv hu)
  clear hv hu
  have hnn : ((zs.length : Int) == (zs.length : Int)) = true := by simp
  go_enter Tryz.func181, Tryz.ntmps181
  go_wp2_with fail
  go_loopw [5] (fun i wr => ∃ k : Nat, k ≤ zs.length ∧ i = .int .i64 k ∧ Below w.heap.size w wr) (fun i _ => zs.length - (intOf i).toNat)
  case atStart => exact ⟨0, Nat.zero_le _, rfl, Below.refl _ _⟩
  case round =>
    obtain ⟨k, hk, rfl, hbel⟩ := hrel
    by_cases hkn : k < zs.length
    · obtain ⟨g, rfl, e1⟩ := (H.out.1.below hbel).at_ rfl k hkn
      obtain ⟨g', rfl, e2⟩ := (H.out.2.below hbel).at_ rfl k hkn
      obtain ⟨x, hx⟩ : ∃ x, x = zs.getD k 0 := ⟨_, rfl⟩
      rw [← hx] at e1 e2
      have hxx : ((x : Int) == (x : Int)) = true := by simp
      have hki : (k : Int) < (zs.length : Int) := by omega
      have K := Hid.mk hbel
      clear hx hbel
      go_wp2_with fail
      go_region
      all_goals
        go_wp2_with fail
        go_roundw
        case measure => simp [intOf]; omega
        case rel => exact ⟨k + 1, by omega, by go_num, K.out.drew⟩
    · have hki : ¬ (k : Int) < (zs.length : Int) := by omega
      go_wp2_with fail
      go_ret
      exact ⟨rfl, hbel⟩
set_option maxRecDepth 100000 in
set_option maxHeartbeats 2000000 in
theorem many_same (T : Nat) (v u : Value) (e : Int) (zs : List Nat) (w : World) (hv : R.Own w v zs) (hu : R.Own w u zs) :
    Calls Tryz.prog 175 #[.pointer (some ⟨T, 0, none⟩), v, .int .i64 e, u, .int .i64 e] w fun x w' => x = .returned (.tuple #[v, .int .i64 e]) ∧ Below w.heap.size w w' := by
  obtain ⟨ao, cap, rfl, -⟩ := hv.open_
  obtain ⟨bo, dap, rfl, -⟩ := hu.open_
  have H := Hid.mk (And.intro hv hu)
  clear hv hu
  have hee : (e == e) = true := by simp
  go_enter Tryz.func175, Tryz.ntmps175
  go_wp2_with fail
  refine (alike_same _ _ zs _ H.out.1 H.out.2).mono ?_
  rintro x w1 ⟨rfl, hb1⟩
  have K := Hid.mk hb1
  clear hb1
  go_wp2_with fail
  refine (like_true T _).mono ?_
  rintro x w' ⟨rfl, rfl⟩
  go_wp2_with fail
  go_ret2
  exact ⟨rfl, K.out⟩
/-- What a call of both stores leaves, if it hands back several. -/
def TwMany (B : Nat) (w w' : World) (T b1 b2 n nx : Nat) (ms : List Hm) (ok : Bool) (xs : List (Nat × Nat × List Int)) (v : Value) : Prop :=
  (ok = false ∧ v = .slice none 0 0 ∧ TwH B w' T b1 b2 ms nx ∧ Chg (St2 b1 b2) w w') ∨ (ok = true ∧ (∃ hb zs, v = .slice (some ⟨hb, 0, none⟩) n n ∧ w.heap.size ≤ hb ∧ zs.length = n ∧ (∀ j, j < n → zs.getD j 0 = nx + j) ∧ R.Own w' v zs) ∧ TwH B w' T b1 b2 (puts ms nx xs) (nx + n) ∧ Chg (St2 b1 b2) w w')
theorem own_uniq {n nx : Nat} {zs ys : List Nat} (h1 : zs.length = n) (h2 : ys.length = n) (a : ∀ j, j < n → zs.getD j 0 = nx + j) (b : ∀ j, j < n → ys.getD j 0 = nx + j) : zs = ys := by
  apply List.ext_getElem (by omega)
  intro i h3 h4
  have := (a i (by omega)).trans (b i (by omega)).symm
  simpa [List.getD, h3, h4] using this
theorem TwMany.of_outs {B : Nat} {w w1 w2 w3 : World} {T b1 b2 n nx : Nat} {ms : List Hm} {ok : Bool} {xs : List (Nat × Nat × List Int)} {v u : Value} (h : TwH B w T b1 b2 ms nx) (h1 : ManyOut w w1 b1 n nx ms ok xs v) (h2 : ManyOut w1 w2 b2 n nx ms ok xs u) (h3 : Below w2.heap.size w2 w3) : TwMany B w w3 T b1 b2 n nx ms ok xs v ∧ ∃ zs, R.Own w2 v zs ∧ R.Own w2 u zs := by
  obtain ⟨hTw, hA, hC, hbb, htab, hB1, hB2, hB3⟩ := h
  have fr1 : Fr b1 w w1 := by rcases h1 with ⟨-, -, -, f⟩ | ⟨-, _, _, _, _, _, _, _, _, f⟩ <;> exact f
  have fr2 : Fr b2 w1 w2 := by rcases h2 with ⟨-, -, -, f⟩ | ⟨-, _, _, _, _, _, _, _, _, f⟩ <;> exact f
  have hbel1 : Below B w w1 := fr1.belowB hB2 (by have := hTw.lt; omega)
  have hbel2 : Below B w1 w2 := fr2.belowB hB3 (by have := hbel1.size; have := hTw.lt; omega)
  have hs1 := fr1.1.size
  have hs2 := fr2.1.size
  have hT1 : Tw w1 T b1 b2 false := hTw.of_block (fr1.1.block T hTw.lt (by simpa using hTw.ne hA.ty))
  have hC1 : Held w1 b2 ms nx := hC.fr fr1 (Ne.symm hbb)
  have hT2 : Tw w2 T b1 b2 false := hT1.of_block (fr2.1.block T hT1.lt (by simpa using hT1.ne hC1.ty))
  have hchg : Chg (St2 b1 b2) w w3 := ((Chg.of_fr fr1 (.inl rfl)).trans (Chg.of_fr fr2 (.inr rfl))).trans (Chg.of_below h3)
  have htab3 := ((htab.below hbel1).below hbel2).below (h3.mono (by have := hbel1.size; have := hbel2.size; have := hTw.lt; omega))
  have hT3 := hT2.of_block (h3.block T hT2.lt)
  rcases h1 with ⟨rfl, rfl, a1, -⟩ | ⟨rfl, hb, zs, rfl, a1, a2, a3, a4, a5, -⟩
  · rcases h2 with ⟨-, rfl, d1, -⟩ | ⟨e, -⟩
    · exact ⟨.inl ⟨rfl, rfl, ⟨hT3, (a1.fr fr2 hbb).below h3, d1.below h3, hbb, htab3, hB1, hB2, hB3⟩, hchg⟩, [], R.Own.nil _, R.Own.nil _⟩
    · cases e
  · rcases h2 with ⟨e, -⟩ | ⟨-, hb', zs', rfl, d1, d2, d3, d4, d5, -⟩
    · cases e
    · have hzz := own_uniq a2 d2 a3 d3
      subst hzz
      have hne : hb ≠ b2 := by have := hC.lt; omega
      have hO : R.Own w2 (.slice (some ⟨hb, 0, none⟩) n n) zs := a4.of_block (fun g hg => by
        simp [Value.ownBlock] at hg
        subst hg
        exact fr2.1.block hb a4.lt (fun e => hne (by injection e)))
      exact ⟨.inr ⟨rfl, ⟨hb, zs, rfl, a1, a2, a3, hO.below h3⟩, ⟨hT3, (a5.fr fr2 hbb).below h3, d5.below h3, hbb, htab3, hB1, hB2, hB3⟩, hchg⟩, zs, hO, d4⟩
set_option maxRecDepth 100000 in
set_option maxHeartbeats 1000000 in
theorem twEchelon_any (B T b1 b2 : Nat) (h : Int) (ms : List Hm) (nx : Nat) (w : World) (hst : TwH B w T b1 b2 ms nx) (hd : Dst ms) (hnx : nx < 1000000 - 5) :
    Calls Tryz.prog 115 #[.pointer (some ⟨T, 0, none⟩), .int .i64 h] w fun x w' => ∃ v e ok xs, x = .returned (.tuple #[v, .int .i64 e]) ∧ ManyRel 3 EchRes ms h ok e xs ∧ TwMany B w w' T b1 b2 3 nx ms ok xs v := by
  obtain ⟨c0, c1, c2, -⟩ := hst.1.cells
  have H := Hid.mk (And.intro hst hd)
  clear hst hd
  go_enter Tryz.func115, Tryz.ntmps115
  go_wp2_with fail
  refine (echelon_held b1 h ms nx _ H.out.1.2.1 hnx).mono ?_
  rintro x w1 ⟨v1, e1, ok1, xs1, rfl, hrel1, ho1⟩
  have fr1 : Fr b1 w w1 := by rcases ho1 with ⟨-, -, -, f⟩ | ⟨-, _, _, _, _, _, _, _, _, f⟩ <;> exact f
  have hT1 : Tw w1 T b1 b2 false := H.out.1.1.of_block (fr1.1.block T H.out.1.1.lt (by simpa using H.out.1.1.ne H.out.1.2.1.ty))
  have hH2 : Held w1 b2 ms nx := H.out.1.2.2.1.fr fr1 (Ne.symm H.out.1.2.2.2.1)
  clear c0 c1 c2
  obtain ⟨c0, c1, c2, -⟩ := hT1.cells
  obtain ⟨o1, n1, p1, rfl⟩ : ∃ o n p, v1 = .slice o n p := by rcases ho1 with ⟨-, rfl, -⟩ | ⟨-, _, _, rfl, -⟩ <;> exact ⟨_, _, _, rfl⟩
  have K1 := Hid.mk (And.intro hH2 (And.intro hrel1 ho1))
  clear hT1 hH2 hrel1 ho1 fr1
  go_wp2_with fail
  refine (echelon_held b2 h ms nx _ K1.out.1 hnx).mono ?_
  rintro x w2 ⟨v2, e2, ok2, xs2, rfl, hrel2, ho2⟩
  obtain ⟨rfl, rfl, rfl⟩ := ManyRel.uniq echRes_uniq H.out.2 K1.out.2.1 hrel2
  obtain ⟨o2, n2, p2, rfl⟩ : ∃ o n p, v2 = .slice o n p := by rcases ho2 with ⟨-, rfl, -⟩ | ⟨-, _, _, rfl, -⟩ <;> exact ⟨_, _, _, rfl⟩
  have K2 := Hid.mk (And.intro ho2 (TwMany.of_outs H.out.1 K1.out.2.2 ho2 (Below.refl _ _)).2)
  clear ho2 c0 c1 c2 hrel2
  obtain ⟨zs, z1, z2⟩ := K2.out.2
  have KZ := Hid.mk (And.intro z1 z2)
  clear z1 z2
  go_wp2_with fail
  refine (many_same T _ _ e1 zs _ KZ.out.1 KZ.out.2).mono ?_
  rintro x w3 ⟨rfl, hb3⟩
  have K3 := Hid.mk hb3
  clear hb3
  go_wp2_with fail
  go_ret2
  exact ⟨_, _, _, _, rfl, K1.out.2.1, (TwMany.of_outs H.out.1 K1.out.2.2 K2.out.1 K3.out).1⟩
end Go.Proofs.YtfjbijpagaipnaaGreatDoor

/- matriceslaw.World: mine. -/
namespace Go.Proofs.YtfjbijpagaipnaaGreatDoor
open Go.RowKit R

theorem RowG.stored {w : World} {T : TypeId} {g n cap : Nat} {xs : List Value} (h : RowG w T (.slice (some ⟨g, 0, none⟩) n cap) xs) (k : Nat) (u : Value) : RowG (w.setCell ⟨g, k, none⟩ u) T (.slice (some ⟨g, 0, none⟩) n cap) (xs.set k u) := by
  rcases h with ⟨e, -⟩ | ⟨g', cap', cur, e, h1, h2, h3, h4, h5⟩
  · simp at e
  · simp only [Value.slice.injEq, Option.some.injEq, Addr.mk.injEq] at e
    obtain ⟨⟨rfl, -⟩, rfl, rfl⟩ := e
    refine .inr ⟨g, cap, cur.set! k u, by simp, by rw [heap_setCell_same _ _ _ _ _ _ h1]; simp, by simpa using h2, by simpa using h3, h4, fun i hi => ?_⟩
    rw [List.length_set] at hi
    have h6 := h5 i hi
    rw [Array.set!_eq_setIfInBounds, Array.getElem?_setIfInBounds, List.getElem?_set]
    have hc : i < cur.size := by omega
    by_cases e : k = i
    · subst e; simp [hc, hi]
    · simp [e, h6]
theorem lw_lists {w : World} {W T : Nat} {hv iv lv tv : Value} {nx : Nat} (h : Lw w W T hv iv lv tv nx) (u : Value) : Lw (w.setCell ⟨W, 5, none⟩ u) W T u iv lv tv nx := by
  unfold Lw at *
  rw [heap_setCell_same _ _ _ _ _ _ h]
  simp
/-- The list is marked, and kept. -/
def MineOut (w w' : World) (W T nx g n : Nat) (hv iv lv tv : Value) (ls : List Hl) : Prop := ∃ hv', Lw w' W T hv' iv lv tv nx ∧ RowG w' 25 hv' (hlc (ls ++ [(g, n)])) ∧ RowG w' 3 (hl1 (g, n)) (List.replicate n (.int .i64 (-1 - (ls.length : Int)))) ∧ Chg (fun k => k = W ∨ hv.ownBlock = some k ∨ k = g) w w' ∧ ∀ k, hv'.ownBlock = some k → hv.ownBlock = some k ∨ w.heap.size ≤ k
set_option maxRecDepth 100000 in
set_option maxHeartbeats 4000000 in
theorem mine_any (W T nx g n : Nat) (hv iv lv tv : Value) (ls : List Hl) (zs : List Nat) (w : World) (hL : Lw w W T hv iv lv tv nx) (hrow : RowG w 25 hv (hlc ls)) (ho : R.Own w (.slice (some ⟨g, 0, none⟩) n n) zs) (hz : zs.length = n) (hn5 : n ≤ 5) (hls : ls.length ≤ 1000000) :
    Calls Tryz.prog 116 #[.pointer (some ⟨W, 0, none⟩), .slice (some ⟨g, 0, none⟩) n n] w fun x w' => x = .returned (.tuple #[]) ∧ MineOut w w' W T nx g n hv iv lv tv ls := by
  have hgt := R.Own.ty_ ho
  have hgW : g ≠ W := ty_ne hgt hL.ty (by decide)
  have hgl := hgt.lt
  have hWl := hL.lt
  have hr0 : RowG w 3 (.slice (some ⟨g, 0, none⟩) n n) (R.lcells zs) := RowG.of_owns (B := 0) (by
    have h1 : (R.lcells zs).length = zs.length := by simp [R.lcells]
    rw [h1]; exact ho)
  obtain ⟨hoa, hcap, rfl, q1, q2, -⟩ := hrow.shape
  rw [hlc_len] at hL hrow q1 ⊢
  have hgH : ∀ k, (Value.slice hoa ls.length hcap).ownBlock = some k → k ≠ g := fun k hk e => ty_ne (hrow.own k hk).2 hgt (by decide) e
  have H := Hid.mk (And.intro hL (And.intro hrow (And.intro hr0 (And.intro hgH (And.intro hgt hz)))))
  obtain ⟨c0, c1, c2, c3, c4, c5, c6⟩ := hL.cells
  clear hL hrow hr0 hgH hgt ho hz
  go_enter Tryz.func116, Tryz.ntmps116
  go_wp2_with fail
  go_loopw [4] (fun i wr => ∃ (k : Nat) (vs : List Value), k ≤ n ∧ i = .int .i64 k ∧ Hid (vs.length = n ∧ RowG wr 3 (.slice (some ⟨g, 0, none⟩) n n) vs ∧ Chg (fun k => k = g) w wr ∧ ∀ j, j < k → vs[j]? = some (.int .i64 (-1 - (ls.length : Int))))) (fun i _ => n - (intOf i).toNat)
  case atStart => exact ⟨0, R.lcells zs, Nat.zero_le _, rfl, Hid.mk ⟨by simp [R.lcells, H.out.2.2.2.2.2], H.out.2.2.1, Chg.of_below (Below.refl _ _), fun j hj => by omega⟩⟩
  case round =>
    obtain ⟨k, vs, hk, rfl, HI⟩ := hrel
    have hLr := H.out.1.of_block (HI.out.2.2.1.block hWl (fun e => hgW e.symm))
    clear c0 c1 c2 c3 c4 c5 c6
    obtain ⟨c0, c1, c2, c3, c4, c5, c6⟩ := hLr.cells
    have HLR := Hid.mk hLr
    clear hLr
    have hws := HI.out.2.2.1.size
    by_cases hkn : k < n
    · have hki : (k : Int) < (n : Int) := by omega
      have hfz : wr.frozen? ⟨g, k, none⟩ = false := by
        rcases HI.out.2.1 with ⟨e, -⟩ | ⟨g', cap', cur, e, h1, -⟩
        · simp at e
        · simp only [Value.slice.injEq, Option.some.injEq, Addr.mk.injEq] at e
          obtain ⟨⟨rfl, -⟩, -⟩ := e
          simp [World.frozen?, h1]
      have hcl : ∃ y, wr.cell? ⟨g, k, none⟩ = some y := by
        obtain ⟨ao, cp, e, -, -, -, h2⟩ := HI.out.2.1.shape
        obtain ⟨g', e1, e2⟩ := h2 k (by rw [HI.out.1]; exact hkn)
        simp only [Value.slice.injEq] at e
        obtain ⟨e3, -⟩ := e
        rw [← e3] at e1
        simp only [Option.some.injEq, Addr.mk.injEq] at e1
        rw [e1.1, e2]
        exact ⟨vs[k]'(by rw [HI.out.1]; exact hkn), by simp [HI.out.1, hkn]⟩
      obtain ⟨y, hy⟩ := hcl
      go_wp2_with fail
      go_roundw
      case measure => simp [intOf]; omega
      case rel =>
        obtain ⟨i1, i2, i3, i4⟩ := HI.out
        refine ⟨k + 1, vs.set k (.int .i64 (-1 - (ls.length : Int))), by omega, by go_num, Hid.mk ⟨by simp [i1], i2.stored k _, i3.trans (Chg.setW (S := fun k => k = g) (i2.own g rfl).2 (by decide) (by decide) rfl _), fun j hj => ?_⟩⟩
        by_cases hjk : j = k
        · subst hjk; simp [i1, hkn]
        · rw [List.getElem?_set_ne (fun e => hjk e.symm)]; exact i4 j (by omega)
    · have hki : ¬ (k : Int) < (n : Int) := by omega
      have hkn' : k = n := by omega
      subst hkn'
      obtain ⟨il, hil, hil0, hil1, hil2⟩ := info_parts Tryz.infoL
      have HIL := Hid.mk (And.intro hil (And.intro hil0 (And.intro hil1 hil2)))
      have hrr : RowG wr 25 (.slice hoa ls.length hcap) (hlc ls) := H.out.2.1.chg HI.out.2.2.1 (fun q hq e => H.out.2.2.2.1 q hq e)
      have HRR := Hid.mk hrr
      clear hil hil0 hil1 hil2 hrr
      go_wp2_with (at_builtin; refine wpList_append_row _ rfl _ _ 37 rfl 25 il (.slice none 0 0) 24 Tryz.underlying37 HIL.out.1 HIL.out.2.1 HIL.out.2.2.1 HIL.out.2.2.2 rfl (.slice hoa ls.length hcap) (hlc ls) rfl (HRR.out.below ?_) ⟨_, 0, none⟩ (.slice (some ⟨g, 0, none⟩) k k) rfl ?_ rfl ?_ ?_ ?_)
      · exact (Below.refl _ _).alloc (Nat.le_refl _) _
      · rw [hlc_len]; unfold maxLen; omega
      · rw [hlc_len]; omega
      · intro v' w' hA
        have HR := app_row (j := 5) HLR.out.ty ((Below.refl _ _).alloc (Nat.le_refl _) _) HRR.out hA (by decide)
        obtain ⟨voa, vcap, hve, -⟩ := hA.1.shape
        obtain ⟨vm, hvm⟩ : ∃ vm, vm = (hlc ls ++ [Value.slice (some ⟨g, 0, none⟩) k k]).length := ⟨_, rfl⟩
        rw [← hvm] at hve
        clear hvm
        subst hve
        have hLw := HLR.out.of_block HR.2.2.1
        obtain ⟨d0, d1, d2, d3, d4, d5, d6⟩ := hLw.cells
        have K := Hid.mk (And.intro HR hLw)
        clear HR hLw hA c0 c1 c2 c3 c4 c5 c6
        go_wp2_with fail
        go_end0
        obtain ⟨⟨r1, r2, -, r4⟩, hLw⟩ := K.out
        refine ⟨rfl, _, lw_lists hLw _, ?_, ?_, ?_, fun q hq => ?_⟩
        · have : hlc (ls ++ [(g, k)]) = hlc ls ++ [Value.slice (some ⟨g, 0, none⟩) k k] := by simp [hlc, hl1]
          rw [this]; exact r1
        · have hvs : vs = List.replicate k (.int .i64 (-1 - (ls.length : Int))) := by
            apply List.ext_getElem?
            intro a
            rcases Nat.lt_or_ge a k with h1 | h1
            · rw [HI.out.2.2.2 a h1]; simp [h1]
            · rw [List.getElem?_eq_none (by rw [HI.out.1]; exact h1), List.getElem?_eq_none (by simpa using h1)]
          rw [← hvs]
          refine HI.out.2.1.chg r2 (fun q hq e => ?_)
          simp [Value.ownBlock] at hq
          subst hq
          rcases e with e | e
          · exact hgW e
          · exact H.out.2.2.2.1 g e rfl
        · exact (HI.out.2.2.1.mono (fun q hq => .inr (.inr hq))).trans (r2.mono (fun q hq => by
            rcases hq with hq | hq
            · exact .inl hq
            · exact .inr (.inl hq)))
        · rcases r4 q hq with h | h
          · exact .inl h
          · exact .inr (by omega)
end Go.Proofs.YtfjbijpagaipnaaGreatDoor
