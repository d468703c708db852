import Derived.Test.YtfjbijpagaipnabGreatDoorR21
import Derived.Laws.Cover3
import Derived.BigQuiet
import Derived.Deep.CutRange
import Derived.Deep.RegionWith
import Derived.Deep.RegionLawGrows
namespace Go.Proofs.YtfjbijpagaipnabGreatDoor
open Go.RowKit R
def StepOut (B : Nat) (w w' : World) (W T b1 b2 nx : Nat) : Prop := (∃ ms' nx' es', LInv B w' W T b1 b2 ms' nx' es' ∧ nx' ≤ nx + 5) ∧ Below B w w'
theorem LInv.size {B : Nat} {w : World} {W T b1 b2 : Nat} {ms : List Hm} {nx : Nat} {es : List Ent} (h : LInv B w W T b1 b2 ms nx es) : B ≤ w.heap.size := by
 have := h.1.1.lt
 have := h.1.2.2.2.2.2.1
 omega
theorem LInv.stores {B : Nat} {w w' : World} {W T b1 b2 : Nat} {ms : List Hm} {nx : Nat} {es : List Ent} (h : LInv B w W T b1 b2 ms nx es) (hc : Chg (St2 b1 b2) w w') : LRows B w' W T b1 b2 nx es := by
 obtain ⟨h1, ⟨hv, iv, lv, tv, h2, h3, h4, h5, h6, hM, ls, hH, hH2⟩, h7⟩ := h
 have key : ∀ k t, Ty w k t → t ≠ 103 → ¬ St2 b1 b2 k := fun k t hk hne hs => by
  rcases hs with hs | hs
  ·exact ty_ne hk h1.2.1.ty hne hs
  ·exact ty_ne hk h1.2.2.1.ty hne hs
 exact ⟨hv, iv, lv, tv, h2.of_block (hc.block h2.lt (key W _ h2.ty (by decide))), h3.chg hc (fun k hk => key k _ (h3.own k hk).2 (by decide)), h4.chg hc (fun k hk => key k _ (h4.own k hk).2 (by decide)), h5.chg hc (fun k hk => key k _ (h5.own k hk).2 (by decide)), h6, hM.chg hc (fun k hk => .inl (.inr hk)) (fun k hk => .inl hk), ls, hH.chg hc (fun k hk => .inr hk) (fun k hk => .inl hk), hH2⟩
theorem held_inv {B W T b1 b2 i r c nx p : Nat} {hv iv lv tv iv' lv' tv' : Value} {ls : List Hl} {ms : List Hm} {es : List Ent} {zs : List Int} {w w' : World} (hT : TwH B w T b1 b2 (ms.set i (some (nx, r, c, zs))) (nx + 1)) (hL : Lw w W T hv iv lv tv nx) (hI : RowG w 3 iv (idc es)) (hP : RowG w 164 lv (lpc es)) (hX : RowG w 9 tv (txc es)) (hS : ∀ k, S4 W iv lv tv k → B ≤ k) (hM : Mats w es (Vh W hv iv lv tv b1 b2)) (hH : Hs w hv ls (Vl W iv lv tv b1 b2)) (hH2 : ls.length ≤ nx ∧ ∀ g, hv.ownBlock = some g → B ≤ g) (hR : Rel es ms nx) (hi : FreeAt ms i) (hf : Fine r c zs) (hB : B ≤ w.heap.size)
 (h1 : Lw w' W T hv iv' lv' tv' (nx + 1)) (h2 : RowG w' 3 iv' (idc (es ++ [(nx, matT r c zs, p)]))) (h3 : RowG w' 164 lv' (lpc (es ++ [(nx, matT r c zs, p)]))) (h4 : RowG w' 9 tv' (txc (es ++ [(nx, matT r c zs, p)])))
 (h5 : ∀ g, S4 W iv' lv' tv' g → S4 W iv lv tv g ∨ w.heap.size ≤ g) (h6 : ∃ lo hi, w.heap.size ≤ lo ∧ MatAt w' lo hi p r c (fz c zs) ∧ ∀ k, S4 W iv' lv' tv' k → k < lo ∨ hi ≤ k) (h7 : Chg (S4 W iv lv tv) w w') :
 LInv B w' W T b1 b2 (ms.set i (some (nx, r, c, zs))) (nx + 1) (es ++ [(nx, matT r c zs, p)]) ∧ Below B w w' := by
 have no : ∀ k t, Ty w k t → t ≠ 129 → t ≠ 3 → t ≠ 164 → t ≠ 9 → ¬ S4 W iv lv tv k := fun k t hk n1 n2 n3 n4 h => by
  rcases h with h | h | h | h
  ·exact ty_ne hk hL.ty n1 h
  ·exact ty_ne hk (hI.own k h).2 n2 rfl
  ·exact ty_ne hk (hP.own k h).2 n3 rfl
  ·exact ty_ne hk (hX.own k h).2 n4 rfl
 have hT5 : TwH B w' T b1 b2 (ms.set i (some (nx, r, c, zs))) (nx + 1) := hT.chg h7 (no T _ ⟨_, _, hT.1⟩ (by decide) (by decide) (by decide) (by decide)) (no b1 _ hT.2.1.ty (by decide) (by decide) (by decide) (by decide)) (no b2 _ hT.2.2.1.ty (by decide) (by decide) (by decide) (by decide)) hS
 have hb1 : b1 < w.heap.size := hT.2.1.ty.lt
 have hb2 : b2 < w.heap.size := hT.2.2.1.ty.lt
 have hVl : ∀ k, Vl W iv' lv' tv' b1 b2 k → Vl W iv lv tv b1 b2 k ∨ w.heap.size ≤ k := fun k hk => by
  rcases hk with hk | hk
  ·rcases h5 k hk with h | h
   ·exact .inl (.inl h)
   ·exact .inr h
  ·exact .inl (.inr hk)
 refine ⟨⟨hT5, ⟨hv, iv', lv', tv', h1, h2, h3, h4, fun k hk => ?_, Mats.app (hM.chg h7 (fun k hk => .inl (.inl hk)) (fun k hk => ?_)) (fun e he => ?_), ls, hH.chg h7 (fun k hk => .inl hk) hVl, by omega, hH2.2⟩, hR.push hi r c zs p⟩, h7.below hS hB⟩
 ·rcases h5 k hk with h | h
  ·exact hS k h
  ·omega
 ·rcases hk with hk | hk
  ·rcases hVl k hk with h | h
   ·exact .inl (.inl h)
   ·exact .inr h
  ·exact .inl (.inr hk)
 ·rw [List.mem_singleton] at he
  subst he
  obtain ⟨lo, hi, h8, h9, h10⟩ := h6
  refine ⟨r, c, zs, lo, hi, rfl, hf, h9, fun q hq => ?_⟩
  rcases hq with (hq | hq) | hq
  ·exact h10 q hq
  ·rcases hq with hq | hq <;> exact .inl (by omega)
  ·exact .inl (by have := (hH.1.own q hq).1; omega)
theorem St2.le {B b1 b2 : Nat} (h1 : B ≤ b1) (h2 : B ≤ b2) : ∀ k, St2 b1 b2 k → B ≤ k := fun k h => by
 rcases h with h | h <;> omega
theorem nil_cmp (a : Addr) (n cap : Nat) (w : World) : Sem.run Tryz.prog (binOp BinOp.eql 126 (Value.slice (some a) n cap) (Value.slice none 0 0)) w = Result.ok (Value.bool false) w := by
 have h := run_equal_slice_nil (P := Tryz.prog) w 126 _ (some a) n cap Tryz.underlying126
 simp [binOp, go_sem, h, Result.andThen]
set_option maxRecDepth 100000 in
set_option maxHeartbeats 4000000 in
theorem typed_any (B W T b1 b2 : Nat) (s : ByteArray) (ms : List Hm) (nx : Nat) (es : List Ent) (w : World) (h : LInv B w W T b1 b2 ms nx es) (hs : s.size ≤ 16384) (hnx : nx < 1000000) :
 Calls Tryz.prog 111 #[.pointer (some ⟨W, 0, none⟩), .string s] w fun x w' => x = .returned (.bool true) ∧ StepOut B w w' W T b1 b2 nx := by
 have hB := h.size
 have H := Hid.mk h
 obtain ⟨-, ⟨hv, iv, lv, tv, hL, -⟩, -⟩ := h
 obtain ⟨c0, -⟩ := hL.cells
 clear hL
 go_enter Tryz.func111, Tryz.ntmps111
 go_wp2_with fail
 refine (twType_any B T b1 b2 s ms nx _ H.out.1 hnx).mono ?_
 rintro x w1 ⟨hh, ee, ms1, nx1, rfl, hrel, hT1, hC1⟩
 have hbel1 : Below B w w1 := hC1.below (St2.le H.out.1.2.2.2.2.2.2.1 H.out.1.2.2.2.2.2.2.2) hB
 have hrows := H.out.stores hC1
 have K1 := Hid.mk (And.intro hT1 (And.intro hrows hbel1))
 have hw1 := hbel1.size
 clear hT1 hC1 hbel1 hrows c0
 rcases hrel with ⟨hbad, rfl, rfl, rfl, rfl⟩ | ⟨r, c, zs, hs4, hr, hc, hwr, hcase⟩
 ·by_cases h4 : 4000 < s.size
  ·have i4 : (4000 : Int) < (s.size : Int) := by omega
   go_wp2_with fail
   refine (read_ref s _ (by omega)).mono ?_
   rintro x w2 ⟨v, rfl, hv, hb2⟩
   have HF : Hid (StepOut B w w2 W T b1 b2 nx1) := Hid.mk ⟨⟨ms1, nx1, es, LInv.below ⟨K1.out.1, K1.out.2.1, H.out.2.2⟩ hb2, by omega⟩, K1.out.2.2.trans (hb2.mono (by omega))⟩
   clear hv hb2
   go_wp2_with fail
   go_ret
   exact ⟨rfl, HF.out⟩
  ·have hno : ¬ Wr s := by
    rcases hbad with h | h
    ·omega
    ·exact h
   have HNO := Hid.mk hno
   have i4 : decide ((4000 : Int) < (s.size : Int)) = false := decide_eq_false (by omega)
   clear hno hbad
   go_wp2_with fail
   refine (read_none s _ (by omega) HNO.out).mono ?_
   rintro x w2 ⟨rfl, hb2⟩
   have HF : Hid (StepOut B w w2 W T b1 b2 nx1) := Hid.mk ⟨⟨ms1, nx1, es, LInv.below ⟨K1.out.1, K1.out.2.1, H.out.2.2⟩ hb2, by omega⟩, K1.out.2.2.trans (hb2.mono (by omega))⟩
   clear hb2
   go_wp2_with fail
   go_ret
   exact ⟨rfl, HF.out⟩
 ·have HW := Hid.mk hwr
  have i4 : decide ((4000 : Int) < (s.size : Int)) = false := decide_eq_false (by omega)
  have HCS := Hid.mk hcase
  clear hwr hcase
  go_wp2_with fail
  refine (read_yes s r c zs 4000 _ (by omega) hr hc HW.out).mono ?_
  rintro x w2 ⟨p, gs, rfl, hIR, hb2⟩
  have K2 := Hid.mk (And.intro hIR hb2)
  have hw2 := hb2.size
  clear hIR hb2
  go_wp2_with fail
  refine (big_any p r c gs _ w1.heap.size 40000000001 _ K2.out.1 (by omega) hr hc).mono ?_
  rintro x w3 ⟨bg, rfl, hbg, hb3⟩
  have hb13 : Below w1.heap.size w1 w3 := K2.out.2.trans (hb3.mono hw2)
  obtain ⟨hv1, iv1, lv1, tv1, hL1, hI1, hP1, hX1, hS1, hM1, ls1, hH1, hHB1⟩ := K1.out.2.1
  have hM3 := hM1.below hb13
  have KH := Hid.mk (And.intro (hH1.below hb13) hHB1)
  clear hH1 hHB1
  have hL3 := hL1.of_block (hb13.block W hL1.lt)
  have hI3 := hI1.below hb13
  have hP3 := hP1.below hb13
  have hX3 := hX1.below hb13
  have hlt : ∀ k, S4 W iv1 lv1 tv1 k → k < w1.heap.size := fun k hk => by
   rcases hk with hk | hk | hk | hk
   ·rw [hk]; exact hL1.lt
   ·exact (hI1.own k hk).1
   ·exact (hP1.own k hk).1
   ·exact (hX1.own k hk).1
  have hIR3 := K2.out.1.keep (KR.of_below hb3)
  have hbg' : bg = true ↔ ¬ FitsP r c zs := by rw [← big_fits]; exact hbg
  have K3 := Hid.mk (And.intro hb13 (And.intro hL3 (And.intro hI3 (And.intro hP3 (And.intro hX3 (And.intro hlt (And.intro hIR3 (And.intro hS1 (And.intro hM3 hbg')))))))))
  have hw3 := hb13.size
  have hle := H.out.le24
  have hnum := H.out.2.2.num
  have hcf := cnt_full H.out.2.2.len
  have HCF := Hid.mk (And.intro hnum hcf)
  clear hb3 hb13 hL1 hI1 hP1 hX1 hL3 hI3 hP3 hX3 hlt hIR3 hbg hbg' hS1 hM1 hM3 hnum hcf
  go_wp2_with fail
  refine (full_raw W T nx 1 _ _ _ _ es _ (by omega) K3.out.2.1 K3.out.2.2.1 hle).mono ?_
  rintro x w' ⟨rfl, rfl⟩
  have HF0 : Hid (ms1 = ms → nx1 = nx → StepOut B w w' W T b1 b2 nx) := Hid.mk (fun e1 e2 => by
   subst e1; subst e2
   exact ⟨⟨ms1, nx1, es, LInv.below ⟨K1.out.1, K1.out.2.1, H.out.2.2⟩ K3.out.1, by omega⟩, K1.out.2.2.trans (K3.out.1.mono (by omega))⟩)
  rcases HCS.out with ⟨hnf, rfl, rfl, e1, e2⟩ | ⟨hfit, hroom, rfl, rfl, e1, e2⟩ | ⟨hfit, rfl, rfl, i, hi, e1, e2⟩
  ·have hbt : bg = true := K3.out.2.2.2.2.2.2.2.2.2.2 hnf
   subst hbt
   have HF := Hid.mk (HF0.out e1 e2)
   clear e1 e2 hnf
   go_wp2_with fail
   go_ret
   exact ⟨rfl, HF.out⟩
  ·have hbt : bg = false := by
    cases bg
    ·rfl
    ·exact absurd hfit (K3.out.2.2.2.2.2.2.2.2.2.1 rfl)
   subst hbt
   have hfl : decide (24 < es.length + 1) = true := decide_eq_true (by have h1 := HCF.out.1; have h2 := HCF.out.2.2 hroom; omega)
   rw [hfl]
   have HF := Hid.mk (HF0.out e1 e2)
   clear e1 e2 hfit hroom hfl
   go_wp2_with fail
   go_ret
   exact ⟨rfl, HF.out⟩
  ·have hbt : bg = false := by
    cases bg
    ·rfl
    ·exact absurd hfit (K3.out.2.2.2.2.2.2.2.2.2.1 rfl)
   subst hbt
   have hne24 : es.length ≠ 24 := fun h => absurd hi.2.1 ((HCF.out.2.1 (by rw [← HCF.out.1]; exact h)) i hi.1)
   have hfl : decide (24 < es.length + 1) = false := decide_eq_false (by omega)
   rw [hfl]
   have HD := Hid.mk (And.intro hfit (And.intro hi (And.intro e1 e2)))
   clear hfit hi e1 e2 hfl HF0
   go_wp2_with fail
   have hmi : (ms.set i (some (nx, r, c, zs))).getD i none = some (nx, r, c, zs) := by rw [hm_set (by rw [H.out.2.2.len]; exact HD.out.2.1.1), if_pos rfl]
   have hbX : Below w'.heap.size w' (w'.alloc (.cells #[.int .i64 (nx : Nat)] 3)) := (Below.refl _ _).alloc (Nat.le_refl _) _
   have hTX : TwH B (w'.alloc (.cells #[.int .i64 (nx : Nat)] 3)) T b1 b2 (ms.set i (some (nx, r, c, zs))) (nx + 1) := by
    have := (K1.out.1.below K3.out.1).below hbX
    rw [HD.out.2.2.1, HD.out.2.2.2] at this
    exact this
   have hpush := H.out.2.2.push HD.out.2.1 r c zs
   have hzl : zs.length = r * c := by
    obtain ⟨_, _, _, _, _, _, _, _, _, h7, _⟩ := HW.out
    exact h7
   have hLX := K3.out.2.1.of_block (hbX.block W K3.out.2.1.lt)
   have hIX := K3.out.2.2.1.below hbX
   have hPX := K3.out.2.2.2.1.below hbX
   have hXX := K3.out.2.2.2.2.1.below hbX
   refine (held_one B W T b1 b2 w'.heap.size i r c nx (nx + 1) iv1 lv1 tv1 (ms.set i (some (nx, r, c, zs))) es zs _ hTX hLX hIX hPX hXX K3.out.2.2.2.2.2.2.2.1 (by omega) HD.out.2.1.1 hmi (hpush 0).dst (fine_of_fits HD.out.1 hzl) hle (heap_alloc_new w' _) (fun e => by have := K3.out.2.2.2.2.2.1 _ e; omega)).mono ?_
   rintro x w5 ⟨ov, rfl, p', iv', lv', tv', og, ocap, rfl, o1, o2, ocell, hL5, hI5, hP5, hX5, ow, hmat, hC5⟩
   have hsX : (w'.alloc (.cells #[.int .i64 (nx : Nat)] 3)).heap.size = w'.heap.size + 1 := by simp
   have hw5 : w'.heap.size + 1 ≤ w5.heap.size := by rw [← hsX]; exact hC5.size
   have hIRm : IsR w1.heap.size w5 p r c gs (fun i j => zs.getD (i * c + j) 0) 40000000001 := isR_up (K3.out.2.2.2.2.2.2.1.keep (KR.of_below hbX)) (hC5.up K3.out.2.2.2.2.2.1)
   obtain ⟨lo5, hi5, -, hmt, -⟩ := id hmat
   obtain ⟨gs', hIR5⟩ := hmt.isR
   obtain ⟨hinv, hbB⟩ := held_inv hTX hLX hIX hPX hXX K3.out.2.2.2.2.2.2.2.1 (K3.out.2.2.2.2.2.2.2.2.1.below hbX) (KH.out.1.below hbX) KH.out.2 H.out.2.2 HD.out.2.1 (fine_of_fits HD.out.1 hzl) (by rw [hsX]; omega) hL5 hI5 hP5 hX5 ow hmat hC5
   have hB5 : Below B w w5 := (K1.out.2.2.trans (K3.out.1.mono (by omega))).trans ((hbX.mono (by omega)).trans hbB)
   have K5 := Hid.mk (And.intro hIR5 (And.intro hIRm (And.intro hinv hB5)))
   clear hL5 hI5 hP5 hX5 ow hIR5 hC5 hIRm hinv hB5 hbB hmat hmt hmi hbX hTX hpush hsX hzl hLX hIX hPX hXX
   have hnil := nil_cmp ⟨og, 0, none⟩ 1 ocap
   go_wp2_with fail
   refine (same_yes p' r c gs' _ _ p gs _ w1.heap.size 40000000001 _ K5.out.1 K5.out.2.1 (fun _ _ _ _ => rfl) (by omega) hr hc).mono ?_
   rintro x w6 ⟨rfl, hb6⟩
   have HF : Hid (StepOut B w w6 W T b1 b2 nx) := Hid.mk ⟨⟨_, _, _, K5.out.2.2.1.below hb6, by omega⟩, K5.out.2.2.2.trans (hb6.mono (by have := K5.out.2.2.2.size; omega))⟩
   clear hb6
   go_wp2_with fail
   go_ret
   exact ⟨rfl, HF.out⟩
open Go.RowKit R
theorem Rel.shown {es : List Ent} {ms : List Hm} {nx : Nat} (h : Rel es ms nx) {i : Nat} (hi : i < es.length) : ShowOut ms ((es[i].1 : Nat) : Int) es[i].2.1 0 := by
 obtain ⟨k, x, hk, hx, h1, h2⟩ := h.has es[i] (List.getElem_mem hi)
 exact .inl ⟨rfl, k, x, hk, hx, by omega, h2⟩
theorem idc_at (es : List Ent) (i : Nat) (hi : i < es.length) : (idc es)[i]? = some (.int .i64 ((es[i].1 : Nat) : Int)) := by simp [idc, hi]
theorem txc_at (es : List Ent) (i : Nat) (hi : i < es.length) : (txc es)[i]? = some (.string ⟨es[i].2.1.toArray⟩) := by simp [txc, hi]
theorem LInv.cells {B : Nat} {w : World} {W T b1 b2 : Nat} {ms : List Hm} {nx : Nat} {es : List Ent} (h : LInv B w W T b1 b2 ms nx es) : ∃ ioa icap lv toa tcap, w.cell? ⟨W, 0, none⟩ = some (.pointer (some ⟨T, 0, none⟩)) ∧ w.cell? ⟨W, 1, none⟩ = some (.slice ioa es.length icap) ∧ w.cell? ⟨W, 2, none⟩ = some lv ∧ w.cell? ⟨W, 3, none⟩ = some (.slice toa es.length tcap) ∧
 es.length ≤ icap ∧ icap ≤ 9223372036854775807 ∧ es.length ≤ tcap ∧ tcap ≤ 9223372036854775807 ∧ (∀ i (hi : i < es.length), (∃ g, ioa = some ⟨g, 0, none⟩ ∧ w.cell? ⟨g, i, none⟩ = some (.int .i64 ((es[i].1 : Nat) : Int))) ∧ (∃ g, toa = some ⟨g, 0, none⟩ ∧ w.cell? ⟨g, i, none⟩ = some (.string ⟨es[i].2.1.toArray⟩))) := by
 obtain ⟨-, ⟨hv, iv, lv, tv, h2, h3, h4, h5, -⟩, -⟩ := h
 obtain ⟨ioa, icap, rfl, a1, a2, -, a3⟩ := h3.shape
 obtain ⟨toa, tcap, rfl, d1, d2, -, d3⟩ := h5.shape
 rw [idc_len] at a1 a3 h2
 rw [txc_len] at d1 d3 h2
 obtain ⟨c0, c1, c2, c3, c4, c5, -⟩ := h2.cells
 refine ⟨ioa, icap, lv, toa, tcap, c0, c1, c2, c3, a1, a2, d1, d2, fun i hi => ⟨?_, ?_⟩⟩
 ·obtain ⟨g, e1, e2⟩ := a3 i hi
  exact ⟨g, e1, by rw [e2, idc_at es i hi]⟩
 ·obtain ⟨g, e1, e2⟩ := d3 i hi
  exact ⟨g, e1, by rw [e2, txc_at es i hi]⟩
theorem LInv.hcells {B : Nat} {w : World} {W T b1 b2 : Nat} {ms : List Hm} {nx : Nat} {es : List Ent} (h : LInv B w W T b1 b2 ms nx es) : ∃ (ls : List Hl) (ho : Option Addr) (hcap : Nat), w.cell? ⟨W, 5, none⟩ = some (.slice ho ls.length hcap) ∧ ls.length ≤ hcap ∧ hcap ≤ 9223372036854775807 ∧ ls.length ≤ nx ∧ nx ≤ 1000000 ∧
 ∀ i, i < ls.length → ∃ g b n, ho = some ⟨g, 0, none⟩ ∧ w.cell? ⟨g, i, none⟩ = some (.slice (some ⟨b, 0, none⟩) n n) ∧ n ≤ 5 ∧ ∀ j, j < n → w.cell? ⟨b, j, none⟩ = some (.int .i64 (-1 - (i : Int))) := by
 obtain ⟨hT, ⟨hv, iv, lv, tv, h2, -, -, -, -, -, ls, ⟨h3, -, h4⟩, h5, -⟩, -⟩ := h
 obtain ⟨ho, hcap, rfl, a1, a2, -, a3⟩ := h3.shape
 rw [hlc_len] at a1 a3 h2
 obtain ⟨-, -, -, -, -, c5, -⟩ := h2.cells
 refine ⟨ls, ho, hcap, c5, a1, a2, h5, hT.2.1.2.1, fun i hi => ?_⟩
 obtain ⟨g, rfl, e1⟩ := a3 i hi
 obtain ⟨d1, -, d3⟩ := h4 i hi
 have hg : (hlc ls)[i]? = some (hl1 (ls.getD i (0, 0))) := by simp [hlc, List.getD, hi]
 obtain ⟨ao, cap, hs, -, -, -, d4⟩ := d3.shape
 simp only [hl1, Value.slice.injEq, List.length_replicate] at hs
 obtain ⟨rfl, -⟩ := hs
 refine ⟨g, _, _, rfl, by rw [e1, hg]; rfl, d1, fun j hj => ?_⟩
 obtain ⟨g', e2, e3⟩ := d4 j (by simpa using hj)
 simp only [Option.some.injEq, Addr.mk.injEq] at e2
 rw [e2.1, e3, List.getElem?_replicate, if_pos hj]
set_option maxRecDepth 100000 in
set_option maxHeartbeats 4000000 in
theorem looks_any (B W T b1 b2 : Nat) (ms : List Hm) (nx : Nat) (es : List Ent) (w : World) (h : LInv B w W T b1 b2 ms nx es) :
 Calls Tryz.prog 78 #[.pointer (some ⟨W, 0, none⟩)] w fun x w' => x = .returned (.bool true) ∧ Below w.heap.size w w' := by
 have hle := h.le24
 have H := Hid.mk h
 obtain ⟨ioa, icap, lv, toa, tcap, c0, c1, c2, c3, -⟩ := h.cells
 obtain ⟨ls, ho, hcap, c5, f1, f2, f3, f4, f5⟩ := h.hcells
 have HLS := Hid.mk f5
 clear h f5
 go_enter Tryz.func78, Tryz.ntmps78
 go_wp2_with fail
 go_loopw [3] (fun i wr => ∃ k : Nat, k ≤ ls.length ∧ i = .int .i64 k ∧ Below w.heap.size w wr) (fun i _ => ls.length - (intOf i).toNat)
 case atStart => exact ⟨0, Nat.zero_le _, rfl, Below.refl _ _⟩
 case round =>
  obtain ⟨k0, hk0, rfl, hbel0⟩ := hrel
  have e5 := cell_later hbel0 c5
  have HB0 := Hid.mk hbel0
  have hw0 := hbel0.size
  clear c0 c1 c2 c3 c5
  by_cases hkl0 : k0 < ls.length
  ·obtain ⟨g, b, n, rfl, d1, hn5, d2⟩ := HLS.out k0 hkl0
   have d1' := cell_later hbel0 d1
   have HD := Hid.mk (And.intro d1 d2)
   clear d1 d2 hbel0
   go_wp2_with fail
   go_loopw [4] (fun j ws => ∃ m : Nat, m ≤ n ∧ j = .int .i64 m ∧ Below wr.heap.size wr ws) (fun j _ => n - (intOf j).toNat)
   case atStart => exact ⟨0, Nat.zero_le _, rfl, Below.refl _ _⟩
   case round =>
    rename World => ws
    obtain ⟨m, hm, rfl, hbel⟩ := hrel
    have e6 := cell_later hbel e5
    have d3 := cell_later hbel d1'
    have K := Hid.mk hbel
    clear e5 d1'
    by_cases hmn : m < n
    ·have d4 := cell_later (HB0.out.trans (hbel.mono hw0)) (HD.out.2 m hmn)
     clear hbel
     go_wp2_with fail
     go_roundw
     case measure => simp [intOf]; omega
     case rel => exact ⟨m + 1, by omega, by go_num, K.out⟩
    ·clear hbel
     go_wp2_with fail
     go_roundw
     case measure => simp [intOf]; omega
     case rel => exact ⟨k0 + 1, by omega, by go_num, HB0.out.trans (K.out.mono hw0)⟩
  clear hbel0
  replace H := Hid.mk (H.out.below HB0.out)
  go_wp2_with fail
  go_loopw [5] (fun i ws => ∃ k : Nat, k ≤ es.length ∧ i = .int .i64 k ∧ Below wr.heap.size wr ws) (fun i _ => es.length - (intOf i).toNat)
  case atStart => exact ⟨0, Nat.zero_le _, rfl, Below.refl _ _⟩
  case round =>
   rename World => ws
   obtain ⟨k, hk, rfl, hbel⟩ := hrel
   have hI := H.out.below hbel
   obtain ⟨ioa, icap, lv, toa, tcap, c0, c1, c2, c3, a1, a2, d1, d2, a3⟩ := hI.cells
   have K := Hid.mk (And.intro hI hbel)
   have hws := hbel.size
   clear hI hbel
   by_cases hkl : k < es.length
   ·obtain ⟨⟨gi, rfl, e1⟩, ⟨gt, rfl, e2⟩⟩ := a3 k hkl
    obtain ⟨hd, hhd⟩ : ∃ hd, hd = es[k].1 := ⟨_, rfl⟩
    obtain ⟨ST, hST⟩ : ∃ ST : ByteArray, ST = ⟨es[k].2.1.toArray⟩ := ⟨_, rfl⟩
    have hsh := K.out.1.2.2.shown hkl
    rw [← hhd] at e1 hsh
    rw [← hST] at e2
    have HSH := Hid.mk (And.intro hsh hST)
    clear a3 hsh hhd hST
    have istr : (ST.toList == ST.toList) = true := by simp
    go_upto_region 12 with fail
    go_cut [6, 7] from 51 to 65 (fun tt e wx => tt = .string ST ∧ e = .int .i64 0 ∧ Below ws.heap.size ws wx)
    case first =>
     have hki : (k : Int) < (es.length : Int) := by omega
     go_region_with (go_at_call 122; go_must (refine (twShow_any B T b1 b2 hd ms nx _ (K.out.1.1.below ((Below.refl _ _).drew))).mono ?_; rintro x w1 ⟨tt, e, rfl, hs, hb⟩; obtain ⟨rfl, rfl⟩ := show_uniq K.out.1.2.2.dst hs HSH.out.1))
     all_goals
      go_wp2_with fail
      go_meet
      case rel => exact ⟨by rw [HSH.out.2], rfl, ((Below.refl _ _).drew).trans hb⟩
    case rest =>
     obtain ⟨rfl, rfl, hbc⟩ := hcut
     have hI := K.out.1.below hbc
     have g3 : wc.cell? ⟨W, 3, none⟩ = some (.slice (some ⟨gt, 0, none⟩) es.length tcap) := cell_later hbc c3
     have g4 : wc.cell? ⟨gt, k, none⟩ = some (.string ST) := cell_later hbc e2
     have K2 := Hid.mk (K.out.2.trans (hbc.mono hws))
     have hki : (k : Int) < (es.length : Int) := by omega
     clear hI hbc c0 c1 c2 c3 e1 e2
     go_wp2_with fail
     go_roundw
     case measure => simp [intOf]; omega
     case rel => exact ⟨k + 1, by omega, by go_num, K2.out⟩
   ·clear a3
    go_wp2_with fail
    go_ret
    exact ⟨rfl, HB0.out.trans (K.out.2.mono hw0)⟩
open Go.RowKit R
def AtIs (es : List Ent) (h a : Int) : Prop := (a = -1 ∧ ∀ i (hi : i < es.length), ((es[i].1 : Nat) : Int) ≠ h) ∨ (∃ k, ∃ hk : k < es.length, a = (k : Int) ∧ ((es[k].1 : Nat) : Int) = h)
theorem AtIs.none {es : List Ent} {ms : List Hm} {nx : Nat} (h : Rel es ms nx) {hh : Int} (hn : ∀ i (hi : i < es.length), ((es[i].1 : Nat) : Int) ≠ hh) : ∀ k, k < 24 → ∀ x, ms.getD k none = some x → (x.1 : Int) ≠ hh := by
 intro k hk x hx e
 obtain ⟨en, hm, he⟩ := h.all k x hk hx
 obtain ⟨i, hi, rfl⟩ := List.mem_iff_getElem.1 hm
 exact hn i hi (by omega)
set_option maxRecDepth 100000 in
set_option maxHeartbeats 4000000 in
theorem shows_show (B W T b1 b2 : Nat) (ms : List Hm) (nx : Nat) (es : List Ent) (h : Int) (w : World) (hI : LInv B w W T b1 b2 ms nx es) :
 Calls Tryz.prog 112 #[.pointer (some ⟨W, 0, none⟩), .int .i64 h, .bool false] w fun x w' => x = .returned (.bool true) ∧ Below w.heap.size w w' := by
 have hle := hI.le24
 have H := Hid.mk hI
 obtain ⟨ioa, icap, lv, toa, tcap, c0, c1, c2, c3, a1, a2, d1, d2, a3⟩ := hI.cells
 have HA := Hid.mk a3
 clear hI a3
 go_enter Tryz.func112, Tryz.ntmps112
 go_wp2_with fail
 go_loopw [7, 8] (fun a i wr => ∃ (k : Nat) (az : Int), k ≤ es.length ∧ i = .int .i64 k ∧ a = .int .i64 az ∧ -1 ≤ az ∧ az < es.length ∧ Below w.heap.size w wr ∧ Hid (AtIs (es.take k) h az)) (fun _ i _ => es.length - (intOf i).toNat)
 case atStart => exact ⟨0, -1, Nat.zero_le _, rfl, rfl, by omega, by omega, Below.refl _ _, Hid.mk (.inl ⟨rfl, fun i hi => by simp at hi⟩)⟩
 case round =>
  obtain ⟨k, az, hk, rfl, rfl, haz1, haz2, hbel, HI⟩ := hrel
  have e0 := cell_later hbel c0
  have e1 := cell_later hbel c1
  have e3 := cell_later hbel c3
  have hwr := hbel.size
  have K := Hid.mk hbel
  clear hbel
  by_cases hkl : k < es.length
  ·obtain ⟨⟨gi, rfl, f1⟩, -⟩ := HA.out k hkl
   obtain ⟨hd, hhd⟩ : ∃ hd, hd = es[k].1 := ⟨_, rfl⟩
   rw [← hhd] at f1
   have f1' := cell_later K.out f1
   have HD := Hid.mk hhd
   have hki : (k : Int) < (es.length : Int) := by omega
   clear hhd f1
   have htake : ∀ i (hi : i < (es.take (k + 1)).length), i < k ∧ (∃ hi' : i < (es.take k).length, (es.take (k + 1))[i] = (es.take k)[i]) ∨ (i = k ∧ (es.take (k + 1))[i] = es[k]) := by
    intro i hi
    rw [List.length_take] at hi
    by_cases hik : i < k
    ·refine .inl ⟨hik, by rw [List.length_take]; omega, ?_⟩
     rw [List.getElem_take, List.getElem_take]
    ·have : i = k := by omega
     subst this
     exact .inr ⟨rfl, by rw [List.getElem_take]⟩
   have HTK := Hid.mk htake
   clear htake
   by_cases hdh : (hd : Int) = h
   ·have hb : ((hd : Int) == h) = true := beq_iff_eq.2 hdh
    have HDH := Hid.mk hdh
    clear hdh
    go_wp2_with fail
    try go_quiet (fail)
    try go_wp2_with fail
    go_roundw
    case measure => simp [intOf]; omega
    case rel =>
     refine ⟨k + 1, k, by omega, by go_num, by go_num, by omega, by omega, by first | exact K.out | exact below_drewN K.out _, Hid.mk (.inr ⟨k, by rw [List.length_take]; omega, rfl, ?_⟩)⟩
     rw [List.getElem_take, ← HD.out]
     exact HDH.out
   ·have hb : ((hd : Int) == h) = false := beq_eq_false_iff_ne.2 hdh
    have HDH := Hid.mk hdh
    clear hdh
    go_wp2_with fail
    try go_quiet (fail)
    try go_wp2_with fail
    go_roundw
    case measure => simp [intOf]; omega
    case rel =>
     refine ⟨k + 1, az, by omega, by go_num, rfl, by omega, by omega, by first | exact K.out | exact below_drewN K.out _, Hid.mk ?_⟩
     rcases HI.out with ⟨h1, h2⟩ | ⟨j, hj, h1, h2⟩
     ·refine .inl ⟨h1, fun i hi => ?_⟩
      rcases HTK.out i hi with ⟨_, hi', he⟩ | ⟨_, he⟩
      ·rw [he]; exact h2 i hi'
      ·rw [he, ← HD.out]; exact HDH.out
     ·refine .inr ⟨j, by rw [List.length_take] at hj ⊢; omega, h1, ?_⟩
      rw [List.getElem_take] at h2 ⊢
      exact h2
  ·have hat : AtIs es h az := by
    have := HI.out
    rw [List.take_of_length_le (by omega)] at this
    exact this
   have HAT := Hid.mk hat
   clear hat
   go_wp2_with fail
   refine (twShow_any B T b1 b2 h ms nx _ (H.out.1.below K.out)).mono ?_
   rintro x w1 ⟨tt, e, rfl, hs, hb⟩
   have hB1 := K.out.trans (hb.mono hwr)
   rcases HAT.out with ⟨rfl, hn⟩ | ⟨j, hj, rfl, hjh⟩
   ·have hno := AtIs.none H.out.2.2 hn
    obtain ⟨rfl, rfl⟩ := show_uniq H.out.2.2.dst hs (.inr ⟨rfl, rfl, hno⟩)
    have K1 := Hid.mk hB1
    clear hs hb hB1 hn hno
    go_wp2_with fail
    go_ret
    exact ⟨rfl, K1.out⟩
   ·have hsh := H.out.2.2.shown hj
    rw [hjh] at hsh
    obtain ⟨rfl, rfl⟩ := show_uniq H.out.2.2.dst hs hsh
    obtain ⟨-, ⟨gt, rfl, f2⟩⟩ := HA.out j hj
    obtain ⟨ST, hST⟩ : ∃ ST : ByteArray, ST = ⟨es[j].2.1.toArray⟩ := ⟨_, rfl⟩
    rw [← hST] at f2 ⊢
    have g3 := cell_later hB1 c3
    have g2 := cell_later hB1 f2
    have istr : (ST.toList == ST.toList) = true := by simp
    have hji : (j : Int) < (es.length : Int) := by omega
    have hj0 : ¬ ((j : Int) < 0) := by omega
    have K1 := Hid.mk hB1
    clear hs hb hB1 hsh hST f2 e0 e1 e3
    go_wp2_with fail
    go_ret
    exact ⟨rfl, K1.out⟩
open Go.RowKit R
def CutRow (w : World) (T : TypeId) (g : Nat) (xs : List Value) (j : Nat) (v' : Value) (w' : World) : Prop := RowG w' T v' (xs.take j ++ xs.drop (j + 1)) ∧ w.grownBy w' none ∧ (∀ g', v'.ownBlock = some g' → g' = g ∨ w.heap.size ≤ g')
theorem step_append_cut {P : Program} {ops : Array Oper} {o : Oper} {a : Act} {w : World} {K : Act → World → Prop} {Q : Exit → Act → World → Prop} {E : Prop}
 (hg : o.guard = none) (s x : Operand) (t : TypeId) (hop : o.op = Op.call { callee := Callee.builtin Builtin.append, args := #[s, x], argTypes := #[t, t] })
 (T : TypeId) (i : TypeInfo) (z : Value) (bytes : Nat) (h1 : P.underlying t = some (.slice T)) (h2 : P.info? T = some i) (h3 : i.zero = some z) (h4 : i.size = 1) (h5 : i.bytes = bytes) (h6 : z.cells.size = 1)
 (g n cap j : Nat) (xs : List Value) (hn : xs.length = n) (hrow : RowG w T (.slice (some ⟨g, 0, none⟩) n cap) xs) (hj : j < n) (A : Addr) (hA : (if cap = j + 1 then some (⟨g, 0, none⟩ : Addr) else some ⟨g, j + 1, none⟩) = some A)
 (hs : a.eval s = .slice (some ⟨g, 0, none⟩) j j) (hx : a.eval x = .slice (some A) (n - (j + 1)) (cap - (j + 1))) (h1c : ∀ u ∈ xs, u.oneCell' = true)
 (b1 : n ≤ 1000) (b2 : bytes ≤ 1000)
 (hK : ∀ v' w', CutRow w T g xs j v' w' → K (a.put o.dst v') w') :
 if Region.wanted o (yielded ops a.tmps) = true then Oper.wp P o a w K Q else E := by
 rcases id hrow with ⟨hbad, -⟩ | ⟨g', cap', cur, hv, q1, q2, q3, q4, q5⟩
 ·cases hbad
 ·simp only [Value.slice.injEq, Option.some.injEq, Addr.mk.injEq, and_true] at hv
  obtain ⟨rfl, _, rfl⟩ := hv
  subst hn
  have hcell : ∀ m u, xs[m]? = some u → w.cell? ⟨g, m, none⟩ = some u := fun m u hm => by
   have hm' : m < xs.length := by
    rcases Nat.lt_or_ge m xs.length with h | h
    ·exact h
    ·rw [List.getElem?_eq_none h] at hm; cases hm
   have := q5 m hm'
   rw [hm] at this
   simp only [World.cell?, q1]
   exact this
  by_cases hm : xs.length - (j + 1) = 0
  ·have hd : xs.drop (j + 1) = [] := List.drop_of_length_le (by omega)
   rw [hm] at hx
   refine step_append_room hg s x t hop T i 1 h1 h2 h4 g 0 j j hs A 0 (cap - (j + 1)) [] hx rfl (fun k u hk => by simp at hk) (fun u hu => by cases hu) (Nat.le_refl _) (fun k hk => by simp at hk) ?_
   refine hK _ _ ⟨?_, ⟨rfl, rfl, rfl, Nat.le_refl _, fun _ _ _ => rfl⟩, fun g' hg' => .inl ?_⟩
   ·rw [hd, List.append_nil]
    have hl : (xs.take j).length = j := by rw [List.length_take]; omega
    refine .inr ⟨g, j, cur, by rw [hl]; rfl, q1, by omega, by omega, by unfold maxLen; omega, fun k hk => ?_⟩
    rw [hl] at hk
    rw [q5 k (by omega), List.getElem?_take_of_lt hk]
   ·simp [Value.ownBlock] at hg'
    exact hg'.symm
  ·have hAe : A = ⟨g, j + 1, none⟩ := by
    rw [if_neg (by omega)] at hA
    injection hA with hA
    exact hA.symm
   subst hAe
   have hl : (xs.take j).length = j := by rw [List.length_take]; omega
   have hl2 : (xs.drop (j + 1)).length = xs.length - (j + 1) := by rw [List.length_drop]
   have hle : j + (xs.length - (j + 1)) ≤ 1000 := by omega
   refine step_append_grows hg s x t hop T i z 1 bytes h1 h2 h3 h4 h5 h6 (by decide) (some ⟨g, 0, none⟩) j j (xs.take j) hs (fun e => by cases e) (by rw [hl]; omega) (fun b hb k u hk => ?_) ⟨g, j + 1, none⟩ (xs.length - (j + 1)) (cap - (j + 1)) (xs.drop (j + 1)) hx (by rw [hl2]; omega) (fun k u hk => ?_) (fun u hu => h1c u (List.mem_of_mem_drop hu)) (by omega) (by unfold maxLen; omega) (Nat.le_trans (Nat.mul_le_mul hle b2) (by decide)) ?_
   ·injection hb with hb
    subst hb
    have hk' : k < j := by
     rcases Nat.lt_or_ge k j with h | h
     ·exact h
     ·rw [List.getElem?_eq_none (by omega)] at hk; cases hk
    rw [List.getElem?_take_of_lt hk'] at hk
    have e : Addr.add ⟨g, 0, none⟩ k = ⟨g, k, none⟩ := by simp [Addr.add]; exact fun h => h.symm
    rw [e]
    exact hcell k u hk
   ·rw [List.getElem?_drop] at hk
    have e : Addr.add ⟨g, j + 1, none⟩ k = ⟨g, j + 1 + k, none⟩ := by simp [Addr.add]; try omega
    rw [e]
    exact hcell (j + 1 + k) u hk
   ·intro v' w' r1 r2
    refine hK v' w' ⟨RowG.of_owns (B := w.heap.size) ?_, r2, fun g' hg' => .inr (World.ownsRow.lt r1 g' hg').1⟩
    rw [List.length_append, hl, hl2]
    exact r1
theorem cut_row {w2 X w' : World} {W f jj g : Nat} {Tt : TypeId} {v' : Value} {xs : List Value} (hW : Ty w2 W 129) (hX : Below w2.heap.size w2 X) (hA : CutRow X Tt g xs jj v' w') (hT : Tt ≠ 129) :
 RowG (w'.setCell ⟨W, f, none⟩ v') Tt v' (xs.take jj ++ xs.drop (jj + 1)) ∧ Chg (fun k => k = W) w2 (w'.setCell ⟨W, f, none⟩ v') ∧ w'.heap[W]? = w2.heap[W]? ∧ (∀ g', v'.ownBlock = some g' → g' = g ∨ w2.heap.size ≤ g') := by
 obtain ⟨hr, hg, ho⟩ := hA
 have hlt := hW.lt
 have hXs := hX.size
 have hWb : w'.heap[W]? = X.heap[W]? := hg.block W (by omega) (by simp)
 have hWX : Ty X W 129 := hW.below hX hlt
 have hW' : Ty w' W 129 := by
  obtain ⟨c, fr, h1⟩ := hWX
  exact ⟨c, fr, by rw [hWb]; exact h1⟩
 have hb : Below X.heap.size X w' := ⟨hg.os, hg.tape, hg.output, hg.size, fun k hk => hg.block k hk (by simp)⟩
 refine ⟨hr.of_block (fun g hg' => ?_), ?_, hWb.trans (hX.block W hlt), fun g' hg' => ?_⟩
 ·exact Below.heap_setCell _ _ _ _ (fun e => ty_ne (hr.own g hg').2 hW' hT (by simpa using e))
 ·exact ((Chg.of_below hX).trans (Chg.of_below hb)).trans (Chg.setW (S := fun k => k = W) hW' (by decide) (by decide) rfl _)
 ·rcases ho g' hg' with h | h
  ·exact .inl h
  ·exact .inr (by omega)
theorem RowG.keepW {w2 wx : World} {W : Nat} {Tt : TypeId} {r : Value} {ys : List Value} (h : RowG w2 Tt r ys) (hW : Ty w2 W 129) (hnW : Tt ≠ 129) (hc : Chg (fun k => k = W) w2 wx) : RowG wx Tt r ys :=
 h.chg hc (fun k hk hs => ty_ne (h.own k hk).2 hW hnW hs)
theorem idc_cut (es : List Ent) (j : Nat) : (idc es).take j ++ (idc es).drop (j + 1) = idc (es.take j ++ es.drop (j + 1)) := by simp [idc, List.map_take, List.map_drop]
theorem lpc_cut (es : List Ent) (j : Nat) : (lpc es).take j ++ (lpc es).drop (j + 1) = lpc (es.take j ++ es.drop (j + 1)) := by simp [lpc, List.map_take, List.map_drop]
theorem txc_cut (es : List Ent) (j : Nat) : (txc es).take j ++ (txc es).drop (j + 1) = txc (es.take j ++ es.drop (j + 1)) := by simp [txc, List.map_take, List.map_drop]
theorem idc_one (es : List Ent) : ∀ u ∈ idc es, u.oneCell' = true := by
 intro u hu
 obtain ⟨e, -, rfl⟩ := List.mem_map.1 hu
 rfl
theorem lpc_one (es : List Ent) : ∀ u ∈ lpc es, u.oneCell' = true := by
 intro u hu
 obtain ⟨e, -, rfl⟩ := List.mem_map.1 hu
 rfl
theorem txc_one (es : List Ent) : ∀ u ∈ txc es, u.oneCell' = true := by
 intro u hu
 obtain ⟨e, -, rfl⟩ := List.mem_map.1 hu
 rfl
theorem addr_if (g cap j : Nat) : ∃ A : Addr, (if cap = j + 1 then some (⟨g, 0, none⟩ : Addr) else some ⟨g, j + 1, none⟩) = some A := by
 by_cases h : cap = j + 1
 ·exact ⟨_, by rw [if_pos h]⟩
 ·exact ⟨_, by rw [if_neg h]⟩
end Go.Proofs.YtfjbijpagaipnabGreatDoor
