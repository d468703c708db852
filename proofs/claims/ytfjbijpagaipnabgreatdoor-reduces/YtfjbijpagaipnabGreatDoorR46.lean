import Derived.Test.YtfjbijpagaipnabGreatDoorCards
import Derived.Test.YtfjbijpagaipnabGreatDoorTie
import Derived.Test.YtfjbijpagaipnabGreatDoorR24
import Derived.Test.YtfjbijpagaipnabGreatDoorR44
import Derived.Test.YtfjbijpagaipnabGreatDoorR45
import Derived.ProofKit
import Derived.LaidMore
import Derived.OpenShut
import Derived.Stop.Joined
import Derived.SevenTiedAt
import Derived.Stop.LaidErr
namespace Go.Proofs.YtfjbijpagaipnabGreatDoor
open Go.ChangeShapes Go.WideShapes Go.ChangeAt Go.RowKit
theorem plain_of_in13 {o : OpD} (h : inK [13] o = true) : (o.kd = 1 ∨ o.kd = 2 ∨ o.kd = 3) ∨ o.kd = 13 := by
 simp [inK, pl] at h
 omega
set_option maxRecDepth 100000 in
theorem Reduces_any (ops : List OpD) (ao : Option Addr) (cap : Nat) (w : World) (htab : Tab w) (hrow : ScrAt w ao ops) (hn : ops.length ≤ 281474976710656) (hs : ∀ o ∈ ops, o.s.size ≤ 281474976710656 ∧ o.t.size ≤ 281474976710656) (hab : ∀ o ∈ ops, (-9223372036854775808 ≤ o.a ∧ o.a ≤ 9223372036854775807) ∧ (-9223372036854775808 ≤ o.b ∧ o.b ≤ 9223372036854775807)) :
 Calls Tryz.prog 5 #[.slice ao ops.length cap] w fun x w' => x = .returned (.bool true) ∧ Below w.heap.size w w' := by
 have H := Hid.mk (And.intro htab (And.intro hrow (And.intro hs hab)))
 clear htab hrow hs hab
 go_enter Tryz.func5, Tryz.ntmps5
 go_wp2_with fail
 have hbA : Below w.heap.size w (w.alloc (.cells #[.int .i64 13] 3)) := (Below.refl _ _).alloc (Nat.le_refl _) _
 have HBA := Hid.mk hbA
 have hks : KsAt (w.alloc (.cells #[.int .i64 13] 3)) (some ⟨w.heap.size, 0, none⟩) [13] := fun j hj => by
  obtain rfl : j = 0 := by simpa using hj
  exact ⟨w.heap.size, 0, rfl, by simp, by simp⟩
 refine (plays_any ops ao cap [13] (some ⟨w.heap.size, 0, none⟩) 1 _ (H.out.1.below hbA) (H.out.2.1.below hbA (Nat.le_refl _)) hks (by simp) hn H.out.2.2.1 ?_).mono ?_
 ·intro w2 ao2 cap2 ht h1 h2 h3
  refine upTo_any _ (step_plain.or step_reduced) _ ao2 cap2 w2 ht h3 ?_ ?_
  ·have := List.length_filter_le (inK [13]) ops
   omega
  ·intro o ho
   obtain ⟨m1, m2⟩ := List.mem_filter.1 ho
   have := bulk_mem m1
   obtain ⟨q1, q2⟩ := H.out.2.2.2 o m1
   exact ⟨⟨q1, q2, by omega⟩, plain_of_in13 m2⟩
 ·rintro x w1 ⟨rfl, hb⟩
  have K := Hid.mk (HBA.out.trans (hb.mono HBA.out.size))
  clear hb hbA hks
  go_wp2_with fail
  go_ret
  exact ⟨rfl, K.out⟩
theorem ownP : ownKnob Tryz.prog.godebug = none := by kernel_rfl
theorem laidOutP : laidOutB Tryz.prog = true := by kernel_rfl
theorem laid_pow : Rows.laid_internal_strconv_uint64pow10 = (Lib.tabData .u64 Lib.pow10Tab : DataW Unit) := by kernel_rfl
theorem gPow : Tryz.prog.globalNamed "internal/strconv.uint64pow10" = some ((Tryz.prog.globalNamed "internal/strconv.uint64pow10").getD 0) := by kernel_rfl
theorem gPowType : (Tryz.prog.globals[(Tryz.prog.globalNamed "internal/strconv.uint64pow10").getD 0]?).map (·.type) = some 193 := by kernel_rfl
theorem cellsU64 : Tryz.prog.cellsOf 117 = 1 := by kernel_rfl
theorem cellsTab : Tryz.prog.cellsOf 193 = 20 := by kernel_rfl
theorem tab_of_laid {W : World} (h : laidMet Tryz.prog Rows.reducesRow.laid W) : Tab W := by
 have h2 : laidMet Tryz.prog [("internal/strconv.uint64pow10", Lib.tabData .u64 Lib.pow10Tab)] W := by
  have h3 := laidMet.tail (laidMet.tail h)
  rw [laid_pow] at h3
  exact h3
 exact Lib.tabIs_of_head gPow gPowType Tryz.underlying193 Tryz.underlying117 cellsU64 cellsTab h2
theorem door_met (os : Os) (args : Array Value) : laidMet Tryz.prog Rows.reducesRow.laid ((World.doorLaid Tryz.prog 2000 os).forCall (fun _ _ => 0) ⟨#[], args, []⟩).memory :=
 laidMet_of_run' 8 (by kernel_rfl) (by kernel_rfl)
set_option maxRecDepth 100000 in
theorem reduces_lifted (os : Os) (started : os.Started) (H : Type) (enc : TypeId × Value → H) :
 ReturnsInHanded {} Tryz.checked os 5 .any (fun w args => (Rows.reducesSpec.pre enc Tryz.prog Tryz.f5 [] false w args ∧ laidMet Tryz.prog Rows.reducesRow.laid w) ∧ sizedMet enc Tryz.prog Tryz.f5 (OpenSpec.ofChange Rows.reducesSpec) false w args)
  (Rows.reducesSpec.post enc Tryz.prog Tryz.f5 false true false false) := by
 refine returnsInHanded_of_change_and (C := Tryz.checked) (X := fun w _ => laidMet Tryz.prog Rows.reducesRow.laid w) (fun _ _ _ hh h => h.of_heap hh) ownP started (by kernel_rfl) Tryz.func5
  (ChangeSpec.witness_shaped (enc := enc) (C := Tryz.checked) (os := os) (X := fun w _ => laidMet Tryz.prog Rows.reducesRow.laid w) false (World.doorLaid Tryz.prog 2000 os) #[.slice none 0 0] 8 rfl (World.shaped_of_RefB (by kernel_rfl) (by kernel_rfl)) (by kernel_rfl) (by kernel_rfl) (by kernel_rfl) (door_met os _)) ?_
 intro W base args ds gs before hval0 hW _ hsz0 hL _
 have hsz : (DataW.weightsEach Tryz.prog (Tryz.f5.params.toList ++ Rows.reducesSpec.plain.varTypes Tryz.prog) (ds ++ gs)).all (· ≤ reachBytes) = true := hsz0
 clear hsz0
 have hval : ∀ (j : Nat) t v, Tryz.f5.params[j]? = some t → args[j]? = some v → Value.okWide Tryz.prog W .any base t v := hval0
 have hW' := hW
 obtain ⟨p, q, hA0, hV, rfl, hfz, hnd⟩ := hW
 have hA : DataW.TrodAll enc Tryz.prog W 0 (fun _ => true) true Tryz.f5.params.toList args.toList ds p := hA0
 rw [Tryz.params5] at hA hval hsz
 obtain ⟨v0, vs0, d0, ds0, p0, q0, hargs, rfl, rfl, h0, r0⟩ := trodAll_cons hA
 obtain ⟨rfl, rfl, rfl⟩ := trodAll_nil r0
 obtain rfl : args = #[v0] := by cases args; simp_all
 obtain ⟨rfl, rfl⟩ := trodVars_none hV
 clear hA0 hval0
 simp only [List.append_nil] at hW'
 have hlt : ∀ x ∈ p0, x.block < W.heap.size := fun x hx => by simpa using hW'.lt x hx
 obtain ⟨a0, len, cap0, rfl⟩ := okWide_slice Tryz.underlying49 (hval 0 49 v0 rfl rfl)
 have h0k := h0
 obtain ⟨fuel, hf⟩ := h0
 have hwt : ∀ n ∈ d0.weights Tryz.prog 49, n ≤ reachBytes := fun n hn => of_decide_eq_true (List.all_eq_true.1 hsz n (DataW.weights_mem_each (j := 0) rfl rfl n hn))
 obtain ⟨ops, ao, cap, hv, hn, hscr, hs, hab⟩ := script_of_trod (x := (d0, p0)) (by simpa [Value.cells] using hf) hwt
 rw [hv] at h0k hW' ⊢
 refine (Reduces_any ops ao cap W (tab_of_laid hL) hscr hn hs hab).mono fun e W' ⟨he, hB⟩ => ?_
 subst he
 exact ⟨_, rfl, _, _, _, [], p0 ++ [], [], hW', trodAll_cons_mk (shut_bool Tryz.underlying4 _) trodAll_mk0, trodAll_cons_mk (Below.trod laidOutP (by kernel_rfl) (of_decide_eq_true (by kernel_rfl)) h0k hB hlt) trodAll_mk0, rfl, hB.frame _, fun h => by cases h⟩
theorem reduces_row_holds : Rows.ReducesSaid :=
 OpenClaim.holds_of_wide 5 Tryz.f5 rfl rfl rfl rfl rfl rfl rfl ⟨rfl, rfl, rfl, rfl, rfl⟩ rfl rfl rfl rfl rfl (by kernel_rfl) Tryz.func5 reduces_facts
  (of_decide_eq_true (by kernel_rfl)) (by unfold Func.isWrapper; first | (rw [if_pos (by decide +kernel)]; kernel_rfl) | (rw [if_neg (by decide +kernel)]; exact ⟨rfl, rfl⟩))
  (fun os started H enc _ => reduces_lifted os started H enc)
theorem reduces_card_holds : Rows.ReducesCardSaid :=
 Claim7.holds_tied_plain_at .later [] [.data, .data, .data] true Rows.reducesCard.stood.harness false
  reduces_row_holds (fun _ h => by cases h) (by kernel_rfl) (fun _ h => by cases h) reduces_row_tie rfl ⟨rfl, rfl⟩ (by kernel_rfl) rfl
  (fun f fn hf hfn => by
    obtain rfl : f = 5 := Option.some.inj ((show Tryz.prog.funcNamed "matrices/matriceslaw.Reduces" = some 5 by kernel_rfl).symm.trans hf) |>.symm
    obtain rfl : fn = Tryz.f5 := (Option.some.inj (Tryz.func5.symm.trans hfn)).symm
    exact ⟨by kernel_rfl, fun j t ht => by
     rw [Tryz.params5] at ht
     have hm : t ∈ [49] := by simpa using Array.mem_of_getElem? ht
     have hall : ([49].all fun u => !Tryz.prog.wantsStandIn u) = true := by kernel_rfl
     exact (show Tryz.prog.wantsStandIn t = false by simpa using List.all_eq_true.1 hall t hm)⟩)
  (by kernel_rfl)
#print axioms reduces_card_holds
end Go.Proofs.YtfjbijpagaipnabGreatDoor
