import Derived.Test.YtfjbijpagaipnabGreatDoorS31
import Derived.Test.YtfjbijpagaipnabGreatDoorS23
import Derived.Test.YtfjbijpagaipnabGreatDoorS15
namespace Go.Proofs.YtfjbijpagaipnabGreatDoor
open Go.RowKit
def RdL (w : World) (s : ByteArray) (p : Nat) (S : PS) (i m l n neg som : Value) (wr : World) (k : Nat) (q : PS) (B' : Nat) : Prop :=
 (p < k ∧ k ≤ s.size + 1) ∧ i = .int .i64 k ∧ n = .int .i64 (q.n : Nat) ∧ neg = .bool q.neg ∧ som = .bool q.som ∧ q.n ≤ 1073741824 ∧ q.l.length ≤ k ∧ q.m.length ≤ k ∧ B' ≤ wr.heap.size ∧ w.heap.size ≤ B' ∧ Hid (RMs w.heap.size B' wr m q.m ∧ OI B' wr l q.l ∧ Below w.heap.size w wr ∧ (k ≤ s.size → q.go (s.data.toList.drop k) = some S) ∧ (k = s.size + 1 → q.m = S.rows))
theorem OI.low {B B' : Nat} {w : World} {v : Value} {zs : List Int} (h : OI B w v zs) (hB : B' ≤ B) : OI B' w v zs := by
 refine ⟨h.1, ?_⟩
 rcases h.2 with h2 | ⟨g, cap, cur, hv, hg, r⟩
 ·exact .inl h2
 ·exact .inr ⟨g, cap, cur, hv, by omega, r⟩
theorem OI.below {B : Nat} {w w' : World} {v : Value} {zs : List Int} (h : OI B w v zs) (hb : Below w.heap.size w w') : OI B w' v zs := ownsRow_of h (fun g hg => hb.block g (ownsRow_ty h g hg).2.2)
set_option maxRecDepth 100000 in
set_option maxHeartbeats 8000000 in
theorem read_any (s : ByteArray) (p : Nat) (S : PS) (w : World) (hs : s.size ≤ 1000000) (hp : p < s.size) (h58 : (s[p]'hp).toNat = 58) (hpre : ∀ j (hj : j < p), (s[j]'(by omega)).toNat ≠ 58) (hsig : ∀ j (hj : j < s.size), p < j → (48 ≤ (s[j]'hj).toNat ∧ (s[j]'hj).toNat ≤ 57) ∨ (s[j]'hj).toNat = 45 ∨ (s[j]'hj).toNat = 59 ∨ (s[j]'hj).toNat = 32) (hgo : PS.go ⟨[], [], 0, false, false⟩ (s.data.toList.drop (p + 1)) = some S) :
 Calls Tryz.prog 49 #[.string s] w fun e w' => ∃ v B', e = .returned (.tuple #[v, .bool true]) ∧ RMs w.heap.size B' w' v S.rows ∧ Below w.heap.size w w' := by
 have H := Hid.mk (And.intro h58 (And.intro hpre hgo))
 have HSIG := Hid.mk hsig
 clear h58 hpre hgo hsig
 go_enter Tryz.func49, Tryz.ntmps49
 go_wp2_with fail
 go_loopw [4] (fun i wr => ∃ k : Nat, k ≤ p ∧ i = .int .i64 k ∧ Below w.heap.size w wr) (fun i _ => p - (intOf i).toNat)
 case atStart => exact ⟨0, Nat.zero_le _, rfl, Below.refl _ _⟩
 case round =>
  rename World => w0
  obtain ⟨k, hk, rfl, hb0⟩ := hrel
  have HB0 := Hid.mk hb0
  have hw0 := hb0.size
  clear hb0
  have hks : k < s.size := by omega
  have hki : (k : Int) < (s.size : Int) := by omega
  obtain ⟨x, hx⟩ : ∃ x, x = s[k]'hks := ⟨_, rfl⟩
  have hxe : (s[k]'hks).toNat = x.toNat := by rw [hx]
  by_cases hkp : k < p
  ·have hb : ((x.toNat : Int) != 58) = true := by
    have := H.out.2.1 k hkp
    rw [hxe] at this
    simp; omega
   clear hx
   go_wp2_with fail
   go_roundw
   case measure => simp [intOf]; omega
   case rel => exact ⟨k + 1, by omega, by go_num, HB0.out⟩
  ·obtain rfl : k = p := by omega
   have hb : ((x.toNat : Int) != 58) = false := by
    have := H.out.1
    rw [hxe] at this
    simp; omega
   clear hx hkp hk
   go_wp2_with fail
   go_loopw [4, 5, 6, 7, 8, 9] (fun i m l n neg som wr => ∃ k' q B', RdL w s k S i m l n neg som wr k' q B') (fun i _ _ _ _ _ _ => s.size + 1 - (intOf i).toNat)
   case atStart => exact ⟨k + 1, ⟨[], [], 0, false, false⟩, w.heap.size, ⟨by omega, by omega⟩, by go_num, rfl, rfl, rfl, by simp, by simp, by simp, hw0, Nat.le_refl _, Hid.mk ⟨RMs.nil _ _ _, OI.nil _ _, HB0.out, fun _ => H.out.2.2, fun h => by omega⟩⟩
   case round =>
    rename World => wr
    clear hxe hb
    obtain ⟨j, ⟨qm, ql, qn, qneg, qsom⟩, B', ⟨hpj, hj⟩, rfl, rfl, rfl, rfl, hn, hll, hml, hB1, hB2, HI⟩ := hrel
    simp only at hn hll hml HI ⊢
    obtain ⟨mo, mcap, rfl, hmc1, hmc2⟩ := HI.out.1.shape
    obtain ⟨lo, lcap, rfl, hlc1, hlc2, -⟩ := HI.out.2.1.shape
    obtain ⟨ln, hln⟩ : ∃ ln, ln = ql.length := ⟨_, rfl⟩
    obtain ⟨mn, hmn⟩ : ∃ mn, mn = qm.length := ⟨_, rfl⟩
    rw [← hln] at hlc1 hll HI ⊢
    rw [← hmn] at hmc1 hml HI ⊢
    have HLN := Hid.mk hln
    have HMN := Hid.mk hmn
    clear hln hmn
    by_cases hjs : j < s.size
    ·have hji : (j : Int) < (s.size : Int) := by omega
     have hjl : (j : Int) ≤ (s.size : Int) := by omega
     obtain ⟨x, hx⟩ : ∃ x, x = s[j]'hjs := ⟨_, rfl⟩
     have hxe : (s[j]'hjs).toNat = x.toNat := by rw [hx]
     have hdr : s.data.toList.drop j = x :: s.data.toList.drop (j + 1) := by
      rw [List.drop_eq_getElem_cons (show j < s.data.toList.length from by simpa using hjs), hx]
      rfl
     have hst := HI.out.2.2.2.1 (by omega)
     rw [hdr, PS.go] at hst
     have hx255 : x.toNat < 256 := x.toNat_lt
     have HST := Hid.mk hst
     have hsg := HSIG.out j hjs hpj
     rw [hxe] at hsg
     have HSG := Hid.mk hsg
     clear hx hdr hst hsg
     by_cases hd : 48 ≤ x.toNat ∧ x.toNat ≤ 57
     ·obtain ⟨hd1, hd2⟩ := hd
      have hd1i : (48 : Int) ≤ (x.toNat : Int) := by omega
      have hd2i : (x.toNat : Int) ≤ (57 : Int) := by omega
      have hnew : 10 * qn + (x.toNat - 48) ≤ 1073741824 := by
       have := HST.out
       unfold PS.step at this
       rw [if_pos ⟨hd1, hd2⟩] at this
       rcases Nat.lt_or_ge 1073741824 (10 * qn + (x.toNat - 48)) with h | h
       ·rw [if_pos h] at this; cases this
       ·exact h
      go_wp2_with fail
      go_roundw
      case measure => simp [intOf]; omega
      case rel =>
       refine ⟨j + 1, ⟨qm, ql, 10 * qn + (x.toNat - 48), qneg, true⟩, B', ⟨by omega, by omega⟩, by go_num, ?_, rfl, rfl, hnew, by have := HLN.out; have := HMN.out; simp; omega, by have := HLN.out; have := HMN.out; simp; omega, hB1, hB2, Hid.mk ⟨HI.out.1, HI.out.2.1, HI.out.2.2.1, fun _ => ?_, fun h => by omega⟩⟩
       ·simp only
        congr 1
        omega
       ·have := HST.out
        unfold PS.step at this
        rw [if_pos ⟨hd1, hd2⟩, if_neg (by simp only; omega)] at this
        exact this
     ·skip
      by_cases h45 : x.toNat = 45
      ·have h45i : (x.toNat : Int) = 45 := by omega
       have HH := Hid.mk h45
       clear h45 hd
       go_wp2_with fail
       go_roundw
       case measure => simp [intOf]; omega
       case rel =>
        refine ⟨j + 1, ⟨qm, ql, qn, true, qsom⟩, B', ⟨by omega, by omega⟩, by go_num, rfl, rfl, rfl, hn, by have := HLN.out; have := HMN.out; simp; omega, by have := HLN.out; have := HMN.out; simp; omega, hB1, hB2, Hid.mk ⟨HI.out.1, HI.out.2.1, HI.out.2.2.1, fun _ => ?_, fun h => by omega⟩⟩
        have := HST.out
        unfold PS.step at this
        rw [if_neg (by rw [HH.out]; omega), if_pos HH.out] at this
        exact this
      ·by_cases h59 : x.toNat = 59
       ·have h59i : (x.toNat : Int) = 59 := by omega
        have hst : PS.step ⟨qm, ql, qn, qneg, qsom⟩ x = some ⟨PS.rows ⟨qm, ql, qn, qneg, qsom⟩, [], 0, false, false⟩ := by
         unfold PS.step
         rw [if_neg (by omega), if_neg h45, if_pos h59]
        have HST := Hid.mk (show PS.go ⟨PS.rows ⟨qm, ql, qn, qneg, qsom⟩, [], 0, false, false⟩ (s.data.toList.drop (j + 1)) = some S from by have := HST.out; rw [hst] at this; exact this)
        clear hst hd h45 h59
        cases qsom with
        | false =>
          by_cases hl0 : ln = 0
          ·have hle : ql = [] := List.eq_nil_of_length_eq_zero (by have := HLN.out; omega)
           subst hl0
           go_wp2_with fail
           go_roundw
           case measure => simp [intOf]; omega
           case rel =>
            have hrw : PS.rows ⟨qm, ql, qn, qneg, false⟩ = qm := by unfold PS.rows PS.put; simp [hle]
            refine ⟨j + 1, ⟨qm, [], 0, false, false⟩, B', ⟨by omega, by omega⟩, by go_num, rfl, rfl, rfl, by simp, by simp, by have := HLN.out; have := HMN.out; simp; omega, hB1, hB2, Hid.mk ⟨HI.out.1, OI.nil _ _, HI.out.2.2.1, ?_, ?_⟩⟩
            ·exact fun _ => by rw [← hrw]; exact HST.out
            ·exact fun h => by omega
          ·have hl1 : (0 : Int) < (ln : Int) := by omega
           go_wp2_with (at_builtin; refine append_mrow _ rfl _ _ rfl w.heap.size B' _ qm rfl ?_ ⟨_, 0, none⟩ rfl (.slice lo ln lcap) ql ?_ ?_ ?_ ?_ ?_ ?_)
           any_goals first | exact HI.out.1.below ((Below.refl _ _).alloc (Nat.le_refl _) _) | exact (HI.out.2.1.below ((Below.refl _ _).alloc (Nat.le_refl _) _)).low hB2 | (simp [Addr.add]; done) | (have := HMN.out; omega) | (simp; omega)
           intro v' w' k1 k2 k3
           have hbel : Below w.heap.size w w' := (HI.out.2.2.1.alloc (by omega) _).grown k2 (by simp; omega) k3
           obtain ⟨mo', mcap', hmv, -⟩ := k1.shape
           have hmlen : (qm ++ [ql]).length = mn + 1 := by have := HMN.out; simp; omega
           rw [hmlen] at hmv
           subst hmv
           have hw' := hbel.size
           have KR := Hid.mk (And.intro k1 hbel)
           clear k1 k2 k3 hbel
           go_wp2_with fail
           go_roundw
           case measure => simp [intOf]; omega
           case rel =>
            have hrw : PS.rows ⟨qm, ql, qn, qneg, false⟩ = qm ++ [ql] := by
             unfold PS.rows PS.put
             simp only [Bool.false_eq_true, if_false]
             rw [if_neg (fun e => by have := HLN.out; rw [e] at this; simp at this; omega)]
            refine ⟨j + 1, ⟨qm ++ [ql], [], 0, false, false⟩, w'.heap.size, ⟨by omega, by omega⟩, by go_num, rfl, rfl, rfl, by simp, by simp, by have := HLN.out; have := HMN.out; simp; omega, Nat.le_refl _, hw', Hid.mk ⟨KR.out.1, OI.nil _ _, KR.out.2, ?_, ?_⟩⟩
            ·exact fun _ => by rw [← hrw]; exact HST.out
            ·exact fun h => by omega
        | true =>
          obtain ⟨z, hz⟩ : ∃ z : Int, z = if qneg then -(qn : Int) else (qn : Int) := ⟨_, rfl⟩
          have hput : PS.put ⟨qm, ql, qn, qneg, true⟩ = ql ++ [z] := by unfold PS.put; simp only [if_true]; rw [hz]
          have HPUT := Hid.mk hput
          have HTY := Hid.mk (ownsRow_ty HI.out.2.1)
          clear hput
          cases qneg with
          | true =>
            have hz' : z = -(qn : Int) := by rw [hz]; rfl
            subst hz'
            clear hz
            go_wp2_with (at_builtin; refine append_zint _ rfl _ _ rfl B' _ ql rfl ?_ ⟨_, 0, none⟩ rfl (-(qn : Int)) ?_ ?_ ?_ ?_)
            any_goals first | exact HI.out.2.1.below ((Below.refl _ _).alloc (Nat.le_refl _) _) | (simp [Addr.add]; done) | (have := HLN.out; omega) | (simp; omega)
            intro v' w' q1 q2
            have hrm : RMs w.heap.size B' w' (.slice mo mn mcap) qm := (HI.out.1.below ((Below.refl _ _).alloc (Nat.le_refl _) (.cells #[.int .i64 (-(qn : Int))] 3))).grown q2 (fun g hg => ⟨(HTY.out g hg).1, Ty.below (HTY.out g hg).2.1 ((Below.refl _ _).alloc (Nat.le_refl _) _) (HTY.out g hg).2.2⟩)
            have hbel : Below w.heap.size w w' := (HI.out.2.2.1.alloc (by omega) _).grown q2 (by simp; omega) (fun g hg => by have := (HTY.out g hg).1; omega)
            have hsz := q2.size
            simp at hsz
            obtain ⟨lo', lcap', hlv, -⟩ := q1.shape
            have hllen : (ql ++ [-(qn : Int)]).length = ln + 1 := by have := HLN.out; simp; omega
            rw [hllen] at hlv
            subst hlv
            have KA := Hid.mk (And.intro hrm (And.intro q1 hbel))
            clear hrm q1 q2 hbel
            have hl1 : (0 : Int) < ((ln + 1 : Nat) : Int) := by omega
            go_wp2_with (at_builtin; refine append_mrow _ rfl _ _ rfl w.heap.size B' _ qm rfl ?_ ⟨_, 0, none⟩ rfl (.slice lo' (ln + 1) lcap') (ql ++ [-(qn : Int)]) ?_ ?_ ?_ ?_ ?_ ?_)
            any_goals first | exact KA.out.1.below ((Below.refl _ _).alloc (Nat.le_refl _) _) | exact (KA.out.2.1.below ((Below.refl _ _).alloc (Nat.le_refl _) _)).low hB2 | (simp [Addr.add]; done) | (have := HMN.out; omega) | (simp; omega)
            intro v'' w'' k1 k2 k3
            have hbel : Below w.heap.size w w'' := (KA.out.2.2.alloc (by omega) _).grown k2 (by simp; omega) k3
            obtain ⟨mo', mcap', hmv, -⟩ := k1.shape
            have hmlen : (qm ++ [ql ++ [-(qn : Int)]]).length = mn + 1 := by have := HMN.out; simp; omega
            rw [hmlen] at hmv
            subst hmv
            have hw' := hbel.size
            have KR := Hid.mk (And.intro k1 hbel)
            clear k1 k2 k3 hbel
            go_wp2_with fail
            go_roundw
            case measure => simp [intOf]; omega
            case rel =>
             have hrw : PS.rows ⟨qm, ql, qn, true, true⟩ = qm ++ [ql ++ [-(qn : Int)]] := by
              unfold PS.rows
              rw [HPUT.out, if_neg (by simp)]
             refine ⟨j + 1, ⟨qm ++ [ql ++ [-(qn : Int)]], [], 0, false, false⟩, w''.heap.size, ⟨by omega, by omega⟩, by go_num, rfl, rfl, rfl, by simp, by simp, by have := HLN.out; have := HMN.out; simp; omega, Nat.le_refl _, hw', Hid.mk ⟨KR.out.1, OI.nil _ _, KR.out.2, ?_, ?_⟩⟩
             ·exact fun _ => by rw [← hrw]; exact HST.out
             ·exact fun h => by omega
          | false =>
            have hz' : z = (qn : Int) := by rw [hz]; rfl
            subst hz'
            clear hz
            go_wp2_with (at_builtin; refine append_zint _ rfl _ _ rfl B' _ ql rfl ?_ ⟨_, 0, none⟩ rfl ((qn : Int)) ?_ ?_ ?_ ?_)
            any_goals first | exact HI.out.2.1.below ((Below.refl _ _).alloc (Nat.le_refl _) _) | (simp [Addr.add]; done) | (have := HLN.out; omega) | (simp; omega)
            intro v' w' q1 q2
            have hrm : RMs w.heap.size B' w' (.slice mo mn mcap) qm := (HI.out.1.below ((Below.refl _ _).alloc (Nat.le_refl _) (.cells #[.int .i64 ((qn : Int))] 3))).grown q2 (fun g hg => ⟨(HTY.out g hg).1, Ty.below (HTY.out g hg).2.1 ((Below.refl _ _).alloc (Nat.le_refl _) _) (HTY.out g hg).2.2⟩)
            have hbel : Below w.heap.size w w' := (HI.out.2.2.1.alloc (by omega) _).grown q2 (by simp; omega) (fun g hg => by have := (HTY.out g hg).1; omega)
            have hsz := q2.size
            simp at hsz
            obtain ⟨lo', lcap', hlv, -⟩ := q1.shape
            have hllen : (ql ++ [(qn : Int)]).length = ln + 1 := by have := HLN.out; simp; omega
            rw [hllen] at hlv
            subst hlv
            have KA := Hid.mk (And.intro hrm (And.intro q1 hbel))
            clear hrm q1 q2 hbel
            have hl1 : (0 : Int) < ((ln + 1 : Nat) : Int) := by omega
            go_wp2_with (at_builtin; refine append_mrow _ rfl _ _ rfl w.heap.size B' _ qm rfl ?_ ⟨_, 0, none⟩ rfl (.slice lo' (ln + 1) lcap') (ql ++ [(qn : Int)]) ?_ ?_ ?_ ?_ ?_ ?_)
            any_goals first | exact KA.out.1.below ((Below.refl _ _).alloc (Nat.le_refl _) _) | exact (KA.out.2.1.below ((Below.refl _ _).alloc (Nat.le_refl _) _)).low hB2 | (simp [Addr.add]; done) | (have := HMN.out; omega) | (simp; omega)
            intro v'' w'' k1 k2 k3
            have hbel : Below w.heap.size w w'' := (KA.out.2.2.alloc (by omega) _).grown k2 (by simp; omega) k3
            obtain ⟨mo', mcap', hmv, -⟩ := k1.shape
            have hmlen : (qm ++ [ql ++ [(qn : Int)]]).length = mn + 1 := by have := HMN.out; simp; omega
            rw [hmlen] at hmv
            subst hmv
            have hw' := hbel.size
            have KR := Hid.mk (And.intro k1 hbel)
            clear k1 k2 k3 hbel
            go_wp2_with fail
            go_roundw
            case measure => simp [intOf]; omega
            case rel =>
             have hrw : PS.rows ⟨qm, ql, qn, false, true⟩ = qm ++ [ql ++ [(qn : Int)]] := by
              unfold PS.rows
              rw [HPUT.out, if_neg (by simp)]
             refine ⟨j + 1, ⟨qm ++ [ql ++ [(qn : Int)]], [], 0, false, false⟩, w''.heap.size, ⟨by omega, by omega⟩, by go_num, rfl, rfl, rfl, by simp, by simp, by have := HLN.out; have := HMN.out; simp; omega, Nat.le_refl _, hw', Hid.mk ⟨KR.out.1, OI.nil _ _, KR.out.2, ?_, ?_⟩⟩
             ·exact fun _ => by rw [← hrw]; exact HST.out
             ·exact fun h => by omega
       ·have h32i : (x.toNat : Int) = 32 := by
         have := HSG.out
         omega
        have hji' : ((j : Int) == (s.size : Int)) = false := beq_eq_false_iff_ne.2 (by omega)
        have hst : PS.step ⟨qm, ql, qn, qneg, qsom⟩ x = some ⟨qm, PS.put ⟨qm, ql, qn, qneg, qsom⟩, 0, false, false⟩ := by
         unfold PS.step
         rw [if_neg hd, if_neg h45, if_neg h59]
        have HST := Hid.mk (show PS.go ⟨qm, PS.put ⟨qm, ql, qn, qneg, qsom⟩, 0, false, false⟩ (s.data.toList.drop (j + 1)) = some S from by have := HST.out; rw [hst] at this; exact this)
        clear hst hd h45 h59
        cases qsom with
        | false =>
          go_wp2_with fail
          go_roundw
          case measure => simp [intOf]; omega
          case rel => exact ⟨j + 1, ⟨qm, ql, 0, false, false⟩, B', ⟨by omega, by omega⟩, by go_num, rfl, rfl, rfl, by simp, by have := HLN.out; have := HMN.out; simp; omega, by have := HLN.out; have := HMN.out; simp; omega, hB1, hB2, Hid.mk ⟨HI.out.1, HI.out.2.1, HI.out.2.2.1, fun _ => HST.out, fun h => by omega⟩⟩
        | true =>
          obtain ⟨z, hz⟩ : ∃ z : Int, z = if qneg then -(qn : Int) else (qn : Int) := ⟨_, rfl⟩
          have hput : PS.put ⟨qm, ql, qn, qneg, true⟩ = ql ++ [z] := by unfold PS.put; simp only [if_true]; rw [hz]
          have HPUT := Hid.mk hput
          have HTY := Hid.mk (ownsRow_ty HI.out.2.1)
          clear hput
          cases qneg with
          | true =>
            have hz' : z = -(qn : Int) := by rw [hz]; rfl
            subst hz'
            clear hz
            go_wp2_with (at_builtin; refine append_zint _ rfl _ _ rfl B' _ ql rfl ?_ ⟨_, 0, none⟩ rfl (-(qn : Int)) ?_ ?_ ?_ ?_)
            any_goals first | exact HI.out.2.1.below ((Below.refl _ _).alloc (Nat.le_refl _) _) | (simp [Addr.add]; done) | (have := HLN.out; omega) | (simp; omega)
            intro v' w' q1 q2
            have hrm : RMs w.heap.size B' w' (.slice mo mn mcap) qm := (HI.out.1.below ((Below.refl _ _).alloc (Nat.le_refl _) (.cells #[.int .i64 (-(qn : Int))] 3))).grown q2 (fun g hg => ⟨(HTY.out g hg).1, Ty.below (HTY.out g hg).2.1 ((Below.refl _ _).alloc (Nat.le_refl _) _) (HTY.out g hg).2.2⟩)
            have hbel : Below w.heap.size w w' := (HI.out.2.2.1.alloc (by omega) _).grown q2 (by simp; omega) (fun g hg => by have := (HTY.out g hg).1; omega)
            have hsz := q2.size
            simp at hsz
            obtain ⟨lo', lcap', hlv, -⟩ := q1.shape
            have hllen : (ql ++ [-(qn : Int)]).length = ln + 1 := by have := HLN.out; simp; omega
            rw [hllen] at hlv
            subst hlv
            have KA := Hid.mk (And.intro hrm (And.intro q1 hbel))
            clear hrm q1 q2 hbel
            go_wp2_with fail
            go_roundw
            case measure => simp [intOf]; omega
            case rel =>
             refine ⟨j + 1, ⟨qm, ql ++ [-(qn : Int)], 0, false, false⟩, B', ⟨by omega, by omega⟩, by go_num, rfl, rfl, rfl, by simp, by have := HLN.out; have := HMN.out; simp; omega, by have := HLN.out; have := HMN.out; simp; omega, by omega, hB2, Hid.mk ⟨KA.out.1, KA.out.2.1, KA.out.2.2, fun _ => ?_, fun h => by omega⟩⟩
             have := HST.out
             rw [HPUT.out] at this
             exact this
          | false =>
            have hz' : z = (qn : Int) := by rw [hz]; rfl
            subst hz'
            clear hz
            go_wp2_with (at_builtin; refine append_zint _ rfl _ _ rfl B' _ ql rfl ?_ ⟨_, 0, none⟩ rfl ((qn : Int)) ?_ ?_ ?_ ?_)
            any_goals first | exact HI.out.2.1.below ((Below.refl _ _).alloc (Nat.le_refl _) _) | (simp [Addr.add]; done) | (have := HLN.out; omega) | (simp; omega)
            intro v' w' q1 q2
            have hrm : RMs w.heap.size B' w' (.slice mo mn mcap) qm := (HI.out.1.below ((Below.refl _ _).alloc (Nat.le_refl _) (.cells #[.int .i64 ((qn : Int))] 3))).grown q2 (fun g hg => ⟨(HTY.out g hg).1, Ty.below (HTY.out g hg).2.1 ((Below.refl _ _).alloc (Nat.le_refl _) _) (HTY.out g hg).2.2⟩)
            have hbel : Below w.heap.size w w' := (HI.out.2.2.1.alloc (by omega) _).grown q2 (by simp; omega) (fun g hg => by have := (HTY.out g hg).1; omega)
            have hsz := q2.size
            simp at hsz
            obtain ⟨lo', lcap', hlv, -⟩ := q1.shape
            have hllen : (ql ++ [(qn : Int)]).length = ln + 1 := by have := HLN.out; simp; omega
            rw [hllen] at hlv
            subst hlv
            have KA := Hid.mk (And.intro hrm (And.intro q1 hbel))
            clear hrm q1 q2 hbel
            go_wp2_with fail
            go_roundw
            case measure => simp [intOf]; omega
            case rel =>
             refine ⟨j + 1, ⟨qm, ql ++ [(qn : Int)], 0, false, false⟩, B', ⟨by omega, by omega⟩, by go_num, rfl, rfl, rfl, by simp, by have := HLN.out; have := HMN.out; simp; omega, by have := HLN.out; have := HMN.out; simp; omega, by omega, hB2, Hid.mk ⟨KA.out.1, KA.out.2.1, KA.out.2.2, fun _ => ?_, fun h => by omega⟩⟩
             have := HST.out
             rw [HPUT.out] at this
             exact this
    ·by_cases hje : j = s.size
     ·have hjl : (j : Int) ≤ (s.size : Int) := by omega
      have hjn : ¬ (j : Int) < (s.size : Int) := by omega
      have hje' : ((j : Int) == (s.size : Int)) = true := beq_iff_eq.2 (by omega)
      have hst := HI.out.2.2.2.1 (by omega)
      rw [List.drop_eq_nil_of_le (by simp [hje])] at hst
      have HEN := Hid.mk (show S = ⟨qm, ql, qn, qneg, qsom⟩ from by injection hst with e; exact e.symm)
      clear hst hje
      cases qsom with
      | false =>
        by_cases hl0 : ln = 0
        ·have hle : ql = [] := List.eq_nil_of_length_eq_zero (by have := HLN.out; omega)
         subst hl0
         go_wp2_with fail
         go_roundw
         case measure => simp [intOf]; omega
         case rel =>
          have hrw : PS.rows ⟨qm, ql, qn, qneg, false⟩ = qm := by unfold PS.rows PS.put; simp [hle]
          refine ⟨j + 1, ⟨qm, [], 0, false, false⟩, B', ⟨by omega, by omega⟩, by go_num, rfl, rfl, rfl, by simp, by simp, by have := HLN.out; have := HMN.out; simp; omega, hB1, hB2, Hid.mk ⟨HI.out.1, OI.nil _ _, HI.out.2.2.1, ?_, ?_⟩⟩
          ·exact fun h => by omega
          ·exact fun _ => by rw [← hrw, HEN.out]
        ·have hl1 : (0 : Int) < (ln : Int) := by omega
         go_wp2_with (at_builtin; refine append_mrow _ rfl _ _ rfl w.heap.size B' _ qm rfl ?_ ⟨_, 0, none⟩ rfl (.slice lo ln lcap) ql ?_ ?_ ?_ ?_ ?_ ?_)
         any_goals first | exact HI.out.1.below ((Below.refl _ _).alloc (Nat.le_refl _) _) | exact (HI.out.2.1.below ((Below.refl _ _).alloc (Nat.le_refl _) _)).low hB2 | (simp [Addr.add]; done) | (have := HMN.out; omega) | (simp; omega)
         intro v' w' k1 k2 k3
         have hbel : Below w.heap.size w w' := (HI.out.2.2.1.alloc (by omega) _).grown k2 (by simp; omega) k3
         obtain ⟨mo', mcap', hmv, -⟩ := k1.shape
         have hmlen : (qm ++ [ql]).length = mn + 1 := by have := HMN.out; simp; omega
         rw [hmlen] at hmv
         subst hmv
         have hw' := hbel.size
         have KR := Hid.mk (And.intro k1 hbel)
         clear k1 k2 k3 hbel
         go_wp2_with fail
         go_roundw
         case measure => simp [intOf]; omega
         case rel =>
          have hrw : PS.rows ⟨qm, ql, qn, qneg, false⟩ = qm ++ [ql] := by
           unfold PS.rows PS.put
           simp only [Bool.false_eq_true, if_false]
           rw [if_neg (fun e => by have := HLN.out; rw [e] at this; simp at this; omega)]
          refine ⟨j + 1, ⟨qm ++ [ql], [], 0, false, false⟩, w'.heap.size, ⟨by omega, by omega⟩, by go_num, rfl, rfl, rfl, by simp, by simp, by have := HLN.out; have := HMN.out; simp; omega, Nat.le_refl _, hw', Hid.mk ⟨KR.out.1, OI.nil _ _, KR.out.2, ?_, ?_⟩⟩
          ·exact fun h => by omega
          ·exact fun _ => by rw [← hrw, HEN.out]
      | true =>
        obtain ⟨z, hz⟩ : ∃ z : Int, z = if qneg then -(qn : Int) else (qn : Int) := ⟨_, rfl⟩
        have hput : PS.put ⟨qm, ql, qn, qneg, true⟩ = ql ++ [z] := by unfold PS.put; simp only [if_true]; rw [hz]
        have HPUT := Hid.mk hput
        have HTY := Hid.mk (ownsRow_ty HI.out.2.1)
        clear hput
        cases qneg with
        | true =>
          have hz' : z = -(qn : Int) := by rw [hz]; rfl
          subst hz'
          clear hz
          go_wp2_with (at_builtin; refine append_zint _ rfl _ _ rfl B' _ ql rfl ?_ ⟨_, 0, none⟩ rfl (-(qn : Int)) ?_ ?_ ?_ ?_)
          any_goals first | exact HI.out.2.1.below ((Below.refl _ _).alloc (Nat.le_refl _) _) | (simp [Addr.add]; done) | (have := HLN.out; omega) | (simp; omega)
          intro v' w' q1 q2
          have hrm : RMs w.heap.size B' w' (.slice mo mn mcap) qm := (HI.out.1.below ((Below.refl _ _).alloc (Nat.le_refl _) (.cells #[.int .i64 (-(qn : Int))] 3))).grown q2 (fun g hg => ⟨(HTY.out g hg).1, Ty.below (HTY.out g hg).2.1 ((Below.refl _ _).alloc (Nat.le_refl _) _) (HTY.out g hg).2.2⟩)
          have hbel : Below w.heap.size w w' := (HI.out.2.2.1.alloc (by omega) _).grown q2 (by simp; omega) (fun g hg => by have := (HTY.out g hg).1; omega)
          have hsz := q2.size
          simp at hsz
          obtain ⟨lo', lcap', hlv, -⟩ := q1.shape
          have hllen : (ql ++ [-(qn : Int)]).length = ln + 1 := by have := HLN.out; simp; omega
          rw [hllen] at hlv
          subst hlv
          have KA := Hid.mk (And.intro hrm (And.intro q1 hbel))
          clear hrm q1 q2 hbel
          have hl1 : (0 : Int) < ((ln + 1 : Nat) : Int) := by omega
          go_wp2_with (at_builtin; refine append_mrow _ rfl _ _ rfl w.heap.size B' _ qm rfl ?_ ⟨_, 0, none⟩ rfl (.slice lo' (ln + 1) lcap') (ql ++ [-(qn : Int)]) ?_ ?_ ?_ ?_ ?_ ?_)
          any_goals first | exact KA.out.1.below ((Below.refl _ _).alloc (Nat.le_refl _) _) | exact (KA.out.2.1.below ((Below.refl _ _).alloc (Nat.le_refl _) _)).low hB2 | (simp [Addr.add]; done) | (have := HMN.out; omega) | (simp; omega)
          intro v'' w'' k1 k2 k3
          have hbel : Below w.heap.size w w'' := (KA.out.2.2.alloc (by omega) _).grown k2 (by simp; omega) k3
          obtain ⟨mo', mcap', hmv, -⟩ := k1.shape
          have hmlen : (qm ++ [ql ++ [-(qn : Int)]]).length = mn + 1 := by have := HMN.out; simp; omega
          rw [hmlen] at hmv
          subst hmv
          have hw' := hbel.size
          have KR := Hid.mk (And.intro k1 hbel)
          clear k1 k2 k3 hbel
          go_wp2_with fail
          go_roundw
          case measure => simp [intOf]; omega
          case rel =>
           have hrw : PS.rows ⟨qm, ql, qn, true, true⟩ = qm ++ [ql ++ [-(qn : Int)]] := by
            unfold PS.rows
            rw [HPUT.out, if_neg (by simp)]
           refine ⟨j + 1, ⟨qm ++ [ql ++ [-(qn : Int)]], [], 0, false, false⟩, w''.heap.size, ⟨by omega, by omega⟩, by go_num, rfl, rfl, rfl, by simp, by simp, by have := HLN.out; have := HMN.out; simp; omega, Nat.le_refl _, hw', Hid.mk ⟨KR.out.1, OI.nil _ _, KR.out.2, ?_, ?_⟩⟩
           ·exact fun h => by omega
           ·exact fun _ => by rw [← hrw, HEN.out]
        | false =>
          have hz' : z = (qn : Int) := by rw [hz]; rfl
          subst hz'
          clear hz
          go_wp2_with (at_builtin; refine append_zint _ rfl _ _ rfl B' _ ql rfl ?_ ⟨_, 0, none⟩ rfl ((qn : Int)) ?_ ?_ ?_ ?_)
          any_goals first | exact HI.out.2.1.below ((Below.refl _ _).alloc (Nat.le_refl _) _) | (simp [Addr.add]; done) | (have := HLN.out; omega) | (simp; omega)
          intro v' w' q1 q2
          have hrm : RMs w.heap.size B' w' (.slice mo mn mcap) qm := (HI.out.1.below ((Below.refl _ _).alloc (Nat.le_refl _) (.cells #[.int .i64 ((qn : Int))] 3))).grown q2 (fun g hg => ⟨(HTY.out g hg).1, Ty.below (HTY.out g hg).2.1 ((Below.refl _ _).alloc (Nat.le_refl _) _) (HTY.out g hg).2.2⟩)
          have hbel : Below w.heap.size w w' := (HI.out.2.2.1.alloc (by omega) _).grown q2 (by simp; omega) (fun g hg => by have := (HTY.out g hg).1; omega)
          have hsz := q2.size
          simp at hsz
          obtain ⟨lo', lcap', hlv, -⟩ := q1.shape
          have hllen : (ql ++ [(qn : Int)]).length = ln + 1 := by have := HLN.out; simp; omega
          rw [hllen] at hlv
          subst hlv
          have KA := Hid.mk (And.intro hrm (And.intro q1 hbel))
          clear hrm q1 q2 hbel
          have hl1 : (0 : Int) < ((ln + 1 : Nat) : Int) := by omega
          go_wp2_with (at_builtin; refine append_mrow _ rfl _ _ rfl w.heap.size B' _ qm rfl ?_ ⟨_, 0, none⟩ rfl (.slice lo' (ln + 1) lcap') (ql ++ [(qn : Int)]) ?_ ?_ ?_ ?_ ?_ ?_)
          any_goals first | exact KA.out.1.below ((Below.refl _ _).alloc (Nat.le_refl _) _) | exact (KA.out.2.1.below ((Below.refl _ _).alloc (Nat.le_refl _) _)).low hB2 | (simp [Addr.add]; done) | (have := HMN.out; omega) | (simp; omega)
          intro v'' w'' k1 k2 k3
          have hbel : Below w.heap.size w w'' := (KA.out.2.2.alloc (by omega) _).grown k2 (by simp; omega) k3
          obtain ⟨mo', mcap', hmv, -⟩ := k1.shape
          have hmlen : (qm ++ [ql ++ [(qn : Int)]]).length = mn + 1 := by have := HMN.out; simp; omega
          rw [hmlen] at hmv
          subst hmv
          have hw' := hbel.size
          have KR := Hid.mk (And.intro k1 hbel)
          clear k1 k2 k3 hbel
          go_wp2_with fail
          go_roundw
          case measure => simp [intOf]; omega
          case rel =>
           have hrw : PS.rows ⟨qm, ql, qn, false, true⟩ = qm ++ [ql ++ [(qn : Int)]] := by
            unfold PS.rows
            rw [HPUT.out, if_neg (by simp)]
           refine ⟨j + 1, ⟨qm ++ [ql ++ [(qn : Int)]], [], 0, false, false⟩, w''.heap.size, ⟨by omega, by omega⟩, by go_num, rfl, rfl, rfl, by simp, by simp, by have := HLN.out; have := HMN.out; simp; omega, Nat.le_refl _, hw', Hid.mk ⟨KR.out.1, OI.nil _ _, KR.out.2, ?_, ?_⟩⟩
           ·exact fun h => by omega
           ·exact fun _ => by rw [← hrw, HEN.out]
     ·have hjn : ¬ (j : Int) ≤ (s.size : Int) := by omega
      have hend := HI.out.2.2.2.2 (by omega)
      have HEN := Hid.mk hend
      clear hend
      go_wp2_with fail
      go_ret2
      exact ⟨_, rfl, ⟨B', by rw [← HEN.out]; exact HI.out.1⟩, HI.out.2.2.1⟩
open Go.RowKit
def RdR (w : World) (v : Value) (c : Nat) (f : Nat → Int) : Prop := ∃ ao cap, v = .slice ao c cap ∧ c ≤ cap ∧ cap ≤ 9223372036854775807 ∧ ∀ j, j < c → ∃ g o, ao = some ⟨g, o, none⟩ ∧ w.cell? ⟨g, o + j, none⟩ = some (.int .i64 (f j))
theorem OI.rdR {B : Nat} {w : World} {v : Value} {zs : List Int} (h : OI B w v zs) : RdR w v zs.length (fun j => zs.getD j 0) := by
 obtain ⟨ao, cap, rfl, h1, h2, h3⟩ := h.shape
 refine ⟨ao, cap, rfl, h1, h2, fun j hj => ?_⟩
 obtain ⟨g, e1, e2⟩ := h3 j hj
 exact ⟨g, 0, e1, by rw [Nat.zero_add]; exact e2⟩
def sqs (f : Nat → Int) (n : Nat) : Int := sm (fun j => f j * f j) n
set_option maxRecDepth 100000 in
set_option maxHeartbeats 4000000 in
theorem long_any (v : Value) (c : Nat) (f : Nat → Int) (w : World) (h : RdR w v c f) (hc : c ≤ 4) (hf : ∀ j, j < c → (f j).natAbs ≤ 1073741824) :
 Calls Tryz.prog 50 #[v] w fun e w' => e = .returned (.int .i64 (sqs f c)) ∧ Below w.heap.size w w' := by
 obtain ⟨ao, cap, rfl, h1, h2, h3⟩ := h
 have H := Hid.mk (And.intro h3 hf)
 clear h3 hf
 go_enter Tryz.func50, Tryz.ntmps50
 go_wp2_with fail
 go_loopw [3, 4] (fun n i wr => ∃ (k : Nat) (z : Int), k ≤ c ∧ i = .int .i64 k ∧ n = .int .i64 z ∧ (0 ≤ z ∧ z ≤ k * 1152921504606846976) ∧ Hid (z = sqs f k ∧ Below w.heap.size w wr)) (fun _ i _ => c - (intOf i).toNat)
 case atStart => exact ⟨0, 0, Nat.zero_le _, rfl, rfl, by simp, Hid.mk ⟨rfl, Below.refl _ _⟩⟩
 case round =>
  rename World => w0
  obtain ⟨k, z, hk, rfl, rfl, ⟨hz0, hz1⟩, HI⟩ := hrel
  by_cases hkc : k < c
  ·have hki : (k : Int) < (c : Int) := by omega
   obtain ⟨g, o, rfl, e0⟩ := H.out.1 k hkc
   have e1 := cell_later HI.out.2 e0
   obtain ⟨y, hy⟩ : ∃ y, y = f k := ⟨_, rfl⟩
   rw [← hy] at e1
   have hb := H.out.2 k hkc
   rw [← hy] at hb
   have hyy : 0 ≤ y * y ∧ y * y ≤ 1152921504606846976 := by
    have h5 := Nat.mul_le_mul hb hb
    have h6 : ((y.natAbs * y.natAbs : Nat) : Int) = y * y := Int.natAbs_mul_self' y
    omega
   obtain ⟨yy, hyy'⟩ : ∃ yy, yy = y * y := ⟨_, rfl⟩
   rw [← hyy'] at hyy
   obtain ⟨hyy0, hyy1⟩ := hyy
   have hm1 : y * y = yy := hyy'.symm
   have hw1 : IntKind.i64.wrap yy = yy := IntWalk.i64_in _ (by omega)
   have hz9 : z ≤ 3458764513820540928 := by omega
   obtain ⟨zz, hzz⟩ : ∃ zz, zz = z + yy := ⟨_, rfl⟩
   have hm2 : z + yy = zz := hzz.symm
   have hw2 : IntKind.i64.wrap zz = zz := IntWalk.i64_in _ (by omega)
   have HY := Hid.mk (And.intro hy (And.intro hyy' hzz))
   clear hy hyy' hzz e0 hb
   go_wp2_with fail
   go_quiet (fail)
   go_wp2_with fail
   go_roundw
   case measure => simp [intOf]; omega
   case rel =>
    refine ⟨k + 1, zz, by omega, by go_num, rfl, ⟨by omega, by omega⟩, Hid.mk ⟨?_, below_drewN HI.out.2 _⟩⟩
    rw [HY.out.2.2, HY.out.2.1, HY.out.1, HI.out.1]
    rfl
  ·have hki : ¬ (k : Int) < (c : Int) := by omega
   have hke : k = c := by omega
   have HKE := Hid.mk hke
   clear hke
   go_wp2_with fail
   go_ret
   refine ⟨?_, HI.out.2⟩
   rw [← HKE.out, ← HI.out.1]
   rfl
end Go.Proofs.YtfjbijpagaipnabGreatDoor
