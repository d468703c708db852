import Derived.Test.YtfjbijpagaipnaaGreatDoorC22
import Derived.Deep.Slices
import Derived.ProofKit
import Derived.SizedLaws
import Derived.Test.YtfjbijpagaipnaaGreatDoorC10
import Derived.Test.YtfjbijpagaipnaaGreatDoorC03
import Derived.Test.YtfjbijpagaipnaaGreatDoorC01
namespace Go.Proofs.YtfjbijpagaipnaaGreatDoor
open Go.RowKit R
def OpD.cells (o : OpD) : List Value := [.int .i64 o.kd, .int .i64 o.a, .int .i64 o.b, .int .i64 o.c, .string o.s, .string o.t]
def ocells : List OpD → List Value
 | [] => []
 | o :: r => o.cells ++ ocells r
theorem ocells_len (l : List OpD) : (ocells l).length = l.length * 6 := by
 induction l with
 | nil => rfl
 | cons o r ih => simp only [ocells, List.length_append, ih, OpD.cells, List.length_cons, List.length_nil]; omega
theorem ocells_app (l : List OpD) (o : OpD) : ocells (l ++ [o]) = ocells l ++ o.cells := by
 induction l with
 | nil => simp [ocells]
 | cons x r ih => simp only [List.cons_append, ocells, ih, List.append_assoc]
theorem ocells_get (l : List OpD) (i : Nat) (hi : i < l.length) (f : Nat) (hf : f < 6) : (ocells l)[i * 6 + f]? = (l[i].cells)[f]? := by
 induction l generalizing i with
 | nil => simp at hi
 | cons x r ih =>
   match i with
   | 0 =>
     simp only [ocells, List.getElem_cons_zero, Nat.zero_mul, Nat.zero_add]
     rw [List.getElem?_append_left (by simp [OpD.cells]; omega)]
   | i + 1 =>
     simp only [ocells, List.getElem_cons_succ]
     rw [List.getElem?_append_right (by simp [OpD.cells]; omega), ← ih i (by simpa using hi)]
     congr 1
     simp [OpD.cells]; omega
theorem scr_of_own {B : Nat} {w : World} {v : Value} {l : List OpD} (h : w.ownsRow B 31 6 v l.length (ocells l)) :
 ∃ ao cap, v = .slice ao l.length cap ∧ ∀ i (hi : i < l.length), ∃ g, ao = some ⟨g, 0, none⟩ ∧ g < w.heap.size ∧ OpAt w g (i * 6) l[i] := by
 have hl := ocells_len l
 rcases h.2 with ⟨rfl, h0⟩ | ⟨g, cap, cur, rfl, hg, hh, r⟩
 ·exact ⟨none, 0, by rw [h0], fun i hi => by omega⟩
 ·refine ⟨some ⟨g, 0, none⟩, cap, rfl, fun i hi => ⟨g, rfl, (Array.getElem?_eq_some_iff.1 hh).1, ?_⟩⟩
  have key : ∀ f, f < 6 → w.cell? ⟨g, i * 6 + f, none⟩ = (l[i].cells)[f]? := by
   intro f hf
   rw [World.ownsRow.cellAt h (i * 6 + f) (by omega)]
   exact ocells_get l i hi f hf
  exact ⟨key 0 (by omega), key 1 (by omega), key 2 (by omega), key 3 (by omega), key 4 (by omega), key 5 (by omega)⟩
def pl (kd : Int) : Bool := (kd == 1 || kd == 2) || kd == 3
def inK (ks : List Int) (o : OpD) : Bool := pl o.kd || ks.any (fun x => o.kd == x)
def KsAt (w : World) (ko : Option Addr) (ks : List Int) : Prop := ∀ j (hj : j < ks.length), ∃ g o, ko = some ⟨g, o, none⟩ ∧ g < w.heap.size ∧ w.cell? ⟨g, o + j, none⟩ = some (.int .i64 ks[j])
theorem any_take_succ (ks : List Int) (f : Int → Bool) (j : Nat) (hj : j < ks.length) : (ks.take (j + 1)).any f = ((ks.take j).any f || f ks[j]) := by
 rw [List.take_succ_eq_append_getElem hj, List.any_append]
 simp
theorem Tryz.info31 : (Tryz.prog.info? 31).map (fun i => (i.zero, i.size, i.bytes)) = some (some (.agg #[.int .i64 0, .int .i64 0, .int .i64 0, .int .i64 0, .string ⟨#[]⟩, .string ⟨#[]⟩]), 6, 64) := by kernel_rfl
theorem append_op (w : World) {ops : Array Oper} {rest : List Oper} {o : Oper} {a : Act} {Q : Exit → Act → World → Prop} (hgd : o.guard = none) (s x : Operand)
 (ho : o.op = .call { callee := .builtin .append, args := #[s, x], argTypes := #[22, 22] }) (B : Nat) (v : Value) (l : List OpD) (hs : a.eval s = v) (hown : w.ownsRow B 31 6 v l.length (ocells l))
 (ad : Addr) (hx : a.eval x = .slice (some ad) 1 1) (od : OpD) (hc : ∀ f u, od.cells[f]? = some u → w.cell? (ad.add f) = some u) (hl : l.length ≤ 30000) (hB : B ≤ w.heap.size)
 (hK : ∀ v' w', w'.ownsRow B 31 6 v' (l ++ [od]).length (ocells (l ++ [od])) → w.grownBy w' v.ownBlock → wpList Tryz.prog ops Q rest (a.put o.dst v') w') : wpList Tryz.prog ops Q (o :: rest) a w := by
 obtain ⟨i, hi, hz0, hz1, hz2⟩ := info_parts Tryz.info31
 refine wpList_append_own w hgd s x 22 ho B 31 i (.agg #[.int .i64 0, .int .i64 0, .int .i64 0, .int .i64 0, .string ⟨#[]⟩, .string ⟨#[]⟩]) 6 64 Tryz.underlying22 hi hz0 hz1 hz2 rfl (by decide) v l.length (ocells l) hs hown ad 1 1 od.cells hx rfl ?_ ?_ ?_ ?_ hB ?_
 ·exact hc
 ·intro u hu
  simp [OpD.cells] at hu
  rcases hu with rfl | rfl | rfl | rfl | rfl | rfl <;> rfl
 ·unfold maxLen; omega
 ·omega
 ·intro v' w' h1 h2 _
  refine hK v' w' ?_ h2
  rw [ocells_app, List.length_append, List.length_singleton]
  exact h1
set_option maxRecDepth 100000 in
set_option maxHeartbeats 4000000 in
theorem plays_any (ops : List OpD) (ao : Option Addr) (cap : Nat) (ks : List Int) (ko : Option Addr) (kcap : Nat) (w : World) (htab : Tab w) (hrow : ScrAt w ao ops) (hks : KsAt w ko ks) (hkn : ks.length ≤ 1000) (hn : ops.length ≤ 281474976710656) (hs : ∀ o ∈ ops, o.s.size ≤ 281474976710656 ∧ o.t.size ≤ 281474976710656)
 (hup : ∀ w2 ao' cap', Tab w2 → ops.length ≤ 16384 → bulk ops ≤ 16384 → (∀ i (hi : i < (ops.filter (inK ks)).length), ∃ g, ao' = some ⟨g, 0, none⟩ ∧ g < w2.heap.size ∧ OpAt w2 g (i * 6) (ops.filter (inK ks))[i]) →
   Calls Tryz.prog 17 #[.slice ao' (ops.filter (inK ks)).length cap'] w2 fun x w' => x = .returned (.int .i64 (-1)) ∧ Below w2.heap.size w2 w') :
 Calls Tryz.prog 12 #[.slice ao ops.length cap, .slice ko ks.length kcap] w fun x w' => x = .returned (.bool true) ∧ Below w.heap.size w w' := by
 have H := Hid.mk (And.intro htab (And.intro hrow (And.intro hks (And.intro hup hs))))
 clear htab hrow hks hs hup
 go_enter Tryz.func12, Tryz.ntmps12
 go_wp2_with fail
 refine (small_any ops ao cap w H.out.2.1 hn H.out.2.2.2.2).mono ?_
 rintro x w1 ⟨rfl | ⟨rfl, hn1, hbk⟩, hb1⟩
 ·go_wp2_with fail
  go_ret
  exact ⟨rfl, hb1⟩
 ·have K1 := Hid.mk (And.intro hbk hb1)
  have hs1 := hb1.size
  clear hbk hb1
  go_wp2_with fail
  go_loopw [6, 7] (fun lv i wr => ∃ k : Nat, k ≤ ops.length ∧ i = .int .i64 k ∧ wr.ownsRow w.heap.size 31 6 lv ((ops.take k).filter (inK ks)).length (ocells ((ops.take k).filter (inK ks))) ∧ Below w.heap.size w wr) (fun _ i _ => ops.length - (intOf i).toNat)
  case atStart => exact ⟨0, Nat.zero_le _, rfl, World.ownsRow_nil _ _ _ _, K1.out.2⟩
  case round =>
   obtain ⟨k, hk, rfl, hown, hbel⟩ := hrel
   have hwr := hbel.size
   have K := Hid.mk (And.intro hown hbel)
   clear hown hbel
   by_cases hkl : k < ops.length
   ·obtain ⟨g, o, rfl, hgl, hop⟩ := H.out.2.1 k hkl
    obtain ⟨o1, o2, o3, o4, o5, o6⟩ := hop.below K.out.2 hgl
    have HT := Hid.mk (show (ops.take (k + 1)).filter (inK ks) = (ops.take k).filter (inK ks) ++ (if inK ks ops[k] then [ops[k]] else []) from by
     rw [List.take_succ_eq_append_getElem hkl, List.filter_append]
     congr 1
     by_cases h : inK ks ops[k] <;> simp [h])
    obtain ⟨od, hod⟩ : ∃ od, od = ops[k] := ⟨_, rfl⟩
    rw [← hod] at o1 o2 o3 o4 o5 o6 HT
    obtain ⟨l, hl⟩ : ∃ l, l = (ops.take k).filter (inK ks) := ⟨_, rfl⟩
    rw [← hl] at K HT
    have hll : l.length ≤ 16384 := by
     rw [hl]
     have := List.length_filter_le (inK ks) (ops.take k)
     simp at this
     omega
    have hki : (k : Int) < (ops.length : Int) := by omega
    clear hop hod hl
    go_upto_region 9 with fail
    go_cut [9] from 26 to 35 (fun x wx => x = .bool (pl od.kd) ∧ wx = wr)
    case first =>
     by_cases e1 : od.kd = 1
     ·have b1 : (od.kd == 1) = true := by simp [e1]
      have HP := Hid.mk (show pl od.kd = true by simp [pl, e1])
      clear e1
      go_wp2_with fail
      go_meet
      case rel => exact ⟨by rw [HP.out], rfl⟩
     ·have b1 : (od.kd == 1) = false := by simp [e1]
      by_cases e2 : od.kd = 2
      ·have b2 : (od.kd == 2) = true := by simp [e2]
       have HP := Hid.mk (show pl od.kd = true by simp [pl, e2])
       clear e1 e2
       go_wp2_with fail
       go_meet
       case rel => exact ⟨by rw [HP.out], rfl⟩
      ·have b2 : (od.kd == 2) = false := by simp [e2]
       have HP := Hid.mk (show pl od.kd = (od.kd == 3) by simp [pl, b1, b2])
       clear e1 e2
       go_wp2_with fail
       go_meet
       case rel => exact ⟨by rw [HP.out], rfl⟩
    case rest =>
     obtain ⟨rfl, rfl⟩ := hcut
     go_wp2_with fail
     go_loopw [9, 10] (fun b j wx => ∃ m : Nat, m ≤ ks.length ∧ b = .bool (pl od.kd || (ks.take m).any (fun x => od.kd == x)) ∧ j = .int .i64 m ∧ wx = wc) (fun _ j _ => ks.length - (intOf j).toNat)
     case atStart => exact ⟨0, Nat.zero_le _, by simp, rfl, rfl⟩
     case round =>
      obtain ⟨m, hm, rfl, rfl, rfl⟩ := hrel
      by_cases hml : m < ks.length
      ·obtain ⟨gk, ok, rfl, hgk, hck⟩ := H.out.2.2.1 m hml
       have c0 := hck
       rw [← K.out.2.cell (p := ⟨gk, ok + m, none⟩) (by simpa using hgk)] at c0
       have HM := Hid.mk (any_take_succ ks (fun x => od.kd == x) m hml)
       obtain ⟨kk, hkk⟩ : ∃ kk, kk = ks[m] := ⟨_, rfl⟩
       rw [← hkk] at c0 HM
       have hmi : (m : Int) < (ks.length : Int) := by omega
       clear hck hkk
       cases hpre : (pl od.kd || (ks.take m).any (fun x => od.kd == x))
       ·have HP := Hid.mk hpre
        clear hpre
        go_wp2_with fail
        go_roundw
        case measure => simp [intOf]; omega
        case rel => exact ⟨m + 1, by omega, by rw [HM.out, ← Bool.or_assoc, HP.out, Bool.false_or], by go_num, trivial⟩
       ·have HP := Hid.mk hpre
        clear hpre
        go_wp2_with fail
        go_roundw
        case measure => simp [intOf]; omega
        case rel => exact ⟨m + 1, by omega, by rw [HM.out, ← Bool.or_assoc, HP.out, Bool.true_or], by go_num, trivial⟩
      ·have hmi : ¬ (m : Int) < (ks.length : Int) := by omega
       have hme : m = ks.length := by omega
       have HIN := Hid.mk (show (pl od.kd || (ks.take m).any (fun x => od.kd == x)) = inK ks od by rw [hme, List.take_length]; rfl)
       rw [HIN.out]
       clear hme
       cases hin : inK ks od
       ·have HE := Hid.mk hin
        clear hin
        go_wp2_with fail
        go_roundw
        case measure => simp [intOf]; omega
        case rel =>
         refine ⟨k + 1, by omega, by go_num, ?_, K.out.2⟩
         rw [HT.out, HE.out]
         simpa using K.out.1
       ·have HE := Hid.mk hin
        clear hin
        go_wp2_with (at_builtin; refine append_op _ rfl _ _ rfl w.heap.size _ l rfl ?_ ⟨_, 0, none⟩ rfl od ?_ ?_ ?_ ?_)
        ·exact World.ownsRow.alloc K.out.1 _
        ·intro f u hu
         match f, hu with
         | 0, hu => simp [OpD.cells] at hu; subst hu; simp
         | 1, hu => simp [OpD.cells] at hu; subst hu; simp
         | 2, hu => simp [OpD.cells] at hu; subst hu; simp
         | 3, hu => simp [OpD.cells] at hu; subst hu; simp
         | 4, hu => simp [OpD.cells] at hu; subst hu; simp
         | 5, hu => simp [OpD.cells] at hu; subst hu; simp
         | f + 6, hu => simp [OpD.cells] at hu
        ·omega
        ·omega
        intro v' w' q1 q2
        have hbel2 : Below w.heap.size w w' := (K.out.2.alloc hwr _).grown q2 (by simp; omega) (fun j hj => (World.ownsRow.lt K.out.1 j hj).1)
        have K2 := Hid.mk (And.intro q1 hbel2)
        clear q1 q2 hbel2
        go_wp2_with fail
        go_roundw
        case measure => simp [intOf]; omega
        case rel =>
         refine ⟨k + 1, by omega, by go_num, ?_, K2.out.2⟩
         rw [HT.out, HE.out, if_pos rfl]
         rw [List.length_append, List.length_singleton]
         exact K2.out.1
   ·have hke : k = ops.length := by omega
    have hki : ¬ (k : Int) < (ops.length : Int) := by omega
    have hown := K.out.1
    rw [hke, List.take_length] at hown
    obtain ⟨ao2, cap2, rfl, hscr⟩ := scr_of_own hown
    have KS := Hid.mk hscr
    clear hown hscr
    go_wp2_with fail
    refine (H.out.2.2.2.1 _ ao2 cap2 (H.out.1.below K.out.2) hn1 K1.out.1 KS.out).mono ?_
    rintro x w3 ⟨rfl, hb3⟩
    have K3 := Hid.mk (K.out.2.trans (hb3.mono hwr))
    clear hb3
    go_wp2_with fail
    go_ret
    exact ⟨rfl, K3.out⟩
open Go.ChangeShapes Go.WideShapes Go.ChangeAt Go.RowKit Go.Deep
section
variable {H : Type} {enc : TypeId × Value → H} {P : Program} {w : World} {base : Nat} {spare : Nat → Bool} {held : Bool}
theorem open_six {t e : TypeId} {f0 f1 f2 f3 f4 f5 : Field} {fuel : Nat} {cs : List Value} {x : DataW H × List MemPlace} (ht : P.underlying t = some (.slice e)) (he : P.underlying e = some (.struct #[f0, f1, f2, f3, f4, f5]))
 (ce : P.cellsOf e = 6) (o0 : f0.offset = 0) (o1 : f1.offset = 1) (o2 : f2.offset = 2) (o3 : f3.offset = 3) (o4 : f4.offset = 4) (o5 : f5.offset = 5)
 (c0 : P.cellsOf f0.type = 1) (c1 : P.cellsOf f1.type = 1) (c2 : P.cellsOf f2.type = 1) (c3 : P.cellsOf f3.type = 1) (c4 : P.cellsOf f4.type = 1) (c5 : P.cellsOf f5.type = 1)
 (h : DataW.trod enc P w base spare held fuel t cs = some x) :
 cs = [.slice none 0 0] ∨ ∃ (a : Addr) (len cap n : Nat), cs = [.slice (some a) len cap] ∧ (∃ elems sp, x.1 = .slice elems sp ∧ elems.length = len ∧ ∀ i, i < len → ∃ (v0 v1 v2 v3 v4 v5 : Value) (y0 y1 y2 y3 y4 y5 : DataW H × List MemPlace), .agg [y0.1, y1.1, y2.1, y3.1, y4.1, y5.1] ∈ elems ∧
  (w.cell? (a.add (i * 6)) = some v0 ∧ w.cell? (a.add (i * 6 + 1)) = some v1 ∧ w.cell? (a.add (i * 6 + 2)) = some v2 ∧ w.cell? (a.add (i * 6 + 3)) = some v3 ∧ w.cell? (a.add (i * 6 + 4)) = some v4 ∧ w.cell? (a.add (i * 6 + 5)) = some v5) ∧
  DataW.trod enc P w base spare held n f0.type [v0] = some y0 ∧ DataW.trod enc P w base spare held n f1.type [v1] = some y1 ∧ DataW.trod enc P w base spare held n f2.type [v2] = some y2 ∧ DataW.trod enc P w base spare held n f3.type [v3] = some y3 ∧ DataW.trod enc P w base spare held n f4.type [v4] = some y4 ∧ DataW.trod enc P w base spare held n f5.type [v5] = some y5) := by
 rcases open_slice ht h with ⟨h0, -⟩ | ⟨a, len, cap, m, n, D, Pl, rfl, hb, hl, hm, hmm, rfl, hx⟩
 ·exact Or.inl h0
 right
 have hlm : len ≤ m := by rw [hmm]; split <;> omega
 refine ⟨a, len, cap, n - 1, rfl, _, _, rfl, by simp, fun i hi => ?_⟩
 obtain ⟨cs', h1, h2⟩ := hx i (by omega)
 rw [ce] at h1
 obtain ⟨_, hlen, hcell⟩ := World.cells?_some h1
 obtain ⟨xs, k, hk, hxy, _, hxl, hf⟩ := DataW.trod_struct he h2
 have hk' : k = n - 1 := by omega
 subst hk'
 obtain ⟨v0, v1, v2, v3, v4, v5, rfl⟩ : ∃ v0 v1 v2 v3 v4 v5, cs' = [v0, v1, v2, v3, v4, v5] := by
  match cs', hlen with
  | [v0, v1, v2, v3, v4, v5], _ => exact ⟨_, _, _, _, _, _, rfl⟩
 obtain ⟨y0, y1, y2, y3, y4, y5, rfl⟩ : ∃ y0 y1 y2 y3 y4 y5, xs = [y0, y1, y2, y3, y4, y5] := by
  match xs, hxl with
  | [y0, y1, y2, y3, y4, y5], _ => exact ⟨_, _, _, _, _, _, rfl⟩
 have g0 := hf 0 f0 rfl
 have g1 := hf 1 f1 rfl
 have g2 := hf 2 f2 rfl
 have g3 := hf 3 f3 rfl
 have g4 := hf 4 f4 rfl
 have g5 := hf 5 f5 rfl
 simp [o0, o1, o2, o3, o4, o5, c0, c1, c2, c3, c4, c5] at g0 g1 g2 g3 g4 g5
 have e0 := hcell 0 (by omega)
 have e1 := hcell 1 (by omega)
 have e2 := hcell 2 (by omega)
 have e3 := hcell 3 (by omega)
 have e4 := hcell 4 (by omega)
 have e5 := hcell 5 (by omega)
 rw [add_add] at e0 e1 e2 e3 e4 e5
 exact ⟨v0, v1, v2, v3, v4, v5, y0, y1, y2, y3, y4, y5, List.mem_map.2 ⟨i, List.mem_range.2 hi, (by simpa using (Prod.mk.inj hxy).1)⟩, ⟨by simpa using e0, by simpa using e1, by simpa using e2, by simpa using e3, by simpa using e4, by simpa using e5⟩, g0, g1, g2, g3, g4, g5⟩
end
theorem weightsAll_mem {H : Type} {P : Program} {e : TypeId} : ∀ {l : List (DataW H)} {d : DataW H}, d ∈ l → ∀ n ∈ d.weights P e, n ∈ DataW.weightsAll P e l
 | x :: r, d, hd, n, hn => by
   rw [DataW.weightsAll, List.mem_append]
   rcases List.mem_cons.1 hd with rfl | hd
   ·exact .inl hn
   ·exact .inr (weightsAll_mem hd n hn)
theorem i64_of_wf {n : Int} (h : (Lit.int .i64 n).wf = true) : -9223372036854775808 ≤ n ∧ n ≤ 9223372036854775807 := by
 simp only [Lit.wf, Bool.and_eq_true, decide_eq_true_eq] at h
 exact h
theorem plain_addr {w : World} {a : Addr} {v : Value} (h : w.cell? a = some v) : a = ⟨a.block, a.off, none⟩ ∧ a.block < w.heap.size := by
 obtain ⟨b, o, s⟩ := a
 cases s with
 | none =>
   refine ⟨rfl, ?_⟩
   by_cases hb : b < w.heap.size
   ·exact hb
   ·simp [World.cell?, Array.getElem?_eq_none (Nat.le_of_not_lt hb)] at h
 | some s =>
   simp only [World.cell?] at h
   split at h <;> simp at h
theorem script_of_trod {H : Type} {enc : TypeId × Value → H} {w : World} {base : Nat} {spare : Nat → Bool} {held : Bool} {fuel : Nat} {v : Value} {x : DataW H × List MemPlace} (h : DataW.trod enc Tryz.prog w base spare held fuel 22 [v] = some x) (hsz : ∀ n ∈ x.1.weights Tryz.prog 22, n ≤ reachBytes) :
    ∃ (ops : List OpD) (ao : Option Addr) (cap : Nat), v = .slice ao ops.length cap ∧ ops.length ≤ 281474976710656 ∧ ScrAt w ao ops ∧ (∀ o ∈ ops, o.s.size ≤ 281474976710656 ∧ o.t.size ≤ 281474976710656) ∧ (∀ o ∈ ops, (-9223372036854775808 ≤ o.a ∧ o.a ≤ 9223372036854775807) ∧ (-9223372036854775808 ≤ o.b ∧ o.b ≤ 9223372036854775807)) := by
  rcases open_six Tryz.underlying22 Tryz.underlying31 (by kernel_rfl) rfl rfl rfl rfl rfl rfl (by kernel_rfl) (by kernel_rfl) (by kernel_rfl) (by kernel_rfl) (by kernel_rfl) (by kernel_rfl) h with h0 | ⟨a, len, cap, n, h0, elems, sp, hx1, hel, hx⟩
  · simp at h0
    exact ⟨[], none, 0, h0, by simp, fun i hi => by simp at hi, fun o ho => by simp at ho, fun o ho => by simp at ho⟩
  · simp at h0
    rw [hx1] at hsz
    simp only [DataW.weights, Tryz.underlying22] at hsz
    have hlen : (elems.length + sp.length) * Tryz.prog.bytesOf 31 ≤ reachBytes := hsz _ (List.mem_cons_self ..)
    rw [show Tryz.prog.bytesOf 31 = 64 by kernel_rfl] at hlen
    unfold reachBytes at hsz hlen
    have each : ∀ i, i < len → ∃ o : OpD, (a = ⟨a.block, a.off, none⟩ ∧ a.block < w.heap.size ∧ OpAt w a.block (a.off + i * 6) o) ∧ (o.s.size ≤ 281474976710656 ∧ o.t.size ≤ 281474976710656) ∧ (-9223372036854775808 ≤ o.a ∧ o.a ≤ 9223372036854775807) ∧ (-9223372036854775808 ≤ o.b ∧ o.b ≤ 9223372036854775807) := by
      intro i hi
      obtain ⟨v0, v1, v2, v3, v4, v5, y0, y1, y2, y3, y4, y5, hmm, ⟨e0, e1, e2, e3, e4, e5⟩, t0, t1, t2, t3, t4, t5⟩ := hx i hi
      obtain ⟨z0, h0, -, w0⟩ := DataW.trod_int Tryz.underlying3 t0
      obtain ⟨z1, h1, -, w1⟩ := DataW.trod_int Tryz.underlying3 t1
      obtain ⟨z2, h2, -, w2⟩ := DataW.trod_int Tryz.underlying3 t2
      obtain ⟨z3, h3, -, w3⟩ := DataW.trod_int Tryz.underlying3 t3
      obtain ⟨z4, h4, d4, -⟩ := DataW.trod_string Tryz.underlying9 t4
      obtain ⟨z5, h5, d5, -⟩ := DataW.trod_string Tryz.underlying9 t5
      simp at h0 h1 h2 h3 h4 h5
      subst h0 h1 h2 h3 h4 h5
      have hw : ∀ n ∈ (DataW.agg [y0.1, y1.1, y2.1, y3.1, y4.1, y5.1]).weights Tryz.prog 31, n ≤ 140737488351232 := fun n hn => hsz n (List.mem_cons_of_mem _ (List.mem_append_left _ (weightsAll_mem hmm n hn)))
      simp only [DataW.weights, Tryz.underlying31] at hw
      have w4 : z4.size ≤ 140737488351232 := by
        refine hw _ (DataW.weights_mem_each (j := 4) (t := 9) rfl rfl _ ?_)
        rw [d4]
        simp [DataW.weights]
      have w5 : z5.size ≤ 140737488351232 := by
        refine hw _ (DataW.weights_mem_each (j := 5) (t := 9) rfl rfl _ ?_)
        rw [d5]
        simp [DataW.weights]
      have hp : a = ⟨a.block, a.off, none⟩ ∧ a.block < w.heap.size := by
        obtain ⟨u0, _, _, _, _, _, _, _, _, _, _, _, _, ⟨k0, _⟩, _⟩ := hx 0 (by omega)
        rw [show a.add (0 * 6) = a by simp [Addr.add]] at k0
        exact plain_addr k0
      rw [hp.1, add_plain] at e0 e1 e2 e3 e4 e5
      exact ⟨⟨z0, z1, z2, z3, z4, z5⟩, ⟨hp.1, hp.2, e0, e1, e2, e3, e4, e5⟩, ⟨Nat.le_trans w4 (by decide), Nat.le_trans w5 (by decide)⟩, i64_of_wf w1, i64_of_wf w2⟩
    haveI : Inhabited OpD := ⟨⟨0, 0, 0, 0, ⟨#[]⟩, ⟨#[]⟩⟩⟩
    obtain ⟨q, hq⟩ := choose_lt each
    have hmem : ∀ o ∈ (List.range len).map q, ∃ i, i < len ∧ q i = o := fun o ho => by simpa using ho
    refine ⟨(List.range len).map q, some a, cap, by simpa using h0, by simp; omega, fun i hi => ?_, fun o ho => ?_, fun o ho => ?_⟩
    · have hil : i < len := by simpa using hi
      obtain ⟨⟨p1, p2, p3⟩, -⟩ := hq i hil
      exact ⟨a.block, a.off, by rw [← p1], p2, by simpa using p3⟩
    · obtain ⟨i, hi, rfl⟩ := hmem o ho
      exact (hq i hi).2.1
    · obtain ⟨i, hi, rfl⟩ := hmem o ho
      exact (hq i hi).2.2
open Go.RowKit
def FoundM (w : World) (ms : List Hm) (g : Int) (r q : Nat) (v : Value) (ok : Bool) : Prop := (ok = true ∧ ∃ i hd zs, i < 24 ∧ ms.getD i none = some (hd, r, q, zs) ∧ (hd : Int) = g ∧ IsM w v r q zs 200000000) ∨ (ok = false ∧ ∀ k, k < 24 → ∀ x, ms.getD k none = some x → (x.1 : Int) ≠ g)
theorem find_held (b : Nat) (g : Int) (ms : List Hm) (nx : Nat) (w : World) (hst : Held w b ms nx) :
 Calls Tryz.prog 41 #[.pointer (some ⟨b, 0, none⟩), .int .i64 g] w fun e w' => (∃ r q ao n cap ok, e = .returned (.tuple #[.agg #[.int .i64 ((r : Nat) : Int), .int .i64 ((q : Nat) : Int), .slice ao n cap], .bool ok]) ∧ FoundM w' ms g r q (.agg #[.int .i64 (r : Nat), .int .i64 (q : Nat), .slice ao n cap]) ok) ∧ Below w.heap.size w w' := by
 obtain ⟨hm24, -, sl, hsg, hsl⟩ := hst
 have hsh : ∀ k x, sl.getD k none = some x → ∃ ao n cap, x.2.2.2 = .slice ao n cap := fun k x hx => by
  have hk := getD_past24 hsg.1 hx
  have h1 := hsl k hk
  rw [hx] at h1
  exact h1.shape
 refine (find_any b g sl nx w hsg hsh).mono ?_
 rintro e w1 ⟨⟨v, ok, rfl, hf⟩, hb1⟩
 refine ⟨?_, hb1⟩
 rcases hf with ⟨rfl, k, hk, x, hx, hxh, rfl⟩ | ⟨rfl, rfl, hno⟩
 ·obtain ⟨y, hy, e1, e2, e3, hM⟩ := some_of hsl hk hx
  obtain ⟨ao, n, cap, hv⟩ := hsh k x hx
  obtain ⟨hd, r, c, v⟩ := x
  obtain ⟨hd', r', c', zs⟩ := y
  simp only at e1 e2 e3 hM hv hxh
  subst e1; subst e2; subst e3; subst hv
  exact ⟨r, c, ao, n, cap, true, rfl, .inl ⟨rfl, k, hd, zs, hk, hy, hxh, hM.below hb1⟩⟩
 ·exact ⟨0, 0, none, 0, 0, false, rfl, .inr ⟨rfl, none_of hsl hno⟩⟩
theorem keep_held (b r c : Nat) (ao : Option Addr) (m cap : Nat) (zs : List Int) (ms : List Hm) (nx n : Nat) (w : World) (hst : Held w b ms nx) (hM : IsM w (.agg #[.int .i64 r, .int .i64 c, .slice ao m cap]) r c zs 200000000) (hn : FreeAt ms n) (hnx : nx < 1000000) :
 Calls Tryz.prog 48 #[.pointer (some ⟨b, 0, none⟩), .agg #[.int .i64 r, .int .i64 c, .slice ao m cap]] w fun e w' => e = .returned (.int .i64 (nx : Nat)) ∧ Held w' b (ms.set n (some (nx, r, c, zs))) (nx + 1) ∧ Fr b w w' := by
 obtain ⟨hm24, -, sl, hsg, hsl⟩ := hst
 have hff : FirstFree sl n := ⟨hn.1, (hsl n hn.1).none_iff.2 hn.2.1, fun j hj e => hn.2.2 j hj ((hsl j (by have := hn.1; omega)).none_iff.1 e)⟩
 refine (keep_any b r c ao m cap sl nx n w hsg hff (by omega)).mono ?_
 rintro e w3 ⟨rfl, hS3, hF3⟩
 refine ⟨rfl, ⟨by simp [hm24], by omega, _, hS3, fun i hi => ?_⟩, hF3⟩
 rw [slt_set (by have := hsg.1; have := hff.1; omega), hm_set (by have := hff.1; omega)]
 by_cases hin : i = n
 ·rw [if_pos hin, if_pos hin]
  exact ⟨rfl, rfl, rfl, hM.keepT hF3.2⟩
 ·rw [if_neg hin, if_neg hin]
  exact (hsl i hi).keep hF3.2
theorem room_held (b : Nat) (ms : List Hm) (nx : Nat) (w : World) (hst : Held w b ms nx) :
 Calls Tryz.prog 47 #[.pointer (some ⟨b, 0, none⟩)] w fun e w' => e = .returned (.int .i64 ((ms.countP Option.isNone : Nat) : Int)) ∧ w' = w := by
 obtain ⟨hm24, -, sl, hsg, hsl⟩ := hst
 refine (room_any b sl nx w hsg).mono ?_
 rintro e w' ⟨rfl, rfl⟩
 refine ⟨?_, rfl⟩
 have key : ∀ (a : List Slt) (m : List Hm), a.length = m.length → (∀ i, i < a.length → ((a.getD i none).isNone = (m.getD i none).isNone)) → a.countP Option.isNone = m.countP Option.isNone := by
  intro a
  induction a with
  | nil => intro m hl _; cases m with
    | nil => rfl
    | cons => simp at hl
  | cons x a ih => intro m hl h; cases m with
    | nil => simp at hl
    | cons y m =>
      have h0 := h 0 (by simp)
      have h1 := ih m (by simpa using hl) (fun i hi => by have := h (i + 1) (by simpa using hi); simpa using this)
      rw [List.countP_cons, List.countP_cons, h1]
      simp at h0
      rw [h0]
 rw [key sl ms (by rw [hsg.1, hm24]) (fun i hi => by
  have h1 := (hsl i (by have := hsg.1; omega)).none_iff
  cases hx : sl.getD i none with
  | none => rw [h1.1 hx]; rfl
  | some x => cases hy : ms.getD i none with
    | none => rw [h1.2 hy] at hx; cases hx
    | some y => rfl)]
open Go.RowKit
theorem new_cell (w : World) (c : Array Value) (t : TypeId) (i b : Nat) {v : Value} (hb : b = w.heap.size) (h : c[i]? = some v) : (w.alloc (.cells c t)).cell? ⟨b, i, none⟩ = some v := by
 rw [hb, World.cell?_alloc_new]; exact h
def Duo (w : World) (b : Nat) (x y : Value) : Prop := w.heap[b]? = some (.cells #[x, y] 94 (0, 0))
theorem Duo.below {B : Nat} {w w' : World} {b : Nat} {x y : Value} (h : Duo w b x y) (hb : Below B w w') (hB : b < B) : Duo w' b x y := by unfold Duo; rw [hb.block b hB]; exact h
theorem Duo.new (w : World) (x y : Value) {b : Nat} (hb : b = w.heap.size) : Duo (w.alloc (.cells #[x, y] 94)) b x y := by rw [hb]; exact heap_alloc_new w _
theorem Duo.drew {w : World} {b : Nat} {x y : Value} (h : Duo w b x y) : Duo w.drew b x y := h
theorem Duo.put {w : World} {b : Nat} {x y : Value} (h : Duo w b x y) (x' y' : Value) : Duo ((w.setCell ⟨b, 0, none⟩ x').setCell ⟨b, 1, none⟩ y') b x' y' := by
 unfold Duo at *
 rw [heap_setCell_same _ _ _ _ _ _ (heap_setCell_same _ _ _ _ _ _ h)]
 simp
theorem Duo.ty {w : World} {b : Nat} {x y : Value} (h : Duo w b x y) : Ty w b 94 := ⟨_, _, h⟩
theorem Duo.cells {w : World} {b : Nat} {x y : Value} (h : Duo w b x y) : w.cell? ⟨b, 0, none⟩ = some x ∧ w.cell? ⟨b, 1, none⟩ = some y ∧ w.frozen? ⟨b, 0, none⟩ = false ∧ w.frozen? ⟨b, 1, none⟩ = false := by
 unfold Duo at h
 refine ⟨?_, ?_, ?_, ?_⟩ <;> simp [World.cell?, World.frozen?, h]
theorem IsI.duo {w : World} {v : Value} {z : Int} {L b : Nat} {x y : Value} (h : IsI w v z L) (hd : Duo w b x y) (x' y' : Value) : IsI ((w.setCell ⟨b, 0, none⟩ x').setCell ⟨b, 1, none⟩ y') v z L := h.keep (KU.setCell (KU.setCell (KU.refl _) hd.ty (by decide) _) (hd.ty.setCell _ _) (by decide) _)
theorem grown_put2 {W w : World} {b i j : Nat} {x y : Value} (h : W.grownBy w (some b)) : W.grownBy ((w.setCell ⟨b, i, none⟩ x).setCell ⟨b, j, none⟩ y) (some b) := by
 refine grown_trans h ⟨rfl, rfl, rfl, by simp [World.setCell], fun k _ hne => ?_⟩
 rw [Below.heap_setCell _ _ _ _ (fun e => hne (by simp [e])), Below.heap_setCell _ _ _ _ (fun e => hne (by simp [e]))]
def dot (f g : Nat → Nat → Int) (i j : Nat) : Nat → Int
 | 0 => 0
 | t + 1 => dot f g i j t + f i t * g t j
theorem dot_congr {f g f' g' : Nat → Nat → Int} {i j : Nat} (t : Nat) (h1 : ∀ k, k < t → f i k = f' i k) (h2 : ∀ k, k < t → g k j = g' k j) : dot f g i j t = dot f' g' i j t := by
 induction t with
 | zero => rfl
 | succ t ih => rw [dot, dot, ih (fun k hk => h1 k (by omega)) (fun k hk => h2 k (by omega)), h1 t (by omega), h2 t (by omega)]
open Go.RowKit
def Trio (w : World) (b : Nat) (x y z : Value) : Prop := w.cell? ⟨b, 0, none⟩ = some x ∧ w.cell? ⟨b, 1, none⟩ = some y ∧ w.cell? ⟨b, 2, none⟩ = some z
theorem Trio.later {w w' : World} {b : Nat} {x y z : Value} (h : Trio w b x y z) (hb : Below w.heap.size w w') : Trio w' b x y z := ⟨cell_later hb h.1, cell_later hb h.2.1, cell_later hb h.2.2⟩
theorem Trio.grown {w w' : World} {b s : Nat} {x y z : Value} (h : Trio w b x y z) (hg : w.grownBy w' (some s)) (hne : b ≠ s) : Trio w' b x y z := ⟨hg.cell h.1 (by simpa using hne), hg.cell h.2.1 (by simpa using hne), hg.cell h.2.2 (by simpa using hne)⟩
set_option maxRecDepth 100000 in
set_option maxHeartbeats 4000000 in
theorem dotm_any (v u : Value) (r q c row col : Nat) (zs ys : List Int) (L : Nat) (w : World) (hm : IsM w v r q zs L) (hn : IsM w u q c ys L) (hrow : row < r) (hcol : col < c) (hL : L ≤ 200000000) :
 Calls Tryz.prog 86 #[v, .int .i64 row, u, .int .i64 col] w fun e w' => ∃ x, e = .returned x ∧ IntOut w w' x (dot (fun i j => zs.getD (i * q + j) 0) (fun i j => ys.getD (i * c + j) 0) row col q) (L + L + 1 + q) := by
 have HM := Hid.mk hm
 have HN := Hid.mk hn
 obtain ⟨hr, hq, sl, rfl, hg0⟩ := hm
 obtain ⟨ao, cap, rfl, -⟩ := hg0.shape
 obtain ⟨-, hc, sl', rfl, hg1⟩ := hn
 obtain ⟨bo, dap, rfl, -⟩ := hg1.shape
 clear hg0 hg1
 obtain ⟨N, hN⟩ : ∃ N, N = r * q := ⟨_, rfl⟩
 rw [← hN] at HM ⊢
 obtain ⟨M, hM⟩ : ∃ M, M = q * c := ⟨_, rfl⟩
 rw [← hM] at HN ⊢
 clear hN hM
 go_enter Tryz.func86, Tryz.ntmps86
 go_wp2_with fail
 obtain ⟨W1, hW1⟩ : ∃ W1, W1 = (((w.alloc (.cells #[.int .i64 r, .int .i64 q, .slice ao N cap] 76)).alloc (.cells #[.int .i64 q, .int .i64 c, .slice bo M dap] 76)).alloc (.cells #[.bool false, .slice none 0 0] 94)).alloc (.cells #[.bool false, .slice none 0 0] 94) := ⟨_, rfl⟩
 rw [← hW1]
 have hB1 : Below w.heap.size w W1 := by
  rw [hW1]
  repeat (first | exact Below.refl _ _ | refine Below.alloc ?_ (by simp <;> omega) _)
 have hm1 : Trio W1 w.heap.size (.int .i64 r) (.int .i64 q) (.slice ao N cap) := by
  rw [hW1]
  exact ⟨cell3 (by simp) _ _ _, cell3 (by simp) _ _ _, cell3 (by simp) _ _ _⟩
 have hn1 : Trio W1 (w.heap.size + 1) (.int .i64 q) (.int .i64 c) (.slice bo M dap) := by
  rw [hW1]
  exact ⟨cell1 (cell1 (new_cell _ _ _ _ _ (by simp) rfl) _) _, cell1 (cell1 (new_cell _ _ _ _ _ (by simp) rfl) _) _, cell1 (cell1 (new_cell _ _ _ _ _ (by simp) rfl) _) _⟩
 have hd1 : Duo W1 (w.heap.size + 1 + 1 + 1) (.bool false) (.slice none 0 0) := by rw [hW1]; exact Duo.new _ _ _ (by simp)
 have hres : Duo W1 (w.heap.size + 1 + 1) (.bool false) (.slice none 0 0) := by
  rw [hW1]
  exact (Duo.new _ _ _ (by simp)).below ((Below.refl _ _).alloc (Nat.le_refl _) _) (by simp)
 obtain ⟨sb, hsb⟩ : ∃ sb, sb = w.heap.size + 1 + 1 + 1 := ⟨_, rfl⟩
 rw [← hsb] at hd1 ⊢
 have hsb1 : w.heap.size + 3 ≤ sb := by omega
 have hS1 : W1.heap.size = sb + 1 := by rw [hW1, hsb]; simp
 have FF := Hid.mk (And.intro hm1 (And.intro hn1 (And.intro hres hS1)))
 have H1 := Hid.mk (And.intro hd1 hB1)
 have HSB := Hid.mk hsb
 clear hm1 hn1 hres hd1 hB1 hW1 hS1 hsb
 go_loopw [10] (fun i wr => ∃ (t : Nat) (nb : Bool) (so : Option Addr) (n ecap : Nat), t ≤ q ∧ i = .int .i64 t ∧ Duo wr sb (.bool nb) (.slice so n ecap) ∧ IsI wr (.agg #[.bool nb, .slice so n ecap]) (dot (fun i j => zs.getD (i * q + j) 0) (fun i j => ys.getD (i * c + j) 0) row col t) (L + L + 1 + t) ∧ W1.grownBy wr (some sb) ∧ Below w.heap.size w wr) (fun i _ => q - (intOf i).toNat)
 case atStart => exact ⟨0, _, _, _, _, Nat.zero_le _, rfl, H1.out.1, IsI.zero _ _, World.grownBy.refl _ _, H1.out.2⟩
 case round =>
  obtain ⟨t, nb, so, n, ecap, ht, rfl, hD, hI, hgr, hB⟩ := hrel
  obtain ⟨q0, q1, q2⟩ := FF.out.1.grown hgr (by omega)
  have hnT := FF.out.2.1.grown hgr (by omega)
  have hwr := hB.size
  have K := Hid.mk (And.intro hD (And.intro hI (And.intro hgr (And.intro hB hnT))))
  clear hD hI hgr hB hnT
  by_cases htq : t < q
  ·have hti : (t : Int) < (q : Int) := by omega
   go_wp2_with fail
   refine (at_in _ r q row t zs L _ (HM.out.below K.out.2.2.2.1) hrow htq).mono ?_
   rintro e w4 ⟨x, rfl, hx, hb4⟩
   obtain ⟨nb1, so1, n1, cp1, rfl⟩ := hx.shape
   have hbA : Below wr.heap.size wr (w4.alloc (.cells #[.bool nb1, .slice so1 n1 cp1] 94)) := hb4.alloc hb4.size _
   have hl4 := (Duo.new w4 (.bool nb1) (.slice so1 n1 cp1) rfl)
   have hxa := hx.below ((Below.refl w4.heap.size w4).alloc (Nat.le_refl _) (.cells #[.bool nb1, .slice so1 n1 cp1] 94))
   obtain ⟨e0, e1, e2⟩ := K.out.2.2.2.2.later hbA
   have hw4 := hb4.size
   have KA := Hid.mk (And.intro hbA (And.intro hl4 hxa))
   clear hbA hl4 hxa hx hb4 q0 q1 q2
   go_wp2_with fail
   refine (at_in _ q c t col ys L _ (HN.out.below (K.out.2.2.2.1.trans (KA.out.1.mono hwr))) htq hcol).mono ?_
   rintro e w5 ⟨x, rfl, hx, hb5⟩
   obtain ⟨nb2, so2, n2, cp2, rfl⟩ := hx.shape
   have hbB : Below wr.heap.size wr (w5.alloc (.cells #[.bool nb2, .slice so2 n2 cp2] 94)) := (KA.out.1.trans (hb5.mono (by simp; omega))).alloc (by have := hb5.size; simp at this; omega) _
   have hb55 := (Below.refl w5.heap.size w5).alloc (Nat.le_refl _) (.cells #[.bool nb2, .slice so2 n2 cp2] 94)
   have hlt4 : w4.heap.size < w5.heap.size := by have := hb5.size; simp at this; omega
   have hl5 := (KA.out.2.1.below hb5 (by simp)).below hb55 hlt4
   obtain ⟨d1, d2, -, -⟩ := hl5.cells
   have KB := Hid.mk (And.intro hbB (And.intro ((KA.out.2.2.below hb5).below hb55) (hx.below hb55)))
   clear hx hb5 hbB hb55 hl5 e0 e1 e2
   go_wp2_with fail
   refine (mul_any _ _ (zs.getD (row * q + t) 0) (ys.getD (t * c + col) 0) L L _ KB.out.2.1 KB.out.2.2 (by omega) (by omega)).mono ?_
   rintro e w6 ⟨x, rfl, hx, hb6⟩
   obtain ⟨nb3, so3, n3, cp3, rfl⟩ := hx.shape
   have hw5 : wr.heap.size ≤ w5.heap.size := by omega
   have hbC : Below wr.heap.size wr (w6.alloc (.cells #[.bool nb3, .slice so3 n3 cp3] 94)) := (KB.out.1.trans (hb6.mono (by simp; omega))).alloc (by have := hb6.size; simp at this; omega) _
   have hb66 := (Below.refl w6.heap.size w6).alloc (Nat.le_refl _) (.cells #[.bool nb3, .slice so3 n3 cp3] 94)
   have hD6 := K.out.1.below hbC (Array.getElem?_eq_some_iff.1 K.out.1).1
   have hI6 := K.out.2.1.below hbC
   clear d1 d2
   obtain ⟨d1, d2, d3, d4⟩ := hD6.cells
   have KC := Hid.mk (And.intro hbC (And.intro hD6 (And.intro hI6 (hx.below hb66))))
   clear hx hb6 hbC hb66 hD6 hI6
   go_wp2_with fail
   refine (add_any _ _ _ (zs.getD (row * q + t) 0 * ys.getD (t * c + col) 0) (L + L + 1 + t) (L + L) _ KC.out.2.2.1 KC.out.2.2.2 (by omega) (by omega)).mono ?_
   rintro e w7 ⟨x, rfl, hx, hb7⟩
   obtain ⟨nb4, so4, n4, cp4, rfl⟩ := hx.shape
   have hlt6 : sb < (w6.alloc (.cells #[.bool nb3, .slice so3 n3 cp3] 94)).heap.size := (Array.getElem?_eq_some_iff.1 KC.out.2.1).1
   have hbD : Below wr.heap.size wr w7 := KC.out.1.trans (hb7.mono KC.out.1.size)
   have hD7 := KC.out.2.1.below hb7 hlt6
   clear d1 d2 d3 d4
   obtain ⟨d1, d2, d3, d4⟩ := hD7.cells
   have KD := Hid.mk (And.intro hbD (And.intro hD7 hx))
   clear hx hb7 hbD hD7 hlt6
   go_wp2_with fail
   go_roundw
   case measure => simp [intOf]; omega
   case rel =>
    refine ⟨t + 1, nb4, so4, n4, cp4, by omega, by go_num, KD.out.2.1.put _ _, ?_, grown_put2 (grown_below K.out.2.2.1 KD.out.1), ((K.out.2.2.2.1.trans (KD.out.1.mono hwr)).setCell (by simp; omega) _).setCell (by simp; omega) _⟩
    exact (KD.out.2.2.duo KD.out.2.1 _ _).mono (by omega)
  ·have hte : t = q := by omega
   subst hte
   obtain ⟨d1, d2, d3, d4⟩ := K.out.1.cells
   have hR := FF.out.2.2.1
   have hRb : wr.heap[w.heap.size + 1 + 1]? = W1.heap[w.heap.size + 1 + 1]? := K.out.2.2.1.block _ (by have := FF.out.2.2.2; omega) (by have := HSB.out; simp; omega)
   have hRD : Duo wr (w.heap.size + 1 + 1) (.bool false) (.slice none 0 0) := by unfold Duo; rw [hRb]; exact hR
   have hcell := (hRD.put (.bool nb) (.slice so n ecap)).cells
   have HR := Hid.mk (And.intro hRD hcell)
   obtain ⟨r1, r2, r3, r4⟩ := hRD.cells
   clear hR hRb hRD hcell
   go_wp2_with fail
   obtain ⟨g1, g2, -, -⟩ := HR.out.2
   refine bodyPost_ret (v := .agg #[.bool nb, .slice so n ecap]) ?_ rfl ?_
   ·(simp [results, Tryz.results86, go_sem, g1, g2]; done)
   ·exact ⟨_, rfl, K.out.2.1.duo HR.out.1 _ _, (K.out.2.2.2.1.setCell (by simp; omega) _).setCell (by simp; omega) _⟩
end Go.Proofs.YtfjbijpagaipnaaGreatDoor
