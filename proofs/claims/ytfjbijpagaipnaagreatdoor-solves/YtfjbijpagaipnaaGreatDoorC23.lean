import Derived.Test.YtfjbijpagaipnaaGreatDoorC22
import Derived.Deep.Slices
import Derived.ProofKit
import Derived.SizedLaws
import Derived.Test.YtfjbijpagaipnaaGreatDoorC13
import Derived.Test.YtfjbijpagaipnaaGreatDoorC01
namespace Go.Proofs.YtfjbijpagaipnaaGreatDoor
open Go.RowKit R
def OpD.cells (o : OpD) : List Value := [.int .i64 o.kd, .int .i64 o.a, .int .i64 o.b, .int .i64 o.c, .string o.s, .string o.t]
def ocells : List OpD → List Value
 | [] => []
 | o :: r => o.cells ++ ocells r
theorem ocells_len (l : List OpD) : (ocells l).length = l.length * 6 := by
 induction l with
 | nil => rfl
 | cons o r ih => simp only [ocells, List.length_append, ih, OpD.cells, List.length_cons, List.length_nil]; omega
theorem ocells_app (l : List OpD) (o : OpD) : ocells (l ++ [o]) = ocells l ++ o.cells := by
 induction l with
 | nil => simp [ocells]
 | cons x r ih => simp only [List.cons_append, ocells, ih, List.append_assoc]
theorem ocells_get (l : List OpD) (i : Nat) (hi : i < l.length) (f : Nat) (hf : f < 6) : (ocells l)[i * 6 + f]? = (l[i].cells)[f]? := by
 induction l generalizing i with
 | nil => simp at hi
 | cons x r ih =>
   match i with
   | 0 =>
     simp only [ocells, List.getElem_cons_zero, Nat.zero_mul, Nat.zero_add]
     rw [List.getElem?_append_left (by simp [OpD.cells]; omega)]
   | i + 1 =>
     simp only [ocells, List.getElem_cons_succ]
     rw [List.getElem?_append_right (by simp [OpD.cells]; omega), ← ih i (by simpa using hi)]
     congr 1
     simp [OpD.cells]; omega
theorem scr_of_own {B : Nat} {w : World} {v : Value} {l : List OpD} (h : w.ownsRow B 31 6 v l.length (ocells l)) :
 ∃ ao cap, v = .slice ao l.length cap ∧ ∀ i (hi : i < l.length), ∃ g, ao = some ⟨g, 0, none⟩ ∧ g < w.heap.size ∧ OpAt w g (i * 6) l[i] := by
 have hl := ocells_len l
 rcases h.2 with ⟨rfl, h0⟩ | ⟨g, cap, cur, rfl, hg, hh, r⟩
 ·exact ⟨none, 0, by rw [h0], fun i hi => by omega⟩
 ·refine ⟨some ⟨g, 0, none⟩, cap, rfl, fun i hi => ⟨g, rfl, (Array.getElem?_eq_some_iff.1 hh).1, ?_⟩⟩
  have key : ∀ f, f < 6 → w.cell? ⟨g, i * 6 + f, none⟩ = (l[i].cells)[f]? := by
   intro f hf
   rw [World.ownsRow.cellAt h (i * 6 + f) (by omega)]
   exact ocells_get l i hi f hf
  exact ⟨key 0 (by omega), key 1 (by omega), key 2 (by omega), key 3 (by omega), key 4 (by omega), key 5 (by omega)⟩
def pl (kd : Int) : Bool := (kd == 1 || kd == 2) || kd == 3
def inK (ks : List Int) (o : OpD) : Bool := pl o.kd || ks.any (fun x => o.kd == x)
def KsAt (w : World) (ko : Option Addr) (ks : List Int) : Prop := ∀ j (hj : j < ks.length), ∃ g o, ko = some ⟨g, o, none⟩ ∧ g < w.heap.size ∧ w.cell? ⟨g, o + j, none⟩ = some (.int .i64 ks[j])
theorem any_take_succ (ks : List Int) (f : Int → Bool) (j : Nat) (hj : j < ks.length) : (ks.take (j + 1)).any f = ((ks.take j).any f || f ks[j]) := by
 rw [List.take_succ_eq_append_getElem hj, List.any_append]
 simp
theorem Tryz.info31 : (Tryz.prog.info? 31).map (fun i => (i.zero, i.size, i.bytes)) = some (some (.agg #[.int .i64 0, .int .i64 0, .int .i64 0, .int .i64 0, .string ⟨#[]⟩, .string ⟨#[]⟩]), 6, 64) := by kernel_rfl
theorem append_op (w : World) {ops : Array Oper} {rest : List Oper} {o : Oper} {a : Act} {Q : Exit → Act → World → Prop} (hgd : o.guard = none) (s x : Operand)
 (ho : o.op = .call { callee := .builtin .append, args := #[s, x], argTypes := #[22, 22] }) (B : Nat) (v : Value) (l : List OpD) (hs : a.eval s = v) (hown : w.ownsRow B 31 6 v l.length (ocells l))
 (ad : Addr) (hx : a.eval x = .slice (some ad) 1 1) (od : OpD) (hc : ∀ f u, od.cells[f]? = some u → w.cell? (ad.add f) = some u) (hl : l.length ≤ 30000) (hB : B ≤ w.heap.size)
 (hK : ∀ v' w', w'.ownsRow B 31 6 v' (l ++ [od]).length (ocells (l ++ [od])) → w.grownBy w' v.ownBlock → wpList Tryz.prog ops Q rest (a.put o.dst v') w') : wpList Tryz.prog ops Q (o :: rest) a w := by
 obtain ⟨i, hi, hz0, hz1, hz2⟩ := info_parts Tryz.info31
 refine wpList_append_own w hgd s x 22 ho B 31 i (.agg #[.int .i64 0, .int .i64 0, .int .i64 0, .int .i64 0, .string ⟨#[]⟩, .string ⟨#[]⟩]) 6 64 Tryz.underlying22 hi hz0 hz1 hz2 rfl (by decide) v l.length (ocells l) hs hown ad 1 1 od.cells hx rfl ?_ ?_ ?_ ?_ hB ?_
 ·exact hc
 ·intro u hu
  simp [OpD.cells] at hu
  rcases hu with rfl | rfl | rfl | rfl | rfl | rfl <;> rfl
 ·unfold maxLen; omega
 ·omega
 ·intro v' w' h1 h2 _
  refine hK v' w' ?_ h2
  rw [ocells_app, List.length_append, List.length_singleton]
  exact h1
set_option maxRecDepth 100000 in
set_option maxHeartbeats 4000000 in
theorem plays_any (ops : List OpD) (ao : Option Addr) (cap : Nat) (ks : List Int) (ko : Option Addr) (kcap : Nat) (w : World) (htab : Tab w) (hrow : ScrAt w ao ops) (hks : KsAt w ko ks) (hkn : ks.length ≤ 1000) (hn : ops.length ≤ 281474976710656) (hs : ∀ o ∈ ops, o.s.size ≤ 281474976710656 ∧ o.t.size ≤ 281474976710656)
 (hup : ∀ w2 ao' cap', Tab w2 → ops.length ≤ 16384 → bulk ops ≤ 16384 → (∀ i (hi : i < (ops.filter (inK ks)).length), ∃ g, ao' = some ⟨g, 0, none⟩ ∧ g < w2.heap.size ∧ OpAt w2 g (i * 6) (ops.filter (inK ks))[i]) →
   Calls Tryz.prog 17 #[.slice ao' (ops.filter (inK ks)).length cap'] w2 fun x w' => x = .returned (.int .i64 (-1)) ∧ Below w2.heap.size w2 w') :
 Calls Tryz.prog 12 #[.slice ao ops.length cap, .slice ko ks.length kcap] w fun x w' => x = .returned (.bool true) ∧ Below w.heap.size w w' := by
 have H := Hid.mk (And.intro htab (And.intro hrow (And.intro hks (And.intro hup hs))))
 clear htab hrow hks hs hup
 go_enter Tryz.func12, Tryz.ntmps12
 go_wp2_with fail
 refine (small_any ops ao cap w H.out.2.1 hn H.out.2.2.2.2).mono ?_
 rintro x w1 ⟨rfl | ⟨rfl, hn1, hbk⟩, hb1⟩
 ·go_wp2_with fail
  go_ret
  exact ⟨rfl, hb1⟩
 ·have K1 := Hid.mk (And.intro hbk hb1)
  have hs1 := hb1.size
  clear hbk hb1
  go_wp2_with fail
  go_loopw [6, 7] (fun lv i wr => ∃ k : Nat, k ≤ ops.length ∧ i = .int .i64 k ∧ wr.ownsRow w.heap.size 31 6 lv ((ops.take k).filter (inK ks)).length (ocells ((ops.take k).filter (inK ks))) ∧ Below w.heap.size w wr) (fun _ i _ => ops.length - (intOf i).toNat)
  case atStart => exact ⟨0, Nat.zero_le _, rfl, World.ownsRow_nil _ _ _ _, K1.out.2⟩
  case round =>
   obtain ⟨k, hk, rfl, hown, hbel⟩ := hrel
   have hwr := hbel.size
   have K := Hid.mk (And.intro hown hbel)
   clear hown hbel
   by_cases hkl : k < ops.length
   ·obtain ⟨g, o, rfl, hgl, hop⟩ := H.out.2.1 k hkl
    obtain ⟨o1, o2, o3, o4, o5, o6⟩ := hop.below K.out.2 hgl
    have HT := Hid.mk (show (ops.take (k + 1)).filter (inK ks) = (ops.take k).filter (inK ks) ++ (if inK ks ops[k] then [ops[k]] else []) from by
     rw [List.take_succ_eq_append_getElem hkl, List.filter_append]
     congr 1
     by_cases h : inK ks ops[k] <;> simp [h])
    obtain ⟨od, hod⟩ : ∃ od, od = ops[k] := ⟨_, rfl⟩
    rw [← hod] at o1 o2 o3 o4 o5 o6 HT
    obtain ⟨l, hl⟩ : ∃ l, l = (ops.take k).filter (inK ks) := ⟨_, rfl⟩
    rw [← hl] at K HT
    have hll : l.length ≤ 16384 := by
     rw [hl]
     have := List.length_filter_le (inK ks) (ops.take k)
     simp at this
     omega
    have hki : (k : Int) < (ops.length : Int) := by omega
    clear hop hod hl
    go_upto_region 9 with fail
    go_cut [9] from 26 to 35 (fun x wx => x = .bool (pl od.kd) ∧ wx = wr)
    case first =>
     by_cases e1 : od.kd = 1
     ·have b1 : (od.kd == 1) = true := by simp [e1]
      have HP := Hid.mk (show pl od.kd = true by simp [pl, e1])
      clear e1
      go_wp2_with fail
      go_meet
      case rel => exact ⟨by rw [HP.out], rfl⟩
     ·have b1 : (od.kd == 1) = false := by simp [e1]
      by_cases e2 : od.kd = 2
      ·have b2 : (od.kd == 2) = true := by simp [e2]
       have HP := Hid.mk (show pl od.kd = true by simp [pl, e2])
       clear e1 e2
       go_wp2_with fail
       go_meet
       case rel => exact ⟨by rw [HP.out], rfl⟩
      ·have b2 : (od.kd == 2) = false := by simp [e2]
       have HP := Hid.mk (show pl od.kd = (od.kd == 3) by simp [pl, b1, b2])
       clear e1 e2
       go_wp2_with fail
       go_meet
       case rel => exact ⟨by rw [HP.out], rfl⟩
    case rest =>
     obtain ⟨rfl, rfl⟩ := hcut
     go_wp2_with fail
     go_loopw [9, 10] (fun b j wx => ∃ m : Nat, m ≤ ks.length ∧ b = .bool (pl od.kd || (ks.take m).any (fun x => od.kd == x)) ∧ j = .int .i64 m ∧ wx = wc) (fun _ j _ => ks.length - (intOf j).toNat)
     case atStart => exact ⟨0, Nat.zero_le _, by simp, rfl, rfl⟩
     case round =>
      obtain ⟨m, hm, rfl, rfl, rfl⟩ := hrel
      by_cases hml : m < ks.length
      ·obtain ⟨gk, ok, rfl, hgk, hck⟩ := H.out.2.2.1 m hml
       have c0 := hck
       rw [← K.out.2.cell (p := ⟨gk, ok + m, none⟩) (by simpa using hgk)] at c0
       have HM := Hid.mk (any_take_succ ks (fun x => od.kd == x) m hml)
       obtain ⟨kk, hkk⟩ : ∃ kk, kk = ks[m] := ⟨_, rfl⟩
       rw [← hkk] at c0 HM
       have hmi : (m : Int) < (ks.length : Int) := by omega
       clear hck hkk
       cases hpre : (pl od.kd || (ks.take m).any (fun x => od.kd == x))
       ·have HP := Hid.mk hpre
        clear hpre
        go_wp2_with fail
        go_roundw
        case measure => simp [intOf]; omega
        case rel => exact ⟨m + 1, by omega, by rw [HM.out, ← Bool.or_assoc, HP.out, Bool.false_or], by go_num, trivial⟩
       ·have HP := Hid.mk hpre
        clear hpre
        go_wp2_with fail
        go_roundw
        case measure => simp [intOf]; omega
        case rel => exact ⟨m + 1, by omega, by rw [HM.out, ← Bool.or_assoc, HP.out, Bool.true_or], by go_num, trivial⟩
      ·have hmi : ¬ (m : Int) < (ks.length : Int) := by omega
       have hme : m = ks.length := by omega
       have HIN := Hid.mk (show (pl od.kd || (ks.take m).any (fun x => od.kd == x)) = inK ks od by rw [hme, List.take_length]; rfl)
       rw [HIN.out]
       clear hme
       cases hin : inK ks od
       ·have HE := Hid.mk hin
        clear hin
        go_wp2_with fail
        go_roundw
        case measure => simp [intOf]; omega
        case rel =>
         refine ⟨k + 1, by omega, by go_num, ?_, K.out.2⟩
         rw [HT.out, HE.out]
         simpa using K.out.1
       ·have HE := Hid.mk hin
        clear hin
        go_wp2_with (at_builtin; refine append_op _ rfl _ _ rfl w.heap.size _ l rfl ?_ ⟨_, 0, none⟩ rfl od ?_ ?_ ?_ ?_)
        ·exact World.ownsRow.alloc K.out.1 _
        ·intro f u hu
         match f, hu with
         | 0, hu => simp [OpD.cells] at hu; subst hu; simp
         | 1, hu => simp [OpD.cells] at hu; subst hu; simp
         | 2, hu => simp [OpD.cells] at hu; subst hu; simp
         | 3, hu => simp [OpD.cells] at hu; subst hu; simp
         | 4, hu => simp [OpD.cells] at hu; subst hu; simp
         | 5, hu => simp [OpD.cells] at hu; subst hu; simp
         | f + 6, hu => simp [OpD.cells] at hu
        ·omega
        ·omega
        intro v' w' q1 q2
        have hbel2 : Below w.heap.size w w' := (K.out.2.alloc hwr _).grown q2 (by simp; omega) (fun j hj => (World.ownsRow.lt K.out.1 j hj).1)
        have K2 := Hid.mk (And.intro q1 hbel2)
        clear q1 q2 hbel2
        go_wp2_with fail
        go_roundw
        case measure => simp [intOf]; omega
        case rel =>
         refine ⟨k + 1, by omega, by go_num, ?_, K2.out.2⟩
         rw [HT.out, HE.out, if_pos rfl]
         rw [List.length_append, List.length_singleton]
         exact K2.out.1
   ·have hke : k = ops.length := by omega
    have hki : ¬ (k : Int) < (ops.length : Int) := by omega
    have hown := K.out.1
    rw [hke, List.take_length] at hown
    obtain ⟨ao2, cap2, rfl, hscr⟩ := scr_of_own hown
    have KS := Hid.mk hscr
    clear hown hscr
    go_wp2_with fail
    refine (H.out.2.2.2.1 _ ao2 cap2 (H.out.1.below K.out.2) hn1 K1.out.1 KS.out).mono ?_
    rintro x w3 ⟨rfl, hb3⟩
    have K3 := Hid.mk (K.out.2.trans (hb3.mono hwr))
    clear hb3
    go_wp2_with fail
    go_ret
    exact ⟨rfl, K3.out⟩
open Go.ChangeShapes Go.WideShapes Go.ChangeAt Go.RowKit Go.Deep
section
variable {H : Type} {enc : TypeId × Value → H} {P : Program} {w : World} {base : Nat} {spare : Nat → Bool} {held : Bool}
theorem open_six {t e : TypeId} {f0 f1 f2 f3 f4 f5 : Field} {fuel : Nat} {cs : List Value} {x : DataW H × List MemPlace} (ht : P.underlying t = some (.slice e)) (he : P.underlying e = some (.struct #[f0, f1, f2, f3, f4, f5]))
 (ce : P.cellsOf e = 6) (o0 : f0.offset = 0) (o1 : f1.offset = 1) (o2 : f2.offset = 2) (o3 : f3.offset = 3) (o4 : f4.offset = 4) (o5 : f5.offset = 5)
 (c0 : P.cellsOf f0.type = 1) (c1 : P.cellsOf f1.type = 1) (c2 : P.cellsOf f2.type = 1) (c3 : P.cellsOf f3.type = 1) (c4 : P.cellsOf f4.type = 1) (c5 : P.cellsOf f5.type = 1)
 (h : DataW.trod enc P w base spare held fuel t cs = some x) :
 cs = [.slice none 0 0] ∨ ∃ (a : Addr) (len cap n : Nat), cs = [.slice (some a) len cap] ∧ (∃ elems sp, x.1 = .slice elems sp ∧ elems.length = len ∧ ∀ i, i < len → ∃ (v0 v1 v2 v3 v4 v5 : Value) (y0 y1 y2 y3 y4 y5 : DataW H × List MemPlace), .agg [y0.1, y1.1, y2.1, y3.1, y4.1, y5.1] ∈ elems ∧
  (w.cell? (a.add (i * 6)) = some v0 ∧ w.cell? (a.add (i * 6 + 1)) = some v1 ∧ w.cell? (a.add (i * 6 + 2)) = some v2 ∧ w.cell? (a.add (i * 6 + 3)) = some v3 ∧ w.cell? (a.add (i * 6 + 4)) = some v4 ∧ w.cell? (a.add (i * 6 + 5)) = some v5) ∧
  DataW.trod enc P w base spare held n f0.type [v0] = some y0 ∧ DataW.trod enc P w base spare held n f1.type [v1] = some y1 ∧ DataW.trod enc P w base spare held n f2.type [v2] = some y2 ∧ DataW.trod enc P w base spare held n f3.type [v3] = some y3 ∧ DataW.trod enc P w base spare held n f4.type [v4] = some y4 ∧ DataW.trod enc P w base spare held n f5.type [v5] = some y5) := by
 rcases open_slice ht h with ⟨h0, -⟩ | ⟨a, len, cap, m, n, D, Pl, rfl, hb, hl, hm, hmm, rfl, hx⟩
 ·exact Or.inl h0
 right
 have hlm : len ≤ m := by rw [hmm]; split <;> omega
 refine ⟨a, len, cap, n - 1, rfl, _, _, rfl, by simp, fun i hi => ?_⟩
 obtain ⟨cs', h1, h2⟩ := hx i (by omega)
 rw [ce] at h1
 obtain ⟨_, hlen, hcell⟩ := World.cells?_some h1
 obtain ⟨xs, k, hk, hxy, _, hxl, hf⟩ := DataW.trod_struct he h2
 have hk' : k = n - 1 := by omega
 subst hk'
 obtain ⟨v0, v1, v2, v3, v4, v5, rfl⟩ : ∃ v0 v1 v2 v3 v4 v5, cs' = [v0, v1, v2, v3, v4, v5] := by
  match cs', hlen with
  | [v0, v1, v2, v3, v4, v5], _ => exact ⟨_, _, _, _, _, _, rfl⟩
 obtain ⟨y0, y1, y2, y3, y4, y5, rfl⟩ : ∃ y0 y1 y2 y3 y4 y5, xs = [y0, y1, y2, y3, y4, y5] := by
  match xs, hxl with
  | [y0, y1, y2, y3, y4, y5], _ => exact ⟨_, _, _, _, _, _, rfl⟩
 have g0 := hf 0 f0 rfl
 have g1 := hf 1 f1 rfl
 have g2 := hf 2 f2 rfl
 have g3 := hf 3 f3 rfl
 have g4 := hf 4 f4 rfl
 have g5 := hf 5 f5 rfl
 simp [o0, o1, o2, o3, o4, o5, c0, c1, c2, c3, c4, c5] at g0 g1 g2 g3 g4 g5
 have e0 := hcell 0 (by omega)
 have e1 := hcell 1 (by omega)
 have e2 := hcell 2 (by omega)
 have e3 := hcell 3 (by omega)
 have e4 := hcell 4 (by omega)
 have e5 := hcell 5 (by omega)
 rw [add_add] at e0 e1 e2 e3 e4 e5
 exact ⟨v0, v1, v2, v3, v4, v5, y0, y1, y2, y3, y4, y5, List.mem_map.2 ⟨i, List.mem_range.2 hi, (by simpa using (Prod.mk.inj hxy).1)⟩, ⟨by simpa using e0, by simpa using e1, by simpa using e2, by simpa using e3, by simpa using e4, by simpa using e5⟩, g0, g1, g2, g3, g4, g5⟩
end
theorem weightsAll_mem {H : Type} {P : Program} {e : TypeId} : ∀ {l : List (DataW H)} {d : DataW H}, d ∈ l → ∀ n ∈ d.weights P e, n ∈ DataW.weightsAll P e l
 | x :: r, d, hd, n, hn => by
   rw [DataW.weightsAll, List.mem_append]
   rcases List.mem_cons.1 hd with rfl | hd
   ·exact .inl hn
   ·exact .inr (weightsAll_mem hd n hn)
theorem i64_of_wf {n : Int} (h : (Lit.int .i64 n).wf = true) : -9223372036854775808 ≤ n ∧ n ≤ 9223372036854775807 := by
 simp only [Lit.wf, Bool.and_eq_true, decide_eq_true_eq] at h
 exact h
theorem plain_addr {w : World} {a : Addr} {v : Value} (h : w.cell? a = some v) : a = ⟨a.block, a.off, none⟩ ∧ a.block < w.heap.size := by
 obtain ⟨b, o, s⟩ := a
 cases s with
 | none =>
   refine ⟨rfl, ?_⟩
   by_cases hb : b < w.heap.size
   ·exact hb
   ·simp [World.cell?, Array.getElem?_eq_none (Nat.le_of_not_lt hb)] at h
 | some s =>
   simp only [World.cell?] at h
   split at h <;> simp at h
theorem script_of_trod {H : Type} {enc : TypeId × Value → H} {w : World} {base : Nat} {spare : Nat → Bool} {held : Bool} {fuel : Nat} {v : Value} {x : DataW H × List MemPlace} (h : DataW.trod enc Tryz.prog w base spare held fuel 22 [v] = some x) (hsz : ∀ n ∈ x.1.weights Tryz.prog 22, n ≤ reachBytes) :
    ∃ (ops : List OpD) (ao : Option Addr) (cap : Nat), v = .slice ao ops.length cap ∧ ops.length ≤ 281474976710656 ∧ ScrAt w ao ops ∧ (∀ o ∈ ops, o.s.size ≤ 281474976710656 ∧ o.t.size ≤ 281474976710656) ∧ (∀ o ∈ ops, (-9223372036854775808 ≤ o.a ∧ o.a ≤ 9223372036854775807) ∧ (-9223372036854775808 ≤ o.b ∧ o.b ≤ 9223372036854775807)) := by
  rcases open_six Tryz.underlying22 Tryz.underlying31 (by kernel_rfl) rfl rfl rfl rfl rfl rfl (by kernel_rfl) (by kernel_rfl) (by kernel_rfl) (by kernel_rfl) (by kernel_rfl) (by kernel_rfl) h with h0 | ⟨a, len, cap, n, h0, elems, sp, hx1, hel, hx⟩
  · simp at h0
    exact ⟨[], none, 0, h0, by simp, fun i hi => by simp at hi, fun o ho => by simp at ho, fun o ho => by simp at ho⟩
  · simp at h0
    rw [hx1] at hsz
    simp only [DataW.weights, Tryz.underlying22] at hsz
    have hlen : (elems.length + sp.length) * Tryz.prog.bytesOf 31 ≤ reachBytes := hsz _ (List.mem_cons_self ..)
    rw [show Tryz.prog.bytesOf 31 = 64 by kernel_rfl] at hlen
    unfold reachBytes at hsz hlen
    have each : ∀ i, i < len → ∃ o : OpD, (a = ⟨a.block, a.off, none⟩ ∧ a.block < w.heap.size ∧ OpAt w a.block (a.off + i * 6) o) ∧ (o.s.size ≤ 281474976710656 ∧ o.t.size ≤ 281474976710656) ∧ (-9223372036854775808 ≤ o.a ∧ o.a ≤ 9223372036854775807) ∧ (-9223372036854775808 ≤ o.b ∧ o.b ≤ 9223372036854775807) := by
      intro i hi
      obtain ⟨v0, v1, v2, v3, v4, v5, y0, y1, y2, y3, y4, y5, hmm, ⟨e0, e1, e2, e3, e4, e5⟩, t0, t1, t2, t3, t4, t5⟩ := hx i hi
      obtain ⟨z0, h0, -, w0⟩ := DataW.trod_int Tryz.underlying3 t0
      obtain ⟨z1, h1, -, w1⟩ := DataW.trod_int Tryz.underlying3 t1
      obtain ⟨z2, h2, -, w2⟩ := DataW.trod_int Tryz.underlying3 t2
      obtain ⟨z3, h3, -, w3⟩ := DataW.trod_int Tryz.underlying3 t3
      obtain ⟨z4, h4, d4, -⟩ := DataW.trod_string Tryz.underlying9 t4
      obtain ⟨z5, h5, d5, -⟩ := DataW.trod_string Tryz.underlying9 t5
      simp at h0 h1 h2 h3 h4 h5
      subst h0 h1 h2 h3 h4 h5
      have hw : ∀ n ∈ (DataW.agg [y0.1, y1.1, y2.1, y3.1, y4.1, y5.1]).weights Tryz.prog 31, n ≤ 140737488351232 := fun n hn => hsz n (List.mem_cons_of_mem _ (List.mem_append_left _ (weightsAll_mem hmm n hn)))
      simp only [DataW.weights, Tryz.underlying31] at hw
      have w4 : z4.size ≤ 140737488351232 := by
        refine hw _ (DataW.weights_mem_each (j := 4) (t := 9) rfl rfl _ ?_)
        rw [d4]
        simp [DataW.weights]
      have w5 : z5.size ≤ 140737488351232 := by
        refine hw _ (DataW.weights_mem_each (j := 5) (t := 9) rfl rfl _ ?_)
        rw [d5]
        simp [DataW.weights]
      have hp : a = ⟨a.block, a.off, none⟩ ∧ a.block < w.heap.size := by
        obtain ⟨u0, _, _, _, _, _, _, _, _, _, _, _, _, ⟨k0, _⟩, _⟩ := hx 0 (by omega)
        rw [show a.add (0 * 6) = a by simp [Addr.add]] at k0
        exact plain_addr k0
      rw [hp.1, add_plain] at e0 e1 e2 e3 e4 e5
      exact ⟨⟨z0, z1, z2, z3, z4, z5⟩, ⟨hp.1, hp.2, e0, e1, e2, e3, e4, e5⟩, ⟨Nat.le_trans w4 (by decide), Nat.le_trans w5 (by decide)⟩, i64_of_wf w1, i64_of_wf w2⟩
    haveI : Inhabited OpD := ⟨⟨0, 0, 0, 0, ⟨#[]⟩, ⟨#[]⟩⟩⟩
    obtain ⟨q, hq⟩ := choose_lt each
    have hmem : ∀ o ∈ (List.range len).map q, ∃ i, i < len ∧ q i = o := fun o ho => by simpa using ho
    refine ⟨(List.range len).map q, some a, cap, by simpa using h0, by simp; omega, fun i hi => ?_, fun o ho => ?_, fun o ho => ?_⟩
    · have hil : i < len := by simpa using hi
      obtain ⟨⟨p1, p2, p3⟩, -⟩ := hq i hil
      exact ⟨a.block, a.off, by rw [← p1], p2, by simpa using p3⟩
    · obtain ⟨i, hi, rfl⟩ := hmem o ho
      exact (hq i hi).2.1
    · obtain ⟨i, hi, rfl⟩ := hmem o ho
      exact (hq i hi).2.2
end Go.Proofs.YtfjbijpagaipnaaGreatDoor
namespace Go.Proofs.YtfjbijpagaipnaaGreatDoor.R
open Go.RowKit
theorem getD_set_self (zs : List Nat) (k c : Nat) (hk : k < zs.length) : (zs.set k c).getD k 0 = c := by simp [List.getD, hk]
theorem carry_top {zs : List Nat} {n V : Nat} (hl : zs.length = n + 1) (hlo : ∀ k, k < n → zs.getD k 0 < 10000) (hv : val zs = V) (hV : V < 10000 ^ n) : Lo zs := by
 have h1 : val zs = val (zs.take n) + 10000 ^ n * zs.getD n 0 := by
  have := val_take_next zs n
  rw [List.take_of_length_le (by omega)] at this
  exact this
 have h0 : zs.getD n 0 = 0 := by
  rcases Nat.eq_zero_or_pos (zs.getD n 0) with h | h
  ·exact h
  ·have : 10000 ^ n * 1 ≤ 10000 ^ n * zs.getD n 0 := Nat.mul_le_mul_left _ h
   omega
 intro x hx
 obtain ⟨i, hi, rfl⟩ := List.mem_iff_getElem.1 hx
 have hg : zs.getD i 0 = zs[i] := by simp [List.getD, List.getElem?_eq_getElem hi]
 rw [← hg]
 by_cases hin : i < n
 ·exact hlo i hin
 ·rw [show i = n by omega, h0]; decide
theorem carry_val {zs : List Nat} {i : Nat} (hi : i + 1 < zs.length) : val ((zs.set (i + 1) (zs.getD (i + 1) 0 + zs.getD i 0 / 10000)).set i (zs.getD i 0 % 10000)) = val zs := by
 have h1 := val_set zs (i + 1) (zs.getD (i + 1) 0 + zs.getD i 0 / 10000) hi
 have h2 := val_set (zs.set (i + 1) (zs.getD (i + 1) 0 + zs.getD i 0 / 10000)) i (zs.getD i 0 % 10000) (by simp; omega)
 rw [getD_set_ne _ _ _ _ (by omega)] at h2
 have h3 := Nat.div_add_mod (zs.getD i 0) 10000
 generalize zs.getD i 0 = a at *
 generalize zs.getD (i + 1) 0 = b at *
 generalize hq : a / 10000 = q at *
 generalize hm : a % 10000 = m at *
 rw [Nat.pow_succ] at h1
 generalize 10000 ^ i = P at *
 have e1 : P * 10000 * (b + q) = P * 10000 * b + P * (10000 * q) := by rw [Nat.mul_add, Nat.mul_assoc P 10000 q]
 have e2 : P * a = P * (10000 * q) + P * m := by rw [← h3, Nat.mul_add]
 omega
theorem conv_step {qs : List Nat} {k j z x y V T : Nat} (hk : k + j < qs.length) (hz : z = qs.getD (k + j) 0) (h : val qs = V + 10000 ^ k * (x * T)) : val (qs.set (k + j) (z + x * y)) = V + 10000 ^ k * (x * (T + 10000 ^ j * y)) := by
 have h1 := val_set qs (k + j) (z + x * y) hk
 rw [← hz, Nat.pow_add] at h1
 have e1 : 10000 ^ k * 10000 ^ j * (z + x * y) = 10000 ^ k * 10000 ^ j * z + 10000 ^ k * (x * (10000 ^ j * y)) := by
  rw [Nat.mul_add, Nat.mul_left_comm x, Nat.mul_assoc (10000 ^ k) (10000 ^ j) (x * y)]
 have e2 : 10000 ^ k * (x * (T + 10000 ^ j * y)) = 10000 ^ k * (x * T) + 10000 ^ k * (x * (10000 ^ j * y)) := by rw [Nat.mul_add, Nat.mul_add]
 generalize 10000 ^ k * 10000 ^ j * z = A at *
 generalize 10000 ^ k * (x * (10000 ^ j * y)) = B at *
 generalize 10000 ^ k * (x * T) = C at *
 omega
theorem conv_done {xs : List Nat} {k x Y Q : Nat} (hx : x = xs.getD k 0) (h : Q = val (xs.take k) * Y + 10000 ^ k * (x * Y)) : Q = val (xs.take (k + 1)) * Y := by
 rw [h, val_take_next, ← hx, Nat.add_mul, Nat.mul_assoc]
theorem getD_set_le {qs : List Nat} {k c b i : Nat} (hc : c ≤ b) (h : ∀ i, qs.getD i 0 ≤ b) : (qs.set k c).getD i 0 ≤ b := by
 by_cases hk : k = i
 ·subst hk
  by_cases hl : k < qs.length
  ·rw [getD_set_self _ _ _ hl]; exact hc
  ·rw [List.set_eq_of_length_le (by omega)]; exact h k
 ·rw [getD_set_ne _ _ _ _ hk]; exact h i
set_option maxRecDepth 100000 in
set_option maxHeartbeats 4000000 in
theorem ntimes_any (v u : Value) (x y : Int) (L M : Nat) (w : World) (hv : IsN w v x L) (hu : IsN w u y M) (hL : L ≤ 50000000000) (hM : M ≤ 50000000000) :
 Calls Tryz.prog 177 #[v, u] w fun e w' => ∃ r, e = .returned r ∧ NOut w w' r (x * y) (L + M + 1) := by
 obtain ⟨na, ao, cap, xs, rfl, h2, h3, h4, h5, h6⟩ := hv.parts
 obtain ⟨nb, bo, dap, ys, rfl, k2, k3, k4, k5, k6⟩ := hu.parts
 have H := Hid.mk (And.intro h2 (And.intro h3 (And.intro h4 (And.intro h5 h6))))
 have J := Hid.mk (And.intro k2 (And.intro k3 (And.intro k4 (And.intro k5 k6))))
 clear hv hu h2 h3 h4 h5 k2 k3 k4 k5
 have BB := Hid.mk (And.intro ((((NBox.new w (.bool na) (.slice ao xs.length cap) rfl).alloc (.cells #[.bool nb, .slice bo ys.length dap] 138)).alloc (.cells #[.bool false, .slice none 0 0] 138))) (And.intro ((NBox.new (w.alloc (.cells #[.bool na, .slice ao xs.length cap] 138)) (.bool nb) (.slice bo ys.length dap) (b := w.heap.size + 1) (by simp)).alloc (.cells #[.bool false, .slice none 0 0] 138))
  (NBox.new ((w.alloc (.cells #[.bool na, .slice ao xs.length cap] 138)).alloc (.cells #[.bool nb, .slice bo ys.length dap] 138)) (.bool false) (.slice none 0 0) (b := w.heap.size + 1 + 1) (by simp))))
 go_enter Tryz.func177, Tryz.ntmps177
 go_wp2_with (refine make_digits _ rfl _ _ rfl _ _ (xs.length + ys.length + 1) rfl rfl (by omega) (by omega) (by omega) ?_)
 intro w1 hown hbel
 obtain ⟨W0, hW0⟩ : ∃ W0, W0 = ((w.alloc (.cells #[.bool na, .slice ao xs.length cap] 138)).alloc (.cells #[.bool nb, .slice bo ys.length dap] 138)).alloc (.cells #[.bool false, .slice none 0 0] 138) := ⟨_, rfl⟩
 have hz0 : W0.heap.size = w.heap.size + 1 + 1 + 1 := by rw [hW0]; simp
 have hbw0 : Below w.heap.size w W0 := by rw [hW0]; repeat (first | exact Below.refl _ _ | refine Below.alloc ?_ (by simp <;> omega) _)
 rw [← hW0] at BB hbel
 have hbel0 : Below W0.heap.size W0 w1 := by rw [hz0]; exact hbel
 clear hbel
 have hbel := hbel0
 clear hbel0
 obtain ⟨G, hG⟩ : ∃ G, G = w.heap.size + 1 + 1 + 1 := ⟨_, rfl⟩
 rw [← hG] at hown hz0 ⊢
 obtain ⟨NN, hNN⟩ : ∃ NN, NN = xs.length + ys.length + 1 := ⟨_, rfl⟩
 rw [← hNN] at hown ⊢
 have K0 := Hid.mk (And.intro hown (And.intro hbel (And.intro hbw0 hW0)))
 have HNN := Hid.mk hNN
 have HG := Hid.mk (And.intro hG hz0)
 have hNb : NN ≤ 100000000001 := by omega
 clear hown hbel hbw0 hW0 hNN hG hz0
 go_wp2_with fail
 go_loopw [6] (fun i wr => ∃ (k : Nat) (zs : List Nat), k ≤ xs.length ∧ i = .int .i64 k ∧ Hid (zs.length = NN) ∧ Own wr (.slice (some ⟨G, 0, none⟩) NN NN) zs ∧ Below W0.heap.size W0 wr ∧
  Hid (val zs = val (xs.take k) * val ys ∧ ∀ j, zs.getD j 0 ≤ k * 100000000)) (fun i _ => xs.length - (intOf i).toNat)
 case atStart =>
  refine ⟨0, _, Nat.zero_le _, rfl, Hid.mk List.length_replicate, K0.out.1, K0.out.2.1, Hid.mk ⟨?_, fun j => ?_⟩⟩
  ·rw [val_zeros (fun x hx => List.eq_of_mem_replicate hx)]; simp [val]
  ·by_cases hj : j < NN <;> simp [List.getD, hj]
 case round =>
  obtain ⟨k, zs, hk, rfl, HZL, hown, hbel, HI⟩ := hrel
  obtain ⟨a1, a2, -, -⟩ := (BB.out.1.below hbel BB.out.1.lt).cells
  have K := Hid.mk (And.intro hown hbel)
  clear hown hbel
  by_cases hkN : k < xs.length
  ·obtain ⟨b, rfl, hb0⟩ := H.out.1.at_ rfl k hkN
   have hxk := Lo_get H.out.2.1.1 k
   obtain ⟨x1, hx⟩ : ∃ x, x = xs.getD k 0 := ⟨_, rfl⟩
   rw [← hx] at hxk hb0
   have HX := Hid.mk hx
   have HB := Hid.mk hb0
   have hki : (k : Int) < (xs.length : Int) := by omega
   clear hx hb0
   go_wp2_with fail
   go_loopw [7] (fun i ws => ∃ (j : Nat) (qs : List Nat), j ≤ ys.length ∧ i = .int .i64 j ∧ Hid (qs.length = NN) ∧ Own ws (.slice (some ⟨G, 0, none⟩) NN NN) qs ∧ Below W0.heap.size W0 ws ∧
    Hid (val qs = val (xs.take k) * val ys + 10000 ^ k * (x1 * val (ys.take j)) ∧ (∀ i, qs.getD i 0 ≤ (k + 1) * 100000000) ∧ ∀ i, k + j ≤ i → qs.getD i 0 ≤ k * 100000000)) (fun i _ => ys.length - (intOf i).toNat)
   case atStart =>
    refine ⟨0, zs, Nat.zero_le _, rfl, HZL, K.out.1, K.out.2, Hid.mk ⟨by have := HI.out.1; simp [val, this], fun i => ?_, fun i _ => HI.out.2 i⟩⟩
    exact Nat.le_trans (HI.out.2 i) (Nat.mul_le_mul_right _ (Nat.le_succ k))
   case round =>
    rename World => ws
    obtain ⟨j, qs, hj, rfl, HQ, hown, hbel, HI2⟩ := hrel
    have hbw : Below w.heap.size w ws := K0.out.2.2.1.trans (hbel.mono (by have := HG.out.1; have := HG.out.2; omega))
    clear a1 a2
    obtain ⟨a1, a2, -, -⟩ := (BB.out.1.below hbel BB.out.1.lt).cells
    obtain ⟨b1, b2, -, -⟩ := (BB.out.2.1.below hbel BB.out.2.1.lt).cells
    have hb1 := cell_later hbw HB.out
    by_cases hjN : j < ys.length
    ·obtain ⟨d, rfl, hd0⟩ := J.out.1.at_ rfl j hjN
     have hd1 := cell_later hbw hd0
     have hyk := Lo_get J.out.2.1.1 j
     have hkjN : k + j < NN := by have := HNN.out; omega
     have hz1 := hown.cell HQ.out (k + j) hkjN
     have hz2 := hown.frozen HQ.out (k + j)
     have hzk := HI2.out.2.2 (k + j) (Nat.le_refl _)
     obtain ⟨y1, hy⟩ : ∃ y, y = ys.getD j 0 := ⟨_, rfl⟩
     obtain ⟨z1, hz⟩ : ∃ z, z = qs.getD (k + j) 0 := ⟨_, rfl⟩
     rw [← hy] at hyk hd1
     rw [← hz] at hz1 hzk
     have hp : x1 * y1 ≤ 9999 * 9999 := Nat.mul_le_mul (by omega) (by omega)
     have HYY := Hid.mk hy
     have HZ := Hid.mk hz
     have hji : (j : Int) < (ys.length : Int) := by omega
     have K2 := Hid.mk (And.intro hown (And.intro hbel hbw))
     clear hy hz hd0 hown hbel hbw
     go_wp2_with fail
     go_region
     all_goals
      go_wp2_with fail
      go_roundw
      case measure => simp [intOf]; omega
      case rel =>
       refine ⟨j + 1, qs.set (k + j) (z1 + x1 * y1), by omega, by go_num, Hid.mk (by simp [HQ.out]), K2.out.1.stored_int HQ.out (k + j) _ ?_, ?_, Hid.mk ⟨?_, fun i => ?_, fun i hi => ?_⟩⟩
       ·simp
       ·exact (K2.out.2.1.setCell (by have := HG.out.2; simp; omega) _).drew
       ·rw [val_take_next, ← HYY.out]
        exact conv_step (by rw [HQ.out]; exact hkjN) HZ.out HI2.out.1
       ·refine getD_set_le ?_ HI2.out.2.1
        have e1 : (k + 1) * 100000000 = k * 100000000 + 100000000 := Nat.succ_mul _ _
        rw [e1]
        exact Nat.add_le_add hzk (Nat.le_trans hp (by decide))
       ·rw [getD_set_ne _ _ _ _ (by omega)]; exact HI2.out.2.2 i (by omega)
    ·have hji : ¬ (j : Int) < (ys.length : Int) := by omega
     have K2 := Hid.mk (And.intro hown hbel)
     clear hown hbel hbw
     go_wp2_with fail
     go_roundw
     case measure => simp [intOf]; omega
     case rel =>
      refine ⟨k + 1, qs, by omega, by go_num, HQ, K2.out.1, K2.out.2, Hid.mk ⟨?_, HI2.out.2.1⟩⟩
      have h1 := HI2.out.1
      rw [show ys.take j = ys from List.take_of_length_le (by omega)] at h1
      exact conv_done HX.out h1
  ·have hki : ¬ (k : Int) < (xs.length : Int) := by omega
   go_wp2_with fail
   go_loopw [8] (fun i ws => ∃ (j : Nat) (qs : List Nat), j + 1 ≤ NN ∧ i = .int .i64 j ∧ Hid (qs.length = NN) ∧ Own ws (.slice (some ⟨G, 0, none⟩) NN NN) qs ∧ Below W0.heap.size W0 ws ∧
    Hid (val qs = val xs * val ys ∧ (∀ i, i < j → qs.getD i 0 < 10000) ∧ qs.getD j 0 ≤ 6000000000000000000 ∧ ∀ i, j < i → qs.getD i 0 ≤ 5000000000000000000)) (fun i _ => NN - (intOf i).toNat)
   case atStart =>
    have hz : ∀ i, zs.getD i 0 ≤ 5000000000000000000 := fun i => Nat.le_trans (HI.out.2 i) (Nat.le_trans (Nat.mul_le_mul_right _ (show k ≤ 50000000000 by omega)) (by decide))
    refine ⟨0, zs, by have := HNN.out; omega, rfl, HZL, K.out.1, K.out.2, Hid.mk ⟨?_, fun i hi => by omega, Nat.le_trans (hz 0) (by decide), fun i _ => hz i⟩⟩
    have h1 := HI.out.1
    rw [show xs.take k = xs from List.take_of_length_le (by omega)] at h1
    exact h1
   case round =>
    rename World => ws
    obtain ⟨j, qs, hj, rfl, HQ, hown, hbel, HI2⟩ := hrel
    clear a1 a2
    by_cases hjN : j + 1 < NN
    ·have hz1 := hown.cell HQ.out j (by omega)
     have hz2 := hown.frozen HQ.out j
     have hy1 := hown.cell HQ.out (j + 1) hjN
     have hy2 := hown.frozen HQ.out (j + 1)
     have hzb := HI2.out.2.2.1
     have hyb := HI2.out.2.2.2 (j + 1) (by omega)
     obtain ⟨z1, hz⟩ : ∃ z, z = qs.getD j 0 := ⟨_, rfl⟩
     obtain ⟨y1, hy⟩ : ∃ y, y = qs.getD (j + 1) 0 := ⟨_, rfl⟩
     rw [← hz] at hz1 hzb
     rw [← hy] at hy1 hyb
     have HZ := Hid.mk (And.intro hz hy)
     have hji : (j : Int) + 1 < (NN : Int) := by omega
     have K2 := Hid.mk (And.intro hown hbel)
     clear hz hy hown hbel
     go_wp2_with fail
     go_region
     have own2 : Own (ws.setCell ⟨G, j + 1, none⟩ (.int .i64 ((y1 : Int) + (z1 : Int) / 10000))).drew (.slice (some ⟨G, 0, none⟩) NN NN) (qs.set (j + 1) (y1 + z1 / 10000)) := K2.out.1.stored_int HQ.out (j + 1) _ (by omega)
     obtain ⟨ws2, hws2⟩ : ∃ ws2, ws2 = (ws.setCell ⟨G, j + 1, none⟩ (.int .i64 ((y1 : Int) + (z1 : Int) / 10000))).drew := ⟨_, rfl⟩
     have hbel2 : Below W0.heap.size W0 ws2 := by rw [hws2]; exact (K2.out.2.setCell (by have := HG.out.2; simp; omega) _).drew
     rw [← hws2] at own2 ⊢
     have HL2 := Hid.mk (show (qs.set (j + 1) (y1 + z1 / 10000)).length = NN by rw [List.length_set]; exact HQ.out)
     have d1 := own2.cell HL2.out j (by omega)
     have d2 := own2.frozen HL2.out j
     rw [getD_set_ne _ _ _ _ (by omega), ← HZ.out.1] at d1
     have K3 := Hid.mk (And.intro own2 hbel2)
     clear own2 hws2 hbel2 hz1 hz2 hy1 hy2
     go_wp2_with fail
     all_goals
      go_roundw
      case measure => simp [intOf]; omega
      case rel =>
       refine ⟨j + 1, (qs.set (j + 1) (y1 + z1 / 10000)).set j (z1 % 10000), by omega, by go_num, Hid.mk (by simp [HQ.out]), K3.out.1.stored_int HL2.out j _ (by omega), K3.out.2.setCell (by have := HG.out.2; simp; omega) _, Hid.mk ⟨?_, fun i hi => ?_, ?_, fun i hi => ?_⟩⟩
       ·rw [HZ.out.1, HZ.out.2, carry_val (by rw [HQ.out]; exact hjN)]
        exact HI2.out.1
       ·by_cases hij : i = j
        ·subst hij
         rw [getD_set_self _ _ _ (by rw [HL2.out]; omega)]
         exact Nat.mod_lt _ (by decide)
        ·rw [getD_set_ne _ _ _ _ (fun e => hij e.symm), getD_set_ne _ _ _ _ (by omega)]
         exact HI2.out.2.1 i (by omega)
       ·rw [getD_set_ne _ _ _ _ (by omega), getD_set_self _ _ _ (by rw [HQ.out]; exact hjN)]
        have : z1 / 10000 ≤ 6000000000000000000 / 10000 := Nat.div_le_div_right hzb
        exact Nat.le_trans (Nat.add_le_add hyb this) (by decide)
       ·rw [getD_set_ne _ _ _ _ (by omega), getD_set_ne _ _ _ _ (by omega)]
        exact HI2.out.2.2.2 i (by omega)
    ·have hji : ¬ (j : Int) + 1 < (NN : Int) := by omega
     obtain ⟨a1, -, -, -⟩ := (BB.out.1.below hbel BB.out.1.lt).cells
     obtain ⟨b1, -, -, -⟩ := (BB.out.2.1.below hbel BB.out.2.1.lt).cells
     have hLo : Lo qs := carry_top (n := xs.length + ys.length) (by rw [HQ.out, HNN.out]) (fun i hi => HI2.out.2.1 i (by have := HNN.out; omega)) HI2.out.1 (by
      rw [Nat.pow_add]
      exact Nat.mul_lt_mul'' (val_lt H.out.2.1.1) (val_lt J.out.2.1.1))
     have K2 := Hid.mk (And.intro hown (And.intro hbel hLo))
     clear hown hbel hLo
     go_wp2_with fail
     refine (made_any _ _ qs _ K2.out.1 K2.out.2.2).mono ?_
     rintro e w2 ⟨r2, rfl, hr2, hb2⟩
     obtain ⟨ng, co, ecap, vs, rfl, -⟩ := hr2.parts
     have B3 := (BB.out.2.2.below K2.out.2.1 BB.out.2.2.lt).below hb2 (BB.out.2.2.below K2.out.2.1 BB.out.2.2.lt).lt
     obtain ⟨c1, c2, c3, c4⟩ := B3.cells
     have c5 := B3.put1 (.bool ng)
     have hbw : Below w.heap.size w w2 := K0.out.2.2.1.trans ((K2.out.2.1.trans (hb2.mono K2.out.2.1.size)).mono (by have := HG.out.1; have := HG.out.2; omega))
     have K4 := Hid.mk (And.intro hr2 (And.intro hbw B3.ty))
     clear hr2 hb2 B3 a1 b1 hbw
     go_wp2_with fail
     refine bodyPost_ret (v := .agg #[.bool ng, .slice co vs.length ecap]) ?_ rfl ?_
     ·(simp [results, Tryz.results177, go_sem, c2, c5]; done)
     ·refine ⟨_, rfl, ?_, (K4.out.2.1.setCell (by simp <;> omega) _).setCell (by simp <;> omega) _⟩
      have fin := (K4.out.1.box K4.out.2.2 (by decide) (.bool ng) (.slice co vs.length ecap)).mono (M := L + M + 1) (by have := HQ.out; have := HNN.out; omega)
      have e1 := HI2.out.1
      have e2 := H.out.2.2.2.1
      have e3 := J.out.2.2.2.1
      rw [e1] at fin
      rw [e2, e3]
      cases na <;> cases nb <;> simpa [Int.neg_mul, Int.mul_neg] using fin
end Go.Proofs.YtfjbijpagaipnaaGreatDoor.R
namespace Go.Proofs.YtfjbijpagaipnaaGreatDoor
def dot (f g : Nat → Nat → Int) (i j : Nat) : Nat → Int
 | 0 => 0
 | t + 1 => dot f g i j t + f i t * g t j
theorem dot_congr {f g f' g' : Nat → Nat → Int} {i j : Nat} (t : Nat) (h1 : ∀ k, k < t → f i k = f' i k) (h2 : ∀ k, k < t → g k j = g' k j) : dot f g i j t = dot f' g' i j t := by
 induction t with
 | zero => rfl
 | succ t ih => rw [dot, dot, ih (fun k hk => h1 k (by omega)) (fun k hk => h2 k (by omega)), h1 t (by omega), h2 t (by omega)]
end Go.Proofs.YtfjbijpagaipnaaGreatDoor
