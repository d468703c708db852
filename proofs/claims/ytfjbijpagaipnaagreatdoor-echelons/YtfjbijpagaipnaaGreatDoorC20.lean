import Derived.Test.YtfjbijpagaipnaaGreatDoorC19
import Derived.Deep.RegionLaw
import Derived.Deep.CutRange
/- matricesref: cut, side. -/
namespace Go.Proofs.YtfjbijpagaipnaaGreatDoor.R
open Go.RowKit

def scells (ts : List (List UInt8)) : List Value := ts.map fun l => Value.string ⟨l.toArray⟩
/-- A row of texts. -/
def OwnS (B : Nat) (w : World) (v : Value) (ts : List (List UInt8)) : Prop := w.ownsRow B 9 1 v ts.length (scells ts)
theorem OwnS.nil (B : Nat) (w : World) : OwnS B w (.slice none 0 0) [] := World.ownsRow_nil _ _ _ _
theorem OwnS.below {B : Nat} {w w' : World} {v : Value} {ts : List (List UInt8)} (h : OwnS B w v ts) (hb : Below w.heap.size w w') : OwnS B w' v ts := by
  refine ⟨h.1, ?_⟩
  rcases h.2 with h3 | ⟨g, cap, cur, hv, hg, hh, r⟩
  · exact .inl h3
  · exact .inr ⟨g, cap, cur, hv, hg, by rw [hb.block g (Array.getElem?_eq_some_iff.1 hh).1]; exact hh, r⟩
theorem OwnS.shape {B : Nat} {w : World} {v : Value} {ts : List (List UInt8)} (h : OwnS B w v ts) : ∃ ao cap, v = .slice ao ts.length cap ∧ ts.length ≤ cap ∧ cap ≤ 9223372036854775807 ∧ (∀ i, i < ts.length → ∃ g, ao = some ⟨g, 0, none⟩ ∧ w.cell? ⟨g, i, none⟩ = some (.string ⟨(ts.getD i []).toArray⟩)) := by
  have h0 := h
  rcases h.2 with ⟨rfl, hn⟩ | ⟨g, cap, cur, rfl, hg, hh, r1, r2, r3, r4⟩
  · rw [hn]; exact ⟨none, 0, rfl, Nat.le_refl _, by omega, fun i hi => by omega⟩
  · refine ⟨_, cap, rfl, r1, by simpa [maxLen] using r2, fun i hi => ⟨g, rfl, ?_⟩⟩
    rw [World.ownsRow.cellAt h0 i (by omega)]
    simp [scells, List.getD, List.getElem?_eq_getElem hi]
theorem Tryz.info9 : (Tryz.prog.info? 9).map (fun i => (i.zero, i.size, i.bytes)) = some (some (.string ⟨#[]⟩), 1, 16) := by kernel_rfl
/-- 'append(texts, t)'. -/
theorem append_str (w : World) {ops : Array Oper} {rest : List Oper} {o : Oper} {a : Act} {Q : Exit → Act → World → Prop} (hgd : o.guard = none) (s x : Operand)
    (ho : o.op = .call { callee := .builtin .append, args := #[s, x], argTypes := #[65, 65] }) (B : Nat) (v : Value) (ts : List (List UInt8)) (hs : a.eval s = v) (hown : OwnS B w v ts)
    (ad : Addr) (hx : a.eval x = .slice (some ad) 1 1) (t : List UInt8) (hc : w.cell? (ad.add 0) = some (.string ⟨t.toArray⟩)) (hl : ts.length ≤ 60000000000) (hB : B ≤ w.heap.size)
    (hK : ∀ v' w', OwnS B w' v' (ts ++ [t]) → w.grownBy w' v.ownBlock → wpList Tryz.prog ops Q rest (a.put o.dst v') w') : wpList Tryz.prog ops Q (o :: rest) a w := by
  obtain ⟨i, hi, hz0, hz1, hz2⟩ := info_parts Tryz.info9
  refine wpList_append_own w hgd s x 65 ho B 9 i (.string ⟨#[]⟩) 1 16 Tryz.underlying65 hi hz0 hz1 hz2 rfl (by decide) v ts.length (scells ts) hs hown ad 1 1 [.string ⟨t.toArray⟩] hx rfl ?_ ?_ ?_ ?_ hB ?_
  · intro j u hj
    match j, hj with
    | 0, hj => simp at hj; subst hj; exact hc
  · intro u hu; simp at hu; subst hu; rfl
  · unfold maxLen; omega
  · omega
  · intro v' w' h1 h2 _
    refine hK v' w' ?_ h2
    unfold OwnS
    rw [show scells (ts ++ [t]) = scells ts ++ [.string ⟨t.toArray⟩] from by simp [scells], List.length_append, List.length_singleton]
    exact h1
/-- A text, cut at a byte. -/
def cutL (c : UInt8) : List UInt8 → List (List UInt8)
  | [] => [[]]
  | x :: r => if x = c then [] :: cutL c r else match cutL c r with
    | [] => [[x]]
    | h :: t => (x :: h) :: t
theorem cutL_ne (c : UInt8) (l : List UInt8) : cutL c l ≠ [] := by
  cases l with
  | nil => simp [cutL]
  | cons x r =>
    unfold cutL
    split
    · simp
    · split <;> simp
/-- What is cut already, and what is still to come. -/
def glue (o : List (List UInt8)) (t : List UInt8) : List (List UInt8) → List (List UInt8)
  | [] => o ++ [t]
  | h :: r => o ++ ((t ++ h) :: r)
theorem glue_cut {o : List (List UInt8)} {t : List UInt8} {c : UInt8} (r : List UInt8) : glue o t (cutL c (c :: r)) = glue (o ++ [t]) [] (cutL c r) := by
  have h1 : cutL c (c :: r) = [] :: cutL c r := by rw [cutL, if_pos rfl]
  rw [h1]
  cases h : cutL c r with
  | nil => exact absurd h (cutL_ne c r)
  | cons a b => simp [glue]
theorem glue_go {o : List (List UInt8)} {t : List UInt8} {c x : UInt8} (hx : x ≠ c) (r : List UInt8) : glue o t (cutL c (x :: r)) = glue o (t ++ [x]) (cutL c r) := by
  rw [cutL, if_neg hx]
  cases h : cutL c r with
  | nil => exact absurd h (cutL_ne c r)
  | cons a b => simp [glue]
theorem cut_len (c : UInt8) (l : List UInt8) : (cutL c l).length ≤ l.length + 1 := by
  induction l with
  | nil => simp [cutL]
  | cons x r ih =>
    unfold cutL
    split
    · simp; omega
    · cases h : cutL c r with
      | nil => simp
      | cons a b => rw [h] at ih; simp at ih ⊢; omega
theorem str_one (s : ByteArray) (k : Nat) (hk : k < s.size) : s.extract k (k + 1) = ⟨[s[k]'hk].toArray⟩ := by
  apply ByteArray.ext
  have h3 : (s.extract k (k + 1)).data.toList = [s[k]'hk] := by
    rw [ByteArray.data_extract, Array.toList_extract, List.extract_eq_take_drop, Nat.add_sub_cancel_left, List.drop_eq_getElem_cons (show k < s.data.toList.length from by simpa using hk)]
    rfl
  rw [← Array.toArray_toList (xs := (s.extract k (k + 1)).data), h3]
/-- What cut hands back. -/
def CutOut (c : UInt8) (s : ByteArray) (w w' : World) (v : Value) : Prop := OwnS w.heap.size w' v (cutL c s.data.toList) ∧ Below w.heap.size w w'

set_option maxRecDepth 100000 in
set_option maxHeartbeats 4000000 in
theorem cut_any (s : ByteArray) (c : UInt8) (w : World) (hs : s.size ≤ 50000000000) :
    Calls Tryz.prog 159 #[.string s, .int .u8 (c.toNat : Nat)] w fun e w' => ∃ v, e = .returned v ∧ CutOut c s w w' v := by
  go_enter Tryz.func159, Tryz.ntmps159
  go_wp2_with fail
  go_loopw [5, 6, 7] (fun out t i wr => ∃ (k : Nat) (o : List (List UInt8)) (tt : List UInt8), k ≤ s.size ∧ i = .int .i64 k ∧ t = .string ⟨tt.toArray⟩ ∧ tt.length ≤ k ∧ o.length ≤ k ∧ OwnS w.heap.size wr out o ∧ Below w.heap.size w wr ∧ Hid (glue o tt (cutL c (s.data.toList.drop k)) = cutL c s.data.toList)) (fun _ _ i _ => s.size - (intOf i).toNat)
  case atStart =>
    refine ⟨0, [], [], Nat.zero_le _, rfl, rfl, by simp, by simp, OwnS.nil _ _, Below.refl _ _, Hid.mk ?_⟩
    rw [List.drop_zero]
    cases h : cutL c s.data.toList with
    | nil => exact absurd h (cutL_ne _ _)
    | cons a b => simp [glue]
  case round =>
    obtain ⟨k, o, tt, hk, rfl, rfl, htl, hol, hown, hbel, HI⟩ := hrel
    have hwr := hbel.size
    have K := Hid.mk (And.intro hown hbel)
    clear hown hbel
    by_cases hkn : k < s.size
    · obtain ⟨x, hx⟩ : ∃ x, x = s[k]'hkn := ⟨_, rfl⟩
      have hdr : s.data.toList.drop k = x :: s.data.toList.drop (k + 1) := by
        rw [List.drop_eq_getElem_cons (show k < s.data.toList.length from by simpa using hkn), hx]
        rfl
      have hxe : (s[k]'hkn).toNat = x.toNat := by rw [hx]
      have hex : s.extract k (k + 1) = ⟨[x].toArray⟩ := by rw [hx]; exact str_one s k hkn
      have HDR := Hid.mk hdr
      have HEX := Hid.mk hex
      have hki : (k : Int) < (s.size : Int) := by omega
      clear hx hdr hex
      by_cases hc : x = c
      · have hb : ((x.toNat : Int) == (c.toNat : Int)) = true := beq_iff_eq.2 (by rw [hc])
        have HC := Hid.mk hc
        clear hc
        go_wp2_with (at_builtin; refine append_str _ rfl _ _ rfl w.heap.size _ o rfl ?_ ⟨_, 0, none⟩ rfl tt ?_ ?_ ?_ ?_)
        · exact World.ownsRow.alloc K.out.1 _
        · simp [Addr.add]
        · omega
        · simp; omega
        intro v' w' q1 q2
        have hbel2 : Below w.heap.size w w' := (K.out.2.alloc hwr _).grown q2 (by simp; omega) (fun j hj => (World.ownsRow.lt K.out.1 j hj).1)
        have K2 := Hid.mk (And.intro q1 hbel2)
        clear q1 q2 hbel2
        go_wp2_with fail
        go_roundw
        case measure => simp [intOf]; omega
        case rel =>
          refine ⟨k + 1, o ++ [tt], [], by omega, by go_num, rfl, by simp, by simp; omega, K2.out.1, K2.out.2, Hid.mk ?_⟩
          have := HI.out
          rw [HDR.out, HC.out, glue_cut] at this
          exact this
      · have hb : ((x.toNat : Int) == (c.toNat : Int)) = false := beq_eq_false_iff_ne.2 (fun e => hc (UInt8.toNat_inj.1 (by omega)))
        have HC := Hid.mk hc
        clear hc
        go_wp2_with fail
        go_roundw
        case measure => simp [intOf]; omega
        case rel =>
          refine ⟨k + 1, o, tt ++ [x], by omega, by go_num, ?_, by simp; omega, by omega, K.out.1, K.out.2, Hid.mk ?_⟩
          · rw [HEX.out]; exact rval_str (rstr_app tt [x])
          · have := HI.out
            rw [HDR.out, glue_go HC.out] at this
            exact this
    · have hke : k = s.size := by omega
      have HKE := Hid.mk hke
      clear hke
      go_wp2_with (at_builtin; refine append_str _ rfl _ _ rfl w.heap.size _ o rfl ?_ ⟨_, 0, none⟩ rfl tt ?_ ?_ ?_ ?_)
      · exact World.ownsRow.alloc K.out.1 _
      · simp [Addr.add]
      · omega
      · simp; omega
      intro v' w' q1 q2
      have hbel2 : Below w.heap.size w w' := (K.out.2.alloc hwr _).grown q2 (by simp; omega) (fun j hj => (World.ownsRow.lt K.out.1 j hj).1)
      have K2 := Hid.mk (And.intro q1 hbel2)
      clear q1 q2 hbel2
      go_wp2_with fail
      go_ret
      refine ⟨_, rfl, ?_, K2.out.2⟩
      have := HI.out
      rw [HKE.out, List.drop_of_length_le (by simp)] at this
      simp only [cutL, glue, List.append_nil] at this
      rw [← this]
      exact K2.out.1
end Go.Proofs.YtfjbijpagaipnaaGreatDoor.R

/- matricesref: side. -/
namespace Go.Proofs.YtfjbijpagaipnaaGreatDoor.R
open Go.RowKit

/-- A side's text: one digit, or two of which the first is no nought. -/
def OkSide (l : List UInt8) : Prop := l ≠ [] ∧ l.length ≤ 2 ∧ (∀ c ∈ l, IsDig c) ∧ (l.length = 2 → ∀ d r, l = d :: r → d.toNat ≠ 48)
def SideR (l : List UInt8) (i : Int) : Prop := (i = -1 ∧ ¬ OkSide l) ∨ (i = (dval l : Int) ∧ OkSide l ∧ i ≤ 99)
theorem dval_take (l : List UInt8) (k : Nat) (hk : k < l.length) : dval (l.take (k + 1)) = 10 * dval (l.take k) + (l[k].toNat - 48) := by
  rw [List.take_succ_eq_append_getElem hk, dval_snoc]

set_option maxRecDepth 100000 in
set_option maxHeartbeats 4000000 in
theorem side_ref (s : ByteArray) (w : World) (hmax : s.size ≤ 50000000000) :
    Calls Tryz.prog 160 #[.string s] w fun e w' => ∃ i, e = .returned (.int .i64 i) ∧ SideR s.data.toList i ∧ Below w.heap.size w w' := by
  have hlen : s.data.toList.length = s.size := by simp
  have HL := Hid.mk hlen
  clear hlen
  by_cases h0 : s.size = 0
  · have hi : (s.size : Int) < 1 := by omega
    have H0 := Hid.mk h0
    clear h0
    go_enter Tryz.func160, Tryz.ntmps160
    go_wp2_with fail
    go_ret
    exact ⟨_, rfl, .inl ⟨rfl, fun h => h.1 (List.eq_nil_of_length_eq_zero (by have := HL.out; have := H0.out; omega))⟩, Below.refl _ _⟩
  · by_cases h2 : 2 < s.size
    · have hi : (2 : Int) < (s.size : Int) := by omega
      have hi2 : decide ((s.size : Int) < 1) = false := decide_eq_false (by omega)
      have H2 := Hid.mk h2
      clear h0
      go_enter Tryz.func160, Tryz.ntmps160
      go_wp2_with fail
      go_ret
      exact ⟨_, rfl, .inl ⟨rfl, fun h => by have := h.2.1; have := HL.out; have := H2.out; omega⟩, Below.refl _ _⟩
    · have hpos : 0 < s.size := by omega
      have hi1 : decide ((s.size : Int) < 1) = false := decide_eq_false (by omega)
      have hi2 : decide ((2 : Int) < (s.size : Int)) = false := decide_eq_false (by omega)
      have hs2 : s.size ≤ 2 := by omega
      have hsi : (s.size : Int) ≤ 2 := by omega
      obtain ⟨d, hd⟩ : ∃ d, d = s[0]'hpos := ⟨_, rfl⟩
      have hde : (s[0]'hpos).toNat = d.toNat := by rw [hd]
      have hlist : ∃ r, s.data.toList = d :: r := ⟨_, by rw [hd]; exact head_tail s hpos⟩
      have HLI := Hid.mk hlist
      clear h0 h2 hd hlist
      by_cases hz : s.size = 2 ∧ d.toNat = 48
      · have e1 : ((s.size : Int) == 2) = true := beq_iff_eq.2 (by omega)
        have e2 : ((d.toNat : Int) == 48) = true := beq_iff_eq.2 (by omega)
        have HZ := Hid.mk hz
        clear hz
        go_enter Tryz.func160, Tryz.ntmps160
        go_wp2_with fail
        try go_quiet (fail)
        try go_wp2_with fail
        go_ret
        refine ⟨_, rfl, .inl ⟨rfl, fun h => ?_⟩, ?_⟩
        · obtain ⟨r, hr⟩ := HLI.out
          exact h.2.2.2 (by have := HL.out; have := HZ.out; omega) d r hr HZ.out.2
        · first | exact Below.refl _ _ | exact below_drewN (Below.refl _ _) _
      · have hsz : s.size = 1 ∨ (s.size = 2 ∧ ((d.toNat : Int) == 48) = false) := by
          by_cases h1 : s.size = 1
          · exact .inl h1
          · exact .inr ⟨by omega, beq_eq_false_iff_ne.2 (by omega)⟩
        have HZ := Hid.mk hz
        clear hz
        rcases hsz with h1 | ⟨h1, e2⟩
        case' inl => have e1 : ((s.size : Int) == 2) = false := beq_eq_false_iff_ne.2 (by omega)
        case' inr => have e1 : ((s.size : Int) == 2) = true := beq_iff_eq.2 (by omega)
        all_goals
          have H1 := Hid.mk h1
          clear h1
          go_enter Tryz.func160, Tryz.ntmps160
          go_wp2_with fail
          go_loop [3, 4] (fun n i => ∃ (k nn : Nat), k ≤ s.size ∧ i = .int .i64 k ∧ n = .int .i64 nn ∧ nn ≤ 99 ∧ (k ≤ 1 → nn ≤ 9) ∧ (k = 0 → nn = 0) ∧ Hid (nn = dval (s.data.toList.take k) ∧ ∀ c ∈ s.data.toList.take k, IsDig c)) (fun _ i => s.size - (intOf i).toNat)
          case atStart => exact ⟨0, 0, Nat.zero_le _, rfl, rfl, by omega, by omega, fun _ => rfl, Hid.mk ⟨rfl, fun c hc => by simp at hc⟩⟩
          case round =>
            obtain ⟨k, nn, hk, rfl, rfl, hn99, hn9, hn0, HI⟩ := hrel
            by_cases hks : k < s.size
            · obtain ⟨x, hx⟩ : ∃ x, x = s[k]'hks := ⟨_, rfl⟩
              have hxe : (s[k]'hks).toNat = x.toNat := by rw [hx]
              have hmem : x ∈ s.data.toList := by rw [hx]; exact List.mem_of_getElem (i := k) (h := by simpa using hks) rfl
              have hnx : dval (s.data.toList.take (k + 1)) = 10 * dval (s.data.toList.take k) + (x.toNat - 48) := by
                rw [dval_take _ k (by simpa using hks), hx]; rfl
              have htk : s.data.toList.take (k + 1) = s.data.toList.take k ++ [x] := by
                rw [List.take_succ_eq_append_getElem (show k < s.data.toList.length from by simpa using hks), hx]; rfl
              have HX := Hid.mk (And.intro hmem (And.intro hnx htk))
              have hki : (k : Int) < (s.size : Int) := by omega
              clear hx hmem hnx htk
              by_cases hd1 : x.toNat < 48
              · have f1 : decide ((x.toNat : Int) < 48) = true := decide_eq_true (by omega)
                have f2 : decide (x.toNat < 48) = true := decide_eq_true (by omega)
                have HD := Hid.mk hd1
                clear hd1
                go_wp2_with fail
                go_ret
                exact ⟨_, rfl, .inl ⟨rfl, fun h => by have := (h.2.2.1 x HX.out.1).1; have := HD.out; omega⟩, Below.refl _ _⟩
              · have f1 : decide ((x.toNat : Int) < 48) = false := decide_eq_false (by omega)
                have f2 : decide (x.toNat < 48) = false := decide_eq_false (by omega)
                by_cases hd2 : 57 < x.toNat
                · have f3 : decide (57 < (x.toNat : Int)) = true := decide_eq_true (by omega)
                  have f4 : decide (57 < x.toNat) = true := decide_eq_true (by omega)
                  have HD := Hid.mk hd2
                  clear hd1 hd2
                  go_wp2_with fail
                  go_ret
                  exact ⟨_, rfl, .inl ⟨rfl, fun h => by have := (h.2.2.1 x HX.out.1).2; have := HD.out; omega⟩, Below.refl _ _⟩
                · have f3 : decide (57 < (x.toNat : Int)) = false := decide_eq_false (by omega)
                  have f4 : decide (57 < x.toNat) = false := decide_eq_false (by omega)
                  have d1 : 48 ≤ x.toNat := by omega
                  have d2 : x.toNat ≤ 57 := by omega
                  have hk1 : nn ≤ 9 := hn9 (by omega)
                  clear hd1 hd2
                  go_wp2_with fail
                  go_round
                  case measure => simp [intOf]; omega
                  case rel =>
                    refine ⟨k + 1, 10 * nn + (x.toNat - 48), by omega, by go_num, by go_num, by omega, ?_, by omega, Hid.mk ⟨?_, ?_⟩⟩
                    · intro h
                      have := hn0 (by omega)
                      omega
                    · rw [HX.out.2.1, HI.out.1]
                    · rw [HX.out.2.2]
                      intro c hc
                      rcases List.mem_append.1 hc with hc | hc
                      · exact HI.out.2 c hc
                      · rw [List.mem_singleton] at hc; rw [hc]; exact ⟨d1, d2⟩
            · have hd0 : decide (k < s.size) = false := decide_eq_false hks
              have hd1 : decide ((k : Int) < (s.size : Int)) = false := decide_eq_false (by omega)
              have hke : k = s.size := by omega
              have HKE := Hid.mk hke
              clear hke hks
              go_wp2_with fail
              go_ret
              have h1 := HI.out
              rw [HKE.out, List.take_of_length_le (by simp)] at h1
              refine ⟨_, rfl, .inr ⟨by rw [h1.1], ⟨?_, by have := HL.out; omega, h1.2, ?_⟩, by omega⟩, Below.refl _ _⟩
              · intro e
                have := HL.out
                rw [e] at this
                simp at this
                omega
              · intro h2 d' r' he hd
                obtain ⟨r, hr⟩ := HLI.out
                rw [he] at hr
                injection hr with hr _
                rw [hr] at hd
                exact HZ.out ⟨by have := HL.out; omega, hd⟩
end Go.Proofs.YtfjbijpagaipnaaGreatDoor.R

/- matricesref.M in memory. -/
namespace Go.Proofs.YtfjbijpagaipnaaGreatDoor.R
open Go.RowKit

/-- append to a row of the call's own, as one step of a region that draws. -/
theorem step_append_own {P : Program} {ops : Array Oper} {o : Oper} {a : Act} {w : World} {K : Act → World → Prop} {Q : Exit → Act → World → Prop} {E : Prop}
    (hg : o.guard = none) (s x : Operand) (t : TypeId) (hop : o.op = Op.call { callee := Callee.builtin Builtin.append, args := #[s, x], argTypes := #[t, t] })
    (base : Nat) (e : TypeId) (i : TypeInfo) (z : Value) (size bytes : Nat) (h1 : P.underlying t = some (.slice e)) (h2 : P.info? e = some i) (h3 : i.zero = some z) (h4 : i.size = size) (h5 : i.bytes = bytes) (h6 : z.cells.size = size) (h7 : 0 < size)
    (v : Value) (n : Nat) (xs : List Value) (hs : a.eval s = v) (hown : w.ownsRow base e size v n xs)
    (ad : Addr) (m c : Nat) (news : List Value) (hx : a.eval x = .slice (some ad) m c) (hn : news.length = m * size) (hc : ∀ j u, news[j]? = some u → w.cell? (ad.add j) = some u) (h1c : ∀ u ∈ news, u.oneCell' = true)
    (b1 : n + m ≤ maxLen) (b2 : (n + m) * bytes ≤ 140737488355328) (b3 : base ≤ w.heap.size)
    (hK : ∀ v' w', w'.ownsRow base e size v' (n + m) (xs ++ news) → w.grownBy w' v.ownBlock → K (a.put o.dst v') w') :
    if Region.wanted o (yielded ops a.tmps) = true then Oper.wp P o a w K Q else E := by
  have hw : Region.wanted o (yielded ops a.tmps) = true := by simp [Region.wanted, hg]
  rw [if_pos hw]
  obtain ⟨v', w', hrun, r1, r2, _⟩ := run_append_own (P := P) w base t o.type e i z size bytes h1 h2 h3 h4 h5 h6 h7 v n xs hown ad m c news hn hc h1c b1 b2 b3
  unfold Oper.wp
  simp [execOp, hop, resolve, invoke, builtin, hs, hx, hrun, Result.andThen]
  exact hK v' w' r1 r2

/-- A row of c numbers f, at block g. -/
def RRow (B : Nat) (w : World) (g c : Nat) (f : Nat → Int) (L : Nat) : Prop := ∃ cs : Array Value, w.heap[g]? = some (.cells cs 138 (0, 0)) ∧ cs.size = 2 * c ∧ ∀ j, j < c → ∃ a b, cs[2 * j]? = some a ∧ cs[2 * j + 1]? = some b ∧ IsN w (.agg #[a, b]) (f j) L ∧ AtB B (.agg #[a, b])
def nrows (n c : Nat) (gs : Nat → Nat) : List Value := (List.range n).map fun i => Value.slice (some ⟨gs i, 0, none⟩) c c
/-- n rows of c numbers, at the blocks gs. -/
def RRows (B : Nat) (w : World) (v : Value) (n c : Nat) (gs : Nat → Nat) (f : Nat → Nat → Int) (L : Nat) : Prop := w.ownsRow B 174 1 v n (nrows n c gs) ∧ (∀ i, i < n → B ≤ gs i ∧ RRow B w (gs i) c (f i) L) ∧ (∀ i j, i < j → j < n → gs i < gs j)
/-- The document's matrix at block b. -/
def IsR (B : Nat) (w : World) (b r c : Nat) (gs : Nat → Nat) (f : Nat → Nat → Int) (L : Nat) : Prop := B ≤ b ∧ ∃ v, w.heap[b]? = some (.cells #[.int .i64 r, .int .i64 c, v] 145 (0, 0)) ∧ RRows B w v r c gs f L
/-- Nothing of which such matrices are made has turned. -/
def KR (w w' : World) : Prop := ∀ (i : Nat) (arr : Array Value) (t : TypeId), (t = 3 ∨ t = 138 ∨ t = 174 ∨ t = 145) → w.heap[i]? = some (.cells arr t (0, 0)) → w'.heap[i]? = some (.cells arr t (0, 0))
theorem KR.refl (w : World) : KR w w := fun _ _ _ _ h => h
theorem KR.trans {a b c : World} (h : KR a b) (k : KR b c) : KR a c := fun i arr t ht h0 => k i arr t ht (h i arr t ht h0)
theorem KR.of_below {w w' : World} (h : Below w.heap.size w w') : KR w w' := fun i arr t _ h0 => by rw [h.block i (Array.getElem?_eq_some_iff.1 h0).1]; exact h0
theorem KR.ki {w w' : World} (h : KR w w') : KI w w' := fun i arr h0 => h i arr _ (.inl rfl) h0
theorem KR.of_grown {w w' : World} {p : Nat} {t : TypeId} (h : w.grownBy w' (some p)) (ht : Ty w p t) (h1 : t ≠ 3 ∧ t ≠ 138 ∧ t ≠ 174 ∧ t ≠ 145) : KR w w' := by
  intro i arr u hu h0
  rw [h.block i (Array.getElem?_eq_some_iff.1 h0).1 ?_]
  · exact h0
  · intro e
    injection e with e
    subst e
    obtain ⟨c, fr, h3⟩ := ht
    rw [h0] at h3
    simp only [Option.some.injEq, Obj.cells.injEq] at h3
    rcases hu with rfl | rfl | rfl | rfl
    · exact h1.1 h3.2.1.symm
    · exact h1.2.1 h3.2.1.symm
    · exact h1.2.2.1 h3.2.1.symm
    · exact h1.2.2.2 h3.2.1.symm
/-- No row of numbers, no row of such rows has turned. -/
def KQ (w w' : World) : Prop := ∀ (i : Nat) (arr : Array Value) (t : TypeId), (t = 3 ∨ t = 138 ∨ t = 174) → w.heap[i]? = some (.cells arr t (0, 0)) → w'.heap[i]? = some (.cells arr t (0, 0))
theorem KR.kq {w w' : World} (h : KR w w') : KQ w w' := fun i arr t ht h0 => h i arr t (by rcases ht with h | h | h; exact .inl h; exact .inr (.inl h); exact .inr (.inr (.inl h))) h0
theorem KQ.ki {w w' : World} (h : KQ w w') : KI w w' := fun i arr h0 => h i arr _ (.inl rfl) h0
theorem KQ.setCell {w : World} {b o : Nat} {t : TypeId} (ht : Ty w b t) (h1 : t ≠ 3 ∧ t ≠ 138 ∧ t ≠ 174) (u : Value) : KQ w (w.setCell ⟨b, o, none⟩ u) := by
  intro i arr s hs h0
  rw [Below.heap_setCell _ _ _ _ ?_]
  · exact h0
  · intro e
    have e' : i = b := by simpa using e
    subst e'
    obtain ⟨c, fr, h3⟩ := ht
    rw [h0] at h3
    simp only [Option.some.injEq, Obj.cells.injEq] at h3
    rcases hs with rfl | rfl | rfl
    · exact h1.1 h3.2.1.symm
    · exact h1.2.1 h3.2.1.symm
    · exact h1.2.2 h3.2.1.symm
theorem RRow.keep {B : Nat} {w w' : World} {g c : Nat} {f : Nat → Int} {L : Nat} (h : RRow B w g c f L) (hk : KQ w w') : RRow B w' g c f L := by
  obtain ⟨cs, h1, h2, h3⟩ := h
  refine ⟨cs, hk g cs _ (.inr (.inl rfl)) h1, h2, fun j hj => ?_⟩
  obtain ⟨a, b, e1, e2, e3, e4⟩ := h3 j hj
  exact ⟨a, b, e1, e2, e3.keep hk.ki, e4⟩
theorem RRow.lt {B : Nat} {w : World} {g c : Nat} {f : Nat → Int} {L : Nat} (h : RRow B w g c f L) : g < w.heap.size := by
  obtain ⟨cs, h1, -⟩ := h
  exact (Array.getElem?_eq_some_iff.1 h1).1
theorem RRows.keep {B : Nat} {w w' : World} {v : Value} {n c : Nat} {gs : Nat → Nat} {f : Nat → Nat → Int} {L : Nat} (h : RRows B w v n c gs f L) (hk : KQ w w') : RRows B w' v n c gs f L := by
  refine ⟨⟨h.1.1, ?_⟩, fun i hi => ⟨(h.2.1 i hi).1, (h.2.1 i hi).2.keep hk⟩, h.2.2⟩
  rcases h.1.2 with h2 | ⟨g, cap, cur, hv, hg, hh, r⟩
  · exact .inl h2
  · exact .inr ⟨g, cap, cur, hv, hg, hk g cur _ (.inr (.inr rfl)) hh, r⟩
theorem IsR.keep {B : Nat} {w w' : World} {b r c : Nat} {gs : Nat → Nat} {f : Nat → Nat → Int} {L : Nat} (h : IsR B w b r c gs f L) (hk : KR w w') : IsR B w' b r c gs f L := by
  obtain ⟨h0, v, h1, h2⟩ := h
  exact ⟨h0, v, hk b _ _ (.inr (.inr (.inr rfl))) h1, h2.keep hk.kq⟩
theorem RRows.nil (B : Nat) (w : World) (c : Nat) (gs : Nat → Nat) (f : Nat → Nat → Int) (L : Nat) : RRows B w (.slice none 0 0) 0 c gs f L := ⟨World.ownsRow_nil _ _ _ _, fun i hi => by omega, fun i j _ hj => by omega⟩
theorem RRows.shape {B : Nat} {w : World} {v : Value} {n c : Nat} {gs : Nat → Nat} {f : Nat → Nat → Int} {L : Nat} (h : RRows B w v n c gs f L) : ∃ ao cap, v = .slice ao n cap ∧ n ≤ cap ∧ cap ≤ 9223372036854775807 ∧ (∀ i, i < n → ∃ g, ao = some ⟨g, 0, none⟩ ∧ w.cell? ⟨g, i, none⟩ = some (.slice (some ⟨gs i, 0, none⟩) c c)) := by
  rcases h.1.2 with ⟨rfl, hn⟩ | ⟨g, cap, cur, rfl, hg, hh, h1, h3, h4, h5⟩
  · subst hn; exact ⟨none, 0, rfl, Nat.le_refl _, by omega, fun i hi => by omega⟩
  · refine ⟨_, cap, rfl, h1, by simpa [maxLen] using h3, fun i hi => ⟨g, rfl, ?_⟩⟩
    rw [World.ownsRow.cellAt h.1 i (by omega)]
    simp [nrows, hi]
theorem nrows_snoc (n c : Nat) (gs : Nat → Nat) (g : Nat) : nrows n c gs ++ [Value.slice (some ⟨g, 0, none⟩) c c] = nrows (n + 1) c (fun i => if i = n then g else gs i) := by
  unfold nrows
  rw [List.range_succ, List.map_append, List.map_singleton]
  simp only [if_true]
  congr 1
  apply List.map_congr_left
  intro i hi
  have := List.mem_range.1 hi
  rw [if_neg (by omega)]
theorem Tryz.info138 : (Tryz.prog.info? 138).map (fun i => (i.zero, i.size, i.bytes)) = some (some (.agg #[.bool false, .slice none 0 0]), 2, 32) := by kernel_rfl
theorem Tryz.info174 : (Tryz.prog.info? 174).map (fun i => (i.zero, i.size, i.bytes)) = some (some (.slice none 0 0), 1, 24) := by kernel_rfl
/-- A new row of noughts. -/
def zrow (c : Nat) : Array Value := madeCells #[Value.bool false, .slice none 0 0] (c * 2)
theorem make_zrow (c : Nat) (hc : c ≤ 1000000) (w : World) : (Instr.makeSlice 174 (.int .i64 (c : Int)) (.int .i64 (c : Int))).run Tryz.prog w = .ok (.slice (some ⟨w.heap.size, 0, none⟩) c c) (w.alloc (.cells (zrow c) 138)) := by
  obtain ⟨i, hi, hz0, hz1, hz2⟩ := info_parts Tryz.info138
  have hr := run_make (P := Tryz.prog) w 174 138 i (.agg #[.bool false, .slice none 0 0]) Tryz.underlying174 hi hz0 .i64 .i64 c c (by omega) (Int.le_refl _) (by rw [hz2]; omega) (by omega)
  simp only [Int.toNat_natCast, hz1] at hr
  exact hr
theorem zrow_is (B : Nat) (w : World) (g c : Nat) (L : Nat) (h : w.heap[g]? = some (.cells (zrow c) 138 (0, 0))) : RRow B w g c (fun _ => 0) L := by
  refine ⟨zrow c, h, by simp [zrow, size_madeCells]; omega, fun j hj => ⟨.bool false, .slice none 0 0, ?_, ?_, ⟨false, _, [], rfl, Own.nil _, ⟨Lo_nil, .inl rfl⟩, by simp, by simp [val], by simp⟩, AtB.none _ _ _ _⟩⟩
  · simp [zrow, madeCells, show 2 * j < c * 2 from by omega, show 2 * j % 2 = 0 from by omega]
  · simp [zrow, madeCells, show 2 * j + 1 < c * 2 from by omega, show (2 * j + 1) % 2 = 1 from by omega]
end Go.Proofs.YtfjbijpagaipnaaGreatDoor.R
