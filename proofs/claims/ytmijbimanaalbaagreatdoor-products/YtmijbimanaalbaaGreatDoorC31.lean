import Derived.Test.YtmijbimanaalbaaGreatDoorC30
/- matricesref: cut, side. -/
namespace Go.Proofs.YtmijbimanaalbaaGreatDoor.R
open Go.RowKit

def scells (ts : List (List UInt8)) : List Value := ts.map fun l => Value.string ⟨l.toArray⟩
/-- A row of texts. -/
def OwnS (B : Nat) (w : World) (v : Value) (ts : List (List UInt8)) : Prop := w.ownsRow B 9 1 v ts.length (scells ts)
theorem OwnS.nil (B : Nat) (w : World) : OwnS B w (.slice none 0 0) [] := World.ownsRow_nil _ _ _ _
theorem OwnS.below {B : Nat} {w w' : World} {v : Value} {ts : List (List UInt8)} (h : OwnS B w v ts) (hb : Below w.heap.size w w') : OwnS B w' v ts := by
  refine ⟨h.1, ?_⟩
  rcases h.2 with h3 | ⟨g, cap, cur, hv, hg, hh, r⟩
  · exact .inl h3
  · exact .inr ⟨g, cap, cur, hv, hg, by rw [hb.block g (Array.getElem?_eq_some_iff.1 hh).1]; exact hh, r⟩
theorem OwnS.shape {B : Nat} {w : World} {v : Value} {ts : List (List UInt8)} (h : OwnS B w v ts) : ∃ ao cap, v = .slice ao ts.length cap ∧ ts.length ≤ cap ∧ cap ≤ 9223372036854775807 ∧ (∀ i, i < ts.length → ∃ g, ao = some ⟨g, 0, none⟩ ∧ w.cell? ⟨g, i, none⟩ = some (.string ⟨(ts.getD i []).toArray⟩)) := by
  have h0 := h
  rcases h.2 with ⟨rfl, hn⟩ | ⟨g, cap, cur, rfl, hg, hh, r1, r2, r3, r4⟩
  · rw [hn]; exact ⟨none, 0, rfl, Nat.le_refl _, by omega, fun i hi => by omega⟩
  · refine ⟨_, cap, rfl, r1, by simpa [maxLen] using r2, fun i hi => ⟨g, rfl, ?_⟩⟩
    rw [World.ownsRow.cellAt h0 i (by omega)]
    simp [scells, List.getD, List.getElem?_eq_getElem hi]
theorem Tryz.info9 : (Tryz.prog.info? 9).map (fun i => (i.zero, i.size, i.bytes)) = some (some (.string ⟨#[]⟩), 1, 16) := by kernel_rfl
/-- 'append(texts, t)'. -/
theorem append_str (w : World) {ops : Array Oper} {rest : List Oper} {o : Oper} {a : Act} {Q : Exit → Act → World → Prop} (hgd : o.guard = none) (s x : Operand)
    (ho : o.op = .call { callee := .builtin .append, args := #[s, x], argTypes := #[65, 65] }) (B : Nat) (v : Value) (ts : List (List UInt8)) (hs : a.eval s = v) (hown : OwnS B w v ts)
    (ad : Addr) (hx : a.eval x = .slice (some ad) 1 1) (t : List UInt8) (hc : w.cell? (ad.add 0) = some (.string ⟨t.toArray⟩)) (hl : ts.length ≤ 30000) (hB : B ≤ w.heap.size)
    (hK : ∀ v' w', OwnS B w' v' (ts ++ [t]) → w.grownBy w' v.ownBlock → wpList Tryz.prog ops Q rest (a.put o.dst v') w') : wpList Tryz.prog ops Q (o :: rest) a w := by
  obtain ⟨i, hi, hz0, hz1, hz2⟩ := info_parts Tryz.info9
  refine wpList_append_own w hgd s x 65 ho B 9 i (.string ⟨#[]⟩) 1 16 Tryz.underlying65 hi hz0 hz1 hz2 rfl (by decide) v ts.length (scells ts) hs hown ad 1 1 [.string ⟨t.toArray⟩] hx rfl ?_ ?_ ?_ ?_ hB ?_
  · intro j u hj
    match j, hj with
    | 0, hj => simp at hj; subst hj; exact hc
  · intro u hu; simp at hu; subst hu; rfl
  · unfold maxLen; omega
  · omega
  · intro v' w' h1 h2 _
    refine hK v' w' ?_ h2
    unfold OwnS
    rw [show scells (ts ++ [t]) = scells ts ++ [.string ⟨t.toArray⟩] from by simp [scells], List.length_append, List.length_singleton]
    exact h1
/-- A text, cut at a byte. -/
def cutL (c : UInt8) : List UInt8 → List (List UInt8)
  | [] => [[]]
  | x :: r => if x = c then [] :: cutL c r else match cutL c r with
    | [] => [[x]]
    | h :: t => (x :: h) :: t
theorem cutL_ne (c : UInt8) (l : List UInt8) : cutL c l ≠ [] := by
  cases l with
  | nil => simp [cutL]
  | cons x r =>
    unfold cutL
    split
    · simp
    · split <;> simp
/-- What is cut already, and what is still to come. -/
def glue (o : List (List UInt8)) (t : List UInt8) : List (List UInt8) → List (List UInt8)
  | [] => o ++ [t]
  | h :: r => o ++ ((t ++ h) :: r)
theorem glue_cut {o : List (List UInt8)} {t : List UInt8} {c : UInt8} (r : List UInt8) : glue o t (cutL c (c :: r)) = glue (o ++ [t]) [] (cutL c r) := by
  have h1 : cutL c (c :: r) = [] :: cutL c r := by rw [cutL, if_pos rfl]
  rw [h1]
  cases h : cutL c r with
  | nil => exact absurd h (cutL_ne c r)
  | cons a b => simp [glue]
theorem glue_go {o : List (List UInt8)} {t : List UInt8} {c x : UInt8} (hx : x ≠ c) (r : List UInt8) : glue o t (cutL c (x :: r)) = glue o (t ++ [x]) (cutL c r) := by
  rw [cutL, if_neg hx]
  cases h : cutL c r with
  | nil => exact absurd h (cutL_ne c r)
  | cons a b => simp [glue]
theorem cut_len (c : UInt8) (l : List UInt8) : (cutL c l).length ≤ l.length + 1 := by
  induction l with
  | nil => simp [cutL]
  | cons x r ih =>
    unfold cutL
    split
    · simp; omega
    · cases h : cutL c r with
      | nil => simp
      | cons a b => rw [h] at ih; simp at ih ⊢; omega
theorem str_one (s : ByteArray) (k : Nat) (hk : k < s.size) : s.extract k (k + 1) = ⟨[s[k]'hk].toArray⟩ := by
  apply ByteArray.ext
  have h3 : (s.extract k (k + 1)).data.toList = [s[k]'hk] := by
    rw [ByteArray.data_extract, Array.toList_extract, List.extract_eq_take_drop, Nat.add_sub_cancel_left, List.drop_eq_getElem_cons (show k < s.data.toList.length from by simpa using hk)]
    rfl
  rw [← Array.toArray_toList (xs := (s.extract k (k + 1)).data), h3]
/-- What cut hands back. -/
def CutOut (c : UInt8) (s : ByteArray) (w w' : World) (v : Value) : Prop := OwnS w.heap.size w' v (cutL c s.data.toList) ∧ Below w.heap.size w w'

set_option maxRecDepth 100000 in
set_option maxHeartbeats 4000000 in
theorem cut_any (s : ByteArray) (c : UInt8) (w : World) (hs : s.size ≤ 20000) :
    Calls Tryz.prog 159 #[.string s, .int .u8 (c.toNat : Nat)] w fun e w' => ∃ v, e = .returned v ∧ CutOut c s w w' v := by
  go_enter Tryz.func159, Tryz.ntmps159
  go_wp2_with fail
  go_loopw [5, 6, 7] (fun out t i wr => ∃ (k : Nat) (o : List (List UInt8)) (tt : List UInt8), k ≤ s.size ∧ i = .int .i64 k ∧ t = .string ⟨tt.toArray⟩ ∧ tt.length ≤ k ∧ o.length ≤ k ∧ OwnS w.heap.size wr out o ∧ Below w.heap.size w wr ∧ Hid (glue o tt (cutL c (s.data.toList.drop k)) = cutL c s.data.toList)) (fun _ _ i _ => s.size - (intOf i).toNat)
  case atStart =>
    refine ⟨0, [], [], Nat.zero_le _, rfl, rfl, by simp, by simp, OwnS.nil _ _, Below.refl _ _, Hid.mk ?_⟩
    rw [List.drop_zero]
    cases h : cutL c s.data.toList with
    | nil => exact absurd h (cutL_ne _ _)
    | cons a b => simp [glue]
  case round =>
    obtain ⟨k, o, tt, hk, rfl, rfl, htl, hol, hown, hbel, HI⟩ := hrel
    have hwr := hbel.size
    have K := Hid.mk (And.intro hown hbel)
    clear hown hbel
    by_cases hkn : k < s.size
    · obtain ⟨x, hx⟩ : ∃ x, x = s[k]'hkn := ⟨_, rfl⟩
      have hdr : s.data.toList.drop k = x :: s.data.toList.drop (k + 1) := by
        rw [List.drop_eq_getElem_cons (show k < s.data.toList.length from by simpa using hkn), hx]
        rfl
      have hxe : (s[k]'hkn).toNat = x.toNat := by rw [hx]
      have hex : s.extract k (k + 1) = ⟨[x].toArray⟩ := by rw [hx]; exact str_one s k hkn
      have HDR := Hid.mk hdr
      have HEX := Hid.mk hex
      have hki : (k : Int) < (s.size : Int) := by omega
      clear hx hdr hex
      by_cases hc : x = c
      · have hb : ((x.toNat : Int) == (c.toNat : Int)) = true := beq_iff_eq.2 (by rw [hc])
        have HC := Hid.mk hc
        clear hc
        go_wp2_with (at_builtin; refine append_str _ rfl _ _ rfl w.heap.size _ o rfl ?_ ⟨_, 0, none⟩ rfl tt ?_ ?_ ?_ ?_)
        · exact World.ownsRow.alloc K.out.1 _
        · simp [Addr.add]
        · omega
        · simp; omega
        intro v' w' q1 q2
        have hbel2 : Below w.heap.size w w' := (K.out.2.alloc hwr _).grown q2 (by simp; omega) (fun j hj => (World.ownsRow.lt K.out.1 j hj).1)
        have K2 := Hid.mk (And.intro q1 hbel2)
        clear q1 q2 hbel2
        go_wp2_with fail
        go_roundw
        case measure => simp [intOf]; omega
        case rel =>
          refine ⟨k + 1, o ++ [tt], [], by omega, by go_num, rfl, by simp, by simp; omega, K2.out.1, K2.out.2, Hid.mk ?_⟩
          have := HI.out
          rw [HDR.out, HC.out, glue_cut] at this
          exact this
      · have hb : ((x.toNat : Int) == (c.toNat : Int)) = false := beq_eq_false_iff_ne.2 (fun e => hc (UInt8.toNat_inj.1 (by omega)))
        have HC := Hid.mk hc
        clear hc
        go_wp2_with fail
        go_roundw
        case measure => simp [intOf]; omega
        case rel =>
          refine ⟨k + 1, o, tt ++ [x], by omega, by go_num, ?_, by simp; omega, by omega, K.out.1, K.out.2, Hid.mk ?_⟩
          · rw [HEX.out]; exact rval_str (rstr_app tt [x])
          · have := HI.out
            rw [HDR.out, glue_go HC.out] at this
            exact this
    · have hke : k = s.size := by omega
      have HKE := Hid.mk hke
      clear hke
      go_wp2_with (at_builtin; refine append_str _ rfl _ _ rfl w.heap.size _ o rfl ?_ ⟨_, 0, none⟩ rfl tt ?_ ?_ ?_ ?_)
      · exact World.ownsRow.alloc K.out.1 _
      · simp [Addr.add]
      · omega
      · simp; omega
      intro v' w' q1 q2
      have hbel2 : Below w.heap.size w w' := (K.out.2.alloc hwr _).grown q2 (by simp; omega) (fun j hj => (World.ownsRow.lt K.out.1 j hj).1)
      have K2 := Hid.mk (And.intro q1 hbel2)
      clear q1 q2 hbel2
      go_wp2_with fail
      go_ret
      refine ⟨_, rfl, ?_, K2.out.2⟩
      have := HI.out
      rw [HKE.out, List.drop_of_length_le (by simp)] at this
      simp only [cutL, glue, List.append_nil] at this
      rw [← this]
      exact K2.out.1
end Go.Proofs.YtmijbimanaalbaaGreatDoor.R

/- matricesref: side. -/
namespace Go.Proofs.YtmijbimanaalbaaGreatDoor.R
open Go.RowKit

/-- A side's text: one digit, or two of which the first is no nought. -/
def OkSide (l : List UInt8) : Prop := l ≠ [] ∧ l.length ≤ 2 ∧ (∀ c ∈ l, IsDig c) ∧ (l.length = 2 → ∀ d r, l = d :: r → d.toNat ≠ 48)
def SideR (l : List UInt8) (i : Int) : Prop := (i = -1 ∧ ¬ OkSide l) ∨ (i = (dval l : Int) ∧ OkSide l ∧ i ≤ 99)
theorem dval_take (l : List UInt8) (k : Nat) (hk : k < l.length) : dval (l.take (k + 1)) = 10 * dval (l.take k) + (l[k].toNat - 48) := by
  rw [List.take_succ_eq_append_getElem hk, dval_snoc]

set_option maxRecDepth 100000 in
set_option maxHeartbeats 4000000 in
theorem side_ref (s : ByteArray) (w : World) (hmax : s.size ≤ 20000) :
    Calls Tryz.prog 160 #[.string s] w fun e w' => ∃ i, e = .returned (.int .i64 i) ∧ SideR s.data.toList i ∧ Below w.heap.size w w' := by
  have hlen : s.data.toList.length = s.size := by simp
  have HL := Hid.mk hlen
  clear hlen
  by_cases h0 : s.size = 0
  · have hi : (s.size : Int) < 1 := by omega
    have H0 := Hid.mk h0
    clear h0
    go_enter Tryz.func160, Tryz.ntmps160
    go_wp2_with fail
    go_ret
    exact ⟨_, rfl, .inl ⟨rfl, fun h => h.1 (List.eq_nil_of_length_eq_zero (by have := HL.out; have := H0.out; omega))⟩, Below.refl _ _⟩
  · by_cases h2 : 2 < s.size
    · have hi : (2 : Int) < (s.size : Int) := by omega
      have hi2 : decide ((s.size : Int) < 1) = false := decide_eq_false (by omega)
      have H2 := Hid.mk h2
      clear h0
      go_enter Tryz.func160, Tryz.ntmps160
      go_wp2_with fail
      go_ret
      exact ⟨_, rfl, .inl ⟨rfl, fun h => by have := h.2.1; have := HL.out; have := H2.out; omega⟩, Below.refl _ _⟩
    · have hpos : 0 < s.size := by omega
      have hi1 : decide ((s.size : Int) < 1) = false := decide_eq_false (by omega)
      have hi2 : decide ((2 : Int) < (s.size : Int)) = false := decide_eq_false (by omega)
      have hs2 : s.size ≤ 2 := by omega
      have hsi : (s.size : Int) ≤ 2 := by omega
      obtain ⟨d, hd⟩ : ∃ d, d = s[0]'hpos := ⟨_, rfl⟩
      have hde : (s[0]'hpos).toNat = d.toNat := by rw [hd]
      have hlist : ∃ r, s.data.toList = d :: r := ⟨_, by rw [hd]; exact head_tail s hpos⟩
      have HLI := Hid.mk hlist
      clear h0 h2 hd hlist
      by_cases hz : s.size = 2 ∧ d.toNat = 48
      · have e1 : ((s.size : Int) == 2) = true := beq_iff_eq.2 (by omega)
        have e2 : ((d.toNat : Int) == 48) = true := beq_iff_eq.2 (by omega)
        have HZ := Hid.mk hz
        clear hz
        go_enter Tryz.func160, Tryz.ntmps160
        go_wp2_with fail
        try go_quiet (fail)
        try go_wp2_with fail
        go_ret
        refine ⟨_, rfl, .inl ⟨rfl, fun h => ?_⟩, ?_⟩
        · obtain ⟨r, hr⟩ := HLI.out
          exact h.2.2.2 (by have := HL.out; have := HZ.out; omega) d r hr HZ.out.2
        · first | exact Below.refl _ _ | exact below_drewN (Below.refl _ _) _
      · have hsz : s.size = 1 ∨ (s.size = 2 ∧ ((d.toNat : Int) == 48) = false) := by
          by_cases h1 : s.size = 1
          · exact .inl h1
          · exact .inr ⟨by omega, beq_eq_false_iff_ne.2 (by omega)⟩
        have HZ := Hid.mk hz
        clear hz
        rcases hsz with h1 | ⟨h1, e2⟩
        case' inl => have e1 : ((s.size : Int) == 2) = false := beq_eq_false_iff_ne.2 (by omega)
        case' inr => have e1 : ((s.size : Int) == 2) = true := beq_iff_eq.2 (by omega)
        all_goals
          have H1 := Hid.mk h1
          clear h1
          go_enter Tryz.func160, Tryz.ntmps160
          go_wp2_with fail
          go_loop [3, 4] (fun n i => ∃ (k nn : Nat), k ≤ s.size ∧ i = .int .i64 k ∧ n = .int .i64 nn ∧ nn ≤ 99 ∧ (k ≤ 1 → nn ≤ 9) ∧ (k = 0 → nn = 0) ∧ Hid (nn = dval (s.data.toList.take k) ∧ ∀ c ∈ s.data.toList.take k, IsDig c)) (fun _ i => s.size - (intOf i).toNat)
          case atStart => exact ⟨0, 0, Nat.zero_le _, rfl, rfl, by omega, by omega, fun _ => rfl, Hid.mk ⟨rfl, fun c hc => by simp at hc⟩⟩
          case round =>
            obtain ⟨k, nn, hk, rfl, rfl, hn99, hn9, hn0, HI⟩ := hrel
            by_cases hks : k < s.size
            · obtain ⟨x, hx⟩ : ∃ x, x = s[k]'hks := ⟨_, rfl⟩
              have hxe : (s[k]'hks).toNat = x.toNat := by rw [hx]
              have hmem : x ∈ s.data.toList := by rw [hx]; exact List.mem_of_getElem (i := k) (h := by simpa using hks) rfl
              have hnx : dval (s.data.toList.take (k + 1)) = 10 * dval (s.data.toList.take k) + (x.toNat - 48) := by
                rw [dval_take _ k (by simpa using hks), hx]; rfl
              have htk : s.data.toList.take (k + 1) = s.data.toList.take k ++ [x] := by
                rw [List.take_succ_eq_append_getElem (show k < s.data.toList.length from by simpa using hks), hx]; rfl
              have HX := Hid.mk (And.intro hmem (And.intro hnx htk))
              have hki : (k : Int) < (s.size : Int) := by omega
              clear hx hmem hnx htk
              by_cases hd1 : x.toNat < 48
              · have f1 : decide ((x.toNat : Int) < 48) = true := decide_eq_true (by omega)
                have f2 : decide (x.toNat < 48) = true := decide_eq_true (by omega)
                have HD := Hid.mk hd1
                clear hd1
                go_wp2_with fail
                go_ret
                exact ⟨_, rfl, .inl ⟨rfl, fun h => by have := (h.2.2.1 x HX.out.1).1; have := HD.out; omega⟩, Below.refl _ _⟩
              · have f1 : decide ((x.toNat : Int) < 48) = false := decide_eq_false (by omega)
                have f2 : decide (x.toNat < 48) = false := decide_eq_false (by omega)
                by_cases hd2 : 57 < x.toNat
                · have f3 : decide (57 < (x.toNat : Int)) = true := decide_eq_true (by omega)
                  have f4 : decide (57 < x.toNat) = true := decide_eq_true (by omega)
                  have HD := Hid.mk hd2
                  clear hd1 hd2
                  go_wp2_with fail
                  go_ret
                  exact ⟨_, rfl, .inl ⟨rfl, fun h => by have := (h.2.2.1 x HX.out.1).2; have := HD.out; omega⟩, Below.refl _ _⟩
                · have f3 : decide (57 < (x.toNat : Int)) = false := decide_eq_false (by omega)
                  have f4 : decide (57 < x.toNat) = false := decide_eq_false (by omega)
                  have d1 : 48 ≤ x.toNat := by omega
                  have d2 : x.toNat ≤ 57 := by omega
                  have hk1 : nn ≤ 9 := hn9 (by omega)
                  clear hd1 hd2
                  go_wp2_with fail
                  go_round
                  case measure => simp [intOf]; omega
                  case rel =>
                    refine ⟨k + 1, 10 * nn + (x.toNat - 48), by omega, by go_num, by go_num, by omega, ?_, by omega, Hid.mk ⟨?_, ?_⟩⟩
                    · intro h
                      have := hn0 (by omega)
                      omega
                    · rw [HX.out.2.1, HI.out.1]
                    · rw [HX.out.2.2]
                      intro c hc
                      rcases List.mem_append.1 hc with hc | hc
                      · exact HI.out.2 c hc
                      · rw [List.mem_singleton] at hc; rw [hc]; exact ⟨d1, d2⟩
            · have hd0 : decide (k < s.size) = false := decide_eq_false hks
              have hd1 : decide ((k : Int) < (s.size : Int)) = false := decide_eq_false (by omega)
              have hke : k = s.size := by omega
              have HKE := Hid.mk hke
              clear hke hks
              go_wp2_with fail
              go_ret
              have h1 := HI.out
              rw [HKE.out, List.take_of_length_le (by simp)] at h1
              refine ⟨_, rfl, .inr ⟨by rw [h1.1], ⟨?_, by have := HL.out; omega, h1.2, ?_⟩, by omega⟩, Below.refl _ _⟩
              · intro e
                have := HL.out
                rw [e] at this
                simp at this
                omega
              · intro h2 d' r' he hd
                obtain ⟨r, hr⟩ := HLI.out
                rw [he] at hr
                injection hr with hr _
                rw [hr] at hd
                exact HZ.out ⟨by have := HL.out; omega, hd⟩
end Go.Proofs.YtmijbimanaalbaaGreatDoor.R
