import Derived.Test.YtfjbijpagaipnaaGreatDoorC08
import Derived.Laws.CopyOwn
/- notation.reader: entries. -/
namespace Go.Proofs.YtfjbijpagaipnaaGreatDoor
open Go.RowKit

/-- The entries' text from entry t on: c columns. -/
def bodyT (c : Nat) : Nat → List (List UInt8) → List UInt8
  | _, [] => []
  | t, tk :: r => (if 0 < t ∧ t % c = 0 then [59] else []) ++ (32 :: (tk ++ bodyT c (t + 1) r))
theorem bodyT_stops (c t : Nat) (l : List (List UInt8)) : Stops (bodyT c t l) := by
  cases l with
  | nil => exact .inl rfl
  | cons tk r =>
    refine .inr ?_
    unfold bodyT
    split
    · exact ⟨59, _, rfl, .inr (by decide)⟩
    · exact ⟨32, _, rfl, .inl (by decide)⟩
theorem bodyT_at (c t : Nat) (tks : List (List UInt8)) (ht : t < tks.length) : bodyT c t (tks.drop t) = (if 0 < t ∧ t % c = 0 then [59] else []) ++ (32 :: (tks.getD t [] ++ bodyT c (t + 1) (tks.drop (t + 1)))) := by
  rw [List.drop_eq_getElem_cons ht, bodyT]
  simp [List.getD, List.getElem?_eq_getElem ht]
theorem sep_iff {row c k : Nat} (hk : k < c) : (0 < row * c + k ∧ (row * c + k) % c = 0) ↔ (0 < row ∧ k = 0) := by
  have h1 : (row * c + k) % c = k := by rw [Nat.mul_comm, Nat.mul_add_mod, Nat.mod_eq_of_lt hk]
  rw [h1]
  constructor
  · rintro ⟨h2, rfl⟩
    refine ⟨?_, rfl⟩
    rcases Nat.eq_zero_or_pos row with h3 | h3
    · subst h3; simp at h2
    · exact h3
  · rintro ⟨h2, rfl⟩
    exact ⟨by have := Nat.mul_le_mul h2 (Nat.succ_le_of_lt hk); omega, rfl⟩
theorem take_snocI (zs : List Int) (t : Nat) (ht : t < zs.length) : zs.take t ++ [zs[t]?.getD 0] = zs.take (t + 1) := by
  rw [List.take_succ_eq_append_getElem ht]; simp [List.getElem?_eq_getElem ht]

set_option maxRecDepth 100000 in
set_option maxHeartbeats 4000000 in
theorem entries_ok (p : Nat) (s : ByteArray) (a r c : Nat) (tks : List (List UInt8)) (zs : List Int) (L : Nat) (w : World) (h : Rd w p s a) (hr : Rem s a (bodyT c 0 tks)) (hs : s.size ≤ 4000) (hrr : r ≤ 99) (hcc : c ≤ 99)
    (hl1 : tks.length = r * c) (hl2 : zs.length = r * c) (ht : ∀ t, t < r * c → Tok (tks.getD t []) (zs.getD t 0) ∧ (tks.getD t []).length ≤ L) :
    Calls Tryz.prog 137 #[.pointer (some ⟨p, 0, none⟩), .int .i64 r, .int .i64 c] w fun e w' => ∃ v, e = .returned v ∧ Grid w' v (r * c) zs L ∧ Rd w' p s s.size ∧ Fr p w w' := by
  have H := Hid.mk h
  have HR := Hid.mk hr
  have HT := Hid.mk ht
  have HL := Hid.mk (And.intro hl1 hl2)
  have hpl := h.lt
  clear h hr ht hl1 hl2
  go_enter Tryz.func137, Tryz.ntmps137
  go_wp2_with fail
  go_loopw [7, 8] (fun v i wr => ∃ row q n : Nat, row ≤ r ∧ i = .int .i64 row ∧ GridB w.heap.size wr v n (zs.take n) L ∧ Rd wr p s q ∧ Fr p w wr ∧ Hid (n = row * c ∧ Rem s q (bodyT c n (tks.drop n)))) (fun _ i _ => r - (intOf i).toNat)
  case atStart =>
    refine ⟨0, a, 0, Nat.zero_le _, rfl, ⟨rfl, [], ?_, fun i hi => by omega⟩, H.out.below ((Below.refl _ _).alloc (Nat.le_refl _) _), Fr.of_below ((Below.refl _ _).alloc (Nat.le_refl _) _), Hid.mk ⟨by simp, by simpa using HR.out⟩⟩
    have := World.ownsRow_lit (base := w.heap.size) (e := 94) (size := 2) w #[] 0 (Nat.le_refl _) (by simp [maxLen]) rfl
    simpa using this
  case round =>
    obtain ⟨row, q, n, hrow, rfl, hG, hRd, hFr, HI⟩ := hrel
    have H1 := Hid.mk (And.intro hG (And.intro hRd hFr))
    clear hG hRd hFr
    by_cases hrw : row < r
    · go_wp2_with fail
      go_loopw [7, 9] (fun v i ws => ∃ k q n : Nat, k ≤ c ∧ i = .int .i64 k ∧ GridB w.heap.size ws v n (zs.take n) L ∧ Rd ws p s q ∧ Fr p w ws ∧ Hid (n = row * c + k ∧ Rem s q (bodyT c n (tks.drop n)))) (fun _ i _ => c - (intOf i).toNat)
      case atStart => exact ⟨0, q, n, Nat.zero_le _, rfl, H1.out.1, H1.out.2.1, H1.out.2.2, HI⟩
      case round =>
        clear H1 HI
        obtain ⟨k, q, n, hk, rfl, hG, hRd, hFr, HI⟩ := hrel
        obtain ⟨c0, c1, c2, c3, c4⟩ := hRd.cells
        by_cases hkc : k < c
        · have hnlt : n < r * c := by rw [HI.out.1]; exact idx_lt hrw hkc
          have hrc : r * c ≤ 9801 := Nat.mul_le_mul hrr hcc
          have HTN := Hid.mk (HT.out n hnlt)
          have hrem := HI.out.2
          rw [bodyT_at c n tks (by have := HL.out.1; omega)] at hrem
          have hsep := sep_iff (row := row) hkc
          rw [← HI.out.1] at hsep
          by_cases h1 : 0 < row ∧ k = 0
          · rw [if_pos (hsep.2 h1)] at hrem
            obtain ⟨_, _, hrem1⟩ := hrem.cons
            obtain ⟨hrow0, rfl⟩ := h1
            obtain ⟨_, _, hrem2⟩ := hrem1.cons
            obtain ⟨q1, hq1⟩ : ∃ q1, q1 = q + 1 := ⟨_, rfl⟩
            rw [← hq1] at hrem1 hrem2
            have HREM := Hid.mk hrem
            have HREM1 := Hid.mk hrem1
            have HREM2 := Hid.mk hrem2
            have HQ1 := Hid.mk hq1
            have G0 := Hid.mk (And.intro hG (And.intro hRd hFr))
            clear hrem hrem1 hrem2 hsep hG hRd hFr hq1
            go_wp2_with fail
            refine (want_ok p s q 59 59 _ _ G0.out.2.1 HREM.out (by omega) rfl).mono ?_
            rintro e w1 ⟨rfl, hRd1, hFr1⟩
            have G1 := Hid.mk (And.intro (G0.out.1.keep hFr1.2) (And.intro (show Rd w1 p s q1 from by rw [HQ1.out]; exact hRd1) (G0.out.2.2.trans hFr1)))
            clear hRd1 hFr1 G0 c0 c1 c2 c3 c4
            go_wp2_with fail
            refine (want_ok p s q1 32 32 (tks.getD n [] ++ bodyT c (n + 1) (tks.drop (n + 1))) _ G1.out.2.1 HREM1.out (by omega) rfl).mono ?_
            rintro e w2 ⟨rfl, hRd2, hFr2⟩
            have G2 := Hid.mk (And.intro (G1.out.1.keep hFr2.2) (And.intro hRd2 (G1.out.2.2.trans hFr2)))
            clear hRd2 hFr2 G1
            go_wp2_with fail
            refine (entry_ok p s (q1 + 1) (tks.getD n []) (bodyT c (n + 1) (tks.drop (n + 1))) (zs.getD n 0) _ G2.out.2.1 HREM2.out hs HTN.out.1 (bodyT_stops _ _ _)).mono ?_
            rintro e w3 ⟨x, rfl, hx, hRd3, hFr3⟩
            obtain ⟨nb, bo, m, ecap, rfl⟩ := hx.shape
            have G3 := Hid.mk (And.intro (G2.out.1.keep hFr3.2) (And.intro hRd3 (And.intro (G2.out.2.2.trans hFr3) (hx.mono HTN.out.2))))
            clear hx hRd3 hFr3 G2
            go_wp2_with (at_builtin; refine append_int _ rfl (.tmp 41) (.tmp 43) rfl w.heap.size _ n (zs.take n) L rfl ?_ ⟨_, 0, none⟩ rfl (.bool nb) (.slice bo m ecap) (zs.getD n 0) ?_ ?_ rfl rfl ?_ (by omega) ?_ ?_)
            · refine G3.out.1.keep (KT.of_below ?_)
              repeat (first | exact Below.refl _ _ | refine Below.alloc ?_ (by simp <;> omega) _)
            · simp [Addr.add]
            · simp [Addr.add]
            · refine G3.out.2.2.2.below ?_
              repeat (first | exact Below.refl _ _ | refine Below.alloc ?_ (by simp <;> omega) _)
            · have := G3.out.2.2.1.1.size; simp; omega
            intro v' w5 hG5 hgr5
            have hbe : Below w3.heap.size w3 ((w3.alloc (.cells #[.bool nb, .slice bo m ecap] 94)).alloc (.cells #[.bool nb, .slice bo m ecap] 94)) := by
              repeat (first | exact Below.refl _ _ | refine Below.alloc ?_ (by simp <;> omega) _)
            have hrowlt : ∀ j, u7.ownBlock = some j → w.heap.size ≤ j := fun j hj => (G3.out.1.lt j hj).1
            have hFr5 : Fr p w w5 := (G3.out.2.2.1.trans (Fr.of_below hbe)).grown hgr5 hrowlt
            have hRd5 : Rd w5 p s (q1 + 1 + (tks.getD n []).length) := (G3.out.2.1.below hbe).grown hgr5 (fun e => by have := hrowlt p e; omega)
            rw [take_snocI zs n (by have := HL.out.2; omega)] at hG5
            have G5 := Hid.mk (And.intro hG5 (And.intro hRd5 hFr5))
            clear hG5 hRd5 hFr5 hgr5 hbe hrowlt G3
            go_wp2_with fail
            go_roundw
            case rel => exact ⟨0 + 1, _, n + 1, by omega, by go_num, G5.out.1, G5.out.2.1, G5.out.2.2, Hid.mk ⟨by have := HI.out.1; omega, HREM2.out.app⟩⟩
            case measure => simp [intOf]; omega
          · rw [if_neg (fun e => h1 (hsep.1 e)), List.nil_append] at hrem
            obtain ⟨_, _, hrem2⟩ := hrem.cons
            obtain ⟨q1, hq1⟩ : ∃ q1, q1 = q := ⟨_, rfl⟩
            rw [← hq1] at hrem hrem2 hRd
            have HREM1 := Hid.mk hrem
            have HREM2 := Hid.mk hrem2
            have G1 := Hid.mk (And.intro hG (And.intro hRd hFr))
            clear hrem hrem2 hsep hG hRd hFr hq1
            by_cases h2 : row = 0
            · have h3 : decide (0 < row) = false := by simp; omega
              have h4 : decide ((0 : Int) < (row : Int)) = false := by simp; omega
              clear h1 h2
              go_wp2_with fail
              refine (want_ok p s q1 32 32 (tks.getD n [] ++ bodyT c (n + 1) (tks.drop (n + 1))) _ G1.out.2.1 HREM1.out (by omega) rfl).mono ?_
              rintro e w2 ⟨rfl, hRd2, hFr2⟩
              have G2 := Hid.mk (And.intro (G1.out.1.keep hFr2.2) (And.intro hRd2 (G1.out.2.2.trans hFr2)))
              clear hRd2 hFr2 G1
              go_wp2_with fail
              refine (entry_ok p s (q1 + 1) (tks.getD n []) (bodyT c (n + 1) (tks.drop (n + 1))) (zs.getD n 0) _ G2.out.2.1 HREM2.out hs HTN.out.1 (bodyT_stops _ _ _)).mono ?_
              rintro e w3 ⟨x, rfl, hx, hRd3, hFr3⟩
              obtain ⟨nb, bo, m, ecap, rfl⟩ := hx.shape
              have G3 := Hid.mk (And.intro (G2.out.1.keep hFr3.2) (And.intro hRd3 (And.intro (G2.out.2.2.trans hFr3) (hx.mono HTN.out.2))))
              clear hx hRd3 hFr3 G2
              go_wp2_with (at_builtin; refine append_int _ rfl (.tmp 41) (.tmp 43) rfl w.heap.size _ n (zs.take n) L rfl ?_ ⟨_, 0, none⟩ rfl (.bool nb) (.slice bo m ecap) (zs.getD n 0) ?_ ?_ rfl rfl ?_ (by omega) ?_ ?_)
              · refine G3.out.1.keep (KT.of_below ?_)
                repeat (first | exact Below.refl _ _ | refine Below.alloc ?_ (by simp <;> omega) _)
              · simp [Addr.add]
              · simp [Addr.add]
              · refine G3.out.2.2.2.below ?_
                repeat (first | exact Below.refl _ _ | refine Below.alloc ?_ (by simp <;> omega) _)
              · have := G3.out.2.2.1.1.size; simp; omega
              intro v' w5 hG5 hgr5
              have hbe : Below w3.heap.size w3 ((w3.alloc (.cells #[.bool nb, .slice bo m ecap] 94)).alloc (.cells #[.bool nb, .slice bo m ecap] 94)) := by
                repeat (first | exact Below.refl _ _ | refine Below.alloc ?_ (by simp <;> omega) _)
              have hrowlt : ∀ j, u7.ownBlock = some j → w.heap.size ≤ j := fun j hj => (G3.out.1.lt j hj).1
              have hFr5 : Fr p w w5 := (G3.out.2.2.1.trans (Fr.of_below hbe)).grown hgr5 hrowlt
              have hRd5 : Rd w5 p s (q1 + 1 + (tks.getD n []).length) := (G3.out.2.1.below hbe).grown hgr5 (fun e => by have := hrowlt p e; omega)
              rw [take_snocI zs n (by have := HL.out.2; omega)] at hG5
              have G5 := Hid.mk (And.intro hG5 (And.intro hRd5 hFr5))
              clear hG5 hRd5 hFr5 hgr5 hbe hrowlt G3
              go_wp2_with fail
              go_roundw
              case rel => exact ⟨k + 1, _, n + 1, by omega, by go_num, G5.out.1, G5.out.2.1, G5.out.2.2, Hid.mk ⟨by have := HI.out.1; omega, HREM2.out.app⟩⟩
              case measure => simp [intOf]; omega
            · have h3 : ((k : Int) == 0) = false := beq_eq_false_iff_ne.2 (by omega)
              have h4 : 0 < row := by omega
              clear h1 h2
              go_wp2_with fail
              refine (want_ok p s q1 32 32 (tks.getD n [] ++ bodyT c (n + 1) (tks.drop (n + 1))) _ G1.out.2.1 HREM1.out (by omega) rfl).mono ?_
              rintro e w2 ⟨rfl, hRd2, hFr2⟩
              have G2 := Hid.mk (And.intro (G1.out.1.keep hFr2.2) (And.intro hRd2 (G1.out.2.2.trans hFr2)))
              clear hRd2 hFr2 G1
              go_wp2_with fail
              refine (entry_ok p s (q1 + 1) (tks.getD n []) (bodyT c (n + 1) (tks.drop (n + 1))) (zs.getD n 0) _ G2.out.2.1 HREM2.out hs HTN.out.1 (bodyT_stops _ _ _)).mono ?_
              rintro e w3 ⟨x, rfl, hx, hRd3, hFr3⟩
              obtain ⟨nb, bo, m, ecap, rfl⟩ := hx.shape
              have G3 := Hid.mk (And.intro (G2.out.1.keep hFr3.2) (And.intro hRd3 (And.intro (G2.out.2.2.trans hFr3) (hx.mono HTN.out.2))))
              clear hx hRd3 hFr3 G2
              go_wp2_with (at_builtin; refine append_int _ rfl (.tmp 41) (.tmp 43) rfl w.heap.size _ n (zs.take n) L rfl ?_ ⟨_, 0, none⟩ rfl (.bool nb) (.slice bo m ecap) (zs.getD n 0) ?_ ?_ rfl rfl ?_ (by omega) ?_ ?_)
              · refine G3.out.1.keep (KT.of_below ?_)
                repeat (first | exact Below.refl _ _ | refine Below.alloc ?_ (by simp <;> omega) _)
              · simp [Addr.add]
              · simp [Addr.add]
              · refine G3.out.2.2.2.below ?_
                repeat (first | exact Below.refl _ _ | refine Below.alloc ?_ (by simp <;> omega) _)
              · have := G3.out.2.2.1.1.size; simp; omega
              intro v' w5 hG5 hgr5
              have hbe : Below w3.heap.size w3 ((w3.alloc (.cells #[.bool nb, .slice bo m ecap] 94)).alloc (.cells #[.bool nb, .slice bo m ecap] 94)) := by
                repeat (first | exact Below.refl _ _ | refine Below.alloc ?_ (by simp <;> omega) _)
              have hrowlt : ∀ j, u7.ownBlock = some j → w.heap.size ≤ j := fun j hj => (G3.out.1.lt j hj).1
              have hFr5 : Fr p w w5 := (G3.out.2.2.1.trans (Fr.of_below hbe)).grown hgr5 hrowlt
              have hRd5 : Rd w5 p s (q1 + 1 + (tks.getD n []).length) := (G3.out.2.1.below hbe).grown hgr5 (fun e => by have := hrowlt p e; omega)
              rw [take_snocI zs n (by have := HL.out.2; omega)] at hG5
              have G5 := Hid.mk (And.intro hG5 (And.intro hRd5 hFr5))
              clear hG5 hRd5 hFr5 hgr5 hbe hrowlt G3
              go_wp2_with fail
              go_roundw
              case rel => exact ⟨k + 1, _, n + 1, by omega, by go_num, G5.out.1, G5.out.2.1, G5.out.2.2, Hid.mk ⟨by have := HI.out.1; omega, HREM2.out.app⟩⟩
              case measure => simp [intOf]; omega
        · have hke : k = c := by omega
          have HKE := Hid.mk hke
          clear hke
          have hd0 : decide (k < c) = false := by simp; omega
          have G0 := Hid.mk (And.intro hG (And.intro hRd hFr))
          clear hG hRd hFr
          go_wp2_with fail
          go_roundw
          case rel => exact ⟨row + 1, q, n, by omega, by go_num, G0.out.1, G0.out.2.1, G0.out.2.2, Hid.mk ⟨by rw [HI.out.1, HKE.out, Nat.add_mul, Nat.one_mul], HI.out.2⟩⟩
          case measure => simp [intOf]; omega
    · have hre : row = r := by omega
      have HRE := Hid.mk hre
      clear hre
      go_wp2_with fail
      go_ret
      have e1 : n = r * c := by rw [← HRE.out]; exact HI.out.1
      have e2 := HI.out.2
      rw [e1, List.drop_of_length_le (by have := HL.out.1; omega)] at e2
      have e3 := e2.nil
      obtain ⟨g1, g2, g3⟩ := H1.out
      rw [e3] at g2
      rw [e1, List.take_of_length_le (by have := HL.out.2; omega)] at g1
      exact ⟨_, rfl, g1.grid, g2, g3⟩
end Go.Proofs.YtfjbijpagaipnaaGreatDoor

/- grid.FromCells. -/
namespace Go.Proofs.YtfjbijpagaipnaaGreatDoor
open Go.RowKit

theorem run_copy_two (w : World) (ty : TypeId) (g n cap : Nat) (ad : Addr) (cur : Array Value) (cs : List Value) (hg : w.heap[g]? = some (.cells cur 94 (0, 0))) (hc : cur.size = n * 2) (hn : cs.length = n * 2)
    (hsrc : ∀ j v, cs[j]? = some v → w.cell? (ad.add j) = some v) (h1 : ∀ v ∈ cs, v.oneCell' = true) :
    (Builtin.copy_ #[74, 74] ty #[.slice (some ⟨g, 0, none⟩) n n, .slice (some ad) n cap]).run Tryz.prog w = .ok (goInt n) (w.setRow g cs.toArray) := by
  obtain ⟨i, hi, hz0, hz1, hz2⟩ := info_parts Tryz.info94
  have hf := run_firstCells_some (P := Tryz.prog) w 2 n ad n cap cs hn hsrc
  have hst := run_storeCells_at Tryz.prog g 0 94 cs 0 cur w hg (by omega) h1
  simp only [Nat.add_zero, Nat.zero_add, List.take_zero, List.nil_append] at hst
  rw [List.drop_of_length_le (by rw [Array.length_toList]; omega), List.append_nil] at hst
  simp [Builtin.copy_, run_underlying Tryz.underlying74, Builtin.lenOf, sizeOf, typeInfo, hi, hz1, hf, hst]
theorem run_copy_zero (w : World) (ty : TypeId) (g : Nat) :
    (Builtin.copy_ #[74, 74] ty #[.slice (some ⟨g, 0, none⟩) 0 0, .slice none 0 0]).run Tryz.prog w = .ok (goInt 0) w := by
  obtain ⟨i, hi, hz0, hz1, hz2⟩ := info_parts Tryz.info94
  simp [Builtin.copy_, run_underlying Tryz.underlying74, Builtin.lenOf, sizeOf, typeInfo, hi, Builtin.firstCells, storeCells]
/-- 'copy(m.cells, cells)'. -/
theorem copy_ints (w : World) {ops : Array Oper} {rest : List Oper} {o : Oper} {a : Act} {Q : Exit → Act → World → Prop} (hgd : o.guard = none) (d s : Operand)
    (ho : o.op = .call { callee := .builtin .copy, args := #[d, s], argTypes := #[74, 74] }) (g n : Nat) (sv : Value) (ys zs : List Int) (M L : Nat)
    (hd : a.eval d = .slice (some ⟨g, 0, none⟩) n n) (hs : a.eval s = sv) (hgr : Grid w (.slice (some ⟨g, 0, none⟩) n n) n ys M) (hsv : Grid w sv n zs L)
    (hK : ∀ w', Grid w' (.slice (some ⟨g, 0, none⟩) n n) n zs L → w.grownBy w' (some g) → wpList Tryz.prog ops Q rest (a.put o.dst (goInt n)) w') : wpList Tryz.prog ops Q (o :: rest) a w := by
  refine wpList_plain hgd fun K hK' => ?_
  have hty := hgr.ty
  obtain ⟨h0, cs0, h1, h2⟩ := hgr
  rcases h1.2 with ⟨h3, _⟩ | ⟨g', cap', cur, hv, hgg, hh, r1, r2, r3, r4⟩
  · simp at h3
  simp only [Value.slice.injEq, Option.some.injEq, Addr.mk.injEq, and_true, true_and] at hv
  obtain ⟨rfl, rfl⟩ := hv
  obtain ⟨k0, cs, k1, k2⟩ := hsv
  rcases k1.2 with ⟨rfl, hn⟩ | ⟨gs, cap, cur2, rfl, hgs, hh2, q1, q2, q3, q4⟩
  · subst hn
    have hrun := run_copy_zero w o.type g
    unfold Oper.wp
    simp [execOp, ho, resolve, invoke, builtin, hd, hs, hrun, Result.andThen]
    exact hK' _ _ (hK w ⟨k0, cs0, h1, fun i hi => by omega⟩ (World.grownBy.refl _ _))
  · have hone : ∀ v ∈ cs, v.oneCell' = true := by
      intro v hv
      obtain ⟨j, hj, hjv⟩ := List.getElem_of_mem hv
      have hl : cs.length = n * 2 := k1.1
      obtain ⟨x, y, e1, e2, e3⟩ := k2 (j / 2) (by omega)
      obtain ⟨nb, ao', m', c', e4⟩ := e3.shape
      simp only [Value.agg.injEq, Array.mk.injEq, List.cons.injEq, and_true] at e4
      have hj' : cs[j]? = some v := by rw [List.getElem?_eq_getElem hj, hjv]
      rcases (show j = 2 * (j / 2) ∨ j = 2 * (j / 2) + 1 from by omega) with hjj | hjj
      · rw [hjj, e1] at hj'; injection hj' with hj'; rw [← hj', e4.1]; rfl
      · rw [hjj, e2] at hj'; injection hj' with hj'; rw [← hj', e4.2]; rfl
    have hrun := run_copy_two w o.type g n cap ⟨gs, 0, none⟩ cur cs hh r3 k1.1 (fun j v hj => World.ownsRow.cells k1 rfl j v hj) hone
    unfold Oper.wp
    simp [execOp, ho, resolve, invoke, builtin, hd, hs, hrun, Result.andThen]
    have hgrow : w.grownBy (w.setRow g cs.toArray) (some g) := ⟨rfl, rfl, rfl, by simp [World.setRow], fun k _ hne => setRow_other w g k _ (fun e => hne (by simp [e]))⟩
    have hku : KU w (w.setRow g cs.toArray) := KU.grown hgrow (fun k hk => by simp at hk; subst hk; exact hty)
    refine hK' _ _ (hK _ ⟨k0, cs, ⟨k1.1, .inr ⟨g, n, cs.toArray, rfl, Nat.zero_le _, setRow_heap w g _ _ _ _ hh, Nat.le_refl _, r2, by simpa using k1.1, ?_⟩⟩, fun i hi => ?_⟩ hgrow)
    · rw [List.take_of_length_le (by simp [k1.1])]
    · obtain ⟨x, y, e1, e2, e3⟩ := k2 i hi
      exact ⟨x, y, e1, e2, e3.keep hku⟩

set_option maxRecDepth 100000 in
set_option maxHeartbeats 2000000 in
theorem fromCells_new (r c : Nat) (sv : Value) (zs : List Int) (L : Nat) (w : World) (hr : r ≤ 99) (hc : c ≤ 99) (hg : Grid w sv (r * c) zs L) :
    Calls Tryz.prog 77 #[.int .i64 r, .int .i64 c, sv] w fun e w' => ∃ g, e = .returned (.agg #[.int .i64 r, .int .i64 c, .slice (some ⟨g, 0, none⟩) (r * c) (r * c)]) ∧ w.heap.size ≤ g ∧ Grid w' (.slice (some ⟨g, 0, none⟩) (r * c) (r * c)) (r * c) zs L ∧ Below w.heap.size w w' := by
  obtain ⟨ao, cap, rfl, -⟩ := hg.shape
  have HG := Hid.mk hg
  clear hg
  go_enter Tryz.func77, Tryz.ntmps77
  go_wp2_with fail
  refine (noughts_any r c _ hr hc).mono ?_
  rintro e w2 ⟨g, rfl, hgn, hg2, hb2⟩
  obtain ⟨hc2, hf2⟩ := bcell hb2
  have hsz2 : w.heap.size < w2.heap.size := by have := hb2.size; simp at this; omega
  have hgl : g < w2.heap.size := hg2.ty.lt
  have hgn2 : w.heap.size + 1 ≤ g := by simpa using hgn
  have hbw : Below w.heap.size w w2 := by
    refine Below.trans ?_ (hb2.mono (by simp <;> omega))
    repeat (first | exact Below.refl _ _ | refine Below.alloc ?_ (by simp <;> omega) _)
  have hres : w2.heap[w.heap.size]? = some (.cells #[.int .i64 0, .int .i64 0, .slice none 0 0] 76 (0, 0)) := by
    rw [hb2.block _ (by simp)]; exact heap_alloc_new w _
  have H2 := Hid.mk (And.intro hg2 (And.intro hbw hres))
  clear hgn hg2 hb2 hbw hres hc2 hf2
  go_wp2_with (refine copy_ints _ rfl (.tmp 12) (.tmp 13) rfl g (r * c) _ (List.replicate (r * c) 0) zs 0 L rfl rfl ?_ ?_ ?_)
  · exact H2.out.1.below ((Below.refl _ _).alloc (Nat.le_refl _) _)
  · exact (HG.out.below H2.out.2.1).below ((Below.refl _ _).alloc (Nat.le_refl _) _)
  intro w3 hg3 hgr3
  obtain ⟨W2, hW2⟩ : ∃ W2, W2 = w2.alloc (.cells #[.int .i64 r, .int .i64 c, .slice (some ⟨g, 0, none⟩) (r * c) (r * c)] 76) := ⟨_, rfl⟩
  rw [← hW2] at hgr3
  have p0 : W2.cell? ⟨w2.heap.size, 0, none⟩ = some (.int .i64 r) := by rw [hW2]; simp
  have p1 : W2.cell? ⟨w2.heap.size, 1, none⟩ = some (.int .i64 c) := by rw [hW2]; simp
  have p2 : W2.cell? ⟨w2.heap.size, 2, none⟩ = some (.slice (some ⟨g, 0, none⟩) (r * c) (r * c)) := by rw [hW2]; simp
  have q0 := hgr3.cell p0 (by simp; omega)
  have q1 := hgr3.cell p1 (by simp; omega)
  have q2 := hgr3.cell p2 (by simp; omega)
  have hW2s : W2.heap.size = w2.heap.size + 1 := by rw [hW2]; simp
  have hres3 : w3.heap[w.heap.size]? = some (.cells #[.int .i64 0, .int .i64 0, .slice none 0 0] 76 (0, 0)) := by
    rw [hgr3.block _ (by omega) (by simp; omega), hW2, Below.heap_alloc _ _ _ (by omega)]; exact H2.out.2.2
  have hB3 : Below w.heap.size w w3 := by
    have h1 : Below w.heap.size w W2 := by rw [hW2]; exact H2.out.2.1.alloc (by omega) _
    exact h1.grown hgr3 (by omega) (fun j hj => by simp at hj; omega)
  have r0 : w3.cell? ⟨w.heap.size, 0, none⟩ = some (.int .i64 0) := by simp [World.cell?, hres3]
  have r1 : w3.cell? ⟨w.heap.size, 1, none⟩ = some (.int .i64 0) := by simp [World.cell?, hres3]
  have r2 : w3.cell? ⟨w.heap.size, 2, none⟩ = some (.slice none 0 0) := by simp [World.cell?, hres3]
  have z0 : w3.frozen? ⟨w.heap.size, 0, none⟩ = false := by simp [World.frozen?, hres3]
  have z1 : w3.frozen? ⟨w.heap.size, 1, none⟩ = false := by simp [World.frozen?, hres3]
  have z2 : w3.frozen? ⟨w.heap.size, 2, none⟩ = false := by simp [World.frozen?, hres3]
  have HT : Hid (Ty w3 w.heap.size 76) := Hid.mk ⟨_, _, hres3⟩
  have H3 := Hid.mk (And.intro hg3 hB3)
  clear hg3 hB3 hgr3 hres3 p0 p1 p2 hW2 hW2s H2 HG
  go_wp2_with fail
  refine bodyPost_ret (v := .agg #[.int .i64 r, .int .i64 c, .slice (some ⟨g, 0, none⟩) (r * c) (r * c)]) ?_ rfl ?_
  · (simp [results, Tryz.results77, go_sem, r0, r1, r2]; done)
  · refine ⟨g, rfl, by omega, H3.out.1.keep (KT.setCell (KT.setCell (KT.setCell (KT.refl _) HT.out (by decide) (by decide) _) (HT.out.setCell _ _) (by decide) (by decide) _) ((HT.out.setCell _ _).setCell _ _) (by decide) (by decide) _), ?_⟩
    exact ((H3.out.2.setCell (Nat.le_refl _) _).setCell (Nat.le_refl _) _).setCell (Nat.le_refl _) _
theorem fromCells_any (r c : Nat) (sv : Value) (zs : List Int) (L : Nat) (w : World) (hr : r ≤ 99) (hc : c ≤ 99) (hg : Grid w sv (r * c) zs L) :
    Calls Tryz.prog 77 #[.int .i64 r, .int .i64 c, sv] w fun e w' => ∃ x, e = .returned x ∧ IsM w' x r c zs L ∧ Below w.heap.size w w' := by
  refine (fromCells_new r c sv zs L w hr hc hg).mono ?_
  rintro e w' ⟨g, rfl, -, h2, h3⟩
  exact ⟨_, rfl, ⟨hr, hc, _, rfl, h2⟩, h3⟩
end Go.Proofs.YtfjbijpagaipnaaGreatDoor

/- notation.Read of a text that writes a matrix. -/
namespace Go.Proofs.YtfjbijpagaipnaaGreatDoor
open Go.RowKit

theorem Fr.below {p B : Nat} {a b : World} (h : Fr p a b) (hp : B ≤ p) (hB : B ≤ a.heap.size) : Below B a b := ⟨h.1.os, h.1.tape, h.1.output, h.1.size, fun k hk => h.1.block k (by omega) (by simp; omega)⟩
/-- The text s writes the matrix of r rows, c columns, entries zs; no entry has more than L signs. -/
def Writes (s : ByteArray) (r c : Nat) (zs : List Int) (L : Nat) : Prop := ∃ dr dc tks, s.data.toList = dr ++ (120 :: (dc ++ (58 :: bodyT c 0 tks))) ∧ Run dr ∧ Run dc ∧ decval dr = r ∧ decval dc = c ∧ tks.length = r * c ∧ zs.length = r * c ∧
  ∀ t, t < r * c → Tok (tks.getD t []) (zs.getD t 0) ∧ (tks.getD t []).length ≤ L
theorem stops_x (l : List UInt8) : Stops (120 :: l) := .inr ⟨120, l, rfl, .inr (by decide)⟩
theorem stops_colon (l : List UInt8) : Stops (58 :: l) := .inr ⟨58, l, rfl, .inr (by decide)⟩

set_option maxRecDepth 100000 in
set_option maxHeartbeats 4000000 in
theorem read_ok (s : ByteArray) (r c : Nat) (zs : List Int) (L : Nat) (w : World) (hs : s.size ≤ 4000) (hr : r ≤ 99) (hc : c ≤ 99) (hw : Writes s r c zs L) :
    Calls Tryz.prog 74 #[.string s] w fun e w' => ∃ x, e = .returned (.tuple #[x, .bool true]) ∧ IsM w' x r c zs L ∧ Below w.heap.size w w' := by
  obtain ⟨dr, dc, tks, htext, hdr, hdc, hvr, hvc, hl1, hl2, htok⟩ := hw
  obtain ⟨p, hp⟩ : ∃ p, p = w.heap.size + 1 := ⟨_, rfl⟩
  have hR0 : Rd ((w.alloc (.cells #[.int .i64 0, .int .i64 0, .slice none 0 0] 76)).alloc (.cells #[.string s, .int .i64 0, .bool false] 157)) p s 0 := by
    have := heap_alloc_new (w.alloc (.cells #[.int .i64 0, .int .i64 0, .slice none 0 0] 76)) (.cells #[.string s, .int .i64 0, .bool false] 157)
    rw [hp]
    simpa [Rd] using this
  have hrem0 : Rem s 0 (dr ++ (120 :: (dc ++ (58 :: bodyT c 0 tks)))) := ⟨Nat.zero_le _, by simpa using htext⟩
  have HREM := Hid.mk hrem0
  have HD := Hid.mk (And.intro hdr hdc)
  have HV := Hid.mk (And.intro hvr hvc)
  have HT := Hid.mk (And.intro hl1 (And.intro hl2 htok))
  have HP := Hid.mk hp
  have HR0 := Hid.mk hR0
  clear htext hdr hdc hvr hvc hl1 hl2 htok hrem0 hR0
  go_enter Tryz.func74, Tryz.ntmps74
  go_wp2_with fail
  rw [← HP.out]
  obtain ⟨W0, hW0⟩ : ∃ W0, W0 = (w.alloc (.cells #[.int .i64 0, .int .i64 0, .slice none 0 0] 76)).alloc (.cells #[.string s, .int .i64 0, .bool false] 157) := ⟨_, rfl⟩
  rw [← hW0] at HR0 ⊢
  have hB0 : Below w.heap.size w W0 := by
    rw [hW0]
    repeat (first | exact Below.refl _ _ | refine Below.alloc ?_ (by simp <;> omega) _)
  have hres : W0.heap[w.heap.size]? = some (.cells #[.int .i64 0, .int .i64 0, .slice none 0 0] 76 (0, 0)) := by
    rw [hW0, Below.heap_alloc _ _ _ (by simp)]; exact heap_alloc_new w _
  have hS0 : W0.heap.size = w.heap.size + 2 := by rw [hW0]; simp
  have H0 := Hid.mk (And.intro hB0 (And.intro hres hS0))
  clear hB0 hres hS0 hW0
  have hpw : w.heap.size < p := by omega
  clear hp
  refine (side_ok p s 0 dr _ _ HR0.out HREM.out hs HD.out.1 (stops_x _) (by have := HV.out.1; omega)).mono ?_
  rintro e w1 ⟨rfl, hR1, hF1⟩
  rw [HV.out.1]
  have K1 := Hid.mk (And.intro hR1 hF1)
  have hrem1 := HREM.out.app
  have HREM1 := Hid.mk hrem1
  clear hR1 hF1 hrem1
  go_wp2_with fail
  refine (want_ok p s _ 120 120 _ _ K1.out.1 HREM1.out (by omega) rfl).mono ?_
  rintro e w2 ⟨rfl, hR2, hF2⟩
  have K2 := Hid.mk (And.intro hR2 (K1.out.2.trans hF2))
  obtain ⟨_, _, hrem2⟩ := HREM1.out.cons
  have HREM2 := Hid.mk hrem2
  clear hR2 hF2 hrem2 K1
  go_wp2_with fail
  refine (side_ok p s _ dc _ _ K2.out.1 HREM2.out hs HD.out.2 (stops_colon _) (by have := HV.out.2; omega)).mono ?_
  rintro e w3 ⟨rfl, hR3, hF3⟩
  rw [HV.out.2]
  have K3 := Hid.mk (And.intro hR3 (K2.out.2.trans hF3))
  have hrem3 := HREM2.out.app
  have HREM3 := Hid.mk hrem3
  clear hR3 hF3 hrem3 K2
  go_wp2_with fail
  refine (want_ok p s _ 58 58 _ _ K3.out.1 HREM3.out (by omega) rfl).mono ?_
  rintro e w4 ⟨rfl, hR4, hF4⟩
  have K4 := Hid.mk (And.intro hR4 (K3.out.2.trans hF4))
  obtain ⟨_, _, hrem4⟩ := HREM3.out.cons
  have HREM4 := Hid.mk hrem4
  clear hR4 hF4 hrem4 K3
  go_wp2_with fail
  refine (entries_ok p s _ r c tks zs L _ K4.out.1 HREM4.out hs hr hc HT.out.1 HT.out.2.1 HT.out.2.2).mono ?_
  rintro e w5 ⟨v, rfl, hG5, hR5, hF5⟩
  obtain ⟨c0, c1, c2, c3, c4⟩ := hR5.cells
  have K5 := Hid.mk (And.intro hG5 (And.intro hR5 (K4.out.2.trans hF5)))
  clear hG5 hR5 hF5 K4
  have hne : ((s.size : Int) != (s.size : Int)) = false := by simp
  go_wp2_with fail
  refine (fromCells_any r c v zs L _ hr hc K5.out.1).mono ?_
  rintro e w6 ⟨x, rfl, hx, hb6⟩
  have hres6 : w6.heap[w.heap.size]? = some (.cells #[.int .i64 0, .int .i64 0, .slice none 0 0] 76 (0, 0)) := by
    have h1 := K5.out.2.2.1.size
    have h2 := H0.out.2.2
    rw [hb6.block _ (by omega), K5.out.2.2.1.block _ (by omega) (by simp; omega)]
    exact H0.out.2.1
  have hB6 : Below w.heap.size w w6 := by
    have h1 := H0.out.1
    have h2 : Below w.heap.size W0 w5 := K5.out.2.2.below (by omega) h1.size
    exact (h1.trans h2).trans (hb6.mono (Nat.le_trans h1.size h2.size))
  obtain ⟨_, _, sl, rfl, hg6⟩ := id hx
  obtain ⟨ao, cap, rfl, -⟩ := hg6.shape
  have r0 : w6.cell? ⟨w.heap.size, 0, none⟩ = some (.int .i64 0) := by simp [World.cell?, hres6]
  have r1 : w6.cell? ⟨w.heap.size, 1, none⟩ = some (.int .i64 0) := by simp [World.cell?, hres6]
  have r2 : w6.cell? ⟨w.heap.size, 2, none⟩ = some (.slice none 0 0) := by simp [World.cell?, hres6]
  have z0 : w6.frozen? ⟨w.heap.size, 0, none⟩ = false := by simp [World.frozen?, hres6]
  have z1 : w6.frozen? ⟨w.heap.size, 1, none⟩ = false := by simp [World.frozen?, hres6]
  have z2 : w6.frozen? ⟨w.heap.size, 2, none⟩ = false := by simp [World.frozen?, hres6]
  have HTy : Hid (Ty w6 w.heap.size 76) := Hid.mk ⟨_, _, hres6⟩
  have K6 := Hid.mk (And.intro hg6 hB6)
  clear hg6 hB6 hx hb6 hres6 K5 c0 c1 c2 c3 c4
  go_wp2_with fail
  refine bodyPost_ret (v := .tuple #[.agg #[.int .i64 r, .int .i64 c, .slice ao (r * c) cap], .bool true]) ?_ rfl ?_
  · (simp [results, Tryz.results74, go_sem, r0, r1, r2]; done)
  · refine ⟨_, rfl, ⟨hr, hc, _, rfl, K6.out.1.keep (KT.setCell (KT.setCell (KT.setCell (KT.refl _) HTy.out (by decide) (by decide) _) (HTy.out.setCell _ _) (by decide) (by decide) _) ((HTy.out.setCell _ _).setCell _ _) (by decide) (by decide) _)⟩, ?_⟩
    exact ((K6.out.2.setCell (Nat.le_refl _) _).setCell (Nat.le_refl _) _).setCell (Nat.le_refl _) _
end Go.Proofs.YtfjbijpagaipnaaGreatDoor
