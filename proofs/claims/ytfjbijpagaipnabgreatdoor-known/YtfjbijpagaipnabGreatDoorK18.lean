import Derived.Test.YtfjbijpagaipnabGreatDoorK17
import Derived.Test.YtfjbijpagaipnabGreatDoorK15
import Derived.Test.YtfjbijpagaipnabGreatDoorK16
import Derived.Deep.CutRange
import Derived.Deep.RegionWith
namespace Go.Proofs.YtfjbijpagaipnabGreatDoor
open Go.RowKit
theorem Rb.grown {w w' : World} {p : Nat} {s : ByteArray} {q : Nat} {bad : Bool} {row : Option Nat} (h : Rb w p s q bad) (hg : w.grownBy w' row) (hne : row ≠ some p) : Rb w' p s q bad := by
 unfold Rb; rw [hg.block p h.lt (fun e => hne e.symm)]; exact h
theorem Rem.uniq {s : ByteArray} {q : Nat} {l l' : List UInt8} (h : Rem s q l) (h' : Rem s q l') : l = l' := by rw [← h.2, h'.2]
def Took (s : ByteArray) (a c : Nat) (zs : List Int) (q : Nat) : Prop := ∃ tks l, tks.length = zs.length ∧ (∀ t, t < zs.length → Tok (tks.getD t []) (zs.getD t 0) ∧ (tks.getD t []).length ≤ 4000) ∧ Rem s a (bodyT c 0 tks ++ l) ∧ q = a + (bodyT c 0 tks).length
theorem Took.start (s : ByteArray) (a c : Nat) (ha : a ≤ s.size) : Took s a c [] a := ⟨[], s.data.toList.drop a, rfl, (fun t ht => absurd ht (Nat.not_lt_zero _)), by simpa [bodyT] using Rem.rest s a ha, by simp [bodyT]⟩
theorem Took.next {s : ByteArray} {a c row k q q1 : Nat} {zs : List Int} {z : Int} {tk l l2 : List UInt8} (h : Took s a c zs q) (hs : s.size ≤ 4000) (hk : k < c) (hn : zs.length = row * c + k)
 (h1 : if 0 < row ∧ k = 0 then q1 = q + 1 ∧ ∃ l, Rem s q (59 :: l) else q1 = q) (h2 : Rem s q1 (32 :: l2)) (h3 : Rem s (q1 + 1) (tk ++ l)) (ht : Tok tk z) : Took s a c (zs ++ [z]) (q1 + 1 + tk.length) := by
 obtain ⟨tks, l0, e1, e2, e3, e4⟩ := h
 have hq : Rem s q l0 := by rw [e4]; exact e3.app
 have htl : tk.length ≤ 4000 := by have := h3.app.1; omega
 have e5 : l2 = tk ++ l := by
  obtain ⟨_, _, h4⟩ := h2.cons
  exact h4.uniq h3
 have e6 : l0 = (if 0 < row ∧ k = 0 then [59] else []) ++ (32 :: (tk ++ l)) := by
  by_cases hc : 0 < row ∧ k = 0
  ·rw [if_pos hc] at h1 ⊢
   obtain ⟨rfl, l', h5⟩ := h1
   obtain ⟨_, _, h6⟩ := h5.cons
   rw [hq.uniq h5, h6.uniq h2, e5]; rfl
  ·rw [if_neg hc] at h1 ⊢
   subst h1
   rw [hq.uniq h2, e5]; rfl
 have hsnoc := wbody_snoc c tk tks 0
 rw [Nat.zero_add, e1, hn] at hsnoc
 simp only [sep_iff (row := row) hk] at hsnoc
 refine ⟨tks ++ [tk], l, by simp [e1], fun t ht' => ?_, ?_, ?_⟩
 ·by_cases hlt : t < zs.length
  ·have := e2 t hlt
   rw [show (tks ++ [tk]).getD t [] = tks.getD t [] from by simp [List.getD, List.getElem?_append_left (show t < tks.length from by omega)],
    show (zs ++ [z]).getD t 0 = zs.getD t 0 from by simp [List.getD, List.getElem?_append_left hlt]]
   exact this
  ·have hte : t = zs.length := by simp at ht'; omega
   subst hte
   rw [show (tks ++ [tk]).getD zs.length [] = tk from by simp [List.getD, ← e1], show (zs ++ [z]).getD zs.length 0 = z from by simp [List.getD]]
   exact ⟨ht, htl⟩
 ·rw [hsnoc]
  rw [e6] at e3
  simpa [List.append_assoc] using e3
 ·rw [hsnoc]
  have hq1 : q1 = q + (if 0 < row ∧ k = 0 then [(59 : UInt8)] else []).length := by
   by_cases hc : 0 < row ∧ k = 0
   ·rw [if_pos hc] at h1 ⊢; exact h1.1
   ·rw [if_neg hc] at h1 ⊢; exact h1
  simp only [List.length_append, List.length_cons]
  omega
theorem Took.all {s : ByteArray} {a c q : Nat} {zs : List Int} (h : Took s a c zs q) (hq : q = s.size) : ∃ tks, tks.length = zs.length ∧ (∀ t, t < zs.length → Tok (tks.getD t []) (zs.getD t 0) ∧ (tks.getD t []).length ≤ 4000) ∧ Rem s a (bodyT c 0 tks) := by
 obtain ⟨tks, l, e1, e2, e3, e4⟩ := h
 refine ⟨tks, e1, e2, ?_⟩
 have h1 := e3.app
 rw [← e4, hq] at h1
 have : l = [] := by
  have h2 := h1.2
  rw [List.drop_of_length_le (by simp)] at h2
  exact h2.symm
 rw [this, List.append_nil] at e3
 exact e3
def EntsOut (p : Nat) (s : ByteArray) (a r c : Nat) (bad : Bool) (w w' : World) (v : Value) : Prop := (∃ (zs : List Int) (q' : Nat) (bad' : Bool), Grid w' v zs.length zs 4000 ∧ Rb w' p s q' bad' ∧ q' ≤ s.size ∧ (bad' = false → bad = false ∧ zs.length = r * c ∧ Took s a c zs q')) ∧ Fr p w w'
set_option maxRecDepth 100000 in
set_option maxHeartbeats 8000000 in
theorem entries_any (p : Nat) (s : ByteArray) (a r c : Nat) (bad : Bool) (w : World) (h : Rb w p s a bad) (ha : a ≤ s.size) (hs : s.size ≤ 4000) (hrr : r ≤ 99) (hcc : c ≤ 99) :
 Calls Tryz.prog 57 #[.pointer (some ⟨p, 0, none⟩), .int .i64 r, .int .i64 c] w fun e w' => ∃ v, e = .returned v ∧ EntsOut p s a r c bad w w' v := by
 have H := Hid.mk h
 have hpl := h.lt
 have hrc : r * c ≤ 9801 := Nat.mul_le_mul hrr hcc
 have HRC := Hid.mk hrc
 clear h hrc
 go_enter Tryz.func57, Tryz.ntmps57
 go_wp2_with fail
 go_loopw [7, 8] (fun v i wr => ∃ (row q n : Nat) (zs : List Int) (bd : Bool), row ≤ r ∧ i = .int .i64 row ∧ GridB w.heap.size wr v n zs 4000 ∧ Rb wr p s q bd ∧ q ≤ s.size ∧ Fr p w wr ∧ Hid (zs.length = n ∧ n ≤ row * c ∧ (bd = false → bad = false ∧ n = row * c ∧ Took s a c zs q))) (fun _ i _ => r - (intOf i).toNat)
 case atStart =>
  refine ⟨0, a, 0, [], bad, Nat.zero_le _, rfl, ⟨rfl, [], ?_, fun i hi => by omega⟩, H.out.below ((Below.refl _ _).alloc (Nat.le_refl _) _), ha, Fr.of_below ((Below.refl _ _).alloc (Nat.le_refl _) _), Hid.mk ⟨rfl, Nat.zero_le _, fun e => ⟨e, by simp, Took.start s a c ha⟩⟩⟩
  have := World.ownsRow_lit (base := w.heap.size) (e := 79) (size := 2) w #[] 0 (Nat.le_refl _) (by simp [maxLen]) rfl
  simpa using this
 case round =>
  rename World => wr0
  obtain ⟨row, q, n, zs, bd, hrow, rfl, hG, hRd, hq, hFr, HI⟩ := hrel
  have H1 := Hid.mk (And.intro hG (And.intro hRd hFr))
  clear hG hRd hFr
  by_cases hrw : row < r
  ·go_wp2_with fail
   go_loopw [7, 9] (fun v i ws => ∃ (k q n : Nat) (zs : List Int) (bd : Bool), k ≤ c ∧ i = .int .i64 k ∧ GridB w.heap.size ws v n zs 4000 ∧ Rb ws p s q bd ∧ q ≤ s.size ∧ Fr p w ws ∧ Hid (zs.length = n ∧ n ≤ row * c + k ∧ (bd = false → bad = false ∧ n = row * c + k ∧ Took s a c zs q))) (fun _ i _ => c - (intOf i).toNat)
   case atStart => exact ⟨0, q, n, zs, bd, Nat.zero_le _, rfl, H1.out.1, H1.out.2.1, hq, H1.out.2.2, HI⟩
   case round =>
    clear H1 HI hq
    obtain ⟨k, q, n, zs, bd, hk, rfl, hG, hRd, hq, hFr, HI⟩ := hrel
    obtain ⟨c0, c1, c2, c3, c4⟩ := hRd.cells
    have G0 := Hid.mk (And.intro hG (And.intro hRd hFr))
    clear hG hRd hFr
    by_cases hkc : k < c
    ·cases bd
     ·have hnlt : n < r * c := by
       have h1 := HI.out.2.1
       have := idx_lt hrw hkc
       omega
      have hn9 : n ≤ 9801 := by have := HRC.out; omega
      obtain ⟨kk, hkk⟩ : ∃ kk, kk = k := ⟨_, rfl⟩
      have HKK := Hid.mk hkk
      have HKC : Hid (kk < c) := Hid.mk (by rw [hkk]; exact hkc)
      clear hkk
      have hcases : row = 0 ∨ (0 < row ∧ k = 0) ∨ (0 < row ∧ 0 < k) := by omega
      rcases hcases with h0 | ⟨h0, h1⟩ | ⟨h0, h1⟩
      case' inl =>
       have f1 : decide (0 < row) = false := decide_eq_false (by omega)
       have f2 : decide ((0 : Int) < (row : Int)) = false := decide_eq_false (by omega)
       have H00 := Hid.mk h0
       clear h0
       obtain ⟨q1, hq1⟩ : ∃ q1, q1 = q := ⟨_, rfl⟩
       obtain ⟨bd1, hbd1⟩ : ∃ bd1 : Bool, bd1 = false := ⟨_, rfl⟩
       have hq1s : q1 ≤ s.size := by rw [hq1]; exact hq
       have HSEP : Hid (bd1 = false → if 0 < row ∧ kk = 0 then q1 = q + 1 ∧ ∃ l, Rem s q (59 :: l) else q1 = q) := Hid.mk fun _ => by rw [if_neg (by have := HKK.out; have := H00.out; omega)]; exact hq1
       have G1 : Hid (GridB w.heap.size wr u7 n zs 4000 ∧ Rb wr p s q1 bd1 ∧ Fr p w wr) := Hid.mk (by rw [hq1, hbd1]; exact G0.out)
       clear hq1 hbd1
       go_wp2_with fail
      case' inr.inl =>
       subst h1
       go_wp2_with fail
       refine (want_any p s q false 59 _ G0.out.2.1 hq (by omega)).mono ?_
       rintro e w1 ⟨rfl, ⟨q1, bd1, hR1, hq1s, hb1⟩, hF1⟩
       have HSEP : Hid (bd1 = false → if 0 < row ∧ kk = 0 then q1 = q + 1 ∧ ∃ l, Rem s q (59 :: l) else q1 = q) := Hid.mk fun e => by rw [if_pos ⟨h0, HKK.out⟩]; exact (hb1 e).2
       have G1 := Hid.mk (And.intro (G0.out.1.keep hF1.2) (And.intro hR1 (G0.out.2.2.trans hF1)))
       clear hR1 hF1 hb1 c0 c1 c2 c3 c4
       go_wp2_with fail
      case' inr.inr =>
       have f1 : ((k : Int) == 0) = false := beq_eq_false_iff_ne.2 (by omega)
       obtain ⟨q1, hq1⟩ : ∃ q1, q1 = q := ⟨_, rfl⟩
       obtain ⟨bd1, hbd1⟩ : ∃ bd1 : Bool, bd1 = false := ⟨_, rfl⟩
       have hq1s : q1 ≤ s.size := by rw [hq1]; exact hq
       have HSEP : Hid (bd1 = false → if 0 < row ∧ kk = 0 then q1 = q + 1 ∧ ∃ l, Rem s q (59 :: l) else q1 = q) := Hid.mk fun _ => by rw [if_neg (by have := HKK.out; omega)]; exact hq1
       have G1 : Hid (GridB w.heap.size wr u7 n zs 4000 ∧ Rb wr p s q1 bd1 ∧ Fr p w wr) := Hid.mk (by rw [hq1, hbd1]; exact G0.out)
       clear hq1 hbd1
       go_wp2_with fail
      all_goals
       clear G0
       refine (want_any p s q1 bd1 32 _ G1.out.2.1 hq1s (by omega)).mono ?_
       rintro e w2 ⟨rfl, ⟨q2, bd2, hR2, hq2s, hb2⟩, hF2⟩
       have G2 := Hid.mk (And.intro (G1.out.1.keep hF2.2) (And.intro hR2 (And.intro (G1.out.2.2.trans hF2) hb2)))
       clear hR2 hF2 hb2 G1
       go_wp2_with fail
       refine (entry_any p s q2 bd2 _ G2.out.2.1 hq2s hs).mono ?_
       rintro e w3 ⟨x, rfl, ⟨z, q3, bd3, hx, hR3, hq3s, hb3⟩, hF3⟩
       obtain ⟨nb, bo, m, ecap, rfl⟩ := hx.shape
       have G3 := Hid.mk (And.intro (G2.out.1.keep hF3.2) (And.intro hR3 (And.intro (G2.out.2.2.1.trans hF3) (And.intro hx (And.intro hb3 G2.out.2.2.2)))))
       clear hx hR3 hF3 G2 hb3
       go_wp2_with (at_builtin; refine append_int _ rfl (.tmp 41) (.tmp 43) rfl w.heap.size _ n zs 4000 rfl ?_ ⟨_, 0, none⟩ rfl (.bool nb) (.slice bo m ecap) z ?_ ?_ rfl rfl ?_ (by omega) ?_ ?_)
       ·refine G3.out.1.keep (KT.of_below ?_)
        repeat (first | exact Below.refl _ _ | refine Below.alloc ?_ (by simp <;> omega) _)
       ·simp [Addr.add]
       ·simp [Addr.add]
       ·refine G3.out.2.2.2.1.below ?_
        repeat (first | exact Below.refl _ _ | refine Below.alloc ?_ (by simp <;> omega) _)
       ·have := G3.out.2.2.1.1.size; simp; omega
       intro v' w5 hG5 hgr5
       have hbe : Below w3.heap.size w3 ((w3.alloc (.cells #[.bool nb, .slice bo m ecap] 79)).alloc (.cells #[.bool nb, .slice bo m ecap] 79)) := by
        repeat (first | exact Below.refl _ _ | refine Below.alloc ?_ (by simp <;> omega) _)
       have hrowlt : ∀ j, u7.ownBlock = some j → w.heap.size ≤ j := fun j hj => (G3.out.1.lt j hj).1
       have hFr5 : Fr p w w5 := (G3.out.2.2.1.trans (Fr.of_below hbe)).grown hgr5 hrowlt
       have hRd5 : Rb w5 p s q3 bd3 := (G3.out.2.1.below hbe).grown hgr5 (fun e => by have := hrowlt p e; omega)
       have G5 := Hid.mk (And.intro hG5 (And.intro hRd5 hFr5))
       have HNX : Hid ((zs ++ [z]).length = n + 1 ∧ n + 1 ≤ row * c + (kk + 1) ∧ (bd3 = false → bad = false ∧ n + 1 = row * c + (kk + 1) ∧ Took s a c (zs ++ [z]) q3)) := Hid.mk (by
        have hkk := HKK.out
        obtain ⟨i1, i2, i3⟩ := HI.out
        obtain ⟨_, _, _, _, b3, b2⟩ := G3.out
        refine ⟨by simp [i1], by omega, fun e => ?_⟩
        obtain ⟨e2, tk, l, h6, -, h7, h8⟩ := b3 e
        obtain ⟨e1, h9, l2, h10⟩ := b2 e2
        obtain ⟨j1, j2, j3⟩ := i3 (by first | rfl | trivial)
        refine ⟨j1, by omega, ?_⟩
        rw [h8, h9]
        rw [h9] at h6
        exact j3.next hs HKC.out (by omega) (HSEP.out e1) h10 h6 h7)
       have HNX2 := HNX.out
       rw [HKK.out] at HNX2
       replace HNX := Hid.mk HNX2
       clear HNX2
       clear hG5 hRd5 hFr5 hgr5 hbe hrowlt G3
       go_wp2_with fail
       go_roundw
       case rel => first | exact ⟨k + 1, q3, n + 1, zs ++ [z], bd3, by omega, by go_num, G5.out.1, G5.out.2.1, hq3s, G5.out.2.2, HNX⟩ | exact ⟨0 + 1, q3, n + 1, zs ++ [z], bd3, by omega, by go_num, G5.out.1, G5.out.2.1, hq3s, G5.out.2.2, HNX⟩
       case measure => simp [intOf]; omega
     ·have hki : (k : Int) < (c : Int) := by omega
      go_wp2_with fail
      go_roundw
      case rel => exact ⟨row + 1, q, n, zs, true, by omega, by go_num, G0.out.1, G0.out.2.1, hq, G0.out.2.2, Hid.mk ⟨HI.out.1, by have := HI.out.2.1; rw [Nat.add_mul, Nat.one_mul]; omega, (fun e => by cases e)⟩⟩
      case measure => simp [intOf]; omega
    ·have hke : k = c := by omega
     have HKE := Hid.mk hke
     clear hke
     have hd0 : decide (k < c) = false := by simp; omega
     have hd1 : decide ((k : Int) < (c : Int)) = false := by simp; omega
     go_wp2_with fail
     go_roundw
     case rel => exact ⟨row + 1, q, n, zs, bd, by omega, by go_num, G0.out.1, G0.out.2.1, hq, G0.out.2.2, Hid.mk ⟨HI.out.1, by have := HI.out.2.1; rw [Nat.add_mul, Nat.one_mul]; omega, fun e => ⟨(HI.out.2.2 e).1, by rw [(HI.out.2.2 e).2.1, HKE.out, Nat.add_mul, Nat.one_mul], (HI.out.2.2 e).2.2⟩⟩⟩
     case measure => simp [intOf]; omega
  ·have hre : row = r := by omega
   have HRE := Hid.mk hre
   clear hre
   go_wp2_with fail
   go_ret
   refine ⟨_, rfl, ⟨zs, q, bd, ?_, H1.out.2.1, hq, fun e => ⟨(HI.out.2.2 e).1, by rw [HI.out.1, (HI.out.2.2 e).2.1, HRE.out], (HI.out.2.2 e).2.2⟩⟩, H1.out.2.2⟩
   rw [HI.out.1]
   exact H1.out.1.grid
open Go.RowKit
theorem Rem.join {s : ByteArray} {q : Nat} {a l : List UInt8} (h : Rem s q (a ++ l)) {b : List UInt8} (h2 : Rem s (q + a.length) b) : l = b := h.app.uniq h2
def ReadOut (s : ByteArray) (w w' : World) (x : Value) (ok : Bool) : Prop := ((ok = true ∧ ∃ r c zs, Writes s r c zs 4000 ∧ IsM w' x r c zs 4000) ∨ (ok = false ∧ x = .agg #[.int .i64 0, .int .i64 0, .slice none 0 0])) ∧ Below w.heap.size w w'
set_option maxRecDepth 100000 in
set_option maxHeartbeats 8000000 in
theorem read_gen (s : ByteArray) (w : World) (hs : s.size ≤ 4000) :
 Calls Tryz.prog 32 #[.string s] w fun e w' => ∃ x ok, e = .returned (.tuple #[x, .bool ok]) ∧ ReadOut s w w' x ok := by
 obtain ⟨p, hp⟩ : ∃ p, p = w.heap.size + 1 := ⟨_, rfl⟩
 have hR0 : Rb ((w.alloc (.cells #[.int .i64 0, .int .i64 0, .slice none 0 0] 66)).alloc (.cells #[.string s, .int .i64 0, .bool false] 106)) p s 0 false := by
  have := heap_alloc_new (w.alloc (.cells #[.int .i64 0, .int .i64 0, .slice none 0 0] 66)) (.cells #[.string s, .int .i64 0, .bool false] 106)
  rw [hp]
  simpa [Rb] using this
 obtain ⟨dr, l1, hsp1, hdr, hst1⟩ := split_digs s.data.toList
 have hrem0 : Rem s 0 (dr ++ l1) := ⟨Nat.zero_le _, by simpa using hsp1⟩
 have HD := Hid.mk (And.intro hrem0 (And.intro hdr hst1))
 have HP := Hid.mk hp
 have HR0 := Hid.mk hR0
 clear hsp1 hdr hst1 hrem0 hR0
 go_enter Tryz.func32, Tryz.ntmps32
 go_wp2_with fail
 rw [← HP.out]
 obtain ⟨W0, hW0⟩ : ∃ W0, W0 = (w.alloc (.cells #[.int .i64 0, .int .i64 0, .slice none 0 0] 66)).alloc (.cells #[.string s, .int .i64 0, .bool false] 106) := ⟨_, rfl⟩
 rw [← hW0] at HR0 ⊢
 have hB0 : Below w.heap.size w W0 := by
  rw [hW0]
  repeat (first | exact Below.refl _ _ | refine Below.alloc ?_ (by simp <;> omega) _)
 have hres : W0.heap[w.heap.size]? = some (.cells #[.int .i64 0, .int .i64 0, .slice none 0 0] 66 (0, 0)) := by
  rw [hW0, Below.heap_alloc _ _ _ (by simp)]; exact heap_alloc_new w _
 have hS0 : W0.heap.size = w.heap.size + 2 := by rw [hW0]; simp
 have H0 := Hid.mk (And.intro hB0 (And.intro hres hS0))
 clear hB0 hres hS0 hW0
 have hpw : w.heap.size < p := by omega
 clear hp
 refine (side_any p s 0 false dr l1 _ HR0.out HD.out.1 hs HD.out.2.1 HD.out.2.2).mono ?_
 rintro e w1 ⟨i1, rfl, ⟨r, hr, rfl, b1, hR1, hb1⟩, hF1⟩
 rw [Nat.zero_add] at hR1
 have hq1 : dr.length ≤ s.size := by have := HD.out.1.app.1; omega
 obtain ⟨q1, hq1e⟩ : ∃ q1, q1 = dr.length := ⟨_, rfl⟩
 rw [← hq1e] at hR1 hq1
 have HQ1 := Hid.mk hq1e
 have K1 := Hid.mk (And.intro hR1 (And.intro hF1 hb1))
 clear hR1 hF1 hb1 hq1e
 go_wp2_with fail
 refine (want_any p s q1 b1 120 _ K1.out.1 hq1 (by omega)).mono ?_
 rintro e w2 ⟨rfl, ⟨q2, b2, hR2, hq2, hb2⟩, hF2⟩
 have K2 := Hid.mk (And.intro hR2 (And.intro (K1.out.2.1.trans hF2) (And.intro hb2 K1.out.2.2)))
 clear hR2 hF2 hb2 K1
 obtain ⟨dc, l2, hsp2, hdc, hst2⟩ := split_digs (s.data.toList.drop q2)
 have hrem2 : Rem s q2 (dc ++ l2) := ⟨hq2, hsp2⟩
 have HD2 := Hid.mk (And.intro hrem2 (And.intro hdc hst2))
 clear hsp2 hdc hst2 hrem2
 go_wp2_with fail
 refine (side_any p s q2 b2 dc l2 _ K2.out.1 HD2.out.1 hs HD2.out.2.1 HD2.out.2.2).mono ?_
 rintro e w3 ⟨i3, rfl, ⟨c, hc, rfl, b3, hR3, hb3⟩, hF3⟩
 have hq3 : q2 + dc.length ≤ s.size := HD2.out.1.app.1
 obtain ⟨q3, hq3e⟩ : ∃ q3, q3 = q2 + dc.length := ⟨_, rfl⟩
 rw [← hq3e] at hR3 hq3
 have HQ3 := Hid.mk hq3e
 have K3 := Hid.mk (And.intro hR3 (And.intro (K2.out.2.1.trans hF3) (And.intro hb3 K2.out.2.2)))
 clear hR3 hF3 hb3 K2 hq3e
 go_wp2_with fail
 refine (want_any p s q3 b3 58 _ K3.out.1 hq3 (by omega)).mono ?_
 rintro e w4 ⟨rfl, ⟨q4, b4, hR4, hq4, hb4⟩, hF4⟩
 have K4 := Hid.mk (And.intro hR4 (And.intro (K3.out.2.1.trans hF4) (And.intro hb4 K3.out.2.2)))
 clear hR4 hF4 hb4 K3
 go_wp2_with fail
 refine (entries_any p s q4 r c b4 _ K4.out.1 hq4 hs hr hc).mono ?_
 rintro e w5 ⟨v, rfl, ⟨zs, q5, b5, hG5, hR5, hq5, hb5⟩, hF5⟩
 obtain ⟨c0, c1, c2, c3, c4⟩ := hR5.cells
 have HOK : Hid (b5 = false → q5 = s.size → zs.length = r * c ∧ Writes s r c zs 4000) := Hid.mk (fun e1 e2 => by
  obtain ⟨-, -, k4, k3, k2, k1⟩ := K4.out
  obtain ⟨f4, n5, tk5⟩ := hb5 e1
  obtain ⟨f3, e4, l4, m4⟩ := k4 f4
  obtain ⟨f2, run2, v2⟩ := k3 f3
  obtain ⟨f1, e3, l3, m3⟩ := k2 f2
  obtain ⟨-, run1, v1⟩ := k1 f1
  obtain ⟨tks, t1, t2, t3⟩ := tk5.all e2
  refine ⟨n5, dr, dc, tks, ?_, run1, run2, v1, v2, by omega, n5, fun t ht => t2 t (by omega)⟩
  have s1 : l1 = 120 :: l3 := by
   have := HD.out.1
   exact this.join (by rw [Nat.zero_add, ← HQ1.out]; exact m3)
  have s2 : l3 = dc ++ l2 := by
   obtain ⟨_, _, h⟩ := m3.cons
   rw [← e3] at h
   exact h.uniq HD2.out.1
  have s3 : l2 = 58 :: l4 := HD2.out.1.join (by rw [← HQ3.out]; exact m4)
  have s4 : l4 = bodyT c 0 tks := by
   obtain ⟨_, _, h⟩ := m4.cons
   rw [← e4] at h
   exact h.uniq t3
  have := HD.out.1.2
  rw [List.drop_zero, s1, s2, s3, s4] at this
  exact this)
 have K5 := Hid.mk (And.intro hG5 (And.intro hR5 (K4.out.2.1.trans hF5)))
 clear hG5 hR5 hF5 K4 hb5
 have hw5 : w.heap.size + 2 ≤ w5.heap.size := by have := K5.out.2.2.1.size; have := H0.out.2.2; omega
 have hB5 : Below w.heap.size w w5 := by
  have h1 := H0.out.1
  exact h1.trans (K5.out.2.2.below (by omega) h1.size)
 have hres5 : w5.heap[w.heap.size]? = some (.cells #[.int .i64 0, .int .i64 0, .slice none 0 0] 66 (0, 0)) := by
  have h2 := H0.out.2.2
  rw [K5.out.2.2.1.block _ (by omega) (by simp; omega)]
  exact H0.out.2.1
 have HF := Hid.mk (And.intro hB5 hres5)
 by_cases hgood : b5 = false ∧ q5 = s.size
 ·obtain ⟨rfl, rfl⟩ := hgood
  have hne : ((s.size : Int) != (s.size : Int)) = false := by simp
  have hgl := (HOK.out rfl rfl).1
  have HWR := Hid.mk (HOK.out rfl rfl).2
  clear hB5 hres5
  go_wp2_with fail
  refine (fromCells_any r c v zs 4000 _ hr hc (by rw [← hgl]; exact K5.out.1)).mono ?_
  rintro e w6 ⟨x, rfl, hx, hb6⟩
  have hres6 : w6.heap[w.heap.size]? = some (.cells #[.int .i64 0, .int .i64 0, .slice none 0 0] 66 (0, 0)) := by
   rw [hb6.block _ (by omega)]; exact HF.out.2
  have hB6 : Below w.heap.size w w6 := HF.out.1.trans (hb6.mono HF.out.1.size)
  obtain ⟨_, _, sl, rfl, hg6⟩ := id hx
  obtain ⟨ao, cap, rfl, -⟩ := hg6.shape
  have r0 : w6.cell? ⟨w.heap.size, 0, none⟩ = some (.int .i64 0) := by simp [World.cell?, hres6]
  have r1 : w6.cell? ⟨w.heap.size, 1, none⟩ = some (.int .i64 0) := by simp [World.cell?, hres6]
  have r2 : w6.cell? ⟨w.heap.size, 2, none⟩ = some (.slice none 0 0) := by simp [World.cell?, hres6]
  have z0 : w6.frozen? ⟨w.heap.size, 0, none⟩ = false := by simp [World.frozen?, hres6]
  have z1 : w6.frozen? ⟨w.heap.size, 1, none⟩ = false := by simp [World.frozen?, hres6]
  have z2 : w6.frozen? ⟨w.heap.size, 2, none⟩ = false := by simp [World.frozen?, hres6]
  have HTy : Hid (Ty w6 w.heap.size 66) := Hid.mk ⟨_, _, hres6⟩
  have K6 := Hid.mk (And.intro hg6 hB6)
  clear hg6 hB6 hx hb6 hres6 K5 c0 c1 c2 c3 c4
  go_wp2_with fail
  refine bodyPost_ret (v := .tuple #[.agg #[.int .i64 r, .int .i64 c, .slice ao (r * c) cap], .bool true]) ?_ rfl ?_
  ·(simp [results, Tryz.results32, go_sem, r0, r1, r2]; done)
  ·refine ⟨_, _, rfl, .inl ⟨rfl, r, c, zs, HWR.out, ⟨hr, hc, _, rfl, K6.out.1.keep (KT.setCell (KT.setCell (KT.setCell (KT.refl _) HTy.out (by decide) (by decide) _) (HTy.out.setCell _ _) (by decide) (by decide) _) ((HTy.out.setCell _ _).setCell _ _) (by decide) (by decide) _)⟩⟩, ?_⟩
   exact ((K6.out.2.setCell (Nat.le_refl _) _).setCell (Nat.le_refl _) _).setCell (Nat.le_refl _) _
 ·have r0 : w5.cell? ⟨w.heap.size, 0, none⟩ = some (.int .i64 0) := by simp [World.cell?, hres5]
  have r1 : w5.cell? ⟨w.heap.size, 1, none⟩ = some (.int .i64 0) := by simp [World.cell?, hres5]
  have r2 : w5.cell? ⟨w.heap.size, 2, none⟩ = some (.slice none 0 0) := by simp [World.cell?, hres5]
  have z0 : w5.frozen? ⟨w.heap.size, 0, none⟩ = false := by simp [World.frozen?, hres5]
  have z1 : w5.frozen? ⟨w.heap.size, 1, none⟩ = false := by simp [World.frozen?, hres5]
  have z2 : w5.frozen? ⟨w.heap.size, 2, none⟩ = false := by simp [World.frozen?, hres5]
  clear hB5 hres5
  cases b5
  case' false =>
   have hne : ((q5 : Int) != (s.size : Int)) = true := by simp; intro e; exact hgood ⟨rfl, by omega⟩
  all_goals
   clear hgood
   go_wp2_with fail
   refine bodyPost_ret (v := .tuple #[.agg #[.int .i64 0, .int .i64 0, .slice none 0 0], .bool false]) ?_ rfl ?_
   ·(simp [results, Tryz.results32, go_sem, r0, r1, r2]; done)
   ·exact ⟨_, _, rfl, .inr ⟨rfl, rfl⟩, ((HF.out.1.setCell (Nat.le_refl _) _).setCell (Nat.le_refl _) _).setCell (Nat.le_refl _) _⟩
open Go.RowKit
theorem IsM.keepT {w w' : World} {v : Value} {r c L : Nat} {zs : List Int} (h : IsM w v r c zs L) (hk : KT w w') : IsM w' v r c zs L := by
 obtain ⟨h0, h1, sl, h2, h3⟩ := h
 exact ⟨h0, h1, sl, h2, h3.keep hk⟩
abbrev Hm := Option (Nat × Nat × Nat × List Int)
def SlotM (w : World) : Slt → Hm → Prop
 | none, none => True
 | some x, some y => x.1 = y.1 ∧ x.2.1 = y.2.1 ∧ x.2.2.1 = y.2.2.1 ∧ IsM w (.agg #[.int .i64 (x.2.1 : Nat), .int .i64 (x.2.2.1 : Nat), x.2.2.2]) y.2.1 y.2.2.1 y.2.2.2 200000000
 | _, _ => False
def Held (w : World) (b : Nat) (ms : List Hm) (nx : Nat) : Prop := ms.length = 24 ∧ nx ≤ 1000000 ∧ ∃ sl, Sg w b sl nx ∧ ∀ i, i < 24 → SlotM w (sl.getD i none) (ms.getD i none)
theorem SlotM.keep {w w' : World} {x : Slt} {y : Hm} (h : SlotM w x y) (hk : KT w w') : SlotM w' x y := by
 cases x with
 | none => cases y <;> exact h
 | some x => cases y with
   | none => exact h
   | some y => exact ⟨h.1, h.2.1, h.2.2.1, h.2.2.2.keepT hk⟩
theorem Held.lt {w : World} {b : Nat} {ms : List Hm} {nx : Nat} (h : Held w b ms nx) : b < w.heap.size := h.2.2.choose_spec.1.lt
theorem Held.ty {w : World} {b : Nat} {ms : List Hm} {nx : Nat} (h : Held w b ms nx) : Ty w b 103 := h.2.2.choose_spec.1.ty
theorem Held.below {w w' : World} {b : Nat} {ms : List Hm} {nx : Nat} (h : Held w b ms nx) (hb : Below w.heap.size w w') : Held w' b ms nx := by
 obtain ⟨h0, hn, sl, h1, h2⟩ := h
 exact ⟨h0, hn, sl, h1.below hb, fun i hi => (h2 i hi).keep (KT.of_below hb)⟩
theorem Held.fr {w w' : World} {b p : Nat} {ms : List Hm} {nx : Nat} (h : Held w b ms nx) (hf : Fr p w w') (hne : b ≠ p) : Held w' b ms nx := by
 obtain ⟨h0, hn, sl, h1, h2⟩ := h
 exact ⟨h0, hn, sl, h1.fr hf hne, fun i hi => (h2 i hi).keep hf.2⟩
theorem SlotM.none_iff {w : World} {x : Slt} {y : Hm} (h : SlotM w x y) : x = none ↔ y = none := by
 cases x <;> cases y <;> simp_all [SlotM]
theorem SlotM.shape {w : World} {x : Nat × Nat × Nat × Value} {y : Hm} (h : SlotM w (some x) y) : ∃ ao n cap, x.2.2.2 = .slice ao n cap := by
 cases y with
 | none => exact h.elim
 | some y =>
   obtain ⟨-, -, -, -, -, sl, h2, h3⟩ := h
   obtain ⟨ao, cap, rfl, -⟩ := h3.shape
   simp only [Value.agg.injEq, Array.mk.injEq, List.cons.injEq, and_true] at h2
   exact ⟨ao, _, cap, h2.2.2⟩
theorem getD_past24 {sl : List Slt} (h : sl.length = 24) {k : Nat} {x : Nat × Nat × Nat × Value} (hx : sl.getD k none = some x) : k < 24 := by
 rcases Nat.lt_or_ge k 24 with h1 | h1
 ·exact h1
 ·rw [List.getD, List.getElem?_eq_none (by omega)] at hx; cases hx
theorem hm_set {ms : List Hm} {k i : Nat} {x : Hm} (hk : k < ms.length) : (ms.set k x).getD i none = if i = k then x else ms.getD i none := by
 by_cases h : i = k
 ·subst h; simp [List.getD, hk]
 ·have h' : ¬ k = i := fun e => h e.symm
  simp [List.getD, h, h']
def FreeAt (ms : List Hm) (i : Nat) : Prop := i < 24 ∧ ms.getD i none = none ∧ ∀ j, j < i → ms.getD j none ≠ none
theorem FreeAt.uniq {ms : List Hm} {i j : Nat} (h : FreeAt ms i) (k : FreeAt ms j) : i = j := by
 rcases Nat.lt_trichotomy i j with h1 | h1 | h1
 ·exact absurd h.2.1 (k.2.2 i h1)
 ·exact h1
 ·exact absurd k.2.1 (h.2.2 j h1)
theorem FreeAt.of {w : World} {sl : List Slt} {ms : List Hm} (h : ∀ i, i < 24 → SlotM w (sl.getD i none) (ms.getD i none)) {i : Nat} (hf : FirstFree sl i) : FreeAt ms i :=
 ⟨hf.1, (h i hf.1).none_iff.1 hf.2.1, fun j hj e => hf.2.2 j hj ((h j (by have := hf.1; omega)).none_iff.2 e)⟩
theorem no_room {w : World} {sl : List Slt} {ms : List Hm} (hl : sl.length = 24) (h : ∀ i, i < 24 → SlotM w (sl.getD i none) (ms.getD i none)) (hc : sl.countP Option.isNone = 0) : ∀ i, i < 24 → ms.getD i none ≠ none := by
 intro i hi e
 have h1 := (h i hi).none_iff.2 e
 rw [List.countP_eq_zero] at hc
 have h2 := hc (sl[i]'(by omega)) (List.getElem_mem _)
 rw [List.getD, List.getElem?_eq_getElem (show i < sl.length from by omega)] at h1
 simp at h1
 simp [h1] at h2
def Wr (s : ByteArray) : Prop := ∃ r c zs, r ≤ 99 ∧ c ≤ 99 ∧ Writes s r c zs 4000
set_option maxRecDepth 100000 in
set_option maxHeartbeats 1000000 in
theorem type_no (b : Nat) (s : ByteArray) (w : World) (hs : 4000 < s.size ∨ ¬ Wr s) :
 Calls Tryz.prog 15 #[.pointer (some ⟨b, 0, none⟩), .string s] w fun e w' => e = .returned (.tuple #[.int .i64 (-1), .int .i64 1]) ∧ Below w.heap.size w w' := by
 by_cases h4 : s.size ≤ 4000
 ·have hno : ¬ Wr s := by
   rcases hs with h | h
   ·omega
   ·exact h
  have HN := Hid.mk hno
  clear hs hno
  go_enter Tryz.func15, Tryz.ntmps15
  go_wp2_with fail
  refine (read_gen s _ h4).mono ?_
  rintro e w1 ⟨x, ok, rfl, hx, hb⟩
  rcases hx with ⟨rfl, r, c, zs, h1, h2⟩ | ⟨rfl, rfl⟩
  ·exact absurd ⟨r, c, zs, h2.1, h2.2.1, h1⟩ HN.out
  ·have HB := Hid.mk hb
   clear hb
   go_wp2_with fail
   go_ret2
   exact ⟨rfl, HB.out.trans ((Below.refl _ _).alloc HB.out.size _)⟩
 ·have h4' : (4000 : Int) < (s.size : Int) := by omega
  clear h4 hs
  go_enter Tryz.func15, Tryz.ntmps15
  go_wp2_with fail
  go_ret2
  exact ⟨rfl, Below.refl _ _⟩
def TypeOut (b : Nat) (r c : Nat) (zs : List Int) (ms : List Hm) (nx : Nat) (w w' : World) (h e : Int) : Prop :=
 (h = -1 ∧ e = 4 ∧ ¬ FitsP r c zs ∧ Below w.heap.size w w') ∨ (h = -1 ∧ e = 5 ∧ FitsP r c zs ∧ (∀ i, i < 24 → ms.getD i none ≠ none) ∧ Below w.heap.size w w') ∨
 (h = (nx : Int) ∧ e = 0 ∧ FitsP r c zs ∧ (∃ i, FreeAt ms i ∧ Held w' b (ms.set i (some (nx, r, c, zs))) (nx + 1)) ∧ Fr b w w')
set_option maxRecDepth 100000 in
set_option maxHeartbeats 2000000 in
theorem type_yes (b : Nat) (s : ByteArray) (r c : Nat) (zs : List Int) (ms : List Hm) (nx : Nat) (w : World) (hst : Held w b ms nx) (hnx : nx < 1000000) (hs : s.size ≤ 4000) (hr : r ≤ 99) (hc : c ≤ 99) (hw : Writes s r c zs 4000) :
 Calls Tryz.prog 15 #[.pointer (some ⟨b, 0, none⟩), .string s] w fun e w' => ∃ h e' : Int, e = .returned (.tuple #[.int .i64 h, .int .i64 e']) ∧ TypeOut b r c zs ms nx w w' h e' := by
 obtain ⟨hm24, -, sl, hsg, hsl⟩ := hst
 have HS := Hid.mk (And.intro hsg (And.intro hsl hm24))
 have HW := Hid.mk hw
 have hbl := hsg.lt
 clear hsg hsl hw hm24
 go_enter Tryz.func15, Tryz.ntmps15
 go_wp2_with fail
 refine (read_ok s r c zs 4000 _ hs hr hc HW.out).mono ?_
 rintro e w1 ⟨x, rfl, hx, hb1⟩
 obtain ⟨_, _, sl0, rfl, hg⟩ := id hx
 obtain ⟨ao, cap, rfl, -⟩ := hg.shape
 clear hg
 obtain ⟨N, hN⟩ : ∃ N, N = r * c := ⟨_, rfl⟩
 rw [← hN] at hx ⊢
 clear hN
 have K1 := Hid.mk (And.intro hx hb1)
 clear hx hb1
 go_wp2_with fail
 refine (tooBig_any _ r c zs 4000 _ (K1.out.1.below ((Below.refl _ _).alloc (Nat.le_refl _) _)) (by omega)).mono ?_
 rintro e w2 ⟨fb, rfl, hf, hb2⟩
 have h12 : Below w1.heap.size w1 w2 := ((Below.refl w1.heap.size w1).alloc (Nat.le_refl _) _).trans (hb2.mono (by simp))
 have h02 : Below w.heap.size w w2 := K1.out.2.trans (h12.mono K1.out.2.size)
 have m0 : w2.cell? ⟨w1.heap.size, 0, none⟩ = some (.int .i64 r) := cell_later hb2 (by simp)
 have m1 : w2.cell? ⟨w1.heap.size, 1, none⟩ = some (.int .i64 c) := cell_later hb2 (by simp)
 have m2 : w2.cell? ⟨w1.heap.size, 2, none⟩ = some (.slice ao N cap) := cell_later hb2 (by simp)
 have K2 := Hid.mk (And.intro (K1.out.1.below h12) (And.intro h02 hf))
 clear hb2 h12 h02 K1 hf
 cases fb
 ·have HNF : Hid (¬ FitsP r c zs) := Hid.mk (fun h => by have := K2.out.2.2.2 h; cases this)
  go_wp2_with fail
  go_ret2
  exact ⟨_, _, rfl, .inl ⟨rfl, rfl, HNF.out, K2.out.2.1⟩⟩
 ·have HFP : Hid (FitsP r c zs) := Hid.mk (K2.out.2.2.1 rfl)
  go_wp2_with fail
  refine (room_any b sl nx _ (HS.out.1.below K2.out.2.1)).mono ?_
  rintro e w' ⟨rfl, rfl⟩
  obtain ⟨rm, hrm⟩ : ∃ rm, rm = sl.countP Option.isNone := ⟨_, rfl⟩
  have HRM := Hid.mk hrm
  rw [← hrm]
  clear hrm
  by_cases h0 : rm = 0
  ·subst h0
   go_wp2_with fail
   go_ret2
   exact ⟨_, _, rfl, .inr (.inl ⟨rfl, rfl, HFP.out, no_room HS.out.1.1 HS.out.2.1 HRM.out.symm, K2.out.2.1⟩)⟩
  ·obtain ⟨n, hn⟩ := FirstFree.exists HS.out.1.1 (show 0 < sl.countP Option.isNone from by have := HRM.out; omega)
   have HFF := Hid.mk hn
   have h0' : ¬ ((rm : Int) < 1) := by omega
   clear hn h0
   go_wp2_with fail
   refine (keep_any b r c ao N cap sl nx n _ (HS.out.1.below K2.out.2.1) HFF.out (by omega)).mono ?_
   rintro e w3 ⟨rfl, hS3, hF3⟩
   have K3 := Hid.mk (And.intro hS3 (And.intro (K2.out.1.keepT hF3.2) ((Fr.of_below (p := b) K2.out.2.1).trans hF3)))
   clear hS3 hF3 K2 m0 m1 m2
   go_wp2_with fail
   go_ret2
   refine ⟨_, _, rfl, .inr (.inr ⟨rfl, rfl, HFP.out, ⟨n, FreeAt.of HS.out.2.1 HFF.out, ?_⟩, K3.out.2.2⟩)⟩
   refine ⟨by simp [HS.out.2.2], by omega, _, K3.out.1, fun i hi => ?_⟩
   rw [slt_set (by have := HS.out.1.1; have := HFF.out.1; omega), hm_set (by have := HS.out.2.2; have := HFF.out.1; omega)]
   by_cases hin : i = n
   ·rw [if_pos hin, if_pos hin]
    exact ⟨rfl, rfl, rfl, K3.out.2.1.mono (by omega)⟩
   ·rw [if_neg hin, if_neg hin]
    exact (HS.out.2.1 i hi).keep K3.out.2.2.2
open Go.RowKit
set_option maxRecDepth 100000 in
set_option maxHeartbeats 8000000 in
theorem write_any (v : Value) (r c : Nat) (zs : List Int) (L : Nat) (w : World) (hm : IsM w v r c zs L) (hL : L ≤ 200000000) (htab : Tab w) :
 Calls Tryz.prog 75 #[v] w fun e w' => e = .returned (.string ⟨(matT r c zs).toArray⟩) ∧ Below w.heap.size w w' := by
 have HM := Hid.mk (And.intro hm htab)
 obtain ⟨hr, hc, sl, rfl, hg⟩ := hm
 obtain ⟨ao, cap, rfl, -⟩ := hg.shape
 have hzl : zs.length = r * c := hg.1
 have HZ := Hid.mk hzl
 clear hg hzl htab
 obtain ⟨N, hN⟩ : ∃ N, N = r * c := ⟨_, rfl⟩
 rw [← hN] at HM ⊢
 clear hN
 obtain ⟨W0, hW0⟩ : ∃ W0, W0 = w.alloc (.cells #[.int .i64 r, .int .i64 c, .slice ao N cap] 66) := ⟨_, rfl⟩
 have HW := Hid.mk hW0
 clear hW0
 have hw0 : W0.heap.size = w.heap.size + 1 := by rw [HW.out]; simp
 have HB0 : Hid (Below w.heap.size w W0) := Hid.mk (by rw [HW.out]; exact (Below.refl _ _).alloc (Nat.le_refl _) _)
 have hrl := dec_le2 r (by omega)
 have hcl := dec_le2 c (by omega)
 go_enter Tryz.func75, Tryz.ntmps75
 go_upto_region 1 with fail
 go_cut [3] from 6 to 15 (fun t wx => t = .string ⟨(partT r c zs 0).toArray⟩ ∧ Below (w.heap.size + 1) W0 wx)
 case first =>
  go_region_with (first
   | (go_at_call 85; refine (rows_raw _ _ _ _ _ _).mono ?_; rintro e w' ⟨rfl, rfl⟩)
   | (go_at_call 84; refine (cols_raw _ _ _ _ _ _).mono ?_; rintro e w' ⟨rfl, rfl⟩)
   | (go_at_call 109; refine (Tryz.strconv_Itoa_small _ (by omega) _).mono ?_; rintro e w' ⟨rfl, rfl⟩))
  all_goals
   go_wp2_with fail
   go_meet
   case rel =>
    rw [HW.out]
    exact ⟨part0 r c zs, by repeat (first | exact Below.refl _ _ | refine Below.drew ?_ | refine Below.alloc ?_ (by simp <;> omega) _)⟩
 case rest =>
  obtain ⟨rfl, hbc⟩ := hcut
  have HBC := Hid.mk hbc
  clear hbc
  obtain ⟨T0, hT0⟩ : ∃ T0, T0 = partT r c zs 0 := ⟨_, rfl⟩
  have hT0l : T0.length ≤ 10 := by
   rw [hT0]; unfold partT; simp [bodyT]; omega
  have HT0 := Hid.mk hT0
  rw [← hT0]
  clear hT0
  go_wp2_with fail
  go_loopw [3, 4] (fun t i wr => ∃ (k : Nat) (T : List UInt8), k ≤ r ∧ i = .int .i64 k ∧ t = .string ⟨T.toArray⟩ ∧ T.length ≤ 250000000000 * k + 10 ∧ Below (w.heap.size + 1) W0 wr ∧ Hid (T = partT r c zs (k * c))) (fun _ i _ => r - (intOf i).toNat)
  case atStart => exact ⟨0, T0, Nat.zero_le _, rfl, rfl, by omega, HBC.out, Hid.mk (by rw [HT0.out, Nat.zero_mul])⟩
  case round =>
   rename World => wr0
   obtain ⟨k, T, hk, rfl, rfl, hT, hbel, HI⟩ := hrel
   have hwr := hbel.size
   have hbx : MBox wr0 w.heap.size r c (.slice ao N cap) := (MBox.new w r c (.slice ao N cap) rfl).below (by rw [← HW.out]; exact hbel) (by omega)
   obtain ⟨a0, a1, a2, -⟩ := hbx.cells
   have HB := Hid.mk hbel
   clear hbel hbx
   go_wp2_with fail
   refine (rows_raw _ _ _ _ _ _).mono ?_
   rintro e w' ⟨rfl, rfl⟩
   by_cases hkr : k < r
   ·go_wp2_with fail
    go_loopw [3, 5] (fun t i ws => ∃ (j : Nat) (T' : List UInt8), j ≤ c ∧ i = .int .i64 j ∧ t = .string ⟨T'.toArray⟩ ∧ T'.length ≤ 250000000000 * k + 10 + 2500000000 * j ∧ Below (w.heap.size + 1) W0 ws ∧ Hid (T' = partT r c zs (k * c + j))) (fun _ i _ => c - (intOf i).toNat)
    case atStart => exact ⟨0, T, Nat.zero_le _, rfl, rfl, by omega, HB.out.alloc (by omega) _, Hid.mk (by rw [HI.out, Nat.add_zero])⟩
    case round =>
     clear a0 a1 a2
     obtain ⟨j, T', hj, rfl, rfl, hT', hbel, HJ⟩ := hrel
     have hws := hbel.size
     have hbx : MBox wr w.heap.size r c (.slice ao N cap) := (MBox.new w r c (.slice ao N cap) rfl).below (by rw [← HW.out]; exact hbel) (by omega)
     obtain ⟨a0, a1, a2, -⟩ := hbx.cells
     have HB2 := Hid.mk (And.intro hbel hbx)
     clear hbel hbx
     go_wp2_with fail
     refine (cols_raw _ _ _ _ _ _).mono ?_
     rintro e w' ⟨rfl, rfl⟩
     have b0 := cell1 a0
     have b1 := cell1 a1
     have b2 := cell1 a2
     by_cases hjc : j < c
     ·have hcases : k = 0 ∨ (0 < k ∧ j = 0) ∨ (0 < k ∧ 0 < j) := by omega
      obtain ⟨jj, hjj⟩ : ∃ jj, jj = j := ⟨_, rfl⟩
      have HJJ := Hid.mk hjj
      have hjjc : jj < c := by omega
      obtain ⟨S, hS⟩ : ∃ S : List UInt8, S = if 0 < k ∧ jj = 0 then [59] else [] := ⟨_, rfl⟩
      have HS := Hid.mk hS
      have hnx := HZ.out
      have hidx : k * c + jj < zs.length := by rw [hnx]; exact idx_lt hkr hjjc
      have HNX := Hid.mk (partT_next (r := r) (i := k) hjjc hidx)
      clear hnx hidx
      rcases hcases with h0 | ⟨h0, h1⟩ | ⟨h0, h1⟩
      case' inl =>
       have f1 : decide (0 < k) = false := decide_eq_false (by omega)
       have f2 : decide ((0 : Int) < (k : Int)) = false := decide_eq_false (by omega)
       rw [if_neg (by omega)] at hS
       have HS1 := Hid.mk hS
       clear hS h0 hjj
      case' inr.inl =>
       rw [if_pos ⟨h0, by omega⟩] at hS
       have HS1 := Hid.mk hS
       clear hS hjj
       subst h1
      case' inr.inr =>
       have f1 : ((j : Int) == 0) = false := beq_eq_false_iff_ne.2 (by omega)
       rw [if_neg (by omega)] at hS
       have HS1 := Hid.mk hS
       clear hS hjj
      all_goals
       go_wp2_with fail
       first
        | refine (at_in _ r c k j zs L _ (HM.out.1.below ?_) hkr hjc).mono ?_
        | refine (at_in _ r c k 0 zs L _ (HM.out.1.below ?_) hkr hjc).mono ?_
       ·exact HB0.out.trans ((HB2.out.1.alloc (by omega) _).mono (by omega))
       rintro e w2 ⟨x, rfl, hx, hb2⟩
       obtain ⟨nb, bo, mm, ecap, rfl⟩ := hx.shape
       have hb02 : Below w.heap.size w w2 := (HB0.out.trans ((HB2.out.1.alloc (by omega) _).mono (by omega))).trans (hb2.mono (by simp; omega))
       have hb2' : Below (w.heap.size + 1) W0 w2 := (HB2.out.1.alloc (by omega) _).trans (hb2.mono (by simp; omega))
       have K2 := Hid.mk (And.intro hx (And.intro hb02 hb2'))
       clear hx hb2 hb02 hb2'
       go_wp2_with fail
       refine (decimal_any _ _ L _ K2.out.1 hL (HM.out.2.below K2.out.2.1)).mono ?_
       rintro e w3 ⟨rfl, hb3⟩
       have hb3' : Below (w.heap.size + 1) W0 w3 := K2.out.2.2.trans (hb3.mono (by have := K2.out.2.2.size; omega))
       have K3 := Hid.mk hb3'
       clear hb3 hb3'
       obtain ⟨D, hD⟩ : ∃ D, D = Lib.itoa (zs.getD (k * c + jj) 0) := ⟨_, rfl⟩
       rw [HJJ.out] at hD
       rw [← hD]
       have hDl : D.length ≤ 2400000001 := by rw [hD]; exact itoa_len K2.out.1 hL
       rw [← HJJ.out] at hD
       have HD := Hid.mk hD
       clear hD
       go_wp2_with fail
       go_roundw
       case measure => simp [intOf]; omega
       case rel =>
        have hv : T' ++ (S ++ (32 :: D)) = partT r c zs (k * c + (jj + 1)) := by
         rw [show k * c + (jj + 1) = k * c + jj + 1 from rfl, HNX.out, ← HS.out, ← HD.out, HJJ.out, ← HJ.out]
        have hl : (T' ++ (S ++ (32 :: D))).length ≤ T'.length + 2400000010 := by
         have : S.length ≤ 1 := by rw [HS1.out]; simp
         simp only [List.length_append, List.length_cons]; omega
        rw [HJJ.out] at hv
        have hl2 : ∀ n : Nat, n = jj + 1 → (T' ++ (S ++ (32 :: D))).length ≤ 250000000000 * k + 10 + 2500000000 * n := by
         intro n hn
         rw [HJJ.out] at hn
         subst hn
         exact Nat.le_trans hl (by omega)
        first
         | refine ⟨j + 1, T' ++ (S ++ (32 :: D)), by omega, by go_num, ?_, hl2 _ (by rw [HJJ.out]), K3.out, Hid.mk hv⟩
         | refine ⟨0 + 1, T' ++ (S ++ (32 :: D)), by omega, by go_num, ?_, hl2 _ (by rw [HJJ.out]), K3.out, Hid.mk hv⟩
        rw [HS1.out]
        first | exact wval0 _ _ | exact wval1 _ _
     ·have hje : j = c := by omega
      have HJE := Hid.mk hje
      clear hje
      go_wp2_with fail
      go_roundw
      case measure => simp [intOf]; omega
      case rel => exact ⟨k + 1, T', by omega, by go_num, rfl, by have := HJE.out; omega, HB2.out.1.alloc (by omega) _, Hid.mk (by rw [HJ.out, HJE.out, Nat.add_mul, Nat.one_mul])⟩
   ·have hke : k = r := by omega
    have HKE := Hid.mk hke
    clear hke
    go_wp2_with fail
    go_ret
    refine ⟨rret_w (by rw [HI.out, HKE.out, partT_all (by rw [HZ.out]; exact Nat.le_refl _)]), ?_⟩
    exact HB0.out.trans ((HB.out.alloc (by omega) _).mono (by omega))
end Go.Proofs.YtfjbijpagaipnabGreatDoor
