import Derived.Test.YtfjbijpagaipnabGreatDoorS02
import Derived.Test.YtfjbijpagaipnabGreatDoorS01
import Derived.Laws.BitsAllLaws
namespace Go.Proofs.YtfjbijpagaipnabGreatDoor
open Go.RowKit
def decval (l : List UInt8) : Nat := l.foldl (fun a c => 10 * a + (c.toNat - 48)) 0
def Digs (l : List UInt8) : Prop := ∀ c ∈ l, 48 ≤ c.toNat ∧ c.toNat ≤ 57
theorem decval_snoc (l : List UInt8) (c : UInt8) : decval (l ++ [c]) = 10 * decval l + (c.toNat - 48) := by simp [decval]
theorem decval_take (l : List UInt8) (k : Nat) (hk : k < l.length) : decval (l.take (k + 1)) = 10 * decval (l.take k) + (l[k].toNat - 48) := by
 rw [List.take_succ_eq_append_getElem hk, decval_snoc]
def OwnB (B : Nat) (w : World) (v : Value) (xs : List Nat) : Prop := w.ownsRow B 144 1 v xs.length (lcells xs)
theorem OwnB.own {B : Nat} {w : World} {v : Value} {xs : List Nat} (h : OwnB B w v xs) : Own w v xs := by
 refine ⟨h.1, ?_⟩
 rcases h.2 with h2 | ⟨g, cap, cur, hv, hg, r⟩
 ·exact .inl h2
 ·exact .inr ⟨g, cap, cur, hv, Nat.zero_le _, r⟩
theorem OwnB.base {B : Nat} {w : World} {g n cap : Nat} {xs : List Nat} (h : OwnB B w (.slice (some ⟨g, 0, none⟩) n cap) xs) : B ≤ g := (World.ownsRow.lt h g rfl).1
theorem OwnB.stored_int {B : Nat} {w : World} {g n cap : Nat} {zs : List Nat} (h : OwnB B w (.slice (some ⟨g, 0, none⟩) n cap) zs) (hn : zs.length = n) (k c : Nat) {z : Int} (hz : z = (c : Int)) :
 OwnB B (w.setCell ⟨g, k, none⟩ (.int .u32 z)) (.slice (some ⟨g, 0, none⟩) n cap) (zs.set k c) := by
 subst hn
 subst hz
 have := (World.ownsRow.stored (w := w) h k (.int .u32 (c : Nat))).1
 rw [lcells_set] at this
 unfold OwnB
 rw [List.length_set]
 exact this
theorem append_limb (w : World) {ops : Array Oper} {rest : List Oper} {o : Oper} {a : Act} {Q : Exit → Act → World → Prop} (hgd : o.guard = none) (s x : Operand)
 (ho : o.op = .call { callee := .builtin .append, args := #[s, x], argTypes := #[77, 77] }) (B : Nat) (v : Value) (zs : List Nat) (hs : a.eval s = v) (hown : OwnB B w v zs)
 (ad : Addr) (hx : a.eval x = .slice (some ad) 1 1) (c : Nat) (hc : w.cell? (ad.add 0) = some (.int .u32 (c : Nat))) (hl : zs.length ≤ 30000) (hB : B ≤ w.heap.size)
 (hK : ∀ v' w', OwnB B w' v' (zs ++ [c]) → w.grownBy w' v.ownBlock → wpList Tryz.prog ops Q rest (a.put o.dst v') w') : wpList Tryz.prog ops Q (o :: rest) a w := by
 obtain ⟨i, hi, hz0, hz1, hz2⟩ := info_parts Tryz.info144
 refine wpList_append_own w hgd s x 77 ho B 144 i (.int .u32 0) 1 4 Tryz.underlying77 hi hz0 hz1 hz2 rfl (by decide) v zs.length (lcells zs) hs hown ad 1 1 [.int .u32 (c : Nat)] hx rfl ?_ ?_ ?_ ?_ hB ?_
 ·intro j u hj
  match j, hj with
  | 0, hj => simp at hj; subst hj; exact hc
 ·intro u hu; simp at hu; subst hu; rfl
 ·unfold maxLen; omega
 ·omega
 ·intro v' w' h1 h2 _
  refine hK v' w' ?_ h2
  unfold OwnB
  rw [show lcells (zs ++ [c]) = lcells zs ++ [.int .u32 (c : Nat)] from by simp [lcells], List.length_append, List.length_singleton]
  exact h1
theorem ten_round {P Z X c x d : Nat} (h : Z + P * c = 10 * X + d) : Z + P * ((c + x * 10) % 4294967296) + P * 4294967296 * ((c + x * 10) / 4294967296) = 10 * (X + P * x) + d := by
 have h1 : P * ((c + x * 10) % 4294967296) + P * 4294967296 * ((c + x * 10) / 4294967296) = P * (c + x * 10) := by
  rw [Nat.mul_assoc, ← Nat.mul_add, Nat.mod_add_div]
 have h2 : P * (x * 10) = 10 * (P * x) := by rw [Nat.mul_comm x 10, Nat.mul_left_comm]
 rw [Nat.mul_add] at h1
 omega
theorem last_pos {zs : List Nat} (h : Lo zs) (hne : zs ≠ []) (hv : 4294967296 ^ (zs.length - 1) ≤ val zs) : 0 < zs.getD (zs.length - 1) 0 := by
 rcases Nat.eq_zero_or_pos (zs.getD (zs.length - 1) 0) with h0 | h0
 ·exfalso
  have hl : 0 < zs.length := List.length_pos_iff.2 hne
  have h1 := val_take_drop zs (zs.length - 1) (by omega)
  rw [drop_getD zs (zs.length - 1) (by omega), val_cons, h0, show zs.length - 1 + 1 = zs.length from by omega, List.drop_length, val_nil] at h1
  have h2 := val_lt (Lo_take h (zs.length - 1))
  rw [List.length_take, Nat.min_eq_left (by omega)] at h2
  omega
 ·exact h0
theorem dig_at (s : ByteArray) (h : Digs s.data.toList) (k : Nat) (hk : k < s.size) : 48 ≤ (s[k].toNat : Int) ∧ (s[k].toNat : Int) ≤ 57 := by
 have := h (s.data.toList[k]'(by simpa using hk)) (List.getElem_mem _)
 have e : s.data.toList[k]'(by simpa using hk) = s[k] := rfl
 rw [e] at this
 omega
theorem decval_at (s : ByteArray) (k : Nat) (hk : k < s.size) : decval (s.data.toList.take (k + 1)) = 10 * decval (s.data.toList.take k) + (s[k].toNat - 48) :=
 decval_take s.data.toList k (by simpa using hk)
theorem set_drop_next (zs ps : List Nat) (j c : Nat) (h : ps.drop j = zs.drop j) : (ps.set j c).drop (j + 1) = zs.drop (j + 1) := by
 rw [List.drop_set_of_lt (by omega), ← List.drop_drop, h, List.drop_drop]
theorem getD_of_drop (zs ps : List Nat) (j : Nat) (h : ps.drop j = zs.drop j) : ps.getD j 0 = zs.getD j 0 := by
 have h1 : (ps.drop j)[0]? = (zs.drop j)[0]? := by rw [h]
 simp only [List.getElem?_drop, Nat.add_zero] at h1
 simp [List.getD, h1]
theorem dig_same {zs ps : List Nat} {d : Nat} (lz : Lim zs) (lp : Lo ps) (hl : ps.length = zs.length) (h : val ps = 10 * val zs + d) : Lim ps := by
 refine ⟨lp, ?_⟩
 by_cases hn : ps = []
 ·exact .inl hn
 ·refine .inr (last_pos lp hn ?_)
  have := Lim_ge lz (by rintro rfl; simp at hl; exact hn hl)
  rw [hl]
  omega
theorem dig_more {ps : List Nat} {c : Nat} (lp : Lo ps) (hc : 0 < c) (hc2 : c < 4294967296) : Lim (ps ++ [c]) := by
 refine ⟨Lo_append lp (Lo_cons hc2 Lo_nil), .inr ?_⟩
 simp [List.getD]
 exact hc
set_option maxRecDepth 100000 in
set_option maxHeartbeats 2000000 in
theorem fromDigits_any (s : ByteArray) (w : World) (hs : s.size ≤ 4000) (hd : Digs s.data.toList) :
 Calls Tryz.prog 130 #[.string s] w fun e w' => ∃ r, e = .returned r ∧ IntOut w w' r (decval s.data.toList) s.size := by
 have HD := Hid.mk hd
 clear hd
 obtain ⟨W0, hW0⟩ : ∃ W0, W0 = w.alloc (.cells #[.bool false, .slice none 0 0] 79) := ⟨_, rfl⟩
 have hWs : W0.heap.size = w.heap.size + 1 := by rw [hW0]; simp
 have HW := Hid.mk hW0
 have HS := Hid.mk hWs
 clear hWs hW0
 go_enter Tryz.func130, Tryz.ntmps130
 go_wp2_with fail
 go_loopw [3, 4] (fun v i wr => ∃ (k : Nat) (zs : List Nat), k ≤ s.size ∧ i = .int .i64 k ∧ zs.length ≤ k ∧ OwnB (w.heap.size + 1) wr v zs ∧ Below (w.heap.size + 1) W0 wr ∧ Hid (Lim zs ∧ val zs = decval (s.data.toList.take k))) (fun _ i _ => s.size - (intOf i).toNat)
 case atStart =>
  refine ⟨0, [], Nat.zero_le _, rfl, Nat.le_refl _, ?_, ?_, Hid.mk ⟨⟨Lo_nil, .inl rfl⟩, rfl⟩⟩
  ·have := World.ownsRow_lit (base := w.heap.size + 1) (e := 144) (size := 1) (w.alloc (.cells #[.bool false, .slice none 0 0] 79)) #[] 0 (by simp) (by simp [maxLen]) rfl
   simpa [OwnB, lcells] using this
  ·rw [HW.out]; exact (Below.refl _ _).alloc (by simp) _
 case round =>
  obtain ⟨k, zs, hk, rfl, hzk, hown, hbel, HI⟩ := hrel
  obtain ⟨ao, cap, rfl, hcap, -, hcells, -, hao⟩ := hown.own.open_
  have HC := Hid.mk hcells
  have HA := Hid.mk hao
  clear hcells hao
  by_cases hkN : k < s.size
  ·obtain ⟨d1, d2⟩ := dig_at s HD.out k hkN
   go_wp2_with fail
   go_loopw [5, 6] (fun c j ws => ∃ (m cc : Nat) (ps : List Nat), m ≤ zs.length ∧ j = .int .i64 m ∧ cc ≤ 9 ∧ c = .int .u64 cc ∧ Hid (ps.length = zs.length) ∧ Lo ps ∧ OwnB (w.heap.size + 1) ws (.slice ao zs.length cap) ps ∧ Below (w.heap.size + 1) W0 ws ∧
    Hid (val (ps.take m) + 4294967296 ^ m * cc = 10 * val (zs.take m) + (s[k].toNat - 48) ∧ ps.drop m = zs.drop m)) (fun _ j _ => zs.length - (intOf j).toNat)
   case atStart =>
    exact ⟨0, s[k].toNat - 48, zs, Nat.zero_le _, rfl, by omega, by go_num, Hid.mk rfl, HI.out.1.1, hown, hbel, Hid.mk ⟨by simp [val], rfl⟩⟩
   case round =>
    clear hown hbel
    obtain ⟨m, cc, ps, hm, rfl, hcc, rfl, HP, hlo, hown, hbel, HI2⟩ := hrel
    by_cases hmN : m < zs.length
    ·obtain ⟨b, rfl, -⟩ := HC.out m hmN
     have hz1 := hown.own.cell HP.out m hmN
     have hz2 := hown.own.frozen HP.out m
     have hxl := Lo_get hlo m
     obtain ⟨x, hx⟩ : ∃ x, x = ps.getD m 0 := ⟨_, rfl⟩
     rw [← hx] at hz1 hxl
     have HX := Hid.mk hx
     clear hx
     go_wp2_with fail
     go_roundw
     case rel =>
      refine ⟨m + 1, (cc + x * 10) / 4294967296, ps.set m ((cc + x * 10) % 4294967296), by omega, by go_num, by omega, by go_num, Hid.mk (by simp [HP.out]), Lo_set hlo _ _ (Nat.mod_lt _ (by decide)), hown.stored_int HP.out m _ (by omega), hbel.setCell hown.base _, Hid.mk ⟨?_, set_drop_next zs ps m _ HI2.out.2⟩⟩
      rw [val_take_set ps m _ (by have := HP.out; omega), val_take_next, ← getD_of_drop zs ps m HI2.out.2, ← HX.out, Nat.pow_succ]
      exact ten_round HI2.out.1
     case measure => simp [intOf]; omega
    ·have hmN' : zs.length ≤ m := by omega
     have hfull : val ps + 4294967296 ^ zs.length * cc = 10 * val zs + (s[k].toNat - 48) := by
      have := HI2.out.1
      rw [show m = zs.length from by omega, List.take_of_length_le (by have := HP.out; omega), List.take_of_length_le (Nat.le_refl _)] at this
      exact this
     have HF := Hid.mk hfull
     clear hfull
     by_cases hc0 : cc = 0
     ·subst hc0
      go_wp2_with fail
      go_roundw
      case rel =>
       have hf := HF.out
       rw [Nat.mul_zero, Nat.add_zero] at hf
       exact ⟨k + 1, ps, by omega, by go_num, by have := HP.out; omega, by rw [← HP.out] at hown ⊢; exact hown, hbel, Hid.mk ⟨dig_same HI.out.1 hlo HP.out hf, by rw [hf, decval_at s k hkN, HI.out.2]⟩⟩
      case measure => simp [intOf]; omega
     ·have hcpos : 0 < cc := by omega
      go_wp2_with (at_builtin; refine append_limb _ rfl (.tmp 42) (.tmp 45) rfl (w.heap.size + 1) _ ps rfl ?_ ⟨_, 0, none⟩ rfl cc ?_ ?_ ?_ ?_)
      ·exact World.ownsRow.alloc hown _
      ·simp [Addr.add]
      ·have := HP.out; omega
      ·have := hbel.size; have := HS.out; simp; omega
      intro v' w' h1 h2
      have hbel2 : Below (w.heap.size + 1) W0 w' := (hbel.alloc (by have := hbel.size; have := HS.out; omega) _).grown h2 (by have := hbel.size; have := HS.out; simp; omega) (fun j hj => (World.ownsRow.lt hown j hj).1)
      go_wp2_with fail
      go_roundw
      case rel =>
       refine ⟨k + 1, ps ++ [cc], by omega, by go_num, by have := HP.out; simp; omega, h1, hbel2, Hid.mk ⟨dig_more hlo hcpos (by omega), ?_⟩⟩
       have hf := HF.out
       rw [val_append, HP.out, show val [cc] = cc from by simp [val], hf, decval_at s k hkN, HI.out.2]
      case measure => simp [intOf]; omega
  ·have hbox : wr.heap[w.heap.size]? = some (.cells #[.bool false, .slice none 0 0] 79 (0, 0)) := by
    rw [hbel.block _ (by omega), HW.out]; exact heap_alloc_new w _
   have hb1 : wr.cell? ⟨w.heap.size, 0, none⟩ = some (.bool false) := by simp [World.cell?, hbox]
   have hb2 : wr.cell? ⟨w.heap.size, 1, none⟩ = some (.slice none 0 0) := by simp [World.cell?, hbox]
   have hb3 : wr.frozen? ⟨w.heap.size, 0, none⟩ = false := by simp [World.frozen?, hbox]
   have hb4 : wr.frozen? ⟨w.heap.size, 1, none⟩ = false := by simp [World.frozen?, hbox]
   have HT : Hid (Ty wr w.heap.size 79) := Hid.mk ⟨_, _, hbox⟩
   clear hbox
   go_wp2_with fail
   refine bodyPost_ret (v := .agg #[.bool false, .slice ao zs.length cap]) ?_ rfl ?_
   ·(simp [results, Tryz.results130, go_sem, hb1, hb2]; done)
   ·refine ⟨_, rfl, IsI.mk' (by simp) HI.out.1 ?_ (by omega) (hown.own.keep (KU.setCell (KU.setCell (KU.refl _) HT.out (by decide) _) (HT.out.setCell _ _) (by decide) _)), ?_⟩
    ·rw [HI.out.2, List.take_of_length_le (by simp; omega)]; simp
    ·refine Below.trans ?_ (((hbel.mono (by omega)).setCell (by simp) _).setCell (by simp) _)
     rw [HW.out]
     exact (Below.refl _ _).alloc (Nat.le_refl _) _
open Go.RowKit
theorem or_chunk (c x : Nat) (hc : c < 1000000000) (hx : x < 4294967296) : bits BinOp.or IntKind.u64 ((c : Int) * 4294967296) (x : Int) = (c : Int) * 4294967296 + (x : Int) := by
 have h := u64_or_nat (c * 4294967296) x (by omega) (by omega)
 rw [show ((c * 4294967296 : Nat) : Int) = (c : Int) * 4294967296 from by omega] at h
 rw [h]
 have h2 := Nat.shiftLeft_add_eq_or_of_lt (i := 32) (b := x) (by omega) c
 rw [Nat.shiftLeft_eq] at h2
 rw [show c * 4294967296 = c * 2 ^ 32 from rfl, ← h2]
 omega
theorem split_arith (B D V c x : Nat) : x + B * (D * V + c) = D * ((c * B + x) / D + B * V) + (c * B + x) % D := by
 have h1 := Nat.div_add_mod (c * B + x) D
 rw [Nat.mul_add, Nat.mul_add, Nat.mul_left_comm B D V, Nat.mul_comm B c]
 omega
theorem split_gen {xs zs : List Nat} {k c D : Nat} (hk : 0 < k) (hx : k ≤ xs.length) (hz : zs.length = xs.length) (h : val (xs.drop k) = D * val (zs.drop k) + c) :
 val (xs.drop (k - 1)) = D * val ((zs.set (k - 1) ((c * 4294967296 + xs.getD (k - 1) 0) / D)).drop (k - 1)) + (c * 4294967296 + xs.getD (k - 1) 0) % D := by
 generalize hq : (c * 4294967296 + xs.getD (k - 1) 0) / D = q
 have h1 : (zs.set (k - 1) q).drop (k - 1) = q :: zs.drop k := by
  rw [drop_getD (zs.set (k - 1) q) (k - 1) (by simp; omega), show k - 1 + 1 = k from by omega, List.drop_set_of_lt (by omega)]
  simp [List.getD, show k - 1 < zs.length from by omega]
 have h2 : xs.drop (k - 1) = xs.getD (k - 1) 0 :: xs.drop k := by
  rw [drop_getD xs (k - 1) (by omega), show k - 1 + 1 = k from by omega]
 rw [h1, h2, val_cons, val_cons, h, ← hq]
 exact split_arith _ _ _ _ _
set_option maxRecDepth 100000 in
set_option maxHeartbeats 1000000 in
theorem splitChunk_any (v : Value) (xs : List Nat) (w : World) (hv : Own w v xs) (lx : Lo xs) (bx : xs.length ≤ 1000000000) :
 Calls Tryz.prog 69 #[v] w fun e w' => ∃ r, e = .returned (.tuple #[r, .int .u64 ((val xs % 1000000000 : Nat) : Int)]) ∧ NatOut w w' r (val xs / 1000000000) xs.length := by
 obtain ⟨ao, cap, hveq, hc, hm, hcell, -, -⟩ := hv.open_
 have HC := Hid.mk hcell
 clear hv hcell
 subst hveq
 go_enter Tryz.func69, Tryz.ntmps69
 go_wp2_with (at_make; refine make_limbs _ rfl (.tmp 8) (.tmp 8) rfl _ _ xs.length rfl rfl rfl rfl (by omega) ?_)
 intro w1 hown hbel
 go_wp2_with fail
 go_loopw [5, 6] (fun c i wr => ∃ (k cc : Nat) (zs : List Nat), k ≤ xs.length ∧ i = .int .i64 ((k : Int) - 1) ∧ cc < 1000000000 ∧ c = .int .u64 cc ∧ zs.length = xs.length ∧ Lo zs ∧ Own wr (.slice (some ⟨w.heap.size, 0, none⟩) xs.length xs.length) zs ∧ Below w.heap.size w wr ∧
  Hid (val (xs.drop k) = 1000000000 * val (zs.drop k) + cc)) (fun _ i _ => (intOf i + 1).toNat)
 case atStart => exact ⟨xs.length, 0, _, Nat.le_refl _, rfl, by omega, rfl, List.length_replicate, Lo_zeros _, hown, hbel, Hid.mk (by simp [val])⟩
 case round =>
  clear hown hbel
  obtain ⟨k, cc, zs, hk, rfl, hcc, rfl, hzl, hlo, hown, hbel, HI⟩ := hrel
  by_cases h0 : k = 0
  ·subst h0
   go_wp2_with fail
   refine (trim_any _ zs _ hown hlo).mono ?_
   rintro e w' ⟨⟨r, rfl, hr⟩, rfl⟩
   go_wp2_with fail
   go_ret2
   obtain ⟨rs, h1, h2, h3, h4⟩ := hr
   have hi := HI.out
   simp only [List.drop_zero] at hi
   have h5 : cc = val xs % 1000000000 := by omega
   have h6 : val zs = val xs / 1000000000 := by omega
   have h7 : val rs = val xs / 1000000000 := by omega
   have h8 : rs.length ≤ xs.length := by omega
   subst h5
   exact ⟨_, rfl, ⟨rs, h1, h7, h8, h4⟩, hbel⟩
  ·have hxk := Lo_get lx (k - 1)
   have hz1 := hown.cell hzl (k - 1) (by omega)
   have hz2 := hown.frozen hzl (k - 1)
   obtain ⟨b, rfl, hb0⟩ := HC.out (k - 1) (by omega)
   have hb1 := cell_later hbel hb0
   obtain ⟨x, hx⟩ : ∃ x, x = xs.getD (k - 1) 0 := ⟨_, rfl⟩
   obtain ⟨z, hz⟩ : ∃ z, z = zs.getD (k - 1) 0 := ⟨_, rfl⟩
   rw [← hx] at hxk hb1
   rw [← hz] at hz1
   have HX := Hid.mk hx
   have HZL := Hid.mk hzl
   clear hx hz hb0 hzl
   have hor := or_chunk cc x hcc hxk
   go_wp2_with fail
   go_roundw
   case rel =>
    refine ⟨k - 1, (cc * 4294967296 + x) % 1000000000, zs.set (k - 1) ((cc * 4294967296 + x) / 1000000000), by omega, by go_num, by omega, by go_num, by simp [HZL.out], Lo_set hlo _ _ (by omega), hown.stored_int HZL.out (k - 1) _ (by omega), hbel.setCell (Nat.le_refl _) _, Hid.mk ?_⟩
    rw [HX.out]
    exact split_gen (by omega) hk HZL.out HI.out
   case measure => simp [intOf]; omega
end Go.Proofs.YtfjbijpagaipnabGreatDoor
