import Derived.Test.YtfjbijpagaipnaaGreatDoorC27
/- matriceslaw.twin: ends. -/
namespace Go.Proofs.YtfjbijpagaipnaaGreatDoor
open Go.RowKit R

set_option maxRecDepth 100000 in
set_option maxHeartbeats 4000000 in
theorem ends_any (B T b1 b2 : Nat) (ms : List Hm) (nx : Nat) (es : List Ent) (ioa : Option Addr) (icap : Nat) (w : World) (h : TwH B w T b1 b2 ms nx) (hr : Rel es ms nx) (hI : RowG w 3 (.slice ioa es.length icap) (idc es)) :
    Calls Tryz.prog 37 #[.pointer (some ⟨T, 0, none⟩), .slice ioa es.length icap] w fun x w' => x = .returned (.bool true) ∧ Below w.heap.size w w' := by
  have hle : es.length ≤ 24 := by have := cnt_le ms; have h1 := hr.num; have h2 := hr.len; omega
  have H := Hid.mk (And.intro h (And.intro hr hI))
  clear h hr hI
  go_enter Tryz.func37, Tryz.ntmps37
  go_wp2_with fail
  go_loopw [5] (fun i ws => ∃ k : Nat, k ≤ es.length ∧ i = .int .i64 k ∧ Below w.heap.size w ws) (fun i _ => es.length - (intOf i).toNat)
  case atStart => exact ⟨0, Nat.zero_le _, rfl, Below.refl _ _⟩
  case round =>
    obtain ⟨k, hk, rfl, hbel⟩ := hrel
    have hT := H.out.1.below hbel
    have hI := H.out.2.2.below hbel
    obtain ⟨c0, c1, c2, -⟩ := hT.1.cells
    have hwr := hbel.size
    have K := Hid.mk (And.intro hT (And.intro hI hbel))
    clear hT hI hbel
    by_cases hkl : k < es.length
    · obtain ⟨ioa', icap', e0, -, -, -, a3⟩ := K.out.2.1.shape
      rw [idc_len] at e0 a3
      simp only [Value.slice.injEq] at e0
      obtain ⟨rfl, _, rfl⟩ := e0
      obtain ⟨gi, rfl, e1⟩ := a3 k hkl
      rw [idc_at es k hkl] at e1
      obtain ⟨hd, hhd⟩ : ∃ hd, hd = es[k].1 := ⟨_, rfl⟩
      obtain ⟨ST, hST⟩ : ∃ ST : ByteArray, ST = ⟨es[k].2.1.toArray⟩ := ⟨_, rfl⟩
      have hsh := H.out.2.1.shown hkl
      rw [← hhd] at e1 hsh
      have HSH := Hid.mk (And.intro hsh hST)
      clear a3 hsh hhd hST
      have istr : (ST.toList == ST.toList) = true := by simp
      have hki : (k : Int) < (es.length : Int) := by omega
      go_upto_region 4 with fail
      go_cut [6, 7] from 16 to 27 (fun tt e wx => tt = .string ST ∧ e = .int .i64 0 ∧ Below wr.heap.size wr wx)
      case first =>
        go_region_with (go_at_call 50; go_must (refine (show_any b1 hd ms nx _ (K.out.1.2.1.below ((Below.refl _ _).drew)) (K.out.1.2.2.2.2.1.tab.below ((Below.refl _ _).drew))).mono ?_; rintro x w1 ⟨tt, e, rfl, hs, hb⟩; obtain ⟨rfl, rfl⟩ := show_uniq H.out.2.1.dst hs HSH.out.1))
        all_goals
          go_wp2_with fail
          go_meet
          case rel => exact ⟨by rw [HSH.out.2], rfl, ((Below.refl _ _).drew).trans hb⟩
      case rest =>
        obtain ⟨rfl, rfl, hbc⟩ := hcut
        rename World => w2
        have hT2 := K.out.1.below hbc
        have g4 : w2.cell? ⟨gi, k, none⟩ = some (.int .i64 (hd : Nat)) := cell_later hbc e1
        clear c0 c1 c2 e1
        obtain ⟨c0, c1, c2, -⟩ := hT2.1.cells
        have K2 := Hid.mk (And.intro hT2 (K.out.2.2.trans (hbc.mono hwr)))
        have hw2 := hbc.size
        clear hT2 hbc
        go_upto_region 5 with fail
        go_cut [8, 9] from 28 to 39 (fun tt e wx => tt = .string ST ∧ e = .int .i64 0 ∧ Below w2.heap.size w2 wx)
        case first =>
          go_region_with (go_at_call 50; go_must (refine (show_any b2 hd ms nx _ (K2.out.1.2.2.1.below ((Below.refl _ _).drew)) (K2.out.1.2.2.2.2.1.tab.below ((Below.refl _ _).drew))).mono ?_; rintro x w1 ⟨tt, e, rfl, hs, hb⟩; obtain ⟨rfl, rfl⟩ := show_uniq H.out.2.1.dst hs HSH.out.1))
          all_goals
            go_wp2_with fail
            go_meet
            case rel => exact ⟨by rw [HSH.out.2], rfl, ((Below.refl _ _).drew).trans hb⟩
        case rest =>
          obtain ⟨rfl, rfl, hbc⟩ := hcut
          have K3 := Hid.mk (K2.out.2.trans (hbc.mono (by omega)))
          clear hbc c0 c1 c2 g4
          go_wp2_with fail
          go_roundw
          case measure => simp [intOf]; omega
          case rel => exact ⟨k + 1, by omega, by go_num, K3.out⟩
    · go_wp2_with fail
      go_ret
      exact ⟨rfl, K.out.2.2⟩
end Go.Proofs.YtfjbijpagaipnaaGreatDoor

/- matriceslaw.World: step, of the kinds Type, Show, Free. -/
namespace Go.Proofs.YtfjbijpagaipnaaGreatDoor
open Go.RowKit R

theorem StepOut.show_ {B : Nat} {w w' : World} {W T b1 b2 : Nat} {ms : List Hm} {nx : Nat} {es : List Ent} (h : LInv B w W T b1 b2 ms nx es) (hb : Below w.heap.size w w') : StepOut B w w' W T b1 b2 nx := ⟨⟨ms, nx, es, h.below hb, by omega⟩, hb.mono h.size⟩
theorem StepOut.after {B : Nat} {w w1 w' : World} {W T b1 b2 nx : Nat} (h : StepOut B w1 w' W T b1 b2 nx) (hb : Below B w w1) : StepOut B w w' W T b1 b2 nx := ⟨h.1, hb.trans h.2⟩
/-- An Op. -/
def opV (kd a b c : Int) (s t : ByteArray) : Value := .agg #[.int .i64 kd, .int .i64 a, .int .i64 b, .int .i64 c, .string s, .string t]
set_option maxRecDepth 100000 in
set_option maxHeartbeats 4000000 in
theorem step_any (B W T b1 b2 : Nat) (ms : List Hm) (nx : Nat) (es : List Ent) (kd a b c : Int) (s t : ByteArray) (w : World) (h : LInv B w W T b1 b2 ms nx es) (hkd : kd = 1 ∨ kd = 2 ∨ kd = 3) (ha1 : -9223372036854775808 ≤ a) (ha2 : a ≤ 9223372036854775807) (hb1 : -9223372036854775808 ≤ b) (hb2 : b ≤ 9223372036854775807) (hs : s.size ≤ 16384) (hnx : nx < 1000000) :
    Calls Tryz.prog 35 #[.pointer (some ⟨W, 0, none⟩), opV kd a b c s t] w fun x w' => x = .returned (.bool true) ∧ StepOut B w w' W T b1 b2 nx := by
  have H := Hid.mk h
  have hB := h.size
  clear h
  unfold opV
  obtain ⟨W0, hW0⟩ : ∃ W0, W0 = w.alloc (.cells #[.int .i64 kd, .int .i64 a, .int .i64 b, .int .i64 c, .string s, .string t] 31) := ⟨_, rfl⟩
  have hbW : Below w.heap.size w W0 := by rw [hW0]; exact (Below.refl _ _).alloc (Nat.le_refl _) _
  have hblk : W0.heap[w.heap.size]? = some (.cells #[.int .i64 kd, .int .i64 a, .int .i64 b, .int .i64 c, .string s, .string t] 31 (0, 0)) := by rw [hW0]; exact heap_alloc_new w _
  have hsz : W0.heap.size = w.heap.size + 1 := by rw [hW0]; simp
  have H0 := Hid.mk (And.intro hbW (And.intro hblk hW0))
  clear hbW hblk hW0
  go_enter Tryz.func35, Tryz.ntmps35
  go_wp2_with fail
  rw [← H0.out.2.2]
  refine (handle_any B W T b1 b2 ms nx es a c _ (H.out.below H0.out.1) ha1 ha2).mono ?_
  rintro x w1 ⟨⟨hh, rfl⟩, hb1'⟩
  have hblk1 : w1.heap[w.heap.size]? = some (.cells #[.int .i64 kd, .int .i64 a, .int .i64 b, .int .i64 c, .string s, .string t] 31 (0, 0)) := by rw [hb1'.block _ (by omega)]; exact H0.out.2.1
  have hbe1 : Below w.heap.size w w1 := H0.out.1.trans (hb1'.mono H0.out.1.size)
  have g0 : w1.cell? ⟨w.heap.size, 0, none⟩ = some (.int .i64 kd) := by simp [World.cell?, hblk1]
  have g2 : w1.cell? ⟨w.heap.size, 2, none⟩ = some (.int .i64 b) := by simp [World.cell?, hblk1]
  have g3 : w1.cell? ⟨w.heap.size, 3, none⟩ = some (.int .i64 c) := by simp [World.cell?, hblk1]
  have hs1 := hb1'.size
  have K1 := Hid.mk (And.intro hbe1 hblk1)
  clear hb1' hblk1 hbe1
  go_wp2_with fail
  refine (handle_any B W T b1 b2 ms nx es b c _ (H.out.below K1.out.1) hb1 hb2).mono ?_
  rintro x w2 ⟨⟨hh2, rfl⟩, hb2'⟩
  have hblk2 : w2.heap[w.heap.size]? = some (.cells #[.int .i64 kd, .int .i64 a, .int .i64 b, .int .i64 c, .string s, .string t] 31 (0, 0)) := by rw [hb2'.block _ (by omega)]; exact K1.out.2
  have hbe2 : Below w.heap.size w w2 := K1.out.1.trans (hb2'.mono K1.out.1.size)
  clear g0 g2 g3
  have g0 : w2.cell? ⟨w.heap.size, 0, none⟩ = some (.int .i64 kd) := by simp [World.cell?, hblk2]
  have g4 : w2.cell? ⟨w.heap.size, 4, none⟩ = some (.string s) := by simp [World.cell?, hblk2]
  have K2 := Hid.mk (And.intro hbe2 (H.out.below hbe2))
  clear hb2' hblk2 hbe2
  rcases hkd with rfl | rfl | rfl
  · go_wp2_with fail
    refine (typed_any B W T b1 b2 s ms nx es _ K2.out.2 hs hnx).mono ?_
    rintro x w3 ⟨rfl, ho⟩
    have HO := Hid.mk (ho.after (K2.out.1.mono hB))
    clear ho
    go_wp2_with fail
    go_ret
    exact ⟨rfl, HO.out⟩
  · go_wp2_with fail
    refine (shows_show B W T b1 b2 ms nx es hh _ K2.out.2).mono ?_
    rintro x w3 ⟨rfl, ho⟩
    have HO := Hid.mk ((StepOut.show_ K2.out.2 ho).after (K2.out.1.mono hB))
    clear ho
    go_wp2_with fail
    go_ret
    exact ⟨rfl, HO.out⟩
  · go_wp2_with fail
    refine (shows_free B W T b1 b2 ms nx es hh _ K2.out.2).mono ?_
    rintro x w3 ⟨rfl, ho⟩
    have HO := Hid.mk (ho.after (K2.out.1.mono hB))
    clear ho
    go_wp2_with fail
    go_ret
    exact ⟨rfl, HO.out⟩
/-- The steps of the kinds P go well. -/
def StepOk (P : Int → Prop) : Prop := ∀ (B W T b1 b2 : Nat) (ms : List Hm) (nx : Nat) (es : List Ent) (kd a b c : Int) (s t : ByteArray) (w : World), LInv B w W T b1 b2 ms nx es → P kd → -9223372036854775808 ≤ a → a ≤ 9223372036854775807 → -9223372036854775808 ≤ b → b ≤ 9223372036854775807 → s.size ≤ 16384 → nx < 999995 →
    Calls Tryz.prog 35 #[.pointer (some ⟨W, 0, none⟩), opV kd a b c s t] w fun x w' => x = .returned (.bool true) ∧ StepOut B w w' W T b1 b2 nx
theorem step_plain : StepOk (fun kd => kd = 1 ∨ kd = 2 ∨ kd = 3) := fun B W T b1 b2 ms nx es kd a b c s t w h hkd ha1 ha2 hb1 hb2 hs hnx => step_any B W T b1 b2 ms nx es kd a b c s t w h hkd ha1 ha2 hb1 hb2 hs (by omega)
theorem StepOk.or {P Q : Int → Prop} (h : StepOk P) (k : StepOk Q) : StepOk (fun kd => P kd ∨ Q kd) := by
  intro B W T b1 b2 ms nx es kd a b c s t w hI hkd ha1 ha2 hb1 hb2 hs hnx
  rcases hkd with hp | hq
  · exact h B W T b1 b2 ms nx es kd a b c s t w hI hp ha1 ha2 hb1 hb2 hs hnx
  · exact k B W T b1 b2 ms nx es kd a b c s t w hI hq ha1 ha2 hb1 hb2 hs hnx
end Go.Proofs.YtfjbijpagaipnaaGreatDoor

/- matriceslaw: upTo, of scripts that type, show and free. -/
namespace Go.Proofs.YtfjbijpagaipnaaGreatDoor
open Go.RowKit R

/-- A step of a script. -/
structure OpD where
  kd : Int
  a : Int
  b : Int
  c : Int
  s : ByteArray
  t : ByteArray
/-- Its numbers are ints, its texts not too long. -/
def OpD.ok (o : OpD) : Prop := (-9223372036854775808 ≤ o.a ∧ o.a ≤ 9223372036854775807) ∧ (-9223372036854775808 ≤ o.b ∧ o.b ≤ 9223372036854775807) ∧ o.s.size ≤ 16384
/-- The six cells of a step. -/
def OpAt (w : World) (g p : Nat) (o : OpD) : Prop := w.cell? ⟨g, p, none⟩ = some (.int .i64 o.kd) ∧ w.cell? ⟨g, p + 1, none⟩ = some (.int .i64 o.a) ∧ w.cell? ⟨g, p + 2, none⟩ = some (.int .i64 o.b) ∧ w.cell? ⟨g, p + 3, none⟩ = some (.int .i64 o.c) ∧ w.cell? ⟨g, p + 4, none⟩ = some (.string o.s) ∧ w.cell? ⟨g, p + 5, none⟩ = some (.string o.t)
theorem OpAt.below {B : Nat} {w w' : World} {g p : Nat} {o : OpD} (h : OpAt w g p o) (hb : Below B w w') (hg : g < B) : OpAt w' g p o := by
  obtain ⟨h1, h2, h3, h4, h5, h6⟩ := h
  refine ⟨?_, ?_, ?_, ?_, ?_, ?_⟩ <;> (rw [hb.cell (by simpa using hg)]; assumption)
set_option maxRecDepth 100000 in
set_option maxHeartbeats 4000000 in
theorem upTo_any (P : Int → Prop) (hP : StepOk P) (ops : List OpD) (ao : Option Addr) (cap : Nat) (w : World) (htab : Tab w) (hrow : ∀ i (hi : i < ops.length), ∃ g, ao = some ⟨g, 0, none⟩ ∧ g < w.heap.size ∧ OpAt w g (i * 6) ops[i]) (hn : ops.length ≤ 16384) (hok : ∀ o ∈ ops, o.ok ∧ P o.kd) :
    Calls Tryz.prog 17 #[.slice ao ops.length cap] w fun x w' => x = .returned (.int .i64 (-1)) ∧ Below w.heap.size w w' := by
  have H := Hid.mk (And.intro htab (And.intro hrow hok))
  have HP := Hid.mk hP
  clear htab hrow hok hP
  go_enter Tryz.func17, Tryz.ntmps17
  go_wp2_with fail
  refine (twins_any w H.out.1).mono ?_
  rintro x w1 ⟨T, b1, b2, rfl, hT, hb1⟩
  have hs1 := hb1.size
  have K1 := Hid.mk (And.intro hT hb1)
  clear hT hb1
  go_wp2_with fail
  obtain ⟨W, hW⟩ : ∃ W, W = w1.heap.size := ⟨_, rfl⟩
  have HI0 : Hid (LInv w.heap.size (w1.alloc (.cells #[.pointer (some ⟨T, 0, none⟩), .slice none 0 0, .slice none 0 0, .slice none 0 0, .int .i64 0, .slice none 0 0] 67)) W T b1 b2 (List.replicate 24 none) 0 []) := Hid.mk (by
    have hbe : Below w1.heap.size w1 (w1.alloc (.cells #[.pointer (some ⟨T, 0, none⟩), .slice none 0 0, .slice none 0 0, .slice none 0 0, .int .i64 0, .slice none 0 0] 67)) := (Below.refl _ _).alloc (Nat.le_refl _) _
    refine ⟨K1.out.1.below hbe, ⟨.slice none 0 0, .slice none 0 0, .slice none 0 0, .slice none 0 0, by rw [hW]; exact heap_alloc_new w1 _, RowG.nil _ _, RowG.nil _ _, RowG.nil _ _, fun k hk => ?_, Mats.nil _ _, [], Hs.nil _ _, Nat.zero_le _, fun g hg => by simp [Value.ownBlock] at hg⟩, Rel.start⟩
    rcases hk with hk | hk | hk | hk
    · rw [hk, hW]; exact hs1
    · simp [Value.ownBlock] at hk
    · simp [Value.ownBlock] at hk
    · simp [Value.ownBlock] at hk)
  have HB0 : Hid (Below w.heap.size w (w1.alloc (.cells #[.pointer (some ⟨T, 0, none⟩), .slice none 0 0, .slice none 0 0, .slice none 0 0, .int .i64 0, .slice none 0 0] 67))) := Hid.mk (K1.out.2.alloc hs1 _)
  rw [← hW]
  clear hW
  go_loopw [5] (fun i wr => ∃ (k : Nat) (ms : List Hm) (nx : Nat) (es : List Ent), k ≤ ops.length ∧ i = .int .i64 k ∧ nx ≤ 5 * k ∧ LInv w.heap.size wr W T b1 b2 ms nx es ∧ Below w.heap.size w wr) (fun i _ => ops.length - (intOf i).toNat)
  case atStart => exact ⟨0, _, 0, [], Nat.zero_le _, rfl, Nat.le_refl _, HI0.out, HB0.out⟩
  case round =>
    obtain ⟨k, ms, nx, es, hk, rfl, hnx, hI, hbel⟩ := hrel
    have hwr := hbel.size
    have K := Hid.mk (And.intro hI hbel)
    clear hI hbel
    by_cases hkl : k < ops.length
    · obtain ⟨g, rfl, hgl, hop⟩ := H.out.2.1 k hkl
      obtain ⟨o1, o2, o3, o4, o5, o6⟩ := hop.below K.out.2 hgl
      obtain ⟨hok, hpl⟩ := H.out.2.2 ops[k] (List.getElem_mem hkl)
      obtain ⟨od, hod⟩ : ∃ od, od = ops[k] := ⟨_, rfl⟩
      rw [← hod] at o1 o2 o3 o4 o5 o6 hok hpl
      have HO := Hid.mk (And.intro hok hpl)
      have hki : (k : Int) < (ops.length : Int) := by omega
      clear hop hod hok hpl
      go_wp2_with fail
      refine (HP.out w.heap.size W T b1 b2 ms nx es od.kd od.a od.b od.c od.s od.t _ K.out.1 HO.out.2 HO.out.1.1.1 HO.out.1.1.2 HO.out.1.2.1.1 HO.out.1.2.1.2 HO.out.1.2.2 (by omega)).mono ?_
      rintro x w2 ⟨rfl, ⟨ms2, nx2, es2, hI2, hn2⟩, hb2⟩
      have K2 := Hid.mk (And.intro hI2 (K.out.2.trans hb2))
      clear hI2 hb2 o1 o2 o3 o4 o5 o6
      go_wp2_with fail
      refine (looks_any w.heap.size W T b1 b2 ms2 nx2 es2 _ K2.out.1).mono ?_
      rintro x w3 ⟨rfl, hb3⟩
      have K3 := Hid.mk (And.intro (K2.out.1.below hb3) (K2.out.2.trans (hb3.mono K2.out.2.size)))
      clear hb3
      go_wp2_with fail
      go_roundw
      case measure => simp [intOf]; omega
      case rel => exact ⟨k + 1, ms2, nx2, es2, by omega, by go_num, by omega, K3.out.1, K3.out.2⟩
    · obtain ⟨hTw, ⟨hv, iv, lv, tv, hL, hII, -⟩, hrel⟩ := K.out.1
      obtain ⟨ioa, icap, rfl, -⟩ := hII.shape
      rw [idc_len] at hL hII
      obtain ⟨c0, c1, c2, c3, c4, c5, -⟩ := hL.cells
      have KE := Hid.mk (And.intro hTw (And.intro hrel hII))
      clear hTw hL hII hrel
      go_upto_region 12 with fail
      go_cut [7] from 32 to 40 (fun x wx => x = .bool true ∧ Below wr.heap.size wr wx)
      case first =>
        go_region_with (go_at_call 37; go_must (refine (ends_any w.heap.size T b1 b2 ms nx es ioa icap _ (KE.out.1.below ((Below.refl _ _).drew)) KE.out.2.1 (KE.out.2.2.below ((Below.refl _ _).drew))).mono ?_; rintro x w1 ⟨rfl, hb⟩))
        all_goals
          go_wp2_with fail
          go_meet
          case rel => exact ⟨rfl, ((Below.refl _ _).drew).trans hb⟩
      case rest =>
        obtain ⟨rfl, hb5⟩ := hcut
        have K5 := Hid.mk (K.out.2.trans (hb5.mono K.out.2.size))
        clear hb5
        go_wp2_with fail
        go_ret
        exact ⟨rfl, K5.out⟩
end Go.Proofs.YtfjbijpagaipnaaGreatDoor

/- matriceslaw: small: a script of no more than 2^14 steps and letters. -/
namespace Go.Proofs.YtfjbijpagaipnaaGreatDoor
open Go.RowKit R

/-- A script's cells, where they lie. -/
def ScrAt (w : World) (ao : Option Addr) (ops : List OpD) : Prop := ∀ i (hi : i < ops.length), ∃ g o, ao = some ⟨g, o, none⟩ ∧ g < w.heap.size ∧ OpAt w g (o + i * 6) ops[i]
theorem ScrAt.below {B : Nat} {w w' : World} {ao : Option Addr} {ops : List OpD} (h : ScrAt w ao ops) (hb : Below B w w') (hB : w.heap.size ≤ B) : ScrAt w' ao ops := by
  intro i hi
  obtain ⟨g, o, e, hg, ho⟩ := h i hi
  exact ⟨g, o, e, by have := hb.size; omega, ho.below hb (by omega)⟩
/-- The script's sum so far. -/
def bulk : List OpD → Nat
  | [] => 0
  | o :: r => o.s.size + o.t.size + bulk r
theorem bulk_take_succ (ops : List OpD) (k : Nat) (hk : k < ops.length) : bulk (ops.take (k + 1)) = bulk (ops.take k) + (ops[k].s.size + ops[k].t.size) := by
  induction ops generalizing k with
  | nil => simp at hk
  | cons o r ih =>
    match k with
    | 0 => simp [bulk]
    | k + 1 =>
      have := ih k (by simpa using hk)
      simp only [List.take_succ_cons, bulk, List.getElem_cons_succ] at this ⊢
      omega
theorem bulk_mem {ops : List OpD} {o : OpD} (h : o ∈ ops) : o.s.size ≤ bulk ops := by
  induction ops with
  | nil => simp at h
  | cons x r ih =>
    rcases List.mem_cons.1 h with rfl | h
    · simp only [bulk]; omega
    · have := ih h; simp only [bulk]; omega
set_option maxRecDepth 100000 in
set_option maxHeartbeats 4000000 in
theorem small_any (ops : List OpD) (ao : Option Addr) (cap : Nat) (w : World) (hrow : ScrAt w ao ops) (hn : ops.length ≤ 281474976710656) (hs : ∀ o ∈ ops, o.s.size ≤ 281474976710656 ∧ o.t.size ≤ 281474976710656) :
    Calls Tryz.prog 16 #[.slice ao ops.length cap] w fun x w' => (x = .returned (.bool false) ∨ (x = .returned (.bool true) ∧ ops.length ≤ 16384 ∧ bulk ops ≤ 16384)) ∧ Below w.heap.size w w' := by
  have H := Hid.mk (And.intro hrow hs)
  clear hrow hs
  go_enter Tryz.func16, Tryz.ntmps16
  by_cases hbig : 16384 < ops.length
  · have hbi : (16384 : Int) < (ops.length : Int) := by omega
    go_wp2_with fail
    go_ret
    exact ⟨Or.inl rfl, Below.refl _ _⟩
  · have hbi : ¬ (16384 : Int) < (ops.length : Int) := by omega
    go_wp2_with fail
    go_loopw [3, 4] (fun n i wr => ∃ k : Nat, k ≤ ops.length ∧ n = .int .i64 ((ops.length + bulk (ops.take k) : Nat) : Int) ∧ i = .int .i64 k ∧ ops.length + bulk (ops.take k) ≤ 16384 ∧ Below w.heap.size w wr) (fun n i _ => ops.length - (intOf i).toNat)
    case atStart => exact ⟨0, Nat.zero_le _, by simp [bulk], rfl, by simp [bulk]; omega, Below.refl _ _⟩
    case round =>
      obtain ⟨k, hk, rfl, rfl, hsum, hbel⟩ := hrel
      have hwr := hbel.size
      by_cases hkl : k < ops.length
      · obtain ⟨g, o, rfl, hgl, hop⟩ := H.out.1 k hkl
        obtain ⟨o1, o2, o3, o4, o5, o6⟩ := hop.below hbel hgl
        obtain ⟨hz5, hz6⟩ := H.out.2 ops[k] (List.getElem_mem hkl)
        have hbt := bulk_take_succ ops k hkl
        obtain ⟨S, hS⟩ : ∃ S, S = ops[k].s := ⟨_, rfl⟩
        obtain ⟨T, hT⟩ : ∃ T, T = ops[k].t := ⟨_, rfl⟩
        rw [← hS] at o5 hz5 hbt
        rw [← hT] at o6 hz6 hbt
        obtain ⟨N, hN⟩ : ∃ N, N = ops.length + bulk (ops.take k) := ⟨_, rfl⟩
        rw [← hN] at hsum ⊢
        have HN := Hid.mk (And.intro hN (And.intro hbt hbel))
        have hki : (k : Int) < (ops.length : Int) := by omega
        clear hN hbt hbel hop o1 o2 o3 o4 hS hT
        go_upto_region 7 with fail
        go_cut [3] from 16 to 30 (fun n wx => n = .int .i64 ((N + (S.size + T.size) : Nat) : Int) ∧ Below wr.heap.size wr wx)
        case first =>
          go_region
          all_goals
            go_wp2_with fail
            go_meet
            case rel => exact ⟨by congr 1; omega, (Below.refl _ _).drew⟩
        case rest =>
          obtain ⟨rfl, hb5⟩ := hcut
          have K5 := Hid.mk (HN.out.2.2.trans (hb5.mono hwr))
          obtain ⟨M, hM⟩ : ∃ M, M = N + (S.size + T.size) := ⟨_, rfl⟩
          rw [← hM]
          have HM := Hid.mk hM
          clear hb5 o5 o6 hM
          by_cases hover : 16384 < M
          · have hbi2 : (16384 : Int) < (M : Int) := by omega
            go_wp2_with fail
            go_ret
            exact ⟨Or.inl rfl, K5.out⟩
          · have hbi2 : ¬ (16384 : Int) < (M : Int) := by omega
            go_wp2_with fail
            go_roundw
            case measure => simp [intOf]; omega
            case rel =>
              obtain ⟨q1, q2, -⟩ := HN.out
              have q3 := HM.out
              exact ⟨k + 1, by omega, by congr 1; omega, by go_num, by omega, K5.out⟩
      · have hke : k = ops.length := by omega
        have hki : ¬ (k : Int) < (ops.length : Int) := by omega
        rw [hke, List.take_length] at hsum
        go_wp2_with fail
        go_ret
        exact ⟨Or.inr ⟨rfl, by omega, by omega⟩, hbel⟩
end Go.Proofs.YtfjbijpagaipnaaGreatDoor
