/- matriceskeep.Desk: put, det. -/
import Derived.Test.YtjhcbenldfplcaaDoorText
import Derived.Test.YtjhcbenldfplcaaDoorDice
namespace Go.Proofs.YtjhcbenldfplcaaDoor
open Go.RowKit

/-- The table of powers lies below B. -/
def TabB (B : Nat) (w : World) : Prop := ∀ w', Below B w w' → Tab w'
theorem TabB.of {w : World} (h : Tab w) : TabB w.heap.size w := fun _ hb => h.below hb
theorem TabB.below {B : Nat} {w w' : World} (h : TabB B w) (hb : Below B w w') : TabB B w' := fun w'' hb' => h w'' (hb.trans hb')
theorem TabB.tab {B : Nat} {w : World} (h : TabB B w) : Tab w := h w (Below.refl _ _)
theorem Below.of_grown {B p : Nat} {w w' : World} (h : w.grownBy w' (some p)) (hp : B ≤ p) (hB : B ≤ w.heap.size) : Below B w w' := ⟨h.os, h.tape, h.output, h.size, fun k hk => h.block k (by omega) (by intro e; injection e with e; omega)⟩
/-- Entries small enough for every use here. -/
def Small (n : Nat) (e : Nat → Nat → Int) : Prop := ∀ i j, i < n → j < n → -1000000000 ≤ e i j ∧ e i j ≤ 1000000000

set_option maxRecDepth 100000 in
set_option maxHeartbeats 1000000 in
theorem put_ok (d b B n : Nat) (v : Value) (gs : Nat → Nat) (e : Nat → Nat → Int) (ms : List (Nat × Nat × Value)) (w : World) (hd : Dk w d b) (hst : St w b ms) (hms : ms.length < 24) (hm : Mat B w v n n gs e) (hn : n ≤ 4) (hs : Small n e) :
    Calls Tryd.prog 15 #[.pointer (some ⟨d, 0, none⟩), v, .int .i64 n] w fun x w' => x = .returned (.int .i64 (ms.length : Nat)) ∧
      (∃ ao m cap, St w' b (ms ++ [(n, n, .slice ao m cap)]) ∧ IsM w' (.agg #[.int .i64 n, .int .i64 n, .slice ao m cap]) n n (nums n n e) 21) ∧ Fr b w w' := by
  have hdl := hd.lt
  have H := Hid.mk (And.intro hd (And.intro hst (And.intro hm hs)))
  clear hd hst hm hs
  go_enter Tryd.func15, Tryd.ntmps15
  go_wp2_with fail
  refine (text_any B n v gs e _ H.out.2.2.1 (by omega) H.out.2.2.2).mono ?_
  rintro x w1 ⟨rfl, hb1⟩
  have hlen := text_len n e hn H.out.2.2.2
  have hwr := text_writes n e H.out.2.2.2
  generalize (⟨(headT n n ++ bodyT n 0 (toks n n e)).toArray⟩ : ByteArray) = S at *
  have K1 := Hid.mk (And.intro hb1 hwr)
  have c0 := (H.out.1.below hb1 hdl).cell
  clear hb1 hwr
  go_wp2_with fail
  refine (type_ok b S n n (nums n n e) 21 ms _ (H.out.2.1.below K1.out.1) hms hlen K1.out.2 hn hn (by omega) (low_nums n e ?_)).mono ?_
  · intro i j hi hj; have := H.out.2.2.2 i j hi hj; omega
  rintro x w2 ⟨rfl, hex, hfr⟩
  have K2 := Hid.mk (And.intro hex ((Fr.of_below (p := b) K1.out.1).trans hfr))
  clear hex hfr K1 c0
  go_wp2_with fail
  go_ret
  exact ⟨rfl, K2.out.1, K2.out.2⟩

/-- The desk d, its store b, k matrices held; nothing below B is theirs. -/
def Sess (w : World) (d b k B : Nat) : Prop := Dk w d b ∧ (∃ ms, St w b ms ∧ ms.length = k) ∧ b ≠ d ∧ TabB B w ∧ B ≤ b ∧ B ≤ d
theorem Sess.below {w w' : World} {d b k B : Nat} (h : Sess w d b k B) (hb : Below w.heap.size w w') : Sess w' d b k B := by
  obtain ⟨h1, ⟨ms, h2, h3⟩, h4, h5, h6, h7⟩ := h
  exact ⟨h1.below hb h1.lt, ⟨ms, h2.below hb, h3⟩, h4, h5.below (hb.mono (by have := h2.lt; omega)), h6, h7⟩
theorem St.grown {w w' : World} {b p : Nat} {ms : List (Nat × Nat × Value)} (h : St w b ms) (hg : w.grownBy w' (some p)) (hp : p ≠ b) : St w' b ms := by
  have hl := h.lt
  obtain ⟨h0, arr, h1, h2⟩ := h
  exact ⟨h0, arr, by rw [hg.block b hl (fun e => hp (by injection e with e; exact e.symm))]; exact h1, h2⟩
theorem Ty.ne {w : World} {a b : Nat} {s t : TypeId} (h : Ty w a s) (k : Ty w b t) (hst : s ≠ t) : a ≠ b := by
  rintro rfl
  obtain ⟨c, fr, h1⟩ := h
  obtain ⟨c', fr', h2⟩ := k
  rw [h1] at h2
  simp only [Option.some.injEq, Obj.cells.injEq] at h2
  exact hst h2.2.1
theorem Dk.ty {w : World} {d b : Nat} (h : Dk w d b) : Ty w d 44 := ⟨_, _, h⟩
theorem Sess.grown {w w' : World} {d b k B p : Nat} {t : TypeId} (h : Sess w d b k B) (hg : w.grownBy w' (some p)) (ht : Ty w p t) (n1 : t ≠ 57) (n2 : t ≠ 44) (hp : B ≤ p) : Sess w' d b k B := by
  obtain ⟨h1, ⟨ms, h2, h3⟩, h4, h5, h6, h7⟩ := h
  exact ⟨h1.grown hg (ht.ne h1.ty n2), ⟨ms, h2.grown hg (ht.ne h2.ty n1), h3⟩, h4, h5.below (Below.of_grown hg hp (by have := h2.lt; omega)), h6, h7⟩

set_option maxRecDepth 100000 in
set_option maxHeartbeats 1000000 in
theorem deskDet_ok (d b B BM k n : Nat) (v : Value) (gs : Nat → Nat) (e : Nat → Nat → Int) (w : World) (hse : Sess w d b k B) (hk : k < 24) (hm : Mat BM w v n n gs e) (hn : n ≤ 4) (hs : Small n e) :
    Calls Tryd.prog 10 #[.pointer (some ⟨d, 0, none⟩), v, .int .i64 n] w fun x w' => x = .returned (.string ⟨(Lib.itoa (detF n e)).toArray⟩) ∧ Sess w' d b (k + 1) B ∧ w.grownBy w' (some b) := by
  obtain ⟨hd, ⟨ms, hst, hl⟩, hbd, htab, hBb, hBd⟩ := hse
  subst hl
  have hdl := hd.lt
  have hbl := hst.lt
  have H := Hid.mk (And.intro hd (And.intro hst (And.intro hm (And.intro hs htab))))
  clear hd hst hm hs htab
  go_enter Tryd.func10, Tryd.ntmps10
  go_wp2_with fail
  refine (put_ok d b BM n v gs e ms _ H.out.1 H.out.2.1 hk H.out.2.2.1 hn H.out.2.2.2.1).mono ?_
  rintro x w1 ⟨rfl, ⟨ao, m, cap, hst1, hM⟩, hfr⟩
  have hd1 : Dk w1 d b := H.out.1.grown hfr.1 hbd
  have c0 := hd1.cell
  have ht1 : TabB B w1 := H.out.2.2.2.2.below (Below.of_grown hfr.1 hBb (by omega))
  have K := Hid.mk (And.intro hst1 (And.intro hM (And.intro hfr (And.intro hd1 ht1))))
  clear hst1 hM hfr hd1 ht1
  go_wp2_with fail
  refine (storeDet_ok b ms.length n ao m cap (nums n n e) e 21 _ _ K.out.1 (by simp) (by simp [List.getD]) K.out.2.1 hn (by omega) (low_nums n e ?_) (rep_nums n e) K.out.2.2.2.2.tab).mono ?_
  · intro i j hi hj; have := H.out.2.2.2.1 i j hi hj; omega
  rintro x w2 ⟨rfl, hb2⟩
  have K2 := Hid.mk hb2
  clear hb2 c0
  generalize hT : Lib.itoa (detF n e) = T at *
  have HT := Hid.mk hT
  clear hT
  go_wp2_with fail
  go_ret
  have hb2 := K2.out
  rw [HT.out]
  refine ⟨rfl, ?_, grown_below K.out.2.2.1.1 hb2⟩
  have hs1 : Sess w1 d b (ms.length + 1) B := ⟨K.out.2.2.2.1, ⟨_, K.out.1, by simp⟩, hbd, K.out.2.2.2.2, hBb, hBd⟩
  exact hs1.below hb2
end Go.Proofs.YtjhcbenldfplcaaDoor
