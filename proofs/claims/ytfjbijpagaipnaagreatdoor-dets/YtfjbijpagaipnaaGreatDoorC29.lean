import Derived.Test.YtfjbijpagaipnaaGreatDoorC23
import Derived.Test.YtfjbijpagaipnaaGreatDoorC28
namespace Go.Proofs.YtfjbijpagaipnaaGreatDoor
open Go.RowKit R
set_option maxRecDepth 100000 in
set_option maxHeartbeats 4000000 in
theorem step_times0 (B W T b1 b2 : Nat) (ms : List Hm) (nx : Nat) (es : List Ent) (kd a b c : Int) (s t : ByteArray) (w : World) (h : LInv B w W T b1 b2 ms nx es) (hkd : kd = 14) (ha1 : -9223372036854775808 ≤ a) (ha2 : a ≤ 9223372036854775807) (hb1 : -9223372036854775808 ≤ b) (hb2 : b ≤ 9223372036854775807) (hnx : nx < 1000000) :
    Calls Tryz.prog 35 #[.pointer (some ⟨W, 0, none⟩), opV kd a b c s t] w fun x w' => x = .returned (.bool true) ∧ StepOut B w w' W T b1 b2 nx := by
  have H := Hid.mk h
  have hB := h.size
  have HKD := Hid.mk hkd
  clear h hkd
  unfold opV
  obtain ⟨W0, hW0⟩ : ∃ W0, W0 = w.alloc (.cells #[.int .i64 kd, .int .i64 a, .int .i64 b, .int .i64 c, .string s, .string t] 31) := ⟨_, rfl⟩
  have hbW : Below w.heap.size w W0 := by rw [hW0]; exact (Below.refl _ _).alloc (Nat.le_refl _) _
  have hblk : W0.heap[w.heap.size]? = some (.cells #[.int .i64 kd, .int .i64 a, .int .i64 b, .int .i64 c, .string s, .string t] 31 (0, 0)) := by rw [hW0]; exact heap_alloc_new w _
  have hsz : W0.heap.size = w.heap.size + 1 := by rw [hW0]; simp
  have H0 := Hid.mk (And.intro hbW (And.intro hblk hW0))
  clear hbW hblk hW0
  go_enter Tryz.func35, Tryz.ntmps35
  go_wp2_with fail
  rw [← H0.out.2.2]
  refine (handle_any B W T b1 b2 ms nx es a c _ (H.out.below H0.out.1) ha1 ha2).mono ?_
  rintro x w1 ⟨⟨hh, rfl⟩, hb1'⟩
  have hblk1 : w1.heap[w.heap.size]? = some (.cells #[.int .i64 kd, .int .i64 a, .int .i64 b, .int .i64 c, .string s, .string t] 31 (0, 0)) := by rw [hb1'.block _ (by omega)]; exact H0.out.2.1
  have hbe1 : Below w.heap.size w w1 := H0.out.1.trans (hb1'.mono H0.out.1.size)
  have g0 : w1.cell? ⟨w.heap.size, 0, none⟩ = some (.int .i64 kd) := by simp [World.cell?, hblk1]
  have g2 : w1.cell? ⟨w.heap.size, 2, none⟩ = some (.int .i64 b) := by simp [World.cell?, hblk1]
  have g3 : w1.cell? ⟨w.heap.size, 3, none⟩ = some (.int .i64 c) := by simp [World.cell?, hblk1]
  have hs1 := hb1'.size
  have K1 := Hid.mk (And.intro hbe1 hblk1)
  clear hb1' hblk1 hbe1
  go_wp2_with fail
  refine (handle_any B W T b1 b2 ms nx es b c _ (H.out.below K1.out.1) hb1 hb2).mono ?_
  rintro x w2 ⟨⟨hh2, rfl⟩, hb2'⟩
  have hblk2 : w2.heap[w.heap.size]? = some (.cells #[.int .i64 kd, .int .i64 a, .int .i64 b, .int .i64 c, .string s, .string t] 31 (0, 0)) := by rw [hb2'.block _ (by omega)]; exact K1.out.2
  have hbe2 : Below w.heap.size w w2 := K1.out.1.trans (hb2'.mono K1.out.1.size)
  clear g0 g2 g3
  have g0 : w2.cell? ⟨w.heap.size, 0, none⟩ = some (.int .i64 kd) := by simp [World.cell?, hblk2]
  have g4 : w2.cell? ⟨w.heap.size, 4, none⟩ = some (.string s) := by simp [World.cell?, hblk2]
  have K2 := Hid.mk (And.intro hbe2 (H.out.below hbe2))
  clear hb2' hblk2 hbe2
  obtain rfl := HKD.out
  go_wp2_with fail
  refine (times_any B W T b1 b2 ms nx es hh hh2 _ K2.out.2 hnx).mono ?_
  rintro x w3 ⟨rfl, ho⟩
  have HO := Hid.mk (ho.after (K2.out.1.mono hB))
  clear ho
  go_wp2_with fail
  go_ret
  exact ⟨rfl, HO.out⟩
theorem step_times : StepOk (fun kd => kd = 14) := fun B W T b1 b2 ms nx es kd a b c s t w h hkd ha1 ha2 hb1 hb2 _ hnx => step_times0 B W T b1 b2 ms nx es kd a b c s t w h hkd ha1 ha2 hb1 hb2 (by omega)
end Go.Proofs.YtfjbijpagaipnaaGreatDoor
