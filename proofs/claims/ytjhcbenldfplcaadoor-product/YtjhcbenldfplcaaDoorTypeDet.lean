/- matrices.Store: Type and Det, where nothing is refused. -/
import Derived.Test.YtjhcbenldfplcaaDoorKeep
import Derived.Test.YtjhcbenldfplcaaDoorDet2
import Derived.Test.YtjhcbenldfplcaaDoorNumb
namespace Go.Proofs.YtjhcbenldfplcaaDoor
open Go.RowKit

theorem IsM.keep {w w' : World} {v : Value} {r c L : Nat} {zs : List Int} (h : IsM w v r c zs L) (hk : KT w w') : IsM w' v r c zs L := by
  obtain ⟨h0, h1, sl, h2, h3⟩ := h
  exact ⟨h0, h1, sl, h2, h3.keep hk⟩
/-- The numbers are all below 2^48 in amount. -/
def Low (n : Nat) (zs : List Int) : Prop := ∀ t, t < n → (zs.getD t 0).natAbs < 281474976710656

set_option maxRecDepth 100000 in
set_option maxHeartbeats 1000000 in
theorem type_ok (b : Nat) (s : ByteArray) (r c : Nat) (zs : List Int) (L : Nat) (ms : List (Nat × Nat × Value)) (w : World) (hst : St w b ms) (hn : ms.length < 24) (hs : s.size ≤ 4000) (hw : Writes s r c zs L) (hr : r ≤ 4) (hc : c ≤ 4) (hL : L ≤ 30000) (hz : Low (r * c) zs) :
    Calls Tryd.prog 18 #[.pointer (some ⟨b, 0, none⟩), .string s] w fun e w' => e = .returned (.tuple #[.int .i64 (ms.length : Nat), .int .i64 0]) ∧
      (∃ ao m cap, St w' b (ms ++ [(r, c, .slice ao m cap)]) ∧ IsM w' (.agg #[.int .i64 r, .int .i64 c, .slice ao m cap]) r c zs L) ∧ Fr b w w' := by
  have HS := Hid.mk hst
  have HW := Hid.mk hw
  have HZ := Hid.mk hz
  have hbl := hst.lt
  clear hst hw hz
  go_enter Tryd.func18, Tryd.ntmps18
  go_wp2_with fail
  refine (read_ok s r c zs L _ hs (by omega) (by omega) HW.out).mono ?_
  rintro e w1 ⟨x, rfl, hx, hb1⟩
  obtain ⟨_, _, sl, rfl, hg⟩ := id hx
  obtain ⟨ao, cap, rfl, -⟩ := hg.shape
  clear hg
  obtain ⟨N, hN⟩ : ∃ N, N = r * c := ⟨_, rfl⟩
  rw [← hN] at hx ⊢
  clear hN
  have K1 := Hid.mk (And.intro hx hb1)
  clear hx hb1
  go_wp2_with fail
  refine (tooBig_no _ r c zs L _ (K1.out.1.below ((Below.refl _ _).alloc (Nat.le_refl _) _)) hr hc hL HZ.out).mono ?_
  rintro e w2 ⟨rfl, hb2⟩
  have h12 : Below w1.heap.size w1 w2 := ((Below.refl w1.heap.size w1).alloc (Nat.le_refl _) _).trans (hb2.mono (by simp))
  have h02 : Below w.heap.size w w2 := K1.out.2.trans (h12.mono K1.out.2.size)
  have m0 : w2.cell? ⟨w1.heap.size, 0, none⟩ = some (.int .i64 r) := cell_later hb2 (by simp)
  have m1 : w2.cell? ⟨w1.heap.size, 1, none⟩ = some (.int .i64 c) := cell_later hb2 (by simp)
  have m2 : w2.cell? ⟨w1.heap.size, 2, none⟩ = some (.slice ao N cap) := cell_later hb2 (by simp)
  have K2 := Hid.mk (And.intro (K1.out.1.below h12) h02)
  clear hb2 h12 h02 K1
  go_wp2_with fail
  refine (room_ok b ms _ (HS.out.below K2.out.2)).mono ?_
  rintro e w' ⟨rfl, rfl⟩
  go_wp2_with fail
  refine (keep_ok b r c ao N cap ms _ (HS.out.below K2.out.2) hn).mono ?_
  rintro e w3 ⟨rfl, hS3, hF3⟩
  have K3 := Hid.mk (And.intro hS3 (And.intro (K2.out.1.keep hF3.2) ((Fr.of_below (p := b) K2.out.2).trans hF3)))
  clear hS3 hF3 K2 m0 m1 m2
  go_wp2_with fail
  go_ret2
  exact ⟨rfl, ⟨ao, N, cap, K3.out.1, K3.out.2.1⟩, K3.out.2.2⟩

set_option maxRecDepth 100000 in
set_option maxHeartbeats 1000000 in
theorem storeDet_ok (b h n : Nat) (ao : Option Addr) (m cap : Nat) (zs : List Int) (f : Nat → Nat → Int) (L : Nat) (ms : List (Nat × Nat × Value)) (w : World) (hst : St w b ms) (hh : h < ms.length) (hm : ms.getD h (0, 0, .slice none 0 0) = (n, n, .slice ao m cap))
    (hM : IsM w (.agg #[.int .i64 n, .int .i64 n, .slice ao m cap]) n n zs L) (hn : n ≤ 4) (hL : L ≤ 100) (hz : Low (n * n) zs) (hrep : Rep n zs f) (htab : Tab w) :
    Calls Tryd.prog 16 #[.pointer (some ⟨b, 0, none⟩), .int .i64 h] w fun e w' => e = .returned (.tuple #[.string ⟨(Lib.itoa (detF n f)).toArray⟩, .int .i64 0]) ∧ Below w.heap.size w w' := by
  have H := Hid.mk (And.intro hst (And.intro hm (And.intro hM (And.intro hz (And.intro hrep htab)))))
  have hsq : ((n : Int) == (n : Int)) = true := by simp
  have hLD : LD L n ≤ 1000 := by
    have : ∀ k, k ≤ 4 → LD L k ≤ 2 + k * (L + 4) := by
      intro k
      induction k with
      | zero => intro _; simp [LD]
      | succ k ih => intro hk; have := ih (by omega); rw [LD, Nat.succ_mul]; omega
    have h1 := this n hn
    have h2 : n * (L + 4) ≤ 4 * 104 := Nat.mul_le_mul hn (by omega)
    omega
  clear hst hm hM hz hrep htab
  go_enter Tryd.func16, Tryd.ntmps16
  go_wp2_with fail
  refine (find_ok b h n n ao m cap ms _ H.out.1 hh H.out.2.1).mono ?_
  rintro e w1 ⟨rfl, hb1⟩
  have K1 := Hid.mk hb1
  clear hb1
  go_wp2_with fail
  refine (isSquare_raw _ _ _ _ _ _).mono ?_
  rintro e w' ⟨rfl, rfl⟩
  rw [hsq]
  go_wp2_with fail
  refine (tooBig_no _ n n zs L _ (H.out.2.2.1.below ?_) hn hn (by omega) H.out.2.2.2.1).mono ?_
  · refine K1.out.trans ?_
    exact (((Below.refl w1.heap.size w1).alloc (Nat.le_refl _) _).alloc (by simp) _).mono K1.out.size
  rintro e w2 ⟨rfl, hb2⟩
  have h02 : Below w.heap.size w w2 := (K1.out.trans ((((Below.refl w1.heap.size w1).alloc (Nat.le_refl _) _).alloc (by simp) _).mono K1.out.size)).trans (hb2.mono (by have := K1.out.size; simp; omega))
  have m0 : w2.cell? ⟨w1.heap.size, 0, none⟩ = some (.int .i64 n) := cell_later hb2 (cell1 (by simp) _)
  have m1 : w2.cell? ⟨w1.heap.size, 1, none⟩ = some (.int .i64 n) := cell_later hb2 (cell1 (by simp) _)
  have m2 : w2.cell? ⟨w1.heap.size, 2, none⟩ = some (.slice ao m cap) := cell_later hb2 (cell1 (by simp) _)
  have K2 := Hid.mk h02
  clear hb2 h02 K1
  go_wp2_with fail
  refine (det_any n _ zs f L _ (H.out.2.2.1.below K2.out) H.out.2.2.2.2.1 (by omega) (by omega)).mono ?_
  rintro e w3 ⟨x, rfl, hx, hb3⟩
  have K3 := Hid.mk (And.intro hx (K2.out.trans (hb3.mono K2.out.size)))
  clear hx hb3 K2 m0 m1 m2
  go_wp2_with fail
  refine (decimal_any _ _ _ _ K3.out.1 (by omega) (H.out.2.2.2.2.2.below K3.out.2)).mono ?_
  rintro e w4 ⟨rfl, hb4⟩
  have K4 := Hid.mk (K3.out.2.trans (hb4.mono K3.out.2.size))
  clear hb4 K3
  generalize hT : Lib.itoa (detF n f) = T at *
  have HT := Hid.mk hT
  clear hT
  go_wp2_with fail
  go_ret2
  rw [HT.out]
  exact ⟨rfl, K4.out⟩
end Go.Proofs.YtjhcbenldfplcaaDoor
