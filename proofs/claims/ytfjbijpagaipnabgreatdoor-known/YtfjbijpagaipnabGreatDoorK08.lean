import Derived.Test.YtfjbijpagaipnabGreatDoorK07
namespace Go.Proofs.YtfjbijpagaipnabGreatDoor
open Go.RowKit
def tkR (f : Nat → Nat → Int) (a b : Nat) (z : Int) (i j : Nat) : Int := if i = a then f a j - f b j * z else f i j
def tkC (f : Nat → Nat → Int) (a b : Nat) (z : Int) (i j : Nat) : Int := if j = b then f i b - f i a * (-z) else f i j
set_option maxRecDepth 100000 in
set_option maxHeartbeats 1000000 in
theorem ftake_any (B p gH gU gW r c k a b : Nat) (hs us ws : List Int) (L M : Nat) (x : Value) (z : Int) (w : World) (h : FormO w B p gH gU gW r c k hs us ws L) (hx : IsI w x z M) (hL : L ≤ 200000000) (hM : M ≤ 200000000) (ha : a < r) (hb : b < r) (hab : a ≠ b) :
 Calls Tryz.prog 136 #[.pointer (some ⟨p, 0, none⟩), .int .i64 a, .int .i64 b, x] w fun e w' => e = .returned (.tuple #[]) ∧ FormS w w' B p gH gU gW r c k (tkR (ent c hs) a b z) (tkR (ent r us) a b z) (tkC (ent r ws) a b z) (L + M + 1) := by
 have F := Hid.mk (And.intro h (And.intro (h.mono (show L ≤ L + M + 1 by omega)) hx))
 obtain ⟨nbx, sox, nx, cpx, rfl⟩ := hx.shape
 clear h hx
 go_enter Tryz.func136, Tryz.ntmps136
 go_wp2_with fail
 have hb0 := (Below.refl w.heap.size w).alloc (Nat.le_refl _) (.cells #[.bool nbx, .slice sox nx cpx] 79)
 have hD0 := Duo.new w (.bool nbx) (.slice sox nx cpx) rfl
 obtain ⟨W0, hW0⟩ : ∃ W0, W0 = w.alloc (.cells #[.bool nbx, .slice sox nx cpx] 79) := ⟨_, rfl⟩
 rw [← hW0] at hb0 hD0 ⊢
 have hs0 : W0.heap.size = w.heap.size + 1 := by rw [hW0]; simp
 have hBw := F.out.1.ble
 have G := Hid.mk (And.intro (F.out.1.later hb0) (And.intro (F.out.2.1.later hb0) (And.intro (F.out.2.2.below hb0) (And.intro hD0 hb0))))
 clear hb0 hD0 hW0
 have hgl := F.out.1.H.glt
 have hgu := F.out.1.U.glt
 have hgw := F.out.1.W.glt
 have HC := Hid.mk G.out.2.2.2.1.cells
 have hbd : Below W0.heap.size W0 W0.drew := (Below.refl _ _).drew
 go_region_held3 (fun w' => w'.cell? ⟨w.heap.size, 0, none⟩ = some (.bool nbx) ∧ w'.cell? ⟨w.heap.size, 1, none⟩ = some (.slice sox nx cpx))
  (first | exact hS1 | exact ⟨HC.out.1, HC.out.2.1⟩)
  (first | (go_at_call 108; refine (takeRow_any p 0 gH r c a b hs L M _ z _ (G.out.1.H.later hbd) (G.out.2.2.1.below hbd) hL hM F.out.1.d1 ha hb hab).mono ?_; rintro e w1 ⟨rfl, ⟨hs1, hM1, hf1⟩, hg1⟩; have hD1 : Duo w1 w.heap.size (.bool nbx) (.slice sox nx cpx) := (hg1.block _ (show w.heap.size < W0.heap.size by omega) (fun e => by injection e with e; omega)).trans G.out.2.2.2.1; have hS1 := And.intro hD1.cells.1 hD1.cells.2.1))
 obtain ⟨F1, b1⟩ := (G.out.2.1.later hbd).setH hM1 hg1
 have hk1 : KU W0.drew w1 := KU.of_grown hg1 (G.out.1.H.later hbd).grid.ty (by decide)
 have hU0 : MatO w1 p 3 gU r r us L := (G.out.1.U.later hbd).other hg1 hk1 F.out.1.d1 (fun e => F.out.1.d4 e.symm)
 have hW0 : MatO w1 p 6 gW r r ws L := (G.out.1.W.later hbd).other hg1 hk1 F.out.1.d1 (fun e => F.out.1.d5 e.symm)
 have hs1s : W0.heap.size ≤ w1.heap.size := hg1.size
 have K1 := Hid.mk (And.intro F1 (And.intro b1 (And.intro hf1 (And.intro ((G.out.2.2.1.below hbd).keep hk1) (And.intro hU0 (And.intro hW0 hD1))))))
 have hbd1 : Below w1.heap.size w1 w1.drew := (Below.refl _ _).drew
 clear hM1 hf1 hg1 F1 b1 hk1 hD1 hU0 hW0 hS1
 go_wp2_with fail
 go_region_held3 (fun w' => w'.cell? ⟨w.heap.size, 0, none⟩ = some (.bool nbx) ∧ w'.cell? ⟨w.heap.size, 1, none⟩ = some (.slice sox nx cpx))
  (first | exact hS2 | exact ⟨K1.out.2.2.2.2.2.2.cells.1, K1.out.2.2.2.2.2.2.cells.2.1⟩)
  (first | (go_at_call 108; refine (takeRow_any p 3 gU r r a b us L M _ z _ (K1.out.2.2.2.2.1.later hbd1) (K1.out.2.2.2.1.below hbd1) hL hM F.out.1.d2 ha hb hab).mono ?_; rintro e w2 ⟨rfl, ⟨us1, hM2, hf2⟩, hg2⟩; have hD2 : Duo w2 w.heap.size (.bool nbx) (.slice sox nx cpx) := (hg2.block _ (show w.heap.size < w1.heap.size by omega) (fun e => by injection e with e; omega)).trans K1.out.2.2.2.2.2.2; have hS2 := And.intro hD2.cells.1 hD2.cells.2.1))
 obtain ⟨F2, b2⟩ := (K1.out.1.later hbd1).setU hM2 hg2
 have hk2 : KU w1.drew w2 := KU.of_grown hg2 (K1.out.1.later hbd1).U.grid.ty (by decide)
 have hW0 : MatO w2 p 6 gW r r ws L := (K1.out.2.2.2.2.2.1.later hbd1).other hg2 hk2 F.out.1.d2 (fun e => F.out.1.d6 e.symm)
 obtain ⟨x0, x1⟩ := hS2
 have hs2s : w1.heap.size ≤ w2.heap.size := hg2.size
 have hbB2 : Chg3 W0 w2 gH gU gW := ((Chg3.of_below _ _ _ hbd).trans K1.out.2.1).trans ((Chg3.of_below _ _ _ hbd1).trans b2)
 have K2 := Hid.mk (And.intro F2 (And.intro hbB2 (And.intro hf2 (And.intro ((K1.out.2.2.2.1.below hbd1).keep hk2) hW0))))
 clear hM2 hf2 hg2 F2 b2 hk2 hD2 hW0 hbB2
 go_wp2_with fail
 refine (neg_any _ z M _ K2.out.2.2.2.1).mono ?_
 rintro e w3 ⟨x3, rfl, hx3, hb3⟩
 obtain ⟨nb3, so3, n3, cp3, rfl⟩ := hx3.shape
 have hb33 := (Below.refl w3.heap.size w3).alloc (Nat.le_refl _) (.cells #[.bool nb3, .slice so3 n3 cp3] 79)
 have hb3' := hb3.trans (hb33.mono hb3.size)
 have hD3 := Duo.new w3 (.bool nb3) (.slice so3 n3 cp3) rfl
 obtain ⟨W3, hW3⟩ : ∃ W3, W3 = w3.alloc (.cells #[.bool nb3, .slice so3 n3 cp3] 79) := ⟨_, rfl⟩
 have hs3 : W3.heap.size = w3.heap.size + 1 := by rw [hW3]; simp
 rw [← hW3] at hb33 hb3' hD3
 have hw3s : w2.heap.size ≤ w3.heap.size := hb3.size
 have K3 := Hid.mk (And.intro (hx3.below hb33) (And.intro (K2.out.1.later hb3') (And.intro (K2.out.2.1.trans (Chg3.of_below _ _ _ hb3')) (And.intro (K2.out.2.2.2.2.later hb3') (And.intro hD3 hW3)))))
 have hbd3 : Below W3.heap.size W3 W3.drew := (Below.refl _ _).drew
 clear hx3 hb3 hb33 hb3' x0 x1 hD3 hW3
 go_wp2_with fail
 rw [← K3.out.2.2.2.2.2]
 go_region_held3 (fun w' => w'.cell? ⟨w3.heap.size, 0, none⟩ = some (.bool nb3) ∧ w'.cell? ⟨w3.heap.size, 1, none⟩ = some (.slice so3 n3 cp3))
  (first | exact hS4 | exact ⟨K3.out.2.2.2.2.1.cells.1, K3.out.2.2.2.2.1.cells.2.1⟩)
  (first | (go_at_call 107; refine (takeCol_any p 6 gW r r b a ws L M _ (-z) _ (K3.out.2.2.2.1.later hbd3) (K3.out.1.below hbd3) hL hM F.out.1.d3 hb ha (fun e => hab e.symm)).mono ?_; rintro e w4 ⟨rfl, ⟨ws1, hM4, hf4⟩, hg4⟩; have hD4 : Duo w4 w3.heap.size (.bool nb3) (.slice so3 n3 cp3) := (hg4.block _ (show w3.heap.size < W3.heap.size by omega) (fun e => by injection e with e; omega)).trans K3.out.2.2.2.2.1; have hS4 := And.intro hD4.cells.1 hD4.cells.2.1))
 obtain ⟨F4, b4⟩ := (K3.out.2.1.later hbd3).setW hM4 hg4
 have K4 := Hid.mk (And.intro F4 (And.intro (((Chg3.of_below _ _ _ G.out.2.2.2.2).trans K3.out.2.2.1).trans ((Chg3.of_below _ _ _ hbd3).trans b4)) hf4))
 clear hM4 hf4 hg4 F4 b4 hS4 hD4
 go_wp2_with fail
 go_end0
 exact ⟨rfl, hs1, us1, ws1, K4.out.1, K4.out.2.1, K1.out.2.2.1, K2.out.2.2.1, K4.out.2.2⟩
open Go.RowKit
theorem fdiv_le (x y : Int) : (x.fdiv y).natAbs ≤ x.natAbs := by
 by_cases hy : y = 0
 ·subst hy; simp
 ·by_cases hs : (x < 0 ↔ y < 0)
  ·rw [fdiv_same (by omega), Int.natAbs_natCast]
   exact Nat.div_le_self _ _
  ·rw [fdiv_off hy (by omega), Int.natAbs_neg, Int.natAbs_natCast]
   have hy1 : 0 < y.natAbs := by omega
   have h1 := Nat.div_add_mod x.natAbs y.natAbs
   have h2 := Nat.mod_lt x.natAbs hy1
   generalize hq : x.natAbs / y.natAbs = q at *
   split
   ·rw [← hq]; exact Nat.div_le_self _ _
   ·have h3 : q * 1 ≤ y.natAbs * q := by rw [Nat.mul_comm q 1]; exact Nat.mul_le_mul_right q hy1
    omega
def wsum (first : Nat) (q f : Nat → Int) : Nat → Int
 | 0 => 0
 | n + 1 => wsum first q f n + (if first ≤ n then f n * q n else 0)
theorem wsum_le {first : Nat} {q f : Nat → Int} {Q X : Nat} (n : Nat) (hq : ∀ k, first ≤ k → k < n → (q k).natAbs ≤ Q) (hf : ∀ k, first ≤ k → k < n → (f k).natAbs ≤ X) : (wsum first q f n).natAbs ≤ (n - first) * (Q * X) := by
 induction n with
 | zero => simp [wsum]
 | succ n ih =>
   rw [wsum]
   have h1 := ih (fun k a b => hq k a (by omega)) (fun k a b => hf k a (by omega))
   by_cases hn : first ≤ n
   ·rw [if_pos hn]
    have h2 : (f n * q n).natAbs ≤ Q * X := by rw [Int.natAbs_mul, Nat.mul_comm Q X]; exact Nat.mul_le_mul (hf n hn (by omega)) (hq n hn (by omega))
    have h3 : (n + 1 - first) * (Q * X) = (n - first) * (Q * X) + Q * X := by rw [show n + 1 - first = n - first + 1 from by omega, Nat.add_mul, Nat.one_mul]
    have := Int.natAbs_add_le (wsum first q f n) (f n * q n)
    omega
   ·rw [if_neg hn, Int.add_zero]
    refine Nat.le_trans h1 (Nat.mul_le_mul_right _ (by omega))
def lsH (f : Nat → Nat → Int) (q : Nat → Int) (first e p : Nat) (i j : Nat) : Int := if first ≤ i ∧ i < e then f i j - f p j * q i else f i j
def lsW (f : Nat → Nat → Int) (q : Nat → Int) (first e p : Nat) (i j : Nat) : Int := if j = p then f i p + wsum first q (f i) e else f i j
theorem lsH_step {f : Nat → Nat → Int} {q : Nat → Int} {first e p : Nat} (h1 : first ≤ e) (hp : ¬ (first ≤ p ∧ p < e + 1)) (i j : Nat) : tkR (lsH f q first e p) e p (q e) i j = lsH f q first (e + 1) p i j := by
 unfold tkR lsH
 by_cases hie : i = e
 ·subst hie
  rw [if_pos rfl, if_neg (by omega), if_neg (by omega), if_pos (by omega)]
 ·rw [if_neg hie]
  by_cases h2 : first ≤ i ∧ i < e
  ·rw [if_pos h2, if_pos (by omega)]
  ·rw [if_neg h2, if_neg (by omega)]
theorem lsW_step {f : Nat → Nat → Int} {q : Nat → Int} {first e p : Nat} (h1 : first ≤ e) (hp : e ≠ p) (i j : Nat) : tkC (lsW f q first e p) e p (q e) i j = lsW f q first (e + 1) p i j := by
 unfold tkC lsW
 by_cases hjp : j = p
 ·rw [if_pos hjp, if_pos hjp, if_pos rfl, if_neg hp, wsum, if_pos h1]
  grind
 ·rw [if_neg hjp, if_neg hjp, if_neg hjp]
theorem pow_K (L : Nat) : 4294967296 ^ (2 * L + 1) = 4294967296 * (4294967296 ^ L * 4294967296 ^ L) := by
 rw [show 2 * L + 1 = L + L + 1 from by omega, Nat.pow_succ, Nat.pow_add, Nat.mul_comm]
theorem lsH_lt {f : Nat → Nat → Int} {q : Nat → Int} {first e p L i j : Nat} (h1 : (f i j).natAbs < 4294967296 ^ L) (h2 : (f p j).natAbs < 4294967296 ^ L) (hq : (q i).natAbs < 4294967296 ^ L) : (lsH f q first e p i j).natAbs < 4294967296 ^ (2 * L + 1) := by
 rw [pow_K]
 generalize 4294967296 ^ L = V at *
 have hV : V * 1 ≤ V * V := Nat.mul_le_mul_left V (by omega)
 unfold lsH
 split
 ·have h3 : (f p j * q i).natAbs ≤ V * V := by rw [Int.natAbs_mul]; exact Nat.mul_le_mul (by omega) (by omega)
  have := Int.natAbs_sub_le (f i j) (f p j * q i)
  generalize V * V = VV at *
  omega
 ·generalize V * V = VV at *
  omega
theorem lsW_lt {f : Nat → Nat → Int} {q : Nat → Int} {first e p L i j : Nat} (he : e ≤ 99) (h1 : ∀ k, k < e → (f i k).natAbs < 4294967296 ^ L) (h2 : (f i j).natAbs < 4294967296 ^ L) (hq : ∀ k, k < e → (q k).natAbs < 4294967296 ^ L) : (lsW f q first e p i j).natAbs < 4294967296 ^ (2 * L + 1) := by
 rw [pow_K]
 generalize 4294967296 ^ L = V at *
 have hV : V * 1 ≤ V * V := Nat.mul_le_mul_left V (by omega)
 unfold lsW
 split
 ·rename_i hj
  subst hj
  have h3 := wsum_le (first := first) (q := q) (f := f i) (Q := V) (X := V) e (fun k _ hk => by have := hq k hk; omega) (fun k _ hk => by have := h1 k hk; omega)
  have h4 : (e - first) * (V * V) ≤ 99 * (V * V) := Nat.mul_le_mul_right _ (by omega)
  have := Int.natAbs_add_le (f i j) (wsum first q (f i) e)
  generalize V * V = VV at *
  omega
 ·generalize V * V = VV at *
  omega
set_option maxRecDepth 100000 in
set_option maxHeartbeats 4000000 in
theorem lessen_any (B pb gH gU gW r c k first end_ p col : Nat) (hs us ws : List Int) (L : Nat) (w : World) (h : FormO w B pb gH gU gW r c k hs us ws L) (hL : L ≤ 60000000) (hfe : first ≤ end_) (her : end_ ≤ r) (hp : p < r) (hpn : ¬ (first ≤ p ∧ p < end_)) (hcol : col < c) (q : Nat → Int) (hq : q = fun i => (ent c hs i col).fdiv (ent c hs p col)) :
 Calls Tryz.prog 95 #[.pointer (some ⟨pb, 0, none⟩), .int .i64 first, .int .i64 end_, .int .i64 p, .int .i64 col] w fun e w' => e = .returned (.tuple #[]) ∧ FormS w w' B pb gH gU gW r c k (lsH (ent c hs) q first end_ p) (lsH (ent r us) q first end_ p) (lsW (ent r ws) q first end_ p) (2 * L + 1) := by
 have F := Hid.mk h
 have HQ := Hid.mk hq
 have hr := h.H.hr
 have hc := h.H.hc
 obtain ⟨q0, q1, q2⟩ := h.H.tri
 have hpl := h.H.plt
 clear h hq
 go_enter Tryz.func95, Tryz.ntmps95
 go_wp2_with fail
 refine (at_in _ r c p col hs L _ F.out.H.isM hp hcol).mono ?_
 rintro e w1 ⟨x1, rfl, hx1, hb1⟩
 obtain ⟨nb1, so1, n1, cp1, rfl⟩ := hx1.shape
 have hb11 := (Below.refl w1.heap.size w1).alloc (Nat.le_refl _) (.cells #[.bool nb1, .slice so1 n1 cp1] 79)
 have hD1 := Duo.new w1 (.bool nb1) (.slice so1 n1 cp1) rfl
 obtain ⟨W1, hW1⟩ : ∃ W1, W1 = w1.alloc (.cells #[.bool nb1, .slice so1 n1 cp1] 79) := ⟨_, rfl⟩
 rw [← hW1] at hb11 hD1
 have hs1 : W1.heap.size = w1.heap.size + 1 := by rw [hW1]; simp
 have hw1 := hb1.size
 have hbw := hb1.trans (hb11.mono hw1)
 have hBw := F.out.ble
 have G := Hid.mk (And.intro (F.out.later hbw) (And.intro (hx1.below hb11) (And.intro hD1 (And.intro hbw hW1))))
 clear hx1 hb1 hb11 hD1 hW1 hbw q0 q1 q2
 go_wp2_with fail
 rw [← G.out.2.2.2.2]
 have hgH := F.out.H.glt
 have hgU := F.out.U.glt
 have hgW := F.out.W.glt
 have hHas : ∀ i j, i < r → j < c → (ent c hs i j).natAbs < 4294967296 ^ L := fun i j hi hj => (F.out.H.has hi hj).lt
 have hHasU : ∀ i j, i < r → j < r → (ent r us i j).natAbs < 4294967296 ^ L := fun i j hi hj => (F.out.U.has hi hj).lt
 have hHasW : ∀ i j, i < r → j < r → (ent r ws i j).natAbs < 4294967296 ^ L := fun i j hi hj => (F.out.W.has hi hj).lt
 have hqlt : ∀ i, i < r → (q i).natAbs < 4294967296 ^ L := fun i hi => by
  rw [HQ.out]
  exact Nat.lt_of_le_of_lt (fdiv_le _ _) (hHas i col hi hcol)
 have HB := Hid.mk (And.intro hHas (And.intro hHasU (And.intro hHasW hqlt)))
 clear hHas hHasU hHasW hqlt
 go_loopw [11] (fun i wr => ∃ (e : Nat) (hs1 us1 ws1 : List Int), first ≤ e ∧ e ≤ end_ ∧ i = .int .i64 e ∧ Hid (FormO wr B pb gH gU gW r c k hs1 us1 ws1 (2 * L + 1) ∧ Chg3 W1 wr gH gU gW ∧ (∀ i j, i < r → j < c → ent c hs1 i j = lsH (ent c hs) q first e p i j) ∧ (∀ i j, i < r → j < r → ent r us1 i j = lsH (ent r us) q first e p i j) ∧ (∀ i j, i < r → j < r → ent r ws1 i j = lsW (ent r ws) q first e p i j))) (fun i _ => end_ - (intOf i).toNat)
 case atStart =>
  refine ⟨first, hs, us, ws, Nat.le_refl _, hfe, rfl, Hid.mk ⟨G.out.1.mono (by omega), Chg3.refl _ _ _ _, fun i j _ _ => ?_, fun i j _ _ => ?_, fun i j _ _ => ?_⟩⟩
  ·unfold lsH; rw [if_neg (by omega)]
  ·unfold lsH; rw [if_neg (by omega)]
  ·unfold lsW
   split
   ·rename_i hj
    subst hj
    have : wsum first q (ent r ws i) first = 0 := by
     have := wsum_le (first := first) (q := q) (f := ent r ws i) (Q := 0) (X := 0) first (fun k _ _ => by omega) (fun k _ _ => by omega)
     omega
    omega
   ·rfl
 case round =>
  obtain ⟨e, hs1, us1, ws1, he1, he2, rfl, HI⟩ := hrel
  obtain ⟨q0, q1, q2⟩ := HI.out.1.H.tri
  have hwr := HI.out.2.1.size
  have hpl2 := HI.out.1.H.plt
  have hB1 : Duo wr w1.heap.size (.bool nb1) (.slice so1 n1 cp1) := (HI.out.2.1.block _ (by omega) (by omega) (by omega) (by omega)).trans G.out.2.2.1
  have hI1 := G.out.2.1.keep (G.out.1.ku HI.out.2.1)
  have K := Hid.mk (And.intro hB1 hI1)
  clear hB1 hI1
  by_cases hee : e < end_
  ·have hei : (e : Int) < (end_ : Int) := by omega
   have her1 : e < r := by omega
   have hep : e ≠ p := by omega
   have HEA : Hid (Has (hs1.getD (e * c + col) 0) L ∧ hs1.getD (e * c + col) 0 = ent c hs e col) := Hid.mk (by
    have h1 := HI.out.2.2.1 e col her1 hcol
    unfold lsH at h1
    rw [if_neg (by omega)] at h1
    have h3 : hs1.getD (e * c + col) 0 = ent c hs e col := h1
    rw [h3]
    exact ⟨F.out.H.has her1 hcol, rfl⟩)
   have HC1 := Hid.mk (show ∀ w', Below wr.heap.size wr w' → w'.cell? ⟨pb, 0, none⟩ = some (.int .i64 r) ∧ w'.cell? ⟨pb, 1, none⟩ = some (.int .i64 c) ∧ w'.cell? ⟨pb, 2, none⟩ = some (.slice (some ⟨gH, 0, none⟩) (r * c) (r * c)) ∧ w'.cell? ⟨w1.heap.size, 0, none⟩ = some (.bool nb1) ∧ w'.cell? ⟨w1.heap.size, 1, none⟩ = some (.slice so1 n1 cp1) from
    fun w' hb => ⟨(HI.out.1.H.tri.later hb).1, (HI.out.1.H.tri.later hb).2.1, (HI.out.1.H.tri.later hb).2.2, cell_later hb K.out.1.cells.1, cell_later hb K.out.1.cells.2.1⟩)
   have hL1 : L ≤ 400000000 := by omega
   go_upto_region 4 with fail
   go_cut [12] from 26 to 35 (fun pv wx => PartIn wr ((hs1.getD (e * c + col) 0).fdiv (hs.getD (p * c + col) 0)) (L + 1) pv wx)
   case first =>
    go_region_held3 (fun w' => w'.cell? ⟨pb, 0, none⟩ = some (.int .i64 r) ∧ w'.cell? ⟨pb, 1, none⟩ = some (.int .i64 c) ∧ w'.cell? ⟨pb, 2, none⟩ = some (.slice (some ⟨gH, 0, none⟩) (r * c) (r * c)) ∧ w'.cell? ⟨w1.heap.size, 0, none⟩ = some (.bool nb1) ∧ w'.cell? ⟨w1.heap.size, 1, none⟩ = some (.slice so1 n1 cp1))
     (exact HC1.out _ (by first | exact hbW6 | exact hbW6.alloc hbW6.size _ | exact (hbW6.setCell (Nat.le_refl _) _).setCell (Nat.le_refl _) _ | exact (hbW6.setCell hw5s _).setCell hw5s _ | exact hbW5 | exact hbW5.alloc hbW5.size _ | exact (Below.refl _ _).drew | exact ((Below.refl _ _).alloc (Nat.le_refl _) _).drew))
     (first
       | (go_at_call 64; refine (at_in _ r c e col hs1 (2 * L + 1) _ (HI.out.1.H.isM.below ((Below.refl _ _).drew)) her1 hcol).mono ?_; rintro e9 w5 ⟨x5, rfl, hx5, hb5⟩; replace hx5 := HEA.out.1.tighten hx5; obtain ⟨nb5, so5, n5, cp5, rfl⟩ := hx5.shape; have hbW5 : Below wr.heap.size wr w5 := ((Below.refl _ _).drew).trans hb5; clear hb5)
       | (go_at_call 64; refine (at_in _ r c e col hs1 (2 * L + 1) _ (HI.out.1.H.isM.below (((Below.refl _ _).alloc (Nat.le_refl _) _).drew)) her1 hcol).mono ?_; rintro e9 w5 ⟨x5, rfl, hx5, hb5⟩; replace hx5 := HEA.out.1.tighten hx5; obtain ⟨nb5, so5, n5, cp5, rfl⟩ := hx5.shape; have hbW5 : Below wr.heap.size wr w5 := (((Below.refl _ _).alloc (Nat.le_refl _) _).drew).trans (hb5.mono (by simp)); have hD5 : Duo w5 wr.heap.size (.bool false) (.slice none 0 0) := Duo.below (Duo.drew (Duo.alloc_new wr)) hb5 (by simp); clear hb5)
       | (go_at_call 135; refine (quot_any _ _ (hs1.getD (e * c + col) 0) (hs.getD (p * c + col) 0) L L _ hx5 (K.out.2.below hbW5) hL1 hL1).mono ?_; rintro e9 w6 ⟨x6, rfl, hx6, hb6⟩; obtain ⟨nb6, so6, n6, cp6, rfl⟩ := hx6.shape; have hbW6 : Below wr.heap.size wr w6 := hbW5.trans (hb6.mono hbW5.size); have hD6 : Duo w6 wr.heap.size (.bool false) (.slice none 0 0) := hD5.below hb6 (Array.getElem?_eq_some_iff.1 hD5).1; have hD6c := hD6.cells; clear hb6)
       | (go_at_call 135; refine (quot_any _ _ (hs1.getD (e * c + col) 0) (hs.getD (p * c + col) 0) L L _ hx5 (K.out.2.below hbW5) hL1 hL1).mono ?_; rintro e9 w6 ⟨x6, rfl, hx6, hb6⟩; obtain ⟨nb6, so6, n6, cp6, rfl⟩ := hx6.shape; have hbW6 : Below wr.heap.size wr w6 := hbW5.trans (hb6.mono hbW5.size); clear hb6)
       | (go_at_call 135; refine (quot_any _ _ (hs1.getD (e * c + col) 0) (hs.getD (p * c + col) 0) L L _ (hx5.below ((Below.refl w5.heap.size w5).alloc (Nat.le_refl _) _)) ((K.out.2.below hbW5).below ((Below.refl w5.heap.size w5).alloc (Nat.le_refl _) _)) hL1 hL1).mono ?_; rintro e9 w6 ⟨x6, rfl, hx6, hb6⟩; obtain ⟨nb6, so6, n6, cp6, rfl⟩ := hx6.shape; have hbW6 : Below wr.heap.size wr w6 := hbW5.trans ((((Below.refl w5.heap.size w5).alloc (Nat.le_refl _) _).trans (hb6.mono (by simp))).mono hbW5.size); have hw5s := hbW5.size; have hD6 : Duo w6 w5.heap.size (.bool false) (.slice none 0 0) := Duo.below (Duo.alloc_new w5) hb6 (by simp); have hD6c := hD6.cells; clear hb6))
    all_goals
     go_wp2_with fail
     go_meet
     case rel =>
      first
       | exact ⟨_, _, _, _, _, rfl, hbW6.size, Duo.new _ _ _ rfl, hx6.below ((Below.refl _ _).alloc (Nat.le_refl _) _), hbW6.alloc hbW6.size _⟩
       | exact ⟨_, _, _, _, _, rfl, Nat.le_refl _, hD6.put _ _, hx6.duo hD6 _ _, (hbW6.setCell (Nat.le_refl _) _).setCell (Nat.le_refl _) _⟩
       | exact ⟨_, _, _, _, _, rfl, hw5s, hD6.put _ _, hx6.duo hD6 _ _, (hbW6.setCell hw5s _).setCell hw5s _⟩
   case rest =>
    rename World => w3
    obtain ⟨pb3, nb3, so3, n3, cp3, rfl, hpb3, hD3, hI3, hb3⟩ := hcut
    have hqe : (hs1.getD (e * c + col) 0).fdiv (hs.getD (p * c + col) 0) = q e := by rw [HEA.out.2, HQ.out]; rfl
    rw [hqe] at hI3
    have hI3' := hI3.fit (HB.out.2.2.2 e her1)
    obtain ⟨y0, y1, -, -⟩ := hD3.cells
    have K3 := Hid.mk (And.intro hI3' hb3)
    clear hqe hI3 hI3' hD3 hb3 q0 q1 q2
    go_wp2_with fail
    refine (ftake_any B pb gH gU gW r c k e p hs1 us1 ws1 (2 * L + 1) L _ (q e) _ (HI.out.1.later K3.out.2) K3.out.1 (by omega) (by omega) her1 hp hep).mono ?_
    rintro e9 w4 ⟨rfl, hs2, us2, ws2, hF4, hc4, h1, h2, h3⟩
    have K4 := Hid.mk (And.intro hF4 (And.intro hc4 (And.intro h1 (And.intro h2 h3))))
    clear hF4 hc4 h1 h2 h3 y0 y1
    go_wp2_with fail
    go_roundw
    case measure => simp [intOf]; omega
    case rel =>
     obtain ⟨hF4, hc4, h1, h2, h3⟩ := K4.out
     obtain ⟨i1, i2, i3, i4, i5⟩ := HI.out
     have j1 : ∀ i j, i < r → j < c → ent c hs2 i j = lsH (ent c hs) q first (e + 1) p i j := fun i j hi hj => by
      rw [h1 i j hi hj, ← lsH_step he1 (by omega) i j]
      unfold tkR
      rw [i3 e j her1 hj, i3 p j hp hj, i3 i j hi hj]
     have j2 : ∀ i j, i < r → j < r → ent r us2 i j = lsH (ent r us) q first (e + 1) p i j := fun i j hi hj => by
      rw [h2 i j hi hj, ← lsH_step he1 (by omega) i j]
      unfold tkR
      rw [i4 e j her1 hj, i4 p j hp hj, i4 i j hi hj]
     have j3 : ∀ i j, i < r → j < r → ent r ws2 i j = lsW (ent r ws) q first (e + 1) p i j := fun i j hi hj => by
      rw [h3 i j hi hj, ← lsW_step he1 hep i j]
      unfold tkC
      rw [i5 i p hi hp, i5 i e hi her1, i5 i j hi hj]
     obtain ⟨b1, b2, b3, b4⟩ := HB.out
     refine ⟨e + 1, hs2, us2, ws2, by omega, by omega, by go_num, Hid.mk ⟨hF4.fit (fun i j hi hj => ?_) (fun i j hi hj => ?_) (fun i j hi hj => ?_), (i2.trans (Chg3.of_below _ _ _ K3.out.2)).trans hc4, j1, j2, j3⟩⟩
     ·rw [j1 i j hi hj]; exact lsH_lt (b1 i j hi hj) (b1 p j hp hj) (b4 i hi)
     ·rw [j2 i j hi hj]; exact lsH_lt (b2 i j hi hj) (b2 p j hp hj) (b4 i hi)
     ·rw [j3 i j hi hj]; exact lsW_lt (by omega) (fun k hk => b3 i k hi (by omega)) (b3 i j hi hj) (fun k hk => b4 k (by omega))
  ·have hei : ¬ (e : Int) < (end_ : Int) := by omega
   have hee2 : e = end_ := by omega
   have HEE := Hid.mk hee2
   clear hee2
   go_wp2_with fail
   go_end0
   obtain ⟨i1, i2, i3, i4, i5⟩ := HI.out
   have he := HEE.out
   rw [he] at i3 i4 i5
   exact ⟨rfl, hs1, us1, ws1, i1, (Chg3.of_below _ _ _ G.out.2.2.2.1).trans i2, i3, i4, i5⟩
theorem pow4_mul (a b : Nat) : (a * b) ^ 4 = a ^ 4 * b ^ 4 := Nat.mul_pow a b 4
theorem pow4_le {a b : Nat} (h : a ≤ b) : a ^ 4 ≤ b ^ 4 := Nat.pow_le_pow_left h 4
theorem cube8 {s : Nat} (h : 2 ≤ s) : 8 * s ≤ s ^ 4 := by
 have h1 : 2 ^ 3 ≤ s ^ 3 := Nat.pow_le_pow_left h 3
 have h2 : 2 ^ 3 * s ≤ s ^ 3 * s := Nat.mul_le_mul_right s h1
 rw [← Nat.pow_succ] at h2
 omega
theorem euclid4 {a b d : Nat} (hba : b < a) (hb : 0 < b) (hd : d < b) (hr : a % b ≠ 0 → d ≤ a % b) : (1 + 7 * (a / b)) * d ^ 4 ≤ a ^ 4 := by
 have h1 := Nat.div_add_mod a b
 have hq1 : 1 ≤ a / b := Nat.div_pos (by omega) hb
 generalize a / b = q at *
 by_cases h0 : a % b = 0
 ·have hq : 2 ≤ q := by
   rcases Nat.lt_or_ge q 2 with h | h
   ·have : q = 1 := by omega
    subst this; omega
   ·exact h
  have h2 : q * d ≤ a := by
   have := Nat.mul_le_mul_left q (Nat.le_of_lt hd)
   rw [Nat.mul_comm q b] at this
   omega
  have h3 := pow4_le h2
  rw [pow4_mul] at h3
  have h4 : (1 + 7 * q) * d ^ 4 ≤ q ^ 4 * d ^ 4 := Nat.mul_le_mul_right _ (by have := cube8 hq; omega)
  omega
 ·have hm := hr h0
  have hlt := Nat.mod_lt a hb
  generalize a % b = m at *
  have h2 : (q + 1) * d ≤ a := by
   have h3 : (q + 1) * d ≤ (q + 1) * m := Nat.mul_le_mul_left _ hm
   have h4 : q * m ≤ q * b := Nat.mul_le_mul_left _ (by omega)
   have e1 : (q + 1) * m = q * m + m := by rw [Nat.add_mul, Nat.one_mul]
   have e2 : q * b = b * q := Nat.mul_comm _ _
   omega
  have h3 := pow4_le h2
  rw [pow4_mul] at h3
  have h4 : (1 + 7 * q) * d ^ 4 ≤ (q + 1) ^ 4 * d ^ 4 := Nat.mul_le_mul_right _ (by have := cube8 (show 2 ≤ q + 1 by omega); omega)
  omega
def rq (H : Nat → Nat → Int) (t i0 col i : Nat) : Int := (H (swq t i0 i) col).fdiv (H (swq t i0 t) col)
def rdH (F H : Nat → Nat → Int) (r t i0 col i j : Nat) : Int := lsH (fun i j => F (swq t i0 i) j) (rq H t i0 col) (t + 1) r t i j
def rdW (W H : Nat → Nat → Int) (r t i0 col i j : Nat) : Int := lsW (fun i j => W i (swq t i0 j)) (rq H t i0 col) (t + 1) r t i j
theorem swq_t (t i0 : Nat) : swq t i0 t = i0 := by unfold swq; rw [if_pos rfl]
theorem swq_ge {t i0 i r : Nat} (h0 : t ≤ i0) (h1 : i0 < r) (hi : t ≤ i) (hr : i < r) : t ≤ swq t i0 i ∧ swq t i0 i < r := by unfold swq; split <;> (try split) <;> omega
theorem swq_low {t i0 i : Nat} (h0 : t ≤ i0) (hi : i < t) : swq t i0 i = i := by unfold swq; rw [if_neg (by omega), if_neg (by omega)]
structure Bd (H U W : Nat → Nat → Int) (r c t D KH KU KW : Nat) : Prop where
 h : ∀ i j, t ≤ i → i < r → j < c → (H i j).natAbs * D ≤ KH
 u : ∀ i j, t ≤ i → i < r → j < r → (U i j).natAbs * D ≤ KU
 w : ∀ i j, i < r → j < r → (W i j).natAbs * D ≤ KW
theorem mul_le_of {D K Q D2 m y : Nat} (hm : m = K / D) (hx : y ≤ (1 + 7 * Q) * m) (h : (1 + 7 * Q) * D2 ≤ D) : y * D2 ≤ K := by
 have h1 : y * D2 ≤ (1 + 7 * Q) * m * D2 := Nat.mul_le_mul_right _ hx
 have h2 : (1 + 7 * Q) * m * D2 = m * ((1 + 7 * Q) * D2) := by rw [Nat.mul_comm (1 + 7 * Q) m, Nat.mul_assoc]
 have h3 : m * ((1 + 7 * Q) * D2) ≤ m * D := Nat.mul_le_mul_left _ h
 have h4 : m * D ≤ K := by rw [hm]; exact Nat.div_mul_le_self K D
 omega
theorem Bd.round {H U W : Nat → Nat → Int} {r c t i0 col D D2 Q KH KU KW : Nat} (h : Bd H U W r c t D KH KU KW) (hr : r ≤ 8) (ht : t ≤ i0) (hi0 : i0 < r) (hD : 0 < D) (hq : ∀ i, t < i → i < r → (rq H t i0 col i).natAbs ≤ Q) (hQ : (1 + 7 * Q) * D2 ≤ D) :
 Bd (rdH H H r t i0 col) (rdH U H r t i0 col) (rdW W H r t i0 col) r c t D2 KH KU KW := by
 have key : ∀ (F : Nat → Nat → Int) (K n : Nat), (∀ i j, t ≤ i → i < r → j < n → (F i j).natAbs * D ≤ K) → ∀ i j, t ≤ i → i < r → j < n → (rdH F H r t i0 col i j).natAbs * D2 ≤ K := by
  intro F K n hF i j hi hir hj
  have hb : ∀ i j, t ≤ i → i < r → j < n → (F i j).natAbs ≤ K / D := fun i j a b d => (Nat.le_div_iff_mul_le hD).2 (hF i j a b d)
  refine mul_le_of rfl ?_ hQ
  unfold rdH lsH
  obtain ⟨s1, s2⟩ := swq_ge ht hi0 hi hir
  obtain ⟨s3, s4⟩ := swq_ge ht hi0 (Nat.le_refl t) (show t < r by omega)
  have e1 := hb _ j s1 s2 hj
  have e2 := hb _ j s3 s4 hj
  generalize K / D = m at *
  split
  ·rename_i hc
   have e3 := hq i (by omega) hir
   have e4 : (F (swq t i0 t) j * rq H t i0 col i).natAbs ≤ m * Q := by rw [Int.natAbs_mul]; exact Nat.mul_le_mul e2 e3
   have e5 := Int.natAbs_sub_le (F (swq t i0 i) j) (F (swq t i0 t) j * rq H t i0 col i)
   have e6 : (1 + 7 * Q) * m = m + 7 * (m * Q) := by rw [Nat.add_mul, Nat.one_mul, Nat.mul_assoc, Nat.mul_comm Q m]
   show (F (swq t i0 i) j - F (swq t i0 t) j * rq H t i0 col i).natAbs ≤ _
   omega
  ·have e6 : (1 + 7 * Q) * m = m + 7 * (m * Q) := by rw [Nat.add_mul, Nat.one_mul, Nat.mul_assoc, Nat.mul_comm Q m]
   show (F (swq t i0 i) j).natAbs ≤ _
   omega
 refine ⟨key H KH c h.h, key U KU r h.u, fun i j hi hj => ?_⟩
 have hb : ∀ j, j < r → (W i j).natAbs ≤ KW / D := fun j d => (Nat.le_div_iff_mul_le hD).2 (h.w i j hi d)
 refine mul_le_of rfl ?_ hQ
 unfold rdW lsW
 have htr : t < r := by omega
 generalize KW / D = m at *
 have e6 : (1 + 7 * Q) * m = m + 7 * (Q * m) := by rw [Nat.add_mul, Nat.one_mul, Nat.mul_assoc]
 split
 ·have e1 := hb _ (swq_lt htr hi0 htr)
  have e2 := wsum_le (first := t + 1) (q := rq H t i0 col) (f := fun j => W i (swq t i0 j)) (Q := Q) (X := m) r (fun k a b => hq k (by omega) b) (fun k a b => hb _ (swq_lt htr hi0 b))
  have e3 : (r - (t + 1)) * (Q * m) ≤ 7 * (Q * m) := Nat.mul_le_mul_right _ (by omega)
  have e5 := Int.natAbs_add_le (W i (swq t i0 t)) (wsum (t + 1) (rq H t i0 col) (fun j => W i (swq t i0 j)) r)
  show (W i (swq t i0 t) + wsum (t + 1) (rq H t i0 col) (fun j => W i (swq t i0 j)) r).natAbs ≤ _
  omega
 ·have e1 := hb _ (swq_lt htr hi0 hj)
  show (W i (swq t i0 j)).natAbs ≤ _
  omega
end Go.Proofs.YtfjbijpagaipnabGreatDoor
