/- matriceskeep.times. -/
import Derived.Test.YtjhcbenldfplcaaDoorDrawn
import Derived.BigRegion
namespace Go.Proofs.YtjhcbenldfplcaaDoor
open Go.RowKit

/-- What the product's entry is, after k summands. -/
def dot (ea eb : Nat → Nat → Int) (i j k : Nat) : Int := sumF k fun t => ea i t * eb t j
theorem dot_next (ea eb : Nat → Nat → Int) (i j k : Nat) : dot ea eb i j (k + 1) = dot ea eb i j k + ea i k * eb k j := rfl
theorem dot_box {n : Nat} {ea eb : Nat → Nat → Int} (ha : Tiny n ea) (hb : Tiny n eb) {i j : Nat} (hi : i < n) (hj : j < n) : ∀ k, k ≤ n → -(1296 * (k : Int)) ≤ dot ea eb i j k ∧ dot ea eb i j k ≤ 1296 * (k : Int)
  | 0, _ => by simp [dot, sumF]
  | k + 1, hk => by
    have h1 := dot_box ha hb hi hj k (by omega)
    have h2 := mul_box (A := 36) (B := 36) (ha i k hi (by omega)).1 (ha i k hi (by omega)).2 (hb k j (by omega) hj).1 (hb k j (by omega) hj).2
    rw [dot_next]
    omega
/-- A row of the product in the making. -/
def partF (n : Nat) (ea eb : Nat → Nat → Int) (i j k : Nat) : Nat → Int := fun t => if t < j then dot ea eb i t n else if t = j then dot ea eb i j k else 0
theorem partF_at (n : Nat) (ea eb : Nat → Nat → Int) (i j k : Nat) : partF n ea eb i j k j = dot ea eb i j k := by simp [partF]
theorem partF_next (n : Nat) (ea eb : Nat → Nat → Int) (i j k t : Nat) : upd (partF n ea eb i j k) j (dot ea eb i j k + ea i k * eb k j) t = partF n ea eb i j (k + 1) t := by
  unfold upd partF
  by_cases h : t = j
  · subst h; simp [dot_next]
  · simp [h]
theorem partF_row (n : Nat) (ea eb : Nat → Nat → Int) (i j t : Nat) : partF n ea eb i j n t = partF n ea eb i (j + 1) 0 t := by
  unfold partF
  by_cases h : t < j
  · simp [h, show t < j + 1 from by omega]
  · by_cases h2 : t = j
    · subst h2; simp
    · simp [h, h2, show ¬ t < j + 1 from by omega, dot, sumF]
theorem times_none (a b : Value) (cap : Nat) (ao : Option Addr) (w : World) (ha : a = .slice ao 0 cap) :
    Calls Tryd.prog 11 #[a, b, .int .i64 0] w fun x w' => x = .returned (.slice none 0 0) ∧ Below w.heap.size w w' := by
  subst ha
  go_enter Tryd.func11, Tryd.ntmps11
  go_wp2_with fail
  go_loop [7, 8] (fun v i => v = .slice none 0 0 ∧ i = .int .i64 0) (fun _ _ => 0)
  case atStart => exact ⟨rfl, rfl⟩
  case round =>
    obtain ⟨rfl, rfl⟩ := hrel
    go_wp2_with fail
    go_ret
    exact ⟨rfl, Below.refl _ _⟩
theorem Mat.same {B : Nat} {w : World} {v : Value} {n c : Nat} {gs : Nat → Nat} {e e' : Nat → Nat → Int} (h : Mat B w v n c gs e) (he : ∀ i j, i < n → j < c → e i j = e' i j) : Mat B w v n c gs e' :=
  ⟨h.1, fun i hi => (h.2 i hi).congr (fun j hj => he i j hi hj)⟩
def Made (wr0 ws : World) (c : Nat) (f : Nat → Int) : Prop := IRow ws wr0.heap.size c f ∧ Below wr0.heap.size wr0 ws

set_option maxRecDepth 100000 in
set_option maxHeartbeats 4000000 in
theorem times_pos (BA BB n ga capa gb capb : Nat) (gsa gsb : Nat → Nat) (ea eb : Nat → Nat → Int) (w : World) (hn0 : 0 < n) (hn : n ≤ 3) (hna : n ≤ capa) (hnb : n ≤ capb)
    (ha : Mat BA w (.slice (some ⟨ga, 0, none⟩) n capa) n n gsa ea) (hb : Mat BB w (.slice (some ⟨gb, 0, none⟩) n capb) n n gsb eb) (hta : Tiny n ea) (htb : Tiny n eb) :
    Calls Tryd.prog 11 #[.slice (some ⟨ga, 0, none⟩) n capa, .slice (some ⟨gb, 0, none⟩) n capb, .int .i64 n] w fun x w' => ∃ v gs, x = .returned v ∧ Mat w.heap.size w' v n n gs (fun i j => dot ea eb i j n) ∧ Below w.heap.size w w' := by
  have H := Hid.mk (And.intro ha (And.intro hb (And.intro hta htb)))
  clear ha hb hta htb
  go_enter Tryd.func11, Tryd.ntmps11
  go_wp2_with fail
  go_loopw [7, 8] (fun v i wr => ∃ (r : Nat) (gs : Nat → Nat), r ≤ n ∧ i = .int .i64 r ∧ Mat w.heap.size wr v r n gs (fun i j => dot ea eb i j n) ∧ Below w.heap.size w wr) (fun _ i _ => n - (intOf i).toNat)
  case atStart => exact ⟨0, fun _ => 0, Nat.zero_le _, rfl, Mat.nil _ _ _ _ _, Below.refl _ _⟩
  case round =>
    rename World => wr0
    obtain ⟨r, gs, hr, rfl, hm, hbel⟩ := hrel
    have hwr := hbel.size
    have K := Hid.mk (And.intro hm hbel)
    clear hm hbel
    by_cases hrn : r < n
    · go_wp2_with (at_make; refine make_row _ rfl _ _ rfl _ _ n rfl rfl rfl rfl (by omega) ?_)
      intro w1 hrow hb1 hsz1
      have R1 : Made wr0 w1 n (partF n ea eb r 0 0) := ⟨hrow.congr (fun t _ => by unfold partF; simp [dot, sumF]), hb1⟩
      have HR := Hid.mk R1
      clear hrow hb1 R1
      go_wp2_with fail
      go_loopw [10] (fun i ws => ∃ j : Nat, j ≤ n ∧ i = .int .i64 j ∧ Made wr0 ws n (partF n ea eb r j 0)) (fun i _ => n - (intOf i).toNat)
      case atStart => exact ⟨0, Nat.zero_le _, rfl, HR.out⟩
      case round =>
        clear HR
        obtain ⟨j, hj, rfl, hrs⟩ := hrel
        have HR := Hid.mk hrs
        clear hrs
        by_cases hjn : j < n
        · go_wp2_with fail
          go_loopw [11] (fun i ws => ∃ k : Nat, k ≤ n ∧ i = .int .i64 k ∧ Made wr0 ws n (partF n ea eb r j k)) (fun i _ => n - (intOf i).toNat)
          case atStart => exact ⟨0, Nat.zero_le _, rfl, HR.out⟩
          case round =>
            clear HR
            obtain ⟨k, hk, rfl, hrs⟩ := hrel
            have HR := Hid.mk hrs
            clear hrs
            by_cases hkn : k < n
            · have hB2 := K.out.2.trans (HR.out.2.mono hwr)
              have hA := H.out.1.keep (KB.of_below hB2)
              have hB := H.out.2.1.keep (KB.of_below hB2)
              have a0 := hA.cell r hrn
              have a1 := (hA.2 r hrn).cell k hkn
              have b0 := hB.cell k hkn
              have b1 := (hB.2 k hkn).cell j hjn
              have c1 := HR.out.1.cell j hjn
              have f1 := HR.out.1.frozen j
              have x1 := mul_box (A := 36) (B := 36) (H.out.2.2.1 r k hrn hkn).1 (H.out.2.2.1 r k hrn hkn).2 (H.out.2.2.2 k j hkn hjn).1 (H.out.2.2.2 k j hkn hjn).2
              have x2 := dot_box H.out.2.2.1 H.out.2.2.2 hrn hjn k (by omega)
              rw [partF_at] at c1
              have hnx : IRow (wr.setCell ⟨wr0.heap.size, j, none⟩ (.int .i64 (dot ea eb r j k + ea r k * eb k j))) wr0.heap.size n (partF n ea eb r j (k + 1)) := (HR.out.1.stored j _).congr (fun t _ => partF_next n ea eb r j k t)
              have HN := Hid.mk hnx
              generalize gsa r = G1 at a0 a1
              generalize gsb k = G2 at b0 b1
              generalize ea r k = z1 at a1 x1 HN
              generalize eb k j = z2 at b1 x1 HN
              generalize dot ea eb r j k = z3 at c1 x2 HN
              obtain ⟨x11, x12⟩ := x1
              obtain ⟨x21, x22⟩ := x2
              have hk3 : (k : Int) ≤ 3 := by omega
              clear hA hB hB2 hnx
              go_wp2_with fail
              go_region
              all_goals go_wp2_with fail
              go_roundw
              case measure => simp [intOf]; omega
              case rel => exact ⟨k + 1, by omega, by go_num, HN.out, (HR.out.2.setCell (Nat.le_refl _) _).drew⟩
            · have hke : k = n := by omega
              have HK := Hid.mk hke
              clear hke
              go_wp2_with fail
              go_roundw
              case measure => simp [intOf]; omega
              case rel => exact ⟨j + 1, by omega, by go_num, (by rw [HK.out] at HR; exact HR.out.1.congr (fun t _ => partF_row n ea eb r j t)), HR.out.2⟩
        · have hje : j = n := by omega
          have HJ := Hid.mk hje
          clear hje
          go_wp2_with (at_builtin; refine append_row _ rfl _ _ rfl w.heap.size _ r n gs (fun i j => dot ea eb i j n) rfl ?_ ⟨_, 0, none⟩ rfl wr0.heap.size (fun t => dot ea eb r t n) ?_ ?_ (by omega) ?_ ?_)
          · exact (K.out.1.keep (KB.of_below HR.out.2)).keep (KB.of_below ((Below.refl _ _).alloc (Nat.le_refl _) _))
          · simp [Addr.add]
          · refine IRow.below (IRow.congr HR.out.1 (fun t ht => ?_)) ((Below.refl _ _).alloc (Nat.le_refl _) _) HR.out.1.lt
            unfold partF
            rw [if_pos (by have := HJ.out; omega)]
          · have := HR.out.2.size; simp; omega
          intro v' w5 hM5 _ hg5 hown
          have hb5 : Below w.heap.size w w5 := by
            have h1 := (K.out.2.trans (HR.out.2.mono hwr)).trans (((Below.refl _ _).alloc (Nat.le_refl _) (.cells #[.slice (some ⟨wr0.heap.size, 0, none⟩) n n] 39)).mono (by have := HR.out.2.size; omega))
            exact h1.grown hg5 (by have := HR.out.2.size; simp; omega) hown
          have HF := Hid.mk (And.intro hM5 hb5)
          clear hM5 hg5 hown hb5
          go_wp2_with fail
          go_roundw
          case measure => simp [intOf]; omega
          case rel => exact ⟨r + 1, _, by omega, by go_num, HF.out.1.same (fun i j _ _ => by split <;> simp_all), HF.out.2⟩
    · have hke : r = n := by omega
      have HK := Hid.mk hke
      clear hke
      go_wp2_with fail
      go_ret
      have hke := HK.out
      subst hke
      exact ⟨_, gs, rfl, K.out⟩
theorem times_any (BA BB n : Nat) (a b : Value) (gsa gsb : Nat → Nat) (ea eb : Nat → Nat → Int) (w : World) (hn : n ≤ 3)
    (ha : Mat BA w a n n gsa ea) (hb : Mat BB w b n n gsb eb) (hta : Tiny n ea) (htb : Tiny n eb) :
    Calls Tryd.prog 11 #[a, b, .int .i64 n] w fun x w' => ∃ v gs, x = .returned v ∧ Mat w.heap.size w' v n n gs (fun i j => dot ea eb i j n) ∧ Below w.heap.size w w' := by
  rcases Nat.eq_zero_or_pos n with hn0 | hn0
  · subst hn0
    have hsh : ∃ ao cap, a = .slice ao 0 cap := by
      rcases ha.shape with ⟨rfl, _⟩ | ⟨g, cap, rfl, _⟩
      · exact ⟨_, _, rfl⟩
      · exact ⟨_, _, rfl⟩
    obtain ⟨ao, cap, h1⟩ := hsh
    refine (times_none a b cap ao w h1).mono ?_
    rintro x w' ⟨rfl, h2⟩
    exact ⟨_, fun _ => 0, rfl, Mat.nil _ _ _ _ _, h2⟩
  · rcases ha.shape with ⟨_, h0⟩ | ⟨ga, capa, rfl, h1, -⟩
    · omega
    rcases hb.shape with ⟨_, h0⟩ | ⟨gb, capb, rfl, h3, -⟩
    · omega
    exact times_pos BA BB n ga capa gb capb gsa gsb ea eb w hn0 hn h1 h3 ha hb hta htb
end Go.Proofs.YtjhcbenldfplcaaDoor
