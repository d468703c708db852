import Derived.Test.YtfjbijpagaipnaaGreatDoorC26
import Derived.Test.YtfjbijpagaipnaaGreatDoorC13
import Derived.Test.YtfjbijpagaipnaaGreatDoorC30
import Derived.Test.YtfjbijpagaipnaaGreatDoorC42
namespace Go.Proofs.YtfjbijpagaipnaaGreatDoor
open Go.RowKit
def ff (ms : List Hm) : Nat := ms.findIdx Option.isNone
def put1 (ms : List Hm) (nx : Nat) (x : Nat × Nat × List Int) : List Hm := ms.set (ff ms) (some (nx, x))
def puts (ms : List Hm) (nx : Nat) : List (Nat × Nat × List Int) → List Hm
  | [] => ms
  | x :: xs => puts (put1 ms nx x) (nx + 1) xs
theorem puts_snoc (x : Nat × Nat × List Int) : ∀ xs ms nx, puts ms nx (xs ++ [x]) = put1 (puts ms nx xs) (nx + xs.length) x := by
  intro xs
  induction xs with
  | nil => intro ms nx; rfl
  | cons y ys ih =>
    intro ms nx
    rw [List.cons_append, puts, ih, puts, List.length_cons, show nx + 1 + ys.length = nx + (ys.length + 1) from by omega]
theorem puts_len : ∀ xs ms nx, (puts ms nx xs).length = ms.length := by
  intro xs
  induction xs with
  | nil => intro ms nx; rfl
  | cons y ys ih => intro ms nx; rw [puts, ih]; simp [put1]
theorem ff_free {ms : List Hm} (hm : ms.length = 24) (hr : 0 < ms.countP Option.isNone) : FreeAt ms (ff ms) := by
  have h1 : ff ms < ms.length := List.findIdx_lt_length_of_exists (List.countP_pos_iff.1 hr)
  have h2 : (ms[ff ms]).isNone = true := List.findIdx_getElem (w := h1)
  refine ⟨by omega, ?_, fun j hj h => ?_⟩
  · rw [List.getD, List.getElem?_eq_getElem h1]
    simpa using h2
  · have h3 := List.not_of_lt_findIdx (show j < ms.findIdx Option.isNone from hj)
    rw [List.getD, List.getElem?_eq_getElem (by omega)] at h
    simp at h
    simp [h] at h3
theorem put1_room {ms : List Hm} (hm : ms.length = 24) (hr : 0 < ms.countP Option.isNone) (nx : Nat) (x : Nat × Nat × List Int) : (put1 ms nx x).countP Option.isNone + 1 = ms.countP Option.isNone := by
  have hf := ff_free hm hr
  have h1 : ff ms < ms.length := by have := hf.1; omega
  have h2 : ms[ff ms] = none := by have := hf.2.1; rw [List.getD, List.getElem?_eq_getElem h1] at this; simpa using this
  unfold put1
  rw [List.countP_set h1, h2]
  simp
  omega
theorem puts_room : ∀ xs ms nx, ms.length = 24 → xs.length ≤ ms.countP Option.isNone → (puts ms nx xs).countP Option.isNone + xs.length = ms.countP Option.isNone := by
  intro xs
  induction xs with
  | nil => intro ms nx _ _; rfl
  | cons y ys ih =>
    intro ms nx hm hl
    rw [List.length_cons] at hl
    have h1 := put1_room hm (by omega) nx y
    have h2 := ih (put1 ms nx y) (nx + 1) (by simp [put1, hm]) (by omega)
    rw [puts, List.length_cons]
    omega
def MRow (w : World) (g : Nat) (xs : List (Nat × Nat × List Int)) : Prop := ∀ j, j < xs.length → ∃ ao m cap, w.cell? ⟨g, j * 3, none⟩ = some (.int .i64 ((xs.getD j (0, 0, [])).1 : Nat)) ∧ w.cell? ⟨g, j * 3 + 1, none⟩ = some (.int .i64 ((xs.getD j (0, 0, [])).2.1 : Nat)) ∧ w.cell? ⟨g, j * 3 + 2, none⟩ = some (.slice ao m cap) ∧
  IsM w (.agg #[.int .i64 ((xs.getD j (0, 0, [])).1 : Nat), .int .i64 ((xs.getD j (0, 0, [])).2.1 : Nat), .slice ao m cap]) (xs.getD j (0, 0, [])).1 (xs.getD j (0, 0, [])).2.1 (xs.getD j (0, 0, [])).2.2 200000000
theorem R.Own.of_block {w w' : World} {v : Value} {xs : List Nat} (h : R.Own w v xs) (hb : ∀ g, v.ownBlock = some g → w'.heap[g]? = w.heap[g]?) : R.Own w' v xs := by
  obtain ⟨h1, h2⟩ := h
  refine ⟨h1, ?_⟩
  rcases h2 with h3 | ⟨g, cap, cur, hv, hg, hh, r⟩
  · exact .inl h3
  · exact .inr ⟨g, cap, cur, hv, hg, by rw [hb g (by rw [hv]; rfl)]; exact hh, r⟩
theorem R.Own.ty_ {w : World} {g n cap : Nat} {xs : List Nat} (h : R.Own w (.slice (some ⟨g, 0, none⟩) n cap) xs) : Ty w g 3 := by
  obtain ⟨h1, h2⟩ := h
  rcases h2 with ⟨h3, _⟩ | ⟨g', cap', cur, hv, hg, hh, r⟩
  · simp at h3
  · simp only [Value.slice.injEq, Option.some.injEq, Addr.mk.injEq] at hv
    obtain ⟨⟨rfl, _⟩, _⟩ := hv
    exact ⟨_, _, hh⟩
theorem cell_block {w w' : World} {g : Nat} (h : w'.heap[g]? = w.heap[g]?) (o : Nat) : w'.cell? ⟨g, o, none⟩ = w.cell? ⟨g, o, none⟩ := by simp only [World.cell?, h]
theorem MRow.fr {w w' : World} {g b : Nat} {xs : List (Nat × Nat × List Int)} (h : MRow w g xs) (hf : Fr b w w') (hg : g < w.heap.size) (hgb : g ≠ b) : MRow w' g xs := by
  intro j hj
  obtain ⟨ao, m, cap, h1, h2, h3, h4⟩ := h j hj
  have hb : w'.heap[g]? = w.heap[g]? := hf.1.block g hg (fun e => hgb (by injection e))
  exact ⟨ao, m, cap, by rw [cell_block hb]; exact h1, by rw [cell_block hb]; exact h2, by rw [cell_block hb]; exact h3, h4.keepT hf.2⟩
def KeptAll (w w' : World) (b nx n : Nat) (ms : List Hm) (xs : List (Nat × Nat × List Int)) (v : Value) : Prop := ∃ hb zs, v = .slice (some ⟨hb, 0, none⟩) n n ∧ w.heap.size ≤ hb ∧ zs.length = n ∧ (∀ j, j < n → zs.getD j 0 = nx + j) ∧ R.Own w' v zs ∧ Held w' b (puts ms nx xs) (nx + n) ∧ Fr b w w'
set_option maxRecDepth 100000 in
set_option maxHeartbeats 4000000 in
theorem keepAll_held (b g n cap : Nat) (xs : List (Nat × Nat × List Int)) (ms : List Hm) (nx : Nat) (w : World) (hst : Held w b ms nx) (hrow : MRow w g xs) (hn : xs.length = n) (hn5 : n ≤ 5) (hg : g < w.heap.size) (hgb : g ≠ b) (hroom : n ≤ ms.countP Option.isNone) (hnx : nx < 1000000 - 5) :
    Calls Tryz.prog 89 #[.pointer (some ⟨b, 0, none⟩), .slice (some ⟨g, 0, none⟩) n cap] w fun e w' => ∃ v, e = .returned v ∧ KeptAll w w' b nx n ms xs v := by
  have H := Hid.mk (And.intro hst (And.intro hrow (And.intro hn (And.intro hgb hroom))))
  have hbl := hst.lt
  clear hst hrow hn hroom
  go_enter Tryz.func89, Tryz.ntmps89
  go_wp2_with (refine R.make_digits _ rfl _ _ rfl _ _ n rfl rfl (by omega) (by omega) (by omega) ?_)
  intro w1 hown hbel
  obtain ⟨hb, hhb⟩ : ∃ hb, hb = w.heap.size := ⟨_, rfl⟩
  rw [← hhb] at hown ⊢
  have K0 := Hid.mk (And.intro hown (And.intro hbel hhb))
  clear hown hbel hhb
  go_wp2_with fail
  go_loopw [6] (fun i wr => ∃ (k : Nat) (zs : List Nat), k ≤ n ∧ i = .int .i64 k ∧ Hid (zs.length = n) ∧ R.Own wr (.slice (some ⟨hb, 0, none⟩) n n) zs ∧ Held wr b (puts ms nx (xs.take k)) (nx + k) ∧ Fr b w wr ∧ MRow wr g xs ∧ Hid (∀ j, j < k → zs.getD j 0 = nx + j)) (fun i _ => n - (intOf i).toNat)
  case atStart => exact ⟨0, _, Nat.zero_le _, rfl, Hid.mk List.length_replicate, K0.out.1, H.out.1.below K0.out.2.1, Fr.of_below K0.out.2.1, H.out.2.1.fr (Fr.of_below K0.out.2.1) hg hgb, Hid.mk (fun j hj => by omega)⟩
  case round =>
    obtain ⟨k, zs, hk, rfl, HZ, hown, hheld, hfr, hrow, HI⟩ := hrel
    have hwr : w.heap.size ≤ wr.heap.size := hfr.1.size
    by_cases hkn : k < n
    · obtain ⟨ao, m, ecap, c1, c2, c3, hM⟩ := hrow k (by rw [H.out.2.2.1]; exact hkn)
      have hob := hown.lt
      obtain ⟨x, hx⟩ : ∃ x, x = xs.getD k (0, 0, []) := ⟨_, rfl⟩
      rw [← hx] at c1 c2 hM
      have htl : (xs.take k).length = k := by have := H.out.2.2.1; simp; omega
      have hfree := ff_free (ms := puts ms nx (xs.take k)) (by rw [puts_len]; exact H.out.1.1) (by
        have h1 := puts_room (xs.take k) ms nx H.out.1.1 (by have := H.out.2.2.2.2; omega)
        have := H.out.2.2.2.2
        omega)
      clear htl
      obtain ⟨xr, xc, xz⟩ := x
      have K := Hid.mk (And.intro hown (And.intro hheld (And.intro hfr (And.intro hrow (And.intro hM (And.intro hfree hx))))))
      have hki : (k : Int) < (n : Int) := by omega
      clear hown hheld hfr hrow hM hfree hx
      go_wp2_with fail
      refine (keep_held b xr xc ao m ecap xz _ _ _ _ K.out.2.1 K.out.2.2.2.2.1 K.out.2.2.2.2.2.1 (by omega)).mono ?_
      rintro e w2 ⟨rfl, hH2, hF2⟩
      have hne : hb ≠ b := by rw [K0.out.2.2]; omega
      have hown2 : R.Own w2 (.slice (some ⟨hb, 0, none⟩) n n) zs := K.out.1.of_block (fun g' hg' => by
        simp [Value.ownBlock] at hg'
        subst hg'
        exact hF2.1.block hb hob (fun e => hne (by injection e)))
      have d1 := hown2.frozen HZ.out k
      have d2 := hown2.cell HZ.out k hkn
      have K2 := Hid.mk (And.intro hown2 (And.intro hH2 (K.out.2.2.1.trans hF2)))
      clear hown2 hH2 hF2 c1 c2 c3
      go_wp2_with fail
      go_roundw
      case measure => simp [intOf]; omega
      case rel =>
        obtain ⟨e1, e2, e3⟩ := K2.out
        have hgl : g < w2.heap.size := by have := e3.1.size; omega
        have hty : Ty w2 hb 3 := R.Own.ty_ e1
        have hfn : Fr hb w2 (w2.setCell ⟨hb, k, none⟩ (.int .i64 ((nx + k : Nat) : Int))) := (Fr.refl hb w2).setOwn hty (by decide) (by decide) _
        have hgh : g ≠ hb := by rw [K0.out.2.2]; omega
        refine ⟨k + 1, zs.set k (nx + k), by omega, by go_num, Hid.mk (by simp [HZ.out]), e1.stored_int HZ.out k _ (by omega), ?_, e3.setNew (by rw [K0.out.2.2]; exact Nat.le_refl _) _, (H.out.2.1.fr e3 hg hgb).fr hfn hgl hgh, Hid.mk (fun j hj => ?_)⟩
        · have h1 : puts ms nx (xs.take (k + 1)) = put1 (puts ms nx (xs.take k)) (nx + k) (xr, xc, xz) := by
            have h2 : xs.take (k + 1) = xs.take k ++ [(xr, xc, xz)] := by
              rw [K.out.2.2.2.2.2.2, List.take_add_one, List.getD, List.getElem?_eq_getElem (by have := H.out.2.2.1; omega)]; rfl
            rw [h2, puts_snoc, show (xs.take k).length = k from by have := H.out.2.2.1; simp; omega]
          rw [h1]
          exact e2.fr hfn hne.symm
        · by_cases hjk : j = k
          · subst hjk; simp [List.getD, show j < zs.length by rw [HZ.out]; exact hkn]
          · rw [List.getD, List.getElem?_set_ne (fun e => hjk e.symm)]; exact HI.out j (by omega)
    · have hkn' : k = n := by omega
      subst hkn'
      have hki : ¬ (k : Int) < (k : Int) := by omega
      have K := Hid.mk (And.intro hown (And.intro hheld hfr))
      clear hown hheld hfr hrow
      go_wp2_with fail
      go_ret
      refine ⟨_, rfl, hb, zs, rfl, by rw [K0.out.2.2]; exact Nat.le_refl _, HZ.out, HI.out, K.out.1, ?_, K.out.2.2⟩
      have := K.out.2.1
      rw [List.take_of_length_le (by have := H.out.2.2.1; omega)] at this
      exact this
end Go.Proofs.YtfjbijpagaipnaaGreatDoor
namespace Go.Proofs.YtfjbijpagaipnaaGreatDoor
open Go.RowKit
def ManyRel (n : Nat) (Res : Nat → Nat → List Int → List (Nat × Nat × List Int) → Prop) (ms : List Hm) (h : Int) (ok : Bool) (e : Int) (xs : List (Nat × Nat × List Int)) : Prop :=
  ((∀ k, k < 24 → ∀ x, ms.getD k none = some x → (x.1 : Int) ≠ h) ∧ ok = false ∧ e = 2 ∧ xs = []) ∨
  ∃ i hd r c zs, i < 24 ∧ ms.getD i none = some (hd, r, c, zs) ∧ (hd : Int) = h ∧
    ((¬ FitsP r c zs ∧ ok = false ∧ e = 4 ∧ xs = []) ∨ (FitsP r c zs ∧ ms.countP Option.isNone < n ∧ ok = false ∧ e = 5 ∧ xs = []) ∨ (FitsP r c zs ∧ n ≤ ms.countP Option.isNone ∧ ok = true ∧ e = 0 ∧ xs.length = n ∧ Res r c zs xs))
def ManyOut (w w' : World) (b n nx : Nat) (ms : List Hm) (ok : Bool) (xs : List (Nat × Nat × List Int)) (v : Value) : Prop :=
  (ok = false ∧ v = .slice none 0 0 ∧ Held w' b ms nx ∧ Fr b w w') ∨ (ok = true ∧ KeptAll w w' b nx n ms xs v)
theorem ManyRel.uniq {n : Nat} {Res : Nat → Nat → List Int → List (Nat × Nat × List Int) → Prop} (hR : ∀ r c zs x y, Res r c zs x → Res r c zs y → x = y) {ms : List Hm} {h e e2 : Int} {ok ok2 : Bool} {xs ys : List (Nat × Nat × List Int)} (hd : Dst ms) (a : ManyRel n Res ms h ok e xs) (b : ManyRel n Res ms h ok2 e2 ys) : ok = ok2 ∧ e = e2 ∧ xs = ys := by
  rcases a with ⟨ha, rfl, rfl, rfl⟩ | ⟨i, hd1, r, c, zs, hi, hx, hxh, ha⟩
  · rcases b with ⟨-, rfl, rfl, rfl⟩ | ⟨i', hd1', r', c', zs', hi', hx', hxh', hb⟩
    · exact ⟨rfl, rfl, rfl⟩
    · exact absurd hxh' (ha i' hi' _ hx')
  · rcases b with ⟨hb, -⟩ | ⟨i', hd1', r', c', zs', hi', hx', hxh', hb⟩
    · exact absurd hxh (hb i hi _ hx)
    · have e1 : i = i' := hd i i' _ _ hi hi' hx hx' (by show hd1 = hd1'; omega)
      subst e1
      rw [hx] at hx'
      simp only [Option.some.injEq, Prod.mk.injEq] at hx'
      obtain ⟨rfl, rfl, rfl, rfl⟩ := hx'
      rcases ha with ⟨a1, rfl, rfl, rfl⟩ | ⟨a1, a2, rfl, rfl, rfl⟩ | ⟨a1, a2, rfl, rfl, -, a3⟩
      · rcases hb with ⟨-, rfl, rfl, rfl⟩ | ⟨b1, _⟩ | ⟨b1, _⟩
        · exact ⟨rfl, rfl, rfl⟩
        · exact absurd b1 a1
        · exact absurd b1 a1
      · rcases hb with ⟨b1, _⟩ | ⟨-, -, rfl, rfl, rfl⟩ | ⟨-, b2, _⟩
        · exact absurd a1 b1
        · exact ⟨rfl, rfl, rfl⟩
        · omega
      · rcases hb with ⟨b1, _⟩ | ⟨-, b2, _⟩ | ⟨-, -, rfl, rfl, -, b3⟩
        · exact absurd a1 b1
        · omega
        · exact ⟨rfl, rfl, hR _ _ _ _ _ a3 b3⟩
theorem list_ent {r c : Nat} {xs ys : List Int} (h1 : xs.length = r * c) (h2 : ys.length = r * c) (h : ∀ i j, i < r → j < c → ent c xs i j = ent c ys i j) : xs = ys := by
  apply List.ext_getElem (by omega)
  intro t a b
  have hc : 0 < c := by
    rcases Nat.eq_zero_or_pos c with h0 | h0
    · subst h0; rw [Nat.mul_zero] at h1; omega
    · exact h0
  have h3 : t / c < r := by rw [Nat.div_lt_iff_lt_mul hc]; omega
  have h4 := Nat.mod_lt t hc
  have h5 : t / c * c + t % c = t := by rw [Nat.mul_comm]; exact Nat.div_add_mod t c
  have h6 := h (t / c) (t % c) h3 h4
  unfold ent at h6
  rw [h5] at h6
  simpa [List.getD, a, b] using h6
end Go.Proofs.YtfjbijpagaipnaaGreatDoor
namespace Go.Proofs.YtfjbijpagaipnaaGreatDoor
open Go.RowKit
structure EchIs (r c : Nat) (zs : List Int) (k : Nat) (pc : Nat → Nat) (hs us ws : List Int) : Prop where
  lh : hs.length = r * c
  lu : us.length = r * r
  lw : ws.length = r * r
  st : EchSt r c k pc (ent c hs)
  inv : EInv (ent c zs) (ent c hs) (ent r us) (ent r ws) r c
  eb : EB (ent c hs) (ent r us) (ent r ws) r c k 48
  run : EcTo r c (ent c zs) c k (e3 r c hs us ws)
def EchRes (r c : Nat) (zs : List Int) (xs : List (Nat × Nat × List Int)) : Prop := ∃ k pc hs us ws, xs = [(r, c, hs), (r, r, us), (r, r, ws)] ∧ EchIs r c zs k pc hs us ws
theorem echRes_uniq (r c : Nat) (zs : List Int) (x y : List (Nat × Nat × List Int)) (h : EchRes r c zs x) (h' : EchRes r c zs y) : x = y := by
  obtain ⟨k, pc, hs, us, ws, rfl, a⟩ := h
  obtain ⟨k', pc', hs', us', ws', rfl, b⟩ := h'
  obtain ⟨-, e1, e2, e3'⟩ := EcTo.det c (Nat.le_refl _) _ _ _ _ a.run b.run
  rw [list_ent a.lh b.lh e1, list_ent a.lu b.lu e2, list_ent a.lw b.lw e3']
theorem IsM.len {w : World} {v : Value} {r c L : Nat} {zs : List Int} (h : IsM w v r c zs L) : zs.length = r * c := by
  obtain ⟨_, _, sl, _, h3⟩ := h
  exact h3.1
theorem MRow.three {w : World} {g : Nat} {x y z : Nat × Nat × List Int} {o1 o2 o3 : Option Addr} {m1 m2 m3 c1 c2 c3 : Nat} {t : TypeId} (hg : w.heap[g]? = some (.cells #[.int .i64 (x.1 : Nat), .int .i64 (x.2.1 : Nat), .slice o1 m1 c1, .int .i64 (y.1 : Nat), .int .i64 (y.2.1 : Nat), .slice o2 m2 c2, .int .i64 (z.1 : Nat), .int .i64 (z.2.1 : Nat), .slice o3 m3 c3] t (0, 0)))
    (h1 : IsM w (.agg #[.int .i64 (x.1 : Nat), .int .i64 (x.2.1 : Nat), .slice o1 m1 c1]) x.1 x.2.1 x.2.2 200000000) (h2 : IsM w (.agg #[.int .i64 (y.1 : Nat), .int .i64 (y.2.1 : Nat), .slice o2 m2 c2]) y.1 y.2.1 y.2.2 200000000) (h3 : IsM w (.agg #[.int .i64 (z.1 : Nat), .int .i64 (z.2.1 : Nat), .slice o3 m3 c3]) z.1 z.2.1 z.2.2 200000000) : MRow w g [x, y, z] := by
  intro j hj
  match j, hj with
  | 0, _ => exact ⟨o1, m1, c1, by simp [World.cell?, hg], by simp [World.cell?, hg], by simp [World.cell?, hg], h1⟩
  | 1, _ => exact ⟨o2, m2, c2, by simp [World.cell?, hg], by simp [World.cell?, hg], by simp [World.cell?, hg], h2⟩
  | 2, _ => exact ⟨o3, m3, c3, by simp [World.cell?, hg], by simp [World.cell?, hg], by simp [World.cell?, hg], h3⟩
set_option maxRecDepth 100000 in
set_option maxHeartbeats 4000000 in
theorem echelon_held (b : Nat) (h : Int) (ms : List Hm) (nx : Nat) (w : World) (hst : Held w b ms nx) (hnx : nx < 1000000 - 5) :
    Calls Tryz.prog 55 #[.pointer (some ⟨b, 0, none⟩), .int .i64 h] w fun x w' => ∃ v e ok xs, x = .returned (.tuple #[v, .int .i64 e]) ∧ ManyRel 3 EchRes ms h ok e xs ∧ ManyOut w w' b 3 nx ms ok xs v := by
  have H := Hid.mk hst
  have hm24 := hst.1
  have hbl := hst.lt
  clear hst
  go_enter Tryz.func55, Tryz.ntmps55
  go_wp2_with fail
  refine (find_held b h ms nx _ H.out).mono ?_
  rintro e w1 ⟨⟨r, c, ao, n, cap, ok, rfl, hf⟩, hb1⟩
  have hbA := (Below.refl w1.heap.size w1).alloc (Nat.le_refl _) (.cells #[.int .i64 r, .int .i64 c, .slice ao n cap] 76)
  have hbw := hb1.trans (hbA.mono hb1.size)
  have hw1 := hb1.size
  rcases id hf with ⟨rfl, i, hd, zs, hi, hgi, hgh, hM⟩ | ⟨rfl, hno⟩
  · have K1 := Hid.mk (And.intro (hM.below hbA) (And.intro hbw (And.intro hi (And.intro hgi hgh))))
    clear hf hM hb1 hbA hbw hi hgi hgh
    go_wp2_with fail
    refine (tooBig_any _ r c zs 200000000 _ K1.out.1 (by omega)).mono ?_
    rintro e w2 ⟨fb, rfl, hfo, hb2⟩
    have hs2 : w1.heap.size + 1 ≤ w2.heap.size := by have := hb2.size; simpa using this
    have m0 : w2.cell? ⟨w1.heap.size, 0, none⟩ = some (.int .i64 r) := cell_later hb2 (by simp)
    have m1 : w2.cell? ⟨w1.heap.size, 1, none⟩ = some (.int .i64 c) := cell_later hb2 (by simp)
    have m2 : w2.cell? ⟨w1.heap.size, 2, none⟩ = some (.slice ao n cap) := cell_later hb2 (by simp)
    have K2 := Hid.mk (And.intro (K1.out.1.below hb2) (And.intro (K1.out.2.1.trans (hb2.mono K1.out.2.1.size)) hfo))
    clear hb2 hfo
    cases fb
    · have HNF : Hid (¬ FitsP r c zs) := Hid.mk (fun h => by have := K2.out.2.2.2 h; cases this)
      go_wp2_with fail
      go_ret2
      exact ⟨_, _, false, [], rfl, .inr ⟨i, hd, r, c, zs, K1.out.2.2.1, K1.out.2.2.2.1, K1.out.2.2.2.2, .inl ⟨HNF.out, rfl, rfl, rfl⟩⟩, .inl ⟨rfl, rfl, H.out.below K2.out.2.1, Fr.of_below K2.out.2.1⟩⟩
    · have HFP : Hid (FitsP r c zs) := Hid.mk (K2.out.2.2.1 rfl)
      go_wp2_with fail
      refine (room_held b ms nx _ (H.out.below K2.out.2.1)).mono ?_
      rintro e w' ⟨rfl, rfl⟩
      obtain ⟨rm, hrm⟩ : ∃ rm, rm = ms.countP Option.isNone := ⟨_, rfl⟩
      have HRM := Hid.mk hrm
      rw [← hrm]
      clear hrm
      by_cases h0 : rm < 3
      · have h0' : ((rm : Int) < 3) := by omega
        go_wp2_with fail
        go_ret2
        exact ⟨_, _, false, [], rfl, .inr ⟨i, hd, r, c, zs, K1.out.2.2.1, K1.out.2.2.2.1, K1.out.2.2.2.2, .inr (.inl ⟨HFP.out, by rw [← HRM.out]; exact h0, rfl, rfl, rfl⟩)⟩, .inl ⟨rfl, rfl, H.out.below K2.out.2.1, Fr.of_below K2.out.2.1⟩⟩
      · have h0' : ¬ ((rm : Int) < 3) := by omega
        go_wp2_with fail
        refine (gech_fit _ r c zs 2 _ (K2.out.1.tight HFP.out) HFP.out.1 HFP.out.2.1 HFP.out.ent (by omega)).mono ?_
        rintro e w3 ⟨v3, k, pc, hs, us, ws, rfl, ⟨sH, sU, sW, rfl, m3, m4, m5⟩, hk, hE, hEB, hb3, hto⟩
        have hIs : EchIs r c zs k pc hs us ws := ⟨m3.len, m4.len, m5.len, hk, hE, hEB, hto⟩
        obtain ⟨oH, cH, rfl⟩ := m3.slice
        obtain ⟨oU, cU, rfl⟩ := m4.slice
        obtain ⟨oW, cW, rfl⟩ := m5.slice
        have hb03 := K2.out.2.1.trans (hb3.mono K2.out.2.1.size)
        have K3 := Hid.mk (And.intro m3 (And.intro m4 (And.intro m5 (And.intro hIs hb03))))
        have hw3 := hb3.size
        clear hk hE hb3 m0 m1 m2 m3 m4 m5 hEB hto hIs hb03
        go_wp2_with fail
        obtain ⟨X, hX⟩ : ∃ X, X = (w3.alloc (.cells #[.int .i64 r, .int .i64 c, .slice oH (r * c) cH, .int .i64 r, .int .i64 r, .slice oU (r * r) cU, .int .i64 r, .int .i64 r, .slice oW (r * r) cW, .int .i64 k] 82)).alloc (.cells #[.int .i64 r, .int .i64 c, .slice oH (r * c) cH, .int .i64 r, .int .i64 r, .slice oU (r * r) cU, .int .i64 r, .int .i64 r, .slice oW (r * r) cW] 76) := ⟨_, rfl⟩
        rw [← hX]
        have hbX : Below w3.heap.size w3 X := by rw [hX]; exact ((Below.refl _ _).alloc (Nat.le_refl _) _).alloc (by simp) _
        have hsX : X.heap.size = w3.heap.size + 1 + 1 := by rw [hX]; simp
        have hgX : X.heap[w3.heap.size + 1]? = some (.cells #[.int .i64 r, .int .i64 c, .slice oH (r * c) cH, .int .i64 r, .int .i64 r, .slice oU (r * r) cU, .int .i64 r, .int .i64 r, .slice oW (r * r) cW] 76 (0, 0)) := by
          rw [hX]
          have := heap_alloc_new (w3.alloc (.cells #[.int .i64 r, .int .i64 c, .slice oH (r * c) cH, .int .i64 r, .int .i64 r, .slice oU (r * r) cU, .int .i64 r, .int .i64 r, .slice oW (r * r) cW, .int .i64 k] 82)) (.cells #[.int .i64 r, .int .i64 c, .slice oH (r * c) cH, .int .i64 r, .int .i64 r, .slice oU (r * r) cU, .int .i64 r, .int .i64 r, .slice oW (r * r) cW] 76)
          simpa using this
        have hbwX := K3.out.2.2.2.2.trans (hbX.mono K3.out.2.2.2.2.size)
        have hrow : MRow X (w3.heap.size + 1) [(r, c, hs), (r, r, us), (r, r, ws)] := MRow.three (x := (r, c, hs)) (y := (r, r, us)) (z := (r, r, ws)) hgX ((K3.out.1.below hbX).mono (by omega)) ((K3.out.2.1.below hbX).mono (by omega)) ((K3.out.2.2.1.below hbX).mono (by omega))
        have hw03 := K3.out.2.2.2.2.size
        have HX := Hid.mk (And.intro hbwX hrow)
        clear hX hbX hgX hbwX hrow
        refine (keepAll_held b (w3.heap.size + 1) 3 3 [(r, c, hs), (r, r, us), (r, r, ws)] ms nx _ (H.out.below HX.out.1) HX.out.2 rfl (by omega) (by omega) (by omega) (by have := HRM.out; omega) hnx).mono ?_
        rintro e w4 ⟨v4, rfl, hb4, zs4, rfl, k1, k2, k3, k4, k5, k6⟩
        have K4 := Hid.mk (And.intro k1 (And.intro k2 (And.intro k3 (And.intro k4 (And.intro k5 ((Fr.of_below HX.out.1).trans k6))))))
        clear k1 k2 k3 k4 k5 k6
        go_wp2_with fail
        go_ret2
        exact ⟨_, _, true, [(r, c, hs), (r, r, us), (r, r, ws)], rfl, .inr ⟨i, hd, r, c, zs, K1.out.2.2.1, K1.out.2.2.2.1, K1.out.2.2.2.2, .inr (.inr ⟨HFP.out, by have := HRM.out; omega, rfl, rfl, rfl, k, pc, hs, us, ws, rfl, K3.out.2.2.2.1⟩)⟩, .inr ⟨rfl, hb4, zs4, rfl, by have := HX.out.1.size; have := K4.out.1; omega, K4.out.2.1, K4.out.2.2.1, K4.out.2.2.2.1, K4.out.2.2.2.2.1, K4.out.2.2.2.2.2⟩⟩
  · have KN := Hid.mk (And.intro hno hbw)
    clear hno hbw hb1 hbA hf
    go_wp2_with fail
    go_ret2
    exact ⟨_, _, false, [], rfl, .inl ⟨KN.out.1, rfl, rfl, rfl⟩, .inl ⟨rfl, rfl, H.out.below KN.out.2, Fr.of_below KN.out.2⟩⟩
end Go.Proofs.YtfjbijpagaipnaaGreatDoor
namespace Go.Proofs.YtfjbijpagaipnaaGreatDoor
open Go.RowKit R
set_option maxRecDepth 100000 in
set_option maxHeartbeats 2000000 in
theorem alike_same (v u : Value) (zs : List Nat) (w : World) (hv : R.Own w v zs) (hu : R.Own w u zs) :
    Calls Tryz.prog 181 #[v, u] w fun x w' => x = .returned (.bool true) ∧ Below w.heap.size w w' := by
  obtain ⟨ao, cap, rfl, h1, h2, -⟩ := hv.open_
  obtain ⟨bo, dap, rfl, k1, k2, -⟩ := hu.open_
  have H := Hid.mk (And.intro hv hu)
  clear hv hu
  have hnn : ((zs.length : Int) == (zs.length : Int)) = true := by simp
  go_enter Tryz.func181, Tryz.ntmps181
  go_wp2_with fail
  go_loopw [5] (fun i wr => ∃ k : Nat, k ≤ zs.length ∧ i = .int .i64 k ∧ Below w.heap.size w wr) (fun i _ => zs.length - (intOf i).toNat)
  case atStart => exact ⟨0, Nat.zero_le _, rfl, Below.refl _ _⟩
  case round =>
    obtain ⟨k, hk, rfl, hbel⟩ := hrel
    by_cases hkn : k < zs.length
    · obtain ⟨g, rfl, e1⟩ := (H.out.1.below hbel).at_ rfl k hkn
      obtain ⟨g', rfl, e2⟩ := (H.out.2.below hbel).at_ rfl k hkn
      obtain ⟨x, hx⟩ : ∃ x, x = zs.getD k 0 := ⟨_, rfl⟩
      rw [← hx] at e1 e2
      have hxx : ((x : Int) == (x : Int)) = true := by simp
      have hki : (k : Int) < (zs.length : Int) := by omega
      have K := Hid.mk hbel
      clear hx hbel
      go_wp2_with fail
      go_region
      all_goals
        go_wp2_with fail
        go_roundw
        case measure => simp [intOf]; omega
        case rel => exact ⟨k + 1, by omega, by go_num, K.out.drew⟩
    · have hki : ¬ (k : Int) < (zs.length : Int) := by omega
      go_wp2_with fail
      go_ret
      exact ⟨rfl, hbel⟩
set_option maxRecDepth 100000 in
set_option maxHeartbeats 2000000 in
theorem many_same (T : Nat) (v u : Value) (e : Int) (zs : List Nat) (w : World) (hv : R.Own w v zs) (hu : R.Own w u zs) :
    Calls Tryz.prog 175 #[.pointer (some ⟨T, 0, none⟩), v, .int .i64 e, u, .int .i64 e] w fun x w' => x = .returned (.tuple #[v, .int .i64 e]) ∧ Below w.heap.size w w' := by
  obtain ⟨ao, cap, rfl, -⟩ := hv.open_
  obtain ⟨bo, dap, rfl, -⟩ := hu.open_
  have H := Hid.mk (And.intro hv hu)
  clear hv hu
  have hee : (e == e) = true := by simp
  go_enter Tryz.func175, Tryz.ntmps175
  go_wp2_with fail
  refine (alike_same _ _ zs _ H.out.1 H.out.2).mono ?_
  rintro x w1 ⟨rfl, hb1⟩
  have K := Hid.mk hb1
  clear hb1
  go_wp2_with fail
  refine (like_true T _).mono ?_
  rintro x w' ⟨rfl, rfl⟩
  go_wp2_with fail
  go_ret2
  exact ⟨rfl, K.out⟩
def TwMany (B : Nat) (w w' : World) (T b1 b2 n nx : Nat) (ms : List Hm) (ok : Bool) (xs : List (Nat × Nat × List Int)) (v : Value) : Prop :=
  (ok = false ∧ v = .slice none 0 0 ∧ TwH B w' T b1 b2 ms nx ∧ Chg (St2 b1 b2) w w') ∨ (ok = true ∧ (∃ hb zs, v = .slice (some ⟨hb, 0, none⟩) n n ∧ w.heap.size ≤ hb ∧ zs.length = n ∧ (∀ j, j < n → zs.getD j 0 = nx + j) ∧ R.Own w' v zs) ∧ TwH B w' T b1 b2 (puts ms nx xs) (nx + n) ∧ Chg (St2 b1 b2) w w')
theorem own_uniq {n nx : Nat} {zs ys : List Nat} (h1 : zs.length = n) (h2 : ys.length = n) (a : ∀ j, j < n → zs.getD j 0 = nx + j) (b : ∀ j, j < n → ys.getD j 0 = nx + j) : zs = ys := by
  apply List.ext_getElem (by omega)
  intro i h3 h4
  have := (a i (by omega)).trans (b i (by omega)).symm
  simpa [List.getD, h3, h4] using this
theorem TwMany.of_outs {B : Nat} {w w1 w2 w3 : World} {T b1 b2 n nx : Nat} {ms : List Hm} {ok : Bool} {xs : List (Nat × Nat × List Int)} {v u : Value} (h : TwH B w T b1 b2 ms nx) (h1 : ManyOut w w1 b1 n nx ms ok xs v) (h2 : ManyOut w1 w2 b2 n nx ms ok xs u) (h3 : Below w2.heap.size w2 w3) : TwMany B w w3 T b1 b2 n nx ms ok xs v ∧ ∃ zs, R.Own w2 v zs ∧ R.Own w2 u zs := by
  obtain ⟨hTw, hA, hC, hbb, htab, hB1, hB2, hB3⟩ := h
  have fr1 : Fr b1 w w1 := by rcases h1 with ⟨-, -, -, f⟩ | ⟨-, _, _, _, _, _, _, _, _, f⟩ <;> exact f
  have fr2 : Fr b2 w1 w2 := by rcases h2 with ⟨-, -, -, f⟩ | ⟨-, _, _, _, _, _, _, _, _, f⟩ <;> exact f
  have hbel1 : Below B w w1 := fr1.belowB hB2 (by have := hTw.lt; omega)
  have hbel2 : Below B w1 w2 := fr2.belowB hB3 (by have := hbel1.size; have := hTw.lt; omega)
  have hs1 := fr1.1.size
  have hs2 := fr2.1.size
  have hT1 : Tw w1 T b1 b2 false := hTw.of_block (fr1.1.block T hTw.lt (by simpa using hTw.ne hA.ty))
  have hC1 : Held w1 b2 ms nx := hC.fr fr1 (Ne.symm hbb)
  have hT2 : Tw w2 T b1 b2 false := hT1.of_block (fr2.1.block T hT1.lt (by simpa using hT1.ne hC1.ty))
  have hchg : Chg (St2 b1 b2) w w3 := ((Chg.of_fr fr1 (.inl rfl)).trans (Chg.of_fr fr2 (.inr rfl))).trans (Chg.of_below h3)
  have htab3 := ((htab.below hbel1).below hbel2).below (h3.mono (by have := hbel1.size; have := hbel2.size; have := hTw.lt; omega))
  have hT3 := hT2.of_block (h3.block T hT2.lt)
  rcases h1 with ⟨rfl, rfl, a1, -⟩ | ⟨rfl, hb, zs, rfl, a1, a2, a3, a4, a5, -⟩
  · rcases h2 with ⟨-, rfl, d1, -⟩ | ⟨e, -⟩
    · exact ⟨.inl ⟨rfl, rfl, ⟨hT3, (a1.fr fr2 hbb).below h3, d1.below h3, hbb, htab3, hB1, hB2, hB3⟩, hchg⟩, [], R.Own.nil _, R.Own.nil _⟩
    · cases e
  · rcases h2 with ⟨e, -⟩ | ⟨-, hb', zs', rfl, d1, d2, d3, d4, d5, -⟩
    · cases e
    · have hzz := own_uniq a2 d2 a3 d3
      subst hzz
      have hne : hb ≠ b2 := by have := hC.lt; omega
      have hO : R.Own w2 (.slice (some ⟨hb, 0, none⟩) n n) zs := a4.of_block (fun g hg => by
        simp [Value.ownBlock] at hg
        subst hg
        exact fr2.1.block hb a4.lt (fun e => hne (by injection e)))
      exact ⟨.inr ⟨rfl, ⟨hb, zs, rfl, a1, a2, a3, hO.below h3⟩, ⟨hT3, (a5.fr fr2 hbb).below h3, d5.below h3, hbb, htab3, hB1, hB2, hB3⟩, hchg⟩, zs, hO, d4⟩
set_option maxRecDepth 100000 in
set_option maxHeartbeats 1000000 in
theorem twEchelon_any (B T b1 b2 : Nat) (h : Int) (ms : List Hm) (nx : Nat) (w : World) (hst : TwH B w T b1 b2 ms nx) (hd : Dst ms) (hnx : nx < 1000000 - 5) :
    Calls Tryz.prog 115 #[.pointer (some ⟨T, 0, none⟩), .int .i64 h] w fun x w' => ∃ v e ok xs, x = .returned (.tuple #[v, .int .i64 e]) ∧ ManyRel 3 EchRes ms h ok e xs ∧ TwMany B w w' T b1 b2 3 nx ms ok xs v := by
  obtain ⟨c0, c1, c2, -⟩ := hst.1.cells
  have H := Hid.mk (And.intro hst hd)
  clear hst hd
  go_enter Tryz.func115, Tryz.ntmps115
  go_wp2_with fail
  refine (echelon_held b1 h ms nx _ H.out.1.2.1 hnx).mono ?_
  rintro x w1 ⟨v1, e1, ok1, xs1, rfl, hrel1, ho1⟩
  have fr1 : Fr b1 w w1 := by rcases ho1 with ⟨-, -, -, f⟩ | ⟨-, _, _, _, _, _, _, _, _, f⟩ <;> exact f
  have hT1 : Tw w1 T b1 b2 false := H.out.1.1.of_block (fr1.1.block T H.out.1.1.lt (by simpa using H.out.1.1.ne H.out.1.2.1.ty))
  have hH2 : Held w1 b2 ms nx := H.out.1.2.2.1.fr fr1 (Ne.symm H.out.1.2.2.2.1)
  clear c0 c1 c2
  obtain ⟨c0, c1, c2, -⟩ := hT1.cells
  obtain ⟨o1, n1, p1, rfl⟩ : ∃ o n p, v1 = .slice o n p := by rcases ho1 with ⟨-, rfl, -⟩ | ⟨-, _, _, rfl, -⟩ <;> exact ⟨_, _, _, rfl⟩
  have K1 := Hid.mk (And.intro hH2 (And.intro hrel1 ho1))
  clear hT1 hH2 hrel1 ho1 fr1
  go_wp2_with fail
  refine (echelon_held b2 h ms nx _ K1.out.1 hnx).mono ?_
  rintro x w2 ⟨v2, e2, ok2, xs2, rfl, hrel2, ho2⟩
  obtain ⟨rfl, rfl, rfl⟩ := ManyRel.uniq echRes_uniq H.out.2 K1.out.2.1 hrel2
  obtain ⟨o2, n2, p2, rfl⟩ : ∃ o n p, v2 = .slice o n p := by rcases ho2 with ⟨-, rfl, -⟩ | ⟨-, _, _, rfl, -⟩ <;> exact ⟨_, _, _, rfl⟩
  have K2 := Hid.mk (And.intro ho2 (TwMany.of_outs H.out.1 K1.out.2.2 ho2 (Below.refl _ _)).2)
  clear ho2 c0 c1 c2 hrel2
  obtain ⟨zs, z1, z2⟩ := K2.out.2
  have KZ := Hid.mk (And.intro z1 z2)
  clear z1 z2
  go_wp2_with fail
  refine (many_same T _ _ e1 zs _ KZ.out.1 KZ.out.2).mono ?_
  rintro x w3 ⟨rfl, hb3⟩
  have K3 := Hid.mk hb3
  clear hb3
  go_wp2_with fail
  go_ret2
  exact ⟨_, _, _, _, rfl, K1.out.2.1, (TwMany.of_outs H.out.1 K1.out.2.2 K2.out.1 K3.out).1⟩
end Go.Proofs.YtfjbijpagaipnaaGreatDoor
namespace Go.Proofs.YtfjbijpagaipnaaGreatDoor
open Go.RowKit R
theorem RowG.stored {w : World} {T : TypeId} {g n cap : Nat} {xs : List Value} (h : RowG w T (.slice (some ⟨g, 0, none⟩) n cap) xs) (k : Nat) (u : Value) : RowG (w.setCell ⟨g, k, none⟩ u) T (.slice (some ⟨g, 0, none⟩) n cap) (xs.set k u) := by
  rcases h with ⟨e, -⟩ | ⟨g', cap', cur, e, h1, h2, h3, h4, h5⟩
  · simp at e
  · simp only [Value.slice.injEq, Option.some.injEq, Addr.mk.injEq] at e
    obtain ⟨⟨rfl, -⟩, rfl, rfl⟩ := e
    refine .inr ⟨g, cap, cur.set! k u, by simp, by rw [heap_setCell_same _ _ _ _ _ _ h1]; simp, by simpa using h2, by simpa using h3, h4, fun i hi => ?_⟩
    rw [List.length_set] at hi
    have h6 := h5 i hi
    rw [Array.set!_eq_setIfInBounds, Array.getElem?_setIfInBounds, List.getElem?_set]
    have hc : i < cur.size := by omega
    by_cases e : k = i
    · subst e; simp [hc, hi]
    · simp [e, h6]
theorem lw_lists {w : World} {W T : Nat} {hv iv lv tv : Value} {nx : Nat} (h : Lw w W T hv iv lv tv nx) (u : Value) : Lw (w.setCell ⟨W, 5, none⟩ u) W T u iv lv tv nx := by
  unfold Lw at *
  rw [heap_setCell_same _ _ _ _ _ _ h]
  simp
def MineOut (w w' : World) (W T nx g n : Nat) (hv iv lv tv : Value) (ls : List Hl) : Prop := ∃ hv', Lw w' W T hv' iv lv tv nx ∧ RowG w' 25 hv' (hlc (ls ++ [(g, n)])) ∧ RowG w' 3 (hl1 (g, n)) (List.replicate n (.int .i64 (-1 - (ls.length : Int)))) ∧ Chg (fun k => k = W ∨ hv.ownBlock = some k ∨ k = g) w w' ∧ ∀ k, hv'.ownBlock = some k → hv.ownBlock = some k ∨ w.heap.size ≤ k
set_option maxRecDepth 100000 in
set_option maxHeartbeats 4000000 in
theorem mine_any (W T nx g n : Nat) (hv iv lv tv : Value) (ls : List Hl) (zs : List Nat) (w : World) (hL : Lw w W T hv iv lv tv nx) (hrow : RowG w 25 hv (hlc ls)) (ho : R.Own w (.slice (some ⟨g, 0, none⟩) n n) zs) (hz : zs.length = n) (hn5 : n ≤ 5) (hls : ls.length ≤ 1000000) :
    Calls Tryz.prog 116 #[.pointer (some ⟨W, 0, none⟩), .slice (some ⟨g, 0, none⟩) n n] w fun x w' => x = .returned (.tuple #[]) ∧ MineOut w w' W T nx g n hv iv lv tv ls := by
  have hgt := R.Own.ty_ ho
  have hgW : g ≠ W := ty_ne hgt hL.ty (by decide)
  have hgl := hgt.lt
  have hWl := hL.lt
  have hr0 : RowG w 3 (.slice (some ⟨g, 0, none⟩) n n) (R.lcells zs) := RowG.of_owns (B := 0) (by
    have h1 : (R.lcells zs).length = zs.length := by simp [R.lcells]
    rw [h1]; exact ho)
  obtain ⟨hoa, hcap, rfl, q1, q2, -⟩ := hrow.shape
  rw [hlc_len] at hL hrow q1 ⊢
  have hgH : ∀ k, (Value.slice hoa ls.length hcap).ownBlock = some k → k ≠ g := fun k hk e => ty_ne (hrow.own k hk).2 hgt (by decide) e
  have H := Hid.mk (And.intro hL (And.intro hrow (And.intro hr0 (And.intro hgH (And.intro hgt hz)))))
  obtain ⟨c0, c1, c2, c3, c4, c5, c6⟩ := hL.cells
  clear hL hrow hr0 hgH hgt ho hz
  go_enter Tryz.func116, Tryz.ntmps116
  go_wp2_with fail
  go_loopw [4] (fun i wr => ∃ (k : Nat) (vs : List Value), k ≤ n ∧ i = .int .i64 k ∧ Hid (vs.length = n ∧ RowG wr 3 (.slice (some ⟨g, 0, none⟩) n n) vs ∧ Chg (fun k => k = g) w wr ∧ ∀ j, j < k → vs[j]? = some (.int .i64 (-1 - (ls.length : Int))))) (fun i _ => n - (intOf i).toNat)
  case atStart => exact ⟨0, R.lcells zs, Nat.zero_le _, rfl, Hid.mk ⟨by simp [R.lcells, H.out.2.2.2.2.2], H.out.2.2.1, Chg.of_below (Below.refl _ _), fun j hj => by omega⟩⟩
  case round =>
    obtain ⟨k, vs, hk, rfl, HI⟩ := hrel
    have hLr := H.out.1.of_block (HI.out.2.2.1.block hWl (fun e => hgW e.symm))
    clear c0 c1 c2 c3 c4 c5 c6
    obtain ⟨c0, c1, c2, c3, c4, c5, c6⟩ := hLr.cells
    have HLR := Hid.mk hLr
    clear hLr
    have hws := HI.out.2.2.1.size
    by_cases hkn : k < n
    · have hki : (k : Int) < (n : Int) := by omega
      have hfz : wr.frozen? ⟨g, k, none⟩ = false := by
        rcases HI.out.2.1 with ⟨e, -⟩ | ⟨g', cap', cur, e, h1, -⟩
        · simp at e
        · simp only [Value.slice.injEq, Option.some.injEq, Addr.mk.injEq] at e
          obtain ⟨⟨rfl, -⟩, -⟩ := e
          simp [World.frozen?, h1]
      have hcl : ∃ y, wr.cell? ⟨g, k, none⟩ = some y := by
        obtain ⟨ao, cp, e, -, -, -, h2⟩ := HI.out.2.1.shape
        obtain ⟨g', e1, e2⟩ := h2 k (by rw [HI.out.1]; exact hkn)
        simp only [Value.slice.injEq] at e
        obtain ⟨e3, -⟩ := e
        rw [← e3] at e1
        simp only [Option.some.injEq, Addr.mk.injEq] at e1
        rw [e1.1, e2]
        exact ⟨vs[k]'(by rw [HI.out.1]; exact hkn), by simp [HI.out.1, hkn]⟩
      obtain ⟨y, hy⟩ := hcl
      go_wp2_with fail
      go_roundw
      case measure => simp [intOf]; omega
      case rel =>
        obtain ⟨i1, i2, i3, i4⟩ := HI.out
        refine ⟨k + 1, vs.set k (.int .i64 (-1 - (ls.length : Int))), by omega, by go_num, Hid.mk ⟨by simp [i1], i2.stored k _, i3.trans (Chg.setW (S := fun k => k = g) (i2.own g rfl).2 (by decide) (by decide) rfl _), fun j hj => ?_⟩⟩
        by_cases hjk : j = k
        · subst hjk; simp [i1, hkn]
        · rw [List.getElem?_set_ne (fun e => hjk e.symm)]; exact i4 j (by omega)
    · have hki : ¬ (k : Int) < (n : Int) := by omega
      have hkn' : k = n := by omega
      subst hkn'
      obtain ⟨il, hil, hil0, hil1, hil2⟩ := info_parts Tryz.infoL
      have HIL := Hid.mk (And.intro hil (And.intro hil0 (And.intro hil1 hil2)))
      have hrr : RowG wr 25 (.slice hoa ls.length hcap) (hlc ls) := H.out.2.1.chg HI.out.2.2.1 (fun q hq e => H.out.2.2.2.1 q hq e)
      have HRR := Hid.mk hrr
      clear hil hil0 hil1 hil2 hrr
      go_wp2_with (at_builtin; refine wpList_append_row _ rfl _ _ 37 rfl 25 il (.slice none 0 0) 24 Tryz.underlying37 HIL.out.1 HIL.out.2.1 HIL.out.2.2.1 HIL.out.2.2.2 rfl (.slice hoa ls.length hcap) (hlc ls) rfl (HRR.out.below ?_) ⟨_, 0, none⟩ (.slice (some ⟨g, 0, none⟩) k k) rfl ?_ rfl ?_ ?_ ?_)
      · exact (Below.refl _ _).alloc (Nat.le_refl _) _
      · rw [hlc_len]; unfold maxLen; omega
      · rw [hlc_len]; omega
      · intro v' w' hA
        have HR := app_row (j := 5) HLR.out.ty ((Below.refl _ _).alloc (Nat.le_refl _) _) HRR.out hA (by decide)
        obtain ⟨voa, vcap, hve, -⟩ := hA.1.shape
        obtain ⟨vm, hvm⟩ : ∃ vm, vm = (hlc ls ++ [Value.slice (some ⟨g, 0, none⟩) k k]).length := ⟨_, rfl⟩
        rw [← hvm] at hve
        clear hvm
        subst hve
        have hLw := HLR.out.of_block HR.2.2.1
        obtain ⟨d0, d1, d2, d3, d4, d5, d6⟩ := hLw.cells
        have K := Hid.mk (And.intro HR hLw)
        clear HR hLw hA c0 c1 c2 c3 c4 c5 c6
        go_wp2_with fail
        go_end0
        obtain ⟨⟨r1, r2, -, r4⟩, hLw⟩ := K.out
        refine ⟨rfl, _, lw_lists hLw _, ?_, ?_, ?_, fun q hq => ?_⟩
        · have : hlc (ls ++ [(g, k)]) = hlc ls ++ [Value.slice (some ⟨g, 0, none⟩) k k] := by simp [hlc, hl1]
          rw [this]; exact r1
        · have hvs : vs = List.replicate k (.int .i64 (-1 - (ls.length : Int))) := by
            apply List.ext_getElem?
            intro a
            rcases Nat.lt_or_ge a k with h1 | h1
            · rw [HI.out.2.2.2 a h1]; simp [h1]
            · rw [List.getElem?_eq_none (by rw [HI.out.1]; exact h1), List.getElem?_eq_none (by simpa using h1)]
          rw [← hvs]
          refine HI.out.2.1.chg r2 (fun q hq e => ?_)
          simp [Value.ownBlock] at hq
          subst hq
          rcases e with e | e
          · exact hgW e
          · exact H.out.2.2.2.1 g e rfl
        · exact (HI.out.2.2.1.mono (fun q hq => .inr (.inr hq))).trans (r2.mono (fun q hq => by
            rcases hq with hq | hq
            · exact .inl hq
            · exact .inr (.inl hq)))
        · rcases r4 q hq with h | h
          · exact .inl h
          · exact .inr (by omega)
end Go.Proofs.YtfjbijpagaipnaaGreatDoor
