import Derived.Test.YtfjbijpagaipnabGreatDoorR18
import Derived.Test.YtfjbijpagaipnabGreatDoorR11
import Derived.BigQuiet
import Derived.Deep.RegionHeld3
import Derived.Test.YtfjbijpagaipnabGreatDoorR12
namespace Go.Proofs.YtfjbijpagaipnabGreatDoor.R
open Go.RowKit
def joinL (c : UInt8) : List (List UInt8) → List UInt8
 | [] => []
 | [p] => p
 | p :: q :: r => p ++ c :: joinL c (q :: r)
theorem joinL_cons (c : UInt8) (p : List UInt8) (ps : List (List UInt8)) (h : ps ≠ []) : joinL c (p :: ps) = p ++ c :: joinL c ps := by
 cases ps with
 | nil => exact absurd rfl h
 | cons q r => rfl
theorem joinL_head (c x : UInt8) (p : List UInt8) (ps : List (List UInt8)) : joinL c ((x :: p) :: ps) = x :: joinL c (p :: ps) := by
 cases ps with
 | nil => rfl
 | cons q r => rfl
theorem joinL_cut (c : UInt8) (l : List UInt8) : joinL c (cutL c l) = l := by
 induction l with
 | nil => rfl
 | cons x r ih =>
   by_cases h : x = c
   ·subst h
    rw [cutL, if_pos rfl, joinL_cons _ _ _ (cutL_ne _ _), ih]; rfl
   ·rw [cutL, if_neg h]
    cases h2 : cutL c r with
    | nil => exact absurd h2 (cutL_ne c r)
    | cons a b =>
      rw [h2] at ih
      show joinL c ((x :: a) :: b) = _
      rw [joinL_head, ih]
theorem cut_one {c : UInt8} {p : List UInt8} (h : c ∉ p) : cutL c p = [p] := by
 induction p with
 | nil => rfl
 | cons x r ih =>
   rw [cutL, if_neg (fun e => h (by rw [e]; simp)), ih (fun e => h (List.mem_cons_of_mem _ e))]
theorem cut_app {c : UInt8} {p : List UInt8} (h : c ∉ p) (r : List UInt8) : cutL c (p ++ c :: r) = p :: cutL c r := by
 induction p with
 | nil => rw [List.nil_append, cutL, if_pos rfl]
 | cons x t ih =>
   rw [List.cons_append, cutL, if_neg (fun e => h (by rw [e]; simp)), ih (fun e => h (List.mem_cons_of_mem _ e))]
theorem cut_join {c : UInt8} : ∀ (ps : List (List UInt8)), ps ≠ [] → (∀ p ∈ ps, c ∉ p) → cutL c (joinL c ps) = ps
 | [], h, _ => absurd rfl h
 | [p], _, h => cut_one (h p (by simp))
 | p :: q :: r, _, h => by
   rw [joinL, cut_app (h p (by simp)), cut_join (q :: r) (by simp) (fun x hx => h x (List.mem_cons_of_mem _ hx))]
def rowT : List (List UInt8) → List UInt8
 | [] => []
 | t :: r => 32 :: (t ++ rowT r)
theorem row_join : ∀ (a : List (List UInt8)), joinL 32 ([] :: a) = rowT a
 | [] => rfl
 | [t] => by simp [joinL, rowT]
 | t :: u :: r => by
   have := row_join (u :: r)
   rw [joinL_cons _ _ _ (by simp)] at this ⊢
   rw [joinL_cons _ _ _ (by simp)]
   rw [rowT, ← this]
   rfl
theorem body_mid {c k : Nat} (hc : 0 < c) : ∀ (a b : List (List UInt8)) (j : Nat), 0 < j → j + a.length ≤ c → bodyT c (k * c + j) (a ++ b) = rowT a ++ bodyT c (k * c + j + a.length) b
 | [], b, j, _, _ => by simp [rowT]
 | t :: a, b, j, hj, hl => by
   have hl' : j + 1 + a.length ≤ c := by simp at hl; omega
   rw [List.cons_append, bodyT, if_neg ?_, List.nil_append, show k * c + j + 1 = k * c + (j + 1) from by omega, body_mid hc a b (j + 1) (by omega) hl', rowT]
   ·rw [List.length_cons, show k * c + (j + 1) + a.length = k * c + j + (a.length + 1) from by omega]
    simp [List.append_assoc]
   ·rw [show (k * c + j) % c = j from by rw [Nat.mul_comm, Nat.mul_add_mod, Nat.mod_eq_of_lt (by omega)]]
    omega
theorem body_row {c k : Nat} (hc : 0 < c) (a b : List (List UInt8)) (ha : a.length = c) : bodyT c (k * c) (a ++ b) = (if 0 < k then [59] else []) ++ (rowT a ++ bodyT c ((k + 1) * c) b) := by
 cases a with
 | nil => simp at ha; omega
 | cons t a =>
   simp only [List.length_cons] at ha
   have hif : (0 < k * c ∧ k * c % c = 0) ↔ 0 < k := by
    constructor
    ·rintro ⟨h, _⟩
     rcases Nat.eq_zero_or_pos k with h1 | h1
     ·subst h1; simp at h
     ·exact h1
    ·intro h
     exact ⟨Nat.mul_pos h hc, Nat.mul_mod_left _ _⟩
   rw [List.cons_append, bodyT, body_mid hc a b 1 (by omega) (by omega), rowT]
   simp only [hif]
   rw [show k * c + 1 + a.length = (k + 1) * c from by rw [Nat.add_mul]; omega]
   simp [List.append_assoc]
theorem body_join {c : Nat} (hc : 0 < c) : ∀ (rows : List (List (List UInt8))) (k : Nat), rows ≠ [] → (∀ row ∈ rows, row.length = c) → bodyT c (k * c) rows.flatten = (if 0 < k then [59] else []) ++ joinL 59 (rows.map rowT)
 | [], _, h, _ => absurd rfl h
 | [a], k, _, h => by
   rw [show [a].flatten = a ++ [] from by simp, body_row hc a [] (h a (by simp))]
   simp [bodyT, joinL]
 | a :: b :: r, k, _, h => by
   have ih := body_join hc (b :: r) (k + 1) (by simp) (fun x hx => h x (List.mem_cons_of_mem _ hx))
   rw [if_pos (by omega)] at ih
   rw [List.flatten_cons, body_row hc a _ (h a (by simp)), ih, show (a :: b :: r).map rowT = rowT a :: (b :: r).map rowT from rfl, joinL_cons 59 (rowT a) ((b :: r).map rowT) (by simp)]
   simp
theorem chunks {α : Type} (c : Nat) : ∀ (r : Nat) (l : List α), l.length = r * c → ∃ rows : List (List α), rows.length = r ∧ (∀ row ∈ rows, row.length = c) ∧ rows.flatten = l
 | 0, l, h => ⟨[], rfl, (fun x hx => by cases hx), by simp at h; simp [h]⟩
 | r + 1, l, h => by
   rw [Nat.add_mul, Nat.one_mul] at h
   obtain ⟨rows, h1, h2, h3⟩ := chunks c r (l.drop c) (by rw [List.length_drop]; omega)
   refine ⟨l.take c :: rows, by simp [h1], fun x hx => ?_, by rw [List.flatten_cons, h3, List.take_append_drop]⟩
   rcases List.mem_cons.1 hx with rfl | hx
   ·rw [List.length_take]; omega
   ·exact h2 x hx
theorem flat_getD {α : Type} (d : α) (c : Nat) : ∀ (rows : List (List α)) (i j : Nat), (∀ row ∈ rows, row.length = c) → j < c → i < rows.length → rows.flatten.getD (i * c + j) d = (rows.getD i []).getD j d
 | [], i, j, _, _, hi => by simp at hi
 | a :: r, 0, j, h, hj, _ => by
   have ha := h a (by simp)
   simp [List.getD, List.getElem?_append_left (show j < a.length from by omega)]
 | a :: r, i + 1, j, h, hj, hi => by
   have ha := h a (by simp)
   have := flat_getD d c r i j (fun x hx => h x (List.mem_cons_of_mem _ hx)) hj (by simpa using hi)
   rw [List.flatten_cons, List.getD, List.getElem?_append_right (by rw [ha, Nat.add_mul]; omega), show (i + 1) * c + j - a.length = i * c + j from by rw [ha, Nat.add_mul]; omega]
   rw [List.getD] at this
   rw [this]
   rfl
theorem run_dec : ∀ (n : Nat) (ds : List UInt8), ds.length = n → Run ds → Lib.decDigits (decval ds) = ds := by
 intro n
 induction n with
 | zero => intro ds hl h; exact absurd (List.eq_nil_of_length_eq_zero hl) h.1
 | succ n ih =>
   intro ds hl h
   rcases List.eq_nil_or_concat ds with rfl | ⟨a, d, rfl⟩
   ·exact absurd rfl h.1
   ·have hd : 48 ≤ d.toNat ∧ d.toNat ≤ 57 := h.2.1 d (by simp)
    rw [List.concat_eq_append] at h hl ⊢
    have hof : UInt8.ofNat (48 + (d.toNat - 48)) = d := by
     apply UInt8.toNat_inj.1
     rw [UInt8.toNat_ofNat', Nat.mod_eq_of_lt (by have := d.toNat_lt; omega)]
     omega
    rw [decval_snoc]
    by_cases ha : a = []
    ·subst ha
     rw [show decval [] = 0 from rfl, Nat.mul_zero, Nat.zero_add, Lib.decDigits_one (by omega), hof]
     rfl
    ·have hal : 0 < a.length := List.length_pos_iff.2 ha
     have hrun : Run a := by
      refine ⟨ha, fun c hc => h.2.1 c (by simp [hc]), .inr ?_⟩
      rcases h.2.2 with h2 | ⟨e, r, he, hne⟩
      ·simp at h2; exact absurd h2 ha
      ·cases a with
       | nil => exact absurd rfl ha
       | cons x t =>
         injection he with he _
         exact ⟨x, t, rfl, by rw [he]; exact hne⟩
     have hpos : 0 < decval a := by
      rcases h.2.2 with h2 | ⟨e, r, he, hne⟩
      ·simp at h2; exact absurd h2 ha
      ·cases a with
       | nil => exact absurd rfl ha
       | cons x t =>
         injection he with he _
         have hx := h.2.1 x (by simp)
         show 0 < dval (x :: t)
         rw [dval_cons]
         have h3 : 1 ≤ x.toNat - 48 := by rw [he] at hx ⊢; omega
         have h4 : 1 ≤ 10 ^ t.length := Nat.pow_pos (by decide)
         have := Nat.mul_le_mul h3 h4
         omega
     have e1 : (10 * decval a + (d.toNat - 48)) / 10 = decval a := by omega
     have e2 : (10 * decval a + (d.toNat - 48)) % 10 = d.toNat - 48 := by omega
     rw [decDigits_big (by omega), e1, e2, ih a (by simp at hl; omega) hrun, hof]
theorem run_len2 {ds : List UInt8} (h : Run ds) (h9 : decval ds ≤ 99) : ds.length ≤ 2 := by
 rw [← run_dec _ ds rfl h]
 exact dec_le2 _ (by omega)
theorem tok_says {tk : List UInt8} {z : Int} (h : Tok tk z) : Says tk z := by
 unfold Says
 rcases h with ⟨h1, rfl⟩ | ⟨ds, rfl, h1, h2, rfl⟩
 ·rw [Lib.itoa_nonneg, run_dec _ tk rfl h1]
 ·have hpos : 1 ≤ decval ds := by
   rcases Nat.eq_zero_or_pos (decval ds) with h0 | h0
   ·exfalso
    have := run_dec _ ds rfl h1
    rw [h0, Lib.decDigits_one (by decide)] at this
    exact h2 this.symm
   ·exact h0
  rw [Lib.itoa_neg _ hpos, run_dec _ ds rfl h1]
theorem says_tok {tk : List UInt8} {z : Int} (h : Says tk z) : Tok tk z := by
 unfold Says at h
 rw [h]
 exact tok_itoa z
theorem tok_chars {tk : List UInt8} {z : Int} (h : Tok tk z) : ∀ c ∈ tk, c = 45 ∨ (48 ≤ c.toNat ∧ c.toNat ≤ 57) := by
 intro c hc
 rcases h with ⟨h1, -⟩ | ⟨ds, rfl, h1, -⟩
 ·exact .inr (h1.2.1 c hc)
 ·rcases List.mem_cons.1 hc with rfl | hc
  ·exact .inl rfl
  ·exact .inr (h1.2.1 c hc)
theorem rowT_chars : ∀ (a : List (List UInt8)), (∀ t ∈ a, ∃ z, Tok t z) → ∀ c ∈ rowT a, c = 32 ∨ c = 45 ∨ (48 ≤ c.toNat ∧ c.toNat ≤ 57)
 | [], _, c, hc => by simp [rowT] at hc
 | t :: r, h, c, hc => by
   unfold rowT at hc
   rcases List.mem_cons.1 hc with rfl | hc
   ·exact .inl rfl
   ·rcases List.mem_append.1 hc with hc | hc
    ·obtain ⟨z, hz⟩ := h t (by simp)
     exact .inr (tok_chars hz c hc)
    ·exact rowT_chars r (fun u hu => h u (List.mem_cons_of_mem _ hu)) c hc
theorem run_chars {ds : List UInt8} (h : Run ds) (c : UInt8) (hc : c.toNat < 48 ∨ 57 < c.toNat) : c ∉ ds := fun hm => by
 have := h.2.1 c hm; omega
theorem join_chars {c x : UInt8} : ∀ (ps : List (List UInt8)), x ∈ joinL c ps → x = c ∨ ∃ p ∈ ps, x ∈ p
 | [], h => by simp [joinL] at h
 | [p], h => .inr ⟨p, by simp, h⟩
 | p :: q :: r, h => by
   rw [joinL] at h
   rcases List.mem_append.1 h with h | h
   ·exact .inr ⟨p, by simp, h⟩
   ·rcases List.mem_cons.1 h with h | h
    ·exact .inl h
    ·rcases join_chars (q :: r) h with h | ⟨y, hy, hx⟩
     ·exact .inl h
     ·exact .inr ⟨y, List.mem_cons_of_mem _ hy, hx⟩
theorem getD_mem {α : Type} {l : List α} {i : Nat} {d : α} (h : i < l.length) : l.getD i d ∈ l := by
 rw [List.getD, List.getElem?_eq_getElem h]; exact List.getElem_mem h
theorem says_of_writes {s : ByteArray} {r c : Nat} {zs : List Int} {L : Nat} (hr : r ≤ 99) (hc : c ≤ 99) (h : Writes s r c zs L) : RSays s.data.toList r c (fun i j => zs.getD (i * c + j) 0) := by
 obtain ⟨dr, dc, tks, h1, h2, h3, h4, h5, h6, h7, h8⟩ := h
 have okd : ∀ ds, Run ds → decval ds ≤ 99 → OkSide ds := fun ds hd h9 => by
  refine ⟨hd.1, run_len2 hd h9, hd.2.1, fun hl d r e he => ?_⟩
  rcases hd.2.2 with h' | ⟨d', r', e', hne⟩
  ·omega
  ·rw [e] at e'
   injection e' with e' _
   rw [e'] at he
   exact hne he
 have htk : ∀ t ∈ tks, ∃ z, Tok t z := fun t ht => by
  obtain ⟨i, hi, rfl⟩ := List.mem_iff_getElem.1 ht
  have := (h8 i (by omega)).1
  rw [show tks.getD i [] = tks[i] from by simp [List.getD, List.getElem?_eq_getElem hi]] at this
  exact ⟨_, this⟩
 obtain ⟨rows, e1, e2, e3⟩ := chunks c r tks h6
 have hrow : ∀ row ∈ rows, ∀ t ∈ row, ∃ z, Tok t z := fun row hrow t ht => htk t (by rw [← e3]; exact List.mem_flatten.2 ⟨row, hrow, ht⟩)
 have hbody : 0 < r → 0 < c → bodyT c 0 tks = joinL 59 (rows.map rowT) := fun hr0 hc0 => by
  have := body_join hc0 rows 0 (fun e => by rw [e] at e1; simp at e1; omega) e2
  rw [Nat.zero_mul, e3] at this
  simpa using this
 have hno58 : (58 : UInt8) ∉ bodyT c 0 tks := by
  by_cases hz : r = 0 ∨ c = 0
  ·have : tks = [] := List.eq_nil_of_length_eq_zero (by rw [h6]; rcases hz with h | h <;> simp [h])
   rw [this]; simp [bodyT]
  ·rw [hbody (by omega) (by omega)]
   intro hm
   rcases join_chars _ hm with h | ⟨p, hp, hx⟩
   ·exact absurd h (by decide)
   ·obtain ⟨row, hr1, rfl⟩ := List.mem_map.1 hp
    have := rowT_chars row (hrow row hr1) 58 hx
    revert this
    decide
 refine ⟨dr ++ 120 :: dc, bodyT c 0 tks, dr, dc, ?_, ?_, okd dr h2 (by omega), okd dc h3 (by omega), h4, h5, ?_⟩
 ·rw [h1, show dr ++ (120 :: (dc ++ (58 :: bodyT c 0 tks))) = (dr ++ 120 :: dc) ++ 58 :: bodyT c 0 tks from by simp, cut_app ?_, cut_one hno58]
  intro hm
  rcases List.mem_append.1 hm with hm | hm
  ·exact run_chars h2 58 (by decide) hm
  ·rcases List.mem_cons.1 hm with hm | hm
   ·exact absurd hm (by decide)
   ·exact run_chars h3 58 (by decide) hm
 ·rw [cut_app (run_chars h2 120 (by decide)), cut_one (run_chars h3 120 (by decide))]
 ·by_cases hz : r = 0 ∨ c = 0
  ·have : tks = [] := List.eq_nil_of_length_eq_zero (by rw [h6]; rcases hz with h | h <;> simp [h])
   exact .inl ⟨hz, by rw [this]; rfl⟩
  ·have hr0 : 0 < r := by omega
   have hc0 : 0 < c := by omega
   have hcut : cutL 59 (bodyT c 0 tks) = rows.map rowT := by
    rw [hbody hr0 hc0]
    refine cut_join _ (fun e => by have := congrArg List.length e; simp at this; rw [this] at e1; simp at e1; omega) (fun p hp => ?_)
    obtain ⟨row, hr1, rfl⟩ := List.mem_map.1 hp
    intro hm
    have := rowT_chars row (hrow row hr1) 59 hm
    revert this
    decide
   have hpc : ∀ i, i < r → pieces (bodyT c 0 tks) i = [] :: rows.getD i [] := fun i hi => by
    unfold pieces
    rw [hcut, show (rows.map rowT).getD i [] = rowT (rows.getD i []) from by simp [List.getD, List.getElem?_eq_getElem (show i < rows.length from by omega)], ← row_join]
    refine cut_join _ (by simp) (fun p hp => ?_)
    rcases List.mem_cons.1 hp with rfl | hp
    ·simp
    ·obtain ⟨z, hz⟩ := hrow _ (getD_mem (by omega)) p hp
     intro hm
     have := tok_chars hz 32 hm
     revert this
     decide
   have hsay : ∀ i j, i < r → j < c → Says ((pieces (bodyT c 0 tks) i).getD (j + 1) []) (zs.getD (i * c + j) 0) := fun i j hi hj => by
    rw [hpc i hi]
    have h9 := (h8 (i * c + j) (idx_lt hi hj)).1
    rw [← e3, flat_getD [] c rows i j e2 hj (by omega)] at h9
    exact tok_says h9
   refine .inr ⟨hr0, hc0, by rw [hcut, List.length_map, e1], fun i hi => ⟨⟨?_, by rw [hpc i hi]; rfl, fun j hj => ⟨_, hsay i j hi hj⟩⟩, fun j hj => (hsay i j hi hj).num.symm⟩⟩
   rw [hpc i hi, List.length_cons, e2 _ (getD_mem (by omega))]
theorem ok_run {d : List UInt8} (h : OkSide d) : Run d := by
 refine ⟨h.1, h.2.2.1, ?_⟩
 by_cases h1 : d.length = 1
 ·exact .inl h1
 ·cases d with
  | nil => exact absurd rfl h.1
  | cons x r =>
    have h2 : (x :: r).length = 2 := by
     have h3 := h.2.1
     have h4 : 0 < (x :: r).length := by simp
     omega
    exact .inr ⟨x, r, rfl, h.2.2.2 h2 x r rfl⟩
theorem ok_99 {d : List UInt8} (h : OkSide d) : dval d ≤ 99 := by
 obtain ⟨h1, h2, h3, -⟩ := h
 match d, h1, h2, h3 with
 | [x], _, _, h3 => have := h3 x (by simp); unfold IsDig at this; simp [dval]; omega
 | [x, y], _, _, h3 => have hx := h3 x (by simp); have hy := h3 y (by simp); unfold IsDig at hx hy; simp [dval]; omega
theorem map_range_getD {α : Type} (n i : Nat) (f : Nat → α) (d : α) (h : i < n) : ((List.range n).map f).getD i d = f i := by
 simp [List.getD, h]
theorem writes_of_says {s : ByteArray} {r c : Nat} {f : Nat → Nat → Int} (hs : s.size ≤ 4000) (h : RSays s.data.toList r c f) : ∃ zs, r ≤ 99 ∧ c ≤ 99 ∧ Writes s r c zs 4000 := by
 obtain ⟨h0, h1, d0, d1, e1, e2, e3, e4, e5, e6, e7⟩ := h
 have hl : s.data.toList = h0 ++ 58 :: h1 := by rw [← joinL_cut 58 s.data.toList, e1]; rfl
 have hl0 : h0 = d0 ++ 120 :: d1 := by rw [← joinL_cut 120 h0, e2]; rfl
 have hsz : s.data.toList.length ≤ 4000 := by simpa using hs
 rcases e7 with ⟨hz, rfl⟩ | ⟨hr0, hc0, hlen, hrows⟩
 ·refine ⟨[], by rw [← e5]; exact ok_99 e3, by rw [← e6]; exact ok_99 e4, d0, d1, [], ?_, ok_run e3, ok_run e4, e5, e6, ?_, ?_, fun t ht => ?_⟩
  ·rw [hl, hl0]; simp [bodyT]
  ·rcases hz with h | h <;> simp [h]
  ·rcases hz with h | h <;> simp [h]
  ·exfalso; rcases hz with h | h <;> simp [h] at ht
 ·obtain ⟨rows, hrd⟩ : ∃ rows, rows = (List.range r).map fun i => (pieces h1 i).tail := ⟨_, rfl⟩
  have hrl : rows.length = r := by rw [hrd]; simp
  have hrg : ∀ i, i < r → rows.getD i [] = (pieces h1 i).tail := fun i hi => by rw [hrd]; exact map_range_getD r i _ _ hi
  have hpc : ∀ i, i < r → pieces h1 i = [] :: rows.getD i [] := fun i hi => by
   obtain ⟨⟨q1, q2, -⟩, -⟩ := hrows i hi
   rw [hrg i hi]
   cases hp : pieces h1 i with
   | nil => rw [hp] at q1; simp at q1
   | cons a b => rw [hp] at q2; simp [List.getD] at q2; rw [q2]; rfl
  have hrc : ∀ row ∈ rows, row.length = c := fun row hrow => by
   obtain ⟨i, hi, rfl⟩ := List.mem_iff_getElem.1 hrow
   have q1 := (hrows i (by omega)).1.1
   rw [hpc i (by omega)] at q1
   rw [show rows.getD i [] = rows[i] from by simp [List.getD, List.getElem?_eq_getElem hi]] at q1
   simpa using q1
  have hcut : cutL 59 h1 = rows.map rowT := by
   apply List.ext_getElem?
   intro i
   by_cases hi : i < r
   ·have hi2 : i < (cutL 59 h1).length := by omega
    rw [List.getElem?_eq_getElem hi2, List.getElem?_map, List.getElem?_eq_getElem (show i < rows.length from by omega)]
    have q := joinL_cut 32 ((cutL 59 h1).getD i [])
    have q' : cutL 32 ((cutL 59 h1).getD i []) = [] :: rows.getD i [] := hpc i hi
    rw [q', row_join] at q
    rw [show (cutL 59 h1).getD i [] = (cutL 59 h1)[i] from by simp [List.getD, List.getElem?_eq_getElem hi2], show rows.getD i [] = rows[i] from by simp [List.getD, List.getElem?_eq_getElem (show i < rows.length from by omega)]] at q
    simp [q]
   ·rw [List.getElem?_eq_none (by omega), List.getElem?_eq_none (by simp; omega)]
  have hh1 : h1 = bodyT c 0 rows.flatten := by
   have := body_join hc0 rows 0 (fun e => by rw [e] at hrl; simp at hrl; omega) hrc
   rw [Nat.zero_mul] at this
   rw [this, ← hcut, joinL_cut]
   rfl
  have hfl : rows.flatten.length = r * c := by
   have key : ∀ (rs : List (List (List UInt8))), (∀ row ∈ rs, row.length = c) → rs.flatten.length = rs.length * c := by
    intro rs
    induction rs with
    | nil => simp
    | cons a b ih =>
      intro hh
      rw [List.flatten_cons, List.length_append, hh a (by simp), ih (fun x hx => hh x (List.mem_cons_of_mem _ hx)), List.length_cons, Nat.add_mul]
      omega
   rw [key rows hrc, hrl]
  refine ⟨(List.range (r * c)).map (fun t => num (rows.flatten.getD t [])), by rw [← e5]; exact ok_99 e3, by rw [← e6]; exact ok_99 e4, d0, d1, rows.flatten, ?_, ok_run e3, ok_run e4, e5, e6, hfl, by simp, fun t ht => ?_⟩
  ·rw [hl, hl0, ← hh1]; simp
  ·have hm : rows.flatten.getD t [] ∈ rows.flatten := getD_mem (by omega)
   rw [map_range_getD (r * c) t _ 0 ht]
   obtain ⟨i, j, hi, hj, rfl⟩ : ∃ i j, i < r ∧ j < c ∧ t = i * c + j := ⟨t / c, t % c, by rw [Nat.div_lt_iff_lt_mul hc0]; exact ht, Nat.mod_lt _ hc0, by rw [Nat.mul_comm]; exact (Nat.div_add_mod t c).symm⟩
   obtain ⟨z, hz⟩ := (hrows i hi).1.2.2 j hj
   have e : (pieces h1 i).getD (j + 1) [] = rows.flatten.getD (i * c + j) [] := by
    rw [flat_getD [] c rows i j hrc hj (by omega), hpc i hi]
    rfl
   rw [e] at hz
   rw [hz.num]
   refine ⟨says_tok hz, ?_⟩
   have h9 := cut_getD 32 ((cutL 59 h1).getD i []) (j + 1)
   have h10 := cut_getD 59 h1 i
   rw [← e]
   have h11 : h1.length ≤ 4000 := by rw [hl] at hsz; simp at hsz; omega
   exact Nat.le_trans h9 (Nat.le_trans h10 h11)
open Go.RowKit
def BigP (r c : Nat) (f : Nat → Nat → Int) : Prop := 4 < r ∨ 4 < c ∨ ∃ i j, i < r ∧ j < c ∧ 281474976710656 ≤ (f i j).natAbs
def BigOut (r c : Nat) (f : Nat → Nat → Int) (b : Bool) : Prop := b = true ↔ BigP r c f
set_option maxRecDepth 100000 in
set_option maxHeartbeats 4000000 in
theorem big_any (b r c : Nat) (gs : Nat → Nat) (f : Nat → Nat → Int) (B L : Nat) (w : World) (h : IsR B w b r c gs f L) (hL : L ≤ 50000000000) (hr : r ≤ 99) (hc : c ≤ 99) :
 Calls Tryz.prog 150 #[.pointer (some ⟨b, 0, none⟩), .int .i64 4, .int .i64 48] w fun e w' => ∃ x, e = .returned (.bool x) ∧ BigOut r c f x ∧ Below w.heap.size w w' := by
 have H := Hid.mk h
 obtain ⟨hbl, ao, cap, c0, c1, c2, -⟩ := h.open_
 clear h
 by_cases hr4 : r ≤ 4
 ·by_cases hc4 : c ≤ 4
  ·have i1 : decide ((4 : Int) < (r : Int)) = false := decide_eq_false (by omega)
   have i2 : decide ((4 : Int) < (c : Int)) = false := decide_eq_false (by omega)
   go_enter Tryz.func150, Tryz.ntmps150
   go_wp2_with fail
   go_loopw [7] (fun i wr => ∃ k : Nat, k ≤ r ∧ i = .int .i64 k ∧ Below w.heap.size w wr ∧ Hid (∀ a j, a < k → j < c → (f a j).natAbs < 281474976710656)) (fun i _ => r - (intOf i).toNat)
   case atStart => exact ⟨0, Nat.zero_le _, rfl, Below.refl _ _, Hid.mk (fun a j ha => by omega)⟩
   case round =>
    rename World => wr0
    obtain ⟨k, hk, rfl, hbel, HI⟩ := hrel
    clear c0 c1 c2
    obtain ⟨-, ao, cap, c0, c1, c2, -⟩ := (H.out.keep (KR.of_below hbel)).open_
    have HB := Hid.mk hbel
    clear hbel
    by_cases hkr : k < r
    ·go_wp2_with fail
     go_loopw [8] (fun j wr => ∃ q : Nat, q ≤ c ∧ j = .int .i64 q ∧ Below w.heap.size w wr ∧ Hid (∀ j, j < q → (f k j).natAbs < 281474976710656)) (fun j _ => c - (intOf j).toNat)
     case atStart => exact ⟨0, Nat.zero_le _, rfl, HB.out, Hid.mk (fun j hj => by omega)⟩
     case round =>
      obtain ⟨q, hq, rfl, hbel, HJ⟩ := hrel
      clear c0 c1 c2
      obtain ⟨-, ao, cap, c0, c1, c2, c3, c4, c5, c6⟩ := (H.out.keep (KR.of_below hbel)).open_
      have HB2 := Hid.mk hbel
      clear hbel
      by_cases hqc : q < c
      ·obtain ⟨gL, rfl, y1⟩ := c5 k hkr
       obtain ⟨nb, so, n, cp, y2, y3, -, -, hN⟩ := c6 k q hkr hqc
       rw [Nat.mul_comm 2] at y2 y3
       have HN := Hid.mk hN
       clear hN c5 c6
       go_wp2_with fail
       refine (wide_any _ (f k q) L 48 _ HN.out hL (by omega)).mono ?_
       rintro e w2 ⟨rfl, hb2⟩
       have hB2 : Below w.heap.size w w2 := HB2.out.trans (hb2.mono HB2.out.size)
       have HB3 := Hid.mk hB2
       clear hb2 hB2
       by_cases hw : 2 ^ 48 ≤ (f k q).natAbs
       ·have hd : decide (2 ^ 48 ≤ (f k q).natAbs) = true := decide_eq_true hw
        have HW := Hid.mk hw
        rw [hd]
        clear hd hw
        go_wp2_with fail
        go_ret
        exact ⟨_, rfl, ⟨fun _ => .inr (.inr ⟨k, q, hkr, hqc, HW.out⟩), fun _ => rfl⟩, HB3.out⟩
       ·have hd : decide (2 ^ 48 ≤ (f k q).natAbs) = false := decide_eq_false hw
        have HW := Hid.mk hw
        rw [hd]
        clear hd hw
        go_wp2_with fail
        go_roundw
        case measure => simp [intOf]; omega
        case rel =>
         refine ⟨q + 1, by omega, by go_num, HB3.out, Hid.mk (fun j hj => ?_)⟩
         by_cases hjq : j = q
         ·rw [hjq]; have := HW.out; omega
         ·exact HJ.out j (by omega)
      ·have hqe : q = c := by omega
       have HQ := Hid.mk hqe
       clear hqe c5 c6
       go_wp2_with fail
       go_roundw
       case measure => simp [intOf]; omega
       case rel =>
        refine ⟨k + 1, by omega, by go_num, HB2.out, Hid.mk (fun a j ha hj => ?_)⟩
        by_cases hak : a = k
        ·rw [hak]; exact HJ.out j (by have := HQ.out; omega)
        ·exact HI.out a j (by omega) hj
    ·have hke : k = r := by omega
     have HK := Hid.mk hke
     clear hke
     go_wp2_with fail
     go_ret
     refine ⟨_, rfl, ⟨(fun h => by cases h), fun h => ?_⟩, HB.out⟩
     exfalso
     rcases h with h | h | ⟨i, j, hi, hj, h⟩
     ·omega
     ·omega
     ·have := HI.out i j (by have := HK.out; omega) hj
      omega
  ·have hci : (4 : Int) < (c : Int) := by omega
   have i1 : decide ((4 : Int) < (r : Int)) = false := decide_eq_false (by omega)
   have HC := Hid.mk hc4
   clear hc4
   go_enter Tryz.func150, Tryz.ntmps150
   go_wp2_with fail
   go_ret
   exact ⟨_, rfl, ⟨fun _ => .inr (.inl (by have := HC.out; omega)), fun _ => rfl⟩, Below.refl _ _⟩
 ·have hri : (4 : Int) < (r : Int) := by omega
  have HR := Hid.mk hr4
  clear hr4
  go_enter Tryz.func150, Tryz.ntmps150
  go_wp2_with fail
  go_ret
  exact ⟨_, rfl, ⟨fun _ => .inl (by have := HR.out; omega), fun _ => rfl⟩, Below.refl _ _⟩
open Go.RowKit
set_option maxRecDepth 100000 in
set_option maxHeartbeats 4000000 in
theorem same_yes (b r c : Nat) (gs : Nat → Nat) (f : Nat → Nat → Int) (B b' : Nat) (gs' : Nat → Nat) (f' : Nat → Nat → Int) (B' L : Nat) (w : World) (h : IsR B w b r c gs f L) (h' : IsR B' w b' r c gs' f' L) (he : ∀ i j, i < r → j < c → f i j = f' i j) (hL : L ≤ 50000000000) (hr : r ≤ 99) (hc : c ≤ 99) :
 Calls Tryz.prog 153 #[.pointer (some ⟨b, 0, none⟩), .pointer (some ⟨b', 0, none⟩)] w fun e w' => e = .returned (.bool true) ∧ Below w.heap.size w w' := by
 have H := Hid.mk (And.intro h (And.intro h' he))
 obtain ⟨hbl, ao, cap, c0, c1, c2, -⟩ := h.open_
 obtain ⟨hbl', ao', cap', d0, d1, d2, -⟩ := h'.open_
 clear h h' he
 have ir : ((r : Int) == (r : Int)) = true := by simp
 have ic : ((c : Int) == (c : Int)) = true := by simp
 go_enter Tryz.func153, Tryz.ntmps153
 go_wp2_with fail
 go_quiet (fail)
 go_wp2_with fail
 go_loopw [5] (fun i wr => ∃ k : Nat, k ≤ r ∧ i = .int .i64 k ∧ Below w.heap.size w wr) (fun i _ => r - (intOf i).toNat)
 case atStart => exact ⟨0, Nat.zero_le _, rfl, below_drewN (Below.refl _ _) _⟩
 case round =>
  rename World => wr0
  obtain ⟨k, hk, rfl, hbel⟩ := hrel
  clear c0 c1 c2 d0 d1 d2
  obtain ⟨-, ao, cap, c0, c1, c2, -⟩ := (H.out.1.keep (KR.of_below hbel)).open_
  have HB := Hid.mk hbel
  clear hbel
  by_cases hkr : k < r
  ·go_wp2_with fail
   go_loopw [6] (fun j wr => ∃ q : Nat, q ≤ c ∧ j = .int .i64 q ∧ Below w.heap.size w wr) (fun j _ => c - (intOf j).toNat)
   case atStart => exact ⟨0, Nat.zero_le _, rfl, HB.out⟩
   case round =>
    obtain ⟨q, hq, rfl, hbel⟩ := hrel
    clear c0 c1 c2
    obtain ⟨-, ao, cap, c0, c1, c2, c3, c4, c5, c6⟩ := (H.out.1.keep (KR.of_below hbel)).open_
    obtain ⟨-, ao', cap', d0, d1, d2, d3, d4, d5, d6⟩ := (H.out.2.1.keep (KR.of_below hbel)).open_
    have HB2 := Hid.mk hbel
    clear hbel
    by_cases hqc : q < c
    ·obtain ⟨gL, rfl, y1⟩ := c5 k hkr
     obtain ⟨nb, so, n, cp, y2, y3, -, -, hN⟩ := c6 k q hkr hqc
     obtain ⟨gL', rfl, z1⟩ := d5 k hkr
     obtain ⟨nb', so', n', cp', z2, z3, -, -, hN'⟩ := d6 k q hkr hqc
     rw [Nat.mul_comm 2] at y2 y3 z2 z3
     have HN := Hid.mk (And.intro hN hN')
     have hki : (k : Int) < (r : Int) := by omega
     have hqi : (q : Int) < (c : Int) := by omega
     have HC := Hid.mk (show ∀ w', Below wr.heap.size wr w' → w'.cell? ⟨b, 2, none⟩ = some (.slice (some ⟨gL, 0, none⟩) r cap) ∧ w'.cell? ⟨gL, k, none⟩ = some (.slice (some ⟨gs k, 0, none⟩) c c) ∧ w'.cell? ⟨gs k, q * 2, none⟩ = some (.bool nb) ∧ w'.cell? ⟨gs k, q * 2 + 1, none⟩ = some (.slice so n cp) ∧ w'.cell? ⟨b', 2, none⟩ = some (.slice (some ⟨gL', 0, none⟩) r cap') ∧ w'.cell? ⟨gL', k, none⟩ = some (.slice (some ⟨gs' k, 0, none⟩) c c) ∧ w'.cell? ⟨gs' k, q * 2, none⟩ = some (.bool nb') ∧ w'.cell? ⟨gs' k, q * 2 + 1, none⟩ = some (.slice so' n' cp') from
      fun w' hb => ⟨cell_later hb c2, cell_later hb y1, cell_later hb y2, cell_later hb y3, cell_later hb d2, cell_later hb z1, cell_later hb z2, cell_later hb z3⟩)
     clear hN hN' c5 c6 d5 d6
     go_upto_region 9 with fail
     go_cut [7] from 44 to 64 (fun o wx => o = .int .i64 0 ∧ Below w.heap.size w wx)
     case first =>
      go_region_held3 (fun w' => w'.cell? ⟨b, 2, none⟩ = some (.slice (some ⟨gL, 0, none⟩) r cap) ∧ w'.cell? ⟨gL, k, none⟩ = some (.slice (some ⟨gs k, 0, none⟩) c c) ∧ w'.cell? ⟨gs k, q * 2, none⟩ = some (.bool nb) ∧ w'.cell? ⟨gs k, q * 2 + 1, none⟩ = some (.slice so n cp) ∧ w'.cell? ⟨b', 2, none⟩ = some (.slice (some ⟨gL', 0, none⟩) r cap') ∧ w'.cell? ⟨gL', k, none⟩ = some (.slice (some ⟨gs' k, 0, none⟩) c c) ∧ w'.cell? ⟨gs' k, q * 2, none⟩ = some (.bool nb') ∧ w'.cell? ⟨gs' k, q * 2 + 1, none⟩ = some (.slice so' n' cp'))
       (exact HC.out _ (by first | exact hb9 | exact (Below.refl _ _).drew))
       (first | (go_at_call 200; refine (order_any _ _ (f k q) (f' k q) L L _ (HN.out.1.below ((Below.refl _ _).drew)) (HN.out.2.below ((Below.refl _ _).drew)) hL hL).mono ?_; rintro e w2 ⟨rfl, hb2⟩; have hb9 : Below wr.heap.size wr w2 := (Below.refl _ _).drew.trans hb2; clear hb2))
      all_goals
       go_wp2_with fail
       go_meet
       case rel =>
        refine ⟨?_, HB2.out.trans (hb9.mono HB2.out.size)⟩
        rw [H.out.2.2 k q hkr hqc, Int.sub_self]
        rfl
     case rest =>
      obtain ⟨rfl, hbc⟩ := hcut
      have HB3 := Hid.mk hbc
      clear hbc c0 c1 c2 d0 d1 d2 y1 y2 y3 z1 z2 z3
      go_wp2_with fail
      go_roundw
      case measure => simp [intOf]; omega
      case rel => exact ⟨q + 1, by omega, by go_num, HB3.out⟩
    ·clear c5 c6 d5 d6
     go_wp2_with fail
     go_roundw
     case measure => simp [intOf]; omega
     case rel => exact ⟨k + 1, by omega, by go_num, HB2.out⟩
  ·go_wp2_with fail
   go_ret
   exact ⟨rfl, HB.out⟩
end Go.Proofs.YtfjbijpagaipnabGreatDoor.R
namespace Go.Proofs.YtfjbijpagaipnabGreatDoor
open Go.RowKit R
def UpN (N : Nat) (w w' : World) : Prop := ∀ k, N ≤ k → k < w.heap.size → w'.heap[k]? = w.heap[k]?
theorem isN_up {N : Nat} {w w' : World} {v : Value} {z : Int} {L : Nat} (h : IsN w v z L) (hat : AtB N v) (hu : UpN N w w') : IsN w' v z L := by
 obtain ⟨neg, sl, xs, rfl, h2, h3⟩ := h
 refine ⟨neg, sl, xs, rfl, ⟨h2.1, ?_⟩, h3⟩
 rcases h2.2 with h4 | ⟨g, cap, cur, rfl, hg, hh, r⟩
 ·exact .inl h4
 ·exact .inr ⟨g, cap, cur, rfl, hg, by rw [hu g (hat _ _ _ _ _ _ rfl) (Array.getElem?_eq_some_iff.1 hh).1]; exact hh, r⟩
theorem isR_up {N : Nat} {w w' : World} {b r c : Nat} {gs : Nat → Nat} {f : Nat → Nat → Int} {L : Nat} (h : IsR N w b r c gs f L) (hu : UpN N w w') : IsR N w' b r c gs f L := by
 obtain ⟨h0, v, h1, h2, h3, h4⟩ := h
 refine ⟨h0, v, by rw [hu b h0 (Array.getElem?_eq_some_iff.1 h1).1]; exact h1, ⟨h2.1, ?_⟩, fun i hi => ⟨(h3 i hi).1, ?_⟩, h4⟩
 ·rcases h2.2 with h5 | ⟨g, cap, cur, hv, hg, hh, r⟩
  ·exact .inl h5
  ·exact .inr ⟨g, cap, cur, hv, hg, by rw [hu g hg (Array.getElem?_eq_some_iff.1 hh).1]; exact hh, r⟩
 ·obtain ⟨cs, q1, q2, q3⟩ := (h3 i hi).2
  refine ⟨cs, by rw [hu _ (h3 i hi).1 (Array.getElem?_eq_some_iff.1 q1).1]; exact q1, q2, fun j hj => ?_⟩
  obtain ⟨a, b', e1, e2, e3, e4⟩ := q3 j hj
  exact ⟨a, b', e1, e2, isN_up e3 e4 hu, e4⟩
theorem itoa_small {z : Int} (h : z.natAbs < 281474976710656) : (Lib.itoa z).length ≤ 21 := Lib.itoa_length_le z (by omega) (by omega)
theorem writes_matT {r c : Nat} {zs : List Int} (h : FitsP r c zs) (hl : zs.length = r * c) : Writes ⟨(matT r c zs).toArray⟩ r c zs 4000 ∧ (matT r c zs).length ≤ 4000 := by
 have hget : ∀ t, t < r * c → (zs.map Lib.itoa).getD t [] = Lib.itoa (zs.getD t 0) := fun t ht => by
  simp [List.getD, List.getElem?_map, List.getElem?_eq_getElem (show t < zs.length from by omega)]
 refine ⟨⟨Lib.decDigits r, Lib.decDigits c, zs.map Lib.itoa, rfl, decDigits_run r, decDigits_run c, (decDigits_facts r).2.2.1, (decDigits_facts c).2.2.1, by simp [hl], hl, fun t ht => ?_⟩, ?_⟩
 ·rw [hget t ht]
  exact ⟨tok_itoa _, Nat.le_trans (itoa_small (h.2.2 t ht)) (by decide)⟩
 ·have hrc : r * c ≤ 16 := Nat.mul_le_mul h.1 h.2.1
  have hb : ∀ (l : List (List UInt8)) (t : Nat), (∀ x ∈ l, x.length ≤ 21) → (bodyT c t l).length ≤ l.length * 23 := by
   intro l
   induction l with
   | nil => intro t _; simp [bodyT]
   | cons a b ih =>
     intro t hx
     have h1 := hx a (by simp)
     have h2 := ih (t + 1) (fun x hx' => hx x (List.mem_cons_of_mem _ hx'))
     rw [bodyT]
     simp only [List.length_append, List.length_cons]
     split <;> simp <;> omega
  have h1 := hb (zs.map Lib.itoa) 0 (fun x hx => by
   obtain ⟨z, hz, rfl⟩ := List.mem_map.1 hx
   obtain ⟨i, hi, rfl⟩ := List.mem_iff_getElem.1 hz
   have := h.2.2 i (by omega)
   rw [show zs.getD i 0 = zs[i] from by simp [List.getD, List.getElem?_eq_getElem hi]] at this
   exact itoa_small this)
  rw [List.length_map, hl] at h1
  have h2 := dec_le2 r (by have := h.1; omega)
  have h3 := dec_le2 c (by have := h.2.1; omega)
  unfold matT
  simp only [List.length_append, List.length_cons]
  have : r * c * 23 ≤ 16 * 23 := Nat.mul_le_mul_right _ hrc
  omega
theorem rsays_uniq {l : List UInt8} {r c r' c' : Nat} {f f' : Nat → Nat → Int} (h : RSays l r c f) (h' : RSays l r' c' f') : r = r' ∧ c = c' ∧ ∀ i j, i < r → j < c → f i j = f' i j := by
 obtain ⟨h0, h1, d0, d1, e1, e2, -, -, e5, e6, e7⟩ := h
 obtain ⟨k0, k1, t0, t1, g1, g2, -, -, g5, g6, g7⟩ := h'
 rw [e1] at g1
 injection g1 with g1 g1'
 injection g1' with g1' _
 subst g1; subst g1'
 rw [e2] at g2
 injection g2 with g2 g2'
 injection g2' with g2' _
 subst g2; subst g2'
 have hr : r = r' := by rw [← e5, g5]
 have hc : c = c' := by rw [← e6, g6]
 subst hr; subst hc
 refine ⟨rfl, rfl, fun i j hi hj => ?_⟩
 rcases e7 with ⟨hz, -⟩ | ⟨-, -, -, q⟩
 ·omega
 ·rcases g7 with ⟨hz, -⟩ | ⟨-, -, -, q'⟩
  ·omega
  ·rw [(q i hi).2 j hj, (q' i hi).2 j hj]
theorem read_yes (s : ByteArray) (r c : Nat) (zs : List Int) (L : Nat) (w : World) (hs : s.size ≤ 40000000000) (hr : r ≤ 99) (hc : c ≤ 99) (hw : Writes s r c zs L) :
 Calls Tryz.prog 149 #[.string s] w fun e w' => ∃ b gs, e = .returned (.pointer (some ⟨b, 0, none⟩)) ∧ IsR w.heap.size w' b r c gs (fun i j => zs.getD (i * c + j) 0) 40000000001 ∧ Below w.heap.size w w' := by
 refine (read_ref s w hs).mono ?_
 rintro e w' ⟨v, rfl, hv, hb⟩
 have hsay := says_of_writes hr hc hw
 rcases hv with ⟨-, hn⟩ | ⟨b, r', c', gs, f, rfl, hsay', hI⟩
 ·exact absurd ⟨r, c, _, hsay⟩ hn
 ·obtain ⟨rfl, rfl, he⟩ := rsays_uniq hsay' hsay
  exact ⟨b, gs, rfl, hI.congr he, hb⟩
theorem read_none (s : ByteArray) (w : World) (hs : s.size ≤ 4000) (hw : ¬ Wr s) :
 Calls Tryz.prog 149 #[.string s] w fun e w' => e = .returned (.pointer none) ∧ Below w.heap.size w w' := by
 refine (read_ref s w (by omega)).mono ?_
 rintro e w' ⟨v, rfl, hv, hb⟩
 rcases hv with ⟨rfl, -⟩ | ⟨b, r', c', gs, f, rfl, hsay', hI⟩
 ·exact ⟨rfl, hb⟩
 ·obtain ⟨zs, h1, h2, h3⟩ := writes_of_says hs hsay'
  exact absurd ⟨r', c', zs, h1, h2, h3⟩ hw
theorem big_fits {r c : Nat} {zs : List Int} : BigP r c (fun i j => zs.getD (i * c + j) 0) ↔ ¬ FitsP r c zs := by
 constructor
 ·rintro h ⟨h1, h2, h3⟩
  rcases h with h | h | ⟨i, j, hi, hj, h⟩
  ·omega
  ·omega
  ·have h4 := h3 (i * c + j) (idx_lt hi hj)
   have h5 : 281474976710656 ≤ (zs.getD (i * c + j) 0).natAbs := h
   omega
 ·intro h
  by_cases h1 : 4 < r
  ·exact .inl h1
  ·by_cases h2 : 4 < c
   ·exact .inr (.inl h2)
   ·refine .inr (.inr (Classical.byContradiction fun hn => h ⟨by omega, by omega, fun t ht => ?_⟩))
    have hc0 : 0 < c := by
     rcases Nat.eq_zero_or_pos c with h0 | h0
     ·subst h0; simp at ht
     ·exact h0
    have hlt : t / c < r := by rw [Nat.div_lt_iff_lt_mul hc0]; exact ht
    have hmod := Nat.mod_lt t hc0
    have he : t / c * c + t % c = t := by rw [Nat.mul_comm]; exact Nat.div_add_mod t c
    rcases Nat.lt_or_ge (zs.getD t 0).natAbs 281474976710656 with h5 | h5
    ·exact h5
    ·exact absurd ⟨t / c, t % c, hlt, hmod, by show 281474976710656 ≤ (zs.getD (t / c * c + t % c) 0).natAbs; rw [he]; exact h5⟩ hn
end Go.Proofs.YtfjbijpagaipnabGreatDoor
