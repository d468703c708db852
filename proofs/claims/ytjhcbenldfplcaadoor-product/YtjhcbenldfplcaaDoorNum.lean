/- Whole numbers as limbs in base 2^32: plain arithmetic, nothing of the program. -/
namespace Go.Proofs.YtjhcbenldfplcaaDoor
def val : List Nat → Nat
  | [] => 0
  | x :: r => x + 4294967296 * val r
def Lo (xs : List Nat) : Prop := ∀ x ∈ xs, x < 4294967296
def Lim (xs : List Nat) : Prop := Lo xs ∧ (xs = [] ∨ 0 < xs.getD (xs.length - 1) 0)

theorem val_nil : val [] = 0 := rfl
theorem val_cons (x : Nat) (r : List Nat) : val (x :: r) = x + 4294967296 * val r := rfl
theorem val_append (xs ys : List Nat) : val (xs ++ ys) = val xs + 4294967296 ^ xs.length * val ys := by
  induction xs with
  | nil => simp [val]
  | cons x r ih =>
    simp only [List.cons_append, val_cons, ih, List.length_cons, Nat.pow_succ, Nat.mul_add]
    rw [Nat.mul_comm (4294967296 ^ r.length) 4294967296, Nat.mul_assoc]
    omega
theorem Lo_nil : Lo [] := by intro x hx; cases hx
theorem Lo_cons {x : Nat} {r : List Nat} (h : x < 4294967296) (hr : Lo r) : Lo (x :: r) := by
  intro y hy
  rcases List.mem_cons.1 hy with rfl | hy
  · exact h
  · exact hr y hy
theorem Lo_append {a b : List Nat} (ha : Lo a) (hb : Lo b) : Lo (a ++ b) := by
  intro y hy
  rcases List.mem_append.1 hy with hy | hy
  · exact ha y hy
  · exact hb y hy
theorem Lo_take {xs : List Nat} (h : Lo xs) (k : Nat) : Lo (xs.take k) := fun x hx => h x (List.mem_of_mem_take hx)
theorem Lo_drop {xs : List Nat} (h : Lo xs) (k : Nat) : Lo (xs.drop k) := fun x hx => h x (List.mem_of_mem_drop hx)
theorem Lo_get {xs : List Nat} (h : Lo xs) (k : Nat) : xs.getD k 0 < 4294967296 := by
  by_cases hk : k < xs.length
  · simp only [List.getD, List.getElem?_eq_getElem hk, Option.getD_some]; exact h _ (List.getElem_mem hk)
  · simp [List.getD, List.getElem?_eq_none (by omega : xs.length ≤ k)]
theorem val_lt {xs : List Nat} (h : Lo xs) : val xs < 4294967296 ^ xs.length := by
  induction xs with
  | nil => simp [val]
  | cons x r ih =>
    have h1 : x < 4294967296 := h x (by simp)
    have h2 := ih (fun y hy => h y (by simp [hy]))
    simp only [val_cons, List.length_cons, Nat.pow_succ]
    omega
theorem val_zeros {xs : List Nat} (h : ∀ x ∈ xs, x = 0) : val xs = 0 := by
  induction xs with
  | nil => rfl
  | cons x r ih =>
    have h1 := h x (by simp)
    have h2 := ih (fun y hy => h y (by simp [hy]))
    simp [val_cons, h1, h2]
theorem val_take_drop (xs : List Nat) (k : Nat) (hk : k ≤ xs.length) : val xs = val (xs.take k) + 4294967296 ^ k * val (xs.drop k) := by
  have := val_append (xs.take k) (xs.drop k)
  rw [List.take_append_drop, List.length_take, Nat.min_eq_left hk] at this
  exact this
theorem take_succ_getD (xs : List Nat) (k : Nat) (hk : k < xs.length) : xs.take (k + 1) = xs.take k ++ [xs.getD k 0] := by
  rw [List.take_succ_eq_append_getElem hk]; simp [List.getD, List.getElem?_eq_getElem hk]
theorem val_take_succ (xs : List Nat) (k : Nat) (hk : k < xs.length) : val (xs.take (k + 1)) = val (xs.take k) + 4294967296 ^ k * xs.getD k 0 := by
  rw [take_succ_getD xs k hk, val_append, List.length_take, Nat.min_eq_left (by omega)]; simp [val]
theorem drop_getD (xs : List Nat) (k : Nat) (hk : k < xs.length) : xs.drop k = xs.getD k 0 :: xs.drop (k + 1) := by
  rw [List.drop_eq_getElem_cons hk]; simp [List.getD, List.getElem?_eq_getElem hk]
/-- What is cut off when a list of limbs is trimmed. -/
theorem trim_spec {xs : List Nat} (lo : Lo xs) (k : Nat) (hk : k ≤ xs.length) (hz : ∀ x ∈ xs.drop k, x = 0) (hn : k = 0 ∨ 0 < xs.getD (k - 1) 0) :
    Lim (xs.take k) ∧ val (xs.take k) = val xs ∧ (xs.take k).length = k := by
  have hl : (xs.take k).length = k := by rw [List.length_take, Nat.min_eq_left hk]
  refine ⟨⟨Lo_take lo k, ?_⟩, ?_, hl⟩
  · rcases hn with rfl | hn
    · exact .inl (by simp)
    · by_cases h0 : k = 0
      · subst h0; exact .inl (by simp)
      · refine .inr ?_
        rw [hl]
        simpa [List.getD, List.getElem?_take, show k - 1 < k from by omega] using hn
  · rw [val_take_drop xs k hk, val_zeros hz]; simp
theorem Lim_zero {xs : List Nat} (h : Lim xs) : val xs = 0 ↔ xs = [] := by
  constructor
  · intro hv
    rcases h.2 with h | h
    · exact h
    · exfalso
      have hl : 0 < xs.length := by
        cases xs with
        | nil => simp at h
        | cons x r => simp
      have := val_take_drop xs (xs.length - 1) (by omega)
      rw [drop_getD xs (xs.length - 1) (by omega), val_cons] at this
      have hp : 0 < 4294967296 ^ (xs.length - 1) := Nat.pow_pos (by decide)
      have : 4294967296 ^ (xs.length - 1) * (xs.getD (xs.length - 1) 0 + 4294967296 * val (xs.drop (xs.length - 1 + 1))) = 0 := by omega
      rcases Nat.mul_eq_zero.1 this with h1 | h1 <;> omega
  · rintro rfl; rfl
theorem Lim_ge {xs : List Nat} (h : Lim xs) (hne : xs ≠ []) : 4294967296 ^ (xs.length - 1) ≤ val xs := by
  have h1 : 0 < xs.getD (xs.length - 1) 0 := h.2.resolve_left hne
  have hl : 0 < xs.length := List.length_pos_iff.2 hne
  have := val_take_drop xs (xs.length - 1) (by omega)
  rw [drop_getD xs (xs.length - 1) (by omega), val_cons] at this
  rw [this]
  have : 4294967296 ^ (xs.length - 1) * 1 ≤ 4294967296 ^ (xs.length - 1) * (xs.getD (xs.length - 1) 0 + 4294967296 * val (xs.drop (xs.length - 1 + 1))) := Nat.mul_le_mul_left _ (by omega)
  omega
/-- More limbs: the greater number. -/
theorem val_lt_of_length {a b : List Nat} (la : Lo a) (lb : Lim b) (h : a.length < b.length) : val a < val b := by
  have h1 := val_lt la
  have h2 := Lim_ge lb (by rintro rfl; simp at h)
  have h3 : 4294967296 ^ a.length ≤ 4294967296 ^ (b.length - 1) := Nat.pow_le_pow_right (by decide) (by omega)
  omega
/-- The first limb from the top that parts decides. -/
theorem val_cmp {a b : List Nat} (la : Lo a) (hl : a.length = b.length) (k : Nat) (hk : k < a.length) (he : a.drop (k + 1) = b.drop (k + 1)) (h : a.getD k 0 < b.getD k 0) : val a < val b := by
  have ha := val_take_drop a k (by omega)
  have hb := val_take_drop b k (by omega)
  rw [drop_getD a k hk, val_cons] at ha
  rw [drop_getD b k (by omega), val_cons] at hb
  have h1 := val_lt (Lo_take la k)
  rw [List.length_take, Nat.min_eq_left (by omega)] at h1
  rw [he] at ha
  generalize val (b.drop (k + 1)) = R at *
  have h2 : 4294967296 ^ k * (a.getD k 0 + 1 + 4294967296 * R) ≤ 4294967296 ^ k * (b.getD k 0 + 4294967296 * R) := Nat.mul_le_mul_left _ (by omega)
  have h3 : 4294967296 ^ k * (a.getD k 0 + 1 + 4294967296 * R) = 4294967296 ^ k * (a.getD k 0 + 4294967296 * R) + 4294967296 ^ k := by
    rw [show a.getD k 0 + 1 + 4294967296 * R = (a.getD k 0 + 4294967296 * R) + 1 from by omega, Nat.mul_add, Nat.mul_one]
  omega
theorem getD_past (xs : List Nat) (k : Nat) (h : xs.length ≤ k) : xs.getD k 0 = 0 := by simp [List.getD, List.getElem?_eq_none h]
theorem val_take_next (xs : List Nat) (k : Nat) : val (xs.take (k + 1)) = val (xs.take k) + 4294967296 ^ k * xs.getD k 0 := by
  by_cases hk : k < xs.length
  · exact val_take_succ xs k hk
  · rw [getD_past xs k (by omega), List.take_of_length_le (by omega), List.take_of_length_le (by omega)]; simp
theorem val_take_set (zs : List Nat) (k c : Nat) (hk : k < zs.length) : val ((zs.set k c).take (k + 1)) = val (zs.take k) + 4294967296 ^ k * c := by
  rw [val_take_next, List.take_set_of_le (Nat.le_refl k)]
  simp [List.getD, hk]
theorem Lo_set {zs : List Nat} (h : Lo zs) (k c : Nat) (hc : c < 4294967296) : Lo (zs.set k c) := by
  intro x hx
  rcases List.mem_or_eq_of_mem_set hx with h1 | h1
  · exact h x h1
  · omega
theorem Lo_zeros (n : Nat) : Lo (List.replicate n 0) := by
  intro x hx
  rw [List.eq_of_mem_replicate hx]; decide
/-- One round of an addition. -/
theorem add_round {P Z X Y c x y : Nat} (h : Z + P * c = X + Y) : Z + P * ((c + (x + y)) % 4294967296) + P * 4294967296 * ((c + (x + y)) / 4294967296) = X + P * x + (Y + P * y) := by
  have h1 : P * ((c + (x + y)) % 4294967296) + P * 4294967296 * ((c + (x + y)) / 4294967296) = P * (c + (x + y)) := by
    rw [Nat.mul_assoc, ← Nat.mul_add, Nat.mod_add_div]
  rw [Nat.mul_add, Nat.mul_add] at h1
  omega
/-- An addition's end: nothing is carried out of the top. -/
theorem add_end {xs ys zs : List Nat} {c n : Nat} (lx : Lo xs) (ly : Lo ys) (hx : xs.length < n) (hy : ys.length < n) (h : val zs + 4294967296 ^ n * c = val xs + val ys) : val zs = val xs + val ys := by
  have h1 := val_lt lx
  have h2 := val_lt ly
  have h3 : 4294967296 ^ xs.length ≤ 4294967296 ^ (n - 1) := Nat.pow_le_pow_right (by decide) (by omega)
  have h4 : 4294967296 ^ ys.length ≤ 4294967296 ^ (n - 1) := Nat.pow_le_pow_right (by decide) (by omega)
  have h5 : 4294967296 ^ n = 4294967296 ^ (n - 1) * 4294967296 := by rw [← Nat.pow_succ]; congr 1; omega
  rcases Nat.eq_zero_or_pos c with rfl | hc
  · omega
  · have : 4294967296 ^ n * 1 ≤ 4294967296 ^ n * c := Nat.mul_le_mul_left _ hc
    omega
/-- One round of a subtraction (b is taken from a): the borrow. -/
theorem sub_round {P Z X Y b x y : Nat} (h : Z + Y = X + P * b) (hx : x < 4294967296) (hy : y < 4294967296) (hb : b ≤ 1) :
    Z + P * (if x < y + b then x + 4294967296 - (y + b) else x - (y + b)) + (Y + P * y) = X + P * x + P * 4294967296 * (if x < y + b then 1 else 0) := by
  split
  · have : P * (x + 4294967296 - (y + b)) + P * y + P * b = P * x + P * 4294967296 := by
      rw [← Nat.mul_add, ← Nat.mul_add, ← Nat.mul_add]; congr 1; omega
    omega
  · have : P * (x - (y + b)) + P * y + P * b = P * x := by
      rw [← Nat.mul_add, ← Nat.mul_add]; congr 1; omega
    omega
theorem sub_end {xs ys zs : List Nat} {b n : Nat} (lz : Lo zs) (hz : zs.length = n) (hle : val ys ≤ val xs) (h : val zs + val ys = val xs + 4294967296 ^ n * b) : val zs = val xs - val ys := by
  have h1 := val_lt lz
  rw [hz] at h1
  rcases Nat.eq_zero_or_pos b with rfl | hb
  · omega
  · have : 4294967296 ^ n * 1 ≤ 4294967296 ^ n * b := Nat.mul_le_mul_left _ hb
    omega
/-- One limb is written. -/
theorem val_set (zs : List Nat) (k c : Nat) (hk : k < zs.length) : val (zs.set k c) + 4294967296 ^ k * zs.getD k 0 = val zs + 4294967296 ^ k * c := by
  have h1 := val_take_drop zs k (by omega)
  have h2 := val_take_drop (zs.set k c) k (by simp; omega)
  rw [drop_getD zs k hk, val_cons] at h1
  rw [drop_getD (zs.set k c) k (by simpa using hk), val_cons, List.take_set_of_le (Nat.le_refl k), List.drop_set_of_lt (by omega)] at h2
  rw [show (zs.set k c).getD k 0 = c from by simp [List.getD, hk]] at h2
  rw [h1, h2, Nat.mul_add, Nat.mul_add]
  omega
theorem getD_set_ne (zs : List Nat) (k c j : Nat) (h : k ≠ j) : (zs.set k c).getD j 0 = zs.getD j 0 := by simp [List.getD, List.getElem?_set_ne h]
/-- One step of a product's row: val + carry. T: what stands in the place, c: what is carried. -/
theorem mul_step {zs : List Nat} {i j c x y V Y : Nat} (hk : i + j < zs.length) (h : val zs + 4294967296 ^ (i + j) * c = V + 4294967296 ^ i * (x * Y)) :
    val (zs.set (i + j) ((c + (x * y + zs.getD (i + j) 0)) % 4294967296)) + 4294967296 ^ (i + (j + 1)) * ((c + (x * y + zs.getD (i + j) 0)) / 4294967296) = V + 4294967296 ^ i * (x * (Y + 4294967296 ^ j * y)) := by
  have h1 := val_set zs (i + j) ((c + (x * y + zs.getD (i + j) 0)) % 4294967296) hk
  generalize zs.getD (i + j) 0 = z at *
  have h2 : 4294967296 ^ (i + j) * ((c + (x * y + z)) % 4294967296) + 4294967296 ^ (i + (j + 1)) * ((c + (x * y + z)) / 4294967296) = 4294967296 ^ (i + j) * (c + (x * y + z)) := by
    rw [show i + (j + 1) = (i + j) + 1 from rfl, Nat.pow_succ, Nat.mul_assoc, ← Nat.mul_add, Nat.mod_add_div]
  have h3 : 4294967296 ^ i * (x * (Y + 4294967296 ^ j * y)) = 4294967296 ^ i * (x * Y) + 4294967296 ^ (i + j) * (x * y) := by
    rw [Nat.mul_add, Nat.mul_add, Nat.pow_add]
    congr 1
    rw [Nat.mul_left_comm x, Nat.mul_assoc]
  rw [Nat.mul_add, Nat.mul_add] at h2
  omega
/-- A product's row is done: the carry goes into a place that held 0. -/
theorem mul_done {zs xs ys : List Nat} {i c : Nat} (hk : i + ys.length < zs.length) (h0 : zs.getD (i + ys.length) 0 = 0)
    (h : val zs + 4294967296 ^ (i + ys.length) * c = val (xs.take i) * val ys + 4294967296 ^ i * (xs.getD i 0 * val ys)) :
    val (zs.set (i + ys.length) c) = val (xs.take (i + 1)) * val ys := by
  have h1 := val_set zs (i + ys.length) c hk
  rw [h0] at h1
  rw [val_take_next, Nat.add_mul, Nat.mul_assoc]
  omega
end Go.Proofs.YtjhcbenldfplcaaDoor
