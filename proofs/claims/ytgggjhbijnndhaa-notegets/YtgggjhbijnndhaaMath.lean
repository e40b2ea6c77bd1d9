/- Numbers as bytes, and the numbers that bytes are. -/
import Derived.WalkKit
namespace Go.Proofs.Ytgggjhbijnndhaa.M

theorem pow_pos (k : Nat) : (0 : Int) < 2 ^ k := by have := Int.pow_pos (n := (2 : Int)) (m := k) (by omega); exact this
theorem pow_add' (a b : Nat) : (2 : Int) ^ (a + b) = 2 ^ a * 2 ^ b := Int.pow_add ..
theorem pow7 (k : Nat) : (2 : Int) ^ (7 * (k + 1)) = 2 ^ (7 * k) * 128 := by rw [Nat.mul_succ, pow_add']; rfl
theorem pow8 (k : Nat) : (2 : Int) ^ (8 * (k + 1)) = 2 ^ (8 * k) * 256 := by rw [Nat.mul_succ, pow_add']; rfl
theorem pow_le {a b : Nat} (h : a ≤ b) : (2 : Int) ^ a ≤ 2 ^ b := by
  obtain ⟨c, rfl⟩ := Nat.exists_eq_add_of_le h
  rw [pow_add']
  have h1 := pow_pos a
  have h2 := pow_pos c
  have := Int.mul_le_mul_of_nonneg_left (show (1 : Int) ≤ 2 ^ c by omega) (show (0 : Int) ≤ 2 ^ a by omega)
  omega
def Bytes (l : List Int) : Prop := ∀ x ∈ l, 0 ≤ x ∧ x < 256
theorem Bytes.at_ {l : List Int} (h : Bytes l) (k : Nat) (hk : k < l.length) : 0 ≤ l[k] ∧ l[k] < 256 := h _ (List.getElem_mem hk)
theorem Bytes.app {l m : List Int} (h : Bytes l) (h2 : Bytes m) : Bytes (l ++ m) := fun x hx => (List.mem_append.1 hx).elim (h x) (h2 x)
theorem Bytes.take {l : List Int} (h : Bytes l) (k : Nat) : Bytes (l.take k) := fun x hx => h x (List.mem_of_mem_take hx)
theorem Bytes.drop {l : List Int} (h : Bytes l) (k : Nat) : Bytes (l.drop k) := fun x hx => h x (List.mem_of_mem_drop hx)
/-- The number whose bytes these are, the least significant one first. -/
def get : List Int → Int
  | [] => 0
  | c :: r => c + 256 * get r
theorem get_range (l : List Int) (h : Bytes l) : 0 ≤ get l ∧ get l < 2 ^ (8 * l.length) := by
  induction l with
  | nil => simp [get]
  | cons c r ih =>
    have h1 := h c (List.mem_cons_self ..)
    have h2 := ih (fun x hx => h x (List.mem_cons_of_mem _ hx))
    rw [get, List.length_cons, pow8]
    omega
theorem get_snoc (l : List Int) (c : Int) : get (l ++ [c]) = get l + c * 2 ^ (8 * l.length) := by
  induction l with
  | nil => simp [get]
  | cons d r ih =>
    rw [List.cons_append, get, ih, get, List.length_cons, pow8, Int.mul_add, Int.add_assoc, ← Int.mul_assoc, Int.mul_comm (2 ^ (8 * r.length)) 256, ← Int.mul_assoc, Int.mul_comm 256 c]
theorem get_take (l : List Int) (k : Nat) (hk : k < l.length) : get (l.take (k + 1)) = get (l.take k) + l[k] * 2 ^ (8 * k) := by
  rw [List.take_succ_eq_append_getElem hk, get_snoc, List.length_take, Nat.min_eq_left (by omega)]
theorem get_drop (l : List Int) (k : Nat) (hk : k < l.length) : get (l.drop k) = 256 * get (l.drop (k + 1)) + l[k] := by
  rw [List.drop_eq_getElem_cons hk, get]; omega
theorem get_small (l : List Int) (h : Bytes l) (hl : l.length ≤ 8) : 0 ≤ get l ∧ get l < 18446744073709551616 := by
  have h1 := get_range l h
  have h2 := pow_le (show 8 * l.length ≤ 64 by omega)
  have h3 : (2 : Int) ^ 64 = 18446744073709551616 := by decide
  omega
/-- The lowest n bytes of x. -/
def put (x : Int) (n : Nat) : List Int := (List.range n).map fun i => x / 2 ^ (8 * i) % 256
theorem put_len (x : Int) (n : Nat) : (put x n).length = n := by simp [put]
theorem put_succ (x : Int) (n : Nat) : put x (n + 1) = put x n ++ [x / 2 ^ (8 * n) % 256] := by simp [put, List.range_succ]
theorem put_bytes (x : Int) (n : Nat) : Bytes (put x n) := by
  intro y hy
  obtain ⟨i, _, rfl⟩ := List.mem_map.1 hy
  omega
theorem put_at (x : Int) (n i : Nat) (h : i < (put x n).length) : (put x n)[i] = x / 2 ^ (8 * i) % 256 := by simp [put]
theorem mod_split (x a b : Nat) : x % (a * b) = x % a + x / a % b * a := by rw [Nat.mod_mul, Nat.mul_comm a]
theorem get_put (x : Int) (h0 : 0 ≤ x) (n : Nat) : get (put x n) = x % 2 ^ (8 * n) := by
  obtain ⟨m, rfl⟩ := Int.eq_ofNat_of_zero_le h0
  induction n with
  | zero => simp [put, get]
  | succ n ih =>
    rw [put_succ, get_snoc, ih, put_len, pow8]
    have e : ((2 ^ (8 * n) : Nat) : Int) = (2 : Int) ^ (8 * n) := by rw [Int.natCast_pow]; rfl
    rw [← e]
    have := mod_split m (2 ^ (8 * n)) 256
    have h2 : ((m % (2 ^ (8 * n) * 256) : Nat) : Int) = ((m % 2 ^ (8 * n) + m / 2 ^ (8 * n) % 256 * 2 ^ (8 * n) : Nat) : Int) := by rw [this]
    simpa using h2.symm
/-- The varint. -/
def varN (x : Nat) : List Int := if x < 128 then [(x : Int)] else ((128 + x % 128 : Nat) : Int) :: varN (x / 128)
termination_by x
decreasing_by omega
def var (x : Int) : List Int := varN x.toNat
theorem var_lt (x : Int) (h0 : 0 ≤ x) (h : x < 128) : var x = [x] := by
  rw [var, varN, if_pos (by omega)]; congr 1; omega
theorem var_ge (x : Int) (h : 128 ≤ x) : var x = (128 + x % 128) :: var (x / 128) := by
  rw [var, varN, if_neg (by omega), var, show x.toNat / 128 = (x / 128).toNat by omega]; congr 1; omega
theorem var_ind {P : Int → Prop} (h1 : ∀ x, 0 ≤ x → x < 128 → P x) (h2 : ∀ x, 128 ≤ x → P (x / 128) → P x) : ∀ x, 0 ≤ x → P x := by
  have key : ∀ n : Nat, ∀ x : Int, 0 ≤ x → x.toNat = n → P x := by
    intro n
    induction n using Nat.strongRecOn with
    | ind n ih =>
      intro x h0 hx
      by_cases h : x < 128
      · exact h1 x h0 h
      · exact h2 x (by omega) (ih (x / 128).toNat (by omega) _ (by omega) rfl)
  exact fun x h0 => key _ x h0 rfl
theorem var_bytes (x : Int) (h0 : 0 ≤ x) : Bytes (var x) := by
  refine var_ind (P := fun x => Bytes (var x)) ?_ ?_ x h0
  · intro x h0 h
    rw [var_lt x h0 h]
    intro y hy
    obtain rfl := List.mem_singleton.1 hy
    omega
  · intro x h ih
    rw [var_ge x h]
    intro y hy
    rcases List.mem_cons.1 hy with rfl | hy
    · omega
    · exact ih y hy
theorem var_pos (x : Int) (h0 : 0 ≤ x) : 0 < (var x).length := by
  by_cases h : x < 128
  · rw [var_lt x h0 h]; simp
  · rw [var_ge x (by omega)]; simp
theorem var_le (n : Nat) : ∀ x : Int, 0 ≤ x → x < 128 ^ (n + 1) → (var x).length ≤ n + 1 := by
  induction n with
  | zero => intro x h0 h; rw [var_lt x h0 (by simpa using h)]; simp
  | succ n ih =>
    intro x h0 h
    by_cases hx : x < 128
    · rw [var_lt x h0 hx]; simp
    · rw [var_ge x (by omega), List.length_cons]
      rw [Int.pow_succ] at h
      have := ih (x / 128) (by omega) (by omega)
      omega
theorem var_ten (x : Int) (h0 : 0 ≤ x) (h1 : x < 18446744073709551616) : (var x).length ≤ 10 :=
  var_le 9 x h0 (Int.lt_trans h1 (by decide))
theorem div_add (x : Int) (a b : Nat) : x / 2 ^ a / 2 ^ b = x / 2 ^ (a + b) := by
  rw [pow_add', Int.ediv_ediv_of_nonneg (by have := pow_pos a; omega)]
theorem var_at (x : Int) (h0 : 0 ≤ x) : ∀ i, (h : i < (var x).length) → (var x)[i] = x / 2 ^ (7 * i) % 128 + if i + 1 < (var x).length then 128 else 0 := by
  refine var_ind (P := fun x => ∀ i, (h : i < (var x).length) → (var x)[i] = x / 2 ^ (7 * i) % 128 + if i + 1 < (var x).length then 128 else 0) ?_ ?_ x h0
  · intro x h0 h i hi
    simp only [var_lt x h0 h, List.length_singleton] at hi ⊢
    obtain rfl : i = 0 := by omega
    simp
    omega
  · intro x h ih i hi
    simp only [var_ge x h, List.length_cons] at hi ⊢
    have hp := var_pos (x / 128) (by omega)
    cases i with
    | zero => rw [if_pos (by omega)]; simp; omega
    | succ i =>
      rw [List.getElem_cons_succ, ih i (by omega)]
      have e : x / 128 / 2 ^ (7 * i) = x / 2 ^ (7 * (i + 1)) := by
        have := div_add x 7 (7 * i)
        rw [show (2 : Int) ^ 7 = 128 from rfl] at this
        rw [this, Nat.mul_succ, Nat.add_comm]
      rw [e]
      by_cases hl : i + 1 < (var (x / 128)).length
      · rw [if_pos hl, if_pos (by omega)]
      · rw [if_neg hl, if_neg (by omega)]
/-- How many groups are still to come. -/
def left (y : Int) : Nat := if y = 0 then 0 else (var y).length
theorem var_left (x : Int) (h0 : 0 ≤ x) : (var x).length = 1 + left (x / 128) := by
  unfold left
  by_cases h : x < 128
  · rw [var_lt x h0 h, if_pos (by omega)]; rfl
  · rw [var_ge x (by omega), if_neg (by omega), List.length_cons]; omega
theorem left_step (y : Int) (h : 0 < y) : left y = 1 + left (y / 128) := by
  rw [← var_left y (by omega)]; unfold left; rw [if_neg (by omega)]
/-- What Unvar answers for the bytes l from place k on, with the number so far. -/
def unv : List Int → Nat → Int → Int × Int × Int
  | [], _, _ => (0, 0, 4)
  | c :: r, k, x =>
    if k = 9 ∧ 1 < c then (0, 0, 15)
    else if 0 < k ∧ c = 0 then (0, 0, 3)
    else if c < 128 then (x + c * 2 ^ (7 * k), (k : Int) + 1, 0)
    else unv r (k + 1) (x + c % 128 * 2 ^ (7 * k))
theorem unv_none (l : List Int) (k : Nat) (x : Int) (h : l.length ≤ k) : unv (l.drop k) k x = (0, 0, 4) := by
  rw [List.drop_of_length_le h, unv]
theorem unv_big (l : List Int) (k : Nat) (x : Int) (h : k < l.length) (h9 : k = 9) (hc : 1 < l[k]) : unv (l.drop k) k x = (0, 0, 15) := by
  rw [List.drop_eq_getElem_cons h, unv, if_pos ⟨h9, hc⟩]
theorem unv_form (l : List Int) (k : Nat) (x : Int) (h : k < l.length) (hk : 0 < k) (hc : l[k] = 0) : unv (l.drop k) k x = (0, 0, 3) := by
  rw [List.drop_eq_getElem_cons h, unv, if_neg (by omega), if_pos ⟨hk, hc⟩]
theorem unv_last (l : List Int) (k : Nat) (x : Int) (h : k < l.length) (h9 : ¬ (k = 9 ∧ 1 < l[k])) (hf : ¬ (0 < k ∧ l[k] = 0)) (hc : l[k] < 128) : unv (l.drop k) k x = (x + l[k] * 2 ^ (7 * k), (k : Int) + 1, 0) := by
  rw [List.drop_eq_getElem_cons h, unv, if_neg h9, if_neg hf, if_pos hc]
theorem unv_next (l : List Int) (k : Nat) (x : Int) (h : k < l.length) (h9 : ¬ (k = 9 ∧ 1 < l[k])) (hc : 128 ≤ l[k]) : unv (l.drop k) k x = unv (l.drop (k + 1)) (k + 1) (x + l[k] % 128 * 2 ^ (7 * k)) := by
  rw [List.drop_eq_getElem_cons h, unv, if_neg h9, if_neg (by omega), if_neg (by omega)]
/-- The number so far stays within its bits. -/
theorem step_fits (k : Nat) (x c : Int) (h0 : 0 ≤ x) (h1 : x < 2 ^ (7 * k)) (hc0 : 0 ≤ c) (hc1 : c < 128) : 0 ≤ x + c * 2 ^ (7 * k) ∧ x + c * 2 ^ (7 * k) < 2 ^ (7 * (k + 1)) := by
  rw [pow7]
  have hp := pow_pos (7 * k)
  have h2 := Int.mul_nonneg hc0 (show (0 : Int) ≤ 2 ^ (7 * k) by omega)
  have h3 := Int.mul_le_mul_of_nonneg_right (show c ≤ 127 by omega) (show (0 : Int) ≤ 2 ^ (7 * k) by omega)
  omega
theorem last_fits (k : Nat) (x c : Int) (hk : k ≤ 9) (h0 : 0 ≤ x) (h1 : x < 2 ^ (7 * k)) (hc0 : 0 ≤ c) (hc1 : c < 128) (h9 : ¬ (k = 9 ∧ 1 < c)) : 0 ≤ x + c * 2 ^ (7 * k) ∧ x + c * 2 ^ (7 * k) < 18446744073709551616 := by
  have h63 : (2 : Int) ^ 63 = 9223372036854775808 := by decide
  by_cases hk9 : k = 9
  · subst hk9
    rw [show 7 * 9 = 63 from rfl, h63] at *
    omega
  · have h := step_fits k x c h0 h1 hc0 hc1
    have h2 := pow_le (show 7 * (k + 1) ≤ 63 by omega)
    omega
theorem unv_range (l : List Int) : ∀ (k : Nat) (x : Int), Bytes l → k ≤ 9 → 0 ≤ x → x < 2 ^ (7 * k) →
    0 ≤ (unv l k x).1 ∧ (unv l k x).1 < 18446744073709551616 := by
  induction l with
  | nil => intro k x _ _ _ _; simp [unv]
  | cons c r ih =>
    intro k x hb hk h0 h1
    have hc := hb c (List.mem_cons_self ..)
    rw [unv]
    split
    · simp
    · split
      · simp
      · split
        · rename_i h9 _ hlt
          exact last_fits k x c hk h0 h1 hc.1 hlt h9
        · rename_i h9 _ hlt
          have hs := step_fits k x (c % 128) h0 h1 (by omega) (by omega)
          exact ih (k + 1) _ (fun y hy => hb y (List.mem_cons_of_mem _ hy)) (by omega) hs.1 hs.2
/-- Unvar inverts Var, whatever bytes follow. -/
theorem unv_var (more : List Int) (x : Int) (h0 : 0 ≤ x) : ∀ (k : Nat) (a : Int), k ≤ 9 → (0 < k → 0 < x) → x * 2 ^ (7 * k) < 18446744073709551616 →
    unv (var x ++ more) k a = (a + x * 2 ^ (7 * k), (k : Int) + (var x).length, 0) := by
  have h63 : (2 : Int) ^ 63 = 9223372036854775808 := by decide
  refine var_ind (P := fun x => ∀ (k : Nat) (a : Int), k ≤ 9 → (0 < k → 0 < x) → x * 2 ^ (7 * k) < 18446744073709551616 →
    unv (var x ++ more) k a = (a + x * 2 ^ (7 * k), (k : Int) + (var x).length, 0)) ?_ ?_ x h0
  · intro x h0 h k a hk hp hx
    rw [var_lt x h0 h, List.singleton_append, unv, if_neg, if_neg (by omega), if_pos h]; rfl
    rintro ⟨rfl, h1⟩
    rw [show 7 * 9 = 63 from rfl, h63] at hx
    omega
  · intro x h ih k a hk hp hx
    have hpp := pow_pos (7 * k)
    have hk9 : ¬ k = 9 := by
      rintro rfl
      rw [show 7 * 9 = 63 from rfl, h63] at hx
      omega
    rw [var_ge x h, List.cons_append, unv, if_neg (by omega), if_neg (by omega), if_neg (by omega)]
    have e : x % 128 * 2 ^ (7 * k) + x / 128 * 2 ^ (7 * (k + 1)) = x * 2 ^ (7 * k) := by
      rw [pow7, Int.mul_comm (2 ^ (7 * k)) 128, ← Int.mul_assoc, ← Int.add_mul]
      congr 1; omega
    have hm := Int.mul_nonneg (show 0 ≤ x % 128 by omega) (show (0 : Int) ≤ 2 ^ (7 * k) by omega)
    have hx2 : x / 128 * 2 ^ (7 * (k + 1)) < 18446744073709551616 := by omega
    rw [ih (k + 1) _ (by omega) (by omega) hx2, show (128 + x % 128) % 128 = x % 128 by omega, Int.add_assoc, e, List.length_cons]
    congr 2
    omega
/-- What Unvar reads is the varint of its answer. -/
theorem var_unv (l : List Int) : ∀ (k : Nat) (x z m : Int), Bytes l → unv l k x = (z, m, 0) →
    ∃ (y : Int) (j : Nat), 0 ≤ y ∧ z = x + y * 2 ^ (7 * k) ∧ m = (k : Int) + j ∧ j ≤ l.length ∧ var y = l.take j ∧ (0 < k → 0 < y) := by
  induction l with
  | nil => intro k x z m _ h; simp [unv] at h
  | cons c r ih =>
    intro k x z m hb h
    have hc := hb c (List.mem_cons_self ..)
    rw [unv] at h
    split at h
    · simp at h
    · split at h
      · simp at h
      · split at h
        · rename_i h9 hf hlt
          simp only [Prod.mk.injEq] at h
          exact ⟨c, 1, hc.1, h.1.symm, by have := h.2.1; simp; omega, by simp, by rw [var_lt c hc.1 hlt]; simp, by omega⟩
        · rename_i h9 hf hlt
          obtain ⟨y, j, hy, hz, hm, hj, hv, hp⟩ := ih (k + 1) _ z m (fun y hy => hb y (List.mem_cons_of_mem _ hy)) h
          have hy0 := hp (by omega)
          refine ⟨c % 128 + 128 * y, j + 1, by omega, ?_, by simp at hm ⊢; omega, by simp; omega, ?_, by omega⟩
          · rw [hz, pow7, Int.add_mul, Int.add_assoc, Int.mul_comm (2 ^ (7 * k)) 128, ← Int.mul_assoc, Int.mul_comm 128 y]
          · rw [var_ge _ (by omega), show (c % 128 + 128 * y) / 128 = y by omega, hv, List.take_succ_cons]
            congr 1; omega
end Go.Proofs.Ytgggjhbijnndhaa.M
