/- Plain mathematics: bits of a number below 2^64, sums of bits, rotations. No program stands in it. -/
import Init
namespace Go.Proofs.Ytmdolblcffnkcaa.M

theorem add_bit (a p j : Nat) (h : a.testBit p = false) : (a + 2 ^ p).testBit j = (a.testBit j || decide (p = j)) := by
  have hd : a = 2 ^ (p + 1) * (a / 2 ^ (p + 1)) + a % 2 ^ p := by
    have h1 := Nat.div_add_mod a (2 ^ (p + 1))
    have h2 : a % 2 ^ (p + 1) = a % 2 ^ p := by
      apply Nat.eq_of_testBit_eq; intro i
      rw [Nat.testBit_mod_two_pow, Nat.testBit_mod_two_pow]
      by_cases hi : i = p
      · subst hi; simp [h]
      · by_cases h3 : i < p
        · simp [h3, Nat.lt_succ_of_lt h3]
        · have : ¬ i < p + 1 := by omega
          simp [h3, this]
    rw [h2] at h1; exact h1.symm
  have hlt : a % 2 ^ p < 2 ^ p := Nat.mod_lt _ (Nat.two_pow_pos p)
  have e : a + 2 ^ p = 2 ^ p * (2 * (a / 2 ^ (p + 1)) + 1) + a % 2 ^ p := by
    conv => lhs; rw [hd]
    rw [Nat.pow_succ, Nat.mul_add, Nat.mul_one, ← Nat.mul_assoc]; omega
  have e2 : a = 2 ^ p * (2 * (a / 2 ^ (p + 1))) + a % 2 ^ p := by
    conv => lhs; rw [hd]
    rw [Nat.pow_succ, ← Nat.mul_assoc]
  rw [e, Nat.two_pow_add_eq_or_of_lt hlt, Nat.testBit_or]
  conv => rhs; rw [e2]
  rw [Nat.two_pow_add_eq_or_of_lt hlt, Nat.testBit_or]
  rw [Nat.mul_comm (2 ^ p), Nat.mul_comm (2 ^ p), Nat.testBit_mul_two_pow, Nat.testBit_mul_two_pow]
  by_cases hj : p ≤ j
  · by_cases hq : p = j
    · subst hq; simp [Nat.testBit_zero]
    · obtain ⟨k, hk⟩ : ∃ k, j - p = k + 1 := ⟨j - p - 1, by omega⟩
      rw [hk, Nat.testBit_succ, Nat.testBit_succ]
      have d1 : (2 * (a / 2 ^ (p + 1)) + 1) / 2 = a / 2 ^ (p + 1) := by omega
      have d2 : (2 * (a / 2 ^ (p + 1))) / 2 = a / 2 ^ (p + 1) := by omega
      rw [d1, d2]; simp [hq]
  · have hq : p ≠ j := by omega
    simp [hj, hq]

/-- The number whose bit p k is f k, for each k below n. -/
def acc (f : Nat → Bool) (p : Nat → Nat) : Nat → Nat
  | 0 => 0
  | k + 1 => acc f p k + (f k).toNat * 2 ^ p k

theorem acc_bit (f : Nat → Bool) (p q : Nat → Nat) (hp : ∀ k, k < 64 → p k < 64) (hq : ∀ k, k < 64 → q (p k) = k) (hpq : ∀ j, j < 64 → p (q j) = j) (k : Nat) (hk : k ≤ 64) (j : Nat) :
    (acc f p k).testBit j = (decide (j < 64) && decide (q j < k) && f (q j)) := by
  induction k generalizing j with
  | zero => simp [acc]
  | succ k ih =>
    have hk64 : k < 64 := by omega
    have hz : (acc f p k).testBit (p k) = false := by
      rw [ih (by omega), hq k hk64]; simp
    have hj : ∀ b : Bool, (decide (j < 64) && decide (q j < k) && f (q j) || (b && decide (p k = j))) = (decide (j < 64) && decide (q j < k + 1) && (if q j = k then (if j < 64 then b else false) else f (q j))) := by
      intro b
      by_cases h64 : j < 64
      · by_cases he : q j = k
        · have h1 : p k = j := by rw [← he]; exact hpq j h64
          simp [h64, he, h1]
        · have h1 : ¬ p k = j := by intro h; apply he; rw [← h]; exact hq k hk64
          have h2 : (q j < k + 1) ↔ (q j < k) := by omega
          simp [h64, he, h1, h2]
      · have h1 : ¬ p k = j := by have := hp k hk64; omega
        simp [h64, h1]
    have hfin : (decide (j < 64) && decide (q j < k + 1) && (if q j = k then (if j < 64 then f k else false) else f (q j))) = (decide (j < 64) && decide (q j < k + 1) && f (q j)) := by
      by_cases h64 : j < 64
      · by_cases he : q j = k
        · simp [h64, he]
        · simp [h64, he]
      · simp [h64]
    rw [← hfin, ← hj (f k), ← ih (by omega) j]
    cases hb : f k with
    | false => simp [acc, hb]
    | true => simp only [acc, hb, Bool.toNat_true, Nat.one_mul, add_bit _ _ _ hz, Bool.true_and]

def gather (f : Nat → Bool) : Nat := acc f id 64
theorem gather_bit (f : Nat → Bool) (j : Nat) : (gather f).testBit j = (decide (j < 64) && f j) := by
  unfold gather
  rw [acc_bit f id id (fun _ h => h) (fun _ _ => rfl) (fun _ _ => rfl) 64 (Nat.le_refl _)]
  simp
theorem lt64 {n : Nat} (h : ∀ j, 64 ≤ j → n.testBit j = false) : n < 2 ^ 64 := Nat.lt_pow_two_of_testBit n h
theorem gather_lt (f : Nat → Bool) : gather f < 2 ^ 64 := lt64 (fun j hj => by rw [gather_bit]; simp; omega)
theorem gather_eq {f : Nat → Bool} {n : Nat} (hn : n < 2 ^ 64) (h : ∀ j, j < 64 → n.testBit j = f j) : n = gather f := by
  apply Nat.eq_of_testBit_eq; intro j
  rw [gather_bit]
  by_cases hj : j < 64
  · simp [hj, h j hj]
  · simp [hj]; exact Nat.testBit_lt_two_pow (Nat.lt_of_lt_of_le hn (Nat.pow_le_pow_right (by omega) (by omega)))
theorem acc_lt (f : Nat → Bool) (p q : Nat → Nat) (hp : ∀ k, k < 64 → p k < 64) (hq : ∀ k, k < 64 → q (p k) = k) (hpq : ∀ j, j < 64 → p (q j) = j) (k : Nat) (hk : k ≤ 64) : acc f p k < 2 ^ 64 :=
  lt64 (fun j hj => by rw [acc_bit f p q hp hq hpq k hk]; simp; omega)
theorem acc_all (f : Nat → Bool) (p q : Nat → Nat) (hp : ∀ k, k < 64 → p k < 64) (hq : ∀ k, k < 64 → q (p k) = k) (hpq : ∀ j, j < 64 → p (q j) = j) (hq2 : ∀ j, j < 64 → q j < 64) : acc f p 64 = gather (fun j => f (q j)) :=
  gather_eq (acc_lt f p q hp hq hpq 64 (Nat.le_refl _)) (fun j hj => by rw [acc_bit f p q hp hq hpq 64 (Nat.le_refl _)]; simp [hj, hq2 j hj])

/-- Rotated to the left by r. -/
def rot (x r : Nat) : Nat := gather (fun j => x.testBit ((j + (64 - r)) % 64))
theorem rot_lt (x r : Nat) : rot x r < 2 ^ 64 := gather_lt _
theorem high (x : Nat) (hx : x < 2 ^ 64) (j : Nat) (hj : 64 ≤ j) : x.testBit j = false :=
  Nat.testBit_lt_two_pow (Nat.lt_of_lt_of_le hx (Nat.pow_le_pow_right (by omega) hj))

theorem rot_left (x r : Nat) (hx : x < 2 ^ 64) (hr : r < 64) : (x * 2 ^ r % 2 ^ 64) ||| (x / 2 ^ (64 - r)) = rot x r := by
  apply gather_eq
  · exact Nat.or_lt_two_pow (Nat.mod_lt _ (Nat.two_pow_pos _)) (Nat.lt_of_le_of_lt (Nat.div_le_self _ _) hx)
  · intro j hj
    rw [Nat.testBit_or, Nat.testBit_mod_two_pow, Nat.testBit_mul_two_pow, Nat.testBit_div_two_pow]
    by_cases h : r ≤ j
    · have e : (j + (64 - r)) % 64 = j - r := by omega
      rw [e, high x hx (j + (64 - r)) (by omega)]; simp [h, hj]
    · have e : (j + (64 - r)) % 64 = j + (64 - r) := by omega
      rw [e]; simp [h]
theorem rot_right (x m : Nat) (hx : x < 2 ^ 64) (hm : m < 64) : (x / 2 ^ m) ||| (x * 2 ^ (64 - m) % 2 ^ 64) = rot x ((64 - m) % 64) := by
  apply gather_eq
  · exact Nat.or_lt_two_pow (Nat.lt_of_le_of_lt (Nat.div_le_self _ _) hx) (Nat.mod_lt _ (Nat.two_pow_pos _))
  · intro j hj
    rw [Nat.testBit_or, Nat.testBit_mod_two_pow, Nat.testBit_mul_two_pow, Nat.testBit_div_two_pow]
    by_cases h : 64 - m ≤ j
    · have e : (j + (64 - (64 - m) % 64)) % 64 = j - (64 - m) := by omega
      rw [e, high x hx (j + m) (by omega)]; simp [h, hj]
    · have e : (j + (64 - (64 - m) % 64)) % 64 = j + m := by omega
      rw [e]; simp [h]

theorem rot_acc (x r : Nat) (hr : r < 64) : acc x.testBit (fun k => (k + r) % 64) 64 = rot x r :=
  acc_all _ _ (fun j => (j + (64 - r)) % 64) (fun k _ => by omega) (fun k _ => by omega) (fun j _ => by omega) (fun j _ => by omega)
theorem rot_acc_lt (x r : Nat) (hr : r < 64) (k : Nat) (hk : k ≤ 64) : acc x.testBit (fun k => (k + r) % 64) k < 2 ^ 64 :=
  acc_lt _ _ (fun j => (j + (64 - r)) % 64) (fun k _ => by omega) (fun k _ => by omega) (fun j _ => by omega) k hk

theorem rot_back (x r : Nat) (hx : x < 2 ^ 64) (hr : r < 64) : rot (rot x r) ((64 - r) % 64) = x := by
  symm; apply gather_eq hx; intro j hj
  unfold rot; rw [gather_bit]
  have e : ((j + (64 - (64 - r) % 64)) % 64 + (64 - r)) % 64 = j := by omega
  have e2 : (j + (64 - (64 - r) % 64)) % 64 < 64 := by omega
  rw [e]; simp [e2]
end Go.Proofs.Ytmdolblcffnkcaa.M
