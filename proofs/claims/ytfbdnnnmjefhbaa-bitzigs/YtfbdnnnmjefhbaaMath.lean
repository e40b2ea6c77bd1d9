/- Plain mathematics of layer 2: bits of a number below 2^64, sums of bits, runs of zeros. No program stands in it. -/
import Init
namespace Go.Proofs.Ytfbdnnnmjefhbaa.M

theorem add_bit (a p j : Nat) (h : a.testBit p = false) : (a + 2 ^ p).testBit j = (a.testBit j || decide (p = j)) := by
  have hd : a = 2 ^ (p + 1) * (a / 2 ^ (p + 1)) + a % 2 ^ p := by
    have h1 := Nat.div_add_mod a (2 ^ (p + 1))
    have h2 : a % 2 ^ (p + 1) = a % 2 ^ p := by
      apply Nat.eq_of_testBit_eq; intro i
      rw [Nat.testBit_mod_two_pow, Nat.testBit_mod_two_pow]
      by_cases hi : i = p
      · subst hi; simp [h]
      · by_cases h3 : i < p
        · simp [h3, Nat.lt_succ_of_lt h3]
        · have : ¬ i < p + 1 := by omega
          simp [h3, this]
    rw [h2] at h1; exact h1.symm
  have hlt : a % 2 ^ p < 2 ^ p := Nat.mod_lt _ (Nat.two_pow_pos p)
  have e : a + 2 ^ p = 2 ^ p * (2 * (a / 2 ^ (p + 1)) + 1) + a % 2 ^ p := by
    conv => lhs; rw [hd]
    rw [Nat.pow_succ, Nat.mul_add, Nat.mul_one, ← Nat.mul_assoc]; omega
  have e2 : a = 2 ^ p * (2 * (a / 2 ^ (p + 1))) + a % 2 ^ p := by
    conv => lhs; rw [hd]
    rw [Nat.pow_succ, ← Nat.mul_assoc]
  rw [e, Nat.two_pow_add_eq_or_of_lt hlt, Nat.testBit_or]
  conv => rhs; rw [e2]
  rw [Nat.two_pow_add_eq_or_of_lt hlt, Nat.testBit_or]
  rw [Nat.mul_comm (2 ^ p), Nat.mul_comm (2 ^ p), Nat.testBit_mul_two_pow, Nat.testBit_mul_two_pow]
  by_cases hj : p ≤ j
  · by_cases hq : p = j
    · subst hq; simp [Nat.testBit_zero]
    · obtain ⟨k, hk⟩ : ∃ k, j - p = k + 1 := ⟨j - p - 1, by omega⟩
      rw [hk, Nat.testBit_succ, Nat.testBit_succ]
      have d1 : (2 * (a / 2 ^ (p + 1)) + 1) / 2 = a / 2 ^ (p + 1) := by omega
      have d2 : (2 * (a / 2 ^ (p + 1))) / 2 = a / 2 ^ (p + 1) := by omega
      rw [d1, d2]; simp [hq]
  · have hq : p ≠ j := by omega
    simp [hj, hq]

/-- The number whose bit p k is f k, for each k below n. -/
def acc (f : Nat → Bool) (p : Nat → Nat) : Nat → Nat
  | 0 => 0
  | k + 1 => acc f p k + (f k).toNat * 2 ^ p k

theorem acc_bit (f : Nat → Bool) (p q : Nat → Nat) (hp : ∀ k, k < 64 → p k < 64) (hq : ∀ k, k < 64 → q (p k) = k) (hpq : ∀ j, j < 64 → p (q j) = j) (k : Nat) (hk : k ≤ 64) (j : Nat) :
    (acc f p k).testBit j = (decide (j < 64) && decide (q j < k) && f (q j)) := by
  induction k generalizing j with
  | zero => simp [acc]
  | succ k ih =>
    have hk64 : k < 64 := by omega
    have hz : (acc f p k).testBit (p k) = false := by
      rw [ih (by omega), hq k hk64]; simp
    have hj : ∀ b : Bool, (decide (j < 64) && decide (q j < k) && f (q j) || (b && decide (p k = j))) = (decide (j < 64) && decide (q j < k + 1) && (if q j = k then (if j < 64 then b else false) else f (q j))) := by
      intro b
      by_cases h64 : j < 64
      · by_cases he : q j = k
        · have h1 : p k = j := by rw [← he]; exact hpq j h64
          simp [h64, he, h1]
        · have h1 : ¬ p k = j := by intro h; apply he; rw [← h]; exact hq k hk64
          have h2 : (q j < k + 1) ↔ (q j < k) := by omega
          simp [h64, he, h1, h2]
      · have h1 : ¬ p k = j := by have := hp k hk64; omega
        simp [h64, h1]
    have hfin : (decide (j < 64) && decide (q j < k + 1) && (if q j = k then (if j < 64 then f k else false) else f (q j))) = (decide (j < 64) && decide (q j < k + 1) && f (q j)) := by
      by_cases h64 : j < 64
      · by_cases he : q j = k
        · simp [h64, he]
        · simp [h64, he]
      · simp [h64]
    rw [← hfin, ← hj (f k), ← ih (by omega) j]
    cases hb : f k with
    | false => simp [acc, hb]
    | true => simp only [acc, hb, Bool.toNat_true, Nat.one_mul, add_bit _ _ _ hz, Bool.true_and]

def gather (f : Nat → Bool) : Nat := acc f id 64
theorem gather_bit (f : Nat → Bool) (j : Nat) : (gather f).testBit j = (decide (j < 64) && f j) := by
  unfold gather
  rw [acc_bit f id id (fun _ h => h) (fun _ _ => rfl) (fun _ _ => rfl) 64 (Nat.le_refl _)]
  simp
theorem lt64 {n : Nat} (h : ∀ j, 64 ≤ j → n.testBit j = false) : n < 2 ^ 64 := Nat.lt_pow_two_of_testBit n h
theorem gather_lt (f : Nat → Bool) : gather f < 2 ^ 64 := lt64 (fun j hj => by rw [gather_bit]; simp; omega)
theorem gather_eq {f : Nat → Bool} {n : Nat} (hn : n < 2 ^ 64) (h : ∀ j, j < 64 → n.testBit j = f j) : n = gather f := by
  apply Nat.eq_of_testBit_eq; intro j
  rw [gather_bit]
  by_cases hj : j < 64
  · simp [hj, h j hj]
  · simp [hj]; exact Nat.testBit_lt_two_pow (Nat.lt_of_lt_of_le hn (Nat.pow_le_pow_right (by omega) (by omega)))
theorem acc_lt (f : Nat → Bool) (p q : Nat → Nat) (hp : ∀ k, k < 64 → p k < 64) (hq : ∀ k, k < 64 → q (p k) = k) (hpq : ∀ j, j < 64 → p (q j) = j) (k : Nat) (hk : k ≤ 64) : acc f p k < 2 ^ 64 :=
  lt64 (fun j hj => by rw [acc_bit f p q hp hq hpq k hk]; simp; omega)
theorem acc_all (f : Nat → Bool) (p q : Nat → Nat) (hp : ∀ k, k < 64 → p k < 64) (hq : ∀ k, k < 64 → q (p k) = k) (hpq : ∀ j, j < 64 → p (q j) = j) (hq2 : ∀ j, j < 64 → q j < 64) : acc f p 64 = gather (fun j => f (q j)) :=
  gather_eq (acc_lt f p q hp hq hpq 64 (Nat.le_refl _)) (fun j hj => by rw [acc_bit f p q hp hq hpq 64 (Nat.le_refl _)]; simp [hj, hq2 j hj])

/-- Rotated to the left by r. -/
def rot (x r : Nat) : Nat := gather (fun j => x.testBit ((j + (64 - r)) % 64))
def turn (x : Nat) : Nat := gather (fun j => x.testBit (63 - j))
theorem rot_lt (x r : Nat) : rot x r < 2 ^ 64 := gather_lt _
theorem turn_lt (x : Nat) : turn x < 2 ^ 64 := gather_lt _
theorem high (x : Nat) (hx : x < 2 ^ 64) (j : Nat) (hj : 64 ≤ j) : x.testBit j = false :=
  Nat.testBit_lt_two_pow (Nat.lt_of_lt_of_le hx (Nat.pow_le_pow_right (by omega) hj))

theorem rot_left (x r : Nat) (hx : x < 2 ^ 64) (hr : r < 64) : (x * 2 ^ r % 2 ^ 64) ||| (x / 2 ^ (64 - r)) = rot x r := by
  apply gather_eq
  · exact Nat.or_lt_two_pow (Nat.mod_lt _ (Nat.two_pow_pos _)) (Nat.lt_of_le_of_lt (Nat.div_le_self _ _) hx)
  · intro j hj
    rw [Nat.testBit_or, Nat.testBit_mod_two_pow, Nat.testBit_mul_two_pow, Nat.testBit_div_two_pow]
    by_cases h : r ≤ j
    · have e : (j + (64 - r)) % 64 = j - r := by omega
      rw [e, high x hx (j + (64 - r)) (by omega)]; simp [h, hj]
    · have e : (j + (64 - r)) % 64 = j + (64 - r) := by omega
      rw [e]; simp [h]
theorem rot_right (x m : Nat) (hx : x < 2 ^ 64) (hm : m < 64) : (x / 2 ^ m) ||| (x * 2 ^ (64 - m) % 2 ^ 64) = rot x ((64 - m) % 64) := by
  apply gather_eq
  · exact Nat.or_lt_two_pow (Nat.lt_of_le_of_lt (Nat.div_le_self _ _) hx) (Nat.mod_lt _ (Nat.two_pow_pos _))
  · intro j hj
    rw [Nat.testBit_or, Nat.testBit_mod_two_pow, Nat.testBit_mul_two_pow, Nat.testBit_div_two_pow]
    by_cases h : 64 - m ≤ j
    · have e : (j + (64 - (64 - m) % 64)) % 64 = j - (64 - m) := by omega
      rw [e, high x hx (j + m) (by omega)]; simp [h, hj]
    · have e : (j + (64 - (64 - m) % 64)) % 64 = j + m := by omega
      rw [e]; simp [h]

theorem rot_acc (x r : Nat) (hr : r < 64) : acc x.testBit (fun k => (k + r) % 64) 64 = rot x r :=
  acc_all _ _ (fun j => (j + (64 - r)) % 64) (fun k _ => by omega) (fun k _ => by omega) (fun j _ => by omega) (fun j _ => by omega)
theorem rot_acc_lt (x r : Nat) (hr : r < 64) (k : Nat) (hk : k ≤ 64) : acc x.testBit (fun k => (k + r) % 64) k < 2 ^ 64 :=
  acc_lt _ _ (fun j => (j + (64 - r)) % 64) (fun k _ => by omega) (fun k _ => by omega) (fun j _ => by omega) k hk
theorem turn_acc (x : Nat) : acc x.testBit (fun k => 63 - k) 64 = turn x :=
  acc_all _ _ (fun j => 63 - j) (fun k _ => by omega) (fun k _ => by omega) (fun j _ => by omega) (fun j _ => by omega)
theorem turn_acc_lt (x : Nat) (k : Nat) (hk : k ≤ 64) : acc x.testBit (fun k => 63 - k) k < 2 ^ 64 :=
  acc_lt _ _ (fun j => 63 - j) (fun k _ => by omega) (fun k _ => by omega) (fun j _ => by omega) k hk

theorem rot_back (x r : Nat) (hx : x < 2 ^ 64) (hr : r < 64) : rot (rot x r) ((64 - r) % 64) = x := by
  symm; apply gather_eq hx; intro j hj
  unfold rot; rw [gather_bit]
  have e : ((j + (64 - (64 - r) % 64)) % 64 + (64 - r)) % 64 = j := by omega
  have e2 : (j + (64 - (64 - r) % 64)) % 64 < 64 := by omega
  rw [e]; simp [e2]
theorem turn_back (x : Nat) (hx : x < 2 ^ 64) : turn (turn x) = x := by
  symm; apply gather_eq hx; intro j hj
  unfold turn; rw [gather_bit]
  have e : 63 - (63 - j) = j := by omega
  have e2 : 63 - j < 64 := by omega
  rw [e]; simp [e2]

theorem sub_div (j w : Nat) (h : w ≤ j) (hw : 0 < w) : (j - w) / w = j / w - 1 := by
  have : j / w = (j - w) / w + 1 := by
    conv => lhs; rw [show j = (j - w) + w by omega]
    rw [Nat.add_div_right _ hw]
  rw [this, Nat.add_sub_cancel]
/-- One round of swapping neighbours. -/
def swap (x w m : Nat) : Nat := (x / 2 ^ w &&& m) ||| ((x &&& m) * 2 ^ w % 2 ^ 64)
theorem swap_bit (x w m j : Nat) (hj : j < 64) (hm : ∀ j, j < 64 → m.testBit j = decide (j / w % 2 = 0)) (hw : 0 < w) :
    (swap x w m).testBit j = x.testBit (if j / w % 2 = 0 then j + w else j - w) := by
  unfold swap
  rw [Nat.testBit_or, Nat.testBit_and, Nat.testBit_mod_two_pow, Nat.testBit_mul_two_pow, Nat.testBit_and, Nat.testBit_div_two_pow, hm j hj]
  by_cases h : j / w % 2 = 0
  · simp only [h, if_true, decide_true, Bool.and_true]
    by_cases h2 : w ≤ j
    · have e : (j - w) / w = j / w - 1 := sub_div j w h2 hw
      have h3 : 1 ≤ j / w := (Nat.le_div_iff_mul_le hw).2 (by omega)
      rw [hm (j - w) (by omega), e]
      have : ¬ ((j / w - 1) % 2 = 0) := by omega
      simp [this]
    · simp [h2]
  · have h3 : 1 ≤ j / w := by
      rcases Nat.eq_zero_or_pos (j / w) with h0 | h0
      · rw [h0] at h; simp at h
      · exact h0
    have h2 : w ≤ j := by have := (Nat.le_div_iff_mul_le hw).1 h3; omega
    have e : (j - w) / w = j / w - 1 := sub_div j w h2 hw
    rw [hm (j - w) (by omega), e]
    have h4 : (j / w - 1) % 2 = 0 := by omega
    simp [h, h2, h4, hj]
theorem swap_lt (x w m : Nat) (hx : x < 2 ^ 64) : swap x w m < 2 ^ 64 :=
  Nat.or_lt_two_pow (Nat.lt_of_le_of_lt Nat.and_le_left (Nat.lt_of_le_of_lt (Nat.div_le_self _ _) hx)) (Nat.mod_lt _ (Nat.two_pow_pos _))
def mask : Nat → Nat
  | 0 => 0x5555555555555555
  | 1 => 0x3333333333333333
  | 2 => 0x0f0f0f0f0f0f0f0f
  | 3 => 0x00ff00ff00ff00ff
  | 4 => 0x0000ffff0000ffff
  | _ => 0x00000000ffffffff
/-- What Turn holds behind k rounds. -/
def swaps (x : Nat) : Nat → Nat
  | 0 => x
  | k + 1 => swap (swaps x k) (2 ^ k) (mask k)
theorem swaps_lt (x : Nat) (hx : x < 2 ^ 64) (k : Nat) : swaps x k < 2 ^ 64 := by
  induction k with
  | zero => exact hx
  | succ k ih => exact swap_lt _ _ _ ih
theorem mask_bit : ∀ k, k < 6 → ∀ j, j < 64 → (mask k).testBit j = decide (j / 2 ^ k % 2 = 0) := by decide +kernel
def other (k j : Nat) : Nat := if j / 2 ^ k % 2 = 0 then j + 2 ^ k else j - 2 ^ k
theorem other_lt : ∀ k, k < 6 → ∀ j, j < 64 → other k j < 64 := by decide +kernel
theorem others : ∀ j, j < 64 → other 0 (other 1 (other 2 (other 3 (other 4 (other 5 j))))) = 63 - j := by decide +kernel
theorem swaps_bit (x k j : Nat) (hk : k < 6) (hj : j < 64) : (swaps x (k + 1)).testBit j = (swaps x k).testBit (other k j) :=
  swap_bit _ _ _ j hj (mask_bit k hk) (Nat.two_pow_pos k)
theorem swaps_all (x : Nat) (hx : x < 2 ^ 64) : swaps x 6 = turn x := by
  apply gather_eq (swaps_lt x hx 6); intro j hj
  have h5 := other_lt 5 (by omega) j hj
  have h4 := other_lt 4 (by omega) _ h5
  have h3 := other_lt 3 (by omega) _ h4
  have h2 := other_lt 2 (by omega) _ h3
  have h1 := other_lt 1 (by omega) _ h2
  rw [swaps_bit x 5 j (by omega) hj, swaps_bit x 4 _ (by omega) h5, swaps_bit x 3 _ (by omega) h4, swaps_bit x 2 _ (by omega) h3, swaps_bit x 1 _ (by omega) h2, swaps_bit x 0 _ (by omega) h1, others j hj]
  rfl

/-- How many of the first k are true. -/
def ones (f : Nat → Bool) : Nat → Nat
  | 0 => 0
  | k + 1 => ones f k + (f k).toNat
theorem ones_le (f : Nat → Bool) (k : Nat) : ones f k ≤ k := by
  induction k with
  | zero => exact Nat.le_refl _
  | succ k ih => have := Bool.toNat_le (f k); simp only [ones]; omega
theorem ones_first (f : Nat → Bool) (n : Nat) : ones f (n + 1) = (f 0).toNat + ones (fun i => f (i + 1)) n := by
  induction n with
  | zero => simp [ones]
  | succ n ih => rw [ones, ih, ones]; omega
theorem ones_congr {f g : Nat → Bool} (n : Nat) (h : ∀ i, i < n → f i = g i) : ones f n = ones g n := by
  induction n with
  | zero => rfl
  | succ n ih => rw [ones, ones, ih (fun i hi => h i (by omega)), h n (by omega)]
theorem ones_step (g : Nat → Bool) : ones (fun i => g ((i + 1) % 64)) 64 = ones g 64 := by
  rw [ones_first g 63]
  show ones (fun i => g ((i + 1) % 64)) 63 + (g ((63 + 1) % 64)).toNat = _
  rw [ones_congr (g := fun i => g (i + 1)) 63 (fun i hi => by rw [show (i + 1) % 64 = i + 1 by omega])]
  rw [show (63 + 1) % 64 = 0 by omega]; omega
theorem ones_shift (f : Nat → Bool) (s : Nat) : ones (fun i => f ((i + s) % 64)) 64 = ones f 64 := by
  induction s with
  | zero => exact ones_congr 64 (fun i hi => by rw [show (i + 0) % 64 = i by omega])
  | succ s ih =>
    rw [← ih, ← ones_step (fun i => f ((i + s) % 64))]
    exact ones_congr 64 (fun i hi => by show f ((i + (s + 1)) % 64) = f (((i + 1) % 64 + s) % 64); rw [show (i + (s + 1)) % 64 = ((i + 1) % 64 + s) % 64 by omega])
theorem ones_rot (x r : Nat) : ones (rot x r).testBit 64 = ones x.testBit 64 := by
  rw [← ones_shift x.testBit (64 - r)]
  exact ones_congr 64 (fun i hi => by unfold rot; rw [gather_bit]; simp [hi])

/-- t is how many are false ahead of the first true one, 64 at most. -/
def Trail (f : Nat → Bool) (t : Nat) : Prop := t ≤ 64 ∧ (∀ i, i < t → f i = false) ∧ (t < 64 → f t = true)
theorem Trail.only {f : Nat → Bool} {s t : Nat} (hs : Trail f s) (ht : Trail f t) : s = t := by
  rcases Nat.lt_trichotomy s t with h | h | h
  · have h1 := ht.2.1 s h; have h2 := hs.2.2 (Nat.lt_of_lt_of_le h ht.1); rw [h1] at h2; cases h2
  · exact h
  · have h1 := hs.2.1 t h; have h2 := ht.2.2 (Nat.lt_of_lt_of_le h hs.1); rw [h1] at h2; cases h2
theorem Trail.some (f : Nat → Bool) : ∃ t, Trail f t := by
  have : ∀ k, k ≤ 64 → (∃ t, Trail f t) ∨ ∀ i, i < k → f i = false := by
    intro k
    induction k with
    | zero => intro _; exact Or.inr (fun i hi => by omega)
    | succ k ih =>
      intro hk
      rcases ih (by omega) with h | h
      · exact Or.inl h
      · cases hb : f k with
        | true => exact Or.inl ⟨k, by omega, h, fun _ => hb⟩
        | false => exact Or.inr (fun i hi => by by_cases e : i = k; (subst e; exact hb); exact h i (by omega))
  rcases this 64 (Nat.le_refl _) with h | h
  · exact h
  · exact ⟨64, Nat.le_refl _, h, fun h => by omega⟩
theorem Trail.congr {f g : Nat → Bool} {t : Nat} (h : ∀ i, i < 64 → f i = g i) (ht : Trail f t) : Trail g t :=
  ⟨ht.1, fun i hi => by rw [← h i (by have := ht.1; omega)]; exact ht.2.1 i hi, fun h64 => by rw [← h t h64]; exact ht.2.2 h64⟩
/-- The bits from the highest down. -/
def down (x i : Nat) : Bool := x.testBit (63 - i)
theorem down_turn (x t : Nat) (h : Trail (down x) t) : Trail (turn x).testBit t :=
  h.congr (fun i hi => by unfold turn down; rw [gather_bit]; simp [hi])
theorem len_down (x k : Nat) (hk : k ≤ 64) (hz : x / 2 ^ k = 0) (hp : 0 < k → 0 < x / 2 ^ (k - 1)) : Trail (down x) (64 - k) := by
  have hlt : x < 2 ^ k := by
    rcases Nat.div_eq_zero_iff.1 hz with h | h
    · have := Nat.two_pow_pos k; omega
    · exact h
  refine ⟨by omega, fun i hi => ?_, fun h => ?_⟩
  · unfold down
    exact Nat.testBit_lt_two_pow (Nat.lt_of_lt_of_le hlt (Nat.pow_le_pow_right (by omega) (by omega)))
  · have h1 := hp (by omega)
    unfold down
    rw [show 63 - (64 - k) = k - 1 by omega, Nat.testBit_eq_decide_div_mod_eq, decide_eq_true_iff]
    have h2 : x / 2 ^ (k - 1) < 2 := by
      rw [Nat.div_lt_iff_lt_mul (Nat.two_pow_pos _), ← Nat.pow_succ', show (k - 1).succ = k by omega]
      exact hlt
    omega
end Go.Proofs.Ytfbdnnnmjefhbaa.M
