/- Plain mathematics: bits of a number below 2^64, sums of bits, rotations. No program stands in it. The numbers that bytes are. How the model's words for shifts, masks and sums come to plain numbers. The contracts of Rot of package bit and of Mod, Power, Bit, Low, Part, Rot of the reference: they only compute. Slices of bytes that read as lists; the contracts of Get of package pack and of Get of the reference. Plain mathematics of layer 4: mixing a number below 2^64, and back; the hashes of words one behind the other. No program stands in it. What Word, Unword, Sum and Below answer, in integers, and how the model's words come to it. The contracts of Xor, Down, Stir, Word, Below of the reference and of Below of package mix: they only compute. The contracts of steps, do and Word of package mix. -/
import Derived.Test.YtnpbmihbmilkbaaGreatG16
import Init
import Derived.WalkKit
import Derived.Laws.BitsAllLaws
import Derived.Lib.Hide
import Derived.Test.YtnpbmihbmilkbaaGreatProg
import Derived.WalkSpells
import Derived.WalkLawsBesides
import Derived.Deep.QuietTactic
import Derived.BigQuiet
import Derived.Below
import Derived.Laws.OwnMore
import Derived.Deep.Draws
import Derived.Deep.OwnRows
import Derived.Deep.AppendLies
import Derived.Laws.Rows
namespace Go.Proofs.YtnpbmihbmilkbaaGreat.Mx.M
theorem add_bit (a p j : Nat) (h : a.testBit p = false) : (a + 2 ^ p).testBit j = (a.testBit j || decide (p = j)) := by
  have hd : a = 2 ^ (p + 1) * (a / 2 ^ (p + 1)) + a % 2 ^ p := by
    have h1 := Nat.div_add_mod a (2 ^ (p + 1))
    have h2 : a % 2 ^ (p + 1) = a % 2 ^ p := by
      apply Nat.eq_of_testBit_eq; intro i
      rw [Nat.testBit_mod_two_pow, Nat.testBit_mod_two_pow]
      by_cases hi : i = p
      · subst hi; simp [h]
      · by_cases h3 : i < p
        · simp [h3, Nat.lt_succ_of_lt h3]
        · have : ¬ i < p + 1 := by omega
          simp [h3, this]
    rw [h2] at h1; exact h1.symm
  have hlt : a % 2 ^ p < 2 ^ p := Nat.mod_lt _ (Nat.two_pow_pos p)
  have e : a + 2 ^ p = 2 ^ p * (2 * (a / 2 ^ (p + 1)) + 1) + a % 2 ^ p := by
    conv => lhs; rw [hd]
    rw [Nat.pow_succ, Nat.mul_add, Nat.mul_one, ← Nat.mul_assoc]; omega
  have e2 : a = 2 ^ p * (2 * (a / 2 ^ (p + 1))) + a % 2 ^ p := by
    conv => lhs; rw [hd]
    rw [Nat.pow_succ, ← Nat.mul_assoc]
  rw [e, Nat.two_pow_add_eq_or_of_lt hlt, Nat.testBit_or]
  conv => rhs; rw [e2]
  rw [Nat.two_pow_add_eq_or_of_lt hlt, Nat.testBit_or]
  rw [Nat.mul_comm (2 ^ p), Nat.mul_comm (2 ^ p), Nat.testBit_mul_two_pow, Nat.testBit_mul_two_pow]
  by_cases hj : p ≤ j
  · by_cases hq : p = j
    · subst hq; simp [Nat.testBit_zero]
    · obtain ⟨k, hk⟩ : ∃ k, j - p = k + 1 := ⟨j - p - 1, by omega⟩
      rw [hk, Nat.testBit_succ, Nat.testBit_succ]
      have d1 : (2 * (a / 2 ^ (p + 1)) + 1) / 2 = a / 2 ^ (p + 1) := by omega
      have d2 : (2 * (a / 2 ^ (p + 1))) / 2 = a / 2 ^ (p + 1) := by omega
      rw [d1, d2]; simp [hq]
  · have hq : p ≠ j := by omega
    simp [hj, hq]
/-- The number whose bit p k is f k, for each k below n. -/
def acc (f : Nat → Bool) (p : Nat → Nat) : Nat → Nat
  | 0 => 0
  | k + 1 => acc f p k + (f k).toNat * 2 ^ p k
theorem acc_bit (f : Nat → Bool) (p q : Nat → Nat) (hp : ∀ k, k < 64 → p k < 64) (hq : ∀ k, k < 64 → q (p k) = k) (hpq : ∀ j, j < 64 → p (q j) = j) (k : Nat) (hk : k ≤ 64) (j : Nat) :
    (acc f p k).testBit j = (decide (j < 64) && decide (q j < k) && f (q j)) := by
  induction k generalizing j with
  | zero => simp [acc]
  | succ k ih =>
    have hk64 : k < 64 := by omega
    have hz : (acc f p k).testBit (p k) = false := by
      rw [ih (by omega), hq k hk64]; simp
    have hj : ∀ b : Bool, (decide (j < 64) && decide (q j < k) && f (q j) || (b && decide (p k = j))) = (decide (j < 64) && decide (q j < k + 1) && (if q j = k then (if j < 64 then b else false) else f (q j))) := by
      intro b
      by_cases h64 : j < 64
      · by_cases he : q j = k
        · have h1 : p k = j := by rw [← he]; exact hpq j h64
          simp [h64, he, h1]
        · have h1 : ¬ p k = j := by intro h; apply he; rw [← h]; exact hq k hk64
          have h2 : (q j < k + 1) ↔ (q j < k) := by omega
          simp [h64, he, h1, h2]
      · have h1 : ¬ p k = j := by have := hp k hk64; omega
        simp [h64, h1]
    have hfin : (decide (j < 64) && decide (q j < k + 1) && (if q j = k then (if j < 64 then f k else false) else f (q j))) = (decide (j < 64) && decide (q j < k + 1) && f (q j)) := by
      by_cases h64 : j < 64
      · by_cases he : q j = k
        · simp [h64, he]
        · simp [h64, he]
      · simp [h64]
    rw [← hfin, ← hj (f k), ← ih (by omega) j]
    cases hb : f k with
    | false => simp [acc, hb]
    | true => simp only [acc, hb, Bool.toNat_true, Nat.one_mul, add_bit _ _ _ hz, Bool.true_and]
def gather (f : Nat → Bool) : Nat := acc f id 64
theorem gather_bit (f : Nat → Bool) (j : Nat) : (gather f).testBit j = (decide (j < 64) && f j) := by
  unfold gather
  rw [acc_bit f id id (fun _ h => h) (fun _ _ => rfl) (fun _ _ => rfl) 64 (Nat.le_refl _)]
  simp
theorem lt64 {n : Nat} (h : ∀ j, 64 ≤ j → n.testBit j = false) : n < 2 ^ 64 := Nat.lt_pow_two_of_testBit n h
theorem gather_lt (f : Nat → Bool) : gather f < 2 ^ 64 := lt64 (fun j hj => by rw [gather_bit]; simp; omega)
theorem gather_eq {f : Nat → Bool} {n : Nat} (hn : n < 2 ^ 64) (h : ∀ j, j < 64 → n.testBit j = f j) : n = gather f := by
  apply Nat.eq_of_testBit_eq; intro j
  rw [gather_bit]
  by_cases hj : j < 64
  · simp [hj, h j hj]
  · simp [hj]; exact Nat.testBit_lt_two_pow (Nat.lt_of_lt_of_le hn (Nat.pow_le_pow_right (by omega) (by omega)))
theorem acc_lt (f : Nat → Bool) (p q : Nat → Nat) (hp : ∀ k, k < 64 → p k < 64) (hq : ∀ k, k < 64 → q (p k) = k) (hpq : ∀ j, j < 64 → p (q j) = j) (k : Nat) (hk : k ≤ 64) : acc f p k < 2 ^ 64 :=
  lt64 (fun j hj => by rw [acc_bit f p q hp hq hpq k hk]; simp; omega)
theorem acc_all (f : Nat → Bool) (p q : Nat → Nat) (hp : ∀ k, k < 64 → p k < 64) (hq : ∀ k, k < 64 → q (p k) = k) (hpq : ∀ j, j < 64 → p (q j) = j) (hq2 : ∀ j, j < 64 → q j < 64) : acc f p 64 = gather (fun j => f (q j)) :=
  gather_eq (acc_lt f p q hp hq hpq 64 (Nat.le_refl _)) (fun j hj => by rw [acc_bit f p q hp hq hpq 64 (Nat.le_refl _)]; simp [hj, hq2 j hj])
/-- Rotated to the left by r. -/
def rot (x r : Nat) : Nat := gather (fun j => x.testBit ((j + (64 - r)) % 64))
theorem rot_lt (x r : Nat) : rot x r < 2 ^ 64 := gather_lt _
theorem high (x : Nat) (hx : x < 2 ^ 64) (j : Nat) (hj : 64 ≤ j) : x.testBit j = false :=
  Nat.testBit_lt_two_pow (Nat.lt_of_lt_of_le hx (Nat.pow_le_pow_right (by omega) hj))
theorem rot_left (x r : Nat) (hx : x < 2 ^ 64) (hr : r < 64) : (x * 2 ^ r % 2 ^ 64) ||| (x / 2 ^ (64 - r)) = rot x r := by
  apply gather_eq
  · exact Nat.or_lt_two_pow (Nat.mod_lt _ (Nat.two_pow_pos _)) (Nat.lt_of_le_of_lt (Nat.div_le_self _ _) hx)
  · intro j hj
    rw [Nat.testBit_or, Nat.testBit_mod_two_pow, Nat.testBit_mul_two_pow, Nat.testBit_div_two_pow]
    by_cases h : r ≤ j
    · have e : (j + (64 - r)) % 64 = j - r := by omega
      rw [e, high x hx (j + (64 - r)) (by omega)]; simp [h, hj]
    · have e : (j + (64 - r)) % 64 = j + (64 - r) := by omega
      rw [e]; simp [h]
theorem rot_right (x m : Nat) (hx : x < 2 ^ 64) (hm : m < 64) : (x / 2 ^ m) ||| (x * 2 ^ (64 - m) % 2 ^ 64) = rot x ((64 - m) % 64) := by
  apply gather_eq
  · exact Nat.or_lt_two_pow (Nat.lt_of_le_of_lt (Nat.div_le_self _ _) hx) (Nat.mod_lt _ (Nat.two_pow_pos _))
  · intro j hj
    rw [Nat.testBit_or, Nat.testBit_mod_two_pow, Nat.testBit_mul_two_pow, Nat.testBit_div_two_pow]
    by_cases h : 64 - m ≤ j
    · have e : (j + (64 - (64 - m) % 64)) % 64 = j - (64 - m) := by omega
      rw [e, high x hx (j + m) (by omega)]; simp [h, hj]
    · have e : (j + (64 - (64 - m) % 64)) % 64 = j + m := by omega
      rw [e]; simp [h]
theorem rot_acc (x r : Nat) (hr : r < 64) : acc x.testBit (fun k => (k + r) % 64) 64 = rot x r :=
  acc_all _ _ (fun j => (j + (64 - r)) % 64) (fun k _ => by omega) (fun k _ => by omega) (fun j _ => by omega) (fun j _ => by omega)
theorem rot_acc_lt (x r : Nat) (hr : r < 64) (k : Nat) (hk : k ≤ 64) : acc x.testBit (fun k => (k + r) % 64) k < 2 ^ 64 :=
  acc_lt _ _ (fun j => (j + (64 - r)) % 64) (fun k _ => by omega) (fun k _ => by omega) (fun j _ => by omega) k hk
end Go.Proofs.YtnpbmihbmilkbaaGreat.Mx.M
namespace Go.Proofs.YtnpbmihbmilkbaaGreat.Mx.M
theorem pow_pos (k : Nat) : (0 : Int) < 2 ^ k := by have := Int.pow_pos (n := (2 : Int)) (m := k) (by omega); exact this
theorem pow_add' (a b : Nat) : (2 : Int) ^ (a + b) = 2 ^ a * 2 ^ b := Int.pow_add ..
theorem pow8 (k : Nat) : (2 : Int) ^ (8 * (k + 1)) = 2 ^ (8 * k) * 256 := by rw [Nat.mul_succ, pow_add']; rfl
theorem pow_le {a b : Nat} (h : a ≤ b) : (2 : Int) ^ a ≤ 2 ^ b := by
  obtain ⟨c, rfl⟩ := Nat.exists_eq_add_of_le h
  rw [pow_add']
  have h1 := pow_pos a
  have h2 := pow_pos c
  have := Int.mul_le_mul_of_nonneg_left (show (1 : Int) ≤ 2 ^ c by omega) (show (0 : Int) ≤ 2 ^ a by omega)
  omega
def Bytes (l : List Int) : Prop := ∀ x ∈ l, 0 ≤ x ∧ x < 256
theorem Bytes.at_ {l : List Int} (h : Bytes l) (k : Nat) (hk : k < l.length) : 0 ≤ l[k] ∧ l[k] < 256 := h _ (List.getElem_mem hk)
theorem Bytes.app {l m : List Int} (h : Bytes l) (h2 : Bytes m) : Bytes (l ++ m) := fun x hx => (List.mem_append.1 hx).elim (h x) (h2 x)
theorem Bytes.take {l : List Int} (h : Bytes l) (k : Nat) : Bytes (l.take k) := fun x hx => h x (List.mem_of_mem_take hx)
theorem Bytes.drop {l : List Int} (h : Bytes l) (k : Nat) : Bytes (l.drop k) := fun x hx => h x (List.mem_of_mem_drop hx)
/-- The number whose bytes these are, the least significant one first. -/
def get : List Int → Int
  | [] => 0
  | c :: r => c + 256 * get r
theorem get_range (l : List Int) (h : Bytes l) : 0 ≤ get l ∧ get l < 2 ^ (8 * l.length) := by
  induction l with
  | nil => simp [get]
  | cons c r ih =>
    have h1 := h c (List.mem_cons_self ..)
    have h2 := ih (fun x hx => h x (List.mem_cons_of_mem _ hx))
    rw [get, List.length_cons, pow8]
    omega
theorem get_snoc (l : List Int) (c : Int) : get (l ++ [c]) = get l + c * 2 ^ (8 * l.length) := by
  induction l with
  | nil => simp [get]
  | cons d r ih =>
    rw [List.cons_append, get, ih, get, List.length_cons, pow8, Int.mul_add, Int.add_assoc, ← Int.mul_assoc, Int.mul_comm (2 ^ (8 * r.length)) 256, ← Int.mul_assoc, Int.mul_comm 256 c]
theorem get_take (l : List Int) (k : Nat) (hk : k < l.length) : get (l.take (k + 1)) = get (l.take k) + l[k] * 2 ^ (8 * k) := by
  rw [List.take_succ_eq_append_getElem hk, get_snoc, List.length_take, Nat.min_eq_left (by omega)]
theorem get_drop (l : List Int) (k : Nat) (hk : k < l.length) : get (l.drop k) = 256 * get (l.drop (k + 1)) + l[k] := by
  rw [List.drop_eq_getElem_cons hk, get]; omega
theorem get_small (l : List Int) (h : Bytes l) (hl : l.length ≤ 8) : 0 ≤ get l ∧ get l < 18446744073709551616 := by
  have h1 := get_range l h
  have h2 := pow_le (show 8 * l.length ≤ 64 by omega)
  have h3 : (2 : Int) ^ 64 = 18446744073709551616 := by decide
  omega
end Go.Proofs.YtnpbmihbmilkbaaGreat.Mx.M
namespace Go.Proofs.YtnpbmihbmilkbaaGreat.Mx
open Go.RowKit
def lo (x n : Int) : Int := if n < 1 then 0 else if 63 < n then x else x % 2 ^ n.toNat
def part (x f n : Int) : Int := if 63 < f then 0 else lo (x / 2 ^ (max f 0).toNat) n
def rotI (x n : Int) : Int := ((M.rot x.toNat (n % 64).toNat : Nat) : Int)
def bitI (x : Int) (k : Nat) : Int := (((x.toNat.testBit k).toNat : Nat) : Int)
def U64 (x : Int) : Prop := 0 ≤ x ∧ x < 18446744073709551616
theorem nat64 {x : Int} (h0 : 0 ≤ x) (h1 : x < 18446744073709551616) : x.toNat < 2 ^ 64 := by omega
theorem rotI_U64 (x n : Int) : U64 (rotI x n) := by have := M.rot_lt x.toNat (n % 64).toNat; unfold rotI U64; omega
theorem pow_pos (k : Nat) : (0 : Int) < 2 ^ k := by have := Int.pow_pos (n := (2 : Int)) (m := k) (by omega); exact this
theorem pow_lt (k : Nat) (h : k < 64) : (2 : Int) ^ k < 18446744073709551616 := by
  have : (2 : Nat) ^ k < 2 ^ 64 := Nat.pow_lt_pow_right (by omega) h
  have e : ((2 ^ k : Nat) : Int) = (2 : Int) ^ k := by rw [Int.natCast_pow]; rfl
  rw [← e]; omega
theorem pow_nat (k : Nat) : ((2 ^ k : Nat) : Int) = (2 : Int) ^ k := by rw [Int.natCast_pow]; rfl
theorem div_U64 (x : Int) (k : Nat) (h0 : 0 ≤ x) (h1 : x < 18446744073709551616) : U64 (x / 2 ^ k) := by
  have hp := pow_pos k
  have h2 := Int.ediv_nonneg h0 (show 0 ≤ (2 : Int) ^ k by omega)
  have h3 : x / 2 ^ k ≤ x := Int.ediv_le_self _ h0
  unfold U64; omega
theorem lo_zero (n : Int) : lo 0 n = 0 := by unfold lo; split; rfl; split; rfl; simp
theorem part_big (x f n : Int) (h : 63 < f) : part x f n = 0 := by unfold part; rw [if_pos h]
theorem part_small (x f n : Int) (h : f ≤ 63) : part x f n = lo (x / 2 ^ (max f 0).toNat) n := by unfold part; rw [if_neg (by omega)]
theorem big_div (x : Int) (h0 : 0 ≤ x) (h1 : x < 18446744073709551616) : x / 18446744073709551616 = 0 := by omega
theorem mul_nat (x : Int) (k : Nat) (h0 : 0 ≤ x) : IntKind.u64.wrap (x * 2 ^ k) = ((x.toNat * 2 ^ k % 2 ^ 64 : Nat) : Int) := by
  rw [IntKind.wrap_u64, Int.natCast_emod, Int.natCast_mul, pow_nat, Int.toNat_of_nonneg h0]; rfl
theorem div_nat (x : Int) (k : Nat) (h0 : 0 ≤ x) : x / 2 ^ k = ((x.toNat / 2 ^ k : Nat) : Int) := by
  rw [Int.natCast_ediv, pow_nat, Int.toNat_of_nonneg h0]
theorem rot_left (x : Int) (r : Nat) (h0 : 0 ≤ x) (h1 : x < 18446744073709551616) (hr : r < 64) :
    bits .or .u64 (IntKind.u64.wrap (x * 2 ^ r)) (x / 2 ^ (64 - r)) = ((M.rot x.toNat r : Nat) : Int) := by
  have hx := nat64 h0 h1
  have hm : x.toNat * 2 ^ r % 2 ^ 64 < 2 ^ 64 := Nat.mod_lt _ (Nat.two_pow_pos _)
  have hd : x.toNat / 2 ^ (64 - r) ≤ x.toNat := Nat.div_le_self _ _
  rw [mul_nat x r h0, div_nat x _ h0, u64_or_nat _ _ (by omega) (by omega), M.rot_left x.toNat r hx hr]
theorem rot_right (x : Int) (m : Nat) (h0 : 0 ≤ x) (h1 : x < 18446744073709551616) (hm : m < 64) :
    bits .or .u64 (x / 2 ^ m) (IntKind.u64.wrap (x * 2 ^ (64 - m))) = ((M.rot x.toNat ((64 - m) % 64) : Nat) : Int) := by
  have hx := nat64 h0 h1
  have hm2 : x.toNat * 2 ^ (64 - m) % 2 ^ 64 < 2 ^ 64 := Nat.mod_lt _ (Nat.two_pow_pos _)
  have hd : x.toNat / 2 ^ m ≤ x.toNat := Nat.div_le_self _ _
  rw [mul_nat x _ h0, div_nat x _ h0, u64_or_nat _ _ (by omega) (by omega), M.rot_right x.toNat m hx hm]
theorem or_add (x c : Int) (k : Nat) (h0 : 0 ≤ x) (h1 : x < 2 ^ k) (hc : 0 ≤ c) (hx : x < 18446744073709551616) (hm : c * 2 ^ k < 18446744073709551616) : bits .or .u64 x (IntKind.u64.wrap (c * 2 ^ k)) = x + c * 2 ^ k := by
  have hp := pow_pos k
  have h2 := Int.mul_nonneg hc (show (0 : Int) ≤ 2 ^ k by omega)
  have e : IntKind.u64.wrap (c * 2 ^ k) = c * 2 ^ k := by rw [IntKind.wrap_u64]; omega
  rw [e, u64_or _ _ h0 hx h2 hm, Nat.or_comm]
  obtain ⟨d, rfl⟩ := Int.eq_ofNat_of_zero_le hc
  have e2 : ((d : Int) * 2 ^ k).toNat = d * 2 ^ k := by rw [← pow_nat, ← Int.natCast_mul, Int.toNat_natCast]
  have h3 : x.toNat < 2 ^ k := by have := pow_nat k; omega
  rw [e2, nat_join k _ _ (Nat.mul_mod_left ..) h3, Int.natCast_add, Int.natCast_mul, pow_nat]
  omega
end Go.Proofs.YtnpbmihbmilkbaaGreat.Mx
namespace Go.Proofs.YtnpbmihbmilkbaaGreat.Mx
open Go.RowKit
theorem ret_int {k : IntKind} {a b : Int} (h : a = b) : Ending.returned (.int k a) = .returned (.int k b) := by rw [h]
theorem ret_bool {a b : Bool} (h : a = b) : Ending.returned (.bool a) = .returned (.bool b) := by rw [h]
theorem left_is (x n r : Int) (w : World) (h0 : 0 ≤ n) (h1 : n ≤ 64) (hr : Hid (IntKind.u64.wrap (x * 2 ^ n.toNat) = r)) :
    Calls Tryz.prog 101 #[.int .u64 x, .int .i64 n] w fun e w' => e = .returned (.int .u64 r) ∧ w = w' := by
  go_enter Tryz.func101, Tryz.ntmps101
  go_wp2
  go_ret
  exact ⟨ret_int hr.out, rfl⟩
theorem right_is (x n r : Int) (w : World) (h0 : 0 ≤ n) (h1 : n ≤ 64) (hr : Hid (x / 2 ^ n.toNat = r)) :
    Calls Tryz.prog 102 #[.int .u64 x, .int .i64 n] w fun e w' => e = .returned (.int .u64 r) ∧ w = w' := by
  go_enter Tryz.func102, Tryz.ntmps102
  go_wp2
  go_ret
  exact ⟨ret_int hr.out, rfl⟩
theorem mod_spell (n : Int) : (wrap64 (n.tmod 64 + 64)).tmod 64 = n % 64 := by
  have h1 : -64 < n.tmod 64 ∧ n.tmod 64 < 64 := by
    have := Int.tmod_lt_of_pos n (show (0 : Int) < 64 by omega)
    have h2 := Int.lt_tmod_of_pos n (show (0 : Int) < 64 by omega)
    omega
  have e : wrap64 (n.tmod 64 + 64) = n.tmod 64 + 64 := by
    unfold wrap64; omega
  have e2 : n.tmod 64 = n - 64 * n.tdiv 64 := Int.tmod_def n 64
  rw [e, Int.tmod_eq_emod_of_nonneg (by omega)]; omega
theorem mod_is (n r : Int) (w : World) (hr : Hid (n % 64 = r)) :
    Calls Tryz.prog 88 #[.int .i64 n] w fun e w' => e = .returned (.int .i64 r) ∧ w = w' := by
  have H := Lib.hid (mod_spell n)
  go_enter Tryz.func88, Tryz.ntmps88
  go_wp2
  go_ret
  exact ⟨ret_int (H.out.trans hr.out), rfl⟩
theorem power_is (n : Nat) (r : Int) (w : World) (h : n < 64) (hr : Hid ((2 : Int) ^ n = r)) :
    Calls Tryz.prog 45 #[.int .i64 n] w fun e w' => e = .returned (.int .u64 r) ∧ w = w' := by
  go_enter Tryz.func45, Tryz.ntmps45
  go_wp2
  go_loop [3, 4] (fun p i => ∃ (k : Nat) (v : Int), k ≤ n ∧ i = .int .i64 k ∧ p = .int .u64 v ∧ Hid ((2 : Int) ^ k = v)) (fun _ i => n - (intOf i).toNat)
  case atStart => exact ⟨0, 1, Nat.zero_le _, rfl, rfl, Lib.hid rfl⟩
  case round =>
    obtain ⟨k, v, hk, rfl, rfl, hv⟩ := hrel
    by_cases hlt : k < n
    · have hv2 : Hid ((2 : Int) ^ (k + 1) = IntKind.u64.wrap (v * 2)) := Lib.hid (by
        rw [← hv.out, IntKind.wrap_u64, ← Int.pow_succ]; have := pow_lt (k + 1) (by omega); have h2 := pow_pos (k + 1); omega)
      go_wp2
      go_round
      case rel => exact ⟨k + 1, _, by omega, by go_num, rfl, hv2⟩
      case measure => simp [intOf]; omega
    · obtain rfl : k = n := by omega
      go_wp2
      go_ret
      exact ⟨ret_int (hv.out.symm.trans hr.out), rfl⟩
theorem div_succ (x : Int) (k : Nat) : x / 2 ^ (k + 1) = x / 2 ^ k / 2 := by
  rw [Int.pow_succ, Int.ediv_ediv_of_nonneg (by have := pow_pos k; omega)]
theorem bit_spell (x : Int) (k : Nat) (h0 : 0 ≤ x) : x / 2 ^ k % 2 = bitI x k := by
  unfold bitI; rw [Nat.toNat_testBit, div_nat x k h0]; omega
theorem bit_is (x : Int) (n : Nat) (r : Int) (w : World) (h0 : 0 ≤ x) (h1 : x < 18446744073709551616) (h : n < 64) (hr : Hid (bitI x n = r)) :
    Calls Tryz.prog 87 #[.int .u64 x, .int .i64 n] w fun e w' => e = .returned (.int .u64 r) ∧ w = w' := by
  go_enter Tryz.func87, Tryz.ntmps87
  go_wp2
  go_loop [0, 5] (fun p i => ∃ (k : Nat) (v : Int), k ≤ n ∧ i = .int .i64 k ∧ p = .int .u64 v ∧ 0 ≤ v ∧ v < 18446744073709551616 ∧ Hid (x / 2 ^ k = v)) (fun _ i => n - (intOf i).toNat)
  case atStart => exact ⟨0, x, Nat.zero_le _, rfl, rfl, h0, h1, Lib.hid (by simp)⟩
  case round =>
    obtain ⟨k, v, hk, rfl, rfl, hv0, hv1, hv⟩ := hrel
    by_cases hlt : k < n
    · have hv2 : Hid (x / 2 ^ (k + 1) = v / 2) := Lib.hid (by rw [div_succ, hv.out])
      go_wp2
      go_round
      case rel => exact ⟨k + 1, _, by omega, by go_num, rfl, by omega, by omega, hv2⟩
      case measure => simp [intOf]; omega
    · obtain rfl : k = n := by omega
      have H := Lib.hid (bit_spell x k h0)
      go_wp2
      go_ret
      exact ⟨ret_int (by rw [← hv.out, H.out, hr.out]), rfl⟩
theorem max_low (f : Int) (h : f ≤ 0) : max f 0 = 0 := Int.max_eq_right h
theorem max_up (f : Int) (h : 0 ≤ f) : max f 0 = f := Int.max_eq_left h
theorem refLow_is (x n r : Int) (w : World) (h0 : 0 ≤ x) (h1 : x < 18446744073709551616) (hr : Hid (lo x n = r)) :
    Calls Tryz.prog 44 #[.int .u64 x, .int .i64 n] w fun e w' => e = .returned (.int .u64 r) ∧ w = w' := by
  by_cases hn : n < 1
  · have H := Lib.hid (show lo x n = 0 by unfold lo; rw [if_pos hn])
    go_enter Tryz.func44, Tryz.ntmps44
    go_wp2
    go_ret
    exact ⟨ret_int (H.out.symm.trans hr.out), rfl⟩
  · by_cases hn2 : 63 < n
    · have H := Lib.hid (show lo x n = x by unfold lo; rw [if_neg hn, if_pos hn2])
      go_enter Tryz.func44, Tryz.ntmps44
      go_wp2
      go_ret
      exact ⟨ret_int (H.out.symm.trans hr.out), rfl⟩
    · have H := Lib.hid (show lo x n = x % 2 ^ n.toNat by unfold lo; rw [if_neg hn, if_neg hn2])
      obtain ⟨k, rfl⟩ := Int.eq_ofNat_of_zero_le (show 0 ≤ n by omega)
      obtain ⟨p, hp⟩ : ∃ p : Int, (2 : Int) ^ k = p := ⟨_, rfl⟩
      have hp0 : 0 < p := by rw [← hp]; exact pow_pos k
      have hp1 : p < 18446744073709551616 := by rw [← hp]; exact pow_lt k (by omega)
      have hpz : (p == 0) = false := by simp; omega
      have HP := Lib.hid hp
      clear hp
      go_enter Tryz.func44, Tryz.ntmps44
      go_wp2_with fail
      refine (power_is k p _ (by omega) HP).mono ?_
      rintro e w' ⟨rfl, rfl⟩
      go_wp2_with fail
      go_ret
      exact ⟨ret_int (by rw [← hr.out, H.out, Int.toNat_natCast, HP.out]), rfl⟩
theorem refPart_is (x f n r : Int) (w : World) (h0 : 0 ≤ x) (h1 : x < 18446744073709551616) (hr : Hid (part x f n = r)) :
    Calls Tryz.prog 31 #[.int .u64 x, .int .i64 f, .int .i64 n] w fun e w' => e = .returned (.int .u64 r) ∧ w = w' := by
  by_cases hf : 63 < f
  · have H := Lib.hid (part_big x f n hf)
    go_enter Tryz.func31, Tryz.ntmps31
    go_wp2_with fail
    go_ret
    exact ⟨ret_int (H.out.symm.trans hr.out), rfl⟩
  · by_cases hneg : f < 0
    · have H2 := Lib.hid (show lo x n = r by rw [← hr.out, part_small x f n (by omega), max_low f (by omega)]; simp)
      go_enter Tryz.func31, Tryz.ntmps31
      go_wp2_with fail
      refine (power_is 0 1 _ (by omega) (Lib.hid rfl)).mono ?_
      rintro e w' ⟨rfl, rfl⟩
      go_wp2_with fail
      refine (refLow_is x n r _ h0 h1 H2).mono ?_
      rintro e w' ⟨rfl, rfl⟩
      go_wp2_with fail
      go_ret
      exact ⟨rfl, rfl⟩
    · obtain ⟨m, rfl⟩ := Int.eq_ofNat_of_zero_le (show 0 ≤ f by omega)
      have hm2 : m < 64 := by omega
      obtain ⟨p, hp⟩ : ∃ p : Int, (2 : Int) ^ m = p := ⟨_, rfl⟩
      have hp0 : 0 < p := by rw [← hp]; exact pow_pos m
      have hp1 : p < 18446744073709551616 := by rw [← hp]; exact pow_lt m hm2
      have hpz : (p == 0) = false := by simp; omega
      have HP := Lib.hid hp
      have hd := div_U64 x m h0 h1
      rw [hp] at hd
      have H2 := Lib.hid (show lo (x / p) n = r by rw [← hr.out, part_small x m n (by omega), max_up m (by omega), Int.toNat_natCast, HP.out])
      clear hp
      go_enter Tryz.func31, Tryz.ntmps31
      go_wp2_with fail
      refine (power_is m p _ (by omega) HP).mono ?_
      rintro e w' ⟨rfl, rfl⟩
      go_wp2_with fail
      refine (refLow_is (x / p) n r _ hd.1 hd.2 H2).mono ?_
      rintro e w' ⟨rfl, rfl⟩
      go_wp2_with fail
      go_ret
      exact ⟨rfl, rfl⟩
theorem rotI_pos (x n : Int) (h0 : 0 ≤ x) (h1 : x < 18446744073709551616) :
    bits .or .u64 (IntKind.u64.wrap (x * 2 ^ (n % 64).toNat)) (x / 2 ^ (64 - n % 64).toNat) = rotI x n := by
  have e : (64 - n % 64).toNat = 64 - (n % 64).toNat := by omega
  rw [e, rot_left x _ h0 h1 (by omega)]; rfl
theorem rotI_neg (x n m : Int) (h0 : 0 ≤ x) (h1 : x < 18446744073709551616) (hm : -n.tmod 64 = m) (hn : n < 0) :
    bits .or .u64 (x / 2 ^ m.toNat) (IntKind.u64.wrap (x * 2 ^ (64 - m).toNat)) = rotI x n := by
  have h2 := Int.tmod_lt_of_pos n (show (0 : Int) < 64 by omega)
  have h3 := Int.lt_tmod_of_pos n (show (0 : Int) < 64 by omega)
  have h4 : 0 ≤ (-n).tmod 64 := Int.tmod_nonneg _ (by omega)
  rw [Int.neg_tmod] at h4
  have e2 : n.tmod 64 = n - 64 * n.tdiv 64 := Int.tmod_def n 64
  have e : (64 - m).toNat = 64 - m.toNat := by omega
  rw [e, rot_right x _ h0 h1 (by omega)]
  unfold rotI
  rw [show (64 - m.toNat) % 64 = (n % 64).toNat by omega]
theorem rot_is (x n r : Int) (w : World) (h0 : 0 ≤ x) (h1 : x < 18446744073709551616) (hn0 : -9223372036854775808 ≤ n) (hn1 : n ≤ 9223372036854775807) (hr : Hid (rotI x n = r)) :
    Calls Tryz.prog 72 #[.int .u64 x, .int .i64 n] w fun e w' => e = .returned (.int .u64 r) ∧ w = w' := by
  by_cases hn : 0 ≤ n
  · have H := Lib.hid (rotI_pos x n h0 h1)
    have hm0 : 0 ≤ n % 64 := by omega
    have hm1 : n % 64 < 64 := by omega
    have hlt : decide (n % 64 < 0) = false := by simp; omega
    go_enter Tryz.func72, Tryz.ntmps72
    go_wp2_with fail
    refine (left_is x (n % 64) _ _ (by omega) (by omega) (Lib.hid rfl)).mono ?_
    rintro e w' ⟨rfl, rfl⟩
    go_wp2_with fail
    refine (right_is x (64 - n % 64) _ _ (by omega) (by omega) (Lib.hid rfl)).mono ?_
    rintro e w' ⟨rfl, rfl⟩
    go_wp2_with fail
    go_ret
    exact ⟨ret_int (H.out.trans hr.out), rfl⟩
  · have hng : n < 0 := by omega
    have h2 := Int.tmod_lt_of_pos n (show (0 : Int) < 64 by omega)
    have h3 := Int.lt_tmod_of_pos n (show (0 : Int) < 64 by omega)
    have h4 : n.tmod 64 ≤ 0 := by have h := Int.tmod_nonneg (a := -n) 64 (by omega); rw [Int.neg_tmod] at h; omega
    have H := Lib.hid (rotI_neg x n (-n.tmod 64) h0 h1 rfl hng)
    rw [show (64 - -n.tmod 64) = 64 + n.tmod 64 by omega] at H
    by_cases ht : n.tmod 64 < 0
    · go_enter Tryz.func72, Tryz.ntmps72
      go_wp2_with fail
      refine (right_is x (-n.tmod 64) _ _ (by omega) (by omega) (Lib.hid rfl)).mono ?_
      rintro e w' ⟨rfl, rfl⟩
      go_wp2_with fail
      refine (left_is x (64 + n.tmod 64) _ _ (by omega) (by omega) (Lib.hid rfl)).mono ?_
      rintro e w' ⟨rfl, rfl⟩
      go_wp2_with fail
      go_ret
      exact ⟨ret_int (H.out.trans hr.out), rfl⟩
    · have H2 : Hid (bits .or .u64 (IntKind.u64.wrap (x * 2 ^ (n.tmod 64).toNat)) (x / 2 ^ (64 - n.tmod 64).toNat) = r) := Lib.hid (by
        have e : n.tmod 64 = 0 := by omega
        have e2 : n.tmod 64 = n - 64 * n.tdiv 64 := Int.tmod_def n 64
        have e3 : n % 64 = 0 := by omega
        have e4 := rotI_pos x n h0 h1
        rw [e3] at e4
        rw [e, e4, hr.out])
      go_enter Tryz.func72, Tryz.ntmps72
      go_wp2_with fail
      refine (left_is x (n.tmod 64) _ _ (by omega) (by omega) (Lib.hid rfl)).mono ?_
      rintro e w' ⟨rfl, rfl⟩
      go_wp2_with fail
      refine (right_is x (64 - n.tmod 64) _ _ (by omega) (by omega) (Lib.hid rfl)).mono ?_
      rintro e w' ⟨rfl, rfl⟩
      go_wp2_with fail
      go_ret
      exact ⟨ret_int H2.out, rfl⟩
theorem acc_spell (x : Int) (p : Nat → Nat) (k : Nat) (o b q : Int) (ho : ((M.acc x.toNat.testBit p k : Nat) : Int) = o) (hb : bitI x k = b) (hq : (2 : Int) ^ p k = q) (hlt : M.acc x.toNat.testBit p (k + 1) < 2 ^ 64) :
    ((M.acc x.toNat.testBit p (k + 1) : Nat) : Int) = IntKind.u64.wrap (o + IntKind.u64.wrap (b * q)) := by
  have e : ((M.acc x.toNat.testBit p (k + 1) : Nat) : Int) = o + b * q := by
    show ((M.acc x.toNat.testBit p k + (x.toNat.testBit k).toNat * 2 ^ p k : Nat) : Int) = _
    rw [Int.natCast_add, Int.natCast_mul, pow_nat, ho, hq]
    unfold bitI at hb; rw [hb]
  rw [IntKind.wrap_u64, IntKind.wrap_u64]
  have h2 : ((M.acc x.toNat.testBit p (k + 1) : Nat) : Int) < 18446744073709551616 := by omega
  have h3 : 0 ≤ ((M.acc x.toNat.testBit p (k + 1) : Nat) : Int) := by omega
  rw [e] at h2 h3
  rw [e]
  generalize b * q = z at *
  omega
theorem refRot_is (x n r : Int) (w : World) (h0 : 0 ≤ x) (h1 : x < 18446744073709551616) (hr : Hid (rotI x n = r)) :
    Calls Tryz.prog 58 #[.int .u64 x, .int .i64 n] w fun e w' => e = .returned (.int .u64 r) ∧ w = w' := by
  obtain ⟨m, hm0⟩ : ∃ m : Nat, n % 64 = (m : Int) := ⟨(n % 64).toNat, by omega⟩
  have hm64 : m < 64 := by omega
  have hm := Lib.hid hm0
  have hfin := Lib.hid (show ((M.acc x.toNat.testBit (fun k => (k + m) % 64) 64 : Nat) : Int) = r by
    rw [M.rot_acc _ _ hm64, ← hr.out]; unfold rotI; rw [hm0, Int.toNat_natCast])
  clear hm0
  go_enter Tryz.func58, Tryz.ntmps58
  go_wp2
  go_loop [5, 6] (fun p i => ∃ (k : Nat) (o : Int), k ≤ 64 ∧ i = .int .i64 k ∧ p = .int .u64 o ∧ Hid (((M.acc x.toNat.testBit (fun k => (k + m) % 64) k : Nat) : Int) = o)) (fun _ i => 64 - (intOf i).toNat)
  case atStart => exact ⟨0, 0, Nat.zero_le _, rfl, rfl, Lib.hid rfl⟩
  case round =>
    obtain ⟨k, o, hk, rfl, rfl, ho⟩ := hrel
    by_cases hlt : k < 64
    · obtain ⟨b, hb0⟩ : ∃ b, bitI x k = b := ⟨_, rfl⟩
      obtain ⟨q, hq0⟩ : ∃ q : Int, (2 : Int) ^ ((k + m) % 64) = q := ⟨_, rfl⟩
      have hp : Hid (((k : Int) + (m : Int)) % 64 = (((k + m) % 64 : Nat) : Int)) := Lib.hid (by omega)
      have hn := Lib.hid (acc_spell x (fun k => (k + m) % 64) k o b q ho.out hb0 hq0 (M.rot_acc_lt _ _ hm64 _ hlt))
      have hb := Lib.hid hb0
      have hq := Lib.hid hq0
      clear hb0 hq0
      go_wp2_with fail
      refine (bit_is x k b _ h0 h1 hlt hb).mono ?_
      rintro e w' ⟨rfl, rfl⟩
      go_wp2_with fail
      refine (mod_is n m _ hm).mono ?_
      rintro e w' ⟨rfl, rfl⟩
      go_wp2_with fail
      refine (mod_is _ _ _ hp).mono ?_
      rintro e w' ⟨rfl, rfl⟩
      go_wp2_with fail
      refine (power_is ((k + m) % 64) q _ (by omega) hq).mono ?_
      rintro e w' ⟨rfl, rfl⟩
      go_wp2_with fail
      go_round
      case rel => exact ⟨k + 1, _, by omega, by go_num, rfl, hn⟩
      case measure => simp [intOf]; omega
    · obtain rfl : k = 64 := by omega
      go_wp2
      go_ret
      exact ⟨ret_int (ho.out.symm.trans hfin.out), rfl⟩
end Go.Proofs.YtnpbmihbmilkbaaGreat.Mx
namespace Go.Proofs.YtnpbmihbmilkbaaGreat.Mx
open Go.RowKit
def widthOk (n : Int) : Bool := decide (1 ≤ n ∧ n ≤ 8)
theorem isWidth_is (n : Int) (b : Bool) (w : World) (hb : Hid (widthOk n = b)) :
    Calls Tryz.prog 121 #[.int .i64 n] w fun e w' => e = .returned (.bool b) ∧ w = w' := by
  by_cases h1 : n < 1
  · have H := Lib.hid (show widthOk n = false by unfold widthOk; simp; omega)
    go_enter Tryz.func121, Tryz.ntmps121
    go_wp2
    go_ret
    exact ⟨ret_bool (H.out.symm.trans hb.out), rfl⟩
  · by_cases h2 : 8 < n
    · have H := Lib.hid (show widthOk n = false by unfold widthOk; simp; omega)
      go_enter Tryz.func121, Tryz.ntmps121
      go_wp2
      go_ret
      exact ⟨ret_bool (H.out.symm.trans hb.out), rfl⟩
    · have H := Lib.hid (show widthOk n = true by unfold widthOk; simp; omega)
      go_enter Tryz.func121, Tryz.ntmps121
      go_wp2
      go_ret
      exact ⟨ret_bool (H.out.symm.trans hb.out), rfl⟩
theorem below_drewN {B : Nat} {a w : World} (h : Below B a w) (n : Nat) : Below B a (w.drewN n) := ⟨h.os, h.tape, h.output, h.size, h.block⟩
/-- The value v is a slice that holds the bytes l. -/
def BytesAt (w : World) (v : Value) (l : List Int) : Prop :=
  ∃ a cap, v = .slice a l.length cap ∧ (l.length ≤ cap ∧ (a = none → cap = 0)) ∧ M.Bytes l ∧ (0 < l.length → ∃ g off, a = some ⟨g, off, none⟩ ∧ g < w.heap.size ∧ ∀ i (h : i < l.length), w.cell? ⟨g, off + i, none⟩ = some (.int .u8 l[i]))
theorem BytesAt.keep {w w' : World} {B : Nat} {v : Value} {l : List Int} (h : BytesAt w v l) (hB : w.heap.size ≤ B) (hb : Below B w w') : BytesAt w' v l := by
  obtain ⟨a, cap, hv, hcap, hr, hc⟩ := h
  refine ⟨a, cap, hv, hcap, hr, fun h0 => ?_⟩
  obtain ⟨g, off, ha, hg, hcell⟩ := hc h0
  exact ⟨g, off, ha, Nat.lt_of_lt_of_le hg hb.size, fun i hi => (hb.cell (p := ⟨g, off + i, none⟩) (Nat.lt_of_lt_of_le hg hB)).trans (hcell i hi)⟩
theorem BytesAt.below {w w' : World} {v : Value} {l : List Int} (h : BytesAt w v l) (hb : Below w.heap.size w w') : BytesAt w' v l := h.keep (Nat.le_refl _) hb
theorem bytes_nil (w : World) : BytesAt w (.slice none 0 0) [] := ⟨none, 0, rfl, ⟨Nat.le_refl _, fun _ => rfl⟩, (fun x hx => by cases hx), (fun h => by simp at h)⟩
theorem bytes_of_owns {w : World} {B : Nat} {v : Value} {l : List Int} (h : w.ownsRow B 5 1 v l.length (l.map (Value.int .u8))) (hr : M.Bytes l) : BytesAt w v l := by
  have h' := h
  obtain ⟨_, h2⟩ := h
  rcases h2 with ⟨hv, h0⟩ | ⟨g, cap, cur, hv, hg, hh, hc, _⟩
  · exact ⟨none, 0, by rw [hv, h0], ⟨by omega, fun _ => rfl⟩, hr, fun hl => by omega⟩
  · subst hv
    refine ⟨_, cap, rfl, ⟨hc, fun h => by cases h⟩, hr, fun _ => ⟨g, 0, rfl, (Array.getElem?_eq_some_iff.1 hh).1, fun i hi => ?_⟩⟩
    rw [Nat.zero_add, h'.cellAt i (by omega)]; simp [hi]
theorem ret_get {a b c d : Int} (h : a = b) (h2 : c = d) : Ending.returned (.tuple #[.int .u64 a, .int .i64 c]) = .returned (.tuple #[.int .u64 b, .int .i64 d]) := by rw [h, h2]
/-- What Get answers. -/
def getOf (l : List Int) : Int × Int := if 1 ≤ l.length ∧ l.length ≤ 8 then (M.get l, 0) else (0, 3)
theorem getOf_ok (l : List Int) (h1 : 1 ≤ l.length) (h2 : l.length ≤ 8) : getOf l = (M.get l, 0) := if_pos ⟨h1, h2⟩
theorem getOf_bad (l : List Int) (h : ¬ (1 ≤ l.length ∧ l.length ≤ 8)) : getOf l = (0, 3) := if_neg h
theorem get_bad (a : Option Addr) (n cap : Nat) (w : World) (h : ¬ (1 ≤ n ∧ n ≤ 8)) (hm : n ≤ 1000) :
    Calls Tryz.prog 100 #[.slice a n cap] w fun e w' => e = .returned (.tuple #[.int .u64 0, .int .i64 3]) ∧ w = w' := by
  have HW := Lib.hid (show widthOk (n : Int) = false by unfold widthOk; simp; omega)
  clear h
  go_enter Tryz.func100, Tryz.ntmps100
  go_wp2_with fail
  refine (isWidth_is _ false _ HW).mono ?_
  rintro e w' ⟨rfl, rfl⟩
  go_wp2_with fail
  go_ret2
  exact ⟨rfl, rfl⟩
theorem or_get (l : List Int) (hb : M.Bytes l) (k : Nat) (hk : k < l.length) (h8 : l.length ≤ 8) : bits .or .u64 (M.get (l.take k)) (IntKind.u64.wrap (l[k] * 2 ^ (8 * k))) = M.get (l.take (k + 1)) := by
  have h1 := M.get_range (l.take k) (hb.take k)
  rw [List.length_take, Nat.min_eq_left (by omega)] at h1
  have h2 := M.get_small (l.take k) (hb.take k) (by rw [List.length_take]; omega)
  have h3 := M.get_small (l.take (k + 1)) (hb.take (k + 1)) (by rw [List.length_take]; omega)
  have hc := hb.at_ k hk
  rw [M.get_take l k hk] at h3 ⊢
  exact or_add _ _ _ h1.1 h1.2 hc.1 h2.2 (by omega)
theorem get_ok (g off : Nat) (cap : Nat) (l : List Int) (r : Int) (w : World) (hb : Hid (M.Bytes l)) (h1 : 1 ≤ l.length) (h8 : l.length ≤ 8) (hc : Hid (∀ i (h : i < l.length), w.cell? ⟨g, off + i, none⟩ = some (.int .u8 l[i]))) (hr : Hid (M.get l = r)) :
    Calls Tryz.prog 100 #[.slice (some ⟨g, off, none⟩) l.length cap] w fun e w' => e = .returned (.tuple #[.int .u64 r, .int .i64 0]) ∧ w = w' := by
  have HW := Lib.hid (show widthOk (l.length : Int) = true by unfold widthOk; simp; omega)
  go_enter Tryz.func100, Tryz.ntmps100
  go_wp2_with fail
  refine (isWidth_is _ true _ HW).mono ?_
  rintro e w' ⟨rfl, rfl⟩
  go_wp2_with fail
  go_loop [4, 13] (fun t i => ∃ (k : Nat) (x : Int), k ≤ l.length ∧ i = .int .i64 k ∧ t = .int .u64 x ∧ Hid (M.get (l.take k) = x)) (fun _ i => l.length - (intOf i).toNat)
  case atStart => exact ⟨0, 0, Nat.zero_le _, rfl, rfl, Lib.hid rfl⟩
  case round =>
    obtain ⟨k, x, hk, rfl, rfl, hx⟩ := hrel
    by_cases hlt : k < l.length
    · obtain ⟨c, hcv⟩ : ∃ c, l[k] = c := ⟨_, rfl⟩
      have hck := hc.out k hlt
      rw [hcv] at hck
      have hcb := hb.out.at_ k hlt
      rw [hcv] at hcb
      obtain ⟨hcb0, hcb1⟩ := hcb
      have hnext := Lib.hid (or_get l hb.out k hlt h8)
      rw [hcv, hx.out] at hnext
      have hk64 : 8 * (k : Int) ≤ 64 := by omega
      have hk0 : 0 ≤ 8 * (k : Int) := by omega
      clear hcv
      go_wp2_with fail
      go_round
      case rel => exact ⟨k + 1, _, by omega, by go_num, rfl, Lib.hid hnext.out.symm⟩
      case measure => simp [intOf]; omega
    · obtain rfl : k = l.length := by omega
      go_wp2_with fail
      go_ret2
      exact ⟨ret_get (by rw [← hx.out, List.take_length]; exact hr.out) rfl, rfl⟩
theorem get_is (v : Value) (l : List Int) (r1 r2 : Int) (w : World) (h : BytesAt w v l) (hm : l.length ≤ 1000) (hr : Hid (getOf l = (r1, r2))) :
    Calls Tryz.prog 100 #[v] w fun e w' => e = .returned (.tuple #[.int .u64 r1, .int .i64 r2]) ∧ w = w' := by
  obtain ⟨a, cap, rfl, _, hb, hc⟩ := h
  by_cases h1 : 1 ≤ l.length ∧ l.length ≤ 8
  · obtain ⟨g, off, rfl, _, hcell⟩ := hc (by omega)
    have hx := hr.out
    rw [getOf_ok l h1.1 h1.2] at hx
    injection hx with e1 e2
    subst e2
    exact get_ok g off cap l r1 w (Lib.hid hb) h1.1 h1.2 (Lib.hid hcell) (Lib.hid e1)
  · have hx := hr.out
    rw [getOf_bad l h1] at hx
    injection hx with e1 e2
    subst e1; subst e2
    exact get_bad a l.length cap w h1 hm
theorem refGet_bad (a : Option Addr) (n cap : Nat) (w : World) (h : ¬ (1 ≤ n ∧ n ≤ 8)) (hm : n ≤ 1000) :
    Calls Tryz.prog 57 #[.slice a n cap] w fun e w' => e = .returned (.tuple #[.int .u64 0, .int .i64 3]) ∧ w = w' := by
  by_cases h0 : n < 1
  · obtain rfl : n = 0 := by omega
    clear h
    go_enter Tryz.func57, Tryz.ntmps57
    go_wp2_with fail
    go_ret2
    exact ⟨rfl, rfl⟩
  · have h8 : 8 < n := by omega
    clear h
    go_enter Tryz.func57, Tryz.ntmps57
    go_wp2_with fail
    go_ret2
    exact ⟨rfl, rfl⟩
theorem refGet_ok (g off : Nat) (cap : Nat) (l : List Int) (r : Int) (w : World) (hb : Hid (M.Bytes l)) (h1 : 1 ≤ l.length) (h8 : l.length ≤ 8) (hc : Hid (∀ i (h : i < l.length), w.cell? ⟨g, off + i, none⟩ = some (.int .u8 l[i]))) (hr : Hid (M.get l = r)) :
    Calls Tryz.prog 57 #[.slice (some ⟨g, off, none⟩) l.length cap] w fun e w' => e = .returned (.tuple #[.int .u64 r, .int .i64 0]) ∧ w = w' := by
  go_enter Tryz.func57, Tryz.ntmps57
  go_wp2_with fail
  go_loop [4, 5] (fun t i => ∃ (j x : Int), -1 ≤ j ∧ j < l.length ∧ i = .int .i64 j ∧ t = .int .u64 x ∧ Hid (M.get (l.drop (j + 1).toNat) = x)) (fun _ i => (intOf i + 1).toNat)
  case atStart => exact ⟨(l.length : Int) - 1, 0, by omega, by omega, rfl, rfl, Lib.hid (by rw [show ((l.length : Int) - 1 + 1).toNat = l.length by omega, List.drop_length]; rfl)⟩
  case round =>
    obtain ⟨j, x, hj0, hj1, rfl, rfl, hx⟩ := hrel
    by_cases hlt : 0 ≤ j
    · obtain ⟨k, rfl⟩ := Int.eq_ofNat_of_zero_le hlt
      have hk : k < l.length := by omega
      obtain ⟨c, hcv⟩ : ∃ c, l[k] = c := ⟨_, rfl⟩
      have hck := hc.out k hk
      rw [hcv] at hck
      have hcb := hb.out.at_ k hk
      rw [hcv] at hcb
      obtain ⟨hcb0, hcb1⟩ := hcb
      have hnext := Lib.hid (M.get_drop l k hk)
      have hr1 := M.get_small (l.drop (k + 1)) (hb.out.drop _) (by rw [List.length_drop]; omega)
      have hr2 := M.get_small (l.drop k) (hb.out.drop _) (by rw [List.length_drop]; omega)
      rw [hnext.out] at hr2
      rw [hcv] at hnext hr2
      have hx2 := hx.out
      rw [show ((k : Int) + 1).toNat = k + 1 by omega] at hx2
      rw [hx2] at hnext hr1 hr2
      obtain ⟨hr10, hr11⟩ := hr1
      obtain ⟨hr20, hr21⟩ := hr2
      clear hcv hx2
      go_wp2_with fail
      go_round
      case rel => exact ⟨(k : Int) - 1, 256 * x + c, by omega, by omega, by go_num, by go_num, Lib.hid (by rw [show ((k : Int) - 1 + 1).toNat = k by omega]; exact hnext.out)⟩
      case measure => (try simp [intOf]); try omega
    · obtain rfl : j = -1 := by omega
      go_wp2_with fail
      go_ret2
      exact ⟨ret_get (by rw [← hx.out]; exact hr.out) rfl, rfl⟩
theorem refGet_is (v : Value) (l : List Int) (r1 r2 : Int) (w : World) (h : BytesAt w v l) (hm : l.length ≤ 1000) (hr : Hid (getOf l = (r1, r2))) :
    Calls Tryz.prog 57 #[v] w fun e w' => e = .returned (.tuple #[.int .u64 r1, .int .i64 r2]) ∧ w = w' := by
  obtain ⟨a, cap, rfl, _, hb, hc⟩ := h
  by_cases h1 : 1 ≤ l.length ∧ l.length ≤ 8
  · obtain ⟨g, off, rfl, _, hcell⟩ := hc (by omega)
    have hx := hr.out
    rw [getOf_ok l h1.1 h1.2] at hx
    injection hx with e1 e2
    subst e2
    exact refGet_ok g off cap l r1 w (Lib.hid hb) h1.1 h1.2 (Lib.hid hcell) (Lib.hid e1)
  · have hx := hr.out
    rw [getOf_bad l h1] at hx
    injection hx with e1 e2
    subst e1; subst e2
    exact refGet_bad a l.length cap w h1 hm
end Go.Proofs.YtnpbmihbmilkbaaGreat.Mx
namespace Go.Proofs.YtnpbmihbmilkbaaGreat.Mx.M
/-- A number changed by itself, moved down. -/
def down (s x : Nat) : Nat := x ^^^ (x / 2 ^ s)
def up (s y : Nat) : Nat := y ^^^ (y / 2 ^ s) ^^^ (y / 2 ^ (2 * s))
theorem div_lt (x k : Nat) (hx : x < 2 ^ 64) : x / 2 ^ k < 2 ^ 64 := Nat.lt_of_le_of_lt (Nat.div_le_self _ _) hx
theorem down_lt (s x : Nat) (hx : x < 2 ^ 64) : down s x < 2 ^ 64 := Nat.xor_lt_two_pow hx (div_lt x s hx)
def step (s f x : Nat) : Nat := down s x * f % 2 ^ 64
theorem step_lt (s f x : Nat) : step s f x < 2 ^ 64 := Nat.mod_lt _ (Nat.two_pow_pos _)
/-- The factors and their reciprocals. -/
def fA : Nat := 11400714819323198485
def fB : Nat := 13787848793156543929
def fC : Nat := 10723151780598845931
def mix (x : Nat) : Nat := step 31 1 (step 27 fC (step 30 fB x))
theorem mix_lt (x : Nat) : mix x < 2 ^ 64 := step_lt ..
/-- What Word and Unword answer. -/
def word (seed x : Nat) : Nat := mix (((seed ^^^ x) + fA) % 2 ^ 64)
theorem word_lt (seed x : Nat) : word seed x < 2 ^ 64 := mix_lt _
/-- The exclusive or, gathered from its bits. -/
theorem xor_gather (a b : Nat) (ha : a < 2 ^ 64) (hb : b < 2 ^ 64) : a ^^^ b = gather (fun j => a.testBit j ^^ b.testBit j) :=
  gather_eq (Nat.xor_lt_two_pow ha hb) (fun j _ => by rw [Nat.testBit_xor])
/-- One word more. -/
def next (h x : Nat) : Nat := word (rot h 23) x
def chain (h : Nat) (l : List Nat) : Nat := l.foldl next h
theorem next_lt (h x : Nat) : next h x < 2 ^ 64 := word_lt ..
theorem chain_nil (h : Nat) : chain h [] = h := List.foldl_nil ..
theorem chain_cons (h x : Nat) (l : List Nat) : chain h (x :: l) = chain (next h x) l := List.foldl_cons ..
theorem chain_app (h : Nat) (l m : List Nat) : chain h (l ++ m) = chain (chain h l) m := List.foldl_append ..
theorem chain_lt (h : Nat) (l : List Nat) (hh : h < 2 ^ 64) : chain h l < 2 ^ 64 := by
  induction l generalizing h with
  | nil => rw [chain_nil]; exact hh
  | cons x l ih => rw [chain_cons]; exact ih _ (next_lt ..)
theorem chain_snoc (h : Nat) (l : List Nat) (x : Nat) : chain h (l ++ [x]) = next (chain h l) x := by rw [chain_app, chain_cons, chain_nil]
/-- The groups of a byte string, as numbers. -/
def group (l : List Int) (i : Nat) : List Int := (l.drop (8 * i)).take 8
def wordAt (l : List Int) (i : Nat) : Nat := (get (group l i)).toNat
def count (n : Nat) : Nat := (n + 7) / 8
def words (l : List Int) (k : Nat) : List Nat := (List.range k).map (wordAt l)
theorem words_succ (l : List Int) (k : Nat) : words l (k + 1) = words l k ++ [wordAt l k] := by simp [words, List.range_succ]
theorem group_bytes {l : List Int} (h : Bytes l) (i : Nat) : Bytes (group l i) := (h.drop _).take _
theorem group_len (l : List Int) (i : Nat) : (group l i).length = min 8 (l.length - 8 * i) := by simp [group]
theorem wordAt_lt {l : List Int} (h : Bytes l) (i : Nat) : wordAt l i < 2 ^ 64 := by
  have := get_small (group l i) (group_bytes h i) (by rw [group_len]; omega)
  unfold wordAt; omega
theorem wordAt_int {l : List Int} (h : Bytes l) (i : Nat) : ((wordAt l i : Nat) : Int) = get (group l i) := by
  have := get_small (group l i) (group_bytes h i) (by rw [group_len]; omega)
  unfold wordAt; omega
def sum (seed : Nat) (l : List Int) : Nat := chain (word seed l.length) (words l (count l.length))
theorem sum_lt (seed : Nat) (l : List Int) : sum seed l < 2 ^ 64 := chain_lt _ _ (word_lt ..)
theorem get_zeros (l : List Int) (k : Nat) : get (l ++ List.replicate k 0) = get l := by
  induction l with
  | nil => induction k with
    | zero => rfl
    | succ k ih => rw [List.nil_append] at ih ⊢; rw [List.replicate_succ]; show 0 + 256 * get (List.replicate k 0) = get []; rw [ih]; rfl
  | cons c r ih => rw [List.cons_append, get, ih, get]
/-- The bytes, with the group g in place of theirs from 8 * j on. -/
def changed (l : List Int) (j : Nat) (g : List Int) : List Int := l.take (8 * j) ++ g ++ l.drop (8 * j + 8)
theorem range_cut (j k : Nat) (h : j < k) : List.range k = List.range j ++ j :: List.range' (j + 1) (k - j - 1) := by
  rw [List.range_eq_range', List.range_eq_range']
  have h1 : List.range' 0 k = List.range' 0 j ++ List.range' j (k - j) := by
    have := @List.range'_append 0 j (k - j) 1
    simp at this; rw [this]; congr 1; omega
  rw [h1]
  congr 1
  obtain ⟨m, hm⟩ : ∃ m, k - j = m + 1 := ⟨k - j - 1, by omega⟩
  rw [hm, List.range'_succ, Nat.add_sub_cancel]
end Go.Proofs.YtnpbmihbmilkbaaGreat.Mx.M
namespace Go.Proofs.YtnpbmihbmilkbaaGreat.Mx
open Go.RowKit
def xorI (a b : Int) : Int := ((a.toNat ^^^ b.toNat : Nat) : Int)
def stepI (s : Nat) (f x : Int) : Int := ((M.step s f.toNat x.toNat : Nat) : Int)
def mixI (x : Int) : Int := ((M.mix x.toNat : Nat) : Int)
def wordI (seed x : Int) : Int := ((M.word seed.toNat x.toNat : Nat) : Int)
def sumI (seed : Int) (l : List Int) : Int := ((M.sum seed.toNat l : Nat) : Int)
theorem of_lt {n : Nat} (h : n < 2 ^ 64) : U64 (n : Int) := by unfold U64; omega
theorem toNat_lt {x : Int} (h : U64 x) : x.toNat < 2 ^ 64 := by unfold U64 at h; omega
theorem stepI_U64 (s : Nat) (f x : Int) : U64 (stepI s f x) := of_lt (M.step_lt ..)
theorem wordI_U64 (s x : Int) : U64 (wordI s x) := of_lt (M.word_lt ..)
theorem sumI_U64 (s : Int) (l : List Int) : U64 (sumI s l) := of_lt (M.sum_lt ..)
theorem xor_spell (a b : Int) (ha : U64 a) (hb : U64 b) : bits .xor .u64 a b = xorI a b := u64_xor a b ha.1 ha.2 hb.1 hb.2
theorem down_spell (s : Nat) (x : Int) (hx : U64 x) : xorI x (x / 2 ^ s) = ((M.down s x.toNat : Nat) : Int) := by
  rw [xorI, M.down, div_nat x s hx.1, Int.toNat_natCast]
theorem wrap_nat (n : Nat) : IntKind.u64.wrap (n : Int) = ((n % 2 ^ 64 : Nat) : Int) := by rw [IntKind.wrap_u64, Int.natCast_emod]; rfl
theorem step_spell (s : Nat) (f x : Int) (hx : U64 x) (hf : 0 ≤ f) : IntKind.u64.wrap (xorI x (x / 2 ^ s) * f) = stepI s f x := by
  obtain ⟨g, rfl⟩ := Int.eq_ofNat_of_zero_le hf
  rw [down_spell s x hx, ← Int.natCast_mul, wrap_nat, stepI, M.step, Int.toNat_natCast]
theorem mixI_is (x : Int) : mixI x = stepI 31 1 (stepI 27 10723151780598845931 (stepI 30 13787848793156543929 x)) := by
  unfold mixI stepI; rw [Int.toNat_natCast, Int.toNat_natCast, M.mix]; rfl
theorem wordI_is (seed x : Int) : wordI seed x = mixI (IntKind.u64.wrap (xorI seed x + 11400714819323198485)) := by
  have e : xorI seed x + 11400714819323198485 = (((seed.toNat ^^^ x.toNat) + M.fA : Nat) : Int) := by rw [Int.natCast_add]; rfl
  rw [e, wrap_nat, mixI, Int.toNat_natCast, wordI, M.word]
theorem last_step (x : Int) (hx : U64 x) : xorI x (x / 2 ^ 31) = stepI 31 1 x := by
  have h := M.down_lt 31 x.toNat (toNat_lt hx)
  rw [down_spell 31 x hx, stepI, M.step]
  rw [show (1 : Int).toNat = 1 from rfl, Nat.mul_one, Nat.mod_eq_of_lt h]
theorem part64 (x : Int) (s : Nat) (hs : s < 64) : part x s 64 = x / 2 ^ s := by
  rw [part_small x s 64 (by omega), show max (s : Int) 0 = s from Int.max_eq_left (by omega), Int.toNat_natCast]
  unfold lo; rw [if_neg (by omega), if_pos (by omega)]
theorem sumI_step (h x : Int) : wordI (rotI h 23) x = ((M.next h.toNat x.toNat : Nat) : Int) := by
  rw [wordI, rotI, M.next, Int.toNat_natCast]; rfl
/-- The exclusive or, bit by bit. -/
def xacc (a b : Int) (k : Nat) : Nat := M.acc (fun j => a.toNat.testBit j ^^ b.toNat.testBit j) id k
theorem xacc_all (a b : Int) (ha : U64 a) (hb : U64 b) : ((xacc a b 64 : Nat) : Int) = xorI a b := by
  rw [xorI, M.xor_gather _ _ (toNat_lt ha) (toNat_lt hb)]; rfl
theorem xacc_lt (a b : Int) (k : Nat) (hk : k ≤ 64) : xacc a b k < 2 ^ 64 := M.acc_lt _ id id (fun _ h => h) (fun _ _ => rfl) (fun _ _ => rfl) k hk
theorem xacc_same (a b : Int) (k : Nat) (h : bitI a k = bitI b k) : xacc a b (k + 1) = xacc a b k := by
  have e : (a.toNat.testBit k ^^ b.toNat.testBit k) = false := by
    unfold bitI at h; revert h
    cases a.toNat.testBit k <;> cases b.toNat.testBit k <;> simp
  show M.acc _ id k + (a.toNat.testBit k ^^ b.toNat.testBit k).toNat * 2 ^ k = _
  rw [e]; simp [xacc]
theorem xacc_other (a b o q : Int) (k : Nat) (hk : k < 64) (h : bitI a k ≠ bitI b k) (ho : ((xacc a b k : Nat) : Int) = o) (hq : (2 : Int) ^ k = q) : ((xacc a b (k + 1) : Nat) : Int) = IntKind.u64.wrap (o + q) := by
  have e : (a.toNat.testBit k ^^ b.toNat.testBit k) = true := by
    unfold bitI at h; revert h
    cases a.toNat.testBit k <;> cases b.toNat.testBit k <;> simp
  have e2 : xacc a b (k + 1) = xacc a b k + 2 ^ k := by
    show M.acc _ id k + (a.toNat.testBit k ^^ b.toNat.testBit k).toNat * 2 ^ k = _
    rw [e]; simp [xacc]
  have h2 := xacc_lt a b (k + 1) (by omega)
  have e3 : o + q = ((xacc a b (k + 1) : Nat) : Int) := by rw [e2, Int.natCast_add, pow_nat, ho, hq]
  rw [e3, wrap_nat, Nat.mod_eq_of_lt h2]
end Go.Proofs.YtnpbmihbmilkbaaGreat.Mx
namespace Go.Proofs.YtnpbmihbmilkbaaGreat.Mx
open Go.RowKit
theorem refXor_is (a b r : Int) (w : World) (ha : U64 a) (hb : U64 b) (hr : Hid (xorI a b = r)) :
    Calls Tryz.prog 86 #[.int .u64 a, .int .u64 b] w fun e w' => e = .returned (.int .u64 r) ∧ w = w' := by
  go_enter Tryz.func86, Tryz.ntmps86
  go_wp2_with fail
  go_loop [5, 6] (fun p i => ∃ (k : Nat) (o : Int), k ≤ 64 ∧ i = .int .i64 k ∧ p = .int .u64 o ∧ Hid (((xacc a b k : Nat) : Int) = o)) (fun _ i => 64 - (intOf i).toNat)
  case atStart => exact ⟨0, 0, Nat.zero_le _, rfl, rfl, Lib.hid rfl⟩
  case round =>
    obtain ⟨k, o, hk, rfl, rfl, ho⟩ := hrel
    by_cases hlt : k < 64
    · obtain ⟨c, hc0⟩ : ∃ c, bitI a k = c := ⟨_, rfl⟩
      obtain ⟨d, hd0⟩ : ∃ d, bitI b k = d := ⟨_, rfl⟩
      obtain ⟨q, hq0⟩ : ∃ q : Int, (2 : Int) ^ k = q := ⟨_, rfl⟩
      have hc := Lib.hid hc0
      have hd := Lib.hid hd0
      have hq := Lib.hid hq0
      by_cases hcd : c = d
      · subst hcd
        have hn := Lib.hid ((congrArg (Nat.cast (R := Int)) (xacc_same a b k (hc0.trans hd0.symm))).trans ho.out)
        clear hc0 hd0 hq0
        go_wp2_with fail
        refine (bit_is a k c _ ha.1 ha.2 hlt hc).mono ?_
        rintro e w' ⟨rfl, rfl⟩
        go_wp2_with fail
        refine (bit_is b k c _ hb.1 hb.2 hlt hd).mono ?_
        rintro e w' ⟨rfl, rfl⟩
        go_wp2_with fail
        go_round
        case rel => exact ⟨k + 1, _, by omega, by go_num, rfl, hn⟩
        case measure => simp [intOf]; omega
      · have hn := Lib.hid (xacc_other a b o q k hlt (by rw [hc0, hd0]; exact hcd) ho.out hq0)
        have hcd2 : (c == d) = false := by simpa using hcd
        clear hc0 hd0 hq0
        go_wp2_with fail
        refine (bit_is a k c _ ha.1 ha.2 hlt hc).mono ?_
        rintro e w' ⟨rfl, rfl⟩
        go_wp2_with fail
        refine (bit_is b k d _ hb.1 hb.2 hlt hd).mono ?_
        rintro e w' ⟨rfl, rfl⟩
        go_wp2_with fail
        refine (power_is k q _ hlt hq).mono ?_
        rintro e w' ⟨rfl, rfl⟩
        go_wp2_with fail
        go_round
        case rel => exact ⟨k + 1, _, by omega, by go_num, rfl, hn⟩
        case measure => simp [intOf]; omega
    · obtain rfl : k = 64 := by omega
      have hfin := Lib.hid (xacc_all a b ha hb)
      go_wp2_with fail
      go_ret
      exact ⟨ret_int (ho.out.symm.trans (hfin.out.trans hr.out)), rfl⟩
theorem refDown_is (x r : Int) (s : Nat) (w : World) (hx : U64 x) (hs : s < 64) (hr : Hid (xorI x (x / 2 ^ s) = r)) :
    Calls Tryz.prog 112 #[.int .u64 x, .int .i64 s] w fun e w' => e = .returned (.int .u64 r) ∧ w = w' := by
  have hp := Lib.hid (part64 x s hs)
  have hd := div_U64 x s hx.1 hx.2
  go_enter Tryz.func112, Tryz.ntmps112
  go_wp2_with fail
  refine (refPart_is x s 64 _ _ hx.1 hx.2 hp).mono ?_
  rintro e w' ⟨rfl, rfl⟩
  go_wp2_with fail
  refine (refXor_is x _ r _ hx hd hr).mono ?_
  rintro e w' ⟨rfl, rfl⟩
  go_wp2_with fail
  go_ret
  exact ⟨rfl, rfl⟩
theorem refStir_is (x r : Int) (w : World) (hx : U64 x) (hr : Hid (mixI x = r)) :
    Calls Tryz.prog 85 #[.int .u64 x] w fun e w' => e = .returned (.int .u64 r) ∧ w = w' := by
  obtain ⟨y, hy⟩ : ∃ y, stepI 30 13787848793156543929 x = y := ⟨_, rfl⟩
  obtain ⟨z, hz⟩ : ∃ z, stepI 27 10723151780598845931 y = z := ⟨_, rfl⟩
  have hyU : U64 y := by rw [← hy]; exact stepI_U64 ..
  have hzU : U64 z := by rw [← hz]; exact stepI_U64 ..
  have h1 := step_spell 30 13787848793156543929 x hx (by omega)
  have h2 := step_spell 27 10723151780598845931 y hyU (by omega)
  have h3 : xorI z (z / 2 ^ 31) = r := by rw [last_step z hzU, ← hr.out, mixI_is, hy, hz]
  rw [hy] at h1
  rw [hz] at h2
  obtain ⟨d1, hd1⟩ : ∃ d, xorI x (x / 2 ^ 30) = d := ⟨_, rfl⟩
  obtain ⟨d2, hd2⟩ : ∃ d, xorI y (y / 2 ^ 27) = d := ⟨_, rfl⟩
  rw [hd1] at h1
  rw [hd2] at h2
  have k1 := Lib.hid hd1
  have k2 := Lib.hid hd2
  have k3 := Lib.hid h3
  have g1 := Lib.hid h1
  have g2 := Lib.hid h2
  clear h1 h2 h3 hd1 hd2 hy hz hr
  go_enter Tryz.func85, Tryz.ntmps85
  go_wp2_with fail
  refine (refDown_is x d1 30 _ hx (by omega) k1).mono ?_
  rintro e w' ⟨rfl, rfl⟩
  go_wp2_with fail
  rw [g1.out]
  refine (refDown_is y d2 27 _ hyU (by omega) k2).mono ?_
  rintro e w' ⟨rfl, rfl⟩
  go_wp2_with fail
  rw [g2.out]
  refine (refDown_is z r 31 _ hzU (by omega) k3).mono ?_
  rintro e w' ⟨rfl, rfl⟩
  go_wp2_with fail
  go_ret
  exact ⟨rfl, rfl⟩
theorem wrap_U64 (x : Int) : U64 (IntKind.u64.wrap x) := by rw [IntKind.wrap_u64]; unfold U64; omega
theorem refWord_is (seed x r : Int) (w : World) (hs : U64 seed) (hx : U64 x) (hr : Hid (wordI seed x = r)) :
    Calls Tryz.prog 56 #[.int .u64 seed, .int .u64 x] w fun e w' => e = .returned (.int .u64 r) ∧ w = w' := by
  obtain ⟨d, hd⟩ : ∃ d, xorI seed x = d := ⟨_, rfl⟩
  have h2 : mixI (IntKind.u64.wrap (d + 11400714819323198485)) = r := by rw [← hd, ← wordI_is]; exact hr.out
  have k1 := Lib.hid hd
  have k2 := Lib.hid h2
  have hu := wrap_U64 (d + 11400714819323198485)
  clear h2 hd hr
  go_enter Tryz.func56, Tryz.ntmps56
  go_wp2_with fail
  refine (refXor_is seed x d _ hs hx k1).mono ?_
  rintro e w' ⟨rfl, rfl⟩
  go_wp2_with fail
  refine (refStir_is _ r _ hu k2).mono ?_
  rintro e w' ⟨rfl, rfl⟩
  go_wp2_with fail
  go_ret
  exact ⟨rfl, rfl⟩
end Go.Proofs.YtnpbmihbmilkbaaGreat.Mx
namespace Go.Proofs.YtnpbmihbmilkbaaGreat.Mx
open Go.RowKit
/-- A step, as a value. -/
abbrev stepV (s : Nat) (f : Int) : Value := .agg #[.int .u64 s, .int .u64 f]
abbrev stepsV : Value := .agg #[.int .u64 30, .int .u64 13787848793156543929, .int .u64 27, .int .u64 10723151780598845931, .int .u64 31, .int .u64 1]
theorem steps_is (w : World) : Calls Tryz.prog 96 #[] w fun e w' => e = .returned stepsV ∧ Below w.heap.size w w' := by
  go_enter Tryz.func96, Tryz.ntmps96
  go_wp2_with fail
  refine bodyPost_ret (results_cell_row rfl _ _ w.heap.size 127 _ _ _ rfl (heap_alloc_new w _) Tryz.underlying127 rfl (by kernel_rfl)) rfl ?_
  exact ⟨rfl, (Below.refl _ w).alloc (Nat.le_refl _) _⟩
theorem do_is (s : Nat) (f x r : Int) (w : World) (hs : s < 64) (hf : 0 ≤ f) (hx : U64 x) (hr : Hid (stepI s f x = r)) :
    Calls Tryz.prog 97 #[stepV s f, .int .u64 x] w fun e w' => e = .returned (.int .u64 r) ∧ Below w.heap.size w w' := by
  have hd := div_U64 x s hx.1 hx.2
  have h1 := Lib.hid (xor_spell x (x / 2 ^ s) hx hd)
  have h2 := Lib.hid (step_spell s f x hx hf)
  obtain ⟨hx0, hx1⟩ := hx
  have hs64 : (s : Int) < 64 := by omega
  go_enter Tryz.func97, Tryz.ntmps97
  go_wp2_with fail
  go_ret
  exact ⟨ret_int (by rw [h1.out, h2.out]; exact hr.out), (Below.refl _ w).alloc (Nat.le_refl _) _⟩
theorem Below.more {n : Nat} {w a b : World} {o : Obj} (h : Below n w a) (hn : n ≤ w.heap.size) (k : Below (a.alloc o).heap.size (a.alloc o) b) : Below n w b :=
  (h.alloc (Nat.le_trans hn h.size) o).trans (k.mono (by have := h.size; simp; omega))
theorem index0 (w : World) : (Instr.index 127 stepsV (.int .i64 0)).run Tryz.prog w = .ok (stepV 30 13787848793156543929) w := by
  simp [Instr.index, isAgg, run_underlying Tryz.underlying127, run_underlying Tryz.underlying126, asIntOf, go_sem]
theorem index1 (w : World) : (Instr.index 127 stepsV (.int .i64 1)).run Tryz.prog w = .ok (stepV 27 10723151780598845931) w := by
  simp [Instr.index, isAgg, run_underlying Tryz.underlying127, run_underlying Tryz.underlying126, asIntOf, go_sem]
theorem index2 (w : World) : (Instr.index 127 stepsV (.int .i64 2)).run Tryz.prog w = .ok (stepV 31 1) w := by
  simp [Instr.index, isAgg, run_underlying Tryz.underlying127, run_underlying Tryz.underlying126, asIntOf, go_sem]
theorem word_is (seed x r : Int) (w : World) (hs : U64 seed) (hx : U64 x) (hr : Hid (wordI seed x = r)) :
    Calls Tryz.prog 70 #[.int .u64 seed, .int .u64 x] w fun e w' => e = .returned (.int .u64 r) ∧ Below w.heap.size w w' := by
  obtain ⟨x1, hx1⟩ : ∃ y, IntKind.u64.wrap (xorI seed x + 11400714819323198485) = y := ⟨_, rfl⟩
  obtain ⟨y, hy⟩ : ∃ y, stepI 30 13787848793156543929 x1 = y := ⟨_, rfl⟩
  obtain ⟨z, hz⟩ : ∃ z, stepI 27 10723151780598845931 y = z := ⟨_, rfl⟩
  have hx1U : U64 x1 := by rw [← hx1]; exact wrap_U64 _
  have hyU : U64 y := by rw [← hy]; exact stepI_U64 ..
  have hzU : U64 z := by rw [← hz]; exact stepI_U64 ..
  have h3 : stepI 31 1 z = r := by rw [← hr.out, wordI_is, hx1, mixI_is, hy, hz]
  have h0 := xor_spell seed x hs hx
  have k0 := Lib.hid h0
  have k1 := Lib.hid hx1
  have k2 := Lib.hid hy
  have k3 := Lib.hid hz
  have k4 := Lib.hid h3
  clear h0 hx1 hy hz h3 hr
  go_enter Tryz.func70, Tryz.ntmps70
  go_wp2_with fail
  rw [k0.out, k1.out]
  refine (steps_is _).mono ?_
  rintro e w1 ⟨rfl, b1⟩
  go_wp2_with fail
  have i0 := index0
  have i1 := index1
  have i2 := index2
  refine wp_loop_rounds 4 ?_
  rw [rounds_succ]
  go_wp2_with fail
  refine (do_is 30 13787848793156543929 x1 y _ (by omega) (by omega) hx1U k2).mono ?_
  rintro e w2 ⟨rfl, b2⟩
  go_wp2_with fail
  rw [rounds_succ]
  go_wp2_with fail
  refine (do_is 27 10723151780598845931 y z _ (by omega) (by omega) hyU k3).mono ?_
  rintro e w3 ⟨rfl, b3⟩
  go_wp2_with fail
  rw [rounds_succ]
  go_wp2_with fail
  refine (do_is 31 1 z r _ (by omega) (by omega) hzU k4).mono ?_
  rintro e w4 ⟨rfl, b4⟩
  go_wp2_with fail
  rw [rounds_succ]
  go_wp2_with fail
  go_ret
  refine ⟨rfl, ?_⟩
  exact Below.more (Below.more (Below.more b1 (Nat.le_refl _) b2) (Nat.le_refl _) b3) (Nat.le_refl _) b4
end Go.Proofs.YtnpbmihbmilkbaaGreat.Mx
