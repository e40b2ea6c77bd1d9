/- Layer 2 in integers: what the functions of package bit answer, and how the model's words for shifts and masks come to it. -/
import Derived.Test.YtfbdnnnmjefhbaaMath
import Derived.WalkKit
import Derived.Laws.BitsAllLaws
import Derived.Lib.Hide
namespace Go.Proofs.Ytfbdnnnmjefhbaa
open Go.RowKit

def lo (x n : Int) : Int := if n < 1 then 0 else if 63 < n then x else x % 2 ^ n.toNat
def part (x f n : Int) : Int := if 63 < f then 0 else lo (x / 2 ^ (max f 0).toNat) n
def rotI (x n : Int) : Int := ((M.rot x.toNat (n % 64).toNat : Nat) : Int)
def turnI (x : Int) : Int := ((M.turn x.toNat : Nat) : Int)
def zigI (n : Int) : Int := if 0 ≤ n then 2 * n else -2 * n - 1
def zagI (x : Int) : Int := if x % 2 = 0 then x / 2 else -(x / 2) - 1
def bitI (x : Int) (k : Nat) : Int := (((x.toNat.testBit k).toNat : Nat) : Int)
def U64 (x : Int) : Prop := 0 ≤ x ∧ x < 18446744073709551616
def I64 (x : Int) : Prop := -9223372036854775808 ≤ x ∧ x ≤ 9223372036854775807

theorem nat64 {x : Int} (h0 : 0 ≤ x) (h1 : x < 18446744073709551616) : x.toNat < 2 ^ 64 := by omega
theorem rotI_U64 (x n : Int) : U64 (rotI x n) := by have := M.rot_lt x.toNat (n % 64).toNat; unfold rotI U64; omega
theorem turnI_U64 (x : Int) : U64 (turnI x) := by have := M.turn_lt x.toNat; unfold turnI U64; omega
theorem pow_pos (k : Nat) : (0 : Int) < 2 ^ k := by have := Int.pow_pos (n := (2 : Int)) (m := k) (by omega); exact this
theorem pow_lt (k : Nat) (h : k < 64) : (2 : Int) ^ k < 18446744073709551616 := by
  have : (2 : Nat) ^ k < 2 ^ 64 := Nat.pow_lt_pow_right (by omega) h
  have e : ((2 ^ k : Nat) : Int) = (2 : Int) ^ k := by rw [Int.natCast_pow]; rfl
  rw [← e]; omega
theorem pow_nat (k : Nat) : ((2 ^ k : Nat) : Int) = (2 : Int) ^ k := by rw [Int.natCast_pow]; rfl
theorem lo_U64 (x n : Int) (h0 : 0 ≤ x) (h1 : x < 18446744073709551616) : U64 (lo x n) := by
  unfold lo U64; split
  · omega
  · split
    · omega
    · have := pow_pos n.toNat; have h2 := Int.emod_nonneg x (show (2 : Int) ^ n.toNat ≠ 0 by omega)
      have h3 := Int.emod_lt_of_pos x (pow_pos n.toNat); have h4 := pow_lt n.toNat (by omega); omega
theorem div_U64 (x : Int) (k : Nat) (h0 : 0 ≤ x) (h1 : x < 18446744073709551616) : U64 (x / 2 ^ k) := by
  have hp := pow_pos k
  have h2 := Int.ediv_nonneg h0 (show 0 ≤ (2 : Int) ^ k by omega)
  have h3 : x / 2 ^ k ≤ x := Int.ediv_le_self _ h0
  unfold U64; omega
theorem low_spell (x n : Int) (h0 : 0 ≤ x) (h1 : x < 18446744073709551616) (hn : 1 ≤ n) (hn2 : n < 64) :
    bits .and .u64 x (IntKind.u64.wrap (IntKind.u64.wrap (2 ^ n.toNat) - 1)) = lo x n := by
  have hp := pow_pos n.toNat
  have hl := pow_lt n.toNat (by omega)
  have e : IntKind.u64.wrap (IntKind.u64.wrap (2 ^ n.toNat) - 1) = 2 ^ n.toNat - 1 := by
    rw [IntKind.wrap_u64, IntKind.wrap_u64]; omega
  rw [e, u64_and x _ h0 h1 (by omega) (by omega)]
  have e2 : ((2 : Int) ^ n.toNat - 1).toNat = 2 ^ n.toNat - 1 := by
    have := pow_nat n.toNat; have h2 := Nat.two_pow_pos n.toNat; omega
  rw [e2, Nat.and_two_pow_sub_one_eq_mod]
  unfold lo; rw [if_neg (by omega), if_neg (by omega), ← pow_nat, Int.natCast_emod, Int.toNat_of_nonneg h0]
theorem lo_zero (n : Int) : lo 0 n = 0 := by unfold lo; split; rfl; split; rfl; simp
theorem part_big (x f n : Int) (h : 63 < f) : part x f n = 0 := by unfold part; rw [if_pos h]
theorem part_small (x f n : Int) (h : f ≤ 63) : part x f n = lo (x / 2 ^ (max f 0).toNat) n := by unfold part; rw [if_neg (by omega)]
theorem big_div (x : Int) (h0 : 0 ≤ x) (h1 : x < 18446744073709551616) : x / 18446744073709551616 = 0 := by omega
theorem mul_nat (x : Int) (k : Nat) (h0 : 0 ≤ x) : IntKind.u64.wrap (x * 2 ^ k) = ((x.toNat * 2 ^ k % 2 ^ 64 : Nat) : Int) := by
  rw [IntKind.wrap_u64, Int.natCast_emod, Int.natCast_mul, pow_nat, Int.toNat_of_nonneg h0]; rfl
theorem div_nat (x : Int) (k : Nat) (h0 : 0 ≤ x) : x / 2 ^ k = ((x.toNat / 2 ^ k : Nat) : Int) := by
  rw [Int.natCast_ediv, pow_nat, Int.toNat_of_nonneg h0]
theorem rot_left (x : Int) (r : Nat) (h0 : 0 ≤ x) (h1 : x < 18446744073709551616) (hr : r < 64) :
    bits .or .u64 (IntKind.u64.wrap (x * 2 ^ r)) (x / 2 ^ (64 - r)) = ((M.rot x.toNat r : Nat) : Int) := by
  have hx := nat64 h0 h1
  have hm : x.toNat * 2 ^ r % 2 ^ 64 < 2 ^ 64 := Nat.mod_lt _ (Nat.two_pow_pos _)
  have hd : x.toNat / 2 ^ (64 - r) ≤ x.toNat := Nat.div_le_self _ _
  rw [mul_nat x r h0, div_nat x _ h0, u64_or_nat _ _ (by omega) (by omega), M.rot_left x.toNat r hx hr]
theorem rot_right (x : Int) (m : Nat) (h0 : 0 ≤ x) (h1 : x < 18446744073709551616) (hm : m < 64) :
    bits .or .u64 (x / 2 ^ m) (IntKind.u64.wrap (x * 2 ^ (64 - m))) = ((M.rot x.toNat ((64 - m) % 64) : Nat) : Int) := by
  have hx := nat64 h0 h1
  have hm2 : x.toNat * 2 ^ (64 - m) % 2 ^ 64 < 2 ^ 64 := Nat.mod_lt _ (Nat.two_pow_pos _)
  have hd : x.toNat / 2 ^ m ≤ x.toNat := Nat.div_le_self _ _
  rw [mul_nat x _ h0, div_nat x _ h0, u64_or_nat _ _ (by omega) (by omega), M.rot_right x.toNat m hx hm]
theorem whole_spell (x : Int) (h0 : 0 ≤ x) (h1 : x < 18446744073709551616) : bits .or .u64 (x / 4294967296 * 4294967296) (x % 4294967296) = x := by
  rw [u64_or _ _ (by omega) (by omega) (by omega) (by omega)]
  have e : (x / 4294967296 * 4294967296).toNat = 2 ^ 32 * (x / 4294967296).toNat := by omega
  rw [e, ← Nat.two_pow_add_eq_or_of_lt (i := 32) (by omega)]; omega
theorem not_nat (a : Nat) (h : a < 2 ^ 64) : a ^^^ (2 ^ 64 - 1) = 2 ^ 64 - (a + 1) := by
  apply Nat.eq_of_testBit_eq; intro i
  rw [Nat.testBit_xor, Nat.testBit_two_pow_sub_one, Nat.testBit_two_pow_sub_succ h]
  by_cases hi : i < 64
  · simp [hi]
  · rw [M.high a h i (by omega)]; simp [hi]
theorem zig_spell (n : Int) (h0 : -9223372036854775808 ≤ n) (h1 : n ≤ 9223372036854775807) :
    bits .xor .u64 (IntKind.u64.wrap (IntKind.u64.wrap n * 2)) (IntKind.u64.wrap (n / 9223372036854775808)) = zigI n := by
  rw [IntKind.wrap_u64, IntKind.wrap_u64, IntKind.wrap_u64]
  unfold zigI
  by_cases h : 0 ≤ n
  · rw [if_pos h, u64_xor _ _ (by omega) (by omega) (by omega) (by omega)]
    have e1 : (n % 18446744073709551616 * 2 % 18446744073709551616).toNat = (2 * n).toNat := by omega
    have e2 : (n / 9223372036854775808 % 18446744073709551616).toNat = 0 := by omega
    rw [e1, e2, Nat.xor_zero]; omega
  · rw [if_neg h, u64_xor _ _ (by omega) (by omega) (by omega) (by omega)]
    have e2 : (n / 9223372036854775808 % 18446744073709551616).toNat = 2 ^ 64 - 1 := by omega
    rw [e2, not_nat _ (by omega)]; omega
theorem zag_spell (x : Int) (h0 : 0 ≤ x) (h1 : x < 18446744073709551616) :
    bits .xor .i64 (x / 2) (wrap64 (-wrap64 (bits .and .u64 x 1))) = zagI x := by
  rw [u64_and x 1 h0 h1 (by omega) (by omega)]
  have e : x.toNat &&& (1 : Int).toNat = x.toNat % 2 := Nat.and_two_pow_sub_one_eq_mod x.toNat 1
  rw [e]
  unfold zagI
  by_cases h : x % 2 = 0
  · rw [if_pos h]
    have e2 : x.toNat % 2 = 0 := by omega
    rw [e2]
    have e3 : wrap64 (-wrap64 ((0 : Nat) : Int)) = 0 := by decide +kernel
    rw [e3]
    have hb : bits .xor .i64 (x / 2) 0 = IntKind.i64.wrap ((BitVec.ofInt 64 (x / 2) ^^^ BitVec.ofInt 64 0).toNat : Int) := rfl
    rw [hb]
    obtain ⟨y, hy⟩ := Int.eq_ofNat_of_zero_le (show 0 ≤ x / 2 by omega)
    have hz : (BitVec.ofInt 64 (0 : Int)) = 0#64 := rfl
    rw [hy, hz, BitVec.xor_zero, ofInt_u64 _ (by omega)]
    simp [IntKind.wrap, IntKind.bits, IntKind.signed]; omega
  · rw [if_neg h]
    have e2 : x.toNat % 2 = 1 := by omega
    rw [e2]
    have e3 : wrap64 (-wrap64 ((1 : Nat) : Int)) = -1 := by decide +kernel
    rw [e3]
    have hb : bits .xor .i64 (x / 2) (-1) = IntKind.i64.wrap ((BitVec.ofInt 64 (x / 2) ^^^ BitVec.ofInt 64 (-1)).toNat : Int) := rfl
    rw [hb]
    obtain ⟨y, hy⟩ := Int.eq_ofNat_of_zero_le (show 0 ≤ x / 2 by omega)
    have hz : (BitVec.ofInt 64 (-1 : Int)).toNat = 2 ^ 64 - 1 := rfl
    rw [hy, BitVec.toNat_xor, hz, ofInt_u64 _ (by omega), not_nat _ (by omega)]
    have e4 : ((2 ^ 64 - (y + 1) : Nat) : Int) = (-(y : Int) - 1) + 18446744073709551616 := by omega
    rw [e4]
    simp [IntKind.wrap, IntKind.bits, IntKind.signed]; omega
end Go.Proofs.Ytfbdnnnmjefhbaa
