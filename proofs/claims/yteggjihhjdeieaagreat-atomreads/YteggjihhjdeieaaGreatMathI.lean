/- What Low and Part of package bit answer, and how the model's words for shifts and masks come to it. -/
import Derived.Test.YteggjihhjdeieaaGreatMath
import Derived.WalkKit
import Derived.Laws.BitsAllLaws
import Derived.Lib.Hide
namespace Go.Proofs.YteggjihhjdeieaaGreat
open Go.RowKit

def lo (x n : Int) : Int := if n < 1 then 0 else if 63 < n then x else x % 2 ^ n.toNat
def part (x f n : Int) : Int := if 63 < f then 0 else lo (x / 2 ^ (max f 0).toNat) n
def U64 (x : Int) : Prop := 0 ≤ x ∧ x < 18446744073709551616
def I64 (x : Int) : Prop := -9223372036854775808 ≤ x ∧ x ≤ 9223372036854775807

theorem nat64 {x : Int} (h0 : 0 ≤ x) (h1 : x < 18446744073709551616) : x.toNat < 2 ^ 64 := by omega
theorem pow_pos (k : Nat) : (0 : Int) < 2 ^ k := by have := Int.pow_pos (n := (2 : Int)) (m := k) (by omega); exact this
theorem pow_lt (k : Nat) (h : k < 64) : (2 : Int) ^ k < 18446744073709551616 := by
  have : (2 : Nat) ^ k < 2 ^ 64 := Nat.pow_lt_pow_right (by omega) h
  have e : ((2 ^ k : Nat) : Int) = (2 : Int) ^ k := by rw [Int.natCast_pow]; rfl
  rw [← e]; omega
theorem pow_nat (k : Nat) : ((2 ^ k : Nat) : Int) = (2 : Int) ^ k := by rw [Int.natCast_pow]; rfl
theorem lo_U64 (x n : Int) (h0 : 0 ≤ x) (h1 : x < 18446744073709551616) : U64 (lo x n) := by
  unfold lo U64; split
  · omega
  · split
    · omega
    · have := pow_pos n.toNat; have h2 := Int.emod_nonneg x (show (2 : Int) ^ n.toNat ≠ 0 by omega)
      have h3 := Int.emod_lt_of_pos x (pow_pos n.toNat); have h4 := pow_lt n.toNat (by omega); omega
theorem div_U64 (x : Int) (k : Nat) (h0 : 0 ≤ x) (h1 : x < 18446744073709551616) : U64 (x / 2 ^ k) := by
  have hp := pow_pos k
  have h2 := Int.ediv_nonneg h0 (show 0 ≤ (2 : Int) ^ k by omega)
  have h3 : x / 2 ^ k ≤ x := Int.ediv_le_self _ h0
  unfold U64; omega
theorem low_spell (x n : Int) (h0 : 0 ≤ x) (h1 : x < 18446744073709551616) (hn : 1 ≤ n) (hn2 : n < 64) :
    bits .and .u64 x (IntKind.u64.wrap (IntKind.u64.wrap (2 ^ n.toNat) - 1)) = lo x n := by
  have hp := pow_pos n.toNat
  have hl := pow_lt n.toNat (by omega)
  have e : IntKind.u64.wrap (IntKind.u64.wrap (2 ^ n.toNat) - 1) = 2 ^ n.toNat - 1 := by
    rw [IntKind.wrap_u64, IntKind.wrap_u64]; omega
  rw [e, u64_and x _ h0 h1 (by omega) (by omega)]
  have e2 : ((2 : Int) ^ n.toNat - 1).toNat = 2 ^ n.toNat - 1 := by
    have := pow_nat n.toNat; have h2 := Nat.two_pow_pos n.toNat; omega
  rw [e2, Nat.and_two_pow_sub_one_eq_mod]
  unfold lo; rw [if_neg (by omega), if_neg (by omega), ← pow_nat, Int.natCast_emod, Int.toNat_of_nonneg h0]
theorem lo_zero (n : Int) : lo 0 n = 0 := by unfold lo; split; rfl; split; rfl; simp
theorem part_big (x f n : Int) (h : 63 < f) : part x f n = 0 := by unfold part; rw [if_pos h]
theorem part_small (x f n : Int) (h : f ≤ 63) : part x f n = lo (x / 2 ^ (max f 0).toNat) n := by unfold part; rw [if_neg (by omega)]
theorem big_div (x : Int) (h0 : 0 ≤ x) (h1 : x < 18446744073709551616) : x / 18446744073709551616 = 0 := by omega
theorem mul_nat (x : Int) (k : Nat) (h0 : 0 ≤ x) : IntKind.u64.wrap (x * 2 ^ k) = ((x.toNat * 2 ^ k % 2 ^ 64 : Nat) : Int) := by
  rw [IntKind.wrap_u64, Int.natCast_emod, Int.natCast_mul, pow_nat, Int.toNat_of_nonneg h0]; rfl
theorem div_nat (x : Int) (k : Nat) (h0 : 0 ≤ x) : x / 2 ^ k = ((x.toNat / 2 ^ k : Nat) : Int) := by
  rw [Int.natCast_ediv, pow_nat, Int.toNat_of_nonneg h0]
theorem or_add (x c : Int) (k : Nat) (h0 : 0 ≤ x) (h1 : x < 2 ^ k) (hc : 0 ≤ c) (hx : x < 18446744073709551616) (hm : c * 2 ^ k < 18446744073709551616) : bits .or .u64 x (IntKind.u64.wrap (c * 2 ^ k)) = x + c * 2 ^ k := by
  have hp := pow_pos k
  have h2 := Int.mul_nonneg hc (show (0 : Int) ≤ 2 ^ k by omega)
  have e : IntKind.u64.wrap (c * 2 ^ k) = c * 2 ^ k := by rw [IntKind.wrap_u64]; omega
  rw [e, u64_or _ _ h0 hx h2 hm, Nat.or_comm]
  obtain ⟨d, rfl⟩ := Int.eq_ofNat_of_zero_le hc
  have e2 : ((d : Int) * 2 ^ k).toNat = d * 2 ^ k := by rw [← pow_nat, ← Int.natCast_mul, Int.toNat_natCast]
  have h3 : x.toNat < 2 ^ k := by have := pow_nat k; omega
  rw [e2, nat_join k _ _ (Nat.mul_mod_left ..) h3, Int.natCast_add, Int.natCast_mul, pow_nat]
  omega
theorem or_more (g : Int) (h0 : 0 ≤ g) (h1 : g < 128) : bits .or .u8 g 128 = g + 128 := by
  rw [u8_or _ _ h0 (by omega) (by omega) (by omega), Nat.or_comm, nat_join 7 _ _ (by decide) (show g.toNat < 2 ^ 7 by omega)]
  omega
end Go.Proofs.YteggjihhjdeieaaGreat
