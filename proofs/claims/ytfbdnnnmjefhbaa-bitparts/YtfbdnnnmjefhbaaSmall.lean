/- The contracts of the small functions of package bit and of the reference: those that compute in a straight line, Power and Bit. -/
import Derived.Test.YtfbdnnnmjefhbaaProg
import Derived.Test.YtfbdnnnmjefhbaaMathI
import Derived.WalkKit
import Derived.WalkSpells
import Derived.WalkLawsBesides
import Derived.Lib.Hide
namespace Go.Proofs.Ytfbdnnnmjefhbaa
open Go.RowKit

theorem ret_int {k : IntKind} {a b : Int} (h : a = b) : Ending.returned (.int k a) = .returned (.int k b) := by rw [h]
theorem ret_ints {k : IntKind} {a b c d : Int} (h : a = b) (h2 : c = d) : Ending.returned (.tuple #[.int k a, .int k c]) = .returned (.tuple #[.int k b, .int k d]) := by rw [h, h2]
theorem ret_bool {a b : Bool} (h : a = b) : Ending.returned (.bool a) = .returned (.bool b) := by rw [h]

theorem low_is (x n r : Int) (w : World) (h0 : 0 ≤ x) (h1 : x < 18446744073709551616) (hr : Hid (lo x n = r)) :
    Calls Try.prog 7 #[.int .u64 x, .int .i64 n] w fun e w' => e = .returned (.int .u64 r) ∧ w = w' := by
  by_cases hn : n < 1
  · have H := Lib.hid (show lo x n = 0 by unfold lo; rw [if_pos hn])
    go_enter Try.func7, Try.ntmps7
    go_wp2
    go_ret
    exact ⟨ret_int (H.out.symm.trans hr.out), rfl⟩
  · by_cases hn2 : 64 ≤ n
    · have H := Lib.hid (show lo x n = x by unfold lo; rw [if_neg hn, if_pos (by omega)])
      go_enter Try.func7, Try.ntmps7
      go_wp2
      go_ret
      exact ⟨ret_int (H.out.symm.trans hr.out), rfl⟩
    · have H := Lib.hid (low_spell x n h0 h1 (by omega) (by omega))
      have hn3 : 1 ≤ n := by omega
      have hn4 : n < 64 := by omega
      go_enter Try.func7, Try.ntmps7
      go_wp2
      go_ret
      exact ⟨ret_int (H.out.trans hr.out), rfl⟩
theorem left_is (x n r : Int) (w : World) (h0 : 0 ≤ n) (h1 : n ≤ 64) (hr : Hid (IntKind.u64.wrap (x * 2 ^ n.toNat) = r)) :
    Calls Try.prog 29 #[.int .u64 x, .int .i64 n] w fun e w' => e = .returned (.int .u64 r) ∧ w = w' := by
  go_enter Try.func29, Try.ntmps29
  go_wp2
  go_ret
  exact ⟨ret_int hr.out, rfl⟩
theorem right_is (x n r : Int) (w : World) (h0 : 0 ≤ n) (h1 : n ≤ 64) (hr : Hid (x / 2 ^ n.toNat = r)) :
    Calls Try.prog 30 #[.int .u64 x, .int .i64 n] w fun e w' => e = .returned (.int .u64 r) ∧ w = w' := by
  go_enter Try.func30, Try.ntmps30
  go_wp2
  go_ret
  exact ⟨ret_int hr.out, rfl⟩
theorem halves_is (x a b : Int) (w : World) (h0 : 0 ≤ x) (h1 : x < 18446744073709551616) (ha : Hid (x / 4294967296 = a)) (hb : Hid (x % 4294967296 = b)) :
    Calls Try.prog 16 #[.int .u64 x] w fun e w' => e = .returned (.tuple #[.int .u32 a, .int .u32 b]) ∧ w = w' := by
  go_enter Try.func16, Try.ntmps16
  go_wp2
  go_ret2
  exact ⟨ret_ints ha.out hb.out, rfl⟩
theorem whole_is (a b r : Int) (w : World) (h0 : 0 ≤ a) (h1 : a < 4294967296) (h2 : 0 ≤ b) (h3 : b < 4294967296) (hr : Hid (bits .or .u64 (a * 4294967296) b = r)) :
    Calls Try.prog 27 #[.int .u32 a, .int .u32 b] w fun e w' => e = .returned (.int .u64 r) ∧ w = w' := by
  go_enter Try.func27, Try.ntmps27
  go_wp2
  go_ret
  exact ⟨ret_int hr.out, rfl⟩
theorem zig_is (n r : Int) (w : World) (h0 : -9223372036854775808 ≤ n) (h1 : n ≤ 9223372036854775807) (hr : Hid (zigI n = r)) :
    Calls Try.prog 23 #[.int .i64 n] w fun e w' => e = .returned (.int .u64 r) ∧ w = w' := by
  have H := Lib.hid (zig_spell n h0 h1)
  go_enter Try.func23, Try.ntmps23
  go_wp2
  go_ret
  exact ⟨ret_int (H.out.trans hr.out), rfl⟩
theorem zag_is (x r : Int) (w : World) (h0 : 0 ≤ x) (h1 : x < 18446744073709551616) (hr : Hid (zagI x = r)) :
    Calls Try.prog 25 #[.int .u64 x] w fun e w' => e = .returned (.int .i64 r) ∧ w = w' := by
  have H := Lib.hid (zag_spell x h0 h1)
  go_enter Try.func25, Try.ntmps25
  go_wp2
  go_ret
  exact ⟨ret_int (H.out.trans hr.out), rfl⟩
theorem refZig_is (n r : Int) (w : World) (h0 : -9223372036854775808 ≤ n) (h1 : n ≤ 9223372036854775807) (hr : Hid (zigI n = r)) :
    Calls Try.prog 24 #[.int .i64 n] w fun e w' => e = .returned (.int .u64 r) ∧ w = w' := by
  by_cases h : 0 ≤ n
  · have H := Lib.hid (show zigI n = 2 * n by unfold zigI; rw [if_pos h])
    go_enter Try.func24, Try.ntmps24
    go_wp2
    go_ret
    exact ⟨ret_int (H.out.symm.trans hr.out), rfl⟩
  · have H := Lib.hid (show zigI n = 2 * -(n + 1) + 1 by unfold zigI; rw [if_neg h]; omega)
    have h2 : n < 0 := by omega
    go_enter Try.func24, Try.ntmps24
    go_wp2
    go_ret
    exact ⟨ret_int (H.out.symm.trans hr.out), rfl⟩
theorem refZag_is (x r : Int) (w : World) (h0 : 0 ≤ x) (h1 : x < 18446744073709551616) (hr : Hid (zagI x = r)) :
    Calls Try.prog 26 #[.int .u64 x] w fun e w' => e = .returned (.int .i64 r) ∧ w = w' := by
  cases h : (x % 2 == 0)
  · have H := Lib.hid (show zagI x = -(x / 2) - 1 by unfold zagI; rw [if_neg (by simpa using h)])
    go_enter Try.func26, Try.ntmps26
    go_wp2
    go_ret
    exact ⟨ret_int (H.out.symm.trans hr.out), rfl⟩
  · have H := Lib.hid (show zagI x = x / 2 by unfold zagI; rw [if_pos (by simpa using h)])
    go_enter Try.func26, Try.ntmps26
    go_wp2
    go_ret
    exact ⟨ret_int (H.out.symm.trans hr.out), rfl⟩
theorem mod_spell (n : Int) : (wrap64 (n.tmod 64 + 64)).tmod 64 = n % 64 := by
  have h1 : -64 < n.tmod 64 ∧ n.tmod 64 < 64 := by
    have := Int.tmod_lt_of_pos n (show (0 : Int) < 64 by omega)
    have h2 := Int.lt_tmod_of_pos n (show (0 : Int) < 64 by omega)
    omega
  have e : wrap64 (n.tmod 64 + 64) = n.tmod 64 + 64 := by
    unfold wrap64; omega
  have e2 : n.tmod 64 = n - 64 * n.tdiv 64 := Int.tmod_def n 64
  rw [e, Int.tmod_eq_emod_of_nonneg (by omega)]; omega
theorem mod_is (n r : Int) (w : World) (hr : Hid (n % 64 = r)) :
    Calls Try.prog 32 #[.int .i64 n] w fun e w' => e = .returned (.int .i64 r) ∧ w = w' := by
  have H := Lib.hid (mod_spell n)
  go_enter Try.func32, Try.ntmps32
  go_wp2
  go_ret
  exact ⟨ret_int (H.out.trans hr.out), rfl⟩
theorem power_is (n : Nat) (r : Int) (w : World) (h : n < 64) (hr : Hid ((2 : Int) ^ n = r)) :
    Calls Try.prog 28 #[.int .i64 n] w fun e w' => e = .returned (.int .u64 r) ∧ w = w' := by
  go_enter Try.func28, Try.ntmps28
  go_wp2
  go_loop [3, 4] (fun p i => ∃ (k : Nat) (v : Int), k ≤ n ∧ i = .int .i64 k ∧ p = .int .u64 v ∧ Hid ((2 : Int) ^ k = v)) (fun _ i => n - (intOf i).toNat)
  case atStart => exact ⟨0, 1, Nat.zero_le _, rfl, rfl, Lib.hid rfl⟩
  case round =>
    obtain ⟨k, v, hk, rfl, rfl, hv⟩ := hrel
    by_cases hlt : k < n
    · have hv2 : Hid ((2 : Int) ^ (k + 1) = IntKind.u64.wrap (v * 2)) := Lib.hid (by
        rw [← hv.out, IntKind.wrap_u64, ← Int.pow_succ]; have := pow_lt (k + 1) (by omega); have h2 := pow_pos (k + 1); omega)
      go_wp2
      go_round
      case rel => exact ⟨k + 1, _, by omega, by go_num, rfl, hv2⟩
      case measure => simp [intOf]; omega
    · obtain rfl : k = n := by omega
      go_wp2
      go_ret
      exact ⟨ret_int (hv.out.symm.trans hr.out), rfl⟩
theorem div_succ (x : Int) (k : Nat) : x / 2 ^ (k + 1) = x / 2 ^ k / 2 := by
  rw [Int.pow_succ, Int.ediv_ediv_of_nonneg (by have := pow_pos k; omega)]
theorem bit_spell (x : Int) (k : Nat) (h0 : 0 ≤ x) : x / 2 ^ k % 2 = bitI x k := by
  unfold bitI; rw [Nat.toNat_testBit, div_nat x k h0]; omega
theorem bit_is (x : Int) (n : Nat) (r : Int) (w : World) (h0 : 0 ≤ x) (h1 : x < 18446744073709551616) (h : n < 64) (hr : Hid (bitI x n = r)) :
    Calls Try.prog 31 #[.int .u64 x, .int .i64 n] w fun e w' => e = .returned (.int .u64 r) ∧ w = w' := by
  go_enter Try.func31, Try.ntmps31
  go_wp2
  go_loop [0, 5] (fun p i => ∃ (k : Nat) (v : Int), k ≤ n ∧ i = .int .i64 k ∧ p = .int .u64 v ∧ 0 ≤ v ∧ v < 18446744073709551616 ∧ Hid (x / 2 ^ k = v)) (fun _ i => n - (intOf i).toNat)
  case atStart => exact ⟨0, x, Nat.zero_le _, rfl, rfl, h0, h1, Lib.hid (by simp)⟩
  case round =>
    obtain ⟨k, v, hk, rfl, rfl, hv0, hv1, hv⟩ := hrel
    by_cases hlt : k < n
    · have hv2 : Hid (x / 2 ^ (k + 1) = v / 2) := Lib.hid (by rw [div_succ, hv.out])
      go_wp2
      go_round
      case rel => exact ⟨k + 1, _, by omega, by go_num, rfl, by omega, by omega, hv2⟩
      case measure => simp [intOf]; omega
    · obtain rfl : k = n := by omega
      have H := Lib.hid (bit_spell x k h0)
      go_wp2
      go_ret
      exact ⟨ret_int (by rw [← hv.out, H.out, hr.out]), rfl⟩
end Go.Proofs.Ytfbdnnnmjefhbaa
