/- The contracts of Low, Part and Size, and of Power of the reference: they only compute. -/
import Derived.Test.YteggjihhjdeieaaGreatProg
import Derived.Test.YteggjihhjdeieaaGreatMathI
import Derived.WalkKit
import Derived.WalkSpells
import Derived.WalkLawsBesides
import Derived.Lib.Hide
import Derived.Deep.QuietTactic
import Derived.BigQuiet
namespace Go.Proofs.YteggjihhjdeieaaGreat
open Go.RowKit

theorem ret_int {k : IntKind} {a b : Int} (h : a = b) : Ending.returned (.int k a) = .returned (.int k b) := by rw [h]
theorem ret_ints {k : IntKind} {a b c d : Int} (h : a = b) (h2 : c = d) : Ending.returned (.tuple #[.int k a, .int k c]) = .returned (.tuple #[.int k b, .int k d]) := by rw [h, h2]
theorem ret_bool {a b : Bool} (h : a = b) : Ending.returned (.bool a) = .returned (.bool b) := by rw [h]
theorem low_is (x n r : Int) (w : World) (h0 : 0 ≤ x) (h1 : x < 18446744073709551616) (hr : Hid (lo x n = r)) :
    Calls Tryz.prog 112 #[.int .u64 x, .int .i64 n] w fun e w' => e = .returned (.int .u64 r) ∧ w = w' := by
  by_cases hn : n < 1
  · have H := Lib.hid (show lo x n = 0 by unfold lo; rw [if_pos hn])
    go_enter Tryz.func112, Tryz.ntmps112
    go_wp2
    go_ret
    exact ⟨ret_int (H.out.symm.trans hr.out), rfl⟩
  · by_cases hn2 : 64 ≤ n
    · have H := Lib.hid (show lo x n = x by unfold lo; rw [if_neg hn, if_pos (by omega)])
      go_enter Tryz.func112, Tryz.ntmps112
      go_wp2
      go_ret
      exact ⟨ret_int (H.out.symm.trans hr.out), rfl⟩
    · have H := Lib.hid (low_spell x n h0 h1 (by omega) (by omega))
      have hn3 : 1 ≤ n := by omega
      have hn4 : n < 64 := by omega
      go_enter Tryz.func112, Tryz.ntmps112
      go_wp2
      go_ret
      exact ⟨ret_int (H.out.trans hr.out), rfl⟩
theorem power_is (n : Nat) (r : Int) (w : World) (h : n < 64) (hr : Hid ((2 : Int) ^ n = r)) :
    Calls Tryz.prog 78 #[.int .i64 n] w fun e w' => e = .returned (.int .u64 r) ∧ w = w' := by
  go_enter Tryz.func78, Tryz.ntmps78
  go_wp2
  go_loop [3, 4] (fun p i => ∃ (k : Nat) (v : Int), k ≤ n ∧ i = .int .i64 k ∧ p = .int .u64 v ∧ Hid ((2 : Int) ^ k = v)) (fun _ i => n - (intOf i).toNat)
  case atStart => exact ⟨0, 1, Nat.zero_le _, rfl, rfl, Lib.hid rfl⟩
  case round =>
    obtain ⟨k, v, hk, rfl, rfl, hv⟩ := hrel
    by_cases hlt : k < n
    · have hv2 : Hid ((2 : Int) ^ (k + 1) = IntKind.u64.wrap (v * 2)) := Lib.hid (by
        rw [← hv.out, IntKind.wrap_u64, ← Int.pow_succ]; have := pow_lt (k + 1) (by omega); have h2 := pow_pos (k + 1); omega)
      go_wp2
      go_round
      case rel => exact ⟨k + 1, _, by omega, by go_num, rfl, hv2⟩
      case measure => simp [intOf]; omega
    · obtain rfl : k = n := by omega
      go_wp2
      go_ret
      exact ⟨ret_int (hv.out.symm.trans hr.out), rfl⟩
theorem max_low (f : Int) (h : f ≤ 0) : max f 0 = 0 := Int.max_eq_right h
theorem max_up (f : Int) (h : 0 ≤ f) : max f 0 = f := Int.max_eq_left h
theorem part_is (x f n r : Int) (w : World) (h0 : 0 ≤ x) (h1 : x < 18446744073709551616) (hr : Hid (part x f n = r)) :
    Calls Tryz.prog 110 #[.int .u64 x, .int .i64 f, .int .i64 n] w fun e w' => e = .returned (.int .u64 r) ∧ w = w' := by
  by_cases hf : f < 0
  · have H := Lib.hid (show lo x n = r by rw [← hr.out, part_small x f n (by omega), max_low f (by omega)]; simp)
    go_enter Tryz.func110, Tryz.ntmps110
    go_wp2_with fail
    refine (low_is x n r _ h0 h1 H).mono ?_
    rintro e w' ⟨rfl, rfl⟩
    go_wp2_with fail
    go_ret
    exact ⟨rfl, rfl⟩
  · have hf0 : 0 ≤ f := by omega
    by_cases hf2 : f ≤ 64
    · have H := Lib.hid (show lo (x / 2 ^ f.toNat) n = r by
        rw [← hr.out]
        by_cases h64 : f = 64
        · subst h64
          rw [part_big x 64 n (by omega), show x / 2 ^ (64 : Int).toNat = 0 from big_div x h0 h1, lo_zero]
        · rw [part_small x f n (by omega), max_up f (by omega)])
      have hd := div_U64 x f.toNat h0 h1
      go_enter Tryz.func110, Tryz.ntmps110
      go_wp2_with fail
      refine (low_is _ n r _ hd.1 hd.2 H).mono ?_
      rintro e w' ⟨rfl, rfl⟩
      go_wp2_with fail
      go_ret
      exact ⟨rfl, rfl⟩
    · have hmin : min f.toNat 64 = 64 := by omega
      have H := Lib.hid (show lo 0 n = r by rw [← hr.out, part_big x f n (by omega), lo_zero])
      have hd := Lib.hid (big_div x h0 h1)
      go_enter Tryz.func110, Tryz.ntmps110
      go_wp2_with fail
      refine (low_is (x / 18446744073709551616) n r _ (by omega) (by omega) (Lib.hid (by rw [hd.out]; exact H.out))).mono ?_
      rintro e w' ⟨rfl, rfl⟩
      go_wp2_with fail
      go_ret
      exact ⟨rfl, rfl⟩
theorem size_is (x : Int) (n : Nat) (w : World) (h0 : 0 ≤ x) (h1 : x < 18446744073709551616) (hn : Hid ((M.var x).length = n)) (hn1 : n ≤ 10) :
    Calls Tryz.prog 107 #[.int .u64 x] w fun e w' => e = .returned (.int .i64 n) ∧ w = w' := by
  have HL := Lib.hid ((M.var_left x h0).symm.trans hn.out)
  go_enter Tryz.func107, Tryz.ntmps107
  go_wp2
  go_loop [0, 3] (fun t g => ∃ (y : Int) (k : Nat), 0 ≤ y ∧ y < 18446744073709551616 ∧ t = .int .u64 y ∧ g = .int .i64 k ∧ k ≤ 10 ∧ Hid (k + M.left y = n)) (fun t _ => (intOf t).toNat)
  case atStart => exact ⟨x / 128, 1, by omega, by omega, rfl, rfl, by omega, HL⟩
  case round =>
    obtain ⟨y, k, hy0, hy1, rfl, rfl, hk, hrel⟩ := hrel
    by_cases hlt : 0 < y
    · have hs := Lib.hid (M.left_step y hlt)
      have hnext : Hid (k + 1 + M.left (y / 128) = n) := Lib.hid (by have := hrel.out; have h2 := hs.out; omega)
      have hk2 : k + 1 ≤ 10 := by have := hnext.out; omega
      go_wp2
      go_round
      case rel => exact ⟨y / 128, k + 1, by omega, by omega, rfl, by go_num, hk2, hnext⟩
      case measure => simp [intOf]; omega
    · obtain rfl : y = 0 := by omega
      go_wp2
      go_ret
      exact ⟨ret_int (by have := hrel.out; simp [M.left] at this; omega), rfl⟩
end Go.Proofs.YteggjihhjdeieaaGreat
