/- The contracts of what only computes: Low, Part of package bit; isWidth, Fits, Size of package pack; Power, Low, Part, Fits of the reference. -/
import Derived.Test.YtejbplcmicnfaaaProg
import Derived.Test.YtejbplcmicnfaaaMathI
import Derived.WalkKit
import Derived.WalkSpells
import Derived.WalkLawsBesides
import Derived.Lib.Hide
import Derived.Deep.QuietTactic
import Derived.BigQuiet
namespace Go.Proofs.Ytejbplcmicnfaaa
open Go.RowKit

theorem ret_int {k : IntKind} {a b : Int} (h : a = b) : Ending.returned (.int k a) = .returned (.int k b) := by rw [h]
theorem ret_ints {k : IntKind} {a b c d : Int} (h : a = b) (h2 : c = d) : Ending.returned (.tuple #[.int k a, .int k c]) = .returned (.tuple #[.int k b, .int k d]) := by rw [h, h2]
theorem ret_bool {a b : Bool} (h : a = b) : Ending.returned (.bool a) = .returned (.bool b) := by rw [h]

theorem low_is (x n r : Int) (w : World) (h0 : 0 ≤ x) (h1 : x < 18446744073709551616) (hr : Hid (lo x n = r)) :
    Calls Try.prog 23 #[.int .u64 x, .int .i64 n] w fun e w' => e = .returned (.int .u64 r) ∧ w = w' := by
  by_cases hn : n < 1
  · have H := Lib.hid (show lo x n = 0 by unfold lo; rw [if_pos hn])
    go_enter Try.func23, Try.ntmps23
    go_wp2
    go_ret
    exact ⟨ret_int (H.out.symm.trans hr.out), rfl⟩
  · by_cases hn2 : 64 ≤ n
    · have H := Lib.hid (show lo x n = x by unfold lo; rw [if_neg hn, if_pos (by omega)])
      go_enter Try.func23, Try.ntmps23
      go_wp2
      go_ret
      exact ⟨ret_int (H.out.symm.trans hr.out), rfl⟩
    · have H := Lib.hid (low_spell x n h0 h1 (by omega) (by omega))
      have hn3 : 1 ≤ n := by omega
      have hn4 : n < 64 := by omega
      go_enter Try.func23, Try.ntmps23
      go_wp2
      go_ret
      exact ⟨ret_int (H.out.trans hr.out), rfl⟩
theorem power_is (n : Nat) (r : Int) (w : World) (h : n < 64) (hr : Hid ((2 : Int) ^ n = r)) :
    Calls Try.prog 25 #[.int .i64 n] w fun e w' => e = .returned (.int .u64 r) ∧ w = w' := by
  go_enter Try.func25, Try.ntmps25
  go_wp2
  go_loop [3, 4] (fun p i => ∃ (k : Nat) (v : Int), k ≤ n ∧ i = .int .i64 k ∧ p = .int .u64 v ∧ Hid ((2 : Int) ^ k = v)) (fun _ i => n - (intOf i).toNat)
  case atStart => exact ⟨0, 1, Nat.zero_le _, rfl, rfl, Lib.hid rfl⟩
  case round =>
    obtain ⟨k, v, hk, rfl, rfl, hv⟩ := hrel
    by_cases hlt : k < n
    · have hv2 : Hid ((2 : Int) ^ (k + 1) = IntKind.u64.wrap (v * 2)) := Lib.hid (by
        rw [← hv.out, IntKind.wrap_u64, ← Int.pow_succ]; have := pow_lt (k + 1) (by omega); have h2 := pow_pos (k + 1); omega)
      go_wp2
      go_round
      case rel => exact ⟨k + 1, _, by omega, by go_num, rfl, hv2⟩
      case measure => simp [intOf]; omega
    · obtain rfl : k = n := by omega
      go_wp2
      go_ret
      exact ⟨ret_int (hv.out.symm.trans hr.out), rfl⟩
theorem max_low (f : Int) (h : f ≤ 0) : max f 0 = 0 := Int.max_eq_right h
theorem max_up (f : Int) (h : 0 ≤ f) : max f 0 = f := Int.max_eq_left h
theorem refLow_is (x n r : Int) (w : World) (h0 : 0 ≤ x) (h1 : x < 18446744073709551616) (hr : Hid (lo x n = r)) :
    Calls Try.prog 24 #[.int .u64 x, .int .i64 n] w fun e w' => e = .returned (.int .u64 r) ∧ w = w' := by
  by_cases hn : n < 1
  · have H := Lib.hid (show lo x n = 0 by unfold lo; rw [if_pos hn])
    go_enter Try.func24, Try.ntmps24
    go_wp2
    go_ret
    exact ⟨ret_int (H.out.symm.trans hr.out), rfl⟩
  · by_cases hn2 : 63 < n
    · have H := Lib.hid (show lo x n = x by unfold lo; rw [if_neg hn, if_pos hn2])
      go_enter Try.func24, Try.ntmps24
      go_wp2
      go_ret
      exact ⟨ret_int (H.out.symm.trans hr.out), rfl⟩
    · have H := Lib.hid (show lo x n = x % 2 ^ n.toNat by unfold lo; rw [if_neg hn, if_neg hn2])
      obtain ⟨k, rfl⟩ := Int.eq_ofNat_of_zero_le (show 0 ≤ n by omega)
      obtain ⟨p, hp⟩ : ∃ p : Int, (2 : Int) ^ k = p := ⟨_, rfl⟩
      have hp0 : 0 < p := by rw [← hp]; exact pow_pos k
      have hp1 : p < 18446744073709551616 := by rw [← hp]; exact pow_lt k (by omega)
      have hpz : (p == 0) = false := by simp; omega
      have HP := Lib.hid hp
      clear hp
      go_enter Try.func24, Try.ntmps24
      go_wp2_with fail
      refine (power_is k p _ (by omega) HP).mono ?_
      rintro e w' ⟨rfl, rfl⟩
      go_wp2_with fail
      go_ret
      exact ⟨ret_int (by rw [← hr.out, H.out, Int.toNat_natCast, HP.out]), rfl⟩
theorem part_is (x f n r : Int) (w : World) (h0 : 0 ≤ x) (h1 : x < 18446744073709551616) (hr : Hid (part x f n = r)) :
    Calls Try.prog 27 #[.int .u64 x, .int .i64 f, .int .i64 n] w fun e w' => e = .returned (.int .u64 r) ∧ w = w' := by
  by_cases hf : f < 0
  · have H := Lib.hid (show lo x n = r by rw [← hr.out, part_small x f n (by omega), max_low f (by omega)]; simp)
    go_enter Try.func27, Try.ntmps27
    go_wp2_with fail
    refine (low_is x n r _ h0 h1 H).mono ?_
    rintro e w' ⟨rfl, rfl⟩
    go_wp2_with fail
    go_ret
    exact ⟨rfl, rfl⟩
  · have hf0 : 0 ≤ f := by omega
    by_cases hf2 : f ≤ 64
    · have H := Lib.hid (show lo (x / 2 ^ f.toNat) n = r by
        rw [← hr.out]
        by_cases h64 : f = 64
        · subst h64
          rw [part_big x 64 n (by omega), show x / 2 ^ (64 : Int).toNat = 0 from big_div x h0 h1, lo_zero]
        · rw [part_small x f n (by omega), max_up f (by omega)])
      have hd := div_U64 x f.toNat h0 h1
      go_enter Try.func27, Try.ntmps27
      go_wp2_with fail
      refine (low_is _ n r _ hd.1 hd.2 H).mono ?_
      rintro e w' ⟨rfl, rfl⟩
      go_wp2_with fail
      go_ret
      exact ⟨rfl, rfl⟩
    · have hmin : min f.toNat 64 = 64 := by omega
      have H := Lib.hid (show lo 0 n = r by rw [← hr.out, part_big x f n (by omega), lo_zero])
      have hd := Lib.hid (big_div x h0 h1)
      go_enter Try.func27, Try.ntmps27
      go_wp2_with fail
      refine (low_is (x / 18446744073709551616) n r _ (by omega) (by omega) (Lib.hid (by rw [hd.out]; exact H.out))).mono ?_
      rintro e w' ⟨rfl, rfl⟩
      go_wp2_with fail
      go_ret
      exact ⟨rfl, rfl⟩
theorem refPart_is (x f n r : Int) (w : World) (h0 : 0 ≤ x) (h1 : x < 18446744073709551616) (hr : Hid (part x f n = r)) :
    Calls Try.prog 22 #[.int .u64 x, .int .i64 f, .int .i64 n] w fun e w' => e = .returned (.int .u64 r) ∧ w = w' := by
  by_cases hf : 63 < f
  · have H := Lib.hid (part_big x f n hf)
    go_enter Try.func22, Try.ntmps22
    go_wp2_with fail
    go_ret
    exact ⟨ret_int (H.out.symm.trans hr.out), rfl⟩
  · by_cases hneg : f < 0
    · have H2 := Lib.hid (show lo x n = r by rw [← hr.out, part_small x f n (by omega), max_low f (by omega)]; simp)
      go_enter Try.func22, Try.ntmps22
      go_wp2_with fail
      refine (power_is 0 1 _ (by omega) (Lib.hid rfl)).mono ?_
      rintro e w' ⟨rfl, rfl⟩
      go_wp2_with fail
      refine (refLow_is x n r _ h0 h1 H2).mono ?_
      rintro e w' ⟨rfl, rfl⟩
      go_wp2_with fail
      go_ret
      exact ⟨rfl, rfl⟩
    · obtain ⟨m, rfl⟩ := Int.eq_ofNat_of_zero_le (show 0 ≤ f by omega)
      have hm2 : m < 64 := by omega
      obtain ⟨p, hp⟩ : ∃ p : Int, (2 : Int) ^ m = p := ⟨_, rfl⟩
      have hp0 : 0 < p := by rw [← hp]; exact pow_pos m
      have hp1 : p < 18446744073709551616 := by rw [← hp]; exact pow_lt m hm2
      have hpz : (p == 0) = false := by simp; omega
      have HP := Lib.hid hp
      have hd := div_U64 x m h0 h1
      rw [hp] at hd
      have H2 := Lib.hid (show lo (x / p) n = r by rw [← hr.out, part_small x m n (by omega), max_up m (by omega), Int.toNat_natCast, HP.out])
      clear hp
      go_enter Try.func22, Try.ntmps22
      go_wp2_with fail
      refine (power_is m p _ (by omega) HP).mono ?_
      rintro e w' ⟨rfl, rfl⟩
      go_wp2_with fail
      refine (refLow_is (x / p) n r _ hd.1 hd.2 H2).mono ?_
      rintro e w' ⟨rfl, rfl⟩
      go_wp2_with fail
      go_ret
      exact ⟨rfl, rfl⟩
end Go.Proofs.Ytejbplcmicnfaaa
