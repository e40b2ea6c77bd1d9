/- The contracts of Part, Rot, Turn of package bit, and of Low, Part, Rot, Turn of the reference. -/
import Derived.Test.YtfbdnnnmjefhbaaSmall
import Derived.Deep.QuietTactic
import Derived.BigQuiet
namespace Go.Proofs.Ytfbdnnnmjefhbaa
open Go.RowKit

theorem max_low (f : Int) (h : f ≤ 0) : max f 0 = 0 := Int.max_eq_right h
theorem max_up (f : Int) (h : 0 ≤ f) : max f 0 = f := Int.max_eq_left h
theorem refLow_is (x n r : Int) (w : World) (h0 : 0 ≤ x) (h1 : x < 18446744073709551616) (hr : Hid (lo x n = r)) :
    Calls Try.prog 8 #[.int .u64 x, .int .i64 n] w fun e w' => e = .returned (.int .u64 r) ∧ w = w' := by
  by_cases hn : n < 1
  · have H := Lib.hid (show lo x n = 0 by unfold lo; rw [if_pos hn])
    go_enter Try.func8, Try.ntmps8
    go_wp2
    go_ret
    exact ⟨ret_int (H.out.symm.trans hr.out), rfl⟩
  · by_cases hn2 : 63 < n
    · have H := Lib.hid (show lo x n = x by unfold lo; rw [if_neg hn, if_pos hn2])
      go_enter Try.func8, Try.ntmps8
      go_wp2
      go_ret
      exact ⟨ret_int (H.out.symm.trans hr.out), rfl⟩
    · have H := Lib.hid (show lo x n = x % 2 ^ n.toNat by unfold lo; rw [if_neg hn, if_neg hn2])
      obtain ⟨k, rfl⟩ := Int.eq_ofNat_of_zero_le (show 0 ≤ n by omega)
      obtain ⟨p, hp⟩ : ∃ p : Int, (2 : Int) ^ k = p := ⟨_, rfl⟩
      have hp0 : 0 < p := by rw [← hp]; exact pow_pos k
      have hp1 : p < 18446744073709551616 := by rw [← hp]; exact pow_lt k (by omega)
      have hpz : (p == 0) = false := by simp; omega
      have HP := Lib.hid hp
      clear hp
      go_enter Try.func8, Try.ntmps8
      go_wp2_with fail
      refine (power_is k p _ (by omega) HP).mono ?_
      rintro e w' ⟨rfl, rfl⟩
      go_wp2_with fail
      go_ret
      exact ⟨ret_int (by rw [← hr.out, H.out, Int.toNat_natCast, HP.out]), rfl⟩
theorem part_is (x f n r : Int) (w : World) (h0 : 0 ≤ x) (h1 : x < 18446744073709551616) (hr : Hid (part x f n = r)) :
    Calls Try.prog 9 #[.int .u64 x, .int .i64 f, .int .i64 n] w fun e w' => e = .returned (.int .u64 r) ∧ w = w' := by
  by_cases hf : f < 0
  · have H := Lib.hid (show lo x n = r by rw [← hr.out, part_small x f n (by omega), max_low f (by omega)]; simp)
    go_enter Try.func9, Try.ntmps9
    go_wp2_with fail
    refine (low_is x n r _ h0 h1 H).mono ?_
    rintro e w' ⟨rfl, rfl⟩
    go_wp2_with fail
    go_ret
    exact ⟨rfl, rfl⟩
  · have hf0 : 0 ≤ f := by omega
    by_cases hf2 : f ≤ 64
    · have H := Lib.hid (show lo (x / 2 ^ f.toNat) n = r by
        rw [← hr.out]
        by_cases h64 : f = 64
        · subst h64
          rw [part_big x 64 n (by omega), show x / 2 ^ (64 : Int).toNat = 0 from big_div x h0 h1, lo_zero]
        · rw [part_small x f n (by omega), max_up f (by omega)])
      have hd := div_U64 x f.toNat h0 h1
      go_enter Try.func9, Try.ntmps9
      go_wp2_with fail
      refine (low_is _ n r _ hd.1 hd.2 H).mono ?_
      rintro e w' ⟨rfl, rfl⟩
      go_wp2_with fail
      go_ret
      exact ⟨rfl, rfl⟩
    · have hmin : min f.toNat 64 = 64 := by omega
      have H := Lib.hid (show lo 0 n = r by rw [← hr.out, part_big x f n (by omega), lo_zero])
      have hd := Lib.hid (big_div x h0 h1)
      go_enter Try.func9, Try.ntmps9
      go_wp2_with fail
      refine (low_is (x / 18446744073709551616) n r _ (by omega) (by omega) (Lib.hid (by rw [hd.out]; exact H.out))).mono ?_
      rintro e w' ⟨rfl, rfl⟩
      go_wp2_with fail
      go_ret
      exact ⟨rfl, rfl⟩
theorem refPart_is (x f n r : Int) (w : World) (h0 : 0 ≤ x) (h1 : x < 18446744073709551616) (hr : Hid (part x f n = r)) :
    Calls Try.prog 10 #[.int .u64 x, .int .i64 f, .int .i64 n] w fun e w' => e = .returned (.int .u64 r) ∧ w = w' := by
  by_cases hf : 63 < f
  · have H := Lib.hid (part_big x f n hf)
    go_enter Try.func10, Try.ntmps10
    go_wp2_with fail
    go_ret
    exact ⟨ret_int (H.out.symm.trans hr.out), rfl⟩
  · by_cases hneg : f < 0
    · have H2 := Lib.hid (show lo x n = r by rw [← hr.out, part_small x f n (by omega), max_low f (by omega)]; simp)
      go_enter Try.func10, Try.ntmps10
      go_wp2_with fail
      refine (power_is 0 1 _ (by omega) (Lib.hid rfl)).mono ?_
      rintro e w' ⟨rfl, rfl⟩
      go_wp2_with fail
      refine (refLow_is x n r _ h0 h1 H2).mono ?_
      rintro e w' ⟨rfl, rfl⟩
      go_wp2_with fail
      go_ret
      exact ⟨rfl, rfl⟩
    · obtain ⟨m, rfl⟩ := Int.eq_ofNat_of_zero_le (show 0 ≤ f by omega)
      have hm2 : m < 64 := by omega
      obtain ⟨p, hp⟩ : ∃ p : Int, (2 : Int) ^ m = p := ⟨_, rfl⟩
      have hp0 : 0 < p := by rw [← hp]; exact pow_pos m
      have hp1 : p < 18446744073709551616 := by rw [← hp]; exact pow_lt m hm2
      have hpz : (p == 0) = false := by simp; omega
      have HP := Lib.hid hp
      have hd := div_U64 x m h0 h1
      rw [hp] at hd
      have H2 := Lib.hid (show lo (x / p) n = r by rw [← hr.out, part_small x m n (by omega), max_up m (by omega), Int.toNat_natCast, HP.out])
      clear hp
      go_enter Try.func10, Try.ntmps10
      go_wp2_with fail
      refine (power_is m p _ (by omega) HP).mono ?_
      rintro e w' ⟨rfl, rfl⟩
      go_wp2_with fail
      refine (refLow_is (x / p) n r _ hd.1 hd.2 H2).mono ?_
      rintro e w' ⟨rfl, rfl⟩
      go_wp2_with fail
      go_ret
      exact ⟨rfl, rfl⟩
theorem rotI_pos (x n : Int) (h0 : 0 ≤ x) (h1 : x < 18446744073709551616) :
    bits .or .u64 (IntKind.u64.wrap (x * 2 ^ (n % 64).toNat)) (x / 2 ^ (64 - n % 64).toNat) = rotI x n := by
  have e : (64 - n % 64).toNat = 64 - (n % 64).toNat := by omega
  rw [e, rot_left x _ h0 h1 (by omega)]; rfl
theorem rotI_neg (x n m : Int) (h0 : 0 ≤ x) (h1 : x < 18446744073709551616) (hm : -n.tmod 64 = m) (hn : n < 0) :
    bits .or .u64 (x / 2 ^ m.toNat) (IntKind.u64.wrap (x * 2 ^ (64 - m).toNat)) = rotI x n := by
  have h2 := Int.tmod_lt_of_pos n (show (0 : Int) < 64 by omega)
  have h3 := Int.lt_tmod_of_pos n (show (0 : Int) < 64 by omega)
  have h4 : 0 ≤ (-n).tmod 64 := Int.tmod_nonneg _ (by omega)
  rw [Int.neg_tmod] at h4
  have e2 : n.tmod 64 = n - 64 * n.tdiv 64 := Int.tmod_def n 64
  have e : (64 - m).toNat = 64 - m.toNat := by omega
  rw [e, rot_right x _ h0 h1 (by omega)]
  unfold rotI
  rw [show (64 - m.toNat) % 64 = (n % 64).toNat by omega]
theorem rot_is (x n r : Int) (w : World) (h0 : 0 ≤ x) (h1 : x < 18446744073709551616) (hn0 : -9223372036854775808 ≤ n) (hn1 : n ≤ 9223372036854775807) (hr : Hid (rotI x n = r)) :
    Calls Try.prog 11 #[.int .u64 x, .int .i64 n] w fun e w' => e = .returned (.int .u64 r) ∧ w = w' := by
  by_cases hn : 0 ≤ n
  · have H := Lib.hid (rotI_pos x n h0 h1)
    have hm0 : 0 ≤ n % 64 := by omega
    have hm1 : n % 64 < 64 := by omega
    have hlt : decide (n % 64 < 0) = false := by simp; omega
    go_enter Try.func11, Try.ntmps11
    go_wp2_with fail
    refine (left_is x (n % 64) _ _ (by omega) (by omega) (Lib.hid rfl)).mono ?_
    rintro e w' ⟨rfl, rfl⟩
    go_wp2_with fail
    refine (right_is x (64 - n % 64) _ _ (by omega) (by omega) (Lib.hid rfl)).mono ?_
    rintro e w' ⟨rfl, rfl⟩
    go_wp2_with fail
    go_ret
    exact ⟨ret_int (H.out.trans hr.out), rfl⟩
  · have hng : n < 0 := by omega
    have h2 := Int.tmod_lt_of_pos n (show (0 : Int) < 64 by omega)
    have h3 := Int.lt_tmod_of_pos n (show (0 : Int) < 64 by omega)
    have h4 : n.tmod 64 ≤ 0 := by have h := Int.tmod_nonneg (a := -n) 64 (by omega); rw [Int.neg_tmod] at h; omega
    have H := Lib.hid (rotI_neg x n (-n.tmod 64) h0 h1 rfl hng)
    rw [show (64 - -n.tmod 64) = 64 + n.tmod 64 by omega] at H
    by_cases ht : n.tmod 64 < 0
    · go_enter Try.func11, Try.ntmps11
      go_wp2_with fail
      refine (right_is x (-n.tmod 64) _ _ (by omega) (by omega) (Lib.hid rfl)).mono ?_
      rintro e w' ⟨rfl, rfl⟩
      go_wp2_with fail
      refine (left_is x (64 + n.tmod 64) _ _ (by omega) (by omega) (Lib.hid rfl)).mono ?_
      rintro e w' ⟨rfl, rfl⟩
      go_wp2_with fail
      go_ret
      exact ⟨ret_int (H.out.trans hr.out), rfl⟩
    · have H2 : Hid (bits .or .u64 (IntKind.u64.wrap (x * 2 ^ (n.tmod 64).toNat)) (x / 2 ^ (64 - n.tmod 64).toNat) = r) := Lib.hid (by
        have e : n.tmod 64 = 0 := by omega
        have e2 : n.tmod 64 = n - 64 * n.tdiv 64 := Int.tmod_def n 64
        have e3 : n % 64 = 0 := by omega
        have e4 := rotI_pos x n h0 h1
        rw [e3] at e4
        rw [e, e4, hr.out])
      go_enter Try.func11, Try.ntmps11
      go_wp2_with fail
      refine (left_is x (n.tmod 64) _ _ (by omega) (by omega) (Lib.hid rfl)).mono ?_
      rintro e w' ⟨rfl, rfl⟩
      go_wp2_with fail
      refine (right_is x (64 - n.tmod 64) _ _ (by omega) (by omega) (Lib.hid rfl)).mono ?_
      rintro e w' ⟨rfl, rfl⟩
      go_wp2_with fail
      go_ret
      exact ⟨ret_int H2.out, rfl⟩
end Go.Proofs.Ytfbdnnnmjefhbaa
