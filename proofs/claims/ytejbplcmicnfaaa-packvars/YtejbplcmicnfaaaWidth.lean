/- The contracts of isWidth, Fits and Size of package pack, and of Fits of the reference. -/
import Derived.Test.YtejbplcmicnfaaaSmall
import Derived.Test.YtejbplcmicnfaaaMath
namespace Go.Proofs.Ytejbplcmicnfaaa
open Go.RowKit

def widthOk (n : Int) : Bool := decide (1 ≤ n ∧ n ≤ 8)
def fitsB (x n : Int) : Bool := widthOk n && decide (lo x (8 * n) = x)

theorem isWidth_is (n : Int) (b : Bool) (w : World) (hb : Hid (widthOk n = b)) :
    Calls Try.prog 19 #[.int .i64 n] w fun e w' => e = .returned (.bool b) ∧ w = w' := by
  by_cases h1 : n < 1
  · have H := Lib.hid (show widthOk n = false by unfold widthOk; simp; omega)
    go_enter Try.func19, Try.ntmps19
    go_wp2
    go_ret
    exact ⟨ret_bool (H.out.symm.trans hb.out), rfl⟩
  · by_cases h2 : 8 < n
    · have H := Lib.hid (show widthOk n = false by unfold widthOk; simp; omega)
      go_enter Try.func19, Try.ntmps19
      go_wp2
      go_ret
      exact ⟨ret_bool (H.out.symm.trans hb.out), rfl⟩
    · have H := Lib.hid (show widthOk n = true by unfold widthOk; simp; omega)
      go_enter Try.func19, Try.ntmps19
      go_wp2
      go_ret
      exact ⟨ret_bool (H.out.symm.trans hb.out), rfl⟩
theorem fits_is (x n : Int) (b : Bool) (w : World) (h0 : 0 ≤ x) (h1 : x < 18446744073709551616) (hb : Hid (fitsB x n = b)) :
    Calls Try.prog 12 #[.int .u64 x, .int .i64 n] w fun e w' => e = .returned (.bool b) ∧ w = w' := by
  cases hw : widthOk n
  · have H := Lib.hid (show fitsB x n = false by unfold fitsB; rw [hw]; rfl)
    have HW := Lib.hid hw
    clear hw
    go_enter Try.func12, Try.ntmps12
    go_wp2_with fail
    refine (isWidth_is n false _ HW).mono ?_
    rintro e w' ⟨rfl, rfl⟩
    go_wp2_with fail
    go_ret
    exact ⟨ret_bool (H.out.symm.trans hb.out), rfl⟩
  · have hn : 1 ≤ n ∧ n ≤ 8 := by unfold widthOk at hw; simpa using hw
    obtain ⟨hn0, hn1⟩ := hn
    have H := Lib.hid (show fitsB x n = decide (lo x (8 * n) = x) by unfold fitsB; rw [hw]; rfl)
    have HW := Lib.hid hw
    clear hw
    obtain ⟨r, hr⟩ : ∃ r, lo x (8 * n) = r := ⟨_, rfl⟩
    rw [hr] at H
    have HR := Lib.hid hr
    clear hr
    go_enter Try.func12, Try.ntmps12
    go_wp2_with fail
    refine (isWidth_is n true _ HW).mono ?_
    rintro e w' ⟨rfl, rfl⟩
    go_wp2_with fail
    refine (low_is x (8 * n) r _ h0 h1 HR).mono ?_
    rintro e w' ⟨rfl, rfl⟩
    go_wp2_with fail
    go_ret
    exact ⟨ret_bool (by rw [← hb.out, H.out]; first | rfl | (rw [Bool.eq_iff_iff]; simp)), rfl⟩
theorem refFits_is (x n : Int) (b : Bool) (w : World) (h0 : 0 ≤ x) (h1 : x < 18446744073709551616) (hb : Hid (fitsB x n = b)) :
    Calls Try.prog 13 #[.int .u64 x, .int .i64 n] w fun e w' => e = .returned (.bool b) ∧ w = w' := by
  by_cases hn0 : n < 1
  · have H := Lib.hid (show fitsB x n = false by unfold fitsB widthOk; simp; omega)
    go_enter Try.func13, Try.ntmps13
    go_wp2_with fail
    go_ret
    exact ⟨ret_bool (H.out.symm.trans hb.out), rfl⟩
  · by_cases hn1 : 8 < n
    · have H := Lib.hid (show fitsB x n = false by unfold fitsB widthOk; simp; omega)
      go_enter Try.func13, Try.ntmps13
      go_wp2_with fail
      go_ret
      exact ⟨ret_bool (H.out.symm.trans hb.out), rfl⟩
    · have hl0 : 1 ≤ n := by omega
      have hl1 : n ≤ 8 := by omega
      have H := Lib.hid (show fitsB x n = decide (lo x (8 * n) = x) by unfold fitsB widthOk; simp [hl0, hl1])
      obtain ⟨r, hr⟩ : ∃ r, lo x (8 * n) = r := ⟨_, rfl⟩
      rw [hr] at H
      have HR := Lib.hid hr
      clear hr
      go_enter Try.func13, Try.ntmps13
      go_wp2_with fail
      refine (refLow_is x (8 * n) r _ h0 h1 HR).mono ?_
      rintro e w' ⟨rfl, rfl⟩
      go_wp2_with fail
      go_ret
      exact ⟨ret_bool (by rw [← hb.out, H.out]; first | rfl | (rw [Bool.eq_iff_iff]; simp)), rfl⟩
theorem size_is (x : Int) (n : Nat) (w : World) (h0 : 0 ≤ x) (h1 : x < 18446744073709551616) (hn : Hid ((M.var x).length = n)) (hn1 : n ≤ 10) :
    Calls Try.prog 18 #[.int .u64 x] w fun e w' => e = .returned (.int .i64 n) ∧ w = w' := by
  have HL := Lib.hid ((M.var_left x h0).symm.trans hn.out)
  go_enter Try.func18, Try.ntmps18
  go_wp2
  go_loop [0, 3] (fun t g => ∃ (y : Int) (k : Nat), 0 ≤ y ∧ y < 18446744073709551616 ∧ t = .int .u64 y ∧ g = .int .i64 k ∧ k ≤ 10 ∧ Hid (k + M.left y = n)) (fun t _ => (intOf t).toNat)
  case atStart => exact ⟨x / 128, 1, by omega, by omega, rfl, rfl, by omega, HL⟩
  case round =>
    obtain ⟨y, k, hy0, hy1, rfl, rfl, hk, hrel⟩ := hrel
    by_cases hlt : 0 < y
    · have hs := Lib.hid (M.left_step y hlt)
      have hnext : Hid (k + 1 + M.left (y / 128) = n) := Lib.hid (by have := hrel.out; have h2 := hs.out; omega)
      have hk2 : k + 1 ≤ 10 := by have := hnext.out; omega
      go_wp2
      go_round
      case rel => exact ⟨y / 128, k + 1, by omega, by omega, rfl, by go_num, hk2, hnext⟩
      case measure => simp [intOf]; omega
    · obtain rfl : y = 0 := by omega
      go_wp2
      go_ret
      exact ⟨ret_int (by have := hrel.out; simp [M.left] at this; omega), rfl⟩
end Go.Proofs.Ytejbplcmicnfaaa
