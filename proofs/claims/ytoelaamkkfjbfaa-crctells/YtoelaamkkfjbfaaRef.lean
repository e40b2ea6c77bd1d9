/- The contracts of lay, More and Sum of the reference. -/
import Derived.Test.YtoelaamkkfjbfaaBytes
import Derived.Test.YtoelaamkkfjbfaaCrcI
namespace Go.Proofs.Ytoelaamkkfjbfaa
open Go.RowKit

/-- The lower n bits of the exclusive or. -/
def low (a b n : Nat) : Nat := (a ^^^ b) % 2 ^ n
theorem low_succ (a b n : Nat) : low a b (n + 1) = low a b n + (if a / 2 ^ n % 2 = b / 2 ^ n % 2 then 0 else 2 ^ n) := by
  unfold low
  rw [Nat.mod_pow_succ]
  have h : (a ^^^ b) / 2 ^ n % 2 = if a / 2 ^ n % 2 = b / 2 ^ n % 2 then 0 else 1 := by
    have e : (a ^^^ b) / 2 ^ n = (a / 2 ^ n) ^^^ (b / 2 ^ n) := Nat.xor_div_two_pow
    rw [e]
    have e2 : ((a / 2 ^ n) ^^^ (b / 2 ^ n)) % 2 = (a / 2 ^ n % 2) ^^^ (b / 2 ^ n % 2) := Nat.xor_mod_two_pow (n := 1)
    rw [e2]
    rcases Nat.mod_two_eq_zero_or_one (a / 2 ^ n) with h1 | h1 <;> rcases Nat.mod_two_eq_zero_or_one (b / 2 ^ n) with h2 | h2 <;> rw [h1, h2] <;> rfl
  rw [h]
  split <;> simp
theorem low_all (a b : Nat) (ha : a < 65536) (hb : b < 65536) : low a b 16 = a ^^^ b := Nat.mod_eq_of_lt (Nat.xor_lt_two_pow (n := 16) ha hb)
theorem low_lt (a b n : Nat) : low a b n < 2 ^ n := Nat.mod_lt _ (Nat.two_pow_pos _)
theorem pow_small (n : Nat) (h : n ≤ 16) : 2 ^ n ≤ 65536 := Nat.pow_le_pow_right (n := 2) (by omega) h
theorem div_next (a n : Nat) : a / 2 ^ (n + 1) = a / 2 ^ n / 2 := by rw [Nat.pow_succ, Nat.div_div_eq_div_mul]

def LR (a b : Nat) (w : World) (x y o p i : Value) (wr : World) : Prop :=
  ∃ (k X Y O P : Nat), k ≤ 16 ∧ a / 2 ^ k = X ∧ b / 2 ^ k = Y ∧ low a b k = O ∧ 2 ^ k = P ∧ x = .int .i64 X ∧ y = .int .i64 Y ∧ o = .int .i64 O ∧ p = .int .i64 P ∧ i = .int .i64 k ∧ wr = w
theorem lay_is (a b : Nat) (r : Int) (w : World) (ha : a < 65536) (hb : b < 65536) (hr : Hid (((a ^^^ b : Nat) : Int) = r)) :
    Calls Try.prog 22 #[.int .i64 a, .int .i64 b] w fun e w' => e = .returned (.int .i64 r) ∧ w = w' := by
  go_enter Try.func22, Try.ntmps22
  go_wp2_with fail
  go_loopw [0, 1, 5, 6, 7] (fun x y o p i wr => LR a b w x y o p i wr) (fun _ _ _ _ i _ => 16 - (intOf i).toNat)
  case atStart => exact ⟨0, a, b, 0, 1, Nat.zero_le _, Nat.div_one _, Nat.div_one _, Nat.mod_one _, rfl, rfl, rfl, rfl, rfl, rfl, rfl⟩
  case round =>
    obtain ⟨k, X, Y, O, P, hk, hX, hY, hO, hP, rfl, rfl, rfl, rfl, rfl, rfl⟩ := hrel
    by_cases hlt : k < 16
    · have hXl : X < 65536 := by rw [← hX]; exact Nat.lt_of_le_of_lt (Nat.div_le_self _ _) ha
      have hYl : Y < 65536 := by rw [← hY]; exact Nat.lt_of_le_of_lt (Nat.div_le_self _ _) hb
      have hPl : P ≤ 65536 := by rw [← hP]; exact pow_small k hk
      have hOl : O < 65536 := by have := low_lt a b k; rw [hO, hP] at this; omega
      have hnX := div_next a k
      have hnY := div_next b k
      have hnO := low_succ a b k
      rw [hX] at hnX hnO
      rw [hY] at hnY hnO
      rw [hO, hP] at hnO
      have hnP : 2 ^ (k + 1) = P * 2 := by rw [Nat.pow_succ, hP]
      have H1 := Lib.hid hnX
      have H2 := Lib.hid hnY
      have H3 := Lib.hid hnO
      have H4 := Lib.hid hnP
      clear hnX hnY hnO hnP hX hY hO hP
      by_cases he : X % 2 = Y % 2
      · have hei : (X : Int) % 2 = (Y : Int) % 2 := by omega
        go_wp2_with fail
        go_roundw
        case rel => exact ⟨k + 1, X / 2, Y / 2, O, P * 2, by omega, H1.out, H2.out, by rw [H3.out, if_pos he]; rfl, H4.out, by go_num, by go_num, by go_num, by go_num, by go_num, rfl⟩
        case measure => simp [intOf]; omega
      · have hei : ¬ (X : Int) % 2 = (Y : Int) % 2 := by omega
        go_wp2_with fail
        go_roundw
        case rel => exact ⟨k + 1, X / 2, Y / 2, O + P, P * 2, by omega, H1.out, H2.out, by rw [H3.out, if_neg he], H4.out, by go_num, by go_num, by go_num, by go_num, by go_num, rfl⟩
        case measure => simp [intOf]; omega
    · obtain rfl : k = 16 := by omega
      have e : O = a ^^^ b := by rw [← hO]; exact low_all a b ha hb
      clear hX hY hO hP
      go_wp2_with fail
      go_ret
      exact ⟨ret_int (by rw [e]; exact hr.out), rfl⟩
end Go.Proofs.Ytoelaamkkfjbfaa
