/- The contracts of Trail, Len, Ones of the reference, and of alive. -/
import Derived.Test.YtfbdnnnmjefhbaaCounts
import Derived.Test.YtfbdnnnmjefhbaaTurns
namespace Go.Proofs.Ytfbdnnnmjefhbaa
open Go.RowKit

theorem bitI_of {x : Int} {k : Nat} {b : Bool} (h : x.toNat.testBit k = b) : bitI x k = (b.toNat : Int) := by unfold bitI; rw [h]
theorem refTrail_is (x : Int) (t : Nat) (w : World) (h0 : 0 ≤ x) (h1 : x < 18446744073709551616) (ht : Hid (M.Trail x.toNat.testBit t)) :
    Calls Try.prog 18 #[.int .u64 x] w fun e w' => e = .returned (.int .i64 t) ∧ w = w' := by
  go_enter Try.func18, Try.ntmps18
  go_wp2
  go_loop [3] (fun i => ∃ (k : Nat), k ≤ 64 ∧ i = .int .i64 k ∧ Hid (∀ i, i < k → x.toNat.testBit i = false)) (fun i => 64 - (intOf i).toNat)
  case atStart => exact ⟨0, Nat.zero_le _, rfl, Lib.hid (fun i hi => absurd hi (by omega))⟩
  case round =>
    obtain ⟨k, hk, rfl, hz⟩ := hrel
    by_cases hlt : k < 64
    · cases hb0 : x.toNat.testBit k
      · have hb : Hid (bitI x k = 0) := Lib.hid (bitI_of hb0)
        have hz2 := Lib.hid (zeros_succ hz.out hb0)
        clear hb0
        go_wp2_with fail
        refine (bit_is x k 0 _ h0 h1 hlt hb).mono ?_
        rintro e w' ⟨rfl, rfl⟩
        go_wp2_with fail
        go_round
        case rel => exact ⟨k + 1, by omega, by go_num, hz2⟩
        case measure => simp [intOf]; omega
      · have hb : Hid (bitI x k = 1) := Lib.hid (bitI_of hb0)
        have hk2 := Lib.hid (M.Trail.only ht.out ⟨hk, hz.out, fun _ => hb0⟩)
        clear hb0
        go_wp2_with fail
        refine (bit_is x k 1 _ h0 h1 hlt hb).mono ?_
        rintro e w' ⟨rfl, rfl⟩
        go_wp2_with fail
        go_ret
        exact ⟨ret_nat hk2.out.symm, rfl⟩
    · obtain rfl : k = 64 := by omega
      have hk2 := Lib.hid (M.Trail.only ht.out ⟨hk, hz.out, fun h => absurd h (by omega)⟩)
      go_wp2
      go_ret
      exact ⟨ret_nat hk2.out.symm, rfl⟩
theorem refOnes_is (x : Int) (t : Nat) (w : World) (h0 : 0 ≤ x) (h1 : x < 18446744073709551616) (ht : Hid (M.ones x.toNat.testBit 64 = t)) :
    Calls Try.prog 22 #[.int .u64 x] w fun e w' => e = .returned (.int .i64 t) ∧ w = w' := by
  go_enter Try.func22, Try.ntmps22
  go_wp2
  go_loop [3, 4] (fun p i => ∃ (k o : Nat), k ≤ 64 ∧ o ≤ k ∧ i = .int .i64 k ∧ p = .int .i64 o ∧ Hid (M.ones x.toNat.testBit k = o)) (fun _ i => 64 - (intOf i).toNat)
  case atStart => exact ⟨0, 0, Nat.zero_le _, Nat.le_refl _, rfl, rfl, Lib.hid rfl⟩
  case round =>
    obtain ⟨k, o, hk, ho, rfl, rfl, hz⟩ := hrel
    by_cases hlt : k < 64
    · cases hb0 : x.toNat.testBit k
      · have hb : Hid (bitI x k = 0) := Lib.hid (bitI_of hb0)
        have hz2 : Hid (M.ones x.toNat.testBit (k + 1) = o) := Lib.hid (by rw [M.ones, hz.out, hb0]; rfl)
        clear hb0
        go_wp2_with fail
        refine (bit_is x k 0 _ h0 h1 hlt hb).mono ?_
        rintro e w' ⟨rfl, rfl⟩
        go_wp2_with fail
        go_round
        case rel => exact ⟨k + 1, o, by omega, by omega, by go_num, by go_num, hz2⟩
        case measure => simp [intOf]; omega
      · have hb : Hid (bitI x k = 1) := Lib.hid (bitI_of hb0)
        have hz2 : Hid (M.ones x.toNat.testBit (k + 1) = o + 1) := Lib.hid (by rw [M.ones, hz.out, hb0]; rfl)
        clear hb0
        go_wp2_with fail
        refine (bit_is x k 1 _ h0 h1 hlt hb).mono ?_
        rintro e w' ⟨rfl, rfl⟩
        go_wp2_with fail
        go_round
        case rel => exact ⟨k + 1, o + 1, by omega, by omega, by go_num, by go_num, hz2⟩
        case measure => simp [intOf]; omega
    · obtain rfl : k = 64 := by omega
      go_wp2
      go_ret
      exact ⟨ret_nat (hz.out.symm.trans ht.out), rfl⟩
theorem len_end (x : Int) (k t : Nat) (h0 : 0 ≤ x) (hk : k ≤ 64) (hz : x / 2 ^ k = 0) (hp : 0 < k → 0 < x / 2 ^ (k - 1)) (ht : M.Trail (M.down x.toNat) t) : (k : Int) = 64 - (t : Int) := by
  rw [div_nat x k h0] at hz
  have := M.Trail.only ht (M.len_down x.toNat k hk (by omega) (fun h => by have := hp h; rw [div_nat x _ h0] at this; omega))
  omega
theorem len_more (x v : Int) (k : Nat) (h1 : x < 18446744073709551616) (hv : x / 2 ^ k = v) (h0 : 0 < v) (h00 : 0 ≤ x) : k < 64 := by
  apply Classical.byContradiction; intro h
  have e : x.toNat / 2 ^ k = 0 := Nat.div_eq_of_lt (Nat.lt_of_lt_of_le (nat64 h00 h1) (Nat.pow_le_pow_right (by omega) (by omega)))
  rw [div_nat x k h00, e] at hv; omega
theorem refLen_is (x r : Int) (t : Nat) (w : World) (h0 : 0 ≤ x) (h1 : x < 18446744073709551616) (ht : Hid (M.Trail (M.down x.toNat) t)) (hr : Hid (64 - (t : Int) = r)) :
    Calls Try.prog 20 #[.int .u64 x] w fun e w' => e = .returned (.int .i64 r) ∧ w = w' := by
  go_enter Try.func20, Try.ntmps20
  go_wp2
  go_loop [0, 3] (fun p i => ∃ (k : Nat) (v : Int), k ≤ 64 ∧ i = .int .i64 k ∧ p = .int .u64 v ∧ 0 ≤ v ∧ v < 18446744073709551616 ∧ Hid (x / 2 ^ k = v) ∧ Hid (0 < k → 0 < x / 2 ^ (k - 1))) (fun _ i => 64 - (intOf i).toNat)
  case atStart => exact ⟨0, x, Nat.zero_le _, rfl, rfl, h0, h1, Lib.hid (by simp), Lib.hid (fun h => absurd h (by omega))⟩
  case round =>
    obtain ⟨k, v, hk, rfl, rfl, hv0, hv1, hv, hp⟩ := hrel
    by_cases hpos : 0 < v
    · have hlt := len_more x v k h1 hv.out hpos h0
      have hv2 : Hid (x / 2 ^ (k + 1) = v / 2) := Lib.hid (by rw [div_succ, hv.out])
      have hp2 : Hid (0 < k + 1 → 0 < x / 2 ^ (k + 1 - 1)) := Lib.hid (fun _ => by rw [Nat.add_sub_cancel, hv.out]; exact hpos)
      go_wp2
      go_round
      case rel => exact ⟨k + 1, _, by omega, by go_num, rfl, by omega, by omega, hv2, hp2⟩
      case measure => simp [intOf]; omega
    · obtain rfl : v = 0 := by omega
      have he := Lib.hid (len_end x k t h0 hk hv.out hp.out ht.out)
      go_wp2
      go_ret
      exact ⟨ret_int (he.out.trans hr.out), rfl⟩
theorem alive_parts : part 43981 4 8 = 188 ∧ rotI 1 (-1) = 9223372036854775808 ∧ zigI (-3) = 5 ∧ zagI 5 = -3 := by decide +kernel
theorem alive_is (w : World) : Calls Try.prog 15 #[] w fun e w' => e = .returned (.bool true) ∧ w = w' := by
  have H := Lib.hid alive_parts
  go_enter Try.func15, Try.ntmps15
  go_wp2_with fail
  refine (part_is 43981 4 8 188 _ (by omega) (by omega) (Lib.hid H.out.1)).mono ?_
  rintro e w' ⟨rfl, rfl⟩
  go_wp2_with fail
  refine (rot_is 1 (-1) 9223372036854775808 _ (by omega) (by omega) (by omega) (by omega) (Lib.hid H.out.2.1)).mono ?_
  rintro e w' ⟨rfl, rfl⟩
  go_wp2_with fail
  refine (zig_is (-3) 5 _ (by omega) (by omega) (Lib.hid H.out.2.2.1)).mono ?_
  rintro e w' ⟨rfl, rfl⟩
  go_wp2_with fail
  refine (zag_is 5 (-3) _ (by omega) (by omega) (Lib.hid H.out.2.2.2)).mono ?_
  rintro e w' ⟨rfl, rfl⟩
  go_wp2_with fail
  go_ret
  exact ⟨rfl, rfl⟩
end Go.Proofs.Ytfbdnnnmjefhbaa
