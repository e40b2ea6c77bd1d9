/- The contracts of count, upwards, Trail, Len, Ones of package bit. -/
import Derived.Test.YtfbdnnnmjefhbaaSmall
import Derived.WalkMore
namespace Go.Proofs.Ytfbdnnnmjefhbaa
open Go.RowKit

theorem up_spell (x : Int) (k : Nat) (h0 : 0 ≤ x) (h1 : x < 18446744073709551616) : (bits .and .u64 (x / 2 ^ k) 1 == 1) = x.toNat.testBit k := by
  have hd := div_U64 x k h0 h1
  rw [u64_and _ 1 hd.1 hd.2 (by omega) (by omega), div_nat x k h0, Int.toNat_natCast]
  have e : x.toNat / 2 ^ k &&& (1 : Int).toNat = x.toNat / 2 ^ k % 2 := Nat.and_two_pow_sub_one_eq_mod _ 1
  rw [e, Nat.testBit_eq_decide_div_mod_eq, Bool.eq_iff_iff, beq_iff_eq, decide_eq_true_iff]; omega
theorem down_spell (x : Int) (k : Nat) (hk : k < 64) (h0 : 0 ≤ x) : (IntKind.u64.wrap (x * 2 ^ k) / 9223372036854775808 == 1) = M.down x.toNat k := by
  have e : IntKind.u64.wrap (x * 2 ^ k) / 9223372036854775808 = ((x.toNat * 2 ^ k % 2 ^ 64 / 2 ^ 63 : Nat) : Int) := by
    rw [mul_nat x k h0, Int.natCast_ediv]; rfl
  have h2 : x.toNat * 2 ^ k % 2 ^ 64 < 2 ^ 64 := Nat.mod_lt _ (Nat.two_pow_pos _)
  have e2 : M.down x.toNat k = (x.toNat * 2 ^ k % 2 ^ 64).testBit 63 := by
    rw [Nat.testBit_mod_two_pow, Nat.testBit_mul_two_pow]; unfold M.down
    have h3 : k ≤ 63 := by omega
    simp [h3]
  rw [e, e2, Nat.testBit_eq_decide_div_mod_eq, Bool.eq_iff_iff, beq_iff_eq, decide_eq_true_iff]; omega
theorem up_is (x : Int) (k : Nat) (a : Addr) (b : Bool) (w : World) (h0 : 0 ≤ x) (h1 : x < 18446744073709551616) (hk : k < 64) (hc : w.cell? a = some (.int .u64 x)) (hb : Hid (x.toNat.testBit k = b)) :
    Calls Try.prog 36 #[.int .i64 k, .pointer (some a)] w fun e w' => e = .returned (.bool b) ∧ w = w' := by
  have H := Lib.hid (up_spell x k h0 h1)
  go_enter Try.func36, Try.ntmps36
  go_wp2_with fail
  refine (right_is x k _ _ (by omega) (by omega) (Lib.hid rfl)).mono ?_
  rintro e w' ⟨rfl, rfl⟩
  go_wp2_with fail
  go_ret
  exact ⟨ret_bool (H.out.trans hb.out), rfl⟩
theorem down_is (x : Int) (k : Nat) (a : Addr) (b : Bool) (w : World) (h0 : 0 ≤ x) (hk : k < 64) (hc : w.cell? a = some (.int .u64 x)) (hb : Hid (M.down x.toNat k = b)) :
    Calls Try.prog 35 #[.int .i64 k, .pointer (some a)] w fun e w' => e = .returned (.bool b) ∧ w = w' := by
  have H := Lib.hid (down_spell x k hk h0)
  go_enter Try.func35, Try.ntmps35
  go_wp2_with fail
  refine (left_is x k _ _ (by omega) (by omega) (Lib.hid rfl)).mono ?_
  rintro e w' ⟨rfl, rfl⟩
  go_wp2_with fail
  refine (right_is _ 63 _ _ (by omega) (by omega) (Lib.hid rfl)).mono ?_
  rintro e w' ⟨rfl, rfl⟩
  go_wp2_with fail
  go_ret
  exact ⟨ret_bool (H.out.trans hb.out), rfl⟩
theorem zeros_succ {f : Nat → Bool} {k : Nat} (h : ∀ i, i < k → f i = false) (hk : f k = false) : ∀ i, i < k + 1 → f i = false :=
  fun i hi => by by_cases e : i = k; (subst e; exact hk); exact h i (by omega)
theorem ret_nat {k : IntKind} {a b : Nat} (h : a = b) : Ending.returned (.int k (a : Int)) = .returned (.int k (b : Int)) := by rw [h]

theorem countUp_is (x : Int) (a : Addr) (t : Nat) (w : World) (h0 : 0 ≤ x) (h1 : x < 18446744073709551616) (hc : w.cell? a = some (.int .u64 x)) (ht : Hid (M.Trail x.toNat.testBit t)) :
    Calls Try.prog 33 #[.func (Fn.func 36) #[] #[.pointer (some a)], .bool false, .bool true] w fun e w' => e = .returned (.int .i64 t) ∧ w = w' := by
  go_enter Try.func33, Try.ntmps33
  go_wp2
  go_step3
  go_wp2
  go_step3
  go_wp2
  go_loop [7, 9] (fun p i => ∃ (k : Nat), k ≤ 64 ∧ i = .int .i64 k ∧ p = .int .i64 k ∧ Hid (∀ i, i < k → x.toNat.testBit i = false)) (fun _ i => 64 - (intOf i).toNat)
  case atStart => exact ⟨0, Nat.zero_le _, rfl, rfl, Lib.hid (fun i hi => absurd hi (by omega))⟩
  case round =>
    obtain ⟨k, hk, rfl, rfl, hz⟩ := hrel
    by_cases hlt : k < 64
    · cases hb0 : x.toNat.testBit k
      · have hb := Lib.hid hb0
        have hz2 := Lib.hid (zeros_succ hz.out hb0)
        clear hb0
        go_wp2_with fail
        refine (up_is x k a false _ h0 h1 hlt hc hb).mono ?_
        rintro e w' ⟨rfl, rfl⟩
        go_wp2_with fail
        go_round
        case rel => exact ⟨k + 1, by omega, by go_num, by go_num, hz2⟩
        case measure => simp [intOf]; omega
      · have hb := Lib.hid hb0
        have hk2 := Lib.hid (M.Trail.only ht.out ⟨hk, hz.out, fun _ => hb0⟩)
        clear hb0
        go_wp2_with fail
        refine (up_is x k a true _ h0 h1 hlt hc hb).mono ?_
        rintro e w' ⟨rfl, rfl⟩
        go_wp2_with fail
        first | (rw [Exit.noGoto_ret]; go_ret) | go_ret
        exact ⟨ret_nat hk2.out.symm, rfl⟩
    · obtain rfl : k = 64 := by omega
      have hk2 := Lib.hid (M.Trail.only ht.out ⟨hk, hz.out, fun h => absurd h (by omega)⟩)
      go_wp2
      first | (rw [Exit.noGoto_ret]; go_ret) | go_ret
      exact ⟨ret_nat hk2.out.symm, rfl⟩

theorem countDown_is (x : Int) (a : Addr) (t : Nat) (w : World) (h0 : 0 ≤ x) (hc : w.cell? a = some (.int .u64 x)) (ht : Hid (M.Trail (M.down x.toNat) t)) :
    Calls Try.prog 33 #[.func (Fn.func 35) #[] #[.pointer (some a)], .bool false, .bool true] w fun e w' => e = .returned (.int .i64 t) ∧ w = w' := by
  go_enter Try.func33, Try.ntmps33
  go_wp2
  go_step3
  go_wp2
  go_step3
  go_wp2
  go_loop [7, 9] (fun p i => ∃ (k : Nat), k ≤ 64 ∧ i = .int .i64 k ∧ p = .int .i64 k ∧ Hid (∀ i, i < k → (M.down x.toNat) i = false)) (fun _ i => 64 - (intOf i).toNat)
  case atStart => exact ⟨0, Nat.zero_le _, rfl, rfl, Lib.hid (fun i hi => absurd hi (by omega))⟩
  case round =>
    obtain ⟨k, hk, rfl, rfl, hz⟩ := hrel
    by_cases hlt : k < 64
    · cases hb0 : (M.down x.toNat) k
      · have hb := Lib.hid hb0
        have hz2 := Lib.hid (zeros_succ hz.out hb0)
        clear hb0
        go_wp2_with fail
        refine (down_is x k a false _ h0 hlt hc hb).mono ?_
        rintro e w' ⟨rfl, rfl⟩
        go_wp2_with fail
        go_round
        case rel => exact ⟨k + 1, by omega, by go_num, by go_num, hz2⟩
        case measure => simp [intOf]; omega
      · have hb := Lib.hid hb0
        have hk2 := Lib.hid (M.Trail.only ht.out ⟨hk, hz.out, fun _ => hb0⟩)
        clear hb0
        go_wp2_with fail
        refine (down_is x k a true _ h0 hlt hc hb).mono ?_
        rintro e w' ⟨rfl, rfl⟩
        go_wp2_with fail
        first | (rw [Exit.noGoto_ret]; go_ret) | go_ret
        exact ⟨ret_nat hk2.out.symm, rfl⟩
    · obtain rfl : k = 64 := by omega
      have hk2 := Lib.hid (M.Trail.only ht.out ⟨hk, hz.out, fun h => absurd h (by omega)⟩)
      go_wp2
      first | (rw [Exit.noGoto_ret]; go_ret) | go_ret
      exact ⟨ret_nat hk2.out.symm, rfl⟩

theorem countOnes_is (x : Int) (a : Addr) (t : Nat) (w : World) (h0 : 0 ≤ x) (h1 : x < 18446744073709551616) (hc : w.cell? a = some (.int .u64 x)) (ht : Hid (M.ones x.toNat.testBit 64 = t)) :
    Calls Try.prog 33 #[.func (Fn.func 36) #[] #[.pointer (some a)], .bool true, .bool false] w fun e w' => e = .returned (.int .i64 t) ∧ w = w' := by
  go_enter Try.func33, Try.ntmps33
  go_wp2
  go_step3
  go_wp2
  go_step3
  go_wp2
  go_loop [7, 9] (fun p i => ∃ (k o : Nat), k ≤ 64 ∧ o ≤ k ∧ i = .int .i64 k ∧ p = .int .i64 o ∧ Hid (M.ones x.toNat.testBit k = o)) (fun _ i => 64 - (intOf i).toNat)
  case atStart => exact ⟨0, 0, Nat.zero_le _, Nat.le_refl _, rfl, rfl, Lib.hid rfl⟩
  case round =>
    obtain ⟨k, o, hk, ho, rfl, rfl, hz⟩ := hrel
    by_cases hlt : k < 64
    · cases hb0 : x.toNat.testBit k
      · have hb := Lib.hid hb0
        have hz2 : Hid (M.ones x.toNat.testBit (k + 1) = o) := Lib.hid (by rw [M.ones, hz.out, hb0]; rfl)
        clear hb0
        go_wp2_with fail
        refine (up_is x k a false _ h0 h1 hlt hc hb).mono ?_
        rintro e w' ⟨rfl, rfl⟩
        go_wp2_with fail
        go_round
        case rel => exact ⟨k + 1, o, by omega, by omega, by go_num, by go_num, hz2⟩
        case measure => simp [intOf]; omega
      · have hb := Lib.hid hb0
        have hz2 : Hid (M.ones x.toNat.testBit (k + 1) = o + 1) := Lib.hid (by rw [M.ones, hz.out, hb0]; rfl)
        clear hb0
        go_wp2_with fail
        refine (up_is x k a true _ h0 h1 hlt hc hb).mono ?_
        rintro e w' ⟨rfl, rfl⟩
        go_wp2_with fail
        go_round
        case rel => exact ⟨k + 1, o + 1, by omega, by omega, by go_num, by go_num, hz2⟩
        case measure => simp [intOf]; omega
    · obtain rfl : k = 64 := by omega
      go_wp2
      first | (rw [Exit.noGoto_ret]; go_ret) | go_ret
      exact ⟨ret_nat (hz.out.symm.trans ht.out), rfl⟩
theorem upwards_is (x : Int) (w : World) :
    Calls Try.prog 34 #[.int .u64 x] w fun e w' => e = .returned (.func (Fn.func 36) #[] #[.pointer (some ⟨w.heap.size, 0, none⟩)]) ∧ w.alloc (.cells #[.int .u64 x] 22) = w' := by
  go_enter Try.func34, Try.ntmps34
  go_wp2
  go_ret
  exact ⟨rfl, rfl⟩
theorem trail_is (x : Int) (t : Nat) (w : World) (h0 : 0 ≤ x) (h1 : x < 18446744073709551616) (ht : Hid (M.Trail x.toNat.testBit t)) :
    Calls Try.prog 17 #[.int .u64 x] w fun e w' => e = .returned (.int .i64 t) ∧ Below w.heap.size w w' := by
  have hA := fun o => Lib.hid ((Below.refl w.heap.size w).alloc (Nat.le_refl _) o)
  go_enter Try.func17, Try.ntmps17
  go_wp2_with fail
  refine (upwards_is x _).mono ?_
  rintro e w' ⟨rfl, rfl⟩
  go_wp2_with fail
  refine (countUp_is x ⟨w.heap.size, 0, none⟩ t _ h0 h1 (by simp [go_sem]) ht).mono ?_
  rintro e w' ⟨rfl, rfl⟩
  go_wp2_with fail
  go_ret
  exact ⟨rfl, (hA _).out⟩
theorem ones_is (x : Int) (t : Nat) (w : World) (h0 : 0 ≤ x) (h1 : x < 18446744073709551616) (ht : Hid (M.ones x.toNat.testBit 64 = t)) :
    Calls Try.prog 21 #[.int .u64 x] w fun e w' => e = .returned (.int .i64 t) ∧ Below w.heap.size w w' := by
  have hA := fun o => Lib.hid ((Below.refl w.heap.size w).alloc (Nat.le_refl _) o)
  go_enter Try.func21, Try.ntmps21
  go_wp2_with fail
  refine (upwards_is x _).mono ?_
  rintro e w' ⟨rfl, rfl⟩
  go_wp2_with fail
  refine (countOnes_is x ⟨w.heap.size, 0, none⟩ t _ h0 h1 (by simp [go_sem]) ht).mono ?_
  rintro e w' ⟨rfl, rfl⟩
  go_wp2_with fail
  go_ret
  exact ⟨rfl, (hA _).out⟩
theorem len_is (x r : Int) (t : Nat) (w : World) (h0 : 0 ≤ x) (hle : t ≤ 64) (ht : Hid (M.Trail (M.down x.toNat) t)) (hr : Hid (64 - (t : Int) = r)) :
    Calls Try.prog 19 #[.int .u64 x] w fun e w' => e = .returned (.int .i64 r) ∧ Below w.heap.size w w' := by
  have hA := fun o => Lib.hid ((Below.refl w.heap.size w).alloc (Nat.le_refl _) o)
  go_enter Try.func19, Try.ntmps19
  go_wp2_with fail
  refine (countDown_is x ⟨w.heap.size, 0, none⟩ t _ h0 (by simp [go_sem]) ht).mono ?_
  rintro e w' ⟨rfl, rfl⟩
  go_wp2_with fail
  go_ret
  exact ⟨ret_int hr.out, (hA _).out⟩
end Go.Proofs.Ytfbdnnnmjefhbaa
