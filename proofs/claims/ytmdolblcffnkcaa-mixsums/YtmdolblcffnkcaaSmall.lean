/- The contracts of Rot of package bit and of Mod, Power, Bit, Low, Part, Rot of the reference: they only compute. -/
import Derived.Test.YtmdolblcffnkcaaProg
import Derived.Test.YtmdolblcffnkcaaMathI
import Derived.WalkKit
import Derived.WalkSpells
import Derived.WalkLawsBesides
import Derived.Lib.Hide
import Derived.Deep.QuietTactic
import Derived.BigQuiet
namespace Go.Proofs.Ytmdolblcffnkcaa
open Go.RowKit

theorem ret_int {k : IntKind} {a b : Int} (h : a = b) : Ending.returned (.int k a) = .returned (.int k b) := by rw [h]
theorem ret_bool {a b : Bool} (h : a = b) : Ending.returned (.bool a) = .returned (.bool b) := by rw [h]

theorem left_is (x n r : Int) (w : World) (h0 : 0 ≤ n) (h1 : n ≤ 64) (hr : Hid (IntKind.u64.wrap (x * 2 ^ n.toNat) = r)) :
    Calls Try.prog 33 #[.int .u64 x, .int .i64 n] w fun e w' => e = .returned (.int .u64 r) ∧ w = w' := by
  go_enter Try.func33, Try.ntmps33
  go_wp2
  go_ret
  exact ⟨ret_int hr.out, rfl⟩
theorem right_is (x n r : Int) (w : World) (h0 : 0 ≤ n) (h1 : n ≤ 64) (hr : Hid (x / 2 ^ n.toNat = r)) :
    Calls Try.prog 34 #[.int .u64 x, .int .i64 n] w fun e w' => e = .returned (.int .u64 r) ∧ w = w' := by
  go_enter Try.func34, Try.ntmps34
  go_wp2
  go_ret
  exact ⟨ret_int hr.out, rfl⟩
theorem mod_spell (n : Int) : (wrap64 (n.tmod 64 + 64)).tmod 64 = n % 64 := by
  have h1 : -64 < n.tmod 64 ∧ n.tmod 64 < 64 := by
    have := Int.tmod_lt_of_pos n (show (0 : Int) < 64 by omega)
    have h2 := Int.lt_tmod_of_pos n (show (0 : Int) < 64 by omega)
    omega
  have e : wrap64 (n.tmod 64 + 64) = n.tmod 64 + 64 := by
    unfold wrap64; omega
  have e2 : n.tmod 64 = n - 64 * n.tdiv 64 := Int.tmod_def n 64
  rw [e, Int.tmod_eq_emod_of_nonneg (by omega)]; omega
theorem mod_is (n r : Int) (w : World) (hr : Hid (n % 64 = r)) :
    Calls Try.prog 35 #[.int .i64 n] w fun e w' => e = .returned (.int .i64 r) ∧ w = w' := by
  have H := Lib.hid (mod_spell n)
  go_enter Try.func35, Try.ntmps35
  go_wp2
  go_ret
  exact ⟨ret_int (H.out.trans hr.out), rfl⟩
theorem power_is (n : Nat) (r : Int) (w : World) (h : n < 64) (hr : Hid ((2 : Int) ^ n = r)) :
    Calls Try.prog 26 #[.int .i64 n] w fun e w' => e = .returned (.int .u64 r) ∧ w = w' := by
  go_enter Try.func26, Try.ntmps26
  go_wp2
  go_loop [3, 4] (fun p i => ∃ (k : Nat) (v : Int), k ≤ n ∧ i = .int .i64 k ∧ p = .int .u64 v ∧ Hid ((2 : Int) ^ k = v)) (fun _ i => n - (intOf i).toNat)
  case atStart => exact ⟨0, 1, Nat.zero_le _, rfl, rfl, Lib.hid rfl⟩
  case round =>
    obtain ⟨k, v, hk, rfl, rfl, hv⟩ := hrel
    by_cases hlt : k < n
    · have hv2 : Hid ((2 : Int) ^ (k + 1) = IntKind.u64.wrap (v * 2)) := Lib.hid (by
        rw [← hv.out, IntKind.wrap_u64, ← Int.pow_succ]; have := pow_lt (k + 1) (by omega); have h2 := pow_pos (k + 1); omega)
      go_wp2
      go_round
      case rel => exact ⟨k + 1, _, by omega, by go_num, rfl, hv2⟩
      case measure => simp [intOf]; omega
    · obtain rfl : k = n := by omega
      go_wp2
      go_ret
      exact ⟨ret_int (hv.out.symm.trans hr.out), rfl⟩
theorem div_succ (x : Int) (k : Nat) : x / 2 ^ (k + 1) = x / 2 ^ k / 2 := by
  rw [Int.pow_succ, Int.ediv_ediv_of_nonneg (by have := pow_pos k; omega)]
theorem bit_spell (x : Int) (k : Nat) (h0 : 0 ≤ x) : x / 2 ^ k % 2 = bitI x k := by
  unfold bitI; rw [Nat.toNat_testBit, div_nat x k h0]; omega
theorem bit_is (x : Int) (n : Nat) (r : Int) (w : World) (h0 : 0 ≤ x) (h1 : x < 18446744073709551616) (h : n < 64) (hr : Hid (bitI x n = r)) :
    Calls Try.prog 25 #[.int .u64 x, .int .i64 n] w fun e w' => e = .returned (.int .u64 r) ∧ w = w' := by
  go_enter Try.func25, Try.ntmps25
  go_wp2
  go_loop [0, 5] (fun p i => ∃ (k : Nat) (v : Int), k ≤ n ∧ i = .int .i64 k ∧ p = .int .u64 v ∧ 0 ≤ v ∧ v < 18446744073709551616 ∧ Hid (x / 2 ^ k = v)) (fun _ i => n - (intOf i).toNat)
  case atStart => exact ⟨0, x, Nat.zero_le _, rfl, rfl, h0, h1, Lib.hid (by simp)⟩
  case round =>
    obtain ⟨k, v, hk, rfl, rfl, hv0, hv1, hv⟩ := hrel
    by_cases hlt : k < n
    · have hv2 : Hid (x / 2 ^ (k + 1) = v / 2) := Lib.hid (by rw [div_succ, hv.out])
      go_wp2
      go_round
      case rel => exact ⟨k + 1, _, by omega, by go_num, rfl, by omega, by omega, hv2⟩
      case measure => simp [intOf]; omega
    · obtain rfl : k = n := by omega
      have H := Lib.hid (bit_spell x k h0)
      go_wp2
      go_ret
      exact ⟨ret_int (by rw [← hv.out, H.out, hr.out]), rfl⟩
theorem max_low (f : Int) (h : f ≤ 0) : max f 0 = 0 := Int.max_eq_right h
theorem max_up (f : Int) (h : 0 ≤ f) : max f 0 = f := Int.max_eq_left h
theorem refLow_is (x n r : Int) (w : World) (h0 : 0 ≤ x) (h1 : x < 18446744073709551616) (hr : Hid (lo x n = r)) :
    Calls Try.prog 39 #[.int .u64 x, .int .i64 n] w fun e w' => e = .returned (.int .u64 r) ∧ w = w' := by
  by_cases hn : n < 1
  · have H := Lib.hid (show lo x n = 0 by unfold lo; rw [if_pos hn])
    go_enter Try.func39, Try.ntmps39
    go_wp2
    go_ret
    exact ⟨ret_int (H.out.symm.trans hr.out), rfl⟩
  · by_cases hn2 : 63 < n
    · have H := Lib.hid (show lo x n = x by unfold lo; rw [if_neg hn, if_pos hn2])
      go_enter Try.func39, Try.ntmps39
      go_wp2
      go_ret
      exact ⟨ret_int (H.out.symm.trans hr.out), rfl⟩
    · have H := Lib.hid (show lo x n = x % 2 ^ n.toNat by unfold lo; rw [if_neg hn, if_neg hn2])
      obtain ⟨k, rfl⟩ := Int.eq_ofNat_of_zero_le (show 0 ≤ n by omega)
      obtain ⟨p, hp⟩ : ∃ p : Int, (2 : Int) ^ k = p := ⟨_, rfl⟩
      have hp0 : 0 < p := by rw [← hp]; exact pow_pos k
      have hp1 : p < 18446744073709551616 := by rw [← hp]; exact pow_lt k (by omega)
      have hpz : (p == 0) = false := by simp; omega
      have HP := Lib.hid hp
      clear hp
      go_enter Try.func39, Try.ntmps39
      go_wp2_with fail
      refine (power_is k p _ (by omega) HP).mono ?_
      rintro e w' ⟨rfl, rfl⟩
      go_wp2_with fail
      go_ret
      exact ⟨ret_int (by rw [← hr.out, H.out, Int.toNat_natCast, HP.out]), rfl⟩
theorem refPart_is (x f n r : Int) (w : World) (h0 : 0 ≤ x) (h1 : x < 18446744073709551616) (hr : Hid (part x f n = r)) :
    Calls Try.prog 36 #[.int .u64 x, .int .i64 f, .int .i64 n] w fun e w' => e = .returned (.int .u64 r) ∧ w = w' := by
  by_cases hf : 63 < f
  · have H := Lib.hid (part_big x f n hf)
    go_enter Try.func36, Try.ntmps36
    go_wp2_with fail
    go_ret
    exact ⟨ret_int (H.out.symm.trans hr.out), rfl⟩
  · by_cases hneg : f < 0
    · have H2 := Lib.hid (show lo x n = r by rw [← hr.out, part_small x f n (by omega), max_low f (by omega)]; simp)
      go_enter Try.func36, Try.ntmps36
      go_wp2_with fail
      refine (power_is 0 1 _ (by omega) (Lib.hid rfl)).mono ?_
      rintro e w' ⟨rfl, rfl⟩
      go_wp2_with fail
      refine (refLow_is x n r _ h0 h1 H2).mono ?_
      rintro e w' ⟨rfl, rfl⟩
      go_wp2_with fail
      go_ret
      exact ⟨rfl, rfl⟩
    · obtain ⟨m, rfl⟩ := Int.eq_ofNat_of_zero_le (show 0 ≤ f by omega)
      have hm2 : m < 64 := by omega
      obtain ⟨p, hp⟩ : ∃ p : Int, (2 : Int) ^ m = p := ⟨_, rfl⟩
      have hp0 : 0 < p := by rw [← hp]; exact pow_pos m
      have hp1 : p < 18446744073709551616 := by rw [← hp]; exact pow_lt m hm2
      have hpz : (p == 0) = false := by simp; omega
      have HP := Lib.hid hp
      have hd := div_U64 x m h0 h1
      rw [hp] at hd
      have H2 := Lib.hid (show lo (x / p) n = r by rw [← hr.out, part_small x m n (by omega), max_up m (by omega), Int.toNat_natCast, HP.out])
      clear hp
      go_enter Try.func36, Try.ntmps36
      go_wp2_with fail
      refine (power_is m p _ (by omega) HP).mono ?_
      rintro e w' ⟨rfl, rfl⟩
      go_wp2_with fail
      refine (refLow_is (x / p) n r _ hd.1 hd.2 H2).mono ?_
      rintro e w' ⟨rfl, rfl⟩
      go_wp2_with fail
      go_ret
      exact ⟨rfl, rfl⟩
theorem rotI_pos (x n : Int) (h0 : 0 ≤ x) (h1 : x < 18446744073709551616) :
    bits .or .u64 (IntKind.u64.wrap (x * 2 ^ (n % 64).toNat)) (x / 2 ^ (64 - n % 64).toNat) = rotI x n := by
  have e : (64 - n % 64).toNat = 64 - (n % 64).toNat := by omega
  rw [e, rot_left x _ h0 h1 (by omega)]; rfl
theorem rotI_neg (x n m : Int) (h0 : 0 ≤ x) (h1 : x < 18446744073709551616) (hm : -n.tmod 64 = m) (hn : n < 0) :
    bits .or .u64 (x / 2 ^ m.toNat) (IntKind.u64.wrap (x * 2 ^ (64 - m).toNat)) = rotI x n := by
  have h2 := Int.tmod_lt_of_pos n (show (0 : Int) < 64 by omega)
  have h3 := Int.lt_tmod_of_pos n (show (0 : Int) < 64 by omega)
  have h4 : 0 ≤ (-n).tmod 64 := Int.tmod_nonneg _ (by omega)
  rw [Int.neg_tmod] at h4
  have e2 : n.tmod 64 = n - 64 * n.tdiv 64 := Int.tmod_def n 64
  have e : (64 - m).toNat = 64 - m.toNat := by omega
  rw [e, rot_right x _ h0 h1 (by omega)]
  unfold rotI
  rw [show (64 - m.toNat) % 64 = (n % 64).toNat by omega]
theorem rot_is (x n r : Int) (w : World) (h0 : 0 ≤ x) (h1 : x < 18446744073709551616) (hn0 : -9223372036854775808 ≤ n) (hn1 : n ≤ 9223372036854775807) (hr : Hid (rotI x n = r)) :
    Calls Try.prog 21 #[.int .u64 x, .int .i64 n] w fun e w' => e = .returned (.int .u64 r) ∧ w = w' := by
  by_cases hn : 0 ≤ n
  · have H := Lib.hid (rotI_pos x n h0 h1)
    have hm0 : 0 ≤ n % 64 := by omega
    have hm1 : n % 64 < 64 := by omega
    have hlt : decide (n % 64 < 0) = false := by simp; omega
    go_enter Try.func21, Try.ntmps21
    go_wp2_with fail
    refine (left_is x (n % 64) _ _ (by omega) (by omega) (Lib.hid rfl)).mono ?_
    rintro e w' ⟨rfl, rfl⟩
    go_wp2_with fail
    refine (right_is x (64 - n % 64) _ _ (by omega) (by omega) (Lib.hid rfl)).mono ?_
    rintro e w' ⟨rfl, rfl⟩
    go_wp2_with fail
    go_ret
    exact ⟨ret_int (H.out.trans hr.out), rfl⟩
  · have hng : n < 0 := by omega
    have h2 := Int.tmod_lt_of_pos n (show (0 : Int) < 64 by omega)
    have h3 := Int.lt_tmod_of_pos n (show (0 : Int) < 64 by omega)
    have h4 : n.tmod 64 ≤ 0 := by have h := Int.tmod_nonneg (a := -n) 64 (by omega); rw [Int.neg_tmod] at h; omega
    have H := Lib.hid (rotI_neg x n (-n.tmod 64) h0 h1 rfl hng)
    rw [show (64 - -n.tmod 64) = 64 + n.tmod 64 by omega] at H
    by_cases ht : n.tmod 64 < 0
    · go_enter Try.func21, Try.ntmps21
      go_wp2_with fail
      refine (right_is x (-n.tmod 64) _ _ (by omega) (by omega) (Lib.hid rfl)).mono ?_
      rintro e w' ⟨rfl, rfl⟩
      go_wp2_with fail
      refine (left_is x (64 + n.tmod 64) _ _ (by omega) (by omega) (Lib.hid rfl)).mono ?_
      rintro e w' ⟨rfl, rfl⟩
      go_wp2_with fail
      go_ret
      exact ⟨ret_int (H.out.trans hr.out), rfl⟩
    · have H2 : Hid (bits .or .u64 (IntKind.u64.wrap (x * 2 ^ (n.tmod 64).toNat)) (x / 2 ^ (64 - n.tmod 64).toNat) = r) := Lib.hid (by
        have e : n.tmod 64 = 0 := by omega
        have e2 : n.tmod 64 = n - 64 * n.tdiv 64 := Int.tmod_def n 64
        have e3 : n % 64 = 0 := by omega
        have e4 := rotI_pos x n h0 h1
        rw [e3] at e4
        rw [e, e4, hr.out])
      go_enter Try.func21, Try.ntmps21
      go_wp2_with fail
      refine (left_is x (n.tmod 64) _ _ (by omega) (by omega) (Lib.hid rfl)).mono ?_
      rintro e w' ⟨rfl, rfl⟩
      go_wp2_with fail
      refine (right_is x (64 - n.tmod 64) _ _ (by omega) (by omega) (Lib.hid rfl)).mono ?_
      rintro e w' ⟨rfl, rfl⟩
      go_wp2_with fail
      go_ret
      exact ⟨ret_int H2.out, rfl⟩
theorem acc_spell (x : Int) (p : Nat → Nat) (k : Nat) (o b q : Int) (ho : ((M.acc x.toNat.testBit p k : Nat) : Int) = o) (hb : bitI x k = b) (hq : (2 : Int) ^ p k = q) (hlt : M.acc x.toNat.testBit p (k + 1) < 2 ^ 64) :
    ((M.acc x.toNat.testBit p (k + 1) : Nat) : Int) = IntKind.u64.wrap (o + IntKind.u64.wrap (b * q)) := by
  have e : ((M.acc x.toNat.testBit p (k + 1) : Nat) : Int) = o + b * q := by
    show ((M.acc x.toNat.testBit p k + (x.toNat.testBit k).toNat * 2 ^ p k : Nat) : Int) = _
    rw [Int.natCast_add, Int.natCast_mul, pow_nat, ho, hq]
    unfold bitI at hb; rw [hb]
  rw [IntKind.wrap_u64, IntKind.wrap_u64]
  have h2 : ((M.acc x.toNat.testBit p (k + 1) : Nat) : Int) < 18446744073709551616 := by omega
  have h3 : 0 ≤ ((M.acc x.toNat.testBit p (k + 1) : Nat) : Int) := by omega
  rw [e] at h2 h3
  rw [e]
  generalize b * q = z at *
  omega
theorem refRot_is (x n r : Int) (w : World) (h0 : 0 ≤ x) (h1 : x < 18446744073709551616) (hr : Hid (rotI x n = r)) :
    Calls Try.prog 23 #[.int .u64 x, .int .i64 n] w fun e w' => e = .returned (.int .u64 r) ∧ w = w' := by
  obtain ⟨m, hm0⟩ : ∃ m : Nat, n % 64 = (m : Int) := ⟨(n % 64).toNat, by omega⟩
  have hm64 : m < 64 := by omega
  have hm := Lib.hid hm0
  have hfin := Lib.hid (show ((M.acc x.toNat.testBit (fun k => (k + m) % 64) 64 : Nat) : Int) = r by
    rw [M.rot_acc _ _ hm64, ← hr.out]; unfold rotI; rw [hm0, Int.toNat_natCast])
  clear hm0
  go_enter Try.func23, Try.ntmps23
  go_wp2
  go_loop [5, 6] (fun p i => ∃ (k : Nat) (o : Int), k ≤ 64 ∧ i = .int .i64 k ∧ p = .int .u64 o ∧ Hid (((M.acc x.toNat.testBit (fun k => (k + m) % 64) k : Nat) : Int) = o)) (fun _ i => 64 - (intOf i).toNat)
  case atStart => exact ⟨0, 0, Nat.zero_le _, rfl, rfl, Lib.hid rfl⟩
  case round =>
    obtain ⟨k, o, hk, rfl, rfl, ho⟩ := hrel
    by_cases hlt : k < 64
    · obtain ⟨b, hb0⟩ : ∃ b, bitI x k = b := ⟨_, rfl⟩
      obtain ⟨q, hq0⟩ : ∃ q : Int, (2 : Int) ^ ((k + m) % 64) = q := ⟨_, rfl⟩
      have hp : Hid (((k : Int) + (m : Int)) % 64 = (((k + m) % 64 : Nat) : Int)) := Lib.hid (by omega)
      have hn := Lib.hid (acc_spell x (fun k => (k + m) % 64) k o b q ho.out hb0 hq0 (M.rot_acc_lt _ _ hm64 _ hlt))
      have hb := Lib.hid hb0
      have hq := Lib.hid hq0
      clear hb0 hq0
      go_wp2_with fail
      refine (bit_is x k b _ h0 h1 hlt hb).mono ?_
      rintro e w' ⟨rfl, rfl⟩
      go_wp2_with fail
      refine (mod_is n m _ hm).mono ?_
      rintro e w' ⟨rfl, rfl⟩
      go_wp2_with fail
      refine (mod_is _ _ _ hp).mono ?_
      rintro e w' ⟨rfl, rfl⟩
      go_wp2_with fail
      refine (power_is ((k + m) % 64) q _ (by omega) hq).mono ?_
      rintro e w' ⟨rfl, rfl⟩
      go_wp2_with fail
      go_round
      case rel => exact ⟨k + 1, _, by omega, by go_num, rfl, hn⟩
      case measure => simp [intOf]; omega
    · obtain rfl : k = 64 := by omega
      go_wp2
      go_ret
      exact ⟨ret_int (ho.out.symm.trans hfin.out), rfl⟩
end Go.Proofs.Ytmdolblcffnkcaa
