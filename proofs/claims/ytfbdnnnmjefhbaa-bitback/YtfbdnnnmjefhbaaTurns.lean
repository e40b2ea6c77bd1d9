/- The contracts of Turn of package bit, and of Rot and Turn of the reference. -/
import Derived.Test.YtfbdnnnmjefhbaaParts
namespace Go.Proofs.Ytfbdnnnmjefhbaa
open Go.RowKit

theorem powerI_is (i : Int) (n : Nat) (r : Int) (w : World) (h : n < 64) (hi : Hid (i = (n : Int))) (hr : Hid ((2 : Int) ^ n = r)) :
    Calls Try.prog 28 #[.int .i64 i] w fun e w' => e = .returned (.int .u64 r) ∧ w = w' := by
  rw [hi.out]; exact power_is n r w h hr
theorem acc_spell (x : Int) (p : Nat → Nat) (k : Nat) (o b q : Int) (ho : ((M.acc x.toNat.testBit p k : Nat) : Int) = o) (hb : bitI x k = b) (hq : (2 : Int) ^ p k = q) (hlt : M.acc x.toNat.testBit p (k + 1) < 2 ^ 64) :
    ((M.acc x.toNat.testBit p (k + 1) : Nat) : Int) = IntKind.u64.wrap (o + IntKind.u64.wrap (b * q)) := by
  have e : ((M.acc x.toNat.testBit p (k + 1) : Nat) : Int) = o + b * q := by
    show ((M.acc x.toNat.testBit p k + (x.toNat.testBit k).toNat * 2 ^ p k : Nat) : Int) = _
    rw [Int.natCast_add, Int.natCast_mul, pow_nat, ho, hq]
    unfold bitI at hb; rw [hb]
  rw [IntKind.wrap_u64, IntKind.wrap_u64]
  have h2 : ((M.acc x.toNat.testBit p (k + 1) : Nat) : Int) < 18446744073709551616 := by omega
  have h3 : 0 ≤ ((M.acc x.toNat.testBit p (k + 1) : Nat) : Int) := by omega
  rw [e] at h2 h3
  rw [e]
  generalize b * q = z at *
  omega
theorem refRot_is (x n r : Int) (w : World) (h0 : 0 ≤ x) (h1 : x < 18446744073709551616) (hr : Hid (rotI x n = r)) :
    Calls Try.prog 12 #[.int .u64 x, .int .i64 n] w fun e w' => e = .returned (.int .u64 r) ∧ w = w' := by
  obtain ⟨m, hm0⟩ : ∃ m : Nat, n % 64 = (m : Int) := ⟨(n % 64).toNat, by omega⟩
  have hm64 : m < 64 := by omega
  have hm := Lib.hid hm0
  have hfin := Lib.hid (show ((M.acc x.toNat.testBit (fun k => (k + m) % 64) 64 : Nat) : Int) = r by
    rw [M.rot_acc _ _ hm64, ← hr.out]; unfold rotI; rw [hm0, Int.toNat_natCast])
  clear hm0
  go_enter Try.func12, Try.ntmps12
  go_wp2
  go_loop [5, 6] (fun p i => ∃ (k : Nat) (o : Int), k ≤ 64 ∧ i = .int .i64 k ∧ p = .int .u64 o ∧ Hid (((M.acc x.toNat.testBit (fun k => (k + m) % 64) k : Nat) : Int) = o)) (fun _ i => 64 - (intOf i).toNat)
  case atStart => exact ⟨0, 0, Nat.zero_le _, rfl, rfl, Lib.hid rfl⟩
  case round =>
    obtain ⟨k, o, hk, rfl, rfl, ho⟩ := hrel
    by_cases hlt : k < 64
    · obtain ⟨b, hb0⟩ : ∃ b, bitI x k = b := ⟨_, rfl⟩
      obtain ⟨q, hq0⟩ : ∃ q : Int, (2 : Int) ^ ((k + m) % 64) = q := ⟨_, rfl⟩
      have hp : Hid (((k : Int) + (m : Int)) % 64 = (((k + m) % 64 : Nat) : Int)) := Lib.hid (by omega)
      have hn := Lib.hid (acc_spell x (fun k => (k + m) % 64) k o b q ho.out hb0 hq0 (M.rot_acc_lt _ _ hm64 _ hlt))
      have hb := Lib.hid hb0
      have hq := Lib.hid hq0
      clear hb0 hq0
      go_wp2_with fail
      refine (bit_is x k b _ h0 h1 hlt hb).mono ?_
      rintro e w' ⟨rfl, rfl⟩
      go_wp2_with fail
      refine (mod_is n m _ hm).mono ?_
      rintro e w' ⟨rfl, rfl⟩
      go_wp2_with fail
      refine (mod_is _ _ _ hp).mono ?_
      rintro e w' ⟨rfl, rfl⟩
      go_wp2_with fail
      refine (power_is ((k + m) % 64) q _ (by omega) hq).mono ?_
      rintro e w' ⟨rfl, rfl⟩
      go_wp2_with fail
      go_round
      case rel => exact ⟨k + 1, _, by omega, by go_num, rfl, hn⟩
      case measure => simp [intOf]; omega
    · obtain rfl : k = 64 := by omega
      go_wp2
      go_ret
      exact ⟨ret_int (ho.out.symm.trans hfin.out), rfl⟩
theorem refTurn_is (x r : Int) (w : World) (h0 : 0 ≤ x) (h1 : x < 18446744073709551616) (hr : Hid (turnI x = r)) :
    Calls Try.prog 14 #[.int .u64 x] w fun e w' => e = .returned (.int .u64 r) ∧ w = w' := by
  have hfin := Lib.hid (show ((M.acc x.toNat.testBit (fun k => 63 - k) 64 : Nat) : Int) = r by
    rw [M.turn_acc, ← hr.out]; rfl)
  go_enter Try.func14, Try.ntmps14
  go_wp2
  go_loop [3, 4] (fun p i => ∃ (k : Nat) (o : Int), k ≤ 64 ∧ i = .int .i64 k ∧ p = .int .u64 o ∧ Hid (((M.acc x.toNat.testBit (fun k => 63 - k) k : Nat) : Int) = o)) (fun _ i => 64 - (intOf i).toNat)
  case atStart => exact ⟨0, 0, Nat.zero_le _, rfl, rfl, Lib.hid rfl⟩
  case round =>
    obtain ⟨k, o, hk, rfl, rfl, ho⟩ := hrel
    by_cases hlt : k < 64
    · obtain ⟨b, hb0⟩ : ∃ b, bitI x k = b := ⟨_, rfl⟩
      obtain ⟨q, hq0⟩ : ∃ q : Int, (2 : Int) ^ (63 - k) = q := ⟨_, rfl⟩
      have hp : Hid ((63 : Int) - (k : Int) = ((63 - k : Nat) : Int)) := Lib.hid (by omega)
      have hn := Lib.hid (acc_spell x (fun k => 63 - k) k o b q ho.out hb0 hq0 (M.turn_acc_lt _ _ hlt))
      have hb := Lib.hid hb0
      have hq := Lib.hid hq0
      clear hb0 hq0
      go_wp2_with fail
      refine (bit_is x k b _ h0 h1 hlt hb).mono ?_
      rintro e w' ⟨rfl, rfl⟩
      go_wp2_with fail
      refine (powerI_is _ (63 - k) q _ (by omega) hp hq).mono ?_
      rintro e w' ⟨rfl, rfl⟩
      go_wp2_with fail
      go_round
      case rel => exact ⟨k + 1, _, by omega, by go_num, rfl, hn⟩
      case measure => simp [intOf]; omega
    · obtain rfl : k = 64 := by omega
      go_wp2
      go_ret
      exact ⟨ret_int (ho.out.symm.trans hfin.out), rfl⟩

theorem swap_spell (x : Int) (W : Nat) (m : Nat) (h0 : 0 ≤ x) (h1 : x < 18446744073709551616) (hm : m < 2 ^ 64) :
    bits .or .u64 (bits .and .u64 (x / 2 ^ W) (m : Int)) (IntKind.u64.wrap (bits .and .u64 x (m : Int) * 2 ^ W)) = ((M.swap x.toNat W m : Nat) : Int) := by
  have hd := div_U64 x W h0 h1
  have hx := nat64 h0 h1
  have hdn : x.toNat / 2 ^ W ≤ x.toNat := Nat.div_le_self _ _
  rw [div_nat x W h0, u64_and_nat _ _ (by omega) (by omega), u64_and x m h0 h1 (by omega) (by omega), Int.toNat_natCast]
  rw [mul_nat _ _ (by omega), Int.toNat_natCast]
  have h2 : x.toNat / 2 ^ W &&& m ≤ m := Nat.and_le_right
  have h3 : (x.toNat &&& m) * 2 ^ W % 2 ^ 64 < 2 ^ 64 := Nat.mod_lt _ (Nat.two_pow_pos _)
  rw [u64_or_nat _ _ (by omega) (by omega)]; rfl
theorem mask_lt : ∀ k, k < 6 → M.mask k < 2 ^ 64 := by decide +kernel
theorem next_spell (x y : Int) (k W : Nat) (P m : Int) (h0 : 0 ≤ x) (h1 : x < 18446744073709551616) (hy : ((M.swaps x.toNat k : Nat) : Int) = y) (hW : W = 2 ^ k) (hP : P = (2 : Int) ^ W) (hm : m = ((M.mask k : Nat) : Int)) (hk : k < 6) :
    ((M.swaps x.toNat (k + 1) : Nat) : Int) = bits .or .u64 (bits .and .u64 (y / P) m) (IntKind.u64.wrap (bits .and .u64 y m * P)) ∧ 0 ≤ bits .or .u64 (bits .and .u64 (y / P) m) (IntKind.u64.wrap (bits .and .u64 y m * P)) ∧ bits .or .u64 (bits .and .u64 (y / P) m) (IntKind.u64.wrap (bits .and .u64 y m * P)) < 18446744073709551616 := by
  have hl := M.swaps_lt x.toNat (nat64 h0 h1) k
  have hl2 := M.swaps_lt x.toNat (nat64 h0 h1) (k + 1)
  have e : ((M.swaps x.toNat (k + 1) : Nat) : Int) = bits .or .u64 (bits .and .u64 (y / P) m) (IntKind.u64.wrap (bits .and .u64 y m * P)) := by
    rw [hP, hm, swap_spell y W (M.mask k) (by omega) (by omega) (mask_lt k hk), ← hy, Int.toNat_natCast, hW]; rfl
  rw [← e]
  exact ⟨rfl, by omega, by omega⟩
theorem turn_is (x r : Int) (w : World) (h0 : 0 ≤ x) (h1 : x < 18446744073709551616) (hr : Hid (turnI x = r)) :
    Calls Try.prog 13 #[.int .u64 x] w fun e w' => e = .returned (.int .u64 r) ∧ Below w.heap.size w w' := by
  have hfin := Lib.hid (show ((M.swaps x.toNat 6 : Nat) : Int) = r by rw [M.swaps_all _ (nat64 h0 h1), ← hr.out]; rfl)
  have hlt := fun k => Lib.hid (M.swaps_lt x.toNat (nat64 h0 h1) k)
  have hA := fun o => Lib.hid ((Below.refl w.heap.size w).alloc (Nat.le_refl _) o)
  have i0 : ∀ w, (Instr.index 42 (.agg #[.int .u64 6148914691236517205, .int .u64 3689348814741910323, .int .u64 1085102592571150095, .int .u64 71777214294589695, .int .u64 281470681808895, .int .u64 4294967295]) (.int .i64 0)).run Try.prog w = .ok (.int .u64 6148914691236517205) w := fun _ => by kernel_rfl
  have i1 : ∀ w, (Instr.index 42 (.agg #[.int .u64 6148914691236517205, .int .u64 3689348814741910323, .int .u64 1085102592571150095, .int .u64 71777214294589695, .int .u64 281470681808895, .int .u64 4294967295]) (.int .i64 1)).run Try.prog w = .ok (.int .u64 3689348814741910323) w := fun _ => by kernel_rfl
  have i2 : ∀ w, (Instr.index 42 (.agg #[.int .u64 6148914691236517205, .int .u64 3689348814741910323, .int .u64 1085102592571150095, .int .u64 71777214294589695, .int .u64 281470681808895, .int .u64 4294967295]) (.int .i64 2)).run Try.prog w = .ok (.int .u64 1085102592571150095) w := fun _ => by kernel_rfl
  have i3 : ∀ w, (Instr.index 42 (.agg #[.int .u64 6148914691236517205, .int .u64 3689348814741910323, .int .u64 1085102592571150095, .int .u64 71777214294589695, .int .u64 281470681808895, .int .u64 4294967295]) (.int .i64 3)).run Try.prog w = .ok (.int .u64 71777214294589695) w := fun _ => by kernel_rfl
  have i4 : ∀ w, (Instr.index 42 (.agg #[.int .u64 6148914691236517205, .int .u64 3689348814741910323, .int .u64 1085102592571150095, .int .u64 71777214294589695, .int .u64 281470681808895, .int .u64 4294967295]) (.int .i64 4)).run Try.prog w = .ok (.int .u64 281470681808895) w := fun _ => by kernel_rfl
  have i5 : ∀ w, (Instr.index 42 (.agg #[.int .u64 6148914691236517205, .int .u64 3689348814741910323, .int .u64 1085102592571150095, .int .u64 71777214294589695, .int .u64 281470681808895, .int .u64 4294967295]) (.int .i64 5)).run Try.prog w = .ok (.int .u64 4294967295) w := fun _ => by kernel_rfl
  go_enter Try.func13, Try.ntmps13
  go_wp2
  go_loopw [0, 9] (fun p i wr => ∃ (k : Nat) (y : Int), k ≤ 6 ∧ i = .int .i64 k ∧ p = .int .u64 y ∧ 0 ≤ y ∧ y < 18446744073709551616 ∧ Hid (((M.swaps x.toNat k : Nat) : Int) = y) ∧ Below w.heap.size w wr) (fun _ i _ => 6 - (intOf i).toNat)
  case atStart => exact ⟨0, x, Nat.zero_le _, rfl, rfl, h0, h1, Lib.hid (by show ((x.toNat : Nat) : Int) = x; omega), (hA _).out⟩
  case round =>
    obtain ⟨k, y, hk, rfl, rfl, hy0, hy1, hy, hb⟩ := hrel
    by_cases hlt6 : k < 6
    · rcases (show k = 0 ∨ k = 1 ∨ k = 2 ∨ k = 3 ∨ k = 4 ∨ k = 5 by omega) with rfl | rfl | rfl | rfl | rfl | rfl
      · have hs := Lib.hid (next_spell x y 0 1 2 6148914691236517205 h0 h1 hy.out rfl rfl rfl (by omega))
        go_wp2
        go_quiet (fail)
        go_wp2
        go_roundw
        case rel => exact ⟨1, _, by omega, rfl, rfl, hs.out.2.1, hs.out.2.2, Lib.hid hs.out.1, below_drewN hb nq⟩
        case measure => simp [intOf]
      · have hs := Lib.hid (next_spell x y 1 2 4 3689348814741910323 h0 h1 hy.out rfl rfl rfl (by omega))
        go_wp2
        go_quiet (fail)
        go_wp2
        go_roundw
        case rel => exact ⟨2, _, by omega, rfl, rfl, hs.out.2.1, hs.out.2.2, Lib.hid hs.out.1, below_drewN hb nq⟩
        case measure => simp [intOf]
      · have hs := Lib.hid (next_spell x y 2 4 16 1085102592571150095 h0 h1 hy.out rfl rfl rfl (by omega))
        go_wp2
        go_quiet (fail)
        go_wp2
        go_roundw
        case rel => exact ⟨3, _, by omega, rfl, rfl, hs.out.2.1, hs.out.2.2, Lib.hid hs.out.1, below_drewN hb nq⟩
        case measure => simp [intOf]
      · have hs := Lib.hid (next_spell x y 3 8 256 71777214294589695 h0 h1 hy.out rfl rfl rfl (by omega))
        go_wp2
        go_quiet (fail)
        go_wp2
        go_roundw
        case rel => exact ⟨4, _, by omega, rfl, rfl, hs.out.2.1, hs.out.2.2, Lib.hid hs.out.1, below_drewN hb nq⟩
        case measure => simp [intOf]
      · have hs := Lib.hid (next_spell x y 4 16 65536 281470681808895 h0 h1 hy.out rfl rfl rfl (by omega))
        go_wp2
        go_quiet (fail)
        go_wp2
        go_roundw
        case rel => exact ⟨5, _, by omega, rfl, rfl, hs.out.2.1, hs.out.2.2, Lib.hid hs.out.1, below_drewN hb nq⟩
        case measure => simp [intOf]
      · have hs := Lib.hid (next_spell x y 5 32 4294967296 4294967295 h0 h1 hy.out rfl rfl rfl (by omega))
        go_wp2
        go_quiet (fail)
        go_wp2
        go_roundw
        case rel => exact ⟨6, _, by omega, rfl, rfl, hs.out.2.1, hs.out.2.2, Lib.hid hs.out.1, below_drewN hb nq⟩
        case measure => simp [intOf]
    · obtain rfl : k = 6 := by omega
      go_wp2
      go_ret
      exact ⟨ret_int (hy.out.symm.trans hfin.out), hb⟩
end Go.Proofs.Ytfbdnnnmjefhbaa
