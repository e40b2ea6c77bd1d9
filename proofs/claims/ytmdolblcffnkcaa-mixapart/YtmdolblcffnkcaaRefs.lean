/- The contracts of Xor, Down, Stir, Word, Below of the reference and of Below of package mix: they only compute. -/
import Derived.Test.YtmdolblcffnkcaaSmall
import Derived.Test.YtmdolblcffnkcaaSpells
namespace Go.Proofs.Ytmdolblcffnkcaa
open Go.RowKit

theorem refXor_is (a b r : Int) (w : World) (ha : U64 a) (hb : U64 b) (hr : Hid (xorI a b = r)) :
    Calls Try.prog 17 #[.int .u64 a, .int .u64 b] w fun e w' => e = .returned (.int .u64 r) ∧ w = w' := by
  go_enter Try.func17, Try.ntmps17
  go_wp2_with fail
  go_loop [5, 6] (fun p i => ∃ (k : Nat) (o : Int), k ≤ 64 ∧ i = .int .i64 k ∧ p = .int .u64 o ∧ Hid (((xacc a b k : Nat) : Int) = o)) (fun _ i => 64 - (intOf i).toNat)
  case atStart => exact ⟨0, 0, Nat.zero_le _, rfl, rfl, Lib.hid rfl⟩
  case round =>
    obtain ⟨k, o, hk, rfl, rfl, ho⟩ := hrel
    by_cases hlt : k < 64
    · obtain ⟨c, hc0⟩ : ∃ c, bitI a k = c := ⟨_, rfl⟩
      obtain ⟨d, hd0⟩ : ∃ d, bitI b k = d := ⟨_, rfl⟩
      obtain ⟨q, hq0⟩ : ∃ q : Int, (2 : Int) ^ k = q := ⟨_, rfl⟩
      have hc := Lib.hid hc0
      have hd := Lib.hid hd0
      have hq := Lib.hid hq0
      by_cases hcd : c = d
      · subst hcd
        have hn := Lib.hid ((congrArg (Nat.cast (R := Int)) (xacc_same a b k (hc0.trans hd0.symm))).trans ho.out)
        clear hc0 hd0 hq0
        go_wp2_with fail
        refine (bit_is a k c _ ha.1 ha.2 hlt hc).mono ?_
        rintro e w' ⟨rfl, rfl⟩
        go_wp2_with fail
        refine (bit_is b k c _ hb.1 hb.2 hlt hd).mono ?_
        rintro e w' ⟨rfl, rfl⟩
        go_wp2_with fail
        go_round
        case rel => exact ⟨k + 1, _, by omega, by go_num, rfl, hn⟩
        case measure => simp [intOf]; omega
      · have hn := Lib.hid (xacc_other a b o q k hlt (by rw [hc0, hd0]; exact hcd) ho.out hq0)
        have hcd2 : (c == d) = false := by simpa using hcd
        clear hc0 hd0 hq0
        go_wp2_with fail
        refine (bit_is a k c _ ha.1 ha.2 hlt hc).mono ?_
        rintro e w' ⟨rfl, rfl⟩
        go_wp2_with fail
        refine (bit_is b k d _ hb.1 hb.2 hlt hd).mono ?_
        rintro e w' ⟨rfl, rfl⟩
        go_wp2_with fail
        refine (power_is k q _ hlt hq).mono ?_
        rintro e w' ⟨rfl, rfl⟩
        go_wp2_with fail
        go_round
        case rel => exact ⟨k + 1, _, by omega, by go_num, rfl, hn⟩
        case measure => simp [intOf]; omega
    · obtain rfl : k = 64 := by omega
      have hfin := Lib.hid (xacc_all a b ha hb)
      go_wp2_with fail
      go_ret
      exact ⟨ret_int (ho.out.symm.trans (hfin.out.trans hr.out)), rfl⟩
theorem refDown_is (x r : Int) (s : Nat) (w : World) (hx : U64 x) (hs : s < 64) (hr : Hid (xorI x (x / 2 ^ s) = r)) :
    Calls Try.prog 24 #[.int .u64 x, .int .i64 s] w fun e w' => e = .returned (.int .u64 r) ∧ w = w' := by
  have hp := Lib.hid (part64 x s hs)
  have hd := div_U64 x s hx.1 hx.2
  go_enter Try.func24, Try.ntmps24
  go_wp2_with fail
  refine (refPart_is x s 64 _ _ hx.1 hx.2 hp).mono ?_
  rintro e w' ⟨rfl, rfl⟩
  go_wp2_with fail
  refine (refXor_is x _ r _ hx hd hr).mono ?_
  rintro e w' ⟨rfl, rfl⟩
  go_wp2_with fail
  go_ret
  exact ⟨rfl, rfl⟩
theorem refStir_is (x r : Int) (w : World) (hx : U64 x) (hr : Hid (mixI x = r)) :
    Calls Try.prog 16 #[.int .u64 x] w fun e w' => e = .returned (.int .u64 r) ∧ w = w' := by
  obtain ⟨y, hy⟩ : ∃ y, stepI 30 13787848793156543929 x = y := ⟨_, rfl⟩
  obtain ⟨z, hz⟩ : ∃ z, stepI 27 10723151780598845931 y = z := ⟨_, rfl⟩
  have hyU : U64 y := by rw [← hy]; exact stepI_U64 ..
  have hzU : U64 z := by rw [← hz]; exact stepI_U64 ..
  have h1 := step_spell 30 13787848793156543929 x hx (by omega)
  have h2 := step_spell 27 10723151780598845931 y hyU (by omega)
  have h3 : xorI z (z / 2 ^ 31) = r := by rw [last_step z hzU, ← hr.out, mixI_is, hy, hz]
  rw [hy] at h1
  rw [hz] at h2
  obtain ⟨d1, hd1⟩ : ∃ d, xorI x (x / 2 ^ 30) = d := ⟨_, rfl⟩
  obtain ⟨d2, hd2⟩ : ∃ d, xorI y (y / 2 ^ 27) = d := ⟨_, rfl⟩
  rw [hd1] at h1
  rw [hd2] at h2
  have k1 := Lib.hid hd1
  have k2 := Lib.hid hd2
  have k3 := Lib.hid h3
  have g1 := Lib.hid h1
  have g2 := Lib.hid h2
  clear h1 h2 h3 hd1 hd2 hy hz hr
  go_enter Try.func16, Try.ntmps16
  go_wp2_with fail
  refine (refDown_is x d1 30 _ hx (by omega) k1).mono ?_
  rintro e w' ⟨rfl, rfl⟩
  go_wp2_with fail
  rw [g1.out]
  refine (refDown_is y d2 27 _ hyU (by omega) k2).mono ?_
  rintro e w' ⟨rfl, rfl⟩
  go_wp2_with fail
  rw [g2.out]
  refine (refDown_is z r 31 _ hzU (by omega) k3).mono ?_
  rintro e w' ⟨rfl, rfl⟩
  go_wp2_with fail
  go_ret
  exact ⟨rfl, rfl⟩
theorem wrap_U64 (x : Int) : U64 (IntKind.u64.wrap x) := by rw [IntKind.wrap_u64]; unfold U64; omega
theorem refWord_is (seed x r : Int) (w : World) (hs : U64 seed) (hx : U64 x) (hr : Hid (wordI seed x = r)) :
    Calls Try.prog 7 #[.int .u64 seed, .int .u64 x] w fun e w' => e = .returned (.int .u64 r) ∧ w = w' := by
  obtain ⟨d, hd⟩ : ∃ d, xorI seed x = d := ⟨_, rfl⟩
  have h2 : mixI (IntKind.u64.wrap (d + 11400714819323198485)) = r := by rw [← hd, ← wordI_is]; exact hr.out
  have k1 := Lib.hid hd
  have k2 := Lib.hid h2
  have hu := wrap_U64 (d + 11400714819323198485)
  clear h2 hd hr
  go_enter Try.func7, Try.ntmps7
  go_wp2_with fail
  refine (refXor_is seed x d _ hs hx k1).mono ?_
  rintro e w' ⟨rfl, rfl⟩
  go_wp2_with fail
  refine (refStir_is _ r _ hu k2).mono ?_
  rintro e w' ⟨rfl, rfl⟩
  go_wp2_with fail
  go_ret
  exact ⟨rfl, rfl⟩
theorem below_small (x n : Int) (h : n < 1) : belowI x n = 0 := if_pos h
theorem below_spell (x n : Int) (h : ¬ n < 1) (hn : n ≤ 9223372036854775807) : wrap64 (x % n) = belowI x n := by
  have h1 := Int.emod_nonneg x (show n ≠ 0 by omega)
  have h2 := Int.emod_lt_of_pos x (show 0 < n by omega)
  rw [belowI, if_neg h]; unfold wrap64; omega
theorem below_is (x n r : Int) (w : World) (hx : U64 x) (hn : n ≤ 9223372036854775807) (hr : Hid (belowI x n = r)) :
    Calls Try.prog 12 #[.int .u64 x, .int .i64 n] w fun e w' => e = .returned (.int .i64 r) ∧ w = w' := by
  by_cases h : n < 1
  · have H := Lib.hid ((below_small x n h).symm.trans hr.out)
    go_enter Try.func12, Try.ntmps12
    go_wp2_with fail
    go_ret
    exact ⟨ret_int H.out, rfl⟩
  · have H := Lib.hid ((below_spell x n h hn).trans hr.out)
    have hn0 : (n == 0) = false := by simp; omega
    obtain ⟨hx0, hx1⟩ := hx
    have hn1 : 1 ≤ n := by omega
    go_enter Try.func12, Try.ntmps12
    go_wp2_with fail
    go_ret
    exact ⟨ret_int H.out, rfl⟩
theorem refBelow_is (x n r : Int) (w : World) (hx : U64 x) (hn : n ≤ 9223372036854775807) (hr : Hid (belowI x n = r)) :
    Calls Try.prog 13 #[.int .u64 x, .int .i64 n] w fun e w' => e = .returned (.int .i64 r) ∧ w = w' := by
  by_cases h : n < 1
  · have H := Lib.hid ((below_small x n h).symm.trans hr.out)
    go_enter Try.func13, Try.ntmps13
    go_wp2_with fail
    go_ret
    exact ⟨ret_int H.out, rfl⟩
  · have H := Lib.hid ((below_spell x n h hn).trans hr.out)
    have hn0 : (n == 0) = false := by simp; omega
    obtain ⟨hx0, hx1⟩ := hx
    have hn1 : 1 ≤ n := by omega
    go_enter Try.func13, Try.ntmps13
    go_wp2_with fail
    go_ret
    exact ⟨ret_int H.out, rfl⟩
end Go.Proofs.Ytmdolblcffnkcaa
