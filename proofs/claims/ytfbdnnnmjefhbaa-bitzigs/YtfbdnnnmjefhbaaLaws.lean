/- The walks of the laws BitParts, BitCounts, BitZigs and BitBack. -/
import Derived.Test.YtfbdnnnmjefhbaaRefCounts
namespace Go.Proofs.Ytfbdnnnmjefhbaa
open Go.RowKit

theorem zig_U64 (n : Int) (h0 : -9223372036854775808 ≤ n) (h1 : n ≤ 9223372036854775807) : U64 (zigI n) := by unfold zigI U64; split <;> omega
theorem zag_I64 (x : Int) (h0 : 0 ≤ x) (h1 : x < 18446744073709551616) : I64 (zagI x) := by unfold zagI I64; split <;> omega
theorem zag_zig (n : Int) : zagI (zigI n) = n := by unfold zagI zigI; split <;> split <;> omega
theorem zig_zag (x : Int) (h0 : 0 ≤ x) : zigI (zagI x) = x := by unfold zagI zigI; split <;> split <;> omega
theorem rot_rot (x n k : Int) (h0 : 0 ≤ x) (h1 : x < 18446744073709551616) (hk : (k + n) % 64 = 0) : rotI (rotI x n) k = x := by
  have h := M.rot_back x.toNat (n % 64).toNat (nat64 h0 h1) (by omega)
  unfold rotI
  rw [Int.toNat_natCast, show (k % 64).toNat = (64 - (n % 64).toNat) % 64 by omega, h]; omega
theorem turn_turn (x : Int) (h0 : 0 ≤ x) (h1 : x < 18446744073709551616) : turnI (turnI x) = x := by
  unfold turnI; rw [Int.toNat_natCast, M.turn_back _ (nat64 h0 h1)]; omega
theorem lo_part (x n a p : Int) (h0 : 0 ≤ x) (h1 : x < 18446744073709551616) (hn : 0 ≤ n) (hn2 : n < 64) (ha : lo x n = a) (hp : part x n 64 = p) : (IntKind.u64.wrap (a + IntKind.u64.wrap (p * 2 ^ n.toNat)) != x) = false := by
  have e : part x n 64 = x / 2 ^ n.toNat := by
    rw [part_small x n 64 (by omega), max_up n hn]; rfl
  have e2 : lo x n = x % 2 ^ n.toNat := by
    unfold lo; split
    · have : n = 0 := by omega
      subst this; simp
    · rw [if_neg (by omega)]
  have hd := Int.mul_ediv_add_emod x (2 ^ n.toNat)
  have hq := pow_pos n.toNat
  have hm := Int.emod_nonneg x (show (2 : Int) ^ n.toNat ≠ 0 by omega)
  have hd2 := Int.mul_nonneg (show 0 ≤ (2 : Int) ^ n.toNat by omega) (Int.ediv_nonneg h0 (show 0 ≤ (2 : Int) ^ n.toNat by omega))
  rw [← ha, ← hp, e, e2, IntKind.wrap_u64, IntKind.wrap_u64, Int.mul_comm (x / 2 ^ n.toNat)]
  generalize (2 : Int) ^ n.toNat * (x / 2 ^ n.toNat) = q at *
  generalize x % 2 ^ n.toNat = s at *
  simp; omega

set_option maxRecDepth 100000 in
set_option maxHeartbeats 400000 in
theorem bitParts_any (x f n : Int) (w : World) (h0 : 0 ≤ x) (h1 : x < 18446744073709551616) (hn0 : -9223372036854775808 ≤ n) (hn1 : n ≤ 9223372036854775807) :
    Calls Try.prog 3 #[.int .u64 x, .int .i64 f, .int .i64 n] w fun e w' => e = .returned (.bool true) ∧ Below w.heap.size w w' := by
  obtain ⟨a, ha0⟩ : ∃ a, lo x n = a := ⟨_, rfl⟩
  obtain ⟨b, hb0⟩ : ∃ b, part x f n = b := ⟨_, rfl⟩
  obtain ⟨c, hc0⟩ : ∃ c, rotI x n = c := ⟨_, rfl⟩
  obtain ⟨d, hd0⟩ : ∃ d, turnI x = d := ⟨_, rfl⟩
  have ha := Lib.hid ha0
  have hb := Lib.hid hb0
  have hc := Lib.hid hc0
  have hd := Lib.hid hd0
  clear ha0 hb0 hc0 hd0
  go_enter Try.func3, Try.ntmps3
  go_wp2_with fail
  refine (low_is x n a _ h0 h1 ha).mono ?_
  rintro e w' ⟨rfl, rfl⟩
  go_wp2_with fail
  refine (refLow_is x n a _ h0 h1 ha).mono ?_
  rintro e w' ⟨rfl, rfl⟩
  go_wp2_with fail
  refine (part_is x f n b _ h0 h1 hb).mono ?_
  rintro e w' ⟨rfl, rfl⟩
  go_wp2_with fail
  refine (refPart_is x f n b _ h0 h1 hb).mono ?_
  rintro e w' ⟨rfl, rfl⟩
  go_wp2_with fail
  refine (rot_is x n c _ h0 h1 hn0 hn1 hc).mono ?_
  rintro e w' ⟨rfl, rfl⟩
  go_wp2_with fail
  refine (refRot_is x n c _ h0 h1 hc).mono ?_
  rintro e w' ⟨rfl, rfl⟩
  go_wp2_with fail
  refine (turn_is x d _ h0 h1 hd).mono ?_
  rintro e w1 ⟨rfl, hb1⟩
  go_wp2_with fail
  refine (refTurn_is x d _ h0 h1 hd).mono ?_
  rintro e w' ⟨rfl, rfl⟩
  go_wp2_with fail
  refine (alive_is _).mono ?_
  rintro e w' ⟨rfl, rfl⟩
  go_wp2_with fail
  go_ret
  exact ⟨rfl, hb1⟩

set_option maxRecDepth 100000 in
set_option maxHeartbeats 400000 in
theorem bitCounts_any (x : Int) (w : World) (h0 : 0 ≤ x) (h1 : x < 18446744073709551616) :
    Calls Try.prog 4 #[.int .u64 x] w fun e w' => e = .returned (.bool true) ∧ Below w.heap.size w w' := by
  obtain ⟨t, ht0⟩ := M.Trail.some x.toNat.testBit
  obtain ⟨d, hd0⟩ := M.Trail.some (M.down x.toNat)
  obtain ⟨o, ho0⟩ : ∃ o, M.ones x.toNat.testBit 64 = o := ⟨_, rfl⟩
  obtain ⟨l, hl0⟩ : ∃ l, 64 - (d : Int) = l := ⟨_, rfl⟩
  have hd64 := hd0.1
  have ht := Lib.hid ht0
  have hd := Lib.hid hd0
  have ho := Lib.hid ho0
  have hl := Lib.hid hl0
  clear ht0 hd0 ho0 hl0
  go_enter Try.func4, Try.ntmps4
  go_wp2_with fail
  refine (halves_is x _ _ _ h0 h1 (Lib.hid rfl) (Lib.hid rfl)).mono ?_
  rintro e w' ⟨rfl, rfl⟩
  go_wp2_with fail
  refine (trail_is x t _ h0 h1 ht).mono ?_
  rintro e w1 ⟨rfl, hb1⟩
  go_wp2_with fail
  refine (refTrail_is x t _ h0 h1 ht).mono ?_
  rintro e w' ⟨rfl, rfl⟩
  go_wp2_with fail
  refine (len_is x l d _ h0 hd64 hd hl).mono ?_
  rintro e w2 ⟨rfl, hb2⟩
  have hbb := hb1.trans (hb2.mono hb1.size)
  clear hb1 hb2
  go_wp2_with fail
  refine (refLen_is x l d _ h0 h1 hd hl).mono ?_
  rintro e w' ⟨rfl, rfl⟩
  go_wp2_with fail
  refine (ones_is x o _ h0 h1 ho).mono ?_
  rintro e w3 ⟨rfl, hb3⟩
  have hbc := hbb.trans (hb3.mono hbb.size)
  clear hbb hb3
  go_wp2_with fail
  refine (refOnes_is x o _ h0 h1 ho).mono ?_
  rintro e w' ⟨rfl, rfl⟩
  go_wp2_with fail
  refine (alive_is _).mono ?_
  rintro e w' ⟨rfl, rfl⟩
  go_wp2_with fail
  go_ret
  exact ⟨rfl, hbc⟩

set_option maxRecDepth 100000 in
set_option maxHeartbeats 400000 in
theorem bitZigs_any (n x : Int) (w : World) (h0 : 0 ≤ x) (h1 : x < 18446744073709551616) (hn0 : -9223372036854775808 ≤ n) (hn1 : n ≤ 9223372036854775807) :
    Calls Try.prog 5 #[.int .i64 n, .int .u64 x] w fun e w' => e = .returned (.bool true) ∧ Below w.heap.size w w' := by
  obtain ⟨a, ha0⟩ : ∃ a, zigI n = a := ⟨_, rfl⟩
  obtain ⟨b, hb0⟩ : ∃ b, zagI x = b := ⟨_, rfl⟩
  have hau := zig_U64 n hn0 hn1
  have hbi := zag_I64 x h0 h1
  rw [ha0] at hau
  rw [hb0] at hbi
  have ha1 := hau.1
  have ha2 := hau.2
  have hb1 := hbi.1
  have hb2 := hbi.2
  have hz := Lib.hid (show zagI a = n by rw [← ha0]; exact zag_zig n)
  have hy := Lib.hid (show zigI b = x by rw [← hb0]; exact zig_zag x h0)
  have ha := Lib.hid ha0
  have hb := Lib.hid hb0
  clear ha0 hb0 hau hbi
  go_enter Try.func5, Try.ntmps5
  go_wp2_with fail
  refine (zig_is n a _ hn0 hn1 ha).mono ?_
  rintro e w' ⟨rfl, rfl⟩
  go_wp2_with fail
  refine (refZig_is n a _ hn0 hn1 ha).mono ?_
  rintro e w' ⟨rfl, rfl⟩
  go_wp2_with fail
  refine (zag_is x b _ h0 h1 hb).mono ?_
  rintro e w' ⟨rfl, rfl⟩
  go_wp2_with fail
  refine (refZag_is x b _ h0 h1 hb).mono ?_
  rintro e w' ⟨rfl, rfl⟩
  go_wp2_with fail
  refine (zig_is n a _ hn0 hn1 ha).mono ?_
  rintro e w' ⟨rfl, rfl⟩
  go_wp2_with fail
  refine (zag_is a n _ ha1 ha2 hz).mono ?_
  rintro e w' ⟨rfl, rfl⟩
  go_wp2_with fail
  refine (zag_is x b _ h0 h1 hb).mono ?_
  rintro e w' ⟨rfl, rfl⟩
  go_wp2_with fail
  refine (zig_is b x _ hb1 hb2 hy).mono ?_
  rintro e w' ⟨rfl, rfl⟩
  go_wp2_with fail
  refine (alive_is _).mono ?_
  rintro e w' ⟨rfl, rfl⟩
  go_wp2_with fail
  go_ret
  exact ⟨rfl, Below.refl _ _⟩

set_option maxRecDepth 100000 in
set_option maxHeartbeats 1000000 in
theorem bitBack_any (x n : Int) (w : World) (h0 : 0 ≤ x) (h1 : x < 18446744073709551616) (hn0 : -9223372036854775808 ≤ n) (hn1 : n ≤ 9223372036854775807) :
    Calls Try.prog 6 #[.int .u64 x, .int .i64 n] w fun e w' => e = .returned (.bool true) ∧ Below w.heap.size w w' := by
  obtain ⟨a, ha0⟩ : ∃ a, x / 4294967296 = a := ⟨_, rfl⟩
  obtain ⟨b, hb0⟩ : ∃ b, x % 4294967296 = b := ⟨_, rfl⟩
  obtain ⟨c, hc0⟩ : ∃ c, rotI x n = c := ⟨_, rfl⟩
  obtain ⟨d, hd0⟩ : ∃ d, turnI x = d := ⟨_, rfl⟩
  obtain ⟨t, ht0⟩ := M.Trail.some (M.down x.toNat)
  obtain ⟨l, hl0⟩ : ∃ l, 64 - (t : Int) = l := ⟨_, rfl⟩
  obtain ⟨o, ho0⟩ : ∃ o, M.ones x.toNat.testBit 64 = o := ⟨_, rfl⟩
  have hcu := rotI_U64 x n
  have hdu := turnI_U64 x
  rw [hc0] at hcu
  rw [hd0] at hdu
  have hw := Lib.hid (show bits .or .u64 (a * 4294967296) b = x by rw [← ha0, ← hb0]; exact whole_spell x h0 h1)
  have hab : 0 ≤ a ∧ a < 4294967296 ∧ 0 ≤ b ∧ b < 4294967296 := by omega
  have hdd := Lib.hid (show turnI d = x by rw [← hd0]; exact turn_turn x h0 h1)
  have htt := Lib.hid (show M.Trail d.toNat.testBit t by rw [← hd0]; unfold turnI; rw [Int.toNat_natCast]; exact M.down_turn x.toNat t ht0)
  have hoo := Lib.hid (show M.ones c.toNat.testBit 64 = o by rw [← hc0]; unfold rotI; rw [Int.toNat_natCast, M.ones_rot, ho0])
  have ht64 := ht0.1
  have hllb : ((64 - (t : Int)) == l) = true := by simpa using hl0
  have hlle : (l == (64 - (t : Int))) = true := by simpa using hl0.symm
  have ha := Lib.hid ha0
  have hb := Lib.hid hb0
  have hc := Lib.hid hc0
  have hd := Lib.hid hd0
  have ht := Lib.hid ht0
  have hl := Lib.hid hl0
  have ho := Lib.hid ho0
  obtain ⟨p, hp0⟩ : ∃ p, lo x n = p := ⟨_, rfl⟩
  obtain ⟨q, hq0⟩ : ∃ q, part x n 64 = q := ⟨_, rfl⟩
  have hp := Lib.hid hp0
  have hq := Lib.hid hq0
  obtain ⟨ha1, ha2, hb1, hb2⟩ := hab
  have hc1 := hcu.1
  have hc2 := hcu.2
  have hd1 := hdu.1
  have hd2 := hdu.2
  have htm2 := Int.tmod_lt_of_pos n (show (0 : Int) < 64 by omega)
  have htm3 := Int.lt_tmod_of_pos n (show (0 : Int) < 64 by omega)
  have htm4 := Lib.hid (show (-n.tmod 64 + n) % 64 = 0 by have := Int.tmod_def n 64; omega)
  clear ha0 hb0 hc0 hd0 ht0 hl0 ho0 hp0 hq0 hcu hdu hllb
  by_cases hneg : 0 ≤ n
  · by_cases hin : n < 64
    · have hrr := Lib.hid (rot_rot x n (-(n % 64)) h0 h1 (by omega))
      rw [hc.out] at hrr
      have hlp := lo_part x n p q h0 h1 hneg hin hp.out hq.out
      go_enter Try.func6, Try.ntmps6
      go_wp2_with fail
      refine (halves_is x a b _ h0 h1 ha hb).mono ?_
      rintro e w' ⟨rfl, rfl⟩
      go_wp2_with fail
      refine (whole_is a b x _ ha1 ha2 hb1 hb2 hw).mono ?_
      rintro e w' ⟨rfl, rfl⟩
      go_wp2_with fail
      refine (rot_is x n c _ h0 h1 hn0 hn1 hc).mono ?_
      rintro e w' ⟨rfl, rfl⟩
      go_wp2_with fail
      refine (rot_is c (-(n % 64)) x _ hc1 hc2 (by omega) (by omega) hrr).mono ?_
      rintro e w' ⟨rfl, rfl⟩
      go_wp2_with fail
      refine (turn_is x d _ h0 h1 hd).mono ?_
      rintro e w1 ⟨rfl, hb1⟩
      go_wp2_with fail
      refine (turn_is d x _ hd1 hd2 hdd).mono ?_
      rintro e w2 ⟨rfl, hb2⟩
      have hbb := hb1.trans (hb2.mono hb1.size)
      clear hb1 hb2
      go_wp2_with fail
      refine (low_is x n p _ h0 h1 hp).mono ?_
      rintro e w' ⟨rfl, rfl⟩
      go_wp2_with fail
      refine (part_is x n 64 q _ h0 h1 hq).mono ?_
      rintro e w' ⟨rfl, rfl⟩
      go_wp2_with fail
      refine (len_is x l t _ h0 ht64 ht hl).mono ?_
      rintro e w3 ⟨rfl, hb3⟩
      have hbc := hbb.trans (hb3.mono hbb.size)
      clear hbb hb3
      go_wp2_with fail
      refine (turn_is x d _ h0 h1 hd).mono ?_
      rintro e w4 ⟨rfl, hb4⟩
      have hbd := hbc.trans (hb4.mono hbc.size)
      clear hbc hb4
      go_wp2_with fail
      refine (trail_is d t _ hd1 hd2 htt).mono ?_
      rintro e w5 ⟨rfl, hb5⟩
      have hbe := hbd.trans (hb5.mono hbd.size)
      clear hbd hb5
      go_wp2_with fail
      refine (rot_is x n c _ h0 h1 hn0 hn1 hc).mono ?_
      rintro e w' ⟨rfl, rfl⟩
      go_wp2_with fail
      refine (ones_is c o _ hc1 hc2 hoo).mono ?_
      rintro e w6 ⟨rfl, hb6⟩
      have hbf := hbe.trans (hb6.mono hbe.size)
      clear hbe hb6
      go_wp2_with fail
      refine (ones_is x o _ h0 h1 ho).mono ?_
      rintro e w7 ⟨rfl, hb7⟩
      have hbg := hbf.trans (hb7.mono hbf.size)
      clear hbf hb7
      go_wp2_with fail
      refine (alive_is _).mono ?_
      rintro e w' ⟨rfl, rfl⟩
      go_wp2_with fail
      go_ret
      exact ⟨rfl, hbg⟩
    · have hrr := Lib.hid (rot_rot x n (-(n % 64)) h0 h1 (by omega))
      rw [hc.out] at hrr
      go_enter Try.func6, Try.ntmps6
      go_wp2_with fail
      refine (halves_is x a b _ h0 h1 ha hb).mono ?_
      rintro e w' ⟨rfl, rfl⟩
      go_wp2_with fail
      refine (whole_is a b x _ ha1 ha2 hb1 hb2 hw).mono ?_
      rintro e w' ⟨rfl, rfl⟩
      go_wp2_with fail
      refine (rot_is x n c _ h0 h1 hn0 hn1 hc).mono ?_
      rintro e w' ⟨rfl, rfl⟩
      go_wp2_with fail
      refine (rot_is c (-(n % 64)) x _ hc1 hc2 (by omega) (by omega) hrr).mono ?_
      rintro e w' ⟨rfl, rfl⟩
      go_wp2_with fail
      refine (turn_is x d _ h0 h1 hd).mono ?_
      rintro e w1 ⟨rfl, hb1⟩
      go_wp2_with fail
      refine (turn_is d x _ hd1 hd2 hdd).mono ?_
      rintro e w2 ⟨rfl, hb2⟩
      have hbb := hb1.trans (hb2.mono hb1.size)
      clear hb1 hb2
      go_wp2_with fail
      refine (len_is x l t _ h0 ht64 ht hl).mono ?_
      rintro e w3 ⟨rfl, hb3⟩
      have hbc := hbb.trans (hb3.mono hbb.size)
      clear hbb hb3
      go_wp2_with fail
      refine (turn_is x d _ h0 h1 hd).mono ?_
      rintro e w4 ⟨rfl, hb4⟩
      have hbd := hbc.trans (hb4.mono hbc.size)
      clear hbc hb4
      go_wp2_with fail
      refine (trail_is d t _ hd1 hd2 htt).mono ?_
      rintro e w5 ⟨rfl, hb5⟩
      have hbe := hbd.trans (hb5.mono hbd.size)
      clear hbd hb5
      go_wp2_with fail
      refine (rot_is x n c _ h0 h1 hn0 hn1 hc).mono ?_
      rintro e w' ⟨rfl, rfl⟩
      go_wp2_with fail
      refine (ones_is c o _ hc1 hc2 hoo).mono ?_
      rintro e w6 ⟨rfl, hb6⟩
      have hbf := hbe.trans (hb6.mono hbe.size)
      clear hbe hb6
      go_wp2_with fail
      refine (ones_is x o _ h0 h1 ho).mono ?_
      rintro e w7 ⟨rfl, hb7⟩
      have hbg := hbf.trans (hb7.mono hbf.size)
      clear hbf hb7
      go_wp2_with fail
      refine (alive_is _).mono ?_
      rintro e w' ⟨rfl, rfl⟩
      go_wp2_with fail
      go_ret
      exact ⟨rfl, hbg⟩
  · have hlt0 : n < 0 := by omega
    have hrr := Lib.hid (rot_rot x n (-n.tmod 64) h0 h1 htm4.out)
    rw [hc.out] at hrr
    go_enter Try.func6, Try.ntmps6
    go_wp2_with fail
    refine (halves_is x a b _ h0 h1 ha hb).mono ?_
    rintro e w' ⟨rfl, rfl⟩
    go_wp2_with fail
    refine (whole_is a b x _ ha1 ha2 hb1 hb2 hw).mono ?_
    rintro e w' ⟨rfl, rfl⟩
    go_wp2_with fail
    refine (rot_is x n c _ h0 h1 hn0 hn1 hc).mono ?_
    rintro e w' ⟨rfl, rfl⟩
    go_wp2_with fail
    refine (rot_is c (-n.tmod 64) x _ hc1 hc2 (by omega) (by omega) hrr).mono ?_
    rintro e w' ⟨rfl, rfl⟩
    go_wp2_with fail
    refine (turn_is x d _ h0 h1 hd).mono ?_
    rintro e w1 ⟨rfl, hb1⟩
    go_wp2_with fail
    refine (turn_is d x _ hd1 hd2 hdd).mono ?_
    rintro e w2 ⟨rfl, hb2⟩
    have hbb := hb1.trans (hb2.mono hb1.size)
    clear hb1 hb2
    go_wp2_with fail
    refine (len_is x l t _ h0 ht64 ht hl).mono ?_
    rintro e w3 ⟨rfl, hb3⟩
    have hbc := hbb.trans (hb3.mono hbb.size)
    clear hbb hb3
    go_wp2_with fail
    refine (turn_is x d _ h0 h1 hd).mono ?_
    rintro e w4 ⟨rfl, hb4⟩
    have hbd := hbc.trans (hb4.mono hbc.size)
    clear hbc hb4
    go_wp2_with fail
    refine (trail_is d t _ hd1 hd2 htt).mono ?_
    rintro e w5 ⟨rfl, hb5⟩
    have hbe := hbd.trans (hb5.mono hbd.size)
    clear hbd hb5
    go_wp2_with fail
    refine (rot_is x n c _ h0 h1 hn0 hn1 hc).mono ?_
    rintro e w' ⟨rfl, rfl⟩
    go_wp2_with fail
    refine (ones_is c o _ hc1 hc2 hoo).mono ?_
    rintro e w6 ⟨rfl, hb6⟩
    have hbf := hbe.trans (hb6.mono hbe.size)
    clear hbe hb6
    go_wp2_with fail
    refine (ones_is x o _ h0 h1 ho).mono ?_
    rintro e w7 ⟨rfl, hb7⟩
    have hbg := hbf.trans (hb7.mono hbf.size)
    clear hbf hb7
    go_wp2_with fail
    refine (alive_is _).mono ?_
    rintro e w' ⟨rfl, rfl⟩
    go_wp2_with fail
    go_ret
    exact ⟨rfl, hbg⟩
end Go.Proofs.Ytfbdnnnmjefhbaa
