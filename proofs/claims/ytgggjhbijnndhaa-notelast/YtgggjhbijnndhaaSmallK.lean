/- The contracts of Halves and Whole of package bit, of isRep, isSort, Dot, Undot and hasOwner of package key, and of cmp.Compare. -/
import Derived.Test.YtgggjhbijnndhaaKeys
namespace Go.Proofs.Ytgggjhbijnndhaa
open Go.RowKit

theorem or_up (a b : Int) (k : Nat) (h0 : 0 ≤ a) (hm : a * 2 ^ k < 18446744073709551616) (h2 : 0 ≤ b) (h3 : b < 2 ^ k) (hk : k < 64) : bits .or .u64 (a * 2 ^ k) b = a * 2 ^ k + b := by
  have hl := pow_lt k hk
  have hp := pow_pos k
  have hn := Int.mul_nonneg h0 (show (0 : Int) ≤ 2 ^ k by omega)
  rw [u64_or _ _ hn hm h2 (by omega)]
  obtain ⟨c, rfl⟩ := Int.eq_ofNat_of_zero_le h0
  have e2 : ((c : Int) * 2 ^ k).toNat = 2 ^ k * c := by rw [← pow_nat, ← Int.natCast_mul, Int.toNat_natCast, Nat.mul_comm]
  have h4 : b.toNat < 2 ^ k := by have := pow_nat k; omega
  rw [e2, ← Nat.two_pow_add_eq_or_of_lt h4, Int.natCast_add, Int.natCast_mul, pow_nat, Int.mul_comm, Int.toNat_of_nonneg h2]
theorem or32 (a b : Int) (h0 : 0 ≤ a) (h1 : a < 4294967296) (h2 : 0 ≤ b) (h3 : b < 4294967296) : bits .or .u64 (a * 4294967296) b = a * 4294967296 + b := or_up a b 32 h0 (by omega) h2 h3 (by omega)
theorem or16 (a b : Int) (h0 : 0 ≤ a) (h1 : a < 256) (h2 : 0 ≤ b) (h3 : b < 65536) : bits .or .u64 (a * 65536) b = a * 65536 + b := or_up a b 16 h0 (by omega) h2 h3 (by omega)
theorem whole_is (a b r : Int) (w : World) (h0 : 0 ≤ a) (h1 : a < 4294967296) (h2 : 0 ≤ b) (h3 : b < 4294967296) (hr : Hid (bits .or .u64 (a * 4294967296) b = r)) :
    Calls Try.prog 91 #[.int .u32 a, .int .u32 b] w fun e w' => e = .returned (.int .u64 r) ∧ w = w' := by
  go_enter Try.func91, Try.ntmps91
  go_wp2
  go_ret
  exact ⟨ret_int hr.out, rfl⟩
theorem isRep_is (x : Int) (w : World) : Calls Try.prog 88 #[.int .u8 x] w fun e w' => e = .returned (.bool (decide (x < 16))) ∧ w = w' := by
  go_enter Try.func88, Try.ntmps88
  go_wp2
  go_ret
  exact ⟨rfl, rfl⟩
/-- Is it a sort? -/
def sortB (x : Int) : Bool := decide (1 ≤ x) && decide (x ≤ 4)
theorem dot_is (k : Ky) (w : World) (hk : k.Ok) : Calls Try.prog 82 #[.agg k.cells.toArray] w fun e w' => e = .returned (.int .u64 k.w2) ∧ Below w.heap.size w w' := by
  have q := blk_alloc w 55 k.cells
  have c3 := q.cell (kc10 hk.ml)
  have c4 := q.cell (kc11 hk.ml)
  have B0 := Lib.hid (new_below w (.cells k.cells.toArray 55))
  have r0 := hk.r0
  have r1 := hk.r1
  have HK := Lib.hid hk
  clear q hk
  go_enter Try.func82, Try.ntmps82
  go_wp2_with fail
  refine (whole_is k.r k.q k.w2 _ r0 (by omega) HK.out.q0 HK.out.q1 (Lib.hid (or32 _ _ r0 (by omega) HK.out.q0 HK.out.q1))).mono ?_
  rintro e w1 ⟨rfl, rfl⟩
  go_wp2_with fail
  go_ret
  exact ⟨rfl, B0.out⟩
theorem hasOwner_is (k : Ky) (b : Bool) (w : World) (hk : k.Ok) (hb : Hid ((M.rightB k.m && decide (k.r < 16)) = b)) : Calls Try.prog 78 #[.agg k.cells.toArray] w fun e w' => e = .returned (.bool b) ∧ Below w.heap.size w w' := by
  have q := blk_alloc w 55 k.cells
  have HQ := Lib.hid q
  have B0 := Lib.hid (new_below w (.cells k.cells.toArray 55))
  have HN := Lib.hid (q.knm hk.ml)
  have HK := Lib.hid hk
  obtain ⟨p, hp⟩ : ∃ p, M.rightB k.m = p := ⟨_, rfl⟩
  have HP := Lib.hid hp
  have h := hb.out
  rw [hp] at h
  clear q hk hb hp
  go_enter Try.func78, Try.ntmps78
  go_wp2_with (refine wpList_load_nm rfl _ rfl w.heap.size 2 k.m rfl HN.out HK.out.ml ?_)
  refine (right_is k.m p _ HK.out.ml (Lib.hid HK.out.mb) HP).mono ?_
  rintro e w1 ⟨rfl, c1⟩
  have d3 := (HQ.out.below c1).cell (kc10 HK.out.ml)
  have B1 := Lib.hid (step_ B0.out c1)
  clear c1
  cases p with
  | false =>
    rw [Bool.false_and] at h
    subst h
    go_wp2_with fail
    go_ret
    exact ⟨rfl, B1.out⟩
  | true =>
    rw [Bool.true_and] at h
    subst h
    go_wp2_with fail
    refine (isRep_is k.r _).mono ?_
    rintro e w2 ⟨rfl, rfl⟩
    go_wp2_with fail
    go_ret
    exact ⟨rfl, B1.out⟩
theorem isNaN_is (x : Int) (w : World) : Calls Try.prog 92 #[.int .u64 x] w fun e w' => e = .returned (.bool false) ∧ w = w' := by
  go_enter Try.func92, Try.ntmps92
  go_wp2
  go_ret
  exact ⟨rfl, rfl⟩
/-- What cmp.Compare says. -/
def cmp2 (x y : Int) : Int := if x < y then -1 else if y < x then 1 else 0
theorem compare_is (x y : Int) (w : World) : Calls Try.prog 83 #[.int .u64 x, .int .u64 y] w fun e w' => e = .returned (.int .i64 (cmp2 x y)) ∧ w = w' := by
  by_cases h1 : x < y
  · have e1 : cmp2 x y = -1 := if_pos h1
    rw [e1]
    clear e1
    go_enter Try.func83, Try.ntmps83
    go_wp2_with fail
    refine (isNaN_is x _).mono ?_
    rintro e w1 ⟨rfl, rfl⟩
    go_wp2_with fail
    refine (isNaN_is y _).mono ?_
    rintro e w1 ⟨rfl, rfl⟩
    go_wp2_with fail
    go_ret
    exact ⟨rfl, rfl⟩
  · by_cases h2 : y < x
    · have e1 : cmp2 x y = 1 := by unfold cmp2; rw [if_neg h1, if_pos h2]
      rw [e1]
      clear e1
      go_enter Try.func83, Try.ntmps83
      go_wp2_with fail
      refine (isNaN_is x _).mono ?_
      rintro e w1 ⟨rfl, rfl⟩
      go_wp2_with fail
      refine (isNaN_is y _).mono ?_
      rintro e w1 ⟨rfl, rfl⟩
      go_wp2_with fail
      go_ret
      exact ⟨rfl, rfl⟩
    · have e1 : cmp2 x y = 0 := by unfold cmp2; rw [if_neg h1, if_neg h2]
      rw [e1]
      clear e1
      go_enter Try.func83, Try.ntmps83
      go_wp2_with fail
      refine (isNaN_is x _).mono ?_
      rintro e w1 ⟨rfl, rfl⟩
      go_wp2_with fail
      refine (isNaN_is y _).mono ?_
      rintro e w1 ⟨rfl, rfl⟩
      go_wp2_with fail
      go_ret
      exact ⟨rfl, rfl⟩
end Go.Proofs.Ytgggjhbijnndhaa
