/- The contracts of Halves and Whole of package bit, of isRep, isSort, Dot, Undot and hasOwner of package key, and of cmp.Compare. -/
import Derived.Test.YteggjihhjdeieaaKeys
namespace Go.Proofs.Yteggjihhjdeieaa
open Go.RowKit

theorem or_up (a b : Int) (k : Nat) (h0 : 0 ≤ a) (hm : a * 2 ^ k < 18446744073709551616) (h2 : 0 ≤ b) (h3 : b < 2 ^ k) (hk : k < 64) : bits .or .u64 (a * 2 ^ k) b = a * 2 ^ k + b := by
  have hl := pow_lt k hk
  have hp := pow_pos k
  have hn := Int.mul_nonneg h0 (show (0 : Int) ≤ 2 ^ k by omega)
  rw [u64_or _ _ hn hm h2 (by omega)]
  obtain ⟨c, rfl⟩ := Int.eq_ofNat_of_zero_le h0
  have e2 : ((c : Int) * 2 ^ k).toNat = 2 ^ k * c := by rw [← pow_nat, ← Int.natCast_mul, Int.toNat_natCast, Nat.mul_comm]
  have h4 : b.toNat < 2 ^ k := by have := pow_nat k; omega
  rw [e2, ← Nat.two_pow_add_eq_or_of_lt h4, Int.natCast_add, Int.natCast_mul, pow_nat, Int.mul_comm, Int.toNat_of_nonneg h2]
theorem or32 (a b : Int) (h0 : 0 ≤ a) (h1 : a < 4294967296) (h2 : 0 ≤ b) (h3 : b < 4294967296) : bits .or .u64 (a * 4294967296) b = a * 4294967296 + b := or_up a b 32 h0 (by omega) h2 h3 (by omega)
theorem or16 (a b : Int) (h0 : 0 ≤ a) (h1 : a < 256) (h2 : 0 ≤ b) (h3 : b < 65536) : bits .or .u64 (a * 65536) b = a * 65536 + b := or_up a b 16 h0 (by omega) h2 h3 (by omega)
theorem isRep_is (x : Int) (w : World) : Calls Try.prog 59 #[.int .u8 x] w fun e w' => e = .returned (.bool (decide (x < 16))) ∧ w = w' := by
  go_enter Try.func59, Try.ntmps59
  go_wp2
  go_ret
  exact ⟨rfl, rfl⟩
/-- Is it a sort? -/
def sortB (x : Int) : Bool := decide (1 ≤ x) && decide (x ≤ 4)
theorem isSort_is (x : Int) (b : Bool) (w : World) (hb : Hid (sortB x = b)) : Calls Try.prog 72 #[.int .u8 x] w fun e w' => e = .returned (.bool b) ∧ w = w' := by
  have h := hb.out
  unfold sortB at h
  clear hb
  by_cases h1 : 1 ≤ x
  · have k1 : decide (1 ≤ x) = true := decide_eq_true h1
    rw [k1, Bool.true_and] at h
    subst h
    go_enter Try.func72, Try.ntmps72
    go_wp2
    go_ret
    exact ⟨rfl, rfl⟩
  · have k1 : decide (1 ≤ x) = false := decide_eq_false h1
    rw [k1, Bool.false_and] at h
    subst h
    go_enter Try.func72, Try.ntmps72
    go_wp2
    go_ret
    exact ⟨rfl, rfl⟩
theorem hasOwner_is (k : Ky) (b : Bool) (w : World) (hk : k.Ok) (hb : Hid ((M.rightB k.m && decide (k.r < 16)) = b)) : Calls Try.prog 40 #[.agg k.cells.toArray] w fun e w' => e = .returned (.bool b) ∧ Below w.heap.size w w' := by
  have q := blk_alloc w 27 k.cells
  have HQ := Lib.hid q
  have B0 := Lib.hid (new_below w (.cells k.cells.toArray 27))
  have HN := Lib.hid (q.knm hk.ml)
  have HK := Lib.hid hk
  obtain ⟨p, hp⟩ : ∃ p, M.rightB k.m = p := ⟨_, rfl⟩
  have HP := Lib.hid hp
  have h := hb.out
  rw [hp] at h
  clear q hk hb hp
  go_enter Try.func40, Try.ntmps40
  go_wp2_with (refine wpList_load_nm rfl _ rfl w.heap.size 2 k.m rfl HN.out HK.out.ml ?_)
  refine (right_is k.m p _ HK.out.ml (Lib.hid HK.out.mb) HP).mono ?_
  rintro e w1 ⟨rfl, c1⟩
  have d3 := (HQ.out.below c1).cell (kc10 HK.out.ml)
  have B1 := Lib.hid (step_ B0.out c1)
  clear c1
  cases p with
  | false =>
    rw [Bool.false_and] at h
    subst h
    go_wp2_with fail
    go_ret
    exact ⟨rfl, B1.out⟩
  | true =>
    rw [Bool.true_and] at h
    subst h
    go_wp2_with fail
    refine (isRep_is k.r _).mono ?_
    rintro e w2 ⟨rfl, rfl⟩
    go_wp2_with fail
    go_ret
    exact ⟨rfl, B1.out⟩
/-- What cmp.Compare says. -/
def cmp2 (x y : Int) : Int := if x < y then -1 else if y < x then 1 else 0
end Go.Proofs.Yteggjihhjdeieaa
