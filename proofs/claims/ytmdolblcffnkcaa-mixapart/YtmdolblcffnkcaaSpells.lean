/- What Word, Unword, Sum and Below answer, in integers, and how the model's words come to it. -/
import Derived.Test.YtmdolblcffnkcaaWordy
import Derived.Test.YtmdolblcffnkcaaMathI
namespace Go.Proofs.Ytmdolblcffnkcaa
open Go.RowKit

def xorI (a b : Int) : Int := ((a.toNat ^^^ b.toNat : Nat) : Int)
def stepI (s : Nat) (f x : Int) : Int := ((M.step s f.toNat x.toNat : Nat) : Int)
def mixI (x : Int) : Int := ((M.mix x.toNat : Nat) : Int)
def wordI (seed x : Int) : Int := ((M.word seed.toNat x.toNat : Nat) : Int)
def unwordI (seed y : Int) : Int := ((M.unword seed.toNat y.toNat : Nat) : Int)
def sumI (seed : Int) (l : List Int) : Int := ((M.sum seed.toNat l : Nat) : Int)
def belowI (x n : Int) : Int := if n < 1 then 0 else x % n
theorem of_lt {n : Nat} (h : n < 2 ^ 64) : U64 (n : Int) := by unfold U64; omega
theorem toNat_lt {x : Int} (h : U64 x) : x.toNat < 2 ^ 64 := by unfold U64 at h; omega
theorem xorI_U64 {a b : Int} (ha : U64 a) (hb : U64 b) : U64 (xorI a b) := of_lt (Nat.xor_lt_two_pow (toNat_lt ha) (toNat_lt hb))
theorem stepI_U64 (s : Nat) (f x : Int) : U64 (stepI s f x) := of_lt (M.step_lt ..)
theorem mixI_U64 (x : Int) : U64 (mixI x) := of_lt (M.mix_lt ..)
theorem wordI_U64 (s x : Int) : U64 (wordI s x) := of_lt (M.word_lt ..)
theorem unwordI_U64 (s x : Int) (h : U64 s) : U64 (unwordI s x) := of_lt (M.unword_lt _ _ (toNat_lt h))
theorem sumI_U64 (s : Int) (l : List Int) : U64 (sumI s l) := of_lt (M.sum_lt ..)
theorem xor_spell (a b : Int) (ha : U64 a) (hb : U64 b) : bits .xor .u64 a b = xorI a b := u64_xor a b ha.1 ha.2 hb.1 hb.2
theorem down_spell (s : Nat) (x : Int) (hx : U64 x) : xorI x (x / 2 ^ s) = ((M.down s x.toNat : Nat) : Int) := by
  rw [xorI, M.down, div_nat x s hx.1, Int.toNat_natCast]
theorem wrap_nat (n : Nat) : IntKind.u64.wrap (n : Int) = ((n % 2 ^ 64 : Nat) : Int) := by rw [IntKind.wrap_u64, Int.natCast_emod]; rfl
theorem step_spell (s : Nat) (f x : Int) (hx : U64 x) (hf : 0 ≤ f) : IntKind.u64.wrap (xorI x (x / 2 ^ s) * f) = stepI s f x := by
  obtain ⟨g, rfl⟩ := Int.eq_ofNat_of_zero_le hf
  rw [down_spell s x hx, ← Int.natCast_mul, wrap_nat, stepI, M.step, Int.toNat_natCast]
theorem mixI_is (x : Int) : mixI x = stepI 31 1 (stepI 27 10723151780598845931 (stepI 30 13787848793156543929 x)) := by
  unfold mixI stepI; rw [Int.toNat_natCast, Int.toNat_natCast, M.mix]; rfl
theorem wordI_is (seed x : Int) : wordI seed x = mixI (IntKind.u64.wrap (xorI seed x + 11400714819323198485)) := by
  have e : xorI seed x + 11400714819323198485 = (((seed.toNat ^^^ x.toNat) + M.fA : Nat) : Int) := by rw [Int.natCast_add]; rfl
  rw [e, wrap_nat, mixI, Int.toNat_natCast, wordI, M.word]
theorem last_step (x : Int) (hx : U64 x) : xorI x (x / 2 ^ 31) = stepI 31 1 x := by
  have h := M.down_lt 31 x.toNat (toNat_lt hx)
  rw [down_spell 31 x hx, stepI, M.step]
  rw [show (1 : Int).toNat = 1 from rfl, Nat.mul_one, Nat.mod_eq_of_lt h]
theorem part64 (x : Int) (s : Nat) (hs : s < 64) : part x s 64 = x / 2 ^ s := by
  rw [part_small x s 64 (by omega), show max (s : Int) 0 = s from Int.max_eq_left (by omega), Int.toNat_natCast]
  unfold lo; rw [if_neg (by omega), if_pos (by omega)]
theorem sumI_step (h x : Int) : wordI (rotI h 23) x = ((M.next h.toNat x.toNat : Nat) : Int) := by
  rw [wordI, rotI, M.next, Int.toNat_natCast]; rfl
/-- The exclusive or, bit by bit. -/
def xacc (a b : Int) (k : Nat) : Nat := M.acc (fun j => a.toNat.testBit j ^^ b.toNat.testBit j) id k
theorem xacc_all (a b : Int) (ha : U64 a) (hb : U64 b) : ((xacc a b 64 : Nat) : Int) = xorI a b := by
  rw [xorI, M.xor_gather _ _ (toNat_lt ha) (toNat_lt hb)]; rfl
theorem xacc_lt (a b : Int) (k : Nat) (hk : k ≤ 64) : xacc a b k < 2 ^ 64 := M.acc_lt _ id id (fun _ h => h) (fun _ _ => rfl) (fun _ _ => rfl) k hk
theorem xacc_same (a b : Int) (k : Nat) (h : bitI a k = bitI b k) : xacc a b (k + 1) = xacc a b k := by
  have e : (a.toNat.testBit k ^^ b.toNat.testBit k) = false := by
    unfold bitI at h; revert h
    cases a.toNat.testBit k <;> cases b.toNat.testBit k <;> simp
  show M.acc _ id k + (a.toNat.testBit k ^^ b.toNat.testBit k).toNat * 2 ^ k = _
  rw [e]; simp [xacc]
theorem xacc_other (a b o q : Int) (k : Nat) (hk : k < 64) (h : bitI a k ≠ bitI b k) (ho : ((xacc a b k : Nat) : Int) = o) (hq : (2 : Int) ^ k = q) : ((xacc a b (k + 1) : Nat) : Int) = IntKind.u64.wrap (o + q) := by
  have e : (a.toNat.testBit k ^^ b.toNat.testBit k) = true := by
    unfold bitI at h; revert h
    cases a.toNat.testBit k <;> cases b.toNat.testBit k <;> simp
  have e2 : xacc a b (k + 1) = xacc a b k + 2 ^ k := by
    show M.acc _ id k + (a.toNat.testBit k ^^ b.toNat.testBit k).toNat * 2 ^ k = _
    rw [e]; simp [xacc]
  have h2 := xacc_lt a b (k + 1) (by omega)
  have e3 : o + q = ((xacc a b (k + 1) : Nat) : Int) := by rw [e2, Int.natCast_add, pow_nat, ho, hq]
  rw [e3, wrap_nat, Nat.mod_eq_of_lt h2]
end Go.Proofs.Ytmdolblcffnkcaa
