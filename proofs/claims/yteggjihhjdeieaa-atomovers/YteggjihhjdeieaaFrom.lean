/- The contracts of Of of the reference, of From of package name and of the reference. -/
import Derived.Test.YteggjihhjdeieaaSpread
namespace Go.Proofs.Yteggjihhjdeieaa
open Go.RowKit

theorem pow_le (k : Nat) (x : Int) (h0 : 0 ≤ x) : 0 ≤ x / 256 ^ k := Int.ediv_nonneg h0 (Int.pow_nonneg (by omega))
theorem div_more (x : Int) (k : Nat) : x / 256 ^ k / 256 = x / 256 ^ (k + 1) := by
  rw [Int.pow_succ, Int.ediv_ediv_of_nonneg (Int.pow_nonneg (by omega))]
theorem div_le (x : Int) (k : Nat) (h0 : 0 ≤ x) (h1 : x < 18446744073709551616) : x / 256 ^ k < 18446744073709551616 := by
  have : x / 256 ^ k ≤ x := Int.ediv_le_self _ h0
  omega
end Go.Proofs.Yteggjihhjdeieaa
