/- The numbers that the bytes of a number are. -/
import Derived.Test.YtoelaamkkfjbfaaBytey
namespace Go.Proofs.Ytoelaamkkfjbfaa.M

/-- The lowest n bytes of x. -/
def put (x : Int) (n : Nat) : List Int := (List.range n).map fun i => x / 2 ^ (8 * i) % 256
theorem put_len (x : Int) (n : Nat) : (put x n).length = n := by simp [put]
theorem put_bytes (x : Int) (n : Nat) : Bytes (put x n) := by
  intro y hy
  obtain ⟨i, _, rfl⟩ := List.mem_map.1 hy
  omega
theorem put_at (x : Int) (n i : Nat) (h : i < (put x n).length) : (put x n)[i] = x / 2 ^ (8 * i) % 256 := by simp [put]
end Go.Proofs.Ytoelaamkkfjbfaa.M
