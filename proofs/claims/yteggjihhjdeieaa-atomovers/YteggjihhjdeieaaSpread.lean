/- The contract of spread. -/
import Derived.Test.YteggjihhjdeieaaNumber
import Derived.Test.YteggjihhjdeieaaOf
namespace Go.Proofs.Yteggjihhjdeieaa
open Go.RowKit

def spreadF (x : Int) (k : Nat) : Nat → Int := fun j => if 8 ≤ j + k then x / 256 ^ (7 - j) % 256 else 0
theorem spread_step {w : World} {g : Nat} {x : Int} {k : Nat} (hk : k < 8) {c : Int} (h : w.rowIs g 24 8 (rowN (spreadF x k))) (hc : x / 256 ^ k % 256 = c) : (w.setCell ⟨g, 7 - k, none⟩ (.int .u8 c)).rowIs g 24 8 (rowN (spreadF x (k + 1))) := by
  refine (h.set (7 - k) (.int .u8 c)).congr fun j hj => ?_
  show (if j = 7 - k then _ else Value.int .u8 (spreadF x k j)) = Value.int .u8 (spreadF x (k + 1) j)
  unfold spreadF
  by_cases e : j = 7 - k
  · rw [if_pos e, if_pos (by omega), show 7 - j = k by omega, hc]
  · rw [if_neg e]
    by_cases hl : 8 ≤ j + k
    · rw [if_pos hl, if_pos (by omega)]
    · rw [if_neg hl, if_neg (by omega)]
theorem spread_all (x : Int) (i : Nat) (hi : i < (M.digits 8 x).length) : spreadF x 8 i = (M.digits 8 x)[i] := by
  unfold spreadF
  rw [if_pos (by omega)]
  rw [M.digits_len] at hi
  have := M.digits_get 8 x (7 - i) (by omega)
  rw [show 8 - 1 - (7 - i) = i by omega, List.getElem?_eq_getElem (by rw [M.digits_len]; omega)] at this
  injection this with this
  exact this.symm
theorem shift_byte (x : Int) (k : Nat) : x / 2 ^ (8 * k) = x / 256 ^ k := by
  rw [Int.pow_mul]; rfl
end Go.Proofs.Yteggjihhjdeieaa
