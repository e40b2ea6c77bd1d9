/- The contract of spread. -/
import Derived.Test.YtkjiehifnkkelaaNumber
import Derived.Test.YtkjiehifnkkelaaOf
namespace Go.Proofs.Ytkjiehifnkkelaa
open Go.RowKit

def spreadF (x : Int) (k : Nat) : Nat → Int := fun j => if 8 ≤ j + k then x / 256 ^ (7 - j) % 256 else 0
theorem spread_step {w : World} {g : Nat} {x : Int} {k : Nat} (hk : k < 8) {c : Int} (h : w.rowIs g 24 8 (rowN (spreadF x k))) (hc : x / 256 ^ k % 256 = c) : (w.setCell ⟨g, 7 - k, none⟩ (.int .u8 c)).rowIs g 24 8 (rowN (spreadF x (k + 1))) := by
  refine (h.set (7 - k) (.int .u8 c)).congr fun j hj => ?_
  show (if j = 7 - k then _ else Value.int .u8 (spreadF x k j)) = Value.int .u8 (spreadF x (k + 1) j)
  unfold spreadF
  by_cases e : j = 7 - k
  · rw [if_pos e, if_pos (by omega), show 7 - j = k by omega, hc]
  · rw [if_neg e]
    by_cases hl : 8 ≤ j + k
    · rw [if_pos hl, if_pos (by omega)]
    · rw [if_neg hl, if_neg (by omega)]
theorem spread_all (x : Int) (i : Nat) (hi : i < (M.digits 8 x).length) : spreadF x 8 i = (M.digits 8 x)[i] := by
  unfold spreadF
  rw [if_pos (by omega)]
  rw [M.digits_len] at hi
  have := M.digits_get 8 x (7 - i) (by omega)
  rw [show 8 - 1 - (7 - i) = i by omega, List.getElem?_eq_getElem (by rw [M.digits_len]; omega)] at this
  injection this with this
  exact this.symm
theorem shift_byte (x : Int) (k : Nat) : x / 2 ^ (8 * k) = x / 256 ^ k := by
  rw [Int.pow_mul]; rfl
set_option maxRecDepth 100000 in
theorem spread_is (x : Int) (w : World) :
    Calls Try.prog 65 #[.int .u64 x] w fun e w' => e = .returned (.agg (nm (M.digits 8 x))) ∧ Below w.heap.size w w' := by
  have hz := zero23
  have HL := Lib.hid (M.digits_len 8 x)
  go_enter Try.func65, Try.ntmps65
  go_wp2_with fail
  go_loopw [5] (fun i wr => ∃ k : Nat, k ≤ 8 ∧ i = .int .i64 k ∧ wr.rowIs (w.heap.size + 1) 24 8 (rowN (spreadF x k)) ∧ At wr w.heap.size M.zero8 ∧ Below w.heap.size w wr) (fun i _ => 8 - (intOf i).toNat)
  case atStart => exact ⟨0, Nat.zero_le _, rfl, (two_row w _).congr (fun j hj => by show _ = Value.int .u8 (spreadF x 0 j); unfold spreadF; rw [if_neg (by omega)]), two_at w _, two_below w _ _⟩
  case round =>
    obtain ⟨k, hk, rfl, hrow, hat, hbel⟩ := hrel
    by_cases hlt : k < 8
    · have hcell := hrow.cell (show 7 - k < 8 by omega)
      have hfro := hrow.frozen (7 - k)
      have HR := Lib.hid hrow
      have HAT := Lib.hid hat
      have hi1 : (0 : Int) ≤ 8 * (k : Int) := by omega
      have hi2 : 8 * (k : Int) ≤ 64 := by omega
      clear hrow hat hz
      go_wp2_with fail
      go_roundw
      case rel => exact ⟨k + 1, by omega, by go_num, spread_step hlt HR.out (by rw [shift_byte]), at_setCell _ HAT.out (by omega), hbel.setCell (by simp) _⟩
      case measure => simp [intOf]; omega
    · obtain rfl : k = 8 := by omega
      have hh := row_all (M.digits_len 8 x) hrow (spread_all x)
      clear hrow hz
      have HH := Lib.hid hh
      have HAT := Lib.hid hat
      clear hh hat
      go_wp2_with (first | refine wpList_load_row rfl 24 _ rfl (w.heap.size + 1) rfl 24 (nm (M.digits 8 x)) (0, 0) _ HH.out Try.underlying24 rfl (size23n HL.out) ?_ | refine wpList_store_row rfl 24 _ _ rfl w.heap.size (nm (M.digits 8 x)) rfl rfl 24 (nm M.zero8) HAT.out (size23n HL.out) (by rw [nm_size, nm_size, HL.out]; rfl) (nm_one _) ?_)
      refine bodyPost_ret (results_cell_row rfl _ _ w.heap.size 24 (nm (M.digits 8 x)) (0, 0) _ rfl (setRow_heap _ _ _ _ _ _ HAT.out) Try.underlying24 rfl (size23n HL.out)) rfl ?_
      exact ⟨rfl, below_setRow hbel (Nat.le_refl _) _⟩
end Go.Proofs.Ytkjiehifnkkelaa
