/- The contract of the check that each law ends with. -/
import Derived.Test.YteocfhbfdhokbaaGreatDiff
import Derived.Test.YteocfhbfdhokbaaGreatCommon
namespace Go.Proofs.YteocfhbfdhokbaaGreat
open Go.RowKit

def dk : Ky := ⟨2, 1, [97, 0, 0, 0, 0, 0, 0, 0], 0, 0⟩
def dv : Vl := ⟨3, M.zero8⟩
theorem dk_ok : dk.Ok := ⟨rfl, fun x hx => by simp [dk] at hx; omega, by decide, by decide, by decide, by decide, by decide, by decide, by decide, by decide⟩
theorem dv_ok : dv.Ok := ⟨rfl, zero8_bytes, by decide, by decide⟩
theorem life_one : diff [⟨dk, dv⟩] [⟨dk, dv⟩] = [] := by decide
theorem life_two : diff [⟨dk, dv⟩] [] = [⟨dk, dv⟩] := by decide
theorem life_three : parts [⟨dk, dv⟩] = [[⟨dk, dv⟩]] := by decide
theorem life_four : decide ((norm [⟨dk, dv⟩]).length = 1) = true := by decide
theorem built30_97 : Tryz.prog.built 38 [(0, .int .u8 97)] = some #[.int .u8 97, .int .u8 0, .int .u8 0, .int .u8 0, .int .u8 0, .int .u8 0, .int .u8 0, .int .u8 0] := by kernel_rfl
theorem built33_dk : Tryz.prog.built 41 [(0, .int .u8 2), (1, .int .u16 1), (2, .agg #[.int .u8 97, .int .u8 0, .int .u8 0, .int .u8 0, .int .u8 0, .int .u8 0, .int .u8 0, .int .u8 0])] = some dk.cells.toArray := by kernel_rfl
theorem built36_dv : Tryz.prog.built 44 [(0, .int .u64 3)] = some dv.cells.toArray := by kernel_rfl
set_option maxRecDepth 100000 in
set_option maxHeartbeats 8000000 in
theorem life_is (w : World) : Calls Tryz.prog 7 #[] w fun e w' => e = .returned (.bool true) ∧ Below w.heap.size w w' := by
  go_enter Tryz.func7, Tryz.ntmps7
  go_wp2_with (first
    | refine wpList_val rfl _ (exec_build 38 _ rfl [(0, .int .u8 97)] rfl _ built30_97) ?_
    | refine wpList_val rfl _ (exec_build 41 _ rfl [(0, .int .u8 2), (1, .int .u16 1), (2, .agg #[.int .u8 97, .int .u8 0, .int .u8 0, .int .u8 0, .int .u8 0, .int .u8 0, .int .u8 0, .int .u8 0])] rfl _ built33_dk) ?_
    | refine wpList_val rfl _ (exec_build 44 _ rfl [(0, .int .u64 3)] rfl _ built36_dv) ?_
    | refine wpList_val rfl _ (exec_build 46 _ rfl [(0, .agg dk.cells.toArray), (1, .agg dv.cells.toArray)] rfl _ (built46 dk dv dk_ok.ml dv_ok.tl)) ?_
    | (refine wpList_one46 rfl _ rfl ⟨dk, dv⟩ rfl ⟨dk_ok, dv_ok⟩ ?_; intro g1 w1 e1 N1 B1; have R1 := Lib.hid (row_single N1.out ⟨dk_ok, dv_ok⟩)))
  refine (diff_is _ _ _ _ _ _ _ _ _ R1.out R1.out (by omega) (by omega)).mono ?_
  rw [life_one]
  rintro e w2 ⟨⟨A2, n2, c2, rfl, r2⟩, b2⟩
  obtain rfl : n2 = 0 := r2.len.symm
  have R2 := Lib.hid (R1.out.below b2)
  have B2 := Lib.hid (step_ B1.out b2)
  clear b2 r2
  go_wp2_with fail
  refine (diff_is _ _ _ _ _ _ _ _ _ R2.out (rowV_nil _) (by omega) (by omega)).mono ?_
  rw [life_two]
  rintro e w3 ⟨⟨A3, n3, c3, rfl, r3⟩, b3⟩
  have R3 := Lib.hid (R2.out.below b3)
  have B3 := Lib.hid (step_ B2.out b3)
  have L3 := Lib.hid (show n3 ≤ 5000 by have := r3.len; simp at this; omega)
  have Q3 := Lib.hid r3
  clear b3 r3
  go_wp2_with fail
  refine (rows_is _ _ _ _ _ _ _ _ true _ Q3.out R3.out L3.out (Lib.hid (decide_eq_true rfl))).mono ?_
  rintro e w4 ⟨rfl, b4⟩
  have R4 := Lib.hid (R3.out.below b4)
  have B4 := Lib.hid (step_ B3.out b4)
  clear b4
  go_wp2_with fail
  refine (parts_is _ _ _ _ _ R4.out (by omega)).mono ?_
  rw [life_three]
  rintro e w5 ⟨⟨A5, n5, c5, rfl, r5⟩, b5⟩
  obtain rfl : n5 = 1 := r5.len.symm
  have R5 := Lib.hid (R4.out.below b5)
  have B5 := Lib.hid (step_ B4.out b5)
  clear b5 r5
  go_wp2_with fail
  refine (irreducible_is _ _ _ _ true _ R5.out (by omega) (Lib.hid life_four)).mono ?_
  rintro e w6 ⟨rfl, b6⟩
  have B6 := Lib.hid (step_ B5.out b6)
  clear b6
  go_wp2_with fail
  go_ret
  exact ⟨rfl, B6.out⟩
end Go.Proofs.YteocfhbfdhokbaaGreat
