/- The contracts of Put of package pack at two bytes, and of Reverse of package slices at two bytes. -/
import Derived.Test.YtoelaamkkfjbfaaFill
import Derived.Test.YtoelaamkkfjbfaaMore
import Derived.Shelf.RegionOpenPlain
namespace Go.Proofs.Ytoelaamkkfjbfaa
open Go.RowKit

def two (a b : Int) : Nat → Value := fun j => .int .u8 ([a, b].getD j 0)
theorem put_two (x : Int) (h0 : 0 ≤ x) (h1 : x < 65536) : M.put x 2 = [x % 256, x / 256] := by
  show [x / 2 ^ (8 * 0) % 256, x / 2 ^ (8 * 1) % 256] = _
  rw [show x / 2 ^ (8 * 0) % 256 = x % 256 by simp, show x / 2 ^ (8 * 1) % 256 = x / 256 by show x / 256 % 256 = _; omega]
theorem put2_is (x : Int) (w : World) (h0 : 0 ≤ x) (h1 : x < 65536) : Calls Try.prog 19 #[.int .u64 x, .int .i64 2] w fun e w' =>
    ∃ g, e = .returned (.slice (some ⟨g, 0, none⟩) 2 2) ∧ w.heap.size ≤ g ∧ w'.rowIs g 5 2 (two (x % 256) (x / 256)) ∧ Below w.heap.size w w' := by
  have hp := Lib.hid (put_two x h0 h1)
  have hw := Lib.hid (show widthOk 2 = true by decide)
  go_enter Try.func19, Try.ntmps19
  go_wp2_with fail
  refine (isWidth_is 2 true _ hw).mono ?_
  rintro e w' ⟨rfl, rfl⟩
  go_wp2_with fail
  refine (fillPut w.heap.size 2 x _ (by omega) (Lib.hid (by simp)) (by simp)).mono ?_
  rintro e w' ⟨rfl, hv, hb⟩
  rw [hp.out, World.size_alloc] at hv
  have HB := Lib.hid hb
  have HV := Lib.hid hv
  clear hb hv
  go_wp2_with fail
  go_ret
  exact ⟨_, rfl, by simp, HV.out, ((Below.refl _ _).alloc (Nat.le_refl _) _).trans (HB.out.mono (by simp))⟩
theorem two_swap {w : World} {g : Nat} {a b : Int} (h : w.rowIs g 5 2 (two a b)) : ((w.setCell ⟨g, 0, none⟩ (.int .u8 b)).setCell ⟨g, 1, none⟩ (.int .u8 a)).rowIs g 5 2 (two b a) := by
  refine ((h.set 0 (.int .u8 b)).set 1 (.int .u8 a)).congr fun j hj => ?_
  have : j = 0 ∨ j = 1 := by omega
  rcases this with rfl | rfl <;> rfl
set_option maxRecDepth 100000 in
theorem rev2_is (g : Nat) (a b : Int) (w : World) (h : w.rowIs g 5 2 (two a b)) : Calls Try.prog 20 #[.slice (some ⟨g, 0, none⟩) 2 2] w fun e w' =>
    e = .returned (.tuple #[]) ∧ w'.rowIs g 5 2 (two b a) ∧ Below g w w' := by
  have c0 : w.cell? ⟨g, 0, none⟩ = some (.int .u8 a) := h.cell (by omega)
  have c1 : w.cell? ⟨g, 1, none⟩ = some (.int .u8 b) := h.cell (by omega)
  have f0 := h.frozen 0
  have f1 := h.frozen 1
  have H := Lib.hid h
  clear h
  go_enter Try.func20, Try.ntmps20
  go_wp2_with fail
  refine wp_loop_rounds 2 ?_
  rw [rounds_succ]
  go_wp2_with fail
  go_region
  all_goals
    go_wp2_with fail
    rw [rounds_succ]
    go_wp2_with fail
    go_end0
    exact ⟨rfl, (two_swap H.out).drew, (((Below.refl g w).setCell (Nat.le_refl _) _).setCell (Nat.le_refl _) _).drew⟩
end Go.Proofs.Ytoelaamkkfjbfaa
