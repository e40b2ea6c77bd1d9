/- The contracts of steps, do and Word of package mix. -/
import Derived.Test.YtmdolblcffnkcaaRefs
import Derived.Below
import Derived.Laws.Rows
namespace Go.Proofs.Ytmdolblcffnkcaa
open Go.RowKit

/-- A step, as a value. -/
abbrev stepV (s : Nat) (f : Int) : Value := .agg #[.int .u64 s, .int .u64 f]
abbrev stepsV : Value := .agg #[.int .u64 30, .int .u64 13787848793156543929, .int .u64 27, .int .u64 10723151780598845931, .int .u64 31, .int .u64 1]
theorem steps_is (w : World) : Calls Try.prog 14 #[] w fun e w' => e = .returned stepsV ∧ Below w.heap.size w w' := by
  go_enter Try.func14, Try.ntmps14
  go_wp2_with fail
  refine bodyPost_ret (results_cell_row rfl _ _ w.heap.size 38 _ _ _ rfl (heap_alloc_new w _) Try.underlying38 rfl (by kernel_rfl)) rfl ?_
  exact ⟨rfl, (Below.refl _ w).alloc (Nat.le_refl _) _⟩
theorem do_is (s : Nat) (f x r : Int) (w : World) (hs : s < 64) (hf : 0 ≤ f) (hx : U64 x) (hr : Hid (stepI s f x = r)) :
    Calls Try.prog 15 #[stepV s f, .int .u64 x] w fun e w' => e = .returned (.int .u64 r) ∧ Below w.heap.size w w' := by
  have hd := div_U64 x s hx.1 hx.2
  have h1 := Lib.hid (xor_spell x (x / 2 ^ s) hx hd)
  have h2 := Lib.hid (step_spell s f x hx hf)
  obtain ⟨hx0, hx1⟩ := hx
  have hs64 : (s : Int) < 64 := by omega
  go_enter Try.func15, Try.ntmps15
  go_wp2_with fail
  go_ret
  exact ⟨ret_int (by rw [h1.out, h2.out]; exact hr.out), (Below.refl _ w).alloc (Nat.le_refl _) _⟩
theorem Below.more {n : Nat} {w a b : World} {o : Obj} (h : Below n w a) (hn : n ≤ w.heap.size) (k : Below (a.alloc o).heap.size (a.alloc o) b) : Below n w b :=
  (h.alloc (Nat.le_trans hn h.size) o).trans (k.mono (by have := h.size; simp; omega))
theorem index0 (w : World) : (Instr.index 38 stepsV (.int .i64 0)).run Try.prog w = .ok (stepV 30 13787848793156543929) w := by
  simp [Instr.index, isAgg, run_underlying Try.underlying38, run_underlying Try.underlying37, asIntOf, go_sem]
theorem index1 (w : World) : (Instr.index 38 stepsV (.int .i64 1)).run Try.prog w = .ok (stepV 27 10723151780598845931) w := by
  simp [Instr.index, isAgg, run_underlying Try.underlying38, run_underlying Try.underlying37, asIntOf, go_sem]
theorem index2 (w : World) : (Instr.index 38 stepsV (.int .i64 2)).run Try.prog w = .ok (stepV 31 1) w := by
  simp [Instr.index, isAgg, run_underlying Try.underlying38, run_underlying Try.underlying37, asIntOf, go_sem]
theorem word_is (seed x r : Int) (w : World) (hs : U64 seed) (hx : U64 x) (hr : Hid (wordI seed x = r)) :
    Calls Try.prog 6 #[.int .u64 seed, .int .u64 x] w fun e w' => e = .returned (.int .u64 r) ∧ Below w.heap.size w w' := by
  obtain ⟨x1, hx1⟩ : ∃ y, IntKind.u64.wrap (xorI seed x + 11400714819323198485) = y := ⟨_, rfl⟩
  obtain ⟨y, hy⟩ : ∃ y, stepI 30 13787848793156543929 x1 = y := ⟨_, rfl⟩
  obtain ⟨z, hz⟩ : ∃ z, stepI 27 10723151780598845931 y = z := ⟨_, rfl⟩
  have hx1U : U64 x1 := by rw [← hx1]; exact wrap_U64 _
  have hyU : U64 y := by rw [← hy]; exact stepI_U64 ..
  have hzU : U64 z := by rw [← hz]; exact stepI_U64 ..
  have h3 : stepI 31 1 z = r := by rw [← hr.out, wordI_is, hx1, mixI_is, hy, hz]
  have h0 := xor_spell seed x hs hx
  have k0 := Lib.hid h0
  have k1 := Lib.hid hx1
  have k2 := Lib.hid hy
  have k3 := Lib.hid hz
  have k4 := Lib.hid h3
  clear h0 hx1 hy hz h3 hr
  go_enter Try.func6, Try.ntmps6
  go_wp2_with fail
  rw [k0.out, k1.out]
  refine (steps_is _).mono ?_
  rintro e w1 ⟨rfl, b1⟩
  go_wp2_with fail
  have i0 := index0
  have i1 := index1
  have i2 := index2
  refine wp_loop_rounds 4 ?_
  rw [rounds_succ]
  go_wp2_with fail
  refine (do_is 30 13787848793156543929 x1 y _ (by omega) (by omega) hx1U k2).mono ?_
  rintro e w2 ⟨rfl, b2⟩
  go_wp2_with fail
  rw [rounds_succ]
  go_wp2_with fail
  refine (do_is 27 10723151780598845931 y z _ (by omega) (by omega) hyU k3).mono ?_
  rintro e w3 ⟨rfl, b3⟩
  go_wp2_with fail
  rw [rounds_succ]
  go_wp2_with fail
  refine (do_is 31 1 z r _ (by omega) (by omega) hzU k4).mono ?_
  rintro e w4 ⟨rfl, b4⟩
  go_wp2_with fail
  rw [rounds_succ]
  go_wp2_with fail
  go_ret
  refine ⟨rfl, ?_⟩
  exact Below.more (Below.more (Below.more b1 (Nat.le_refl _) b2) (Nat.le_refl _) b3) (Nat.le_refl _) b4
end Go.Proofs.Ytmdolblcffnkcaa
