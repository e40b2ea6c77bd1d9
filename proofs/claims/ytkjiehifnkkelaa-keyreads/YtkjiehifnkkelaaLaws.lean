/- The contract of alive, and the walk of KeyDots. -/
import Derived.Test.YtkjiehifnkkelaaKWords
namespace Go.Proofs.Ytkjiehifnkkelaa
open Go.RowKit

/-- The chapter's example. -/
def kn : Ky := ⟨4, 3, M.zero8, 0, 0⟩
theorem kn_ok : kn.Ok := ⟨rfl, zero8_bytes, by decide, by decide, by decide, by decide, by decide, by decide, by decide, by decide⟩
theorem kn_words : same3 kn.w0 kn.w1 kn.w2 262147 0 0 = true := by decide
set_option maxRecDepth 100000 in
theorem alive_is (w : World) : Calls Try.prog 15 #[] w fun e w' => e = .returned (.bool true) ∧ Below w.heap.size w w' := by
  have hz := zero27
  have N0 := Lib.hid (blk_alloc w 27 kzero.cells)
  have B0 := Lib.hid (new_below w (.cells kzero.cells.toArray 27))
  go_enter Try.func15, Try.ntmps15
  go_wp2_with (first
    | refine wpList_build rfl 27 _ rfl [(0, .int .u8 4), (1, .int .u16 3)] rfl _ (built27_2 4 3) ?_
    | (refine wpList_store_ky rfl _ _ rfl w.heap.size kzero kn rfl rfl N0.out rfl rfl ?_; intro w1 N1 O1)
    | refine wpList_load_ky rfl _ rfl w.heap.size 0 kn rfl N1.out.range rfl ?_)
  refine (words_is kn _ kn_ok).mono ?_
  rintro e w2 ⟨rfl, b2⟩
  have N2 := Lib.hid (N1.out.below b2)
  have B2 := Lib.hid (step_ (B0.out.trans (O1.out.below (Nat.le_refl _) B0.out.size)) b2)
  clear b2
  go_wp2_with (first
    | refine wpList_build rfl 29 _ rfl [(0, .int .u64 262147), (1, .int .u64 0), (2, .int .u64 0)] rfl _ (built29 262147 0 0) ?_
    | (refine wpList_val rfl (.bool true) (kn_words ▸ exec_eq_wd _ _ _ rfl kn.w0 kn.w1 kn.w2 262147 0 0 rfl rfl) ?_)
    | (refine wanted_on rfl ?_; refine wpList_load_ky rfl _ rfl w.heap.size 0 kn rfl N2.out.range rfl ?_))
  refine (kright_is kn true _ kn_ok (Lib.hid (by decide))).mono ?_
  rintro e w3 ⟨rfl, b3⟩
  have B3 := Lib.hid (step_ B2.out b3)
  clear b3
  go_wp2_with (refine wanted_on rfl ?_; refine wpList_build rfl 27 _ rfl [] rfl _ built27_0 ?_)
  refine (kright_is kzero false _ kzero_ok (Lib.hid (by decide))).mono ?_
  rintro e w4 ⟨rfl, b4⟩
  have B4 := Lib.hid (step_ B3.out b4)
  clear b4
  go_wp2_with fail
  go_ret
  exact ⟨rfl, B4.out⟩
theorem index29 (x y z : Int) (w : World) : (Instr.index 29 (.agg (wd x y z).toArray) (.int .i64 2)).run Try.prog w = .ok (.int .u64 z) w := by
  have hs : (sizeOf 28).run Try.prog w = .ok 1 w := by
    have h : (Try.prog.info? 28).map (·.size) = some 1 := by kernel_rfl
    cases hq : Try.prog.info? 28 with
    | none => simp [hq] at h
    | some i =>
      have hi : i.size = 1 := by simpa [hq] using h
      simp [sizeOf, typeInfo, hq, hi]
  have hp : (Go.part 28 (wd x y z).toArray 2).run Try.prog w = .ok (.int .u64 z) w := run_part_plain w plain28 rfl
  simp only [Instr.index, asIntOf, Sem.run_bind, Sem.run_pure, Result.andThen_ok, run_underlying Try.underlying29]
  rw [if_pos (by decide)]
  simp only [Sem.run_bind, hs, Result.andThen_ok]
  exact hp
theorem exec_index29 {o : Oper} {a : Act} {w : World} (x : Operand) (ho : o.op = .index 29 x (.const (.int .i64 2))) (p q r : Int) (hx : a.eval x = .agg (wd p q r).toArray) :
    (execOp a.eval o).run Try.prog w = .ok (.value (.int .u64 r)) w := by
  unfold execOp
  have hc : a.eval (.const (.int .i64 2)) = .int .i64 2 := rfl
  simp only [ho, hx, hc, Sem.run_bind, index29, Result.andThen_ok, Sem.run_pure]
/-- A number is loaded, in a region that draws its order. -/
theorem quiet_load_one {o : Oper} {a : Act} {W : World} {K : Act → Prop} (t : TypeId) (kd : IntKind) (hu : Try.prog.underlying t = some (.int kd)) (G off : Nat) (d : Int) (x : Operand) (ho : o.op = .load t x) (hx : a.eval x = .pointer (some ⟨G, off, none⟩)) (hat : W.cell? ⟨G, off, none⟩ = some (.int kd d))
    (hk : K (a.put o.dst (.int kd d))) : o.quiet Try.prog a (Cls W) K := by
  refine ⟨.int kd d, fun w hw => ?_, hk⟩
  obtain ⟨T, rfl⟩ := hw
  have hc : T.1.cell? ⟨G, off, none⟩ = some (.int kd d) := (T.2.cell (p := ⟨G, off, none⟩) (World.block_lt_of_cell? W _ hat)).trans hat
  have h : (Instr.loadAt t (.pointer (some ⟨G, off, none⟩))).run Try.prog T.1 = .ok (.int kd d) T.1 := by
    simp [Instr.loadAt, Instr.sureAddr, loadVar, isAgg, run_underlying hu, hc]
  unfold Oper.quietAt
  have e : (execOp a.eval o).run Try.prog T.1 = .ok (.value (.int kd d)) T.1 := by
    simp [execOp, ho, hx, h]
  rw [e]
  exact ⟨rfl, rfl⟩
set_option maxRecDepth 100000 in
theorem keyDots_any (k : Ky) (x : Int) (w : World) (hk : k.Ok) (x0 : 0 ≤ x) (x1 : x < 18446744073709551616) : Calls Try.prog 5 #[.agg k.cells.toArray, .int .u64 x] w fun e w' => e = .returned (.bool true) ∧ Below w.heap.size w w' := by
  have N0 := Lib.hid (blk_alloc w 27 k.cells)
  have B0 := Lib.hid (new_below w (.cells k.cells.toArray 27))
  have HK := Lib.hid hk
  have HX1 := Lib.hid x1
  have W2 := Lib.hid hk.w2r
  have d3 := Lib.hid (show k.w2 / 4294967296 % 256 = k.r by have := hk.r0; have := hk.r1; have := hk.q0; have := hk.q1; unfold Ky.w2; omega)
  have d4 := Lib.hid (show k.w2 % 4294967296 = k.q by have := hk.q0; have := hk.q1; unfold Ky.w2; omega)
  have e1 : x.tdiv 4294967296 = x / 4294967296 := Int.tdiv_eq_ediv_of_nonneg x0
  have e2 : IntKind.u64.wrap (x / 4294967296) = x / 4294967296 := by rw [IntKind.wrap_u64]; omega
  have f1 : 0 ≤ x / 4294967296 := by omega
  have g1 : (x / 4294967296).tmod 256 = x / 4294967296 % 256 := Int.tmod_eq_emod_of_nonneg f1
  have g2 : x.tmod 4294967296 = x % 4294967296 := Int.tmod_eq_emod_of_nonneg x0
  clear hk x1
  go_enter Try.func5, Try.ntmps5
  go_wp2_with fail
  refine (undot_is x _ _ _ x0 HX1 (Lib.hid rfl) (Lib.hid rfl)).mono ?_
  rintro e w1 ⟨rfl, rfl⟩
  go_wp2_with (refine wpList_load_ky rfl _ rfl w.heap.size 0 k rfl N0.out.range HK.out.ml ?_)
  refine (dot_is k _ HK.out).mono ?_
  rintro e w2 ⟨rfl, b2⟩
  have N2 := Lib.hid (N0.out.below b2)
  have B2 := Lib.hid (step_ B0.out b2)
  clear b2
  go_wp2_with fail
  refine (undot_is k.w2 k.r k.q _ W2.out.1 (Lib.hid (by have := W2.out.2; omega)) d3 d4).mono ?_
  rintro e w3 ⟨rfl, rfl⟩
  have C3 := Lib.hid (N2.out.cell (kc10 HK.out.ml))
  have C4 := Lib.hid (N2.out.cell (kc11 HK.out.ml))
  go_wp2_with fail
  refine region_later (by kernel_rfl) (by kernel_rfl) ?_
  (go_big_quiet_want; refine quiet_load_ky w.heap.size k _ rfl rfl N2.out HK.out.ml ?_; go_simp; go_big_quiet_on)
  go_big_quiet_step (exact later_call (dot_is k _ HK.out))
  (go_big_quiet_want; refine quiet_load_ky w.heap.size k _ rfl rfl N2.out HK.out.ml ?_; go_simp; go_big_quiet_on)
  go_big_quiet_step (exact later_call (refWords_is k _ HK.out))
  (go_big_quiet_want; refine quiet_val (.int .u64 k.w2) (fun W => exec_index29 _ rfl k.w0 k.w1 k.w2 rfl) ?_; go_simp; go_big_quiet_on)
  go_big_quiet_step (fail)
  go_big_quiet_step (fail)
  go_big_quiet_step (fail)
  go_big_quiet_step (fail)
  go_big_quiet_step (fail)
  go_big_quiet_step (fail)
  go_big_quiet_step (fail)
  go_big_quiet_step (fail)
  go_big_quiet_step (fail)
  go_big_quiet_step (fail)
  go_big_quiet_step (fail)
  go_big_quiet_step (fail)
  go_big_quiet_step (fail)
  go_big_quiet_step (fail)
  go_big_quiet_step (fail)
  go_big_quiet_step (fail)
  go_big_quiet_step (fail)
  go_big_quiet_step (fail)
  go_big_quiet_step (fail)
  (go_big_quiet_want; refine quiet_load_one 5 .u8 Try.underlying5 w.heap.size 10 k.r _ rfl rfl C3.out ?_; go_simp; go_big_quiet_on)
  go_big_quiet_step (fail)
  go_big_quiet_step (fail)
  go_big_quiet_step (fail)
  go_big_quiet_step (fail)
  go_big_quiet_step (fail)
  (go_big_quiet_want; refine quiet_load_one 25 .u32 Try.underlying25 w.heap.size 11 k.q _ rfl rfl C4.out ?_; go_simp; go_big_quiet_on)
  go_big_quiet_step (fail)
  go_big_quiet_step (fail)
  go_big_quiet_step (fail)
  go_big_quiet_step (exact later_call (alive_is _))
  repeat go_big_quiet_step (fail)
  refine wpQuiet_nil ?_
  intro w5 hw5
  have B5 := Lib.hid (step_ B2.out hw5)
  clear hw5
  go_wp2_with fail
  go_ret
  exact ⟨rfl, B5.out⟩
end Go.Proofs.Ytkjiehifnkkelaa
