/- The walk of AtomOvers. -/
import Derived.Test.YteggjihhjdeieaaABytes
import Derived.Test.YteggjihhjdeieaaAOver
import Derived.Test.YteggjihhjdeieaaRefARight
namespace Go.Proofs.Yteggjihhjdeieaa
open Go.RowKit

theorem exec_same_vl {o : Oper} {a : Act} {w : World} {x y : Operand} {t : TypeId} {A : Vl} (ho : o.op = .binOp .eql 30 x y t) (hx : a.eval x = .agg A.cells.toArray) (hy : a.eval y = .agg A.cells.toArray) (hA : A.t.length = 8) :
    (execOp a.eval o).run Try.prog w = .ok (.value (.bool true)) w := by
  have h := exec_eq_vl (w := w) x y t ho A A hx hy hA hA
  rwa [decide_eq_true rfl] at h
set_option maxRecDepth 100000 in
set_option maxHeartbeats 1000000 in
theorem atomOvers_any (a : Am) (x y : Vl) (w : World) (ha : a.Ok) (hx : x.Ok) (hy : y.Ok) :
    Calls Try.prog 3 #[.agg a.cells.toArray, .agg x.cells.toArray, .agg y.cells.toArray] w fun e w' => e = .returned (.bool true) ∧ Below w.heap.size w w' := by
  have Q1 := Lib.hid (((blk_alloc w 32 a.cells).alloc (.cells x.cells.toArray 30)).alloc (.cells y.cells.toArray 30))
  have Q2 := Lib.hid ((blk2 w (.cells a.cells.toArray 32) 30 x.cells).alloc (.cells y.cells.toArray 30))
  have Q3 := Lib.hid (blk3 w (.cells a.cells.toArray 32) (.cells x.cells.toArray 30) 30 y.cells)
  have B0 := Lib.hid (step_ (step_ (new_below w (.cells a.cells.toArray 32)) (new_below _ (.cells x.cells.toArray 30))) (new_below _ (.cells y.cells.toArray 30)))
  have HA := Lib.hid ha
  have HX := Lib.hid hx
  have HY := Lib.hid hy
  obtain ⟨r, hr⟩ : ∃ r, a.right = r := ⟨_, rfl⟩
  have HR := Lib.hid hr
  obtain ⟨o, ho⟩ : ∃ o, over x y = o := ⟨_, rfl⟩
  have HO := Lib.hid ho
  have er : (r == r) = true := by cases r <;> rfl
  have eo : (o == o) = true := by cases o <;> rfl
  have HM := Lib.hid (more_ok hx hy)
  clear ha hx hy hr ho
  go_enter Try.func3, Try.ntmps3
  go_wp2_with fail
  refine region_later (by kernel_rfl) (by kernel_rfl) ?_
  (go_big_quiet_want; refine quiet_load_am w.heap.size a _ rfl rfl Q1.out HA.out ?_; go_simp; go_big_quiet_on)
  go_big_quiet_step (exact later_call (aright_is a r _ HA.out HR))
  (go_big_quiet_want; refine quiet_load_am w.heap.size a _ rfl rfl Q1.out HA.out ?_; go_simp; go_big_quiet_on)
  go_big_quiet_step (exact later_call (refAright_is a r _ HA.out HR))
  go_big_quiet_step (fail)
  go_big_quiet_step (fail)
  (go_big_quiet_want; refine quiet_load_vl (w.heap.size + 1) 0 x _ rfl rfl Q2.out.range Q2.out.lt HX.out.tl ?_; go_simp; go_big_quiet_on)
  (go_big_quiet_want; refine quiet_load_vl (w.heap.size + 2) 0 y _ rfl rfl Q3.out.range Q3.out.lt HY.out.tl ?_; go_simp; go_big_quiet_on)
  go_big_quiet_step (exact later_call (over_is x y o _ HX.out HY.out HO))
  (go_big_quiet_want; refine quiet_load_vl (w.heap.size + 1) 0 x _ rfl rfl Q2.out.range Q2.out.lt HX.out.tl ?_; go_simp; go_big_quiet_on)
  (go_big_quiet_want; refine quiet_load_vl (w.heap.size + 2) 0 y _ rfl rfl Q3.out.range Q3.out.lt HY.out.tl ?_; go_simp; go_big_quiet_on)
  go_big_quiet_step (exact later_call (refOver_is x y o _ HX.out HY.out HO))
  go_big_quiet_step (fail)
  go_big_quiet_step (fail)
  go_big_quiet_step (fail)
  (go_big_quiet_want; refine quiet_load_vl (w.heap.size + 1) 0 x _ rfl rfl Q2.out.range Q2.out.lt HX.out.tl ?_; go_simp; go_big_quiet_on)
  (go_big_quiet_want; refine quiet_load_vl (w.heap.size + 2) 0 y _ rfl rfl Q3.out.range Q3.out.lt HY.out.tl ?_; go_simp; go_big_quiet_on)
  go_big_quiet_step (exact later_call (amore_is x y _ HX.out HY.out))
  (go_big_quiet_want; refine quiet_load_vl (w.heap.size + 1) 0 x _ rfl rfl Q2.out.range Q2.out.lt HX.out.tl ?_; go_simp; go_big_quiet_on)
  (go_big_quiet_want; refine quiet_load_vl (w.heap.size + 2) 0 y _ rfl rfl Q3.out.range Q3.out.lt HY.out.tl ?_; go_simp; go_big_quiet_on)
  go_big_quiet_step (exact later_call (refMore_is x y _ HX.out HY.out))
  (go_big_quiet_want; refine quiet_val (.bool true) (fun W => exec_same_vl rfl rfl rfl HM.out.tl) ?_; go_simp; go_big_quiet_on)
  go_big_quiet_step (fail)
  go_big_quiet_step (fail)
  go_big_quiet_step (exact later_call (alive_is _))
  repeat go_big_quiet_step (fail)
  refine wpQuiet_nil ?_
  intro w5 hw5
  have B5 := Lib.hid (step_ B0.out hw5)
  clear hw5
  go_wp2_with fail
  go_ret
  exact ⟨rfl, B5.out⟩
end Go.Proofs.Yteggjihhjdeieaa
