/- The contracts of find and of Rows of the reference. The contracts of Keys and Names of the reference. Written by wip/tools/same_r14.py. -/
import Derived.Test.YtgggjhbijnndhaaFindsB
import Derived.Test.YtgggjhbijnndhaaRefAll
import Derived.Test.YtgggjhbijnndhaaKeyT
import Derived.Test.YtgggjhbijnndhaaKIn
namespace Go.Proofs.Ytgggjhbijnndhaa
open Go.RowKit

end Go.Proofs.Ytgggjhbijnndhaa
namespace Go.Proofs.Ytgggjhbijnndhaa
open Go.RowKit

theorem drop_getDG {α : Type} (z : α) {l : List α} {j : Nat} (h : j < l.length) : l.drop j = l.getD j z :: l.drop (j + 1) := by
  rw [List.drop_eq_getElem_cons h]; simp [List.getD, List.getElem?_eq_getElem h]
theorem exec_neq_ky {o : Oper} {a : Act} {w : World} (x y : Operand) (t : TypeId) (ho : o.op = .binOp .neq 55 x y t) (A B : Ky) (hx : a.eval x = .agg A.cells.toArray) (hy : a.eval y = .agg B.cells.toArray) (hA : A.m.length = 8) (hB : B.m.length = 8) :
    (execOp a.eval o).run Try.prog w = .ok (.value (.bool (!decide (A = B)))) w := by
  unfold execOp
  simp only [ho, hx, hy, Sem.run_bind, run_eqGuard_agg w .neq 55 x y _ _ eqg27, Result.andThen_ok, run_neq_struct, eql27 A B hA hB 9997 w, Sem.run_pure]
theorem quiet_neq_ky {o : Oper} {a : Act} {W : World} {K : Act → Prop} (x y : Operand) (t : TypeId) (ho : o.op = .binOp .neq 55 x y t) (A B : Ky) (b : Bool) (hx : a.eval x = .agg A.cells.toArray) (hy : a.eval y = .agg B.cells.toArray) (hA : A.m.length = 8) (hB : B.m.length = 8) (hb : (!decide (A = B)) = b)
    (hk : K (a.put o.dst (.bool b))) : o.quiet Try.prog a (Cls W) K := quiet_val _ (fun _ => by rw [exec_neq_ky x y t ho A B hx hy hA hB, hb]) hk
theorem exec_neq_nm {o : Oper} {a : Act} {w : World} (x y : Operand) (ty : TypeId) (ho : o.op = .binOp .neq 26 x y ty) (m n : List Int) (hx : a.eval x = .agg (nm m)) (hy : a.eval y = .agg (nm n)) (hm : m.length = 8) (hn : n.length = 8) :
    (execOp a.eval o).run Try.prog w = .ok (.value (.bool (!(m == n)))) w := by
  unfold execOp
  simp only [ho, hx, hy, Sem.run_bind, run_eqGuard_agg w .neq 26 x y _ _ eqg24, Result.andThen_ok, run_neq_struct, eql23 m n hm hn 9998 w, Sem.run_pure]
theorem quiet_neq_nm {o : Oper} {a : Act} {W : World} {K : Act → Prop} (x y : Operand) (t : TypeId) (ho : o.op = .binOp .neq 26 x y t) (m n : List Int) (b : Bool) (hx : a.eval x = .agg (nm m)) (hy : a.eval y = .agg (nm n)) (hm : m.length = 8) (hn : n.length = 8) (hb : (!decide (m = n)) = b)
    (hk : K (a.put o.dst (.bool b))) : o.quiet Try.prog a (Cls W) K := quiet_val _ (fun _ => by
      have e : (!(m == n)) = b := by rw [← hb]; by_cases h : m = n <;> simp [h]
      rw [exec_neq_nm x y t ho m n hx hy hm hn, e]) hk
theorem quiet_load_nmx {o : Oper} {a : Act} {W : World} {K : Act → Prop} (G off : Nat) (m : List Int) (x : Operand) (ho : o.op = .load 26 x) (hx : a.eval x = .pointer (some ⟨G, off, none⟩)) (hat : W.rangeAt G off (nmL m)) (hG : G < W.heap.size) (hm : m.length = 8)
    (hk : K (a.put o.dst (.agg (nm m)))) : o.quiet Try.prog a (Cls W) K := quiet_load_cs 26 G off (nmL m) _ x ho hx hat hG Try.underlying26 rfl (by rw [show (nmL m).length = 8 by unfold nmL; rw [List.length_map]; exact hm]; exact size23) hk
end Go.Proofs.Ytgggjhbijnndhaa
