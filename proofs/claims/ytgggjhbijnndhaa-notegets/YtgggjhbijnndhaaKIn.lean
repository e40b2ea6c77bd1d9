/- The contracts of Fail and In of the reference, path by path. -/
import Derived.Test.YtgggjhbijnndhaaARight
namespace Go.Proofs.Ytgggjhbijnndhaa
open Go.RowKit

theorem eqg24 : Try.prog.eqGuardType Try.prog.depth 26 = false := by kernel_rfl
theorem built24z : Try.prog.built 26 [] = some (nm M.zero8) := by kernel_rfl
theorem exec_eq_nm {o : Oper} {a : Act} {w : World} (x y : Operand) (ty : TypeId) (ho : o.op = .binOp .eql 26 x y ty) (m n : List Int) (hx : a.eval x = .agg (nm m)) (hy : a.eval y = .agg (nm n)) (hm : m.length = 8) (hn : n.length = 8) :
    (execOp a.eval o).run Try.prog w = .ok (.value (.bool (m == n))) w := by
  unfold execOp
  simp only [ho, hx, hy, Sem.run_bind, run_eqGuard_agg w .eql 26 x y _ _ eqg24, Result.andThen_ok, run_eql_struct, eql23 m n hm hn 9998 w, Sem.run_pure]
/- PATHS -/
end Go.Proofs.Ytgggjhbijnndhaa
