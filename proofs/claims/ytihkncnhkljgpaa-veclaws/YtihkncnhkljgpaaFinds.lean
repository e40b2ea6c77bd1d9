/- The contracts of find and of Rows of the reference. -/
import Derived.Test.YtihkncnhkljgpaaLists
namespace Go.Proofs.Ytihkncnhkljgpaa
open Go.RowKit

theorem drop_getD {l : List Am} {j : Nat} (h : j < l.length) : l.drop j = l.getD j azero :: l.drop (j + 1) := by
  rw [List.drop_eq_getElem_cons h]
  simp [List.getD, List.getElem?_eq_getElem h]
theorem results_vlB {fn : Func} {t u : Tmp} (h : fn.results = #[.cell t 65, .tmp u]) (tmps : Array Value) (w : World) (g : Nat) (v : Vl) (hp : tmps.getD t undef = .pointer (some ⟨g, 0, none⟩)) (hb : Blk w g 65 v.cells) (hm : v.t.length = 8) :
    (results fn tmps).run Try.prog w = .ok (.tuple #[.agg v.cells.toArray, tmps.getD u undef]) w := by
  rw [results_cell_tmp h, hp]
  have := run_loadVar_row (P := Try.prog) w g 65 65 v.cells.toArray (0, 0) _ hb Try.underlying65 rfl (by rw [List.size_toArray]; exact size30 hm)
  simp [asAddr, this]
/-- The call answers a value and whether there is one. -/
def GivesV (w : World) (o : Option Vl) (e : Ending) (w' : World) : Prop := e = .returned (.tuple #[.agg (o.getD vzero).cells.toArray, .bool o.isSome]) ∧ Below w.heap.size w w'
theorem quiet_neq_am {o : Oper} {a : Act} {W : World} {K : Act → Prop} (x y : Operand) (t : TypeId) (ho : o.op = .binOp .neq 67 x y t) (A B : Am) (b : Bool) (hx : a.eval x = .agg A.cells.toArray) (hy : a.eval y = .agg B.cells.toArray) (hA : A.Ok) (hB : B.Ok) (hb : (!decide (A = B)) = b)
    (hk : K (a.put o.dst (.bool b))) : o.quiet Try.prog a (Cls W) K := quiet_val _ (fun _ => by rw [exec_neq_am x y t ho A B hx hy hA hB, hb]) hk
end Go.Proofs.Ytihkncnhkljgpaa
