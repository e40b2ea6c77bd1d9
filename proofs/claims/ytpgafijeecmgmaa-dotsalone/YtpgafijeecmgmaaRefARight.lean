/- The contract of Right of the reference. -/
import Derived.Test.YtpgafijeecmgmaaASmall
import Derived.Test.YtpgafijeecmgmaaKWords
import Derived.Test.YtpgafijeecmgmaaKIn
namespace Go.Proofs.Ytpgafijeecmgmaa
open Go.RowKit

theorem exec_bare {o : Oper} {a : Act} {w : World} {x y : Operand} {ty : TypeId} {m : List Int} {p : Bool} (hm : m.length = 8) (hp : (m == M.zero8) = p) (ho : o.op = .binOp .eql 73 x y ty) (hx : a.eval x = .agg (nm m)) (hy : a.eval y = .agg (nm M.zero8)) :
    (execOp a.eval o).run Try.prog w = .ok (.value (.bool p)) w := hp ▸ exec_eq_nm x y ty ho m M.zero8 hx hy hm rfl
theorem bare_is {p : Bool} {v : Vl} (h : (v.t == M.zero8) = p) : (!(v.t != M.zero8)) = p := by rw [← h]; simp [bne]
end Go.Proofs.Ytpgafijeecmgmaa
