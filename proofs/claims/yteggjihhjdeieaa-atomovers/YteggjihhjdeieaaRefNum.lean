/- The contract of num of the reference. -/
import Derived.Test.YteggjihhjdeieaaQuiets
namespace Go.Proofs.Yteggjihhjdeieaa
open Go.RowKit

/-- x[lo:], in a region that draws its order. -/
theorem quiet_from {o : Oper} {ac : Act} {W : World} {K : Act → Prop} (R : Option Nat) (x lo : Operand) (ho : o.op = .slice 42 x (some lo) none none)
    (kl : IntKind) (a : Option Addr) (cap k : Nat) (l : List Int) (hx : ac.eval x = .slice a l.length cap) (hlo : ac.eval lo = .int kl k) (hv : BytesIn R W (.slice a l.length cap) l) (hk : k ≤ l.length)
    (h : ∀ a' cap', Hid (BytesIn R W (.slice a' (l.length - k) cap') (l.drop k)) → K (ac.put o.dst (.slice a' (l.length - k) cap'))) : o.quiet Try.prog ac (Cls W) K := by
  obtain ⟨a', cap', e⟩ := (bytes_from hv k hk).shape
  rw [List.length_drop] at e
  refine ⟨.slice a' (l.length - k) cap', fun w hw => ?_, h _ _ (Lib.hid (e ▸ bytes_from hv k hk))⟩
  obtain ⟨t, rfl⟩ := hw
  unfold Oper.quietAt
  have e1 : (execOp ac.eval o).run Try.prog t.1 = .ok (.value (.slice a' (l.length - k) cap')) t.1 := by
    simp only [execOp, ho, hx, hlo, Option.map_some, Option.map_none, Sem.run_bind, run_from t.1 a l.length cap k kl hk, Result.andThen_ok, Sem.run_pure, e]
  rw [e1]
  exact ⟨rfl, rfl⟩
def NumBad (w : World) (e : Int) (r : Ending) (w' : World) : Prop := ∃ x a n cap, r = .returned (.tuple #[.int .u64 x, .slice a n cap, .int .i64 e]) ∧ Below w.heap.size w w'
def NumGot (w : World) (R : Option Nat) (x : Int) (rest : List Int) (r : Ending) (w' : World) : Prop := ∃ a cap, r = .returned (.tuple #[.int .u64 x, .slice a rest.length cap, .int .i64 0]) ∧ BytesIn R w' (.slice a rest.length cap) rest ∧ Below w.heap.size w w'
end Go.Proofs.Yteggjihhjdeieaa
