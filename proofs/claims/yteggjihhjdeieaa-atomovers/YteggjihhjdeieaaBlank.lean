/- The contract of read of the law. -/
import Derived.Test.YteggjihhjdeieaaPieceLaws
namespace Go.Proofs.Yteggjihhjdeieaa
open Go.RowKit

/-- A piece with nothing but its kind. -/
def blank (d : Int) : Pc := ⟨d, 0, 0, M.zero8, .slice none 0 0, 0, []⟩
theorem blank_ml (d : Int) : (blank d).m.length = 8 := rfl
/- CASES -/
namespace M
theorem Got.map_err {α β : Type} (f : α → β) (r : Got α) : (r.map f).err = r.err := by cases r <;> rfl
theorem Got.map_rst {α β : Type} (f : α → β) (r : Got α) : (r.map f).rst = r.rst := by cases r <;> rfl
theorem Got.map_val {α β : Type} (f : α → β) (r : Got α) (z : α) : (r.map f).val (f z) = f (r.val z) := by cases r <;> rfl
theorem gate_map {α β : Type} (f : α → β) (e : Int) (r : Got α) : gate e (r.map f) = (gate e r).map f := by
  unfold gate
  split <;> rfl
end M
/-- A piece as it was read. -/
def gotP (d : Int) (a : M.Val) (v : Value) : Pc := ⟨d, a.x, a.c, a.nm, v, 0, a.b⟩
theorem blk2 (w : World) (o : Obj) (t : Nat) (cs : List Value) : Blk ((w.alloc o).alloc (.cells cs.toArray t)) (w.heap.size + 1) t cs := by
  have := blk_alloc (w.alloc o) t cs
  rwa [alloc_size] at this
theorem blk3 (w : World) (o o' : Obj) (t : Nat) (cs : List Value) : Blk (((w.alloc o).alloc o').alloc (.cells cs.toArray t)) (w.heap.size + 2) t cs := by
  have := blk2 (w.alloc o) o' t cs
  rwa [alloc_size] at this
theorem name_len {e : Int} {l : List Int} : (((M.gate e (M.rName l)).val M.zero8)).length = 8 := by
  unfold M.gate
  split
  · cases h : M.rName l with
    | bad e => rfl
    | got m r => exact (rName_got h).1
  · rfl
end Go.Proofs.Yteggjihhjdeieaa
