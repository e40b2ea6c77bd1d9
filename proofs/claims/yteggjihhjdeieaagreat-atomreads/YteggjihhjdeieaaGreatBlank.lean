/- The contract of read of the law. -/
import Derived.Test.YteggjihhjdeieaaGreatPieceLaws
namespace Go.Proofs.YteggjihhjdeieaaGreat
open Go.RowKit

/-- A piece with nothing but its kind. -/
def blank (d : Int) : Pc := ⟨d, 0, 0, M.zero8, .slice none 0 0, 0, []⟩
theorem blank_ml (d : Int) : (blank d).m.length = 8 := rfl
theorem info33z : (Tryz.prog.info? 56).map (fun i => (i.zero, i.size)) = some (some (.agg (blank 0).cells.toArray), 13) := by kernel_rfl
theorem zero33 (w : World) : (zeroValue 56).run Tryz.prog w = .ok (.agg (blank 0).cells.toArray) w := (zero_of_info info33z).1 w
theorem built33 (d : Int) : Tryz.prog.built 56 [(0, .int .i64 d)] = some (blank d).cells.toArray := by kernel_rfl
theorem wpList_blank {ops : Array Oper} {rest : List Oper} {o : Oper} {a : Act} {w : World} {Q : Exit → Act → World → Prop} (hgd : o.guard = none) (x : Operand) (ho : o.op = .build 56 #[(0, x)]) (d : Int) (hx : a.eval x = .int .i64 d)
    (h : wpList Tryz.prog ops Q rest (a.put o.dst (.agg (blank d).cells.toArray)) w) : wpList Tryz.prog ops Q (o :: rest) a w :=
  wpList_plain hgd fun _ hK => by
    have hr : (Instr.build 56 #[(0, .int .i64 d)]).run Tryz.prog w = .ok (.agg (blank d).cells.toArray) w := run_build w 56 _ _ (built33 d)
    unfold Oper.wp execOp
    simp only [ho, List.map_toArray, List.map_cons, List.map_nil, hx, Sem.run_bind, hr, Result.andThen_ok, Sem.run_pure]
    exact hK _ _ h
theorem results_pc {fn : Func} {q : Tmp} (h : fn.results = #[.cell q 56]) (tmps : Array Value) (w : World) (g : Nat) (p : Pc) (hp : tmps.getD q undef = .pointer (some ⟨g, 0, none⟩)) (hb : Blk w g 56 p.cells) (hm : p.m.length = 8) :
    (results fn tmps).run Tryz.prog w = .ok (.agg p.cells.toArray) w := results_cell_row h _ _ g 56 p.cells.toArray (0, 0) _ hp hb Tryz.underlying56 rfl (by rw [List.size_toArray]; exact size33 hm)
/- CASES -/
namespace M
theorem Got.map_err {α β : Type} (f : α → β) (r : Got α) : (r.map f).err = r.err := by cases r <;> rfl
theorem Got.map_rst {α β : Type} (f : α → β) (r : Got α) : (r.map f).rst = r.rst := by cases r <;> rfl
theorem Got.map_val {α β : Type} (f : α → β) (r : Got α) (z : α) : (r.map f).val (f z) = f (r.val z) := by cases r <;> rfl
theorem gate_map {α β : Type} (f : α → β) (e : Int) (r : Got α) : gate e (r.map f) = (gate e r).map f := by
  unfold gate
  split <;> rfl
end M
/-- A piece as it was read. -/
def gotP (d : Int) (a : M.Val) (v : Value) : Pc := ⟨d, a.x, a.c, a.nm, v, 0, a.b⟩
theorem blk2 (w : World) (o : Obj) (t : Nat) (cs : List Value) : Blk ((w.alloc o).alloc (.cells cs.toArray t)) (w.heap.size + 1) t cs := by
  have := blk_alloc (w.alloc o) t cs
  rwa [alloc_size] at this
theorem blk3 (w : World) (o o' : Obj) (t : Nat) (cs : List Value) : Blk (((w.alloc o).alloc o').alloc (.cells cs.toArray t)) (w.heap.size + 2) t cs := by
  have := blk2 (w.alloc o) o' t cs
  rwa [alloc_size] at this
theorem name_len {e : Int} {l : List Int} : (((M.gate e (M.rName l)).val M.zero8)).length = 8 := by
  unfold M.gate
  split
  · cases h : M.rName l with
    | bad e => rfl
    | got m r => exact (rName_got h).1
  · rfl
end Go.Proofs.YteggjihhjdeieaaGreat
