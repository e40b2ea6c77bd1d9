/- Names as values; the worlds later than a world; the laws of a region that draws its order and whose calls make memory. -/
import Derived.Test.YtgggjhbijnndhaaSmall
import Derived.Test.YtgggjhbijnndhaaMathN
import Derived.Deep.WholeRow
import Derived.ChangeKeysEq
import Derived.Laws.CopyOwn
import Derived.Laws.Rows
namespace Go.Proofs.Ytgggjhbijnndhaa
open Go.RowKit

theorem step_ {w a b : World} (h : Below w.heap.size w a) (k : Below a.heap.size a b) : Below w.heap.size w b := h.trans (k.mono h.size)
/-- A name's cells. -/
def nm (l : List Int) : Array Value := (l.map (Value.int .u8)).toArray
theorem nm_size (l : List Int) : (nm l).size = l.length := by simp [nm]
theorem nm_at (l : List Int) (i : Nat) (h : i < l.length) : (nm l)[i]? = some (.int .u8 l[i]) := by simp [nm, h]
theorem nm_one (l : List Int) : (nm l).all (·.oneCell') = true := by
  rw [Array.all_eq_true_iff_forall_mem]
  intro x hx
  simp only [nm, List.mem_toArray, List.mem_map] at hx
  obtain ⟨j, _, rfl⟩ := hx
  rfl
theorem nm_of {cs : Array Value} {l : List Int} (hs : cs.size = l.length) (h : ∀ i (hi : i < l.length), cs[i]? = some (.int .u8 l[i])) : cs = nm l := by
  apply Array.ext_getElem?
  intro i
  by_cases hi : i < l.length
  · rw [h i hi, nm_at l i hi]
  · rw [Array.getElem?_eq_none (by omega), Array.getElem?_eq_none (by rw [nm_size]; omega)]
theorem info23 : (Try.prog.info? 26).map (fun i => (i.zero, i.size)) = some (some (.agg (nm M.zero8)), 8) := by kernel_rfl
theorem size23 : (Try.prog.info? 26).map (·.size) = some 8 := (zero_of_info info23).2
theorem zero23 (w : World) : (zeroValue 26).run Try.prog w = .ok (.agg (nm M.zero8)) w := (zero_of_info info23).1 w
theorem size23n {l : List Int} (h : l.length = 8) : (Try.prog.info? 26).map (·.size) = some (nm l).size := by rw [nm_size, h]; exact size23
theorem cells5 : Try.prog.cellsOf 5 = 1 := by kernel_rfl
theorem info5e : ∃ i, Try.prog.info? 5 = some i := by
  have h : (Try.prog.info? 5).isSome = true := by kernel_rfl
  exact Option.isSome_iff_exists.1 h
theorem part_nm (l : List Int) (i : Nat) (h : i < l.length) (w : World) : (Go.part 5 (nm l) i).run Try.prog w = .ok (.int .u8 l[i]) w := by
  simp [Go.part, nm_at l i h]
theorem eq_items (a b : List Int) (ha : a.length = 8) (hb : b.length = 8) (d : Nat) (w : World) : ∀ (k i : Nat), i + k = 8 → (Op.eqItems (d + 1) 5 1 (nm a) (nm b) (List.range' i k)).run Try.prog w = .ok (a.drop i == b.drop i) w
  | 0, i, h => by
    have e1 : a.drop i = [] := List.drop_eq_nil_of_le (by omega)
    have e2 : b.drop i = [] := List.drop_eq_nil_of_le (by omega)
    rw [e1, e2]
    rfl
  | k + 1, i, h => by
    rw [List.range'_succ, Op.eqItems]
    simp only [Sem.run_bind, Nat.mul_one, part_nm a i (by omega), part_nm b i (by omega), Result.andThen_ok, run_equalIn_int w d 5 .u8 .u8 _ _ Try.underlying5]
    rw [List.drop_eq_getElem_cons (by omega : i < a.length), List.drop_eq_getElem_cons (by omega : i < b.length), List.cons_beq_cons]
    cases hq : (a[i] == b[i])
    · simp
    · simp [eq_items a b ha hb d w k (i + 1) (by omega)]
theorem eql23 (a b : List Int) (ha : a.length = 8) (hb : b.length = 8) (d : Nat) (w : World) : (Op.equalIn (d + 2) 26 (.agg (nm a)) (.agg (nm b))).run Try.prog w = .ok (a == b) w := by
  obtain ⟨j, hj⟩   := info5e
  rw [run_equalIn_array w (d + 1) _ _ Try.underlying26 hj, cells5, List.range_eq_range', eq_items a b ha hb d w 8 0 rfl]
  rfl
/-- The worlds later than W: what lay in W lies there. -/
def Later (W : World) : Type := { w : World // Below W.heap.size W w }
instance (W : World) : Nonempty (Later W) := ⟨⟨W, Below.refl _ _⟩⟩
abbrev Cls (W : World) : World → Prop := fun w => ∃ t : Later W, w = t.1
theorem later_call {W : World} {t : Later W} {f : FuncId} {args : Array Value} {v : Value} (h : Calls Try.prog f args t.1 fun e w' => e = .returned v ∧ Below t.1.heap.size t.1 w') :
    Calls Try.prog f args t.1 fun e w' => e = .returned v ∧ ∃ t' : Later W, w' = t'.1 :=
  h.mono fun _ w' ⟨he, hb⟩ => ⟨he, ⟨w', step_ t.2 hb⟩, rfl⟩
theorem below_drew {B : Nat} {a w : World} (h : Below B a w) : Below B a w.drew := ⟨h.os, h.tape, h.output, h.size, h.block⟩
theorem region_later {ops : List Oper} {id : Nat} {Q : Exit → Act → World → Prop} {a : Act} {W : World} (hm : Try.prog.follows .mixedOrders = true) (hB : Region.lexB .any ops.toArray = true)
    (h : wpQuiet Try.prog ops.toArray (Cls W) (fun a' => ∀ w', Below W.heap.size W w' → Q .normal a' w') ops a) : (Code.region id ops.toArray true).wp Try.prog Q a W := by
  refine wp_region_quiet (C := Cls W) hm hB ⟨⟨W.drew, below_drew (Below.refl _ _)⟩, rfl⟩ ?_
  have : wpQuiet Try.prog ops.toArray (Cls W) (fun a' => ∀ w', Below W.heap.size W w' → Q .normal a' w') ops.toArray.toList a := h
  have e : (fun a' => ∀ w', Below W.heap.size W w' → Q .normal a' w') = (fun a' => ∀ w', Cls W w' → Q .normal a' w') := by
    funext a'
    apply propext
    exact ⟨fun h w' ⟨t, ht⟩ => by rw [ht]; exact h _ t.2, fun h w' hw => h w' ⟨⟨w', hw⟩, rfl⟩⟩
  rw [e] at this
  exact this
/-- A name that lies in a block of its own. -/
def At (w : World) (g : Nat) (l : List Int) : Prop := w.heap[g]? = some (.cells (nm l) 26)
theorem At.lt {w : World} {g : Nat} {l : List Int} (h : At w g l) : g < w.heap.size := (Array.getElem?_eq_some_iff.1 h).1
theorem At.below {w w' : World} {g : Nat} {l : List Int} (h : At w g l) (hb : Below w.heap.size w w') : At w' g l := by
  have hl := h.lt
  unfold At at *
  rw [hb.block g hl]
  exact h
theorem At.load {w : World} {g : Nat} {l : List Int} (h : At w g l) (hl : l.length = 8) : (Instr.loadAt 26 (.pointer (some ⟨g, 0, none⟩))).run Try.prog w = .ok (.agg (nm l)) w := by
  simp only [Instr.loadAt, Instr.sureAddr, Sem.run_bind, Sem.run_pure, Result.andThen]
  exact run_loadVar_row _ _ 26 26 (nm l) (0, 0) _ h Try.underlying26 rfl (size23n hl)
theorem At.cell {w : World} {g : Nat} {l : List Int} (h : At w g l) (i : Nat) (hi : i < l.length) : w.cell? ⟨g, i, none⟩ = some (.int .u8 l[i]) := by
  rw [cell_of_row _ g i (nm l) 26 (0, 0) h]
  exact nm_at l i hi
theorem at_alloc (w : World) (l : List Int) : At (w.alloc (.cells (nm l) 26)) w.heap.size l := heap_alloc_last w _
/-- A whole name is loaded, in a region that draws its order. -/
theorem quiet_load {o : Oper} {a : Act} {W : World} {K : Act → Prop} (g : Nat) (l : List Int) (x : Operand) (ho : o.op = .load 26 x) (hx : a.eval x = .pointer (some ⟨g, 0, none⟩)) (hat : At W g l) (hl : l.length = 8)
    (hk : K (a.put o.dst (.agg (nm l)))) : o.quiet Try.prog a (Cls W) K := by
  refine ⟨.agg (nm l), fun w hw => ?_, hk⟩
  obtain ⟨t, rfl⟩ := hw
  have h := (hat.below t.2).load hl
  unfold Oper.quietAt
  have e : (execOp a.eval o).run Try.prog t.1 = .ok (.value (.agg (nm l))) t.1 := by
    simp [execOp, ho, hx, h]
  rw [e]
  exact ⟨rfl, rfl⟩
end Go.Proofs.Ytgggjhbijnndhaa
