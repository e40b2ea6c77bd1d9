/- What was written of a piece is read as it was. -/
import Derived.Test.YteggjihhjdeieaaGreatBlank
import Derived.Test.YteggjihhjdeieaaGreatOuts
namespace Go.Proofs.YteggjihhjdeieaaGreat
open Go.RowKit

theorem rd_nm {d x n : Int} {l rest : List Int} {a : M.Val} (h : M.rd d x n l = .got a rest) : a.nm.length = 8 := by
  unfold M.rd at h
  split at h
  · cases hr : M.rNum x l with
    | bad e => rw [hr] at h; injection h
    | got y r =>
      rw [hr] at h
      injection h with h1 h2
      rw [← h1]; rfl
  · split at h
    · cases hr : M.rByte l with
      | bad e => rw [hr] at h; injection h
      | got y r =>
        rw [hr] at h
        injection h with h1 h2
        rw [← h1]; rfl
    · split at h
      · cases hr : M.rName l with
        | bad e => rw [hr] at h; injection h
        | got m r =>
          rw [hr] at h
          injection h with h1 h2
          rw [← h1]
          exact (rName_got hr).1
      · cases hr : M.rBytes n l with
        | bad e => rw [hr] at h; injection h
        | got y r =>
          rw [hr] at h
          injection h with h1 h2
          rw [← h1]; rfl
theorem set12 (p : Pc) (hm : p.m.length = 8) (k : Int) : p.cells.set 12 (.int .i64 k) = ({ p with n := k } : Pc).cells := by
  obtain ⟨d, x, c, m, v, n, b⟩ := p
  simp only [Pc.cells]
  have hm' : m.length = 8 := hm
  rw [List.set_cons_succ, List.set_cons_succ, List.set_cons_succ, List.set_append_right _ _ (by rw [List.length_map]; omega), List.length_map, hm']
  rfl
/-- A whole piece is loaded, in a region that draws its order. -/
theorem quiet_load_pc {o : Oper} {a : Act} {W : World} {K : Act → Prop} (G off : Nat) (p : Pc) (x : Operand) (ho : o.op = .load 56 x) (hx : a.eval x = .pointer (some ⟨G, off, none⟩)) (hat : W.rangeAt G off p.cells) (hG : G < W.heap.size) (hm : p.m.length = 8)
    (hk : K (a.put o.dst (.agg p.cells.toArray))) : o.quiet Tryz.prog a (Cls W) K := by
  refine ⟨.agg p.cells.toArray, fun w hw => ?_, hk⟩
  obtain ⟨t, rfl⟩ := hw
  have h := run_loadAt_mid (P := Tryz.prog) t.1 G off 56 p.cells _ (range_below hat hG t.2) Tryz.underlying56 rfl (size33 hm)
  unfold Oper.quietAt
  have e : (execOp a.eval o).run Tryz.prog t.1 = .ok (.value (.agg p.cells.toArray)) t.1 := by
    simp [execOp, ho, hx, h]
  rw [e]
  exact ⟨rfl, rfl⟩
theorem run_load_int (w : World) (g off : Nat) (d : Int) (h : w.cell? ⟨g, off, none⟩ = some (.int .i64 d)) : (Instr.loadAt 3 (.pointer (some ⟨g, off, none⟩))).run Tryz.prog w = .ok (.int .i64 d) w := by
  simp [Instr.loadAt, Instr.sureAddr, loadVar, isAgg, run_underlying Tryz.underlying3, h]
/-- A piece's kind is loaded, in a region that draws its order. -/
theorem quiet_load_int {o : Oper} {a : Act} {W : World} {K : Act → Prop} (G off : Nat) (d : Int) (x : Operand) (ho : o.op = .load 3 x) (hx : a.eval x = .pointer (some ⟨G, off, none⟩)) (hat : W.cell? ⟨G, off, none⟩ = some (.int .i64 d))
    (hk : K (a.put o.dst (.int .i64 d))) : o.quiet Tryz.prog a (Cls W) K := by
  refine ⟨.int .i64 d, fun w hw => ?_, hk⟩
  obtain ⟨t, rfl⟩ := hw
  have h := run_load_int t.1 G off d ((t.2.cell (p := ⟨G, off, none⟩) (World.block_lt_of_cell? W _ hat)).trans hat)
  unfold Oper.quietAt
  have e : (execOp a.eval o).run Tryz.prog t.1 = .ok (.value (.int .i64 d)) t.1 := by
    simp [execOp, ho, hx, h]
  rw [e]
  exact ⟨rfl, rfl⟩
/-- A piece with nothing but its kind is built, in a region that draws its order. -/
theorem quiet_blank {o : Oper} {a : Act} {W : World} {K : Act → Prop} (d : Int) (x : Operand) (ho : o.op = .build 56 #[(0, x)]) (hx : a.eval x = .int .i64 d) (hk : K (a.put o.dst (.agg (blank d).cells.toArray))) : o.quiet Tryz.prog a (Cls W) K := by
  refine ⟨.agg (blank d).cells.toArray, fun w hw => ?_, hk⟩
  obtain ⟨t, rfl⟩ := hw
  have hr : (Instr.build 56 #[(0, .int .i64 d)]).run Tryz.prog t.1 = .ok (.agg (blank d).cells.toArray) t.1 := run_build t.1 56 _ _ (built33 d)
  unfold Oper.quietAt
  have e : (execOp a.eval o).run Tryz.prog t.1 = .ok (.value (.agg (blank d).cells.toArray)) t.1 := by
    simp only [execOp, ho, List.map_toArray, List.map_cons, List.map_nil, hx, Sem.run_bind, hr, Result.andThen_ok, Sem.run_pure]
  rw [e]
  exact ⟨rfl, rfl⟩
end Go.Proofs.YteggjihhjdeieaaGreat
