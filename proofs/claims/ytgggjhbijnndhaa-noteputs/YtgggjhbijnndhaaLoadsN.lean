/- Loads of whole numbers out of any cell, boxes of rows of cells. Steps of the reference's regions: quotients, conversions, whole rows of cells stored in a region that draws its order. -/
import Derived.Test.YtgggjhbijnndhaaKeyT
import Derived.Test.YtgggjhbijnndhaaReadys
import Derived.Test.YtgggjhbijnndhaaLeq
import Derived.Test.YtgggjhbijnndhaaKLess
namespace Go.Proofs.Ytgggjhbijnndhaa
open Go.RowKit

theorem run_load_i {t : TypeId} {ik : IntKind} (hu : Try.prog.underlying t = some (.int ik)) (w : World) (G off : Nat) (d : Int) (h : w.cell? ⟨G, off, none⟩ = some (.int ik d)) : (Instr.loadAt t (.pointer (some ⟨G, off, none⟩))).run Try.prog w = .ok (.int ik d) w := by
  simp [Instr.loadAt, Instr.sureAddr, loadVar, isAgg, run_underlying hu, h]
theorem quiet_load_i {o : Oper} {a : Act} {W : World} {K : Act → Prop} {t : TypeId} {ik : IntKind} (hu : Try.prog.underlying t = some (.int ik)) (G off : Nat) (d : Int) (x : Operand) (ho : o.op = .load t x) (hx : a.eval x = .pointer (some ⟨G, off, none⟩)) (hat : W.cell? ⟨G, off, none⟩ = some (.int ik d))
    (hk : K (a.put o.dst (.int ik d))) : o.quiet Try.prog a (Cls W) K := by
  refine ⟨.int ik d, fun w hw => ?_, hk⟩
  obtain ⟨t, rfl⟩ := hw
  have h := run_load_i hu t.1 G off d ((t.2.cell (p := ⟨G, off, none⟩) (World.block_lt_of_cell? W _ hat)).trans hat)
  unfold Oper.quietAt
  have e : (execOp a.eval o).run Try.prog t.1 = .ok (.value (.int ik d)) t.1 := by
    simp [execOp, ho, hx, h]
  rw [e]
  exact ⟨rfl, rfl⟩
theorem exec_load_i {t : TypeId} {ik : IntKind} (hu : Try.prog.underlying t = some (.int ik)) {o : Oper} {a : Act} {w : World} (x : Operand) (ho : o.op = .load t x) (G off : Nat) (d : Int) (hx : a.eval x = .pointer (some ⟨G, off, none⟩)) (hc : w.cell? ⟨G, off, none⟩ = some (.int ik d)) :
    (execOp a.eval o).run Try.prog w = .ok (.value (.int ik d)) w := by
  have h := run_load_i hu w G off d hc
  simp [execOp, ho, hx, h]
theorem size_nmL {m : List Int} (h : m.length = 8) : (Try.prog.info? 26).map (·.size) = some (nmL m).length := by
  rw [show (nmL m).length = 8 by unfold nmL; rw [List.length_map]; exact h]; exact size23
section
variable {ops : Array Oper} {rest : List Oper} {op : Oper} {a : Act} {w : World} {Q : Exit → Act → World → Prop}
theorem wpList_box_cs {t : TypeId} (hgd : op.guard = none) (x : Operand) (ho : op.op = .box t x) (cs : List Value) (hx : a.eval x = .agg cs.toArray)
    (h : ∀ g w', Hid (g = w.heap.size) → Hid (Blk w' g t cs) → Hid (Below w.heap.size w w') → wpList Try.prog ops Q rest (a.put op.dst (.pointer (some ⟨g, 0, none⟩))) w') : wpList Try.prog ops Q (op :: rest) a w := by
  refine wpList_plain hgd fun K hK => ?_
  have H := h w.heap.size (w.alloc (.cells cs.toArray t)) (Lib.hid rfl) (Lib.hid (blk_alloc w t cs)) (Lib.hid (new_below w _))
  unfold Oper.wp execOp
  simp only [ho, hx, Sem.run_bind, Instr.box, newVar, newRow, run_newObj_alloc, Sem.run_pure, Result.andThen_ok]
  exact hK _ _ H
end
theorem exec_store_i {t : TypeId} {ik : IntKind} (hz : ∀ w, (sizeOf t).run Try.prog w = .ok 1 w) {o : Oper} {a : Act} {w : World} (x y : Operand) (ho : o.op = .store t x y) (g : Nat) (u : Value) (d : Int) (hx : a.eval x = .pointer (some ⟨g, 0, none⟩)) (hy : a.eval y = .int ik d) (hb : Blk w g t [u]) :
    (execOp a.eval o).run Try.prog w = .ok .skip (w.setCell ⟨g, 0, none⟩ (.int ik d)) := by
  have hc := hb.cell (i := 0) rfl
  have hf := hb.frozen 0
  unfold execOp
  simp only [ho, hx, hy]
  simp [go_sem, hz, hc, hf]
theorem wpList_store_i {t : TypeId} {ik : IntKind} (hz : ∀ w, (sizeOf t).run Try.prog w = .ok 1 w) {ops : Array Oper} {rest : List Oper} {op : Oper} {a : Act} {w : World} {Q : Exit → Act → World → Prop} (hgd : op.guard = none) (x y : Operand) (ho : op.op = .store t x y) (g : Nat) (u : Value) (d : Int) (hx : a.eval x = .pointer (some ⟨g, 0, none⟩)) (hy : a.eval y = .int ik d) (hb : Blk w g t [u])
    (h : ∀ w', Hid (Blk w' g t [.int ik d]) → Hid (Only g w w') → wpList Try.prog ops Q rest (a.put op.dst undef) w') : wpList Try.prog ops Q (op :: rest) a w := by
  refine wpList_plain hgd fun K hK => ?_
  unfold Oper.wp
  rw [exec_store_i hz x y ho g u d hx hy hb]
  exact hK _ _ (h _ (Lib.hid (hb.set 0 (.int ik d))) (Lib.hid (Only.set g 0 w (.int ik d))))
theorem results_note {fn : Func} {p q r : Tmp} (h : fn.results = #[.cell p 26, .cell q 27, .cell r 5]) (tmps : Array Value) (w : World) (g gq gr : Nat) (l : List Int) (x y : Int)
    (hp : tmps.getD p undef = .pointer (some ⟨g, 0, none⟩)) (hq : tmps.getD q undef = .pointer (some ⟨gq, 0, none⟩)) (hr : tmps.getD r undef = .pointer (some ⟨gr, 0, none⟩)) (hat : Blk w g 26 (nmL l)) (hl : l.length = 8) (hx : Blk w gq 27 [.int .u32 x]) (hy : Blk w gr 5 [.int .u8 y]) :
    (results fn tmps).run Try.prog w = .ok (.tuple #[.agg (nm l), .int .u32 x, .int .u8 y]) w := by
  have h1 := run_loadVar_row (P := Try.prog) w g 26 26 (nm l) (0, 0) _ hat Try.underlying26 rfl (size23n hl)
  have c1 := hx.cell (i := 0) rfl
  have c2 := hy.cell (i := 0) rfl
  have hp' : tmps[p]?.getD undef = .pointer (some ⟨g, 0, none⟩) := by simpa using hp
  have hq' : tmps[q]?.getD undef = .pointer (some ⟨gq, 0, none⟩) := by simpa using hq
  have hr' : tmps[r]?.getD undef = .pointer (some ⟨gr, 0, none⟩) := by simpa using hr
  have h2 : (loadVar 27 ⟨gq, 0, none⟩).run Try.prog w = .ok (.int .u32 x) w := by simp [go_sem, c1]
  have h3 : (loadVar 5 ⟨gr, 0, none⟩).run Try.prog w = .ok (.int .u8 y) w := by simp [go_sem, c2]
  simp [results, h, hp', hq', hr', asAddr, h1, h2, h3, Sem.run_bind, Result.andThen]
theorem results_note2 {fn : Func} {p q r : Tmp} (h : fn.results = #[.cell p 26, .tmp q, .tmp r]) (tmps : Array Value) (w : World) (g : Nat) (l : List Int)
    (hp : tmps.getD p undef = .pointer (some ⟨g, 0, none⟩)) (hat : Blk w g 26 (nmL l)) (hl : l.length = 8) :
    (results fn tmps).run Try.prog w = .ok (.tuple #[.agg (nm l), tmps.getD q undef, tmps.getD r undef]) w := by
  have h1 := run_loadVar_row (P := Try.prog) w g 26 26 (nm l) (0, 0) _ hat Try.underlying26 rfl (size23n hl)
  have hp' : tmps[p]?.getD undef = .pointer (some ⟨g, 0, none⟩) := by simpa using hp
  simp [results, h, hp', asAddr, h1, Result.andThen]
end Go.Proofs.Ytgggjhbijnndhaa
namespace Go.Proofs.Ytgggjhbijnndhaa
open Go.RowKit

theorem only_drew (g : Nat) (w : World) : Only g w w.drew := by
  have b := below_drew (Below.refl w.heap.size w)
  exact ⟨b.os, b.tape, b.output, b.size, fun k hk _ => b.block k hk⟩
theorem wrap_u64n {x : Int} (h0 : 0 ≤ x) (h1 : x < 18446744073709551616) : IntKind.u64.wrap x = x := by simp [IntKind.wrap, IntKind.bits, IntKind.signed]; omega
theorem exec_quo256 {o : Oper} {a : Act} {w : World} (x : Operand) (ho : o.op = .binOp .quo 36 x (.const (.int .u64 256)) 36) (n : Int) (hx : a.eval x = .int .u64 n) (h0 : 0 ≤ n) (h1 : n < 18446744073709551616) :
    (execOp a.eval o).run Try.prog w = .ok (.value (.int .u64 (n / 256))) w := by
  unfold execOp
  simp only [ho, hx]
  go_simp
  rw [Int.tdiv_eq_ediv_of_nonneg h0]
  exact wrap_u64n (by omega) (by omega)
theorem exec_rem256 {o : Oper} {a : Act} {w : World} (x : Operand) (ho : o.op = .binOp .rem 36 x (.const (.int .u64 256)) 36) (n : Int) (hx : a.eval x = .int .u64 n) (h0 : 0 ≤ n) :
    (execOp a.eval o).run Try.prog w = .ok (.value (.int .u64 (n % 256))) w := by
  unfold execOp
  simp only [ho, hx]
  go_simp
  exact Int.tmod_eq_emod_of_nonneg h0
theorem exec_conv32 {o : Oper} {a : Act} {w : World} (x : Operand) (ho : o.op = .convert 36 27 x) (n : Int) (hx : a.eval x = .int .u64 n) :
    (execOp a.eval o).run Try.prog w = .ok (.value (.int .u32 (n % 4294967296))) w := by
  unfold execOp
  simp only [ho, hx]
  go_simp
  simp [IntKind.wrap, IntKind.bits, IntKind.signed]
theorem exec_conv8 {o : Oper} {a : Act} {w : World} (x : Operand) (ho : o.op = .convert 36 5 x) (n : Int) (hx : a.eval x = .int .u64 n) :
    (execOp a.eval o).run Try.prog w = .ok (.value (.int .u8 (n % 256))) w := by
  unfold execOp
  simp only [ho, hx]
  go_simp
  simp [IntKind.wrap, IntKind.bits, IntKind.signed]
theorem ready_store_cs {ops : Array Oper} {Q : Exit → Act → World → Prop} {md : Region.Mode} {S : World → Prop} {fuel : Nat} {listed : Array Bool} {a : Act} {w : World} {i : Nat} {o : Oper} {rs : List Nat} (ho : ops[i]? = some o) (hg : o.guard = none) (t : TypeId) (x y : Operand) (hop : o.op = .store t x y) (g : Nat) (cs ds : List Value)
    (hx : a.eval x = .pointer (some ⟨g, 0, none⟩)) (hy : a.eval y = .agg ds.toArray) (hb : Blk w g t cs) (hl : cs.length = ds.length) (hz : (Try.prog.info? t).map (·.size) = some ds.length) (h1 : ds.toArray.all (·.oneCell') = true)
    (h : ∀ w', Blk w' g t ds → Only g w w' → S w' ∧ wpAnyH Try.prog md ops Q S fuel (listed.setIfInBounds i true) (a.put o.dst undef) w')
    (hs : AllReadyH Try.prog md ops Q S fuel listed a w rs) : AllReadyH Try.prog md ops Q S fuel listed a w (i :: rs) := by
  refine AllReadyH.cons ho (fun K hK => ?_) hs
  have hw : Region.wanted o (yielded ops a.tmps) = true := by simp [Region.wanted, hg]
  rw [if_pos hw]
  have hs2 : ds.toArray.size = ds.length := List.size_toArray
  refine wp_store_mid t x y hop g 0 ds.toArray hx hy (hb.there 0 _ (by rw [hs2, hl]; omega)) (by rw [hs2]; exact hz) h1 ?_
  have hB := Blk.setCells ds 0 w cs hb
  rw [setL_all _ _ hl] at hB
  have H := h _ hB (Only.setCells ds 0 w)
  exact hK.out _ _ H.1 (fun _ => H.2)
end Go.Proofs.Ytgggjhbijnndhaa
