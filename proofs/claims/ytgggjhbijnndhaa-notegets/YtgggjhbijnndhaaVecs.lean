/- Vectors as values and in memory: loads, stores, builds and comparisons of whole ones. -/
import Derived.Test.YtgggjhbijnndhaaMathV
import Derived.Test.YtgggjhbijnndhaaKeys
namespace Go.Proofs.Ytgggjhbijnndhaa
open Go.RowKit

def vc (l : List Int) : List Value := l.map (Value.int .u32)
theorem vc_len (l : List Int) : (vc l).length = l.length := List.length_map ..
theorem vc_at {l : List Int} {i : Nat} {x : Int} (h : l[i]? = some x) : (vc l)[i]? = some (.int .u32 x) := by unfold vc; rw [List.getElem?_map, h]; rfl
theorem vc_set (l : List Int) (i : Nat) (x : Int) : (vc l).set i (.int .u32 x) = vc (l.set i x) := by unfold vc; rw [List.map_set]
theorem vc_one (l : List Int) : (vc l).toArray.all (·.oneCell') = true := by
  rw [Array.all_eq_true_iff_forall_mem]
  intro x hx
  simp only [vc, List.mem_toArray, List.mem_map] at hx
  obtain ⟨j, _, rfl⟩ := hx
  rfl
theorem vc_inj {a b : List Int} (h : vc a = vc b) : a = b := by
  have := congrArg (List.map fun v : Value => match v with | .int _ x => x | _ => 0) h
  simpa [vc, Function.comp_def] using this
/-- The two types of vectors. -/
structure VTy (t : TypeId) : Prop where
  und : Try.prog.underlying t = some (.array 16 27)
  info : (Try.prog.info? t).map (fun i => (i.zero, i.size)) = some (some (.agg (vc vz).toArray), 16)
  eqg : Try.prog.eqGuardType Try.prog.depth t = false
theorem VTy.size {t : TypeId} (h : VTy t) {l : List Int} (hl : l.length = 16) : (Try.prog.info? t).map (·.size) = some (vc l).length := by rw [vc_len, hl]; exact (zero_of_info h.info).2
theorem VTy.zero {t : TypeId} (h : VTy t) (w : World) : (zeroValue t).run Try.prog w = .ok (.agg (vc vz).toArray) w := (zero_of_info h.info).1 w
theorem wpList_load_v {ops : Array Oper} {rest : List Oper} {op : Oper} {a : Act} {w : World} {Q : Exit → Act → World → Prop} {t : TypeId} (T : VTy t) (hgd : op.guard = none) (x : Operand) (ho : op.op = .load t x) (g o : Nat) (l : List Int)
    (hx : a.eval x = .pointer (some ⟨g, o, none⟩)) (hr : w.rangeAt g o (vc l)) (hl : l.length = 16) (h : wpList Try.prog ops Q rest (a.put op.dst (.agg (vc l).toArray)) w) : wpList Try.prog ops Q (op :: rest) a w :=
  wpList_load_mid hgd t x ho g o hx (vc l) _ hr T.und rfl (T.size hl) h
theorem wpList_store_v {ops : Array Oper} {rest : List Oper} {op : Oper} {a : Act} {w : World} {Q : Exit → Act → World → Prop} {t : TypeId} (T : VTy t) (hgd : op.guard = none) (x y : Operand) (ho : op.op = .store t x y) (g : Nat) (l m : List Int)
    (hx : a.eval x = .pointer (some ⟨g, 0, none⟩)) (hy : a.eval y = .agg (vc m).toArray) (hb : Blk w g t (vc l)) (hl : l.length = 16) (hm : m.length = 16)
    (h : ∀ w', Hid (Blk w' g t (vc m)) → Hid (Only g w w') → wpList Try.prog ops Q rest (a.put op.dst undef) w') : wpList Try.prog ops Q (op :: rest) a w :=
  wpList_store_cs hgd t x y ho g (vc l) (vc m) hx hy hb (by rw [vc_len, vc_len, hl, hm]) (T.size hm) (vc_one m) h
theorem plain22v : Try.prog.plainKey 27 = true := by kernel_rfl
theorem cells22 : Try.prog.cellsOf 27 = 1 := by kernel_rfl
theorem info22e : ∃ i, Try.prog.info? 27 = some i := by
  have h : (Try.prog.info? 27).isSome = true := by kernel_rfl
  exact Option.isSome_iff_exists.1 h
theorem part_v (l : List Int) (i : Nat) (h : i < l.length) (w : World) : (Go.part 27 (vc l).toArray i).run Try.prog w = .ok (.int .u32 l[i]) w :=
  run_part_plain w plain22v (by rw [List.getElem?_toArray]; exact vc_at (List.getElem?_eq_getElem h))
theorem eq_itemsV (a b : List Int) (ha : a.length = 16) (hb : b.length = 16) (d : Nat) (w : World) : ∀ (k i : Nat), i + k = 16 → (Op.eqItems (d + 1) 27 1 (vc a).toArray (vc b).toArray (List.range' i k)).run Try.prog w = .ok (a.drop i == b.drop i) w
  | 0, i, h => by
    have e1 : a.drop i = [] := List.drop_eq_nil_of_le (by omega)
    have e2 : b.drop i = [] := List.drop_eq_nil_of_le (by omega)
    rw [e1, e2]
    rfl
  | k + 1, i, h => by
    rw [List.range'_succ, Op.eqItems]
    simp only [Sem.run_bind, Nat.mul_one, part_v a i (by omega), part_v b i (by omega), Result.andThen_ok, run_equalIn_int w d 27 .u32 .u32 _ _ Try.underlying27]
    rw [List.drop_eq_getElem_cons (by omega : i < a.length), List.drop_eq_getElem_cons (by omega : i < b.length), List.cons_beq_cons]
    cases hq : (a[i] == b[i])
    · simp
    · simp [eq_itemsV a b ha hb d w k (i + 1) (by omega)]
theorem eqlV {t : TypeId} (T : VTy t) (a b : List Int) (ha : a.length = 16) (hb : b.length = 16) (d : Nat) (w : World) : (Op.equalIn (d + 2) t (.agg (vc a).toArray) (.agg (vc b).toArray)).run Try.prog w = .ok (a == b) w := by
  obtain ⟨j, hj⟩ := info22e
  rw [run_equalIn_array w (d + 1) _ _ T.und hj, cells22, List.range_eq_range', eq_itemsV a b ha hb d w 16 0 rfl]
  rfl
theorem exec_eq_v {o : Oper} {a : Act} {w : World} {t : TypeId} (T : VTy t) (x y : Operand) (u : TypeId) (ho : o.op = .binOp .eql t x y u) (A B : List Int) (hx : a.eval x = .agg (vc A).toArray) (hy : a.eval y = .agg (vc B).toArray) (hA : A.length = 16) (hB : B.length = 16) :
    (execOp a.eval o).run Try.prog w = .ok (.value (.bool (A == B))) w := by
  unfold execOp
  simp only [ho, hx, hy, Sem.run_bind, run_eqGuard_agg w .eql t x y _ _ T.eqg, Result.andThen_ok, run_eql_struct, eqlV T A B hA hB 9998 w, Sem.run_pure]
theorem exec_eq_vr {o : Oper} {a : Act} {w : World} {t : TypeId} (T : VTy t) (x y : Operand) (u : TypeId) (ho : o.op = .binOp .eql t x y u) (A B : List Int) {r : Bool} (hx : a.eval x = .agg (vc A).toArray) (hy : a.eval y = .agg (vc B).toArray) (hA : A.length = 16) (hB : B.length = 16) (hr : (A == B) = r) :
    (execOp a.eval o).run Try.prog w = .ok (.value (.bool r)) w := by rw [← hr]; exact exec_eq_v T x y u ho A B hx hy hA hB
theorem exec_neq_v {o : Oper} {a : Act} {w : World} {t : TypeId} (T : VTy t) (x y : Operand) (u : TypeId) (ho : o.op = .binOp .neq t x y u) (A B : List Int) (hx : a.eval x = .agg (vc A).toArray) (hy : a.eval y = .agg (vc B).toArray) (hA : A.length = 16) (hB : B.length = 16) :
    (execOp a.eval o).run Try.prog w = .ok (.value (.bool (!(A == B)))) w := by
  unfold execOp
  simp only [ho, hx, hy, Sem.run_bind, run_eqGuard_agg w .neq t x y _ _ T.eqg, Result.andThen_ok, run_neq_struct, eqlV T A B hA hB 9998 w, Sem.run_pure]
theorem quiet_load_v {o : Oper} {a : Act} {W : World} {K : Act → Prop} {t : TypeId} (T : VTy t) (G : Nat) (l : List Int) (x : Operand) (ho : o.op = .load t x) (hx : a.eval x = .pointer (some ⟨G, 0, none⟩)) (hat : Blk W G t (vc l)) (hl : l.length = 16)
    (hk : K (a.put o.dst (.agg (vc l).toArray))) : o.quiet Try.prog a (Cls W) K := quiet_load_cs t G 0 (vc l) _ x ho hx hat.range hat.lt T.und rfl (T.size hl) hk
theorem results_v {fn : Func} {t : Tmp} {ty : TypeId} (T : VTy ty) (h : fn.results = #[.cell t ty]) (tmps : Array Value) (w : World) (g : Nat) (l : List Int) (hp : tmps.getD t undef = .pointer (some ⟨g, 0, none⟩)) (hb : Blk w g ty (vc l)) (hl : l.length = 16) :
    (results fn tmps).run Try.prog w = .ok (.agg (vc l).toArray) w := results_cell_row h _ _ g ty (vc l).toArray (0, 0) _ hp hb T.und rfl (by rw [List.size_toArray]; exact T.size hl)
theorem results_vE {fn : Func} {t u : Tmp} {ty : TypeId} (T : VTy ty) (h : fn.results = #[.cell t ty, .tmp u]) (tmps : Array Value) (w : World) (g : Nat) (l : List Int) (hp : tmps.getD t undef = .pointer (some ⟨g, 0, none⟩)) (hb : Blk w g ty (vc l)) (hl : l.length = 16) :
    (results fn tmps).run Try.prog w = .ok (.tuple #[.agg (vc l).toArray, tmps.getD u undef]) w := by
  rw [results_cell_tmp h, hp]
  have := run_loadVar_row (P := Try.prog) w g ty ty (vc l).toArray (0, 0) _ hb T.und rfl (by rw [List.size_toArray]; exact T.size hl)
  simp [asAddr, this]
theorem bumpL {l : List Int} {w : World} {g t i : Nat} {x : Int} (h : Blk w g t (vc l)) : Blk (w.setCell ⟨g, i, none⟩ (.int .u32 x)) g t (vc (l.set i x)) := by rw [← vc_set]; exact h.set i _
end Go.Proofs.Ytgggjhbijnndhaa
