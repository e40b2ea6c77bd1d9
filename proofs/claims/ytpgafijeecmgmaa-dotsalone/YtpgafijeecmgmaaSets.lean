/- Sets of dots in memory: a floor and a slice. -/
import Derived.Test.YtpgafijeecmgmaaNums
import Derived.Test.YtpgafijeecmgmaaVecs
import Derived.Test.YtpgafijeecmgmaaSmallK
namespace Go.Proofs.Ytpgafijeecmgmaa
open Go.RowKit

/-- A set's cells: its floor, its slice. -/
def sc (f : List Int) (v : Value) : List Value := vc f ++ [v]
theorem sc_len {f : List Int} (v : Value) (h : f.length = 16) : (sc f v).length = 17 := by unfold sc; rw [List.length_append, vc_len, h]; rfl
theorem sc_one (f : List Int) (A : Option Addr) (n c : Nat) : (sc f (.slice A n c)).toArray.all (·.oneCell') = true := by
  rw [Array.all_eq_true_iff_forall_mem]
  intro x hx
  simp only [sc, vc, List.mem_toArray, List.mem_append, List.mem_map, List.mem_singleton] at hx
  rcases hx with ⟨j, _, rfl⟩ | rfl <;> rfl
theorem sc_cloud {f : List Int} (v : Value) (h : f.length = 16) : (sc f v)[16]? = some v := by
  unfold sc; rw [List.getElem?_append_right (by rw [vc_len]; omega), vc_len, h]; rfl
theorem sc_floor {f : List Int} (v : Value) (h : f.length = 16) (i : Nat) (hi : i < 16) : (sc f v)[i]? = some (.int .u32 (f.getD i 0)) := by
  unfold sc; rw [List.getElem?_append_left (by rw [vc_len]; omega)]
  exact vc_at (by rw [getD_at (by omega), List.getElem?_eq_getElem (by omega)])
theorem sc_set {f : List Int} (v : Value) (h : f.length = 16) (i : Nat) (hi : i < 16) (x : Int) : (sc f v).set i (.int .u32 x) = sc (f.set i x) v := by
  unfold sc; rw [List.set_append_left _ _ (by rw [vc_len]; omega), vc_set]
theorem sc_put {f : List Int} (u v : Value) (h : f.length = 16) : (sc f u).set 16 v = sc f v := by
  unfold sc; rw [List.set_append_right _ _ (by rw [vc_len]; omega), vc_len, h]; rfl
theorem range_floor {w : World} {g : Nat} {f : List Int} {v : Value} (h : w.rangeAt g 0 (sc f v)) : w.rangeAt g 0 (vc f) := fun j x hx => by
  refine h j x ?_
  unfold sc
  have hj : j < (vc f).length := by
    rcases Nat.lt_or_ge j (vc f).length with h | h
    · exact h
    · rw [List.getElem?_eq_none h] at hx; cases hx
  rw [List.getElem?_append_left hj]; exact hx
/-- The two types of sets. -/
structure STy (t : TypeId) : Prop where
  und : ∃ fs, Try.prog.underlying t = some (.struct fs)
  info : (Try.prog.info? t).map (fun i => (i.zero, i.size)) = some (some (.agg (sc vz (.slice none 0 0)).toArray), 17)
theorem t33 : STy 33 := ⟨⟨_, Try.underlying33⟩, by kernel_rfl⟩
theorem t26 : STy 26 := ⟨⟨_, Try.underlying26⟩, by kernel_rfl⟩
theorem STy.size {t : TypeId} (h : STy t) {f : List Int} {v : Value} (hf : f.length = 16) : (Try.prog.info? t).map (·.size) = some (sc f v).length := by rw [sc_len v hf]; exact (zero_of_info h.info).2
theorem STy.zero {t : TypeId} (h : STy t) (w : World) : (zeroValue t).run Try.prog w = .ok (.agg (sc vz (.slice none 0 0)).toArray) w := (zero_of_info h.info).1 w
section
variable {ops : Array Oper} {rest : List Oper} {op : Oper} {a : Act} {w : World} {Q : Exit → Act → World → Prop} {t : TypeId}
theorem wpList_load_s (T : STy t) (hgd : op.guard = none) (x : Operand) (ho : op.op = .load t x) (g : Nat) (f : List Int) (v : Value)
    (hx : a.eval x = .pointer (some ⟨g, 0, none⟩)) (hr : Blk w g t (sc f v)) (hf : f.length = 16) (h : wpList Try.prog ops Q rest (a.put op.dst (.agg (sc f v).toArray)) w) : wpList Try.prog ops Q (op :: rest) a w := by
  obtain ⟨d, hd⟩ := T.und
  exact wpList_load_mid hgd t x ho g 0 hx (sc f v) _ hr.range hd rfl (T.size hf) h
theorem wpList_store_s (T : STy t) (hgd : op.guard = none) (x y : Operand) (ho : op.op = .store t x y) (g : Nat) (f m : List Int) (u : Value) (A : Option Addr) (n c : Nat)
    (hx : a.eval x = .pointer (some ⟨g, 0, none⟩)) (hy : a.eval y = .agg (sc m (.slice A n c)).toArray) (hb : Blk w g t (sc f u)) (hf : f.length = 16) (hm : m.length = 16)
    (h : ∀ w', Hid (Blk w' g t (sc m (.slice A n c))) → Hid (Only g w w') → wpList Try.prog ops Q rest (a.put op.dst undef) w') : wpList Try.prog ops Q (op :: rest) a w :=
  wpList_store_cs hgd t x y ho g (sc f u) (sc m (.slice A n c)) hx hy hb (by rw [sc_len _ hf, sc_len _ hm]) (T.size hm) (sc_one m A n c) h
theorem wpList_alloc_s (T : STy t) (hgd : op.guard = none) (ho : op.op = .alloc t)
    (h : ∀ g w', Hid (g = w.heap.size) → Hid (Blk w' g t (sc vz (.slice none 0 0))) → Hid (Below w.heap.size w w') → wpList Try.prog ops Q rest (a.put op.dst (.pointer (some ⟨g, 0, none⟩))) w') : wpList Try.prog ops Q (op :: rest) a w := by
  refine wpList_plain hgd fun K hK => ?_
  have hz := T.zero
  have H := h w.heap.size (w.alloc (.cells (sc vz (.slice none 0 0)).toArray t)) (Lib.hid rfl) (Lib.hid (blk_alloc w t _)) (Lib.hid (new_below w _))
  unfold Oper.wp execOp
  simp [ho, Instr.alloc, hz]
  exact hK _ _ H
/-- A value of cells is boxed. -/
theorem wpList_box_cs (hgd : op.guard = none) (x : Operand) (ho : op.op = .box t x) (cs : List Value) (hx : a.eval x = .agg cs.toArray)
    (h : ∀ g w', Hid (g = w.heap.size) → Hid (Blk w' g t cs) → Hid (Below w.heap.size w w') → wpList Try.prog ops Q rest (a.put op.dst (.pointer (some ⟨g, 0, none⟩))) w') : wpList Try.prog ops Q (op :: rest) a w := by
  refine wpList_plain hgd fun K hK => ?_
  have H := h w.heap.size (w.alloc (.cells cs.toArray t)) (Lib.hid rfl) (Lib.hid (blk_alloc w t cs)) (Lib.hid (new_below w _))
  unfold Oper.wp execOp
  simp only [ho, hx, Sem.run_bind, Instr.box, newVar, newRow, run_newObj_alloc, Sem.run_pure, Result.andThen_ok]
  exact hK _ _ H
end
theorem results_s {t : TypeId} (T : STy t) {fn : Func} {r : Tmp} (h : fn.results = #[.cell r t]) (tmps : Array Value) (w : World) (g : Nat) (f : List Int) (v : Value) (hp : tmps.getD r undef = .pointer (some ⟨g, 0, none⟩)) (hb : Blk w g t (sc f v)) (hf : f.length = 16) :
    (results fn tmps).run Try.prog w = .ok (.agg (sc f v).toArray) w := by
  obtain ⟨d, hd⟩ := T.und
  exact results_cell_row h _ _ g t (sc f v).toArray (0, 0) _ hp hb hd rfl (by rw [List.size_toArray]; exact T.size hf)
theorem built_s33v (c0 c1 c2 c3 c4 c5 c6 c7 c8 c9 c10 c11 c12 c13 c14 c15 : Value) (A : Option Addr) (n c : Nat) : Try.prog.built 33 [(0, .agg #[c0, c1, c2, c3, c4, c5, c6, c7, c8, c9, c10, c11, c12, c13, c14, c15]), (1, .slice A n c)] = some #[c0, c1, c2, c3, c4, c5, c6, c7, c8, c9, c10, c11, c12, c13, c14, c15, .slice A n c] := by kernel_rfl
theorem built_s33f (c0 c1 c2 c3 c4 c5 c6 c7 c8 c9 c10 c11 c12 c13 c14 c15 : Value) : Try.prog.built 33 [(0, .agg #[c0, c1, c2, c3, c4, c5, c6, c7, c8, c9, c10, c11, c12, c13, c14, c15])] = some #[c0, c1, c2, c3, c4, c5, c6, c7, c8, c9, c10, c11, c12, c13, c14, c15, .slice none 0 0] := by kernel_rfl
theorem built_s33z : Try.prog.built 33 [] = some (sc vz (.slice none 0 0)).toArray := by kernel_rfl
theorem built_s33 (f : List Int) (hf : f.length = 16) (A : Option Addr) (n c : Nat) : Try.prog.built 33 [(0, .agg (vc f).toArray), (1, .slice A n c)] = some (sc f (.slice A n c)).toArray := by
  match f, hf with
  | [_, _, _, _, _, _, _, _, _, _, _, _, _, _, _, _], _ => exact built_s33v ..
theorem built_s33o (f : List Int) (hf : f.length = 16) : Try.prog.built 33 [(0, .agg (vc f).toArray)] = some (sc f (.slice none 0 0)).toArray := by
  match f, hf with
  | [_, _, _, _, _, _, _, _, _, _, _, _, _, _, _, _], _ => exact built_s33f ..
theorem built_s26v (c0 c1 c2 c3 c4 c5 c6 c7 c8 c9 c10 c11 c12 c13 c14 c15 : Value) (A : Option Addr) (n c : Nat) : Try.prog.built 26 [(0, .agg #[c0, c1, c2, c3, c4, c5, c6, c7, c8, c9, c10, c11, c12, c13, c14, c15]), (1, .slice A n c)] = some #[c0, c1, c2, c3, c4, c5, c6, c7, c8, c9, c10, c11, c12, c13, c14, c15, .slice A n c] := by kernel_rfl
theorem built_s26f (c0 c1 c2 c3 c4 c5 c6 c7 c8 c9 c10 c11 c12 c13 c14 c15 : Value) : Try.prog.built 26 [(0, .agg #[c0, c1, c2, c3, c4, c5, c6, c7, c8, c9, c10, c11, c12, c13, c14, c15])] = some #[c0, c1, c2, c3, c4, c5, c6, c7, c8, c9, c10, c11, c12, c13, c14, c15, .slice none 0 0] := by kernel_rfl
theorem built_s26z : Try.prog.built 26 [] = some (sc vz (.slice none 0 0)).toArray := by kernel_rfl
theorem built_s26 (f : List Int) (hf : f.length = 16) (A : Option Addr) (n c : Nat) : Try.prog.built 26 [(0, .agg (vc f).toArray), (1, .slice A n c)] = some (sc f (.slice A n c)).toArray := by
  match f, hf with
  | [_, _, _, _, _, _, _, _, _, _, _, _, _, _, _, _], _ => exact built_s26v ..
theorem built_s26o (f : List Int) (hf : f.length = 16) : Try.prog.built 26 [(0, .agg (vc f).toArray)] = some (sc f (.slice none 0 0)).toArray := by
  match f, hf with
  | [_, _, _, _, _, _, _, _, _, _, _, _, _, _, _, _], _ => exact built_s26f ..
end Go.Proofs.Ytpgafijeecmgmaa
