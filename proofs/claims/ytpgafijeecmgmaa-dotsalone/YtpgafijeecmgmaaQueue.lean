/- The queue of dots: its methods, and container/heap at it. Written by wip/tools/queue_r13.py. -/
import Derived.Test.YtpgafijeecmgmaaNums
namespace Go.Proofs.Ytpgafijeecmgmaa
open Go.RowKit

theorem u79 : Try.prog.underlying 79 = some (.slice 27) := by kernel_rfl
theorem u24n : Try.prog.underlying 24 = some (.slice 27) := by kernel_rfl
theorem qload (w : World) (B : Nat) (v : Value) (h : w.cell? ⟨B, 0, none⟩ = some v) : (loadVar 79 ⟨B, 0, none⟩).run Try.prog w = .ok v w := by
  simp [loadVar, go_sem, h]
theorem meth_len (w : World) (B : Nat) (v : Value) (h : w.cell? ⟨B, 0, none⟩ = some v) : (method 210 64 (.pointer (some ⟨B, 0, none⟩)) "Len").run Try.prog w = .ok (37, v) w := by
  have e : (method 210 64 (.pointer (some ⟨B, 0, none⟩)) "Len").run Try.prog w = (loadVar 79 ⟨B, 0, none⟩ >>= fun v => pure (37, v) : Sem (FuncId × Value)).run Try.prog w := by kernel_rfl
  rw [e]; simp only [Sem.run_bind, qload w B v h, Result.andThen_ok, Sem.run_pure]
theorem meth_less (w : World) (B : Nat) (v : Value) (h : w.cell? ⟨B, 0, none⟩ = some v) : (method 210 64 (.pointer (some ⟨B, 0, none⟩)) "Less").run Try.prog w = .ok (67, v) w := by
  have e : (method 210 64 (.pointer (some ⟨B, 0, none⟩)) "Less").run Try.prog w = (loadVar 79 ⟨B, 0, none⟩ >>= fun v => pure (67, v) : Sem (FuncId × Value)).run Try.prog w := by kernel_rfl
  rw [e]; simp only [Sem.run_bind, qload w B v h, Result.andThen_ok, Sem.run_pure]
theorem meth_swap (w : World) (B : Nat) (v : Value) (h : w.cell? ⟨B, 0, none⟩ = some v) : (method 210 64 (.pointer (some ⟨B, 0, none⟩)) "Swap").run Try.prog w = .ok (70, v) w := by
  have e : (method 210 64 (.pointer (some ⟨B, 0, none⟩)) "Swap").run Try.prog w = (loadVar 79 ⟨B, 0, none⟩ >>= fun v => pure (70, v) : Sem (FuncId × Value)).run Try.prog w := by kernel_rfl
  rw [e]; simp only [Sem.run_bind, qload w B v h, Result.andThen_ok, Sem.run_pure]
theorem meth_push (w : World) (B : Nat) : (method 210 64 (.pointer (some ⟨B, 0, none⟩)) "Push").run Try.prog w = .ok (69, .pointer (some ⟨B, 0, none⟩)) w := by kernel_rfl
theorem meth_pop (w : World) (B : Nat) : (method 210 64 (.pointer (some ⟨B, 0, none⟩)) "Pop").run Try.prog w = .ok (68, .pointer (some ⟨B, 0, none⟩)) w := by kernel_rfl
theorem nil_len (w : World) (B : Nat) : (nilAhead 210 64 (.pointer (some ⟨B, 0, none⟩)) "Len").run Try.prog w = .ok (some false) w := by kernel_rfl
theorem nil_less (w : World) (B : Nat) : (nilAhead 210 64 (.pointer (some ⟨B, 0, none⟩)) "Less").run Try.prog w = .ok (some false) w := by kernel_rfl
theorem nil_swap (w : World) (B : Nat) : (nilAhead 210 64 (.pointer (some ⟨B, 0, none⟩)) "Swap").run Try.prog w = .ok (some false) w := by kernel_rfl
theorem nil_push (w : World) (B : Nat) : (nilAhead 210 64 (.pointer (some ⟨B, 0, none⟩)) "Push").run Try.prog w = .ok (some false) w := by kernel_rfl
theorem nil_pop (w : World) (B : Nat) : (nilAhead 210 64 (.pointer (some ⟨B, 0, none⟩)) "Pop").run Try.prog w = .ok (some false) w := by kernel_rfl
set_option maxRecDepth 100000 in
theorem qless_is (A : Option Addr) (cap : Nat) (l : List Int) (i j : Nat) (b : Bool) (w : World) (h : NumsAt w (.slice A l.length cap) l) (hi : i < l.length) (hj : j < l.length) (hb : Hid (decide (l.getD i 0 < l.getD j 0) = b)) :
    Calls Try.prog 67 #[.slice A l.length cap, .int .i64 i, .int .i64 j] w fun e w' => e = .returned (.bool b) ∧ Below w.heap.size w w' := by
  obtain ⟨G, p, hE, hc, hG⟩ := h.elem i hi
  obtain ⟨G2, p2, hF, hc2, hG2⟩ := h.elem j hj
  have E := Lib.hid hE
  have F := Lib.hid hF
  obtain ⟨x, hx⟩ : ∃ x, l.getD i 0 = x := ⟨_, rfl⟩
  obtain ⟨y, hy⟩ : ∃ y, l.getD j 0 = y := ⟨_, rfl⟩
  rw [hx] at hc hb
  rw [hy] at hc2 hb
  have C1 := Lib.hid hc
  have C2 := Lib.hid hc2
  have BL := Lib.hid hG
  have BL2 := Lib.hid hG2
  clear hE hF hc hc2 hG hG2 h hi hj hx hy
  go_enter Try.func67, Try.ntmps67
  go_wp2_with fail
  have S1 := Lib.hid (show Below w.heap.size w w.drew from below_drew (Below.refl _ _))
  refine wp_region_noPanic ?_
  refine wp_region_held_drew (S := fun W => Below w.heap.size w W) (by kernel_rfl) S1.out (fun _ => ?_)
  refine wpAnyH_take (i := 0) (oi := { dst := some 7, op := Go.Op.move (Go.Operand.tmp 0), type := 79, pos := _, after := #[], guard := none }) (v := ?_) rfl (by kernel_rfl) (by kernel_rfl) (by kernel_rfl) (fun _ _ _ h => h) (Or.inl ⟨by rfl, ?_⟩) S1.out ?_
  rotate_left
  · intro W hW; (go_simp; try with_reducible rfl)
  try simp only [Act.put, List.setIfInBounds_toArray, List.set_cons_zero, List.set_cons_succ]
  refine wpAnyH_take (i := 1) (oi := { dst := some 8, op := Go.Op.move (Go.Operand.tmp 1), type := 3, pos := _, after := #[], guard := none }) (v := ?_) rfl (by kernel_rfl) (by kernel_rfl) (by kernel_rfl) (fun _ _ _ h => h) (Or.inl ⟨by rfl, ?_⟩) S1.out ?_
  rotate_left
  · intro W hW; (go_simp; try with_reducible rfl)
  try simp only [Act.put, List.setIfInBounds_toArray, List.set_cons_zero, List.set_cons_succ]
  refine wpAnyH_take (i := 2) (oi := { dst := some 9, op := Go.Op.indexAddr 79 (Go.Operand.tmp 7) (Go.Operand.tmp 8), type := 0, pos := _, after := #[{ on := 0, ground := Go.Ground.data }, { on := 1, ground := Go.Ground.data }], guard := none }) (v := .pointer (some ⟨G, p, none⟩)) rfl (by kernel_rfl) (by kernel_rfl) (by kernel_rfl) (fun _ _ _ h => h) (Or.inl ⟨by rfl, fun W hW => exec_indexN u79 (.tmp 7) (.tmp 8) rfl A _ _ G p i _ rfl rfl rfl E.out⟩) S1.out ?_
  try simp only [Act.put, List.setIfInBounds_toArray, List.set_cons_zero, List.set_cons_succ]
  refine wpAnyH_take (i := 3) (oi := { dst := some 10, op := Go.Op.load 27 (Go.Operand.tmp 9), type := 27, pos := _, after := #[{ on := 2, ground := Go.Ground.data }], guard := none }) (v := .int .u64 x) rfl (by kernel_rfl) (by kernel_rfl) (by kernel_rfl) (fun _ _ _ h => h) (Or.inl ⟨by rfl, fun W hW => exec_load_num (.tmp 9) rfl G p x rfl ((hW.cell (p := ⟨G, p, none⟩) BL.out).trans C1.out)⟩) S1.out ?_
  try simp only [Act.put, List.setIfInBounds_toArray, List.set_cons_zero, List.set_cons_succ]
  refine wpAnyH_take (i := 4) (oi := { dst := some 11, op := Go.Op.move (Go.Operand.tmp 0), type := 79, pos := _, after := #[], guard := none }) (v := ?_) rfl (by kernel_rfl) (by kernel_rfl) (by kernel_rfl) (fun _ _ _ h => h) (Or.inl ⟨by rfl, ?_⟩) S1.out ?_
  rotate_left
  · intro W hW; (go_simp; try with_reducible rfl)
  try simp only [Act.put, List.setIfInBounds_toArray, List.set_cons_zero, List.set_cons_succ]
  refine wpAnyH_take (i := 5) (oi := { dst := some 12, op := Go.Op.move (Go.Operand.tmp 2), type := 3, pos := _, after := #[], guard := none }) (v := ?_) rfl (by kernel_rfl) (by kernel_rfl) (by kernel_rfl) (fun _ _ _ h => h) (Or.inl ⟨by rfl, ?_⟩) S1.out ?_
  rotate_left
  · intro W hW; (go_simp; try with_reducible rfl)
  try simp only [Act.put, List.setIfInBounds_toArray, List.set_cons_zero, List.set_cons_succ]
  refine wpAnyH_take (i := 6) (oi := { dst := some 13, op := Go.Op.indexAddr 79 (Go.Operand.tmp 11) (Go.Operand.tmp 12), type := 0, pos := _, after := #[{ on := 4, ground := Go.Ground.data }, { on := 5, ground := Go.Ground.data }], guard := none }) (v := .pointer (some ⟨G2, p2, none⟩)) rfl (by kernel_rfl) (by kernel_rfl) (by kernel_rfl) (fun _ _ _ h => h) (Or.inl ⟨by rfl, fun W hW => exec_indexN u79 (.tmp 11) (.tmp 12) rfl A _ _ G2 p2 j _ rfl rfl rfl F.out⟩) S1.out ?_
  try simp only [Act.put, List.setIfInBounds_toArray, List.set_cons_zero, List.set_cons_succ]
  refine wpAnyH_take (i := 7) (oi := { dst := some 14, op := Go.Op.load 27 (Go.Operand.tmp 13), type := 27, pos := _, after := #[{ on := 6, ground := Go.Ground.data }], guard := none }) (v := .int .u64 y) rfl (by kernel_rfl) (by kernel_rfl) (by kernel_rfl) (fun _ _ _ h => h) (Or.inl ⟨by rfl, fun W hW => exec_load_num (.tmp 13) rfl G2 p2 y rfl ((hW.cell (p := ⟨G2, p2, none⟩) BL2.out).trans C2.out)⟩) S1.out ?_
  try simp only [Act.put, List.setIfInBounds_toArray, List.set_cons_zero, List.set_cons_succ]
  refine wpAnyH_take (i := 8) (oi := { dst := some 15, op := Go.Op.binOp Go.BinOp.lss 27 (Go.Operand.tmp 10) (Go.Operand.tmp 14) 27, type := 4, pos := _, after := #[{ on := 3, ground := Go.Ground.data }, { on := 7, ground := Go.Ground.data }], guard := none }) (v := ?_) rfl (by kernel_rfl) (by kernel_rfl) (by kernel_rfl) (fun _ _ _ h => h) (Or.inl ⟨by rfl, ?_⟩) S1.out ?_
  rotate_left
  · intro W hW; (go_simp; try with_reducible rfl)
  try simp only [Act.put, List.setIfInBounds_toArray, List.set_cons_zero, List.set_cons_succ]
  refine wpAnyH_take (i := 9) (oi := { dst := some 6, op := Go.Op.assign (Go.Operand.tmp 15), type := 4, pos := _, after := #[{ on := 8, ground := Go.Ground.data }, { on := 0, ground := Go.Ground.phase }, { on := 1, ground := Go.Ground.phase }, { on := 2, ground := Go.Ground.phase }, { on := 3, ground := Go.Ground.phase }, { on := 4, ground := Go.Ground.phase }, { on := 5, ground := Go.Ground.phase }, { on := 6, ground := Go.Ground.phase }, { on := 7, ground := Go.Ground.phase }, { on := 8, ground := Go.Ground.phase }], guard := none }) (v := ?_) rfl (by kernel_rfl) (by kernel_rfl) (by kernel_rfl) (fun _ _ _ h => h) (Or.inl ⟨by rfl, ?_⟩) S1.out ?_
  rotate_left
  · intro W hW; (go_simp; try with_reducible rfl)
  try simp only [Act.put, List.setIfInBounds_toArray, List.set_cons_zero, List.set_cons_succ]
  refine wpAnyH_done (by kernel_rfl) ?_ _
  refine NoPanic.normal ?_
  go_wp2_with fail
  go_ret
  exact ⟨ret_bool hb.out, S1.out⟩
/-- Two numbers of a row of one's own change places. -/
theorem OwnN.set {w : World} {B g n cap : Nat} {l : List Int} (h : OwnN w B (.slice (some ⟨g, 0, none⟩) n cap) l) (i : Nat) (x : Int) (hx : 0 ≤ x ∧ x < 18446744073709551616) :
    OwnN (w.setCell ⟨g, i, none⟩ (.int .u64 x)) B (.slice (some ⟨g, 0, none⟩) n cap) (l.set i x) := by
  obtain ⟨_, _, e⟩ := h.shape
  simp only [Value.slice.injEq] at e
  obtain ⟨_, rfl, _⟩ := e
  refine ⟨fun y hy => ?_, ?_⟩
  · rcases List.mem_or_eq_of_mem_set hy with h1 | h1
    · exact h.ok y h1
    · subst h1; exact hx
  · rw [List.length_set, nc_set]; exact (h.row.stored i _).1
theorem OwnN.cell {w : World} {B g n cap : Nat} {l : List Int} (h : OwnN w B (.slice (some ⟨g, 0, none⟩) n cap) l) {i : Nat} (hi : i < l.length) : w.cell? ⟨g, i, none⟩ = some (.int .u64 (l.getD i 0)) := by
  obtain ⟨A, c, e2⟩ := h.shape
  simp only [Value.slice.injEq] at e2
  obtain ⟨_, rfl, _⟩ := e2
  rw [h.row.cellAt i (by omega)]; exact nc_get hi
theorem OwnN.fz {w : World} {B g n cap : Nat} {l : List Int} (h : OwnN w B (.slice (some ⟨g, 0, none⟩) n cap) l) (i : Nat) : w.frozen? ⟨g, i, none⟩ = false := by
  obtain ⟨A, c, e2⟩ := h.shape
  simp only [Value.slice.injEq] at e2
  obtain ⟨_, rfl, _⟩ := e2
  exact h.row.frozenAt i
set_option maxRecDepth 100000 in
theorem qswap_is (g cap B : Nat) (l m : List Int) (i j : Nat) (w : World) (h : OwnN w B (.slice (some ⟨g, 0, none⟩) l.length cap) l) (hi : i < l.length) (hj : j < l.length) (hm : Hid (swp l i j = m)) :
    Calls Try.prog 70 #[.slice (some ⟨g, 0, none⟩) l.length cap, .int .i64 i, .int .i64 j] w fun e w' => e = .returned (.tuple #[]) ∧ OwnN w' B (.slice (some ⟨g, 0, none⟩) m.length cap) m ∧ Only g w w' := by
  have E := Lib.hid (show NElem (some ⟨g, 0, none⟩) l.length g i i from ⟨⟨0, rfl, by omega⟩, hi⟩)
  have F := Lib.hid (show NElem (some ⟨g, 0, none⟩) l.length g j j from ⟨⟨0, rfl, by omega⟩, hj⟩)
  have H0 := Lib.hid h.drew
  have HI := Lib.hid hi
  have HJ := Lib.hid hj
  clear h hi hj
  go_enter Try.func70, Try.ntmps70
  go_wp2_with fail
  refine wp_region_noPanic ?_
  refine wp_region_held_drew (S := fun _ => True) (by kernel_rfl) trivial (fun _ => ?_)
  refine wpAnyH_take (i := 0) (oi := { dst := some 6, op := Go.Op.move (Go.Operand.tmp 0), type := 79, pos := _, after := #[], guard := none }) (v := ?_) rfl (by kernel_rfl) (by kernel_rfl) (by kernel_rfl) (fun _ _ _ h => h) (Or.inl ⟨by rfl, ?_⟩) trivial ?_
  rotate_left
  · intro W hW; (go_simp; try with_reducible rfl)
  try simp only [Act.put, List.setIfInBounds_toArray, List.set_cons_zero, List.set_cons_succ]
  refine wpAnyH_take (i := 1) (oi := { dst := some 7, op := Go.Op.move (Go.Operand.tmp 1), type := 3, pos := _, after := #[], guard := none }) (v := ?_) rfl (by kernel_rfl) (by kernel_rfl) (by kernel_rfl) (fun _ _ _ h => h) (Or.inl ⟨by rfl, ?_⟩) trivial ?_
  rotate_left
  · intro W hW; (go_simp; try with_reducible rfl)
  try simp only [Act.put, List.setIfInBounds_toArray, List.set_cons_zero, List.set_cons_succ]
  refine wpAnyH_take (i := 2) (oi := { dst := some 8, op := Go.Op.move (Go.Operand.tmp 0), type := 79, pos := _, after := #[{ on := 13, ground := Go.Ground.gcOnly Go.Departure.lateStores }], guard := none }) (v := ?_) rfl (by kernel_rfl) (by kernel_rfl) (by kernel_rfl) (fun _ _ _ h => h) (Or.inl ⟨by rfl, ?_⟩) trivial ?_
  rotate_left
  · intro W hW; (go_simp; try with_reducible rfl)
  try simp only [Act.put, List.setIfInBounds_toArray, List.set_cons_zero, List.set_cons_succ]
  refine wpAnyH_take (i := 3) (oi := { dst := some 9, op := Go.Op.move (Go.Operand.tmp 2), type := 3, pos := _, after := #[{ on := 13, ground := Go.Ground.gcOnly Go.Departure.lateStores }], guard := none }) (v := ?_) rfl (by kernel_rfl) (by kernel_rfl) (by kernel_rfl) (fun _ _ _ h => h) (Or.inl ⟨by rfl, ?_⟩) trivial ?_
  rotate_left
  · intro W hW; (go_simp; try with_reducible rfl)
  try simp only [Act.put, List.setIfInBounds_toArray, List.set_cons_zero, List.set_cons_succ]
  refine wpAnyH_take (i := 4) (oi := { dst := some 10, op := Go.Op.move (Go.Operand.tmp 0), type := 79, pos := _, after := #[], guard := none }) (v := ?_) rfl (by kernel_rfl) (by kernel_rfl) (by kernel_rfl) (fun _ _ _ h => h) (Or.inl ⟨by rfl, ?_⟩) trivial ?_
  rotate_left
  · intro W hW; (go_simp; try with_reducible rfl)
  try simp only [Act.put, List.setIfInBounds_toArray, List.set_cons_zero, List.set_cons_succ]
  refine wpAnyH_take (i := 5) (oi := { dst := some 11, op := Go.Op.move (Go.Operand.tmp 2), type := 3, pos := _, after := #[], guard := none }) (v := ?_) rfl (by kernel_rfl) (by kernel_rfl) (by kernel_rfl) (fun _ _ _ h => h) (Or.inl ⟨by rfl, ?_⟩) trivial ?_
  rotate_left
  · intro W hW; (go_simp; try with_reducible rfl)
  try simp only [Act.put, List.setIfInBounds_toArray, List.set_cons_zero, List.set_cons_succ]
  refine wpAnyH_take (i := 8) (oi := { dst := some 14, op := Go.Op.move (Go.Operand.tmp 0), type := 79, pos := _, after := #[], guard := none }) (v := ?_) rfl (by kernel_rfl) (by kernel_rfl) (by kernel_rfl) (fun _ _ _ h => h) (Or.inl ⟨by rfl, ?_⟩) trivial ?_
  rotate_left
  · intro W hW; (go_simp; try with_reducible rfl)
  try simp only [Act.put, List.setIfInBounds_toArray, List.set_cons_zero, List.set_cons_succ]
  refine wpAnyH_take (i := 9) (oi := { dst := some 15, op := Go.Op.move (Go.Operand.tmp 1), type := 3, pos := _, after := #[], guard := none }) (v := ?_) rfl (by kernel_rfl) (by kernel_rfl) (by kernel_rfl) (fun _ _ _ h => h) (Or.inl ⟨by rfl, ?_⟩) trivial ?_
  rotate_left
  · intro W hW; (go_simp; try with_reducible rfl)
  try simp only [Act.put, List.setIfInBounds_toArray, List.set_cons_zero, List.set_cons_succ]
  refine wpAnyH_take (i := 6) (oi := { dst := some 12, op := Go.Op.indexAddr 79 (Go.Operand.tmp 10) (Go.Operand.tmp 11), type := 0, pos := _, after := #[{ on := 4, ground := Go.Ground.data }, { on := 5, ground := Go.Ground.data }], guard := none }) (v := .pointer (some ⟨g, j, none⟩)) rfl (by kernel_rfl) (by kernel_rfl) (by kernel_rfl) (fun _ _ _ h => h) (Or.inl ⟨by rfl, fun W hW => exec_indexN u79 (.tmp 10) (.tmp 11) rfl (some ⟨g, 0, none⟩) _ _ g j j _ rfl rfl rfl F.out⟩) trivial ?_
  try simp only [Act.put, List.setIfInBounds_toArray, List.set_cons_zero, List.set_cons_succ]
  refine wpAnyH_take (i := 10) (oi := { dst := some 16, op := Go.Op.indexAddr 79 (Go.Operand.tmp 14) (Go.Operand.tmp 15), type := 0, pos := _, after := #[{ on := 8, ground := Go.Ground.data }, { on := 9, ground := Go.Ground.data }], guard := none }) (v := .pointer (some ⟨g, i, none⟩)) rfl (by kernel_rfl) (by kernel_rfl) (by kernel_rfl) (fun _ _ _ h => h) (Or.inl ⟨by rfl, fun W hW => exec_indexN u79 (.tmp 14) (.tmp 15) rfl (some ⟨g, 0, none⟩) _ _ g i i _ rfl rfl rfl E.out⟩) trivial ?_
  try simp only [Act.put, List.setIfInBounds_toArray, List.set_cons_zero, List.set_cons_succ]
  have H1 := Lib.hid (H0.out.set i (l.getD j 0) (H0.out.ok.at_ j))
  have HJ1 := Lib.hid (show j < (l.set i (l.getD j 0)).length by rw [List.length_set]; exact HJ.out)
  have H2 := Lib.hid (show OwnN _ B (.slice (some ⟨g, 0, none⟩) (swp l i j).length cap) (swp l i j) from by rw [swp_len]; exact H1.out.set j (l.getD i 0) (H0.out.ok.at_ i))
  have O2 := Lib.hid (show Only g w _ from ((Only.of_below (below_drew (Below.refl w.heap.size w))).trans (Only.set g i w.drew (.int .u64 (l.getD j 0)))).trans (Only.set g j _ (.int .u64 (l.getD i 0))))
  refine wpAnyH_ready (rs := [7, 11]) (by kernel_rfl) (by simp) ?_
  refine ready_val (o := { dst := some 13, op := Go.Op.load 27 (Go.Operand.tmp 12), type := 27, pos := _, after := #[{ on := 6, ground := Go.Ground.data }], guard := none }) rfl rfl (.int .u64 (l.getD j 0)) _ (exec_load_num (.tmp 12) rfl g j _ rfl (H0.out.cell HJ.out)) ⟨trivial, ?_⟩ ?_
  · try simp only [Act.put, List.setIfInBounds_toArray, List.set_cons_zero, List.set_cons_succ]
    refine wpAnyH_ready (rs := [11]) (by kernel_rfl) (by simp) ?_
    refine ready_val (o := { dst := some 17, op := Go.Op.load 27 (Go.Operand.tmp 16), type := 27, pos := _, after := #[{ on := 10, ground := Go.Ground.data }], guard := none }) rfl rfl (.int .u64 (l.getD i 0)) _ (exec_load_num (.tmp 16) rfl g i _ rfl (H0.out.cell HI.out)) ⟨trivial, ?_⟩ AllReadyH.nil
    try simp only [Act.put, List.setIfInBounds_toArray, List.set_cons_zero, List.set_cons_succ]
    refine wpAnyH_take (i := 12) (oi := { dst := some 18, op := Go.Op.indexAddr 79 (Go.Operand.tmp 6) (Go.Operand.tmp 7), type := 0, pos := _, after := #[{ on := 0, ground := Go.Ground.data }, { on := 1, ground := Go.Ground.data }, { on := 0, ground := Go.Ground.phase }, { on := 1, ground := Go.Ground.phase }, { on := 2, ground := Go.Ground.textOnly Go.Departure.lateStores }, { on := 3, ground := Go.Ground.textOnly Go.Departure.lateStores }, { on := 4, ground := Go.Ground.phase }, { on := 5, ground := Go.Ground.phase }, { on := 6, ground := Go.Ground.phase }, { on := 7, ground := Go.Ground.phase }, { on := 8, ground := Go.Ground.textOnly Go.Departure.lateStores }, { on := 9, ground := Go.Ground.textOnly Go.Departure.lateStores }, { on := 10, ground := Go.Ground.textOnly Go.Departure.lateStoresUnsure }, { on := 11, ground := Go.Ground.phase }], guard := none }) (v := .pointer (some ⟨g, i, none⟩)) rfl (by kernel_rfl) (by kernel_rfl) (by kernel_rfl) (fun _ _ _ h => h) (Or.inl ⟨by rfl, fun W hW => exec_indexN u79 (.tmp 6) (.tmp 7) rfl (some ⟨g, 0, none⟩) _ _ g i i _ rfl rfl rfl E.out⟩) trivial ?_
    try simp only [Act.put, List.setIfInBounds_toArray, List.set_cons_zero, List.set_cons_succ]
    refine wpAnyH_ready (rs := [13]) (by kernel_rfl) (by simp) ?_
    refine ready_skip (o := { dst := none, op := Go.Op.store 27 (Go.Operand.tmp 18) (Go.Operand.tmp 13), type := 0, pos := _, after := #[{ on := 12, ground := Go.Ground.data }, { on := 7, ground := Go.Ground.data }, { on := 0, ground := Go.Ground.phase }, { on := 1, ground := Go.Ground.phase }, { on := 2, ground := Go.Ground.textOnly Go.Departure.lateStores }, { on := 3, ground := Go.Ground.textOnly Go.Departure.lateStores }, { on := 4, ground := Go.Ground.phase }, { on := 5, ground := Go.Ground.phase }, { on := 6, ground := Go.Ground.phase }, { on := 7, ground := Go.Ground.phase }, { on := 8, ground := Go.Ground.textOnly Go.Departure.lateStores }, { on := 9, ground := Go.Ground.textOnly Go.Departure.lateStores }, { on := 10, ground := Go.Ground.textOnly Go.Departure.lateStoresUnsure }, { on := 11, ground := Go.Ground.phase }], guard := none }) rfl rfl _ (exec_store_num (.tmp 18) (.tmp 13) rfl g i _ _ rfl rfl (H0.out.cell HI.out) (H0.out.fz i)) ⟨trivial, ?_⟩ AllReadyH.nil
    simp only [Act.put]
    refine wpAnyH_take (i := 14) (oi := { dst := some 19, op := Go.Op.indexAddr 79 (Go.Operand.tmp 8) (Go.Operand.tmp 9), type := 0, pos := _, after := #[{ on := 2, ground := Go.Ground.data }, { on := 3, ground := Go.Ground.data }, { on := 0, ground := Go.Ground.phase }, { on := 1, ground := Go.Ground.phase }, { on := 2, ground := Go.Ground.phase }, { on := 3, ground := Go.Ground.phase }, { on := 4, ground := Go.Ground.phase }, { on := 5, ground := Go.Ground.phase }, { on := 6, ground := Go.Ground.phase }, { on := 7, ground := Go.Ground.phase }, { on := 8, ground := Go.Ground.phase }, { on := 9, ground := Go.Ground.phase }, { on := 10, ground := Go.Ground.phase }, { on := 11, ground := Go.Ground.phase }, { on := 12, ground := Go.Ground.phase }, { on := 13, ground := Go.Ground.phase }], guard := none }) (v := .pointer (some ⟨g, j, none⟩)) rfl (by kernel_rfl) (by kernel_rfl) (by kernel_rfl) (fun _ _ _ h => h) (Or.inl ⟨by rfl, fun W hW => exec_indexN u79 (.tmp 8) (.tmp 9) rfl (some ⟨g, 0, none⟩) _ _ g j j _ rfl rfl rfl F.out⟩) trivial ?_
    try simp only [Act.put, List.setIfInBounds_toArray, List.set_cons_zero, List.set_cons_succ]
    refine wpAnyH_ready (rs := [15]) (by kernel_rfl) (by simp) ?_
    refine ready_skip (o := { dst := none, op := Go.Op.store 27 (Go.Operand.tmp 19) (Go.Operand.tmp 17), type := 0, pos := _, after := #[{ on := 14, ground := Go.Ground.data }, { on := 11, ground := Go.Ground.data }, { on := 13, ground := Go.Ground.chain }, { on := 0, ground := Go.Ground.phase }, { on := 1, ground := Go.Ground.phase }, { on := 2, ground := Go.Ground.phase }, { on := 3, ground := Go.Ground.phase }, { on := 4, ground := Go.Ground.phase }, { on := 5, ground := Go.Ground.phase }, { on := 6, ground := Go.Ground.phase }, { on := 7, ground := Go.Ground.phase }, { on := 8, ground := Go.Ground.phase }, { on := 9, ground := Go.Ground.phase }, { on := 10, ground := Go.Ground.phase }, { on := 11, ground := Go.Ground.phase }, { on := 12, ground := Go.Ground.phase }, { on := 13, ground := Go.Ground.phase }], guard := none }) rfl rfl _ (exec_store_num (.tmp 19) (.tmp 17) rfl g j _ _ rfl rfl (H1.out.cell HJ1.out) (H1.out.fz j)) ⟨trivial, ?_⟩ AllReadyH.nil
    simp only [Act.put]
    refine wpAnyH_done (by kernel_rfl) ?_ _
    refine NoPanic.normal ?_
    go_wp2_with fail
    go_end0
    exact ⟨rfl, hm.out ▸ H2.out, O2.out⟩
  refine ready_val (o := { dst := some 17, op := Go.Op.load 27 (Go.Operand.tmp 16), type := 27, pos := _, after := #[{ on := 10, ground := Go.Ground.data }], guard := none }) rfl rfl (.int .u64 (l.getD i 0)) _ (exec_load_num (.tmp 16) rfl g i _ rfl (H0.out.cell HI.out)) ⟨trivial, ?_⟩ AllReadyH.nil
  try simp only [Act.put, List.setIfInBounds_toArray, List.set_cons_zero, List.set_cons_succ]
  refine wpAnyH_ready (rs := [7]) (by kernel_rfl) (by simp) ?_
  refine ready_val (o := { dst := some 13, op := Go.Op.load 27 (Go.Operand.tmp 12), type := 27, pos := _, after := #[{ on := 6, ground := Go.Ground.data }], guard := none }) rfl rfl (.int .u64 (l.getD j 0)) _ (exec_load_num (.tmp 12) rfl g j _ rfl (H0.out.cell HJ.out)) ⟨trivial, ?_⟩ AllReadyH.nil
  try simp only [Act.put, List.setIfInBounds_toArray, List.set_cons_zero, List.set_cons_succ]
  refine wpAnyH_take (i := 12) (oi := { dst := some 18, op := Go.Op.indexAddr 79 (Go.Operand.tmp 6) (Go.Operand.tmp 7), type := 0, pos := _, after := #[{ on := 0, ground := Go.Ground.data }, { on := 1, ground := Go.Ground.data }, { on := 0, ground := Go.Ground.phase }, { on := 1, ground := Go.Ground.phase }, { on := 2, ground := Go.Ground.textOnly Go.Departure.lateStores }, { on := 3, ground := Go.Ground.textOnly Go.Departure.lateStores }, { on := 4, ground := Go.Ground.phase }, { on := 5, ground := Go.Ground.phase }, { on := 6, ground := Go.Ground.phase }, { on := 7, ground := Go.Ground.phase }, { on := 8, ground := Go.Ground.textOnly Go.Departure.lateStores }, { on := 9, ground := Go.Ground.textOnly Go.Departure.lateStores }, { on := 10, ground := Go.Ground.textOnly Go.Departure.lateStoresUnsure }, { on := 11, ground := Go.Ground.phase }], guard := none }) (v := .pointer (some ⟨g, i, none⟩)) rfl (by kernel_rfl) (by kernel_rfl) (by kernel_rfl) (fun _ _ _ h => h) (Or.inl ⟨by rfl, fun W hW => exec_indexN u79 (.tmp 6) (.tmp 7) rfl (some ⟨g, 0, none⟩) _ _ g i i _ rfl rfl rfl E.out⟩) trivial ?_
  try simp only [Act.put, List.setIfInBounds_toArray, List.set_cons_zero, List.set_cons_succ]
  refine wpAnyH_ready (rs := [13]) (by kernel_rfl) (by simp) ?_
  refine ready_skip (o := { dst := none, op := Go.Op.store 27 (Go.Operand.tmp 18) (Go.Operand.tmp 13), type := 0, pos := _, after := #[{ on := 12, ground := Go.Ground.data }, { on := 7, ground := Go.Ground.data }, { on := 0, ground := Go.Ground.phase }, { on := 1, ground := Go.Ground.phase }, { on := 2, ground := Go.Ground.textOnly Go.Departure.lateStores }, { on := 3, ground := Go.Ground.textOnly Go.Departure.lateStores }, { on := 4, ground := Go.Ground.phase }, { on := 5, ground := Go.Ground.phase }, { on := 6, ground := Go.Ground.phase }, { on := 7, ground := Go.Ground.phase }, { on := 8, ground := Go.Ground.textOnly Go.Departure.lateStores }, { on := 9, ground := Go.Ground.textOnly Go.Departure.lateStores }, { on := 10, ground := Go.Ground.textOnly Go.Departure.lateStoresUnsure }, { on := 11, ground := Go.Ground.phase }], guard := none }) rfl rfl _ (exec_store_num (.tmp 18) (.tmp 13) rfl g i _ _ rfl rfl (H0.out.cell HI.out) (H0.out.fz i)) ⟨trivial, ?_⟩ AllReadyH.nil
  simp only [Act.put]
  refine wpAnyH_take (i := 14) (oi := { dst := some 19, op := Go.Op.indexAddr 79 (Go.Operand.tmp 8) (Go.Operand.tmp 9), type := 0, pos := _, after := #[{ on := 2, ground := Go.Ground.data }, { on := 3, ground := Go.Ground.data }, { on := 0, ground := Go.Ground.phase }, { on := 1, ground := Go.Ground.phase }, { on := 2, ground := Go.Ground.phase }, { on := 3, ground := Go.Ground.phase }, { on := 4, ground := Go.Ground.phase }, { on := 5, ground := Go.Ground.phase }, { on := 6, ground := Go.Ground.phase }, { on := 7, ground := Go.Ground.phase }, { on := 8, ground := Go.Ground.phase }, { on := 9, ground := Go.Ground.phase }, { on := 10, ground := Go.Ground.phase }, { on := 11, ground := Go.Ground.phase }, { on := 12, ground := Go.Ground.phase }, { on := 13, ground := Go.Ground.phase }], guard := none }) (v := .pointer (some ⟨g, j, none⟩)) rfl (by kernel_rfl) (by kernel_rfl) (by kernel_rfl) (fun _ _ _ h => h) (Or.inl ⟨by rfl, fun W hW => exec_indexN u79 (.tmp 8) (.tmp 9) rfl (some ⟨g, 0, none⟩) _ _ g j j _ rfl rfl rfl F.out⟩) trivial ?_
  try simp only [Act.put, List.setIfInBounds_toArray, List.set_cons_zero, List.set_cons_succ]
  refine wpAnyH_ready (rs := [15]) (by kernel_rfl) (by simp) ?_
  refine ready_skip (o := { dst := none, op := Go.Op.store 27 (Go.Operand.tmp 19) (Go.Operand.tmp 17), type := 0, pos := _, after := #[{ on := 14, ground := Go.Ground.data }, { on := 11, ground := Go.Ground.data }, { on := 13, ground := Go.Ground.chain }, { on := 0, ground := Go.Ground.phase }, { on := 1, ground := Go.Ground.phase }, { on := 2, ground := Go.Ground.phase }, { on := 3, ground := Go.Ground.phase }, { on := 4, ground := Go.Ground.phase }, { on := 5, ground := Go.Ground.phase }, { on := 6, ground := Go.Ground.phase }, { on := 7, ground := Go.Ground.phase }, { on := 8, ground := Go.Ground.phase }, { on := 9, ground := Go.Ground.phase }, { on := 10, ground := Go.Ground.phase }, { on := 11, ground := Go.Ground.phase }, { on := 12, ground := Go.Ground.phase }, { on := 13, ground := Go.Ground.phase }], guard := none }) rfl rfl _ (exec_store_num (.tmp 19) (.tmp 17) rfl g j _ _ rfl rfl (H1.out.cell HJ1.out) (H1.out.fz j)) ⟨trivial, ?_⟩ AllReadyH.nil
  simp only [Act.put]
  refine wpAnyH_done (by kernel_rfl) ?_ _
  refine NoPanic.normal ?_
  go_wp2_with fail
  go_end0
  exact ⟨rfl, hm.out ▸ H2.out, O2.out⟩
/-- The queue lies in block B, its numbers in a row of its own. -/
structure QV (w : World) (b B : Nat) (A : Option Addr) (cap : Nat) (l : List Int) : Prop where
  blk : Blk w B 79 [.slice A l.length cap]
  own : OwnN w b (.slice A l.length cap) l
  off : ∀ k, (Value.slice A l.length cap).ownBlock = some k → k ≠ B
/-- Of the blocks that were there, that of the queue and that of its row alone may have turned. -/
structure Fr (B : Nat) (v : Value) (w w' : World) : Prop where
  os : w'.os = w.os
  tape : w'.tape = w.tape
  output : w'.output = w.output
  size : w.heap.size ≤ w'.heap.size
  block : ∀ k, k < w.heap.size → k ≠ B → v.ownBlock ≠ some k → w'.heap[k]? = w.heap[k]?
theorem Fr.below {b B : Nat} {v : Value} {w w' : World} (h : Fr B v w w') (hB : b ≤ B) (hv : ∀ k, v.ownBlock = some k → b ≤ k) (hs : b ≤ w.heap.size) : Below b w w' :=
  ⟨h.os, h.tape, h.output, h.size, fun k hk => h.block k (by omega) (by omega) (fun e => by have := hv k e; omega)⟩
theorem Fr.of_only {B g : Nat} {v : Value} {w w' : World} (h : Only g w w') (hv : v.ownBlock = some g) : Fr B v w w' :=
  ⟨h.os, h.tape, h.output, h.size, fun k hk _ hn => h.block k hk (fun e => hn (by rw [hv, e]))⟩
theorem Fr.trans {B : Nat} {v v' : Value} {a b c : World} (h : Fr B v a b) (k : Fr B v' b c) (hv : ∀ g, v'.ownBlock = some g → v.ownBlock = some g ∨ a.heap.size ≤ g) : Fr B v a c :=
  ⟨k.os.trans h.os, k.tape.trans h.tape, k.output.trans h.output, Nat.le_trans h.size k.size, fun i hi hn hw => (k.block i (Nat.lt_of_lt_of_le hi h.size) hn (fun e => by
    rcases hv i e with e2 | e2
    · exact hw e2
    · omega)).trans (h.block i hi hn hw)⟩
theorem QV.only {w w' : World} {b B g cap : Nat} {l m : List Int} (h : QV w b B (some ⟨g, 0, none⟩) cap l) (ho : Only g w w') (hm : OwnN w' b (.slice (some ⟨g, 0, none⟩) m.length cap) m) (hl : m.length = l.length) : QV w' b B (some ⟨g, 0, none⟩) cap m := by
  have hn := h.off g rfl
  refine ⟨?_, hm, fun k hk => h.off k (by simpa [Value.ownBlock] using hk)⟩
  rw [hl]; exact h.blk.only ho (fun e => hn e.symm)
theorem exec_store_q {o : Oper} {a : Act} {w : World} (x y : Operand) (ho : o.op = .store 79 x y) (B : Nat) (u : Value) (A : Option Addr) (n cap : Nat) (hx : a.eval x = .pointer (some ⟨B, 0, none⟩)) (hy : a.eval y = .slice A n cap) (hb : Blk w B 79 [u]) :
    (execOp a.eval o).run Try.prog w = .ok .skip (w.setCell ⟨B, 0, none⟩ (.slice A n cap)) := by
  have hc := hb.cell (i := 0) rfl
  have hf := hb.frozen 0
  unfold execOp
  simp only [ho, hx, hy]
  simp [go_sem, hc, hf]
theorem wpList_store_q {ops : Array Oper} {rest : List Oper} {op : Oper} {a : Act} {w : World} {Q : Exit → Act → World → Prop} (hgd : op.guard = none) (x y : Operand) (ho : op.op = .store 79 x y) (B : Nat) (u : Value) (A : Option Addr) (n cap : Nat) (hx : a.eval x = .pointer (some ⟨B, 0, none⟩)) (hy : a.eval y = .slice A n cap) (hb : Blk w B 79 [u])
    (h : ∀ w', Hid (Blk w' B 79 [.slice A n cap]) → Hid (Only B w w') → wpList Try.prog ops Q rest (a.put op.dst undef) w') : wpList Try.prog ops Q (op :: rest) a w := by
  refine wpList_plain hgd fun K hK => ?_
  unfold Oper.wp
  rw [exec_store_q x y ho B u A n cap hx hy hb]
  exact hK _ _ (h _ (Lib.hid (hb.set 0 _)) (Lib.hid (Only.set B 0 w _)))
theorem exec_load_q {o : Oper} {a : Act} {w : World} (x : Operand) (ho : o.op = .load 79 x) (B : Nat) (v : Value) (hx : a.eval x = .pointer (some ⟨B, 0, none⟩)) (hb : Blk w B 79 [v]) :
    (execOp a.eval o).run Try.prog w = .ok (.value v) w := by
  have hc := hb.cell (i := 0) rfl
  unfold execOp
  simp only [ho, hx]
  simp [go_sem, hc]
theorem run_assert_num (x : Int) (w : World) : (Instr.typeAssert (.iface 27 (.int .u64 x)) 20 27 false).run Try.prog w = .ok (.int .u64 x) w := by kernel_rfl
theorem exec_assert_num {o : Oper} {a : Act} {w : World} (y : Operand) (ho : o.op = .typeAssert y 20 27 false) (x : Int) (hy : a.eval y = .iface 27 (.int .u64 x)) : (execOp a.eval o).run Try.prog w = .ok (.value (.int .u64 x)) w := by
  unfold execOp
  simp only [ho, hy, Sem.run_bind, run_assert_num, Result.andThen_ok, Sem.run_pure]
set_option maxRecDepth 100000 in
theorem qpush_is (b B : Nat) (A : Option Addr) (cap : Nat) (l : List Int) (x : Int) (w : World) (h : QV w b B A cap l) (hx : 0 ≤ x ∧ x < 18446744073709551616) (hn : l.length ≤ 5000) (hb : b ≤ w.heap.size) :
    Calls Try.prog 69 #[.pointer (some ⟨B, 0, none⟩), .iface 27 (.int .u64 x)] w fun e w' => e = .returned (.tuple #[]) ∧ (∃ g c, QV w' b B (some ⟨g, 0, none⟩) c (l ++ [x]) ∧ ((Value.slice A l.length cap).ownBlock = some g ∨ w.heap.size ≤ g)) ∧ Fr B (.slice A l.length cap) w w' := by
  have HQ := Lib.hid h
  have HX := Lib.hid hx
  have HB := Lib.hid hb
  have q0 := Lib.hid (show Blk w.drew B 79 [.slice A l.length cap] from h.blk)
  have o0 := Lib.hid h.own.drew
  have n1 := Lib.hid (own_num1 w.drew x hx w.drew.heap.size (Nat.le_refl _)).at_
  have b1 := Lib.hid (new_below w.drew (.cells #[.int .u64 x] 27))
  have q1 := Lib.hid (q0.out.below b1.out)
  have o1 := Lib.hid (o0.out.below b1.out)
  obtain ⟨v', w3, he, h1, h2, h3, h4⟩ := run_app_nums (w.drew.alloc (.cells #[.int .u64 x] 27)) u79 79 b _ _ l [x] o1.out n1.out (by simp; omega) (Nat.le_trans hb (by simp))
  obtain ⟨E, c, e⟩ := h1.shape
  subst e
  rw [List.length_append, List.length_singleton] at he h1 h4
  obtain ⟨g, rfl⟩ : ∃ g, E = some ⟨g, 0, none⟩ := by
    rcases h1.row.2 with ⟨_, e⟩ | ⟨g, _, _, e, _⟩
    · simp at e
    · simp only [Value.slice.injEq] at e; exact ⟨g, e.1⟩
  have HE := Lib.hid he
  have H1 := Lib.hid h1
  have q3 : Blk w3 B 79 [.slice A l.length cap] := (h2.block B q1.out.lt (fun e => h.off B e.symm rfl)).trans q1.out
  have hBg : g ≠ B := by
    intro e
    subst e
    rcases h4 with e | e
    · exact h.off g (by rw [← e]; rfl) rfl
    · have := h.blk.lt
      have e2 : g = (w.drew.alloc (.cells #[.int .u64 x] 27)).heap.size := by simpa [Value.ownBlock] using e
      simp at e2; omega
  have q4 := q3.set 0 (.slice (some ⟨g, 0, none⟩) (l.length + 1) c)
  have F := Lib.hid (show QV (w3.setCell ⟨B, 0, none⟩ (.slice (some ⟨g, 0, none⟩) (l.length + 1) c)) b B (some ⟨g, 0, none⟩) c (l ++ [x]) from by
    refine ⟨by rw [List.length_append, List.length_singleton]; exact q4, ?_, fun k hk => ?_⟩
    · rw [List.length_append, List.length_singleton]
      exact h1.only (Only.set B 0 w3 _) (fun k hk => by
        have e : g = k := by simpa [Value.ownBlock] using hk
        rw [← e]; exact hBg)
    · have e : g = k := by simpa [Value.ownBlock] using hk
      rw [← e]; exact hBg)
  have NB := Lib.hid (show (Value.slice A l.length cap).ownBlock = some g ∨ w.heap.size ≤ g from by
    rcases h4 with e | e
    · left; rw [← e]; rfl
    · right
      have e2 : g = (w.drew.alloc (.cells #[.int .u64 x] 27)).heap.size := by simpa [Value.ownBlock] using e
      simp at e2; omega)
  have FF := Lib.hid (show Fr B (.slice A l.length cap) w (w3.setCell ⟨B, 0, none⟩ (.slice (some ⟨g, 0, none⟩) (l.length + 1) c)) from by
    have s1 := b1.out.size
    have s2 := h2.size
    refine ⟨h2.os.trans b1.out.os, h2.tape.trans b1.out.tape, h2.output.trans b1.out.output, ?_, fun k hk hn2 hv => ?_⟩
    · simp at s1 s2 ⊢; omega
    · have e1 := Below.heap_setCell w3 ⟨B, 0, none⟩ (.slice (some ⟨g, 0, none⟩) (l.length + 1) c) k hn2
      have e2 := h2.block k (Nat.lt_of_lt_of_le hk s1) (fun e => hv e.symm)
      have e3 := b1.out.block k hk
      exact e1.trans (e2.trans e3))
  have Q3 := Lib.hid q3
  clear h hx hb he h1 h2 h3 h4 q3 q4 hBg
  go_enter Try.func69, Try.ntmps69
  go_wp2_with fail
  refine wp_region_noPanic ?_
  refine wp_region_held_drew (S := fun _ => True) (by kernel_rfl) trivial (fun _ => ?_)
  refine wpAnyH_take (i := 0) (oi := { dst := some 4, op := Go.Op.move (Go.Operand.tmp 0), type := 64, pos := _, after := #[], guard := none }) (v := ?_) rfl (by kernel_rfl) (by kernel_rfl) (by kernel_rfl) (fun _ _ _ h => h) (Or.inl ⟨by rfl, ?_⟩) trivial ?_
  rotate_left
  · intro W hW; (go_simp; try with_reducible rfl)
  try simp only [Act.put, List.setIfInBounds_toArray, List.set_cons_zero, List.set_cons_succ]
  refine wpAnyH_take (i := 1) (oi := { dst := some 5, op := Go.Op.move (Go.Operand.tmp 0), type := 64, pos := _, after := #[], guard := none }) (v := ?_) rfl (by kernel_rfl) (by kernel_rfl) (by kernel_rfl) (fun _ _ _ h => h) (Or.inl ⟨by rfl, ?_⟩) trivial ?_
  rotate_left
  · intro W hW; (go_simp; try with_reducible rfl)
  try simp only [Act.put, List.setIfInBounds_toArray, List.set_cons_zero, List.set_cons_succ]
  refine wpAnyH_take (i := 4) (oi := { dst := some 8, op := Go.Op.move (Go.Operand.tmp 1), type := 20, pos := _, after := #[], guard := none }) (v := ?_) rfl (by kernel_rfl) (by kernel_rfl) (by kernel_rfl) (fun _ _ _ h => h) (Or.inl ⟨by rfl, ?_⟩) trivial ?_
  rotate_left
  · intro W hW; (go_simp; try with_reducible rfl)
  try simp only [Act.put, List.setIfInBounds_toArray, List.set_cons_zero, List.set_cons_succ]
  refine wpAnyH_take (i := 2) (oi := { dst := some 6, op := Go.Op.nilCheck (Go.Operand.tmp 5), type := 0, pos := _, after := #[{ on := 1, ground := Go.Ground.data }], guard := none }) (v := ?_) rfl (by kernel_rfl) (by kernel_rfl) (by kernel_rfl) (fun _ _ _ h => h) (Or.inl ⟨by rfl, ?_⟩) trivial ?_
  rotate_left
  · intro W hW; (go_simp; try with_reducible rfl)
  try simp only [Act.put, List.setIfInBounds_toArray, List.set_cons_zero, List.set_cons_succ]
  refine wpAnyH_take (i := 5) (oi := { dst := some 9, op := Go.Op.typeAssert (Go.Operand.tmp 8) 20 27 false, type := 27, pos := _, after := #[{ on := 4, ground := Go.Ground.data }], guard := none }) (v := .int .u64 x) rfl (by kernel_rfl) (by kernel_rfl) (by kernel_rfl) (fun _ _ _ h => h) (Or.inl ⟨by rfl, fun W hW => exec_assert_num (.tmp 8) rfl x rfl⟩) trivial ?_
  try simp only [Act.put, List.setIfInBounds_toArray, List.set_cons_zero, List.set_cons_succ]
  refine wpAnyH_ready (rs := [3, 6]) (by kernel_rfl) (by simp) ?_
  refine ready_val (o := { dst := some 7, op := Go.Op.load 79 (Go.Operand.tmp 6), type := 79, pos := _, after := #[{ on := 2, ground := Go.Ground.data }], guard := none }) rfl rfl _ _ (exec_load_q (.tmp 6) rfl B _ rfl q0.out) ⟨trivial, ?_⟩ ?_
  · try simp only [Act.put, List.setIfInBounds_toArray, List.set_cons_zero, List.set_cons_succ]
    refine wpAnyH_ready (rs := [6]) (by kernel_rfl) (by simp) ?_
    refine ready_val (o := { dst := some 10, op := Go.Op.buildSlice 79 1 #[(0, Go.Operand.tmp 9)], type := 79, pos := _, after := #[{ on := 5, ground := Go.Ground.data }], guard := none }) rfl rfl _ _ (exec_num1 u79 (.tmp 9) rfl x rfl) ⟨trivial, ?_⟩ AllReadyH.nil
    try simp only [Act.put, List.setIfInBounds_toArray, List.set_cons_zero, List.set_cons_succ]
    refine wpAnyH_ready (rs := [7]) (by kernel_rfl) (by simp) ?_
    refine ready_val (o := { dst := some 11, op := Go.Op.call { callee := Go.Callee.builtin Go.Builtin.append, args := #[Go.Operand.tmp 7, Go.Operand.tmp 10], argTypes := #[79, 79] }, type := 79, pos := _, after := #[{ on := 3, ground := Go.Ground.data }, { on := 6, ground := Go.Ground.data }], guard := none }) rfl rfl _ _ (exec_app (.tmp 7) (.tmp 10) rfl _ _ _ rfl rfl HE.out) ⟨trivial, ?_⟩ AllReadyH.nil
    try simp only [Act.put, List.setIfInBounds_toArray, List.set_cons_zero, List.set_cons_succ]
    refine wpAnyH_take (i := 8) (oi := { dst := some 12, op := Go.Op.nilCheck (Go.Operand.tmp 4), type := 0, pos := _, after := #[{ on := 0, ground := Go.Ground.data }, { on := 0, ground := Go.Ground.phase }, { on := 1, ground := Go.Ground.phase }, { on := 2, ground := Go.Ground.phase }, { on := 3, ground := Go.Ground.phase }, { on := 4, ground := Go.Ground.phase }, { on := 5, ground := Go.Ground.phase }, { on := 6, ground := Go.Ground.phase }, { on := 7, ground := Go.Ground.phase }], guard := none }) (v := ?_) rfl (by kernel_rfl) (by kernel_rfl) (by kernel_rfl) (fun _ _ _ h => h) (Or.inl ⟨by rfl, ?_⟩) trivial ?_
    rotate_left
    · intro W hW; (go_simp; try with_reducible rfl)
    try simp only [Act.put, List.setIfInBounds_toArray, List.set_cons_zero, List.set_cons_succ]
    refine wpAnyH_ready (rs := [9]) (by kernel_rfl) (by simp) ?_
    refine ready_skip (o := { dst := none, op := Go.Op.store 79 (Go.Operand.tmp 12) (Go.Operand.tmp 11), type := 0, pos := _, after := #[{ on := 8, ground := Go.Ground.data }, { on := 7, ground := Go.Ground.data }, { on := 7, ground := Go.Ground.chain }, { on := 0, ground := Go.Ground.phase }, { on := 1, ground := Go.Ground.phase }, { on := 2, ground := Go.Ground.phase }, { on := 3, ground := Go.Ground.phase }, { on := 4, ground := Go.Ground.phase }, { on := 5, ground := Go.Ground.phase }, { on := 6, ground := Go.Ground.phase }, { on := 7, ground := Go.Ground.phase }], guard := none }) rfl rfl _ (exec_store_q (.tmp 12) (.tmp 11) rfl B _ _ _ _ rfl rfl Q3.out) ⟨trivial, ?_⟩ AllReadyH.nil
    simp only [Act.put]
    refine wpAnyH_done (by kernel_rfl) ?_ _
    refine NoPanic.normal ?_
    go_wp2_with fail
    go_end0
    exact ⟨rfl, ⟨g, c, F.out, NB.out⟩, FF.out⟩
  refine ready_val (o := { dst := some 10, op := Go.Op.buildSlice 79 1 #[(0, Go.Operand.tmp 9)], type := 79, pos := _, after := #[{ on := 5, ground := Go.Ground.data }], guard := none }) rfl rfl _ _ (exec_num1 u79 (.tmp 9) rfl x rfl) ⟨trivial, ?_⟩ AllReadyH.nil
  try simp only [Act.put, List.setIfInBounds_toArray, List.set_cons_zero, List.set_cons_succ]
  refine wpAnyH_ready (rs := [3]) (by kernel_rfl) (by simp) ?_
  refine ready_val (o := { dst := some 7, op := Go.Op.load 79 (Go.Operand.tmp 6), type := 79, pos := _, after := #[{ on := 2, ground := Go.Ground.data }], guard := none }) rfl rfl _ _ (exec_load_q (.tmp 6) rfl B _ rfl q1.out) ⟨trivial, ?_⟩ AllReadyH.nil
  try simp only [Act.put, List.setIfInBounds_toArray, List.set_cons_zero, List.set_cons_succ]
  refine wpAnyH_ready (rs := [7]) (by kernel_rfl) (by simp) ?_
  refine ready_val (o := { dst := some 11, op := Go.Op.call { callee := Go.Callee.builtin Go.Builtin.append, args := #[Go.Operand.tmp 7, Go.Operand.tmp 10], argTypes := #[79, 79] }, type := 79, pos := _, after := #[{ on := 3, ground := Go.Ground.data }, { on := 6, ground := Go.Ground.data }], guard := none }) rfl rfl _ _ (exec_app (.tmp 7) (.tmp 10) rfl _ _ _ rfl rfl HE.out) ⟨trivial, ?_⟩ AllReadyH.nil
  try simp only [Act.put, List.setIfInBounds_toArray, List.set_cons_zero, List.set_cons_succ]
  refine wpAnyH_take (i := 8) (oi := { dst := some 12, op := Go.Op.nilCheck (Go.Operand.tmp 4), type := 0, pos := _, after := #[{ on := 0, ground := Go.Ground.data }, { on := 0, ground := Go.Ground.phase }, { on := 1, ground := Go.Ground.phase }, { on := 2, ground := Go.Ground.phase }, { on := 3, ground := Go.Ground.phase }, { on := 4, ground := Go.Ground.phase }, { on := 5, ground := Go.Ground.phase }, { on := 6, ground := Go.Ground.phase }, { on := 7, ground := Go.Ground.phase }], guard := none }) (v := ?_) rfl (by kernel_rfl) (by kernel_rfl) (by kernel_rfl) (fun _ _ _ h => h) (Or.inl ⟨by rfl, ?_⟩) trivial ?_
  rotate_left
  · intro W hW; (go_simp; try with_reducible rfl)
  try simp only [Act.put, List.setIfInBounds_toArray, List.set_cons_zero, List.set_cons_succ]
  refine wpAnyH_ready (rs := [9]) (by kernel_rfl) (by simp) ?_
  refine ready_skip (o := { dst := none, op := Go.Op.store 79 (Go.Operand.tmp 12) (Go.Operand.tmp 11), type := 0, pos := _, after := #[{ on := 8, ground := Go.Ground.data }, { on := 7, ground := Go.Ground.data }, { on := 7, ground := Go.Ground.chain }, { on := 0, ground := Go.Ground.phase }, { on := 1, ground := Go.Ground.phase }, { on := 2, ground := Go.Ground.phase }, { on := 3, ground := Go.Ground.phase }, { on := 4, ground := Go.Ground.phase }, { on := 5, ground := Go.Ground.phase }, { on := 6, ground := Go.Ground.phase }, { on := 7, ground := Go.Ground.phase }], guard := none }) rfl rfl _ (exec_store_q (.tmp 12) (.tmp 11) rfl B _ _ _ _ rfl rfl Q3.out) ⟨trivial, ?_⟩ AllReadyH.nil
  simp only [Act.put]
  refine wpAnyH_done (by kernel_rfl) ?_ _
  refine NoPanic.normal ?_
  go_wp2_with fail
  go_end0
  exact ⟨rfl, ⟨g, c, F.out, NB.out⟩, FF.out⟩
theorem qlen_is (A : Option Addr) (n cap : Nat) (w : World) : Calls Try.prog 37 #[.slice A n cap] w fun e w' => e = .returned (.int .i64 n) ∧ w = w' := by
  go_enter Try.func37, Try.ntmps37
  go_wp2
  go_ret
  exact ⟨rfl, rfl⟩
theorem qpop_is (b B g cap : Nat) (l : List Int) (n : Nat) (x : Int) (w : World) (h : QV w b B (some ⟨g, 0, none⟩) cap l) (hn : l.length = n + 1) (hm : n ≤ 5000) (hx : Hid (l.getD n 0 = x)) :
    Calls Try.prog 68 #[.pointer (some ⟨B, 0, none⟩)] w fun e w' => e = .returned (.iface 27 (.int .u64 x)) ∧ QV w' b B (some ⟨g, 0, none⟩) cap (l.take n) ∧ Only B w w' := by
  have c0 := h.blk.cell (i := 0) rfl
  have hf := h.blk.frozen 0
  rw [hn] at c0
  have c1 := h.own.cell (i := n) (by omega)
  rw [hx.out] at c1
  have hcap : n ≤ cap := by
    rcases h.own.row.2 with ⟨e, _⟩ | ⟨g', cap', cur, e, _, _, hk, _⟩
    · simp at e
    · simp only [Value.slice.injEq] at e; omega
  have E := Lib.hid (show NElem (some ⟨g, 0, none⟩) (n + 1) g n n from ⟨⟨0, rfl, by omega⟩, by omega⟩)
  have hl : (l.take n).length = n := by rw [List.length_take]; omega
  have HB := Lib.hid h.blk
  have HO := Lib.hid (h.own.cut n (by omega))
  have HN := Lib.hid (show ∀ k, (Value.slice (some ⟨g, 0, none⟩) n cap).ownBlock = some k → k ≠ B from fun k hk => h.off k (by simpa [Value.ownBlock] using hk))
  clear h hx
  go_enter Try.func68, Try.ntmps68
  go_wp2_with (first
    | refine wpList_sub1 rfl _ rfl _ n rfl (by push_cast; rfl) (by omega) ?_
    | refine wpList_indexN u79 rfl _ _ rfl _ _ _ g n n _ rfl rfl rfl E.out ?_
    | refine wpList_cutN u79 rfl _ _ rfl .i64 g _ cap n rfl rfl hcap ?_
    | (refine wpList_store_q rfl _ _ rfl B _ _ _ _ rfl rfl HB.out ?_; intro w2 hb2 ho2))
  go_ret
  refine ⟨rfl, ⟨by rw [hl]; exact hb2.out, ?_, by rw [hl]; exact HN.out⟩, ho2.out⟩
  rw [hl]
  exact HO.out.only ho2.out HN.out
end Go.Proofs.Ytpgafijeecmgmaa
