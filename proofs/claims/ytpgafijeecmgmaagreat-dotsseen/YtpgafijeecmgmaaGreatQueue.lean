/- The queue of dots: its methods, and container/heap at it. Written by wip/tools/queue_r13.py. container/heap at the queue of dots: up, down, Push, Pop. The contracts of Grow of package slices at the nil slice, and of Concat at two slices of numbers. -/
import Derived.Test.YtpgafijeecmgmaaGreatNums
namespace Go.Proofs.YtpgafijeecmgmaaGreat
open Go.RowKit

theorem u79 : Tryz.prog.underlying 89 = some (.slice 40) := by kernel_rfl
theorem u24n : Tryz.prog.underlying 27 = some (.slice 40) := by kernel_rfl
theorem qload (w : World) (B : Nat) (v : Value) (h : w.cell? ⟨B, 0, none⟩ = some v) : (loadVar 89 ⟨B, 0, none⟩).run Tryz.prog w = .ok v w := by
  simp [loadVar, go_sem, h]
theorem meth_len (w : World) (B : Nat) (v : Value) (h : w.cell? ⟨B, 0, none⟩ = some v) : (method 270 75 (.pointer (some ⟨B, 0, none⟩)) "Len").run Tryz.prog w = .ok (35, v) w := by
  have e : (method 270 75 (.pointer (some ⟨B, 0, none⟩)) "Len").run Tryz.prog w = (loadVar 89 ⟨B, 0, none⟩ >>= fun v => pure (35, v) : Sem (FuncId × Value)).run Tryz.prog w := by kernel_rfl
  rw [e]; simp only [Sem.run_bind, qload w B v h, Result.andThen_ok, Sem.run_pure]
theorem meth_less (w : World) (B : Nat) (v : Value) (h : w.cell? ⟨B, 0, none⟩ = some v) : (method 270 75 (.pointer (some ⟨B, 0, none⟩)) "Less").run Tryz.prog w = .ok (132, v) w := by
  have e : (method 270 75 (.pointer (some ⟨B, 0, none⟩)) "Less").run Tryz.prog w = (loadVar 89 ⟨B, 0, none⟩ >>= fun v => pure (132, v) : Sem (FuncId × Value)).run Tryz.prog w := by kernel_rfl
  rw [e]; simp only [Sem.run_bind, qload w B v h, Result.andThen_ok, Sem.run_pure]
theorem meth_swap (w : World) (B : Nat) (v : Value) (h : w.cell? ⟨B, 0, none⟩ = some v) : (method 270 75 (.pointer (some ⟨B, 0, none⟩)) "Swap").run Tryz.prog w = .ok (135, v) w := by
  have e : (method 270 75 (.pointer (some ⟨B, 0, none⟩)) "Swap").run Tryz.prog w = (loadVar 89 ⟨B, 0, none⟩ >>= fun v => pure (135, v) : Sem (FuncId × Value)).run Tryz.prog w := by kernel_rfl
  rw [e]; simp only [Sem.run_bind, qload w B v h, Result.andThen_ok, Sem.run_pure]
theorem meth_push (w : World) (B : Nat) : (method 270 75 (.pointer (some ⟨B, 0, none⟩)) "Push").run Tryz.prog w = .ok (134, .pointer (some ⟨B, 0, none⟩)) w := by kernel_rfl
theorem meth_pop (w : World) (B : Nat) : (method 270 75 (.pointer (some ⟨B, 0, none⟩)) "Pop").run Tryz.prog w = .ok (133, .pointer (some ⟨B, 0, none⟩)) w := by kernel_rfl
theorem nil_len (w : World) (B : Nat) : (nilAhead 270 75 (.pointer (some ⟨B, 0, none⟩)) "Len").run Tryz.prog w = .ok (some false) w := by kernel_rfl
theorem nil_less (w : World) (B : Nat) : (nilAhead 270 75 (.pointer (some ⟨B, 0, none⟩)) "Less").run Tryz.prog w = .ok (some false) w := by kernel_rfl
theorem nil_swap (w : World) (B : Nat) : (nilAhead 270 75 (.pointer (some ⟨B, 0, none⟩)) "Swap").run Tryz.prog w = .ok (some false) w := by kernel_rfl
theorem nil_push (w : World) (B : Nat) : (nilAhead 270 75 (.pointer (some ⟨B, 0, none⟩)) "Push").run Tryz.prog w = .ok (some false) w := by kernel_rfl
theorem nil_pop (w : World) (B : Nat) : (nilAhead 270 75 (.pointer (some ⟨B, 0, none⟩)) "Pop").run Tryz.prog w = .ok (some false) w := by kernel_rfl
set_option maxRecDepth 100000 in
theorem qless_is (A : Option Addr) (cap : Nat) (l : List Int) (i j : Nat) (b : Bool) (w : World) (h : NumsAt w (.slice A l.length cap) l) (hi : i < l.length) (hj : j < l.length) (hb : Hid (decide (l.getD i 0 < l.getD j 0) = b)) :
    Calls Tryz.prog 132 #[.slice A l.length cap, .int .i64 i, .int .i64 j] w fun e w' => e = .returned (.bool b) ∧ Below w.heap.size w w' := by
  obtain ⟨G, p, hE, hc, hG⟩ := h.elem i hi
  obtain ⟨G2, p2, hF, hc2, hG2⟩ := h.elem j hj
  have E := Lib.hid hE
  have F := Lib.hid hF
  obtain ⟨x, hx⟩ : ∃ x, l.getD i 0 = x := ⟨_, rfl⟩
  obtain ⟨y, hy⟩ : ∃ y, l.getD j 0 = y := ⟨_, rfl⟩
  rw [hx] at hc hb
  rw [hy] at hc2 hb
  have C1 := Lib.hid hc
  have C2 := Lib.hid hc2
  have BL := Lib.hid hG
  have BL2 := Lib.hid hG2
  clear hE hF hc hc2 hG hG2 h hi hj hx hy
  go_enter Tryz.func132, Tryz.ntmps132
  go_wp2_with fail
  have S1 := Lib.hid (show Below w.heap.size w w.drew from below_drew (Below.refl _ _))
  refine wp_region_noPanic ?_
  refine wp_region_held_drew (S := fun W => Below w.heap.size w W) (by kernel_rfl) S1.out (fun _ => ?_)
  refine wpAnyH_take (i := 0) (oi := { dst := some 7, op := Go.Op.move (Go.Operand.tmp 0), type := 89, pos := _, after := #[], guard := none }) (v := ?_) rfl (by kernel_rfl) (by kernel_rfl) (by kernel_rfl) (fun _ _ _ h => h) (Or.inl ⟨by rfl, ?_⟩) S1.out ?_
  rotate_left
  · intro W hW; (go_simp; try with_reducible rfl)
  try simp only [Act.put, List.setIfInBounds_toArray, List.set_cons_zero, List.set_cons_succ]
  refine wpAnyH_take (i := 1) (oi := { dst := some 8, op := Go.Op.move (Go.Operand.tmp 1), type := 3, pos := _, after := #[], guard := none }) (v := ?_) rfl (by kernel_rfl) (by kernel_rfl) (by kernel_rfl) (fun _ _ _ h => h) (Or.inl ⟨by rfl, ?_⟩) S1.out ?_
  rotate_left
  · intro W hW; (go_simp; try with_reducible rfl)
  try simp only [Act.put, List.setIfInBounds_toArray, List.set_cons_zero, List.set_cons_succ]
  refine wpAnyH_take (i := 2) (oi := { dst := some 9, op := Go.Op.indexAddr 89 (Go.Operand.tmp 7) (Go.Operand.tmp 8), type := 0, pos := _, after := #[{ on := 0, ground := Go.Ground.data }, { on := 1, ground := Go.Ground.data }], guard := none }) (v := .pointer (some ⟨G, p, none⟩)) rfl (by kernel_rfl) (by kernel_rfl) (by kernel_rfl) (fun _ _ _ h => h) (Or.inl ⟨by rfl, fun W hW => exec_indexN u79 (.tmp 7) (.tmp 8) rfl A _ _ G p i _ rfl rfl rfl E.out⟩) S1.out ?_
  try simp only [Act.put, List.setIfInBounds_toArray, List.set_cons_zero, List.set_cons_succ]
  refine wpAnyH_take (i := 3) (oi := { dst := some 10, op := Go.Op.load 40 (Go.Operand.tmp 9), type := 40, pos := _, after := #[{ on := 2, ground := Go.Ground.data }], guard := none }) (v := .int .u64 x) rfl (by kernel_rfl) (by kernel_rfl) (by kernel_rfl) (fun _ _ _ h => h) (Or.inl ⟨by rfl, fun W hW => exec_load_num (.tmp 9) rfl G p x rfl ((hW.cell (p := ⟨G, p, none⟩) BL.out).trans C1.out)⟩) S1.out ?_
  try simp only [Act.put, List.setIfInBounds_toArray, List.set_cons_zero, List.set_cons_succ]
  refine wpAnyH_take (i := 4) (oi := { dst := some 11, op := Go.Op.move (Go.Operand.tmp 0), type := 89, pos := _, after := #[], guard := none }) (v := ?_) rfl (by kernel_rfl) (by kernel_rfl) (by kernel_rfl) (fun _ _ _ h => h) (Or.inl ⟨by rfl, ?_⟩) S1.out ?_
  rotate_left
  · intro W hW; (go_simp; try with_reducible rfl)
  try simp only [Act.put, List.setIfInBounds_toArray, List.set_cons_zero, List.set_cons_succ]
  refine wpAnyH_take (i := 5) (oi := { dst := some 12, op := Go.Op.move (Go.Operand.tmp 2), type := 3, pos := _, after := #[], guard := none }) (v := ?_) rfl (by kernel_rfl) (by kernel_rfl) (by kernel_rfl) (fun _ _ _ h => h) (Or.inl ⟨by rfl, ?_⟩) S1.out ?_
  rotate_left
  · intro W hW; (go_simp; try with_reducible rfl)
  try simp only [Act.put, List.setIfInBounds_toArray, List.set_cons_zero, List.set_cons_succ]
  refine wpAnyH_take (i := 6) (oi := { dst := some 13, op := Go.Op.indexAddr 89 (Go.Operand.tmp 11) (Go.Operand.tmp 12), type := 0, pos := _, after := #[{ on := 4, ground := Go.Ground.data }, { on := 5, ground := Go.Ground.data }], guard := none }) (v := .pointer (some ⟨G2, p2, none⟩)) rfl (by kernel_rfl) (by kernel_rfl) (by kernel_rfl) (fun _ _ _ h => h) (Or.inl ⟨by rfl, fun W hW => exec_indexN u79 (.tmp 11) (.tmp 12) rfl A _ _ G2 p2 j _ rfl rfl rfl F.out⟩) S1.out ?_
  try simp only [Act.put, List.setIfInBounds_toArray, List.set_cons_zero, List.set_cons_succ]
  refine wpAnyH_take (i := 7) (oi := { dst := some 14, op := Go.Op.load 40 (Go.Operand.tmp 13), type := 40, pos := _, after := #[{ on := 6, ground := Go.Ground.data }], guard := none }) (v := .int .u64 y) rfl (by kernel_rfl) (by kernel_rfl) (by kernel_rfl) (fun _ _ _ h => h) (Or.inl ⟨by rfl, fun W hW => exec_load_num (.tmp 13) rfl G2 p2 y rfl ((hW.cell (p := ⟨G2, p2, none⟩) BL2.out).trans C2.out)⟩) S1.out ?_
  try simp only [Act.put, List.setIfInBounds_toArray, List.set_cons_zero, List.set_cons_succ]
  refine wpAnyH_take (i := 8) (oi := { dst := some 15, op := Go.Op.binOp Go.BinOp.lss 40 (Go.Operand.tmp 10) (Go.Operand.tmp 14) 40, type := 4, pos := _, after := #[{ on := 3, ground := Go.Ground.data }, { on := 7, ground := Go.Ground.data }], guard := none }) (v := ?_) rfl (by kernel_rfl) (by kernel_rfl) (by kernel_rfl) (fun _ _ _ h => h) (Or.inl ⟨by rfl, ?_⟩) S1.out ?_
  rotate_left
  · intro W hW; (go_simp; try with_reducible rfl)
  try simp only [Act.put, List.setIfInBounds_toArray, List.set_cons_zero, List.set_cons_succ]
  refine wpAnyH_take (i := 9) (oi := { dst := some 6, op := Go.Op.assign (Go.Operand.tmp 15), type := 4, pos := _, after := #[{ on := 8, ground := Go.Ground.data }, { on := 0, ground := Go.Ground.phase }, { on := 1, ground := Go.Ground.phase }, { on := 2, ground := Go.Ground.phase }, { on := 3, ground := Go.Ground.phase }, { on := 4, ground := Go.Ground.phase }, { on := 5, ground := Go.Ground.phase }, { on := 6, ground := Go.Ground.phase }, { on := 7, ground := Go.Ground.phase }, { on := 8, ground := Go.Ground.phase }], guard := none }) (v := ?_) rfl (by kernel_rfl) (by kernel_rfl) (by kernel_rfl) (fun _ _ _ h => h) (Or.inl ⟨by rfl, ?_⟩) S1.out ?_
  rotate_left
  · intro W hW; (go_simp; try with_reducible rfl)
  try simp only [Act.put, List.setIfInBounds_toArray, List.set_cons_zero, List.set_cons_succ]
  refine wpAnyH_done (by kernel_rfl) ?_ _
  refine NoPanic.normal ?_
  go_wp2_with fail
  go_ret
  exact ⟨ret_bool hb.out, S1.out⟩
/-- Two numbers of a row of one's own change places. -/
theorem OwnN.set {w : World} {B g n cap : Nat} {l : List Int} (h : OwnN w B (.slice (some ⟨g, 0, none⟩) n cap) l) (i : Nat) (x : Int) (hx : 0 ≤ x ∧ x < 18446744073709551616) :
    OwnN (w.setCell ⟨g, i, none⟩ (.int .u64 x)) B (.slice (some ⟨g, 0, none⟩) n cap) (l.set i x) := by
  obtain ⟨_, _, e⟩ := h.shape
  simp only [Value.slice.injEq] at e
  obtain ⟨_, rfl, _⟩ := e
  refine ⟨fun y hy => ?_, ?_⟩
  · rcases List.mem_or_eq_of_mem_set hy with h1 | h1
    · exact h.ok y h1
    · subst h1; exact hx
  · rw [List.length_set, nc_set]; exact (h.row.stored i _).1
theorem OwnN.cell {w : World} {B g n cap : Nat} {l : List Int} (h : OwnN w B (.slice (some ⟨g, 0, none⟩) n cap) l) {i : Nat} (hi : i < l.length) : w.cell? ⟨g, i, none⟩ = some (.int .u64 (l.getD i 0)) := by
  obtain ⟨A, c, e2⟩ := h.shape
  simp only [Value.slice.injEq] at e2
  obtain ⟨_, rfl, _⟩ := e2
  rw [h.row.cellAt i (by omega)]; exact nc_get hi
theorem OwnN.fz {w : World} {B g n cap : Nat} {l : List Int} (h : OwnN w B (.slice (some ⟨g, 0, none⟩) n cap) l) (i : Nat) : w.frozen? ⟨g, i, none⟩ = false := by
  obtain ⟨A, c, e2⟩ := h.shape
  simp only [Value.slice.injEq] at e2
  obtain ⟨_, rfl, _⟩ := e2
  exact h.row.frozenAt i
set_option maxRecDepth 100000 in
theorem qswap_is (g cap B : Nat) (l m : List Int) (i j : Nat) (w : World) (h : OwnN w B (.slice (some ⟨g, 0, none⟩) l.length cap) l) (hi : i < l.length) (hj : j < l.length) (hm : Hid (swp l i j = m)) :
    Calls Tryz.prog 135 #[.slice (some ⟨g, 0, none⟩) l.length cap, .int .i64 i, .int .i64 j] w fun e w' => e = .returned (.tuple #[]) ∧ OwnN w' B (.slice (some ⟨g, 0, none⟩) m.length cap) m ∧ Only g w w' := by
  have E := Lib.hid (show NElem (some ⟨g, 0, none⟩) l.length g i i from ⟨⟨0, rfl, by omega⟩, hi⟩)
  have F := Lib.hid (show NElem (some ⟨g, 0, none⟩) l.length g j j from ⟨⟨0, rfl, by omega⟩, hj⟩)
  have H0 := Lib.hid h.drew
  have HI := Lib.hid hi
  have HJ := Lib.hid hj
  clear h hi hj
  go_enter Tryz.func135, Tryz.ntmps135
  go_wp2_with fail
  refine wp_region_noPanic ?_
  refine wp_region_held_drew (S := fun _ => True) (by kernel_rfl) trivial (fun _ => ?_)
  refine wpAnyH_take (i := 0) (oi := { dst := some 6, op := Go.Op.move (Go.Operand.tmp 0), type := 89, pos := _, after := #[], guard := none }) (v := ?_) rfl (by kernel_rfl) (by kernel_rfl) (by kernel_rfl) (fun _ _ _ h => h) (Or.inl ⟨by rfl, ?_⟩) trivial ?_
  rotate_left
  · intro W hW; (go_simp; try with_reducible rfl)
  try simp only [Act.put, List.setIfInBounds_toArray, List.set_cons_zero, List.set_cons_succ]
  refine wpAnyH_take (i := 1) (oi := { dst := some 7, op := Go.Op.move (Go.Operand.tmp 1), type := 3, pos := _, after := #[], guard := none }) (v := ?_) rfl (by kernel_rfl) (by kernel_rfl) (by kernel_rfl) (fun _ _ _ h => h) (Or.inl ⟨by rfl, ?_⟩) trivial ?_
  rotate_left
  · intro W hW; (go_simp; try with_reducible rfl)
  try simp only [Act.put, List.setIfInBounds_toArray, List.set_cons_zero, List.set_cons_succ]
  refine wpAnyH_take (i := 2) (oi := { dst := some 8, op := Go.Op.move (Go.Operand.tmp 0), type := 89, pos := _, after := #[{ on := 13, ground := Go.Ground.gcOnly Go.Departure.lateStores }], guard := none }) (v := ?_) rfl (by kernel_rfl) (by kernel_rfl) (by kernel_rfl) (fun _ _ _ h => h) (Or.inl ⟨by rfl, ?_⟩) trivial ?_
  rotate_left
  · intro W hW; (go_simp; try with_reducible rfl)
  try simp only [Act.put, List.setIfInBounds_toArray, List.set_cons_zero, List.set_cons_succ]
  refine wpAnyH_take (i := 3) (oi := { dst := some 9, op := Go.Op.move (Go.Operand.tmp 2), type := 3, pos := _, after := #[{ on := 13, ground := Go.Ground.gcOnly Go.Departure.lateStores }], guard := none }) (v := ?_) rfl (by kernel_rfl) (by kernel_rfl) (by kernel_rfl) (fun _ _ _ h => h) (Or.inl ⟨by rfl, ?_⟩) trivial ?_
  rotate_left
  · intro W hW; (go_simp; try with_reducible rfl)
  try simp only [Act.put, List.setIfInBounds_toArray, List.set_cons_zero, List.set_cons_succ]
  refine wpAnyH_take (i := 4) (oi := { dst := some 10, op := Go.Op.move (Go.Operand.tmp 0), type := 89, pos := _, after := #[], guard := none }) (v := ?_) rfl (by kernel_rfl) (by kernel_rfl) (by kernel_rfl) (fun _ _ _ h => h) (Or.inl ⟨by rfl, ?_⟩) trivial ?_
  rotate_left
  · intro W hW; (go_simp; try with_reducible rfl)
  try simp only [Act.put, List.setIfInBounds_toArray, List.set_cons_zero, List.set_cons_succ]
  refine wpAnyH_take (i := 5) (oi := { dst := some 11, op := Go.Op.move (Go.Operand.tmp 2), type := 3, pos := _, after := #[], guard := none }) (v := ?_) rfl (by kernel_rfl) (by kernel_rfl) (by kernel_rfl) (fun _ _ _ h => h) (Or.inl ⟨by rfl, ?_⟩) trivial ?_
  rotate_left
  · intro W hW; (go_simp; try with_reducible rfl)
  try simp only [Act.put, List.setIfInBounds_toArray, List.set_cons_zero, List.set_cons_succ]
  refine wpAnyH_take (i := 8) (oi := { dst := some 14, op := Go.Op.move (Go.Operand.tmp 0), type := 89, pos := _, after := #[], guard := none }) (v := ?_) rfl (by kernel_rfl) (by kernel_rfl) (by kernel_rfl) (fun _ _ _ h => h) (Or.inl ⟨by rfl, ?_⟩) trivial ?_
  rotate_left
  · intro W hW; (go_simp; try with_reducible rfl)
  try simp only [Act.put, List.setIfInBounds_toArray, List.set_cons_zero, List.set_cons_succ]
  refine wpAnyH_take (i := 9) (oi := { dst := some 15, op := Go.Op.move (Go.Operand.tmp 1), type := 3, pos := _, after := #[], guard := none }) (v := ?_) rfl (by kernel_rfl) (by kernel_rfl) (by kernel_rfl) (fun _ _ _ h => h) (Or.inl ⟨by rfl, ?_⟩) trivial ?_
  rotate_left
  · intro W hW; (go_simp; try with_reducible rfl)
  try simp only [Act.put, List.setIfInBounds_toArray, List.set_cons_zero, List.set_cons_succ]
  refine wpAnyH_take (i := 6) (oi := { dst := some 12, op := Go.Op.indexAddr 89 (Go.Operand.tmp 10) (Go.Operand.tmp 11), type := 0, pos := _, after := #[{ on := 4, ground := Go.Ground.data }, { on := 5, ground := Go.Ground.data }], guard := none }) (v := .pointer (some ⟨g, j, none⟩)) rfl (by kernel_rfl) (by kernel_rfl) (by kernel_rfl) (fun _ _ _ h => h) (Or.inl ⟨by rfl, fun W hW => exec_indexN u79 (.tmp 10) (.tmp 11) rfl (some ⟨g, 0, none⟩) _ _ g j j _ rfl rfl rfl F.out⟩) trivial ?_
  try simp only [Act.put, List.setIfInBounds_toArray, List.set_cons_zero, List.set_cons_succ]
  refine wpAnyH_take (i := 10) (oi := { dst := some 16, op := Go.Op.indexAddr 89 (Go.Operand.tmp 14) (Go.Operand.tmp 15), type := 0, pos := _, after := #[{ on := 8, ground := Go.Ground.data }, { on := 9, ground := Go.Ground.data }], guard := none }) (v := .pointer (some ⟨g, i, none⟩)) rfl (by kernel_rfl) (by kernel_rfl) (by kernel_rfl) (fun _ _ _ h => h) (Or.inl ⟨by rfl, fun W hW => exec_indexN u79 (.tmp 14) (.tmp 15) rfl (some ⟨g, 0, none⟩) _ _ g i i _ rfl rfl rfl E.out⟩) trivial ?_
  try simp only [Act.put, List.setIfInBounds_toArray, List.set_cons_zero, List.set_cons_succ]
  have H1 := Lib.hid (H0.out.set i (l.getD j 0) (H0.out.ok.at_ j))
  have HJ1 := Lib.hid (show j < (l.set i (l.getD j 0)).length by rw [List.length_set]; exact HJ.out)
  have H2 := Lib.hid (show OwnN _ B (.slice (some ⟨g, 0, none⟩) (swp l i j).length cap) (swp l i j) from by rw [swp_len]; exact H1.out.set j (l.getD i 0) (H0.out.ok.at_ i))
  have O2 := Lib.hid (show Only g w _ from ((Only.of_below (below_drew (Below.refl w.heap.size w))).trans (Only.set g i w.drew (.int .u64 (l.getD j 0)))).trans (Only.set g j _ (.int .u64 (l.getD i 0))))
  refine wpAnyH_ready (rs := [7, 11]) (by kernel_rfl) (by simp) ?_
  refine ready_val (o := { dst := some 13, op := Go.Op.load 40 (Go.Operand.tmp 12), type := 40, pos := _, after := #[{ on := 6, ground := Go.Ground.data }], guard := none }) rfl rfl (.int .u64 (l.getD j 0)) _ (exec_load_num (.tmp 12) rfl g j _ rfl (H0.out.cell HJ.out)) ⟨trivial, ?_⟩ ?_
  · try simp only [Act.put, List.setIfInBounds_toArray, List.set_cons_zero, List.set_cons_succ]
    refine wpAnyH_ready (rs := [11]) (by kernel_rfl) (by simp) ?_
    refine ready_val (o := { dst := some 17, op := Go.Op.load 40 (Go.Operand.tmp 16), type := 40, pos := _, after := #[{ on := 10, ground := Go.Ground.data }], guard := none }) rfl rfl (.int .u64 (l.getD i 0)) _ (exec_load_num (.tmp 16) rfl g i _ rfl (H0.out.cell HI.out)) ⟨trivial, ?_⟩ AllReadyH.nil
    try simp only [Act.put, List.setIfInBounds_toArray, List.set_cons_zero, List.set_cons_succ]
    refine wpAnyH_take (i := 12) (oi := { dst := some 18, op := Go.Op.indexAddr 89 (Go.Operand.tmp 6) (Go.Operand.tmp 7), type := 0, pos := _, after := #[{ on := 0, ground := Go.Ground.data }, { on := 1, ground := Go.Ground.data }, { on := 0, ground := Go.Ground.phase }, { on := 1, ground := Go.Ground.phase }, { on := 2, ground := Go.Ground.textOnly Go.Departure.lateStores }, { on := 3, ground := Go.Ground.textOnly Go.Departure.lateStores }, { on := 4, ground := Go.Ground.phase }, { on := 5, ground := Go.Ground.phase }, { on := 6, ground := Go.Ground.phase }, { on := 7, ground := Go.Ground.phase }, { on := 8, ground := Go.Ground.textOnly Go.Departure.lateStores }, { on := 9, ground := Go.Ground.textOnly Go.Departure.lateStores }, { on := 10, ground := Go.Ground.textOnly Go.Departure.lateStoresUnsure }, { on := 11, ground := Go.Ground.phase }], guard := none }) (v := .pointer (some ⟨g, i, none⟩)) rfl (by kernel_rfl) (by kernel_rfl) (by kernel_rfl) (fun _ _ _ h => h) (Or.inl ⟨by rfl, fun W hW => exec_indexN u79 (.tmp 6) (.tmp 7) rfl (some ⟨g, 0, none⟩) _ _ g i i _ rfl rfl rfl E.out⟩) trivial ?_
    try simp only [Act.put, List.setIfInBounds_toArray, List.set_cons_zero, List.set_cons_succ]
    refine wpAnyH_ready (rs := [13]) (by kernel_rfl) (by simp) ?_
    refine ready_skip (o := { dst := none, op := Go.Op.store 40 (Go.Operand.tmp 18) (Go.Operand.tmp 13), type := 0, pos := _, after := #[{ on := 12, ground := Go.Ground.data }, { on := 7, ground := Go.Ground.data }, { on := 0, ground := Go.Ground.phase }, { on := 1, ground := Go.Ground.phase }, { on := 2, ground := Go.Ground.textOnly Go.Departure.lateStores }, { on := 3, ground := Go.Ground.textOnly Go.Departure.lateStores }, { on := 4, ground := Go.Ground.phase }, { on := 5, ground := Go.Ground.phase }, { on := 6, ground := Go.Ground.phase }, { on := 7, ground := Go.Ground.phase }, { on := 8, ground := Go.Ground.textOnly Go.Departure.lateStores }, { on := 9, ground := Go.Ground.textOnly Go.Departure.lateStores }, { on := 10, ground := Go.Ground.textOnly Go.Departure.lateStoresUnsure }, { on := 11, ground := Go.Ground.phase }], guard := none }) rfl rfl _ (exec_store_num (.tmp 18) (.tmp 13) rfl g i _ _ rfl rfl (H0.out.cell HI.out) (H0.out.fz i)) ⟨trivial, ?_⟩ AllReadyH.nil
    simp only [Act.put]
    refine wpAnyH_take (i := 14) (oi := { dst := some 19, op := Go.Op.indexAddr 89 (Go.Operand.tmp 8) (Go.Operand.tmp 9), type := 0, pos := _, after := #[{ on := 2, ground := Go.Ground.data }, { on := 3, ground := Go.Ground.data }, { on := 0, ground := Go.Ground.phase }, { on := 1, ground := Go.Ground.phase }, { on := 2, ground := Go.Ground.phase }, { on := 3, ground := Go.Ground.phase }, { on := 4, ground := Go.Ground.phase }, { on := 5, ground := Go.Ground.phase }, { on := 6, ground := Go.Ground.phase }, { on := 7, ground := Go.Ground.phase }, { on := 8, ground := Go.Ground.phase }, { on := 9, ground := Go.Ground.phase }, { on := 10, ground := Go.Ground.phase }, { on := 11, ground := Go.Ground.phase }, { on := 12, ground := Go.Ground.phase }, { on := 13, ground := Go.Ground.phase }], guard := none }) (v := .pointer (some ⟨g, j, none⟩)) rfl (by kernel_rfl) (by kernel_rfl) (by kernel_rfl) (fun _ _ _ h => h) (Or.inl ⟨by rfl, fun W hW => exec_indexN u79 (.tmp 8) (.tmp 9) rfl (some ⟨g, 0, none⟩) _ _ g j j _ rfl rfl rfl F.out⟩) trivial ?_
    try simp only [Act.put, List.setIfInBounds_toArray, List.set_cons_zero, List.set_cons_succ]
    refine wpAnyH_ready (rs := [15]) (by kernel_rfl) (by simp) ?_
    refine ready_skip (o := { dst := none, op := Go.Op.store 40 (Go.Operand.tmp 19) (Go.Operand.tmp 17), type := 0, pos := _, after := #[{ on := 14, ground := Go.Ground.data }, { on := 11, ground := Go.Ground.data }, { on := 13, ground := Go.Ground.chain }, { on := 0, ground := Go.Ground.phase }, { on := 1, ground := Go.Ground.phase }, { on := 2, ground := Go.Ground.phase }, { on := 3, ground := Go.Ground.phase }, { on := 4, ground := Go.Ground.phase }, { on := 5, ground := Go.Ground.phase }, { on := 6, ground := Go.Ground.phase }, { on := 7, ground := Go.Ground.phase }, { on := 8, ground := Go.Ground.phase }, { on := 9, ground := Go.Ground.phase }, { on := 10, ground := Go.Ground.phase }, { on := 11, ground := Go.Ground.phase }, { on := 12, ground := Go.Ground.phase }, { on := 13, ground := Go.Ground.phase }], guard := none }) rfl rfl _ (exec_store_num (.tmp 19) (.tmp 17) rfl g j _ _ rfl rfl (H1.out.cell HJ1.out) (H1.out.fz j)) ⟨trivial, ?_⟩ AllReadyH.nil
    simp only [Act.put]
    refine wpAnyH_done (by kernel_rfl) ?_ _
    refine NoPanic.normal ?_
    go_wp2_with fail
    go_end0
    exact ⟨rfl, hm.out ▸ H2.out, O2.out⟩
  refine ready_val (o := { dst := some 17, op := Go.Op.load 40 (Go.Operand.tmp 16), type := 40, pos := _, after := #[{ on := 10, ground := Go.Ground.data }], guard := none }) rfl rfl (.int .u64 (l.getD i 0)) _ (exec_load_num (.tmp 16) rfl g i _ rfl (H0.out.cell HI.out)) ⟨trivial, ?_⟩ AllReadyH.nil
  try simp only [Act.put, List.setIfInBounds_toArray, List.set_cons_zero, List.set_cons_succ]
  refine wpAnyH_ready (rs := [7]) (by kernel_rfl) (by simp) ?_
  refine ready_val (o := { dst := some 13, op := Go.Op.load 40 (Go.Operand.tmp 12), type := 40, pos := _, after := #[{ on := 6, ground := Go.Ground.data }], guard := none }) rfl rfl (.int .u64 (l.getD j 0)) _ (exec_load_num (.tmp 12) rfl g j _ rfl (H0.out.cell HJ.out)) ⟨trivial, ?_⟩ AllReadyH.nil
  try simp only [Act.put, List.setIfInBounds_toArray, List.set_cons_zero, List.set_cons_succ]
  refine wpAnyH_take (i := 12) (oi := { dst := some 18, op := Go.Op.indexAddr 89 (Go.Operand.tmp 6) (Go.Operand.tmp 7), type := 0, pos := _, after := #[{ on := 0, ground := Go.Ground.data }, { on := 1, ground := Go.Ground.data }, { on := 0, ground := Go.Ground.phase }, { on := 1, ground := Go.Ground.phase }, { on := 2, ground := Go.Ground.textOnly Go.Departure.lateStores }, { on := 3, ground := Go.Ground.textOnly Go.Departure.lateStores }, { on := 4, ground := Go.Ground.phase }, { on := 5, ground := Go.Ground.phase }, { on := 6, ground := Go.Ground.phase }, { on := 7, ground := Go.Ground.phase }, { on := 8, ground := Go.Ground.textOnly Go.Departure.lateStores }, { on := 9, ground := Go.Ground.textOnly Go.Departure.lateStores }, { on := 10, ground := Go.Ground.textOnly Go.Departure.lateStoresUnsure }, { on := 11, ground := Go.Ground.phase }], guard := none }) (v := .pointer (some ⟨g, i, none⟩)) rfl (by kernel_rfl) (by kernel_rfl) (by kernel_rfl) (fun _ _ _ h => h) (Or.inl ⟨by rfl, fun W hW => exec_indexN u79 (.tmp 6) (.tmp 7) rfl (some ⟨g, 0, none⟩) _ _ g i i _ rfl rfl rfl E.out⟩) trivial ?_
  try simp only [Act.put, List.setIfInBounds_toArray, List.set_cons_zero, List.set_cons_succ]
  refine wpAnyH_ready (rs := [13]) (by kernel_rfl) (by simp) ?_
  refine ready_skip (o := { dst := none, op := Go.Op.store 40 (Go.Operand.tmp 18) (Go.Operand.tmp 13), type := 0, pos := _, after := #[{ on := 12, ground := Go.Ground.data }, { on := 7, ground := Go.Ground.data }, { on := 0, ground := Go.Ground.phase }, { on := 1, ground := Go.Ground.phase }, { on := 2, ground := Go.Ground.textOnly Go.Departure.lateStores }, { on := 3, ground := Go.Ground.textOnly Go.Departure.lateStores }, { on := 4, ground := Go.Ground.phase }, { on := 5, ground := Go.Ground.phase }, { on := 6, ground := Go.Ground.phase }, { on := 7, ground := Go.Ground.phase }, { on := 8, ground := Go.Ground.textOnly Go.Departure.lateStores }, { on := 9, ground := Go.Ground.textOnly Go.Departure.lateStores }, { on := 10, ground := Go.Ground.textOnly Go.Departure.lateStoresUnsure }, { on := 11, ground := Go.Ground.phase }], guard := none }) rfl rfl _ (exec_store_num (.tmp 18) (.tmp 13) rfl g i _ _ rfl rfl (H0.out.cell HI.out) (H0.out.fz i)) ⟨trivial, ?_⟩ AllReadyH.nil
  simp only [Act.put]
  refine wpAnyH_take (i := 14) (oi := { dst := some 19, op := Go.Op.indexAddr 89 (Go.Operand.tmp 8) (Go.Operand.tmp 9), type := 0, pos := _, after := #[{ on := 2, ground := Go.Ground.data }, { on := 3, ground := Go.Ground.data }, { on := 0, ground := Go.Ground.phase }, { on := 1, ground := Go.Ground.phase }, { on := 2, ground := Go.Ground.phase }, { on := 3, ground := Go.Ground.phase }, { on := 4, ground := Go.Ground.phase }, { on := 5, ground := Go.Ground.phase }, { on := 6, ground := Go.Ground.phase }, { on := 7, ground := Go.Ground.phase }, { on := 8, ground := Go.Ground.phase }, { on := 9, ground := Go.Ground.phase }, { on := 10, ground := Go.Ground.phase }, { on := 11, ground := Go.Ground.phase }, { on := 12, ground := Go.Ground.phase }, { on := 13, ground := Go.Ground.phase }], guard := none }) (v := .pointer (some ⟨g, j, none⟩)) rfl (by kernel_rfl) (by kernel_rfl) (by kernel_rfl) (fun _ _ _ h => h) (Or.inl ⟨by rfl, fun W hW => exec_indexN u79 (.tmp 8) (.tmp 9) rfl (some ⟨g, 0, none⟩) _ _ g j j _ rfl rfl rfl F.out⟩) trivial ?_
  try simp only [Act.put, List.setIfInBounds_toArray, List.set_cons_zero, List.set_cons_succ]
  refine wpAnyH_ready (rs := [15]) (by kernel_rfl) (by simp) ?_
  refine ready_skip (o := { dst := none, op := Go.Op.store 40 (Go.Operand.tmp 19) (Go.Operand.tmp 17), type := 0, pos := _, after := #[{ on := 14, ground := Go.Ground.data }, { on := 11, ground := Go.Ground.data }, { on := 13, ground := Go.Ground.chain }, { on := 0, ground := Go.Ground.phase }, { on := 1, ground := Go.Ground.phase }, { on := 2, ground := Go.Ground.phase }, { on := 3, ground := Go.Ground.phase }, { on := 4, ground := Go.Ground.phase }, { on := 5, ground := Go.Ground.phase }, { on := 6, ground := Go.Ground.phase }, { on := 7, ground := Go.Ground.phase }, { on := 8, ground := Go.Ground.phase }, { on := 9, ground := Go.Ground.phase }, { on := 10, ground := Go.Ground.phase }, { on := 11, ground := Go.Ground.phase }, { on := 12, ground := Go.Ground.phase }, { on := 13, ground := Go.Ground.phase }], guard := none }) rfl rfl _ (exec_store_num (.tmp 19) (.tmp 17) rfl g j _ _ rfl rfl (H1.out.cell HJ1.out) (H1.out.fz j)) ⟨trivial, ?_⟩ AllReadyH.nil
  simp only [Act.put]
  refine wpAnyH_done (by kernel_rfl) ?_ _
  refine NoPanic.normal ?_
  go_wp2_with fail
  go_end0
  exact ⟨rfl, hm.out ▸ H2.out, O2.out⟩
/-- The queue lies in block B, its numbers in a row of its own. -/
structure QV (w : World) (b B : Nat) (A : Option Addr) (cap : Nat) (l : List Int) : Prop where
  blk : Blk w B 89 [.slice A l.length cap]
  own : OwnN w b (.slice A l.length cap) l
  off : ∀ k, (Value.slice A l.length cap).ownBlock = some k → k ≠ B
/-- Of the blocks that were there, that of the queue and that of its row alone may have turned. -/
structure Fr (B : Nat) (v : Value) (w w' : World) : Prop where
  os : w'.os = w.os
  tape : w'.tape = w.tape
  output : w'.output = w.output
  size : w.heap.size ≤ w'.heap.size
  block : ∀ k, k < w.heap.size → k ≠ B → v.ownBlock ≠ some k → w'.heap[k]? = w.heap[k]?
theorem Fr.below {b B : Nat} {v : Value} {w w' : World} (h : Fr B v w w') (hB : b ≤ B) (hv : ∀ k, v.ownBlock = some k → b ≤ k) (hs : b ≤ w.heap.size) : Below b w w' :=
  ⟨h.os, h.tape, h.output, h.size, fun k hk => h.block k (by omega) (by omega) (fun e => by have := hv k e; omega)⟩
theorem Fr.of_only {B g : Nat} {v : Value} {w w' : World} (h : Only g w w') (hv : v.ownBlock = some g) : Fr B v w w' :=
  ⟨h.os, h.tape, h.output, h.size, fun k hk _ hn => h.block k hk (fun e => hn (by rw [hv, e]))⟩
theorem Fr.trans {B : Nat} {v v' : Value} {a b c : World} (h : Fr B v a b) (k : Fr B v' b c) (hv : ∀ g, v'.ownBlock = some g → v.ownBlock = some g ∨ a.heap.size ≤ g) : Fr B v a c :=
  ⟨k.os.trans h.os, k.tape.trans h.tape, k.output.trans h.output, Nat.le_trans h.size k.size, fun i hi hn hw => (k.block i (Nat.lt_of_lt_of_le hi h.size) hn (fun e => by
    rcases hv i e with e2 | e2
    · exact hw e2
    · omega)).trans (h.block i hi hn hw)⟩
theorem QV.only {w w' : World} {b B g cap : Nat} {l m : List Int} (h : QV w b B (some ⟨g, 0, none⟩) cap l) (ho : Only g w w') (hm : OwnN w' b (.slice (some ⟨g, 0, none⟩) m.length cap) m) (hl : m.length = l.length) : QV w' b B (some ⟨g, 0, none⟩) cap m := by
  have hn := h.off g rfl
  refine ⟨?_, hm, fun k hk => h.off k (by simpa [Value.ownBlock] using hk)⟩
  rw [hl]; exact h.blk.only ho (fun e => hn e.symm)
theorem exec_store_q {o : Oper} {a : Act} {w : World} (x y : Operand) (ho : o.op = .store 89 x y) (B : Nat) (u : Value) (A : Option Addr) (n cap : Nat) (hx : a.eval x = .pointer (some ⟨B, 0, none⟩)) (hy : a.eval y = .slice A n cap) (hb : Blk w B 89 [u]) :
    (execOp a.eval o).run Tryz.prog w = .ok .skip (w.setCell ⟨B, 0, none⟩ (.slice A n cap)) := by
  have hc := hb.cell (i := 0) rfl
  have hf := hb.frozen 0
  unfold execOp
  simp only [ho, hx, hy]
  simp [go_sem, hc, hf]
theorem wpList_store_q {ops : Array Oper} {rest : List Oper} {op : Oper} {a : Act} {w : World} {Q : Exit → Act → World → Prop} (hgd : op.guard = none) (x y : Operand) (ho : op.op = .store 89 x y) (B : Nat) (u : Value) (A : Option Addr) (n cap : Nat) (hx : a.eval x = .pointer (some ⟨B, 0, none⟩)) (hy : a.eval y = .slice A n cap) (hb : Blk w B 89 [u])
    (h : ∀ w', Hid (Blk w' B 89 [.slice A n cap]) → Hid (Only B w w') → wpList Tryz.prog ops Q rest (a.put op.dst undef) w') : wpList Tryz.prog ops Q (op :: rest) a w := by
  refine wpList_plain hgd fun K hK => ?_
  unfold Oper.wp
  rw [exec_store_q x y ho B u A n cap hx hy hb]
  exact hK _ _ (h _ (Lib.hid (hb.set 0 _)) (Lib.hid (Only.set B 0 w _)))
theorem exec_load_q {o : Oper} {a : Act} {w : World} (x : Operand) (ho : o.op = .load 89 x) (B : Nat) (v : Value) (hx : a.eval x = .pointer (some ⟨B, 0, none⟩)) (hb : Blk w B 89 [v]) :
    (execOp a.eval o).run Tryz.prog w = .ok (.value v) w := by
  have hc := hb.cell (i := 0) rfl
  unfold execOp
  simp only [ho, hx]
  simp [go_sem, hc]
theorem run_assert_num (x : Int) (w : World) : (Instr.typeAssert (.iface 40 (.int .u64 x)) 20 40 false).run Tryz.prog w = .ok (.int .u64 x) w := by kernel_rfl
theorem exec_assert_num {o : Oper} {a : Act} {w : World} (y : Operand) (ho : o.op = .typeAssert y 20 40 false) (x : Int) (hy : a.eval y = .iface 40 (.int .u64 x)) : (execOp a.eval o).run Tryz.prog w = .ok (.value (.int .u64 x)) w := by
  unfold execOp
  simp only [ho, hy, Sem.run_bind, run_assert_num, Result.andThen_ok, Sem.run_pure]
set_option maxRecDepth 100000 in
theorem qpush_is (b B : Nat) (A : Option Addr) (cap : Nat) (l : List Int) (x : Int) (w : World) (h : QV w b B A cap l) (hx : 0 ≤ x ∧ x < 18446744073709551616) (hn : l.length ≤ 5000) (hb : b ≤ w.heap.size) :
    Calls Tryz.prog 134 #[.pointer (some ⟨B, 0, none⟩), .iface 40 (.int .u64 x)] w fun e w' => e = .returned (.tuple #[]) ∧ (∃ g c, QV w' b B (some ⟨g, 0, none⟩) c (l ++ [x]) ∧ ((Value.slice A l.length cap).ownBlock = some g ∨ w.heap.size ≤ g)) ∧ Fr B (.slice A l.length cap) w w' := by
  have HQ := Lib.hid h
  have HX := Lib.hid hx
  have HB := Lib.hid hb
  have q0 := Lib.hid (show Blk w.drew B 89 [.slice A l.length cap] from h.blk)
  have o0 := Lib.hid h.own.drew
  have n1 := Lib.hid (own_num1 w.drew x hx w.drew.heap.size (Nat.le_refl _)).at_
  have b1 := Lib.hid (new_below w.drew (.cells #[.int .u64 x] 40))
  have q1 := Lib.hid (q0.out.below b1.out)
  have o1 := Lib.hid (o0.out.below b1.out)
  obtain ⟨v', w3, he, h1, h2, h3, h4⟩ := run_app_nums (w.drew.alloc (.cells #[.int .u64 x] 40)) u79 89 b _ _ l [x] o1.out n1.out (by simp; omega) (Nat.le_trans hb (by simp))
  obtain ⟨E, c, e⟩ := h1.shape
  subst e
  rw [List.length_append, List.length_singleton] at he h1 h4
  obtain ⟨g, rfl⟩ : ∃ g, E = some ⟨g, 0, none⟩ := by
    rcases h1.row.2 with ⟨_, e⟩ | ⟨g, _, _, e, _⟩
    · simp at e
    · simp only [Value.slice.injEq] at e; exact ⟨g, e.1⟩
  have HE := Lib.hid he
  have H1 := Lib.hid h1
  have q3 : Blk w3 B 89 [.slice A l.length cap] := (h2.block B q1.out.lt (fun e => h.off B e.symm rfl)).trans q1.out
  have hBg : g ≠ B := by
    intro e
    subst e
    rcases h4 with e | e
    · exact h.off g (by rw [← e]; rfl) rfl
    · have := h.blk.lt
      have e2 : g = (w.drew.alloc (.cells #[.int .u64 x] 40)).heap.size := by simpa [Value.ownBlock] using e
      simp at e2; omega
  have q4 := q3.set 0 (.slice (some ⟨g, 0, none⟩) (l.length + 1) c)
  have F := Lib.hid (show QV (w3.setCell ⟨B, 0, none⟩ (.slice (some ⟨g, 0, none⟩) (l.length + 1) c)) b B (some ⟨g, 0, none⟩) c (l ++ [x]) from by
    refine ⟨by rw [List.length_append, List.length_singleton]; exact q4, ?_, fun k hk => ?_⟩
    · rw [List.length_append, List.length_singleton]
      exact h1.only (Only.set B 0 w3 _) (fun k hk => by
        have e : g = k := by simpa [Value.ownBlock] using hk
        rw [← e]; exact hBg)
    · have e : g = k := by simpa [Value.ownBlock] using hk
      rw [← e]; exact hBg)
  have NB := Lib.hid (show (Value.slice A l.length cap).ownBlock = some g ∨ w.heap.size ≤ g from by
    rcases h4 with e | e
    · left; rw [← e]; rfl
    · right
      have e2 : g = (w.drew.alloc (.cells #[.int .u64 x] 40)).heap.size := by simpa [Value.ownBlock] using e
      simp at e2; omega)
  have FF := Lib.hid (show Fr B (.slice A l.length cap) w (w3.setCell ⟨B, 0, none⟩ (.slice (some ⟨g, 0, none⟩) (l.length + 1) c)) from by
    have s1 := b1.out.size
    have s2 := h2.size
    refine ⟨h2.os.trans b1.out.os, h2.tape.trans b1.out.tape, h2.output.trans b1.out.output, ?_, fun k hk hn2 hv => ?_⟩
    · simp at s1 s2 ⊢; omega
    · have e1 := Below.heap_setCell w3 ⟨B, 0, none⟩ (.slice (some ⟨g, 0, none⟩) (l.length + 1) c) k hn2
      have e2 := h2.block k (Nat.lt_of_lt_of_le hk s1) (fun e => hv e.symm)
      have e3 := b1.out.block k hk
      exact e1.trans (e2.trans e3))
  have Q3 := Lib.hid q3
  clear h hx hb he h1 h2 h3 h4 q3 q4 hBg
  go_enter Tryz.func134, Tryz.ntmps134
  go_wp2_with fail
  refine wp_region_noPanic ?_
  refine wp_region_held_drew (S := fun _ => True) (by kernel_rfl) trivial (fun _ => ?_)
  refine wpAnyH_take (i := 0) (oi := { dst := some 4, op := Go.Op.move (Go.Operand.tmp 0), type := 75, pos := _, after := #[], guard := none }) (v := ?_) rfl (by kernel_rfl) (by kernel_rfl) (by kernel_rfl) (fun _ _ _ h => h) (Or.inl ⟨by rfl, ?_⟩) trivial ?_
  rotate_left
  · intro W hW; (go_simp; try with_reducible rfl)
  try simp only [Act.put, List.setIfInBounds_toArray, List.set_cons_zero, List.set_cons_succ]
  refine wpAnyH_take (i := 1) (oi := { dst := some 5, op := Go.Op.move (Go.Operand.tmp 0), type := 75, pos := _, after := #[], guard := none }) (v := ?_) rfl (by kernel_rfl) (by kernel_rfl) (by kernel_rfl) (fun _ _ _ h => h) (Or.inl ⟨by rfl, ?_⟩) trivial ?_
  rotate_left
  · intro W hW; (go_simp; try with_reducible rfl)
  try simp only [Act.put, List.setIfInBounds_toArray, List.set_cons_zero, List.set_cons_succ]
  refine wpAnyH_take (i := 4) (oi := { dst := some 8, op := Go.Op.move (Go.Operand.tmp 1), type := 20, pos := _, after := #[], guard := none }) (v := ?_) rfl (by kernel_rfl) (by kernel_rfl) (by kernel_rfl) (fun _ _ _ h => h) (Or.inl ⟨by rfl, ?_⟩) trivial ?_
  rotate_left
  · intro W hW; (go_simp; try with_reducible rfl)
  try simp only [Act.put, List.setIfInBounds_toArray, List.set_cons_zero, List.set_cons_succ]
  refine wpAnyH_take (i := 2) (oi := { dst := some 6, op := Go.Op.nilCheck (Go.Operand.tmp 5), type := 0, pos := _, after := #[{ on := 1, ground := Go.Ground.data }], guard := none }) (v := ?_) rfl (by kernel_rfl) (by kernel_rfl) (by kernel_rfl) (fun _ _ _ h => h) (Or.inl ⟨by rfl, ?_⟩) trivial ?_
  rotate_left
  · intro W hW; (go_simp; try with_reducible rfl)
  try simp only [Act.put, List.setIfInBounds_toArray, List.set_cons_zero, List.set_cons_succ]
  refine wpAnyH_take (i := 5) (oi := { dst := some 9, op := Go.Op.typeAssert (Go.Operand.tmp 8) 20 40 false, type := 40, pos := _, after := #[{ on := 4, ground := Go.Ground.data }], guard := none }) (v := .int .u64 x) rfl (by kernel_rfl) (by kernel_rfl) (by kernel_rfl) (fun _ _ _ h => h) (Or.inl ⟨by rfl, fun W hW => exec_assert_num (.tmp 8) rfl x rfl⟩) trivial ?_
  try simp only [Act.put, List.setIfInBounds_toArray, List.set_cons_zero, List.set_cons_succ]
  refine wpAnyH_ready (rs := [3, 6]) (by kernel_rfl) (by simp) ?_
  refine ready_val (o := { dst := some 7, op := Go.Op.load 89 (Go.Operand.tmp 6), type := 89, pos := _, after := #[{ on := 2, ground := Go.Ground.data }], guard := none }) rfl rfl _ _ (exec_load_q (.tmp 6) rfl B _ rfl q0.out) ⟨trivial, ?_⟩ ?_
  · try simp only [Act.put, List.setIfInBounds_toArray, List.set_cons_zero, List.set_cons_succ]
    refine wpAnyH_ready (rs := [6]) (by kernel_rfl) (by simp) ?_
    refine ready_val (o := { dst := some 10, op := Go.Op.buildSlice 89 1 #[(0, Go.Operand.tmp 9)], type := 89, pos := _, after := #[{ on := 5, ground := Go.Ground.data }], guard := none }) rfl rfl _ _ (exec_num1 u79 (.tmp 9) rfl x rfl) ⟨trivial, ?_⟩ AllReadyH.nil
    try simp only [Act.put, List.setIfInBounds_toArray, List.set_cons_zero, List.set_cons_succ]
    refine wpAnyH_ready (rs := [7]) (by kernel_rfl) (by simp) ?_
    refine ready_val (o := { dst := some 11, op := Go.Op.call { callee := Go.Callee.builtin Go.Builtin.append, args := #[Go.Operand.tmp 7, Go.Operand.tmp 10], argTypes := #[89, 89] }, type := 89, pos := _, after := #[{ on := 3, ground := Go.Ground.data }, { on := 6, ground := Go.Ground.data }], guard := none }) rfl rfl _ _ (exec_app (.tmp 7) (.tmp 10) rfl _ _ _ rfl rfl HE.out) ⟨trivial, ?_⟩ AllReadyH.nil
    try simp only [Act.put, List.setIfInBounds_toArray, List.set_cons_zero, List.set_cons_succ]
    refine wpAnyH_take (i := 8) (oi := { dst := some 12, op := Go.Op.nilCheck (Go.Operand.tmp 4), type := 0, pos := _, after := #[{ on := 0, ground := Go.Ground.data }, { on := 0, ground := Go.Ground.phase }, { on := 1, ground := Go.Ground.phase }, { on := 2, ground := Go.Ground.phase }, { on := 3, ground := Go.Ground.phase }, { on := 4, ground := Go.Ground.phase }, { on := 5, ground := Go.Ground.phase }, { on := 6, ground := Go.Ground.phase }, { on := 7, ground := Go.Ground.phase }], guard := none }) (v := ?_) rfl (by kernel_rfl) (by kernel_rfl) (by kernel_rfl) (fun _ _ _ h => h) (Or.inl ⟨by rfl, ?_⟩) trivial ?_
    rotate_left
    · intro W hW; (go_simp; try with_reducible rfl)
    try simp only [Act.put, List.setIfInBounds_toArray, List.set_cons_zero, List.set_cons_succ]
    refine wpAnyH_ready (rs := [9]) (by kernel_rfl) (by simp) ?_
    refine ready_skip (o := { dst := none, op := Go.Op.store 89 (Go.Operand.tmp 12) (Go.Operand.tmp 11), type := 0, pos := _, after := #[{ on := 8, ground := Go.Ground.data }, { on := 7, ground := Go.Ground.data }, { on := 7, ground := Go.Ground.chain }, { on := 0, ground := Go.Ground.phase }, { on := 1, ground := Go.Ground.phase }, { on := 2, ground := Go.Ground.phase }, { on := 3, ground := Go.Ground.phase }, { on := 4, ground := Go.Ground.phase }, { on := 5, ground := Go.Ground.phase }, { on := 6, ground := Go.Ground.phase }, { on := 7, ground := Go.Ground.phase }], guard := none }) rfl rfl _ (exec_store_q (.tmp 12) (.tmp 11) rfl B _ _ _ _ rfl rfl Q3.out) ⟨trivial, ?_⟩ AllReadyH.nil
    simp only [Act.put]
    refine wpAnyH_done (by kernel_rfl) ?_ _
    refine NoPanic.normal ?_
    go_wp2_with fail
    go_end0
    exact ⟨rfl, ⟨g, c, F.out, NB.out⟩, FF.out⟩
  refine ready_val (o := { dst := some 10, op := Go.Op.buildSlice 89 1 #[(0, Go.Operand.tmp 9)], type := 89, pos := _, after := #[{ on := 5, ground := Go.Ground.data }], guard := none }) rfl rfl _ _ (exec_num1 u79 (.tmp 9) rfl x rfl) ⟨trivial, ?_⟩ AllReadyH.nil
  try simp only [Act.put, List.setIfInBounds_toArray, List.set_cons_zero, List.set_cons_succ]
  refine wpAnyH_ready (rs := [3]) (by kernel_rfl) (by simp) ?_
  refine ready_val (o := { dst := some 7, op := Go.Op.load 89 (Go.Operand.tmp 6), type := 89, pos := _, after := #[{ on := 2, ground := Go.Ground.data }], guard := none }) rfl rfl _ _ (exec_load_q (.tmp 6) rfl B _ rfl q1.out) ⟨trivial, ?_⟩ AllReadyH.nil
  try simp only [Act.put, List.setIfInBounds_toArray, List.set_cons_zero, List.set_cons_succ]
  refine wpAnyH_ready (rs := [7]) (by kernel_rfl) (by simp) ?_
  refine ready_val (o := { dst := some 11, op := Go.Op.call { callee := Go.Callee.builtin Go.Builtin.append, args := #[Go.Operand.tmp 7, Go.Operand.tmp 10], argTypes := #[89, 89] }, type := 89, pos := _, after := #[{ on := 3, ground := Go.Ground.data }, { on := 6, ground := Go.Ground.data }], guard := none }) rfl rfl _ _ (exec_app (.tmp 7) (.tmp 10) rfl _ _ _ rfl rfl HE.out) ⟨trivial, ?_⟩ AllReadyH.nil
  try simp only [Act.put, List.setIfInBounds_toArray, List.set_cons_zero, List.set_cons_succ]
  refine wpAnyH_take (i := 8) (oi := { dst := some 12, op := Go.Op.nilCheck (Go.Operand.tmp 4), type := 0, pos := _, after := #[{ on := 0, ground := Go.Ground.data }, { on := 0, ground := Go.Ground.phase }, { on := 1, ground := Go.Ground.phase }, { on := 2, ground := Go.Ground.phase }, { on := 3, ground := Go.Ground.phase }, { on := 4, ground := Go.Ground.phase }, { on := 5, ground := Go.Ground.phase }, { on := 6, ground := Go.Ground.phase }, { on := 7, ground := Go.Ground.phase }], guard := none }) (v := ?_) rfl (by kernel_rfl) (by kernel_rfl) (by kernel_rfl) (fun _ _ _ h => h) (Or.inl ⟨by rfl, ?_⟩) trivial ?_
  rotate_left
  · intro W hW; (go_simp; try with_reducible rfl)
  try simp only [Act.put, List.setIfInBounds_toArray, List.set_cons_zero, List.set_cons_succ]
  refine wpAnyH_ready (rs := [9]) (by kernel_rfl) (by simp) ?_
  refine ready_skip (o := { dst := none, op := Go.Op.store 89 (Go.Operand.tmp 12) (Go.Operand.tmp 11), type := 0, pos := _, after := #[{ on := 8, ground := Go.Ground.data }, { on := 7, ground := Go.Ground.data }, { on := 7, ground := Go.Ground.chain }, { on := 0, ground := Go.Ground.phase }, { on := 1, ground := Go.Ground.phase }, { on := 2, ground := Go.Ground.phase }, { on := 3, ground := Go.Ground.phase }, { on := 4, ground := Go.Ground.phase }, { on := 5, ground := Go.Ground.phase }, { on := 6, ground := Go.Ground.phase }, { on := 7, ground := Go.Ground.phase }], guard := none }) rfl rfl _ (exec_store_q (.tmp 12) (.tmp 11) rfl B _ _ _ _ rfl rfl Q3.out) ⟨trivial, ?_⟩ AllReadyH.nil
  simp only [Act.put]
  refine wpAnyH_done (by kernel_rfl) ?_ _
  refine NoPanic.normal ?_
  go_wp2_with fail
  go_end0
  exact ⟨rfl, ⟨g, c, F.out, NB.out⟩, FF.out⟩
theorem qlen_is (A : Option Addr) (n cap : Nat) (w : World) : Calls Tryz.prog 35 #[.slice A n cap] w fun e w' => e = .returned (.int .i64 n) ∧ w = w' := by
  go_enter Tryz.func35, Tryz.ntmps35
  go_wp2
  go_ret
  exact ⟨rfl, rfl⟩
theorem qpop_is (b B g cap : Nat) (l : List Int) (n : Nat) (x : Int) (w : World) (h : QV w b B (some ⟨g, 0, none⟩) cap l) (hn : l.length = n + 1) (hm : n ≤ 5000) (hx : Hid (l.getD n 0 = x)) :
    Calls Tryz.prog 133 #[.pointer (some ⟨B, 0, none⟩)] w fun e w' => e = .returned (.iface 40 (.int .u64 x)) ∧ QV w' b B (some ⟨g, 0, none⟩) cap (l.take n) ∧ Only B w w' := by
  have c0 := h.blk.cell (i := 0) rfl
  have hf := h.blk.frozen 0
  rw [hn] at c0
  have c1 := h.own.cell (i := n) (by omega)
  rw [hx.out] at c1
  have hcap : n ≤ cap := by
    rcases h.own.row.2 with ⟨e, _⟩ | ⟨g', cap', cur, e, _, _, hk, _⟩
    · simp at e
    · simp only [Value.slice.injEq] at e; omega
  have E := Lib.hid (show NElem (some ⟨g, 0, none⟩) (n + 1) g n n from ⟨⟨0, rfl, by omega⟩, by omega⟩)
  have hl : (l.take n).length = n := by rw [List.length_take]; omega
  have HB := Lib.hid h.blk
  have HO := Lib.hid (h.own.cut n (by omega))
  have HN := Lib.hid (show ∀ k, (Value.slice (some ⟨g, 0, none⟩) n cap).ownBlock = some k → k ≠ B from fun k hk => h.off k (by simpa [Value.ownBlock] using hk))
  clear h hx
  go_enter Tryz.func133, Tryz.ntmps133
  go_wp2_with (first
    | refine wpList_sub1 rfl _ rfl _ n rfl (by push_cast; rfl) (by omega) ?_
    | refine wpList_indexN u79 rfl _ _ rfl _ _ _ g n n _ rfl rfl rfl E.out ?_
    | refine wpList_cutN u79 rfl _ _ rfl .i64 g _ cap n rfl rfl hcap ?_
    | (refine wpList_store_q rfl _ _ rfl B _ _ _ _ rfl rfl HB.out ?_; intro w2 hb2 ho2))
  go_ret
  refine ⟨rfl, ⟨by rw [hl]; exact hb2.out, ?_, by rw [hl]; exact HN.out⟩, ho2.out⟩
  rw [hl]
  exact HO.out.only ho2.out HN.out
end Go.Proofs.YtpgafijeecmgmaaGreat
namespace Go.Proofs.YtpgafijeecmgmaaGreat
open Go.RowKit

section
variable {o : Oper} {a : Act} {w : World}
theorem exec_half (x : Operand) (ho : o.op = .binOp .quo 3 x (.const (.int .i64 2)) 3) (z : Int) (k : Nat) (hx : a.eval x = .int .i64 z) (hz : z = (k : Int) - 1) (hk : k ≤ 100000) :
    (execOp a.eval o).run Tryz.prog w = .ok (.value (.int .i64 ((k - 1) / 2 : Nat))) w := by
  have hc : a.eval (.const (.int .i64 2)) = .int .i64 2 := rfl
  have e : IntKind.i64.wrap (Int.tdiv z 2) = (((k - 1) / 2 : Nat) : Int) := by
    rw [IntKind.wrap_i64]
    cases k with
    | zero => subst hz; decide
    | succ m =>
      have : z = (m : Int) := by omega
      subst this
      rw [Int.tdiv_eq_ediv_of_nonneg (by omega), Nat.add_sub_cancel]; omega
  unfold execOp
  simp only [ho]
  rw [hx, hc]
  simp [go_sem]
  exact e
theorem exec_subz (x : Operand) (ho : o.op = .binOp .sub 3 x (.const (.int .i64 1)) 3) (k : Nat) (hx : a.eval x = .int .i64 k) (hk : k ≤ 100000) :
    (execOp a.eval o).run Tryz.prog w = .ok (.value (.int .i64 ((k : Int) - 1))) w := by
  have hc : a.eval (.const (.int .i64 1)) = .int .i64 1 := rfl
  unfold execOp
  simp only [ho]
  rw [hx, hc]
  simp [go_sem]
  rw [IntKind.wrap_i64]; omega
end
theorem wpList_half {ops : Array Oper} {rest : List Oper} {op : Oper} {a : Act} {w : World} {Q : Exit → Act → World → Prop} (hgd : op.guard = none) (x : Operand) (ho : op.op = .binOp .quo 3 x (.const (.int .i64 2)) 3) (z : Int) (k : Nat) (hx : a.eval x = .int .i64 z) (hz : z = (k : Int) - 1) (hk : k ≤ 100000)
    (hq : wpList Tryz.prog ops Q rest (a.put op.dst (.int .i64 ((k - 1) / 2 : Nat))) w) : wpList Tryz.prog ops Q (op :: rest) a w := by
  refine wpList_plain hgd fun K hK => ?_
  unfold Oper.wp
  rw [exec_half x ho z k hx hz hk]
  exact hK _ _ hq
theorem wpList_subz {ops : Array Oper} {rest : List Oper} {op : Oper} {a : Act} {w : World} {Q : Exit → Act → World → Prop} (hgd : op.guard = none) (x : Operand) (ho : op.op = .binOp .sub 3 x (.const (.int .i64 1)) 3) (k : Nat) (hx : a.eval x = .int .i64 k) (hk : k ≤ 100000)
    (hq : wpList Tryz.prog ops Q rest (a.put op.dst (.int .i64 ((k : Int) - 1))) w) : wpList Tryz.prog ops Q (op :: rest) a w := by
  refine wpList_plain hgd fun K hK => ?_
  unfold Oper.wp
  rw [exec_subz x ho k hx hk]
  exact hK _ _ hq
set_option maxRecDepth 100000 in
theorem up_is (b B g cap : Nat) (l : List Int) (j : Nat) (w : World) (h : QV w b B (some ⟨g, 0, none⟩) cap l) (hu : Up l j) (hn : l.length ≤ 6000) :
    Calls Tryz.prog 60 #[.iface 75 (.pointer (some ⟨B, 0, none⟩)), .int .i64 j] w fun e w' => e = .returned (.tuple #[]) ∧ (∃ m, QV w' b B (some ⟨g, 0, none⟩) cap m ∧ Hp m ∧ m.Perm l) ∧ Only g w w' := by
  have HQ := Lib.hid h
  have HU := Lib.hid hu
  have hj := hu.lt
  clear h hu
  go_enter Tryz.func60, Tryz.ntmps60
  go_wp2_with fail
  go_loopw [1, 4] (fun jv _ wr => ∃ (k : Nat) (m : List Int), jv = .int .i64 k ∧ k ≤ j ∧ QV wr b B (some ⟨g, 0, none⟩) cap m ∧ Up m k ∧ m.Perm l ∧ Only g w wr) (fun jv _ _ => (intOf jv).toNat)
  case atStart => exact ⟨j, l, rfl, Nat.le_refl _, HQ.out, HU.out, List.Perm.refl _, Only.refl _ _⟩
  case round =>
    obtain ⟨k, m, rfl, hk, hq, hum, hp, ho⟩ := hrel
    have Q0 := Lib.hid hq
    have U0 := Lib.hid hum
    have P0 := Lib.hid hp
    have O0 := Lib.hid ho
    have hm6 : m.length ≤ 6000 := by rw [hp.length_eq]; exact hn
    have hkm := hum.lt
    have c0 := hq.blk.cell (i := 0) rfl
    have mL := meth_less wr B _ c0
    have nL := nil_less wr B
    clear hq hum hp ho
    by_cases hk0 : k = 0
    · subst hk0
      go_wp2_with (first
        | refine wpList_subz rfl _ rfl 0 rfl (by omega) ?_
        | refine wpList_half rfl _ rfl _ 0 rfl (by omega) (by omega) ?_)
      go_end0
      exact ⟨rfl, ⟨m, Q0.out, U0.out.done (.inl rfl), P0.out⟩, O0.out⟩
    · obtain ⟨q, hq⟩ : ∃ q, (k - 1) / 2 = q := ⟨_, rfl⟩
      have hqk : q < k := by omega
      have hne : ((q : Int) == (k : Int)) = false := by rw [beq_eq_false_iff_ne]; omega
      obtain ⟨r, hr⟩ : ∃ r, decide (m.getD k 0 < m.getD q 0) = r := ⟨_, rfl⟩
      have HR := Lib.hid hr
      go_wp2_with (first
        | refine wpList_subz rfl _ rfl k rfl (by omega) ?_
        | (refine wpList_half rfl _ rfl _ k rfl rfl (by omega) ?_; rw [hq]))
      refine (qless_is (some ⟨g, 0, none⟩) cap m k q r wr Q0.out.own.at_ (by omega) (by omega) HR).mono ?_
      rintro e w1 ⟨rfl, b1⟩
      have O1 := Lib.hid (O0.out.trans (Only.of_below b1))
      have hb1 := Lib.hid b1
      have c1 := (hb1.out.cell (p := ⟨B, 0, none⟩) Q0.out.blk.lt).trans c0
      have mS := meth_swap w1 B _ c1
      have nS := nil_swap w1 B
      clear mL nL c0 b1
      cases r with
      | false =>
        go_wp2_with fail
        go_end0
        have := hr
        rw [decide_eq_false_iff_not] at this
        refine ⟨rfl, ⟨m, ⟨Q0.out.blk.below hb1.out, Q0.out.own.below hb1.out, Q0.out.off⟩, U0.out.done (.inr ?_), P0.out⟩, O1.out⟩
        rw [hq]; omega
      | true =>
        rw [decide_eq_true_eq] at hr
        go_wp2_with fail
        refine (qswap_is g cap b m (swp m q k) q k w1 (Q0.out.own.below hb1.out) (by omega) (by omega) (Lib.hid rfl)).mono ?_
        rintro e w2 ⟨rfl, own2, o2⟩
        have Q1 := Lib.hid (show QV w1 b B (some ⟨g, 0, none⟩) cap m from ⟨Q0.out.blk.below hb1.out, Q0.out.own.below hb1.out, Q0.out.off⟩)
        have Q2 := Lib.hid (Q1.out.only o2 own2 (swp_len _ _ _))
        have O2 := Lib.hid (O1.out.trans o2)
        clear own2 o2 mS nS c1
        go_wp2_with fail
        go_roundw
        case rel =>
          refine ⟨q, swp m q k, rfl, by omega, Q2.out, ?_, (swp_perm m q k (by omega) (by omega)).trans P0.out, O2.out⟩
          rw [← hq]
          exact U0.out.step (by omega) (by rw [hq]; omega)
        case measure => simp [intOf]; omega
/-! Sinking. -/
section
variable {o : Oper} {a : Act} {w : World}
theorem exec_dbl (x : Operand) (ho : o.op = .binOp .mul 3 (.const (.int .i64 2)) x 3) (k : Nat) (hx : a.eval x = .int .i64 k) (hk : k ≤ 100000) :
    (execOp a.eval o).run Tryz.prog w = .ok (.value (.int .i64 (2 * k : Nat))) w := by
  have hc : a.eval (.const (.int .i64 2)) = .int .i64 2 := rfl
  unfold execOp
  simp only [ho]
  rw [hx, hc]
  simp [go_sem]
  rw [IntKind.wrap_i64]; omega
theorem exec_inc (x : Operand) (ho : o.op = .binOp .add 3 x (.const (.int .i64 1)) 3) (k : Nat) (hx : a.eval x = .int .i64 k) (hk : k ≤ 1000000) :
    (execOp a.eval o).run Tryz.prog w = .ok (.value (.int .i64 (k + 1 : Nat))) w := by
  have hc : a.eval (.const (.int .i64 1)) = .int .i64 1 := rfl
  unfold execOp
  simp only [ho]
  rw [hx, hc]
  simp [go_sem]
  rw [IntKind.wrap_i64]; omega
end
theorem wpList_dbl {ops : Array Oper} {rest : List Oper} {op : Oper} {a : Act} {w : World} {Q : Exit → Act → World → Prop} (hgd : op.guard = none) (x : Operand) (ho : op.op = .binOp .mul 3 (.const (.int .i64 2)) x 3) (k : Nat) (hx : a.eval x = .int .i64 k) (hk : k ≤ 100000)
    (hq : wpList Tryz.prog ops Q rest (a.put op.dst (.int .i64 (2 * k : Nat))) w) : wpList Tryz.prog ops Q (op :: rest) a w := by
  refine wpList_plain hgd fun K hK => ?_
  unfold Oper.wp
  rw [exec_dbl x ho k hx hk]
  exact hK _ _ hq
theorem wpList_inc {ops : Array Oper} {rest : List Oper} {op : Oper} {a : Act} {w : World} {Q : Exit → Act → World → Prop} (hgd : op.guard = none) (x : Operand) (ho : op.op = .binOp .add 3 x (.const (.int .i64 1)) 3) (k r : Nat) (hx : a.eval x = .int .i64 k) (hk : k ≤ 1000000) (hr : k + 1 = r)
    (hq : wpList Tryz.prog ops Q rest (a.put op.dst (.int .i64 r)) w) : wpList Tryz.prog ops Q (op :: rest) a w := by
  refine wpList_plain hgd fun K hK => ?_
  unfold Oper.wp
  rw [exec_inc x ho k hx hk, hr]
  exact hK _ _ hq
set_option maxRecDepth 100000 in
set_option maxHeartbeats 2000000 in
theorem down_is (b B g cap : Nat) (l : List Int) (n : Nat) (w : World) (h : QV w b B (some ⟨g, 0, none⟩) cap l) (hd : Down l 0 n) (hn : l.length ≤ 6000) :
    Calls Tryz.prog 50 #[.iface 75 (.pointer (some ⟨B, 0, none⟩)), .int .i64 0, .int .i64 n] w fun e w' => (∃ r, e = .returned r) ∧ (∃ m, QV w' b B (some ⟨g, 0, none⟩) cap m ∧ HpTo m n ∧ m.Perm l ∧ ∀ q, n ≤ q → m.getD q 0 = l.getD q 0) ∧ Only g w w' := by
  have HQ := Lib.hid h
  have HD := Lib.hid hd
  clear h hd
  go_enter Tryz.func50, Tryz.ntmps50
  go_wp2_with fail
  go_loopw [7, 8, 9, 10] (fun iv _ _ _ wr => ∃ (k : Nat) (m : List Int), iv = .int .i64 k ∧ QV wr b B (some ⟨g, 0, none⟩) cap m ∧ Down m k n ∧ m.Perm l ∧ (∀ q, n ≤ q → m.getD q 0 = l.getD q 0) ∧ k ≤ 100000 ∧ Only g w wr) (fun iv _ _ _ _ => n - (intOf iv).toNat)
  case atStart => exact ⟨0, l, rfl, HQ.out, HD.out, List.Perm.refl _, fun _ _ => rfl, by omega, Only.refl _ _⟩
  case round =>
    obtain ⟨k, m, rfl, hq, hdm, hp, hkeep, hk6, ho⟩ := hrel
    have Q0 := Lib.hid hq
    have D0 := Lib.hid hdm
    have P0 := Lib.hid hp
    have K0 := Lib.hid hkeep
    have O0 := Lib.hid ho
    have hm6 : m.length ≤ 6000 := by rw [hp.length_eq]; exact hn
    have hnm : n ≤ m.length := hdm.le
    have c0 := hq.blk.cell (i := 0) rfl
    have mL := meth_less wr B _ c0
    have nL := nil_less wr B
    clear hq hdm hp hkeep ho
    obtain ⟨a1, ha1⟩ : ∃ q, 2 * k + 1 = q := ⟨_, rfl⟩
    obtain ⟨a2, ha2⟩ : ∃ q, a1 + 1 = q := ⟨_, rfl⟩
    have hneg : ¬ (a1 : Int) < 0 := by omega
    by_cases hlt : a1 < n
    · have hge : ¬ (n : Int) ≤ (a1 : Int) := by omega
      by_cases hlt2 : a2 < n
      · obtain ⟨r1, hr1⟩ : ∃ r, decide (m.getD a2 0 < m.getD a1 0) = r := ⟨_, rfl⟩
        have HR1 := Lib.hid hr1
        go_wp2_with (first
          | refine wpList_dbl rfl _ rfl k rfl (by omega) ?_
          | refine wpList_inc rfl _ rfl (2 * k) a1 rfl (by omega) ha1 ?_
          | refine wpList_inc rfl _ rfl a1 a2 rfl (by omega) ha2 ?_)
        refine (qless_is (some ⟨g, 0, none⟩) cap m a2 a1 r1 wr Q0.out.own.at_ (by omega) (by omega) HR1).mono ?_
        rintro e w1 ⟨rfl, b1⟩
        have O1 := Lib.hid (O0.out.trans (Only.of_below b1))
        have c1 := (b1.cell (p := ⟨B, 0, none⟩) Q0.out.blk.lt).trans c0
        have Q1 := Lib.hid (show QV w1 b B (some ⟨g, 0, none⟩) cap m from ⟨Q0.out.blk.below b1, Q0.out.own.below b1, Q0.out.off⟩)
        clear mL nL b1 c0
        have mL := meth_less w1 B _ c1
        have nL := nil_less w1 B
        cases r1 with
        | true =>
          rw [decide_eq_true_eq] at hr1
          have H1 : 2 * k + 1 < n → m.getD a2 0 ≤ m.getD (2 * k + 1) 0 := fun _ => by rw [ha1]; omega
          have H2 : 2 * k + 2 < n → m.getD a2 0 ≤ m.getD (2 * k + 2) 0 := fun _ => by rw [show 2 * k + 2 = a2 by omega]; omega
          obtain ⟨r2, hr2⟩ : ∃ r, decide (m.getD a2 0 < m.getD k 0) = r := ⟨_, rfl⟩
          have HR2 := Lib.hid hr2
          go_wp2_with fail
          refine (qless_is (some ⟨g, 0, none⟩) cap m a2 k r2 w1 Q1.out.own.at_ (by omega) (by omega) HR2).mono ?_
          rintro e w2 ⟨rfl, b2⟩
          have O2 := Lib.hid (O1.out.trans (Only.of_below b2))
          have HB2 := Lib.hid b2
          have c2 := (b2.cell (p := ⟨B, 0, none⟩) Q1.out.blk.lt).trans (Q1.out.blk.cell (i := 0) rfl)
          have mS := meth_swap w2 B _ c2
          have nS := nil_swap w2 B
          have Q2 := Lib.hid (show QV w2 b B (some ⟨g, 0, none⟩) cap m from ⟨Q1.out.blk.below b2, Q1.out.own.below b2, Q1.out.off⟩)
          clear b2
          cases r2 with
          | false =>
            go_wp2_with fail
            go_ret
            rw [decide_eq_false_iff_not] at hr2
            exact ⟨⟨_, rfl⟩, ⟨m, Q2.out, D0.out.done (fun x => Int.le_trans (Int.not_lt.1 hr2) (H1 x)) (fun x => Int.le_trans (Int.not_lt.1 hr2) (H2 x)), P0.out, K0.out⟩, O2.out⟩
          | true =>
            rw [decide_eq_true_eq] at hr2
            go_wp2_with fail
            refine (qswap_is g cap b m (swp m k a2) k a2 w2 Q2.out.own (by omega) (by omega) (Lib.hid rfl)).mono ?_
            rintro e w3 ⟨rfl, own3, o3⟩
            have Q3 := Lib.hid (Q2.out.only o3 own3 (swp_len _ _ _))
            have O3 := Lib.hid (O2.out.trans o3)
            clear own3 o3 mS nS c2
            go_wp2_with fail
            go_roundw
            case rel =>
              refine ⟨a2, swp m k a2, rfl, Q3.out, D0.out.step (by omega) (by omega) (by omega) H1 H2, (swp_perm m k a2 (by omega) (by omega)).trans P0.out, fun q hq => ?_, by omega, O3.out⟩
              rw [swp_at m k a2 q (by omega) (by omega), if_neg (by omega), if_neg (by omega)]
              exact K0.out q hq
            case measure => simp [intOf]; omega
        | false =>
          rw [decide_eq_false_iff_not] at hr1
          have H1 : 2 * k + 1 < n → m.getD a1 0 ≤ m.getD (2 * k + 1) 0 := fun _ => by rw [ha1]; omega
          have H2 : 2 * k + 2 < n → m.getD a1 0 ≤ m.getD (2 * k + 2) 0 := fun _ => by rw [show 2 * k + 2 = a2 by omega]; omega
          obtain ⟨r2, hr2⟩ : ∃ r, decide (m.getD a1 0 < m.getD k 0) = r := ⟨_, rfl⟩
          have HR2 := Lib.hid hr2
          go_wp2_with fail
          refine (qless_is (some ⟨g, 0, none⟩) cap m a1 k r2 w1 Q1.out.own.at_ (by omega) (by omega) HR2).mono ?_
          rintro e w2 ⟨rfl, b2⟩
          have O2 := Lib.hid (O1.out.trans (Only.of_below b2))
          have HB2 := Lib.hid b2
          have c2 := (b2.cell (p := ⟨B, 0, none⟩) Q1.out.blk.lt).trans (Q1.out.blk.cell (i := 0) rfl)
          have mS := meth_swap w2 B _ c2
          have nS := nil_swap w2 B
          have Q2 := Lib.hid (show QV w2 b B (some ⟨g, 0, none⟩) cap m from ⟨Q1.out.blk.below b2, Q1.out.own.below b2, Q1.out.off⟩)
          clear b2
          cases r2 with
          | false =>
            go_wp2_with fail
            go_ret
            rw [decide_eq_false_iff_not] at hr2
            exact ⟨⟨_, rfl⟩, ⟨m, Q2.out, D0.out.done (fun x => Int.le_trans (Int.not_lt.1 hr2) (H1 x)) (fun x => Int.le_trans (Int.not_lt.1 hr2) (H2 x)), P0.out, K0.out⟩, O2.out⟩
          | true =>
            rw [decide_eq_true_eq] at hr2
            go_wp2_with fail
            refine (qswap_is g cap b m (swp m k a1) k a1 w2 Q2.out.own (by omega) (by omega) (Lib.hid rfl)).mono ?_
            rintro e w3 ⟨rfl, own3, o3⟩
            have Q3 := Lib.hid (Q2.out.only o3 own3 (swp_len _ _ _))
            have O3 := Lib.hid (O2.out.trans o3)
            clear own3 o3 mS nS c2
            go_wp2_with fail
            go_roundw
            case rel =>
              refine ⟨a1, swp m k a1, rfl, Q3.out, D0.out.step (by omega) (by omega) (by omega) H1 H2, (swp_perm m k a1 (by omega) (by omega)).trans P0.out, fun q hq => ?_, by omega, O3.out⟩
              rw [swp_at m k a1 q (by omega) (by omega), if_neg (by omega), if_neg (by omega)]
              exact K0.out q hq
            case measure => simp [intOf]; omega
      · have hge2 : ¬ (a2 : Int) < (n : Int) := by omega
        go_wp2_with (first
          | refine wpList_dbl rfl _ rfl k rfl (by omega) ?_
          | refine wpList_inc rfl _ rfl (2 * k) a1 rfl (by omega) ha1 ?_
          | refine wpList_inc rfl _ rfl a1 a2 rfl (by omega) ha2 ?_)
        have H1 : 2 * k + 1 < n → m.getD a1 0 ≤ m.getD (2 * k + 1) 0 := fun _ => by rw [ha1]; omega
        have H2 : 2 * k + 2 < n → m.getD a1 0 ≤ m.getD (2 * k + 2) 0 := fun h => absurd h (by omega)
        obtain ⟨r2, hr2⟩ : ∃ r, decide (m.getD a1 0 < m.getD k 0) = r := ⟨_, rfl⟩
        have HR2 := Lib.hid hr2
        refine (qless_is (some ⟨g, 0, none⟩) cap m a1 k r2 wr Q0.out.own.at_ (by omega) (by omega) HR2).mono ?_
        rintro e w2 ⟨rfl, b2⟩
        have O2 := Lib.hid (O0.out.trans (Only.of_below b2))
        have HB2 := Lib.hid b2
        have c2 := (b2.cell (p := ⟨B, 0, none⟩) Q0.out.blk.lt).trans (Q0.out.blk.cell (i := 0) rfl)
        have mS := meth_swap w2 B _ c2
        have nS := nil_swap w2 B
        have Q2 := Lib.hid (show QV w2 b B (some ⟨g, 0, none⟩) cap m from ⟨Q0.out.blk.below b2, Q0.out.own.below b2, Q0.out.off⟩)
        clear b2
        cases r2 with
        | false =>
          go_wp2_with fail
          go_ret
          rw [decide_eq_false_iff_not] at hr2
          exact ⟨⟨_, rfl⟩, ⟨m, Q2.out, D0.out.done (fun x => Int.le_trans (Int.not_lt.1 hr2) (H1 x)) (fun x => Int.le_trans (Int.not_lt.1 hr2) (H2 x)), P0.out, K0.out⟩, O2.out⟩
        | true =>
          rw [decide_eq_true_eq] at hr2
          go_wp2_with fail
          refine (qswap_is g cap b m (swp m k a1) k a1 w2 Q2.out.own (by omega) (by omega) (Lib.hid rfl)).mono ?_
          rintro e w3 ⟨rfl, own3, o3⟩
          have Q3 := Lib.hid (Q2.out.only o3 own3 (swp_len _ _ _))
          have O3 := Lib.hid (O2.out.trans o3)
          clear own3 o3 mS nS c2
          go_wp2_with fail
          go_roundw
          case rel =>
            refine ⟨a1, swp m k a1, rfl, Q3.out, D0.out.step (by omega) (by omega) (by omega) H1 H2, (swp_perm m k a1 (by omega) (by omega)).trans P0.out, fun q hq => ?_, by omega, O3.out⟩
            rw [swp_at m k a1 q (by omega) (by omega), if_neg (by omega), if_neg (by omega)]
            exact K0.out q hq
          case measure => simp [intOf]; omega
    · have hge : (n : Int) ≤ (a1 : Int) := by omega
      go_wp2_with (first
        | refine wpList_dbl rfl _ rfl k rfl (by omega) ?_
        | refine wpList_inc rfl _ rfl (2 * k) a1 rfl (by omega) ha1 ?_)
      go_ret
      exact ⟨⟨_, rfl⟩, ⟨m, Q0.out, D0.out.done (fun h => absurd h (by omega)) (fun h => absurd h (by omega)), P0.out, K0.out⟩, O0.out⟩
theorem QV.own0 {w : World} {b B : Nat} {A : Option Addr} {cap : Nat} {l : List Int} (h : QV w b B A cap l) (h0 : 0 < l.length) : ∃ g, A = some ⟨g, 0, none⟩ := by
  rcases h.own.row.2 with ⟨_, e⟩ | ⟨g, _, _, e, _⟩
  · omega
  · simp only [Value.slice.injEq] at e; exact ⟨g, e.1⟩
set_option maxRecDepth 100000 in
theorem hpush_is (b B : Nat) (A : Option Addr) (cap : Nat) (l : List Int) (x : Int) (w : World) (h : QV w b B A cap l) (hh : Hp l) (hx : 0 ≤ x ∧ x < 18446744073709551616) (hn : l.length ≤ 5000) (hb : b ≤ w.heap.size) :
    Calls Tryz.prog 49 #[.iface 75 (.pointer (some ⟨B, 0, none⟩)), .iface 40 (.int .u64 x)] w fun e w' => e = .returned (.tuple #[]) ∧ (∃ A' c m, QV w' b B A' c m ∧ Hp m ∧ m.Perm (x :: l) ∧ ∀ k, (Value.slice A' m.length c).ownBlock = some k → (Value.slice A l.length cap).ownBlock = some k ∨ w.heap.size ≤ k) ∧ Fr B (.slice A l.length cap) w w' := by
  have mP := meth_push w B
  have nP := nil_push w B
  have HQ := Lib.hid h
  have HH := Lib.hid hh
  clear h hh
  go_enter Tryz.func49, Tryz.ntmps49
  go_wp2_with fail
  refine (qpush_is b B A cap l x w HQ.out hx hn hb).mono ?_
  rintro e w1 ⟨rfl, ⟨g, c, q1, hg⟩, f1⟩
  have Q1 := Lib.hid q1
  have F1 := Lib.hid f1
  have HG := Lib.hid hg
  have c1 := q1.blk.cell (i := 0) rfl
  have mN := meth_len w1 B _ c1
  have nN := nil_len w1 B
  clear q1 f1 hg mP nP
  go_wp2_with fail
  refine (qlen_is (some ⟨g, 0, none⟩) _ c w1).mono ?_
  rintro e w2 ⟨rfl, rfl⟩
  go_wp2_with (first
    | refine wpList_sub1 rfl _ rfl _ l.length rfl (by rw [List.length_append, List.length_singleton]; push_cast; rfl) (by omega) ?_)
  refine (up_is b B g c (l ++ [x]) l.length w1 Q1.out (Up.start HH.out x) (by simp; omega)).mono ?_
  rintro e w3 ⟨rfl, ⟨m, q3, hm, hp⟩, o3⟩
  have Q3 := Lib.hid q3
  have HM := Lib.hid hm
  have HP := Lib.hid hp
  have O3 := Lib.hid o3
  clear q3 hm hp o3 mN nN c1
  go_wp2_with fail
  go_end0
  exact ⟨rfl, ⟨_, _, m, Q3.out, HM.out, HP.out.trans (List.perm_append_singleton _ _), fun k hk => by
    have e : g = k := by simpa [Value.ownBlock] using hk
    rw [← e]; exact HG.out⟩, F1.out.trans (Fr.of_only (v := .slice (some ⟨g, 0, none⟩) 0 0) O3.out rfl) (fun k hk => by
    have e : g = k := by simpa [Value.ownBlock] using hk
    rw [← e]; exact HG.out)⟩
set_option maxRecDepth 100000 in
theorem hpop_is (b B g cap : Nat) (l : List Int) (w : World) (h : QV w b B (some ⟨g, 0, none⟩) cap l) (hh : Hp l) (h0 : 0 < l.length) (hn : l.length ≤ 5000) :
    Calls Tryz.prog 36 #[.iface 75 (.pointer (some ⟨B, 0, none⟩))] w fun e w' => ∃ x m, e = .returned (.iface 40 (.int .u64 x)) ∧ l.Perm (x :: m) ∧ (∀ d ∈ l, x ≤ d) ∧ Hp m ∧ QV w' b B (some ⟨g, 0, none⟩) cap m ∧ Fr B (.slice (some ⟨g, 0, none⟩) l.length cap) w w' := by
  obtain ⟨n, hln⟩ : ∃ n, l.length = n + 1 := ⟨l.length - 1, by omega⟩
  have HQ := Lib.hid h
  have HH := Lib.hid hh
  have HL := Lib.hid hln
  have c0 := h.blk.cell (i := 0) rfl
  have mN := meth_len w B _ c0
  have nN := nil_len w B
  have mS := meth_swap w B _ c0
  have nS := nil_swap w B
  have hnl : n < l.length := by omega
  clear h hh hln
  go_enter Tryz.func36, Tryz.ntmps36
  go_wp2_with fail
  refine (qlen_is (some ⟨g, 0, none⟩) _ cap w).mono ?_
  rintro e w2 ⟨rfl, rfl⟩
  go_wp2_with (first
    | refine wpList_sub1 rfl _ rfl _ n rfl (by rw [HL.out]; push_cast; rfl) (by omega) ?_)
  refine (qswap_is g cap b l (swp l 0 n) 0 n w HQ.out.own h0 hnl (Lib.hid rfl)).mono ?_
  rintro e w1 ⟨rfl, own1, o1⟩
  have Q1 := Lib.hid (HQ.out.only o1 own1 (swp_len _ _ _))
  have O1 := Lib.hid o1
  clear own1 o1 mS nS mN nN c0
  go_wp2_with fail
  refine (down_is b B g cap (swp l 0 n) n w1 Q1.out (Down.start HH.out HL.out) (by rw [swp_len]; omega)).mono ?_
  rintro e w3 ⟨⟨rb, rfl⟩, ⟨m, q3, hm, hp, hk⟩, o3⟩
  have Q3 := Lib.hid q3
  have HM := Lib.hid hm
  have HP := Lib.hid (hp.trans (swp_perm l 0 n (by omega) hnl))
  have HK := Lib.hid (show m.getD n 0 = l.getD 0 0 from by rw [hk n (Nat.le_refl _), swp_last HL.out])
  have O3 := Lib.hid (O1.out.trans o3)
  have c3 := q3.blk.cell (i := 0) rfl
  have mP := meth_pop w3 B
  have nP := nil_pop w3 B
  clear q3 hm hp hk o3
  obtain ⟨x0, hx0⟩ : ∃ x, l.getD 0 0 = x := ⟨_, rfl⟩
  rw [hx0] at HK
  go_wp2_with fail
  refine (qpop_is b B g cap m n x0 w3 Q3.out (by rw [HP.out.length_eq]; exact HL.out) (by omega) HK).mono ?_
  rintro e w4 ⟨rfl, q4, o4⟩
  have Q4 := Lib.hid q4
  have O4 := Lib.hid o4
  clear q4 o4 mP nP c3
  go_wp2_with fail
  go_ret
  obtain ⟨t1, t2⟩ := take_out HL.out HP.out HM.out HK.out
  refine ⟨x0, m.take n, rfl, t1, fun d hd => hx0 ▸ HH.out.top d hd, t2, Q4.out, ?_⟩
  refine (Fr.of_only (B := B) (v := .slice (some ⟨g, 0, none⟩) l.length cap) O3.out rfl).trans (v' := .slice (some ⟨g, 0, none⟩) 0 0) ⟨O4.out.os, O4.out.tape, O4.out.output, O4.out.size, fun k hk hn _ => O4.out.block k hk hn⟩ (fun k hk => .inl ?_)
  simpa [Value.ownBlock] using hk
end Go.Proofs.YtpgafijeecmgmaaGreat
namespace Go.Proofs.YtpgafijeecmgmaaGreat
open Go.RowKit

/-- The call answers a row of its own. -/
def GivesOwnN (w : World) (l : List Int) (e : Ending) (w' : World) : Prop := ∃ A c, e = .returned (.slice A l.length c) ∧ OwnN w' w.heap.size (.slice A l.length c) l ∧ Below w.heap.size w w'
set_option maxRecDepth 100000 in
theorem grow_is (n : Nat) (w : World) (hm : n ≤ 10000) : Calls Tryz.prog 59 #[.slice none 0 0, .int .i64 n] w (GivesOwnN w []) := by
  rcases Nat.eq_zero_or_pos n with h0 | hn
  · subst h0
    go_enter Tryz.func59, Tryz.ntmps59
    go_wp2_with fail
    go_ret
    exact ⟨none, 0, rfl, ownN_nil _ _, Below.refl _ _⟩
  obtain ⟨i0, hi, hz0, hz1, hz2⟩ := info_parts info27n
  have hrz : ∀ ty, (Builtin.append_ #[27, 3] ty #[.slice none 0 0, .int .i64 n]).run Tryz.prog w =
      .ok (.slice (some ⟨w.heap.size, 0, none⟩) n (grownCap w n 0 40)) (w.drew.alloc (.cells ((#[] : Array Value) ++ Builtin.zeroCells (Value.int .u64 0).cells n ++ Builtin.zeroCells (Value.int .u64 0).cells (grownCap w n 0 40 - n)) 40)) := fun ty => by
    have h := Lib.run_append_grow_zeros w 27 3 ty 40 i0 (.int .u64 0) .i64 .i64 Tryz.underlying27 Tryz.underlying3 hi hz0 none 0 0 [] (run_firstCells_none w.drew i0.size 0 0 0) n hn (by omega) (by omega) (by omega) (by rw [hz2]; omega) (growslice_fits (by omega) (by rw [hz2]; omega))
    rw [Nat.zero_add] at h
    exact h
  have hG : n ≤ grownCap w n 0 40 := grownCap_ge w _ _ _
  have hG2 := grownCap_le_maxLen w n 0 40 (by unfold maxLen; omega)
  obtain ⟨G, hGe⟩ : ∃ G, grownCap w n 0 40 = G := ⟨_, rfl⟩
  rw [hGe] at hrz hG hG2
  have hown := Lib.hid (World.ownsRow_made (base := w.heap.size) (e := 40) (size := 1) w (Builtin.zeroCells #[Value.int .u64 0] n ++ Builtin.zeroCells #[Value.int .u64 0] (G - n)) G (Nat.le_refl _) hG2 (by simp [size_zeroCells]; omega))
  have hG63 : G ≤ 9223372036854775807 := by unfold maxLen at hG2; omega
  clear hi hz0 hz1 hz2 hGe hG2
  have HR := Lib.hid hrz
  clear hrz
  go_enter Tryz.func59, Tryz.ntmps59
  go_wp2_with (at_builtin; refine Lib.wpList_append_run _ rfl _ _ _ _ rfl _ _ rfl rfl _ _ (HR.out _) ?_)
  go_ret
  exact ⟨_, _, rfl, ⟨nums_nil, hown.out.drew⟩, ((Below.refl _ w).alloc (Nat.le_refl _) _).drew⟩
set_option maxRecDepth 100000 in
theorem concat_is (B : Nat) (v1 v2 : Value) (l1 l2 : List Int) (w : World) (hb : Blk w B 27 [v1, v2]) (h1 : NumsAt w v1 l1) (h2 : NumsAt w v2 l2) (hn1 : l1.length ≤ 4000) (hn2 : l2.length ≤ 4000) :
    Calls Tryz.prog 47 #[.slice (some ⟨B, 0, none⟩) 2 2] w (GivesOwnN w (l1 ++ l2)) := by
  have H1 := Lib.hid h1
  have H2 := Lib.hid h2
  have HB := Lib.hid hb
  obtain ⟨a1, cap1, rfl⟩ := h1.shape
  obtain ⟨a2, cap2, rfl⟩ := h2.shape
  have q0 := hb.cell (i := 0) rfl
  have q1 := hb.cell (i := 1) rfl
  have e1 : IntKind.i64.wrap (l1.length : Int) = (l1.length : Int) := by rw [IntKind.wrap_i64]; omega
  have e2 : IntKind.i64.wrap ((l1.length : Int) + (l2.length : Int)) = ((l1.length + l2.length : Nat) : Int) := by rw [IntKind.wrap_i64]; omega
  have e3 : ¬ (l1.length : Int) < 0 := by omega
  have e4 : ¬ ((l1.length + l2.length : Nat) : Int) < 0 := by omega
  obtain ⟨n, hn⟩ : ∃ n, l1.length + l2.length = n := ⟨_, rfl⟩
  rw [hn] at e2 e4
  have HG := Lib.hid (grow_is n w (by omega))
  clear h1 h2 hb
  go_enter Tryz.func47, Tryz.ntmps47
  go_wp2_with fail
  refine wp_loop_rounds 3 ?_
  rw [rounds_succ]
  go_wp2_with fail
  rw [rounds_succ]
  go_wp2_with fail
  rw [rounds_succ]
  go_wp2_with fail
  refine HG.out.mono ?_
  rintro e w1 ⟨A0, c0, rfl, hown, b1⟩
  have HO := Lib.hid hown
  have B1 := Lib.hid b1
  have p0 := (HB.out.below b1).cell (i := 0) rfl
  have V1 := Lib.hid (H1.out.below b1)
  clear hown b1 q0 q1 HG
  go_wp2_with fail
  refine wp_loop_rounds 3 ?_
  rw [rounds_succ]
  go_wp2_with (at_builtin; refine wpList_app_n u24n rfl (.tmp 31) (.tmp 32) rfl w.heap.size _ _ [] l1 rfl rfl HO.out V1.out (by simp; omega) B1.out.size ?_; intro E2 k2 cap3 w2 hk2 hown2 b2 _; have HO2 := Lib.hid hown2.out; have B2 := Lib.hid (B1.out.trans b2.out); have p1 := (HB.out.below B2.out).cell (i := 1) rfl; have V2 := Lib.hid (H2.out.below B2.out); clear hown2 b2 p0)
  rw [rounds_succ]
  go_wp2_with (at_builtin; refine wpList_app_n u24n rfl (.tmp 31) (.tmp 32) rfl w.heap.size _ _ ([] ++ l1) l2 rfl rfl HO2.out V2.out (by simp; omega) B2.out.size ?_; intro E3 k3 cap4 w3 hk3 hown3 b3 _; have HO3 := Lib.hid hown3.out; have B3 := Lib.hid (B2.out.trans b3.out); clear hown3 b3 p1)
  rw [rounds_succ]
  go_wp2_with fail
  go_ret
  have ek := hk3.out
  simp only [List.nil_append] at ek
  subst ek
  exact ⟨_, _, rfl, by simpa using HO3.out, B3.out⟩
end Go.Proofs.YtpgafijeecmgmaaGreat
