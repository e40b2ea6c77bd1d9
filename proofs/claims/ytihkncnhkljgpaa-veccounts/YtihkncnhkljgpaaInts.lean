/- Numbers in slices: slices of one, of one's own, what they read as; the contract of Same of the reference. -/
import Derived.Test.YtihkncnhkljgpaaSplit
import Derived.Test.YtihkncnhkljgpaaGRows
namespace Go.Proofs.Ytihkncnhkljgpaa
open Go.RowKit

section
variable {o : Oper} {a : Act} {w : World}
theorem exec_add1 (x : Operand) (ho : o.op = .binOp .add 3 x (.const (.int .i64 1)) 3) (z : Int) (hx : a.eval x = .int .i64 z) (hz : -100000 ≤ z ∧ z ≤ 100000) :
    (execOp a.eval o).run Try.prog w = .ok (.value (.int .i64 (z + 1))) w := by
  have hc : a.eval (.const (.int .i64 1)) = .int .i64 1 := rfl
  unfold execOp
  simp only [ho]
  rw [hx, hc]
  simp [go_sem]
  rw [IntKind.wrap_i64]; omega
end
theorem info3s : (Try.prog.info? 3).map (·.size) = some 1 := by kernel_rfl
theorem fill3 (v : Value) : (Array.map (fun x => [Value.int IntKind.i64 0][x % 1]?.getD default) (Array.range 1)).setIfInBounds 0 v = #[v] := by kernel_rfl
theorem run_ints1 (i : Int) (w : World) : (Instr.buildSlice 45 1 #[(0, .int .i64 i)]).run Try.prog w = .ok (.slice (some ⟨w.heap.size, 0, none⟩) 1 1) (w.alloc (.cells #[.int .i64 i] 3)) := by
  have hz := Try.zeroValue3
  have hsz := Try.sizeOf3
  simp only [Instr.buildSlice, Sem.run_bind, run_underlying Try.underlying45, Result.andThen_ok, hsz]
  rw [if_neg (by decide), if_neg (by decide)]
  simp [hz, Instr.fill, Value.cells]
  rw [fill3]
  rfl
theorem wpList_ints1 {ops : Array Oper} {rest : List Oper} {op : Oper} {a : Act} {w : World} {Q : Exit → Act → World → Prop} (hgd : op.guard = none) (x : Operand) (ho : op.op = .buildSlice 45 1 #[(0, x)]) (i : Int) (hx : a.eval x = .int .i64 i)
    (h : ∀ g w', Hid (g = w.heap.size) → Hid (Blk w' g 3 [.int .i64 i]) → Hid (Below w.heap.size w w') → wpList Try.prog ops Q rest (a.put op.dst (.slice (some ⟨g, 0, none⟩) 1 1)) w') : wpList Try.prog ops Q (op :: rest) a w := by
  refine wpList_plain hgd fun K hK => ?_
  have hrun := run_ints1 i w
  unfold Oper.wp execOp
  simp only [ho, List.map_toArray, List.map_cons, List.map_nil, hx, Sem.run_bind, hrun, Result.andThen_ok, Sem.run_pure]
  exact hK _ _ (h _ _ (Lib.hid rfl) (Lib.hid (blk_alloc w 3 [.int .i64 i])) (Lib.hid (new_below w _)))
theorem OwnI.only {w w' : World} {B g : Nat} {v : Value} {l : List Nat} (h : OwnI w B v l) (ho : Only g w w') (hg : g < B) : OwnI w' B v l :=
  h.kept (o := some g) ⟨ho.os, ho.tape, ho.output, ho.size, fun k hk hn => ho.block k hk (fun e => hn (by rw [e]))⟩ (.inr (fun e => by have := (h.lt e).1; omega))
/-- A slice that reads as numbers. -/
structure IntsV (w : World) (A : Option Addr) (n cap : Nat) (l : List Nat) : Prop where
  len : l.length = n
  at_ : ∀ i, i < n → ∃ G off, A = some ⟨G, off, none⟩ ∧ G < w.heap.size ∧ w.cell? ⟨G, off + i, none⟩ = some (.int .i64 (l.getD i 0 : Nat))
theorem IntsV.below {w w' : World} {A : Option Addr} {n cap : Nat} {l : List Nat} (h : IntsV w A n cap l) (hb : Below w.heap.size w w') : IntsV w' A n cap l :=
  ⟨h.len, fun i hi => by obtain ⟨G, off, e, hG, hc⟩ := h.at_ i hi; exact ⟨G, off, e, Nat.lt_of_lt_of_le hG hb.size, (hb.cell (p := ⟨G, off + i, none⟩) hG).trans hc⟩⟩
theorem OwnI.ints {w : World} {B : Nat} {A : Option Addr} {n cap : Nat} {l : List Nat} (h : OwnI w B (.slice A n cap) l) : IntsV w A n cap l := by
  rcases h.row.2 with ⟨e, h0⟩ | ⟨g, cap', cur, e, hb, hg, hn, hcm, hs, ht⟩
  · simp only [Value.slice.injEq] at e
    obtain ⟨rfl, rfl, rfl⟩ := e
    exact ⟨h0, fun i hi => absurd hi (Nat.not_lt_zero _)⟩
  · simp only [Value.slice.injEq] at e
    obtain ⟨rfl, rfl, rfl⟩ := e
    refine ⟨rfl, fun i hi => ⟨g, 0, rfl, (Array.getElem?_eq_some_iff.1 hg).1, ?_⟩⟩
    rw [cell_of_row _ g _ cur 3 (0, 0) hg, Nat.zero_add]
    have e : (l.map fun (n : Nat) => Value.int .i64 (n : Int))[i]? = some (.int .i64 (l.getD i 0 : Nat)) := by rw [List.getElem?_map, List.getD_eq_getElem?_getD, List.getElem?_eq_getElem hi]; rfl
    rw [← ht, List.getElem?_take_of_lt (by omega)] at e
    simpa using e
/-- The call answers numbers. -/
def GivesI (w : World) (l : List Nat) (e : Ending) (w' : World) : Prop := (∃ A n cap, e = .returned (.slice A n cap) ∧ IntsV w' A n cap l ∧ ∀ a, A = some a → w.heap.size ≤ a.block) ∧ Below w.heap.size w w'
/-- Where a number lies. -/
structure IElem (w : World) (A : Option Addr) (n G p i z : Nat) : Prop where
  ad : ∃ off, A = some ⟨G, off, none⟩ ∧ p = off + i
  lt : i < n
  cell : w.cell? ⟨G, p, none⟩ = some (.int .i64 z)
theorem IntsV.elem {w : World} {A : Option Addr} {n cap : Nat} {l : List Nat} (h : IntsV w A n cap l) (i : Nat) (hi : i < n) : ∃ G p, IElem w A n G p i (l.getD i 0) ∧ G < w.heap.size := by
  obtain ⟨G, off, e, hG, hc⟩ := h.at_ i hi
  exact ⟨G, off + i, ⟨⟨off, e, rfl⟩, hi, hc⟩, hG⟩
theorem IElem.below {w w' : World} {A : Option Addr} {n G p i z : Nat} (h : IElem w A n G p i z) (hb : Below w.heap.size w w') (hG : G < w.heap.size) : IElem w' A n G p i z := ⟨h.ad, h.lt, (hb.cell (p := ⟨G, p, none⟩) hG).trans h.cell⟩
theorem exec_indexI {op : Oper} {a : Act} {w : World} (x y : Operand) (ho : op.op = .indexAddr 45 x y) (A : Option Addr) (n cap G p i v : Nat) (z : Int) (hx : a.eval x = .slice A n cap) (hy : a.eval y = .int .i64 z) (hz : z = (i : Int)) {W : World} (h : IElem W A n G p i v) :
    (execOp a.eval op).run Try.prog w = .ok (.value (.pointer (some ⟨G, p, none⟩))) w := by
  obtain ⟨off, hA, rfl⟩ := h.ad
  have hi := h.lt
  have hr : (Instr.indexAt 45 (.slice (some ⟨G, off, none⟩) n cap) (.int .i64 (i : Int))).run Try.prog w = .ok (.pointer (some ⟨G, off + i, none⟩)) w := by
    simp only [Instr.indexAt, asIntOf, Sem.run_bind, Sem.run_pure, Result.andThen_ok, run_underlying Try.underlying45]
    rw [if_pos ⟨by omega, by omega⟩]
    simp [Addr.add]
  unfold execOp
  simp only [ho, hx, hy, hz, hA, Sem.run_bind, hr, Result.andThen_ok, Sem.run_pure]
set_option maxRecDepth 100000 in
set_option maxHeartbeats 4000000 in
theorem sameI_is (A B : Option Addr) (n cap cap2 : Nat) (l : List Nat) (w : World) (h : IntsV w A n cap l) (h2 : IntsV w B n cap2 l) (hn : n ≤ 5000) : Calls Try.prog 21 #[.slice A n cap, .slice B n cap2] w fun e w' => e = .returned (.bool true) ∧ Below w.heap.size w w' := by
  have hbn : ((n : Int) == (n : Int)) = true := by simp
  have H := Lib.hid h
  have J := Lib.hid h2
  clear h h2
  go_enter Try.func21, Try.ntmps21
  go_wp2_with fail
  go_loopw [5] (fun i wr => ∃ j : Nat, j ≤ n ∧ i = .int .i64 j ∧ Below w.heap.size w wr) (fun i _ => n - (intOf i).toNat)
  case atStart => exact ⟨0, Nat.zero_le _, rfl, Below.refl _ _⟩
  case round =>
    obtain ⟨j, hj, rfl, hb⟩ := hrel
    have BB := Lib.hid hb
    clear hb
    by_cases hlt : j < n
    · obtain ⟨G, p, hE, hG⟩ := (H.out.below BB.out).elem j hlt
      obtain ⟨G2, p2, hF, hG2⟩ := (J.out.below BB.out).elem j hlt
      obtain ⟨z, hz⟩ : ∃ z, l.getD j 0 = z := ⟨_, rfl⟩
      rw [hz] at hE hF
      have E := Lib.hid hE
      have F := Lib.hid hF
      have BL := Lib.hid hG
      have BL2 := Lib.hid hG2
      have hzz : ((z : Int) == (z : Int)) = true := by simp
      clear hE hF hG hG2 hz
      go_wp2_with fail
      have S1 := Lib.hid (show Below wr.heap.size wr wr.drew from below_drew (Below.refl _ _))
      refine wp_region_noPanic ?_
      refine wp_region_held_drew (S := fun W => Below wr.heap.size wr W) (by kernel_rfl) S1.out (fun _ => ?_)
      refine wpAnyH_take (i := 0) (oi := { dst := some 17, op := Go.Op.move (Go.Operand.tmp 0), type := 45, pos := _, after := #[], guard := none }) (v := ?_) rfl (by kernel_rfl) (by kernel_rfl) (by kernel_rfl) (fun _ _ _ h => h) (Or.inl ⟨by rfl, ?_⟩) S1.out ?_
      rotate_left
      · intro W hW; (go_simp; try with_reducible rfl)
      try simp only [Act.put, List.setIfInBounds_toArray, List.set_cons_zero, List.set_cons_succ]
      refine wpAnyH_take (i := 1) (oi := { dst := some 18, op := Go.Op.move (Go.Operand.tmp 5), type := 3, pos := _, after := #[], guard := none }) (v := ?_) rfl (by kernel_rfl) (by kernel_rfl) (by kernel_rfl) (fun _ _ _ h => h) (Or.inl ⟨by rfl, ?_⟩) S1.out ?_
      rotate_left
      · intro W hW; (go_simp; try with_reducible rfl)
      try simp only [Act.put, List.setIfInBounds_toArray, List.set_cons_zero, List.set_cons_succ]
      refine wpAnyH_take (i := 2) (oi := { dst := some 19, op := Go.Op.indexAddr 45 (Go.Operand.tmp 17) (Go.Operand.tmp 18), type := 0, pos := _, after := #[{ on := 0, ground := Go.Ground.data }, { on := 1, ground := Go.Ground.data }], guard := none }) (v := .pointer (some ⟨G, p, none⟩)) rfl (by kernel_rfl) (by kernel_rfl) (by kernel_rfl) (fun _ _ _ h => h) (Or.inl ⟨by rfl, fun W hW => exec_indexI _ _ rfl A n cap G p j z _ rfl rfl (by first | rfl | omega) E.out⟩) S1.out ?_
      try simp only [Act.put, List.setIfInBounds_toArray, List.set_cons_zero, List.set_cons_succ]
      refine wpAnyH_take (i := 3) (oi := { dst := some 20, op := Go.Op.load 3 (Go.Operand.tmp 19), type := 3, pos := _, after := #[{ on := 2, ground := Go.Ground.data }], guard := none }) (v := ?_) rfl (by kernel_rfl) (by kernel_rfl) (by kernel_rfl) (fun _ _ _ h => h) (Or.inl ⟨by rfl, ?_⟩) S1.out ?_
      rotate_left
      · intro W hW; have c0 := (E.out.below hW BL.out).cell; (go_simp; try with_reducible rfl)
      try simp only [Act.put, List.setIfInBounds_toArray, List.set_cons_zero, List.set_cons_succ]
      refine wpAnyH_take (i := 4) (oi := { dst := some 21, op := Go.Op.move (Go.Operand.tmp 1), type := 45, pos := _, after := #[], guard := none }) (v := ?_) rfl (by kernel_rfl) (by kernel_rfl) (by kernel_rfl) (fun _ _ _ h => h) (Or.inl ⟨by rfl, ?_⟩) S1.out ?_
      rotate_left
      · intro W hW; (go_simp; try with_reducible rfl)
      try simp only [Act.put, List.setIfInBounds_toArray, List.set_cons_zero, List.set_cons_succ]
      refine wpAnyH_take (i := 5) (oi := { dst := some 22, op := Go.Op.move (Go.Operand.tmp 5), type := 3, pos := _, after := #[], guard := none }) (v := ?_) rfl (by kernel_rfl) (by kernel_rfl) (by kernel_rfl) (fun _ _ _ h => h) (Or.inl ⟨by rfl, ?_⟩) S1.out ?_
      rotate_left
      · intro W hW; (go_simp; try with_reducible rfl)
      try simp only [Act.put, List.setIfInBounds_toArray, List.set_cons_zero, List.set_cons_succ]
      refine wpAnyH_take (i := 6) (oi := { dst := some 23, op := Go.Op.indexAddr 45 (Go.Operand.tmp 21) (Go.Operand.tmp 22), type := 0, pos := _, after := #[{ on := 4, ground := Go.Ground.data }, { on := 5, ground := Go.Ground.data }], guard := none }) (v := .pointer (some ⟨G2, p2, none⟩)) rfl (by kernel_rfl) (by kernel_rfl) (by kernel_rfl) (fun _ _ _ h => h) (Or.inl ⟨by rfl, fun W hW => exec_indexI _ _ rfl B n cap2 G2 p2 j z _ rfl rfl (by first | rfl | omega) F.out⟩) S1.out ?_
      try simp only [Act.put, List.setIfInBounds_toArray, List.set_cons_zero, List.set_cons_succ]
      refine wpAnyH_take (i := 7) (oi := { dst := some 24, op := Go.Op.load 3 (Go.Operand.tmp 23), type := 3, pos := _, after := #[{ on := 6, ground := Go.Ground.data }], guard := none }) (v := ?_) rfl (by kernel_rfl) (by kernel_rfl) (by kernel_rfl) (fun _ _ _ h => h) (Or.inl ⟨by rfl, ?_⟩) S1.out ?_
      rotate_left
      · intro W hW; have c0 := (F.out.below hW BL2.out).cell; (go_simp; try with_reducible rfl)
      try simp only [Act.put, List.setIfInBounds_toArray, List.set_cons_zero, List.set_cons_succ]
      refine wpAnyH_take (i := 8) (oi := { dst := some 25, op := Go.Op.binOp Go.BinOp.neq 3 (Go.Operand.tmp 20) (Go.Operand.tmp 24) 3, type := 4, pos := _, after := #[{ on := 3, ground := Go.Ground.data }, { on := 7, ground := Go.Ground.data }], guard := none }) (v := ?_) rfl (by kernel_rfl) (by kernel_rfl) (by kernel_rfl) (fun _ _ _ h => h) (Or.inl ⟨by rfl, ?_⟩) S1.out ?_
      rotate_left
      · intro W hW; (go_simp; try with_reducible rfl)
      try simp only [Act.put, List.setIfInBounds_toArray, List.set_cons_zero, List.set_cons_succ]
      refine wpAnyH_done (by kernel_rfl) ?_ _
      refine NoPanic.normal ?_
      go_wp2_with fail
      go_roundw
      case rel => exact ⟨j + 1, by omega, by go_num, BB.out.trans (S1.out.mono BB.out.size)⟩
      case measure => simp [intOf]; omega
    · obtain rfl : n = j := by omega
      go_wp2_with fail
      go_ret
      exact ⟨rfl, BB.out⟩
end Go.Proofs.Ytihkncnhkljgpaa
