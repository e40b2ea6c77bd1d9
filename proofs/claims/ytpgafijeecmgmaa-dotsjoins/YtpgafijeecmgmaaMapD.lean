/- A map of numbers to nothing: which numbers it holds. -/
import Derived.Test.YtpgafijeecmgmaaMaps
import Derived.WalkArith
import Derived.Test.YtpgafijeecmgmaaNums
namespace Go.Proofs.Ytpgafijeecmgmaa
open Go.RowKit Go.Maps

theorem keyedD : Keyed Try.prog 27 := int_keyed Try.underlying27
theorem keyD {d : Int} (h : 0 ≤ d ∧ d < 18446744073709551616) : keyOf Try.prog 27 (.int .u64 d) = some (.int .u64 d) :=
  keyOf_int_mk Try.underlying27 (WalkArith.wf_u64 (by omega))
theorem zero61 (w : World) : (zeroValue 61).run Try.prog w = .ok (.agg #[]) w := by kernel_rfl
/-- The map in block b holds the numbers of l, and no other. -/
structure SetM (w : World) (b n : Nat) (l : List Int) : Prop where
  own : ∃ D : DataW Value, w.ownsMap Try.prog 27 unitElem b n D ∧ ∀ d, 0 ≤ d ∧ d < 18446744073709551616 → Maps.has D (.int .u64 d) = l.contains d
theorem SetM.lt {w : World} {b n : Nat} {l : List Int} (h : SetM w b n l) : b < w.heap.size := by obtain ⟨D, h1, _⟩ := h.own; exact h1.lt
theorem SetM.map {w : World} {b n : Nat} {l : List Int} (h : SetM w b n l) : ∃ es c, w.heap[b]? = some (.map es c) := by obtain ⟨D, ⟨es, c, e, _⟩, _⟩ := h.own; exact ⟨es, c, e⟩
theorem SetM.same {w w' : World} {b n : Nat} {l : List Int} (h : SetM w b n l) (hb : w'.heap[b]? = w.heap[b]?) : SetM w' b n l := by
  obtain ⟨D, ⟨es, c, e, r⟩, h2⟩ := h.own; exact ⟨D, ⟨es, c, hb.trans e, r⟩, h2⟩
theorem SetM.below {w w' : World} {b n : Nat} {l : List Int} (h : SetM w b n l) (hb : Below w.heap.size w w') : SetM w' b n l := h.same (hb.block b h.lt)
theorem SetM.mono {w : World} {b n n' : Nat} {l : List Int} (h : SetM w b n l) (hn : n ≤ n') : SetM w b n' l := by
  obtain ⟨D, h1, h2⟩ := h.own; exact ⟨D, h1.mono hn, h2⟩
theorem SetM.re {w : World} {b n : Nat} {l m : List Int} (h : SetM w b n l) (hm : ∀ d, d ∈ l ↔ d ∈ m) : SetM w b n m := by
  obtain ⟨D, h1, h2⟩ := h.own
  exact ⟨D, h1, fun d hd => by rw [h2 d hd, Bool.eq_iff_iff, List.contains_iff_mem, List.contains_iff_mem]; exact hm d⟩
theorem SetM.neq {w : World} {b n g t : Nat} {l : List Int} {cs : List Value} (h : SetM w b n l) (hg : Blk w g t cs) : b ≠ g := by
  intro e
  subst e
  obtain ⟨es, c, e⟩ := h.map
  unfold Blk at hg
  rw [hg] at e; cases e
theorem OwnN.neM {w : World} {B b n : Nat} {v : Value} {l m : List Int} (h : OwnN w B v l) (hm : SetM w b n m) : v.ownBlock ≠ some b := by
  intro e
  obtain ⟨es, c, e2⟩ := hm.map
  rcases h.row.2 with ⟨rfl, _⟩ | ⟨g, cap, cur, rfl, _, hg, _⟩
  · cases e
  · have : g = b := by simpa [Value.ownBlock] using e
    subst this
    rw [hg] at e2; cases e2
theorem run_putD {w : World} {b n : Nat} {l : List Int} (h : SetM w b n l) (hn : n ≤ 50000) {d : Int} (hd : 0 ≤ d ∧ d < 18446744073709551616) :
    ∃ w', (Instr.mapUpdate 60 (.map (some b)) (.int .u64 d) (.agg #[])).run Try.prog w = .ok () w' ∧ SetM w' b (n + 1) (d :: l) ∧ w.grownBy w' (some b) := by
  obtain ⟨D, h1, h2⟩ := h.own
  obtain ⟨w', hr, h3, h4⟩ := h1.update keyedD Try.underlying60 (by unfold maxLen; omega) (val := .agg #[]) (d := .agg []) (ps := []) (keyD hd) unitElem_mk
  refine ⟨w', hr, ⟨_, h3, fun x hx => ?_⟩, h4⟩
  by_cases e : x = d
  · subst e
    rw [has_put_same h1.isMap (keyedD.key (keyD hd))]
    simp
  · rw [has_put_other (fun e2 => e (by injection e2)), h2 x hx]
    simp [e]
section
variable {ops : Array Oper} {rest : List Oper} {op : Oper} {a : Act} {w : World} {Q : Exit → Act → World → Prop}
theorem wpList_lookD (hgd : op.guard = none) (x y : Operand) (ho : op.op = .lookup 60 x y true) (b n : Nat) (l : List Int) (d : Int) (r : Bool) (hx : a.eval x = .map (some b)) (hy : a.eval y = .int .u64 d) (hm : SetM w b n l) (hd : 0 ≤ d ∧ d < 18446744073709551616) (hr : l.contains d = r)
    (h : wpList Try.prog ops Q rest (a.put op.dst (.tuple #[.agg #[], .bool r])) w) : wpList Try.prog ops Q (op :: rest) a w := by
  obtain ⟨D, h1, h2⟩ := hm.own
  refine wpList_lookup_own_unit w hgd x y 60 ho 27 61 keyedD Try.underlying60 (zero61 w) b n D hx h1 _ _ hy (keyD hd) ?_
  rw [h2 d hd, hr]; exact h
theorem wpList_putD (hgd : op.guard = none) (x y z : Operand) (ho : op.op = .mapUpdate 60 x y z) (b n : Nat) (l : List Int) (d : Int) (hx : a.eval x = .map (some b)) (hy : a.eval y = .int .u64 d) (hz : a.eval z = .agg #[]) (hm : SetM w b n l) (hn : n ≤ 50000) (hd : 0 ≤ d ∧ d < 18446744073709551616)
    (h : ∀ w', Hid (SetM w' b (n + 1) (d :: l)) → Hid (Only b w w') → wpList Try.prog ops Q rest (a.put op.dst undef) w') : wpList Try.prog ops Q (op :: rest) a w := by
  refine wpList_plain hgd fun K hK => ?_
  obtain ⟨w', hr, h1, h2⟩ := run_putD hm hn hd
  unfold Oper.wp execOp
  simp only [ho, hx, hy, hz, Sem.run_bind, hr, Result.andThen_ok, Sem.run_pure]
  exact hK _ _ (h _ (Lib.hid h1) (Lib.hid ⟨h2.os, h2.tape, h2.output, h2.size, fun k hk hn => h2.block k hk (fun e => hn (Option.some.inj e))⟩))
theorem wpList_makeD (hgd : op.guard = none) (ho : op.op = .makeMap 60 none)
    (h : ∀ b w', Hid (b = w.heap.size) → Hid (SetM w' b 0 []) → Hid (Below w.heap.size w w') → wpList Try.prog ops Q rest (a.put op.dst (.map (some b))) w') : wpList Try.prog ops Q (op :: rest) a w := by
  refine wpList_plain hgd fun K hK => ?_
  have H := h w.heap.size (w.alloc (.map #[] 0)) (Lib.hid rfl) (Lib.hid ⟨.map [], World.ownsMap_made w Try.prog 27 unitElem, fun d _ => rfl⟩) (Lib.hid (new_below w _))
  unfold Oper.wp execOp
  simp [ho, Instr.makeMap, go_sem]
  exact hK _ _ H
theorem wpList_alloc0 (hgd : op.guard = none) (ho : op.op = .alloc 61)
    (h : ∀ g w', Hid (g = w.heap.size) → Hid (Blk w' g 61 []) → Hid (Below w.heap.size w w') → wpList Try.prog ops Q rest (a.put op.dst (.pointer (some ⟨g, 0, none⟩))) w') : wpList Try.prog ops Q (op :: rest) a w := by
  refine wpList_plain hgd fun K hK => ?_
  have hz := zero61
  have H := h w.heap.size (w.alloc (.cells #[] 61)) (Lib.hid rfl) (Lib.hid (blk_alloc w 61 [])) (Lib.hid (new_below w _))
  unfold Oper.wp execOp
  simp [ho, Instr.alloc, hz]
  exact hK _ _ H
end
end Go.Proofs.Ytpgafijeecmgmaa
