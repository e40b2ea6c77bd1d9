/- A map of names to nothing: which names it holds. -/
import Derived.Test.YtdigbipfchgjmaaGreatMaps
import Derived.Test.YtdigbipfchgjmaaGreatKeyT
namespace Go.Proofs.YtdigbipfchgjmaaGreat
open Go.RowKit Go.Maps

theorem keyType25n : Tryz.prog.keyType 25 = true := by kernel_rfl
theorem row25n : (25 : TypeId) < Tryz.prog.types.size := of_decide_eq_true (by kernel_rfl)
theorem keyAt25n : Tryz.prog.keyTypeAt 2 25 = true := by kernel_rfl
theorem cells25n : Tryz.prog.cellsOf 25 = 8 := by kernel_rfl
set_option maxRecDepth 100000 in
theorem lawN0 : WideMaps.KeyLaw Tryz.prog 25 := deep_law_laid laidOut (m := 2) (by omega) row25n keyAt25n (by rw [Tryz.underlying25])
theorem lawN : Keyed Tryz.prog 25 := Keyed.of_law lawN0
theorem keyOf_array {P : Program} {t n e : Nat} {v : Value} (hu : P.underlying t = some (.array n e)) (hk : P.keyType t = true) (hf : v.formed P t = true) : keyOf P t v = (P.keyLits (P.types.size + 1) t v.cells.toList).map fun ls => .string (keyBytes ls) := by
  simp [keyOf, hu, hk, hf]
theorem litsName (d : Nat) {m : List Int} (h : NOk m) : ∃ ls, Tryz.prog.keyLits (d + 2) 25 (nmL m) = some ls := by
  have hl : (nmL m).length = 8 := by unfold nmL; rw [List.length_map]; exact h.1
  rw [keyLits_array Tryz.underlying25 (by rw [hl, cells25n])]
  obtain ⟨ys, hy⟩ := mapM_some (f := fun i => Tryz.prog.keyLits (d + 1) 5 (((nmL m).drop (i * Tryz.prog.cellsOf 5)).take (Tryz.prog.cellsOf 5))) (List.range 8) (fun i hi => by
    have hi : i < 8 := List.mem_range.1 hi
    have h8 := h.1
    rw [cells5, Nat.mul_one, List.drop_eq_getElem_cons (by rw [hl]; omega)]
    simp only [List.take_succ_cons, List.take_zero, nmL, List.getElem_map]
    have := h.2 m[i] (List.getElem_mem _)
    exact ⟨_, litW d Tryz.underlying5 (WalkArith.wf_u8 (by omega))⟩)
  rw [hy]
  exact ⟨_, rfl⟩
theorem keyN {k : List Int} (h : NOk k) : ∃ l, keyOf Tryz.prog 25 (.agg (nm k)) = some l := by
  obtain ⟨ls, hl⟩ := litsName 165 h
  have hs : Tryz.prog.types.size + 1 = 165 + 2 := by rw [types_]
  rw [keyOf_array Tryz.underlying25 keyType25n (by simp [Value.formed, cells25n, nm_size, h.1]), hs]
  have e : (Value.agg (nm k)).cells.toList = nmL k := rfl
  rw [e, hl]
  exact ⟨_, rfl⟩
theorem nm_inj {a b : List Int} (h : Value.agg (nm a) = .agg (nm b)) : a = b := by
  have e : nm a = nm b := by injection h
  have e2 := congrArg Array.toList e
  simp only [nm] at e2
  exact (List.map_inj_right (fun x y h => by injection h)).1 e2
theorem key_sameN {a b : List Int} {l : Lit} (h1 : keyOf Tryz.prog 25 (.agg (nm a)) = some l) (h2 : keyOf Tryz.prog 25 (.agg (nm b)) = some l) : a = b := nm_inj (lawN.inj h1 h2)
theorem zero70 (w : World) : (zeroValue 70).run Tryz.prog w = .ok (.agg #[]) w := by kernel_rfl
/-- The map in block b holds the names of l, and no other. -/
structure SetNm (w : World) (b n : Nat) (l : List (List Int)) : Prop where
  own : ∃ D : DataW Value, w.ownsMap Tryz.prog 25 unitElem b n D ∧ ∀ k t, NOk k → keyOf Tryz.prog 25 (.agg (nm k)) = some t → Maps.has D t = l.contains k
theorem SetNm.lt {w : World} {b n : Nat} {l : List (List Int)} (h : SetNm w b n l) : b < w.heap.size := by obtain ⟨D, h1, _⟩ := h.own; exact h1.lt
theorem SetNm.map {w : World} {b n : Nat} {l : List (List Int)} (h : SetNm w b n l) : ∃ es c, w.heap[b]? = some (.map es c) := by obtain ⟨D, ⟨es, c, e, _⟩, _⟩ := h.own; exact ⟨es, c, e⟩
theorem SetNm.same {w w' : World} {b n : Nat} {l : List (List Int)} (h : SetNm w b n l) (hb : w'.heap[b]? = w.heap[b]?) : SetNm w' b n l := by
  obtain ⟨D, ⟨es, c, e, r⟩, h2⟩ := h.own; exact ⟨D, ⟨es, c, hb.trans e, r⟩, h2⟩
theorem SetNm.below {w w' : World} {b n : Nat} {l : List (List Int)} (h : SetNm w b n l) (hb : Below w.heap.size w w') : SetNm w' b n l := h.same (hb.block b h.lt)
theorem SetNm.neq {w : World} {b n g t : Nat} {l : List (List Int)} {cs : List Value} (h : SetNm w b n l) (hg : Blk w g t cs) : b ≠ g := by
  intro e
  subst e
  obtain ⟨es, c, e⟩ := h.map
  unfold Blk at hg
  rw [hg] at e; cases e
theorem run_putN {w : World} {b n : Nat} {l : List (List Int)} (h : SetNm w b n l) (hn : n ≤ 50000) {m : List Int} (hm : NOk m) :
    ∃ w', (Instr.mapUpdate 68 (.map (some b)) (.agg (nm m)) (.agg #[])).run Tryz.prog w = .ok () w' ∧ SetNm w' b (n + 1) (l ++ [m]) ∧ w.grownBy w' (some b) := by
  obtain ⟨D, h1, h2⟩ := h.own
  obtain ⟨t, ht⟩ := keyN hm
  obtain ⟨w', hr, h3, h4⟩ := h1.update lawN Tryz.underlying68 (by unfold maxLen; omega) (val := .agg #[]) (d := .agg []) (ps := []) ht unitElem_mk
  refine ⟨w', hr, ⟨_, h3, fun x t' hx hx' => ?_⟩, h4⟩
  by_cases e : x = m
  · subst e
    obtain rfl : t' = t := Option.some.inj (hx'.symm.trans ht)
    rw [has_put_same h1.isMap (lawN.key ht)]
    simp
  · rw [has_put_other (fun e2 => e (key_sameN hx' (show keyOf Tryz.prog 25 (.agg (nm m)) = some t' by rw [e2]; exact ht))), h2 x t' hx hx']
    simp [e]
section
variable {ops : Array Oper} {rest : List Oper} {op : Oper} {a : Act} {w : World} {Q : Exit → Act → World → Prop}
theorem wpList_lookNm (hgd : op.guard = none) (x y : Operand) (ho : op.op = .lookup 68 x y true) (b n : Nat) (l : List (List Int)) (m : List Int) (r : Bool) (hx : a.eval x = .map (some b)) (hy : a.eval y = .agg (nm m)) (hs : SetNm w b n l) (hm : NOk m) (hr : l.contains m = r)
    (h : wpList Tryz.prog ops Q rest (a.put op.dst (.tuple #[.agg #[], .bool r])) w) : wpList Tryz.prog ops Q (op :: rest) a w := by
  obtain ⟨D, h1, h2⟩ := hs.own
  obtain ⟨t, ht⟩ := keyN hm
  refine wpList_lookup_own_unit w hgd x y 68 ho 25 70 lawN Tryz.underlying68 (zero70 w) b n D hx h1 _ _ hy ht ?_
  rw [h2 m t hm ht, hr]; exact h
theorem wpList_putNm (hgd : op.guard = none) (x y z : Operand) (ho : op.op = .mapUpdate 68 x y z) (b n : Nat) (l : List (List Int)) (m : List Int) (hx : a.eval x = .map (some b)) (hy : a.eval y = .agg (nm m)) (hz : a.eval z = .agg #[]) (hs : SetNm w b n l) (hn : n ≤ 50000) (hm : NOk m)
    (h : ∀ w', Hid (SetNm w' b (n + 1) (l ++ [m])) → Hid (Only b w w') → wpList Tryz.prog ops Q rest (a.put op.dst undef) w') : wpList Tryz.prog ops Q (op :: rest) a w := by
  refine wpList_plain hgd fun K hK => ?_
  obtain ⟨w', hr, h1, h2⟩ := run_putN hs hn hm
  unfold Oper.wp execOp
  simp only [ho, hx, hy, hz, Sem.run_bind, hr, Result.andThen_ok, Sem.run_pure]
  exact hK _ _ (h _ (Lib.hid h1) (Lib.hid ⟨h2.os, h2.tape, h2.output, h2.size, fun k hk hn => h2.block k hk (fun e => hn (Option.some.inj e))⟩))
theorem wpList_makeNm (hgd : op.guard = none) (ho : op.op = .makeMap 68 none)
    (h : ∀ b w', Hid (b = w.heap.size) → Hid (SetNm w' b 0 []) → Hid (Below w.heap.size w w') → wpList Tryz.prog ops Q rest (a.put op.dst (.map (some b))) w') : wpList Tryz.prog ops Q (op :: rest) a w := by
  refine wpList_plain hgd fun K hK => ?_
  have H := h w.heap.size (w.alloc (.map #[] 0)) (Lib.hid rfl) (Lib.hid ⟨.map [], World.ownsMap_made w Tryz.prog 25 unitElem, fun k t _ _ => rfl⟩) (Lib.hid (new_below w _))
  unfold Oper.wp execOp
  simp [ho, Instr.makeMap, go_sem]
  exact hK _ _ H
theorem wpList_alloc0 (hgd : op.guard = none) (ho : op.op = .alloc 70)
    (h : ∀ g w', Hid (g = w.heap.size) → Hid (Blk w' g 70 []) → Hid (Below w.heap.size w w') → wpList Tryz.prog ops Q rest (a.put op.dst (.pointer (some ⟨g, 0, none⟩))) w') : wpList Tryz.prog ops Q (op :: rest) a w := by
  refine wpList_plain hgd fun K hK => ?_
  have hz := zero70
  have H := h w.heap.size (w.alloc (.cells #[] 70)) (Lib.hid rfl) (Lib.hid (blk_alloc w 70 [])) (Lib.hid (new_below w _))
  unfold Oper.wp execOp
  simp [ho, Instr.alloc, hz]
  exact hK _ _ H
end
/-- Of w's blocks only b and g may have turned. -/
structure Off2 (b g : Nat) (w V : World) : Prop where
  os : V.os = w.os
  tape : V.tape = w.tape
  output : V.output = w.output
  size : w.heap.size ≤ V.heap.size
  block : ∀ k, k < w.heap.size → k ≠ b → k ≠ g → V.heap[k]? = w.heap[k]?
theorem Off2.of_below {b g : Nat} {w V : World} (h : Below w.heap.size w V) : Off2 b g w V := ⟨h.os, h.tape, h.output, h.size, fun k hk _ _ => h.block k hk⟩
theorem Off2.below {b g B : Nat} {w V V' : World} (h : Off2 b g w V) (hb : Below B V V') (hB : w.heap.size ≤ B) : Off2 b g w V' :=
  ⟨hb.os.trans h.os, hb.tape.trans h.tape, hb.output.trans h.output, Nat.le_trans h.size hb.size, fun k hk h1 h2 => (hb.block k (by omega)).trans (h.block k hk h1 h2)⟩
theorem Off2.only {b g i : Nat} {w V V' : World} (h : Off2 b g w V) (hb : Only i V V') (hi : i = b ∨ i = g ∨ w.heap.size ≤ i) : Off2 b g w V' :=
  ⟨hb.os.trans h.os, hb.tape.trans h.tape, hb.output.trans h.output, Nat.le_trans h.size hb.size, fun k hk h1 h2 => (hb.block k (by have := h.size; omega) (by omega)).trans (h.block k hk h1 h2)⟩
theorem Off2.blk {b g k t : Nat} {w V : World} {cs : List Value} (h : Off2 b g w V) (hb : Blk w k t cs) (h1 : k ≠ b) (h2 : k ≠ g) : Blk V k t cs := (h.block k hb.lt h1 h2).trans hb
theorem Off2.down {b g B : Nat} {w V : World} (h : Off2 b g w V) (h1 : B ≤ b) (h2 : B ≤ g) (h3 : B ≤ w.heap.size) : Below B w V :=
  ⟨h.os, h.tape, h.output, h.size, fun k hk => h.block k (by omega) (by omega) (by omega)⟩
end Go.Proofs.YtdigbipfchgjmaaGreat
