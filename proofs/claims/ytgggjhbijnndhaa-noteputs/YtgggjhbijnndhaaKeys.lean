/- Keys and words as values and in memory: loads, stores, builds and comparisons of whole ones. -/
import Derived.Test.YtgggjhbijnndhaaMathN
import Derived.Test.YtgggjhbijnndhaaTakes
import Derived.Test.YtgggjhbijnndhaaNumber
import Derived.Laws.StructEq
namespace Go.Proofs.Ytgggjhbijnndhaa
open Go.RowKit

def Ky.cells (k : Ky) : List Value := .int .u8 k.s :: .int .u16 k.c :: (k.m.map (Value.int .u8) ++ [.int .u8 k.r, .int .u32 k.q])
theorem kcells_len {k : Ky} (h : k.m.length = 8) : k.cells.length = 12 := by simp [Ky.cells, h]
theorem kc0 (k : Ky) : k.cells[0]? = some (.int .u8 k.s) := rfl
theorem kc1 (k : Ky) : k.cells[1]? = some (.int .u16 k.c) := rfl
theorem kc10 {k : Ky} (h : k.m.length = 8) : k.cells[10]? = some (.int .u8 k.r) := by simp [Ky.cells, h]
theorem kc11 {k : Ky} (h : k.m.length = 8) : k.cells[11]? = some (.int .u32 k.q) := by simp [Ky.cells, h]
theorem kc_name {k : Ky} (h : k.m.length = 8) (j : Nat) (hj : j < 8) : k.cells[2 + j]? = some (.int .u8 (k.m[j]'(by omega))) := by
  rw [show 2 + j = j + 2 by omega]
  simp only [Ky.cells, List.getElem?_cons_succ]
  rw [List.getElem?_append_left (by simp; omega), List.getElem?_map, List.getElem?_eq_getElem (by omega)]
  rfl
theorem range_knm {w : World} {g o : Nat} {k : Ky} (hr : w.rangeAt g o k.cells) (h : k.m.length = 8) : w.rangeAt g (o + 2) (k.m.map (Value.int .u8)) := fun j v hv => by
  have hj : j < 8 := by
    have := (List.getElem?_eq_some_iff.1 hv).1
    simpa [h] using this
  rw [Nat.add_assoc, hr (2 + j) _ (kc_name h j hj)]
  rw [List.getElem?_map, List.getElem?_eq_getElem (by omega)] at hv
  exact hv
theorem Blk.knm {w : World} {g : Nat} {k : Ky} (h : Blk w g 55 k.cells) (hm : k.m.length = 8) : w.rangeAt g 2 (k.m.map (Value.int .u8)) := by
  have := range_knm h.range hm
  rwa [Nat.zero_add] at this
theorem info27z : (Try.prog.info? 55).map (fun i => (i.zero, i.size)) = some (some (.agg kzero.cells.toArray), 12) := by kernel_rfl
theorem zero27 (w : World) : (zeroValue 55).run Try.prog w = .ok (.agg kzero.cells.toArray) w := (zero_of_info info27z).1 w
theorem size27 {k : Ky} (h : k.m.length = 8) : (Try.prog.info? 55).map (·.size) = some k.cells.length := by rw [kcells_len h]; exact (zero_of_info info27z).2
theorem one27 (k : Ky) : k.cells.toArray.all (·.oneCell') = true := by
  refine all_oneCell_toArray fun v hm => ?_
  unfold Ky.cells at hm
  rcases List.mem_cons.1 hm with rfl | hm
  · rfl
  · rcases List.mem_cons.1 hm with rfl | hm
    · rfl
    · rcases List.mem_append.1 hm with hm | hm
      · obtain ⟨y, _, rfl⟩ := List.mem_map.1 hm; rfl
      · rcases List.mem_cons.1 hm with rfl | hm
        · rfl
        · obtain rfl := List.mem_singleton.1 hm; rfl
/-- The words as cells. -/
def wd (x y z : Int) : List Value := [.int .u64 x, .int .u64 y, .int .u64 z]
def Ky.wd (k : Ky) : List Value := Ytgggjhbijnndhaa.wd k.w0 k.w1 k.w2
theorem wd0 (x y z : Int) : (wd x y z)[0]? = some (.int .u64 x) := rfl
theorem wd1 (x y z : Int) : (wd x y z)[1]? = some (.int .u64 y) := rfl
theorem wd2 (x y z : Int) : (wd x y z)[2]? = some (.int .u64 z) := rfl
theorem info29z : (Try.prog.info? 80).map (fun i => (i.zero, i.size)) = some (some (.agg (wd 0 0 0).toArray), 3) := by kernel_rfl
theorem zero29 (w : World) : (zeroValue 80).run Try.prog w = .ok (.agg (wd 0 0 0).toArray) w := (zero_of_info info29z).1 w
theorem size29 (x y z : Int) : (Try.prog.info? 80).map (·.size) = some (wd x y z).length := (zero_of_info info29z).2
theorem one29 (x y z : Int) : (wd x y z).toArray.all (·.oneCell') = true := by
  refine all_oneCell_toArray fun v hm => ?_
  simp only [wd, List.mem_cons, List.not_mem_nil, or_false] at hm
  rcases hm with rfl | rfl | rfl <;> rfl

theorem wpList_load_ky {ops : Array Oper} {rest : List Oper} {op : Oper} {a : Act} {w : World} {Q : Exit → Act → World → Prop} (hgd : op.guard = none) (x : Operand) (ho : op.op = .load 55 x) (g o : Nat) (k : Ky)
    (hx : a.eval x = .pointer (some ⟨g, o, none⟩)) (hr : w.rangeAt g o k.cells) (hm : k.m.length = 8) (h : wpList Try.prog ops Q rest (a.put op.dst (.agg k.cells.toArray)) w) : wpList Try.prog ops Q (op :: rest) a w :=
  wpList_load_mid hgd 55 x ho g o hx k.cells _ hr Try.underlying55 rfl (size27 hm) h
theorem wpList_load_wd {ops : Array Oper} {rest : List Oper} {op : Oper} {a : Act} {w : World} {Q : Exit → Act → World → Prop} (hgd : op.guard = none) (x : Operand) (ho : op.op = .load 80 x) (g o : Nat) (p q r : Int)
    (hx : a.eval x = .pointer (some ⟨g, o, none⟩)) (hr : w.rangeAt g o (wd p q r)) (h : wpList Try.prog ops Q rest (a.put op.dst (.agg (wd p q r).toArray)) w) : wpList Try.prog ops Q (op :: rest) a w :=
  wpList_load_mid hgd 80 x ho g o hx (wd p q r) _ hr Try.underlying80 rfl (size29 p q r) h
/-- What is stored over all cells of a block. -/
theorem wpList_store_cs {ops : Array Oper} {rest : List Oper} {op : Oper} {a : Act} {w : World} {Q : Exit → Act → World → Prop} (hgd : op.guard = none) (t : TypeId) (x y : Operand) (ho : op.op = .store t x y) (g : Nat) (cs ds : List Value)
    (hx : a.eval x = .pointer (some ⟨g, 0, none⟩)) (hy : a.eval y = .agg ds.toArray) (hb : Blk w g t cs) (hl : cs.length = ds.length) (hs : (Try.prog.info? t).map (·.size) = some ds.length) (h1 : ds.toArray.all (·.oneCell') = true)
    (h : ∀ w', Hid (Blk w' g t ds) → Hid (Only g w w') → wpList Try.prog ops Q rest (a.put op.dst undef) w') : wpList Try.prog ops Q (op :: rest) a w := by
  have hz : ds.toArray.size = ds.length := List.size_toArray
  refine wpList_store_mid hgd t x y ho g 0 ds.toArray hx hy (hb.there 0 _ (by rw [hz, hl]; omega)) (by rw [hz]; exact hs) h1 ?_
  have hB := Blk.setCells ds 0 w cs hb
  rw [setL_all _ _ hl] at hB
  exact h _ (Lib.hid hB) (Lib.hid (Only.setCells ds 0 w))
theorem wpList_store_ky {ops : Array Oper} {rest : List Oper} {op : Oper} {a : Act} {w : World} {Q : Exit → Act → World → Prop} (hgd : op.guard = none) (x y : Operand) (ho : op.op = .store 55 x y) (g : Nat) (j k : Ky)
    (hx : a.eval x = .pointer (some ⟨g, 0, none⟩)) (hy : a.eval y = .agg k.cells.toArray) (hb : Blk w g 55 j.cells) (hj : j.m.length = 8) (hm : k.m.length = 8)
    (h : ∀ w', Hid (Blk w' g 55 k.cells) → Hid (Only g w w') → wpList Try.prog ops Q rest (a.put op.dst undef) w') : wpList Try.prog ops Q (op :: rest) a w :=
  wpList_store_cs hgd 55 x y ho g j.cells k.cells hx hy hb (by rw [kcells_len hj, kcells_len hm]) (size27 hm) (one27 k) h
theorem wpList_store_wd {ops : Array Oper} {rest : List Oper} {op : Oper} {a : Act} {w : World} {Q : Exit → Act → World → Prop} (hgd : op.guard = none) (x y : Operand) (ho : op.op = .store 80 x y) (g : Nat) (p q r p' q' r' : Int)
    (hx : a.eval x = .pointer (some ⟨g, 0, none⟩)) (hy : a.eval y = .agg (wd p' q' r').toArray) (hb : Blk w g 80 (wd p q r))
    (h : ∀ w', Hid (Blk w' g 80 (wd p' q' r')) → Hid (Only g w w') → wpList Try.prog ops Q rest (a.put op.dst undef) w') : wpList Try.prog ops Q (op :: rest) a w :=
  wpList_store_cs hgd 80 x y ho g (wd p q r) (wd p' q' r') hx hy hb rfl (size29 p' q' r') (one29 p' q' r') h
theorem setL_knm {k : Ky} (hk : k.m.length = 8) (m : List Int) (hm : m.length = 8) : setL k.cells 2 (m.map (Value.int .u8)) = ({ k with m := m } : Ky).cells := by
  apply List.ext_getElem?
  intro i
  have hl := kcells_len hk
  rw [setL_get _ _ 2 i (by rw [List.length_map]; omega), List.length_map, hm]
  by_cases h1 : 2 ≤ i ∧ i < 2 + 8
  · rw [if_pos h1]
    obtain ⟨j, rfl⟩ : ∃ j, i = 2 + j := ⟨i - 2, by omega⟩
    rw [kc_name (k := { k with m := m }) hm j (by omega), show 2 + j - 2 = j by omega, List.getElem?_map, List.getElem?_eq_getElem (by omega)]
    rfl
  · rw [if_neg h1]
    by_cases h2 : i < 2
    · have : i = 0 ∨ i = 1 := by omega
      rcases this with rfl | rfl <;> rfl
    · by_cases h3 : i = 10
      · subst h3; rw [kc10 hk, kc10 (k := { k with m := m }) hm]
      · by_cases h4 : i = 11
        · subst h4; rw [kc11 hk, kc11 (k := { k with m := m }) hm]
        · rw [List.getElem?_eq_none (by omega), List.getElem?_eq_none (by rw [kcells_len (k := { k with m := m }) hm]; omega)]
/-- A name is stored into a key. -/
theorem wpList_store_knm {ops : Array Oper} {rest : List Oper} {op : Oper} {a : Act} {w : World} {Q : Exit → Act → World → Prop} (hgd : op.guard = none) (x y : Operand) (ho : op.op = .store 26 x y) (g : Nat) (k : Ky) (m : List Int)
    (hx : a.eval x = .pointer (some ⟨g, 2, none⟩)) (hy : a.eval y = .agg (nm m)) (hb : Blk w g 55 k.cells) (hk : k.m.length = 8) (hm : m.length = 8)
    (h : ∀ w', Hid (Blk w' g 55 ({ k with m := m } : Ky).cells) → Hid (Only g w w') → wpList Try.prog ops Q rest (a.put op.dst undef) w') : wpList Try.prog ops Q (op :: rest) a w := by
  refine wpList_store_mid hgd 26 x y ho g 2 (nm m) hx hy (hb.there 2 _ (by rw [nm_size, kcells_len hk]; omega)) (by rw [nm_size, hm]; exact size23) (nm_one m) ?_
  have hB := Blk.setCells (m.map (Value.int .u8)) 2 w k.cells hb
  rw [setL_knm hk m hm] at hB
  exact h _ (Lib.hid hB) (Lib.hid (Only.setCells _ 2 w))
theorem kset0 (k : Ky) (x : Int) : k.cells.set 0 (.int .u8 x) = ({ k with s := x } : Ky).cells := rfl
theorem kset1 (k : Ky) (x : Int) : k.cells.set 1 (.int .u16 x) = ({ k with c := x } : Ky).cells := rfl
theorem kset10 (k : Ky) (h : k.m.length = 8) (x : Int) : k.cells.set 10 (.int .u8 x) = ({ k with r := x } : Ky).cells := by
  obtain ⟨s, c, m, r, q⟩ := k
  have hm : m.length = 8 := h
  simp only [Ky.cells]
  rw [List.set_cons_succ, List.set_cons_succ, List.set_append_right _ _ (by rw [List.length_map]; omega), List.length_map, hm]
  rfl
theorem kset11 (k : Ky) (h : k.m.length = 8) (x : Int) : k.cells.set 11 (.int .u32 x) = ({ k with q := x } : Ky).cells := by
  obtain ⟨s, c, m, r, q⟩ := k
  have hm : m.length = 8 := h
  simp only [Ky.cells]
  rw [List.set_cons_succ, List.set_cons_succ, List.set_append_right _ _ (by rw [List.length_map]; omega), List.length_map, hm]
  rfl

theorem built27_0 : Try.prog.built 55 [] = some kzero.cells.toArray := by kernel_rfl
theorem built27_1 (s : Int) : Try.prog.built 55 [(0, .int .u8 s)] = some (⟨s, 0, M.zero8, 0, 0⟩ : Ky).cells.toArray := by kernel_rfl
theorem built27_2 (s c : Int) : Try.prog.built 55 [(0, .int .u8 s), (1, .int .u16 c)] = some (⟨s, c, M.zero8, 0, 0⟩ : Ky).cells.toArray := by kernel_rfl
theorem eight {m : List Int} (h : m.length = 8) : ∃ a b c d e f g i, m = [a, b, c, d, e, f, g, i] := by
  match m, h with
  | [a, b, c, d, e, f, g, i], _ => exact ⟨a, b, c, d, e, f, g, i, rfl⟩
theorem built27_5' (s c r q : Int) (b0 b1 b2 b3 b4 b5 b6 b7 : Int) : Try.prog.built 55 [(0, .int .u8 s), (1, .int .u16 c), (2, .agg (nm [b0, b1, b2, b3, b4, b5, b6, b7])), (3, .int .u8 r), (4, .int .u32 q)] = some (⟨s, c, [b0, b1, b2, b3, b4, b5, b6, b7], r, q⟩ : Ky).cells.toArray := by kernel_rfl
theorem built27_5 (k : Ky) (h : k.m.length = 8) : Try.prog.built 55 [(0, .int .u8 k.s), (1, .int .u16 k.c), (2, .agg (nm k.m)), (3, .int .u8 k.r), (4, .int .u32 k.q)] = some k.cells.toArray := by
  obtain ⟨s, c, m, r, q⟩ := k
  obtain ⟨b0, b1, b2, b3, b4, b5, b6, b7, e⟩ := eight h
  have e' : m = _ := e
  subst e'
  exact built27_5' s c r q b0 b1 b2 b3 b4 b5 b6 b7
theorem built29 (x y z : Int) : Try.prog.built 80 [(0, .int .u64 x), (1, .int .u64 y), (2, .int .u64 z)] = some (wd x y z).toArray := by kernel_rfl
theorem exec_build {o : Oper} {a : Act} {w : World} (t : TypeId) (fs : Array (Nat × Operand)) (ho : o.op = .build t fs) (vs : List (Nat × Value)) (hvs : (fs.toList.map fun p => (p.1, a.eval p.2)) = vs) (cs : Array Value) (hb : Try.prog.built t vs = some cs) :
    (execOp a.eval o).run Try.prog w = .ok (.value (.agg cs)) w := by
  have hr : (Instr.build t (fs.map fun (i, x) => (i, a.eval x))).run Try.prog w = .ok (.agg cs) w := run_build w t _ _ (by rw [Array.toList_map]; exact (congrArg (Try.prog.built t) hvs).trans hb)
  unfold execOp
  simp only [ho, Sem.run_bind, hr, Result.andThen_ok, Sem.run_pure]
/-- An operation that yields a value and does nothing else. -/
theorem wpList_val {ops : Array Oper} {rest : List Oper} {o : Oper} {a : Act} {w : World} {Q : Exit → Act → World → Prop} (hgd : o.guard = none) (v : Value) (hr : (execOp a.eval o).run Try.prog w = .ok (.value v) w)
    (h : wpList Try.prog ops Q rest (a.put o.dst v) w) : wpList Try.prog ops Q (o :: rest) a w :=
  wpList_plain hgd fun _ hK => by
    unfold Oper.wp
    rw [hr]
    exact hK _ _ h
theorem wpList_build {ops : Array Oper} {rest : List Oper} {o : Oper} {a : Act} {w : World} {Q : Exit → Act → World → Prop} (hgd : o.guard = none) (t : TypeId) (fs : Array (Nat × Operand)) (ho : o.op = .build t fs) (vs : List (Nat × Value)) (hvs : (fs.toList.map fun p => (p.1, a.eval p.2)) = vs) (cs : Array Value) (hb : Try.prog.built t vs = some cs)
    (h : wpList Try.prog ops Q rest (a.put o.dst (.agg cs)) w) : wpList Try.prog ops Q (o :: rest) a w := wpList_val hgd _ (exec_build t fs ho vs hvs cs hb) h

theorem fields27 : (Try.prog.fieldsOf 55).toList = [⟨ "Sort", 5, 0, false, "", "", 0⟩, ⟨ "Cart", 23, 1, false, "", "", 2⟩, ⟨ "Item", 26, 2, false, "", "", 4⟩, ⟨ "Rep", 5, 10, false, "", "", 12⟩, ⟨ "Seq", 27, 11, false, "", "", 16⟩] := by kernel_rfl
theorem stood27 : Try.prog.stoodInHeld 55 = false := by kernel_rfl
theorem under27 : Try.prog.underlying 55 = some (.struct (Try.prog.fieldsOf 55)) := by kernel_rfl
theorem plain5 : Try.prog.plainKey 5 = true := by kernel_rfl
theorem plain22 : Try.prog.plainKey 23 = true := by kernel_rfl
theorem plain25 : Try.prog.plainKey 27 = true := by kernel_rfl
theorem plain28 : Try.prog.plainKey 36 = true := by kernel_rfl
theorem part_ky (k : Ky) (h : k.m.length = 8) (w : World) : (Go.part 26 k.cells.toArray 2).run Try.prog w = .ok (.agg (nm k.m)) w := by
  have hsz : (sizeOf 26).run Try.prog w = .ok 8 w := by
    have h8 := size23
    cases hq : Try.prog.info? 26 with
    | none => simp [hq] at h8
    | some i =>
      have hi : i.size = 8 := by simpa [hq] using h8
      simp [sizeOf, typeInfo, hq, hi]
  have hx : k.cells.toArray.extract 2 (2 + 8) = nm k.m := by
    apply Array.ext'
    rw [Array.toList_extract]
    simp only [Ky.cells, nm]
    rw [List.extract_eq_take_drop]
    simp only [List.drop_succ_cons, List.drop_zero]
    rw [show 2 + 8 - 2 = (k.m.map (Value.int .u8)).length by rw [List.length_map, h]]
    exact List.take_left' rfl
  simp only [Go.part, Sem.run_bind, isAgg, run_underlying Try.underlying26, Result.andThen_ok, Sem.run_pure, if_true, hsz, hx]
theorem eqF_cons {d : Nat} {xs ys : Array Value} {f : Field} {fs : List Field} {w : World} {a b : Value} {r : Bool} (hn : f.name ≠ "_") (ha : (Go.part f.type xs f.offset).run Try.prog w = .ok a w) (hb : (Go.part f.type ys f.offset).run Try.prog w = .ok b w) (hr : (Op.equalIn d f.type a b).run Try.prog w = .ok r w) :
    (Op.eqFields d xs ys (f :: fs)).run Try.prog w = if r = true then (Op.eqFields d xs ys fs).run Try.prog w else .ok false w := by
  simp only [Op.eqFields, hn, ne_eq, not_false_eq_true, if_true, Sem.run_bind, ha, hb, hr, Result.andThen_ok]
  cases r <;> simp
theorem eqI_cons {d e c i : Nat} {xs ys : Array Value} {is : List Nat} {w : World} {a b : Value} {r : Bool} (ha : (Go.part e xs (i * c)).run Try.prog w = .ok a w) (hb : (Go.part e ys (i * c)).run Try.prog w = .ok b w) (hr : (Op.equalIn d e a b).run Try.prog w = .ok r w) :
    (Op.eqItems d e c xs ys (i :: is)).run Try.prog w = if r = true then (Op.eqItems d e c xs ys is).run Try.prog w else .ok false w := by
  simp only [Op.eqItems, Sem.run_bind, ha, hb, hr, Result.andThen_ok]
  cases r <;> simp
theorem eql27 (a b : Ky) (ha : a.m.length = 8) (hb : b.m.length = 8) (d : Nat) (w : World) : (Op.equalIn (d + 3) 55 (.agg a.cells.toArray) (.agg b.cells.toArray)).run Try.prog w = .ok (decide (a = b)) w := by
  rw [run_equalIn_struct w (d + 2) 55 _ _ under27 stood27, fields27]
  have p0 : ∀ k : Ky, (Go.part 5 k.cells.toArray 0).run Try.prog w = .ok (.int .u8 k.s) w := fun k => run_part_plain w plain5 (by simpa using kc0 k)
  have p1 : ∀ k : Ky, (Go.part 23 k.cells.toArray 1).run Try.prog w = .ok (.int .u16 k.c) w := fun k => run_part_plain w plain22 (by simpa using kc1 k)
  have p3 : ∀ k : Ky, k.m.length = 8 → (Go.part 5 k.cells.toArray 10).run Try.prog w = .ok (.int .u8 k.r) w := fun k h => run_part_plain w plain5 (by simpa using kc10 h)
  have p4 : ∀ k : Ky, k.m.length = 8 → (Go.part 27 k.cells.toArray 11).run Try.prog w = .ok (.int .u32 k.q) w := fun k h => run_part_plain w plain25 (by simpa using kc11 h)
  rw [eqF_cons (f := ⟨ "Sort", 5, 0, false, "", "", 0⟩) (by decide) (p0 a) (p0 b) (run_equalIn_int w (d + 1) 5 .u8 .u8 _ _ Try.underlying5),
    eqF_cons (f := ⟨ "Cart", 23, 1, false, "", "", 2⟩) (by decide) (p1 a) (p1 b) (run_equalIn_int w (d + 1) 23 .u16 .u16 _ _ Try.underlying23),
    eqF_cons (f := ⟨ "Item", 26, 2, false, "", "", 4⟩) (by decide) (part_ky a ha w) (part_ky b hb w) (eql23 a.m b.m ha hb d w),
    eqF_cons (f := ⟨ "Rep", 5, 10, false, "", "", 12⟩) (by decide) (p3 a ha) (p3 b hb) (run_equalIn_int w (d + 1) 5 .u8 .u8 _ _ Try.underlying5),
    eqF_cons (f := ⟨ "Seq", 27, 11, false, "", "", 16⟩) (by decide) (p4 a ha) (p4 b hb) (run_equalIn_int w (d + 1) 27 .u32 .u32 _ _ Try.underlying27)]
  obtain ⟨s, c, m, r, q⟩ := a
  obtain ⟨s', c', m', r', q'⟩ := b
  simp only [Ky.mk.injEq, Op.eqFields, Sem.run_pure]
  by_cases e0 : s = s'
  · by_cases e1 : c = c'
    · by_cases e2 : m = m'
      · by_cases e3 : r = r'
        · by_cases e4 : q = q'
          · simp [e0, e1, e2, e3, e4]
          · simp [e0, e1, e2, e3, e4]
        · simp [e0, e1, e2, e3]
      · simp [e0, e1, e2]
    · simp [e0, e1]
  · simp [e0]
theorem eqg27 : Try.prog.eqGuardType Try.prog.depth 55 = false := by kernel_rfl
theorem eqg29 : Try.prog.eqGuardType Try.prog.depth 80 = false := by kernel_rfl
theorem exec_eq_ky {o : Oper} {a : Act} {w : World} (x y : Operand) (t : TypeId) (ho : o.op = .binOp .eql 55 x y t) (A B : Ky) (hx : a.eval x = .agg A.cells.toArray) (hy : a.eval y = .agg B.cells.toArray) (hA : A.m.length = 8) (hB : B.m.length = 8) :
    (execOp a.eval o).run Try.prog w = .ok (.value (.bool (decide (A = B)))) w := by
  unfold execOp
  simp only [ho, hx, hy, Sem.run_bind, run_eqGuard_agg w .eql 55 x y _ _ eqg27, Result.andThen_ok, run_eql_struct, eql27 A B hA hB 9997 w, Sem.run_pure]
theorem info28 : ∃ i, Try.prog.info? 36 = some i := by
  have h : (Try.prog.info? 36).isSome = true := by kernel_rfl
  exact Option.isSome_iff_exists.1 h
theorem cells28 : Try.prog.cellsOf 36 = 1 := by kernel_rfl
theorem eql29 (x y z x' y' z' : Int) (d : Nat) (w : World) : (Op.equalIn (d + 2) 80 (.agg (wd x y z).toArray) (.agg (wd x' y' z').toArray)).run Try.prog w = .ok (same3 x y z x' y' z') w := by
  obtain ⟨j, hj⟩ := info28
  rw [run_equalIn_array w (d + 1) _ _ Try.underlying80 hj, cells28]
  have p0 : ∀ x y z : Int, (Go.part 36 (wd x y z).toArray 0).run Try.prog w = .ok (.int .u64 x) w := fun x y z => run_part_plain w plain28 rfl
  have p1 : ∀ x y z : Int, (Go.part 36 (wd x y z).toArray 1).run Try.prog w = .ok (.int .u64 y) w := fun x y z => run_part_plain w plain28 rfl
  have p2 : ∀ x y z : Int, (Go.part 36 (wd x y z).toArray 2).run Try.prog w = .ok (.int .u64 z) w := fun x y z => run_part_plain w plain28 rfl
  have q : ∀ a b : Int, (Op.equalIn (d + 1) 36 (.int .u64 a) (.int .u64 b)).run Try.prog w = .ok (a == b) w := fun a b => run_equalIn_int w d 36 .u64 .u64 a b Try.underlying36
  rw [show List.range 3 = [0, 1, 2] from rfl, eqI_cons (i := 0) (c := 1) (p0 x y z) (p0 x' y' z') (q x x'), eqI_cons (i := 1) (c := 1) (p1 x y z) (p1 x' y' z') (q y y'), eqI_cons (i := 2) (c := 1) (p2 x y z) (p2 x' y' z') (q z z')]
  unfold same3
  cases (x == x') <;> cases (y == y') <;> cases (z == z') <;> rfl
theorem exec_eq_wd {o : Oper} {a : Act} {w : World} (x y : Operand) (t : TypeId) (ho : o.op = .binOp .eql 80 x y t) (p q r p' q' r' : Int) (hx : a.eval x = .agg (wd p q r).toArray) (hy : a.eval y = .agg (wd p' q' r').toArray) :
    (execOp a.eval o).run Try.prog w = .ok (.value (.bool (same3 p q r p' q' r'))) w := by
  unfold execOp
  simp only [ho, hx, hy, Sem.run_bind, run_eqGuard_agg w .eql 80 x y _ _ eqg29, Result.andThen_ok, run_eql_struct, eql29 p q r p' q' r' 9998 w, Sem.run_pure]
theorem exec_neq_wd {o : Oper} {a : Act} {w : World} (x y : Operand) (t : TypeId) (ho : o.op = .binOp .neq 80 x y t) (p q r p' q' r' : Int) (hx : a.eval x = .agg (wd p q r).toArray) (hy : a.eval y = .agg (wd p' q' r').toArray) :
    (execOp a.eval o).run Try.prog w = .ok (.value (.bool (!same3 p q r p' q' r'))) w := by
  unfold execOp
  simp only [ho, hx, hy, Sem.run_bind, run_eqGuard_agg w .neq 80 x y _ _ eqg29, Result.andThen_ok, run_neq_struct, eql29 p q r p' q' r' 9998 w, Sem.run_pure]
/-- What a region that draws its order takes as it stands. -/
theorem quiet_val {o : Oper} {a : Act} {W : World} {K : Act → Prop} (v : Value) (h : ∀ w, (execOp a.eval o).run Try.prog w = .ok (.value v) w) (hk : K (a.put o.dst v)) : o.quiet Try.prog a (Cls W) K := by
  refine ⟨v, fun w _ => ?_, hk⟩
  unfold Oper.quietAt
  rw [h w]
  exact ⟨rfl, rfl⟩
theorem quiet_load_cs {o : Oper} {a : Act} {W : World} {K : Act → Prop} (t : TypeId) (G off : Nat) (cs : List Value) (d : TypeDesc) (x : Operand) (ho : o.op = .load t x) (hx : a.eval x = .pointer (some ⟨G, off, none⟩)) (hat : W.rangeAt G off cs) (hG : G < W.heap.size)
    (hu : Try.prog.underlying t = some d) (hd : d.isRow = true) (hs : (Try.prog.info? t).map (·.size) = some cs.length) (hk : K (a.put o.dst (.agg cs.toArray))) : o.quiet Try.prog a (Cls W) K := by
  refine ⟨.agg cs.toArray, fun w hw => ?_, hk⟩
  obtain ⟨T, rfl⟩ := hw
  have h := run_loadAt_mid (P := Try.prog) T.1 G off t cs d (range_below hat hG T.2) hu hd hs
  unfold Oper.quietAt
  have e : (execOp a.eval o).run Try.prog T.1 = .ok (.value (.agg cs.toArray)) T.1 := by
    simp [execOp, ho, hx, h]
  rw [e]
  exact ⟨rfl, rfl⟩
theorem quiet_load_ky {o : Oper} {a : Act} {W : World} {K : Act → Prop} (G : Nat) (k : Ky) (x : Operand) (ho : o.op = .load 55 x) (hx : a.eval x = .pointer (some ⟨G, 0, none⟩)) (hat : Blk W G 55 k.cells) (hm : k.m.length = 8)
    (hk : K (a.put o.dst (.agg k.cells.toArray))) : o.quiet Try.prog a (Cls W) K := quiet_load_cs 55 G 0 k.cells _ x ho hx hat.range hat.lt Try.underlying55 rfl (size27 hm) hk
theorem quiet_load_wd {o : Oper} {a : Act} {W : World} {K : Act → Prop} (G : Nat) (p q r : Int) (x : Operand) (ho : o.op = .load 80 x) (hx : a.eval x = .pointer (some ⟨G, 0, none⟩)) (hat : Blk W G 80 (wd p q r))
    (hk : K (a.put o.dst (.agg (wd p q r).toArray))) : o.quiet Try.prog a (Cls W) K := quiet_load_cs 80 G 0 (wd p q r) _ x ho hx hat.range hat.lt Try.underlying80 rfl (size29 p q r) hk
theorem results_ky {fn : Func} {t : Tmp} (h : fn.results = #[.cell t 55]) (tmps : Array Value) (w : World) (g : Nat) (k : Ky) (hp : tmps.getD t undef = .pointer (some ⟨g, 0, none⟩)) (hb : Blk w g 55 k.cells) (hm : k.m.length = 8) :
    (results fn tmps).run Try.prog w = .ok (.agg k.cells.toArray) w := results_cell_row h _ _ g 55 k.cells.toArray (0, 0) _ hp hb Try.underlying55 rfl (by rw [List.size_toArray]; exact size27 hm)
theorem results_wd {fn : Func} {t : Tmp} (h : fn.results = #[.cell t 80]) (tmps : Array Value) (w : World) (g : Nat) (p q r : Int) (hp : tmps.getD t undef = .pointer (some ⟨g, 0, none⟩)) (hb : Blk w g 80 (wd p q r)) :
    (results fn tmps).run Try.prog w = .ok (.agg (wd p q r).toArray) w := results_cell_row h _ _ g 80 (wd p q r).toArray (0, 0) _ hp hb Try.underlying80 rfl (by rw [List.size_toArray]; exact size29 p q r)
theorem results_kyE {fn : Func} {t u : Tmp} (h : fn.results = #[.cell t 55, .tmp u]) (tmps : Array Value) (w : World) (g : Nat) (k : Ky) (hp : tmps.getD t undef = .pointer (some ⟨g, 0, none⟩)) (hb : Blk w g 55 k.cells) (hm : k.m.length = 8) :
    (results fn tmps).run Try.prog w = .ok (.tuple #[.agg k.cells.toArray, tmps.getD u undef]) w := by
  rw [results_cell_tmp h, hp]
  have := run_loadVar_row (P := Try.prog) w g 55 55 k.cells.toArray (0, 0) _ hb Try.underlying55 rfl (by rw [List.size_toArray]; exact size27 hm)
  simp [asAddr, this]
end Go.Proofs.Ytgggjhbijnndhaa
