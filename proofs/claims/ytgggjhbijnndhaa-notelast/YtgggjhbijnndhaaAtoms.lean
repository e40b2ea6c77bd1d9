/- Values and atoms as values and in memory: loads, stores, builds and comparisons of whole ones. -/
import Derived.Test.YtgggjhbijnndhaaMathN
import Derived.Test.YtgggjhbijnndhaaKeys
import Derived.Test.YtgggjhbijnndhaaSmallK
import Derived.Test.YtgggjhbijnndhaaTakes
namespace Go.Proofs.Ytgggjhbijnndhaa
open Go.RowKit

def Vl.cells (v : Vl) : List Value := .int .u64 v.n :: v.t.map (Value.int .u8)
def Am.cells (a : Am) : List Value := a.k.cells ++ a.v.cells
theorem vcells_len {v : Vl} (h : v.t.length = 8) : v.cells.length = 9 := by simp [Vl.cells, h]
theorem acells_len {a : Am} (h : a.Ok) : a.cells.length = 21 := by rw [Am.cells, List.length_append, kcells_len h.k.ml, vcells_len h.v.tl]
theorem vc0 (v : Vl) : v.cells[0]? = some (.int .u64 v.n) := rfl
theorem ac0 (a : Am) : a.cells[0]? = some (.int .u8 a.k.s) := rfl
theorem ac12 {a : Am} (h : a.Ok) : a.cells[12]? = some (.int .u64 a.v.n) := by
  rw [Am.cells, List.getElem?_append_right (by rw [kcells_len h.k.ml]; omega), kcells_len h.k.ml]
  rfl
theorem range_vnm {w : World} {g o : Nat} {v : Vl} (hr : w.rangeAt g o v.cells) : w.rangeAt g (o + 1) (v.t.map (Value.int .u8)) := fun j x hx => by
  rw [Nat.add_assoc, Nat.add_comm 1 j, hr (j + 1) x hx]
theorem Blk.vnm {w : World} {g : Nat} {v : Vl} (h : Blk w g 38 v.cells) : w.rangeAt g 1 (v.t.map (Value.int .u8)) := by
  have := range_vnm h.range
  rwa [Nat.zero_add] at this
theorem Blk.ak {w : World} {g : Nat} {a : Am} (h : Blk w g 63 a.cells) : w.rangeAt g 0 a.k.cells := fun j x hx => by
  have hj := (List.getElem?_eq_some_iff.1 hx).1
  exact h.range j x (by rw [Am.cells, List.getElem?_append_left hj]; exact hx)
theorem Blk.av {w : World} {g : Nat} {a : Am} (h : Blk w g 63 a.cells) (ha : a.Ok) : w.rangeAt g 12 a.v.cells := fun j x hx => by
  have := h.range (12 + j) x (by rw [Am.cells, List.getElem?_append_right (by rw [kcells_len ha.k.ml]; omega), kcells_len ha.k.ml, show 12 + j - 12 = j by omega]; exact hx)
  rwa [Nat.zero_add] at this
theorem Blk.avt {w : World} {g : Nat} {a : Am} (h : Blk w g 63 a.cells) (ha : a.Ok) : w.rangeAt g 13 (a.v.t.map (Value.int .u8)) := range_vnm (h.av ha)
theorem info30z : (Try.prog.info? 38).map (fun i => (i.zero, i.size)) = some (some (.agg vzero.cells.toArray), 9) := by kernel_rfl
theorem zero30 (w : World) : (zeroValue 38).run Try.prog w = .ok (.agg vzero.cells.toArray) w := (zero_of_info info30z).1 w
theorem size30 {v : Vl} (h : v.t.length = 8) : (Try.prog.info? 38).map (·.size) = some v.cells.length := by rw [vcells_len h]; exact (zero_of_info info30z).2
theorem info32z : (Try.prog.info? 63).map (fun i => (i.zero, i.size)) = some (some (.agg azero.cells.toArray), 21) := by kernel_rfl
theorem zero32 (w : World) : (zeroValue 63).run Try.prog w = .ok (.agg azero.cells.toArray) w := (zero_of_info info32z).1 w
theorem size32 {a : Am} (h : a.Ok) : (Try.prog.info? 63).map (·.size) = some a.cells.length := by rw [acells_len h]; exact (zero_of_info info32z).2
theorem one30 (v : Vl) : v.cells.toArray.all (·.oneCell') = true := by
  refine all_oneCell_toArray fun x hm => ?_
  unfold Vl.cells at hm
  rcases List.mem_cons.1 hm with rfl | hm
  · rfl
  · obtain ⟨y, _, rfl⟩ := List.mem_map.1 hm; rfl
theorem all_list {cs : List Value} (h : cs.toArray.all (·.oneCell') = true) (v : Value) (hv : v ∈ cs) : v.oneCell' = true := by
  rw [List.all_toArray, List.all_eq_true] at h
  exact h v hv
theorem one32 (a : Am) : a.cells.toArray.all (·.oneCell') = true := by
  refine all_oneCell_toArray fun x hm => ?_
  unfold Am.cells at hm
  rcases List.mem_append.1 hm with hm | hm
  · exact all_list (one27 _) _ hm
  · exact all_list (one30 _) _ hm
theorem wpList_load_vl {ops : Array Oper} {rest : List Oper} {op : Oper} {a : Act} {w : World} {Q : Exit → Act → World → Prop} (hgd : op.guard = none) (x : Operand) (ho : op.op = .load 38 x) (g o : Nat) (v : Vl)
    (hx : a.eval x = .pointer (some ⟨g, o, none⟩)) (hr : w.rangeAt g o v.cells) (hm : v.t.length = 8) (h : wpList Try.prog ops Q rest (a.put op.dst (.agg v.cells.toArray)) w) : wpList Try.prog ops Q (op :: rest) a w :=
  wpList_load_mid hgd 38 x ho g o hx v.cells _ hr Try.underlying38 rfl (size30 hm) h
theorem wpList_load_am {ops : Array Oper} {rest : List Oper} {op : Oper} {a : Act} {w : World} {Q : Exit → Act → World → Prop} (hgd : op.guard = none) (x : Operand) (ho : op.op = .load 63 x) (g : Nat) (A : Am)
    (hx : a.eval x = .pointer (some ⟨g, 0, none⟩)) (hb : Blk w g 63 A.cells) (hm : A.Ok) (h : wpList Try.prog ops Q rest (a.put op.dst (.agg A.cells.toArray)) w) : wpList Try.prog ops Q (op :: rest) a w :=
  wpList_load_mid hgd 63 x ho g 0 hx A.cells _ hb.range Try.underlying63 rfl (size32 hm) h
theorem wpList_store_vl {ops : Array Oper} {rest : List Oper} {op : Oper} {a : Act} {w : World} {Q : Exit → Act → World → Prop} (hgd : op.guard = none) (x y : Operand) (ho : op.op = .store 38 x y) (g : Nat) (j k : Vl)
    (hx : a.eval x = .pointer (some ⟨g, 0, none⟩)) (hy : a.eval y = .agg k.cells.toArray) (hb : Blk w g 38 j.cells) (hj : j.t.length = 8) (hm : k.t.length = 8)
    (h : ∀ w', Hid (Blk w' g 38 k.cells) → Hid (Only g w w') → wpList Try.prog ops Q rest (a.put op.dst undef) w') : wpList Try.prog ops Q (op :: rest) a w :=
  wpList_store_cs hgd 38 x y ho g j.cells k.cells hx hy hb (by rw [vcells_len hj, vcells_len hm]) (size30 hm) (one30 k) h
theorem wpList_store_am {ops : Array Oper} {rest : List Oper} {op : Oper} {a : Act} {w : World} {Q : Exit → Act → World → Prop} (hgd : op.guard = none) (x y : Operand) (ho : op.op = .store 63 x y) (g : Nat) (j k : Am)
    (hx : a.eval x = .pointer (some ⟨g, 0, none⟩)) (hy : a.eval y = .agg k.cells.toArray) (hb : Blk w g 63 j.cells) (hj : j.Ok) (hm : k.Ok)
    (h : ∀ w', Hid (Blk w' g 63 k.cells) → Hid (Only g w w') → wpList Try.prog ops Q rest (a.put op.dst undef) w') : wpList Try.prog ops Q (op :: rest) a w :=
  wpList_store_cs hgd 63 x y ho g j.cells k.cells hx hy hb (by rw [acells_len hj, acells_len hm]) (size32 hm) (one32 k) h
theorem setL_vnm {v : Vl} (hk : v.t.length = 8) (m : List Int) (hm : m.length = 8) : setL v.cells 1 (m.map (Value.int .u8)) = ({ v with t := m } : Vl).cells := by
  apply List.ext_getElem?
  intro i
  have hl := vcells_len hk
  have hl' := vcells_len (v := { v with t := m }) hm
  rw [setL_get _ _ 1 i (by rw [List.length_map]; omega), List.length_map, hm]
  by_cases h1 : 1 ≤ i ∧ i < 1 + 8
  · rw [if_pos h1]
    obtain ⟨j, rfl⟩ : ∃ j, i = j + 1 := ⟨i - 1, by omega⟩
    rfl
  · rw [if_neg h1]
    by_cases h2 : i = 0
    · subst h2; rfl
    · rw [List.getElem?_eq_none (by omega), List.getElem?_eq_none (by omega)]
/-- A text is stored into a value. -/
theorem wpList_store_vnm {ops : Array Oper} {rest : List Oper} {op : Oper} {a : Act} {w : World} {Q : Exit → Act → World → Prop} (hgd : op.guard = none) (x y : Operand) (ho : op.op = .store 26 x y) (g : Nat) (v : Vl) (m : List Int)
    (hx : a.eval x = .pointer (some ⟨g, 1, none⟩)) (hy : a.eval y = .agg (nm m)) (hb : Blk w g 38 v.cells) (hk : v.t.length = 8) (hm : m.length = 8)
    (h : ∀ w', Hid (Blk w' g 38 ({ v with t := m } : Vl).cells) → Hid (Only g w w') → wpList Try.prog ops Q rest (a.put op.dst undef) w') : wpList Try.prog ops Q (op :: rest) a w := by
  refine wpList_store_mid hgd 26 x y ho g 1 (nm m) hx hy (hb.there 1 _ (by rw [nm_size, vcells_len hk]; omega)) (by rw [nm_size, hm]; exact size23) (nm_one m) ?_
  have hB := Blk.setCells (m.map (Value.int .u8)) 1 w v.cells hb
  rw [setL_vnm hk m hm] at hB
  exact h _ (Lib.hid hB) (Lib.hid (Only.setCells _ 1 w))
theorem vset0 (v : Vl) (x : Int) : v.cells.set 0 (.int .u64 x) = ({ v with n := x } : Vl).cells := rfl

theorem built30_0 : Try.prog.built 38 [] = some vzero.cells.toArray := by kernel_rfl
theorem built30_1 (n : Int) : Try.prog.built 38 [(0, .int .u64 n)] = some (⟨n, M.zero8⟩ : Vl).cells.toArray := by kernel_rfl
theorem built32_0 : Try.prog.built 63 [] = some azero.cells.toArray := by kernel_rfl
theorem built32_1' (s c r q : Int) (b0 b1 b2 b3 b4 b5 b6 b7 : Int) : Try.prog.built 63 [(0, .agg (⟨s, c, [b0, b1, b2, b3, b4, b5, b6, b7], r, q⟩ : Ky).cells.toArray)] = some (⟨⟨s, c, [b0, b1, b2, b3, b4, b5, b6, b7], r, q⟩, vzero⟩ : Am).cells.toArray := by kernel_rfl
theorem built32_1 (k : Ky) (h : k.m.length = 8) : Try.prog.built 63 [(0, .agg k.cells.toArray)] = some (⟨k, vzero⟩ : Am).cells.toArray := by
  obtain ⟨s, c, m, r, q⟩ := k
  obtain ⟨b0, b1, b2, b3, b4, b5, b6, b7, e⟩ := eight h
  have e' : m = _ := e
  subst e'
  exact built32_1' s c r q b0 b1 b2 b3 b4 b5 b6 b7
theorem built32_2' (s c r q : Int) (b0 b1 b2 b3 b4 b5 b6 b7 : Int) (n : Int) (t0 t1 t2 t3 t4 t5 t6 t7 : Int) : Try.prog.built 63 [(0, .agg (⟨s, c, [b0, b1, b2, b3, b4, b5, b6, b7], r, q⟩ : Ky).cells.toArray), (1, .agg (⟨n, [t0, t1, t2, t3, t4, t5, t6, t7]⟩ : Vl).cells.toArray)] = some (⟨⟨s, c, [b0, b1, b2, b3, b4, b5, b6, b7], r, q⟩, ⟨n, [t0, t1, t2, t3, t4, t5, t6, t7]⟩⟩ : Am).cells.toArray := by kernel_rfl
theorem built32_2 (a : Am) (h : a.Ok) : Try.prog.built 63 [(0, .agg a.k.cells.toArray), (1, .agg a.v.cells.toArray)] = some a.cells.toArray := by
  obtain ⟨⟨s, c, m, r, q⟩, ⟨n, t⟩⟩ := a
  obtain ⟨b0, b1, b2, b3, b4, b5, b6, b7, e⟩ := eight h.k.ml
  obtain ⟨t0, t1, t2, t3, t4, t5, t6, t7, f⟩ := eight h.v.tl
  have e' : m = _ := e
  have f' : t = _ := f
  subst e' f'
  exact built32_2' s c r q b0 b1 b2 b3 b4 b5 b6 b7 n t0 t1 t2 t3 t4 t5 t6 t7

theorem fields30 : (Try.prog.fieldsOf 38).toList = [⟨ "N", 36, 0, false, "", "", 0⟩, ⟨ "Text", 26, 1, false, "", "", 8⟩] := by kernel_rfl
theorem fields32 : (Try.prog.fieldsOf 63).toList = [⟨ "K", 55, 0, false, "", "", 0⟩, ⟨ "V", 38, 12, false, "", "", 12 * 2⟩] := by kernel_rfl
theorem stood30 : Try.prog.stoodInHeld 38 = false := by kernel_rfl
theorem stood32 : Try.prog.stoodInHeld 63 = false := by kernel_rfl
theorem under30 : Try.prog.underlying 38 = some (.struct (Try.prog.fieldsOf 38)) := by kernel_rfl
theorem under32 : Try.prog.underlying 63 = some (.struct (Try.prog.fieldsOf 63)) := by kernel_rfl
theorem part_row {t n : Nat} {d : TypeDesc} (cs : Array Value) (o : Nat) (ds : List Value) (hu : Try.prog.underlying t = some d) (hd : d.isRow = true) (hs : (Try.prog.info? t).map (·.size) = some n) (hx : cs.extract o (o + n) = ds.toArray) (w : World) :
    (Go.part t cs o).run Try.prog w = .ok (.agg ds.toArray) w := by
  have hsz : (sizeOf t).run Try.prog w = .ok n w := by
    cases hq : Try.prog.info? t with
    | none => simp [hq] at hs
    | some i =>
      have hi : i.size = n := by simpa [hq] using hs
      simp [sizeOf, typeInfo, hq, hi]
  have ha : (isAgg t).run Try.prog w = .ok true w := by
    simp only [isAgg, Sem.run_bind, run_underlying hu, Result.andThen_ok]
    cases d <;> simp_all [TypeDesc.isRow]
  simp only [Go.part, Sem.run_bind, ha, Result.andThen_ok, Sem.run_pure, if_true, hsz, hx]
theorem part_vt (v : Vl) (h : v.t.length = 8) (w : World) : (Go.part 26 v.cells.toArray 1).run Try.prog w = .ok (.agg (nm v.t)) w := by
  refine part_row v.cells.toArray 1 (v.t.map (Value.int .u8)) Try.underlying26 rfl size23 ?_ w
  apply Array.ext'
  rw [Array.toList_extract]
  simp only [Vl.cells]
  rw [List.extract_eq_take_drop]
  simp only [List.drop_succ_cons, List.drop_zero]
  rw [show 1 + 8 - 1 = (v.t.map (Value.int .u8)).length by rw [List.length_map, h]]
  exact List.take_length
theorem part_ak (a : Am) (h : a.Ok) (w : World) : (Go.part 55 a.cells.toArray 0).run Try.prog w = .ok (.agg a.k.cells.toArray) w := by
  refine part_row a.cells.toArray 0 a.k.cells Try.underlying55 rfl (zero_of_info info27z).2 ?_ w
  apply Array.ext'
  rw [Array.toList_extract]
  simp only [Am.cells]
  rw [List.extract_eq_take_drop, List.drop_zero, show 0 + 12 - 0 = a.k.cells.length by rw [kcells_len h.k.ml]]
  exact List.take_left' rfl
theorem part_av (a : Am) (h : a.Ok) (w : World) : (Go.part 38 a.cells.toArray 12).run Try.prog w = .ok (.agg a.v.cells.toArray) w := by
  refine part_row a.cells.toArray 12 a.v.cells Try.underlying38 rfl (zero_of_info info30z).2 ?_ w
  apply Array.ext'
  rw [Array.toList_extract]
  simp only [Am.cells]
  rw [List.extract_eq_take_drop, List.drop_left' (kcells_len h.k.ml), show 12 + 9 - 12 = a.v.cells.length by rw [vcells_len h.v.tl]]
  exact List.take_length
theorem eql30 (a b : Vl) (ha : a.t.length = 8) (hb : b.t.length = 8) (d : Nat) (w : World) : (Op.equalIn (d + 3) 38 (.agg a.cells.toArray) (.agg b.cells.toArray)).run Try.prog w = .ok (decide (a = b)) w := by
  rw [run_equalIn_struct w (d + 2) 38 _ _ under30 stood30, fields30]
  have p0 : ∀ k : Vl, (Go.part 36 k.cells.toArray 0).run Try.prog w = .ok (.int .u64 k.n) w := fun k => run_part_plain w plain28 (by simpa using vc0 k)
  rw [eqF_cons (f := ⟨ "N", 36, 0, false, "", "", 0⟩) (by decide) (p0 a) (p0 b) (run_equalIn_int w (d + 1) 36 .u64 .u64 _ _ Try.underlying36),
    eqF_cons (f := ⟨ "Text", 26, 1, false, "", "", 8⟩) (by decide) (part_vt a ha w) (part_vt b hb w) (eql23 a.t b.t ha hb d w)]
  obtain ⟨n, t⟩ := a
  obtain ⟨n', t'⟩ := b
  simp only [Vl.mk.injEq, Op.eqFields, Sem.run_pure]
  by_cases e0 : n = n'
  · by_cases e1 : t = t'
    · simp [e0, e1]
    · simp [e0, e1]
  · simp [e0]
theorem eql32 (a b : Am) (ha : a.Ok) (hb : b.Ok) (d : Nat) (w : World) : (Op.equalIn (d + 4) 63 (.agg a.cells.toArray) (.agg b.cells.toArray)).run Try.prog w = .ok (decide (a = b)) w := by
  rw [run_equalIn_struct w (d + 3) 63 _ _ under32 stood32, fields32]
  rw [eqF_cons (f := ⟨ "K", 55, 0, false, "", "", 0⟩) (by decide) (part_ak a ha w) (part_ak b hb w) (eql27 a.k b.k ha.k.ml hb.k.ml d w),
    eqF_cons (f := ⟨ "V", 38, 12, false, "", "", 12 * 2⟩) (by decide) (part_av a ha w) (part_av b hb w) (eql30 a.v b.v ha.v.tl hb.v.tl d w)]
  obtain ⟨k, v⟩ := a
  obtain ⟨k', v'⟩ := b
  simp only [Am.mk.injEq, Op.eqFields, Sem.run_pure]
  by_cases e0 : k = k'
  · by_cases e1 : v = v'
    · simp [e0, e1]
    · simp [e0, e1]
  · simp [e0]
theorem eqg30 : Try.prog.eqGuardType Try.prog.depth 38 = false := by kernel_rfl
theorem eqg32 : Try.prog.eqGuardType Try.prog.depth 63 = false := by kernel_rfl
theorem exec_eq_vl {o : Oper} {a : Act} {w : World} (x y : Operand) (t : TypeId) (ho : o.op = .binOp .eql 38 x y t) (A B : Vl) (hx : a.eval x = .agg A.cells.toArray) (hy : a.eval y = .agg B.cells.toArray) (hA : A.t.length = 8) (hB : B.t.length = 8) :
    (execOp a.eval o).run Try.prog w = .ok (.value (.bool (decide (A = B)))) w := by
  unfold execOp
  simp only [ho, hx, hy, Sem.run_bind, run_eqGuard_agg w .eql 38 x y _ _ eqg30, Result.andThen_ok, run_eql_struct, eql30 A B hA hB 9997 w, Sem.run_pure]
theorem exec_eq_am {o : Oper} {a : Act} {w : World} (x y : Operand) (t : TypeId) (ho : o.op = .binOp .eql 63 x y t) (A B : Am) (hx : a.eval x = .agg A.cells.toArray) (hy : a.eval y = .agg B.cells.toArray) (hA : A.Ok) (hB : B.Ok) :
    (execOp a.eval o).run Try.prog w = .ok (.value (.bool (decide (A = B)))) w := by
  unfold execOp
  simp only [ho, hx, hy, Sem.run_bind, run_eqGuard_agg w .eql 63 x y _ _ eqg32, Result.andThen_ok, run_eql_struct, eql32 A B hA hB 9996 w, Sem.run_pure]
theorem quiet_load_vl {o : Oper} {a : Act} {W : World} {K : Act → Prop} (G off : Nat) (v : Vl) (x : Operand) (ho : o.op = .load 38 x) (hx : a.eval x = .pointer (some ⟨G, off, none⟩)) (hat : W.rangeAt G off v.cells) (hG : G < W.heap.size) (hm : v.t.length = 8)
    (hk : K (a.put o.dst (.agg v.cells.toArray))) : o.quiet Try.prog a (Cls W) K := quiet_load_cs 38 G off v.cells _ x ho hx hat hG Try.underlying38 rfl (size30 hm) hk
theorem quiet_load_am {o : Oper} {a : Act} {W : World} {K : Act → Prop} (G : Nat) (A : Am) (x : Operand) (ho : o.op = .load 63 x) (hx : a.eval x = .pointer (some ⟨G, 0, none⟩)) (hat : Blk W G 63 A.cells) (hm : A.Ok)
    (hk : K (a.put o.dst (.agg A.cells.toArray))) : o.quiet Try.prog a (Cls W) K := quiet_load_cs 63 G 0 A.cells _ x ho hx hat.range hat.lt Try.underlying63 rfl (size32 hm) hk
theorem quiet_load_nmo {o : Oper} {a : Act} {W : World} {K : Act → Prop} (G off : Nat) (t : List Int) (x : Operand) (ho : o.op = .load 26 x) (hx : a.eval x = .pointer (some ⟨G, off, none⟩)) (hat : W.rangeAt G off (t.map (Value.int .u8))) (hG : G < W.heap.size) (hm : t.length = 8)
    (hk : K (a.put o.dst (.agg (nm t)))) : o.quiet Try.prog a (Cls W) K := quiet_load_cs 26 G off (t.map (Value.int .u8)) _ x ho hx hat hG Try.underlying26 rfl (by rw [List.length_map, hm]; exact size23) hk
theorem results_vl {fn : Func} {t : Tmp} (h : fn.results = #[.cell t 38]) (tmps : Array Value) (w : World) (g : Nat) (v : Vl) (hp : tmps.getD t undef = .pointer (some ⟨g, 0, none⟩)) (hb : Blk w g 38 v.cells) (hm : v.t.length = 8) :
    (results fn tmps).run Try.prog w = .ok (.agg v.cells.toArray) w := results_cell_row h _ _ g 38 v.cells.toArray (0, 0) _ hp hb Try.underlying38 rfl (by rw [List.size_toArray]; exact size30 hm)
theorem results_am {fn : Func} {t : Tmp} (h : fn.results = #[.cell t 63]) (tmps : Array Value) (w : World) (g : Nat) (A : Am) (hp : tmps.getD t undef = .pointer (some ⟨g, 0, none⟩)) (hb : Blk w g 63 A.cells) (hm : A.Ok) :
    (results fn tmps).run Try.prog w = .ok (.agg A.cells.toArray) w := results_cell_row h _ _ g 63 A.cells.toArray (0, 0) _ hp hb Try.underlying63 rfl (by rw [List.size_toArray]; exact size32 hm)
end Go.Proofs.Ytgggjhbijnndhaa
