/- Keys and words as values and in memory: loads, stores, builds and comparisons of whole ones. The contracts of Halves and Whole of package bit, of isRep, isSort, Dot, Undot and hasOwner of package key, and of cmp.Compare. -/
import Derived.Test.YtnpbmihbmilkbaaGreatG01
import Derived.Test.YtnpbmihbmilkbaaGreatG06
import Derived.Laws.StructEq
namespace Go.Proofs.YtnpbmihbmilkbaaGreat
open Go.RowKit
def Ky.cells (k : Ky) : List Value := .int .u8 k.s :: .int .u16 k.c :: (k.m.map (Value.int .u8) ++ [.int .u8 k.r, .int .u32 k.q])
theorem kcells_len {k : Ky} (h : k.m.length = 8) : k.cells.length = 12 := by simp [Ky.cells, h]
theorem kc0 (k : Ky) : k.cells[0]? = some (.int .u8 k.s) := rfl
theorem kc1 (k : Ky) : k.cells[1]? = some (.int .u16 k.c) := rfl
theorem kc10 {k : Ky} (h : k.m.length = 8) : k.cells[10]? = some (.int .u8 k.r) := by simp [Ky.cells, h]
theorem kc11 {k : Ky} (h : k.m.length = 8) : k.cells[11]? = some (.int .u32 k.q) := by simp [Ky.cells, h]
theorem kc_name {k : Ky} (h : k.m.length = 8) (j : Nat) (hj : j < 8) : k.cells[2 + j]? = some (.int .u8 (k.m[j]'(by omega))) := by
  rw [show 2 + j = j + 2 by omega]
  simp only [Ky.cells, List.getElem?_cons_succ]
  rw [List.getElem?_append_left (by simp; omega), List.getElem?_map, List.getElem?_eq_getElem (by omega)]
  rfl
theorem range_knm {w : World} {g o : Nat} {k : Ky} (hr : w.rangeAt g o k.cells) (h : k.m.length = 8) : w.rangeAt g (o + 2) (k.m.map (Value.int .u8)) := fun j v hv => by
  have hj : j < 8 := by
    have := (List.getElem?_eq_some_iff.1 hv).1
    simpa [h] using this
  rw [Nat.add_assoc, hr (2 + j) _ (kc_name h j hj)]
  rw [List.getElem?_map, List.getElem?_eq_getElem (by omega)] at hv
  exact hv
theorem Blk.knm {w : World} {g : Nat} {k : Ky} (h : Blk w g 48 k.cells) (hm : k.m.length = 8) : w.rangeAt g 2 (k.m.map (Value.int .u8)) := by
  have := range_knm h.range hm
  rwa [Nat.zero_add] at this
theorem info27z : (Tryz.prog.info? 48).map (fun i => (i.zero, i.size)) = some (some (.agg kzero.cells.toArray), 12) := by kernel_rfl
theorem zero27 (w : World) : (zeroValue 48).run Tryz.prog w = .ok (.agg kzero.cells.toArray) w := (zero_of_info info27z).1 w
theorem size27 {k : Ky} (h : k.m.length = 8) : (Tryz.prog.info? 48).map (·.size) = some k.cells.length := by rw [kcells_len h]; exact (zero_of_info info27z).2
theorem one27 (k : Ky) : k.cells.toArray.all (·.oneCell') = true := by
  refine all_oneCell_toArray fun v hm => ?_
  unfold Ky.cells at hm
  rcases List.mem_cons.1 hm with rfl | hm
  · rfl
  · rcases List.mem_cons.1 hm with rfl | hm
    · rfl
    · rcases List.mem_append.1 hm with hm | hm
      · obtain ⟨y, _, rfl⟩ := List.mem_map.1 hm; rfl
      · rcases List.mem_cons.1 hm with rfl | hm
        · rfl
        · obtain rfl := List.mem_singleton.1 hm; rfl
/-- The words as cells. -/
def wd (x y z : Int) : List Value := [.int .u64 x, .int .u64 y, .int .u64 z]
def Ky.wd (k : Ky) : List Value := YtnpbmihbmilkbaaGreat.wd k.w0 k.w1 k.w2
theorem wd0 (x y z : Int) : (wd x y z)[0]? = some (.int .u64 x) := rfl
theorem wd1 (x y z : Int) : (wd x y z)[1]? = some (.int .u64 y) := rfl
theorem wd2 (x y z : Int) : (wd x y z)[2]? = some (.int .u64 z) := rfl
theorem info29z : (Tryz.prog.info? 95).map (fun i => (i.zero, i.size)) = some (some (.agg (wd 0 0 0).toArray), 3) := by kernel_rfl
theorem zero29 (w : World) : (zeroValue 95).run Tryz.prog w = .ok (.agg (wd 0 0 0).toArray) w := (zero_of_info info29z).1 w
theorem size29 (x y z : Int) : (Tryz.prog.info? 95).map (·.size) = some (wd x y z).length := (zero_of_info info29z).2
theorem one29 (x y z : Int) : (wd x y z).toArray.all (·.oneCell') = true := by
  refine all_oneCell_toArray fun v hm => ?_
  simp only [wd, List.mem_cons, List.not_mem_nil, or_false] at hm
  rcases hm with rfl | rfl | rfl <;> rfl
theorem wpList_load_ky {ops : Array Oper} {rest : List Oper} {op : Oper} {a : Act} {w : World} {Q : Exit → Act → World → Prop} (hgd : op.guard = none) (x : Operand) (ho : op.op = .load 48 x) (g o : Nat) (k : Ky)
    (hx : a.eval x = .pointer (some ⟨g, o, none⟩)) (hr : w.rangeAt g o k.cells) (hm : k.m.length = 8) (h : wpList Tryz.prog ops Q rest (a.put op.dst (.agg k.cells.toArray)) w) : wpList Tryz.prog ops Q (op :: rest) a w :=
  wpList_load_mid hgd 48 x ho g o hx k.cells _ hr Tryz.underlying48 rfl (size27 hm) h
/-- What is stored over all cells of a block. -/
theorem wpList_store_cs {ops : Array Oper} {rest : List Oper} {op : Oper} {a : Act} {w : World} {Q : Exit → Act → World → Prop} (hgd : op.guard = none) (t : TypeId) (x y : Operand) (ho : op.op = .store t x y) (g : Nat) (cs ds : List Value)
    (hx : a.eval x = .pointer (some ⟨g, 0, none⟩)) (hy : a.eval y = .agg ds.toArray) (hb : Blk w g t cs) (hl : cs.length = ds.length) (hs : (Tryz.prog.info? t).map (·.size) = some ds.length) (h1 : ds.toArray.all (·.oneCell') = true)
    (h : ∀ w', Hid (Blk w' g t ds) → Hid (Only g w w') → wpList Tryz.prog ops Q rest (a.put op.dst undef) w') : wpList Tryz.prog ops Q (op :: rest) a w := by
  have hz : ds.toArray.size = ds.length := List.size_toArray
  refine wpList_store_mid hgd t x y ho g 0 ds.toArray hx hy (hb.there 0 _ (by rw [hz, hl]; omega)) (by rw [hz]; exact hs) h1 ?_
  have hB := Blk.setCells ds 0 w cs hb
  rw [setL_all _ _ hl] at hB
  exact h _ (Lib.hid hB) (Lib.hid (Only.setCells ds 0 w))
theorem wpList_store_ky {ops : Array Oper} {rest : List Oper} {op : Oper} {a : Act} {w : World} {Q : Exit → Act → World → Prop} (hgd : op.guard = none) (x y : Operand) (ho : op.op = .store 48 x y) (g : Nat) (j k : Ky)
    (hx : a.eval x = .pointer (some ⟨g, 0, none⟩)) (hy : a.eval y = .agg k.cells.toArray) (hb : Blk w g 48 j.cells) (hj : j.m.length = 8) (hm : k.m.length = 8)
    (h : ∀ w', Hid (Blk w' g 48 k.cells) → Hid (Only g w w') → wpList Tryz.prog ops Q rest (a.put op.dst undef) w') : wpList Tryz.prog ops Q (op :: rest) a w :=
  wpList_store_cs hgd 48 x y ho g j.cells k.cells hx hy hb (by rw [kcells_len hj, kcells_len hm]) (size27 hm) (one27 k) h
theorem built27_2 (s c : Int) : Tryz.prog.built 48 [(0, .int .u8 s), (1, .int .u16 c)] = some (⟨s, c, M.zero8, 0, 0⟩ : Ky).cells.toArray := by kernel_rfl
theorem eight {m : List Int} (h : m.length = 8) : ∃ a b c d e f g i, m = [a, b, c, d, e, f, g, i] := by
  match m, h with
  | [a, b, c, d, e, f, g, i], _ => exact ⟨a, b, c, d, e, f, g, i, rfl⟩
theorem built29 (x y z : Int) : Tryz.prog.built 95 [(0, .int .u64 x), (1, .int .u64 y), (2, .int .u64 z)] = some (wd x y z).toArray := by kernel_rfl
theorem exec_build {o : Oper} {a : Act} {w : World} (t : TypeId) (fs : Array (Nat × Operand)) (ho : o.op = .build t fs) (vs : List (Nat × Value)) (hvs : (fs.toList.map fun p => (p.1, a.eval p.2)) = vs) (cs : Array Value) (hb : Tryz.prog.built t vs = some cs) :
    (execOp a.eval o).run Tryz.prog w = .ok (.value (.agg cs)) w := by
  have hr : (Instr.build t (fs.map fun (i, x) => (i, a.eval x))).run Tryz.prog w = .ok (.agg cs) w := run_build w t _ _ (by rw [Array.toList_map]; exact (congrArg (Tryz.prog.built t) hvs).trans hb)
  unfold execOp
  simp only [ho, Sem.run_bind, hr, Result.andThen_ok, Sem.run_pure]
/-- An operation that yields a value and does nothing else. -/
theorem wpList_val {ops : Array Oper} {rest : List Oper} {o : Oper} {a : Act} {w : World} {Q : Exit → Act → World → Prop} (hgd : o.guard = none) (v : Value) (hr : (execOp a.eval o).run Tryz.prog w = .ok (.value v) w)
    (h : wpList Tryz.prog ops Q rest (a.put o.dst v) w) : wpList Tryz.prog ops Q (o :: rest) a w :=
  wpList_plain hgd fun _ hK => by
    unfold Oper.wp
    rw [hr]
    exact hK _ _ h
theorem wpList_build {ops : Array Oper} {rest : List Oper} {o : Oper} {a : Act} {w : World} {Q : Exit → Act → World → Prop} (hgd : o.guard = none) (t : TypeId) (fs : Array (Nat × Operand)) (ho : o.op = .build t fs) (vs : List (Nat × Value)) (hvs : (fs.toList.map fun p => (p.1, a.eval p.2)) = vs) (cs : Array Value) (hb : Tryz.prog.built t vs = some cs)
    (h : wpList Tryz.prog ops Q rest (a.put o.dst (.agg cs)) w) : wpList Tryz.prog ops Q (o :: rest) a w := wpList_val hgd _ (exec_build t fs ho vs hvs cs hb) h
theorem fields27 : (Tryz.prog.fieldsOf 48).toList = [⟨ "Sort", 5, 0, false, "", "", 0⟩, ⟨ "Cart", 45, 1, false, "", "", 2⟩, ⟨ "Item", 40, 2, false, "", "", 4⟩, ⟨ "Rep", 5, 10, false, "", "", 12⟩, ⟨ "Seq", 46, 11, false, "", "", 16⟩] := by kernel_rfl
theorem stood27 : Tryz.prog.stoodInHeld 48 = false := by kernel_rfl
theorem under27 : Tryz.prog.underlying 48 = some (.struct (Tryz.prog.fieldsOf 48)) := by kernel_rfl
theorem plain5 : Tryz.prog.plainKey 5 = true := by kernel_rfl
theorem plain22 : Tryz.prog.plainKey 45 = true := by kernel_rfl
theorem plain25 : Tryz.prog.plainKey 46 = true := by kernel_rfl
theorem plain28 : Tryz.prog.plainKey 22 = true := by kernel_rfl
theorem part_ky (k : Ky) (h : k.m.length = 8) (w : World) : (Go.part 40 k.cells.toArray 2).run Tryz.prog w = .ok (.agg (nm k.m)) w := by
  have hsz : (sizeOf 40).run Tryz.prog w = .ok 8 w := by
    have h8 := size23
    cases hq : Tryz.prog.info? 40 with
    | none => simp [hq] at h8
    | some i =>
      have hi : i.size = 8 := by simpa [hq] using h8
      simp [sizeOf, typeInfo, hq, hi]
  have hx : k.cells.toArray.extract 2 (2 + 8) = nm k.m := by
    apply Array.ext'
    rw [Array.toList_extract]
    simp only [Ky.cells, nm]
    rw [List.extract_eq_take_drop]
    simp only [List.drop_succ_cons, List.drop_zero]
    rw [show 2 + 8 - 2 = (k.m.map (Value.int .u8)).length by rw [List.length_map, h]]
    exact List.take_left' rfl
  simp only [Go.part, Sem.run_bind, isAgg, run_underlying Tryz.underlying40, Result.andThen_ok, Sem.run_pure, if_true, hsz, hx]
theorem eqF_cons {d : Nat} {xs ys : Array Value} {f : Field} {fs : List Field} {w : World} {a b : Value} {r : Bool} (hn : f.name ≠ "_") (ha : (Go.part f.type xs f.offset).run Tryz.prog w = .ok a w) (hb : (Go.part f.type ys f.offset).run Tryz.prog w = .ok b w) (hr : (Op.equalIn d f.type a b).run Tryz.prog w = .ok r w) :
    (Op.eqFields d xs ys (f :: fs)).run Tryz.prog w = if r = true then (Op.eqFields d xs ys fs).run Tryz.prog w else .ok false w := by
  simp only [Op.eqFields, hn, ne_eq, not_false_eq_true, if_true, Sem.run_bind, ha, hb, hr, Result.andThen_ok]
  cases r <;> simp
theorem eql27 (a b : Ky) (ha : a.m.length = 8) (hb : b.m.length = 8) (d : Nat) (w : World) : (Op.equalIn (d + 3) 48 (.agg a.cells.toArray) (.agg b.cells.toArray)).run Tryz.prog w = .ok (decide (a = b)) w := by
  rw [run_equalIn_struct w (d + 2) 48 _ _ under27 stood27, fields27]
  have p0 : ∀ k : Ky, (Go.part 5 k.cells.toArray 0).run Tryz.prog w = .ok (.int .u8 k.s) w := fun k => run_part_plain w plain5 (by simpa using kc0 k)
  have p1 : ∀ k : Ky, (Go.part 45 k.cells.toArray 1).run Tryz.prog w = .ok (.int .u16 k.c) w := fun k => run_part_plain w plain22 (by simpa using kc1 k)
  have p3 : ∀ k : Ky, k.m.length = 8 → (Go.part 5 k.cells.toArray 10).run Tryz.prog w = .ok (.int .u8 k.r) w := fun k h => run_part_plain w plain5 (by simpa using kc10 h)
  have p4 : ∀ k : Ky, k.m.length = 8 → (Go.part 46 k.cells.toArray 11).run Tryz.prog w = .ok (.int .u32 k.q) w := fun k h => run_part_plain w plain25 (by simpa using kc11 h)
  rw [eqF_cons (f := ⟨ "Sort", 5, 0, false, "", "", 0⟩) (by decide) (p0 a) (p0 b) (run_equalIn_int w (d + 1) 5 .u8 .u8 _ _ Tryz.underlying5),
    eqF_cons (f := ⟨ "Cart", 45, 1, false, "", "", 2⟩) (by decide) (p1 a) (p1 b) (run_equalIn_int w (d + 1) 45 .u16 .u16 _ _ Tryz.underlying45),
    eqF_cons (f := ⟨ "Item", 40, 2, false, "", "", 4⟩) (by decide) (part_ky a ha w) (part_ky b hb w) (eql23 a.m b.m ha hb d w),
    eqF_cons (f := ⟨ "Rep", 5, 10, false, "", "", 12⟩) (by decide) (p3 a ha) (p3 b hb) (run_equalIn_int w (d + 1) 5 .u8 .u8 _ _ Tryz.underlying5),
    eqF_cons (f := ⟨ "Seq", 46, 11, false, "", "", 16⟩) (by decide) (p4 a ha) (p4 b hb) (run_equalIn_int w (d + 1) 46 .u32 .u32 _ _ Tryz.underlying46)]
  obtain ⟨s, c, m, r, q⟩ := a
  obtain ⟨s', c', m', r', q'⟩ := b
  simp only [Ky.mk.injEq, Op.eqFields, Sem.run_pure]
  by_cases e0 : s = s'
  · by_cases e1 : c = c'
    · by_cases e2 : m = m'
      · by_cases e3 : r = r'
        · by_cases e4 : q = q'
          · simp [e0, e1, e2, e3, e4]
          · simp [e0, e1, e2, e3, e4]
        · simp [e0, e1, e2, e3]
      · simp [e0, e1, e2]
    · simp [e0, e1]
  · simp [e0]
theorem eqg27 : Tryz.prog.eqGuardType Tryz.prog.depth 48 = false := by kernel_rfl
theorem exec_eq_ky {o : Oper} {a : Act} {w : World} (x y : Operand) (t : TypeId) (ho : o.op = .binOp .eql 48 x y t) (A B : Ky) (hx : a.eval x = .agg A.cells.toArray) (hy : a.eval y = .agg B.cells.toArray) (hA : A.m.length = 8) (hB : B.m.length = 8) :
    (execOp a.eval o).run Tryz.prog w = .ok (.value (.bool (decide (A = B)))) w := by
  unfold execOp
  simp only [ho, hx, hy, Sem.run_bind, run_eqGuard_agg w .eql 48 x y _ _ eqg27, Result.andThen_ok, run_eql_struct, eql27 A B hA hB 9997 w, Sem.run_pure]
/-- What a region that draws its order takes as it stands. -/
theorem quiet_val {o : Oper} {a : Act} {W : World} {K : Act → Prop} (v : Value) (h : ∀ w, (execOp a.eval o).run Tryz.prog w = .ok (.value v) w) (hk : K (a.put o.dst v)) : o.quiet Tryz.prog a (Cls W) K := by
  refine ⟨v, fun w _ => ?_, hk⟩
  unfold Oper.quietAt
  rw [h w]
  exact ⟨rfl, rfl⟩
theorem quiet_load_cs {o : Oper} {a : Act} {W : World} {K : Act → Prop} (t : TypeId) (G off : Nat) (cs : List Value) (d : TypeDesc) (x : Operand) (ho : o.op = .load t x) (hx : a.eval x = .pointer (some ⟨G, off, none⟩)) (hat : W.rangeAt G off cs) (hG : G < W.heap.size)
    (hu : Tryz.prog.underlying t = some d) (hd : d.isRow = true) (hs : (Tryz.prog.info? t).map (·.size) = some cs.length) (hk : K (a.put o.dst (.agg cs.toArray))) : o.quiet Tryz.prog a (Cls W) K := by
  refine ⟨.agg cs.toArray, fun w hw => ?_, hk⟩
  obtain ⟨T, rfl⟩ := hw
  have h := run_loadAt_mid (P := Tryz.prog) T.1 G off t cs d (range_below hat hG T.2) hu hd hs
  unfold Oper.quietAt
  have e : (execOp a.eval o).run Tryz.prog T.1 = .ok (.value (.agg cs.toArray)) T.1 := by
    simp [execOp, ho, hx, h]
  rw [e]
  exact ⟨rfl, rfl⟩
theorem results_wd {fn : Func} {t : Tmp} (h : fn.results = #[.cell t 95]) (tmps : Array Value) (w : World) (g : Nat) (p q r : Int) (hp : tmps.getD t undef = .pointer (some ⟨g, 0, none⟩)) (hb : Blk w g 95 (wd p q r)) :
    (results fn tmps).run Tryz.prog w = .ok (.agg (wd p q r).toArray) w := results_cell_row h _ _ g 95 (wd p q r).toArray (0, 0) _ hp hb Tryz.underlying95 rfl (by rw [List.size_toArray]; exact size29 p q r)
end Go.Proofs.YtnpbmihbmilkbaaGreat
namespace Go.Proofs.YtnpbmihbmilkbaaGreat
open Go.RowKit
theorem or_up (a b : Int) (k : Nat) (h0 : 0 ≤ a) (hm : a * 2 ^ k < 18446744073709551616) (h2 : 0 ≤ b) (h3 : b < 2 ^ k) (hk : k < 64) : bits .or .u64 (a * 2 ^ k) b = a * 2 ^ k + b := by
  have hl := pow_lt k hk
  have hp := pow_pos k
  have hn := Int.mul_nonneg h0 (show (0 : Int) ≤ 2 ^ k by omega)
  rw [u64_or _ _ hn hm h2 (by omega)]
  obtain ⟨c, rfl⟩ := Int.eq_ofNat_of_zero_le h0
  have e2 : ((c : Int) * 2 ^ k).toNat = 2 ^ k * c := by rw [← pow_nat, ← Int.natCast_mul, Int.toNat_natCast, Nat.mul_comm]
  have h4 : b.toNat < 2 ^ k := by have := pow_nat k; omega
  rw [e2, ← Nat.two_pow_add_eq_or_of_lt h4, Int.natCast_add, Int.natCast_mul, pow_nat, Int.mul_comm, Int.toNat_of_nonneg h2]
theorem or32 (a b : Int) (h0 : 0 ≤ a) (h1 : a < 4294967296) (h2 : 0 ≤ b) (h3 : b < 4294967296) : bits .or .u64 (a * 4294967296) b = a * 4294967296 + b := or_up a b 32 h0 (by omega) h2 h3 (by omega)
theorem or16 (a b : Int) (h0 : 0 ≤ a) (h1 : a < 256) (h2 : 0 ≤ b) (h3 : b < 65536) : bits .or .u64 (a * 65536) b = a * 65536 + b := or_up a b 16 h0 (by omega) h2 h3 (by omega)
theorem whole_is (a b r : Int) (w : World) (h0 : 0 ≤ a) (h1 : a < 4294967296) (h2 : 0 ≤ b) (h3 : b < 4294967296) (hr : Hid (bits .or .u64 (a * 4294967296) b = r)) :
    Calls Tryz.prog 150 #[.int .u32 a, .int .u32 b] w fun e w' => e = .returned (.int .u64 r) ∧ w = w' := by
  go_enter Tryz.func150, Tryz.ntmps150
  go_wp2
  go_ret
  exact ⟨ret_int hr.out, rfl⟩
theorem isRep_is (x : Int) (w : World) : Calls Tryz.prog 142 #[.int .u8 x] w fun e w' => e = .returned (.bool (decide (x < 16))) ∧ w = w' := by
  go_enter Tryz.func142, Tryz.ntmps142
  go_wp2
  go_ret
  exact ⟨rfl, rfl⟩
/-- Is it a sort? -/
def sortB (x : Int) : Bool := decide (1 ≤ x) && decide (x ≤ 4)
theorem dot_is (k : Ky) (w : World) (hk : k.Ok) : Calls Tryz.prog 135 #[.agg k.cells.toArray] w fun e w' => e = .returned (.int .u64 k.w2) ∧ Below w.heap.size w w' := by
  have q := blk_alloc w 48 k.cells
  have c3 := q.cell (kc10 hk.ml)
  have c4 := q.cell (kc11 hk.ml)
  have B0 := Lib.hid (new_below w (.cells k.cells.toArray 48))
  have r0 := hk.r0
  have r1 := hk.r1
  have HK := Lib.hid hk
  clear q hk
  go_enter Tryz.func135, Tryz.ntmps135
  go_wp2_with fail
  refine (whole_is k.r k.q k.w2 _ r0 (by omega) HK.out.q0 HK.out.q1 (Lib.hid (or32 _ _ r0 (by omega) HK.out.q0 HK.out.q1))).mono ?_
  rintro e w1 ⟨rfl, rfl⟩
  go_wp2_with fail
  go_ret
  exact ⟨rfl, B0.out⟩
theorem hasOwner_is (k : Ky) (b : Bool) (w : World) (hk : k.Ok) (hb : Hid ((M.rightB k.m && decide (k.r < 16)) = b)) : Calls Tryz.prog 128 #[.agg k.cells.toArray] w fun e w' => e = .returned (.bool b) ∧ Below w.heap.size w w' := by
  have q := blk_alloc w 48 k.cells
  have HQ := Lib.hid q
  have B0 := Lib.hid (new_below w (.cells k.cells.toArray 48))
  have HN := Lib.hid (q.knm hk.ml)
  have HK := Lib.hid hk
  obtain ⟨p, hp⟩ : ∃ p, M.rightB k.m = p := ⟨_, rfl⟩
  have HP := Lib.hid hp
  have h := hb.out
  rw [hp] at h
  clear q hk hb hp
  go_enter Tryz.func128, Tryz.ntmps128
  go_wp2_with (refine wpList_load_nm rfl _ rfl w.heap.size 2 k.m rfl HN.out HK.out.ml ?_)
  refine (right_is k.m p _ HK.out.ml (Lib.hid HK.out.mb) HP).mono ?_
  rintro e w1 ⟨rfl, c1⟩
  have d3 := (HQ.out.below c1).cell (kc10 HK.out.ml)
  have B1 := Lib.hid (step_ B0.out c1)
  clear c1
  cases p with
  | false =>
    rw [Bool.false_and] at h
    subst h
    go_wp2_with fail
    go_ret
    exact ⟨rfl, B1.out⟩
  | true =>
    rw [Bool.true_and] at h
    subst h
    go_wp2_with fail
    refine (isRep_is k.r _).mono ?_
    rintro e w2 ⟨rfl, rfl⟩
    go_wp2_with fail
    go_ret
    exact ⟨rfl, B1.out⟩
theorem isNaN_is (x : Int) (w : World) : Calls Tryz.prog 111 #[.int .u64 x] w fun e w' => e = .returned (.bool false) ∧ w = w' := by
  go_enter Tryz.func111, Tryz.ntmps111
  go_wp2
  go_ret
  exact ⟨rfl, rfl⟩
/-- What cmp.Compare says. -/
def cmp2 (x y : Int) : Int := if x < y then -1 else if y < x then 1 else 0
theorem compare_is (x y : Int) (w : World) : Calls Tryz.prog 136 #[.int .u64 x, .int .u64 y] w fun e w' => e = .returned (.int .i64 (cmp2 x y)) ∧ w = w' := by
  by_cases h1 : x < y
  · have e1 : cmp2 x y = -1 := if_pos h1
    rw [e1]
    clear e1
    go_enter Tryz.func136, Tryz.ntmps136
    go_wp2_with fail
    refine (isNaN_is x _).mono ?_
    rintro e w1 ⟨rfl, rfl⟩
    go_wp2_with fail
    refine (isNaN_is y _).mono ?_
    rintro e w1 ⟨rfl, rfl⟩
    go_wp2_with fail
    go_ret
    exact ⟨rfl, rfl⟩
  · by_cases h2 : y < x
    · have e1 : cmp2 x y = 1 := by unfold cmp2; rw [if_neg h1, if_pos h2]
      rw [e1]
      clear e1
      go_enter Tryz.func136, Tryz.ntmps136
      go_wp2_with fail
      refine (isNaN_is x _).mono ?_
      rintro e w1 ⟨rfl, rfl⟩
      go_wp2_with fail
      refine (isNaN_is y _).mono ?_
      rintro e w1 ⟨rfl, rfl⟩
      go_wp2_with fail
      go_ret
      exact ⟨rfl, rfl⟩
    · have e1 : cmp2 x y = 0 := by unfold cmp2; rw [if_neg h1, if_neg h2]
      rw [e1]
      clear e1
      go_enter Tryz.func136, Tryz.ntmps136
      go_wp2_with fail
      refine (isNaN_is x _).mono ?_
      rintro e w1 ⟨rfl, rfl⟩
      go_wp2_with fail
      refine (isNaN_is y _).mono ?_
      rintro e w1 ⟨rfl, rfl⟩
      go_wp2_with fail
      go_ret
      exact ⟨rfl, rfl⟩
end Go.Proofs.YtnpbmihbmilkbaaGreat
