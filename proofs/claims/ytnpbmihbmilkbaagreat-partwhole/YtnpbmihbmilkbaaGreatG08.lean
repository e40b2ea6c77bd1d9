/- Values and atoms as values and in memory: loads, stores, builds and comparisons of whole ones. The contracts of Stamp, Unstamp, isRep, isStamp, and of the conditions on values. -/
import Derived.Test.YtnpbmihbmilkbaaGreatG01
import Derived.Test.YtnpbmihbmilkbaaGreatG07
import Derived.Test.YtnpbmihbmilkbaaGreatG06
namespace Go.Proofs.YtnpbmihbmilkbaaGreat
open Go.RowKit
def Vl.cells (v : Vl) : List Value := .int .u64 v.n :: v.t.map (Value.int .u8)
def Am.cells (a : Am) : List Value := a.k.cells ++ a.v.cells
theorem vcells_len {v : Vl} (h : v.t.length = 8) : v.cells.length = 9 := by simp [Vl.cells, h]
theorem acells_len {a : Am} (h : a.Ok) : a.cells.length = 21 := by rw [Am.cells, List.length_append, kcells_len h.k.ml, vcells_len h.v.tl]
theorem vc0 (v : Vl) : v.cells[0]? = some (.int .u64 v.n) := rfl
theorem ac0 (a : Am) : a.cells[0]? = some (.int .u8 a.k.s) := rfl
theorem ac12 {a : Am} (h : a.Ok) : a.cells[12]? = some (.int .u64 a.v.n) := by
  rw [Am.cells, List.getElem?_append_right (by rw [kcells_len h.k.ml]; omega), kcells_len h.k.ml]
  rfl
theorem range_vnm {w : World} {g o : Nat} {v : Vl} (hr : w.rangeAt g o v.cells) : w.rangeAt g (o + 1) (v.t.map (Value.int .u8)) := fun j x hx => by
  rw [Nat.add_assoc, Nat.add_comm 1 j, hr (j + 1) x hx]
theorem Blk.vnm {w : World} {g : Nat} {v : Vl} (h : Blk w g 42 v.cells) : w.rangeAt g 1 (v.t.map (Value.int .u8)) := by
  have := range_vnm h.range
  rwa [Nat.zero_add] at this
theorem Blk.ak {w : World} {g : Nat} {a : Am} (h : Blk w g 50 a.cells) : w.rangeAt g 0 a.k.cells := fun j x hx => by
  have hj := (List.getElem?_eq_some_iff.1 hx).1
  exact h.range j x (by rw [Am.cells, List.getElem?_append_left hj]; exact hx)
theorem Blk.av {w : World} {g : Nat} {a : Am} (h : Blk w g 50 a.cells) (ha : a.Ok) : w.rangeAt g 12 a.v.cells := fun j x hx => by
  have := h.range (12 + j) x (by rw [Am.cells, List.getElem?_append_right (by rw [kcells_len ha.k.ml]; omega), kcells_len ha.k.ml, show 12 + j - 12 = j by omega]; exact hx)
  rwa [Nat.zero_add] at this
theorem Blk.avt {w : World} {g : Nat} {a : Am} (h : Blk w g 50 a.cells) (ha : a.Ok) : w.rangeAt g 13 (a.v.t.map (Value.int .u8)) := range_vnm (h.av ha)
theorem info30z : (Tryz.prog.info? 42).map (fun i => (i.zero, i.size)) = some (some (.agg vzero.cells.toArray), 9) := by kernel_rfl
theorem zero30 (w : World) : (zeroValue 42).run Tryz.prog w = .ok (.agg vzero.cells.toArray) w := (zero_of_info info30z).1 w
theorem size30 {v : Vl} (h : v.t.length = 8) : (Tryz.prog.info? 42).map (·.size) = some v.cells.length := by rw [vcells_len h]; exact (zero_of_info info30z).2
theorem info32z : (Tryz.prog.info? 50).map (fun i => (i.zero, i.size)) = some (some (.agg azero.cells.toArray), 21) := by kernel_rfl
theorem zero32 (w : World) : (zeroValue 50).run Tryz.prog w = .ok (.agg azero.cells.toArray) w := (zero_of_info info32z).1 w
theorem size32 {a : Am} (h : a.Ok) : (Tryz.prog.info? 50).map (·.size) = some a.cells.length := by rw [acells_len h]; exact (zero_of_info info32z).2
theorem one30 (v : Vl) : v.cells.toArray.all (·.oneCell') = true := by
  refine all_oneCell_toArray fun x hm => ?_
  unfold Vl.cells at hm
  rcases List.mem_cons.1 hm with rfl | hm
  · rfl
  · obtain ⟨y, _, rfl⟩ := List.mem_map.1 hm; rfl
theorem all_list {cs : List Value} (h : cs.toArray.all (·.oneCell') = true) (v : Value) (hv : v ∈ cs) : v.oneCell' = true := by
  rw [List.all_toArray, List.all_eq_true] at h
  exact h v hv
theorem one32 (a : Am) : a.cells.toArray.all (·.oneCell') = true := by
  refine all_oneCell_toArray fun x hm => ?_
  unfold Am.cells at hm
  rcases List.mem_append.1 hm with hm | hm
  · exact all_list (one27 _) _ hm
  · exact all_list (one30 _) _ hm
theorem wpList_load_vl {ops : Array Oper} {rest : List Oper} {op : Oper} {a : Act} {w : World} {Q : Exit → Act → World → Prop} (hgd : op.guard = none) (x : Operand) (ho : op.op = .load 42 x) (g o : Nat) (v : Vl)
    (hx : a.eval x = .pointer (some ⟨g, o, none⟩)) (hr : w.rangeAt g o v.cells) (hm : v.t.length = 8) (h : wpList Tryz.prog ops Q rest (a.put op.dst (.agg v.cells.toArray)) w) : wpList Tryz.prog ops Q (op :: rest) a w :=
  wpList_load_mid hgd 42 x ho g o hx v.cells _ hr Tryz.underlying42 rfl (size30 hm) h
theorem wpList_load_am {ops : Array Oper} {rest : List Oper} {op : Oper} {a : Act} {w : World} {Q : Exit → Act → World → Prop} (hgd : op.guard = none) (x : Operand) (ho : op.op = .load 50 x) (g : Nat) (A : Am)
    (hx : a.eval x = .pointer (some ⟨g, 0, none⟩)) (hb : Blk w g 50 A.cells) (hm : A.Ok) (h : wpList Tryz.prog ops Q rest (a.put op.dst (.agg A.cells.toArray)) w) : wpList Tryz.prog ops Q (op :: rest) a w :=
  wpList_load_mid hgd 50 x ho g 0 hx A.cells _ hb.range Tryz.underlying50 rfl (size32 hm) h
theorem wpList_store_vl {ops : Array Oper} {rest : List Oper} {op : Oper} {a : Act} {w : World} {Q : Exit → Act → World → Prop} (hgd : op.guard = none) (x y : Operand) (ho : op.op = .store 42 x y) (g : Nat) (j k : Vl)
    (hx : a.eval x = .pointer (some ⟨g, 0, none⟩)) (hy : a.eval y = .agg k.cells.toArray) (hb : Blk w g 42 j.cells) (hj : j.t.length = 8) (hm : k.t.length = 8)
    (h : ∀ w', Hid (Blk w' g 42 k.cells) → Hid (Only g w w') → wpList Tryz.prog ops Q rest (a.put op.dst undef) w') : wpList Tryz.prog ops Q (op :: rest) a w :=
  wpList_store_cs hgd 42 x y ho g j.cells k.cells hx hy hb (by rw [vcells_len hj, vcells_len hm]) (size30 hm) (one30 k) h
theorem wpList_store_am {ops : Array Oper} {rest : List Oper} {op : Oper} {a : Act} {w : World} {Q : Exit → Act → World → Prop} (hgd : op.guard = none) (x y : Operand) (ho : op.op = .store 50 x y) (g : Nat) (j k : Am)
    (hx : a.eval x = .pointer (some ⟨g, 0, none⟩)) (hy : a.eval y = .agg k.cells.toArray) (hb : Blk w g 50 j.cells) (hj : j.Ok) (hm : k.Ok)
    (h : ∀ w', Hid (Blk w' g 50 k.cells) → Hid (Only g w w') → wpList Tryz.prog ops Q rest (a.put op.dst undef) w') : wpList Tryz.prog ops Q (op :: rest) a w :=
  wpList_store_cs hgd 50 x y ho g j.cells k.cells hx hy hb (by rw [acells_len hj, acells_len hm]) (size32 hm) (one32 k) h
theorem built30_0 : Tryz.prog.built 42 [] = some vzero.cells.toArray := by kernel_rfl
theorem built30_1 (n : Int) : Tryz.prog.built 42 [(0, .int .u64 n)] = some (⟨n, M.zero8⟩ : Vl).cells.toArray := by kernel_rfl
theorem built32_2' (s c r q : Int) (b0 b1 b2 b3 b4 b5 b6 b7 : Int) (n : Int) (t0 t1 t2 t3 t4 t5 t6 t7 : Int) : Tryz.prog.built 50 [(0, .agg (⟨s, c, [b0, b1, b2, b3, b4, b5, b6, b7], r, q⟩ : Ky).cells.toArray), (1, .agg (⟨n, [t0, t1, t2, t3, t4, t5, t6, t7]⟩ : Vl).cells.toArray)] = some (⟨⟨s, c, [b0, b1, b2, b3, b4, b5, b6, b7], r, q⟩, ⟨n, [t0, t1, t2, t3, t4, t5, t6, t7]⟩⟩ : Am).cells.toArray := by kernel_rfl
theorem built32_2 (a : Am) (h : a.Ok) : Tryz.prog.built 50 [(0, .agg a.k.cells.toArray), (1, .agg a.v.cells.toArray)] = some a.cells.toArray := by
  obtain ⟨⟨s, c, m, r, q⟩, ⟨n, t⟩⟩ := a
  obtain ⟨b0, b1, b2, b3, b4, b5, b6, b7, e⟩ := eight h.k.ml
  obtain ⟨t0, t1, t2, t3, t4, t5, t6, t7, f⟩ := eight h.v.tl
  have e' : m = _ := e
  have f' : t = _ := f
  subst e' f'
  exact built32_2' s c r q b0 b1 b2 b3 b4 b5 b6 b7 n t0 t1 t2 t3 t4 t5 t6 t7
theorem fields30 : (Tryz.prog.fieldsOf 42).toList = [⟨ "N", 22, 0, false, "", "", 0⟩, ⟨ "Text", 40, 1, false, "", "", 8⟩] := by kernel_rfl
theorem fields32 : (Tryz.prog.fieldsOf 50).toList = [⟨ "K", 48, 0, false, "", "", 0⟩, ⟨ "V", 42, 12, false, "", "", 12 * 2⟩] := by kernel_rfl
theorem stood30 : Tryz.prog.stoodInHeld 42 = false := by kernel_rfl
theorem stood32 : Tryz.prog.stoodInHeld 50 = false := by kernel_rfl
theorem under30 : Tryz.prog.underlying 42 = some (.struct (Tryz.prog.fieldsOf 42)) := by kernel_rfl
theorem under32 : Tryz.prog.underlying 50 = some (.struct (Tryz.prog.fieldsOf 50)) := by kernel_rfl
theorem part_row {t n : Nat} {d : TypeDesc} (cs : Array Value) (o : Nat) (ds : List Value) (hu : Tryz.prog.underlying t = some d) (hd : d.isRow = true) (hs : (Tryz.prog.info? t).map (·.size) = some n) (hx : cs.extract o (o + n) = ds.toArray) (w : World) :
    (Go.part t cs o).run Tryz.prog w = .ok (.agg ds.toArray) w := by
  have hsz : (sizeOf t).run Tryz.prog w = .ok n w := by
    cases hq : Tryz.prog.info? t with
    | none => simp [hq] at hs
    | some i =>
      have hi : i.size = n := by simpa [hq] using hs
      simp [sizeOf, typeInfo, hq, hi]
  have ha : (isAgg t).run Tryz.prog w = .ok true w := by
    simp only [isAgg, Sem.run_bind, run_underlying hu, Result.andThen_ok]
    cases d <;> simp_all [TypeDesc.isRow]
  simp only [Go.part, Sem.run_bind, ha, Result.andThen_ok, Sem.run_pure, if_true, hsz, hx]
theorem part_vt (v : Vl) (h : v.t.length = 8) (w : World) : (Go.part 40 v.cells.toArray 1).run Tryz.prog w = .ok (.agg (nm v.t)) w := by
  refine part_row v.cells.toArray 1 (v.t.map (Value.int .u8)) Tryz.underlying40 rfl size23 ?_ w
  apply Array.ext'
  rw [Array.toList_extract]
  simp only [Vl.cells]
  rw [List.extract_eq_take_drop]
  simp only [List.drop_succ_cons, List.drop_zero]
  rw [show 1 + 8 - 1 = (v.t.map (Value.int .u8)).length by rw [List.length_map, h]]
  exact List.take_length
theorem part_ak (a : Am) (h : a.Ok) (w : World) : (Go.part 48 a.cells.toArray 0).run Tryz.prog w = .ok (.agg a.k.cells.toArray) w := by
  refine part_row a.cells.toArray 0 a.k.cells Tryz.underlying48 rfl (zero_of_info info27z).2 ?_ w
  apply Array.ext'
  rw [Array.toList_extract]
  simp only [Am.cells]
  rw [List.extract_eq_take_drop, List.drop_zero, show 0 + 12 - 0 = a.k.cells.length by rw [kcells_len h.k.ml]]
  exact List.take_left' rfl
theorem part_av (a : Am) (h : a.Ok) (w : World) : (Go.part 42 a.cells.toArray 12).run Tryz.prog w = .ok (.agg a.v.cells.toArray) w := by
  refine part_row a.cells.toArray 12 a.v.cells Tryz.underlying42 rfl (zero_of_info info30z).2 ?_ w
  apply Array.ext'
  rw [Array.toList_extract]
  simp only [Am.cells]
  rw [List.extract_eq_take_drop, List.drop_left' (kcells_len h.k.ml), show 12 + 9 - 12 = a.v.cells.length by rw [vcells_len h.v.tl]]
  exact List.take_length
theorem eql30 (a b : Vl) (ha : a.t.length = 8) (hb : b.t.length = 8) (d : Nat) (w : World) : (Op.equalIn (d + 3) 42 (.agg a.cells.toArray) (.agg b.cells.toArray)).run Tryz.prog w = .ok (decide (a = b)) w := by
  rw [run_equalIn_struct w (d + 2) 42 _ _ under30 stood30, fields30]
  have p0 : ∀ k : Vl, (Go.part 22 k.cells.toArray 0).run Tryz.prog w = .ok (.int .u64 k.n) w := fun k => run_part_plain w plain28 (by simpa using vc0 k)
  rw [eqF_cons (f := ⟨ "N", 22, 0, false, "", "", 0⟩) (by decide) (p0 a) (p0 b) (run_equalIn_int w (d + 1) 22 .u64 .u64 _ _ Tryz.underlying22),
    eqF_cons (f := ⟨ "Text", 40, 1, false, "", "", 8⟩) (by decide) (part_vt a ha w) (part_vt b hb w) (eql23 a.t b.t ha hb d w)]
  obtain ⟨n, t⟩ := a
  obtain ⟨n', t'⟩ := b
  simp only [Vl.mk.injEq, Op.eqFields, Sem.run_pure]
  by_cases e0 : n = n'
  · by_cases e1 : t = t'
    · simp [e0, e1]
    · simp [e0, e1]
  · simp [e0]
theorem eql32 (a b : Am) (ha : a.Ok) (hb : b.Ok) (d : Nat) (w : World) : (Op.equalIn (d + 4) 50 (.agg a.cells.toArray) (.agg b.cells.toArray)).run Tryz.prog w = .ok (decide (a = b)) w := by
  rw [run_equalIn_struct w (d + 3) 50 _ _ under32 stood32, fields32]
  rw [eqF_cons (f := ⟨ "K", 48, 0, false, "", "", 0⟩) (by decide) (part_ak a ha w) (part_ak b hb w) (eql27 a.k b.k ha.k.ml hb.k.ml d w),
    eqF_cons (f := ⟨ "V", 42, 12, false, "", "", 12 * 2⟩) (by decide) (part_av a ha w) (part_av b hb w) (eql30 a.v b.v ha.v.tl hb.v.tl d w)]
  obtain ⟨k, v⟩ := a
  obtain ⟨k', v'⟩ := b
  simp only [Am.mk.injEq, Op.eqFields, Sem.run_pure]
  by_cases e0 : k = k'
  · by_cases e1 : v = v'
    · simp [e0, e1]
    · simp [e0, e1]
  · simp [e0]
theorem eqg30 : Tryz.prog.eqGuardType Tryz.prog.depth 42 = false := by kernel_rfl
theorem eqg32 : Tryz.prog.eqGuardType Tryz.prog.depth 50 = false := by kernel_rfl
theorem exec_eq_vl {o : Oper} {a : Act} {w : World} (x y : Operand) (t : TypeId) (ho : o.op = .binOp .eql 42 x y t) (A B : Vl) (hx : a.eval x = .agg A.cells.toArray) (hy : a.eval y = .agg B.cells.toArray) (hA : A.t.length = 8) (hB : B.t.length = 8) :
    (execOp a.eval o).run Tryz.prog w = .ok (.value (.bool (decide (A = B)))) w := by
  unfold execOp
  simp only [ho, hx, hy, Sem.run_bind, run_eqGuard_agg w .eql 42 x y _ _ eqg30, Result.andThen_ok, run_eql_struct, eql30 A B hA hB 9997 w, Sem.run_pure]
theorem quiet_load_vl {o : Oper} {a : Act} {W : World} {K : Act → Prop} (G off : Nat) (v : Vl) (x : Operand) (ho : o.op = .load 42 x) (hx : a.eval x = .pointer (some ⟨G, off, none⟩)) (hat : W.rangeAt G off v.cells) (hG : G < W.heap.size) (hm : v.t.length = 8)
    (hk : K (a.put o.dst (.agg v.cells.toArray))) : o.quiet Tryz.prog a (Cls W) K := quiet_load_cs 42 G off v.cells _ x ho hx hat hG Tryz.underlying42 rfl (size30 hm) hk
theorem quiet_load_am {o : Oper} {a : Act} {W : World} {K : Act → Prop} (G : Nat) (A : Am) (x : Operand) (ho : o.op = .load 50 x) (hx : a.eval x = .pointer (some ⟨G, 0, none⟩)) (hat : Blk W G 50 A.cells) (hm : A.Ok)
    (hk : K (a.put o.dst (.agg A.cells.toArray))) : o.quiet Tryz.prog a (Cls W) K := quiet_load_cs 50 G 0 A.cells _ x ho hx hat.range hat.lt Tryz.underlying50 rfl (size32 hm) hk
theorem quiet_load_nmo {o : Oper} {a : Act} {W : World} {K : Act → Prop} (G off : Nat) (t : List Int) (x : Operand) (ho : o.op = .load 40 x) (hx : a.eval x = .pointer (some ⟨G, off, none⟩)) (hat : W.rangeAt G off (t.map (Value.int .u8))) (hG : G < W.heap.size) (hm : t.length = 8)
    (hk : K (a.put o.dst (.agg (nm t)))) : o.quiet Tryz.prog a (Cls W) K := quiet_load_cs 40 G off (t.map (Value.int .u8)) _ x ho hx hat hG Tryz.underlying40 rfl (by rw [List.length_map, hm]; exact size23) hk
theorem results_vl {fn : Func} {t : Tmp} (h : fn.results = #[.cell t 42]) (tmps : Array Value) (w : World) (g : Nat) (v : Vl) (hp : tmps.getD t undef = .pointer (some ⟨g, 0, none⟩)) (hb : Blk w g 42 v.cells) (hm : v.t.length = 8) :
    (results fn tmps).run Tryz.prog w = .ok (.agg v.cells.toArray) w := results_cell_row h _ _ g 42 v.cells.toArray (0, 0) _ hp hb Tryz.underlying42 rfl (by rw [List.size_toArray]; exact size30 hm)
end Go.Proofs.YtnpbmihbmilkbaaGreat
namespace Go.Proofs.YtnpbmihbmilkbaaGreat
open Go.RowKit
theorem or8 (a b : Int) (h0 : 0 ≤ a) (h1 : a < 4294967296) (h2 : 0 ≤ b) (h3 : b < 256) : bits .or .u64 (a * 256) b = a * 256 + b := or_up a b 8 h0 (by omega) h2 h3 (by omega)
theorem stamp_is (n r x : Int) (w : World) (h0 : 0 ≤ n) (h1 : n < 4294967296) (h2 : 0 ≤ r) (h3 : r < 256) (hx : Hid (stamp n r = x)) :
    Calls Tryz.prog 145 #[.int .u32 n, .int .u8 r] w fun e w' => e = .returned (.int .u64 x) ∧ w = w' := by
  have H := Lib.hid (show bits .or .u64 (n * 256) r = x from (or8 n r h0 h1 h2 h3).trans hx.out)
  go_enter Tryz.func145, Tryz.ntmps145
  go_wp2
  go_ret
  exact ⟨ret_int H.out, rfl⟩
theorem unstamp_is (x a b : Int) (w : World) (ha : Hid (x / 256 % 4294967296 = a)) (hb : Hid (x % 256 = b)) :
    Calls Tryz.prog 144 #[.int .u64 x] w fun e w' => e = .returned (.tuple #[.int .u32 a, .int .u8 b]) ∧ w = w' := by
  go_enter Tryz.func144, Tryz.ntmps144
  go_wp2
  go_ret2
  refine ⟨?_, rfl⟩
  rw [← ha.out, ← hb.out]
  rfl
theorem aisRep_is (x : Int) (w : World) : Calls Tryz.prog 146 #[.int .u8 x] w fun e w' => e = .returned (.bool (decide (x < 16))) ∧ w = w' := by
  go_enter Tryz.func146, Tryz.ntmps146
  go_wp2
  go_ret
  exact ⟨rfl, rfl⟩
theorem isStamp_is (x : Int) (b : Bool) (w : World) (h0 : 0 ≤ x) (hb : Hid (stampB x = b)) :
    Calls Tryz.prog 131 #[.int .u64 x] w fun e w' => e = .returned (.bool b) ∧ w = w' := by
  have hh := hb.out
  unfold stampB at hh
  have hS := stamp_back h0
  obtain ⟨n, hn⟩ : ∃ n, x / 256 % 4294967296 = n := ⟨_, rfl⟩
  obtain ⟨r, hr⟩ : ∃ r, x % 256 = r := ⟨_, rfl⟩
  rw [hn, hr] at hh hS
  have n0 : 0 ≤ n := by omega
  have n1 : n < 4294967296 := by omega
  have r0 : 0 ≤ r := by omega
  have r1 : r < 256 := by omega
  have HN := Lib.hid hn
  have HR := Lib.hid hr
  clear hn hr hb
  by_cases h : x < 1099511627776
  · have e : stamp n r = x := hS.2 h
    have E := Lib.hid e
    rw [decide_eq_true h, Bool.true_and] at hh
    clear hS e h
    by_cases hn : 0 < n
    · rw [decide_eq_true hn, Bool.true_and] at hh
      subst hh
      go_enter Tryz.func131, Tryz.ntmps131
      go_wp2_with fail
      refine (unstamp_is x n r _ HN HR).mono ?_
      rintro e w1 ⟨rfl, rfl⟩
      go_wp2_with fail
      refine (stamp_is n r x _ n0 n1 r0 r1 E).mono ?_
      rintro e w1 ⟨rfl, rfl⟩
      go_wp2_with fail
      refine (aisRep_is r _).mono ?_
      rintro e w1 ⟨rfl, rfl⟩
      go_wp2_with fail
      go_ret
      exact ⟨rfl, rfl⟩
    · rw [decide_eq_false hn, Bool.false_and] at hh
      subst hh
      go_enter Tryz.func131, Tryz.ntmps131
      go_wp2_with fail
      refine (unstamp_is x n r _ HN HR).mono ?_
      rintro e w1 ⟨rfl, rfl⟩
      go_wp2_with fail
      refine (stamp_is n r x _ n0 n1 r0 r1 E).mono ?_
      rintro e w1 ⟨rfl, rfl⟩
      go_wp2_with fail
      go_ret
      exact ⟨rfl, rfl⟩
  · obtain ⟨y, hy⟩ : ∃ y, stamp n r = y := ⟨_, rfl⟩
    have hne : (y == x) = false := by
      rw [← hy]; exact beq_eq_false_iff_ne.2 fun q => h (hS.1 q)
    have E := Lib.hid hy
    rw [decide_eq_false h, Bool.false_and] at hh
    subst hh
    clear hS hy h
    go_enter Tryz.func131, Tryz.ntmps131
    go_wp2_with fail
    refine (unstamp_is x n r _ HN HR).mono ?_
    rintro e w1 ⟨rfl, rfl⟩
    go_wp2_with fail
    refine (stamp_is n r y _ n0 n1 r0 r1 E).mono ?_
    rintro e w1 ⟨rfl, rfl⟩
    go_wp2_with fail
    go_ret
    exact ⟨rfl, rfl⟩
theorem between1_is (lo hi : Int) (g h : Nat) (v : Vl) (b : Bool) (w : World) (hv : v.Ok) (hg : Blk w g 22 [.int .u64 lo]) (hh : Blk w h 22 [.int .u64 hi]) (hb : Hid (betweenB lo hi v = b)) :
    Calls Tryz.prog 143 #[.agg v.cells.toArray, .pointer (some ⟨g, 0, none⟩), .pointer (some ⟨h, 0, none⟩)] w fun e w' => e = .returned (.bool b) ∧ Below w.heap.size w w' := by
  have c1 := (hg.alloc (.cells v.cells.toArray 42)).cell (i := 0) rfl
  have c2 := (hh.alloc (.cells v.cells.toArray 42)).cell (i := 0) rfl
  have q := blk_alloc w 42 v.cells
  have c0 := q.cell (vc0 v)
  have R1 := Lib.hid q.vnm
  have B0 := Lib.hid (new_below w (.cells v.cells.toArray 42))
  have HV := Lib.hid hv
  have hh' := hb.out
  unfold betweenB at hh'
  clear q hv hg hh hb
  by_cases k1 : lo ≤ v.n
  · rw [decide_eq_true k1, Bool.true_and] at hh'
    by_cases k2 : v.n ≤ hi
    · rw [decide_eq_true k2, Bool.true_and] at hh'
      subst hh'
      go_enter Tryz.func143, Tryz.ntmps143
      go_wp2_with (refine wanted_on rfl ?_; refine wpList_load_nm rfl _ rfl w.heap.size 1 v.t rfl R1.out HV.out.tl ?_)
      refine (some_is v.t _ _ HV.out.tl (Lib.hid rfl)).mono ?_
      rintro e w1 ⟨rfl, b1⟩
      have B1 := Lib.hid (step_ B0.out b1)
      clear b1
      go_wp2_with fail
      go_ret
      exact ⟨rfl, B1.out⟩
    · rw [decide_eq_false k2, Bool.false_and] at hh'
      subst hh'
      go_enter Tryz.func143, Tryz.ntmps143
      go_wp2_with fail
      go_ret
      exact ⟨rfl, B0.out⟩
  · rw [decide_eq_false k1, Bool.false_and, Bool.false_and] at hh'
    subst hh'
    go_enter Tryz.func143, Tryz.ntmps143
    go_wp2_with fail
    go_ret
    exact ⟨rfl, B0.out⟩
theorem line_is (v : Vl) (b : Bool) (w : World) (hv : v.Ok) (hb : Hid (lineB v = b)) :
    Calls Tryz.prog 130 #[.agg v.cells.toArray] w fun e w' => e = .returned (.bool b) ∧ Below w.heap.size w w' := by
  have q := blk_alloc w 42 v.cells
  have c0 := q.cell (vc0 v)
  have Q0 := Lib.hid q
  have R1 := Lib.hid q.vnm
  have B0 := Lib.hid (new_below w (.cells v.cells.toArray 42))
  have HV := Lib.hid hv
  have hh := hb.out
  unfold lineB at hh
  clear q hv hb
  cases k1 : stampB v.n with
  | false =>
    have K1 := Lib.hid k1
    rw [k1, Bool.false_and] at hh
    subst hh
    clear k1
    go_enter Tryz.func130, Tryz.ntmps130
    go_wp2_with fail
    refine (isStamp_is v.n false _ HV.out.n0 K1).mono ?_
    rintro e w1 ⟨rfl, rfl⟩
    go_wp2_with fail
    go_ret
    exact ⟨rfl, B0.out⟩
  | true =>
    have K1 := Lib.hid k1
    rw [k1, Bool.true_and] at hh
    clear k1
    cases k2 : M.rightB v.t with
    | true =>
      have K2 := Lib.hid k2
      rw [k2, Bool.true_or] at hh
      subst hh
      clear k2
      go_enter Tryz.func130, Tryz.ntmps130
      go_wp2_with fail
      refine (isStamp_is v.n true _ HV.out.n0 K1).mono ?_
      rintro e w1 ⟨rfl, rfl⟩
      go_wp2_with (refine wanted_on rfl ?_; refine wpList_load_nm rfl _ rfl w.heap.size 1 v.t rfl R1.out HV.out.tl ?_)
      refine (right_is v.t true _ HV.out.tl (Lib.hid HV.out.tb) K2).mono ?_
      rintro e w1 ⟨rfl, b1⟩
      have B1 := Lib.hid (step_ B0.out b1)
      clear b1
      go_wp2_with fail
      go_ret
      exact ⟨rfl, B1.out⟩
    | false =>
      have K2 := Lib.hid k2
      rw [k2, Bool.false_or] at hh
      subst hh
      clear k2
      go_enter Tryz.func130, Tryz.ntmps130
      go_wp2_with fail
      refine (isStamp_is v.n true _ HV.out.n0 K1).mono ?_
      rintro e w1 ⟨rfl, rfl⟩
      go_wp2_with (refine wanted_on rfl ?_; refine wpList_load_nm rfl _ rfl w.heap.size 1 v.t rfl R1.out HV.out.tl ?_)
      refine (right_is v.t false _ HV.out.tl (Lib.hid HV.out.tb) K2).mono ?_
      rintro e w1 ⟨rfl, b1⟩
      have B1 := Lib.hid (step_ B0.out b1)
      have R2 := Lib.hid (Q0.out.below b1).vnm
      clear b1
      go_wp2_with (refine wanted_on rfl ?_; refine wpList_load_nm rfl _ rfl w.heap.size 1 v.t rfl R2.out HV.out.tl ?_)
      refine (some_is v.t _ _ HV.out.tl (Lib.hid rfl)).mono ?_
      rintro e w2 ⟨rfl, b2⟩
      have B2 := Lib.hid (step_ B1.out b2)
      clear b2
      go_wp2_with fail
      go_ret
      exact ⟨rfl, B2.out⟩
abbrev betweenF (g h : Nat) : Value := .func (.func 143) #[] #[.pointer (some ⟨g, 0, none⟩), .pointer (some ⟨h, 0, none⟩)]
theorem between_is (lo hi : Int) (w : World) : Calls Tryz.prog 129 #[.int .u64 lo, .int .u64 hi] w fun e w' => ∃ g h, e = .returned (betweenF g h) ∧ Blk w' g 22 [.int .u64 lo] ∧ Blk w' h 22 [.int .u64 hi] ∧ Below w.heap.size w w' := by
  have A := Lib.hid ((blk_alloc w 22 [.int .u64 lo]).alloc (.cells #[.int .u64 hi] 22))
  have B := Lib.hid (blk2 w (.cells #[.int .u64 lo] 22) 22 [.int .u64 hi])
  have C := Lib.hid (step_ (new_below w (.cells #[.int .u64 lo] 22)) (new_below _ (.cells #[.int .u64 hi] 22)))
  go_enter Tryz.func129, Tryz.ntmps129
  go_wp2_with fail
  go_ret
  exact ⟨_, _, rfl, A.out, B.out, C.out⟩
/-- The table of conditions. -/
structure Table (w : World) (g a b c d : Nat) : Prop where
  t : Blk w g 143 [.nilFunc, betweenF a b, betweenF c d, betweenF c d, .func (.func 130) #[] #[]]
  a : Blk w a 22 [.int .u64 1]
  b : Blk w b 22 [.int .u64 2]
  c : Blk w c 22 [.int .u64 1]
  d : Blk w d 22 [.int .u64 4294967295]
theorem Table.below {w w' : World} {g a b c d : Nat} (h : Table w g a b c d) (hb : Below w.heap.size w w') : Table w' g a b c d := ⟨h.t.below hb, h.a.below hb, h.b.below hb, h.c.below hb, h.d.below hb⟩
theorem values_is (w : World) : Calls Tryz.prog 114 #[] w fun e w' => ∃ g a b c d, e = .returned (.slice (some ⟨g, 0, none⟩) 5 5) ∧ Table w' g a b c d ∧ Below w.heap.size w w' := by
  go_enter Tryz.func114, Tryz.ntmps114
  go_wp2_with fail
  refine (between_is 1 2 _).mono ?_
  rintro e w1 ⟨a, b, rfl, ha, hb, h1⟩
  have A := Lib.hid ha
  have B := Lib.hid hb
  have B1 := Lib.hid h1
  clear ha hb h1
  go_wp2_with fail
  refine (between_is 1 4294967295 _).mono ?_
  rintro e w2 ⟨c, d, rfl, hc, hd, h2⟩
  have A2 := Lib.hid (A.out.below h2)
  have B2 := Lib.hid (B.out.below h2)
  have C2 := Lib.hid hc
  have D2 := Lib.hid hd
  have B3 := Lib.hid (step_ B1.out h2)
  clear hc hd h2
  go_wp2_with fail
  go_ret
  exact ⟨_, a, b, c, d, rfl, ⟨blk_alloc w2 143 _, A2.out.alloc _, B2.out.alloc _, C2.out.alloc _, D2.out.alloc _⟩, step_ B3.out (new_below _ _)⟩
end Go.Proofs.YtnpbmihbmilkbaaGreat
