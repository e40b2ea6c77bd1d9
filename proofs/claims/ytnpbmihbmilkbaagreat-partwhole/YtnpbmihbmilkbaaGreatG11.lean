/- Rows of atoms in memory: slices that hold atoms, rows that a call owns, and the laws of indexing, building and appending. The contracts of find and of Rows of the reference. Steps of regions that draw their order: a slice of one atom is made; an atom is appended; a box is made. -/
import Derived.Test.YtnpbmihbmilkbaaGreatG02
import Derived.Test.YtnpbmihbmilkbaaGreatG10
import Derived.OwnWalk
namespace Go.Proofs.YtnpbmihbmilkbaaGreat
open Go.RowKit
/-- The cells of a row. -/
def acs (l : List Am) : List Value := l.flatMap Am.cells
theorem acs_cons (a : Am) (l : List Am) : acs (a :: l) = a.cells ++ acs l := rfl
theorem acs_app (l m : List Am) : acs (l ++ m) = acs l ++ acs m := by unfold acs; rw [List.flatMap_append]
theorem acs_one (a : Am) : acs [a] = a.cells := by unfold acs; simp
theorem acs_len : ∀ {l : List Am}, OkR l → (acs l).length = l.length * 21
  | [], _ => rfl
  | a :: l, h => by rw [acs_cons, List.length_append, acells_len h.head, acs_len h.tail, List.length_cons]; omega
theorem acs_get : ∀ {l : List Am}, OkR l → ∀ (i : Nat) (hi : i < l.length) (j : Nat) (v : Value), l[i].cells[j]? = some v → (acs l)[i * 21 + j]? = some v
  | a :: l, h, i, hi, j, v, hv => by
    rw [acs_cons]
    have hl := acells_len h.head
    cases i with
    | zero =>
      have hj : j < a.cells.length := by
        have := (List.getElem?_eq_some_iff.1 hv).1
        exact this
      rw [Nat.zero_mul, Nat.zero_add, List.getElem?_append_left hj]
      exact hv
    | succ i =>
      rw [List.getElem?_append_right (by rw [hl]; omega), hl, show (i + 1) * 21 + j - 21 = i * 21 + j by omega]
      exact acs_get h.tail i (by simpa using hi) j v hv
theorem acs_ones : ∀ (l : List Am), ∀ u ∈ acs l, u.oneCell' = true := fun l u hu => by
  obtain ⟨a, _, h⟩ := List.mem_flatMap.1 hu
  exact all_list (one32 a) u h
/-- The slice of n elements at A holds the row l. -/
structure RowV (w : World) (A : Option Addr) (n cap : Nat) (l : List Am) : Prop where
  ok : OkR l
  len : l.length = n
  le : n ≤ cap
  most : cap ≤ maxLen
  at_ : 0 < n → ∃ G off, A = some ⟨G, off, none⟩ ∧ G < w.heap.size ∧ ∀ i (h : i < l.length), w.rangeAt G (off + i * 21) l[i].cells
def RowAt (w : World) (v : Value) (l : List Am) : Prop := ∃ A n cap, v = .slice A n cap ∧ RowV w A n cap l
theorem RowV.below {w w' : World} {A : Option Addr} {n cap : Nat} {l : List Am} (h : RowV w A n cap l) (hb : Below w.heap.size w w') : RowV w' A n cap l :=
  ⟨h.ok, h.len, h.le, h.most, fun h0 => by
    obtain ⟨G, off, ha, hG, hr⟩ := h.at_ h0
    exact ⟨G, off, ha, Nat.lt_of_lt_of_le hG hb.size, fun i hi j v hv => (hb.cell (p := ⟨G, off + i * 21 + j, none⟩) hG).trans (hr i hi j v hv)⟩⟩
theorem RowAt.below {w w' : World} {v : Value} {l : List Am} (h : RowAt w v l) (hb : Below w.heap.size w w') : RowAt w' v l := by
  obtain ⟨A, n, cap, rfl, h⟩ := h
  exact ⟨A, n, cap, rfl, h.below hb⟩
theorem RowAt.ok {w : World} {v : Value} {l : List Am} (h : RowAt w v l) : OkR l := by
  obtain ⟨_, _, _, _, h⟩ := h; exact h.ok
theorem RowV.drew {w : World} {A : Option Addr} {n cap : Nat} {l : List Am} (h : RowV w A n cap l) : RowV w.drew A n cap l := h.below (below_drew (Below.refl _ _))
/-- Where the element i of the row lies. -/
structure ElemAt (w : World) (A : Option Addr) (n G o i : Nat) (a : Am) : Prop where
  ok : a.Ok
  ad : ∃ off, A = some ⟨G, off, none⟩ ∧ o = off + i * 21
  lt : i < n
  blk : G < w.heap.size
  rg : w.rangeAt G o a.cells
theorem RowV.elem {w : World} {A : Option Addr} {n cap : Nat} {l : List Am} (h : RowV w A n cap l) (i : Nat) (hi : i < n) : ∃ G o, ElemAt w A n G o i (l.getD i azero) := by
  obtain ⟨G, off, ha, hG, hr⟩ := h.at_ (by omega)
  have hi' : i < l.length := by rw [h.len]; exact hi
  have e : l.getD i azero = l[i] := by simp [List.getD, List.getElem?_eq_getElem hi']
  rw [e]
  exact ⟨G, off + i * 21, h.ok _ (List.getElem_mem _), ⟨off, ha, rfl⟩, hi, hG, hr i hi'⟩
theorem ElemAt.below {w w' : World} {A : Option Addr} {n G o i : Nat} {a : Am} (h : ElemAt w A n G o i a) (hb : Below w.heap.size w w') : ElemAt w' A n G o i a :=
  ⟨h.ok, h.ad, h.lt, Nat.lt_of_lt_of_le h.blk hb.size, fun j v hv => (hb.cell (p := ⟨G, o + j, none⟩) h.blk).trans (h.rg j v hv)⟩
theorem range_ak {w : World} {g o : Nat} {a : Am} (h : w.rangeAt g o a.cells) : w.rangeAt g o a.k.cells := fun j x hx => by
  refine h j x ?_
  rw [Am.cells, List.getElem?_append_left (List.getElem?_eq_some_iff.1 hx).1]; exact hx
theorem range_av {w : World} {g o : Nat} {a : Am} (h : w.rangeAt g o a.cells) (ha : a.Ok) : w.rangeAt g (o + 12) a.v.cells := fun j x hx => by
  rw [Nat.add_assoc]
  refine h (12 + j) x ?_
  rw [Am.cells, List.getElem?_append_right (by rw [kcells_len ha.k.ml]; omega), kcells_len ha.k.ml, show 12 + j - 12 = j by omega]; exact hx
theorem info46z : (Tryz.prog.info? 50).map (fun i => (i.zero, i.size, i.bytes)) = some (some (.agg azero.cells.toArray), 21, 40) := by kernel_rfl
theorem sizeQf46 (w : World) : (sizeOf 50).run Tryz.prog w = .ok 21 w := by
  obtain ⟨i, hi, _, h1, _⟩ := info_parts info46z
  simp [sizeOf, typeInfo, hi, h1]
/-- s[i] has an address. -/
theorem exec_index {o : Oper} {a : Act} {w : World} (x y : Operand) (ho : o.op = .indexAddr 23 x y) (A : Option Addr) (n cap G p i : Nat) (e : Am) (z : Int) (hx : a.eval x = .slice A n cap) (hy : a.eval y = .int .i64 z) (hz : z = (i : Int)) {W : World} (h : ElemAt W A n G p i e) :
    (execOp a.eval o).run Tryz.prog w = .ok (.value (.pointer (some ⟨G, p, none⟩))) w := by
  obtain ⟨off, hA, rfl⟩ := h.ad
  have hi := h.lt
  have hr : (Instr.indexAt 23 (.slice (some ⟨G, off, none⟩) n cap) (.int .i64 (i : Int))).run Tryz.prog w = .ok (.pointer (some ⟨G, off + i * 21, none⟩)) w := by
    simp only [Instr.indexAt, asIntOf, Sem.run_bind, Sem.run_pure, Result.andThen_ok, run_underlying Tryz.underlying23]
    rw [if_pos ⟨by omega, by omega⟩]
    simp [Addr.add]
  unfold execOp
  simp only [ho, hx, hy, hz, hA, Sem.run_bind, hr, Result.andThen_ok, Sem.run_pure]
theorem exec_neq_am {o : Oper} {a : Act} {w : World} (x y : Operand) (t : TypeId) (ho : o.op = .binOp .neq 50 x y t) (A B : Am) (hx : a.eval x = .agg A.cells.toArray) (hy : a.eval y = .agg B.cells.toArray) (hA : A.Ok) (hB : B.Ok) :
    (execOp a.eval o).run Tryz.prog w = .ok (.value (.bool (!decide (A = B)))) w := by
  unfold execOp
  simp only [ho, hx, hy, Sem.run_bind, run_eqGuard_agg w .neq 50 x y _ _ eqg32, Result.andThen_ok, run_neq_struct, eql32 A B hA hB 9996 w, Sem.run_pure]
theorem wpList_load_amx {ops : Array Oper} {rest : List Oper} {op : Oper} {a : Act} {w : World} {Q : Exit → Act → World → Prop} (hgd : op.guard = none) (x : Operand) (ho : op.op = .load 50 x) (g o : Nat) (A : Am)
    (hx : a.eval x = .pointer (some ⟨g, o, none⟩)) (hb : w.rangeAt g o A.cells) (hm : A.Ok) (h : wpList Tryz.prog ops Q rest (a.put op.dst (.agg A.cells.toArray)) w) : wpList Tryz.prog ops Q (op :: rest) a w :=
  wpList_load_mid hgd 50 x ho g o hx A.cells _ hb Tryz.underlying50 rfl (size32 hm) h
theorem quiet_load_amx {o : Oper} {a : Act} {W : World} {K : Act → Prop} (G off : Nat) (A : Am) (x : Operand) (ho : o.op = .load 50 x) (hx : a.eval x = .pointer (some ⟨G, off, none⟩)) (hat : W.rangeAt G off A.cells) (hG : G < W.heap.size) (hm : A.Ok)
    (hk : K (a.put o.dst (.agg A.cells.toArray))) : o.quiet Tryz.prog a (Cls W) K := quiet_load_cs 50 G off A.cells _ x ho hx hat hG Tryz.underlying50 rfl (size32 hm) hk
theorem quiet_load_kyx {o : Oper} {a : Act} {W : World} {K : Act → Prop} (G off : Nat) (k : Ky) (x : Operand) (ho : o.op = .load 48 x) (hx : a.eval x = .pointer (some ⟨G, off, none⟩)) (hat : W.rangeAt G off k.cells) (hG : G < W.heap.size) (hm : k.m.length = 8)
    (hk : K (a.put o.dst (.agg k.cells.toArray))) : o.quiet Tryz.prog a (Cls W) K := quiet_load_cs 48 G off k.cells _ x ho hx hat hG Tryz.underlying48 rfl (size27 hm) hk
/-- An atom of a key and a value. -/
theorem built46v (c0 c1 c2 c3 c4 c5 c6 c7 c8 c9 c10 c11 d0 d1 d2 d3 d4 d5 d6 d7 d8 : Value) : Tryz.prog.built 50 [(0, .agg #[c0, c1, c2, c3, c4, c5, c6, c7, c8, c9, c10, c11]), (1, .agg #[d0, d1, d2, d3, d4, d5, d6, d7, d8])] = some #[c0, c1, c2, c3, c4, c5, c6, c7, c8, c9, c10, c11, d0, d1, d2, d3, d4, d5, d6, d7, d8] := by kernel_rfl
theorem built46' (cs ds : List Value) (h1 : cs.length = 12) (h2 : ds.length = 9) : Tryz.prog.built 50 [(0, .agg cs.toArray), (1, .agg ds.toArray)] = some (cs ++ ds).toArray := by
  match cs, h1 with
  | [c0, c1, c2, c3, c4, c5, c6, c7, c8, c9, c10, c11], _ =>
    match ds, h2 with
    | [d0, d1, d2, d3, d4, d5, d6, d7, d8], _ => exact built46v c0 c1 c2 c3 c4 c5 c6 c7 c8 c9 c10 c11 d0 d1 d2 d3 d4 d5 d6 d7 d8
theorem built46 (k : Ky) (v : Vl) (hk : k.m.length = 8) (hv : v.t.length = 8) : Tryz.prog.built 50 [(0, .agg k.cells.toArray), (1, .agg v.cells.toArray)] = some (⟨k, v⟩ : Am).cells.toArray := built46' _ _ (kcells_len hk) (vcells_len hv)
/-- A slice of one atom. -/
theorem fill46v (c0 c1 c2 c3 c4 c5 c6 c7 c8 c9 c10 c11 c12 c13 c14 c15 c16 c17 c18 c19 c20 : Value) : Instr.fill (fun i => some (i * 21, 21)) ((Array.range (1 * 21)).map (azero.cells.toArray[· % azero.cells.toArray.size]!)) [(0, .agg #[c0, c1, c2, c3, c4, c5, c6, c7, c8, c9, c10, c11, c12, c13, c14, c15, c16, c17, c18, c19, c20])] = some #[c0, c1, c2, c3, c4, c5, c6, c7, c8, c9, c10, c11, c12, c13, c14, c15, c16, c17, c18, c19, c20] := by kernel_rfl
theorem fill46 (cs : List Value) (h : cs.length = 21) : Instr.fill (fun i => some (i * 21, 21)) ((Array.range (1 * 21)).map (azero.cells.toArray[· % azero.cells.toArray.size]!)) [(0, .agg cs.toArray)] = some cs.toArray := by
  match cs, h with
  | [c0, c1, c2, c3, c4, c5, c6, c7, c8, c9, c10, c11, c12, c13, c14, c15, c16, c17, c18, c19, c20], _ => exact fill46v c0 c1 c2 c3 c4 c5 c6 c7 c8 c9 c10 c11 c12 c13 c14 c15 c16 c17 c18 c19 c20
theorem run_one46 (A : Am) (h : A.Ok) (w : World) : (Instr.buildSlice 23 1 #[(0, .agg A.cells.toArray)]).run Tryz.prog w = .ok (.slice (some ⟨w.heap.size, 0, none⟩) 1 1) (w.alloc (.cells A.cells.toArray 50)) := by
  have hf := fill46 A.cells (acells_len h)
  simp only [Instr.buildSlice, Sem.run_bind, run_underlying Tryz.underlying23, Result.andThen_ok, sizeQf46]
  rw [if_neg (by decide), if_neg (by decide)]
  simp only [Sem.run_bind, Sem.run_pure, Result.andThen_ok, zero32, Value.cells]
  rw [hf]
  rfl
theorem exec_one46 {o : Oper} {a : Act} {w : World} (x : Operand) (ho : o.op = .buildSlice 23 1 #[(0, x)]) (A : Am) (hx : a.eval x = .agg A.cells.toArray) (hA : A.Ok) :
    (execOp a.eval o).run Tryz.prog w = .ok (.value (.slice (some ⟨w.heap.size, 0, none⟩) 1 1)) (w.alloc (.cells A.cells.toArray 50)) := by
  have hr := run_one46 A hA w
  unfold execOp
  simp only [ho, List.map_toArray, List.map_cons, List.map_nil, hx, Sem.run_bind, hr, Result.andThen_ok, Sem.run_pure]
/-- A row that the call owns. -/
structure OwnR (w : World) (B : Nat) (v : Value) (l : List Am) : Prop where
  ok : OkR l
  row : w.ownsRow B 50 21 v l.length (acs l)
theorem ownR_nil (w : World) (B : Nat) : OwnR w B (.slice none 0 0) [] := ⟨okR_nil, World.ownsRow_nil w B 50 21⟩
theorem OwnR.rowAt {w : World} {B : Nat} {v : Value} {l : List Am} (h : OwnR w B v l) : RowAt w v l := by
  rcases h.row.2 with ⟨rfl, h0⟩ | ⟨g, cap, cur, rfl, hb, hg, hn, hc, hs, ht⟩
  · have : l = [] := List.eq_nil_of_length_eq_zero h0
    subst this
    exact ⟨none, 0, 0, rfl, okR_nil, rfl, Nat.le_refl _, Nat.zero_le _, fun h => absurd h (Nat.lt_irrefl _)⟩
  · refine ⟨some ⟨g, 0, none⟩, l.length, cap, rfl, h.ok, rfl, hn, hc, fun _ => ⟨g, 0, rfl, (Array.getElem?_eq_some_iff.1 hg).1, fun i hi j v hv => ?_⟩⟩
    have h1 := acs_get h.ok i hi j v hv
    rw [cell_of_row _ g _ cur 50 (0, 0) hg, Nat.zero_add]
    rw [← ht] at h1
    have hlt : i * 21 + j < l.length * 21 := by
      have := (List.getElem?_eq_some_iff.1 h1).1
      rw [List.length_take] at this
      omega
    rw [List.getElem?_take_of_lt hlt] at h1
    simpa using h1
theorem OwnR.below {w w' : World} {B : Nat} {v : Value} {l : List Am} (h : OwnR w B v l) (hb : Below w.heap.size w w') : OwnR w' B v l :=
  ⟨h.ok, h.row.kept (row := none) ⟨hb.os, hb.tape, hb.output, hb.size, fun k hk _ => hb.block k hk⟩ (by cases v.ownBlock <;> simp)⟩
theorem OwnR.drew {w : World} {B : Nat} {v : Value} {l : List Am} (h : OwnR w B v l) : OwnR w.drew B v l := h.below (below_drew (Below.refl _ _))
theorem OwnR.alloc {w : World} {B : Nat} {v : Value} {l : List Am} (h : OwnR w B v l) (o : Obj) : OwnR (w.alloc o) B v l := h.below (new_below w o)
theorem OwnR.down {w : World} {B C : Nat} {v : Value} {l : List Am} (h : OwnR w B v l) (hC : C ≤ B) : OwnR w C v l := by
  refine ⟨h.ok, h.row.1, ?_⟩
  rcases h.row.2 with h0 | ⟨g, cap, cur, e, hb, r⟩
  · exact .inl h0
  · exact .inr ⟨g, cap, cur, e, Nat.le_trans hC hb, r⟩
theorem OwnR.shape {w : World} {B : Nat} {v : Value} {l : List Am} (h : OwnR w B v l) : ∃ A cap, v = .slice A l.length cap := by
  rcases h.row.2 with ⟨rfl, h0⟩ | ⟨g, cap, cur, rfl, _⟩
  · exact ⟨none, 0, by rw [h0]⟩
  · exact ⟨_, _, rfl⟩
/-- An atom is appended. -/
theorem run_app (w : World) (B : Nat) (v : Value) (l : List Am) (A : Am) (g : Nat) (ty : TypeId) (hown : OwnR w B v l) (hA : A.Ok) (hg : Blk w g 50 A.cells) (hn : l.length ≤ 5000) (hB : B ≤ w.heap.size) :
    ∃ D cap w', (Builtin.append_ #[23, 23] ty #[v, .slice (some ⟨g, 0, none⟩) 1 1]).run Tryz.prog w = .ok (.slice D (l.length + 1) cap) w' ∧ OwnR w' B (.slice D (l.length + 1) cap) (l ++ [A]) ∧ w.grownBy w' v.ownBlock := by
  obtain ⟨i0, hi, hz0, hz1, hz2⟩ := info_parts info46z
  obtain ⟨v', w', hr, h1, h2, _⟩ := run_append_own (P := Tryz.prog) w B 23 ty 50 i0 (.agg azero.cells.toArray) 21 40 Tryz.underlying23 hi hz0 hz1 hz2 (by rfl) (by decide) v _ _ hown.row ⟨g, 0, none⟩ 1 1 A.cells (by rw [acells_len hA])
    (fun j u hj => by
      have h := hg.range j u hj
      rw [Nat.zero_add] at h
      unfold Addr.add
      split
      · rename_i h0; rw [h0] at h; exact h
      · simpa using h) (all_list (one32 A)) (by unfold maxLen; omega) (by omega) hB
  have own : OwnR w' B v' (l ++ [A]) := ⟨hown.ok.app (okR_nil.cons hA), by rw [acs_app, acs_one, List.length_append, List.length_singleton]; exact h1⟩
  obtain ⟨D, cap, e⟩ := own.shape
  rw [List.length_append, List.length_singleton] at e
  subst e
  exact ⟨D, cap, w', hr, own, h2⟩
theorem wpList_index {ops : Array Oper} {rest : List Oper} {op : Oper} {a : Act} {w : World} {Q : Exit → Act → World → Prop} (hgd : op.guard = none) (x y : Operand) (ho : op.op = .indexAddr 23 x y) (A : Option Addr) (n cap G p i : Nat) (e : Am) (z : Int) (hx : a.eval x = .slice A n cap) (hy : a.eval y = .int .i64 z) (hz : z = (i : Int)) {W : World} (h : ElemAt W A n G p i e)
    (hk : wpList Tryz.prog ops Q rest (a.put op.dst (.pointer (some ⟨G, p, none⟩))) w) : wpList Tryz.prog ops Q (op :: rest) a w :=
  wpList_val hgd _ (exec_index x y ho A n cap G p i e z hx hy hz h) hk
theorem quiet_index {o : Oper} {a : Act} {W : World} {K : Act → Prop} (x y : Operand) (ho : o.op = .indexAddr 23 x y) (A : Option Addr) (n cap G p i : Nat) (e : Am) (z : Int) (hx : a.eval x = .slice A n cap) (hy : a.eval y = .int .i64 z) (hz : z = (i : Int)) {V : World} (h : ElemAt V A n G p i e)
    (hk : K (a.put o.dst (.pointer (some ⟨G, p, none⟩)))) : o.quiet Tryz.prog a (Cls W) K := quiet_val _ (fun _ => exec_index x y ho A n cap G p i e z hx hy hz h) hk
theorem wpList_one46 {ops : Array Oper} {rest : List Oper} {op : Oper} {a : Act} {w : World} {Q : Exit → Act → World → Prop} (hgd : op.guard = none) (x : Operand) (ho : op.op = .buildSlice 23 1 #[(0, x)]) (A : Am) (hx : a.eval x = .agg A.cells.toArray) (hA : A.Ok)
    (h : ∀ g w', Hid (g = w.heap.size) → Hid (Blk w' g 50 A.cells) → Hid (Below w.heap.size w w') → wpList Tryz.prog ops Q rest (a.put op.dst (.slice (some ⟨g, 0, none⟩) 1 1)) w') : wpList Tryz.prog ops Q (op :: rest) a w := by
  refine wpList_plain hgd fun K hK => ?_
  have hr := exec_one46 (w := w) x ho A hx hA
  unfold Oper.wp
  rw [hr]
  exact hK _ _ (h _ _ (Lib.hid rfl) (Lib.hid (blk_alloc w 50 A.cells)) (Lib.hid (new_below w _)))
theorem wpList_app {ops : Array Oper} {rest : List Oper} {op : Oper} {a : Act} {w : World} {Q : Exit → Act → World → Prop} (hgd : op.guard = none) (s x : Operand) (ho : op.op = .call { callee := .builtin .append, args := #[s, x], argTypes := #[23, 23] })
    (B : Nat) (v : Value) (l : List Am) (A : Am) (g : Nat) (hs : a.eval s = v) (hx : a.eval x = .slice (some ⟨g, 0, none⟩) 1 1) (hown : OwnR w B v l) (hA : A.Ok) (hg : Blk w g 50 A.cells) (hn : l.length ≤ 5000) (hB : B ≤ w.heap.size)
    (h : ∀ D m cap w', Hid (m = l.length + 1) → Hid (OwnR w' B (.slice D m cap) (l ++ [A])) → Hid (Below B w w') → Hid (w.grownBy w' v.ownBlock) → wpList Tryz.prog ops Q rest (a.put op.dst (.slice D m cap)) w') : wpList Tryz.prog ops Q (op :: rest) a w := by
  refine wpList_plain hgd fun K hK => ?_
  obtain ⟨D, cap, w', hr, h1, h2⟩ := run_app w B v l A g op.type hown hA hg hn hB
  unfold Oper.wp execOp
  simp only [ho, resolve, invoke, builtin, Sem.run_bind, Sem.run_pure, Result.andThen_ok, List.map_toArray, List.map_cons, List.map_nil, hs, hx, hr]
  exact hK _ _ (h D _ cap w' (Lib.hid rfl) (Lib.hid h1) (Lib.hid ((Below.refl B w).grown h2 hB (fun k hk => (hown.row.lt k hk).1))) (Lib.hid h2))
/-- A box is made and filled. -/
theorem box_below {w w' : World} {o : Obj} (h : Only w.heap.size (w.alloc o) w') : Below w.heap.size w w' := (new_below w o).trans (h.below (Nat.le_refl _) (by simp))
theorem OwnR.only {w w' : World} {B g : Nat} {v : Value} {l : List Am} (h : OwnR w B v l) (ho : Only g w w') (hg : w.heap.size ≤ g ∨ ∀ k, v.ownBlock = some k → k ≠ g) : OwnR w' B v l :=
  ⟨h.ok, h.row.kept (row := some g) ⟨ho.os, ho.tape, ho.output, ho.size, fun k hk hn => ho.block k hk (fun e => hn (by rw [e]))⟩ (by
    rcases hg with hg | hg
    · cases e : v.ownBlock with
      | none => exact .inl rfl
      | some k => right; intro e2; have := (h.row.lt k e).2; have := Option.some.inj e2; omega
    · cases e : v.ownBlock with
      | none => exact .inl rfl
      | some k => right; intro e2; exact hg k e (Option.some.inj e2))⟩
/-- The call answers a slice that holds the row. -/
def GivesR (w : World) (l : List Am) (e : Ending) (w' : World) : Prop := (∃ A n cap, e = .returned (.slice A n cap) ∧ RowV w' A n cap l) ∧ Below w.heap.size w w'
/-- The same, and the slice lies in a block made by the call. -/
def GivesO (w : World) (l : List Am) (e : Ending) (w' : World) : Prop := (∃ A n cap, e = .returned (.slice A n cap) ∧ RowV w' A n cap l ∧ ∀ G off, A = some ⟨G, off, none⟩ → w.heap.size ≤ G) ∧ Below w.heap.size w w'
theorem GivesO.r {w w' : World} {l : List Am} {e : Ending} (h : GivesO w l e w') : GivesR w l e w' := by
  obtain ⟨⟨A, n, cap, h1, h2, _⟩, h3⟩ := h
  exact ⟨⟨A, n, cap, h1, h2⟩, h3⟩
theorem GivesO.own {w w' : World} {v : Value} {l : List Am} (h : OwnR w' w.heap.size v l) (hb : Below w.heap.size w w') : GivesO w l (.returned v) w' := by
  obtain ⟨A, n, cap, rfl, hr⟩ := h.rowAt
  exact ⟨⟨A, n, cap, rfl, hr, fun G off e => by subst e; exact (h.row.lt G rfl).1⟩, hb⟩
theorem GivesR.own {w w' : World} {B : Nat} {v : Value} {l : List Am} (h : OwnR w' B v l) (hb : Below w.heap.size w w') : GivesR w l (.returned v) w' := by
  obtain ⟨A, n, cap, rfl, hr⟩ := h.rowAt
  exact ⟨⟨A, n, cap, rfl, hr⟩, hb⟩
theorem quiet_eq_ky {o : Oper} {a : Act} {W : World} {K : Act → Prop} (x y : Operand) (t : TypeId) (ho : o.op = .binOp .eql 48 x y t) (A B : Ky) (b : Bool) (hx : a.eval x = .agg A.cells.toArray) (hy : a.eval y = .agg B.cells.toArray) (hA : A.Ok) (hB : B.Ok) (hb : decide (A = B) = b)
    (hk : K (a.put o.dst (.bool b))) : o.quiet Tryz.prog a (Cls W) K := quiet_val _ (fun _ => by rw [exec_eq_ky x y t ho A B hx hy hA.ml hB.ml, hb]) hk
theorem take_getD {l : List Am} {j : Nat} (h : j < l.length) : l.take (j + 1) = l.take j ++ [l.getD j azero] := by
  rw [List.take_add_one]
  simp [List.getD, List.getElem?_eq_getElem h]
theorem Blk.upto {w w' : World} {B g t : Nat} {cs : List Value} (h : Blk w g t cs) (hb : Below B w w') (hg : g < B) : Blk w' g t cs := (hb.block g hg).trans h
end Go.Proofs.YtnpbmihbmilkbaaGreat
namespace Go.Proofs.YtnpbmihbmilkbaaGreat
open Go.RowKit
theorem drop_getD {l : List Am} {j : Nat} (h : j < l.length) : l.drop j = l.getD j azero :: l.drop (j + 1) := by
  rw [List.drop_eq_getElem_cons h]
  simp [List.getD, List.getElem?_eq_getElem h]
theorem results_vlB {fn : Func} {t u : Tmp} (h : fn.results = #[.cell t 42, .tmp u]) (tmps : Array Value) (w : World) (g : Nat) (v : Vl) (hp : tmps.getD t undef = .pointer (some ⟨g, 0, none⟩)) (hb : Blk w g 42 v.cells) (hm : v.t.length = 8) :
    (results fn tmps).run Tryz.prog w = .ok (.tuple #[.agg v.cells.toArray, tmps.getD u undef]) w := by
  rw [results_cell_tmp h, hp]
  have := run_loadVar_row (P := Tryz.prog) w g 42 42 v.cells.toArray (0, 0) _ hb Tryz.underlying42 rfl (by rw [List.size_toArray]; exact size30 hm)
  simp [asAddr, this]
def GivesV (w : World) (o : Option Vl) (e : Ending) (w' : World) : Prop := e = .returned (.tuple #[.agg (o.getD vzero).cells.toArray, .bool o.isSome]) ∧ Below w.heap.size w w'
theorem quiet_neq_am {o : Oper} {a : Act} {W : World} {K : Act → Prop} (x y : Operand) (t : TypeId) (ho : o.op = .binOp .neq 50 x y t) (A B : Am) (b : Bool) (hx : a.eval x = .agg A.cells.toArray) (hy : a.eval y = .agg B.cells.toArray) (hA : A.Ok) (hB : B.Ok) (hb : (!decide (A = B)) = b)
    (hk : K (a.put o.dst (.bool b))) : o.quiet Tryz.prog a (Cls W) K := quiet_val _ (fun _ => by rw [exec_neq_am x y t ho A B hx hy hA hB, hb]) hk
end Go.Proofs.YtnpbmihbmilkbaaGreat
namespace Go.Proofs.YtnpbmihbmilkbaaGreat
open Go.RowKit
theorem ready_one46 {ops : Array Oper} {Q : Exit → Act → World → Prop} {md : Region.Mode} {S : World → Prop} {fuel : Nat} {listed : Array Bool} {a : Act} {w : World} {i : Nat} {o : Oper} {rs : List Nat} (ho : ops[i]? = some o) (hg : o.guard = none) (x : Operand) (hop : o.op = .buildSlice 23 1 #[(0, x)]) (A : Am) (hx : a.eval x = .agg A.cells.toArray) (hA : A.Ok)
    (h : ∀ g w', g = w.heap.size → Blk w' g 50 A.cells → Below w.heap.size w w' → S w' ∧ wpAnyH Tryz.prog md ops Q S fuel (listed.setIfInBounds i true) (a.put o.dst (.slice (some ⟨g, 0, none⟩) 1 1)) w')
    (hs : AllReadyH Tryz.prog md ops Q S fuel listed a w rs) : AllReadyH Tryz.prog md ops Q S fuel listed a w (i :: rs) := by
  refine AllReadyH.cons ho (fun K hK => ?_) hs
  have hw : Region.wanted o (yielded ops a.tmps) = true := by simp [Region.wanted, hg]
  rw [if_pos hw]
  have H := h w.heap.size (w.alloc (.cells A.cells.toArray 50)) rfl (blk_alloc w 50 A.cells) (new_below w _)
  have hr := exec_one46 (w := w) x hop A hx hA
  unfold Oper.wp
  rw [hr]
  exact hK.out _ _ H.1 (fun _ => H.2)
theorem ready_app46 {ops : Array Oper} {Q : Exit → Act → World → Prop} {md : Region.Mode} {S : World → Prop} {fuel : Nat} {listed : Array Bool} {a : Act} {w : World} {i : Nat} {o : Oper} {rs : List Nat} (ho : ops[i]? = some o) (hg : o.guard = none) (s x : Operand)
    (hop : o.op = .call { callee := .builtin .append, args := #[s, x], argTypes := #[23, 23] }) (B : Nat) (v : Value) (l : List Am) (A : Am) (g : Nat) (hs' : a.eval s = v) (hx : a.eval x = .slice (some ⟨g, 0, none⟩) 1 1) (hown : OwnR w B v l) (hA : A.Ok) (hgb : Blk w g 50 A.cells) (hn : l.length ≤ 5000) (hB : B ≤ w.heap.size)
    (h : ∀ D m cap w', Hid (m = l.length + 1) → OwnR w' B (.slice D m cap) (l ++ [A]) → Below B w w' → w.grownBy w' v.ownBlock → S w' ∧ wpAnyH Tryz.prog md ops Q S fuel (listed.setIfInBounds i true) (a.put o.dst (.slice D m cap)) w')
    (hs : AllReadyH Tryz.prog md ops Q S fuel listed a w rs) : AllReadyH Tryz.prog md ops Q S fuel listed a w (i :: rs) := by
  refine AllReadyH.cons ho (fun K hK => ?_) hs
  have hw : Region.wanted o (yielded ops a.tmps) = true := by simp [Region.wanted, hg]
  rw [if_pos hw]
  obtain ⟨D, cap, w', hr, h1, h2⟩ := run_app w B v l A g o.type hown hA hgb hn hB
  have H := h D _ cap w' (Lib.hid rfl) h1 ((Below.refl B w).grown h2 hB (fun k hk => (hown.row.lt k hk).1)) h2
  unfold Oper.wp execOp
  simp only [hop, resolve, invoke, builtin, Sem.run_bind, Sem.run_pure, Result.andThen_ok, List.map_toArray, List.map_cons, List.map_nil, hs', hx, hr]
  exact hK.out _ _ H.1 (fun _ => H.2)
/-! Putting an atom where it belongs, round by round. -/
def PutI (s : List Am) (a : Am) (j : Nat) (d : Bool) (out : List Am) : Prop :=
  (d = false ∧ out ++ put (s.drop j) a = put s a) ∨ (d = true ∧ out ++ s.drop j = put s a ∧ ∀ y ∈ s.drop j, y.k ≠ a.k)
theorem put_len : ∀ (s : List Am) (a : Am), (put s a).length ≤ s.length + 1
  | [], _ => Nat.le_refl _
  | x :: s, a => by
    have := put_len s a
    unfold put
    split
    · simp
    · split
      · simp
      · simp only [List.length_cons]; omega
theorem PutI.len {s : List Am} {a : Am} {j : Nat} {d : Bool} {out : List Am} (h : PutI s a j d out) : out.length ≤ s.length + 1 := by
  have := put_len s a
  rcases h with ⟨_, h⟩ | ⟨_, h, _⟩
  · rw [← h, List.length_append] at this; omega
  · rw [← h, List.length_append] at this; omega
theorem PutI.start (s : List Am) (a : Am) : PutI s a 0 false [] := .inl ⟨rfl, rfl⟩
theorem St.drop {s : List Am} (h : St s) (j : Nat) : St (s.drop j) := ⟨h.ok.sub (fun _ ha => List.mem_of_mem_drop ha), fun a ha => h.rt a (List.mem_of_mem_drop ha), h.so.sublist (List.drop_sublist _ _)⟩
section
variable {s : List Am} {a x : Am} {j : Nat} {out : List Am}
theorem PutI.eq (h : PutI s a j false out) (hs : St s) (hd : s.drop j = x :: s.drop (j + 1)) (hk : x.k = a.k) : PutI s a (j + 1) true (out ++ [⟨a.k, more x.v a.v⟩]) := by
  rcases h with ⟨_, h⟩ | ⟨e, _⟩
  · refine .inr ⟨rfl, ?_, fun y hy e => ?_⟩
    · rw [← h, hd, put, if_pos hk, List.append_assoc]; rfl
    · have h1 := (hd ▸ hs.drop j : St (x :: s.drop (j + 1))).low y hy
      rw [e, ← hk] at h1; omega
  · cases e
theorem PutI.less (h : PutI s a j false out) (hs : St s) (ha : a.Ok) (hx : x.Ok) (hd : s.drop j = x :: s.drop (j + 1)) (hk : x.k ≠ a.k) (hl : a.k.less x.k = true) : PutI s a (j + 1) true (out ++ [a] ++ [x]) := by
  rcases h with ⟨_, h⟩ | ⟨e, _⟩
  · refine .inr ⟨rfl, ?_, fun y hy e => ?_⟩
    · rw [← h, hd, put, if_neg hk, if_pos hl]; simp
    · have h1 := (hd ▸ hs.drop j : St (x :: s.drop (j + 1))).low y hy
      rw [less_kn ha.k hx.k] at hl
      have := of_decide_eq_true hl
      rw [e] at h1; omega
  · cases e
theorem PutI.more (h : PutI s a j false out) (hd : s.drop j = x :: s.drop (j + 1)) (hk : x.k ≠ a.k) (hl : a.k.less x.k = false) : PutI s a (j + 1) false (out ++ [x]) := by
  rcases h with ⟨_, h⟩ | ⟨e, _⟩
  · refine .inl ⟨rfl, ?_⟩
    rw [← h, hd, put, if_neg hk, if_neg (by rw [hl]; decide)]; simp
  · cases e
theorem PutI.past (h : PutI s a j true out) (hd : s.drop j = x :: s.drop (j + 1)) : x.k ≠ a.k ∧ PutI s a (j + 1) true (out ++ [x]) := by
  rcases h with ⟨e, _⟩ | ⟨_, h, hk⟩
  · cases e
  · rw [hd] at h hk
    exact ⟨hk x (List.mem_cons_self ..), .inr ⟨rfl, by rw [← h]; simp, fun y hy => hk y (List.mem_cons_of_mem _ hy)⟩⟩
theorem PutI.done (h : PutI s a s.length true out) : out = put s a := by
  rcases h with ⟨e, _⟩ | ⟨_, h, _⟩
  · cases e
  · rw [← h, List.drop_length, List.append_nil]
theorem PutI.last (h : PutI s a s.length false out) : out ++ [a] = put s a := by
  rcases h with ⟨_, h⟩ | ⟨e, _⟩
  · rw [← h, List.drop_length]; rfl
  · cases e
end
end Go.Proofs.YtnpbmihbmilkbaaGreat
