/- Slices of vectors in memory. Slices of structs or arrays of any one type: what they hold, elements, slices of one's own, appends. Ranges over iterators that hand over any values and may hold memory of their own between the rounds. Ranges over iterators that hand over any values and may hold memory of their own between the rounds. Rows of keys and of names: what they hold, rows of one's own; the contracts of AppendSeq and Collect of slices at keys. The conditions of package tags as function values; the iterator over the tags of a row that meet one. The iterator over the tags of a row that meet a condition: what it hands over. The contracts of Seen, Live and Present of package tags. -/
import Derived.Test.YtijfbhdbfplghaaGreatH24
import Derived.Test.YtijfbhdbfplghaaGreatH09
import Derived.Test.YtijfbhdbfplghaaGreatH11
import Derived.Test.YtijfbhdbfplghaaGreatH19
namespace Go.Proofs.YtijfbhdbfplghaaGreat
open Go.RowKit
/-- The slice of n vectors at A holds the list ls. -/
structure VsV (w : World) (A : Option Addr) (n cap : Nat) (ls : List (List Int)) : Prop where
  ok : ∀ l ∈ ls, VOk l
  len : ls.length = n
  le : n ≤ cap
  most : cap ≤ maxLen
  at_ : 0 < n → ∃ G off, A = some ⟨G, off, none⟩ ∧ G < w.heap.size ∧ ∀ i (h : i < ls.length), w.rangeAt G (off + i * 16) (vc ls[i])
theorem VsV.below {w w' : World} {A : Option Addr} {n cap : Nat} {l : List (List Int)} (h : VsV w A n cap l) (hb : Below w.heap.size w w') : VsV w' A n cap l :=
  ⟨h.ok, h.len, h.le, h.most, fun h0 => by
    obtain ⟨G, off, ha, hG, hr⟩ := h.at_ h0
    exact ⟨G, off, ha, Nat.lt_of_lt_of_le hG hb.size, fun i hi j v hv => (hb.cell (p := ⟨G, off + i * 16 + j, none⟩) hG).trans (hr i hi j v hv)⟩⟩
theorem VsV.drew {w : World} {A : Option Addr} {n cap : Nat} {l : List (List Int)} (h : VsV w A n cap l) : VsV w.drew A n cap l := h.below (below_drew (Below.refl _ _))
/-- Where the vector i of the list lies. -/
structure VElem (w : World) (A : Option Addr) (n G o i : Nat) (a : List Int) : Prop where
  ok : VOk a
  ad : ∃ off, A = some ⟨G, off, none⟩ ∧ o = off + i * 16
  lt : i < n
  blk : G < w.heap.size
  rg : w.rangeAt G o (vc a)
theorem VsV.elem {w : World} {A : Option Addr} {n cap : Nat} {l : List (List Int)} (h : VsV w A n cap l) (i : Nat) (hi : i < n) : ∃ G o, VElem w A n G o i (l.getD i vz) := by
  obtain ⟨G, off, ha, hG, hr⟩ := h.at_ (by omega)
  have hi' : i < l.length := by rw [h.len]; exact hi
  have e : l.getD i vz = l[i] := by simp [List.getD, List.getElem?_eq_getElem hi']
  rw [e]
  exact ⟨G, off + i * 16, h.ok _ (List.getElem_mem _), ⟨off, ha, rfl⟩, hi, hG, hr i hi'⟩
theorem VElem.below {w w' : World} {A : Option Addr} {n G o i : Nat} {a : List Int} (h : VElem w A n G o i a) (hb : Below w.heap.size w w') : VElem w' A n G o i a :=
  ⟨h.ok, h.ad, h.lt, Nat.lt_of_lt_of_le h.blk hb.size, fun j v hv => (hb.cell (p := ⟨G, o + j, none⟩) h.blk).trans (h.rg j v hv)⟩
end Go.Proofs.YtijfbhdbfplghaaGreat
namespace Go.Proofs.YtijfbhdbfplghaaGreat
open Go.RowKit
/-- A type of elements: their cells, what fits, the type, the slice's type, cells and bytes, the zero. -/
structure ElT (α : Type) where
  enc : α → List Value
  ok : α → Prop
  t : TypeId
  s : TypeId
  sz : Nat
  by_ : Nat
  z : α
structure ElT.Laws {α : Type} (E : ElT α) : Prop where
  und : Tryz.prog.underlying E.s = some (.slice E.t)
  info : (Tryz.prog.info? E.t).map (fun i => (i.zero, i.size, i.bytes)) = some (some (.agg (E.enc E.z).toArray), E.sz, E.by_)
  zok : E.ok E.z
  len : ∀ a, E.ok a → (E.enc a).length = E.sz
  ones : ∀ a, ∀ u ∈ E.enc a, u.oneCell' = true
  pos : 0 < E.sz
  bpos : 0 < E.by_
  bmax : E.by_ ≤ 1000
  smax : E.sz ≤ 1000
  fill : ∀ cs : List Value, cs.length = E.sz → Instr.fill (fun i => some (i * E.sz, E.sz)) ((Array.range (1 * E.sz)).map ((E.enc E.z).toArray[· % (E.enc E.z).toArray.size]!)) [(0, .agg cs.toArray)] = some cs.toArray
section
variable {α : Type} {E : ElT α}
def acsG (E : ElT α) (l : List α) : List Value := l.flatMap E.enc
theorem acsG_app (l m : List α) : acsG E (l ++ m) = acsG E l ++ acsG E m := by unfold acsG; rw [List.flatMap_append]
theorem acsG_one (a : α) : acsG E [a] = E.enc a := by unfold acsG; simp
theorem acsG_get (L : E.Laws) : ∀ {l : List α}, (∀ a ∈ l, E.ok a) → ∀ (i : Nat) (hi : i < l.length) (j : Nat) (v : Value), (E.enc l[i])[j]? = some v → (acsG E l)[i * E.sz + j]? = some v
  | a :: l, h, 0, _, j, v, hv => by
    have e : acsG E (a :: l) = E.enc a ++ acsG E l := rfl
    have hv' : (E.enc a)[j]? = some v := hv
    rw [e, Nat.zero_mul, Nat.zero_add, List.getElem?_append_left (List.getElem?_eq_some_iff.1 hv').1]; exact hv'
  | a :: l, h, i + 1, hi, j, v, hv => by
    have e : acsG E (a :: l) = E.enc a ++ acsG E l := rfl
    have hl := L.len a (h a (List.mem_cons_self ..))
    have h1 : (i + 1) * E.sz = i * E.sz + E.sz := Nat.succ_mul ..
    rw [e, List.getElem?_append_right (by omega), hl, show (i + 1) * E.sz + j - E.sz = i * E.sz + j by omega]
    exact acsG_get L (fun b hb => h b (List.mem_cons_of_mem _ hb)) i (by simpa using hi) j v hv
/-- The slice of n elements at A holds the list l. -/
structure RowG (E : ElT α) (w : World) (A : Option Addr) (n cap : Nat) (l : List α) : Prop where
  ok : ∀ a ∈ l, E.ok a
  len : l.length = n
  le : n ≤ cap
  most : cap ≤ maxLen
  at_ : 0 < n → ∃ G off, A = some ⟨G, off, none⟩ ∧ G < w.heap.size ∧ ∀ i (h : i < l.length), w.rangeAt G (off + i * E.sz) (E.enc l[i])
theorem RowG.below {w w' : World} {A : Option Addr} {n cap : Nat} {l : List α} (h : RowG E w A n cap l) (hb : Below w.heap.size w w') : RowG E w' A n cap l :=
  ⟨h.ok, h.len, h.le, h.most, fun h0 => by
    obtain ⟨G, off, ha, hG, hr⟩ := h.at_ h0
    exact ⟨G, off, ha, Nat.lt_of_lt_of_le hG hb.size, fun i hi j v hv => (hb.cell (p := ⟨G, off + i * E.sz + j, none⟩) hG).trans (hr i hi j v hv)⟩⟩
theorem RowG.drew {w : World} {A : Option Addr} {n cap : Nat} {l : List α} (h : RowG E w A n cap l) : RowG E w.drew A n cap l := h.below (below_drew (Below.refl _ _))
theorem rowG_nil (w : World) : RowG E w none 0 0 [] := ⟨fun _ h => (by cases h), rfl, Nat.le_refl _, Nat.zero_le _, fun h => absurd h (Nat.lt_irrefl _)⟩
/-- Where the element i of the list lies. -/
structure GElem (E : ElT α) (w : World) (A : Option Addr) (n G o i : Nat) (a : α) : Prop where
  ok : E.ok a
  ad : ∃ off, A = some ⟨G, off, none⟩ ∧ o = off + i * E.sz
  lt : i < n
  blk : G < w.heap.size
  rg : w.rangeAt G o (E.enc a)
theorem RowG.elem {w : World} {A : Option Addr} {n cap : Nat} {l : List α} (h : RowG E w A n cap l) (d : α) (i : Nat) (hi : i < n) : ∃ G o, GElem E w A n G o i (l.getD i d) := by
  obtain ⟨G, off, ha, hG, hr⟩ := h.at_ (by omega)
  have hi' : i < l.length := by rw [h.len]; exact hi
  have e : l.getD i d = l[i] := by simp [List.getD, List.getElem?_eq_getElem hi']
  rw [e]
  exact ⟨G, off + i * E.sz, h.ok _ (List.getElem_mem _), ⟨off, ha, rfl⟩, hi, hG, hr i hi'⟩
theorem GElem.below {w w' : World} {A : Option Addr} {n G o i : Nat} {a : α} (h : GElem E w A n G o i a) (hb : Below w.heap.size w w') : GElem E w' A n G o i a :=
  ⟨h.ok, h.ad, h.lt, Nat.lt_of_lt_of_le h.blk hb.size, fun j v hv => (hb.cell (p := ⟨G, o + j, none⟩) h.blk).trans (h.rg j v hv)⟩
theorem sizeOfG (L : E.Laws) (w : World) : (sizeOf E.t).run Tryz.prog w = .ok E.sz w := by
  obtain ⟨i, hi, _, h1, _⟩ := info_parts L.info
  simp [sizeOf, typeInfo, hi, h1]
theorem zeroG (L : E.Laws) (w : World) : (zeroValue E.t).run Tryz.prog w = .ok (.agg (E.enc E.z).toArray) w := by
  obtain ⟨i, hi, h0, _, _⟩ := info_parts L.info
  simp [zeroValue, typeInfo, hi, h0]
theorem exec_indexG (L : E.Laws) {o : Oper} {a : Act} {w : World} (x y : Operand) (ho : o.op = .indexAddr E.s x y) (A : Option Addr) (n cap G p i : Nat) (e : α) (z : Int) (hx : a.eval x = .slice A n cap) (hy : a.eval y = .int .i64 z) (hz : z = (i : Int)) {W : World} (h : GElem E W A n G p i e) :
    (execOp a.eval o).run Tryz.prog w = .ok (.value (.pointer (some ⟨G, p, none⟩))) w := by
  obtain ⟨off, hA, rfl⟩ := h.ad
  have hi := h.lt
  have hs := sizeOfG L w
  have hr : (Instr.indexAt E.s (.slice (some ⟨G, off, none⟩) n cap) (.int .i64 (i : Int))).run Tryz.prog w = .ok (.pointer (some ⟨G, off + i * E.sz, none⟩)) w := by
    simp only [Instr.indexAt, asIntOf, Sem.run_bind, Sem.run_pure, Result.andThen_ok, run_underlying L.und]
    rw [if_pos ⟨by omega, by omega⟩]
    simp [Addr.add, hs]
  unfold execOp
  simp only [ho, hx, hy, hz, hA, Sem.run_bind, hr, Result.andThen_ok, Sem.run_pure]
theorem wpList_indexG (L : E.Laws) {ops : Array Oper} {rest : List Oper} {op : Oper} {a : Act} {w : World} {Q : Exit → Act → World → Prop} (hgd : op.guard = none) (x y : Operand) (ho : op.op = .indexAddr E.s x y) (A : Option Addr) (n cap G p i : Nat) (e : α) (z : Int) (hx : a.eval x = .slice A n cap) (hy : a.eval y = .int .i64 z) (hz : z = (i : Int)) {W : World} (h : GElem E W A n G p i e)
    (hk : wpList Tryz.prog ops Q rest (a.put op.dst (.pointer (some ⟨G, p, none⟩))) w) : wpList Tryz.prog ops Q (op :: rest) a w :=
  wpList_val hgd _ (exec_indexG L x y ho A n cap G p i e z hx hy hz h) hk
theorem quiet_indexG (L : E.Laws) {o : Oper} {a : Act} {W : World} {K : Act → Prop} (x y : Operand) (ho : o.op = .indexAddr E.s x y) (A : Option Addr) (n cap G p i : Nat) (e : α) (z : Int) (hx : a.eval x = .slice A n cap) (hy : a.eval y = .int .i64 z) (hz : z = (i : Int)) {V : World} (h : GElem E V A n G p i e)
    (hk : K (a.put o.dst (.pointer (some ⟨G, p, none⟩)))) : o.quiet Tryz.prog a (Cls W) K := quiet_val _ (fun _ => exec_indexG L x y ho A n cap G p i e z hx hy hz h) hk
/-- A list that the call owns. -/
structure OwnG (E : ElT α) (w : World) (B : Nat) (v : Value) (l : List α) : Prop where
  ok : ∀ a ∈ l, E.ok a
  row : w.ownsRow B E.t E.sz v l.length (acsG E l)
theorem ownG_nil (w : World) (B : Nat) : OwnG E w B (.slice none 0 0) [] := ⟨fun _ h => (by cases h), World.ownsRow_nil w B E.t E.sz⟩
theorem OwnG.rowG (L : E.Laws) {w : World} {B : Nat} {v : Value} {l : List α} (h : OwnG E w B v l) : ∃ A n cap, v = .slice A n cap ∧ RowG E w A n cap l := by
  rcases h.row.2 with ⟨rfl, h0⟩ | ⟨g, cap, cur, rfl, hb, hg, hn, hc, hs, ht⟩
  · have : l = [] := List.eq_nil_of_length_eq_zero h0
    subst this
    exact ⟨none, 0, 0, rfl, rowG_nil w⟩
  · refine ⟨some ⟨g, 0, none⟩, l.length, cap, rfl, h.ok, rfl, hn, hc, fun _ => ⟨g, 0, rfl, (Array.getElem?_eq_some_iff.1 hg).1, fun i hi j v hv => ?_⟩⟩
    have h1 := acsG_get L h.ok i hi j v hv
    rw [cell_of_row _ g _ cur E.t (0, 0) hg, Nat.zero_add]
    rw [← ht] at h1
    have hlt : i * E.sz + j < l.length * E.sz := by
      have := (List.getElem?_eq_some_iff.1 h1).1
      rw [List.length_take] at this
      omega
    rw [List.getElem?_take_of_lt hlt] at h1
    simpa using h1
theorem OwnG.below {w w' : World} {B : Nat} {v : Value} {l : List α} (h : OwnG E w B v l) (hb : Below w.heap.size w w') : OwnG E w' B v l :=
  ⟨h.ok, h.row.kept (row := none) ⟨hb.os, hb.tape, hb.output, hb.size, fun k hk _ => hb.block k hk⟩ (by cases v.ownBlock <;> simp)⟩
theorem OwnG.drew {w : World} {B : Nat} {v : Value} {l : List α} (h : OwnG E w B v l) : OwnG E w.drew B v l := h.below (below_drew (Below.refl _ _))
theorem OwnG.alloc {w : World} {B : Nat} {v : Value} {l : List α} (h : OwnG E w B v l) (o : Obj) : OwnG E (w.alloc o) B v l := h.below (new_below w o)
theorem OwnG.down {w : World} {B C : Nat} {v : Value} {l : List α} (h : OwnG E w B v l) (hC : C ≤ B) : OwnG E w C v l := by
  refine ⟨h.ok, h.row.1, ?_⟩
  rcases h.row.2 with h0 | ⟨g, cap, cur, e, hb, r⟩
  · exact .inl h0
  · exact .inr ⟨g, cap, cur, e, Nat.le_trans hC hb, r⟩
theorem OwnG.shape {w : World} {B : Nat} {v : Value} {l : List α} (h : OwnG E w B v l) : ∃ A cap, v = .slice A l.length cap := by
  rcases h.row.2 with ⟨rfl, h0⟩ | ⟨g, cap, cur, rfl, _⟩
  · exact ⟨none, 0, by rw [h0]⟩
  · exact ⟨_, _, rfl⟩
theorem OwnG.ge {w : World} {B : Nat} {v : Value} {l : List α} {i : Nat} (h : OwnG E w B v l) (hi : i < B) : v.ownBlock ≠ some i := fun e => by have := (h.row.lt i e).1; omega
theorem OwnG.put {w : World} {B : Nat} {v : Value} {l : List α} {i : Nat} {o : Obj} (h : OwnG E w B v l) (hn : v.ownBlock ≠ some i) : OwnG E (w.putObj i o) B v l :=
  ⟨h.ok, h.row.kept (row := some i) ⟨rfl, rfl, rfl, by simp, fun k _ hn => World.putObj_heap_other (fun e => hn (by rw [e]))⟩ (.inr hn)⟩
theorem OwnG.ne {w : World} {B : Nat} {v : Value} {l : List α} {g t : Nat} {cs : List Value} (h : OwnG E w B v l) (hb : Blk w g t cs) (ht : t ≠ E.t) : v.ownBlock ≠ some g := by
  rcases h.row.2 with ⟨rfl, _⟩ | ⟨g', cap, cur, rfl, _, hg, _⟩
  · simp [Value.ownBlock]
  · intro e
    obtain rfl : g' = g := by simpa [Value.ownBlock] using e
    unfold Blk at hb
    rw [hg] at hb
    simp only [Option.some.injEq, Obj.cells.injEq] at hb
    exact ht hb.2.1.symm
theorem OwnG.only {w w' : World} {B g : Nat} {v : Value} {l : List α} (h : OwnG E w B v l) (ho : Only g w w') (hg : w.heap.size ≤ g ∨ ∀ k, v.ownBlock = some k → k ≠ g) : OwnG E w' B v l :=
  ⟨h.ok, h.row.kept (row := some g) ⟨ho.os, ho.tape, ho.output, ho.size, fun k hk hn => ho.block k hk (fun e => hn (by rw [e]))⟩ (by
    rcases hg with hg | hg
    · cases e : v.ownBlock with
      | none => exact .inl rfl
      | some k => right; intro e2; have := (h.row.lt k e).2; have := Option.some.inj e2; omega
    · cases e : v.ownBlock with
      | none => exact .inl rfl
      | some k => right; intro e2; exact hg k e (Option.some.inj e2))⟩
/-- One is appended. -/
theorem run_appG (L : E.Laws) (w : World) (B : Nat) (v : Value) (l : List α) (A : α) (g : Nat) (ty : TypeId) (hown : OwnG E w B v l) (hA : E.ok A) (hg : Blk w g E.t (E.enc A)) (hn : l.length ≤ 5000) (hB : B ≤ w.heap.size) :
    ∃ D cap w', (Builtin.append_ #[E.s, E.s] ty #[v, .slice (some ⟨g, 0, none⟩) 1 1]).run Tryz.prog w = .ok (.slice D (l.length + 1) cap) w' ∧ OwnG E w' B (.slice D (l.length + 1) cap) (l ++ [A]) ∧ w.grownBy w' v.ownBlock := by
  obtain ⟨i0, hi, hz0, hz1, hz2⟩ := info_parts L.info
  have hb0 := L.bpos
  have hb1 := L.bmax
  have hp := L.pos
  have hby : (l.length + 1) * E.by_ ≤ 140737488355328 := Nat.le_trans (Nat.mul_le_mul (show l.length + 1 ≤ 5001 by omega) hb1) (by decide)
  obtain ⟨v', w', hr, h1, h2, _⟩ := run_append_own (P := Tryz.prog) w B E.s ty E.t i0 (.agg (E.enc E.z).toArray) E.sz E.by_ L.und hi hz0 hz1 hz2 (by simp [Value.cells, L.len _ L.zok]) (by omega) v _ _ hown.row ⟨g, 0, none⟩ 1 1 (E.enc A) (by rw [L.len A hA]; omega)
    (fun j u hj => by
      have h := hg.range j u hj
      rw [Nat.zero_add] at h
      unfold Addr.add
      split
      · rename_i h0; rw [h0] at h; exact h
      · simpa using h) (fun u hu => L.ones A u hu) (by unfold maxLen; omega) hby hB
  have own : OwnG E w' B v' (l ++ [A]) := ⟨fun a ha => by
    rcases List.mem_append.1 ha with h | h
    · exact hown.ok a h
    · rw [List.mem_singleton.1 h]; exact hA, by rw [acsG_app, acsG_one, List.length_append, List.length_singleton]; exact h1⟩
  obtain ⟨D, cap, e⟩ := own.shape
  rw [List.length_append, List.length_singleton] at e
  subst e
  exact ⟨D, cap, w', hr, own, h2⟩
theorem wpList_appG (L : E.Laws) {ops : Array Oper} {rest : List Oper} {op : Oper} {a : Act} {w : World} {Q : Exit → Act → World → Prop} (hgd : op.guard = none) (s x : Operand) (ho : op.op = .call { callee := .builtin .append, args := #[s, x], argTypes := #[E.s, E.s] })
    (B : Nat) (v : Value) (l : List α) (A : α) (g : Nat) (hs : a.eval s = v) (hx : a.eval x = .slice (some ⟨g, 0, none⟩) 1 1) (hown : OwnG E w B v l) (hA : E.ok A) (hg : Blk w g E.t (E.enc A)) (hn : l.length ≤ 5000) (hB : B ≤ w.heap.size)
    (h : ∀ D m cap w', Hid (m = l.length + 1) → Hid (OwnG E w' B (.slice D m cap) (l ++ [A])) → Hid (Below B w w') → Hid (w.grownBy w' v.ownBlock) → wpList Tryz.prog ops Q rest (a.put op.dst (.slice D m cap)) w') : wpList Tryz.prog ops Q (op :: rest) a w := by
  refine wpList_plain hgd fun K hK => ?_
  obtain ⟨D, cap, w', hr, h1, h2⟩ := run_appG L w B v l A g op.type hown hA hg hn hB
  unfold Oper.wp execOp
  simp only [ho, resolve, invoke, builtin, Sem.run_bind, Sem.run_pure, Result.andThen_ok, List.map_toArray, List.map_cons, List.map_nil, hs, hx, hr]
  exact hK _ _ (h D _ cap w' (Lib.hid rfl) (Lib.hid h1) (Lib.hid ((Below.refl B w).grown h2 hB (fun k hk => (hown.row.lt k hk).1))) (Lib.hid h2))
end
theorem take_getDG {α : Type} (d : α) {l : List α} {j : Nat} (h : j < l.length) : l.take (j + 1) = l.take j ++ [l.getD j d] := by
  rw [List.take_add_one]
  simp [List.getD, List.getElem?_eq_getElem h]
/-! Vectors. -/
end Go.Proofs.YtijfbhdbfplghaaGreat
namespace Go.Proofs.YtijfbhdbfplghaaGreat
open Go.RowKit Go.Shelf
attribute [local go_sem] Oper.semAt_some
/-- The iterator hands over one value behind the other, each as Nx allows, till one asks no more; what it was to hand over, Fin says. Its own memory lies from its start up to B: the rounds leave it alone, and stand what it does there. -/
def SeqGen {α : Type} (gf : Nat) (lb : Array Value) (N : World → Prop) (enc : α → Array Value) (Nx : List α → α → Prop) (Fin : List α → Prop) : Prop :=
  ∀ (l : Nat) (J : Nat → List α → World → Prop) (X : World → Prop) (W : World),
    (∀ B pre V V', J B pre V → Below V.heap.size V V' → J B pre V') → (∀ B pre V V' g, J B pre V → Only g V V' → W.heap.size ≤ g → g < B → J B pre V') → (∀ B pre V, J B pre V → N V) → (∀ V V' g, X V → Only g V V' → W.heap.size ≤ g → X V') →
    (∀ B pre x V, Nx pre x → J B pre V → W.heap.size ≤ B → B ≤ V.heap.size → YieldAt Fence.wide 9 Tryz.prog l (enc x) V fun e V' => V.heap.size ≤ V'.heap.size ∧ (∀ k, W.heap.size ≤ k → k < B → V'.heap[k]? = V.heap[k]?) ∧ ((e = .returned (.bool true) ∧ J B (pre ++ [x]) V') ∨ (e = .returned (.bool false) ∧ X V'))) →
    N W → (∀ B V, W.heap.size ≤ B → B ≤ V.heap.size → Below W.heap.size W V → J B [] V) → Calls Tryz.prog gf (#[.func (.yield l) #[] #[]] ++ lb) W fun e V' => (∃ v, e = .returned v) ∧ ((∃ s B, Fin s ∧ J B s V') ∨ X V')
theorem range_gen {α : Type} {n : Nat} {g : Operand} {ps : Array Tmp} {assign body : Code} {Q : Exit → Act → World → Prop} {a : Act} {w : World} {gf : Nat} {lb : Array Value} {enc : α → Array Value} {Nx : List α → α → Prop} {Fin : List α → Prop}
    (hg : a.eval g = .func (.func gf) #[] lb) (eg : ∀ args w, (callFunc gf args).run Tryz.prog w = .ok (.enter gf args) w) {N : World → Prop} (hseq : SeqGen gf lb N enc Nx Fin) (hps : ∀ x, ps.size = (enc x).size)
    (I : Nat → List α → World → Prop) (X : World → Prop) (hIb : ∀ B pre W W', I B pre W → Below W.heap.size W W' → I B pre W') (hIo : ∀ B pre W W' h, I B pre W → Only h W W' → w.heap.size + 2 ≤ h → h < B → I B pre W') (hIp : ∀ B pre W o, w.heap.size + 2 ≤ B → I B pre W → I B pre (W.putObj (w.heap.size + 1) o)) (hXp : ∀ W o, X W → X (W.putObj (w.heap.size + 1) o)) (hXo : ∀ W W' h, X W → Only h W W' → w.heap.size + 2 ≤ h → X W') (hIn : ∀ B pre W, I B pre W → N W) (hN0 : ∀ W, Below w.heap.size w W → N W)
    (h0 : ∀ B V, w.heap.size + 2 ≤ B → B ≤ V.heap.size → Below w.heap.size w V → I B [] V)
    (Ax : Nat → List α → α → Act → World → Prop) (hAp : ∀ B pre x a' W o, w.heap.size + 2 ≤ B → Ax B pre x a' W → Ax B pre x a' (W.putObj (w.heap.size + 1) o))
    (hassign : ∀ (l B : Nat) (pre : List α) (x : α) (W : World) (K : Act → World → Prop), Nx pre x → I B pre W → w.heap.size + 2 ≤ B → B ≤ W.heap.size → w.heap.size + 1 < W.heap.size → (∀ a' W', Below W.heap.size W W' → Ax B pre x a' W' → K a' W') →
      assign.wpIn (Fence.wide.inRound l) 9 Tryz.prog (Exit.then K (fun _ _ _ => False)) { tmps := (ps.zip (enc x)).foldl (fun t (q, v) => t.setIfInBounds q v) a.tmps, defers := [] } W)
    (hbody : ∀ (l B : Nat) (pre : List α) (x : α) (a' : Act) (W : World), Nx pre x → Ax B pre x a' W → w.heap.size + 2 ≤ B → B ≤ W.heap.size → w.heap.size + 1 < W.heap.size →
      body.wpIn (Fence.wide.inRound l) 9 Tryz.prog (fun e _ W' => KeepL w.heap.size W W' ∧ (∀ k, w.heap.size + 2 ≤ k → k < B → W'.heap[k]? = W.heap[k]?) ∧ ((e = .normal ∧ I B (pre ++ [x]) W') ∨ (e = .ret ∧ X W'))) a' W)
    (hdone : ∀ (D B : Nat) (s : List α) (W : World), w.heap.size ≤ D → D < w.heap.size + 2 → w.heap.size + 2 ≤ B → Fin s → I B s W → W.heap[D]? = some (.deferred (some [])) → Q .normal { a with defers := { target := .collected D, args := #[] } :: a.defers } W)
    (hstop : ∀ (D : Nat) (W : World), w.heap.size ≤ D → X W → W.heap[D]? = some (.deferred (some [])) → Code.ret.wpIn Fence.wide n Tryz.prog Q { a with defers := { target := .collected D, args := #[] } :: a.defers } W) :
    (Code.rangeFunc g ps assign body).wpIn Fence.wide n Tryz.prog Q a w := by
  refine wpIn_rangeFunc fun fn _ => ?_
  obtain ⟨rc, hR⟩ : ∃ rc : LoopState → Option Code → Loop, rc = fun st pe => { state := st, pending := pe, fn, tmps := a.tmps, params := ps, assign, body, defers := w.heap.size } := ⟨_, rfl⟩
  obtain ⟨V, hV⟩ : ∃ V, (w.alloc (.deferred (some []))).alloc (.loop (rc .ready none)) = V := ⟨_, rfl⟩
  have hVl : V.heap[w.heap.size + 1]? = some (.loop (rc .ready none)) := by
    have h := World.alloc_heap_new (w.alloc (.deferred (some []))) (.loop (rc .ready none))
    rw [hV, World.size_alloc] at h; exact h
  have hVd : V.heap[w.heap.size]? = some (.deferred (some [])) := by
    rw [← hV]; exact (Below.heap_alloc _ _ _ (by simp)).trans (World.alloc_heap_new w _)
  have hVs : V.heap.size = w.heap.size + 2 := by rw [← hV]; simp
  have hVb : Below w.heap.size w V := by rw [← hV]; exact step_ (new_below w _) (new_below _ _)
  have busyD : ∀ (W : World) (o : Obj), W.heap[w.heap.size]? = some (.deferred (some [])) → (W.putObj (w.heap.size + 1) o).heap[w.heap.size]? = some (.deferred (some [])) := fun W o h => (World.putObj_heap_other (by omega)).trans h
  refine ⟨w.heap.size + 1, [{ target := .collected w.heap.size, args := #[] }], V, { target := .fn (.func gf) lb, args := #[.func (.yield (w.heap.size + 1)) #[] #[]] }, V, gf,
    #[.func (.yield (w.heap.size + 1)) #[] #[]] ++ lb, V, ?_, ?_, fun _ _ => trivial, ?_, (fun h => by cases h), ?_⟩
  · rw [← hV, hR]; exact run_enterLoop_outer _ _ _ _ _
  · simp only [resolve, hg]; simp [go_sem]
  · simp [invoke, go_sem, eg]
  refine callsIn_wide.2 ((hseq (w.heap.size + 1)
    (fun B pre W => w.heap.size + 2 ≤ B ∧ I B pre W ∧ (W.heap[w.heap.size + 1]? = some (.loop (rc .ready none)) ∧ W.heap[w.heap.size]? = some (.deferred (some []))))
    (fun W => X W ∧ (W.heap[w.heap.size + 1]? = some (.loop (rc .done (some .ret))) ∧ W.heap[w.heap.size]? = some (.deferred (some [])))) V
    (fun B pre A C h hb => ⟨h.1, hIb _ _ _ _ h.2.1 hb, (hb.block _ (Array.getElem?_eq_some_iff.1 h.2.2.1).1).trans h.2.2.1, (hb.block _ (Array.getElem?_eq_some_iff.1 h.2.2.2).1).trans h.2.2.2⟩)
    (fun B pre A C h hi ho h1 h2 => ⟨hi.1, hIo _ _ _ _ _ hi.2.1 ho (by omega) h2, (ho.block _ (Array.getElem?_eq_some_iff.1 hi.2.2.1).1 (by omega)).trans hi.2.2.1, (ho.block _ (Array.getElem?_eq_some_iff.1 hi.2.2.2).1 (by omega)).trans hi.2.2.2⟩)
    (fun B pre A h => hIn _ _ _ h.2.1) (fun A C h hx ho h1 => ⟨hXo _ _ _ hx.1 ho (by omega), (ho.block _ (Array.getElem?_eq_some_iff.1 hx.2.1).1 (by omega)).trans hx.2.1, (ho.block _ (Array.getElem?_eq_some_iff.1 hx.2.2).1 (by omega)).trans hx.2.2⟩) ?round (hN0 _ hVb) (fun B V' h1 h2 hb => ⟨by omega, h0 _ _ (by omega) h2 (hVb.trans (hb.mono (by omega))), (hb.block _ (by omega)).trans hVl, (hb.block _ (by omega)).trans hVd⟩)).mono ?done)
  case done =>
    rintro e W ⟨⟨v, rfl⟩, (⟨s, B, hf, hB, hi, hl, hd⟩ | ⟨hx, hl, hd⟩)⟩
    · refine ⟨none, _, by have := run_endLoop (P := Tryz.prog) hl (by rw [hR]; simp); rw [hR] at this; exact this, ?_⟩
      exact hdone _ _ _ _ (Nat.le_refl _) (by omega) hB hf (hIp _ _ _ _ hB hi) (busyD W _ hd)
    · refine ⟨some .ret, _, by have := run_endLoop (P := Tryz.prog) hl (by rw [hR]; simp); rw [hR] at this; exact this, ?_⟩
      exact hstop _ _ (Nat.le_refl _) (hXp _ _ hx) (busyD W _ hd)
  case round =>
    rintro B pre x W hnx ⟨hB, hi, hl, hd⟩ hB1 hB2
    have hy := run_yield (P := Tryz.prog) (args := enc x) hl (by rw [hR]; exact (hps x).symm)
    rw [hR] at hy
    refine ⟨fn, _, assign, body, hy, roundIn_of_wpIn trivial ?_⟩
    have hlt0 := (Array.getElem?_eq_some_iff.1 hl).1
    refine hassign (w.heap.size + 1) B pre x W _ hnx hi hB hB2 hlt0 fun a' W' hs hax => ?_
    have hl' := (hs.block _ hlt0).trans hl
    have hd' := (hs.block _ (Array.getElem?_eq_some_iff.1 hd).1).trans hd
    have hlt := (Array.getElem?_eq_some_iff.1 hl').1
    refine ⟨_, run_beginRound hl' (by rw [hR]), ?_⟩
    have hl2 : (W'.putObj (w.heap.size + 1) (.loop { rc .ready none with state := .busy })).heap[w.heap.size + 1]? = some (.loop { rc .ready none with state := .busy }) := World.putObj_heap_same hlt
    have hsz' := hs.size
    refine wpIn_mono (hbody (w.heap.size + 1) B pre x a' _ hnx (hAp _ _ _ _ _ _ hB hax) hB (by simp; omega) (by simpa using hlt)) ?_
    rintro e a3 W3 ⟨hk3, hkb, hp⟩
    have hl3 := hk3.two.trans hl2
    have hd3 := hk3.one.trans (busyD W' _ hd')
    have hsz3 : W.heap.size ≤ W3.heap.size := by have h1 := hk3.size; simp at h1; omega
    have hkeep : ∀ (o : Obj) (k : Nat), V.heap.size ≤ k → k < B → (W3.putObj (w.heap.size + 1) o).heap[k]? = W.heap[k]? := fun o k h1 h2 => by
      rw [World.putObj_heap_other (by omega), hkb k (by omega) h2, World.putObj_heap_other (by omega)]
      exact hs.block k (by omega)
    rcases hp with ⟨rfl, hi3⟩ | ⟨rfl, hx3⟩
    · refine ⟨_, _, run_endRound none hl3, by simp; omega, hkeep _, .inl ⟨rfl, hB, hIp _ _ _ _ hB hi3, ?_, busyD W3 _ hd3⟩⟩
      rw [World.putObj_heap_same (Array.getElem?_eq_some_iff.1 hl3).1, hR]; rfl
    · refine ⟨_, _, run_endRound (some .ret) hl3, by simp; omega, hkeep _, .inr ⟨rfl, hXp _ _ hx3, ?_, busyD W3 _ hd3⟩⟩
      rw [World.putObj_heap_same (Array.getElem?_eq_some_iff.1 hl3).1, hR]; rfl
end Go.Proofs.YtijfbhdbfplghaaGreat
namespace Go.Proofs.YtijfbhdbfplghaaGreat
open Go.RowKit Go.Shelf
attribute [local go_sem] Oper.semAt_some
end Go.Proofs.YtijfbhdbfplghaaGreat
namespace Go.Proofs.YtijfbhdbfplghaaGreat
open Go.RowKit Go.Shelf
attribute [local go_sem] Oper.semAt_some
end Go.Proofs.YtijfbhdbfplghaaGreat
namespace Go.Proofs.YtijfbhdbfplghaaGreat
open Go.RowKit Go.Shelf
attribute [local go_sem] Oper.semAt_some
end Go.Proofs.YtijfbhdbfplghaaGreat
namespace Go.Proofs.YtijfbhdbfplghaaGreat
open Go.RowKit Go.Shelf
attribute [local go_sem] Oper.semAt_some
end Go.Proofs.YtijfbhdbfplghaaGreat
namespace Go.Proofs.YtijfbhdbfplghaaGreat
open Go.RowKit Go.Shelf
attribute [local go_sem] Oper.semAt_some
end Go.Proofs.YtijfbhdbfplghaaGreat
namespace Go.Proofs.YtijfbhdbfplghaaGreat
open Go.RowKit Go.Shelf
attribute [local go_sem] Oper.semAt_some
theorem kcells_ones (k : Ky) : ∀ u ∈ k.cells, u.oneCell' = true := all_list (one27 k)
theorem fillKv (c0 c1 c2 c3 c4 c5 c6 c7 c8 c9 c10 c11 : Value) : Instr.fill (fun i => some (i * 12, 12)) ((Array.range (1 * 12)).map (kzero.cells.toArray[· % kzero.cells.toArray.size]!)) [(0, .agg #[c0, c1, c2, c3, c4, c5, c6, c7, c8, c9, c10, c11])] = some #[c0, c1, c2, c3, c4, c5, c6, c7, c8, c9, c10, c11] := by kernel_rfl
theorem fillK (cs : List Value) (h : cs.length = 12) : Instr.fill (fun i => some (i * 12, 12)) ((Array.range (1 * 12)).map (kzero.cells.toArray[· % kzero.cells.toArray.size]!)) [(0, .agg cs.toArray)] = some cs.toArray := by
  match cs, h with
  | [c0, c1, c2, c3, c4, c5, c6, c7, c8, c9, c10, c11], _ => exact fillKv c0 c1 c2 c3 c4 c5 c6 c7 c8 c9 c10 c11
def nmL (l : List Int) : List Value := l.map (Value.int .u8)
theorem nmL_ones (l : List Int) : ∀ u ∈ nmL l, u.oneCell' = true := fun u hu => by
  obtain ⟨j, _, rfl⟩ := List.mem_map.1 hu
  rfl
theorem fillNv (c0 c1 c2 c3 c4 c5 c6 c7 : Value) : Instr.fill (fun i => some (i * 8, 8)) ((Array.range (1 * 8)).map ((nmL M.zero8).toArray[· % (nmL M.zero8).toArray.size]!)) [(0, .agg #[c0, c1, c2, c3, c4, c5, c6, c7])] = some #[c0, c1, c2, c3, c4, c5, c6, c7] := by kernel_rfl
theorem fillN (cs : List Value) (h : cs.length = 8) : Instr.fill (fun i => some (i * 8, 8)) ((Array.range (1 * 8)).map ((nmL M.zero8).toArray[· % (nmL M.zero8).toArray.size]!)) [(0, .agg cs.toArray)] = some cs.toArray := by
  match cs, h with
  | [c0, c1, c2, c3, c4, c5, c6, c7], _ => exact fillNv c0 c1 c2 c3 c4 c5 c6 c7
theorem zero8_nok : NOk M.zero8 := ⟨rfl, zero8_bytes⟩
abbrev encK (x : Ky) : Array Value := #[.agg x.cells.toArray]
end Go.Proofs.YtijfbhdbfplghaaGreat
namespace Go.Proofs.YtijfbhdbfplghaaGreat
open Go.RowKit
/-- A condition as a function value: it answers p, and makes memory. -/
def CondF (gf : Nat) (lb : Array Value) (N : World → Prop) (p : Ky → Vl → Bool) : Prop :=
  ∀ (k : Ky) (v : Vl) (W : World), k.Ok → v.Ok → N W → Calls Tryz.prog gf (#[.agg k.cells.toArray, .agg v.cells.toArray] ++ lb) W fun e W' => e = .returned (.bool (p k v)) ∧ Below W.heap.size W W'
end Go.Proofs.YtijfbhdbfplghaaGreat
namespace Go.Proofs.YtijfbhdbfplghaaGreat
open Go.RowKit Go.Shelf
attribute [local go_sem] Oper.semAt_some
def NxA (s : List Am) (pre : List Am) (x : Am) : Prop := ∃ rest, s = pre ++ x :: rest
theorem each_gen (Bs : Nat) (D : Option Addr) (m c : Nat) (s : List Am) (hm : m ≤ 1000) : SeqGen 75 #[.pointer (some ⟨Bs, 0, none⟩)] (fun V => Blk V Bs 22 [.slice D m c] ∧ RowV V D m c s) encP (NxA s) (fun t => t = s) := by
  intro l J X W hJb _ hJn _ hY _ h0
  refine ((each_seq Bs D m c s hm) l (fun pre V => W.heap.size ≤ V.heap.size ∧ J W.heap.size pre V) X W (fun pre V V' h hb => ⟨Nat.le_trans h.1 hb.size, hJb _ _ _ _ h.2 hb⟩) (fun pre V h => hJn _ _ _ h.2) ?_ ⟨Nat.le_refl _, h0 _ _ (Nat.le_refl _) (Nat.le_refl _) (Below.refl _ _)⟩).mono ?_
  · rintro pre x rest V hs ⟨h1, h2⟩
    refine (hY W.heap.size pre x V ⟨rest, hs⟩ h2 (Nat.le_refl _) h1).mono ?_
    rintro e V' ⟨h3, _, (⟨he, h4⟩ | ⟨he, h4⟩)⟩
    · exact .inl ⟨he, Nat.le_trans h1 h3, h4⟩
    · exact .inr ⟨he, h4⟩
  · rintro e V ⟨h1, (⟨_, h2⟩ | h2)⟩
    · exact ⟨h1, .inl ⟨s, _, rfl, h2⟩⟩
    · exact ⟨h1, .inr h2⟩
theorem rowV_seg {lo : Nat} {w w' : World} {A : Option Addr} {n cap : Nat} {l : List Am} (h : RowV w A n cap l) (hf : ∀ G off, A = some ⟨G, off, none⟩ → lo ≤ G) (hs : ∀ k, lo ≤ k → k < w.heap.size → w'.heap[k]? = w.heap[k]?) (hz : w.heap.size ≤ w'.heap.size) : RowV w' A n cap l :=
  ⟨h.ok, h.len, h.le, h.most, fun h0 => by
    obtain ⟨G, off, ha, hG, hr⟩ := h.at_ h0
    refine ⟨G, off, ha, Nat.lt_of_lt_of_le hG hz, fun i hi j v hv => ?_⟩
    have h1 := hr i hi j v hv
    unfold World.cell? at *
    rw [show w'.heap[(⟨G, off + i * 21 + j, none⟩ : Addr).block]? = w.heap[(⟨G, off + i * 21 + j, none⟩ : Addr).block]? from hs G (hf G off ha) hG]
    exact h1⟩
/-- What the iterator keeps: its own blocks stand as they stood in w2. -/
structure Own2 (lo : Nat) (w2 V : World) : Prop where
  same : ∀ k, lo ≤ k → k < w2.heap.size → V.heap[k]? = w2.heap[k]?
  size : w2.heap.size ≤ V.heap.size
theorem Own2.below {lo : Nat} {w2 V V' : World} (h : Own2 lo w2 V) (hb : Below V.heap.size V V') : Own2 lo w2 V' :=
  ⟨fun k h1 h2 => (hb.block k (by have := h.size; omega)).trans (h.same k h1 h2), Nat.le_trans h.size hb.size⟩
theorem Own2.only {lo g : Nat} {w2 V V' : World} (h : Own2 lo w2 V) (hb : Only g V V') (hg : w2.heap.size ≤ g) : Own2 lo w2 V' :=
  ⟨fun k h1 h2 => (hb.block k (by have := h.size; omega) (by omega)).trans (h.same k h1 h2), Nat.le_trans h.size hb.size⟩
theorem Own2.put {lo i : Nat} {w2 V : World} {o : Obj} (h : Own2 lo w2 V) (hg : w2.heap.size ≤ i) : Own2 lo w2 (V.putObj i o) :=
  ⟨fun k h1 h2 => (World.putObj_heap_other (by omega)).trans (h.same k h1 h2), by simpa using h.size⟩
theorem Own2.blk {lo g t : Nat} {w2 V : World} {cs : List Value} (h : Own2 lo w2 V) (hb : Blk w2 g t cs) (hl : lo ≤ g) : Blk V g t cs := (h.same g hl hb.lt).trans hb
theorem only_putObj (w : World) (i : Nat) (o : Obj) : Only i w (w.putObj i o) :=
  ⟨rfl, rfl, rfl, by simp, fun k _ hn => World.putObj_heap_other hn⟩
def NxK (L : List Ky) (pre : List Ky) (x : Ky) : Prop := ∃ rest, L = pre ++ x :: rest
theorem pick_nx {p : Ky → Vl → Bool} {s pre rest : List Am} {x : Am} (hs : s = pre ++ x :: rest) (hx : sel p x = true) : NxK (pick p s) (pick p pre) x.k := by
  refine ⟨pick p rest, ?_⟩
  unfold pick
  rw [hs, List.filter_append, List.map_append, List.filter_cons_of_pos hx]; rfl
end Go.Proofs.YtijfbhdbfplghaaGreat
namespace Go.Proofs.YtijfbhdbfplghaaGreat
open Go.RowKit Go.Shelf
attribute [local go_sem] Oper.semAt_some
theorem nx_len {L pre : List Ky} {x : Ky} {M : Nat} (h : NxK L pre x) (hL : ∀ k ∈ L, k.Ok) (hM : L.length ≤ M) : x.Ok ∧ pre.length < M := by
  obtain ⟨rest, e⟩ := h
  refine ⟨hL x (by rw [e]; simp), ?_⟩
  rw [e, List.length_append, List.length_cons] at hM
  omega
end Go.Proofs.YtijfbhdbfplghaaGreat
