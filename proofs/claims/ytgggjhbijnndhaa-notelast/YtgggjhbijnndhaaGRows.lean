/- Slices of vectors in memory. Slices of structs or arrays of any one type: what they hold, elements, slices of one's own, appends. -/
import Derived.Test.YtgggjhbijnndhaaVecs
import Derived.Test.YtgggjhbijnndhaaLists
import Derived.Test.YtgggjhbijnndhaaLeq
namespace Go.Proofs.Ytgggjhbijnndhaa
open Go.RowKit

/-- The slice of n vectors at A holds the list ls. -/
structure VsV (w : World) (A : Option Addr) (n cap : Nat) (ls : List (List Int)) : Prop where
  ok : ∀ l ∈ ls, VOk l
  len : ls.length = n
  le : n ≤ cap
  most : cap ≤ maxLen
  at_ : 0 < n → ∃ G off, A = some ⟨G, off, none⟩ ∧ G < w.heap.size ∧ ∀ i (h : i < ls.length), w.rangeAt G (off + i * 16) (vc ls[i])
theorem VsV.below {w w' : World} {A : Option Addr} {n cap : Nat} {l : List (List Int)} (h : VsV w A n cap l) (hb : Below w.heap.size w w') : VsV w' A n cap l :=
  ⟨h.ok, h.len, h.le, h.most, fun h0 => by
    obtain ⟨G, off, ha, hG, hr⟩ := h.at_ h0
    exact ⟨G, off, ha, Nat.lt_of_lt_of_le hG hb.size, fun i hi j v hv => (hb.cell (p := ⟨G, off + i * 16 + j, none⟩) hG).trans (hr i hi j v hv)⟩⟩
theorem VsV.drew {w : World} {A : Option Addr} {n cap : Nat} {l : List (List Int)} (h : VsV w A n cap l) : VsV w.drew A n cap l := h.below (below_drew (Below.refl _ _))
theorem vsV_nil (w : World) : VsV w none 0 0 [] := ⟨fun _ h => (by cases h), rfl, Nat.le_refl _, Nat.zero_le _, fun h => absurd h (Nat.lt_irrefl _)⟩
/-- Where the vector i of the list lies. -/
structure VElem (w : World) (A : Option Addr) (n G o i : Nat) (a : List Int) : Prop where
  ok : VOk a
  ad : ∃ off, A = some ⟨G, off, none⟩ ∧ o = off + i * 16
  lt : i < n
  blk : G < w.heap.size
  rg : w.rangeAt G o (vc a)
theorem VsV.elem {w : World} {A : Option Addr} {n cap : Nat} {l : List (List Int)} (h : VsV w A n cap l) (i : Nat) (hi : i < n) : ∃ G o, VElem w A n G o i (l.getD i vz) := by
  obtain ⟨G, off, ha, hG, hr⟩ := h.at_ (by omega)
  have hi' : i < l.length := by rw [h.len]; exact hi
  have e : l.getD i vz = l[i] := by simp [List.getD, List.getElem?_eq_getElem hi']
  rw [e]
  exact ⟨G, off + i * 16, h.ok _ (List.getElem_mem _), ⟨off, ha, rfl⟩, hi, hG, hr i hi'⟩
theorem VElem.below {w w' : World} {A : Option Addr} {n G o i : Nat} {a : List Int} (h : VElem w A n G o i a) (hb : Below w.heap.size w w') : VElem w' A n G o i a :=
  ⟨h.ok, h.ad, h.lt, Nat.lt_of_lt_of_le h.blk hb.size, fun j v hv => (hb.cell (p := ⟨G, o + j, none⟩) h.blk).trans (h.rg j v hv)⟩
end Go.Proofs.Ytgggjhbijnndhaa
namespace Go.Proofs.Ytgggjhbijnndhaa
open Go.RowKit

/-- A type of elements: their cells, what fits, the type, the slice's type, cells and bytes, the zero. -/
structure ElT (α : Type) where
  enc : α → List Value
  ok : α → Prop
  t : TypeId
  s : TypeId
  sz : Nat
  by_ : Nat
  z : α
structure ElT.Laws {α : Type} (E : ElT α) : Prop where
  und : Try.prog.underlying E.s = some (.slice E.t)
  info : (Try.prog.info? E.t).map (fun i => (i.zero, i.size, i.bytes)) = some (some (.agg (E.enc E.z).toArray), E.sz, E.by_)
  zok : E.ok E.z
  len : ∀ a, E.ok a → (E.enc a).length = E.sz
  ones : ∀ a, ∀ u ∈ E.enc a, u.oneCell' = true
  pos : 0 < E.sz
  bpos : 0 < E.by_
  bmax : E.by_ ≤ 1000
  smax : E.sz ≤ 1000
  fill : ∀ cs : List Value, cs.length = E.sz → Instr.fill (fun i => some (i * E.sz, E.sz)) ((Array.range (1 * E.sz)).map ((E.enc E.z).toArray[· % (E.enc E.z).toArray.size]!)) [(0, .agg cs.toArray)] = some cs.toArray
section
variable {α : Type} {E : ElT α}
def acsG (E : ElT α) (l : List α) : List Value := l.flatMap E.enc
theorem acsG_app (l m : List α) : acsG E (l ++ m) = acsG E l ++ acsG E m := by unfold acsG; rw [List.flatMap_append]
theorem acsG_one (a : α) : acsG E [a] = E.enc a := by unfold acsG; simp
theorem acsG_len (L : E.Laws) : ∀ {l : List α}, (∀ a ∈ l, E.ok a) → (acsG E l).length = l.length * E.sz
  | [], _ => by simp [acsG]
  | a :: l, h => by
    have e : acsG E (a :: l) = E.enc a ++ acsG E l := rfl
    rw [e, List.length_append, L.len a (h a (List.mem_cons_self ..)), acsG_len L (fun b hb => h b (List.mem_cons_of_mem _ hb)), List.length_cons, Nat.succ_mul, Nat.add_comm]
theorem acsG_get (L : E.Laws) : ∀ {l : List α}, (∀ a ∈ l, E.ok a) → ∀ (i : Nat) (hi : i < l.length) (j : Nat) (v : Value), (E.enc l[i])[j]? = some v → (acsG E l)[i * E.sz + j]? = some v
  | a :: l, h, 0, _, j, v, hv => by
    have e : acsG E (a :: l) = E.enc a ++ acsG E l := rfl
    have hv' : (E.enc a)[j]? = some v := hv
    rw [e, Nat.zero_mul, Nat.zero_add, List.getElem?_append_left (List.getElem?_eq_some_iff.1 hv').1]; exact hv'
  | a :: l, h, i + 1, hi, j, v, hv => by
    have e : acsG E (a :: l) = E.enc a ++ acsG E l := rfl
    have hl := L.len a (h a (List.mem_cons_self ..))
    have h1 : (i + 1) * E.sz = i * E.sz + E.sz := Nat.succ_mul ..
    rw [e, List.getElem?_append_right (by omega), hl, show (i + 1) * E.sz + j - E.sz = i * E.sz + j by omega]
    exact acsG_get L (fun b hb => h b (List.mem_cons_of_mem _ hb)) i (by simpa using hi) j v hv
theorem acsG_ones (L : E.Laws) (l : List α) : ∀ u ∈ acsG E l, u.oneCell' = true := fun u hu => by
  obtain ⟨a, _, h⟩ := List.mem_flatMap.1 hu
  exact L.ones a u h
/-- The slice of n elements at A holds the list l. -/
structure RowG (E : ElT α) (w : World) (A : Option Addr) (n cap : Nat) (l : List α) : Prop where
  ok : ∀ a ∈ l, E.ok a
  len : l.length = n
  le : n ≤ cap
  most : cap ≤ maxLen
  at_ : 0 < n → ∃ G off, A = some ⟨G, off, none⟩ ∧ G < w.heap.size ∧ ∀ i (h : i < l.length), w.rangeAt G (off + i * E.sz) (E.enc l[i])
theorem RowG.below {w w' : World} {A : Option Addr} {n cap : Nat} {l : List α} (h : RowG E w A n cap l) (hb : Below w.heap.size w w') : RowG E w' A n cap l :=
  ⟨h.ok, h.len, h.le, h.most, fun h0 => by
    obtain ⟨G, off, ha, hG, hr⟩ := h.at_ h0
    exact ⟨G, off, ha, Nat.lt_of_lt_of_le hG hb.size, fun i hi j v hv => (hb.cell (p := ⟨G, off + i * E.sz + j, none⟩) hG).trans (hr i hi j v hv)⟩⟩
theorem RowG.drew {w : World} {A : Option Addr} {n cap : Nat} {l : List α} (h : RowG E w A n cap l) : RowG E w.drew A n cap l := h.below (below_drew (Below.refl _ _))
theorem rowG_nil (w : World) : RowG E w none 0 0 [] := ⟨fun _ h => (by cases h), rfl, Nat.le_refl _, Nat.zero_le _, fun h => absurd h (Nat.lt_irrefl _)⟩
/-- Where the element i of the list lies. -/
structure GElem (E : ElT α) (w : World) (A : Option Addr) (n G o i : Nat) (a : α) : Prop where
  ok : E.ok a
  ad : ∃ off, A = some ⟨G, off, none⟩ ∧ o = off + i * E.sz
  lt : i < n
  blk : G < w.heap.size
  rg : w.rangeAt G o (E.enc a)
theorem RowG.elem {w : World} {A : Option Addr} {n cap : Nat} {l : List α} (h : RowG E w A n cap l) (d : α) (i : Nat) (hi : i < n) : ∃ G o, GElem E w A n G o i (l.getD i d) := by
  obtain ⟨G, off, ha, hG, hr⟩ := h.at_ (by omega)
  have hi' : i < l.length := by rw [h.len]; exact hi
  have e : l.getD i d = l[i] := by simp [List.getD, List.getElem?_eq_getElem hi']
  rw [e]
  exact ⟨G, off + i * E.sz, h.ok _ (List.getElem_mem _), ⟨off, ha, rfl⟩, hi, hG, hr i hi'⟩
theorem GElem.below {w w' : World} {A : Option Addr} {n G o i : Nat} {a : α} (h : GElem E w A n G o i a) (hb : Below w.heap.size w w') : GElem E w' A n G o i a :=
  ⟨h.ok, h.ad, h.lt, Nat.lt_of_lt_of_le h.blk hb.size, fun j v hv => (hb.cell (p := ⟨G, o + j, none⟩) h.blk).trans (h.rg j v hv)⟩
theorem sizeOfG (L : E.Laws) (w : World) : (sizeOf E.t).run Try.prog w = .ok E.sz w := by
  obtain ⟨i, hi, _, h1, _⟩ := info_parts L.info
  simp [sizeOf, typeInfo, hi, h1]
theorem zeroG (L : E.Laws) (w : World) : (zeroValue E.t).run Try.prog w = .ok (.agg (E.enc E.z).toArray) w := by
  obtain ⟨i, hi, h0, _, _⟩ := info_parts L.info
  simp [zeroValue, typeInfo, hi, h0]
theorem exec_indexG (L : E.Laws) {o : Oper} {a : Act} {w : World} (x y : Operand) (ho : o.op = .indexAddr E.s x y) (A : Option Addr) (n cap G p i : Nat) (e : α) (z : Int) (hx : a.eval x = .slice A n cap) (hy : a.eval y = .int .i64 z) (hz : z = (i : Int)) {W : World} (h : GElem E W A n G p i e) :
    (execOp a.eval o).run Try.prog w = .ok (.value (.pointer (some ⟨G, p, none⟩))) w := by
  obtain ⟨off, hA, rfl⟩ := h.ad
  have hi := h.lt
  have hs := sizeOfG L w
  have hr : (Instr.indexAt E.s (.slice (some ⟨G, off, none⟩) n cap) (.int .i64 (i : Int))).run Try.prog w = .ok (.pointer (some ⟨G, off + i * E.sz, none⟩)) w := by
    simp only [Instr.indexAt, asIntOf, Sem.run_bind, Sem.run_pure, Result.andThen_ok, run_underlying L.und]
    rw [if_pos ⟨by omega, by omega⟩]
    simp [Addr.add, hs]
  unfold execOp
  simp only [ho, hx, hy, hz, hA, Sem.run_bind, hr, Result.andThen_ok, Sem.run_pure]
theorem wpList_indexG (L : E.Laws) {ops : Array Oper} {rest : List Oper} {op : Oper} {a : Act} {w : World} {Q : Exit → Act → World → Prop} (hgd : op.guard = none) (x y : Operand) (ho : op.op = .indexAddr E.s x y) (A : Option Addr) (n cap G p i : Nat) (e : α) (z : Int) (hx : a.eval x = .slice A n cap) (hy : a.eval y = .int .i64 z) (hz : z = (i : Int)) {W : World} (h : GElem E W A n G p i e)
    (hk : wpList Try.prog ops Q rest (a.put op.dst (.pointer (some ⟨G, p, none⟩))) w) : wpList Try.prog ops Q (op :: rest) a w :=
  wpList_val hgd _ (exec_indexG L x y ho A n cap G p i e z hx hy hz h) hk
theorem quiet_indexG (L : E.Laws) {o : Oper} {a : Act} {W : World} {K : Act → Prop} (x y : Operand) (ho : o.op = .indexAddr E.s x y) (A : Option Addr) (n cap G p i : Nat) (e : α) (z : Int) (hx : a.eval x = .slice A n cap) (hy : a.eval y = .int .i64 z) (hz : z = (i : Int)) {V : World} (h : GElem E V A n G p i e)
    (hk : K (a.put o.dst (.pointer (some ⟨G, p, none⟩)))) : o.quiet Try.prog a (Cls W) K := quiet_val _ (fun _ => exec_indexG L x y ho A n cap G p i e z hx hy hz h) hk
/-- A list that the call owns. -/
structure OwnG (E : ElT α) (w : World) (B : Nat) (v : Value) (l : List α) : Prop where
  ok : ∀ a ∈ l, E.ok a
  row : w.ownsRow B E.t E.sz v l.length (acsG E l)
theorem ownG_nil (w : World) (B : Nat) : OwnG E w B (.slice none 0 0) [] := ⟨fun _ h => (by cases h), World.ownsRow_nil w B E.t E.sz⟩
theorem OwnG.rowG (L : E.Laws) {w : World} {B : Nat} {v : Value} {l : List α} (h : OwnG E w B v l) : ∃ A n cap, v = .slice A n cap ∧ RowG E w A n cap l := by
  rcases h.row.2 with ⟨rfl, h0⟩ | ⟨g, cap, cur, rfl, hb, hg, hn, hc, hs, ht⟩
  · have : l = [] := List.eq_nil_of_length_eq_zero h0
    subst this
    exact ⟨none, 0, 0, rfl, rowG_nil w⟩
  · refine ⟨some ⟨g, 0, none⟩, l.length, cap, rfl, h.ok, rfl, hn, hc, fun _ => ⟨g, 0, rfl, (Array.getElem?_eq_some_iff.1 hg).1, fun i hi j v hv => ?_⟩⟩
    have h1 := acsG_get L h.ok i hi j v hv
    rw [cell_of_row _ g _ cur E.t (0, 0) hg, Nat.zero_add]
    rw [← ht] at h1
    have hlt : i * E.sz + j < l.length * E.sz := by
      have := (List.getElem?_eq_some_iff.1 h1).1
      rw [List.length_take] at this
      omega
    rw [List.getElem?_take_of_lt hlt] at h1
    simpa using h1
theorem OwnG.below {w w' : World} {B : Nat} {v : Value} {l : List α} (h : OwnG E w B v l) (hb : Below w.heap.size w w') : OwnG E w' B v l :=
  ⟨h.ok, h.row.kept (row := none) ⟨hb.os, hb.tape, hb.output, hb.size, fun k hk _ => hb.block k hk⟩ (by cases v.ownBlock <;> simp)⟩
theorem OwnG.drew {w : World} {B : Nat} {v : Value} {l : List α} (h : OwnG E w B v l) : OwnG E w.drew B v l := h.below (below_drew (Below.refl _ _))
theorem OwnG.alloc {w : World} {B : Nat} {v : Value} {l : List α} (h : OwnG E w B v l) (o : Obj) : OwnG E (w.alloc o) B v l := h.below (new_below w o)
theorem OwnG.down {w : World} {B C : Nat} {v : Value} {l : List α} (h : OwnG E w B v l) (hC : C ≤ B) : OwnG E w C v l := by
  refine ⟨h.ok, h.row.1, ?_⟩
  rcases h.row.2 with h0 | ⟨g, cap, cur, e, hb, r⟩
  · exact .inl h0
  · exact .inr ⟨g, cap, cur, e, Nat.le_trans hC hb, r⟩
theorem OwnG.shape {w : World} {B : Nat} {v : Value} {l : List α} (h : OwnG E w B v l) : ∃ A cap, v = .slice A l.length cap := by
  rcases h.row.2 with ⟨rfl, h0⟩ | ⟨g, cap, cur, rfl, _⟩
  · exact ⟨none, 0, by rw [h0]⟩
  · exact ⟨_, _, rfl⟩
theorem OwnG.ge {w : World} {B : Nat} {v : Value} {l : List α} {i : Nat} (h : OwnG E w B v l) (hi : i < B) : v.ownBlock ≠ some i := fun e => by have := (h.row.lt i e).1; omega
theorem OwnG.put {w : World} {B : Nat} {v : Value} {l : List α} {i : Nat} {o : Obj} (h : OwnG E w B v l) (hn : v.ownBlock ≠ some i) : OwnG E (w.putObj i o) B v l :=
  ⟨h.ok, h.row.kept (row := some i) ⟨rfl, rfl, rfl, by simp, fun k _ hn => World.putObj_heap_other (fun e => hn (by rw [e]))⟩ (.inr hn)⟩
theorem OwnG.ned {w : World} {B : Nat} {v : Value} {l : List α} {i : Nat} {d : Option (List Deferred)} (h : OwnG E w B v l) (hb : w.heap[i]? = some (.deferred d)) : v.ownBlock ≠ some i := by
  rcases h.row.2 with ⟨rfl, _⟩ | ⟨g', cap, cur, rfl, _, hg, _⟩
  · simp [Value.ownBlock]
  · intro e
    obtain rfl : g' = i := by simpa [Value.ownBlock] using e
    rw [hg] at hb
    cases hb
theorem OwnG.ne {w : World} {B : Nat} {v : Value} {l : List α} {g t : Nat} {cs : List Value} (h : OwnG E w B v l) (hb : Blk w g t cs) (ht : t ≠ E.t) : v.ownBlock ≠ some g := by
  rcases h.row.2 with ⟨rfl, _⟩ | ⟨g', cap, cur, rfl, _, hg, _⟩
  · simp [Value.ownBlock]
  · intro e
    obtain rfl : g' = g := by simpa [Value.ownBlock] using e
    unfold Blk at hb
    rw [hg] at hb
    simp only [Option.some.injEq, Obj.cells.injEq] at hb
    exact ht hb.2.1.symm
theorem OwnG.only {w w' : World} {B g : Nat} {v : Value} {l : List α} (h : OwnG E w B v l) (ho : Only g w w') (hg : w.heap.size ≤ g ∨ ∀ k, v.ownBlock = some k → k ≠ g) : OwnG E w' B v l :=
  ⟨h.ok, h.row.kept (row := some g) ⟨ho.os, ho.tape, ho.output, ho.size, fun k hk hn => ho.block k hk (fun e => hn (by rw [e]))⟩ (by
    rcases hg with hg | hg
    · cases e : v.ownBlock with
      | none => exact .inl rfl
      | some k => right; intro e2; have := (h.row.lt k e).2; have := Option.some.inj e2; omega
    · cases e : v.ownBlock with
      | none => exact .inl rfl
      | some k => right; intro e2; exact hg k e (Option.some.inj e2))⟩
/-- One is appended. -/
theorem run_appG (L : E.Laws) (w : World) (B : Nat) (v : Value) (l : List α) (A : α) (g : Nat) (ty : TypeId) (hown : OwnG E w B v l) (hA : E.ok A) (hg : Blk w g E.t (E.enc A)) (hn : l.length ≤ 5000) (hB : B ≤ w.heap.size) :
    ∃ D cap w', (Builtin.append_ #[E.s, E.s] ty #[v, .slice (some ⟨g, 0, none⟩) 1 1]).run Try.prog w = .ok (.slice D (l.length + 1) cap) w' ∧ OwnG E w' B (.slice D (l.length + 1) cap) (l ++ [A]) ∧ w.grownBy w' v.ownBlock := by
  obtain ⟨i0, hi, hz0, hz1, hz2⟩ := info_parts L.info
  have hb0 := L.bpos
  have hb1 := L.bmax
  have hp := L.pos
  have hby : (l.length + 1) * E.by_ ≤ 140737488355328 := Nat.le_trans (Nat.mul_le_mul (show l.length + 1 ≤ 5001 by omega) hb1) (by decide)
  obtain ⟨v', w', hr, h1, h2, _⟩ := run_append_own (P := Try.prog) w B E.s ty E.t i0 (.agg (E.enc E.z).toArray) E.sz E.by_ L.und hi hz0 hz1 hz2 (by simp [Value.cells, L.len _ L.zok]) (by omega) v _ _ hown.row ⟨g, 0, none⟩ 1 1 (E.enc A) (by rw [L.len A hA]; omega)
    (fun j u hj => by
      have h := hg.range j u hj
      rw [Nat.zero_add] at h
      unfold Addr.add
      split
      · rename_i h0; rw [h0] at h; exact h
      · simpa using h) (fun u hu => L.ones A u hu) (by unfold maxLen; omega) hby hB
  have own : OwnG E w' B v' (l ++ [A]) := ⟨fun a ha => by
    rcases List.mem_append.1 ha with h | h
    · exact hown.ok a h
    · rw [List.mem_singleton.1 h]; exact hA, by rw [acsG_app, acsG_one, List.length_append, List.length_singleton]; exact h1⟩
  obtain ⟨D, cap, e⟩ := own.shape
  rw [List.length_append, List.length_singleton] at e
  subst e
  exact ⟨D, cap, w', hr, own, h2⟩
theorem wpList_appG (L : E.Laws) {ops : Array Oper} {rest : List Oper} {op : Oper} {a : Act} {w : World} {Q : Exit → Act → World → Prop} (hgd : op.guard = none) (s x : Operand) (ho : op.op = .call { callee := .builtin .append, args := #[s, x], argTypes := #[E.s, E.s] })
    (B : Nat) (v : Value) (l : List α) (A : α) (g : Nat) (hs : a.eval s = v) (hx : a.eval x = .slice (some ⟨g, 0, none⟩) 1 1) (hown : OwnG E w B v l) (hA : E.ok A) (hg : Blk w g E.t (E.enc A)) (hn : l.length ≤ 5000) (hB : B ≤ w.heap.size)
    (h : ∀ D m cap w', Hid (m = l.length + 1) → Hid (OwnG E w' B (.slice D m cap) (l ++ [A])) → Hid (Below B w w') → Hid (w.grownBy w' v.ownBlock) → wpList Try.prog ops Q rest (a.put op.dst (.slice D m cap)) w') : wpList Try.prog ops Q (op :: rest) a w := by
  refine wpList_plain hgd fun K hK => ?_
  obtain ⟨D, cap, w', hr, h1, h2⟩ := run_appG L w B v l A g op.type hown hA hg hn hB
  unfold Oper.wp execOp
  simp only [ho, resolve, invoke, builtin, Sem.run_bind, Sem.run_pure, Result.andThen_ok, List.map_toArray, List.map_cons, List.map_nil, hs, hx, hr]
  exact hK _ _ (h D _ cap w' (Lib.hid rfl) (Lib.hid h1) (Lib.hid ((Below.refl B w).grown h2 hB (fun k hk => (hown.row.lt k hk).1))) (Lib.hid h2))
end
theorem take_getDG {α : Type} (d : α) {l : List α} {j : Nat} (h : j < l.length) : l.take (j + 1) = l.take j ++ [l.getD j d] := by
  rw [List.take_add_one]
  simp [List.getD, List.getElem?_eq_getElem h]

/-! Vectors. -/
theorem fillVv (c0 c1 c2 c3 c4 c5 c6 c7 c8 c9 c10 c11 c12 c13 c14 c15 : Value) : Instr.fill (fun i => some (i * 16, 16)) ((Array.range (1 * 16)).map ((vc vz).toArray[· % (vc vz).toArray.size]!)) [(0, .agg #[c0, c1, c2, c3, c4, c5, c6, c7, c8, c9, c10, c11, c12, c13, c14, c15])] = some #[c0, c1, c2, c3, c4, c5, c6, c7, c8, c9, c10, c11, c12, c13, c14, c15] := by kernel_rfl
theorem fillV (cs : List Value) (h : cs.length = 16) : Instr.fill (fun i => some (i * 16, 16)) ((Array.range (1 * 16)).map ((vc vz).toArray[· % (vc vz).toArray.size]!)) [(0, .agg cs.toArray)] = some cs.toArray := by
  match cs, h with
  | [c0, c1, c2, c3, c4, c5, c6, c7, c8, c9, c10, c11, c12, c13, c14, c15], _ => exact fillVv c0 c1 c2 c3 c4 c5 c6 c7 c8 c9 c10 c11 c12 c13 c14 c15
theorem vc_ones (l : List Int) : ∀ u ∈ vc l, u.oneCell' = true := fun u hu => by
  simp only [vc, List.mem_map] at hu
  obtain ⟨j, _, rfl⟩ := hu
  rfl
end Go.Proofs.Ytgggjhbijnndhaa
