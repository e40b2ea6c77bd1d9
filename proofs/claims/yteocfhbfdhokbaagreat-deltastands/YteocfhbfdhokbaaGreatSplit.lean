/- Appends that say where the new slice lies: of atoms, of rows and of numbers. The contract of holds of package delta: a function value asked about an atom, behind a deferred recover that finds nothing. The contracts of covers of package delta, and of the functions that Diff and peaks hand to Split. The contract of Split of package delta. -/
import Derived.Test.YteocfhbfdhokbaaGreatNorms
import Derived.Test.YteocfhbfdhokbaaGreatIns
import Derived.Maps.AppendAt
import Derived.Test.YteocfhbfdhokbaaGreatRefAll
import Derived.Defers
import Derived.Recover
import Derived.Test.YteocfhbfdhokbaaGreatCollect
import Derived.Test.YteocfhbfdhokbaaGreatMathL
import Derived.WalkMore
namespace Go.Proofs.YteocfhbfdhokbaaGreat
open Go.RowKit

/-- Where a slice lies that an append answers. -/
def Lies (w : World) (v v' : Value) : Prop := v'.ownBlock = v.ownBlock ∨ v'.ownBlock = some w.heap.size
/-- Two slices of the call's own lie apart. -/
def Off (u v : Value) : Prop := u.ownBlock = none ∨ u.ownBlock ≠ v.ownBlock
theorem Off.symm {u v : Value} (h : Off u v) : Off v u := by
  unfold Off at *
  cases hv : v.ownBlock with
  | none => exact .inl rfl
  | some k =>
    rcases h with h | h
    · rw [h]; exact .inr (by simp)
    · rw [hv] at h; exact .inr (Ne.symm h)
theorem OwnR.lt {w : World} {B : Nat} {v : Value} {l : List Am} (h : OwnR w B v l) {k : Nat} (hk : v.ownBlock = some k) : B ≤ k ∧ k < w.heap.size := by
  rcases h.row.2 with ⟨rfl, _⟩ | ⟨g, cap, cur, rfl, hb, hg, _⟩
  · cases hk
  · have e : g = k := by simpa [Value.ownBlock] using hk
    subst e
    exact ⟨hb, (Array.getElem?_eq_some_iff.1 hg).1⟩
theorem Off.lies {w : World} {B : Nat} {u v v' : Value} {l : List Am} (h : Off u v) (hu : OwnR w B u l) (hl : Lies w v v') : Off u v' := by
  rcases hl with e | e
  · unfold Off; rw [e]; exact h
  · cases hk : u.ownBlock with
    | none => exact .inl hk
    | some k => exact .inr (by rw [hk, e]; have := (hu.lt hk).2; intro e9; have := Option.some.inj e9; omega)
theorem OwnR.grown {w w' : World} {B : Nat} {u v : Value} {l : List Am} (h : OwnR w B u l) (hg : w.grownBy w' v.ownBlock) (ho : Off u v) : OwnR w' B u l := ⟨h.ok, h.row.kept hg ho⟩
theorem run_app_at (w : World) (B : Nat) (v : Value) (l : List Am) (A : Am) (g : Nat) (ty : TypeId) (hown : OwnR w B v l) (hA : A.Ok) (hg : Blk w g 46 A.cells) (hn : l.length ≤ 5000) (hB : B ≤ w.heap.size) :
    ∃ D cap w', (Builtin.append_ #[28, 28] ty #[v, .slice (some ⟨g, 0, none⟩) 1 1]).run Tryz.prog w = .ok (.slice D (l.length + 1) cap) w' ∧ OwnR w' B (.slice D (l.length + 1) cap) (l ++ [A]) ∧ w.grownBy w' v.ownBlock ∧ Lies w v (.slice D (l.length + 1) cap) := by
  obtain ⟨i0, hi, hz0, hz1, hz2⟩ := info_parts info46z
  obtain ⟨v', w', hr, h1, h2, _, h4⟩ := run_append_own_at (P := Tryz.prog) w B 28 ty 46 i0 (.agg azero.cells.toArray) 21 40 Tryz.underlying28 hi hz0 hz1 hz2 (by rfl) (by decide) v _ _ hown.row ⟨g, 0, none⟩ 1 1 A.cells (by rw [acells_len hA])
    (fun j u hj => by
      have h := hg.range j u hj
      rw [Nat.zero_add] at h
      unfold Addr.add
      split
      · rename_i h0; rw [h0] at h; exact h
      · simpa using h) (all_list (one32 A)) (by unfold maxLen; omega) (by omega) hB
  have own : OwnR w' B v' (l ++ [A]) := ⟨hown.ok.app (okR_nil.cons hA), by rw [acs_app, acs_one, List.length_append, List.length_singleton]; exact h1⟩
  obtain ⟨D, cap, e⟩ := own.shape
  rw [List.length_append, List.length_singleton] at e
  subst e
  exact ⟨D, cap, w', hr, own, h2, h4⟩
theorem wpList_app_at {ops : Array Oper} {rest : List Oper} {op : Oper} {a : Act} {w : World} {Q : Exit → Act → World → Prop} (hgd : op.guard = none) (s x : Operand) (ho : op.op = .call { callee := .builtin .append, args := #[s, x], argTypes := #[28, 28] })
    (B : Nat) (v : Value) (l : List Am) (A : Am) (g : Nat) (hs : a.eval s = v) (hx : a.eval x = .slice (some ⟨g, 0, none⟩) 1 1) (hown : OwnR w B v l) (hA : A.Ok) (hg : Blk w g 46 A.cells) (hn : l.length ≤ 5000) (hB : B ≤ w.heap.size)
    (h : ∀ D m cap w', Hid (m = l.length + 1) → Hid (OwnR w' B (.slice D m cap) (l ++ [A])) → Hid (Below B w w') → Hid (w.grownBy w' v.ownBlock) → Hid (Lies w v (.slice D m cap)) → wpList Tryz.prog ops Q rest (a.put op.dst (.slice D m cap)) w') : wpList Tryz.prog ops Q (op :: rest) a w := by
  refine wpList_plain hgd fun K hK => ?_
  obtain ⟨D, cap, w', hr, h1, h2, h3⟩ := run_app_at w B v l A g op.type hown hA hg hn hB
  have hb : Below B w w' := ⟨h2.os, h2.tape, h2.output, h2.size, fun k hk => h2.block k (by omega) (fun e => by have := (hown.lt e.symm).1; omega)⟩
  unfold Oper.wp execOp
  simp only [ho, resolve, invoke, builtin, Sem.run_bind, Sem.run_pure, Result.andThen_ok, List.map_toArray, List.map_cons, List.map_nil, hs, hx, hr]
  exact hK _ _ (h D _ cap w' (Lib.hid rfl) (Lib.hid h1) (Lib.hid hb) (Lib.hid h2) (Lib.hid h3))

/-! Rows of rows. -/
theorem RowV.grown {w w' : World} {A : Option Addr} {n cap : Nat} {l : List Am} {o : Option Nat} (h : RowV w A n cap l) (hg : w.grownBy w' o) (hs : 0 < n → ∀ a, A = some a → some a.block ≠ o) : RowV w' A n cap l :=
  ⟨h.ok, h.len, h.le, h.most, fun h0 => by
    obtain ⟨G, off, ha, hG, hr⟩ := h.at_ h0
    refine ⟨G, off, ha, Nat.lt_of_lt_of_le hG hg.size, fun i hi j v hv => ?_⟩
    have e := hg.block G hG (hs h0 _ ha)
    have h1 := hr i hi j v hv
    unfold World.cell? at h1 ⊢
    simp only at h1 ⊢
    rw [e]
    exact h1⟩
structure OwnRs (w : World) (B C : Nat) (v : Value) (ls : List (List Am)) : Prop where
  row : ∃ cs : List Value, w.ownsRow B 28 1 v ls.length cs ∧ ∀ i, i < ls.length → ∃ D m c, cs[i]? = some (.slice D m c) ∧ RowV w D m c (ls.getD i []) ∧ (0 < m → ∀ a, D = some a → some a.block ≠ v.ownBlock ∧ C ≤ a.block)
theorem ownRs_nil (w : World) (B C : Nat) : OwnRs w B C (.slice none 0 0) [] := ⟨[], World.ownsRow_nil w B 28 1, fun _ h => absurd h (Nat.not_lt_zero _)⟩
theorem OwnRs.kept {w w' : World} {B C : Nat} {v : Value} {ls : List (List Am)} {o : Option Nat} (h : OwnRs w B C v ls) (hg : w.grownBy w' o) (h1 : v.ownBlock = none ∨ v.ownBlock ≠ o) (h2 : ∀ i, i < ls.length → ∀ D m c, RowV w D m c (ls.getD i []) → (0 < m → ∀ a, D = some a → some a.block ≠ v.ownBlock ∧ C ≤ a.block) → RowV w' D m c (ls.getD i [])) : OwnRs w' B C v ls := by
  obtain ⟨cs, hc, hr⟩ := h.row
  refine ⟨cs, hc.kept hg h1, fun i hi => ?_⟩
  obtain ⟨D, m, c, e, r, s⟩ := hr i hi
  exact ⟨D, m, c, e, h2 i hi D m c r s, s⟩
theorem OwnRs.below {w w' : World} {B C : Nat} {v : Value} {ls : List (List Am)} (h : OwnRs w B C v ls) (hb : Below w.heap.size w w') : OwnRs w' B C v ls :=
  h.kept (o := none) ⟨hb.os, hb.tape, hb.output, hb.size, fun k hk _ => hb.block k hk⟩ (by cases v.ownBlock <;> simp) (fun _ _ _ _ _ r _ => r.below hb)
theorem RowV.off {w w' : World} {A : Option Addr} {n cap g : Nat} {l : List Am} (h : RowV w A n cap l) (ho : Only g w w') (hs : 0 < n → ∀ a, A = some a → a.block ≠ g) : RowV w' A n cap l :=
  h.grown (o := some g) ⟨ho.os, ho.tape, ho.output, ho.size, fun k hk hn => ho.block k hk (fun e => hn (by rw [e]))⟩ (fun h0 a ha e => hs h0 a ha (Option.some.inj e))
theorem OwnRs.only {w w' : World} {B C g : Nat} {v : Value} {ls : List (List Am)} (h : OwnRs w B C v ls) (ho : Only g w w') (hg : v.ownBlock ≠ some g) (hC : g < C) : OwnRs w' B C v ls :=
  h.kept (o := some g) ⟨ho.os, ho.tape, ho.output, ho.size, fun k hk hn => ho.block k hk (fun e => hn (by rw [e]))⟩ (.inr hg) (fun _ _ _ _ _ r s => r.off ho (fun h0 a ha => by have := (s h0 a ha).2; omega))
theorem OwnRs.put {w : World} {B C i : Nat} {v : Value} {ls : List (List Am)} (h : OwnRs w B C v ls) (o : Obj) (hg : v.ownBlock ≠ some i) (hC : i < C) : OwnRs (w.putObj i o) B C v ls :=
  h.kept (o := some i) ⟨rfl, rfl, rfl, by simp, fun k _ hn => World.putObj_heap_other (fun e => hn (by rw [e]))⟩ (.inr hg) (fun _ _ _ _ _ r s => r.grown (o := some i) ⟨rfl, rfl, rfl, by simp, fun k _ hn => World.putObj_heap_other (fun e => hn (by rw [e]))⟩ (fun h0 a ha e => by have := (s h0 a ha).2; have := Option.some.inj e; omega))
theorem OwnRs.shape {w : World} {B C : Nat} {v : Value} {ls : List (List Am)} (h : OwnRs w B C v ls) : ∃ A cap, v = .slice A ls.length cap := by
  obtain ⟨cs, hc, _⟩ := h.row
  rcases hc.2 with ⟨rfl, h0⟩ | ⟨g, cap, cur, rfl, _⟩
  · exact ⟨none, 0, by rw [h0]⟩
  · exact ⟨_, _, rfl⟩
theorem OwnRs.lt {w : World} {B C : Nat} {v : Value} {ls : List (List Am)} (h : OwnRs w B C v ls) {k : Nat} (hk : v.ownBlock = some k) : B ≤ k ∧ k < w.heap.size := by
  obtain ⟨cs, hc, _⟩ := h.row
  rcases hc.2 with ⟨rfl, _⟩ | ⟨g, cap, cur, rfl, hb, hg, _⟩
  · cases hk
  · have e : g = k := by simpa [Value.ownBlock] using hk
    subst e
    exact ⟨hb, (Array.getElem?_eq_some_iff.1 hg).1⟩
theorem OwnRs.ge {w : World} {B C : Nat} {v : Value} {ls : List (List Am)} {i : Nat} (h : OwnRs w B C v ls) (hi : i < B) : v.ownBlock ≠ some i := fun e => by have := (h.lt e).1; omega
theorem OwnRs.rows {w : World} {B C : Nat} {A : Option Addr} {n cap : Nat} {ls : List (List Am)} (h : OwnRs w B C (.slice A n cap) ls) : RowsV w A n cap ls := by
  obtain ⟨cs, hc, hr⟩ := h.row
  rcases hc.2 with ⟨e, h0⟩ | ⟨g, cap', cur, e, hb, hg, hn, hcm, hs, ht⟩
  · simp only [Value.slice.injEq] at e
    obtain ⟨rfl, rfl, rfl⟩ := e
    exact ⟨h0, Nat.le_refl _, Nat.zero_le _, fun h => absurd h (Nat.lt_irrefl _)⟩
  · simp only [Value.slice.injEq] at e
    obtain ⟨rfl, rfl, rfl⟩ := e
    refine ⟨rfl, hn, hcm, fun _ => ⟨g, 0, rfl, (Array.getElem?_eq_some_iff.1 hg).1, fun i hi => ?_⟩⟩
    obtain ⟨D, m, c, e, r, _⟩ := hr i hi
    refine ⟨D, m, c, ?_, r⟩
    rw [cell_of_row _ g _ cur 28 (0, 0) hg, Nat.zero_add]
    rw [← ht, List.getElem?_take_of_lt (by omega)] at e
    simpa using e
theorem info22z : (Tryz.prog.info? 28).map (fun i => (i.zero, i.size, i.bytes)) = some (some (.slice none 0 0), 1, 24) := by kernel_rfl
theorem run_app_rs (w : World) (B C : Nat) (v : Value) (ls : List (List Am)) (D : Option Addr) (m c : Nat) (l : List Am) (g : Nat) (ty : TypeId) (hown : OwnRs w B C v ls) (hr : RowV w D m c l) (hD : 0 < m → ∀ a, D = some a → some a.block ≠ v.ownBlock ∧ C ≤ a.block) (hg : Blk w g 28 [.slice D m c]) (hn : ls.length ≤ 5000) (hB : B ≤ w.heap.size) :
    ∃ E cap w', (Builtin.append_ #[22, 22] ty #[v, .slice (some ⟨g, 0, none⟩) 1 1]).run Tryz.prog w = .ok (.slice E (ls.length + 1) cap) w' ∧ OwnRs w' B C (.slice E (ls.length + 1) cap) (ls ++ [l]) ∧ w.grownBy w' v.ownBlock ∧ Lies w v (.slice E (ls.length + 1) cap) := by
  obtain ⟨i0, hi, hz0, hz1, hz2⟩ := info_parts info22z
  obtain ⟨cs, hc, hs⟩ := hown.row
  obtain ⟨v', w', he, h1, h2, _, h4⟩ := run_append_own_at (P := Tryz.prog) w B 22 ty 28 i0 (.slice none 0 0) 1 24 Tryz.underlying22 hi hz0 hz1 hz2 (by rfl) (by decide) v _ _ hc ⟨g, 0, none⟩ 1 1 [.slice D m c] (by rfl)
    (fun j u hj => by
      have h := hg.range j u hj
      rw [Nat.zero_add] at h
      unfold Addr.add
      split
      · rename_i h0; rw [h0] at h; exact h
      · simpa using h) (fun u hu => by rw [List.mem_singleton.1 hu]; rfl) (by unfold maxLen; omega) (by omega) hB
  have sep : ∀ {E : Option Addr} {k d : Nat} {r : List Am}, RowV w E k d r → (0 < k → ∀ a, E = some a → some a.block ≠ v.ownBlock ∧ C ≤ a.block) → (0 < k → ∀ a, E = some a → some a.block ≠ v'.ownBlock ∧ C ≤ a.block) := fun {E k d r} hv h9 hk a ha => by
    refine ⟨?_, (h9 hk a ha).2⟩
    rcases h4 with e | e
    · rw [e]; exact (h9 hk a ha).1
    · obtain ⟨G, off, e2, hG, _⟩ := hv.at_ hk
      rw [ha] at e2
      obtain rfl := Option.some.inj e2
      rw [e]
      intro e3
      have := Option.some.inj e3
      simp only at this
      omega
  have hlen : cs.length = ls.length := by have := hc.1; omega
  have own : OwnRs w' B C v' (ls ++ [l]) := by
    refine ⟨cs ++ [.slice D m c], by rw [List.length_append, List.length_singleton]; exact h1, fun i hi => ?_⟩
    rw [List.length_append, List.length_singleton] at hi
    by_cases hlt : i < ls.length
    · obtain ⟨E, k, d, e, r, s⟩ := hs i hlt
      refine ⟨E, k, d, by rw [List.getElem?_append_left (by omega)]; exact e, ?_, sep r s⟩
      rw [List.getD_eq_getElem?_getD, List.getElem?_append_left hlt, ← List.getD_eq_getElem?_getD]
      exact r.grown h2 (fun h a ha => (s h a ha).1)
    · have e1 : i = ls.length := by omega
      subst e1
      refine ⟨D, m, c, by rw [← hlen, List.getElem?_concat_length], ?_, sep hr hD⟩
      rw [List.getD_eq_getElem?_getD, List.getElem?_concat_length, Option.getD_some]
      exact hr.grown h2 (fun h a ha => (hD h a ha).1)
  obtain ⟨E, cap, e⟩ := own.shape
  rw [List.length_append, List.length_singleton] at e
  subst e
  exact ⟨E, cap, w', he, own, h2, h4⟩
theorem wpList_app_rs {ops : Array Oper} {rest : List Oper} {op : Oper} {a : Act} {w : World} {Q : Exit → Act → World → Prop} (hgd : op.guard = none) (s x : Operand) (ho : op.op = .call { callee := .builtin .append, args := #[s, x], argTypes := #[22, 22] })
    (B C : Nat) (v : Value) (ls : List (List Am)) (D : Option Addr) (m c : Nat) (l : List Am) (g : Nat) (hs : a.eval s = v) (hx : a.eval x = .slice (some ⟨g, 0, none⟩) 1 1) (hown : OwnRs w B C v ls) (hr : RowV w D m c l) (hD : 0 < m → ∀ a, D = some a → some a.block ≠ v.ownBlock ∧ C ≤ a.block) (hg : Blk w g 28 [.slice D m c]) (hn : ls.length ≤ 5000) (hB : B ≤ w.heap.size)
    (h : ∀ E k cap w', Hid (k = ls.length + 1) → Hid (OwnRs w' B C (.slice E k cap) (ls ++ [l])) → Hid (Below B w w') → Hid (w.grownBy w' v.ownBlock) → Hid (Lies w v (.slice E k cap)) → wpList Tryz.prog ops Q rest (a.put op.dst (.slice E k cap)) w') : wpList Tryz.prog ops Q (op :: rest) a w := by
  refine wpList_plain hgd fun K hK => ?_
  obtain ⟨E, cap, w', he, h1, h2, h3⟩ := run_app_rs w B C v ls D m c l g op.type hown hr hD hg hn hB
  have hb : Below B w w' := ⟨h2.os, h2.tape, h2.output, h2.size, fun k hk => h2.block k (by omega) (fun e => by have := (hown.lt e.symm).1; omega)⟩
  unfold Oper.wp execOp
  simp only [ho, resolve, invoke, builtin, Sem.run_bind, Sem.run_pure, Result.andThen_ok, List.map_toArray, List.map_cons, List.map_nil, hs, hx, he]
  exact hK _ _ (h E _ cap w' (Lib.hid rfl) (Lib.hid h1) (Lib.hid hb) (Lib.hid h2) (Lib.hid h3))

/-! Rows of numbers. -/
structure OwnI (w : World) (B : Nat) (v : Value) (l : List Nat) : Prop where
  row : w.ownsRow B 3 1 v l.length (l.map fun (n : Nat) => Value.int .i64 (n : Int))
theorem ownI_nil (w : World) (B : Nat) : OwnI w B (.slice none 0 0) [] := ⟨World.ownsRow_nil w B 3 1⟩
theorem OwnI.kept {w w' : World} {B : Nat} {v : Value} {l : List Nat} {o : Option Nat} (h : OwnI w B v l) (hg : w.grownBy w' o) (h1 : v.ownBlock = none ∨ v.ownBlock ≠ o) : OwnI w' B v l := ⟨h.row.kept hg h1⟩
theorem OwnI.below {w w' : World} {B : Nat} {v : Value} {l : List Nat} (h : OwnI w B v l) (hb : Below w.heap.size w w') : OwnI w' B v l :=
  h.kept (o := none) ⟨hb.os, hb.tape, hb.output, hb.size, fun k hk _ => hb.block k hk⟩ (by cases v.ownBlock <;> simp)
theorem OwnI.shape {w : World} {B : Nat} {v : Value} {l : List Nat} (h : OwnI w B v l) : ∃ A cap, v = .slice A l.length cap := by
  rcases h.row.2 with ⟨rfl, h0⟩ | ⟨g, cap, cur, rfl, _⟩
  · exact ⟨none, 0, by rw [h0]⟩
  · exact ⟨_, _, rfl⟩
theorem OwnI.lt {w : World} {B : Nat} {v : Value} {l : List Nat} (h : OwnI w B v l) {k : Nat} (hk : v.ownBlock = some k) : B ≤ k ∧ k < w.heap.size := by
  rcases h.row.2 with ⟨rfl, _⟩ | ⟨g, cap, cur, rfl, hb, hg, _⟩
  · cases hk
  · have e : g = k := by simpa [Value.ownBlock] using hk
    subst e
    exact ⟨hb, (Array.getElem?_eq_some_iff.1 hg).1⟩
theorem info3z : (Tryz.prog.info? 3).map (fun i => (i.zero, i.size, i.bytes)) = some (some (.int .i64 0), 1, 8) := by kernel_rfl
theorem wpList_app_i {ops : Array Oper} {rest : List Oper} {op : Oper} {a : Act} {w : World} {Q : Exit → Act → World → Prop} (hgd : op.guard = none) (s x : Operand) (ho : op.op = .call { callee := .builtin .append, args := #[s, x], argTypes := #[26, 26] })
    (B : Nat) (v : Value) (l : List Nat) (i : Nat) (g : Nat) (hs : a.eval s = v) (hx : a.eval x = .slice (some ⟨g, 0, none⟩) 1 1) (hown : OwnI w B v l) (hg : Blk w g 3 [.int .i64 i]) (hn : l.length ≤ 5000) (hB : B ≤ w.heap.size)
    (h : ∀ E k cap w', Hid (k = l.length + 1) → Hid (OwnI w' B (.slice E k cap) (l ++ [i])) → Hid (Below B w w') → Hid (w.grownBy w' v.ownBlock) → wpList Tryz.prog ops Q rest (a.put op.dst (.slice E k cap)) w') : wpList Tryz.prog ops Q (op :: rest) a w := by
  refine wpList_plain hgd fun K hK => ?_
  obtain ⟨i0, hi, hz0, hz1, hz2⟩ := info_parts info3z
  obtain ⟨v', w', he, h1, h2, _, _⟩ := run_append_own_at (P := Tryz.prog) w B 26 op.type 3 i0 (.int .i64 0) 1 8 Tryz.underlying26 hi hz0 hz1 hz2 (by rfl) (by decide) v _ _ hown.row ⟨g, 0, none⟩ 1 1 [.int .i64 i] (by rfl)
    (fun j u hj => by
      have h := hg.range j u hj
      rw [Nat.zero_add] at h
      unfold Addr.add
      split
      · rename_i h0; rw [h0] at h; exact h
      · simpa using h) (fun u hu => by rw [List.mem_singleton.1 hu]; rfl) (by unfold maxLen; omega) (by omega) hB
  have own : OwnI w' B v' (l ++ [i]) := ⟨by rw [List.length_append, List.length_singleton, List.map_append]; exact h1⟩
  obtain ⟨E, cap, e⟩ := own.shape
  rw [List.length_append, List.length_singleton] at e
  subst e
  have hb : Below B w w' := ⟨h2.os, h2.tape, h2.output, h2.size, fun k hk => h2.block k (by omega) (fun e => by have := (hown.lt e.symm).1; omega)⟩
  unfold Oper.wp execOp
  simp only [ho, resolve, invoke, builtin, Sem.run_bind, Sem.run_pure, Result.andThen_ok, List.map_toArray, List.map_cons, List.map_nil, hs, hx, he]
  exact hK _ _ (h E _ cap w' (Lib.hid rfl) (Lib.hid own) (Lib.hid hb) (Lib.hid h2))
end Go.Proofs.YteocfhbfdhokbaaGreat
namespace Go.Proofs.YteocfhbfdhokbaaGreat
open Go.RowKit

theorem exec_store_bh {o : Oper} {a : Act} {w : World} (x y : Operand) (ho : o.op = .store 4 x y) (g : Nat) (u : Value) (b : Bool) (hx : a.eval x = .pointer (some ⟨g, 0, none⟩)) (hy : a.eval y = .bool b) (hb : Blk w g 4 [u]) :
    (execOp a.eval o).run Tryz.prog w = .ok .skip (w.setCell ⟨g, 0, none⟩ (.bool b)) := by
  have hc := hb.cell (i := 0) rfl
  have hf := hb.frozen 0
  unfold execOp
  simp only [ho, hx, hy]
  simp [go_sem, hc, hf]
theorem wpList_store_bh {ops : Array Oper} {rest : List Oper} {op : Oper} {a : Act} {w : World} {Q : Exit → Act → World → Prop} (hgd : op.guard = none) (x y : Operand) (ho : op.op = .store 4 x y) (g : Nat) (u : Value) (b : Bool) (hx : a.eval x = .pointer (some ⟨g, 0, none⟩)) (hy : a.eval y = .bool b) (hb : Blk w g 4 [u])
    (h : ∀ w', Hid (Blk w' g 4 [.bool b]) → Hid (Only g w w') → wpList Tryz.prog ops Q rest (a.put op.dst undef) w') : wpList Tryz.prog ops Q (op :: rest) a w := by
  refine wpList_plain hgd fun K hK => ?_
  unfold Oper.wp
  rw [exec_store_bh x y ho g u b hx hy hb]
  exact hK _ _ (h _ (Lib.hid (hb.set 0 (.bool b))) (Lib.hid (Only.set g 0 w (.bool b))))
theorem idle_is (p : Addr) (w : World) :
    CallsD Tryz.prog 78 #[.pointer (some p)] .returning w fun e u' w' => e = .returned (.tuple #[]) ∧ u' = .returning ∧ w' = w := by
  have hn : ∀ w : World, (binOp BinOp.neq 20 .nilIface .nilIface).run Tryz.prog w = .ok (.bool false) w := fun _ => by kernel_rfl
  refine callsD_of_wpS Tryz.func78 rfl fun c₀ cs hu => ?_
  apply wpS_seq
  apply wpS_region
  simp [wpOpsS, go_sem, recoverD, hu, Tryz.ntmps78, Exit.thenS, hn]
  refine wpS_cond (t := false) (by simp [Act.eval, Array.replicate]) ?_
  simp only [Bool.false_eq_true, if_false]
  refine wpS_of_wp (wp_skip ?_)
  cases c₀
  simp_all [bodyPostS, results, Tryz.results78]
set_option maxRecDepth 100000 in
set_option maxHeartbeats 4000000 in
theorem holds_is (g : Nat) (caps : Array Value) (eg : ∀ args w, (callFunc g args).run Tryz.prog w = .ok (.enter g args) w) (x : Am) (b : Bool) (w : World) (hx : x.Ok)
    (hc : ∀ W, Below w.heap.size w W → Calls Tryz.prog g (#[.agg x.cells.toArray] ++ caps) W fun e W' => e = .returned (.bool b) ∧ Below W.heap.size W W') :
    Calls Tryz.prog 63 #[.func (.func g) #[] caps, .agg x.cells.toArray] w fun e w' => e = .returned (.bool b) ∧ Below w.heap.size w w' := by
  have hmf : ∀ (fn : Fn) (first cap : Array Value) (w : World), (Instr.makeFunc fn first cap).run Tryz.prog w = .ok (.func fn first cap) w := fun _ _ _ _ => rfl
  have K1 := Lib.hid ((blk_alloc w 46 x.cells).alloc (.cells #[.bool false] 4))
  have K2 := Lib.hid (blk2 w (.cells x.cells.toArray 46) 4 [.bool false])
  have QB := Lib.hid (step_ (new_below w (.cells x.cells.toArray 46)) (new_below _ (.cells #[.bool false] 4)))
  have HX := Lib.hid hx
  have HC := Lib.hid hc
  clear hx hc
  go_enter_defers Tryz.func63, Tryz.ntmps63
  go_wp2_with (first
    | refine wpList_load_amx rfl _ rfl w.heap.size 0 x rfl K1.out.range HX.out ?_)
  refine (HC.out _ QB.out).mono ?_
  rintro e w1 ⟨rfl, b1⟩
  have N1 := Lib.hid (K2.out.below b1)
  have B1 := Lib.hid (step_ QB.out b1)
  clear b1
  have SZ := Lib.hid N1.out.lt
  go_wp2_with (refine wpList_store_bh rfl _ _ rfl (w.heap.size + 1) _ b rfl rfl N1.out ?_; intro w2 N2 O2)
  refine leaves_cons (f := 78) (args := #[.pointer (some ⟨w.heap.size + 1, 0, none⟩)]) (by simp) (by simp [go_sem]) ?_
  refine (idle_is ⟨w.heap.size + 1, 0, none⟩ _).mono ?_
  rintro e u' w'' ⟨rfl, rfl, rfl⟩
  have hc := N2.out.cell (i := 0) rfl
  simp [Leaves, settle, results, Tryz.results63, go_sem, hc]
  exact B1.out.trans (O2.out.below (by omega) B1.out.size)
end Go.Proofs.YteocfhbfdhokbaaGreat
namespace Go.Proofs.YteocfhbfdhokbaaGreat
open Go.RowKit

set_option maxRecDepth 100000 in
set_option maxHeartbeats 4000000 in
theorem covers_is (b : Nat) (f : Ky → Option Vl) (k : Ky) (v : Vl) (r : Bool) (w : World) (h : MapF w b 1000 f) (hk : k.Ok) (hv : v.Ok) (hr : Hid (over ((f k).getD vzero) v = r)) :
    Calls Tryz.prog 44 #[.map (some b), .agg k.cells.toArray, .agg v.cells.toArray] w fun e w' => e = .returned (.bool r) ∧ Below w.heap.size w w' := by
  have K1 := Lib.hid ((blk_alloc w 41 k.cells).alloc (.cells v.cells.toArray 44))
  have K2 := Lib.hid (blk2 w (.cells k.cells.toArray 41) 44 v.cells)
  have QB := Lib.hid (step_ (new_below w (.cells k.cells.toArray 41)) (new_below _ (.cells v.cells.toArray 44)))
  have HM := Lib.hid (h.below QB.out)
  have HK := Lib.hid hk
  have HV := Lib.hid hv
  clear h hk hv
  go_enter Tryz.func44, Tryz.ntmps44
  go_wp2_with fail
  obtain ⟨w1, hw1⟩ : ∃ w1, (w.alloc (.cells k.cells.toArray 41)).alloc (.cells v.cells.toArray 44) = w1 := ⟨_, rfl⟩
  rw [hw1] at K1 K2 QB HM ⊢
  clear hw1
  have S1 := Lib.hid (show Below w.heap.size w w1.drew ∧ Blk w1.drew w.heap.size 41 k.cells ∧ Blk w1.drew (w.heap.size + 1) 44 v.cells from ⟨below_drew QB.out, K1.out.drew, K2.out.drew⟩)
  have M1 := Lib.hid (HM.out.below (below_drew (Below.refl _ _)))
  refine wp_region_noPanic ?_
  refine wp_region_held_drew (S := fun W => Below w.heap.size w W ∧ Blk W w.heap.size 41 k.cells ∧ Blk W (w.heap.size + 1) 44 v.cells) (by kernel_rfl) S1.out (fun _ => ?_)
  refine wpAnyH_take (i := 0) (oi := { dst := some 7, op := Go.Op.move (Go.Operand.tmp 0), type := 57, pos := _, after := #[], guard := none }) (v := ?_) rfl (by kernel_rfl) (by kernel_rfl) (by kernel_rfl) (fun _ _ _ h => h) (Or.inl ⟨by rfl, ?_⟩) S1.out ?_
  rotate_left
  · intro W hW; (go_simp; try with_reducible rfl)
  try simp only [Act.put, List.setIfInBounds_toArray, List.set_cons_zero, List.set_cons_succ]
  refine wpAnyH_take (i := 1) (oi := { dst := some 8, op := Go.Op.load 41 (Go.Operand.tmp 4), type := 41, pos := _, after := #[], guard := none }) (v := .agg k.cells.toArray) rfl (by kernel_rfl) (by kernel_rfl) (by kernel_rfl) (fun _ _ _ h => h) (yieldsIf_load_mid (by rfl) 41 (.tmp 4) rfl w.heap.size 0 rfl k.cells _ (fun W hW => hW.2.1.range) Tryz.underlying41 rfl (size27 HK.out.ml)) S1.out ?_
  try simp only [Act.put, List.setIfInBounds_toArray, List.set_cons_zero, List.set_cons_succ]
  refine wpAnyH_take (i := 3) (oi := { dst := some 10, op := Go.Op.load 44 (Go.Operand.tmp 5), type := 44, pos := _, after := #[], guard := none }) (v := .agg v.cells.toArray) rfl (by kernel_rfl) (by kernel_rfl) (by kernel_rfl) (fun _ _ _ h => h) (yieldsIf_load_mid (by rfl) 44 (.tmp 5) rfl (w.heap.size + 1) 0 rfl v.cells _ (fun W hW => hW.2.2.range) Tryz.underlying44 rfl (size30 HV.out.tl)) S1.out ?_
  try simp only [Act.put, List.setIfInBounds_toArray, List.set_cons_zero, List.set_cons_succ]
  refine wpAnyH_ready (rs := [2]) (by kernel_rfl) (by simp) ?_
  refine ready_lookup (o := { dst := some 9, op := Go.Op.lookup 57 (Go.Operand.tmp 7) (Go.Operand.tmp 8) false, type := 44, pos := _, after := #[{ on := 0, ground := Go.Ground.data }, { on := 1, ground := Go.Ground.data }], guard := none }) rfl rfl _ _ rfl b _ _ k rfl rfl M1.out HK.out ⟨S1.out, ?_⟩ AllReadyH.nil
  try simp only [Act.put, List.setIfInBounds_toArray, List.set_cons_zero, List.set_cons_succ]
  refine wpAnyH_ready (rs := [4]) (by kernel_rfl) (by simp) ?_
  refine AllReadyH.cons (o := { dst := some 11, op := Go.Op.call { callee := Go.Callee.value (Go.Operand.func 60), args := #[Go.Operand.tmp 9, Go.Operand.tmp 10], argTypes := #[44, 44] }, type := 4, pos := _, after := #[{ on := 2, ground := Go.Ground.data }, { on := 3, ground := Go.Ground.data }], guard := none }) rfl (fun K hK => ?_) AllReadyH.nil
  go_simp
  refine (over_is ((f k).getD vzero) v r _ (getD_ok (M1.out.ok.o k)) HV.out hr).mono ?_
  rintro e w4 ⟨rfl, b4⟩
  have S4 := Lib.hid (show Below w.heap.size w w4 ∧ Blk w4 w.heap.size 41 k.cells ∧ Blk w4 (w.heap.size + 1) 44 v.cells from ⟨step_ S1.out.1 b4, S1.out.2.1.below b4, S1.out.2.2.below b4⟩)
  clear b4
  go_wp2_with fail
  refine hK.out _ _ ?_ (fun _ => ?_)
  · exact S4.out
  clear hK K
  try simp only [Act.put, List.setIfInBounds_toArray, List.set_cons_zero, List.set_cons_succ]
  refine wpAnyH_take (i := 5) (oi := { dst := some 6, op := Go.Op.assign (Go.Operand.tmp 11), type := 4, pos := _, after := #[{ on := 4, ground := Go.Ground.data }, { on := 4, ground := Go.Ground.chain }, { on := 0, ground := Go.Ground.phase }, { on := 1, ground := Go.Ground.phase }, { on := 2, ground := Go.Ground.phase }, { on := 3, ground := Go.Ground.phase }, { on := 4, ground := Go.Ground.phase }], guard := none }) (v := ?_) rfl (by kernel_rfl) (by kernel_rfl) (by kernel_rfl) (fun _ _ _ h => h) (Or.inl ⟨by rfl, ?_⟩) S4.out ?_
  rotate_left
  · intro W hW; (go_simp; try with_reducible rfl)
  try simp only [Act.put, List.setIfInBounds_toArray, List.set_cons_zero, List.set_cons_succ]
  refine wpAnyH_done (by kernel_rfl) ?_ _
  refine NoPanic.normal ?_
  go_wp2_with fail
  go_ret
  exact ⟨rfl, S4.out.1⟩
set_option maxRecDepth 100000 in
set_option maxHeartbeats 4000000 in
theorem lacks_is (g b : Nat) (f : Ky → Option Vl) (x : Am) (w : World) (h : MapF w b 1000 f) (hg : Blk w g 57 [.map (some b)]) (hx : x.Ok) :
    Calls Tryz.prog 43 #[.agg x.cells.toArray, .pointer (some ⟨g, 0, none⟩)] w fun e w' => e = .returned (.bool (!cov f x)) ∧ Below w.heap.size w w' := by
  have K1 := Lib.hid (blk_alloc w 46 x.cells)
  have QB := Lib.hid (new_below w (.cells x.cells.toArray 46))
  have HM := Lib.hid (h.below QB.out)
  have c0 := (hg.below QB.out).cell (i := 0) rfl
  have HX := Lib.hid hx
  obtain ⟨r, hr⟩ : ∃ r, cov f x = r := ⟨_, rfl⟩
  rw [hr]
  have HR := Lib.hid hr
  clear h hg hx hr
  go_enter Tryz.func43, Tryz.ntmps43
  go_wp2_with (first
    | refine wpList_load_ky rfl _ rfl w.heap.size 0 x.k rfl K1.out.ak HX.out.k.ml ?_
    | refine wpList_load_vl rfl _ rfl w.heap.size 12 x.v rfl (K1.out.av HX.out) HX.out.v.tl ?_)
  refine (covers_is b f x.k x.v r _ HM.out HX.out.k HX.out.v HR).mono ?_
  rintro e w1 ⟨rfl, b1⟩
  have B1 := Lib.hid b1
  clear b1
  go_wp2_with fail
  go_ret
  exact ⟨rfl, step_ QB.out B1.out⟩
set_option maxRecDepth 100000 in
set_option maxHeartbeats 4000000 in
theorem tops_is (g b : Nat) (f : Ky → Option Vl) (x : Am) (w : World) (h : MapF w b 1000 f) (hg : Blk w g 57 [.map (some b)]) (hx : x.Ok) :
    Calls Tryz.prog 48 #[.agg x.cells.toArray, .pointer (some ⟨g, 0, none⟩)] w fun e w' => e = .returned (.bool (isTop f x)) ∧ Below w.heap.size w w' := by
  have K1 := Lib.hid (blk_alloc w 46 x.cells)
  have QB := Lib.hid (new_below w (.cells x.cells.toArray 46))
  have HM := Lib.hid (h.below QB.out)
  have HG := Lib.hid (hg.below QB.out)
  have HX := Lib.hid hx
  obtain ⟨r, hr⟩ : ∃ r, isTop f x = r := ⟨_, rfl⟩
  rw [hr]
  have HR := Lib.hid hr
  clear h hg hx hr
  go_enter Tryz.func48, Tryz.ntmps48
  go_wp2_with fail
  obtain ⟨w1, hw1⟩ : ∃ w1, w.alloc (.cells x.cells.toArray 46) = w1 := ⟨_, rfl⟩
  rw [hw1] at K1 QB HM HG ⊢
  clear hw1
  have S1 := Lib.hid (show Below w.heap.size w w1.drew ∧ Blk w1.drew w.heap.size 46 x.cells ∧ Blk w1.drew g 57 [.map (some b)] from ⟨below_drew QB.out, K1.out.drew, HG.out.drew⟩)
  have M1 := Lib.hid (HM.out.below (below_drew (Below.refl _ _)))
  refine wp_region_noPanic ?_
  refine wp_region_held_drew (S := fun W => Below w.heap.size w W ∧ Blk W w.heap.size 46 x.cells ∧ Blk W g 57 [.map (some b)]) (by kernel_rfl) S1.out (fun _ => ?_)
  refine wpAnyH_take (i := 0) (oi := { dst := some 4, op := Go.Op.load 57 (Go.Operand.tmp 1), type := 57, pos := _, after := #[], guard := none }) (v := ?_) rfl (by kernel_rfl) (by kernel_rfl) (by kernel_rfl) (fun _ _ _ h => h) (Or.inl ⟨by rfl, ?_⟩) S1.out ?_
  rotate_left
  · intro W hW; have c0 := hW.2.2.cell (i := 0) rfl; (go_simp; try with_reducible rfl)
  try simp only [Act.put, List.setIfInBounds_toArray, List.set_cons_zero, List.set_cons_succ]
  refine wpAnyH_take (i := 1) (oi := { dst := some 5, op := Go.Op.fieldAddr 46 (Go.Operand.tmp 2) 0, type := 0, pos := _, after := #[], guard := none }) (v := ?_) rfl (by kernel_rfl) (by kernel_rfl) (by kernel_rfl) (fun _ _ _ h => h) (Or.inl ⟨by rfl, ?_⟩) S1.out ?_
  rotate_left
  · intro W hW; (go_simp; try with_reducible rfl)
  try simp only [Act.put, List.setIfInBounds_toArray, List.set_cons_zero, List.set_cons_succ]
  refine wpAnyH_take (i := 2) (oi := { dst := some 6, op := Go.Op.load 41 (Go.Operand.tmp 5), type := 41, pos := _, after := #[{ on := 1, ground := Go.Ground.data }], guard := none }) (v := .agg x.k.cells.toArray) rfl (by kernel_rfl) (by kernel_rfl) (by kernel_rfl) (fun _ _ _ h => h) (yieldsIf_load_mid (by rfl) 41 (.tmp 5) rfl w.heap.size 0 rfl x.k.cells _ (fun W hW => hW.2.1.ak) Tryz.underlying41 rfl (size27 HX.out.k.ml)) S1.out ?_
  try simp only [Act.put, List.setIfInBounds_toArray, List.set_cons_zero, List.set_cons_succ]
  refine wpAnyH_take (i := 4) (oi := { dst := some 8, op := Go.Op.fieldAddr 46 (Go.Operand.tmp 2) 1, type := 0, pos := _, after := #[], guard := none }) (v := ?_) rfl (by kernel_rfl) (by kernel_rfl) (by kernel_rfl) (fun _ _ _ h => h) (Or.inl ⟨by rfl, ?_⟩) S1.out ?_
  rotate_left
  · intro W hW; (go_simp; try with_reducible rfl)
  try simp only [Act.put, List.setIfInBounds_toArray, List.set_cons_zero, List.set_cons_succ]
  refine wpAnyH_take (i := 5) (oi := { dst := some 9, op := Go.Op.load 44 (Go.Operand.tmp 8), type := 44, pos := _, after := #[{ on := 4, ground := Go.Ground.data }], guard := none }) (v := .agg x.v.cells.toArray) rfl (by kernel_rfl) (by kernel_rfl) (by kernel_rfl) (fun _ _ _ h => h) (yieldsIf_load_mid (by rfl) 44 (.tmp 8) rfl w.heap.size 12 rfl x.v.cells _ (fun W hW => hW.2.1.av HX.out) Tryz.underlying44 rfl (size30 HX.out.v.tl)) S1.out ?_
  try simp only [Act.put, List.setIfInBounds_toArray, List.set_cons_zero, List.set_cons_succ]
  refine wpAnyH_ready (rs := [3]) (by kernel_rfl) (by simp) ?_
  refine ready_lookup (o := { dst := some 7, op := Go.Op.lookup 57 (Go.Operand.tmp 4) (Go.Operand.tmp 6) false, type := 44, pos := _, after := #[{ on := 0, ground := Go.Ground.data }, { on := 2, ground := Go.Ground.data }], guard := none }) rfl rfl _ _ rfl b _ _ x.k rfl rfl M1.out HX.out.k ⟨S1.out, ?_⟩ AllReadyH.nil
  try simp only [Act.put, List.setIfInBounds_toArray, List.set_cons_zero, List.set_cons_succ]
  refine wpAnyH_take (i := 6) (oi := { dst := some 10, op := Go.Op.binOp Go.BinOp.eql 44 (Go.Operand.tmp 7) (Go.Operand.tmp 9) 44, type := 4, pos := _, after := #[{ on := 3, ground := Go.Ground.data }, { on := 5, ground := Go.Ground.data }], guard := none }) (v := .bool r) rfl (by kernel_rfl) (by kernel_rfl) (by kernel_rfl) (fun _ _ _ h => h) (Or.inl ⟨by rfl, fun W hW => (exec_eq_vl _ _ _ rfl ((f x.k).getD vzero) x.v rfl rfl (getD_ok (M1.out.ok.o x.k)).tl HX.out.v.tl).trans (by rw [show decide ((f x.k).getD vzero = x.v) = r from HR.out])⟩) S1.out ?_
  try simp only [Act.put, List.setIfInBounds_toArray, List.set_cons_zero, List.set_cons_succ]
  refine wpAnyH_take (i := 7) (oi := { dst := some 3, op := Go.Op.assign (Go.Operand.tmp 10), type := 4, pos := _, after := #[{ on := 6, ground := Go.Ground.data }, { on := 0, ground := Go.Ground.phase }, { on := 1, ground := Go.Ground.phase }, { on := 2, ground := Go.Ground.phase }, { on := 3, ground := Go.Ground.phase }, { on := 4, ground := Go.Ground.phase }, { on := 5, ground := Go.Ground.phase }, { on := 6, ground := Go.Ground.phase }], guard := none }) (v := ?_) rfl (by kernel_rfl) (by kernel_rfl) (by kernel_rfl) (fun _ _ _ h => h) (Or.inl ⟨by rfl, ?_⟩) S1.out ?_
  rotate_left
  · intro W hW; (go_simp; try with_reducible rfl)
  try simp only [Act.put, List.setIfInBounds_toArray, List.set_cons_zero, List.set_cons_succ]
  refine wpAnyH_done (by kernel_rfl) ?_ _
  refine NoPanic.normal ?_
  go_wp2_with fail
  go_ret
  exact ⟨rfl, S1.out.1⟩
end Go.Proofs.YteocfhbfdhokbaaGreat
namespace Go.Proofs.YteocfhbfdhokbaaGreat
open Go.RowKit

/-- The call answers two rows, apart from what was there. -/
def Gives2 (w : World) (l1 l2 : List Am) (e : Ending) (w' : World) : Prop := (∃ A n c B m d, e = .returned (.tuple #[.slice A n c, .slice B m d]) ∧ RowV w' A n c l1 ∧ RowV w' B m d l2 ∧ (∀ a, A = some a → w.heap.size ≤ a.block) ∧ (∀ a, B = some a → w.heap.size ≤ a.block)) ∧ Below w.heap.size w w'
theorem OwnR.view {w : World} {B : Nat} {v : Value} {l : List Am} (h : OwnR w B v l) : ∃ A n c, v = .slice A n c ∧ RowV w A n c l ∧ ∀ a, A = some a → B ≤ a.block := by
  obtain ⟨A, n, c, rfl, hr⟩ := h.rowAt
  refine ⟨A, n, c, rfl, hr, fun a ha => ?_⟩
  rcases h.row.2 with ⟨e, _⟩ | ⟨g, cap, cur, e, hb, _⟩
  · simp only [Value.slice.injEq] at e; rw [e.1] at ha; cases ha
  · simp only [Value.slice.injEq] at e; rw [e.1] at ha; obtain rfl := Option.some.inj ha; exact hb
theorem filter_yes {s : List Am} {p : Am → Bool} {x : Am} (h : p x = true) : (s ++ [x]).filter p = s.filter p ++ [x] := by rw [List.filter_append, List.filter_cons_of_pos h]; rfl
theorem filter_no {s : List Am} {p : Am → Bool} {x : Am} (h : p x = false) : (s ++ [x]).filter p = s.filter p := by rw [List.filter_append, List.filter_cons_of_neg (by rw [h]; decide)]; simp
theorem norm_len' (l : List Am) : (norm l).length ≤ l.length := norm_len l
set_option maxRecDepth 100000 in
set_option maxHeartbeats 4000000 in
theorem split_is (g : Nat) (caps : Array Value) (eg : ∀ args w, (callFunc g args).run Tryz.prog w = .ok (.enter g args) w) (p : Am → Bool) (A : Option Addr) (n cap : Nat) (l : List Am) (w : World) (h : RowV w A n cap l) (hn : n ≤ 600)
    (hc : ∀ x W, x.Ok → Below w.heap.size w W → Calls Tryz.prog g (#[.agg x.cells.toArray] ++ caps) W fun e W' => e = .returned (.bool (p x)) ∧ Below W.heap.size W W') :
    Calls Tryz.prog 42 #[.slice A n cap, .func (.func g) #[] caps] w (Gives2 w ((norm l).filter p) ((norm l).filter fun x => !p x)) := by
  have hz := zero32
  have H := Lib.hid h
  have HC := Lib.hid hc
  clear h hc
  obtain ⟨s, hs⟩ : ∃ s, norm l = s := ⟨_, rfl⟩
  rw [hs]
  have HS := Lib.hid hs
  clear hs
  go_enter Tryz.func42, Tryz.ntmps42
  go_wp2_with fail
  go_step3
  go_wp2_with fail
  go_step3
  go_wp2_with fail
  refine (norm_is A n cap l _ H.out hn).mono ?_
  rintro e w1 ⟨⟨D1, m1, c1, rfl, r1⟩, b1⟩
  have R1 := Lib.hid r1
  have BW := Lib.hid b1
  have hm1 : m1 ≤ 600 := by have := norm_len' l; rw [r1.len, H.out.len] at this; omega
  rw [HS.out] at R1
  clear r1 b1 HS
  go_wp2_with fail
  go_loopw [6, 7, 13] (fun u v i wr => ∃ j : Nat, j ≤ m1 ∧ i = .int .i64 j ∧ OwnR wr w1.heap.size u ((s.take j).filter p) ∧ OwnR wr w1.heap.size v ((s.take j).filter fun x => !p x) ∧ Off u v ∧ Below w1.heap.size w1 wr) (fun _ _ i _ => m1 - (intOf i).toNat)
  case atStart => exact ⟨0, Nat.zero_le _, rfl, ownR_nil _ _, ownR_nil _ _, .inl rfl, Below.refl _ _⟩
  case round =>
    obtain ⟨j, hj, rfl, hu, hv, ho, hb⟩ := hrel
    have U := Lib.hid hu
    have V := Lib.hid hv
    have OF := Lib.hid ho
    have BB := Lib.hid hb
    clear hu hv ho hb
    by_cases hlt : j < m1
    · obtain ⟨G, p0, hE⟩ := (R1.out.below BB.out).elem j hlt
      have E := Lib.hid hE
      have T := Lib.hid (take_getD (l := s) (j := j) (by have := R1.out.len; omega))
      obtain ⟨x, hx⟩ : ∃ x, s.getD j azero = x := ⟨_, rfl⟩
      rw [hx] at E T
      clear hE hx
      have UL := Lib.hid (show ((s.take j).filter p).length ≤ 5000 from Nat.le_trans (List.length_filter_le ..) (by rw [List.length_take]; omega))
      have VL := Lib.hid (show ((s.take j).filter fun x => !p x).length ≤ 5000 from Nat.le_trans (List.length_filter_le ..) (by rw [List.length_take]; omega))
      have Z := Lib.hid (blk_alloc wr 46 azero.cells)
      cases hp : p x with
      | true =>
        have HP := Lib.hid hp
        have S1 := Lib.hid (show (s.take (j + 1)).filter p = (s.take j).filter p ++ [x] by rw [T.out, filter_yes hp])
        have S2 := Lib.hid (show ((s.take (j + 1)).filter fun x => !p x) = (s.take j).filter fun x => !p x by rw [T.out, filter_no (by simp [hp])])
        clear hp
        go_wp2_with (first
          | go_skip
          | refine wpList_index rfl _ _ rfl D1 m1 c1 G p0 j x _ rfl rfl (by first | rfl | omega) E.out ?_
          | refine wpList_load_amx rfl _ rfl G p0 x rfl E.out.rg E.out.ok ?_
          | (refine wpList_store_am rfl _ _ rfl wr.heap.size azero x rfl rfl Z.out azero_ok E.out.ok ?_; intro w2 N2 O2; have B2 := Lib.hid (box_below O2.out))
          | refine wpList_load_am rfl _ rfl wr.heap.size x rfl N2.out E.out.ok ?_)
        refine (holds_is g caps eg x true _ E.out.ok (fun W hW => by have h9 := HC.out x W E.out.ok ((step_ BW.out (step_ BB.out B2.out)).trans (hW.mono (step_ BW.out (step_ BB.out B2.out)).size)); rw [HP.out] at h9; exact h9)).mono ?_
        rintro e w3 ⟨rfl, b3⟩
        have B3 := Lib.hid b3
        have N3 := Lib.hid (N2.out.below b3)
        clear b3
        go_wp2_with (first
          | go_skip
          | refine wpList_load_am rfl _ rfl wr.heap.size x rfl N3.out E.out.ok ?_
          | (refine wpList_one46 rfl _ rfl x rfl E.out.ok ?_; intro g4 w4 e4 N4 B4)
          | (refine wpList_app_at rfl _ _ rfl w1.heap.size _ ((s.take j).filter p) x g4 rfl rfl (U.out.below (step_ (step_ B2.out B3.out) B4.out)) E.out.ok N4.out UL.out (Nat.le_trans BB.out.size (step_ (step_ B2.out B3.out) B4.out).size) ?_; intro D5 m5 c5 w5 e5 O5 B5 G5 L5))
        have Q4 := Lib.hid (step_ (step_ B2.out B3.out) B4.out)
        go_roundw
        case rel => exact ⟨j + 1, by omega, by go_num, by rw [S1.out]; exact O5.out, by rw [S2.out]; exact (V.out.below Q4.out).grown G5.out OF.out.symm, (Off.lies OF.out.symm (V.out.below Q4.out) L5.out).symm, (BB.out.trans (Q4.out.mono BB.out.size)).trans B5.out⟩
        case measure => simp [intOf]; omega
      | false =>
        have HP := Lib.hid hp
        have S1 := Lib.hid (show (s.take (j + 1)).filter p = (s.take j).filter p by rw [T.out, filter_no hp])
        have S2 := Lib.hid (show ((s.take (j + 1)).filter fun x => !p x) = ((s.take j).filter fun x => !p x) ++ [x] by rw [T.out, filter_yes (by simp [hp])])
        clear hp
        go_wp2_with (first
          | go_skip
          | refine wpList_index rfl _ _ rfl D1 m1 c1 G p0 j x _ rfl rfl (by first | rfl | omega) E.out ?_
          | refine wpList_load_amx rfl _ rfl G p0 x rfl E.out.rg E.out.ok ?_
          | (refine wpList_store_am rfl _ _ rfl wr.heap.size azero x rfl rfl Z.out azero_ok E.out.ok ?_; intro w2 N2 O2; have B2 := Lib.hid (box_below O2.out))
          | refine wpList_load_am rfl _ rfl wr.heap.size x rfl N2.out E.out.ok ?_)
        refine (holds_is g caps eg x false _ E.out.ok (fun W hW => by have h9 := HC.out x W E.out.ok ((step_ BW.out (step_ BB.out B2.out)).trans (hW.mono (step_ BW.out (step_ BB.out B2.out)).size)); rw [HP.out] at h9; exact h9)).mono ?_
        rintro e w3 ⟨rfl, b3⟩
        have B3 := Lib.hid b3
        have N3 := Lib.hid (N2.out.below b3)
        clear b3
        go_wp2_with (first
          | go_skip
          | refine wpList_load_am rfl _ rfl wr.heap.size x rfl N3.out E.out.ok ?_
          | (refine wpList_one46 rfl _ rfl x rfl E.out.ok ?_; intro g4 w4 e4 N4 B4)
          | (refine wpList_app_at rfl _ _ rfl w1.heap.size _ ((s.take j).filter fun x => !p x) x g4 rfl rfl (V.out.below (step_ (step_ B2.out B3.out) B4.out)) E.out.ok N4.out VL.out (Nat.le_trans BB.out.size (step_ (step_ B2.out B3.out) B4.out).size) ?_; intro D5 m5 c5 w5 e5 O5 B5 G5 L5))
        have Q4 := Lib.hid (step_ (step_ B2.out B3.out) B4.out)
        go_roundw
        case rel => exact ⟨j + 1, by omega, by go_num, by rw [S1.out]; exact (U.out.below Q4.out).grown G5.out OF.out, by rw [S2.out]; exact O5.out, Off.lies OF.out (U.out.below Q4.out) L5.out, (BB.out.trans (Q4.out.mono BB.out.size)).trans B5.out⟩
        case measure => simp [intOf]; omega
    · obtain rfl : j = m1 := by omega
      have HS := Lib.hid (show s.take j = s from List.take_of_length_le (by have := R1.out.len; omega))
      go_wp2_with fail
      refine bodyPost_ret (results_tmp2 rfl _ _ _) rfl ?_
      rw [HS.out] at U V
      obtain ⟨X, nx, cx, rfl, x1, x2⟩ := U.out.view
      obtain ⟨Y, ny, cy, rfl, y1, y2⟩ := V.out.view
      exact ⟨⟨X, nx, cx, Y, ny, cy, rfl, x1, y1, fun a h => Nat.le_trans BW.out.size (x2 a h), fun a h => Nat.le_trans BW.out.size (y2 a h)⟩, BW.out.trans (BB.out.mono BW.out.size)⟩
end Go.Proofs.YteocfhbfdhokbaaGreat
