/- Appends that say where the new slice lies: of atoms, of rows and of numbers. The contract of holds of package delta: a function value asked about an atom, behind a deferred recover that finds nothing. The contracts of covers of package delta, and of the functions that Diff and peaks hand to Split. The contract of Split of package delta. -/
import Derived.Test.YtihkncnhkljgpaaNorms
import Derived.Test.YtihkncnhkljgpaaLeq
import Derived.Test.YtihkncnhkljgpaaRefAll
import Derived.Test.YtihkncnhkljgpaaCollect
import Derived.Test.YtihkncnhkljgpaaMathL
import Derived.Maps.AppendAt
import Derived.Defers
import Derived.Recover
import Derived.WalkMore
namespace Go.Proofs.Ytihkncnhkljgpaa
open Go.RowKit

/-- Where a slice lies that an append answers. -/
def Lies (w : World) (v v' : Value) : Prop := v'.ownBlock = v.ownBlock ∨ v'.ownBlock = some w.heap.size
/-- Two slices of the call's own lie apart. -/
def Off (u v : Value) : Prop := u.ownBlock = none ∨ u.ownBlock ≠ v.ownBlock
theorem Off.symm {u v : Value} (h : Off u v) : Off v u := by
  unfold Off at *
  cases hv : v.ownBlock with
  | none => exact .inl rfl
  | some k =>
    rcases h with h | h
    · rw [h]; exact .inr (by simp)
    · rw [hv] at h; exact .inr (Ne.symm h)
theorem OwnR.lt {w : World} {B : Nat} {v : Value} {l : List Am} (h : OwnR w B v l) {k : Nat} (hk : v.ownBlock = some k) : B ≤ k ∧ k < w.heap.size := by
  rcases h.row.2 with ⟨rfl, _⟩ | ⟨g, cap, cur, rfl, hb, hg, _⟩
  · cases hk
  · have e : g = k := by simpa [Value.ownBlock] using hk
    subst e
    exact ⟨hb, (Array.getElem?_eq_some_iff.1 hg).1⟩
theorem Off.lies {w : World} {B : Nat} {u v v' : Value} {l : List Am} (h : Off u v) (hu : OwnR w B u l) (hl : Lies w v v') : Off u v' := by
  rcases hl with e | e
  · unfold Off; rw [e]; exact h
  · cases hk : u.ownBlock with
    | none => exact .inl hk
    | some k => exact .inr (by rw [hk, e]; have := (hu.lt hk).2; intro e9; have := Option.some.inj e9; omega)
theorem OwnR.grown {w w' : World} {B : Nat} {u v : Value} {l : List Am} (h : OwnR w B u l) (hg : w.grownBy w' v.ownBlock) (ho : Off u v) : OwnR w' B u l := ⟨h.ok, h.row.kept hg ho⟩
theorem run_app_at (w : World) (B : Nat) (v : Value) (l : List Am) (A : Am) (g : Nat) (ty : TypeId) (hown : OwnR w B v l) (hA : A.Ok) (hg : Blk w g 67 A.cells) (hn : l.length ≤ 5000) (hB : B ≤ w.heap.size) :
    ∃ D cap w', (Builtin.append_ #[32, 32] ty #[v, .slice (some ⟨g, 0, none⟩) 1 1]).run Try.prog w = .ok (.slice D (l.length + 1) cap) w' ∧ OwnR w' B (.slice D (l.length + 1) cap) (l ++ [A]) ∧ w.grownBy w' v.ownBlock ∧ Lies w v (.slice D (l.length + 1) cap) := by
  obtain ⟨i0, hi, hz0, hz1, hz2⟩ := info_parts info46z
  obtain ⟨v', w', hr, h1, h2, _, h4⟩ := run_append_own_at (P := Try.prog) w B 32 ty 67 i0 (.agg azero.cells.toArray) 21 40 Try.underlying32 hi hz0 hz1 hz2 (by rfl) (by decide) v _ _ hown.row ⟨g, 0, none⟩ 1 1 A.cells (by rw [acells_len hA])
    (fun j u hj => by
      have h := hg.range j u hj
      rw [Nat.zero_add] at h
      unfold Addr.add
      split
      · rename_i h0; rw [h0] at h; exact h
      · simpa using h) (all_list (one32 A)) (by unfold maxLen; omega) (by omega) hB
  have own : OwnR w' B v' (l ++ [A]) := ⟨hown.ok.app (okR_nil.cons hA), by rw [acs_app, acs_one, List.length_append, List.length_singleton]; exact h1⟩
  obtain ⟨D, cap, e⟩ := own.shape
  rw [List.length_append, List.length_singleton] at e
  subst e
  exact ⟨D, cap, w', hr, own, h2, h4⟩
theorem wpList_app_at {ops : Array Oper} {rest : List Oper} {op : Oper} {a : Act} {w : World} {Q : Exit → Act → World → Prop} (hgd : op.guard = none) (s x : Operand) (ho : op.op = .call { callee := .builtin .append, args := #[s, x], argTypes := #[32, 32] })
    (B : Nat) (v : Value) (l : List Am) (A : Am) (g : Nat) (hs : a.eval s = v) (hx : a.eval x = .slice (some ⟨g, 0, none⟩) 1 1) (hown : OwnR w B v l) (hA : A.Ok) (hg : Blk w g 67 A.cells) (hn : l.length ≤ 5000) (hB : B ≤ w.heap.size)
    (h : ∀ D m cap w', Hid (m = l.length + 1) → Hid (OwnR w' B (.slice D m cap) (l ++ [A])) → Hid (Below B w w') → Hid (w.grownBy w' v.ownBlock) → Hid (Lies w v (.slice D m cap)) → wpList Try.prog ops Q rest (a.put op.dst (.slice D m cap)) w') : wpList Try.prog ops Q (op :: rest) a w := by
  refine wpList_plain hgd fun K hK => ?_
  obtain ⟨D, cap, w', hr, h1, h2, h3⟩ := run_app_at w B v l A g op.type hown hA hg hn hB
  have hb : Below B w w' := ⟨h2.os, h2.tape, h2.output, h2.size, fun k hk => h2.block k (by omega) (fun e => by have := (hown.lt e.symm).1; omega)⟩
  unfold Oper.wp execOp
  simp only [ho, resolve, invoke, builtin, Sem.run_bind, Sem.run_pure, Result.andThen_ok, List.map_toArray, List.map_cons, List.map_nil, hs, hx, hr]
  exact hK _ _ (h D _ cap w' (Lib.hid rfl) (Lib.hid h1) (Lib.hid hb) (Lib.hid h2) (Lib.hid h3))

/-! Rows of rows. -/
theorem RowV.grown {w w' : World} {A : Option Addr} {n cap : Nat} {l : List Am} {o : Option Nat} (h : RowV w A n cap l) (hg : w.grownBy w' o) (hs : 0 < n → ∀ a, A = some a → some a.block ≠ o) : RowV w' A n cap l :=
  ⟨h.ok, h.len, h.le, h.most, fun h0 => by
    obtain ⟨G, off, ha, hG, hr⟩ := h.at_ h0
    refine ⟨G, off, ha, Nat.lt_of_lt_of_le hG hg.size, fun i hi j v hv => ?_⟩
    have e := hg.block G hG (hs h0 _ ha)
    have h1 := hr i hi j v hv
    unfold World.cell? at h1 ⊢
    simp only at h1 ⊢
    rw [e]
    exact h1⟩
structure OwnRs (w : World) (B C : Nat) (v : Value) (ls : List (List Am)) : Prop where
  row : ∃ cs : List Value, w.ownsRow B 32 1 v ls.length cs ∧ ∀ i, i < ls.length → ∃ D m c, cs[i]? = some (.slice D m c) ∧ RowV w D m c (ls.getD i []) ∧ (0 < m → ∀ a, D = some a → some a.block ≠ v.ownBlock ∧ C ≤ a.block)
theorem ownRs_nil (w : World) (B C : Nat) : OwnRs w B C (.slice none 0 0) [] := ⟨[], World.ownsRow_nil w B 32 1, fun _ h => absurd h (Nat.not_lt_zero _)⟩
theorem OwnRs.kept {w w' : World} {B C : Nat} {v : Value} {ls : List (List Am)} {o : Option Nat} (h : OwnRs w B C v ls) (hg : w.grownBy w' o) (h1 : v.ownBlock = none ∨ v.ownBlock ≠ o) (h2 : ∀ i, i < ls.length → ∀ D m c, RowV w D m c (ls.getD i []) → (0 < m → ∀ a, D = some a → some a.block ≠ v.ownBlock ∧ C ≤ a.block) → RowV w' D m c (ls.getD i [])) : OwnRs w' B C v ls := by
  obtain ⟨cs, hc, hr⟩ := h.row
  refine ⟨cs, hc.kept hg h1, fun i hi => ?_⟩
  obtain ⟨D, m, c, e, r, s⟩ := hr i hi
  exact ⟨D, m, c, e, h2 i hi D m c r s, s⟩
theorem OwnRs.below {w w' : World} {B C : Nat} {v : Value} {ls : List (List Am)} (h : OwnRs w B C v ls) (hb : Below w.heap.size w w') : OwnRs w' B C v ls :=
  h.kept (o := none) ⟨hb.os, hb.tape, hb.output, hb.size, fun k hk _ => hb.block k hk⟩ (by cases v.ownBlock <;> simp) (fun _ _ _ _ _ r _ => r.below hb)
theorem RowV.off {w w' : World} {A : Option Addr} {n cap g : Nat} {l : List Am} (h : RowV w A n cap l) (ho : Only g w w') (hs : 0 < n → ∀ a, A = some a → a.block ≠ g) : RowV w' A n cap l :=
  h.grown (o := some g) ⟨ho.os, ho.tape, ho.output, ho.size, fun k hk hn => ho.block k hk (fun e => hn (by rw [e]))⟩ (fun h0 a ha e => hs h0 a ha (Option.some.inj e))
theorem OwnRs.only {w w' : World} {B C g : Nat} {v : Value} {ls : List (List Am)} (h : OwnRs w B C v ls) (ho : Only g w w') (hg : v.ownBlock ≠ some g) (hC : g < C) : OwnRs w' B C v ls :=
  h.kept (o := some g) ⟨ho.os, ho.tape, ho.output, ho.size, fun k hk hn => ho.block k hk (fun e => hn (by rw [e]))⟩ (.inr hg) (fun _ _ _ _ _ r s => r.off ho (fun h0 a ha => by have := (s h0 a ha).2; omega))
theorem OwnRs.put {w : World} {B C i : Nat} {v : Value} {ls : List (List Am)} (h : OwnRs w B C v ls) (o : Obj) (hg : v.ownBlock ≠ some i) (hC : i < C) : OwnRs (w.putObj i o) B C v ls :=
  h.kept (o := some i) ⟨rfl, rfl, rfl, by simp, fun k _ hn => World.putObj_heap_other (fun e => hn (by rw [e]))⟩ (.inr hg) (fun _ _ _ _ _ r s => r.grown (o := some i) ⟨rfl, rfl, rfl, by simp, fun k _ hn => World.putObj_heap_other (fun e => hn (by rw [e]))⟩ (fun h0 a ha e => by have := (s h0 a ha).2; have := Option.some.inj e; omega))
theorem OwnRs.shape {w : World} {B C : Nat} {v : Value} {ls : List (List Am)} (h : OwnRs w B C v ls) : ∃ A cap, v = .slice A ls.length cap := by
  obtain ⟨cs, hc, _⟩ := h.row
  rcases hc.2 with ⟨rfl, h0⟩ | ⟨g, cap, cur, rfl, _⟩
  · exact ⟨none, 0, by rw [h0]⟩
  · exact ⟨_, _, rfl⟩
theorem OwnRs.lt {w : World} {B C : Nat} {v : Value} {ls : List (List Am)} (h : OwnRs w B C v ls) {k : Nat} (hk : v.ownBlock = some k) : B ≤ k ∧ k < w.heap.size := by
  obtain ⟨cs, hc, _⟩ := h.row
  rcases hc.2 with ⟨rfl, _⟩ | ⟨g, cap, cur, rfl, hb, hg, _⟩
  · cases hk
  · have e : g = k := by simpa [Value.ownBlock] using hk
    subst e
    exact ⟨hb, (Array.getElem?_eq_some_iff.1 hg).1⟩
theorem OwnRs.ge {w : World} {B C : Nat} {v : Value} {ls : List (List Am)} {i : Nat} (h : OwnRs w B C v ls) (hi : i < B) : v.ownBlock ≠ some i := fun e => by have := (h.lt e).1; omega
theorem OwnRs.rows {w : World} {B C : Nat} {A : Option Addr} {n cap : Nat} {ls : List (List Am)} (h : OwnRs w B C (.slice A n cap) ls) : RowsV w A n cap ls := by
  obtain ⟨cs, hc, hr⟩ := h.row
  rcases hc.2 with ⟨e, h0⟩ | ⟨g, cap', cur, e, hb, hg, hn, hcm, hs, ht⟩
  · simp only [Value.slice.injEq] at e
    obtain ⟨rfl, rfl, rfl⟩ := e
    exact ⟨h0, Nat.le_refl _, Nat.zero_le _, fun h => absurd h (Nat.lt_irrefl _)⟩
  · simp only [Value.slice.injEq] at e
    obtain ⟨rfl, rfl, rfl⟩ := e
    refine ⟨rfl, hn, hcm, fun _ => ⟨g, 0, rfl, (Array.getElem?_eq_some_iff.1 hg).1, fun i hi => ?_⟩⟩
    obtain ⟨D, m, c, e, r, _⟩ := hr i hi
    refine ⟨D, m, c, ?_, r⟩
    rw [cell_of_row _ g _ cur 32 (0, 0) hg, Nat.zero_add]
    rw [← ht, List.getElem?_take_of_lt (by omega)] at e
    simpa using e
theorem info22z : (Try.prog.info? 32).map (fun i => (i.zero, i.size, i.bytes)) = some (some (.slice none 0 0), 1, 24) := by kernel_rfl
theorem run_app_rs (w : World) (B C : Nat) (v : Value) (ls : List (List Am)) (D : Option Addr) (m c : Nat) (l : List Am) (g : Nat) (ty : TypeId) (hown : OwnRs w B C v ls) (hr : RowV w D m c l) (hD : 0 < m → ∀ a, D = some a → some a.block ≠ v.ownBlock ∧ C ≤ a.block) (hg : Blk w g 32 [.slice D m c]) (hn : ls.length ≤ 5000) (hB : B ≤ w.heap.size) :
    ∃ E cap w', (Builtin.append_ #[97, 97] ty #[v, .slice (some ⟨g, 0, none⟩) 1 1]).run Try.prog w = .ok (.slice E (ls.length + 1) cap) w' ∧ OwnRs w' B C (.slice E (ls.length + 1) cap) (ls ++ [l]) ∧ w.grownBy w' v.ownBlock ∧ Lies w v (.slice E (ls.length + 1) cap) := by
  obtain ⟨i0, hi, hz0, hz1, hz2⟩ := info_parts info22z
  obtain ⟨cs, hc, hs⟩ := hown.row
  obtain ⟨v', w', he, h1, h2, _, h4⟩ := run_append_own_at (P := Try.prog) w B 97 ty 32 i0 (.slice none 0 0) 1 24 Try.underlying97 hi hz0 hz1 hz2 (by rfl) (by decide) v _ _ hc ⟨g, 0, none⟩ 1 1 [.slice D m c] (by rfl)
    (fun j u hj => by
      have h := hg.range j u hj
      rw [Nat.zero_add] at h
      unfold Addr.add
      split
      · rename_i h0; rw [h0] at h; exact h
      · simpa using h) (fun u hu => by rw [List.mem_singleton.1 hu]; rfl) (by unfold maxLen; omega) (by omega) hB
  have sep : ∀ {E : Option Addr} {k d : Nat} {r : List Am}, RowV w E k d r → (0 < k → ∀ a, E = some a → some a.block ≠ v.ownBlock ∧ C ≤ a.block) → (0 < k → ∀ a, E = some a → some a.block ≠ v'.ownBlock ∧ C ≤ a.block) := fun {E k d r} hv h9 hk a ha => by
    refine ⟨?_, (h9 hk a ha).2⟩
    rcases h4 with e | e
    · rw [e]; exact (h9 hk a ha).1
    · obtain ⟨G, off, e2, hG, _⟩ := hv.at_ hk
      rw [ha] at e2
      obtain rfl := Option.some.inj e2
      rw [e]
      intro e3
      have := Option.some.inj e3
      simp only at this
      omega
  have hlen : cs.length = ls.length := by have := hc.1; omega
  have own : OwnRs w' B C v' (ls ++ [l]) := by
    refine ⟨cs ++ [.slice D m c], by rw [List.length_append, List.length_singleton]; exact h1, fun i hi => ?_⟩
    rw [List.length_append, List.length_singleton] at hi
    by_cases hlt : i < ls.length
    · obtain ⟨E, k, d, e, r, s⟩ := hs i hlt
      refine ⟨E, k, d, by rw [List.getElem?_append_left (by omega)]; exact e, ?_, sep r s⟩
      rw [List.getD_eq_getElem?_getD, List.getElem?_append_left hlt, ← List.getD_eq_getElem?_getD]
      exact r.grown h2 (fun h a ha => (s h a ha).1)
    · have e1 : i = ls.length := by omega
      subst e1
      refine ⟨D, m, c, by rw [← hlen, List.getElem?_concat_length], ?_, sep hr hD⟩
      rw [List.getD_eq_getElem?_getD, List.getElem?_concat_length, Option.getD_some]
      exact hr.grown h2 (fun h a ha => (hD h a ha).1)
  obtain ⟨E, cap, e⟩ := own.shape
  rw [List.length_append, List.length_singleton] at e
  subst e
  exact ⟨E, cap, w', he, own, h2, h4⟩
theorem wpList_app_rs {ops : Array Oper} {rest : List Oper} {op : Oper} {a : Act} {w : World} {Q : Exit → Act → World → Prop} (hgd : op.guard = none) (s x : Operand) (ho : op.op = .call { callee := .builtin .append, args := #[s, x], argTypes := #[97, 97] })
    (B C : Nat) (v : Value) (ls : List (List Am)) (D : Option Addr) (m c : Nat) (l : List Am) (g : Nat) (hs : a.eval s = v) (hx : a.eval x = .slice (some ⟨g, 0, none⟩) 1 1) (hown : OwnRs w B C v ls) (hr : RowV w D m c l) (hD : 0 < m → ∀ a, D = some a → some a.block ≠ v.ownBlock ∧ C ≤ a.block) (hg : Blk w g 32 [.slice D m c]) (hn : ls.length ≤ 5000) (hB : B ≤ w.heap.size)
    (h : ∀ E k cap w', Hid (k = ls.length + 1) → Hid (OwnRs w' B C (.slice E k cap) (ls ++ [l])) → Hid (Below B w w') → Hid (w.grownBy w' v.ownBlock) → Hid (Lies w v (.slice E k cap)) → wpList Try.prog ops Q rest (a.put op.dst (.slice E k cap)) w') : wpList Try.prog ops Q (op :: rest) a w := by
  refine wpList_plain hgd fun K hK => ?_
  obtain ⟨E, cap, w', he, h1, h2, h3⟩ := run_app_rs w B C v ls D m c l g op.type hown hr hD hg hn hB
  have hb : Below B w w' := ⟨h2.os, h2.tape, h2.output, h2.size, fun k hk => h2.block k (by omega) (fun e => by have := (hown.lt e.symm).1; omega)⟩
  unfold Oper.wp execOp
  simp only [ho, resolve, invoke, builtin, Sem.run_bind, Sem.run_pure, Result.andThen_ok, List.map_toArray, List.map_cons, List.map_nil, hs, hx, he]
  exact hK _ _ (h E _ cap w' (Lib.hid rfl) (Lib.hid h1) (Lib.hid hb) (Lib.hid h2) (Lib.hid h3))

/-! Rows of numbers. -/
structure OwnI (w : World) (B : Nat) (v : Value) (l : List Nat) : Prop where
  row : w.ownsRow B 3 1 v l.length (l.map fun (n : Nat) => Value.int .i64 (n : Int))
theorem ownI_nil (w : World) (B : Nat) : OwnI w B (.slice none 0 0) [] := ⟨World.ownsRow_nil w B 3 1⟩
theorem OwnI.kept {w w' : World} {B : Nat} {v : Value} {l : List Nat} {o : Option Nat} (h : OwnI w B v l) (hg : w.grownBy w' o) (h1 : v.ownBlock = none ∨ v.ownBlock ≠ o) : OwnI w' B v l := ⟨h.row.kept hg h1⟩
theorem OwnI.below {w w' : World} {B : Nat} {v : Value} {l : List Nat} (h : OwnI w B v l) (hb : Below w.heap.size w w') : OwnI w' B v l :=
  h.kept (o := none) ⟨hb.os, hb.tape, hb.output, hb.size, fun k hk _ => hb.block k hk⟩ (by cases v.ownBlock <;> simp)
theorem OwnI.shape {w : World} {B : Nat} {v : Value} {l : List Nat} (h : OwnI w B v l) : ∃ A cap, v = .slice A l.length cap := by
  rcases h.row.2 with ⟨rfl, h0⟩ | ⟨g, cap, cur, rfl, _⟩
  · exact ⟨none, 0, by rw [h0]⟩
  · exact ⟨_, _, rfl⟩
theorem OwnI.lt {w : World} {B : Nat} {v : Value} {l : List Nat} (h : OwnI w B v l) {k : Nat} (hk : v.ownBlock = some k) : B ≤ k ∧ k < w.heap.size := by
  rcases h.row.2 with ⟨rfl, _⟩ | ⟨g, cap, cur, rfl, hb, hg, _⟩
  · cases hk
  · have e : g = k := by simpa [Value.ownBlock] using hk
    subst e
    exact ⟨hb, (Array.getElem?_eq_some_iff.1 hg).1⟩
theorem info3z : (Try.prog.info? 3).map (fun i => (i.zero, i.size, i.bytes)) = some (some (.int .i64 0), 1, 8) := by kernel_rfl
theorem wpList_app_i {ops : Array Oper} {rest : List Oper} {op : Oper} {a : Act} {w : World} {Q : Exit → Act → World → Prop} (hgd : op.guard = none) (s x : Operand) (ho : op.op = .call { callee := .builtin .append, args := #[s, x], argTypes := #[45, 45] })
    (B : Nat) (v : Value) (l : List Nat) (i : Nat) (g : Nat) (hs : a.eval s = v) (hx : a.eval x = .slice (some ⟨g, 0, none⟩) 1 1) (hown : OwnI w B v l) (hg : Blk w g 3 [.int .i64 i]) (hn : l.length ≤ 5000) (hB : B ≤ w.heap.size)
    (h : ∀ E k cap w', Hid (k = l.length + 1) → Hid (OwnI w' B (.slice E k cap) (l ++ [i])) → Hid (Below B w w') → Hid (w.grownBy w' v.ownBlock) → wpList Try.prog ops Q rest (a.put op.dst (.slice E k cap)) w') : wpList Try.prog ops Q (op :: rest) a w := by
  refine wpList_plain hgd fun K hK => ?_
  obtain ⟨i0, hi, hz0, hz1, hz2⟩ := info_parts info3z
  obtain ⟨v', w', he, h1, h2, _, _⟩ := run_append_own_at (P := Try.prog) w B 45 op.type 3 i0 (.int .i64 0) 1 8 Try.underlying45 hi hz0 hz1 hz2 (by rfl) (by decide) v _ _ hown.row ⟨g, 0, none⟩ 1 1 [.int .i64 i] (by rfl)
    (fun j u hj => by
      have h := hg.range j u hj
      rw [Nat.zero_add] at h
      unfold Addr.add
      split
      · rename_i h0; rw [h0] at h; exact h
      · simpa using h) (fun u hu => by rw [List.mem_singleton.1 hu]; rfl) (by unfold maxLen; omega) (by omega) hB
  have own : OwnI w' B v' (l ++ [i]) := ⟨by rw [List.length_append, List.length_singleton, List.map_append]; exact h1⟩
  obtain ⟨E, cap, e⟩ := own.shape
  rw [List.length_append, List.length_singleton] at e
  subst e
  have hb : Below B w w' := ⟨h2.os, h2.tape, h2.output, h2.size, fun k hk => h2.block k (by omega) (fun e => by have := (hown.lt e.symm).1; omega)⟩
  unfold Oper.wp execOp
  simp only [ho, resolve, invoke, builtin, Sem.run_bind, Sem.run_pure, Result.andThen_ok, List.map_toArray, List.map_cons, List.map_nil, hs, hx, he]
  exact hK _ _ (h E _ cap w' (Lib.hid rfl) (Lib.hid own) (Lib.hid hb) (Lib.hid h2))
end Go.Proofs.Ytihkncnhkljgpaa
namespace Go.Proofs.Ytihkncnhkljgpaa
open Go.RowKit

theorem exec_store_bh {o : Oper} {a : Act} {w : World} (x y : Operand) (ho : o.op = .store 4 x y) (g : Nat) (u : Value) (b : Bool) (hx : a.eval x = .pointer (some ⟨g, 0, none⟩)) (hy : a.eval y = .bool b) (hb : Blk w g 4 [u]) :
    (execOp a.eval o).run Try.prog w = .ok .skip (w.setCell ⟨g, 0, none⟩ (.bool b)) := by
  have hc := hb.cell (i := 0) rfl
  have hf := hb.frozen 0
  unfold execOp
  simp only [ho, hx, hy]
  simp [go_sem, hc, hf]
theorem wpList_store_bh {ops : Array Oper} {rest : List Oper} {op : Oper} {a : Act} {w : World} {Q : Exit → Act → World → Prop} (hgd : op.guard = none) (x y : Operand) (ho : op.op = .store 4 x y) (g : Nat) (u : Value) (b : Bool) (hx : a.eval x = .pointer (some ⟨g, 0, none⟩)) (hy : a.eval y = .bool b) (hb : Blk w g 4 [u])
    (h : ∀ w', Hid (Blk w' g 4 [.bool b]) → Hid (Only g w w') → wpList Try.prog ops Q rest (a.put op.dst undef) w') : wpList Try.prog ops Q (op :: rest) a w := by
  refine wpList_plain hgd fun K hK => ?_
  unfold Oper.wp
  rw [exec_store_bh x y ho g u b hx hy hb]
  exact hK _ _ (h _ (Lib.hid (hb.set 0 (.bool b))) (Lib.hid (Only.set g 0 w (.bool b))))
end Go.Proofs.Ytihkncnhkljgpaa
namespace Go.Proofs.Ytihkncnhkljgpaa
open Go.RowKit

end Go.Proofs.Ytihkncnhkljgpaa
namespace Go.Proofs.Ytihkncnhkljgpaa
open Go.RowKit

/-- The call answers two rows, apart from what was there. -/
def Gives2 (w : World) (l1 l2 : List Am) (e : Ending) (w' : World) : Prop := (∃ A n c B m d, e = .returned (.tuple #[.slice A n c, .slice B m d]) ∧ RowV w' A n c l1 ∧ RowV w' B m d l2 ∧ (∀ a, A = some a → w.heap.size ≤ a.block) ∧ (∀ a, B = some a → w.heap.size ≤ a.block) ∧ (A = none → c = 0) ∧ (B = none → d = 0)) ∧ Below w.heap.size w w'
theorem OwnR.view {w : World} {B : Nat} {v : Value} {l : List Am} (h : OwnR w B v l) : ∃ A n c, v = .slice A n c ∧ RowV w A n c l ∧ ∀ a, A = some a → B ≤ a.block := by
  obtain ⟨A, n, c, rfl, hr⟩ := h.rowAt
  refine ⟨A, n, c, rfl, hr, fun a ha => ?_⟩
  rcases h.row.2 with ⟨e, _⟩ | ⟨g, cap, cur, e, hb, _⟩
  · simp only [Value.slice.injEq] at e; rw [e.1] at ha; cases ha
  · simp only [Value.slice.injEq] at e; rw [e.1] at ha; obtain rfl := Option.some.inj ha; exact hb
theorem none_cap {w : World} {B : Nat} {A : Option Addr} {n c : Nat} {l : List Am} (h : OwnR w B (.slice A n c) l) : A = none → c = 0 := fun ha => by
  rcases h.row.2 with ⟨e, _⟩ | ⟨g, cap, cur, e, _⟩
  · simp only [Value.slice.injEq] at e; exact e.2.2
  · simp only [Value.slice.injEq] at e; rw [e.1] at ha; cases ha
theorem filter_yes {s : List Am} {p : Am → Bool} {x : Am} (h : p x = true) : (s ++ [x]).filter p = s.filter p ++ [x] := by rw [List.filter_append, List.filter_cons_of_pos h]; rfl
theorem filter_no {s : List Am} {p : Am → Bool} {x : Am} (h : p x = false) : (s ++ [x]).filter p = s.filter p := by rw [List.filter_append, List.filter_cons_of_neg (by rw [h]; decide)]; simp
theorem norm_len' (l : List Am) : (norm l).length ≤ l.length := norm_len l
end Go.Proofs.Ytihkncnhkljgpaa
