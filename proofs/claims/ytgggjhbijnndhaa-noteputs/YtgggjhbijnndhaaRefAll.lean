/- The contract of Join of the reference. The contracts of Find and All of the reference; rows of rows. -/
import Derived.Test.YtgggjhbijnndhaaRefNorm
namespace Go.Proofs.Ytgggjhbijnndhaa
open Go.RowKit

def JI (X Y : List Am) (i k : Nat) (out : List Am) : Prop := out ++ merge (X.drop i) (Y.drop k) = merge X Y
theorem merge_nil (s : List Am) : merge s [] = s := by cases s <;> simp [merge]
theorem nil_merge (t : List Am) : merge [] t = t := by simp [merge]
theorem merge_len : ∀ (n : Nat) (s t : List Am), s.length + t.length = n → (merge s t).length ≤ n := by
  intro n
  induction n using Nat.strongRecOn with
  | ind n ih =>
    intro s t hn
    match s, t with
    | [], t => rw [nil_merge]; simp at hn; omega
    | x :: s, [] => rw [merge_nil]; simp at hn ⊢; omega
    | x :: s, y :: t =>
      have h1 := ih (s.length + (y :: t).length) (by simp at hn ⊢; omega) s (y :: t) rfl
      have h2 := ih ((x :: s).length + t.length) (by simp at hn ⊢; omega) (x :: s) t rfl
      have h3 := ih (s.length + t.length) (by simp at hn ⊢; omega) s t rfl
      rw [merge]
      simp only [List.length_cons] at *
      split
      · simp only [List.length_cons]; omega
      · split
        · simp only [List.length_cons]; omega
        · simp only [List.length_cons]; omega
section
variable {X Y : List Am} {i k : Nat} {out : List Am} {x y : Am}
theorem JI.len (h : JI X Y i k out) : out.length ≤ X.length + Y.length := by
  have := merge_len _ X Y rfl
  rw [← h, List.length_append] at this; omega
theorem JI.a (h : JI X Y i k out) (hx : X.drop i = x :: X.drop (i + 1)) (hy : Y.drop k = []) : JI X Y (i + 1) k (out ++ [x]) := by
  unfold JI at *; rw [← h, hx, hy, merge_nil, merge_nil]; simp
theorem JI.b (h : JI X Y i k out) (hx : X.drop i = []) (hy : Y.drop k = y :: Y.drop (k + 1)) : JI X Y i (k + 1) (out ++ [y]) := by
  unfold JI at *; rw [← h, hx, hy, nil_merge, nil_merge]; simp
theorem JI.lt (h : JI X Y i k out) (hx : X.drop i = x :: X.drop (i + 1)) (hy : Y.drop k = y :: Y.drop (k + 1)) (hl : x.k.less y.k = true) : JI X Y (i + 1) k (out ++ [x]) := by
  unfold JI at *; rw [← h, hx, hy, merge, if_pos hl]; simp
theorem JI.gt (h : JI X Y i k out) (hx : X.drop i = x :: X.drop (i + 1)) (hy : Y.drop k = y :: Y.drop (k + 1)) (hl : x.k.less y.k = false) (hg : y.k.less x.k = true) : JI X Y i (k + 1) (out ++ [y]) := by
  unfold JI at *; rw [← h, hx, hy, merge, if_neg (by rw [hl]; decide), if_pos hg]; simp
theorem JI.eq (h : JI X Y i k out) (hx : X.drop i = x :: X.drop (i + 1)) (hy : Y.drop k = y :: Y.drop (k + 1)) (hl : x.k.less y.k = false) (hg : y.k.less x.k = false) : JI X Y (i + 1) (k + 1) (out ++ [⟨x.k, more x.v y.v⟩]) := by
  unfold JI at *; rw [← h, hx, hy, merge, if_neg (by rw [hl]; decide), if_neg (by rw [hg]; decide)]; simp
theorem JI.done (h : JI X Y X.length Y.length out) : out = merge X Y := by
  unfold JI at *; rw [← h, List.drop_length, List.drop_length, merge_nil, List.append_nil]
end
end Go.Proofs.Ytgggjhbijnndhaa
namespace Go.Proofs.Ytgggjhbijnndhaa
open Go.RowKit

theorem ready_store_vl {ops : Array Oper} {Q : Exit → Act → World → Prop} {md : Region.Mode} {S : World → Prop} {fuel : Nat} {listed : Array Bool} {a : Act} {w : World} {i : Nat} {o : Oper} {rs : List Nat} (ho : ops[i]? = some o) (hg : o.guard = none) (x y : Operand) (hop : o.op = .store 38 x y) (g : Nat) (j k : Vl) (hx : a.eval x = .pointer (some ⟨g, 0, none⟩)) (hy : a.eval y = .agg k.cells.toArray) (hb : Blk w g 38 j.cells) (hj : j.t.length = 8) (hm : k.t.length = 8)
    (h : ∀ w', Blk w' g 38 k.cells → Only g w w' → S w' ∧ wpAnyH Try.prog md ops Q S fuel (listed.setIfInBounds i true) (a.put o.dst undef) w')
    (hs : AllReadyH Try.prog md ops Q S fuel listed a w rs) : AllReadyH Try.prog md ops Q S fuel listed a w (i :: rs) := by
  refine AllReadyH.cons ho (fun K hK => ?_) hs
  have hw : Region.wanted o (yielded ops a.tmps) = true := by simp [Region.wanted, hg]
  rw [if_pos hw]
  have hl : j.cells.length = k.cells.length := by rw [vcells_len hj, vcells_len hm]
  have hB := Blk.setCells k.cells 0 w j.cells hb
  rw [setL_all _ _ hl] at hB
  have H := h _ hB (Only.setCells k.cells 0 w)
  refine wp_store_mid 38 x y hop g 0 k.cells.toArray hx hy (hb.there 0 _ (by rw [List.size_toArray, hl]; omega)) (by rw [List.size_toArray]; exact size30 hm) (one30 k) ?_
  exact hK.out _ _ H.1 (fun _ => H.2)

/-- A slice of rows. -/
structure RowsV (w : World) (A : Option Addr) (n cap : Nat) (ls : List (List Am)) : Prop where
  len : ls.length = n
  le : n ≤ cap
  most : cap ≤ maxLen
  at_ : 0 < n → ∃ G off, A = some ⟨G, off, none⟩ ∧ G < w.heap.size ∧ ∀ i, i < n → ∃ D m c, w.cell? ⟨G, off + i, none⟩ = some (.slice D m c) ∧ RowV w D m c (ls.getD i [])
theorem RowsV.below {w w' : World} {A : Option Addr} {n cap : Nat} {ls : List (List Am)} (h : RowsV w A n cap ls) (hb : Below w.heap.size w w') : RowsV w' A n cap ls :=
  ⟨h.len, h.le, h.most, fun h0 => by
    obtain ⟨G, off, ha, hG, hr⟩ := h.at_ h0
    refine ⟨G, off, ha, Nat.lt_of_lt_of_le hG hb.size, fun i hi => ?_⟩
    obtain ⟨D, m, c, h1, h2⟩ := hr i hi
    exact ⟨D, m, c, (hb.cell (p := ⟨G, off + i, none⟩) hG).trans h1, h2.below hb⟩⟩
theorem RowsV.ok {w : World} {A : Option Addr} {n cap : Nat} {ls : List (List Am)} (h : RowsV w A n cap ls) : ∀ x ∈ ls, OkR x := fun x hx => by
  obtain ⟨i, hi, rfl⟩ := List.getElem_of_mem hx
  obtain ⟨G, off, _, _, hr⟩ := h.at_ (by have := h.len; omega)
  obtain ⟨D, m, c, _, h2⟩ := hr i (by have := h.len; omega)
  have e : ls.getD i [] = ls[i] := by simp [List.getD, List.getElem?_eq_getElem hi]
  rw [e] at h2
  exact h2.ok
/-- Where the row i of the rows lies. -/
structure RElem (w : World) (A : Option Addr) (n G p i : Nat) (D : Option Addr) (m c : Nat) (l : List Am) : Prop where
  ad : ∃ off, A = some ⟨G, off, none⟩ ∧ p = off + i
  lt : i < n
  blk : G < w.heap.size
  cell : w.cell? ⟨G, p, none⟩ = some (.slice D m c)
  row : RowV w D m c l
theorem RowsV.elem {w : World} {A : Option Addr} {n cap : Nat} {ls : List (List Am)} (h : RowsV w A n cap ls) (i : Nat) (hi : i < n) : ∃ G p D m c, RElem w A n G p i D m c (ls.getD i []) := by
  obtain ⟨G, off, ha, hG, hr⟩ := h.at_ (by omega)
  obtain ⟨D, m, c, h1, h2⟩ := hr i hi
  exact ⟨G, off + i, D, m, c, ⟨off, ha, rfl⟩, hi, hG, h1, h2⟩
theorem RElem.below {w w' : World} {A : Option Addr} {n G p i : Nat} {D : Option Addr} {m c : Nat} {l : List Am} (h : RElem w A n G p i D m c l) (hb : Below w.heap.size w w') : RElem w' A n G p i D m c l :=
  ⟨h.ad, h.lt, Nat.lt_of_lt_of_le h.blk hb.size, (hb.cell (p := ⟨G, p, none⟩) h.blk).trans h.cell, h.row.below hb⟩
theorem info22 : (Try.prog.info? 22).map (·.size) = some 1 := by kernel_rfl
theorem sizeOf22 (w : World) : (sizeOf 22).run Try.prog w = .ok 1 w := by
  cases hq : Try.prog.info? 22 with
  | none => have := info22; simp [hq] at this
  | some i =>
    have hi : i.size = 1 := by have := info22; simpa [hq] using this
    simp [sizeOf, typeInfo, hq, hi]
theorem exec_index40 {o : Oper} {a : Act} {w : World} (x y : Operand) (ho : o.op = .indexAddr 89 x y) (A : Option Addr) (n cap G p i : Nat) (D : Option Addr) (m c : Nat) (l : List Am) (z : Int) (hx : a.eval x = .slice A n cap) (hy : a.eval y = .int .i64 z) (hz : z = (i : Int)) {W : World} (h : RElem W A n G p i D m c l) :
    (execOp a.eval o).run Try.prog w = .ok (.value (.pointer (some ⟨G, p, none⟩))) w := by
  obtain ⟨off, hA, rfl⟩ := h.ad
  have hi := h.lt
  have hr : (Instr.indexAt 89 (.slice (some ⟨G, off, none⟩) n cap) (.int .i64 (i : Int))).run Try.prog w = .ok (.pointer (some ⟨G, off + i, none⟩)) w := by
    simp only [Instr.indexAt, asIntOf, Sem.run_bind, Sem.run_pure, Result.andThen_ok, run_underlying Try.underlying89]
    rw [if_pos ⟨by omega, by omega⟩]
    simp [Addr.add]
  unfold execOp
  simp only [ho, hx, hy, hz, hA, Sem.run_bind, hr, Result.andThen_ok, Sem.run_pure]
theorem wpList_index40 {ops : Array Oper} {rest : List Oper} {op : Oper} {a : Act} {w : World} {Q : Exit → Act → World → Prop} (hgd : op.guard = none) (x y : Operand) (ho : op.op = .indexAddr 89 x y) (A : Option Addr) (n cap G p i : Nat) (D : Option Addr) (m c : Nat) (l : List Am) (z : Int) (hx : a.eval x = .slice A n cap) (hy : a.eval y = .int .i64 z) (hz : z = (i : Int)) {W : World} (h : RElem W A n G p i D m c l)
    (hk : wpList Try.prog ops Q rest (a.put op.dst (.pointer (some ⟨G, p, none⟩))) w) : wpList Try.prog ops Q (op :: rest) a w :=
  wpList_val hgd _ (exec_index40 x y ho A n cap G p i D m c l z hx hy hz h) hk
theorem takeL_getD {ls : List (List Am)} {j : Nat} (h : j < ls.length) : ls.take (j + 1) = ls.take j ++ [ls.getD j []] := by
  rw [List.take_add_one]
  simp [List.getD, List.getElem?_eq_getElem h]
/-- Rows are few, and short. -/
def FewR (ls : List (List Am)) : Prop := ls.length ≤ 100 ∧ ls.flatten.length ≤ 600
theorem FewR.take {ls : List (List Am)} (h : FewR ls) (j : Nat) : (ls.take j).flatten.length ≤ 600 := by
  have e : ls.flatten = (ls.take j).flatten ++ (ls.drop j).flatten := by rw [← List.flatten_append, List.take_append_drop]
  have := h.2
  rw [e, List.length_append] at this
  omega
theorem FewR.at_ {ls : List (List Am)} (h : FewR ls) (j : Nat) : (ls.getD j []).length ≤ 600 := by
  by_cases hj : j < ls.length
  · have e := h.take (j + 1)
    rw [takeL_getD hj, List.flatten_append, List.flatten_singleton, List.length_append] at e
    omega
  · simp only [List.getD, List.getElem?_eq_none (by omega : ls.length ≤ j), Option.getD_none]
    simp
end Go.Proofs.Ytgggjhbijnndhaa
