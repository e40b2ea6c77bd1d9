/- Rows of atoms in memory: slices that hold atoms, rows that a call owns, and the laws of indexing, building and appending. -/
import Derived.Test.YtpgafijeecmgmaaMathL
import Derived.Test.YtpgafijeecmgmaaASmall
import Derived.Test.YtpgafijeecmgmaaKWords
import Derived.OwnWalk
namespace Go.Proofs.Ytpgafijeecmgmaa
open Go.RowKit

/-- The cells of a row. -/
def acs (l : List Am) : List Value := l.flatMap Am.cells
theorem acs_cons (a : Am) (l : List Am) : acs (a :: l) = a.cells ++ acs l := rfl
theorem acs_app (l m : List Am) : acs (l ++ m) = acs l ++ acs m := by unfold acs; rw [List.flatMap_append]
theorem acs_one (a : Am) : acs [a] = a.cells := by unfold acs; simp
theorem acs_len : ∀ {l : List Am}, OkR l → (acs l).length = l.length * 21
  | [], _ => rfl
  | a :: l, h => by rw [acs_cons, List.length_append, acells_len h.head, acs_len h.tail, List.length_cons]; omega
theorem acs_get : ∀ {l : List Am}, OkR l → ∀ (i : Nat) (hi : i < l.length) (j : Nat) (v : Value), l[i].cells[j]? = some v → (acs l)[i * 21 + j]? = some v
  | a :: l, h, i, hi, j, v, hv => by
    rw [acs_cons]
    have hl := acells_len h.head
    cases i with
    | zero =>
      have hj : j < a.cells.length := by
        have := (List.getElem?_eq_some_iff.1 hv).1
        exact this
      rw [Nat.zero_mul, Nat.zero_add, List.getElem?_append_left hj]
      exact hv
    | succ i =>
      rw [List.getElem?_append_right (by rw [hl]; omega), hl, show (i + 1) * 21 + j - 21 = i * 21 + j by omega]
      exact acs_get h.tail i (by simpa using hi) j v hv
theorem acs_ones : ∀ (l : List Am), ∀ u ∈ acs l, u.oneCell' = true := fun l u hu => by
  obtain ⟨a, _, h⟩ := List.mem_flatMap.1 hu
  exact all_list (one32 a) u h
/-- The slice of n elements at A holds the row l. -/
structure RowV (w : World) (A : Option Addr) (n cap : Nat) (l : List Am) : Prop where
  ok : OkR l
  len : l.length = n
  le : n ≤ cap
  most : cap ≤ maxLen
  at_ : 0 < n → ∃ G off, A = some ⟨G, off, none⟩ ∧ G < w.heap.size ∧ ∀ i (h : i < l.length), w.rangeAt G (off + i * 21) l[i].cells
def RowAt (w : World) (v : Value) (l : List Am) : Prop := ∃ A n cap, v = .slice A n cap ∧ RowV w A n cap l
theorem RowV.below {w w' : World} {A : Option Addr} {n cap : Nat} {l : List Am} (h : RowV w A n cap l) (hb : Below w.heap.size w w') : RowV w' A n cap l :=
  ⟨h.ok, h.len, h.le, h.most, fun h0 => by
    obtain ⟨G, off, ha, hG, hr⟩ := h.at_ h0
    exact ⟨G, off, ha, Nat.lt_of_lt_of_le hG hb.size, fun i hi j v hv => (hb.cell (p := ⟨G, off + i * 21 + j, none⟩) hG).trans (hr i hi j v hv)⟩⟩
theorem RowAt.below {w w' : World} {v : Value} {l : List Am} (h : RowAt w v l) (hb : Below w.heap.size w w') : RowAt w' v l := by
  obtain ⟨A, n, cap, rfl, h⟩ := h
  exact ⟨A, n, cap, rfl, h.below hb⟩
theorem RowAt.ok {w : World} {v : Value} {l : List Am} (h : RowAt w v l) : OkR l := by
  obtain ⟨_, _, _, _, h⟩ := h; exact h.ok
theorem RowV.drew {w : World} {A : Option Addr} {n cap : Nat} {l : List Am} (h : RowV w A n cap l) : RowV w.drew A n cap l := h.below (below_drew (Below.refl _ _))
/-- Where the element i of the row lies. -/
structure ElemAt (w : World) (A : Option Addr) (n G o i : Nat) (a : Am) : Prop where
  ok : a.Ok
  ad : ∃ off, A = some ⟨G, off, none⟩ ∧ o = off + i * 21
  lt : i < n
  blk : G < w.heap.size
  rg : w.rangeAt G o a.cells
theorem RowV.elem {w : World} {A : Option Addr} {n cap : Nat} {l : List Am} (h : RowV w A n cap l) (i : Nat) (hi : i < n) : ∃ G o, ElemAt w A n G o i (l.getD i azero) := by
  obtain ⟨G, off, ha, hG, hr⟩ := h.at_ (by omega)
  have hi' : i < l.length := by rw [h.len]; exact hi
  have e : l.getD i azero = l[i] := by simp [List.getD, List.getElem?_eq_getElem hi']
  rw [e]
  exact ⟨G, off + i * 21, h.ok _ (List.getElem_mem _), ⟨off, ha, rfl⟩, hi, hG, hr i hi'⟩
theorem ElemAt.below {w w' : World} {A : Option Addr} {n G o i : Nat} {a : Am} (h : ElemAt w A n G o i a) (hb : Below w.heap.size w w') : ElemAt w' A n G o i a :=
  ⟨h.ok, h.ad, h.lt, Nat.lt_of_lt_of_le h.blk hb.size, fun j v hv => (hb.cell (p := ⟨G, o + j, none⟩) h.blk).trans (h.rg j v hv)⟩
theorem range_ak {w : World} {g o : Nat} {a : Am} (h : w.rangeAt g o a.cells) : w.rangeAt g o a.k.cells := fun j x hx => by
  refine h j x ?_
  rw [Am.cells, List.getElem?_append_left (List.getElem?_eq_some_iff.1 hx).1]; exact hx
theorem range_av {w : World} {g o : Nat} {a : Am} (h : w.rangeAt g o a.cells) (ha : a.Ok) : w.rangeAt g (o + 12) a.v.cells := fun j x hx => by
  rw [Nat.add_assoc]
  refine h (12 + j) x ?_
  rw [Am.cells, List.getElem?_append_right (by rw [kcells_len ha.k.ml]; omega), kcells_len ha.k.ml, show 12 + j - 12 = j by omega]; exact hx
theorem quiet_load_kyx {o : Oper} {a : Act} {W : World} {K : Act → Prop} (G off : Nat) (k : Ky) (x : Operand) (ho : o.op = .load 75 x) (hx : a.eval x = .pointer (some ⟨G, off, none⟩)) (hat : W.rangeAt G off k.cells) (hG : G < W.heap.size) (hm : k.m.length = 8)
    (hk : K (a.put o.dst (.agg k.cells.toArray))) : o.quiet Try.prog a (Cls W) K := quiet_load_cs 75 G off k.cells _ x ho hx hat hG Try.underlying75 rfl (size27 hm) hk
/-- A slice of one atom. -/
theorem fill46v (c0 c1 c2 c3 c4 c5 c6 c7 c8 c9 c10 c11 c12 c13 c14 c15 c16 c17 c18 c19 c20 : Value) : Instr.fill (fun i => some (i * 21, 21)) ((Array.range (1 * 21)).map (azero.cells.toArray[· % azero.cells.toArray.size]!)) [(0, .agg #[c0, c1, c2, c3, c4, c5, c6, c7, c8, c9, c10, c11, c12, c13, c14, c15, c16, c17, c18, c19, c20])] = some #[c0, c1, c2, c3, c4, c5, c6, c7, c8, c9, c10, c11, c12, c13, c14, c15, c16, c17, c18, c19, c20] := by kernel_rfl
theorem fill46 (cs : List Value) (h : cs.length = 21) : Instr.fill (fun i => some (i * 21, 21)) ((Array.range (1 * 21)).map (azero.cells.toArray[· % azero.cells.toArray.size]!)) [(0, .agg cs.toArray)] = some cs.toArray := by
  match cs, h with
  | [c0, c1, c2, c3, c4, c5, c6, c7, c8, c9, c10, c11, c12, c13, c14, c15, c16, c17, c18, c19, c20], _ => exact fill46v c0 c1 c2 c3 c4 c5 c6 c7 c8 c9 c10 c11 c12 c13 c14 c15 c16 c17 c18 c19 c20
/-- A box is made and filled. -/
theorem box_below {w w' : World} {o : Obj} (h : Only w.heap.size (w.alloc o) w') : Below w.heap.size w w' := (new_below w o).trans (h.below (Nat.le_refl _) (by simp))
/-- The call answers a slice that holds the row. -/
def GivesR (w : World) (l : List Am) (e : Ending) (w' : World) : Prop := (∃ A n cap, e = .returned (.slice A n cap) ∧ RowV w' A n cap l) ∧ Below w.heap.size w w'
theorem wpList_eq_ky {ops : Array Oper} {rest : List Oper} {op : Oper} {a : Act} {w : World} {Q : Exit → Act → World → Prop} (hgd : op.guard = none) (x y : Operand) (t : TypeId) (ho : op.op = .binOp .eql 75 x y t) (A B : Ky) (b : Bool) (hx : a.eval x = .agg A.cells.toArray) (hy : a.eval y = .agg B.cells.toArray) (hA : A.Ok) (hB : B.Ok) (hb : decide (A = B) = b)
    (hk : wpList Try.prog ops Q rest (a.put op.dst (.bool b)) w) : wpList Try.prog ops Q (op :: rest) a w :=
  wpList_val hgd _ (by rw [exec_eq_ky x y t ho A B hx hy hA.ml hB.ml, hb]) hk
theorem quiet_eq_ky {o : Oper} {a : Act} {W : World} {K : Act → Prop} (x y : Operand) (t : TypeId) (ho : o.op = .binOp .eql 75 x y t) (A B : Ky) (b : Bool) (hx : a.eval x = .agg A.cells.toArray) (hy : a.eval y = .agg B.cells.toArray) (hA : A.Ok) (hB : B.Ok) (hb : decide (A = B) = b)
    (hk : K (a.put o.dst (.bool b))) : o.quiet Try.prog a (Cls W) K := quiet_val _ (fun _ => by rw [exec_eq_ky x y t ho A B hx hy hA.ml hB.ml, hb]) hk
theorem take_getD {l : List Am} {j : Nat} (h : j < l.length) : l.take (j + 1) = l.take j ++ [l.getD j azero] := by
  rw [List.take_add_one]
  simp [List.getD, List.getElem?_eq_getElem h]
theorem Blk.upto {w w' : World} {B g t : Nat} {cs : List Value} (h : Blk w g t cs) (hb : Below B w w') (hg : g < B) : Blk w' g t cs := (hb.block g hg).trans h
end Go.Proofs.Ytpgafijeecmgmaa
