/- Loads and stores of whole pieces and of the names in them; the contract of write of the law. -/
import Derived.Test.YteggjihhjdeieaaGreatPieces
namespace Go.Proofs.YteggjihhjdeieaaGreat
open Go.RowKit

theorem wpList_load_nm {ops : Array Oper} {rest : List Oper} {op : Oper} {a : Act} {w : World} {Q : Exit → Act → World → Prop} (hgd : op.guard = none) (x : Operand) (ho : op.op = .load 24 x) (g o : Nat) (m : List Int)
    (hx : a.eval x = .pointer (some ⟨g, o, none⟩)) (hr : w.rangeAt g o (m.map (Value.int .u8))) (hm : m.length = 8) (h : wpList Tryz.prog ops Q rest (a.put op.dst (.agg (nm m))) w) : wpList Tryz.prog ops Q (op :: rest) a w :=
  wpList_load_mid hgd 24 x ho g o hx (m.map (Value.int .u8)) _ hr Tryz.underlying24 rfl (by rw [List.length_map, hm]; exact size23) h
theorem wpList_load_pc {ops : Array Oper} {rest : List Oper} {op : Oper} {a : Act} {w : World} {Q : Exit → Act → World → Prop} (hgd : op.guard = none) (x : Operand) (ho : op.op = .load 56 x) (g o : Nat) (p : Pc)
    (hx : a.eval x = .pointer (some ⟨g, o, none⟩)) (hr : w.rangeAt g o p.cells) (hm : p.m.length = 8) (h : wpList Tryz.prog ops Q rest (a.put op.dst (.agg p.cells.toArray)) w) : wpList Tryz.prog ops Q (op :: rest) a w :=
  wpList_load_mid hgd 56 x ho g o hx p.cells _ hr Tryz.underlying56 rfl (size33 hm) h
/-- Cells stored one behind the other. -/
def setL : List Value → Nat → List Value → List Value
  | cs, _, [] => cs
  | cs, o, v :: r => setL (cs.set o v) (o + 1) r
theorem setL_get : ∀ (vs cs : List Value) (o i : Nat), o + vs.length ≤ cs.length → (setL cs o vs)[i]? = if o ≤ i ∧ i < o + vs.length then vs[i - o]? else cs[i]?
  | [], cs, o, i, _ => by rw [if_neg (by rw [List.length_nil]; omega)]; rfl
  | v :: r, cs, o, i, h => by
    rw [List.length_cons] at h
    rw [setL, setL_get r (cs.set o v) (o + 1) i (by rw [List.length_set]; omega), List.length_cons]
    by_cases h1 : o + 1 ≤ i ∧ i < o + 1 + r.length
    · rw [if_pos h1, if_pos (by omega), show i - o = (i - (o + 1)) + 1 by omega, List.getElem?_cons_succ]
    · rw [if_neg h1]
      by_cases h2 : i = o
      · subst h2
        rw [if_pos (by omega), List.getElem?_set_self (by omega), Nat.sub_self]
        rfl
      · rw [if_neg (by omega), List.getElem?_set_ne (by omega)]
theorem Blk.setCells {g t : Nat} : ∀ (vs : List Value) (o : Nat) (w : World) (cs : List Value), Blk w g t cs → Blk (w.setCells g o vs) g t (setL cs o vs)
  | [], _, _, _, h => h
  | v :: r, o, w, cs, h => by
    rw [World.setCells, setL]
    exact Blk.setCells r (o + 1) _ _ (h.set o v)
theorem Only.setCells {g : Nat} : ∀ (vs : List Value) (o : Nat) (w : World), Only g w (w.setCells g o vs)
  | [], _, w => Only.refl g w
  | v :: r, o, w => by
    rw [World.setCells]
    exact (Only.set g o w v).trans (Only.setCells r (o + 1) _)
theorem setL_all (cs vs : List Value) (h : cs.length = vs.length) : setL cs 0 vs = vs := by
  apply List.ext_getElem?
  intro i
  rw [setL_get vs cs 0 i (by omega)]
  by_cases hi : i < vs.length
  · rw [if_pos (by omega)]; rfl
  · rw [if_neg (by omega), List.getElem?_eq_none (by omega), List.getElem?_eq_none (by omega)]
theorem setL_name {q : Pc} (hq : q.m.length = 8) (m : List Int) (hm : m.length = 8) : setL q.cells 3 (m.map (Value.int .u8)) = ({ q with m := m } : Pc).cells := by
  apply List.ext_getElem?
  intro i
  have hl := cells_len hq
  rw [setL_get _ _ 3 i (by rw [List.length_map]; omega), List.length_map, hm]
  by_cases h1 : 3 ≤ i ∧ i < 3 + 8
  · rw [if_pos h1]
    obtain ⟨j, rfl⟩ : ∃ j, i = 3 + j := ⟨i - 3, by omega⟩
    rw [cells_name (p := { q with m := m }) hm j (by omega), show 3 + j - 3 = j by omega, List.getElem?_map, List.getElem?_eq_getElem (by omega)]
    rfl
  · rw [if_neg h1]
    by_cases h2 : i < 3
    · have : i = 0 ∨ i = 1 ∨ i = 2 := by omega
      rcases this with rfl | rfl | rfl <;> rfl
    · by_cases h3 : i = 11
      · subst h3; rw [cells11 hq, cells11 (p := { q with m := m }) hm]
      · by_cases h4 : i = 12
        · subst h4; rw [cells12 hq, cells12 (p := { q with m := m }) hm]
        · rw [List.getElem?_eq_none (by omega), List.getElem?_eq_none (by rw [cells_len (p := { q with m := m }) hm]; omega)]
/-- A whole piece is stored. -/
theorem wpList_store_pc {ops : Array Oper} {rest : List Oper} {op : Oper} {a : Act} {w : World} {Q : Exit → Act → World → Prop} (hgd : op.guard = none) (x y : Operand) (ho : op.op = .store 56 x y) (g : Nat) (q p : Pc)
    (hx : a.eval x = .pointer (some ⟨g, 0, none⟩)) (hy : a.eval y = .agg p.cells.toArray) (hb : Blk w g 56 q.cells) (hq : q.m.length = 8) (hm : p.m.length = 8) (hv : p.v.oneCell' = true)
    (h : ∀ w', Hid (Blk w' g 56 p.cells) → Hid (Only g w w') → wpList Tryz.prog ops Q rest (a.put op.dst undef) w') : wpList Tryz.prog ops Q (op :: rest) a w := by
  have hs : p.cells.toArray.size = p.cells.length := List.size_toArray
  refine wpList_store_mid hgd 56 x y ho g 0 p.cells.toArray hx hy (hb.there 0 _ (by rw [hs, cells_len hq, cells_len hm]; omega)) (by rw [hs]; exact size33 hm) (one33 hv) ?_
  have hB := Blk.setCells p.cells 0 w q.cells hb
  rw [setL_all _ _ (by rw [cells_len hq, cells_len hm])] at hB
  exact h _ (Lib.hid hB) (Lib.hid (Only.setCells p.cells 0 w))
/-- A name is stored into a piece. -/
theorem wpList_store_nm {ops : Array Oper} {rest : List Oper} {op : Oper} {a : Act} {w : World} {Q : Exit → Act → World → Prop} (hgd : op.guard = none) (x y : Operand) (ho : op.op = .store 24 x y) (g : Nat) (q : Pc) (m : List Int)
    (hx : a.eval x = .pointer (some ⟨g, 3, none⟩)) (hy : a.eval y = .agg (nm m)) (hb : Blk w g 56 q.cells) (hq : q.m.length = 8) (hm : m.length = 8)
    (h : ∀ w', Hid (Blk w' g 56 ({ q with m := m } : Pc).cells) → Hid (Only g w w') → wpList Tryz.prog ops Q rest (a.put op.dst undef) w') : wpList Tryz.prog ops Q (op :: rest) a w := by
  refine wpList_store_mid hgd 24 x y ho g 3 (nm m) hx hy (hb.there 3 _ (by rw [nm_size, cells_len hq]; omega)) (by rw [nm_size, hm]; exact size23) (nm_one m) ?_
  have hB := Blk.setCells (m.map (Value.int .u8)) 3 w q.cells hb
  rw [setL_name hq m hm] at hB
  exact h _ (Lib.hid hB) (Lib.hid (Only.setCells _ 3 w))
theorem Blk.pc {w : World} {g : Nat} {p : Pc} (h : Blk w g 56 p.cells) : w.rangeAt g 0 p.cells := h.range
theorem Blk.nm {w : World} {g : Nat} {p : Pc} (h : Blk w g 56 p.cells) (hm : p.m.length = 8) : w.rangeAt g 3 (p.m.map (Value.int .u8)) := by
  have := range_name h.range hm
  rwa [Nat.zero_add] at this
theorem BytesAt.one {w : World} {v : Value} {l : List Int} (h : BytesAt w v l) : v.oneCell' = true := by
  obtain ⟨a, cap, rfl, _⟩ := h
  rfl
def Pc.enc (p : Pc) : List Int := M.enc p.d p.x p.c p.m p.b
end Go.Proofs.YteggjihhjdeieaaGreat
