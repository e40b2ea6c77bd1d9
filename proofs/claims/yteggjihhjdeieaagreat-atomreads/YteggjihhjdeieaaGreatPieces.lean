/- Pieces as values and in memory; the contracts of Large of the reference and of write of the law. -/
import Derived.Test.YteggjihhjdeieaaGreatWriterB
namespace Go.Proofs.YteggjihhjdeieaaGreat
open Go.RowKit

/-- A piece: what its fields hold. -/
structure Pc where
  d : Int
  x : Int
  c : Int
  m : List Int
  v : Value
  n : Int
  b : List Int
def Pc.cells (p : Pc) : List Value := .int .i64 p.d :: .int .u64 p.x :: .int .u8 p.c :: (p.m.map (Value.int .u8) ++ [p.v, .int .i64 p.n])
structure Pc.Ok (p : Pc) (w : World) : Prop where
  ml : p.m.length = 8
  mb : M.Bytes p.m
  x0 : 0 ≤ p.x
  x1 : p.x < 18446744073709551616
  c0 : 0 ≤ p.c
  c1 : p.c < 256
  n1 : p.n < 9223372036854775808
  vb : BytesAt w p.v p.b
theorem Pc.Ok.below {p : Pc} {w w' : World} (h : p.Ok w) (hb : Below w.heap.size w w') : p.Ok w' := ⟨h.ml, h.mb, h.x0, h.x1, h.c0, h.c1, h.n1, h.vb.below hb⟩
theorem cells_len {p : Pc} (h : p.m.length = 8) : p.cells.length = 13 := by simp [Pc.cells, h]
theorem cells0 (p : Pc) : p.cells[0]? = some (.int .i64 p.d) := rfl
theorem cells1 (p : Pc) : p.cells[1]? = some (.int .u64 p.x) := rfl
theorem cells2 (p : Pc) : p.cells[2]? = some (.int .u8 p.c) := rfl
theorem cells11 {p : Pc} (h : p.m.length = 8) : p.cells[11]? = some p.v := by simp [Pc.cells, h]
theorem cells12 {p : Pc} (h : p.m.length = 8) : p.cells[12]? = some (.int .i64 p.n) := by simp [Pc.cells, h]
theorem cells_name {p : Pc} (h : p.m.length = 8) (j : Nat) (hj : j < 8) : p.cells[3 + j]? = some (.int .u8 (p.m[j]'(by omega))) := by
  rw [show 3 + j = j + 3 by omega]
  simp only [Pc.cells, List.getElem?_cons_succ]
  rw [List.getElem?_append_left (by simp; omega), List.getElem?_map, List.getElem?_eq_getElem (by omega)]
  rfl
theorem range_name {w : World} {g o : Nat} {p : Pc} (hr : w.rangeAt g o p.cells) (h : p.m.length = 8) : w.rangeAt g (o + 3) (p.m.map (Value.int .u8)) := fun j v hv => by
  have hj : j < 8 := by
    have := (List.getElem?_eq_some_iff.1 hv).1
    simpa [h] using this
  rw [Nat.add_assoc, hr (3 + j) _ (cells_name h j hj)]
  rw [List.getElem?_map, List.getElem?_eq_getElem (by omega)] at hv
  exact hv
theorem info33 : (Tryz.prog.info? 56).map (·.size) = some 13 := by kernel_rfl
theorem size33 {p : Pc} (h : p.m.length = 8) : (Tryz.prog.info? 56).map (·.size) = some p.cells.length := by rw [cells_len h]; exact info33
theorem one33 {p : Pc} (hv : p.v.oneCell' = true) : p.cells.toArray.all (·.oneCell') = true := by
  refine all_oneCell_toArray fun v hm => ?_
  unfold Pc.cells at hm
  rcases List.mem_cons.1 hm with rfl | hm
  · rfl
  · rcases List.mem_cons.1 hm with rfl | hm
    · rfl
    · rcases List.mem_cons.1 hm with rfl | hm
      · rfl
      · rcases List.mem_append.1 hm with hm | hm
        · obtain ⟨y, _, rfl⟩ := List.mem_map.1 hm; rfl
        · rcases List.mem_cons.1 hm with rfl | hm
          · exact hv
          · obtain rfl := List.mem_singleton.1 hm; rfl
theorem range_below {w w' : World} {g o : Nat} {cs : List Value} (h : w.rangeAt g o cs) (hg : g < w.heap.size) (hb : Below w.heap.size w w') : w'.rangeAt g o cs := fun j v hv => (hb.cell (p := ⟨g, o + j, none⟩) hg).trans (h j v hv)
end Go.Proofs.YteggjihhjdeieaaGreat
