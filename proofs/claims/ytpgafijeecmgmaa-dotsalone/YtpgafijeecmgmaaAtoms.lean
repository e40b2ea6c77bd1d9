/- Values and atoms as values and in memory: loads, stores, builds and comparisons of whole ones. -/
import Derived.Test.YtpgafijeecmgmaaMathN
import Derived.Test.YtpgafijeecmgmaaKeys
import Derived.Test.YtpgafijeecmgmaaSmallK
import Derived.Test.YtpgafijeecmgmaaTakes
namespace Go.Proofs.Ytpgafijeecmgmaa
open Go.RowKit

def Vl.cells (v : Vl) : List Value := .int .u64 v.n :: v.t.map (Value.int .u8)
def Am.cells (a : Am) : List Value := a.k.cells ++ a.v.cells
theorem vcells_len {v : Vl} (h : v.t.length = 8) : v.cells.length = 9 := by simp [Vl.cells, h]
theorem acells_len {a : Am} (h : a.Ok) : a.cells.length = 21 := by rw [Am.cells, List.length_append, kcells_len h.k.ml, vcells_len h.v.tl]
theorem vc0 (v : Vl) : v.cells[0]? = some (.int .u64 v.n) := rfl
theorem ac0 (a : Am) : a.cells[0]? = some (.int .u8 a.k.s) := rfl
theorem ac12 {a : Am} (h : a.Ok) : a.cells[12]? = some (.int .u64 a.v.n) := by
  rw [Am.cells, List.getElem?_append_right (by rw [kcells_len h.k.ml]; omega), kcells_len h.k.ml]
  rfl
theorem range_vnm {w : World} {g o : Nat} {v : Vl} (hr : w.rangeAt g o v.cells) : w.rangeAt g (o + 1) (v.t.map (Value.int .u8)) := fun j x hx => by
  rw [Nat.add_assoc, Nat.add_comm 1 j, hr (j + 1) x hx]
theorem one30 (v : Vl) : v.cells.toArray.all (·.oneCell') = true := by
  refine all_oneCell_toArray fun x hm => ?_
  unfold Vl.cells at hm
  rcases List.mem_cons.1 hm with rfl | hm
  · rfl
  · obtain ⟨y, _, rfl⟩ := List.mem_map.1 hm; rfl
theorem all_list {cs : List Value} (h : cs.toArray.all (·.oneCell') = true) (v : Value) (hv : v ∈ cs) : v.oneCell' = true := by
  rw [List.all_toArray, List.all_eq_true] at h
  exact h v hv
theorem one32 (a : Am) : a.cells.toArray.all (·.oneCell') = true := by
  refine all_oneCell_toArray fun x hm => ?_
  unfold Am.cells at hm
  rcases List.mem_append.1 hm with hm | hm
  · exact all_list (one27 _) _ hm
  · exact all_list (one30 _) _ hm
theorem setL_vnm {v : Vl} (hk : v.t.length = 8) (m : List Int) (hm : m.length = 8) : setL v.cells 1 (m.map (Value.int .u8)) = ({ v with t := m } : Vl).cells := by
  apply List.ext_getElem?
  intro i
  have hl := vcells_len hk
  have hl' := vcells_len (v := { v with t := m }) hm
  rw [setL_get _ _ 1 i (by rw [List.length_map]; omega), List.length_map, hm]
  by_cases h1 : 1 ≤ i ∧ i < 1 + 8
  · rw [if_pos h1]
    obtain ⟨j, rfl⟩ : ∃ j, i = j + 1 := ⟨i - 1, by omega⟩
    rfl
  · rw [if_neg h1]
    by_cases h2 : i = 0
    · subst h2; rfl
    · rw [List.getElem?_eq_none (by omega), List.getElem?_eq_none (by omega)]
theorem vset0 (v : Vl) (x : Int) : v.cells.set 0 (.int .u64 x) = ({ v with n := x } : Vl).cells := rfl


theorem part_row {t n : Nat} {d : TypeDesc} (cs : Array Value) (o : Nat) (ds : List Value) (hu : Try.prog.underlying t = some d) (hd : d.isRow = true) (hs : (Try.prog.info? t).map (·.size) = some n) (hx : cs.extract o (o + n) = ds.toArray) (w : World) :
    (Go.part t cs o).run Try.prog w = .ok (.agg ds.toArray) w := by
  have hsz : (sizeOf t).run Try.prog w = .ok n w := by
    cases hq : Try.prog.info? t with
    | none => simp [hq] at hs
    | some i =>
      have hi : i.size = n := by simpa [hq] using hs
      simp [sizeOf, typeInfo, hq, hi]
  have ha : (isAgg t).run Try.prog w = .ok true w := by
    simp only [isAgg, Sem.run_bind, run_underlying hu, Result.andThen_ok]
    cases d <;> simp_all [TypeDesc.isRow]
  simp only [Go.part, Sem.run_bind, ha, Result.andThen_ok, Sem.run_pure, if_true, hsz, hx]
theorem part_vt (v : Vl) (h : v.t.length = 8) (w : World) : (Go.part 73 v.cells.toArray 1).run Try.prog w = .ok (.agg (nm v.t)) w := by
  refine part_row v.cells.toArray 1 (v.t.map (Value.int .u8)) Try.underlying73 rfl size23 ?_ w
  apply Array.ext'
  rw [Array.toList_extract]
  simp only [Vl.cells]
  rw [List.extract_eq_take_drop]
  simp only [List.drop_succ_cons, List.drop_zero]
  rw [show 1 + 8 - 1 = (v.t.map (Value.int .u8)).length by rw [List.length_map, h]]
  exact List.take_length
theorem part_ak (a : Am) (h : a.Ok) (w : World) : (Go.part 75 a.cells.toArray 0).run Try.prog w = .ok (.agg a.k.cells.toArray) w := by
  refine part_row a.cells.toArray 0 a.k.cells Try.underlying75 rfl (zero_of_info info27z).2 ?_ w
  apply Array.ext'
  rw [Array.toList_extract]
  simp only [Am.cells]
  rw [List.extract_eq_take_drop, List.drop_zero, show 0 + 12 - 0 = a.k.cells.length by rw [kcells_len h.k.ml]]
  exact List.take_left' rfl
theorem quiet_load_nmo {o : Oper} {a : Act} {W : World} {K : Act → Prop} (G off : Nat) (t : List Int) (x : Operand) (ho : o.op = .load 73 x) (hx : a.eval x = .pointer (some ⟨G, off, none⟩)) (hat : W.rangeAt G off (t.map (Value.int .u8))) (hG : G < W.heap.size) (hm : t.length = 8)
    (hk : K (a.put o.dst (.agg (nm t)))) : o.quiet Try.prog a (Cls W) K := quiet_load_cs 73 G off (t.map (Value.int .u8)) _ x ho hx hat hG Try.underlying73 rfl (by rw [List.length_map, hm]; exact size23) hk
end Go.Proofs.Ytpgafijeecmgmaa
