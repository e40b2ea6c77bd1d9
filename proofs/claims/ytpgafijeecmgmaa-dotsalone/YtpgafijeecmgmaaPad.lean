/- The contracts of the functions on the bytes of names. The contracts of pad of package name and of Pad of the reference. -/
import Derived.Test.YtpgafijeecmgmaaNames
import Derived.Laws.BitsAllLaws
namespace Go.Proofs.Ytpgafijeecmgmaa
open Go.RowKit

end Go.Proofs.Ytpgafijeecmgmaa
namespace Go.Proofs.Ytpgafijeecmgmaa
open Go.RowKit

theorem sizeof5 (w : World) : (sizeOf 5).run Try.prog w = .ok 1 w := by
  have h : (Try.prog.info? 5).map (·.size) = some 1 := by kernel_rfl
  cases hq : Try.prog.info? 5 with
  | none => simp [hq] at h
  | some i =>
    have hi : i.size = 1 := by simpa [hq] using h
    simp [sizeOf, typeInfo, hq, hi]
theorem index_nm (l : List Int) (hl : l.length = 8) (k : Nat) (h : k < 8) (w : World) : (Instr.index 73 (.agg (nm l)) (.int .i64 k)).run Try.prog w = .ok (.int .u8 (l[k]'(by omega))) w := by
  have h1 : (0 : Int) ≤ (k : Int) ∧ (k : Int) < 8 := by omega
  have h2 := part_nm l k (by omega) w
  simp only [Instr.index, asIntOf, Sem.run_bind, Sem.run_pure, Result.andThen_ok, run_underlying Try.underlying73]
  simp only [Int.natCast_nonneg, true_and]
  rw [if_pos (by omega)]
  simp only [Sem.run_bind, sizeof5, Result.andThen_ok, Nat.mul_one, Int.toNat_natCast]
  exact h2
theorem take_bytes {l : List Int} (h : M.Bytes l) (k : Nat) : M.Bytes (l.take k) := fun x hx => h x (List.mem_of_mem_take hx)
/-- A row of a name being filled. -/
abbrev rowN (f : Nat → Int) : Nat → Value := fun j => .int .u8 (f j)
theorem row_all {w : World} {g : Nat} {l : List Int} (hl : l.length = 8) {f : Nat → Int} (h : w.rowIs g 73 8 (rowN f)) (hf : ∀ i (hi : i < l.length), f i = l[i]) : At w g l := by
  obtain ⟨c, h1, h2, h3⟩ := h
  have e : c = nm l := nm_of (by omega) (fun i hi => by rw [h3 i (by omega)]; show some (Value.int .u8 (f i)) = _; rw [hf i hi])
  unfold At
  rw [← e]
  exact h1
theorem row_zero (w : World) : (w.alloc (.cells (nm M.zero8) 73)).rowIs w.heap.size 73 8 (rowN fun _ => 0) := by
  have h := World.rowIs_alloc w (nm M.zero8) 73 (rowN fun _ => 0) (fun i hi => by
    rw [nm_size] at hi
    have : i = 0 ∨ i = 1 ∨ i = 2 ∨ i = 3 ∨ i = 4 ∨ i = 5 ∨ i = 6 ∨ i = 7 := by simp [M.zero8] at hi; omega
    rcases this with rfl | rfl | rfl | rfl | rfl | rfl | rfl | rfl <;> rfl)
  rwa [nm_size] at h
theorem at_setCell {w : World} {g b o : Nat} {l : List Int} (v : Value) (h : At w g l) (hne : b ≠ g) : At (w.setCell ⟨b, o, none⟩ v) g l := by
  unfold At at *
  rw [← h]
  simp [World.setCell, Array.getElem?_modify, hne]
theorem two_at (w : World) (o : Obj) : At ((w.alloc (.cells (nm M.zero8) 73)).alloc o) w.heap.size M.zero8 := (at_alloc w M.zero8).below ((Below.refl _ _).alloc (Nat.le_refl _) _)
theorem two_row (w : World) (o : Obj) : ((w.alloc o).alloc (.cells (nm M.zero8) 73)).rowIs (w.heap.size + 1) 73 8 (rowN fun _ => 0) := by
  have := row_zero (w.alloc o)
  simpa using this
theorem two_below (w : World) (o o' : Obj) : Below w.heap.size w ((w.alloc o).alloc o') := ((Below.refl _ _).alloc (Nat.le_refl _) _).alloc (by simp) _
theorem size5 : (Try.prog.info? 5).map (·.size) = some 1 := by kernel_rfl
theorem str_cells (t : List Int) (hb : M.Bytes t) (n : Nat) : (((strOfNums t).extract 0 n).data.map fun b => Value.int .u8 b.toNat).toList = (t.take n).map (Value.int .u8) := by
  rw [Array.toList_map, ByteArray.data_extract]
  have e : ((strOfNums t).data.extract 0 n).toList = (t.take n).map fun x => UInt8.ofNat x.toNat := by
    rw [Array.toList_extract, strOfNums_data, List.extract_eq_take_drop, List.drop_zero, ← List.map_take]
    simp
  rw [e, List.map_map]
  apply List.map_congr_left
  intro x hx
  show Value.int .u8 ((UInt8.ofNat x.toNat).toNat : Int) = Value.int .u8 x
  rw [M.byte_back (hb x (List.mem_of_mem_take hx))]
theorem pad_cells (t : List Int) : ((t.take (Nat.min t.length 8)).map (Value.int .u8) ++ (nm M.zero8).toList.drop (Nat.min t.length 8)).toArray = nm (M.pad t) := by
  refine nm_of ?_ fun i hi => ?_
  · rw [M.pad_len]
    have : (nm M.zero8).toList.length = 8 := rfl
    have hm : (Nat.min t.length 8) = min t.length 8 := rfl
    simp only [List.size_toArray, List.length_append, List.length_map, List.length_take, List.length_drop, this]
    omega
  · rw [M.pad_len] at hi
    have hp := M.pad_get t i hi
    rw [List.getElem?_eq_getElem (by rw [M.pad_len]; omega)] at hp
    injection hp with hp
    rw [hp, List.getElem?_toArray]
    have hm : (Nat.min t.length 8) = min t.length 8 := rfl
    by_cases h : i < t.length
    · rw [List.getElem?_append_left (by simp; omega), List.getElem?_map, List.getElem?_take, if_pos (by omega), List.getElem?_eq_getElem h, List.getD_eq_getElem?_getD, List.getElem?_eq_getElem h]
      rfl
    · rw [List.getElem?_append_right (by simp; omega), List.getElem?_drop, List.getD_eq_getElem?_getD, List.getElem?_eq_none (by omega : t.length ≤ i)]
      have e : (List.map (Value.int IntKind.u8) (List.take (Nat.min t.length 8) t)).length = min t.length 8 := by simp
      rw [e, show Nat.min t.length 8 + (i - min t.length 8) = i by omega]
      have : i = 0 ∨ i = 1 ∨ i = 2 ∨ i = 3 ∨ i = 4 ∨ i = 5 ∨ i = 6 ∨ i = 7 := by omega
      rcases this with rfl | rfl | rfl | rfl | rfl | rfl | rfl | rfl <;> rfl
theorem at_setRow {w : World} {g b : Nat} {l : List Int} (cs : Array Value) (h : At w g l) (hne : g ≠ b) : At (w.setRow b cs) g l := by
  unfold At at *
  rw [setRow_other w b g cs hne]
  exact h
theorem at_setRow_same {w : World} {g : Nat} {l m : List Int} (h : At w g l) : At (w.setRow g (nm m)) g m := setRow_heap _ _ _ _ _ _ h
theorem two_last (w : World) (o : Obj) (l : List Int) : At ((w.alloc o).alloc (.cells (nm l) 73)) (w.heap.size + 1) l := by
  have := at_alloc (w.alloc o) l
  simpa using this
theorem index_str (t : List Int) (hb : M.Bytes t) (k : Nat) (h : k < t.length) (w : World) : (Instr.index 9 (.string (strOfNums t)) (.int .i64 k)).run Try.prog w = .ok (.int .u8 t[k]) w := by
  have e : (strOfNums t)[k]? = some (UInt8.ofNat (t[k]).toNat) := by
    have hk : k < (strOfNums t).size := by rw [strOfNums_size]; exact h
    rw [getElem?_pos (strOfNums t) k hk]
    congr 1
    show (strOfNums t).data[k] = _
    rw [← Array.getElem_toList]
    simp [strOfNums_data]
  simp only [Instr.index, asIntOf, Sem.run_bind, Sem.run_pure, Result.andThen_ok, run_underlying Try.underlying9, Int.natCast_nonneg, if_true, Int.toNat_natCast, e]
  rw [M.byte_back (hb.at_ k h)]
def padF (t : List Int) (k : Nat) : Nat → Int := fun j => if j < k then t.getD j 0 else 0
theorem padF_step {w : World} {g : Nat} {t : List Int} {k : Nat} {c : Int} (h : w.rowIs g 73 8 (rowN (padF t k))) (hc : t.getD k 0 = c) : (w.setCell ⟨g, k, none⟩ (.int .u8 c)).rowIs g 73 8 (rowN (padF t (k + 1))) := by
  refine (h.set k (.int .u8 c)).congr fun j _ => ?_
  show (if j = k then _ else Value.int .u8 (padF t k j)) = Value.int .u8 (padF t (k + 1) j)
  unfold padF
  by_cases e : j = k
  · rw [if_pos e, if_pos (by omega), e, hc]
  · rw [if_neg e]
    by_cases hl : j < k
    · rw [if_pos hl, if_pos (by omega)]
    · rw [if_neg hl, if_neg (by omega)]
theorem padF_all (t : List Int) (k : Nat) (hk : 8 ≤ k ∨ t.length ≤ k) (i : Nat) (hi : i < (M.pad t).length) : padF t k i = (M.pad t)[i] := by
  have h8 := hi
  rw [M.pad_len] at h8
  have hp := M.pad_get t i h8
  rw [List.getElem?_eq_getElem hi] at hp
  injection hp with hp
  rw [hp]
  unfold padF
  by_cases h : i < k
  · rw [if_pos h]
  · rw [if_neg h, List.getD_eq_getElem?_getD, List.getElem?_eq_none (by omega)]
    rfl
end Go.Proofs.Ytpgafijeecmgmaa
