/- The contract of Text of package name. -/
import Derived.Test.YtihkncnhkljgpaaPad
import Derived.Lib.BytesEntry
namespace Go.Proofs.Ytihkncnhkljgpaa
open Go.RowKit

theorem text_index : ∀ (l : List Int), M.Bytes l → (Lib.indexByte (Lib.bytesOf l) 0 = -1 ∧ M.text l = l) ∨ ∃ o : Nat, o < l.length ∧ Lib.indexByte (Lib.bytesOf l) 0 = (o : Int) ∧ M.text l = l.take o
  | [], _ => .inl ⟨rfl, rfl⟩
  | c :: l, h => by
    have hc := h.head
    rw [M.text_cons]
    by_cases h0 : c = 0
    · subst h0
      exact .inr ⟨0, by simp, rfl, by simp⟩
    · rw [if_neg h0]
      have hne : (UInt8.ofNat c.toNat == 0) = false := by
        rw [beq_eq_false_iff_ne]
        intro e
        have := congrArg UInt8.toNat e
        simp at this
        omega
      rcases text_index l h.tail with ⟨h1, h2⟩ | ⟨o, h1, h2, h3⟩
      · left
        refine ⟨?_, by rw [h2]⟩
        show Lib.indexByte (UInt8.ofNat c.toNat :: Lib.bytesOf l) 0 = -1
        simp [Lib.indexByte, hne, h1]
      · right
        refine ⟨o + 1, by simpa using h1, ?_, by rw [h3]; rfl⟩
        show Lib.indexByte (UInt8.ofNat c.toNat :: Lib.bytesOf l) 0 = _
        simp [Lib.indexByte, hne, h2]
theorem ext37 (args : Array Value) (w : World) : (callFunc 133 args).run Try.prog w = ((Extern.BytealgIndexByte.indexByte args).run Try.prog w).andThen fun v w' => .ok (.value v) w' :=
  run_callFunc_extern (P := Try.prog) Try.func133 (by kernel_rfl) (by kernel_rfl) (by kernel_rfl) (e := Extern.BytealgIndexByte.indexByte) (by kernel_rfl) args w
theorem indexByte_is (g : Nat) (l : List Int) (r : Int) (w : World) (hl : l.length = 8) (h : At w g l) (hr : Hid (Lib.indexByte (Lib.bytesOf l) 0 = r)) :
    Calls Try.prog 128 #[.slice (some ⟨g, 0, none⟩) 8 8, .int .u8 0] w fun e w' => e = .returned (.int .i64 r) ∧ w = w' := by
  have hx := ext37
  have hrun := Lib.run_indexByteSlice (P := Try.prog) w g 0 8 8 l hl (fun i hi => by rw [Nat.zero_add, h.cell i (by omega), List.getD_eq_getElem?_getD, List.getElem?_eq_getElem (by omega)]; rfl) 0
  have e0 : (0 : Int).toNat.toUInt8 = 0 := rfl
  rw [e0, hr.out] at hrun
  clear h e0
  go_enter Try.func128, Try.ntmps128
  go_wp2_with fail
  go_ret
  exact ⟨rfl, rfl⟩
set_option maxRecDepth 100000 in
theorem index_is (g g2 : Nat) (l : List Int) (r : Int) (w : World) (hl : l.length = 8) (h : At w g l) (h2 : w.cell? ⟨g2, 0, none⟩ = some (.int .u8 0)) (hr : Hid (Lib.indexByte (Lib.bytesOf l) 0 = r)) :
    Calls Try.prog 126 #[.slice (some ⟨g, 0, none⟩) 8 8, .slice (some ⟨g2, 0, none⟩) 1 1] w fun e w' => e = .returned (.int .i64 r) ∧ w = w' := by
  have H := Lib.hid h
  have HL := Lib.hid hl
  clear h hl
  go_enter Try.func126, Try.ntmps126
  go_wp2_with fail
  refine (indexByte_is g l r _ HL.out H.out hr).mono ?_
  rintro e w' ⟨rfl, rfl⟩
  go_wp2_with fail
  go_ret
  exact ⟨rfl, rfl⟩
def Cuts (w : World) (g : Nat) (l : List Int) (e : Ending) (w' : World) : Prop := ∃ va f, e = .returned (.tuple #[.slice (some ⟨g, 0, none⟩) (M.text l).length 8, va, .bool f]) ∧ Below w.heap.size w w'
theorem cuts_mk {w w' : World} {g n : Nat} {l : List Int} {va : Value} {f : Bool} (hn : (M.text l).length = n) (hb : Below w.heap.size w w') : Cuts w g l (.returned (.tuple #[.slice (some ⟨g, 0, none⟩) n 8, va, .bool f])) w' := ⟨va, f, by rw [hn], hb⟩
set_option maxRecDepth 100000 in
theorem cut_is (g g2 : Nat) (l : List Int) (w : World) (hl : l.length = 8) (hb : M.Bytes l) (h : At w g l) (h2 : w.cell? ⟨g2, 0, none⟩ = some (.int .u8 0)) :
    Calls Try.prog 122 #[.slice (some ⟨g, 0, none⟩) 8 8, .slice (some ⟨g2, 0, none⟩) 1 1] w (Cuts w g l) := by
  have H := Lib.hid h
  have HL := Lib.hid hl
  have H2 := Lib.hid h2
  clear h h2
  rcases text_index l hb with ⟨h1, ht⟩ | ⟨o, ho, h1, ht⟩
  · have HI := Lib.hid h1
    have HT := Lib.hid (show (M.text l).length = 8 by rw [ht, hl])
    clear h1 ht hl
    go_enter Try.func122, Try.ntmps122
    go_wp2_with fail
    refine (index_is g g2 l (-1) _ HL.out H.out H2.out HI).mono ?_
    rintro e w' ⟨rfl, rfl⟩
    go_wp2_with fail
    go_ret3
    exact cuts_mk HT.out (Below.refl _ _)
  · have HI := Lib.hid h1
    have HT := Lib.hid (show (M.text l).length = o by rw [ht, List.length_take]; omega)
    have ho8 : o < 8 := by omega
    have k1 : (0 : Int) ≤ (o : Int) := by omega
    have k2 : (o : Int) ≤ 8 := by omega
    have k3 : (o : Int) + 1 ≤ 8 := by omega
    have k4 : (0 : Int) ≤ (o : Int) + 1 := by omega
    clear h1 ht hl ho
    go_enter Try.func122, Try.ntmps122
    go_wp2_with fail
    refine (index_is g g2 l o _ HL.out H.out H2.out HI).mono ?_
    rintro e w' ⟨rfl, rfl⟩
    go_wp2_with fail
    go_quiet (fail)
    go_wp2_with fail
    all_goals
      go_ret3
      exact cuts_mk (by have := HT.out; omega) (below_drewN (Below.refl _ _) _)
theorem one_zero (w : World) (l : List Int) : ((w.alloc (.cells (nm l) 59)).alloc (.cells #[.int .u8 0] 5)).cell? ⟨w.heap.size + 1, 0, none⟩ = some (.int .u8 0) := by
  rw [cell_of_row _ (w.heap.size + 1) 0 #[.int .u8 0] 5 (0, 0) (by have := heap_alloc_last (w.alloc (.cells (nm l) 59)) (.cells #[.int .u8 0] 5); simpa using this)]
  rfl
theorem text_take (l : List Int) : l.take (M.text l).length = M.text l := by
  have h := List.takeWhile_prefix (l := l) (· != 0)
  exact (List.prefix_iff_eq_take.1 h).symm
set_option maxRecDepth 100000 in
theorem text_is (l : List Int) (s : ByteArray) (w : World) (hl : l.length = 8) (hb : Hid (M.Bytes l)) (hs : Hid (s = strOfNums (M.text l))) :
    Calls Try.prog 108 #[.agg (nm l)] w fun e w' => e = .returned (.string s) ∧ Below w.heap.size w w' := by
  have HL := Lib.hid hl
  clear hl
  go_enter Try.func108, Try.ntmps108
  go_wp2_with fail
  refine (cut_is w.heap.size (w.heap.size + 1) l _ HL.out hb.out ((at_alloc w l).below ((Below.refl _ _).alloc (Nat.le_refl _) _)) (one_zero w l)).mono ?_
  rintro e w1 ⟨va, f, rfl, b1⟩
  have A1 := ((at_alloc w l).below ((Below.refl _ _).alloc (Nat.le_refl _) _)).below b1
  have hcv : (convert 123 9 (.slice (some ⟨w.heap.size, 0, none⟩) (M.text l).length 8)).run Try.prog w1 = .ok (.string s) w1 := by
    rw [hs.out]
    exact run_convert_bytes_arg (P := Try.prog) w1 123 5 Try.underlying123 Try.underlying5 w.heap.size 0 (M.text l).length 8 (M.text l) rfl (fun i hi => by
      have hi2 : i < l.length := Nat.lt_of_lt_of_le hi (M.text_len l)
      rw [Nat.zero_add, A1.cell i hi2, List.getD_eq_getElem?_getD]
      have := text_take l
      rw [← this, List.getElem?_take, if_pos hi, List.getElem?_eq_getElem hi2]
      rfl) 9 Try.underlying9
  have B1 := Lib.hid ((two_below w _ _).trans (b1.mono (by simp; omega)))
  clear A1 b1
  go_wp2_with fail
  go_ret
  exact ⟨rfl, B1.out⟩
end Go.Proofs.Ytihkncnhkljgpaa
