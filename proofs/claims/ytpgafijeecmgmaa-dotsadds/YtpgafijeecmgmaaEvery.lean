/- The contract of Text of package name. The contracts of every, and of Is and Text of the reference. -/
import Derived.Test.YtpgafijeecmgmaaPad
import Derived.Lib.BytesEntry
namespace Go.Proofs.Ytpgafijeecmgmaa
open Go.RowKit

theorem text_index : ∀ (l : List Int), M.Bytes l → (Lib.indexByte (Lib.bytesOf l) 0 = -1 ∧ M.text l = l) ∨ ∃ o : Nat, o < l.length ∧ Lib.indexByte (Lib.bytesOf l) 0 = (o : Int) ∧ M.text l = l.take o
  | [], _ => .inl ⟨rfl, rfl⟩
  | c :: l, h => by
    have hc := h.head
    rw [M.text_cons]
    by_cases h0 : c = 0
    · subst h0
      exact .inr ⟨0, by simp, rfl, by simp⟩
    · rw [if_neg h0]
      have hne : (UInt8.ofNat c.toNat == 0) = false := by
        rw [beq_eq_false_iff_ne]
        intro e
        have := congrArg UInt8.toNat e
        simp at this
        omega
      rcases text_index l h.tail with ⟨h1, h2⟩ | ⟨o, h1, h2, h3⟩
      · left
        refine ⟨?_, by rw [h2]⟩
        show Lib.indexByte (UInt8.ofNat c.toNat :: Lib.bytesOf l) 0 = -1
        simp [Lib.indexByte, hne, h1]
      · right
        refine ⟨o + 1, by simpa using h1, ?_, by rw [h3]; rfl⟩
        show Lib.indexByte (UInt8.ofNat c.toNat :: Lib.bytesOf l) 0 = _
        simp [Lib.indexByte, hne, h2]
def Cuts (w : World) (g : Nat) (l : List Int) (e : Ending) (w' : World) : Prop := ∃ va f, e = .returned (.tuple #[.slice (some ⟨g, 0, none⟩) (M.text l).length 8, va, .bool f]) ∧ Below w.heap.size w w'
theorem cuts_mk {w w' : World} {g n : Nat} {l : List Int} {va : Value} {f : Bool} (hn : (M.text l).length = n) (hb : Below w.heap.size w w') : Cuts w g l (.returned (.tuple #[.slice (some ⟨g, 0, none⟩) n 8, va, .bool f])) w' := ⟨va, f, by rw [hn], hb⟩
theorem one_zero (w : World) (l : List Int) : ((w.alloc (.cells (nm l) 73)).alloc (.cells #[.int .u8 0] 5)).cell? ⟨w.heap.size + 1, 0, none⟩ = some (.int .u8 0) := by
  rw [cell_of_row _ (w.heap.size + 1) 0 #[.int .u8 0] 5 (0, 0) (by have := heap_alloc_last (w.alloc (.cells (nm l) 73)) (.cells #[.int .u8 0] 5); simpa using this)]
  rfl
theorem text_take (l : List Int) : l.take (M.text l).length = M.text l := by
  have h := List.takeWhile_prefix (l := l) (· != 0)
  exact (List.prefix_iff_eq_take.1 h).symm
end Go.Proofs.Ytpgafijeecmgmaa
namespace Go.Proofs.Ytpgafijeecmgmaa
open Go.RowKit

theorem every_from (l : List Int) (k : Nat) (h : k < l.length) : M.everyFrom k (l.drop k) = (M.good k l[k] && M.everyFrom (k + 1) (l.drop (k + 1))) := by
  rw [List.drop_eq_getElem_cons h]
  rfl
theorem every_end (l : List Int) (k : Nat) (h : l.length ≤ k) : M.everyFrom k (l.drop k) = true := by
  rw [List.drop_eq_nil_of_le h]
  rfl
theorem all_from (l : List Int) (k : Nat) (h : k < l.length) : (l.drop k).all M.other = (M.other l[k] && (l.drop (k + 1)).all M.other) := by
  rw [List.drop_eq_getElem_cons h, List.all_cons]
theorem head_is : ∀ (t : List Int) (h : 0 < t.length), t.headD 0 = t[0]
  | _ :: _, _ => rfl
theorem text_more (l : List Int) (k : Nat) (h : k < l.length) (hc : l[k] ≠ 0) (ht : M.text l = l.take k ++ M.text (l.drop k)) : M.text l = l.take (k + 1) ++ M.text (l.drop (k + 1)) := by
  rw [ht, List.drop_eq_getElem_cons h, M.text_cons, if_neg hc, List.take_succ_eq_append_getElem h, List.append_assoc]
  rfl
theorem text_stop (l : List Int) (k : Nat) (h : k < l.length) (hc : l[k] = 0) (ht : M.text l = l.take k ++ M.text (l.drop k)) : M.text l = l.take k := by
  rw [ht, List.drop_eq_getElem_cons h, M.text_cons, if_pos hc, List.append_nil]
theorem str_app (a b : List Int) : strOfNums a ++ strOfNums b = strOfNums (a ++ b) := by
  unfold strOfNums
  rw [ByteArray.mk_append_mk, List.map_append]
theorem str_snoc (l : List Int) (k : Nat) (h : k < l.length) : strOfNums (l.take k) ++ strOfNums [l[k]] = strOfNums (l.take (k + 1)) := by
  rw [str_app, List.take_succ_eq_append_getElem h]
end Go.Proofs.Ytpgafijeecmgmaa
