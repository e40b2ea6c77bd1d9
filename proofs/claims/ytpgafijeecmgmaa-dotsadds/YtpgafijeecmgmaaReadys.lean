/- The contracts of find and of Rows of the reference. Steps of regions that draw their order: a slice of one atom is made; an atom is appended; a box is made. -/
import Derived.Test.YtpgafijeecmgmaaLists
namespace Go.Proofs.Ytpgafijeecmgmaa
open Go.RowKit

theorem drop_getD {l : List Am} {j : Nat} (h : j < l.length) : l.drop j = l.getD j azero :: l.drop (j + 1) := by
  rw [List.drop_eq_getElem_cons h]
  simp [List.getD, List.getElem?_eq_getElem h]
/-- The call answers a value and whether there is one. -/
def GivesV (w : World) (o : Option Vl) (e : Ending) (w' : World) : Prop := e = .returned (.tuple #[.agg (o.getD vzero).cells.toArray, .bool o.isSome]) ∧ Below w.heap.size w w'
end Go.Proofs.Ytpgafijeecmgmaa
namespace Go.Proofs.Ytpgafijeecmgmaa
open Go.RowKit


/-! Putting an atom where it belongs, round by round. -/
def PutI (s : List Am) (a : Am) (j : Nat) (d : Bool) (out : List Am) : Prop :=
  (d = false ∧ out ++ put (s.drop j) a = put s a) ∨ (d = true ∧ out ++ s.drop j = put s a ∧ ∀ y ∈ s.drop j, y.k ≠ a.k)
theorem put_len : ∀ (s : List Am) (a : Am), (put s a).length ≤ s.length + 1
  | [], _ => Nat.le_refl _
  | x :: s, a => by
    have := put_len s a
    unfold put
    split
    · simp
    · split
      · simp
      · simp only [List.length_cons]; omega
theorem PutI.len {s : List Am} {a : Am} {j : Nat} {d : Bool} {out : List Am} (h : PutI s a j d out) : out.length ≤ s.length + 1 := by
  have := put_len s a
  rcases h with ⟨_, h⟩ | ⟨_, h, _⟩
  · rw [← h, List.length_append] at this; omega
  · rw [← h, List.length_append] at this; omega
theorem PutI.start (s : List Am) (a : Am) : PutI s a 0 false [] := .inl ⟨rfl, rfl⟩
theorem St.drop {s : List Am} (h : St s) (j : Nat) : St (s.drop j) := ⟨h.ok.sub (fun _ ha => List.mem_of_mem_drop ha), fun a ha => h.rt a (List.mem_of_mem_drop ha), h.so.sublist (List.drop_sublist _ _)⟩
section
variable {s : List Am} {a x : Am} {j : Nat} {out : List Am}
theorem PutI.eq (h : PutI s a j false out) (hs : St s) (hd : s.drop j = x :: s.drop (j + 1)) (hk : x.k = a.k) : PutI s a (j + 1) true (out ++ [⟨a.k, more x.v a.v⟩]) := by
  rcases h with ⟨_, h⟩ | ⟨e, _⟩
  · refine .inr ⟨rfl, ?_, fun y hy e => ?_⟩
    · rw [← h, hd, put, if_pos hk, List.append_assoc]; rfl
    · have h1 := (hd ▸ hs.drop j : St (x :: s.drop (j + 1))).low y hy
      rw [e, ← hk] at h1; omega
  · cases e
theorem PutI.less (h : PutI s a j false out) (hs : St s) (ha : a.Ok) (hx : x.Ok) (hd : s.drop j = x :: s.drop (j + 1)) (hk : x.k ≠ a.k) (hl : a.k.less x.k = true) : PutI s a (j + 1) true (out ++ [a] ++ [x]) := by
  rcases h with ⟨_, h⟩ | ⟨e, _⟩
  · refine .inr ⟨rfl, ?_, fun y hy e => ?_⟩
    · rw [← h, hd, put, if_neg hk, if_pos hl]; simp
    · have h1 := (hd ▸ hs.drop j : St (x :: s.drop (j + 1))).low y hy
      rw [less_kn ha.k hx.k] at hl
      have := of_decide_eq_true hl
      rw [e] at h1; omega
  · cases e
theorem PutI.more (h : PutI s a j false out) (hd : s.drop j = x :: s.drop (j + 1)) (hk : x.k ≠ a.k) (hl : a.k.less x.k = false) : PutI s a (j + 1) false (out ++ [x]) := by
  rcases h with ⟨_, h⟩ | ⟨e, _⟩
  · refine .inl ⟨rfl, ?_⟩
    rw [← h, hd, put, if_neg hk, if_neg (by rw [hl]; decide)]; simp
  · cases e
theorem PutI.past (h : PutI s a j true out) (hd : s.drop j = x :: s.drop (j + 1)) : x.k ≠ a.k ∧ PutI s a (j + 1) true (out ++ [x]) := by
  rcases h with ⟨e, _⟩ | ⟨_, h, hk⟩
  · cases e
  · rw [hd] at h hk
    exact ⟨hk x (List.mem_cons_self ..), .inr ⟨rfl, by rw [← h]; simp, fun y hy => hk y (List.mem_cons_of_mem _ hy)⟩⟩
theorem PutI.done (h : PutI s a s.length true out) : out = put s a := by
  rcases h with ⟨e, _⟩ | ⟨_, h, _⟩
  · cases e
  · rw [← h, List.drop_length, List.append_nil]
theorem PutI.last (h : PutI s a s.length false out) : out ++ [a] = put s a := by
  rcases h with ⟨_, h⟩ | ⟨e, _⟩
  · rw [← h, List.drop_length]; rfl
  · cases e
end
end Go.Proofs.Ytpgafijeecmgmaa
