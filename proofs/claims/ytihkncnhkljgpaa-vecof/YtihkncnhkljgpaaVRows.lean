/- Slices of vectors in memory. -/
import Derived.Test.YtihkncnhkljgpaaVecs
import Derived.Test.YtihkncnhkljgpaaLists
namespace Go.Proofs.Ytihkncnhkljgpaa
open Go.RowKit

/-- The slice of n vectors at A holds the list ls. -/
structure VsV (w : World) (A : Option Addr) (n cap : Nat) (ls : List (List Int)) : Prop where
  ok : ∀ l ∈ ls, VOk l
  len : ls.length = n
  le : n ≤ cap
  most : cap ≤ maxLen
  at_ : 0 < n → ∃ G off, A = some ⟨G, off, none⟩ ∧ G < w.heap.size ∧ ∀ i (h : i < ls.length), w.rangeAt G (off + i * 16) (vc ls[i])
theorem VsV.below {w w' : World} {A : Option Addr} {n cap : Nat} {l : List (List Int)} (h : VsV w A n cap l) (hb : Below w.heap.size w w') : VsV w' A n cap l :=
  ⟨h.ok, h.len, h.le, h.most, fun h0 => by
    obtain ⟨G, off, ha, hG, hr⟩ := h.at_ h0
    exact ⟨G, off, ha, Nat.lt_of_lt_of_le hG hb.size, fun i hi j v hv => (hb.cell (p := ⟨G, off + i * 16 + j, none⟩) hG).trans (hr i hi j v hv)⟩⟩
theorem VsV.drew {w : World} {A : Option Addr} {n cap : Nat} {l : List (List Int)} (h : VsV w A n cap l) : VsV w.drew A n cap l := h.below (below_drew (Below.refl _ _))
theorem vsV_nil (w : World) : VsV w none 0 0 [] := ⟨fun _ h => (by cases h), rfl, Nat.le_refl _, Nat.zero_le _, fun h => absurd h (Nat.lt_irrefl _)⟩
/-- Where the vector i of the list lies. -/
structure VElem (w : World) (A : Option Addr) (n G o i : Nat) (a : List Int) : Prop where
  ok : VOk a
  ad : ∃ off, A = some ⟨G, off, none⟩ ∧ o = off + i * 16
  lt : i < n
  blk : G < w.heap.size
  rg : w.rangeAt G o (vc a)
theorem VsV.elem {w : World} {A : Option Addr} {n cap : Nat} {l : List (List Int)} (h : VsV w A n cap l) (i : Nat) (hi : i < n) : ∃ G o, VElem w A n G o i (l.getD i vz) := by
  obtain ⟨G, off, ha, hG, hr⟩ := h.at_ (by omega)
  have hi' : i < l.length := by rw [h.len]; exact hi
  have e : l.getD i vz = l[i] := by simp [List.getD, List.getElem?_eq_getElem hi']
  rw [e]
  exact ⟨G, off + i * 16, h.ok _ (List.getElem_mem _), ⟨off, ha, rfl⟩, hi, hG, hr i hi'⟩
theorem VElem.below {w w' : World} {A : Option Addr} {n G o i : Nat} {a : List Int} (h : VElem w A n G o i a) (hb : Below w.heap.size w w') : VElem w' A n G o i a :=
  ⟨h.ok, h.ad, h.lt, Nat.lt_of_lt_of_le h.blk hb.size, fun j v hv => (hb.cell (p := ⟨G, o + j, none⟩) h.blk).trans (h.rg j v hv)⟩
end Go.Proofs.Ytihkncnhkljgpaa
