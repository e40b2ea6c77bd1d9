/- Blocks whose cells are known, worlds that part in one block alone, cursors; the contracts of Err, Left, Done, keep and Fail of a cursor. -/
import Derived.Test.YtgggjhbijnndhaaOf
import Derived.Deep.MidRow
import Derived.Deep.RegionHeld3
import Derived.StillTailTactics
import Derived.BigRegion
import Derived.RegionTactic
namespace Go.Proofs.Ytgggjhbijnndhaa
open Go.RowKit

/-- Of the blocks that were there, g alone may have turned. -/
structure Only (g : Nat) (w w' : World) : Prop where
  os : w'.os = w.os
  tape : w'.tape = w.tape
  output : w'.output = w.output
  size : w.heap.size ≤ w'.heap.size
  block : ∀ k, k < w.heap.size → k ≠ g → w'.heap[k]? = w.heap[k]?
theorem Only.refl (g : Nat) (w : World) : Only g w w := ⟨rfl, rfl, rfl, Nat.le_refl _, fun _ _ _ => rfl⟩
theorem Only.trans {g : Nat} {a b c : World} (h : Only g a b) (k : Only g b c) : Only g a c :=
  ⟨k.os.trans h.os, k.tape.trans h.tape, k.output.trans h.output, Nat.le_trans h.size k.size, fun i hi hn => (k.block i (Nat.lt_of_lt_of_le hi h.size) hn).trans (h.block i hi hn)⟩
theorem Only.of_below {g : Nat} {a b : World} (h : Below a.heap.size a b) : Only g a b := ⟨h.os, h.tape, h.output, h.size, fun k hk _ => h.block k hk⟩
theorem Only.below {g B : Nat} {a b : World} (h : Only g a b) (hB : B ≤ g) (hs : B ≤ a.heap.size) : Below B a b := ⟨h.os, h.tape, h.output, h.size, fun k hk => h.block k (by omega) (by omega)⟩
theorem Only.set (g i : Nat) (w : World) (v : Value) : Only g w (w.setCell ⟨g, i, none⟩ v) := ⟨rfl, rfl, rfl, by simp [World.setCell], fun k _ hn => Below.heap_setCell w _ _ _ hn⟩
theorem Only.alloc {g : Nat} {a w : World} (h : Only g a w) (o : Obj) : Only g a (w.alloc o) := h.trans (Only.of_below ((Below.refl _ _).alloc (Nat.le_refl _) _))
theorem Only.drew {g : Nat} {a w : World} (h : Only g a w) : Only g a w.drew := ⟨h.os, h.tape, h.output, h.size, h.block⟩
theorem Only.setCell {g : Nat} {a w : World} (h : Only g a w) (i : Nat) (v : Value) : Only g a (w.setCell ⟨g, i, none⟩ v) := h.trans (Only.set g i w v)
/-- The block g of type t holds the cells cs. -/
def Blk (w : World) (g t : Nat) (cs : List Value) : Prop := w.heap[g]? = some (.cells cs.toArray t)
theorem Blk.lt {w : World} {g t : Nat} {cs : List Value} (h : Blk w g t cs) : g < w.heap.size := (Array.getElem?_eq_some_iff.1 h).1
theorem Blk.cell {w : World} {g t : Nat} {cs : List Value} (h : Blk w g t cs) {i : Nat} {v : Value} (hi : cs[i]? = some v) : w.cell? ⟨g, i, none⟩ = some v := by
  rw [cell_of_row _ g i cs.toArray t (0, 0) h]
  simpa using hi
theorem Blk.frozen {w : World} {g t : Nat} {cs : List Value} (h : Blk w g t cs) (i : Nat) : w.frozen? ⟨g, i, none⟩ = false := by
  unfold World.frozen?
  simp [Blk] at h
  simp [h]
theorem Blk.only {w w' : World} {g x t : Nat} {cs : List Value} (h : Blk w g t cs) (ho : Only x w w') (hn : g ≠ x) : Blk w' g t cs := (ho.block g h.lt hn).trans h
theorem Blk.below {w w' : World} {g t : Nat} {cs : List Value} (h : Blk w g t cs) (ho : Below w.heap.size w w') : Blk w' g t cs := (ho.block g h.lt).trans h
theorem blk_alloc (w : World) (t : Nat) (cs : List Value) : Blk (w.alloc (.cells cs.toArray t)) w.heap.size t cs := heap_alloc_last w _
theorem Blk.alloc {w : World} {g t : Nat} {cs : List Value} (h : Blk w g t cs) (o : Obj) : Blk (w.alloc o) g t cs := h.below ((Below.refl _ _).alloc (Nat.le_refl _) _)
theorem Blk.drew {w : World} {g t : Nat} {cs : List Value} (h : Blk w g t cs) : Blk w.drew g t cs := h
theorem Blk.set {w : World} {g t : Nat} {cs : List Value} (h : Blk w g t cs) (i : Nat) (v : Value) : Blk (w.setCell ⟨g, i, none⟩ v) g t (cs.set i v) := by
  unfold Blk at *
  simp only [World.setCell, Array.getElem?_modify, if_true, h, Option.map_some]
  simp
theorem Blk.other {w : World} {g x t : Nat} {cs : List Value} (h : Blk w g t cs) (i : Nat) (v : Value) (hn : g ≠ x) : Blk (w.setCell ⟨x, i, none⟩ v) g t cs := h.only (Only.set x i w v) hn
theorem Blk.range {w : World} {g t : Nat} {cs : List Value} (h : Blk w g t cs) : w.rangeAt g 0 cs := fun j v hv => by rw [Nat.zero_add]; exact h.cell hv
theorem Blk.there {w : World} {g t : Nat} {cs : List Value} (h : Blk w g t cs) (o n : Nat) (hn : o + n ≤ cs.length) : w.there g o n := fun j hj => by
  refine ⟨?_, h.frozen _⟩
  rw [h.cell (List.getElem?_eq_getElem (by omega))]
  rfl
/-- The value v is a slice of the bytes l, which lie in block R (none: there are none). -/
def BytesIn (R : Option Nat) (w : World) (v : Value) (l : List Int) : Prop := BytesAt w v l ∧ ∀ g off n cap, v = .slice (some ⟨g, off, none⟩) n cap → 0 < n → R = some g
theorem BytesIn.only {R : Option Nat} {x : Nat} {w w' : World} {v : Value} {l : List Int} (h : BytesIn R w v l) (ho : Only x w w') (hn : R ≠ some x) : BytesIn R w' v l := by
  obtain ⟨⟨a, cap, rfl, hcap, hb, hc⟩, hR⟩ := h
  refine ⟨⟨a, cap, rfl, hcap, hb, fun h0 => ?_⟩, hR⟩
  obtain ⟨g, off, rfl, hg, hcell⟩ := hc h0
  have hx := hR g off _ _ rfl h0
  refine ⟨g, off, rfl, Nat.lt_of_lt_of_le hg ho.size, fun i hi => ?_⟩
  rw [← hcell i hi]
  simp only [World.cell?, ho.block g hg (fun e => hn (e ▸ hx))]
theorem BytesIn.below {R : Option Nat} {w w' : World} {v : Value} {l : List Int} (h : BytesIn R w v l) (hb : Below w.heap.size w w') : BytesIn R w' v l := ⟨h.1.below hb, h.2⟩
theorem BytesIn.nil (R : Option Nat) (w : World) : BytesIn R w (.slice none 0 0) [] := ⟨bytes_nil w, fun _ _ _ _ h => by cases h⟩
theorem BytesIn.at_ {R : Option Nat} {w : World} {v : Value} {l : List Int} (h : BytesIn R w v l) : BytesAt w v l := h.1
/-- Bytes lie in some block. -/
theorem BytesAt.in_ {w : World} {v : Value} {l : List Int} (h : BytesAt w v l) : ∃ R, BytesIn R w v l ∧ ∀ r, R = some r → r < w.heap.size := by
  have h' := h
  obtain ⟨a, cap, rfl, _, _, hc⟩ := h
  by_cases h0 : 0 < l.length
  · obtain ⟨R, off, rfl, hR, _⟩ := hc h0
    refine ⟨some R, ⟨h', fun g' off' n' cap' hv _ => ?_⟩, fun r hr => by injection hr with hr; omega⟩
    injection hv with h1
    injection h1 with h1
    injection h1 with h1
    rw [h1]
  · exact ⟨none, ⟨h', fun g' off' n' cap' hv hn => by injection hv with h1 h2; omega⟩, fun r hr => by cases hr⟩

/-- What the cursor's error is behind keep. -/
def kept (f e : Int) : Int := if f = 0 then e else f
end Go.Proofs.Ytgggjhbijnndhaa
