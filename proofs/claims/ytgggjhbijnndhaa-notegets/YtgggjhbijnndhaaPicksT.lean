/- The conditions of package tags as function values; the iterator over the tags of a row that meet one. The iterator over the tags of a row that meet a condition: what it hands over. The contracts of Seen, Live and Present of package tags. -/
import Derived.Test.YtgggjhbijnndhaaKeyT
import Derived.Test.YtgggjhbijnndhaaKIn
import Derived.Test.YtgggjhbijnndhaaLeq
namespace Go.Proofs.Ytgggjhbijnndhaa
open Go.RowKit

theorem nm_eq (m n : List Int) : (m == n) = true ↔ m = n := beq_iff_eq
/-- A condition as a function value: it answers p, and makes memory. -/
def CondF (gf : Nat) (lb : Array Value) (N : World → Prop) (p : Ky → Vl → Bool) : Prop :=
  ∀ (k : Ky) (v : Vl) (W : World), k.Ok → v.Ok → N W → Calls Try.prog gf (#[.agg k.cells.toArray, .agg v.cells.toArray] ++ lb) W fun e W' => e = .returned (.bool (p k v)) ∧ Below W.heap.size W W'
end Go.Proofs.Ytgggjhbijnndhaa
namespace Go.Proofs.Ytgggjhbijnndhaa
open Go.RowKit Go.Shelf
attribute [local go_sem] Oper.semAt_some

def NxA (s : List Am) (pre : List Am) (x : Am) : Prop := ∃ rest, s = pre ++ x :: rest
theorem each_gen (Bs : Nat) (D : Option Addr) (m c : Nat) (s : List Am) (hm : m ≤ 1000) : SeqGen 49 #[.pointer (some ⟨Bs, 0, none⟩)] (fun V => Blk V Bs 22 [.slice D m c] ∧ RowV V D m c s) encP (NxA s) (fun t => t = s) := by
  intro l J X W hJb _ hJn _ hY _ h0
  refine ((each_seq Bs D m c s hm) l (fun pre V => W.heap.size ≤ V.heap.size ∧ J W.heap.size pre V) X W (fun pre V V' h hb => ⟨Nat.le_trans h.1 hb.size, hJb _ _ _ _ h.2 hb⟩) (fun pre V h => hJn _ _ _ h.2) ?_ ⟨Nat.le_refl _, h0 _ _ (Nat.le_refl _) (Nat.le_refl _) (Below.refl _ _)⟩).mono ?_
  · rintro pre x rest V hs ⟨h1, h2⟩
    refine (hY W.heap.size pre x V ⟨rest, hs⟩ h2 (Nat.le_refl _) h1).mono ?_
    rintro e V' ⟨h3, _, (⟨he, h4⟩ | ⟨he, h4⟩)⟩
    · exact .inl ⟨he, Nat.le_trans h1 h3, h4⟩
    · exact .inr ⟨he, h4⟩
  · rintro e V ⟨h1, (⟨_, h2⟩ | h2)⟩
    · exact ⟨h1, .inl ⟨s, _, rfl, h2⟩⟩
    · exact ⟨h1, .inr h2⟩
theorem rowV_seg {lo : Nat} {w w' : World} {A : Option Addr} {n cap : Nat} {l : List Am} (h : RowV w A n cap l) (hf : ∀ G off, A = some ⟨G, off, none⟩ → lo ≤ G) (hs : ∀ k, lo ≤ k → k < w.heap.size → w'.heap[k]? = w.heap[k]?) (hz : w.heap.size ≤ w'.heap.size) : RowV w' A n cap l :=
  ⟨h.ok, h.len, h.le, h.most, fun h0 => by
    obtain ⟨G, off, ha, hG, hr⟩ := h.at_ h0
    refine ⟨G, off, ha, Nat.lt_of_lt_of_le hG hz, fun i hi j v hv => ?_⟩
    have h1 := hr i hi j v hv
    unfold World.cell? at *
    rw [show w'.heap[(⟨G, off + i * 21 + j, none⟩ : Addr).block]? = w.heap[(⟨G, off + i * 21 + j, none⟩ : Addr).block]? from hs G (hf G off ha) hG]
    exact h1⟩
/-- What the iterator keeps: its own blocks stand as they stood in w2. -/
structure Own2 (lo : Nat) (w2 V : World) : Prop where
  same : ∀ k, lo ≤ k → k < w2.heap.size → V.heap[k]? = w2.heap[k]?
  size : w2.heap.size ≤ V.heap.size
theorem Own2.below {lo : Nat} {w2 V V' : World} (h : Own2 lo w2 V) (hb : Below V.heap.size V V') : Own2 lo w2 V' :=
  ⟨fun k h1 h2 => (hb.block k (by have := h.size; omega)).trans (h.same k h1 h2), Nat.le_trans h.size hb.size⟩
theorem Own2.only {lo g : Nat} {w2 V V' : World} (h : Own2 lo w2 V) (hb : Only g V V') (hg : w2.heap.size ≤ g) : Own2 lo w2 V' :=
  ⟨fun k h1 h2 => (hb.block k (by have := h.size; omega) (by omega)).trans (h.same k h1 h2), Nat.le_trans h.size hb.size⟩
theorem Own2.put {lo i : Nat} {w2 V : World} {o : Obj} (h : Own2 lo w2 V) (hg : w2.heap.size ≤ i) : Own2 lo w2 (V.putObj i o) :=
  ⟨fun k h1 h2 => (World.putObj_heap_other (by omega)).trans (h.same k h1 h2), by simpa using h.size⟩
theorem Own2.blk {lo g t : Nat} {w2 V : World} {cs : List Value} (h : Own2 lo w2 V) (hb : Blk w2 g t cs) (hl : lo ≤ g) : Blk V g t cs := (h.same g hl hb.lt).trans hb
theorem only_putObj (w : World) (i : Nat) (o : Obj) : Only i w (w.putObj i o) :=
  ⟨rfl, rfl, rfl, by simp, fun k _ hn => World.putObj_heap_other hn⟩
def NxK (L : List Ky) (pre : List Ky) (x : Ky) : Prop := ∃ rest, L = pre ++ x :: rest
theorem pick_nx {p : Ky → Vl → Bool} {s pre rest : List Am} {x : Am} (hs : s = pre ++ x :: rest) (hx : sel p x = true) : NxK (pick p s) (pick p pre) x.k := by
  refine ⟨pick p rest, ?_⟩
  unfold pick
  rw [hs, List.filter_append, List.map_append, List.filter_cons_of_pos hx]; rfl
end Go.Proofs.Ytgggjhbijnndhaa
namespace Go.Proofs.Ytgggjhbijnndhaa
open Go.RowKit Go.Shelf
attribute [local go_sem] Oper.semAt_some

theorem nx_len {L pre : List Ky} {x : Ky} {M : Nat} (h : NxK L pre x) (hL : ∀ k ∈ L, k.Ok) (hM : L.length ≤ M) : x.Ok ∧ pre.length < M := by
  obtain ⟨rest, e⟩ := h
  refine ⟨hL x (by rw [e]; simp), ?_⟩
  rw [e, List.length_append, List.length_cons] at hM
  omega
end Go.Proofs.Ytgggjhbijnndhaa
