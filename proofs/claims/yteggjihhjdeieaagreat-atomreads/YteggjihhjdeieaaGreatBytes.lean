/- Slices of bytes that read as lists; the contract of Same of the reference. -/
import Derived.Test.YteggjihhjdeieaaGreatSmall
import Derived.Below
import Derived.Laws.OwnMore
import Derived.Deep.Draws
import Derived.Deep.OwnRows
import Derived.Deep.AppendLies
namespace Go.Proofs.YteggjihhjdeieaaGreat
open Go.RowKit

theorem below_drewN {B : Nat} {a w : World} (h : Below B a w) (n : Nat) : Below B a (w.drewN n) := ⟨h.os, h.tape, h.output, h.size, h.block⟩
/-- The value v is a slice that holds the bytes l. -/
def BytesAt (w : World) (v : Value) (l : List Int) : Prop :=
  ∃ a cap, v = .slice a l.length cap ∧ (l.length ≤ cap ∧ (a = none → cap = 0)) ∧ M.Bytes l ∧ (0 < l.length → ∃ g off, a = some ⟨g, off, none⟩ ∧ g < w.heap.size ∧ ∀ i (h : i < l.length), w.cell? ⟨g, off + i, none⟩ = some (.int .u8 l[i]))
theorem BytesAt.keep {w w' : World} {B : Nat} {v : Value} {l : List Int} (h : BytesAt w v l) (hB : w.heap.size ≤ B) (hb : Below B w w') : BytesAt w' v l := by
  obtain ⟨a, cap, hv, hcap, hr, hc⟩ := h
  refine ⟨a, cap, hv, hcap, hr, fun h0 => ?_⟩
  obtain ⟨g, off, ha, hg, hcell⟩ := hc h0
  exact ⟨g, off, ha, Nat.lt_of_lt_of_le hg hb.size, fun i hi => (hb.cell (p := ⟨g, off + i, none⟩) (Nat.lt_of_lt_of_le hg hB)).trans (hcell i hi)⟩
theorem BytesAt.below {w w' : World} {v : Value} {l : List Int} (h : BytesAt w v l) (hb : Below w.heap.size w w') : BytesAt w' v l := h.keep (Nat.le_refl _) hb
theorem bytes_nil (w : World) : BytesAt w (.slice none 0 0) [] := ⟨none, 0, rfl, ⟨Nat.le_refl _, fun _ => rfl⟩, (fun x hx => by cases hx), (fun h => by simp at h)⟩
theorem bytes_of_owns {w : World} {B : Nat} {v : Value} {l : List Int} (h : w.ownsRow B 5 1 v l.length (l.map (Value.int .u8))) (hr : M.Bytes l) : BytesAt w v l := by
  have h' := h
  obtain ⟨_, h2⟩ := h
  rcases h2 with ⟨hv, h0⟩ | ⟨g, cap, cur, hv, hg, hh, hc, _⟩
  · exact ⟨none, 0, by rw [hv, h0], ⟨by omega, fun _ => rfl⟩, hr, fun hl => by omega⟩
  · subst hv
    refine ⟨_, cap, rfl, ⟨hc, fun h => by cases h⟩, hr, fun _ => ⟨g, 0, rfl, (Array.getElem?_eq_some_iff.1 hh).1, fun i hi => ?_⟩⟩
    rw [Nat.zero_add, h'.cellAt i (by omega)]; simp [hi]
theorem same_nil (a1 a2 : Option Addr) (c1 c2 : Nat) (w : World) : Calls Tryz.prog 5 #[.slice a1 0 c1, .slice a2 0 c2] w fun e w' => e = .returned (.bool true) ∧ Below w.heap.size w w' := by
  go_enter Tryz.func5, Tryz.ntmps5
  go_wp2
  refine wp_loop_rounds 1 ?_
  rw [rounds_succ]
  go_wp2_with fail
  go_ret
  exact ⟨rfl, Below.refl _ _⟩
set_option maxRecDepth 100000 in
set_option maxHeartbeats 400000 in
theorem same_some (g1 o1 c1 g2 o2 c2 : Nat) (l : List Int) (w : World) (hl : l.length ≤ 30000) (hg1 : g1 < w.heap.size) (hg2 : g2 < w.heap.size)
    (h1 : Hid (∀ i (hi : i < l.length), w.cell? ⟨g1, o1 + i, none⟩ = some (.int .u8 l[i]))) (h2 : Hid (∀ i (hi : i < l.length), w.cell? ⟨g2, o2 + i, none⟩ = some (.int .u8 l[i]))) :
    Calls Tryz.prog 5 #[.slice (some ⟨g1, o1, none⟩) l.length c1, .slice (some ⟨g2, o2, none⟩) l.length c2] w fun e w' => e = .returned (.bool true) ∧ Below w.heap.size w w' := by
  go_enter Tryz.func5, Tryz.ntmps5
  go_wp2
  go_loopw [5] (fun i wr => ∃ k : Nat, k ≤ l.length ∧ i = .int .i64 k ∧ Below w.heap.size w wr) (fun i _ => l.length - (intOf i).toNat)
  case atStart => exact ⟨0, Nat.zero_le _, rfl, Below.refl _ _⟩
  case round =>
    obtain ⟨k, hk, rfl, hbel⟩ := hrel
    by_cases hlt : k < l.length
    · have q1 : wr.cell? ⟨g1, o1 + k, none⟩ = some (.int .u8 l[k]) := (hbel.cell (p := ⟨g1, o1 + k, none⟩) hg1).trans (h1.out k hlt)
      have q2 : wr.cell? ⟨g2, o2 + k, none⟩ = some (.int .u8 l[k]) := (hbel.cell (p := ⟨g2, o2 + k, none⟩) hg2).trans (h2.out k hlt)
      have b0 : (0 : Int) ≤ (k : Int) := by omega
      have b1 : (k : Int) < (l.length : Int) := by omega
      go_wp2_with fail
      go_quiet (fail)
      go_wp2
      go_roundw
      case rel => exact ⟨k + 1, by omega, by go_num, below_drewN hbel _⟩
      case measure => simp [intOf]; omega
    · go_wp2_with fail
      go_ret
      exact ⟨rfl, hbel⟩
theorem same_any (v1 v2 : Value) (l : List Int) (w : World) (hl : l.length ≤ 30000) (h1 : BytesAt w v1 l) (h2 : BytesAt w v2 l) :
    Calls Tryz.prog 5 #[v1, v2] w fun e w' => e = .returned (.bool true) ∧ Below w.heap.size w w' := by
  obtain ⟨a1, c1, rfl, _, _, k1⟩ := h1
  obtain ⟨a2, c2, rfl, _, _, k2⟩ := h2
  by_cases h0 : 0 < l.length
  · obtain ⟨g1, o1, rfl, hg1, q1⟩ := k1 h0
    obtain ⟨g2, o2, rfl, hg2, q2⟩ := k2 h0
    exact same_some g1 o1 c1 g2 o2 c2 l w hl hg1 hg2 (Lib.hid q1) (Lib.hid q2)
  · rw [show l.length = 0 by omega]
    exact same_nil a1 a2 c1 c2 w
end Go.Proofs.YteggjihhjdeieaaGreat
