/- The contract of Read of the reference's cursor. -/
import Derived.Test.YteggjihhjdeieaaRefNum
namespace Go.Proofs.Yteggjihhjdeieaa
open Go.RowKit

theorem bytes_upto {R : Option Nat} {w : World} {a : Option Addr} {cap : Nat} {l : List Int} (h : BytesIn R w (.slice a l.length cap) l) (k : Nat) (hk : k ≤ l.length) : BytesIn R w (.slice a k cap) (l.take k) := by
  obtain ⟨⟨a', cap', hv, hcap, hb, hc⟩, hn⟩ := h
  injection hv with h1 h2 h3
  subst h1; subst h3
  have hl : (l.take k).length = k := by rw [List.length_take]; omega
  refine ⟨⟨_, _, by rw [hl], ⟨by rw [hl]; exact Nat.le_trans hk hcap.1, hcap.2⟩, hb.take k, fun h0 => ?_⟩, fun g off n cap' hv hn' => ?_⟩
  · rw [hl] at h0
    obtain ⟨g, off, ha, hg, hcell⟩ := hc (by omega)
    refine ⟨g, off, ha, hg, fun i hi => ?_⟩
    rw [hl] at hi
    rw [hcell i (by omega), List.getElem_take]
  · injection hv with h1 h2 h3
    subst h1
    exact hn g off _ _ rfl (by omega)
theorem BytesIn.cons_shape {R : Option Nat} {w : World} {v : Value} {c : Int} {r : List Int} (h : BytesIn R w v (c :: r)) : ∃ gR off cap, v = .slice (some ⟨gR, off, none⟩) (r.length + 1) cap ∧ R = some gR ∧ r.length + 1 ≤ cap := by
  obtain ⟨⟨a, cap, rfl, hcap, _, hc⟩, hR⟩ := h
  obtain ⟨gR, off, rfl, _, _⟩ := hc (by simp)
  exact ⟨gR, off, cap, rfl, hR gR off _ _ rfl (by simp), hcap.1⟩
theorem BytesIn.head_cell {R : Option Nat} {w : World} {gR off n cap : Nat} {c : Int} {r : List Int} (h : BytesIn R w (.slice (some ⟨gR, off, none⟩) n cap) (c :: r)) : w.cell? ⟨gR, off, none⟩ = some (.int .u8 c) := by
  obtain ⟨⟨a, cap', hv, hcap, _, hc⟩, hR⟩ := h
  obtain ⟨g', off', rfl, _, hcell⟩ := hc (by simp)
  injection hv with h1 h2 h3
  injection h1 with h1
  injection h1 with h1 h4
  subst h1; subst h4
  exact hcell 0 (by simp)
end Go.Proofs.Yteggjihhjdeieaa
