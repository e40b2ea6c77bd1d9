/- What the proofs of this seat's statements share: a name that came in. -/
import Derived.Test.YtkdpohgckefipaaRows
import Derived.Test.YtkdpohgckefipaaNames
import Derived.ProofKit
import Derived.OpenShut
namespace Go.Proofs.Ytkdpohgckefipaa
open Go.ChangeShapes Go.WideShapes Go.ChangeAt Go.RowKit

theorem own : ownKnob Try.prog.godebug = none := by kernel_rfl
theorem laidOut : laidOutB Try.prog = true := by kernel_rfl
theorem cells23 : Try.prog.cellsOf 23 = 8 := by kernel_rfl
theorem trod_lts {H : Type} {enc : TypeId × Value → H} {W : World} {t : TypeId} {v : Value} {d : DataW H} {p : List MemPlace} (h : DataW.Trod enc Try.prog W 0 (fun _ => true) true t v d p) : ∀ x ∈ p, x.block < W.heap.size := by
  obtain ⟨m, hm⟩ := h; exact DataW.trod_lt m _ _ _ hm
theorem open_name {H : Type} {enc : TypeId × Value → H} {W : World} {base : Nat} {v : Value} {d : DataW H} {p : List MemPlace} (hv : Value.okWide Try.prog W .any base 23 v) (h : DataW.Trod enc Try.prog W 0 (fun _ => true) true 23 v d p) :
    ∃ l : List Int, v = .agg (nm l) ∧ l.length = 8 ∧ M.Bytes l := by
  simp only [Value.okWide, Try.underlying23] at hv
  obtain ⟨cs, rfl, hsz, _⟩ := hv
  rw [cells23] at hsz
  obtain ⟨fuel, hf⟩ := h
  obtain ⟨xs, m, _, _, _, hlen, hx⟩ := DataW.trod_array Try.underlying23 hf
  have hcs : (Value.agg cs).cells.toList = cs.toList := by simp [Value.cells]
  rw [hcs, cells5] at hx
  have each : ∀ i (hi : i < 8), ∃ b : Int, cs[i]'(by omega) = .int .u8 b ∧ 0 ≤ b ∧ b < 256 := fun i hi => by
    have x0 := hx i hi
    rw [List.getElem?_eq_getElem (by omega)] at x0
    obtain ⟨b0, c0, _, w0⟩ := DataW.trod_int Try.underlying5 x0
    rw [Nat.mul_one, List.drop_eq_getElem_cons (by simp; omega)] at c0
    simp at c0
    have := bounds_u8 w0
    exact ⟨b0, c0, by omega, by omega⟩
  refine ⟨cs.toList.map intOf, ?_, by simp [hsz], ?_⟩
  · congr 1
    refine nm_of (by simp) fun i hi => ?_
    have hi8 : i < 8 := by simpa [hsz] using hi
    obtain ⟨b, hb, _⟩ := each i hi8
    rw [Array.getElem?_eq_getElem (by omega), hb]
    simp [hb, intOf]
  · intro x hx
    obtain ⟨c, hc, rfl⟩ := List.mem_map.1 hx
    obtain ⟨i, hi, rfl⟩ := List.mem_iff_getElem.1 hc
    have hi8 : i < 8 := by simpa [hsz] using hi
    obtain ⟨b, hb, h0⟩ := each i hi8
    have : cs.toList[i] = cs[i]'(by omega) := by simp
    rw [this, hb]
    exact h0
end Go.Proofs.Ytkdpohgckefipaa
