/- Vectors, lists of vectors and triples of vectors that came in. -/
import Derived.Test.YtpgafijeecmgmaaCommon
import Derived.Test.YtpgafijeecmgmaaVecs
namespace Go.Proofs.Ytpgafijeecmgmaa
open Go.ChangeShapes Go.WideShapes Go.ChangeAt Go.RowKit

theorem cellzV : Try.prog.cellsOf 23 = 16 := by kernel_rfl
set_option maxRecDepth 100000 in
theorem open_vcs {H : Type} {enc : TypeId × Value → H} {W : World} {cs : List Value} {m : Nat} {y : DataW H × List MemPlace} (hf : DataW.trod enc Try.prog W 0 (fun _ => true) true m 23 cs = some y) : ∃ l, cs = vc l ∧ VOk l := by
  obtain ⟨ys, j, _, _, hlen, hyl, hy⟩ := DataW.trod_array Try.underlying23 hf
  rw [cellz26] at hy
  rw [cellzV] at hlen
  obtain ⟨l, hl, hq⟩ := choose_list (n := 16) (Q := fun i (x : Int) => cs[i]? = some (.int .u32 x) ∧ 0 ≤ x ∧ x < 4294967296) (fun i hi => by
    have x0 := hy i hi
    rw [List.getElem?_eq_getElem (by omega), Nat.mul_one] at x0
    obtain ⟨b, e, _, w⟩ := DataW.trod_int Try.underlying22 x0
    have := bounds_u32 w
    rw [List.drop_eq_getElem_cons (by omega)] at e
    rw [List.take_succ_cons, List.take_zero] at e
    injection e with e
    exact ⟨b, by rw [List.getElem?_eq_getElem (by omega), e], by omega, by omega⟩)
  refine ⟨l, ?_, hl, fun x hx => ?_⟩
  · apply List.ext_getElem?
    intro i
    by_cases hi : i < l.length
    · rw [(hq i hi).1]; exact (vc_at (List.getElem?_eq_getElem hi)).symm
    · rw [List.getElem?_eq_none (by omega), List.getElem?_eq_none (by rw [vc_len]; omega)]
  · obtain ⟨i, hi, rfl⟩ := List.getElem_of_mem hx
    exact (hq i hi).2
set_option maxRecDepth 100000 in
theorem open_v {H : Type} {enc : TypeId × Value → H} {W : World} {base : Nat} {v : Value} {d : DataW H} {p : List MemPlace} (hv : Value.okWide Try.prog W .any base 23 v) (h : DataW.Trod enc Try.prog W 0 (fun _ => true) true 23 v d p) :
    ∃ l, v = .agg (vc l).toArray ∧ VOk l := by
  simp only [Value.okWide, Try.underlying23] at hv
  obtain ⟨cs, rfl, _, _⟩ := hv
  obtain ⟨fuel, hf⟩ := h
  have hcs : (Value.agg cs).cells.toList = cs.toList := by simp [Value.cells]
  rw [hcs] at hf
  obtain ⟨k, hk, hok⟩ := open_vcs hf
  exact ⟨k, by rw [← hk], hok⟩
end Go.Proofs.Ytpgafijeecmgmaa
