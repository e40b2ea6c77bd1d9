/- An item in a cart that came in. -/
import Derived.Test.YtdigbipfchgjmaaGreatCommon
import Derived.Test.YtdigbipfchgjmaaGreatLawT
namespace Go.Proofs.YtdigbipfchgjmaaGreat
open Go.ChangeShapes Go.WideShapes Go.ChangeAt Go.RowKit

theorem cellzS : Tryz.prog.cellsOf 27 = 9 := by kernel_rfl
set_option maxRecDepth 100000 in
theorem open_spc {H : Type} {enc : TypeId × Value → H} {W : World} {cs : List Value} {m : Nat} {y : DataW H × List MemPlace} (hf : DataW.trod enc Tryz.prog W 0 (fun _ => true) true m 27 cs = some y) : ∃ c m, cs = spc c m ∧ NOk m ∧ 0 ≤ c ∧ c < 65536 := by
  obtain ⟨xs, n, _, _, hlen, hxl, hx⟩ := DataW.trod_struct Tryz.underlying27 hf
  rw [cellzS] at hlen
  match cs, hlen with
  | [c0, c2, c3, c4, c5, c6, c7, c8, c9], _ =>
    have hxl' : xs.length = 2 := hxl
    have t0 : DataW.trod enc Tryz.prog W 0 (fun _ => true) true n 23 (([c0, c2, c3, c4, c5, c6, c7, c8, c9].drop 0).take (Tryz.prog.cellsOf 23)) = xs[0]? := hx 0 _ rfl
    rw [cellz23, List.getElem?_eq_getElem (by omega)] at t0
    change DataW.trod enc Tryz.prog W 0 (fun _ => true) true n 23 [c0] = _ at t0
    have t2 : DataW.trod enc Tryz.prog W 0 (fun _ => true) true n 25 (([c0, c2, c3, c4, c5, c6, c7, c8, c9].drop 1).take (Tryz.prog.cellsOf 25)) = xs[1]? := hx 1 _ rfl
    rw [cellz25, List.getElem?_eq_getElem (by omega)] at t2
    change DataW.trod enc Tryz.prog W 0 (fun _ => true) true n 25 [c2, c3, c4, c5, c6, c7, c8, c9] = _ at t2
    obtain ⟨s, e0, _, w0⟩ := DataW.trod_int Tryz.underlying23 t0
    injection e0 with e0
    subst e0
    obtain ⟨ys, j, _, _, _, hyl, hy⟩ := DataW.trod_array Tryz.underlying25 t2
    rw [cellz5] at hy
    have get : ∀ i (hi : i < 8), ∃ b : Int, ([c2, c3, c4, c5, c6, c7, c8, c9].drop (i * 1)).take 1 = [.int .u8 b] ∧ 0 ≤ b ∧ b < 256 := fun i hi => by
      have x0 := hy i hi
      rw [List.getElem?_eq_getElem (by omega)] at x0
      obtain ⟨b, e, _, w⟩ := DataW.trod_int Tryz.underlying5 x0
      have := bounds_u8 w
      exact ⟨b, e, by omega, by omega⟩
    obtain ⟨b0, f0, p0⟩ := get 0 (by omega)
    obtain ⟨b1, f1, p1⟩ := get 1 (by omega)
    obtain ⟨b2, f2, p2⟩ := get 2 (by omega)
    obtain ⟨b3, f3, p3⟩ := get 3 (by omega)
    obtain ⟨b4, f4, p4⟩ := get 4 (by omega)
    obtain ⟨b5, f5, p5⟩ := get 5 (by omega)
    obtain ⟨b6, f6, p6⟩ := get 6 (by omega)
    obtain ⟨b7, f7, p7⟩ := get 7 (by omega)
    simp at f0 f1 f2 f3 f4 f5 f6 f7
    subst f0 f1 f2 f3 f4 f5 f6 f7
    have h0 := bounds_u16 w0
    refine ⟨s, [b0, b1, b2, b3, b4, b5, b6, b7], rfl, ⟨rfl, ?_⟩, by omega, by omega⟩
    intro z hz
    simp at hz
    rcases hz with rfl | rfl | rfl | rfl | rfl | rfl | rfl | rfl <;> assumption
set_option maxRecDepth 100000 in
theorem open_spot {H : Type} {enc : TypeId × Value → H} {W : World} {base : Nat} {v : Value} {d : DataW H} {p : List MemPlace} (hv : Value.okWide Tryz.prog W .any base 27 v) (h : DataW.Trod enc Tryz.prog W 0 (fun _ => true) true 27 v d p) :
    ∃ c m, v = .agg (spc c m).toArray ∧ NOk m ∧ 0 ≤ c ∧ c < 65536 := by
  simp only [Value.okWide, Tryz.underlying27] at hv
  obtain ⟨cs, rfl, _, _⟩ := hv
  obtain ⟨fuel, hf⟩ := h
  have hcs : (Value.agg cs).cells.toList = cs.toList := by simp [Value.cells]
  rw [hcs] at hf
  obtain ⟨c, m, hk, hok⟩ := open_spc hf
  exact ⟨c, m, by rw [← hk], hok⟩
end Go.Proofs.YtdigbipfchgjmaaGreat
