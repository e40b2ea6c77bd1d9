/- A question, and two values, that came in. -/
import Derived.Test.YtgggjhbijnndhaaCommon
import Derived.Test.YtgggjhbijnndhaaLawL
namespace Go.Proofs.Ytgggjhbijnndhaa
open Go.ChangeShapes Go.WideShapes Go.ChangeAt Go.RowKit

theorem cellzA : Try.prog.cellsOf 35 = 10 := by kernel_rfl
theorem cellzP : Try.prog.cellsOf 39 = 18 := by kernel_rfl
set_option maxRecDepth 100000 in
theorem open_askc {H : Type} {enc : TypeId × Value → H} {W : World} {cs : List Value} {m : Nat} {y : DataW H × List MemPlace} (hf : DataW.trod enc Try.prog W 0 (fun _ => true) true m 35 cs = some y) : ∃ r c t, cs = ask r c t ∧ NOk t ∧ (0 ≤ r ∧ r < 256) ∧ 0 ≤ c ∧ c < 65536 := by
  obtain ⟨xs, n, _, _, hlen, hxl, hx⟩ := DataW.trod_struct Try.underlying35 hf
  rw [cellzA] at hlen
  match cs, hlen with
  | [c0, c1, c2, c3, c4, c5, c6, c7, c8, c9], _ =>
    have hxl' : xs.length = 3 := hxl
    have t0 : DataW.trod enc Try.prog W 0 (fun _ => true) true n 5 (([c0, c1, c2, c3, c4, c5, c6, c7, c8, c9].drop 0).take (Try.prog.cellsOf 5)) = xs[0]? := hx 0 _ rfl
    rw [cellz5, List.getElem?_eq_getElem (by omega)] at t0
    change DataW.trod enc Try.prog W 0 (fun _ => true) true n 5 [c0] = _ at t0
    have t1 : DataW.trod enc Try.prog W 0 (fun _ => true) true n 23 (([c0, c1, c2, c3, c4, c5, c6, c7, c8, c9].drop 1).take (Try.prog.cellsOf 23)) = xs[1]? := hx 1 _ rfl
    rw [cellz23, List.getElem?_eq_getElem (by omega)] at t1
    change DataW.trod enc Try.prog W 0 (fun _ => true) true n 23 [c1] = _ at t1
    have t2 : DataW.trod enc Try.prog W 0 (fun _ => true) true n 26 (([c0, c1, c2, c3, c4, c5, c6, c7, c8, c9].drop 2).take (Try.prog.cellsOf 26)) = xs[2]? := hx 2 _ rfl
    rw [cellz25, List.getElem?_eq_getElem (by omega)] at t2
    change DataW.trod enc Try.prog W 0 (fun _ => true) true n 26 [c2, c3, c4, c5, c6, c7, c8, c9] = _ at t2
    obtain ⟨r, e0, _, w0⟩ := DataW.trod_int Try.underlying5 t0
    injection e0 with e0
    subst e0
    obtain ⟨c, e1, _, w1⟩ := DataW.trod_int Try.underlying23 t1
    injection e1 with e1
    subst e1
    obtain ⟨ys, j, _, _, _, hyl, hy⟩ := DataW.trod_array Try.underlying26 t2
    rw [cellz5] at hy
    have get : ∀ i (hi : i < 8), ∃ b : Int, ([c2, c3, c4, c5, c6, c7, c8, c9].drop (i * 1)).take 1 = [.int .u8 b] ∧ 0 ≤ b ∧ b < 256 := fun i hi => by
      have x0 := hy i hi
      rw [List.getElem?_eq_getElem (by omega)] at x0
      obtain ⟨b, e, _, w⟩ := DataW.trod_int Try.underlying5 x0
      have := bounds_u8 w
      exact ⟨b, e, by omega, by omega⟩
    obtain ⟨b0, f0, p0⟩ := get 0 (by omega)
    obtain ⟨b1, f1, p1⟩ := get 1 (by omega)
    obtain ⟨b2, f2, p2⟩ := get 2 (by omega)
    obtain ⟨b3, f3, p3⟩ := get 3 (by omega)
    obtain ⟨b4, f4, p4⟩ := get 4 (by omega)
    obtain ⟨b5, f5, p5⟩ := get 5 (by omega)
    obtain ⟨b6, f6, p6⟩ := get 6 (by omega)
    obtain ⟨b7, f7, p7⟩ := get 7 (by omega)
    simp at f0 f1 f2 f3 f4 f5 f6 f7
    subst f0 f1 f2 f3 f4 f5 f6 f7
    have h0 := bounds_u8 w0
    have h1 := bounds_u16 w1
    refine ⟨r, c, [b0, b1, b2, b3, b4, b5, b6, b7], rfl, ⟨rfl, ?_⟩, ⟨by omega, by omega⟩, by omega, by omega⟩
    intro z hz
    simp at hz
    rcases hz with rfl | rfl | rfl | rfl | rfl | rfl | rfl | rfl <;> assumption
set_option maxRecDepth 100000 in
theorem open_ask {H : Type} {enc : TypeId × Value → H} {W : World} {base : Nat} {v : Value} {d : DataW H} {p : List MemPlace} (hv : Value.okWide Try.prog W .any base 35 v) (h : DataW.Trod enc Try.prog W 0 (fun _ => true) true 35 v d p) :
    ∃ r c t, v = .agg (ask r c t).toArray ∧ NOk t ∧ (0 ≤ r ∧ r < 256) ∧ 0 ≤ c ∧ c < 65536 := by
  simp only [Value.okWide, Try.underlying35] at hv
  obtain ⟨cs, rfl, _, _⟩ := hv
  obtain ⟨fuel, hf⟩ := h
  have hcs : (Value.agg cs).cells.toList = cs.toList := by simp [Value.cells]
  rw [hcs] at hf
  obtain ⟨r, c, t, hk, hok⟩ := open_askc hf
  exact ⟨r, c, t, by rw [← hk], hok⟩
set_option maxRecDepth 100000 in
theorem open_pair {H : Type} {enc : TypeId × Value → H} {W : World} {base : Nat} {v : Value} {d : DataW H} {p : List MemPlace} (hv : Value.okWide Try.prog W .any base 39 v) (h : DataW.Trod enc Try.prog W 0 (fun _ => true) true 39 v d p) :
    ∃ x y : Vl, v = .agg (x.cells ++ y.cells).toArray ∧ x.Ok ∧ y.Ok := by
  simp only [Value.okWide, Try.underlying39] at hv
  obtain ⟨cs, rfl, _, _⟩ := hv
  obtain ⟨fuel, hf⟩ := h
  have hcs : (Value.agg cs).cells.toList = cs.toList := by simp [Value.cells]
  rw [hcs] at hf
  obtain ⟨ys, j, _, _, hlen, hyl, hy⟩ := DataW.trod_array Try.underlying39 hf
  rw [cellzP] at hlen
  rw [cellz32] at hy
  have g0 := hy 0 (by omega)
  have g1 := hy 1 (by omega)
  rw [List.getElem?_eq_getElem (by omega)] at g0 g1
  obtain ⟨x, ex, ox⟩ := open_vc g0
  obtain ⟨y, ey, oy⟩ := open_vc g1
  refine ⟨x, y, ?_, ox, oy⟩
  rw [← ex, ← ey, Nat.zero_mul, List.drop_zero, List.take_of_length_le (l := cs.toList.drop (1 * 9)) (by rw [List.length_drop]; omega), Nat.one_mul, List.take_append_drop]
end Go.Proofs.Ytgggjhbijnndhaa
