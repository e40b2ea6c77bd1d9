/- What the proofs of this seat's statements share: atoms, values and bytes that came in. -/
import Derived.Test.YteggjihhjdeieaaRows
import Derived.Test.YteggjihhjdeieaaAtoms
import Derived.ProofKit
import Derived.OpenShut
import Derived.Deep.Slices
namespace Go.Proofs.Yteggjihhjdeieaa
open Go.ChangeShapes Go.WideShapes Go.ChangeAt Go.RowKit

theorem own : ownKnob Try.prog.godebug = none := by kernel_rfl
theorem laidOut : laidOutB Try.prog = true := by kernel_rfl
theorem cells22 : Try.prog.cellsOf 22 = 1 := by kernel_rfl
theorem cells24 : Try.prog.cellsOf 24 = 8 := by kernel_rfl
theorem cells25 : Try.prog.cellsOf 25 = 1 := by kernel_rfl
theorem cells27 : Try.prog.cellsOf 27 = 12 := by kernel_rfl
theorem trod_lts {H : Type} {enc : TypeId × Value → H} {W : World} {t : TypeId} {v : Value} {d : DataW H} {p : List MemPlace} (h : DataW.Trod enc Try.prog W 0 (fun _ => true) true t v d p) : ∀ x ∈ p, x.block < W.heap.size := by
  obtain ⟨m, hm⟩ := h; exact DataW.trod_lt m _ _ _ hm
theorem bytes_cells {H : Type} {enc : TypeId × Value → H} {W : World} {u : Value} {m : Nat} {y : DataW H × List MemPlace} (hf : DataW.trod enc Try.prog W 0 (fun _ => true) true m 42 [u] = some y) : ∃ l : List Int, BytesAt W u l := by
  rcases open_ints Try.underlying42 Try.underlying5 cells5 hf with ⟨hcs, _⟩ | ⟨x, len, cap, zs, hcs, _, hl, hm, hz, _, hcell, hwz⟩
  · injection hcs with hcs
    subst hcs
    exact ⟨[], bytes_nil W⟩
  · injection hcs with hcs
    subst hcs
    simp only [if_true] at hz
    have hlen : (zs.take len).length = len := by rw [List.length_take]; omega
    refine ⟨zs.take len, some x, cap, by rw [hlen], ⟨by rw [hlen]; omega, fun h => by cases h⟩, ?_, fun h0 => ?_⟩
    · intro n hn
      have := bounds_u8 (hwz n (List.mem_of_mem_take hn))
      omega
    · rw [hlen] at h0
      obtain ⟨b, off, rfl, hc⟩ := ints_at hcell (by omega)
      refine ⟨b, off, rfl, World.block_lt_of_cell? W ⟨b, off + 0, none⟩ (hc 0 (by omega)), fun i hi => ?_⟩
      rw [hlen] at hi
      rw [hc i (by omega), List.getElem_take, List.getD_eq_getElem?_getD, List.getElem?_eq_getElem (by omega)]
      rfl
set_option maxRecDepth 100000 in
theorem open_bytesAt {H : Type} {enc : TypeId × Value → H} {W : World} {base : Nat} {v : Value} {d : DataW H} {p : List MemPlace} (hv : Value.okWide Try.prog W .any base 42 v) (h : DataW.Trod enc Try.prog W 0 (fun _ => true) true 42 v d p) :
    ∃ l : List Int, BytesAt W v l := by
  obtain ⟨a0, len0, cap0, rfl⟩ := okWide_slice Try.underlying42 hv
  obtain ⟨fuel, hf⟩ := h
  exact bytes_cells hf
set_option maxRecDepth 100000 in
theorem open_ky {H : Type} {enc : TypeId × Value → H} {W : World} {cs : List Value} {m : Nat} {y : DataW H × List MemPlace} (hf : DataW.trod enc Try.prog W 0 (fun _ => true) true m 27 cs = some y) : ∃ k : Ky, cs = k.cells ∧ k.Ok := by
  obtain ⟨xs, n, _, _, hlen, hxl, hx⟩ := DataW.trod_struct Try.underlying27 hf
  rw [cells27] at hlen
  match cs, hlen with
  | [c0, c1, c2, c3, c4, c5, c6, c7, c8, c9, c10, c11], _ =>
    have hxl' : xs.length = 5 := hxl
    have t0 : DataW.trod enc Try.prog W 0 (fun _ => true) true n 5 (([c0, c1, c2, c3, c4, c5, c6, c7, c8, c9, c10, c11].drop 0).take (Try.prog.cellsOf 5)) = xs[0]? := hx 0 _ rfl
    rw [cells5, List.getElem?_eq_getElem (by omega)] at t0
    change DataW.trod enc Try.prog W 0 (fun _ => true) true n 5 [c0] = _ at t0
    have t1 : DataW.trod enc Try.prog W 0 (fun _ => true) true n 22 (([c0, c1, c2, c3, c4, c5, c6, c7, c8, c9, c10, c11].drop 1).take (Try.prog.cellsOf 22)) = xs[1]? := hx 1 _ rfl
    rw [cells22, List.getElem?_eq_getElem (by omega)] at t1
    change DataW.trod enc Try.prog W 0 (fun _ => true) true n 22 [c1] = _ at t1
    have t2 : DataW.trod enc Try.prog W 0 (fun _ => true) true n 24 (([c0, c1, c2, c3, c4, c5, c6, c7, c8, c9, c10, c11].drop 2).take (Try.prog.cellsOf 24)) = xs[2]? := hx 2 _ rfl
    rw [cells24, List.getElem?_eq_getElem (by omega)] at t2
    change DataW.trod enc Try.prog W 0 (fun _ => true) true n 24 [c2, c3, c4, c5, c6, c7, c8, c9] = _ at t2
    have t3 : DataW.trod enc Try.prog W 0 (fun _ => true) true n 5 (([c0, c1, c2, c3, c4, c5, c6, c7, c8, c9, c10, c11].drop 10).take (Try.prog.cellsOf 5)) = xs[3]? := hx 3 _ rfl
    rw [cells5, List.getElem?_eq_getElem (by omega)] at t3
    change DataW.trod enc Try.prog W 0 (fun _ => true) true n 5 [c10] = _ at t3
    have t4 : DataW.trod enc Try.prog W 0 (fun _ => true) true n 25 (([c0, c1, c2, c3, c4, c5, c6, c7, c8, c9, c10, c11].drop 11).take (Try.prog.cellsOf 25)) = xs[4]? := hx 4 _ rfl
    rw [cells25, List.getElem?_eq_getElem (by omega)] at t4
    change DataW.trod enc Try.prog W 0 (fun _ => true) true n 25 [c11] = _ at t4
    obtain ⟨s, e0, _, w0⟩ := DataW.trod_int Try.underlying5 t0
    injection e0 with e0
    subst e0
    obtain ⟨c, e1, _, w1⟩ := DataW.trod_int Try.underlying22 t1
    injection e1 with e1
    subst e1
    obtain ⟨r, e3, _, w3⟩ := DataW.trod_int Try.underlying5 t3
    injection e3 with e3
    subst e3
    obtain ⟨q, e4, _, w4⟩ := DataW.trod_int Try.underlying25 t4
    injection e4 with e4
    subst e4
    obtain ⟨ys, j, _, _, _, hyl, hy⟩ := DataW.trod_array Try.underlying24 t2
    rw [cells5] at hy
    have get : ∀ i (hi : i < 8), ∃ b : Int, ([c2, c3, c4, c5, c6, c7, c8, c9].drop (i * 1)).take 1 = [.int .u8 b] ∧ 0 ≤ b ∧ b < 256 := fun i hi => by
      have x0 := hy i hi
      rw [List.getElem?_eq_getElem (by omega)] at x0
      obtain ⟨b, e, _, w⟩ := DataW.trod_int Try.underlying5 x0
      have := bounds_u8 w
      exact ⟨b, e, by omega, by omega⟩
    obtain ⟨b0, f0, p0⟩ := get 0 (by omega)
    obtain ⟨b1, f1, p1⟩ := get 1 (by omega)
    obtain ⟨b2, f2, p2⟩ := get 2 (by omega)
    obtain ⟨b3, f3, p3⟩ := get 3 (by omega)
    obtain ⟨b4, f4, p4⟩ := get 4 (by omega)
    obtain ⟨b5, f5, p5⟩ := get 5 (by omega)
    obtain ⟨b6, f6, p6⟩ := get 6 (by omega)
    obtain ⟨b7, f7, p7⟩ := get 7 (by omega)
    simp at f0 f1 f2 f3 f4 f5 f6 f7
    subst f0 f1 f2 f3 f4 f5 f6 f7
    have h0 := bounds_u8 w0
    have h1 := bounds_u16 w1
    have h3 := bounds_u8 w3
    have h4 := bounds_u32 w4
    refine ⟨⟨s, c, [b0, b1, b2, b3, b4, b5, b6, b7], r, q⟩, rfl, ⟨rfl, ?_, by show 0 ≤ s; omega, by show s < 256; omega, by show 0 ≤ c; omega, by show c < 65536; omega, by show 0 ≤ r; omega, by show r < 256; omega, by show 0 ≤ q; omega, by show q < 4294967296; omega⟩⟩
    intro z hz
    simp at hz
    rcases hz with rfl | rfl | rfl | rfl | rfl | rfl | rfl | rfl <;> assumption
set_option maxRecDepth 100000 in
theorem open_key {H : Type} {enc : TypeId × Value → H} {W : World} {base : Nat} {v : Value} {d : DataW H} {p : List MemPlace} (hv : Value.okWide Try.prog W .any base 27 v) (h : DataW.Trod enc Try.prog W 0 (fun _ => true) true 27 v d p) :
    ∃ k : Ky, v = .agg k.cells.toArray ∧ k.Ok := by
  simp only [Value.okWide, Try.underlying27] at hv
  obtain ⟨cs, rfl, _, _⟩ := hv
  obtain ⟨fuel, hf⟩ := h
  have hcs : (Value.agg cs).cells.toList = cs.toList := by simp [Value.cells]
  rw [hcs] at hf
  obtain ⟨k, hk, hok⟩ := open_ky hf
  exact ⟨k, by rw [← hk], hok⟩
theorem cells30 : Try.prog.cellsOf 30 = 9 := by kernel_rfl
theorem cells32 : Try.prog.cellsOf 32 = 21 := by kernel_rfl
set_option maxRecDepth 100000 in
theorem open_vc {H : Type} {enc : TypeId × Value → H} {W : World} {cs : List Value} {m : Nat} {y : DataW H × List MemPlace} (hf : DataW.trod enc Try.prog W 0 (fun _ => true) true m 30 cs = some y) : ∃ v : Vl, cs = v.cells ∧ v.Ok := by
  obtain ⟨xs, n, _, _, hlen, hxl, hx⟩ := DataW.trod_struct Try.underlying30 hf
  rw [cells30] at hlen
  match cs, hlen with
  | [c0, c2, c3, c4, c5, c6, c7, c8, c9], _ =>
    have hxl' : xs.length = 2 := hxl
    have t0 : DataW.trod enc Try.prog W 0 (fun _ => true) true n 28 (([c0, c2, c3, c4, c5, c6, c7, c8, c9].drop 0).take (Try.prog.cellsOf 28)) = xs[0]? := hx 0 _ rfl
    rw [cells28, List.getElem?_eq_getElem (by omega)] at t0
    change DataW.trod enc Try.prog W 0 (fun _ => true) true n 28 [c0] = _ at t0
    have t2 : DataW.trod enc Try.prog W 0 (fun _ => true) true n 24 (([c0, c2, c3, c4, c5, c6, c7, c8, c9].drop 1).take (Try.prog.cellsOf 24)) = xs[1]? := hx 1 _ rfl
    rw [cells24, List.getElem?_eq_getElem (by omega)] at t2
    change DataW.trod enc Try.prog W 0 (fun _ => true) true n 24 [c2, c3, c4, c5, c6, c7, c8, c9] = _ at t2
    obtain ⟨s, e0, _, w0⟩ := DataW.trod_int Try.underlying28 t0
    injection e0 with e0
    subst e0
    obtain ⟨ys, j, _, _, _, hyl, hy⟩ := DataW.trod_array Try.underlying24 t2
    rw [cells5] at hy
    have get : ∀ i (hi : i < 8), ∃ b : Int, ([c2, c3, c4, c5, c6, c7, c8, c9].drop (i * 1)).take 1 = [.int .u8 b] ∧ 0 ≤ b ∧ b < 256 := fun i hi => by
      have x0 := hy i hi
      rw [List.getElem?_eq_getElem (by omega)] at x0
      obtain ⟨b, e, _, w⟩ := DataW.trod_int Try.underlying5 x0
      have := bounds_u8 w
      exact ⟨b, e, by omega, by omega⟩
    obtain ⟨b0, f0, p0⟩ := get 0 (by omega)
    obtain ⟨b1, f1, p1⟩ := get 1 (by omega)
    obtain ⟨b2, f2, p2⟩ := get 2 (by omega)
    obtain ⟨b3, f3, p3⟩ := get 3 (by omega)
    obtain ⟨b4, f4, p4⟩ := get 4 (by omega)
    obtain ⟨b5, f5, p5⟩ := get 5 (by omega)
    obtain ⟨b6, f6, p6⟩ := get 6 (by omega)
    obtain ⟨b7, f7, p7⟩ := get 7 (by omega)
    simp at f0 f1 f2 f3 f4 f5 f6 f7
    subst f0 f1 f2 f3 f4 f5 f6 f7
    have h0 := bounds_u64 w0
    refine ⟨⟨s, [b0, b1, b2, b3, b4, b5, b6, b7]⟩, rfl, ⟨rfl, ?_, by show 0 ≤ s; omega, by show s < 18446744073709551616; omega⟩⟩
    intro z hz
    simp at hz
    rcases hz with rfl | rfl | rfl | rfl | rfl | rfl | rfl | rfl <;> assumption
set_option maxRecDepth 100000 in
theorem open_ac {H : Type} {enc : TypeId × Value → H} {W : World} {cs : List Value} {m : Nat} {y : DataW H × List MemPlace} (hf : DataW.trod enc Try.prog W 0 (fun _ => true) true m 32 cs = some y) : ∃ a : Am, cs = a.cells ∧ a.Ok := by
  obtain ⟨xs, n, _, _, hlen, hxl, hx⟩ := DataW.trod_struct Try.underlying32 hf
  rw [cells32] at hlen
  have hxl' : xs.length = 2 := hxl
  have t0 : DataW.trod enc Try.prog W 0 (fun _ => true) true n 27 ((cs.drop 0).take (Try.prog.cellsOf 27)) = xs[0]? := hx 0 _ rfl
  rw [cells27, List.getElem?_eq_getElem (by omega)] at t0
  have t1 : DataW.trod enc Try.prog W 0 (fun _ => true) true n 30 ((cs.drop 12).take (Try.prog.cellsOf 30)) = xs[1]? := hx 1 _ rfl
  rw [cells30, List.getElem?_eq_getElem (by omega)] at t1
  obtain ⟨k, hk, ko⟩ := open_ky t0
  obtain ⟨v, hv, vo⟩ := open_vc t1
  refine ⟨⟨k, v⟩, ?_, ⟨ko, vo⟩⟩
  unfold Am.cells
  rw [← hk, ← hv, List.drop_zero, List.take_of_length_le (l := cs.drop 12) (by rw [List.length_drop]; omega), List.take_append_drop]
set_option maxRecDepth 100000 in
theorem open_val {H : Type} {enc : TypeId × Value → H} {W : World} {base : Nat} {v : Value} {d : DataW H} {p : List MemPlace} (hv : Value.okWide Try.prog W .any base 30 v) (h : DataW.Trod enc Try.prog W 0 (fun _ => true) true 30 v d p) :
    ∃ k : Vl, v = .agg k.cells.toArray ∧ k.Ok := by
  simp only [Value.okWide, Try.underlying30] at hv
  obtain ⟨cs, rfl, _, _⟩ := hv
  obtain ⟨fuel, hf⟩ := h
  have hcs : (Value.agg cs).cells.toList = cs.toList := by simp [Value.cells]
  rw [hcs] at hf
  obtain ⟨k, hk, hok⟩ := open_vc hf
  exact ⟨k, by rw [← hk], hok⟩
set_option maxRecDepth 100000 in
theorem open_atom {H : Type} {enc : TypeId × Value → H} {W : World} {base : Nat} {v : Value} {d : DataW H} {p : List MemPlace} (hv : Value.okWide Try.prog W .any base 32 v) (h : DataW.Trod enc Try.prog W 0 (fun _ => true) true 32 v d p) :
    ∃ k : Am, v = .agg k.cells.toArray ∧ k.Ok := by
  simp only [Value.okWide, Try.underlying32] at hv
  obtain ⟨cs, rfl, _, _⟩ := hv
  obtain ⟨fuel, hf⟩ := h
  have hcs : (Value.agg cs).cells.toList = cs.toList := by simp [Value.cells]
  rw [hcs] at hf
  obtain ⟨k, hk, hok⟩ := open_ac hf
  exact ⟨k, by rw [← hk], hok⟩
theorem cells43 : Try.prog.cellsOf 43 = 27 := by kernel_rfl
set_option maxRecDepth 100000 in
theorem open_vals {H : Type} {enc : TypeId × Value → H} {W : World} {base : Nat} {v : Value} {d : DataW H} {p : List MemPlace} (hv : Value.okWide Try.prog W .any base 43 v) (h : DataW.Trod enc Try.prog W 0 (fun _ => true) true 43 v d p) :
    ∃ x y z : Vl, v = .agg (x.cells ++ (y.cells ++ z.cells)).toArray ∧ x.Ok ∧ y.Ok ∧ z.Ok := by
  simp only [Value.okWide, Try.underlying43] at hv
  obtain ⟨cs, rfl, hsz, _⟩ := hv
  rw [cells43] at hsz
  obtain ⟨fuel, hf⟩ := h
  have hcs : (Value.agg cs).cells.toList = cs.toList := by simp [Value.cells]
  rw [hcs] at hf
  obtain ⟨l⟩ := cs
  have hl : l.length = 27 := by simpa using hsz
  obtain ⟨ys, j, _, _, _, hyl, hy⟩ := DataW.trod_array Try.underlying43 hf
  rw [cells30] at hy
  have get : ∀ i (hi : i < 3), ∃ v : Vl, (l.drop (i * 9)).take 9 = v.cells ∧ v.Ok := fun i hi => by
    have x0 := hy i hi
    rw [List.getElem?_eq_getElem (by omega)] at x0
    exact open_vc x0
  obtain ⟨x, hx, xo⟩ := get 0 (by omega)
  obtain ⟨y, hy', yo⟩ := get 1 (by omega)
  obtain ⟨z, hz, zo⟩ := get 2 (by omega)
  refine ⟨x, y, z, ?_, xo, yo, zo⟩
  rw [← hx, ← hy', ← hz]
  congr 1
  have e1 : l = l.take 9 ++ l.drop 9 := (List.take_append_drop 9 l).symm
  have e2 : l.drop 9 = (l.drop 9).take 9 ++ (l.drop 9).drop 9 := (List.take_append_drop 9 _).symm
  rw [List.drop_drop] at e2
  have e3 : (l.drop (2 * 9)).take 9 = l.drop 18 := List.take_of_length_le (by rw [List.length_drop]; omega)
  rw [e3, Nat.zero_mul, Nat.one_mul, List.drop_zero, ← e2, ← e1]
end Go.Proofs.Yteggjihhjdeieaa
