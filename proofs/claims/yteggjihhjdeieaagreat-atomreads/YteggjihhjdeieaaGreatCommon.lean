/- What the proofs of this seat's statements share: atoms, values and bytes that came in. -/
import Derived.Test.YteggjihhjdeieaaGreatRows
import Derived.Test.YteggjihhjdeieaaGreatAtoms
import Derived.ProofKit
import Derived.OpenShut
import Derived.Deep.Slices
namespace Go.Proofs.YteggjihhjdeieaaGreat
open Go.ChangeShapes Go.WideShapes Go.ChangeAt Go.RowKit

theorem own : ownKnob Tryz.prog.godebug = none := by kernel_rfl
theorem laidOut : laidOutB Tryz.prog = true := by kernel_rfl
theorem cells22 : Tryz.prog.cellsOf 22 = 1 := by kernel_rfl
theorem cells24 : Tryz.prog.cellsOf 24 = 8 := by kernel_rfl
theorem cells25 : Tryz.prog.cellsOf 25 = 1 := by kernel_rfl
theorem cells27 : Tryz.prog.cellsOf 27 = 12 := by kernel_rfl
theorem trod_lts {H : Type} {enc : TypeId × Value → H} {W : World} {t : TypeId} {v : Value} {d : DataW H} {p : List MemPlace} (h : DataW.Trod enc Tryz.prog W 0 (fun _ => true) true t v d p) : ∀ x ∈ p, x.block < W.heap.size := by
  obtain ⟨m, hm⟩ := h; exact DataW.trod_lt m _ _ _ hm
theorem bytes_cells {H : Type} {enc : TypeId × Value → H} {W : World} {u : Value} {m : Nat} {y : DataW H × List MemPlace} (hf : DataW.trod enc Tryz.prog W 0 (fun _ => true) true m 33 [u] = some y) : ∃ l : List Int, BytesAt W u l := by
  rcases open_ints Tryz.underlying33 Tryz.underlying5 cells5 hf with ⟨hcs, _⟩ | ⟨x, len, cap, zs, hcs, _, hl, hm, hz, _, hcell, hwz⟩
  · injection hcs with hcs
    subst hcs
    exact ⟨[], bytes_nil W⟩
  · injection hcs with hcs
    subst hcs
    simp only [if_true] at hz
    have hlen : (zs.take len).length = len := by rw [List.length_take]; omega
    refine ⟨zs.take len, some x, cap, by rw [hlen], ⟨by rw [hlen]; omega, fun h => by cases h⟩, ?_, fun h0 => ?_⟩
    · intro n hn
      have := bounds_u8 (hwz n (List.mem_of_mem_take hn))
      omega
    · rw [hlen] at h0
      obtain ⟨b, off, rfl, hc⟩ := ints_at hcell (by omega)
      refine ⟨b, off, rfl, World.block_lt_of_cell? W ⟨b, off + 0, none⟩ (hc 0 (by omega)), fun i hi => ?_⟩
      rw [hlen] at hi
      rw [hc i (by omega), List.getElem_take, List.getD_eq_getElem?_getD, List.getElem?_eq_getElem (by omega)]
      rfl
set_option maxRecDepth 100000 in
theorem open_bytesAt {H : Type} {enc : TypeId × Value → H} {W : World} {base : Nat} {v : Value} {d : DataW H} {p : List MemPlace} (hv : Value.okWide Tryz.prog W .any base 33 v) (h : DataW.Trod enc Tryz.prog W 0 (fun _ => true) true 33 v d p) :
    ∃ l : List Int, BytesAt W v l := by
  obtain ⟨a0, len0, cap0, rfl⟩ := okWide_slice Tryz.underlying33 hv
  obtain ⟨fuel, hf⟩ := h
  exact bytes_cells hf
set_option maxRecDepth 100000 in
theorem open_ky {H : Type} {enc : TypeId × Value → H} {W : World} {cs : List Value} {m : Nat} {y : DataW H × List MemPlace} (hf : DataW.trod enc Tryz.prog W 0 (fun _ => true) true m 27 cs = some y) : ∃ k : Ky, cs = k.cells ∧ k.Ok := by
  obtain ⟨xs, n, _, _, hlen, hxl, hx⟩ := DataW.trod_struct Tryz.underlying27 hf
  rw [cells27] at hlen
  match cs, hlen with
  | [c0, c1, c2, c3, c4, c5, c6, c7, c8, c9, c10, c11], _ =>
    have hxl' : xs.length = 5 := hxl
    have t0 : DataW.trod enc Tryz.prog W 0 (fun _ => true) true n 5 (([c0, c1, c2, c3, c4, c5, c6, c7, c8, c9, c10, c11].drop 0).take (Tryz.prog.cellsOf 5)) = xs[0]? := hx 0 _ rfl
    rw [cells5, List.getElem?_eq_getElem (by omega)] at t0
    change DataW.trod enc Tryz.prog W 0 (fun _ => true) true n 5 [c0] = _ at t0
    have t1 : DataW.trod enc Tryz.prog W 0 (fun _ => true) true n 22 (([c0, c1, c2, c3, c4, c5, c6, c7, c8, c9, c10, c11].drop 1).take (Tryz.prog.cellsOf 22)) = xs[1]? := hx 1 _ rfl
    rw [cells22, List.getElem?_eq_getElem (by omega)] at t1
    change DataW.trod enc Tryz.prog W 0 (fun _ => true) true n 22 [c1] = _ at t1
    have t2 : DataW.trod enc Tryz.prog W 0 (fun _ => true) true n 24 (([c0, c1, c2, c3, c4, c5, c6, c7, c8, c9, c10, c11].drop 2).take (Tryz.prog.cellsOf 24)) = xs[2]? := hx 2 _ rfl
    rw [cells24, List.getElem?_eq_getElem (by omega)] at t2
    change DataW.trod enc Tryz.prog W 0 (fun _ => true) true n 24 [c2, c3, c4, c5, c6, c7, c8, c9] = _ at t2
    have t3 : DataW.trod enc Tryz.prog W 0 (fun _ => true) true n 5 (([c0, c1, c2, c3, c4, c5, c6, c7, c8, c9, c10, c11].drop 10).take (Tryz.prog.cellsOf 5)) = xs[3]? := hx 3 _ rfl
    rw [cells5, List.getElem?_eq_getElem (by omega)] at t3
    change DataW.trod enc Tryz.prog W 0 (fun _ => true) true n 5 [c10] = _ at t3
    have t4 : DataW.trod enc Tryz.prog W 0 (fun _ => true) true n 25 (([c0, c1, c2, c3, c4, c5, c6, c7, c8, c9, c10, c11].drop 11).take (Tryz.prog.cellsOf 25)) = xs[4]? := hx 4 _ rfl
    rw [cells25, List.getElem?_eq_getElem (by omega)] at t4
    change DataW.trod enc Tryz.prog W 0 (fun _ => true) true n 25 [c11] = _ at t4
    obtain ⟨s, e0, _, w0⟩ := DataW.trod_int Tryz.underlying5 t0
    injection e0 with e0
    subst e0
    obtain ⟨c, e1, _, w1⟩ := DataW.trod_int Tryz.underlying22 t1
    injection e1 with e1
    subst e1
    obtain ⟨r, e3, _, w3⟩ := DataW.trod_int Tryz.underlying5 t3
    injection e3 with e3
    subst e3
    obtain ⟨q, e4, _, w4⟩ := DataW.trod_int Tryz.underlying25 t4
    injection e4 with e4
    subst e4
    obtain ⟨ys, j, _, _, _, hyl, hy⟩ := DataW.trod_array Tryz.underlying24 t2
    rw [cells5] at hy
    have get : ∀ i (hi : i < 8), ∃ b : Int, ([c2, c3, c4, c5, c6, c7, c8, c9].drop (i * 1)).take 1 = [.int .u8 b] ∧ 0 ≤ b ∧ b < 256 := fun i hi => by
      have x0 := hy i hi
      rw [List.getElem?_eq_getElem (by omega)] at x0
      obtain ⟨b, e, _, w⟩ := DataW.trod_int Tryz.underlying5 x0
      have := bounds_u8 w
      exact ⟨b, e, by omega, by omega⟩
    obtain ⟨b0, f0, p0⟩ := get 0 (by omega)
    obtain ⟨b1, f1, p1⟩ := get 1 (by omega)
    obtain ⟨b2, f2, p2⟩ := get 2 (by omega)
    obtain ⟨b3, f3, p3⟩ := get 3 (by omega)
    obtain ⟨b4, f4, p4⟩ := get 4 (by omega)
    obtain ⟨b5, f5, p5⟩ := get 5 (by omega)
    obtain ⟨b6, f6, p6⟩ := get 6 (by omega)
    obtain ⟨b7, f7, p7⟩ := get 7 (by omega)
    simp at f0 f1 f2 f3 f4 f5 f6 f7
    subst f0 f1 f2 f3 f4 f5 f6 f7
    have h0 := bounds_u8 w0
    have h1 := bounds_u16 w1
    have h3 := bounds_u8 w3
    have h4 := bounds_u32 w4
    refine ⟨⟨s, c, [b0, b1, b2, b3, b4, b5, b6, b7], r, q⟩, rfl, ⟨rfl, ?_, by show 0 ≤ s; omega, by show s < 256; omega, by show 0 ≤ c; omega, by show c < 65536; omega, by show 0 ≤ r; omega, by show r < 256; omega, by show 0 ≤ q; omega, by show q < 4294967296; omega⟩⟩
    intro z hz
    simp at hz
    rcases hz with rfl | rfl | rfl | rfl | rfl | rfl | rfl | rfl <;> assumption
set_option maxRecDepth 100000 in
theorem open_key {H : Type} {enc : TypeId × Value → H} {W : World} {base : Nat} {v : Value} {d : DataW H} {p : List MemPlace} (hv : Value.okWide Tryz.prog W .any base 27 v) (h : DataW.Trod enc Tryz.prog W 0 (fun _ => true) true 27 v d p) :
    ∃ k : Ky, v = .agg k.cells.toArray ∧ k.Ok := by
  simp only [Value.okWide, Tryz.underlying27] at hv
  obtain ⟨cs, rfl, _, _⟩ := hv
  obtain ⟨fuel, hf⟩ := h
  have hcs : (Value.agg cs).cells.toList = cs.toList := by simp [Value.cells]
  rw [hcs] at hf
  obtain ⟨k, hk, hok⟩ := open_ky hf
  exact ⟨k, by rw [← hk], hok⟩
theorem cells30 : Tryz.prog.cellsOf 30 = 9 := by kernel_rfl
theorem cells32 : Tryz.prog.cellsOf 32 = 21 := by kernel_rfl
set_option maxRecDepth 100000 in
theorem open_vc {H : Type} {enc : TypeId × Value → H} {W : World} {cs : List Value} {m : Nat} {y : DataW H × List MemPlace} (hf : DataW.trod enc Tryz.prog W 0 (fun _ => true) true m 30 cs = some y) : ∃ v : Vl, cs = v.cells ∧ v.Ok := by
  obtain ⟨xs, n, _, _, hlen, hxl, hx⟩ := DataW.trod_struct Tryz.underlying30 hf
  rw [cells30] at hlen
  match cs, hlen with
  | [c0, c2, c3, c4, c5, c6, c7, c8, c9], _ =>
    have hxl' : xs.length = 2 := hxl
    have t0 : DataW.trod enc Tryz.prog W 0 (fun _ => true) true n 28 (([c0, c2, c3, c4, c5, c6, c7, c8, c9].drop 0).take (Tryz.prog.cellsOf 28)) = xs[0]? := hx 0 _ rfl
    rw [cells28, List.getElem?_eq_getElem (by omega)] at t0
    change DataW.trod enc Tryz.prog W 0 (fun _ => true) true n 28 [c0] = _ at t0
    have t2 : DataW.trod enc Tryz.prog W 0 (fun _ => true) true n 24 (([c0, c2, c3, c4, c5, c6, c7, c8, c9].drop 1).take (Tryz.prog.cellsOf 24)) = xs[1]? := hx 1 _ rfl
    rw [cells24, List.getElem?_eq_getElem (by omega)] at t2
    change DataW.trod enc Tryz.prog W 0 (fun _ => true) true n 24 [c2, c3, c4, c5, c6, c7, c8, c9] = _ at t2
    obtain ⟨s, e0, _, w0⟩ := DataW.trod_int Tryz.underlying28 t0
    injection e0 with e0
    subst e0
    obtain ⟨ys, j, _, _, _, hyl, hy⟩ := DataW.trod_array Tryz.underlying24 t2
    rw [cells5] at hy
    have get : ∀ i (hi : i < 8), ∃ b : Int, ([c2, c3, c4, c5, c6, c7, c8, c9].drop (i * 1)).take 1 = [.int .u8 b] ∧ 0 ≤ b ∧ b < 256 := fun i hi => by
      have x0 := hy i hi
      rw [List.getElem?_eq_getElem (by omega)] at x0
      obtain ⟨b, e, _, w⟩ := DataW.trod_int Tryz.underlying5 x0
      have := bounds_u8 w
      exact ⟨b, e, by omega, by omega⟩
    obtain ⟨b0, f0, p0⟩ := get 0 (by omega)
    obtain ⟨b1, f1, p1⟩ := get 1 (by omega)
    obtain ⟨b2, f2, p2⟩ := get 2 (by omega)
    obtain ⟨b3, f3, p3⟩ := get 3 (by omega)
    obtain ⟨b4, f4, p4⟩ := get 4 (by omega)
    obtain ⟨b5, f5, p5⟩ := get 5 (by omega)
    obtain ⟨b6, f6, p6⟩ := get 6 (by omega)
    obtain ⟨b7, f7, p7⟩ := get 7 (by omega)
    simp at f0 f1 f2 f3 f4 f5 f6 f7
    subst f0 f1 f2 f3 f4 f5 f6 f7
    have h0 := bounds_u64 w0
    refine ⟨⟨s, [b0, b1, b2, b3, b4, b5, b6, b7]⟩, rfl, ⟨rfl, ?_, by show 0 ≤ s; omega, by show s < 18446744073709551616; omega⟩⟩
    intro z hz
    simp at hz
    rcases hz with rfl | rfl | rfl | rfl | rfl | rfl | rfl | rfl <;> assumption
set_option maxRecDepth 100000 in
theorem open_ac {H : Type} {enc : TypeId × Value → H} {W : World} {cs : List Value} {m : Nat} {y : DataW H × List MemPlace} (hf : DataW.trod enc Tryz.prog W 0 (fun _ => true) true m 32 cs = some y) : ∃ a : Am, cs = a.cells ∧ a.Ok := by
  obtain ⟨xs, n, _, _, hlen, hxl, hx⟩ := DataW.trod_struct Tryz.underlying32 hf
  rw [cells32] at hlen
  have hxl' : xs.length = 2 := hxl
  have t0 : DataW.trod enc Tryz.prog W 0 (fun _ => true) true n 27 ((cs.drop 0).take (Tryz.prog.cellsOf 27)) = xs[0]? := hx 0 _ rfl
  rw [cells27, List.getElem?_eq_getElem (by omega)] at t0
  have t1 : DataW.trod enc Tryz.prog W 0 (fun _ => true) true n 30 ((cs.drop 12).take (Tryz.prog.cellsOf 30)) = xs[1]? := hx 1 _ rfl
  rw [cells30, List.getElem?_eq_getElem (by omega)] at t1
  obtain ⟨k, hk, ko⟩ := open_ky t0
  obtain ⟨v, hv, vo⟩ := open_vc t1
  refine ⟨⟨k, v⟩, ?_, ⟨ko, vo⟩⟩
  unfold Am.cells
  rw [← hk, ← hv, List.drop_zero, List.take_of_length_le (l := cs.drop 12) (by rw [List.length_drop]; omega), List.take_append_drop]
set_option maxRecDepth 100000 in
theorem open_val {H : Type} {enc : TypeId × Value → H} {W : World} {base : Nat} {v : Value} {d : DataW H} {p : List MemPlace} (hv : Value.okWide Tryz.prog W .any base 30 v) (h : DataW.Trod enc Tryz.prog W 0 (fun _ => true) true 30 v d p) :
    ∃ k : Vl, v = .agg k.cells.toArray ∧ k.Ok := by
  simp only [Value.okWide, Tryz.underlying30] at hv
  obtain ⟨cs, rfl, _, _⟩ := hv
  obtain ⟨fuel, hf⟩ := h
  have hcs : (Value.agg cs).cells.toList = cs.toList := by simp [Value.cells]
  rw [hcs] at hf
  obtain ⟨k, hk, hok⟩ := open_vc hf
  exact ⟨k, by rw [← hk], hok⟩
set_option maxRecDepth 100000 in
theorem open_atom {H : Type} {enc : TypeId × Value → H} {W : World} {base : Nat} {v : Value} {d : DataW H} {p : List MemPlace} (hv : Value.okWide Tryz.prog W .any base 32 v) (h : DataW.Trod enc Tryz.prog W 0 (fun _ => true) true 32 v d p) :
    ∃ k : Am, v = .agg k.cells.toArray ∧ k.Ok := by
  simp only [Value.okWide, Tryz.underlying32] at hv
  obtain ⟨cs, rfl, _, _⟩ := hv
  obtain ⟨fuel, hf⟩ := h
  have hcs : (Value.agg cs).cells.toList = cs.toList := by simp [Value.cells]
  rw [hcs] at hf
  obtain ⟨k, hk, hok⟩ := open_ac hf
  exact ⟨k, by rw [← hk], hok⟩
end Go.Proofs.YteggjihhjdeieaaGreat
