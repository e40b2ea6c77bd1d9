/- What the proofs of this seat's statements share: bytes and pieces that came in. -/
import Derived.Test.YtieeggdmmnhbjaaRows
import Derived.Test.YtieeggdmmnhbjaaPieces
import Derived.ProofKit
import Derived.OpenShut
import Derived.Deep.Slices
namespace Go.Proofs.Ytieeggdmmnhbjaa
open Go.ChangeShapes Go.WideShapes Go.ChangeAt Go.RowKit

theorem own : ownKnob Try.prog.godebug = none := by kernel_rfl
theorem laidOut : laidOutB Try.prog = true := by kernel_rfl
theorem cells3 : Try.prog.cellsOf 3 = 1 := by kernel_rfl
theorem cells28 : Try.prog.cellsOf 28 = 1 := by kernel_rfl
theorem cells30 : Try.prog.cellsOf 30 = 8 := by kernel_rfl
theorem cells31 : Try.prog.cellsOf 31 = 1 := by kernel_rfl
theorem cells33 : Try.prog.cellsOf 33 = 13 := by kernel_rfl
theorem trod_lts {H : Type} {enc : TypeId × Value → H} {W : World} {t : TypeId} {v : Value} {d : DataW H} {p : List MemPlace} (h : DataW.Trod enc Try.prog W 0 (fun _ => true) true t v d p) : ∀ x ∈ p, x.block < W.heap.size := by
  obtain ⟨m, hm⟩ := h; exact DataW.trod_lt m _ _ _ hm
theorem bytes_cells {H : Type} {enc : TypeId × Value → H} {W : World} {u : Value} {m : Nat} {y : DataW H × List MemPlace} (hf : DataW.trod enc Try.prog W 0 (fun _ => true) true m 31 [u] = some y) : ∃ l : List Int, BytesAt W u l := by
  rcases open_ints Try.underlying31 Try.underlying5 cells5 hf with ⟨hcs, _⟩ | ⟨x, len, cap, zs, hcs, _, hl, hm, hz, _, hcell, hwz⟩
  · injection hcs with hcs
    subst hcs
    exact ⟨[], bytes_nil W⟩
  · injection hcs with hcs
    subst hcs
    simp only [if_true] at hz
    have hlen : (zs.take len).length = len := by rw [List.length_take]; omega
    refine ⟨zs.take len, some x, cap, by rw [hlen], ⟨by rw [hlen]; omega, fun h => by cases h⟩, ?_, fun h0 => ?_⟩
    · intro n hn
      have := bounds_u8 (hwz n (List.mem_of_mem_take hn))
      omega
    · rw [hlen] at h0
      obtain ⟨b, off, rfl, hc⟩ := ints_at hcell (by omega)
      refine ⟨b, off, rfl, World.block_lt_of_cell? W ⟨b, off + 0, none⟩ (hc 0 (by omega)), fun i hi => ?_⟩
      rw [hlen] at hi
      rw [hc i (by omega), List.getElem_take, List.getD_eq_getElem?_getD, List.getElem?_eq_getElem (by omega)]
      rfl
set_option maxRecDepth 100000 in
theorem open_bytesAt {H : Type} {enc : TypeId × Value → H} {W : World} {base : Nat} {v : Value} {d : DataW H} {p : List MemPlace} (hv : Value.okWide Try.prog W .any base 31 v) (h : DataW.Trod enc Try.prog W 0 (fun _ => true) true 31 v d p) :
    ∃ l : List Int, BytesAt W v l := by
  obtain ⟨a0, len0, cap0, rfl⟩ := okWide_slice Try.underlying31 hv
  obtain ⟨fuel, hf⟩ := h
  exact bytes_cells hf
set_option maxRecDepth 100000 in
theorem open_piece {H : Type} {enc : TypeId × Value → H} {W : World} {cs : List Value} {m : Nat} {y : DataW H × List MemPlace} (hf : DataW.trod enc Try.prog W 0 (fun _ => true) true m 33 cs = some y) : ∃ p : Pc, cs = p.cells ∧ p.Ok W := by
  obtain ⟨xs, n, _, _, hlen, hxl, hx⟩ := DataW.trod_struct Try.underlying33 hf
  rw [cells33] at hlen
  match cs, hlen with
  | [c0, c1, c2, c3, c4, c5, c6, c7, c8, c9, c10, c11, c12], _ =>
    have hxl' : xs.length = 6 := hxl
    have t0 : DataW.trod enc Try.prog W 0 (fun _ => true) true n 3 (([c0, c1, c2, c3, c4, c5, c6, c7, c8, c9, c10, c11, c12].drop 0).take (Try.prog.cellsOf 3)) = xs[0]? := hx 0 _ rfl
    rw [cells3, List.getElem?_eq_getElem (by omega)] at t0
    change DataW.trod enc Try.prog W 0 (fun _ => true) true n 3 [c0] = _ at t0
    have t1 : DataW.trod enc Try.prog W 0 (fun _ => true) true n 28 (([c0, c1, c2, c3, c4, c5, c6, c7, c8, c9, c10, c11, c12].drop 1).take (Try.prog.cellsOf 28)) = xs[1]? := hx 1 _ rfl
    rw [cells28, List.getElem?_eq_getElem (by omega)] at t1
    change DataW.trod enc Try.prog W 0 (fun _ => true) true n 28 [c1] = _ at t1
    have t2 : DataW.trod enc Try.prog W 0 (fun _ => true) true n 5 (([c0, c1, c2, c3, c4, c5, c6, c7, c8, c9, c10, c11, c12].drop 2).take (Try.prog.cellsOf 5)) = xs[2]? := hx 2 _ rfl
    rw [cells5, List.getElem?_eq_getElem (by omega)] at t2
    change DataW.trod enc Try.prog W 0 (fun _ => true) true n 5 [c2] = _ at t2
    have t3 : DataW.trod enc Try.prog W 0 (fun _ => true) true n 30 (([c0, c1, c2, c3, c4, c5, c6, c7, c8, c9, c10, c11, c12].drop 3).take (Try.prog.cellsOf 30)) = xs[3]? := hx 3 _ rfl
    rw [cells30, List.getElem?_eq_getElem (by omega)] at t3
    change DataW.trod enc Try.prog W 0 (fun _ => true) true n 30 [c3, c4, c5, c6, c7, c8, c9, c10] = _ at t3
    have t4 : DataW.trod enc Try.prog W 0 (fun _ => true) true n 31 (([c0, c1, c2, c3, c4, c5, c6, c7, c8, c9, c10, c11, c12].drop 11).take (Try.prog.cellsOf 31)) = xs[4]? := hx 4 _ rfl
    rw [cells31, List.getElem?_eq_getElem (by omega)] at t4
    change DataW.trod enc Try.prog W 0 (fun _ => true) true n 31 [c11] = _ at t4
    have t5 : DataW.trod enc Try.prog W 0 (fun _ => true) true n 3 (([c0, c1, c2, c3, c4, c5, c6, c7, c8, c9, c10, c11, c12].drop 12).take (Try.prog.cellsOf 3)) = xs[5]? := hx 5 _ rfl
    rw [cells3, List.getElem?_eq_getElem (by omega)] at t5
    change DataW.trod enc Try.prog W 0 (fun _ => true) true n 3 [c12] = _ at t5
    obtain ⟨d, e0, _, _⟩ := DataW.trod_int Try.underlying3 t0
    injection e0 with e0
    subst e0
    obtain ⟨x, e1, _, w1⟩ := DataW.trod_int Try.underlying28 t1
    injection e1 with e1
    subst e1
    obtain ⟨c, e2, _, w2⟩ := DataW.trod_int Try.underlying5 t2
    injection e2 with e2
    subst e2
    obtain ⟨l, hl⟩ := bytes_cells t4
    obtain ⟨k, e5, _, w5⟩ := DataW.trod_int Try.underlying3 t5
    injection e5 with e5
    subst e5
    obtain ⟨ys, j, _, _, _, hyl, hy⟩ := DataW.trod_array Try.underlying30 t3
    rw [cells5] at hy
    have get : ∀ i (hi : i < 8), ∃ b : Int, ([c3, c4, c5, c6, c7, c8, c9, c10].drop (i * 1)).take 1 = [.int .u8 b] ∧ 0 ≤ b ∧ b < 256 := fun i hi => by
      have x0 := hy i hi
      rw [List.getElem?_eq_getElem (by omega)] at x0
      obtain ⟨b, e, _, w⟩ := DataW.trod_int Try.underlying5 x0
      have := bounds_u8 w
      exact ⟨b, e, by omega, by omega⟩
    obtain ⟨b0, f0, p0⟩ := get 0 (by omega)
    obtain ⟨b1, f1, p1⟩ := get 1 (by omega)
    obtain ⟨b2, f2, p2⟩ := get 2 (by omega)
    obtain ⟨b3, f3, p3⟩ := get 3 (by omega)
    obtain ⟨b4, f4, p4⟩ := get 4 (by omega)
    obtain ⟨b5, f5, p5⟩ := get 5 (by omega)
    obtain ⟨b6, f6, p6⟩ := get 6 (by omega)
    obtain ⟨b7, f7, p7⟩ := get 7 (by omega)
    simp at f0 f1 f2 f3 f4 f5 f6 f7
    subst f0 f1 f2 f3 f4 f5 f6 f7
    have h1 := bounds_u64 w1
    have h2 := bounds_u8 w2
    have h5 := bounds_i64 w5
    have x0 : 0 ≤ x := by omega
    have x1 : x < 18446744073709551616 := by omega
    have y0 : 0 ≤ c := by omega
    have y1 : c < 256 := by omega
    have z1 : k < 9223372036854775808 := by omega
    refine ⟨⟨d, x, c, [b0, b1, b2, b3, b4, b5, b6, b7], c11, k, l⟩, rfl, ⟨rfl, ?_, x0, x1, y0, y1, z1, hl⟩⟩
    intro z hz
    simp at hz
    rcases hz with rfl | rfl | rfl | rfl | rfl | rfl | rfl | rfl <;> assumption
theorem choose_list {α : Type} {n : Nat} {Q : Nat → α → Prop} (h : ∀ i, i < n → ∃ a, Q i a) : ∃ l : List α, l.length = n ∧ ∀ i (hi : i < l.length), Q i l[i] := by
  induction n with
  | zero => exact ⟨[], rfl, fun i hi => absurd hi (by simp)⟩
  | succ n ih =>
    obtain ⟨l, hl, hq⟩ := ih fun i hi => h i (by omega)
    obtain ⟨a, ha⟩ := h n (by omega)
    refine ⟨l ++ [a], by simp [hl], fun i hi => ?_⟩
    by_cases h1 : i < l.length
    · rw [List.getElem_append_left h1]; exact hq i h1
    · have h2 : i = l.length := by simp at hi; omega
      subst h2
      rw [List.getElem_append_right (Nat.le_refl _)]
      simp only [Nat.sub_self, List.getElem_cons_zero]
      rw [hl]
      exact ha
set_option maxRecDepth 100000 in
theorem open_pieces {H : Type} {enc : TypeId × Value → H} {W : World} {base : Nat} {v : Value} {d : DataW H} {p : List MemPlace} (hv : Value.okWide Try.prog W .any base 22 v) (h : DataW.Trod enc Try.prog W 0 (fun _ => true) true 22 v d p) :
    ∃ ps : List Pc, PsAt W v ps := by
  obtain ⟨a0, len0, cap0, rfl⟩ := okWide_slice Try.underlying22 hv
  obtain ⟨fuel, hf⟩ := h
  rcases Go.Deep.open_slice Try.underlying22 hf with ⟨hcs, _⟩ | ⟨a, len, cap, m, n, D, Pl, hcs, _, hl, _, hm, _, hx⟩
  · simp [Value.cells] at hcs
    obtain ⟨rfl, rfl, rfl⟩ := hcs
    exact ⟨[], ⟨none, 0, rfl, Nat.le_refl _, fun h => absurd h (by simp)⟩, fun q hq => by cases hq⟩
  · simp [Value.cells] at hcs
    obtain ⟨rfl, rfl, rfl⟩ := hcs
    simp only [if_true] at hm
    rw [cells33] at hx
    obtain ⟨ps, hpl, hps⟩ := choose_list (n := len0) (Q := fun i (q : Pc) => W.cells? 0 (a.add (i * 13)) 13 = some q.cells ∧ q.Ok W) (fun i hi => by
      obtain ⟨cs', h1, h2⟩ := hx i (by omega)
      obtain ⟨q, rfl, hq⟩ := open_piece h2
      exact ⟨q, h1, hq⟩)
    refine ⟨ps, ⟨some a, cap0, by rw [hpl], by omega, fun h0 => ?_⟩, fun q hq => ?_⟩
    · obtain ⟨_, _, hc⟩ := World.cells?_some (hps 0 h0).1
      have h00 := hc 0 (by omega)
      obtain ⟨b, off, spot⟩ := a
      have hspot : spot = none := by
        have h2 : W.cell? ⟨b, off, spot⟩ = some (.int .i64 ps[0].d) := by simpa [Addr.add, Pc.cells] using h00
        simpa using World.cell?_spot h2
      subst hspot
      refine ⟨b, off, rfl, ?_, fun i hi j v hv => ?_⟩
      · have h2 : W.cell? ⟨b, off, none⟩ = some (.int .i64 ps[0].d) := by simpa [Addr.add, Pc.cells] using h00
        exact World.block_lt_of_cell? W ⟨b, off, none⟩ h2
      · obtain ⟨_, hl13, hc⟩ := World.cells?_some (hps i hi).1
        have hj : j < 13 := by rw [← hl13]; exact (List.getElem?_eq_some_iff.1 hv).1
        have := hc j hj
        rw [add_at, add_at, hv] at this
        exact this
    · obtain ⟨i, hi, rfl⟩ := List.getElem_of_mem hq
      exact (hps i hi).2
end Go.Proofs.Ytieeggdmmnhbjaa
