/- What the proofs of this seat's statements share: keys, rows of atoms and rows of rows that came in. A row of numbers that came in. -/
import Derived.Test.YtnpbmihbmilkbaaGreatRows
import Derived.Test.YtnpbmihbmilkbaaGreatG25
import Derived.Test.YtnpbmihbmilkbaaGreatG16
import Derived.ProofKit
import Derived.OpenShut
import Derived.Deep.Slices
import Derived.Test.YtnpbmihbmilkbaaGreatG29
namespace Go.Proofs.YtnpbmihbmilkbaaGreat
open Go.ChangeShapes Go.WideShapes Go.ChangeAt Go.RowKit
theorem own : ownKnob Tryz.prog.godebug = none := by kernel_rfl
theorem cellz5 : Tryz.prog.cellsOf 5 = 1 := by kernel_rfl
theorem cellz23 : Tryz.prog.cellsOf 45 = 1 := by kernel_rfl
theorem cellz25 : Tryz.prog.cellsOf 40 = 8 := by kernel_rfl
theorem cellz26 : Tryz.prog.cellsOf 46 = 1 := by kernel_rfl
theorem cellz28 : Tryz.prog.cellsOf 48 = 12 := by kernel_rfl
theorem cellz30 : Tryz.prog.cellsOf 22 = 1 := by kernel_rfl
theorem cellz32 : Tryz.prog.cellsOf 42 = 9 := by kernel_rfl
theorem cellz46 : Tryz.prog.cellsOf 50 = 21 := by kernel_rfl
theorem trod_lts {H : Type} {enc : TypeId × Value → H} {W : World} {t : TypeId} {v : Value} {d : DataW H} {p : List MemPlace} (h : DataW.Trod enc Tryz.prog W 0 (fun _ => true) true t v d p) : ∀ x ∈ p, x.block < W.heap.size := by
  obtain ⟨m, hm⟩ := h; exact DataW.trod_lt m _ _ _ hm
set_option maxRecDepth 100000 in
theorem open_ky {H : Type} {enc : TypeId × Value → H} {W : World} {cs : List Value} {m : Nat} {y : DataW H × List MemPlace} (hf : DataW.trod enc Tryz.prog W 0 (fun _ => true) true m 48 cs = some y) : ∃ k : Ky, cs = k.cells ∧ k.Ok := by
  obtain ⟨xs, n, _, _, hlen, hxl, hx⟩ := DataW.trod_struct Tryz.underlying48 hf
  rw [cellz28] at hlen
  match cs, hlen with
  | [c0, c1, c2, c3, c4, c5, c6, c7, c8, c9, c10, c11], _ =>
    have hxl' : xs.length = 5 := hxl
    have t0 : DataW.trod enc Tryz.prog W 0 (fun _ => true) true n 5 (([c0, c1, c2, c3, c4, c5, c6, c7, c8, c9, c10, c11].drop 0).take (Tryz.prog.cellsOf 5)) = xs[0]? := hx 0 _ rfl
    rw [cellz5, List.getElem?_eq_getElem (by omega)] at t0
    change DataW.trod enc Tryz.prog W 0 (fun _ => true) true n 5 [c0] = _ at t0
    have t1 : DataW.trod enc Tryz.prog W 0 (fun _ => true) true n 45 (([c0, c1, c2, c3, c4, c5, c6, c7, c8, c9, c10, c11].drop 1).take (Tryz.prog.cellsOf 45)) = xs[1]? := hx 1 _ rfl
    rw [cellz23, List.getElem?_eq_getElem (by omega)] at t1
    change DataW.trod enc Tryz.prog W 0 (fun _ => true) true n 45 [c1] = _ at t1
    have t2 : DataW.trod enc Tryz.prog W 0 (fun _ => true) true n 40 (([c0, c1, c2, c3, c4, c5, c6, c7, c8, c9, c10, c11].drop 2).take (Tryz.prog.cellsOf 40)) = xs[2]? := hx 2 _ rfl
    rw [cellz25, List.getElem?_eq_getElem (by omega)] at t2
    change DataW.trod enc Tryz.prog W 0 (fun _ => true) true n 40 [c2, c3, c4, c5, c6, c7, c8, c9] = _ at t2
    have t3 : DataW.trod enc Tryz.prog W 0 (fun _ => true) true n 5 (([c0, c1, c2, c3, c4, c5, c6, c7, c8, c9, c10, c11].drop 10).take (Tryz.prog.cellsOf 5)) = xs[3]? := hx 3 _ rfl
    rw [cellz5, List.getElem?_eq_getElem (by omega)] at t3
    change DataW.trod enc Tryz.prog W 0 (fun _ => true) true n 5 [c10] = _ at t3
    have t4 : DataW.trod enc Tryz.prog W 0 (fun _ => true) true n 46 (([c0, c1, c2, c3, c4, c5, c6, c7, c8, c9, c10, c11].drop 11).take (Tryz.prog.cellsOf 46)) = xs[4]? := hx 4 _ rfl
    rw [cellz26, List.getElem?_eq_getElem (by omega)] at t4
    change DataW.trod enc Tryz.prog W 0 (fun _ => true) true n 46 [c11] = _ at t4
    obtain ⟨s, e0, _, w0⟩ := DataW.trod_int Tryz.underlying5 t0
    injection e0 with e0
    subst e0
    obtain ⟨c, e1, _, w1⟩ := DataW.trod_int Tryz.underlying45 t1
    injection e1 with e1
    subst e1
    obtain ⟨r, e3, _, w3⟩ := DataW.trod_int Tryz.underlying5 t3
    injection e3 with e3
    subst e3
    obtain ⟨q, e4, _, w4⟩ := DataW.trod_int Tryz.underlying46 t4
    injection e4 with e4
    subst e4
    obtain ⟨ys, j, _, _, _, hyl, hy⟩ := DataW.trod_array Tryz.underlying40 t2
    rw [cellz5] at hy
    have get : ∀ i (hi : i < 8), ∃ b : Int, ([c2, c3, c4, c5, c6, c7, c8, c9].drop (i * 1)).take 1 = [.int .u8 b] ∧ 0 ≤ b ∧ b < 256 := fun i hi => by
      have x0 := hy i hi
      rw [List.getElem?_eq_getElem (by omega)] at x0
      obtain ⟨b, e, _, w⟩ := DataW.trod_int Tryz.underlying5 x0
      have := bounds_u8 w
      exact ⟨b, e, by omega, by omega⟩
    obtain ⟨b0, f0, p0⟩ := get 0 (by omega)
    obtain ⟨b1, f1, p1⟩ := get 1 (by omega)
    obtain ⟨b2, f2, p2⟩ := get 2 (by omega)
    obtain ⟨b3, f3, p3⟩ := get 3 (by omega)
    obtain ⟨b4, f4, p4⟩ := get 4 (by omega)
    obtain ⟨b5, f5, p5⟩ := get 5 (by omega)
    obtain ⟨b6, f6, p6⟩ := get 6 (by omega)
    obtain ⟨b7, f7, p7⟩ := get 7 (by omega)
    simp at f0 f1 f2 f3 f4 f5 f6 f7
    subst f0 f1 f2 f3 f4 f5 f6 f7
    have h0 := bounds_u8 w0
    have h1 := bounds_u16 w1
    have h3 := bounds_u8 w3
    have h4 := bounds_u32 w4
    refine ⟨⟨s, c, [b0, b1, b2, b3, b4, b5, b6, b7], r, q⟩, rfl, ⟨rfl, ?_, by show 0 ≤ s; omega, by show s < 256; omega, by show 0 ≤ c; omega, by show c < 65536; omega, by show 0 ≤ r; omega, by show r < 256; omega, by show 0 ≤ q; omega, by show q < 4294967296; omega⟩⟩
    intro z hz
    simp at hz
    rcases hz with rfl | rfl | rfl | rfl | rfl | rfl | rfl | rfl <;> assumption
set_option maxRecDepth 100000 in
theorem open_vc {H : Type} {enc : TypeId × Value → H} {W : World} {cs : List Value} {m : Nat} {y : DataW H × List MemPlace} (hf : DataW.trod enc Tryz.prog W 0 (fun _ => true) true m 42 cs = some y) : ∃ v : Vl, cs = v.cells ∧ v.Ok := by
  obtain ⟨xs, n, _, _, hlen, hxl, hx⟩ := DataW.trod_struct Tryz.underlying42 hf
  rw [cellz32] at hlen
  match cs, hlen with
  | [c0, c2, c3, c4, c5, c6, c7, c8, c9], _ =>
    have hxl' : xs.length = 2 := hxl
    have t0 : DataW.trod enc Tryz.prog W 0 (fun _ => true) true n 22 (([c0, c2, c3, c4, c5, c6, c7, c8, c9].drop 0).take (Tryz.prog.cellsOf 22)) = xs[0]? := hx 0 _ rfl
    rw [cellz30, List.getElem?_eq_getElem (by omega)] at t0
    change DataW.trod enc Tryz.prog W 0 (fun _ => true) true n 22 [c0] = _ at t0
    have t2 : DataW.trod enc Tryz.prog W 0 (fun _ => true) true n 40 (([c0, c2, c3, c4, c5, c6, c7, c8, c9].drop 1).take (Tryz.prog.cellsOf 40)) = xs[1]? := hx 1 _ rfl
    rw [cellz25, List.getElem?_eq_getElem (by omega)] at t2
    change DataW.trod enc Tryz.prog W 0 (fun _ => true) true n 40 [c2, c3, c4, c5, c6, c7, c8, c9] = _ at t2
    obtain ⟨s, e0, _, w0⟩ := DataW.trod_int Tryz.underlying22 t0
    injection e0 with e0
    subst e0
    obtain ⟨ys, j, _, _, _, hyl, hy⟩ := DataW.trod_array Tryz.underlying40 t2
    rw [cellz5] at hy
    have get : ∀ i (hi : i < 8), ∃ b : Int, ([c2, c3, c4, c5, c6, c7, c8, c9].drop (i * 1)).take 1 = [.int .u8 b] ∧ 0 ≤ b ∧ b < 256 := fun i hi => by
      have x0 := hy i hi
      rw [List.getElem?_eq_getElem (by omega)] at x0
      obtain ⟨b, e, _, w⟩ := DataW.trod_int Tryz.underlying5 x0
      have := bounds_u8 w
      exact ⟨b, e, by omega, by omega⟩
    obtain ⟨b0, f0, p0⟩ := get 0 (by omega)
    obtain ⟨b1, f1, p1⟩ := get 1 (by omega)
    obtain ⟨b2, f2, p2⟩ := get 2 (by omega)
    obtain ⟨b3, f3, p3⟩ := get 3 (by omega)
    obtain ⟨b4, f4, p4⟩ := get 4 (by omega)
    obtain ⟨b5, f5, p5⟩ := get 5 (by omega)
    obtain ⟨b6, f6, p6⟩ := get 6 (by omega)
    obtain ⟨b7, f7, p7⟩ := get 7 (by omega)
    simp at f0 f1 f2 f3 f4 f5 f6 f7
    subst f0 f1 f2 f3 f4 f5 f6 f7
    have h0 := bounds_u64 w0
    refine ⟨⟨s, [b0, b1, b2, b3, b4, b5, b6, b7]⟩, rfl, ⟨rfl, ?_, by show 0 ≤ s; omega, by show s < 18446744073709551616; omega⟩⟩
    intro z hz
    simp at hz
    rcases hz with rfl | rfl | rfl | rfl | rfl | rfl | rfl | rfl <;> assumption
set_option maxRecDepth 100000 in
theorem open_ac {H : Type} {enc : TypeId × Value → H} {W : World} {cs : List Value} {m : Nat} {y : DataW H × List MemPlace} (hf : DataW.trod enc Tryz.prog W 0 (fun _ => true) true m 50 cs = some y) : ∃ a : Am, cs = a.cells ∧ a.Ok := by
  obtain ⟨xs, n, _, _, hlen, hxl, hx⟩ := DataW.trod_struct Tryz.underlying50 hf
  rw [cellz46] at hlen
  have hxl' : xs.length = 2 := hxl
  have t0 : DataW.trod enc Tryz.prog W 0 (fun _ => true) true n 48 ((cs.drop 0).take (Tryz.prog.cellsOf 48)) = xs[0]? := hx 0 _ rfl
  rw [cellz28, List.getElem?_eq_getElem (by omega)] at t0
  have t1 : DataW.trod enc Tryz.prog W 0 (fun _ => true) true n 42 ((cs.drop 12).take (Tryz.prog.cellsOf 42)) = xs[1]? := hx 1 _ rfl
  rw [cellz32, List.getElem?_eq_getElem (by omega)] at t1
  obtain ⟨k, hk, ko⟩ := open_ky t0
  obtain ⟨v, hv, vo⟩ := open_vc t1
  refine ⟨⟨k, v⟩, ?_, ⟨ko, vo⟩⟩
  unfold Am.cells
  rw [← hk, ← hv, List.drop_zero, List.take_of_length_le (l := cs.drop 12) (by rw [List.length_drop]; omega), List.take_append_drop]
theorem choose_list {α : Type} {n : Nat} {Q : Nat → α → Prop} (h : ∀ i, i < n → ∃ a, Q i a) : ∃ l : List α, l.length = n ∧ ∀ i (hi : i < l.length), Q i l[i] := by
  induction n with
  | zero => exact ⟨[], rfl, fun i hi => absurd hi (by simp)⟩
  | succ n ih =>
    obtain ⟨l, hl, hq⟩ := ih fun i hi => h i (by omega)
    obtain ⟨a, ha⟩ := h n (by omega)
    refine ⟨l ++ [a], by simp [hl], fun i hi => ?_⟩
    by_cases h1 : i < l.length
    · rw [List.getElem_append_left h1]; exact hq i h1
    · have h2 : i = l.length := by simp at hi; omega
      subst h2
      rw [List.getElem_append_right (Nat.le_refl _)]
      simp only [Nat.sub_self, List.getElem_cons_zero]
      rw [hl]
      exact ha
set_option maxRecDepth 100000 in
theorem open_row {H : Type} {enc : TypeId × Value → H} {W : World} {u : Value} {m : Nat} {y : DataW H × List MemPlace} (hf : DataW.trod enc Tryz.prog W 0 (fun _ => true) true m 23 [u] = some y) : ∃ A n cap l, u = .slice A n cap ∧ RowV W A n cap l := by
  rcases Go.Deep.open_slice Tryz.underlying23 hf with ⟨hcs, _⟩ | ⟨a, len, cap, m, n, D, Pl, hcs, _, hl, hc, hm, _, hx⟩
  · injection hcs with hcs
    subst hcs
    exact ⟨none, 0, 0, [], rfl, okR_nil, rfl, Nat.le_refl _, Nat.zero_le _, fun h => absurd h (Nat.lt_irrefl _)⟩
  · injection hcs with hcs
    subst hcs
    simp only [if_true] at hm
    rw [cellz46] at hx
    obtain ⟨ps, hpl, hps⟩ := choose_list (n := len) (Q := fun i (q : Am) => W.cells? 0 (a.add (i * 21)) 21 = some q.cells ∧ q.Ok) (fun i hi => by
      obtain ⟨cs', h1, h2⟩ := hx i (by omega)
      obtain ⟨q, rfl, hq⟩ := open_ac h2
      exact ⟨q, h1, hq⟩)
    refine ⟨some a, len, cap, ps, rfl, fun q hq => ?_, hpl, hl, hc, fun h0 => ?_⟩
    · obtain ⟨i, hi, rfl⟩ := List.getElem_of_mem hq
      exact (hps i hi).2
    · obtain ⟨_, _, hc⟩ := World.cells?_some (hps 0 (by omega)).1
      have h00 := hc 0 (by omega)
      have hz : ps[0].cells[0]? = some (.int .u8 ps[0].k.s) := by
        rw [Am.cells, List.getElem?_append_left (by rw [kcells_len (hps 0 (by omega)).2.k.ml]; omega)]; exact kc0 _
      rw [hz] at h00
      obtain ⟨b, off, spot⟩ := a
      have h2 : W.cell? ⟨b, off, spot⟩ = some (.int .u8 ps[0].k.s) := by simpa [Addr.add] using h00
      have hspot : spot = none := by simpa using World.cell?_spot h2
      subst hspot
      refine ⟨b, off, rfl, World.block_lt_of_cell? W ⟨b, off, none⟩ h2, fun i hi j v hv => ?_⟩
      obtain ⟨_, hl21, hc⟩ := World.cells?_some (hps i hi).1
      have hj : j < 21 := by rw [← hl21]; exact (List.getElem?_eq_some_iff.1 hv).1
      have := hc j hj
      rw [add_at, add_at, hv] at this
      exact this
set_option maxRecDepth 100000 in
theorem open_atoms {H : Type} {enc : TypeId × Value → H} {W : World} {base : Nat} {v : Value} {d : DataW H} {p : List MemPlace} (hv : Value.okWide Tryz.prog W .any base 23 v) (h : DataW.Trod enc Tryz.prog W 0 (fun _ => true) true 23 v d p) :
    ∃ A n cap l, v = .slice A n cap ∧ RowV W A n cap l := by
  obtain ⟨a0, len0, cap0, rfl⟩ := okWide_slice Tryz.underlying23 hv
  obtain ⟨fuel, hf⟩ := h
  exact open_row hf
end Go.Proofs.YtnpbmihbmilkbaaGreat
namespace Go.Proofs.YtnpbmihbmilkbaaGreat
open Go.ChangeShapes Go.WideShapes Go.ChangeAt Go.RowKit
theorem spot_at {w : World} {a : Addr} {zs : List Int} (h : ∀ i, i < zs.length → w.cell? (a.add i) = some (.int .u64 (zs.getD i 0))) (h0 : 0 < zs.length) : ∃ b off, a = ⟨b, off, none⟩ ∧ ∀ i, i < zs.length → w.cell? ⟨b, off + i, none⟩ = some (.int .u64 (zs.getD i 0)) := by
  obtain ⟨b, off, spot⟩ := a
  have h2 : w.cell? ⟨b, off, spot⟩ = some (.int .u64 (zs.getD 0 0)) := by have := h 0 h0; simpa [Addr.add] using this
  have hspot : spot = none := by simpa using World.cell?_spot h2
  subst hspot
  refine ⟨b, off, rfl, fun i hi => ?_⟩
  have := h i hi
  rwa [numAdd] at this
set_option maxRecDepth 100000 in
theorem open_cells {H : Type} {enc : TypeId × Value → H} {W : World} {cs : List Value} {m : Nat} {y : DataW H × List MemPlace} (hf : DataW.trod enc Tryz.prog W 0 (fun _ => true) true m 24 cs = some y) :
    ∃ A cap l, cs = [.slice A l.length cap] ∧ NumsAt W (.slice A l.length cap) l := by
  rcases open_ints Tryz.underlying24 Tryz.underlying22 cellz30 hf with ⟨hcs, _⟩ | ⟨x, len, cap, zs, hcs, _, hl, hm, hz, _, hcell, hwz⟩
  · exact ⟨none, 0, [], hcs, nums_at_nil W⟩
  · simp only [if_true] at hz
    have hlen : (zs.take len).length = len := by rw [List.length_take]; omega
    refine ⟨some x, cap, zs.take len, by rw [hlen]; exact hcs, some x, cap, rfl, ⟨by rw [hlen]; omega, fun h => by cases h⟩, ?_, fun h0 => ?_⟩
    · intro n hn
      have := bounds_u64 (hwz n (List.mem_of_mem_take hn))
      omega
    · rw [hlen] at h0
      obtain ⟨b, off, rfl, hc⟩ := spot_at hcell (by omega)
      refine ⟨b, off, rfl, World.block_lt_of_cell? W ⟨b, off + 0, none⟩ (hc 0 (by omega)), fun i hi => ?_⟩
      rw [hlen] at hi
      rw [hc i (by omega), List.getD_eq_getElem?_getD, List.getD_eq_getElem?_getD, List.getElem?_take_of_lt hi]
set_option maxRecDepth 100000 in
theorem open_nums {H : Type} {enc : TypeId × Value → H} {W : World} {base : Nat} {v : Value} {d : DataW H} {p : List MemPlace} (hv : Value.okWide Tryz.prog W .any base 24 v) (h : DataW.Trod enc Tryz.prog W 0 (fun _ => true) true 24 v d p) :
    ∃ A cap l, v = .slice A l.length cap ∧ NumsAt W (.slice A l.length cap) l := by
  obtain ⟨a0, len0, cap0, rfl⟩ := okWide_slice Tryz.underlying24 hv
  obtain ⟨fuel, hf⟩ := h
  obtain ⟨A, cap, l, e, hn⟩ := open_cells hf
  simp [Value.cells] at e
  obtain ⟨rfl, rfl, rfl⟩ := e
  exact ⟨_, _, l, rfl, hn⟩
end Go.Proofs.YtnpbmihbmilkbaaGreat
