/- What the proofs of this seat's statements share: keys, rows of atoms and rows of rows that came in. -/
import Derived.Test.YtpgafijeecmgmaaRows
import Derived.Test.YtpgafijeecmgmaaMaps
import Derived.Test.YtpgafijeecmgmaaRefAll
import Derived.ProofKit
import Derived.OpenShut
import Derived.Deep.Slices
namespace Go.Proofs.Ytpgafijeecmgmaa
open Go.ChangeShapes Go.WideShapes Go.ChangeAt Go.RowKit

theorem own : ownKnob Try.prog.godebug = none := by kernel_rfl
theorem cellz5 : Try.prog.cellsOf 5 = 1 := by kernel_rfl
theorem cellz23 : Try.prog.cellsOf 71 = 1 := by kernel_rfl
theorem cellz25 : Try.prog.cellsOf 73 = 8 := by kernel_rfl
theorem cellz26 : Try.prog.cellsOf 22 = 1 := by kernel_rfl
theorem cellz28 : Try.prog.cellsOf 75 = 12 := by kernel_rfl
theorem cellz30 : Try.prog.cellsOf 27 = 1 := by kernel_rfl
theorem trod_lts {H : Type} {enc : TypeId × Value → H} {W : World} {t : TypeId} {v : Value} {d : DataW H} {p : List MemPlace} (h : DataW.Trod enc Try.prog W 0 (fun _ => true) true t v d p) : ∀ x ∈ p, x.block < W.heap.size := by
  obtain ⟨m, hm⟩ := h; exact DataW.trod_lt m _ _ _ hm
set_option maxRecDepth 100000 in
theorem open_ky {H : Type} {enc : TypeId × Value → H} {W : World} {cs : List Value} {m : Nat} {y : DataW H × List MemPlace} (hf : DataW.trod enc Try.prog W 0 (fun _ => true) true m 75 cs = some y) : ∃ k : Ky, cs = k.cells ∧ k.Ok := by
  obtain ⟨xs, n, _, _, hlen, hxl, hx⟩ := DataW.trod_struct Try.underlying75 hf
  rw [cellz28] at hlen
  match cs, hlen with
  | [c0, c1, c2, c3, c4, c5, c6, c7, c8, c9, c10, c11], _ =>
    have hxl' : xs.length = 5 := hxl
    have t0 : DataW.trod enc Try.prog W 0 (fun _ => true) true n 5 (([c0, c1, c2, c3, c4, c5, c6, c7, c8, c9, c10, c11].drop 0).take (Try.prog.cellsOf 5)) = xs[0]? := hx 0 _ rfl
    rw [cellz5, List.getElem?_eq_getElem (by omega)] at t0
    change DataW.trod enc Try.prog W 0 (fun _ => true) true n 5 [c0] = _ at t0
    have t1 : DataW.trod enc Try.prog W 0 (fun _ => true) true n 71 (([c0, c1, c2, c3, c4, c5, c6, c7, c8, c9, c10, c11].drop 1).take (Try.prog.cellsOf 71)) = xs[1]? := hx 1 _ rfl
    rw [cellz23, List.getElem?_eq_getElem (by omega)] at t1
    change DataW.trod enc Try.prog W 0 (fun _ => true) true n 71 [c1] = _ at t1
    have t2 : DataW.trod enc Try.prog W 0 (fun _ => true) true n 73 (([c0, c1, c2, c3, c4, c5, c6, c7, c8, c9, c10, c11].drop 2).take (Try.prog.cellsOf 73)) = xs[2]? := hx 2 _ rfl
    rw [cellz25, List.getElem?_eq_getElem (by omega)] at t2
    change DataW.trod enc Try.prog W 0 (fun _ => true) true n 73 [c2, c3, c4, c5, c6, c7, c8, c9] = _ at t2
    have t3 : DataW.trod enc Try.prog W 0 (fun _ => true) true n 5 (([c0, c1, c2, c3, c4, c5, c6, c7, c8, c9, c10, c11].drop 10).take (Try.prog.cellsOf 5)) = xs[3]? := hx 3 _ rfl
    rw [cellz5, List.getElem?_eq_getElem (by omega)] at t3
    change DataW.trod enc Try.prog W 0 (fun _ => true) true n 5 [c10] = _ at t3
    have t4 : DataW.trod enc Try.prog W 0 (fun _ => true) true n 22 (([c0, c1, c2, c3, c4, c5, c6, c7, c8, c9, c10, c11].drop 11).take (Try.prog.cellsOf 22)) = xs[4]? := hx 4 _ rfl
    rw [cellz26, List.getElem?_eq_getElem (by omega)] at t4
    change DataW.trod enc Try.prog W 0 (fun _ => true) true n 22 [c11] = _ at t4
    obtain ⟨s, e0, _, w0⟩ := DataW.trod_int Try.underlying5 t0
    injection e0 with e0
    subst e0
    obtain ⟨c, e1, _, w1⟩ := DataW.trod_int Try.underlying71 t1
    injection e1 with e1
    subst e1
    obtain ⟨r, e3, _, w3⟩ := DataW.trod_int Try.underlying5 t3
    injection e3 with e3
    subst e3
    obtain ⟨q, e4, _, w4⟩ := DataW.trod_int Try.underlying22 t4
    injection e4 with e4
    subst e4
    obtain ⟨ys, j, _, _, _, hyl, hy⟩ := DataW.trod_array Try.underlying73 t2
    rw [cellz5] at hy
    have get : ∀ i (hi : i < 8), ∃ b : Int, ([c2, c3, c4, c5, c6, c7, c8, c9].drop (i * 1)).take 1 = [.int .u8 b] ∧ 0 ≤ b ∧ b < 256 := fun i hi => by
      have x0 := hy i hi
      rw [List.getElem?_eq_getElem (by omega)] at x0
      obtain ⟨b, e, _, w⟩ := DataW.trod_int Try.underlying5 x0
      have := bounds_u8 w
      exact ⟨b, e, by omega, by omega⟩
    obtain ⟨b0, f0, p0⟩ := get 0 (by omega)
    obtain ⟨b1, f1, p1⟩ := get 1 (by omega)
    obtain ⟨b2, f2, p2⟩ := get 2 (by omega)
    obtain ⟨b3, f3, p3⟩ := get 3 (by omega)
    obtain ⟨b4, f4, p4⟩ := get 4 (by omega)
    obtain ⟨b5, f5, p5⟩ := get 5 (by omega)
    obtain ⟨b6, f6, p6⟩ := get 6 (by omega)
    obtain ⟨b7, f7, p7⟩ := get 7 (by omega)
    simp at f0 f1 f2 f3 f4 f5 f6 f7
    subst f0 f1 f2 f3 f4 f5 f6 f7
    have h0 := bounds_u8 w0
    have h1 := bounds_u16 w1
    have h3 := bounds_u8 w3
    have h4 := bounds_u32 w4
    refine ⟨⟨s, c, [b0, b1, b2, b3, b4, b5, b6, b7], r, q⟩, rfl, ⟨rfl, ?_, by show 0 ≤ s; omega, by show s < 256; omega, by show 0 ≤ c; omega, by show c < 65536; omega, by show 0 ≤ r; omega, by show r < 256; omega, by show 0 ≤ q; omega, by show q < 4294967296; omega⟩⟩
    intro z hz
    simp at hz
    rcases hz with rfl | rfl | rfl | rfl | rfl | rfl | rfl | rfl <;> assumption
set_option maxRecDepth 100000 in
theorem open_key {H : Type} {enc : TypeId × Value → H} {W : World} {base : Nat} {v : Value} {d : DataW H} {p : List MemPlace} (hv : Value.okWide Try.prog W .any base 75 v) (h : DataW.Trod enc Try.prog W 0 (fun _ => true) true 75 v d p) :
    ∃ k : Ky, v = .agg k.cells.toArray ∧ k.Ok := by
  simp only [Value.okWide, Try.underlying75] at hv
  obtain ⟨cs, rfl, _, _⟩ := hv
  obtain ⟨fuel, hf⟩ := h
  have hcs : (Value.agg cs).cells.toList = cs.toList := by simp [Value.cells]
  rw [hcs] at hf
  obtain ⟨k, hk, hok⟩ := open_ky hf
  exact ⟨k, by rw [← hk], hok⟩
theorem choose_list {α : Type} {n : Nat} {Q : Nat → α → Prop} (h : ∀ i, i < n → ∃ a, Q i a) : ∃ l : List α, l.length = n ∧ ∀ i (hi : i < l.length), Q i l[i] := by
  induction n with
  | zero => exact ⟨[], rfl, fun i hi => absurd hi (by simp)⟩
  | succ n ih =>
    obtain ⟨l, hl, hq⟩ := ih fun i hi => h i (by omega)
    obtain ⟨a, ha⟩ := h n (by omega)
    refine ⟨l ++ [a], by simp [hl], fun i hi => ?_⟩
    by_cases h1 : i < l.length
    · rw [List.getElem_append_left h1]; exact hq i h1
    · have h2 : i = l.length := by simp at hi; omega
      subst h2
      rw [List.getElem_append_right (Nat.le_refl _)]
      simp only [Nat.sub_self, List.getElem_cons_zero]
      rw [hl]
      exact ha
end Go.Proofs.Ytpgafijeecmgmaa
