/- Vectors, lists of vectors and triples of vectors that came in. -/
import Derived.Test.YtihkncnhkljgpaaCommon
import Derived.Test.YtihkncnhkljgpaaGRows
namespace Go.Proofs.Ytihkncnhkljgpaa
open Go.ChangeShapes Go.WideShapes Go.ChangeAt Go.RowKit

theorem cellzV : Try.prog.cellsOf 23 = 16 := by kernel_rfl
set_option maxRecDepth 100000 in
theorem open_vcs {H : Type} {enc : TypeId × Value → H} {W : World} {cs : List Value} {m : Nat} {y : DataW H × List MemPlace} (hf : DataW.trod enc Try.prog W 0 (fun _ => true) true m 23 cs = some y) : ∃ l, cs = vc l ∧ VOk l := by
  obtain ⟨ys, j, _, _, hlen, hyl, hy⟩ := DataW.trod_array Try.underlying23 hf
  rw [cellz26] at hy
  rw [cellzV] at hlen
  obtain ⟨l, hl, hq⟩ := choose_list (n := 16) (Q := fun i (x : Int) => cs[i]? = some (.int .u32 x) ∧ 0 ≤ x ∧ x < 4294967296) (fun i hi => by
    have x0 := hy i hi
    rw [List.getElem?_eq_getElem (by omega), Nat.mul_one] at x0
    obtain ⟨b, e, _, w⟩ := DataW.trod_int Try.underlying22 x0
    have := bounds_u32 w
    rw [List.drop_eq_getElem_cons (by omega)] at e
    rw [List.take_succ_cons, List.take_zero] at e
    injection e with e
    exact ⟨b, by rw [List.getElem?_eq_getElem (by omega), e], by omega, by omega⟩)
  refine ⟨l, ?_, hl, fun x hx => ?_⟩
  · apply List.ext_getElem?
    intro i
    by_cases hi : i < l.length
    · rw [(hq i hi).1]; exact (vc_at (List.getElem?_eq_getElem hi)).symm
    · rw [List.getElem?_eq_none (by omega), List.getElem?_eq_none (by rw [vc_len]; omega)]
  · obtain ⟨i, hi, rfl⟩ := List.getElem_of_mem hx
    exact (hq i hi).2
set_option maxRecDepth 100000 in
theorem open_v {H : Type} {enc : TypeId × Value → H} {W : World} {base : Nat} {v : Value} {d : DataW H} {p : List MemPlace} (hv : Value.okWide Try.prog W .any base 23 v) (h : DataW.Trod enc Try.prog W 0 (fun _ => true) true 23 v d p) :
    ∃ l, v = .agg (vc l).toArray ∧ VOk l := by
  simp only [Value.okWide, Try.underlying23] at hv
  obtain ⟨cs, rfl, _, _⟩ := hv
  obtain ⟨fuel, hf⟩ := h
  have hcs : (Value.agg cs).cells.toList = cs.toList := by simp [Value.cells]
  rw [hcs] at hf
  obtain ⟨k, hk, hok⟩ := open_vcs hf
  exact ⟨k, by rw [← hk], hok⟩
set_option maxRecDepth 100000 in
theorem open_v3 {H : Type} {enc : TypeId × Value → H} {W : World} {base : Nat} {v : Value} {d : DataW H} {p : List MemPlace} (hv : Value.okWide Try.prog W .any base 49 v) (h : DataW.Trod enc Try.prog W 0 (fun _ => true) true 49 v d p) :
    ∃ x y z, v = .agg (vc x ++ (vc y ++ vc z)).toArray ∧ VOk x ∧ VOk y ∧ VOk z := by
  simp only [Value.okWide, Try.underlying49] at hv
  obtain ⟨cs, rfl, _, _⟩ := hv
  obtain ⟨fuel, hf⟩ := h
  have hcs : (Value.agg cs).cells.toList = cs.toList := by simp [Value.cells]
  rw [hcs] at hf
  obtain ⟨ys, j, _, _, hlen, hyl, hy⟩ := DataW.trod_array Try.underlying49 hf
  have hc : Try.prog.cellsOf 49 = 48 := by kernel_rfl
  rw [hc] at hlen
  rw [cellzV] at hy
  have g0 := hy 0 (by omega)
  have g1 := hy 1 (by omega)
  have g2 := hy 2 (by omega)
  rw [List.getElem?_eq_getElem (by omega)] at g0 g1 g2
  obtain ⟨x, ex, ox⟩ := open_vcs g0
  obtain ⟨y, ey, oy⟩ := open_vcs g1
  obtain ⟨z, ez, oz⟩ := open_vcs g2
  refine ⟨x, y, z, ?_, ox, oy, oz⟩
  rw [← ex, ← ey, ← ez, Nat.zero_mul, List.drop_zero, List.take_of_length_le (l := cs.toList.drop (2 * 16)) (by rw [List.length_drop]; omega), show cs.toList.drop (2 * 16) = (cs.toList.drop (1 * 16)).drop 16 by rw [List.drop_drop], List.take_append_drop, Nat.one_mul, List.take_append_drop]
set_option maxRecDepth 100000 in
theorem open_vs {H : Type} {enc : TypeId × Value → H} {W : World} {base : Nat} {v : Value} {d : DataW H} {p : List MemPlace} (hv : Value.okWide Try.prog W .any base 39 v) (h : DataW.Trod enc Try.prog W 0 (fun _ => true) true 39 v d p) :
    ∃ A n cap ls, v = .slice A n cap ∧ VsV W A n cap ls := by
  obtain ⟨a0, len0, cap0, rfl⟩ := okWide_slice Try.underlying39 hv
  obtain ⟨fuel, hf⟩ := h
  rcases Go.Deep.open_slice Try.underlying39 hf with ⟨hcs, _⟩ | ⟨a, len, cap, m, n, D, Pl, hcs, _, hl, hc, hm, _, hx⟩
  · simp [Value.cells] at hcs
    obtain ⟨rfl, rfl, rfl⟩ := hcs
    exact ⟨none, 0, 0, [], rfl, vsV_nil _⟩
  · simp [Value.cells] at hcs
    obtain ⟨rfl, rfl, rfl⟩ := hcs
    simp only [if_true] at hm
    rw [cellzV] at hx
    obtain ⟨ps, hpl, hps⟩ := choose_list (n := len0) (Q := fun i (q : List Int) => W.cells? 0 (a.add (i * 16)) 16 = some (vc q) ∧ VOk q) (fun i hi => by
      obtain ⟨cs', h1, h2⟩ := hx i (by omega)
      obtain ⟨q, rfl, hq⟩ := open_vcs h2
      exact ⟨q, h1, hq⟩)
    refine ⟨some a, len0, cap0, ps, rfl, fun q hq => ?_, hpl, hl, hc, fun h0 => ?_⟩
    · obtain ⟨i, hi, rfl⟩ := List.getElem_of_mem hq
      exact (hps i hi).2
    · obtain ⟨_, _, hc⟩ := World.cells?_some (hps 0 (by omega)).1
      have h00 := hc 0 (by omega)
      have hlen0 := (hps 0 (by omega)).2.len
      rw [vc_at (List.getElem?_eq_getElem (show 0 < (ps[0]'(by omega)).length by omega))] at h00
      obtain ⟨b, off, spot⟩ := a
      have h2 : W.cell? ⟨b, off, spot⟩ = some (.int .u32 ((ps[0]'(by omega))[0]'(by omega))) := by simpa [Addr.add] using h00
      have hspot : spot = none := by simpa using World.cell?_spot h2
      subst hspot
      refine ⟨b, off, rfl, World.block_lt_of_cell? W ⟨b, off, none⟩ h2, fun i hi j v hv => ?_⟩
      obtain ⟨_, hl21, hc⟩ := World.cells?_some (hps i hi).1
      have hj : j < 16 := by rw [← hl21]; exact (List.getElem?_eq_some_iff.1 hv).1
      have := hc j hj
      rw [add_at, add_at, hv] at this
      exact this
end Go.Proofs.Ytihkncnhkljgpaa
