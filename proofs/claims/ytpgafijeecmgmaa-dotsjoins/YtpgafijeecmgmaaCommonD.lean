/- Rows of numbers and sets of dots that came in. -/
import Derived.Test.YtpgafijeecmgmaaCommonV
import Derived.Test.YtpgafijeecmgmaaSets
namespace Go.Proofs.Ytpgafijeecmgmaa
open Go.ChangeShapes Go.WideShapes Go.ChangeAt Go.RowKit

theorem spot_at {w : World} {a : Addr} {zs : List Int} (h : ∀ i, i < zs.length → w.cell? (a.add i) = some (.int .u64 (zs.getD i 0))) (h0 : 0 < zs.length) : ∃ b off, a = ⟨b, off, none⟩ ∧ ∀ i, i < zs.length → w.cell? ⟨b, off + i, none⟩ = some (.int .u64 (zs.getD i 0)) := by
  obtain ⟨b, off, spot⟩ := a
  have h2 : w.cell? ⟨b, off, spot⟩ = some (.int .u64 (zs.getD 0 0)) := by have := h 0 h0; simpa [Addr.add] using this
  have hspot : spot = none := by simpa using World.cell?_spot h2
  subst hspot
  refine ⟨b, off, rfl, fun i hi => ?_⟩
  have := h i hi
  rwa [numAdd] at this
theorem open_cells {H : Type} {enc : TypeId × Value → H} {W : World} {cs : List Value} {m : Nat} {y : DataW H × List MemPlace} (hf : DataW.trod enc Try.prog W 0 (fun _ => true) true m 24 cs = some y) :
    ∃ A cap l, cs = [.slice A l.length cap] ∧ NumsAt W (.slice A l.length cap) l := by
  rcases open_ints Try.underlying24 Try.underlying27 cellz30 hf with ⟨hcs, _⟩ | ⟨x, len, cap, zs, hcs, _, hl, hm, hz, _, hcell, hwz⟩
  · exact ⟨none, 0, [], hcs, nums_at_nil W⟩
  · simp only [if_true] at hz
    have hlen : (zs.take len).length = len := by rw [List.length_take]; omega
    refine ⟨some x, cap, zs.take len, by rw [hlen]; exact hcs, some x, cap, rfl, ⟨by rw [hlen]; omega, fun h => by cases h⟩, ?_, fun h0 => ?_⟩
    · intro n hn
      have := bounds_u64 (hwz n (List.mem_of_mem_take hn))
      omega
    · rw [hlen] at h0
      obtain ⟨b, off, rfl, hc⟩ := spot_at hcell (by omega)
      refine ⟨b, off, rfl, World.block_lt_of_cell? W ⟨b, off + 0, none⟩ (hc 0 (by omega)), fun i hi => ?_⟩
      rw [hlen] at hi
      rw [hc i (by omega), List.getD_eq_getElem?_getD, List.getD_eq_getElem?_getD, List.getElem?_take_of_lt hi]
theorem open_nums {H : Type} {enc : TypeId × Value → H} {W : World} {base : Nat} {v : Value} {d : DataW H} {p : List MemPlace} (hv : Value.okWide Try.prog W .any base 24 v) (h : DataW.Trod enc Try.prog W 0 (fun _ => true) true 24 v d p) :
    ∃ A cap l, v = .slice A l.length cap ∧ NumsAt W (.slice A l.length cap) l := by
  obtain ⟨a0, len0, cap0, rfl⟩ := okWide_slice Try.underlying24 hv
  obtain ⟨fuel, hf⟩ := h
  obtain ⟨A, cap, l, e, hn⟩ := open_cells hf
  simp [Value.cells] at e
  obtain ⟨rfl, rfl, rfl⟩ := e
  exact ⟨_, _, l, rfl, hn⟩
theorem cellzS : Try.prog.cellsOf 26 = 17 := by kernel_rfl
theorem cellzN : Try.prog.cellsOf 24 = 1 := by kernel_rfl
set_option maxRecDepth 100000 in
theorem open_set {H : Type} {enc : TypeId × Value → H} {W : World} {base : Nat} {v : Value} {d : DataW H} {p : List MemPlace} (hv : Value.okWide Try.prog W .any base 26 v) (h : DataW.Trod enc Try.prog W 0 (fun _ => true) true 26 v d p) :
    ∃ f A cap l, v = .agg (sc f (.slice A l.length cap)).toArray ∧ VOk f ∧ NumsAt W (.slice A l.length cap) l := by
  simp only [Value.okWide, Try.underlying26] at hv
  obtain ⟨cs, rfl, _, _⟩ := hv
  obtain ⟨fuel, hf⟩ := h
  have hcs : (Value.agg cs).cells.toList = cs.toList := by simp [Value.cells]
  rw [hcs] at hf
  obtain ⟨xs, n, _, _, hlen, hxl, hx⟩ := DataW.trod_struct Try.underlying26 hf
  rw [cellzS] at hlen
  have hxl' : xs.length = 2 := hxl
  have t0 : DataW.trod enc Try.prog W 0 (fun _ => true) true n 23 ((cs.toList.drop 0).take (Try.prog.cellsOf 23)) = xs[0]? := hx 0 _ rfl
  rw [cellzV, List.getElem?_eq_getElem (by omega)] at t0
  have t1 : DataW.trod enc Try.prog W 0 (fun _ => true) true n 24 ((cs.toList.drop 16).take (Try.prog.cellsOf 24)) = xs[1]? := hx 1 _ rfl
  rw [cellzN, List.getElem?_eq_getElem (by omega)] at t1
  obtain ⟨f, hf', fo⟩ := open_vcs t0
  obtain ⟨A, cap, l, hl, hn⟩ := open_cells t1
  refine ⟨f, A, cap, l, ?_, fo, hn⟩
  have e : cs.toList = sc f (.slice A l.length cap) := by
    unfold sc
    rw [← hf', ← hl, List.drop_zero, List.take_of_length_le (l := cs.toList.drop 16) (by rw [List.length_drop]; omega), List.take_append_drop]
  rw [← e]
end Go.Proofs.Ytpgafijeecmgmaa
