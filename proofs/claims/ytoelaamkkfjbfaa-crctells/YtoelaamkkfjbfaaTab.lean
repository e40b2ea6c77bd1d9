/- The contract of the closure that makes the table. -/
import Derived.Test.YtoelaamkkfjbfaaRest
import Derived.Deep.WholeRow
import Derived.Laws.CopyOwn
namespace Go.Proofs.Ytoelaamkkfjbfaa
open Go.RowKit

theorem info34 : (Try.prog.info? 34).map (fun i => (i.zero, i.size)) = some (some (.agg (Array.replicate 256 (.int .u16 0))), 256) := by kernel_rfl
theorem zero34 : ∃ zs : Array Value, (∀ w, (zeroValue 34).run Try.prog w = .ok (.agg zs) w) ∧ zs.size = 256 ∧ ∀ i, i < 256 → zs[i]? = some (.int .u16 0) := by
  refine ⟨Array.replicate 256 (.int .u16 0), (zero_of_info info34).1, by simp, fun i hi => ?_⟩
  simp [hi]
theorem size34 : (Try.prog.info? 34).map (·.size) = some 256 := (zero_of_info info34).2
def tab : Array Value := (Array.range 256).map fun j => .int .u16 (restI j)
theorem tab_size : tab.size = 256 := by simp [tab]
theorem tab_at (i : Nat) (h : i < 256) : tab[i]? = some (.int .u16 (restI i)) := by simp [tab, h]
theorem tab_one : tab.all (·.oneCell') = true := by
  rw [Array.all_eq_true_iff_forall_mem]
  intro x hx
  obtain ⟨j, _, rfl⟩ := Array.mem_map.1 hx
  rfl
def tf (k : Nat) : Nat → Value := fun j => .int .u16 (if j < k then restI j else 0)
theorem tf_step {w : World} {g k : Nat} {c : Int} (h : w.rowIs g 34 256 (tf k)) (hc : restI k = c) : (w.setCell ⟨g, k, none⟩ (.int .u16 c)).rowIs g 34 256 (tf (k + 1)) := by
  refine (h.set k (.int .u16 c)).congr fun j _ => ?_
  unfold tf
  by_cases e : j = k
  · subst e; rw [if_pos rfl, if_pos (by omega), hc]
  · rw [if_neg e]
    by_cases hl : j < k
    · rw [if_pos hl, if_pos (by omega)]
    · rw [if_neg hl, if_neg (by omega)]
theorem tf_all {w : World} {g : Nat} (h : w.rowIs g 34 256 (tf 256)) : w.heap[g]? = some (.cells tab 34) := by
  obtain ⟨c, h1, h2, h3⟩ := h
  have e : c = tab := by
    apply Array.ext_getElem?
    intro i
    by_cases hi : i < 256
    · rw [h3 i hi, tab_at i hi]; unfold tf; rw [if_pos hi]
    · rw [Array.getElem?_eq_none (by omega), Array.getElem?_eq_none (by rw [tab_size]; omega)]
  rw [← e]
  exact h1
set_option maxRecDepth 100000 in
theorem tab_is (w : World) :
    Calls Try.prog 16 #[] w fun e w' => e = .returned (.agg tab) ∧ Below w.heap.size w w' := by
  obtain ⟨zs, hz, hzn, hzi⟩ := zero34
  have HZ := Lib.hid hzi
  have HN := Lib.hid hzn
  clear hzi hzn
  go_enter Try.func16, Try.ntmps16
  go_wp2_with fail
  go_loopw [2] (fun i wr => ∃ k : Nat, k ≤ 256 ∧ i = .int .i64 k ∧ wr.rowIs w.heap.size 34 256 (tf k) ∧ Below w.heap.size w wr) (fun i _ => 256 - (intOf i).toNat)
  case atStart =>
    refine ⟨0, Nat.zero_le _, rfl, ?_, (Below.refl _ _).alloc (Nat.le_refl _) _⟩
    rw [← HN.out]
    exact World.rowIs_alloc w zs 34 (tf 0) (fun i hi => by rw [HN.out] at hi; rw [HZ.out i hi]; rfl)
  case round =>
    obtain ⟨k, hk, rfl, hrow, hbel⟩ := hrel
    by_cases hlt : k < 256
    · obtain ⟨c, hcv⟩ : ∃ c, restI k = c := ⟨_, rfl⟩
      have hcell := hrow.cell hlt
      have hfro := hrow.frozen k
      have HR := Lib.hid hrow
      have HC := Lib.hid hcv
      clear hrow hcv hz
      go_wp2_with fail
      refine (rest_is k c _ hlt HC).mono ?_
      rintro e w' ⟨rfl, rfl⟩
      go_wp2_with fail
      go_roundw
      case rel => exact ⟨k + 1, by omega, by go_num, tf_step HR.out HC.out, hbel.setCell (Nat.le_refl _) _⟩
      case measure => simp [intOf]; omega
    · obtain rfl : k = 256 := by omega
      have hh := tf_all hrow
      clear hrow hz
      have HH := Lib.hid hh
      clear hh
      go_wp2_with (first | refine wpList_load_row rfl 34 _ rfl w.heap.size rfl 34 tab (0, 0) _ HH.out Try.underlying34 rfl (by rw [tab_size]; exact size34) ?_ | refine wpList_store_row rfl 34 _ _ rfl w.heap.size tab rfl rfl 34 tab HH.out (by rw [tab_size]; exact size34) rfl tab_one ?_)
      refine bodyPost_ret (results_cell_row rfl _ _ w.heap.size 34 tab (0, 0) _ rfl (setRow_heap _ _ _ _ _ _ HH.out) Try.underlying34 rfl (by rw [tab_size]; exact size34)) rfl ?_
      exact ⟨rfl, below_setRow hbel (Nat.le_refl _) _⟩
end Go.Proofs.Ytoelaamkkfjbfaa
