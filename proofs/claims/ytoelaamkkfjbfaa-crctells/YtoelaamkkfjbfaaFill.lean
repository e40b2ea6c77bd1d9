/- The contracts of Put and of what it calls, at two bytes. -/
import Derived.Test.YtoelaamkkfjbfaaBytes
namespace Go.Proofs.Ytoelaamkkfjbfaa
open Go.RowKit

theorem put1_is (g i : Nat) (x r : Int) (w : World) (hi : i < 8) (hc : w.cell? ⟨g, 0, none⟩ = some (.int .u64 x)) (hr : Hid (x / 2 ^ (8 * i) % 256 = r)) :
    Calls Try.prog 26 #[.int .i64 i, .pointer (some ⟨g, 0, none⟩)] w fun e w' => e = .returned (.int .u8 r) ∧ w = w' := by
  have hk64 : 8 * (i : Int) ≤ 64 := by omega
  have hk0 : 0 ≤ 8 * (i : Int) := by omega
  go_enter Try.func26, Try.ntmps26
  go_wp2_with fail
  go_ret
  exact ⟨ret_int hr.out, rfl⟩
/-- What holds at each round's head of fill: the first k bytes of l lie in the row, the others are 0. -/
def FR (l : List Int) (w : World) (i : Value) (wr : World) : Prop :=
  ∃ k : Nat, k ≤ l.length ∧ i = .int .i64 k ∧ wr.rowIs w.heap.size 5 l.length (fun j => .int .u8 (if j < k then l.getD j 0 else 0)) ∧ Below w.heap.size w wr
theorem row_step {w wr : World} {l : List Int} {k : Nat} {c : Int} (h : wr.rowIs w.heap.size 5 l.length (fun j => .int .u8 (if j < k then l.getD j 0 else 0))) (hc : l.getD k 0 = c) :
    (wr.setCell ⟨w.heap.size, k, none⟩ (.int .u8 c)).rowIs w.heap.size 5 l.length (fun j => .int .u8 (if j < k + 1 then l.getD j 0 else 0)) := by
  refine (h.set k (.int .u8 c)).congr fun j _ => ?_
  by_cases e : j = k
  · subst e; rw [if_pos rfl, if_pos (by omega), hc]
  · rw [if_neg e]
    by_cases hl : j < k
    · rw [if_pos hl, if_pos (by omega)]
    · rw [if_neg hl, if_neg (by omega)]
set_option maxRecDepth 100000 in
theorem fillPut (g n : Nat) (x : Int) (w : World) (hn : n ≤ 8) (hc : Hid (w.cell? ⟨g, 0, none⟩ = some (.int .u64 x))) (hg : g < w.heap.size) :
    Calls Try.prog 25 #[.int .i64 n, .func (.func 26) #[] #[.pointer (some ⟨g, 0, none⟩)]] w fun e w' => e = .returned (.slice (some ⟨w.heap.size, 0, none⟩) n n) ∧ w'.rowIs w.heap.size 5 n (fun j => .int .u8 ((M.put x n).getD j 0)) ∧ Below w.heap.size w w' := by
  have hmk := fun W => run_make_row' (P := Try.prog) 22 5 (.int .u8 0) 1 Try.underlying22 info5 rfl .i64 .i64 n (by omega) (by omega) W
  have hlen := Lib.hid (M.put_len x n)
  have hat := Lib.hid (M.put_at x n)
  generalize M.put x n = l at *
  go_enter Try.func25, Try.ntmps25
  go_wp2_with fail
  clear hmk
  obtain rfl := hlen.out
  clear hlen
  go_loopw [11] (fun i wr => FR l w i wr) (fun i _ => l.length - (intOf i).toNat)
  case atStart => exact ⟨0, Nat.zero_le _, rfl, (World.rowIs_made w (.int .u8 0) l.length 5).congr (fun i _ => by simp), (Below.refl _ _).alloc (Nat.le_refl _) _⟩
  case round =>
    obtain ⟨k, hk, rfl, hrow, hbel⟩ := hrel
    by_cases hlt : k < l.length
    · have hcx : wr.cell? ⟨g, 0, none⟩ = some (.int .u64 x) := (hbel.cell (p := ⟨g, 0, none⟩) hg).trans hc.out
      obtain ⟨c, hcv⟩ : ∃ c, l[k] = c := ⟨_, rfl⟩
      have hcr : Hid (x / 2 ^ (8 * k) % 256 = c) := Lib.hid ((hat.out k hlt).symm.trans hcv)
      have hcd := Lib.hid (show l.getD k 0 = c by rw [List.getD_eq_getElem?_getD, List.getElem?_eq_getElem hlt, hcv]; rfl)
      have hcell := hrow.cell hlt
      have hfro := hrow.frozen k
      have HR := Lib.hid hrow
      clear hrow hcv
      go_wp2_with fail
      refine (put1_is g k x c _ (by omega) hcx hcr).mono ?_
      rintro e w' ⟨rfl, rfl⟩
      go_wp2_with fail
      go_roundw
      case rel => exact ⟨k + 1, by omega, by go_num, row_step HR.out hcd.out, hbel.setCell (Nat.le_refl _) _⟩
      case measure => simp [intOf]; omega
    · obtain rfl : k = l.length := by omega
      have HR := Lib.hid hrow
      clear hrow
      go_wp2_with fail
      go_ret
      exact ⟨rfl, HR.out.congr (fun j hj => by rw [if_pos hj]), hbel⟩
end Go.Proofs.Ytoelaamkkfjbfaa
