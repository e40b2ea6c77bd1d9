/- The contracts of Var of package pack and of what it calls. -/
import Derived.Test.YteggjihhjdeieaaGreatBytes
namespace Go.Proofs.YteggjihhjdeieaaGreat
open Go.RowKit

theorem info5 : (Tryz.prog.info? 5).map (fun i => (i.zero, i.size, i.bytes)) = some (some (.int .u8 0), 1, 1) := by kernel_rfl
/-- What holds at each round's head of fill: the first k bytes of l lie in the row, the others are 0. -/
def FR (l : List Int) (w : World) (i : Value) (wr : World) : Prop :=
  ∃ k : Nat, k ≤ l.length ∧ i = .int .i64 k ∧ wr.rowIs w.heap.size 5 l.length (fun j => .int .u8 (if j < k then l.getD j 0 else 0)) ∧ Below w.heap.size w wr
theorem row_bytes {w wr : World} {l : List Int} {f : Nat → Value} (h : wr.rowIs w.heap.size 5 l.length f) (hb : M.Bytes l) (hf : ∀ j, j < l.length → f j = .int .u8 (l.getD j 0)) : BytesAt wr (.slice (some ⟨w.heap.size, 0, none⟩) l.length l.length) l :=
  ⟨_, _, rfl, ⟨Nat.le_refl _, fun h => by cases h⟩, hb, fun _ => ⟨w.heap.size, 0, rfl, h.lt, fun i hi => by
    rw [Nat.zero_add, h.cell hi, hf i hi, List.getD_eq_getElem?_getD, List.getElem?_eq_getElem hi]; rfl⟩⟩
theorem row_step {w wr : World} {l : List Int} {k : Nat} {c : Int} (h : wr.rowIs w.heap.size 5 l.length (fun j => .int .u8 (if j < k then l.getD j 0 else 0))) (hc : l.getD k 0 = c) :
    (wr.setCell ⟨w.heap.size, k, none⟩ (.int .u8 c)).rowIs w.heap.size 5 l.length (fun j => .int .u8 (if j < k + 1 then l.getD j 0 else 0)) := by
  refine (h.set k (.int .u8 c)).congr fun j _ => ?_
  by_cases e : j = k
  · subst e; rw [if_pos rfl, if_pos (by omega), hc]
  · rw [if_neg e]
    by_cases hl : j < k
    · rw [if_pos hl, if_pos (by omega)]
    · rw [if_neg hl, if_neg (by omega)]
theorem part7 (x : Int) (i : Nat) (hi : i ≤ 9) : part x (7 * (i : Int)) 7 = x / 2 ^ (7 * i) % 128 := by
  rw [part_small _ _ _ (by omega), max_up _ (by omega), show (7 * (i : Int)).toNat = 7 * i by omega]
  unfold lo
  rw [if_neg (by omega), if_neg (by omega)]; rfl
theorem var1_is (g s i n : Nat) (x r : Int) (w : World) (h0 : 0 ≤ x) (h1 : x < 18446744073709551616) (hi : i < n) (hn : n ≤ 10) (hc : w.cell? ⟨g, 0, none⟩ = some (.int .u64 x)) (hs : w.cell? ⟨s, 0, none⟩ = some (.int .i64 n))
    (hr : Hid ((x / 2 ^ (7 * i) % 128 + if i + 1 < n then 128 else 0) = r)) :
    Calls Tryz.prog 109 #[.int .i64 i, .pointer (some ⟨g, 0, none⟩), .pointer (some ⟨s, 0, none⟩)] w fun e w' => e = .returned (.int .u8 r) ∧ w = w' := by
  obtain ⟨q, hq⟩ : ∃ q, x / 2 ^ (7 * i) % 128 = q := ⟨_, rfl⟩
  rw [hq] at hr
  have hq0 : 0 ≤ q := by omega
  have hq1 : q < 128 := by omega
  have HP := Lib.hid ((part7 x i (by omega)).trans hq)
  clear hq
  by_cases hlt : i + 1 < n
  · have HR := Lib.hid (show bits .or .u8 q 128 = r by rw [or_more q hq0 hq1, ← hr.out, if_pos hlt])
    have hl2 : (i : Int) < (n : Int) - 1 := by omega
    go_enter Tryz.func109, Tryz.ntmps109
    go_wp2_with fail
    refine (part_is x (7 * (i : Int)) 7 q _ h0 h1 HP).mono ?_
    rintro e w' ⟨rfl, rfl⟩
    go_wp2_with fail
    go_ret
    exact ⟨ret_int HR.out, rfl⟩
  · have HR := Lib.hid (show q = r by rw [← hr.out, if_neg hlt]; omega)
    have hl2 : ¬ (i : Int) < (n : Int) - 1 := by omega
    go_enter Tryz.func109, Tryz.ntmps109
    go_wp2_with fail
    refine (part_is x (7 * (i : Int)) 7 q _ h0 h1 HP).mono ?_
    rintro e w' ⟨rfl, rfl⟩
    go_wp2_with fail
    go_ret
    exact ⟨ret_int HR.out, rfl⟩
set_option maxRecDepth 100000 in
theorem fillVar (g s n : Nat) (x : Int) (w : World) (h0 : 0 ≤ x) (h1 : x < 18446744073709551616) (hv : Hid ((M.var x).length = n)) (hn : n ≤ 10) (hc : Hid (w.cell? ⟨g, 0, none⟩ = some (.int .u64 x))) (hs : Hid (w.cell? ⟨s, 0, none⟩ = some (.int .i64 n))) (hg : g < w.heap.size) (hsg : s < w.heap.size) :
    Calls Tryz.prog 108 #[.int .i64 n, .func (.func 109) #[] #[.pointer (some ⟨g, 0, none⟩), .pointer (some ⟨s, 0, none⟩)]] w fun e w' => ∃ v, e = .returned v ∧ BytesAt w' v (M.var x) ∧ Below w.heap.size w w' := by
  have hmk := fun W => run_make_row' (P := Tryz.prog) 33 5 (.int .u8 0) 1 Tryz.underlying33 info5 rfl .i64 .i64 n (by omega) (by omega) W
  have hbs := Lib.hid (M.var_bytes x h0)
  have hat := Lib.hid (M.var_at x h0)
  generalize M.var x = l at *
  go_enter Tryz.func108, Tryz.ntmps108
  go_wp2_with fail
  clear hmk
  obtain rfl := hv.out
  clear hv
  go_loopw [11] (fun i wr => FR l w i wr) (fun i _ => l.length - (intOf i).toNat)
  case atStart => exact ⟨0, Nat.zero_le _, rfl, (World.rowIs_made w (.int .u8 0) l.length 5).congr (fun i _ => by simp), (Below.refl _ _).alloc (Nat.le_refl _) _⟩
  case round =>
    obtain ⟨k, hk, rfl, hrow, hbel⟩ := hrel
    by_cases hlt : k < l.length
    · have hcx : wr.cell? ⟨g, 0, none⟩ = some (.int .u64 x) := (hbel.cell (p := ⟨g, 0, none⟩) hg).trans hc.out
      have hcs : wr.cell? ⟨s, 0, none⟩ = some (.int .i64 l.length) := (hbel.cell (p := ⟨s, 0, none⟩) hsg).trans hs.out
      obtain ⟨c, hcv⟩ : ∃ c, l[k] = c := ⟨_, rfl⟩
      have hcr := Lib.hid ((hat.out k hlt).symm.trans hcv)
      have hcd := Lib.hid (show l.getD k 0 = c by rw [List.getD_eq_getElem?_getD, List.getElem?_eq_getElem hlt, hcv]; rfl)
      have hcell := hrow.cell hlt
      have hfro := hrow.frozen k
      have HR := Lib.hid hrow
      clear hrow hcv
      go_wp2_with fail
      refine (var1_is g s k l.length x c _ h0 h1 hlt hn hcx hcs hcr).mono ?_
      rintro e w' ⟨rfl, rfl⟩
      go_wp2_with fail
      go_roundw
      case rel => exact ⟨k + 1, by omega, by go_num, row_step HR.out hcd.out, hbel.setCell (Nat.le_refl _) _⟩
      case measure => simp [intOf]; omega
    · obtain rfl : k = l.length := by omega
      have HR := Lib.hid hrow
      clear hrow
      go_wp2_with fail
      go_ret
      exact ⟨_, rfl, row_bytes HR.out hbs.out (fun j hj => by rw [if_pos hj]), hbel⟩
def GivesBytes (w : World) (l : List Int) (e : Ending) (w' : World) : Prop := ∃ v, e = .returned v ∧ BytesAt w' v l ∧ Below w.heap.size w w'
theorem var_is (x : Int) (w : World) (h0 : 0 ≤ x) (h1 : x < 18446744073709551616) : Calls Tryz.prog 99 #[.int .u64 x] w (GivesBytes w (M.var x)) := by
  obtain ⟨n, hn⟩ : ∃ n, (M.var x).length = n := ⟨_, rfl⟩
  have hn10 : n ≤ 10 := by rw [← hn]; exact M.var_ten x h0 h1
  have HN := Lib.hid hn
  clear hn
  go_enter Tryz.func99, Tryz.ntmps99
  go_wp2_with fail
  refine (size_is x n _ h0 h1 HN hn10).mono ?_
  rintro e w' ⟨rfl, rfl⟩
  go_wp2_with fail
  refine (fillVar w.heap.size (w.heap.size + 1) n x _ h0 h1 HN hn10 (Lib.hid (by simp)) (Lib.hid (by simp)) (by simp; omega) (by simp)).mono ?_
  rintro e w' ⟨v, rfl, hv, hb⟩
  have HB := Lib.hid hb
  have HV := Lib.hid hv
  clear hb hv
  go_wp2_with fail
  go_ret
  exact ⟨_, rfl, HV.out, (((Below.refl w.heap.size w).alloc (Nat.le_refl _) _).alloc (by simp) _).trans (HB.out.mono (by simp; omega))⟩
end Go.Proofs.YteggjihhjdeieaaGreat
