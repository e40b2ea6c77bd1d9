/- The contracts of Of of the reference, of From of package name and of the reference. -/
import Derived.Test.YtkjiehifnkkelaaSpread
namespace Go.Proofs.Ytkjiehifnkkelaa
open Go.RowKit

set_option maxRecDepth 100000 in
theorem nameFrom_is (x : Int) (l : List Int) (b : Bool) (w : World) (hl : Hid (M.digits 8 x = l)) (hr : Hid (M.rightB l = b)) :
    Calls Try.prog 47 #[.int .u64 x] w fun e w' => e = .returned (.tuple #[.agg (nm (okL b l)), .int .i64 (okE b)]) ∧ Below w.heap.size w w' := by
  have PL := Lib.hid (show l.length = 8 by rw [← hl.out]; exact M.digits_len 8 x)
  have PB := Lib.hid (show M.Bytes l by rw [← hl.out]; exact M.digits_bytes 8 x)
  have hz := zero23
  have HA := Lib.hid (at_alloc w M.zero8)
  have HB := Lib.hid ((Below.refl w.heap.size w).alloc (Nat.le_refl _) (.cells (nm M.zero8) 24))
  go_enter Try.func47, Try.ntmps47
  go_wp2_with fail
  refine (spread_is x _).mono ?_
  rintro e w1 ⟨rfl, c1⟩
  rw [hl.out]
  have A1 := Lib.hid (below_at (HA.out.below c1) ((Below.refl w1.heap.size w1).alloc (Nat.le_refl _) (.cells (nm M.zero8) 24)) (HA.out.below c1).lt)
  have G1 := Lib.hid (HA.out.below c1).lt
  have B1 := Lib.hid (step_ (HB.out.trans (c1.mono (by simp))) ((Below.refl w1.heap.size w1).alloc (Nat.le_refl _) (.cells (nm M.zero8) 24)))
  have N1 := Lib.hid (at_alloc w1 M.zero8)
  clear c1 HA HB
  go_wp2_with (first
    | (refine wpList_store_name rfl _ _ rfl w1.heap.size M.zero8 l rfl rfl N1.out rfl PL.out ?_; intro w2 N2 F2 L2)
    | refine wpList_load_name rfl _ rfl w1.heap.size l rfl N2.out PL.out ?_)
  refine (right_is l b _ PL.out PB hr).mono ?_
  rintro e w3 ⟨rfl, c3⟩
  have B2 := L2.out w.heap.size w (Nat.le_of_lt G1.out) B1.out
  have A3 := Lib.hid ((F2.out w.heap.size M.zero8 (Nat.ne_of_lt G1.out) A1.out).below c3)
  have N3 := Lib.hid (N2.out.below c3)
  have B3 := Lib.hid (step_ B2 c3)
  clear c3 B2 F2 L2 N1 B1 A1 N2
  cases b with
  | false =>
    go_wp2_with (first
      | (refine wpList_store_name rfl _ _ rfl w.heap.size M.zero8 M.zero8 rfl rfl A3.out rfl rfl ?_; intro w4 A4 F4 L4))
    refine bodyPost_ret (results_name rfl _ _ w.heap.size M.zero8 rfl A4.out rfl) rfl ?_
    exact ⟨rfl, L4.out w.heap.size w (Nat.le_refl _) B3.out⟩
  | true =>
    go_wp2_with (first
      | refine wpList_load_name rfl _ rfl w1.heap.size l rfl N3.out PL.out ?_
      | (refine wpList_store_name rfl _ _ rfl w.heap.size M.zero8 l rfl rfl A3.out rfl PL.out ?_; intro w5 A5 F5 L5))
    refine bodyPost_ret (results_name rfl _ _ w.heap.size l rfl A5.out PL.out) rfl ?_
    exact ⟨rfl, L5.out w.heap.size w (Nat.le_refl _) B3.out⟩
theorem pow_le (k : Nat) (x : Int) (h0 : 0 ≤ x) : 0 ≤ x / 256 ^ k := Int.ediv_nonneg h0 (Int.pow_nonneg (by omega))
theorem div_more (x : Int) (k : Nat) : x / 256 ^ k / 256 = x / 256 ^ (k + 1) := by
  rw [Int.pow_succ, Int.ediv_ediv_of_nonneg (Int.pow_nonneg (by omega))]
theorem div_le (x : Int) (k : Nat) (h0 : 0 ≤ x) (h1 : x < 18446744073709551616) : x / 256 ^ k < 18446744073709551616 := by
  have : x / 256 ^ k ≤ x := Int.ediv_le_self _ h0
  omega
set_option maxRecDepth 100000 in
theorem nameRefFrom_is (x : Int) (l : List Int) (b : Bool) (w : World) (h0 : 0 ≤ x) (h1 : Hid (x < 18446744073709551616)) (hl : Hid (M.digits 8 x = l)) (hr : Hid (M.rightB l = b)) :
    Calls Try.prog 29 #[.int .u64 x] w fun e w' => e = .returned (.tuple #[.agg (nm (okL b l)), .int .i64 (okE b)]) ∧ Below w.heap.size w w' := by
  have PL := Lib.hid (show l.length = 8 by rw [← hl.out]; exact M.digits_len 8 x)
  have PB := Lib.hid (show M.Bytes l by rw [← hl.out]; exact M.digits_bytes 8 x)
  have hz := zero23
  go_enter Try.func29, Try.ntmps29
  go_wp2_with fail
  go_loopw [0, 5] (fun y i wr => ∃ k : Nat, k ≤ 8 ∧ i = .int .i64 (7 - (k : Int)) ∧ y = .int .u64 (x / 256 ^ k) ∧ wr.rowIs (w.heap.size + 1) 24 8 (rowN (spreadF x k)) ∧ At wr w.heap.size M.zero8 ∧ Below w.heap.size w wr) (fun _ i _ => (intOf i + 1).toNat)
  case atStart => exact ⟨0, Nat.zero_le _, rfl, by simp, (two_row w _).congr (fun j hj => by show _ = Value.int .u8 (spreadF x 0 j); unfold spreadF; rw [if_neg (by omega)]), two_at w _, two_below w _ _⟩
  case round =>
    obtain ⟨k, hk, rfl, rfl, hrow, hat, hbel⟩ := hrel
    by_cases hlt : k < 8
    · have hcell := hrow.cell (show 7 - k < 8 by omega)
      have hfro := hrow.frozen (7 - k)
      have HR := Lib.hid hrow
      have HAT := Lib.hid hat
      have y0 := pow_le k x h0
      have HY := Lib.hid (div_le x k h0 h1.out)
      have HD := Lib.hid (div_more x k)
      obtain ⟨y, hy⟩ : ∃ y, x / 256 ^ k = y := ⟨_, rfl⟩
      have HYY := Lib.hid hy
      rw [hy] at y0 HY HD ⊢
      have e1 : y.tdiv 256 = y / 256 := Int.tdiv_eq_ediv_of_nonneg y0
      have e2 : y.tmod 256 = y % 256 := Int.tmod_eq_emod_of_nonneg y0
      have e3 : IntKind.u64.wrap (y / 256) = y / 256 := by have := HY.out; rw [IntKind.wrap_u64]; omega
      clear hrow hat hz hy
      go_wp2_with fail
      go_roundw
      case rel => exact ⟨k + 1, by omega, congrArg (Value.int .i64) (by omega), by rw [HD.out], spread_step hlt HR.out (by rw [HYY.out]), at_setCell _ HAT.out (by omega), hbel.setCell (by simp) _⟩
      case measure => simp [intOf]; omega
    · obtain rfl : k = 8 := by omega
      have hh := row_all PL.out hrow (fun i hi => by have := spread_all x i (by rw [hl.out]; exact hi); rw [this]; congr 1)
      clear hrow
      have HH := Lib.hid hh
      have HAT := Lib.hid hat
      clear hh hat
      go_wp2_with (refine wpList_load_name rfl _ rfl (w.heap.size + 1) l rfl HH.out PL.out ?_)
      refine (refRight_is l b _ PL.out PB hr).mono ?_
      rintro e w3 ⟨rfl, c3⟩
      have A3 := Lib.hid (HAT.out.below c3)
      have N3 := Lib.hid (HH.out.below c3)
      have B3 := Lib.hid (step_ hbel c3)
      clear c3
      cases b with
      | false =>
        go_wp2_with (first
          | (refine wpList_store_name rfl _ _ rfl w.heap.size M.zero8 M.zero8 rfl rfl A3.out rfl rfl ?_; intro w4 A4 F4 L4))
        refine bodyPost_ret (results_name rfl _ _ w.heap.size M.zero8 rfl A4.out rfl) rfl ?_
        exact ⟨rfl, L4.out w.heap.size w (Nat.le_refl _) B3.out⟩
      | true =>
        go_wp2_with (first
          | refine wpList_load_name rfl _ rfl (w.heap.size + 1) l rfl N3.out PL.out ?_
          | (refine wpList_store_name rfl _ _ rfl w.heap.size M.zero8 l rfl rfl A3.out rfl PL.out ?_; intro w5 A5 F5 L5))
        refine bodyPost_ret (results_name rfl _ _ w.heap.size l rfl A5.out PL.out) rfl ?_
        exact ⟨rfl, L5.out w.heap.size w (Nat.le_refl _) B3.out⟩
end Go.Proofs.Ytkjiehifnkkelaa
