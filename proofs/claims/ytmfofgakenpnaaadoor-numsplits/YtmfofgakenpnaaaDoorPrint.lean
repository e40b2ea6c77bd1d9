/- The contracts of Print: of package num, and of the reference. -/
import Derived.Test.YtmfofgakenpnaaaDoorRefParsed
import Derived.Lib.ItoaMem
import Derived.Lib.ItoaLen
namespace Go.Proofs.YtmfofgakenpnaaaDoor
open Go.RowKit

theorem ret_str {a b : ByteArray} (h : a = b) : Ending.returned (.string a) = .returned (.string b) := by rw [h]
theorem dec_big (u : Nat) (h : ¬ u < 10) : Lib.decDigits u = Lib.decDigits (u / 10) ++ [UInt8.ofNat (48 + u % 10)] := by
  rw [Lib.decDigits, dif_neg h]
theorem itoa_dig (n : Int) (h0 : 0 ≤ n) (h9 : n ≤ 9) : Lib.itoa n = [UInt8.ofNat (48 + n.toNat)] := by
  obtain ⟨u, rfl⟩ := Int.eq_ofNat_of_zero_le h0
  rw [Lib.itoa_nonneg, Lib.decDigits_one (by omega)]; rfl
theorem digit_str (n : Int) (h0 : 0 ≤ n) (h9 : n ≤ 9) : (ByteArray.mk #[48, 49, 50, 51, 52, 53, 54, 55, 56, 57]).extract n.toNat (n + 1).toNat = ⟨(Lib.itoa n).toArray⟩ := by
  rw [itoa_dig n h0 h9]
  have h : n = 0 ∨ n = 1 ∨ n = 2 ∨ n = 3 ∨ n = 4 ∨ n = 5 ∨ n = 6 ∨ n = 7 ∨ n = 8 ∨ n = 9 := by omega
  rcases h with rfl | rfl | rfl | rfl | rfl | rfl | rfl | rfl | rfl | rfl <;> decide +kernel

theorem mk_append (a b : List UInt8) : (ByteArray.mk a.toArray) ++ (ByteArray.mk b.toArray) = ⟨(a ++ b).toArray⟩ := by
  apply ByteArray.ext
  rw [ByteArray.data_append]; simp
theorem quo_rem (n : Int) (h : n ≤ -10) : n.tdiv 10 = -((-n) / 10) ∧ -(n.tmod 10) = (-n) % 10 := by
  obtain ⟨m, rfl⟩ : ∃ m, n = -m := ⟨-n, by omega⟩
  rw [Int.neg_tdiv, Int.tdiv_eq_ediv_of_nonneg (by omega), Int.neg_tmod, Int.tmod_eq_emod_of_nonneg (by omega)]
  constructor <;> omega
theorem join_pos (n : Int) (h : 10 ≤ n) : (ByteArray.mk (Lib.itoa (n / 10)).toArray) ++ (ByteArray.mk (Lib.itoa (n % 10)).toArray) = ⟨(Lib.itoa n).toArray⟩ := by
  obtain ⟨u, rfl⟩ := Int.eq_ofNat_of_zero_le (show 0 ≤ n by omega)
  rw [mk_append, itoa_dig ((u : Int) % 10) (by omega) (by omega), show ((u : Int) / 10) = ((u / 10 : Nat) : Int) by omega, Lib.itoa_nonneg, Lib.itoa_nonneg, dec_big u (by omega), show ((u : Int) % 10).toNat = u % 10 by omega]
theorem join_small (n : Int) (h : n < 0 ∧ -10 < n) : (ByteArray.mk #[45]) ++ (ByteArray.mk (Lib.itoa (-n)).toArray) = ⟨(Lib.itoa n).toArray⟩ := by
  obtain ⟨u, rfl⟩ : ∃ u : Nat, n = -(u : Int) := ⟨n.natAbs, by omega⟩
  rw [show (-(-(u : Int))) = (u : Int) by omega, Lib.itoa_nonneg, Lib.itoa_neg u (by omega)]
  exact mk_append [45] _
theorem join_neg (n q r : Int) (h : n ≤ -10) (hq : q = -((-n) / 10)) (hr : r = (-n) % 10) : (ByteArray.mk (Lib.itoa q).toArray) ++ (ByteArray.mk (Lib.itoa r).toArray) = ⟨(Lib.itoa n).toArray⟩ := by
  obtain ⟨u, rfl⟩ : ∃ u : Nat, n = -(u : Int) := ⟨n.natAbs, by omega⟩
  subst hq hr
  rw [show (-(-(u : Int))) = (u : Int) by omega, mk_append, itoa_dig ((u : Int) % 10) (by omega) (by omega), show ((u : Int) / 10) = ((u / 10 : Nat) : Int) by omega, Lib.itoa_neg _ (by omega), Lib.itoa_neg _ (by omega), dec_big u (by omega), show ((u : Int) % 10).toNat = u % 10 by omega]
  rfl

set_option maxRecDepth 100000 in
set_option maxHeartbeats 400000 in
theorem refPrint_dig (n : Int) (w : World) (h0 : 0 ≤ n) (h9 : n ≤ 9) :
    Calls Tryd.prog 11 #[.int .i64 n] w fun e w' => e = .returned (.string ⟨(Lib.itoa n).toArray⟩) ∧ w = w' := by
  go_enter Tryd.func11, Tryd.ntmps11
  go_wp2_with fail
  go_ret
  exact ⟨ret_str (digit_str n h0 h9), rfl⟩

set_option maxRecDepth 100000 in
set_option maxHeartbeats 400000 in
theorem refPrint_any (k : Nat) : ∀ (n : Int) (w : World), n.natAbs ≤ k → -9223372036854775808 ≤ n → n ≤ 9223372036854775807 →
    Calls Tryd.prog 11 #[.int .i64 n] w fun e w' => e = .returned (.string ⟨(Lib.itoa n).toArray⟩) ∧ w = w' := by
  induction k with
  | zero =>
    intro n w hk _ _
    exact refPrint_dig n w (by omega) (by omega)
  | succ k ih0 =>
    intro n w hk hlo hhi
    have ih := Lib.hid ih0
    clear ih0
    by_cases h9 : 0 ≤ n ∧ n ≤ 9
    · exact refPrint_dig n w h9.1 h9.2
    · by_cases hp : 0 ≤ n
      · have h10 : 10 ≤ n := by omega
        have b1 := Lib.itoa_length_le (n / 10) (by omega) (by omega)
        have b2 := Lib.itoa_length_le (n % 10) (by omega) (by omega)
        go_enter Tryd.func11, Tryd.ntmps11
        go_wp2_with fail
        refine (ih.out _ _ ?_ ?_ ?_).mono ?_
        · omega
        · omega
        · omega
        rintro e w' ⟨rfl, rfl⟩
        go_wp2_with fail
        refine (refPrint_dig _ _ ?_ ?_).mono ?_
        · omega
        · omega
        rintro e w' ⟨rfl, rfl⟩
        go_wp2_with fail
        go_ret
        exact ⟨ret_str (join_pos n h10), rfl⟩
      · by_cases h10 : -10 < n
        · have b2 := Lib.itoa_length_le (-n) (by omega) (by omega)
          go_enter Tryd.func11, Tryd.ntmps11
          go_wp2_with fail
          refine (refPrint_dig _ _ ?_ ?_).mono ?_
          · omega
          · omega
          rintro e w' ⟨rfl, rfl⟩
          go_wp2_with fail
          go_ret
          exact ⟨ret_str (join_small n (by omega)), rfl⟩
        · obtain ⟨e1, e2⟩ := quo_rem n (by omega)
          obtain ⟨q, hq⟩ : ∃ q, n.tdiv 10 = q := ⟨_, rfl⟩
          obtain ⟨r, hr⟩ : ∃ r, -(n.tmod 10) = r := ⟨_, rfl⟩
          rw [hq] at e1; rw [hr] at e2
          have b1 := Lib.itoa_length_le q (by omega) (by omega)
          have b2 := Lib.itoa_length_le r (by omega) (by omega)
          have E1 := Lib.hid e1
          have E2 := Lib.hid e2
          have q1 : q.natAbs ≤ k := by omega
          have q2 : -9223372036854775808 ≤ q := by omega
          have q3 : q ≤ 0 := by omega
          have r1 : 0 ≤ r := by omega
          have r2 : r ≤ 9 := by omega
          clear e1 e2
          go_enter Tryd.func11, Tryd.ntmps11
          go_wp2_with fail
          refine (ih.out _ _ q1 q2 ?_).mono ?_
          · omega
          rintro e w' ⟨rfl, rfl⟩
          go_wp2_with fail
          refine (refPrint_dig _ _ r1 r2).mono ?_
          rintro e w' ⟨rfl, rfl⟩
          go_wp2_with fail
          go_ret
          exact ⟨ret_str (join_neg n q r (by omega) E1.out E2.out), rfl⟩
end Go.Proofs.YtmfofgakenpnaaaDoor
