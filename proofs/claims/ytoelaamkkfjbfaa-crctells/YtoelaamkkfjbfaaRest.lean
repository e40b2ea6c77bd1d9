/- The contracts of rest of package crc and of the closure that makes the table. -/
import Derived.Test.YtoelaamkkfjbfaaBytes
import Derived.Test.YtoelaamkkfjbfaaCrcI
import Derived.Laws.Rows
namespace Go.Proofs.Ytoelaamkkfjbfaa
open Go.RowKit

theorem rest_start (c : Nat) (hc : c < 256) : (c : Int) * (256 : Int) = S (C.shn 0 (BitVec.ofNat 16 c <<< 8)) := by
  have h := shl16 (BitVec.ofNat 16 c) 8
  rw [S_nat c (by omega), IntKind.wrap_u16] at h
  rw [C.shn, ← h]
  omega
theorem rest_is (c : Nat) (r : Int) (w : World) (hc : c < 256) (hr : Hid (restI c = r)) :
    Calls Try.prog 17 #[.int .u8 c] w fun e w' => e = .returned (.int .u16 r) ∧ w = w' := by
  have h0 := Lib.hid (rest_start c hc)
  go_enter Try.func17, Try.ntmps17
  go_wp2_with fail
  go_loopw [3, 8] (fun x i wr => ∃ k : Nat, k ≤ 8 ∧ i = .int .i64 k ∧ x = .int .u16 (S (C.shn k (BitVec.ofNat 16 c <<< 8))) ∧ wr = w) (fun _ i _ => 8 - (intOf i).toNat)
  case atStart => exact ⟨0, Nat.zero_le _, rfl, congrArg (Value.int .u16) h0.out, rfl⟩
  case round =>
    obtain ⟨k, hk, rfl, rfl, rfl⟩ := hrel
    by_cases hlt : k < 8
    · obtain ⟨x, hx⟩ : ∃ x, S (C.shn k (BitVec.ofNat 16 c <<< 8)) = x := ⟨_, rfl⟩
      have hp := part15 (C.shn k (BitVec.ofNat 16 c <<< 8))
      have hrg := S_range (C.shn k (BitVec.ofNat 16 c <<< 8))
      rw [hx] at hp hrg ⊢
      have hx' := Lib.hid hx
      obtain ⟨p, hpp⟩ : ∃ p, x / 32768 = p := ⟨_, rfl⟩
      have hpr : 0 ≤ p ∧ p ≤ 1 := by omega
      rw [hpp] at hp
      have hp' := Lib.hid hp
      obtain ⟨hx0, hx1⟩ := hrg
      obtain ⟨hp0, hp1⟩ := hpr
      have hs' := Lib.hid (sh_spell' _ x p hx hpp)
      clear hx hp hpp
      go_wp2_with fail
      refine (part_is x 15 1 p _ hx0 (by omega) hp').mono ?_
      rintro e w' ⟨rfl, rfl⟩
      go_wp2_with fail
      go_roundw
      case rel => exact ⟨k + 1, by omega, by go_num, by rw [hs'.out]; rfl, trivial⟩
      case measure => simp [intOf]; omega
    · obtain rfl : k = 8 := by omega
      go_wp2_with fail
      go_ret
      exact ⟨ret_int hr.out, rfl⟩
end Go.Proofs.Ytoelaamkkfjbfaa
