/- The contract of Unvar of the reference. -/
import Derived.Test.YteggjihhjdeieaaGreatUnvar
namespace Go.Proofs.YteggjihhjdeieaaGreat
open Go.RowKit

theorem power7_is (k : Nat) (p : Int) (w : World) (hk : k ≤ 9) (hp : Hid ((2 : Int) ^ (7 * k) = p)) :
    Calls Tryz.prog 78 #[.int .i64 (7 * (k : Int))] w fun e w' => e = .returned (.int .u64 p) ∧ w = w' := by
  have h := power_is (7 * k) p w (by omega) hp
  rw [Int.natCast_mul] at h
  exact h
set_option maxRecDepth 100000 in
theorem refUnvar_nil (a : Option Addr) (cap : Nat) (w : World) : Calls Tryz.prog 90 #[.slice a 0 cap] w fun e w' => e = .returned (.tuple #[.int .u64 0, .int .i64 0, .int .i64 4]) ∧ w = w' := by
  go_enter Tryz.func90, Tryz.ntmps90
  go_wp2
  refine wp_loop_rounds 1 ?_
  rw [rounds_succ]
  go_wp2_with fail
  go_ret3
  exact ⟨rfl, rfl⟩
set_option maxRecDepth 100000 in
set_option maxHeartbeats 1000000 in
theorem refUnvar_some (g off cap : Nat) (l : List Int) (r1 r2 r3 : Int) (w : World) (hb : Hid (M.Bytes l)) (hc : Hid (∀ i (h : i < l.length), w.cell? ⟨g, off + i, none⟩ = some (.int .u8 l[i]))) (hr : Hid (M.unv l 0 0 = (r1, r2, r3))) :
    Calls Tryz.prog 90 #[.slice (some ⟨g, off, none⟩) l.length cap] w fun e w' => e = .returned (.tuple #[.int .u64 r1, .int .i64 r2, .int .i64 r3]) ∧ w = w' := by
  go_enter Tryz.func90, Tryz.ntmps90
  go_wp2
  go_loop [5, 6] (fun t i => ∃ (k : Nat) (x : Int), k ≤ l.length ∧ k ≤ 9 ∧ i = .int .i64 k ∧ t = .int .u64 x ∧ Hid (UR l (r1, r2, r3) k x)) (fun _ i => l.length - (intOf i).toNat)
  case atStart => exact ⟨0, 0, Nat.zero_le _, Nat.zero_le _, rfl, rfl, Lib.hid ⟨by omega, by simp, hr.out⟩⟩
  case round =>
    obtain ⟨k, x, hk, hk9, rfl, rfl, hu⟩ := hrel
    by_cases hlt : k < l.length
    · obtain ⟨c, hcv⟩ : ∃ c, l[k] = c := ⟨_, rfl⟩
      have hck := hc.out k hlt
      rw [hcv] at hck
      have hcb := hb.out.at_ k hlt
      rw [hcv] at hcb
      obtain ⟨hcb0, hcb1⟩ := hcb
      obtain ⟨q, hq⟩ : ∃ q, c % 128 = q := ⟨_, rfl⟩
      have hq0 : 0 ≤ q := by omega
      have hq1 : q < 128 := by omega
      obtain ⟨p, hp⟩ : ∃ p, (2 : Int) ^ (7 * k) = p := ⟨_, rfl⟩
      have hp0 : 0 < p := by rw [← hp]; exact M.pow_pos _
      have hx0 := hu.out.1
      have hm0 := Int.mul_nonneg hq0 (show 0 ≤ p by omega)
      have h63 : (2 : Int) ^ 63 = 9223372036854775808 := by decide
      have hp1 : p ≤ 9223372036854775808 := by rw [← hp, ← h63]; exact M.pow_le (by omega)
      have hx1 : x < 9223372036854775808 := by have := hu.out.2.1; omega
      have HP := Lib.hid hp
      clear h63
      by_cases h9 : k = 9
      · have e9 : ((k : Int) == 9) = true := by simp; omega
        by_cases hc1 : 1 < c
        · have hres := Lib.hid ((M.unv_big l k x hlt h9 (by rw [hcv]; exact hc1)).symm.trans hu.out.2.2)
          clear h9 hcv hp
          by_cases hq2 : 1 < q
          · go_wp2_with fail
            first | (rw [Exit.noGoto_ret]; go_ret3) | go_ret3
            exact ⟨ret_three hres.out, rfl⟩
          · have h128 : 128 ≤ c := by omega
            go_wp2_with fail
            first | (rw [Exit.noGoto_ret]; go_ret3) | go_ret3
            exact ⟨ret_three hres.out, rfl⟩
        · obtain rfl : q = c := by omega
          by_cases hz : q = 0
          · have hres := Lib.hid ((M.unv_form l k x hlt (by omega) (by rw [hcv]; exact hz)).symm.trans hu.out.2.2)
            subst hz
            have hk1 : 0 < k := by omega
            clear h9 hcv hp hq
            go_wp2_with fail
            refine (power7_is k p _ hk9 HP).mono ?_
            rintro e w' ⟨rfl, rfl⟩
            go_wp2_with fail
            go_ret3
            exact ⟨ret_three hres.out, rfl⟩
          · obtain rfl : q = 1 := by omega
            have hres := Lib.hid ((M.unv_last l k x hlt (by omega) (by omega) (by omega)).symm.trans hu.out.2.2)
            rw [hcv, hp, Int.one_mul] at hres
            have hk1 : 0 < k := by omega
            clear h9 hcv hp hq
            go_wp2_with fail
            refine (power7_is k p _ hk9 HP).mono ?_
            rintro e w' ⟨rfl, rfl⟩
            go_wp2_with fail
            go_ret3
            exact ⟨ret_three hres.out, rfl⟩
      · have hk8 : k ≤ 8 := by omega
        have e9 : ((k : Int) == 9) = false := by simp; omega
        have hst := M.step_fits k x q hu.out.1 hu.out.2.1 hq0 hq1
        have hle := M.pow_le (show 7 * (k + 1) ≤ 63 by omega)
        rw [show (2 : Int) ^ 63 = 9223372036854775808 by decide] at hle
        have HST := Lib.hid hst
        rw [hp] at hst HST
        obtain ⟨hst0, hst1⟩ := hst
        have hst2 : x + q * p < 9223372036854775808 := by omega
        clear hst1 hle
        by_cases hc128 : c < 128
        · obtain rfl : q = c := by omega
          by_cases hz : q = 0
          · by_cases hk1 : 0 < k
            · have hres := Lib.hid ((M.unv_form l k x hlt (by omega) (by rw [hcv]; exact hz)).symm.trans hu.out.2.2)
              subst hz
              clear h9 hcv hp hq
              go_wp2_with fail
              refine (power7_is k p _ hk9 HP).mono ?_
              rintro e w' ⟨rfl, rfl⟩
              go_wp2_with fail
              go_ret3
              exact ⟨ret_three hres.out, rfl⟩
            · have hres := Lib.hid ((M.unv_last l k x hlt (by omega) (by omega) (by omega)).symm.trans hu.out.2.2)
              rw [hcv, hp] at hres
              subst hz
              rw [Int.zero_mul, Int.add_zero] at hres
              clear h9 hcv hp hq
              go_wp2_with fail
              refine (power7_is k p _ hk9 HP).mono ?_
              rintro e w' ⟨rfl, rfl⟩
              go_wp2_with fail
              go_ret3
              exact ⟨ret_three hres.out, rfl⟩
          · have ez : (q == 0) = false := by simp; omega
            have hres := Lib.hid ((M.unv_last l k x hlt (by omega) (by omega) (by omega)).symm.trans hu.out.2.2)
            rw [hcv, hp] at hres
            clear h9 hcv hp
            go_wp2_with fail
            refine (power7_is k p _ hk9 HP).mono ?_
            rintro e w' ⟨rfl, rfl⟩
            go_wp2_with fail
            go_ret3
            exact ⟨ret_three hres.out, rfl⟩
        · have hnext := Lib.hid ((M.unv_next l k x hlt (by omega) (by omega)).symm.trans hu.out.2.2)
          rw [hcv, hq, hp] at hnext
          clear h9 hcv hp
          go_wp2_with fail
          refine (power7_is k p _ hk9 HP).mono ?_
          rintro e w' ⟨rfl, rfl⟩
          go_wp2_with fail
          go_round
          case rel => exact ⟨k + 1, _, by omega, by omega, by go_num, rfl, Lib.hid ⟨HST.out.1, HST.out.2, hnext.out⟩⟩
          case measure => simp [intOf]; omega
    · have hres := Lib.hid ((M.unv_none l k x (by omega)).symm.trans hu.out.2.2)
      go_wp2_with fail
      go_ret3
      exact ⟨ret_three hres.out, rfl⟩
theorem refUnvar_is (v : Value) (l : List Int) (r1 r2 r3 : Int) (w : World) (h : BytesAt w v l) (hr : Hid (M.unv l 0 0 = (r1, r2, r3))) :
    Calls Tryz.prog 90 #[v] w fun e w' => e = .returned (.tuple #[.int .u64 r1, .int .i64 r2, .int .i64 r3]) ∧ w = w' := by
  obtain ⟨a, cap, rfl, _, hb, hc⟩ := h
  cases l with
  | nil =>
    have hx := hr.out
    rw [M.unv] at hx
    injection hx with e1 e2
    injection e2 with e2 e3
    subst e1; subst e2; subst e3
    exact refUnvar_nil a cap w
  | cons d l =>
    obtain ⟨g, off, rfl, _, hcell⟩ := hc (by simp)
    exact refUnvar_some g off cap (d :: l) r1 r2 r3 w (Lib.hid hb) (Lib.hid hcell) hr
end Go.Proofs.YteggjihhjdeieaaGreat
