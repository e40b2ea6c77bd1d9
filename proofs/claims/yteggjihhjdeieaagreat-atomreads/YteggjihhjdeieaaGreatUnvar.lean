/- The contract of Unvar of package pack. -/
import Derived.Test.YteggjihhjdeieaaGreatBytes
import Derived.ScopeJumps
namespace Go.Proofs.YteggjihhjdeieaaGreat
open Go.RowKit

theorem ret_three {a b c a' b' c' : Int} (h : (a, b, c) = (a', b', c')) : Ending.returned (.tuple #[.int .u64 a, .int .i64 b, .int .i64 c]) = .returned (.tuple #[.int .u64 a', .int .i64 b', .int .i64 c']) := by
  injection h with h1 h2; injection h2 with h2 h3; rw [h1, h2, h3]
theorem lo7 (c q : Int) (h : c % 128 = q) : lo c 7 = q := by
  unfold lo; rw [if_neg (by omega), if_neg (by omega)]; exact h
/-- What holds at each round's head of Unvar. -/
def UR (l : List Int) (r : Int × Int × Int) (k : Nat) (x : Int) : Prop :=
  0 ≤ x ∧ x < 2 ^ (7 * k) ∧ M.unv (l.drop k) k x = r
theorem or_next (k : Nat) (x c : Int) (hk : k ≤ 8) (h0 : 0 ≤ x) (h1 : x < 2 ^ (7 * k)) (hc0 : 0 ≤ c) (hc1 : c < 128) : bits .or .u64 x (IntKind.u64.wrap (c * 2 ^ (7 * k))) = x + c * 2 ^ (7 * k) := by
  have h := M.step_fits k x c h0 h1 hc0 hc1
  have h2 := M.pow_le (show 7 * (k + 1) ≤ 63 by omega)
  have h63 : (2 : Int) ^ 63 = 9223372036854775808 := by decide
  have hp := M.pow_pos (7 * k)
  have hm := Int.mul_nonneg hc0 (show (0 : Int) ≤ 2 ^ (7 * k) by omega)
  exact or_add _ _ _ h0 h1 hc0 (by omega) (by omega)
theorem or_last (k : Nat) (x c : Int) (hk : k ≤ 9) (h0 : 0 ≤ x) (h1 : x < 2 ^ (7 * k)) (hc0 : 0 ≤ c) (hc1 : c < 128) (h9 : ¬ (k = 9 ∧ 1 < c)) : bits .or .u64 x (IntKind.u64.wrap (c * 2 ^ (7 * k))) = x + c * 2 ^ (7 * k) := by
  have h := M.last_fits k x c hk h0 h1 hc0 hc1 h9
  have hp := M.pow_pos (7 * k)
  have hm := Int.mul_nonneg hc0 (show (0 : Int) ≤ 2 ^ (7 * k) by omega)
  exact or_add _ _ _ h0 h1 hc0 (by omega) (by omega)
set_option maxRecDepth 100000 in
theorem unvar_nil (a : Option Addr) (cap : Nat) (w : World) : Calls Tryz.prog 104 #[.slice a 0 cap] w fun e w' => e = .returned (.tuple #[.int .u64 0, .int .i64 0, .int .i64 4]) ∧ w = w' := by
  go_enter Tryz.func104, Tryz.ntmps104
  go_wp2
  go_step3
  go_wp2
  go_step3
  go_wp2
  refine wp_loop_rounds 1 ?_
  rw [rounds_succ]
  go_wp2_with fail
  first | (rw [Exit.noGoto_ret]; go_ret3) | go_ret3
  exact ⟨rfl, rfl⟩
set_option maxRecDepth 100000 in
set_option maxHeartbeats 1000000 in
theorem unvar_some (g off cap : Nat) (l : List Int) (r1 r2 r3 : Int) (w : World) (hl : l.length ≤ 30000) (hb : Hid (M.Bytes l)) (hc : Hid (∀ i (h : i < l.length), w.cell? ⟨g, off + i, none⟩ = some (.int .u8 l[i]))) (hr : Hid (M.unv l 0 0 = (r1, r2, r3))) :
    Calls Tryz.prog 104 #[.slice (some ⟨g, off, none⟩) l.length cap] w fun e w' => e = .returned (.tuple #[.int .u64 r1, .int .i64 r2, .int .i64 r3]) ∧ w = w' := by
  go_enter Tryz.func104, Tryz.ntmps104
  go_wp2
  go_step3
  go_wp2
  go_step3
  go_wp2
  go_loop [5, 6, 11] (fun t u i => ∃ (k : Nat) (x : Int), k ≤ l.length ∧ k ≤ 9 ∧ i = .int .i64 k ∧ u = .int .i64 4 ∧ t = .int .u64 x ∧ Hid (UR l (r1, r2, r3) k x)) (fun _ _ i => l.length - (intOf i).toNat)
  case atStart => exact ⟨0, 0, Nat.zero_le _, Nat.zero_le _, rfl, rfl, rfl, Lib.hid ⟨by omega, by simp, hr.out⟩⟩
  case round =>
    obtain ⟨k, x, hk, hk9, rfl, rfl, rfl, hu⟩ := hrel
    by_cases hlt : k < l.length
    · obtain ⟨c, hcv⟩ : ∃ c, l[k] = c := ⟨_, rfl⟩
      have hck := hc.out k hlt
      rw [hcv] at hck
      have hcb := hb.out.at_ k hlt
      rw [hcv] at hcb
      obtain ⟨hcb0, hcb1⟩ := hcb
      obtain ⟨q, hq⟩ : ∃ q, c % 128 = q := ⟨_, rfl⟩
      have hq0 : 0 ≤ q := by omega
      have hq1 : q < 128 := by omega
      have HQ := Lib.hid (lo7 c q hq)
      have hk64 : 7 * (k : Int) ≤ 64 := by omega
      have hk0 : 0 ≤ 7 * (k : Int) := by omega
      by_cases h9 : k = 9
      · by_cases hc1 : 1 < c
        · have hres := Lib.hid ((M.unv_big l k x hlt h9 (by rw [hcv]; exact hc1)).symm.trans hu.out.2.2)
          subst h9
          clear hcv hq
          go_wp2_with fail
          refine (low_is c 7 q _ hcb0 (by omega) HQ).mono ?_
          rintro e w' ⟨rfl, rfl⟩
          go_wp2_with fail
          first | (rw [Exit.noGoto_ret]; go_ret3) | go_ret3
          exact ⟨ret_three hres.out, rfl⟩
        · by_cases hz : c = 0
          · have hres := Lib.hid ((M.unv_form l k x hlt (by omega) (by rw [hcv]; exact hz)).symm.trans hu.out.2.2)
            subst hz
            subst h9
            clear hcv hq
            go_wp2_with fail
            refine (low_is 0 7 q _ hcb0 (by omega) HQ).mono ?_
            rintro e w' ⟨rfl, rfl⟩
            go_wp2_with fail
            first | (rw [Exit.noGoto_ret]; go_ret3) | go_ret3
            exact ⟨ret_three hres.out, rfl⟩
          · obtain rfl : c = 1 := by omega
            obtain rfl : q = 1 := by omega
            have hres := Lib.hid ((M.unv_last l k x hlt (by omega) (by omega) (by omega)).symm.trans hu.out.2.2)
            rw [hcv, ← or_last k x 1 hk9 hu.out.1 hu.out.2.1 (by omega) (by omega) (by omega)] at hres
            subst h9
            clear hcv hq
            go_wp2_with fail
            refine (low_is 1 7 1 _ hcb0 (by omega) HQ).mono ?_
            rintro e w' ⟨rfl, rfl⟩
            go_wp2_with fail
            first | (rw [Exit.noGoto_ret]; go_ret3) | go_ret3
            exact ⟨ret_three hres.out, rfl⟩
      · have hk8 : k ≤ 8 := by omega
        have e9 : ((k : Int) == 9) = false := by simp; omega
        by_cases hk00 : k = 0
        · by_cases hc128 : c < 128
          · obtain rfl : q = c := by omega
            have hres := Lib.hid ((M.unv_last l k x hlt (by omega) (by omega) (by omega)).symm.trans hu.out.2.2)
            rw [hcv, ← or_last k x q hk9 hu.out.1 hu.out.2.1 (by omega) (by omega) (by omega)] at hres
            have hkz : k ≤ 0 := by omega
            clear hcv hq hk00
            go_wp2_with fail
            refine (low_is q 7 q _ hcb0 (by omega) HQ).mono ?_
            rintro e w' ⟨rfl, rfl⟩
            go_wp2_with fail
            first | (rw [Exit.noGoto_ret]; go_ret3) | go_ret3
            exact ⟨ret_three hres.out, rfl⟩
          · have hnext := Lib.hid ((M.unv_next l k x hlt (by omega) (by omega)).symm.trans hu.out.2.2)
            have hst := Lib.hid (M.step_fits k x q hu.out.1 hu.out.2.1 hq0 hq1)
            rw [hcv, hq] at hnext
            rw [← or_next k x q hk8 hu.out.1 hu.out.2.1 hq0 hq1] at hst hnext
            have hkz : k ≤ 0 := by omega
            clear hcv hq hk00
            go_wp2_with fail
            refine (low_is c 7 q _ hcb0 (by omega) HQ).mono ?_
            rintro e w' ⟨rfl, rfl⟩
            go_wp2_with fail
            go_round
            case rel => exact ⟨k + 1, _, by omega, by omega, by go_num, rfl, rfl, Lib.hid ⟨hst.out.1, hst.out.2, hnext.out⟩⟩
            case measure => simp [intOf]; omega
        · have hk01 : 0 < k := by omega
          by_cases hz : c = 0
          · have hres := Lib.hid ((M.unv_form l k x hlt (by omega) (by rw [hcv]; exact hz)).symm.trans hu.out.2.2)
            subst hz
            clear hcv hq
            go_wp2_with fail
            refine (low_is 0 7 q _ hcb0 (by omega) HQ).mono ?_
            rintro e w' ⟨rfl, rfl⟩
            go_wp2_with fail
            first | (rw [Exit.noGoto_ret]; go_ret3) | go_ret3
            exact ⟨ret_three hres.out, rfl⟩
          · have ez : (c == 0) = false := by simp; omega
            by_cases hc128 : c < 128
            · obtain rfl : q = c := by omega
              have hres := Lib.hid ((M.unv_last l k x hlt (by omega) (by omega) (by omega)).symm.trans hu.out.2.2)
              rw [hcv, ← or_last k x q hk9 hu.out.1 hu.out.2.1 (by omega) (by omega) (by omega)] at hres
              clear hcv hq
              go_wp2_with fail
              refine (low_is q 7 q _ hcb0 (by omega) HQ).mono ?_
              rintro e w' ⟨rfl, rfl⟩
              go_wp2_with fail
              first | (rw [Exit.noGoto_ret]; go_ret3) | go_ret3
              exact ⟨ret_three hres.out, rfl⟩
            · have hnext := Lib.hid ((M.unv_next l k x hlt (by omega) (by omega)).symm.trans hu.out.2.2)
              have hst := Lib.hid (M.step_fits k x q hu.out.1 hu.out.2.1 hq0 hq1)
              rw [hcv, hq] at hnext
              rw [← or_next k x q hk8 hu.out.1 hu.out.2.1 hq0 hq1] at hst hnext
              clear hcv hq
              go_wp2_with fail
              refine (low_is c 7 q _ hcb0 (by omega) HQ).mono ?_
              rintro e w' ⟨rfl, rfl⟩
              go_wp2_with fail
              go_round
              case rel => exact ⟨k + 1, _, by omega, by omega, by go_num, rfl, rfl, Lib.hid ⟨hst.out.1, hst.out.2, hnext.out⟩⟩
              case measure => simp [intOf]; omega
    · have hres := Lib.hid ((M.unv_none l k x (by omega)).symm.trans hu.out.2.2)
      go_wp2_with fail
      first | (rw [Exit.noGoto_ret]; go_ret3) | go_ret3
      exact ⟨ret_three hres.out, rfl⟩
theorem unvar_is (v : Value) (l : List Int) (r1 r2 r3 : Int) (w : World) (h : BytesAt w v l) (hl : l.length ≤ 30000) (hr : Hid (M.unv l 0 0 = (r1, r2, r3))) :
    Calls Tryz.prog 104 #[v] w fun e w' => e = .returned (.tuple #[.int .u64 r1, .int .i64 r2, .int .i64 r3]) ∧ w = w' := by
  obtain ⟨a, cap, rfl, _, hb, hc⟩ := h
  cases l with
  | nil =>
    have hx := hr.out
    rw [M.unv] at hx
    injection hx with e1 e2
    injection e2 with e2 e3
    subst e1; subst e2; subst e3
    exact unvar_nil a cap w
  | cons d l =>
    obtain ⟨g, off, rfl, _, hcell⟩ := hc (by simp)
    exact unvar_some g off cap (d :: l) r1 r2 r3 w hl (Lib.hid hb) (Lib.hid hcell) hr
end Go.Proofs.YteggjihhjdeieaaGreat
