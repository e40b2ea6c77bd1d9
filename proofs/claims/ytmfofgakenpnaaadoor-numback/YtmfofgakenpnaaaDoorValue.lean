/- The contract of value of package num: the number with these digits and this sign, and whether it fits. -/
import Derived.Test.YtmfofgakenpnaaaDoorParse
namespace Go.Proofs.YtmfofgakenpnaaaDoor
open Go.RowKit

/-- What value answers: the number, and whether it fits into an int. -/
def valFits (neg : Bool) (v : Int) : Bool := if neg then decide (v ≤ 9223372036854775808) else decide (v ≤ 9223372036854775807)
def valNum (neg : Bool) (v : Int) : Int := if valFits neg v then (if neg then -v else v) else 0
theorem valFits_big (neg : Bool) (v : Int) (h : 9223372036854775808 < v) : valFits neg v = false := by
  unfold valFits; split <;> simp <;> omega
theorem valNum_big (neg : Bool) (v : Int) (h : 9223372036854775808 < v) : valNum neg v = 0 := by
  unfold valNum; rw [valFits_big neg v h]; rfl
theorem tdiv_low (v D : Int) (h0 : 0 ≤ D) (h9 : D ≤ 9) : -v < (-9223372036854775808 + D).tdiv 10 ↔ 9223372036854775808 < 10 * v + D := by
  have e : (-9223372036854775808 + D).tdiv 10 = -((9223372036854775808 - D) / 10) := by
    rw [show (-9223372036854775808 + D : Int) = -(9223372036854775808 - D) by omega, Int.neg_tdiv, Int.tdiv_eq_ediv_of_nonneg (by omega)]
  rw [e]; omega
theorem ret_two {a b : Int} {c d : Bool} (h : a = b) (h2 : c = d) : Ending.returned (.tuple #[.int .i64 a, .bool c]) = .returned (.tuple #[.int .i64 b, .bool d]) := by rw [h, h2]

/-- What holds at each jump back to the label. -/
def JV (s : ByteArray) (neg : Bool) (w : World) (a' : Act) (w' : World) : Prop :=
  w = w' ∧ ∃ (k : Nat) (v : Int) (u8 u9 u10 u11 u12 u13 u14 u15 u16 u17 u18 u19 u20 u21 u22 u23 u24 u25 u26 u27 u28 : Value), a' = { tmps := #[.string s, .bool neg, undef, undef, .int .i64 0, .bool false, .int .i64 (-v), .int .i64 k, u8, u9, u10, u11, u12, u13, u14, u15, u16, u17, u18, u19, u20, u21, u22, u23, u24, u25, u26, u27, u28, undef, undef, undef, undef, undef, undef], defers := [] } ∧ k ≤ s.size ∧ Hid (M.val (s.data.toList.take k) = v) ∧ v ≤ 9223372036854775808
theorem jv_mk (s : ByteArray) (neg : Bool) (w : World) (k : Nat) (v n i : Int) (u8 u9 u10 u11 u12 u13 u14 u15 u16 u17 u18 u19 u20 u21 u22 u23 u24 u25 u26 u27 u28 : Value) (hn : n = -v) (hi : i = (k : Int)) (hk : k ≤ s.size) (hv : M.val (s.data.toList.take k) = v) (hb : v ≤ 9223372036854775808) :
    JV s neg w { tmps := #[.string s, .bool neg, undef, undef, .int .i64 0, .bool false, .int .i64 n, .int .i64 i, u8, u9, u10, u11, u12, u13, u14, u15, u16, u17, u18, u19, u20, u21, u22, u23, u24, u25, u26, u27, u28, undef, undef, undef, undef, undef, undef], defers := [] } w := by
  subst hn hi
  exact ⟨rfl, k, v, u8, u9, u10, u11, u12, u13, u14, u15, u16, u17, u18, u19, u20, u21, u22, u23, u24, u25, u26, u27, u28, rfl, hk, Lib.hid hv, hb⟩

set_option maxRecDepth 100000 in
set_option maxHeartbeats 400000 in
theorem value_any (s : ByteArray) (neg : Bool) (w : World) (hs : s.size ≤ maxLen) (hd : Hid (s.data.toList.all M.isDig = true)) :
    Calls Tryd.prog 24 #[.string s, .bool neg] w fun e w' => e = .returned (.tuple #[.int .i64 (valNum neg (M.val s.data.toList)), .bool (valFits neg (M.val s.data.toList))]) ∧ w = w' := by
  unfold maxLen at hs
  go_enter Tryd.func24, Tryd.ntmps24
  go_wp2
  refine wp_scope_jumps 0 (JV s neg w) (fun a' _ => s.size - (intOf (a'.tmps.getD 7 undef)).toNat) rfl ?_ ?_
  · go_wp2
    go_step3
    by_cases hlt : 0 < s.size
    · have hdk := M.isDig_at s hd.out 0 hlt
      have hd0 : (48 : Int) ≤ (s[0].toNat : Int) := by omega
      have hd1 : (s[0].toNat : Int) ≤ 57 := by omega
      clear hdk
      have hv2 : Hid (M.val (s.data.toList.take 1) = ((s[0].toNat : Int) - 48)) := by
        have := M.val_take_succ s 0 hlt
        rw [this]; exact Lib.hid (by simp [M.val])
      have ht : ¬ 0 < (-9223372036854775808 + ((s[0].toNat : Int) - 48)).tdiv 10 := by
        intro h
        have := (tdiv_low 0 (s[0].toNat - 48) (by omega) (by omega)).1 (by simpa using h)
        omega
      go_wp2
      go_step3
      exact ⟨rfl, jv_mk s neg w 1 ((s[0].toNat : Int) - 48) _ _ _ _ _ _ _ _ _ _ _ _ _ _ _ _ _ _ _ _ _ _ _ rfl rfl hlt hv2.out (by omega)⟩
    · have hv2 : Hid (M.val s.data.toList = 0) := by
        have e : s.data.toList = [] := by
          apply List.eq_nil_of_length_eq_zero
          rw [Array.length_toList]; show s.size = 0; omega
        rw [e]; exact Lib.hid rfl
      cases neg
      · go_wp2
        simp only [Exit.jump]
        go_ret2
        exact ⟨ret_two (by rw [hv2.out]; simp [valNum, valFits]) (by rw [hv2.out]; simp [valFits]), rfl⟩
      · go_wp2
        simp only [Exit.jump]
        go_ret2
        exact ⟨ret_two (by rw [hv2.out]; simp [valNum, valFits]) (by rw [hv2.out]; simp [valFits]), rfl⟩
  · rintro a' w' ⟨rfl, k, v, u8, u9, u10, u11, u12, u13, u14, u15, u16, u17, u18, u19, u20, u21, u22, u23, u24, u25, u26, u27, u28, rfl, hk, hv, hb⟩
    have hv0 : 0 ≤ v := by rw [← hv.out]; exact M.val_take_nonneg s hd.out k hk
    by_cases hlt : k < s.size
    · have hdk := M.isDig_at s hd.out k hlt
      have hd0 : (48 : Int) ≤ (s[k].toNat : Int) := by omega
      have hd1 : (s[k].toNat : Int) ≤ 57 := by omega
      clear hdk
      have hv2 : Hid (M.val (s.data.toList.take (k + 1)) = 10 * v + ((s[k].toNat : Int) - 48)) := by
        rw [← hv.out]; exact Lib.hid (M.val_take_succ s k hlt)
      have hle := Lib.hid (M.val_take_le s hd.out (k + 1) hlt)
      by_cases hf : 9223372036854775808 < 10 * v + ((s[k].toNat : Int) - 48)
      · have ht := (tdiv_low v ((s[k].toNat : Int) - 48) (by omega) (by omega)).2 hf
        have hbig := Lib.hid (show 9223372036854775808 < M.val s.data.toList by have := hle.out; rw [hv2.out] at this; omega)
        go_wp2
        simp only [Exit.jump]
        go_ret2
        exact ⟨ret_two (valNum_big neg _ hbig.out).symm (valFits_big neg _ hbig.out).symm, rfl⟩
      · have ht : ¬ -v < (-9223372036854775808 + ((s[k].toNat : Int) - 48)).tdiv 10 := fun h => hf ((tdiv_low v _ (by omega) (by omega)).1 h)
        go_wp2
        go_step3
        refine ⟨rfl, jv_mk s neg w (k + 1) (10 * v + ((s[k].toNat : Int) - 48)) _ _ _ _ _ _ _ _ _ _ _ _ _ _ _ _ _ _ _ _ _ _ _ ?_ (by omega) hlt hv2.out (by omega), ?_⟩
        · omega
        · simp [intOf]; omega
    · obtain rfl : k = s.size := by omega
      have hv2 : Hid (M.val s.data.toList = v) := by rw [← hv.out, M.take_all]; exact Lib.hid rfl
      cases neg
      · by_cases hm : v = 9223372036854775808
        · subst hm
          go_wp2
          simp only [Exit.jump]
          go_ret2
          exact ⟨ret_two (by rw [hv2.out]; simp [valNum, valFits]) (by rw [hv2.out]; simp [valFits]), rfl⟩
        · have hm2 : ((-v) == -9223372036854775808) = false := by simp; omega
          have hm3 : v ≤ 9223372036854775807 := by omega
          go_wp2
          simp only [Exit.jump]
          go_ret2
          exact ⟨ret_two (by rw [hv2.out]; simp [valNum, valFits]; omega) (by rw [hv2.out]; simp [valFits]; omega), rfl⟩
      · go_wp2
        simp only [Exit.jump]
        go_ret2
        exact ⟨ret_two (by rw [hv2.out]; simp [valNum, valFits]; omega) (by rw [hv2.out]; simp [valFits]; omega), rfl⟩
end Go.Proofs.YtmfofgakenpnaaaDoor
