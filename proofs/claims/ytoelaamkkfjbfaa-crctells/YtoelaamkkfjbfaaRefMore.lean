/- The contracts of More and Sum of the reference. -/
import Derived.Test.YtoelaamkkfjbfaaRef
namespace Go.Proofs.Ytoelaamkkfjbfaa
open Go.RowKit

theorem step_nat (u : BitVec 16) (b : Nat) (hb : b < 2) : (C.step u (decide (b = 1))).toNat = if u.toNat / 32768 = b then u.toNat * 2 % 65536 else (u.toNat * 2 % 65536) ^^^ 4129 := by
  have hu := u.isLt
  have h1 : C.step u (decide (b = 1)) = (u <<< 1) ^^^ (if u.toNat / 32768 = b then 0#16 else 0x1021#16) := by
    unfold C.step C.sh
    rw [C.shl_xor, BitVec.msb_xor, BitVec.msb_eq_decide u]
    have h2 : b = 0 ∨ b = 1 := by omega
    rcases h2 with rfl | rfl
    · have e : C.top (decide (0 = 1)) = 0#16 := by decide
      rw [e]
      by_cases h : 32768 ≤ u.toNat
      · rw [if_pos (by simpa using h), if_neg (by omega)]; simp
      · rw [if_neg (by simpa using h), if_pos (by omega)]; simp
    · have e : C.top (decide (1 = 1)) = 0x8000#16 := by decide
      rw [e, show ((0x8000#16 : BitVec 16) <<< 1) = 0#16 by decide, BitVec.xor_zero]
      by_cases h : 32768 ≤ u.toNat
      · rw [show (decide (2 ^ (16 - 1) ≤ u.toNat)) = true by simpa using h, show (32768#16).msb = true by decide, if_pos (show u.toNat / 32768 = 1 by omega)]; rfl
      · rw [show (decide (2 ^ (16 - 1) ≤ u.toNat)) = false by simpa using h, show (32768#16).msb = true by decide, if_neg (show ¬ u.toNat / 32768 = 1 by omega)]; rfl
  have h3 : (u <<< 1 : BitVec 16).toNat = u.toNat * 2 % 65536 := by rw [BitVec.toNat_shiftLeft, Nat.shiftLeft_eq]
  rw [h1, BitVec.toNat_xor, h3]
  split
  · simp
  · rfl
theorem bit_now (l : List Int) (i m : Nat) (hi : i < l.length) (hm : m < 8) : C.bitAt (nats l) (8 * i + m) = decide (l[i].toNat / 2 ^ (7 - m) % 2 = 1) := by
  unfold C.bitAt
  rw [show (8 * i + m) / 8 = i by omega, show (8 * i + m) % 8 = m by omega, nats_at l i hi, Nat.testBit_eq_decide_div_mod_eq]
def at_ (v : BitVec 16) (l : List Int) (p : Nat) : Nat := (C.run v (C.bitAt (nats l)) p).toNat
theorem at_zero (v : BitVec 16) (l : List Int) : at_ v l 0 = v.toNat := rfl
theorem at_lt (v : BitVec 16) (l : List Int) (p : Nat) : at_ v l p < 65536 := (C.run v (C.bitAt (nats l)) p).isLt
theorem at_step (v : BitVec 16) (l : List Int) (i m c D : Nat) (hi : i < l.length) (hm : m < 8) (hc : l[i] = (c : Int)) (hD : c / 2 ^ (7 - m) = D) :
    at_ v l (8 * i + (m + 1)) = if at_ v l (8 * i + m) / 32768 = D % 2 then at_ v l (8 * i + m) * 2 % 65536 else (at_ v l (8 * i + m) * 2 % 65536) ^^^ 4129 := by
  show (C.step _ (C.bitAt (nats l) (8 * i + m))).toNat = _
  rw [bit_now l i m hi hm, hc, Int.toNat_natCast, hD, step_nat _ _ (Nat.mod_lt _ (by omega))]
  rfl
theorem at_end (v : BitVec 16) (l : List Int) (hb : M.Bytes l) : ((at_ v l (8 * l.length) : Nat) : Int) = S (after v l) := by
  unfold at_ after S
  rw [C.more_all v (nats l) (nats_lt hb), nats_len]
theorem div_nat2 (c n : Nat) : c / 2 ^ (n + 1) = c / 2 ^ n / 2 := by rw [Nat.pow_succ, Nat.div_div_eq_div_mul]

set_option maxRecDepth 100000 in
set_option maxHeartbeats 1000000 in
theorem refMore_some (g off cap : Nat) (l : List Int) (v : BitVec 16) (s r : Int) (w : World) (hl : l.length ≤ 1000) (hb : Hid (M.Bytes l)) (hc : Hid (∀ i (h : i < l.length), w.cell? ⟨g, off + i, none⟩ = some (.int .u8 l[i])))
    (hs : Hid (S v = s)) (hsr : 0 ≤ s ∧ s < 65536) (hr : Hid (S (after v l) = r)) :
    Calls Try.prog 15 #[.int .u16 s, .slice (some ⟨g, off, none⟩) l.length cap] w fun e w' => e = .returned (.int .u16 r) ∧ w = w' := by
  obtain ⟨hs0, hs1⟩ := hsr
  go_enter Try.func15, Try.ntmps15
  go_wp2_with fail
  go_loopw [5, 6] (fun x i wr => ∃ k X : Nat, k ≤ l.length ∧ at_ v l (8 * k) = X ∧ i = .int .i64 k ∧ x = .int .i64 X ∧ wr = w) (fun _ i _ => l.length - (intOf i).toNat)
  case atStart => exact ⟨0, v.toNat, Nat.zero_le _, rfl, rfl, by rw [← hs.out]; rfl, rfl⟩
  case round =>
    obtain ⟨k, X, hk, hX, rfl, rfl, rfl⟩ := hrel
    by_cases hlt : k < l.length
    · have q1 := hc.out k hlt
      obtain ⟨c, hcv⟩ : ∃ c : Nat, l[k] = (c : Int) := ⟨l[k].toNat, by have := hb.out.at_ k hlt; omega⟩
      have hc256 : c < 256 := by have := hb.out.at_ k hlt; omega
      rw [hcv] at q1
      have HCV := Lib.hid hcv
      clear hcv
      go_wp2_with fail
      obtain ⟨V0, rfl⟩ : ∃ V0, V0 = wr := ⟨_, rfl⟩
      go_loopw [5, 7] (fun x i W => ∃ m Y : Nat, m ≤ 8 ∧ at_ v l (8 * k + m) = Y ∧ i = .int .i64 m ∧ x = .int .i64 Y ∧ W = V0) (fun _ i _ => 8 - (intOf i).toNat)
      case atStart => exact ⟨0, X, Nat.zero_le _, hX, rfl, rfl, rfl⟩
      case round =>
        obtain ⟨m, Y, hm, hY, rfl, rfl, rfl⟩ := hrel
        have hY1 : Y < 65536 := by rw [← hY]; exact at_lt ..
        have HY := Lib.hid hY
        clear hY
        by_cases hm8 : m < 8
        · go_wp2_with fail
          obtain ⟨V1, rfl⟩ : ∃ V1, V1 = wr := ⟨_, rfl⟩
          go_loopw [9, 10] (fun x i W => ∃ n D : Nat, n ≤ 7 - m ∧ c / 2 ^ n = D ∧ i = .int .i64 n ∧ x = .int .i64 D ∧ W = V1) (fun _ i _ => 7 - m - (intOf i).toNat)
          case atStart => exact ⟨0, c, Nat.zero_le _, Nat.div_one _, rfl, rfl, rfl⟩
          case round =>
            obtain ⟨n, D, hn, hD, rfl, rfl, rfl⟩ := hrel
            have hD1 : D < 256 := by rw [← hD]; exact Nat.lt_of_le_of_lt (Nat.div_le_self _ _) hc256
            by_cases hn7 : n < 7 - m
            · have H1 := Lib.hid (show c / 2 ^ (n + 1) = D / 2 by rw [div_nat2, hD])
              clear hD
              have hni : (n : Int) < 7 - (m : Int) := by omega
              go_wp2_with fail
              go_roundw
              case rel => exact ⟨n + 1, D / 2, by omega, H1.out, by go_num, by go_num, trivial⟩
              case measure => simp [intOf]; omega
            · obtain rfl : n = 7 - m := by omega
              have hst := at_step v l k m c D hlt hm8 HCV.out hD
              rw [HY.out] at hst
              have HS := Lib.hid hst
              clear hst hD
              have hni : ¬ ((7 - m : Nat) : Int) < 7 - (m : Int) := by omega
              by_cases he : Y / 32768 = D % 2
              · have hei : (Y : Int) / 32768 = (D : Int) % 2 := by omega
                go_wp2_with fail
                go_roundw
                case rel => exact ⟨m + 1, Y * 2 % 65536, by omega, by rw [HS.out, if_pos he], by go_num, by go_num, trivial⟩
                case measure => simp [intOf]; omega
              · have hei : ¬ (Y : Int) / 32768 = (D : Int) % 2 := by omega
                have HZ := Lib.hid (show (Y : Int) * 2 % 65536 = ((Y * 2 % 65536 : Nat) : Int) by omega)
                have hZ1 : Y * 2 % 65536 < 65536 := Nat.mod_lt _ (by omega)
                generalize Y * 2 % 65536 = Z at HS HZ hZ1
                go_wp2_with fail
                rw [HZ.out]
                refine (lay_is Z 4129 ((Z ^^^ 4129 : Nat) : Int) _ hZ1 (by omega) (Lib.hid rfl)).mono ?_
                rintro e w' ⟨rfl, rfl⟩
                generalize hq : Z ^^^ 4129 = q at *
                go_wp2_with fail
                go_roundw
                case rel => exact ⟨m + 1, q, by omega, by rw [HS.out, if_neg he], by go_num, by go_num, trivial⟩
                case measure => simp [intOf]; omega
        · obtain rfl : m = 8 := by omega
          go_wp2_with fail
          go_roundw
          case rel => exact ⟨k + 1, Y, by omega, HY.out, by go_num, rfl, trivial⟩
          case measure => simp [intOf]; omega
    · obtain rfl : k = l.length := by omega
      have hXr : (X : Int) = r := by rw [← hX, at_end v l hb.out]; exact hr.out
      have hX1 : X < 65536 := by rw [← hX]; exact at_lt ..
      clear hX
      go_wp2_with fail
      go_ret
      exact ⟨rfl, rfl⟩
theorem refMore_none (a : Option Addr) (cap : Nat) (s : Int) (w : World) (hs0 : 0 ≤ s) (hs1 : s < 65536) :
    Calls Try.prog 15 #[.int .u16 s, .slice a 0 cap] w fun e w' => e = .returned (.int .u16 s) ∧ w = w' := by
  go_enter Try.func15, Try.ntmps15
  go_wp2_with fail
  refine wp_loop_rounds 1 ?_
  rw [rounds_succ]
  go_wp2_with fail
  go_ret
  exact ⟨rfl, rfl⟩
theorem refMore_is (u : Value) (l : List Int) (v : BitVec 16) (s r : Int) (w : World) (h : BytesAt w u l) (hl : l.length ≤ 1000) (hs : Hid (S v = s)) (hr : Hid (S (after v l) = r)) :
    Calls Try.prog 15 #[.int .u16 s, u] w fun e w' => e = .returned (.int .u16 r) ∧ w = w' := by
  obtain ⟨a, cap, rfl, _, hb, hc⟩ := h
  have hrg : 0 ≤ s ∧ s < 65536 := by rw [← hs.out]; exact S_range v
  by_cases h0 : 0 < l.length
  · obtain ⟨g, off, rfl, hg, hcell⟩ := hc h0
    exact refMore_some g off cap l v s r w hl (Lib.hid hb) (Lib.hid hcell) hs hrg hr
  · obtain rfl : l = [] := List.eq_nil_of_length_eq_zero (by omega)
    obtain rfl : s = r := by rw [← hs.out, ← hr.out]; rfl
    exact refMore_none a cap s w hrg.1 hrg.2
theorem start_R : S 0xffff#16 = 65535 := by decide
theorem refSum_is (u : Value) (l : List Int) (r : Int) (w : World) (h : BytesAt w u l) (hl : l.length ≤ 1000) (hr : Hid (S (sumV l) = r)) :
    Calls Try.prog 8 #[u] w fun e w' => e = .returned (.int .u16 r) ∧ w = w' := by
  have H := Lib.hid h
  clear h
  go_enter Try.func8, Try.ntmps8
  go_wp2_with fail
  refine (refMore_is u l 0xffff#16 65535 r _ H.out hl (Lib.hid start_R) hr).mono ?_
  rintro e w' ⟨rfl, rfl⟩
  go_wp2_with fail
  go_ret
  exact ⟨rfl, rfl⟩
end Go.Proofs.Ytoelaamkkfjbfaa
