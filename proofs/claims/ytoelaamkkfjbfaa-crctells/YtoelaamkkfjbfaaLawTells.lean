/- The walk of CrcTells. -/
import Derived.Test.YtoelaamkkfjbfaaTell
import Derived.Test.YtoelaamkkfjbfaaLaws
import Derived.BigRegion
namespace Go.Proofs.Ytoelaamkkfjbfaa
open Go.RowKit

/-- The row in which the bytes lie that are turned. -/
def rowF (f : Nat → Value) (s : List Nat) : Nat → Value := fun i => if i < s.length then .int .u8 ((s.getD i 0 : Nat) : Int) else f i
theorem rowF_at (f : Nat → Value) (s : List Nat) (i : Nat) (h : i < s.length) : rowF f s i = .int .u8 ((s.getD i 0 : Nat) : Int) := if_pos h
theorem rowF_flip {V : World} {g cap : Nat} {f : Nat → Value} {s : List Nat} (q : Nat) (c : Int) (hq : q / 8 < s.length) (h : V.rowIs g 5 cap (rowF f s)) (hc : ((s.getD (q / 8) 0 ^^^ (128 / 2 ^ (q % 8)) : Nat) : Int) = c) : (V.setCell ⟨g, q / 8, none⟩ (.int .u8 c)).rowIs g 5 cap (rowF f (flip s q)) := by
  refine (h.set (q / 8) (.int .u8 c)).congr fun j _ => ?_
  unfold rowF
  rw [flip_len, flip_at s q j hq]
  by_cases e : j = q / 8
  · rw [if_pos e, if_pos (by omega), if_pos e, hc]
  · rw [if_neg e, if_neg e]
theorem rowF_bytes {V : World} {g cap : Nat} {f : Nat → Value} {s : List Nat} (h : V.rowIs g 5 cap (rowF f s)) (hc : s.length ≤ cap) (hb : ∀ x ∈ s, x < 256) : BytesAt V (.slice (some ⟨g, 0, none⟩) s.length cap) (ints s) :=
  ⟨_, _, by rw [ints_len], ⟨by rw [ints_len]; exact hc, fun h => by cases h⟩, ints_bytes hb, fun _ => ⟨g, 0, rfl, h.lt, fun i hi => by
    rw [ints_len] at hi
    rw [Nat.zero_add, h.cell (by omega), rowF_at f s i hi, ints_at s i hi]⟩⟩
theorem rowF_start {V : World} {g cap : Nat} {f : Nat → Value} {l : List Int} (h : V.rowIs g 5 cap f) (hb : M.Bytes l) (hf : ∀ i, i < l.length → f i = .int .u8 (l.getD i 0)) : V.rowIs g 5 cap (rowF f (nats l)) := by
  refine h.congr fun i _ => ?_
  unfold rowF
  rw [nats_len]
  split
  · rename_i hi
    have := hb.at_ i hi
    rw [hf i hi, nats_at l i hi, List.getD_eq_getElem?_getD, List.getElem?_eq_getElem hi]
    congr 1
    show l[i] = _
    omega
  · rfl
theorem pow_cast (x k : Nat) : ((x : Nat) : Int) / 2 ^ k = ((x / 2 ^ k : Nat) : Int) := by rw [← pow_nat]; omega
set_option maxRecDepth 100000 in
set_option maxHeartbeats 1000000 in
theorem crcTells_main (u : Value) (l : List Int) (at_ turn : Int) (w : World) (h : BytesAt w u l) (hl : l.length ≤ 300) (ht0 : 0 ≤ turn) (ht1 : turn < 65536) (hat0 : -9223372036854775808 ≤ at_) (hat1 : at_ ≤ 9223372036854775807) : Calls Try.prog 5 #[u, .int .i64 at_, .int .u16 turn] w fun e w' => e = .returned (.bool true) ∧ Below w.heap.size w w' := by
  have H := Lib.hid h
  obtain ⟨a, c, rfl, -, -, -⟩ := h
  have k1 : ¬ (l.length : Int) > 300 := by omega
  have HSB := Lib.hid (seal_bytes H.out.bytes)
  have HSL := Lib.hid (seal_len l)
  have HOL := Lib.hid (seal_openL l)
  have HOE := Lib.hid (seal_openE l)
  go_enter Try.func5, Try.ntmps5
  go_wp2_with fail
  refine (seal_is _ l _ H.out (by omega)).mono ?_
  rintro e w1 ⟨v1, rfl, hv1, b1⟩
  have V1 := Lib.hid (bytes_of_owns hv1 HSB.out)
  obtain ⟨g1, cap1, f1, rfl, -, -, -, -⟩ := own_row (l := sealI l) (by simpa using hv1) (by rw [seal_len]; omega)
  rw [HSL.out] at V1 ⊢
  have B1 := Lib.hid b1
  clear hv1 b1
  go_wp2_with fail
  refine (open_is _ (sealI l) _ V1.out (by have := HSL.out; omega)).mono ?_
  rintro e w2 ⟨v2, rfl, hv2, b2⟩
  rw [HOE.out]
  rw [HOL.out] at hv2
  have V2 := Lib.hid hv2
  have V1b := Lib.hid (V1.out.below b2)
  have B2 := Lib.hid (step_ B1.out b2)
  clear hv2 b2 V1 B1
  go_wp2_with fail
  refine (same_any _ _ l _ (by omega) V2.out (H.out.below B2.out)).mono ?_
  rintro e w3 ⟨rfl, b3⟩
  have V1c := Lib.hid (V1b.out.below b3)
  have B3 := Lib.hid (step_ B2.out b3)
  clear b3 V1b B2 V2
  by_cases ha : at_ < 0 ∨ at_ > 8 * (l.length : Int) ∨ turn = 0
  · rcases ha with ha | ha | ha
    all_goals
      by_cases hneg : at_ < 0
    all_goals
      by_cases hbig : at_ > 8 * (l.length : Int)
    all_goals
      by_cases hz : turn = 0
    all_goals
      first
      | (exfalso; omega)
      | (go_wp2_with fail
         refine (alive_is _).mono ?_
         rintro e w4 ⟨rfl, b4⟩
         have B4 := Lib.hid (step_ B3.out b4)
         clear b4
         go_wp2_with fail
         go_ret
         exact ⟨rfl, B4.out⟩)
  · have hneg : ¬ at_ < 0 := by omega
    have hbig : ¬ at_ > 8 * (l.length : Int) := by omega
    have hz : ¬ turn = 0 := by omega
    clear ha
    obtain ⟨A, rfl⟩ := Int.eq_ofNat_of_zero_le (show 0 ≤ at_ by omega)
    obtain ⟨t, rfl⟩ := Int.eq_ofNat_of_zero_le ht0
    have HT1 := Lib.hid (show t < 65536 by omega)
    have hA : A ≤ 8 * l.length := by omega
    have hA2 : (A : Int) ≤ 2400 := by omega
    have hzb : ((t : Int) == 0) = false := by rw [beq_eq_false_iff_ne]; exact hz
    have HZ := Lib.hid (show t ≠ 0 by omega)
    clear hat0 hat1 ht0 ht1 hz
    have HE := Lib.hid (owns_empty w3 w3.heap.size (Nat.le_refl _))
    have BE := Lib.hid ((Below.refl _ w3).alloc (Nat.le_refl _) (.cells #[] 5))
    have V1d := Lib.hid (V1c.out.below BE.out)
    go_wp2_with (first | (at_builtin; refine app_bytes _ rfl (.tmp 55) (.tmp 56) rfl w3.heap.size _ _ [] (sealI l) rfl HE.out rfl V1d.out (by have := HSL.out; simp; omega) BE.out.size ?_; intro v4 w4 hown4 b4; obtain ⟨g, cap, f, rfl, hg, hcap, hrow, hf⟩ := own_row hown4 (by have := HSL.out; omega); rw [HSL.out] at hcap ⊢; have HR := Lib.hid hrow; have HF := Lib.hid hf; have B4 := Lib.hid (BE.out.trans b4); clear hown4 b4 hrow hf))
    have HR0 := Lib.hid (rowF_start HR.out HSB.out HF.out)
    have HN := Lib.hid (show (nats (sealI l)).length = l.length + 2 by rw [nats_len, seal_len])
    have HNB := Lib.hid (nats_lt HSB.out)
    have HTE := Lib.hid (tells l H.out.bytes A t hA HT1.out HZ.out)
    generalize nats (sealI l) = s0 at HR0 HN HNB HTE
    clear HR HF HE BE V1d V1c HOL HOE HSL HSB
    go_loopw [11] (fun i V => ∃ k : Nat, k ≤ 16 ∧ i = .int .i64 k ∧ Hid (V.rowIs g 5 cap (rowF f (turned s0 A t k))) ∧ Hid (Below w3.heap.size w3 V)) (fun i _ => 16 - (intOf i).toNat)
    case atStart => exact ⟨0, Nat.zero_le _, rfl, HR0, B4⟩
    case round =>
      obtain ⟨k, hk, rfl, HRk, HBk⟩ := hrel
      by_cases hlt : k < 16
      · obtain ⟨J, hJ⟩ : ∃ J, (A + k) / 8 = J := ⟨_, rfl⟩
        obtain ⟨R, hR⟩ : ∃ R, (A + k) % 8 = R := ⟨_, rfl⟩
        obtain ⟨Z, hZ⟩ : ∃ Z, t / 2 ^ k = Z := ⟨_, rfl⟩
        obtain ⟨m, hm⟩ : ∃ m, 128 / 2 ^ R = m := ⟨_, rfl⟩
        have hJl : J < l.length + 2 := by omega
        have hlen : (turned s0 A t k).length = l.length + 2 := by rw [turned_len]; exact HN.out
        obtain ⟨x, hx⟩ : ∃ x, (turned s0 A t k).getD J 0 = x := ⟨_, rfl⟩
        have hx256 : x < 256 := by
          rw [← hx, C.getD_at _ _ (by omega)]
          exact turned_lt A t k HNB.out _ (List.getElem_mem _)
        have hm256 : m < 256 := by
          have := mask_lt ⟨R, by omega⟩
          rw [← hm]; exact this
        obtain ⟨y, hy⟩ : ∃ y, bits .xor .u8 (x : Int) (m : Int) = y := ⟨_, rfl⟩
        have hyx : ((x ^^^ m : Nat) : Int) = y := by rw [← hy]; exact (u8_xor_nat x m hx256 hm256).symm
        have q0 : wr.cell? ⟨g, J, none⟩ = some (.int .u8 x) := by
          have := HRk.out.cell (show J < cap by omega)
          rw [rowF_at _ _ _ (by omega), hx] at this
          exact this
        have q1 := HRk.out.frozen J
        have e1 : ((A : Int) + (k : Int)) / 8 = (J : Int) := by omega
        have e2 : ((A : Int) + (k : Int)) % 8 = (R : Int) := by omega
        have e3 : (128 : Int) / 2 ^ R = (m : Int) := by rw [← hm]; exact pow_cast 128 R
        have e5 : (t : Int) / 2 ^ k = (Z : Int) := by rw [← hZ]; exact pow_cast t k
        have hstep : t / 2 ^ k % 2 = 1 → (wr.setCell ⟨g, J, none⟩ (.int .u8 y)).rowIs g 5 cap (rowF f (turned s0 A t (k + 1))) := fun h1 => by
          rw [turned, if_pos h1]
          have := rowF_flip (A + k) y (by omega) HRk.out (by rw [hJ, hR, hm, hx]; exact hyx)
          rw [hJ] at this
          exact this
        have hstay : ¬ t / 2 ^ k % 2 = 1 → wr.rowIs g 5 cap (rowF f (turned s0 A t (k + 1))) := fun h1 => by
          rw [turned, if_neg h1]; exact HRk.out
        rw [hZ] at hstep hstay
        have HS := Lib.hid hstep
        have HY := Lib.hid hstay
        have R8 : (R : Int) < 8 := by omega
        have J0 : (J : Int) < (l.length : Int) + 2 := by omega
        clear hstep hstay hyx hx hm hZ hR hJ hlen
        by_cases hbit : Z % 2 = 1
        · have hb2 : (Z : Int) % 2 = 1 := by omega
          go_wp2_with fail
          go_region
          all_goals
            go_wp2_with fail
            go_roundw
            case rel => exact ⟨k + 1, by omega, by go_num, Lib.hid (HS.out hbit).drew, Lib.hid (HBk.out.setCell hg _).drew⟩
            case measure => simp [intOf]; omega
        · have hb2 : ¬ (Z : Int) % 2 = 1 := by omega
          go_wp2_with fail
          go_roundw
          case rel => exact ⟨k + 1, by omega, by go_num, Lib.hid (HY.out hbit), HBk⟩
          case measure => simp [intOf]; omega
      · obtain rfl : k = 16 := by omega
        have hlen : (turned s0 A t 16).length = l.length + 2 := by rw [turned_len]; exact HN.out
        have hv := rowF_bytes HRk.out (by omega) (turned_lt A t 16 HNB.out)
        have HL2 := Lib.hid (show (ints (turned s0 A t 16)).length = l.length + 2 by rw [ints_len, hlen])
        rw [hlen] at hv
        generalize ints (turned s0 A t 16) = L at hv HL2 HTE
        have HV := Lib.hid hv
        have HOL := Lib.hid (show openL L = [] by unfold openL; rw [HTE.out, if_neg (by have := HL2.out; omega)]; rfl)
        have HOE := Lib.hid (show openE L = 5 by unfold openE; rw [HTE.out, if_neg (by have := HL2.out; omega)]; rfl)
        clear hv hlen HRk
        go_wp2_with fail
        refine (open_is _ L _ HV.out (by have := HL2.out; omega)).mono ?_
        rintro e w5 ⟨v5, rfl, hv5, b5⟩
        rw [HOE.out]
        rw [HOL.out] at hv5
        obtain ⟨a5, cap5, rfl, -, -, -⟩ := hv5
        have B5 := Lib.hid (step_ B3.out (HBk.out.trans (b5.mono HBk.out.size)))
        clear b5
        go_wp2_with fail
        refine (alive_is _).mono ?_
        rintro e w6 ⟨rfl, b6⟩
        have B6 := Lib.hid (step_ B5.out b6)
        clear b6
        go_wp2_with fail
        go_ret
        exact ⟨rfl, B6.out⟩
theorem crcTells_any (u : Value) (l : List Int) (at_ turn : Int) (w : World) (h : BytesAt w u l) (ht0 : 0 ≤ turn) (ht1 : turn < 65536) (hat0 : -9223372036854775808 ≤ at_) (hat1 : at_ ≤ 9223372036854775807) : Calls Try.prog 5 #[u, .int .i64 at_, .int .u16 turn] w fun e w' => e = .returned (.bool true) ∧ Below w.heap.size w w' := by
  by_cases hl : l.length ≤ 300
  · exact crcTells_main u l at_ turn w h hl ht0 ht1 hat0 hat1
  · obtain ⟨a, c, rfl, -, -, -⟩ := h
    have k1 : (l.length : Int) > 300 := by omega
    clear ht0 ht1 hat0 hat1
    go_enter Try.func5, Try.ntmps5
    go_wp2_with fail
    refine (alive_is _).mono ?_
    rintro e w6 ⟨rfl, b6⟩
    have B6 := Lib.hid b6
    clear b6
    go_wp2_with fail
    go_ret
    exact ⟨rfl, B6.out⟩
end Go.Proofs.Ytoelaamkkfjbfaa
