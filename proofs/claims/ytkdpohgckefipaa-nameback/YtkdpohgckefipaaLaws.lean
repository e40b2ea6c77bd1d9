/- What must come at any rate; the walks of NameTexts and NameNumbers. -/
import Derived.Test.YtkdpohgckefipaaFrom
namespace Go.Proofs.Ytkdpohgckefipaa
open Go.RowKit

theorem okL_len {b : Bool} {l : List Int} (h : l.length = 8) : (okL b l).length = 8 := by
  cases b
  · rfl
  · exact h
def lA : List Int := [97, 0, 0, 0, 0, 0, 0, 0]
theorem lA_len : lA.length = 8 := rfl
theorem lA_bytes : M.Bytes lA := by unfold M.Bytes lA; decide
theorem one_bytes : M.Bytes [97] := by unfold M.Bytes; decide
theorem lA_of : okL true (M.pad [97]) = lA := by decide
theorem lA_num : M.num lA = 6989586621679009792 := by decide
theorem lA_right : M.rightB lA = true := by decide
theorem lA_one : M.ofB [97] = true := by decide
set_option maxRecDepth 100000 in
theorem alive_is (w : World) : Calls Try.prog 6 #[] w fun e w' => e = .returned (.bool true) ∧ Below w.heap.size w w' := by
  obtain ⟨s, hs⟩ : ∃ s : ByteArray, s = ⟨#[97]⟩ := ⟨_, rfl⟩
  have HS := Lib.hid (show s = strOfNums [97] by rw [hs]; rfl)
  have HT := Lib.hid (show s = strOfNums (M.text lA) by rw [hs]; rfl)
  have hz := zero23
  have LL := Lib.hid lA_len
  have LB := Lib.hid lA_bytes
  go_enter Try.func6, Try.ntmps6
  go_wp2_with fail
  rw [← hs]
  refine (of_is s [97] true _ HS (Lib.hid one_bytes) (Lib.hid lA_one)).mono ?_
  rintro e w1 ⟨rfl, c1⟩
  rw [lA_of, show okE true = 0 from rfl]
  have N1 := Lib.hid (at_alloc w1 M.zero8)
  have B1 := Lib.hid (step_ c1 ((Below.refl w1.heap.size w1).alloc (Nat.le_refl _) (.cells (nm M.zero8) 23)))
  have G1 := Lib.hid c1.size
  clear c1
  go_wp2_with (first
    | (refine wpList_store_name rfl _ _ rfl w1.heap.size M.zero8 lA rfl rfl N1.out rfl LL.out ?_; intro w2 N2 F2 L2)
    | (refine wanted_on rfl ?_; refine wpList_load_name rfl _ rfl w1.heap.size lA rfl N2.out LL.out ?_))
  refine (number_is lA 6989586621679009792 _ LL.out LB (Lib.hid lA_num)).mono ?_
  rintro e w3 ⟨rfl, c3⟩
  have N3 := Lib.hid (N2.out.below c3)
  have B3 := Lib.hid (step_ (L2.out w.heap.size w G1.out B1.out) c3)
  clear c3 F2 L2 N2 N1 B1
  go_wp2_with (refine wanted_on rfl ?_; refine wpList_load_name rfl _ rfl w1.heap.size lA rfl N3.out LL.out ?_)
  refine (text_is lA s _ LL.out LB HT).mono ?_
  rintro e w4 ⟨rfl, c4⟩
  have N4 := Lib.hid (N3.out.below c4)
  have B4 := Lib.hid (step_ B3.out c4)
  clear c4
  go_wp2_with (refine wanted_on rfl ?_; refine wpList_load_name rfl _ rfl w1.heap.size lA rfl N4.out LL.out ?_)
  refine (right_is lA true _ LL.out LB (Lib.hid lA_right)).mono ?_
  rintro e w5 ⟨rfl, c5⟩
  have B5 := Lib.hid (step_ B4.out c5)
  clear c5
  go_wp2_with fail
  go_ret
  exact ⟨rfl, B5.out⟩
set_option maxRecDepth 100000 in
set_option maxHeartbeats 1000000 in
theorem nameTexts_any (s : ByteArray) (n : List Int) (w : World) (hn : n.length = 8) (hbn : M.Bytes n) : Calls Try.prog 3 #[.string s, .agg (nm n)] w fun e w' => e = .returned (.bool true) ∧ Below w.heap.size w w' := by
  by_cases hl : s.size ≤ 100
  · have k1 : ¬ (100 : Int) < (s.size : Int) := by omega
    obtain ⟨t, ht⟩ : ∃ t, M.nums s = t := ⟨_, rfl⟩
    have HS := Lib.hid (show s = strOfNums t by rw [← ht, M.str_nums])
    have TB := Lib.hid (show M.Bytes t by rw [← ht]; exact M.nums_bytes s)
    have TL := Lib.hid (show t.length ≤ 100 by rw [← ht, M.nums_len]; exact hl)
    obtain ⟨b, hb⟩ : ∃ b, M.ofB t = b := ⟨_, rfl⟩
    have HO := Lib.hid hb
    obtain ⟨m, hm⟩ : ∃ m, okL b (M.pad t) = m := ⟨_, rfl⟩
    obtain ⟨E, hE⟩ : ∃ E, okE b = E := ⟨_, rfl⟩
    have ML := Lib.hid (show m.length = 8 by rw [← hm]; exact okL_len (M.pad_len t))
    obtain ⟨s2, hs2⟩ : ∃ s2, s2 = strOfNums (M.text n) := ⟨_, rfl⟩
    have HT := Lib.hid hs2
    obtain ⟨r, hr⟩ : ∃ r, M.rightB n = r := ⟨_, rfl⟩
    have HR := Lib.hid hr
    obtain ⟨c, hc⟩ : ∃ c, (n == M.zero8) = c := ⟨_, rfl⟩
    have HC := Lib.hid (show (n != M.zero8) = !c by rw [← hc]; rfl)
    have NL := Lib.hid hn
    have NB := Lib.hid hbn
    have hq1 : ∀ w d, (Op.equalIn (d + 2) 23 (.agg (nm m)) (.agg (nm m))).run Try.prog w = .ok true w := fun w d => by rw [eql23 m m ML.out ML.out d w]; simp
    have hq2 : ∀ w d, (Op.equalIn (d + 2) 23 (.agg (nm n)) (.agg (nm M.zero8))).run Try.prog w = .ok c w := fun w d => by rw [eql23 n M.zero8 hn rfl d w, hc]
    have hz := zero23
    have HA := Lib.hid (at_alloc w n)
    have HB := Lib.hid ((Below.refl w.heap.size w).alloc (Nat.le_refl _) (.cells (nm n) 23))
    have HM := Lib.hid hm
    have HE := Lib.hid hE
    clear ht hb hm hE hs2 hr hc hn hbn
    go_enter Try.func3, Try.ntmps3
    go_wp2_with fail
    refine (of_is s t b _ HS TB HO).mono ?_
    rintro e w1 ⟨rfl, c1⟩
    rw [HM.out, HE.out]
    have A1 := Lib.hid ((HA.out.below c1).below ((Below.refl w1.heap.size w1).alloc (Nat.le_refl _) (.cells (nm M.zero8) 23)))
    have G1 := Lib.hid (HA.out.below c1).lt
    have B1 := Lib.hid (step_ (HB.out.trans (c1.mono (by simp))) ((Below.refl w1.heap.size w1).alloc (Nat.le_refl _) (.cells (nm M.zero8) 23)))
    have N1 := Lib.hid (at_alloc w1 M.zero8)
    clear c1 HA HB
    go_wp2_with (first
      | (refine wpList_store_name rfl _ _ rfl w1.heap.size M.zero8 m rfl rfl N1.out rfl ML.out ?_; intro w2 N2 F2 L2))
    refine (refOf_is s t b _ TL.out HS TB HO).mono ?_
    rintro e w3 ⟨rfl, c3⟩
    rw [HM.out, HE.out]
    have B2 := L2.out w.heap.size w (Nat.le_of_lt G1.out) B1.out
    have al := (Below.refl w3.heap.size w3).alloc (Nat.le_refl _) (.cells (nm M.zero8) 23)
    have A3 := Lib.hid (((F2.out w.heap.size n (Nat.ne_of_lt G1.out) A1.out).below c3).below al)
    have N3 := Lib.hid ((N2.out.below c3).below al)
    have G3 := Lib.hid (N2.out.below c3).lt
    have G4 := Lib.hid ((F2.out w.heap.size n (Nat.ne_of_lt G1.out) A1.out).below c3).lt
    have B3 := Lib.hid (step_ (step_ B2 c3) al)
    have M3 := Lib.hid (at_alloc w3 M.zero8)
    clear c3 B2 F2 L2 N1 B1 A1 N2 al
    go_wp2_with (first
      | (refine wpList_store_name rfl _ _ rfl w3.heap.size M.zero8 m rfl rfl M3.out rfl ML.out ?_; intro w4 M4 F4 L4))
    have A4 := Lib.hid (F4.out w.heap.size n (Nat.ne_of_lt G4.out) A3.out)
    have N4 := Lib.hid (F4.out w1.heap.size m (Nat.ne_of_lt G3.out) N3.out)
    have B4 := Lib.hid (L4.out w.heap.size w (Nat.le_of_lt G4.out) B3.out)
    clear F4 L4 B3 A3 N3 M3 G3 G4 G1
    refine region_later (by kernel_rfl) (by kernel_rfl) ?_
    (go_big_quiet_want; refine quiet_load w1.heap.size m _ rfl rfl N4.out ML.out ?_; go_simp; go_big_quiet_on)
    (go_big_quiet_want; refine quiet_load w3.heap.size m _ rfl rfl M4.out ML.out ?_; go_simp; go_big_quiet_on)
    go_big_quiet_step (fail)
    go_big_quiet_step (fail)
    go_big_quiet_step (fail)
    go_big_quiet_step (fail)
    go_big_quiet_step (fail)
    go_big_quiet_step (fail)
    go_big_quiet_step (fail)
    (go_big_quiet_want; refine quiet_load w.heap.size n _ rfl rfl A4.out NL.out ?_; go_simp; go_big_quiet_on)
    go_big_quiet_step (exact later_call (text_is n s2 _ NL.out NB HT))
    (go_big_quiet_want; refine quiet_load w.heap.size n _ rfl rfl A4.out NL.out ?_; go_simp; go_big_quiet_on)
    go_big_quiet_step (exact later_call (refText_is n s2 _ NL.out HT))
    go_big_quiet_step (fail)
    go_big_quiet_step (fail)
    go_big_quiet_step (fail)
    (go_big_quiet_want; refine quiet_load w.heap.size n _ rfl rfl A4.out NL.out ?_; go_simp; go_big_quiet_on)
    go_big_quiet_step (exact later_call (right_is n r _ NL.out NB HR))
    (go_big_quiet_want; refine quiet_load w.heap.size n _ rfl rfl A4.out NL.out ?_; go_simp; go_big_quiet_on)
    go_big_quiet_step (exact later_call (refRight_is n r _ NL.out NB HR))
    go_big_quiet_step (fail)
    go_big_quiet_step (fail)
    go_big_quiet_step (fail)
    (go_big_quiet_want; refine quiet_load w.heap.size n _ rfl rfl A4.out NL.out ?_; go_simp; go_big_quiet_on)
    go_big_quiet_step (exact later_call (some_is n (!c) _ NL.out HC))
    (go_big_quiet_want; refine quiet_load w.heap.size n _ rfl rfl A4.out NL.out ?_; go_simp; go_big_quiet_on)
    go_big_quiet_step (fail)
    go_big_quiet_step (fail)
    go_big_quiet_step (fail)
    go_big_quiet_step (fail)
    go_big_quiet_step (fail)
    go_big_quiet_step (exact later_call (alive_is _))
    repeat go_big_quiet_step (fail)
    refine wpQuiet_nil ?_
    intro w5 hw5
    have B5 := Lib.hid (step_ B4.out hw5)
    clear hw5
    go_wp2_with fail
    go_ret
    exact ⟨rfl, B5.out⟩
  · have k1 : (100 : Int) < (s.size : Int) := by omega
    have HB := Lib.hid ((Below.refl w.heap.size w).alloc (Nat.le_refl _) (.cells (nm n) 23))
    go_enter Try.func3, Try.ntmps3
    go_wp2_with fail
    refine (alive_is _).mono ?_
    rintro e w6 ⟨rfl, b6⟩
    have B6 := Lib.hid (HB.out.trans (b6.mono (by simp)))
    clear b6
    go_wp2_with fail
    go_ret
    exact ⟨rfl, B6.out⟩
end Go.Proofs.Ytkdpohgckefipaa
