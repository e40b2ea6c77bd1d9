/- The walk of the law NumBack. -/
import Derived.Test.YtmfofgakenpnaaaDoorLawsB
import Derived.Test.YtmfofgakenpnaaaDoorBackWords
namespace Go.Proofs.YtmfofgakenpnaaaDoor
open Go.RowKit

theorem split_is (s : ByteArray) (lo hi : Int) (rl : List Int) (rn re : Int) (w : World) (hs : s.size ≤ 10000) (hr : Hid (splitOf s lo hi = (rl, rn, re))) :
    Calls Tryd.prog 17 #[.string s, .int .i64 lo, .int .i64 hi] w fun e w' => ∃ v, e = .returned (.tuple #[v, .int .i64 rn, .int .i64 re]) ∧ IntsAt w' v rl ∧ Below w.heap.size w w' := by
  have := split_any s lo hi w hs
  rw [hr.out] at this
  exact this

set_option maxRecDepth 100000 in
set_option maxHeartbeats 1000000 in
theorem numBack_any (n : Int) (s : ByteArray) (v : Value) (l : List Int) (w : World) (h0 : -9223372036854775808 ≤ n) (h1 : n ≤ 9223372036854775807) (hv : IntsAt w v l) (hs : s.size ≤ maxLen) (hln : l.length ≤ maxLen) (ht : Tab w) :
    Calls Tryd.prog 6 #[.int .i64 n, .string s, v] w fun e w' => e = .returned (.bool true) ∧ Below w.heap.size w w' := by
  unfold maxLen at hs hln
  have HV := Lib.hid hv
  have HT := Lib.hid ht
  obtain ⟨a, cap, hva, hrg0, _⟩ := hv
  have hrg := Lib.hid hrg0
  subst hva
  clear ht hrg0
  by_cases hbig : 100 < s.size
  · go_enter Tryd.func6, Tryd.ntmps6
    go_wp2_with fail
    refine (alive_any _ HT.out).mono ?_
    rintro e w1 ⟨rfl, hb1⟩
    go_wp2_with fail
    go_ret
    exact ⟨rfl, hb1⟩
  · by_cases hbig2 : 60 < l.length
    · go_enter Tryd.func6, Tryd.ntmps6
      go_wp2_with fail
      refine (alive_any _ HT.out).mono ?_
      rintro e w1 ⟨rfl, hb1⟩
      go_wp2_with fail
      go_ret
      exact ⟨rfl, hb1⟩
    · obtain ⟨⟨y, f⟩, hp0⟩ : ∃ p, parsed s.data.toList (-9223372036854775808) 9223372036854775807 = p := ⟨_, rfl⟩
      have hyr : InI64 y := by have := parsed_range s.data.toList (-9223372036854775808) 9223372036854775807; rw [hp0] at this; exact this
      have hP := Lib.hid hp0
      obtain ⟨t, ht0⟩ : ∃ t : ByteArray, t = ⟨(Lib.itoa n).toArray⟩ := ⟨_, rfl⟩
      have hT := Lib.hid ht0
      have htl : t.size ≤ 21 := by
        rw [ht0]; show (Lib.itoa n).toArray.size ≤ 21; rw [List.size_toArray]; exact Lib.itoa_length_le n h0 h1
      have hN : Hid (parsed t.data.toList n n = (n, 0)) := Lib.hid (by rw [ht0]; exact parse_print n n n ⟨h0, h1⟩ (Int.le_refl _) (Int.le_refl _))
      obtain ⟨j, hj0⟩ : ∃ j : ByteArray, j = ⟨(joinTo l l.length).toArray⟩ := ⟨_, rfl⟩
      have hJ := Lib.hid hj0
      have hjl : j.size ≤ 1320 := by
        rw [hj0]; show (joinTo l l.length).toArray.size ≤ 1320; rw [List.size_toArray]; have := join_len l hrg.out l.length; omega
      have hS : Hid (splitOf j (-9223372036854775808) 9223372036854775807 = (l, 0, 0)) := Lib.hid (by
        rw [hj0]; exact split_join _ _ l (fun x hx => ⟨hrg.out x hx, (hrg.out x hx).1, (hrg.out x hx).2⟩))
      clear ht0 hj0 hp0
      have hy0 := hyr.1
      have hy1 := hyr.2
      clear hyr
      have hback : Hid (f = 0 → s = ⟨(Lib.itoa y).toArray⟩) := Lib.hid (fun h => by
        have hx := hP.out; rw [h] at hx
        rw [print_parse _ _ _ _ hx])
      by_cases hf : f = 0
      · subst hf
        have hSY := Lib.hid (hback.out rfl)
        clear hback
        go_enter Tryd.func6, Tryd.ntmps6
        go_wp2_with fail
        refine (print_is n t _ h0 h1 hT HT.out).mono ?_
        rintro e w1 ⟨rfl, hb1⟩
        go_wp2_with fail
        refine (parse_is t n n n 0 _ (by unfold maxLen; omega) hN).mono ?_
        rintro e w2 ⟨rfl, rfl⟩
        go_wp2_with fail
        refine (parse_is s _ _ y 0 _ (by unfold maxLen; omega) hP).mono ?_
        rintro e w2 ⟨rfl, rfl⟩
        go_wp2_with fail
        refine (join_is _ l j w1 (by omega) (HV.out.below hb1) (HT.out.below hb1) hJ).mono ?_
        rintro e w2 ⟨rfl, hb2⟩
        have hbB := hb1.trans (hb2.mono hb1.size)
        clear hb1 hb2
        go_wp2_with fail
        refine (split_is j _ _ l 0 0 w2 (by omega) hS).mono ?_
        rintro e w3 ⟨va, rfl, hia, hb3⟩
        have hbC := hbB.trans (hb3.mono hbB.size)
        have HIA := Lib.hid hia
        clear hb3 hbB hia
        go_wp2_with fail
        refine (same_any va _ l w3 (by omega) HIA.out (HV.out.below hbC)).mono ?_
        rintro e w4 ⟨rfl, hb4⟩
        have hbD := hbC.trans (hb4.mono hbC.size)
        clear hb4 hbC
        go_wp2_with fail
        refine (print_is y s _ hy0 hy1 hSY (HT.out.below hbD)).mono ?_
        rintro e w5 ⟨rfl, hb5⟩
        have hbE := hbD.trans (hb5.mono hbD.size)
        clear hb5 hbD
        go_wp2_with fail
        refine (alive_any _ (HT.out.below hbE)).mono ?_
        rintro e w6 ⟨rfl, hb6⟩
        have hbF := Lib.hid (hbE.trans (hb6.mono hbE.size))
        go_wp2_with fail
        go_ret
        exact ⟨rfl, hbF.out⟩
      · have hne : (f != 0) = true := by simpa using hf
        clear hf hback
        go_enter Tryd.func6, Tryd.ntmps6
        go_wp2_with fail
        refine (print_is n t _ h0 h1 hT HT.out).mono ?_
        rintro e w1 ⟨rfl, hb1⟩
        go_wp2_with fail
        refine (parse_is t n n n 0 _ (by unfold maxLen; omega) hN).mono ?_
        rintro e w2 ⟨rfl, rfl⟩
        go_wp2_with fail
        refine (parse_is s _ _ y f _ (by unfold maxLen; omega) hP).mono ?_
        rintro e w2 ⟨rfl, rfl⟩
        go_wp2_with fail
        refine (join_is _ l j w1 (by omega) (HV.out.below hb1) (HT.out.below hb1) hJ).mono ?_
        rintro e w2 ⟨rfl, hb2⟩
        have hbB := hb1.trans (hb2.mono hb1.size)
        clear hb1 hb2
        go_wp2_with fail
        refine (split_is j _ _ l 0 0 w2 (by omega) hS).mono ?_
        rintro e w3 ⟨va, rfl, hia, hb3⟩
        have hbC := hbB.trans (hb3.mono hbB.size)
        have HIA := Lib.hid hia
        clear hb3 hbB hia
        go_wp2_with fail
        refine (same_any va _ l w3 (by omega) HIA.out (HV.out.below hbC)).mono ?_
        rintro e w4 ⟨rfl, hb4⟩
        have hbD := hbC.trans (hb4.mono hbC.size)
        clear hb4 hbC
        go_wp2_with fail
        refine (alive_any _ (HT.out.below hbD)).mono ?_
        rintro e w6 ⟨rfl, hb6⟩
        have hbF := Lib.hid (hbD.trans (hb6.mono hbD.size))
        go_wp2_with fail
        go_ret
        exact ⟨rfl, hbF.out⟩
end Go.Proofs.YtmfofgakenpnaaaDoor
