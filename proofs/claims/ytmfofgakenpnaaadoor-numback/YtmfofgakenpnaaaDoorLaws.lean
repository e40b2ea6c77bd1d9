/- The walks of the laws NumParses and NumWords. -/
import Derived.Test.YtmfofgakenpnaaaDoorRefWords
namespace Go.Proofs.YtmfofgakenpnaaaDoor
open Go.RowKit

theorem refParse_is (s : ByteArray) (lo hi n c : Int) (w : World) (hs : s.size ≤ 1000) (hp : Hid (parsed s.data.toList lo hi = (n, c))) :
    Calls Tryd.prog 9 #[.string s, .int .i64 lo, .int .i64 hi] w fun e w' => e = .returned (.tuple #[.int .i64 n, .int .i64 c]) ∧ w = w' := by
  have := refParse_any s lo hi w hs
  rw [hp.out] at this; exact this
theorem print_is (n : Int) (t : ByteArray) (w : World) (h0 : -9223372036854775808 ≤ n) (h1 : n ≤ 9223372036854775807) (hx : Hid (t = ⟨(Lib.itoa n).toArray⟩)) (ht : Tab w) :
    Calls Tryd.prog 10 #[.int .i64 n] w fun e w' => e = .returned (.string t) ∧ Below w.heap.size w w' := by
  rw [hx.out]; exact print_any n w h0 h1 ht
theorem refPrint_is (n : Int) (t : ByteArray) (w : World) (h0 : -9223372036854775808 ≤ n) (h1 : n ≤ 9223372036854775807) (hx : Hid (t = ⟨(Lib.itoa n).toArray⟩)) :
    Calls Tryd.prog 11 #[.int .i64 n] w fun e w' => e = .returned (.string t) ∧ w = w' := by
  rw [hx.out]; exact refPrint_any n.natAbs n w (Nat.le_refl _) h0 h1

set_option maxRecDepth 100000 in
set_option maxHeartbeats 400000 in
theorem numParses_any (n b0 b1 : Int) (s : ByteArray) (w : World) (h0 : -9223372036854775808 ≤ n) (h1 : n ≤ 9223372036854775807) (hs : s.size ≤ maxLen) (ht : Tab w) :
    Calls Tryd.prog 3 #[.int .i64 n, .string s, .agg #[.int .i64 b0, .int .i64 b1]] w fun e w' => e = .returned (.bool true) ∧ Below w.heap.size w w' := by
  unfold maxLen at hs
  have hA := fun o => Lib.hid ((Below.refl w.heap.size w).alloc (Nat.le_refl _) o)
  by_cases h100 : 100 < s.size
  · go_enter Tryd.func3, Tryd.ntmps3
    go_wp2_with fail
    refine (alive_any _ (ht.below (hA _).out)).mono ?_
    rintro e w1 ⟨rfl, hb1⟩
    have hb2 := Lib.hid ((hA _).out.trans (hb1.mono (by simp)))
    go_wp2_with fail
    go_ret
    exact ⟨rfl, hb2.out⟩
  · obtain ⟨⟨x, e⟩, hp0⟩ : ∃ p, parsed s.data.toList b0 b1 = p := ⟨_, rfl⟩
    have hp := Lib.hid hp0
    obtain ⟨t, ht0⟩ : ∃ t : ByteArray, t = ⟨(Lib.itoa n).toArray⟩ := ⟨_, rfl⟩
    have hT := Lib.hid ht0
    clear hp0 ht0
    go_enter Tryd.func3, Tryd.ntmps3
    go_wp2_with fail
    refine (parse_is s b0 b1 x e _ (by unfold maxLen; omega) hp).mono ?_
    rintro e1 w1 ⟨rfl, rfl⟩
    go_wp2_with fail
    refine (refParse_is s b0 b1 x e _ (by omega) hp).mono ?_
    rintro e1 w1 ⟨rfl, rfl⟩
    have hb := (hA (Obj.cells #[Value.int IntKind.i64 b0, Value.int IntKind.i64 b1] 22)).out
    generalize w.alloc (Obj.cells #[Value.int IntKind.i64 b0, Value.int IntKind.i64 b1] 22) = w1 at *
    go_wp2_with fail
    refine (print_is n t _ h0 h1 hT (ht.below hb)).mono ?_
    rintro e1 w2 ⟨rfl, hb2⟩
    have hbb := hb.trans (hb2.mono hb.size)
    clear hb2
    go_wp2_with fail
    refine (refPrint_is n t _ h0 h1 hT).mono ?_
    rintro e1 w3 ⟨rfl, rfl⟩
    go_wp2_with fail
    refine (alive_any _ (ht.below hbb)).mono ?_
    rintro e1 w3 ⟨rfl, hb3⟩
    have hbc := Lib.hid (hbb.trans (hb3.mono hbb.size))
    go_wp2_with fail
    go_ret
    exact ⟨rfl, hbc.out⟩

set_option maxRecDepth 100000 in
set_option maxHeartbeats 400000 in
theorem numWords_any (s : ByteArray) (w : World) (hs : s.size ≤ maxLen) (ht : Tab w) :
    Calls Tryd.prog 4 #[.string s] w fun e w' => e = .returned (.bool true) ∧ Below w.heap.size w w' := by
  unfold maxLen at hs
  by_cases h500 : 500 < s.size
  · go_enter Tryd.func4, Tryd.ntmps4
    go_wp2_with fail
    refine (alive_any _ ht).mono ?_
    rintro e w1 ⟨rfl, hb1⟩
    go_wp2_with fail
    go_ret
    exact ⟨rfl, hb1⟩
  · go_enter Tryd.func4, Tryd.ntmps4
    go_wp2_with fail
    refine (words_any s _ (by omega)).mono ?_
    rintro e w1 ⟨v1, rfl, hs1⟩
    go_wp2_with fail
    refine (refWords_any s _ (by omega)).mono ?_
    rintro e w2 ⟨v2, rfl, hs2⟩
    go_wp2_with fail
    refine (texts_any hs1 hs2 (Nat.le_trans (words_len s) (by omega))).mono ?_
    rintro e w3 ⟨rfl, hb3⟩
    have hb := hs1.2.trans ((hs2.2.trans (hb3.mono hs2.2.size)).mono hs1.2.size)
    clear hs1 hs2 hb3
    go_wp2_with fail
    refine (lines_any s _ (by omega)).mono ?_
    rintro e w4 ⟨v3, rfl, hs3⟩
    go_wp2_with fail
    refine (refLines_any s _ (by omega)).mono ?_
    rintro e w5 ⟨v4, rfl, hs4⟩
    go_wp2_with fail
    refine (texts_any hs3 hs4 (Nat.le_trans (lines_len s) (by omega))).mono ?_
    rintro e w6 ⟨rfl, hb6⟩
    have hb2 := hb.trans ((hs3.2.trans ((hs4.2.trans (hb6.mono hs4.2.size)).mono hs3.2.size)).mono hb.size)
    clear hs3 hs4 hb6
    go_wp2_with fail
    refine (alive_any _ (ht.below hb2)).mono ?_
    rintro e w7 ⟨rfl, hb7⟩
    have hb8 := Lib.hid (hb2.trans (hb7.mono hb2.size))
    go_wp2_with fail
    go_ret
    exact ⟨rfl, hb8.out⟩
end Go.Proofs.YtmfofgakenpnaaaDoor
