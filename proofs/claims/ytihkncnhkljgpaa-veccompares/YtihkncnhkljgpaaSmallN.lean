/- The contracts of the functions on the bytes of names. -/
import Derived.Test.YtihkncnhkljgpaaNames
namespace Go.Proofs.Ytihkncnhkljgpaa
open Go.RowKit

theorem letter_is (c : Int) (b : Bool) (w : World) (hb : Hid (M.letter c = b)) :
    Calls Try.prog 84 #[.int .u8 c] w fun e w' => e = .returned (.bool b) ∧ w = w' := by
  by_cases h1 : 97 ≤ c
  · have H := Lib.hid (show M.letter c = decide (c ≤ 122) by unfold M.letter; simp [h1])
    go_enter Try.func84, Try.ntmps84
    go_wp2_with fail
    go_ret
    exact ⟨ret_bool (H.out.symm.trans hb.out), rfl⟩
  · have H := Lib.hid (show M.letter c = false by unfold M.letter; simp [h1])
    go_enter Try.func84, Try.ntmps84
    go_wp2_with fail
    go_ret
    exact ⟨ret_bool (H.out.symm.trans hb.out), rfl⟩
theorem other_is (c : Int) (b : Bool) (w : World) (hb : Hid (M.other c = b)) :
    Calls Try.prog 85 #[.int .u8 c] w fun e w' => e = .returned (.bool b) ∧ w = w' := by
  cases hl : M.letter c with
  | true =>
    have H := Lib.hid (show M.other c = true by unfold M.other; simp [hl])
    have HL := Lib.hid hl
    clear hl
    go_enter Try.func85, Try.ntmps85
    go_wp2_with fail
    refine (letter_is c true _ HL).mono ?_
    rintro e w' ⟨rfl, rfl⟩
    go_wp2_with fail
    go_ret
    exact ⟨ret_bool (H.out.symm.trans hb.out), rfl⟩
  | false =>
    have HL := Lib.hid hl
    have H := Lib.hid (show M.other c = (M.digit c || c == 45) by unfold M.other; simp [hl])
    clear hl
    by_cases h1 : 48 ≤ c
    · by_cases h2 : c ≤ 57
      · have H2 := Lib.hid (show M.digit c = true by unfold M.digit; simp [h1, h2])
        go_enter Try.func85, Try.ntmps85
        go_wp2_with fail
        refine (letter_is c false _ HL).mono ?_
        rintro e w' ⟨rfl, rfl⟩
        go_wp2_with fail
        go_ret
        exact ⟨ret_bool (by rw [← hb.out, H.out, H2.out]; rfl), rfl⟩
      · have H2 := Lib.hid (show M.digit c = decide (c ≤ 57) by unfold M.digit; simp [h1])
        go_enter Try.func85, Try.ntmps85
        go_wp2_with fail
        refine (letter_is c false _ HL).mono ?_
        rintro e w' ⟨rfl, rfl⟩
        go_wp2_with fail
        go_ret
        exact ⟨ret_bool (by rw [← hb.out, H.out, H2.out]), rfl⟩
    · have H2 := Lib.hid (show M.digit c = false by unfold M.digit; simp [h1])
      go_enter Try.func85, Try.ntmps85
      go_wp2_with fail
      refine (letter_is c false _ HL).mono ?_
      rintro e w' ⟨rfl, rfl⟩
      go_wp2_with fail
      go_ret
      exact ⟨ret_bool (by rw [← hb.out, H.out, H2.out]; rfl), rfl⟩
theorem good_is (i : Nat) (c : Int) (b : Bool) (w : World) (hb : Hid (M.good i c = b)) :
    Calls Try.prog 111 #[.int .i64 i, .int .u8 c] w fun e w' => e = .returned (.bool b) ∧ w = w' := by
  by_cases h1 : 97 ≤ c
  · by_cases h2 : c ≤ 122
    · have H := Lib.hid (show M.good i c = true by unfold M.good M.letter; simp [h1, h2])
      go_enter Try.func111, Try.ntmps111
      go_wp2_with fail
      go_ret
      exact ⟨ret_bool (H.out.symm.trans hb.out), rfl⟩
    · have h3 : 48 ≤ c := by omega
      have h4 : ¬ c ≤ 57 := by omega
      have h5 : (c == 45) = false := by simp; omega
      have H := Lib.hid (show M.good i c = false by unfold M.good M.letter M.digit; simp [h2, h4, h5])
      go_enter Try.func111, Try.ntmps111
      go_wp2_with fail
      go_ret
      exact ⟨ret_bool (H.out.symm.trans hb.out), rfl⟩
  · by_cases h3 : 48 ≤ c
    · by_cases h4 : c ≤ 57
      · have H := Lib.hid (show M.good i c = decide (0 < i) by unfold M.good M.letter M.digit; simp [h1, h3, h4])
        go_enter Try.func111, Try.ntmps111
        go_wp2_with fail
        go_ret
        exact ⟨ret_bool (H.out.symm.trans hb.out), rfl⟩
      · have h5 : (c == 45) = false := by simp; omega
        have H := Lib.hid (show M.good i c = false by unfold M.good M.letter M.digit; simp [h1, h4, h5])
        go_enter Try.func111, Try.ntmps111
        go_wp2_with fail
        go_ret
        exact ⟨ret_bool (H.out.symm.trans hb.out), rfl⟩
    · by_cases h5 : c = 45
      · subst h5
        have H := Lib.hid (show M.good i 45 = decide (0 < i) by unfold M.good M.letter M.digit; simp)
        go_enter Try.func111, Try.ntmps111
        go_wp2_with fail
        go_ret
        exact ⟨ret_bool (H.out.symm.trans hb.out), rfl⟩
      · have h5 : (c == 45) = false := by simpa using h5
        have H := Lib.hid (show M.good i c = false by unfold M.good M.letter M.digit; simp [h1, h3, h5])
        go_enter Try.func111, Try.ntmps111
        go_wp2_with fail
        go_ret
        exact ⟨ret_bool (H.out.symm.trans hb.out), rfl⟩
theorem some_is (l : List Int) (b : Bool) (w : World) (hl : l.length = 8) (hb : Hid ((l != M.zero8) = b)) :
    Calls Try.prog 96 #[.agg (nm l)] w fun e w' => e = .returned (.bool b) ∧ Below w.heap.size w w' := by
  have h0 := zero23
  have HA := Lib.hid (at_alloc w l)
  have hq := fun w d => eql23 l M.zero8 hl rfl d w
  have hs := size23n hl
  have HS := Lib.hid hs
  clear hs
  go_enter Try.func96, Try.ntmps96
  go_wp2_with (refine wpList_load_row rfl 59 _ rfl w.heap.size rfl 59 (nm l) (0, 0) _ HA.out Try.underlying59 rfl HS.out ?_)
  go_ret
  exact ⟨ret_bool (by rw [← hb.out]; rfl), (Below.refl _ _).alloc (Nat.le_refl _) _⟩
end Go.Proofs.Ytihkncnhkljgpaa
