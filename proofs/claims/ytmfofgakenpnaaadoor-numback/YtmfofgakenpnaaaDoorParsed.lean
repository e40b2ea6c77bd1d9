/- The contract of Parse of package num. -/
import Derived.Test.YtmfofgakenpnaaaDoorValue
import Derived.Test.YtmfofgakenpnaaaDoorShelf
namespace Go.Proofs.YtmfofgakenpnaaaDoor
open Go.RowKit

/-- What Parse answers for the digits d behind the sign: the number and the error. -/
def parsedD (neg : Bool) (d : List UInt8) (lo hi : Int) : Int × Int :=
  if M.digitsOk d && !(neg && d == [48]) then
    (if valFits neg (M.val d) && (decide (lo ≤ valNum neg (M.val d)) && decide (valNum neg (M.val d) ≤ hi)) then (valNum neg (M.val d), 0) else (0, 2))
  else (0, 3)
def parsed (l : List UInt8) (lo hi : Int) : Int × Int := parsedD (Lib.hasPrefix l [45]) (Lib.trimPrefix l [45]) lo hi

theorem cutPrefix_any (s p : ByteArray) (w : World) : Calls Tryd.prog 22 #[.string s, .string p] w fun e w' =>
    e = .returned (.tuple #[.string ⟨(Lib.trimPrefix s.data.toList p.data.toList).toArray⟩, .bool (Lib.hasPrefix s.data.toList p.data.toList)]) ∧ w = w' :=
  (Tryd.strings_CutPrefix s p w).mono fun _ _ ⟨he, hw⟩ => ⟨he, hw.symm⟩

theorem ret_ints {a b c d : Int} (h : a = c) (h2 : b = d) : Ending.returned (.tuple #[.int .i64 a, .int .i64 b]) = .returned (.tuple #[.int .i64 c, .int .i64 d]) := by rw [h, h2]
theorem trim_le (l p : List UInt8) : (Lib.trimPrefix l p).length ≤ l.length := by
  unfold Lib.trimPrefix; split
  · rw [List.length_drop]; omega
  · exact Nat.le_refl _
theorem dok_all (l : List UInt8) (h : M.digitsOk l = true) : l.all M.isDig = true := by
  simp only [M.digitsOk, Bool.and_eq_true] at h
  exact h.1.2

theorem cut_is (s d : ByteArray) (neg : Bool) (w : World) (hd : Hid (d.data.toList = Lib.trimPrefix s.data.toList [45])) (hn : Hid (neg = Lib.hasPrefix s.data.toList [45])) :
    Calls Tryd.prog 22 #[.string s, .string ⟨#[45]⟩] w fun e w' => e = .returned (.tuple #[.string d, .bool neg]) ∧ w = w' := by
  refine (cutPrefix_any s ⟨#[45]⟩ w).mono fun e w' ⟨he, hw⟩ => ⟨?_, hw⟩
  rw [he, hn.out]
  have : d = ⟨(Lib.trimPrefix s.data.toList [45]).toArray⟩ := by
    rw [← hd.out]
  rw [this]
theorem areDigits_is (s : ByteArray) (w : World) (b : Bool) (hs : s.size ≤ maxLen) (hb : Hid (M.digitsOk s.data.toList = b)) :
    Calls Tryd.prog 23 #[.string s] w fun e w' => e = .returned (.bool b) ∧ w = w' := by
  rw [← hb.out]; exact areDigits_any s w hs
theorem value_is (s : ByteArray) (neg : Bool) (w : World) (n : Int) (f : Bool) (hs : s.size ≤ maxLen) (hd : Hid (M.digitsOk s.data.toList = true)) (hn : Hid (valNum neg (M.val s.data.toList) = n)) (hf : Hid (valFits neg (M.val s.data.toList) = f)) :
    Calls Tryd.prog 24 #[.string s, .bool neg] w fun e w' => e = .returned (.tuple #[.int .i64 n, .bool f]) ∧ w = w' := by
  rw [← hn.out, ← hf.out]; exact value_any s neg w hs (Lib.hid (dok_all _ hd.out))

set_option maxRecDepth 100000 in
set_option maxHeartbeats 400000 in
theorem parse_core (s d : ByteArray) (neg : Bool) (lo hi : Int) (w : World) (hs : d.size ≤ maxLen) (hd : Hid (d.data.toList = Lib.trimPrefix s.data.toList [45])) (hn : Hid (neg = Lib.hasPrefix s.data.toList [45])) :
    Calls Tryd.prog 8 #[.string s, .int .i64 lo, .int .i64 hi] w fun e w' => e = .returned (.tuple #[.int .i64 (parsedD neg d.data.toList lo hi).1, .int .i64 (parsedD neg d.data.toList lo hi).2]) ∧ w = w' := by
  cases hb0 : M.digitsOk d.data.toList
  · have hb := Lib.hid hb0
    have hp := Lib.hid (show parsedD neg d.data.toList lo hi = (0, 3) by simp [parsedD, hb0])
    clear hb0
    go_enter Tryd.func8, Tryd.ntmps8
    go_wp2_with (first | (go_at_call 22; refine (cut_is s d neg _ hd hn).mono ?_; rintro e w' ⟨rfl, rfl⟩) | (go_at_call 23; refine (areDigits_is d _ false hs hb).mono ?_; rintro e w' ⟨rfl, rfl⟩))
    go_ret2
    exact ⟨ret_ints (by rw [hp.out]) (by rw [hp.out]), rfl⟩
  · have hb := Lib.hid hb0
    by_cases hz : neg = true ∧ (d.toList == [48]) = true
    · obtain ⟨rfl, hz⟩ := hz
      have hp := Lib.hid (show parsedD true d.data.toList lo hi = (0, 3) by
        rw [ByteArray.toList_eq] at hz
        simp only [parsedD, hz]; simp)
      clear hb0
      go_enter Tryd.func8, Tryd.ntmps8
      go_wp2_with (first | (go_at_call 22; refine (cut_is s d true _ hd hn).mono ?_; rintro e w' ⟨rfl, rfl⟩) | (go_at_call 23; refine (areDigits_is d _ true hs hb).mono ?_; rintro e w' ⟨rfl, rfl⟩))
      go_ret2
      exact ⟨ret_ints (by rw [hp.out]) (by rw [hp.out]), rfl⟩
    · have hz2 : (neg && d.toList == [48]) = false := by
        cases neg <;> simp_all
      have hz3 := hz2
      rw [ByteArray.toList_eq] at hz3
      obtain ⟨n, hn1⟩ : ∃ n, valNum neg (M.val d.data.toList) = n := ⟨_, rfl⟩
      cases hf0 : valFits neg (M.val d.data.toList)
      · have hp := Lib.hid (show parsedD neg d.data.toList lo hi = (0, 2) by
          simp only [parsedD, hz3, hb0, hf0]; simp)
        have hf := Lib.hid hf0
        have hN := Lib.hid hn1
        clear hb0 hz3 hf0 hn1 hz
        cases neg
        · clear hz2
          go_enter Tryd.func8, Tryd.ntmps8
          go_wp2_with (first | (go_at_call 22; refine (cut_is s d false _ hd hn).mono ?_; rintro e w' ⟨rfl, rfl⟩) | (go_at_call 23; refine (areDigits_is d _ true hs hb).mono ?_; rintro e w' ⟨rfl, rfl⟩) | (go_at_call 24; refine (value_is d false _ n false hs hb hN hf).mono ?_; rintro e w' ⟨rfl, rfl⟩))
          go_ret2
          exact ⟨ret_ints (by rw [hp.out]) (by rw [hp.out]), rfl⟩
        · have hz4 : (d.toList == [48]) = false := by simpa using hz2
          clear hz2
          go_enter Tryd.func8, Tryd.ntmps8
          go_wp2_with (first | (go_at_call 22; refine (cut_is s d true _ hd hn).mono ?_; rintro e w' ⟨rfl, rfl⟩) | (go_at_call 23; refine (areDigits_is d _ true hs hb).mono ?_; rintro e w' ⟨rfl, rfl⟩) | (go_at_call 24; refine (value_is d true _ n false hs hb hN hf).mono ?_; rintro e w' ⟨rfl, rfl⟩))
          go_ret2
          exact ⟨ret_ints (by rw [hp.out]) (by rw [hp.out]), rfl⟩
      · by_cases hr : lo ≤ n ∧ n ≤ hi
        · obtain ⟨hr1, hr2⟩ := hr
          have hp := Lib.hid (show parsedD neg d.data.toList lo hi = (n, 0) by
            simp only [parsedD, hz3, hb0, hf0, hn1, hr1, hr2]; simp)
          have hf := Lib.hid hf0
          have hN := Lib.hid hn1
          clear hb0 hz3 hf0 hn1 hz
          cases neg
          · clear hz2
            go_enter Tryd.func8, Tryd.ntmps8
            go_wp2_with (first | (go_at_call 22; refine (cut_is s d false _ hd hn).mono ?_; rintro e w' ⟨rfl, rfl⟩) | (go_at_call 23; refine (areDigits_is d _ true hs hb).mono ?_; rintro e w' ⟨rfl, rfl⟩) | (go_at_call 24; refine (value_is d false _ n true hs hb hN hf).mono ?_; rintro e w' ⟨rfl, rfl⟩))
            go_ret2
            exact ⟨ret_ints (by rw [hp.out]) (by rw [hp.out]), rfl⟩
          · have hz4 : (d.toList == [48]) = false := by simpa using hz2
            clear hz2
            go_enter Tryd.func8, Tryd.ntmps8
            go_wp2_with (first | (go_at_call 22; refine (cut_is s d true _ hd hn).mono ?_; rintro e w' ⟨rfl, rfl⟩) | (go_at_call 23; refine (areDigits_is d _ true hs hb).mono ?_; rintro e w' ⟨rfl, rfl⟩) | (go_at_call 24; refine (value_is d true _ n true hs hb hN hf).mono ?_; rintro e w' ⟨rfl, rfl⟩))
            go_ret2
            exact ⟨ret_ints (by rw [hp.out]) (by rw [hp.out]), rfl⟩
        · have hp := Lib.hid (show parsedD neg d.data.toList lo hi = (0, 2) by
            simp only [parsedD, hz3, hb0, hf0, hn1]; simp; omega)
          have hf := Lib.hid hf0
          have hN := Lib.hid hn1
          clear hb0 hz3 hf0 hn1 hz
          cases neg
          · clear hz2
            by_cases hr1 : n < lo
            all_goals
              go_enter Tryd.func8, Tryd.ntmps8
              go_wp2_with (first | (go_at_call 22; refine (cut_is s d false _ hd hn).mono ?_; rintro e w' ⟨rfl, rfl⟩) | (go_at_call 23; refine (areDigits_is d _ true hs hb).mono ?_; rintro e w' ⟨rfl, rfl⟩) | (go_at_call 24; refine (value_is d false _ n true hs hb hN hf).mono ?_; rintro e w' ⟨rfl, rfl⟩))
              go_ret2
              exact ⟨ret_ints (by rw [hp.out]) (by rw [hp.out]), rfl⟩
          · have hz4 : (d.toList == [48]) = false := by simpa using hz2
            clear hz2
            by_cases hr1 : n < lo
            all_goals
              go_enter Tryd.func8, Tryd.ntmps8
              go_wp2_with (first | (go_at_call 22; refine (cut_is s d true _ hd hn).mono ?_; rintro e w' ⟨rfl, rfl⟩) | (go_at_call 23; refine (areDigits_is d _ true hs hb).mono ?_; rintro e w' ⟨rfl, rfl⟩) | (go_at_call 24; refine (value_is d true _ n true hs hb hN hf).mono ?_; rintro e w' ⟨rfl, rfl⟩))
              go_ret2
              exact ⟨ret_ints (by rw [hp.out]) (by rw [hp.out]), rfl⟩
theorem parse_any (s : ByteArray) (lo hi : Int) (w : World) (hs : s.size ≤ maxLen) :
    Calls Tryd.prog 8 #[.string s, .int .i64 lo, .int .i64 hi] w fun e w' => e = .returned (.tuple #[.int .i64 (parsed s.data.toList lo hi).1, .int .i64 (parsed s.data.toList lo hi).2]) ∧ w = w' := by
  have hle := trim_le s.data.toList [45]
  have h2 : s.data.toList.length = s.size := Array.length_toList
  exact parse_core s ⟨(Lib.trimPrefix s.data.toList [45]).toArray⟩ _ lo hi w (by show (Lib.trimPrefix s.data.toList [45]).toArray.size ≤ _; rw [List.size_toArray]; omega) (Lib.hid rfl) (Lib.hid rfl)
end Go.Proofs.YtmfofgakenpnaaaDoor
