/- The contract of the reference's Parse: the same answer as that of package num. -/
import Derived.Test.YtmfofgakenpnaaaDoorParsed
namespace Go.Proofs.YtmfofgakenpnaaaDoor
open Go.RowKit

theorem head_at (d : ByteArray) (h : 0 < d.size) : d.data.toList.head? = some d[0] := by
  rw [List.head?_eq_getElem?, List.getElem?_eq_getElem (by simpa using h)]; rfl
theorem size_len (d : ByteArray) : d.data.toList.length = d.size := Array.length_toList

/-- The digits that the loop of the reference goes over: not empty, and no 0 in front of others. -/
def fair0 (neg : Bool) (d : ByteArray) : Prop := 0 < d.size ∧ ∀ h : 0 < d.size, d[0].toNat = 48 → d.size = 1 ∧ neg = false

theorem bad_digit (neg : Bool) (d : ByteArray) (lo hi : Int) (k : Nat) (hk : k < d.size) (h : (d[k].toNat : Int) < 48 ∨ 57 < (d[k].toNat : Int)) : parsedD neg d.data.toList lo hi = (0, 3) := by
  simp [parsedD, dok_bad d k hk h]
theorem fair_ok (neg : Bool) (d : ByteArray) (h : fair0 neg d) (ha : (d.data.toList.take d.size).all M.isDig = true) : (M.digitsOk d.data.toList && !(neg && d.data.toList == [48])) = true := by
  obtain ⟨h0, h1⟩ := h
  rw [M.take_all] at ha
  have hh := head_at d h0
  by_cases hz : d[0].toNat = 48
  · obtain ⟨h2, h3⟩ := h1 h0 hz
    have e3 : decide (1 < d.data.toList.length) = false := by
      rw [decide_eq_false_iff_not, size_len]; omega
    have e4 : d.data.toList.isEmpty = false := by
      cases hl : d.data.toList with
      | nil => rw [hl] at hh; simp at hh
      | cons => rfl
    rw [M.digitsOk, ha, e3, h3, e4]; rfl
  · have e2 : ¬ d[0] = 48 := fun he => hz (by rw [he]; rfl)
    have e4 : d.data.toList.isEmpty = false := by
      cases hl : d.data.toList with
      | nil => rw [hl] at hh; simp at hh
      | cons => rfl
    have e5 : (d.data.toList == [48]) = false := by
      rw [beq_eq_false_iff_ne]; intro he
      rw [he] at hh
      exact e2 (Option.some.inj hh).symm
    have e6 : (d.data.toList.head? == some 48) = false := by
      rw [hh, beq_eq_false_iff_ne]; intro he; exact e2 (Option.some.inj he)
    rw [M.digitsOk, ha, e4, e5, e6]; simp

theorem val_nonneg_of : ∀ l : List UInt8, l.all M.isDig = true → 0 ≤ M.val l := by
  intro l h
  have := M.val_take_nonneg ⟨l.toArray⟩ (by simpa using h) l.length (by show l.length ≤ l.toArray.size; simp)
  simpa using this
/-- What holds at each round's head: the number of the digits so far, or that it is beyond every int. -/
def RL (d : ByteArray) (n far i : Value) : Prop :=
  ∃ (k : Nat) (v m : Int) (f : Bool), k ≤ d.size ∧ n = .int .i64 m ∧ far = .bool f ∧ i = .int .i64 k ∧ Hid ((d.data.toList.take k).all M.isDig = true) ∧ Hid (M.val (d.data.toList.take k) = v) ∧ Hid (f = decide (9223372036854775808 < v)) ∧ Hid (f = false → m = -v)
theorem rl_start (d : ByteArray) : RL d (.int .i64 0) (.bool false) (.int .i64 0) :=
  ⟨0, 0, 0, false, Nat.zero_le _, rfl, rfl, rfl, Lib.hid (by simp), Lib.hid (by simp [M.val]), Lib.hid (by simp), Lib.hid (fun _ => rfl)⟩
theorem parsedD_ok (neg : Bool) (l : List UInt8) (lo hi n : Int) (h : (M.digitsOk l && !(neg && l == [48])) = true) (hf : valFits neg (M.val l) = true) (hn : valNum neg (M.val l) = n) (h1 : lo ≤ n) (h2 : n ≤ hi) : parsedD neg l lo hi = (n, 0) := by
  rw [parsedD, h, hf, hn]; simp [h1, h2]
theorem parsedD_far (neg : Bool) (l : List UInt8) (lo hi : Int) (h : (M.digitsOk l && !(neg && l == [48])) = true) (hf : valFits neg (M.val l) = true → ¬ (lo ≤ valNum neg (M.val l) ∧ valNum neg (M.val l) ≤ hi)) : parsedD neg l lo hi = (0, 2) := by
  rw [parsedD, h]
  cases hv : valFits neg (M.val l)
  · simp
  · have := hf hv
    simp
    omega

set_option maxRecDepth 100000 in
set_option maxHeartbeats 1000000 in
theorem ref_plain (s : ByteArray) (lo hi : Int) (w : World) (hs : s.size ≤ 1000) (h0 : 0 < s.size) (hm : ((s[0].toNat : Int) == 45) = false) (hz : ((s[0].toNat : Int) == 48) = false) (he : s.toList.isEmpty = false) (hf : Hid (fair0 false s)) :
    Calls Tryd.prog 9 #[.string s, .int .i64 lo, .int .i64 hi] w fun e w' => e = .returned (.tuple #[.int .i64 (parsedD false s.data.toList lo hi).1, .int .i64 (parsedD false s.data.toList lo hi).2]) ∧ w = w' := by
  go_enter Tryd.func9, Tryd.ntmps9
  go_wp2
  go_loop [10, 11, 12] (fun n far i => RL s n far i) (fun _ _ i => s.size - (intOf i).toNat)
  case atStart => exact rl_start s
  case round =>
    obtain ⟨k, v, m, f, hk, hn, hfar, hi, ha, hv, hfv, hmv⟩ := hrel
    subst hn hfar hi
    have hv0 : 0 ≤ v := by rw [← hv.out]; exact val_nonneg_of _ ha.out
    by_cases hlt : k < s.size
    · by_cases hdig : 48 ≤ (s[k].toNat : Int) ∧ (s[k].toNat : Int) ≤ 57
      · obtain ⟨hd0, hd1⟩ := hdig
        have hv2 : Hid (M.val (s.data.toList.take (k + 1)) = 10 * v + ((s[k].toNat : Int) - 48)) := by
          rw [← hv.out]; exact Lib.hid (M.val_take_succ s k hlt)
        have ha2 : Hid ((s.data.toList.take (k + 1)).all M.isDig = true) := by
          rw [allTake s k hlt, ha.out, Bool.true_and, M.isDig_iff]; exact Lib.hid (by omega)
        cases f
        · obtain rfl : m = -v := hmv.out rfl
          clear hmv
          have hle : v ≤ 9223372036854775808 := by have := hfv.out; simp at this; omega
          clear hfv
          by_cases hf : 9223372036854775808 < 10 * v + ((s[k].toNat : Int) - 48)
          · have ht := (tdiv_low v ((s[k].toNat : Int) - 48) (by omega) (by omega)).2 hf
            go_wp2
            exact ⟨⟨k + 1, _, _, true, by omega, rfl, rfl, by go_num, ha2, hv2, Lib.hid (by simp; omega), Lib.hid (by intro h; cases h)⟩, by simp [intOf]; omega⟩
          · have ht : ¬ -v < (-9223372036854775808 + ((s[k].toNat : Int) - 48)).tdiv 10 := fun h => hf ((tdiv_low v _ (by omega) (by omega)).1 h)
            go_wp2
            exact ⟨⟨k + 1, _, _, false, by omega, rfl, rfl, by go_num, ha2, hv2, Lib.hid (by simp; omega), Lib.hid (fun _ => by omega)⟩, by simp [intOf]; omega⟩
        · have hbig : 9223372036854775808 < v := by have := hfv.out; simp at this; omega
          clear hfv hmv
          go_wp2
          exact ⟨⟨k + 1, _, m, true, by omega, rfl, rfl, by go_num, ha2, hv2, Lib.hid (by simp; omega), Lib.hid (by intro h; cases h)⟩, by simp [intOf]; omega⟩
      · have hp := Lib.hid (bad_digit false s lo hi k hlt (by omega))
        clear hfv hmv
        by_cases hb : (s[k].toNat : Int) < 48
        all_goals
          go_wp2
          go_ret2
          exact ⟨ret_ints (by rw [hp.out]) (by rw [hp.out]), rfl⟩
    · obtain rfl : k = s.size := by omega
      have hv2 : Hid (M.val s.data.toList = v) := by rw [← hv.out, M.take_all]; exact Lib.hid rfl
      have hok := Lib.hid (fair_ok false s hf.out ha.out)
      cases f
      · obtain rfl : m = -v := hmv.out rfl
        clear hmv
        have hle : v ≤ 9223372036854775808 := by have := hfv.out; simp at this; omega
        clear hfv
        by_cases hm : v = 9223372036854775808
        · have hp := Lib.hid (parsedD_far false _ lo hi hok.out (fun h => by rw [hv2.out, hm] at h; simp [valFits] at h))
          have hm2 : ((-v) == -9223372036854775808) = true := by simp [hm]
          have hge : 9223372036854775808 ≤ v := by omega
          clear hm
          go_wp2
          go_ret2
          exact ⟨ret_ints (by rw [hp.out]) (by rw [hp.out]), rfl⟩
        · have hm2 : ((-v) == -9223372036854775808) = false := by simp; omega
          have hm3 : v ≤ 9223372036854775807 := by omega
          clear hm
          by_cases hr : lo ≤ v ∧ v ≤ hi
          · obtain ⟨hr1, hr2⟩ := hr
            have hp := Lib.hid (parsedD_ok false _ lo hi v hok.out (by rw [hv2.out]; simp [valFits]; omega) (by rw [hv2.out]; simp [valNum, valFits]; omega) hr1 hr2)
            go_wp2
            go_ret2
            exact ⟨ret_ints (by rw [hp.out]) (by rw [hp.out]), rfl⟩
          · have hp := Lib.hid (parsedD_far false _ lo hi hok.out (fun _ => by rw [hv2.out]; simp [valNum, valFits]; omega))
            by_cases hr1 : v < lo
            all_goals
              go_wp2
              go_ret2
              exact ⟨ret_ints (by rw [hp.out]) (by rw [hp.out]), rfl⟩
      · have hbig : 9223372036854775808 < v := by have := hfv.out; simp at this; omega
        clear hfv hmv
        have hp := Lib.hid (parsedD_far false _ lo hi hok.out (fun h => by rw [hv2.out, valFits_big false v hbig] at h; cases h))
        go_wp2
        go_ret2
        exact ⟨ret_ints (by rw [hp.out]) (by rw [hp.out]), rfl⟩

set_option maxRecDepth 100000 in
set_option maxHeartbeats 1000000 in
theorem ref_zero (s : ByteArray) (lo hi : Int) (w : World) (h0 : 0 < s.size) (h1 : s.size < 2) (hm : ((s[0].toNat : Int) == 45) = false) (hz : ((s[0].toNat : Int) == 48) = true) (he : s.toList.isEmpty = false) (hf : Hid (fair0 false s)) :
    Calls Tryd.prog 9 #[.string s, .int .i64 lo, .int .i64 hi] w fun e w' => e = .returned (.tuple #[.int .i64 (parsedD false s.data.toList lo hi).1, .int .i64 (parsedD false s.data.toList lo hi).2]) ∧ w = w' := by
  go_enter Tryd.func9, Tryd.ntmps9
  go_wp2
  go_loop [10, 11, 12] (fun n far i => RL s n far i) (fun _ _ i => s.size - (intOf i).toNat)
  case atStart => exact rl_start s
  case round =>
    obtain ⟨k, v, m, f, hk, hn, hfar, hi, ha, hv, hfv, hmv⟩ := hrel
    subst hn hfar hi
    have hv0 : 0 ≤ v := by rw [← hv.out]; exact val_nonneg_of _ ha.out
    by_cases hlt : k < s.size
    · by_cases hdig : 48 ≤ (s[k].toNat : Int) ∧ (s[k].toNat : Int) ≤ 57
      · obtain ⟨hd0, hd1⟩ := hdig
        have hv2 : Hid (M.val (s.data.toList.take (k + 1)) = 10 * v + ((s[k].toNat : Int) - 48)) := by
          rw [← hv.out]; exact Lib.hid (M.val_take_succ s k hlt)
        have ha2 : Hid ((s.data.toList.take (k + 1)).all M.isDig = true) := by
          rw [allTake s k hlt, ha.out, Bool.true_and, M.isDig_iff]; exact Lib.hid (by omega)
        cases f
        · obtain rfl : m = -v := hmv.out rfl
          clear hmv
          have hle : v ≤ 9223372036854775808 := by have := hfv.out; simp at this; omega
          clear hfv
          by_cases hf : 9223372036854775808 < 10 * v + ((s[k].toNat : Int) - 48)
          · have ht := (tdiv_low v ((s[k].toNat : Int) - 48) (by omega) (by omega)).2 hf
            go_wp2
            exact ⟨⟨k + 1, _, _, true, by omega, rfl, rfl, by go_num, ha2, hv2, Lib.hid (by simp; omega), Lib.hid (by intro h; cases h)⟩, by simp [intOf]; omega⟩
          · have ht : ¬ -v < (-9223372036854775808 + ((s[k].toNat : Int) - 48)).tdiv 10 := fun h => hf ((tdiv_low v _ (by omega) (by omega)).1 h)
            go_wp2
            exact ⟨⟨k + 1, _, _, false, by omega, rfl, rfl, by go_num, ha2, hv2, Lib.hid (by simp; omega), Lib.hid (fun _ => by omega)⟩, by simp [intOf]; omega⟩
        · have hbig : 9223372036854775808 < v := by have := hfv.out; simp at this; omega
          clear hfv hmv
          go_wp2
          exact ⟨⟨k + 1, _, m, true, by omega, rfl, rfl, by go_num, ha2, hv2, Lib.hid (by simp; omega), Lib.hid (by intro h; cases h)⟩, by simp [intOf]; omega⟩
      · have hp := Lib.hid (bad_digit false s lo hi k hlt (by omega))
        clear hfv hmv
        by_cases hb : (s[k].toNat : Int) < 48
        all_goals
          go_wp2
          go_ret2
          exact ⟨ret_ints (by rw [hp.out]) (by rw [hp.out]), rfl⟩
    · obtain rfl : k = s.size := by omega
      have hv2 : Hid (M.val s.data.toList = v) := by rw [← hv.out, M.take_all]; exact Lib.hid rfl
      have hok := Lib.hid (fair_ok false s hf.out ha.out)
      cases f
      · obtain rfl : m = -v := hmv.out rfl
        clear hmv
        have hle : v ≤ 9223372036854775808 := by have := hfv.out; simp at this; omega
        clear hfv
        by_cases hm : v = 9223372036854775808
        · have hp := Lib.hid (parsedD_far false _ lo hi hok.out (fun h => by rw [hv2.out, hm] at h; simp [valFits] at h))
          have hm2 : ((-v) == -9223372036854775808) = true := by simp [hm]
          have hge : 9223372036854775808 ≤ v := by omega
          clear hm
          go_wp2
          go_ret2
          exact ⟨ret_ints (by rw [hp.out]) (by rw [hp.out]), rfl⟩
        · have hm2 : ((-v) == -9223372036854775808) = false := by simp; omega
          have hm3 : v ≤ 9223372036854775807 := by omega
          clear hm
          by_cases hr : lo ≤ v ∧ v ≤ hi
          · obtain ⟨hr1, hr2⟩ := hr
            have hp := Lib.hid (parsedD_ok false _ lo hi v hok.out (by rw [hv2.out]; simp [valFits]; omega) (by rw [hv2.out]; simp [valNum, valFits]; omega) hr1 hr2)
            go_wp2
            go_ret2
            exact ⟨ret_ints (by rw [hp.out]) (by rw [hp.out]), rfl⟩
          · have hp := Lib.hid (parsedD_far false _ lo hi hok.out (fun _ => by rw [hv2.out]; simp [valNum, valFits]; omega))
            by_cases hr1 : v < lo
            all_goals
              go_wp2
              go_ret2
              exact ⟨ret_ints (by rw [hp.out]) (by rw [hp.out]), rfl⟩
      · have hbig : 9223372036854775808 < v := by have := hfv.out; simp at this; omega
        clear hfv hmv
        have hp := Lib.hid (parsedD_far false _ lo hi hok.out (fun h => by rw [hv2.out, valFits_big false v hbig] at h; cases h))
        go_wp2
        go_ret2
        exact ⟨ret_ints (by rw [hp.out]) (by rw [hp.out]), rfl⟩

set_option maxRecDepth 100000 in
set_option maxHeartbeats 1000000 in
theorem ref_minus (s : ByteArray) (lo hi : Int) (w : World) (hs : s.size ≤ 1000) (h0 : 0 < s.size) (hm : ((s[0].toNat : Int) == 45) = true) (d : ByteArray) (hd : s.extract 1 s.size = d) (hsz : d.size ≤ 1000) (h1 : 0 < d.size) (hz : ((d[0].toNat : Int) == 48) = false) (he : d.toList.isEmpty = false) (hf : Hid (fair0 true d)) :
    Calls Tryd.prog 9 #[.string s, .int .i64 lo, .int .i64 hi] w fun e w' => e = .returned (.tuple #[.int .i64 (parsedD true d.data.toList lo hi).1, .int .i64 (parsedD true d.data.toList lo hi).2]) ∧ w = w' := by
  go_enter Tryd.func9, Tryd.ntmps9
  go_wp2
  have HD := Lib.hid hd
  clear hd
  go_loop [10, 11, 12] (fun n far i => RL d n far i) (fun _ _ i => d.size - (intOf i).toNat)
  case atStart => exact rl_start d
  case round =>
    obtain ⟨k, v, m, f, hk, hn, hfar, hi, ha, hv, hfv, hmv⟩ := hrel
    subst hn hfar hi
    have hv0 : 0 ≤ v := by rw [← hv.out]; exact val_nonneg_of _ ha.out
    by_cases hlt : k < d.size
    · by_cases hdig : 48 ≤ (d[k].toNat : Int) ∧ (d[k].toNat : Int) ≤ 57
      · obtain ⟨hd0, hd1⟩ := hdig
        have hv2 : Hid (M.val (d.data.toList.take (k + 1)) = 10 * v + ((d[k].toNat : Int) - 48)) := by
          rw [← hv.out]; exact Lib.hid (M.val_take_succ d k hlt)
        have ha2 : Hid ((d.data.toList.take (k + 1)).all M.isDig = true) := by
          rw [allTake d k hlt, ha.out, Bool.true_and, M.isDig_iff]; exact Lib.hid (by omega)
        cases f
        · obtain rfl : m = -v := hmv.out rfl
          clear hmv
          have hle : v ≤ 9223372036854775808 := by have := hfv.out; simp at this; omega
          clear hfv
          by_cases hf : 9223372036854775808 < 10 * v + ((d[k].toNat : Int) - 48)
          · have ht := (tdiv_low v ((d[k].toNat : Int) - 48) (by omega) (by omega)).2 hf
            go_wp2
            exact ⟨⟨k + 1, _, _, true, by omega, rfl, rfl, by go_num, ha2, hv2, Lib.hid (by simp; omega), Lib.hid (by intro h; cases h)⟩, by simp [intOf]; omega⟩
          · have ht : ¬ -v < (-9223372036854775808 + ((d[k].toNat : Int) - 48)).tdiv 10 := fun h => hf ((tdiv_low v _ (by omega) (by omega)).1 h)
            go_wp2
            exact ⟨⟨k + 1, _, _, false, by omega, rfl, rfl, by go_num, ha2, hv2, Lib.hid (by simp; omega), Lib.hid (fun _ => by omega)⟩, by simp [intOf]; omega⟩
        · have hbig : 9223372036854775808 < v := by have := hfv.out; simp at this; omega
          clear hfv hmv
          go_wp2
          exact ⟨⟨k + 1, _, m, true, by omega, rfl, rfl, by go_num, ha2, hv2, Lib.hid (by simp; omega), Lib.hid (by intro h; cases h)⟩, by simp [intOf]; omega⟩
      · have hp := Lib.hid (bad_digit true d lo hi k hlt (by omega))
        clear hfv hmv
        by_cases hb : (d[k].toNat : Int) < 48
        all_goals
          go_wp2
          go_ret2
          exact ⟨ret_ints (by rw [hp.out]) (by rw [hp.out]), rfl⟩
    · obtain rfl : k = d.size := by omega
      have hv2 : Hid (M.val d.data.toList = v) := by rw [← hv.out, M.take_all]; exact Lib.hid rfl
      have hok := Lib.hid (fair_ok true d hf.out ha.out)
      cases f
      · obtain rfl : m = -v := hmv.out rfl
        clear hmv
        have hle : v ≤ 9223372036854775808 := by have := hfv.out; simp at this; omega
        clear hfv
        by_cases hr : lo ≤ -v ∧ -v ≤ hi
        · obtain ⟨hr1, hr2⟩ := hr
          have hp := Lib.hid (parsedD_ok true _ lo hi (-v) hok.out (by rw [hv2.out]; simp [valFits]; omega) (by rw [hv2.out]; simp [valNum, valFits]; omega) hr1 hr2)
          go_wp2
          go_ret2
          exact ⟨ret_ints (by rw [hp.out]) (by rw [hp.out]), rfl⟩
        · have hp := Lib.hid (parsedD_far true _ lo hi hok.out (fun _ => by rw [hv2.out]; simp [valNum, valFits]; omega))
          by_cases hr1 : -v < lo
          all_goals
            go_wp2
            go_ret2
            exact ⟨ret_ints (by rw [hp.out]) (by rw [hp.out]), rfl⟩
      · have hbig : 9223372036854775808 < v := by have := hfv.out; simp at this; omega
        clear hfv hmv
        have hp := Lib.hid (parsedD_far true _ lo hi hok.out (fun h => by rw [hv2.out, valFits_big true v hbig] at h; cases h))
        go_wp2
        go_ret2
        exact ⟨ret_ints (by rw [hp.out]) (by rw [hp.out]), rfl⟩

end Go.Proofs.YtmfofgakenpnaaaDoor
