/- The contract of the reference's Parse, for every text of at most 1000 bytes: what parsed says. -/
import Derived.Test.YtmfofgakenpnaaaDoorRefParse
namespace Go.Proofs.YtmfofgakenpnaaaDoor
open Go.RowKit

theorem nonempty_of (d : ByteArray) (h : 0 < d.size) : d.toList.isEmpty = false := by
  rw [ByteArray.toList_eq]; cases hl : d.data.toList with
  | nil => have := size_len d; rw [hl] at this; simp at this; omega
  | cons => rfl

set_option maxRecDepth 100000 in
set_option maxHeartbeats 400000 in
theorem ref_empty (s : ByteArray) (lo hi : Int) (w : World) (h0 : ¬ 0 < s.size) (he : s.toList.isEmpty = true) :
    Calls Tryd.prog 9 #[.string s, .int .i64 lo, .int .i64 hi] w fun e w' => e = .returned (.tuple #[.int .i64 0, .int .i64 3]) ∧ w = w' := by
  go_enter Tryd.func9, Tryd.ntmps9
  go_wp2
  go_ret2
  exact ⟨rfl, rfl⟩
set_option maxRecDepth 100000 in
set_option maxHeartbeats 400000 in
theorem ref_lead (s : ByteArray) (lo hi : Int) (w : World) (hs : s.size ≤ 1000) (h0 : 1 < s.size) (hm : ((s[0].toNat : Int) == 45) = false) (hz : ((s[0].toNat : Int) == 48) = true) (he : s.toList.isEmpty = false) :
    Calls Tryd.prog 9 #[.string s, .int .i64 lo, .int .i64 hi] w fun e w' => e = .returned (.tuple #[.int .i64 0, .int .i64 3]) ∧ w = w' := by
  have h00 : 0 < s.size := by omega
  go_enter Tryd.func9, Tryd.ntmps9
  go_wp2
  go_ret2
  exact ⟨rfl, rfl⟩
set_option maxRecDepth 100000 in
set_option maxHeartbeats 400000 in
theorem ref_dash (s : ByteArray) (lo hi : Int) (w : World) (hs : s.size ≤ 1000) (h0 : 0 < s.size) (hm : ((s[0].toNat : Int) == 45) = true) (d : ByteArray) (hd : s.extract 1 s.size = d) (he : d.toList.isEmpty = true) :
    Calls Tryd.prog 9 #[.string s, .int .i64 lo, .int .i64 hi] w fun e w' => e = .returned (.tuple #[.int .i64 0, .int .i64 3]) ∧ w = w' := by
  go_enter Tryd.func9, Tryd.ntmps9
  go_wp2
  go_ret2
  exact ⟨rfl, rfl⟩
set_option maxRecDepth 100000 in
set_option maxHeartbeats 400000 in
theorem ref_dash0 (s : ByteArray) (lo hi : Int) (w : World) (hs : s.size ≤ 1000) (h0 : 0 < s.size) (hm : ((s[0].toNat : Int) == 45) = true) (d : ByteArray) (hd : s.extract 1 s.size = d) (hsz : d.size ≤ 1000) (h1 : 0 < d.size) (hz : ((d[0].toNat : Int) == 48) = true) (he : d.toList.isEmpty = false) :
    Calls Tryd.prog 9 #[.string s, .int .i64 lo, .int .i64 hi] w fun e w' => e = .returned (.tuple #[.int .i64 0, .int .i64 3]) ∧ w = w' := by
  by_cases h2 : 1 < d.size
  all_goals
    go_enter Tryd.func9, Tryd.ntmps9
    go_wp2
    go_ret2
    exact ⟨rfl, rfl⟩

theorem toNat_inj' {a b : UInt8} (h : a.toNat = b.toNat) : a = b := UInt8.toNat_inj.1 h
theorem prefix_head (s : ByteArray) (h : 0 < s.size) : Lib.hasPrefix s.data.toList [45] = ((s[0].toNat : Int) == 45) := by
  have hh := head_at s h
  cases hl : s.data.toList with
  | nil => rw [hl] at hh; simp at hh
  | cons c r =>
    rw [hl] at hh
    have hc : c = s[0] := Option.some.inj hh
    rw [Lib.hasPrefix, Bool.eq_iff_iff]
    simp only [List.isPrefixOf, Bool.and_true]
    rw [hc]
    constructor
    · intro h; rw [← beq_iff_eq.1 h]; rfl
    · intro h; rw [beq_iff_eq]; apply toNat_inj'
      have := beq_iff_eq.1 h
      show 45 = _
      omega
theorem extract_list (s : ByteArray) : (s.extract 1 s.size).data.toList = s.data.toList.drop 1 := by
  rw [ByteArray.data_extract, Array.toList_extract]
  rw [List.extract_eq_take_drop, List.take_of_length_le]
  rw [List.length_drop, size_len]; omega

theorem refParse_any (s : ByteArray) (lo hi : Int) (w : World) (hs : s.size ≤ 1000) :
    Calls Tryd.prog 9 #[.string s, .int .i64 lo, .int .i64 hi] w fun e w' => e = .returned (.tuple #[.int .i64 (parsed s.data.toList lo hi).1, .int .i64 (parsed s.data.toList lo hi).2]) ∧ w = w' := by
  by_cases h0 : 0 < s.size
  · have hp := prefix_head s h0
    cases hm : ((s[0].toNat : Int) == 45)
    · rw [hm] at hp
      have e : parsed s.data.toList lo hi = parsedD false s.data.toList lo hi := by
        rw [parsed, Lib.trimPrefix, hp]; simp
      rw [e]
      cases hz : ((s[0].toNat : Int) == 48)
      · refine ref_plain s lo hi w hs h0 hm hz (nonempty_of s h0) (Lib.hid ⟨h0, fun _ h => ?_⟩)
        have := beq_eq_false_iff_ne.1 hz; omega
      · by_cases h1 : 1 < s.size
        · have e2 : parsedD false s.data.toList lo hi = (0, 3) := by
            simp [parsedD, dok_no0 s h1 hz]
          rw [e2]
          exact ref_lead s lo hi w hs h1 hm hz (nonempty_of s h0)
        · exact ref_zero s lo hi w h0 (by omega) hm hz (nonempty_of s h0) (Lib.hid ⟨h0, fun _ _ => ⟨by omega, rfl⟩⟩)
    · rw [hm] at hp
      have el := extract_list s
      obtain ⟨d, hd⟩ : ∃ d, s.extract 1 s.size = d := ⟨_, rfl⟩
      rw [hd] at el
      have e : parsed s.data.toList lo hi = parsedD true d.data.toList lo hi := by
        rw [parsed, Lib.trimPrefix, hp, el]; rfl
      have hsz : d.size ≤ 1000 := by
        rw [← size_len, el, List.length_drop, size_len]; omega
      rw [e]
      by_cases h1 : 0 < d.size
      · cases hz : ((d[0].toNat : Int) == 48)
        · refine ref_minus s lo hi w hs h0 hm d hd hsz h1 hz (nonempty_of d h1) (Lib.hid ⟨h1, fun _ h => ?_⟩)
          have := beq_eq_false_iff_ne.1 hz; omega
        · have e2 : parsedD true d.data.toList lo hi = (0, 3) := by
            by_cases h2 : 1 < d.size
            · simp [parsedD, dok_no0 d h2 hz]
            · have hh := head_at d h1
              have hl := size_len d
              have e3 : d.data.toList = [48] := by
                cases hd2 : d.data.toList with
                | nil => rw [hd2] at hh; simp at hh
                | cons c r =>
                  rw [hd2] at hh hl
                  have hc : c = d[0] := Option.some.inj hh
                  have hr : r = [] := by
                    apply List.eq_nil_of_length_eq_zero
                    simp at hl; omega
                  have hn : d[0].toNat = 48 := by have := beq_iff_eq.1 hz; omega
                  rw [hr, hc, toNat_inj' (b := 48) hn]
              rw [parsedD, e3]; simp
          rw [e2]
          exact ref_dash0 s lo hi w hs h0 hm d hd hsz h1 hz (nonempty_of d h1)
      · have e3 : d.data.toList = [] := by
          apply List.eq_nil_of_length_eq_zero; rw [size_len]; omega
        have e2 : parsedD true d.data.toList lo hi = (0, 3) := by rw [e3]; rfl
        rw [e2]
        exact ref_dash s lo hi w hs h0 hm d hd (by rw [ByteArray.toList_eq, e3]; rfl)
  · have e3 : s.data.toList = [] := by
      apply List.eq_nil_of_length_eq_zero; rw [size_len]; omega
    have e2 : parsed s.data.toList lo hi = (0, 3) := by rw [e3]; rfl
    rw [e2]
    exact ref_empty s lo hi w h0 (by rw [ByteArray.toList_eq, e3]; rfl)
end Go.Proofs.YtmfofgakenpnaaaDoor
