/- The contracts of areDigits, value, Parse of package num. -/
import Derived.Test.YtmfofgakenpnaaaDoorProg
import Derived.Test.YtmfofgakenpnaaaDoorMath
import Derived.WalkKit
import Derived.WalkSpells
import Derived.WalkLawsBesides
import Derived.ScopeJumps
import Derived.Lib.Hide
namespace Go.Proofs.YtmfofgakenpnaaaDoor
open Go.RowKit

theorem allTake (s : ByteArray) (k : Nat) (h : k < s.size) : (s.data.toList.take (k + 1)).all M.isDig = ((s.data.toList.take k).all M.isDig && M.isDig s[k]) := by
  rw [M.take_snoc s k h, List.all_append]; simp


theorem dok_no0 (s : ByteArray) (h : 1 < s.size) (h2 : ((s[0].toNat : Int) == 48) = true) : M.digitsOk s.data.toList = false := by
  have e : s.data.toList.head? = some s[0] := by
    rw [List.head?_eq_getElem?, List.getElem?_eq_getElem (by simpa using (by omega : 0 < s.size))]; rfl
  have e2 : s[0] = 48 := by
    apply UInt8.toNat_inj.1
    have := beq_iff_eq.1 h2
    show s[0].toNat = 48
    omega
  have e3 : 1 < s.data.toList.length := by simpa using h
  simp only [M.digitsOk, e, e2, e3]
  simp
theorem dok_bad (s : ByteArray) (k : Nat) (h : k < s.size) (h2 : (s[k].toNat : Int) < 48 ∨ 57 < (s[k].toNat : Int)) : M.digitsOk s.data.toList = false := by
  cases hd : s.data.toList.all M.isDig with
  | false => simp [M.digitsOk, hd]
  | true => have := M.isDig_at s hd k h; omega
theorem bytes_list (s : ByteArray) : s.toList = s.data.toList := ByteArray.toList_eq s
theorem dok_end (s : ByteArray) (h : (s.data.toList.take s.size).all M.isDig = true) (h2 : 1 < s.size → ∀ h0 : 0 < s.size, ((s[0].toNat : Int) == 48) = false) : M.digitsOk s.data.toList = !s.toList.isEmpty := by
  rw [bytes_list s]
  rw [M.take_all] at h
  by_cases h1 : 1 < s.size
  · have e : s.data.toList.head? = some s[0] := by
      rw [List.head?_eq_getElem?, List.getElem?_eq_getElem (by simpa using (by omega : 0 < s.size))]; rfl
    have e2 : ¬ s[0] = 48 := by
      intro he
      have := beq_eq_false_iff_ne.1 (h2 h1 (by omega))
      rw [he] at this
      exact this rfl
    simp [M.digitsOk, h, e, e2]
  · have e3 : decide (1 < s.data.toList.length) = false := by
      rw [decide_eq_false_iff_not, Array.length_toList]; exact h1
    rw [M.digitsOk, h, e3]; simp

theorem ret_bool {a b : Bool} (h : a = b) : Ending.returned (.bool a) = .returned (.bool b) := by rw [h]

set_option maxHeartbeats 400000 in
theorem areDigits_any (s : ByteArray) (w : World) (hs : s.size ≤ maxLen) :
    Calls Tryd.prog 23 #[.string s] w fun e w' => e = .returned (.bool (M.digitsOk s.data.toList)) ∧ w = w' := by
  unfold maxLen at hs
  by_cases hz : 1 < s.size ∧ ∃ h0 : 0 < s.size, ((s[0].toNat : Int) == 48) = true
  · obtain ⟨h1, h0, h2⟩ := hz
    have hd := Lib.hid (dok_no0 s h1 h2)
    go_enter Tryd.func23, Tryd.ntmps23
    go_wp2
    go_ret
    exact ⟨ret_bool hd.out.symm, rfl⟩
  · have hz2 := Lib.hid (show 1 < s.size → ∀ h0 : 0 < s.size, ((s[0].toNat : Int) == 48) = false by
      intro h1 h0
      cases hb : ((s[0].toNat : Int) == 48) with
      | false => rfl
      | true => exact absurd ⟨h1, h0, hb⟩ hz)
    clear hz
    by_cases h1 : 1 < s.size
    · have h2 := hz2.out h1 (by omega)
      go_enter Tryd.func23, Tryd.ntmps23
      go_wp2
      go_loop [14] (fun i => ∃ k : Nat, k ≤ s.size ∧ i = .int .i64 k ∧ (s.data.toList.take k).all M.isDig = true) (fun i => s.size - (intOf i).toNat)
      case atStart => exact ⟨0, Nat.zero_le _, rfl, by simp⟩
      case round =>
        obtain ⟨k, hk, rfl, ha⟩ := hrel
        have HA := Lib.hid ha
        clear ha
        by_cases hlt : k < s.size
        · have ht := Lib.hid (allTake s k hlt)
          have hb := Lib.hid (dok_bad s k hlt)
          go_wp2
          · go_ret
            exact ⟨ret_bool (hb.out (by assumption)).symm, rfl⟩
          · exact ⟨⟨k + 1, by omega, by go_num, by rw [ht.out, HA.out, Bool.true_and, M.isDig_iff]; omega⟩, by simp [intOf]; omega⟩
          · go_ret
            exact ⟨ret_bool (hb.out (Or.inl (by assumption))).symm, rfl⟩
        · obtain rfl : k = s.size := by omega
          have he := Lib.hid (dok_end s HA.out hz2.out)
          go_wp2
          go_ret
          exact ⟨ret_bool he.out.symm, rfl⟩
    · go_enter Tryd.func23, Tryd.ntmps23
      go_wp2
      go_loop [14] (fun i => ∃ k : Nat, k ≤ s.size ∧ i = .int .i64 k ∧ (s.data.toList.take k).all M.isDig = true) (fun i => s.size - (intOf i).toNat)
      case atStart => exact ⟨0, Nat.zero_le _, rfl, by simp⟩
      case round =>
        obtain ⟨k, hk, rfl, ha⟩ := hrel
        have HA := Lib.hid ha
        clear ha
        by_cases hlt : k < s.size
        · have ht := Lib.hid (allTake s k hlt)
          have hb := Lib.hid (dok_bad s k hlt)
          go_wp2
          · go_ret
            exact ⟨ret_bool (hb.out (by assumption)).symm, rfl⟩
          · exact ⟨⟨k + 1, by omega, by go_num, by rw [ht.out, HA.out, Bool.true_and, M.isDig_iff]; omega⟩, by simp [intOf]; omega⟩
          · go_ret
            exact ⟨ret_bool (hb.out (Or.inl (by assumption))).symm, rfl⟩
        · obtain rfl : k = s.size := by omega
          have he := Lib.hid (dok_end s HA.out hz2.out)
          go_wp2
          go_ret
          exact ⟨ret_bool he.out.symm, rfl⟩
end Go.Proofs.YtmfofgakenpnaaaDoor
