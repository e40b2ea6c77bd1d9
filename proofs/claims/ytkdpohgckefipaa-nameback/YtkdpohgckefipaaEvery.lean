/- The contracts of every of package name, of Is and Text of the reference. -/
import Derived.Test.YtkdpohgckefipaaCut
namespace Go.Proofs.Ytkdpohgckefipaa
open Go.RowKit

theorem every_from (l : List Int) (k : Nat) (h : k < l.length) : M.everyFrom k (l.drop k) = (M.good k l[k] && M.everyFrom (k + 1) (l.drop (k + 1))) := by
  rw [List.drop_eq_getElem_cons h]
  rfl
theorem every_end (l : List Int) (k : Nat) (h : l.length ≤ k) : M.everyFrom k (l.drop k) = true := by
  rw [List.drop_eq_nil_of_le h]
  rfl
set_option maxRecDepth 100000 in
theorem every_is (s : ByteArray) (t : List Int) (b : Bool) (w : World) (ht : t.length ≤ 8) (hs : Hid (s = strOfNums t)) (hb : Hid (M.Bytes t)) (hr : Hid (M.every t = b)) :
    Calls Try.prog 24 #[.string s, .func (.func 25) #[] #[]] w fun e w' => e = .returned (.bool b) ∧ w = w' := by
  have hsz : s.size = t.length := by rw [hs.out, strOfNums_size]
  go_enter Try.func24, Try.ntmps24
  go_wp2_with fail
  go_loopw [8] (fun i wr => ∃ k : Nat, k ≤ t.length ∧ i = .int .i64 k ∧ M.everyFrom k (t.drop k) = M.every t ∧ wr = w) (fun i _ => t.length - (intOf i).toNat)
  case atStart => exact ⟨0, Nat.zero_le _, rfl, rfl, rfl⟩
  case round =>
    obtain ⟨k, hk, rfl, hev, rfl⟩ := hrel
    have HE := Lib.hid hev
    clear hev
    by_cases hlt : k < t.length
    · have hix : ∀ w, (Instr.index 9 (.string s) (.int .i64 k)).run Try.prog w = .ok (.int .u8 t[k]) w := by rw [hs.out]; exact index_str t hb.out k hlt
      have HF := Lib.hid (every_from t k hlt)
      generalize t[k] = c at hix HF
      obtain ⟨g, hg⟩ : ∃ g, M.good k c = g := ⟨_, rfl⟩
      have HG := Lib.hid hg
      clear hg
      go_wp2_with fail
      refine (good_is k c g _ HG).mono ?_
      rintro e w' ⟨rfl, rfl⟩
      cases g with
      | true =>
        go_wp2_with fail
        go_roundw
        case rel => exact ⟨k + 1, by omega, by go_num, by rw [← HE.out, HF.out, HG.out]; rfl, trivial⟩
        case measure => simp [intOf]; omega
      | false =>
        go_wp2_with fail
        go_ret
        exact ⟨ret_bool (by rw [← hr.out, ← HE.out, HF.out, HG.out]; rfl), rfl⟩
    · obtain rfl : k = t.length := by omega
      go_wp2_with fail
      go_ret
      exact ⟨ret_bool (by rw [← hr.out, ← HE.out, every_end _ _ (Nat.le_refl _)]), rfl⟩
theorem all_from (l : List Int) (k : Nat) (h : k < l.length) : (l.drop k).all M.other = (M.other l[k] && (l.drop (k + 1)).all M.other) := by
  rw [List.drop_eq_getElem_cons h, List.all_cons]
theorem head_is : ∀ (t : List Int) (h : 0 < t.length), t.headD 0 = t[0]
  | _ :: _, _ => rfl
set_option maxRecDepth 100000 in
theorem isN_is (s : ByteArray) (t : List Int) (b : Bool) (w : World) (ht : t.length ≤ 100) (hs : Hid (s = strOfNums t)) (hb : Hid (M.Bytes t)) (hr : Hid (M.isN t = b)) :
    Calls Try.prog 21 #[.string s] w fun e w' => e = .returned (.bool b) ∧ w = w' := by
  have hsz : s.size = t.length := by rw [hs.out, strOfNums_size]
  by_cases h1 : t.length < 1
  · have H := Lib.hid (show M.isN t = false by unfold M.isN; simp [show ¬ 1 ≤ t.length by omega])
    have k1 : (t.length : Int) < 1 := by omega
    go_enter Try.func21, Try.ntmps21
    go_wp2_with fail
    go_ret
    exact ⟨ret_bool (H.out.symm.trans hr.out), rfl⟩
  · have k1 : ¬ (t.length : Int) < 1 := by omega
    by_cases h8 : 8 < t.length
    · have H := Lib.hid (show M.isN t = false by unfold M.isN; simp [show ¬ t.length ≤ 8 by omega])
      have k2 : (8 : Int) < (t.length : Int) := by omega
      go_enter Try.func21, Try.ntmps21
      go_wp2_with fail
      go_ret
      exact ⟨ret_bool (H.out.symm.trans hr.out), rfl⟩
    · have k2 : ¬ (8 : Int) < (t.length : Int) := by omega
      have hix0 : ∀ w, (Instr.index 9 (.string s) (.int .i64 0)).run Try.prog w = .ok (.int .u8 t[0]) w := fun w => by have := index_str t hb.out 0 (by omega) w; rw [← hs.out] at this; exact this
      have H := Lib.hid (show M.isN t = (M.letter t[0] && t.all M.other) by
        unfold M.isN
        rw [head_is t (by omega)]
        have e1 : decide (1 ≤ t.length) = true := by simp; omega
        have e2 : decide (t.length ≤ 8) = true := by simp; omega
        rw [e1, e2]
        rfl)
      generalize t[0] = c0 at hix0 H
      obtain ⟨g, hg⟩ : ∃ g, M.letter c0 = g := ⟨_, rfl⟩
      have HG := Lib.hid hg
      clear hg
      go_enter Try.func21, Try.ntmps21
      go_wp2_with fail
      refine (letter_is c0 g _ HG).mono ?_
      rintro e w' ⟨rfl, rfl⟩
      cases g with
      | false =>
        go_wp2_with fail
        go_ret
        exact ⟨ret_bool (by rw [← hr.out, H.out, HG.out]; rfl), rfl⟩
      | true =>
        go_wp2_with fail
        clear hix0
        go_loopw [3] (fun i wr => ∃ k : Nat, k ≤ t.length ∧ i = .int .i64 k ∧ (t.drop k).all M.other = t.all M.other ∧ wr = w) (fun i _ => t.length - (intOf i).toNat)
        case atStart => exact ⟨0, Nat.zero_le _, rfl, rfl, rfl⟩
        case round =>
          obtain ⟨k, hk, rfl, hev, rfl⟩ := hrel
          have HE := Lib.hid hev
          clear hev
          by_cases hlt : k < t.length
          · have hix : ∀ w, (Instr.index 9 (.string s) (.int .i64 k)).run Try.prog w = .ok (.int .u8 t[k]) w := by rw [hs.out]; exact index_str t hb.out k hlt
            have HF := Lib.hid (all_from t k hlt)
            generalize t[k] = c at hix HF
            obtain ⟨o, ho⟩ : ∃ o, M.other c = o := ⟨_, rfl⟩
            have HO := Lib.hid ho
            clear ho
            go_wp2_with fail
            refine (other_is c o _ HO).mono ?_
            rintro e w' ⟨rfl, rfl⟩
            cases o with
            | true =>
              go_wp2_with fail
              go_roundw
              case rel => exact ⟨k + 1, by omega, by go_num, by rw [← HE.out, HF.out, HO.out]; rfl, trivial⟩
              case measure => simp [intOf]; omega
            | false =>
              go_wp2_with fail
              go_ret
              exact ⟨ret_bool (by rw [← hr.out, H.out, HG.out, ← HE.out, HF.out, HO.out]; rfl), rfl⟩
          · obtain rfl : k = t.length := by omega
            go_wp2_with fail
            go_ret
            exact ⟨ret_bool (by rw [← hr.out, H.out, HG.out, ← HE.out, List.drop_length]; rfl), rfl⟩
end Go.Proofs.Ytkdpohgckefipaa
