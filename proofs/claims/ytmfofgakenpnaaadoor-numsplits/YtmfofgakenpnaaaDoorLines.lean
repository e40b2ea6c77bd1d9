/- The contract of cut of package num as Lines uses it; the contracts of Words and Lines. -/
import Derived.Test.YtmfofgakenpnaaaDoorCut
namespace Go.Proofs.YtmfofgakenpnaaaDoor
open Go.RowKit

set_option maxRecDepth 100000 in
set_option maxHeartbeats 1000000 in
theorem cutLines (s : ByteArray) (w : World) (hs : s.size ≤ 100000) : Calls Tryd.prog 28 #[.string s, .func (.func 30) #[] #[], .func (.func 31) #[] #[]] w fun e w' =>
    ∃ v, e = .returned v ∧ w'.ownsRow w.heap.size 9 1 v (M.cutAll M.newline M.isLine s).length ((M.cutAll M.newline M.isLine s).map Value.string) ∧ Below w.heap.size w w' := by
  obtain ⟨i0, hi, hz0, hz1, hz2⟩ := info_parts info9
  go_enter Tryd.func28, Tryd.ntmps28
  go_wp2
  go_loopw [7, 8, 14] (fun v st i wr => CR M.newline M.isLine s w v st i wr) (fun _ _ i _ => s.size - (intOf i).toNat)
  case atStart => exact ⟨0, 0, [], Nat.zero_le _, rfl, rfl, Nat.le_refl _, Nat.le_refl _, Lib.hid rfl, World.ownsRow_nil _ _ _ _, Below.refl _ _⟩
  case round =>
    obtain ⟨k, a, acc, hk, rfl, rfl, hak, hlk, hc, hown, hbel⟩ := hrel
    by_cases hlt : k < s.size
    · cases hsep0 : M.newline (s[k].toNat : Int)
      · have hsep := Lib.hid hsep0
        have hnext := Lib.hid ((M.cut_miss _ M.isLine s k hlt hsep0).trans hc.out)
        clear hsep0
        go_wp2_with ((go_at_call 30; refine (newline_is _ _ false hsep).mono ?_; rintro e w' ⟨rfl, rfl⟩))
        go_roundw
        case rel => exact ⟨k + 1, a, acc, by omega, by go_num, rfl, by omega, by omega, hnext, hown, hbel⟩
        case measure => simp [intOf]; omega
      · have hsep := Lib.hid hsep0
        cases hkp0 : M.isLine (s.extract a k) false
        · have hkp := Lib.hid hkp0
          have hnext := Lib.hid (M.cut_drop _ M.isLine s k a acc hlt hsep0 hc.out hkp0)
          clear hsep0 hkp0
          go_wp2_with (first | (go_at_call 30; refine (newline_is _ _ true hsep).mono ?_; rintro e w' ⟨rfl, rfl⟩) | (go_at_call 31; refine (isLine_is _ _ _ false hkp).mono ?_; rintro e w' ⟨rfl, rfl⟩))
          go_roundw
          case rel => exact ⟨k + 1, k + 1, acc, by omega, by go_num, by go_num, by omega, by omega, hnext, hown, hbel⟩
          case measure => simp [intOf]; omega
        · have hkp := Lib.hid hkp0
          have hnext := Lib.hid (M.cut_hit _ M.isLine s k a acc hlt hsep0 hc.out hkp0)
          clear hsep0 hkp0
          have hsz := hbel.size
          go_wp2_with (first | (go_at_call 30; refine (newline_is _ _ true hsep).mono ?_; rintro e w' ⟨rfl, rfl⟩) | (go_at_call 31; refine (isLine_is _ _ _ true hkp).mono ?_; rintro e w' ⟨rfl, rfl⟩) | (at_builtin; refine app_str wr rfl (.tmp 30) (.tmp 32) rfl w.heap.size _ acc _ rfl hown rfl (by omega) hsz ?_; intro v' w1 hown1 hbel1))
          go_roundw
          case rel => exact ⟨k + 1, k + 1, acc ++ [s.extract a k], by omega, by go_num, by go_num, by omega, by simp; omega, hnext, hown1, hbel.trans hbel1⟩
          case measure => simp [intOf]; omega
    · obtain rfl : k = s.size := by omega
      have hsz := hbel.size
      cases hkp0 : M.isLine (s.extract a s.size) true
      · have hkp := Lib.hid hkp0
        have hnext := Lib.hid (M.cut_last _ M.isLine s a acc hc.out hkp0)
        clear hkp0
        go_wp2_with ((go_at_call 31; refine (isLine_is _ _ _ false hkp).mono ?_; rintro e w' ⟨rfl, rfl⟩))
        go_ret
        exact ⟨_, rfl, by rw [hnext.out]; exact hown, hbel⟩
      · have hkp := Lib.hid hkp0
        have hnext := Lib.hid (M.cut_end _ M.isLine s a acc hc.out hkp0)
        clear hkp0
        go_wp2_with (first | (go_at_call 31; refine (isLine_is _ _ _ true hkp).mono ?_; rintro e w' ⟨rfl, rfl⟩) | (at_builtin; refine app_str wr rfl (.tmp 43) (.tmp 45) rfl w.heap.size _ acc _ rfl hown rfl (by omega) hsz ?_; intro v' w1 hown1 hbel1))
        go_ret
        exact ⟨_, rfl, by rw [hnext.out]; exact hown1, hbel.trans hbel1⟩

/-- v is a row of the strings l, made since w, in the world w'; nothing that w had has changed. -/
def Strs (w w' : World) (v : Value) (l : List ByteArray) : Prop := w'.ownsRow w.heap.size 9 1 v l.length (l.map Value.string) ∧ Below w.heap.size w w'
def GivesStrs (w : World) (l : List ByteArray) (e : Ending) (w' : World) : Prop := ∃ v, e = .returned v ∧ Strs w w' v l

set_option maxHeartbeats 400000 in
theorem words_any (s : ByteArray) (w : World) (hs : s.size ≤ 100000) : Calls Tryd.prog 13 #[.string s] w (GivesStrs w (M.wordsOf s)) := by
  go_enter Tryd.func13, Tryd.ntmps13
  go_wp2_with fail
  refine (cutWords s _ hs).mono ?_
  rintro e w' ⟨v, rfl, hown, hbel⟩
  go_wp2_with fail
  go_ret
  exact ⟨v, rfl, hown, hbel⟩
set_option maxHeartbeats 400000 in
theorem lines_any (s : ByteArray) (w : World) (hs : s.size ≤ 100000) : Calls Tryd.prog 15 #[.string s] w (GivesStrs w (M.linesOf s)) := by
  go_enter Tryd.func15, Tryd.ntmps15
  go_wp2_with fail
  refine (cutLines s _ hs).mono ?_
  rintro e w' ⟨v, rfl, hown, hbel⟩
  go_wp2_with fail
  go_ret
  exact ⟨v, rfl, hown, hbel⟩
end Go.Proofs.YtmfofgakenpnaaaDoor
