/- The contract of cut of package num, and of Words and Lines over it. -/
import Derived.Test.YtmfofgakenpnaaaDoorParse
import Derived.Test.YtmfofgakenpnaaaDoorCutMath
namespace Go.Proofs.YtmfofgakenpnaaaDoor
open Go.RowKit

theorem info9 : (Tryd.prog.info? 9).map (fun i => (i.zero, i.size, i.bytes)) = some (some (.string ⟨#[]⟩), 1, 16) := by kernel_rfl
theorem empty_dec (p : ByteArray) : (!p.toList.isEmpty) = decide (0 < p.size) := by
  rw [ByteArray.toList_eq, Bool.eq_iff_iff, decide_eq_true_iff]
  have h : p.data.toList.length = p.size := Array.length_toList
  cases hl : p.data.toList with
  | nil => rw [hl] at h; rw [← h]; simp
  | cons c r => rw [hl] at h; rw [← h]; simp
theorem blank_is (c : Int) (w : World) (b : Bool) (hb : Hid (M.blank c = b)) : Calls Tryd.prog 26 #[.int .u8 c] w fun e w' => e = .returned (.bool b) ∧ w = w' := by
  cases h : (c == 32)
  · cases h9 : (c == 9)
    all_goals
      have hx : Hid (M.blank c = _) := Lib.hid (by rw [M.blank, h, h9])
      go_enter Tryd.func26, Tryd.ntmps26
      go_wp2
      go_ret
      exact ⟨ret_bool (hx.out.symm.trans hb.out), rfl⟩
  · have hx : Hid (M.blank c = true) := Lib.hid (by rw [M.blank, h]; rfl)
    go_enter Tryd.func26, Tryd.ntmps26
    go_wp2
    go_ret
    exact ⟨ret_bool (hx.out.symm.trans hb.out), rfl⟩
theorem filled_is (p : ByteArray) (l : Bool) (w : World) (b : Bool) (hb : Hid (M.filled p l = b)) : Calls Tryd.prog 27 #[.string p, .bool l] w fun e w' => e = .returned (.bool b) ∧ w = w' := by
  go_enter Tryd.func27, Tryd.ntmps27
  go_wp2
  go_ret
  exact ⟨ret_bool ((empty_dec p).trans hb.out), rfl⟩
theorem newline_is (c : Int) (w : World) (b : Bool) (hb : Hid (M.newline c = b)) : Calls Tryd.prog 30 #[.int .u8 c] w fun e w' => e = .returned (.bool b) ∧ w = w' := by
  go_enter Tryd.func30, Tryd.ntmps30
  go_wp2
  go_ret
  exact ⟨ret_bool hb.out, rfl⟩
theorem isLine_is (p : ByteArray) (l : Bool) (w : World) (b : Bool) (hb : Hid (M.isLine p l = b)) : Calls Tryd.prog 31 #[.string p, .bool l] w fun e w' => e = .returned (.bool b) ∧ w = w' := by
  have hd := Lib.hid (empty_dec p)
  cases h : p.toList.isEmpty
  · have hx : Hid (M.isLine p l = true) := Lib.hid (by rw [M.isLine, ← hd.out, h]; rfl)
    go_enter Tryd.func31, Tryd.ntmps31
    go_wp2
    go_ret
    exact ⟨ret_bool (hx.out.symm.trans hb.out), rfl⟩
  · have hx : Hid (M.isLine p l = !l) := Lib.hid (by rw [M.isLine, ← hd.out, h]; rfl)
    cases l
    all_goals
      go_enter Tryd.func31, Tryd.ntmps31
      go_wp2
      go_ret
      exact ⟨ret_bool (hx.out.symm.trans hb.out), rfl⟩
/-- What holds at each round's head of cut. -/
def CR (sep : Int → Bool) (keep : ByteArray → Bool → Bool) (s : ByteArray) (w : World) (v st i : Value) (wr : World) : Prop :=
  ∃ (k a : Nat) (acc : List ByteArray), k ≤ s.size ∧ i = .int .i64 k ∧ st = .int .i64 a ∧ a ≤ k ∧ acc.length ≤ k ∧ Hid (M.cutSt sep keep s k = (a, acc)) ∧ wr.ownsRow w.heap.size 9 1 v acc.length (acc.map Value.string) ∧ Below w.heap.size w wr

/-- append of one string to a row of strings of the call's own. -/
theorem app_str {ops : Array Oper} {rest : List Oper} {o : Oper} {a : Act} {Q : Exit → Act → World → Prop} (w : World) (hgd : o.guard = none) (s x : Operand)
    (ho : o.op = .call { callee := .builtin .append, args := #[s, x], argTypes := #[30, 30] }) (base : Nat) (v : Value) (acc : List ByteArray) (p : ByteArray)
    (hs : a.eval s = v) (hown : w.ownsRow base 9 1 v acc.length (acc.map Value.string)) (hx : a.eval x = .slice (some ⟨w.heap.size, 0, none⟩) 1 1) (hn : acc.length ≤ 1000000) (hbase : base ≤ w.heap.size)
    (h : ∀ v' w', w'.ownsRow base 9 1 v' (acc ++ [p]).length ((acc ++ [p]).map Value.string) → Below base w w' → wpList Tryd.prog ops Q rest (a.put o.dst v') w') :
    wpList Tryd.prog ops Q (o :: rest) a (w.alloc (.cells #[.string p] 9)) := by
  obtain ⟨i0, hi, hz0, hz1, hz2⟩ := info_parts info9
  refine wpList_append_own _ hgd s x 30 ho base 9 i0 (.string ⟨#[]⟩) 1 16 Tryd.underlying30 hi hz0 hz1 hz2 rfl (by decide) v _ _ hs (hown.alloc _) ⟨w.heap.size, 0, none⟩ 1 1 [.string p] hx rfl (cell_one_new _ _ _) ?_ ?_ ?_ ?_ ?_
  · intro u hu; simp at hu; subst hu; rfl
  · unfold maxLen; omega
  · omega
  · simp; omega
  · intro v' w' h1 h2 _
    refine h v' w' (by simpa using h1) ?_
    exact ((Below.refl base w).alloc hbase _).grown h2 (by simp; omega) (fun k hk => (hown.lt k hk).1)

set_option maxRecDepth 100000 in
set_option maxHeartbeats 1000000 in
theorem cutWords (s : ByteArray) (w : World) (hs : s.size ≤ 100000) : Calls Tryd.prog 28 #[.string s, .func (.func 26) #[] #[], .func (.func 27) #[] #[]] w fun e w' =>
    ∃ v, e = .returned v ∧ w'.ownsRow w.heap.size 9 1 v (M.cutAll M.blank M.filled s).length ((M.cutAll M.blank M.filled s).map Value.string) ∧ Below w.heap.size w w' := by
  obtain ⟨i0, hi, hz0, hz1, hz2⟩ := info_parts info9
  go_enter Tryd.func28, Tryd.ntmps28
  go_wp2
  go_loopw [7, 8, 14] (fun v st i wr => CR M.blank M.filled s w v st i wr) (fun _ _ i _ => s.size - (intOf i).toNat)
  case atStart => exact ⟨0, 0, [], Nat.zero_le _, rfl, rfl, Nat.le_refl _, Nat.le_refl _, Lib.hid rfl, World.ownsRow_nil _ _ _ _, Below.refl _ _⟩
  case round =>
    obtain ⟨k, a, acc, hk, rfl, rfl, hak, hlk, hc, hown, hbel⟩ := hrel
    by_cases hlt : k < s.size
    · cases hsep0 : M.blank (s[k].toNat : Int)
      · have hsep := Lib.hid hsep0
        have hnext := Lib.hid ((M.cut_miss _ M.filled s k hlt hsep0).trans hc.out)
        clear hsep0
        go_wp2_with ((go_at_call 26; refine (blank_is _ _ false hsep).mono ?_; rintro e w' ⟨rfl, rfl⟩))
        go_roundw
        case rel => exact ⟨k + 1, a, acc, by omega, by go_num, rfl, by omega, by omega, hnext, hown, hbel⟩
        case measure => simp [intOf]; omega
      · have hsep := Lib.hid hsep0
        cases hkp0 : M.filled (s.extract a k) false
        · have hkp := Lib.hid hkp0
          have hnext := Lib.hid (M.cut_drop _ M.filled s k a acc hlt hsep0 hc.out hkp0)
          clear hsep0 hkp0
          go_wp2_with (first | (go_at_call 26; refine (blank_is _ _ true hsep).mono ?_; rintro e w' ⟨rfl, rfl⟩) | (go_at_call 27; refine (filled_is _ _ _ false hkp).mono ?_; rintro e w' ⟨rfl, rfl⟩))
          go_roundw
          case rel => exact ⟨k + 1, k + 1, acc, by omega, by go_num, by go_num, by omega, by omega, hnext, hown, hbel⟩
          case measure => simp [intOf]; omega
        · have hkp := Lib.hid hkp0
          have hnext := Lib.hid (M.cut_hit _ M.filled s k a acc hlt hsep0 hc.out hkp0)
          clear hsep0 hkp0
          have hsz := hbel.size
          go_wp2_with (first | (go_at_call 26; refine (blank_is _ _ true hsep).mono ?_; rintro e w' ⟨rfl, rfl⟩) | (go_at_call 27; refine (filled_is _ _ _ true hkp).mono ?_; rintro e w' ⟨rfl, rfl⟩) | (at_builtin; refine app_str wr rfl (.tmp 30) (.tmp 32) rfl w.heap.size _ acc _ rfl hown rfl (by omega) hsz ?_; intro v' w1 hown1 hbel1))
          go_roundw
          case rel => exact ⟨k + 1, k + 1, acc ++ [s.extract a k], by omega, by go_num, by go_num, by omega, by simp; omega, hnext, hown1, hbel.trans hbel1⟩
          case measure => simp [intOf]; omega
    · obtain rfl : k = s.size := by omega
      have hsz := hbel.size
      cases hkp0 : M.filled (s.extract a s.size) true
      · have hkp := Lib.hid hkp0
        have hnext := Lib.hid (M.cut_last _ M.filled s a acc hc.out hkp0)
        clear hkp0
        go_wp2_with ((go_at_call 27; refine (filled_is _ _ _ false hkp).mono ?_; rintro e w' ⟨rfl, rfl⟩))
        go_ret
        exact ⟨_, rfl, by rw [hnext.out]; exact hown, hbel⟩
      · have hkp := Lib.hid hkp0
        have hnext := Lib.hid (M.cut_end _ M.filled s a acc hc.out hkp0)
        clear hkp0
        go_wp2_with (first | (go_at_call 27; refine (filled_is _ _ _ true hkp).mono ?_; rintro e w' ⟨rfl, rfl⟩) | (at_builtin; refine app_str wr rfl (.tmp 43) (.tmp 45) rfl w.heap.size _ acc _ rfl hown rfl (by omega) hsz ?_; intro v' w1 hown1 hbel1))
        go_ret
        exact ⟨_, rfl, by rw [hnext.out]; exact hown1, hbel.trans hbel1⟩
end Go.Proofs.YtmfofgakenpnaaaDoor
