/- The contracts of the reference's Words, Lines, Texts. -/
import Derived.Test.YtmfofgakenpnaaaDoorAlive
import Derived.Deep.QuietTactic
import Derived.BigQuiet
namespace Go.Proofs.YtmfofgakenpnaaaDoor
open Go.RowKit

theorem refBlank_is (c : Int) (w : World) (b : Bool) (hb : Hid (M.blank c = b)) : Calls Tryd.prog 29 #[.int .u8 c] w fun e w' => e = .returned (.bool b) ∧ w = w' := by
  cases h : (c == 32)
  · cases h9 : (c == 9)
    all_goals
      have hx : Hid (M.blank c = _) := Lib.hid (by rw [M.blank, h, h9])
      go_enter Tryd.func29, Tryd.ntmps29
      go_wp2
      go_ret
      exact ⟨ret_bool (hx.out.symm.trans hb.out), rfl⟩
  · have hx : Hid (M.blank c = true) := Lib.hid (by rw [M.blank, h]; rfl)
    go_enter Tryd.func29, Tryd.ntmps29
    go_wp2
    go_ret
    exact ⟨ret_bool (hx.out.symm.trans hb.out), rfl⟩
/-- What holds at each round's head of the reference's Words. -/
def RW (s : ByteArray) (w : World) (v i : Value) (wr : World) : Prop :=
  ∃ (k : Nat) (acc : List ByteArray), k ≤ s.size ∧ i = .int .i64 k ∧ acc.length ≤ k + 1 ∧ Hid (M.flushed s k = acc) ∧ Hid (M.ready s k) ∧ wr.ownsRow w.heap.size 9 1 v acc.length (acc.map Value.string) ∧ Below w.heap.size w wr

set_option maxRecDepth 100000 in
set_option maxHeartbeats 1000000 in
theorem refWords_any (s : ByteArray) (w : World) (hs : s.size ≤ 100000) : Calls Tryd.prog 14 #[.string s] w (GivesStrs w (M.wordsOf s)) := by
  go_enter Tryd.func14, Tryd.ntmps14
  go_wp2
  go_loopw [3, 4] (fun v i wr => RW s w v i wr) (fun _ i _ => s.size - (intOf i).toNat)
  case atStart => exact ⟨0, [], Nat.zero_le _, rfl, by simp, Lib.hid rfl, Lib.hid (M.fl_zero s).2, World.ownsRow_nil _ _ _ _, Below.refl _ _⟩
  case round =>
    obtain ⟨k, acc, hk, rfl, hlen, hfl, hrd, hown, hbel⟩ := hrel
    by_cases hlt : k < s.size
    · cases hsep0 : M.blank (s[k].toNat : Int)
      · have hsep := Lib.hid hsep0
        clear hsep0
        go_wp2_with ((go_at_call 29; refine (refBlank_is _ _ false hsep).mono ?_; rintro e w' ⟨rfl, rfl⟩))
        obtain ⟨wo, rfl⟩ : ∃ wo : World, wo = wr := ⟨_, rfl⟩
        go_loop [5] (fun j => ∃ q : Nat, k ≤ q ∧ q ≤ s.size ∧ j = .int .i64 q ∧ Hid (∀ i, k ≤ i → i < q → M.sepAt M.blank s i = false)) (fun j => s.size - (intOf j).toNat)
        case atStart => exact ⟨k, Nat.le_refl _, hk, rfl, Lib.hid (fun i h1 h2 => by omega)⟩
        case round =>
          obtain ⟨q, hkq, hqs, rfl, hall⟩ := hrel
          have hsz := hbel.size
          by_cases hql : q < s.size
          · cases hs20 : M.blank (s[q].toNat : Int)
            · have hs2 := Lib.hid hs20
              have hall2 : Hid (∀ i, k ≤ i → i < q + 1 → M.sepAt M.blank s i = false) := Lib.hid fun i h1 h2 => by
                by_cases h3 : i < q
                · exact hall.out i h1 h3
                · obtain rfl : i = q := by omega
                  rw [M.sepAt_lt _ _ _ hql]; exact hs20
              clear hs20
              go_wp2_with ((go_at_call 29; refine (refBlank_is _ _ false hs2).mono ?_; rintro e w' ⟨rfl, rfl⟩))
              exact ⟨⟨q + 1, by omega, by omega, by go_num, hall2⟩, by simp [intOf]; omega⟩
            · have hs2 := Lib.hid hs20
              have hne : k < q := by
                rcases Nat.lt_or_ge k q with h | h
                · exact h
                · obtain rfl : k = q := by omega
                  rw [hsep.out] at hs20; cases hs20
              have hnx := Lib.hid ((M.fl_word s k q hlt hsep.out hrd.out hne hall.out).trans (by rw [hfl.out]))
              have hr2 : Hid (M.ready s q) := Lib.hid (Or.inr (Or.inl (by rw [M.sepAt_lt _ _ _ hql]; exact hs20)))
              clear hs20
              go_wp2_with (first | (go_at_call 29; refine (refBlank_is _ _ true hs2).mono ?_; rintro e w' ⟨rfl, rfl⟩) | (at_builtin; refine app_str wo rfl (.tmp 30) (.tmp 35) rfl w.heap.size _ acc _ rfl hown rfl (by omega) hsz ?_; intro v' w1 hown1 hbel1))
              go_roundw
              case rel => exact ⟨q, acc ++ [s.extract k q], by omega, rfl, by simp; omega, hnx, hr2, hown1, hbel.trans hbel1⟩
              case measure => simp [intOf]; omega
          · obtain rfl : q = s.size := by omega
            have hnx := Lib.hid ((M.fl_word s k s.size hlt hsep.out hrd.out hlt hall.out).trans (by rw [hfl.out]))
            have hr2 : Hid (M.ready s s.size) := Lib.hid (Or.inr (Or.inr rfl))
            go_wp2_with (first | (at_builtin; refine app_str wo rfl (.tmp 30) (.tmp 35) rfl w.heap.size _ acc _ rfl hown rfl (by omega) hsz ?_; intro v' w1 hown1 hbel1))
            go_roundw
            case rel => exact ⟨s.size, acc ++ [s.extract k s.size], by omega, rfl, by simp; omega, hnx, hr2, hown1, hbel.trans hbel1⟩
            case measure => simp [intOf]; omega
      · have hsep := Lib.hid hsep0
        have hnx := Lib.hid (M.fl_blank s k hlt hsep0)
        clear hsep0
        go_wp2_with ((go_at_call 29; refine (refBlank_is _ _ true hsep).mono ?_; rintro e w' ⟨rfl, rfl⟩))
        go_roundw
        case rel => exact ⟨k + 1, acc, by omega, by go_num, by omega, Lib.hid (hnx.out.1.trans hfl.out), Lib.hid hnx.out.2, hown, hbel⟩
        case measure => simp [intOf]; omega
    · obtain rfl : k = s.size := by omega
      have he := Lib.hid ((M.fl_end s).symm.trans hfl.out)
      go_wp2_with fail
      go_ret
      exact ⟨_, rfl, by rw [he.out]; exact hown, hbel⟩

/-- What holds at each round's head of the reference's Lines. -/
def RLn (s : ByteArray) (w : World) (v st i : Value) (wr : World) : Prop :=
  ∃ (k a : Nat) (acc : List ByteArray), k ≤ s.size ∧ i = .int .i64 k ∧ st = .int .i64 a ∧ a ≤ k ∧ acc.length ≤ k ∧ Hid (M.cutSt M.newline M.isLine s k = (a, acc)) ∧ wr.ownsRow w.heap.size 9 1 v acc.length (acc.map Value.string) ∧ Below w.heap.size w wr
theorem isLine_false (p : ByteArray) : M.isLine p false = true := by simp [M.isLine]
theorem isLine_last (s : ByteArray) (a : Nat) : M.isLine (s.extract a s.size) true = decide (a < s.size) := by
  rw [M.isLine, ByteArray.size_extract, Bool.eq_iff_iff]
  simp
  omega
set_option maxRecDepth 100000 in
set_option maxHeartbeats 1000000 in
theorem refLines_any (s : ByteArray) (w : World) (hs : s.size ≤ 100000) : Calls Tryd.prog 16 #[.string s] w (GivesStrs w (M.linesOf s)) := by
  go_enter Tryd.func16, Tryd.ntmps16
  go_wp2
  go_loopw [3, 4, 5] (fun v st i wr => RLn s w v st i wr) (fun _ _ i _ => s.size - (intOf i).toNat)
  case atStart => exact ⟨0, 0, [], Nat.zero_le _, rfl, rfl, Nat.le_refl _, Nat.le_refl _, Lib.hid rfl, World.ownsRow_nil _ _ _ _, Below.refl _ _⟩
  case round =>
    obtain ⟨k, a, acc, hk, rfl, rfl, hak, hlk, hc, hown, hbel⟩ := hrel
    have hsz := hbel.size
    by_cases hlt : k < s.size
    · cases hsep : ((s[k].toNat : Int) == 10)
      · have hnext := Lib.hid ((M.cut_miss _ M.isLine s k hlt hsep).trans hc.out)
        go_wp2_with fail
        go_roundw
        case rel => exact ⟨k + 1, a, acc, by omega, by go_num, rfl, by omega, by omega, hnext, hown, hbel⟩
        case measure => simp [intOf]; omega
      · have hnext := Lib.hid (M.cut_hit _ M.isLine s k a acc hlt hsep hc.out (isLine_false _))
        go_wp2_with (first | (at_builtin; refine app_str wr rfl (.tmp 16) (.tmp 21) rfl w.heap.size _ acc _ rfl hown rfl (by omega) hsz ?_; intro v' w1 hown1 hbel1))
        go_roundw
        case rel => exact ⟨k + 1, k + 1, acc ++ [s.extract a k], by omega, by go_num, by go_num, by omega, by simp; omega, hnext, hown1, hbel.trans hbel1⟩
        case measure => simp [intOf]; omega
    · obtain rfl : k = s.size := by omega
      by_cases hal : a < s.size
      · have hnext := Lib.hid (M.cut_end _ M.isLine s a acc hc.out ((isLine_last s a).trans (by simp [hal])))
        go_wp2_with (first | (at_builtin; refine app_str wr rfl (.tmp 29) (.tmp 33) rfl w.heap.size _ acc _ rfl hown rfl (by omega) hsz ?_; intro v' w1 hown1 hbel1))
        go_ret
        exact ⟨_, rfl, by rw [M.linesOf, hnext.out]; exact hown1, hbel.trans hbel1⟩
      · have hnext := Lib.hid (M.cut_last _ M.isLine s a acc hc.out ((isLine_last s a).trans (by simp [hal])))
        go_wp2_with fail
        go_ret
        exact ⟨_, rfl, by rw [M.linesOf, hnext.out]; exact hown, hbel⟩

set_option maxRecDepth 100000 in
set_option maxHeartbeats 400000 in
theorem texts_nil (a1 a2 : Option Addr) (c1 c2 : Nat) (w : World) : Calls Tryd.prog 12 #[.slice a1 0 c1, .slice a2 0 c2] w fun e w' => e = .returned (.bool true) ∧ Below w.heap.size w w' := by
  go_enter Tryd.func12, Tryd.ntmps12
  go_wp2
  refine wp_loop_rounds 1 ?_
  rw [rounds_succ]
  go_wp2
  go_ret
  exact ⟨rfl, Below.refl _ _⟩
set_option maxRecDepth 100000 in
set_option maxHeartbeats 400000 in
theorem texts_some (g1 g2 c1 c2 : Nat) (l : List ByteArray) (w : World) (hl : l.length ≤ 100000) (hg1 : g1 < w.heap.size) (hg2 : g2 < w.heap.size)
    (h1 : Hid (∀ i (hi : i < l.length), w.cell? ⟨g1, i, none⟩ = some (.string l[i]))) (h2 : Hid (∀ i (hi : i < l.length), w.cell? ⟨g2, i, none⟩ = some (.string l[i]))) :
    Calls Tryd.prog 12 #[.slice (some ⟨g1, 0, none⟩) l.length c1, .slice (some ⟨g2, 0, none⟩) l.length c2] w fun e w' => e = .returned (.bool true) ∧ Below w.heap.size w w' := by
  go_enter Tryd.func12, Tryd.ntmps12
  go_wp2
  go_loopw [5] (fun i wr => ∃ k : Nat, k ≤ l.length ∧ i = .int .i64 k ∧ Below w.heap.size w wr) (fun i _ => l.length - (intOf i).toNat)
  case atStart => exact ⟨0, Nat.zero_le _, rfl, Below.refl _ _⟩
  case round =>
    obtain ⟨k, hk, rfl, hbel⟩ := hrel
    by_cases hlt : k < l.length
    · have q1 : wr.cell? ⟨g1, k, none⟩ = some (.string l[k]) := (hbel.cell (p := ⟨g1, k, none⟩) hg1).trans (h1.out k hlt)
      have q2 : wr.cell? ⟨g2, k, none⟩ = some (.string l[k]) := (hbel.cell (p := ⟨g2, k, none⟩) hg2).trans (h2.out k hlt)
      have b0 : (0 : Int) ≤ (k : Int) := by omega
      have b1 : (k : Int) < (l.length : Int) := by omega
      go_wp2_with fail
      go_quiet (fail)
      go_wp2
      go_roundw
      case rel => exact ⟨k + 1, by omega, by go_num, below_drewN hbel _⟩
      case measure => simp [intOf]; omega
    · go_wp2_with fail
      go_ret
      exact ⟨rfl, hbel⟩
theorem strs_len {w w' : World} {v : Value} {l : List ByteArray} (h : Strs w w' v l) : ∃ a cap, v = .slice a l.length cap := by
  obtain ⟨⟨_, h2⟩, _⟩ := h
  rcases h2 with ⟨hv, h0⟩ | ⟨g, cap, cur, hv, _⟩
  · exact ⟨none, 0, by rw [hv, h0]⟩
  · exact ⟨_, cap, hv⟩
theorem texts_any {w0 w1 w2 : World} {v1 v2 : Value} {l : List ByteArray} (h1 : Strs w0 w1 v1 l) (h2 : Strs w1 w2 v2 l) (hl : l.length ≤ 100000) :
    Calls Tryd.prog 12 #[v1, v2] w2 fun e w' => e = .returned (.bool true) ∧ Below w2.heap.size w2 w' := by
  by_cases h0 : 0 < l.length
  · obtain ⟨g1, c1, rfl, hg1, _, _, hc1⟩ := strs_form h1 h0
    obtain ⟨g2, c2, rfl, hg2, _, _, hc2⟩ := strs_form h2 h0
    have hs := h2.2.size
    exact texts_some g1 g2 c1 c2 l w2 hl (by omega) hg2 (Lib.hid fun i hi => (h2.2.cell (p := ⟨g1, i, none⟩) hg1).trans (hc1 i hi)) (Lib.hid hc2)
  · obtain ⟨a1, c1, rfl⟩ := strs_len h1
    obtain ⟨a2, c2, rfl⟩ := strs_len h2
    rw [show l.length = 0 by omega]
    exact texts_nil a1 a2 c1 c2 w2
theorem words_len (s : ByteArray) : (M.wordsOf s).length ≤ s.size + 1 := by
  rw [← M.fl_end]; exact M.fl_len s s.size
theorem lines_len (s : ByteArray) : (M.linesOf s).length ≤ s.size + 1 := by
  have := (M.cut_le M.newline M.isLine s s.size).2
  rw [M.linesOf, M.cutAll]; split
  · rw [List.length_append]; simp; omega
  · omega
end Go.Proofs.YtmfofgakenpnaaaDoor
