/- The contract of the statements' own examples. -/
import Derived.Test.YtmfofgakenpnaaaDoorLines
import Derived.Test.YtmfofgakenpnaaaDoorPrint
namespace Go.Proofs.YtmfofgakenpnaaaDoor
open Go.RowKit

theorem strs_form {w w' : World} {v : Value} {l : List ByteArray} (h : Strs w w' v l) (hl : 0 < l.length) :
    ∃ g cap, v = .slice (some ⟨g, 0, none⟩) l.length cap ∧ g < w'.heap.size ∧ w.heap.size ≤ g ∧ l.length ≤ cap ∧ ∀ i (hi : i < l.length), w'.cell? ⟨g, i, none⟩ = some (.string l[i]) := by
  obtain ⟨hown, _⟩ := h
  have hown' := hown
  obtain ⟨_, h2⟩ := hown
  rcases h2 with ⟨_, h0⟩ | ⟨g, cap, cur, hv, hg, hh, hn, _, _, _⟩
  · omega
  · subst hv
    refine ⟨g, cap, rfl, ?_, hg, hn, fun i hi => ?_⟩
    · exact (Array.getElem?_eq_some_iff.1 hh).1
    · rw [hown'.cellAt i (by omega)]; simp [hi]
/-- The table of powers of ten that Itoa reads. -/
def Tab (w : World) : Prop := Lib.TabIs Tryd.prog w "internal/strconv.uint64pow10" .u64 Lib.pow10Tab
theorem gTab : Tryd.prog.globalNamed "internal/strconv.uint64pow10" = some 0 := by kernel_rfl
theorem Tab.below {w w' : World} (h : Tab w) (hb : Below w.heap.size w w') : Tab w' := by
  refine var?_below hb gTab ?_ h
  have h2 : w.var? Tryd.prog "internal/strconv.uint64pow10" = _ := h
  unfold World.var? at h2
  rw [gTab] at h2
  simp only [Option.bind_some] at h2
  cases hh : w.heap[0]? with
  | none => rw [hh] at h2; cases h2
  | some o => exact (Array.getElem?_eq_some_iff.1 hh).1
theorem below_grow (w : World) (k : Nat) (os : Array Obj) : Below w.heap.size w (Sort.grow (w.drewN k) os) := by
  refine ⟨rfl, rfl, rfl, ?_, fun i hi => ?_⟩
  · show w.heap.size ≤ (w.heap ++ os).size; simp
  · show (w.heap ++ os)[i]? = _
    rw [Array.getElem?_append_left hi]
theorem print_any (n : Int) (w : World) (h0 : -9223372036854775808 ≤ n) (h1 : n ≤ 9223372036854775807) (ht : Tab w) :
    Calls Tryd.prog 10 #[.int .i64 n] w fun e w' => e = .returned (.string ⟨(Lib.itoa n).toArray⟩) ∧ Below w.heap.size w w' := by
  go_enter Tryd.func10, Tryd.ntmps10
  go_wp2_with fail
  refine (Tryd.strconv_Itoa n h0 h1 _ ht).mono ?_
  rintro e w' ⟨rfl, k, os, rfl⟩
  have hb := below_grow w k os
  generalize Sort.grow (w.drewN k) os = w2 at *
  go_wp2_with fail
  go_ret
  exact ⟨rfl, hb⟩
theorem parse_is (s : ByteArray) (lo hi n c : Int) (w : World) (hs : s.size ≤ maxLen) (hp : Hid (parsed s.data.toList lo hi = (n, c))) :
    Calls Tryd.prog 8 #[.string s, .int .i64 lo, .int .i64 hi] w fun e w' => e = .returned (.tuple #[.int .i64 n, .int .i64 c]) ∧ w = w' := by
  have := parse_any s lo hi w hs
  rw [hp.out] at this; exact this
theorem words_a_bc : M.wordsOf ⟨#[32, 32, 97, 32, 98, 99]⟩ = [⟨#[97]⟩, ⟨#[98, 99]⟩] := by decide +kernel
theorem parsed_07 : parsed [48, 55] 0 99 = (0, 3) := by decide +kernel
theorem itoa_m7 : Lib.itoa (-7) = [45, 55] := by
  rw [show (-7 : Int) = -((7 : Nat) : Int) from rfl, Lib.itoa_neg 7 (by decide), Lib.decDigits_one (by decide)]; rfl
theorem print_m7 (w : World) (ht : Tab w) : Calls Tryd.prog 10 #[.int .i64 (-7)] w fun e w' => e = .returned (.string ⟨#[45, 55]⟩) ∧ Below w.heap.size w w' := by
  have := print_any (-7) w (by omega) (by omega) ht
  rw [itoa_m7] at this
  exact this

set_option maxRecDepth 100000 in
set_option maxHeartbeats 400000 in
theorem alive_any (w : World) (ht : Tab w) : Calls Tryd.prog 7 #[] w fun e w' => e = .returned (.bool true) ∧ Below w.heap.size w w' := by
  go_enter Tryd.func7, Tryd.ntmps7
  go_wp2_with fail
  refine (parse_is ⟨#[48, 55]⟩ 0 99 0 3 _ (by decide) (Lib.hid parsed_07)).mono ?_
  rintro e w' ⟨rfl, rfl⟩
  go_wp2_with fail
  refine (words_any ⟨#[32, 32, 97, 32, 98, 99]⟩ _ (by decide)).mono ?_
  rintro e w1 ⟨v, rfl, hstr⟩
  rw [words_a_bc] at hstr
  obtain ⟨g, cap, rfl, hg, hg2, hc, hcell⟩ := strs_form hstr (by decide)
  have hb1 := hstr.2
  have c1 := hcell 1 (by decide)
  simp only [List.length_cons, List.length_nil] at hc c1
  clear hcell hstr
  have ht1 := Lib.hid (ht.below hb1)
  go_wp2_with fail
  refine (print_m7 _ ht1.out).mono ?_
  rintro e w2 ⟨rfl, hb2⟩
  have c2 := (hb2.cell (p := ⟨g, 1, none⟩) hg).trans c1
  have hb3 := Lib.hid (hb1.trans (hb2.mono hb1.size))
  clear c1
  go_wp2_with fail
  go_ret
  exact ⟨rfl, hb3.out⟩
end Go.Proofs.YtmfofgakenpnaaaDoor
