/- The contracts of cut, takeByte, takeName and takeBytes of a cursor. -/
import Derived.Test.YteggjihhjdeieaaGreatTakes
namespace Go.Proofs.YteggjihhjdeieaaGreat
open Go.RowKit

theorem cut_bad (g : Nat) (n : Int) (R : Option Nat) (v : Value) (l : List Int) (w : World) (h : Cur w g R 0 v l) (hl : l.length ≤ 30000) (hn : (l.length : Int) < n) :
    Calls Tryz.prog 103 #[.pointer (some ⟨g, 0, none⟩), .int .u64 n] w fun r w' => r = .returned (.tuple #[.slice none 0 0, .int .i64 4]) ∧ w = w' := by
  have c1 := h.1.cell (i := 1) rfl
  obtain ⟨a, cap, rfl⟩ := h.parts
  clear h
  go_enter Tryz.func103, Tryz.ntmps103
  go_wp2_with fail
  go_ret2
  exact ⟨rfl, rfl⟩
theorem cut_got (g k : Nat) (R : Option Nat) (v : Value) (l : List Int) (w : World) (h : Cur w g R 0 v l) (hl : l.length ≤ 30000) (hk : k ≤ l.length) :
    Calls Tryz.prog 103 #[.pointer (some ⟨g, 0, none⟩), .int .u64 k] w fun r w' => ∃ a' cap', r = .returned (.tuple #[.slice a' k cap', .int .i64 0]) ∧ BytesIn R w' (.slice a' k cap') (l.take k) ∧ (∃ v', Cur w' g R 0 v' (l.drop k)) ∧ Only g w w' := by
  have c1 := h.1.cell (i := 1) rfl
  have f1 := h.1.frozen 1
  have HC := Lib.hid h
  obtain ⟨a, cap, rfl⟩ := h.parts
  clear h
  have hki : ¬ (l.length : Int) < (k : Int) := by omega
  go_enter Tryz.func103, Tryz.ntmps103
  go_wp2_with (first
    | (refine wpList_head R rfl _ _ _ rfl .u64 .u64 a cap k l rfl rfl rfl HC.out.2.1 hk ?_; intro a1 cap1 HH)
    | (refine wpList_from R rfl _ _ rfl .u64 a cap k l rfl rfl HC.out.2.1 hk ?_; intro a2 cap2 HV))
  go_ret2
  exact ⟨_, _, rfl, HH.out.only (Only.set g 1 w _) HC.out.2.2.1, ⟨_, cur_set HC.out HV.out⟩, Only.set g 1 w _⟩

theorem takeByte_bad (g : Nat) (R : Option Nat) (v : Value) (w : World) (h : Cur w g R 0 v []) :
    Calls Tryz.prog 84 #[.pointer (some ⟨g, 0, none⟩)] w fun r w' => r = .returned (.tuple #[.int .u8 0, .int .i64 4]) ∧ w = w' := by
  have HC := Lib.hid h
  clear h
  go_enter Tryz.func84, Tryz.ntmps84
  go_wp2_with fail
  refine (cut_bad g 1 R v [] _ HC.out (by simp) (by simp)).mono ?_
  rintro r w' ⟨rfl, rfl⟩
  go_wp2_with fail
  go_ret2
  exact ⟨rfl, rfl⟩
theorem takeByte_got (g : Nat) (c : Int) (R : Option Nat) (v : Value) (l : List Int) (w : World) (h : Cur w g R 0 v (c :: l)) (hl : l.length + 1 ≤ 30000) :
    Calls Tryz.prog 84 #[.pointer (some ⟨g, 0, none⟩)] w fun r w' => r = .returned (.tuple #[.int .u8 c, .int .i64 0]) ∧ (∃ v', Cur w' g R 0 v' l) ∧ Only g w w' := by
  have HC := Lib.hid h
  clear h
  go_enter Tryz.func84, Tryz.ntmps84
  go_wp2_with fail
  refine (cut_got g 1 R v (c :: l) _ HC.out (by simpa using hl) (by simp)).mono ?_
  rintro r w' ⟨a', cap', rfl, hb, ⟨v', hc'⟩, ho⟩
  obtain ⟨⟨a2, cap2, hv, _, _, hcell⟩, _⟩ := hb
  obtain ⟨g2, off2, rfl, _, hcell⟩ := hcell (by simp)
  have q := hcell 0 (by simp)
  simp at hv
  obtain ⟨rfl, rfl⟩ := hv
  simp at q
  have HC2 := Lib.hid hc'
  have HO := Lib.hid ho
  clear hc' ho hcell
  go_wp2_with fail
  go_ret2
  exact ⟨rfl, ⟨_, HC2.out⟩, HO.out⟩
end Go.Proofs.YteggjihhjdeieaaGreat
