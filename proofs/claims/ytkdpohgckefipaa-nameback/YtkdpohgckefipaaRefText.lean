/- The contract of Text of the reference. -/
import Derived.Test.YtkdpohgckefipaaEvery
namespace Go.Proofs.Ytkdpohgckefipaa
open Go.RowKit

theorem text_more (l : List Int) (k : Nat) (h : k < l.length) (hc : l[k] ≠ 0) (ht : M.text l = l.take k ++ M.text (l.drop k)) : M.text l = l.take (k + 1) ++ M.text (l.drop (k + 1)) := by
  rw [ht, List.drop_eq_getElem_cons h, M.text_cons, if_neg hc, List.take_succ_eq_append_getElem h, List.append_assoc]
  rfl
theorem text_stop (l : List Int) (k : Nat) (h : k < l.length) (hc : l[k] = 0) (ht : M.text l = l.take k ++ M.text (l.drop k)) : M.text l = l.take k := by
  rw [ht, List.drop_eq_getElem_cons h, M.text_cons, if_pos hc, List.append_nil]
theorem str_app (a b : List Int) : strOfNums a ++ strOfNums b = strOfNums (a ++ b) := by
  unfold strOfNums
  rw [ByteArray.mk_append_mk, List.map_append]
theorem str_snoc (l : List Int) (k : Nat) (h : k < l.length) : strOfNums (l.take k) ++ strOfNums [l[k]] = strOfNums (l.take (k + 1)) := by
  rw [str_app, List.take_succ_eq_append_getElem h]
theorem conv_one (w : World) (c : Int) : (convert 38 9 (.slice (some ⟨w.heap.size, 0, none⟩) 1 1)).run Try.prog (w.alloc (.cells #[.int .u8 c] 5)) = .ok (.string (strOfNums [c])) (w.alloc (.cells #[.int .u8 c] 5)) :=
  run_convert_bytes_arg (P := Try.prog) _ 38 5 Try.underlying38 Try.underlying5 w.heap.size 0 1 1 [c] rfl (fun i hi => by
    rw [Nat.zero_add, cell_of_row _ w.heap.size i #[.int .u8 c] 5 (0, 0) (heap_alloc_last w _)]
    obtain rfl : i = 0 := by omega
    rfl) 9 Try.underlying9
set_option maxRecDepth 100000 in
theorem refText_is (l : List Int) (s : ByteArray) (w : World) (hl : l.length = 8) (hs : Hid (s = strOfNums (M.text l))) :
    Calls Try.prog 10 #[.agg (nm l)] w fun e w' => e = .returned (.string s) ∧ Below w.heap.size w w' := by
  have HA := Lib.hid (at_alloc w l)
  have HL := Lib.hid hl
  have HB := Lib.hid ((Below.refl w.heap.size w).alloc (Nat.le_refl _) (.cells (nm l) 23))
  clear hl
  go_enter Try.func10, Try.ntmps10
  go_wp2_with fail
  generalize w.alloc (.cells (nm l) 23) = V at HA HB
  go_loopw [3, 4] (fun x i wr => ∃ k : Nat, k ≤ 8 ∧ i = .int .i64 k ∧ x = .string (strOfNums (l.take k)) ∧ M.text l = l.take k ++ M.text (l.drop k) ∧ At wr w.heap.size l ∧ Below w.heap.size w wr) (fun _ i _ => 8 - (intOf i).toNat)
  case atStart => exact ⟨0, Nat.zero_le _, rfl, rfl, rfl, HA.out, HB.out⟩
  case round =>
    obtain ⟨k, hk, rfl, rfl, ht, hat, hbel⟩ := hrel
    have HT := Lib.hid ht
    have HAT := Lib.hid hat
    have HBL := Lib.hid hbel
    clear ht hat hbel HA HB
    by_cases hlt : k < 8
    · have hk8 : k < l.length := by have := HL.out; omega
      have hix := HAT.out.cell k hk8
      by_cases hc : l[k] = 0
      · have HE := Lib.hid (text_stop l k hk8 hc HT.out)
        rw [hc] at hix
        clear hc hk8
        go_wp2_with fail
        go_ret
        exact ⟨by rw [hs.out, HE.out]; rfl, HBL.out⟩
      · have HM := Lib.hid (text_more l k hk8 hc HT.out)
        have HS := Lib.hid (str_snoc l k hk8)
        obtain ⟨s1, hs1⟩ : ∃ s1, strOfNums (l.take k) = s1 := ⟨_, rfl⟩
        have hz1 : s1.size = k := by rw [← hs1, strOfNums_size, List.length_take]; omega
        have hcv := conv_one wr l[k]
        have hne : (l[k] == 0) = false := by simpa using hc
        generalize l[k] = c at hix HS hcv hne hc
        obtain ⟨s2, hs2⟩ : ∃ s2, strOfNums [c] = s2 := ⟨_, rfl⟩
        have hz2 : s2.size = 1 := by rw [← hs2, strOfNums_size]; rfl
        rw [hs1, hs2] at HS
        rw [hs2] at hcv
        rw [hs1]
        clear hs1 hs2 hk8
        go_wp2_with fail
        go_roundw
        case rel => exact ⟨k + 1, by omega, by go_num, by rw [← HS.out], HM.out, HAT.out.below ((Below.refl _ _).alloc (Nat.le_refl _) _), HBL.out.alloc HBL.out.size _⟩
        case measure => simp [intOf]; omega
    · obtain rfl : k = 8 := by omega
      have HE := Lib.hid (show M.text l = l.take 8 by rw [HT.out, List.drop_eq_nil_of_le (by have := HL.out; omega)]; simp [M.text])
      go_wp2_with fail
      go_ret
      exact ⟨by rw [hs.out, HE.out]; rfl, HBL.out⟩
end Go.Proofs.Ytkdpohgckefipaa
