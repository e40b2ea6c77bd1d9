/- The contract of Text of package name. The contracts of every, and of Is and Text of the reference. -/
import Derived.Test.YtgggjhbijnndhaaPad
import Derived.Lib.BytesEntry
namespace Go.Proofs.Ytgggjhbijnndhaa
open Go.RowKit

theorem text_index : ∀ (l : List Int), M.Bytes l → (Lib.indexByte (Lib.bytesOf l) 0 = -1 ∧ M.text l = l) ∨ ∃ o : Nat, o < l.length ∧ Lib.indexByte (Lib.bytesOf l) 0 = (o : Int) ∧ M.text l = l.take o
  | [], _ => .inl ⟨rfl, rfl⟩
  | c :: l, h => by
    have hc := h.head
    rw [M.text_cons]
    by_cases h0 : c = 0
    · subst h0
      exact .inr ⟨0, by simp, rfl, by simp⟩
    · rw [if_neg h0]
      have hne : (UInt8.ofNat c.toNat == 0) = false := by
        rw [beq_eq_false_iff_ne]
        intro e
        have := congrArg UInt8.toNat e
        simp at this
        omega
      rcases text_index l h.tail with ⟨h1, h2⟩ | ⟨o, h1, h2, h3⟩
      · left
        refine ⟨?_, by rw [h2]⟩
        show Lib.indexByte (UInt8.ofNat c.toNat :: Lib.bytesOf l) 0 = -1
        simp [Lib.indexByte, hne, h1]
      · right
        refine ⟨o + 1, by simpa using h1, ?_, by rw [h3]; rfl⟩
        show Lib.indexByte (UInt8.ofNat c.toNat :: Lib.bytesOf l) 0 = _
        simp [Lib.indexByte, hne, h2]
theorem ext37 (args : Array Value) (w : World) : (callFunc 86 args).run Try.prog w = ((Extern.BytealgIndexByte.indexByte args).run Try.prog w).andThen fun v w' => .ok (.value v) w' :=
  run_callFunc_extern (P := Try.prog) Try.func86 (by kernel_rfl) (by kernel_rfl) (by kernel_rfl) (e := Extern.BytealgIndexByte.indexByte) (by kernel_rfl) args w
theorem indexByte_is (g : Nat) (l : List Int) (r : Int) (w : World) (hl : l.length = 8) (h : At w g l) (hr : Hid (Lib.indexByte (Lib.bytesOf l) 0 = r)) :
    Calls Try.prog 73 #[.slice (some ⟨g, 0, none⟩) 8 8, .int .u8 0] w fun e w' => e = .returned (.int .i64 r) ∧ w = w' := by
  have hx := ext37
  have hrun := Lib.run_indexByteSlice (P := Try.prog) w g 0 8 8 l hl (fun i hi => by rw [Nat.zero_add, h.cell i (by omega), List.getD_eq_getElem?_getD, List.getElem?_eq_getElem (by omega)]; rfl) 0
  have e0 : (0 : Int).toNat.toUInt8 = 0 := rfl
  rw [e0, hr.out] at hrun
  clear h e0
  go_enter Try.func73, Try.ntmps73
  go_wp2_with fail
  go_ret
  exact ⟨rfl, rfl⟩
set_option maxRecDepth 100000 in
theorem index_is (g g2 : Nat) (l : List Int) (r : Int) (w : World) (hl : l.length = 8) (h : At w g l) (h2 : w.cell? ⟨g2, 0, none⟩ = some (.int .u8 0)) (hr : Hid (Lib.indexByte (Lib.bytesOf l) 0 = r)) :
    Calls Try.prog 65 #[.slice (some ⟨g, 0, none⟩) 8 8, .slice (some ⟨g2, 0, none⟩) 1 1] w fun e w' => e = .returned (.int .i64 r) ∧ w = w' := by
  have H := Lib.hid h
  have HL := Lib.hid hl
  clear h hl
  go_enter Try.func65, Try.ntmps65
  go_wp2_with fail
  refine (indexByte_is g l r _ HL.out H.out hr).mono ?_
  rintro e w' ⟨rfl, rfl⟩
  go_wp2_with fail
  go_ret
  exact ⟨rfl, rfl⟩
def Cuts (w : World) (g : Nat) (l : List Int) (e : Ending) (w' : World) : Prop := ∃ va f, e = .returned (.tuple #[.slice (some ⟨g, 0, none⟩) (M.text l).length 8, va, .bool f]) ∧ Below w.heap.size w w'
theorem cuts_mk {w w' : World} {g n : Nat} {l : List Int} {va : Value} {f : Bool} (hn : (M.text l).length = n) (hb : Below w.heap.size w w') : Cuts w g l (.returned (.tuple #[.slice (some ⟨g, 0, none⟩) n 8, va, .bool f])) w' := ⟨va, f, by rw [hn], hb⟩
set_option maxRecDepth 100000 in
theorem cut_is (g g2 : Nat) (l : List Int) (w : World) (hl : l.length = 8) (hb : M.Bytes l) (h : At w g l) (h2 : w.cell? ⟨g2, 0, none⟩ = some (.int .u8 0)) :
    Calls Try.prog 60 #[.slice (some ⟨g, 0, none⟩) 8 8, .slice (some ⟨g2, 0, none⟩) 1 1] w (Cuts w g l) := by
  have H := Lib.hid h
  have HL := Lib.hid hl
  have H2 := Lib.hid h2
  clear h h2
  rcases text_index l hb with ⟨h1, ht⟩ | ⟨o, ho, h1, ht⟩
  · have HI := Lib.hid h1
    have HT := Lib.hid (show (M.text l).length = 8 by rw [ht, hl])
    clear h1 ht hl
    go_enter Try.func60, Try.ntmps60
    go_wp2_with fail
    refine (index_is g g2 l (-1) _ HL.out H.out H2.out HI).mono ?_
    rintro e w' ⟨rfl, rfl⟩
    go_wp2_with fail
    go_ret3
    exact cuts_mk HT.out (Below.refl _ _)
  · have HI := Lib.hid h1
    have HT := Lib.hid (show (M.text l).length = o by rw [ht, List.length_take]; omega)
    have ho8 : o < 8 := by omega
    have k1 : (0 : Int) ≤ (o : Int) := by omega
    have k2 : (o : Int) ≤ 8 := by omega
    have k3 : (o : Int) + 1 ≤ 8 := by omega
    have k4 : (0 : Int) ≤ (o : Int) + 1 := by omega
    clear h1 ht hl ho
    go_enter Try.func60, Try.ntmps60
    go_wp2_with fail
    refine (index_is g g2 l o _ HL.out H.out H2.out HI).mono ?_
    rintro e w' ⟨rfl, rfl⟩
    go_wp2_with fail
    go_quiet (fail)
    go_wp2_with fail
    all_goals
      go_ret3
      exact cuts_mk (by have := HT.out; omega) (below_drewN (Below.refl _ _) _)
theorem one_zero (w : World) (l : List Int) : ((w.alloc (.cells (nm l) 26)).alloc (.cells #[.int .u8 0] 5)).cell? ⟨w.heap.size + 1, 0, none⟩ = some (.int .u8 0) := by
  rw [cell_of_row _ (w.heap.size + 1) 0 #[.int .u8 0] 5 (0, 0) (by have := heap_alloc_last (w.alloc (.cells (nm l) 26)) (.cells #[.int .u8 0] 5); simpa using this)]
  rfl
theorem text_take (l : List Int) : l.take (M.text l).length = M.text l := by
  have h := List.takeWhile_prefix (l := l) (· != 0)
  exact (List.prefix_iff_eq_take.1 h).symm
set_option maxRecDepth 100000 in
theorem text_is (l : List Int) (s : ByteArray) (w : World) (hl : l.length = 8) (hb : Hid (M.Bytes l)) (hs : Hid (s = strOfNums (M.text l))) :
    Calls Try.prog 51 #[.agg (nm l)] w fun e w' => e = .returned (.string s) ∧ Below w.heap.size w w' := by
  have HL := Lib.hid hl
  clear hl
  go_enter Try.func51, Try.ntmps51
  go_wp2_with fail
  refine (cut_is w.heap.size (w.heap.size + 1) l _ HL.out hb.out ((at_alloc w l).below ((Below.refl _ _).alloc (Nat.le_refl _) _)) (one_zero w l)).mono ?_
  rintro e w1 ⟨va, f, rfl, b1⟩
  have A1 := ((at_alloc w l).below ((Below.refl _ _).alloc (Nat.le_refl _) _)).below b1
  have hcv : (convert 85 9 (.slice (some ⟨w.heap.size, 0, none⟩) (M.text l).length 8)).run Try.prog w1 = .ok (.string s) w1 := by
    rw [hs.out]
    exact run_convert_bytes_arg (P := Try.prog) w1 85 5 Try.underlying85 Try.underlying5 w.heap.size 0 (M.text l).length 8 (M.text l) rfl (fun i hi => by
      have hi2 : i < l.length := Nat.lt_of_lt_of_le hi (M.text_len l)
      rw [Nat.zero_add, A1.cell i hi2, List.getD_eq_getElem?_getD]
      have := text_take l
      rw [← this, List.getElem?_take, if_pos hi, List.getElem?_eq_getElem hi2]
      rfl) 9 Try.underlying9
  have B1 := Lib.hid ((two_below w _ _).trans (b1.mono (by simp; omega)))
  clear A1 b1
  go_wp2_with fail
  go_ret
  exact ⟨rfl, B1.out⟩
end Go.Proofs.Ytgggjhbijnndhaa
namespace Go.Proofs.Ytgggjhbijnndhaa
open Go.RowKit

theorem every_from (l : List Int) (k : Nat) (h : k < l.length) : M.everyFrom k (l.drop k) = (M.good k l[k] && M.everyFrom (k + 1) (l.drop (k + 1))) := by
  rw [List.drop_eq_getElem_cons h]
  rfl
theorem every_end (l : List Int) (k : Nat) (h : l.length ≤ k) : M.everyFrom k (l.drop k) = true := by
  rw [List.drop_eq_nil_of_le h]
  rfl
set_option maxRecDepth 100000 in
theorem every_is (s : ByteArray) (t : List Int) (b : Bool) (w : World) (ht : t.length ≤ 8) (hs : Hid (s = strOfNums t)) (hb : Hid (M.Bytes t)) (hr : Hid (M.every t = b)) :
    Calls Try.prog 53 #[.string s, .func (.func 54) #[] #[]] w fun e w' => e = .returned (.bool b) ∧ w = w' := by
  have hsz : s.size = t.length := by rw [hs.out, strOfNums_size]
  go_enter Try.func53, Try.ntmps53
  go_wp2_with fail
  go_loopw [8] (fun i wr => ∃ k : Nat, k ≤ t.length ∧ i = .int .i64 k ∧ M.everyFrom k (t.drop k) = M.every t ∧ wr = w) (fun i _ => t.length - (intOf i).toNat)
  case atStart => exact ⟨0, Nat.zero_le _, rfl, rfl, rfl⟩
  case round =>
    obtain ⟨k, hk, rfl, hev, rfl⟩ := hrel
    have HE := Lib.hid hev
    clear hev
    by_cases hlt : k < t.length
    · have hix : ∀ w, (Instr.index 9 (.string s) (.int .i64 k)).run Try.prog w = .ok (.int .u8 t[k]) w := by rw [hs.out]; exact index_str t hb.out k hlt
      have HF := Lib.hid (every_from t k hlt)
      generalize t[k] = c at hix HF
      obtain ⟨g, hg⟩ : ∃ g, M.good k c = g := ⟨_, rfl⟩
      have HG := Lib.hid hg
      clear hg
      go_wp2_with fail
      refine (good_is k c g _ HG).mono ?_
      rintro e w' ⟨rfl, rfl⟩
      cases g with
      | true =>
        go_wp2_with fail
        go_roundw
        case rel => exact ⟨k + 1, by omega, by go_num, by rw [← HE.out, HF.out, HG.out]; rfl, trivial⟩
        case measure => simp [intOf]; omega
      | false =>
        go_wp2_with fail
        go_ret
        exact ⟨ret_bool (by rw [← hr.out, ← HE.out, HF.out, HG.out]; rfl), rfl⟩
    · obtain rfl : k = t.length := by omega
      go_wp2_with fail
      go_ret
      exact ⟨ret_bool (by rw [← hr.out, ← HE.out, every_end _ _ (Nat.le_refl _)]), rfl⟩
theorem all_from (l : List Int) (k : Nat) (h : k < l.length) : (l.drop k).all M.other = (M.other l[k] && (l.drop (k + 1)).all M.other) := by
  rw [List.drop_eq_getElem_cons h, List.all_cons]
theorem head_is : ∀ (t : List Int) (h : 0 < t.length), t.headD 0 = t[0]
  | _ :: _, _ => rfl
set_option maxRecDepth 100000 in
theorem isN_is (s : ByteArray) (t : List Int) (b : Bool) (w : World) (ht : t.length ≤ 100) (hs : Hid (s = strOfNums t)) (hb : Hid (M.Bytes t)) (hr : Hid (M.isN t = b)) :
    Calls Try.prog 42 #[.string s] w fun e w' => e = .returned (.bool b) ∧ w = w' := by
  have hsz : s.size = t.length := by rw [hs.out, strOfNums_size]
  by_cases h1 : t.length < 1
  · have H := Lib.hid (show M.isN t = false by unfold M.isN; simp [show ¬ 1 ≤ t.length by omega])
    have k1 : (t.length : Int) < 1 := by omega
    go_enter Try.func42, Try.ntmps42
    go_wp2_with fail
    go_ret
    exact ⟨ret_bool (H.out.symm.trans hr.out), rfl⟩
  · have k1 : ¬ (t.length : Int) < 1 := by omega
    by_cases h8 : 8 < t.length
    · have H := Lib.hid (show M.isN t = false by unfold M.isN; simp [show ¬ t.length ≤ 8 by omega])
      have k2 : (8 : Int) < (t.length : Int) := by omega
      go_enter Try.func42, Try.ntmps42
      go_wp2_with fail
      go_ret
      exact ⟨ret_bool (H.out.symm.trans hr.out), rfl⟩
    · have k2 : ¬ (8 : Int) < (t.length : Int) := by omega
      have hix0 : ∀ w, (Instr.index 9 (.string s) (.int .i64 0)).run Try.prog w = .ok (.int .u8 t[0]) w := fun w => by have := index_str t hb.out 0 (by omega) w; rw [← hs.out] at this; exact this
      have H := Lib.hid (show M.isN t = (M.letter t[0] && t.all M.other) by
        unfold M.isN
        rw [head_is t (by omega)]
        have e1 : decide (1 ≤ t.length) = true := by simp; omega
        have e2 : decide (t.length ≤ 8) = true := by simp; omega
        rw [e1, e2]
        rfl)
      generalize t[0] = c0 at hix0 H
      obtain ⟨g, hg⟩ : ∃ g, M.letter c0 = g := ⟨_, rfl⟩
      have HG := Lib.hid hg
      clear hg
      go_enter Try.func42, Try.ntmps42
      go_wp2_with fail
      refine (letter_is c0 g _ HG).mono ?_
      rintro e w' ⟨rfl, rfl⟩
      cases g with
      | false =>
        go_wp2_with fail
        go_ret
        exact ⟨ret_bool (by rw [← hr.out, H.out, HG.out]; rfl), rfl⟩
      | true =>
        go_wp2_with fail
        clear hix0
        go_loopw [3] (fun i wr => ∃ k : Nat, k ≤ t.length ∧ i = .int .i64 k ∧ (t.drop k).all M.other = t.all M.other ∧ wr = w) (fun i _ => t.length - (intOf i).toNat)
        case atStart => exact ⟨0, Nat.zero_le _, rfl, rfl, rfl⟩
        case round =>
          obtain ⟨k, hk, rfl, hev, rfl⟩ := hrel
          have HE := Lib.hid hev
          clear hev
          by_cases hlt : k < t.length
          · have hix : ∀ w, (Instr.index 9 (.string s) (.int .i64 k)).run Try.prog w = .ok (.int .u8 t[k]) w := by rw [hs.out]; exact index_str t hb.out k hlt
            have HF := Lib.hid (all_from t k hlt)
            generalize t[k] = c at hix HF
            obtain ⟨o, ho⟩ : ∃ o, M.other c = o := ⟨_, rfl⟩
            have HO := Lib.hid ho
            clear ho
            go_wp2_with fail
            refine (other_is c o _ HO).mono ?_
            rintro e w' ⟨rfl, rfl⟩
            cases o with
            | true =>
              go_wp2_with fail
              go_roundw
              case rel => exact ⟨k + 1, by omega, by go_num, by rw [← HE.out, HF.out, HO.out]; rfl, trivial⟩
              case measure => simp [intOf]; omega
            | false =>
              go_wp2_with fail
              go_ret
              exact ⟨ret_bool (by rw [← hr.out, H.out, HG.out, ← HE.out, HF.out, HO.out]; rfl), rfl⟩
          · obtain rfl : k = t.length := by omega
            go_wp2_with fail
            go_ret
            exact ⟨ret_bool (by rw [← hr.out, H.out, HG.out, ← HE.out, List.drop_length]; rfl), rfl⟩
theorem text_more (l : List Int) (k : Nat) (h : k < l.length) (hc : l[k] ≠ 0) (ht : M.text l = l.take k ++ M.text (l.drop k)) : M.text l = l.take (k + 1) ++ M.text (l.drop (k + 1)) := by
  rw [ht, List.drop_eq_getElem_cons h, M.text_cons, if_neg hc, List.take_succ_eq_append_getElem h, List.append_assoc]
  rfl
theorem text_stop (l : List Int) (k : Nat) (h : k < l.length) (hc : l[k] = 0) (ht : M.text l = l.take k ++ M.text (l.drop k)) : M.text l = l.take k := by
  rw [ht, List.drop_eq_getElem_cons h, M.text_cons, if_pos hc, List.append_nil]
theorem str_app (a b : List Int) : strOfNums a ++ strOfNums b = strOfNums (a ++ b) := by
  unfold strOfNums
  rw [ByteArray.mk_append_mk, List.map_append]
theorem str_snoc (l : List Int) (k : Nat) (h : k < l.length) : strOfNums (l.take k) ++ strOfNums [l[k]] = strOfNums (l.take (k + 1)) := by
  rw [str_app, List.take_succ_eq_append_getElem h]
theorem conv_one (w : World) (c : Int) : (convert 85 9 (.slice (some ⟨w.heap.size, 0, none⟩) 1 1)).run Try.prog (w.alloc (.cells #[.int .u8 c] 5)) = .ok (.string (strOfNums [c])) (w.alloc (.cells #[.int .u8 c] 5)) :=
  run_convert_bytes_arg (P := Try.prog) _ 85 5 Try.underlying85 Try.underlying5 w.heap.size 0 1 1 [c] rfl (fun i hi => by
    rw [Nat.zero_add, cell_of_row _ w.heap.size i #[.int .u8 c] 5 (0, 0) (heap_alloc_last w _)]
    obtain rfl : i = 0 := by omega
    rfl) 9 Try.underlying9
set_option maxRecDepth 100000 in
theorem refText_is (l : List Int) (s : ByteArray) (w : World) (hl : l.length = 8) (hs : Hid (s = strOfNums (M.text l))) :
    Calls Try.prog 43 #[.agg (nm l)] w fun e w' => e = .returned (.string s) ∧ Below w.heap.size w w' := by
  have HA := Lib.hid (at_alloc w l)
  have HL := Lib.hid hl
  have HB := Lib.hid ((Below.refl w.heap.size w).alloc (Nat.le_refl _) (.cells (nm l) 26))
  clear hl
  go_enter Try.func43, Try.ntmps43
  go_wp2_with fail
  generalize w.alloc (.cells (nm l) 26) = V at HA HB
  go_loopw [3, 4] (fun x i wr => ∃ k : Nat, k ≤ 8 ∧ i = .int .i64 k ∧ x = .string (strOfNums (l.take k)) ∧ M.text l = l.take k ++ M.text (l.drop k) ∧ At wr w.heap.size l ∧ Below w.heap.size w wr) (fun _ i _ => 8 - (intOf i).toNat)
  case atStart => exact ⟨0, Nat.zero_le _, rfl, rfl, rfl, HA.out, HB.out⟩
  case round =>
    obtain ⟨k, hk, rfl, rfl, ht, hat, hbel⟩ := hrel
    have HT := Lib.hid ht
    have HAT := Lib.hid hat
    have HBL := Lib.hid hbel
    clear ht hat hbel HA HB
    by_cases hlt : k < 8
    · have hk8 : k < l.length := by have := HL.out; omega
      have hix := HAT.out.cell k hk8
      by_cases hc : l[k] = 0
      · have HE := Lib.hid (text_stop l k hk8 hc HT.out)
        rw [hc] at hix
        clear hc hk8
        go_wp2_with fail
        go_ret
        exact ⟨by rw [hs.out, HE.out]; rfl, HBL.out⟩
      · have HM := Lib.hid (text_more l k hk8 hc HT.out)
        have HS := Lib.hid (str_snoc l k hk8)
        obtain ⟨s1, hs1⟩ : ∃ s1, strOfNums (l.take k) = s1 := ⟨_, rfl⟩
        have hz1 : s1.size = k := by rw [← hs1, strOfNums_size, List.length_take]; omega
        have hcv := conv_one wr l[k]
        have hne : (l[k] == 0) = false := by simpa using hc
        generalize l[k] = c at hix HS hcv hne hc
        obtain ⟨s2, hs2⟩ : ∃ s2, strOfNums [c] = s2 := ⟨_, rfl⟩
        have hz2 : s2.size = 1 := by rw [← hs2, strOfNums_size]; rfl
        rw [hs1, hs2] at HS
        rw [hs2] at hcv
        rw [hs1]
        clear hs1 hs2 hk8
        go_wp2_with fail
        go_roundw
        case rel => exact ⟨k + 1, by omega, by go_num, by rw [← HS.out], HM.out, HAT.out.below ((Below.refl _ _).alloc (Nat.le_refl _) _), HBL.out.alloc HBL.out.size _⟩
        case measure => simp [intOf]; omega
    · obtain rfl : k = 8 := by omega
      have HE := Lib.hid (show M.text l = l.take 8 by rw [HT.out, List.drop_eq_nil_of_le (by have := HL.out; omega)]; simp [M.text])
      go_wp2_with fail
      go_ret
      exact ⟨by rw [hs.out, HE.out]; rfl, HBL.out⟩
end Go.Proofs.Ytgggjhbijnndhaa
