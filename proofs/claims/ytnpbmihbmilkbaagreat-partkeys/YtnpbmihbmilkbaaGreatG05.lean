/- The contract of Text of package name. The contracts of every, and of Is and Text of the reference. The contracts of Right of package name and of the reference. The contract of Of of package name. Blocks whose cells are known, worlds that part in one block alone, cursors; the contracts of Err, Left, Done, keep and Fail of a cursor. -/
import Derived.Test.YtnpbmihbmilkbaaGreatG04
import Derived.Lib.BytesEntry
import Derived.Laws.ResultCell
import Derived.Lib.Bytes
import Derived.Deep.MidRow
import Derived.Deep.RegionHeld3
import Derived.StillTailTactics
import Derived.BigRegion
import Derived.RegionTactic
namespace Go.Proofs.YtnpbmihbmilkbaaGreat
open Go.RowKit
theorem text_index : ∀ (l : List Int), M.Bytes l → (Lib.indexByte (Lib.bytesOf l) 0 = -1 ∧ M.text l = l) ∨ ∃ o : Nat, o < l.length ∧ Lib.indexByte (Lib.bytesOf l) 0 = (o : Int) ∧ M.text l = l.take o
  | [], _ => .inl ⟨rfl, rfl⟩
  | c :: l, h => by
    have hc := h.head
    rw [M.text_cons]
    by_cases h0 : c = 0
    · subst h0
      exact .inr ⟨0, by simp, rfl, by simp⟩
    · rw [if_neg h0]
      have hne : (UInt8.ofNat c.toNat == 0) = false := by
        rw [beq_eq_false_iff_ne]
        intro e
        have := congrArg UInt8.toNat e
        simp at this
        omega
      rcases text_index l h.tail with ⟨h1, h2⟩ | ⟨o, h1, h2, h3⟩
      · left
        refine ⟨?_, by rw [h2]⟩
        show Lib.indexByte (UInt8.ofNat c.toNat :: Lib.bytesOf l) 0 = -1
        simp [Lib.indexByte, hne, h1]
      · right
        refine ⟨o + 1, by simpa using h1, ?_, by rw [h3]; rfl⟩
        show Lib.indexByte (UInt8.ofNat c.toNat :: Lib.bytesOf l) 0 = _
        simp [Lib.indexByte, hne, h2]
theorem ext37 (args : Array Value) (w : World) : (callFunc 175 args).run Tryz.prog w = ((Extern.BytealgIndexByte.indexByte args).run Tryz.prog w).andThen fun v w' => .ok (.value v) w' :=
  run_callFunc_extern (P := Tryz.prog) Tryz.func175 (by kernel_rfl) (by kernel_rfl) (by kernel_rfl) (e := Extern.BytealgIndexByte.indexByte) (by kernel_rfl) args w
theorem indexByte_is (g : Nat) (l : List Int) (r : Int) (w : World) (hl : l.length = 8) (h : At w g l) (hr : Hid (Lib.indexByte (Lib.bytesOf l) 0 = r)) :
    Calls Tryz.prog 170 #[.slice (some ⟨g, 0, none⟩) 8 8, .int .u8 0] w fun e w' => e = .returned (.int .i64 r) ∧ w = w' := by
  have hx := ext37
  have hrun := Lib.run_indexByteSlice (P := Tryz.prog) w g 0 8 8 l hl (fun i hi => by rw [Nat.zero_add, h.cell i (by omega), List.getD_eq_getElem?_getD, List.getElem?_eq_getElem (by omega)]; rfl) 0
  have e0 : (0 : Int).toNat.toUInt8 = 0 := rfl
  rw [e0, hr.out] at hrun
  clear h e0
  go_enter Tryz.func170, Tryz.ntmps170
  go_wp2_with fail
  go_ret
  exact ⟨rfl, rfl⟩
set_option maxRecDepth 100000 in
theorem index_is (g g2 : Nat) (l : List Int) (r : Int) (w : World) (hl : l.length = 8) (h : At w g l) (h2 : w.cell? ⟨g2, 0, none⟩ = some (.int .u8 0)) (hr : Hid (Lib.indexByte (Lib.bytesOf l) 0 = r)) :
    Calls Tryz.prog 168 #[.slice (some ⟨g, 0, none⟩) 8 8, .slice (some ⟨g2, 0, none⟩) 1 1] w fun e w' => e = .returned (.int .i64 r) ∧ w = w' := by
  have H := Lib.hid h
  have HL := Lib.hid hl
  clear h hl
  go_enter Tryz.func168, Tryz.ntmps168
  go_wp2_with fail
  refine (indexByte_is g l r _ HL.out H.out hr).mono ?_
  rintro e w' ⟨rfl, rfl⟩
  go_wp2_with fail
  go_ret
  exact ⟨rfl, rfl⟩
def Cuts (w : World) (g : Nat) (l : List Int) (e : Ending) (w' : World) : Prop := ∃ va f, e = .returned (.tuple #[.slice (some ⟨g, 0, none⟩) (M.text l).length 8, va, .bool f]) ∧ Below w.heap.size w w'
theorem cuts_mk {w w' : World} {g n : Nat} {l : List Int} {va : Value} {f : Bool} (hn : (M.text l).length = n) (hb : Below w.heap.size w w') : Cuts w g l (.returned (.tuple #[.slice (some ⟨g, 0, none⟩) n 8, va, .bool f])) w' := ⟨va, f, by rw [hn], hb⟩
set_option maxRecDepth 100000 in
theorem cut_is (g g2 : Nat) (l : List Int) (w : World) (hl : l.length = 8) (hb : M.Bytes l) (h : At w g l) (h2 : w.cell? ⟨g2, 0, none⟩ = some (.int .u8 0)) :
    Calls Tryz.prog 163 #[.slice (some ⟨g, 0, none⟩) 8 8, .slice (some ⟨g2, 0, none⟩) 1 1] w (Cuts w g l) := by
  have H := Lib.hid h
  have HL := Lib.hid hl
  have H2 := Lib.hid h2
  clear h h2
  rcases text_index l hb with ⟨h1, ht⟩ | ⟨o, ho, h1, ht⟩
  · have HI := Lib.hid h1
    have HT := Lib.hid (show (M.text l).length = 8 by rw [ht, hl])
    clear h1 ht hl
    go_enter Tryz.func163, Tryz.ntmps163
    go_wp2_with fail
    refine (index_is g g2 l (-1) _ HL.out H.out H2.out HI).mono ?_
    rintro e w' ⟨rfl, rfl⟩
    go_wp2_with fail
    go_ret3
    exact cuts_mk HT.out (Below.refl _ _)
  · have HI := Lib.hid h1
    have HT := Lib.hid (show (M.text l).length = o by rw [ht, List.length_take]; omega)
    have ho8 : o < 8 := by omega
    have k1 : (0 : Int) ≤ (o : Int) := by omega
    have k2 : (o : Int) ≤ 8 := by omega
    have k3 : (o : Int) + 1 ≤ 8 := by omega
    have k4 : (0 : Int) ≤ (o : Int) + 1 := by omega
    clear h1 ht hl ho
    go_enter Tryz.func163, Tryz.ntmps163
    go_wp2_with fail
    refine (index_is g g2 l o _ HL.out H.out H2.out HI).mono ?_
    rintro e w' ⟨rfl, rfl⟩
    go_wp2_with fail
    go_quiet (fail)
    go_wp2_with fail
    all_goals
      go_ret3
      exact cuts_mk (by have := HT.out; omega) (below_drewN (Below.refl _ _) _)
theorem one_zero (w : World) (l : List Int) : ((w.alloc (.cells (nm l) 40)).alloc (.cells #[.int .u8 0] 5)).cell? ⟨w.heap.size + 1, 0, none⟩ = some (.int .u8 0) := by
  rw [cell_of_row _ (w.heap.size + 1) 0 #[.int .u8 0] 5 (0, 0) (by have := heap_alloc_last (w.alloc (.cells (nm l) 40)) (.cells #[.int .u8 0] 5); simpa using this)]
  rfl
theorem text_take (l : List Int) : l.take (M.text l).length = M.text l := by
  have h := List.takeWhile_prefix (l := l) (· != 0)
  exact (List.prefix_iff_eq_take.1 h).symm
set_option maxRecDepth 100000 in
theorem text_is (l : List Int) (s : ByteArray) (w : World) (hl : l.length = 8) (hb : Hid (M.Bytes l)) (hs : Hid (s = strOfNums (M.text l))) :
    Calls Tryz.prog 141 #[.agg (nm l)] w fun e w' => e = .returned (.string s) ∧ Below w.heap.size w w' := by
  have HL := Lib.hid hl
  clear hl
  go_enter Tryz.func141, Tryz.ntmps141
  go_wp2_with fail
  refine (cut_is w.heap.size (w.heap.size + 1) l _ HL.out hb.out ((at_alloc w l).below ((Below.refl _ _).alloc (Nat.le_refl _) _)) (one_zero w l)).mono ?_
  rintro e w1 ⟨va, f, rfl, b1⟩
  have A1 := ((at_alloc w l).below ((Below.refl _ _).alloc (Nat.le_refl _) _)).below b1
  have hcv : (convert 74 9 (.slice (some ⟨w.heap.size, 0, none⟩) (M.text l).length 8)).run Tryz.prog w1 = .ok (.string s) w1 := by
    rw [hs.out]
    exact run_convert_bytes_arg (P := Tryz.prog) w1 74 5 Tryz.underlying74 Tryz.underlying5 w.heap.size 0 (M.text l).length 8 (M.text l) rfl (fun i hi => by
      have hi2 : i < l.length := Nat.lt_of_lt_of_le hi (M.text_len l)
      rw [Nat.zero_add, A1.cell i hi2, List.getD_eq_getElem?_getD]
      have := text_take l
      rw [← this, List.getElem?_take, if_pos hi, List.getElem?_eq_getElem hi2]
      rfl) 9 Tryz.underlying9
  have B1 := Lib.hid ((two_below w _ _).trans (b1.mono (by simp; omega)))
  clear A1 b1
  go_wp2_with fail
  go_ret
  exact ⟨rfl, B1.out⟩
end Go.Proofs.YtnpbmihbmilkbaaGreat
namespace Go.Proofs.YtnpbmihbmilkbaaGreat
open Go.RowKit
theorem every_from (l : List Int) (k : Nat) (h : k < l.length) : M.everyFrom k (l.drop k) = (M.good k l[k] && M.everyFrom (k + 1) (l.drop (k + 1))) := by
  rw [List.drop_eq_getElem_cons h]
  rfl
theorem every_end (l : List Int) (k : Nat) (h : l.length ≤ k) : M.everyFrom k (l.drop k) = true := by
  rw [List.drop_eq_nil_of_le h]
  rfl
set_option maxRecDepth 100000 in
theorem every_is (s : ByteArray) (t : List Int) (b : Bool) (w : World) (ht : t.length ≤ 8) (hs : Hid (s = strOfNums t)) (hb : Hid (M.Bytes t)) (hr : Hid (M.every t = b)) :
    Calls Tryz.prog 148 #[.string s, .func (.func 149) #[] #[]] w fun e w' => e = .returned (.bool b) ∧ w = w' := by
  have hsz : s.size = t.length := by rw [hs.out, strOfNums_size]
  go_enter Tryz.func148, Tryz.ntmps148
  go_wp2_with fail
  go_loopw [8] (fun i wr => ∃ k : Nat, k ≤ t.length ∧ i = .int .i64 k ∧ M.everyFrom k (t.drop k) = M.every t ∧ wr = w) (fun i _ => t.length - (intOf i).toNat)
  case atStart => exact ⟨0, Nat.zero_le _, rfl, rfl, rfl⟩
  case round =>
    obtain ⟨k, hk, rfl, hev, rfl⟩ := hrel
    have HE := Lib.hid hev
    clear hev
    by_cases hlt : k < t.length
    · have hix : ∀ w, (Instr.index 9 (.string s) (.int .i64 k)).run Tryz.prog w = .ok (.int .u8 t[k]) w := by rw [hs.out]; exact index_str t hb.out k hlt
      have HF := Lib.hid (every_from t k hlt)
      generalize t[k] = c at hix HF
      obtain ⟨g, hg⟩ : ∃ g, M.good k c = g := ⟨_, rfl⟩
      have HG := Lib.hid hg
      clear hg
      go_wp2_with fail
      refine (good_is k c g _ HG).mono ?_
      rintro e w' ⟨rfl, rfl⟩
      cases g with
      | true =>
        go_wp2_with fail
        go_roundw
        case rel => exact ⟨k + 1, by omega, by go_num, by rw [← HE.out, HF.out, HG.out]; rfl, trivial⟩
        case measure => simp [intOf]; omega
      | false =>
        go_wp2_with fail
        go_ret
        exact ⟨ret_bool (by rw [← hr.out, ← HE.out, HF.out, HG.out]; rfl), rfl⟩
    · obtain rfl : k = t.length := by omega
      go_wp2_with fail
      go_ret
      exact ⟨ret_bool (by rw [← hr.out, ← HE.out, every_end _ _ (Nat.le_refl _)]), rfl⟩
theorem all_from (l : List Int) (k : Nat) (h : k < l.length) : (l.drop k).all M.other = (M.other l[k] && (l.drop (k + 1)).all M.other) := by
  rw [List.drop_eq_getElem_cons h, List.all_cons]
theorem head_is : ∀ (t : List Int) (h : 0 < t.length), t.headD 0 = t[0]
  | _ :: _, _ => rfl
set_option maxRecDepth 100000 in
theorem isN_is (s : ByteArray) (t : List Int) (b : Bool) (w : World) (ht : t.length ≤ 100) (hs : Hid (s = strOfNums t)) (hb : Hid (M.Bytes t)) (hr : Hid (M.isN t = b)) :
    Calls Tryz.prog 63 #[.string s] w fun e w' => e = .returned (.bool b) ∧ w = w' := by
  have hsz : s.size = t.length := by rw [hs.out, strOfNums_size]
  by_cases h1 : t.length < 1
  · have H := Lib.hid (show M.isN t = false by unfold M.isN; simp [show ¬ 1 ≤ t.length by omega])
    have k1 : (t.length : Int) < 1 := by omega
    go_enter Tryz.func63, Tryz.ntmps63
    go_wp2_with fail
    go_ret
    exact ⟨ret_bool (H.out.symm.trans hr.out), rfl⟩
  · have k1 : ¬ (t.length : Int) < 1 := by omega
    by_cases h8 : 8 < t.length
    · have H := Lib.hid (show M.isN t = false by unfold M.isN; simp [show ¬ t.length ≤ 8 by omega])
      have k2 : (8 : Int) < (t.length : Int) := by omega
      go_enter Tryz.func63, Tryz.ntmps63
      go_wp2_with fail
      go_ret
      exact ⟨ret_bool (H.out.symm.trans hr.out), rfl⟩
    · have k2 : ¬ (8 : Int) < (t.length : Int) := by omega
      have hix0 : ∀ w, (Instr.index 9 (.string s) (.int .i64 0)).run Tryz.prog w = .ok (.int .u8 t[0]) w := fun w => by have := index_str t hb.out 0 (by omega) w; rw [← hs.out] at this; exact this
      have H := Lib.hid (show M.isN t = (M.letter t[0] && t.all M.other) by
        unfold M.isN
        rw [head_is t (by omega)]
        have e1 : decide (1 ≤ t.length) = true := by simp; omega
        have e2 : decide (t.length ≤ 8) = true := by simp; omega
        rw [e1, e2]
        rfl)
      generalize t[0] = c0 at hix0 H
      obtain ⟨g, hg⟩ : ∃ g, M.letter c0 = g := ⟨_, rfl⟩
      have HG := Lib.hid hg
      clear hg
      go_enter Tryz.func63, Tryz.ntmps63
      go_wp2_with fail
      refine (letter_is c0 g _ HG).mono ?_
      rintro e w' ⟨rfl, rfl⟩
      cases g with
      | false =>
        go_wp2_with fail
        go_ret
        exact ⟨ret_bool (by rw [← hr.out, H.out, HG.out]; rfl), rfl⟩
      | true =>
        go_wp2_with fail
        clear hix0
        go_loopw [3] (fun i wr => ∃ k : Nat, k ≤ t.length ∧ i = .int .i64 k ∧ (t.drop k).all M.other = t.all M.other ∧ wr = w) (fun i _ => t.length - (intOf i).toNat)
        case atStart => exact ⟨0, Nat.zero_le _, rfl, rfl, rfl⟩
        case round =>
          obtain ⟨k, hk, rfl, hev, rfl⟩ := hrel
          have HE := Lib.hid hev
          clear hev
          by_cases hlt : k < t.length
          · have hix : ∀ w, (Instr.index 9 (.string s) (.int .i64 k)).run Tryz.prog w = .ok (.int .u8 t[k]) w := by rw [hs.out]; exact index_str t hb.out k hlt
            have HF := Lib.hid (all_from t k hlt)
            generalize t[k] = c at hix HF
            obtain ⟨o, ho⟩ : ∃ o, M.other c = o := ⟨_, rfl⟩
            have HO := Lib.hid ho
            clear ho
            go_wp2_with fail
            refine (other_is c o _ HO).mono ?_
            rintro e w' ⟨rfl, rfl⟩
            cases o with
            | true =>
              go_wp2_with fail
              go_roundw
              case rel => exact ⟨k + 1, by omega, by go_num, by rw [← HE.out, HF.out, HO.out]; rfl, trivial⟩
              case measure => simp [intOf]; omega
            | false =>
              go_wp2_with fail
              go_ret
              exact ⟨ret_bool (by rw [← hr.out, H.out, HG.out, ← HE.out, HF.out, HO.out]; rfl), rfl⟩
          · obtain rfl : k = t.length := by omega
            go_wp2_with fail
            go_ret
            exact ⟨ret_bool (by rw [← hr.out, H.out, HG.out, ← HE.out, List.drop_length]; rfl), rfl⟩
theorem text_more (l : List Int) (k : Nat) (h : k < l.length) (hc : l[k] ≠ 0) (ht : M.text l = l.take k ++ M.text (l.drop k)) : M.text l = l.take (k + 1) ++ M.text (l.drop (k + 1)) := by
  rw [ht, List.drop_eq_getElem_cons h, M.text_cons, if_neg hc, List.take_succ_eq_append_getElem h, List.append_assoc]
  rfl
theorem text_stop (l : List Int) (k : Nat) (h : k < l.length) (hc : l[k] = 0) (ht : M.text l = l.take k ++ M.text (l.drop k)) : M.text l = l.take k := by
  rw [ht, List.drop_eq_getElem_cons h, M.text_cons, if_pos hc, List.append_nil]
theorem str_app (a b : List Int) : strOfNums a ++ strOfNums b = strOfNums (a ++ b) := by
  unfold strOfNums
  rw [ByteArray.mk_append_mk, List.map_append]
theorem str_snoc (l : List Int) (k : Nat) (h : k < l.length) : strOfNums (l.take k) ++ strOfNums [l[k]] = strOfNums (l.take (k + 1)) := by
  rw [str_app, List.take_succ_eq_append_getElem h]
theorem conv_one (w : World) (c : Int) : (convert 74 9 (.slice (some ⟨w.heap.size, 0, none⟩) 1 1)).run Tryz.prog (w.alloc (.cells #[.int .u8 c] 5)) = .ok (.string (strOfNums [c])) (w.alloc (.cells #[.int .u8 c] 5)) :=
  run_convert_bytes_arg (P := Tryz.prog) _ 74 5 Tryz.underlying74 Tryz.underlying5 w.heap.size 0 1 1 [c] rfl (fun i hi => by
    rw [Nat.zero_add, cell_of_row _ w.heap.size i #[.int .u8 c] 5 (0, 0) (heap_alloc_last w _)]
    obtain rfl : i = 0 := by omega
    rfl) 9 Tryz.underlying9
set_option maxRecDepth 100000 in
theorem refText_is (l : List Int) (s : ByteArray) (w : World) (hl : l.length = 8) (hs : Hid (s = strOfNums (M.text l))) :
    Calls Tryz.prog 64 #[.agg (nm l)] w fun e w' => e = .returned (.string s) ∧ Below w.heap.size w w' := by
  have HA := Lib.hid (at_alloc w l)
  have HL := Lib.hid hl
  have HB := Lib.hid ((Below.refl w.heap.size w).alloc (Nat.le_refl _) (.cells (nm l) 40))
  clear hl
  go_enter Tryz.func64, Tryz.ntmps64
  go_wp2_with fail
  generalize w.alloc (.cells (nm l) 40) = V at HA HB
  go_loopw [3, 4] (fun x i wr => ∃ k : Nat, k ≤ 8 ∧ i = .int .i64 k ∧ x = .string (strOfNums (l.take k)) ∧ M.text l = l.take k ++ M.text (l.drop k) ∧ At wr w.heap.size l ∧ Below w.heap.size w wr) (fun _ i _ => 8 - (intOf i).toNat)
  case atStart => exact ⟨0, Nat.zero_le _, rfl, rfl, rfl, HA.out, HB.out⟩
  case round =>
    obtain ⟨k, hk, rfl, rfl, ht, hat, hbel⟩ := hrel
    have HT := Lib.hid ht
    have HAT := Lib.hid hat
    have HBL := Lib.hid hbel
    clear ht hat hbel HA HB
    by_cases hlt : k < 8
    · have hk8 : k < l.length := by have := HL.out; omega
      have hix := HAT.out.cell k hk8
      by_cases hc : l[k] = 0
      · have HE := Lib.hid (text_stop l k hk8 hc HT.out)
        rw [hc] at hix
        clear hc hk8
        go_wp2_with fail
        go_ret
        exact ⟨by rw [hs.out, HE.out]; rfl, HBL.out⟩
      · have HM := Lib.hid (text_more l k hk8 hc HT.out)
        have HS := Lib.hid (str_snoc l k hk8)
        obtain ⟨s1, hs1⟩ : ∃ s1, strOfNums (l.take k) = s1 := ⟨_, rfl⟩
        have hz1 : s1.size = k := by rw [← hs1, strOfNums_size, List.length_take]; omega
        have hcv := conv_one wr l[k]
        have hne : (l[k] == 0) = false := by simpa using hc
        generalize l[k] = c at hix HS hcv hne hc
        obtain ⟨s2, hs2⟩ : ∃ s2, strOfNums [c] = s2 := ⟨_, rfl⟩
        have hz2 : s2.size = 1 := by rw [← hs2, strOfNums_size]; rfl
        rw [hs1, hs2] at HS
        rw [hs2] at hcv
        rw [hs1]
        clear hs1 hs2 hk8
        go_wp2_with fail
        go_roundw
        case rel => exact ⟨k + 1, by omega, by go_num, by rw [← HS.out], HM.out, HAT.out.below ((Below.refl _ _).alloc (Nat.le_refl _) _), HBL.out.alloc HBL.out.size _⟩
        case measure => simp [intOf]; omega
    · obtain rfl : k = 8 := by omega
      have HE := Lib.hid (show M.text l = l.take 8 by rw [HT.out, List.drop_eq_nil_of_le (by have := HL.out; omega)]; simp [M.text])
      go_wp2_with fail
      go_ret
      exact ⟨by rw [hs.out, HE.out]; rfl, HBL.out⟩
end Go.Proofs.YtnpbmihbmilkbaaGreat
namespace Go.Proofs.YtnpbmihbmilkbaaGreat
open Go.RowKit
theorem later_same {W : World} {t : Later W} {f : FuncId} {args : Array Value} {v : Value} (h : Calls Tryz.prog f args t.1 fun e w' => e = .returned v ∧ t.1 = w') :
    Calls Tryz.prog f args t.1 fun e w' => e = .returned v ∧ ∃ t' : Later W, w' = t'.1 :=
  h.mono fun _ _ ⟨he, hb⟩ => ⟨he, t, hb.symm⟩
set_option maxRecDepth 100000 in
theorem right_is (l : List Int) (r : Bool) (w : World) (hl : l.length = 8) (hb : Hid (M.Bytes l)) (hr : Hid (M.rightB l = r)) :
    Calls Tryz.prog 132 #[.agg (nm l)] w fun e w' => e = .returned (.bool r) ∧ Below w.heap.size w w' := by
  obtain ⟨s, hs⟩ : ∃ s, s = strOfNums (M.text l) := ⟨_, rfl⟩
  have HS := Lib.hid hs
  obtain ⟨b1, hb1⟩ : ∃ b, (l != M.zero8) = b := ⟨_, rfl⟩
  obtain ⟨b2, hb2⟩ : ∃ b, (M.pad (M.text l) == l) = b := ⟨_, rfl⟩
  obtain ⟨b3, hb3⟩ : ∃ b, M.every (M.text l) = b := ⟨_, rfl⟩
  have HR := Lib.hid (show (b1 && (b2 && b3)) = r by rw [← hb1, ← hb2, ← hb3]; exact hr.out)
  have H1 := Lib.hid hb1
  have H3 := Lib.hid hb3
  have HL := Lib.hid hl
  have HA := Lib.hid (at_alloc w l)
  have HB := Lib.hid ((Below.refl w.heap.size w).alloc (Nat.le_refl _) (.cells (nm l) 40))
  have hq : ∀ w d, (Op.equalIn (d + 2) 40 (.agg (nm (M.pad (M.text l)))) (.agg (nm l))).run Tryz.prog w = .ok b2 w := fun w d => by rw [← hb2]; exact eql23 _ _ (M.pad_len _) hl d w
  have TB := Lib.hid (M.text_bytes hb.out)
  have TL := Lib.hid (show (M.text l).length ≤ 8 by have := M.text_len l; omega)
  clear hs hb1 hb2 hb3 hl
  cases b1 with
  | false =>
    go_enter Tryz.func132, Tryz.ntmps132
    go_wp2_with (refine wpList_load_row rfl 40 _ rfl w.heap.size rfl 40 (nm l) (0, 0) _ HA.out Tryz.underlying40 rfl (size23n HL.out) ?_)
    refine (text_is l s _ HL.out hb HS).mono ?_
    rintro e w1 ⟨rfl, c1⟩
    have A1 := Lib.hid (HA.out.below c1)
    have B1 := Lib.hid (HB.out.trans (c1.mono (by simp)))
    clear c1 HA HB
    go_wp2_with fail
    refine region_later (by kernel_rfl) (by kernel_rfl) ?_
    (go_big_quiet_want; refine quiet_load w.heap.size l _ rfl rfl A1.out HL.out ?_; go_simp; go_big_quiet_on)
    go_big_quiet_step (exact later_call (some_is l false _ HL.out H1))
    repeat go_big_quiet_step (fail)
    refine wpQuiet_nil ?_
    intro w2 hw2
    have B2 := Lib.hid (B1.out.trans (hw2.mono B1.out.size))
    clear hw2
    go_wp2_with fail
    go_ret
    exact ⟨ret_bool HR.out, B2.out⟩
  | true =>
    cases b2 with
    | false =>
      go_enter Tryz.func132, Tryz.ntmps132
      go_wp2_with (refine wpList_load_row rfl 40 _ rfl w.heap.size rfl 40 (nm l) (0, 0) _ HA.out Tryz.underlying40 rfl (size23n HL.out) ?_)
      refine (text_is l s _ HL.out hb HS).mono ?_
      rintro e w1 ⟨rfl, c1⟩
      have A1 := Lib.hid (HA.out.below c1)
      have B1 := Lib.hid (HB.out.trans (c1.mono (by simp)))
      clear c1 HA HB
      go_wp2_with fail
      refine region_later (by kernel_rfl) (by kernel_rfl) ?_
      (go_big_quiet_want; refine quiet_load w.heap.size l _ rfl rfl A1.out HL.out ?_; go_simp; go_big_quiet_on)
      go_big_quiet_step (exact later_call (some_is l true _ HL.out H1))
      go_big_quiet_step (fail)
      go_big_quiet_step (fail)
      go_big_quiet_step (fail)
      go_big_quiet_step (exact later_call (pad_is s (M.text l) _ HS TB))
      (go_big_quiet_want; refine quiet_load w.heap.size l _ rfl rfl A1.out HL.out ?_; go_simp; go_big_quiet_on)
      repeat go_big_quiet_step (fail)
      refine wpQuiet_nil ?_
      intro w2 hw2
      have B2 := Lib.hid (B1.out.trans (hw2.mono B1.out.size))
      clear hw2
      go_wp2_with fail
      go_ret
      exact ⟨ret_bool HR.out, B2.out⟩
    | true =>
      go_enter Tryz.func132, Tryz.ntmps132
      go_wp2_with (refine wpList_load_row rfl 40 _ rfl w.heap.size rfl 40 (nm l) (0, 0) _ HA.out Tryz.underlying40 rfl (size23n HL.out) ?_)
      refine (text_is l s _ HL.out hb HS).mono ?_
      rintro e w1 ⟨rfl, c1⟩
      have A1 := Lib.hid (HA.out.below c1)
      have B1 := Lib.hid (HB.out.trans (c1.mono (by simp)))
      clear c1 HA HB
      go_wp2_with fail
      refine region_later (by kernel_rfl) (by kernel_rfl) ?_
      (go_big_quiet_want; refine quiet_load w.heap.size l _ rfl rfl A1.out HL.out ?_; go_simp; go_big_quiet_on)
      go_big_quiet_step (exact later_call (some_is l true _ HL.out H1))
      go_big_quiet_step (fail)
      go_big_quiet_step (fail)
      go_big_quiet_step (fail)
      go_big_quiet_step (exact later_call (pad_is s (M.text l) _ HS TB))
      (go_big_quiet_want; refine quiet_load w.heap.size l _ rfl rfl A1.out HL.out ?_; go_simp; go_big_quiet_on)
      repeat go_big_quiet_step (fail)
      refine wpQuiet_nil ?_
      intro w2 hw2
      have B2 := Lib.hid (B1.out.trans (hw2.mono B1.out.size))
      clear hw2
      go_wp2_with fail
      refine (every_is s (M.text l) b3 _ TL.out HS TB H3).mono ?_
      rintro e w' ⟨rfl, rfl⟩
      go_wp2_with fail
      go_ret
      exact ⟨ret_bool HR.out, B2.out⟩
set_option maxRecDepth 100000 in
theorem refRight_is (l : List Int) (r : Bool) (w : World) (hl : l.length = 8) (hb : Hid (M.Bytes l)) (hr : Hid (M.rightB l = r)) :
    Calls Tryz.prog 48 #[.agg (nm l)] w fun e w' => e = .returned (.bool r) ∧ Below w.heap.size w w' := by
  obtain ⟨s, hs⟩ : ∃ s, s = strOfNums (M.text l) := ⟨_, rfl⟩
  have HS := Lib.hid hs
  obtain ⟨b1, hb1⟩ : ∃ b, M.isN (M.text l) = b := ⟨_, rfl⟩
  obtain ⟨b2, hb2⟩ : ∃ b, (M.pad (M.text l) == l) = b := ⟨_, rfl⟩
  have HR := Lib.hid (show (b1 && b2) = r by rw [← hb1, ← hb2, ← hr.out, M.right_eq l hl]; rfl)
  have H1 := Lib.hid hb1
  have HL := Lib.hid hl
  have HA := Lib.hid (at_alloc w l)
  have HB := Lib.hid ((Below.refl w.heap.size w).alloc (Nat.le_refl _) (.cells (nm l) 40))
  have hq : ∀ w d, (Op.equalIn (d + 2) 40 (.agg (nm (M.pad (M.text l)))) (.agg (nm l))).run Tryz.prog w = .ok b2 w := fun w d => by rw [← hb2]; exact eql23 _ _ (M.pad_len _) hl d w
  have TB := Lib.hid (M.text_bytes hb.out)
  have TL := Lib.hid (show (M.text l).length ≤ 100 by have := M.text_len l; omega)
  clear hs hb1 hb2 hl
  cases b1 with
  | false =>
    go_enter Tryz.func48, Tryz.ntmps48
    go_wp2_with fail
    generalize w.alloc (.cells (nm l) 40) = W at HA HB
    refine region_later (by kernel_rfl) (by kernel_rfl) ?_
    (go_big_quiet_want; refine quiet_load w.heap.size l _ rfl rfl HA.out HL.out ?_; go_simp; go_big_quiet_on)
    go_big_quiet_step (exact later_call (refText_is l s _ HL.out HS))
    go_big_quiet_step (exact later_same (isN_is s (M.text l) false _ TL.out HS TB H1))
    repeat go_big_quiet_step (fail)
    refine wpQuiet_nil ?_
    intro w2 hw2
    have B2 := Lib.hid (HB.out.trans (hw2.mono HB.out.size))
    clear hw2
    go_wp2_with fail
    go_ret
    exact ⟨ret_bool HR.out, B2.out⟩
  | true =>
    go_enter Tryz.func48, Tryz.ntmps48
    go_wp2_with fail
    generalize w.alloc (.cells (nm l) 40) = W at HA HB
    refine region_later (by kernel_rfl) (by kernel_rfl) ?_
    (go_big_quiet_want; refine quiet_load w.heap.size l _ rfl rfl HA.out HL.out ?_; go_simp; go_big_quiet_on)
    go_big_quiet_step (exact later_call (refText_is l s _ HL.out HS))
    go_big_quiet_step (exact later_same (isN_is s (M.text l) true _ TL.out HS TB H1))
    go_big_quiet_step (fail)
    (go_big_quiet_want; refine quiet_load w.heap.size l _ rfl rfl HA.out HL.out ?_; go_simp; go_big_quiet_on)
    go_big_quiet_step (exact later_call (refText_is l s _ HL.out HS))
    go_big_quiet_step (exact later_call (refPad_is s (M.text l) _ HS TB))
    (go_big_quiet_want; refine quiet_load w.heap.size l _ rfl rfl HA.out HL.out ?_; go_simp; go_big_quiet_on)
    repeat go_big_quiet_step (fail)
    refine wpQuiet_nil ?_
    intro w2 hw2
    have B2 := Lib.hid (HB.out.trans (hw2.mono HB.out.size))
    clear hw2
    go_wp2_with fail
    go_ret
    exact ⟨ret_bool HR.out, B2.out⟩
end Go.Proofs.YtnpbmihbmilkbaaGreat
namespace Go.Proofs.YtnpbmihbmilkbaaGreat
open Go.RowKit
/-- An operation behind a guard that says yes. -/
theorem wanted_on {P : Program} {ops : Array Oper} {Q : Exit → Act → World → Prop} {a : Act} {w : World} {rest : List Oper} {o : Oper}
    (hw : Region.wanted o (yielded ops a.tmps) = true) (h : wpList P ops Q ({ o with guard := none } :: rest) a w) : wpList P ops Q (o :: rest) a w := by
  have hw2 : Region.wanted { o with guard := none } (yielded ops a.tmps) = true := by simp [Region.wanted]
  unfold wpList at h ⊢
  rw [if_pos hw2] at h
  rw [if_pos hw]
  exact h
theorem wpList_load_name {ops : Array Oper} {rest : List Oper} {o : Oper} {a : Act} {w : World} {Q : Exit → Act → World → Prop} (hgd : o.guard = none) (x : Operand) (ho : o.op = .load 40 x) (g : Nat) (l : List Int)
    (hx : a.eval x = .pointer (some ⟨g, 0, none⟩)) (hat : At w g l) (hl : l.length = 8) (h : wpList Tryz.prog ops Q rest (a.put o.dst (.agg (nm l))) w) : wpList Tryz.prog ops Q (o :: rest) a w :=
  wpList_load_row hgd 40 x ho g hx 40 (nm l) (0, 0) _ hat Tryz.underlying40 rfl (size23n hl) h
end Go.Proofs.YtnpbmihbmilkbaaGreat
namespace Go.Proofs.YtnpbmihbmilkbaaGreat
open Go.RowKit
/-- Of the blocks that were there, g alone may have turned. -/
structure Only (g : Nat) (w w' : World) : Prop where
  os : w'.os = w.os
  tape : w'.tape = w.tape
  output : w'.output = w.output
  size : w.heap.size ≤ w'.heap.size
  block : ∀ k, k < w.heap.size → k ≠ g → w'.heap[k]? = w.heap[k]?
theorem Only.refl (g : Nat) (w : World) : Only g w w := ⟨rfl, rfl, rfl, Nat.le_refl _, fun _ _ _ => rfl⟩
theorem Only.trans {g : Nat} {a b c : World} (h : Only g a b) (k : Only g b c) : Only g a c :=
  ⟨k.os.trans h.os, k.tape.trans h.tape, k.output.trans h.output, Nat.le_trans h.size k.size, fun i hi hn => (k.block i (Nat.lt_of_lt_of_le hi h.size) hn).trans (h.block i hi hn)⟩
theorem Only.of_below {g : Nat} {a b : World} (h : Below a.heap.size a b) : Only g a b := ⟨h.os, h.tape, h.output, h.size, fun k hk _ => h.block k hk⟩
theorem Only.below {g B : Nat} {a b : World} (h : Only g a b) (hB : B ≤ g) (hs : B ≤ a.heap.size) : Below B a b := ⟨h.os, h.tape, h.output, h.size, fun k hk => h.block k (by omega) (by omega)⟩
theorem Only.set (g i : Nat) (w : World) (v : Value) : Only g w (w.setCell ⟨g, i, none⟩ v) := ⟨rfl, rfl, rfl, by simp [World.setCell], fun k _ hn => Below.heap_setCell w _ _ _ hn⟩
theorem Only.alloc {g : Nat} {a w : World} (h : Only g a w) (o : Obj) : Only g a (w.alloc o) := h.trans (Only.of_below ((Below.refl _ _).alloc (Nat.le_refl _) _))
theorem Only.drew {g : Nat} {a w : World} (h : Only g a w) : Only g a w.drew := ⟨h.os, h.tape, h.output, h.size, h.block⟩
theorem Only.setCell {g : Nat} {a w : World} (h : Only g a w) (i : Nat) (v : Value) : Only g a (w.setCell ⟨g, i, none⟩ v) := h.trans (Only.set g i w v)
/-- The block g of type t holds the cells cs. -/
def Blk (w : World) (g t : Nat) (cs : List Value) : Prop := w.heap[g]? = some (.cells cs.toArray t)
theorem Blk.lt {w : World} {g t : Nat} {cs : List Value} (h : Blk w g t cs) : g < w.heap.size := (Array.getElem?_eq_some_iff.1 h).1
theorem Blk.cell {w : World} {g t : Nat} {cs : List Value} (h : Blk w g t cs) {i : Nat} {v : Value} (hi : cs[i]? = some v) : w.cell? ⟨g, i, none⟩ = some v := by
  rw [cell_of_row _ g i cs.toArray t (0, 0) h]
  simpa using hi
theorem Blk.frozen {w : World} {g t : Nat} {cs : List Value} (h : Blk w g t cs) (i : Nat) : w.frozen? ⟨g, i, none⟩ = false := by
  unfold World.frozen?
  simp [Blk] at h
  simp [h]
theorem Blk.only {w w' : World} {g x t : Nat} {cs : List Value} (h : Blk w g t cs) (ho : Only x w w') (hn : g ≠ x) : Blk w' g t cs := (ho.block g h.lt hn).trans h
theorem Blk.below {w w' : World} {g t : Nat} {cs : List Value} (h : Blk w g t cs) (ho : Below w.heap.size w w') : Blk w' g t cs := (ho.block g h.lt).trans h
theorem blk_alloc (w : World) (t : Nat) (cs : List Value) : Blk (w.alloc (.cells cs.toArray t)) w.heap.size t cs := heap_alloc_last w _
theorem Blk.alloc {w : World} {g t : Nat} {cs : List Value} (h : Blk w g t cs) (o : Obj) : Blk (w.alloc o) g t cs := h.below ((Below.refl _ _).alloc (Nat.le_refl _) _)
theorem Blk.drew {w : World} {g t : Nat} {cs : List Value} (h : Blk w g t cs) : Blk w.drew g t cs := h
theorem Blk.set {w : World} {g t : Nat} {cs : List Value} (h : Blk w g t cs) (i : Nat) (v : Value) : Blk (w.setCell ⟨g, i, none⟩ v) g t (cs.set i v) := by
  unfold Blk at *
  simp only [World.setCell, Array.getElem?_modify, if_true, h, Option.map_some]
  simp
theorem Blk.other {w : World} {g x t : Nat} {cs : List Value} (h : Blk w g t cs) (i : Nat) (v : Value) (hn : g ≠ x) : Blk (w.setCell ⟨x, i, none⟩ v) g t cs := h.only (Only.set x i w v) hn
theorem Blk.range {w : World} {g t : Nat} {cs : List Value} (h : Blk w g t cs) : w.rangeAt g 0 cs := fun j v hv => by rw [Nat.zero_add]; exact h.cell hv
theorem Blk.there {w : World} {g t : Nat} {cs : List Value} (h : Blk w g t cs) (o n : Nat) (hn : o + n ≤ cs.length) : w.there g o n := fun j hj => by
  refine ⟨?_, h.frozen _⟩
  rw [h.cell (List.getElem?_eq_getElem (by omega))]
  rfl
/-- The value v is a slice of the bytes l, which lie in block R (none: there are none). -/
def BytesIn (R : Option Nat) (w : World) (v : Value) (l : List Int) : Prop := BytesAt w v l ∧ ∀ g off n cap, v = .slice (some ⟨g, off, none⟩) n cap → 0 < n → R = some g
theorem BytesIn.only {R : Option Nat} {x : Nat} {w w' : World} {v : Value} {l : List Int} (h : BytesIn R w v l) (ho : Only x w w') (hn : R ≠ some x) : BytesIn R w' v l := by
  obtain ⟨⟨a, cap, rfl, hcap, hb, hc⟩, hR⟩ := h
  refine ⟨⟨a, cap, rfl, hcap, hb, fun h0 => ?_⟩, hR⟩
  obtain ⟨g, off, rfl, hg, hcell⟩ := hc h0
  have hx := hR g off _ _ rfl h0
  refine ⟨g, off, rfl, Nat.lt_of_lt_of_le hg ho.size, fun i hi => ?_⟩
  rw [← hcell i hi]
  simp only [World.cell?, ho.block g hg (fun e => hn (e ▸ hx))]
theorem BytesIn.below {R : Option Nat} {w w' : World} {v : Value} {l : List Int} (h : BytesIn R w v l) (hb : Below w.heap.size w w') : BytesIn R w' v l := ⟨h.1.below hb, h.2⟩
theorem BytesIn.nil (R : Option Nat) (w : World) : BytesIn R w (.slice none 0 0) [] := ⟨bytes_nil w, fun _ _ _ _ h => by cases h⟩
theorem BytesIn.at_ {R : Option Nat} {w : World} {v : Value} {l : List Int} (h : BytesIn R w v l) : BytesAt w v l := h.1
/-- What the cursor's error is behind keep. -/
def kept (f e : Int) : Int := if f = 0 then e else f
end Go.Proofs.YtnpbmihbmilkbaaGreat
