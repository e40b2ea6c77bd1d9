/- The contracts of the functions on the bytes of names. The contracts of pad of package name and of Pad of the reference. -/
import Derived.Test.YtnpbmihbmilkbaaGreatG03
import Derived.Laws.BitsAllLaws
namespace Go.Proofs.YtnpbmihbmilkbaaGreat
open Go.RowKit
theorem letter_is (c : Int) (b : Bool) (w : World) (hb : Hid (M.letter c = b)) :
    Calls Tryz.prog 90 #[.int .u8 c] w fun e w' => e = .returned (.bool b) ∧ w = w' := by
  by_cases h1 : 97 ≤ c
  · have H := Lib.hid (show M.letter c = decide (c ≤ 122) by unfold M.letter; simp [h1])
    go_enter Tryz.func90, Tryz.ntmps90
    go_wp2_with fail
    go_ret
    exact ⟨ret_bool (H.out.symm.trans hb.out), rfl⟩
  · have H := Lib.hid (show M.letter c = false by unfold M.letter; simp [h1])
    go_enter Tryz.func90, Tryz.ntmps90
    go_wp2_with fail
    go_ret
    exact ⟨ret_bool (H.out.symm.trans hb.out), rfl⟩
theorem other_is (c : Int) (b : Bool) (w : World) (hb : Hid (M.other c = b)) :
    Calls Tryz.prog 91 #[.int .u8 c] w fun e w' => e = .returned (.bool b) ∧ w = w' := by
  cases hl : M.letter c with
  | true =>
    have H := Lib.hid (show M.other c = true by unfold M.other; simp [hl])
    have HL := Lib.hid hl
    clear hl
    go_enter Tryz.func91, Tryz.ntmps91
    go_wp2_with fail
    refine (letter_is c true _ HL).mono ?_
    rintro e w' ⟨rfl, rfl⟩
    go_wp2_with fail
    go_ret
    exact ⟨ret_bool (H.out.symm.trans hb.out), rfl⟩
  | false =>
    have HL := Lib.hid hl
    have H := Lib.hid (show M.other c = (M.digit c || c == 45) by unfold M.other; simp [hl])
    clear hl
    by_cases h1 : 48 ≤ c
    · by_cases h2 : c ≤ 57
      · have H2 := Lib.hid (show M.digit c = true by unfold M.digit; simp [h1, h2])
        go_enter Tryz.func91, Tryz.ntmps91
        go_wp2_with fail
        refine (letter_is c false _ HL).mono ?_
        rintro e w' ⟨rfl, rfl⟩
        go_wp2_with fail
        go_ret
        exact ⟨ret_bool (by rw [← hb.out, H.out, H2.out]; rfl), rfl⟩
      · have H2 := Lib.hid (show M.digit c = decide (c ≤ 57) by unfold M.digit; simp [h1])
        go_enter Tryz.func91, Tryz.ntmps91
        go_wp2_with fail
        refine (letter_is c false _ HL).mono ?_
        rintro e w' ⟨rfl, rfl⟩
        go_wp2_with fail
        go_ret
        exact ⟨ret_bool (by rw [← hb.out, H.out, H2.out]), rfl⟩
    · have H2 := Lib.hid (show M.digit c = false by unfold M.digit; simp [h1])
      go_enter Tryz.func91, Tryz.ntmps91
      go_wp2_with fail
      refine (letter_is c false _ HL).mono ?_
      rintro e w' ⟨rfl, rfl⟩
      go_wp2_with fail
      go_ret
      exact ⟨ret_bool (by rw [← hb.out, H.out, H2.out]; rfl), rfl⟩
theorem good_is (i : Nat) (c : Int) (b : Bool) (w : World) (hb : Hid (M.good i c = b)) :
    Calls Tryz.prog 149 #[.int .i64 i, .int .u8 c] w fun e w' => e = .returned (.bool b) ∧ w = w' := by
  by_cases h1 : 97 ≤ c
  · by_cases h2 : c ≤ 122
    · have H := Lib.hid (show M.good i c = true by unfold M.good M.letter; simp [h1, h2])
      go_enter Tryz.func149, Tryz.ntmps149
      go_wp2_with fail
      go_ret
      exact ⟨ret_bool (H.out.symm.trans hb.out), rfl⟩
    · have h3 : 48 ≤ c := by omega
      have h4 : ¬ c ≤ 57 := by omega
      have h5 : (c == 45) = false := by simp; omega
      have H := Lib.hid (show M.good i c = false by unfold M.good M.letter M.digit; simp [h2, h4, h5])
      go_enter Tryz.func149, Tryz.ntmps149
      go_wp2_with fail
      go_ret
      exact ⟨ret_bool (H.out.symm.trans hb.out), rfl⟩
  · by_cases h3 : 48 ≤ c
    · by_cases h4 : c ≤ 57
      · have H := Lib.hid (show M.good i c = decide (0 < i) by unfold M.good M.letter M.digit; simp [h1, h3, h4])
        go_enter Tryz.func149, Tryz.ntmps149
        go_wp2_with fail
        go_ret
        exact ⟨ret_bool (H.out.symm.trans hb.out), rfl⟩
      · have h5 : (c == 45) = false := by simp; omega
        have H := Lib.hid (show M.good i c = false by unfold M.good M.letter M.digit; simp [h1, h4, h5])
        go_enter Tryz.func149, Tryz.ntmps149
        go_wp2_with fail
        go_ret
        exact ⟨ret_bool (H.out.symm.trans hb.out), rfl⟩
    · by_cases h5 : c = 45
      · subst h5
        have H := Lib.hid (show M.good i 45 = decide (0 < i) by unfold M.good M.letter M.digit; simp)
        go_enter Tryz.func149, Tryz.ntmps149
        go_wp2_with fail
        go_ret
        exact ⟨ret_bool (H.out.symm.trans hb.out), rfl⟩
      · have h5 : (c == 45) = false := by simpa using h5
        have H := Lib.hid (show M.good i c = false by unfold M.good M.letter M.digit; simp [h1, h3, h5])
        go_enter Tryz.func149, Tryz.ntmps149
        go_wp2_with fail
        go_ret
        exact ⟨ret_bool (H.out.symm.trans hb.out), rfl⟩
theorem some_is (l : List Int) (b : Bool) (w : World) (hl : l.length = 8) (hb : Hid ((l != M.zero8) = b)) :
    Calls Tryz.prog 133 #[.agg (nm l)] w fun e w' => e = .returned (.bool b) ∧ Below w.heap.size w w' := by
  have h0 := zero23
  have HA := Lib.hid (at_alloc w l)
  have hq := fun w d => eql23 l M.zero8 hl rfl d w
  have hs := size23n hl
  have HS := Lib.hid hs
  clear hs
  go_enter Tryz.func133, Tryz.ntmps133
  go_wp2_with (refine wpList_load_row rfl 40 _ rfl w.heap.size rfl 40 (nm l) (0, 0) _ HA.out Tryz.underlying40 rfl HS.out ?_)
  go_ret
  exact ⟨ret_bool (by rw [← hb.out]; rfl), (Below.refl _ _).alloc (Nat.le_refl _) _⟩
end Go.Proofs.YtnpbmihbmilkbaaGreat
namespace Go.Proofs.YtnpbmihbmilkbaaGreat
open Go.RowKit
theorem sizeof5 (w : World) : (sizeOf 5).run Tryz.prog w = .ok 1 w := by
  have h : (Tryz.prog.info? 5).map (·.size) = some 1 := by kernel_rfl
  cases hq : Tryz.prog.info? 5 with
  | none => simp [hq] at h
  | some i =>
    have hi : i.size = 1 := by simpa [hq] using h
    simp [sizeOf, typeInfo, hq, hi]
theorem index_nm (l : List Int) (hl : l.length = 8) (k : Nat) (h : k < 8) (w : World) : (Instr.index 40 (.agg (nm l)) (.int .i64 k)).run Tryz.prog w = .ok (.int .u8 (l[k]'(by omega))) w := by
  have h1 : (0 : Int) ≤ (k : Int) ∧ (k : Int) < 8 := by omega
  have h2 := part_nm l k (by omega) w
  simp only [Instr.index, asIntOf, Sem.run_bind, Sem.run_pure, Result.andThen_ok, run_underlying Tryz.underlying40]
  simp only [Int.natCast_nonneg, true_and]
  rw [if_pos (by omega)]
  simp only [Sem.run_bind, sizeof5, Result.andThen_ok, Nat.mul_one, Int.toNat_natCast]
  exact h2
theorem take_bytes {l : List Int} (h : M.Bytes l) (k : Nat) : M.Bytes (l.take k) := fun x hx => h x (List.mem_of_mem_take hx)
/-- A row of a name being filled. -/
abbrev rowN (f : Nat → Int) : Nat → Value := fun j => .int .u8 (f j)
theorem row_all {w : World} {g : Nat} {l : List Int} (hl : l.length = 8) {f : Nat → Int} (h : w.rowIs g 40 8 (rowN f)) (hf : ∀ i (hi : i < l.length), f i = l[i]) : At w g l := by
  obtain ⟨c, h1, h2, h3⟩ := h
  have e : c = nm l := nm_of (by omega) (fun i hi => by rw [h3 i (by omega)]; show some (Value.int .u8 (f i)) = _; rw [hf i hi])
  unfold At
  rw [← e]
  exact h1
theorem row_zero (w : World) : (w.alloc (.cells (nm M.zero8) 40)).rowIs w.heap.size 40 8 (rowN fun _ => 0) := by
  have h := World.rowIs_alloc w (nm M.zero8) 40 (rowN fun _ => 0) (fun i hi => by
    rw [nm_size] at hi
    have : i = 0 ∨ i = 1 ∨ i = 2 ∨ i = 3 ∨ i = 4 ∨ i = 5 ∨ i = 6 ∨ i = 7 := by simp [M.zero8] at hi; omega
    rcases this with rfl | rfl | rfl | rfl | rfl | rfl | rfl | rfl <;> rfl)
  rwa [nm_size] at h
theorem at_setCell {w : World} {g b o : Nat} {l : List Int} (v : Value) (h : At w g l) (hne : b ≠ g) : At (w.setCell ⟨b, o, none⟩ v) g l := by
  unfold At at *
  rw [← h]
  simp [World.setCell, Array.getElem?_modify, hne]
theorem two_at (w : World) (o : Obj) : At ((w.alloc (.cells (nm M.zero8) 40)).alloc o) w.heap.size M.zero8 := (at_alloc w M.zero8).below ((Below.refl _ _).alloc (Nat.le_refl _) _)
theorem two_row (w : World) (o : Obj) : ((w.alloc o).alloc (.cells (nm M.zero8) 40)).rowIs (w.heap.size + 1) 40 8 (rowN fun _ => 0) := by
  have := row_zero (w.alloc o)
  simpa using this
theorem two_below (w : World) (o o' : Obj) : Below w.heap.size w ((w.alloc o).alloc o') := ((Below.refl _ _).alloc (Nat.le_refl _) _).alloc (by simp) _
theorem str_cells (t : List Int) (hb : M.Bytes t) (n : Nat) : (((strOfNums t).extract 0 n).data.map fun b => Value.int .u8 b.toNat).toList = (t.take n).map (Value.int .u8) := by
  rw [Array.toList_map, ByteArray.data_extract]
  have e : ((strOfNums t).data.extract 0 n).toList = (t.take n).map fun x => UInt8.ofNat x.toNat := by
    rw [Array.toList_extract, strOfNums_data, List.extract_eq_take_drop, List.drop_zero, ← List.map_take]
    simp
  rw [e, List.map_map]
  apply List.map_congr_left
  intro x hx
  show Value.int .u8 ((UInt8.ofNat x.toNat).toNat : Int) = Value.int .u8 x
  rw [M.byte_back (hb x (List.mem_of_mem_take hx))]
theorem pad_cells (t : List Int) : ((t.take (Nat.min t.length 8)).map (Value.int .u8) ++ (nm M.zero8).toList.drop (Nat.min t.length 8)).toArray = nm (M.pad t) := by
  refine nm_of ?_ fun i hi => ?_
  · rw [M.pad_len]
    have : (nm M.zero8).toList.length = 8 := rfl
    have hm : (Nat.min t.length 8) = min t.length 8 := rfl
    simp only [List.size_toArray, List.length_append, List.length_map, List.length_take, List.length_drop, this]
    omega
  · rw [M.pad_len] at hi
    have hp := M.pad_get t i hi
    rw [List.getElem?_eq_getElem (by rw [M.pad_len]; omega)] at hp
    injection hp with hp
    rw [hp, List.getElem?_toArray]
    have hm : (Nat.min t.length 8) = min t.length 8 := rfl
    by_cases h : i < t.length
    · rw [List.getElem?_append_left (by simp; omega), List.getElem?_map, List.getElem?_take, if_pos (by omega), List.getElem?_eq_getElem h, List.getD_eq_getElem?_getD, List.getElem?_eq_getElem h]
      rfl
    · rw [List.getElem?_append_right (by simp; omega), List.getElem?_drop, List.getD_eq_getElem?_getD, List.getElem?_eq_none (by omega : t.length ≤ i)]
      have e : (List.map (Value.int IntKind.u8) (List.take (Nat.min t.length 8) t)).length = min t.length 8 := by simp
      rw [e, show Nat.min t.length 8 + (i - min t.length 8) = i by omega]
      have : i = 0 ∨ i = 1 ∨ i = 2 ∨ i = 3 ∨ i = 4 ∨ i = 5 ∨ i = 6 ∨ i = 7 := by omega
      rcases this with rfl | rfl | rfl | rfl | rfl | rfl | rfl | rfl <;> rfl
theorem run_copy_str (w : World) (g : Nat) (ty : TypeId) (t : List Int) (hb : M.Bytes t) (hat : At w g M.zero8) :
    (Builtin.copy_ #[74, 9] ty #[.slice (some ⟨g, 0, none⟩) 8 8, .string (strOfNums t)]).run Tryz.prog w = .ok (goInt (Nat.min t.length 8)) (w.setRow g (nm (M.pad t))) := by
  have hst := run_storeCells_at Tryz.prog g 0 40 ((t.take (Nat.min t.length 8)).map (Value.int .u8)) 0 (nm M.zero8) w hat (by rw [nm_size]; simp [M.zero8]; omega) (fun v hv => by obtain ⟨x, _, rfl⟩ := List.mem_map.1 hv; rfl)
  have e : ((t.take (Nat.min t.length 8)).map (Value.int .u8)).length = Nat.min t.length 8 := by simp
  rw [e] at hst
  simp only [Nat.zero_add, List.take_zero, List.nil_append] at hst
  rw [pad_cells] at hst
  simp only [Builtin.copy_, Builtin.lenOf, Builtin.firstCells]
  simp only [List.getElem?_toArray, List.getElem?_cons_zero, List.getElem?_cons_succ, Sem.run_bind, run_underlying Tryz.underlying74, Result.andThen_ok, Sem.run_pure, strOfNums_size, sizeof5, str_cells t hb, hst]
theorem at_setRow {w : World} {g b : Nat} {l : List Int} (cs : Array Value) (h : At w g l) (hne : g ≠ b) : At (w.setRow b cs) g l := by
  unfold At at *
  rw [setRow_other w b g cs hne]
  exact h
theorem at_setRow_same {w : World} {g : Nat} {l m : List Int} (h : At w g l) : At (w.setRow g (nm m)) g m := setRow_heap _ _ _ _ _ _ h
theorem two_last (w : World) (o : Obj) (l : List Int) : At ((w.alloc o).alloc (.cells (nm l) 40)) (w.heap.size + 1) l := by
  have := at_alloc (w.alloc o) l
  simpa using this
theorem copy_fact (s : ByteArray) (t : List Int) (w : World) (hs : s = strOfNums t) (hb : M.Bytes t) : ∃ (n : Int) (V : World),
    (Builtin.copy_ #[74, 9] 3 #[.slice (some ⟨w.heap.size + 1, 0, none⟩) 8 8, .string s]).run Tryz.prog ((w.alloc (.cells (nm M.zero8) 40)).alloc (.cells (nm M.zero8) 40)) = .ok (.int .i64 n) V ∧
    At V (w.heap.size + 1) (M.pad t) ∧ At V w.heap.size M.zero8 ∧ Below w.heap.size w V := by
  rw [hs]
  exact ⟨_, _, run_copy_str _ (w.heap.size + 1) 3 t hb (two_last w _ _), at_setRow_same (two_last w _ _), at_setRow _ (two_at w _) (by omega), below_setRow (two_below w _ _) (by omega) _⟩
set_option maxRecDepth 100000 in
theorem pad_is (s : ByteArray) (t : List Int) (w : World) (hs : Hid (s = strOfNums t)) (hb : Hid (M.Bytes t)) :
    Calls Tryz.prog 147 #[.string s] w fun e w' => e = .returned (.agg (nm (M.pad t))) ∧ Below w.heap.size w w' := by
  have hz := zero23
  have HL := Lib.hid (M.pad_len t)
  obtain ⟨n, V, hcopy, h1, h2, h3⟩ := copy_fact s t w hs.out hb.out
  have HV := Lib.hid h1
  have HV0 := Lib.hid h2
  have HB := Lib.hid h3
  clear h1 h2 h3
  go_enter Tryz.func147, Tryz.ntmps147
  go_wp2_with (first
    | refine wpList_load_row rfl 40 _ rfl (w.heap.size + 1) rfl 40 (nm (M.pad t)) (0, 0) _ HV.out Tryz.underlying40 rfl (size23n HL.out) ?_
    | refine wpList_store_row rfl 40 _ _ rfl w.heap.size (nm (M.pad t)) rfl rfl 40 (nm M.zero8) HV0.out (size23n HL.out) (by rw [nm_size, nm_size, HL.out]; rfl) (nm_one _) ?_)
  refine bodyPost_ret (results_cell_row rfl _ _ w.heap.size 40 (nm (M.pad t)) (0, 0) _ rfl (setRow_heap _ _ _ _ _ _ HV0.out) Tryz.underlying40 rfl (size23n HL.out)) rfl ?_
  exact ⟨rfl, below_setRow HB.out (Nat.le_refl _) _⟩
theorem index_str (t : List Int) (hb : M.Bytes t) (k : Nat) (h : k < t.length) (w : World) : (Instr.index 9 (.string (strOfNums t)) (.int .i64 k)).run Tryz.prog w = .ok (.int .u8 t[k]) w := by
  have e : (strOfNums t)[k]? = some (UInt8.ofNat (t[k]).toNat) := by
    have hk : k < (strOfNums t).size := by rw [strOfNums_size]; exact h
    rw [getElem?_pos (strOfNums t) k hk]
    congr 1
    show (strOfNums t).data[k] = _
    rw [← Array.getElem_toList]
    simp [strOfNums_data]
  simp only [Instr.index, asIntOf, Sem.run_bind, Sem.run_pure, Result.andThen_ok, run_underlying Tryz.underlying9, Int.natCast_nonneg, if_true, Int.toNat_natCast, e]
  rw [M.byte_back (hb.at_ k h)]
def padF (t : List Int) (k : Nat) : Nat → Int := fun j => if j < k then t.getD j 0 else 0
theorem padF_step {w : World} {g : Nat} {t : List Int} {k : Nat} {c : Int} (h : w.rowIs g 40 8 (rowN (padF t k))) (hc : t.getD k 0 = c) : (w.setCell ⟨g, k, none⟩ (.int .u8 c)).rowIs g 40 8 (rowN (padF t (k + 1))) := by
  refine (h.set k (.int .u8 c)).congr fun j _ => ?_
  show (if j = k then _ else Value.int .u8 (padF t k j)) = Value.int .u8 (padF t (k + 1) j)
  unfold padF
  by_cases e : j = k
  · rw [if_pos e, if_pos (by omega), e, hc]
  · rw [if_neg e]
    by_cases hl : j < k
    · rw [if_pos hl, if_pos (by omega)]
    · rw [if_neg hl, if_neg (by omega)]
theorem padF_all (t : List Int) (k : Nat) (hk : 8 ≤ k ∨ t.length ≤ k) (i : Nat) (hi : i < (M.pad t).length) : padF t k i = (M.pad t)[i] := by
  have h8 := hi
  rw [M.pad_len] at h8
  have hp := M.pad_get t i h8
  rw [List.getElem?_eq_getElem hi] at hp
  injection hp with hp
  rw [hp]
  unfold padF
  by_cases h : i < k
  · rw [if_pos h]
  · rw [if_neg h, List.getD_eq_getElem?_getD, List.getElem?_eq_none (by omega)]
    rfl
set_option maxRecDepth 100000 in
theorem refPad_is (s : ByteArray) (t : List Int) (w : World) (hs : Hid (s = strOfNums t)) (hb : Hid (M.Bytes t)) :
    Calls Tryz.prog 65 #[.string s] w fun e w' => e = .returned (.agg (nm (M.pad t))) ∧ Below w.heap.size w w' := by
  have hz := zero23
  have HL := Lib.hid (M.pad_len t)
  have hsz : s.size = t.length := by rw [hs.out, strOfNums_size]
  go_enter Tryz.func65, Tryz.ntmps65
  go_wp2_with fail
  go_loopw [4] (fun i wr => ∃ k : Nat, k ≤ 8 ∧ i = .int .i64 k ∧ wr.rowIs (w.heap.size + 1) 40 8 (rowN (padF t k)) ∧ At wr w.heap.size M.zero8 ∧ Below w.heap.size w wr) (fun i _ => 8 - (intOf i).toNat)
  case atStart => exact ⟨0, Nat.zero_le _, rfl, (two_row w _).congr (fun j hj => by show _ = Value.int .u8 (padF t 0 j); unfold padF; rw [if_neg (by omega)]), two_at w _, two_below w _ _⟩
  case round =>
    obtain ⟨k, hk, rfl, hrow, hat, hbel⟩ := hrel
    by_cases hlt : k < t.length ∧ k < 8
    · obtain ⟨hlt1, hlt2⟩ := hlt
      have hix : ∀ w, (Instr.index 9 (.string s) (.int .i64 k)).run Tryz.prog w = .ok (.int .u8 t[k]) w := by rw [hs.out]; exact index_str t hb.out k hlt1
      have hcell := hrow.cell hlt2
      have hfro := hrow.frozen k
      have HC := Lib.hid (show t.getD k 0 = t[k] by rw [List.getD_eq_getElem?_getD, List.getElem?_eq_getElem hlt1]; rfl)
      generalize t[k] = c at hix HC
      have HR := Lib.hid hrow
      have HAT := Lib.hid hat
      clear hrow hat hz
      go_wp2_with fail
      go_roundw
      case rel => exact ⟨k + 1, by omega, by go_num, padF_step HR.out HC.out, at_setCell _ HAT.out (by omega), hbel.setCell (by simp) _⟩
      case measure => simp [intOf]; omega
    · have hh := row_all (M.pad_len t) hrow (padF_all t k (by omega))
      have HH := Lib.hid hh
      have HAT := Lib.hid hat
      clear hh hat hrow hz
      by_cases hl : k < t.length
      · obtain rfl : k = 8 := by omega
        go_wp2_with (first | refine wpList_load_row rfl 40 _ rfl (w.heap.size + 1) rfl 40 (nm (M.pad t)) (0, 0) _ HH.out Tryz.underlying40 rfl (size23n HL.out) ?_ | refine wpList_store_row rfl 40 _ _ rfl w.heap.size (nm (M.pad t)) rfl rfl 40 (nm M.zero8) HAT.out (size23n HL.out) (by rw [nm_size, nm_size, HL.out]; rfl) (nm_one _) ?_)
        refine bodyPost_ret (results_cell_row rfl _ _ w.heap.size 40 (nm (M.pad t)) (0, 0) _ rfl (setRow_heap _ _ _ _ _ _ HAT.out) Tryz.underlying40 rfl (size23n HL.out)) rfl ?_
        exact ⟨rfl, below_setRow hbel (Nat.le_refl _) _⟩
      · have hl2 : ¬ (k : Int) < (t.length : Int) := by omega
        go_wp2_with (first | refine wpList_load_row rfl 40 _ rfl (w.heap.size + 1) rfl 40 (nm (M.pad t)) (0, 0) _ HH.out Tryz.underlying40 rfl (size23n HL.out) ?_ | refine wpList_store_row rfl 40 _ _ rfl w.heap.size (nm (M.pad t)) rfl rfl 40 (nm M.zero8) HAT.out (size23n HL.out) (by rw [nm_size, nm_size, HL.out]; rfl) (nm_one _) ?_)
        refine bodyPost_ret (results_cell_row rfl _ _ w.heap.size 40 (nm (M.pad t)) (0, 0) _ rfl (setRow_heap _ _ _ _ _ _ HAT.out) Tryz.underlying40 rfl (size23n HL.out)) rfl ?_
        exact ⟨rfl, below_setRow hbel (Nat.le_refl _) _⟩
end Go.Proofs.YtnpbmihbmilkbaaGreat
