/- The contracts of encoding, Bytes and Size of package atom, and of alive. -/
import Derived.Test.YteggjihhjdeieaaAWrite
namespace Go.Proofs.Yteggjihhjdeieaa
open Go.RowKit

set_option maxRecDepth 100000 in
theorem encoding_is (a : Am) (w : World) (ha : a.Ok) : Calls Try.prog 36 #[.agg a.cells.toArray] w fun e w' => e = .returned (.func (.func 19) #[.pointer (some ⟨w.heap.size + 1, 0, none⟩)] #[]) ∧ WrAt w' (w.heap.size + 1) (abytes a) ∧ Below w.heap.size w w' := by
  have S0 := Lib.hid (as_new w a)
  have HA := Lib.hid ha
  have hz : (w.alloc (.cells a.cells.toArray 32)).heap.size = w.heap.size + 1 := by simp
  have NW := new_is (w.alloc (.cells a.cells.toArray 32))
  rw [hz] at NW
  have HN := Lib.hid NW
  clear ha hz NW
  cases hr : a.right with
  | false =>
    have HR := Lib.hid hr
    have E := Lib.hid (show abytes a = [] by unfold abytes; rw [hr]; rfl)
    clear hr
    go_enter Try.func36, Try.ntmps36
    go_wp2_with fail
    refine (HN.out).mono ?_
    rintro e w1 ⟨rfl, hw, hb⟩
    have W1 := Lib.hid hw
    have S1 := Lib.hid (S0.out.below (by rw [show (w.alloc (.cells a.cells.toArray 32)).heap.size = w.heap.size + 1 by simp]; exact hb))
    clear hw hb HN
    go_wp2_with (refine wpList_load_am rfl _ rfl w.heap.size a rfl S1.out.blk HA.out ?_)
    refine (aright_is a false _ HA.out HR).mono ?_
    rintro e w2 ⟨rfl, b2⟩
    have W2 := Lib.hid (W1.out.below b2)
    have S2 := Lib.hid (S1.out.below b2)
    clear b2
    go_wp2_with fail
    go_ret
    exact ⟨rfl, by rw [E.out]; exact W2.out, S2.out.bel⟩
  | true =>
    have HR := Lib.hid hr
    have E := Lib.hid (show abytes a = aenc a by unfold abytes; rw [hr]; rfl)
    clear hr
    go_enter Try.func36, Try.ntmps36
    go_wp2_with fail
    refine (HN.out).mono ?_
    rintro e w1 ⟨rfl, hw, hb⟩
    have W1 := Lib.hid hw
    have S1 := Lib.hid (S0.out.below (by rw [show (w.alloc (.cells a.cells.toArray 32)).heap.size = w.heap.size + 1 by simp]; exact hb))
    clear hw hb HN
    go_wp2_with (refine wpList_load_am rfl _ rfl w.heap.size a rfl S1.out.blk HA.out ?_)
    refine (aright_is a true _ HA.out HR).mono ?_
    rintro e w2 ⟨rfl, b2⟩
    have W2 := Lib.hid (W1.out.below b2)
    have S2 := Lib.hid (S1.out.below b2)
    clear b2
    go_wp2_with (refine wpList_load_am rfl _ rfl w.heap.size a rfl S2.out.blk HA.out ?_)
    refine (awrite_is (w.heap.size + 1) [] a _ W2.out HA.out (by simp) HR.out).mono ?_
    rintro e w3 ⟨⟨y, rfl⟩, hw, hb, _⟩
    have W3 := Lib.hid hw
    have B3 := Lib.hid (S2.out.bel.trans (hb.mono (Nat.le_succ _)))
    clear hw hb
    go_wp2_with fail
    go_ret
    exact ⟨rfl, by rw [E.out]; exact W3.out, B3.out⟩
set_option maxRecDepth 100000 in
theorem abytes_is (a : Am) (w : World) (ha : a.Ok) : Calls Try.prog 21 #[.agg a.cells.toArray] w (GivesBytes w (abytes a)) := by
  have S0 := Lib.hid (as_new w a)
  have HA := Lib.hid ha
  have HL := Lib.hid (abytes_len ha)
  have hz : (w.alloc (.cells a.cells.toArray 32)).heap.size = w.heap.size + 1 := by simp
  have NW := encoding_is a (w.alloc (.cells a.cells.toArray 32)) ha
  rw [hz] at NW
  have HN := Lib.hid NW
  clear ha hz NW
  go_enter Try.func21, Try.ntmps21
  go_wp2_with (refine wpList_load_am rfl _ rfl w.heap.size a rfl S0.out.blk HA.out ?_)
  refine (HN.out).mono ?_
  rintro e w1 ⟨rfl, hw, hb⟩
  have W1 := Lib.hid hw
  have S1 := Lib.hid (S0.out.below (by rw [show (w.alloc (.cells a.cells.toArray 32)).heap.size = w.heap.size + 1 by simp]; exact hb))
  clear hw hb HN
  go_wp2_with fail
  refine (out_is (w.heap.size + 1 + 1) (abytes a) _ W1.out (by have := HL.out; omega)).mono ?_
  rintro e w2 ⟨v, rfl, hv, hb⟩
  have V2 := Lib.hid hv
  have B2 := Lib.hid (step_ S1.out.bel hb)
  clear hv hb
  go_wp2_with fail
  go_ret
  exact ⟨_, rfl, V2.out, B2.out⟩
set_option maxRecDepth 100000 in
theorem asize_is (a : Am) (n : Nat) (w : World) (ha : a.Ok) (hn : Hid ((abytes a).length = n)) : Calls Try.prog 15 #[.agg a.cells.toArray] w fun e w' => e = .returned (.int .i64 n) ∧ Below w.heap.size w w' := by
  have S0 := Lib.hid (as_new w a)
  have HA := Lib.hid ha
  clear ha
  go_enter Try.func15, Try.ntmps15
  go_wp2_with (refine wpList_load_am rfl _ rfl w.heap.size a rfl S0.out.blk HA.out ?_)
  refine (abytes_is a _ HA.out).mono ?_
  rintro e w1 ⟨v, rfl, hv, hb⟩
  obtain ⟨ad, cap, rfl, _⟩ := hv
  rw [hn.out]
  have S1 := Lib.hid (S0.out.below hb)
  clear hb
  go_wp2_with fail
  go_ret
  exact ⟨rfl, S1.out.bel⟩
/-- The chapter's example. -/
def ex : Am := ⟨⟨1, 1, [97, 0, 0, 0, 0, 0, 0, 0], 2, 3⟩, ⟨1, M.zero8⟩⟩
theorem ex_ok : ex.Ok := by
  refine ⟨⟨rfl, ?_, by decide, by decide, by decide, by decide, by decide, by decide, by decide, by decide⟩, ⟨rfl, zero8_bytes, by decide, by decide⟩⟩
  intro x hx
  simp [ex] at hx
  omega
theorem ex_right : ex.right = true := by decide
theorem ex_bytes : abytes ex = [1, 1, 1, 97, 2, 3, 1] := by
  unfold abytes
  rw [if_pos ex_right]
  unfold aenc kenc
  rw [show M.var ex.k.c = [1] from M.var_lt 1 (by decide) (by decide), show M.var ex.k.q = [3] from M.var_lt 3 (by decide) (by decide)]
  decide
theorem built24_1 (x : Int) : Try.prog.built 24 [(0, .int .u8 x)] = some (nm [x, 0, 0, 0, 0, 0, 0, 0]) := by kernel_rfl
theorem bytes_lit (w : World) (l : List Int) (hb : M.Bytes l) : BytesAt (w.alloc (.cells (l.map (Value.int .u8)).toArray 5)) (.slice (some ⟨w.heap.size, 0, none⟩) l.length l.length) l := by
  refine ⟨_, _, rfl, ⟨Nat.le_refl _, fun h => by cases h⟩, hb, fun _ => ⟨w.heap.size, 0, rfl, by simp, fun i hi => ?_⟩⟩
  rw [Nat.zero_add]
  exact (blk_alloc w 5 (l.map (Value.int .u8))).cell (by rw [List.getElem?_map, List.getElem?_eq_getElem hi]; rfl)
theorem ex_list (w : World) : BytesAt (w.alloc (.cells #[.int .u8 1, .int .u8 1, .int .u8 1, .int .u8 97, .int .u8 2, .int .u8 3, .int .u8 1] 5)) (.slice (some ⟨w.heap.size, 0, none⟩) 7 7) [1, 1, 1, 97, 2, 3, 1] :=
  bytes_lit w [1, 1, 1, 97, 2, 3, 1] (fun x hx => by simp at hx; omega)
set_option maxRecDepth 100000 in
theorem alive_is (w : World) : Calls Try.prog 12 #[] w fun e w' => e = .returned (.bool true) ∧ Below w.heap.size w w' := by
  have hz := zero32
  have N0 := Lib.hid (blk_alloc w 32 azero.cells)
  have B0 := Lib.hid (new_below w (.cells azero.cells.toArray 32))
  go_enter Try.func12, Try.ntmps12
  go_wp2_with (first
    | refine wpList_build rfl 24 _ rfl [(0, .int .u8 97)] rfl _ (built24_1 97) ?_
    | refine wpList_build rfl 27 _ rfl [(0, .int .u8 1), (1, .int .u16 1), (2, .agg (nm [97, 0, 0, 0, 0, 0, 0, 0])), (3, .int .u8 2), (4, .int .u32 3)] rfl _ (built27_5 ex.k rfl) ?_
    | refine wpList_build rfl 30 _ rfl [(0, .int .u64 1)] rfl _ (built30_1 1) ?_
    | refine wpList_build rfl 32 _ rfl [(0, .agg ex.k.cells.toArray), (1, .agg ex.v.cells.toArray)] rfl _ (built32_2 ex ex_ok) ?_
    | (refine wpList_store_am rfl _ _ rfl w.heap.size azero ex rfl rfl N0.out azero_ok ex_ok ?_; intro w1 N1 O1)
    | refine wpList_load_am rfl _ rfl w.heap.size ex rfl N1.out ex_ok ?_)
  refine (abytes_is ex _ ex_ok).mono ?_
  rintro e w2 ⟨v, rfl, hv, b2⟩
  rw [ex_bytes] at hv
  have N2 := Lib.hid (N1.out.below b2)
  have B2 := Lib.hid (step_ (B0.out.trans (O1.out.below (Nat.le_refl _) B0.out.size)) b2)
  have V2 := Lib.hid (hv.below (new_below w2 (.cells #[.int .u8 1, .int .u8 1, .int .u8 1, .int .u8 97, .int .u8 2, .int .u8 3, .int .u8 1] 5)))
  have L2 := Lib.hid (ex_list w2)
  obtain ⟨ad, cap, rfl, _⟩ := hv
  clear b2
  go_wp2_with fail
  refine (same_any _ _ [1, 1, 1, 97, 2, 3, 1] _ (by simp) V2.out L2.out).mono ?_
  rintro e w3 ⟨rfl, b3⟩
  have N3 := Lib.hid ((N2.out.alloc (.cells #[.int .u8 1, .int .u8 1, .int .u8 1, .int .u8 97, .int .u8 2, .int .u8 3, .int .u8 1] 5)).below b3)
  have B3 := Lib.hid (step_ (step_ B2.out (new_below w2 (.cells #[.int .u8 1, .int .u8 1, .int .u8 1, .int .u8 97, .int .u8 2, .int .u8 3, .int .u8 1] 5))) b3)
  clear b3
  go_wp2_with (refine wanted_on rfl ?_; refine wpList_load_am rfl _ rfl w.heap.size ex rfl N3.out ex_ok ?_)
  refine (asize_is ex 7 _ ex_ok (Lib.hid (by rw [ex_bytes]; rfl))).mono ?_
  rintro e w4 ⟨rfl, b4⟩
  have N4 := Lib.hid (N3.out.below b4)
  have B4 := Lib.hid (step_ B3.out b4)
  clear b4
  go_wp2_with (refine wanted_on rfl ?_; refine wpList_load_am rfl _ rfl w.heap.size ex rfl N4.out ex_ok ?_)
  refine (aright_is ex true _ ex_ok (Lib.hid ex_right)).mono ?_
  rintro e w5 ⟨rfl, b5⟩
  have B5 := Lib.hid (step_ B4.out b5)
  clear b5
  go_wp2_with fail
  go_ret
  exact ⟨rfl, B5.out⟩
end Go.Proofs.Yteggjihhjdeieaa
