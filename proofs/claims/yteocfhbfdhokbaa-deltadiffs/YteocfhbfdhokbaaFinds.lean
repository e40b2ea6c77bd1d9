/- The contracts of find and of Rows of the reference. -/
import Derived.Test.YteocfhbfdhokbaaLists
namespace Go.Proofs.Yteocfhbfdhokbaa
open Go.RowKit

theorem drop_getD {l : List Am} {j : Nat} (h : j < l.length) : l.drop j = l.getD j azero :: l.drop (j + 1) := by
  rw [List.drop_eq_getElem_cons h]
  simp [List.getD, List.getElem?_eq_getElem h]
theorem results_vlB {fn : Func} {t u : Tmp} (h : fn.results = #[.cell t 36, .tmp u]) (tmps : Array Value) (w : World) (g : Nat) (v : Vl) (hp : tmps.getD t undef = .pointer (some ⟨g, 0, none⟩)) (hb : Blk w g 36 v.cells) (hm : v.t.length = 8) :
    (results fn tmps).run Try.prog w = .ok (.tuple #[.agg v.cells.toArray, tmps.getD u undef]) w := by
  rw [results_cell_tmp h, hp]
  have := run_loadVar_row (P := Try.prog) w g 36 36 v.cells.toArray (0, 0) _ hb Try.underlying36 rfl (by rw [List.size_toArray]; exact size30 hm)
  simp [asAddr, this]
/-- The call answers a value and whether there is one. -/
def GivesV (w : World) (o : Option Vl) (e : Ending) (w' : World) : Prop := e = .returned (.tuple #[.agg (o.getD vzero).cells.toArray, .bool o.isSome]) ∧ Below w.heap.size w w'
theorem quiet_neq_am {o : Oper} {a : Act} {W : World} {K : Act → Prop} (x y : Operand) (t : TypeId) (ho : o.op = .binOp .neq 38 x y t) (A B : Am) (b : Bool) (hx : a.eval x = .agg A.cells.toArray) (hy : a.eval y = .agg B.cells.toArray) (hA : A.Ok) (hB : B.Ok) (hb : (!decide (A = B)) = b)
    (hk : K (a.put o.dst (.bool b))) : o.quiet Try.prog a (Cls W) K := quiet_val _ (fun _ => by rw [exec_neq_am x y t ho A B hx hy hA hB, hb]) hk
set_option maxRecDepth 100000 in
set_option maxHeartbeats 2000000 in
theorem rows_other (A A2 : Option Addr) (n m cap cap2 : Nat) (w : World) (hnm : (n : Int) ≠ (m : Int)) : Calls Try.prog 9 #[.slice A n cap, .slice A2 m cap2] w fun e w' => e = .returned (.bool false) ∧ Below w.heap.size w w' := by
  have hd : (((n : Int)) == (m : Int)) = false := beq_eq_false_iff_ne.2 hnm
  clear hnm
  go_enter Try.func9, Try.ntmps9
  go_wp2_with fail
  go_ret
  exact ⟨rfl, Below.refl _ _⟩
set_option maxRecDepth 100000 in
set_option maxHeartbeats 2000000 in
theorem rows_len (A A2 : Option Addr) (n cap cap2 : Nat) (l m : List Am) (b : Bool) (w : World) (h : RowV w A n cap l) (h2 : RowV w A2 n cap2 m) (hn : n ≤ 5000) (hb : Hid (decide (l = m) = b)) : Calls Try.prog 9 #[.slice A n cap, .slice A2 n cap2] w fun e w' => e = .returned (.bool b) ∧ Below w.heap.size w w' := by
  have H := Lib.hid h
  have J := Lib.hid h2
  clear h h2
  go_enter Try.func9, Try.ntmps9
  go_wp2_with fail
  go_loopw [5] (fun i wr => ∃ j : Nat, j ≤ n ∧ i = .int .i64 j ∧ decide (l.drop j = m.drop j) = b ∧ Below w.heap.size w wr) (fun i _ => n - (intOf i).toNat)
  case atStart => exact ⟨0, Nat.zero_le _, rfl, hb.out, Below.refl _ _⟩
  case round =>
    obtain ⟨j, hj, rfl, hf, hb⟩ := hrel
    have HF := Lib.hid hf
    have BB := Lib.hid hb
    clear hf hb
    by_cases hlt : j < n
    · obtain ⟨G, p, hE⟩ := (H.out.below BB.out).elem j hlt
      obtain ⟨G2, p2, hE2⟩ := (J.out.below BB.out).elem j hlt
      have E := Lib.hid hE
      have F := Lib.hid hE2
      have T := Lib.hid (drop_getD (l := l) (j := j) (by have := H.out.len; omega))
      have U := Lib.hid (drop_getD (l := m) (j := j) (by have := J.out.len; omega))
      obtain ⟨x, hx⟩ : ∃ x, l.getD j azero = x := ⟨_, rfl⟩
      obtain ⟨y, hy⟩ : ∃ y, m.getD j azero = y := ⟨_, rfl⟩
      rw [hx] at E T
      rw [hy] at F U
      clear hE hx hE2 hy
      by_cases hkk : x = y
      · have HE := Lib.hid (show (!decide (x = y)) = false by simp [hkk])
        have HO := Lib.hid (show decide (l.drop (j + 1) = m.drop (j + 1)) = b by rw [← HF.out, T.out, U.out, hkk]; simp)
        clear hkk
        go_wp2_with fail
        refine region_later (by kernel_rfl) (by kernel_rfl) ?_
        go_big_quiet_step (fail)
        go_big_quiet_step (fail)
        (go_big_quiet_want; refine quiet_index _ _ rfl A n cap G p j x _ rfl rfl (by first | rfl | omega) E.out ?_; go_simp; go_big_quiet_on)
        (go_big_quiet_want; refine quiet_load_amx G p x _ rfl rfl E.out.rg E.out.blk E.out.ok ?_; go_simp; go_big_quiet_on)
        go_big_quiet_step (fail)
        go_big_quiet_step (fail)
        (go_big_quiet_want; refine quiet_index _ _ rfl A2 n cap2 G2 p2 j y _ rfl rfl (by first | rfl | omega) F.out ?_; go_simp; go_big_quiet_on)
        (go_big_quiet_want; refine quiet_load_amx G2 p2 y _ rfl rfl F.out.rg F.out.blk F.out.ok ?_; go_simp; go_big_quiet_on)
        (go_big_quiet_want; refine quiet_neq_am _ _ _ rfl x y false rfl rfl E.out.ok F.out.ok HE.out ?_; go_simp; go_big_quiet_on)
        refine wpQuiet_nil ?_
        intro w2 hw2
        have B2 := Lib.hid (step_ BB.out hw2)
        clear hw2
        go_wp2_with fail
        go_roundw
        case rel => exact ⟨j + 1, by omega, by go_num, HO.out, B2.out⟩
        case measure => simp [intOf]; omega
      · have HE := Lib.hid (show (!decide (x = y)) = true by simp [hkk])
        have HO := Lib.hid (show b = false by rw [← HF.out, T.out, U.out]; simp [hkk])
        clear hkk
        go_wp2_with fail
        refine region_later (by kernel_rfl) (by kernel_rfl) ?_
        go_big_quiet_step (fail)
        go_big_quiet_step (fail)
        (go_big_quiet_want; refine quiet_index _ _ rfl A n cap G p j x _ rfl rfl (by first | rfl | omega) E.out ?_; go_simp; go_big_quiet_on)
        (go_big_quiet_want; refine quiet_load_amx G p x _ rfl rfl E.out.rg E.out.blk E.out.ok ?_; go_simp; go_big_quiet_on)
        go_big_quiet_step (fail)
        go_big_quiet_step (fail)
        (go_big_quiet_want; refine quiet_index _ _ rfl A2 n cap2 G2 p2 j y _ rfl rfl (by first | rfl | omega) F.out ?_; go_simp; go_big_quiet_on)
        (go_big_quiet_want; refine quiet_load_amx G2 p2 y _ rfl rfl F.out.rg F.out.blk F.out.ok ?_; go_simp; go_big_quiet_on)
        (go_big_quiet_want; refine quiet_neq_am _ _ _ rfl x y true rfl rfl E.out.ok F.out.ok HE.out ?_; go_simp; go_big_quiet_on)
        refine wpQuiet_nil ?_
        intro w2 hw2
        have B2 := Lib.hid (step_ BB.out hw2)
        clear hw2
        go_wp2_with fail
        go_ret
        exact ⟨ret_bool HO.out.symm, B2.out⟩
    · obtain rfl : j = n := by omega
      have HO := Lib.hid (show b = true by rw [← HF.out, List.drop_of_length_le (by have := H.out.len; omega), List.drop_of_length_le (by have := J.out.len; omega)]; rfl)
      go_wp2_with fail
      go_ret
      exact ⟨ret_bool HO.out.symm, BB.out⟩
theorem rows_is (A A2 : Option Addr) (n m cap cap2 : Nat) (l k : List Am) (b : Bool) (w : World) (h : RowV w A n cap l) (h2 : RowV w A2 m cap2 k) (hn : n ≤ 5000) (hb : Hid (decide (l = k) = b)) : Calls Try.prog 9 #[.slice A n cap, .slice A2 m cap2] w fun e w' => e = .returned (.bool b) ∧ Below w.heap.size w w' := by
  by_cases e : n = m
  · subst e
    exact rows_len A A2 n cap cap2 l k b w h h2 hn hb
  · have hf : b = false := by
      rw [← hb.out]
      refine decide_eq_false (fun e2 => e ?_)
      rw [← h.len, ← h2.len, e2]
    rw [hf]
    exact rows_other A A2 n m cap cap2 w (by omega)
end Go.Proofs.Yteocfhbfdhokbaa
