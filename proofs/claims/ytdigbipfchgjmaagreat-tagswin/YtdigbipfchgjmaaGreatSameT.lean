/- The contracts of find and of Rows of the reference. The contracts of Keys and Names of the reference. Written by wip/tools/same_r14.py. -/
import Derived.Test.YtdigbipfchgjmaaGreatRefAll
import Derived.Test.YtdigbipfchgjmaaGreatKeyT
import Derived.Test.YtdigbipfchgjmaaGreatKIn
namespace Go.Proofs.YtdigbipfchgjmaaGreat
open Go.RowKit

set_option maxRecDepth 100000 in
set_option maxHeartbeats 2000000 in
theorem find_is (A : Option Addr) (n cap : Nat) (l : List Am) (k : Ky) (o : Option Vl) (w : World) (h : RowV w A n cap l) (hk : k.Ok) (hn : n ≤ 5000) (ho : Hid (fnd l k = o)) : Calls Tryz.prog 43 #[.slice A n cap, .agg k.cells.toArray] w (GivesV w o) := by
  have hz := zero30
  have H := Lib.hid h
  have HK := Lib.hid hk
  have Q0 := Lib.hid ((blk_alloc w 48 k.cells).alloc (.cells vzero.cells.toArray 52))
  have R0 := Lib.hid (blk2 w (.cells k.cells.toArray 48) 52 vzero.cells)
  have B0 := Lib.hid (step_ (new_below w (.cells k.cells.toArray 48)) (new_below _ (.cells vzero.cells.toArray 52)))
  clear h hk
  go_enter Tryz.func43, Tryz.ntmps43
  go_wp2_with fail
  go_loopw [6] (fun i wr => ∃ j : Nat, j ≤ n ∧ i = .int .i64 j ∧ fnd (l.drop j) k = o ∧ Below w.heap.size w wr ∧ Blk wr w.heap.size 48 k.cells ∧ Blk wr (w.heap.size + 1) 52 vzero.cells) (fun i _ => n - (intOf i).toNat)
  case atStart => exact ⟨0, Nat.zero_le _, rfl, ho.out, B0.out, Q0.out, R0.out⟩
  case round =>
    obtain ⟨j, hj, rfl, hf, hb, hq, hr⟩ := hrel
    have HF := Lib.hid hf
    have BB := Lib.hid hb
    have QQ := Lib.hid hq
    have RR := Lib.hid hr
    clear hf hb hq hr
    by_cases hlt : j < n
    · obtain ⟨G, p, hE⟩ := (H.out.below BB.out).elem j hlt
      have E := Lib.hid hE
      have T := Lib.hid (drop_getD (l := l) (j := j) (by have := H.out.len; omega))
      obtain ⟨x, hx⟩ : ∃ x, l.getD j azero = x := ⟨_, rfl⟩
      rw [hx] at E T
      clear hE hx
      by_cases hkk : x.k = k
      · have HE := Lib.hid (show decide (x.k = k) = true from decide_eq_true hkk)
        have HO := Lib.hid (show o = some x.v by rw [← HF.out, T.out, fnd, if_pos hkk])
        clear hkk
        go_wp2_with fail
        refine region_later (by kernel_rfl) (by kernel_rfl) ?_
        go_big_quiet_step (fail)
        go_big_quiet_step (fail)
        (go_big_quiet_want; refine quiet_index _ _ rfl A n cap G p j x _ rfl rfl (by first | rfl | omega) E.out ?_; go_simp; go_big_quiet_on)
        go_big_quiet_step (fail)
        (go_big_quiet_want; refine quiet_load_kyx G p x.k _ rfl rfl (range_ak E.out.rg) E.out.blk E.out.ok.k.ml ?_; go_simp; go_big_quiet_on)
        (go_big_quiet_want; refine quiet_load_kyx w.heap.size 0 k _ rfl rfl QQ.out.range QQ.out.lt HK.out.ml ?_; go_simp; go_big_quiet_on)
        (go_big_quiet_want; refine quiet_eq_ky _ _ _ rfl x.k k true rfl rfl E.out.ok.k HK.out HE.out ?_; go_simp; go_big_quiet_on)
        refine wpQuiet_nil ?_
        intro w2 hw2
        have E2 := Lib.hid (E.out.below hw2)
        have R2 := Lib.hid (RR.out.below hw2)
        have B2 := Lib.hid (step_ BB.out hw2)
        clear hw2
        go_wp2_with (first
          | go_skip
          | refine wpList_index rfl _ _ rfl A n cap G p j x _ rfl rfl (by first | rfl | omega) E2.out ?_
          | refine wpList_load_vl rfl _ rfl G (p + 12) x.v rfl (range_av E2.out.rg E2.out.ok) E2.out.ok.v.tl ?_
          | (refine wpList_store_vl rfl _ _ rfl (w.heap.size + 1) vzero x.v rfl rfl R2.out rfl E2.out.ok.v.tl ?_; intro w3 N3 O3))
        refine bodyPost_ret (results_vlB rfl _ _ (w.heap.size + 1) x.v rfl N3.out E2.out.ok.v.tl) rfl ?_
        exact ⟨by rw [HO.out]; rfl, B2.out.trans (O3.out.below (Nat.le_succ _) B2.out.size)⟩
      · have HE := Lib.hid (show decide (x.k = k) = false from decide_eq_false hkk)
        have HO := Lib.hid (show fnd (l.drop (j + 1)) k = o by rw [← HF.out, T.out]; unfold fnd; rw [if_neg hkk]; cases l.drop (j + 1) <;> rfl)
        clear hkk
        go_wp2_with fail
        refine region_later (by kernel_rfl) (by kernel_rfl) ?_
        go_big_quiet_step (fail)
        go_big_quiet_step (fail)
        (go_big_quiet_want; refine quiet_index _ _ rfl A n cap G p j x _ rfl rfl (by first | rfl | omega) E.out ?_; go_simp; go_big_quiet_on)
        go_big_quiet_step (fail)
        (go_big_quiet_want; refine quiet_load_kyx G p x.k _ rfl rfl (range_ak E.out.rg) E.out.blk E.out.ok.k.ml ?_; go_simp; go_big_quiet_on)
        (go_big_quiet_want; refine quiet_load_kyx w.heap.size 0 k _ rfl rfl QQ.out.range QQ.out.lt HK.out.ml ?_; go_simp; go_big_quiet_on)
        (go_big_quiet_want; refine quiet_eq_ky _ _ _ rfl x.k k false rfl rfl E.out.ok.k HK.out HE.out ?_; go_simp; go_big_quiet_on)
        refine wpQuiet_nil ?_
        intro w2 hw2
        have Q2 := Lib.hid (QQ.out.below hw2)
        have R2 := Lib.hid (RR.out.below hw2)
        have B2 := Lib.hid (step_ BB.out hw2)
        clear hw2
        go_wp2_with fail
        go_roundw
        case rel => exact ⟨j + 1, by omega, by go_num, HO.out, B2.out, Q2.out, R2.out⟩
        case measure => simp [intOf]; omega
    · obtain rfl : j = n := by omega
      have HO := Lib.hid (show o = none by rw [← HF.out, List.drop_of_length_le (by have := H.out.len; omega)]; rfl)
      go_wp2_with (first
          | go_skip
          | refine wpList_build rfl 52 _ rfl [] rfl _ built30_0 ?_
          | (refine wpList_store_vl rfl _ _ rfl (w.heap.size + 1) vzero vzero rfl rfl RR.out rfl rfl ?_; intro w3 N3 O3))
      refine bodyPost_ret (results_vlB rfl _ _ (w.heap.size + 1) vzero rfl N3.out rfl) rfl ?_
      exact ⟨by rw [HO.out]; rfl, BB.out.trans (O3.out.below (Nat.le_succ _) BB.out.size)⟩
set_option maxRecDepth 100000 in
set_option maxHeartbeats 2000000 in
theorem rows_other (A A2 : Option Addr) (n m cap cap2 : Nat) (w : World) (hnm : (n : Int) ≠ (m : Int)) : Calls Tryz.prog 20 #[.slice A n cap, .slice A2 m cap2] w fun e w' => e = .returned (.bool false) ∧ Below w.heap.size w w' := by
  have hd : (((n : Int)) == (m : Int)) = false := beq_eq_false_iff_ne.2 hnm
  clear hnm
  go_enter Tryz.func20, Tryz.ntmps20
  go_wp2_with fail
  go_ret
  exact ⟨rfl, Below.refl _ _⟩
set_option maxRecDepth 100000 in
set_option maxHeartbeats 2000000 in
theorem rows_len (A A2 : Option Addr) (n cap cap2 : Nat) (l m : List Am) (b : Bool) (w : World) (h : RowV w A n cap l) (h2 : RowV w A2 n cap2 m) (hn : n ≤ 5000) (hb : Hid (decide (l = m) = b)) : Calls Tryz.prog 20 #[.slice A n cap, .slice A2 n cap2] w fun e w' => e = .returned (.bool b) ∧ Below w.heap.size w w' := by
  have H := Lib.hid h
  have J := Lib.hid h2
  clear h h2
  go_enter Tryz.func20, Tryz.ntmps20
  go_wp2_with fail
  go_loopw [5] (fun i wr => ∃ j : Nat, j ≤ n ∧ i = .int .i64 j ∧ decide (l.drop j = m.drop j) = b ∧ Below w.heap.size w wr) (fun i _ => n - (intOf i).toNat)
  case atStart => exact ⟨0, Nat.zero_le _, rfl, hb.out, Below.refl _ _⟩
  case round =>
    obtain ⟨j, hj, rfl, hf, hb⟩ := hrel
    have HF := Lib.hid hf
    have BB := Lib.hid hb
    clear hf hb
    by_cases hlt : j < n
    · obtain ⟨G, p, hE⟩ := (H.out.below BB.out).elem j hlt
      obtain ⟨G2, p2, hE2⟩ := (J.out.below BB.out).elem j hlt
      have E := Lib.hid hE
      have F := Lib.hid hE2
      have T := Lib.hid (drop_getD (l := l) (j := j) (by have := H.out.len; omega))
      have U := Lib.hid (drop_getD (l := m) (j := j) (by have := J.out.len; omega))
      obtain ⟨x, hx⟩ : ∃ x, l.getD j azero = x := ⟨_, rfl⟩
      obtain ⟨y, hy⟩ : ∃ y, m.getD j azero = y := ⟨_, rfl⟩
      rw [hx] at E T
      rw [hy] at F U
      clear hE hx hE2 hy
      by_cases hkk : x = y
      · have HE := Lib.hid (show (!decide (x = y)) = false by simp [hkk])
        have HO := Lib.hid (show decide (l.drop (j + 1) = m.drop (j + 1)) = b by rw [← HF.out, T.out, U.out, hkk]; simp)
        clear hkk
        go_wp2_with fail
        refine region_later (by kernel_rfl) (by kernel_rfl) ?_
        go_big_quiet_step (fail)
        go_big_quiet_step (fail)
        (go_big_quiet_want; refine quiet_index _ _ rfl A n cap G p j x _ rfl rfl (by first | rfl | omega) E.out ?_; go_simp; go_big_quiet_on)
        (go_big_quiet_want; refine quiet_load_amx G p x _ rfl rfl E.out.rg E.out.blk E.out.ok ?_; go_simp; go_big_quiet_on)
        go_big_quiet_step (fail)
        go_big_quiet_step (fail)
        (go_big_quiet_want; refine quiet_index _ _ rfl A2 n cap2 G2 p2 j y _ rfl rfl (by first | rfl | omega) F.out ?_; go_simp; go_big_quiet_on)
        (go_big_quiet_want; refine quiet_load_amx G2 p2 y _ rfl rfl F.out.rg F.out.blk F.out.ok ?_; go_simp; go_big_quiet_on)
        (go_big_quiet_want; refine quiet_neq_am _ _ _ rfl x y false rfl rfl E.out.ok F.out.ok HE.out ?_; go_simp; go_big_quiet_on)
        refine wpQuiet_nil ?_
        intro w2 hw2
        have B2 := Lib.hid (step_ BB.out hw2)
        clear hw2
        go_wp2_with fail
        go_roundw
        case rel => exact ⟨j + 1, by omega, by go_num, HO.out, B2.out⟩
        case measure => simp [intOf]; omega
      · have HE := Lib.hid (show (!decide (x = y)) = true by simp [hkk])
        have HO := Lib.hid (show b = false by rw [← HF.out, T.out, U.out]; simp [hkk])
        clear hkk
        go_wp2_with fail
        refine region_later (by kernel_rfl) (by kernel_rfl) ?_
        go_big_quiet_step (fail)
        go_big_quiet_step (fail)
        (go_big_quiet_want; refine quiet_index _ _ rfl A n cap G p j x _ rfl rfl (by first | rfl | omega) E.out ?_; go_simp; go_big_quiet_on)
        (go_big_quiet_want; refine quiet_load_amx G p x _ rfl rfl E.out.rg E.out.blk E.out.ok ?_; go_simp; go_big_quiet_on)
        go_big_quiet_step (fail)
        go_big_quiet_step (fail)
        (go_big_quiet_want; refine quiet_index _ _ rfl A2 n cap2 G2 p2 j y _ rfl rfl (by first | rfl | omega) F.out ?_; go_simp; go_big_quiet_on)
        (go_big_quiet_want; refine quiet_load_amx G2 p2 y _ rfl rfl F.out.rg F.out.blk F.out.ok ?_; go_simp; go_big_quiet_on)
        (go_big_quiet_want; refine quiet_neq_am _ _ _ rfl x y true rfl rfl E.out.ok F.out.ok HE.out ?_; go_simp; go_big_quiet_on)
        refine wpQuiet_nil ?_
        intro w2 hw2
        have B2 := Lib.hid (step_ BB.out hw2)
        clear hw2
        go_wp2_with fail
        go_ret
        exact ⟨ret_bool HO.out.symm, B2.out⟩
    · obtain rfl : j = n := by omega
      have HO := Lib.hid (show b = true by rw [← HF.out, List.drop_of_length_le (by have := H.out.len; omega), List.drop_of_length_le (by have := J.out.len; omega)]; rfl)
      go_wp2_with fail
      go_ret
      exact ⟨ret_bool HO.out.symm, BB.out⟩
theorem rows_is (A A2 : Option Addr) (n m cap cap2 : Nat) (l k : List Am) (b : Bool) (w : World) (h : RowV w A n cap l) (h2 : RowV w A2 m cap2 k) (hn : n ≤ 5000) (hb : Hid (decide (l = k) = b)) : Calls Tryz.prog 20 #[.slice A n cap, .slice A2 m cap2] w fun e w' => e = .returned (.bool b) ∧ Below w.heap.size w w' := by
  by_cases e : n = m
  · subst e
    exact rows_len A A2 n cap cap2 l k b w h h2 hn hb
  · have hf : b = false := by
      rw [← hb.out]
      refine decide_eq_false (fun e2 => e ?_)
      rw [← h.len, ← h2.len, e2]
    rw [hf]
    exact rows_other A A2 n m cap cap2 w (by omega)
end Go.Proofs.YtdigbipfchgjmaaGreat
namespace Go.Proofs.YtdigbipfchgjmaaGreat
open Go.RowKit

theorem drop_getDG {α : Type} (z : α) {l : List α} {j : Nat} (h : j < l.length) : l.drop j = l.getD j z :: l.drop (j + 1) := by
  rw [List.drop_eq_getElem_cons h]; simp [List.getD, List.getElem?_eq_getElem h]
theorem exec_neq_ky {o : Oper} {a : Act} {w : World} (x y : Operand) (t : TypeId) (ho : o.op = .binOp .neq 48 x y t) (A B : Ky) (hx : a.eval x = .agg A.cells.toArray) (hy : a.eval y = .agg B.cells.toArray) (hA : A.m.length = 8) (hB : B.m.length = 8) :
    (execOp a.eval o).run Tryz.prog w = .ok (.value (.bool (!decide (A = B)))) w := by
  unfold execOp
  simp only [ho, hx, hy, Sem.run_bind, run_eqGuard_agg w .neq 48 x y _ _ eqg27, Result.andThen_ok, run_neq_struct, eql27 A B hA hB 9997 w, Sem.run_pure]
theorem quiet_neq_ky {o : Oper} {a : Act} {W : World} {K : Act → Prop} (x y : Operand) (t : TypeId) (ho : o.op = .binOp .neq 48 x y t) (A B : Ky) (b : Bool) (hx : a.eval x = .agg A.cells.toArray) (hy : a.eval y = .agg B.cells.toArray) (hA : A.m.length = 8) (hB : B.m.length = 8) (hb : (!decide (A = B)) = b)
    (hk : K (a.put o.dst (.bool b))) : o.quiet Tryz.prog a (Cls W) K := quiet_val _ (fun _ => by rw [exec_neq_ky x y t ho A B hx hy hA hB, hb]) hk
theorem exec_neq_nm {o : Oper} {a : Act} {w : World} (x y : Operand) (ty : TypeId) (ho : o.op = .binOp .neq 25 x y ty) (m n : List Int) (hx : a.eval x = .agg (nm m)) (hy : a.eval y = .agg (nm n)) (hm : m.length = 8) (hn : n.length = 8) :
    (execOp a.eval o).run Tryz.prog w = .ok (.value (.bool (!(m == n)))) w := by
  unfold execOp
  simp only [ho, hx, hy, Sem.run_bind, run_eqGuard_agg w .neq 25 x y _ _ eqg24, Result.andThen_ok, run_neq_struct, eql23 m n hm hn 9998 w, Sem.run_pure]
theorem quiet_neq_nm {o : Oper} {a : Act} {W : World} {K : Act → Prop} (x y : Operand) (t : TypeId) (ho : o.op = .binOp .neq 25 x y t) (m n : List Int) (b : Bool) (hx : a.eval x = .agg (nm m)) (hy : a.eval y = .agg (nm n)) (hm : m.length = 8) (hn : n.length = 8) (hb : (!decide (m = n)) = b)
    (hk : K (a.put o.dst (.bool b))) : o.quiet Tryz.prog a (Cls W) K := quiet_val _ (fun _ => by
      have e : (!(m == n)) = b := by rw [← hb]; by_cases h : m = n <;> simp [h]
      rw [exec_neq_nm x y t ho m n hx hy hm hn, e]) hk
theorem quiet_load_nmx {o : Oper} {a : Act} {W : World} {K : Act → Prop} (G off : Nat) (m : List Int) (x : Operand) (ho : o.op = .load 25 x) (hx : a.eval x = .pointer (some ⟨G, off, none⟩)) (hat : W.rangeAt G off (nmL m)) (hG : G < W.heap.size) (hm : m.length = 8)
    (hk : K (a.put o.dst (.agg (nm m)))) : o.quiet Tryz.prog a (Cls W) K := quiet_load_cs 25 G off (nmL m) _ x ho hx hat hG Tryz.underlying25 rfl (by rw [show (nmL m).length = 8 by unfold nmL; rw [List.length_map]; exact hm]; exact size23) hk
set_option maxRecDepth 100000 in
theorem keysT_other (A A2 : Option Addr) (n m cap cap2 : Nat) (w : World) (hnm : (n : Int) ≠ (m : Int)) : Calls Tryz.prog 8 #[.slice A n cap, .slice A2 m cap2] w fun e w' => e = .returned (.bool false) ∧ Below w.heap.size w w' := by
  have hd : (((n : Int)) == (m : Int)) = false := beq_eq_false_iff_ne.2 hnm
  clear hnm
  go_enter Tryz.func8, Tryz.ntmps8
  go_wp2_with fail
  go_ret
  exact ⟨rfl, Below.refl _ _⟩
set_option maxRecDepth 100000 in
set_option maxHeartbeats 2000000 in
theorem keysT_len (A A2 : Option Addr) (n cap cap2 : Nat) (l m : List Ky) (b : Bool) (w : World) (h : RowG EK w A n cap l) (h2 : RowG EK w A2 n cap2 m) (hn : n ≤ 5000) (hb : Hid (decide (l = m) = b)) : Calls Tryz.prog 8 #[.slice A n cap, .slice A2 n cap2] w fun e w' => e = .returned (.bool b) ∧ Below w.heap.size w w' := by
  have H := Lib.hid h
  have J := Lib.hid h2
  clear h h2
  go_enter Tryz.func8, Tryz.ntmps8
  go_wp2_with fail
  go_loopw [5] (fun i wr => ∃ j : Nat, j ≤ n ∧ i = .int .i64 j ∧ decide (l.drop j = m.drop j) = b ∧ Below w.heap.size w wr) (fun i _ => n - (intOf i).toNat)
  case atStart => exact ⟨0, Nat.zero_le _, rfl, hb.out, Below.refl _ _⟩
  case round =>
    obtain ⟨j, hj, rfl, hf, hb⟩ := hrel
    have HF := Lib.hid hf
    have BB := Lib.hid hb
    clear hf hb
    by_cases hlt : j < n
    · obtain ⟨G, p, hE⟩ := (H.out.below BB.out).elem kzero j hlt
      obtain ⟨G2, p2, hE2⟩ := (J.out.below BB.out).elem kzero j hlt
      have E := Lib.hid hE
      have F := Lib.hid hE2
      have T := Lib.hid (drop_getDG kzero (l := l) (j := j) (by have := H.out.len; omega))
      have U := Lib.hid (drop_getDG kzero (l := m) (j := j) (by have := J.out.len; omega))
      obtain ⟨x, hx⟩ : ∃ x, l.getD j kzero = x := ⟨_, rfl⟩
      obtain ⟨y, hy⟩ : ∃ y, m.getD j kzero = y := ⟨_, rfl⟩
      rw [hx] at E T
      rw [hy] at F U
      clear hE hx hE2 hy
      by_cases hkk : x = y
      · have HE := Lib.hid (show (!decide (x = y)) = false by simp [hkk])
        have HO := Lib.hid (show decide (l.drop (j + 1) = m.drop (j + 1)) = b by rw [← HF.out, T.out, U.out, hkk]; simp)
        clear hkk
        go_wp2_with fail
        refine region_later (by kernel_rfl) (by kernel_rfl) ?_
        go_big_quiet_step (fail)
        go_big_quiet_step (fail)
        (go_big_quiet_want; refine quiet_indexG LK _ _ rfl A n cap G p j x _ rfl rfl (by first | rfl | omega) E.out ?_; go_simp; go_big_quiet_on)
        (go_big_quiet_want; refine quiet_load_kyx G p x _ rfl rfl E.out.rg E.out.blk E.out.ok.ml ?_; go_simp; go_big_quiet_on)
        go_big_quiet_step (fail)
        go_big_quiet_step (fail)
        (go_big_quiet_want; refine quiet_indexG LK _ _ rfl A2 n cap2 G2 p2 j y _ rfl rfl (by first | rfl | omega) F.out ?_; go_simp; go_big_quiet_on)
        (go_big_quiet_want; refine quiet_load_kyx G2 p2 y _ rfl rfl F.out.rg F.out.blk F.out.ok.ml ?_; go_simp; go_big_quiet_on)
        (go_big_quiet_want; refine quiet_neq_ky _ _ _ rfl x y false rfl rfl E.out.ok.ml F.out.ok.ml HE.out ?_; go_simp; go_big_quiet_on)
        refine wpQuiet_nil ?_
        intro w2 hw2
        have B2 := Lib.hid (step_ BB.out hw2)
        clear hw2
        go_wp2_with fail
        go_roundw
        case rel => exact ⟨j + 1, by omega, by go_num, HO.out, B2.out⟩
        case measure => simp [intOf]; omega
      · have HE := Lib.hid (show (!decide (x = y)) = true by simp [hkk])
        have HO := Lib.hid (show b = false by rw [← HF.out, T.out, U.out]; simp [hkk])
        clear hkk
        go_wp2_with fail
        refine region_later (by kernel_rfl) (by kernel_rfl) ?_
        go_big_quiet_step (fail)
        go_big_quiet_step (fail)
        (go_big_quiet_want; refine quiet_indexG LK _ _ rfl A n cap G p j x _ rfl rfl (by first | rfl | omega) E.out ?_; go_simp; go_big_quiet_on)
        (go_big_quiet_want; refine quiet_load_kyx G p x _ rfl rfl E.out.rg E.out.blk E.out.ok.ml ?_; go_simp; go_big_quiet_on)
        go_big_quiet_step (fail)
        go_big_quiet_step (fail)
        (go_big_quiet_want; refine quiet_indexG LK _ _ rfl A2 n cap2 G2 p2 j y _ rfl rfl (by first | rfl | omega) F.out ?_; go_simp; go_big_quiet_on)
        (go_big_quiet_want; refine quiet_load_kyx G2 p2 y _ rfl rfl F.out.rg F.out.blk F.out.ok.ml ?_; go_simp; go_big_quiet_on)
        (go_big_quiet_want; refine quiet_neq_ky _ _ _ rfl x y true rfl rfl E.out.ok.ml F.out.ok.ml HE.out ?_; go_simp; go_big_quiet_on)
        refine wpQuiet_nil ?_
        intro w2 hw2
        have B2 := Lib.hid (step_ BB.out hw2)
        clear hw2
        go_wp2_with fail
        go_ret
        exact ⟨ret_bool HO.out.symm, B2.out⟩
    · obtain rfl : j = n := by omega
      have HO := Lib.hid (show b = true by rw [← HF.out, List.drop_of_length_le (by have := H.out.len; omega), List.drop_of_length_le (by have := J.out.len; omega)]; rfl)
      go_wp2_with fail
      go_ret
      exact ⟨ret_bool HO.out.symm, BB.out⟩
theorem keysT_is (A A2 : Option Addr) (n m cap cap2 : Nat) (l k : List Ky) (b : Bool) (w : World) (h : RowG EK w A n cap l) (h2 : RowG EK w A2 m cap2 k) (hn : n ≤ 5000) (hb : Hid (decide (l = k) = b)) : Calls Tryz.prog 8 #[.slice A n cap, .slice A2 m cap2] w fun e w' => e = .returned (.bool b) ∧ Below w.heap.size w w' := by
  by_cases e : n = m
  · subst e
    exact keysT_len A A2 n cap cap2 l k b w h h2 hn hb
  · have hf : b = false := by
      rw [← hb.out]
      refine decide_eq_false (fun e2 => e ?_)
      rw [← h.len, ← h2.len, e2]
    rw [hf]
    exact keysT_other A A2 n m cap cap2 w (by omega)
set_option maxRecDepth 100000 in
theorem namesT_other (A A2 : Option Addr) (n m cap cap2 : Nat) (w : World) (hnm : (n : Int) ≠ (m : Int)) : Calls Tryz.prog 13 #[.slice A n cap, .slice A2 m cap2] w fun e w' => e = .returned (.bool false) ∧ Below w.heap.size w w' := by
  have hd : (((n : Int)) == (m : Int)) = false := beq_eq_false_iff_ne.2 hnm
  clear hnm
  go_enter Tryz.func13, Tryz.ntmps13
  go_wp2_with fail
  go_ret
  exact ⟨rfl, Below.refl _ _⟩
set_option maxRecDepth 100000 in
set_option maxHeartbeats 2000000 in
theorem namesT_len (A A2 : Option Addr) (n cap cap2 : Nat) (l m : List (List Int)) (b : Bool) (w : World) (h : RowG EN w A n cap l) (h2 : RowG EN w A2 n cap2 m) (hn : n ≤ 5000) (hb : Hid (decide (l = m) = b)) : Calls Tryz.prog 13 #[.slice A n cap, .slice A2 n cap2] w fun e w' => e = .returned (.bool b) ∧ Below w.heap.size w w' := by
  have H := Lib.hid h
  have J := Lib.hid h2
  clear h h2
  go_enter Tryz.func13, Tryz.ntmps13
  go_wp2_with fail
  go_loopw [5] (fun i wr => ∃ j : Nat, j ≤ n ∧ i = .int .i64 j ∧ decide (l.drop j = m.drop j) = b ∧ Below w.heap.size w wr) (fun i _ => n - (intOf i).toNat)
  case atStart => exact ⟨0, Nat.zero_le _, rfl, hb.out, Below.refl _ _⟩
  case round =>
    obtain ⟨j, hj, rfl, hf, hb⟩ := hrel
    have HF := Lib.hid hf
    have BB := Lib.hid hb
    clear hf hb
    by_cases hlt : j < n
    · obtain ⟨G, p, hE⟩ := (H.out.below BB.out).elem M.zero8 j hlt
      obtain ⟨G2, p2, hE2⟩ := (J.out.below BB.out).elem M.zero8 j hlt
      have E := Lib.hid hE
      have F := Lib.hid hE2
      have T := Lib.hid (drop_getDG M.zero8 (l := l) (j := j) (by have := H.out.len; omega))
      have U := Lib.hid (drop_getDG M.zero8 (l := m) (j := j) (by have := J.out.len; omega))
      obtain ⟨x, hx⟩ : ∃ x, l.getD j M.zero8 = x := ⟨_, rfl⟩
      obtain ⟨y, hy⟩ : ∃ y, m.getD j M.zero8 = y := ⟨_, rfl⟩
      rw [hx] at E T
      rw [hy] at F U
      clear hE hx hE2 hy
      by_cases hkk : x = y
      · have HE := Lib.hid (show (!decide (x = y)) = false by simp [hkk])
        have HO := Lib.hid (show decide (l.drop (j + 1) = m.drop (j + 1)) = b by rw [← HF.out, T.out, U.out, hkk]; simp)
        clear hkk
        go_wp2_with fail
        refine region_later (by kernel_rfl) (by kernel_rfl) ?_
        go_big_quiet_step (fail)
        go_big_quiet_step (fail)
        (go_big_quiet_want; refine quiet_indexG LN _ _ rfl A n cap G p j x _ rfl rfl (by first | rfl | omega) E.out ?_; go_simp; go_big_quiet_on)
        (go_big_quiet_want; refine quiet_load_nmx G p x _ rfl rfl E.out.rg E.out.blk E.out.ok.1 ?_; go_simp; go_big_quiet_on)
        go_big_quiet_step (fail)
        go_big_quiet_step (fail)
        (go_big_quiet_want; refine quiet_indexG LN _ _ rfl A2 n cap2 G2 p2 j y _ rfl rfl (by first | rfl | omega) F.out ?_; go_simp; go_big_quiet_on)
        (go_big_quiet_want; refine quiet_load_nmx G2 p2 y _ rfl rfl F.out.rg F.out.blk F.out.ok.1 ?_; go_simp; go_big_quiet_on)
        (go_big_quiet_want; refine quiet_neq_nm _ _ _ rfl x y false rfl rfl E.out.ok.1 F.out.ok.1 HE.out ?_; go_simp; go_big_quiet_on)
        refine wpQuiet_nil ?_
        intro w2 hw2
        have B2 := Lib.hid (step_ BB.out hw2)
        clear hw2
        go_wp2_with fail
        go_roundw
        case rel => exact ⟨j + 1, by omega, by go_num, HO.out, B2.out⟩
        case measure => simp [intOf]; omega
      · have HE := Lib.hid (show (!decide (x = y)) = true by simp [hkk])
        have HO := Lib.hid (show b = false by rw [← HF.out, T.out, U.out]; simp [hkk])
        clear hkk
        go_wp2_with fail
        refine region_later (by kernel_rfl) (by kernel_rfl) ?_
        go_big_quiet_step (fail)
        go_big_quiet_step (fail)
        (go_big_quiet_want; refine quiet_indexG LN _ _ rfl A n cap G p j x _ rfl rfl (by first | rfl | omega) E.out ?_; go_simp; go_big_quiet_on)
        (go_big_quiet_want; refine quiet_load_nmx G p x _ rfl rfl E.out.rg E.out.blk E.out.ok.1 ?_; go_simp; go_big_quiet_on)
        go_big_quiet_step (fail)
        go_big_quiet_step (fail)
        (go_big_quiet_want; refine quiet_indexG LN _ _ rfl A2 n cap2 G2 p2 j y _ rfl rfl (by first | rfl | omega) F.out ?_; go_simp; go_big_quiet_on)
        (go_big_quiet_want; refine quiet_load_nmx G2 p2 y _ rfl rfl F.out.rg F.out.blk F.out.ok.1 ?_; go_simp; go_big_quiet_on)
        (go_big_quiet_want; refine quiet_neq_nm _ _ _ rfl x y true rfl rfl E.out.ok.1 F.out.ok.1 HE.out ?_; go_simp; go_big_quiet_on)
        refine wpQuiet_nil ?_
        intro w2 hw2
        have B2 := Lib.hid (step_ BB.out hw2)
        clear hw2
        go_wp2_with fail
        go_ret
        exact ⟨ret_bool HO.out.symm, B2.out⟩
    · obtain rfl : j = n := by omega
      have HO := Lib.hid (show b = true by rw [← HF.out, List.drop_of_length_le (by have := H.out.len; omega), List.drop_of_length_le (by have := J.out.len; omega)]; rfl)
      go_wp2_with fail
      go_ret
      exact ⟨ret_bool HO.out.symm, BB.out⟩
theorem namesT_is (A A2 : Option Addr) (n m cap cap2 : Nat) (l k : List (List Int)) (b : Bool) (w : World) (h : RowG EN w A n cap l) (h2 : RowG EN w A2 m cap2 k) (hn : n ≤ 5000) (hb : Hid (decide (l = k) = b)) : Calls Tryz.prog 13 #[.slice A n cap, .slice A2 m cap2] w fun e w' => e = .returned (.bool b) ∧ Below w.heap.size w w' := by
  by_cases e : n = m
  · subst e
    exact namesT_len A A2 n cap cap2 l k b w h h2 hn hb
  · have hf : b = false := by
      rw [← hb.out]
      refine decide_eq_false (fun e2 => e ?_)
      rw [← h.len, ← h2.len, e2]
    rw [hf]
    exact namesT_other A A2 n m cap cap2 w (by omega)
end Go.Proofs.YtdigbipfchgjmaaGreat
