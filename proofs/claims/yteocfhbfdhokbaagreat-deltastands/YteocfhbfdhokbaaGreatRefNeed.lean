/- The contracts of Light, Without, Irredundant and Needless of the reference, and of Same of numbers. -/
import Derived.Test.YteocfhbfdhokbaaGreatLawParts
import Derived.Laws.OwnMore
import Derived.Laws.AppendOwnNone
namespace Go.Proofs.YteocfhbfdhokbaaGreat
open Go.RowKit

set_option maxRecDepth 100000 in
set_option maxHeartbeats 4000000 in
theorem light_is (A : Option Addr) (n cap : Nat) (ls : List (List Am)) (w : World) (h : RowsV w A n cap ls) : Calls Tryz.prog 6 #[.slice A n cap] w fun e w' => (∃ r, e = .returned (.bool r) ∧ (r = true → n ≤ 8 ∧ ∀ i, i < n → (ls.getD i []).length ≤ 30)) ∧ Below w.heap.size w w' := by
  have H := Lib.hid h
  clear h
  go_enter Tryz.func6, Tryz.ntmps6
  go_wp2_with fail
  go_loopw [3] (fun i wr => ∃ j : Nat, j ≤ n ∧ j ≤ 9 ∧ i = .int .i64 j ∧ (∀ i, i < j → (ls.getD i []).length ≤ 30) ∧ Below w.heap.size w wr) (fun i _ => 9 - (intOf i).toNat)
  case atStart => exact ⟨0, Nat.zero_le _, Nat.zero_le _, rfl, fun _ h => absurd h (Nat.not_lt_zero _), Below.refl _ _⟩
  case round =>
    obtain ⟨j, hj, hj9, rfl, ha, hb⟩ := hrel
    have AL := Lib.hid ha
    have BB := Lib.hid hb
    clear ha hb
    by_cases hlt : j < n
    · have hd1 : decide ((j : Int) < (n : Int)) = true := decide_eq_true (by omega)
      by_cases h9 : j < 9
      · have hd2 : decide ((j : Int) < 9) = true := decide_eq_true (by omega)
        obtain ⟨G, p, D1, m1, k1, hE⟩ := (H.out.below BB.out).elem j hlt
        have E := Lib.hid hE
        have cell := hE.cell
        have LM := Lib.hid hE.row.len
        clear hE
        by_cases h30 : m1 ≤ 30
        · have hd3 : decide ((30 : Int) < (m1 : Int)) = false := decide_eq_false (by omega)
          go_wp2_with (first
            | go_skip
            | refine wpList_index40 rfl _ _ rfl A n cap G p j D1 m1 k1 _ _ rfl rfl (by first | rfl | omega) E.out ?_)
          go_roundw
          case rel => exact ⟨j + 1, by omega, by omega, by go_num, fun i hi => by
            by_cases e : i < j
            · exact AL.out i e
            · obtain rfl : i = j := by omega
              rw [LM.out]; exact h30, BB.out⟩
          case measure => simp [intOf]; omega
        · have hd3 : decide ((30 : Int) < (m1 : Int)) = true := decide_eq_true (by omega)
          go_wp2_with (first
            | go_skip
            | refine wpList_index40 rfl _ _ rfl A n cap G p j D1 m1 k1 _ _ rfl rfl (by first | rfl | omega) E.out ?_)
          go_ret
          exact ⟨⟨false, rfl, fun h => by cases h⟩, BB.out⟩
      · have hd2 : decide ((j : Int) < 9) = false := decide_eq_false (by omega)
        go_wp2_with (first | go_skip | fail)
        go_ret
        exact ⟨⟨decide ((n : Int) ≤ 8), rfl, fun h => by have := of_decide_eq_true h; omega⟩, BB.out⟩
    · obtain rfl : j = n := by omega
      have hd1 : decide ((j : Int) < (j : Int)) = false := decide_eq_false (by omega)
      go_wp2_with (first | go_skip | fail)
      go_ret
      exact ⟨⟨decide ((j : Int) ≤ 8), rfl, fun h => ⟨by have := of_decide_eq_true h; omega, AL.out⟩⟩, BB.out⟩
theorem take_set_flat {ls : List (List Am)} {i j : Nat} (hj : j < ls.length) : ((ls.set i []).take (j + 1)).flatten = ((ls.set i []).take j).flatten ++ (if j = i then [] else ls.getD j []) := by
  rw [takeL_getD (by rw [List.length_set]; exact hj), List.flatten_append, List.flatten_singleton]
  congr 1
  split
  · rename_i e; subst e
    rw [List.getD_eq_getElem?_getD, List.getElem?_set_self hj]; rfl
  · rename_i e
    rw [List.getD_eq_getElem?_getD, List.getElem?_set_ne (fun h => e h.symm), ← List.getD_eq_getElem?_getD]
theorem flat_set_le {ls : List (List Am)} (i : Nat) : (ls.set i []).flatten.length ≤ ls.flatten.length := by
  by_cases h : i < ls.length
  · have e1 := (cut_at h).1
    have e2 := (cut_at h).2
    rw [e2]
    conv => rhs; rw [e1]
    simp only [List.flatten_append, List.flatten_cons, List.length_append, List.length_nil]
    omega
  · rw [List.set_eq_of_length_le (by omega)]; exact Nat.le_refl _
set_option maxRecDepth 100000 in
set_option maxHeartbeats 4000000 in
theorem without_is (A : Option Addr) (n cap : Nat) (ls : List (List Am)) (i : Nat) (w : World) (h : RowsV w A n cap ls) (hf : FewR ls) : Calls Tryz.prog 27 #[.slice A n cap, .int .i64 (i : Int)] w (GivesR w (norm (wo ls i))) := by
  have hn : n ≤ 100 := by have := h.len; have := hf.1; omega
  have H := Lib.hid h
  have FF := Lib.hid hf
  obtain ⟨M, hM⟩ : ∃ M, ls.set i [] = M := ⟨_, rfl⟩
  have HM := Lib.hid (show norm (wo ls i) = norm M.flatten by unfold wo; rw [hM])
  have OM := Lib.hid (show OkM M by rw [← hM]; exact OkM.set h.ok i)
  have ML := Lib.hid (show M.flatten.length ≤ 600 by rw [← hM]; exact Nat.le_trans (flat_set_le i) hf.2)
  have TS := Lib.hid (show ∀ j, j < n → (M.take (j + 1)).flatten = (M.take j).flatten ++ (if j = i then [] else ls.getD j []) from fun j hj => by rw [← hM]; exact take_set_flat (by rw [h.len]; exact hj))
  have MN := Lib.hid (show M.length = n by rw [← hM, List.length_set]; exact h.len)
  rw [HM.out]
  clear h hf hM HM
  go_enter Tryz.func27, Tryz.ntmps27
  go_wp2_with fail
  go_loopw [5, 6] (fun v ii wr => ∃ (j : Nat) (D : Option Addr) (m c : Nat), j ≤ n ∧ ii = .int .i64 j ∧ v = .slice D m c ∧ RowV wr D m c (norm (M.take j).flatten) ∧ Below w.heap.size w wr) (fun _ ii _ => n - (intOf ii).toNat)
  case atStart => exact ⟨0, none, 0, 0, Nat.zero_le _, rfl, rfl, rowV_nil _, Below.refl _ _⟩
  case round =>
    obtain ⟨j, D, m, c, hj, rfl, rfl, hr, hb⟩ := hrel
    have RO := Lib.hid hr
    have BB := Lib.hid hb
    have OT := Lib.hid (show OkR (M.take j).flatten from okR_flat (fun x hx => OM.out x (List.mem_of_mem_take hx)))
    have hm : m ≤ 1000 := by have h9 := norm_len (M.take j).flatten; rw [hr.len] at h9; have h8 := flat_take_le (R := M) j; have := ML.out; omega
    clear hr hb
    by_cases hlt : j < n
    · have T := Lib.hid (TS.out j hlt)
      by_cases hij : j = i
      · have hq : ((j : Int) == (i : Int)) = true := by simp; omega
        have T2 := Lib.hid (show (M.take (j + 1)).flatten = (M.take j).flatten by rw [T.out, if_pos hij, List.append_nil])
        go_wp2_with fail
        go_roundw
        case rel => exact ⟨j + 1, D, m, c, by omega, by go_num, rfl, by rw [T2.out]; exact RO.out, BB.out⟩
        case measure => simp [intOf]; omega
      · have hq : ((j : Int) == (i : Int)) = false := by simp; omega
        obtain ⟨G, p, D1, m1, k1, hE⟩ := (H.out.below BB.out).elem j hlt
        have E := Lib.hid hE
        have cell := hE.cell
        have hm1 : m1 ≤ 1000 := by have := FF.out.at_ j; have := hE.row.len; omega
        have T2 := Lib.hid (show join (norm (M.take j).flatten) (ls.getD j []) = norm (M.take (j + 1)).flatten by rw [T.out, if_neg hij]; exact join_norm OT.out hE.row.ok)
        clear hE
        go_wp2_with (first
          | go_skip
          | refine wpList_index40 rfl _ _ rfl A n cap G p j D1 m1 k1 _ _ rfl rfl (by first | rfl | omega) E.out ?_)
        refine (refJoin_is _ _ _ _ _ _ _ _ _ RO.out E.out.row hm hm1).mono ?_
        rw [T2.out]
        rintro e w4 ⟨⟨A4, n4, c4, rfl, r4⟩, b4⟩
        have R4 := Lib.hid r4
        have B4 := Lib.hid (step_ BB.out b4)
        clear r4 b4
        go_wp2_with fail
        go_roundw
        case rel => exact ⟨j + 1, A4, n4, c4, by omega, by go_num, rfl, R4.out, B4.out⟩
        case measure => simp [intOf]; omega
    · obtain rfl : n = j := by omega
      have HT := Lib.hid (show M.take n = M from List.take_of_length_le (by have := MN.out; omega))
      rw [HT.out] at RO
      go_wp2_with fail
      go_ret
      exact ⟨⟨D, m, c, rfl, RO.out⟩, BB.out⟩
theorem leq_norm {a b : List Am} (hb : OkR b) : leq a (norm b) = leq a b := by unfold leq; rw [show gt (norm b) = gt b from funext (gt_norm hb)]
set_option maxRecDepth 100000 in
set_option maxHeartbeats 8000000 in
theorem refIrred_is (A : Option Addr) (n cap : Nat) (ls : List (List Am)) (w : World) (h : RowsV w A n cap ls) (hf : FewR ls) : Calls Tryz.prog 9 #[.slice A n cap] w fun e w' => e = .returned (.bool (irred ls)) ∧ Below w.heap.size w w' := by
  have hn : n ≤ 100 := by have := h.len; have := hf.1; omega
  have H := Lib.hid h
  have FM := Lib.hid hf
  have OM := Lib.hid (show OkM ls from h.ok)
  have LN := Lib.hid h.len
  clear h hf
  go_enter Tryz.func9, Tryz.ntmps9
  go_wp2_with fail
  go_loopw [3] (fun i wr => ∃ j : Nat, j ≤ n ∧ i = .int .i64 j ∧ ((List.range j).all fun i => !leq (ls.getD i []) (wo ls i)) = true ∧ Below w.heap.size w wr) (fun i _ => n - (intOf i).toNat)
  case atStart => exact ⟨0, Nat.zero_le _, rfl, rfl, Below.refl _ _⟩
  case round =>
    obtain ⟨j, hj, rfl, ha, hb⟩ := hrel
    have AL := Lib.hid ha
    have BB := Lib.hid hb
    clear ha hb
    by_cases hlt : j < n
    · obtain ⟨G, p, D1, m1, k1, hE⟩ := (H.out.below BB.out).elem j hlt
      have E := Lib.hid hE
      have LM := Lib.hid (show m1 ≤ 1000 by have := FM.out.at_ j; have := hE.row.len; omega)
      have LW := Lib.hid (show (wo ls j).length ≤ 600 from Nat.le_trans (flat_set_le j) FM.out.2)
      clear hE
      go_wp2_with fail
      cases hq : leq (ls.getD j []) (norm (wo ls j)) with
      | true =>
        have HQ := Lib.hid hq
        have IR := Lib.hid (show irred ls = false by
          unfold irred
          rw [List.all_eq_false]
          exact ⟨j, List.mem_range.2 (by rw [LN.out]; exact hlt), by rw [← leq_norm (OM.out.wo j), hq]; decide⟩)
        clear hq
        have S1 := Lib.hid (show Below wr.heap.size wr wr.drew from below_drew (Below.refl _ _))
        refine wp_region_noPanic ?_
        refine wp_region_held_drew (S := fun W => Below wr.heap.size wr W) (by kernel_rfl) S1.out (fun _ => ?_)
        refine wpAnyH_take (i := 0) (oi := { dst := some 10, op := Go.Op.move (Go.Operand.tmp 0), type := 22, pos := _, after := #[], guard := none }) (v := ?_) rfl (by kernel_rfl) (by kernel_rfl) (by kernel_rfl) (fun _ _ _ h => h) (Or.inl ⟨by rfl, ?_⟩) S1.out ?_
        rotate_left
        · intro W hW; (go_simp; try with_reducible rfl)
        try simp only [Act.put, List.setIfInBounds_toArray, List.set_cons_zero, List.set_cons_succ]
        refine wpAnyH_take (i := 1) (oi := { dst := some 11, op := Go.Op.move (Go.Operand.tmp 3), type := 3, pos := _, after := #[], guard := none }) (v := ?_) rfl (by kernel_rfl) (by kernel_rfl) (by kernel_rfl) (fun _ _ _ h => h) (Or.inl ⟨by rfl, ?_⟩) S1.out ?_
        rotate_left
        · intro W hW; (go_simp; try with_reducible rfl)
        try simp only [Act.put, List.setIfInBounds_toArray, List.set_cons_zero, List.set_cons_succ]
        refine wpAnyH_take (i := 2) (oi := { dst := some 12, op := Go.Op.indexAddr 22 (Go.Operand.tmp 10) (Go.Operand.tmp 11), type := 0, pos := _, after := #[{ on := 0, ground := Go.Ground.data }, { on := 1, ground := Go.Ground.data }], guard := none }) (v := .pointer (some ⟨G, p, none⟩)) rfl (by kernel_rfl) (by kernel_rfl) (by kernel_rfl) (fun _ _ _ h => h) (Or.inl ⟨by rfl, fun W hW => exec_index40 _ _ rfl A n cap G p j D1 m1 k1 _ _ rfl rfl (by first | rfl | omega) E.out⟩) S1.out ?_
        try simp only [Act.put, List.setIfInBounds_toArray, List.set_cons_zero, List.set_cons_succ]
        refine wpAnyH_take (i := 3) (oi := { dst := some 13, op := Go.Op.load 28 (Go.Operand.tmp 12), type := 28, pos := _, after := #[{ on := 2, ground := Go.Ground.data }], guard := none }) (v := ?_) rfl (by kernel_rfl) (by kernel_rfl) (by kernel_rfl) (fun _ _ _ h => h) (Or.inl ⟨by rfl, ?_⟩) S1.out ?_
        rotate_left
        · intro W hW; have c0 := (E.out.below hW).cell; (go_simp; try with_reducible rfl)
        try simp only [Act.put, List.setIfInBounds_toArray, List.set_cons_zero, List.set_cons_succ]
        refine wpAnyH_take (i := 4) (oi := { dst := some 14, op := Go.Op.move (Go.Operand.tmp 0), type := 22, pos := _, after := #[], guard := none }) (v := ?_) rfl (by kernel_rfl) (by kernel_rfl) (by kernel_rfl) (fun _ _ _ h => h) (Or.inl ⟨by rfl, ?_⟩) S1.out ?_
        rotate_left
        · intro W hW; (go_simp; try with_reducible rfl)
        try simp only [Act.put, List.setIfInBounds_toArray, List.set_cons_zero, List.set_cons_succ]
        refine wpAnyH_take (i := 5) (oi := { dst := some 15, op := Go.Op.move (Go.Operand.tmp 3), type := 3, pos := _, after := #[], guard := none }) (v := ?_) rfl (by kernel_rfl) (by kernel_rfl) (by kernel_rfl) (fun _ _ _ h => h) (Or.inl ⟨by rfl, ?_⟩) S1.out ?_
        rotate_left
        · intro W hW; (go_simp; try with_reducible rfl)
        try simp only [Act.put, List.setIfInBounds_toArray, List.set_cons_zero, List.set_cons_succ]
        refine wpAnyH_ready (rs := [6]) (by kernel_rfl) (by simp) ?_
        refine AllReadyH.cons (o := { dst := some 16, op := Go.Op.call { callee := Go.Callee.value (Go.Operand.func 27), args := #[Go.Operand.tmp 14, Go.Operand.tmp 15], argTypes := #[22, 3] }, type := 28, pos := _, after := #[{ on := 4, ground := Go.Ground.data }, { on := 5, ground := Go.Ground.data }], guard := none }) rfl (fun K hK => ?_) AllReadyH.nil
        go_simp
        refine (without_is A n cap ls j _ ((H.out.below BB.out).below S1.out) FM.out).mono ?_
        rintro e w4 ⟨⟨A4, n4, c4, rfl, r4⟩, b4⟩
        have S4 := Lib.hid (S1.out.trans (b4.mono S1.out.size))
        have R4 := Lib.hid r4
        have L4 := Lib.hid (show n4 ≤ 1000 by have h9 := norm_len (wo ls j); rw [r4.len] at h9; have := LW.out; omega)
        clear r4 b4
        go_wp2_with fail
        refine hK.out _ _ ?_ (fun _ => ?_)
        · exact S4.out
        clear hK K
        try simp only [Act.put, List.setIfInBounds_toArray, List.set_cons_zero, List.set_cons_succ]
        refine wpAnyH_ready (rs := [7]) (by kernel_rfl) (by simp) ?_
        refine AllReadyH.cons (o := { dst := some 17, op := Go.Op.call { callee := Go.Callee.value (Go.Operand.func 26), args := #[Go.Operand.tmp 13, Go.Operand.tmp 16], argTypes := #[28, 28] }, type := 4, pos := _, after := #[{ on := 3, ground := Go.Ground.data }, { on := 6, ground := Go.Ground.data }, { on := 6, ground := Go.Ground.chain }], guard := none }) rfl (fun K hK => ?_) AllReadyH.nil
        go_simp
        refine (refLeq_is _ _ _ _ _ _ (ls.getD j []) (norm (wo ls j)) true _ (E.out.row.below S4.out) R4.out LM.out L4.out HQ).mono ?_
        rintro e w5 ⟨rfl, b5⟩
        have S5 := Lib.hid (S4.out.trans (b5.mono S4.out.size))
        clear b5
        go_wp2_with fail
        refine hK.out _ _ ?_ (fun _ => ?_)
        · exact S5.out
        clear hK K
        try simp only [Act.put, List.setIfInBounds_toArray, List.set_cons_zero, List.set_cons_succ]
        refine wpAnyH_done (by kernel_rfl) ?_ _
        refine NoPanic.normal ?_
        go_wp2_with fail
        go_ret
        exact ⟨by rw [IR.out]; rfl, BB.out.trans (S5.out.mono BB.out.size)⟩
      | false =>
        have HQ := Lib.hid hq
        have A2 := Lib.hid (show ((List.range (j + 1)).all fun i => !leq (ls.getD i []) (wo ls i)) = true by
          rw [List.range_succ, List.all_append, AL.out, List.all_cons, List.all_nil, ← leq_norm (OM.out.wo j), hq]; rfl)
        clear hq
        have S1 := Lib.hid (show Below wr.heap.size wr wr.drew from below_drew (Below.refl _ _))
        refine wp_region_noPanic ?_
        refine wp_region_held_drew (S := fun W => Below wr.heap.size wr W) (by kernel_rfl) S1.out (fun _ => ?_)
        refine wpAnyH_take (i := 0) (oi := { dst := some 10, op := Go.Op.move (Go.Operand.tmp 0), type := 22, pos := _, after := #[], guard := none }) (v := ?_) rfl (by kernel_rfl) (by kernel_rfl) (by kernel_rfl) (fun _ _ _ h => h) (Or.inl ⟨by rfl, ?_⟩) S1.out ?_
        rotate_left
        · intro W hW; (go_simp; try with_reducible rfl)
        try simp only [Act.put, List.setIfInBounds_toArray, List.set_cons_zero, List.set_cons_succ]
        refine wpAnyH_take (i := 1) (oi := { dst := some 11, op := Go.Op.move (Go.Operand.tmp 3), type := 3, pos := _, after := #[], guard := none }) (v := ?_) rfl (by kernel_rfl) (by kernel_rfl) (by kernel_rfl) (fun _ _ _ h => h) (Or.inl ⟨by rfl, ?_⟩) S1.out ?_
        rotate_left
        · intro W hW; (go_simp; try with_reducible rfl)
        try simp only [Act.put, List.setIfInBounds_toArray, List.set_cons_zero, List.set_cons_succ]
        refine wpAnyH_take (i := 2) (oi := { dst := some 12, op := Go.Op.indexAddr 22 (Go.Operand.tmp 10) (Go.Operand.tmp 11), type := 0, pos := _, after := #[{ on := 0, ground := Go.Ground.data }, { on := 1, ground := Go.Ground.data }], guard := none }) (v := .pointer (some ⟨G, p, none⟩)) rfl (by kernel_rfl) (by kernel_rfl) (by kernel_rfl) (fun _ _ _ h => h) (Or.inl ⟨by rfl, fun W hW => exec_index40 _ _ rfl A n cap G p j D1 m1 k1 _ _ rfl rfl (by first | rfl | omega) E.out⟩) S1.out ?_
        try simp only [Act.put, List.setIfInBounds_toArray, List.set_cons_zero, List.set_cons_succ]
        refine wpAnyH_take (i := 3) (oi := { dst := some 13, op := Go.Op.load 28 (Go.Operand.tmp 12), type := 28, pos := _, after := #[{ on := 2, ground := Go.Ground.data }], guard := none }) (v := ?_) rfl (by kernel_rfl) (by kernel_rfl) (by kernel_rfl) (fun _ _ _ h => h) (Or.inl ⟨by rfl, ?_⟩) S1.out ?_
        rotate_left
        · intro W hW; have c0 := (E.out.below hW).cell; (go_simp; try with_reducible rfl)
        try simp only [Act.put, List.setIfInBounds_toArray, List.set_cons_zero, List.set_cons_succ]
        refine wpAnyH_take (i := 4) (oi := { dst := some 14, op := Go.Op.move (Go.Operand.tmp 0), type := 22, pos := _, after := #[], guard := none }) (v := ?_) rfl (by kernel_rfl) (by kernel_rfl) (by kernel_rfl) (fun _ _ _ h => h) (Or.inl ⟨by rfl, ?_⟩) S1.out ?_
        rotate_left
        · intro W hW; (go_simp; try with_reducible rfl)
        try simp only [Act.put, List.setIfInBounds_toArray, List.set_cons_zero, List.set_cons_succ]
        refine wpAnyH_take (i := 5) (oi := { dst := some 15, op := Go.Op.move (Go.Operand.tmp 3), type := 3, pos := _, after := #[], guard := none }) (v := ?_) rfl (by kernel_rfl) (by kernel_rfl) (by kernel_rfl) (fun _ _ _ h => h) (Or.inl ⟨by rfl, ?_⟩) S1.out ?_
        rotate_left
        · intro W hW; (go_simp; try with_reducible rfl)
        try simp only [Act.put, List.setIfInBounds_toArray, List.set_cons_zero, List.set_cons_succ]
        refine wpAnyH_ready (rs := [6]) (by kernel_rfl) (by simp) ?_
        refine AllReadyH.cons (o := { dst := some 16, op := Go.Op.call { callee := Go.Callee.value (Go.Operand.func 27), args := #[Go.Operand.tmp 14, Go.Operand.tmp 15], argTypes := #[22, 3] }, type := 28, pos := _, after := #[{ on := 4, ground := Go.Ground.data }, { on := 5, ground := Go.Ground.data }], guard := none }) rfl (fun K hK => ?_) AllReadyH.nil
        go_simp
        refine (without_is A n cap ls j _ ((H.out.below BB.out).below S1.out) FM.out).mono ?_
        rintro e w4 ⟨⟨A4, n4, c4, rfl, r4⟩, b4⟩
        have S4 := Lib.hid (S1.out.trans (b4.mono S1.out.size))
        have R4 := Lib.hid r4
        have L4 := Lib.hid (show n4 ≤ 1000 by have h9 := norm_len (wo ls j); rw [r4.len] at h9; have := LW.out; omega)
        clear r4 b4
        go_wp2_with fail
        refine hK.out _ _ ?_ (fun _ => ?_)
        · exact S4.out
        clear hK K
        try simp only [Act.put, List.setIfInBounds_toArray, List.set_cons_zero, List.set_cons_succ]
        refine wpAnyH_ready (rs := [7]) (by kernel_rfl) (by simp) ?_
        refine AllReadyH.cons (o := { dst := some 17, op := Go.Op.call { callee := Go.Callee.value (Go.Operand.func 26), args := #[Go.Operand.tmp 13, Go.Operand.tmp 16], argTypes := #[28, 28] }, type := 4, pos := _, after := #[{ on := 3, ground := Go.Ground.data }, { on := 6, ground := Go.Ground.data }, { on := 6, ground := Go.Ground.chain }], guard := none }) rfl (fun K hK => ?_) AllReadyH.nil
        go_simp
        refine (refLeq_is _ _ _ _ _ _ (ls.getD j []) (norm (wo ls j)) false _ (E.out.row.below S4.out) R4.out LM.out L4.out HQ).mono ?_
        rintro e w5 ⟨rfl, b5⟩
        have S5 := Lib.hid (S4.out.trans (b5.mono S4.out.size))
        clear b5
        go_wp2_with fail
        refine hK.out _ _ ?_ (fun _ => ?_)
        · exact S5.out
        clear hK K
        try simp only [Act.put, List.setIfInBounds_toArray, List.set_cons_zero, List.set_cons_succ]
        refine wpAnyH_done (by kernel_rfl) ?_ _
        refine NoPanic.normal ?_
        go_wp2_with fail
        go_roundw
        case rel => exact ⟨j + 1, by omega, by go_num, A2.out, BB.out.trans (S5.out.mono BB.out.size)⟩
        case measure => simp [intOf]; omega
    · obtain rfl : n = j := by omega
      have IR := Lib.hid (show irred ls = true by unfold irred; rw [LN.out]; exact AL.out)
      go_wp2_with fail
      go_ret
      exact ⟨by rw [IR.out]; rfl, BB.out⟩
/-- A copy of rows that were there in the world w0. -/
structure OwnL (w0 w : World) (B : Nat) (A : Option Addr) (n cap : Nat) (ms : List (List Am)) : Prop where
  len : ms.length = n
  row : ∃ xs : List Value, w.ownsRow B 28 1 (.slice A n cap) n xs ∧ ∀ i, i < n → ∃ D m c, xs[i]? = some (.slice D m c) ∧ RowV w0 D m c (ms.getD i [])
theorem OwnL.kept {w0 w w' : World} {B : Nat} {A : Option Addr} {n cap : Nat} {ms : List (List Am)} {o : Option Nat} (h : OwnL w0 w B A n cap ms) (hg : w.grownBy w' o) (hn : (Value.slice A n cap).ownBlock = none ∨ (Value.slice A n cap).ownBlock ≠ o) : OwnL w0 w' B A n cap ms := by
  obtain ⟨xs, h1, h2⟩ := h.row
  exact ⟨h.len, xs, h1.kept hg hn, h2⟩
theorem OwnL.below {w0 w w' : World} {B : Nat} {A : Option Addr} {n cap : Nat} {ms : List (List Am)} (h : OwnL w0 w B A n cap ms) (hb : Below w.heap.size w w') : OwnL w0 w' B A n cap ms :=
  h.kept (grown_of hb) (by cases (Value.slice A n cap).ownBlock <;> simp)
theorem OwnL.rows {w0 w : World} {B : Nat} {A : Option Addr} {n cap : Nat} {ms : List (List Am)} (h : OwnL w0 w B A n cap ms) (hb : Below w0.heap.size w0 w) : RowsV w A n cap ms := by
  obtain ⟨xs, hc, hr⟩ := h.row
  rcases hc.2 with ⟨e, h0⟩ | ⟨g, cap', cur, e, hbg, hg, hn, hcm, hs, ht⟩
  · simp only [Value.slice.injEq] at e
    obtain ⟨rfl, rfl, rfl⟩ := e
    exact ⟨h.len, Nat.le_refl _, Nat.zero_le _, fun h => absurd h (Nat.lt_irrefl _)⟩
  · simp only [Value.slice.injEq] at e
    obtain ⟨rfl, _, rfl⟩ := e
    refine ⟨h.len, hn, hcm, fun _ => ⟨g, 0, rfl, (Array.getElem?_eq_some_iff.1 hg).1, fun i hi => ?_⟩⟩
    obtain ⟨D, m, c, e, r⟩ := hr i hi
    refine ⟨D, m, c, ?_, r.below hb⟩
    rw [cell_of_row _ g _ cur 28 (0, 0) hg, Nat.zero_add]
    rw [← ht, List.getElem?_take_of_lt (by omega)] at e
    simpa using e
theorem OwnL.lt {w0 w : World} {B : Nat} {A : Option Addr} {n cap : Nat} {ms : List (List Am)} (h : OwnL w0 w B A n cap ms) {k : Nat} (hk : (Value.slice A n cap).ownBlock = some k) : B ≤ k ∧ k < w.heap.size := by
  obtain ⟨xs, h1, _⟩ := h.row
  exact h1.lt k hk
theorem run_none28 (w : World) : (Instr.buildSlice 22 0 #[]).run Tryz.prog w = .ok (.slice (some ⟨w.heap.size, 0, none⟩) 0 0) (w.alloc (.cells #[] 28)) := by
  have hsz := Tryz.sizeOf28
  simp only [Instr.buildSlice, Sem.run_bind, run_underlying Tryz.underlying22, Result.andThen_ok, hsz]
  rw [if_neg (by decide), if_pos (by decide)]
  have e : ∀ g : Nat → Value, Array.map g (Array.range (0 * 1)) = #[] := fun g => by simp
  simp only [e, Instr.fill, Sem.run_bind, Sem.run_pure, Result.andThen_ok]
  rfl
theorem OwnI.off {w : World} {B : Nat} {u v : Value} {l : List Nat} (h : OwnI w B v l) (hu : ∀ k, u.ownBlock = some k → k < B) : u.ownBlock = none ∨ u.ownBlock ≠ v.ownBlock := by
  cases hk : u.ownBlock with
  | none => exact .inl rfl
  | some k => exact .inr (fun e => by have := hu k hk; have := (h.lt e.symm).1; omega)
theorem wpList_copyL {ops : Array Oper} {rest : List Oper} {op : Oper} {a : Act} {w w1 : World} {Q : Exit → Act → World → Prop} (hgd : op.guard = none) (s x : Operand) (ho : op.op = .call { callee := .builtin .append, args := #[s, x], argTypes := #[22, 22] })
    (A : Option Addr) (n cap : Nat) (ls : List (List Am)) (v : Value) (hs : a.eval s = v) (hx : a.eval x = .slice A n cap) (hown : w1.ownsRow w.heap.size 28 1 v 0 []) (hr : RowsV w A n cap ls) (h0 : A = none → cap = 0) (hb : Below w.heap.size w w1) (hn : n ≤ 5000)
    (h : ∀ E cp w', Hid (OwnL w w' w.heap.size E n cp ls) → Hid (Below w.heap.size w w') → wpList Tryz.prog ops Q rest (a.put op.dst (.slice E n cp)) w') : wpList Tryz.prog ops Q (op :: rest) a w1 := by
  obtain ⟨i0, hi, hz0, hz1, hz2⟩ := info_parts info22z
  cases A with
  | none =>
    have hn0 : n = 0 := by
      by_cases e : n = 0
      · exact e
      · obtain ⟨G, off, e2, _⟩ := hr.at_ (by omega)
        cases e2
    subst hn0
    obtain rfl : ls = [] := List.eq_nil_of_length_eq_zero hr.len
    obtain rfl := h0 rfl
    refine wpList_append_own_none hgd s x 22 ho w.heap.size 28 i0 1 Tryz.underlying22 hi v _ _ hs hown hx ?_
    have sh : ∃ D c, v = .slice D 0 c := by
      rcases hown.2 with ⟨rfl, _⟩ | ⟨g, c, cur, rfl, _⟩
      · exact ⟨none, 0, rfl⟩
      · exact ⟨_, _, rfl⟩
    obtain ⟨D, c, e⟩ := sh
    rw [e]
    exact h D c w1 (Lib.hid ⟨rfl, [], by rw [← e]; exact hown, fun _ h => absurd h (Nat.not_lt_zero _)⟩) (Lib.hid hb)
  | some ad =>
    obtain ⟨news, hnews⟩ : ∃ news : List Value, news.length = n ∧ ∀ i, i < n → ∃ D m c, news[i]? = some (.slice D m c) ∧ RowV w D m c (ls.getD i []) ∧ w.cell? (ad.add i) = some (.slice D m c) := by
      by_cases hpos : 0 < n
      · obtain ⟨G, off, e, hG, hc⟩ := hr.at_ hpos
        cases e
        refine ⟨(List.range n).map fun i => (w.cell? ⟨G, off + i, none⟩).getD .nilFunc, by simp, fun i hi => ?_⟩
        obtain ⟨D, m, c, h1, h2⟩ := hc i hi
        refine ⟨D, m, c, ?_, h2, ?_⟩
        · rw [List.getElem?_map, List.getElem?_range hi]
          simp [h1]
        · unfold Addr.add
          split
          · rename_i h0; rw [h0] at h1; exact h1
          · exact h1
      · exact ⟨[], by simp; omega, fun i hi => absurd hi (by omega)⟩
    obtain ⟨hl, hnw⟩ := hnews
    have hG : n = 0 ∨ ad.block < w.heap.size := by
      by_cases hpos : 0 < n
      · obtain ⟨G, off, e, hG, _⟩ := hr.at_ hpos
        cases e
        exact .inr hG
      · exact .inl (by omega)
    refine wpList_append_own _ hgd s x 22 ho w.heap.size 28 i0 (.slice none 0 0) 1 24 Tryz.underlying22 hi hz0 hz1 hz2 (by rfl) (by decide) v _ _ hs hown ad n cap news hx (by rw [hl, Nat.mul_one]) (fun j u hj => ?_) (fun u hu => ?_) (by unfold maxLen; omega) (by omega) hb.size (fun v' w' o1 g1 _ => ?_)
    · have hjn : j < n := by rw [← hl]; exact (List.getElem?_eq_some_iff.1 hj).1
      obtain ⟨D, m, c, e1, _, e3⟩ := hnw j hjn
      rw [e1] at hj
      cases hj
      rcases hG with h9 | h9
      · omega
      · exact (hb.cell (p := ad.add j) (by unfold Addr.add; split <;> exact h9)).trans e3
    · obtain ⟨j, hj, e⟩ := List.getElem_of_mem hu
      obtain ⟨D, m, c, e1, _⟩ := hnw j (by rw [← hl]; exact hj)
      rw [List.getElem?_eq_getElem hj, e] at e1
      cases e1
      rfl
    · rw [Nat.zero_add, List.nil_append] at o1
      have sh : ∃ D c, v' = .slice D n c := by
        rcases o1.2 with ⟨rfl, h9⟩ | ⟨g, c, cur, rfl, _⟩
        · exact ⟨none, 0, by rw [h9]⟩
        · exact ⟨_, _, rfl⟩
      obtain ⟨D, c, e⟩ := sh
      subst e
      refine h D c w' (Lib.hid ⟨hr.len, news, o1, fun i hi => ?_⟩) (Lib.hid (hb.trans ⟨g1.os, g1.tape, g1.output, g1.size, fun k hk => g1.block k (by have := hb.size; omega) (fun e => by have := (hown.lt k e.symm).1; omega)⟩))
      obtain ⟨D, m, c, e1, e2, _⟩ := hnw i hi
      exact ⟨D, m, c, e1, e2⟩
theorem wpList_clearL {ops : Array Oper} {rest : List Oper} {op : Oper} {a : Act} {w0 w : World} {Q : Exit → Act → World → Prop} (hgd : op.guard = none) (x y : Operand) (ho : op.op = .store 28 x y) (B : Nat) (A : Option Addr) (n cap i G p : Nat) (ms : List (List Am)) (hl : OwnL w0 w B A n cap ms) (hi : i < n) (hA : ∃ off, A = some ⟨G, off, none⟩ ∧ p = off + i) (hx : a.eval x = .pointer (some ⟨G, p, none⟩)) (hy : a.eval y = .slice none 0 0)
    (h : ∀ w', Hid (OwnL w0 w' B A n cap (ms.set i [])) → Hid (Below B w w') → Hid (w.grownBy w' (some G)) → wpList Tryz.prog ops Q rest (a.put op.dst undef) w') : wpList Tryz.prog ops Q (op :: rest) a w := by
  refine wpList_plain hgd fun K hK => ?_
  obtain ⟨xs, h1, h2⟩ := hl.row
  obtain ⟨off, eA, ep⟩ := hA
  have hoff : off = 0 := by
    rcases h1.2 with ⟨e, _⟩ | ⟨g, c, cur, e, _⟩
    · simp only [Value.slice.injEq] at e; rw [e.1] at eA; cases eA
    · simp only [Value.slice.injEq] at e; rw [e.1] at eA; simp only [Option.some.injEq, Addr.mk.injEq] at eA; exact eA.2.1.symm
  subst hoff
  rw [Nat.zero_add] at ep
  subst ep
  subst eA
  obtain ⟨D, m, c, e1, _⟩ := h2 p hi
  have hf := h1.frozenAt p
  have hc : w.cell? ⟨G, p, none⟩ = some (.slice D m c) := by
    rcases h1.2 with ⟨e, _⟩ | ⟨g, c', cur, e, _, hg, _, _, _, ht⟩
    · cases e
    · simp only [Value.slice.injEq, Option.some.injEq, Addr.mk.injEq, and_true, true_and] at e
      obtain ⟨rfl, rfl⟩ := e
      rw [cell_of_row _ G _ cur 28 (0, 0) hg]
      rw [← ht, List.getElem?_take_of_lt (by omega)] at e1
      simpa using e1
  have hrun : (execOp a.eval op).run Tryz.prog w = .ok .skip (w.setCell ⟨G, p, none⟩ (.slice none 0 0)) := by
    unfold execOp
    simp only [ho, hx, hy]
    simp [go_sem, hc, hf]
  obtain ⟨s1, s2⟩ := h1.stored p (.slice none 0 0)
  unfold Oper.wp
  rw [hrun]
  refine hK _ _ (h _ (Lib.hid ⟨by rw [List.length_set]; exact hl.len, _, s1, fun k hk => ?_⟩) (Lib.hid ⟨s2.os, s2.tape, s2.output, s2.size, fun k hk => s2.block k (by have := (h1.lt G rfl).2; have := (h1.lt G rfl).1; omega) (fun e => by have := (h1.lt G rfl).1; have := Option.some.inj e; omega)⟩) (Lib.hid s2))
  obtain ⟨D2, m2, c2, q1, q2⟩ := h2 k hk
  by_cases e : k = p
  · subst e
    refine ⟨none, 0, 0, ?_, ?_⟩
    · rw [List.getElem?_set_self (by have := (List.getElem?_eq_some_iff.1 q1).1; exact this)]
    · rw [List.getD_eq_getElem?_getD, List.getElem?_set_self (by rw [hl.len]; exact hk)]; exact rowV_nil _
  · refine ⟨D2, m2, c2, ?_, ?_⟩
    · rw [List.getElem?_set_ne (fun h => e h.symm)]; exact q1
    · rw [List.getD_eq_getElem?_getD, List.getElem?_set_ne (fun h => e h.symm), ← List.getD_eq_getElem?_getD]; exact q2
theorem nst_flat {ls : List (List Am)} : ∀ j, (nst ls j).1.flatten.length ≤ ls.flatten.length
  | 0 => Nat.le_refl _
  | j + 1 => by
    rw [nst_succ]
    unfold nstep
    split
    · exact Nat.le_trans (flat_set_le j) (nst_flat j)
    · exact nst_flat j
set_option maxRecDepth 100000 in
set_option maxHeartbeats 8000000 in
theorem refNeedless_is (A : Option Addr) (n cap : Nat) (ls : List (List Am)) (w : World) (h : RowsV w A n cap ls) (hf : FewR ls) (h0 : A = none → cap = 0) : Calls Tryz.prog 12 #[.slice A n cap] w (GivesI w (needless ls)) := by
  have hn : n ≤ 100 := by have := h.len; have := hf.1; omega
  have hb := run_none28
  have H := Lib.hid h
  have FF := Lib.hid hf
  have OM := Lib.hid (show OkM ls from h.ok)
  have LN := Lib.hid h.len
  have N0 := Lib.hid (new_below w (.cells #[] 28))
  have O0 := Lib.hid (World.ownsRow_made (base := w.heap.size) (e := 28) (size := 1) w #[] 0 (Nat.le_refl _) (Nat.zero_le _) (by rfl))
  have Z0 := Lib.hid h0
  clear h hf h0
  go_enter Tryz.func12, Tryz.ntmps12
  go_wp2_with (first
    | go_skip
    | (refine wpList_copyL rfl _ _ rfl A n cap ls _ rfl rfl O0.out H.out Z0.out N0.out (by omega) ?_; intro E4 cp w1 OL BL))
  have OLB := Lib.hid (show ∀ k, (Value.slice E4 n cp).ownBlock = some k → k < w1.heap.size from fun k hk => (OL.out.lt hk).2)
  go_loopw [3, 5] (fun v i wr => ∃ j : Nat, j ≤ n ∧ i = .int .i64 j ∧ OwnI wr w1.heap.size v (nst ls j).2 ∧ OwnL w wr w.heap.size E4 n cp (nst ls j).1 ∧ Below w.heap.size w wr ∧ w1.heap.size ≤ wr.heap.size) (fun _ i _ => n - (intOf i).toNat)
  case atStart => exact ⟨0, Nat.zero_le _, rfl, ownI_nil _ _, OL.out, BL.out, Nat.le_refl _⟩
  case round =>
    obtain ⟨j, hj, rfl, ho, hl, hb, hs⟩ := hrel
    have OI := Lib.hid ho
    have OL := Lib.hid hl
    have BB := Lib.hid hb
    have SZ := Lib.hid hs
    clear ho hl hb hs
    by_cases hlt : j < n
    · obtain ⟨G, p, D1, m1, k1, hE⟩ := (H.out.below BB.out).elem j hlt
      have E := Lib.hid hE
      have NI := Lib.hid (nst_ni OM.out j (by have := LN.out; omega))
      have NS := Lib.hid (nst_succ ls j)
      have FM := Lib.hid (show FewR (nst ls j).1 from ⟨by rw [NI.out.len]; exact FF.out.1, Nat.le_trans (nst_flat j) FF.out.2⟩)
      have LM := Lib.hid (show m1 ≤ 1000 by have := FF.out.at_ j; have := hE.row.len; omega)
      have LW := Lib.hid (show (wo (nst ls j).1 j).length ≤ 600 from Nat.le_trans (flat_set_le j) FM.out.2)
      have LI := Lib.hid (show (nst ls j).2.length ≤ 5000 by have := NI.out.few; omega)
      clear hE
      go_wp2_with fail
      cases hq : leq (ls.getD j []) (norm (wo (nst ls j).1 j)) with
      | true =>
        have HQ := Lib.hid hq
        have NX := Lib.hid (show nst ls (j + 1) = ((nst ls j).1.set j [], (nst ls j).2 ++ [j]) by rw [NS.out]; unfold nstep; rw [if_pos (by rw [← leq_norm (NI.out.ok.wo j)]; exact hq)])
        clear hq
        have S1 := Lib.hid (show Below wr.heap.size wr wr.drew from below_drew (Below.refl _ _))
        refine wp_region_noPanic ?_
        refine wp_region_held_drew (S := fun W => Below wr.heap.size wr W) (by kernel_rfl) S1.out (fun _ => ?_)
        refine wpAnyH_take (i := 0) (oi := { dst := some 15, op := Go.Op.move (Go.Operand.tmp 0), type := 22, pos := _, after := #[], guard := none }) (v := ?_) rfl (by kernel_rfl) (by kernel_rfl) (by kernel_rfl) (fun _ _ _ h => h) (Or.inl ⟨by rfl, ?_⟩) S1.out ?_
        rotate_left
        · intro W hW; (go_simp; try with_reducible rfl)
        try simp only [Act.put, List.setIfInBounds_toArray, List.set_cons_zero, List.set_cons_succ]
        refine wpAnyH_take (i := 1) (oi := { dst := some 16, op := Go.Op.move (Go.Operand.tmp 5), type := 3, pos := _, after := #[], guard := none }) (v := ?_) rfl (by kernel_rfl) (by kernel_rfl) (by kernel_rfl) (fun _ _ _ h => h) (Or.inl ⟨by rfl, ?_⟩) S1.out ?_
        rotate_left
        · intro W hW; (go_simp; try with_reducible rfl)
        try simp only [Act.put, List.setIfInBounds_toArray, List.set_cons_zero, List.set_cons_succ]
        refine wpAnyH_take (i := 2) (oi := { dst := some 17, op := Go.Op.indexAddr 22 (Go.Operand.tmp 15) (Go.Operand.tmp 16), type := 0, pos := _, after := #[{ on := 0, ground := Go.Ground.data }, { on := 1, ground := Go.Ground.data }], guard := none }) (v := .pointer (some ⟨G, p, none⟩)) rfl (by kernel_rfl) (by kernel_rfl) (by kernel_rfl) (fun _ _ _ h => h) (Or.inl ⟨by rfl, fun W hW => exec_index40 _ _ rfl A n cap G p j D1 m1 k1 _ _ rfl rfl (by first | rfl | omega) E.out⟩) S1.out ?_
        try simp only [Act.put, List.setIfInBounds_toArray, List.set_cons_zero, List.set_cons_succ]
        refine wpAnyH_take (i := 3) (oi := { dst := some 18, op := Go.Op.load 28 (Go.Operand.tmp 17), type := 28, pos := _, after := #[{ on := 2, ground := Go.Ground.data }], guard := none }) (v := ?_) rfl (by kernel_rfl) (by kernel_rfl) (by kernel_rfl) (fun _ _ _ h => h) (Or.inl ⟨by rfl, ?_⟩) S1.out ?_
        rotate_left
        · intro W hW; have c0 := (E.out.below hW).cell; (go_simp; try with_reducible rfl)
        try simp only [Act.put, List.setIfInBounds_toArray, List.set_cons_zero, List.set_cons_succ]
        refine wpAnyH_take (i := 4) (oi := { dst := some 19, op := Go.Op.move (Go.Operand.tmp 4), type := 22, pos := _, after := #[], guard := none }) (v := ?_) rfl (by kernel_rfl) (by kernel_rfl) (by kernel_rfl) (fun _ _ _ h => h) (Or.inl ⟨by rfl, ?_⟩) S1.out ?_
        rotate_left
        · intro W hW; (go_simp; try with_reducible rfl)
        try simp only [Act.put, List.setIfInBounds_toArray, List.set_cons_zero, List.set_cons_succ]
        refine wpAnyH_take (i := 5) (oi := { dst := some 20, op := Go.Op.move (Go.Operand.tmp 5), type := 3, pos := _, after := #[], guard := none }) (v := ?_) rfl (by kernel_rfl) (by kernel_rfl) (by kernel_rfl) (fun _ _ _ h => h) (Or.inl ⟨by rfl, ?_⟩) S1.out ?_
        rotate_left
        · intro W hW; (go_simp; try with_reducible rfl)
        try simp only [Act.put, List.setIfInBounds_toArray, List.set_cons_zero, List.set_cons_succ]
        refine wpAnyH_ready (rs := [6]) (by kernel_rfl) (by simp) ?_
        refine AllReadyH.cons (o := { dst := some 21, op := Go.Op.call { callee := Go.Callee.value (Go.Operand.func 27), args := #[Go.Operand.tmp 19, Go.Operand.tmp 20], argTypes := #[22, 3] }, type := 28, pos := _, after := #[{ on := 4, ground := Go.Ground.data }, { on := 5, ground := Go.Ground.data }], guard := none }) rfl (fun K hK => ?_) AllReadyH.nil
        go_simp
        refine (without_is E4 n cp (nst ls j).1 j _ ((OL.out.rows BB.out).below S1.out) FM.out).mono ?_
        rintro e w4 ⟨⟨A4, n4, c4, rfl, r4⟩, b4⟩
        have S4 := Lib.hid (S1.out.trans (b4.mono S1.out.size))
        have R4 := Lib.hid r4
        have L4 := Lib.hid (show n4 ≤ 1000 by have h9 := norm_len (wo (nst ls j).1 j); rw [r4.len] at h9; have := LW.out; omega)
        clear r4 b4
        go_wp2_with fail
        refine hK.out _ _ ?_ (fun _ => ?_)
        · exact S4.out
        clear hK K
        try simp only [Act.put, List.setIfInBounds_toArray, List.set_cons_zero, List.set_cons_succ]
        refine wpAnyH_ready (rs := [7]) (by kernel_rfl) (by simp) ?_
        refine AllReadyH.cons (o := { dst := some 22, op := Go.Op.call { callee := Go.Callee.value (Go.Operand.func 26), args := #[Go.Operand.tmp 18, Go.Operand.tmp 21], argTypes := #[28, 28] }, type := 4, pos := _, after := #[{ on := 3, ground := Go.Ground.data }, { on := 6, ground := Go.Ground.data }, { on := 6, ground := Go.Ground.chain }], guard := none }) rfl (fun K hK => ?_) AllReadyH.nil
        go_simp
        refine (refLeq_is _ _ _ _ _ _ (ls.getD j []) (norm (wo (nst ls j).1 j)) true _ (E.out.row.below S4.out) R4.out LM.out L4.out HQ).mono ?_
        rintro e w5 ⟨rfl, b5⟩
        have S5 := Lib.hid (S4.out.trans (b5.mono S4.out.size))
        clear b5
        go_wp2_with fail
        refine hK.out _ _ ?_ (fun _ => ?_)
        · exact S5.out
        clear hK K
        try simp only [Act.put, List.setIfInBounds_toArray, List.set_cons_zero, List.set_cons_succ]
        refine wpAnyH_done (by kernel_rfl) ?_ _
        refine NoPanic.normal ?_
        have B5 := Lib.hid (BB.out.trans (S5.out.mono BB.out.size))
        have L5 := Lib.hid (OL.out.below S5.out)
        have O5 := Lib.hid (OI.out.below S5.out)
        have H5 := Lib.hid (Nat.le_trans SZ.out S5.out.size)
        obtain ⟨G9, p9, D9, m9, k9, hF⟩ := (L5.out.rows B5.out).elem j hlt
        have F := Lib.hid hF
        have FA := Lib.hid hF.ad
        have GE := Lib.hid (show w.heap.size ≤ G9 ∧ G9 < w1.heap.size by
          obtain ⟨off, e, _⟩ := hF.ad
          have h9 : (Value.slice E4 n cp).ownBlock = some G9 := by rw [e]; rfl
          exact ⟨(L5.out.lt h9).1, by have := OLB.out; exact this G9 h9⟩)
        clear hF
        go_wp2_with (first
          | go_skip
          | (refine wpList_ints1 rfl _ rfl j rfl ?_; intro g6 w6 e6 N6 B6)
          | (refine wpList_app_i rfl _ _ rfl w1.heap.size _ (nst ls j).2 j g6 rfl rfl (O5.out.below B6.out) N6.out LI.out (Nat.le_trans H5.out B6.out.size) ?_; intro D7 m7 c7 w7 e7 O7 B7 G7; have L7 := Lib.hid ((L5.out.below B6.out).kept G7.out ((O5.out.below B6.out).off OLB.out)))
          | refine wpList_index40 rfl _ _ rfl E4 n cp G9 p9 j D9 m9 k9 _ _ rfl rfl (by first | rfl | omega) F.out ?_
          | (refine wpList_clearL rfl _ _ rfl w.heap.size E4 n cp j G9 p9 (nst ls j).1 L7.out hlt FA.out rfl rfl ?_; intro w8 L8 B8 G8))
        go_roundw
        case rel => exact ⟨j + 1, by omega, by go_num, by rw [NX.out]; exact O7.out.kept G8.out (.inr (fun e => by have := (O7.out.lt e).1; have := GE.out.2; omega)), by rw [NX.out]; exact L8.out, ((step_ B5.out B6.out).trans (B7.out.mono BL.out.size)).trans B8.out, Nat.le_trans H5.out (Nat.le_trans B6.out.size (Nat.le_trans B7.out.size B8.out.size))⟩
        case measure => simp [intOf]; omega
      | false =>
        have HQ := Lib.hid hq
        have NX := Lib.hid (show nst ls (j + 1) = nst ls j by rw [NS.out]; unfold nstep; rw [if_neg (by rw [← leq_norm (NI.out.ok.wo j), hq]; decide)])
        clear hq
        have S1 := Lib.hid (show Below wr.heap.size wr wr.drew from below_drew (Below.refl _ _))
        refine wp_region_noPanic ?_
        refine wp_region_held_drew (S := fun W => Below wr.heap.size wr W) (by kernel_rfl) S1.out (fun _ => ?_)
        refine wpAnyH_take (i := 0) (oi := { dst := some 15, op := Go.Op.move (Go.Operand.tmp 0), type := 22, pos := _, after := #[], guard := none }) (v := ?_) rfl (by kernel_rfl) (by kernel_rfl) (by kernel_rfl) (fun _ _ _ h => h) (Or.inl ⟨by rfl, ?_⟩) S1.out ?_
        rotate_left
        · intro W hW; (go_simp; try with_reducible rfl)
        try simp only [Act.put, List.setIfInBounds_toArray, List.set_cons_zero, List.set_cons_succ]
        refine wpAnyH_take (i := 1) (oi := { dst := some 16, op := Go.Op.move (Go.Operand.tmp 5), type := 3, pos := _, after := #[], guard := none }) (v := ?_) rfl (by kernel_rfl) (by kernel_rfl) (by kernel_rfl) (fun _ _ _ h => h) (Or.inl ⟨by rfl, ?_⟩) S1.out ?_
        rotate_left
        · intro W hW; (go_simp; try with_reducible rfl)
        try simp only [Act.put, List.setIfInBounds_toArray, List.set_cons_zero, List.set_cons_succ]
        refine wpAnyH_take (i := 2) (oi := { dst := some 17, op := Go.Op.indexAddr 22 (Go.Operand.tmp 15) (Go.Operand.tmp 16), type := 0, pos := _, after := #[{ on := 0, ground := Go.Ground.data }, { on := 1, ground := Go.Ground.data }], guard := none }) (v := .pointer (some ⟨G, p, none⟩)) rfl (by kernel_rfl) (by kernel_rfl) (by kernel_rfl) (fun _ _ _ h => h) (Or.inl ⟨by rfl, fun W hW => exec_index40 _ _ rfl A n cap G p j D1 m1 k1 _ _ rfl rfl (by first | rfl | omega) E.out⟩) S1.out ?_
        try simp only [Act.put, List.setIfInBounds_toArray, List.set_cons_zero, List.set_cons_succ]
        refine wpAnyH_take (i := 3) (oi := { dst := some 18, op := Go.Op.load 28 (Go.Operand.tmp 17), type := 28, pos := _, after := #[{ on := 2, ground := Go.Ground.data }], guard := none }) (v := ?_) rfl (by kernel_rfl) (by kernel_rfl) (by kernel_rfl) (fun _ _ _ h => h) (Or.inl ⟨by rfl, ?_⟩) S1.out ?_
        rotate_left
        · intro W hW; have c0 := (E.out.below hW).cell; (go_simp; try with_reducible rfl)
        try simp only [Act.put, List.setIfInBounds_toArray, List.set_cons_zero, List.set_cons_succ]
        refine wpAnyH_take (i := 4) (oi := { dst := some 19, op := Go.Op.move (Go.Operand.tmp 4), type := 22, pos := _, after := #[], guard := none }) (v := ?_) rfl (by kernel_rfl) (by kernel_rfl) (by kernel_rfl) (fun _ _ _ h => h) (Or.inl ⟨by rfl, ?_⟩) S1.out ?_
        rotate_left
        · intro W hW; (go_simp; try with_reducible rfl)
        try simp only [Act.put, List.setIfInBounds_toArray, List.set_cons_zero, List.set_cons_succ]
        refine wpAnyH_take (i := 5) (oi := { dst := some 20, op := Go.Op.move (Go.Operand.tmp 5), type := 3, pos := _, after := #[], guard := none }) (v := ?_) rfl (by kernel_rfl) (by kernel_rfl) (by kernel_rfl) (fun _ _ _ h => h) (Or.inl ⟨by rfl, ?_⟩) S1.out ?_
        rotate_left
        · intro W hW; (go_simp; try with_reducible rfl)
        try simp only [Act.put, List.setIfInBounds_toArray, List.set_cons_zero, List.set_cons_succ]
        refine wpAnyH_ready (rs := [6]) (by kernel_rfl) (by simp) ?_
        refine AllReadyH.cons (o := { dst := some 21, op := Go.Op.call { callee := Go.Callee.value (Go.Operand.func 27), args := #[Go.Operand.tmp 19, Go.Operand.tmp 20], argTypes := #[22, 3] }, type := 28, pos := _, after := #[{ on := 4, ground := Go.Ground.data }, { on := 5, ground := Go.Ground.data }], guard := none }) rfl (fun K hK => ?_) AllReadyH.nil
        go_simp
        refine (without_is E4 n cp (nst ls j).1 j _ ((OL.out.rows BB.out).below S1.out) FM.out).mono ?_
        rintro e w4 ⟨⟨A4, n4, c4, rfl, r4⟩, b4⟩
        have S4 := Lib.hid (S1.out.trans (b4.mono S1.out.size))
        have R4 := Lib.hid r4
        have L4 := Lib.hid (show n4 ≤ 1000 by have h9 := norm_len (wo (nst ls j).1 j); rw [r4.len] at h9; have := LW.out; omega)
        clear r4 b4
        go_wp2_with fail
        refine hK.out _ _ ?_ (fun _ => ?_)
        · exact S4.out
        clear hK K
        try simp only [Act.put, List.setIfInBounds_toArray, List.set_cons_zero, List.set_cons_succ]
        refine wpAnyH_ready (rs := [7]) (by kernel_rfl) (by simp) ?_
        refine AllReadyH.cons (o := { dst := some 22, op := Go.Op.call { callee := Go.Callee.value (Go.Operand.func 26), args := #[Go.Operand.tmp 18, Go.Operand.tmp 21], argTypes := #[28, 28] }, type := 4, pos := _, after := #[{ on := 3, ground := Go.Ground.data }, { on := 6, ground := Go.Ground.data }, { on := 6, ground := Go.Ground.chain }], guard := none }) rfl (fun K hK => ?_) AllReadyH.nil
        go_simp
        refine (refLeq_is _ _ _ _ _ _ (ls.getD j []) (norm (wo (nst ls j).1 j)) false _ (E.out.row.below S4.out) R4.out LM.out L4.out HQ).mono ?_
        rintro e w5 ⟨rfl, b5⟩
        have S5 := Lib.hid (S4.out.trans (b5.mono S4.out.size))
        clear b5
        go_wp2_with fail
        refine hK.out _ _ ?_ (fun _ => ?_)
        · exact S5.out
        clear hK K
        try simp only [Act.put, List.setIfInBounds_toArray, List.set_cons_zero, List.set_cons_succ]
        refine wpAnyH_done (by kernel_rfl) ?_ _
        refine NoPanic.normal ?_
        go_wp2_with fail
        go_roundw
        case rel => exact ⟨j + 1, by omega, by go_num, by rw [NX.out]; exact OI.out.below S5.out, by rw [NX.out]; exact OL.out.below S5.out, BB.out.trans (S5.out.mono BB.out.size), Nat.le_trans SZ.out S5.out.size⟩
        case measure => simp [intOf]; omega
    · obtain rfl : n = j := by omega
      go_wp2_with fail
      go_ret
      obtain ⟨E, c9, e9⟩ := OI.out.shape
      have O9 := OI.out
      rw [e9] at O9
      exact ⟨⟨E, _, c9, by rw [← e9]; rfl, by unfold needless; rw [LN.out]; exact O9.ints, fun a ha => by have := O9.fresh a ha; have := BL.out.size; omega⟩, BB.out⟩
/-- Where a number lies. -/
structure IElem (w : World) (A : Option Addr) (n G p i z : Nat) : Prop where
  ad : ∃ off, A = some ⟨G, off, none⟩ ∧ p = off + i
  lt : i < n
  cell : w.cell? ⟨G, p, none⟩ = some (.int .i64 z)
theorem IntsV.elem {w : World} {A : Option Addr} {n cap : Nat} {l : List Nat} (h : IntsV w A n cap l) (i : Nat) (hi : i < n) : ∃ G p, IElem w A n G p i (l.getD i 0) ∧ G < w.heap.size := by
  obtain ⟨G, off, e, hG, hc⟩ := h.at_ i hi
  exact ⟨G, off + i, ⟨⟨off, e, rfl⟩, hi, hc⟩, hG⟩
theorem IElem.below {w w' : World} {A : Option Addr} {n G p i z : Nat} (h : IElem w A n G p i z) (hb : Below w.heap.size w w') (hG : G < w.heap.size) : IElem w' A n G p i z := ⟨h.ad, h.lt, (hb.cell (p := ⟨G, p, none⟩) hG).trans h.cell⟩
theorem exec_indexI {op : Oper} {a : Act} {w : World} (x y : Operand) (ho : op.op = .indexAddr 26 x y) (A : Option Addr) (n cap G p i v : Nat) (z : Int) (hx : a.eval x = .slice A n cap) (hy : a.eval y = .int .i64 z) (hz : z = (i : Int)) {W : World} (h : IElem W A n G p i v) :
    (execOp a.eval op).run Tryz.prog w = .ok (.value (.pointer (some ⟨G, p, none⟩))) w := by
  obtain ⟨off, hA, rfl⟩ := h.ad
  have hi := h.lt
  have hr : (Instr.indexAt 26 (.slice (some ⟨G, off, none⟩) n cap) (.int .i64 (i : Int))).run Tryz.prog w = .ok (.pointer (some ⟨G, off + i, none⟩)) w := by
    simp only [Instr.indexAt, asIntOf, Sem.run_bind, Sem.run_pure, Result.andThen_ok, run_underlying Tryz.underlying26]
    rw [if_pos ⟨by omega, by omega⟩]
    simp [Addr.add]
  unfold execOp
  simp only [ho, hx, hy, hz, hA, Sem.run_bind, hr, Result.andThen_ok, Sem.run_pure]
theorem wpList_indexI {ops : Array Oper} {rest : List Oper} {op : Oper} {a : Act} {w : World} {Q : Exit → Act → World → Prop} (hgd : op.guard = none) (x y : Operand) (ho : op.op = .indexAddr 26 x y) (A : Option Addr) (n cap G p i v : Nat) (z : Int) (hx : a.eval x = .slice A n cap) (hy : a.eval y = .int .i64 z) (hz : z = (i : Int)) {W : World} (h : IElem W A n G p i v)
    (hk : wpList Tryz.prog ops Q rest (a.put op.dst (.pointer (some ⟨G, p, none⟩))) w) : wpList Tryz.prog ops Q (op :: rest) a w :=
  wpList_val hgd _ (exec_indexI x y ho A n cap G p i v z hx hy hz h) hk
set_option maxRecDepth 100000 in
set_option maxHeartbeats 4000000 in
theorem sameI_is (A B : Option Addr) (n cap cap2 : Nat) (l : List Nat) (w : World) (h : IntsV w A n cap l) (h2 : IntsV w B n cap2 l) (hn : n ≤ 5000) : Calls Tryz.prog 10 #[.slice A n cap, .slice B n cap2] w fun e w' => e = .returned (.bool true) ∧ Below w.heap.size w w' := by
  have hbn : ((n : Int) == (n : Int)) = true := by simp
  have H := Lib.hid h
  have J := Lib.hid h2
  clear h h2
  go_enter Tryz.func10, Tryz.ntmps10
  go_wp2_with fail
  go_loopw [5] (fun i wr => ∃ j : Nat, j ≤ n ∧ i = .int .i64 j ∧ Below w.heap.size w wr) (fun i _ => n - (intOf i).toNat)
  case atStart => exact ⟨0, Nat.zero_le _, rfl, Below.refl _ _⟩
  case round =>
    obtain ⟨j, hj, rfl, hb⟩ := hrel
    have BB := Lib.hid hb
    clear hb
    by_cases hlt : j < n
    · obtain ⟨G, p, hE, hG⟩ := (H.out.below BB.out).elem j hlt
      obtain ⟨G2, p2, hF, hG2⟩ := (J.out.below BB.out).elem j hlt
      obtain ⟨z, hz⟩ : ∃ z, l.getD j 0 = z := ⟨_, rfl⟩
      rw [hz] at hE hF
      have E := Lib.hid hE
      have F := Lib.hid hF
      have BL := Lib.hid hG
      have BL2 := Lib.hid hG2
      have hzz : ((z : Int) == (z : Int)) = true := by simp
      clear hE hF hG hG2 hz
      go_wp2_with fail
      have S1 := Lib.hid (show Below wr.heap.size wr wr.drew from below_drew (Below.refl _ _))
      refine wp_region_noPanic ?_
      refine wp_region_held_drew (S := fun W => Below wr.heap.size wr W) (by kernel_rfl) S1.out (fun _ => ?_)
      refine wpAnyH_take (i := 0) (oi := { dst := some 17, op := Go.Op.move (Go.Operand.tmp 0), type := 26, pos := _, after := #[], guard := none }) (v := ?_) rfl (by kernel_rfl) (by kernel_rfl) (by kernel_rfl) (fun _ _ _ h => h) (Or.inl ⟨by rfl, ?_⟩) S1.out ?_
      rotate_left
      · intro W hW; (go_simp; try with_reducible rfl)
      try simp only [Act.put, List.setIfInBounds_toArray, List.set_cons_zero, List.set_cons_succ]
      refine wpAnyH_take (i := 1) (oi := { dst := some 18, op := Go.Op.move (Go.Operand.tmp 5), type := 3, pos := _, after := #[], guard := none }) (v := ?_) rfl (by kernel_rfl) (by kernel_rfl) (by kernel_rfl) (fun _ _ _ h => h) (Or.inl ⟨by rfl, ?_⟩) S1.out ?_
      rotate_left
      · intro W hW; (go_simp; try with_reducible rfl)
      try simp only [Act.put, List.setIfInBounds_toArray, List.set_cons_zero, List.set_cons_succ]
      refine wpAnyH_take (i := 2) (oi := { dst := some 19, op := Go.Op.indexAddr 26 (Go.Operand.tmp 17) (Go.Operand.tmp 18), type := 0, pos := _, after := #[{ on := 0, ground := Go.Ground.data }, { on := 1, ground := Go.Ground.data }], guard := none }) (v := .pointer (some ⟨G, p, none⟩)) rfl (by kernel_rfl) (by kernel_rfl) (by kernel_rfl) (fun _ _ _ h => h) (Or.inl ⟨by rfl, fun W hW => exec_indexI _ _ rfl A n cap G p j z _ rfl rfl (by first | rfl | omega) E.out⟩) S1.out ?_
      try simp only [Act.put, List.setIfInBounds_toArray, List.set_cons_zero, List.set_cons_succ]
      refine wpAnyH_take (i := 3) (oi := { dst := some 20, op := Go.Op.load 3 (Go.Operand.tmp 19), type := 3, pos := _, after := #[{ on := 2, ground := Go.Ground.data }], guard := none }) (v := ?_) rfl (by kernel_rfl) (by kernel_rfl) (by kernel_rfl) (fun _ _ _ h => h) (Or.inl ⟨by rfl, ?_⟩) S1.out ?_
      rotate_left
      · intro W hW; have c0 := (E.out.below hW BL.out).cell; (go_simp; try with_reducible rfl)
      try simp only [Act.put, List.setIfInBounds_toArray, List.set_cons_zero, List.set_cons_succ]
      refine wpAnyH_take (i := 4) (oi := { dst := some 21, op := Go.Op.move (Go.Operand.tmp 1), type := 26, pos := _, after := #[], guard := none }) (v := ?_) rfl (by kernel_rfl) (by kernel_rfl) (by kernel_rfl) (fun _ _ _ h => h) (Or.inl ⟨by rfl, ?_⟩) S1.out ?_
      rotate_left
      · intro W hW; (go_simp; try with_reducible rfl)
      try simp only [Act.put, List.setIfInBounds_toArray, List.set_cons_zero, List.set_cons_succ]
      refine wpAnyH_take (i := 5) (oi := { dst := some 22, op := Go.Op.move (Go.Operand.tmp 5), type := 3, pos := _, after := #[], guard := none }) (v := ?_) rfl (by kernel_rfl) (by kernel_rfl) (by kernel_rfl) (fun _ _ _ h => h) (Or.inl ⟨by rfl, ?_⟩) S1.out ?_
      rotate_left
      · intro W hW; (go_simp; try with_reducible rfl)
      try simp only [Act.put, List.setIfInBounds_toArray, List.set_cons_zero, List.set_cons_succ]
      refine wpAnyH_take (i := 6) (oi := { dst := some 23, op := Go.Op.indexAddr 26 (Go.Operand.tmp 21) (Go.Operand.tmp 22), type := 0, pos := _, after := #[{ on := 4, ground := Go.Ground.data }, { on := 5, ground := Go.Ground.data }], guard := none }) (v := .pointer (some ⟨G2, p2, none⟩)) rfl (by kernel_rfl) (by kernel_rfl) (by kernel_rfl) (fun _ _ _ h => h) (Or.inl ⟨by rfl, fun W hW => exec_indexI _ _ rfl B n cap2 G2 p2 j z _ rfl rfl (by first | rfl | omega) F.out⟩) S1.out ?_
      try simp only [Act.put, List.setIfInBounds_toArray, List.set_cons_zero, List.set_cons_succ]
      refine wpAnyH_take (i := 7) (oi := { dst := some 24, op := Go.Op.load 3 (Go.Operand.tmp 23), type := 3, pos := _, after := #[{ on := 6, ground := Go.Ground.data }], guard := none }) (v := ?_) rfl (by kernel_rfl) (by kernel_rfl) (by kernel_rfl) (fun _ _ _ h => h) (Or.inl ⟨by rfl, ?_⟩) S1.out ?_
      rotate_left
      · intro W hW; have c0 := (F.out.below hW BL2.out).cell; (go_simp; try with_reducible rfl)
      try simp only [Act.put, List.setIfInBounds_toArray, List.set_cons_zero, List.set_cons_succ]
      refine wpAnyH_take (i := 8) (oi := { dst := some 25, op := Go.Op.binOp Go.BinOp.neq 3 (Go.Operand.tmp 20) (Go.Operand.tmp 24) 3, type := 4, pos := _, after := #[{ on := 3, ground := Go.Ground.data }, { on := 7, ground := Go.Ground.data }], guard := none }) (v := ?_) rfl (by kernel_rfl) (by kernel_rfl) (by kernel_rfl) (fun _ _ _ h => h) (Or.inl ⟨by rfl, ?_⟩) S1.out ?_
      rotate_left
      · intro W hW; (go_simp; try with_reducible rfl)
      try simp only [Act.put, List.setIfInBounds_toArray, List.set_cons_zero, List.set_cons_succ]
      refine wpAnyH_done (by kernel_rfl) ?_ _
      refine NoPanic.normal ?_
      go_wp2_with fail
      go_roundw
      case rel => exact ⟨j + 1, by omega, by go_num, BB.out.trans (S1.out.mono BB.out.size)⟩
      case measure => simp [intOf]; omega
    · obtain rfl : n = j := by omega
      go_wp2_with fail
      go_ret
      exact ⟨rfl, BB.out⟩
end Go.Proofs.YteocfhbfdhokbaaGreat
