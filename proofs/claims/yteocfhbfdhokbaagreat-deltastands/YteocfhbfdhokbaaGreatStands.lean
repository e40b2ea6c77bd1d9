/- The contracts of Compare and Chain of package delta and of the reference, and of isBelow. Slices of maps in memory; the contract of Tops of package delta. -/
import Derived.Test.YteocfhbfdhokbaaGreatLawNeedless
import Derived.Test.YteocfhbfdhokbaaGreatMathL
namespace Go.Proofs.YteocfhbfdhokbaaGreat
open Go.RowKit

def cmp (a b : List Am) : Int := if leq a b then (if leq b a then 0 else 1) else (if leq b a then 2 else 3)
theorem cmp_le {a b : List Am} (h : leq a b = true) : cmp a b ≤ 1 := by unfold cmp; rw [h]; cases leq b a <;> decide
theorem cmp_gt {a b : List Am} (h : leq a b = false) : 2 ≤ cmp a b := by unfold cmp; rw [h]; cases leq b a <;> decide
def chain (ls : List (List Am)) : Bool := (List.range (ls.length - 1)).all fun i => leq (ls.getD i []) (ls.getD (i + 1) [])
set_option maxRecDepth 100000 in
set_option maxHeartbeats 4000000 in
theorem dcompare_is (A B : Option Addr) (n m cap cap2 : Nat) (a b : List Am) (w : World) (h : RowV w A n cap a) (h2 : RowV w B m cap2 b) (hn : n ≤ 600) (hm : m ≤ 600) (z : Int) (hz : Hid (cmp a b = z)) : Calls Tryz.prog 18 #[.slice A n cap, .slice B m cap2] w fun e w' => e = .returned (.int .i64 z) ∧ Below w.heap.size w w' := by
  have H := Lib.hid h
  have J := Lib.hid h2
  clear h h2
  obtain ⟨r, hr⟩ : ∃ r, leq a b = r := ⟨_, rfl⟩
  obtain ⟨q, hq⟩ : ∃ q, leq b a = q := ⟨_, rfl⟩
  have HC := Lib.hid (show z = if r then (if q then 0 else 1) else (if q then 2 else 3) by rw [← hz.out, ← hr, ← hq]; rfl)
  rw [HC.out]
  have HR := Lib.hid hr
  have HQ := Lib.hid hq
  clear hr hq HC hz
  go_enter Tryz.func18, Tryz.ntmps18
  go_wp2_with fail
  refine (leq_is _ _ _ _ _ _ a b r _ H.out J.out (by omega) (by omega) HR).mono ?_
  rintro e w1 ⟨rfl, b1⟩
  have B1 := Lib.hid b1
  clear b1
  go_wp2_with fail
  refine (leq_is _ _ _ _ _ _ b a q _ (J.out.below B1.out) (H.out.below B1.out) (by omega) (by omega) HQ).mono ?_
  rintro e w2 ⟨rfl, b2⟩
  have B2 := Lib.hid (step_ B1.out b2)
  clear b2 HR HQ
  cases r <;> cases q <;> (go_wp2_with (first | go_skip | fail); go_ret; exact ⟨rfl, B2.out⟩)
set_option maxRecDepth 100000 in
set_option maxHeartbeats 4000000 in
theorem refCompare_is (A B : Option Addr) (n m cap cap2 : Nat) (a b : List Am) (w : World) (h : RowV w A n cap a) (h2 : RowV w B m cap2 b) (hn : n ≤ 600) (hm : m ≤ 600) (z : Int) (hz : Hid (cmp a b = z)) : Calls Tryz.prog 19 #[.slice A n cap, .slice B m cap2] w fun e w' => e = .returned (.int .i64 z) ∧ Below w.heap.size w w' := by
  have H := Lib.hid h
  have J := Lib.hid h2
  clear h h2
  obtain ⟨r, hr⟩ : ∃ r, leq a b = r := ⟨_, rfl⟩
  obtain ⟨q, hq⟩ : ∃ q, leq b a = q := ⟨_, rfl⟩
  have HC := Lib.hid (show z = if r then (if q then 0 else 1) else (if q then 2 else 3) by rw [← hz.out, ← hr, ← hq]; rfl)
  rw [HC.out]
  have HR := Lib.hid hr
  have HQ := Lib.hid hq
  clear hr hq HC hz
  go_enter Tryz.func19, Tryz.ntmps19
  go_wp2_with fail
  refine (refLeq_is _ _ _ _ _ _ a b r _ H.out J.out (by omega) (by omega) HR).mono ?_
  rintro e w1 ⟨rfl, b1⟩
  have B1 := Lib.hid b1
  clear b1
  go_wp2_with fail
  refine (refLeq_is _ _ _ _ _ _ b a q _ (J.out.below B1.out) (H.out.below B1.out) (by omega) (by omega) HQ).mono ?_
  rintro e w2 ⟨rfl, b2⟩
  have B2 := Lib.hid (step_ B1.out b2)
  clear b2 HR HQ
  cases r <;> cases q <;> (go_wp2_with (first | go_skip | fail); go_ret; exact ⟨rfl, B2.out⟩)
set_option maxRecDepth 100000 in
set_option maxHeartbeats 8000000 in
theorem chain_is (A : Option Addr) (n cap : Nat) (ls : List (List Am)) (w : World) (h : RowsV w A n cap ls) (hf : FewR ls) : Calls Tryz.prog 22 #[.slice A n cap] w fun e w' => e = .returned (.bool (chain ls)) ∧ Below w.heap.size w w' := by
  have hn : n ≤ 100 := by have := h.len; have := hf.1; omega
  have H := Lib.hid h
  have FM := Lib.hid hf
  have LN := Lib.hid h.len
  clear h hf
  go_enter Tryz.func22, Tryz.ntmps22
  go_wp2_with fail
  go_loopw [3] (fun i wr => ∃ j : Nat, j ≤ n - 1 ∧ i = .int .i64 ((j + 1 : Nat) : Int) ∧ ((List.range j).all fun i => leq (ls.getD i []) (ls.getD (i + 1) [])) = true ∧ Below w.heap.size w wr) (fun i _ => n - (intOf i).toNat)
  case atStart => exact ⟨0, Nat.zero_le _, rfl, rfl, Below.refl _ _⟩
  case round =>
    obtain ⟨j, hj, rfl, ha, hb⟩ := hrel
    have AL := Lib.hid ha
    have BB := Lib.hid hb
    clear ha hb
    by_cases hlt : j + 1 < n
    · obtain ⟨G, p, D1, m1, k1, hE⟩ := (H.out.below BB.out).elem j (by omega)
      obtain ⟨G2, p2, D2, m2, k2, hF⟩ := (H.out.below BB.out).elem (j + 1) hlt
      have E := Lib.hid hE
      have F := Lib.hid hF
      have LM := Lib.hid (show m1 ≤ 600 by have := FM.out.at_ j; have := hE.row.len; omega)
      have LM2 := Lib.hid (show m2 ≤ 600 by have := FM.out.at_ (j + 1); have := hF.row.len; omega)
      clear hE hF
      have hdl : decide (((j + 1 : Nat) : Int) < (n : Int)) = true := decide_eq_true (by omega)
      go_wp2_with fail
      cases hq : leq (ls.getD j []) (ls.getD (j + 1) []) with
      | true =>
        have HQ := Lib.hid hq
        have A2 := Lib.hid (show ((List.range (j + 1)).all fun i => leq (ls.getD i []) (ls.getD (i + 1) [])) = true by
          rw [List.range_succ, List.all_append, AL.out, List.all_cons, List.all_nil, hq]; rfl)
        clear hq
        have S1 := Lib.hid (show Below wr.heap.size wr wr.drew from below_drew (Below.refl _ _))
        refine wp_region_noPanic ?_
        refine wp_region_held_drew (S := fun W => Below wr.heap.size wr W) (by kernel_rfl) S1.out (fun _ => ?_)
        refine wpAnyH_take (i := 0) (oi := { dst := some 10, op := Go.Op.move (Go.Operand.tmp 0), type := 22, pos := _, after := #[], guard := none }) (v := ?_) rfl (by kernel_rfl) (by kernel_rfl) (by kernel_rfl) (fun _ _ _ h => h) (Or.inl ⟨by rfl, ?_⟩) S1.out ?_
        rotate_left
        · intro W hW; (go_simp; try with_reducible rfl)
        try simp only [Act.put, List.setIfInBounds_toArray, List.set_cons_zero, List.set_cons_succ]
        refine wpAnyH_take (i := 1) (oi := { dst := some 11, op := Go.Op.move (Go.Operand.tmp 3), type := 3, pos := _, after := #[], guard := none }) (v := ?_) rfl (by kernel_rfl) (by kernel_rfl) (by kernel_rfl) (fun _ _ _ h => h) (Or.inl ⟨by rfl, ?_⟩) S1.out ?_
        rotate_left
        · intro W hW; (go_simp; try with_reducible rfl)
        try simp only [Act.put, List.setIfInBounds_toArray, List.set_cons_zero, List.set_cons_succ]
        refine wpAnyH_take (i := 2) (oi := { dst := some 12, op := Go.Op.binOp Go.BinOp.sub 3 (Go.Operand.tmp 11) (Go.Operand.const (Go.Value.int Go.IntKind.i64 1)) 3, type := 3, pos := _, after := #[{ on := 1, ground := Go.Ground.data }], guard := none }) (v := .int .i64 (((j + 1 : Nat) : Int) - 1)) rfl (by kernel_rfl) (by kernel_rfl) (by kernel_rfl) (fun _ _ _ h => h) (Or.inl ⟨by rfl, fun W hW => exec_sub1 _ rfl ((j + 1 : Nat) : Int) rfl (by omega)⟩) S1.out ?_
        try simp only [Act.put, List.setIfInBounds_toArray, List.set_cons_zero, List.set_cons_succ]
        refine wpAnyH_take (i := 3) (oi := { dst := some 13, op := Go.Op.indexAddr 22 (Go.Operand.tmp 10) (Go.Operand.tmp 12), type := 0, pos := _, after := #[{ on := 0, ground := Go.Ground.data }, { on := 2, ground := Go.Ground.data }], guard := none }) (v := .pointer (some ⟨G, p, none⟩)) rfl (by kernel_rfl) (by kernel_rfl) (by kernel_rfl) (fun _ _ _ h => h) (Or.inl ⟨by rfl, fun W hW => exec_index40 _ _ rfl A n cap G p j D1 m1 k1 _ _ rfl rfl (by omega) E.out⟩) S1.out ?_
        try simp only [Act.put, List.setIfInBounds_toArray, List.set_cons_zero, List.set_cons_succ]
        refine wpAnyH_take (i := 4) (oi := { dst := some 14, op := Go.Op.load 28 (Go.Operand.tmp 13), type := 28, pos := _, after := #[{ on := 3, ground := Go.Ground.data }], guard := none }) (v := ?_) rfl (by kernel_rfl) (by kernel_rfl) (by kernel_rfl) (fun _ _ _ h => h) (Or.inl ⟨by rfl, ?_⟩) S1.out ?_
        rotate_left
        · intro W hW; have c0 := (E.out.below hW).cell; (go_simp; try with_reducible rfl)
        try simp only [Act.put, List.setIfInBounds_toArray, List.set_cons_zero, List.set_cons_succ]
        refine wpAnyH_take (i := 5) (oi := { dst := some 15, op := Go.Op.move (Go.Operand.tmp 0), type := 22, pos := _, after := #[], guard := none }) (v := ?_) rfl (by kernel_rfl) (by kernel_rfl) (by kernel_rfl) (fun _ _ _ h => h) (Or.inl ⟨by rfl, ?_⟩) S1.out ?_
        rotate_left
        · intro W hW; (go_simp; try with_reducible rfl)
        try simp only [Act.put, List.setIfInBounds_toArray, List.set_cons_zero, List.set_cons_succ]
        refine wpAnyH_take (i := 6) (oi := { dst := some 16, op := Go.Op.move (Go.Operand.tmp 3), type := 3, pos := _, after := #[], guard := none }) (v := ?_) rfl (by kernel_rfl) (by kernel_rfl) (by kernel_rfl) (fun _ _ _ h => h) (Or.inl ⟨by rfl, ?_⟩) S1.out ?_
        rotate_left
        · intro W hW; (go_simp; try with_reducible rfl)
        try simp only [Act.put, List.setIfInBounds_toArray, List.set_cons_zero, List.set_cons_succ]
        refine wpAnyH_take (i := 7) (oi := { dst := some 17, op := Go.Op.indexAddr 22 (Go.Operand.tmp 15) (Go.Operand.tmp 16), type := 0, pos := _, after := #[{ on := 5, ground := Go.Ground.data }, { on := 6, ground := Go.Ground.data }], guard := none }) (v := .pointer (some ⟨G2, p2, none⟩)) rfl (by kernel_rfl) (by kernel_rfl) (by kernel_rfl) (fun _ _ _ h => h) (Or.inl ⟨by rfl, fun W hW => exec_index40 _ _ rfl A n cap G2 p2 (j + 1) D2 m2 k2 _ _ rfl rfl (by first | rfl | omega) F.out⟩) S1.out ?_
        try simp only [Act.put, List.setIfInBounds_toArray, List.set_cons_zero, List.set_cons_succ]
        refine wpAnyH_take (i := 8) (oi := { dst := some 18, op := Go.Op.load 28 (Go.Operand.tmp 17), type := 28, pos := _, after := #[{ on := 7, ground := Go.Ground.data }], guard := none }) (v := ?_) rfl (by kernel_rfl) (by kernel_rfl) (by kernel_rfl) (fun _ _ _ h => h) (Or.inl ⟨by rfl, ?_⟩) S1.out ?_
        rotate_left
        · intro W hW; have c0 := (F.out.below hW).cell; (go_simp; try with_reducible rfl)
        try simp only [Act.put, List.setIfInBounds_toArray, List.set_cons_zero, List.set_cons_succ]
        refine wpAnyH_ready (rs := [9]) (by kernel_rfl) (by simp) ?_
        refine AllReadyH.cons (o := { dst := some 19, op := Go.Op.call { callee := Go.Callee.value (Go.Operand.func 37), args := #[Go.Operand.tmp 14, Go.Operand.tmp 18], argTypes := #[28, 28] }, type := 4, pos := _, after := #[{ on := 4, ground := Go.Ground.data }, { on := 8, ground := Go.Ground.data }], guard := none }) rfl (fun K hK => ?_) AllReadyH.nil
        go_simp
        refine (leq_is _ _ _ _ _ _ (ls.getD j []) (ls.getD (j + 1) []) true _ (E.out.row.below S1.out) (F.out.row.below S1.out) LM.out LM2.out HQ).mono ?_
        rintro e w5 ⟨rfl, b5⟩
        have S5 := Lib.hid (S1.out.trans (b5.mono S1.out.size))
        clear b5
        go_wp2_with fail
        refine hK.out _ _ ?_ (fun _ => ?_)
        · exact S5.out
        clear hK K
        try simp only [Act.put, List.setIfInBounds_toArray, List.set_cons_zero, List.set_cons_succ]
        refine wpAnyH_take (i := 10) (oi := { dst := some 20, op := Go.Op.unOp Go.UnOp.not 4 (Go.Operand.tmp 19), type := 4, pos := _, after := #[{ on := 9, ground := Go.Ground.data }], guard := none }) (v := ?_) rfl (by kernel_rfl) (by kernel_rfl) (by kernel_rfl) (fun _ _ _ h => h) (Or.inl ⟨by rfl, ?_⟩) S5.out ?_
        rotate_left
        · intro W hW; (go_simp; try with_reducible rfl)
        try simp only [Act.put, List.setIfInBounds_toArray, List.set_cons_zero, List.set_cons_succ]
        refine wpAnyH_done (by kernel_rfl) ?_ _
        refine NoPanic.normal ?_
        go_wp2_with fail
        go_roundw
        case rel => exact ⟨j + 1, by omega, by go_num, A2.out, BB.out.trans (S5.out.mono BB.out.size)⟩
        case measure => simp [intOf]; omega
      | false =>
        have HQ := Lib.hid hq
        have IR := Lib.hid (show chain ls = false by
          unfold chain
          rw [List.all_eq_false]
          exact ⟨j, List.mem_range.2 (by rw [LN.out]; omega), by rw [hq]; decide⟩)
        clear hq
        have S1 := Lib.hid (show Below wr.heap.size wr wr.drew from below_drew (Below.refl _ _))
        refine wp_region_noPanic ?_
        refine wp_region_held_drew (S := fun W => Below wr.heap.size wr W) (by kernel_rfl) S1.out (fun _ => ?_)
        refine wpAnyH_take (i := 0) (oi := { dst := some 10, op := Go.Op.move (Go.Operand.tmp 0), type := 22, pos := _, after := #[], guard := none }) (v := ?_) rfl (by kernel_rfl) (by kernel_rfl) (by kernel_rfl) (fun _ _ _ h => h) (Or.inl ⟨by rfl, ?_⟩) S1.out ?_
        rotate_left
        · intro W hW; (go_simp; try with_reducible rfl)
        try simp only [Act.put, List.setIfInBounds_toArray, List.set_cons_zero, List.set_cons_succ]
        refine wpAnyH_take (i := 1) (oi := { dst := some 11, op := Go.Op.move (Go.Operand.tmp 3), type := 3, pos := _, after := #[], guard := none }) (v := ?_) rfl (by kernel_rfl) (by kernel_rfl) (by kernel_rfl) (fun _ _ _ h => h) (Or.inl ⟨by rfl, ?_⟩) S1.out ?_
        rotate_left
        · intro W hW; (go_simp; try with_reducible rfl)
        try simp only [Act.put, List.setIfInBounds_toArray, List.set_cons_zero, List.set_cons_succ]
        refine wpAnyH_take (i := 2) (oi := { dst := some 12, op := Go.Op.binOp Go.BinOp.sub 3 (Go.Operand.tmp 11) (Go.Operand.const (Go.Value.int Go.IntKind.i64 1)) 3, type := 3, pos := _, after := #[{ on := 1, ground := Go.Ground.data }], guard := none }) (v := .int .i64 (((j + 1 : Nat) : Int) - 1)) rfl (by kernel_rfl) (by kernel_rfl) (by kernel_rfl) (fun _ _ _ h => h) (Or.inl ⟨by rfl, fun W hW => exec_sub1 _ rfl ((j + 1 : Nat) : Int) rfl (by omega)⟩) S1.out ?_
        try simp only [Act.put, List.setIfInBounds_toArray, List.set_cons_zero, List.set_cons_succ]
        refine wpAnyH_take (i := 3) (oi := { dst := some 13, op := Go.Op.indexAddr 22 (Go.Operand.tmp 10) (Go.Operand.tmp 12), type := 0, pos := _, after := #[{ on := 0, ground := Go.Ground.data }, { on := 2, ground := Go.Ground.data }], guard := none }) (v := .pointer (some ⟨G, p, none⟩)) rfl (by kernel_rfl) (by kernel_rfl) (by kernel_rfl) (fun _ _ _ h => h) (Or.inl ⟨by rfl, fun W hW => exec_index40 _ _ rfl A n cap G p j D1 m1 k1 _ _ rfl rfl (by omega) E.out⟩) S1.out ?_
        try simp only [Act.put, List.setIfInBounds_toArray, List.set_cons_zero, List.set_cons_succ]
        refine wpAnyH_take (i := 4) (oi := { dst := some 14, op := Go.Op.load 28 (Go.Operand.tmp 13), type := 28, pos := _, after := #[{ on := 3, ground := Go.Ground.data }], guard := none }) (v := ?_) rfl (by kernel_rfl) (by kernel_rfl) (by kernel_rfl) (fun _ _ _ h => h) (Or.inl ⟨by rfl, ?_⟩) S1.out ?_
        rotate_left
        · intro W hW; have c0 := (E.out.below hW).cell; (go_simp; try with_reducible rfl)
        try simp only [Act.put, List.setIfInBounds_toArray, List.set_cons_zero, List.set_cons_succ]
        refine wpAnyH_take (i := 5) (oi := { dst := some 15, op := Go.Op.move (Go.Operand.tmp 0), type := 22, pos := _, after := #[], guard := none }) (v := ?_) rfl (by kernel_rfl) (by kernel_rfl) (by kernel_rfl) (fun _ _ _ h => h) (Or.inl ⟨by rfl, ?_⟩) S1.out ?_
        rotate_left
        · intro W hW; (go_simp; try with_reducible rfl)
        try simp only [Act.put, List.setIfInBounds_toArray, List.set_cons_zero, List.set_cons_succ]
        refine wpAnyH_take (i := 6) (oi := { dst := some 16, op := Go.Op.move (Go.Operand.tmp 3), type := 3, pos := _, after := #[], guard := none }) (v := ?_) rfl (by kernel_rfl) (by kernel_rfl) (by kernel_rfl) (fun _ _ _ h => h) (Or.inl ⟨by rfl, ?_⟩) S1.out ?_
        rotate_left
        · intro W hW; (go_simp; try with_reducible rfl)
        try simp only [Act.put, List.setIfInBounds_toArray, List.set_cons_zero, List.set_cons_succ]
        refine wpAnyH_take (i := 7) (oi := { dst := some 17, op := Go.Op.indexAddr 22 (Go.Operand.tmp 15) (Go.Operand.tmp 16), type := 0, pos := _, after := #[{ on := 5, ground := Go.Ground.data }, { on := 6, ground := Go.Ground.data }], guard := none }) (v := .pointer (some ⟨G2, p2, none⟩)) rfl (by kernel_rfl) (by kernel_rfl) (by kernel_rfl) (fun _ _ _ h => h) (Or.inl ⟨by rfl, fun W hW => exec_index40 _ _ rfl A n cap G2 p2 (j + 1) D2 m2 k2 _ _ rfl rfl (by first | rfl | omega) F.out⟩) S1.out ?_
        try simp only [Act.put, List.setIfInBounds_toArray, List.set_cons_zero, List.set_cons_succ]
        refine wpAnyH_take (i := 8) (oi := { dst := some 18, op := Go.Op.load 28 (Go.Operand.tmp 17), type := 28, pos := _, after := #[{ on := 7, ground := Go.Ground.data }], guard := none }) (v := ?_) rfl (by kernel_rfl) (by kernel_rfl) (by kernel_rfl) (fun _ _ _ h => h) (Or.inl ⟨by rfl, ?_⟩) S1.out ?_
        rotate_left
        · intro W hW; have c0 := (F.out.below hW).cell; (go_simp; try with_reducible rfl)
        try simp only [Act.put, List.setIfInBounds_toArray, List.set_cons_zero, List.set_cons_succ]
        refine wpAnyH_ready (rs := [9]) (by kernel_rfl) (by simp) ?_
        refine AllReadyH.cons (o := { dst := some 19, op := Go.Op.call { callee := Go.Callee.value (Go.Operand.func 37), args := #[Go.Operand.tmp 14, Go.Operand.tmp 18], argTypes := #[28, 28] }, type := 4, pos := _, after := #[{ on := 4, ground := Go.Ground.data }, { on := 8, ground := Go.Ground.data }], guard := none }) rfl (fun K hK => ?_) AllReadyH.nil
        go_simp
        refine (leq_is _ _ _ _ _ _ (ls.getD j []) (ls.getD (j + 1) []) false _ (E.out.row.below S1.out) (F.out.row.below S1.out) LM.out LM2.out HQ).mono ?_
        rintro e w5 ⟨rfl, b5⟩
        have S5 := Lib.hid (S1.out.trans (b5.mono S1.out.size))
        clear b5
        go_wp2_with fail
        refine hK.out _ _ ?_ (fun _ => ?_)
        · exact S5.out
        clear hK K
        try simp only [Act.put, List.setIfInBounds_toArray, List.set_cons_zero, List.set_cons_succ]
        refine wpAnyH_take (i := 10) (oi := { dst := some 20, op := Go.Op.unOp Go.UnOp.not 4 (Go.Operand.tmp 19), type := 4, pos := _, after := #[{ on := 9, ground := Go.Ground.data }], guard := none }) (v := ?_) rfl (by kernel_rfl) (by kernel_rfl) (by kernel_rfl) (fun _ _ _ h => h) (Or.inl ⟨by rfl, ?_⟩) S5.out ?_
        rotate_left
        · intro W hW; (go_simp; try with_reducible rfl)
        try simp only [Act.put, List.setIfInBounds_toArray, List.set_cons_zero, List.set_cons_succ]
        refine wpAnyH_done (by kernel_rfl) ?_ _
        refine NoPanic.normal ?_
        go_wp2_with fail
        go_ret
        exact ⟨by rw [IR.out]; rfl, BB.out.trans (S5.out.mono BB.out.size)⟩
    · have hdl : decide (((j + 1 : Nat) : Int) < (n : Int)) = false := decide_eq_false (by omega)
      have IR := Lib.hid (show chain ls = true by unfold chain; rw [LN.out, show n - 1 = j by omega]; exact AL.out)
      go_wp2_with fail
      go_ret
      exact ⟨by rw [IR.out]; rfl, BB.out⟩
set_option maxRecDepth 100000 in
set_option maxHeartbeats 8000000 in
theorem refChain_is (A : Option Addr) (n cap : Nat) (ls : List (List Am)) (w : World) (h : RowsV w A n cap ls) (hf : FewR ls) : Calls Tryz.prog 23 #[.slice A n cap] w fun e w' => e = .returned (.bool (chain ls)) ∧ Below w.heap.size w w' := by
  have hn : n ≤ 100 := by have := h.len; have := hf.1; omega
  have H := Lib.hid h
  have FM := Lib.hid hf
  have LN := Lib.hid h.len
  clear h hf
  go_enter Tryz.func23, Tryz.ntmps23
  go_wp2_with fail
  go_loopw [3] (fun i wr => ∃ j : Nat, j ≤ n - 1 ∧ i = .int .i64 ((j + 1 : Nat) : Int) ∧ ((List.range j).all fun i => leq (ls.getD i []) (ls.getD (i + 1) [])) = true ∧ Below w.heap.size w wr) (fun i _ => n - (intOf i).toNat)
  case atStart => exact ⟨0, Nat.zero_le _, rfl, rfl, Below.refl _ _⟩
  case round =>
    obtain ⟨j, hj, rfl, ha, hb⟩ := hrel
    have AL := Lib.hid ha
    have BB := Lib.hid hb
    clear ha hb
    by_cases hlt : j + 1 < n
    · obtain ⟨G, p, D1, m1, k1, hE⟩ := (H.out.below BB.out).elem j (by omega)
      obtain ⟨G2, p2, D2, m2, k2, hF⟩ := (H.out.below BB.out).elem (j + 1) hlt
      have E := Lib.hid hE
      have F := Lib.hid hF
      have LM := Lib.hid (show m1 ≤ 600 by have := FM.out.at_ j; have := hE.row.len; omega)
      have LM2 := Lib.hid (show m2 ≤ 600 by have := FM.out.at_ (j + 1); have := hF.row.len; omega)
      clear hE hF
      have hdl : decide (((j + 1 : Nat) : Int) < (n : Int)) = true := decide_eq_true (by omega)
      go_wp2_with fail
      cases hq : leq (ls.getD j []) (ls.getD (j + 1) []) with
      | true =>
        have HQ := Lib.hid hq
        have A2 := Lib.hid (show ((List.range (j + 1)).all fun i => leq (ls.getD i []) (ls.getD (i + 1) [])) = true by
          rw [List.range_succ, List.all_append, AL.out, List.all_cons, List.all_nil, hq]; rfl)
        clear hq
        obtain ⟨z, hz⟩ : ∃ z, cmp (ls.getD j []) (ls.getD (j + 1) []) = z := ⟨_, rfl⟩
        have HZ := Lib.hid hz
        have hcq : decide ((1 : Int) < z) = false := decide_eq_false (by have := cmp_le HQ.out; omega)
        clear hz
        have S1 := Lib.hid (show Below wr.heap.size wr wr.drew from below_drew (Below.refl _ _))
        refine wp_region_noPanic ?_
        refine wp_region_held_drew (S := fun W => Below wr.heap.size wr W) (by kernel_rfl) S1.out (fun _ => ?_)
        refine wpAnyH_take (i := 0) (oi := { dst := some 10, op := Go.Op.move (Go.Operand.tmp 0), type := 22, pos := _, after := #[], guard := none }) (v := ?_) rfl (by kernel_rfl) (by kernel_rfl) (by kernel_rfl) (fun _ _ _ h => h) (Or.inl ⟨by rfl, ?_⟩) S1.out ?_
        rotate_left
        · intro W hW; (go_simp; try with_reducible rfl)
        try simp only [Act.put, List.setIfInBounds_toArray, List.set_cons_zero, List.set_cons_succ]
        refine wpAnyH_take (i := 1) (oi := { dst := some 11, op := Go.Op.move (Go.Operand.tmp 3), type := 3, pos := _, after := #[], guard := none }) (v := ?_) rfl (by kernel_rfl) (by kernel_rfl) (by kernel_rfl) (fun _ _ _ h => h) (Or.inl ⟨by rfl, ?_⟩) S1.out ?_
        rotate_left
        · intro W hW; (go_simp; try with_reducible rfl)
        try simp only [Act.put, List.setIfInBounds_toArray, List.set_cons_zero, List.set_cons_succ]
        refine wpAnyH_take (i := 2) (oi := { dst := some 12, op := Go.Op.binOp Go.BinOp.sub 3 (Go.Operand.tmp 11) (Go.Operand.const (Go.Value.int Go.IntKind.i64 1)) 3, type := 3, pos := _, after := #[{ on := 1, ground := Go.Ground.data }], guard := none }) (v := .int .i64 (((j + 1 : Nat) : Int) - 1)) rfl (by kernel_rfl) (by kernel_rfl) (by kernel_rfl) (fun _ _ _ h => h) (Or.inl ⟨by rfl, fun W hW => exec_sub1 _ rfl ((j + 1 : Nat) : Int) rfl (by omega)⟩) S1.out ?_
        try simp only [Act.put, List.setIfInBounds_toArray, List.set_cons_zero, List.set_cons_succ]
        refine wpAnyH_take (i := 3) (oi := { dst := some 13, op := Go.Op.indexAddr 22 (Go.Operand.tmp 10) (Go.Operand.tmp 12), type := 0, pos := _, after := #[{ on := 0, ground := Go.Ground.data }, { on := 2, ground := Go.Ground.data }], guard := none }) (v := .pointer (some ⟨G, p, none⟩)) rfl (by kernel_rfl) (by kernel_rfl) (by kernel_rfl) (fun _ _ _ h => h) (Or.inl ⟨by rfl, fun W hW => exec_index40 _ _ rfl A n cap G p j D1 m1 k1 _ _ rfl rfl (by omega) E.out⟩) S1.out ?_
        try simp only [Act.put, List.setIfInBounds_toArray, List.set_cons_zero, List.set_cons_succ]
        refine wpAnyH_take (i := 4) (oi := { dst := some 14, op := Go.Op.load 28 (Go.Operand.tmp 13), type := 28, pos := _, after := #[{ on := 3, ground := Go.Ground.data }], guard := none }) (v := ?_) rfl (by kernel_rfl) (by kernel_rfl) (by kernel_rfl) (fun _ _ _ h => h) (Or.inl ⟨by rfl, ?_⟩) S1.out ?_
        rotate_left
        · intro W hW; have c0 := (E.out.below hW).cell; (go_simp; try with_reducible rfl)
        try simp only [Act.put, List.setIfInBounds_toArray, List.set_cons_zero, List.set_cons_succ]
        refine wpAnyH_take (i := 5) (oi := { dst := some 15, op := Go.Op.move (Go.Operand.tmp 0), type := 22, pos := _, after := #[], guard := none }) (v := ?_) rfl (by kernel_rfl) (by kernel_rfl) (by kernel_rfl) (fun _ _ _ h => h) (Or.inl ⟨by rfl, ?_⟩) S1.out ?_
        rotate_left
        · intro W hW; (go_simp; try with_reducible rfl)
        try simp only [Act.put, List.setIfInBounds_toArray, List.set_cons_zero, List.set_cons_succ]
        refine wpAnyH_take (i := 6) (oi := { dst := some 16, op := Go.Op.move (Go.Operand.tmp 3), type := 3, pos := _, after := #[], guard := none }) (v := ?_) rfl (by kernel_rfl) (by kernel_rfl) (by kernel_rfl) (fun _ _ _ h => h) (Or.inl ⟨by rfl, ?_⟩) S1.out ?_
        rotate_left
        · intro W hW; (go_simp; try with_reducible rfl)
        try simp only [Act.put, List.setIfInBounds_toArray, List.set_cons_zero, List.set_cons_succ]
        refine wpAnyH_take (i := 7) (oi := { dst := some 17, op := Go.Op.indexAddr 22 (Go.Operand.tmp 15) (Go.Operand.tmp 16), type := 0, pos := _, after := #[{ on := 5, ground := Go.Ground.data }, { on := 6, ground := Go.Ground.data }], guard := none }) (v := .pointer (some ⟨G2, p2, none⟩)) rfl (by kernel_rfl) (by kernel_rfl) (by kernel_rfl) (fun _ _ _ h => h) (Or.inl ⟨by rfl, fun W hW => exec_index40 _ _ rfl A n cap G2 p2 (j + 1) D2 m2 k2 _ _ rfl rfl (by first | rfl | omega) F.out⟩) S1.out ?_
        try simp only [Act.put, List.setIfInBounds_toArray, List.set_cons_zero, List.set_cons_succ]
        refine wpAnyH_take (i := 8) (oi := { dst := some 18, op := Go.Op.load 28 (Go.Operand.tmp 17), type := 28, pos := _, after := #[{ on := 7, ground := Go.Ground.data }], guard := none }) (v := ?_) rfl (by kernel_rfl) (by kernel_rfl) (by kernel_rfl) (fun _ _ _ h => h) (Or.inl ⟨by rfl, ?_⟩) S1.out ?_
        rotate_left
        · intro W hW; have c0 := (F.out.below hW).cell; (go_simp; try with_reducible rfl)
        try simp only [Act.put, List.setIfInBounds_toArray, List.set_cons_zero, List.set_cons_succ]
        refine wpAnyH_ready (rs := [9]) (by kernel_rfl) (by simp) ?_
        refine AllReadyH.cons (o := { dst := some 19, op := Go.Op.call { callee := Go.Callee.value (Go.Operand.func 19), args := #[Go.Operand.tmp 14, Go.Operand.tmp 18], argTypes := #[28, 28] }, type := 3, pos := _, after := #[{ on := 4, ground := Go.Ground.data }, { on := 8, ground := Go.Ground.data }], guard := none }) rfl (fun K hK => ?_) AllReadyH.nil
        go_simp
        refine (refCompare_is _ _ _ _ _ _ (ls.getD j []) (ls.getD (j + 1) []) _ (E.out.row.below S1.out) (F.out.row.below S1.out) LM.out LM2.out z HZ).mono ?_
        rintro e w5 ⟨rfl, b5⟩
        have S5 := Lib.hid (S1.out.trans (b5.mono S1.out.size))
        clear b5
        go_wp2_with fail
        refine hK.out _ _ ?_ (fun _ => ?_)
        · exact S5.out
        clear hK K
        try simp only [Act.put, List.setIfInBounds_toArray, List.set_cons_zero, List.set_cons_succ]
        refine wpAnyH_take (i := 10) (oi := { dst := some 20, op := Go.Op.binOp Go.BinOp.gtr 3 (Go.Operand.tmp 19) (Go.Operand.const (Go.Value.int Go.IntKind.i64 1)) 3, type := 4, pos := _, after := #[{ on := 9, ground := Go.Ground.data }], guard := none }) (v := ?_) rfl (by kernel_rfl) (by kernel_rfl) (by kernel_rfl) (fun _ _ _ h => h) (Or.inl ⟨by rfl, ?_⟩) S5.out ?_
        rotate_left
        · intro W hW; (go_simp; try with_reducible rfl)
        try simp only [Act.put, List.setIfInBounds_toArray, List.set_cons_zero, List.set_cons_succ]
        refine wpAnyH_done (by kernel_rfl) ?_ _
        refine NoPanic.normal ?_
        go_wp2_with fail
        go_roundw
        case rel => exact ⟨j + 1, by omega, by go_num, A2.out, BB.out.trans (S5.out.mono BB.out.size)⟩
        case measure => simp [intOf]; omega
      | false =>
        have HQ := Lib.hid hq
        have IR := Lib.hid (show chain ls = false by
          unfold chain
          rw [List.all_eq_false]
          exact ⟨j, List.mem_range.2 (by rw [LN.out]; omega), by rw [hq]; decide⟩)
        clear hq
        obtain ⟨z, hz⟩ : ∃ z, cmp (ls.getD j []) (ls.getD (j + 1) []) = z := ⟨_, rfl⟩
        have HZ := Lib.hid hz
        have hcq : decide ((1 : Int) < z) = true := decide_eq_true (by have := cmp_gt HQ.out; omega)
        clear hz
        have S1 := Lib.hid (show Below wr.heap.size wr wr.drew from below_drew (Below.refl _ _))
        refine wp_region_noPanic ?_
        refine wp_region_held_drew (S := fun W => Below wr.heap.size wr W) (by kernel_rfl) S1.out (fun _ => ?_)
        refine wpAnyH_take (i := 0) (oi := { dst := some 10, op := Go.Op.move (Go.Operand.tmp 0), type := 22, pos := _, after := #[], guard := none }) (v := ?_) rfl (by kernel_rfl) (by kernel_rfl) (by kernel_rfl) (fun _ _ _ h => h) (Or.inl ⟨by rfl, ?_⟩) S1.out ?_
        rotate_left
        · intro W hW; (go_simp; try with_reducible rfl)
        try simp only [Act.put, List.setIfInBounds_toArray, List.set_cons_zero, List.set_cons_succ]
        refine wpAnyH_take (i := 1) (oi := { dst := some 11, op := Go.Op.move (Go.Operand.tmp 3), type := 3, pos := _, after := #[], guard := none }) (v := ?_) rfl (by kernel_rfl) (by kernel_rfl) (by kernel_rfl) (fun _ _ _ h => h) (Or.inl ⟨by rfl, ?_⟩) S1.out ?_
        rotate_left
        · intro W hW; (go_simp; try with_reducible rfl)
        try simp only [Act.put, List.setIfInBounds_toArray, List.set_cons_zero, List.set_cons_succ]
        refine wpAnyH_take (i := 2) (oi := { dst := some 12, op := Go.Op.binOp Go.BinOp.sub 3 (Go.Operand.tmp 11) (Go.Operand.const (Go.Value.int Go.IntKind.i64 1)) 3, type := 3, pos := _, after := #[{ on := 1, ground := Go.Ground.data }], guard := none }) (v := .int .i64 (((j + 1 : Nat) : Int) - 1)) rfl (by kernel_rfl) (by kernel_rfl) (by kernel_rfl) (fun _ _ _ h => h) (Or.inl ⟨by rfl, fun W hW => exec_sub1 _ rfl ((j + 1 : Nat) : Int) rfl (by omega)⟩) S1.out ?_
        try simp only [Act.put, List.setIfInBounds_toArray, List.set_cons_zero, List.set_cons_succ]
        refine wpAnyH_take (i := 3) (oi := { dst := some 13, op := Go.Op.indexAddr 22 (Go.Operand.tmp 10) (Go.Operand.tmp 12), type := 0, pos := _, after := #[{ on := 0, ground := Go.Ground.data }, { on := 2, ground := Go.Ground.data }], guard := none }) (v := .pointer (some ⟨G, p, none⟩)) rfl (by kernel_rfl) (by kernel_rfl) (by kernel_rfl) (fun _ _ _ h => h) (Or.inl ⟨by rfl, fun W hW => exec_index40 _ _ rfl A n cap G p j D1 m1 k1 _ _ rfl rfl (by omega) E.out⟩) S1.out ?_
        try simp only [Act.put, List.setIfInBounds_toArray, List.set_cons_zero, List.set_cons_succ]
        refine wpAnyH_take (i := 4) (oi := { dst := some 14, op := Go.Op.load 28 (Go.Operand.tmp 13), type := 28, pos := _, after := #[{ on := 3, ground := Go.Ground.data }], guard := none }) (v := ?_) rfl (by kernel_rfl) (by kernel_rfl) (by kernel_rfl) (fun _ _ _ h => h) (Or.inl ⟨by rfl, ?_⟩) S1.out ?_
        rotate_left
        · intro W hW; have c0 := (E.out.below hW).cell; (go_simp; try with_reducible rfl)
        try simp only [Act.put, List.setIfInBounds_toArray, List.set_cons_zero, List.set_cons_succ]
        refine wpAnyH_take (i := 5) (oi := { dst := some 15, op := Go.Op.move (Go.Operand.tmp 0), type := 22, pos := _, after := #[], guard := none }) (v := ?_) rfl (by kernel_rfl) (by kernel_rfl) (by kernel_rfl) (fun _ _ _ h => h) (Or.inl ⟨by rfl, ?_⟩) S1.out ?_
        rotate_left
        · intro W hW; (go_simp; try with_reducible rfl)
        try simp only [Act.put, List.setIfInBounds_toArray, List.set_cons_zero, List.set_cons_succ]
        refine wpAnyH_take (i := 6) (oi := { dst := some 16, op := Go.Op.move (Go.Operand.tmp 3), type := 3, pos := _, after := #[], guard := none }) (v := ?_) rfl (by kernel_rfl) (by kernel_rfl) (by kernel_rfl) (fun _ _ _ h => h) (Or.inl ⟨by rfl, ?_⟩) S1.out ?_
        rotate_left
        · intro W hW; (go_simp; try with_reducible rfl)
        try simp only [Act.put, List.setIfInBounds_toArray, List.set_cons_zero, List.set_cons_succ]
        refine wpAnyH_take (i := 7) (oi := { dst := some 17, op := Go.Op.indexAddr 22 (Go.Operand.tmp 15) (Go.Operand.tmp 16), type := 0, pos := _, after := #[{ on := 5, ground := Go.Ground.data }, { on := 6, ground := Go.Ground.data }], guard := none }) (v := .pointer (some ⟨G2, p2, none⟩)) rfl (by kernel_rfl) (by kernel_rfl) (by kernel_rfl) (fun _ _ _ h => h) (Or.inl ⟨by rfl, fun W hW => exec_index40 _ _ rfl A n cap G2 p2 (j + 1) D2 m2 k2 _ _ rfl rfl (by first | rfl | omega) F.out⟩) S1.out ?_
        try simp only [Act.put, List.setIfInBounds_toArray, List.set_cons_zero, List.set_cons_succ]
        refine wpAnyH_take (i := 8) (oi := { dst := some 18, op := Go.Op.load 28 (Go.Operand.tmp 17), type := 28, pos := _, after := #[{ on := 7, ground := Go.Ground.data }], guard := none }) (v := ?_) rfl (by kernel_rfl) (by kernel_rfl) (by kernel_rfl) (fun _ _ _ h => h) (Or.inl ⟨by rfl, ?_⟩) S1.out ?_
        rotate_left
        · intro W hW; have c0 := (F.out.below hW).cell; (go_simp; try with_reducible rfl)
        try simp only [Act.put, List.setIfInBounds_toArray, List.set_cons_zero, List.set_cons_succ]
        refine wpAnyH_ready (rs := [9]) (by kernel_rfl) (by simp) ?_
        refine AllReadyH.cons (o := { dst := some 19, op := Go.Op.call { callee := Go.Callee.value (Go.Operand.func 19), args := #[Go.Operand.tmp 14, Go.Operand.tmp 18], argTypes := #[28, 28] }, type := 3, pos := _, after := #[{ on := 4, ground := Go.Ground.data }, { on := 8, ground := Go.Ground.data }], guard := none }) rfl (fun K hK => ?_) AllReadyH.nil
        go_simp
        refine (refCompare_is _ _ _ _ _ _ (ls.getD j []) (ls.getD (j + 1) []) _ (E.out.row.below S1.out) (F.out.row.below S1.out) LM.out LM2.out z HZ).mono ?_
        rintro e w5 ⟨rfl, b5⟩
        have S5 := Lib.hid (S1.out.trans (b5.mono S1.out.size))
        clear b5
        go_wp2_with fail
        refine hK.out _ _ ?_ (fun _ => ?_)
        · exact S5.out
        clear hK K
        try simp only [Act.put, List.setIfInBounds_toArray, List.set_cons_zero, List.set_cons_succ]
        refine wpAnyH_take (i := 10) (oi := { dst := some 20, op := Go.Op.binOp Go.BinOp.gtr 3 (Go.Operand.tmp 19) (Go.Operand.const (Go.Value.int Go.IntKind.i64 1)) 3, type := 4, pos := _, after := #[{ on := 9, ground := Go.Ground.data }], guard := none }) (v := ?_) rfl (by kernel_rfl) (by kernel_rfl) (by kernel_rfl) (fun _ _ _ h => h) (Or.inl ⟨by rfl, ?_⟩) S5.out ?_
        rotate_left
        · intro W hW; (go_simp; try with_reducible rfl)
        try simp only [Act.put, List.setIfInBounds_toArray, List.set_cons_zero, List.set_cons_succ]
        refine wpAnyH_done (by kernel_rfl) ?_ _
        refine NoPanic.normal ?_
        go_wp2_with fail
        go_ret
        exact ⟨by rw [IR.out]; rfl, BB.out.trans (S5.out.mono BB.out.size)⟩
    · have hdl : decide (((j + 1 : Nat) : Int) < (n : Int)) = false := decide_eq_false (by omega)
      have IR := Lib.hid (show chain ls = true by unfold chain; rw [LN.out, show n - 1 = j by omega]; exact AL.out)
      go_wp2_with fail
      go_ret
      exact ⟨by rw [IR.out]; rfl, BB.out⟩
theorem isB_iff {f g : Ky → Option Vl} {q : Bool} : (q = true ↔ ∀ k v, f k = some v → cov g ⟨k, v⟩ = true) → ∀ k v, f k = some v → cov g ⟨k, v⟩ = false → q = false := fun h k v e1 e2 => by
  cases e : q with
  | false => rfl
  | true => have := h.1 e k v e1; rw [e2] at this; cases this
set_option maxRecDepth 100000 in
set_option maxHeartbeats 8000000 in
theorem isBelow_is (b1 b2 : Nat) (f1 f2 : Ky → Option Vl) (q : Bool) (w : World) (h1 : MapF w b1 1000 f1) (h2 : MapF w b2 1000 f2) (hq : Hid (q = true ↔ ∀ k v, f1 k = some v → cov f2 ⟨k, v⟩ = true)) :
    Calls Tryz.prog 40 #[.map (some b1), .map (some b2)] w fun e w' => e = .returned (.bool q) ∧ Below w.heap.size w w' := by
  have hk0 := zero27
  have hv0 := zero30
  have H1 := Lib.hid h1
  have H2 := Lib.hid h2
  clear h1 h2
  go_enter Tryz.func40, Tryz.ntmps40
  go_wp2_with (first
    | go_skip
    | (refine wpList_rangeF rfl _ rfl b1 1000 f1 rfl H1.out ?_; intro r w2 cnt er R2 ec B2))
  simp only [Act.put, List.setIfInBounds_toArray, List.set_cons_succ, List.set_cons_zero]
  go_loopw [9] (fun _ wr => ∃ (gg : Ky → Option Vl) (cnt : Nat), RangeF wr b1 r 1000 f1 gg cnt ∧ MapF wr b2 1000 f2 ∧ (∀ k v, f1 k = some v → gg k = some v ∨ cov f2 ⟨k, v⟩ = true) ∧ Below w.heap.size w wr) (fun _ wr => wr.rangeLeft b1 r)
  case atStart => exact ⟨f1, cnt, R2.out, H2.out.below B2.out, fun k v e => .inl e, B2.out⟩
  case round =>
    obtain ⟨gg, cnt, hr, hm, hc, hb⟩ := hrel
    have RR := Lib.hid hr
    have MM := Lib.hid hm
    have CC := Lib.hid hc
    have BB := Lib.hid hb
    clear hr hm hc hb
    go_wp2_with (first
      | go_skip
      | refine wpList_nextF rfl _ rfl b1 r 1000 f1 gg cnt rfl RR.out ?_ ?_)
    · intro h0
      have HT := Lib.hid (show q = true from hq.out.2 (fun k v e => (CC.out k v e).elim (fun e2 => by rw [h0.out] at e2; cases e2) id))
      go_wp2_with fail
      go_ret
      exact ⟨ret_bool HT.out.symm, BB.out⟩
    · intro k v w1 cnt1 hg R1 lt1 N1 sz1 hen
      have VK := Lib.hid (RR.out.ok.k _ _ (RR.out.sub _ _ hg.out))
      have VV := Lib.hid (RR.out.ok.v _ _ (RR.out.sub _ _ hg.out))
      have Z1 := Lib.hid ((blk_alloc w1 41 kzero.cells).alloc (.cells vzero.cells.toArray 44))
      have Z2 := Lib.hid (blk2 w1 (.cells kzero.cells.toArray 41) 44 vzero.cells)
      have M1 := Lib.hid (MM.out.only N1.out (by have := er.out; have := H2.out.lt; omega))
      have BN := Lib.hid (BB.out.trans (N1.out.below (by have := er.out; omega) BB.out.size))
      have F1 := Lib.hid (RR.out.sub _ _ hg.out)
      cases ho : cov f2 ⟨k, v⟩ with
      | true =>
          have HO := Lib.hid (show over ((f2 k).getD vzero) v = true from ho)
          have C2 := Lib.hid (show ∀ x z, f1 x = some z → del gg k x = some z ∨ cov f2 ⟨x, z⟩ = true from fun x z e => by
            by_cases hx : x = k
            · subst hx; right; rw [F1.out] at e; cases e; exact ho
            · rcases CC.out x z e with h | h
              · left; unfold del; rw [if_neg hx]; exact h
              · exact .inr h)
          clear ho
          go_wp2_with (first
            | go_skip
            | (refine wpList_store_ky rfl _ _ rfl w1.heap.size kzero k rfl rfl Z1.out kzero_ok.ml VK.out.ml ?_; intro w2 N2 P2; have Z3 := Lib.hid (Z2.out.only P2.out (by omega)))
            | (refine wpList_store_vl rfl _ _ rfl (w1.heap.size + 1) vzero v rfl rfl Z3.out rfl VV.out.tl ?_; intro w3 N3 P3; have B3 := Lib.hid (show Below w1.heap.size w1 w3 from (step_ (new_below w1 (.cells kzero.cells.toArray 41)) (new_below _ (.cells vzero.cells.toArray 44))).trans ((P2.out.below (Nat.le_refl _) (by simp; omega)).trans (P3.out.below (Nat.le_succ _) (by have := P2.out.size; simp at this; omega)))); have M3 := Lib.hid (M1.out.below B3.out))
            | refine wpList_load_ky rfl _ rfl w1.heap.size 0 k rfl (N2.out.only P3.out (by omega)).range VK.out.ml ?_
            | refine wpList_load_vl rfl _ rfl (w1.heap.size + 1) 0 v rfl N3.out.range VV.out.tl ?_)
          refine (covers_is b2 f2 k v true _ M3.out VK.out VV.out HO).mono ?_
          rintro e w4 ⟨rfl, b4⟩
          have B4 := Lib.hid (step_ B3.out b4)
          have M4 := Lib.hid (M3.out.below b4)
          clear b4
          have RB := Lib.hid (R1.out.below B4.out)
          go_wp2_with fail
          go_roundw
          case rel => exact ⟨del gg k, cnt1, RB.out, M4.out, C2.out, BN.out.trans (B4.out.mono BN.out.size)⟩
          case measure => rw [RB.out.left_eq, RR.out.left_eq]; exact lt1.out
      | false =>
          have HO := Lib.hid (show over ((f2 k).getD vzero) v = false from ho)
          have HT := Lib.hid (isB_iff hq.out k v F1.out ho)
          clear ho
          go_wp2_with (first
            | go_skip
            | (refine wpList_store_ky rfl _ _ rfl w1.heap.size kzero k rfl rfl Z1.out kzero_ok.ml VK.out.ml ?_; intro w2 N2 P2; have Z3 := Lib.hid (Z2.out.only P2.out (by omega)))
            | (refine wpList_store_vl rfl _ _ rfl (w1.heap.size + 1) vzero v rfl rfl Z3.out rfl VV.out.tl ?_; intro w3 N3 P3; have B3 := Lib.hid (show Below w1.heap.size w1 w3 from (step_ (new_below w1 (.cells kzero.cells.toArray 41)) (new_below _ (.cells vzero.cells.toArray 44))).trans ((P2.out.below (Nat.le_refl _) (by simp; omega)).trans (P3.out.below (Nat.le_succ _) (by have := P2.out.size; simp at this; omega)))); have M3 := Lib.hid (M1.out.below B3.out))
            | refine wpList_load_ky rfl _ rfl w1.heap.size 0 k rfl (N2.out.only P3.out (by omega)).range VK.out.ml ?_
            | refine wpList_load_vl rfl _ rfl (w1.heap.size + 1) 0 v rfl N3.out.range VV.out.tl ?_)
          refine (covers_is b2 f2 k v false _ M3.out VK.out VV.out HO).mono ?_
          rintro e w4 ⟨rfl, b4⟩
          have B4 := Lib.hid (step_ B3.out b4)
          have M4 := Lib.hid (M3.out.below b4)
          clear b4
          go_wp2_with fail
          go_ret
          exact ⟨ret_bool HT.out.symm, BN.out.trans (B4.out.mono BN.out.size)⟩
end Go.Proofs.YteocfhbfdhokbaaGreat
namespace Go.Proofs.YteocfhbfdhokbaaGreat
open Go.RowKit

/-- A slice of maps. -/
structure MapsV (w : World) (A : Option Addr) (n cap : Nat) (fs : List (Ky → Option Vl)) : Prop where
  len : fs.length = n
  at_ : ∀ i, i < n → ∃ G off b, A = some ⟨G, off, none⟩ ∧ G < w.heap.size ∧ w.cell? ⟨G, off + i, none⟩ = some (.map (some b)) ∧ MapF w b 1000 (fs.getD i none_)
theorem MapsV.below {w w' : World} {A : Option Addr} {n cap : Nat} {fs : List (Ky → Option Vl)} (h : MapsV w A n cap fs) (hb : Below w.heap.size w w') : MapsV w' A n cap fs :=
  ⟨h.len, fun i hi => by
    obtain ⟨G, off, b, e, hG, hc, hm⟩ := h.at_ i hi
    exact ⟨G, off, b, e, Nat.lt_of_lt_of_le hG hb.size, (hb.cell (p := ⟨G, off + i, none⟩) hG).trans hc, hm.below hb⟩⟩
structure MElem (w : World) (A : Option Addr) (n G p i b : Nat) (f : Ky → Option Vl) : Prop where
  ad : ∃ off, A = some ⟨G, off, none⟩ ∧ p = off + i
  lt : i < n
  cell : w.cell? ⟨G, p, none⟩ = some (.map (some b))
  map : MapF w b 1000 f
theorem MapsV.elem {w : World} {A : Option Addr} {n cap : Nat} {fs : List (Ky → Option Vl)} (h : MapsV w A n cap fs) (i : Nat) (hi : i < n) : ∃ G p b, MElem w A n G p i b (fs.getD i none_) := by
  obtain ⟨G, off, b, e, hG, hc, hm⟩ := h.at_ i hi
  exact ⟨G, off + i, b, ⟨off, e, rfl⟩, hi, hc, hm⟩
theorem wpList_indexM {ops : Array Oper} {rest : List Oper} {op : Oper} {a : Act} {w : World} {Q : Exit → Act → World → Prop} (hgd : op.guard = none) (x y : Operand) (ho : op.op = .indexAddr 59 x y) (A : Option Addr) (n cap G p i b : Nat) (f : Ky → Option Vl) (z : Int) (hx : a.eval x = .slice A n cap) (hy : a.eval y = .int .i64 z) (hz : z = (i : Int)) {W : World} (h : MElem W A n G p i b f)
    (hk : wpList Tryz.prog ops Q rest (a.put op.dst (.pointer (some ⟨G, p, none⟩))) w) : wpList Tryz.prog ops Q (op :: rest) a w := by
  refine wpList_val hgd _ ?_ hk
  obtain ⟨off, hA, rfl⟩ := h.ad
  have hi := h.lt
  have hr : (Instr.indexAt 59 (.slice (some ⟨G, off, none⟩) n cap) (.int .i64 (i : Int))).run Tryz.prog w = .ok (.pointer (some ⟨G, off + i, none⟩)) w := by
    simp only [Instr.indexAt, asIntOf, Sem.run_bind, Sem.run_pure, Result.andThen_ok, run_underlying Tryz.underlying59]
    rw [if_pos ⟨by omega, by omega⟩]
    simp [Addr.add]
  unfold execOp
  simp only [ho, hx, hy, hz, hA, Sem.run_bind, hr, Result.andThen_ok, Sem.run_pure]
/-- A slice of maps of the call's own. -/
structure OwnMs (w : World) (B : Nat) (v : Value) (fs : List (Ky → Option Vl)) : Prop where
  row : ∃ cs : List Value, w.ownsRow B 57 1 v fs.length cs ∧ ∀ i, i < fs.length → ∃ b, cs[i]? = some (.map (some b)) ∧ MapF w b 1000 (fs.getD i none_)
theorem ownMs_nil (w : World) (B : Nat) : OwnMs w B (.slice none 0 0) [] := ⟨[], World.ownsRow_nil w B 57 1, fun _ h => absurd h (Nat.not_lt_zero _)⟩
theorem OwnMs.below {w w' : World} {B : Nat} {v : Value} {fs : List (Ky → Option Vl)} (h : OwnMs w B v fs) (hb : Below w.heap.size w w') : OwnMs w' B v fs := by
  obtain ⟨cs, hc, hr⟩ := h.row
  refine ⟨cs, hc.kept (grown_of hb) (by cases v.ownBlock <;> simp), fun i hi => ?_⟩
  obtain ⟨b, e, m⟩ := hr i hi
  exact ⟨b, e, m.below hb⟩
theorem OwnMs.shape {w : World} {B : Nat} {v : Value} {fs : List (Ky → Option Vl)} (h : OwnMs w B v fs) : ∃ A cap, v = .slice A fs.length cap := by
  obtain ⟨cs, hc, _⟩ := h.row
  rcases hc.2 with ⟨rfl, h0⟩ | ⟨g, cap, cur, rfl, _⟩
  · exact ⟨none, 0, by rw [h0]⟩
  · exact ⟨_, _, rfl⟩
theorem OwnMs.maps {w : World} {B : Nat} {A : Option Addr} {n cap : Nat} {fs : List (Ky → Option Vl)} (h : OwnMs w B (.slice A n cap) fs) : MapsV w A n cap fs := by
  obtain ⟨cs, hc, hr⟩ := h.row
  rcases hc.2 with ⟨e, h0⟩ | ⟨g, cap', cur, e, hb, hg, hn, hcm, hs, ht⟩
  · simp only [Value.slice.injEq] at e
    obtain ⟨rfl, rfl, rfl⟩ := e
    exact ⟨h0, fun i hi => absurd hi (Nat.not_lt_zero _)⟩
  · simp only [Value.slice.injEq] at e
    obtain ⟨rfl, rfl, rfl⟩ := e
    refine ⟨rfl, fun i hi => ?_⟩
    obtain ⟨b, e, m⟩ := hr i hi
    refine ⟨g, 0, b, rfl, (Array.getElem?_eq_some_iff.1 hg).1, ?_, m⟩
    rw [cell_of_row _ g _ cur 57 (0, 0) hg, Nat.zero_add]
    rw [← ht, List.getElem?_take_of_lt (by omega)] at e
    simpa using e
theorem info57z : (Tryz.prog.info? 57).map (fun i => (i.zero, i.size, i.bytes)) = some (some (.map none), 1, 8) := by kernel_rfl
theorem MapF.notrow {w : World} {B b n : Nat} {v : Value} {f : Ky → Option Vl} {k : Nat} {cs : List Value} (h : MapF w b n f) (hc : w.ownsRow B 57 1 v k cs) : some b ≠ v.ownBlock := by
  obtain ⟨D, ⟨es, clock, e, _⟩, _⟩ := h.own
  rcases hc.2 with ⟨rfl, _⟩ | ⟨g, cap, cur, rfl, _, hg, _⟩
  · simp [Value.ownBlock]
  · intro e2
    have : b = g := by simpa [Value.ownBlock] using e2
    subst this
    rw [hg] at e
    cases e
theorem fill57 (v : Value) : (Array.map (fun x => [Value.map none][x % 1]?.getD default) (Array.range 1)).setIfInBounds 0 v = #[v] := by kernel_rfl
theorem run_maps1 (b : Nat) (w : World) : (Instr.buildSlice 59 1 #[(0, .map (some b))]).run Tryz.prog w = .ok (.slice (some ⟨w.heap.size, 0, none⟩) 1 1) (w.alloc (.cells #[.map (some b)] 57)) := by
  have hz := Tryz.zeroValue57
  have hsz := Tryz.sizeOf57
  simp only [Instr.buildSlice, Sem.run_bind, run_underlying Tryz.underlying59, Result.andThen_ok, hsz]
  rw [if_neg (by decide), if_neg (by decide)]
  simp [hz, Instr.fill, Value.cells]
  rw [fill57]
  rfl
theorem wpList_maps1 {ops : Array Oper} {rest : List Oper} {op : Oper} {a : Act} {w : World} {Q : Exit → Act → World → Prop} (hgd : op.guard = none) (x : Operand) (ho : op.op = .buildSlice 59 1 #[(0, x)]) (b : Nat) (hx : a.eval x = .map (some b))
    (h : ∀ g w', Hid (Blk w' g 57 [.map (some b)]) → Hid (Below w.heap.size w w') → wpList Tryz.prog ops Q rest (a.put op.dst (.slice (some ⟨g, 0, none⟩) 1 1)) w') : wpList Tryz.prog ops Q (op :: rest) a w := by
  refine wpList_plain hgd fun K hK => ?_
  have hrun := run_maps1 b w
  unfold Oper.wp execOp
  simp only [ho, List.map_toArray, List.map_cons, List.map_nil, hx, Sem.run_bind, hrun, Result.andThen_ok, Sem.run_pure]
  exact hK _ _ (h _ _ (Lib.hid (blk_alloc w 57 [.map (some b)])) (Lib.hid (new_below w _)))
theorem wpList_app_m {ops : Array Oper} {rest : List Oper} {op : Oper} {a : Act} {w : World} {Q : Exit → Act → World → Prop} (hgd : op.guard = none) (s x : Operand) (ho : op.op = .call { callee := .builtin .append, args := #[s, x], argTypes := #[59, 59] })
    (B : Nat) (v : Value) (fs : List (Ky → Option Vl)) (f : Ky → Option Vl) (b g : Nat) (hs : a.eval s = v) (hx : a.eval x = .slice (some ⟨g, 0, none⟩) 1 1) (hown : OwnMs w B v fs) (hm : MapF w b 1000 f) (hg : Blk w g 57 [.map (some b)]) (hn : fs.length ≤ 5000) (hB : B ≤ w.heap.size)
    (h : ∀ E k cap w', Hid (k = fs.length + 1) → Hid (OwnMs w' B (.slice E k cap) (fs ++ [f])) → Hid (Below B w w') → wpList Tryz.prog ops Q rest (a.put op.dst (.slice E k cap)) w') : wpList Tryz.prog ops Q (op :: rest) a w := by
  refine wpList_plain hgd fun K hK => ?_
  obtain ⟨i0, hi, hz0, hz1, hz2⟩ := info_parts info57z
  obtain ⟨cs, hc, hr⟩ := hown.row
  obtain ⟨v', w', he, h1, h2, _⟩ := run_append_own (P := Tryz.prog) w B 59 op.type 57 i0 (.map none) 1 8 Tryz.underlying59 hi hz0 hz1 hz2 (by rfl) (by decide) v _ _ hc ⟨g, 0, none⟩ 1 1 [.map (some b)] (by rfl)
    (fun j u hj => by
      have h := hg.range j u hj
      rw [Nat.zero_add] at h
      unfold Addr.add
      split
      · rename_i h0; rw [h0] at h; exact h
      · simpa using h) (fun u hu => by rw [List.mem_singleton.1 hu]; rfl) (by unfold maxLen; omega) (by omega) hB
  have hlen : cs.length = fs.length := by have := hc.1; omega
  have own : OwnMs w' B v' (fs ++ [f]) := by
    refine ⟨cs ++ [.map (some b)], by rw [List.length_append, List.length_singleton]; exact h1, fun i hi => ?_⟩
    rw [List.length_append, List.length_singleton] at hi
    by_cases hlt : i < fs.length
    · obtain ⟨b', e, m⟩ := hr i hlt
      refine ⟨b', by rw [List.getElem?_append_left (by omega)]; exact e, ?_⟩
      rw [List.getD_eq_getElem?_getD, List.getElem?_append_left hlt, ← List.getD_eq_getElem?_getD]
      exact m.kept h2 (m.notrow hc)
    · have e1 : i = fs.length := by omega
      subst e1
      refine ⟨b, by rw [← hlen, List.getElem?_concat_length], ?_⟩
      rw [List.getD_eq_getElem?_getD, List.getElem?_concat_length, Option.getD_some]
      exact hm.kept h2 (hm.notrow hc)
  obtain ⟨E, cap, e⟩ := own.shape
  rw [List.length_append, List.length_singleton] at e
  subst e
  have hb : Below B w w' := ⟨h2.os, h2.tape, h2.output, h2.size, fun k hk => h2.block k (by omega) (fun e => by have := (hc.lt k e.symm).1; omega)⟩
  unfold Oper.wp execOp
  simp only [ho, resolve, invoke, builtin, Sem.run_bind, Sem.run_pure, Result.andThen_ok, List.map_toArray, List.map_cons, List.map_nil, hs, hx, he]
  exact hK _ _ (h E _ cap w' (Lib.hid rfl) (Lib.hid own) (Lib.hid hb))
set_option maxRecDepth 100000 in
set_option maxHeartbeats 4000000 in
theorem greater_is (g b1 b2 : Nat) (f1 f2 : Ky → Option Vl) (q1 q2 : Bool) (w : World) (h1 : MapF w b1 1000 f1) (h2 : MapF w b2 1000 f2) (hg : Blk w g 57 [.map (some b1)]) (hq1 : Hid (q1 = true ↔ ∀ k v, f1 k = some v → cov f2 ⟨k, v⟩ = true)) (hq2 : Hid (q2 = true ↔ ∀ k v, f2 k = some v → cov f1 ⟨k, v⟩ = true)) :
    Calls Tryz.prog 39 #[.map (some b2), .pointer (some ⟨g, 0, none⟩)] w fun e w' => e = .returned (.bool (q1 && !q2)) ∧ Below w.heap.size w w' := by
  have c0 := hg.cell (i := 0) rfl
  have H1 := Lib.hid h1
  have H2 := Lib.hid h2
  have HG := Lib.hid hg
  clear h1 h2 hg
  go_enter Tryz.func39, Tryz.ntmps39
  go_wp2_with fail
  refine (isBelow_is b1 b2 f1 f2 q1 _ H1.out H2.out hq1).mono ?_
  rintro e w1 ⟨rfl, bb1⟩
  have B1 := Lib.hid bb1
  have c1 := (HG.out.below bb1).cell (i := 0) rfl
  clear bb1
  cases q1 with
  | false =>
    go_wp2_with (first | go_skip | fail)
    go_ret
    exact ⟨rfl, B1.out⟩
  | true =>
    go_wp2_with fail
    refine (isBelow_is b2 b1 f2 f1 q2 _ (H2.out.below B1.out) (H1.out.below B1.out) hq2).mono ?_
    rintro e w2 ⟨rfl, bb2⟩
    have B2 := Lib.hid (step_ B1.out bb2)
    clear bb2
    go_wp2_with fail
    go_ret
    exact ⟨rfl, B2.out⟩
theorem range_any (p : Nat → Bool) (j : Nat) : (List.range (j + 1)).any p = ((List.range j).any p || p j) := by rw [List.range_succ, List.any_append]; simp
set_option maxRecDepth 100000 in
set_option maxHeartbeats 4000000 in
theorem indexM_is (g : Nat) (caps : Array Value) (eg : ∀ args w, (callFunc g args).run Tryz.prog w = .ok (.enter g args) w) (p : Nat → Bool) (A : Option Addr) (n cap : Nat) (fs : List (Ky → Option Vl)) (w : World) (h : MapsV w A n cap fs) (hn : n ≤ 600)
    (hc : ∀ j b W, j < n → MapF W b 1000 (fs.getD j none_) → Below w.heap.size w W → Calls Tryz.prog g (#[.map (some b)] ++ caps) W fun e W' => e = .returned (.bool (p j)) ∧ Below W.heap.size W W') :
    Calls Tryz.prog 62 #[.slice A n cap, .func (.func g) #[] caps] w fun e w' => (∃ i : Int, e = .returned (.int .i64 i) ∧ decide (0 ≤ i) = (List.range n).any p) ∧ Below w.heap.size w w' := by
  have H := Lib.hid h
  have HC := Lib.hid hc
  clear h hc
  go_enter Tryz.func62, Tryz.ntmps62
  go_wp2_with fail
  go_loopw [8] (fun i wr => ∃ j : Nat, j ≤ n ∧ i = .int .i64 j ∧ (List.range j).any p = false ∧ Below w.heap.size w wr) (fun i _ => n - (intOf i).toNat)
  case atStart => exact ⟨0, Nat.zero_le _, rfl, rfl, Below.refl _ _⟩
  case round =>
    obtain ⟨j, hj, rfl, ha, hb⟩ := hrel
    have AA := Lib.hid ha
    have BB := Lib.hid hb
    clear ha hb
    by_cases hlt : j < n
    · obtain ⟨G, p0, b, hE⟩ := (H.out.below BB.out).elem j hlt
      have E := Lib.hid hE
      have cell := hE.cell
      have TT := Lib.hid (range_any p j)
      clear hE
      cases hp : p j with
      | true =>
        have HP := Lib.hid hp
        have TA := Lib.hid (show (List.range n).any p = true from List.any_eq_true.2 ⟨j, List.mem_range.2 hlt, hp⟩)
        clear hp
        go_wp2_with (first
          | go_skip
          | refine wpList_indexM rfl _ _ rfl A n cap G p0 j b _ _ rfl rfl (by first | rfl | omega) E.out ?_)
        refine (HC.out j b _ hlt E.out.map BB.out).mono ?_
        rw [HP.out]
        rintro e w3 ⟨rfl, b3⟩
        have B3 := Lib.hid (step_ BB.out b3)
        clear b3
        go_wp2_with fail
        go_ret
        exact ⟨⟨(j : Int), rfl, by rw [TA.out]; exact decide_eq_true (by omega)⟩, B3.out⟩
      | false =>
        have HP := Lib.hid hp
        clear hp
        go_wp2_with (first
          | go_skip
          | refine wpList_indexM rfl _ _ rfl A n cap G p0 j b _ _ rfl rfl (by first | rfl | omega) E.out ?_)
        refine (HC.out j b _ hlt E.out.map BB.out).mono ?_
        rw [HP.out]
        rintro e w3 ⟨rfl, b3⟩
        have B3 := Lib.hid (step_ BB.out b3)
        clear b3
        go_wp2_with fail
        go_roundw
        case rel => exact ⟨j + 1, by omega, by go_num, by rw [TT.out, AA.out, HP.out]; rfl, B3.out⟩
        case measure => simp [intOf]; omega
    · obtain rfl : n = j := by omega
      go_wp2_with fail
      go_ret
      exact ⟨⟨-1, rfl, by rw [AA.out]; rfl⟩, BB.out⟩
set_option maxRecDepth 100000 in
set_option maxHeartbeats 4000000 in
theorem containsM_is (g : Nat) (caps : Array Value) (eg : ∀ args w, (callFunc g args).run Tryz.prog w = .ok (.enter g args) w) (p : Nat → Bool) (A : Option Addr) (n cap : Nat) (fs : List (Ky → Option Vl)) (w : World) (h : MapsV w A n cap fs) (hn : n ≤ 600)
    (hc : ∀ j b W, j < n → MapF W b 1000 (fs.getD j none_) → Below w.heap.size w W → Calls Tryz.prog g (#[.map (some b)] ++ caps) W fun e W' => e = .returned (.bool (p j)) ∧ Below W.heap.size W W') :
    Calls Tryz.prog 41 #[.slice A n cap, .func (.func g) #[] caps] w fun e w' => e = .returned (.bool ((List.range n).any p)) ∧ Below w.heap.size w w' := by
  have H := Lib.hid h
  have HC := Lib.hid hc
  clear h hc
  go_enter Tryz.func41, Tryz.ntmps41
  go_wp2_with fail
  refine (indexM_is g caps eg p A n cap fs _ H.out hn HC.out).mono ?_
  rintro e w1 ⟨⟨i, rfl, hi⟩, b1⟩
  have HI := Lib.hid hi
  have B1 := Lib.hid b1
  clear hi b1
  go_wp2_with fail
  go_ret
  exact ⟨ret_bool HI.out, B1.out⟩
theorem isT_any (ls : List (List Am)) (i : Nat) : ((List.range ls.length).any (gr ls i)) = !isT ls i := by
  unfold isT; rw [List.not_all_eq_any_not]; simp
theorem gts_getD {ls : List (List Am)} {i : Nat} (h : i < ls.length) : (ls.map gt).getD i none_ = gt (ls.getD i []) := by
  rw [List.getD_eq_getElem?_getD, List.getElem?_map, List.getD_eq_getElem?_getD, List.getElem?_eq_getElem h]; rfl
theorem filter_range (p : Nat → Bool) (j : Nat) : (List.range (j + 1)).filter p = (List.range j).filter p ++ (if p j = true then [j] else []) := by
  rw [List.range_succ, List.filter_append]
  congr 1
  cases e : p j with
  | true => rw [List.filter_cons_of_pos e]; rfl
  | false => rw [List.filter_cons_of_neg (by rw [e]; decide)]; rfl
set_option maxRecDepth 100000 in
set_option maxHeartbeats 8000000 in
theorem dtops_is (A : Option Addr) (n cap : Nat) (ls : List (List Am)) (w : World) (h : RowsV w A n cap ls) (hf : FewR ls) : Calls Tryz.prog 20 #[.slice A n cap] w (GivesI w (tops ls)) := by
  have hmf : ∀ (fn : Fn) (first cap : Array Value) (w : World), (Instr.makeFunc fn first cap).run Tryz.prog w = .ok (.func fn first cap) w := fun _ _ _ _ => rfl
  have hn : n ≤ 100 := by have := h.len; have := hf.1; omega
  have H := Lib.hid h
  have FF := Lib.hid hf
  have OM := Lib.hid (show OkM ls from h.ok)
  have LN := Lib.hid h.len
  clear h hf
  go_enter Tryz.func20, Tryz.ntmps20
  go_wp2_with fail
  go_loopw [3, 12] (fun v i wr => ∃ j : Nat, j ≤ n ∧ i = .int .i64 j ∧ OwnMs wr w.heap.size v ((ls.take j).map gt) ∧ Below w.heap.size w wr) (fun _ i _ => n - (intOf i).toNat)
  case atStart => exact ⟨0, Nat.zero_le _, rfl, ownMs_nil _ _, Below.refl _ _⟩
  case round =>
    obtain ⟨j, hj, rfl, ho, hb⟩ := hrel
    have OO := Lib.hid ho
    have BB := Lib.hid hb
    clear ho hb
    by_cases hlt : j < n
    · obtain ⟨G, p, D1, m1, k1, hE⟩ := (H.out.below BB.out).elem j hlt
      have E := Lib.hid hE
      have cell := hE.cell
      have T := Lib.hid (map_take (d := []) gt (show j < ls.length by rw [LN.out]; exact hlt))
      have hm1 : m1 ≤ 600 := by have := FF.out.at_ j; have := hE.row.len; omega
      have LEN := Lib.hid (show ((ls.take j).map gt).length ≤ 5000 by rw [List.length_map, List.length_take]; omega)
      clear hE
      go_wp2_with (first
        | go_skip
        | refine wpList_index40 rfl _ _ rfl A n cap G p j D1 m1 k1 _ _ rfl rfl (by first | rfl | omega) E.out ?_)
      refine (dvalues_is D1 m1 k1 _ _ E.out.row hm1).mono ?_
      rintro e w2 ⟨⟨bm, rfl, _, m2⟩, b2⟩
      have M2 := Lib.hid m2
      have B2 := Lib.hid b2
      clear m2 b2
      go_wp2_with (first
        | go_skip
        | (refine wpList_maps1 rfl _ rfl bm rfl ?_; intro g5 w5 N5 B5)
        | (refine wpList_app_m rfl _ _ rfl w.heap.size _ ((ls.take j).map gt) (gt (ls.getD j [])) bm g5 rfl rfl (OO.out.below (step_ B2.out B5.out)) (M2.out.below B5.out) N5.out LEN.out (Nat.le_trans BB.out.size (step_ B2.out B5.out).size) ?_; intro D7 m7 c7 w7 e7 O7 B7))
      go_roundw
      case rel => exact ⟨j + 1, by omega, by go_num, by rw [T.out]; exact O7.out, (step_ BB.out (step_ B2.out B5.out)).trans B7.out⟩
      case measure => simp [intOf]; omega
    · obtain rfl : n = j := by omega
      have HT := Lib.hid (show ls.take n = ls from List.take_of_length_le (by have := LN.out; omega))
      rw [HT.out] at OO
      obtain ⟨E4, cp, e4⟩ := OO.out.shape
      rw [List.length_map, LN.out] at e4
      have O4 := OO.out
      rw [e4] at O4
      subst e4
      have MV := Lib.hid O4.maps
      clear O4 OO
      obtain ⟨w1, hw1⟩ : ∃ w1, wr = w1 := ⟨_, rfl⟩
      rw [hw1] at MV BB ⊢
      clear hw1
      go_wp2_with fail
      go_loopw [6, 24] (fun v i wr => ∃ j : Nat, j ≤ n ∧ i = .int .i64 j ∧ OwnI wr w1.heap.size v ((List.range j).filter (isT ls)) ∧ Below w1.heap.size w1 wr) (fun _ i _ => n - (intOf i).toNat)
      case atStart => exact ⟨0, Nat.zero_le _, rfl, ownI_nil _ _, Below.refl _ _⟩
      case round =>
        obtain ⟨j, hj2, rfl, ho, hb⟩ := hrel
        have OI := Lib.hid ho
        have BC := Lib.hid hb
        clear ho hb
        by_cases hlt2 : j < n
        · obtain ⟨G, p, b, hE⟩ := (MV.out.below BC.out).elem j hlt2
          have E := Lib.hid hE
          have cell := hE.cell
          have HJ := Lib.hid (show j < ls.length by rw [LN.out]; exact hlt2)
          have EM := Lib.hid (show MapF wr b 1000 (gt (ls.getD j [])) by rw [← gts_getD HJ.out]; exact hE.map)
          have LI := Lib.hid (show ((List.range j).filter (isT ls)).length ≤ 5000 from Nat.le_trans (List.length_filter_le ..) (by rw [List.length_range]; omega))
          have FR := Lib.hid (filter_range (isT ls) j)
          have K8 := Lib.hid (blk_alloc wr 57 [.map (some b)])
          have B8 := Lib.hid (new_below wr (.cells #[.map (some b)] 57))
          have BD := Lib.hid (step_ BC.out B8.out)
          clear hE
          go_wp2_with (first
            | go_skip
            | refine wpList_indexM rfl _ _ rfl E4 n cp G p j b _ _ rfl rfl (by first | rfl | omega) E.out ?_)
          refine (containsM_is 39 #[.pointer (some ⟨wr.heap.size, 0, none⟩)] (fun _ _ => rfl) (gr ls j) E4 n cp (ls.map gt) _ (MV.out.below BD.out) (by omega) (fun k b2 W hk hm hW => by
            have hkl : k < ls.length := by rw [LN.out]; exact hk
            rw [gts_getD hkl] at hm
            exact greater_is wr.heap.size b b2 (gt (ls.getD j [])) (gt (ls.getD k [])) (leq (ls.getD j []) (ls.getD k [])) (leq (ls.getD k []) (ls.getD j [])) W ((EM.out.below B8.out).below hW) hm (K8.out.below hW) (Lib.hid (leq_cov (OM.out.at_ j))) (Lib.hid (leq_cov (OM.out.at_ k))))).mono ?_
          rw [show (List.range n).any (gr ls j) = !isT ls j by rw [← LN.out]; exact isT_any ls j]
          cases ht : isT ls j with
          | true =>
            have FR2 := Lib.hid (show (List.range (j + 1)).filter (isT ls) = (List.range j).filter (isT ls) ++ [j] by rw [FR.out, if_pos ht])
            clear ht
            rintro e w3 ⟨rfl, b3⟩
            have B3 := Lib.hid (step_ B8.out b3)
            clear b3
            go_wp2_with (first
              | go_skip
              | (refine wpList_ints1 rfl _ rfl j rfl ?_; intro g6 w6 e6 N6 B6)
              | (refine wpList_app_i rfl _ _ rfl w1.heap.size _ ((List.range j).filter (isT ls)) j g6 rfl rfl (OI.out.below (step_ B3.out B6.out)) N6.out LI.out (Nat.le_trans BC.out.size (step_ B3.out B6.out).size) ?_; intro D7 m7 c7 w7 e7 O7 B7 G7))
            go_roundw
            case rel => exact ⟨j + 1, by omega, by go_num, by rw [FR2.out]; exact O7.out, (BC.out.trans ((step_ B3.out B6.out).mono BC.out.size)).trans B7.out⟩
            case measure => simp [intOf]; omega
          | false =>
            have FR2 := Lib.hid (show (List.range (j + 1)).filter (isT ls) = (List.range j).filter (isT ls) by rw [FR.out, if_neg (by rw [ht]; decide), List.append_nil])
            clear ht
            rintro e w3 ⟨rfl, b3⟩
            have B3 := Lib.hid (step_ B8.out b3)
            clear b3
            go_wp2_with (first | go_skip | fail)
            go_roundw
            case rel => exact ⟨j + 1, by omega, by go_num, by rw [FR2.out]; exact OI.out.below B3.out, BC.out.trans (B3.out.mono BC.out.size)⟩
            case measure => simp [intOf]; omega
        · obtain rfl : n = j := by omega
          go_wp2_with fail
          go_ret
          obtain ⟨E, c9, e9⟩ := OI.out.shape
          have O9 := OI.out
          rw [e9] at O9
          exact ⟨⟨E, _, c9, by rw [← e9]; rfl, by unfold tops; rw [LN.out]; exact O9.ints, fun a ha => by have := O9.fresh a ha; have := BB.out.size; omega⟩, BB.out.trans (BC.out.mono BB.out.size)⟩
end Go.Proofs.YteocfhbfdhokbaaGreat
