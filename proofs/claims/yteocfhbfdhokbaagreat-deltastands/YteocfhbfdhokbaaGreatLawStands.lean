/- The contracts of Tops of the reference, and of the law DeltaStands. -/
import Derived.Test.YteocfhbfdhokbaaGreatStands
namespace Go.Proofs.YteocfhbfdhokbaaGreat
open Go.RowKit

theorem cmp_one {ls : List (List Am)} {i k : Nat} : gr ls i k = decide (cmp (ls.getD i []) (ls.getD k []) = 1) := by
  unfold gr cmp
  cases leq (ls.getD i []) (ls.getD k []) <;> cases leq (ls.getD k []) (ls.getD i []) <;> rfl
theorem range_all (p : Nat → Bool) (j : Nat) : (List.range (j + 1)).all p = ((List.range j).all p && p j) := by rw [List.range_succ, List.all_append]; simp
set_option maxRecDepth 100000 in
set_option maxHeartbeats 16000000 in
theorem refTops_is (A : Option Addr) (n cap : Nat) (ls : List (List Am)) (w : World) (h : RowsV w A n cap ls) (hf : FewR ls) : Calls Tryz.prog 21 #[.slice A n cap] w (GivesI w (tops ls)) := by
  have hn : n ≤ 100 := by have := h.len; have := hf.1; omega
  have H := Lib.hid h
  have FF := Lib.hid hf
  have LN := Lib.hid h.len
  clear h hf
  go_enter Tryz.func21, Tryz.ntmps21
  go_wp2_with fail
  go_loopw [3, 4] (fun v ii wr => ∃ i : Nat, i ≤ n ∧ ii = .int .i64 i ∧ OwnI wr w.heap.size v ((List.range i).filter (isT ls)) ∧ Below w.heap.size w wr) (fun _ ii _ => n - (intOf ii).toNat)
  case atStart => exact ⟨0, Nat.zero_le _, rfl, ownI_nil _ _, Below.refl _ _⟩
  case round =>
    obtain ⟨i, hi, rfl, ho, hb⟩ := hrel
    obtain ⟨D3, c3, e3⟩ := ho.shape
    subst e3
    have OI := Lib.hid ho
    have BB := Lib.hid hb
    clear ho hb
    by_cases hlt : i < n
    · have LI := Lib.hid (show ((List.range i).filter (isT ls)).length ≤ 5000 from Nat.le_trans (List.length_filter_le ..) (by rw [List.length_range]; omega))
      have FR := Lib.hid (filter_range (isT ls) i)
      go_wp2_with fail
      go_loopw [5, 6] (fun t kk wr => ∃ k : Nat, k ≤ n ∧ kk = .int .i64 k ∧ t = .bool ((List.range k).all fun k => !gr ls i k) ∧ Below w.heap.size w wr ∧ OwnI wr w.heap.size (.slice D3 ((List.range i).filter (isT ls)).length c3) ((List.range i).filter (isT ls))) (fun _ kk _ => n - (intOf kk).toNat)
      case atStart => exact ⟨0, Nat.zero_le _, rfl, rfl, BB.out, OI.out⟩
      case round =>
        obtain ⟨k, hk, rfl, rfl, hb, ho⟩ := hrel
        have BB := Lib.hid hb
        have OI := Lib.hid ho
        clear hb ho
        by_cases hlk : k < n
        · obtain ⟨G, p, D1, m1, k1, hE⟩ := (H.out.below BB.out).elem i hlt
          obtain ⟨G2, p2, D2, m2, k2, hF⟩ := (H.out.below BB.out).elem k hlk
          have E := Lib.hid hE
          have F := Lib.hid hF
          have LM := Lib.hid (show m1 ≤ 600 by have := FF.out.at_ i; have := hE.row.len; omega)
          have LM2 := Lib.hid (show m2 ≤ 600 by have := FF.out.at_ k; have := hF.row.len; omega)
          have RN := Lib.hid (range_all (fun k => !gr ls i k) k)
          clear hE hF
          obtain ⟨z, hz⟩ : ∃ z, cmp (ls.getD i []) (ls.getD k []) = z := ⟨_, rfl⟩
          have HZ := Lib.hid hz
          have HG := Lib.hid (show gr ls i k = decide (z = 1) by rw [cmp_one, hz])
          clear hz
          cases ht : (List.range k).all fun k => !gr ls i k with
          | false =>
            have RA := Lib.hid (show ((List.range (k + 1)).all fun k => !gr ls i k) = false by rw [RN.out, ht]; rfl)
            clear ht
            go_wp2_with fail
            have S1 := Lib.hid (show Below wr.heap.size wr wr.drew from below_drew (Below.refl _ _))
            refine wp_region_noPanic ?_
            refine wp_region_held_drew (S := fun W => Below wr.heap.size wr W) (by kernel_rfl) S1.out (fun _ => ?_)
            refine wpAnyH_take (i := 0) (oi := { dst := some 19, op := Go.Op.move (Go.Operand.tmp 5), type := 4, pos := _, after := #[], guard := none }) (v := ?_) rfl (by kernel_rfl) (by kernel_rfl) (by kernel_rfl) (fun _ _ _ h => h) (Or.inl ⟨by rfl, ?_⟩) S1.out ?_
            rotate_left
            · intro W hW; (go_simp; try with_reducible rfl)
            try simp only [Act.put, List.setIfInBounds_toArray, List.set_cons_zero, List.set_cons_succ]
            refine wpAnyH_take (i := 1) (oi := { dst := some 20, op := Go.Op.move (Go.Operand.tmp 19), type := 4, pos := _, after := #[{ on := 0, ground := Go.Ground.data }], guard := none }) (v := ?_) rfl (by kernel_rfl) (by kernel_rfl) (by kernel_rfl) (fun _ _ _ h => h) (Or.inl ⟨by rfl, ?_⟩) S1.out ?_
            rotate_left
            · intro W hW; (go_simp; try with_reducible rfl)
            try simp only [Act.put, List.setIfInBounds_toArray, List.set_cons_zero, List.set_cons_succ]
            refine wpAnyH_take (i := 2) (oi := { dst := some 21, op := Go.Op.move (Go.Operand.tmp 0), type := 22, pos := _, after := #[{ on := 1, ground := Go.Ground.guard }], guard := some (1, true) }) (v := undef) rfl (by kernel_rfl) (by kernel_rfl) (by kernel_rfl) (fun _ _ _ h => h) (Or.inr ⟨by rfl, rfl⟩) S1.out ?_
            try simp only [Act.put, List.setIfInBounds_toArray, List.set_cons_zero, List.set_cons_succ]
            refine wpAnyH_take (i := 3) (oi := { dst := some 22, op := Go.Op.move (Go.Operand.tmp 4), type := 3, pos := _, after := #[{ on := 1, ground := Go.Ground.guard }], guard := some (1, true) }) (v := undef) rfl (by kernel_rfl) (by kernel_rfl) (by kernel_rfl) (fun _ _ _ h => h) (Or.inr ⟨by rfl, rfl⟩) S1.out ?_
            try simp only [Act.put, List.setIfInBounds_toArray, List.set_cons_zero, List.set_cons_succ]
            refine wpAnyH_take (i := 4) (oi := { dst := some 23, op := Go.Op.indexAddr 22 (Go.Operand.tmp 21) (Go.Operand.tmp 22), type := 0, pos := _, after := #[{ on := 2, ground := Go.Ground.data }, { on := 3, ground := Go.Ground.data }, { on := 1, ground := Go.Ground.guard }], guard := some (1, true) }) (v := undef) rfl (by kernel_rfl) (by kernel_rfl) (by kernel_rfl) (fun _ _ _ h => h) (Or.inr ⟨by rfl, rfl⟩) S1.out ?_
            try simp only [Act.put, List.setIfInBounds_toArray, List.set_cons_zero, List.set_cons_succ]
            refine wpAnyH_take (i := 5) (oi := { dst := some 24, op := Go.Op.load 28 (Go.Operand.tmp 23), type := 28, pos := _, after := #[{ on := 4, ground := Go.Ground.data }, { on := 1, ground := Go.Ground.guard }], guard := some (1, true) }) (v := undef) rfl (by kernel_rfl) (by kernel_rfl) (by kernel_rfl) (fun _ _ _ h => h) (Or.inr ⟨by rfl, rfl⟩) S1.out ?_
            try simp only [Act.put, List.setIfInBounds_toArray, List.set_cons_zero, List.set_cons_succ]
            refine wpAnyH_take (i := 6) (oi := { dst := some 25, op := Go.Op.move (Go.Operand.tmp 0), type := 22, pos := _, after := #[{ on := 1, ground := Go.Ground.guard }], guard := some (1, true) }) (v := undef) rfl (by kernel_rfl) (by kernel_rfl) (by kernel_rfl) (fun _ _ _ h => h) (Or.inr ⟨by rfl, rfl⟩) S1.out ?_
            try simp only [Act.put, List.setIfInBounds_toArray, List.set_cons_zero, List.set_cons_succ]
            refine wpAnyH_take (i := 7) (oi := { dst := some 26, op := Go.Op.move (Go.Operand.tmp 6), type := 3, pos := _, after := #[{ on := 1, ground := Go.Ground.guard }], guard := some (1, true) }) (v := undef) rfl (by kernel_rfl) (by kernel_rfl) (by kernel_rfl) (fun _ _ _ h => h) (Or.inr ⟨by rfl, rfl⟩) S1.out ?_
            try simp only [Act.put, List.setIfInBounds_toArray, List.set_cons_zero, List.set_cons_succ]
            refine wpAnyH_take (i := 8) (oi := { dst := some 27, op := Go.Op.indexAddr 22 (Go.Operand.tmp 25) (Go.Operand.tmp 26), type := 0, pos := _, after := #[{ on := 6, ground := Go.Ground.data }, { on := 7, ground := Go.Ground.data }, { on := 1, ground := Go.Ground.guard }], guard := some (1, true) }) (v := undef) rfl (by kernel_rfl) (by kernel_rfl) (by kernel_rfl) (fun _ _ _ h => h) (Or.inr ⟨by rfl, rfl⟩) S1.out ?_
            try simp only [Act.put, List.setIfInBounds_toArray, List.set_cons_zero, List.set_cons_succ]
            refine wpAnyH_take (i := 9) (oi := { dst := some 28, op := Go.Op.load 28 (Go.Operand.tmp 27), type := 28, pos := _, after := #[{ on := 8, ground := Go.Ground.data }, { on := 1, ground := Go.Ground.guard }], guard := some (1, true) }) (v := undef) rfl (by kernel_rfl) (by kernel_rfl) (by kernel_rfl) (fun _ _ _ h => h) (Or.inr ⟨by rfl, rfl⟩) S1.out ?_
            try simp only [Act.put, List.setIfInBounds_toArray, List.set_cons_zero, List.set_cons_succ]
            refine wpAnyH_take (i := 10) (oi := { dst := some 29, op := Go.Op.call { callee := Go.Callee.value (Go.Operand.func 19), args := #[Go.Operand.tmp 24, Go.Operand.tmp 28], argTypes := #[28, 28] }, type := 3, pos := _, after := #[{ on := 5, ground := Go.Ground.data }, { on := 9, ground := Go.Ground.data }, { on := 1, ground := Go.Ground.chain }, { on := 1, ground := Go.Ground.guard }], guard := some (1, true) }) (v := undef) rfl (by kernel_rfl) (by kernel_rfl) (by kernel_rfl) (fun _ _ _ h => h) (Or.inr ⟨by rfl, rfl⟩) S1.out ?_
            try simp only [Act.put, List.setIfInBounds_toArray, List.set_cons_zero, List.set_cons_succ]
            refine wpAnyH_take (i := 11) (oi := { dst := some 30, op := Go.Op.binOp Go.BinOp.neq 3 (Go.Operand.tmp 29) (Go.Operand.const (Go.Value.int Go.IntKind.i64 1)) 3, type := 4, pos := _, after := #[{ on := 10, ground := Go.Ground.data }, { on := 1, ground := Go.Ground.guard }], guard := some (1, true) }) (v := undef) rfl (by kernel_rfl) (by kernel_rfl) (by kernel_rfl) (fun _ _ _ h => h) (Or.inr ⟨by rfl, rfl⟩) S1.out ?_
            try simp only [Act.put, List.setIfInBounds_toArray, List.set_cons_zero, List.set_cons_succ]
            refine wpAnyH_take (i := 12) (oi := { dst := some 31, op := Go.Op.pick (Go.Operand.tmp 20) (Go.Operand.tmp 30) (Go.Operand.const (Go.Value.bool false)), type := 4, pos := _, after := #[{ on := 1, ground := Go.Ground.data }, { on := 11, ground := Go.Ground.data }], guard := none }) (v := ?_) rfl (by kernel_rfl) (by kernel_rfl) (by kernel_rfl) (fun _ _ _ h => h) (Or.inl ⟨by rfl, ?_⟩) S1.out ?_
            rotate_left
            · intro W hW; (go_simp; try with_reducible rfl)
            try simp only [Act.put, List.setIfInBounds_toArray, List.set_cons_zero, List.set_cons_succ]
            refine wpAnyH_take (i := 13) (oi := { dst := some 5, op := Go.Op.assign (Go.Operand.tmp 31), type := 4, pos := _, after := #[{ on := 12, ground := Go.Ground.data }, { on := 10, ground := Go.Ground.chain }, { on := 0, ground := Go.Ground.phase }, { on := 1, ground := Go.Ground.phase }, { on := 2, ground := Go.Ground.phase }, { on := 3, ground := Go.Ground.phase }, { on := 4, ground := Go.Ground.phase }, { on := 5, ground := Go.Ground.phase }, { on := 6, ground := Go.Ground.phase }, { on := 7, ground := Go.Ground.phase }, { on := 8, ground := Go.Ground.phase }, { on := 9, ground := Go.Ground.phase }, { on := 10, ground := Go.Ground.phase }, { on := 11, ground := Go.Ground.phase }, { on := 12, ground := Go.Ground.phase }], guard := none }) (v := ?_) rfl (by kernel_rfl) (by kernel_rfl) (by kernel_rfl) (fun _ _ _ h => h) (Or.inl ⟨by rfl, ?_⟩) S1.out ?_
            rotate_left
            · intro W hW; (go_simp; try with_reducible rfl)
            try simp only [Act.put, List.setIfInBounds_toArray, List.set_cons_zero, List.set_cons_succ]
            refine wpAnyH_done (by kernel_rfl) ?_ _
            refine NoPanic.normal ?_
            go_wp2_with fail
            go_roundw
            case rel => exact ⟨k + 1, by omega, by go_num, by rw [RA.out], BB.out.trans (S1.out.mono BB.out.size), OI.out.below S1.out⟩
            case measure => simp [intOf]; omega
          | true =>
            by_cases hz1 : z = 1
            · have hb1 : (z == 1) = true := by simp [hz1]
              have RA := Lib.hid (show ((List.range (k + 1)).all fun k => !gr ls i k) = false by rw [RN.out, ht, HG.out, decide_eq_true hz1]; rfl)
              clear ht hz1
              go_wp2_with fail
              have S1 := Lib.hid (show Below wr.heap.size wr wr.drew from below_drew (Below.refl _ _))
              refine wp_region_noPanic ?_
              refine wp_region_held_drew (S := fun W => Below wr.heap.size wr W) (by kernel_rfl) S1.out (fun _ => ?_)
              refine wpAnyH_take (i := 0) (oi := { dst := some 19, op := Go.Op.move (Go.Operand.tmp 5), type := 4, pos := _, after := #[], guard := none }) (v := ?_) rfl (by kernel_rfl) (by kernel_rfl) (by kernel_rfl) (fun _ _ _ h => h) (Or.inl ⟨by rfl, ?_⟩) S1.out ?_
              rotate_left
              · intro W hW; (go_simp; try with_reducible rfl)
              try simp only [Act.put, List.setIfInBounds_toArray, List.set_cons_zero, List.set_cons_succ]
              refine wpAnyH_take (i := 1) (oi := { dst := some 20, op := Go.Op.move (Go.Operand.tmp 19), type := 4, pos := _, after := #[{ on := 0, ground := Go.Ground.data }], guard := none }) (v := ?_) rfl (by kernel_rfl) (by kernel_rfl) (by kernel_rfl) (fun _ _ _ h => h) (Or.inl ⟨by rfl, ?_⟩) S1.out ?_
              rotate_left
              · intro W hW; (go_simp; try with_reducible rfl)
              try simp only [Act.put, List.setIfInBounds_toArray, List.set_cons_zero, List.set_cons_succ]
              refine wpAnyH_take (i := 2) (oi := { dst := some 21, op := Go.Op.move (Go.Operand.tmp 0), type := 22, pos := _, after := #[{ on := 1, ground := Go.Ground.guard }], guard := some (1, true) }) (v := ?_) rfl (by kernel_rfl) (by kernel_rfl) (by kernel_rfl) (fun _ _ _ h => h) (Or.inl ⟨by rfl, ?_⟩) S1.out ?_
              rotate_left
              · intro W hW; (go_simp; try with_reducible rfl)
              try simp only [Act.put, List.setIfInBounds_toArray, List.set_cons_zero, List.set_cons_succ]
              refine wpAnyH_take (i := 3) (oi := { dst := some 22, op := Go.Op.move (Go.Operand.tmp 4), type := 3, pos := _, after := #[{ on := 1, ground := Go.Ground.guard }], guard := some (1, true) }) (v := ?_) rfl (by kernel_rfl) (by kernel_rfl) (by kernel_rfl) (fun _ _ _ h => h) (Or.inl ⟨by rfl, ?_⟩) S1.out ?_
              rotate_left
              · intro W hW; (go_simp; try with_reducible rfl)
              try simp only [Act.put, List.setIfInBounds_toArray, List.set_cons_zero, List.set_cons_succ]
              refine wpAnyH_take (i := 4) (oi := { dst := some 23, op := Go.Op.indexAddr 22 (Go.Operand.tmp 21) (Go.Operand.tmp 22), type := 0, pos := _, after := #[{ on := 2, ground := Go.Ground.data }, { on := 3, ground := Go.Ground.data }, { on := 1, ground := Go.Ground.guard }], guard := some (1, true) }) (v := .pointer (some ⟨G, p, none⟩)) rfl (by kernel_rfl) (by kernel_rfl) (by kernel_rfl) (fun _ _ _ h => h) (Or.inl ⟨by rfl, fun W hW => exec_index40 _ _ rfl A n cap G p i D1 m1 k1 _ _ rfl rfl (by first | rfl | omega) E.out⟩) S1.out ?_
              try simp only [Act.put, List.setIfInBounds_toArray, List.set_cons_zero, List.set_cons_succ]
              refine wpAnyH_take (i := 5) (oi := { dst := some 24, op := Go.Op.load 28 (Go.Operand.tmp 23), type := 28, pos := _, after := #[{ on := 4, ground := Go.Ground.data }, { on := 1, ground := Go.Ground.guard }], guard := some (1, true) }) (v := ?_) rfl (by kernel_rfl) (by kernel_rfl) (by kernel_rfl) (fun _ _ _ h => h) (Or.inl ⟨by rfl, ?_⟩) S1.out ?_
              rotate_left
              · intro W hW; have c0 := (E.out.below hW).cell; (go_simp; try with_reducible rfl)
              try simp only [Act.put, List.setIfInBounds_toArray, List.set_cons_zero, List.set_cons_succ]
              refine wpAnyH_take (i := 6) (oi := { dst := some 25, op := Go.Op.move (Go.Operand.tmp 0), type := 22, pos := _, after := #[{ on := 1, ground := Go.Ground.guard }], guard := some (1, true) }) (v := ?_) rfl (by kernel_rfl) (by kernel_rfl) (by kernel_rfl) (fun _ _ _ h => h) (Or.inl ⟨by rfl, ?_⟩) S1.out ?_
              rotate_left
              · intro W hW; (go_simp; try with_reducible rfl)
              try simp only [Act.put, List.setIfInBounds_toArray, List.set_cons_zero, List.set_cons_succ]
              refine wpAnyH_take (i := 7) (oi := { dst := some 26, op := Go.Op.move (Go.Operand.tmp 6), type := 3, pos := _, after := #[{ on := 1, ground := Go.Ground.guard }], guard := some (1, true) }) (v := ?_) rfl (by kernel_rfl) (by kernel_rfl) (by kernel_rfl) (fun _ _ _ h => h) (Or.inl ⟨by rfl, ?_⟩) S1.out ?_
              rotate_left
              · intro W hW; (go_simp; try with_reducible rfl)
              try simp only [Act.put, List.setIfInBounds_toArray, List.set_cons_zero, List.set_cons_succ]
              refine wpAnyH_take (i := 8) (oi := { dst := some 27, op := Go.Op.indexAddr 22 (Go.Operand.tmp 25) (Go.Operand.tmp 26), type := 0, pos := _, after := #[{ on := 6, ground := Go.Ground.data }, { on := 7, ground := Go.Ground.data }, { on := 1, ground := Go.Ground.guard }], guard := some (1, true) }) (v := .pointer (some ⟨G2, p2, none⟩)) rfl (by kernel_rfl) (by kernel_rfl) (by kernel_rfl) (fun _ _ _ h => h) (Or.inl ⟨by rfl, fun W hW => exec_index40 _ _ rfl A n cap G2 p2 k D2 m2 k2 _ _ rfl rfl (by first | rfl | omega) F.out⟩) S1.out ?_
              try simp only [Act.put, List.setIfInBounds_toArray, List.set_cons_zero, List.set_cons_succ]
              refine wpAnyH_take (i := 9) (oi := { dst := some 28, op := Go.Op.load 28 (Go.Operand.tmp 27), type := 28, pos := _, after := #[{ on := 8, ground := Go.Ground.data }, { on := 1, ground := Go.Ground.guard }], guard := some (1, true) }) (v := ?_) rfl (by kernel_rfl) (by kernel_rfl) (by kernel_rfl) (fun _ _ _ h => h) (Or.inl ⟨by rfl, ?_⟩) S1.out ?_
              rotate_left
              · intro W hW; have c0 := (F.out.below hW).cell; (go_simp; try with_reducible rfl)
              try simp only [Act.put, List.setIfInBounds_toArray, List.set_cons_zero, List.set_cons_succ]
              refine wpAnyH_ready (rs := [10]) (by kernel_rfl) (by simp) ?_
              refine AllReadyH.cons (o := { dst := some 29, op := Go.Op.call { callee := Go.Callee.value (Go.Operand.func 19), args := #[Go.Operand.tmp 24, Go.Operand.tmp 28], argTypes := #[28, 28] }, type := 3, pos := _, after := #[{ on := 5, ground := Go.Ground.data }, { on := 9, ground := Go.Ground.data }, { on := 1, ground := Go.Ground.chain }, { on := 1, ground := Go.Ground.guard }], guard := some (1, true) }) rfl (fun K hK => ?_) AllReadyH.nil
              go_simp
              refine (refCompare_is _ _ _ _ _ _ (ls.getD i []) (ls.getD k []) _ (E.out.row.below S1.out) (F.out.row.below S1.out) LM.out LM2.out z HZ).mono ?_
              rintro e w5 ⟨rfl, b5⟩
              have S5 := Lib.hid (S1.out.trans (b5.mono S1.out.size))
              clear b5
              go_wp2_with fail
              refine hK.out _ _ ?_ (fun _ => ?_)
              · exact S5.out
              clear hK K
              try simp only [Act.put, List.setIfInBounds_toArray, List.set_cons_zero, List.set_cons_succ]
              refine wpAnyH_take (i := 11) (oi := { dst := some 30, op := Go.Op.binOp Go.BinOp.neq 3 (Go.Operand.tmp 29) (Go.Operand.const (Go.Value.int Go.IntKind.i64 1)) 3, type := 4, pos := _, after := #[{ on := 10, ground := Go.Ground.data }, { on := 1, ground := Go.Ground.guard }], guard := some (1, true) }) (v := ?_) rfl (by kernel_rfl) (by kernel_rfl) (by kernel_rfl) (fun _ _ _ h => h) (Or.inl ⟨by rfl, ?_⟩) S5.out ?_
              rotate_left
              · intro W hW; (go_simp; try with_reducible rfl)
              try simp only [Act.put, List.setIfInBounds_toArray, List.set_cons_zero, List.set_cons_succ]
              refine wpAnyH_take (i := 12) (oi := { dst := some 31, op := Go.Op.pick (Go.Operand.tmp 20) (Go.Operand.tmp 30) (Go.Operand.const (Go.Value.bool false)), type := 4, pos := _, after := #[{ on := 1, ground := Go.Ground.data }, { on := 11, ground := Go.Ground.data }], guard := none }) (v := ?_) rfl (by kernel_rfl) (by kernel_rfl) (by kernel_rfl) (fun _ _ _ h => h) (Or.inl ⟨by rfl, ?_⟩) S5.out ?_
              rotate_left
              · intro W hW; (go_simp; try with_reducible rfl)
              try simp only [Act.put, List.setIfInBounds_toArray, List.set_cons_zero, List.set_cons_succ]
              refine wpAnyH_take (i := 13) (oi := { dst := some 5, op := Go.Op.assign (Go.Operand.tmp 31), type := 4, pos := _, after := #[{ on := 12, ground := Go.Ground.data }, { on := 10, ground := Go.Ground.chain }, { on := 0, ground := Go.Ground.phase }, { on := 1, ground := Go.Ground.phase }, { on := 2, ground := Go.Ground.phase }, { on := 3, ground := Go.Ground.phase }, { on := 4, ground := Go.Ground.phase }, { on := 5, ground := Go.Ground.phase }, { on := 6, ground := Go.Ground.phase }, { on := 7, ground := Go.Ground.phase }, { on := 8, ground := Go.Ground.phase }, { on := 9, ground := Go.Ground.phase }, { on := 10, ground := Go.Ground.phase }, { on := 11, ground := Go.Ground.phase }, { on := 12, ground := Go.Ground.phase }], guard := none }) (v := ?_) rfl (by kernel_rfl) (by kernel_rfl) (by kernel_rfl) (fun _ _ _ h => h) (Or.inl ⟨by rfl, ?_⟩) S5.out ?_
              rotate_left
              · intro W hW; (go_simp; try with_reducible rfl)
              try simp only [Act.put, List.setIfInBounds_toArray, List.set_cons_zero, List.set_cons_succ]
              refine wpAnyH_done (by kernel_rfl) ?_ _
              refine NoPanic.normal ?_
              go_wp2_with fail
              go_roundw
              case rel => exact ⟨k + 1, by omega, by go_num, by rw [RA.out]; simp [bne, hb1], BB.out.trans (S5.out.mono BB.out.size), OI.out.below S5.out⟩
              case measure => simp [intOf]; omega
            · have hb1 : (z == 1) = false := by simp [hz1]
              have RA := Lib.hid (show ((List.range (k + 1)).all fun k => !gr ls i k) = true by rw [RN.out, ht, HG.out, decide_eq_false hz1]; rfl)
              clear ht hz1
              go_wp2_with fail
              have S1 := Lib.hid (show Below wr.heap.size wr wr.drew from below_drew (Below.refl _ _))
              refine wp_region_noPanic ?_
              refine wp_region_held_drew (S := fun W => Below wr.heap.size wr W) (by kernel_rfl) S1.out (fun _ => ?_)
              refine wpAnyH_take (i := 0) (oi := { dst := some 19, op := Go.Op.move (Go.Operand.tmp 5), type := 4, pos := _, after := #[], guard := none }) (v := ?_) rfl (by kernel_rfl) (by kernel_rfl) (by kernel_rfl) (fun _ _ _ h => h) (Or.inl ⟨by rfl, ?_⟩) S1.out ?_
              rotate_left
              · intro W hW; (go_simp; try with_reducible rfl)
              try simp only [Act.put, List.setIfInBounds_toArray, List.set_cons_zero, List.set_cons_succ]
              refine wpAnyH_take (i := 1) (oi := { dst := some 20, op := Go.Op.move (Go.Operand.tmp 19), type := 4, pos := _, after := #[{ on := 0, ground := Go.Ground.data }], guard := none }) (v := ?_) rfl (by kernel_rfl) (by kernel_rfl) (by kernel_rfl) (fun _ _ _ h => h) (Or.inl ⟨by rfl, ?_⟩) S1.out ?_
              rotate_left
              · intro W hW; (go_simp; try with_reducible rfl)
              try simp only [Act.put, List.setIfInBounds_toArray, List.set_cons_zero, List.set_cons_succ]
              refine wpAnyH_take (i := 2) (oi := { dst := some 21, op := Go.Op.move (Go.Operand.tmp 0), type := 22, pos := _, after := #[{ on := 1, ground := Go.Ground.guard }], guard := some (1, true) }) (v := ?_) rfl (by kernel_rfl) (by kernel_rfl) (by kernel_rfl) (fun _ _ _ h => h) (Or.inl ⟨by rfl, ?_⟩) S1.out ?_
              rotate_left
              · intro W hW; (go_simp; try with_reducible rfl)
              try simp only [Act.put, List.setIfInBounds_toArray, List.set_cons_zero, List.set_cons_succ]
              refine wpAnyH_take (i := 3) (oi := { dst := some 22, op := Go.Op.move (Go.Operand.tmp 4), type := 3, pos := _, after := #[{ on := 1, ground := Go.Ground.guard }], guard := some (1, true) }) (v := ?_) rfl (by kernel_rfl) (by kernel_rfl) (by kernel_rfl) (fun _ _ _ h => h) (Or.inl ⟨by rfl, ?_⟩) S1.out ?_
              rotate_left
              · intro W hW; (go_simp; try with_reducible rfl)
              try simp only [Act.put, List.setIfInBounds_toArray, List.set_cons_zero, List.set_cons_succ]
              refine wpAnyH_take (i := 4) (oi := { dst := some 23, op := Go.Op.indexAddr 22 (Go.Operand.tmp 21) (Go.Operand.tmp 22), type := 0, pos := _, after := #[{ on := 2, ground := Go.Ground.data }, { on := 3, ground := Go.Ground.data }, { on := 1, ground := Go.Ground.guard }], guard := some (1, true) }) (v := .pointer (some ⟨G, p, none⟩)) rfl (by kernel_rfl) (by kernel_rfl) (by kernel_rfl) (fun _ _ _ h => h) (Or.inl ⟨by rfl, fun W hW => exec_index40 _ _ rfl A n cap G p i D1 m1 k1 _ _ rfl rfl (by first | rfl | omega) E.out⟩) S1.out ?_
              try simp only [Act.put, List.setIfInBounds_toArray, List.set_cons_zero, List.set_cons_succ]
              refine wpAnyH_take (i := 5) (oi := { dst := some 24, op := Go.Op.load 28 (Go.Operand.tmp 23), type := 28, pos := _, after := #[{ on := 4, ground := Go.Ground.data }, { on := 1, ground := Go.Ground.guard }], guard := some (1, true) }) (v := ?_) rfl (by kernel_rfl) (by kernel_rfl) (by kernel_rfl) (fun _ _ _ h => h) (Or.inl ⟨by rfl, ?_⟩) S1.out ?_
              rotate_left
              · intro W hW; have c0 := (E.out.below hW).cell; (go_simp; try with_reducible rfl)
              try simp only [Act.put, List.setIfInBounds_toArray, List.set_cons_zero, List.set_cons_succ]
              refine wpAnyH_take (i := 6) (oi := { dst := some 25, op := Go.Op.move (Go.Operand.tmp 0), type := 22, pos := _, after := #[{ on := 1, ground := Go.Ground.guard }], guard := some (1, true) }) (v := ?_) rfl (by kernel_rfl) (by kernel_rfl) (by kernel_rfl) (fun _ _ _ h => h) (Or.inl ⟨by rfl, ?_⟩) S1.out ?_
              rotate_left
              · intro W hW; (go_simp; try with_reducible rfl)
              try simp only [Act.put, List.setIfInBounds_toArray, List.set_cons_zero, List.set_cons_succ]
              refine wpAnyH_take (i := 7) (oi := { dst := some 26, op := Go.Op.move (Go.Operand.tmp 6), type := 3, pos := _, after := #[{ on := 1, ground := Go.Ground.guard }], guard := some (1, true) }) (v := ?_) rfl (by kernel_rfl) (by kernel_rfl) (by kernel_rfl) (fun _ _ _ h => h) (Or.inl ⟨by rfl, ?_⟩) S1.out ?_
              rotate_left
              · intro W hW; (go_simp; try with_reducible rfl)
              try simp only [Act.put, List.setIfInBounds_toArray, List.set_cons_zero, List.set_cons_succ]
              refine wpAnyH_take (i := 8) (oi := { dst := some 27, op := Go.Op.indexAddr 22 (Go.Operand.tmp 25) (Go.Operand.tmp 26), type := 0, pos := _, after := #[{ on := 6, ground := Go.Ground.data }, { on := 7, ground := Go.Ground.data }, { on := 1, ground := Go.Ground.guard }], guard := some (1, true) }) (v := .pointer (some ⟨G2, p2, none⟩)) rfl (by kernel_rfl) (by kernel_rfl) (by kernel_rfl) (fun _ _ _ h => h) (Or.inl ⟨by rfl, fun W hW => exec_index40 _ _ rfl A n cap G2 p2 k D2 m2 k2 _ _ rfl rfl (by first | rfl | omega) F.out⟩) S1.out ?_
              try simp only [Act.put, List.setIfInBounds_toArray, List.set_cons_zero, List.set_cons_succ]
              refine wpAnyH_take (i := 9) (oi := { dst := some 28, op := Go.Op.load 28 (Go.Operand.tmp 27), type := 28, pos := _, after := #[{ on := 8, ground := Go.Ground.data }, { on := 1, ground := Go.Ground.guard }], guard := some (1, true) }) (v := ?_) rfl (by kernel_rfl) (by kernel_rfl) (by kernel_rfl) (fun _ _ _ h => h) (Or.inl ⟨by rfl, ?_⟩) S1.out ?_
              rotate_left
              · intro W hW; have c0 := (F.out.below hW).cell; (go_simp; try with_reducible rfl)
              try simp only [Act.put, List.setIfInBounds_toArray, List.set_cons_zero, List.set_cons_succ]
              refine wpAnyH_ready (rs := [10]) (by kernel_rfl) (by simp) ?_
              refine AllReadyH.cons (o := { dst := some 29, op := Go.Op.call { callee := Go.Callee.value (Go.Operand.func 19), args := #[Go.Operand.tmp 24, Go.Operand.tmp 28], argTypes := #[28, 28] }, type := 3, pos := _, after := #[{ on := 5, ground := Go.Ground.data }, { on := 9, ground := Go.Ground.data }, { on := 1, ground := Go.Ground.chain }, { on := 1, ground := Go.Ground.guard }], guard := some (1, true) }) rfl (fun K hK => ?_) AllReadyH.nil
              go_simp
              refine (refCompare_is _ _ _ _ _ _ (ls.getD i []) (ls.getD k []) _ (E.out.row.below S1.out) (F.out.row.below S1.out) LM.out LM2.out z HZ).mono ?_
              rintro e w5 ⟨rfl, b5⟩
              have S5 := Lib.hid (S1.out.trans (b5.mono S1.out.size))
              clear b5
              go_wp2_with fail
              refine hK.out _ _ ?_ (fun _ => ?_)
              · exact S5.out
              clear hK K
              try simp only [Act.put, List.setIfInBounds_toArray, List.set_cons_zero, List.set_cons_succ]
              refine wpAnyH_take (i := 11) (oi := { dst := some 30, op := Go.Op.binOp Go.BinOp.neq 3 (Go.Operand.tmp 29) (Go.Operand.const (Go.Value.int Go.IntKind.i64 1)) 3, type := 4, pos := _, after := #[{ on := 10, ground := Go.Ground.data }, { on := 1, ground := Go.Ground.guard }], guard := some (1, true) }) (v := ?_) rfl (by kernel_rfl) (by kernel_rfl) (by kernel_rfl) (fun _ _ _ h => h) (Or.inl ⟨by rfl, ?_⟩) S5.out ?_
              rotate_left
              · intro W hW; (go_simp; try with_reducible rfl)
              try simp only [Act.put, List.setIfInBounds_toArray, List.set_cons_zero, List.set_cons_succ]
              refine wpAnyH_take (i := 12) (oi := { dst := some 31, op := Go.Op.pick (Go.Operand.tmp 20) (Go.Operand.tmp 30) (Go.Operand.const (Go.Value.bool false)), type := 4, pos := _, after := #[{ on := 1, ground := Go.Ground.data }, { on := 11, ground := Go.Ground.data }], guard := none }) (v := ?_) rfl (by kernel_rfl) (by kernel_rfl) (by kernel_rfl) (fun _ _ _ h => h) (Or.inl ⟨by rfl, ?_⟩) S5.out ?_
              rotate_left
              · intro W hW; (go_simp; try with_reducible rfl)
              try simp only [Act.put, List.setIfInBounds_toArray, List.set_cons_zero, List.set_cons_succ]
              refine wpAnyH_take (i := 13) (oi := { dst := some 5, op := Go.Op.assign (Go.Operand.tmp 31), type := 4, pos := _, after := #[{ on := 12, ground := Go.Ground.data }, { on := 10, ground := Go.Ground.chain }, { on := 0, ground := Go.Ground.phase }, { on := 1, ground := Go.Ground.phase }, { on := 2, ground := Go.Ground.phase }, { on := 3, ground := Go.Ground.phase }, { on := 4, ground := Go.Ground.phase }, { on := 5, ground := Go.Ground.phase }, { on := 6, ground := Go.Ground.phase }, { on := 7, ground := Go.Ground.phase }, { on := 8, ground := Go.Ground.phase }, { on := 9, ground := Go.Ground.phase }, { on := 10, ground := Go.Ground.phase }, { on := 11, ground := Go.Ground.phase }, { on := 12, ground := Go.Ground.phase }], guard := none }) (v := ?_) rfl (by kernel_rfl) (by kernel_rfl) (by kernel_rfl) (fun _ _ _ h => h) (Or.inl ⟨by rfl, ?_⟩) S5.out ?_
              rotate_left
              · intro W hW; (go_simp; try with_reducible rfl)
              try simp only [Act.put, List.setIfInBounds_toArray, List.set_cons_zero, List.set_cons_succ]
              refine wpAnyH_done (by kernel_rfl) ?_ _
              refine NoPanic.normal ?_
              go_wp2_with fail
              go_roundw
              case rel => exact ⟨k + 1, by omega, by go_num, by rw [RA.out]; simp [bne, hb1], BB.out.trans (S5.out.mono BB.out.size), OI.out.below S5.out⟩
              case measure => simp [intOf]; omega
        · obtain rfl : n = k := by omega
          have IT := Lib.hid (show ((List.range n).all fun k => !gr ls i k) = isT ls i by unfold isT; rw [LN.out])
          rw [IT.out]
          cases ht : isT ls i with
          | true =>
            have FR2 := Lib.hid (show (List.range (i + 1)).filter (isT ls) = (List.range i).filter (isT ls) ++ [i] by rw [FR.out, if_pos ht])
            clear ht
            go_wp2_with (first
              | go_skip
              | (refine wpList_ints1 rfl _ rfl i rfl ?_; intro g6 w6 e6 N6 B6)
              | (refine wpList_app_i rfl _ _ rfl w.heap.size _ ((List.range i).filter (isT ls)) i g6 rfl rfl (OI.out.below B6.out) N6.out LI.out (Nat.le_trans BB.out.size B6.out.size) ?_; intro D7 m7 c7 w7 e7 O7 B7 G7))
            go_roundw
            case rel => exact ⟨i + 1, by omega, by go_num, by rw [FR2.out]; exact O7.out, (step_ BB.out B6.out).trans B7.out⟩
            case measure => simp [intOf]; omega
          | false =>
            have FR2 := Lib.hid (show (List.range (i + 1)).filter (isT ls) = (List.range i).filter (isT ls) by rw [FR.out, if_neg (by rw [ht]; decide), List.append_nil])
            clear ht
            go_wp2_with (first | go_skip | fail)
            go_roundw
            case rel => exact ⟨i + 1, by omega, by go_num, by rw [FR2.out]; exact OI.out, BB.out⟩
            case measure => simp [intOf]; omega
    · obtain rfl : n = i := by omega
      go_wp2_with fail
      go_ret
      exact ⟨⟨D3, _, c3, rfl, by unfold tops; rw [LN.out]; exact OI.out.ints, fun a ha => OI.out.fresh a ha⟩, BB.out⟩
theorem fewR_pick {ls : List (List Am)} {n k : Nat} (hl : ls.length = n) (hk : (tops ls).length = k) (hk8 : k ≤ 8) (h : ∀ i, i < n → (ls.getD i []).length ≤ 30) : FewR ((tops ls).map fun i => ls.getD i []) := by
  refine fewR_of (n := k) (by rw [List.length_map]; exact hk) hk8 (fun i hi => ?_)
  have hil : i < (tops ls).length := by omega
  rw [List.getD_eq_getElem?_getD, List.getElem?_map, List.getElem?_eq_getElem hil]
  have := List.mem_range.1 (List.mem_filter.1 (List.getElem_mem hil)).1
  exact h _ (by omega)
set_option maxRecDepth 100000 in
set_option maxHeartbeats 32000000 in
theorem deltaStands_is (A : Option Addr) (n cap : Nat) (ls : List (List Am)) (w : World) (h : RowsV w A n cap ls) : Calls Tryz.prog 5 #[.slice A n cap] w fun e w' => e = .returned (.bool true) ∧ Below w.heap.size w w' := by
  have H := Lib.hid h
  clear h
  go_enter Tryz.func5, Tryz.ntmps5
  go_wp2_with fail
  refine (light_is _ _ _ _ _ H.out).mono ?_
  rintro e w1 ⟨⟨r, rfl, hr⟩, b1⟩
  have B1 := Lib.hid b1
  clear b1
  cases r with
  | false =>
    clear hr
    go_wp2_with fail
    refine (life_is _).mono ?_
    rintro e wl ⟨rfl, bl⟩
    have BL := Lib.hid (step_ B1.out bl)
    clear bl
    go_wp2_with fail
    go_ret
    exact ⟨rfl, BL.out⟩
  | true =>
    have hn : n ≤ 8 := (hr rfl).1
    have FF := Lib.hid (fewR_of H.out.len (hr rfl).1 (hr rfl).2)
    have FS := Lib.hid (hr rfl).2
    have LN := Lib.hid H.out.len
    have OM := Lib.hid (show OkM ls from H.out.ok)
    clear hr
    go_wp2_with fail
    go_loopw [3] (fun ii wr => ∃ i : Nat, i ≤ n ∧ ii = .int .i64 i ∧ Below w.heap.size w wr) (fun ii _ => n - (intOf ii).toNat)
    case atStart => exact ⟨0, Nat.zero_le _, rfl, B1.out⟩
    case round =>
      obtain ⟨i, hi, rfl, hb⟩ := hrel
      have BB := Lib.hid hb
      clear hb
      by_cases hlt : i < n
      · go_wp2_with fail
        go_loopw [4] (fun kk wr => ∃ k : Nat, k ≤ n ∧ kk = .int .i64 k ∧ Below w.heap.size w wr) (fun kk _ => n - (intOf kk).toNat)
        case atStart => exact ⟨0, Nat.zero_le _, rfl, BB.out⟩
        case round =>
          obtain ⟨k, hk, rfl, hb⟩ := hrel
          have BB := Lib.hid hb
          clear hb
          by_cases hlk : k < n
          · obtain ⟨G, p, D1, m1, k1, hE⟩ := (H.out.below BB.out).elem i hlt
            obtain ⟨G2, p2, D2, m2, k2, hF⟩ := (H.out.below BB.out).elem k hlk
            have E := Lib.hid hE
            have F := Lib.hid hF
            have LM := Lib.hid (show m1 ≤ 600 by have := FF.out.at_ i; have := hE.row.len; omega)
            have LM2 := Lib.hid (show m2 ≤ 600 by have := FF.out.at_ k; have := hF.row.len; omega)
            clear hE hF
            obtain ⟨z, hz⟩ : ∃ z, cmp (ls.getD i []) (ls.getD k []) = z := ⟨_, rfl⟩
            have HZ := Lib.hid hz
            have hzz : (z == z) = true := by simp
            clear hz
            go_wp2_with fail
            have S1 := Lib.hid (show Below wr.heap.size wr wr.drew from below_drew (Below.refl _ _))
            refine wp_region_noPanic ?_
            refine wp_region_held_drew (S := fun W => Below wr.heap.size wr W) (by kernel_rfl) S1.out (fun _ => ?_)
            refine wpAnyH_take (i := 0) (oi := { dst := some 24, op := Go.Op.move (Go.Operand.tmp 0), type := 22, pos := _, after := #[], guard := none }) (v := ?_) rfl (by kernel_rfl) (by kernel_rfl) (by kernel_rfl) (fun _ _ _ h => h) (Or.inl ⟨by rfl, ?_⟩) S1.out ?_
            rotate_left
            · intro W hW; (go_simp; try with_reducible rfl)
            try simp only [Act.put, List.setIfInBounds_toArray, List.set_cons_zero, List.set_cons_succ]
            refine wpAnyH_take (i := 1) (oi := { dst := some 25, op := Go.Op.move (Go.Operand.tmp 3), type := 3, pos := _, after := #[], guard := none }) (v := ?_) rfl (by kernel_rfl) (by kernel_rfl) (by kernel_rfl) (fun _ _ _ h => h) (Or.inl ⟨by rfl, ?_⟩) S1.out ?_
            rotate_left
            · intro W hW; (go_simp; try with_reducible rfl)
            try simp only [Act.put, List.setIfInBounds_toArray, List.set_cons_zero, List.set_cons_succ]
            refine wpAnyH_take (i := 2) (oi := { dst := some 26, op := Go.Op.indexAddr 22 (Go.Operand.tmp 24) (Go.Operand.tmp 25), type := 0, pos := _, after := #[{ on := 0, ground := Go.Ground.data }, { on := 1, ground := Go.Ground.data }], guard := none }) (v := .pointer (some ⟨G, p, none⟩)) rfl (by kernel_rfl) (by kernel_rfl) (by kernel_rfl) (fun _ _ _ h => h) (Or.inl ⟨by rfl, fun W hW => exec_index40 _ _ rfl A n cap G p i D1 m1 k1 _ _ rfl rfl (by first | rfl | omega) E.out⟩) S1.out ?_
            try simp only [Act.put, List.setIfInBounds_toArray, List.set_cons_zero, List.set_cons_succ]
            refine wpAnyH_take (i := 3) (oi := { dst := some 27, op := Go.Op.load 28 (Go.Operand.tmp 26), type := 28, pos := _, after := #[{ on := 2, ground := Go.Ground.data }], guard := none }) (v := ?_) rfl (by kernel_rfl) (by kernel_rfl) (by kernel_rfl) (fun _ _ _ h => h) (Or.inl ⟨by rfl, ?_⟩) S1.out ?_
            rotate_left
            · intro W hW; have c0 := (E.out.below hW).cell; (go_simp; try with_reducible rfl)
            try simp only [Act.put, List.setIfInBounds_toArray, List.set_cons_zero, List.set_cons_succ]
            refine wpAnyH_take (i := 4) (oi := { dst := some 28, op := Go.Op.move (Go.Operand.tmp 0), type := 22, pos := _, after := #[], guard := none }) (v := ?_) rfl (by kernel_rfl) (by kernel_rfl) (by kernel_rfl) (fun _ _ _ h => h) (Or.inl ⟨by rfl, ?_⟩) S1.out ?_
            rotate_left
            · intro W hW; (go_simp; try with_reducible rfl)
            try simp only [Act.put, List.setIfInBounds_toArray, List.set_cons_zero, List.set_cons_succ]
            refine wpAnyH_take (i := 5) (oi := { dst := some 29, op := Go.Op.move (Go.Operand.tmp 4), type := 3, pos := _, after := #[], guard := none }) (v := ?_) rfl (by kernel_rfl) (by kernel_rfl) (by kernel_rfl) (fun _ _ _ h => h) (Or.inl ⟨by rfl, ?_⟩) S1.out ?_
            rotate_left
            · intro W hW; (go_simp; try with_reducible rfl)
            try simp only [Act.put, List.setIfInBounds_toArray, List.set_cons_zero, List.set_cons_succ]
            refine wpAnyH_take (i := 6) (oi := { dst := some 30, op := Go.Op.indexAddr 22 (Go.Operand.tmp 28) (Go.Operand.tmp 29), type := 0, pos := _, after := #[{ on := 4, ground := Go.Ground.data }, { on := 5, ground := Go.Ground.data }], guard := none }) (v := .pointer (some ⟨G2, p2, none⟩)) rfl (by kernel_rfl) (by kernel_rfl) (by kernel_rfl) (fun _ _ _ h => h) (Or.inl ⟨by rfl, fun W hW => exec_index40 _ _ rfl A n cap G2 p2 k D2 m2 k2 _ _ rfl rfl (by first | rfl | omega) F.out⟩) S1.out ?_
            try simp only [Act.put, List.setIfInBounds_toArray, List.set_cons_zero, List.set_cons_succ]
            refine wpAnyH_take (i := 7) (oi := { dst := some 31, op := Go.Op.load 28 (Go.Operand.tmp 30), type := 28, pos := _, after := #[{ on := 6, ground := Go.Ground.data }], guard := none }) (v := ?_) rfl (by kernel_rfl) (by kernel_rfl) (by kernel_rfl) (fun _ _ _ h => h) (Or.inl ⟨by rfl, ?_⟩) S1.out ?_
            rotate_left
            · intro W hW; have c0 := (F.out.below hW).cell; (go_simp; try with_reducible rfl)
            try simp only [Act.put, List.setIfInBounds_toArray, List.set_cons_zero, List.set_cons_succ]
            refine wpAnyH_take (i := 9) (oi := { dst := some 33, op := Go.Op.move (Go.Operand.tmp 0), type := 22, pos := _, after := #[], guard := none }) (v := ?_) rfl (by kernel_rfl) (by kernel_rfl) (by kernel_rfl) (fun _ _ _ h => h) (Or.inl ⟨by rfl, ?_⟩) S1.out ?_
            rotate_left
            · intro W hW; (go_simp; try with_reducible rfl)
            try simp only [Act.put, List.setIfInBounds_toArray, List.set_cons_zero, List.set_cons_succ]
            refine wpAnyH_take (i := 10) (oi := { dst := some 34, op := Go.Op.move (Go.Operand.tmp 3), type := 3, pos := _, after := #[], guard := none }) (v := ?_) rfl (by kernel_rfl) (by kernel_rfl) (by kernel_rfl) (fun _ _ _ h => h) (Or.inl ⟨by rfl, ?_⟩) S1.out ?_
            rotate_left
            · intro W hW; (go_simp; try with_reducible rfl)
            try simp only [Act.put, List.setIfInBounds_toArray, List.set_cons_zero, List.set_cons_succ]
            refine wpAnyH_take (i := 11) (oi := { dst := some 35, op := Go.Op.indexAddr 22 (Go.Operand.tmp 33) (Go.Operand.tmp 34), type := 0, pos := _, after := #[{ on := 9, ground := Go.Ground.data }, { on := 10, ground := Go.Ground.data }], guard := none }) (v := .pointer (some ⟨G, p, none⟩)) rfl (by kernel_rfl) (by kernel_rfl) (by kernel_rfl) (fun _ _ _ h => h) (Or.inl ⟨by rfl, fun W hW => exec_index40 _ _ rfl A n cap G p i D1 m1 k1 _ _ rfl rfl (by first | rfl | omega) E.out⟩) S1.out ?_
            try simp only [Act.put, List.setIfInBounds_toArray, List.set_cons_zero, List.set_cons_succ]
            refine wpAnyH_take (i := 12) (oi := { dst := some 36, op := Go.Op.load 28 (Go.Operand.tmp 35), type := 28, pos := _, after := #[{ on := 11, ground := Go.Ground.data }], guard := none }) (v := ?_) rfl (by kernel_rfl) (by kernel_rfl) (by kernel_rfl) (fun _ _ _ h => h) (Or.inl ⟨by rfl, ?_⟩) S1.out ?_
            rotate_left
            · intro W hW; have c0 := (E.out.below hW).cell; (go_simp; try with_reducible rfl)
            try simp only [Act.put, List.setIfInBounds_toArray, List.set_cons_zero, List.set_cons_succ]
            refine wpAnyH_take (i := 13) (oi := { dst := some 37, op := Go.Op.move (Go.Operand.tmp 0), type := 22, pos := _, after := #[], guard := none }) (v := ?_) rfl (by kernel_rfl) (by kernel_rfl) (by kernel_rfl) (fun _ _ _ h => h) (Or.inl ⟨by rfl, ?_⟩) S1.out ?_
            rotate_left
            · intro W hW; (go_simp; try with_reducible rfl)
            try simp only [Act.put, List.setIfInBounds_toArray, List.set_cons_zero, List.set_cons_succ]
            refine wpAnyH_take (i := 14) (oi := { dst := some 38, op := Go.Op.move (Go.Operand.tmp 4), type := 3, pos := _, after := #[], guard := none }) (v := ?_) rfl (by kernel_rfl) (by kernel_rfl) (by kernel_rfl) (fun _ _ _ h => h) (Or.inl ⟨by rfl, ?_⟩) S1.out ?_
            rotate_left
            · intro W hW; (go_simp; try with_reducible rfl)
            try simp only [Act.put, List.setIfInBounds_toArray, List.set_cons_zero, List.set_cons_succ]
            refine wpAnyH_take (i := 15) (oi := { dst := some 39, op := Go.Op.indexAddr 22 (Go.Operand.tmp 37) (Go.Operand.tmp 38), type := 0, pos := _, after := #[{ on := 13, ground := Go.Ground.data }, { on := 14, ground := Go.Ground.data }], guard := none }) (v := .pointer (some ⟨G2, p2, none⟩)) rfl (by kernel_rfl) (by kernel_rfl) (by kernel_rfl) (fun _ _ _ h => h) (Or.inl ⟨by rfl, fun W hW => exec_index40 _ _ rfl A n cap G2 p2 k D2 m2 k2 _ _ rfl rfl (by first | rfl | omega) F.out⟩) S1.out ?_
            try simp only [Act.put, List.setIfInBounds_toArray, List.set_cons_zero, List.set_cons_succ]
            refine wpAnyH_take (i := 16) (oi := { dst := some 40, op := Go.Op.load 28 (Go.Operand.tmp 39), type := 28, pos := _, after := #[{ on := 15, ground := Go.Ground.data }], guard := none }) (v := ?_) rfl (by kernel_rfl) (by kernel_rfl) (by kernel_rfl) (fun _ _ _ h => h) (Or.inl ⟨by rfl, ?_⟩) S1.out ?_
            rotate_left
            · intro W hW; have c0 := (F.out.below hW).cell; (go_simp; try with_reducible rfl)
            try simp only [Act.put, List.setIfInBounds_toArray, List.set_cons_zero, List.set_cons_succ]
            refine wpAnyH_ready (rs := [8]) (by kernel_rfl) (by simp) ?_
            refine AllReadyH.cons (o := { dst := some 32, op := Go.Op.call { callee := Go.Callee.value (Go.Operand.func 18), args := #[Go.Operand.tmp 27, Go.Operand.tmp 31], argTypes := #[28, 28] }, type := 3, pos := _, after := #[{ on := 3, ground := Go.Ground.data }, { on := 7, ground := Go.Ground.data }], guard := none }) rfl (fun K hK => ?_) AllReadyH.nil
            go_simp
            refine (dcompare_is _ _ _ _ _ _ (ls.getD i []) (ls.getD k []) _ (E.out.row.below S1.out) (F.out.row.below S1.out) LM.out LM2.out z HZ).mono ?_
            rintro e w5 ⟨rfl, b5⟩
            have S5 := Lib.hid (S1.out.trans (b5.mono S1.out.size))
            clear b5
            go_wp2_with fail
            refine hK.out _ _ ?_ (fun _ => ?_)
            · exact S5.out
            clear hK K
            try simp only [Act.put, List.setIfInBounds_toArray, List.set_cons_zero, List.set_cons_succ]
            refine wpAnyH_ready (rs := [17]) (by kernel_rfl) (by simp) ?_
            refine AllReadyH.cons (o := { dst := some 41, op := Go.Op.call { callee := Go.Callee.value (Go.Operand.func 19), args := #[Go.Operand.tmp 36, Go.Operand.tmp 40], argTypes := #[28, 28] }, type := 3, pos := _, after := #[{ on := 12, ground := Go.Ground.data }, { on := 16, ground := Go.Ground.data }, { on := 8, ground := Go.Ground.chain }], guard := none }) rfl (fun K hK => ?_) AllReadyH.nil
            go_simp
            refine (refCompare_is _ _ _ _ _ _ (ls.getD i []) (ls.getD k []) _ (E.out.row.below S5.out) (F.out.row.below S5.out) LM.out LM2.out z HZ).mono ?_
            rintro e w6 ⟨rfl, b6⟩
            have S6 := Lib.hid (S5.out.trans (b6.mono S5.out.size))
            clear b6
            go_wp2_with fail
            refine hK.out _ _ ?_ (fun _ => ?_)
            · exact S6.out
            clear hK K
            try simp only [Act.put, List.setIfInBounds_toArray, List.set_cons_zero, List.set_cons_succ]
            refine wpAnyH_take (i := 18) (oi := { dst := some 42, op := Go.Op.binOp Go.BinOp.neq 3 (Go.Operand.tmp 32) (Go.Operand.tmp 41) 3, type := 4, pos := _, after := #[{ on := 8, ground := Go.Ground.data }, { on := 17, ground := Go.Ground.data }], guard := none }) (v := ?_) rfl (by kernel_rfl) (by kernel_rfl) (by kernel_rfl) (fun _ _ _ h => h) (Or.inl ⟨by rfl, ?_⟩) S6.out ?_
            rotate_left
            · intro W hW; (go_simp; try with_reducible rfl)
            try simp only [Act.put, List.setIfInBounds_toArray, List.set_cons_zero, List.set_cons_succ]
            refine wpAnyH_done (by kernel_rfl) ?_ _
            refine NoPanic.normal ?_
            go_wp2_with fail
            go_roundw
            case rel => exact ⟨k + 1, by omega, by go_num, BB.out.trans (S6.out.mono BB.out.size)⟩
            case measure => simp [intOf]; omega
          · obtain rfl : n = k := by omega
            go_wp2_with fail
            go_roundw
            case rel => exact ⟨i + 1, by omega, by go_num, BB.out⟩
            case measure => simp [intOf]; omega
      · obtain rfl : n = i := by omega
        clear hlt hi
        obtain ⟨q, hq⟩ : ∃ q, chain ls = q := ⟨_, rfl⟩
        have HQ := Lib.hid hq
        have hqq : (q == q) = true := by simp
        clear hq
        go_wp2_with fail
        refine (dtops_is _ _ _ ls _ (H.out.below BB.out) FF.out).mono ?_
        rintro e w3 ⟨⟨A3, n3, c3, rfl, r3, f3⟩, b3⟩
        have B3 := Lib.hid (step_ BB.out b3)
        have R3 := Lib.hid r3
        have hn3 : n3 ≤ 8 := by have := r3.len; have := topsI_len ls; have := LN.out; omega
        clear r3 f3 b3
        go_wp2_with fail
        refine (refTops_is _ _ _ ls _ (H.out.below B3.out) FF.out).mono ?_
        rintro e w4 ⟨⟨A4, n4, c4, rfl, r4, _⟩, b4⟩
        obtain rfl : n3 = n4 := by have := r4.len; have := R3.out.len; omega
        have B4 := Lib.hid (step_ B3.out b4)
        have R4 := Lib.hid r4
        have R5 := Lib.hid (R3.out.below b4)
        clear r4 b4
        go_wp2_with fail
        refine (sameI_is _ _ _ _ _ _ _ R5.out R4.out (by omega)).mono ?_
        rintro e w5 ⟨rfl, b5⟩
        have B5 := Lib.hid (step_ B4.out b5)
        have R6 := Lib.hid (R5.out.below b5)
        clear b5
        go_wp2_with fail
        refine (chain_is _ _ _ ls _ (H.out.below B5.out) FF.out).mono ?_
        rw [HQ.out]
        rintro e w6 ⟨rfl, b6⟩
        have B6 := Lib.hid (step_ B5.out b6)
        have R7 := Lib.hid (R6.out.below b6)
        clear b6
        go_wp2_with fail
        refine (refChain_is _ _ _ ls _ (H.out.below B6.out) FF.out).mono ?_
        rw [HQ.out]
        rintro e w7 ⟨rfl, b7⟩
        have B7 := Lib.hid (step_ B6.out b7)
        have R8 := Lib.hid (R7.out.below b7)
        clear b7
        go_wp2_with fail
        go_loopw [6, 7] (fun v jj wr => ∃ j : Nat, j ≤ n3 ∧ jj = .int .i64 j ∧ OwnRs wr w7.heap.size 0 v (((tops ls).take j).map fun i => ls.getD i []) ∧ Below w7.heap.size w7 wr) (fun _ jj _ => n3 - (intOf jj).toNat)
        case atStart => exact ⟨0, Nat.zero_le _, rfl, ownRs_nil _ _ _, Below.refl _ _⟩
        case round =>
          obtain ⟨j, hj, rfl, ho, hb⟩ := hrel
          have OO := Lib.hid ho
          have BC := Lib.hid hb
          clear ho hb
          by_cases hlj : j < n3
          · obtain ⟨G, p, hE, _⟩ := (R8.out.below BC.out).elem j hlj
            have ZL := Lib.hid (show (tops ls).getD j 0 < n by
              have hjl : j < (tops ls).length := by rw [R8.out.len]; exact hlj
              rw [List.getD_eq_getElem?_getD, List.getElem?_eq_getElem hjl, Option.getD_some]
              have := List.mem_range.1 (List.mem_filter.1 (List.getElem_mem hjl)).1
              rw [LN.out] at this; exact this)
            have T := Lib.hid (map_take (d := 0) (fun i => ls.getD i []) (show j < (tops ls).length by rw [R8.out.len]; exact hlj))
            have LEN := Lib.hid (show (((tops ls).take j).map fun i => ls.getD i []).length ≤ 5000 by rw [List.length_map, List.length_take]; omega)
            obtain ⟨z, hz⟩ : ∃ z, (tops ls).getD j 0 = z := ⟨_, rfl⟩
            rw [hz] at hE ZL T
            have E := Lib.hid hE
            have cell := hE.cell
            obtain ⟨G2, p2, D2, m2, k2, hF0⟩ := H.out.elem z ZL.out
            have RW := Lib.hid hF0.row
            have hF := hF0.below (step_ B7.out BC.out)
            have F := Lib.hid hF
            have cell2 := hF.cell
            clear hE hF hF0 hz
            go_wp2_with (first
              | go_skip
              | refine wpList_indexI rfl _ _ rfl A3 n3 c3 G p j z _ rfl rfl (by first | rfl | omega) E.out ?_
              | refine wpList_index40 rfl _ _ rfl A n cap G2 p2 z D2 m2 k2 _ _ rfl rfl (by first | rfl | omega) F.out ?_
              | (refine wpList_rows1 rfl _ rfl D2 m2 k2 rfl ?_; intro g5 w9 e5 N5 B9)
              | (refine wpList_app_rs rfl _ _ rfl w7.heap.size 0 _ (((tops ls).take j).map fun i => ls.getD i []) D2 m2 k2 (ls.getD z []) g5 rfl rfl (OO.out.below B9.out) (F.out.row.below B9.out) (fun h0 a ha => ⟨fun e => by obtain ⟨G9, o9, e9, l9, _⟩ := RW.out.at_ h0; rw [ha] at e9; obtain rfl := Option.some.inj e9; have h2 := (OO.out.lt e.symm).1; have := B7.out.size; simp only at h2; omega, Nat.zero_le _⟩) N5.out LEN.out (Nat.le_trans BC.out.size B9.out.size) ?_; intro D7 m7 c7 wa e7 O7 Ba G7 L7))
            go_roundw
            case rel => exact ⟨j + 1, by omega, by go_num, by rw [T.out]; exact O7.out, (BC.out.trans (B9.out.mono BC.out.size)).trans Ba.out⟩
            case measure => simp [intOf]; omega
          · obtain rfl : n3 = j := by omega
            have HT := Lib.hid (show (tops ls).take n3 = tops ls from List.take_of_length_le (by have := R8.out.len; omega))
            rw [HT.out] at OO
            obtain ⟨E9, c9, e9⟩ := OO.out.shape
            rw [List.length_map] at e9
            have O9 := OO.out
            rw [e9] at O9
            subst e9
            have RV := Lib.hid O9.rows
            have BX := Lib.hid (step_ B7.out BC.out)
            have FM := Lib.hid (show FewR ((tops ls).map fun i => ls.getD i []) from fewR_pick LN.out R8.out.len hn3 FS.out)
            clear O9 OO
            go_wp2_with fail
            refine (all_is _ _ _ _ _ RV.out FM.out).mono ?_
            rw [tops_all OM.out]
            rintro e wb ⟨⟨Ab, nb, cb, rfl, rb⟩, bb⟩
            have BY := Lib.hid (step_ BX.out bb)
            have RB := Lib.hid rb
            have LB := Lib.hid (show nb ≤ 5000 by have h9 := norm_len ls.flatten; rw [rb.len] at h9; have := FF.out.2; omega)
            clear rb bb
            go_wp2_with fail
            refine (all_is _ _ _ ls _ (H.out.below BY.out) FF.out).mono ?_
            rintro e wc ⟨⟨Ac, nc, cc, rfl, rc⟩, bc⟩
            have BZ := Lib.hid (step_ BY.out bc)
            have RC := Lib.hid rc
            have RD := Lib.hid (RB.out.below bc)
            clear rc bc
            go_wp2_with fail
            refine (rows_is _ _ _ _ _ _ _ _ true _ RD.out RC.out LB.out (Lib.hid (decide_eq_true rfl))).mono ?_
            rintro e wd ⟨rfl, bd⟩
            have BW := Lib.hid (step_ BZ.out bd)
            clear bd
            go_wp2_with fail
            refine (life_is _).mono ?_
            rintro e wl ⟨rfl, bl⟩
            have BL := Lib.hid (step_ BW.out bl)
            clear bl
            go_wp2_with fail
            go_ret
            exact ⟨rfl, BL.out⟩
end Go.Proofs.YteocfhbfdhokbaaGreat
