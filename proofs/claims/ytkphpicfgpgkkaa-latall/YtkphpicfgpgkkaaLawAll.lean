/- The contract of the law LatAll. -/
import Derived.Test.YtkphpicfgpgkkaaCalls
namespace Go.Proofs.Ytkphpicfgpgkkaa
open Go.RowKit

theorem flat_len : ∀ (ls : List (List Am)), (∀ x ∈ ls, x.length ≤ 40) → ls.flatten.length ≤ ls.length * 40
  | [], _ => Nat.le_refl _
  | x :: ls, h => by
    rw [List.flatten_cons, List.length_append, List.length_cons]
    have := h x (List.mem_cons_self ..)
    have := flat_len ls (fun y hy => h y (List.mem_cons_of_mem _ hy))
    omega
theorem fewR_of {ls : List (List Am)} {n : Nat} (hl : ls.length = n) (hn : n ≤ 8) (h : ∀ i, i < n → (ls.getD i []).length ≤ 40) : FewR ls := by
  have := flat_len ls (fun x hx => by
    obtain ⟨i, hi, rfl⟩ := List.getElem_of_mem hx
    have := h i (by omega)
    rwa [show ls.getD i [] = ls[i] by simp [List.getD, List.getElem?_eq_getElem hi]] at this)
  exact ⟨by omega, by omega⟩
theorem run_head22 (w : World) (A : Option Addr) (n cap k : Nat) (hk : k ≤ cap) : (Instr.sliceAt 22 (.slice A n cap) none (some (.int .i64 (k : Int))) none).run Try.prog w = .ok (.slice A k cap) w := by
  have h0 : (if cap = 0 then A else A.map (·.add (0 * 21))) = A := by
    split
    · rfl
    · cases A with
      | none => rfl
      | some a => simp [Addr.add]
  simp only [Instr.sliceAt, Instr.slice, Sem.run_bind, run_underlying Try.underlying22, Result.andThen_ok, Instr.sliceBounds, Sem.run_pure, sizeOf46]
  have hb : ∀ code, (Instr.sliceBound (.int .i64 (k : Int)) cap code).run Try.prog w = .ok k w := fun code => by simp [Instr.sliceBound, asIntOf, hk]
  simp only [hb, Result.andThen_ok, Nat.sub_zero, h0]
theorem exec_head22 {o : Oper} {a : Act} {w : World} (x y : Operand) (ho : o.op = .slice 22 x none (some y) none) (A : Option Addr) (n cap k : Nat) (hx : a.eval x = .slice A n cap) (hy : a.eval y = .int .i64 (k : Int)) (hk : k ≤ cap) :
    (execOp a.eval o).run Try.prog w = .ok (.value (.slice A k cap)) w := by
  unfold execOp
  simp only [ho, hx, hy, Option.map_some, Option.map_none, Sem.run_bind, run_head22 w A n cap k hk, Result.andThen_ok, Sem.run_pure]
theorem RowV.take {w : World} {A : Option Addr} {n cap : Nat} {l : List Am} (h : RowV w A n cap l) {k : Nat} (hk : k ≤ n) : RowV w A k cap (l.take k) :=
  ⟨okR_take h.ok k, by rw [List.length_take, h.len]; omega, Nat.le_trans hk h.le, h.most, fun h0 => by
    obtain ⟨G, off, ha, hG, hr⟩ := h.at_ (by omega)
    refine ⟨G, off, ha, hG, fun i hi => ?_⟩
    rw [List.getElem_take]
    exact hr i (by rw [List.length_take] at hi; omega)⟩
set_option maxRecDepth 100000 in
theorem eq_nil43 (f : Fn) (ts caps : Array Value) (w : World) : (binOp .eql 43 (.func f ts caps) .nilFunc).run Try.prog w = .ok (.bool false) w := by
  have h : (Op.equalIn (9999 + 1) 43 (.func f ts caps) .nilFunc).run Try.prog w = .ok false w := by
    unfold Op.equalIn
    simp only [Sem.run_bind, run_underlying Try.underlying43, Result.andThen_ok, Sem.run_pure]
  show ((Op.equalIn (9999 + 1) 43 (.func f ts caps) .nilFunc) >>= fun b => pure (Value.bool b)).run Try.prog w = _
  simp only [Sem.run_bind, h, Result.andThen_ok, Sem.run_pure]
set_option maxRecDepth 100000 in
set_option maxHeartbeats 8000000 in
theorem latAll_is (A : Option Addr) (n cap : Nat) (ls : List (List Am)) (b : Int) (w : World) (h : RowsV w A n cap ls) (hb0 : 0 ≤ b) (hb1 : b < 256) : Calls Try.prog 5 #[.slice A n cap, .int .u8 b] w fun e w' => e = .returned (.bool true) ∧ Below w.heap.size w w' := by
  have H := Lib.hid h
  clear h
  have DD := Lib.hid (show ∀ W, Below w.heap.size w W → Calls Try.prog 7 #[] W fun e w' => e = .returned (.bool true) ∧ Below w.heap.size w w' from fun W hW => (alive_is W).mono (fun e w' h => ⟨h.1, step_ hW h.2⟩))
  by_cases hn : n ≤ 8
  · have hd : decide ((8 : Int) < (n : Int)) = false := decide_eq_false (by omega)
    go_enter Try.func5, Try.ntmps5
    go_wp2_with fail
    go_loopw [5] (fun i wr => ∃ j : Nat, j ≤ n ∧ i = .int .i64 j ∧ (∀ i, i < j → (ls.getD i []).length ≤ 40) ∧ Below w.heap.size w wr) (fun i _ => n - (intOf i).toNat)
    case atStart => exact ⟨0, Nat.zero_le _, rfl, fun i hi => absurd hi (Nat.not_lt_zero _), Below.refl _ _⟩
    case round =>
      obtain ⟨j, hj, rfl, hf, hb⟩ := hrel
      have HF := Lib.hid hf
      have BB := Lib.hid hb
      clear hf hb
      by_cases hlt : j < n
      · obtain ⟨G, p, D1, m1, c1, hE⟩ := (H.out.below BB.out).elem j hlt
        have E := Lib.hid hE
        have cell := hE.cell
        clear hE
        by_cases h4 : m1 ≤ 40
        · have hd4 : decide ((40 : Int) < (m1 : Int)) = false := decide_eq_false (by omega)
          have HN := Lib.hid (show ∀ i, i < j + 1 → (ls.getD i []).length ≤ 40 from fun i hi => by
            by_cases e : i = j
            · subst e; have := E.out.row.len; omega
            · exact HF.out i (by omega))
          clear h4
          go_wp2_with (first
            | go_skip
            | refine wpList_index40 rfl _ _ rfl A n cap G p j D1 m1 c1 _ _ rfl rfl (by first | rfl | omega) E.out ?_)
          go_roundw
          case rel => exact ⟨j + 1, by omega, by go_num, HN.out, BB.out⟩
          case measure => simp [intOf]; omega
        · have hd4 : decide ((40 : Int) < (m1 : Int)) = true := decide_eq_true (by omega)
          clear h4
          go_wp2_with (first
            | go_skip
            | refine wpList_index40 rfl _ _ rfl A n cap G p j D1 m1 c1 _ _ rfl rfl (by first | rfl | omega) E.out ?_)
          refine (DD.out _ BB.out).mono ?_
          rintro e w2 ⟨rfl, b2⟩
          have B2 := Lib.hid b2
          clear b2
          go_wp2_with fail
          go_ret
          exact ⟨rfl, B2.out⟩
      · obtain rfl : j = n := by omega
        have FF := Lib.hid (fewR_of H.out.len hn HF.out)
        go_wp2_with fail
        refine (refAll_is A j cap ls _ (H.out.below BB.out) FF.out).mono ?_
        rintro e w1 ⟨⟨D1, m1, c1, rfl, r1⟩, b1⟩
        have B1 := Lib.hid (step_ BB.out b1)
        have R1 := Lib.hid r1
        have LM := Lib.hid (show m1 ≤ 600 by have h9 := norm_len ls.flatten; rw [r1.len] at h9; have := FF.out.2; omega)
        have ST := Lib.hid (norm_st (okR_flat H.out.ok))
        clear r1 b1
        go_wp2_with fail
        obtain ⟨s, hs⟩ : ∃ s, norm ls.flatten = s := ⟨_, rfl⟩
        have HS := Lib.hid hs
        rw [hs] at R1 ST
        clear hs
        have Q7 := Lib.hid ((blk_alloc w1 3 [.int .i64 (b % 12)]).alloc (.cells #[.slice none 0 0] 22))
        have Q8 := Lib.hid (blk2 w1 (.cells #[.int .i64 (b % 12)] 3) 22 [.slice none 0 0])
        have QB := Lib.hid (step_ (new_below w1 (.cells #[.int .i64 (b % 12)] 3)) (new_below _ (.cells #[.slice none 0 0] 22)))
        refine (each_is D1 m1 c1 s _ (R1.out.below QB.out) LM.out).mono ?_
        rintro e w2 ⟨⟨Bs, D2, m2, c2, rfl, lbs, k2, r2⟩, b2⟩
        rw [norm_id ST.out] at r2
        have R2 := Lib.hid r2
        have K2 := Lib.hid k2
        have P7 := Lib.hid (Q7.out.below b2)
        have P8 := Lib.hid (Q8.out.below b2)
        have RA := Lib.hid ((R1.out.below QB.out).below b2)
        have B2 := Lib.hid (step_ (step_ B1.out QB.out) b2)
        have LBS := Lib.hid (show w1.heap.size + 2 ≤ Bs by simpa using lbs)
        have M2 := Lib.hid (show m2 = m1 by have h1 := r2.len; have h2 := R1.out.len; omega)
        clear r2 k2 b2 lbs Q7 Q8 QB
        have hnil := eq_nil43
        go_wp2_with fail
        refine (run_each Bs (w1.heap.size + 1) w1.heap.size D2 m2 c2 s (b % 12) _ (by have := M2.out; have := LM.out; omega) K2.out R2.out P8.out P7.out (by have := LBS.out; omega)).mono ?_
        rintro e w3 ⟨⟨v, rfl⟩, D3, m3, c3, g3, o3, n3⟩
        have G3 := Lib.hid g3
        have T3 := Lib.hid o3
        have B3 := Lib.hid (show Below w.heap.size w w3 from B2.out.trans (n3.below (by have := B1.out.size; omega) B2.out.size))
        have RB := Lib.hid (RA.out.only n3 P8.out)
        have c7 := (P7.out.only n3 (by omega)).cell (i := 0) rfl
        have RG := Lib.hid (show RowV w3 D3 m3 c3 (s.take m3) by
          obtain ⟨A9, n9, c9, e9, r9⟩ := o3.rowAt
          cases e9
          have h1 := r9.len
          have h2 := R1.out.len
          rw [List.length_take] at h1
          rw [show s.take m3 = s.take (max (b % 12) 1).toNat by rw [← h1, ← List.take_eq_take_min]]
          exact r9)
        have hmin : min (m1 : Int) (max (b % 12) 1) = (m3 : Int) := by
          obtain ⟨A9, n9, c9, e9, r9⟩ := o3.rowAt
          cases e9
          have h1 := r9.len
          have h2 := R1.out.len
          rw [List.length_take] at h1
          omega
        have M3 := Lib.hid (show m3 ≤ m1 by omega)
        have LC := Lib.hid (show m3 ≤ c1 by have := R1.out.le; omega)
        have LG := Lib.hid (show m3 ≤ 5000 by have := LM.out; omega)
        have RT := Lib.hid (RB.out.take M3.out)
        clear g3 o3 n3
        go_wp2_with fail
        have G4 := Lib.hid G3.out.drew
        have T4 := Lib.hid T3.out.drew
        have RC := Lib.hid RB.out.drew
        have S1 := Lib.hid (show Below w3.heap.size w3 w3.drew from below_drew (Below.refl _ _))
        refine wp_region_noPanic ?_
        refine wp_region_held_drew (S := fun W => Below w3.heap.size w3 W) (by kernel_rfl) S1.out (fun _ => ?_)
        refine wpAnyH_take (i := 0) (oi := { dst := some 45, op := Go.Op.move (Go.Operand.tmp 0), type := 40, pos := _, after := #[], guard := none }) (v := ?_) rfl (by kernel_rfl) (by kernel_rfl) (by kernel_rfl) (fun _ _ _ h => h) (Or.inl ⟨by rfl, ?_⟩) S1.out ?_
        rotate_left
        · intro W hW; (go_simp; try with_reducible rfl)
        try simp only [Act.put, List.setIfInBounds_toArray, List.set_cons_zero, List.set_cons_succ]
        refine wpAnyH_take (i := 2) (oi := { dst := some 47, op := Go.Op.move (Go.Operand.tmp 6), type := 22, pos := _, after := #[], guard := none }) (v := ?_) rfl (by kernel_rfl) (by kernel_rfl) (by kernel_rfl) (fun _ _ _ h => h) (Or.inl ⟨by rfl, ?_⟩) S1.out ?_
        rotate_left
        · intro W hW; (go_simp; try with_reducible rfl)
        try simp only [Act.put, List.setIfInBounds_toArray, List.set_cons_zero, List.set_cons_succ]
        refine wpAnyH_ready (rs := [1]) (by kernel_rfl) (by simp) ?_
        refine AllReadyH.cons (o := { dst := some 46, op := Go.Op.call { callee := Go.Callee.value (Go.Operand.func 26), args := #[Go.Operand.tmp 45], argTypes := #[40] }, type := 22, pos := _, after := #[{ on := 0, ground := Go.Ground.data }], guard := none }) rfl (fun K hK => ?_) AllReadyH.nil
        go_simp
        refine (all_is A j cap ls _ (H.out.below (step_ B3.out S1.out)) FF.out).mono ?_
        rintro e w5 ⟨⟨A5, n5, c5, rfl, r5⟩, b5⟩
        rw [HS.out] at r5
        have R5 := Lib.hid r5
        have S2 := Lib.hid (step_ S1.out b5)
        have L5 := Lib.hid (show n5 ≤ 5000 by have h1 := r5.len; have h2 := R1.out.len; have := LM.out; omega)
        clear b5 r5
        go_wp2_with fail
        refine hK.out _ _ ?_ (fun _ => ?_)
        · exact S2.out
        clear hK K
        try simp only [Act.put, List.setIfInBounds_toArray, List.set_cons_zero, List.set_cons_succ]
        refine wpAnyH_ready (rs := [3]) (by kernel_rfl) (by simp) ?_
        refine AllReadyH.cons (o := { dst := some 48, op := Go.Op.call { callee := Go.Callee.value (Go.Operand.func 12), args := #[Go.Operand.tmp 46, Go.Operand.tmp 47], argTypes := #[22, 22] }, type := 4, pos := _, after := #[{ on := 1, ground := Go.Ground.data }, { on := 2, ground := Go.Ground.data }, { on := 1, ground := Go.Ground.chain }], guard := none }) rfl (fun K hK => ?_) AllReadyH.nil
        go_simp
        refine (rows_is _ _ _ _ _ _ _ _ true _ R5.out (RB.out.below S2.out) L5.out (Lib.hid (decide_eq_true rfl))).mono ?_
        rintro e w6 ⟨rfl, b6⟩
        have S3 := Lib.hid (step_ S2.out b6)
        clear b6
        go_wp2_with fail
        refine hK.out _ _ ?_ (fun _ => ?_)
        · exact S3.out
        clear hK K
        try simp only [Act.put, List.setIfInBounds_toArray, List.set_cons_zero, List.set_cons_succ]
        refine wpAnyH_take (i := 4) (oi := { dst := some 49, op := Go.Op.move (Go.Operand.tmp 48), type := 4, pos := _, after := #[{ on := 3, ground := Go.Ground.data }, { on := 3, ground := Go.Ground.chain }], guard := none }) (v := ?_) rfl (by kernel_rfl) (by kernel_rfl) (by kernel_rfl) (fun _ _ _ h => h) (Or.inl ⟨by rfl, ?_⟩) S3.out ?_
        rotate_left
        · intro W hW; (go_simp; try with_reducible rfl)
        try simp only [Act.put, List.setIfInBounds_toArray, List.set_cons_zero, List.set_cons_succ]
        refine wpAnyH_take (i := 5) (oi := { dst := some 50, op := Go.Op.load 22 (Go.Operand.tmp 8), type := 22, pos := _, after := #[{ on := 4, ground := Go.Ground.guard }], guard := some (4, true) }) (v := .slice D3 m3 c3) rfl (by kernel_rfl) (by kernel_rfl) (by kernel_rfl) (fun _ _ _ h => h) (Or.inl ⟨by rfl, fun W hW => exec_load22 _ rfl (w1.heap.size + 1) D3 m3 c3 rfl (G3.out.below hW)⟩) S3.out ?_
        try simp only [Act.put, List.setIfInBounds_toArray, List.set_cons_zero, List.set_cons_succ]
        refine wpAnyH_take (i := 6) (oi := { dst := some 51, op := Go.Op.call { callee := Go.Callee.builtin Go.Builtin.len, args := #[Go.Operand.tmp 50], argTypes := #[22] }, type := 3, pos := _, after := #[{ on := 5, ground := Go.Ground.data }, { on := 4, ground := Go.Ground.guard }], guard := some (4, true) }) (v := ?_) rfl (by kernel_rfl) (by kernel_rfl) (by kernel_rfl) (fun _ _ _ h => h) (Or.inl ⟨by rfl, ?_⟩) S3.out ?_
        rotate_left
        · intro W hW; (go_simp; try with_reducible rfl)
        try simp only [Act.put, List.setIfInBounds_toArray, List.set_cons_zero, List.set_cons_succ]
        refine wpAnyH_take (i := 7) (oi := { dst := some 52, op := Go.Op.move (Go.Operand.tmp 10), type := 3, pos := _, after := #[{ on := 4, ground := Go.Ground.guard }], guard := some (4, true) }) (v := ?_) rfl (by kernel_rfl) (by kernel_rfl) (by kernel_rfl) (fun _ _ _ h => h) (Or.inl ⟨by rfl, ?_⟩) S3.out ?_
        rotate_left
        · intro W hW; (go_simp; try with_reducible rfl)
        try simp only [Act.put, List.setIfInBounds_toArray, List.set_cons_zero, List.set_cons_succ]
        refine wpAnyH_take (i := 8) (oi := { dst := some 53, op := Go.Op.binOp Go.BinOp.eql 3 (Go.Operand.tmp 51) (Go.Operand.tmp 52) 3, type := 4, pos := _, after := #[{ on := 6, ground := Go.Ground.data }, { on := 7, ground := Go.Ground.data }, { on := 4, ground := Go.Ground.guard }], guard := some (4, true) }) (v := ?_) rfl (by kernel_rfl) (by kernel_rfl) (by kernel_rfl) (fun _ _ _ h => h) (Or.inl ⟨by rfl, ?_⟩) S3.out ?_
        rotate_left
        · intro W hW; (go_simp; try with_reducible rfl)
        try simp only [Act.put, List.setIfInBounds_toArray, List.set_cons_zero, List.set_cons_succ]
        refine wpAnyH_take (i := 9) (oi := { dst := some 54, op := Go.Op.pick (Go.Operand.tmp 49) (Go.Operand.tmp 53) (Go.Operand.const (Go.Value.bool false)), type := 4, pos := _, after := #[{ on := 4, ground := Go.Ground.data }, { on := 8, ground := Go.Ground.data }], guard := none }) (v := ?_) rfl (by kernel_rfl) (by kernel_rfl) (by kernel_rfl) (fun _ _ _ h => h) (Or.inl ⟨by rfl, ?_⟩) S3.out ?_
        rotate_left
        · intro W hW; (go_simp; try with_reducible rfl)
        try simp only [Act.put, List.setIfInBounds_toArray, List.set_cons_zero, List.set_cons_succ]
        refine wpAnyH_take (i := 10) (oi := { dst := some 55, op := Go.Op.move (Go.Operand.tmp 54), type := 4, pos := _, after := #[{ on := 9, ground := Go.Ground.data }, { on := 4, ground := Go.Ground.chain }], guard := none }) (v := ?_) rfl (by kernel_rfl) (by kernel_rfl) (by kernel_rfl) (fun _ _ _ h => h) (Or.inl ⟨by rfl, ?_⟩) S3.out ?_
        rotate_left
        · intro W hW; (go_simp; try with_reducible rfl)
        try simp only [Act.put, List.setIfInBounds_toArray, List.set_cons_zero, List.set_cons_succ]
        refine wpAnyH_take (i := 11) (oi := { dst := some 56, op := Go.Op.load 22 (Go.Operand.tmp 8), type := 22, pos := _, after := #[{ on := 10, ground := Go.Ground.guard }], guard := some (10, true) }) (v := .slice D3 m3 c3) rfl (by kernel_rfl) (by kernel_rfl) (by kernel_rfl) (fun _ _ _ h => h) (Or.inl ⟨by rfl, fun W hW => exec_load22 _ rfl (w1.heap.size + 1) D3 m3 c3 rfl (G3.out.below hW)⟩) S3.out ?_
        try simp only [Act.put, List.setIfInBounds_toArray, List.set_cons_zero, List.set_cons_succ]
        refine wpAnyH_take (i := 12) (oi := { dst := some 57, op := Go.Op.move (Go.Operand.tmp 6), type := 22, pos := _, after := #[{ on := 10, ground := Go.Ground.guard }], guard := some (10, true) }) (v := ?_) rfl (by kernel_rfl) (by kernel_rfl) (by kernel_rfl) (fun _ _ _ h => h) (Or.inl ⟨by rfl, ?_⟩) S3.out ?_
        rotate_left
        · intro W hW; (go_simp; try with_reducible rfl)
        try simp only [Act.put, List.setIfInBounds_toArray, List.set_cons_zero, List.set_cons_succ]
        refine wpAnyH_take (i := 13) (oi := { dst := some 58, op := Go.Op.move (Go.Operand.tmp 10), type := 3, pos := _, after := #[{ on := 10, ground := Go.Ground.guard }], guard := some (10, true) }) (v := ?_) rfl (by kernel_rfl) (by kernel_rfl) (by kernel_rfl) (fun _ _ _ h => h) (Or.inl ⟨by rfl, ?_⟩) S3.out ?_
        rotate_left
        · intro W hW; (go_simp; try with_reducible rfl)
        try simp only [Act.put, List.setIfInBounds_toArray, List.set_cons_zero, List.set_cons_succ]
        refine wpAnyH_take (i := 14) (oi := { dst := some 59, op := Go.Op.slice 22 (Go.Operand.tmp 57) none (some (Go.Operand.tmp 58)) none, type := 22, pos := _, after := #[{ on := 12, ground := Go.Ground.data }, { on := 13, ground := Go.Ground.data }, { on := 10, ground := Go.Ground.guard }], guard := some (10, true) }) (v := .slice D1 m3 c1) rfl (by kernel_rfl) (by kernel_rfl) (by kernel_rfl) (fun _ _ _ h => h) (Or.inl ⟨by rfl, fun W hW => exec_head22 _ _ rfl D1 m1 c1 m3 rfl rfl LC.out⟩) S3.out ?_
        try simp only [Act.put, List.setIfInBounds_toArray, List.set_cons_zero, List.set_cons_succ]
        refine wpAnyH_ready (rs := [15]) (by kernel_rfl) (by simp) ?_
        refine AllReadyH.cons (o := { dst := some 60, op := Go.Op.call { callee := Go.Callee.value (Go.Operand.func 12), args := #[Go.Operand.tmp 56, Go.Operand.tmp 59], argTypes := #[22, 22] }, type := 4, pos := _, after := #[{ on := 11, ground := Go.Ground.data }, { on := 14, ground := Go.Ground.data }, { on := 10, ground := Go.Ground.chain }, { on := 10, ground := Go.Ground.guard }], guard := some (10, true) }) rfl (fun K hK => ?_) AllReadyH.nil
        go_simp
        refine (rows_is _ _ _ _ _ _ _ _ true _ (RG.out.below S3.out) (RT.out.below S3.out) LG.out (Lib.hid (decide_eq_true rfl))).mono ?_
        rintro e w7 ⟨rfl, b7⟩
        have S4 := Lib.hid (step_ S3.out b7)
        clear b7
        go_wp2_with fail
        refine hK.out _ _ ?_ (fun _ => ?_)
        · exact S4.out
        clear hK K
        try simp only [Act.put, List.setIfInBounds_toArray, List.set_cons_zero, List.set_cons_succ]
        refine wpAnyH_take (i := 16) (oi := { dst := some 61, op := Go.Op.pick (Go.Operand.tmp 55) (Go.Operand.tmp 60) (Go.Operand.const (Go.Value.bool false)), type := 4, pos := _, after := #[{ on := 10, ground := Go.Ground.data }, { on := 15, ground := Go.Ground.data }], guard := none }) (v := ?_) rfl (by kernel_rfl) (by kernel_rfl) (by kernel_rfl) (fun _ _ _ h => h) (Or.inl ⟨by rfl, ?_⟩) S4.out ?_
        rotate_left
        · intro W hW; (go_simp; try with_reducible rfl)
        try simp only [Act.put, List.setIfInBounds_toArray, List.set_cons_zero, List.set_cons_succ]
        refine wpAnyH_take (i := 17) (oi := { dst := some 62, op := Go.Op.move (Go.Operand.tmp 61), type := 4, pos := _, after := #[{ on := 16, ground := Go.Ground.data }, { on := 15, ground := Go.Ground.chain }], guard := none }) (v := ?_) rfl (by kernel_rfl) (by kernel_rfl) (by kernel_rfl) (fun _ _ _ h => h) (Or.inl ⟨by rfl, ?_⟩) S4.out ?_
        rotate_left
        · intro W hW; (go_simp; try with_reducible rfl)
        try simp only [Act.put, List.setIfInBounds_toArray, List.set_cons_zero, List.set_cons_succ]
        refine wpAnyH_ready (rs := [18]) (by kernel_rfl) (by simp) ?_
        refine AllReadyH.cons (o := { dst := some 63, op := Go.Op.call { callee := Go.Callee.value (Go.Operand.func 7), args := #[], argTypes := #[] }, type := 4, pos := _, after := #[{ on := 17, ground := Go.Ground.chain }, { on := 17, ground := Go.Ground.guard }], guard := some (17, true) }) rfl (fun K hK => ?_) AllReadyH.nil
        go_simp
        refine (alive_is _).mono ?_
        rintro e w8 ⟨rfl, b8⟩
        have S5 := Lib.hid (step_ S4.out b8)
        clear b8
        go_wp2_with fail
        refine hK.out _ _ ?_ (fun _ => ?_)
        · exact S5.out
        clear hK K
        try simp only [Act.put, List.setIfInBounds_toArray, List.set_cons_zero, List.set_cons_succ]
        refine wpAnyH_take (i := 19) (oi := { dst := some 64, op := Go.Op.pick (Go.Operand.tmp 62) (Go.Operand.tmp 63) (Go.Operand.const (Go.Value.bool false)), type := 4, pos := _, after := #[{ on := 17, ground := Go.Ground.data }, { on := 18, ground := Go.Ground.data }], guard := none }) (v := ?_) rfl (by kernel_rfl) (by kernel_rfl) (by kernel_rfl) (fun _ _ _ h => h) (Or.inl ⟨by rfl, ?_⟩) S5.out ?_
        rotate_left
        · intro W hW; (go_simp; try with_reducible rfl)
        try simp only [Act.put, List.setIfInBounds_toArray, List.set_cons_zero, List.set_cons_succ]
        refine wpAnyH_take (i := 20) (oi := { dst := some 4, op := Go.Op.assign (Go.Operand.tmp 64), type := 4, pos := _, after := #[{ on := 19, ground := Go.Ground.data }, { on := 18, ground := Go.Ground.chain }, { on := 0, ground := Go.Ground.phase }, { on := 1, ground := Go.Ground.phase }, { on := 2, ground := Go.Ground.phase }, { on := 3, ground := Go.Ground.phase }, { on := 4, ground := Go.Ground.phase }, { on := 5, ground := Go.Ground.phase }, { on := 6, ground := Go.Ground.phase }, { on := 7, ground := Go.Ground.phase }, { on := 8, ground := Go.Ground.phase }, { on := 9, ground := Go.Ground.phase }, { on := 10, ground := Go.Ground.phase }, { on := 11, ground := Go.Ground.phase }, { on := 12, ground := Go.Ground.phase }, { on := 13, ground := Go.Ground.phase }, { on := 14, ground := Go.Ground.phase }, { on := 15, ground := Go.Ground.phase }, { on := 16, ground := Go.Ground.phase }, { on := 17, ground := Go.Ground.phase }, { on := 18, ground := Go.Ground.phase }, { on := 19, ground := Go.Ground.phase }], guard := none }) (v := ?_) rfl (by kernel_rfl) (by kernel_rfl) (by kernel_rfl) (fun _ _ _ h => h) (Or.inl ⟨by rfl, ?_⟩) S5.out ?_
        rotate_left
        · intro W hW; (go_simp; try with_reducible rfl)
        try simp only [Act.put, List.setIfInBounds_toArray, List.set_cons_zero, List.set_cons_succ]
        refine wpAnyH_done (by kernel_rfl) ?_ _
        refine NoPanic.normal ?_
        go_wp2_with fail
        go_ret
        exact ⟨rfl, step_ B3.out S5.out⟩
  · have hd : decide ((8 : Int) < (n : Int)) = true := decide_eq_true (by omega)
    go_enter Try.func5, Try.ntmps5
    go_wp2_with (first | go_skip | fail)
    refine (DD.out _ (Below.refl _ _)).mono ?_
    rintro e w2 ⟨rfl, b2⟩
    have B2 := Lib.hid b2
    clear b2
    go_wp2_with fail
    go_ret
    exact ⟨rfl, B2.out⟩
end Go.Proofs.Ytkphpicfgpgkkaa
