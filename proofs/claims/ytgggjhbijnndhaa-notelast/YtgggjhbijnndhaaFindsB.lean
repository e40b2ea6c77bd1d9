/- The contracts of find and of Rows of the reference. The contracts of Find and All of the reference; rows of rows. -/
import Derived.Test.YtgggjhbijnndhaaRefAll
namespace Go.Proofs.Ytgggjhbijnndhaa
open Go.RowKit

set_option maxRecDepth 100000 in
set_option maxHeartbeats 2000000 in
theorem find_is (A : Option Addr) (n cap : Nat) (l : List Am) (k : Ky) (o : Option Vl) (w : World) (h : RowV w A n cap l) (hk : k.Ok) (hn : n ≤ 5000) (ho : Hid (fnd l k = o)) : Calls Try.prog 35 #[.slice A n cap, .agg k.cells.toArray] w (GivesV w o) := by
  have hz := zero30
  have H := Lib.hid h
  have HK := Lib.hid hk
  have Q0 := Lib.hid ((blk_alloc w 55 k.cells).alloc (.cells vzero.cells.toArray 38))
  have R0 := Lib.hid (blk2 w (.cells k.cells.toArray 55) 38 vzero.cells)
  have B0 := Lib.hid (step_ (new_below w (.cells k.cells.toArray 55)) (new_below _ (.cells vzero.cells.toArray 38)))
  clear h hk
  go_enter Try.func35, Try.ntmps35
  go_wp2_with fail
  go_loopw [6] (fun i wr => ∃ j : Nat, j ≤ n ∧ i = .int .i64 j ∧ fnd (l.drop j) k = o ∧ Below w.heap.size w wr ∧ Blk wr w.heap.size 55 k.cells ∧ Blk wr (w.heap.size + 1) 38 vzero.cells) (fun i _ => n - (intOf i).toNat)
  case atStart => exact ⟨0, Nat.zero_le _, rfl, ho.out, B0.out, Q0.out, R0.out⟩
  case round =>
    obtain ⟨j, hj, rfl, hf, hb, hq, hr⟩ := hrel
    have HF := Lib.hid hf
    have BB := Lib.hid hb
    have QQ := Lib.hid hq
    have RR := Lib.hid hr
    clear hf hb hq hr
    by_cases hlt : j < n
    · obtain ⟨G, p, hE⟩ := (H.out.below BB.out).elem j hlt
      have E := Lib.hid hE
      have T := Lib.hid (drop_getD (l := l) (j := j) (by have := H.out.len; omega))
      obtain ⟨x, hx⟩ : ∃ x, l.getD j azero = x := ⟨_, rfl⟩
      rw [hx] at E T
      clear hE hx
      by_cases hkk : x.k = k
      · have HE := Lib.hid (show decide (x.k = k) = true from decide_eq_true hkk)
        have HO := Lib.hid (show o = some x.v by rw [← HF.out, T.out, fnd, if_pos hkk])
        clear hkk
        go_wp2_with fail
        refine region_later (by kernel_rfl) (by kernel_rfl) ?_
        go_big_quiet_step (fail)
        go_big_quiet_step (fail)
        (go_big_quiet_want; refine quiet_index _ _ rfl A n cap G p j x _ rfl rfl (by first | rfl | omega) E.out ?_; go_simp; go_big_quiet_on)
        go_big_quiet_step (fail)
        (go_big_quiet_want; refine quiet_load_kyx G p x.k _ rfl rfl (range_ak E.out.rg) E.out.blk E.out.ok.k.ml ?_; go_simp; go_big_quiet_on)
        (go_big_quiet_want; refine quiet_load_kyx w.heap.size 0 k _ rfl rfl QQ.out.range QQ.out.lt HK.out.ml ?_; go_simp; go_big_quiet_on)
        (go_big_quiet_want; refine quiet_eq_ky _ _ _ rfl x.k k true rfl rfl E.out.ok.k HK.out HE.out ?_; go_simp; go_big_quiet_on)
        refine wpQuiet_nil ?_
        intro w2 hw2
        have E2 := Lib.hid (E.out.below hw2)
        have R2 := Lib.hid (RR.out.below hw2)
        have B2 := Lib.hid (step_ BB.out hw2)
        clear hw2
        go_wp2_with (first
          | go_skip
          | refine wpList_index rfl _ _ rfl A n cap G p j x _ rfl rfl (by first | rfl | omega) E2.out ?_
          | refine wpList_load_vl rfl _ rfl G (p + 12) x.v rfl (range_av E2.out.rg E2.out.ok) E2.out.ok.v.tl ?_
          | (refine wpList_store_vl rfl _ _ rfl (w.heap.size + 1) vzero x.v rfl rfl R2.out rfl E2.out.ok.v.tl ?_; intro w3 N3 O3))
        refine bodyPost_ret (results_vlB rfl _ _ (w.heap.size + 1) x.v rfl N3.out E2.out.ok.v.tl) rfl ?_
        exact ⟨by rw [HO.out]; rfl, B2.out.trans (O3.out.below (Nat.le_succ _) B2.out.size)⟩
      · have HE := Lib.hid (show decide (x.k = k) = false from decide_eq_false hkk)
        have HO := Lib.hid (show fnd (l.drop (j + 1)) k = o by rw [← HF.out, T.out]; unfold fnd; rw [if_neg hkk]; cases l.drop (j + 1) <;> rfl)
        clear hkk
        go_wp2_with fail
        refine region_later (by kernel_rfl) (by kernel_rfl) ?_
        go_big_quiet_step (fail)
        go_big_quiet_step (fail)
        (go_big_quiet_want; refine quiet_index _ _ rfl A n cap G p j x _ rfl rfl (by first | rfl | omega) E.out ?_; go_simp; go_big_quiet_on)
        go_big_quiet_step (fail)
        (go_big_quiet_want; refine quiet_load_kyx G p x.k _ rfl rfl (range_ak E.out.rg) E.out.blk E.out.ok.k.ml ?_; go_simp; go_big_quiet_on)
        (go_big_quiet_want; refine quiet_load_kyx w.heap.size 0 k _ rfl rfl QQ.out.range QQ.out.lt HK.out.ml ?_; go_simp; go_big_quiet_on)
        (go_big_quiet_want; refine quiet_eq_ky _ _ _ rfl x.k k false rfl rfl E.out.ok.k HK.out HE.out ?_; go_simp; go_big_quiet_on)
        refine wpQuiet_nil ?_
        intro w2 hw2
        have Q2 := Lib.hid (QQ.out.below hw2)
        have R2 := Lib.hid (RR.out.below hw2)
        have B2 := Lib.hid (step_ BB.out hw2)
        clear hw2
        go_wp2_with fail
        go_roundw
        case rel => exact ⟨j + 1, by omega, by go_num, HO.out, B2.out, Q2.out, R2.out⟩
        case measure => simp [intOf]; omega
    · obtain rfl : j = n := by omega
      have HO := Lib.hid (show o = none by rw [← HF.out, List.drop_of_length_le (by have := H.out.len; omega)]; rfl)
      go_wp2_with (first
          | go_skip
          | refine wpList_build rfl 38 _ rfl [] rfl _ built30_0 ?_
          | (refine wpList_store_vl rfl _ _ rfl (w.heap.size + 1) vzero vzero rfl rfl RR.out rfl rfl ?_; intro w3 N3 O3))
      refine bodyPost_ret (results_vlB rfl _ _ (w.heap.size + 1) vzero rfl N3.out rfl) rfl ?_
      exact ⟨by rw [HO.out]; rfl, BB.out.trans (O3.out.below (Nat.le_succ _) BB.out.size)⟩
set_option maxRecDepth 100000 in
set_option maxHeartbeats 2000000 in
theorem rows_other (A A2 : Option Addr) (n m cap cap2 : Nat) (w : World) (hnm : (n : Int) ≠ (m : Int)) : Calls Try.prog 14 #[.slice A n cap, .slice A2 m cap2] w fun e w' => e = .returned (.bool false) ∧ Below w.heap.size w w' := by
  have hd : (((n : Int)) == (m : Int)) = false := beq_eq_false_iff_ne.2 hnm
  clear hnm
  go_enter Try.func14, Try.ntmps14
  go_wp2_with fail
  go_ret
  exact ⟨rfl, Below.refl _ _⟩
set_option maxRecDepth 100000 in
set_option maxHeartbeats 2000000 in
theorem rows_len (A A2 : Option Addr) (n cap cap2 : Nat) (l m : List Am) (b : Bool) (w : World) (h : RowV w A n cap l) (h2 : RowV w A2 n cap2 m) (hn : n ≤ 5000) (hb : Hid (decide (l = m) = b)) : Calls Try.prog 14 #[.slice A n cap, .slice A2 n cap2] w fun e w' => e = .returned (.bool b) ∧ Below w.heap.size w w' := by
  have H := Lib.hid h
  have J := Lib.hid h2
  clear h h2
  go_enter Try.func14, Try.ntmps14
  go_wp2_with fail
  go_loopw [5] (fun i wr => ∃ j : Nat, j ≤ n ∧ i = .int .i64 j ∧ decide (l.drop j = m.drop j) = b ∧ Below w.heap.size w wr) (fun i _ => n - (intOf i).toNat)
  case atStart => exact ⟨0, Nat.zero_le _, rfl, hb.out, Below.refl _ _⟩
  case round =>
    obtain ⟨j, hj, rfl, hf, hb⟩ := hrel
    have HF := Lib.hid hf
    have BB := Lib.hid hb
    clear hf hb
    by_cases hlt : j < n
    · obtain ⟨G, p, hE⟩ := (H.out.below BB.out).elem j hlt
      obtain ⟨G2, p2, hE2⟩ := (J.out.below BB.out).elem j hlt
      have E := Lib.hid hE
      have F := Lib.hid hE2
      have T := Lib.hid (drop_getD (l := l) (j := j) (by have := H.out.len; omega))
      have U := Lib.hid (drop_getD (l := m) (j := j) (by have := J.out.len; omega))
      obtain ⟨x, hx⟩ : ∃ x, l.getD j azero = x := ⟨_, rfl⟩
      obtain ⟨y, hy⟩ : ∃ y, m.getD j azero = y := ⟨_, rfl⟩
      rw [hx] at E T
      rw [hy] at F U
      clear hE hx hE2 hy
      by_cases hkk : x = y
      · have HE := Lib.hid (show (!decide (x = y)) = false by simp [hkk])
        have HO := Lib.hid (show decide (l.drop (j + 1) = m.drop (j + 1)) = b by rw [← HF.out, T.out, U.out, hkk]; simp)
        clear hkk
        go_wp2_with fail
        refine region_later (by kernel_rfl) (by kernel_rfl) ?_
        go_big_quiet_step (fail)
        go_big_quiet_step (fail)
        (go_big_quiet_want; refine quiet_index _ _ rfl A n cap G p j x _ rfl rfl (by first | rfl | omega) E.out ?_; go_simp; go_big_quiet_on)
        (go_big_quiet_want; refine quiet_load_amx G p x _ rfl rfl E.out.rg E.out.blk E.out.ok ?_; go_simp; go_big_quiet_on)
        go_big_quiet_step (fail)
        go_big_quiet_step (fail)
        (go_big_quiet_want; refine quiet_index _ _ rfl A2 n cap2 G2 p2 j y _ rfl rfl (by first | rfl | omega) F.out ?_; go_simp; go_big_quiet_on)
        (go_big_quiet_want; refine quiet_load_amx G2 p2 y _ rfl rfl F.out.rg F.out.blk F.out.ok ?_; go_simp; go_big_quiet_on)
        (go_big_quiet_want; refine quiet_neq_am _ _ _ rfl x y false rfl rfl E.out.ok F.out.ok HE.out ?_; go_simp; go_big_quiet_on)
        refine wpQuiet_nil ?_
        intro w2 hw2
        have B2 := Lib.hid (step_ BB.out hw2)
        clear hw2
        go_wp2_with fail
        go_roundw
        case rel => exact ⟨j + 1, by omega, by go_num, HO.out, B2.out⟩
        case measure => simp [intOf]; omega
      · have HE := Lib.hid (show (!decide (x = y)) = true by simp [hkk])
        have HO := Lib.hid (show b = false by rw [← HF.out, T.out, U.out]; simp [hkk])
        clear hkk
        go_wp2_with fail
        refine region_later (by kernel_rfl) (by kernel_rfl) ?_
        go_big_quiet_step (fail)
        go_big_quiet_step (fail)
        (go_big_quiet_want; refine quiet_index _ _ rfl A n cap G p j x _ rfl rfl (by first | rfl | omega) E.out ?_; go_simp; go_big_quiet_on)
        (go_big_quiet_want; refine quiet_load_amx G p x _ rfl rfl E.out.rg E.out.blk E.out.ok ?_; go_simp; go_big_quiet_on)
        go_big_quiet_step (fail)
        go_big_quiet_step (fail)
        (go_big_quiet_want; refine quiet_index _ _ rfl A2 n cap2 G2 p2 j y _ rfl rfl (by first | rfl | omega) F.out ?_; go_simp; go_big_quiet_on)
        (go_big_quiet_want; refine quiet_load_amx G2 p2 y _ rfl rfl F.out.rg F.out.blk F.out.ok ?_; go_simp; go_big_quiet_on)
        (go_big_quiet_want; refine quiet_neq_am _ _ _ rfl x y true rfl rfl E.out.ok F.out.ok HE.out ?_; go_simp; go_big_quiet_on)
        refine wpQuiet_nil ?_
        intro w2 hw2
        have B2 := Lib.hid (step_ BB.out hw2)
        clear hw2
        go_wp2_with fail
        go_ret
        exact ⟨ret_bool HO.out.symm, B2.out⟩
    · obtain rfl : j = n := by omega
      have HO := Lib.hid (show b = true by rw [← HF.out, List.drop_of_length_le (by have := H.out.len; omega), List.drop_of_length_le (by have := J.out.len; omega)]; rfl)
      go_wp2_with fail
      go_ret
      exact ⟨ret_bool HO.out.symm, BB.out⟩
theorem rows_is (A A2 : Option Addr) (n m cap cap2 : Nat) (l k : List Am) (b : Bool) (w : World) (h : RowV w A n cap l) (h2 : RowV w A2 m cap2 k) (hn : n ≤ 5000) (hb : Hid (decide (l = k) = b)) : Calls Try.prog 14 #[.slice A n cap, .slice A2 m cap2] w fun e w' => e = .returned (.bool b) ∧ Below w.heap.size w w' := by
  by_cases e : n = m
  · subst e
    exact rows_len A A2 n cap cap2 l k b w h h2 hn hb
  · have hf : b = false := by
      rw [← hb.out]
      refine decide_eq_false (fun e2 => e ?_)
      rw [← h.len, ← h2.len, e2]
    rw [hf]
    exact rows_other A A2 n m cap cap2 w (by omega)
end Go.Proofs.Ytgggjhbijnndhaa
namespace Go.Proofs.Ytgggjhbijnndhaa
open Go.RowKit

set_option maxRecDepth 100000 in
set_option maxHeartbeats 2000000 in
theorem refFind_is (A : Option Addr) (n cap : Nat) (l : List Am) (k : Ky) (o : Option Vl) (w : World) (h : RowV w A n cap l) (hk : k.Ok) (hn : n ≤ 1000) (ho : Hid (gt l k = o)) : Calls Try.prog 21 #[.slice A n cap, .agg k.cells.toArray] w (GivesV w o) := by
  have hz := zero30
  have HO := Lib.hid (show fnd (norm l) k = o by rw [fnd_norm h.ok]; exact ho.out)
  have OV := Lib.hid (show (o.getD vzero).Ok from getD_ok (ho.out ▸ (gt_ok h.ok).o k))
  have H := Lib.hid h
  have HK := Lib.hid hk
  have Q0 := Lib.hid ((blk_alloc w 55 k.cells).alloc (.cells vzero.cells.toArray 38))
  have Z0 := Lib.hid (blk2 w (.cells k.cells.toArray 55) 38 vzero.cells)
  have B0 := Lib.hid (step_ (new_below w (.cells k.cells.toArray 55)) (new_below _ (.cells vzero.cells.toArray 38)))
  clear h hk ho
  go_enter Try.func21, Try.ntmps21
  go_wp2_with fail
  obtain ⟨V, hV⟩ : ∃ V, (w.alloc (.cells k.cells.toArray 55)).alloc (.cells vzero.cells.toArray 38) = V := ⟨_, rfl⟩
  rw [hV] at Q0 Z0 B0 ⊢
  clear hV
  have S1 := Lib.hid (show Below w.heap.size w V.drew ∧ Blk V.drew w.heap.size 55 k.cells from ⟨below_drew B0.out, Q0.out.drew⟩)
  have Z1 := Lib.hid Z0.out.drew
  refine wp_region_noPanic ?_
  refine wp_region_held_drew (S := fun W => Below w.heap.size w W ∧ Blk W w.heap.size 55 k.cells) (by kernel_rfl) S1.out (fun _ => ?_)
  refine wpAnyH_take (i := 0) (oi := { dst := some 6, op := Go.Op.move (Go.Operand.tmp 0), type := 22, pos := _, after := #[], guard := none }) (v := ?_) rfl (by kernel_rfl) (by kernel_rfl) (by kernel_rfl) (fun _ _ _ h => h) (Or.inl ⟨by rfl, ?_⟩) S1.out ?_
  rotate_left
  · intro W hW; (go_simp; try with_reducible rfl)
  try simp only [Act.put, List.setIfInBounds_toArray, List.set_cons_zero, List.set_cons_succ]
  refine wpAnyH_take (i := 2) (oi := { dst := some 8, op := Go.Op.load 55 (Go.Operand.tmp 3), type := 55, pos := _, after := #[], guard := none }) (v := .agg k.cells.toArray) rfl (by kernel_rfl) (by kernel_rfl) (by kernel_rfl) (fun _ _ _ h => h) (yieldsIf_load_mid (by rfl) 55 (.tmp 3) rfl w.heap.size 0 rfl k.cells _ (fun W hW => hW.2.range) Try.underlying55 rfl (size27 HK.out.ml)) S1.out ?_
  try simp only [Act.put, List.setIfInBounds_toArray, List.set_cons_zero, List.set_cons_succ]
  refine wpAnyH_ready (rs := [1]) (by kernel_rfl) (by simp) ?_
  refine AllReadyH.cons (o := { dst := some 7, op := Go.Op.call { callee := Go.Callee.value (Go.Operand.func 23), args := #[Go.Operand.tmp 6], argTypes := #[22] }, type := 22, pos := _, after := #[{ on := 0, ground := Go.Ground.data }], guard := none }) rfl (fun K hK => ?_) AllReadyH.nil
  go_simp
  refine (refNorm_is A n cap l _ (H.out.below S1.out.1) hn).mono ?_
  rintro e w1 ⟨⟨A1, n1, c1, rfl, r1⟩, b1⟩
  have S2 := Lib.hid (show Below w.heap.size w w1 ∧ Blk w1 w.heap.size 55 k.cells from ⟨step_ S1.out.1 b1, S1.out.2.below b1⟩)
  have Z2 := Lib.hid (Z1.out.below b1)
  have R1 := Lib.hid r1
  have N1 := Lib.hid (show n1 ≤ 5000 by have := norm_len l; rw [R1.out.len, H.out.len] at this; omega)
  clear b1 r1
  go_wp2_with fail
  refine hK.out _ _ ?_ (fun _ => ?_)
  · exact S2.out
  clear hK K
  try simp only [Act.put, List.setIfInBounds_toArray, List.set_cons_zero, List.set_cons_succ]
  refine wpAnyH_ready (rs := [3]) (by kernel_rfl) (by simp) ?_
  refine AllReadyH.cons (o := { dst := some 9, op := Go.Op.call { callee := Go.Callee.value (Go.Operand.func 35), args := #[Go.Operand.tmp 7, Go.Operand.tmp 8], argTypes := #[22, 55] }, type := 58, pos := _, after := #[{ on := 1, ground := Go.Ground.data }, { on := 2, ground := Go.Ground.data }, { on := 1, ground := Go.Ground.chain }], guard := none }) rfl (fun K hK => ?_) AllReadyH.nil
  go_simp
  refine (find_is A1 n1 c1 (norm l) k o _ R1.out HK.out N1.out HO).mono ?_
  rintro e w2 ⟨rfl, b2⟩
  have S3 := Lib.hid (show Below w.heap.size w w2 ∧ Blk w2 w.heap.size 55 k.cells from ⟨step_ S2.out.1 b2, S2.out.2.below b2⟩)
  have Z3 := Lib.hid (Z2.out.below b2)
  clear b2
  go_wp2_with fail
  refine hK.out _ _ ?_ (fun _ => ?_)
  · exact S3.out
  clear hK K
  try simp only [Act.put, List.setIfInBounds_toArray, List.set_cons_zero, List.set_cons_succ]
  refine wpAnyH_take (i := 4) (oi := { dst := some 10, op := Go.Op.extract (Go.Operand.tmp 9) 0, type := 38, pos := _, after := #[{ on := 3, ground := Go.Ground.data }], guard := none }) (v := ?_) rfl (by kernel_rfl) (by kernel_rfl) (by kernel_rfl) (fun _ _ _ h => h) (Or.inl ⟨by rfl, ?_⟩) S3.out ?_
  rotate_left
  · intro W hW; (go_simp; try with_reducible rfl)
  try simp only [Act.put, List.setIfInBounds_toArray, List.set_cons_zero, List.set_cons_succ]
  refine wpAnyH_take (i := 5) (oi := { dst := some 11, op := Go.Op.extract (Go.Operand.tmp 9) 1, type := 4, pos := _, after := #[{ on := 3, ground := Go.Ground.data }], guard := none }) (v := ?_) rfl (by kernel_rfl) (by kernel_rfl) (by kernel_rfl) (fun _ _ _ h => h) (Or.inl ⟨by rfl, ?_⟩) S3.out ?_
  rotate_left
  · intro W hW; (go_simp; try with_reducible rfl)
  try simp only [Act.put, List.setIfInBounds_toArray, List.set_cons_zero, List.set_cons_succ]
  refine wpAnyH_ready (rs := [6]) (by kernel_rfl) (by simp) ?_
  refine ready_store_vl (o := { dst := none, op := Go.Op.store 38 (Go.Operand.tmp 4) (Go.Operand.tmp 10), type := 0, pos := _, after := #[{ on := 4, ground := Go.Ground.data }, { on := 3, ground := Go.Ground.chain }, { on := 0, ground := Go.Ground.phase }, { on := 1, ground := Go.Ground.phase }, { on := 2, ground := Go.Ground.phase }, { on := 3, ground := Go.Ground.phase }, { on := 4, ground := Go.Ground.phase }, { on := 5, ground := Go.Ground.phase }], guard := none }) rfl rfl _ _ rfl (w.heap.size + 1) vzero (o.getD vzero) rfl rfl Z3.out rfl OV.out.tl (fun w3 N3 O3 => ?_) AllReadyH.nil
  have S4 := Lib.hid (show Below w.heap.size w w3 ∧ Blk w3 w.heap.size 55 k.cells from ⟨S3.out.1.trans (O3.below (Nat.le_succ _) S3.out.1.size), S3.out.2.only O3 (by omega)⟩)
  refine ⟨S4.out, ?_⟩
  simp only [Act.put]
  refine wpAnyH_take (i := 7) (oi := { dst := some 5, op := Go.Op.assign (Go.Operand.tmp 11), type := 4, pos := _, after := #[{ on := 5, ground := Go.Ground.data }, { on := 6, ground := Go.Ground.chain }, { on := 0, ground := Go.Ground.phase }, { on := 1, ground := Go.Ground.phase }, { on := 2, ground := Go.Ground.phase }, { on := 3, ground := Go.Ground.phase }, { on := 4, ground := Go.Ground.phase }, { on := 5, ground := Go.Ground.phase }, { on := 6, ground := Go.Ground.phase }], guard := none }) (v := ?_) rfl (by kernel_rfl) (by kernel_rfl) (by kernel_rfl) (fun _ _ _ h => h) (Or.inl ⟨by rfl, ?_⟩) S4.out ?_
  rotate_left
  · intro W hW; (go_simp; try with_reducible rfl)
  try simp only [Act.put, List.setIfInBounds_toArray, List.set_cons_zero, List.set_cons_succ]
  refine wpAnyH_done (by kernel_rfl) ?_ _
  refine NoPanic.normal ?_
  go_wp2_with fail
  refine bodyPost_ret (results_vlB rfl _ _ (w.heap.size + 1) (o.getD vzero) rfl N3 OV.out.tl) rfl ?_
  exact ⟨rfl, S4.out.1⟩

end Go.Proofs.Ytgggjhbijnndhaa
