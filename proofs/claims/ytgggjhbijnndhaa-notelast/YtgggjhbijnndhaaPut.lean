/- The contract of put of the reference. -/
import Derived.Test.YtgggjhbijnndhaaReadys
import Derived.Test.YtgggjhbijnndhaaRights
namespace Go.Proofs.Ytgggjhbijnndhaa
open Go.RowKit

set_option maxRecDepth 100000 in
set_option maxHeartbeats 4000000 in
theorem put_is (A : Option Addr) (n cap : Nat) (s : List Am) (a : Am) (w : World) (h : RowV w A n cap s) (hs : St s) (ha : a.Ok) (hn : n ≤ 1000) : Calls Try.prog 39 #[.slice A n cap, .agg a.cells.toArray] w (GivesR w (put s a)) := by
  have hz := zero32
  have H := Lib.hid h
  have HA := Lib.hid ha
  have HS := Lib.hid hs
  have Q0 := Lib.hid (blk_alloc w 63 a.cells)
  have B0 := Lib.hid (new_below w (.cells a.cells.toArray 63))
  have O0 := Lib.hid (ownR_nil (w.alloc (.cells a.cells.toArray 63)) (w.heap.size + 1))
  clear h ha hs
  go_enter Try.func39, Try.ntmps39
  go_wp2_with fail
  go_loopw [5, 6, 7] (fun v d i wr => ∃ (j : Nat) (D : Bool) (out : List Am), j ≤ n ∧ i = .int .i64 j ∧ d = .bool D ∧ OwnR wr (w.heap.size + 1) v out ∧ PutI s a j D out ∧ Below w.heap.size w wr ∧ Blk wr w.heap.size 63 a.cells) (fun _ _ i _ => n - (intOf i).toNat)
  case atStart => exact ⟨0, false, [], Nat.zero_le _, rfl, rfl, O0.out, PutI.start s a, B0.out, Q0.out⟩
  case round =>
    obtain ⟨j, D, out, hj, rfl, rfl, ho, hi, hb, hq⟩ := hrel
    have OO := Lib.hid ho
    have II := Lib.hid hi
    have BB := Lib.hid hb
    have QQ := Lib.hid hq
    have HB := Lib.hid (show w.heap.size + 1 ≤ wr.heap.size from hq.lt)
    have LL := Lib.hid (show out.length ≤ 5000 by have := hi.len; have := H.out.len; omega)
    clear ho hi hb hq
    by_cases hlt : j < n
    · obtain ⟨G, p, hE⟩ := H.out.elem j hlt
      have E0 := Lib.hid hE
      have T := Lib.hid (drop_getD (l := s) (j := j) (by have := H.out.len; omega))
      obtain ⟨x, hx⟩ : ∃ x, s.getD j azero = x := ⟨_, rfl⟩
      rw [hx] at E0 T
      clear hE hx
      have E := Lib.hid (E0.out.below BB.out)
      cases D with
      | false =>
        by_cases hkk : x.k = a.k
        · have HE := Lib.hid (show decide (x.k = a.k) = true from decide_eq_true hkk)
          have IN := Lib.hid (II.out.eq HS.out T.out hkk)
          clear hkk
          go_wp2_with fail
          refine region_later (by kernel_rfl) (by kernel_rfl) ?_
          go_big_quiet_step (fail)
          go_big_quiet_step (fail)
          (go_big_quiet_want; refine quiet_index _ _ rfl A n cap G p j x _ rfl rfl (by first | rfl | omega) E.out ?_; go_simp; go_big_quiet_on)
          go_big_quiet_step (fail)
          (go_big_quiet_want; refine quiet_load_kyx G p x.k _ rfl rfl (range_ak E.out.rg) E.out.blk E.out.ok.k.ml ?_; go_simp; go_big_quiet_on)
          go_big_quiet_step (fail)
          (go_big_quiet_want; refine quiet_load_kyx w.heap.size 0 a.k _ rfl rfl QQ.out.ak QQ.out.lt HA.out.k.ml ?_; go_simp; go_big_quiet_on)
          (go_big_quiet_want; refine quiet_eq_ky _ _ _ rfl x.k a.k true rfl rfl E.out.ok.k HA.out.k HE.out ?_; go_simp; go_big_quiet_on)
          refine wpQuiet_nil ?_
          intro w2 hw2
          replace E := Lib.hid (E.out.below hw2)
          replace QQ := Lib.hid (QQ.out.below hw2)
          replace OO := Lib.hid (OO.out.below hw2)
          replace BB := Lib.hid (step_ BB.out hw2)
          replace HB := Lib.hid (Nat.le_trans HB.out hw2.size)
          clear hw2
          go_wp2_with fail
          have S1 := Lib.hid (show Below (w.heap.size + 1) w2 w2.drew from below_drew (Below.refl _ _))
          refine wp_region_noPanic ?_
          refine wp_region_held_drew (S := fun W => Below (w.heap.size + 1) w2 W) (by kernel_rfl) S1.out (fun _ => ?_)
          refine wpAnyH_take (i := 0) (oi := { dst := some 22, op := Go.Op.move (Go.Operand.tmp 5), type := 22, pos := _, after := #[], guard := none }) (v := ?_) rfl (by kernel_rfl) (by kernel_rfl) (by kernel_rfl) (fun _ _ _ h => h) (Or.inl ⟨by rfl, ?_⟩) S1.out ?_
          rotate_left
          · intro W hW; (go_simp; try with_reducible rfl)
          try simp only [Act.put, List.setIfInBounds_toArray, List.set_cons_zero, List.set_cons_succ]
          refine wpAnyH_take (i := 1) (oi := { dst := some 23, op := Go.Op.fieldAddr 63 (Go.Operand.tmp 3) 0, type := 0, pos := _, after := #[], guard := none }) (v := ?_) rfl (by kernel_rfl) (by kernel_rfl) (by kernel_rfl) (fun _ _ _ h => h) (Or.inl ⟨by rfl, ?_⟩) S1.out ?_
          rotate_left
          · intro W hW; (go_simp; try with_reducible rfl)
          try simp only [Act.put, List.setIfInBounds_toArray, List.set_cons_zero, List.set_cons_succ]
          refine wpAnyH_take (i := 2) (oi := { dst := some 24, op := Go.Op.load 55 (Go.Operand.tmp 23), type := 55, pos := _, after := #[{ on := 1, ground := Go.Ground.data }], guard := none }) (v := .agg a.k.cells.toArray) rfl (by kernel_rfl) (by kernel_rfl) (by kernel_rfl) (fun _ _ _ h => h) (yieldsIf_load_mid (by rfl) 55 (.tmp 23) rfl w.heap.size 0 rfl a.k.cells _ (fun W hW => (QQ.out.upto hW (Nat.lt_succ_self _)).ak) Try.underlying55 rfl (size27 HA.out.k.ml)) S1.out ?_
          try simp only [Act.put, List.setIfInBounds_toArray, List.set_cons_zero, List.set_cons_succ]
          refine wpAnyH_take (i := 3) (oi := { dst := some 25, op := Go.Op.move (Go.Operand.tmp 0), type := 22, pos := _, after := #[], guard := none }) (v := ?_) rfl (by kernel_rfl) (by kernel_rfl) (by kernel_rfl) (fun _ _ _ h => h) (Or.inl ⟨by rfl, ?_⟩) S1.out ?_
          rotate_left
          · intro W hW; (go_simp; try with_reducible rfl)
          try simp only [Act.put, List.setIfInBounds_toArray, List.set_cons_zero, List.set_cons_succ]
          refine wpAnyH_take (i := 4) (oi := { dst := some 26, op := Go.Op.move (Go.Operand.tmp 7), type := 3, pos := _, after := #[], guard := none }) (v := ?_) rfl (by kernel_rfl) (by kernel_rfl) (by kernel_rfl) (fun _ _ _ h => h) (Or.inl ⟨by rfl, ?_⟩) S1.out ?_
          rotate_left
          · intro W hW; (go_simp; try with_reducible rfl)
          try simp only [Act.put, List.setIfInBounds_toArray, List.set_cons_zero, List.set_cons_succ]
          refine wpAnyH_take (i := 5) (oi := { dst := some 27, op := Go.Op.indexAddr 22 (Go.Operand.tmp 25) (Go.Operand.tmp 26), type := 0, pos := _, after := #[{ on := 3, ground := Go.Ground.data }, { on := 4, ground := Go.Ground.data }], guard := none }) (v := .pointer (some ⟨G, p, none⟩)) rfl (by kernel_rfl) (by kernel_rfl) (by kernel_rfl) (fun _ _ _ h => h) (Or.inl ⟨by rfl, fun W hW => exec_index _ _ rfl A n cap G p j x _ rfl rfl (by first | rfl | omega) E.out⟩) S1.out ?_
          try simp only [Act.put, List.setIfInBounds_toArray, List.set_cons_zero, List.set_cons_succ]
          refine wpAnyH_take (i := 6) (oi := { dst := some 28, op := Go.Op.fieldAddr 63 (Go.Operand.tmp 27) 1, type := 0, pos := _, after := #[{ on := 5, ground := Go.Ground.data }], guard := none }) (v := ?_) rfl (by kernel_rfl) (by kernel_rfl) (by kernel_rfl) (fun _ _ _ h => h) (Or.inl ⟨by rfl, ?_⟩) S1.out ?_
          rotate_left
          · intro W hW; (go_simp; try with_reducible rfl)
          try simp only [Act.put, List.setIfInBounds_toArray, List.set_cons_zero, List.set_cons_succ]
          refine wpAnyH_take (i := 7) (oi := { dst := some 29, op := Go.Op.load 38 (Go.Operand.tmp 28), type := 38, pos := _, after := #[{ on := 6, ground := Go.Ground.data }], guard := none }) (v := .agg x.v.cells.toArray) rfl (by kernel_rfl) (by kernel_rfl) (by kernel_rfl) (fun _ _ _ h => h) (yieldsIf_load_mid (by rfl) 38 (.tmp 28) rfl G (p + 12) rfl x.v.cells _ (fun W hW => range_av (E0.out.below (BB.out.trans (hW.mono (Nat.le_succ _)))).rg E.out.ok) Try.underlying38 rfl (size30 E.out.ok.v.tl)) S1.out ?_
          try simp only [Act.put, List.setIfInBounds_toArray, List.set_cons_zero, List.set_cons_succ]
          refine wpAnyH_take (i := 8) (oi := { dst := some 30, op := Go.Op.fieldAddr 63 (Go.Operand.tmp 3) 1, type := 0, pos := _, after := #[], guard := none }) (v := ?_) rfl (by kernel_rfl) (by kernel_rfl) (by kernel_rfl) (fun _ _ _ h => h) (Or.inl ⟨by rfl, ?_⟩) S1.out ?_
          rotate_left
          · intro W hW; (go_simp; try with_reducible rfl)
          try simp only [Act.put, List.setIfInBounds_toArray, List.set_cons_zero, List.set_cons_succ]
          refine wpAnyH_take (i := 9) (oi := { dst := some 31, op := Go.Op.load 38 (Go.Operand.tmp 30), type := 38, pos := _, after := #[{ on := 8, ground := Go.Ground.data }], guard := none }) (v := .agg a.v.cells.toArray) rfl (by kernel_rfl) (by kernel_rfl) (by kernel_rfl) (fun _ _ _ h => h) (yieldsIf_load_mid (by rfl) 38 (.tmp 30) rfl w.heap.size 12 rfl a.v.cells _ (fun W hW => (QQ.out.upto hW (Nat.lt_succ_self _)).av HA.out) Try.underlying38 rfl (size30 HA.out.v.tl)) S1.out ?_
          try simp only [Act.put, List.setIfInBounds_toArray, List.set_cons_zero, List.set_cons_succ]
          refine wpAnyH_ready (rs := [10]) (by kernel_rfl) (by simp) ?_
          refine AllReadyH.cons (o := { dst := some 32, op := Go.Op.call { callee := Go.Callee.value (Go.Operand.func 31), args := #[Go.Operand.tmp 29, Go.Operand.tmp 31], argTypes := #[38, 38] }, type := 38, pos := _, after := #[{ on := 7, ground := Go.Ground.data }, { on := 9, ground := Go.Ground.data }], guard := none }) rfl (fun K hK => ?_) AllReadyH.nil
          go_simp
          refine (refMore_is x.v a.v _ E.out.ok.v HA.out.v).mono ?_
          rintro e w3 ⟨rfl, b3⟩
          have S3 := Lib.hid (S1.out.trans (b3.mono HB.out))
          have O3 := Lib.hid (OO.out.drew.below b3)
          have H3 := Lib.hid (Nat.le_trans HB.out b3.size)
          clear b3
          go_wp2_with fail
          refine hK.out _ _ ?_ (fun _ => ?_)
          · exact S3.out
          clear hK K
          try simp only [Act.put, List.setIfInBounds_toArray, List.set_cons_zero, List.set_cons_succ]
          refine wpAnyH_take (i := 11) (oi := { dst := some 33, op := Go.Op.build 63 #[(0, Go.Operand.tmp 24), (1, Go.Operand.tmp 32)], type := 63, pos := _, after := #[{ on := 2, ground := Go.Ground.data }, { on := 10, ground := Go.Ground.data }], guard := none }) (v := .agg (⟨a.k, more x.v a.v⟩ : Am).cells.toArray) rfl (by kernel_rfl) (by kernel_rfl) (by kernel_rfl) (fun _ _ _ h => h) (Or.inl ⟨by rfl, fun W hW => exec_build 63 _ rfl [(0, .agg a.k.cells.toArray), (1, .agg (more x.v a.v).cells.toArray)] rfl _ (built46 a.k (more x.v a.v) HA.out.k.ml (more_ok E.out.ok.v HA.out.v).tl)⟩) S3.out ?_
          try simp only [Act.put, List.setIfInBounds_toArray, List.set_cons_zero, List.set_cons_succ]
          refine wpAnyH_ready (rs := [12]) (by kernel_rfl) (by simp) ?_
          refine ready_one46 (o := { dst := some 34, op := Go.Op.buildSlice 22 1 #[(0, Go.Operand.tmp 33)], type := 22, pos := _, after := #[{ on := 11, ground := Go.Ground.data }], guard := none }) rfl rfl _ rfl ⟨a.k, more x.v a.v⟩ rfl ⟨HA.out.k, more_ok E.out.ok.v HA.out.v⟩ (fun g4 w4 e4 N4 b4 => ?_) AllReadyH.nil
          refine ⟨S3.out.trans (b4.mono H3.out), ?_⟩
          try simp only [Act.put, List.setIfInBounds_toArray, List.set_cons_zero, List.set_cons_succ]
          refine wpAnyH_ready (rs := [13]) (by kernel_rfl) (by simp) ?_
          refine ready_app46 (o := { dst := some 35, op := Go.Op.call { callee := Go.Callee.builtin Go.Builtin.append, args := #[Go.Operand.tmp 22, Go.Operand.tmp 34], argTypes := #[22, 22] }, type := 22, pos := _, after := #[{ on := 0, ground := Go.Ground.data }, { on := 12, ground := Go.Ground.data }, { on := 10, ground := Go.Ground.chain }], guard := none }) rfl rfl _ _ rfl (w.heap.size + 1) _ out ⟨a.k, more x.v a.v⟩ g4 rfl rfl (O3.out.below b4) ⟨HA.out.k, more_ok E.out.ok.v HA.out.v⟩ N4 LL.out (Nat.le_trans H3.out b4.size) (fun D5 m5 c5 w5 e5 O5 b5 G5 => ?_) AllReadyH.nil
          refine ⟨(S3.out.trans (b4.mono H3.out)).trans b5, ?_⟩
          try simp only [Act.put, List.setIfInBounds_toArray, List.set_cons_zero, List.set_cons_succ]
          have S5 := Lib.hid ((S3.out.trans (b4.mono H3.out)).trans b5)
          have O5' := Lib.hid O5
          clear S3 O3 H3 N4 b4 O5 b5 G5
          refine wpAnyH_take (i := 14) (oi := { dst := some 5, op := Go.Op.assign (Go.Operand.tmp 35), type := 22, pos := _, after := #[{ on := 13, ground := Go.Ground.data }, { on := 13, ground := Go.Ground.chain }, { on := 0, ground := Go.Ground.phase }, { on := 1, ground := Go.Ground.phase }, { on := 2, ground := Go.Ground.phase }, { on := 3, ground := Go.Ground.phase }, { on := 4, ground := Go.Ground.phase }, { on := 5, ground := Go.Ground.phase }, { on := 6, ground := Go.Ground.phase }, { on := 7, ground := Go.Ground.phase }, { on := 8, ground := Go.Ground.phase }, { on := 9, ground := Go.Ground.phase }, { on := 10, ground := Go.Ground.phase }, { on := 11, ground := Go.Ground.phase }, { on := 12, ground := Go.Ground.phase }, { on := 13, ground := Go.Ground.phase }], guard := none }) (v := ?_) rfl (by kernel_rfl) (by kernel_rfl) (by kernel_rfl) (fun _ _ _ h => h) (Or.inl ⟨by rfl, ?_⟩) S5.out ?_
          rotate_left
          · intro W hW; (go_simp; try with_reducible rfl)
          try simp only [Act.put, List.setIfInBounds_toArray, List.set_cons_zero, List.set_cons_succ]
          refine wpAnyH_done (by kernel_rfl) ?_ _
          refine NoPanic.normal ?_
          go_wp2_with fail
          go_roundw
          case rel => exact ⟨j + 1, true, _, by omega, by go_num, rfl, O5'.out, IN.out, BB.out.trans (S5.out.mono (Nat.le_succ _)), QQ.out.upto S5.out (Nat.lt_succ_self _)⟩
          case measure => simp [intOf]; omega
        · have HE := Lib.hid (show decide (x.k = a.k) = false from decide_eq_false hkk)
          cases hl : a.k.less x.k with
          | true =>
            have HL := Lib.hid hl
            have IN := Lib.hid (II.out.less HS.out HA.out E.out.ok T.out hkk hl)
            have LM := Lib.hid (show (out ++ [a]).length ≤ 5000 by have := II.out.len; have := H.out.len; rw [List.length_append, List.length_singleton]; omega)
            clear hkk hl
            go_wp2_with fail
            refine region_later (by kernel_rfl) (by kernel_rfl) ?_
            go_big_quiet_step (fail)
            go_big_quiet_step (fail)
            (go_big_quiet_want; refine quiet_index _ _ rfl A n cap G p j x _ rfl rfl (by first | rfl | omega) E.out ?_; go_simp; go_big_quiet_on)
            go_big_quiet_step (fail)
            (go_big_quiet_want; refine quiet_load_kyx G p x.k _ rfl rfl (range_ak E.out.rg) E.out.blk E.out.ok.k.ml ?_; go_simp; go_big_quiet_on)
            go_big_quiet_step (fail)
            (go_big_quiet_want; refine quiet_load_kyx w.heap.size 0 a.k _ rfl rfl QQ.out.ak QQ.out.lt HA.out.k.ml ?_; go_simp; go_big_quiet_on)
            (go_big_quiet_want; refine quiet_eq_ky _ _ _ rfl x.k a.k false rfl rfl E.out.ok.k HA.out.k HE.out ?_; go_simp; go_big_quiet_on)
            refine wpQuiet_nil ?_
            intro w2 hw2
            replace E := Lib.hid (E.out.below hw2)
            replace QQ := Lib.hid (QQ.out.below hw2)
            replace OO := Lib.hid (OO.out.below hw2)
            replace BB := Lib.hid (step_ BB.out hw2)
            replace HB := Lib.hid (Nat.le_trans HB.out hw2.size)
            clear hw2
            go_wp2_with fail
            refine region_later (by kernel_rfl) (by kernel_rfl) ?_
            go_big_quiet_step (fail)
            go_big_quiet_step (fail)
            go_big_quiet_step (fail)
            go_big_quiet_step (fail)
            (go_big_quiet_want; refine quiet_load_kyx w.heap.size 0 a.k _ rfl rfl QQ.out.ak QQ.out.lt HA.out.k.ml ?_; go_simp; go_big_quiet_on)
            go_big_quiet_step (fail)
            go_big_quiet_step (fail)
            (go_big_quiet_want; refine quiet_index _ _ rfl A n cap G p j x _ rfl rfl (by first | rfl | omega) E.out ?_; go_simp; go_big_quiet_on)
            go_big_quiet_step (fail)
            (go_big_quiet_want; refine quiet_load_kyx G p x.k _ rfl rfl (range_ak E.out.rg) E.out.blk E.out.ok.k.ml ?_; go_simp; go_big_quiet_on)
            go_big_quiet_step (exact later_call (refLess_is a.k x.k true _ HA.out.k E.out.ok.k HL))
            go_big_quiet_step (fail)
            refine wpQuiet_nil ?_
            intro w3 hw3
            replace E := Lib.hid (E.out.below hw3)
            replace QQ := Lib.hid (QQ.out.below hw3)
            replace OO := Lib.hid (OO.out.below hw3)
            replace BB := Lib.hid (step_ BB.out hw3)
            replace HB := Lib.hid (Nat.le_trans HB.out hw3.size)
            clear hw3
            go_wp2_with (first
              | go_skip
              | refine wpList_load_am rfl _ rfl w.heap.size a rfl QQ.out HA.out ?_
              | (refine wpList_one46 rfl _ rfl a rfl HA.out ?_; intro g4 w4 e4 N4 B4)
              | (refine wpList_app rfl _ _ rfl (w.heap.size + 1) _ out a g4 rfl rfl (OO.out.below B4.out) HA.out N4.out LL.out (Nat.le_trans HB.out B4.out.size) ?_; intro D5 m5 c5 w5 e5 O5 B5 G5)
              | refine wpList_index rfl _ _ rfl A n cap G p j x _ rfl rfl (by first | rfl | omega) E.out ?_
              | refine wpList_load_amx rfl _ rfl G p x rfl (E0.out.below (BB.out.trans ((B4.out.mono (Nat.le_of_succ_le HB.out)).trans (B5.out.mono (Nat.le_succ _))))).rg E.out.ok ?_
              | (refine wpList_one46 rfl _ rfl x rfl E.out.ok ?_; intro g6 w6 e6 N6 B6)
              | (refine wpList_app rfl _ _ rfl (w.heap.size + 1) _ (out ++ [a]) x g6 rfl rfl (O5.out.below B6.out) E.out.ok N6.out LM.out (Nat.le_trans HB.out (Nat.le_trans B4.out.size (Nat.le_trans B5.out.size B6.out.size))) ?_; intro D7 m7 c7 w7 e7 O7 B7 G7))
            have U := Lib.hid ((B4.out.mono HB.out).trans (B5.out.trans ((B6.out.mono (Nat.le_trans HB.out (Nat.le_trans B4.out.size B5.out.size))).trans B7.out)))
            go_roundw
            case rel => exact ⟨j + 1, true, _, by omega, by go_num, rfl, O7.out, IN.out, BB.out.trans (U.out.mono (Nat.le_succ _)), QQ.out.upto U.out (Nat.lt_succ_self _)⟩
            case measure => simp [intOf]; omega
          | false =>
            have HL := Lib.hid hl
            have IN := Lib.hid (II.out.more T.out hkk hl)
            clear hkk hl
            go_wp2_with fail
            refine region_later (by kernel_rfl) (by kernel_rfl) ?_
            go_big_quiet_step (fail)
            go_big_quiet_step (fail)
            (go_big_quiet_want; refine quiet_index _ _ rfl A n cap G p j x _ rfl rfl (by first | rfl | omega) E.out ?_; go_simp; go_big_quiet_on)
            go_big_quiet_step (fail)
            (go_big_quiet_want; refine quiet_load_kyx G p x.k _ rfl rfl (range_ak E.out.rg) E.out.blk E.out.ok.k.ml ?_; go_simp; go_big_quiet_on)
            go_big_quiet_step (fail)
            (go_big_quiet_want; refine quiet_load_kyx w.heap.size 0 a.k _ rfl rfl QQ.out.ak QQ.out.lt HA.out.k.ml ?_; go_simp; go_big_quiet_on)
            (go_big_quiet_want; refine quiet_eq_ky _ _ _ rfl x.k a.k false rfl rfl E.out.ok.k HA.out.k HE.out ?_; go_simp; go_big_quiet_on)
            refine wpQuiet_nil ?_
            intro w2 hw2
            replace E := Lib.hid (E.out.below hw2)
            replace QQ := Lib.hid (QQ.out.below hw2)
            replace OO := Lib.hid (OO.out.below hw2)
            replace BB := Lib.hid (step_ BB.out hw2)
            replace HB := Lib.hid (Nat.le_trans HB.out hw2.size)
            clear hw2
            go_wp2_with fail
            refine region_later (by kernel_rfl) (by kernel_rfl) ?_
            go_big_quiet_step (fail)
            go_big_quiet_step (fail)
            go_big_quiet_step (fail)
            go_big_quiet_step (fail)
            (go_big_quiet_want; refine quiet_load_kyx w.heap.size 0 a.k _ rfl rfl QQ.out.ak QQ.out.lt HA.out.k.ml ?_; go_simp; go_big_quiet_on)
            go_big_quiet_step (fail)
            go_big_quiet_step (fail)
            (go_big_quiet_want; refine quiet_index _ _ rfl A n cap G p j x _ rfl rfl (by first | rfl | omega) E.out ?_; go_simp; go_big_quiet_on)
            go_big_quiet_step (fail)
            (go_big_quiet_want; refine quiet_load_kyx G p x.k _ rfl rfl (range_ak E.out.rg) E.out.blk E.out.ok.k.ml ?_; go_simp; go_big_quiet_on)
            go_big_quiet_step (exact later_call (refLess_is a.k x.k false _ HA.out.k E.out.ok.k HL))
            go_big_quiet_step (fail)
            refine wpQuiet_nil ?_
            intro w3 hw3
            replace E := Lib.hid (E.out.below hw3)
            replace QQ := Lib.hid (QQ.out.below hw3)
            replace OO := Lib.hid (OO.out.below hw3)
            replace BB := Lib.hid (step_ BB.out hw3)
            replace HB := Lib.hid (Nat.le_trans HB.out hw3.size)
            clear hw3
            go_wp2_with (first
              | go_skip
              | refine wpList_index rfl _ _ rfl A n cap G p j x _ rfl rfl (by first | rfl | omega) E.out ?_
              | refine wpList_load_amx rfl _ rfl G p x rfl E.out.rg E.out.ok ?_
              | (refine wpList_one46 rfl _ rfl x rfl E.out.ok ?_; intro g6 w6 e6 N6 B6)
              | (refine wpList_app rfl _ _ rfl (w.heap.size + 1) _ out x g6 rfl rfl (OO.out.below B6.out) E.out.ok N6.out LL.out (Nat.le_trans HB.out B6.out.size) ?_; intro D7 m7 c7 w7 e7 O7 B7 G7))
            have U := Lib.hid ((B6.out.mono HB.out).trans B7.out)
            go_roundw
            case rel => exact ⟨j + 1, false, _, by omega, by go_num, rfl, O7.out, IN.out, BB.out.trans (U.out.mono (Nat.le_succ _)), QQ.out.upto U.out (Nat.lt_succ_self _)⟩
            case measure => simp [intOf]; omega
      | true =>
        have HE := Lib.hid (show decide (x.k = a.k) = false from decide_eq_false (II.out.past T.out).1)
        have IN := Lib.hid (II.out.past T.out).2
        go_wp2_with fail
        refine region_later (by kernel_rfl) (by kernel_rfl) ?_
        go_big_quiet_step (fail)
        go_big_quiet_step (fail)
        (go_big_quiet_want; refine quiet_index _ _ rfl A n cap G p j x _ rfl rfl (by first | rfl | omega) E.out ?_; go_simp; go_big_quiet_on)
        go_big_quiet_step (fail)
        (go_big_quiet_want; refine quiet_load_kyx G p x.k _ rfl rfl (range_ak E.out.rg) E.out.blk E.out.ok.k.ml ?_; go_simp; go_big_quiet_on)
        go_big_quiet_step (fail)
        (go_big_quiet_want; refine quiet_load_kyx w.heap.size 0 a.k _ rfl rfl QQ.out.ak QQ.out.lt HA.out.k.ml ?_; go_simp; go_big_quiet_on)
        (go_big_quiet_want; refine quiet_eq_ky _ _ _ rfl x.k a.k false rfl rfl E.out.ok.k HA.out.k HE.out ?_; go_simp; go_big_quiet_on)
        refine wpQuiet_nil ?_
        intro w2 hw2
        replace E := Lib.hid (E.out.below hw2)
        replace QQ := Lib.hid (QQ.out.below hw2)
        replace OO := Lib.hid (OO.out.below hw2)
        replace BB := Lib.hid (step_ BB.out hw2)
        replace HB := Lib.hid (Nat.le_trans HB.out hw2.size)
        clear hw2
        go_wp2_with fail
        refine region_later (by kernel_rfl) (by kernel_rfl) ?_
        go_big_quiet_step (fail)
        go_big_quiet_step (fail)
        go_big_quiet_step (fail)
        go_big_quiet_step (fail)
        go_big_quiet_step (fail)
        go_big_quiet_step (fail)
        go_big_quiet_step (fail)
        go_big_quiet_step (fail)
        go_big_quiet_step (fail)
        go_big_quiet_step (fail)
        go_big_quiet_step (fail)
        go_big_quiet_step (fail)
        refine wpQuiet_nil ?_
        intro w3 hw3
        replace E := Lib.hid (E.out.below hw3)
        replace QQ := Lib.hid (QQ.out.below hw3)
        replace OO := Lib.hid (OO.out.below hw3)
        replace BB := Lib.hid (step_ BB.out hw3)
        replace HB := Lib.hid (Nat.le_trans HB.out hw3.size)
        clear hw3
        go_wp2_with (first
          | go_skip
          | refine wpList_index rfl _ _ rfl A n cap G p j x _ rfl rfl (by first | rfl | omega) E.out ?_
          | refine wpList_load_amx rfl _ rfl G p x rfl E.out.rg E.out.ok ?_
          | (refine wpList_one46 rfl _ rfl x rfl E.out.ok ?_; intro g6 w6 e6 N6 B6)
          | (refine wpList_app rfl _ _ rfl (w.heap.size + 1) _ out x g6 rfl rfl (OO.out.below B6.out) E.out.ok N6.out LL.out (Nat.le_trans HB.out B6.out.size) ?_; intro D7 m7 c7 w7 e7 O7 B7 G7))
        have U := Lib.hid ((B6.out.mono HB.out).trans B7.out)
        go_roundw
        case rel => exact ⟨j + 1, true, _, by omega, by go_num, rfl, O7.out, IN.out, BB.out.trans (U.out.mono (Nat.le_succ _)), QQ.out.upto U.out (Nat.lt_succ_self _)⟩
        case measure => simp [intOf]; omega
    · obtain rfl : j = n := by omega
      have II := Lib.hid (show PutI s a s.length D out from H.out.len.symm ▸ II.out)
      cases D with
      | true =>
        have HO := Lib.hid II.out.done
        go_wp2_with fail
        go_ret
        exact GivesR.own (by rw [← HO.out]; exact OO.out) BB.out
      | false =>
        have HO := Lib.hid II.out.last
        go_wp2_with (first
          | go_skip
          | refine wpList_load_am rfl _ rfl w.heap.size a rfl QQ.out HA.out ?_
          | (refine wpList_one46 rfl _ rfl a rfl HA.out ?_; intro g4 w4 e4 N4 B4)
          | (refine wpList_app rfl _ _ rfl (w.heap.size + 1) _ out a g4 rfl rfl (OO.out.below B4.out) HA.out N4.out LL.out (Nat.le_trans HB.out B4.out.size) ?_; intro D5 m5 c5 w5 e5 O5 B5 G5))
        go_ret
        exact GivesR.own (by rw [← HO.out]; exact O5.out) (BB.out.trans ((B4.out.mono (Nat.le_of_succ_le HB.out)).trans (B5.out.mono (Nat.le_succ _))))
end Go.Proofs.Ytgggjhbijnndhaa
