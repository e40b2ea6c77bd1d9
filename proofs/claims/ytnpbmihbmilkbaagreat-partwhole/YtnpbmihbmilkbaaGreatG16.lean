/- The contract of put of the reference. The contracts of Norm, Find and Same of the reference. The contract of Join of the reference. The contracts of Find and All of the reference; rows of rows. -/
import Derived.Test.YtnpbmihbmilkbaaGreatG01
import Derived.Test.YtnpbmihbmilkbaaGreatG11
import Derived.Test.YtnpbmihbmilkbaaGreatG15
namespace Go.Proofs.YtnpbmihbmilkbaaGreat
open Go.RowKit
set_option maxRecDepth 100000 in
set_option maxHeartbeats 4000000 in
theorem put_is (A : Option Addr) (n cap : Nat) (s : List Am) (a : Am) (w : World) (h : RowV w A n cap s) (hs : St s) (ha : a.Ok) (hn : n ≤ 1000) : Calls Tryz.prog 34 #[.slice A n cap, .agg a.cells.toArray] w (GivesR w (put s a)) := by
  have hz := zero32
  have H := Lib.hid h
  have HA := Lib.hid ha
  have HS := Lib.hid hs
  have Q0 := Lib.hid (blk_alloc w 50 a.cells)
  have B0 := Lib.hid (new_below w (.cells a.cells.toArray 50))
  have O0 := Lib.hid (ownR_nil (w.alloc (.cells a.cells.toArray 50)) (w.heap.size + 1))
  clear h ha hs
  go_enter Tryz.func34, Tryz.ntmps34
  go_wp2_with fail
  go_loopw [5, 6, 7] (fun v d i wr => ∃ (j : Nat) (D : Bool) (out : List Am), j ≤ n ∧ i = .int .i64 j ∧ d = .bool D ∧ OwnR wr (w.heap.size + 1) v out ∧ PutI s a j D out ∧ Below w.heap.size w wr ∧ Blk wr w.heap.size 50 a.cells) (fun _ _ i _ => n - (intOf i).toNat)
  case atStart => exact ⟨0, false, [], Nat.zero_le _, rfl, rfl, O0.out, PutI.start s a, B0.out, Q0.out⟩
  case round =>
    obtain ⟨j, D, out, hj, rfl, rfl, ho, hi, hb, hq⟩ := hrel
    have OO := Lib.hid ho
    have II := Lib.hid hi
    have BB := Lib.hid hb
    have QQ := Lib.hid hq
    have HB := Lib.hid (show w.heap.size + 1 ≤ wr.heap.size from hq.lt)
    have LL := Lib.hid (show out.length ≤ 5000 by have := hi.len; have := H.out.len; omega)
    clear ho hi hb hq
    by_cases hlt : j < n
    · obtain ⟨G, p, hE⟩ := H.out.elem j hlt
      have E0 := Lib.hid hE
      have T := Lib.hid (drop_getD (l := s) (j := j) (by have := H.out.len; omega))
      obtain ⟨x, hx⟩ : ∃ x, s.getD j azero = x := ⟨_, rfl⟩
      rw [hx] at E0 T
      clear hE hx
      have E := Lib.hid (E0.out.below BB.out)
      cases D with
      | false =>
        by_cases hkk : x.k = a.k
        · have HE := Lib.hid (show decide (x.k = a.k) = true from decide_eq_true hkk)
          have IN := Lib.hid (II.out.eq HS.out T.out hkk)
          clear hkk
          go_wp2_with fail
          refine region_later (by kernel_rfl) (by kernel_rfl) ?_
          go_big_quiet_step (fail)
          go_big_quiet_step (fail)
          (go_big_quiet_want; refine quiet_index _ _ rfl A n cap G p j x _ rfl rfl (by first | rfl | omega) E.out ?_; go_simp; go_big_quiet_on)
          go_big_quiet_step (fail)
          (go_big_quiet_want; refine quiet_load_kyx G p x.k _ rfl rfl (range_ak E.out.rg) E.out.blk E.out.ok.k.ml ?_; go_simp; go_big_quiet_on)
          go_big_quiet_step (fail)
          (go_big_quiet_want; refine quiet_load_kyx w.heap.size 0 a.k _ rfl rfl QQ.out.ak QQ.out.lt HA.out.k.ml ?_; go_simp; go_big_quiet_on)
          (go_big_quiet_want; refine quiet_eq_ky _ _ _ rfl x.k a.k true rfl rfl E.out.ok.k HA.out.k HE.out ?_; go_simp; go_big_quiet_on)
          refine wpQuiet_nil ?_
          intro w2 hw2
          replace E := Lib.hid (E.out.below hw2)
          replace QQ := Lib.hid (QQ.out.below hw2)
          replace OO := Lib.hid (OO.out.below hw2)
          replace BB := Lib.hid (step_ BB.out hw2)
          replace HB := Lib.hid (Nat.le_trans HB.out hw2.size)
          clear hw2
          go_wp2_with fail
          have S1 := Lib.hid (show Below (w.heap.size + 1) w2 w2.drew from below_drew (Below.refl _ _))
          refine wp_region_noPanic ?_
          refine wp_region_held_drew (S := fun W => Below (w.heap.size + 1) w2 W) (by kernel_rfl) S1.out (fun _ => ?_)
          refine tkm 0 rfl S1.out ?_; try simp only [Act.put, stA, stZ, stS]
          refine tkm 1 rfl S1.out ?_; try simp only [Act.put, stA, stZ, stS]
          refine tky 2 (.agg a.k.cells.toArray) rfl (yieldsIf_load_mid (by rfl) 48 (.tmp 23) rfl w.heap.size 0 rfl a.k.cells _ (fun W hW => (QQ.out.upto hW (Nat.lt_succ_self _)).ak) Tryz.underlying48 rfl (size27 HA.out.k.ml)) S1.out ?_; try simp only [Act.put, stA, stZ, stS]
          refine tkm 3 rfl S1.out ?_; try simp only [Act.put, stA, stZ, stS]
          refine tkm 4 rfl S1.out ?_; try simp only [Act.put, stA, stZ, stS]
          refine tkv 5 (.pointer (some ⟨G, p, none⟩)) rfl (fun W hW => exec_index _ _ rfl A n cap G p j x _ rfl rfl (by first | rfl | omega) E.out) S1.out ?_; try simp only [Act.put, stA, stZ, stS]
          refine tkm 6 rfl S1.out ?_; try simp only [Act.put, stA, stZ, stS]
          refine tky 7 (.agg x.v.cells.toArray) rfl (yieldsIf_load_mid (by rfl) 42 (.tmp 28) rfl G (p + 12) rfl x.v.cells _ (fun W hW => range_av (E0.out.below (BB.out.trans (hW.mono (Nat.le_succ _)))).rg E.out.ok) Tryz.underlying42 rfl (size30 E.out.ok.v.tl)) S1.out ?_; try simp only [Act.put, stA, stZ, stS]
          refine tkm 8 rfl S1.out ?_; try simp only [Act.put, stA, stZ, stS]
          refine tky 9 (.agg a.v.cells.toArray) rfl (yieldsIf_load_mid (by rfl) 42 (.tmp 30) rfl w.heap.size 12 rfl a.v.cells _ (fun W hW => (QQ.out.upto hW (Nat.lt_succ_self _)).av HA.out) Tryz.underlying42 rfl (size30 HA.out.v.tl)) S1.out ?_; try simp only [Act.put, stA, stZ, stS]
          refine rdy [10] ?_
          refine AllReadyH.cons (arR rfl) (fun K hK => ?_) AllReadyH.nil
          go_simp
          refine (refMore_is x.v a.v _ E.out.ok.v HA.out.v).mono ?_
          rintro e w3 ⟨rfl, b3⟩
          have S3 := Lib.hid (S1.out.trans (b3.mono HB.out))
          have O3 := Lib.hid (OO.out.drew.below b3)
          have H3 := Lib.hid (Nat.le_trans HB.out b3.size)
          clear b3
          go_wp2_with fail
          refine hK.out _ _ ?_ (fun _ => ?_)
          · exact S3.out
          clear hK K
          try simp only [Act.put, stA, stZ, stS]
          refine tkv 11 (.agg (⟨a.k, more x.v a.v⟩ : Am).cells.toArray) rfl (fun W hW => exec_build 50 _ rfl [(0, .agg a.k.cells.toArray), (1, .agg (more x.v a.v).cells.toArray)] rfl _ (built46 a.k (more x.v a.v) HA.out.k.ml (more_ok E.out.ok.v HA.out.v).tl)) S3.out ?_; try simp only [Act.put, stA, stZ, stS]
          refine rdy [12] ?_
          refine ready_one46 (arR rfl) rfl _ rfl ⟨a.k, more x.v a.v⟩ rfl ⟨HA.out.k, more_ok E.out.ok.v HA.out.v⟩ (fun g4 w4 e4 N4 b4 => ?_) AllReadyH.nil
          refine ⟨S3.out.trans (b4.mono H3.out), ?_⟩
          try simp only [Act.put, stA, stZ, stS]
          refine rdy [13] ?_
          refine ready_app46 (arR rfl) rfl _ _ rfl (w.heap.size + 1) _ out ⟨a.k, more x.v a.v⟩ g4 rfl rfl (O3.out.below b4) ⟨HA.out.k, more_ok E.out.ok.v HA.out.v⟩ N4 LL.out (Nat.le_trans H3.out b4.size) (fun D5 m5 c5 w5 e5 O5 b5 G5 => ?_) AllReadyH.nil
          refine ⟨(S3.out.trans (b4.mono H3.out)).trans b5, ?_⟩
          try simp only [Act.put, stA, stZ, stS]
          have S5 := Lib.hid ((S3.out.trans (b4.mono H3.out)).trans b5)
          have O5' := Lib.hid O5
          clear S3 O3 H3 N4 b4 O5 b5 G5
          refine tkm 14 rfl S5.out ?_; try simp only [Act.put, stA, stZ, stS]
          refine wpAnyH_done (by kernel_rfl) ?_ _
          refine NoPanic.normal ?_
          go_wp2_with fail
          go_roundw
          case rel => exact ⟨j + 1, true, _, by omega, by go_num, rfl, O5'.out, IN.out, BB.out.trans (S5.out.mono (Nat.le_succ _)), QQ.out.upto S5.out (Nat.lt_succ_self _)⟩
          case measure => simp [intOf]; omega
        · have HE := Lib.hid (show decide (x.k = a.k) = false from decide_eq_false hkk)
          cases hl : a.k.less x.k with
          | true =>
            have HL := Lib.hid hl
            have IN := Lib.hid (II.out.less HS.out HA.out E.out.ok T.out hkk hl)
            have LM := Lib.hid (show (out ++ [a]).length ≤ 5000 by have := II.out.len; have := H.out.len; rw [List.length_append, List.length_singleton]; omega)
            clear hkk hl
            go_wp2_with fail
            refine region_later (by kernel_rfl) (by kernel_rfl) ?_
            go_big_quiet_step (fail)
            go_big_quiet_step (fail)
            (go_big_quiet_want; refine quiet_index _ _ rfl A n cap G p j x _ rfl rfl (by first | rfl | omega) E.out ?_; go_simp; go_big_quiet_on)
            go_big_quiet_step (fail)
            (go_big_quiet_want; refine quiet_load_kyx G p x.k _ rfl rfl (range_ak E.out.rg) E.out.blk E.out.ok.k.ml ?_; go_simp; go_big_quiet_on)
            go_big_quiet_step (fail)
            (go_big_quiet_want; refine quiet_load_kyx w.heap.size 0 a.k _ rfl rfl QQ.out.ak QQ.out.lt HA.out.k.ml ?_; go_simp; go_big_quiet_on)
            (go_big_quiet_want; refine quiet_eq_ky _ _ _ rfl x.k a.k false rfl rfl E.out.ok.k HA.out.k HE.out ?_; go_simp; go_big_quiet_on)
            refine wpQuiet_nil ?_
            intro w2 hw2
            replace E := Lib.hid (E.out.below hw2)
            replace QQ := Lib.hid (QQ.out.below hw2)
            replace OO := Lib.hid (OO.out.below hw2)
            replace BB := Lib.hid (step_ BB.out hw2)
            replace HB := Lib.hid (Nat.le_trans HB.out hw2.size)
            clear hw2
            go_wp2_with fail
            refine region_later (by kernel_rfl) (by kernel_rfl) ?_
            go_big_quiet_step (fail)
            go_big_quiet_step (fail)
            go_big_quiet_step (fail)
            go_big_quiet_step (fail)
            (go_big_quiet_want; refine quiet_load_kyx w.heap.size 0 a.k _ rfl rfl QQ.out.ak QQ.out.lt HA.out.k.ml ?_; go_simp; go_big_quiet_on)
            go_big_quiet_step (fail)
            go_big_quiet_step (fail)
            (go_big_quiet_want; refine quiet_index _ _ rfl A n cap G p j x _ rfl rfl (by first | rfl | omega) E.out ?_; go_simp; go_big_quiet_on)
            go_big_quiet_step (fail)
            (go_big_quiet_want; refine quiet_load_kyx G p x.k _ rfl rfl (range_ak E.out.rg) E.out.blk E.out.ok.k.ml ?_; go_simp; go_big_quiet_on)
            go_big_quiet_step (exact later_call (refLess_is a.k x.k true _ HA.out.k E.out.ok.k HL))
            go_big_quiet_step (fail)
            refine wpQuiet_nil ?_
            intro w3 hw3
            replace E := Lib.hid (E.out.below hw3)
            replace QQ := Lib.hid (QQ.out.below hw3)
            replace OO := Lib.hid (OO.out.below hw3)
            replace BB := Lib.hid (step_ BB.out hw3)
            replace HB := Lib.hid (Nat.le_trans HB.out hw3.size)
            clear hw3
            go_wp2_with (first
              | go_skip
              | refine wpList_load_am rfl _ rfl w.heap.size a rfl QQ.out HA.out ?_
              | (refine wpList_one46 rfl _ rfl a rfl HA.out ?_; intro g4 w4 e4 N4 B4)
              | (refine wpList_app rfl _ _ rfl (w.heap.size + 1) _ out a g4 rfl rfl (OO.out.below B4.out) HA.out N4.out LL.out (Nat.le_trans HB.out B4.out.size) ?_; intro D5 m5 c5 w5 e5 O5 B5 G5)
              | refine wpList_index rfl _ _ rfl A n cap G p j x _ rfl rfl (by first | rfl | omega) E.out ?_
              | refine wpList_load_amx rfl _ rfl G p x rfl (E0.out.below (BB.out.trans ((B4.out.mono (Nat.le_of_succ_le HB.out)).trans (B5.out.mono (Nat.le_succ _))))).rg E.out.ok ?_
              | (refine wpList_one46 rfl _ rfl x rfl E.out.ok ?_; intro g6 w6 e6 N6 B6)
              | (refine wpList_app rfl _ _ rfl (w.heap.size + 1) _ (out ++ [a]) x g6 rfl rfl (O5.out.below B6.out) E.out.ok N6.out LM.out (Nat.le_trans HB.out (Nat.le_trans B4.out.size (Nat.le_trans B5.out.size B6.out.size))) ?_; intro D7 m7 c7 w7 e7 O7 B7 G7))
            have U := Lib.hid ((B4.out.mono HB.out).trans (B5.out.trans ((B6.out.mono (Nat.le_trans HB.out (Nat.le_trans B4.out.size B5.out.size))).trans B7.out)))
            go_roundw
            case rel => exact ⟨j + 1, true, _, by omega, by go_num, rfl, O7.out, IN.out, BB.out.trans (U.out.mono (Nat.le_succ _)), QQ.out.upto U.out (Nat.lt_succ_self _)⟩
            case measure => simp [intOf]; omega
          | false =>
            have HL := Lib.hid hl
            have IN := Lib.hid (II.out.more T.out hkk hl)
            clear hkk hl
            go_wp2_with fail
            refine region_later (by kernel_rfl) (by kernel_rfl) ?_
            go_big_quiet_step (fail)
            go_big_quiet_step (fail)
            (go_big_quiet_want; refine quiet_index _ _ rfl A n cap G p j x _ rfl rfl (by first | rfl | omega) E.out ?_; go_simp; go_big_quiet_on)
            go_big_quiet_step (fail)
            (go_big_quiet_want; refine quiet_load_kyx G p x.k _ rfl rfl (range_ak E.out.rg) E.out.blk E.out.ok.k.ml ?_; go_simp; go_big_quiet_on)
            go_big_quiet_step (fail)
            (go_big_quiet_want; refine quiet_load_kyx w.heap.size 0 a.k _ rfl rfl QQ.out.ak QQ.out.lt HA.out.k.ml ?_; go_simp; go_big_quiet_on)
            (go_big_quiet_want; refine quiet_eq_ky _ _ _ rfl x.k a.k false rfl rfl E.out.ok.k HA.out.k HE.out ?_; go_simp; go_big_quiet_on)
            refine wpQuiet_nil ?_
            intro w2 hw2
            replace E := Lib.hid (E.out.below hw2)
            replace QQ := Lib.hid (QQ.out.below hw2)
            replace OO := Lib.hid (OO.out.below hw2)
            replace BB := Lib.hid (step_ BB.out hw2)
            replace HB := Lib.hid (Nat.le_trans HB.out hw2.size)
            clear hw2
            go_wp2_with fail
            refine region_later (by kernel_rfl) (by kernel_rfl) ?_
            go_big_quiet_step (fail)
            go_big_quiet_step (fail)
            go_big_quiet_step (fail)
            go_big_quiet_step (fail)
            (go_big_quiet_want; refine quiet_load_kyx w.heap.size 0 a.k _ rfl rfl QQ.out.ak QQ.out.lt HA.out.k.ml ?_; go_simp; go_big_quiet_on)
            go_big_quiet_step (fail)
            go_big_quiet_step (fail)
            (go_big_quiet_want; refine quiet_index _ _ rfl A n cap G p j x _ rfl rfl (by first | rfl | omega) E.out ?_; go_simp; go_big_quiet_on)
            go_big_quiet_step (fail)
            (go_big_quiet_want; refine quiet_load_kyx G p x.k _ rfl rfl (range_ak E.out.rg) E.out.blk E.out.ok.k.ml ?_; go_simp; go_big_quiet_on)
            go_big_quiet_step (exact later_call (refLess_is a.k x.k false _ HA.out.k E.out.ok.k HL))
            go_big_quiet_step (fail)
            refine wpQuiet_nil ?_
            intro w3 hw3
            replace E := Lib.hid (E.out.below hw3)
            replace QQ := Lib.hid (QQ.out.below hw3)
            replace OO := Lib.hid (OO.out.below hw3)
            replace BB := Lib.hid (step_ BB.out hw3)
            replace HB := Lib.hid (Nat.le_trans HB.out hw3.size)
            clear hw3
            go_wp2_with (first
              | go_skip
              | refine wpList_index rfl _ _ rfl A n cap G p j x _ rfl rfl (by first | rfl | omega) E.out ?_
              | refine wpList_load_amx rfl _ rfl G p x rfl E.out.rg E.out.ok ?_
              | (refine wpList_one46 rfl _ rfl x rfl E.out.ok ?_; intro g6 w6 e6 N6 B6)
              | (refine wpList_app rfl _ _ rfl (w.heap.size + 1) _ out x g6 rfl rfl (OO.out.below B6.out) E.out.ok N6.out LL.out (Nat.le_trans HB.out B6.out.size) ?_; intro D7 m7 c7 w7 e7 O7 B7 G7))
            have U := Lib.hid ((B6.out.mono HB.out).trans B7.out)
            go_roundw
            case rel => exact ⟨j + 1, false, _, by omega, by go_num, rfl, O7.out, IN.out, BB.out.trans (U.out.mono (Nat.le_succ _)), QQ.out.upto U.out (Nat.lt_succ_self _)⟩
            case measure => simp [intOf]; omega
      | true =>
        have HE := Lib.hid (show decide (x.k = a.k) = false from decide_eq_false (II.out.past T.out).1)
        have IN := Lib.hid (II.out.past T.out).2
        go_wp2_with fail
        refine region_later (by kernel_rfl) (by kernel_rfl) ?_
        go_big_quiet_step (fail)
        go_big_quiet_step (fail)
        (go_big_quiet_want; refine quiet_index _ _ rfl A n cap G p j x _ rfl rfl (by first | rfl | omega) E.out ?_; go_simp; go_big_quiet_on)
        go_big_quiet_step (fail)
        (go_big_quiet_want; refine quiet_load_kyx G p x.k _ rfl rfl (range_ak E.out.rg) E.out.blk E.out.ok.k.ml ?_; go_simp; go_big_quiet_on)
        go_big_quiet_step (fail)
        (go_big_quiet_want; refine quiet_load_kyx w.heap.size 0 a.k _ rfl rfl QQ.out.ak QQ.out.lt HA.out.k.ml ?_; go_simp; go_big_quiet_on)
        (go_big_quiet_want; refine quiet_eq_ky _ _ _ rfl x.k a.k false rfl rfl E.out.ok.k HA.out.k HE.out ?_; go_simp; go_big_quiet_on)
        refine wpQuiet_nil ?_
        intro w2 hw2
        replace E := Lib.hid (E.out.below hw2)
        replace QQ := Lib.hid (QQ.out.below hw2)
        replace OO := Lib.hid (OO.out.below hw2)
        replace BB := Lib.hid (step_ BB.out hw2)
        replace HB := Lib.hid (Nat.le_trans HB.out hw2.size)
        clear hw2
        go_wp2_with fail
        refine region_later (by kernel_rfl) (by kernel_rfl) ?_
        go_big_quiet_step (fail)
        go_big_quiet_step (fail)
        go_big_quiet_step (fail)
        go_big_quiet_step (fail)
        go_big_quiet_step (fail)
        go_big_quiet_step (fail)
        go_big_quiet_step (fail)
        go_big_quiet_step (fail)
        go_big_quiet_step (fail)
        go_big_quiet_step (fail)
        go_big_quiet_step (fail)
        go_big_quiet_step (fail)
        refine wpQuiet_nil ?_
        intro w3 hw3
        replace E := Lib.hid (E.out.below hw3)
        replace QQ := Lib.hid (QQ.out.below hw3)
        replace OO := Lib.hid (OO.out.below hw3)
        replace BB := Lib.hid (step_ BB.out hw3)
        replace HB := Lib.hid (Nat.le_trans HB.out hw3.size)
        clear hw3
        go_wp2_with (first
          | go_skip
          | refine wpList_index rfl _ _ rfl A n cap G p j x _ rfl rfl (by first | rfl | omega) E.out ?_
          | refine wpList_load_amx rfl _ rfl G p x rfl E.out.rg E.out.ok ?_
          | (refine wpList_one46 rfl _ rfl x rfl E.out.ok ?_; intro g6 w6 e6 N6 B6)
          | (refine wpList_app rfl _ _ rfl (w.heap.size + 1) _ out x g6 rfl rfl (OO.out.below B6.out) E.out.ok N6.out LL.out (Nat.le_trans HB.out B6.out.size) ?_; intro D7 m7 c7 w7 e7 O7 B7 G7))
        have U := Lib.hid ((B6.out.mono HB.out).trans B7.out)
        go_roundw
        case rel => exact ⟨j + 1, true, _, by omega, by go_num, rfl, O7.out, IN.out, BB.out.trans (U.out.mono (Nat.le_succ _)), QQ.out.upto U.out (Nat.lt_succ_self _)⟩
        case measure => simp [intOf]; omega
    · obtain rfl : j = n := by omega
      have II := Lib.hid (show PutI s a s.length D out from H.out.len.symm ▸ II.out)
      cases D with
      | true =>
        have HO := Lib.hid II.out.done
        go_wp2_with fail
        go_ret
        exact GivesR.own (by rw [← HO.out]; exact OO.out) BB.out
      | false =>
        have HO := Lib.hid II.out.last
        go_wp2_with (first
          | go_skip
          | refine wpList_load_am rfl _ rfl w.heap.size a rfl QQ.out HA.out ?_
          | (refine wpList_one46 rfl _ rfl a rfl HA.out ?_; intro g4 w4 e4 N4 B4)
          | (refine wpList_app rfl _ _ rfl (w.heap.size + 1) _ out a g4 rfl rfl (OO.out.below B4.out) HA.out N4.out LL.out (Nat.le_trans HB.out B4.out.size) ?_; intro D5 m5 c5 w5 e5 O5 B5 G5))
        go_ret
        exact GivesR.own (by rw [← HO.out]; exact O5.out) (BB.out.trans ((B4.out.mono (Nat.le_of_succ_le HB.out)).trans (B5.out.mono (Nat.le_succ _))))
end Go.Proofs.YtnpbmihbmilkbaaGreat
namespace Go.Proofs.YtnpbmihbmilkbaaGreat
open Go.RowKit
theorem norm_len_from : ∀ (l s : List Am), (l.foldl putR s).length ≤ s.length + l.length
  | [], s => by simp
  | a :: l, s => by
    have h1 := norm_len_from l (putR s a)
    have h2 : (putR s a).length ≤ s.length + 1 := by
      unfold putR
      split
      · exact put_len s a
      · omega
    simp only [List.foldl_cons, List.length_cons]
    omega
theorem norm_len (l : List Am) : (norm l).length ≤ l.length := by have := norm_len_from l []; rw [List.length_nil, Nat.zero_add] at this; exact this
theorem okR_take {l : List Am} (h : OkR l) (j : Nat) : OkR (l.take j) := h.sub (fun _ ha => List.mem_of_mem_take ha)
theorem rowV_nil (w : World) : RowV w none 0 0 [] := ⟨okR_nil, rfl, Nat.le_refl _, Nat.zero_le _, fun h => absurd h (Nat.lt_irrefl _)⟩
set_option maxRecDepth 100000 in
set_option maxHeartbeats 2000000 in
theorem refNorm_is (A : Option Addr) (n cap : Nat) (l : List Am) (w : World) (h : RowV w A n cap l) (hn : n ≤ 1000) : Calls Tryz.prog 21 #[.slice A n cap] w (GivesR w (norm l)) := by
  have H := Lib.hid h
  clear h
  cases hr : rightR l with
  | true =>
    have HR := Lib.hid hr
    clear hr
    go_enter Tryz.func21, Tryz.ntmps21
    go_wp2_with fail
    refine (refRightR_is A n cap l true _ H.out (by omega) HR).mono ?_
    rintro e w1 ⟨rfl, b1⟩
    have B1 := Lib.hid b1
    clear b1
    go_wp2_with fail
    go_ret
    exact ⟨⟨A, n, cap, rfl, by rw [norm_right H.out.ok HR.out]; exact H.out.below B1.out⟩, B1.out⟩
  | false =>
    have HR := Lib.hid hr
    clear hr
    go_enter Tryz.func21, Tryz.ntmps21
    go_wp2_with fail
    refine (refRightR_is A n cap l false _ H.out (by omega) HR).mono ?_
    rintro e w1 ⟨rfl, b1⟩
    have B1 := Lib.hid b1
    clear b1
    go_wp2_with fail
    go_loopw [3, 4] (fun v i wr => ∃ (j : Nat) (D : Option Addr) (m c : Nat), j ≤ n ∧ i = .int .i64 j ∧ v = .slice D m c ∧ RowV wr D m c (norm (l.take j)) ∧ Below w.heap.size w wr) (fun _ i _ => n - (intOf i).toNat)
    case atStart => exact ⟨0, none, 0, 0, Nat.zero_le _, rfl, rfl, rowV_nil _, B1.out⟩
    case round =>
      obtain ⟨j, D, m, c, hj, rfl, rfl, hv, hb⟩ := hrel
      have V := Lib.hid hv
      have BB := Lib.hid hb
      clear hv hb
      by_cases hlt : j < n
      · obtain ⟨G, p, hE⟩ := H.out.elem j hlt
        have E0 := Lib.hid hE
        have T := Lib.hid (take_getD (l := l) (j := j) (by have := H.out.len; omega))
        obtain ⟨x, hx⟩ : ∃ x, l.getD j azero = x := ⟨_, rfl⟩
        rw [hx] at E0 T
        clear hE hx
        have E := Lib.hid (E0.out.below BB.out)
        have hm : m ≤ 1000 := by
          have := norm_len (l.take j)
          rw [V.out.len, List.length_take] at this
          omega
        have MM := Lib.hid hm
        clear hm
        cases hr : x.right with
        | false =>
          have HX := Lib.hid hr
          have HS := Lib.hid (show norm (l.take (j + 1)) = norm (l.take j) by rw [T.out, norm_snoc, putR, if_neg (by rw [hr]; decide)])
          clear hr
          go_wp2_with (first
            | go_skip
            | refine wpList_index rfl _ _ rfl A n cap G p j x _ rfl rfl (by first | rfl | omega) E.out ?_
            | refine wpList_load_amx rfl _ rfl G p x rfl E.out.rg E.out.ok ?_)
          refine (refAright_is x false _ E.out.ok HX).mono ?_
          rintro e w2 ⟨rfl, b2⟩
          have B2 := Lib.hid b2
          clear b2
          go_wp2_with fail
          go_roundw
          case rel => exact ⟨j + 1, D, m, c, by omega, by go_num, rfl, by rw [HS.out]; exact V.out.below B2.out, step_ BB.out B2.out⟩
          case measure => simp [intOf]; omega
        | true =>
          have HX := Lib.hid hr
          have HS := Lib.hid (show norm (l.take (j + 1)) = put (norm (l.take j)) x by rw [T.out, norm_snoc, putR, if_pos hr])
          clear hr
          go_wp2_with (first
            | go_skip
            | refine wpList_index rfl _ _ rfl A n cap G p j x _ rfl rfl (by first | rfl | omega) E.out ?_
            | refine wpList_load_amx rfl _ rfl G p x rfl E.out.rg E.out.ok ?_)
          refine (refAright_is x true _ E.out.ok HX).mono ?_
          rintro e w2 ⟨rfl, b2⟩
          have B2 := Lib.hid b2
          have E2 := Lib.hid (E.out.below b2)
          clear b2
          go_wp2_with (first
            | go_skip
            | refine wpList_index rfl _ _ rfl A n cap G p j x _ rfl rfl (by first | rfl | omega) E2.out ?_
            | refine wpList_load_amx rfl _ rfl G p x rfl E2.out.rg E2.out.ok ?_)
          refine (put_is D m c (norm (l.take j)) x _ (V.out.below B2.out) (norm_st (okR_take H.out.ok j)) E2.out.ok MM.out).mono ?_
          rintro e w3 ⟨⟨D3, m3, c3, rfl, r3⟩, b3⟩
          have B3 := Lib.hid b3
          have R3 := Lib.hid r3
          clear b3 r3
          go_wp2_with fail
          go_roundw
          case rel => exact ⟨j + 1, D3, m3, c3, by omega, by go_num, rfl, by rw [HS.out]; exact R3.out, step_ BB.out (step_ B2.out B3.out)⟩
          case measure => simp [intOf]; omega
      · obtain rfl : j = n := by omega
        have HS := Lib.hid (show l.take j = l from List.take_of_length_le (by have := H.out.len; omega))
        go_wp2_with fail
        go_ret
        exact ⟨⟨D, m, c, rfl, by have := V.out; rw [HS.out] at this; exact this⟩, BB.out⟩
end Go.Proofs.YtnpbmihbmilkbaaGreat
namespace Go.Proofs.YtnpbmihbmilkbaaGreat
open Go.RowKit
def JI (X Y : List Am) (i k : Nat) (out : List Am) : Prop := out ++ merge (X.drop i) (Y.drop k) = merge X Y
theorem merge_nil (s : List Am) : merge s [] = s := by cases s <;> simp [merge]
theorem nil_merge (t : List Am) : merge [] t = t := by simp [merge]
theorem merge_len : ∀ (n : Nat) (s t : List Am), s.length + t.length = n → (merge s t).length ≤ n := by
  intro n
  induction n using Nat.strongRecOn with
  | ind n ih =>
    intro s t hn
    match s, t with
    | [], t => rw [nil_merge]; simp at hn; omega
    | x :: s, [] => rw [merge_nil]; simp at hn ⊢; omega
    | x :: s, y :: t =>
      have h1 := ih (s.length + (y :: t).length) (by simp at hn ⊢; omega) s (y :: t) rfl
      have h2 := ih ((x :: s).length + t.length) (by simp at hn ⊢; omega) (x :: s) t rfl
      have h3 := ih (s.length + t.length) (by simp at hn ⊢; omega) s t rfl
      rw [merge]
      simp only [List.length_cons] at *
      split
      · simp only [List.length_cons]; omega
      · split
        · simp only [List.length_cons]; omega
        · simp only [List.length_cons]; omega
section
variable {X Y : List Am} {i k : Nat} {out : List Am} {x y : Am}
theorem JI.len (h : JI X Y i k out) : out.length ≤ X.length + Y.length := by
  have := merge_len _ X Y rfl
  rw [← h, List.length_append] at this; omega
theorem JI.a (h : JI X Y i k out) (hx : X.drop i = x :: X.drop (i + 1)) (hy : Y.drop k = []) : JI X Y (i + 1) k (out ++ [x]) := by
  unfold JI at *; rw [← h, hx, hy, merge_nil, merge_nil]; simp
theorem JI.b (h : JI X Y i k out) (hx : X.drop i = []) (hy : Y.drop k = y :: Y.drop (k + 1)) : JI X Y i (k + 1) (out ++ [y]) := by
  unfold JI at *; rw [← h, hx, hy, nil_merge, nil_merge]; simp
theorem JI.lt (h : JI X Y i k out) (hx : X.drop i = x :: X.drop (i + 1)) (hy : Y.drop k = y :: Y.drop (k + 1)) (hl : x.k.less y.k = true) : JI X Y (i + 1) k (out ++ [x]) := by
  unfold JI at *; rw [← h, hx, hy, merge, if_pos hl]; simp
theorem JI.gt (h : JI X Y i k out) (hx : X.drop i = x :: X.drop (i + 1)) (hy : Y.drop k = y :: Y.drop (k + 1)) (hl : x.k.less y.k = false) (hg : y.k.less x.k = true) : JI X Y i (k + 1) (out ++ [y]) := by
  unfold JI at *; rw [← h, hx, hy, merge, if_neg (by rw [hl]; decide), if_pos hg]; simp
theorem JI.eq (h : JI X Y i k out) (hx : X.drop i = x :: X.drop (i + 1)) (hy : Y.drop k = y :: Y.drop (k + 1)) (hl : x.k.less y.k = false) (hg : y.k.less x.k = false) : JI X Y (i + 1) (k + 1) (out ++ [⟨x.k, more x.v y.v⟩]) := by
  unfold JI at *; rw [← h, hx, hy, merge, if_neg (by rw [hl]; decide), if_neg (by rw [hg]; decide)]; simp
theorem JI.done (h : JI X Y X.length Y.length out) : out = merge X Y := by
  unfold JI at *; rw [← h, List.drop_length, List.drop_length, merge_nil, List.append_nil]
end
end Go.Proofs.YtnpbmihbmilkbaaGreat
namespace Go.Proofs.YtnpbmihbmilkbaaGreat
open Go.RowKit
theorem ready_store_vl {ops : Array Oper} {Q : Exit → Act → World → Prop} {md : Region.Mode} {S : World → Prop} {fuel : Nat} {listed : Array Bool} {a : Act} {w : World} {i : Nat} {o : Oper} {rs : List Nat} (ho : ops[i]? = some o) (hg : o.guard = none) (x y : Operand) (hop : o.op = .store 42 x y) (g : Nat) (j k : Vl) (hx : a.eval x = .pointer (some ⟨g, 0, none⟩)) (hy : a.eval y = .agg k.cells.toArray) (hb : Blk w g 42 j.cells) (hj : j.t.length = 8) (hm : k.t.length = 8)
    (h : ∀ w', Blk w' g 42 k.cells → Only g w w' → S w' ∧ wpAnyH Tryz.prog md ops Q S fuel (listed.setIfInBounds i true) (a.put o.dst undef) w')
    (hs : AllReadyH Tryz.prog md ops Q S fuel listed a w rs) : AllReadyH Tryz.prog md ops Q S fuel listed a w (i :: rs) := by
  refine AllReadyH.cons ho (fun K hK => ?_) hs
  have hw : Region.wanted o (yielded ops a.tmps) = true := by simp [Region.wanted, hg]
  rw [if_pos hw]
  have hl : j.cells.length = k.cells.length := by rw [vcells_len hj, vcells_len hm]
  have hB := Blk.setCells k.cells 0 w j.cells hb
  rw [setL_all _ _ hl] at hB
  have H := h _ hB (Only.setCells k.cells 0 w)
  refine wp_store_mid 42 x y hop g 0 k.cells.toArray hx hy (hb.there 0 _ (by rw [List.size_toArray, hl]; omega)) (by rw [List.size_toArray]; exact size30 hm) (one30 k) ?_
  exact hK.out _ _ H.1 (fun _ => H.2)
structure RowsV (w : World) (A : Option Addr) (n cap : Nat) (ls : List (List Am)) : Prop where
  len : ls.length = n
  le : n ≤ cap
  most : cap ≤ maxLen
  at_ : 0 < n → ∃ G off, A = some ⟨G, off, none⟩ ∧ G < w.heap.size ∧ ∀ i, i < n → ∃ D m c, w.cell? ⟨G, off + i, none⟩ = some (.slice D m c) ∧ RowV w D m c (ls.getD i [])
theorem RowsV.below {w w' : World} {A : Option Addr} {n cap : Nat} {ls : List (List Am)} (h : RowsV w A n cap ls) (hb : Below w.heap.size w w') : RowsV w' A n cap ls :=
  ⟨h.len, h.le, h.most, fun h0 => by
    obtain ⟨G, off, ha, hG, hr⟩ := h.at_ h0
    refine ⟨G, off, ha, Nat.lt_of_lt_of_le hG hb.size, fun i hi => ?_⟩
    obtain ⟨D, m, c, h1, h2⟩ := hr i hi
    exact ⟨D, m, c, (hb.cell (p := ⟨G, off + i, none⟩) hG).trans h1, h2.below hb⟩⟩
theorem RowsV.ok {w : World} {A : Option Addr} {n cap : Nat} {ls : List (List Am)} (h : RowsV w A n cap ls) : ∀ x ∈ ls, OkR x := fun x hx => by
  obtain ⟨i, hi, rfl⟩ := List.getElem_of_mem hx
  obtain ⟨G, off, _, _, hr⟩ := h.at_ (by have := h.len; omega)
  obtain ⟨D, m, c, _, h2⟩ := hr i (by have := h.len; omega)
  have e : ls.getD i [] = ls[i] := by simp [List.getD, List.getElem?_eq_getElem hi]
  rw [e] at h2
  exact h2.ok
structure RElem (w : World) (A : Option Addr) (n G p i : Nat) (D : Option Addr) (m c : Nat) (l : List Am) : Prop where
  ad : ∃ off, A = some ⟨G, off, none⟩ ∧ p = off + i
  lt : i < n
  blk : G < w.heap.size
  cell : w.cell? ⟨G, p, none⟩ = some (.slice D m c)
  row : RowV w D m c l
theorem RowsV.elem {w : World} {A : Option Addr} {n cap : Nat} {ls : List (List Am)} (h : RowsV w A n cap ls) (i : Nat) (hi : i < n) : ∃ G p D m c, RElem w A n G p i D m c (ls.getD i []) := by
  obtain ⟨G, off, ha, hG, hr⟩ := h.at_ (by omega)
  obtain ⟨D, m, c, h1, h2⟩ := hr i hi
  exact ⟨G, off + i, D, m, c, ⟨off, ha, rfl⟩, hi, hG, h1, h2⟩
theorem RElem.below {w w' : World} {A : Option Addr} {n G p i : Nat} {D : Option Addr} {m c : Nat} {l : List Am} (h : RElem w A n G p i D m c l) (hb : Below w.heap.size w w') : RElem w' A n G p i D m c l :=
  ⟨h.ad, h.lt, Nat.lt_of_lt_of_le h.blk hb.size, (hb.cell (p := ⟨G, p, none⟩) h.blk).trans h.cell, h.row.below hb⟩
theorem exec_index40 {o : Oper} {a : Act} {w : World} (x y : Operand) (ho : o.op = .indexAddr 121 x y) (A : Option Addr) (n cap G p i : Nat) (D : Option Addr) (m c : Nat) (l : List Am) (z : Int) (hx : a.eval x = .slice A n cap) (hy : a.eval y = .int .i64 z) (hz : z = (i : Int)) {W : World} (h : RElem W A n G p i D m c l) :
    (execOp a.eval o).run Tryz.prog w = .ok (.value (.pointer (some ⟨G, p, none⟩))) w := by
  obtain ⟨off, hA, rfl⟩ := h.ad
  have hi := h.lt
  have hr : (Instr.indexAt 121 (.slice (some ⟨G, off, none⟩) n cap) (.int .i64 (i : Int))).run Tryz.prog w = .ok (.pointer (some ⟨G, off + i, none⟩)) w := by
    simp only [Instr.indexAt, asIntOf, Sem.run_bind, Sem.run_pure, Result.andThen_ok, run_underlying Tryz.underlying121]
    rw [if_pos ⟨by omega, by omega⟩]
    simp [Addr.add]
  unfold execOp
  simp only [ho, hx, hy, hz, hA, Sem.run_bind, hr, Result.andThen_ok, Sem.run_pure]
theorem wpList_index40 {ops : Array Oper} {rest : List Oper} {op : Oper} {a : Act} {w : World} {Q : Exit → Act → World → Prop} (hgd : op.guard = none) (x y : Operand) (ho : op.op = .indexAddr 121 x y) (A : Option Addr) (n cap G p i : Nat) (D : Option Addr) (m c : Nat) (l : List Am) (z : Int) (hx : a.eval x = .slice A n cap) (hy : a.eval y = .int .i64 z) (hz : z = (i : Int)) {W : World} (h : RElem W A n G p i D m c l)
    (hk : wpList Tryz.prog ops Q rest (a.put op.dst (.pointer (some ⟨G, p, none⟩))) w) : wpList Tryz.prog ops Q (op :: rest) a w :=
  wpList_val hgd _ (exec_index40 x y ho A n cap G p i D m c l z hx hy hz h) hk
theorem takeL_getD {ls : List (List Am)} {j : Nat} (h : j < ls.length) : ls.take (j + 1) = ls.take j ++ [ls.getD j []] := by
  rw [List.take_add_one]
  simp [List.getD, List.getElem?_eq_getElem h]
def FewR (ls : List (List Am)) : Prop := ls.length ≤ 100 ∧ ls.flatten.length ≤ 600
theorem FewR.take {ls : List (List Am)} (h : FewR ls) (j : Nat) : (ls.take j).flatten.length ≤ 600 := by
  have e : ls.flatten = (ls.take j).flatten ++ (ls.drop j).flatten := by rw [← List.flatten_append, List.take_append_drop]
  have := h.2
  rw [e, List.length_append] at this
  omega
theorem FewR.at_ {ls : List (List Am)} (h : FewR ls) (j : Nat) : (ls.getD j []).length ≤ 600 := by
  by_cases hj : j < ls.length
  · have e := h.take (j + 1)
    rw [takeL_getD hj, List.flatten_append, List.flatten_singleton, List.length_append] at e
    omega
  · simp only [List.getD, List.getElem?_eq_none (by omega : ls.length ≤ j), Option.getD_none]
    simp
end Go.Proofs.YtnpbmihbmilkbaaGreat
