/- The walk of VecCompares. -/
import Derived.Test.YtihkncnhkljgpaaJoins
namespace Go.Proofs.Ytihkncnhkljgpaa
open Go.RowKit

set_option maxRecDepth 100000 in
set_option maxHeartbeats 4000000 in
theorem vecCompares_is (a b : List Int) (w : World) (ha : a.length = 16) (hb : b.length = 16) : Calls Try.prog 3 #[.agg (vc a).toArray, .agg (vc b).toArray] w fun e w' => e = .returned (.bool true) ∧ Below w.heap.size w w' := by
  have HA := Lib.hid ha
  have HB := Lib.hid hb
  obtain ⟨r, hr⟩ : ∃ r, vle a b = r := ⟨_, rfl⟩
  obtain ⟨c, hc⟩ : ∃ c, vcmp a b = c := ⟨_, rfl⟩
  have HR := Lib.hid hr
  have HC := Lib.hid hc
  clear ha hb hr hc
  go_enter Try.func3, Try.ntmps3
  go_wp2_with fail
  have Q1 := Lib.hid ((blk_alloc w 23 (vc a)).alloc (.cells (vc b).toArray 23))
  have Q2 := Lib.hid (blk2 w (.cells (vc a).toArray 23) 23 (vc b))
  have B0 := Lib.hid (step_ (new_below w (.cells (vc a).toArray 23)) (new_below _ (.cells (vc b).toArray 23)))
  have SZ := Lib.hid (show w.heap.size + 1 < ((w.alloc (.cells (vc a).toArray 23)).alloc (.cells (vc b).toArray 23)).heap.size by simp)
  generalize ((w.alloc (.cells (vc a).toArray 23)).alloc (.cells (vc b).toArray 23)) = w0 at Q1 Q2 B0 SZ ⊢
  refine Code.wp_mono (Q := fun e x W => e = .normal ∧ ∃ g h, x = (⟨#[.agg (vc a).toArray, .agg (vc b).toArray, .pointer (some ⟨w.heap.size, 0, none⟩), .pointer (some ⟨w.heap.size + 1, 0, none⟩), .bool false, .pointer (some ⟨g, 0, none⟩), .pointer (some ⟨h, 0, none⟩), .agg (vc a).toArray, .agg (vc b).toArray, undef, undef, undef, undef, undef, undef, undef, undef, undef, undef, undef, undef, undef, undef, undef, undef, undef, undef, undef, undef, undef, undef, undef, undef, undef, undef, undef, undef, undef, undef, undef, undef, undef, undef, undef, undef, undef], []⟩ : Act) ∧ g ≠ h ∧ w0.heap.size ≤ g ∧ w0.heap.size ≤ h ∧ Blk W g 24 (vc a) ∧ Blk W h 24 (vc b) ∧ Below w0.heap.size w0 W) ?_ ?_
  rotate_left
  ·
    have S0 := Lib.hid (show Below w0.heap.size w0 w0.drew from below_drew (Below.refl _ _))
    refine wp_region_noPanic ?_
    refine wp_region_held_drew (S := fun W => Below w0.heap.size w0 W) (by kernel_rfl) S0.out (fun _ => ?_)
    refine wpAnyH_take (i := 0) (oi := { dst := some 7, op := Go.Op.load 23 (Go.Operand.tmp 2), type := 23, pos := _, after := #[], guard := none }) (v := .agg (vc a).toArray) rfl (by kernel_rfl) (by kernel_rfl) (by kernel_rfl) (fun _ _ _ h => h) (yieldsIf_load_mid (by rfl) 23 (.tmp 2) rfl w.heap.size 0 rfl (vc a) _ (fun W hW => (Q1.out.below hW).range) t23.und rfl (t23.size HA.out)) S0.out ?_
    try simp only [Act.put, List.setIfInBounds_toArray, List.set_cons_zero, List.set_cons_succ]
    refine wpAnyH_take (i := 1) (oi := { dst := some 8, op := Go.Op.load 23 (Go.Operand.tmp 3), type := 23, pos := _, after := #[{ on := 4, ground := Go.Ground.gcOnly Go.Departure.lateStores }], guard := none }) (v := .agg (vc b).toArray) rfl (by kernel_rfl) (by kernel_rfl) (by kernel_rfl) (fun _ _ _ h => h) (yieldsIf_load_mid (by rfl) 23 (.tmp 3) rfl (w.heap.size + 1) 0 rfl (vc b) _ (fun W hW => (Q2.out.below hW).range) t23.und rfl (t23.size HB.out)) S0.out ?_
    try simp only [Act.put, List.setIfInBounds_toArray, List.set_cons_zero, List.set_cons_succ]
    refine wpAnyH_ready (rs := [2, 3]) (by kernel_rfl) (by simp) ?_
    refine ready_allocV (o := { dst := some 5, op := Go.Op.alloc 24, type := 0, pos := _, after := #[], guard := none }) rfl rfl rfl (fun g1 W1 e1 z1 b1 => ⟨step_ S0.out b1, ?_⟩) ?_
    ·
      have S1 := Lib.hid (step_ S0.out b1)
      have Z1 := Lib.hid z1
      have L1 := Lib.hid (show w0.heap.size ≤ g1 from e1 ▸ S0.out.size)
      clear e1 z1 b1
      try simp only [Act.put, List.setIfInBounds_toArray, List.set_cons_zero, List.set_cons_succ]
      refine wpAnyH_ready (rs := [3]) (by kernel_rfl) (by simp) ?_
      refine ready_allocV (o := { dst := some 6, op := Go.Op.alloc 24, type := 0, pos := _, after := #[], guard := none }) rfl rfl rfl (fun g2 W2 e2 z2 b2 => ⟨step_ S1.out b2, ?_⟩) ?_
      ·
        have S2 := Lib.hid (step_ S1.out b2)
        have Z2 := Lib.hid z2
        have L2 := Lib.hid (show w0.heap.size ≤ g2 from e2 ▸ S1.out.size)
        have Y2s5 := Lib.hid (Z1.out.below b2)
        have NE2s5 := Lib.hid (show g1 ≠ g2 by have := Z1.out.lt; omega)
        clear e2 z2 b2
        try simp only [Act.put, List.setIfInBounds_toArray, List.set_cons_zero, List.set_cons_succ]
        refine wpAnyH_ready (rs := [4]) (by kernel_rfl) (by simp) ?_
        refine ready_storeV (o := { dst := none, op := Go.Op.store 24 (Go.Operand.tmp 5) (Go.Operand.tmp 7), type := 0, pos := _, after := #[{ on := 2, ground := Go.Ground.data }, { on := 0, ground := Go.Ground.data }, { on := 0, ground := Go.Ground.phase }, { on := 1, ground := Go.Ground.textOnly Go.Departure.lateStores }, { on := 2, ground := Go.Ground.phase }, { on := 3, ground := Go.Ground.phase }], guard := none }) rfl rfl _ _ rfl g1 vz a rfl rfl Y2s5.out rfl HA.out (fun W3 z3 o3 => ⟨S2.out.trans (o3.below L1.out S2.out.size), ?_⟩) ?_
        ·
          have S3 := Lib.hid (S2.out.trans (o3.below L1.out S2.out.size))
          have Z3 := Lib.hid z3
          have Y3s6 := Lib.hid (Z2.out.only o3 NE2s5.out.symm)
          clear z3 o3
          simp only [Act.put]
          refine wpAnyH_ready (rs := [5]) (by kernel_rfl) (by simp) ?_
          refine ready_storeV (o := { dst := none, op := Go.Op.store 24 (Go.Operand.tmp 6) (Go.Operand.tmp 8), type := 0, pos := _, after := #[{ on := 3, ground := Go.Ground.data }, { on := 1, ground := Go.Ground.data }, { on := 4, ground := Go.Ground.chain }, { on := 0, ground := Go.Ground.phase }, { on := 1, ground := Go.Ground.phase }, { on := 2, ground := Go.Ground.phase }, { on := 3, ground := Go.Ground.phase }, { on := 4, ground := Go.Ground.phase }], guard := none }) rfl rfl _ _ rfl g2 vz b rfl rfl Y3s6.out rfl HB.out (fun W4 z4 o4 => ⟨S3.out.trans (o4.below L2.out S3.out.size), ?_⟩) ?_
          ·
            have S4 := Lib.hid (S3.out.trans (o4.below L2.out S3.out.size))
            have Z4 := Lib.hid z4
            have Y4s5 := Lib.hid (Z3.out.only o4 NE2s5.out)
            clear z4 o4
            simp only [Act.put]
            refine wpAnyH_done (by kernel_rfl) ?_ _
            exact ⟨rfl, g1, g2, rfl, NE2s5.out, L1.out, L2.out, Y4s5.out, Z4.out, S4.out⟩
          exact AllReadyH.nil
        exact AllReadyH.nil
      exact AllReadyH.nil
    refine ready_allocV (o := { dst := some 6, op := Go.Op.alloc 24, type := 0, pos := _, after := #[], guard := none }) rfl rfl rfl (fun g5 W5 e5 z5 b5 => ⟨step_ S0.out b5, ?_⟩) ?_
    ·
      have S5 := Lib.hid (step_ S0.out b5)
      have Z5 := Lib.hid z5
      have L5 := Lib.hid (show w0.heap.size ≤ g5 from e5 ▸ S0.out.size)
      clear e5 z5 b5
      try simp only [Act.put, List.setIfInBounds_toArray, List.set_cons_zero, List.set_cons_succ]
      refine wpAnyH_ready (rs := [2]) (by kernel_rfl) (by simp) ?_
      refine ready_allocV (o := { dst := some 5, op := Go.Op.alloc 24, type := 0, pos := _, after := #[], guard := none }) rfl rfl rfl (fun g6 W6 e6 z6 b6 => ⟨step_ S5.out b6, ?_⟩) ?_
      ·
        have S6 := Lib.hid (step_ S5.out b6)
        have Z6 := Lib.hid z6
        have L6 := Lib.hid (show w0.heap.size ≤ g6 from e6 ▸ S5.out.size)
        have Y6s6 := Lib.hid (Z5.out.below b6)
        have NE6s6 := Lib.hid (show g5 ≠ g6 by have := Z5.out.lt; omega)
        clear e6 z6 b6
        try simp only [Act.put, List.setIfInBounds_toArray, List.set_cons_zero, List.set_cons_succ]
        refine wpAnyH_ready (rs := [4]) (by kernel_rfl) (by simp) ?_
        refine ready_storeV (o := { dst := none, op := Go.Op.store 24 (Go.Operand.tmp 5) (Go.Operand.tmp 7), type := 0, pos := _, after := #[{ on := 2, ground := Go.Ground.data }, { on := 0, ground := Go.Ground.data }, { on := 0, ground := Go.Ground.phase }, { on := 1, ground := Go.Ground.textOnly Go.Departure.lateStores }, { on := 2, ground := Go.Ground.phase }, { on := 3, ground := Go.Ground.phase }], guard := none }) rfl rfl _ _ rfl g6 vz a rfl rfl Z6.out rfl HA.out (fun W7 z7 o7 => ⟨S6.out.trans (o7.below L6.out S6.out.size), ?_⟩) ?_
        ·
          have S7 := Lib.hid (S6.out.trans (o7.below L6.out S6.out.size))
          have Z7 := Lib.hid z7
          have Y7s6 := Lib.hid (Y6s6.out.only o7 NE6s6.out)
          clear z7 o7
          simp only [Act.put]
          refine wpAnyH_ready (rs := [5]) (by kernel_rfl) (by simp) ?_
          refine ready_storeV (o := { dst := none, op := Go.Op.store 24 (Go.Operand.tmp 6) (Go.Operand.tmp 8), type := 0, pos := _, after := #[{ on := 3, ground := Go.Ground.data }, { on := 1, ground := Go.Ground.data }, { on := 4, ground := Go.Ground.chain }, { on := 0, ground := Go.Ground.phase }, { on := 1, ground := Go.Ground.phase }, { on := 2, ground := Go.Ground.phase }, { on := 3, ground := Go.Ground.phase }, { on := 4, ground := Go.Ground.phase }], guard := none }) rfl rfl _ _ rfl g5 vz b rfl rfl Y7s6.out rfl HB.out (fun W8 z8 o8 => ⟨S7.out.trans (o8.below L5.out S7.out.size), ?_⟩) ?_
          ·
            have S8 := Lib.hid (S7.out.trans (o8.below L5.out S7.out.size))
            have Z8 := Lib.hid z8
            have Y8s5 := Lib.hid (Z7.out.only o8 NE6s6.out.symm)
            clear z8 o8
            simp only [Act.put]
            refine wpAnyH_done (by kernel_rfl) ?_ _
            exact ⟨rfl, g6, g5, rfl, NE6s6.out.symm, L6.out, L5.out, Y8s5.out, Z8.out, S8.out⟩
          exact AllReadyH.nil
        exact AllReadyH.nil
      exact AllReadyH.nil
    exact AllReadyH.nil
  rintro e x W ⟨rfl, g, h, rfl, ne, l1, l2, ga, gb, bw⟩
  have P1 := Lib.hid (Q1.out.below bw)
  have P2 := Lib.hid (Q2.out.below bw)
  have GA := Lib.hid ga
  have GB := Lib.hid gb
  have B1 := Lib.hid (step_ B0.out bw)
  clear Q1 Q2 B0 SZ ne l1 l2 ga gb bw
  go_wp2_with fail
  refine region_later (by kernel_rfl) (by kernel_rfl) ?_
  (go_big_quiet_want; refine quiet_load_v t24 g a _ rfl rfl GA.out HA.out ?_; go_simp; go_big_quiet_on)
  (go_big_quiet_want; refine quiet_load_v t24 h b _ rfl rfl GB.out HB.out ?_; go_simp; go_big_quiet_on)
  go_big_quiet_step (exact later_call (joinV_is a b _ HA.out HB.out))
  (go_big_quiet_want; refine quiet_load_v t23 w.heap.size a _ rfl rfl P1.out HA.out ?_; go_simp; go_big_quiet_on)
  (go_big_quiet_want; refine quiet_load_v t23 (w.heap.size + 1) b _ rfl rfl P2.out HB.out ?_; go_simp; go_big_quiet_on)
  go_big_quiet_step (exact later_call (refJoin_v a b _ HA.out HB.out))
  (go_big_quiet_want; refine quiet_val (.bool true) (fun w => exec_eq_vr t23 _ _ _ rfl (vj a b) (vj a b) rfl rfl (vj_len HA.out HB.out) (vj_len HA.out HB.out) (beq_self_eq_true _)) ?_; go_simp; go_big_quiet_on)
  go_big_quiet_step (fail)
  (go_big_quiet_want; refine quiet_load_v t24 g a _ rfl rfl GA.out HA.out ?_; go_simp; go_big_quiet_on)
  (go_big_quiet_want; refine quiet_load_v t24 h b _ rfl rfl GB.out HB.out ?_; go_simp; go_big_quiet_on)
  go_big_quiet_step (exact later_call (meetV_is a b _ HA.out HB.out))
  (go_big_quiet_want; refine quiet_load_v t23 w.heap.size a _ rfl rfl P1.out HA.out ?_; go_simp; go_big_quiet_on)
  (go_big_quiet_want; refine quiet_load_v t23 (w.heap.size + 1) b _ rfl rfl P2.out HB.out ?_; go_simp; go_big_quiet_on)
  go_big_quiet_step (exact later_call (refMeet_v a b _ HA.out HB.out))
  (go_big_quiet_want; refine quiet_val (.bool true) (fun w => exec_eq_vr t23 _ _ _ rfl (vm a b) (vm a b) rfl rfl (vm_len HA.out HB.out) (vm_len HA.out HB.out) (beq_self_eq_true _)) ?_; go_simp; go_big_quiet_on)
  go_big_quiet_step (fail)
  go_big_quiet_step (fail)
  (go_big_quiet_want; refine quiet_load_v t24 g a _ rfl rfl GA.out HA.out ?_; go_simp; go_big_quiet_on)
  (go_big_quiet_want; refine quiet_load_v t24 h b _ rfl rfl GB.out HB.out ?_; go_simp; go_big_quiet_on)
  go_big_quiet_step (exact later_call (leqV_is a b r _ HA.out HB.out HR))
  (go_big_quiet_want; refine quiet_load_v t23 w.heap.size a _ rfl rfl P1.out HA.out ?_; go_simp; go_big_quiet_on)
  (go_big_quiet_want; refine quiet_load_v t23 (w.heap.size + 1) b _ rfl rfl P2.out HB.out ?_; go_simp; go_big_quiet_on)
  go_big_quiet_step (exact later_call (refLeq_v a b r _ HA.out HB.out HR))
  go_big_quiet_step (fail)
  go_big_quiet_step (fail)
  go_big_quiet_step (fail)
  (go_big_quiet_want; refine quiet_load_v t24 g a _ rfl rfl GA.out HA.out ?_; go_simp; go_big_quiet_on)
  (go_big_quiet_want; refine quiet_load_v t24 h b _ rfl rfl GB.out HB.out ?_; go_simp; go_big_quiet_on)
  go_big_quiet_step (exact later_call (compareV_is a b c _ HA.out HB.out HC))
  (go_big_quiet_want; refine quiet_load_v t23 w.heap.size a _ rfl rfl P1.out HA.out ?_; go_simp; go_big_quiet_on)
  (go_big_quiet_want; refine quiet_load_v t23 (w.heap.size + 1) b _ rfl rfl P2.out HB.out ?_; go_simp; go_big_quiet_on)
  go_big_quiet_step (exact later_call (refCompare_v a b c _ HA.out HB.out HC))
  go_big_quiet_step (fail)
  go_big_quiet_step (fail)
  go_big_quiet_step (fail)
  go_big_quiet_step (exact later_call (alive_is _))
  go_big_quiet_step (fail)
  go_big_quiet_step (fail)
  refine wpQuiet_nil ?_
  intro w5 hw5
  have B5 := Lib.hid (step_ B1.out hw5)
  clear hw5
  go_wp2_with fail
  go_ret
  exact ⟨rfl, B5.out⟩
end Go.Proofs.Ytihkncnhkljgpaa
