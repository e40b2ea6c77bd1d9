/- The walk of VecLaws. -/
import Derived.Test.YtihkncnhkljgpaaLawOf
import Derived.Test.YtihkncnhkljgpaaRefJoinR
namespace Go.Proofs.Ytihkncnhkljgpaa
open Go.RowKit

theorem range3 {W : World} {g : Nat} {x y z : List Int} (hx : x.length = 16) (hy : y.length = 16) (h : Blk W g 49 (vc x ++ (vc y ++ vc z))) : W.rangeAt g 0 (vc x) ∧ W.rangeAt g 16 (vc y) ∧ W.rangeAt g 32 (vc z) := by
  have lx := vc_len x
  have ly := vc_len y
  refine ⟨fun j v hv => ?_, fun j v hv => ?_, fun j v hv => ?_⟩
  · exact h.range j v (by rw [List.getElem?_append_left (List.getElem?_eq_some_iff.1 hv).1]; exact hv)
  · have := h.range (16 + j) v (by rw [List.getElem?_append_right (by omega), List.getElem?_append_left (by rw [show 16 + j - (vc x).length = j by omega]; exact (List.getElem?_eq_some_iff.1 hv).1), show 16 + j - (vc x).length = j by omega]; exact hv)
    rw [Nat.zero_add] at this; exact this
  · have := h.range (32 + j) v (by rw [List.getElem?_append_right (by omega), List.getElem?_append_right (by omega), show 32 + j - (vc x).length - (vc y).length = j by omega]; exact hv)
    rw [Nat.zero_add] at this; exact this
theorem bump_after {x : List Int} (hx : x.length = 16) {k : Nat} (hk : k < 16) (h : bumpE x k = 0) : vcmp (bumpV x k) x = 2 := by
  unfold bumpE at h
  rw [if_neg (by omega)] at h
  by_cases hs : x.getD k 0 = 4294967295
  · rw [if_pos hs] at h; exact absurd h (by decide)
  · unfold bumpV; rw [if_neg (by omega), if_neg hs]; exact more_cmp hx hk
theorem vof_norm {a b : List Am} (ha : OkR a) (hb : OkR b) : vof (norm (join a b)) = vj (vof (norm a)) (vof (norm b)) := by rw [norm_id (join_st ha hb), vof_join ha hb]
set_option maxRecDepth 100000 in
set_option maxHeartbeats 16000000 in
theorem vecLaws_is (x y z : List Int) (Aa Ab : Option Addr) (na nb ca cb : Nat) (a b : List Am) (w : World) (ox : VOk x) (oy : VOk y) (oz : VOk z) (ra : RowV w Aa na ca a) (rb : RowV w Ab nb cb b) :
    Calls Try.prog 6 #[.agg (vc x ++ (vc y ++ vc z)).toArray, .slice Aa na ca, .slice Ab nb cb] w fun e w' => e = .returned (.bool true) ∧ Below w.heap.size w w' := by
  have B0 := Lib.hid (new_below w (.cells (vc x ++ (vc y ++ vc z)).toArray 49))
  have Q0 := Lib.hid (blk_alloc w 49 (vc x ++ (vc y ++ vc z)))
  have RA := Lib.hid (ra.below B0.out)
  have RB := Lib.hid (rb.below B0.out)
  have OX := Lib.hid ox
  have HX := Lib.hid ox.len
  have HY := Lib.hid oy.len
  have HZ := Lib.hid oz.len
  clear ox oy oz ra rb
  by_cases hna : 40 < na
  · have hna' : (40 : Int) < (na : Int) := by omega
    go_enter Try.func6, Try.ntmps6
    go_wp2_with fail
    refine (alive_is _).mono ?_
    rintro e w1 ⟨rfl, b1⟩
    have B1 := Lib.hid (step_ B0.out b1)
    clear b1
    go_wp2_with fail
    go_ret
    exact ⟨rfl, B1.out⟩
  have hna' : ¬ (40 : Int) < (na : Int) := by omega
  by_cases hnb : 40 < nb
  · have hnb' : (40 : Int) < (nb : Int) := by omega
    go_enter Try.func6, Try.ntmps6
    go_wp2_with fail
    refine (alive_is _).mono ?_
    rintro e w1 ⟨rfl, b1⟩
    have B1 := Lib.hid (step_ B0.out b1)
    clear b1
    go_wp2_with fail
    go_ret
    exact ⟨rfl, B1.out⟩
  have hnb' : ¬ (40 : Int) < (nb : Int) := by omega
  have hz := zero24
  go_enter Try.func6, Try.ntmps6
  go_wp2_with fail
  have LS := Lib.hid Q0.out.lt
  generalize (w.alloc (.cells (vc x ++ (vc y ++ vc z)).toArray 49)) = w0 at Q0 B0 RA RB LS ⊢
  have R3 := Lib.hid (range3 HX.out HY.out Q0.out)
  refine Code.wp_mono (Q := fun e v W => e = .normal ∧ ∃ g7 g8 g9, v = (⟨#[.agg (vc x ++ (vc y ++ vc z)).toArray, .slice Aa na ca, .slice Ab nb cb, .pointer (some ⟨w.heap.size, 0, none⟩), undef, undef, .bool false, .pointer (some ⟨g7, 0, none⟩), .pointer (some ⟨g8, 0, none⟩), .pointer (some ⟨g9, 0, none⟩), undef, undef, undef, undef, undef, .slice Aa na ca, .int .i64 (na : Int), .bool false, .bool false, .slice Ab nb cb, .int .i64 (nb : Int), .bool false, .bool false, undef, .pointer (some ⟨w.heap.size, 0, none⟩), .agg (vc x).toArray, .pointer (some ⟨w.heap.size, 16, none⟩), .agg (vc y).toArray, .pointer (some ⟨w.heap.size, 32, none⟩), .agg (vc z).toArray, undef, undef, undef, undef, undef, undef, undef, undef, undef, undef, undef, undef, undef, undef, undef, undef, undef, undef, undef, undef, undef, undef, undef, undef, undef, undef, undef, undef, undef, undef, undef, undef, undef, undef, undef, undef, undef, undef, undef, undef, undef, undef, undef, undef, undef, undef, undef, undef, undef, undef, undef, undef, undef, undef, undef, undef, undef, undef, undef, undef, undef, undef, undef, undef, undef, undef, undef, undef, undef, undef, undef, undef, undef, undef, undef, undef, undef, undef, undef, undef, undef, undef, undef, undef, undef, undef, undef, undef, undef, undef, undef], []⟩ : Act) ∧ Blk W g7 24 (vc x) ∧ Blk W g8 24 (vc y) ∧ Blk W g9 24 (vc z) ∧ Below w0.heap.size w0 W) ?_ ?_
  rotate_left
  ·
    have S0 := Lib.hid (show Below w0.heap.size w0 w0.drew from below_drew (Below.refl _ _))
    refine wp_region_noPanic ?_
    refine wp_region_held_drew (S := fun W => Below w0.heap.size w0 W) (by kernel_rfl) S0.out (fun _ => ?_)
    refine wpAnyH_take (i := 0) (oi := { dst := some 24, op := Go.Op.indexAddr 49 (Go.Operand.tmp 3) (Go.Operand.const (Go.Value.int Go.IntKind.i64 0)), type := 0, pos := _, after := #[], guard := none }) (v := ?_) rfl (by kernel_rfl) (by kernel_rfl) (by kernel_rfl) (fun _ _ _ h => h) (Or.inl ⟨by rfl, ?_⟩) S0.out ?_
    rotate_left
    · intro W hW; (go_simp; try with_reducible rfl)
    try simp only [Act.put, List.setIfInBounds_toArray, List.set_cons_zero, List.set_cons_succ]
    refine wpAnyH_take (i := 1) (oi := { dst := some 25, op := Go.Op.load 23 (Go.Operand.tmp 24), type := 23, pos := _, after := #[{ on := 0, ground := Go.Ground.data }], guard := none }) (v := .agg (vc x).toArray) rfl (by kernel_rfl) (by kernel_rfl) (by kernel_rfl) (fun _ _ _ h => h) (yieldsIf_load_mid (by rfl) 23 (.tmp 24) rfl w.heap.size 0 rfl (vc x) _ (fun W hW => fun j v hv => (hW.cell (p := ⟨w.heap.size, _, none⟩) LS.out).trans (R3.out.1 j v hv)) t23.und rfl (t23.size HX.out)) S0.out ?_
    try simp only [Act.put, List.setIfInBounds_toArray, List.set_cons_zero, List.set_cons_succ]
    refine wpAnyH_take (i := 2) (oi := { dst := some 26, op := Go.Op.indexAddr 49 (Go.Operand.tmp 3) (Go.Operand.const (Go.Value.int Go.IntKind.i64 1)), type := 0, pos := _, after := #[{ on := 9, ground := Go.Ground.gcOnly Go.Departure.lateStores }], guard := none }) (v := ?_) rfl (by kernel_rfl) (by kernel_rfl) (by kernel_rfl) (fun _ _ _ h => h) (Or.inl ⟨by rfl, ?_⟩) S0.out ?_
    rotate_left
    · intro W hW; (go_simp; try with_reducible rfl)
    try simp only [Act.put, List.setIfInBounds_toArray, List.set_cons_zero, List.set_cons_succ]
    refine wpAnyH_take (i := 3) (oi := { dst := some 27, op := Go.Op.load 23 (Go.Operand.tmp 26), type := 23, pos := _, after := #[{ on := 2, ground := Go.Ground.data }, { on := 9, ground := Go.Ground.gcOnly Go.Departure.lateStores }], guard := none }) (v := .agg (vc y).toArray) rfl (by kernel_rfl) (by kernel_rfl) (by kernel_rfl) (fun _ _ _ h => h) (yieldsIf_load_mid (by rfl) 23 (.tmp 26) rfl w.heap.size 16 rfl (vc y) _ (fun W hW => fun j v hv => (hW.cell (p := ⟨w.heap.size, _, none⟩) LS.out).trans (R3.out.2.1 j v hv)) t23.und rfl (t23.size HY.out)) S0.out ?_
    try simp only [Act.put, List.setIfInBounds_toArray, List.set_cons_zero, List.set_cons_succ]
    refine wpAnyH_take (i := 4) (oi := { dst := some 28, op := Go.Op.indexAddr 49 (Go.Operand.tmp 3) (Go.Operand.const (Go.Value.int Go.IntKind.i64 2)), type := 0, pos := _, after := #[{ on := 10, ground := Go.Ground.gcOnly Go.Departure.lateStores }], guard := none }) (v := ?_) rfl (by kernel_rfl) (by kernel_rfl) (by kernel_rfl) (fun _ _ _ h => h) (Or.inl ⟨by rfl, ?_⟩) S0.out ?_
    rotate_left
    · intro W hW; (go_simp; try with_reducible rfl)
    try simp only [Act.put, List.setIfInBounds_toArray, List.set_cons_zero, List.set_cons_succ]
    refine wpAnyH_take (i := 5) (oi := { dst := some 29, op := Go.Op.load 23 (Go.Operand.tmp 28), type := 23, pos := _, after := #[{ on := 4, ground := Go.Ground.data }, { on := 10, ground := Go.Ground.gcOnly Go.Departure.lateStores }], guard := none }) (v := .agg (vc z).toArray) rfl (by kernel_rfl) (by kernel_rfl) (by kernel_rfl) (fun _ _ _ h => h) (yieldsIf_load_mid (by rfl) 23 (.tmp 28) rfl w.heap.size 32 rfl (vc z) _ (fun W hW => fun j v hv => (hW.cell (p := ⟨w.heap.size, _, none⟩) LS.out).trans (R3.out.2.2 j v hv)) t23.und rfl (t23.size HZ.out)) S0.out ?_
    try simp only [Act.put, List.setIfInBounds_toArray, List.set_cons_zero, List.set_cons_succ]
    refine wpAnyH_ready (rs := [6, 7, 8]) (by kernel_rfl) (by simp) ?_
    refine ready_allocV (o := { dst := some 7, op := Go.Op.alloc 24, type := 0, pos := _, after := #[], guard := none }) rfl rfl rfl (fun g1 W1 e1 z1 b1 => ⟨step_ S0.out b1, ?_⟩) ?_
    ·
      have S1 := Lib.hid (step_ S0.out b1)
      have Z1 := Lib.hid z1
      have L1 := Lib.hid (show w0.heap.size ≤ g1 from e1 ▸ S0.out.size)
      clear e1 z1 b1
      try simp only [Act.put, List.setIfInBounds_toArray, List.set_cons_zero, List.set_cons_succ]
      refine wpAnyH_ready (rs := [7, 8]) (by kernel_rfl) (by simp) ?_
      refine ready_allocV (o := { dst := some 8, op := Go.Op.alloc 24, type := 0, pos := _, after := #[], guard := none }) rfl rfl rfl (fun g2 W2 e2 z2 b2 => ⟨step_ S1.out b2, ?_⟩) ?_
      ·
        have S2 := Lib.hid (step_ S1.out b2)
        have Z2 := Lib.hid z2
        have L2 := Lib.hid (show w0.heap.size ≤ g2 from e2 ▸ S1.out.size)
        have Y2s7 := Lib.hid (Z1.out.below b2)
        have NE2s7 := Lib.hid (show g1 ≠ g2 by have := Z1.out.lt; omega)
        clear e2 z2 b2
        try simp only [Act.put, List.setIfInBounds_toArray, List.set_cons_zero, List.set_cons_succ]
        refine wpAnyH_ready (rs := [8]) (by kernel_rfl) (by simp) ?_
        refine ready_allocV (o := { dst := some 9, op := Go.Op.alloc 24, type := 0, pos := _, after := #[], guard := none }) rfl rfl rfl (fun g3 W3 e3 z3 b3 => ⟨step_ S2.out b3, ?_⟩) ?_
        ·
          have S3 := Lib.hid (step_ S2.out b3)
          have Z3 := Lib.hid z3
          have L3 := Lib.hid (show w0.heap.size ≤ g3 from e3 ▸ S2.out.size)
          have Y3s7 := Lib.hid (Y2s7.out.below b3)
          have NE3s7 := Lib.hid (show g1 ≠ g3 by have := Y2s7.out.lt; omega)
          have Y3s8 := Lib.hid (Z2.out.below b3)
          have NE3s8 := Lib.hid (show g2 ≠ g3 by have := Z2.out.lt; omega)
          clear e3 z3 b3
          try simp only [Act.put, List.setIfInBounds_toArray, List.set_cons_zero, List.set_cons_succ]
          refine wpAnyH_ready (rs := [9]) (by kernel_rfl) (by simp) ?_
          refine ready_storeV (o := { dst := none, op := Go.Op.store 24 (Go.Operand.tmp 7) (Go.Operand.tmp 25), type := 0, pos := _, after := #[{ on := 6, ground := Go.Ground.data }, { on := 1, ground := Go.Ground.data }, { on := 0, ground := Go.Ground.phase }, { on := 1, ground := Go.Ground.phase }, { on := 2, ground := Go.Ground.textOnly Go.Departure.lateStores }, { on := 3, ground := Go.Ground.textOnly Go.Departure.lateStores }, { on := 4, ground := Go.Ground.textOnly Go.Departure.lateStores }, { on := 5, ground := Go.Ground.textOnly Go.Departure.lateStores }, { on := 6, ground := Go.Ground.phase }, { on := 7, ground := Go.Ground.phase }, { on := 8, ground := Go.Ground.phase }], guard := none }) rfl rfl _ _ rfl g1 vz x rfl rfl Y3s7.out rfl HX.out (fun W4 z4 o4 => ⟨S3.out.trans (o4.below L1.out S3.out.size), ?_⟩) ?_
          ·
            have S4 := Lib.hid (S3.out.trans (o4.below L1.out S3.out.size))
            have Z4 := Lib.hid z4
            have Y4s8 := Lib.hid (Y3s8.out.only o4 NE2s7.out.symm)
            have Y4s9 := Lib.hid (Z3.out.only o4 NE3s7.out.symm)
            clear z4 o4
            simp only [Act.put]
            refine wpAnyH_ready (rs := [10]) (by kernel_rfl) (by simp) ?_
            refine ready_storeV (o := { dst := none, op := Go.Op.store 24 (Go.Operand.tmp 8) (Go.Operand.tmp 27), type := 0, pos := _, after := #[{ on := 7, ground := Go.Ground.data }, { on := 3, ground := Go.Ground.data }, { on := 9, ground := Go.Ground.chain }, { on := 0, ground := Go.Ground.phase }, { on := 1, ground := Go.Ground.phase }, { on := 2, ground := Go.Ground.phase }, { on := 3, ground := Go.Ground.phase }, { on := 4, ground := Go.Ground.textOnly Go.Departure.lateStores }, { on := 5, ground := Go.Ground.textOnly Go.Departure.lateStores }, { on := 6, ground := Go.Ground.phase }, { on := 7, ground := Go.Ground.phase }, { on := 8, ground := Go.Ground.phase }, { on := 9, ground := Go.Ground.phase }], guard := none }) rfl rfl _ _ rfl g2 vz y rfl rfl Y4s8.out rfl HY.out (fun W5 z5 o5 => ⟨S4.out.trans (o5.below L2.out S4.out.size), ?_⟩) ?_
            ·
              have S5 := Lib.hid (S4.out.trans (o5.below L2.out S4.out.size))
              have Z5 := Lib.hid z5
              have Y5s7 := Lib.hid (Z4.out.only o5 NE2s7.out)
              have Y5s9 := Lib.hid (Y4s9.out.only o5 NE3s8.out.symm)
              clear z5 o5
              simp only [Act.put]
              refine wpAnyH_ready (rs := [11]) (by kernel_rfl) (by simp) ?_
              refine ready_storeV (o := { dst := none, op := Go.Op.store 24 (Go.Operand.tmp 9) (Go.Operand.tmp 29), type := 0, pos := _, after := #[{ on := 8, ground := Go.Ground.data }, { on := 5, ground := Go.Ground.data }, { on := 10, ground := Go.Ground.chain }, { on := 0, ground := Go.Ground.phase }, { on := 1, ground := Go.Ground.phase }, { on := 2, ground := Go.Ground.phase }, { on := 3, ground := Go.Ground.phase }, { on := 4, ground := Go.Ground.phase }, { on := 5, ground := Go.Ground.phase }, { on := 6, ground := Go.Ground.phase }, { on := 7, ground := Go.Ground.phase }, { on := 8, ground := Go.Ground.phase }, { on := 9, ground := Go.Ground.phase }, { on := 10, ground := Go.Ground.phase }], guard := none }) rfl rfl _ _ rfl g3 vz z rfl rfl Y5s9.out rfl HZ.out (fun W6 z6 o6 => ⟨S5.out.trans (o6.below L3.out S5.out.size), ?_⟩) ?_
              ·
                have S6 := Lib.hid (S5.out.trans (o6.below L3.out S5.out.size))
                have Z6 := Lib.hid z6
                have Y6s7 := Lib.hid (Y5s7.out.only o6 NE3s7.out)
                have Y6s8 := Lib.hid (Z5.out.only o6 NE3s8.out)
                clear z6 o6
                simp only [Act.put]
                refine wpAnyH_done (by kernel_rfl) ?_ _
                exact ⟨rfl, g1, g2, g3, rfl, Y6s7.out, Y6s8.out, Z6.out, S6.out⟩
              exact AllReadyH.nil
            exact AllReadyH.nil
          exact AllReadyH.nil
        exact AllReadyH.nil
      refine ready_allocV (o := { dst := some 9, op := Go.Op.alloc 24, type := 0, pos := _, after := #[], guard := none }) rfl rfl rfl (fun g7 W7 e7 z7 b7 => ⟨step_ S1.out b7, ?_⟩) ?_
      ·
        have S7 := Lib.hid (step_ S1.out b7)
        have Z7 := Lib.hid z7
        have L7 := Lib.hid (show w0.heap.size ≤ g7 from e7 ▸ S1.out.size)
        have Y7s7 := Lib.hid (Z1.out.below b7)
        have NE7s7 := Lib.hid (show g1 ≠ g7 by have := Z1.out.lt; omega)
        clear e7 z7 b7
        try simp only [Act.put, List.setIfInBounds_toArray, List.set_cons_zero, List.set_cons_succ]
        refine wpAnyH_ready (rs := [7]) (by kernel_rfl) (by simp) ?_
        refine ready_allocV (o := { dst := some 8, op := Go.Op.alloc 24, type := 0, pos := _, after := #[], guard := none }) rfl rfl rfl (fun g8 W8 e8 z8 b8 => ⟨step_ S7.out b8, ?_⟩) ?_
        ·
          have S8 := Lib.hid (step_ S7.out b8)
          have Z8 := Lib.hid z8
          have L8 := Lib.hid (show w0.heap.size ≤ g8 from e8 ▸ S7.out.size)
          have Y8s7 := Lib.hid (Y7s7.out.below b8)
          have NE8s7 := Lib.hid (show g1 ≠ g8 by have := Y7s7.out.lt; omega)
          have Y8s9 := Lib.hid (Z7.out.below b8)
          have NE8s9 := Lib.hid (show g7 ≠ g8 by have := Z7.out.lt; omega)
          clear e8 z8 b8
          try simp only [Act.put, List.setIfInBounds_toArray, List.set_cons_zero, List.set_cons_succ]
          refine wpAnyH_ready (rs := [9]) (by kernel_rfl) (by simp) ?_
          refine ready_storeV (o := { dst := none, op := Go.Op.store 24 (Go.Operand.tmp 7) (Go.Operand.tmp 25), type := 0, pos := _, after := #[{ on := 6, ground := Go.Ground.data }, { on := 1, ground := Go.Ground.data }, { on := 0, ground := Go.Ground.phase }, { on := 1, ground := Go.Ground.phase }, { on := 2, ground := Go.Ground.textOnly Go.Departure.lateStores }, { on := 3, ground := Go.Ground.textOnly Go.Departure.lateStores }, { on := 4, ground := Go.Ground.textOnly Go.Departure.lateStores }, { on := 5, ground := Go.Ground.textOnly Go.Departure.lateStores }, { on := 6, ground := Go.Ground.phase }, { on := 7, ground := Go.Ground.phase }, { on := 8, ground := Go.Ground.phase }], guard := none }) rfl rfl _ _ rfl g1 vz x rfl rfl Y8s7.out rfl HX.out (fun W9 z9 o9 => ⟨S8.out.trans (o9.below L1.out S8.out.size), ?_⟩) ?_
          ·
            have S9 := Lib.hid (S8.out.trans (o9.below L1.out S8.out.size))
            have Z9 := Lib.hid z9
            have Y9s9 := Lib.hid (Y8s9.out.only o9 NE7s7.out.symm)
            have Y9s8 := Lib.hid (Z8.out.only o9 NE8s7.out.symm)
            clear z9 o9
            simp only [Act.put]
            refine wpAnyH_ready (rs := [10]) (by kernel_rfl) (by simp) ?_
            refine ready_storeV (o := { dst := none, op := Go.Op.store 24 (Go.Operand.tmp 8) (Go.Operand.tmp 27), type := 0, pos := _, after := #[{ on := 7, ground := Go.Ground.data }, { on := 3, ground := Go.Ground.data }, { on := 9, ground := Go.Ground.chain }, { on := 0, ground := Go.Ground.phase }, { on := 1, ground := Go.Ground.phase }, { on := 2, ground := Go.Ground.phase }, { on := 3, ground := Go.Ground.phase }, { on := 4, ground := Go.Ground.textOnly Go.Departure.lateStores }, { on := 5, ground := Go.Ground.textOnly Go.Departure.lateStores }, { on := 6, ground := Go.Ground.phase }, { on := 7, ground := Go.Ground.phase }, { on := 8, ground := Go.Ground.phase }, { on := 9, ground := Go.Ground.phase }], guard := none }) rfl rfl _ _ rfl g8 vz y rfl rfl Y9s8.out rfl HY.out (fun W10 z10 o10 => ⟨S9.out.trans (o10.below L8.out S9.out.size), ?_⟩) ?_
            ·
              have S10 := Lib.hid (S9.out.trans (o10.below L8.out S9.out.size))
              have Z10 := Lib.hid z10
              have Y10s7 := Lib.hid (Z9.out.only o10 NE8s7.out)
              have Y10s9 := Lib.hid (Y9s9.out.only o10 NE8s9.out)
              clear z10 o10
              simp only [Act.put]
              refine wpAnyH_ready (rs := [11]) (by kernel_rfl) (by simp) ?_
              refine ready_storeV (o := { dst := none, op := Go.Op.store 24 (Go.Operand.tmp 9) (Go.Operand.tmp 29), type := 0, pos := _, after := #[{ on := 8, ground := Go.Ground.data }, { on := 5, ground := Go.Ground.data }, { on := 10, ground := Go.Ground.chain }, { on := 0, ground := Go.Ground.phase }, { on := 1, ground := Go.Ground.phase }, { on := 2, ground := Go.Ground.phase }, { on := 3, ground := Go.Ground.phase }, { on := 4, ground := Go.Ground.phase }, { on := 5, ground := Go.Ground.phase }, { on := 6, ground := Go.Ground.phase }, { on := 7, ground := Go.Ground.phase }, { on := 8, ground := Go.Ground.phase }, { on := 9, ground := Go.Ground.phase }, { on := 10, ground := Go.Ground.phase }], guard := none }) rfl rfl _ _ rfl g7 vz z rfl rfl Y10s9.out rfl HZ.out (fun W11 z11 o11 => ⟨S10.out.trans (o11.below L7.out S10.out.size), ?_⟩) ?_
              ·
                have S11 := Lib.hid (S10.out.trans (o11.below L7.out S10.out.size))
                have Z11 := Lib.hid z11
                have Y11s7 := Lib.hid (Y10s7.out.only o11 NE7s7.out)
                have Y11s8 := Lib.hid (Z10.out.only o11 NE8s9.out.symm)
                clear z11 o11
                simp only [Act.put]
                refine wpAnyH_done (by kernel_rfl) ?_ _
                exact ⟨rfl, g1, g8, g7, rfl, Y11s7.out, Y11s8.out, Z11.out, S11.out⟩
              exact AllReadyH.nil
            exact AllReadyH.nil
          exact AllReadyH.nil
        exact AllReadyH.nil
      exact AllReadyH.nil
    refine ready_allocV (o := { dst := some 8, op := Go.Op.alloc 24, type := 0, pos := _, after := #[], guard := none }) rfl rfl rfl (fun g12 W12 e12 z12 b12 => ⟨step_ S0.out b12, ?_⟩) ?_
    ·
      have S12 := Lib.hid (step_ S0.out b12)
      have Z12 := Lib.hid z12
      have L12 := Lib.hid (show w0.heap.size ≤ g12 from e12 ▸ S0.out.size)
      clear e12 z12 b12
      try simp only [Act.put, List.setIfInBounds_toArray, List.set_cons_zero, List.set_cons_succ]
      refine wpAnyH_ready (rs := [6, 8]) (by kernel_rfl) (by simp) ?_
      refine ready_allocV (o := { dst := some 7, op := Go.Op.alloc 24, type := 0, pos := _, after := #[], guard := none }) rfl rfl rfl (fun g13 W13 e13 z13 b13 => ⟨step_ S12.out b13, ?_⟩) ?_
      ·
        have S13 := Lib.hid (step_ S12.out b13)
        have Z13 := Lib.hid z13
        have L13 := Lib.hid (show w0.heap.size ≤ g13 from e13 ▸ S12.out.size)
        have Y13s8 := Lib.hid (Z12.out.below b13)
        have NE13s8 := Lib.hid (show g12 ≠ g13 by have := Z12.out.lt; omega)
        clear e13 z13 b13
        try simp only [Act.put, List.setIfInBounds_toArray, List.set_cons_zero, List.set_cons_succ]
        refine wpAnyH_ready (rs := [8]) (by kernel_rfl) (by simp) ?_
        refine ready_allocV (o := { dst := some 9, op := Go.Op.alloc 24, type := 0, pos := _, after := #[], guard := none }) rfl rfl rfl (fun g14 W14 e14 z14 b14 => ⟨step_ S13.out b14, ?_⟩) ?_
        ·
          have S14 := Lib.hid (step_ S13.out b14)
          have Z14 := Lib.hid z14
          have L14 := Lib.hid (show w0.heap.size ≤ g14 from e14 ▸ S13.out.size)
          have Y14s8 := Lib.hid (Y13s8.out.below b14)
          have NE14s8 := Lib.hid (show g12 ≠ g14 by have := Y13s8.out.lt; omega)
          have Y14s7 := Lib.hid (Z13.out.below b14)
          have NE14s7 := Lib.hid (show g13 ≠ g14 by have := Z13.out.lt; omega)
          clear e14 z14 b14
          try simp only [Act.put, List.setIfInBounds_toArray, List.set_cons_zero, List.set_cons_succ]
          refine wpAnyH_ready (rs := [9]) (by kernel_rfl) (by simp) ?_
          refine ready_storeV (o := { dst := none, op := Go.Op.store 24 (Go.Operand.tmp 7) (Go.Operand.tmp 25), type := 0, pos := _, after := #[{ on := 6, ground := Go.Ground.data }, { on := 1, ground := Go.Ground.data }, { on := 0, ground := Go.Ground.phase }, { on := 1, ground := Go.Ground.phase }, { on := 2, ground := Go.Ground.textOnly Go.Departure.lateStores }, { on := 3, ground := Go.Ground.textOnly Go.Departure.lateStores }, { on := 4, ground := Go.Ground.textOnly Go.Departure.lateStores }, { on := 5, ground := Go.Ground.textOnly Go.Departure.lateStores }, { on := 6, ground := Go.Ground.phase }, { on := 7, ground := Go.Ground.phase }, { on := 8, ground := Go.Ground.phase }], guard := none }) rfl rfl _ _ rfl g13 vz x rfl rfl Y14s7.out rfl HX.out (fun W15 z15 o15 => ⟨S14.out.trans (o15.below L13.out S14.out.size), ?_⟩) ?_
          ·
            have S15 := Lib.hid (S14.out.trans (o15.below L13.out S14.out.size))
            have Z15 := Lib.hid z15
            have Y15s8 := Lib.hid (Y14s8.out.only o15 NE13s8.out)
            have Y15s9 := Lib.hid (Z14.out.only o15 NE14s7.out.symm)
            clear z15 o15
            simp only [Act.put]
            refine wpAnyH_ready (rs := [10]) (by kernel_rfl) (by simp) ?_
            refine ready_storeV (o := { dst := none, op := Go.Op.store 24 (Go.Operand.tmp 8) (Go.Operand.tmp 27), type := 0, pos := _, after := #[{ on := 7, ground := Go.Ground.data }, { on := 3, ground := Go.Ground.data }, { on := 9, ground := Go.Ground.chain }, { on := 0, ground := Go.Ground.phase }, { on := 1, ground := Go.Ground.phase }, { on := 2, ground := Go.Ground.phase }, { on := 3, ground := Go.Ground.phase }, { on := 4, ground := Go.Ground.textOnly Go.Departure.lateStores }, { on := 5, ground := Go.Ground.textOnly Go.Departure.lateStores }, { on := 6, ground := Go.Ground.phase }, { on := 7, ground := Go.Ground.phase }, { on := 8, ground := Go.Ground.phase }, { on := 9, ground := Go.Ground.phase }], guard := none }) rfl rfl _ _ rfl g12 vz y rfl rfl Y15s8.out rfl HY.out (fun W16 z16 o16 => ⟨S15.out.trans (o16.below L12.out S15.out.size), ?_⟩) ?_
            ·
              have S16 := Lib.hid (S15.out.trans (o16.below L12.out S15.out.size))
              have Z16 := Lib.hid z16
              have Y16s7 := Lib.hid (Z15.out.only o16 NE13s8.out.symm)
              have Y16s9 := Lib.hid (Y15s9.out.only o16 NE14s8.out.symm)
              clear z16 o16
              simp only [Act.put]
              refine wpAnyH_ready (rs := [11]) (by kernel_rfl) (by simp) ?_
              refine ready_storeV (o := { dst := none, op := Go.Op.store 24 (Go.Operand.tmp 9) (Go.Operand.tmp 29), type := 0, pos := _, after := #[{ on := 8, ground := Go.Ground.data }, { on := 5, ground := Go.Ground.data }, { on := 10, ground := Go.Ground.chain }, { on := 0, ground := Go.Ground.phase }, { on := 1, ground := Go.Ground.phase }, { on := 2, ground := Go.Ground.phase }, { on := 3, ground := Go.Ground.phase }, { on := 4, ground := Go.Ground.phase }, { on := 5, ground := Go.Ground.phase }, { on := 6, ground := Go.Ground.phase }, { on := 7, ground := Go.Ground.phase }, { on := 8, ground := Go.Ground.phase }, { on := 9, ground := Go.Ground.phase }, { on := 10, ground := Go.Ground.phase }], guard := none }) rfl rfl _ _ rfl g14 vz z rfl rfl Y16s9.out rfl HZ.out (fun W17 z17 o17 => ⟨S16.out.trans (o17.below L14.out S16.out.size), ?_⟩) ?_
              ·
                have S17 := Lib.hid (S16.out.trans (o17.below L14.out S16.out.size))
                have Z17 := Lib.hid z17
                have Y17s8 := Lib.hid (Z16.out.only o17 NE14s8.out)
                have Y17s7 := Lib.hid (Y16s7.out.only o17 NE14s7.out)
                clear z17 o17
                simp only [Act.put]
                refine wpAnyH_done (by kernel_rfl) ?_ _
                exact ⟨rfl, g13, g12, g14, rfl, Y17s7.out, Y17s8.out, Z17.out, S17.out⟩
              exact AllReadyH.nil
            exact AllReadyH.nil
          exact AllReadyH.nil
        exact AllReadyH.nil
      refine ready_allocV (o := { dst := some 9, op := Go.Op.alloc 24, type := 0, pos := _, after := #[], guard := none }) rfl rfl rfl (fun g18 W18 e18 z18 b18 => ⟨step_ S12.out b18, ?_⟩) ?_
      ·
        have S18 := Lib.hid (step_ S12.out b18)
        have Z18 := Lib.hid z18
        have L18 := Lib.hid (show w0.heap.size ≤ g18 from e18 ▸ S12.out.size)
        have Y18s8 := Lib.hid (Z12.out.below b18)
        have NE18s8 := Lib.hid (show g12 ≠ g18 by have := Z12.out.lt; omega)
        clear e18 z18 b18
        try simp only [Act.put, List.setIfInBounds_toArray, List.set_cons_zero, List.set_cons_succ]
        refine wpAnyH_ready (rs := [6]) (by kernel_rfl) (by simp) ?_
        refine ready_allocV (o := { dst := some 7, op := Go.Op.alloc 24, type := 0, pos := _, after := #[], guard := none }) rfl rfl rfl (fun g19 W19 e19 z19 b19 => ⟨step_ S18.out b19, ?_⟩) ?_
        ·
          have S19 := Lib.hid (step_ S18.out b19)
          have Z19 := Lib.hid z19
          have L19 := Lib.hid (show w0.heap.size ≤ g19 from e19 ▸ S18.out.size)
          have Y19s8 := Lib.hid (Y18s8.out.below b19)
          have NE19s8 := Lib.hid (show g12 ≠ g19 by have := Y18s8.out.lt; omega)
          have Y19s9 := Lib.hid (Z18.out.below b19)
          have NE19s9 := Lib.hid (show g18 ≠ g19 by have := Z18.out.lt; omega)
          clear e19 z19 b19
          try simp only [Act.put, List.setIfInBounds_toArray, List.set_cons_zero, List.set_cons_succ]
          refine wpAnyH_ready (rs := [9]) (by kernel_rfl) (by simp) ?_
          refine ready_storeV (o := { dst := none, op := Go.Op.store 24 (Go.Operand.tmp 7) (Go.Operand.tmp 25), type := 0, pos := _, after := #[{ on := 6, ground := Go.Ground.data }, { on := 1, ground := Go.Ground.data }, { on := 0, ground := Go.Ground.phase }, { on := 1, ground := Go.Ground.phase }, { on := 2, ground := Go.Ground.textOnly Go.Departure.lateStores }, { on := 3, ground := Go.Ground.textOnly Go.Departure.lateStores }, { on := 4, ground := Go.Ground.textOnly Go.Departure.lateStores }, { on := 5, ground := Go.Ground.textOnly Go.Departure.lateStores }, { on := 6, ground := Go.Ground.phase }, { on := 7, ground := Go.Ground.phase }, { on := 8, ground := Go.Ground.phase }], guard := none }) rfl rfl _ _ rfl g19 vz x rfl rfl Z19.out rfl HX.out (fun W20 z20 o20 => ⟨S19.out.trans (o20.below L19.out S19.out.size), ?_⟩) ?_
          ·
            have S20 := Lib.hid (S19.out.trans (o20.below L19.out S19.out.size))
            have Z20 := Lib.hid z20
            have Y20s8 := Lib.hid (Y19s8.out.only o20 NE19s8.out)
            have Y20s9 := Lib.hid (Y19s9.out.only o20 NE19s9.out)
            clear z20 o20
            simp only [Act.put]
            refine wpAnyH_ready (rs := [10]) (by kernel_rfl) (by simp) ?_
            refine ready_storeV (o := { dst := none, op := Go.Op.store 24 (Go.Operand.tmp 8) (Go.Operand.tmp 27), type := 0, pos := _, after := #[{ on := 7, ground := Go.Ground.data }, { on := 3, ground := Go.Ground.data }, { on := 9, ground := Go.Ground.chain }, { on := 0, ground := Go.Ground.phase }, { on := 1, ground := Go.Ground.phase }, { on := 2, ground := Go.Ground.phase }, { on := 3, ground := Go.Ground.phase }, { on := 4, ground := Go.Ground.textOnly Go.Departure.lateStores }, { on := 5, ground := Go.Ground.textOnly Go.Departure.lateStores }, { on := 6, ground := Go.Ground.phase }, { on := 7, ground := Go.Ground.phase }, { on := 8, ground := Go.Ground.phase }, { on := 9, ground := Go.Ground.phase }], guard := none }) rfl rfl _ _ rfl g12 vz y rfl rfl Y20s8.out rfl HY.out (fun W21 z21 o21 => ⟨S20.out.trans (o21.below L12.out S20.out.size), ?_⟩) ?_
            ·
              have S21 := Lib.hid (S20.out.trans (o21.below L12.out S20.out.size))
              have Z21 := Lib.hid z21
              have Y21s9 := Lib.hid (Y20s9.out.only o21 NE18s8.out.symm)
              have Y21s7 := Lib.hid (Z20.out.only o21 NE19s8.out.symm)
              clear z21 o21
              simp only [Act.put]
              refine wpAnyH_ready (rs := [11]) (by kernel_rfl) (by simp) ?_
              refine ready_storeV (o := { dst := none, op := Go.Op.store 24 (Go.Operand.tmp 9) (Go.Operand.tmp 29), type := 0, pos := _, after := #[{ on := 8, ground := Go.Ground.data }, { on := 5, ground := Go.Ground.data }, { on := 10, ground := Go.Ground.chain }, { on := 0, ground := Go.Ground.phase }, { on := 1, ground := Go.Ground.phase }, { on := 2, ground := Go.Ground.phase }, { on := 3, ground := Go.Ground.phase }, { on := 4, ground := Go.Ground.phase }, { on := 5, ground := Go.Ground.phase }, { on := 6, ground := Go.Ground.phase }, { on := 7, ground := Go.Ground.phase }, { on := 8, ground := Go.Ground.phase }, { on := 9, ground := Go.Ground.phase }, { on := 10, ground := Go.Ground.phase }], guard := none }) rfl rfl _ _ rfl g18 vz z rfl rfl Y21s9.out rfl HZ.out (fun W22 z22 o22 => ⟨S21.out.trans (o22.below L18.out S21.out.size), ?_⟩) ?_
              ·
                have S22 := Lib.hid (S21.out.trans (o22.below L18.out S21.out.size))
                have Z22 := Lib.hid z22
                have Y22s8 := Lib.hid (Z21.out.only o22 NE18s8.out)
                have Y22s7 := Lib.hid (Y21s7.out.only o22 NE19s9.out.symm)
                clear z22 o22
                simp only [Act.put]
                refine wpAnyH_done (by kernel_rfl) ?_ _
                exact ⟨rfl, g19, g12, g18, rfl, Y22s7.out, Y22s8.out, Z22.out, S22.out⟩
              exact AllReadyH.nil
            exact AllReadyH.nil
          exact AllReadyH.nil
        exact AllReadyH.nil
      exact AllReadyH.nil
    refine ready_allocV (o := { dst := some 9, op := Go.Op.alloc 24, type := 0, pos := _, after := #[], guard := none }) rfl rfl rfl (fun g23 W23 e23 z23 b23 => ⟨step_ S0.out b23, ?_⟩) ?_
    ·
      have S23 := Lib.hid (step_ S0.out b23)
      have Z23 := Lib.hid z23
      have L23 := Lib.hid (show w0.heap.size ≤ g23 from e23 ▸ S0.out.size)
      clear e23 z23 b23
      try simp only [Act.put, List.setIfInBounds_toArray, List.set_cons_zero, List.set_cons_succ]
      refine wpAnyH_ready (rs := [6, 7]) (by kernel_rfl) (by simp) ?_
      refine ready_allocV (o := { dst := some 7, op := Go.Op.alloc 24, type := 0, pos := _, after := #[], guard := none }) rfl rfl rfl (fun g24 W24 e24 z24 b24 => ⟨step_ S23.out b24, ?_⟩) ?_
      ·
        have S24 := Lib.hid (step_ S23.out b24)
        have Z24 := Lib.hid z24
        have L24 := Lib.hid (show w0.heap.size ≤ g24 from e24 ▸ S23.out.size)
        have Y24s9 := Lib.hid (Z23.out.below b24)
        have NE24s9 := Lib.hid (show g23 ≠ g24 by have := Z23.out.lt; omega)
        clear e24 z24 b24
        try simp only [Act.put, List.setIfInBounds_toArray, List.set_cons_zero, List.set_cons_succ]
        refine wpAnyH_ready (rs := [7]) (by kernel_rfl) (by simp) ?_
        refine ready_allocV (o := { dst := some 8, op := Go.Op.alloc 24, type := 0, pos := _, after := #[], guard := none }) rfl rfl rfl (fun g25 W25 e25 z25 b25 => ⟨step_ S24.out b25, ?_⟩) ?_
        ·
          have S25 := Lib.hid (step_ S24.out b25)
          have Z25 := Lib.hid z25
          have L25 := Lib.hid (show w0.heap.size ≤ g25 from e25 ▸ S24.out.size)
          have Y25s9 := Lib.hid (Y24s9.out.below b25)
          have NE25s9 := Lib.hid (show g23 ≠ g25 by have := Y24s9.out.lt; omega)
          have Y25s7 := Lib.hid (Z24.out.below b25)
          have NE25s7 := Lib.hid (show g24 ≠ g25 by have := Z24.out.lt; omega)
          clear e25 z25 b25
          try simp only [Act.put, List.setIfInBounds_toArray, List.set_cons_zero, List.set_cons_succ]
          refine wpAnyH_ready (rs := [9]) (by kernel_rfl) (by simp) ?_
          refine ready_storeV (o := { dst := none, op := Go.Op.store 24 (Go.Operand.tmp 7) (Go.Operand.tmp 25), type := 0, pos := _, after := #[{ on := 6, ground := Go.Ground.data }, { on := 1, ground := Go.Ground.data }, { on := 0, ground := Go.Ground.phase }, { on := 1, ground := Go.Ground.phase }, { on := 2, ground := Go.Ground.textOnly Go.Departure.lateStores }, { on := 3, ground := Go.Ground.textOnly Go.Departure.lateStores }, { on := 4, ground := Go.Ground.textOnly Go.Departure.lateStores }, { on := 5, ground := Go.Ground.textOnly Go.Departure.lateStores }, { on := 6, ground := Go.Ground.phase }, { on := 7, ground := Go.Ground.phase }, { on := 8, ground := Go.Ground.phase }], guard := none }) rfl rfl _ _ rfl g24 vz x rfl rfl Y25s7.out rfl HX.out (fun W26 z26 o26 => ⟨S25.out.trans (o26.below L24.out S25.out.size), ?_⟩) ?_
          ·
            have S26 := Lib.hid (S25.out.trans (o26.below L24.out S25.out.size))
            have Z26 := Lib.hid z26
            have Y26s9 := Lib.hid (Y25s9.out.only o26 NE24s9.out)
            have Y26s8 := Lib.hid (Z25.out.only o26 NE25s7.out.symm)
            clear z26 o26
            simp only [Act.put]
            refine wpAnyH_ready (rs := [10]) (by kernel_rfl) (by simp) ?_
            refine ready_storeV (o := { dst := none, op := Go.Op.store 24 (Go.Operand.tmp 8) (Go.Operand.tmp 27), type := 0, pos := _, after := #[{ on := 7, ground := Go.Ground.data }, { on := 3, ground := Go.Ground.data }, { on := 9, ground := Go.Ground.chain }, { on := 0, ground := Go.Ground.phase }, { on := 1, ground := Go.Ground.phase }, { on := 2, ground := Go.Ground.phase }, { on := 3, ground := Go.Ground.phase }, { on := 4, ground := Go.Ground.textOnly Go.Departure.lateStores }, { on := 5, ground := Go.Ground.textOnly Go.Departure.lateStores }, { on := 6, ground := Go.Ground.phase }, { on := 7, ground := Go.Ground.phase }, { on := 8, ground := Go.Ground.phase }, { on := 9, ground := Go.Ground.phase }], guard := none }) rfl rfl _ _ rfl g25 vz y rfl rfl Y26s8.out rfl HY.out (fun W27 z27 o27 => ⟨S26.out.trans (o27.below L25.out S26.out.size), ?_⟩) ?_
            ·
              have S27 := Lib.hid (S26.out.trans (o27.below L25.out S26.out.size))
              have Z27 := Lib.hid z27
              have Y27s9 := Lib.hid (Y26s9.out.only o27 NE25s9.out)
              have Y27s7 := Lib.hid (Z26.out.only o27 NE25s7.out)
              clear z27 o27
              simp only [Act.put]
              refine wpAnyH_ready (rs := [11]) (by kernel_rfl) (by simp) ?_
              refine ready_storeV (o := { dst := none, op := Go.Op.store 24 (Go.Operand.tmp 9) (Go.Operand.tmp 29), type := 0, pos := _, after := #[{ on := 8, ground := Go.Ground.data }, { on := 5, ground := Go.Ground.data }, { on := 10, ground := Go.Ground.chain }, { on := 0, ground := Go.Ground.phase }, { on := 1, ground := Go.Ground.phase }, { on := 2, ground := Go.Ground.phase }, { on := 3, ground := Go.Ground.phase }, { on := 4, ground := Go.Ground.phase }, { on := 5, ground := Go.Ground.phase }, { on := 6, ground := Go.Ground.phase }, { on := 7, ground := Go.Ground.phase }, { on := 8, ground := Go.Ground.phase }, { on := 9, ground := Go.Ground.phase }, { on := 10, ground := Go.Ground.phase }], guard := none }) rfl rfl _ _ rfl g23 vz z rfl rfl Y27s9.out rfl HZ.out (fun W28 z28 o28 => ⟨S27.out.trans (o28.below L23.out S27.out.size), ?_⟩) ?_
              ·
                have S28 := Lib.hid (S27.out.trans (o28.below L23.out S27.out.size))
                have Z28 := Lib.hid z28
                have Y28s7 := Lib.hid (Y27s7.out.only o28 NE24s9.out.symm)
                have Y28s8 := Lib.hid (Z27.out.only o28 NE25s9.out.symm)
                clear z28 o28
                simp only [Act.put]
                refine wpAnyH_done (by kernel_rfl) ?_ _
                exact ⟨rfl, g24, g25, g23, rfl, Y28s7.out, Y28s8.out, Z28.out, S28.out⟩
              exact AllReadyH.nil
            exact AllReadyH.nil
          exact AllReadyH.nil
        exact AllReadyH.nil
      refine ready_allocV (o := { dst := some 8, op := Go.Op.alloc 24, type := 0, pos := _, after := #[], guard := none }) rfl rfl rfl (fun g29 W29 e29 z29 b29 => ⟨step_ S23.out b29, ?_⟩) ?_
      ·
        have S29 := Lib.hid (step_ S23.out b29)
        have Z29 := Lib.hid z29
        have L29 := Lib.hid (show w0.heap.size ≤ g29 from e29 ▸ S23.out.size)
        have Y29s9 := Lib.hid (Z23.out.below b29)
        have NE29s9 := Lib.hid (show g23 ≠ g29 by have := Z23.out.lt; omega)
        clear e29 z29 b29
        try simp only [Act.put, List.setIfInBounds_toArray, List.set_cons_zero, List.set_cons_succ]
        refine wpAnyH_ready (rs := [6]) (by kernel_rfl) (by simp) ?_
        refine ready_allocV (o := { dst := some 7, op := Go.Op.alloc 24, type := 0, pos := _, after := #[], guard := none }) rfl rfl rfl (fun g30 W30 e30 z30 b30 => ⟨step_ S29.out b30, ?_⟩) ?_
        ·
          have S30 := Lib.hid (step_ S29.out b30)
          have Z30 := Lib.hid z30
          have L30 := Lib.hid (show w0.heap.size ≤ g30 from e30 ▸ S29.out.size)
          have Y30s9 := Lib.hid (Y29s9.out.below b30)
          have NE30s9 := Lib.hid (show g23 ≠ g30 by have := Y29s9.out.lt; omega)
          have Y30s8 := Lib.hid (Z29.out.below b30)
          have NE30s8 := Lib.hid (show g29 ≠ g30 by have := Z29.out.lt; omega)
          clear e30 z30 b30
          try simp only [Act.put, List.setIfInBounds_toArray, List.set_cons_zero, List.set_cons_succ]
          refine wpAnyH_ready (rs := [9]) (by kernel_rfl) (by simp) ?_
          refine ready_storeV (o := { dst := none, op := Go.Op.store 24 (Go.Operand.tmp 7) (Go.Operand.tmp 25), type := 0, pos := _, after := #[{ on := 6, ground := Go.Ground.data }, { on := 1, ground := Go.Ground.data }, { on := 0, ground := Go.Ground.phase }, { on := 1, ground := Go.Ground.phase }, { on := 2, ground := Go.Ground.textOnly Go.Departure.lateStores }, { on := 3, ground := Go.Ground.textOnly Go.Departure.lateStores }, { on := 4, ground := Go.Ground.textOnly Go.Departure.lateStores }, { on := 5, ground := Go.Ground.textOnly Go.Departure.lateStores }, { on := 6, ground := Go.Ground.phase }, { on := 7, ground := Go.Ground.phase }, { on := 8, ground := Go.Ground.phase }], guard := none }) rfl rfl _ _ rfl g30 vz x rfl rfl Z30.out rfl HX.out (fun W31 z31 o31 => ⟨S30.out.trans (o31.below L30.out S30.out.size), ?_⟩) ?_
          ·
            have S31 := Lib.hid (S30.out.trans (o31.below L30.out S30.out.size))
            have Z31 := Lib.hid z31
            have Y31s9 := Lib.hid (Y30s9.out.only o31 NE30s9.out)
            have Y31s8 := Lib.hid (Y30s8.out.only o31 NE30s8.out)
            clear z31 o31
            simp only [Act.put]
            refine wpAnyH_ready (rs := [10]) (by kernel_rfl) (by simp) ?_
            refine ready_storeV (o := { dst := none, op := Go.Op.store 24 (Go.Operand.tmp 8) (Go.Operand.tmp 27), type := 0, pos := _, after := #[{ on := 7, ground := Go.Ground.data }, { on := 3, ground := Go.Ground.data }, { on := 9, ground := Go.Ground.chain }, { on := 0, ground := Go.Ground.phase }, { on := 1, ground := Go.Ground.phase }, { on := 2, ground := Go.Ground.phase }, { on := 3, ground := Go.Ground.phase }, { on := 4, ground := Go.Ground.textOnly Go.Departure.lateStores }, { on := 5, ground := Go.Ground.textOnly Go.Departure.lateStores }, { on := 6, ground := Go.Ground.phase }, { on := 7, ground := Go.Ground.phase }, { on := 8, ground := Go.Ground.phase }, { on := 9, ground := Go.Ground.phase }], guard := none }) rfl rfl _ _ rfl g29 vz y rfl rfl Y31s8.out rfl HY.out (fun W32 z32 o32 => ⟨S31.out.trans (o32.below L29.out S31.out.size), ?_⟩) ?_
            ·
              have S32 := Lib.hid (S31.out.trans (o32.below L29.out S31.out.size))
              have Z32 := Lib.hid z32
              have Y32s9 := Lib.hid (Y31s9.out.only o32 NE29s9.out)
              have Y32s7 := Lib.hid (Z31.out.only o32 NE30s8.out.symm)
              clear z32 o32
              simp only [Act.put]
              refine wpAnyH_ready (rs := [11]) (by kernel_rfl) (by simp) ?_
              refine ready_storeV (o := { dst := none, op := Go.Op.store 24 (Go.Operand.tmp 9) (Go.Operand.tmp 29), type := 0, pos := _, after := #[{ on := 8, ground := Go.Ground.data }, { on := 5, ground := Go.Ground.data }, { on := 10, ground := Go.Ground.chain }, { on := 0, ground := Go.Ground.phase }, { on := 1, ground := Go.Ground.phase }, { on := 2, ground := Go.Ground.phase }, { on := 3, ground := Go.Ground.phase }, { on := 4, ground := Go.Ground.phase }, { on := 5, ground := Go.Ground.phase }, { on := 6, ground := Go.Ground.phase }, { on := 7, ground := Go.Ground.phase }, { on := 8, ground := Go.Ground.phase }, { on := 9, ground := Go.Ground.phase }, { on := 10, ground := Go.Ground.phase }], guard := none }) rfl rfl _ _ rfl g23 vz z rfl rfl Y32s9.out rfl HZ.out (fun W33 z33 o33 => ⟨S32.out.trans (o33.below L23.out S32.out.size), ?_⟩) ?_
              ·
                have S33 := Lib.hid (S32.out.trans (o33.below L23.out S32.out.size))
                have Z33 := Lib.hid z33
                have Y33s8 := Lib.hid (Z32.out.only o33 NE29s9.out.symm)
                have Y33s7 := Lib.hid (Y32s7.out.only o33 NE30s9.out.symm)
                clear z33 o33
                simp only [Act.put]
                refine wpAnyH_done (by kernel_rfl) ?_ _
                exact ⟨rfl, g30, g29, g23, rfl, Y33s7.out, Y33s8.out, Z33.out, S33.out⟩
              exact AllReadyH.nil
            exact AllReadyH.nil
          exact AllReadyH.nil
        exact AllReadyH.nil
      exact AllReadyH.nil
    exact AllReadyH.nil
  rintro e v U0 ⟨rfl, g7, g8, g9, rfl, k7, k8, k9, bw⟩
  have P7 := Lib.hid k7
  have P8 := Lib.hid k8
  have P9 := Lib.hid k9
  have RA1 := Lib.hid (RA.out.below bw)
  have RB1 := Lib.hid (RB.out.below bw)
  have B1 := Lib.hid (step_ B0.out bw)
  clear Q0 B0 RA RB LS R3 k7 k8 k9 bw
  go_wp2_with fail
  refine Code.wp_mono (Q := fun e v V => e = .normal ∧ ∃ g10 g11, v = (⟨#[.agg (vc x ++ (vc y ++ vc z)).toArray, .slice Aa na ca, .slice Ab nb cb, .pointer (some ⟨w.heap.size, 0, none⟩), undef, undef, .bool false, .pointer (some ⟨g7, 0, none⟩), .pointer (some ⟨g8, 0, none⟩), .pointer (some ⟨g9, 0, none⟩), .pointer (some ⟨g10, 0, none⟩), .pointer (some ⟨g11, 0, none⟩), undef, undef, undef, .slice Aa na ca, .int .i64 (na : Int), .bool false, .bool false, .slice Ab nb cb, .int .i64 (nb : Int), .bool false, .bool false, undef, .pointer (some ⟨w.heap.size, 0, none⟩), .agg (vc x).toArray, .pointer (some ⟨w.heap.size, 16, none⟩), .agg (vc y).toArray, .pointer (some ⟨w.heap.size, 32, none⟩), .agg (vc z).toArray, .agg (vc x).toArray, .agg (vc y).toArray, .agg (vc (vj x y)).toArray, .agg (vc x).toArray, .agg (vc y).toArray, .agg (vc (vm x y)).toArray, undef, undef, undef, undef, undef, undef, undef, undef, undef, undef, undef, undef, undef, undef, undef, undef, undef, undef, undef, undef, undef, undef, undef, undef, undef, undef, undef, undef, undef, undef, undef, undef, undef, undef, undef, undef, undef, undef, undef, undef, undef, undef, undef, undef, undef, undef, undef, undef, undef, undef, undef, undef, undef, undef, undef, undef, undef, undef, undef, undef, undef, undef, undef, undef, undef, undef, undef, undef, undef, undef, undef, undef, undef, undef, undef, undef, undef, undef, undef, undef, undef, undef, undef, undef, undef], []⟩ : Act) ∧ Blk V g10 24 (vc (vj x y)) ∧ Blk V g11 24 (vc (vm x y)) ∧ Below U0.heap.size U0 V) ?_ ?_
  rotate_left
  ·
    have S0 := Lib.hid (show Below U0.heap.size U0 U0.drew from below_drew (Below.refl _ _))
    refine wp_region_noPanic ?_
    refine wp_region_held_drew (S := fun W => Below U0.heap.size U0 W) (by kernel_rfl) S0.out (fun _ => ?_)
    refine wpAnyH_take (i := 0) (oi := { dst := some 30, op := Go.Op.load 24 (Go.Operand.tmp 7), type := 24, pos := _, after := #[], guard := none }) (v := .agg (vc x).toArray) rfl (by kernel_rfl) (by kernel_rfl) (by kernel_rfl) (fun _ _ _ h => h) (yieldsIf_load_mid (by rfl) 24 (.tmp 7) rfl g7 0 rfl (vc x) _ (fun W hW => (P7.out.below hW).range) t24.und rfl (t24.size HX.out)) S0.out ?_
    try simp only [Act.put, List.setIfInBounds_toArray, List.set_cons_zero, List.set_cons_succ]
    refine wpAnyH_take (i := 1) (oi := { dst := some 31, op := Go.Op.load 24 (Go.Operand.tmp 8), type := 24, pos := _, after := #[], guard := none }) (v := .agg (vc y).toArray) rfl (by kernel_rfl) (by kernel_rfl) (by kernel_rfl) (fun _ _ _ h => h) (yieldsIf_load_mid (by rfl) 24 (.tmp 8) rfl g8 0 rfl (vc y) _ (fun W hW => (P8.out.below hW).range) t24.und rfl (t24.size HY.out)) S0.out ?_
    try simp only [Act.put, List.setIfInBounds_toArray, List.set_cons_zero, List.set_cons_succ]
    refine wpAnyH_take (i := 3) (oi := { dst := some 33, op := Go.Op.load 24 (Go.Operand.tmp 7), type := 24, pos := _, after := #[], guard := none }) (v := .agg (vc x).toArray) rfl (by kernel_rfl) (by kernel_rfl) (by kernel_rfl) (fun _ _ _ h => h) (yieldsIf_load_mid (by rfl) 24 (.tmp 7) rfl g7 0 rfl (vc x) _ (fun W hW => (P7.out.below hW).range) t24.und rfl (t24.size HX.out)) S0.out ?_
    try simp only [Act.put, List.setIfInBounds_toArray, List.set_cons_zero, List.set_cons_succ]
    refine wpAnyH_take (i := 4) (oi := { dst := some 34, op := Go.Op.load 24 (Go.Operand.tmp 8), type := 24, pos := _, after := #[], guard := none }) (v := .agg (vc y).toArray) rfl (by kernel_rfl) (by kernel_rfl) (by kernel_rfl) (fun _ _ _ h => h) (yieldsIf_load_mid (by rfl) 24 (.tmp 8) rfl g8 0 rfl (vc y) _ (fun W hW => (P8.out.below hW).range) t24.und rfl (t24.size HY.out)) S0.out ?_
    try simp only [Act.put, List.setIfInBounds_toArray, List.set_cons_zero, List.set_cons_succ]
    refine wpAnyH_ready (rs := [2, 6, 7]) (by kernel_rfl) (by simp) ?_
    refine AllReadyH.cons (o := { dst := some 32, op := Go.Op.call { callee := Go.Callee.value (Go.Operand.func 7), args := #[Go.Operand.tmp 30, Go.Operand.tmp 31], argTypes := #[24, 24] }, type := 24, pos := _, after := #[{ on := 0, ground := Go.Ground.data }, { on := 1, ground := Go.Ground.data }], guard := none }) rfl (fun K hK => ?_) ?_
    ·
      go_simp
      refine (joinV_is x y _ HX.out HY.out).mono ?_
      rintro e W1 ⟨rfl, b1⟩
      have S1 := Lib.hid (step_ S0.out b1)
      clear b1
      go_wp2_with fail
      refine hK.out _ _ S1.out (fun _ => ?_)
      clear hK K
      try simp only [Act.put, List.setIfInBounds_toArray, List.set_cons_zero, List.set_cons_succ]
      refine wpAnyH_ready (rs := [5, 6, 7]) (by kernel_rfl) (by simp) ?_
      refine AllReadyH.cons (o := { dst := some 35, op := Go.Op.call { callee := Go.Callee.value (Go.Operand.func 9), args := #[Go.Operand.tmp 33, Go.Operand.tmp 34], argTypes := #[24, 24] }, type := 24, pos := _, after := #[{ on := 3, ground := Go.Ground.data }, { on := 4, ground := Go.Ground.data }, { on := 2, ground := Go.Ground.chain }], guard := none }) rfl (fun K hK => ?_) ?_
      ·
        go_simp
        refine (meetV_is x y _ HX.out HY.out).mono ?_
        rintro e W2 ⟨rfl, b2⟩
        have S2 := Lib.hid (step_ S1.out b2)
        clear b2
        go_wp2_with fail
        refine hK.out _ _ S2.out (fun _ => ?_)
        clear hK K
        try simp only [Act.put, List.setIfInBounds_toArray, List.set_cons_zero, List.set_cons_succ]
        refine wpAnyH_ready (rs := [6, 7]) (by kernel_rfl) (by simp) ?_
        refine ready_allocV (o := { dst := some 10, op := Go.Op.alloc 24, type := 0, pos := _, after := #[], guard := none }) rfl rfl rfl (fun g3 W3 e3 z3 b3 => ⟨step_ S2.out b3, ?_⟩) ?_
        ·
          have S3 := Lib.hid (step_ S2.out b3)
          have Z3 := Lib.hid z3
          have L3 := Lib.hid (show U0.heap.size ≤ g3 from e3 ▸ S2.out.size)
          clear e3 z3 b3
          try simp only [Act.put, List.setIfInBounds_toArray, List.set_cons_zero, List.set_cons_succ]
          refine wpAnyH_ready (rs := [7]) (by kernel_rfl) (by simp) ?_
          refine ready_allocV (o := { dst := some 11, op := Go.Op.alloc 24, type := 0, pos := _, after := #[], guard := none }) rfl rfl rfl (fun g4 W4 e4 z4 b4 => ⟨step_ S3.out b4, ?_⟩) ?_
          ·
            have S4 := Lib.hid (step_ S3.out b4)
            have Z4 := Lib.hid z4
            have L4 := Lib.hid (show U0.heap.size ≤ g4 from e4 ▸ S3.out.size)
            have Y4s10 := Lib.hid (Z3.out.below b4)
            have NE4s10 := Lib.hid (show g3 ≠ g4 by have := Z3.out.lt; omega)
            clear e4 z4 b4
            try simp only [Act.put, List.setIfInBounds_toArray, List.set_cons_zero, List.set_cons_succ]
            refine wpAnyH_ready (rs := [8]) (by kernel_rfl) (by simp) ?_
            refine ready_storeV (o := { dst := none, op := Go.Op.store 24 (Go.Operand.tmp 10) (Go.Operand.tmp 32), type := 0, pos := _, after := #[{ on := 6, ground := Go.Ground.data }, { on := 2, ground := Go.Ground.data }, { on := 5, ground := Go.Ground.chain }, { on := 0, ground := Go.Ground.phase }, { on := 1, ground := Go.Ground.phase }, { on := 2, ground := Go.Ground.phase }, { on := 3, ground := Go.Ground.textOnly Go.Departure.lateStores }, { on := 4, ground := Go.Ground.textOnly Go.Departure.lateStores }, { on := 5, ground := Go.Ground.textOnly Go.Departure.lateStoresUnsure }, { on := 6, ground := Go.Ground.phase }, { on := 7, ground := Go.Ground.phase }], guard := none }) rfl rfl _ _ rfl g3 vz (vj x y) rfl rfl Y4s10.out rfl (vj_len HX.out HY.out) (fun W5 z5 o5 => ⟨S4.out.trans (o5.below L3.out S4.out.size), ?_⟩) ?_
            ·
              have S5 := Lib.hid (S4.out.trans (o5.below L3.out S4.out.size))
              have Z5 := Lib.hid z5
              have Y5s11 := Lib.hid (Z4.out.only o5 NE4s10.out.symm)
              clear z5 o5
              simp only [Act.put]
              refine wpAnyH_ready (rs := [9]) (by kernel_rfl) (by simp) ?_
              refine ready_storeV (o := { dst := none, op := Go.Op.store 24 (Go.Operand.tmp 11) (Go.Operand.tmp 35), type := 0, pos := _, after := #[{ on := 7, ground := Go.Ground.data }, { on := 5, ground := Go.Ground.data }, { on := 8, ground := Go.Ground.chain }, { on := 0, ground := Go.Ground.phase }, { on := 1, ground := Go.Ground.phase }, { on := 2, ground := Go.Ground.phase }, { on := 3, ground := Go.Ground.phase }, { on := 4, ground := Go.Ground.phase }, { on := 5, ground := Go.Ground.phase }, { on := 6, ground := Go.Ground.phase }, { on := 7, ground := Go.Ground.phase }, { on := 8, ground := Go.Ground.phase }], guard := none }) rfl rfl _ _ rfl g4 vz (vm x y) rfl rfl Y5s11.out rfl (vm_len HX.out HY.out) (fun W6 z6 o6 => ⟨S5.out.trans (o6.below L4.out S5.out.size), ?_⟩) ?_
              ·
                have S6 := Lib.hid (S5.out.trans (o6.below L4.out S5.out.size))
                have Z6 := Lib.hid z6
                have Y6s10 := Lib.hid (Z5.out.only o6 NE4s10.out)
                clear z6 o6
                simp only [Act.put]
                refine wpAnyH_done (by kernel_rfl) ?_ _
                exact ⟨rfl, g3, g4, rfl, Y6s10.out, Z6.out, S6.out⟩
              exact AllReadyH.nil
            exact AllReadyH.nil
          exact AllReadyH.nil
        refine ready_allocV (o := { dst := some 11, op := Go.Op.alloc 24, type := 0, pos := _, after := #[], guard := none }) rfl rfl rfl (fun g7 W7 e7 z7 b7 => ⟨step_ S2.out b7, ?_⟩) ?_
        ·
          have S7 := Lib.hid (step_ S2.out b7)
          have Z7 := Lib.hid z7
          have L7 := Lib.hid (show U0.heap.size ≤ g7 from e7 ▸ S2.out.size)
          clear e7 z7 b7
          try simp only [Act.put, List.setIfInBounds_toArray, List.set_cons_zero, List.set_cons_succ]
          refine wpAnyH_ready (rs := [6]) (by kernel_rfl) (by simp) ?_
          refine ready_allocV (o := { dst := some 10, op := Go.Op.alloc 24, type := 0, pos := _, after := #[], guard := none }) rfl rfl rfl (fun g8 W8 e8 z8 b8 => ⟨step_ S7.out b8, ?_⟩) ?_
          ·
            have S8 := Lib.hid (step_ S7.out b8)
            have Z8 := Lib.hid z8
            have L8 := Lib.hid (show U0.heap.size ≤ g8 from e8 ▸ S7.out.size)
            have Y8s11 := Lib.hid (Z7.out.below b8)
            have NE8s11 := Lib.hid (show g7 ≠ g8 by have := Z7.out.lt; omega)
            clear e8 z8 b8
            try simp only [Act.put, List.setIfInBounds_toArray, List.set_cons_zero, List.set_cons_succ]
            refine wpAnyH_ready (rs := [8]) (by kernel_rfl) (by simp) ?_
            refine ready_storeV (o := { dst := none, op := Go.Op.store 24 (Go.Operand.tmp 10) (Go.Operand.tmp 32), type := 0, pos := _, after := #[{ on := 6, ground := Go.Ground.data }, { on := 2, ground := Go.Ground.data }, { on := 5, ground := Go.Ground.chain }, { on := 0, ground := Go.Ground.phase }, { on := 1, ground := Go.Ground.phase }, { on := 2, ground := Go.Ground.phase }, { on := 3, ground := Go.Ground.textOnly Go.Departure.lateStores }, { on := 4, ground := Go.Ground.textOnly Go.Departure.lateStores }, { on := 5, ground := Go.Ground.textOnly Go.Departure.lateStoresUnsure }, { on := 6, ground := Go.Ground.phase }, { on := 7, ground := Go.Ground.phase }], guard := none }) rfl rfl _ _ rfl g8 vz (vj x y) rfl rfl Z8.out rfl (vj_len HX.out HY.out) (fun W9 z9 o9 => ⟨S8.out.trans (o9.below L8.out S8.out.size), ?_⟩) ?_
            ·
              have S9 := Lib.hid (S8.out.trans (o9.below L8.out S8.out.size))
              have Z9 := Lib.hid z9
              have Y9s11 := Lib.hid (Y8s11.out.only o9 NE8s11.out)
              clear z9 o9
              simp only [Act.put]
              refine wpAnyH_ready (rs := [9]) (by kernel_rfl) (by simp) ?_
              refine ready_storeV (o := { dst := none, op := Go.Op.store 24 (Go.Operand.tmp 11) (Go.Operand.tmp 35), type := 0, pos := _, after := #[{ on := 7, ground := Go.Ground.data }, { on := 5, ground := Go.Ground.data }, { on := 8, ground := Go.Ground.chain }, { on := 0, ground := Go.Ground.phase }, { on := 1, ground := Go.Ground.phase }, { on := 2, ground := Go.Ground.phase }, { on := 3, ground := Go.Ground.phase }, { on := 4, ground := Go.Ground.phase }, { on := 5, ground := Go.Ground.phase }, { on := 6, ground := Go.Ground.phase }, { on := 7, ground := Go.Ground.phase }, { on := 8, ground := Go.Ground.phase }], guard := none }) rfl rfl _ _ rfl g7 vz (vm x y) rfl rfl Y9s11.out rfl (vm_len HX.out HY.out) (fun W10 z10 o10 => ⟨S9.out.trans (o10.below L7.out S9.out.size), ?_⟩) ?_
              ·
                have S10 := Lib.hid (S9.out.trans (o10.below L7.out S9.out.size))
                have Z10 := Lib.hid z10
                have Y10s10 := Lib.hid (Z9.out.only o10 NE8s11.out.symm)
                clear z10 o10
                simp only [Act.put]
                refine wpAnyH_done (by kernel_rfl) ?_ _
                exact ⟨rfl, g8, g7, rfl, Y10s10.out, Z10.out, S10.out⟩
              exact AllReadyH.nil
            exact AllReadyH.nil
          exact AllReadyH.nil
        exact AllReadyH.nil
      refine ready_allocV (o := { dst := some 10, op := Go.Op.alloc 24, type := 0, pos := _, after := #[], guard := none }) rfl rfl rfl (fun g11 W11 e11 z11 b11 => ⟨step_ S1.out b11, ?_⟩) ?_
      ·
        have S11 := Lib.hid (step_ S1.out b11)
        have Z11 := Lib.hid z11
        have L11 := Lib.hid (show U0.heap.size ≤ g11 from e11 ▸ S1.out.size)
        clear e11 z11 b11
        try simp only [Act.put, List.setIfInBounds_toArray, List.set_cons_zero, List.set_cons_succ]
        refine wpAnyH_ready (rs := [5, 7]) (by kernel_rfl) (by simp) ?_
        refine AllReadyH.cons (o := { dst := some 35, op := Go.Op.call { callee := Go.Callee.value (Go.Operand.func 9), args := #[Go.Operand.tmp 33, Go.Operand.tmp 34], argTypes := #[24, 24] }, type := 24, pos := _, after := #[{ on := 3, ground := Go.Ground.data }, { on := 4, ground := Go.Ground.data }, { on := 2, ground := Go.Ground.chain }], guard := none }) rfl (fun K hK => ?_) ?_
        ·
          go_simp
          refine (meetV_is x y _ HX.out HY.out).mono ?_
          rintro e W12 ⟨rfl, b12⟩
          have S12 := Lib.hid (step_ S11.out b12)
          have Y12s10 := Lib.hid (Z11.out.below b12)
          clear b12
          go_wp2_with fail
          refine hK.out _ _ S12.out (fun _ => ?_)
          clear hK K
          try simp only [Act.put, List.setIfInBounds_toArray, List.set_cons_zero, List.set_cons_succ]
          refine wpAnyH_ready (rs := [7]) (by kernel_rfl) (by simp) ?_
          refine ready_allocV (o := { dst := some 11, op := Go.Op.alloc 24, type := 0, pos := _, after := #[], guard := none }) rfl rfl rfl (fun g13 W13 e13 z13 b13 => ⟨step_ S12.out b13, ?_⟩) ?_
          ·
            have S13 := Lib.hid (step_ S12.out b13)
            have Z13 := Lib.hid z13
            have L13 := Lib.hid (show U0.heap.size ≤ g13 from e13 ▸ S12.out.size)
            have Y13s10 := Lib.hid (Y12s10.out.below b13)
            have NE13s10 := Lib.hid (show g11 ≠ g13 by have := Y12s10.out.lt; omega)
            clear e13 z13 b13
            try simp only [Act.put, List.setIfInBounds_toArray, List.set_cons_zero, List.set_cons_succ]
            refine wpAnyH_ready (rs := [8]) (by kernel_rfl) (by simp) ?_
            refine ready_storeV (o := { dst := none, op := Go.Op.store 24 (Go.Operand.tmp 10) (Go.Operand.tmp 32), type := 0, pos := _, after := #[{ on := 6, ground := Go.Ground.data }, { on := 2, ground := Go.Ground.data }, { on := 5, ground := Go.Ground.chain }, { on := 0, ground := Go.Ground.phase }, { on := 1, ground := Go.Ground.phase }, { on := 2, ground := Go.Ground.phase }, { on := 3, ground := Go.Ground.textOnly Go.Departure.lateStores }, { on := 4, ground := Go.Ground.textOnly Go.Departure.lateStores }, { on := 5, ground := Go.Ground.textOnly Go.Departure.lateStoresUnsure }, { on := 6, ground := Go.Ground.phase }, { on := 7, ground := Go.Ground.phase }], guard := none }) rfl rfl _ _ rfl g11 vz (vj x y) rfl rfl Y13s10.out rfl (vj_len HX.out HY.out) (fun W14 z14 o14 => ⟨S13.out.trans (o14.below L11.out S13.out.size), ?_⟩) ?_
            ·
              have S14 := Lib.hid (S13.out.trans (o14.below L11.out S13.out.size))
              have Z14 := Lib.hid z14
              have Y14s11 := Lib.hid (Z13.out.only o14 NE13s10.out.symm)
              clear z14 o14
              simp only [Act.put]
              refine wpAnyH_ready (rs := [9]) (by kernel_rfl) (by simp) ?_
              refine ready_storeV (o := { dst := none, op := Go.Op.store 24 (Go.Operand.tmp 11) (Go.Operand.tmp 35), type := 0, pos := _, after := #[{ on := 7, ground := Go.Ground.data }, { on := 5, ground := Go.Ground.data }, { on := 8, ground := Go.Ground.chain }, { on := 0, ground := Go.Ground.phase }, { on := 1, ground := Go.Ground.phase }, { on := 2, ground := Go.Ground.phase }, { on := 3, ground := Go.Ground.phase }, { on := 4, ground := Go.Ground.phase }, { on := 5, ground := Go.Ground.phase }, { on := 6, ground := Go.Ground.phase }, { on := 7, ground := Go.Ground.phase }, { on := 8, ground := Go.Ground.phase }], guard := none }) rfl rfl _ _ rfl g13 vz (vm x y) rfl rfl Y14s11.out rfl (vm_len HX.out HY.out) (fun W15 z15 o15 => ⟨S14.out.trans (o15.below L13.out S14.out.size), ?_⟩) ?_
              ·
                have S15 := Lib.hid (S14.out.trans (o15.below L13.out S14.out.size))
                have Z15 := Lib.hid z15
                have Y15s10 := Lib.hid (Z14.out.only o15 NE13s10.out)
                clear z15 o15
                simp only [Act.put]
                refine wpAnyH_done (by kernel_rfl) ?_ _
                exact ⟨rfl, g11, g13, rfl, Y15s10.out, Z15.out, S15.out⟩
              exact AllReadyH.nil
            exact AllReadyH.nil
          exact AllReadyH.nil
        refine ready_allocV (o := { dst := some 11, op := Go.Op.alloc 24, type := 0, pos := _, after := #[], guard := none }) rfl rfl rfl (fun g16 W16 e16 z16 b16 => ⟨step_ S11.out b16, ?_⟩) ?_
        ·
          have S16 := Lib.hid (step_ S11.out b16)
          have Z16 := Lib.hid z16
          have L16 := Lib.hid (show U0.heap.size ≤ g16 from e16 ▸ S11.out.size)
          have Y16s10 := Lib.hid (Z11.out.below b16)
          have NE16s10 := Lib.hid (show g11 ≠ g16 by have := Z11.out.lt; omega)
          clear e16 z16 b16
          try simp only [Act.put, List.setIfInBounds_toArray, List.set_cons_zero, List.set_cons_succ]
          refine wpAnyH_ready (rs := [5]) (by kernel_rfl) (by simp) ?_
          refine AllReadyH.cons (o := { dst := some 35, op := Go.Op.call { callee := Go.Callee.value (Go.Operand.func 9), args := #[Go.Operand.tmp 33, Go.Operand.tmp 34], argTypes := #[24, 24] }, type := 24, pos := _, after := #[{ on := 3, ground := Go.Ground.data }, { on := 4, ground := Go.Ground.data }, { on := 2, ground := Go.Ground.chain }], guard := none }) rfl (fun K hK => ?_) ?_
          ·
            go_simp
            refine (meetV_is x y _ HX.out HY.out).mono ?_
            rintro e W17 ⟨rfl, b17⟩
            have S17 := Lib.hid (step_ S16.out b17)
            have Y17s10 := Lib.hid (Y16s10.out.below b17)
            have Y17s11 := Lib.hid (Z16.out.below b17)
            clear b17
            go_wp2_with fail
            refine hK.out _ _ S17.out (fun _ => ?_)
            clear hK K
            try simp only [Act.put, List.setIfInBounds_toArray, List.set_cons_zero, List.set_cons_succ]
            refine wpAnyH_ready (rs := [8]) (by kernel_rfl) (by simp) ?_
            refine ready_storeV (o := { dst := none, op := Go.Op.store 24 (Go.Operand.tmp 10) (Go.Operand.tmp 32), type := 0, pos := _, after := #[{ on := 6, ground := Go.Ground.data }, { on := 2, ground := Go.Ground.data }, { on := 5, ground := Go.Ground.chain }, { on := 0, ground := Go.Ground.phase }, { on := 1, ground := Go.Ground.phase }, { on := 2, ground := Go.Ground.phase }, { on := 3, ground := Go.Ground.textOnly Go.Departure.lateStores }, { on := 4, ground := Go.Ground.textOnly Go.Departure.lateStores }, { on := 5, ground := Go.Ground.textOnly Go.Departure.lateStoresUnsure }, { on := 6, ground := Go.Ground.phase }, { on := 7, ground := Go.Ground.phase }], guard := none }) rfl rfl _ _ rfl g11 vz (vj x y) rfl rfl Y17s10.out rfl (vj_len HX.out HY.out) (fun W18 z18 o18 => ⟨S17.out.trans (o18.below L11.out S17.out.size), ?_⟩) ?_
            ·
              have S18 := Lib.hid (S17.out.trans (o18.below L11.out S17.out.size))
              have Z18 := Lib.hid z18
              have Y18s11 := Lib.hid (Y17s11.out.only o18 NE16s10.out.symm)
              clear z18 o18
              simp only [Act.put]
              refine wpAnyH_ready (rs := [9]) (by kernel_rfl) (by simp) ?_
              refine ready_storeV (o := { dst := none, op := Go.Op.store 24 (Go.Operand.tmp 11) (Go.Operand.tmp 35), type := 0, pos := _, after := #[{ on := 7, ground := Go.Ground.data }, { on := 5, ground := Go.Ground.data }, { on := 8, ground := Go.Ground.chain }, { on := 0, ground := Go.Ground.phase }, { on := 1, ground := Go.Ground.phase }, { on := 2, ground := Go.Ground.phase }, { on := 3, ground := Go.Ground.phase }, { on := 4, ground := Go.Ground.phase }, { on := 5, ground := Go.Ground.phase }, { on := 6, ground := Go.Ground.phase }, { on := 7, ground := Go.Ground.phase }, { on := 8, ground := Go.Ground.phase }], guard := none }) rfl rfl _ _ rfl g16 vz (vm x y) rfl rfl Y18s11.out rfl (vm_len HX.out HY.out) (fun W19 z19 o19 => ⟨S18.out.trans (o19.below L16.out S18.out.size), ?_⟩) ?_
              ·
                have S19 := Lib.hid (S18.out.trans (o19.below L16.out S18.out.size))
                have Z19 := Lib.hid z19
                have Y19s10 := Lib.hid (Z18.out.only o19 NE16s10.out)
                clear z19 o19
                simp only [Act.put]
                refine wpAnyH_done (by kernel_rfl) ?_ _
                exact ⟨rfl, g11, g16, rfl, Y19s10.out, Z19.out, S19.out⟩
              exact AllReadyH.nil
            exact AllReadyH.nil
          exact AllReadyH.nil
        exact AllReadyH.nil
      refine ready_allocV (o := { dst := some 11, op := Go.Op.alloc 24, type := 0, pos := _, after := #[], guard := none }) rfl rfl rfl (fun g20 W20 e20 z20 b20 => ⟨step_ S1.out b20, ?_⟩) ?_
      ·
        have S20 := Lib.hid (step_ S1.out b20)
        have Z20 := Lib.hid z20
        have L20 := Lib.hid (show U0.heap.size ≤ g20 from e20 ▸ S1.out.size)
        clear e20 z20 b20
        try simp only [Act.put, List.setIfInBounds_toArray, List.set_cons_zero, List.set_cons_succ]
        refine wpAnyH_ready (rs := [5, 6]) (by kernel_rfl) (by simp) ?_
        refine AllReadyH.cons (o := { dst := some 35, op := Go.Op.call { callee := Go.Callee.value (Go.Operand.func 9), args := #[Go.Operand.tmp 33, Go.Operand.tmp 34], argTypes := #[24, 24] }, type := 24, pos := _, after := #[{ on := 3, ground := Go.Ground.data }, { on := 4, ground := Go.Ground.data }, { on := 2, ground := Go.Ground.chain }], guard := none }) rfl (fun K hK => ?_) ?_
        ·
          go_simp
          refine (meetV_is x y _ HX.out HY.out).mono ?_
          rintro e W21 ⟨rfl, b21⟩
          have S21 := Lib.hid (step_ S20.out b21)
          have Y21s11 := Lib.hid (Z20.out.below b21)
          clear b21
          go_wp2_with fail
          refine hK.out _ _ S21.out (fun _ => ?_)
          clear hK K
          try simp only [Act.put, List.setIfInBounds_toArray, List.set_cons_zero, List.set_cons_succ]
          refine wpAnyH_ready (rs := [6]) (by kernel_rfl) (by simp) ?_
          refine ready_allocV (o := { dst := some 10, op := Go.Op.alloc 24, type := 0, pos := _, after := #[], guard := none }) rfl rfl rfl (fun g22 W22 e22 z22 b22 => ⟨step_ S21.out b22, ?_⟩) ?_
          ·
            have S22 := Lib.hid (step_ S21.out b22)
            have Z22 := Lib.hid z22
            have L22 := Lib.hid (show U0.heap.size ≤ g22 from e22 ▸ S21.out.size)
            have Y22s11 := Lib.hid (Y21s11.out.below b22)
            have NE22s11 := Lib.hid (show g20 ≠ g22 by have := Y21s11.out.lt; omega)
            clear e22 z22 b22
            try simp only [Act.put, List.setIfInBounds_toArray, List.set_cons_zero, List.set_cons_succ]
            refine wpAnyH_ready (rs := [8]) (by kernel_rfl) (by simp) ?_
            refine ready_storeV (o := { dst := none, op := Go.Op.store 24 (Go.Operand.tmp 10) (Go.Operand.tmp 32), type := 0, pos := _, after := #[{ on := 6, ground := Go.Ground.data }, { on := 2, ground := Go.Ground.data }, { on := 5, ground := Go.Ground.chain }, { on := 0, ground := Go.Ground.phase }, { on := 1, ground := Go.Ground.phase }, { on := 2, ground := Go.Ground.phase }, { on := 3, ground := Go.Ground.textOnly Go.Departure.lateStores }, { on := 4, ground := Go.Ground.textOnly Go.Departure.lateStores }, { on := 5, ground := Go.Ground.textOnly Go.Departure.lateStoresUnsure }, { on := 6, ground := Go.Ground.phase }, { on := 7, ground := Go.Ground.phase }], guard := none }) rfl rfl _ _ rfl g22 vz (vj x y) rfl rfl Z22.out rfl (vj_len HX.out HY.out) (fun W23 z23 o23 => ⟨S22.out.trans (o23.below L22.out S22.out.size), ?_⟩) ?_
            ·
              have S23 := Lib.hid (S22.out.trans (o23.below L22.out S22.out.size))
              have Z23 := Lib.hid z23
              have Y23s11 := Lib.hid (Y22s11.out.only o23 NE22s11.out)
              clear z23 o23
              simp only [Act.put]
              refine wpAnyH_ready (rs := [9]) (by kernel_rfl) (by simp) ?_
              refine ready_storeV (o := { dst := none, op := Go.Op.store 24 (Go.Operand.tmp 11) (Go.Operand.tmp 35), type := 0, pos := _, after := #[{ on := 7, ground := Go.Ground.data }, { on := 5, ground := Go.Ground.data }, { on := 8, ground := Go.Ground.chain }, { on := 0, ground := Go.Ground.phase }, { on := 1, ground := Go.Ground.phase }, { on := 2, ground := Go.Ground.phase }, { on := 3, ground := Go.Ground.phase }, { on := 4, ground := Go.Ground.phase }, { on := 5, ground := Go.Ground.phase }, { on := 6, ground := Go.Ground.phase }, { on := 7, ground := Go.Ground.phase }, { on := 8, ground := Go.Ground.phase }], guard := none }) rfl rfl _ _ rfl g20 vz (vm x y) rfl rfl Y23s11.out rfl (vm_len HX.out HY.out) (fun W24 z24 o24 => ⟨S23.out.trans (o24.below L20.out S23.out.size), ?_⟩) ?_
              ·
                have S24 := Lib.hid (S23.out.trans (o24.below L20.out S23.out.size))
                have Z24 := Lib.hid z24
                have Y24s10 := Lib.hid (Z23.out.only o24 NE22s11.out.symm)
                clear z24 o24
                simp only [Act.put]
                refine wpAnyH_done (by kernel_rfl) ?_ _
                exact ⟨rfl, g22, g20, rfl, Y24s10.out, Z24.out, S24.out⟩
              exact AllReadyH.nil
            exact AllReadyH.nil
          exact AllReadyH.nil
        refine ready_allocV (o := { dst := some 10, op := Go.Op.alloc 24, type := 0, pos := _, after := #[], guard := none }) rfl rfl rfl (fun g25 W25 e25 z25 b25 => ⟨step_ S20.out b25, ?_⟩) ?_
        ·
          have S25 := Lib.hid (step_ S20.out b25)
          have Z25 := Lib.hid z25
          have L25 := Lib.hid (show U0.heap.size ≤ g25 from e25 ▸ S20.out.size)
          have Y25s11 := Lib.hid (Z20.out.below b25)
          have NE25s11 := Lib.hid (show g20 ≠ g25 by have := Z20.out.lt; omega)
          clear e25 z25 b25
          try simp only [Act.put, List.setIfInBounds_toArray, List.set_cons_zero, List.set_cons_succ]
          refine wpAnyH_ready (rs := [5]) (by kernel_rfl) (by simp) ?_
          refine AllReadyH.cons (o := { dst := some 35, op := Go.Op.call { callee := Go.Callee.value (Go.Operand.func 9), args := #[Go.Operand.tmp 33, Go.Operand.tmp 34], argTypes := #[24, 24] }, type := 24, pos := _, after := #[{ on := 3, ground := Go.Ground.data }, { on := 4, ground := Go.Ground.data }, { on := 2, ground := Go.Ground.chain }], guard := none }) rfl (fun K hK => ?_) ?_
          ·
            go_simp
            refine (meetV_is x y _ HX.out HY.out).mono ?_
            rintro e W26 ⟨rfl, b26⟩
            have S26 := Lib.hid (step_ S25.out b26)
            have Y26s11 := Lib.hid (Y25s11.out.below b26)
            have Y26s10 := Lib.hid (Z25.out.below b26)
            clear b26
            go_wp2_with fail
            refine hK.out _ _ S26.out (fun _ => ?_)
            clear hK K
            try simp only [Act.put, List.setIfInBounds_toArray, List.set_cons_zero, List.set_cons_succ]
            refine wpAnyH_ready (rs := [8]) (by kernel_rfl) (by simp) ?_
            refine ready_storeV (o := { dst := none, op := Go.Op.store 24 (Go.Operand.tmp 10) (Go.Operand.tmp 32), type := 0, pos := _, after := #[{ on := 6, ground := Go.Ground.data }, { on := 2, ground := Go.Ground.data }, { on := 5, ground := Go.Ground.chain }, { on := 0, ground := Go.Ground.phase }, { on := 1, ground := Go.Ground.phase }, { on := 2, ground := Go.Ground.phase }, { on := 3, ground := Go.Ground.textOnly Go.Departure.lateStores }, { on := 4, ground := Go.Ground.textOnly Go.Departure.lateStores }, { on := 5, ground := Go.Ground.textOnly Go.Departure.lateStoresUnsure }, { on := 6, ground := Go.Ground.phase }, { on := 7, ground := Go.Ground.phase }], guard := none }) rfl rfl _ _ rfl g25 vz (vj x y) rfl rfl Y26s10.out rfl (vj_len HX.out HY.out) (fun W27 z27 o27 => ⟨S26.out.trans (o27.below L25.out S26.out.size), ?_⟩) ?_
            ·
              have S27 := Lib.hid (S26.out.trans (o27.below L25.out S26.out.size))
              have Z27 := Lib.hid z27
              have Y27s11 := Lib.hid (Y26s11.out.only o27 NE25s11.out)
              clear z27 o27
              simp only [Act.put]
              refine wpAnyH_ready (rs := [9]) (by kernel_rfl) (by simp) ?_
              refine ready_storeV (o := { dst := none, op := Go.Op.store 24 (Go.Operand.tmp 11) (Go.Operand.tmp 35), type := 0, pos := _, after := #[{ on := 7, ground := Go.Ground.data }, { on := 5, ground := Go.Ground.data }, { on := 8, ground := Go.Ground.chain }, { on := 0, ground := Go.Ground.phase }, { on := 1, ground := Go.Ground.phase }, { on := 2, ground := Go.Ground.phase }, { on := 3, ground := Go.Ground.phase }, { on := 4, ground := Go.Ground.phase }, { on := 5, ground := Go.Ground.phase }, { on := 6, ground := Go.Ground.phase }, { on := 7, ground := Go.Ground.phase }, { on := 8, ground := Go.Ground.phase }], guard := none }) rfl rfl _ _ rfl g20 vz (vm x y) rfl rfl Y27s11.out rfl (vm_len HX.out HY.out) (fun W28 z28 o28 => ⟨S27.out.trans (o28.below L20.out S27.out.size), ?_⟩) ?_
              ·
                have S28 := Lib.hid (S27.out.trans (o28.below L20.out S27.out.size))
                have Z28 := Lib.hid z28
                have Y28s10 := Lib.hid (Z27.out.only o28 NE25s11.out.symm)
                clear z28 o28
                simp only [Act.put]
                refine wpAnyH_done (by kernel_rfl) ?_ _
                exact ⟨rfl, g25, g20, rfl, Y28s10.out, Z28.out, S28.out⟩
              exact AllReadyH.nil
            exact AllReadyH.nil
          exact AllReadyH.nil
        exact AllReadyH.nil
      exact AllReadyH.nil
    refine ready_allocV (o := { dst := some 10, op := Go.Op.alloc 24, type := 0, pos := _, after := #[], guard := none }) rfl rfl rfl (fun g29 W29 e29 z29 b29 => ⟨step_ S0.out b29, ?_⟩) ?_
    ·
      have S29 := Lib.hid (step_ S0.out b29)
      have Z29 := Lib.hid z29
      have L29 := Lib.hid (show U0.heap.size ≤ g29 from e29 ▸ S0.out.size)
      clear e29 z29 b29
      try simp only [Act.put, List.setIfInBounds_toArray, List.set_cons_zero, List.set_cons_succ]
      refine wpAnyH_ready (rs := [2, 7]) (by kernel_rfl) (by simp) ?_
      refine AllReadyH.cons (o := { dst := some 32, op := Go.Op.call { callee := Go.Callee.value (Go.Operand.func 7), args := #[Go.Operand.tmp 30, Go.Operand.tmp 31], argTypes := #[24, 24] }, type := 24, pos := _, after := #[{ on := 0, ground := Go.Ground.data }, { on := 1, ground := Go.Ground.data }], guard := none }) rfl (fun K hK => ?_) ?_
      ·
        go_simp
        refine (joinV_is x y _ HX.out HY.out).mono ?_
        rintro e W30 ⟨rfl, b30⟩
        have S30 := Lib.hid (step_ S29.out b30)
        have Y30s10 := Lib.hid (Z29.out.below b30)
        clear b30
        go_wp2_with fail
        refine hK.out _ _ S30.out (fun _ => ?_)
        clear hK K
        try simp only [Act.put, List.setIfInBounds_toArray, List.set_cons_zero, List.set_cons_succ]
        refine wpAnyH_ready (rs := [5, 7]) (by kernel_rfl) (by simp) ?_
        refine AllReadyH.cons (o := { dst := some 35, op := Go.Op.call { callee := Go.Callee.value (Go.Operand.func 9), args := #[Go.Operand.tmp 33, Go.Operand.tmp 34], argTypes := #[24, 24] }, type := 24, pos := _, after := #[{ on := 3, ground := Go.Ground.data }, { on := 4, ground := Go.Ground.data }, { on := 2, ground := Go.Ground.chain }], guard := none }) rfl (fun K hK => ?_) ?_
        ·
          go_simp
          refine (meetV_is x y _ HX.out HY.out).mono ?_
          rintro e W31 ⟨rfl, b31⟩
          have S31 := Lib.hid (step_ S30.out b31)
          have Y31s10 := Lib.hid (Y30s10.out.below b31)
          clear b31
          go_wp2_with fail
          refine hK.out _ _ S31.out (fun _ => ?_)
          clear hK K
          try simp only [Act.put, List.setIfInBounds_toArray, List.set_cons_zero, List.set_cons_succ]
          refine wpAnyH_ready (rs := [7]) (by kernel_rfl) (by simp) ?_
          refine ready_allocV (o := { dst := some 11, op := Go.Op.alloc 24, type := 0, pos := _, after := #[], guard := none }) rfl rfl rfl (fun g32 W32 e32 z32 b32 => ⟨step_ S31.out b32, ?_⟩) ?_
          ·
            have S32 := Lib.hid (step_ S31.out b32)
            have Z32 := Lib.hid z32
            have L32 := Lib.hid (show U0.heap.size ≤ g32 from e32 ▸ S31.out.size)
            have Y32s10 := Lib.hid (Y31s10.out.below b32)
            have NE32s10 := Lib.hid (show g29 ≠ g32 by have := Y31s10.out.lt; omega)
            clear e32 z32 b32
            try simp only [Act.put, List.setIfInBounds_toArray, List.set_cons_zero, List.set_cons_succ]
            refine wpAnyH_ready (rs := [8]) (by kernel_rfl) (by simp) ?_
            refine ready_storeV (o := { dst := none, op := Go.Op.store 24 (Go.Operand.tmp 10) (Go.Operand.tmp 32), type := 0, pos := _, after := #[{ on := 6, ground := Go.Ground.data }, { on := 2, ground := Go.Ground.data }, { on := 5, ground := Go.Ground.chain }, { on := 0, ground := Go.Ground.phase }, { on := 1, ground := Go.Ground.phase }, { on := 2, ground := Go.Ground.phase }, { on := 3, ground := Go.Ground.textOnly Go.Departure.lateStores }, { on := 4, ground := Go.Ground.textOnly Go.Departure.lateStores }, { on := 5, ground := Go.Ground.textOnly Go.Departure.lateStoresUnsure }, { on := 6, ground := Go.Ground.phase }, { on := 7, ground := Go.Ground.phase }], guard := none }) rfl rfl _ _ rfl g29 vz (vj x y) rfl rfl Y32s10.out rfl (vj_len HX.out HY.out) (fun W33 z33 o33 => ⟨S32.out.trans (o33.below L29.out S32.out.size), ?_⟩) ?_
            ·
              have S33 := Lib.hid (S32.out.trans (o33.below L29.out S32.out.size))
              have Z33 := Lib.hid z33
              have Y33s11 := Lib.hid (Z32.out.only o33 NE32s10.out.symm)
              clear z33 o33
              simp only [Act.put]
              refine wpAnyH_ready (rs := [9]) (by kernel_rfl) (by simp) ?_
              refine ready_storeV (o := { dst := none, op := Go.Op.store 24 (Go.Operand.tmp 11) (Go.Operand.tmp 35), type := 0, pos := _, after := #[{ on := 7, ground := Go.Ground.data }, { on := 5, ground := Go.Ground.data }, { on := 8, ground := Go.Ground.chain }, { on := 0, ground := Go.Ground.phase }, { on := 1, ground := Go.Ground.phase }, { on := 2, ground := Go.Ground.phase }, { on := 3, ground := Go.Ground.phase }, { on := 4, ground := Go.Ground.phase }, { on := 5, ground := Go.Ground.phase }, { on := 6, ground := Go.Ground.phase }, { on := 7, ground := Go.Ground.phase }, { on := 8, ground := Go.Ground.phase }], guard := none }) rfl rfl _ _ rfl g32 vz (vm x y) rfl rfl Y33s11.out rfl (vm_len HX.out HY.out) (fun W34 z34 o34 => ⟨S33.out.trans (o34.below L32.out S33.out.size), ?_⟩) ?_
              ·
                have S34 := Lib.hid (S33.out.trans (o34.below L32.out S33.out.size))
                have Z34 := Lib.hid z34
                have Y34s10 := Lib.hid (Z33.out.only o34 NE32s10.out)
                clear z34 o34
                simp only [Act.put]
                refine wpAnyH_done (by kernel_rfl) ?_ _
                exact ⟨rfl, g29, g32, rfl, Y34s10.out, Z34.out, S34.out⟩
              exact AllReadyH.nil
            exact AllReadyH.nil
          exact AllReadyH.nil
        refine ready_allocV (o := { dst := some 11, op := Go.Op.alloc 24, type := 0, pos := _, after := #[], guard := none }) rfl rfl rfl (fun g35 W35 e35 z35 b35 => ⟨step_ S30.out b35, ?_⟩) ?_
        ·
          have S35 := Lib.hid (step_ S30.out b35)
          have Z35 := Lib.hid z35
          have L35 := Lib.hid (show U0.heap.size ≤ g35 from e35 ▸ S30.out.size)
          have Y35s10 := Lib.hid (Y30s10.out.below b35)
          have NE35s10 := Lib.hid (show g29 ≠ g35 by have := Y30s10.out.lt; omega)
          clear e35 z35 b35
          try simp only [Act.put, List.setIfInBounds_toArray, List.set_cons_zero, List.set_cons_succ]
          refine wpAnyH_ready (rs := [5]) (by kernel_rfl) (by simp) ?_
          refine AllReadyH.cons (o := { dst := some 35, op := Go.Op.call { callee := Go.Callee.value (Go.Operand.func 9), args := #[Go.Operand.tmp 33, Go.Operand.tmp 34], argTypes := #[24, 24] }, type := 24, pos := _, after := #[{ on := 3, ground := Go.Ground.data }, { on := 4, ground := Go.Ground.data }, { on := 2, ground := Go.Ground.chain }], guard := none }) rfl (fun K hK => ?_) ?_
          ·
            go_simp
            refine (meetV_is x y _ HX.out HY.out).mono ?_
            rintro e W36 ⟨rfl, b36⟩
            have S36 := Lib.hid (step_ S35.out b36)
            have Y36s10 := Lib.hid (Y35s10.out.below b36)
            have Y36s11 := Lib.hid (Z35.out.below b36)
            clear b36
            go_wp2_with fail
            refine hK.out _ _ S36.out (fun _ => ?_)
            clear hK K
            try simp only [Act.put, List.setIfInBounds_toArray, List.set_cons_zero, List.set_cons_succ]
            refine wpAnyH_ready (rs := [8]) (by kernel_rfl) (by simp) ?_
            refine ready_storeV (o := { dst := none, op := Go.Op.store 24 (Go.Operand.tmp 10) (Go.Operand.tmp 32), type := 0, pos := _, after := #[{ on := 6, ground := Go.Ground.data }, { on := 2, ground := Go.Ground.data }, { on := 5, ground := Go.Ground.chain }, { on := 0, ground := Go.Ground.phase }, { on := 1, ground := Go.Ground.phase }, { on := 2, ground := Go.Ground.phase }, { on := 3, ground := Go.Ground.textOnly Go.Departure.lateStores }, { on := 4, ground := Go.Ground.textOnly Go.Departure.lateStores }, { on := 5, ground := Go.Ground.textOnly Go.Departure.lateStoresUnsure }, { on := 6, ground := Go.Ground.phase }, { on := 7, ground := Go.Ground.phase }], guard := none }) rfl rfl _ _ rfl g29 vz (vj x y) rfl rfl Y36s10.out rfl (vj_len HX.out HY.out) (fun W37 z37 o37 => ⟨S36.out.trans (o37.below L29.out S36.out.size), ?_⟩) ?_
            ·
              have S37 := Lib.hid (S36.out.trans (o37.below L29.out S36.out.size))
              have Z37 := Lib.hid z37
              have Y37s11 := Lib.hid (Y36s11.out.only o37 NE35s10.out.symm)
              clear z37 o37
              simp only [Act.put]
              refine wpAnyH_ready (rs := [9]) (by kernel_rfl) (by simp) ?_
              refine ready_storeV (o := { dst := none, op := Go.Op.store 24 (Go.Operand.tmp 11) (Go.Operand.tmp 35), type := 0, pos := _, after := #[{ on := 7, ground := Go.Ground.data }, { on := 5, ground := Go.Ground.data }, { on := 8, ground := Go.Ground.chain }, { on := 0, ground := Go.Ground.phase }, { on := 1, ground := Go.Ground.phase }, { on := 2, ground := Go.Ground.phase }, { on := 3, ground := Go.Ground.phase }, { on := 4, ground := Go.Ground.phase }, { on := 5, ground := Go.Ground.phase }, { on := 6, ground := Go.Ground.phase }, { on := 7, ground := Go.Ground.phase }, { on := 8, ground := Go.Ground.phase }], guard := none }) rfl rfl _ _ rfl g35 vz (vm x y) rfl rfl Y37s11.out rfl (vm_len HX.out HY.out) (fun W38 z38 o38 => ⟨S37.out.trans (o38.below L35.out S37.out.size), ?_⟩) ?_
              ·
                have S38 := Lib.hid (S37.out.trans (o38.below L35.out S37.out.size))
                have Z38 := Lib.hid z38
                have Y38s10 := Lib.hid (Z37.out.only o38 NE35s10.out)
                clear z38 o38
                simp only [Act.put]
                refine wpAnyH_done (by kernel_rfl) ?_ _
                exact ⟨rfl, g29, g35, rfl, Y38s10.out, Z38.out, S38.out⟩
              exact AllReadyH.nil
            exact AllReadyH.nil
          exact AllReadyH.nil
        exact AllReadyH.nil
      refine ready_allocV (o := { dst := some 11, op := Go.Op.alloc 24, type := 0, pos := _, after := #[], guard := none }) rfl rfl rfl (fun g39 W39 e39 z39 b39 => ⟨step_ S29.out b39, ?_⟩) ?_
      ·
        have S39 := Lib.hid (step_ S29.out b39)
        have Z39 := Lib.hid z39
        have L39 := Lib.hid (show U0.heap.size ≤ g39 from e39 ▸ S29.out.size)
        have Y39s10 := Lib.hid (Z29.out.below b39)
        have NE39s10 := Lib.hid (show g29 ≠ g39 by have := Z29.out.lt; omega)
        clear e39 z39 b39
        try simp only [Act.put, List.setIfInBounds_toArray, List.set_cons_zero, List.set_cons_succ]
        refine wpAnyH_ready (rs := [2]) (by kernel_rfl) (by simp) ?_
        refine AllReadyH.cons (o := { dst := some 32, op := Go.Op.call { callee := Go.Callee.value (Go.Operand.func 7), args := #[Go.Operand.tmp 30, Go.Operand.tmp 31], argTypes := #[24, 24] }, type := 24, pos := _, after := #[{ on := 0, ground := Go.Ground.data }, { on := 1, ground := Go.Ground.data }], guard := none }) rfl (fun K hK => ?_) ?_
        ·
          go_simp
          refine (joinV_is x y _ HX.out HY.out).mono ?_
          rintro e W40 ⟨rfl, b40⟩
          have S40 := Lib.hid (step_ S39.out b40)
          have Y40s10 := Lib.hid (Y39s10.out.below b40)
          have Y40s11 := Lib.hid (Z39.out.below b40)
          clear b40
          go_wp2_with fail
          refine hK.out _ _ S40.out (fun _ => ?_)
          clear hK K
          try simp only [Act.put, List.setIfInBounds_toArray, List.set_cons_zero, List.set_cons_succ]
          refine wpAnyH_ready (rs := [5]) (by kernel_rfl) (by simp) ?_
          refine AllReadyH.cons (o := { dst := some 35, op := Go.Op.call { callee := Go.Callee.value (Go.Operand.func 9), args := #[Go.Operand.tmp 33, Go.Operand.tmp 34], argTypes := #[24, 24] }, type := 24, pos := _, after := #[{ on := 3, ground := Go.Ground.data }, { on := 4, ground := Go.Ground.data }, { on := 2, ground := Go.Ground.chain }], guard := none }) rfl (fun K hK => ?_) ?_
          ·
            go_simp
            refine (meetV_is x y _ HX.out HY.out).mono ?_
            rintro e W41 ⟨rfl, b41⟩
            have S41 := Lib.hid (step_ S40.out b41)
            have Y41s10 := Lib.hid (Y40s10.out.below b41)
            have Y41s11 := Lib.hid (Y40s11.out.below b41)
            clear b41
            go_wp2_with fail
            refine hK.out _ _ S41.out (fun _ => ?_)
            clear hK K
            try simp only [Act.put, List.setIfInBounds_toArray, List.set_cons_zero, List.set_cons_succ]
            refine wpAnyH_ready (rs := [8]) (by kernel_rfl) (by simp) ?_
            refine ready_storeV (o := { dst := none, op := Go.Op.store 24 (Go.Operand.tmp 10) (Go.Operand.tmp 32), type := 0, pos := _, after := #[{ on := 6, ground := Go.Ground.data }, { on := 2, ground := Go.Ground.data }, { on := 5, ground := Go.Ground.chain }, { on := 0, ground := Go.Ground.phase }, { on := 1, ground := Go.Ground.phase }, { on := 2, ground := Go.Ground.phase }, { on := 3, ground := Go.Ground.textOnly Go.Departure.lateStores }, { on := 4, ground := Go.Ground.textOnly Go.Departure.lateStores }, { on := 5, ground := Go.Ground.textOnly Go.Departure.lateStoresUnsure }, { on := 6, ground := Go.Ground.phase }, { on := 7, ground := Go.Ground.phase }], guard := none }) rfl rfl _ _ rfl g29 vz (vj x y) rfl rfl Y41s10.out rfl (vj_len HX.out HY.out) (fun W42 z42 o42 => ⟨S41.out.trans (o42.below L29.out S41.out.size), ?_⟩) ?_
            ·
              have S42 := Lib.hid (S41.out.trans (o42.below L29.out S41.out.size))
              have Z42 := Lib.hid z42
              have Y42s11 := Lib.hid (Y41s11.out.only o42 NE39s10.out.symm)
              clear z42 o42
              simp only [Act.put]
              refine wpAnyH_ready (rs := [9]) (by kernel_rfl) (by simp) ?_
              refine ready_storeV (o := { dst := none, op := Go.Op.store 24 (Go.Operand.tmp 11) (Go.Operand.tmp 35), type := 0, pos := _, after := #[{ on := 7, ground := Go.Ground.data }, { on := 5, ground := Go.Ground.data }, { on := 8, ground := Go.Ground.chain }, { on := 0, ground := Go.Ground.phase }, { on := 1, ground := Go.Ground.phase }, { on := 2, ground := Go.Ground.phase }, { on := 3, ground := Go.Ground.phase }, { on := 4, ground := Go.Ground.phase }, { on := 5, ground := Go.Ground.phase }, { on := 6, ground := Go.Ground.phase }, { on := 7, ground := Go.Ground.phase }, { on := 8, ground := Go.Ground.phase }], guard := none }) rfl rfl _ _ rfl g39 vz (vm x y) rfl rfl Y42s11.out rfl (vm_len HX.out HY.out) (fun W43 z43 o43 => ⟨S42.out.trans (o43.below L39.out S42.out.size), ?_⟩) ?_
              ·
                have S43 := Lib.hid (S42.out.trans (o43.below L39.out S42.out.size))
                have Z43 := Lib.hid z43
                have Y43s10 := Lib.hid (Z42.out.only o43 NE39s10.out)
                clear z43 o43
                simp only [Act.put]
                refine wpAnyH_done (by kernel_rfl) ?_ _
                exact ⟨rfl, g29, g39, rfl, Y43s10.out, Z43.out, S43.out⟩
              exact AllReadyH.nil
            exact AllReadyH.nil
          exact AllReadyH.nil
        exact AllReadyH.nil
      exact AllReadyH.nil
    refine ready_allocV (o := { dst := some 11, op := Go.Op.alloc 24, type := 0, pos := _, after := #[], guard := none }) rfl rfl rfl (fun g44 W44 e44 z44 b44 => ⟨step_ S0.out b44, ?_⟩) ?_
    ·
      have S44 := Lib.hid (step_ S0.out b44)
      have Z44 := Lib.hid z44
      have L44 := Lib.hid (show U0.heap.size ≤ g44 from e44 ▸ S0.out.size)
      clear e44 z44 b44
      try simp only [Act.put, List.setIfInBounds_toArray, List.set_cons_zero, List.set_cons_succ]
      refine wpAnyH_ready (rs := [2, 6]) (by kernel_rfl) (by simp) ?_
      refine AllReadyH.cons (o := { dst := some 32, op := Go.Op.call { callee := Go.Callee.value (Go.Operand.func 7), args := #[Go.Operand.tmp 30, Go.Operand.tmp 31], argTypes := #[24, 24] }, type := 24, pos := _, after := #[{ on := 0, ground := Go.Ground.data }, { on := 1, ground := Go.Ground.data }], guard := none }) rfl (fun K hK => ?_) ?_
      ·
        go_simp
        refine (joinV_is x y _ HX.out HY.out).mono ?_
        rintro e W45 ⟨rfl, b45⟩
        have S45 := Lib.hid (step_ S44.out b45)
        have Y45s11 := Lib.hid (Z44.out.below b45)
        clear b45
        go_wp2_with fail
        refine hK.out _ _ S45.out (fun _ => ?_)
        clear hK K
        try simp only [Act.put, List.setIfInBounds_toArray, List.set_cons_zero, List.set_cons_succ]
        refine wpAnyH_ready (rs := [5, 6]) (by kernel_rfl) (by simp) ?_
        refine AllReadyH.cons (o := { dst := some 35, op := Go.Op.call { callee := Go.Callee.value (Go.Operand.func 9), args := #[Go.Operand.tmp 33, Go.Operand.tmp 34], argTypes := #[24, 24] }, type := 24, pos := _, after := #[{ on := 3, ground := Go.Ground.data }, { on := 4, ground := Go.Ground.data }, { on := 2, ground := Go.Ground.chain }], guard := none }) rfl (fun K hK => ?_) ?_
        ·
          go_simp
          refine (meetV_is x y _ HX.out HY.out).mono ?_
          rintro e W46 ⟨rfl, b46⟩
          have S46 := Lib.hid (step_ S45.out b46)
          have Y46s11 := Lib.hid (Y45s11.out.below b46)
          clear b46
          go_wp2_with fail
          refine hK.out _ _ S46.out (fun _ => ?_)
          clear hK K
          try simp only [Act.put, List.setIfInBounds_toArray, List.set_cons_zero, List.set_cons_succ]
          refine wpAnyH_ready (rs := [6]) (by kernel_rfl) (by simp) ?_
          refine ready_allocV (o := { dst := some 10, op := Go.Op.alloc 24, type := 0, pos := _, after := #[], guard := none }) rfl rfl rfl (fun g47 W47 e47 z47 b47 => ⟨step_ S46.out b47, ?_⟩) ?_
          ·
            have S47 := Lib.hid (step_ S46.out b47)
            have Z47 := Lib.hid z47
            have L47 := Lib.hid (show U0.heap.size ≤ g47 from e47 ▸ S46.out.size)
            have Y47s11 := Lib.hid (Y46s11.out.below b47)
            have NE47s11 := Lib.hid (show g44 ≠ g47 by have := Y46s11.out.lt; omega)
            clear e47 z47 b47
            try simp only [Act.put, List.setIfInBounds_toArray, List.set_cons_zero, List.set_cons_succ]
            refine wpAnyH_ready (rs := [8]) (by kernel_rfl) (by simp) ?_
            refine ready_storeV (o := { dst := none, op := Go.Op.store 24 (Go.Operand.tmp 10) (Go.Operand.tmp 32), type := 0, pos := _, after := #[{ on := 6, ground := Go.Ground.data }, { on := 2, ground := Go.Ground.data }, { on := 5, ground := Go.Ground.chain }, { on := 0, ground := Go.Ground.phase }, { on := 1, ground := Go.Ground.phase }, { on := 2, ground := Go.Ground.phase }, { on := 3, ground := Go.Ground.textOnly Go.Departure.lateStores }, { on := 4, ground := Go.Ground.textOnly Go.Departure.lateStores }, { on := 5, ground := Go.Ground.textOnly Go.Departure.lateStoresUnsure }, { on := 6, ground := Go.Ground.phase }, { on := 7, ground := Go.Ground.phase }], guard := none }) rfl rfl _ _ rfl g47 vz (vj x y) rfl rfl Z47.out rfl (vj_len HX.out HY.out) (fun W48 z48 o48 => ⟨S47.out.trans (o48.below L47.out S47.out.size), ?_⟩) ?_
            ·
              have S48 := Lib.hid (S47.out.trans (o48.below L47.out S47.out.size))
              have Z48 := Lib.hid z48
              have Y48s11 := Lib.hid (Y47s11.out.only o48 NE47s11.out)
              clear z48 o48
              simp only [Act.put]
              refine wpAnyH_ready (rs := [9]) (by kernel_rfl) (by simp) ?_
              refine ready_storeV (o := { dst := none, op := Go.Op.store 24 (Go.Operand.tmp 11) (Go.Operand.tmp 35), type := 0, pos := _, after := #[{ on := 7, ground := Go.Ground.data }, { on := 5, ground := Go.Ground.data }, { on := 8, ground := Go.Ground.chain }, { on := 0, ground := Go.Ground.phase }, { on := 1, ground := Go.Ground.phase }, { on := 2, ground := Go.Ground.phase }, { on := 3, ground := Go.Ground.phase }, { on := 4, ground := Go.Ground.phase }, { on := 5, ground := Go.Ground.phase }, { on := 6, ground := Go.Ground.phase }, { on := 7, ground := Go.Ground.phase }, { on := 8, ground := Go.Ground.phase }], guard := none }) rfl rfl _ _ rfl g44 vz (vm x y) rfl rfl Y48s11.out rfl (vm_len HX.out HY.out) (fun W49 z49 o49 => ⟨S48.out.trans (o49.below L44.out S48.out.size), ?_⟩) ?_
              ·
                have S49 := Lib.hid (S48.out.trans (o49.below L44.out S48.out.size))
                have Z49 := Lib.hid z49
                have Y49s10 := Lib.hid (Z48.out.only o49 NE47s11.out.symm)
                clear z49 o49
                simp only [Act.put]
                refine wpAnyH_done (by kernel_rfl) ?_ _
                exact ⟨rfl, g47, g44, rfl, Y49s10.out, Z49.out, S49.out⟩
              exact AllReadyH.nil
            exact AllReadyH.nil
          exact AllReadyH.nil
        refine ready_allocV (o := { dst := some 10, op := Go.Op.alloc 24, type := 0, pos := _, after := #[], guard := none }) rfl rfl rfl (fun g50 W50 e50 z50 b50 => ⟨step_ S45.out b50, ?_⟩) ?_
        ·
          have S50 := Lib.hid (step_ S45.out b50)
          have Z50 := Lib.hid z50
          have L50 := Lib.hid (show U0.heap.size ≤ g50 from e50 ▸ S45.out.size)
          have Y50s11 := Lib.hid (Y45s11.out.below b50)
          have NE50s11 := Lib.hid (show g44 ≠ g50 by have := Y45s11.out.lt; omega)
          clear e50 z50 b50
          try simp only [Act.put, List.setIfInBounds_toArray, List.set_cons_zero, List.set_cons_succ]
          refine wpAnyH_ready (rs := [5]) (by kernel_rfl) (by simp) ?_
          refine AllReadyH.cons (o := { dst := some 35, op := Go.Op.call { callee := Go.Callee.value (Go.Operand.func 9), args := #[Go.Operand.tmp 33, Go.Operand.tmp 34], argTypes := #[24, 24] }, type := 24, pos := _, after := #[{ on := 3, ground := Go.Ground.data }, { on := 4, ground := Go.Ground.data }, { on := 2, ground := Go.Ground.chain }], guard := none }) rfl (fun K hK => ?_) ?_
          ·
            go_simp
            refine (meetV_is x y _ HX.out HY.out).mono ?_
            rintro e W51 ⟨rfl, b51⟩
            have S51 := Lib.hid (step_ S50.out b51)
            have Y51s11 := Lib.hid (Y50s11.out.below b51)
            have Y51s10 := Lib.hid (Z50.out.below b51)
            clear b51
            go_wp2_with fail
            refine hK.out _ _ S51.out (fun _ => ?_)
            clear hK K
            try simp only [Act.put, List.setIfInBounds_toArray, List.set_cons_zero, List.set_cons_succ]
            refine wpAnyH_ready (rs := [8]) (by kernel_rfl) (by simp) ?_
            refine ready_storeV (o := { dst := none, op := Go.Op.store 24 (Go.Operand.tmp 10) (Go.Operand.tmp 32), type := 0, pos := _, after := #[{ on := 6, ground := Go.Ground.data }, { on := 2, ground := Go.Ground.data }, { on := 5, ground := Go.Ground.chain }, { on := 0, ground := Go.Ground.phase }, { on := 1, ground := Go.Ground.phase }, { on := 2, ground := Go.Ground.phase }, { on := 3, ground := Go.Ground.textOnly Go.Departure.lateStores }, { on := 4, ground := Go.Ground.textOnly Go.Departure.lateStores }, { on := 5, ground := Go.Ground.textOnly Go.Departure.lateStoresUnsure }, { on := 6, ground := Go.Ground.phase }, { on := 7, ground := Go.Ground.phase }], guard := none }) rfl rfl _ _ rfl g50 vz (vj x y) rfl rfl Y51s10.out rfl (vj_len HX.out HY.out) (fun W52 z52 o52 => ⟨S51.out.trans (o52.below L50.out S51.out.size), ?_⟩) ?_
            ·
              have S52 := Lib.hid (S51.out.trans (o52.below L50.out S51.out.size))
              have Z52 := Lib.hid z52
              have Y52s11 := Lib.hid (Y51s11.out.only o52 NE50s11.out)
              clear z52 o52
              simp only [Act.put]
              refine wpAnyH_ready (rs := [9]) (by kernel_rfl) (by simp) ?_
              refine ready_storeV (o := { dst := none, op := Go.Op.store 24 (Go.Operand.tmp 11) (Go.Operand.tmp 35), type := 0, pos := _, after := #[{ on := 7, ground := Go.Ground.data }, { on := 5, ground := Go.Ground.data }, { on := 8, ground := Go.Ground.chain }, { on := 0, ground := Go.Ground.phase }, { on := 1, ground := Go.Ground.phase }, { on := 2, ground := Go.Ground.phase }, { on := 3, ground := Go.Ground.phase }, { on := 4, ground := Go.Ground.phase }, { on := 5, ground := Go.Ground.phase }, { on := 6, ground := Go.Ground.phase }, { on := 7, ground := Go.Ground.phase }, { on := 8, ground := Go.Ground.phase }], guard := none }) rfl rfl _ _ rfl g44 vz (vm x y) rfl rfl Y52s11.out rfl (vm_len HX.out HY.out) (fun W53 z53 o53 => ⟨S52.out.trans (o53.below L44.out S52.out.size), ?_⟩) ?_
              ·
                have S53 := Lib.hid (S52.out.trans (o53.below L44.out S52.out.size))
                have Z53 := Lib.hid z53
                have Y53s10 := Lib.hid (Z52.out.only o53 NE50s11.out.symm)
                clear z53 o53
                simp only [Act.put]
                refine wpAnyH_done (by kernel_rfl) ?_ _
                exact ⟨rfl, g50, g44, rfl, Y53s10.out, Z53.out, S53.out⟩
              exact AllReadyH.nil
            exact AllReadyH.nil
          exact AllReadyH.nil
        exact AllReadyH.nil
      refine ready_allocV (o := { dst := some 10, op := Go.Op.alloc 24, type := 0, pos := _, after := #[], guard := none }) rfl rfl rfl (fun g54 W54 e54 z54 b54 => ⟨step_ S44.out b54, ?_⟩) ?_
      ·
        have S54 := Lib.hid (step_ S44.out b54)
        have Z54 := Lib.hid z54
        have L54 := Lib.hid (show U0.heap.size ≤ g54 from e54 ▸ S44.out.size)
        have Y54s11 := Lib.hid (Z44.out.below b54)
        have NE54s11 := Lib.hid (show g44 ≠ g54 by have := Z44.out.lt; omega)
        clear e54 z54 b54
        try simp only [Act.put, List.setIfInBounds_toArray, List.set_cons_zero, List.set_cons_succ]
        refine wpAnyH_ready (rs := [2]) (by kernel_rfl) (by simp) ?_
        refine AllReadyH.cons (o := { dst := some 32, op := Go.Op.call { callee := Go.Callee.value (Go.Operand.func 7), args := #[Go.Operand.tmp 30, Go.Operand.tmp 31], argTypes := #[24, 24] }, type := 24, pos := _, after := #[{ on := 0, ground := Go.Ground.data }, { on := 1, ground := Go.Ground.data }], guard := none }) rfl (fun K hK => ?_) ?_
        ·
          go_simp
          refine (joinV_is x y _ HX.out HY.out).mono ?_
          rintro e W55 ⟨rfl, b55⟩
          have S55 := Lib.hid (step_ S54.out b55)
          have Y55s11 := Lib.hid (Y54s11.out.below b55)
          have Y55s10 := Lib.hid (Z54.out.below b55)
          clear b55
          go_wp2_with fail
          refine hK.out _ _ S55.out (fun _ => ?_)
          clear hK K
          try simp only [Act.put, List.setIfInBounds_toArray, List.set_cons_zero, List.set_cons_succ]
          refine wpAnyH_ready (rs := [5]) (by kernel_rfl) (by simp) ?_
          refine AllReadyH.cons (o := { dst := some 35, op := Go.Op.call { callee := Go.Callee.value (Go.Operand.func 9), args := #[Go.Operand.tmp 33, Go.Operand.tmp 34], argTypes := #[24, 24] }, type := 24, pos := _, after := #[{ on := 3, ground := Go.Ground.data }, { on := 4, ground := Go.Ground.data }, { on := 2, ground := Go.Ground.chain }], guard := none }) rfl (fun K hK => ?_) ?_
          ·
            go_simp
            refine (meetV_is x y _ HX.out HY.out).mono ?_
            rintro e W56 ⟨rfl, b56⟩
            have S56 := Lib.hid (step_ S55.out b56)
            have Y56s11 := Lib.hid (Y55s11.out.below b56)
            have Y56s10 := Lib.hid (Y55s10.out.below b56)
            clear b56
            go_wp2_with fail
            refine hK.out _ _ S56.out (fun _ => ?_)
            clear hK K
            try simp only [Act.put, List.setIfInBounds_toArray, List.set_cons_zero, List.set_cons_succ]
            refine wpAnyH_ready (rs := [8]) (by kernel_rfl) (by simp) ?_
            refine ready_storeV (o := { dst := none, op := Go.Op.store 24 (Go.Operand.tmp 10) (Go.Operand.tmp 32), type := 0, pos := _, after := #[{ on := 6, ground := Go.Ground.data }, { on := 2, ground := Go.Ground.data }, { on := 5, ground := Go.Ground.chain }, { on := 0, ground := Go.Ground.phase }, { on := 1, ground := Go.Ground.phase }, { on := 2, ground := Go.Ground.phase }, { on := 3, ground := Go.Ground.textOnly Go.Departure.lateStores }, { on := 4, ground := Go.Ground.textOnly Go.Departure.lateStores }, { on := 5, ground := Go.Ground.textOnly Go.Departure.lateStoresUnsure }, { on := 6, ground := Go.Ground.phase }, { on := 7, ground := Go.Ground.phase }], guard := none }) rfl rfl _ _ rfl g54 vz (vj x y) rfl rfl Y56s10.out rfl (vj_len HX.out HY.out) (fun W57 z57 o57 => ⟨S56.out.trans (o57.below L54.out S56.out.size), ?_⟩) ?_
            ·
              have S57 := Lib.hid (S56.out.trans (o57.below L54.out S56.out.size))
              have Z57 := Lib.hid z57
              have Y57s11 := Lib.hid (Y56s11.out.only o57 NE54s11.out)
              clear z57 o57
              simp only [Act.put]
              refine wpAnyH_ready (rs := [9]) (by kernel_rfl) (by simp) ?_
              refine ready_storeV (o := { dst := none, op := Go.Op.store 24 (Go.Operand.tmp 11) (Go.Operand.tmp 35), type := 0, pos := _, after := #[{ on := 7, ground := Go.Ground.data }, { on := 5, ground := Go.Ground.data }, { on := 8, ground := Go.Ground.chain }, { on := 0, ground := Go.Ground.phase }, { on := 1, ground := Go.Ground.phase }, { on := 2, ground := Go.Ground.phase }, { on := 3, ground := Go.Ground.phase }, { on := 4, ground := Go.Ground.phase }, { on := 5, ground := Go.Ground.phase }, { on := 6, ground := Go.Ground.phase }, { on := 7, ground := Go.Ground.phase }, { on := 8, ground := Go.Ground.phase }], guard := none }) rfl rfl _ _ rfl g44 vz (vm x y) rfl rfl Y57s11.out rfl (vm_len HX.out HY.out) (fun W58 z58 o58 => ⟨S57.out.trans (o58.below L44.out S57.out.size), ?_⟩) ?_
              ·
                have S58 := Lib.hid (S57.out.trans (o58.below L44.out S57.out.size))
                have Z58 := Lib.hid z58
                have Y58s10 := Lib.hid (Z57.out.only o58 NE54s11.out.symm)
                clear z58 o58
                simp only [Act.put]
                refine wpAnyH_done (by kernel_rfl) ?_ _
                exact ⟨rfl, g54, g44, rfl, Y58s10.out, Z58.out, S58.out⟩
              exact AllReadyH.nil
            exact AllReadyH.nil
          exact AllReadyH.nil
        exact AllReadyH.nil
      exact AllReadyH.nil
    exact AllReadyH.nil
  rintro e v V ⟨rfl, g10, g11, rfl, k10, k11, bw⟩
  have P10 := Lib.hid k10
  have P11 := Lib.hid k11
  have P7 := Lib.hid (P7.out.below bw)
  have P8 := Lib.hid (P8.out.below bw)
  have P9 := Lib.hid (P9.out.below bw)
  have RA := Lib.hid (RA1.out.below bw)
  have RB := Lib.hid (RB1.out.below bw)
  have B0 := Lib.hid (step_ B1.out bw)
  have JL := Lib.hid (vj_len HX.out HY.out)
  have ML := Lib.hid (vm_len HX.out HY.out)
  have E0 := Lib.hid (Below.refl V.heap.size V)
  clear B1 RA1 RB1 k10 k11 bw
  go_wp2_with (first
    | go_skip
    | (refine wanted_on rfl ?_; refine wpList_load_v t24 rfl _ rfl g7 0 x rfl (P7.out.below E0.out).range HX.out ?_)
    | (refine wanted_on rfl ?_; refine wpList_load_v t24 rfl _ rfl g8 0 y rfl (P8.out.below E0.out).range HY.out ?_)
    | (refine wanted_on rfl ?_; refine wpList_load_v t24 rfl _ rfl g9 0 z rfl (P9.out.below E0.out).range HZ.out ?_)
    | (refine wanted_on rfl ?_; refine wpList_load_v t24 rfl _ rfl g10 0 (vj x y) rfl (P10.out.below E0.out).range JL.out ?_)
    | (refine wanted_on rfl ?_; refine wpList_load_v t24 rfl _ rfl g11 0 (vm x y) rfl (P11.out.below E0.out).range ML.out ?_))
  refine (leqV_is x (vj x y) true _ HX.out JL.out (Lib.hid (le_j1 HX.out HY.out))).mono ?_
  rintro e V1 ⟨rfl, b1⟩
  have E1 := Lib.hid (step_ E0.out b1)
  clear b1
  go_wp2_with (first
    | go_skip
    | (refine wanted_on rfl ?_; refine wpList_load_v t24 rfl _ rfl g7 0 x rfl (P7.out.below E1.out).range HX.out ?_)
    | (refine wanted_on rfl ?_; refine wpList_load_v t24 rfl _ rfl g8 0 y rfl (P8.out.below E1.out).range HY.out ?_)
    | (refine wanted_on rfl ?_; refine wpList_load_v t24 rfl _ rfl g9 0 z rfl (P9.out.below E1.out).range HZ.out ?_)
    | (refine wanted_on rfl ?_; refine wpList_load_v t24 rfl _ rfl g10 0 (vj x y) rfl (P10.out.below E1.out).range JL.out ?_)
    | (refine wanted_on rfl ?_; refine wpList_load_v t24 rfl _ rfl g11 0 (vm x y) rfl (P11.out.below E1.out).range ML.out ?_))
  refine (leqV_is y (vj x y) true _ HY.out JL.out (Lib.hid (le_j2 HX.out HY.out))).mono ?_
  rintro e V2 ⟨rfl, b1⟩
  have E2 := Lib.hid (step_ E1.out b1)
  clear b1
  go_wp2_with (first
    | go_skip
    | (refine wanted_on rfl ?_; refine wpList_load_v t24 rfl _ rfl g7 0 x rfl (P7.out.below E2.out).range HX.out ?_)
    | (refine wanted_on rfl ?_; refine wpList_load_v t24 rfl _ rfl g8 0 y rfl (P8.out.below E2.out).range HY.out ?_)
    | (refine wanted_on rfl ?_; refine wpList_load_v t24 rfl _ rfl g9 0 z rfl (P9.out.below E2.out).range HZ.out ?_)
    | (refine wanted_on rfl ?_; refine wpList_load_v t24 rfl _ rfl g10 0 (vj x y) rfl (P10.out.below E2.out).range JL.out ?_)
    | (refine wanted_on rfl ?_; refine wpList_load_v t24 rfl _ rfl g11 0 (vm x y) rfl (P11.out.below E2.out).range ML.out ?_))
  refine (leqV_is (vm x y) x true _ ML.out HX.out (Lib.hid (m_le1 HX.out HY.out))).mono ?_
  rintro e V3 ⟨rfl, b1⟩
  have E3 := Lib.hid (step_ E2.out b1)
  clear b1
  go_wp2_with (first
    | go_skip
    | (refine wanted_on rfl ?_; refine wpList_load_v t24 rfl _ rfl g7 0 x rfl (P7.out.below E3.out).range HX.out ?_)
    | (refine wanted_on rfl ?_; refine wpList_load_v t24 rfl _ rfl g8 0 y rfl (P8.out.below E3.out).range HY.out ?_)
    | (refine wanted_on rfl ?_; refine wpList_load_v t24 rfl _ rfl g9 0 z rfl (P9.out.below E3.out).range HZ.out ?_)
    | (refine wanted_on rfl ?_; refine wpList_load_v t24 rfl _ rfl g10 0 (vj x y) rfl (P10.out.below E3.out).range JL.out ?_)
    | (refine wanted_on rfl ?_; refine wpList_load_v t24 rfl _ rfl g11 0 (vm x y) rfl (P11.out.below E3.out).range ML.out ?_))
  refine (leqV_is (vm x y) y true _ ML.out HY.out (Lib.hid (m_le2 HX.out HY.out))).mono ?_
  rintro e V4 ⟨rfl, b1⟩
  have E4 := Lib.hid (step_ E3.out b1)
  clear b1
  go_wp2_with (first
    | go_skip
    | (refine wanted_on rfl ?_; refine wpList_load_v t24 rfl _ rfl g7 0 x rfl (P7.out.below E4.out).range HX.out ?_)
    | (refine wanted_on rfl ?_; refine wpList_load_v t24 rfl _ rfl g8 0 y rfl (P8.out.below E4.out).range HY.out ?_)
    | (refine wanted_on rfl ?_; refine wpList_load_v t24 rfl _ rfl g9 0 z rfl (P9.out.below E4.out).range HZ.out ?_)
    | (refine wanted_on rfl ?_; refine wpList_load_v t24 rfl _ rfl g10 0 (vj x y) rfl (P10.out.below E4.out).range JL.out ?_)
    | (refine wanted_on rfl ?_; refine wpList_load_v t24 rfl _ rfl g11 0 (vm x y) rfl (P11.out.below E4.out).range ML.out ?_))
  rename_i K3 hK3 K2 hK2 K1 hK1
  have tail : ∀ (v59 v60 v61 v62 v63 v64 v65 v66 v67 v68 v69 v70 v71 v72 v73 v74 v75 v76 v77 v78 v79 v80 v81 v82 v83 v84 v85 v86 v87 v88 : Value) (WT : World), Below V.heap.size V WT → K2 (⟨#[.agg (vc x ++ (vc y ++ vc z)).toArray, .slice Aa na ca, .slice Ab nb cb, .pointer (some ⟨w.heap.size, 0, none⟩), undef, undef, .bool false, .pointer (some ⟨g7, 0, none⟩), .pointer (some ⟨g8, 0, none⟩), .pointer (some ⟨g9, 0, none⟩), .pointer (some ⟨g10, 0, none⟩), .pointer (some ⟨g11, 0, none⟩), undef, undef, undef, .slice Aa na ca, .int .i64 (na : Int), .bool false, .bool false, .slice Ab nb cb, .int .i64 (nb : Int), .bool false, .bool false, undef, .pointer (some ⟨w.heap.size, 0, none⟩), .agg (vc x).toArray, .pointer (some ⟨w.heap.size, 16, none⟩), .agg (vc y).toArray, .pointer (some ⟨w.heap.size, 32, none⟩), .agg (vc z).toArray, .agg (vc x).toArray, .agg (vc y).toArray, .agg (vc (vj x y)).toArray, .agg (vc x).toArray, .agg (vc y).toArray, .agg (vc (vm x y)).toArray, .agg (vc x).toArray, .agg (vc (vj x y)).toArray, .bool true, .bool false, .bool false, .agg (vc y).toArray, .agg (vc (vj x y)).toArray, .bool true, .bool false, .bool false, .bool false, .agg (vc (vm x y)).toArray, .agg (vc x).toArray, .bool true, .bool false, .bool false, .bool false, .agg (vc (vm x y)).toArray, .agg (vc y).toArray, .bool true, .bool false, .bool false, .bool false, v59, v60, v61, v62, v63, v64, v65, v66, v67, v68, v69, v70, v71, v72, v73, v74, v75, v76, v77, v78, v79, v80, v81, v82, v83, v84, v85, v86, v87, v88, .bool false, undef, undef, undef, undef, undef, undef, undef, undef, undef, undef, undef, undef, undef, undef, undef, undef, undef, undef, undef, undef, undef, undef, undef, undef, undef, undef, undef, undef, undef, undef, undef], []⟩ : Act) WT := by
    intro v59 v60 v61 v62 v63 v64 v65 v66 v67 v68 v69 v70 v71 v72 v73 v74 v75 v76 v77 v78 v79 v80 v81 v82 v83 v84 v85 v86 v87 v88 WT bt
    have E0 := Lib.hid bt
    have P7 := Lib.hid (P7.out.below bt)
    have RA := Lib.hid (RA.out.below bt)
    have RB := Lib.hid (RB.out.below bt)
    have B0 := Lib.hid (step_ B0.out bt)
    clear bt E1 E2 E3 E4 P8 P9 P10 P11
    refine hK2 _ _ ?_
    clear hK1 K1 hK2 K2
    go_wp2_with fail
    go_loopw [12] (fun i wr => ∃ k : Nat, k ≤ 16 ∧ i = .int .u8 k ∧ Below WT.heap.size WT wr) (fun i _ => 16 - (intOf i).toNat)
    case atStart => exact ⟨0, Nat.zero_le _, rfl, Below.refl _ _⟩
    case round =>
      obtain ⟨k, hk, rfl, hb⟩ := hrel
      have E := Lib.hid hb
      clear hb
      by_cases hlt : k < 16
      · have hlt' : (k : Int) < 16 := by omega
        obtain ⟨e0, he⟩ : ∃ e0, bumpE x k = e0 := ⟨_, rfl⟩
        obtain ⟨m, hm⟩ : ∃ m, bumpV x k = m := ⟨_, rfl⟩
        have HE := Lib.hid he
        have HM := Lib.hid hm
        have MM := Lib.hid (show m.length = 16 by rw [← hm]; exact bumpV_len HX.out k)
        have HC : Hid (e0 = 0 → vcmp m x = 2) := Lib.hid (fun h0 => by rw [← hm]; exact bump_after HX.out hlt (he.trans h0))
        clear he hm
        go_wp2_with (refine wpList_load_v t24 rfl _ rfl g7 0 x rfl (P7.out.below E.out).range HX.out ?_)
        refine (bump_is x m k e0 _ OX.out HE HM).mono ?_
        rintro e w1 ⟨rfl, b1⟩
        have E1 := Lib.hid (step_ (step_ E.out b1) (new_below w1 (.cells (vc vz).toArray 24)))
        have Z1 := Lib.hid (blk_alloc w1 24 (vc vz))
        have GE := Lib.hid (show WT.heap.size ≤ w1.heap.size from (step_ E.out b1).size)
        clear b1
        by_cases h0 : e0 = 0
        · have hc := HC.out h0
          have HC2 := Lib.hid hc
          have h0' : (e0 == 0) = true := by rw [h0]; rfl
          clear h0 hc
          go_wp2_with (first
            | go_skip
            | (refine wpList_store_v t24 rfl _ _ rfl w1.heap.size vz m rfl rfl Z1.out rfl MM.out ?_; intro w2 N2 O2; have E2 := Lib.hid (E1.out.trans (O2.out.below GE.out E1.out.size)))
            | (refine wanted_on rfl ?_; refine wpList_load_v t24 rfl _ rfl w1.heap.size 0 m rfl N2.out.range MM.out ?_)
            | (refine wanted_on rfl ?_; refine wpList_load_v t24 rfl _ rfl g7 0 x rfl (P7.out.below E2.out).range HX.out ?_))
          refine (compareV_is m x 2 _ MM.out HX.out HC2).mono ?_
          rintro e w3 ⟨rfl, b3⟩
          have E3 := Lib.hid (step_ E2.out b3)
          clear b3
          go_wp2_with fail
          go_roundw
          case rel => exact ⟨k + 1, by omega, by go_num, E3.out⟩
          case measure => simp [intOf]; omega
        · have h0' : (e0 == 0) = false := by simp [h0]
          clear h0
          go_wp2_with (first
            | go_skip
            | (refine wpList_store_v t24 rfl _ _ rfl w1.heap.size vz m rfl rfl Z1.out rfl MM.out ?_; intro w2 N2 O2; have E2 := Lib.hid (E1.out.trans (O2.out.below GE.out E1.out.size))))
          go_roundw
          case rel => exact ⟨k + 1, by omega, by go_num, E2.out⟩
          case measure => simp [intOf]; omega
      · obtain rfl : k = 16 := by omega
        have RA1 := Lib.hid (RA.out.below E.out)
        have RB1 := Lib.hid (RB.out.below E.out)
        have B1 := Lib.hid (step_ B0.out E.out)
        have OA := Lib.hid RA.out.ok
        have OB := Lib.hid RB.out.ok
        clear RA RB B0 E E0 P7
        go_wp2_with fail
        refine (refJoin_is Aa Ab na nb ca cb a b _ RA1.out RB1.out (by omega) (by omega)).mono ?_
        rintro e w1 ⟨⟨D, m, c, rfl, r1⟩, b1⟩
        have RJ := Lib.hid r1
        have RA := Lib.hid (RA1.out.below b1)
        have RB := Lib.hid (RB1.out.below b1)
        have B2 := Lib.hid (step_ B1.out b1)
        have LM := Lib.hid (show m ≤ 600 by have h1 := norm_len (a ++ b); have h2 := r1.len; have h3 := RA1.out.len; have h4 := RB1.out.len; unfold join at h2; rw [List.length_append] at h1; omega)
        clear r1 b1 RA1 RB1 B1
        obtain ⟨u, hu⟩ : ∃ u, vof (norm a) = u := ⟨_, rfl⟩
        obtain ⟨v, hv⟩ : ∃ v, vof (norm b) = v := ⟨_, rfl⟩
        have UL := Lib.hid (show u.length = 16 by rw [← hu]; exact vof_len _)
        have VL := Lib.hid (show v.length = 16 by rw [← hv]; exact vof_len _)
        have HJ := Lib.hid (show vof (norm (join a b)) = vj u v by rw [← hu, ← hv]; exact vof_norm OA.out OB.out)
        have HU := Lib.hid hu
        have HV := Lib.hid hv
        clear hu hv
        go_wp2_with fail
        refine (vecOfs_is D m c (join a b) _ RJ.out LM.out).mono ?_
        rintro e w2 ⟨rfl, b1⟩
        rw [HJ.out]
        have RA1 := Lib.hid (RA.out.below b1)
        have RB1 := Lib.hid (RB.out.below b1)
        have B3 := Lib.hid (step_ B2.out b1)
        clear b1 RJ RA RB B2
        go_wp2_with fail
        refine (vecOfs_is Aa na ca a _ RA1.out (by omega)).mono ?_
        rintro e w3 ⟨rfl, b1⟩
        rw [HU.out]
        have RB2 := Lib.hid (RB1.out.below b1)
        have B4 := Lib.hid (step_ B3.out b1)
        clear b1 RB1 RA1 B3
        go_wp2_with fail
        refine (vecOfs_is Ab nb cb b _ RB2.out (by omega)).mono ?_
        rintro e w4 ⟨rfl, b1⟩
        rw [HV.out]
        have B5 := Lib.hid (step_ B4.out b1)
        clear b1 RB2 B4
        go_wp2_with fail
        refine (joinV_is u v _ UL.out VL.out).mono ?_
        rintro e w5 ⟨rfl, b1⟩
        have B6 := Lib.hid (step_ B5.out b1)
        have JL2 := Lib.hid (vj_len UL.out VL.out)
        clear b1 B5
        go_wp2_with (refine wpList_val rfl (.bool true) (exec_eq_vr t24 _ _ _ rfl (vj u v) (vj u v) rfl rfl JL2.out JL2.out (beq_self_eq_true _)) ?_)
        refine (alive_is _).mono ?_
        rintro e w6 ⟨rfl, b1⟩
        have B7 := Lib.hid (step_ B6.out b1)
        clear b1
        go_wp2_with fail
        go_ret
        exact ⟨rfl, B7.out⟩
  have TL := Lib.hid tail
  clear tail hK2
  obtain ⟨p, hp⟩ : ∃ r, vle x z = r := ⟨_, rfl⟩
  have Hp := Lib.hid hp
  clear hp
  refine (leqV_is x z p _ HX.out HZ.out Hp).mono ?_
  rintro e V5 ⟨rfl, b1⟩
  have E5 := Lib.hid (step_ E4.out b1)
  clear b1
  cases p with
  | false =>
    go_wp2_with (first
      | go_skip
      | (refine wanted_on rfl ?_; refine wpList_load_v t24 rfl _ rfl g7 0 x rfl (P7.out.below E5.out).range HX.out ?_)
      | (refine wanted_on rfl ?_; refine wpList_load_v t24 rfl _ rfl g8 0 y rfl (P8.out.below E5.out).range HY.out ?_)
      | (refine wanted_on rfl ?_; refine wpList_load_v t24 rfl _ rfl g9 0 z rfl (P9.out.below E5.out).range HZ.out ?_)
      | (refine wanted_on rfl ?_; refine wpList_load_v t24 rfl _ rfl g10 0 (vj x y) rfl (P10.out.below E5.out).range JL.out ?_)
      | (refine wanted_on rfl ?_; refine wpList_load_v t24 rfl _ rfl g11 0 (vm x y) rfl (P11.out.below E5.out).range ML.out ?_))
    obtain ⟨q, hq⟩ : ∃ r, vle z x = r := ⟨_, rfl⟩
    have Hq := Lib.hid hq
    clear hq
    refine (leqV_is z x q _ HZ.out HX.out Hq).mono ?_
    rintro e V6 ⟨rfl, b1⟩
    have E6 := Lib.hid (step_ E5.out b1)
    clear b1
    cases q with
    | false =>
      go_wp2_with fail
      exact TL.out _ _ _ _ _ _ _ _ _ _ _ _ _ _ _ _ _ _ _ _ _ _ _ _ _ _ _ _ _ _ _ E6.out
    | true =>
      go_wp2_with (first
        | go_skip
        | (refine wanted_on rfl ?_; refine wpList_load_v t24 rfl _ rfl g7 0 x rfl (P7.out.below E6.out).range HX.out ?_)
        | (refine wanted_on rfl ?_; refine wpList_load_v t24 rfl _ rfl g8 0 y rfl (P8.out.below E6.out).range HY.out ?_)
        | (refine wanted_on rfl ?_; refine wpList_load_v t24 rfl _ rfl g9 0 z rfl (P9.out.below E6.out).range HZ.out ?_)
        | (refine wanted_on rfl ?_; refine wpList_load_v t24 rfl _ rfl g10 0 (vj x y) rfl (P10.out.below E6.out).range JL.out ?_)
        | (refine wanted_on rfl ?_; refine wpList_load_v t24 rfl _ rfl g11 0 (vm x y) rfl (P11.out.below E6.out).range ML.out ?_))
      obtain ⟨q2, hq2⟩ : ∃ r, vle z y = r := ⟨_, rfl⟩
      have Hq2 := Lib.hid hq2
      clear hq2
      refine (leqV_is z y q2 _ HZ.out HY.out Hq2).mono ?_
      rintro e V7 ⟨rfl, b1⟩
      have E7 := Lib.hid (step_ E6.out b1)
      clear b1
      cases q2 with
      | false =>
        go_wp2_with fail
        exact TL.out _ _ _ _ _ _ _ _ _ _ _ _ _ _ _ _ _ _ _ _ _ _ _ _ _ _ _ _ _ _ _ E7.out
      | true =>
        go_wp2_with (first
          | go_skip
          | (refine wanted_on rfl ?_; refine wpList_load_v t24 rfl _ rfl g7 0 x rfl (P7.out.below E7.out).range HX.out ?_)
          | (refine wanted_on rfl ?_; refine wpList_load_v t24 rfl _ rfl g8 0 y rfl (P8.out.below E7.out).range HY.out ?_)
          | (refine wanted_on rfl ?_; refine wpList_load_v t24 rfl _ rfl g9 0 z rfl (P9.out.below E7.out).range HZ.out ?_)
          | (refine wanted_on rfl ?_; refine wpList_load_v t24 rfl _ rfl g10 0 (vj x y) rfl (P10.out.below E7.out).range JL.out ?_)
          | (refine wanted_on rfl ?_; refine wpList_load_v t24 rfl _ rfl g11 0 (vm x y) rfl (P11.out.below E7.out).range ML.out ?_))
        refine (leqV_is z (vm x y) true _ HZ.out ML.out (Lib.hid (le_m HX.out HY.out HZ.out Hq.out Hq2.out))).mono ?_
        rintro e V8 ⟨rfl, b1⟩
        have E8 := Lib.hid (step_ E7.out b1)
        clear b1
        go_wp2_with fail
        exact TL.out _ _ _ _ _ _ _ _ _ _ _ _ _ _ _ _ _ _ _ _ _ _ _ _ _ _ _ _ _ _ _ E8.out
  | true =>
    go_wp2_with (first
      | go_skip
      | (refine wanted_on rfl ?_; refine wpList_load_v t24 rfl _ rfl g7 0 x rfl (P7.out.below E5.out).range HX.out ?_)
      | (refine wanted_on rfl ?_; refine wpList_load_v t24 rfl _ rfl g8 0 y rfl (P8.out.below E5.out).range HY.out ?_)
      | (refine wanted_on rfl ?_; refine wpList_load_v t24 rfl _ rfl g9 0 z rfl (P9.out.below E5.out).range HZ.out ?_)
      | (refine wanted_on rfl ?_; refine wpList_load_v t24 rfl _ rfl g10 0 (vj x y) rfl (P10.out.below E5.out).range JL.out ?_)
      | (refine wanted_on rfl ?_; refine wpList_load_v t24 rfl _ rfl g11 0 (vm x y) rfl (P11.out.below E5.out).range ML.out ?_))
    obtain ⟨p2, hp2⟩ : ∃ r, vle y z = r := ⟨_, rfl⟩
    have Hp2 := Lib.hid hp2
    clear hp2
    refine (leqV_is y z p2 _ HY.out HZ.out Hp2).mono ?_
    rintro e V6 ⟨rfl, b1⟩
    have E6 := Lib.hid (step_ E5.out b1)
    clear b1
    cases p2 with
    | false =>
      go_wp2_with (first
        | go_skip
        | (refine wanted_on rfl ?_; refine wpList_load_v t24 rfl _ rfl g7 0 x rfl (P7.out.below E6.out).range HX.out ?_)
        | (refine wanted_on rfl ?_; refine wpList_load_v t24 rfl _ rfl g8 0 y rfl (P8.out.below E6.out).range HY.out ?_)
        | (refine wanted_on rfl ?_; refine wpList_load_v t24 rfl _ rfl g9 0 z rfl (P9.out.below E6.out).range HZ.out ?_)
        | (refine wanted_on rfl ?_; refine wpList_load_v t24 rfl _ rfl g10 0 (vj x y) rfl (P10.out.below E6.out).range JL.out ?_)
        | (refine wanted_on rfl ?_; refine wpList_load_v t24 rfl _ rfl g11 0 (vm x y) rfl (P11.out.below E6.out).range ML.out ?_))
      obtain ⟨q, hq⟩ : ∃ r, vle z x = r := ⟨_, rfl⟩
      have Hq := Lib.hid hq
      clear hq
      refine (leqV_is z x q _ HZ.out HX.out Hq).mono ?_
      rintro e V7 ⟨rfl, b1⟩
      have E7 := Lib.hid (step_ E6.out b1)
      clear b1
      cases q with
      | false =>
        go_wp2_with fail
        exact TL.out _ _ _ _ _ _ _ _ _ _ _ _ _ _ _ _ _ _ _ _ _ _ _ _ _ _ _ _ _ _ _ E7.out
      | true =>
        go_wp2_with (first
          | go_skip
          | (refine wanted_on rfl ?_; refine wpList_load_v t24 rfl _ rfl g7 0 x rfl (P7.out.below E7.out).range HX.out ?_)
          | (refine wanted_on rfl ?_; refine wpList_load_v t24 rfl _ rfl g8 0 y rfl (P8.out.below E7.out).range HY.out ?_)
          | (refine wanted_on rfl ?_; refine wpList_load_v t24 rfl _ rfl g9 0 z rfl (P9.out.below E7.out).range HZ.out ?_)
          | (refine wanted_on rfl ?_; refine wpList_load_v t24 rfl _ rfl g10 0 (vj x y) rfl (P10.out.below E7.out).range JL.out ?_)
          | (refine wanted_on rfl ?_; refine wpList_load_v t24 rfl _ rfl g11 0 (vm x y) rfl (P11.out.below E7.out).range ML.out ?_))
        obtain ⟨q2, hq2⟩ : ∃ r, vle z y = r := ⟨_, rfl⟩
        have Hq2 := Lib.hid hq2
        clear hq2
        refine (leqV_is z y q2 _ HZ.out HY.out Hq2).mono ?_
        rintro e V8 ⟨rfl, b1⟩
        have E8 := Lib.hid (step_ E7.out b1)
        clear b1
        cases q2 with
        | false =>
          go_wp2_with fail
          exact TL.out _ _ _ _ _ _ _ _ _ _ _ _ _ _ _ _ _ _ _ _ _ _ _ _ _ _ _ _ _ _ _ E8.out
        | true =>
          go_wp2_with (first
            | go_skip
            | (refine wanted_on rfl ?_; refine wpList_load_v t24 rfl _ rfl g7 0 x rfl (P7.out.below E8.out).range HX.out ?_)
            | (refine wanted_on rfl ?_; refine wpList_load_v t24 rfl _ rfl g8 0 y rfl (P8.out.below E8.out).range HY.out ?_)
            | (refine wanted_on rfl ?_; refine wpList_load_v t24 rfl _ rfl g9 0 z rfl (P9.out.below E8.out).range HZ.out ?_)
            | (refine wanted_on rfl ?_; refine wpList_load_v t24 rfl _ rfl g10 0 (vj x y) rfl (P10.out.below E8.out).range JL.out ?_)
            | (refine wanted_on rfl ?_; refine wpList_load_v t24 rfl _ rfl g11 0 (vm x y) rfl (P11.out.below E8.out).range ML.out ?_))
          refine (leqV_is z (vm x y) true _ HZ.out ML.out (Lib.hid (le_m HX.out HY.out HZ.out Hq.out Hq2.out))).mono ?_
          rintro e V9 ⟨rfl, b1⟩
          have E9 := Lib.hid (step_ E8.out b1)
          clear b1
          go_wp2_with fail
          exact TL.out _ _ _ _ _ _ _ _ _ _ _ _ _ _ _ _ _ _ _ _ _ _ _ _ _ _ _ _ _ _ _ E9.out
    | true =>
      go_wp2_with (first
        | go_skip
        | (refine wanted_on rfl ?_; refine wpList_load_v t24 rfl _ rfl g7 0 x rfl (P7.out.below E6.out).range HX.out ?_)
        | (refine wanted_on rfl ?_; refine wpList_load_v t24 rfl _ rfl g8 0 y rfl (P8.out.below E6.out).range HY.out ?_)
        | (refine wanted_on rfl ?_; refine wpList_load_v t24 rfl _ rfl g9 0 z rfl (P9.out.below E6.out).range HZ.out ?_)
        | (refine wanted_on rfl ?_; refine wpList_load_v t24 rfl _ rfl g10 0 (vj x y) rfl (P10.out.below E6.out).range JL.out ?_)
        | (refine wanted_on rfl ?_; refine wpList_load_v t24 rfl _ rfl g11 0 (vm x y) rfl (P11.out.below E6.out).range ML.out ?_))
      refine (leqV_is (vj x y) z true _ JL.out HZ.out (Lib.hid (j_le HX.out HY.out HZ.out Hp.out Hp2.out))).mono ?_
      rintro e V7 ⟨rfl, b1⟩
      have E7 := Lib.hid (step_ E6.out b1)
      clear b1
      go_wp2_with (first
        | go_skip
        | (refine wanted_on rfl ?_; refine wpList_load_v t24 rfl _ rfl g7 0 x rfl (P7.out.below E7.out).range HX.out ?_)
        | (refine wanted_on rfl ?_; refine wpList_load_v t24 rfl _ rfl g8 0 y rfl (P8.out.below E7.out).range HY.out ?_)
        | (refine wanted_on rfl ?_; refine wpList_load_v t24 rfl _ rfl g9 0 z rfl (P9.out.below E7.out).range HZ.out ?_)
        | (refine wanted_on rfl ?_; refine wpList_load_v t24 rfl _ rfl g10 0 (vj x y) rfl (P10.out.below E7.out).range JL.out ?_)
        | (refine wanted_on rfl ?_; refine wpList_load_v t24 rfl _ rfl g11 0 (vm x y) rfl (P11.out.below E7.out).range ML.out ?_))
      obtain ⟨q, hq⟩ : ∃ r, vle z x = r := ⟨_, rfl⟩
      have Hq := Lib.hid hq
      clear hq
      refine (leqV_is z x q _ HZ.out HX.out Hq).mono ?_
      rintro e V8 ⟨rfl, b1⟩
      have E8 := Lib.hid (step_ E7.out b1)
      clear b1
      cases q with
      | false =>
        go_wp2_with fail
        exact TL.out _ _ _ _ _ _ _ _ _ _ _ _ _ _ _ _ _ _ _ _ _ _ _ _ _ _ _ _ _ _ _ E8.out
      | true =>
        go_wp2_with (first
          | go_skip
          | (refine wanted_on rfl ?_; refine wpList_load_v t24 rfl _ rfl g7 0 x rfl (P7.out.below E8.out).range HX.out ?_)
          | (refine wanted_on rfl ?_; refine wpList_load_v t24 rfl _ rfl g8 0 y rfl (P8.out.below E8.out).range HY.out ?_)
          | (refine wanted_on rfl ?_; refine wpList_load_v t24 rfl _ rfl g9 0 z rfl (P9.out.below E8.out).range HZ.out ?_)
          | (refine wanted_on rfl ?_; refine wpList_load_v t24 rfl _ rfl g10 0 (vj x y) rfl (P10.out.below E8.out).range JL.out ?_)
          | (refine wanted_on rfl ?_; refine wpList_load_v t24 rfl _ rfl g11 0 (vm x y) rfl (P11.out.below E8.out).range ML.out ?_))
        obtain ⟨q2, hq2⟩ : ∃ r, vle z y = r := ⟨_, rfl⟩
        have Hq2 := Lib.hid hq2
        clear hq2
        refine (leqV_is z y q2 _ HZ.out HY.out Hq2).mono ?_
        rintro e V9 ⟨rfl, b1⟩
        have E9 := Lib.hid (step_ E8.out b1)
        clear b1
        cases q2 with
        | false =>
          go_wp2_with fail
          exact TL.out _ _ _ _ _ _ _ _ _ _ _ _ _ _ _ _ _ _ _ _ _ _ _ _ _ _ _ _ _ _ _ E9.out
        | true =>
          go_wp2_with (first
            | go_skip
            | (refine wanted_on rfl ?_; refine wpList_load_v t24 rfl _ rfl g7 0 x rfl (P7.out.below E9.out).range HX.out ?_)
            | (refine wanted_on rfl ?_; refine wpList_load_v t24 rfl _ rfl g8 0 y rfl (P8.out.below E9.out).range HY.out ?_)
            | (refine wanted_on rfl ?_; refine wpList_load_v t24 rfl _ rfl g9 0 z rfl (P9.out.below E9.out).range HZ.out ?_)
            | (refine wanted_on rfl ?_; refine wpList_load_v t24 rfl _ rfl g10 0 (vj x y) rfl (P10.out.below E9.out).range JL.out ?_)
            | (refine wanted_on rfl ?_; refine wpList_load_v t24 rfl _ rfl g11 0 (vm x y) rfl (P11.out.below E9.out).range ML.out ?_))
          refine (leqV_is z (vm x y) true _ HZ.out ML.out (Lib.hid (le_m HX.out HY.out HZ.out Hq.out Hq2.out))).mono ?_
          rintro e V10 ⟨rfl, b1⟩
          have E10 := Lib.hid (step_ E9.out b1)
          clear b1
          go_wp2_with fail
          exact TL.out _ _ _ _ _ _ _ _ _ _ _ _ _ _ _ _ _ _ _ _ _ _ _ _ _ _ _ _ _ _ _ E10.out
end Go.Proofs.Ytihkncnhkljgpaa
