/- The contracts of Count, Same, Join and Less of package dots. Written by wip/tools/uses2_r13.py. -/
import Derived.Test.YtpgafijeecmgmaaUses
namespace Go.Proofs.Ytpgafijeecmgmaa
open Go.RowKit

theorem sum_nx {f : List Int} {j : Nat} (h : j < f.length) : (f.take (j + 1)).sum = (f.take j).sum + f.getD j 0 := by
  rw [getD_at h, ← List.take_append_getElem h, List.sum_append_int]; simp
theorem sum_rg {f : List Int} (h : VOk f) : ∀ j : Nat, 0 ≤ (f.take j).sum ∧ (f.take j).sum ≤ j * 4294967295
  | 0 => by simp
  | j + 1 => by
    have a := sum_rg h j
    by_cases hj : j < f.length
    · rw [sum_nx hj]; have := h.at j; omega
    · rw [List.take_of_length_le (by omega)]
      rw [List.take_of_length_le (by omega)] at a
      omega
theorem exec_idxV {o : Oper} {a : Act} {w : World} (x y : Operand) (ho : o.op = .index 31 x y) (l : List Int) (j : Nat) (hx : a.eval x = .agg (vc l).toArray) (hy : a.eval y = .int .i64 j) (hl : l.length = 16) (hj : j < 16) :
    (execOp a.eval o).run Try.prog w = .ok (.value (.int .u32 (l.getD j 0))) w := by
  have hsz := Try.sizeOf22
  have hr : (Instr.index 31 (.agg (vc l).toArray) (.int .i64 j)).run Try.prog w = .ok (.int .u32 (l.getD j 0)) w := by
    simp only [Instr.index, asIntOf, Sem.run_bind, Sem.run_pure, Result.andThen_ok, run_underlying Try.underlying31]
    rw [if_pos ⟨by omega, by omega⟩]
    simp only [Sem.run_bind, hsz, Result.andThen_ok, Int.toNat_natCast, Nat.mul_one]
    rw [part_v l j (by omega) w, getD_at (by omega)]
  unfold execOp
  simp only [ho, hx, hy, Sem.run_bind, hr, Result.andThen_ok, Sem.run_pure]
set_option maxRecDepth 100000 in
set_option maxHeartbeats 2000000 in
theorem count_is (f c : List Int) (A : Option Addr) (cp : Nat) (r : Int) (w : World) (hf : VOk f) (h1 : NumsAt w (.slice A c.length cp) c) (hn1 : c.length ≤ 2000) (hr : Hid (cntD (nrm f c) = r)) :
    Calls Try.prog 17 #[.agg (sc f (.slice A c.length cp)).toArray] w fun e w' => e = .returned (.int .u64 r) ∧ Below w.heap.size w w' := by
  have HF := Lib.hid hf
  have H1 := Lib.hid h1
  obtain ⟨p, hp⟩ : ∃ p, nrm f c = p := ⟨_, rfl⟩
  have NP := Lib.hid (hp ▸ nrm_of hf c)
  have HP := Lib.hid hp
  have hpl : p.2.length ≤ 2000 := by have := NP.out.len; omega
  rw [hp] at hr
  clear hf h1 hp
  have hwl : IntKind.u64.wrap (p.2.length : Int) = (p.2.length : Int) := by rw [IntKind.wrap_u64]; omega
  go_enter Try.func17, Try.ntmps17
  go_wp2_with (first
    | (refine wpList_box_cs rfl _ rfl (sc f (.slice A c.length cp)) rfl ?_; intro g0 w1 eg0 G1 b1)
    | refine wpList_load_s t33 rfl _ rfl g0 f _ rfl G1.out HF.out.len ?_)
  refine (add0_is f c A cp w1 HF.out (H1.out.below b1.out) hn1 p HP).mono ?_
  rintro e w2 ⟨A', c', rfl, o2, b2⟩
  have G2 := Lib.hid (G1.out.below b2)
  have B2 := Lib.hid (step_ b1.out b2)
  have hg0 := Lib.hid (show w.heap.size ≤ g0 by have := eg0.out; omega)
  clear o2 b2 G1
  go_wp2_with (first
    | (refine wpList_store_s t33 rfl _ _ rfl g0 f p.1 _ A' p.2.length c' rfl rfl G2.out HF.out.len NP.out.v.len ?_; intro w3 G3 o3; have c16 := G3.out.cell (sc_cloud (.slice A' p.2.length c') NP.out.v.len))
    | refine wpList_load_v t24 rfl _ rfl g0 0 p.1 rfl (range_floor G3.out.range) NP.out.v.len ?_)
  have B3 := Lib.hid (B2.out.trans (o3.out.below hg0.out B2.out.size))
  clear c16
  go_loopw [14, 3, 5] (fun i n _ wr => ∃ j : Nat, j ≤ 16 ∧ i = .int .i64 j ∧ n = .int .u64 (p.2.length + (p.1.take j).sum) ∧ wr = w3) (fun i _ _ _ => 16 - (intOf i).toNat)
  case atStart => exact ⟨0, by omega, rfl, by simp, rfl⟩
  case round =>
    obtain ⟨j, hj, rfl, rfl, rfl⟩ := hrel
    by_cases hlt : j < 16
    · obtain ⟨x, hx⟩ : ∃ x, p.1.getD j 0 = x := ⟨_, rfl⟩
      have HX := Lib.hid hx
      have hs := sum_rg NP.out.v j
      have hxr := NP.out.v.at j
      rw [hx] at hxr
      have e1 : IntKind.u64.wrap x = x := by rw [IntKind.wrap_u64]; omega
      have e2 : IntKind.u64.wrap ((p.2.length : Int) + (p.1.take j).sum + x) = (p.2.length : Int) + (p.1.take (j + 1)).sum := by
        rw [sum_nx (by rw [NP.out.v.len]; exact hlt), hx, IntKind.wrap_u64]; omega
      clear hs hx
      go_wp2_with (first
        | (refine wpList_val rfl _ (exec_idxV _ _ rfl p.1 j rfl rfl NP.out.v.len hlt) ?_; rw [HX.out]))
      go_roundw
      case rel =>
        refine ⟨j + 1, by omega, by go_num, ?_⟩
        first | trivial | exact ⟨rfl, rfl⟩
      case measure => simp [intOf]; omega
    · obtain rfl : j = 16 := by omega
      go_wp2_with fail
      go_ret
      refine ⟨ret_int ?_, B3.out⟩
      rw [List.take_of_length_le (by rw [NP.out.v.len]; omega), ← hr.out]
      unfold cntD; omega
set_option maxRecDepth 100000 in
set_option maxHeartbeats 4000000 in
theorem same_is (f c g e : List Int) (A A2 : Option Addr) (cp cp2 : Nat) (r : Bool) (w : World) (hf : VOk f) (hg : VOk g) (h1 : NumsAt w (.slice A c.length cp) c) (h2 : NumsAt w (.slice A2 e.length cp2) e) (hn1 : c.length ≤ 2000) (hn2 : e.length ≤ 2000) (hr : Hid (decide (nrm f c = nrm g e) = r)) :
    Calls Try.prog 24 #[.agg (sc f (.slice A c.length cp)).toArray, .agg (sc g (.slice A2 e.length cp2)).toArray] w fun e w' => e = .returned (.bool r) ∧ Below w.heap.size w w' := by
  have HF := Lib.hid hf
  have HG := Lib.hid hg
  have H1 := Lib.hid h1
  have H2 := Lib.hid h2
  obtain ⟨p, hp⟩ : ∃ p, nrm f c = p := ⟨_, rfl⟩
  obtain ⟨q, hq⟩ : ∃ p, nrm g e = p := ⟨_, rfl⟩
  have NP := Lib.hid (hp ▸ nrm_of hf c)
  have NQ := Lib.hid (hq ▸ nrm_of hg e)
  have HP := Lib.hid hp
  have HQ := Lib.hid hq
  have hpl : p.2.length ≤ 2000 := by have := NP.out.len; omega
  rw [hp, hq] at hr
  obtain ⟨r1, hr1⟩ : ∃ r, (p.1 == q.1) = r := ⟨_, rfl⟩
  obtain ⟨r2, hr2⟩ : ∃ r, decide (p.2 = q.2) = r := ⟨_, rfl⟩
  have her : (r1 && r2) = r := by
    rw [← hr.out, ← hr1, ← hr2, Bool.eq_iff_iff]
    simp only [Bool.and_eq_true, beq_iff_eq, decide_eq_true_eq]
    exact ⟨fun x => Prod.ext x.1 x.2, fun x => by rw [x]; exact ⟨rfl, rfl⟩⟩
  clear hf hg h1 h2 hp hq hr
  go_enter Try.func24, Try.ntmps24
  go_wp2_with (first
    | (have _ := G1.out; refine wpList_box_cs rfl _ rfl (sc g (.slice A2 e.length cp2)) rfl ?_; intro g1 w2 eg1 K1 b2)
    | (refine wpList_box_cs rfl _ rfl (sc f (.slice A c.length cp)) rfl ?_; intro g0 w1 eg0 G1 b1))
  have G0 := Lib.hid (G1.out.below b2.out)
  have BB := Lib.hid (b1.out.trans (b2.out.mono b1.out.size))
  have hg0 := Lib.hid (show w.heap.size ≤ g0 by have := eg0.out; omega)
  have hg1 := Lib.hid (show w.heap.size ≤ g1 by have := eg1.out; have := b1.out.size; omega)
  have NE := Lib.hid (show g0 ≠ g1 by have := G1.out.lt; have := eg1.out; omega)
  have D0 := Lib.hid (show Below w2.heap.size w2 w2.drew from below_drew (Below.refl _ _))
  have D1 := Lib.hid (step_ BB.out D0.out)
  clear G1 b1 b2
  have G1 := K1
  clear K1
  refine wp_region_noPanic ?_
  refine wp_region_held_drew (S := fun _ => True) (by kernel_rfl) trivial (fun _ => ?_)
  refine wpAnyH_ready (rs := [0, 2]) (by kernel_rfl) (by simp) ?_
  refine ready_load_s t33 (o := { dst := some 5, op := Go.Op.load 33 (Go.Operand.tmp 2), type := 33, pos := _, after := #[], guard := none }) rfl rfl (.tmp 2) rfl g0 f _ rfl (G0.out.below D0.out) HF.out.len ⟨trivial, ?_⟩ ?_
  · try simp only [Act.put, List.setIfInBounds_toArray, List.set_cons_zero, List.set_cons_succ]
    refine wpAnyH_ready (rs := [1, 2]) (by kernel_rfl) (by simp) ?_
    refine AllReadyH.cons (o := { dst := some 6, op := Go.Op.call { callee := Go.Callee.value (Go.Operand.func 11), args := #[Go.Operand.tmp 5, Go.Operand.const (Go.Value.slice none 0 0)], argTypes := #[33, 24] }, type := 33, pos := _, after := #[{ on := 0, ground := Go.Ground.data }], guard := none }) rfl (fun K hK => ?_) ?_
    · go_simp
      refine (add0_is f c A cp _ HF.out (H1.out.below D1.out) hn1 p HP).mono ?_
      rintro e W2 ⟨Ak2, ck2, rfl, o2, b2⟩
      have B2 := Lib.hid (step_ D0.out b2)
      have W2 := Lib.hid (step_ D1.out b2)
      have Op_2 := Lib.hid o2
      clear o2 b2
      go_wp2_with fail
      refine hK.out _ _ trivial (fun _ => ?_)
      clear hK K
      try simp only [Act.put, List.setIfInBounds_toArray, List.set_cons_zero, List.set_cons_succ]
      refine wpAnyH_ready (rs := [2]) (by kernel_rfl) (by simp) ?_
      refine ready_load_s t33 (o := { dst := some 7, op := Go.Op.load 33 (Go.Operand.tmp 3), type := 33, pos := _, after := #[], guard := none }) rfl rfl (.tmp 3) rfl g1 g _ rfl (G1.out.below B2.out) HG.out.len ⟨trivial, ?_⟩ AllReadyH.nil
      try simp only [Act.put, List.setIfInBounds_toArray, List.set_cons_zero, List.set_cons_succ]
      refine wpAnyH_ready (rs := [3]) (by kernel_rfl) (by simp) ?_
      refine AllReadyH.cons (o := { dst := some 8, op := Go.Op.call { callee := Go.Callee.value (Go.Operand.func 11), args := #[Go.Operand.tmp 7, Go.Operand.const (Go.Value.slice none 0 0)], argTypes := #[33, 24] }, type := 33, pos := _, after := #[{ on := 2, ground := Go.Ground.data }, { on := 1, ground := Go.Ground.chain }], guard := none }) rfl (fun K hK => ?_) AllReadyH.nil
      go_simp
      refine (add0_is g e A2 cp2 _ HG.out (H2.out.below W2.out) hn2 q HQ).mono ?_
      rintro e W4 ⟨Ak4, ck4, rfl, o4, b4⟩
      have B4 := Lib.hid (step_ B2.out b4)
      have W4 := Lib.hid (step_ W2.out b4)
      have Oq_4 := Lib.hid o4
      have Op_4 := Lib.hid (Op_2.out.below b4)
      clear o4 b4
      go_wp2_with fail
      refine hK.out _ _ trivial (fun _ => ?_)
      clear hK K
      try simp only [Act.put, List.setIfInBounds_toArray, List.set_cons_zero, List.set_cons_succ]
      refine wpAnyH_ready (rs := [4]) (by kernel_rfl) (by simp) ?_
      refine ready_store_s t33 (o := { dst := none, op := Go.Op.store 33 (Go.Operand.tmp 2) (Go.Operand.tmp 6), type := 0, pos := _, after := #[{ on := 1, ground := Go.Ground.data }, { on := 3, ground := Go.Ground.chain }, { on := 0, ground := Go.Ground.phase }, { on := 1, ground := Go.Ground.phase }, { on := 2, ground := Go.Ground.textOnly Go.Departure.lateStores }, { on := 3, ground := Go.Ground.textOnly Go.Departure.lateStoresUnsure }], guard := none }) rfl rfl (.tmp 2) (.tmp 6) rfl g0 f p.1 _ Ak2 p.2.length ck2 rfl rfl (G0.out.below B4.out) HF.out.len NP.out.v.len (fun w5 z5 o5 => ⟨trivial, ?_⟩) AllReadyH.nil
      simp only [Act.put]
      refine wpAnyH_ready (rs := [5]) (by kernel_rfl) (by simp) ?_
      refine ready_store_s t33 (o := { dst := none, op := Go.Op.store 33 (Go.Operand.tmp 3) (Go.Operand.tmp 8), type := 0, pos := _, after := #[{ on := 3, ground := Go.Ground.data }, { on := 4, ground := Go.Ground.chain }, { on := 0, ground := Go.Ground.phase }, { on := 1, ground := Go.Ground.phase }, { on := 2, ground := Go.Ground.phase }, { on := 3, ground := Go.Ground.phase }, { on := 4, ground := Go.Ground.phase }], guard := none }) rfl rfl (.tmp 3) (.tmp 8) rfl g1 g q.1 _ Ak4 q.2.length ck4 rfl rfl ((G1.out.below B4.out).only o5 NE.out.symm) HG.out.len NQ.out.v.len (fun w6 z6 o6 => ⟨trivial, ?_⟩) AllReadyH.nil
      simp only [Act.put]
      refine wpAnyH_done (by kernel_rfl) ?_ _
      refine NoPanic.normal ?_
      have Z1 := Lib.hid (z5.only o6 NE.out)
      have Z2 := Lib.hid z6
      have P1 := Lib.hid ((Op_4.out.only o5 (fun k hk e => Op_4.out.neT (G0.out.below B4.out) (by decide) (by rw [hk, e]))).only o6 (fun k hk e => Op_4.out.neT (G1.out.below B4.out) (by decide) (by rw [hk, e])))
      have P2 := Lib.hid ((Oq_4.out.only o5 (fun k hk e => Oq_4.out.neT (G0.out.below B4.out) (by decide) (by rw [hk, e]))).only o6 (fun k hk e => Oq_4.out.neT (G1.out.below B4.out) (by decide) (by rw [hk, e])))
      have WF := Lib.hid (W4.out.trans ((o5.below hg0.out W4.out.size).trans (o6.below hg1.out (Nat.le_trans W4.out.size o5.size))))
      clear z5 o5 z6 o6
      have k16 := Z1.out.cell (sc_cloud (.slice Ak2 p.2.length ck2) NP.out.v.len)
      have k17 := Z2.out.cell (sc_cloud (.slice Ak4 q.2.length ck4) NQ.out.v.len)
      cases r1 with
      | false =>
        obtain rfl : r = false := her.symm
        go_wp2_with (first
          | go_skip
          | refine wpList_load_v t24 rfl _ rfl g0 0 p.1 rfl (range_floor Z1.out.range) NP.out.v.len ?_
          | refine wpList_load_v t24 rfl _ rfl g1 0 q.1 rfl (range_floor Z2.out.range) NQ.out.v.len ?_
          | refine wpList_val rfl _ (exec_eq_vr t24 _ _ _ rfl p.1 q.1 rfl rfl NP.out.v.len NQ.out.v.len hr1) ?_)
        go_ret
        exact ⟨rfl, WF.out⟩
      | true =>
        obtain rfl : r = r2 := her.symm
        go_wp2_with (first
          | go_skip
          | refine wpList_load_v t24 rfl _ rfl g0 0 p.1 rfl (range_floor Z1.out.range) NP.out.v.len ?_
          | refine wpList_load_v t24 rfl _ rfl g1 0 q.1 rfl (range_floor Z2.out.range) NQ.out.v.len ?_
          | refine wpList_val rfl _ (exec_eq_vr t24 _ _ _ rfl p.1 q.1 rfl rfl NP.out.v.len NQ.out.v.len hr1) ?_)
        refine (equal_is p.2 q.2 Ak2 Ak4 ck2 ck4 r _ P1.out.at_ P2.out.at_ (by omega) (Lib.hid hr2)).mono ?_
        rintro e wz ⟨rfl, bz⟩
        have WZ := Lib.hid (step_ WF.out bz)
        clear bz k16 k17
        go_wp2_with fail
        go_ret
        exact ⟨rfl, WZ.out⟩
    refine ready_load_s t33 (o := { dst := some 7, op := Go.Op.load 33 (Go.Operand.tmp 3), type := 33, pos := _, after := #[], guard := none }) rfl rfl (.tmp 3) rfl g1 g _ rfl (G1.out.below D0.out) HG.out.len ⟨trivial, ?_⟩ AllReadyH.nil
    try simp only [Act.put, List.setIfInBounds_toArray, List.set_cons_zero, List.set_cons_succ]
    refine wpAnyH_ready (rs := [1]) (by kernel_rfl) (by simp) ?_
    refine AllReadyH.cons (o := { dst := some 6, op := Go.Op.call { callee := Go.Callee.value (Go.Operand.func 11), args := #[Go.Operand.tmp 5, Go.Operand.const (Go.Value.slice none 0 0)], argTypes := #[33, 24] }, type := 33, pos := _, after := #[{ on := 0, ground := Go.Ground.data }], guard := none }) rfl (fun K hK => ?_) AllReadyH.nil
    go_simp
    refine (add0_is f c A cp _ HF.out (H1.out.below D1.out) hn1 p HP).mono ?_
    rintro e W8 ⟨Ak8, ck8, rfl, o8, b8⟩
    have B8 := Lib.hid (step_ D0.out b8)
    have W8 := Lib.hid (step_ D1.out b8)
    have Op_8 := Lib.hid o8
    clear o8 b8
    go_wp2_with fail
    refine hK.out _ _ trivial (fun _ => ?_)
    clear hK K
    try simp only [Act.put, List.setIfInBounds_toArray, List.set_cons_zero, List.set_cons_succ]
    refine wpAnyH_ready (rs := [3]) (by kernel_rfl) (by simp) ?_
    refine AllReadyH.cons (o := { dst := some 8, op := Go.Op.call { callee := Go.Callee.value (Go.Operand.func 11), args := #[Go.Operand.tmp 7, Go.Operand.const (Go.Value.slice none 0 0)], argTypes := #[33, 24] }, type := 33, pos := _, after := #[{ on := 2, ground := Go.Ground.data }, { on := 1, ground := Go.Ground.chain }], guard := none }) rfl (fun K hK => ?_) AllReadyH.nil
    go_simp
    refine (add0_is g e A2 cp2 _ HG.out (H2.out.below W8.out) hn2 q HQ).mono ?_
    rintro e W9 ⟨Ak9, ck9, rfl, o9, b9⟩
    have B9 := Lib.hid (step_ B8.out b9)
    have W9 := Lib.hid (step_ W8.out b9)
    have Oq_9 := Lib.hid o9
    have Op_9 := Lib.hid (Op_8.out.below b9)
    clear o9 b9
    go_wp2_with fail
    refine hK.out _ _ trivial (fun _ => ?_)
    clear hK K
    try simp only [Act.put, List.setIfInBounds_toArray, List.set_cons_zero, List.set_cons_succ]
    refine wpAnyH_ready (rs := [4]) (by kernel_rfl) (by simp) ?_
    refine ready_store_s t33 (o := { dst := none, op := Go.Op.store 33 (Go.Operand.tmp 2) (Go.Operand.tmp 6), type := 0, pos := _, after := #[{ on := 1, ground := Go.Ground.data }, { on := 3, ground := Go.Ground.chain }, { on := 0, ground := Go.Ground.phase }, { on := 1, ground := Go.Ground.phase }, { on := 2, ground := Go.Ground.textOnly Go.Departure.lateStores }, { on := 3, ground := Go.Ground.textOnly Go.Departure.lateStoresUnsure }], guard := none }) rfl rfl (.tmp 2) (.tmp 6) rfl g0 f p.1 _ Ak8 p.2.length ck8 rfl rfl (G0.out.below B9.out) HF.out.len NP.out.v.len (fun w10 z10 o10 => ⟨trivial, ?_⟩) AllReadyH.nil
    simp only [Act.put]
    refine wpAnyH_ready (rs := [5]) (by kernel_rfl) (by simp) ?_
    refine ready_store_s t33 (o := { dst := none, op := Go.Op.store 33 (Go.Operand.tmp 3) (Go.Operand.tmp 8), type := 0, pos := _, after := #[{ on := 3, ground := Go.Ground.data }, { on := 4, ground := Go.Ground.chain }, { on := 0, ground := Go.Ground.phase }, { on := 1, ground := Go.Ground.phase }, { on := 2, ground := Go.Ground.phase }, { on := 3, ground := Go.Ground.phase }, { on := 4, ground := Go.Ground.phase }], guard := none }) rfl rfl (.tmp 3) (.tmp 8) rfl g1 g q.1 _ Ak9 q.2.length ck9 rfl rfl ((G1.out.below B9.out).only o10 NE.out.symm) HG.out.len NQ.out.v.len (fun w11 z11 o11 => ⟨trivial, ?_⟩) AllReadyH.nil
    simp only [Act.put]
    refine wpAnyH_done (by kernel_rfl) ?_ _
    refine NoPanic.normal ?_
    have Z1 := Lib.hid (z10.only o11 NE.out)
    have Z2 := Lib.hid z11
    have P1 := Lib.hid ((Op_9.out.only o10 (fun k hk e => Op_9.out.neT (G0.out.below B9.out) (by decide) (by rw [hk, e]))).only o11 (fun k hk e => Op_9.out.neT (G1.out.below B9.out) (by decide) (by rw [hk, e])))
    have P2 := Lib.hid ((Oq_9.out.only o10 (fun k hk e => Oq_9.out.neT (G0.out.below B9.out) (by decide) (by rw [hk, e]))).only o11 (fun k hk e => Oq_9.out.neT (G1.out.below B9.out) (by decide) (by rw [hk, e])))
    have WF := Lib.hid (W9.out.trans ((o10.below hg0.out W9.out.size).trans (o11.below hg1.out (Nat.le_trans W9.out.size o10.size))))
    clear z10 o10 z11 o11
    have k16 := Z1.out.cell (sc_cloud (.slice Ak8 p.2.length ck8) NP.out.v.len)
    have k17 := Z2.out.cell (sc_cloud (.slice Ak9 q.2.length ck9) NQ.out.v.len)
    cases r1 with
    | false =>
      obtain rfl : r = false := her.symm
      go_wp2_with (first
        | go_skip
        | refine wpList_load_v t24 rfl _ rfl g0 0 p.1 rfl (range_floor Z1.out.range) NP.out.v.len ?_
        | refine wpList_load_v t24 rfl _ rfl g1 0 q.1 rfl (range_floor Z2.out.range) NQ.out.v.len ?_
        | refine wpList_val rfl _ (exec_eq_vr t24 _ _ _ rfl p.1 q.1 rfl rfl NP.out.v.len NQ.out.v.len hr1) ?_)
      go_ret
      exact ⟨rfl, WF.out⟩
    | true =>
      obtain rfl : r = r2 := her.symm
      go_wp2_with (first
        | go_skip
        | refine wpList_load_v t24 rfl _ rfl g0 0 p.1 rfl (range_floor Z1.out.range) NP.out.v.len ?_
        | refine wpList_load_v t24 rfl _ rfl g1 0 q.1 rfl (range_floor Z2.out.range) NQ.out.v.len ?_
        | refine wpList_val rfl _ (exec_eq_vr t24 _ _ _ rfl p.1 q.1 rfl rfl NP.out.v.len NQ.out.v.len hr1) ?_)
      refine (equal_is p.2 q.2 Ak8 Ak9 ck8 ck9 r _ P1.out.at_ P2.out.at_ (by omega) (Lib.hid hr2)).mono ?_
      rintro e wz ⟨rfl, bz⟩
      have WZ := Lib.hid (step_ WF.out bz)
      clear bz k16 k17
      go_wp2_with fail
      go_ret
      exact ⟨rfl, WZ.out⟩
  refine ready_load_s t33 (o := { dst := some 7, op := Go.Op.load 33 (Go.Operand.tmp 3), type := 33, pos := _, after := #[], guard := none }) rfl rfl (.tmp 3) rfl g1 g _ rfl (G1.out.below D0.out) HG.out.len ⟨trivial, ?_⟩ AllReadyH.nil
  try simp only [Act.put, List.setIfInBounds_toArray, List.set_cons_zero, List.set_cons_succ]
  refine wpAnyH_ready (rs := [0]) (by kernel_rfl) (by simp) ?_
  refine ready_load_s t33 (o := { dst := some 5, op := Go.Op.load 33 (Go.Operand.tmp 2), type := 33, pos := _, after := #[], guard := none }) rfl rfl (.tmp 2) rfl g0 f _ rfl (G0.out.below D0.out) HF.out.len ⟨trivial, ?_⟩ AllReadyH.nil
  try simp only [Act.put, List.setIfInBounds_toArray, List.set_cons_zero, List.set_cons_succ]
  refine wpAnyH_ready (rs := [1]) (by kernel_rfl) (by simp) ?_
  refine AllReadyH.cons (o := { dst := some 6, op := Go.Op.call { callee := Go.Callee.value (Go.Operand.func 11), args := #[Go.Operand.tmp 5, Go.Operand.const (Go.Value.slice none 0 0)], argTypes := #[33, 24] }, type := 33, pos := _, after := #[{ on := 0, ground := Go.Ground.data }], guard := none }) rfl (fun K hK => ?_) AllReadyH.nil
  go_simp
  refine (add0_is f c A cp _ HF.out (H1.out.below D1.out) hn1 p HP).mono ?_
  rintro e W14 ⟨Ak14, ck14, rfl, o14, b14⟩
  have B14 := Lib.hid (step_ D0.out b14)
  have W14 := Lib.hid (step_ D1.out b14)
  have Op_14 := Lib.hid o14
  clear o14 b14
  go_wp2_with fail
  refine hK.out _ _ trivial (fun _ => ?_)
  clear hK K
  try simp only [Act.put, List.setIfInBounds_toArray, List.set_cons_zero, List.set_cons_succ]
  refine wpAnyH_ready (rs := [3]) (by kernel_rfl) (by simp) ?_
  refine AllReadyH.cons (o := { dst := some 8, op := Go.Op.call { callee := Go.Callee.value (Go.Operand.func 11), args := #[Go.Operand.tmp 7, Go.Operand.const (Go.Value.slice none 0 0)], argTypes := #[33, 24] }, type := 33, pos := _, after := #[{ on := 2, ground := Go.Ground.data }, { on := 1, ground := Go.Ground.chain }], guard := none }) rfl (fun K hK => ?_) AllReadyH.nil
  go_simp
  refine (add0_is g e A2 cp2 _ HG.out (H2.out.below W14.out) hn2 q HQ).mono ?_
  rintro e W15 ⟨Ak15, ck15, rfl, o15, b15⟩
  have B15 := Lib.hid (step_ B14.out b15)
  have W15 := Lib.hid (step_ W14.out b15)
  have Oq_15 := Lib.hid o15
  have Op_15 := Lib.hid (Op_14.out.below b15)
  clear o15 b15
  go_wp2_with fail
  refine hK.out _ _ trivial (fun _ => ?_)
  clear hK K
  try simp only [Act.put, List.setIfInBounds_toArray, List.set_cons_zero, List.set_cons_succ]
  refine wpAnyH_ready (rs := [4]) (by kernel_rfl) (by simp) ?_
  refine ready_store_s t33 (o := { dst := none, op := Go.Op.store 33 (Go.Operand.tmp 2) (Go.Operand.tmp 6), type := 0, pos := _, after := #[{ on := 1, ground := Go.Ground.data }, { on := 3, ground := Go.Ground.chain }, { on := 0, ground := Go.Ground.phase }, { on := 1, ground := Go.Ground.phase }, { on := 2, ground := Go.Ground.textOnly Go.Departure.lateStores }, { on := 3, ground := Go.Ground.textOnly Go.Departure.lateStoresUnsure }], guard := none }) rfl rfl (.tmp 2) (.tmp 6) rfl g0 f p.1 _ Ak14 p.2.length ck14 rfl rfl (G0.out.below B15.out) HF.out.len NP.out.v.len (fun w16 z16 o16 => ⟨trivial, ?_⟩) AllReadyH.nil
  simp only [Act.put]
  refine wpAnyH_ready (rs := [5]) (by kernel_rfl) (by simp) ?_
  refine ready_store_s t33 (o := { dst := none, op := Go.Op.store 33 (Go.Operand.tmp 3) (Go.Operand.tmp 8), type := 0, pos := _, after := #[{ on := 3, ground := Go.Ground.data }, { on := 4, ground := Go.Ground.chain }, { on := 0, ground := Go.Ground.phase }, { on := 1, ground := Go.Ground.phase }, { on := 2, ground := Go.Ground.phase }, { on := 3, ground := Go.Ground.phase }, { on := 4, ground := Go.Ground.phase }], guard := none }) rfl rfl (.tmp 3) (.tmp 8) rfl g1 g q.1 _ Ak15 q.2.length ck15 rfl rfl ((G1.out.below B15.out).only o16 NE.out.symm) HG.out.len NQ.out.v.len (fun w17 z17 o17 => ⟨trivial, ?_⟩) AllReadyH.nil
  simp only [Act.put]
  refine wpAnyH_done (by kernel_rfl) ?_ _
  refine NoPanic.normal ?_
  have Z1 := Lib.hid (z16.only o17 NE.out)
  have Z2 := Lib.hid z17
  have P1 := Lib.hid ((Op_15.out.only o16 (fun k hk e => Op_15.out.neT (G0.out.below B15.out) (by decide) (by rw [hk, e]))).only o17 (fun k hk e => Op_15.out.neT (G1.out.below B15.out) (by decide) (by rw [hk, e])))
  have P2 := Lib.hid ((Oq_15.out.only o16 (fun k hk e => Oq_15.out.neT (G0.out.below B15.out) (by decide) (by rw [hk, e]))).only o17 (fun k hk e => Oq_15.out.neT (G1.out.below B15.out) (by decide) (by rw [hk, e])))
  have WF := Lib.hid (W15.out.trans ((o16.below hg0.out W15.out.size).trans (o17.below hg1.out (Nat.le_trans W15.out.size o16.size))))
  clear z16 o16 z17 o17
  have k16 := Z1.out.cell (sc_cloud (.slice Ak14 p.2.length ck14) NP.out.v.len)
  have k17 := Z2.out.cell (sc_cloud (.slice Ak15 q.2.length ck15) NQ.out.v.len)
  cases r1 with
  | false =>
    obtain rfl : r = false := her.symm
    go_wp2_with (first
      | go_skip
      | refine wpList_load_v t24 rfl _ rfl g0 0 p.1 rfl (range_floor Z1.out.range) NP.out.v.len ?_
      | refine wpList_load_v t24 rfl _ rfl g1 0 q.1 rfl (range_floor Z2.out.range) NQ.out.v.len ?_
      | refine wpList_val rfl _ (exec_eq_vr t24 _ _ _ rfl p.1 q.1 rfl rfl NP.out.v.len NQ.out.v.len hr1) ?_)
    go_ret
    exact ⟨rfl, WF.out⟩
  | true =>
    obtain rfl : r = r2 := her.symm
    go_wp2_with (first
      | go_skip
      | refine wpList_load_v t24 rfl _ rfl g0 0 p.1 rfl (range_floor Z1.out.range) NP.out.v.len ?_
      | refine wpList_load_v t24 rfl _ rfl g1 0 q.1 rfl (range_floor Z2.out.range) NQ.out.v.len ?_
      | refine wpList_val rfl _ (exec_eq_vr t24 _ _ _ rfl p.1 q.1 rfl rfl NP.out.v.len NQ.out.v.len hr1) ?_)
    refine (equal_is p.2 q.2 Ak14 Ak15 ck14 ck15 r _ P1.out.at_ P2.out.at_ (by omega) (Lib.hid hr2)).mono ?_
    rintro e wz ⟨rfl, bz⟩
    have WZ := Lib.hid (step_ WF.out bz)
    clear bz k16 k17
    go_wp2_with fail
    go_ret
    exact ⟨rfl, WZ.out⟩
section
variable {ops : Array Oper} {Q : Exit → Act → World → Prop} {md : Region.Mode} {S : World → Prop} {fuel : Nat} {listed : Array Bool} {a : Act} {w : World} {i : Nat} {o : Oper} {rs : List Nat}
theorem ready_two (ho : ops[i]? = some o) (hg : o.guard = none) (x y : Operand) (hop : o.op = .buildSlice 63 2 #[(0, x), (1, y)]) (A1 A2 : Option Addr) (n1 n2 c1 c2 : Nat) (hx : a.eval x = .slice A1 n1 c1) (hy : a.eval y = .slice A2 n2 c2)
    (h : ∀ g w', Below w.heap.size w w' → Blk w' g 24 [.slice A1 n1 c1, .slice A2 n2 c2] → S w' ∧ wpAnyH Try.prog md ops Q S fuel (listed.setIfInBounds i true) (a.put o.dst (.slice (some ⟨g, 0, none⟩) 2 2)) w')
    (hs : AllReadyH Try.prog md ops Q S fuel listed a w rs) : AllReadyH Try.prog md ops Q S fuel listed a w (i :: rs) :=
  ready_val ho hg _ _ (exec_two x y hop A1 A2 n1 n2 c1 c2 hx hy) (h _ _ (new_below w _) (blk_alloc w 24 [.slice A1 n1 c1, .slice A2 n2 c2])) hs
end
set_option maxRecDepth 100000 in
set_option maxHeartbeats 4000000 in
theorem join_is (f c g e : List Int) (A A2 : Option Addr) (cp cp2 : Nat) (w : World) (hf : VOk f) (hg : VOk g) (h1 : NumsAt w (.slice A c.length cp) c) (h2 : NumsAt w (.slice A2 e.length cp2) e) (hn1 : c.length ≤ 2000) (hn2 : e.length ≤ 2000) (p : List Int × List Int) (hp : Hid (nrm (vj f g) (c ++ e) = p)) :
    Calls Try.prog 19 #[.agg (sc f (.slice A c.length cp)).toArray, .agg (sc g (.slice A2 e.length cp2)).toArray] w (GivesS w p) := by
  have HF := Lib.hid hf
  have HG := Lib.hid hg
  have H1 := Lib.hid h1
  have H2 := Lib.hid h2
  have NJ := Lib.hid (vj_ok hf hg)
  have NP := Lib.hid (hp.out ▸ (nrm_of NJ.out (c ++ e)).v)
  clear hf hg h1 h2
  go_enter Try.func19, Try.ntmps19
  go_wp2_with (first
    | (refine wpList_alloc_s t33 rfl rfl ?_; intro gr w3 egr R3 b3)
    | (have _ := G1.out; refine wpList_box_cs rfl _ rfl (sc g (.slice A2 e.length cp2)) rfl ?_; intro g1 w2 eg1 K1 b2)
    | (refine wpList_box_cs rfl _ rfl (sc f (.slice A c.length cp)) rfl ?_; intro g0 w1 eg0 G1 b1))
  have c2 := Lib.hid (b1.out.trans (b2.out.mono b1.out.size))
  have c3 := Lib.hid (c2.out.trans (b3.out.mono c2.out.size))
  have G0 := Lib.hid ((G1.out.below b2.out).below b3.out)
  have l1 := (G1.out.below b2.out).lt
  have l2 := K1.out.lt
  have er := egr.out
  have hgr := Lib.hid (show w.heap.size ≤ gr by have := c2.out.size; omega)
  have NE0 := Lib.hid (show g0 ≠ gr by omega)
  have NE1 := Lib.hid (show g1 ≠ gr by omega)
  have D0 := Lib.hid (show Below w3.heap.size w3 w3.drew from below_drew (Below.refl _ _))
  have S0 := Lib.hid (show Only gr w3 w3.drew from Only.of_below D0.out)
  have D1 := Lib.hid (step_ c3.out D0.out)
  have RD := Lib.hid (R3.out.below D0.out)
  have K3 := Lib.hid (K1.out.below b3.out)
  clear G1 K1 b1 b2 b3 c2 c3 l1 l2 er R3
  have G1 := K3
  clear K3
  refine wp_region_noPanic ?_
  refine wp_region_held_drew (S := fun W => Only gr w3 W) (by kernel_rfl) S0.out (fun _ => ?_)
  refine wpAnyH_take (i := 0) (oi := { dst := some 5, op := Go.Op.fieldAddr 33 (Go.Operand.tmp 2) 0, type := 0, pos := _, after := #[], guard := none }) (v := ?_) rfl (by kernel_rfl) (by kernel_rfl) (by kernel_rfl) (fun _ _ _ h => h) (Or.inl ⟨by rfl, ?_⟩) S0.out ?_
  rotate_left
  · intro W hW; (go_simp; try with_reducible rfl)
  try simp only [Act.put, List.setIfInBounds_toArray, List.set_cons_zero, List.set_cons_succ]
  refine wpAnyH_take (i := 1) (oi := { dst := some 6, op := Go.Op.load 31 (Go.Operand.tmp 5), type := 31, pos := _, after := #[{ on := 0, ground := Go.Ground.data }], guard := none }) (v := .agg (vc f).toArray) rfl (by kernel_rfl) (by kernel_rfl) (by kernel_rfl) (fun _ _ _ h => h) (yieldsIf_load_mid (by rfl) 31 (.tmp 5) rfl g0 0 rfl (vc f) _ (fun W hW => range_floor (G0.out.only hW NE0.out).range) Try.underlying31 rfl (t24.size HF.out.len)) S0.out ?_
  try simp only [Act.put, List.setIfInBounds_toArray, List.set_cons_zero, List.set_cons_succ]
  refine wpAnyH_take (i := 2) (oi := { dst := some 7, op := Go.Op.fieldAddr 33 (Go.Operand.tmp 3) 0, type := 0, pos := _, after := #[], guard := none }) (v := ?_) rfl (by kernel_rfl) (by kernel_rfl) (by kernel_rfl) (fun _ _ _ h => h) (Or.inl ⟨by rfl, ?_⟩) S0.out ?_
  rotate_left
  · intro W hW; (go_simp; try with_reducible rfl)
  try simp only [Act.put, List.setIfInBounds_toArray, List.set_cons_zero, List.set_cons_succ]
  refine wpAnyH_take (i := 3) (oi := { dst := some 8, op := Go.Op.load 31 (Go.Operand.tmp 7), type := 31, pos := _, after := #[{ on := 2, ground := Go.Ground.data }], guard := none }) (v := .agg (vc g).toArray) rfl (by kernel_rfl) (by kernel_rfl) (by kernel_rfl) (fun _ _ _ h => h) (yieldsIf_load_mid (by rfl) 31 (.tmp 7) rfl g1 0 rfl (vc g) _ (fun W hW => range_floor (G1.out.only hW NE1.out).range) Try.underlying31 rfl (t24.size HG.out.len)) S0.out ?_
  try simp only [Act.put, List.setIfInBounds_toArray, List.set_cons_zero, List.set_cons_succ]
  refine wpAnyH_take (i := 5) (oi := { dst := some 10, op := Go.Op.fieldAddr 33 (Go.Operand.tmp 2) 1, type := 0, pos := _, after := #[], guard := none }) (v := ?_) rfl (by kernel_rfl) (by kernel_rfl) (by kernel_rfl) (fun _ _ _ h => h) (Or.inl ⟨by rfl, ?_⟩) S0.out ?_
  rotate_left
  · intro W hW; (go_simp; try with_reducible rfl)
  try simp only [Act.put, List.setIfInBounds_toArray, List.set_cons_zero, List.set_cons_succ]
  refine wpAnyH_take (i := 6) (oi := { dst := some 11, op := Go.Op.load 24 (Go.Operand.tmp 10), type := 24, pos := _, after := #[{ on := 5, ground := Go.Ground.data }], guard := none }) (v := ?_) rfl (by kernel_rfl) (by kernel_rfl) (by kernel_rfl) (fun _ _ _ h => h) (Or.inl ⟨by rfl, ?_⟩) S0.out ?_
  rotate_left
  · intro W hW; have c16 := (G0.out.only hW NE0.out).cell (sc_cloud (.slice A c.length cp) HF.out.len); (go_simp; try with_reducible rfl)
  try simp only [Act.put, List.setIfInBounds_toArray, List.set_cons_zero, List.set_cons_succ]
  refine wpAnyH_take (i := 7) (oi := { dst := some 12, op := Go.Op.fieldAddr 33 (Go.Operand.tmp 3) 1, type := 0, pos := _, after := #[], guard := none }) (v := ?_) rfl (by kernel_rfl) (by kernel_rfl) (by kernel_rfl) (fun _ _ _ h => h) (Or.inl ⟨by rfl, ?_⟩) S0.out ?_
  rotate_left
  · intro W hW; (go_simp; try with_reducible rfl)
  try simp only [Act.put, List.setIfInBounds_toArray, List.set_cons_zero, List.set_cons_succ]
  refine wpAnyH_take (i := 8) (oi := { dst := some 13, op := Go.Op.load 24 (Go.Operand.tmp 12), type := 24, pos := _, after := #[{ on := 7, ground := Go.Ground.data }], guard := none }) (v := ?_) rfl (by kernel_rfl) (by kernel_rfl) (by kernel_rfl) (fun _ _ _ h => h) (Or.inl ⟨by rfl, ?_⟩) S0.out ?_
  rotate_left
  · intro W hW; have c16 := (G1.out.only hW NE1.out).cell (sc_cloud (.slice A2 e.length cp2) HG.out.len); (go_simp; try with_reducible rfl)
  try simp only [Act.put, List.setIfInBounds_toArray, List.set_cons_zero, List.set_cons_succ]
  refine wpAnyH_ready (rs := [4, 9]) (by kernel_rfl) (by simp) ?_
  refine AllReadyH.cons (o := { dst := some 9, op := Go.Op.call { callee := Go.Callee.value (Go.Operand.func 33), args := #[Go.Operand.tmp 6, Go.Operand.tmp 8], argTypes := #[31, 31] }, type := 31, pos := _, after := #[{ on := 1, ground := Go.Ground.data }, { on := 3, ground := Go.Ground.data }], guard := none }) rfl (fun K hK => ?_) ?_
  · go_simp
    refine (joinV_is f g _ HF.out.len HG.out.len).mono ?_
    rintro e w1 ⟨rfl, b1⟩
    have B1 := Lib.hid (step_ D1.out b1)
    have S1 := Lib.hid (S0.out.trans (Only.of_below b1))
    have R1 := Lib.hid (RD.out.below b1)
    clear b1
    go_wp2_with fail
    refine hK.out _ _ S1.out (fun _ => ?_)
    clear hK K
    try simp only [Act.put, List.setIfInBounds_toArray, List.set_cons_zero, List.set_cons_succ]
    refine wpAnyH_ready (rs := [9]) (by kernel_rfl) (by simp) ?_
    refine ready_two (o := { dst := some 14, op := Go.Op.buildSlice 63 2 #[(0, Go.Operand.tmp 11), (1, Go.Operand.tmp 13)], type := 63, pos := _, after := #[{ on := 6, ground := Go.Ground.data }, { on := 8, ground := Go.Ground.data }], guard := none }) rfl rfl (.tmp 11) (.tmp 13) rfl A A2 c.length e.length cp cp2 rfl rfl (fun g2 w2 b2 z2 => ⟨S1.out.trans (Only.of_below b2), ?_⟩) AllReadyH.nil
    have B2 := Lib.hid (step_ B1.out b2)
    have S2 := Lib.hid (S1.out.trans (Only.of_below b2))
    have R2 := Lib.hid (R1.out.below b2)
    have T2 := Lib.hid z2
    clear b2 z2
    try simp only [Act.put, List.setIfInBounds_toArray, List.set_cons_zero, List.set_cons_succ]
    refine wpAnyH_ready (rs := [10]) (by kernel_rfl) (by simp) ?_
    refine AllReadyH.cons (o := { dst := some 15, op := Go.Op.call { callee := Go.Callee.value (Go.Operand.func 28), args := #[Go.Operand.tmp 9, Go.Operand.tmp 14], argTypes := #[31, 63] }, type := 33, pos := _, after := #[{ on := 4, ground := Go.Ground.data }, { on := 9, ground := Go.Ground.data }, { on := 4, ground := Go.Ground.chain }], guard := none }) rfl (fun K hK => ?_) AllReadyH.nil
    go_simp
    refine (settle_is (vj f g) g2 _ _ c e _ NJ.out T2.out (H1.out.below B2.out) (H2.out.below B2.out) hn1 hn2).mono ?_
    rintro e w3 ⟨Ak3, ck3, re3, o3, b3⟩
    rw [hp.out] at re3 o3
    subst re3
    have B3 := Lib.hid (step_ B2.out b3)
    have S3 := Lib.hid (S2.out.trans (Only.of_below b3))
    have R3 := Lib.hid (R2.out.below b3)
    have O3 := Lib.hid (o3.down B2.out.size)
    clear b3 o3
    go_wp2_with fail
    refine hK.out _ _ S3.out (fun _ => ?_)
    clear hK K
    try simp only [Act.put, List.setIfInBounds_toArray, List.set_cons_zero, List.set_cons_succ]
    refine wpAnyH_ready (rs := [11]) (by kernel_rfl) (by simp) ?_
    refine ready_store_s t33 (o := { dst := none, op := Go.Op.store 33 (Go.Operand.tmp 4) (Go.Operand.tmp 15), type := 0, pos := _, after := #[{ on := 10, ground := Go.Ground.data }, { on := 10, ground := Go.Ground.chain }, { on := 0, ground := Go.Ground.phase }, { on := 1, ground := Go.Ground.phase }, { on := 2, ground := Go.Ground.phase }, { on := 3, ground := Go.Ground.phase }, { on := 4, ground := Go.Ground.phase }, { on := 5, ground := Go.Ground.phase }, { on := 6, ground := Go.Ground.phase }, { on := 7, ground := Go.Ground.phase }, { on := 8, ground := Go.Ground.phase }, { on := 9, ground := Go.Ground.phase }, { on := 10, ground := Go.Ground.phase }], guard := none }) rfl rfl (.tmp 4) (.tmp 15) rfl gr vz p.1 _ Ak3 p.2.length ck3 rfl rfl R3.out vz_len NP.out.len (fun w4 z4 o4 => ⟨S3.out.trans o4, ?_⟩) AllReadyH.nil
    simp only [Act.put]
    refine wpAnyH_done (by kernel_rfl) ?_ _
    refine NoPanic.normal ?_
    have Z1 := Lib.hid z4
    have P1 := Lib.hid (O3.out.only o4 (fun k hk e => O3.out.neT R3.out (by decide) (by rw [hk, e])))
    have WF := Lib.hid (B3.out.trans (o4.below hgr.out B3.out.size))
    clear z4 o4
    go_wp2_with fail
    refine bodyPost_ret (results_s t33 rfl _ _ gr p.1 _ rfl Z1.out NP.out.len) rfl ?_
    exact ⟨Ak3, ck3, rfl, P1.out, WF.out⟩
  refine ready_two (o := { dst := some 14, op := Go.Op.buildSlice 63 2 #[(0, Go.Operand.tmp 11), (1, Go.Operand.tmp 13)], type := 63, pos := _, after := #[{ on := 6, ground := Go.Ground.data }, { on := 8, ground := Go.Ground.data }], guard := none }) rfl rfl (.tmp 11) (.tmp 13) rfl A A2 c.length e.length cp cp2 rfl rfl (fun g5 w5 b5 z5 => ⟨S0.out.trans (Only.of_below b5), ?_⟩) AllReadyH.nil
  have B5 := Lib.hid (step_ D1.out b5)
  have S5 := Lib.hid (S0.out.trans (Only.of_below b5))
  have R5 := Lib.hid (RD.out.below b5)
  have T5 := Lib.hid z5
  clear b5 z5
  try simp only [Act.put, List.setIfInBounds_toArray, List.set_cons_zero, List.set_cons_succ]
  refine wpAnyH_ready (rs := [4]) (by kernel_rfl) (by simp) ?_
  refine AllReadyH.cons (o := { dst := some 9, op := Go.Op.call { callee := Go.Callee.value (Go.Operand.func 33), args := #[Go.Operand.tmp 6, Go.Operand.tmp 8], argTypes := #[31, 31] }, type := 31, pos := _, after := #[{ on := 1, ground := Go.Ground.data }, { on := 3, ground := Go.Ground.data }], guard := none }) rfl (fun K hK => ?_) AllReadyH.nil
  go_simp
  refine (joinV_is f g _ HF.out.len HG.out.len).mono ?_
  rintro e w6 ⟨rfl, b6⟩
  have B6 := Lib.hid (step_ B5.out b6)
  have S6 := Lib.hid (S5.out.trans (Only.of_below b6))
  have R6 := Lib.hid (R5.out.below b6)
  have T6 := Lib.hid (T5.out.below b6)
  clear b6
  go_wp2_with fail
  refine hK.out _ _ S6.out (fun _ => ?_)
  clear hK K
  try simp only [Act.put, List.setIfInBounds_toArray, List.set_cons_zero, List.set_cons_succ]
  refine wpAnyH_ready (rs := [10]) (by kernel_rfl) (by simp) ?_
  refine AllReadyH.cons (o := { dst := some 15, op := Go.Op.call { callee := Go.Callee.value (Go.Operand.func 28), args := #[Go.Operand.tmp 9, Go.Operand.tmp 14], argTypes := #[31, 63] }, type := 33, pos := _, after := #[{ on := 4, ground := Go.Ground.data }, { on := 9, ground := Go.Ground.data }, { on := 4, ground := Go.Ground.chain }], guard := none }) rfl (fun K hK => ?_) AllReadyH.nil
  go_simp
  refine (settle_is (vj f g) g5 _ _ c e _ NJ.out T6.out (H1.out.below B6.out) (H2.out.below B6.out) hn1 hn2).mono ?_
  rintro e w7 ⟨Ak7, ck7, re7, o7, b7⟩
  rw [hp.out] at re7 o7
  subst re7
  have B7 := Lib.hid (step_ B6.out b7)
  have S7 := Lib.hid (S6.out.trans (Only.of_below b7))
  have R7 := Lib.hid (R6.out.below b7)
  have O7 := Lib.hid (o7.down B6.out.size)
  clear b7 o7
  go_wp2_with fail
  refine hK.out _ _ S7.out (fun _ => ?_)
  clear hK K
  try simp only [Act.put, List.setIfInBounds_toArray, List.set_cons_zero, List.set_cons_succ]
  refine wpAnyH_ready (rs := [11]) (by kernel_rfl) (by simp) ?_
  refine ready_store_s t33 (o := { dst := none, op := Go.Op.store 33 (Go.Operand.tmp 4) (Go.Operand.tmp 15), type := 0, pos := _, after := #[{ on := 10, ground := Go.Ground.data }, { on := 10, ground := Go.Ground.chain }, { on := 0, ground := Go.Ground.phase }, { on := 1, ground := Go.Ground.phase }, { on := 2, ground := Go.Ground.phase }, { on := 3, ground := Go.Ground.phase }, { on := 4, ground := Go.Ground.phase }, { on := 5, ground := Go.Ground.phase }, { on := 6, ground := Go.Ground.phase }, { on := 7, ground := Go.Ground.phase }, { on := 8, ground := Go.Ground.phase }, { on := 9, ground := Go.Ground.phase }, { on := 10, ground := Go.Ground.phase }], guard := none }) rfl rfl (.tmp 4) (.tmp 15) rfl gr vz p.1 _ Ak7 p.2.length ck7 rfl rfl R7.out vz_len NP.out.len (fun w8 z8 o8 => ⟨S7.out.trans o8, ?_⟩) AllReadyH.nil
  simp only [Act.put]
  refine wpAnyH_done (by kernel_rfl) ?_ _
  refine NoPanic.normal ?_
  have Z1 := Lib.hid z8
  have P1 := Lib.hid (O7.out.only o8 (fun k hk e => O7.out.neT R7.out (by decide) (by rw [hk, e])))
  have WF := Lib.hid (B7.out.trans (o8.below hgr.out B7.out.size))
  clear z8 o8
  go_wp2_with fail
  refine bodyPost_ret (results_s t33 rfl _ _ gr p.1 _ rfl Z1.out NP.out.len) rfl ?_
  exact ⟨Ak7, ck7, rfl, P1.out, WF.out⟩
theorem run_field_c' (c0 c1 c2 c3 c4 c5 c6 c7 c8 c9 c10 c11 c12 c13 c14 c15 : Value) (A : Option Addr) (n c : Nat) (w : World) : (Instr.field 33 (.agg #[c0, c1, c2, c3, c4, c5, c6, c7, c8, c9, c10, c11, c12, c13, c14, c15, .slice A n c]) 1).run Try.prog w = .ok (.slice A n c) w := by kernel_rfl
theorem run_field_c (f : List Int) (hf : f.length = 16) (A : Option Addr) (n c : Nat) (w : World) : (Instr.field 33 (.agg (sc f (.slice A n c)).toArray) 1).run Try.prog w = .ok (.slice A n c) w := by
  match f, hf with
  | [_, _, _, _, _, _, _, _, _, _, _, _, _, _, _, _], _ => exact run_field_c' ..
theorem exec_field_c {o : Oper} {a : Act} {w : World} (x : Operand) (ho : o.op = .field 33 x 1) (f : List Int) (A : Option Addr) (n c : Nat) (hx : a.eval x = .agg (sc f (.slice A n c)).toArray) (hf : f.length = 16) :
    (execOp a.eval o).run Try.prog w = .ok (.value (.slice A n c)) w := by
  unfold execOp
  simp only [ho, hx, Sem.run_bind, run_field_c f hf A n c w, Result.andThen_ok, Sem.run_pure]
set_option maxRecDepth 100000 in
set_option maxHeartbeats 4000000 in
theorem less_is (f c g e : List Int) (A A2 : Option Addr) (cp cp2 : Nat) (w : World) (hf : VOk f) (hg : VOk g) (h1 : NumsAt w (.slice A c.length cp) c) (h2 : NumsAt w (.slice A2 e.length cp2) e) (hn1 : c.length ≤ 2000) (hn2 : e.length ≤ 2000) (p : List Int) (hpe : Hid (lessD f c g e = p)) :
    Calls Try.prog 22 #[.agg (sc f (.slice A c.length cp)).toArray, .agg (sc g (.slice A2 e.length cp2)).toArray] w (GivesOwnN w p) := by
  have HF := Lib.hid hf
  have HG := Lib.hid hg
  have H1 := Lib.hid h1
  have H2 := Lib.hid h2
  obtain ⟨l, rfl⟩ : ∃ l, l = p := ⟨_, rfl⟩
  obtain ⟨p, hp⟩ : ∃ p, nrm f c = p := ⟨_, rfl⟩
  have NP := Lib.hid (hp ▸ nrm_of hf c)
  have HP := Lib.hid hp
  have hpl : p.2.length ≤ 2000 := by have := NP.out.len; omega
  have hle := Lib.hid (show (p.2.filter fun d => !has g e d) = l by rw [← hpe.out, ← hp]; rfl)
  clear hf hg h1 h2 hp hpe
  go_enter Try.func22, Try.ntmps22
  go_wp2_with (first
    | (refine wpList_makeD rfl rfl ?_; intro bm w3 ebm M3 b3; have k16 := (G1.out.below b3.out).cell (sc_cloud (.slice A2 e.length cp2) HG.out.len))
    | (have _ := G0.out; refine wpList_box_cs rfl _ rfl (sc g (.slice A2 e.length cp2)) rfl ?_; intro g1 w2 eg1 G1 b2)
    | (refine wpList_box_cs rfl _ rfl (sc f (.slice A c.length cp)) rfl ?_; intro g0 w1 eg0 G0 b1))
  have c2 := Lib.hid (b1.out.trans (b2.out.mono b1.out.size))
  have c3 := Lib.hid (c2.out.trans (b3.out.mono c2.out.size))
  have X0 := Lib.hid ((G0.out.below b2.out).below b3.out)
  have X1 := Lib.hid (G1.out.below b3.out)
  have hbm := Lib.hid (show w.heap.size ≤ bm by have := ebm.out; have := c2.out.size; omega)
  have NM0 := Lib.hid (M3.out.neq X0.out)
  have NM1 := Lib.hid (M3.out.neq X1.out)
  clear G0 G1 b1 b2 b3 c2 k16
  go_loopw [17, 7] (fun i _ wr => ∃ j : Nat, j ≤ e.length ∧ i = .int .i64 j ∧ SetM wr bm j (e.take j) ∧ Blk wr g0 33 (sc f (.slice A c.length cp)) ∧ Blk wr g1 33 (sc g (.slice A2 e.length cp2)) ∧ Below w.heap.size w wr) (fun i _ _ => e.length - (intOf i).toNat)
  case atStart => exact ⟨0, Nat.zero_le _, rfl, by simpa using M3.out, X0.out, X1.out, c3.out⟩
  case round =>
    obtain ⟨j, hj, rfl, hm, hg0, hg1, hb⟩ := hrel
    have M0 := Lib.hid hm
    have K0 := Lib.hid hg0
    have K1 := Lib.hid hg1
    have BB := Lib.hid hb
    clear hm hg0 hg1 hb
    by_cases hlt : j < e.length
    · obtain ⟨G, pp, hE, hc, hG⟩ := (H2.out.below BB.out).elem j hlt
      have E := Lib.hid hE
      obtain ⟨z, hz⟩ : ∃ z, e.getD j 0 = z := ⟨_, rfl⟩
      have HZ := Lib.hid hz
      have HX := Lib.hid (hz ▸ H2.out.nums.at_ j)
      rw [hz] at hc
      clear hE hz
      go_wp2_with (first
        | refine wpList_indexN u24n rfl _ _ rfl _ _ _ G pp j _ rfl rfl rfl E.out ?_
        | refine wpList_build rfl 61 _ rfl [] rfl #[] (by kernel_rfl) ?_
        | (refine wpList_putD rfl _ _ _ rfl bm j (e.take j) z rfl rfl rfl M0.out (by omega) HX.out ?_; intro w9 M9 o9))
      go_roundw
      case rel =>
        refine ⟨j + 1, by omega, by go_num, M9.out.re (fun d => ?_), K0.out.only o9.out (fun x => NM0.out x.symm), K1.out.only o9.out (fun x => NM1.out x.symm), BB.out.trans (o9.out.below hbm.out BB.out.size)⟩
        rw [take_nx hlt, HZ.out, List.mem_cons, List.mem_append, List.mem_singleton, or_comm]
      case measure => simp [intOf]; omega
    · obtain rfl : j = e.length := by omega
      have ME := Lib.hid (show SetM wr bm e.length e by have := M0.out; rwa [List.take_length] at this)
      clear M0
      go_wp2_with (first
        | refine wpList_load_s t33 rfl _ rfl g0 f _ rfl K0.out HF.out.len ?_)
      refine (add0_is f c A cp wr HF.out (H1.out.below BB.out) hn1 p HP).mono ?_
      rintro e' w5 ⟨A', c', rfl, o5, b5⟩
      have P5 := Lib.hid o5
      have M5 := Lib.hid (ME.out.below b5)
      have Y5 := Lib.hid (K1.out.below b5)
      have B5 := Lib.hid (step_ BB.out b5)
      have KP := Lib.hid (show ∀ k, (Value.slice A' p.2.length c').ownBlock = some k → k < w5.heap.size from fun k hk => (o5.lt hk).2)
      have hbm5 := Lib.hid (show bm < w5.heap.size from M5.out.lt)
      have hg15 := Lib.hid (show g1 < w5.heap.size from Y5.out.lt)
      have hw5 := Lib.hid (show w.heap.size ≤ w5.heap.size from B5.out.size)
      clear o5 b5 ME
      go_wp2_with (refine wpList_val rfl _ (exec_field_c _ rfl p.1 A' p.2.length c' rfl NP.out.v.len) ?_)
      go_loopw [29, 8, 10, 11, 12] (fun i v _ _ _ wr2 => ∃ (j : Nat) (u : Value), j ≤ p.2.length ∧ i = .int .i64 j ∧ (v = u ∧ OwnN wr2 w5.heap.size u ((p.2.take j).filter fun d => !has g e d)) ∧ SetM wr2 bm e.length e ∧ Blk wr2 g1 33 (sc g (.slice A2 e.length cp2)) ∧ OwnN wr2 wr.heap.size (.slice A' p.2.length c') p.2 ∧ Below w.heap.size w wr2 ∧ w5.heap.size ≤ wr2.heap.size) (fun i _ _ _ _ _ => p.2.length - (intOf i).toNat)
      case atStart => exact ⟨0, .slice none 0 0, Nat.zero_le _, rfl, ⟨rfl, by simpa using ownN_nil w5 w5.heap.size⟩, M5.out, Y5.out, P5.out, B5.out, Nat.le_refl _⟩
      case round =>
        clear M5 Y5 P5 B5 K0 K1
        obtain ⟨j, u, hj, rfl, ⟨rfl, ho⟩, hm, hg', hp', hb, hz⟩ := hrel
        have O0 := Lib.hid ho
        have M0 := Lib.hid hm
        have G0' := Lib.hid hg'
        have P0 := Lib.hid hp'
        have Z0 := Lib.hid hz
        have BB' := Lib.hid hb
        clear BB ho hm hg' hp' hz hb
        have BB := BB'
        clear BB'
        by_cases hlt : j < p.2.length
        · obtain ⟨G, pp, hE, hc, hG⟩ := P0.out.at_.elem j hlt
          have E := Lib.hid hE
          obtain ⟨z, hz⟩ : ∃ z, p.2.getD j 0 = z := ⟨_, rfl⟩
          have HZ := Lib.hid hz
          have HX := Lib.hid (hz ▸ P0.out.ok.at_ j)
          have HM := Lib.hid (show may z = true from (NP.out.nf.ok z (by rw [← hz, getD_at hlt]; exact List.getElem_mem hlt)).1)
          rw [hz] at hc
          clear hE hz
          obtain ⟨r1, hr1⟩ : ∃ r, e.contains z = r := ⟨_, rfl⟩
          cases r1 with
          | true =>
            go_wp2_with (first
              | go_skip
              | refine wpList_indexN u24n rfl _ _ rfl _ _ _ G pp j _ rfl rfl rfl E.out ?_
              | refine wpList_lookD rfl _ _ rfl bm e.length e z true rfl rfl M0.out HX.out hr1 ?_
              | (refine wpList_alloc0 rfl rfl ?_; intro gz w6 eg6 N6 b6; clear hc hG))
            go_roundw
            case rel =>
              refine ⟨j + 1, _, by omega, by go_num, ⟨rfl, ?_⟩, M0.out.below b6.out, G0'.out.below b6.out, P0.out.below b6.out, step_ BB.out b6.out, Nat.le_trans Z0.out b6.out.size⟩
              rw [take_nx hlt, HZ.out, List.filter_append]
              have hno : [z].filter (fun d => !has g e d) = [] := by
                have : has g e z = true := has_iff.2 ⟨HM.out, .inr (by simpa using hr1)⟩
                simp [this]
              rw [hno, List.append_nil]
              exact O0.out.below b6.out
            case measure => simp [intOf]; omega
          | false =>
            obtain ⟨r2, hr2⟩ : ∃ r, und g z = r := ⟨_, rfl⟩
            go_wp2_with (first
              | go_skip
              | refine wpList_indexN u24n rfl _ _ rfl _ _ _ G pp j _ rfl rfl rfl E.out ?_
              | refine wpList_lookD rfl _ _ rfl bm e.length e z false rfl rfl M0.out HX.out hr1 ?_
              | (refine wpList_alloc0 rfl rfl ?_; intro gz w6 eg6 N6 b6; clear hc hG)
              | (refine wanted_on rfl ?_; refine wpList_load_v t24 rfl _ rfl g1 0 g rfl (range_floor (G0'.out.below b6.out).range) HG.out.len ?_))
            refine (under_is g z r2 w6 HG.out HX.out HM.out (Lib.hid hr2)).mono ?_
            rintro e' w7 ⟨rfl, x7⟩
            have b7 := Lib.hid (step_ b6.out x7)
            clear x7
            cases r2 with
            | true =>
              go_wp2_with fail
              go_roundw
              case rel =>
                refine ⟨j + 1, _, by omega, by go_num, ⟨rfl, ?_⟩, M0.out.below b7.out, G0'.out.below b7.out, P0.out.below b7.out, step_ BB.out b7.out, Nat.le_trans Z0.out b7.out.size⟩
                rw [take_nx hlt, HZ.out, List.filter_append]
                have hno : [z].filter (fun d => !has g e d) = [] := by
                  have : has g e z = true := has_iff.2 ⟨HM.out, .inl hr2⟩
                  simp [this]
                rw [hno, List.append_nil]
                exact O0.out.below b7.out
              case measure => simp [intOf]; omega
            | false =>
              obtain ⟨E0, c0, hu⟩ := O0.out.shape
              subst hu
              go_wp2_with (first
                | (refine wpList_num1 u24n rfl _ rfl z rfl HX.out ?_; intro gn w8 egn N8 b8)
                | (refine wpList_app_n u24n rfl _ _ rfl w5.heap.size _ _ _ [z] rfl rfl (O0.out.below (step_ b7.out b8.out)) N8.out (by have := List.length_filter_le (fun d => !has g e d) (p.2.take j); rw [List.length_take] at this; simp; omega) (Nat.le_trans Z0.out (Nat.le_trans b7.out.size b8.out.size)) ?_; intro E9 k9 c9 w9 hk9 O9 b9 _))
              have x8 := Lib.hid (step_ b7.out b8.out)
              have x9 := Lib.hid (show w5.heap.size ≤ w9.heap.size from Nat.le_trans (Nat.le_trans Z0.out x8.out.size) b9.out.size)
              go_roundw
              case rel =>
                refine ⟨j + 1, .slice E9 k9 c9, by omega, by go_num, ⟨rfl, ?_⟩, (M0.out.below x8.out).same (b9.out.block bm hbm5.out), (G0'.out.below x8.out).upto b9.out hg15.out, (P0.out.below x8.out).same (fun k hk => b9.out.block k (KP.out k hk)), (step_ BB.out x8.out).trans (b9.out.mono hw5.out), x9.out⟩
                have hyes : [z].filter (fun d => !has g e d) = [z] := by
                  have : has g e z = false := by
                    cases hh : has g e z with
                    | false => rfl
                    | true =>
                      rcases (has_iff.1 hh).2 with x | x
                      · rw [hr2] at x; exact absurd x (by simp)
                      · exact absurd x (by simpa using hr1)
                  simp [this]
                rw [take_nx hlt, HZ.out, List.filter_append, hyes]
                exact O9.out
              case measure => simp [intOf]; omega
        · obtain rfl : j = p.2.length := by omega
          obtain ⟨E0, c0, hu⟩ := O0.out.shape
          subst hu
          go_wp2_with fail
          go_ret
          have O1 := O0.out
          rw [List.take_length, hle.out] at O1
          have O2 := O1.shape
          obtain ⟨E1, c1, h1⟩ := O2
          rw [List.take_length, hle.out]
          exact ⟨E0, c0, rfl, (by rw [List.take_length, hle.out] at O0; exact O0.out.down hw5.out), BB.out⟩
end Go.Proofs.Ytpgafijeecmgmaa
