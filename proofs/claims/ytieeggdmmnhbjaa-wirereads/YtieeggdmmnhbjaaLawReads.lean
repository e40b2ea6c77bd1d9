/- The walk of WireReads. -/
import Derived.Test.YtieeggdmmnhbjaaReadLems
namespace Go.Proofs.Ytieeggdmmnhbjaa
open Go.RowKit

theorem wpAnyH_narrow {P : Program} {ops : Array Oper} {Q : Exit → Act → World → Prop} {md : Region.Mode} {S S' : World → Prop} (h : ∀ W, S' W → S W) : ∀ (fuel : Nat) (listed : Array Bool) (a : Act) (w : World), wpAnyH P md ops Q S' fuel listed a w → wpAnyH P md ops Q S fuel listed a w
  | 0, _, _, _, hh => hh
  | fuel + 1, _, _, _, hh => ⟨hh.1, fun i hi => wpOp_mono (fun a' w' h' => ⟨h w' h'.1, wpAnyH_narrow h fuel _ a' w' h'.2⟩) (hh.2 i hi)⟩
set_option maxRecDepth 100000 in
set_option maxHeartbeats 2000000 in
theorem reads_some (G off pcap : Nat) (a : Option Addr) (cap : Nat) (b0 : List Int) (ps : List Pc) (w : World) (hbb : BytesAt w (.slice a b0.length cap) b0) (h300 : b0.length ≤ 300) (hG : G < w.heap.size) (hr : Hid (∀ i (h : i < ps.length), w.rangeAt G (off + i * 13) ps[i].cells)) (hok : Hid (∀ p ∈ ps, p.Ok w)) :
    Calls Try.prog 4 #[.slice a b0.length cap, .slice (some ⟨G, off, none⟩) ps.length pcap] w (Holds_ w) := by
  have k1 : ¬ (300 : Int) < (b0.length : Int) := by omega
  have HB0 := Lib.hid hbb
  clear hbb
  go_enter Try.func4, Try.ntmps4
  go_wp2_with fail
  refine (large_some G off pcap ps _ hr hok).mono ?_
  rintro e w1 ⟨rfl, rfl | ⟨rfl, hf⟩⟩
  · go_wp2_with fail
    refine (alive_is _).mono ?_
    rintro e w2 ⟨rfl, b2⟩
    have B2 := Lib.hid b2
    clear b2
    go_wp2_with fail
    go_ret
    exact ⟨rfl, B2.out⟩
  have HF := Lib.hid hf
  clear hf
  go_wp2_with fail
  refine (from_is _ b0 _ HB0.out (by omega)).mono ?_
  rintro e w1 ⟨g, R, rfl, hg, hc1, hb1⟩
  have C1 := Lib.hid hc1
  have B1 := Lib.hid hb1
  obtain ⟨Rm, hRm, hRml⟩ := (HB0.out.below hb1).in_
  obtain ⟨Rw, hRw, hRwl⟩ := HB0.out.in_
  have HRm := Lib.hid (show ∃ Rm, BytesIn Rm w1 (.slice a b0.length cap) b0 ∧ (∀ r, Rm = some r → r < w1.heap.size) ∧ Rm ≠ some g from ⟨Rw, hRw.below hb1, fun r hr => Nat.lt_of_lt_of_le (hRwl r hr) hb1.size, fun e => Nat.lt_irrefl _ (Nat.lt_of_lt_of_le (hRwl g e) hg)⟩)
  clear hRm hRml hRw hRwl Rm Rw
  obtain ⟨Rm, hRm, hRml, hRg⟩ := HRm.out
  have F1 := Lib.hid (hc1.far (Nat.le_refl _))
  have M2 := Lib.hid (ref_new hRm hRml (by omega))
  have C2 := Lib.hid (hc1.alloc (.cells #[.slice a b0.length cap, .int .i64 0] 42))
  have B2 := Lib.hid (step_ hb1 (new_below w1 (.cells #[.slice a b0.length cap, .int .i64 0] 42)))
  have HRg := Lib.hid hRg
  have hgw : w.heap.size ≤ g := hg
  have hgm : w.heap.size ≤ w1.heap.size := hb1.size
  clear hc1 hb1 hRm hRml hRg HRm hg
  go_wp2_with fail
  go_loopw [7] (fun i wr => RR ps w g w1.heap.size R Rm i wr) (fun i _ => ps.length - (intOf i).toNat)
  case atStart => exact ⟨0, 0, b0, Nat.zero_le _, rfl, C2.out, M2.out, B2.out⟩
  case round =>
    obtain ⟨k, e, l, hk, rfl, hc, hm, hbel⟩ := hrel
    by_cases hlt : k < ps.length
    · have hp := hok.out _ (List.getElem_mem hlt)
      obtain ⟨p, hpk⟩ : ∃ p, ps[k] = p := ⟨_, rfl⟩
      rw [hpk] at hp
      have hq0 : ∀ W, Below w.heap.size w W → W.rangeAt G (off + k * 13) p.cells := fun W hW => hpk ▸ range_below (hr.out k hlt) hG hW
      obtain ⟨res, hres⟩ : ∃ res, M.gate e (M.rd p.d p.x p.n l) = res := ⟨_, rfl⟩
      have HRD : Hid (∀ W, CurAt W g R e l → Below w.heap.size w W → Calls Try.prog 15 #[.pointer (some ⟨g, 0, none⟩), .agg p.cells.toArray] W (ReadsP W g R p.d res)) := Lib.hid (fun W hW hB => hres ▸ readP_is g R e _ l W hW (hp.below hB))
      have HRF : Hid (∀ W, RefAt W w1.heap.size Rm e l → Below w.heap.size w W → Calls Try.prog 16 #[.pointer (some ⟨w1.heap.size, 0, none⟩), .agg p.cells.toArray] W (RefsP W w1.heap.size Rm p.d res)) := Lib.hid (fun W hW hB => hres ▸ refRead_is w1.heap.size Rm e _ l W hW (hp.below hB))
      have HNM := Lib.hid (show (res.val M.zeroV).nm.length = 8 by rw [← hres]; exact gate_nm)
      have HLB := Lib.hid (show (res.val M.zeroV).b.length ≤ 30000 by rw [← hres]; obtain ⟨_, _, _, hl⟩ := hm; exact Nat.le_trans gate_b hl)
      have HC := Lib.hid hc
      have HM := Lib.hid hm
      have HQ0 := Lib.hid hq0
      have HML := Lib.hid hp.ml
      have S0 := Lib.hid hbel
      have S0d := Lib.hid hbel.drew
      have b0' : (0 : Int) ≤ (k : Int) := by omega
      have b1 : (k : Int) < (ps.length : Int) := by omega
      have b2 : (k : Int) < 40 := by have := HF.out.1; omega
      clear hc hm hbel hp hpk hq0 hres
      go_wp2_with fail
      refine wp_region_noPanic ?_
      refine wp_region_held_drew (S := fun W => Below w.heap.size w W) (by kernel_rfl) S0d.out (fun _ => ?_)
      refine wpAnyH_take (i := 0) (oi := { dst := some 27, op := Go.Op.move (Go.Operand.tmp 5), type := 37, pos := "law.go:72", after := #[], guard := none }) (v := ?_) rfl (by kernel_rfl) (by kernel_rfl) (by kernel_rfl) (fun _ _ _ h => h) (Or.inl ⟨by rfl, ?_⟩) S0d.out ?_
      rotate_left
      · intro W _; (go_simp; try with_reducible rfl)
      try simp only [Act.put, List.setIfInBounds_toArray, List.set_cons_zero, List.set_cons_succ]
      refine wpAnyH_take (i := 1) (oi := { dst := some 28, op := Go.Op.move (Go.Operand.tmp 1), type := 22, pos := "law.go:72", after := #[], guard := none }) (v := ?_) rfl (by kernel_rfl) (by kernel_rfl) (by kernel_rfl) (fun _ _ _ h => h) (Or.inl ⟨by rfl, ?_⟩) S0d.out ?_
      rotate_left
      · intro W _; (go_simp; try with_reducible rfl)
      try simp only [Act.put, List.setIfInBounds_toArray, List.set_cons_zero, List.set_cons_succ]
      refine wpAnyH_take (i := 2) (oi := { dst := some 29, op := Go.Op.move (Go.Operand.tmp 7), type := 3, pos := "law.go:72", after := #[], guard := none }) (v := ?_) rfl (by kernel_rfl) (by kernel_rfl) (by kernel_rfl) (fun _ _ _ h => h) (Or.inl ⟨by rfl, ?_⟩) S0d.out ?_
      rotate_left
      · intro W _; (go_simp; try with_reducible rfl)
      try simp only [Act.put, List.setIfInBounds_toArray, List.set_cons_zero, List.set_cons_succ]
      refine wpAnyH_take (i := 3) (oi := { dst := some 30, op := Go.Op.indexAddr 22 (Go.Operand.tmp 28) (Go.Operand.tmp 29), type := 0, pos := "law.go:72", after := #[{ on := 1, ground := Go.Ground.data }, { on := 2, ground := Go.Ground.data }], guard := none }) (v := ?_) rfl (by kernel_rfl) (by kernel_rfl) (by kernel_rfl) (fun _ _ _ h => h) (Or.inl ⟨by rfl, ?_⟩) S0d.out ?_
      rotate_left
      · intro W _; (go_simp; try with_reducible rfl)
      try simp only [Act.put, List.setIfInBounds_toArray, List.set_cons_zero, List.set_cons_succ]
      refine wpAnyH_take (i := 4) (oi := { dst := some 31, op := Go.Op.load 33 (Go.Operand.tmp 30), type := 33, pos := "law.go:72", after := #[{ on := 3, ground := Go.Ground.data }], guard := none }) (v := .agg p.cells.toArray) rfl (by kernel_rfl) (by kernel_rfl) (by kernel_rfl) (fun _ _ _ h => h) (yieldsIf_load_mid (by rfl) 33 (.tmp 30) rfl G (off + k * 13) rfl p.cells _ (fun W hW => HQ0.out W hW) Try.underlying33 rfl (size33 HML.out)) S0d.out ?_
      try simp only [Act.put, List.setIfInBounds_toArray, List.set_cons_zero, List.set_cons_succ]
      refine wpAnyH_take (i := 6) (oi := { dst := some 33, op := Go.Op.move (Go.Operand.tmp 6), type := 39, pos := "law.go:72", after := #[], guard := none }) (v := ?_) rfl (by kernel_rfl) (by kernel_rfl) (by kernel_rfl) (fun _ _ _ h => h) (Or.inl ⟨by rfl, ?_⟩) S0d.out ?_
      rotate_left
      · intro W _; (go_simp; try with_reducible rfl)
      try simp only [Act.put, List.setIfInBounds_toArray, List.set_cons_zero, List.set_cons_succ]
      refine wpAnyH_take (i := 7) (oi := { dst := some 34, op := Go.Op.move (Go.Operand.tmp 1), type := 22, pos := "law.go:72", after := #[], guard := none }) (v := ?_) rfl (by kernel_rfl) (by kernel_rfl) (by kernel_rfl) (fun _ _ _ h => h) (Or.inl ⟨by rfl, ?_⟩) S0d.out ?_
      rotate_left
      · intro W _; (go_simp; try with_reducible rfl)
      try simp only [Act.put, List.setIfInBounds_toArray, List.set_cons_zero, List.set_cons_succ]
      refine wpAnyH_take (i := 8) (oi := { dst := some 35, op := Go.Op.move (Go.Operand.tmp 7), type := 3, pos := "law.go:72", after := #[], guard := none }) (v := ?_) rfl (by kernel_rfl) (by kernel_rfl) (by kernel_rfl) (fun _ _ _ h => h) (Or.inl ⟨by rfl, ?_⟩) S0d.out ?_
      rotate_left
      · intro W _; (go_simp; try with_reducible rfl)
      try simp only [Act.put, List.setIfInBounds_toArray, List.set_cons_zero, List.set_cons_succ]
      refine wpAnyH_take (i := 9) (oi := { dst := some 36, op := Go.Op.indexAddr 22 (Go.Operand.tmp 34) (Go.Operand.tmp 35), type := 0, pos := "law.go:72", after := #[{ on := 7, ground := Go.Ground.data }, { on := 8, ground := Go.Ground.data }], guard := none }) (v := ?_) rfl (by kernel_rfl) (by kernel_rfl) (by kernel_rfl) (fun _ _ _ h => h) (Or.inl ⟨by rfl, ?_⟩) S0d.out ?_
      rotate_left
      · intro W _; (go_simp; try with_reducible rfl)
      try simp only [Act.put, List.setIfInBounds_toArray, List.set_cons_zero, List.set_cons_succ]
      refine wpAnyH_take (i := 10) (oi := { dst := some 37, op := Go.Op.load 33 (Go.Operand.tmp 36), type := 33, pos := "law.go:72", after := #[{ on := 9, ground := Go.Ground.data }], guard := none }) (v := .agg p.cells.toArray) rfl (by kernel_rfl) (by kernel_rfl) (by kernel_rfl) (fun _ _ _ h => h) (yieldsIf_load_mid (by rfl) 33 (.tmp 36) rfl G (off + k * 13) rfl p.cells _ (fun W hW => HQ0.out W hW) Try.underlying33 rfl (size33 HML.out)) S0d.out ?_
      try simp only [Act.put, List.setIfInBounds_toArray, List.set_cons_zero, List.set_cons_succ]
      refine wpAnyH_ready (rs := [5]) (by kernel_rfl) (by simp) ?_
      refine AllReadyH.cons (o := { dst := some 32, op := Go.Op.call { callee := Go.Callee.value (Go.Operand.func 15), args := #[Go.Operand.tmp 27, Go.Operand.tmp 31], argTypes := #[37, 33] }, type := 33, pos := "law.go:72", after := #[{ on := 0, ground := Go.Ground.data }, { on := 4, ground := Go.Ground.data }], guard := none }) rfl (fun K hK => ?_) AllReadyH.nil
      go_simp
      refine (HRD.out _ (HC.out.below (Below.refl _ _).drew) S0d.out).mono ?_
      rintro ee w5 ⟨v5, rfl, hv5, hc5, ho5⟩
      have S5 := Lib.hid (S0d.out.trans (ho5.below hgw S0d.out.size))
      have V5 := Lib.hid hv5
      have C5 := Lib.hid hc5
      have M5 := Lib.hid ((HM.out.below (Below.refl _ _).drew).only ho5 F1.out.1.symm HRg.out)
      clear hv5 hc5 ho5
      go_wp2_with fail
      refine hK.out _ _ ?_ (fun _ => ?_)
      · exact S5.out
      clear hK K
      try simp only [Act.put, List.setIfInBounds_toArray, List.set_cons_zero, List.set_cons_succ]
      refine wpAnyH_ready (rs := [11]) (by kernel_rfl) (by simp) ?_
      refine AllReadyH.cons (o := { dst := some 38, op := Go.Op.call { callee := Go.Callee.value (Go.Operand.func 16), args := #[Go.Operand.tmp 33, Go.Operand.tmp 37], argTypes := #[39, 33] }, type := 33, pos := "law.go:72", after := #[{ on := 6, ground := Go.Ground.data }, { on := 10, ground := Go.Ground.data }, { on := 5, ground := Go.Ground.chain }], guard := none }) rfl (fun K hK => ?_) AllReadyH.nil
      go_simp
      refine (HRF.out _ M5.out S5.out).mono ?_
      rintro ee w6 ⟨v6, rfl, hv6, hm6, ho6⟩
      have S6 := Lib.hid (S5.out.trans (ho6.below hgm S5.out.size))
      have V6 := Lib.hid hv6
      have V56 := Lib.hid (V5.out.only ho6 F1.out.2)
      have C6 := Lib.hid (C5.out.only ho6 F1.out.1 F1.out.2)
      have M6 := Lib.hid hm6
      clear hv6 hm6 ho6
      go_wp2_with fail
      refine hK.out _ _ ?_ (fun _ => ?_)
      · exact S6.out
      clear hK K
      try simp only [Act.put, List.setIfInBounds_toArray, List.set_cons_zero, List.set_cons_succ]
      refine wpAnyH_ready (rs := [12]) (by kernel_rfl) (by simp) ?_
      refine AllReadyH.cons (o := { dst := some 39, op := Go.Op.call { callee := Go.Callee.value (Go.Operand.func 14), args := #[Go.Operand.tmp 32, Go.Operand.tmp 38], argTypes := #[33, 33] }, type := 4, pos := "law.go:72", after := #[{ on := 5, ground := Go.Ground.data }, { on := 11, ground := Go.Ground.data }, { on := 11, ground := Go.Ground.chain }], guard := none }) rfl (fun K hK => ?_) AllReadyH.nil
      go_simp
      refine (sameP_is (gotP p.d (res.val M.zeroV) v5) v6 _ HNM.out HLB.out V56.out.1 V6.out.1).mono ?_
      rintro ee w7 ⟨rfl, c7⟩
      have S7 := Lib.hid (S6.out.trans (c7.mono S6.out.size))
      have C7 := Lib.hid (C6.out.below c7)
      have M7 := Lib.hid (M6.out.below c7)
      obtain ⟨vm, hcm, -⟩ := M7.out
      obtain ⟨am, capm, rfl⟩ := hcm.2.1.shape
      have mB := hcm.1.cell (i := 0) rfl
      have mE := hcm.1.cell (i := 1) rfl
      clear c7 hcm
      go_wp2_with fail
      refine hK.out _ _ ?_ (fun _ => ?_)
      · exact S7.out
      clear hK K
      try simp only [Act.put, List.setIfInBounds_toArray, List.set_cons_zero, List.set_cons_succ]
      refine wpAnyH_narrow (S' := fun W => W = w7) (fun W hW => by rw [show W = w7 from hW]; exact S7.out) _ _ _ _ ?_
      refine wpAnyH_take (i := 13) (oi := { dst := some 40, op := Go.Op.unOp Go.UnOp.not 4 (Go.Operand.tmp 39), type := 4, pos := "law.go:72", after := #[{ on := 12, ground := Go.Ground.data }], guard := none }) (v := ?_) rfl (by kernel_rfl) (by kernel_rfl) (by kernel_rfl) (fun _ _ _ h => h) (Or.inl ⟨by rfl, ?_⟩) rfl ?_
      rotate_left
      · intro W hW; rw [show W = w7 from hW]; (go_simp; try with_reducible rfl)
      try simp only [Act.put, List.setIfInBounds_toArray, List.set_cons_zero, List.set_cons_succ]
      refine wpAnyH_take (i := 14) (oi := { dst := some 41, op := Go.Op.move (Go.Operand.tmp 40), type := 4, pos := "law.go:72", after := #[{ on := 13, ground := Go.Ground.data }, { on := 12, ground := Go.Ground.chain }], guard := none }) (v := ?_) rfl (by kernel_rfl) (by kernel_rfl) (by kernel_rfl) (fun _ _ _ h => h) (Or.inl ⟨by rfl, ?_⟩) rfl ?_
      rotate_left
      · intro W hW; rw [show W = w7 from hW]; (go_simp; try with_reducible rfl)
      try simp only [Act.put, List.setIfInBounds_toArray, List.set_cons_zero, List.set_cons_succ]
      refine wpAnyH_take (i := 15) (oi := { dst := some 42, op := Go.Op.move (Go.Operand.tmp 5), type := 37, pos := "law.go:72", after := #[{ on := 14, ground := Go.Ground.guard }], guard := some (14, false) }) (v := ?_) rfl (by kernel_rfl) (by kernel_rfl) (by kernel_rfl) (fun _ _ _ h => h) (Or.inl ⟨by rfl, ?_⟩) rfl ?_
      rotate_left
      · intro W hW; rw [show W = w7 from hW]; (go_simp; try with_reducible rfl)
      try simp only [Act.put, List.setIfInBounds_toArray, List.set_cons_zero, List.set_cons_succ]
      refine wpAnyH_take (i := 17) (oi := { dst := some 44, op := Go.Op.move (Go.Operand.tmp 6), type := 39, pos := "law.go:72", after := #[{ on := 14, ground := Go.Ground.guard }], guard := some (14, false) }) (v := ?_) rfl (by kernel_rfl) (by kernel_rfl) (by kernel_rfl) (fun _ _ _ h => h) (Or.inl ⟨by rfl, ?_⟩) rfl ?_
      rotate_left
      · intro W hW; rw [show W = w7 from hW]; (go_simp; try with_reducible rfl)
      try simp only [Act.put, List.setIfInBounds_toArray, List.set_cons_zero, List.set_cons_succ]
      refine wpAnyH_take (i := 18) (oi := { dst := some 45, op := Go.Op.nilCheck (Go.Operand.tmp 44), type := 0, pos := "law.go:72", after := #[{ on := 17, ground := Go.Ground.data }, { on := 14, ground := Go.Ground.guard }], guard := some (14, false) }) (v := ?_) rfl (by kernel_rfl) (by kernel_rfl) (by kernel_rfl) (fun _ _ _ h => h) (Or.inl ⟨by rfl, ?_⟩) rfl ?_
      rotate_left
      · intro W hW; rw [show W = w7 from hW]; (go_simp; try with_reducible rfl)
      try simp only [Act.put, List.setIfInBounds_toArray, List.set_cons_zero, List.set_cons_succ]
      refine wpAnyH_take (i := 19) (oi := { dst := some 46, op := Go.Op.fieldAddr 42 (Go.Operand.tmp 45) 0, type := 0, pos := "law.go:72", after := #[{ on := 18, ground := Go.Ground.data }, { on := 14, ground := Go.Ground.guard }], guard := some (14, false) }) (v := ?_) rfl (by kernel_rfl) (by kernel_rfl) (by kernel_rfl) (fun _ _ _ h => h) (Or.inl ⟨by rfl, ?_⟩) rfl ?_
      rotate_left
      · intro W hW; rw [show W = w7 from hW]; (go_simp; try with_reducible rfl)
      try simp only [Act.put, List.setIfInBounds_toArray, List.set_cons_zero, List.set_cons_succ]
      refine wpAnyH_take (i := 20) (oi := { dst := some 47, op := Go.Op.load 31 (Go.Operand.tmp 46), type := 31, pos := "law.go:72", after := #[{ on := 19, ground := Go.Ground.data }, { on := 14, ground := Go.Ground.guard }], guard := some (14, false) }) (v := ?_) rfl (by kernel_rfl) (by kernel_rfl) (by kernel_rfl) (fun _ _ _ h => h) (Or.inl ⟨by rfl, ?_⟩) rfl ?_
      rotate_left
      · intro W hW; rw [show W = w7 from hW]; (go_simp; try with_reducible rfl)
      try simp only [Act.put, List.setIfInBounds_toArray, List.set_cons_zero, List.set_cons_succ]
      refine wpAnyH_take (i := 21) (oi := { dst := some 48, op := Go.Op.call { callee := Go.Callee.builtin Go.Builtin.len, args := #[Go.Operand.tmp 47], argTypes := #[31] }, type := 3, pos := "law.go:72", after := #[{ on := 20, ground := Go.Ground.data }, { on := 14, ground := Go.Ground.guard }], guard := some (14, false) }) (v := ?_) rfl (by kernel_rfl) (by kernel_rfl) (by kernel_rfl) (fun _ _ _ h => h) (Or.inl ⟨by rfl, ?_⟩) rfl ?_
      rotate_left
      · intro W hW; rw [show W = w7 from hW]; (go_simp; try with_reducible rfl)
      try simp only [Act.put, List.setIfInBounds_toArray, List.set_cons_zero, List.set_cons_succ]
      refine wpAnyH_ready (rs := [16]) (by kernel_rfl) (by simp) ?_
      refine AllReadyH.cons (o := { dst := some 43, op := Go.Op.call { callee := Go.Callee.value (Go.Operand.func 17), args := #[Go.Operand.tmp 42], argTypes := #[37] }, type := 3, pos := "law.go:72", after := #[{ on := 15, ground := Go.Ground.data }, { on := 14, ground := Go.Ground.chain }, { on := 14, ground := Go.Ground.guard }], guard := some (14, false) }) rfl (fun K hK => ?_) AllReadyH.nil
      go_simp
      refine (curLeft_is g R _ _ _ C7.out).mono ?_
      rintro ee w8 ⟨rfl, rfl⟩
      go_wp2_with fail
      refine hK.out _ _ ?_ (fun _ => ?_)
      · exact rfl
      clear hK K
      try simp only [Act.put, List.setIfInBounds_toArray, List.set_cons_zero, List.set_cons_succ]
      refine wpAnyH_take (i := 22) (oi := { dst := some 49, op := Go.Op.binOp Go.BinOp.neq 3 (Go.Operand.tmp 43) (Go.Operand.tmp 48) 3, type := 4, pos := "law.go:72", after := #[{ on := 16, ground := Go.Ground.data }, { on := 21, ground := Go.Ground.data }, { on := 14, ground := Go.Ground.guard }], guard := some (14, false) }) (v := ?_) rfl (by kernel_rfl) (by kernel_rfl) (by kernel_rfl) (fun _ _ _ h => h) (Or.inl ⟨by rfl, ?_⟩) rfl ?_
      rotate_left
      · intro W hW; rw [show W = w7 from hW]; (go_simp; try with_reducible rfl)
      try simp only [Act.put, List.setIfInBounds_toArray, List.set_cons_zero, List.set_cons_succ]
      refine wpAnyH_take (i := 23) (oi := { dst := some 50, op := Go.Op.pick (Go.Operand.tmp 41) (Go.Operand.const (Go.Value.bool true)) (Go.Operand.tmp 49), type := 4, pos := "law.go:72", after := #[{ on := 14, ground := Go.Ground.data }, { on := 22, ground := Go.Ground.data }], guard := none }) (v := ?_) rfl (by kernel_rfl) (by kernel_rfl) (by kernel_rfl) (fun _ _ _ h => h) (Or.inl ⟨by rfl, ?_⟩) rfl ?_
      rotate_left
      · intro W hW; rw [show W = w7 from hW]; (go_simp; try with_reducible rfl)
      try simp only [Act.put, List.setIfInBounds_toArray, List.set_cons_zero, List.set_cons_succ]
      refine wpAnyH_take (i := 24) (oi := { dst := some 51, op := Go.Op.move (Go.Operand.tmp 50), type := 4, pos := "law.go:72", after := #[{ on := 23, ground := Go.Ground.data }, { on := 16, ground := Go.Ground.chain }], guard := none }) (v := ?_) rfl (by kernel_rfl) (by kernel_rfl) (by kernel_rfl) (fun _ _ _ h => h) (Or.inl ⟨by rfl, ?_⟩) rfl ?_
      rotate_left
      · intro W hW; rw [show W = w7 from hW]; (go_simp; try with_reducible rfl)
      try simp only [Act.put, List.setIfInBounds_toArray, List.set_cons_zero, List.set_cons_succ]
      refine wpAnyH_take (i := 25) (oi := { dst := some 52, op := Go.Op.move (Go.Operand.tmp 5), type := 37, pos := "law.go:72", after := #[{ on := 24, ground := Go.Ground.guard }], guard := some (24, false) }) (v := ?_) rfl (by kernel_rfl) (by kernel_rfl) (by kernel_rfl) (fun _ _ _ h => h) (Or.inl ⟨by rfl, ?_⟩) rfl ?_
      rotate_left
      · intro W hW; rw [show W = w7 from hW]; (go_simp; try with_reducible rfl)
      try simp only [Act.put, List.setIfInBounds_toArray, List.set_cons_zero, List.set_cons_succ]
      refine wpAnyH_take (i := 27) (oi := { dst := some 54, op := Go.Op.move (Go.Operand.tmp 6), type := 39, pos := "law.go:72", after := #[{ on := 24, ground := Go.Ground.guard }], guard := some (24, false) }) (v := ?_) rfl (by kernel_rfl) (by kernel_rfl) (by kernel_rfl) (fun _ _ _ h => h) (Or.inl ⟨by rfl, ?_⟩) rfl ?_
      rotate_left
      · intro W hW; rw [show W = w7 from hW]; (go_simp; try with_reducible rfl)
      try simp only [Act.put, List.setIfInBounds_toArray, List.set_cons_zero, List.set_cons_succ]
      refine wpAnyH_take (i := 28) (oi := { dst := some 55, op := Go.Op.nilCheck (Go.Operand.tmp 54), type := 0, pos := "law.go:72", after := #[{ on := 27, ground := Go.Ground.data }, { on := 24, ground := Go.Ground.guard }], guard := some (24, false) }) (v := ?_) rfl (by kernel_rfl) (by kernel_rfl) (by kernel_rfl) (fun _ _ _ h => h) (Or.inl ⟨by rfl, ?_⟩) rfl ?_
      rotate_left
      · intro W hW; rw [show W = w7 from hW]; (go_simp; try with_reducible rfl)
      try simp only [Act.put, List.setIfInBounds_toArray, List.set_cons_zero, List.set_cons_succ]
      refine wpAnyH_take (i := 29) (oi := { dst := some 56, op := Go.Op.fieldAddr 42 (Go.Operand.tmp 55) 1, type := 0, pos := "law.go:72", after := #[{ on := 28, ground := Go.Ground.data }, { on := 24, ground := Go.Ground.guard }], guard := some (24, false) }) (v := ?_) rfl (by kernel_rfl) (by kernel_rfl) (by kernel_rfl) (fun _ _ _ h => h) (Or.inl ⟨by rfl, ?_⟩) rfl ?_
      rotate_left
      · intro W hW; rw [show W = w7 from hW]; (go_simp; try with_reducible rfl)
      try simp only [Act.put, List.setIfInBounds_toArray, List.set_cons_zero, List.set_cons_succ]
      refine wpAnyH_take (i := 30) (oi := { dst := some 57, op := Go.Op.load 40 (Go.Operand.tmp 56), type := 40, pos := "law.go:72", after := #[{ on := 29, ground := Go.Ground.data }, { on := 24, ground := Go.Ground.guard }], guard := some (24, false) }) (v := ?_) rfl (by kernel_rfl) (by kernel_rfl) (by kernel_rfl) (fun _ _ _ h => h) (Or.inl ⟨by rfl, ?_⟩) rfl ?_
      rotate_left
      · intro W hW; rw [show W = w7 from hW]; (go_simp; try with_reducible rfl)
      try simp only [Act.put, List.setIfInBounds_toArray, List.set_cons_zero, List.set_cons_succ]
      refine wpAnyH_ready (rs := [26]) (by kernel_rfl) (by simp) ?_
      refine AllReadyH.cons (o := { dst := some 53, op := Go.Op.call { callee := Go.Callee.value (Go.Operand.func 18), args := #[Go.Operand.tmp 52], argTypes := #[37] }, type := 40, pos := "law.go:72", after := #[{ on := 25, ground := Go.Ground.data }, { on := 24, ground := Go.Ground.chain }, { on := 24, ground := Go.Ground.guard }], guard := some (24, false) }) rfl (fun K hK => ?_) AllReadyH.nil
      go_simp
      refine (curErr_is g R _ _ _ C7.out).mono ?_
      rintro ee w8 ⟨rfl, rfl⟩
      go_wp2_with fail
      refine hK.out _ _ ?_ (fun _ => ?_)
      · exact rfl
      clear hK K
      try simp only [Act.put, List.setIfInBounds_toArray, List.set_cons_zero, List.set_cons_succ]
      refine wpAnyH_take (i := 31) (oi := { dst := some 58, op := Go.Op.binOp Go.BinOp.neq 40 (Go.Operand.tmp 53) (Go.Operand.tmp 57) 40, type := 4, pos := "law.go:72", after := #[{ on := 26, ground := Go.Ground.data }, { on := 30, ground := Go.Ground.data }, { on := 24, ground := Go.Ground.guard }], guard := some (24, false) }) (v := ?_) rfl (by kernel_rfl) (by kernel_rfl) (by kernel_rfl) (fun _ _ _ h => h) (Or.inl ⟨by rfl, ?_⟩) rfl ?_
      rotate_left
      · intro W hW; rw [show W = w7 from hW]; (go_simp; try with_reducible rfl)
      try simp only [Act.put, List.setIfInBounds_toArray, List.set_cons_zero, List.set_cons_succ]
      refine wpAnyH_take (i := 32) (oi := { dst := some 59, op := Go.Op.pick (Go.Operand.tmp 51) (Go.Operand.const (Go.Value.bool true)) (Go.Operand.tmp 58), type := 4, pos := "law.go:72", after := #[{ on := 24, ground := Go.Ground.data }, { on := 31, ground := Go.Ground.data }], guard := none }) (v := ?_) rfl (by kernel_rfl) (by kernel_rfl) (by kernel_rfl) (fun _ _ _ h => h) (Or.inl ⟨by rfl, ?_⟩) rfl ?_
      rotate_left
      · intro W hW; rw [show W = w7 from hW]; (go_simp; try with_reducible rfl)
      try simp only [Act.put, List.setIfInBounds_toArray, List.set_cons_zero, List.set_cons_succ]
      refine wpAnyH_take (i := 33) (oi := { dst := some 60, op := Go.Op.move (Go.Operand.tmp 59), type := 4, pos := "law.go:72", after := #[{ on := 32, ground := Go.Ground.data }, { on := 26, ground := Go.Ground.chain }], guard := none }) (v := ?_) rfl (by kernel_rfl) (by kernel_rfl) (by kernel_rfl) (fun _ _ _ h => h) (Or.inl ⟨by rfl, ?_⟩) rfl ?_
      rotate_left
      · intro W hW; rw [show W = w7 from hW]; (go_simp; try with_reducible rfl)
      try simp only [Act.put, List.setIfInBounds_toArray, List.set_cons_zero, List.set_cons_succ]
      refine wpAnyH_take (i := 34) (oi := { dst := some 61, op := Go.Op.move (Go.Operand.tmp 5), type := 37, pos := "law.go:72", after := #[{ on := 33, ground := Go.Ground.guard }], guard := some (33, false) }) (v := ?_) rfl (by kernel_rfl) (by kernel_rfl) (by kernel_rfl) (fun _ _ _ h => h) (Or.inl ⟨by rfl, ?_⟩) rfl ?_
      rotate_left
      · intro W hW; rw [show W = w7 from hW]; (go_simp; try with_reducible rfl)
      try simp only [Act.put, List.setIfInBounds_toArray, List.set_cons_zero, List.set_cons_succ]
      refine wpAnyH_take (i := 36) (oi := { dst := some 63, op := Go.Op.move (Go.Operand.tmp 6), type := 39, pos := "law.go:72", after := #[{ on := 33, ground := Go.Ground.guard }], guard := some (33, false) }) (v := ?_) rfl (by kernel_rfl) (by kernel_rfl) (by kernel_rfl) (fun _ _ _ h => h) (Or.inl ⟨by rfl, ?_⟩) rfl ?_
      rotate_left
      · intro W hW; rw [show W = w7 from hW]; (go_simp; try with_reducible rfl)
      try simp only [Act.put, List.setIfInBounds_toArray, List.set_cons_zero, List.set_cons_succ]
      refine wpAnyH_ready (rs := [35]) (by kernel_rfl) (by simp) ?_
      refine AllReadyH.cons (o := { dst := some 62, op := Go.Op.call { callee := Go.Callee.value (Go.Operand.func 19), args := #[Go.Operand.tmp 61], argTypes := #[37] }, type := 40, pos := "law.go:72", after := #[{ on := 34, ground := Go.Ground.data }, { on := 33, ground := Go.Ground.chain }, { on := 33, ground := Go.Ground.guard }], guard := some (33, false) }) rfl (fun K hK => ?_) AllReadyH.nil
      go_simp
      refine (curDone_is g R _ _ _ C7.out).mono ?_
      rintro ee w8 ⟨rfl, rfl⟩
      go_wp2_with fail
      refine hK.out _ _ ?_ (fun _ => ?_)
      · exact rfl
      clear hK K
      try simp only [Act.put, List.setIfInBounds_toArray, List.set_cons_zero, List.set_cons_succ]
      refine wpAnyH_ready (rs := [37]) (by kernel_rfl) (by simp) ?_
      refine AllReadyH.cons (o := { dst := some 64, op := Go.Op.call { callee := Go.Callee.value (Go.Operand.func 20), args := #[Go.Operand.tmp 63], argTypes := #[39] }, type := 40, pos := "law.go:72", after := #[{ on := 36, ground := Go.Ground.data }, { on := 35, ground := Go.Ground.chain }, { on := 33, ground := Go.Ground.guard }], guard := some (33, false) }) rfl (fun K hK => ?_) AllReadyH.nil
      go_simp
      refine (refDone_is w1.heap.size Rm _ _ _ M7.out).mono ?_
      rintro ee w8 ⟨rfl, rfl⟩
      go_wp2_with fail
      refine hK.out _ _ ?_ (fun _ => ?_)
      · exact rfl
      clear hK K
      try simp only [Act.put, List.setIfInBounds_toArray, List.set_cons_zero, List.set_cons_succ]
      refine wpAnyH_take (i := 38) (oi := { dst := some 65, op := Go.Op.binOp Go.BinOp.neq 40 (Go.Operand.tmp 62) (Go.Operand.tmp 64) 40, type := 4, pos := "law.go:72", after := #[{ on := 35, ground := Go.Ground.data }, { on := 37, ground := Go.Ground.data }, { on := 33, ground := Go.Ground.guard }], guard := some (33, false) }) (v := ?_) rfl (by kernel_rfl) (by kernel_rfl) (by kernel_rfl) (fun _ _ _ h => h) (Or.inl ⟨by rfl, ?_⟩) rfl ?_
      rotate_left
      · intro W hW; rw [show W = w7 from hW]; (go_simp; try with_reducible rfl)
      try simp only [Act.put, List.setIfInBounds_toArray, List.set_cons_zero, List.set_cons_succ]
      refine wpAnyH_take (i := 39) (oi := { dst := some 66, op := Go.Op.pick (Go.Operand.tmp 60) (Go.Operand.const (Go.Value.bool true)) (Go.Operand.tmp 65), type := 4, pos := "law.go:72", after := #[{ on := 33, ground := Go.Ground.data }, { on := 38, ground := Go.Ground.data }], guard := none }) (v := ?_) rfl (by kernel_rfl) (by kernel_rfl) (by kernel_rfl) (fun _ _ _ h => h) (Or.inl ⟨by rfl, ?_⟩) rfl ?_
      rotate_left
      · intro W hW; rw [show W = w7 from hW]; (go_simp; try with_reducible rfl)
      try simp only [Act.put, List.setIfInBounds_toArray, List.set_cons_zero, List.set_cons_succ]
      refine wpAnyH_done (by kernel_rfl) ?_ _
      refine NoPanic.normal ?_
      go_wp2
      go_roundw
      case rel => exact ⟨k + 1, res.err, res.rst, by omega, by go_num, C7.out, M7.out, S7.out⟩
      case measure => simp [intOf]; omega
    · have HBel := Lib.hid hbel
      clear hbel
      go_wp2_with fail
      refine (alive_is _).mono ?_
      rintro e w2 ⟨rfl, b2⟩
      have B3 := Lib.hid (step_ HBel.out b2)
      clear b2
      go_wp2_with fail
      go_ret
      exact ⟨rfl, B3.out⟩
theorem reads_nil (pa : Option Addr) (pcap : Nat) (a : Option Addr) (cap : Nat) (b0 : List Int) (w : World) (hbb : BytesAt w (.slice a b0.length cap) b0) (h300 : b0.length ≤ 300) :
    Calls Try.prog 4 #[.slice a b0.length cap, .slice pa 0 pcap] w (Holds_ w) := by
  have k1 : ¬ (300 : Int) < (b0.length : Int) := by omega
  have HB0 := Lib.hid hbb
  clear hbb
  go_enter Try.func4, Try.ntmps4
  go_wp2_with fail
  refine (large_nil pa pcap _).mono ?_
  rintro e w1 ⟨rfl, rfl⟩
  go_wp2_with fail
  refine (from_is _ b0 _ HB0.out (by omega)).mono ?_
  rintro e w1 ⟨g, R, rfl, -, -, hb1⟩
  have B2 := Lib.hid (step_ hb1 (new_below w1 (.cells #[.slice a b0.length cap, .int .i64 0] 42)))
  clear hb1
  go_wp2_with fail
  refine wp_loop_rounds 1 ?_
  rw [rounds_succ]
  go_wp2_with fail
  refine (alive_is _).mono ?_
  rintro e w2 ⟨rfl, b2⟩
  have B3 := Lib.hid (step_ B2.out b2)
  clear b2
  go_wp2_with fail
  go_ret
  exact ⟨rfl, B3.out⟩
theorem wireReads_any (v0 v1 : Value) (l : List Int) (ps : List Pc) (w : World) (hb : BytesAt w v0 l) (h : PsAt w v1 ps) : Calls Try.prog 4 #[v0, v1] w (Holds_ w) := by
  obtain ⟨a, cap, rfl⟩ : ∃ a cap, v0 = .slice a l.length cap := by obtain ⟨a, cap, e, _⟩ := hb; exact ⟨a, cap, e⟩
  by_cases h3 : 300 < l.length
  · exact reads_alive v1 a l.length cap ps w h h3
  · obtain ⟨⟨pa, pcap, rfl, hc, h0⟩, hok⟩ := h
    by_cases hp : 0 < ps.length
    · obtain ⟨G, off, rfl, hG, hr⟩ := h0 hp
      exact reads_some G off pcap a cap l ps w hb (by omega) hG (Lib.hid hr) (Lib.hid hok)
    · obtain rfl : ps = [] := List.eq_nil_of_length_eq_zero (by omega)
      exact reads_nil pa pcap a cap l w hb (by omega)
end Go.Proofs.Ytieeggdmmnhbjaa
