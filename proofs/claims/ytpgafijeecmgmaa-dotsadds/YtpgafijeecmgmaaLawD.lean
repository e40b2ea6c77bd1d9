/- The walks of the laws DotsAdds and DotsJoins. Written by wip/tools/lawd_r13.py. -/
import Derived.Test.YtpgafijeecmgmaaLiveD
import Derived.Test.YtpgafijeecmgmaaRefU
namespace Go.Proofs.Ytpgafijeecmgmaa
open Go.RowKit

set_option maxRecDepth 100000 in
set_option maxHeartbeats 8000000 in
theorem dotsAdds_is (f c l : List Int) (A A2 : Option Addr) (cp cp2 : Nat) (d : Int) (w : World) (hf : VOk f) (h1 : NumsAt w (.slice A c.length cp) c) (h2 : NumsAt w (.slice A2 l.length cp2) l) (hd : 0 ≤ d ∧ d < 18446744073709551616) :
    Calls Try.prog 3 #[.agg (sc f (.slice A c.length cp)).toArray, .slice A2 l.length cp2, .int .u64 d] w fun e w' => e = .returned (.bool true) ∧ Below w.heap.size w w' := by
  have HF := Lib.hid hf
  have H1 := Lib.hid h1
  have H2 := Lib.hid h2
  have HD := Lib.hid hd
  clear hf h1 h2 hd
  go_enter Try.func3, Try.ntmps3
  by_cases hc : 40 < c.length
  · have hc' : decide ((40 : Int) < (c.length : Int)) = true := decide_eq_true (by omega)
    go_wp2_with (first | go_skip | (refine wpList_box_cs rfl _ rfl (sc f (.slice A c.length cp)) rfl ?_; intro g0 w1 eg0 G1 b1; have c16 := G1.out.cell (sc_cloud (.slice A c.length cp) HF.out.len)))
    clear c16
    refine (aliveD_is w1).mono ?_
    rintro e wz ⟨rfl, bz⟩
    have WZ := Lib.hid (step_ b1.out bz)
    clear bz
    go_wp2_with fail
    go_ret
    exact ⟨rfl, WZ.out⟩
  · have hc' : decide ((40 : Int) < (c.length : Int)) = false := decide_eq_false (by omega)
    by_cases hl : 40 < l.length
    · have hl' : decide ((40 : Int) < (l.length : Int)) = true := decide_eq_true (by omega)
      go_wp2_with (first | go_skip | (refine wpList_box_cs rfl _ rfl (sc f (.slice A c.length cp)) rfl ?_; intro g0 w1 eg0 G1 b1; have c16 := G1.out.cell (sc_cloud (.slice A c.length cp) HF.out.len)))
      clear c16
      refine (aliveD_is w1).mono ?_
      rintro e wz ⟨rfl, bz⟩
      have WZ := Lib.hid (step_ b1.out bz)
      clear bz
      go_wp2_with fail
      go_ret
      exact ⟨rfl, WZ.out⟩
    · have hl' : decide ((40 : Int) < (l.length : Int)) = false := decide_eq_false (by omega)
      obtain ⟨pl, hpl0⟩ : ∃ p, nrm vz l = p := ⟨_, rfl⟩
      obtain ⟨pa, hpa0⟩ : ∃ p, nrm f (c ++ l) = p := ⟨_, rfl⟩
      obtain ⟨r1, hr1⟩ : ∃ r, rightsD f c c.length = r := ⟨_, rfl⟩
      obtain ⟨r2, hr2⟩ : ∃ r, has f c d = r := ⟨_, rfl⟩
      obtain ⟨n3, hn3⟩ : ∃ n, cntD (nrm f c) = n := ⟨_, rfl⟩
      have HPL := Lib.hid hpl0
      have HPA := Lib.hid hpa0
      have HR1 := Lib.hid hr1
      have HR2 := Lib.hid hr2
      have HN3 := Lib.hid hn3
      have NPL := Lib.hid (hpl0 ▸ nrm_of vz_ok l)
      have NPA := Lib.hid (hpa0 ▸ nrm_of HF.out (c ++ l))
      have hpl : pl.2.length ≤ 5000 := by have := NPL.out.len; omega
      have hpa : pa.2.length ≤ 5000 := by have := NPA.out.len; rw [List.length_append] at this; omega
      have hbb : (r1 == r1) = true := by simp
      have hbb2 : (r2 == r2) = true := by simp
      have hnn : (n3 == n3) = true := by simp
      clear hpl0 hpa0 hr1 hr2 hn3
      go_wp2_with (first | go_skip | (refine wpList_box_cs rfl _ rfl (sc f (.slice A c.length cp)) rfl ?_; intro g0 w1 eg0 G1 b1; have c16 := G1.out.cell (sc_cloud (.slice A c.length cp) HF.out.len)))
      clear c16
      have S0 := Lib.hid (show Below w1.heap.size w1 w1.drew from below_drew (Below.refl _ _))
      have W0 := Lib.hid (step_ b1.out S0.out)
      refine wp_region_noPanic ?_
      refine wp_region_held_drew (S := fun W => Below w1.heap.size w1 W) (by kernel_rfl) S0.out (fun _ => ?_)
      refine wpAnyH_take (i := 0) (oi := { dst := some 17, op := Go.Op.move (Go.Operand.tmp 1), type := 24, pos := _, after := #[], guard := none }) (v := ?_) rfl (by kernel_rfl) (by kernel_rfl) (by kernel_rfl) (fun _ _ _ h => h) (Or.inl ⟨by rfl, ?_⟩) S0.out ?_
      rotate_left
      · intro W hW; (go_simp; try with_reducible rfl)
      try simp only [Act.put, List.setIfInBounds_toArray, List.set_cons_zero, List.set_cons_succ]
      refine wpAnyH_take (i := 3) (oi := { dst := some 20, op := Go.Op.build 26 #[], type := 26, pos := _, after := #[], guard := none }) (v := .agg (sc vz (.slice none 0 0)).toArray) rfl (by kernel_rfl) (by kernel_rfl) (by kernel_rfl) (fun _ _ _ h => h) (Or.inl ⟨by rfl, fun W hW => exec_build 26 _ rfl [] rfl _ built_s26z⟩) S0.out ?_
      try simp only [Act.put, List.setIfInBounds_toArray, List.set_cons_zero, List.set_cons_succ]
      refine wpAnyH_take (i := 4) (oi := { dst := some 21, op := Go.Op.move (Go.Operand.tmp 1), type := 24, pos := _, after := #[], guard := none }) (v := ?_) rfl (by kernel_rfl) (by kernel_rfl) (by kernel_rfl) (fun _ _ _ h => h) (Or.inl ⟨by rfl, ?_⟩) S0.out ?_
      rotate_left
      · intro W hW; (go_simp; try with_reducible rfl)
      try simp only [Act.put, List.setIfInBounds_toArray, List.set_cons_zero, List.set_cons_succ]
      refine wpAnyH_ready (rs := [1]) (by kernel_rfl) (by simp) ?_
      refine AllReadyH.cons (o := { dst := some 18, op := Go.Op.call { callee := Go.Callee.value (Go.Operand.func 9), args := #[Go.Operand.tmp 17], argTypes := #[24] }, type := 33, pos := _, after := #[{ on := 0, ground := Go.Ground.data }], guard := none }) rfl (fun K hK => ?_) AllReadyH.nil
      go_simp
      refine (of_is l A2 cp2 _ (H2.out.below W0.out) (by omega) pl HPL).mono ?_
      rintro e w1 ⟨Ax1, cx1, rfl, v1, b1⟩
      have S1 := Lib.hid (step_ S0.out b1)
      have W1 := Lib.hid (step_ W0.out b1)
      have Vpl_1 := Lib.hid v1.at_
      clear v1
      clear b1
      go_wp2_with fail
      refine hK.out _ _ S1.out (fun _ => ?_)
      clear hK K
      try simp only [Act.put, List.setIfInBounds_toArray, List.set_cons_zero, List.set_cons_succ]
      refine wpAnyH_ready (rs := [2]) (by kernel_rfl) (by simp) ?_
      refine AllReadyH.cons (o := { dst := some 19, op := Go.Op.call { callee := Go.Callee.value (Go.Operand.func 8), args := #[Go.Operand.tmp 18], argTypes := #[33] }, type := 26, pos := _, after := #[{ on := 1, ground := Go.Ground.data }, { on := 1, ground := Go.Ground.chain }], guard := none }) rfl (fun K hK => ?_) AllReadyH.nil
      go_simp
      refine (from_is pl.1 Ax1 pl.2.length cx1 _ NPL.out.v.len).mono ?_
      rintro e w2 ⟨rfl, b2⟩
      have S2 := Lib.hid (step_ S1.out b2)
      have W2 := Lib.hid (step_ W1.out b2)
      have Vpl_2 := Lib.hid (Vpl_1.out.below b2)
      clear b2
      go_wp2_with fail
      refine hK.out _ _ S2.out (fun _ => ?_)
      clear hK K
      try simp only [Act.put, List.setIfInBounds_toArray, List.set_cons_zero, List.set_cons_succ]
      refine wpAnyH_ready (rs := [5]) (by kernel_rfl) (by simp) ?_
      refine AllReadyH.cons (o := { dst := some 22, op := Go.Op.call { callee := Go.Callee.value (Go.Operand.func 10), args := #[Go.Operand.tmp 20, Go.Operand.tmp 21], argTypes := #[26, 24] }, type := 26, pos := _, after := #[{ on := 3, ground := Go.Ground.data }, { on := 4, ground := Go.Ground.data }, { on := 2, ground := Go.Ground.chain }], guard := none }) rfl (fun K hK => ?_) AllReadyH.nil
      go_simp
      refine (radd_is vz [] l none A2 0 cp2 _ vz_ok (nums_at_nil _) (H2.out.below W2.out) (by simp) (by omega) pl HPL).mono ?_
      rintro e w3 ⟨Ax3, cx3, rfl, v3, b3⟩
      have S3 := Lib.hid (step_ S2.out b3)
      have W3 := Lib.hid (step_ W2.out b3)
      have Vpl_3 := Lib.hid (Vpl_2.out.below b3)
      have Vql_3 := Lib.hid v3
      clear v3
      clear b3
      go_wp2_with fail
      refine hK.out _ _ S3.out (fun _ => ?_)
      clear hK K
      try simp only [Act.put, List.setIfInBounds_toArray, List.set_cons_zero, List.set_cons_succ]
      refine wpAnyH_ready (rs := [6]) (by kernel_rfl) (by simp) ?_
      refine AllReadyH.cons (o := { dst := some 23, op := Go.Op.call { callee := Go.Callee.value (Go.Operand.func 7), args := #[Go.Operand.tmp 19, Go.Operand.tmp 22], argTypes := #[26, 26] }, type := 4, pos := _, after := #[{ on := 2, ground := Go.Ground.data }, { on := 5, ground := Go.Ground.data }, { on := 5, ground := Go.Ground.chain }], guard := none }) rfl (fun K hK => ?_) AllReadyH.nil
      go_simp
      refine (rsame_is pl.1 pl.2 pl.1 pl.2 Ax1 Ax3 cx1 cx3 true _ NPL.out.v NPL.out.v Vpl_3.out Vql_3.out hpl (Lib.hid (by simp))).mono ?_
      rintro e w4 ⟨rfl, b4⟩
      have S4 := Lib.hid (step_ S3.out b4)
      have W4 := Lib.hid (step_ W3.out b4)
      clear b4
      go_wp2_with fail
      refine hK.out _ _ S4.out (fun _ => ?_)
      clear hK K
      try simp only [Act.put, List.setIfInBounds_toArray, List.set_cons_zero, List.set_cons_succ]
      refine wpAnyH_take (i := 7) (oi := { dst := some 24, op := Go.Op.move (Go.Operand.tmp 23), type := 4, pos := _, after := #[{ on := 6, ground := Go.Ground.data }, { on := 6, ground := Go.Ground.chain }], guard := none }) (v := ?_) rfl (by kernel_rfl) (by kernel_rfl) (by kernel_rfl) (fun _ _ _ h => h) (Or.inl ⟨by rfl, ?_⟩) S4.out ?_
      rotate_left
      · intro W hW; (go_simp; try with_reducible rfl)
      try simp only [Act.put, List.setIfInBounds_toArray, List.set_cons_zero, List.set_cons_succ]
      refine wpAnyH_take (i := 8) (oi := { dst := some 25, op := Go.Op.load 26 (Go.Operand.tmp 3), type := 26, pos := _, after := #[{ on := 7, ground := Go.Ground.guard }], guard := some (7, true) }) (v := .agg (sc f (.slice A c.length cp)).toArray) rfl (by kernel_rfl) (by kernel_rfl) (by kernel_rfl) (fun _ _ _ h => h) (yieldsIf_load_mid (by rfl) 26 (.tmp 3) rfl g0 0 rfl (sc f (.slice A c.length cp)) _ (fun W hW => (G1.out.below hW).range) Try.underlying26 rfl (t26.size HF.out.len)) S4.out ?_
      try simp only [Act.put, List.setIfInBounds_toArray, List.set_cons_zero, List.set_cons_succ]
      refine wpAnyH_take (i := 10) (oi := { dst := some 27, op := Go.Op.move (Go.Operand.tmp 1), type := 24, pos := _, after := #[{ on := 7, ground := Go.Ground.guard }], guard := some (7, true) }) (v := ?_) rfl (by kernel_rfl) (by kernel_rfl) (by kernel_rfl) (fun _ _ _ h => h) (Or.inl ⟨by rfl, ?_⟩) S4.out ?_
      rotate_left
      · intro W hW; (go_simp; try with_reducible rfl)
      try simp only [Act.put, List.setIfInBounds_toArray, List.set_cons_zero, List.set_cons_succ]
      refine wpAnyH_take (i := 13) (oi := { dst := some 30, op := Go.Op.load 26 (Go.Operand.tmp 3), type := 26, pos := _, after := #[{ on := 7, ground := Go.Ground.guard }], guard := some (7, true) }) (v := .agg (sc f (.slice A c.length cp)).toArray) rfl (by kernel_rfl) (by kernel_rfl) (by kernel_rfl) (fun _ _ _ h => h) (yieldsIf_load_mid (by rfl) 26 (.tmp 3) rfl g0 0 rfl (sc f (.slice A c.length cp)) _ (fun W hW => (G1.out.below hW).range) Try.underlying26 rfl (t26.size HF.out.len)) S4.out ?_
      try simp only [Act.put, List.setIfInBounds_toArray, List.set_cons_zero, List.set_cons_succ]
      refine wpAnyH_take (i := 14) (oi := { dst := some 31, op := Go.Op.move (Go.Operand.tmp 1), type := 24, pos := _, after := #[{ on := 7, ground := Go.Ground.guard }], guard := some (7, true) }) (v := ?_) rfl (by kernel_rfl) (by kernel_rfl) (by kernel_rfl) (fun _ _ _ h => h) (Or.inl ⟨by rfl, ?_⟩) S4.out ?_
      rotate_left
      · intro W hW; (go_simp; try with_reducible rfl)
      try simp only [Act.put, List.setIfInBounds_toArray, List.set_cons_zero, List.set_cons_succ]
      refine wpAnyH_ready (rs := [9]) (by kernel_rfl) (by simp) ?_
      refine AllReadyH.cons (o := { dst := some 26, op := Go.Op.call { callee := Go.Callee.value (Go.Operand.func 12), args := #[Go.Operand.tmp 25], argTypes := #[26] }, type := 33, pos := _, after := #[{ on := 8, ground := Go.Ground.data }, { on := 7, ground := Go.Ground.chain }, { on := 7, ground := Go.Ground.guard }], guard := some (7, true) }) rfl (fun K hK => ?_) AllReadyH.nil
      go_simp
      refine (to_is f A c.length cp _ HF.out.len).mono ?_
      rintro e w5 ⟨rfl, b5⟩
      have S5 := Lib.hid (step_ S4.out b5)
      have W5 := Lib.hid (step_ W4.out b5)
      clear b5
      go_wp2_with fail
      refine hK.out _ _ S5.out (fun _ => ?_)
      clear hK K
      try simp only [Act.put, List.setIfInBounds_toArray, List.set_cons_zero, List.set_cons_succ]
      refine wpAnyH_ready (rs := [11]) (by kernel_rfl) (by simp) ?_
      refine AllReadyH.cons (o := { dst := some 28, op := Go.Op.call { callee := Go.Callee.value (Go.Operand.func 11), args := #[Go.Operand.tmp 26, Go.Operand.tmp 27], argTypes := #[33, 24] }, type := 33, pos := _, after := #[{ on := 9, ground := Go.Ground.data }, { on := 10, ground := Go.Ground.data }, { on := 9, ground := Go.Ground.chain }, { on := 7, ground := Go.Ground.guard }], guard := some (7, true) }) rfl (fun K hK => ?_) AllReadyH.nil
      go_simp
      refine (add_is f c l A A2 cp cp2 _ HF.out (H1.out.below W5.out) (H2.out.below W5.out) (by omega) (by omega) pa HPA).mono ?_
      rintro e w6 ⟨Ax6, cx6, rfl, v6, b6⟩
      have S6 := Lib.hid (step_ S5.out b6)
      have W6 := Lib.hid (step_ W5.out b6)
      have Vpa_6 := Lib.hid v6.at_
      clear v6
      clear b6
      go_wp2_with fail
      refine hK.out _ _ S6.out (fun _ => ?_)
      clear hK K
      try simp only [Act.put, List.setIfInBounds_toArray, List.set_cons_zero, List.set_cons_succ]
      refine wpAnyH_ready (rs := [12]) (by kernel_rfl) (by simp) ?_
      refine AllReadyH.cons (o := { dst := some 29, op := Go.Op.call { callee := Go.Callee.value (Go.Operand.func 8), args := #[Go.Operand.tmp 28], argTypes := #[33] }, type := 26, pos := _, after := #[{ on := 11, ground := Go.Ground.data }, { on := 11, ground := Go.Ground.chain }, { on := 7, ground := Go.Ground.guard }], guard := some (7, true) }) rfl (fun K hK => ?_) AllReadyH.nil
      go_simp
      refine (from_is pa.1 Ax6 pa.2.length cx6 _ NPA.out.v.len).mono ?_
      rintro e w7 ⟨rfl, b7⟩
      have S7 := Lib.hid (step_ S6.out b7)
      have W7 := Lib.hid (step_ W6.out b7)
      have Vpa_7 := Lib.hid (Vpa_6.out.below b7)
      clear b7
      go_wp2_with fail
      refine hK.out _ _ S7.out (fun _ => ?_)
      clear hK K
      try simp only [Act.put, List.setIfInBounds_toArray, List.set_cons_zero, List.set_cons_succ]
      refine wpAnyH_ready (rs := [15]) (by kernel_rfl) (by simp) ?_
      refine AllReadyH.cons (o := { dst := some 32, op := Go.Op.call { callee := Go.Callee.value (Go.Operand.func 10), args := #[Go.Operand.tmp 30, Go.Operand.tmp 31], argTypes := #[26, 24] }, type := 26, pos := _, after := #[{ on := 13, ground := Go.Ground.data }, { on := 14, ground := Go.Ground.data }, { on := 12, ground := Go.Ground.chain }, { on := 7, ground := Go.Ground.guard }], guard := some (7, true) }) rfl (fun K hK => ?_) AllReadyH.nil
      go_simp
      refine (radd_is f c l A A2 cp cp2 _ HF.out (H1.out.below W7.out) (H2.out.below W7.out) (by omega) (by omega) pa HPA).mono ?_
      rintro e w8 ⟨Ax8, cx8, rfl, v8, b8⟩
      have S8 := Lib.hid (step_ S7.out b8)
      have W8 := Lib.hid (step_ W7.out b8)
      have Vpa_8 := Lib.hid (Vpa_7.out.below b8)
      have Vqa_8 := Lib.hid v8
      clear v8
      clear b8
      go_wp2_with fail
      refine hK.out _ _ S8.out (fun _ => ?_)
      clear hK K
      try simp only [Act.put, List.setIfInBounds_toArray, List.set_cons_zero, List.set_cons_succ]
      refine wpAnyH_ready (rs := [16]) (by kernel_rfl) (by simp) ?_
      refine AllReadyH.cons (o := { dst := some 33, op := Go.Op.call { callee := Go.Callee.value (Go.Operand.func 7), args := #[Go.Operand.tmp 29, Go.Operand.tmp 32], argTypes := #[26, 26] }, type := 4, pos := _, after := #[{ on := 12, ground := Go.Ground.data }, { on := 15, ground := Go.Ground.data }, { on := 15, ground := Go.Ground.chain }, { on := 7, ground := Go.Ground.guard }], guard := some (7, true) }) rfl (fun K hK => ?_) AllReadyH.nil
      go_simp
      refine (rsame_is pa.1 pa.2 pa.1 pa.2 Ax6 Ax8 cx6 cx8 true _ NPA.out.v NPA.out.v Vpa_8.out Vqa_8.out hpa (Lib.hid (by simp))).mono ?_
      rintro e w9 ⟨rfl, b9⟩
      have S9 := Lib.hid (step_ S8.out b9)
      have W9 := Lib.hid (step_ W8.out b9)
      clear b9
      go_wp2_with fail
      refine hK.out _ _ S9.out (fun _ => ?_)
      clear hK K
      try simp only [Act.put, List.setIfInBounds_toArray, List.set_cons_zero, List.set_cons_succ]
      refine wpAnyH_take (i := 17) (oi := { dst := some 34, op := Go.Op.pick (Go.Operand.tmp 24) (Go.Operand.tmp 33) (Go.Operand.const (Go.Value.bool false)), type := 4, pos := _, after := #[{ on := 7, ground := Go.Ground.data }, { on := 16, ground := Go.Ground.data }], guard := none }) (v := ?_) rfl (by kernel_rfl) (by kernel_rfl) (by kernel_rfl) (fun _ _ _ h => h) (Or.inl ⟨by rfl, ?_⟩) S9.out ?_
      rotate_left
      · intro W hW; (go_simp; try with_reducible rfl)
      try simp only [Act.put, List.setIfInBounds_toArray, List.set_cons_zero, List.set_cons_succ]
      refine wpAnyH_take (i := 18) (oi := { dst := some 35, op := Go.Op.move (Go.Operand.tmp 34), type := 4, pos := _, after := #[{ on := 17, ground := Go.Ground.data }, { on := 16, ground := Go.Ground.chain }], guard := none }) (v := ?_) rfl (by kernel_rfl) (by kernel_rfl) (by kernel_rfl) (fun _ _ _ h => h) (Or.inl ⟨by rfl, ?_⟩) S9.out ?_
      rotate_left
      · intro W hW; (go_simp; try with_reducible rfl)
      try simp only [Act.put, List.setIfInBounds_toArray, List.set_cons_zero, List.set_cons_succ]
      refine wpAnyH_take (i := 19) (oi := { dst := some 36, op := Go.Op.load 26 (Go.Operand.tmp 3), type := 26, pos := _, after := #[{ on := 18, ground := Go.Ground.guard }], guard := some (18, true) }) (v := .agg (sc f (.slice A c.length cp)).toArray) rfl (by kernel_rfl) (by kernel_rfl) (by kernel_rfl) (fun _ _ _ h => h) (yieldsIf_load_mid (by rfl) 26 (.tmp 3) rfl g0 0 rfl (sc f (.slice A c.length cp)) _ (fun W hW => (G1.out.below hW).range) Try.underlying26 rfl (t26.size HF.out.len)) S9.out ?_
      try simp only [Act.put, List.setIfInBounds_toArray, List.set_cons_zero, List.set_cons_succ]
      refine wpAnyH_take (i := 22) (oi := { dst := some 39, op := Go.Op.load 26 (Go.Operand.tmp 3), type := 26, pos := _, after := #[{ on := 18, ground := Go.Ground.guard }], guard := some (18, true) }) (v := .agg (sc f (.slice A c.length cp)).toArray) rfl (by kernel_rfl) (by kernel_rfl) (by kernel_rfl) (fun _ _ _ h => h) (yieldsIf_load_mid (by rfl) 26 (.tmp 3) rfl g0 0 rfl (sc f (.slice A c.length cp)) _ (fun W hW => (G1.out.below hW).range) Try.underlying26 rfl (t26.size HF.out.len)) S9.out ?_
      try simp only [Act.put, List.setIfInBounds_toArray, List.set_cons_zero, List.set_cons_succ]
      refine wpAnyH_ready (rs := [20]) (by kernel_rfl) (by simp) ?_
      refine AllReadyH.cons (o := { dst := some 37, op := Go.Op.call { callee := Go.Callee.value (Go.Operand.func 12), args := #[Go.Operand.tmp 36], argTypes := #[26] }, type := 33, pos := _, after := #[{ on := 19, ground := Go.Ground.data }, { on := 18, ground := Go.Ground.chain }, { on := 18, ground := Go.Ground.guard }], guard := some (18, true) }) rfl (fun K hK => ?_) AllReadyH.nil
      go_simp
      refine (to_is f A c.length cp _ HF.out.len).mono ?_
      rintro e w10 ⟨rfl, b10⟩
      have S10 := Lib.hid (step_ S9.out b10)
      have W10 := Lib.hid (step_ W9.out b10)
      clear b10
      go_wp2_with fail
      refine hK.out _ _ S10.out (fun _ => ?_)
      clear hK K
      try simp only [Act.put, List.setIfInBounds_toArray, List.set_cons_zero, List.set_cons_succ]
      refine wpAnyH_ready (rs := [21]) (by kernel_rfl) (by simp) ?_
      refine AllReadyH.cons (o := { dst := some 38, op := Go.Op.call { callee := Go.Callee.value (Go.Operand.func 13), args := #[Go.Operand.tmp 37], argTypes := #[33] }, type := 4, pos := _, after := #[{ on := 20, ground := Go.Ground.data }, { on := 20, ground := Go.Ground.chain }, { on := 18, ground := Go.Ground.guard }], guard := some (18, true) }) rfl (fun K hK => ?_) AllReadyH.nil
      go_simp
      refine (right_is f c A cp r1 _ HF.out (H1.out.below W10.out) (by omega) HR1).mono ?_
      rintro e w11 ⟨rfl, b11⟩
      have S11 := Lib.hid (step_ S10.out b11)
      have W11 := Lib.hid (step_ W10.out b11)
      clear b11
      go_wp2_with fail
      refine hK.out _ _ S11.out (fun _ => ?_)
      clear hK K
      try simp only [Act.put, List.setIfInBounds_toArray, List.set_cons_zero, List.set_cons_succ]
      refine wpAnyH_ready (rs := [23]) (by kernel_rfl) (by simp) ?_
      refine AllReadyH.cons (o := { dst := some 40, op := Go.Op.call { callee := Go.Callee.value (Go.Operand.func 14), args := #[Go.Operand.tmp 39], argTypes := #[26] }, type := 4, pos := _, after := #[{ on := 22, ground := Go.Ground.data }, { on := 21, ground := Go.Ground.chain }, { on := 18, ground := Go.Ground.guard }], guard := some (18, true) }) rfl (fun K hK => ?_) AllReadyH.nil
      go_simp
      refine (rright_is f c A cp r1 _ HF.out (H1.out.below W11.out) (by omega) HR1).mono ?_
      rintro e w12 ⟨rfl, b12⟩
      have S12 := Lib.hid (step_ S11.out b12)
      have W12 := Lib.hid (step_ W11.out b12)
      clear b12
      go_wp2_with fail
      refine hK.out _ _ S12.out (fun _ => ?_)
      clear hK K
      try simp only [Act.put, List.setIfInBounds_toArray, List.set_cons_zero, List.set_cons_succ]
      refine wpAnyH_take (i := 24) (oi := { dst := some 41, op := Go.Op.binOp Go.BinOp.eql 4 (Go.Operand.tmp 38) (Go.Operand.tmp 40) 4, type := 4, pos := _, after := #[{ on := 21, ground := Go.Ground.data }, { on := 23, ground := Go.Ground.data }, { on := 18, ground := Go.Ground.guard }], guard := some (18, true) }) (v := ?_) rfl (by kernel_rfl) (by kernel_rfl) (by kernel_rfl) (fun _ _ _ h => h) (Or.inl ⟨by rfl, ?_⟩) S12.out ?_
      rotate_left
      · intro W hW; (go_simp; try with_reducible rfl)
      try simp only [Act.put, List.setIfInBounds_toArray, List.set_cons_zero, List.set_cons_succ]
      refine wpAnyH_take (i := 25) (oi := { dst := some 42, op := Go.Op.pick (Go.Operand.tmp 35) (Go.Operand.tmp 41) (Go.Operand.const (Go.Value.bool false)), type := 4, pos := _, after := #[{ on := 18, ground := Go.Ground.data }, { on := 24, ground := Go.Ground.data }], guard := none }) (v := ?_) rfl (by kernel_rfl) (by kernel_rfl) (by kernel_rfl) (fun _ _ _ h => h) (Or.inl ⟨by rfl, ?_⟩) S12.out ?_
      rotate_left
      · intro W hW; (go_simp; try with_reducible rfl)
      try simp only [Act.put, List.setIfInBounds_toArray, List.set_cons_zero, List.set_cons_succ]
      refine wpAnyH_take (i := 26) (oi := { dst := some 43, op := Go.Op.move (Go.Operand.tmp 42), type := 4, pos := _, after := #[{ on := 25, ground := Go.Ground.data }, { on := 23, ground := Go.Ground.chain }], guard := none }) (v := ?_) rfl (by kernel_rfl) (by kernel_rfl) (by kernel_rfl) (fun _ _ _ h => h) (Or.inl ⟨by rfl, ?_⟩) S12.out ?_
      rotate_left
      · intro W hW; (go_simp; try with_reducible rfl)
      try simp only [Act.put, List.setIfInBounds_toArray, List.set_cons_zero, List.set_cons_succ]
      refine wpAnyH_take (i := 27) (oi := { dst := some 44, op := Go.Op.load 26 (Go.Operand.tmp 3), type := 26, pos := _, after := #[{ on := 26, ground := Go.Ground.guard }], guard := some (26, true) }) (v := .agg (sc f (.slice A c.length cp)).toArray) rfl (by kernel_rfl) (by kernel_rfl) (by kernel_rfl) (fun _ _ _ h => h) (yieldsIf_load_mid (by rfl) 26 (.tmp 3) rfl g0 0 rfl (sc f (.slice A c.length cp)) _ (fun W hW => (G1.out.below hW).range) Try.underlying26 rfl (t26.size HF.out.len)) S12.out ?_
      try simp only [Act.put, List.setIfInBounds_toArray, List.set_cons_zero, List.set_cons_succ]
      refine wpAnyH_take (i := 29) (oi := { dst := some 46, op := Go.Op.move (Go.Operand.tmp 2), type := 27, pos := _, after := #[{ on := 26, ground := Go.Ground.guard }], guard := some (26, true) }) (v := ?_) rfl (by kernel_rfl) (by kernel_rfl) (by kernel_rfl) (fun _ _ _ h => h) (Or.inl ⟨by rfl, ?_⟩) S12.out ?_
      rotate_left
      · intro W hW; (go_simp; try with_reducible rfl)
      try simp only [Act.put, List.setIfInBounds_toArray, List.set_cons_zero, List.set_cons_succ]
      refine wpAnyH_take (i := 31) (oi := { dst := some 48, op := Go.Op.load 26 (Go.Operand.tmp 3), type := 26, pos := _, after := #[{ on := 26, ground := Go.Ground.guard }], guard := some (26, true) }) (v := .agg (sc f (.slice A c.length cp)).toArray) rfl (by kernel_rfl) (by kernel_rfl) (by kernel_rfl) (fun _ _ _ h => h) (yieldsIf_load_mid (by rfl) 26 (.tmp 3) rfl g0 0 rfl (sc f (.slice A c.length cp)) _ (fun W hW => (G1.out.below hW).range) Try.underlying26 rfl (t26.size HF.out.len)) S12.out ?_
      try simp only [Act.put, List.setIfInBounds_toArray, List.set_cons_zero, List.set_cons_succ]
      refine wpAnyH_take (i := 32) (oi := { dst := some 49, op := Go.Op.move (Go.Operand.tmp 2), type := 27, pos := _, after := #[{ on := 26, ground := Go.Ground.guard }], guard := some (26, true) }) (v := ?_) rfl (by kernel_rfl) (by kernel_rfl) (by kernel_rfl) (fun _ _ _ h => h) (Or.inl ⟨by rfl, ?_⟩) S12.out ?_
      rotate_left
      · intro W hW; (go_simp; try with_reducible rfl)
      try simp only [Act.put, List.setIfInBounds_toArray, List.set_cons_zero, List.set_cons_succ]
      refine wpAnyH_ready (rs := [28]) (by kernel_rfl) (by simp) ?_
      refine AllReadyH.cons (o := { dst := some 45, op := Go.Op.call { callee := Go.Callee.value (Go.Operand.func 12), args := #[Go.Operand.tmp 44], argTypes := #[26] }, type := 33, pos := _, after := #[{ on := 27, ground := Go.Ground.data }, { on := 26, ground := Go.Ground.chain }, { on := 26, ground := Go.Ground.guard }], guard := some (26, true) }) rfl (fun K hK => ?_) AllReadyH.nil
      go_simp
      refine (to_is f A c.length cp _ HF.out.len).mono ?_
      rintro e w13 ⟨rfl, b13⟩
      have S13 := Lib.hid (step_ S12.out b13)
      have W13 := Lib.hid (step_ W12.out b13)
      clear b13
      go_wp2_with fail
      refine hK.out _ _ S13.out (fun _ => ?_)
      clear hK K
      try simp only [Act.put, List.setIfInBounds_toArray, List.set_cons_zero, List.set_cons_succ]
      refine wpAnyH_ready (rs := [30]) (by kernel_rfl) (by simp) ?_
      refine AllReadyH.cons (o := { dst := some 47, op := Go.Op.call { callee := Go.Callee.value (Go.Operand.func 15), args := #[Go.Operand.tmp 45, Go.Operand.tmp 46], argTypes := #[33, 27] }, type := 4, pos := _, after := #[{ on := 28, ground := Go.Ground.data }, { on := 29, ground := Go.Ground.data }, { on := 28, ground := Go.Ground.chain }, { on := 26, ground := Go.Ground.guard }], guard := some (26, true) }) rfl (fun K hK => ?_) AllReadyH.nil
      go_simp
      refine (has_is f c A cp d r2 _ HF.out (H1.out.below W13.out) (by omega) HD.out HR2).mono ?_
      rintro e w14 ⟨rfl, b14⟩
      have S14 := Lib.hid (step_ S13.out b14)
      have W14 := Lib.hid (step_ W13.out b14)
      clear b14
      go_wp2_with fail
      refine hK.out _ _ S14.out (fun _ => ?_)
      clear hK K
      try simp only [Act.put, List.setIfInBounds_toArray, List.set_cons_zero, List.set_cons_succ]
      refine wpAnyH_ready (rs := [33]) (by kernel_rfl) (by simp) ?_
      refine AllReadyH.cons (o := { dst := some 50, op := Go.Op.call { callee := Go.Callee.value (Go.Operand.func 16), args := #[Go.Operand.tmp 48, Go.Operand.tmp 49], argTypes := #[26, 27] }, type := 4, pos := _, after := #[{ on := 31, ground := Go.Ground.data }, { on := 32, ground := Go.Ground.data }, { on := 30, ground := Go.Ground.chain }, { on := 26, ground := Go.Ground.guard }], guard := some (26, true) }) rfl (fun K hK => ?_) AllReadyH.nil
      go_simp
      refine (rhas_is f c A cp d r2 _ HF.out (H1.out.below W14.out) (by omega) HD.out HR2).mono ?_
      rintro e w15 ⟨rfl, b15⟩
      have S15 := Lib.hid (step_ S14.out b15)
      have W15 := Lib.hid (step_ W14.out b15)
      clear b15
      go_wp2_with fail
      refine hK.out _ _ S15.out (fun _ => ?_)
      clear hK K
      try simp only [Act.put, List.setIfInBounds_toArray, List.set_cons_zero, List.set_cons_succ]
      refine wpAnyH_take (i := 34) (oi := { dst := some 51, op := Go.Op.binOp Go.BinOp.eql 4 (Go.Operand.tmp 47) (Go.Operand.tmp 50) 4, type := 4, pos := _, after := #[{ on := 30, ground := Go.Ground.data }, { on := 33, ground := Go.Ground.data }, { on := 26, ground := Go.Ground.guard }], guard := some (26, true) }) (v := ?_) rfl (by kernel_rfl) (by kernel_rfl) (by kernel_rfl) (fun _ _ _ h => h) (Or.inl ⟨by rfl, ?_⟩) S15.out ?_
      rotate_left
      · intro W hW; (go_simp; try with_reducible rfl)
      try simp only [Act.put, List.setIfInBounds_toArray, List.set_cons_zero, List.set_cons_succ]
      refine wpAnyH_take (i := 35) (oi := { dst := some 52, op := Go.Op.pick (Go.Operand.tmp 43) (Go.Operand.tmp 51) (Go.Operand.const (Go.Value.bool false)), type := 4, pos := _, after := #[{ on := 26, ground := Go.Ground.data }, { on := 34, ground := Go.Ground.data }], guard := none }) (v := ?_) rfl (by kernel_rfl) (by kernel_rfl) (by kernel_rfl) (fun _ _ _ h => h) (Or.inl ⟨by rfl, ?_⟩) S15.out ?_
      rotate_left
      · intro W hW; (go_simp; try with_reducible rfl)
      try simp only [Act.put, List.setIfInBounds_toArray, List.set_cons_zero, List.set_cons_succ]
      refine wpAnyH_take (i := 36) (oi := { dst := some 53, op := Go.Op.move (Go.Operand.tmp 52), type := 4, pos := _, after := #[{ on := 35, ground := Go.Ground.data }, { on := 33, ground := Go.Ground.chain }], guard := none }) (v := ?_) rfl (by kernel_rfl) (by kernel_rfl) (by kernel_rfl) (fun _ _ _ h => h) (Or.inl ⟨by rfl, ?_⟩) S15.out ?_
      rotate_left
      · intro W hW; (go_simp; try with_reducible rfl)
      try simp only [Act.put, List.setIfInBounds_toArray, List.set_cons_zero, List.set_cons_succ]
      refine wpAnyH_take (i := 37) (oi := { dst := some 54, op := Go.Op.load 26 (Go.Operand.tmp 3), type := 26, pos := _, after := #[{ on := 36, ground := Go.Ground.guard }], guard := some (36, true) }) (v := .agg (sc f (.slice A c.length cp)).toArray) rfl (by kernel_rfl) (by kernel_rfl) (by kernel_rfl) (fun _ _ _ h => h) (yieldsIf_load_mid (by rfl) 26 (.tmp 3) rfl g0 0 rfl (sc f (.slice A c.length cp)) _ (fun W hW => (G1.out.below hW).range) Try.underlying26 rfl (t26.size HF.out.len)) S15.out ?_
      try simp only [Act.put, List.setIfInBounds_toArray, List.set_cons_zero, List.set_cons_succ]
      refine wpAnyH_take (i := 40) (oi := { dst := some 57, op := Go.Op.load 26 (Go.Operand.tmp 3), type := 26, pos := _, after := #[{ on := 36, ground := Go.Ground.guard }], guard := some (36, true) }) (v := .agg (sc f (.slice A c.length cp)).toArray) rfl (by kernel_rfl) (by kernel_rfl) (by kernel_rfl) (fun _ _ _ h => h) (yieldsIf_load_mid (by rfl) 26 (.tmp 3) rfl g0 0 rfl (sc f (.slice A c.length cp)) _ (fun W hW => (G1.out.below hW).range) Try.underlying26 rfl (t26.size HF.out.len)) S15.out ?_
      try simp only [Act.put, List.setIfInBounds_toArray, List.set_cons_zero, List.set_cons_succ]
      refine wpAnyH_ready (rs := [38]) (by kernel_rfl) (by simp) ?_
      refine AllReadyH.cons (o := { dst := some 55, op := Go.Op.call { callee := Go.Callee.value (Go.Operand.func 12), args := #[Go.Operand.tmp 54], argTypes := #[26] }, type := 33, pos := _, after := #[{ on := 37, ground := Go.Ground.data }, { on := 36, ground := Go.Ground.chain }, { on := 36, ground := Go.Ground.guard }], guard := some (36, true) }) rfl (fun K hK => ?_) AllReadyH.nil
      go_simp
      refine (to_is f A c.length cp _ HF.out.len).mono ?_
      rintro e w16 ⟨rfl, b16⟩
      have S16 := Lib.hid (step_ S15.out b16)
      have W16 := Lib.hid (step_ W15.out b16)
      clear b16
      go_wp2_with fail
      refine hK.out _ _ S16.out (fun _ => ?_)
      clear hK K
      try simp only [Act.put, List.setIfInBounds_toArray, List.set_cons_zero, List.set_cons_succ]
      refine wpAnyH_ready (rs := [39]) (by kernel_rfl) (by simp) ?_
      refine AllReadyH.cons (o := { dst := some 56, op := Go.Op.call { callee := Go.Callee.value (Go.Operand.func 17), args := #[Go.Operand.tmp 55], argTypes := #[33] }, type := 27, pos := _, after := #[{ on := 38, ground := Go.Ground.data }, { on := 38, ground := Go.Ground.chain }, { on := 36, ground := Go.Ground.guard }], guard := some (36, true) }) rfl (fun K hK => ?_) AllReadyH.nil
      go_simp
      refine (count_is f c A cp n3 _ HF.out (H1.out.below W16.out) (by omega) HN3).mono ?_
      rintro e w17 ⟨rfl, b17⟩
      have S17 := Lib.hid (step_ S16.out b17)
      have W17 := Lib.hid (step_ W16.out b17)
      clear b17
      go_wp2_with fail
      refine hK.out _ _ S17.out (fun _ => ?_)
      clear hK K
      try simp only [Act.put, List.setIfInBounds_toArray, List.set_cons_zero, List.set_cons_succ]
      refine wpAnyH_ready (rs := [41]) (by kernel_rfl) (by simp) ?_
      refine AllReadyH.cons (o := { dst := some 58, op := Go.Op.call { callee := Go.Callee.value (Go.Operand.func 18), args := #[Go.Operand.tmp 57], argTypes := #[26] }, type := 27, pos := _, after := #[{ on := 40, ground := Go.Ground.data }, { on := 39, ground := Go.Ground.chain }, { on := 36, ground := Go.Ground.guard }], guard := some (36, true) }) rfl (fun K hK => ?_) AllReadyH.nil
      go_simp
      refine (rcount_is f c A cp n3 _ HF.out (H1.out.below W17.out) (by omega) HN3).mono ?_
      rintro e w18 ⟨rfl, b18⟩
      have S18 := Lib.hid (step_ S17.out b18)
      have W18 := Lib.hid (step_ W17.out b18)
      clear b18
      go_wp2_with fail
      refine hK.out _ _ S18.out (fun _ => ?_)
      clear hK K
      try simp only [Act.put, List.setIfInBounds_toArray, List.set_cons_zero, List.set_cons_succ]
      refine wpAnyH_take (i := 42) (oi := { dst := some 59, op := Go.Op.binOp Go.BinOp.eql 27 (Go.Operand.tmp 56) (Go.Operand.tmp 58) 27, type := 4, pos := _, after := #[{ on := 39, ground := Go.Ground.data }, { on := 41, ground := Go.Ground.data }, { on := 36, ground := Go.Ground.guard }], guard := some (36, true) }) (v := ?_) rfl (by kernel_rfl) (by kernel_rfl) (by kernel_rfl) (fun _ _ _ h => h) (Or.inl ⟨by rfl, ?_⟩) S18.out ?_
      rotate_left
      · intro W hW; (go_simp; try with_reducible rfl)
      try simp only [Act.put, List.setIfInBounds_toArray, List.set_cons_zero, List.set_cons_succ]
      refine wpAnyH_take (i := 43) (oi := { dst := some 60, op := Go.Op.pick (Go.Operand.tmp 53) (Go.Operand.tmp 59) (Go.Operand.const (Go.Value.bool false)), type := 4, pos := _, after := #[{ on := 36, ground := Go.Ground.data }, { on := 42, ground := Go.Ground.data }], guard := none }) (v := ?_) rfl (by kernel_rfl) (by kernel_rfl) (by kernel_rfl) (fun _ _ _ h => h) (Or.inl ⟨by rfl, ?_⟩) S18.out ?_
      rotate_left
      · intro W hW; (go_simp; try with_reducible rfl)
      try simp only [Act.put, List.setIfInBounds_toArray, List.set_cons_zero, List.set_cons_succ]
      refine wpAnyH_take (i := 44) (oi := { dst := some 61, op := Go.Op.move (Go.Operand.tmp 60), type := 4, pos := _, after := #[{ on := 43, ground := Go.Ground.data }, { on := 41, ground := Go.Ground.chain }], guard := none }) (v := ?_) rfl (by kernel_rfl) (by kernel_rfl) (by kernel_rfl) (fun _ _ _ h => h) (Or.inl ⟨by rfl, ?_⟩) S18.out ?_
      rotate_left
      · intro W hW; (go_simp; try with_reducible rfl)
      try simp only [Act.put, List.setIfInBounds_toArray, List.set_cons_zero, List.set_cons_succ]
      refine wpAnyH_ready (rs := [45]) (by kernel_rfl) (by simp) ?_
      refine AllReadyH.cons (o := { dst := some 62, op := Go.Op.call { callee := Go.Callee.value (Go.Operand.func 6), args := #[], argTypes := #[] }, type := 4, pos := _, after := #[{ on := 44, ground := Go.Ground.chain }, { on := 44, ground := Go.Ground.guard }], guard := some (44, true) }) rfl (fun K hK => ?_) AllReadyH.nil
      go_simp
      refine (aliveD_is _).mono ?_
      rintro e w19 ⟨rfl, b19⟩
      have S19 := Lib.hid (step_ S18.out b19)
      have W19 := Lib.hid (step_ W18.out b19)
      clear b19
      go_wp2_with fail
      refine hK.out _ _ S19.out (fun _ => ?_)
      clear hK K
      try simp only [Act.put, List.setIfInBounds_toArray, List.set_cons_zero, List.set_cons_succ]
      refine wpAnyH_take (i := 46) (oi := { dst := some 63, op := Go.Op.pick (Go.Operand.tmp 61) (Go.Operand.tmp 62) (Go.Operand.const (Go.Value.bool false)), type := 4, pos := _, after := #[{ on := 44, ground := Go.Ground.data }, { on := 45, ground := Go.Ground.data }], guard := none }) (v := ?_) rfl (by kernel_rfl) (by kernel_rfl) (by kernel_rfl) (fun _ _ _ h => h) (Or.inl ⟨by rfl, ?_⟩) S19.out ?_
      rotate_left
      · intro W hW; (go_simp; try with_reducible rfl)
      try simp only [Act.put, List.setIfInBounds_toArray, List.set_cons_zero, List.set_cons_succ]
      refine wpAnyH_take (i := 47) (oi := { dst := some 6, op := Go.Op.assign (Go.Operand.tmp 63), type := 4, pos := _, after := #[{ on := 46, ground := Go.Ground.data }, { on := 45, ground := Go.Ground.chain }, { on := 0, ground := Go.Ground.phase }, { on := 1, ground := Go.Ground.phase }, { on := 2, ground := Go.Ground.phase }, { on := 3, ground := Go.Ground.phase }, { on := 4, ground := Go.Ground.phase }, { on := 5, ground := Go.Ground.phase }, { on := 6, ground := Go.Ground.phase }, { on := 7, ground := Go.Ground.phase }, { on := 8, ground := Go.Ground.phase }, { on := 9, ground := Go.Ground.phase }, { on := 10, ground := Go.Ground.phase }, { on := 11, ground := Go.Ground.phase }, { on := 12, ground := Go.Ground.phase }, { on := 13, ground := Go.Ground.phase }, { on := 14, ground := Go.Ground.phase }, { on := 15, ground := Go.Ground.phase }, { on := 16, ground := Go.Ground.phase }, { on := 17, ground := Go.Ground.phase }, { on := 18, ground := Go.Ground.phase }, { on := 19, ground := Go.Ground.phase }, { on := 20, ground := Go.Ground.phase }, { on := 21, ground := Go.Ground.phase }, { on := 22, ground := Go.Ground.phase }, { on := 23, ground := Go.Ground.phase }, { on := 24, ground := Go.Ground.phase }, { on := 25, ground := Go.Ground.phase }, { on := 26, ground := Go.Ground.phase }, { on := 27, ground := Go.Ground.phase }, { on := 28, ground := Go.Ground.phase }, { on := 29, ground := Go.Ground.phase }, { on := 30, ground := Go.Ground.phase }, { on := 31, ground := Go.Ground.phase }, { on := 32, ground := Go.Ground.phase }, { on := 33, ground := Go.Ground.phase }, { on := 34, ground := Go.Ground.phase }, { on := 35, ground := Go.Ground.phase }, { on := 36, ground := Go.Ground.phase }, { on := 37, ground := Go.Ground.phase }, { on := 38, ground := Go.Ground.phase }, { on := 39, ground := Go.Ground.phase }, { on := 40, ground := Go.Ground.phase }, { on := 41, ground := Go.Ground.phase }, { on := 42, ground := Go.Ground.phase }, { on := 43, ground := Go.Ground.phase }, { on := 44, ground := Go.Ground.phase }, { on := 45, ground := Go.Ground.phase }, { on := 46, ground := Go.Ground.phase }], guard := none }) (v := ?_) rfl (by kernel_rfl) (by kernel_rfl) (by kernel_rfl) (fun _ _ _ h => h) (Or.inl ⟨by rfl, ?_⟩) S19.out ?_
      rotate_left
      · intro W hW; (go_simp; try with_reducible rfl)
      try simp only [Act.put, List.setIfInBounds_toArray, List.set_cons_zero, List.set_cons_succ]
      refine wpAnyH_done (by kernel_rfl) ?_ _
      refine NoPanic.normal ?_
      go_wp2_with fail
      go_ret
      exact ⟨rfl, W19.out⟩
set_option maxRecDepth 100000 in
set_option maxHeartbeats 8000000 in
theorem dotsJoins_is (f c g e : List Int) (A A2 : Option Addr) (cp cp2 : Nat) (w : World) (hf : VOk f) (hg : VOk g) (h1 : NumsAt w (.slice A c.length cp) c) (h2 : NumsAt w (.slice A2 e.length cp2) e) :
    Calls Try.prog 4 #[.agg (sc f (.slice A c.length cp)).toArray, .agg (sc g (.slice A2 e.length cp2)).toArray] w fun e w' => e = .returned (.bool true) ∧ Below w.heap.size w w' := by
  have HF := Lib.hid hf
  have HG := Lib.hid hg
  have H1 := Lib.hid h1
  have H2 := Lib.hid h2
  clear hf hg h1 h2
  go_enter Try.func4, Try.ntmps4
  by_cases hc : 40 < c.length
  · have hc' : decide ((40 : Int) < (c.length : Int)) = true := decide_eq_true (by omega)
    go_wp2_with (first
      | go_skip
      | (have _ := K0.out; refine wpList_box_cs rfl _ rfl (sc g (.slice A2 e.length cp2)) rfl ?_; intro g1 w2 eg1 G1 b2; have G0 := Lib.hid (K0.out.below b2.out); have BB := Lib.hid (b1.out.trans (b2.out.mono b1.out.size)); have c16 := G0.out.cell (sc_cloud (.slice A c.length cp) HF.out.len); have c17 := G1.out.cell (sc_cloud (.slice A2 e.length cp2) HG.out.len))
      | (refine wpList_box_cs rfl _ rfl (sc f (.slice A c.length cp)) rfl ?_; intro g0 w1 eg0 K0 b1))
    clear c16 c17
    refine (aliveD_is w2).mono ?_
    rintro e wz ⟨rfl, bz⟩
    have WZ := Lib.hid (step_ BB.out bz)
    clear bz
    go_wp2_with fail
    go_ret
    exact ⟨rfl, WZ.out⟩
  · have hc' : decide ((40 : Int) < (c.length : Int)) = false := decide_eq_false (by omega)
    by_cases hl : 40 < e.length
    · have hl' : decide ((40 : Int) < (e.length : Int)) = true := decide_eq_true (by omega)
      go_wp2_with (first
        | go_skip
        | (have _ := K0.out; refine wpList_box_cs rfl _ rfl (sc g (.slice A2 e.length cp2)) rfl ?_; intro g1 w2 eg1 G1 b2; have G0 := Lib.hid (K0.out.below b2.out); have BB := Lib.hid (b1.out.trans (b2.out.mono b1.out.size)); have c16 := G0.out.cell (sc_cloud (.slice A c.length cp) HF.out.len); have c17 := G1.out.cell (sc_cloud (.slice A2 e.length cp2) HG.out.len))
        | (refine wpList_box_cs rfl _ rfl (sc f (.slice A c.length cp)) rfl ?_; intro g0 w1 eg0 K0 b1))
      clear c16 c17
      refine (aliveD_is w2).mono ?_
      rintro e wz ⟨rfl, bz⟩
      have WZ := Lib.hid (step_ BB.out bz)
      clear bz
      go_wp2_with fail
      go_ret
      exact ⟨rfl, WZ.out⟩
    · have hl' : decide ((40 : Int) < (e.length : Int)) = false := decide_eq_false (by omega)
      obtain ⟨pa, hpa0⟩ : ∃ p, nrm f c = p := ⟨_, rfl⟩
      obtain ⟨pb, hpb0⟩ : ∃ p, nrm g e = p := ⟨_, rfl⟩
      obtain ⟨pj, hpj0⟩ : ∃ p, nrm (vj f g) (c ++ e) = p := ⟨_, rfl⟩
      obtain ⟨ll, hll0⟩ : ∃ l, lessD f c g e = l := ⟨_, rfl⟩
      obtain ⟨r, hr⟩ : ∃ r, decide (pa = pb) = r := ⟨_, rfl⟩
      have HPA := Lib.hid hpa0
      have HPB := Lib.hid hpb0
      have HPJ := Lib.hid hpj0
      have HLL := Lib.hid hll0
      have NPA := Lib.hid (hpa0 ▸ nrm_of HF.out c)
      have NPB := Lib.hid (hpb0 ▸ nrm_of HG.out e)
      have NPJ := Lib.hid (hpj0 ▸ nrm_of (vj_ok HF.out HG.out) (c ++ e))
      have hpa : pa.2.length ≤ 5000 := by have := NPA.out.len; omega
      have hpj : pj.2.length ≤ 5000 := by have := NPJ.out.len; rw [List.length_append] at this; omega
      have hll : ll.length ≤ 5000 := by
        rw [← hll0]
        have := List.length_filter_le (fun d => !has g e d) (nrm f c).2
        have a := (nrm_of HF.out c).len
        unfold lessD; omega
      have HRS := Lib.hid (show decide (nrm f c = nrm g e) = r by rw [hpa0, hpb0]; exact hr)
      have HR := Lib.hid (show decide (pa.1 = pb.1 ∧ pa.2 = pb.2) = r by
        rw [← hr, Bool.eq_iff_iff, decide_eq_true_eq, decide_eq_true_eq]
        exact ⟨fun x => Prod.ext x.1 x.2, fun x => by rw [x]; exact ⟨rfl, rfl⟩⟩)
      have hbb : (r == r) = true := by simp
      clear hpa0 hpb0 hpj0 hll0 hr
      go_wp2_with (first
        | go_skip
        | (have _ := K0.out; refine wpList_box_cs rfl _ rfl (sc g (.slice A2 e.length cp2)) rfl ?_; intro g1 w2 eg1 G1 b2; have G0 := Lib.hid (K0.out.below b2.out); have BB := Lib.hid (b1.out.trans (b2.out.mono b1.out.size)); have c16 := G0.out.cell (sc_cloud (.slice A c.length cp) HF.out.len); have c17 := G1.out.cell (sc_cloud (.slice A2 e.length cp2) HG.out.len))
        | (refine wpList_box_cs rfl _ rfl (sc f (.slice A c.length cp)) rfl ?_; intro g0 w1 eg0 K0 b1))
      clear c16 c17
      have S0 := Lib.hid (show Below w2.heap.size w2 w2.drew from below_drew (Below.refl _ _))
      have W0 := Lib.hid (step_ BB.out S0.out)
      refine wp_region_noPanic ?_
      refine wp_region_held_drew (S := fun W => Below w2.heap.size w2 W) (by kernel_rfl) S0.out (fun _ => ?_)
      refine wpAnyH_take (i := 0) (oi := { dst := some 17, op := Go.Op.load 26 (Go.Operand.tmp 2), type := 26, pos := _, after := #[], guard := none }) (v := .agg (sc f (.slice A c.length cp)).toArray) rfl (by kernel_rfl) (by kernel_rfl) (by kernel_rfl) (fun _ _ _ h => h) (yieldsIf_load_mid (by rfl) 26 (.tmp 2) rfl g0 0 rfl (sc f (.slice A c.length cp)) _ (fun W hW => (G0.out.below hW).range) Try.underlying26 rfl (t26.size HF.out.len)) S0.out ?_
      try simp only [Act.put, List.setIfInBounds_toArray, List.set_cons_zero, List.set_cons_succ]
      refine wpAnyH_take (i := 2) (oi := { dst := some 19, op := Go.Op.load 26 (Go.Operand.tmp 3), type := 26, pos := _, after := #[], guard := none }) (v := .agg (sc g (.slice A2 e.length cp2)).toArray) rfl (by kernel_rfl) (by kernel_rfl) (by kernel_rfl) (fun _ _ _ h => h) (yieldsIf_load_mid (by rfl) 26 (.tmp 3) rfl g1 0 rfl (sc g (.slice A2 e.length cp2)) _ (fun W hW => (G1.out.below hW).range) Try.underlying26 rfl (t26.size HG.out.len)) S0.out ?_
      try simp only [Act.put, List.setIfInBounds_toArray, List.set_cons_zero, List.set_cons_succ]
      refine wpAnyH_ready (rs := [1]) (by kernel_rfl) (by simp) ?_
      refine AllReadyH.cons (o := { dst := some 18, op := Go.Op.call { callee := Go.Callee.value (Go.Operand.func 10), args := #[Go.Operand.tmp 17, Go.Operand.const (Go.Value.slice none 0 0)], argTypes := #[26, 24] }, type := 26, pos := _, after := #[{ on := 0, ground := Go.Ground.data }], guard := none }) rfl (fun K hK => ?_) AllReadyH.nil
      go_simp
      refine (radd0_is f c A cp _ HF.out (H1.out.below W0.out) (by omega) pa HPA).mono ?_
      rintro e w1 ⟨Ax1, cx1, rfl, v1, b1⟩
      have S1 := Lib.hid (step_ S0.out b1)
      have W1 := Lib.hid (step_ W0.out b1)
      have Vpa_1 := Lib.hid v1
      clear v1
      clear b1
      go_wp2_with fail
      refine hK.out _ _ S1.out (fun _ => ?_)
      clear hK K
      try simp only [Act.put, List.setIfInBounds_toArray, List.set_cons_zero, List.set_cons_succ]
      refine wpAnyH_ready (rs := [3]) (by kernel_rfl) (by simp) ?_
      refine AllReadyH.cons (o := { dst := some 20, op := Go.Op.call { callee := Go.Callee.value (Go.Operand.func 10), args := #[Go.Operand.tmp 19, Go.Operand.const (Go.Value.slice none 0 0)], argTypes := #[26, 24] }, type := 26, pos := _, after := #[{ on := 2, ground := Go.Ground.data }, { on := 1, ground := Go.Ground.chain }], guard := none }) rfl (fun K hK => ?_) AllReadyH.nil
      go_simp
      refine (radd0_is g e A2 cp2 _ HG.out (H2.out.below W1.out) (by omega) pb HPB).mono ?_
      rintro e w2 ⟨Ax2, cx2, rfl, v2, b2⟩
      have S2 := Lib.hid (step_ S1.out b2)
      have W2 := Lib.hid (step_ W1.out b2)
      have Vpa_2 := Lib.hid (Vpa_1.out.below b2)
      have Vpb_2 := Lib.hid v2
      clear v2
      clear b2
      go_wp2_with fail
      refine hK.out _ _ S2.out (fun _ => ?_)
      clear hK K
      try simp only [Act.put, List.setIfInBounds_toArray, List.set_cons_zero, List.set_cons_succ]
      refine wpAnyH_ready (rs := [4]) (by kernel_rfl) (by simp) ?_
      refine AllReadyH.cons (o := { dst := some 21, op := Go.Op.call { callee := Go.Callee.value (Go.Operand.func 7), args := #[Go.Operand.tmp 18, Go.Operand.tmp 20], argTypes := #[26, 26] }, type := 4, pos := _, after := #[{ on := 1, ground := Go.Ground.data }, { on := 3, ground := Go.Ground.data }, { on := 3, ground := Go.Ground.chain }], guard := none }) rfl (fun K hK => ?_) AllReadyH.nil
      go_simp
      refine (rsame_is pa.1 pa.2 pb.1 pb.2 Ax1 Ax2 cx1 cx2 r _ NPA.out.v NPB.out.v Vpa_2.out Vpb_2.out hpa HR).mono ?_
      rintro e w3 ⟨rfl, b3⟩
      have S3 := Lib.hid (step_ S2.out b3)
      have W3 := Lib.hid (step_ W2.out b3)
      clear b3
      go_wp2_with fail
      refine hK.out _ _ S3.out (fun _ => ?_)
      clear hK K
      try simp only [Act.put, List.setIfInBounds_toArray, List.set_cons_zero, List.set_cons_succ]
      refine wpAnyH_take (i := 5) (oi := { dst := some 5, op := Go.Op.assign (Go.Operand.tmp 21), type := 4, pos := _, after := #[{ on := 4, ground := Go.Ground.data }, { on := 4, ground := Go.Ground.chain }, { on := 0, ground := Go.Ground.phase }, { on := 1, ground := Go.Ground.phase }, { on := 2, ground := Go.Ground.phase }, { on := 3, ground := Go.Ground.phase }, { on := 4, ground := Go.Ground.phase }], guard := none }) (v := ?_) rfl (by kernel_rfl) (by kernel_rfl) (by kernel_rfl) (fun _ _ _ h => h) (Or.inl ⟨by rfl, ?_⟩) S3.out ?_
      rotate_left
      · intro W hW; (go_simp; try with_reducible rfl)
      try simp only [Act.put, List.setIfInBounds_toArray, List.set_cons_zero, List.set_cons_succ]
      refine wpAnyH_done (by kernel_rfl) ?_ _
      refine NoPanic.normal ?_
      go_wp2_with fail
      have G0b := Lib.hid (G0.out.below S3.out)
      have G1b := Lib.hid (G1.out.below S3.out)
      have SA := Lib.hid (show Below w3.heap.size w3 w3.drew from below_drew (Below.refl _ _))
      have WA := Lib.hid (step_ W3.out SA.out)
      refine wp_region_noPanic ?_
      refine wp_region_held_drew (S := fun W => Below w3.heap.size w3 W) (by kernel_rfl) SA.out (fun _ => ?_)
      refine wpAnyH_take (i := 0) (oi := { dst := some 22, op := Go.Op.load 26 (Go.Operand.tmp 2), type := 26, pos := _, after := #[], guard := none }) (v := .agg (sc f (.slice A c.length cp)).toArray) rfl (by kernel_rfl) (by kernel_rfl) (by kernel_rfl) (fun _ _ _ h => h) (yieldsIf_load_mid (by rfl) 26 (.tmp 2) rfl g0 0 rfl (sc f (.slice A c.length cp)) _ (fun W hW => (G0b.out.below hW).range) Try.underlying26 rfl (t26.size HF.out.len)) SA.out ?_
      try simp only [Act.put, List.setIfInBounds_toArray, List.set_cons_zero, List.set_cons_succ]
      refine wpAnyH_take (i := 2) (oi := { dst := some 24, op := Go.Op.load 26 (Go.Operand.tmp 3), type := 26, pos := _, after := #[], guard := none }) (v := .agg (sc g (.slice A2 e.length cp2)).toArray) rfl (by kernel_rfl) (by kernel_rfl) (by kernel_rfl) (fun _ _ _ h => h) (yieldsIf_load_mid (by rfl) 26 (.tmp 3) rfl g1 0 rfl (sc g (.slice A2 e.length cp2)) _ (fun W hW => (G1b.out.below hW).range) Try.underlying26 rfl (t26.size HG.out.len)) SA.out ?_
      try simp only [Act.put, List.setIfInBounds_toArray, List.set_cons_zero, List.set_cons_succ]
      refine wpAnyH_take (i := 6) (oi := { dst := some 28, op := Go.Op.load 26 (Go.Operand.tmp 2), type := 26, pos := _, after := #[], guard := none }) (v := .agg (sc f (.slice A c.length cp)).toArray) rfl (by kernel_rfl) (by kernel_rfl) (by kernel_rfl) (fun _ _ _ h => h) (yieldsIf_load_mid (by rfl) 26 (.tmp 2) rfl g0 0 rfl (sc f (.slice A c.length cp)) _ (fun W hW => (G0b.out.below hW).range) Try.underlying26 rfl (t26.size HF.out.len)) SA.out ?_
      try simp only [Act.put, List.setIfInBounds_toArray, List.set_cons_zero, List.set_cons_succ]
      refine wpAnyH_take (i := 7) (oi := { dst := some 29, op := Go.Op.load 26 (Go.Operand.tmp 3), type := 26, pos := _, after := #[], guard := none }) (v := .agg (sc g (.slice A2 e.length cp2)).toArray) rfl (by kernel_rfl) (by kernel_rfl) (by kernel_rfl) (fun _ _ _ h => h) (yieldsIf_load_mid (by rfl) 26 (.tmp 3) rfl g1 0 rfl (sc g (.slice A2 e.length cp2)) _ (fun W hW => (G1b.out.below hW).range) Try.underlying26 rfl (t26.size HG.out.len)) SA.out ?_
      try simp only [Act.put, List.setIfInBounds_toArray, List.set_cons_zero, List.set_cons_succ]
      refine wpAnyH_ready (rs := [1]) (by kernel_rfl) (by simp) ?_
      refine AllReadyH.cons (o := { dst := some 23, op := Go.Op.call { callee := Go.Callee.value (Go.Operand.func 12), args := #[Go.Operand.tmp 22], argTypes := #[26] }, type := 33, pos := _, after := #[{ on := 0, ground := Go.Ground.data }], guard := none }) rfl (fun K hK => ?_) AllReadyH.nil
      go_simp
      refine (to_is f A c.length cp _ HF.out.len).mono ?_
      rintro e w1 ⟨rfl, b1⟩
      have S1 := Lib.hid (step_ SA.out b1)
      have W1 := Lib.hid (step_ WA.out b1)
      clear b1
      go_wp2_with fail
      refine hK.out _ _ S1.out (fun _ => ?_)
      clear hK K
      try simp only [Act.put, List.setIfInBounds_toArray, List.set_cons_zero, List.set_cons_succ]
      refine wpAnyH_ready (rs := [3]) (by kernel_rfl) (by simp) ?_
      refine AllReadyH.cons (o := { dst := some 25, op := Go.Op.call { callee := Go.Callee.value (Go.Operand.func 12), args := #[Go.Operand.tmp 24], argTypes := #[26] }, type := 33, pos := _, after := #[{ on := 2, ground := Go.Ground.data }, { on := 1, ground := Go.Ground.chain }], guard := none }) rfl (fun K hK => ?_) AllReadyH.nil
      go_simp
      refine (to_is g A2 e.length cp2 _ HG.out.len).mono ?_
      rintro e w2 ⟨rfl, b2⟩
      have S2 := Lib.hid (step_ S1.out b2)
      have W2 := Lib.hid (step_ W1.out b2)
      clear b2
      go_wp2_with fail
      refine hK.out _ _ S2.out (fun _ => ?_)
      clear hK K
      try simp only [Act.put, List.setIfInBounds_toArray, List.set_cons_zero, List.set_cons_succ]
      refine wpAnyH_ready (rs := [4]) (by kernel_rfl) (by simp) ?_
      refine AllReadyH.cons (o := { dst := some 26, op := Go.Op.call { callee := Go.Callee.value (Go.Operand.func 19), args := #[Go.Operand.tmp 23, Go.Operand.tmp 25], argTypes := #[33, 33] }, type := 33, pos := _, after := #[{ on := 1, ground := Go.Ground.data }, { on := 3, ground := Go.Ground.data }, { on := 3, ground := Go.Ground.chain }], guard := none }) rfl (fun K hK => ?_) AllReadyH.nil
      go_simp
      refine (join_is f c g e A A2 cp cp2 _ HF.out HG.out (H1.out.below W2.out) (H2.out.below W2.out) (by omega) (by omega) pj HPJ).mono ?_
      rintro e w3 ⟨Ax3, cx3, rfl, v3, b3⟩
      have S3 := Lib.hid (step_ S2.out b3)
      have W3 := Lib.hid (step_ W2.out b3)
      have Vpj_3 := Lib.hid v3.at_
      clear v3
      clear b3
      go_wp2_with fail
      refine hK.out _ _ S3.out (fun _ => ?_)
      clear hK K
      try simp only [Act.put, List.setIfInBounds_toArray, List.set_cons_zero, List.set_cons_succ]
      refine wpAnyH_ready (rs := [5]) (by kernel_rfl) (by simp) ?_
      refine AllReadyH.cons (o := { dst := some 27, op := Go.Op.call { callee := Go.Callee.value (Go.Operand.func 8), args := #[Go.Operand.tmp 26], argTypes := #[33] }, type := 26, pos := _, after := #[{ on := 4, ground := Go.Ground.data }, { on := 4, ground := Go.Ground.chain }], guard := none }) rfl (fun K hK => ?_) AllReadyH.nil
      go_simp
      refine (from_is pj.1 Ax3 pj.2.length cx3 _ NPJ.out.v.len).mono ?_
      rintro e w4 ⟨rfl, b4⟩
      have S4 := Lib.hid (step_ S3.out b4)
      have W4 := Lib.hid (step_ W3.out b4)
      have Vpj_4 := Lib.hid (Vpj_3.out.below b4)
      clear b4
      go_wp2_with fail
      refine hK.out _ _ S4.out (fun _ => ?_)
      clear hK K
      try simp only [Act.put, List.setIfInBounds_toArray, List.set_cons_zero, List.set_cons_succ]
      refine wpAnyH_ready (rs := [8]) (by kernel_rfl) (by simp) ?_
      refine AllReadyH.cons (o := { dst := some 30, op := Go.Op.call { callee := Go.Callee.value (Go.Operand.func 20), args := #[Go.Operand.tmp 28, Go.Operand.tmp 29], argTypes := #[26, 26] }, type := 26, pos := _, after := #[{ on := 6, ground := Go.Ground.data }, { on := 7, ground := Go.Ground.data }, { on := 5, ground := Go.Ground.chain }], guard := none }) rfl (fun K hK => ?_) AllReadyH.nil
      go_simp
      refine (rjoin_is f c g e A A2 cp cp2 _ HF.out HG.out (H1.out.below W4.out) (H2.out.below W4.out) (by omega) (by omega) pj HPJ).mono ?_
      rintro e w5 ⟨Ax5, cx5, rfl, v5, b5⟩
      have S5 := Lib.hid (step_ S4.out b5)
      have W5 := Lib.hid (step_ W4.out b5)
      have Vpj_5 := Lib.hid (Vpj_4.out.below b5)
      have Vqj_5 := Lib.hid v5
      clear v5
      clear b5
      go_wp2_with fail
      refine hK.out _ _ S5.out (fun _ => ?_)
      clear hK K
      try simp only [Act.put, List.setIfInBounds_toArray, List.set_cons_zero, List.set_cons_succ]
      refine wpAnyH_ready (rs := [9]) (by kernel_rfl) (by simp) ?_
      refine AllReadyH.cons (o := { dst := some 31, op := Go.Op.call { callee := Go.Callee.value (Go.Operand.func 7), args := #[Go.Operand.tmp 27, Go.Operand.tmp 30], argTypes := #[26, 26] }, type := 4, pos := _, after := #[{ on := 5, ground := Go.Ground.data }, { on := 8, ground := Go.Ground.data }, { on := 8, ground := Go.Ground.chain }], guard := none }) rfl (fun K hK => ?_) AllReadyH.nil
      go_simp
      refine (rsame_is pj.1 pj.2 pj.1 pj.2 Ax3 Ax5 cx3 cx5 true _ NPJ.out.v NPJ.out.v Vpj_5.out Vqj_5.out hpj (Lib.hid (by simp))).mono ?_
      rintro e w6 ⟨rfl, b6⟩
      have S6 := Lib.hid (step_ S5.out b6)
      have W6 := Lib.hid (step_ W5.out b6)
      clear b6
      go_wp2_with fail
      refine hK.out _ _ S6.out (fun _ => ?_)
      clear hK K
      try simp only [Act.put, List.setIfInBounds_toArray, List.set_cons_zero, List.set_cons_succ]
      refine wpAnyH_take (i := 10) (oi := { dst := some 32, op := Go.Op.move (Go.Operand.tmp 31), type := 4, pos := _, after := #[{ on := 9, ground := Go.Ground.data }, { on := 9, ground := Go.Ground.chain }], guard := none }) (v := ?_) rfl (by kernel_rfl) (by kernel_rfl) (by kernel_rfl) (fun _ _ _ h => h) (Or.inl ⟨by rfl, ?_⟩) S6.out ?_
      rotate_left
      · intro W hW; (go_simp; try with_reducible rfl)
      try simp only [Act.put, List.setIfInBounds_toArray, List.set_cons_zero, List.set_cons_succ]
      refine wpAnyH_take (i := 11) (oi := { dst := some 33, op := Go.Op.load 26 (Go.Operand.tmp 2), type := 26, pos := _, after := #[{ on := 10, ground := Go.Ground.guard }], guard := some (10, true) }) (v := .agg (sc f (.slice A c.length cp)).toArray) rfl (by kernel_rfl) (by kernel_rfl) (by kernel_rfl) (fun _ _ _ h => h) (yieldsIf_load_mid (by rfl) 26 (.tmp 2) rfl g0 0 rfl (sc f (.slice A c.length cp)) _ (fun W hW => (G0b.out.below hW).range) Try.underlying26 rfl (t26.size HF.out.len)) S6.out ?_
      try simp only [Act.put, List.setIfInBounds_toArray, List.set_cons_zero, List.set_cons_succ]
      refine wpAnyH_take (i := 13) (oi := { dst := some 35, op := Go.Op.load 26 (Go.Operand.tmp 3), type := 26, pos := _, after := #[{ on := 10, ground := Go.Ground.guard }], guard := some (10, true) }) (v := .agg (sc g (.slice A2 e.length cp2)).toArray) rfl (by kernel_rfl) (by kernel_rfl) (by kernel_rfl) (fun _ _ _ h => h) (yieldsIf_load_mid (by rfl) 26 (.tmp 3) rfl g1 0 rfl (sc g (.slice A2 e.length cp2)) _ (fun W hW => (G1b.out.below hW).range) Try.underlying26 rfl (t26.size HG.out.len)) S6.out ?_
      try simp only [Act.put, List.setIfInBounds_toArray, List.set_cons_zero, List.set_cons_succ]
      refine wpAnyH_take (i := 16) (oi := { dst := some 38, op := Go.Op.load 26 (Go.Operand.tmp 2), type := 26, pos := _, after := #[{ on := 10, ground := Go.Ground.guard }], guard := some (10, true) }) (v := .agg (sc f (.slice A c.length cp)).toArray) rfl (by kernel_rfl) (by kernel_rfl) (by kernel_rfl) (fun _ _ _ h => h) (yieldsIf_load_mid (by rfl) 26 (.tmp 2) rfl g0 0 rfl (sc f (.slice A c.length cp)) _ (fun W hW => (G0b.out.below hW).range) Try.underlying26 rfl (t26.size HF.out.len)) S6.out ?_
      try simp only [Act.put, List.setIfInBounds_toArray, List.set_cons_zero, List.set_cons_succ]
      refine wpAnyH_take (i := 17) (oi := { dst := some 39, op := Go.Op.load 26 (Go.Operand.tmp 3), type := 26, pos := _, after := #[{ on := 10, ground := Go.Ground.guard }], guard := some (10, true) }) (v := .agg (sc g (.slice A2 e.length cp2)).toArray) rfl (by kernel_rfl) (by kernel_rfl) (by kernel_rfl) (fun _ _ _ h => h) (yieldsIf_load_mid (by rfl) 26 (.tmp 3) rfl g1 0 rfl (sc g (.slice A2 e.length cp2)) _ (fun W hW => (G1b.out.below hW).range) Try.underlying26 rfl (t26.size HG.out.len)) S6.out ?_
      try simp only [Act.put, List.setIfInBounds_toArray, List.set_cons_zero, List.set_cons_succ]
      refine wpAnyH_ready (rs := [12]) (by kernel_rfl) (by simp) ?_
      refine AllReadyH.cons (o := { dst := some 34, op := Go.Op.call { callee := Go.Callee.value (Go.Operand.func 12), args := #[Go.Operand.tmp 33], argTypes := #[26] }, type := 33, pos := _, after := #[{ on := 11, ground := Go.Ground.data }, { on := 10, ground := Go.Ground.chain }, { on := 10, ground := Go.Ground.guard }], guard := some (10, true) }) rfl (fun K hK => ?_) AllReadyH.nil
      go_simp
      refine (to_is f A c.length cp _ HF.out.len).mono ?_
      rintro e w7 ⟨rfl, b7⟩
      have S7 := Lib.hid (step_ S6.out b7)
      have W7 := Lib.hid (step_ W6.out b7)
      clear b7
      go_wp2_with fail
      refine hK.out _ _ S7.out (fun _ => ?_)
      clear hK K
      try simp only [Act.put, List.setIfInBounds_toArray, List.set_cons_zero, List.set_cons_succ]
      refine wpAnyH_ready (rs := [14]) (by kernel_rfl) (by simp) ?_
      refine AllReadyH.cons (o := { dst := some 36, op := Go.Op.call { callee := Go.Callee.value (Go.Operand.func 12), args := #[Go.Operand.tmp 35], argTypes := #[26] }, type := 33, pos := _, after := #[{ on := 13, ground := Go.Ground.data }, { on := 12, ground := Go.Ground.chain }, { on := 10, ground := Go.Ground.guard }], guard := some (10, true) }) rfl (fun K hK => ?_) AllReadyH.nil
      go_simp
      refine (to_is g A2 e.length cp2 _ HG.out.len).mono ?_
      rintro e w8 ⟨rfl, b8⟩
      have S8 := Lib.hid (step_ S7.out b8)
      have W8 := Lib.hid (step_ W7.out b8)
      clear b8
      go_wp2_with fail
      refine hK.out _ _ S8.out (fun _ => ?_)
      clear hK K
      try simp only [Act.put, List.setIfInBounds_toArray, List.set_cons_zero, List.set_cons_succ]
      refine wpAnyH_ready (rs := [15]) (by kernel_rfl) (by simp) ?_
      refine AllReadyH.cons (o := { dst := some 37, op := Go.Op.call { callee := Go.Callee.value (Go.Operand.func 22), args := #[Go.Operand.tmp 34, Go.Operand.tmp 36], argTypes := #[33, 33] }, type := 24, pos := _, after := #[{ on := 12, ground := Go.Ground.data }, { on := 14, ground := Go.Ground.data }, { on := 14, ground := Go.Ground.chain }, { on := 10, ground := Go.Ground.guard }], guard := some (10, true) }) rfl (fun K hK => ?_) AllReadyH.nil
      go_simp
      refine (less_is f c g e A A2 cp cp2 _ HF.out HG.out (H1.out.below W8.out) (H2.out.below W8.out) (by omega) (by omega) ll HLL).mono ?_
      rintro e w9 ⟨Ax9, cx9, rfl, v9, b9⟩
      have S9 := Lib.hid (step_ S8.out b9)
      have W9 := Lib.hid (step_ W8.out b9)
      have Vl1_9 := Lib.hid v9.at_
      clear v9
      clear b9
      go_wp2_with fail
      refine hK.out _ _ S9.out (fun _ => ?_)
      clear hK K
      try simp only [Act.put, List.setIfInBounds_toArray, List.set_cons_zero, List.set_cons_succ]
      refine wpAnyH_ready (rs := [18]) (by kernel_rfl) (by simp) ?_
      refine AllReadyH.cons (o := { dst := some 40, op := Go.Op.call { callee := Go.Callee.value (Go.Operand.func 23), args := #[Go.Operand.tmp 38, Go.Operand.tmp 39], argTypes := #[26, 26] }, type := 24, pos := _, after := #[{ on := 16, ground := Go.Ground.data }, { on := 17, ground := Go.Ground.data }, { on := 15, ground := Go.Ground.chain }, { on := 10, ground := Go.Ground.guard }], guard := some (10, true) }) rfl (fun K hK => ?_) AllReadyH.nil
      go_simp
      refine (rless_is f c g e A A2 cp cp2 _ HF.out HG.out (H1.out.below W9.out) (H2.out.below W9.out) (by omega) (by omega) ll HLL).mono ?_
      rintro e w10 ⟨Ax10, cx10, rfl, v10, b10⟩
      have S10 := Lib.hid (step_ S9.out b10)
      have W10 := Lib.hid (step_ W9.out b10)
      have Vl1_10 := Lib.hid (Vl1_9.out.below b10)
      have Vl2_10 := Lib.hid v10.at_
      clear v10
      clear b10
      go_wp2_with fail
      refine hK.out _ _ S10.out (fun _ => ?_)
      clear hK K
      try simp only [Act.put, List.setIfInBounds_toArray, List.set_cons_zero, List.set_cons_succ]
      refine wpAnyH_ready (rs := [19]) (by kernel_rfl) (by simp) ?_
      refine AllReadyH.cons (o := { dst := some 41, op := Go.Op.call { callee := Go.Callee.value (Go.Operand.func 21), args := #[Go.Operand.tmp 37, Go.Operand.tmp 40], argTypes := #[24, 24] }, type := 4, pos := _, after := #[{ on := 15, ground := Go.Ground.data }, { on := 18, ground := Go.Ground.data }, { on := 18, ground := Go.Ground.chain }, { on := 10, ground := Go.Ground.guard }], guard := some (10, true) }) rfl (fun K hK => ?_) AllReadyH.nil
      go_simp
      refine (rwords_is ll ll Ax9 Ax10 cx9 cx10 true _ Vl1_10.out Vl2_10.out hll (Lib.hid (by simp))).mono ?_
      rintro e w11 ⟨rfl, b11⟩
      have S11 := Lib.hid (step_ S10.out b11)
      have W11 := Lib.hid (step_ W10.out b11)
      clear b11
      go_wp2_with fail
      refine hK.out _ _ S11.out (fun _ => ?_)
      clear hK K
      try simp only [Act.put, List.setIfInBounds_toArray, List.set_cons_zero, List.set_cons_succ]
      refine wpAnyH_take (i := 20) (oi := { dst := some 42, op := Go.Op.pick (Go.Operand.tmp 32) (Go.Operand.tmp 41) (Go.Operand.const (Go.Value.bool false)), type := 4, pos := _, after := #[{ on := 10, ground := Go.Ground.data }, { on := 19, ground := Go.Ground.data }], guard := none }) (v := ?_) rfl (by kernel_rfl) (by kernel_rfl) (by kernel_rfl) (fun _ _ _ h => h) (Or.inl ⟨by rfl, ?_⟩) S11.out ?_
      rotate_left
      · intro W hW; (go_simp; try with_reducible rfl)
      try simp only [Act.put, List.setIfInBounds_toArray, List.set_cons_zero, List.set_cons_succ]
      refine wpAnyH_take (i := 21) (oi := { dst := some 43, op := Go.Op.move (Go.Operand.tmp 42), type := 4, pos := _, after := #[{ on := 20, ground := Go.Ground.data }, { on := 19, ground := Go.Ground.chain }], guard := none }) (v := ?_) rfl (by kernel_rfl) (by kernel_rfl) (by kernel_rfl) (fun _ _ _ h => h) (Or.inl ⟨by rfl, ?_⟩) S11.out ?_
      rotate_left
      · intro W hW; (go_simp; try with_reducible rfl)
      try simp only [Act.put, List.setIfInBounds_toArray, List.set_cons_zero, List.set_cons_succ]
      refine wpAnyH_take (i := 22) (oi := { dst := some 44, op := Go.Op.load 26 (Go.Operand.tmp 2), type := 26, pos := _, after := #[{ on := 21, ground := Go.Ground.guard }], guard := some (21, true) }) (v := .agg (sc f (.slice A c.length cp)).toArray) rfl (by kernel_rfl) (by kernel_rfl) (by kernel_rfl) (fun _ _ _ h => h) (yieldsIf_load_mid (by rfl) 26 (.tmp 2) rfl g0 0 rfl (sc f (.slice A c.length cp)) _ (fun W hW => (G0b.out.below hW).range) Try.underlying26 rfl (t26.size HF.out.len)) S11.out ?_
      try simp only [Act.put, List.setIfInBounds_toArray, List.set_cons_zero, List.set_cons_succ]
      refine wpAnyH_take (i := 24) (oi := { dst := some 46, op := Go.Op.load 26 (Go.Operand.tmp 3), type := 26, pos := _, after := #[{ on := 21, ground := Go.Ground.guard }], guard := some (21, true) }) (v := .agg (sc g (.slice A2 e.length cp2)).toArray) rfl (by kernel_rfl) (by kernel_rfl) (by kernel_rfl) (fun _ _ _ h => h) (yieldsIf_load_mid (by rfl) 26 (.tmp 3) rfl g1 0 rfl (sc g (.slice A2 e.length cp2)) _ (fun W hW => (G1b.out.below hW).range) Try.underlying26 rfl (t26.size HG.out.len)) S11.out ?_
      try simp only [Act.put, List.setIfInBounds_toArray, List.set_cons_zero, List.set_cons_succ]
      refine wpAnyH_take (i := 27) (oi := { dst := some 49, op := Go.Op.move (Go.Operand.tmp 5), type := 4, pos := _, after := #[{ on := 21, ground := Go.Ground.guard }], guard := some (21, true) }) (v := ?_) rfl (by kernel_rfl) (by kernel_rfl) (by kernel_rfl) (fun _ _ _ h => h) (Or.inl ⟨by rfl, ?_⟩) S11.out ?_
      rotate_left
      · intro W hW; (go_simp; try with_reducible rfl)
      try simp only [Act.put, List.setIfInBounds_toArray, List.set_cons_zero, List.set_cons_succ]
      refine wpAnyH_ready (rs := [23]) (by kernel_rfl) (by simp) ?_
      refine AllReadyH.cons (o := { dst := some 45, op := Go.Op.call { callee := Go.Callee.value (Go.Operand.func 12), args := #[Go.Operand.tmp 44], argTypes := #[26] }, type := 33, pos := _, after := #[{ on := 22, ground := Go.Ground.data }, { on := 21, ground := Go.Ground.chain }, { on := 21, ground := Go.Ground.guard }], guard := some (21, true) }) rfl (fun K hK => ?_) AllReadyH.nil
      go_simp
      refine (to_is f A c.length cp _ HF.out.len).mono ?_
      rintro e w12 ⟨rfl, b12⟩
      have S12 := Lib.hid (step_ S11.out b12)
      have W12 := Lib.hid (step_ W11.out b12)
      clear b12
      go_wp2_with fail
      refine hK.out _ _ S12.out (fun _ => ?_)
      clear hK K
      try simp only [Act.put, List.setIfInBounds_toArray, List.set_cons_zero, List.set_cons_succ]
      refine wpAnyH_ready (rs := [25]) (by kernel_rfl) (by simp) ?_
      refine AllReadyH.cons (o := { dst := some 47, op := Go.Op.call { callee := Go.Callee.value (Go.Operand.func 12), args := #[Go.Operand.tmp 46], argTypes := #[26] }, type := 33, pos := _, after := #[{ on := 24, ground := Go.Ground.data }, { on := 23, ground := Go.Ground.chain }, { on := 21, ground := Go.Ground.guard }], guard := some (21, true) }) rfl (fun K hK => ?_) AllReadyH.nil
      go_simp
      refine (to_is g A2 e.length cp2 _ HG.out.len).mono ?_
      rintro e w13 ⟨rfl, b13⟩
      have S13 := Lib.hid (step_ S12.out b13)
      have W13 := Lib.hid (step_ W12.out b13)
      clear b13
      go_wp2_with fail
      refine hK.out _ _ S13.out (fun _ => ?_)
      clear hK K
      try simp only [Act.put, List.setIfInBounds_toArray, List.set_cons_zero, List.set_cons_succ]
      refine wpAnyH_ready (rs := [26]) (by kernel_rfl) (by simp) ?_
      refine AllReadyH.cons (o := { dst := some 48, op := Go.Op.call { callee := Go.Callee.value (Go.Operand.func 24), args := #[Go.Operand.tmp 45, Go.Operand.tmp 47], argTypes := #[33, 33] }, type := 4, pos := _, after := #[{ on := 23, ground := Go.Ground.data }, { on := 25, ground := Go.Ground.data }, { on := 25, ground := Go.Ground.chain }, { on := 21, ground := Go.Ground.guard }], guard := some (21, true) }) rfl (fun K hK => ?_) AllReadyH.nil
      go_simp
      refine (same_is f c g e A A2 cp cp2 r _ HF.out HG.out (H1.out.below W13.out) (H2.out.below W13.out) (by omega) (by omega) HRS).mono ?_
      rintro e w14 ⟨rfl, b14⟩
      have S14 := Lib.hid (step_ S13.out b14)
      have W14 := Lib.hid (step_ W13.out b14)
      clear b14
      go_wp2_with fail
      refine hK.out _ _ S14.out (fun _ => ?_)
      clear hK K
      try simp only [Act.put, List.setIfInBounds_toArray, List.set_cons_zero, List.set_cons_succ]
      refine wpAnyH_take (i := 28) (oi := { dst := some 50, op := Go.Op.binOp Go.BinOp.eql 4 (Go.Operand.tmp 48) (Go.Operand.tmp 49) 4, type := 4, pos := _, after := #[{ on := 26, ground := Go.Ground.data }, { on := 27, ground := Go.Ground.data }, { on := 21, ground := Go.Ground.guard }], guard := some (21, true) }) (v := ?_) rfl (by kernel_rfl) (by kernel_rfl) (by kernel_rfl) (fun _ _ _ h => h) (Or.inl ⟨by rfl, ?_⟩) S14.out ?_
      rotate_left
      · intro W hW; (go_simp; try with_reducible rfl)
      try simp only [Act.put, List.setIfInBounds_toArray, List.set_cons_zero, List.set_cons_succ]
      refine wpAnyH_take (i := 29) (oi := { dst := some 51, op := Go.Op.pick (Go.Operand.tmp 43) (Go.Operand.tmp 50) (Go.Operand.const (Go.Value.bool false)), type := 4, pos := _, after := #[{ on := 21, ground := Go.Ground.data }, { on := 28, ground := Go.Ground.data }], guard := none }) (v := ?_) rfl (by kernel_rfl) (by kernel_rfl) (by kernel_rfl) (fun _ _ _ h => h) (Or.inl ⟨by rfl, ?_⟩) S14.out ?_
      rotate_left
      · intro W hW; (go_simp; try with_reducible rfl)
      try simp only [Act.put, List.setIfInBounds_toArray, List.set_cons_zero, List.set_cons_succ]
      refine wpAnyH_take (i := 30) (oi := { dst := some 52, op := Go.Op.move (Go.Operand.tmp 51), type := 4, pos := _, after := #[{ on := 29, ground := Go.Ground.data }, { on := 26, ground := Go.Ground.chain }], guard := none }) (v := ?_) rfl (by kernel_rfl) (by kernel_rfl) (by kernel_rfl) (fun _ _ _ h => h) (Or.inl ⟨by rfl, ?_⟩) S14.out ?_
      rotate_left
      · intro W hW; (go_simp; try with_reducible rfl)
      try simp only [Act.put, List.setIfInBounds_toArray, List.set_cons_zero, List.set_cons_succ]
      refine wpAnyH_ready (rs := [31]) (by kernel_rfl) (by simp) ?_
      refine AllReadyH.cons (o := { dst := some 53, op := Go.Op.call { callee := Go.Callee.value (Go.Operand.func 6), args := #[], argTypes := #[] }, type := 4, pos := _, after := #[{ on := 30, ground := Go.Ground.chain }, { on := 30, ground := Go.Ground.guard }], guard := some (30, true) }) rfl (fun K hK => ?_) AllReadyH.nil
      go_simp
      refine (aliveD_is _).mono ?_
      rintro e w15 ⟨rfl, b15⟩
      have S15 := Lib.hid (step_ S14.out b15)
      have W15 := Lib.hid (step_ W14.out b15)
      clear b15
      go_wp2_with fail
      refine hK.out _ _ S15.out (fun _ => ?_)
      clear hK K
      try simp only [Act.put, List.setIfInBounds_toArray, List.set_cons_zero, List.set_cons_succ]
      refine wpAnyH_take (i := 32) (oi := { dst := some 54, op := Go.Op.pick (Go.Operand.tmp 52) (Go.Operand.tmp 53) (Go.Operand.const (Go.Value.bool false)), type := 4, pos := _, after := #[{ on := 30, ground := Go.Ground.data }, { on := 31, ground := Go.Ground.data }], guard := none }) (v := ?_) rfl (by kernel_rfl) (by kernel_rfl) (by kernel_rfl) (fun _ _ _ h => h) (Or.inl ⟨by rfl, ?_⟩) S15.out ?_
      rotate_left
      · intro W hW; (go_simp; try with_reducible rfl)
      try simp only [Act.put, List.setIfInBounds_toArray, List.set_cons_zero, List.set_cons_succ]
      refine wpAnyH_take (i := 33) (oi := { dst := some 4, op := Go.Op.assign (Go.Operand.tmp 54), type := 4, pos := _, after := #[{ on := 32, ground := Go.Ground.data }, { on := 31, ground := Go.Ground.chain }, { on := 0, ground := Go.Ground.phase }, { on := 1, ground := Go.Ground.phase }, { on := 2, ground := Go.Ground.phase }, { on := 3, ground := Go.Ground.phase }, { on := 4, ground := Go.Ground.phase }, { on := 5, ground := Go.Ground.phase }, { on := 6, ground := Go.Ground.phase }, { on := 7, ground := Go.Ground.phase }, { on := 8, ground := Go.Ground.phase }, { on := 9, ground := Go.Ground.phase }, { on := 10, ground := Go.Ground.phase }, { on := 11, ground := Go.Ground.phase }, { on := 12, ground := Go.Ground.phase }, { on := 13, ground := Go.Ground.phase }, { on := 14, ground := Go.Ground.phase }, { on := 15, ground := Go.Ground.phase }, { on := 16, ground := Go.Ground.phase }, { on := 17, ground := Go.Ground.phase }, { on := 18, ground := Go.Ground.phase }, { on := 19, ground := Go.Ground.phase }, { on := 20, ground := Go.Ground.phase }, { on := 21, ground := Go.Ground.phase }, { on := 22, ground := Go.Ground.phase }, { on := 23, ground := Go.Ground.phase }, { on := 24, ground := Go.Ground.phase }, { on := 25, ground := Go.Ground.phase }, { on := 26, ground := Go.Ground.phase }, { on := 27, ground := Go.Ground.phase }, { on := 28, ground := Go.Ground.phase }, { on := 29, ground := Go.Ground.phase }, { on := 30, ground := Go.Ground.phase }, { on := 31, ground := Go.Ground.phase }, { on := 32, ground := Go.Ground.phase }], guard := none }) (v := ?_) rfl (by kernel_rfl) (by kernel_rfl) (by kernel_rfl) (fun _ _ _ h => h) (Or.inl ⟨by rfl, ?_⟩) S15.out ?_
      rotate_left
      · intro W hW; (go_simp; try with_reducible rfl)
      try simp only [Act.put, List.setIfInBounds_toArray, List.set_cons_zero, List.set_cons_succ]
      refine wpAnyH_done (by kernel_rfl) ?_ _
      refine NoPanic.normal ?_
      go_wp2_with fail
      go_ret
      exact ⟨rfl, W15.out⟩
end Go.Proofs.Ytpgafijeecmgmaa
