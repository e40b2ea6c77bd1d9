/- The contracts of the reference's Right, Join, Count and Less. Written by wip/tools/reft2_r13.py. -/
import Derived.Test.YtpgafijeecmgmaaRefT
namespace Go.Proofs.Ytpgafijeecmgmaa
open Go.RowKit

theorem radd0_is (f c : List Int) (A : Option Addr) (cp : Nat) (w : World) (hf : VOk f) (h1 : NumsAt w (.slice A c.length cp) c) (hn1 : c.length ≤ 2000) (p : List Int × List Int) (hp : Hid (nrm f c = p)) :
    Calls Try.prog 10 #[.agg (sc f (.slice A c.length cp)).toArray, .slice none 0 0] w (GivesP w p) :=
  radd_is f c [] A none cp 0 w hf h1 (nums_at_nil w) hn1 (by simp) p (Lib.hid (by rw [List.append_nil]; exact hp.out))
set_option maxRecDepth 100000 in
set_option maxHeartbeats 2000000 in
theorem rright_is (f c : List Int) (A : Option Addr) (cp : Nat) (r : Bool) (w : World) (hf : VOk f) (h1 : NumsAt w (.slice A c.length cp) c) (hn1 : c.length ≤ 2000) (hr : Hid (rightsD f c c.length = r)) :
    Calls Try.prog 14 #[.agg (sc f (.slice A c.length cp)).toArray] w fun e w' => e = .returned (.bool r) ∧ Below w.heap.size w w' := by
  have HF := Lib.hid hf
  have H1 := Lib.hid h1
  obtain ⟨p, hp⟩ : ∃ p, nrm f c = p := ⟨_, rfl⟩
  have NP := Lib.hid (hp ▸ (nrm_of hf c).v)
  have HP := Lib.hid hp
  have HR := Lib.hid (show decide (f = p.1 ∧ c = p.2) = r by rw [← hp, ← rights_nrm hf]; exact hr.out)
  clear hf h1 hp hr
  go_enter Try.func14, Try.ntmps14
  go_wp2_with (refine wpList_box_cs rfl _ rfl (sc f (.slice A c.length cp)) rfl ?_; intro g0 w1 eg0 G1 b1)
  have S0 := Lib.hid (show Below w1.heap.size w1 w1.drew from below_drew (Below.refl _ _))
  have W0 := Lib.hid (step_ b1.out S0.out)
  try simp only [Act.put, List.setIfInBounds_toArray, List.set_cons_zero, List.set_cons_succ]
  refine wp_region_noPanic ?_
  refine wp_region_held_drew (S := fun W => Below w1.heap.size w1 W) (by kernel_rfl) S0.out (fun _ => ?_)
  refine wpAnyH_take (i := 0) (oi := { dst := some 3, op := Go.Op.load 26 (Go.Operand.tmp 1), type := 26, pos := _, after := #[], guard := none }) (v := .agg (sc f (.slice A c.length cp)).toArray) rfl (by kernel_rfl) (by kernel_rfl) (by kernel_rfl) (fun _ _ _ h => h) (yieldsIf_load_mid (by rfl) 26 (.tmp 1) rfl g0 0 rfl (sc f (.slice A c.length cp)) _ (fun W hW => (G1.out.below hW).range) Try.underlying26 rfl (t26.size HF.out.len)) S0.out ?_
  try simp only [Act.put, List.setIfInBounds_toArray, List.set_cons_zero, List.set_cons_succ]
  refine wpAnyH_take (i := 1) (oi := { dst := some 4, op := Go.Op.load 26 (Go.Operand.tmp 1), type := 26, pos := _, after := #[], guard := none }) (v := .agg (sc f (.slice A c.length cp)).toArray) rfl (by kernel_rfl) (by kernel_rfl) (by kernel_rfl) (fun _ _ _ h => h) (yieldsIf_load_mid (by rfl) 26 (.tmp 1) rfl g0 0 rfl (sc f (.slice A c.length cp)) _ (fun W hW => (G1.out.below hW).range) Try.underlying26 rfl (t26.size HF.out.len)) S0.out ?_
  try simp only [Act.put, List.setIfInBounds_toArray, List.set_cons_zero, List.set_cons_succ]
  refine wpAnyH_ready (rs := [2]) (by kernel_rfl) (by simp) ?_
  refine AllReadyH.cons (o := { dst := some 5, op := Go.Op.call { callee := Go.Callee.value (Go.Operand.func 10), args := #[Go.Operand.tmp 4, Go.Operand.const (Go.Value.slice none 0 0)], argTypes := #[26, 24] }, type := 26, pos := _, after := #[{ on := 1, ground := Go.Ground.data }], guard := none }) rfl (fun K hK => ?_) AllReadyH.nil
  go_simp
  refine (radd0_is f c A cp _ HF.out (H1.out.below W0.out) hn1 p HP).mono ?_
  rintro e w1 ⟨A2, c2, rfl, v1, b1⟩
  have S1 := Lib.hid (step_ S0.out b1)
  have W1 := Lib.hid (step_ W0.out b1)
  have V1 := Lib.hid v1
  clear v1 b1
  go_wp2_with fail
  refine hK.out _ _ S1.out (fun _ => ?_)
  clear hK K
  try simp only [Act.put, List.setIfInBounds_toArray, List.set_cons_zero, List.set_cons_succ]
  refine wpAnyH_ready (rs := [3]) (by kernel_rfl) (by simp) ?_
  refine AllReadyH.cons (o := { dst := some 6, op := Go.Op.call { callee := Go.Callee.value (Go.Operand.func 7), args := #[Go.Operand.tmp 3, Go.Operand.tmp 5], argTypes := #[26, 26] }, type := 4, pos := _, after := #[{ on := 0, ground := Go.Ground.data }, { on := 2, ground := Go.Ground.data }, { on := 2, ground := Go.Ground.chain }], guard := none }) rfl (fun K hK => ?_) AllReadyH.nil
  go_simp
  refine (rsame_is f c p.1 p.2 A A2 cp c2 r _ HF.out NP.out (H1.out.below W1.out) V1.out (by omega) HR).mono ?_
  rintro e w2 ⟨rfl, b2⟩
  have S2 := Lib.hid (step_ S1.out b2)
  have W2 := Lib.hid (step_ W1.out b2)
  clear b2
  go_wp2_with fail
  refine hK.out _ _ S2.out (fun _ => ?_)
  clear hK K
  try simp only [Act.put, List.setIfInBounds_toArray, List.set_cons_zero, List.set_cons_succ]
  refine wpAnyH_take (i := 4) (oi := { dst := some 2, op := Go.Op.assign (Go.Operand.tmp 6), type := 4, pos := _, after := #[{ on := 3, ground := Go.Ground.data }, { on := 3, ground := Go.Ground.chain }, { on := 0, ground := Go.Ground.phase }, { on := 1, ground := Go.Ground.phase }, { on := 2, ground := Go.Ground.phase }, { on := 3, ground := Go.Ground.phase }], guard := none }) (v := ?_) rfl (by kernel_rfl) (by kernel_rfl) (by kernel_rfl) (fun _ _ _ h => h) (Or.inl ⟨by rfl, ?_⟩) S2.out ?_
  rotate_left
  · intro W hW; (go_simp; try with_reducible rfl)
  try simp only [Act.put, List.setIfInBounds_toArray, List.set_cons_zero, List.set_cons_succ]
  refine wpAnyH_done (by kernel_rfl) ?_ _
  refine NoPanic.normal ?_
  go_wp2_with fail
  go_ret
  exact ⟨rfl, W2.out⟩
set_option maxRecDepth 100000 in
set_option maxHeartbeats 4000000 in
theorem rjoin_is (f c g e : List Int) (A A2 : Option Addr) (cp cp2 : Nat) (w : World) (hf : VOk f) (hg : VOk g) (h1 : NumsAt w (.slice A c.length cp) c) (h2 : NumsAt w (.slice A2 e.length cp2) e) (hn1 : c.length ≤ 2000) (hn2 : e.length ≤ 2000) (p : List Int × List Int) (hp : Hid (nrm (vj f g) (c ++ e) = p)) :
    Calls Try.prog 20 #[.agg (sc f (.slice A c.length cp)).toArray, .agg (sc g (.slice A2 e.length cp2)).toArray] w (GivesP w p) := by
  have HF := Lib.hid hf
  have HG := Lib.hid hg
  have H1 := Lib.hid h1
  have H2 := Lib.hid h2
  have NJ := Lib.hid (vj_ok hf hg)
  have NP := Lib.hid (hp.out ▸ (nrm_of NJ.out (c ++ e)).v)
  obtain ⟨p1, hp1⟩ : ∃ p, nrm (vj f g) c = p := ⟨_, rfl⟩
  have NP1 := Lib.hid (hp1 ▸ (nrm_of NJ.out c).v)
  have hp1l : p1.2.length ≤ 2000 := by have := (nrm_of NJ.out c).len; rw [hp1] at this; omega
  have HP1 := Lib.hid (show nrm (vj f g) ([] ++ c) = p1 from hp1)
  have HP2 := Lib.hid (show nrm p1.1 (p1.2 ++ e) = p by rw [← hp1, nrm_nrm NJ.out]; exact hp.out)
  clear hf hg h1 h2 hp1
  go_enter Try.func20, Try.ntmps20
  go_wp2_with (first
    | (refine wpList_alloc_s t26 rfl rfl ?_; intro gr w3 egr R3 b3)
    | (have _ := G1.out; refine wpList_box_cs rfl _ rfl (sc g (.slice A2 e.length cp2)) rfl ?_; intro g1 w2 eg1 K1 b2)
    | (refine wpList_box_cs rfl _ rfl (sc f (.slice A c.length cp)) rfl ?_; intro g0 w1 eg0 G1 b1))
  have c2 := Lib.hid (b1.out.trans (b2.out.mono b1.out.size))
  have c3 := Lib.hid (c2.out.trans (b3.out.mono c2.out.size))
  have G0 := Lib.hid ((G1.out.below b2.out).below b3.out)
  have l1 := (G1.out.below b2.out).lt
  have l2 := K1.out.lt
  have er := egr.out
  have hgr := Lib.hid (show w.heap.size ≤ gr by have := c2.out.size; omega)
  have NE0 := Lib.hid (show g0 ≠ gr by omega)
  have NE1 := Lib.hid (show g1 ≠ gr by omega)
  have D0 := Lib.hid (show Below w3.heap.size w3 w3.drew from below_drew (Below.refl _ _))
  have S0 := Lib.hid (show Only gr w3 w3.drew from Only.of_below D0.out)
  have D1 := Lib.hid (step_ c3.out D0.out)
  have RD := Lib.hid (R3.out.below D0.out)
  have K3 := Lib.hid (K1.out.below b3.out)
  clear G1 K1 b1 b2 b3 c2 c3 l1 l2 er R3
  have G1 := K3
  clear K3
  refine wp_region_noPanic ?_
  refine wp_region_held_drew (S := fun W => Only gr w3 W) (by kernel_rfl) S0.out (fun _ => ?_)
  refine wpAnyH_take (i := 0) (oi := { dst := some 5, op := Go.Op.fieldAddr 26 (Go.Operand.tmp 2) 0, type := 0, pos := _, after := #[], guard := none }) (v := ?_) rfl (by kernel_rfl) (by kernel_rfl) (by kernel_rfl) (fun _ _ _ h => h) (Or.inl ⟨by rfl, ?_⟩) S0.out ?_
  rotate_left
  · intro W hW; (go_simp; try with_reducible rfl)
  try simp only [Act.put, List.setIfInBounds_toArray, List.set_cons_zero, List.set_cons_succ]
  refine wpAnyH_take (i := 1) (oi := { dst := some 6, op := Go.Op.load 23 (Go.Operand.tmp 5), type := 23, pos := _, after := #[{ on := 0, ground := Go.Ground.data }], guard := none }) (v := .agg (vc f).toArray) rfl (by kernel_rfl) (by kernel_rfl) (by kernel_rfl) (fun _ _ _ h => h) (yieldsIf_load_mid (by rfl) 23 (.tmp 5) rfl g0 0 rfl (vc f) _ (fun W hW => range_floor (G0.out.only hW NE0.out).range) Try.underlying23 rfl (t23.size HF.out.len)) S0.out ?_
  try simp only [Act.put, List.setIfInBounds_toArray, List.set_cons_zero, List.set_cons_succ]
  refine wpAnyH_take (i := 2) (oi := { dst := some 7, op := Go.Op.fieldAddr 26 (Go.Operand.tmp 3) 0, type := 0, pos := _, after := #[], guard := none }) (v := ?_) rfl (by kernel_rfl) (by kernel_rfl) (by kernel_rfl) (fun _ _ _ h => h) (Or.inl ⟨by rfl, ?_⟩) S0.out ?_
  rotate_left
  · intro W hW; (go_simp; try with_reducible rfl)
  try simp only [Act.put, List.setIfInBounds_toArray, List.set_cons_zero, List.set_cons_succ]
  refine wpAnyH_take (i := 3) (oi := { dst := some 8, op := Go.Op.load 23 (Go.Operand.tmp 7), type := 23, pos := _, after := #[{ on := 2, ground := Go.Ground.data }], guard := none }) (v := .agg (vc g).toArray) rfl (by kernel_rfl) (by kernel_rfl) (by kernel_rfl) (fun _ _ _ h => h) (yieldsIf_load_mid (by rfl) 23 (.tmp 7) rfl g1 0 rfl (vc g) _ (fun W hW => range_floor (G1.out.only hW NE1.out).range) Try.underlying23 rfl (t23.size HG.out.len)) S0.out ?_
  try simp only [Act.put, List.setIfInBounds_toArray, List.set_cons_zero, List.set_cons_succ]
  refine wpAnyH_take (i := 6) (oi := { dst := some 11, op := Go.Op.fieldAddr 26 (Go.Operand.tmp 2) 1, type := 0, pos := _, after := #[], guard := none }) (v := ?_) rfl (by kernel_rfl) (by kernel_rfl) (by kernel_rfl) (fun _ _ _ h => h) (Or.inl ⟨by rfl, ?_⟩) S0.out ?_
  rotate_left
  · intro W hW; (go_simp; try with_reducible rfl)
  try simp only [Act.put, List.setIfInBounds_toArray, List.set_cons_zero, List.set_cons_succ]
  refine wpAnyH_take (i := 7) (oi := { dst := some 12, op := Go.Op.load 24 (Go.Operand.tmp 11), type := 24, pos := _, after := #[{ on := 6, ground := Go.Ground.data }], guard := none }) (v := ?_) rfl (by kernel_rfl) (by kernel_rfl) (by kernel_rfl) (fun _ _ _ h => h) (Or.inl ⟨by rfl, ?_⟩) S0.out ?_
  rotate_left
  · intro W hW; have c16 := (G0.out.only hW NE0.out).cell (sc_cloud (.slice A c.length cp) HF.out.len); (go_simp; try with_reducible rfl)
  try simp only [Act.put, List.setIfInBounds_toArray, List.set_cons_zero, List.set_cons_succ]
  refine wpAnyH_take (i := 9) (oi := { dst := some 14, op := Go.Op.fieldAddr 26 (Go.Operand.tmp 3) 1, type := 0, pos := _, after := #[], guard := none }) (v := ?_) rfl (by kernel_rfl) (by kernel_rfl) (by kernel_rfl) (fun _ _ _ h => h) (Or.inl ⟨by rfl, ?_⟩) S0.out ?_
  rotate_left
  · intro W hW; (go_simp; try with_reducible rfl)
  try simp only [Act.put, List.setIfInBounds_toArray, List.set_cons_zero, List.set_cons_succ]
  refine wpAnyH_take (i := 10) (oi := { dst := some 15, op := Go.Op.load 24 (Go.Operand.tmp 14), type := 24, pos := _, after := #[{ on := 9, ground := Go.Ground.data }], guard := none }) (v := ?_) rfl (by kernel_rfl) (by kernel_rfl) (by kernel_rfl) (fun _ _ _ h => h) (Or.inl ⟨by rfl, ?_⟩) S0.out ?_
  rotate_left
  · intro W hW; have c16 := (G1.out.only hW NE1.out).cell (sc_cloud (.slice A2 e.length cp2) HG.out.len); (go_simp; try with_reducible rfl)
  try simp only [Act.put, List.setIfInBounds_toArray, List.set_cons_zero, List.set_cons_succ]
  refine wpAnyH_ready (rs := [4]) (by kernel_rfl) (by simp) ?_
  refine AllReadyH.cons (o := { dst := some 9, op := Go.Op.call { callee := Go.Callee.value (Go.Operand.func 34), args := #[Go.Operand.tmp 6, Go.Operand.tmp 8], argTypes := #[23, 23] }, type := 23, pos := _, after := #[{ on := 1, ground := Go.Ground.data }, { on := 3, ground := Go.Ground.data }], guard := none }) rfl (fun K hK => ?_) AllReadyH.nil
  go_simp
  refine (refJoin_v f g _ HF.out.len HG.out.len).mono ?_
  rintro e w1 ⟨rfl, b1⟩
  have S1 := Lib.hid (S0.out.trans (Only.of_below b1))
  have W1 := Lib.hid (step_ D1.out b1)
  have R1 := Lib.hid (RD.out.below b1)
  clear b1
  go_wp2_with fail
  refine hK.out _ _ S1.out (fun _ => ?_)
  clear hK K
  try simp only [Act.put, List.setIfInBounds_toArray, List.set_cons_zero, List.set_cons_succ]
  refine wpAnyH_take (i := 5) (oi := { dst := some 10, op := Go.Op.build 26 #[(0, Go.Operand.tmp 9)], type := 26, pos := _, after := #[{ on := 4, ground := Go.Ground.data }], guard := none }) (v := .agg (sc (vj f g) (.slice none 0 0)).toArray) rfl (by kernel_rfl) (by kernel_rfl) (by kernel_rfl) (fun _ _ _ h => h) (Or.inl ⟨by rfl, fun W hW => exec_build 26 _ rfl [(0, .agg (vc (vj f g)).toArray)] rfl _ (built_s26o _ NJ.out.len)⟩) S1.out ?_
  try simp only [Act.put, List.setIfInBounds_toArray, List.set_cons_zero, List.set_cons_succ]
  refine wpAnyH_ready (rs := [8]) (by kernel_rfl) (by simp) ?_
  refine AllReadyH.cons (o := { dst := some 13, op := Go.Op.call { callee := Go.Callee.value (Go.Operand.func 10), args := #[Go.Operand.tmp 10, Go.Operand.tmp 12], argTypes := #[26, 24] }, type := 26, pos := _, after := #[{ on := 5, ground := Go.Ground.data }, { on := 7, ground := Go.Ground.data }, { on := 4, ground := Go.Ground.chain }], guard := none }) rfl (fun K hK => ?_) AllReadyH.nil
  go_simp
  refine (radd_is (vj f g) [] c none A 0 cp _ NJ.out (nums_at_nil _) (H1.out.below W1.out) (by simp) hn1 p1 HP1).mono ?_
  rintro e w2 ⟨Aq, cq, rfl, v2, b2⟩
  have S2 := Lib.hid (S1.out.trans (Only.of_below b2))
  have W2 := Lib.hid (step_ W1.out b2)
  have R2 := Lib.hid (R1.out.below b2)
  have V2 := Lib.hid v2
  clear b2 v2
  go_wp2_with fail
  refine hK.out _ _ S2.out (fun _ => ?_)
  clear hK K
  try simp only [Act.put, List.setIfInBounds_toArray, List.set_cons_zero, List.set_cons_succ]
  refine wpAnyH_ready (rs := [11]) (by kernel_rfl) (by simp) ?_
  refine AllReadyH.cons (o := { dst := some 16, op := Go.Op.call { callee := Go.Callee.value (Go.Operand.func 10), args := #[Go.Operand.tmp 13, Go.Operand.tmp 15], argTypes := #[26, 24] }, type := 26, pos := _, after := #[{ on := 8, ground := Go.Ground.data }, { on := 10, ground := Go.Ground.data }, { on := 8, ground := Go.Ground.chain }], guard := none }) rfl (fun K hK => ?_) AllReadyH.nil
  go_simp
  refine (radd_is p1.1 p1.2 e Aq A2 cq cp2 _ NP1.out V2.out (H2.out.below W2.out) hp1l hn2 p HP2).mono ?_
  rintro e w3 ⟨A3, c3, rfl, v3, b3⟩
  have S3 := Lib.hid (S2.out.trans (Only.of_below b3))
  have W3 := Lib.hid (step_ W2.out b3)
  have R3 := Lib.hid (R2.out.below b3)
  have V3 := Lib.hid v3
  clear b3 v3
  go_wp2_with fail
  refine hK.out _ _ S3.out (fun _ => ?_)
  clear hK K
  try simp only [Act.put, List.setIfInBounds_toArray, List.set_cons_zero, List.set_cons_succ]
  refine wpAnyH_ready (rs := [12]) (by kernel_rfl) (by simp) ?_
  refine ready_store_s t26 (o := { dst := none, op := Go.Op.store 26 (Go.Operand.tmp 4) (Go.Operand.tmp 16), type := 0, pos := _, after := #[{ on := 11, ground := Go.Ground.data }, { on := 11, ground := Go.Ground.chain }, { on := 0, ground := Go.Ground.phase }, { on := 1, ground := Go.Ground.phase }, { on := 2, ground := Go.Ground.phase }, { on := 3, ground := Go.Ground.phase }, { on := 4, ground := Go.Ground.phase }, { on := 5, ground := Go.Ground.phase }, { on := 6, ground := Go.Ground.phase }, { on := 7, ground := Go.Ground.phase }, { on := 8, ground := Go.Ground.phase }, { on := 9, ground := Go.Ground.phase }, { on := 10, ground := Go.Ground.phase }, { on := 11, ground := Go.Ground.phase }], guard := none }) rfl rfl (.tmp 4) (.tmp 16) rfl gr vz p.1 _ A3 p.2.length c3 rfl rfl R3.out vz_len NP.out.len (fun w9 z9 o9 => ⟨S3.out.trans o9, ?_⟩) AllReadyH.nil
  simp only [Act.put]
  refine wpAnyH_done (by kernel_rfl) ?_ _
  refine NoPanic.normal ?_
  have Z9 := Lib.hid z9
  have V9 := Lib.hid (V3.out.only_s R3.out (fun x => by intro h; cases h) o9)
  have W9 := Lib.hid (W3.out.trans (o9.below hgr.out W3.out.size))
  clear z9 o9
  go_wp2_with fail
  refine bodyPost_ret (results_s t26 rfl _ _ gr p.1 _ rfl Z9.out NP.out.len) rfl ?_
  exact ⟨A3, c3, rfl, V9.out, W9.out⟩
set_option maxRecDepth 100000 in
set_option maxHeartbeats 2000000 in
theorem rcount_is (f c : List Int) (A : Option Addr) (cp : Nat) (r : Int) (w : World) (hf : VOk f) (h1 : NumsAt w (.slice A c.length cp) c) (hn1 : c.length ≤ 2000) (hr : Hid (cntD (nrm f c) = r)) :
    Calls Try.prog 18 #[.agg (sc f (.slice A c.length cp)).toArray] w fun e w' => e = .returned (.int .u64 r) ∧ Below w.heap.size w w' := by
  have HF := Lib.hid hf
  have H1 := Lib.hid h1
  obtain ⟨p, hp⟩ : ∃ p, nrm f c = p := ⟨_, rfl⟩
  have NP := Lib.hid (hp ▸ nrm_of hf c)
  have HP := Lib.hid hp
  have hpl : p.2.length ≤ 2000 := by have := NP.out.len; omega
  rw [hp] at hr
  clear hf h1 hp
  have hwl : IntKind.u64.wrap (p.2.length : Int) = (p.2.length : Int) := by rw [IntKind.wrap_u64]; omega
  go_enter Try.func18, Try.ntmps18
  go_wp2_with (first
    | (refine wpList_box_cs rfl _ rfl (sc f (.slice A c.length cp)) rfl ?_; intro g0 w1 eg0 G1 b1)
    | refine wpList_load_s t26 rfl _ rfl g0 f _ rfl G1.out HF.out.len ?_)
  refine (radd0_is f c A cp w1 HF.out (H1.out.below b1.out) hn1 p HP).mono ?_
  rintro e w2 ⟨A', c', rfl, o2, b2⟩
  have G2 := Lib.hid (G1.out.below b2)
  have B2 := Lib.hid (step_ b1.out b2)
  have hg0 := Lib.hid (show w.heap.size ≤ g0 by have := eg0.out; omega)
  clear o2 b2 G1
  go_wp2_with (first
    | (refine wpList_store_s t26 rfl _ _ rfl g0 f p.1 _ A' p.2.length c' rfl rfl G2.out HF.out.len NP.out.v.len ?_; intro w3 G3 o3; have c16 := G3.out.cell (sc_cloud (.slice A' p.2.length c') NP.out.v.len)))
  have B3 := Lib.hid (B2.out.trans (o3.out.below hg0.out B2.out.size))
  clear c16
  go_loopw [4, 3] (fun i n wr => ∃ j : Nat, j ≤ 16 ∧ i = .int .i64 j ∧ n = .int .u64 (p.2.length + (p.1.take j).sum) ∧ wr = w3) (fun i _ _ => 16 - (intOf i).toNat)
  case atStart => exact ⟨0, by omega, rfl, by simp, rfl⟩
  case round =>
    obtain ⟨j, hj, rfl, rfl, rfl⟩ := hrel
    by_cases hlt : j < 16
    · obtain ⟨x, hx⟩ : ∃ x, p.1.getD j 0 = x := ⟨_, rfl⟩
      have hs := sum_rg NP.out.v j
      have hxr := NP.out.v.at j
      have ca := G3.out.cell (sc_floor (.slice A' p.2.length c') NP.out.v.len j hlt)
      rw [hx] at hxr ca
      have e1 : IntKind.u64.wrap x = x := by rw [IntKind.wrap_u64]; omega
      have e2 : IntKind.u64.wrap ((p.2.length : Int) + (p.1.take j).sum + x) = (p.2.length : Int) + (p.1.take (j + 1)).sum := by
        rw [sum_nx (by rw [NP.out.v.len]; exact hlt), hx, IntKind.wrap_u64]; omega
      clear hs hx
      go_wp2_with fail
      go_roundw
      case rel =>
        refine ⟨j + 1, by omega, by go_num, ?_⟩
        first | trivial | exact ⟨rfl, rfl⟩
      case measure => simp [intOf]; omega
    · obtain rfl : j = 16 := by omega
      go_wp2_with fail
      go_ret
      refine ⟨ret_int ?_, B3.out⟩
      rw [List.take_of_length_le (by rw [NP.out.v.len]; omega), ← hr.out]
      unfold cntD; omega
theorem NumsAt.upto {w w' : World} {B : Nat} {v : Value} {l : List Int} (h : NumsAt w v l) (hb : Below B w w') (hk : ∀ k, v.ownBlock = some k → k < B) : NumsAt w' v l := by
  obtain ⟨a, cap, hv, hcap, hr, hc⟩ := h
  refine ⟨a, cap, hv, hcap, hr, fun h0 => ?_⟩
  obtain ⟨G, off, ha, hG, hcell⟩ := hc h0
  have hGB : G < B := hk G (by rw [hv, ha]; rfl)
  exact ⟨G, off, ha, Nat.lt_of_lt_of_le hG hb.size, fun i hi => (hb.cell (p := ⟨G, off + i, none⟩) hGB).trans (hcell i hi)⟩
theorem NumsAt.lt {w : World} {v : Value} {l : List Int} (h : NumsAt w v l) (h0 : 0 < l.length) : ∀ k, v.ownBlock = some k → k < w.heap.size := by
  obtain ⟨a, cap, hv, hcap, hr, hc⟩ := h
  obtain ⟨G, off, ha, hG, _⟩ := hc h0
  intro k hk
  rw [hv, ha] at hk
  have : G = k := by simpa [Value.ownBlock] using hk
  omega
set_option maxRecDepth 100000 in
set_option maxHeartbeats 4000000 in
theorem rless_is (f c g e : List Int) (A A2 : Option Addr) (cp cp2 : Nat) (w : World) (hf : VOk f) (hg : VOk g) (h1 : NumsAt w (.slice A c.length cp) c) (h2 : NumsAt w (.slice A2 e.length cp2) e) (hn1 : c.length ≤ 2000) (hn2 : e.length ≤ 2000) (l : List Int) (hpe : Hid (lessD f c g e = l)) :
    Calls Try.prog 23 #[.agg (sc f (.slice A c.length cp)).toArray, .agg (sc g (.slice A2 e.length cp2)).toArray] w (GivesOwnN w l) := by
  have HF := Lib.hid hf
  have HG := Lib.hid hg
  have H1 := Lib.hid h1
  have H2 := Lib.hid h2
  obtain ⟨p, hp⟩ : ∃ p, nrm f c = p := ⟨_, rfl⟩
  have NP := Lib.hid (hp ▸ nrm_of hf c)
  have HP := Lib.hid hp
  have hpl : p.2.length ≤ 2000 := by have := NP.out.len; omega
  have hle := Lib.hid (show (p.2.filter fun d => !has g e d) = l by rw [← hpe.out, ← hp]; rfl)
  clear hf hg h1 h2 hp hpe
  go_enter Try.func23, Try.ntmps23
  go_wp2_with (first
    | (have _ := G1.out; refine wpList_box_cs rfl _ rfl (sc g (.slice A2 e.length cp2)) rfl ?_; intro g1 w2 eg1 K1 b2; have G2 := Lib.hid (G1.out.below b2.out))
    | (refine wpList_box_cs rfl _ rfl (sc f (.slice A c.length cp)) rfl ?_; intro g0 w1 eg0 G1 b1)
    | refine wpList_load_s t26 rfl _ rfl g0 f _ rfl G2.out HF.out.len ?_)
  have c2 := Lib.hid (b1.out.trans (b2.out.mono b1.out.size))
  have hg0 := Lib.hid (show w.heap.size ≤ g0 by have := eg0.out; omega)
  have hne := Lib.hid (show g1 ≠ g0 by have := G1.out.lt; have := eg1.out; omega)
  refine (radd0_is f c A cp w2 HF.out (H1.out.below c2.out) hn1 p HP).mono ?_
  rintro e' w3 ⟨A', c', rfl, v3, b3⟩
  have V3 := Lib.hid v3
  have G3 := Lib.hid (G2.out.below b3)
  have K3 := Lib.hid (K1.out.below b3)
  have B3 := Lib.hid (step_ c2.out b3)
  clear v3 b3 G1 G2 K1 b1 b2 c2
  go_wp2_with (refine wpList_store_s t26 rfl _ _ rfl g0 f p.1 _ A' p.2.length c' rfl rfl G3.out HF.out.len NP.out.v.len ?_; intro w5 G5 o5)
  have V5 := Lib.hid (V3.out.only_s G3.out (fun x => by intro h; cases h) o5.out)
  have K5 := Lib.hid (K3.out.only o5.out hne.out)
  have B5 := Lib.hid (B3.out.trans (o5.out.below hg0.out B3.out.size))
  have hg05 := Lib.hid (show g0 < w5.heap.size from G5.out.lt)
  have hg15 := Lib.hid (show g1 < w5.heap.size from K5.out.lt)
  have hw5 := Lib.hid (show w.heap.size ≤ w5.heap.size from B5.out.size)
  clear V3 G3 K3 B3 o5
  go_loopw [5, 6] (fun v i wr => ∃ (j : Nat) (u : Value), j ≤ p.2.length ∧ i = .int .i64 j ∧ (v = u ∧ OwnN wr w5.heap.size u ((p.2.take j).filter fun d => !has g e d)) ∧ Blk wr g0 26 (sc p.1 (.slice A' p.2.length c')) ∧ Blk wr g1 26 (sc g (.slice A2 e.length cp2)) ∧ NumsAt wr (.slice A' p.2.length c') p.2 ∧ Below w.heap.size w wr ∧ w5.heap.size ≤ wr.heap.size) (fun _ i _ => p.2.length - (intOf i).toNat)
  case atStart => exact ⟨0, .slice none 0 0, Nat.zero_le _, rfl, ⟨rfl, by simpa using ownN_nil w5 w5.heap.size⟩, G5.out, K5.out, V5.out, B5.out, Nat.le_refl _⟩
  case round =>
    obtain ⟨j, u, hj, rfl, ⟨rfl, ho⟩, hg', hk', hp', hb, hz⟩ := hrel
    have O0 := Lib.hid ho
    have G0 := Lib.hid hg'
    have K0 := Lib.hid hk'
    have P0 := Lib.hid hp'
    have Z0 := Lib.hid hz
    have BB := Lib.hid hb
    clear ho hg' hk' hp' hz hb
    have c16 := G0.out.cell (sc_cloud (.slice A' p.2.length c') NP.out.v.len)
    by_cases hlt : j < p.2.length
    · obtain ⟨G, pp, hE, hc, hG⟩ := P0.out.elem j hlt
      have E := Lib.hid hE
      obtain ⟨z, hz⟩ : ∃ z, p.2.getD j 0 = z := ⟨_, rfl⟩
      have HZ := Lib.hid hz
      have HX := Lib.hid (hz ▸ P0.out.nums.at_ j)
      rw [hz] at hc
      have BG := Lib.hid hG
      have CZ := Lib.hid hc
      have KV := Lib.hid (V5.out.lt (by omega))
      clear hE hz hG hc
      obtain ⟨b1, hb1⟩ : ∃ r, has g e z = r := ⟨_, rfl⟩
      have HB1 := Lib.hid hb1
      go_wp2_with fail
      clear c16
      have S0 := Lib.hid (show Below wr.heap.size wr wr.drew from below_drew (Below.refl _ _))
      have D1 := Lib.hid (step_ BB.out S0.out)
      cases b1 with
      | true =>
        refine wp_region_noPanic ?_
        refine wp_region_held_drew (S := fun W => Below wr.heap.size wr W) (by kernel_rfl) S0.out (fun _ => ?_)
        refine wpAnyH_take (i := 0) (oi := { dst := some 16, op := Go.Op.load 26 (Go.Operand.tmp 3), type := 26, pos := _, after := #[], guard := none }) (v := .agg (sc g (.slice A2 e.length cp2)).toArray) rfl (by kernel_rfl) (by kernel_rfl) (by kernel_rfl) (fun _ _ _ h => h) (yieldsIf_load_mid (by rfl) 26 (.tmp 3) rfl g1 0 rfl (sc g (.slice A2 e.length cp2)) _ (fun W hW => (K0.out.below hW).range) Try.underlying26 rfl (t26.size HG.out.len)) S0.out ?_
        try simp only [Act.put, List.setIfInBounds_toArray, List.set_cons_zero, List.set_cons_succ]
        refine wpAnyH_take (i := 1) (oi := { dst := some 17, op := Go.Op.fieldAddr 26 (Go.Operand.tmp 2) 1, type := 0, pos := _, after := #[], guard := none }) (v := ?_) rfl (by kernel_rfl) (by kernel_rfl) (by kernel_rfl) (fun _ _ _ h => h) (Or.inl ⟨by rfl, ?_⟩) S0.out ?_
        rotate_left
        · intro W hW; (go_simp; try with_reducible rfl)
        try simp only [Act.put, List.setIfInBounds_toArray, List.set_cons_zero, List.set_cons_succ]
        refine wpAnyH_take (i := 2) (oi := { dst := some 18, op := Go.Op.load 24 (Go.Operand.tmp 17), type := 24, pos := _, after := #[{ on := 1, ground := Go.Ground.data }], guard := none }) (v := ?_) rfl (by kernel_rfl) (by kernel_rfl) (by kernel_rfl) (fun _ _ _ h => h) (Or.inl ⟨by rfl, ?_⟩) S0.out ?_
        rotate_left
        · intro W hW; have q16 := (G0.out.below hW).cell (sc_cloud (.slice A' p.2.length c') NP.out.v.len); (go_simp; try with_reducible rfl)
        try simp only [Act.put, List.setIfInBounds_toArray, List.set_cons_zero, List.set_cons_succ]
        refine wpAnyH_take (i := 3) (oi := { dst := some 19, op := Go.Op.move (Go.Operand.tmp 6), type := 3, pos := _, after := #[], guard := none }) (v := ?_) rfl (by kernel_rfl) (by kernel_rfl) (by kernel_rfl) (fun _ _ _ h => h) (Or.inl ⟨by rfl, ?_⟩) S0.out ?_
        rotate_left
        · intro W hW; (go_simp; try with_reducible rfl)
        try simp only [Act.put, List.setIfInBounds_toArray, List.set_cons_zero, List.set_cons_succ]
        refine wpAnyH_take (i := 4) (oi := { dst := some 20, op := Go.Op.indexAddr 24 (Go.Operand.tmp 18) (Go.Operand.tmp 19), type := 0, pos := _, after := #[{ on := 2, ground := Go.Ground.data }, { on := 3, ground := Go.Ground.data }], guard := none }) (v := .pointer (some ⟨G, pp, none⟩)) rfl (by kernel_rfl) (by kernel_rfl) (by kernel_rfl) (fun _ _ _ h => h) (Or.inl ⟨by rfl, fun W hW => exec_indexN u24n (.tmp 18) (.tmp 19) rfl A' _ _ G pp j _ rfl rfl rfl E.out⟩) S0.out ?_
        try simp only [Act.put, List.setIfInBounds_toArray, List.set_cons_zero, List.set_cons_succ]
        refine wpAnyH_take (i := 5) (oi := { dst := some 21, op := Go.Op.load 27 (Go.Operand.tmp 20), type := 27, pos := _, after := #[{ on := 4, ground := Go.Ground.data }], guard := none }) (v := .int .u64 z) rfl (by kernel_rfl) (by kernel_rfl) (by kernel_rfl) (fun _ _ _ h => h) (Or.inl ⟨by rfl, fun W hW => exec_load_num (.tmp 20) rfl G pp z rfl ((hW.cell (p := ⟨G, pp, none⟩) BG.out).trans CZ.out)⟩) S0.out ?_
        try simp only [Act.put, List.setIfInBounds_toArray, List.set_cons_zero, List.set_cons_succ]
        refine wpAnyH_ready (rs := [6]) (by kernel_rfl) (by simp) ?_
        refine AllReadyH.cons (o := { dst := some 22, op := Go.Op.call { callee := Go.Callee.value (Go.Operand.func 16), args := #[Go.Operand.tmp 16, Go.Operand.tmp 21], argTypes := #[26, 27] }, type := 4, pos := _, after := #[{ on := 0, ground := Go.Ground.data }, { on := 5, ground := Go.Ground.data }], guard := none }) rfl (fun K hK => ?_) AllReadyH.nil
        go_simp
        refine (rhas_is g e A2 cp2 z true _ HG.out (H2.out.below D1.out) (by omega) HX.out HB1).mono ?_
        rintro e w8 ⟨rfl, b8⟩
        have S1 := Lib.hid (step_ S0.out b8)
        clear b8
        go_wp2_with fail
        refine hK.out _ _ S1.out (fun _ => ?_)
        clear hK K
        try simp only [Act.put, List.setIfInBounds_toArray, List.set_cons_zero, List.set_cons_succ]
        refine wpAnyH_take (i := 7) (oi := { dst := some 23, op := Go.Op.unOp Go.UnOp.not 4 (Go.Operand.tmp 22), type := 4, pos := _, after := #[{ on := 6, ground := Go.Ground.data }], guard := none }) (v := ?_) rfl (by kernel_rfl) (by kernel_rfl) (by kernel_rfl) (fun _ _ _ h => h) (Or.inl ⟨by rfl, ?_⟩) S1.out ?_
        rotate_left
        · intro W hW; (go_simp; try with_reducible rfl)
        try simp only [Act.put, List.setIfInBounds_toArray, List.set_cons_zero, List.set_cons_succ]
        refine wpAnyH_done (by kernel_rfl) ?_ _
        refine NoPanic.normal ?_
        go_wp2_with fail
        go_roundw
        case rel =>
          refine ⟨j + 1, _, by omega, by go_num, ⟨rfl, ?_⟩, G0.out.below S1.out, K0.out.below S1.out, P0.out.below S1.out, step_ BB.out S1.out, Nat.le_trans Z0.out S1.out.size⟩
          rw [take_nx hlt, HZ.out, List.filter_append]
          have hno : [z].filter (fun d => !has g e d) = [] := by simp [HB1.out]
          rw [hno, List.append_nil]
          exact O0.out.below S1.out
        case measure => simp [intOf]; omega
      | false =>
        refine wp_region_noPanic ?_
        refine wp_region_held_drew (S := fun W => Below wr.heap.size wr W) (by kernel_rfl) S0.out (fun _ => ?_)
        refine wpAnyH_take (i := 0) (oi := { dst := some 16, op := Go.Op.load 26 (Go.Operand.tmp 3), type := 26, pos := _, after := #[], guard := none }) (v := .agg (sc g (.slice A2 e.length cp2)).toArray) rfl (by kernel_rfl) (by kernel_rfl) (by kernel_rfl) (fun _ _ _ h => h) (yieldsIf_load_mid (by rfl) 26 (.tmp 3) rfl g1 0 rfl (sc g (.slice A2 e.length cp2)) _ (fun W hW => (K0.out.below hW).range) Try.underlying26 rfl (t26.size HG.out.len)) S0.out ?_
        try simp only [Act.put, List.setIfInBounds_toArray, List.set_cons_zero, List.set_cons_succ]
        refine wpAnyH_take (i := 1) (oi := { dst := some 17, op := Go.Op.fieldAddr 26 (Go.Operand.tmp 2) 1, type := 0, pos := _, after := #[], guard := none }) (v := ?_) rfl (by kernel_rfl) (by kernel_rfl) (by kernel_rfl) (fun _ _ _ h => h) (Or.inl ⟨by rfl, ?_⟩) S0.out ?_
        rotate_left
        · intro W hW; (go_simp; try with_reducible rfl)
        try simp only [Act.put, List.setIfInBounds_toArray, List.set_cons_zero, List.set_cons_succ]
        refine wpAnyH_take (i := 2) (oi := { dst := some 18, op := Go.Op.load 24 (Go.Operand.tmp 17), type := 24, pos := _, after := #[{ on := 1, ground := Go.Ground.data }], guard := none }) (v := ?_) rfl (by kernel_rfl) (by kernel_rfl) (by kernel_rfl) (fun _ _ _ h => h) (Or.inl ⟨by rfl, ?_⟩) S0.out ?_
        rotate_left
        · intro W hW; have q16 := (G0.out.below hW).cell (sc_cloud (.slice A' p.2.length c') NP.out.v.len); (go_simp; try with_reducible rfl)
        try simp only [Act.put, List.setIfInBounds_toArray, List.set_cons_zero, List.set_cons_succ]
        refine wpAnyH_take (i := 3) (oi := { dst := some 19, op := Go.Op.move (Go.Operand.tmp 6), type := 3, pos := _, after := #[], guard := none }) (v := ?_) rfl (by kernel_rfl) (by kernel_rfl) (by kernel_rfl) (fun _ _ _ h => h) (Or.inl ⟨by rfl, ?_⟩) S0.out ?_
        rotate_left
        · intro W hW; (go_simp; try with_reducible rfl)
        try simp only [Act.put, List.setIfInBounds_toArray, List.set_cons_zero, List.set_cons_succ]
        refine wpAnyH_take (i := 4) (oi := { dst := some 20, op := Go.Op.indexAddr 24 (Go.Operand.tmp 18) (Go.Operand.tmp 19), type := 0, pos := _, after := #[{ on := 2, ground := Go.Ground.data }, { on := 3, ground := Go.Ground.data }], guard := none }) (v := .pointer (some ⟨G, pp, none⟩)) rfl (by kernel_rfl) (by kernel_rfl) (by kernel_rfl) (fun _ _ _ h => h) (Or.inl ⟨by rfl, fun W hW => exec_indexN u24n (.tmp 18) (.tmp 19) rfl A' _ _ G pp j _ rfl rfl rfl E.out⟩) S0.out ?_
        try simp only [Act.put, List.setIfInBounds_toArray, List.set_cons_zero, List.set_cons_succ]
        refine wpAnyH_take (i := 5) (oi := { dst := some 21, op := Go.Op.load 27 (Go.Operand.tmp 20), type := 27, pos := _, after := #[{ on := 4, ground := Go.Ground.data }], guard := none }) (v := .int .u64 z) rfl (by kernel_rfl) (by kernel_rfl) (by kernel_rfl) (fun _ _ _ h => h) (Or.inl ⟨by rfl, fun W hW => exec_load_num (.tmp 20) rfl G pp z rfl ((hW.cell (p := ⟨G, pp, none⟩) BG.out).trans CZ.out)⟩) S0.out ?_
        try simp only [Act.put, List.setIfInBounds_toArray, List.set_cons_zero, List.set_cons_succ]
        refine wpAnyH_ready (rs := [6]) (by kernel_rfl) (by simp) ?_
        refine AllReadyH.cons (o := { dst := some 22, op := Go.Op.call { callee := Go.Callee.value (Go.Operand.func 16), args := #[Go.Operand.tmp 16, Go.Operand.tmp 21], argTypes := #[26, 27] }, type := 4, pos := _, after := #[{ on := 0, ground := Go.Ground.data }, { on := 5, ground := Go.Ground.data }], guard := none }) rfl (fun K hK => ?_) AllReadyH.nil
        go_simp
        refine (rhas_is g e A2 cp2 z false _ HG.out (H2.out.below D1.out) (by omega) HX.out HB1).mono ?_
        rintro e w8 ⟨rfl, b8⟩
        have S1 := Lib.hid (step_ S0.out b8)
        clear b8
        go_wp2_with fail
        refine hK.out _ _ S1.out (fun _ => ?_)
        clear hK K
        try simp only [Act.put, List.setIfInBounds_toArray, List.set_cons_zero, List.set_cons_succ]
        refine wpAnyH_take (i := 7) (oi := { dst := some 23, op := Go.Op.unOp Go.UnOp.not 4 (Go.Operand.tmp 22), type := 4, pos := _, after := #[{ on := 6, ground := Go.Ground.data }], guard := none }) (v := ?_) rfl (by kernel_rfl) (by kernel_rfl) (by kernel_rfl) (fun _ _ _ h => h) (Or.inl ⟨by rfl, ?_⟩) S1.out ?_
        rotate_left
        · intro W hW; (go_simp; try with_reducible rfl)
        try simp only [Act.put, List.setIfInBounds_toArray, List.set_cons_zero, List.set_cons_succ]
        refine wpAnyH_done (by kernel_rfl) ?_ _
        refine NoPanic.normal ?_
        obtain ⟨E0, c0, hu⟩ := O0.out.shape
        subst hu
        have c16 := (G0.out.below S1.out).cell (sc_cloud (.slice A' p.2.length c') NP.out.v.len)
        have cz := (S1.out.cell (p := ⟨G, pp, none⟩) BG.out).trans CZ.out
        go_wp2_with (first
          | refine wpList_indexN u24n rfl _ _ rfl _ _ _ G pp j _ rfl rfl rfl E.out ?_
          | (refine wpList_num1 u24n rfl _ rfl z rfl HX.out ?_; intro gn w9 egn N8 b9; have x8 := Lib.hid (step_ S1.out b9.out); clear c16 cz)
          | (refine wpList_app_n u24n rfl _ _ rfl w5.heap.size _ _ _ [z] rfl rfl (O0.out.below x8.out) N8.out (by have := List.length_filter_le (fun d => !has g e d) (p.2.take j); rw [List.length_take] at this; rw [List.length_singleton]; omega) (Nat.le_trans Z0.out x8.out.size) ?_; intro E9 k9 c9 w10 hk9 O9 b10 _))
        have x9 := Lib.hid (show w5.heap.size ≤ w10.heap.size from Nat.le_trans (Nat.le_trans Z0.out x8.out.size) b10.out.size)
        go_roundw
        case rel =>
          refine ⟨j + 1, _, by omega, by go_num, ⟨rfl, ?_⟩, (G0.out.below x8.out).upto b10.out hg05.out, (K0.out.below x8.out).upto b10.out hg15.out, (P0.out.below x8.out).upto b10.out KV.out, (step_ BB.out x8.out).trans (b10.out.mono hw5.out), x9.out⟩
          have hyes : [z].filter (fun d => !has g e d) = [z] := by simp [HB1.out]
          rw [take_nx hlt, HZ.out, List.filter_append, hyes]
          exact O9.out
        case measure => simp [intOf]; omega
    · obtain rfl : j = p.2.length := by omega
      obtain ⟨E0, c0, hu⟩ := O0.out.shape
      subst hu
      go_wp2_with fail
      go_ret
      rw [List.take_length, hle.out] at O0
      rw [List.take_length, hle.out]
      exact ⟨E0, c0, rfl, O0.out.down hw5.out, BB.out⟩
end Go.Proofs.Ytpgafijeecmgmaa
