/- The walk of the law DotsAlone. Written by wip/tools/alone_r13.py. -/
import Derived.Test.YtpgafijeecmgmaaLawD
namespace Go.Proofs.Ytpgafijeecmgmaa
open Go.RowKit

theorem vj_zz : vj vz vz = vz := by decide
theorem nrm_two (l m : List Int) : nrm (vj (nrm vz l).1 (nrm vz m).1) ((nrm vz l).2 ++ (nrm vz m).2) = nrm vz (l ++ m) := by
  have := nrm_join vz_ok vz_ok (vj_ok vz_ok vz_ok) l m (vj_ok (nrm_of vz_ok l).v (nrm_of vz_ok m).v)
  rw [vj_zz] at this; exact this
theorem has_two (l m : List Int) (d : Int) : has (nrm vz (l ++ m)).1 (nrm vz (l ++ m)).2 d = (has (nrm vz l).1 (nrm vz l).2 d || has (nrm vz m).1 (nrm vz m).2 d) := by
  rw [Bool.eq_iff_iff, Bool.or_eq_true, (nrm_of vz_ok _).is, (nrm_of vz_ok _).is, (nrm_of vz_ok _).is, has_vz, has_vz, has_vz, List.mem_append, ← and_or_left]
theorem has_own (l : List Int) (d : Int) (h : d ∈ l) : has (nrm vz l).1 (nrm vz l).2 d = may d := by
  rw [Bool.eq_iff_iff, (nrm_of vz_ok _).is, has_vz]
  exact ⟨fun x => x.1, fun x => ⟨x, h⟩⟩
theorem nrm_rev (l m : List Int) : nrm vz (m.reverse ++ l) = nrm vz (l ++ m) :=
  nrm_same vz_ok vz_ok fun d => by rw [has_vz, has_vz, List.mem_append, List.mem_append, List.mem_reverse, or_comm]
theorem rev_nx {m : List Int} {k : Nat} (h : k < m.length) : (m.drop k).reverse = (m.drop (k + 1)).reverse ++ [m.getD k 0] := by
  rw [List.drop_eq_getElem_cons h, List.reverse_cons, getD_at h]
theorem sum_vz : vz.sum = 0 := by decide
theorem NumsAt.upto0 {w w' : World} {B : Nat} {v : Value} {l : List Int} (h : NumsAt w v l) (hb : Below B w w') (hk : 0 < l.length → ∀ k, v.ownBlock = some k → k < B) : NumsAt w' v l := by
  obtain ⟨a, cap, hv, hcap, hr, hc⟩ := h
  refine ⟨a, cap, hv, hcap, hr, fun h0 => ?_⟩
  obtain ⟨G, off, ha, hG, hcell⟩ := hc h0
  have hGB : G < B := hk h0 G (by rw [hv, ha]; rfl)
  exact ⟨G, off, ha, Nat.lt_of_lt_of_le hG hb.size, fun i hi => (hb.cell (p := ⟨G, off + i, none⟩) hGB).trans (hcell i hi)⟩
section
variable {o : Oper} {a : Act} {w : World}
theorem exec_add_ll (x y : Operand) (ho : o.op = .binOp .add 3 x y 3) (i j : Nat) (hx : a.eval x = .int .i64 i) (hy : a.eval y = .int .i64 j) (hi : i ≤ 1000) (hj : j ≤ 1000) :
    (execOp a.eval o).run Try.prog w = .ok (.value (.int .i64 ((i : Int) + j))) w := by
  unfold execOp
  simp only [ho]
  rw [hx, hy]
  simp [go_sem]
  rw [IntKind.wrap_i64]; omega
theorem exec_conv_ll (x : Operand) (ho : o.op = .convert 3 27 x) (z : Int) (hx : a.eval x = .int .i64 z) (hz : 0 ≤ z ∧ z ≤ 10000) :
    (execOp a.eval o).run Try.prog w = .ok (.value (.int .u64 z)) w := by
  unfold execOp
  simp only [ho]
  rw [hx]
  simp [go_sem]
  rw [IntKind.wrap_u64]; omega
theorem exec_leq_u (x y : Operand) (ho : o.op = .binOp .leq 27 x y 27) (i j : Int) (hx : a.eval x = .int .u64 i) (hy : a.eval y = .int .u64 j) (hij : i ≤ j) :
    (execOp a.eval o).run Try.prog w = .ok (.value (.bool true)) w := by
  unfold execOp
  simp only [ho]
  rw [hx, hy]
  simp [go_sem, hij]
end
set_option maxRecDepth 100000 in
set_option maxHeartbeats 16000000 in
theorem dotsAlone_is (l m k : List Int) (A1 A2 A3 : Option Addr) (e1 e2 e3 : Nat) (w : World) (h1 : NumsAt w (.slice A1 l.length e1) l) (h2 : NumsAt w (.slice A2 m.length e2) m) (h3 : NumsAt w (.slice A3 k.length e3) k) :
    Calls Try.prog 5 #[.slice A1 l.length e1, .slice A2 m.length e2, .slice A3 k.length e3] w fun e w' => e = .returned (.bool true) ∧ Below w.heap.size w w' := by
  have H1 := Lib.hid h1
  have H2 := Lib.hid h2
  have H3 := Lib.hid h3
  clear h1 h2 h3
  go_enter Try.func5, Try.ntmps5
  by_cases hc : 40 < l.length
  · have hc' : decide ((40 : Int) < (l.length : Int)) = true := decide_eq_true (by omega)
    go_wp2_with fail
    refine (aliveD_is w).mono ?_
    rintro e wz ⟨rfl, bz⟩
    have WZ := Lib.hid (bz)
    clear bz
    go_wp2_with fail
    go_ret
    exact ⟨rfl, WZ.out⟩
  have hc' : decide ((40 : Int) < (l.length : Int)) = false := decide_eq_false (by omega)
  by_cases hl : 40 < m.length
  · have hl' : decide ((40 : Int) < (m.length : Int)) = true := decide_eq_true (by omega)
    go_wp2_with fail
    refine (aliveD_is w).mono ?_
    rintro e wz ⟨rfl, bz⟩
    have WZ := Lib.hid (bz)
    clear bz
    go_wp2_with fail
    go_ret
    exact ⟨rfl, WZ.out⟩
  have hl' : decide ((40 : Int) < (m.length : Int)) = false := decide_eq_false (by omega)
  by_cases hk : 60 < k.length
  · have hk' : decide ((60 : Int) < (k.length : Int)) = true := decide_eq_true (by omega)
    go_wp2_with fail
    refine (aliveD_is w).mono ?_
    rintro e wz ⟨rfl, bz⟩
    have WZ := Lib.hid (bz)
    clear bz
    go_wp2_with fail
    go_ret
    exact ⟨rfl, WZ.out⟩
  have hk' : decide ((60 : Int) < (k.length : Int)) = false := decide_eq_false (by omega)
  obtain ⟨pa, hpa0⟩ : ∃ p, nrm vz l = p := ⟨_, rfl⟩
  obtain ⟨pb, hpb0⟩ : ∃ p, nrm vz m = p := ⟨_, rfl⟩
  obtain ⟨pj, hpj0⟩ : ∃ p, nrm vz (l ++ m) = p := ⟨_, rfl⟩
  have HPA := Lib.hid hpa0
  have HPB := Lib.hid hpb0
  have HPJ := Lib.hid hpj0
  have HPJ2 := Lib.hid (show nrm (vj pa.1 pb.1) (pa.2 ++ pb.2) = pj by rw [← hpa0, ← hpb0, nrm_two]; exact hpj0)
  have NPA := Lib.hid (hpa0 ▸ nrm_of vz_ok l)
  have NPB := Lib.hid (hpb0 ▸ nrm_of vz_ok m)
  have NPJ := Lib.hid (hpj0 ▸ nrm_of vz_ok (l ++ m))
  have hlA : pa.2.length ≤ 2000 := by have := NPA.out.len; omega
  have hlB : pb.2.length ≤ 2000 := by have := NPB.out.len; omega
  have hlJ : pj.2.length ≤ 2000 := by have := NPJ.out.len; rw [List.length_append] at this; omega
  obtain ⟨nj, hnj0⟩ : ∃ n, cntD (nrm pj.1 pj.2) = n := ⟨_, rfl⟩
  have HNJ := Lib.hid hnj0
  have hnjle : nj ≤ (l.length : Int) + (m.length : Int) := by
    rw [← hnj0, nrm_self NPJ.out.v NPJ.out.nf]
    have := NPJ.out.cnt
    rw [sum_vz, List.length_append] at this
    show pj.1.sum + (pj.2.length : Int) ≤ _
    push_cast at this; omega
  have HRR := Lib.hid (show rightsD pj.1 pj.2 pj.2.length = true from rights_iff.2 NPJ.out.nf)
  clear hpa0 hpb0 hpj0 hnj0
  go_wp2_with fail
  refine (of_is l A1 e1 w H1.out (by omega) pa HPA).mono ?_
  rintro e w1 ⟨AA, cA, rfl, v1, b1⟩
  have VA1 := Lib.hid v1.at_
  have B1 := Lib.hid b1
  clear v1 b1
  go_wp2_with fail
  refine (of_is m A2 e2 w1 (H2.out.below B1.out) (by omega) pb HPB).mono ?_
  rintro e w2 ⟨AB, cB, rfl, v2, b2⟩
  have VB2 := Lib.hid v2.at_
  have VA2 := Lib.hid (VA1.out.below b2)
  have B2 := Lib.hid (step_ B1.out b2)
  clear v2 b2 VA1
  go_wp2_with (first
    | (have _ := GA3.out; refine wpList_alloc_s t33 rfl rfl ?_; intro gb w4 egb GB4 b4; have GA4 := Lib.hid (GA3.out.below b4.out))
    | (refine wpList_alloc_s t33 rfl rfl ?_; intro ga w3 ega GA3 b3)
    | (refine wpList_store_s t33 rfl _ _ rfl ga vz pa.1 _ AA pa.2.length cA rfl rfl GA4.out vz_len NPA.out.v.len ?_; intro w5 GA5 o5; have GB5 := Lib.hid (GB4.out.only o5.out (by have := egb.out; have := GA3.out.lt; omega)))
    | (refine wpList_store_s t33 rfl _ _ rfl gb vz pb.1 _ AB pb.2.length cB rfl rfl GB5.out vz_len NPB.out.v.len ?_; intro w6 GB6 o6; have GA6 := Lib.hid (GA5.out.only o6.out (by have := egb.out; have := GA3.out.lt; omega)))
    | refine wpList_load_s t33 rfl _ rfl ga pa.1 _ rfl GA6.out NPA.out.v.len ?_
    | refine wpList_load_s t33 rfl _ rfl gb pb.1 _ rfl GB6.out NPB.out.v.len ?_)
  have X4 := Lib.hid ((step_ b3.out b4.out))
  have B4 := Lib.hid (B2.out.trans (X4.out.mono B2.out.size))
  have hga := Lib.hid (show w.heap.size ≤ ga by have := ega.out; have := B2.out.size; omega)
  have hgb := Lib.hid (show w.heap.size ≤ gb by have := egb.out; have := b3.out.size; have := B2.out.size; omega)
  have VA6 := Lib.hid (((VA2.out.below X4.out).only_s GA4.out (fun x => by intro h; cases h) o5.out).only_s GB5.out (fun x => by intro h; cases h) o6.out)
  have VB6 := Lib.hid (((VB2.out.below X4.out).only_s GA4.out (fun x => by intro h; cases h) o5.out).only_s GB5.out (fun x => by intro h; cases h) o6.out)
  have B6 := Lib.hid ((B4.out.trans (o5.out.below hga.out B4.out.size)).trans (o6.out.below hgb.out (Nat.le_trans B4.out.size o5.out.size)))
  clear VA2 VB2 B2 B1 B4 X4 GA3 GA4 GB4 GA5 GB5 b3 b4 o5 o6 ega egb
  refine (join_is pa.1 pa.2 pb.1 pb.2 AA AB cA cB w6 NPA.out.v NPB.out.v VA6.out VB6.out hlA hlB pj HPJ2).mono ?_
  rintro e w7 ⟨AJ, cJ, rfl, v7, b7⟩
  have VJ7 := Lib.hid v7.at_
  have VA7 := Lib.hid (VA6.out.below b7)
  have VB7 := Lib.hid (VB6.out.below b7)
  have GA7 := Lib.hid (GA6.out.below b7)
  have GB7 := Lib.hid (GB6.out.below b7)
  have B7 := Lib.hid (step_ B6.out b7)
  clear v7 b7 VA6 VB6 GA6 GB6 B6
  go_wp2_with (first
    | (refine wpList_alloc_s t33 rfl rfl ?_; intro gj w8 egj GJ8 b8)
    | (refine wpList_store_s t33 rfl _ _ rfl gj vz pj.1 _ AJ pj.2.length cJ rfl rfl GJ8.out vz_len NPJ.out.v.len ?_; intro w9 GJ9 o9))
  have lA := GA7.out.lt
  have lB := GB7.out.lt
  have eJ := egj.out
  have VA := Lib.hid ((VA7.out.below b8.out).only_s GJ8.out (fun x => by intro h; cases h) o9.out)
  have VB := Lib.hid ((VB7.out.below b8.out).only_s GJ8.out (fun x => by intro h; cases h) o9.out)
  have VJ := Lib.hid ((VJ7.out.below b8.out).only_s GJ8.out (fun x => by intro h; cases h) o9.out)
  have GA := Lib.hid ((GA7.out.below b8.out).only o9.out (by omega))
  have GB := Lib.hid ((GB7.out.below b8.out).only o9.out (by omega))
  have GJ := GJ9
  have B9 := Lib.hid ((step_ B7.out b8.out).trans (o9.out.below (by have := B7.out.size; omega) (step_ B7.out b8.out).size))
  clear VA7 VB7 VJ7 GA7 GB7 B7 GJ8 b8 o9 lA lB eJ egj GJ9
  go_loopw [10] (fun i wr => ∃ j : Nat, j ≤ k.length ∧ i = .int .i64 j ∧ Below w9.heap.size w9 wr) (fun i _ => k.length - (intOf i).toNat)
  case atStart => exact ⟨0, Nat.zero_le _, rfl, Below.refl _ _⟩
  case round =>
    obtain ⟨j, hj, rfl, hb⟩ := hrel
    have BQ := Lib.hid hb
    clear hb
    have BW := Lib.hid (step_ B9.out BQ.out)
    by_cases hlt : j < k.length
    · obtain ⟨G, p, hE, hc, hG⟩ := (H3.out.below BW.out).elem j hlt
      have E := Lib.hid hE
      obtain ⟨z, hz⟩ : ∃ z, k.getD j 0 = z := ⟨_, rfl⟩
      have HZR := Lib.hid (hz ▸ H3.out.nums.at_ j)
      rw [hz] at hc
      have BG := Lib.hid hG
      have CZ := Lib.hid hc
      clear hE hz hG hc
      obtain ⟨ra, hra⟩ : ∃ r, has pa.1 pa.2 z = r := ⟨_, rfl⟩
      obtain ⟨rb, hrb⟩ : ∃ r, has pb.1 pb.2 z = r := ⟨_, rfl⟩
      have HRA := Lib.hid hra
      have HRB := Lib.hid hrb
      have hrj : has pj.1 pj.2 z = (ra || rb) := by rw [← hra, ← hrb, ← HPA.out, ← HPB.out, ← HPJ.out]; exact has_two l m z
      clear hra hrb
      go_wp2_with fail
      have S0 := Lib.hid (show Below wr.heap.size wr wr.drew from below_drew (Below.refl _ _))
      have W0 := Lib.hid (step_ BW.out S0.out)
      cases ra with
      | true =>
        have HRJ := Lib.hid (show has pj.1 pj.2 z = true from hrj)
        clear hrj
        refine wp_region_noPanic ?_
        refine wp_region_held_drew (S := fun W => Below wr.heap.size wr W) (by kernel_rfl) S0.out (fun _ => ?_)
        refine wpAnyH_take (i := 0) (oi := { dst := some 41, op := Go.Op.load 33 (Go.Operand.tmp 9), type := 33, pos := _, after := #[], guard := none }) (v := .agg (sc pj.1 (.slice AJ pj.2.length cJ)).toArray) rfl (by kernel_rfl) (by kernel_rfl) (by kernel_rfl) (fun _ _ _ h => h) (yieldsIf_load_mid (by rfl) 33 (.tmp 9) rfl gj 0 rfl (sc pj.1 (.slice AJ pj.2.length cJ)) _ (fun W hW => (GJ.out.below (step_ BQ.out hW)).range) Try.underlying33 rfl (t33.size NPJ.out.v.len)) S0.out ?_
        try simp only [Act.put, List.setIfInBounds_toArray, List.set_cons_zero, List.set_cons_succ]
        refine wpAnyH_take (i := 1) (oi := { dst := some 42, op := Go.Op.move (Go.Operand.tmp 2), type := 24, pos := _, after := #[], guard := none }) (v := ?_) rfl (by kernel_rfl) (by kernel_rfl) (by kernel_rfl) (fun _ _ _ h => h) (Or.inl ⟨by rfl, ?_⟩) S0.out ?_
        rotate_left
        · intro W hW; (go_simp; try with_reducible rfl)
        try simp only [Act.put, List.setIfInBounds_toArray, List.set_cons_zero, List.set_cons_succ]
        refine wpAnyH_take (i := 2) (oi := { dst := some 43, op := Go.Op.move (Go.Operand.tmp 10), type := 3, pos := _, after := #[], guard := none }) (v := ?_) rfl (by kernel_rfl) (by kernel_rfl) (by kernel_rfl) (fun _ _ _ h => h) (Or.inl ⟨by rfl, ?_⟩) S0.out ?_
        rotate_left
        · intro W hW; (go_simp; try with_reducible rfl)
        try simp only [Act.put, List.setIfInBounds_toArray, List.set_cons_zero, List.set_cons_succ]
        refine wpAnyH_take (i := 3) (oi := { dst := some 44, op := Go.Op.indexAddr 24 (Go.Operand.tmp 42) (Go.Operand.tmp 43), type := 0, pos := _, after := #[{ on := 1, ground := Go.Ground.data }, { on := 2, ground := Go.Ground.data }], guard := none }) (v := .pointer (some ⟨G, p, none⟩)) rfl (by kernel_rfl) (by kernel_rfl) (by kernel_rfl) (fun _ _ _ h => h) (Or.inl ⟨by rfl, fun W hW => exec_indexN u24n (.tmp 42) (.tmp 43) rfl A3 _ _ G p j _ rfl rfl rfl E.out⟩) S0.out ?_
        try simp only [Act.put, List.setIfInBounds_toArray, List.set_cons_zero, List.set_cons_succ]
        refine wpAnyH_take (i := 4) (oi := { dst := some 45, op := Go.Op.load 27 (Go.Operand.tmp 44), type := 27, pos := _, after := #[{ on := 3, ground := Go.Ground.data }], guard := none }) (v := .int .u64 z) rfl (by kernel_rfl) (by kernel_rfl) (by kernel_rfl) (fun _ _ _ h => h) (Or.inl ⟨by rfl, fun W hW => exec_load_num (.tmp 44) rfl G p z rfl ((hW.cell (p := ⟨G, p, none⟩) BG.out).trans CZ.out)⟩) S0.out ?_
        try simp only [Act.put, List.setIfInBounds_toArray, List.set_cons_zero, List.set_cons_succ]
        refine wpAnyH_take (i := 6) (oi := { dst := some 47, op := Go.Op.load 33 (Go.Operand.tmp 7), type := 33, pos := _, after := #[], guard := none }) (v := .agg (sc pa.1 (.slice AA pa.2.length cA)).toArray) rfl (by kernel_rfl) (by kernel_rfl) (by kernel_rfl) (fun _ _ _ h => h) (yieldsIf_load_mid (by rfl) 33 (.tmp 7) rfl ga 0 rfl (sc pa.1 (.slice AA pa.2.length cA)) _ (fun W hW => (GA.out.below (step_ BQ.out hW)).range) Try.underlying33 rfl (t33.size NPA.out.v.len)) S0.out ?_
        try simp only [Act.put, List.setIfInBounds_toArray, List.set_cons_zero, List.set_cons_succ]
        refine wpAnyH_take (i := 7) (oi := { dst := some 48, op := Go.Op.move (Go.Operand.tmp 2), type := 24, pos := _, after := #[], guard := none }) (v := ?_) rfl (by kernel_rfl) (by kernel_rfl) (by kernel_rfl) (fun _ _ _ h => h) (Or.inl ⟨by rfl, ?_⟩) S0.out ?_
        rotate_left
        · intro W hW; (go_simp; try with_reducible rfl)
        try simp only [Act.put, List.setIfInBounds_toArray, List.set_cons_zero, List.set_cons_succ]
        refine wpAnyH_take (i := 8) (oi := { dst := some 49, op := Go.Op.move (Go.Operand.tmp 10), type := 3, pos := _, after := #[], guard := none }) (v := ?_) rfl (by kernel_rfl) (by kernel_rfl) (by kernel_rfl) (fun _ _ _ h => h) (Or.inl ⟨by rfl, ?_⟩) S0.out ?_
        rotate_left
        · intro W hW; (go_simp; try with_reducible rfl)
        try simp only [Act.put, List.setIfInBounds_toArray, List.set_cons_zero, List.set_cons_succ]
        refine wpAnyH_take (i := 9) (oi := { dst := some 50, op := Go.Op.indexAddr 24 (Go.Operand.tmp 48) (Go.Operand.tmp 49), type := 0, pos := _, after := #[{ on := 7, ground := Go.Ground.data }, { on := 8, ground := Go.Ground.data }], guard := none }) (v := .pointer (some ⟨G, p, none⟩)) rfl (by kernel_rfl) (by kernel_rfl) (by kernel_rfl) (fun _ _ _ h => h) (Or.inl ⟨by rfl, fun W hW => exec_indexN u24n (.tmp 48) (.tmp 49) rfl A3 _ _ G p j _ rfl rfl rfl E.out⟩) S0.out ?_
        try simp only [Act.put, List.setIfInBounds_toArray, List.set_cons_zero, List.set_cons_succ]
        refine wpAnyH_take (i := 10) (oi := { dst := some 51, op := Go.Op.load 27 (Go.Operand.tmp 50), type := 27, pos := _, after := #[{ on := 9, ground := Go.Ground.data }], guard := none }) (v := .int .u64 z) rfl (by kernel_rfl) (by kernel_rfl) (by kernel_rfl) (fun _ _ _ h => h) (Or.inl ⟨by rfl, fun W hW => exec_load_num (.tmp 50) rfl G p z rfl ((hW.cell (p := ⟨G, p, none⟩) BG.out).trans CZ.out)⟩) S0.out ?_
        try simp only [Act.put, List.setIfInBounds_toArray, List.set_cons_zero, List.set_cons_succ]
        refine wpAnyH_ready (rs := [5]) (by kernel_rfl) (by simp) ?_
        refine AllReadyH.cons (o := { dst := some 46, op := Go.Op.call { callee := Go.Callee.value (Go.Operand.func 15), args := #[Go.Operand.tmp 41, Go.Operand.tmp 45], argTypes := #[33, 27] }, type := 4, pos := _, after := #[{ on := 0, ground := Go.Ground.data }, { on := 4, ground := Go.Ground.data }], guard := none }) rfl (fun K hK => ?_) AllReadyH.nil
        go_simp
        refine (has_is pj.1 pj.2 AJ cJ z true _ NPJ.out.v ((VJ.out.below BQ.out).below S0.out) hlJ HZR.out HRJ).mono ?_
        rintro e w1 ⟨rfl, b1⟩
        have S1 := Lib.hid (step_ S0.out b1)
        have W1 := Lib.hid (step_ W0.out b1)
        clear b1
        go_wp2_with fail
        refine hK.out _ _ S1.out (fun _ => ?_)
        clear hK K
        try simp only [Act.put, List.setIfInBounds_toArray, List.set_cons_zero, List.set_cons_succ]
        refine wpAnyH_ready (rs := [11]) (by kernel_rfl) (by simp) ?_
        refine AllReadyH.cons (o := { dst := some 52, op := Go.Op.call { callee := Go.Callee.value (Go.Operand.func 15), args := #[Go.Operand.tmp 47, Go.Operand.tmp 51], argTypes := #[33, 27] }, type := 4, pos := _, after := #[{ on := 6, ground := Go.Ground.data }, { on := 10, ground := Go.Ground.data }, { on := 5, ground := Go.Ground.chain }], guard := none }) rfl (fun K hK => ?_) AllReadyH.nil
        go_simp
        refine (has_is pa.1 pa.2 AA cA z true _ NPA.out.v ((VA.out.below BQ.out).below S1.out) hlA HZR.out HRA).mono ?_
        rintro e w2 ⟨rfl, b2⟩
        have S2 := Lib.hid (step_ S1.out b2)
        have W2 := Lib.hid (step_ W1.out b2)
        clear b2
        go_wp2_with fail
        refine hK.out _ _ S2.out (fun _ => ?_)
        clear hK K
        try simp only [Act.put, List.setIfInBounds_toArray, List.set_cons_zero, List.set_cons_succ]
        refine wpAnyH_take (i := 12) (oi := { dst := some 53, op := Go.Op.move (Go.Operand.tmp 52), type := 4, pos := _, after := #[{ on := 11, ground := Go.Ground.data }, { on := 11, ground := Go.Ground.chain }], guard := none }) (v := ?_) rfl (by kernel_rfl) (by kernel_rfl) (by kernel_rfl) (fun _ _ _ h => h) (Or.inl ⟨by rfl, ?_⟩) S2.out ?_
        rotate_left
        · intro W hW; (go_simp; try with_reducible rfl)
        try simp only [Act.put, List.setIfInBounds_toArray, List.set_cons_zero, List.set_cons_succ]
        refine wpAnyH_take (i := 13) (oi := { dst := some 54, op := Go.Op.load 33 (Go.Operand.tmp 8), type := 33, pos := _, after := #[{ on := 12, ground := Go.Ground.guard }], guard := some (12, false) }) (v := undef) rfl (by kernel_rfl) (by kernel_rfl) (by kernel_rfl) (fun _ _ _ h => h) (Or.inr ⟨by rfl, rfl⟩) S2.out ?_
        try simp only [Act.put, List.setIfInBounds_toArray, List.set_cons_zero, List.set_cons_succ]
        refine wpAnyH_take (i := 14) (oi := { dst := some 55, op := Go.Op.move (Go.Operand.tmp 2), type := 24, pos := _, after := #[{ on := 12, ground := Go.Ground.guard }], guard := some (12, false) }) (v := undef) rfl (by kernel_rfl) (by kernel_rfl) (by kernel_rfl) (fun _ _ _ h => h) (Or.inr ⟨by rfl, rfl⟩) S2.out ?_
        try simp only [Act.put, List.setIfInBounds_toArray, List.set_cons_zero, List.set_cons_succ]
        refine wpAnyH_take (i := 15) (oi := { dst := some 56, op := Go.Op.move (Go.Operand.tmp 10), type := 3, pos := _, after := #[{ on := 12, ground := Go.Ground.guard }], guard := some (12, false) }) (v := undef) rfl (by kernel_rfl) (by kernel_rfl) (by kernel_rfl) (fun _ _ _ h => h) (Or.inr ⟨by rfl, rfl⟩) S2.out ?_
        try simp only [Act.put, List.setIfInBounds_toArray, List.set_cons_zero, List.set_cons_succ]
        refine wpAnyH_take (i := 16) (oi := { dst := some 57, op := Go.Op.indexAddr 24 (Go.Operand.tmp 55) (Go.Operand.tmp 56), type := 0, pos := _, after := #[{ on := 14, ground := Go.Ground.data }, { on := 15, ground := Go.Ground.data }, { on := 12, ground := Go.Ground.guard }], guard := some (12, false) }) (v := undef) rfl (by kernel_rfl) (by kernel_rfl) (by kernel_rfl) (fun _ _ _ h => h) (Or.inr ⟨by rfl, rfl⟩) S2.out ?_
        try simp only [Act.put, List.setIfInBounds_toArray, List.set_cons_zero, List.set_cons_succ]
        refine wpAnyH_take (i := 17) (oi := { dst := some 58, op := Go.Op.load 27 (Go.Operand.tmp 57), type := 27, pos := _, after := #[{ on := 16, ground := Go.Ground.data }, { on := 12, ground := Go.Ground.guard }], guard := some (12, false) }) (v := undef) rfl (by kernel_rfl) (by kernel_rfl) (by kernel_rfl) (fun _ _ _ h => h) (Or.inr ⟨by rfl, rfl⟩) S2.out ?_
        try simp only [Act.put, List.setIfInBounds_toArray, List.set_cons_zero, List.set_cons_succ]
        refine wpAnyH_take (i := 18) (oi := { dst := some 59, op := Go.Op.call { callee := Go.Callee.value (Go.Operand.func 15), args := #[Go.Operand.tmp 54, Go.Operand.tmp 58], argTypes := #[33, 27] }, type := 4, pos := _, after := #[{ on := 13, ground := Go.Ground.data }, { on := 17, ground := Go.Ground.data }, { on := 12, ground := Go.Ground.chain }, { on := 12, ground := Go.Ground.guard }], guard := some (12, false) }) (v := undef) rfl (by kernel_rfl) (by kernel_rfl) (by kernel_rfl) (fun _ _ _ h => h) (Or.inr ⟨by rfl, rfl⟩) S2.out ?_
        try simp only [Act.put, List.setIfInBounds_toArray, List.set_cons_zero, List.set_cons_succ]
        refine wpAnyH_take (i := 19) (oi := { dst := some 60, op := Go.Op.pick (Go.Operand.tmp 53) (Go.Operand.const (Go.Value.bool true)) (Go.Operand.tmp 59), type := 4, pos := _, after := #[{ on := 12, ground := Go.Ground.data }, { on := 18, ground := Go.Ground.data }], guard := none }) (v := ?_) rfl (by kernel_rfl) (by kernel_rfl) (by kernel_rfl) (fun _ _ _ h => h) (Or.inl ⟨by rfl, ?_⟩) S2.out ?_
        rotate_left
        · intro W hW; (go_simp; try with_reducible rfl)
        try simp only [Act.put, List.setIfInBounds_toArray, List.set_cons_zero, List.set_cons_succ]
        refine wpAnyH_take (i := 20) (oi := { dst := some 61, op := Go.Op.binOp Go.BinOp.neq 4 (Go.Operand.tmp 46) (Go.Operand.tmp 60) 4, type := 4, pos := _, after := #[{ on := 5, ground := Go.Ground.data }, { on := 19, ground := Go.Ground.data }], guard := none }) (v := ?_) rfl (by kernel_rfl) (by kernel_rfl) (by kernel_rfl) (fun _ _ _ h => h) (Or.inl ⟨by rfl, ?_⟩) S2.out ?_
        rotate_left
        · intro W hW; (go_simp; try with_reducible rfl)
        try simp only [Act.put, List.setIfInBounds_toArray, List.set_cons_zero, List.set_cons_succ]
        refine wpAnyH_done (by kernel_rfl) ?_ _
        refine NoPanic.normal ?_
        go_wp2_with fail
        go_roundw
        case rel => exact ⟨j + 1, by omega, by go_num, BQ.out.trans (S2.out.mono BQ.out.size)⟩
        case measure => simp [intOf]; omega
      | false =>
        have HRJ := Lib.hid (show has pj.1 pj.2 z = rb from hrj)
        have hbb : (rb != rb) = false := by simp
        clear hrj
        refine wp_region_noPanic ?_
        refine wp_region_held_drew (S := fun W => Below wr.heap.size wr W) (by kernel_rfl) S0.out (fun _ => ?_)
        refine wpAnyH_take (i := 0) (oi := { dst := some 41, op := Go.Op.load 33 (Go.Operand.tmp 9), type := 33, pos := _, after := #[], guard := none }) (v := .agg (sc pj.1 (.slice AJ pj.2.length cJ)).toArray) rfl (by kernel_rfl) (by kernel_rfl) (by kernel_rfl) (fun _ _ _ h => h) (yieldsIf_load_mid (by rfl) 33 (.tmp 9) rfl gj 0 rfl (sc pj.1 (.slice AJ pj.2.length cJ)) _ (fun W hW => (GJ.out.below (step_ BQ.out hW)).range) Try.underlying33 rfl (t33.size NPJ.out.v.len)) S0.out ?_
        try simp only [Act.put, List.setIfInBounds_toArray, List.set_cons_zero, List.set_cons_succ]
        refine wpAnyH_take (i := 1) (oi := { dst := some 42, op := Go.Op.move (Go.Operand.tmp 2), type := 24, pos := _, after := #[], guard := none }) (v := ?_) rfl (by kernel_rfl) (by kernel_rfl) (by kernel_rfl) (fun _ _ _ h => h) (Or.inl ⟨by rfl, ?_⟩) S0.out ?_
        rotate_left
        · intro W hW; (go_simp; try with_reducible rfl)
        try simp only [Act.put, List.setIfInBounds_toArray, List.set_cons_zero, List.set_cons_succ]
        refine wpAnyH_take (i := 2) (oi := { dst := some 43, op := Go.Op.move (Go.Operand.tmp 10), type := 3, pos := _, after := #[], guard := none }) (v := ?_) rfl (by kernel_rfl) (by kernel_rfl) (by kernel_rfl) (fun _ _ _ h => h) (Or.inl ⟨by rfl, ?_⟩) S0.out ?_
        rotate_left
        · intro W hW; (go_simp; try with_reducible rfl)
        try simp only [Act.put, List.setIfInBounds_toArray, List.set_cons_zero, List.set_cons_succ]
        refine wpAnyH_take (i := 3) (oi := { dst := some 44, op := Go.Op.indexAddr 24 (Go.Operand.tmp 42) (Go.Operand.tmp 43), type := 0, pos := _, after := #[{ on := 1, ground := Go.Ground.data }, { on := 2, ground := Go.Ground.data }], guard := none }) (v := .pointer (some ⟨G, p, none⟩)) rfl (by kernel_rfl) (by kernel_rfl) (by kernel_rfl) (fun _ _ _ h => h) (Or.inl ⟨by rfl, fun W hW => exec_indexN u24n (.tmp 42) (.tmp 43) rfl A3 _ _ G p j _ rfl rfl rfl E.out⟩) S0.out ?_
        try simp only [Act.put, List.setIfInBounds_toArray, List.set_cons_zero, List.set_cons_succ]
        refine wpAnyH_take (i := 4) (oi := { dst := some 45, op := Go.Op.load 27 (Go.Operand.tmp 44), type := 27, pos := _, after := #[{ on := 3, ground := Go.Ground.data }], guard := none }) (v := .int .u64 z) rfl (by kernel_rfl) (by kernel_rfl) (by kernel_rfl) (fun _ _ _ h => h) (Or.inl ⟨by rfl, fun W hW => exec_load_num (.tmp 44) rfl G p z rfl ((hW.cell (p := ⟨G, p, none⟩) BG.out).trans CZ.out)⟩) S0.out ?_
        try simp only [Act.put, List.setIfInBounds_toArray, List.set_cons_zero, List.set_cons_succ]
        refine wpAnyH_take (i := 6) (oi := { dst := some 47, op := Go.Op.load 33 (Go.Operand.tmp 7), type := 33, pos := _, after := #[], guard := none }) (v := .agg (sc pa.1 (.slice AA pa.2.length cA)).toArray) rfl (by kernel_rfl) (by kernel_rfl) (by kernel_rfl) (fun _ _ _ h => h) (yieldsIf_load_mid (by rfl) 33 (.tmp 7) rfl ga 0 rfl (sc pa.1 (.slice AA pa.2.length cA)) _ (fun W hW => (GA.out.below (step_ BQ.out hW)).range) Try.underlying33 rfl (t33.size NPA.out.v.len)) S0.out ?_
        try simp only [Act.put, List.setIfInBounds_toArray, List.set_cons_zero, List.set_cons_succ]
        refine wpAnyH_take (i := 7) (oi := { dst := some 48, op := Go.Op.move (Go.Operand.tmp 2), type := 24, pos := _, after := #[], guard := none }) (v := ?_) rfl (by kernel_rfl) (by kernel_rfl) (by kernel_rfl) (fun _ _ _ h => h) (Or.inl ⟨by rfl, ?_⟩) S0.out ?_
        rotate_left
        · intro W hW; (go_simp; try with_reducible rfl)
        try simp only [Act.put, List.setIfInBounds_toArray, List.set_cons_zero, List.set_cons_succ]
        refine wpAnyH_take (i := 8) (oi := { dst := some 49, op := Go.Op.move (Go.Operand.tmp 10), type := 3, pos := _, after := #[], guard := none }) (v := ?_) rfl (by kernel_rfl) (by kernel_rfl) (by kernel_rfl) (fun _ _ _ h => h) (Or.inl ⟨by rfl, ?_⟩) S0.out ?_
        rotate_left
        · intro W hW; (go_simp; try with_reducible rfl)
        try simp only [Act.put, List.setIfInBounds_toArray, List.set_cons_zero, List.set_cons_succ]
        refine wpAnyH_take (i := 9) (oi := { dst := some 50, op := Go.Op.indexAddr 24 (Go.Operand.tmp 48) (Go.Operand.tmp 49), type := 0, pos := _, after := #[{ on := 7, ground := Go.Ground.data }, { on := 8, ground := Go.Ground.data }], guard := none }) (v := .pointer (some ⟨G, p, none⟩)) rfl (by kernel_rfl) (by kernel_rfl) (by kernel_rfl) (fun _ _ _ h => h) (Or.inl ⟨by rfl, fun W hW => exec_indexN u24n (.tmp 48) (.tmp 49) rfl A3 _ _ G p j _ rfl rfl rfl E.out⟩) S0.out ?_
        try simp only [Act.put, List.setIfInBounds_toArray, List.set_cons_zero, List.set_cons_succ]
        refine wpAnyH_take (i := 10) (oi := { dst := some 51, op := Go.Op.load 27 (Go.Operand.tmp 50), type := 27, pos := _, after := #[{ on := 9, ground := Go.Ground.data }], guard := none }) (v := .int .u64 z) rfl (by kernel_rfl) (by kernel_rfl) (by kernel_rfl) (fun _ _ _ h => h) (Or.inl ⟨by rfl, fun W hW => exec_load_num (.tmp 50) rfl G p z rfl ((hW.cell (p := ⟨G, p, none⟩) BG.out).trans CZ.out)⟩) S0.out ?_
        try simp only [Act.put, List.setIfInBounds_toArray, List.set_cons_zero, List.set_cons_succ]
        refine wpAnyH_ready (rs := [5]) (by kernel_rfl) (by simp) ?_
        refine AllReadyH.cons (o := { dst := some 46, op := Go.Op.call { callee := Go.Callee.value (Go.Operand.func 15), args := #[Go.Operand.tmp 41, Go.Operand.tmp 45], argTypes := #[33, 27] }, type := 4, pos := _, after := #[{ on := 0, ground := Go.Ground.data }, { on := 4, ground := Go.Ground.data }], guard := none }) rfl (fun K hK => ?_) AllReadyH.nil
        go_simp
        refine (has_is pj.1 pj.2 AJ cJ z rb _ NPJ.out.v ((VJ.out.below BQ.out).below S0.out) hlJ HZR.out HRJ).mono ?_
        rintro e w1 ⟨rfl, b1⟩
        have S1 := Lib.hid (step_ S0.out b1)
        have W1 := Lib.hid (step_ W0.out b1)
        clear b1
        go_wp2_with fail
        refine hK.out _ _ S1.out (fun _ => ?_)
        clear hK K
        try simp only [Act.put, List.setIfInBounds_toArray, List.set_cons_zero, List.set_cons_succ]
        refine wpAnyH_ready (rs := [11]) (by kernel_rfl) (by simp) ?_
        refine AllReadyH.cons (o := { dst := some 52, op := Go.Op.call { callee := Go.Callee.value (Go.Operand.func 15), args := #[Go.Operand.tmp 47, Go.Operand.tmp 51], argTypes := #[33, 27] }, type := 4, pos := _, after := #[{ on := 6, ground := Go.Ground.data }, { on := 10, ground := Go.Ground.data }, { on := 5, ground := Go.Ground.chain }], guard := none }) rfl (fun K hK => ?_) AllReadyH.nil
        go_simp
        refine (has_is pa.1 pa.2 AA cA z false _ NPA.out.v ((VA.out.below BQ.out).below S1.out) hlA HZR.out HRA).mono ?_
        rintro e w2 ⟨rfl, b2⟩
        have S2 := Lib.hid (step_ S1.out b2)
        have W2 := Lib.hid (step_ W1.out b2)
        clear b2
        go_wp2_with fail
        refine hK.out _ _ S2.out (fun _ => ?_)
        clear hK K
        try simp only [Act.put, List.setIfInBounds_toArray, List.set_cons_zero, List.set_cons_succ]
        refine wpAnyH_take (i := 12) (oi := { dst := some 53, op := Go.Op.move (Go.Operand.tmp 52), type := 4, pos := _, after := #[{ on := 11, ground := Go.Ground.data }, { on := 11, ground := Go.Ground.chain }], guard := none }) (v := ?_) rfl (by kernel_rfl) (by kernel_rfl) (by kernel_rfl) (fun _ _ _ h => h) (Or.inl ⟨by rfl, ?_⟩) S2.out ?_
        rotate_left
        · intro W hW; (go_simp; try with_reducible rfl)
        try simp only [Act.put, List.setIfInBounds_toArray, List.set_cons_zero, List.set_cons_succ]
        refine wpAnyH_take (i := 13) (oi := { dst := some 54, op := Go.Op.load 33 (Go.Operand.tmp 8), type := 33, pos := _, after := #[{ on := 12, ground := Go.Ground.guard }], guard := some (12, false) }) (v := .agg (sc pb.1 (.slice AB pb.2.length cB)).toArray) rfl (by kernel_rfl) (by kernel_rfl) (by kernel_rfl) (fun _ _ _ h => h) (yieldsIf_load_mid (by rfl) 33 (.tmp 8) rfl gb 0 rfl (sc pb.1 (.slice AB pb.2.length cB)) _ (fun W hW => (GB.out.below (step_ BQ.out hW)).range) Try.underlying33 rfl (t33.size NPB.out.v.len)) S2.out ?_
        try simp only [Act.put, List.setIfInBounds_toArray, List.set_cons_zero, List.set_cons_succ]
        refine wpAnyH_take (i := 14) (oi := { dst := some 55, op := Go.Op.move (Go.Operand.tmp 2), type := 24, pos := _, after := #[{ on := 12, ground := Go.Ground.guard }], guard := some (12, false) }) (v := ?_) rfl (by kernel_rfl) (by kernel_rfl) (by kernel_rfl) (fun _ _ _ h => h) (Or.inl ⟨by rfl, ?_⟩) S2.out ?_
        rotate_left
        · intro W hW; (go_simp; try with_reducible rfl)
        try simp only [Act.put, List.setIfInBounds_toArray, List.set_cons_zero, List.set_cons_succ]
        refine wpAnyH_take (i := 15) (oi := { dst := some 56, op := Go.Op.move (Go.Operand.tmp 10), type := 3, pos := _, after := #[{ on := 12, ground := Go.Ground.guard }], guard := some (12, false) }) (v := ?_) rfl (by kernel_rfl) (by kernel_rfl) (by kernel_rfl) (fun _ _ _ h => h) (Or.inl ⟨by rfl, ?_⟩) S2.out ?_
        rotate_left
        · intro W hW; (go_simp; try with_reducible rfl)
        try simp only [Act.put, List.setIfInBounds_toArray, List.set_cons_zero, List.set_cons_succ]
        refine wpAnyH_take (i := 16) (oi := { dst := some 57, op := Go.Op.indexAddr 24 (Go.Operand.tmp 55) (Go.Operand.tmp 56), type := 0, pos := _, after := #[{ on := 14, ground := Go.Ground.data }, { on := 15, ground := Go.Ground.data }, { on := 12, ground := Go.Ground.guard }], guard := some (12, false) }) (v := .pointer (some ⟨G, p, none⟩)) rfl (by kernel_rfl) (by kernel_rfl) (by kernel_rfl) (fun _ _ _ h => h) (Or.inl ⟨by rfl, fun W hW => exec_indexN u24n (.tmp 55) (.tmp 56) rfl A3 _ _ G p j _ rfl rfl rfl E.out⟩) S2.out ?_
        try simp only [Act.put, List.setIfInBounds_toArray, List.set_cons_zero, List.set_cons_succ]
        refine wpAnyH_take (i := 17) (oi := { dst := some 58, op := Go.Op.load 27 (Go.Operand.tmp 57), type := 27, pos := _, after := #[{ on := 16, ground := Go.Ground.data }, { on := 12, ground := Go.Ground.guard }], guard := some (12, false) }) (v := .int .u64 z) rfl (by kernel_rfl) (by kernel_rfl) (by kernel_rfl) (fun _ _ _ h => h) (Or.inl ⟨by rfl, fun W hW => exec_load_num (.tmp 57) rfl G p z rfl ((hW.cell (p := ⟨G, p, none⟩) BG.out).trans CZ.out)⟩) S2.out ?_
        try simp only [Act.put, List.setIfInBounds_toArray, List.set_cons_zero, List.set_cons_succ]
        refine wpAnyH_ready (rs := [18]) (by kernel_rfl) (by simp) ?_
        refine AllReadyH.cons (o := { dst := some 59, op := Go.Op.call { callee := Go.Callee.value (Go.Operand.func 15), args := #[Go.Operand.tmp 54, Go.Operand.tmp 58], argTypes := #[33, 27] }, type := 4, pos := _, after := #[{ on := 13, ground := Go.Ground.data }, { on := 17, ground := Go.Ground.data }, { on := 12, ground := Go.Ground.chain }, { on := 12, ground := Go.Ground.guard }], guard := some (12, false) }) rfl (fun K hK => ?_) AllReadyH.nil
        go_simp
        refine (has_is pb.1 pb.2 AB cB z rb _ NPB.out.v ((VB.out.below BQ.out).below S2.out) hlB HZR.out HRB).mono ?_
        rintro e w3 ⟨rfl, b3⟩
        have S3 := Lib.hid (step_ S2.out b3)
        have W3 := Lib.hid (step_ W2.out b3)
        clear b3
        go_wp2_with fail
        refine hK.out _ _ S3.out (fun _ => ?_)
        clear hK K
        try simp only [Act.put, List.setIfInBounds_toArray, List.set_cons_zero, List.set_cons_succ]
        refine wpAnyH_take (i := 19) (oi := { dst := some 60, op := Go.Op.pick (Go.Operand.tmp 53) (Go.Operand.const (Go.Value.bool true)) (Go.Operand.tmp 59), type := 4, pos := _, after := #[{ on := 12, ground := Go.Ground.data }, { on := 18, ground := Go.Ground.data }], guard := none }) (v := ?_) rfl (by kernel_rfl) (by kernel_rfl) (by kernel_rfl) (fun _ _ _ h => h) (Or.inl ⟨by rfl, ?_⟩) S3.out ?_
        rotate_left
        · intro W hW; (go_simp; try with_reducible rfl)
        try simp only [Act.put, List.setIfInBounds_toArray, List.set_cons_zero, List.set_cons_succ]
        refine wpAnyH_take (i := 20) (oi := { dst := some 61, op := Go.Op.binOp Go.BinOp.neq 4 (Go.Operand.tmp 46) (Go.Operand.tmp 60) 4, type := 4, pos := _, after := #[{ on := 5, ground := Go.Ground.data }, { on := 19, ground := Go.Ground.data }], guard := none }) (v := ?_) rfl (by kernel_rfl) (by kernel_rfl) (by kernel_rfl) (fun _ _ _ h => h) (Or.inl ⟨by rfl, ?_⟩) S3.out ?_
        rotate_left
        · intro W hW; (go_simp; try with_reducible rfl)
        try simp only [Act.put, List.setIfInBounds_toArray, List.set_cons_zero, List.set_cons_succ]
        refine wpAnyH_done (by kernel_rfl) ?_ _
        refine NoPanic.normal ?_
        go_wp2_with fail
        go_roundw
        case rel => exact ⟨j + 1, by omega, by go_num, BQ.out.trans (S3.out.mono BQ.out.size)⟩
        case measure => simp [intOf]; omega
    · obtain rfl : k.length = j := by omega
      go_wp2_with fail
      have G2 := Lib.hid (show Below w9.heap.size w9 wr from BQ.out)
      go_loopw [11] (fun i wr => ∃ j : Nat, j ≤ l.length ∧ i = .int .i64 j ∧ Below w9.heap.size w9 wr) (fun i _ => l.length - (intOf i).toNat)
      case atStart => exact ⟨0, Nat.zero_le _, rfl, G2.out⟩
      case round =>
        clear BQ BW G2
        obtain ⟨j, hj, rfl, hb⟩ := hrel
        have BQ := Lib.hid hb
        clear hb
        have BW := Lib.hid (step_ B9.out BQ.out)
        by_cases hlt : j < l.length
        · obtain ⟨G, p, hE, hc, hG⟩ := (H1.out.below BW.out).elem j hlt
          have E := Lib.hid hE
          obtain ⟨z, hz⟩ : ∃ z, l.getD j 0 = z := ⟨_, rfl⟩
          have HZR := Lib.hid (hz ▸ H1.out.nums.at_ j)
          have hzm : z ∈ l := by rw [← hz, getD_at hlt]; exact List.getElem_mem hlt
          rw [hz] at hc
          have BG := Lib.hid hG
          have CZ := Lib.hid hc
          clear hE hz hG hc
          obtain ⟨r, hr⟩ : ∃ r, may z = r := ⟨_, rfl⟩
          have HRM := Lib.hid hr
          have HRA := Lib.hid (show has pa.1 pa.2 z = r by rw [← HPA.out, has_own l z hzm]; exact hr)
          have hbb : (r != r) = false := by simp
          clear hr hzm
          go_wp2_with fail
          have S0 := Lib.hid (show Below wr.heap.size wr wr.drew from below_drew (Below.refl _ _))
          have W0 := Lib.hid (step_ BW.out S0.out)
          refine wp_region_noPanic ?_
          refine wp_region_held_drew (S := fun W => Below wr.heap.size wr W) (by kernel_rfl) S0.out (fun _ => ?_)
          refine wpAnyH_take (i := 0) (oi := { dst := some 68, op := Go.Op.load 33 (Go.Operand.tmp 7), type := 33, pos := _, after := #[], guard := none }) (v := .agg (sc pa.1 (.slice AA pa.2.length cA)).toArray) rfl (by kernel_rfl) (by kernel_rfl) (by kernel_rfl) (fun _ _ _ h => h) (yieldsIf_load_mid (by rfl) 33 (.tmp 7) rfl ga 0 rfl (sc pa.1 (.slice AA pa.2.length cA)) _ (fun W hW => (GA.out.below (step_ BQ.out hW)).range) Try.underlying33 rfl (t33.size NPA.out.v.len)) S0.out ?_
          try simp only [Act.put, List.setIfInBounds_toArray, List.set_cons_zero, List.set_cons_succ]
          refine wpAnyH_take (i := 1) (oi := { dst := some 69, op := Go.Op.move (Go.Operand.tmp 0), type := 24, pos := _, after := #[], guard := none }) (v := ?_) rfl (by kernel_rfl) (by kernel_rfl) (by kernel_rfl) (fun _ _ _ h => h) (Or.inl ⟨by rfl, ?_⟩) S0.out ?_
          rotate_left
          · intro W hW; (go_simp; try with_reducible rfl)
          try simp only [Act.put, List.setIfInBounds_toArray, List.set_cons_zero, List.set_cons_succ]
          refine wpAnyH_take (i := 2) (oi := { dst := some 70, op := Go.Op.move (Go.Operand.tmp 11), type := 3, pos := _, after := #[], guard := none }) (v := ?_) rfl (by kernel_rfl) (by kernel_rfl) (by kernel_rfl) (fun _ _ _ h => h) (Or.inl ⟨by rfl, ?_⟩) S0.out ?_
          rotate_left
          · intro W hW; (go_simp; try with_reducible rfl)
          try simp only [Act.put, List.setIfInBounds_toArray, List.set_cons_zero, List.set_cons_succ]
          refine wpAnyH_take (i := 3) (oi := { dst := some 71, op := Go.Op.indexAddr 24 (Go.Operand.tmp 69) (Go.Operand.tmp 70), type := 0, pos := _, after := #[{ on := 1, ground := Go.Ground.data }, { on := 2, ground := Go.Ground.data }], guard := none }) (v := .pointer (some ⟨G, p, none⟩)) rfl (by kernel_rfl) (by kernel_rfl) (by kernel_rfl) (fun _ _ _ h => h) (Or.inl ⟨by rfl, fun W hW => exec_indexN u24n (.tmp 69) (.tmp 70) rfl A1 _ _ G p j _ rfl rfl rfl E.out⟩) S0.out ?_
          try simp only [Act.put, List.setIfInBounds_toArray, List.set_cons_zero, List.set_cons_succ]
          refine wpAnyH_take (i := 4) (oi := { dst := some 72, op := Go.Op.load 27 (Go.Operand.tmp 71), type := 27, pos := _, after := #[{ on := 3, ground := Go.Ground.data }], guard := none }) (v := .int .u64 z) rfl (by kernel_rfl) (by kernel_rfl) (by kernel_rfl) (fun _ _ _ h => h) (Or.inl ⟨by rfl, fun W hW => exec_load_num (.tmp 71) rfl G p z rfl ((hW.cell (p := ⟨G, p, none⟩) BG.out).trans CZ.out)⟩) S0.out ?_
          try simp only [Act.put, List.setIfInBounds_toArray, List.set_cons_zero, List.set_cons_succ]
          refine wpAnyH_take (i := 6) (oi := { dst := some 74, op := Go.Op.move (Go.Operand.tmp 0), type := 24, pos := _, after := #[], guard := none }) (v := ?_) rfl (by kernel_rfl) (by kernel_rfl) (by kernel_rfl) (fun _ _ _ h => h) (Or.inl ⟨by rfl, ?_⟩) S0.out ?_
          rotate_left
          · intro W hW; (go_simp; try with_reducible rfl)
          try simp only [Act.put, List.setIfInBounds_toArray, List.set_cons_zero, List.set_cons_succ]
          refine wpAnyH_take (i := 7) (oi := { dst := some 75, op := Go.Op.move (Go.Operand.tmp 11), type := 3, pos := _, after := #[], guard := none }) (v := ?_) rfl (by kernel_rfl) (by kernel_rfl) (by kernel_rfl) (fun _ _ _ h => h) (Or.inl ⟨by rfl, ?_⟩) S0.out ?_
          rotate_left
          · intro W hW; (go_simp; try with_reducible rfl)
          try simp only [Act.put, List.setIfInBounds_toArray, List.set_cons_zero, List.set_cons_succ]
          refine wpAnyH_take (i := 8) (oi := { dst := some 76, op := Go.Op.indexAddr 24 (Go.Operand.tmp 74) (Go.Operand.tmp 75), type := 0, pos := _, after := #[{ on := 6, ground := Go.Ground.data }, { on := 7, ground := Go.Ground.data }], guard := none }) (v := .pointer (some ⟨G, p, none⟩)) rfl (by kernel_rfl) (by kernel_rfl) (by kernel_rfl) (fun _ _ _ h => h) (Or.inl ⟨by rfl, fun W hW => exec_indexN u24n (.tmp 74) (.tmp 75) rfl A1 _ _ G p j _ rfl rfl rfl E.out⟩) S0.out ?_
          try simp only [Act.put, List.setIfInBounds_toArray, List.set_cons_zero, List.set_cons_succ]
          refine wpAnyH_take (i := 9) (oi := { dst := some 77, op := Go.Op.load 27 (Go.Operand.tmp 76), type := 27, pos := _, after := #[{ on := 8, ground := Go.Ground.data }], guard := none }) (v := .int .u64 z) rfl (by kernel_rfl) (by kernel_rfl) (by kernel_rfl) (fun _ _ _ h => h) (Or.inl ⟨by rfl, fun W hW => exec_load_num (.tmp 76) rfl G p z rfl ((hW.cell (p := ⟨G, p, none⟩) BG.out).trans CZ.out)⟩) S0.out ?_
          try simp only [Act.put, List.setIfInBounds_toArray, List.set_cons_zero, List.set_cons_succ]
          refine wpAnyH_ready (rs := [5]) (by kernel_rfl) (by simp) ?_
          refine AllReadyH.cons (o := { dst := some 73, op := Go.Op.call { callee := Go.Callee.value (Go.Operand.func 15), args := #[Go.Operand.tmp 68, Go.Operand.tmp 72], argTypes := #[33, 27] }, type := 4, pos := _, after := #[{ on := 0, ground := Go.Ground.data }, { on := 4, ground := Go.Ground.data }], guard := none }) rfl (fun K hK => ?_) AllReadyH.nil
          go_simp
          refine (has_is pa.1 pa.2 AA cA z r _ NPA.out.v ((VA.out.below BQ.out).below S0.out) hlA HZR.out HRA).mono ?_
          rintro e w1 ⟨rfl, b1⟩
          have S1 := Lib.hid (step_ S0.out b1)
          have W1 := Lib.hid (step_ W0.out b1)
          clear b1
          go_wp2_with fail
          refine hK.out _ _ S1.out (fun _ => ?_)
          clear hK K
          try simp only [Act.put, List.setIfInBounds_toArray, List.set_cons_zero, List.set_cons_succ]
          refine wpAnyH_ready (rs := [10]) (by kernel_rfl) (by simp) ?_
          refine AllReadyH.cons (o := { dst := some 78, op := Go.Op.call { callee := Go.Callee.value (Go.Operand.func 25), args := #[Go.Operand.tmp 77], argTypes := #[27] }, type := 4, pos := _, after := #[{ on := 9, ground := Go.Ground.data }, { on := 5, ground := Go.Ground.chain }], guard := none }) rfl (fun K hK => ?_) AllReadyH.nil
          go_simp
          refine (may_is z r _ HZR.out HRM).mono ?_
          rintro e w2 ⟨rfl, rfl⟩
          go_wp2_with fail
          refine hK.out _ _ S1.out (fun _ => ?_)
          clear hK K
          try simp only [Act.put, List.setIfInBounds_toArray, List.set_cons_zero, List.set_cons_succ]
          refine wpAnyH_take (i := 11) (oi := { dst := some 79, op := Go.Op.binOp Go.BinOp.neq 4 (Go.Operand.tmp 73) (Go.Operand.tmp 78) 4, type := 4, pos := _, after := #[{ on := 5, ground := Go.Ground.data }, { on := 10, ground := Go.Ground.data }], guard := none }) (v := ?_) rfl (by kernel_rfl) (by kernel_rfl) (by kernel_rfl) (fun _ _ _ h => h) (Or.inl ⟨by rfl, ?_⟩) S1.out ?_
          rotate_left
          · intro W hW; (go_simp; try with_reducible rfl)
          try simp only [Act.put, List.setIfInBounds_toArray, List.set_cons_zero, List.set_cons_succ]
          refine wpAnyH_done (by kernel_rfl) ?_ _
          refine NoPanic.normal ?_
          go_wp2_with fail
          go_roundw
          case rel => exact ⟨j + 1, by omega, by go_num, BQ.out.trans (S1.out.mono BQ.out.size)⟩
          case measure => simp [intOf]; omega
        · obtain rfl : l.length = j := by omega
          go_wp2_with (first
            | refine wpList_build rfl 33 _ rfl [] rfl _ built_s33z ?_
            | (refine wpList_alloc_s t33 rfl rfl ?_; intro gs w10 egs GS10 b10)
            | (refine wpList_store_s t33 rfl _ _ rfl gs vz vz _ none 0 0 rfl rfl GS10.out vz_len vz_len ?_; intro w11 GS11 o11)
            | refine wpList_subz rfl _ rfl m.length rfl (by omega) ?_)
          have egs' := egs.out
          have B11 := Lib.hid ((step_ BW.out b10.out).trans (o11.out.below (by have := BW.out.size; omega) (step_ BW.out b10.out).size))
          have Q11 := Lib.hid (show Below gs wr w11 from (b10.out.mono (by omega)).trans (o11.out.below (Nat.le_refl _) (by have := b10.out.size; omega)))
          have hgsw := Lib.hid (show wr.heap.size ≤ gs by omega)
          have VA4 := Lib.hid ((VA.out.below BQ.out).keep hgsw.out Q11.out)
          have VJ3 := Lib.hid ((VJ.out.below BQ.out).keep hgsw.out Q11.out)
          have GJ3 := Lib.hid ((GJ.out.below BQ.out).upto Q11.out (by have := (GJ.out.below BQ.out).lt; omega))
          have hgs1 := Lib.hid (show gs < w11.heap.size from GS11.out.lt)
          have hgsW := Lib.hid (show w.heap.size ≤ gs by have := BW.out.size; omega)
          have hgj := Lib.hid (show gj < gs by have := (GJ.out.below BQ.out).lt; omega)
          have VJB := Lib.hid (show 0 < pj.2.length → ∀ kk, (Value.slice AJ pj.2.length cJ).ownBlock = some kk → kk < gs from fun h0 kk hkk => by have := (VJ.out.below BQ.out).lt h0 kk hkk; omega)
          have NZ := Lib.hid (show (vz, ([] : List Int)) = nrm vz (m.drop m.length).reverse by rw [List.drop_length, List.reverse_nil, nrm_self vz_ok (Nf.nil _)])
          clear GS10 b10 o11 egs egs'
          go_loopw [13] (fun i wq => ∃ (q : Nat) (s : List Int × List Int) (As : Option Addr) (cs : Nat), q ≤ m.length ∧ i = .int .i64 ((q : Int) - 1) ∧ s = nrm vz (m.drop q).reverse ∧ Blk wq gs 33 (sc s.1 (.slice As s.2.length cs)) ∧ NumsAt wq (.slice As s.2.length cs) s.2 ∧ Below gs w11 wq ∧ gs < wq.heap.size) (fun i _ => (intOf i + 1).toNat)
          case atStart => exact ⟨m.length, (vz, []), none, 0, Nat.le_refl _, rfl, NZ.out, GS11.out, nums_at_nil _, Below.refl _ _, hgs1.out⟩
          case round =>
            clear BQ BW GS11
            obtain ⟨q', s, As, cs, hq, rfl, hs, hg, hv, hb, hgl⟩ := hrel
            have HS := Lib.hid hs
            have GS := Lib.hid hg
            have VS := Lib.hid hv
            have BS := Lib.hid hb
            have NPS := Lib.hid (hs ▸ nrm_of vz_ok (m.drop q').reverse)
            have hsl : s.2.length ≤ 2000 := by have := NPS.out.len; rw [List.length_reverse, List.length_drop] at this; omega
            clear hs hg hv hb
            have BV := Lib.hid (B11.out.trans (BS.out.mono hgsW.out))
            by_cases hq0 : q' = 0
            · subst hq0
              have HSM := Lib.hid (show nrm s.1 (s.2 ++ l) = pj by rw [HS.out, List.drop_zero, nrm_nrm vz_ok, nrm_rev]; exact HPJ.out)
              have VJ5 := Lib.hid (VJ3.out.keep (Nat.le_refl _) (show Below w11.heap.size w11 w11 from Below.refl _ _))
              have GJ5 := Lib.hid (GJ3.out.upto BS.out hgj.out)
              go_wp2_with (refine wpList_load_s t33 rfl _ rfl gs s.1 _ rfl GS.out NPS.out.v.len ?_)
              refine (add_is s.1 s.2 l As A1 cs e1 wr NPS.out.v VS.out (H1.out.below BV.out) (by omega) (by omega) pj HSM).mono ?_
              rintro e wy ⟨AS, cS, rfl, vy, by_⟩
              have GSY := Lib.hid (GS.out.below by_)
              have VSY := Lib.hid vy.at_
              have GJY := Lib.hid (GJ5.out.below by_)
              have BY := Lib.hid (step_ BV.out by_)
              have BZ := Lib.hid (show Below gs w11 wy from BS.out.trans (by_.mono (Nat.le_of_lt hgl)))
              clear vy by_
              go_wp2_with (refine wpList_store_s t33 rfl _ _ rfl gs s.1 pj.1 _ AS pj.2.length cS rfl rfl GSY.out NPS.out.v.len NPJ.out.v.len ?_; intro wz GS4 oz)
              have GJ4 := Lib.hid (GJY.out.only oz.out (by have := hgj.out; omega))
              have VS4 := Lib.hid (VSY.out.only_s GSY.out (fun x => by intro h; cases h) oz.out)
              have BZ2 := Lib.hid (show Below gs w11 wz from BZ.out.trans (oz.out.below (Nat.le_refl _) (Nat.le_of_lt GSY.out.lt)))
              have VJ4 := Lib.hid (VJ3.out.upto0 BZ2.out VJB.out)
              have BZW := Lib.hid (BY.out.trans (oz.out.below hgsW.out BY.out.size))
              have hw1 : IntKind.i64.wrap ((l.length : Int) + (m.length : Int)) = (l.length : Int) + (m.length : Int) := by rw [IntKind.wrap_i64]; omega
              have hw2 : IntKind.u64.wrap ((l.length : Int) + (m.length : Int)) = (l.length : Int) + (m.length : Int) := by rw [IntKind.wrap_u64]; omega
              have hle : decide (nj ≤ (l.length : Int) + (m.length : Int)) = true := decide_eq_true hnjle
              have S0 := Lib.hid (show Below wz.heap.size wz wz.drew from below_drew (Below.refl _ _))
              have W0 := Lib.hid (step_ BZW.out S0.out)
              simp only [Act.put]
              refine wp_region_noPanic ?_
              refine wp_region_held_drew (S := fun W => Below wz.heap.size wz W) (by kernel_rfl) S0.out (fun _ => ?_)
              refine wpAnyH_take (i := 0) (oi := { dst := some 98, op := Go.Op.load 33 (Go.Operand.tmp 9), type := 33, pos := _, after := #[], guard := none }) (v := .agg (sc pj.1 (.slice AJ pj.2.length cJ)).toArray) rfl (by kernel_rfl) (by kernel_rfl) (by kernel_rfl) (fun _ _ _ h => h) (yieldsIf_load_mid (by rfl) 33 (.tmp 9) rfl gj 0 rfl (sc pj.1 (.slice AJ pj.2.length cJ)) _ (fun W hW => (GJ4.out.below hW).range) Try.underlying33 rfl (t33.size NPJ.out.v.len)) S0.out ?_
              try simp only [Act.put, List.setIfInBounds_toArray, List.set_cons_zero, List.set_cons_succ]
              refine wpAnyH_ready (rs := [1]) (by kernel_rfl) (by simp) ?_
              refine AllReadyH.cons (o := { dst := some 99, op := Go.Op.call { callee := Go.Callee.value (Go.Operand.func 13), args := #[Go.Operand.tmp 98], argTypes := #[33] }, type := 4, pos := _, after := #[{ on := 0, ground := Go.Ground.data }], guard := none }) rfl (fun K hK => ?_) AllReadyH.nil
              go_simp
              refine (right_is pj.1 pj.2 AJ cJ true _ NPJ.out.v (VJ4.out.below S0.out) hlJ HRR).mono ?_
              rintro e w1 ⟨rfl, b1⟩
              have S1 := Lib.hid (step_ S0.out b1)
              have W1 := Lib.hid (step_ W0.out b1)
              clear b1
              go_wp2_with fail
              refine hK.out _ _ S1.out (fun _ => ?_)
              clear hK K
              try simp only [Act.put, List.setIfInBounds_toArray, List.set_cons_zero, List.set_cons_succ]
              refine wpAnyH_take (i := 2) (oi := { dst := some 100, op := Go.Op.move (Go.Operand.tmp 99), type := 4, pos := _, after := #[{ on := 1, ground := Go.Ground.data }, { on := 1, ground := Go.Ground.chain }], guard := none }) (v := ?_) rfl (by kernel_rfl) (by kernel_rfl) (by kernel_rfl) (fun _ _ _ h => h) (Or.inl ⟨by rfl, ?_⟩) S1.out ?_
              rotate_left
              · intro W hW; (go_simp; try with_reducible rfl)
              try simp only [Act.put, List.setIfInBounds_toArray, List.set_cons_zero, List.set_cons_succ]
              refine wpAnyH_take (i := 3) (oi := { dst := some 101, op := Go.Op.load 33 (Go.Operand.tmp 12), type := 33, pos := _, after := #[{ on := 2, ground := Go.Ground.guard }], guard := some (2, true) }) (v := .agg (sc pj.1 (.slice AS pj.2.length cS)).toArray) rfl (by kernel_rfl) (by kernel_rfl) (by kernel_rfl) (fun _ _ _ h => h) (yieldsIf_load_mid (by rfl) 33 (.tmp 12) rfl gs 0 rfl (sc pj.1 (.slice AS pj.2.length cS)) _ (fun W hW => (GS4.out.below hW).range) Try.underlying33 rfl (t33.size NPJ.out.v.len)) S1.out ?_
              try simp only [Act.put, List.setIfInBounds_toArray, List.set_cons_zero, List.set_cons_succ]
              refine wpAnyH_take (i := 4) (oi := { dst := some 102, op := Go.Op.load 33 (Go.Operand.tmp 9), type := 33, pos := _, after := #[{ on := 2, ground := Go.Ground.guard }], guard := some (2, true) }) (v := .agg (sc pj.1 (.slice AJ pj.2.length cJ)).toArray) rfl (by kernel_rfl) (by kernel_rfl) (by kernel_rfl) (fun _ _ _ h => h) (yieldsIf_load_mid (by rfl) 33 (.tmp 9) rfl gj 0 rfl (sc pj.1 (.slice AJ pj.2.length cJ)) _ (fun W hW => (GJ4.out.below hW).range) Try.underlying33 rfl (t33.size NPJ.out.v.len)) S1.out ?_
              try simp only [Act.put, List.setIfInBounds_toArray, List.set_cons_zero, List.set_cons_succ]
              refine wpAnyH_ready (rs := [5]) (by kernel_rfl) (by simp) ?_
              refine AllReadyH.cons (o := { dst := some 103, op := Go.Op.call { callee := Go.Callee.value (Go.Operand.func 24), args := #[Go.Operand.tmp 101, Go.Operand.tmp 102], argTypes := #[33, 33] }, type := 4, pos := _, after := #[{ on := 3, ground := Go.Ground.data }, { on := 4, ground := Go.Ground.data }, { on := 2, ground := Go.Ground.chain }, { on := 2, ground := Go.Ground.guard }], guard := some (2, true) }) rfl (fun K hK => ?_) AllReadyH.nil
              go_simp
              refine (same_is pj.1 pj.2 pj.1 pj.2 AS AJ cS cJ true _ NPJ.out.v NPJ.out.v (VS4.out.below S1.out) (VJ4.out.below S1.out) hlJ hlJ (Lib.hid (by simp))).mono ?_
              rintro e w2 ⟨rfl, b2⟩
              have S2 := Lib.hid (step_ S1.out b2)
              have W2 := Lib.hid (step_ W1.out b2)
              clear b2
              go_wp2_with fail
              refine hK.out _ _ S2.out (fun _ => ?_)
              clear hK K
              try simp only [Act.put, List.setIfInBounds_toArray, List.set_cons_zero, List.set_cons_succ]
              refine wpAnyH_take (i := 6) (oi := { dst := some 104, op := Go.Op.pick (Go.Operand.tmp 100) (Go.Operand.tmp 103) (Go.Operand.const (Go.Value.bool false)), type := 4, pos := _, after := #[{ on := 2, ground := Go.Ground.data }, { on := 5, ground := Go.Ground.data }], guard := none }) (v := ?_) rfl (by kernel_rfl) (by kernel_rfl) (by kernel_rfl) (fun _ _ _ h => h) (Or.inl ⟨by rfl, ?_⟩) S2.out ?_
              rotate_left
              · intro W hW; (go_simp; try with_reducible rfl)
              try simp only [Act.put, List.setIfInBounds_toArray, List.set_cons_zero, List.set_cons_succ]
              refine wpAnyH_take (i := 7) (oi := { dst := some 105, op := Go.Op.move (Go.Operand.tmp 104), type := 4, pos := _, after := #[{ on := 6, ground := Go.Ground.data }, { on := 5, ground := Go.Ground.chain }], guard := none }) (v := ?_) rfl (by kernel_rfl) (by kernel_rfl) (by kernel_rfl) (fun _ _ _ h => h) (Or.inl ⟨by rfl, ?_⟩) S2.out ?_
              rotate_left
              · intro W hW; (go_simp; try with_reducible rfl)
              try simp only [Act.put, List.setIfInBounds_toArray, List.set_cons_zero, List.set_cons_succ]
              refine wpAnyH_take (i := 8) (oi := { dst := some 106, op := Go.Op.load 33 (Go.Operand.tmp 12), type := 33, pos := _, after := #[{ on := 7, ground := Go.Ground.guard }], guard := some (7, true) }) (v := .agg (sc pj.1 (.slice AS pj.2.length cS)).toArray) rfl (by kernel_rfl) (by kernel_rfl) (by kernel_rfl) (fun _ _ _ h => h) (yieldsIf_load_mid (by rfl) 33 (.tmp 12) rfl gs 0 rfl (sc pj.1 (.slice AS pj.2.length cS)) _ (fun W hW => (GS4.out.below hW).range) Try.underlying33 rfl (t33.size NPJ.out.v.len)) S2.out ?_
              try simp only [Act.put, List.setIfInBounds_toArray, List.set_cons_zero, List.set_cons_succ]
              refine wpAnyH_take (i := 10) (oi := { dst := some 108, op := Go.Op.load 33 (Go.Operand.tmp 9), type := 33, pos := _, after := #[{ on := 7, ground := Go.Ground.guard }], guard := some (7, true) }) (v := .agg (sc pj.1 (.slice AJ pj.2.length cJ)).toArray) rfl (by kernel_rfl) (by kernel_rfl) (by kernel_rfl) (fun _ _ _ h => h) (yieldsIf_load_mid (by rfl) 33 (.tmp 9) rfl gj 0 rfl (sc pj.1 (.slice AJ pj.2.length cJ)) _ (fun W hW => (GJ4.out.below hW).range) Try.underlying33 rfl (t33.size NPJ.out.v.len)) S2.out ?_
              try simp only [Act.put, List.setIfInBounds_toArray, List.set_cons_zero, List.set_cons_succ]
              refine wpAnyH_ready (rs := [9]) (by kernel_rfl) (by simp) ?_
              refine AllReadyH.cons (o := { dst := some 107, op := Go.Op.call { callee := Go.Callee.value (Go.Operand.func 8), args := #[Go.Operand.tmp 106], argTypes := #[33] }, type := 26, pos := _, after := #[{ on := 8, ground := Go.Ground.data }, { on := 7, ground := Go.Ground.chain }, { on := 7, ground := Go.Ground.guard }], guard := some (7, true) }) rfl (fun K hK => ?_) AllReadyH.nil
              go_simp
              refine (from_is pj.1 AS pj.2.length cS _ NPJ.out.v.len).mono ?_
              rintro e w3 ⟨rfl, b3⟩
              have S3 := Lib.hid (step_ S2.out b3)
              have W3 := Lib.hid (step_ W2.out b3)
              clear b3
              go_wp2_with fail
              refine hK.out _ _ S3.out (fun _ => ?_)
              clear hK K
              try simp only [Act.put, List.setIfInBounds_toArray, List.set_cons_zero, List.set_cons_succ]
              refine wpAnyH_ready (rs := [11]) (by kernel_rfl) (by simp) ?_
              refine AllReadyH.cons (o := { dst := some 109, op := Go.Op.call { callee := Go.Callee.value (Go.Operand.func 8), args := #[Go.Operand.tmp 108], argTypes := #[33] }, type := 26, pos := _, after := #[{ on := 10, ground := Go.Ground.data }, { on := 9, ground := Go.Ground.chain }, { on := 7, ground := Go.Ground.guard }], guard := some (7, true) }) rfl (fun K hK => ?_) AllReadyH.nil
              go_simp
              refine (from_is pj.1 AJ pj.2.length cJ _ NPJ.out.v.len).mono ?_
              rintro e w4 ⟨rfl, b4⟩
              have S4 := Lib.hid (step_ S3.out b4)
              have W4 := Lib.hid (step_ W3.out b4)
              clear b4
              go_wp2_with fail
              refine hK.out _ _ S4.out (fun _ => ?_)
              clear hK K
              try simp only [Act.put, List.setIfInBounds_toArray, List.set_cons_zero, List.set_cons_succ]
              refine wpAnyH_ready (rs := [12]) (by kernel_rfl) (by simp) ?_
              refine AllReadyH.cons (o := { dst := some 110, op := Go.Op.call { callee := Go.Callee.value (Go.Operand.func 7), args := #[Go.Operand.tmp 107, Go.Operand.tmp 109], argTypes := #[26, 26] }, type := 4, pos := _, after := #[{ on := 9, ground := Go.Ground.data }, { on := 11, ground := Go.Ground.data }, { on := 11, ground := Go.Ground.chain }, { on := 7, ground := Go.Ground.guard }], guard := some (7, true) }) rfl (fun K hK => ?_) AllReadyH.nil
              go_simp
              refine (rsame_is pj.1 pj.2 pj.1 pj.2 AS AJ cS cJ true _ NPJ.out.v NPJ.out.v (VS4.out.below S4.out) (VJ4.out.below S4.out) (by omega) (Lib.hid (by simp))).mono ?_
              rintro e w5 ⟨rfl, b5⟩
              have S5 := Lib.hid (step_ S4.out b5)
              have W5 := Lib.hid (step_ W4.out b5)
              clear b5
              go_wp2_with fail
              refine hK.out _ _ S5.out (fun _ => ?_)
              clear hK K
              try simp only [Act.put, List.setIfInBounds_toArray, List.set_cons_zero, List.set_cons_succ]
              refine wpAnyH_take (i := 13) (oi := { dst := some 111, op := Go.Op.pick (Go.Operand.tmp 105) (Go.Operand.tmp 110) (Go.Operand.const (Go.Value.bool false)), type := 4, pos := _, after := #[{ on := 7, ground := Go.Ground.data }, { on := 12, ground := Go.Ground.data }], guard := none }) (v := ?_) rfl (by kernel_rfl) (by kernel_rfl) (by kernel_rfl) (fun _ _ _ h => h) (Or.inl ⟨by rfl, ?_⟩) S5.out ?_
              rotate_left
              · intro W hW; (go_simp; try with_reducible rfl)
              try simp only [Act.put, List.setIfInBounds_toArray, List.set_cons_zero, List.set_cons_succ]
              refine wpAnyH_take (i := 14) (oi := { dst := some 112, op := Go.Op.move (Go.Operand.tmp 111), type := 4, pos := _, after := #[{ on := 13, ground := Go.Ground.data }, { on := 12, ground := Go.Ground.chain }], guard := none }) (v := ?_) rfl (by kernel_rfl) (by kernel_rfl) (by kernel_rfl) (fun _ _ _ h => h) (Or.inl ⟨by rfl, ?_⟩) S5.out ?_
              rotate_left
              · intro W hW; (go_simp; try with_reducible rfl)
              try simp only [Act.put, List.setIfInBounds_toArray, List.set_cons_zero, List.set_cons_succ]
              refine wpAnyH_take (i := 15) (oi := { dst := some 113, op := Go.Op.load 33 (Go.Operand.tmp 9), type := 33, pos := _, after := #[{ on := 14, ground := Go.Ground.guard }], guard := some (14, true) }) (v := .agg (sc pj.1 (.slice AJ pj.2.length cJ)).toArray) rfl (by kernel_rfl) (by kernel_rfl) (by kernel_rfl) (fun _ _ _ h => h) (yieldsIf_load_mid (by rfl) 33 (.tmp 9) rfl gj 0 rfl (sc pj.1 (.slice AJ pj.2.length cJ)) _ (fun W hW => (GJ4.out.below hW).range) Try.underlying33 rfl (t33.size NPJ.out.v.len)) S5.out ?_
              try simp only [Act.put, List.setIfInBounds_toArray, List.set_cons_zero, List.set_cons_succ]
              refine wpAnyH_take (i := 17) (oi := { dst := some 115, op := Go.Op.move (Go.Operand.tmp 0), type := 24, pos := _, after := #[{ on := 14, ground := Go.Ground.guard }], guard := some (14, true) }) (v := ?_) rfl (by kernel_rfl) (by kernel_rfl) (by kernel_rfl) (fun _ _ _ h => h) (Or.inl ⟨by rfl, ?_⟩) S5.out ?_
              rotate_left
              · intro W hW; (go_simp; try with_reducible rfl)
              try simp only [Act.put, List.setIfInBounds_toArray, List.set_cons_zero, List.set_cons_succ]
              refine wpAnyH_take (i := 18) (oi := { dst := some 116, op := Go.Op.call { callee := Go.Callee.builtin Go.Builtin.len, args := #[Go.Operand.tmp 115], argTypes := #[24] }, type := 3, pos := _, after := #[{ on := 17, ground := Go.Ground.data }, { on := 14, ground := Go.Ground.guard }], guard := some (14, true) }) (v := ?_) rfl (by kernel_rfl) (by kernel_rfl) (by kernel_rfl) (fun _ _ _ h => h) (Or.inl ⟨by rfl, ?_⟩) S5.out ?_
              rotate_left
              · intro W hW; (go_simp; try with_reducible rfl)
              try simp only [Act.put, List.setIfInBounds_toArray, List.set_cons_zero, List.set_cons_succ]
              refine wpAnyH_take (i := 19) (oi := { dst := some 117, op := Go.Op.move (Go.Operand.tmp 1), type := 24, pos := _, after := #[{ on := 14, ground := Go.Ground.guard }], guard := some (14, true) }) (v := ?_) rfl (by kernel_rfl) (by kernel_rfl) (by kernel_rfl) (fun _ _ _ h => h) (Or.inl ⟨by rfl, ?_⟩) S5.out ?_
              rotate_left
              · intro W hW; (go_simp; try with_reducible rfl)
              try simp only [Act.put, List.setIfInBounds_toArray, List.set_cons_zero, List.set_cons_succ]
              refine wpAnyH_take (i := 20) (oi := { dst := some 118, op := Go.Op.call { callee := Go.Callee.builtin Go.Builtin.len, args := #[Go.Operand.tmp 117], argTypes := #[24] }, type := 3, pos := _, after := #[{ on := 19, ground := Go.Ground.data }, { on := 14, ground := Go.Ground.guard }], guard := some (14, true) }) (v := ?_) rfl (by kernel_rfl) (by kernel_rfl) (by kernel_rfl) (fun _ _ _ h => h) (Or.inl ⟨by rfl, ?_⟩) S5.out ?_
              rotate_left
              · intro W hW; (go_simp; try with_reducible rfl)
              try simp only [Act.put, List.setIfInBounds_toArray, List.set_cons_zero, List.set_cons_succ]
              refine wpAnyH_take (i := 21) (oi := { dst := some 119, op := Go.Op.binOp Go.BinOp.add 3 (Go.Operand.tmp 116) (Go.Operand.tmp 118) 3, type := 3, pos := _, after := #[{ on := 18, ground := Go.Ground.data }, { on := 20, ground := Go.Ground.data }, { on := 14, ground := Go.Ground.guard }], guard := some (14, true) }) (v := .int .i64 ((l.length : Int) + (m.length : Int))) rfl (by kernel_rfl) (by kernel_rfl) (by kernel_rfl) (fun _ _ _ h => h) (Or.inl ⟨by rfl, fun W hW => exec_add_ll (.tmp 116) (.tmp 118) rfl l.length m.length rfl rfl (by omega) (by omega)⟩) S5.out ?_
              try simp only [Act.put, List.setIfInBounds_toArray, List.set_cons_zero, List.set_cons_succ]
              refine wpAnyH_take (i := 22) (oi := { dst := some 120, op := Go.Op.convert 3 27 (Go.Operand.tmp 119), type := 27, pos := _, after := #[{ on := 21, ground := Go.Ground.data }, { on := 14, ground := Go.Ground.guard }], guard := some (14, true) }) (v := .int .u64 ((l.length : Int) + (m.length : Int))) rfl (by kernel_rfl) (by kernel_rfl) (by kernel_rfl) (fun _ _ _ h => h) (Or.inl ⟨by rfl, fun W hW => exec_conv_ll (.tmp 119) rfl _ rfl (by omega)⟩) S5.out ?_
              try simp only [Act.put, List.setIfInBounds_toArray, List.set_cons_zero, List.set_cons_succ]
              refine wpAnyH_ready (rs := [16]) (by kernel_rfl) (by simp) ?_
              refine AllReadyH.cons (o := { dst := some 114, op := Go.Op.call { callee := Go.Callee.value (Go.Operand.func 17), args := #[Go.Operand.tmp 113], argTypes := #[33] }, type := 27, pos := _, after := #[{ on := 15, ground := Go.Ground.data }, { on := 14, ground := Go.Ground.chain }, { on := 14, ground := Go.Ground.guard }], guard := some (14, true) }) rfl (fun K hK => ?_) AllReadyH.nil
              go_simp
              refine (count_is pj.1 pj.2 AJ cJ nj _ NPJ.out.v (VJ4.out.below S5.out) hlJ HNJ).mono ?_
              rintro e w6 ⟨rfl, b6⟩
              have S6 := Lib.hid (step_ S5.out b6)
              have W6 := Lib.hid (step_ W5.out b6)
              clear b6
              go_wp2_with fail
              refine hK.out _ _ S6.out (fun _ => ?_)
              clear hK K
              try simp only [Act.put, List.setIfInBounds_toArray, List.set_cons_zero, List.set_cons_succ]
              refine wpAnyH_take (i := 23) (oi := { dst := some 121, op := Go.Op.binOp Go.BinOp.leq 27 (Go.Operand.tmp 114) (Go.Operand.tmp 120) 27, type := 4, pos := _, after := #[{ on := 16, ground := Go.Ground.data }, { on := 22, ground := Go.Ground.data }, { on := 14, ground := Go.Ground.guard }], guard := some (14, true) }) (v := .bool true) rfl (by kernel_rfl) (by kernel_rfl) (by kernel_rfl) (fun _ _ _ h => h) (Or.inl ⟨by rfl, fun W hW => exec_leq_u (.tmp 114) (.tmp 120) rfl nj _ rfl rfl hnjle⟩) S6.out ?_
              try simp only [Act.put, List.setIfInBounds_toArray, List.set_cons_zero, List.set_cons_succ]
              refine wpAnyH_take (i := 24) (oi := { dst := some 122, op := Go.Op.pick (Go.Operand.tmp 112) (Go.Operand.tmp 121) (Go.Operand.const (Go.Value.bool false)), type := 4, pos := _, after := #[{ on := 14, ground := Go.Ground.data }, { on := 23, ground := Go.Ground.data }], guard := none }) (v := ?_) rfl (by kernel_rfl) (by kernel_rfl) (by kernel_rfl) (fun _ _ _ h => h) (Or.inl ⟨by rfl, ?_⟩) S6.out ?_
              rotate_left
              · intro W hW; (go_simp; try with_reducible rfl)
              try simp only [Act.put, List.setIfInBounds_toArray, List.set_cons_zero, List.set_cons_succ]
              refine wpAnyH_take (i := 25) (oi := { dst := some 123, op := Go.Op.move (Go.Operand.tmp 122), type := 4, pos := _, after := #[{ on := 24, ground := Go.Ground.data }, { on := 16, ground := Go.Ground.chain }], guard := none }) (v := ?_) rfl (by kernel_rfl) (by kernel_rfl) (by kernel_rfl) (fun _ _ _ h => h) (Or.inl ⟨by rfl, ?_⟩) S6.out ?_
              rotate_left
              · intro W hW; (go_simp; try with_reducible rfl)
              try simp only [Act.put, List.setIfInBounds_toArray, List.set_cons_zero, List.set_cons_succ]
              refine wpAnyH_ready (rs := [26]) (by kernel_rfl) (by simp) ?_
              refine AllReadyH.cons (o := { dst := some 124, op := Go.Op.call { callee := Go.Callee.value (Go.Operand.func 6), args := #[], argTypes := #[] }, type := 4, pos := _, after := #[{ on := 25, ground := Go.Ground.chain }, { on := 25, ground := Go.Ground.guard }], guard := some (25, true) }) rfl (fun K hK => ?_) AllReadyH.nil
              go_simp
              refine (aliveD_is _).mono ?_
              rintro e w7 ⟨rfl, b7⟩
              have S7 := Lib.hid (step_ S6.out b7)
              have W7 := Lib.hid (step_ W6.out b7)
              clear b7
              go_wp2_with fail
              refine hK.out _ _ S7.out (fun _ => ?_)
              clear hK K
              try simp only [Act.put, List.setIfInBounds_toArray, List.set_cons_zero, List.set_cons_succ]
              refine wpAnyH_take (i := 27) (oi := { dst := some 125, op := Go.Op.pick (Go.Operand.tmp 123) (Go.Operand.tmp 124) (Go.Operand.const (Go.Value.bool false)), type := 4, pos := _, after := #[{ on := 25, ground := Go.Ground.data }, { on := 26, ground := Go.Ground.data }], guard := none }) (v := ?_) rfl (by kernel_rfl) (by kernel_rfl) (by kernel_rfl) (fun _ _ _ h => h) (Or.inl ⟨by rfl, ?_⟩) S7.out ?_
              rotate_left
              · intro W hW; (go_simp; try with_reducible rfl)
              try simp only [Act.put, List.setIfInBounds_toArray, List.set_cons_zero, List.set_cons_succ]
              refine wpAnyH_take (i := 28) (oi := { dst := some 6, op := Go.Op.assign (Go.Operand.tmp 125), type := 4, pos := _, after := #[{ on := 27, ground := Go.Ground.data }, { on := 26, ground := Go.Ground.chain }, { on := 0, ground := Go.Ground.phase }, { on := 1, ground := Go.Ground.phase }, { on := 2, ground := Go.Ground.phase }, { on := 3, ground := Go.Ground.phase }, { on := 4, ground := Go.Ground.phase }, { on := 5, ground := Go.Ground.phase }, { on := 6, ground := Go.Ground.phase }, { on := 7, ground := Go.Ground.phase }, { on := 8, ground := Go.Ground.phase }, { on := 9, ground := Go.Ground.phase }, { on := 10, ground := Go.Ground.phase }, { on := 11, ground := Go.Ground.phase }, { on := 12, ground := Go.Ground.phase }, { on := 13, ground := Go.Ground.phase }, { on := 14, ground := Go.Ground.phase }, { on := 15, ground := Go.Ground.phase }, { on := 16, ground := Go.Ground.phase }, { on := 17, ground := Go.Ground.phase }, { on := 18, ground := Go.Ground.phase }, { on := 19, ground := Go.Ground.phase }, { on := 20, ground := Go.Ground.phase }, { on := 21, ground := Go.Ground.phase }, { on := 22, ground := Go.Ground.phase }, { on := 23, ground := Go.Ground.phase }, { on := 24, ground := Go.Ground.phase }, { on := 25, ground := Go.Ground.phase }, { on := 26, ground := Go.Ground.phase }, { on := 27, ground := Go.Ground.phase }], guard := none }) (v := ?_) rfl (by kernel_rfl) (by kernel_rfl) (by kernel_rfl) (fun _ _ _ h => h) (Or.inl ⟨by rfl, ?_⟩) S7.out ?_
              rotate_left
              · intro W hW; (go_simp; try with_reducible rfl)
              try simp only [Act.put, List.setIfInBounds_toArray, List.set_cons_zero, List.set_cons_succ]
              refine wpAnyH_done (by kernel_rfl) ?_ _
              refine NoPanic.normal ?_
              go_wp2_with fail
              go_ret
              exact ⟨rfl, W7.out⟩
            · obtain ⟨q, rfl⟩ : ∃ q, q' = q + 1 := ⟨q' - 1, by omega⟩
              have eq1 : (((q + 1 : Nat) : Int) - 1) = (q : Int) := by omega
              rw [eq1]
              have hge : decide ((0 : Int) ≤ (q : Int)) = true := decide_eq_true (by omega)
              have hqm : q < m.length := by omega
              obtain ⟨G, p, hE, hc, hG⟩ := (H2.out.below BV.out).elem q hqm
              have hGw : G < w.heap.size := by
                obtain ⟨G', p', hE', _, hG'⟩ := H2.out.elem q hqm
                obtain ⟨o1, x1, _⟩ := hE.ad
                obtain ⟨o2, x2, _⟩ := hE'.ad
                rw [x1] at x2
                simp only [Option.some.injEq, Addr.mk.injEq] at x2
                omega
              have E := Lib.hid hE
              obtain ⟨z, hz⟩ : ∃ z, m.getD q 0 = z := ⟨_, rfl⟩
              have HZR := Lib.hid (hz ▸ H2.out.nums.at_ q)
              obtain ⟨s2, hs2⟩ : ∃ s2, nrm s.1 (s.2 ++ [z]) = s2 := ⟨_, rfl⟩
              have HS2 := Lib.hid hs2
              have HS3 := Lib.hid (show s2 = nrm vz (m.drop q).reverse by rw [← hs2, HS.out, nrm_nrm vz_ok, rev_nx hqm, hz])
              have NPS2 := Lib.hid (hs2 ▸ nrm_of NPS.out.v (s.2 ++ [z]))
              rw [hz] at hc
              have BG := Lib.hid (show G < gs from Nat.lt_of_lt_of_le hGw hgsW.out)
              have CZ := Lib.hid hc
              clear hE hz hs2 hGw hG hc
              have S0 := Lib.hid (show Below gs wr wr.drew from below_drew (Below.refl _ _))
              have SD := Lib.hid GS.out.drew
              have SA := Lib.hid (show Below gs wr (wr.drew.alloc (.cells #[.int .u64 z] 27)) from S0.out.trans ((new_below wr.drew (.cells #[.int .u64 z] 27)).mono (Nat.le_of_lt SD.out.lt)))
              have SE := Lib.hid (SD.out.alloc (.cells #[.int .u64 z] 27))
              have VE := Lib.hid ((VS.out.below (show Below wr.heap.size wr wr.drew from below_drew (Below.refl _ _))).below (new_below wr.drew (.cells #[.int .u64 z] 27)))
              have NE := Lib.hid ((own_num1 wr.drew z HZR.out wr.drew.heap.size (Nat.le_refl _)).at_)
              go_wp2_with fail
              refine wp_region_noPanic ?_
              refine wp_region_held_drew (S := fun W => Below gs wr W) (by kernel_rfl) S0.out (fun _ => ?_)
              refine wpAnyH_take (i := 1) (oi := { dst := some 89, op := Go.Op.move (Go.Operand.tmp 1), type := 24, pos := _, after := #[], guard := none }) (v := ?_) rfl (by kernel_rfl) (by kernel_rfl) (by kernel_rfl) (fun _ _ _ h => h) (Or.inl ⟨by rfl, ?_⟩) S0.out ?_
              rotate_left
              · intro W hW; (go_simp; try with_reducible rfl)
              try simp only [Act.put, List.setIfInBounds_toArray, List.set_cons_zero, List.set_cons_succ]
              refine wpAnyH_take (i := 2) (oi := { dst := some 90, op := Go.Op.move (Go.Operand.tmp 13), type := 3, pos := _, after := #[], guard := none }) (v := ?_) rfl (by kernel_rfl) (by kernel_rfl) (by kernel_rfl) (fun _ _ _ h => h) (Or.inl ⟨by rfl, ?_⟩) S0.out ?_
              rotate_left
              · intro W hW; (go_simp; try with_reducible rfl)
              try simp only [Act.put, List.setIfInBounds_toArray, List.set_cons_zero, List.set_cons_succ]
              refine wpAnyH_take (i := 3) (oi := { dst := some 91, op := Go.Op.indexAddr 24 (Go.Operand.tmp 89) (Go.Operand.tmp 90), type := 0, pos := _, after := #[{ on := 1, ground := Go.Ground.data }, { on := 2, ground := Go.Ground.data }], guard := none }) (v := .pointer (some ⟨G, p, none⟩)) rfl (by kernel_rfl) (by kernel_rfl) (by kernel_rfl) (fun _ _ _ h => h) (Or.inl ⟨by rfl, fun W hW => exec_indexN u24n (.tmp 89) (.tmp 90) rfl A2 _ _ G p q _ rfl rfl rfl E.out⟩) S0.out ?_
              try simp only [Act.put, List.setIfInBounds_toArray, List.set_cons_zero, List.set_cons_succ]
              refine wpAnyH_take (i := 4) (oi := { dst := some 92, op := Go.Op.load 27 (Go.Operand.tmp 91), type := 27, pos := _, after := #[{ on := 3, ground := Go.Ground.data }], guard := none }) (v := .int .u64 z) rfl (by kernel_rfl) (by kernel_rfl) (by kernel_rfl) (fun _ _ _ h => h) (Or.inl ⟨by rfl, fun W hW => exec_load_num (.tmp 91) rfl G p z rfl ((hW.cell (p := ⟨G, p, none⟩) BG.out).trans CZ.out)⟩) S0.out ?_
              try simp only [Act.put, List.setIfInBounds_toArray, List.set_cons_zero, List.set_cons_succ]
              refine wpAnyH_ready (rs := [0, 5]) (by kernel_rfl) (by simp) ?_
              refine ready_load_s t33 (o := { dst := some 88, op := Go.Op.load 33 (Go.Operand.tmp 12), type := 33, pos := _, after := #[], guard := none }) rfl rfl (.tmp 12) rfl gs s.1 _ rfl SD.out NPS.out.v.len ⟨S0.out, ?_⟩ ?_
              · try simp only [Act.put, List.setIfInBounds_toArray, List.set_cons_zero, List.set_cons_succ]
                refine wpAnyH_ready (rs := [5]) (by kernel_rfl) (by simp) ?_
                refine ready_val (o := { dst := some 93, op := Go.Op.buildSlice 24 1 #[(0, Go.Operand.tmp 92)], type := 24, pos := _, after := #[{ on := 4, ground := Go.Ground.data }], guard := none }) rfl rfl _ _ (exec_num1 u24n (.tmp 92) rfl z rfl) ⟨SA.out, ?_⟩ AllReadyH.nil
                try simp only [Act.put, List.setIfInBounds_toArray, List.set_cons_zero, List.set_cons_succ]
                refine wpAnyH_ready (rs := [6]) (by kernel_rfl) (by simp) ?_
                refine AllReadyH.cons (o := { dst := some 94, op := Go.Op.call { callee := Go.Callee.value (Go.Operand.func 11), args := #[Go.Operand.tmp 88, Go.Operand.tmp 93], argTypes := #[33, 24] }, type := 33, pos := _, after := #[{ on := 0, ground := Go.Ground.data }, { on := 5, ground := Go.Ground.data }], guard := none }) rfl (fun K hK => ?_) AllReadyH.nil
                go_simp
                refine (add_is s.1 s.2 [z] As (some ⟨wr.drew.heap.size, 0, none⟩) cs 1 _ NPS.out.v VE.out NE.out (by omega) (by simp) s2 HS2).mono ?_
                rintro e wx ⟨Ax, cx, rfl, vx, bx⟩
                have SB := Lib.hid (SA.out.trans (bx.mono (Nat.le_of_lt SE.out.lt)))
                have SF := Lib.hid (SE.out.below bx)
                have VX := Lib.hid vx.at_
                clear bx vx
                go_wp2_with fail
                refine hK.out _ _ SB.out (fun _ => ?_)
                clear hK K
                try simp only [Act.put, List.setIfInBounds_toArray, List.set_cons_zero, List.set_cons_succ]
                refine wpAnyH_ready (rs := [7]) (by kernel_rfl) (by simp) ?_
                refine ready_store_s t33 (o := { dst := none, op := Go.Op.store 33 (Go.Operand.tmp 12) (Go.Operand.tmp 94), type := 0, pos := _, after := #[{ on := 6, ground := Go.Ground.data }, { on := 6, ground := Go.Ground.chain }, { on := 0, ground := Go.Ground.phase }, { on := 1, ground := Go.Ground.phase }, { on := 2, ground := Go.Ground.phase }, { on := 3, ground := Go.Ground.phase }, { on := 4, ground := Go.Ground.phase }, { on := 5, ground := Go.Ground.phase }, { on := 6, ground := Go.Ground.phase }], guard := none }) rfl rfl (.tmp 12) (.tmp 94) rfl gs s.1 s2.1 _ Ax s2.2.length cx rfl rfl SF.out NPS.out.v.len NPS2.out.v.len (fun wy zy oy => ⟨SB.out.trans (oy.below (Nat.le_refl _) (Nat.le_of_lt SF.out.lt)), ?_⟩) AllReadyH.nil
                simp only [Act.put]
                refine wpAnyH_done (by kernel_rfl) ?_ _
                refine NoPanic.normal ?_
                have SG := Lib.hid (SB.out.trans (oy.below (Nat.le_refl _) (Nat.le_of_lt SF.out.lt)))
                have ZY := Lib.hid zy
                have VY := Lib.hid (VX.out.only_s SF.out (fun x => by intro h; cases h) oy)
                clear zy oy
                go_wp2_with (refine wpList_subz rfl _ rfl q rfl (by omega) ?_)
                go_roundw
                case rel => exact ⟨q, s2, Ax, cx, by omega, rfl, HS3.out, ZY.out, VY.out, BS.out.trans (SG.out.mono (Nat.le_refl _)), ZY.out.lt⟩
                case measure => first | (simp [intOf]; done) | (simp [intOf]; omega)
              refine ready_val (o := { dst := some 93, op := Go.Op.buildSlice 24 1 #[(0, Go.Operand.tmp 92)], type := 24, pos := _, after := #[{ on := 4, ground := Go.Ground.data }], guard := none }) rfl rfl _ _ (exec_num1 u24n (.tmp 92) rfl z rfl) ⟨SA.out, ?_⟩ AllReadyH.nil
              try simp only [Act.put, List.setIfInBounds_toArray, List.set_cons_zero, List.set_cons_succ]
              refine wpAnyH_ready (rs := [0]) (by kernel_rfl) (by simp) ?_
              refine ready_load_s t33 (o := { dst := some 88, op := Go.Op.load 33 (Go.Operand.tmp 12), type := 33, pos := _, after := #[], guard := none }) rfl rfl (.tmp 12) rfl gs s.1 _ rfl SE.out NPS.out.v.len ⟨SA.out, ?_⟩ AllReadyH.nil
              try simp only [Act.put, List.setIfInBounds_toArray, List.set_cons_zero, List.set_cons_succ]
              refine wpAnyH_ready (rs := [6]) (by kernel_rfl) (by simp) ?_
              refine AllReadyH.cons (o := { dst := some 94, op := Go.Op.call { callee := Go.Callee.value (Go.Operand.func 11), args := #[Go.Operand.tmp 88, Go.Operand.tmp 93], argTypes := #[33, 24] }, type := 33, pos := _, after := #[{ on := 0, ground := Go.Ground.data }, { on := 5, ground := Go.Ground.data }], guard := none }) rfl (fun K hK => ?_) AllReadyH.nil
              go_simp
              refine (add_is s.1 s.2 [z] As (some ⟨wr.drew.heap.size, 0, none⟩) cs 1 _ NPS.out.v VE.out NE.out (by omega) (by simp) s2 HS2).mono ?_
              rintro e wx ⟨Ax, cx, rfl, vx, bx⟩
              have SB := Lib.hid (SA.out.trans (bx.mono (Nat.le_of_lt SE.out.lt)))
              have SF := Lib.hid (SE.out.below bx)
              have VX := Lib.hid vx.at_
              clear bx vx
              go_wp2_with fail
              refine hK.out _ _ SB.out (fun _ => ?_)
              clear hK K
              try simp only [Act.put, List.setIfInBounds_toArray, List.set_cons_zero, List.set_cons_succ]
              refine wpAnyH_ready (rs := [7]) (by kernel_rfl) (by simp) ?_
              refine ready_store_s t33 (o := { dst := none, op := Go.Op.store 33 (Go.Operand.tmp 12) (Go.Operand.tmp 94), type := 0, pos := _, after := #[{ on := 6, ground := Go.Ground.data }, { on := 6, ground := Go.Ground.chain }, { on := 0, ground := Go.Ground.phase }, { on := 1, ground := Go.Ground.phase }, { on := 2, ground := Go.Ground.phase }, { on := 3, ground := Go.Ground.phase }, { on := 4, ground := Go.Ground.phase }, { on := 5, ground := Go.Ground.phase }, { on := 6, ground := Go.Ground.phase }], guard := none }) rfl rfl (.tmp 12) (.tmp 94) rfl gs s.1 s2.1 _ Ax s2.2.length cx rfl rfl SF.out NPS.out.v.len NPS2.out.v.len (fun wy zy oy => ⟨SB.out.trans (oy.below (Nat.le_refl _) (Nat.le_of_lt SF.out.lt)), ?_⟩) AllReadyH.nil
              simp only [Act.put]
              refine wpAnyH_done (by kernel_rfl) ?_ _
              refine NoPanic.normal ?_
              have SG := Lib.hid (SB.out.trans (oy.below (Nat.le_refl _) (Nat.le_of_lt SF.out.lt)))
              have ZY := Lib.hid zy
              have VY := Lib.hid (VX.out.only_s SF.out (fun x => by intro h; cases h) oy)
              clear zy oy
              go_wp2_with (refine wpList_subz rfl _ rfl q rfl (by omega) ?_)
              go_roundw
              case rel => exact ⟨q, s2, Ax, cx, by omega, rfl, HS3.out, ZY.out, VY.out, BS.out.trans (SG.out.mono (Nat.le_refl _)), ZY.out.lt⟩
              case measure => first | (simp [intOf]; done) | (simp [intOf]; omega)
end Go.Proofs.Ytpgafijeecmgmaa
