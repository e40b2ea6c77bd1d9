/- The contracts of the reference's Same, Words, Add, Right, Join, Count and Less. Written by wip/tools/reft_r13.py. -/
import Derived.Test.YtpgafijeecmgmaaRefS
import Derived.Test.YtpgafijeecmgmaaUses2
namespace Go.Proofs.Ytpgafijeecmgmaa
open Go.RowKit

theorem NumsAt.only_s {w w' : World} {g t : Nat} {v u : Value} {l f : List Int} (h : NumsAt w v l) (hb : Blk w g t (sc f u)) (hu : ∀ x, u ≠ .int .u64 x) (ho : Only g w w') : NumsAt w' v l := by
  obtain ⟨a, cap, hv, hcap, hr, hc⟩ := h
  refine ⟨a, cap, hv, hcap, hr, fun h0 => ?_⟩
  obtain ⟨G, off, ha, hG, hcell⟩ := hc h0
  have hne : G ≠ g := by
    intro e
    subst e
    have h1 := hcell 0 h0
    unfold Blk at hb
    rw [cell_of_row _ G _ _ t (0, 0) hb] at h1
    have h2 : (sc f u)[off + 0]? = some (.int .u64 (l.getD 0 0)) := by simpa using h1
    have h3 := List.mem_of_getElem? h2
    unfold sc vc at h3
    rcases List.mem_append.1 h3 with h4 | h4
    · obtain ⟨z, _, e⟩ := List.mem_map.1 h4
      cases e
    · exact hu _ (List.mem_singleton.1 h4).symm
  exact ⟨G, off, ha, Nat.lt_of_lt_of_le hG ho.size, fun i hi => by
    have e := ho.block G hG hne
    have : w'.cell? ⟨G, off + i, none⟩ = w.cell? ⟨G, off + i, none⟩ := by
      unfold World.cell?
      rw [e]
    rw [this]; exact hcell i hi⟩
theorem exec_neq_vr {o : Oper} {a : Act} {w : World} {t : TypeId} (T : VTy t) (x y : Operand) (u : TypeId) (ho : o.op = .binOp .neq t x y u) (A B : List Int) {r : Bool} (hx : a.eval x = .agg (vc A).toArray) (hy : a.eval y = .agg (vc B).toArray) (hA : A.length = 16) (hB : B.length = 16) (hr : (!(A == B)) = r) :
    (execOp a.eval o).run Try.prog w = .ok (.value (.bool r)) w := by rw [← hr]; exact exec_neq_v T x y u ho A B hx hy hA hB
set_option maxRecDepth 100000 in
set_option maxHeartbeats 4000000 in
theorem rsame_is (f c g e : List Int) (A A2 : Option Addr) (cp cp2 : Nat) (r : Bool) (w : World) (hf : VOk f) (hg : VOk g) (h1 : NumsAt w (.slice A c.length cp) c) (h2 : NumsAt w (.slice A2 e.length cp2) e) (hn : c.length ≤ 5000) (hr : Hid (decide (f = g ∧ c = e) = r)) :
    Calls Try.prog 7 #[.agg (sc f (.slice A c.length cp)).toArray, .agg (sc g (.slice A2 e.length cp2)).toArray] w fun e w' => e = .returned (.bool r) ∧ Below w.heap.size w w' := by
  have HF := Lib.hid hf
  have HG := Lib.hid hg
  have H1 := Lib.hid h1
  have H2 := Lib.hid h2
  clear hf hg h1 h2
  by_cases hfe : f = g
  · have hfg : (!(f == g)) = false := by simp [hfe]
    by_cases hlen : c.length = e.length
    · have hbn : ((c.length : Int) == (e.length : Int)) = true := by simp [hlen]
      have HL := Lib.hid hlen
      have hrc := Lib.hid (show decide (c = e) = r by rw [← hr.out]; simp [hfe])
      clear hlen hfe
      go_enter Try.func7, Try.ntmps7
      go_wp2_with (first
        | go_skip
        | (have _ := G1.out; refine wpList_box_cs rfl _ rfl (sc g (.slice A2 e.length cp2)) rfl ?_; intro g1 w2 eg1 K1 b2; have G0 := Lib.hid (G1.out.below b2.out); have BB := Lib.hid (b1.out.trans (b2.out.mono b1.out.size)); have k16 := G0.out.cell (sc_cloud (.slice A c.length cp) HF.out.len); have k17 := K1.out.cell (sc_cloud (.slice A2 e.length cp2) HG.out.len))
        | (refine wpList_box_cs rfl _ rfl (sc f (.slice A c.length cp)) rfl ?_; intro g0 w1 eg0 G1 b1)
        | refine wpList_load_v t23 rfl _ rfl g0 0 f rfl (range_floor G0.out.range) HF.out.len ?_
        | refine wpList_load_v t23 rfl _ rfl g1 0 g rfl (range_floor K1.out.range) HG.out.len ?_
        | refine wpList_val rfl _ (exec_neq_vr t23 _ _ _ rfl f g rfl rfl HF.out.len HG.out.len hfg) ?_)
      clear k16 k17
      go_loopw [5] (fun i wr => ∃ j : Nat, j ≤ c.length ∧ i = .int .i64 j ∧ decide (c.drop j = e.drop j) = r ∧ Below w2.heap.size w2 wr) (fun i _ => c.length - (intOf i).toNat)
      case atStart => exact ⟨0, Nat.zero_le _, rfl, hrc.out, Below.refl _ _⟩
      case round =>
        obtain ⟨j, hj, rfl, hd, hb⟩ := hrel
        have BQ := Lib.hid hb
        have HD := Lib.hid hd
        have G3 := Lib.hid (G0.out.below hb)
        have G4 := Lib.hid (K1.out.below hb)
        have k16 := G3.out.cell (sc_cloud (.slice A c.length cp) HF.out.len)
        have BW := Lib.hid (step_ BB.out hb)
        clear hb hd
        by_cases hlt : j < c.length
        · have hlt2 : j < e.length := HL.out ▸ hlt
          obtain ⟨G, p, hE, hc, hG⟩ := (H1.out.below BW.out).elem j hlt
          obtain ⟨G2, p2, hF, hc2, hG2⟩ := (H2.out.below BW.out).elem j hlt2
          obtain ⟨x, hx⟩ : ∃ z, c.getD j 0 = z := ⟨_, rfl⟩
          obtain ⟨y, hy⟩ : ∃ z, e.getD j 0 = z := ⟨_, rfl⟩
          rw [hx] at hc
          rw [hy] at hc2
          have E := Lib.hid hE
          have F := Lib.hid hF
          have C1 := Lib.hid hc
          have C2 := Lib.hid hc2
          have BL := Lib.hid hG
          have BL2 := Lib.hid hG2
          have HX := Lib.hid hx
          have HY := Lib.hid hy
          clear hE hF hc hc2 hG hG2 hx hy
          by_cases hxy : x = y
          · have hxy' : (x == y) = true := by simp [hxy]
            go_wp2_with fail
            have S1 := Lib.hid (show Below wr.heap.size wr wr.drew from below_drew (Below.refl _ _))
            clear k16
            refine wp_region_noPanic ?_
            refine wp_region_held_drew (S := fun W => Below wr.heap.size wr W) (by kernel_rfl) S1.out (fun _ => ?_)
            refine wpAnyH_take (i := 0) (oi := { dst := some 27, op := Go.Op.fieldAddr 26 (Go.Operand.tmp 2) 1, type := 0, pos := _, after := #[], guard := none }) (v := ?_) rfl (by kernel_rfl) (by kernel_rfl) (by kernel_rfl) (fun _ _ _ h => h) (Or.inl ⟨by rfl, ?_⟩) S1.out ?_
            rotate_left
            · intro W hW; (go_simp; try with_reducible rfl)
            try simp only [Act.put, List.setIfInBounds_toArray, List.set_cons_zero, List.set_cons_succ]
            refine wpAnyH_take (i := 1) (oi := { dst := some 28, op := Go.Op.load 24 (Go.Operand.tmp 27), type := 24, pos := _, after := #[{ on := 0, ground := Go.Ground.data }], guard := none }) (v := ?_) rfl (by kernel_rfl) (by kernel_rfl) (by kernel_rfl) (fun _ _ _ h => h) (Or.inl ⟨by rfl, ?_⟩) S1.out ?_
            rotate_left
            · intro W hW; have q16 := (G3.out.below hW).cell (sc_cloud (.slice A c.length cp) HF.out.len); (go_simp; try with_reducible rfl)
            try simp only [Act.put, List.setIfInBounds_toArray, List.set_cons_zero, List.set_cons_succ]
            refine wpAnyH_take (i := 2) (oi := { dst := some 29, op := Go.Op.move (Go.Operand.tmp 5), type := 3, pos := _, after := #[], guard := none }) (v := ?_) rfl (by kernel_rfl) (by kernel_rfl) (by kernel_rfl) (fun _ _ _ h => h) (Or.inl ⟨by rfl, ?_⟩) S1.out ?_
            rotate_left
            · intro W hW; (go_simp; try with_reducible rfl)
            try simp only [Act.put, List.setIfInBounds_toArray, List.set_cons_zero, List.set_cons_succ]
            refine wpAnyH_take (i := 3) (oi := { dst := some 30, op := Go.Op.indexAddr 24 (Go.Operand.tmp 28) (Go.Operand.tmp 29), type := 0, pos := _, after := #[{ on := 1, ground := Go.Ground.data }, { on := 2, ground := Go.Ground.data }], guard := none }) (v := .pointer (some ⟨G, p, none⟩)) rfl (by kernel_rfl) (by kernel_rfl) (by kernel_rfl) (fun _ _ _ h => h) (Or.inl ⟨by rfl, fun W hW => exec_indexN u24n (.tmp 28) (.tmp 29) rfl A _ _ G p j _ rfl rfl rfl E.out⟩) S1.out ?_
            try simp only [Act.put, List.setIfInBounds_toArray, List.set_cons_zero, List.set_cons_succ]
            refine wpAnyH_take (i := 4) (oi := { dst := some 31, op := Go.Op.load 27 (Go.Operand.tmp 30), type := 27, pos := _, after := #[{ on := 3, ground := Go.Ground.data }], guard := none }) (v := .int .u64 x) rfl (by kernel_rfl) (by kernel_rfl) (by kernel_rfl) (fun _ _ _ h => h) (Or.inl ⟨by rfl, fun W hW => exec_load_num (.tmp 30) rfl G p x rfl ((hW.cell (p := ⟨G, p, none⟩) BL.out).trans C1.out)⟩) S1.out ?_
            try simp only [Act.put, List.setIfInBounds_toArray, List.set_cons_zero, List.set_cons_succ]
            refine wpAnyH_take (i := 5) (oi := { dst := some 32, op := Go.Op.fieldAddr 26 (Go.Operand.tmp 3) 1, type := 0, pos := _, after := #[], guard := none }) (v := ?_) rfl (by kernel_rfl) (by kernel_rfl) (by kernel_rfl) (fun _ _ _ h => h) (Or.inl ⟨by rfl, ?_⟩) S1.out ?_
            rotate_left
            · intro W hW; (go_simp; try with_reducible rfl)
            try simp only [Act.put, List.setIfInBounds_toArray, List.set_cons_zero, List.set_cons_succ]
            refine wpAnyH_take (i := 6) (oi := { dst := some 33, op := Go.Op.load 24 (Go.Operand.tmp 32), type := 24, pos := _, after := #[{ on := 5, ground := Go.Ground.data }], guard := none }) (v := ?_) rfl (by kernel_rfl) (by kernel_rfl) (by kernel_rfl) (fun _ _ _ h => h) (Or.inl ⟨by rfl, ?_⟩) S1.out ?_
            rotate_left
            · intro W hW; have q16 := (G4.out.below hW).cell (sc_cloud (.slice A2 e.length cp2) HG.out.len); (go_simp; try with_reducible rfl)
            try simp only [Act.put, List.setIfInBounds_toArray, List.set_cons_zero, List.set_cons_succ]
            refine wpAnyH_take (i := 7) (oi := { dst := some 34, op := Go.Op.move (Go.Operand.tmp 5), type := 3, pos := _, after := #[], guard := none }) (v := ?_) rfl (by kernel_rfl) (by kernel_rfl) (by kernel_rfl) (fun _ _ _ h => h) (Or.inl ⟨by rfl, ?_⟩) S1.out ?_
            rotate_left
            · intro W hW; (go_simp; try with_reducible rfl)
            try simp only [Act.put, List.setIfInBounds_toArray, List.set_cons_zero, List.set_cons_succ]
            refine wpAnyH_take (i := 8) (oi := { dst := some 35, op := Go.Op.indexAddr 24 (Go.Operand.tmp 33) (Go.Operand.tmp 34), type := 0, pos := _, after := #[{ on := 6, ground := Go.Ground.data }, { on := 7, ground := Go.Ground.data }], guard := none }) (v := .pointer (some ⟨G2, p2, none⟩)) rfl (by kernel_rfl) (by kernel_rfl) (by kernel_rfl) (fun _ _ _ h => h) (Or.inl ⟨by rfl, fun W hW => exec_indexN u24n (.tmp 33) (.tmp 34) rfl A2 _ _ G2 p2 j _ rfl rfl rfl F.out⟩) S1.out ?_
            try simp only [Act.put, List.setIfInBounds_toArray, List.set_cons_zero, List.set_cons_succ]
            refine wpAnyH_take (i := 9) (oi := { dst := some 36, op := Go.Op.load 27 (Go.Operand.tmp 35), type := 27, pos := _, after := #[{ on := 8, ground := Go.Ground.data }], guard := none }) (v := .int .u64 y) rfl (by kernel_rfl) (by kernel_rfl) (by kernel_rfl) (fun _ _ _ h => h) (Or.inl ⟨by rfl, fun W hW => exec_load_num (.tmp 35) rfl G2 p2 y rfl ((hW.cell (p := ⟨G2, p2, none⟩) BL2.out).trans C2.out)⟩) S1.out ?_
            try simp only [Act.put, List.setIfInBounds_toArray, List.set_cons_zero, List.set_cons_succ]
            refine wpAnyH_take (i := 10) (oi := { dst := some 37, op := Go.Op.binOp Go.BinOp.neq 27 (Go.Operand.tmp 31) (Go.Operand.tmp 36) 27, type := 4, pos := _, after := #[{ on := 4, ground := Go.Ground.data }, { on := 9, ground := Go.Ground.data }], guard := none }) (v := ?_) rfl (by kernel_rfl) (by kernel_rfl) (by kernel_rfl) (fun _ _ _ h => h) (Or.inl ⟨by rfl, ?_⟩) S1.out ?_
            rotate_left
            · intro W hW; (go_simp; try with_reducible rfl)
            try simp only [Act.put, List.setIfInBounds_toArray, List.set_cons_zero, List.set_cons_succ]
            refine wpAnyH_done (by kernel_rfl) ?_ _
            refine NoPanic.normal ?_
            go_wp2_with fail
            go_roundw
            case rel =>
              refine ⟨j + 1, by omega, by go_num, ?_, BQ.out.trans (S1.out.mono BQ.out.size)⟩
              rw [← HD.out, Bool.eq_iff_iff, decide_eq_true_eq, decide_eq_true_eq, drop_eq hlt hlt2, HX.out, HY.out]
              simp [hxy]
            case measure => simp [intOf]; omega
          · have hxy' : (x == y) = false := by simp [hxy]
            obtain rfl : r = false := by rw [← HD.out, decide_eq_false_iff_not, drop_eq hlt hlt2, HX.out, HY.out]; exact fun e => hxy e.1
            go_wp2_with fail
            have S1 := Lib.hid (show Below wr.heap.size wr wr.drew from below_drew (Below.refl _ _))
            clear k16
            refine wp_region_noPanic ?_
            refine wp_region_held_drew (S := fun W => Below wr.heap.size wr W) (by kernel_rfl) S1.out (fun _ => ?_)
            refine wpAnyH_take (i := 0) (oi := { dst := some 27, op := Go.Op.fieldAddr 26 (Go.Operand.tmp 2) 1, type := 0, pos := _, after := #[], guard := none }) (v := ?_) rfl (by kernel_rfl) (by kernel_rfl) (by kernel_rfl) (fun _ _ _ h => h) (Or.inl ⟨by rfl, ?_⟩) S1.out ?_
            rotate_left
            · intro W hW; (go_simp; try with_reducible rfl)
            try simp only [Act.put, List.setIfInBounds_toArray, List.set_cons_zero, List.set_cons_succ]
            refine wpAnyH_take (i := 1) (oi := { dst := some 28, op := Go.Op.load 24 (Go.Operand.tmp 27), type := 24, pos := _, after := #[{ on := 0, ground := Go.Ground.data }], guard := none }) (v := ?_) rfl (by kernel_rfl) (by kernel_rfl) (by kernel_rfl) (fun _ _ _ h => h) (Or.inl ⟨by rfl, ?_⟩) S1.out ?_
            rotate_left
            · intro W hW; have q16 := (G3.out.below hW).cell (sc_cloud (.slice A c.length cp) HF.out.len); (go_simp; try with_reducible rfl)
            try simp only [Act.put, List.setIfInBounds_toArray, List.set_cons_zero, List.set_cons_succ]
            refine wpAnyH_take (i := 2) (oi := { dst := some 29, op := Go.Op.move (Go.Operand.tmp 5), type := 3, pos := _, after := #[], guard := none }) (v := ?_) rfl (by kernel_rfl) (by kernel_rfl) (by kernel_rfl) (fun _ _ _ h => h) (Or.inl ⟨by rfl, ?_⟩) S1.out ?_
            rotate_left
            · intro W hW; (go_simp; try with_reducible rfl)
            try simp only [Act.put, List.setIfInBounds_toArray, List.set_cons_zero, List.set_cons_succ]
            refine wpAnyH_take (i := 3) (oi := { dst := some 30, op := Go.Op.indexAddr 24 (Go.Operand.tmp 28) (Go.Operand.tmp 29), type := 0, pos := _, after := #[{ on := 1, ground := Go.Ground.data }, { on := 2, ground := Go.Ground.data }], guard := none }) (v := .pointer (some ⟨G, p, none⟩)) rfl (by kernel_rfl) (by kernel_rfl) (by kernel_rfl) (fun _ _ _ h => h) (Or.inl ⟨by rfl, fun W hW => exec_indexN u24n (.tmp 28) (.tmp 29) rfl A _ _ G p j _ rfl rfl rfl E.out⟩) S1.out ?_
            try simp only [Act.put, List.setIfInBounds_toArray, List.set_cons_zero, List.set_cons_succ]
            refine wpAnyH_take (i := 4) (oi := { dst := some 31, op := Go.Op.load 27 (Go.Operand.tmp 30), type := 27, pos := _, after := #[{ on := 3, ground := Go.Ground.data }], guard := none }) (v := .int .u64 x) rfl (by kernel_rfl) (by kernel_rfl) (by kernel_rfl) (fun _ _ _ h => h) (Or.inl ⟨by rfl, fun W hW => exec_load_num (.tmp 30) rfl G p x rfl ((hW.cell (p := ⟨G, p, none⟩) BL.out).trans C1.out)⟩) S1.out ?_
            try simp only [Act.put, List.setIfInBounds_toArray, List.set_cons_zero, List.set_cons_succ]
            refine wpAnyH_take (i := 5) (oi := { dst := some 32, op := Go.Op.fieldAddr 26 (Go.Operand.tmp 3) 1, type := 0, pos := _, after := #[], guard := none }) (v := ?_) rfl (by kernel_rfl) (by kernel_rfl) (by kernel_rfl) (fun _ _ _ h => h) (Or.inl ⟨by rfl, ?_⟩) S1.out ?_
            rotate_left
            · intro W hW; (go_simp; try with_reducible rfl)
            try simp only [Act.put, List.setIfInBounds_toArray, List.set_cons_zero, List.set_cons_succ]
            refine wpAnyH_take (i := 6) (oi := { dst := some 33, op := Go.Op.load 24 (Go.Operand.tmp 32), type := 24, pos := _, after := #[{ on := 5, ground := Go.Ground.data }], guard := none }) (v := ?_) rfl (by kernel_rfl) (by kernel_rfl) (by kernel_rfl) (fun _ _ _ h => h) (Or.inl ⟨by rfl, ?_⟩) S1.out ?_
            rotate_left
            · intro W hW; have q16 := (G4.out.below hW).cell (sc_cloud (.slice A2 e.length cp2) HG.out.len); (go_simp; try with_reducible rfl)
            try simp only [Act.put, List.setIfInBounds_toArray, List.set_cons_zero, List.set_cons_succ]
            refine wpAnyH_take (i := 7) (oi := { dst := some 34, op := Go.Op.move (Go.Operand.tmp 5), type := 3, pos := _, after := #[], guard := none }) (v := ?_) rfl (by kernel_rfl) (by kernel_rfl) (by kernel_rfl) (fun _ _ _ h => h) (Or.inl ⟨by rfl, ?_⟩) S1.out ?_
            rotate_left
            · intro W hW; (go_simp; try with_reducible rfl)
            try simp only [Act.put, List.setIfInBounds_toArray, List.set_cons_zero, List.set_cons_succ]
            refine wpAnyH_take (i := 8) (oi := { dst := some 35, op := Go.Op.indexAddr 24 (Go.Operand.tmp 33) (Go.Operand.tmp 34), type := 0, pos := _, after := #[{ on := 6, ground := Go.Ground.data }, { on := 7, ground := Go.Ground.data }], guard := none }) (v := .pointer (some ⟨G2, p2, none⟩)) rfl (by kernel_rfl) (by kernel_rfl) (by kernel_rfl) (fun _ _ _ h => h) (Or.inl ⟨by rfl, fun W hW => exec_indexN u24n (.tmp 33) (.tmp 34) rfl A2 _ _ G2 p2 j _ rfl rfl rfl F.out⟩) S1.out ?_
            try simp only [Act.put, List.setIfInBounds_toArray, List.set_cons_zero, List.set_cons_succ]
            refine wpAnyH_take (i := 9) (oi := { dst := some 36, op := Go.Op.load 27 (Go.Operand.tmp 35), type := 27, pos := _, after := #[{ on := 8, ground := Go.Ground.data }], guard := none }) (v := .int .u64 y) rfl (by kernel_rfl) (by kernel_rfl) (by kernel_rfl) (fun _ _ _ h => h) (Or.inl ⟨by rfl, fun W hW => exec_load_num (.tmp 35) rfl G2 p2 y rfl ((hW.cell (p := ⟨G2, p2, none⟩) BL2.out).trans C2.out)⟩) S1.out ?_
            try simp only [Act.put, List.setIfInBounds_toArray, List.set_cons_zero, List.set_cons_succ]
            refine wpAnyH_take (i := 10) (oi := { dst := some 37, op := Go.Op.binOp Go.BinOp.neq 27 (Go.Operand.tmp 31) (Go.Operand.tmp 36) 27, type := 4, pos := _, after := #[{ on := 4, ground := Go.Ground.data }, { on := 9, ground := Go.Ground.data }], guard := none }) (v := ?_) rfl (by kernel_rfl) (by kernel_rfl) (by kernel_rfl) (fun _ _ _ h => h) (Or.inl ⟨by rfl, ?_⟩) S1.out ?_
            rotate_left
            · intro W hW; (go_simp; try with_reducible rfl)
            try simp only [Act.put, List.setIfInBounds_toArray, List.set_cons_zero, List.set_cons_succ]
            refine wpAnyH_done (by kernel_rfl) ?_ _
            refine NoPanic.normal ?_
            go_wp2_with fail
            go_ret
            exact ⟨rfl, BW.out.trans (S1.out.mono BW.out.size)⟩
        · obtain rfl : j = c.length := by omega
          have hrt := HD.out
          rw [List.drop_length, HL.out, List.drop_length] at hrt
          obtain rfl : r = true := hrt.symm.trans (by simp)
          go_wp2_with fail
          go_ret
          exact ⟨rfl, BW.out⟩
    · have hbn : ((c.length : Int) == (e.length : Int)) = false := by simp; omega
      obtain rfl : r = false := by rw [← hr.out, decide_eq_false_iff_not]; intro e; exact hlen (by rw [e.2])
      clear hlen hfe
      go_enter Try.func7, Try.ntmps7
      go_wp2_with (first
        | go_skip
        | (have _ := G1.out; refine wpList_box_cs rfl _ rfl (sc g (.slice A2 e.length cp2)) rfl ?_; intro g1 w2 eg1 K1 b2; have G0 := Lib.hid (G1.out.below b2.out); have BB := Lib.hid (b1.out.trans (b2.out.mono b1.out.size)); have k16 := G0.out.cell (sc_cloud (.slice A c.length cp) HF.out.len); have k17 := K1.out.cell (sc_cloud (.slice A2 e.length cp2) HG.out.len))
        | (refine wpList_box_cs rfl _ rfl (sc f (.slice A c.length cp)) rfl ?_; intro g0 w1 eg0 G1 b1)
        | refine wpList_load_v t23 rfl _ rfl g0 0 f rfl (range_floor G0.out.range) HF.out.len ?_
        | refine wpList_load_v t23 rfl _ rfl g1 0 g rfl (range_floor K1.out.range) HG.out.len ?_
        | refine wpList_val rfl _ (exec_neq_vr t23 _ _ _ rfl f g rfl rfl HF.out.len HG.out.len hfg) ?_)
      go_ret
      exact ⟨rfl, BB.out⟩
  · have hfg : (!(f == g)) = true := by simp [hfe]
    obtain rfl : r = false := by rw [← hr.out, decide_eq_false_iff_not]; exact fun e => hfe e.1
    clear hfe
    go_enter Try.func7, Try.ntmps7
    go_wp2_with (first
      | go_skip
      | (have _ := G1.out; refine wpList_box_cs rfl _ rfl (sc g (.slice A2 e.length cp2)) rfl ?_; intro g1 w2 eg1 K1 b2; have G0 := Lib.hid (G1.out.below b2.out); have BB := Lib.hid (b1.out.trans (b2.out.mono b1.out.size)); have k16 := G0.out.cell (sc_cloud (.slice A c.length cp) HF.out.len); have k17 := K1.out.cell (sc_cloud (.slice A2 e.length cp2) HG.out.len))
      | (refine wpList_box_cs rfl _ rfl (sc f (.slice A c.length cp)) rfl ?_; intro g0 w1 eg0 G1 b1)
      | refine wpList_load_v t23 rfl _ rfl g0 0 f rfl (range_floor G0.out.range) HF.out.len ?_
      | refine wpList_load_v t23 rfl _ rfl g1 0 g rfl (range_floor K1.out.range) HG.out.len ?_
      | refine wpList_val rfl _ (exec_neq_vr t23 _ _ _ rfl f g rfl rfl HF.out.len HG.out.len hfg) ?_)
    go_ret
    exact ⟨rfl, BB.out⟩
theorem built_s26c (A : Option Addr) (n c : Nat) : Try.prog.built 26 [(1, .slice A n c)] = some (sc vz (.slice A n c)).toArray := by kernel_rfl
theorem rwords_is (l m : List Int) (A A2 : Option Addr) (cp cp2 : Nat) (r : Bool) (w : World) (h1 : NumsAt w (.slice A l.length cp) l) (h2 : NumsAt w (.slice A2 m.length cp2) m) (hn : l.length ≤ 5000) (hr : Hid (decide (l = m) = r)) :
    Calls Try.prog 21 #[.slice A l.length cp, .slice A2 m.length cp2] w fun e w' => e = .returned (.bool r) ∧ Below w.heap.size w w' := by
  have HS := Lib.hid (rsame_is vz l vz m A A2 cp cp2 r w vz_ok vz_ok h1 h2 hn (Lib.hid (by rw [← hr.out]; simp)))
  clear h1 h2
  go_enter Try.func21, Try.ntmps21
  go_wp2_with (first
    | refine wpList_build rfl 26 _ rfl [(1, .slice A l.length cp)] rfl _ (built_s26c A l.length cp) ?_
    | refine wpList_build rfl 26 _ rfl [(1, .slice A2 m.length cp2)] rfl _ (built_s26c A2 m.length cp2) ?_)
  refine HS.out.mono ?_
  rintro e w1 ⟨rfl, b1⟩
  have B1 := Lib.hid b1
  clear b1
  go_wp2_with fail
  go_ret
  exact ⟨rfl, B1.out⟩
set_option maxRecDepth 100000 in
set_option maxHeartbeats 4000000 in
theorem radd_is (f c l : List Int) (A A2 : Option Addr) (cp cp2 : Nat) (w : World) (hf : VOk f) (h1 : NumsAt w (.slice A c.length cp) c) (h2 : NumsAt w (.slice A2 l.length cp2) l) (hn1 : c.length ≤ 2000) (hn2 : l.length ≤ 2000) (p : List Int × List Int) (hp : Hid (nrm f (c ++ l) = p)) :
    Calls Try.prog 10 #[.agg (sc f (.slice A c.length cp)).toArray, .slice A2 l.length cp2] w (GivesP w p) := by
  have HF := Lib.hid hf
  have H1 := Lib.hid h1
  have H2 := Lib.hid h2
  have NP := Lib.hid (hp.out ▸ (nrm_of hf (c ++ l)).v)
  clear hf h1 h2
  go_enter Try.func10, Try.ntmps10
  go_wp2_with (first
    | (refine wpList_box_cs rfl _ rfl (sc f (.slice A c.length cp)) rfl ?_; intro g0 w1 eg0 G1 b1)
    | (have _ := R2.out; refine wpList_alloc_s t26 rfl rfl ?_; intro go w4 ego S4 b4)
    | (refine wpList_alloc_s t26 rfl rfl ?_; intro gr w2 egr R2 b2; have G2 := Lib.hid (G1.out.below b2.out))
    | refine wpList_load_v t23 rfl _ rfl g0 0 f rfl (range_floor G2.out.range) HF.out.len ?_
    | (refine wpList_build rfl 26 _ rfl [(0, .agg (vc f).toArray)] rfl _ (built_s26o f HF.out.len) ?_)
    | (refine wpList_store_s t26 rfl _ _ rfl go vz f (.slice none 0 0) none 0 0 rfl rfl S4.out vz_len HF.out.len ?_; intro w5 S5 o5))
  have B2 := Lib.hid (b1.out.trans (b2.out.mono b1.out.size))
  have hgr := Lib.hid (show w.heap.size ≤ gr by have := egr.out; have := b1.out.size; omega)
  have hgo := Lib.hid (show w.heap.size ≤ go by have := ego.out; have := B2.out.size; omega)
  have hg0 := Lib.hid (show g0 < go by have := ego.out; have := G2.out.lt; omega)
  have hgrgo := Lib.hid (show gr < go by have := ego.out; have := R2.out.lt; omega)
  have B5 := Lib.hid ((step_ B2.out b4.out).trans (o5.out.below hgo.out (step_ B2.out b4.out).size))
  have G5 := Lib.hid ((G2.out.below b4.out).only o5.out (by have := hg0.out; omega))
  have R5 := Lib.hid ((R2.out.below b4.out).only o5.out (by have := hgrgo.out; omega))
  have hgo5 := Lib.hid (show go < w5.heap.size from S5.out.lt)
  clear G1 G2 R2 S4 b1 b2 b4 o5 B2 egr ego eg0
  try simp only [Act.put, List.setIfInBounds_toArray, List.set_cons_zero, List.set_cons_succ]
  go_loopw [6] (fun i wr => ∃ (j : Nat) (A' : Option Addr) (c' : Nat), j ≤ c.length ∧ i = .int .i64 j ∧ Blk wr go 26 (sc f (.slice A' (puts f (c.take j) []).length c')) ∧ NumsAt wr (.slice A' (puts f (c.take j) []).length c') (puts f (c.take j) []) ∧ Blk wr g0 26 (sc f (.slice A c.length cp)) ∧ Blk wr gr 26 (sc vz (.slice none 0 0)) ∧ Below w.heap.size w wr ∧ go < wr.heap.size) (fun i _ => c.length - (intOf i).toNat)
  case atStart => exact ⟨0, none, 0, Nat.zero_le _, rfl, S5.out, nums_at_nil _, G5.out, R5.out, B5.out, hgo5.out⟩
  case round =>
    obtain ⟨j, A', c', hj, rfl, hs, hv, hg, hrr, hb, hgs⟩ := hrel
    obtain ⟨q, hq⟩ : ∃ q, puts f (c.take j) [] = q := ⟨_, rfl⟩
    have HQ := Lib.hid hq
    have hql : q.length ≤ 5000 := by rw [← hq]; have := puts_len f (c.take j) []; rw [List.length_take] at this; simp only [List.length_nil] at this; omega
    rw [hq] at hs hv
    have S0x := Lib.hid hs
    have V0 := Lib.hid hv
    have G0 := Lib.hid hg
    have R0 := Lib.hid hrr
    have BB := Lib.hid hb
    clear hs hv hg hrr hb hq
    have c16 := G0.out.cell (sc_cloud (.slice A c.length cp) HF.out.len)
    by_cases hlt : j < c.length
    · obtain ⟨G, p, hE, hc, hGw0⟩ := (H1.out.below BB.out).elem j hlt
      have hGw : G < w.heap.size := by
        obtain ⟨G', p', hE', _, hG'⟩ := H1.out.elem j hlt
        obtain ⟨o1, h1, _⟩ := hE.ad
        obtain ⟨o2, h2, _⟩ := hE'.ad
        rw [h1] at h2
        simp only [Option.some.injEq, Addr.mk.injEq] at h2
        omega
      have E := Lib.hid hE
      obtain ⟨z, hz⟩ : ∃ z, c.getD j 0 = z := ⟨_, rfl⟩
      have HZR := Lib.hid (hz ▸ H1.out.nums.at_ j)
      rw [hz] at hc
      have BG := Lib.hid (show G < go from Nat.lt_of_lt_of_le hGw hgo.out)
      have CZ := Lib.hid hc
      obtain ⟨q2, hq2⟩ : ∃ q2, putd f q z = q2 := ⟨_, rfl⟩
      have PN := Lib.hid (show puts f (c.take (j + 1)) [] = q2 by rw [take_nx hlt, puts_snoc, HQ.out, hz, hq2])
      have HQ2 := Lib.hid hq2
      clear hE hz hGw hGw0 hq2
      go_wp2_with fail
      clear c16
      have S0 := Lib.hid (show Below go wr wr.drew from below_drew (Below.refl _ _))
      have SD := Lib.hid (S0x.out.drew)
      have VD := Lib.hid (V0.out.below (show Below wr.heap.size wr wr.drew from below_drew (Below.refl _ _)))
      refine wp_region_noPanic ?_
      refine wp_region_held_drew (S := fun W => Below go wr W) (by kernel_rfl) S0.out (fun _ => ?_)
      refine wpAnyH_take (i := 1) (oi := { dst := some 19, op := Go.Op.fieldAddr 26 (Go.Operand.tmp 2) 1, type := 0, pos := _, after := #[], guard := none }) (v := ?_) rfl (by kernel_rfl) (by kernel_rfl) (by kernel_rfl) (fun _ _ _ h => h) (Or.inl ⟨by rfl, ?_⟩) S0.out ?_
      rotate_left
      · intro W hW; (go_simp; try with_reducible rfl)
      try simp only [Act.put, List.setIfInBounds_toArray, List.set_cons_zero, List.set_cons_succ]
      refine wpAnyH_take (i := 2) (oi := { dst := some 20, op := Go.Op.load 24 (Go.Operand.tmp 19), type := 24, pos := _, after := #[{ on := 1, ground := Go.Ground.data }], guard := none }) (v := ?_) rfl (by kernel_rfl) (by kernel_rfl) (by kernel_rfl) (fun _ _ _ h => h) (Or.inl ⟨by rfl, ?_⟩) S0.out ?_
      rotate_left
      · intro W hW; have q16 := (G0.out.upto hW hg0.out).cell (sc_cloud (.slice A c.length cp) HF.out.len); (go_simp; try with_reducible rfl)
      try simp only [Act.put, List.setIfInBounds_toArray, List.set_cons_zero, List.set_cons_succ]
      refine wpAnyH_take (i := 3) (oi := { dst := some 21, op := Go.Op.move (Go.Operand.tmp 6), type := 3, pos := _, after := #[], guard := none }) (v := ?_) rfl (by kernel_rfl) (by kernel_rfl) (by kernel_rfl) (fun _ _ _ h => h) (Or.inl ⟨by rfl, ?_⟩) S0.out ?_
      rotate_left
      · intro W hW; (go_simp; try with_reducible rfl)
      try simp only [Act.put, List.setIfInBounds_toArray, List.set_cons_zero, List.set_cons_succ]
      refine wpAnyH_take (i := 4) (oi := { dst := some 22, op := Go.Op.indexAddr 24 (Go.Operand.tmp 20) (Go.Operand.tmp 21), type := 0, pos := _, after := #[{ on := 2, ground := Go.Ground.data }, { on := 3, ground := Go.Ground.data }], guard := none }) (v := .pointer (some ⟨G, p, none⟩)) rfl (by kernel_rfl) (by kernel_rfl) (by kernel_rfl) (fun _ _ _ h => h) (Or.inl ⟨by rfl, fun W hW => exec_indexN u24n (.tmp 20) (.tmp 21) rfl A _ _ G p j _ rfl rfl rfl E.out⟩) S0.out ?_
      try simp only [Act.put, List.setIfInBounds_toArray, List.set_cons_zero, List.set_cons_succ]
      refine wpAnyH_take (i := 5) (oi := { dst := some 23, op := Go.Op.load 27 (Go.Operand.tmp 22), type := 27, pos := _, after := #[{ on := 4, ground := Go.Ground.data }], guard := none }) (v := .int .u64 z) rfl (by kernel_rfl) (by kernel_rfl) (by kernel_rfl) (fun _ _ _ h => h) (Or.inl ⟨by rfl, fun W hW => exec_load_num (.tmp 22) rfl G p z rfl ((hW.cell (p := ⟨G, p, none⟩) BG.out).trans CZ.out)⟩) S0.out ?_
      try simp only [Act.put, List.setIfInBounds_toArray, List.set_cons_zero, List.set_cons_succ]
      refine wpAnyH_ready (rs := [0]) (by kernel_rfl) (by simp) ?_
      refine ready_load_s t26 (o := { dst := some 18, op := Go.Op.load 26 (Go.Operand.tmp 5), type := 26, pos := _, after := #[], guard := none }) rfl rfl (.tmp 5) rfl go f _ rfl SD.out HF.out.len ⟨S0.out, ?_⟩ AllReadyH.nil
      try simp only [Act.put, List.setIfInBounds_toArray, List.set_cons_zero, List.set_cons_succ]
      refine wpAnyH_ready (rs := [6]) (by kernel_rfl) (by simp) ?_
      refine AllReadyH.cons (o := { dst := some 24, op := Go.Op.call { callee := Go.Callee.value (Go.Operand.func 26), args := #[Go.Operand.tmp 18, Go.Operand.tmp 23], argTypes := #[26, 27] }, type := 26, pos := _, after := #[{ on := 0, ground := Go.Ground.data }, { on := 5, ground := Go.Ground.data }], guard := none }) rfl (fun K hK => ?_) AllReadyH.nil
      go_simp
      refine (rput_is f q A' c' z _ HF.out VD.out hql HZR.out q2 HQ2).mono ?_
      rintro e W1 ⟨A1, c1, rfl, v1, b1⟩
      have S1 := Lib.hid (S0.out.trans (b1.mono (Nat.le_of_lt SD.out.lt)))
      have SE := Lib.hid (SD.out.below b1)
      have V1 := Lib.hid v1
      clear b1 v1
      go_wp2_with fail
      refine hK.out _ _ S1.out (fun _ => ?_)
      clear hK K
      try simp only [Act.put, List.setIfInBounds_toArray, List.set_cons_zero, List.set_cons_succ]
      refine wpAnyH_ready (rs := [7]) (by kernel_rfl) (by simp) ?_
      refine ready_store_s t26 (o := { dst := none, op := Go.Op.store 26 (Go.Operand.tmp 5) (Go.Operand.tmp 24), type := 0, pos := _, after := #[{ on := 6, ground := Go.Ground.data }, { on := 6, ground := Go.Ground.chain }, { on := 0, ground := Go.Ground.phase }, { on := 1, ground := Go.Ground.phase }, { on := 2, ground := Go.Ground.phase }, { on := 3, ground := Go.Ground.phase }, { on := 4, ground := Go.Ground.phase }, { on := 5, ground := Go.Ground.phase }, { on := 6, ground := Go.Ground.phase }], guard := none }) rfl rfl (.tmp 5) (.tmp 24) rfl go f f _ A1 q2.length c1 rfl rfl SE.out HF.out.len HF.out.len (fun w2 z2 o2 => ⟨S1.out.trans (o2.below (Nat.le_refl _) (Nat.le_of_lt SE.out.lt)), ?_⟩) AllReadyH.nil
      simp only [Act.put]
      refine wpAnyH_done (by kernel_rfl) ?_ _
      refine NoPanic.normal ?_
      have S2 := Lib.hid (S1.out.trans (o2.below (Nat.le_refl _) (Nat.le_of_lt SE.out.lt)))
      have Z2 := Lib.hid z2
      have V2 := Lib.hid (V1.out.only_s SE.out (fun x => by intro h; cases h) o2)
      clear z2 o2
      go_wp2_with fail
      go_roundw
      case rel =>
        refine ⟨j + 1, A1, c1, by omega, by go_num, ?_, ?_, G0.out.upto S2.out hg0.out, R0.out.upto S2.out hgrgo.out, BB.out.trans (S2.out.mono hgo.out), Nat.lt_of_lt_of_le SD.out.lt S2.out.size⟩
        · rw [PN.out]; exact Z2.out
        · rw [PN.out]; exact V2.out
      case measure => simp [intOf]; omega
    · obtain rfl : j = c.length := by omega
      have CQ := Lib.hid (show puts f c [] = q by have := HQ.out; rwa [List.take_length] at this)
      go_wp2_with fail
      go_loopw [7] (fun i wr => ∃ (j : Nat) (A' : Option Addr) (c' : Nat), j ≤ l.length ∧ i = .int .i64 j ∧ Blk wr go 26 (sc f (.slice A' (puts f (l.take j) (puts f c [])).length c')) ∧ NumsAt wr (.slice A' (puts f (l.take j) (puts f c [])).length c') (puts f (l.take j) (puts f c [])) ∧ Blk wr g0 26 (sc f (.slice A c.length cp)) ∧ Blk wr gr 26 (sc vz (.slice none 0 0)) ∧ Below w.heap.size w wr ∧ go < wr.heap.size) (fun i _ => l.length - (intOf i).toNat)
      case atStart =>
        exact ⟨0, A', c', Nat.zero_le _, rfl, by rw [← CQ.out] at S0x; exact S0x.out, by rw [← CQ.out] at V0; exact V0.out, G0.out, R0.out, BB.out, hgs⟩
      case round =>
        obtain ⟨j, A', c', hj, rfl, hs, hv, hg, hrr, hb, hgs⟩ := hrel
        obtain ⟨q, hq⟩ : ∃ q, puts f (l.take j) (puts f c []) = q := ⟨_, rfl⟩
        have HQ := Lib.hid hq
        have hql : q.length ≤ 5000 := by rw [← hq]; have a := puts_len f (l.take j) (puts f c []); have b := puts_len f c []; rw [List.length_take] at a; simp only [List.length_nil] at b; omega
        rw [hq] at hs hv
        have S0x := Lib.hid hs
        have V0 := Lib.hid hv
        have G0 := Lib.hid hg
        have R0 := Lib.hid hrr
        have BB := Lib.hid hb
        clear hs hv hg hrr hb hq
        
        by_cases hlt : j < l.length
        · obtain ⟨G, p, hE, hc, hGw0⟩ := (H2.out.below BB.out).elem j hlt
          have hGw : G < w.heap.size := by
            obtain ⟨G', p', hE', _, hG'⟩ := H2.out.elem j hlt
            obtain ⟨o1, h1, _⟩ := hE.ad
            obtain ⟨o2, h2, _⟩ := hE'.ad
            rw [h1] at h2
            simp only [Option.some.injEq, Addr.mk.injEq] at h2
            omega
          have E := Lib.hid hE
          obtain ⟨z, hz⟩ : ∃ z, l.getD j 0 = z := ⟨_, rfl⟩
          have HZR := Lib.hid (hz ▸ H2.out.nums.at_ j)
          rw [hz] at hc
          have BG := Lib.hid (show G < go from Nat.lt_of_lt_of_le hGw hgo.out)
          have CZ := Lib.hid hc
          obtain ⟨q2, hq2⟩ : ∃ q2, putd f q z = q2 := ⟨_, rfl⟩
          have PN := Lib.hid (show puts f (l.take (j + 1)) (puts f c []) = q2 by rw [take_nx hlt, puts_snoc, HQ.out, hz, hq2])
          have HQ2 := Lib.hid hq2
          clear hE hz hGw hGw0 hq2
          go_wp2_with fail
          
          have S0 := Lib.hid (show Below go wr wr.drew from below_drew (Below.refl _ _))
          have SD := Lib.hid (S0x.out.drew)
          have VD := Lib.hid (V0.out.below (show Below wr.heap.size wr wr.drew from below_drew (Below.refl _ _)))
          refine wp_region_noPanic ?_
          refine wp_region_held_drew (S := fun W => Below go wr W) (by kernel_rfl) S0.out (fun _ => ?_)
          refine wpAnyH_take (i := 1) (oi := { dst := some 32, op := Go.Op.move (Go.Operand.tmp 1), type := 24, pos := _, after := #[], guard := none }) (v := ?_) rfl (by kernel_rfl) (by kernel_rfl) (by kernel_rfl) (fun _ _ _ h => h) (Or.inl ⟨by rfl, ?_⟩) S0.out ?_
          rotate_left
          · intro W hW; (go_simp; try with_reducible rfl)
          try simp only [Act.put, List.setIfInBounds_toArray, List.set_cons_zero, List.set_cons_succ]
          refine wpAnyH_take (i := 2) (oi := { dst := some 33, op := Go.Op.move (Go.Operand.tmp 7), type := 3, pos := _, after := #[], guard := none }) (v := ?_) rfl (by kernel_rfl) (by kernel_rfl) (by kernel_rfl) (fun _ _ _ h => h) (Or.inl ⟨by rfl, ?_⟩) S0.out ?_
          rotate_left
          · intro W hW; (go_simp; try with_reducible rfl)
          try simp only [Act.put, List.setIfInBounds_toArray, List.set_cons_zero, List.set_cons_succ]
          refine wpAnyH_take (i := 3) (oi := { dst := some 34, op := Go.Op.indexAddr 24 (Go.Operand.tmp 32) (Go.Operand.tmp 33), type := 0, pos := _, after := #[{ on := 1, ground := Go.Ground.data }, { on := 2, ground := Go.Ground.data }], guard := none }) (v := .pointer (some ⟨G, p, none⟩)) rfl (by kernel_rfl) (by kernel_rfl) (by kernel_rfl) (fun _ _ _ h => h) (Or.inl ⟨by rfl, fun W hW => exec_indexN u24n (.tmp 32) (.tmp 33) rfl A2 _ _ G p j _ rfl rfl rfl E.out⟩) S0.out ?_
          try simp only [Act.put, List.setIfInBounds_toArray, List.set_cons_zero, List.set_cons_succ]
          refine wpAnyH_take (i := 4) (oi := { dst := some 35, op := Go.Op.load 27 (Go.Operand.tmp 34), type := 27, pos := _, after := #[{ on := 3, ground := Go.Ground.data }], guard := none }) (v := .int .u64 z) rfl (by kernel_rfl) (by kernel_rfl) (by kernel_rfl) (fun _ _ _ h => h) (Or.inl ⟨by rfl, fun W hW => exec_load_num (.tmp 34) rfl G p z rfl ((hW.cell (p := ⟨G, p, none⟩) BG.out).trans CZ.out)⟩) S0.out ?_
          try simp only [Act.put, List.setIfInBounds_toArray, List.set_cons_zero, List.set_cons_succ]
          refine wpAnyH_ready (rs := [0]) (by kernel_rfl) (by simp) ?_
          refine ready_load_s t26 (o := { dst := some 31, op := Go.Op.load 26 (Go.Operand.tmp 5), type := 26, pos := _, after := #[], guard := none }) rfl rfl (.tmp 5) rfl go f _ rfl SD.out HF.out.len ⟨S0.out, ?_⟩ AllReadyH.nil
          try simp only [Act.put, List.setIfInBounds_toArray, List.set_cons_zero, List.set_cons_succ]
          refine wpAnyH_ready (rs := [5]) (by kernel_rfl) (by simp) ?_
          refine AllReadyH.cons (o := { dst := some 36, op := Go.Op.call { callee := Go.Callee.value (Go.Operand.func 26), args := #[Go.Operand.tmp 31, Go.Operand.tmp 35], argTypes := #[26, 27] }, type := 26, pos := _, after := #[{ on := 0, ground := Go.Ground.data }, { on := 4, ground := Go.Ground.data }], guard := none }) rfl (fun K hK => ?_) AllReadyH.nil
          go_simp
          refine (rput_is f q A' c' z _ HF.out VD.out hql HZR.out q2 HQ2).mono ?_
          rintro e W1 ⟨A1, c1, rfl, v1, b1⟩
          have S1 := Lib.hid (S0.out.trans (b1.mono (Nat.le_of_lt SD.out.lt)))
          have SE := Lib.hid (SD.out.below b1)
          have V1 := Lib.hid v1
          clear b1 v1
          go_wp2_with fail
          refine hK.out _ _ S1.out (fun _ => ?_)
          clear hK K
          try simp only [Act.put, List.setIfInBounds_toArray, List.set_cons_zero, List.set_cons_succ]
          refine wpAnyH_ready (rs := [6]) (by kernel_rfl) (by simp) ?_
          refine ready_store_s t26 (o := { dst := none, op := Go.Op.store 26 (Go.Operand.tmp 5) (Go.Operand.tmp 36), type := 0, pos := _, after := #[{ on := 5, ground := Go.Ground.data }, { on := 5, ground := Go.Ground.chain }, { on := 0, ground := Go.Ground.phase }, { on := 1, ground := Go.Ground.phase }, { on := 2, ground := Go.Ground.phase }, { on := 3, ground := Go.Ground.phase }, { on := 4, ground := Go.Ground.phase }, { on := 5, ground := Go.Ground.phase }], guard := none }) rfl rfl (.tmp 5) (.tmp 36) rfl go f f _ A1 q2.length c1 rfl rfl SE.out HF.out.len HF.out.len (fun w2 z2 o2 => ⟨S1.out.trans (o2.below (Nat.le_refl _) (Nat.le_of_lt SE.out.lt)), ?_⟩) AllReadyH.nil
          simp only [Act.put]
          refine wpAnyH_done (by kernel_rfl) ?_ _
          refine NoPanic.normal ?_
          have S2 := Lib.hid (S1.out.trans (o2.below (Nat.le_refl _) (Nat.le_of_lt SE.out.lt)))
          have Z2 := Lib.hid z2
          have V2 := Lib.hid (V1.out.only_s SE.out (fun x => by intro h; cases h) o2)
          clear z2 o2
          go_wp2_with fail
          go_roundw
          case rel =>
            refine ⟨j + 1, A1, c1, by omega, by go_num, ?_, ?_, G0.out.upto S2.out hg0.out, R0.out.upto S2.out hgrgo.out, BB.out.trans (S2.out.mono hgo.out), Nat.lt_of_lt_of_le SD.out.lt S2.out.size⟩
            · rw [PN.out]; exact Z2.out
            · rw [PN.out]; exact V2.out
          case measure => simp [intOf]; omega
        · obtain rfl : j = l.length := by omega
          have WT := puts_inv (f := f) c [] [] (Waits.nil f) List.Pairwise.nil
          rw [List.nil_append] at WT
          have WU := puts_inv (f := f) l c _ WT.1 WT.2
          have hq2 := HQ.out
          rw [List.take_length] at hq2
          rw [hq2] at WU
          have RN := Lib.hid (WU.1.rnd HF.out WU.2)
          clear WT WU hq2
          go_wp2_with (refine wpList_load_s t26 rfl _ rfl go f _ rfl S0x.out HF.out.len ?_)
          refine (rsettle_is f (c ++ l) f q A' c' wr HF.out RN.out V0.out hql p hp).mono ?_
          rintro e w9 ⟨A9, c9, rfl, v9, b9⟩
          have V9 := Lib.hid v9
          have R9 := Lib.hid (R0.out.below b9)
          have B9 := Lib.hid (step_ BB.out b9)
          clear v9 b9
          go_wp2_with (refine wpList_store_s t26 rfl _ _ rfl gr vz p.1 _ A9 p.2.length c9 rfl rfl R9.out vz_len NP.out.len ?_; intro w10 R10 o10)
          refine bodyPost_ret (results_s t26 rfl _ _ gr p.1 _ rfl R10.out NP.out.len) rfl ?_
          exact ⟨A9, c9, rfl, V9.out.only_s R9.out (fun x => by intro h; cases h) o10.out, B9.out.trans (o10.out.below hgr.out B9.out.size)⟩
end Go.Proofs.Ytpgafijeecmgmaa
