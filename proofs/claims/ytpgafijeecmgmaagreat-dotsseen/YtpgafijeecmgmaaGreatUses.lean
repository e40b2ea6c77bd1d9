/- The contracts of Has, Right, Count, Same, Join and Less of package dots, and of slices.Equal at numbers. Written by wip/tools/uses_r13.py. The contracts of Count, Same, Join and Less of package dots. Written by wip/tools/uses2_r13.py. -/
import Derived.Test.YtpgafijeecmgmaaGreatSettle
namespace Go.Proofs.YtpgafijeecmgmaaGreat
open Go.RowKit

theorem add0_is (f c : List Int) (A : Option Addr) (cp : Nat) (w : World) (hf : VOk f) (h1 : NumsAt w (.slice A c.length cp) c) (hn1 : c.length ≤ 2000) (p : List Int × List Int) (hp : Hid (nrm f c = p)) :
    Calls Tryz.prog 12 #[.agg (sc f (.slice A c.length cp)).toArray, .slice none 0 0] w (GivesS w p) :=
  add_is f c [] A none cp 0 w hf h1 (nums_at_nil w) hn1 (by simp) p (Lib.hid (by rw [List.append_nil]; exact hp.out))
section
variable {ops : Array Oper} {Q : Exit → Act → World → Prop} {md : Region.Mode} {S : World → Prop} {fuel : Nat} {listed : Array Bool} {a : Act} {w : World} {i : Nat} {o : Oper} {rs : List Nat} {t : TypeId}
theorem ready_load_s (T : STy t) (ho : ops[i]? = some o) (hg : o.guard = none) (x : Operand) (hop : o.op = .load t x) (g : Nat) (f : List Int) (v : Value) (hx : a.eval x = .pointer (some ⟨g, 0, none⟩)) (hb : Blk w g t (sc f v)) (hf : f.length = 16)
    (h : S w ∧ wpAnyH Tryz.prog md ops Q S fuel (listed.setIfInBounds i true) (a.put o.dst (.agg (sc f v).toArray)) w)
    (hs : AllReadyH Tryz.prog md ops Q S fuel listed a w rs) : AllReadyH Tryz.prog md ops Q S fuel listed a w (i :: rs) := by
  refine AllReadyH.cons ho (fun K hK => ?_) hs
  have hw : Region.wanted o (yielded ops a.tmps) = true := by simp [Region.wanted, hg]
  rw [if_pos hw]
  obtain ⟨d, hd⟩ := T.und
  exact wp_load_mid t x hop g 0 hx (sc f v) _ hb.range hd rfl (T.size hf) (hK.out _ _ h.1 (fun _ => h.2))
theorem ready_store_s (T : STy t) (ho : ops[i]? = some o) (hg : o.guard = none) (x y : Operand) (hop : o.op = .store t x y) (g : Nat) (f m : List Int) (u : Value) (A : Option Addr) (n c : Nat)
    (hx : a.eval x = .pointer (some ⟨g, 0, none⟩)) (hy : a.eval y = .agg (sc m (.slice A n c)).toArray) (hb : Blk w g t (sc f u)) (hf : f.length = 16) (hm : m.length = 16)
    (h : ∀ w', Blk w' g t (sc m (.slice A n c)) → Only g w w' → S w' ∧ wpAnyH Tryz.prog md ops Q S fuel (listed.setIfInBounds i true) (a.put o.dst undef) w')
    (hs : AllReadyH Tryz.prog md ops Q S fuel listed a w rs) : AllReadyH Tryz.prog md ops Q S fuel listed a w (i :: rs) := by
  refine AllReadyH.cons ho (fun K hK => ?_) hs
  have hw : Region.wanted o (yielded ops a.tmps) = true := by simp [Region.wanted, hg]
  rw [if_pos hw]
  have h1 := sc_len u hf
  have h2 := sc_len (.slice A n c) hm
  refine wp_store_mid t x y hop g 0 (sc m (.slice A n c)).toArray hx hy (hb.there 0 _ (by rw [List.size_toArray]; omega)) (by rw [List.size_toArray]; exact T.size hm) (sc_one m A n c) ?_
  have hB := Blk.setCells (sc m (.slice A n c)) 0 w (sc f u) hb
  rw [setL_all _ _ (by omega)] at hB
  have H := h _ hB (Only.setCells (sc m (.slice A n c)) 0 w)
  exact hK.out _ _ H.1 (fun _ => H.2)
end
theorem rights_no {f c : List Int} {j : Nat} (hj : j < c.length) (h : rightD f c j = false) : rightsD f c c.length = false := by
  unfold rightsD
  rw [List.all_eq_false]
  exact ⟨j, List.mem_range.2 hj, by simp [h]⟩
theorem rights_yes {f c : List Int} (h : ∀ m, m < c.length → rightD f c m = true) : rightsD f c c.length = true := by
  unfold rightsD
  rw [List.all_eq_true]
  exact fun m hm => h m (List.mem_range.1 hm)
set_option maxRecDepth 100000 in
set_option maxHeartbeats 2000000 in
theorem dright_is (f c : List Int) (A : Option Addr) (cp : Nat) (r : Bool) (w : World) (hf : VOk f) (h1 : NumsAt w (.slice A c.length cp) c) (hn1 : c.length ≤ 2000) (hr : Hid (rightsD f c c.length = r)) :
    Calls Tryz.prog 9 #[.agg (sc f (.slice A c.length cp)).toArray] w fun e w' => e = .returned (.bool r) ∧ Below w.heap.size w w' := by
  have HF := Lib.hid hf
  have H1 := Lib.hid h1
  have G1 := Lib.hid (blk_alloc w 29 (sc f (.slice A c.length cp)))
  have b1 := Lib.hid (new_below w (.cells (sc f (.slice A c.length cp)).toArray 29))
  have c16 := G1.out.cell (sc_cloud (.slice A c.length cp) hf.len)
  clear hf h1
  go_enter Tryz.func9, Tryz.ntmps9
  go_wp2_with fail
  go_loopw [8, 3, 4] (fun i _ _ wr => ∃ j : Nat, j ≤ c.length ∧ i = .int .i64 j ∧ (∀ m, m < j → rightD f c m = true) ∧ Blk wr w.heap.size 29 (sc f (.slice A c.length cp)) ∧ Below w.heap.size w wr) (fun i _ _ _ => c.length - (intOf i).toNat)
  case atStart => exact ⟨0, Nat.zero_le _, rfl, fun m hm => absurd hm (by omega), G1.out, b1.out⟩
  case round =>
    obtain ⟨j, hj, rfl, hall, hg, hb⟩ := hrel
    have BB := Lib.hid hb
    have GG := Lib.hid hg
    have AL := Lib.hid hall
    clear hb hall hg c16
    by_cases hlt : j < c.length
    · obtain ⟨G, p, hE, hc, hG⟩ := (H1.out.below BB.out).elem j hlt
      have E := Lib.hid hE
      obtain ⟨z, hz⟩ : ∃ z, c.getD j 0 = z := ⟨_, rfl⟩
      have HZ := Lib.hid hz
      have HX := Lib.hid (hz ▸ H1.out.nums.at_ j)
      rw [hz] at hc
      clear hE hz
      obtain ⟨r1, hr1⟩ : ∃ r, may z = r := ⟨_, rfl⟩
      go_wp2_with (first
        | refine wpList_indexN u24n rfl _ _ rfl _ _ _ G p j _ rfl rfl rfl E.out ?_)
      refine (valid_is z r1 wr HX.out (Lib.hid hr1)).mono ?_
      rintro e w2 ⟨rfl, x2⟩
      have B2 := Lib.hid (step_ BB.out x2)
      have G2 := Lib.hid (GG.out.below x2)
      clear x2 hc hG
      cases r1 with
      | false =>
        obtain rfl : r = false := hr.out.symm.trans (rights_no hlt (by unfold rightD; rw [HZ.out, hr1]; rfl))
        go_wp2_with fail
        go_ret
        exact ⟨rfl, B2.out⟩
      | true =>
        obtain ⟨r2, hr2⟩ : ∃ r, near f z = r := ⟨_, rfl⟩
        go_wp2_with (first | go_skip | (refine wanted_on rfl ?_; refine wpList_load_v t24 rfl _ rfl w.heap.size 0 f rfl (range_floor G2.out.range) HF.out.len ?_))
        refine (near_is f z r2 w2 HF.out HX.out hr1 (Lib.hid hr2)).mono ?_
        rintro e w3 ⟨rfl, x3⟩
        have B3 := Lib.hid (step_ B2.out x3)
        have G3 := Lib.hid (G2.out.below x3)
        clear x3
        cases r2 with
        | true =>
          obtain rfl : r = false := hr.out.symm.trans (rights_no hlt (by unfold rightD; rw [HZ.out, hr1, hr2]; rfl))
          go_wp2_with fail
          go_ret
          exact ⟨rfl, B3.out⟩
        | false =>
          by_cases hj0 : j = 0
          · subst hj0
            go_wp2_with fail
            go_roundw
            case rel =>
              refine ⟨1, by omega, rfl, fun m hm => ?_, G3.out, B3.out⟩
              obtain rfl : m = 0 := by omega
              unfold rightD; rw [HZ.out, hr1, hr2]; rfl
            case measure => simp [intOf]; omega
          · obtain ⟨k, hk⟩ : ∃ k, j = k + 1 := ⟨j - 1, by omega⟩
            subst hk
            obtain ⟨Gk, pk, hEk, hck, hGk⟩ := (H1.out.below B3.out).elem k (by omega)
            have Ek := Lib.hid hEk
            obtain ⟨y, hy⟩ : ∃ y, c.getD k 0 = y := ⟨_, rfl⟩
            have HY := Lib.hid hy
            rw [hy] at hck
            have c16 := G3.out.cell (sc_cloud (.slice A c.length cp) HF.out.len)
            have hpos : ((k + 1 : Nat) : Int) > 0 := by omega
            have hpos' : decide ((0 : Int) < ((k + 1 : Nat) : Int)) = true := decide_eq_true (by omega)
            clear hEk hy
            by_cases hyz : z ≤ y
            · obtain rfl : r = false := hr.out.symm.trans (rights_no hlt (by unfold rightD; rw [HZ.out, Nat.add_sub_cancel, HY.out]; simp; intro _ _; omega))
              have hyz' : decide (z ≤ y) = true := by simp [hyz]
              go_wp2_with (first
                | go_skip
                | (refine wanted_on rfl ?_; refine wpList_sub1 rfl _ rfl _ k rfl (by push_cast; rfl) (by omega) ?_)
                | (refine wanted_on rfl ?_; refine wpList_indexN u24n rfl _ _ rfl _ _ _ Gk pk k _ rfl rfl rfl Ek.out ?_))
              go_ret
              exact ⟨rfl, B3.out⟩
            · have hyz' : decide (z ≤ y) = false := by simp [hyz]
              go_wp2_with (first
                | go_skip
                | (refine wanted_on rfl ?_; refine wpList_sub1 rfl _ rfl _ k rfl (by push_cast; rfl) (by omega) ?_)
                | (refine wanted_on rfl ?_; refine wpList_indexN u24n rfl _ _ rfl _ _ _ Gk pk k _ rfl rfl rfl Ek.out ?_))
              go_roundw
              case rel =>
                refine ⟨k + 1 + 1, by omega, by go_num, fun m hm => ?_, G3.out, B3.out⟩
                by_cases hm2 : m = k + 1
                · subst hm2
                  unfold rightD; rw [HZ.out, hr1, hr2, Nat.add_sub_cancel, HY.out]; simp; omega
                · exact AL.out m (by omega)
              case measure => simp [intOf]; omega
    · obtain rfl : j = c.length := by omega
      obtain rfl : r = true := hr.out.symm.trans (rights_yes AL.out)
      go_wp2_with fail
      go_ret
      exact ⟨rfl, BB.out⟩
theorem drop_eq {l m : List Int} {j : Nat} (h1 : j < l.length) (h2 : j < m.length) : (l.drop j = m.drop j) ↔ (l.getD j 0 = m.getD j 0 ∧ l.drop (j + 1) = m.drop (j + 1)) := by
  rw [List.drop_eq_getElem_cons h1, List.drop_eq_getElem_cons h2, getD_at h1, getD_at h2, List.cons.injEq]
end Go.Proofs.YtpgafijeecmgmaaGreat
namespace Go.Proofs.YtpgafijeecmgmaaGreat
open Go.RowKit

theorem sum_nx {f : List Int} {j : Nat} (h : j < f.length) : (f.take (j + 1)).sum = (f.take j).sum + f.getD j 0 := by
  rw [getD_at h, ← List.take_append_getElem h, List.sum_append_int]; simp
theorem sum_rg {f : List Int} (h : VOk f) : ∀ j : Nat, 0 ≤ (f.take j).sum ∧ (f.take j).sum ≤ j * 4294967295
  | 0 => by simp
  | j + 1 => by
    have a := sum_rg h j
    by_cases hj : j < f.length
    · rw [sum_nx hj]; have := h.at j; omega
    · rw [List.take_of_length_le (by omega)]
      rw [List.take_of_length_le (by omega)] at a
      omega
theorem exec_idxV {o : Oper} {a : Act} {w : World} (x y : Operand) (ho : o.op = .index 26 x y) (l : List Int) (j : Nat) (hx : a.eval x = .agg (vc l).toArray) (hy : a.eval y = .int .i64 j) (hl : l.length = 16) (hj : j < 16) :
    (execOp a.eval o).run Tryz.prog w = .ok (.value (.int .u32 (l.getD j 0))) w := by
  have hsz := Tryz.sizeOf24
  have hr : (Instr.index 26 (.agg (vc l).toArray) (.int .i64 j)).run Tryz.prog w = .ok (.int .u32 (l.getD j 0)) w := by
    simp only [Instr.index, asIntOf, Sem.run_bind, Sem.run_pure, Result.andThen_ok, run_underlying Tryz.underlying26]
    rw [if_pos ⟨by omega, by omega⟩]
    simp only [Sem.run_bind, hsz, Result.andThen_ok, Int.toNat_natCast, Nat.mul_one]
    rw [part_v l j (by omega) w, getD_at (by omega)]
  unfold execOp
  simp only [ho, hx, hy, Sem.run_bind, hr, Result.andThen_ok, Sem.run_pure]
set_option maxRecDepth 100000 in
set_option maxHeartbeats 2000000 in
theorem count_is (f c : List Int) (A : Option Addr) (cp : Nat) (r : Int) (w : World) (hf : VOk f) (h1 : NumsAt w (.slice A c.length cp) c) (hn1 : c.length ≤ 2000) (hr : Hid (cntD (nrm f c) = r)) :
    Calls Tryz.prog 13 #[.agg (sc f (.slice A c.length cp)).toArray] w fun e w' => e = .returned (.int .u64 r) ∧ Below w.heap.size w w' := by
  have HF := Lib.hid hf
  have H1 := Lib.hid h1
  obtain ⟨p, hp⟩ : ∃ p, nrm f c = p := ⟨_, rfl⟩
  have NP := Lib.hid (hp ▸ nrm_of hf c)
  have HP := Lib.hid hp
  have hpl : p.2.length ≤ 2000 := by have := NP.out.len; omega
  rw [hp] at hr
  clear hf h1 hp
  have hwl : IntKind.u64.wrap (p.2.length : Int) = (p.2.length : Int) := by rw [IntKind.wrap_u64]; omega
  go_enter Tryz.func13, Tryz.ntmps13
  go_wp2_with (first
    | (refine wpList_box_cs rfl _ rfl (sc f (.slice A c.length cp)) rfl ?_; intro g0 w1 eg0 G1 b1)
    | refine wpList_load_s t33 rfl _ rfl g0 f _ rfl G1.out HF.out.len ?_)
  refine (add0_is f c A cp w1 HF.out (H1.out.below b1.out) hn1 p HP).mono ?_
  rintro e w2 ⟨A', c', rfl, o2, b2⟩
  have G2 := Lib.hid (G1.out.below b2)
  have B2 := Lib.hid (step_ b1.out b2)
  have hg0 := Lib.hid (show w.heap.size ≤ g0 by have := eg0.out; omega)
  clear o2 b2 G1
  go_wp2_with (first
    | (refine wpList_store_s t33 rfl _ _ rfl g0 f p.1 _ A' p.2.length c' rfl rfl G2.out HF.out.len NP.out.v.len ?_; intro w3 G3 o3; have c16 := G3.out.cell (sc_cloud (.slice A' p.2.length c') NP.out.v.len))
    | refine wpList_load_v t24 rfl _ rfl g0 0 p.1 rfl (range_floor G3.out.range) NP.out.v.len ?_)
  have B3 := Lib.hid (B2.out.trans (o3.out.below hg0.out B2.out.size))
  clear c16
  go_loopw [14, 3, 5] (fun i n _ wr => ∃ j : Nat, j ≤ 16 ∧ i = .int .i64 j ∧ n = .int .u64 (p.2.length + (p.1.take j).sum) ∧ wr = w3) (fun i _ _ _ => 16 - (intOf i).toNat)
  case atStart => exact ⟨0, by omega, rfl, by simp, rfl⟩
  case round =>
    obtain ⟨j, hj, rfl, rfl, rfl⟩ := hrel
    by_cases hlt : j < 16
    · obtain ⟨x, hx⟩ : ∃ x, p.1.getD j 0 = x := ⟨_, rfl⟩
      have HX := Lib.hid hx
      have hs := sum_rg NP.out.v j
      have hxr := NP.out.v.at j
      rw [hx] at hxr
      have e1 : IntKind.u64.wrap x = x := by rw [IntKind.wrap_u64]; omega
      have e2 : IntKind.u64.wrap ((p.2.length : Int) + (p.1.take j).sum + x) = (p.2.length : Int) + (p.1.take (j + 1)).sum := by
        rw [sum_nx (by rw [NP.out.v.len]; exact hlt), hx, IntKind.wrap_u64]; omega
      clear hs hx
      go_wp2_with (first
        | (refine wpList_val rfl _ (exec_idxV _ _ rfl p.1 j rfl rfl NP.out.v.len hlt) ?_; rw [HX.out]))
      go_roundw
      case rel =>
        refine ⟨j + 1, by omega, by go_num, ?_⟩
        first | trivial | exact ⟨rfl, rfl⟩
      case measure => simp [intOf]; omega
    · obtain rfl : j = 16 := by omega
      go_wp2_with fail
      go_ret
      refine ⟨ret_int ?_, B3.out⟩
      rw [List.take_of_length_le (by rw [NP.out.v.len]; omega), ← hr.out]
      unfold cntD; omega
section
variable {ops : Array Oper} {Q : Exit → Act → World → Prop} {md : Region.Mode} {S : World → Prop} {fuel : Nat} {listed : Array Bool} {a : Act} {w : World} {i : Nat} {o : Oper} {rs : List Nat}
theorem ready_two (ho : ops[i]? = some o) (hg : o.guard = none) (x y : Operand) (hop : o.op = .buildSlice 74 2 #[(0, x), (1, y)]) (A1 A2 : Option Addr) (n1 n2 c1 c2 : Nat) (hx : a.eval x = .slice A1 n1 c1) (hy : a.eval y = .slice A2 n2 c2)
    (h : ∀ g w', Below w.heap.size w w' → Blk w' g 27 [.slice A1 n1 c1, .slice A2 n2 c2] → S w' ∧ wpAnyH Tryz.prog md ops Q S fuel (listed.setIfInBounds i true) (a.put o.dst (.slice (some ⟨g, 0, none⟩) 2 2)) w')
    (hs : AllReadyH Tryz.prog md ops Q S fuel listed a w rs) : AllReadyH Tryz.prog md ops Q S fuel listed a w (i :: rs) :=
  ready_val ho hg _ _ (exec_two x y hop A1 A2 n1 n2 c1 c2 hx hy) (h _ _ (new_below w _) (blk_alloc w 27 [.slice A1 n1 c1, .slice A2 n2 c2])) hs
end
set_option maxRecDepth 100000 in
set_option maxHeartbeats 4000000 in
theorem join_is (f c g e : List Int) (A A2 : Option Addr) (cp cp2 : Nat) (w : World) (hf : VOk f) (hg : VOk g) (h1 : NumsAt w (.slice A c.length cp) c) (h2 : NumsAt w (.slice A2 e.length cp2) e) (hn1 : c.length ≤ 2000) (hn2 : e.length ≤ 2000) (p : List Int × List Int) (hp : Hid (nrm (vj f g) (c ++ e) = p)) :
    Calls Tryz.prog 10 #[.agg (sc f (.slice A c.length cp)).toArray, .agg (sc g (.slice A2 e.length cp2)).toArray] w (GivesS w p) := by
  have HF := Lib.hid hf
  have HG := Lib.hid hg
  have H1 := Lib.hid h1
  have H2 := Lib.hid h2
  have NJ := Lib.hid (vj_ok hf hg)
  have NP := Lib.hid (hp.out ▸ (nrm_of NJ.out (c ++ e)).v)
  clear hf hg h1 h2
  go_enter Tryz.func10, Tryz.ntmps10
  go_wp2_with (first
    | (refine wpList_alloc_s t33 rfl rfl ?_; intro gr w3 egr R3 b3)
    | (have _ := G1.out; refine wpList_box_cs rfl _ rfl (sc g (.slice A2 e.length cp2)) rfl ?_; intro g1 w2 eg1 K1 b2)
    | (refine wpList_box_cs rfl _ rfl (sc f (.slice A c.length cp)) rfl ?_; intro g0 w1 eg0 G1 b1))
  have c2 := Lib.hid (b1.out.trans (b2.out.mono b1.out.size))
  have c3 := Lib.hid (c2.out.trans (b3.out.mono c2.out.size))
  have G0 := Lib.hid ((G1.out.below b2.out).below b3.out)
  have l1 := (G1.out.below b2.out).lt
  have l2 := K1.out.lt
  have er := egr.out
  have hgr := Lib.hid (show w.heap.size ≤ gr by have := c2.out.size; omega)
  have NE0 := Lib.hid (show g0 ≠ gr by omega)
  have NE1 := Lib.hid (show g1 ≠ gr by omega)
  have D0 := Lib.hid (show Below w3.heap.size w3 w3.drew from below_drew (Below.refl _ _))
  have S0 := Lib.hid (show Only gr w3 w3.drew from Only.of_below D0.out)
  have D1 := Lib.hid (step_ c3.out D0.out)
  have RD := Lib.hid (R3.out.below D0.out)
  have K3 := Lib.hid (K1.out.below b3.out)
  clear G1 K1 b1 b2 b3 c2 c3 l1 l2 er R3
  have G1 := K3
  clear K3
  refine wp_region_noPanic ?_
  refine wp_region_held_drew (S := fun W => Only gr w3 W) (by kernel_rfl) S0.out (fun _ => ?_)
  refine wpAnyH_take (i := 0) (oi := { dst := some 5, op := Go.Op.fieldAddr 29 (Go.Operand.tmp 2) 0, type := 0, pos := _, after := #[], guard := none }) (v := ?_) rfl (by kernel_rfl) (by kernel_rfl) (by kernel_rfl) (fun _ _ _ h => h) (Or.inl ⟨by rfl, ?_⟩) S0.out ?_
  rotate_left
  · intro W hW; (go_simp; try with_reducible rfl)
  try simp only [Act.put, List.setIfInBounds_toArray, List.set_cons_zero, List.set_cons_succ]
  refine wpAnyH_take (i := 1) (oi := { dst := some 6, op := Go.Op.load 26 (Go.Operand.tmp 5), type := 26, pos := _, after := #[{ on := 0, ground := Go.Ground.data }], guard := none }) (v := .agg (vc f).toArray) rfl (by kernel_rfl) (by kernel_rfl) (by kernel_rfl) (fun _ _ _ h => h) (yieldsIf_load_mid (by rfl) 26 (.tmp 5) rfl g0 0 rfl (vc f) _ (fun W hW => range_floor (G0.out.only hW NE0.out).range) Tryz.underlying26 rfl (t24.size HF.out.len)) S0.out ?_
  try simp only [Act.put, List.setIfInBounds_toArray, List.set_cons_zero, List.set_cons_succ]
  refine wpAnyH_take (i := 2) (oi := { dst := some 7, op := Go.Op.fieldAddr 29 (Go.Operand.tmp 3) 0, type := 0, pos := _, after := #[], guard := none }) (v := ?_) rfl (by kernel_rfl) (by kernel_rfl) (by kernel_rfl) (fun _ _ _ h => h) (Or.inl ⟨by rfl, ?_⟩) S0.out ?_
  rotate_left
  · intro W hW; (go_simp; try with_reducible rfl)
  try simp only [Act.put, List.setIfInBounds_toArray, List.set_cons_zero, List.set_cons_succ]
  refine wpAnyH_take (i := 3) (oi := { dst := some 8, op := Go.Op.load 26 (Go.Operand.tmp 7), type := 26, pos := _, after := #[{ on := 2, ground := Go.Ground.data }], guard := none }) (v := .agg (vc g).toArray) rfl (by kernel_rfl) (by kernel_rfl) (by kernel_rfl) (fun _ _ _ h => h) (yieldsIf_load_mid (by rfl) 26 (.tmp 7) rfl g1 0 rfl (vc g) _ (fun W hW => range_floor (G1.out.only hW NE1.out).range) Tryz.underlying26 rfl (t24.size HG.out.len)) S0.out ?_
  try simp only [Act.put, List.setIfInBounds_toArray, List.set_cons_zero, List.set_cons_succ]
  refine wpAnyH_take (i := 5) (oi := { dst := some 10, op := Go.Op.fieldAddr 29 (Go.Operand.tmp 2) 1, type := 0, pos := _, after := #[], guard := none }) (v := ?_) rfl (by kernel_rfl) (by kernel_rfl) (by kernel_rfl) (fun _ _ _ h => h) (Or.inl ⟨by rfl, ?_⟩) S0.out ?_
  rotate_left
  · intro W hW; (go_simp; try with_reducible rfl)
  try simp only [Act.put, List.setIfInBounds_toArray, List.set_cons_zero, List.set_cons_succ]
  refine wpAnyH_take (i := 6) (oi := { dst := some 11, op := Go.Op.load 27 (Go.Operand.tmp 10), type := 27, pos := _, after := #[{ on := 5, ground := Go.Ground.data }], guard := none }) (v := ?_) rfl (by kernel_rfl) (by kernel_rfl) (by kernel_rfl) (fun _ _ _ h => h) (Or.inl ⟨by rfl, ?_⟩) S0.out ?_
  rotate_left
  · intro W hW; have c16 := (G0.out.only hW NE0.out).cell (sc_cloud (.slice A c.length cp) HF.out.len); (go_simp; try with_reducible rfl)
  try simp only [Act.put, List.setIfInBounds_toArray, List.set_cons_zero, List.set_cons_succ]
  refine wpAnyH_take (i := 7) (oi := { dst := some 12, op := Go.Op.fieldAddr 29 (Go.Operand.tmp 3) 1, type := 0, pos := _, after := #[], guard := none }) (v := ?_) rfl (by kernel_rfl) (by kernel_rfl) (by kernel_rfl) (fun _ _ _ h => h) (Or.inl ⟨by rfl, ?_⟩) S0.out ?_
  rotate_left
  · intro W hW; (go_simp; try with_reducible rfl)
  try simp only [Act.put, List.setIfInBounds_toArray, List.set_cons_zero, List.set_cons_succ]
  refine wpAnyH_take (i := 8) (oi := { dst := some 13, op := Go.Op.load 27 (Go.Operand.tmp 12), type := 27, pos := _, after := #[{ on := 7, ground := Go.Ground.data }], guard := none }) (v := ?_) rfl (by kernel_rfl) (by kernel_rfl) (by kernel_rfl) (fun _ _ _ h => h) (Or.inl ⟨by rfl, ?_⟩) S0.out ?_
  rotate_left
  · intro W hW; have c16 := (G1.out.only hW NE1.out).cell (sc_cloud (.slice A2 e.length cp2) HG.out.len); (go_simp; try with_reducible rfl)
  try simp only [Act.put, List.setIfInBounds_toArray, List.set_cons_zero, List.set_cons_succ]
  refine wpAnyH_ready (rs := [4, 9]) (by kernel_rfl) (by simp) ?_
  refine AllReadyH.cons (o := { dst := some 9, op := Go.Op.call { callee := Go.Callee.value (Go.Operand.func 23), args := #[Go.Operand.tmp 6, Go.Operand.tmp 8], argTypes := #[26, 26] }, type := 26, pos := _, after := #[{ on := 1, ground := Go.Ground.data }, { on := 3, ground := Go.Ground.data }], guard := none }) rfl (fun K hK => ?_) ?_
  · go_simp
    refine (joinV_is f g _ HF.out.len HG.out.len).mono ?_
    rintro e w1 ⟨rfl, b1⟩
    have B1 := Lib.hid (step_ D1.out b1)
    have S1 := Lib.hid (S0.out.trans (Only.of_below b1))
    have R1 := Lib.hid (RD.out.below b1)
    clear b1
    go_wp2_with fail
    refine hK.out _ _ S1.out (fun _ => ?_)
    clear hK K
    try simp only [Act.put, List.setIfInBounds_toArray, List.set_cons_zero, List.set_cons_succ]
    refine wpAnyH_ready (rs := [9]) (by kernel_rfl) (by simp) ?_
    refine ready_two (o := { dst := some 14, op := Go.Op.buildSlice 74 2 #[(0, Go.Operand.tmp 11), (1, Go.Operand.tmp 13)], type := 74, pos := _, after := #[{ on := 6, ground := Go.Ground.data }, { on := 8, ground := Go.Ground.data }], guard := none }) rfl rfl (.tmp 11) (.tmp 13) rfl A A2 c.length e.length cp cp2 rfl rfl (fun g2 w2 b2 z2 => ⟨S1.out.trans (Only.of_below b2), ?_⟩) AllReadyH.nil
    have B2 := Lib.hid (step_ B1.out b2)
    have S2 := Lib.hid (S1.out.trans (Only.of_below b2))
    have R2 := Lib.hid (R1.out.below b2)
    have T2 := Lib.hid z2
    clear b2 z2
    try simp only [Act.put, List.setIfInBounds_toArray, List.set_cons_zero, List.set_cons_succ]
    refine wpAnyH_ready (rs := [10]) (by kernel_rfl) (by simp) ?_
    refine AllReadyH.cons (o := { dst := some 15, op := Go.Op.call { callee := Go.Callee.value (Go.Operand.func 22), args := #[Go.Operand.tmp 9, Go.Operand.tmp 14], argTypes := #[26, 74] }, type := 29, pos := _, after := #[{ on := 4, ground := Go.Ground.data }, { on := 9, ground := Go.Ground.data }, { on := 4, ground := Go.Ground.chain }], guard := none }) rfl (fun K hK => ?_) AllReadyH.nil
    go_simp
    refine (settle_is (vj f g) g2 _ _ c e _ NJ.out T2.out (H1.out.below B2.out) (H2.out.below B2.out) hn1 hn2).mono ?_
    rintro e w3 ⟨Ak3, ck3, re3, o3, b3⟩
    rw [hp.out] at re3 o3
    subst re3
    have B3 := Lib.hid (step_ B2.out b3)
    have S3 := Lib.hid (S2.out.trans (Only.of_below b3))
    have R3 := Lib.hid (R2.out.below b3)
    have O3 := Lib.hid (o3.down B2.out.size)
    clear b3 o3
    go_wp2_with fail
    refine hK.out _ _ S3.out (fun _ => ?_)
    clear hK K
    try simp only [Act.put, List.setIfInBounds_toArray, List.set_cons_zero, List.set_cons_succ]
    refine wpAnyH_ready (rs := [11]) (by kernel_rfl) (by simp) ?_
    refine ready_store_s t33 (o := { dst := none, op := Go.Op.store 29 (Go.Operand.tmp 4) (Go.Operand.tmp 15), type := 0, pos := _, after := #[{ on := 10, ground := Go.Ground.data }, { on := 10, ground := Go.Ground.chain }, { on := 0, ground := Go.Ground.phase }, { on := 1, ground := Go.Ground.phase }, { on := 2, ground := Go.Ground.phase }, { on := 3, ground := Go.Ground.phase }, { on := 4, ground := Go.Ground.phase }, { on := 5, ground := Go.Ground.phase }, { on := 6, ground := Go.Ground.phase }, { on := 7, ground := Go.Ground.phase }, { on := 8, ground := Go.Ground.phase }, { on := 9, ground := Go.Ground.phase }, { on := 10, ground := Go.Ground.phase }], guard := none }) rfl rfl (.tmp 4) (.tmp 15) rfl gr vz p.1 _ Ak3 p.2.length ck3 rfl rfl R3.out vz_len NP.out.len (fun w4 z4 o4 => ⟨S3.out.trans o4, ?_⟩) AllReadyH.nil
    simp only [Act.put]
    refine wpAnyH_done (by kernel_rfl) ?_ _
    refine NoPanic.normal ?_
    have Z1 := Lib.hid z4
    have P1 := Lib.hid (O3.out.only o4 (fun k hk e => O3.out.neT R3.out (by decide) (by rw [hk, e])))
    have WF := Lib.hid (B3.out.trans (o4.below hgr.out B3.out.size))
    clear z4 o4
    go_wp2_with fail
    refine bodyPost_ret (results_s t33 rfl _ _ gr p.1 _ rfl Z1.out NP.out.len) rfl ?_
    exact ⟨Ak3, ck3, rfl, P1.out, WF.out⟩
  refine ready_two (o := { dst := some 14, op := Go.Op.buildSlice 74 2 #[(0, Go.Operand.tmp 11), (1, Go.Operand.tmp 13)], type := 74, pos := _, after := #[{ on := 6, ground := Go.Ground.data }, { on := 8, ground := Go.Ground.data }], guard := none }) rfl rfl (.tmp 11) (.tmp 13) rfl A A2 c.length e.length cp cp2 rfl rfl (fun g5 w5 b5 z5 => ⟨S0.out.trans (Only.of_below b5), ?_⟩) AllReadyH.nil
  have B5 := Lib.hid (step_ D1.out b5)
  have S5 := Lib.hid (S0.out.trans (Only.of_below b5))
  have R5 := Lib.hid (RD.out.below b5)
  have T5 := Lib.hid z5
  clear b5 z5
  try simp only [Act.put, List.setIfInBounds_toArray, List.set_cons_zero, List.set_cons_succ]
  refine wpAnyH_ready (rs := [4]) (by kernel_rfl) (by simp) ?_
  refine AllReadyH.cons (o := { dst := some 9, op := Go.Op.call { callee := Go.Callee.value (Go.Operand.func 23), args := #[Go.Operand.tmp 6, Go.Operand.tmp 8], argTypes := #[26, 26] }, type := 26, pos := _, after := #[{ on := 1, ground := Go.Ground.data }, { on := 3, ground := Go.Ground.data }], guard := none }) rfl (fun K hK => ?_) AllReadyH.nil
  go_simp
  refine (joinV_is f g _ HF.out.len HG.out.len).mono ?_
  rintro e w6 ⟨rfl, b6⟩
  have B6 := Lib.hid (step_ B5.out b6)
  have S6 := Lib.hid (S5.out.trans (Only.of_below b6))
  have R6 := Lib.hid (R5.out.below b6)
  have T6 := Lib.hid (T5.out.below b6)
  clear b6
  go_wp2_with fail
  refine hK.out _ _ S6.out (fun _ => ?_)
  clear hK K
  try simp only [Act.put, List.setIfInBounds_toArray, List.set_cons_zero, List.set_cons_succ]
  refine wpAnyH_ready (rs := [10]) (by kernel_rfl) (by simp) ?_
  refine AllReadyH.cons (o := { dst := some 15, op := Go.Op.call { callee := Go.Callee.value (Go.Operand.func 22), args := #[Go.Operand.tmp 9, Go.Operand.tmp 14], argTypes := #[26, 74] }, type := 29, pos := _, after := #[{ on := 4, ground := Go.Ground.data }, { on := 9, ground := Go.Ground.data }, { on := 4, ground := Go.Ground.chain }], guard := none }) rfl (fun K hK => ?_) AllReadyH.nil
  go_simp
  refine (settle_is (vj f g) g5 _ _ c e _ NJ.out T6.out (H1.out.below B6.out) (H2.out.below B6.out) hn1 hn2).mono ?_
  rintro e w7 ⟨Ak7, ck7, re7, o7, b7⟩
  rw [hp.out] at re7 o7
  subst re7
  have B7 := Lib.hid (step_ B6.out b7)
  have S7 := Lib.hid (S6.out.trans (Only.of_below b7))
  have R7 := Lib.hid (R6.out.below b7)
  have O7 := Lib.hid (o7.down B6.out.size)
  clear b7 o7
  go_wp2_with fail
  refine hK.out _ _ S7.out (fun _ => ?_)
  clear hK K
  try simp only [Act.put, List.setIfInBounds_toArray, List.set_cons_zero, List.set_cons_succ]
  refine wpAnyH_ready (rs := [11]) (by kernel_rfl) (by simp) ?_
  refine ready_store_s t33 (o := { dst := none, op := Go.Op.store 29 (Go.Operand.tmp 4) (Go.Operand.tmp 15), type := 0, pos := _, after := #[{ on := 10, ground := Go.Ground.data }, { on := 10, ground := Go.Ground.chain }, { on := 0, ground := Go.Ground.phase }, { on := 1, ground := Go.Ground.phase }, { on := 2, ground := Go.Ground.phase }, { on := 3, ground := Go.Ground.phase }, { on := 4, ground := Go.Ground.phase }, { on := 5, ground := Go.Ground.phase }, { on := 6, ground := Go.Ground.phase }, { on := 7, ground := Go.Ground.phase }, { on := 8, ground := Go.Ground.phase }, { on := 9, ground := Go.Ground.phase }, { on := 10, ground := Go.Ground.phase }], guard := none }) rfl rfl (.tmp 4) (.tmp 15) rfl gr vz p.1 _ Ak7 p.2.length ck7 rfl rfl R7.out vz_len NP.out.len (fun w8 z8 o8 => ⟨S7.out.trans o8, ?_⟩) AllReadyH.nil
  simp only [Act.put]
  refine wpAnyH_done (by kernel_rfl) ?_ _
  refine NoPanic.normal ?_
  have Z1 := Lib.hid z8
  have P1 := Lib.hid (O7.out.only o8 (fun k hk e => O7.out.neT R7.out (by decide) (by rw [hk, e])))
  have WF := Lib.hid (B7.out.trans (o8.below hgr.out B7.out.size))
  clear z8 o8
  go_wp2_with fail
  refine bodyPost_ret (results_s t33 rfl _ _ gr p.1 _ rfl Z1.out NP.out.len) rfl ?_
  exact ⟨Ak7, ck7, rfl, P1.out, WF.out⟩
theorem run_field_c' (c0 c1 c2 c3 c4 c5 c6 c7 c8 c9 c10 c11 c12 c13 c14 c15 : Value) (A : Option Addr) (n c : Nat) (w : World) : (Instr.field 29 (.agg #[c0, c1, c2, c3, c4, c5, c6, c7, c8, c9, c10, c11, c12, c13, c14, c15, .slice A n c]) 1).run Tryz.prog w = .ok (.slice A n c) w := by kernel_rfl
theorem run_field_c (f : List Int) (hf : f.length = 16) (A : Option Addr) (n c : Nat) (w : World) : (Instr.field 29 (.agg (sc f (.slice A n c)).toArray) 1).run Tryz.prog w = .ok (.slice A n c) w := by
  match f, hf with
  | [_, _, _, _, _, _, _, _, _, _, _, _, _, _, _, _], _ => exact run_field_c' ..
theorem exec_field_c {o : Oper} {a : Act} {w : World} (x : Operand) (ho : o.op = .field 29 x 1) (f : List Int) (A : Option Addr) (n c : Nat) (hx : a.eval x = .agg (sc f (.slice A n c)).toArray) (hf : f.length = 16) :
    (execOp a.eval o).run Tryz.prog w = .ok (.value (.slice A n c)) w := by
  unfold execOp
  simp only [ho, hx, Sem.run_bind, run_field_c f hf A n c w, Result.andThen_ok, Sem.run_pure]
end Go.Proofs.YtpgafijeecmgmaaGreat
