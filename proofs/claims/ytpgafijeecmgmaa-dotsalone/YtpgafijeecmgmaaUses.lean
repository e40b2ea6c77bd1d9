/- The contracts of Has, Right, Count, Same, Join and Less of package dots, and of slices.Equal at numbers. Written by wip/tools/uses_r13.py. -/
import Derived.Test.YtpgafijeecmgmaaAdds
namespace Go.Proofs.Ytpgafijeecmgmaa
open Go.RowKit

theorem add0_is (f c : List Int) (A : Option Addr) (cp : Nat) (w : World) (hf : VOk f) (h1 : NumsAt w (.slice A c.length cp) c) (hn1 : c.length ≤ 2000) (p : List Int × List Int) (hp : Hid (nrm f c = p)) :
    Calls Try.prog 11 #[.agg (sc f (.slice A c.length cp)).toArray, .slice none 0 0] w (GivesS w p) :=
  add_is f c [] A none cp 0 w hf h1 (nums_at_nil w) hn1 (by simp) p (Lib.hid (by rw [List.append_nil]; exact hp.out))
section
variable {ops : Array Oper} {Q : Exit → Act → World → Prop} {md : Region.Mode} {S : World → Prop} {fuel : Nat} {listed : Array Bool} {a : Act} {w : World} {i : Nat} {o : Oper} {rs : List Nat} {t : TypeId}
theorem ready_load_s (T : STy t) (ho : ops[i]? = some o) (hg : o.guard = none) (x : Operand) (hop : o.op = .load t x) (g : Nat) (f : List Int) (v : Value) (hx : a.eval x = .pointer (some ⟨g, 0, none⟩)) (hb : Blk w g t (sc f v)) (hf : f.length = 16)
    (h : S w ∧ wpAnyH Try.prog md ops Q S fuel (listed.setIfInBounds i true) (a.put o.dst (.agg (sc f v).toArray)) w)
    (hs : AllReadyH Try.prog md ops Q S fuel listed a w rs) : AllReadyH Try.prog md ops Q S fuel listed a w (i :: rs) := by
  refine AllReadyH.cons ho (fun K hK => ?_) hs
  have hw : Region.wanted o (yielded ops a.tmps) = true := by simp [Region.wanted, hg]
  rw [if_pos hw]
  obtain ⟨d, hd⟩ := T.und
  exact wp_load_mid t x hop g 0 hx (sc f v) _ hb.range hd rfl (T.size hf) (hK.out _ _ h.1 (fun _ => h.2))
theorem ready_store_s (T : STy t) (ho : ops[i]? = some o) (hg : o.guard = none) (x y : Operand) (hop : o.op = .store t x y) (g : Nat) (f m : List Int) (u : Value) (A : Option Addr) (n c : Nat)
    (hx : a.eval x = .pointer (some ⟨g, 0, none⟩)) (hy : a.eval y = .agg (sc m (.slice A n c)).toArray) (hb : Blk w g t (sc f u)) (hf : f.length = 16) (hm : m.length = 16)
    (h : ∀ w', Blk w' g t (sc m (.slice A n c)) → Only g w w' → S w' ∧ wpAnyH Try.prog md ops Q S fuel (listed.setIfInBounds i true) (a.put o.dst undef) w')
    (hs : AllReadyH Try.prog md ops Q S fuel listed a w rs) : AllReadyH Try.prog md ops Q S fuel listed a w (i :: rs) := by
  refine AllReadyH.cons ho (fun K hK => ?_) hs
  have hw : Region.wanted o (yielded ops a.tmps) = true := by simp [Region.wanted, hg]
  rw [if_pos hw]
  have h1 := sc_len u hf
  have h2 := sc_len (.slice A n c) hm
  refine wp_store_mid t x y hop g 0 (sc m (.slice A n c)).toArray hx hy (hb.there 0 _ (by rw [List.size_toArray]; omega)) (by rw [List.size_toArray]; exact T.size hm) (sc_one m A n c) ?_
  have hB := Blk.setCells (sc m (.slice A n c)) 0 w (sc f u) hb
  rw [setL_all _ _ (by omega)] at hB
  have H := h _ hB (Only.setCells (sc m (.slice A n c)) 0 w)
  exact hK.out _ _ H.1 (fun _ => H.2)
end
set_option maxRecDepth 100000 in
theorem has_is (f c : List Int) (A : Option Addr) (cp : Nat) (x : Int) (r : Bool) (w : World) (hf : VOk f) (h1 : NumsAt w (.slice A c.length cp) c) (hn1 : c.length ≤ 2000) (hx : 0 ≤ x ∧ x < 18446744073709551616) (hr : Hid (has f c x = r)) :
    Calls Try.prog 15 #[.agg (sc f (.slice A c.length cp)).toArray, .int .u64 x] w fun e w' => e = .returned (.bool r) ∧ Below w.heap.size w w' := by
  have HF := Lib.hid hf
  have H1 := Lib.hid h1
  have HX := Lib.hid hx
  clear hf h1 hx
  obtain ⟨r1, hr1⟩ : ∃ r, may x = r := ⟨_, rfl⟩
  obtain ⟨r2, hr2⟩ : ∃ r, und f x = r := ⟨_, rfl⟩
  obtain ⟨r3, hr3⟩ : ∃ r, c.contains x = r := ⟨_, rfl⟩
  have e : (r1 && (r2 || r3)) = r := by rw [← hr.out, ← hr1, ← hr2, ← hr3]; rfl
  go_enter Try.func15, Try.ntmps15
  go_wp2_with (refine wpList_box_cs rfl _ rfl (sc f (.slice A c.length cp)) rfl ?_; intro g0 w1 eg0 G1 b1)
  refine (valid_is x r1 w1 HX.out (Lib.hid hr1)).mono ?_
  rintro e w2 ⟨rfl, b2⟩
  have B2 := Lib.hid (step_ b1.out b2)
  have G2 := Lib.hid (G1.out.below b2)
  clear b2
  cases r1 with
  | false =>
    obtain rfl : r = false := e.symm
    go_wp2_with fail
    go_ret
    exact ⟨rfl, B2.out⟩
  | true =>
    go_wp2_with (first | go_skip | (refine wanted_on rfl ?_; refine wpList_load_v t24 rfl _ rfl g0 0 f rfl (range_floor G2.out.range) HF.out.len ?_))
    refine (under_is f x r2 w2 HF.out HX.out hr1 (Lib.hid hr2)).mono ?_
    rintro e w3 ⟨rfl, b3⟩
    have B3 := Lib.hid (step_ B2.out b3)
    have G3 := Lib.hid (G2.out.below b3)
    clear b3
    cases r2 with
    | true =>
      obtain rfl : r = true := e.symm
      go_wp2_with fail
      go_ret
      exact ⟨rfl, B3.out⟩
    | false =>
      obtain rfl : r = r3 := e.symm
      have c16 := G3.out.cell (sc_cloud (.slice A c.length cp) HF.out.len)
      go_wp2_with fail
      refine (contains_is c A cp x r w3 (H1.out.below B3.out) (by omega) (Lib.hid hr3)).mono ?_
      rintro e w4 ⟨rfl, b4⟩
      have B4 := Lib.hid (step_ B3.out b4)
      clear b4 c16
      go_wp2_with fail
      go_ret
      exact ⟨rfl, B4.out⟩
theorem rights_no {f c : List Int} {j : Nat} (hj : j < c.length) (h : rightD f c j = false) : rightsD f c c.length = false := by
  unfold rightsD
  rw [List.all_eq_false]
  exact ⟨j, List.mem_range.2 hj, by simp [h]⟩
theorem rights_yes {f c : List Int} (h : ∀ m, m < c.length → rightD f c m = true) : rightsD f c c.length = true := by
  unfold rightsD
  rw [List.all_eq_true]
  exact fun m hm => h m (List.mem_range.1 hm)
set_option maxRecDepth 100000 in
set_option maxHeartbeats 2000000 in
theorem right_is (f c : List Int) (A : Option Addr) (cp : Nat) (r : Bool) (w : World) (hf : VOk f) (h1 : NumsAt w (.slice A c.length cp) c) (hn1 : c.length ≤ 2000) (hr : Hid (rightsD f c c.length = r)) :
    Calls Try.prog 13 #[.agg (sc f (.slice A c.length cp)).toArray] w fun e w' => e = .returned (.bool r) ∧ Below w.heap.size w w' := by
  have HF := Lib.hid hf
  have H1 := Lib.hid h1
  have G1 := Lib.hid (blk_alloc w 33 (sc f (.slice A c.length cp)))
  have b1 := Lib.hid (new_below w (.cells (sc f (.slice A c.length cp)).toArray 33))
  have c16 := G1.out.cell (sc_cloud (.slice A c.length cp) hf.len)
  clear hf h1
  go_enter Try.func13, Try.ntmps13
  go_wp2_with fail
  go_loopw [8, 3, 4] (fun i _ _ wr => ∃ j : Nat, j ≤ c.length ∧ i = .int .i64 j ∧ (∀ m, m < j → rightD f c m = true) ∧ Blk wr w.heap.size 33 (sc f (.slice A c.length cp)) ∧ Below w.heap.size w wr) (fun i _ _ _ => c.length - (intOf i).toNat)
  case atStart => exact ⟨0, Nat.zero_le _, rfl, fun m hm => absurd hm (by omega), G1.out, b1.out⟩
  case round =>
    obtain ⟨j, hj, rfl, hall, hg, hb⟩ := hrel
    have BB := Lib.hid hb
    have GG := Lib.hid hg
    have AL := Lib.hid hall
    clear hb hall hg c16
    by_cases hlt : j < c.length
    · obtain ⟨G, p, hE, hc, hG⟩ := (H1.out.below BB.out).elem j hlt
      have E := Lib.hid hE
      obtain ⟨z, hz⟩ : ∃ z, c.getD j 0 = z := ⟨_, rfl⟩
      have HZ := Lib.hid hz
      have HX := Lib.hid (hz ▸ H1.out.nums.at_ j)
      rw [hz] at hc
      clear hE hz
      obtain ⟨r1, hr1⟩ : ∃ r, may z = r := ⟨_, rfl⟩
      go_wp2_with (first
        | refine wpList_indexN u24n rfl _ _ rfl _ _ _ G p j _ rfl rfl rfl E.out ?_)
      refine (valid_is z r1 wr HX.out (Lib.hid hr1)).mono ?_
      rintro e w2 ⟨rfl, x2⟩
      have B2 := Lib.hid (step_ BB.out x2)
      have G2 := Lib.hid (GG.out.below x2)
      clear x2 hc hG
      cases r1 with
      | false =>
        obtain rfl : r = false := hr.out.symm.trans (rights_no hlt (by unfold rightD; rw [HZ.out, hr1]; rfl))
        go_wp2_with fail
        go_ret
        exact ⟨rfl, B2.out⟩
      | true =>
        obtain ⟨r2, hr2⟩ : ∃ r, near f z = r := ⟨_, rfl⟩
        go_wp2_with (first | go_skip | (refine wanted_on rfl ?_; refine wpList_load_v t24 rfl _ rfl w.heap.size 0 f rfl (range_floor G2.out.range) HF.out.len ?_))
        refine (near_is f z r2 w2 HF.out HX.out hr1 (Lib.hid hr2)).mono ?_
        rintro e w3 ⟨rfl, x3⟩
        have B3 := Lib.hid (step_ B2.out x3)
        have G3 := Lib.hid (G2.out.below x3)
        clear x3
        cases r2 with
        | true =>
          obtain rfl : r = false := hr.out.symm.trans (rights_no hlt (by unfold rightD; rw [HZ.out, hr1, hr2]; rfl))
          go_wp2_with fail
          go_ret
          exact ⟨rfl, B3.out⟩
        | false =>
          by_cases hj0 : j = 0
          · subst hj0
            go_wp2_with fail
            go_roundw
            case rel =>
              refine ⟨1, by omega, rfl, fun m hm => ?_, G3.out, B3.out⟩
              obtain rfl : m = 0 := by omega
              unfold rightD; rw [HZ.out, hr1, hr2]; rfl
            case measure => simp [intOf]; omega
          · obtain ⟨k, hk⟩ : ∃ k, j = k + 1 := ⟨j - 1, by omega⟩
            subst hk
            obtain ⟨Gk, pk, hEk, hck, hGk⟩ := (H1.out.below B3.out).elem k (by omega)
            have Ek := Lib.hid hEk
            obtain ⟨y, hy⟩ : ∃ y, c.getD k 0 = y := ⟨_, rfl⟩
            have HY := Lib.hid hy
            rw [hy] at hck
            have c16 := G3.out.cell (sc_cloud (.slice A c.length cp) HF.out.len)
            have hpos : ((k + 1 : Nat) : Int) > 0 := by omega
            have hpos' : decide ((0 : Int) < ((k + 1 : Nat) : Int)) = true := decide_eq_true (by omega)
            clear hEk hy
            by_cases hyz : z ≤ y
            · obtain rfl : r = false := hr.out.symm.trans (rights_no hlt (by unfold rightD; rw [HZ.out, Nat.add_sub_cancel, HY.out]; simp; intro _ _; omega))
              have hyz' : decide (z ≤ y) = true := by simp [hyz]
              go_wp2_with (first
                | go_skip
                | (refine wanted_on rfl ?_; refine wpList_sub1 rfl _ rfl _ k rfl (by push_cast; rfl) (by omega) ?_)
                | (refine wanted_on rfl ?_; refine wpList_indexN u24n rfl _ _ rfl _ _ _ Gk pk k _ rfl rfl rfl Ek.out ?_))
              go_ret
              exact ⟨rfl, B3.out⟩
            · have hyz' : decide (z ≤ y) = false := by simp [hyz]
              go_wp2_with (first
                | go_skip
                | (refine wanted_on rfl ?_; refine wpList_sub1 rfl _ rfl _ k rfl (by push_cast; rfl) (by omega) ?_)
                | (refine wanted_on rfl ?_; refine wpList_indexN u24n rfl _ _ rfl _ _ _ Gk pk k _ rfl rfl rfl Ek.out ?_))
              go_roundw
              case rel =>
                refine ⟨k + 1 + 1, by omega, by go_num, fun m hm => ?_, G3.out, B3.out⟩
                by_cases hm2 : m = k + 1
                · subst hm2
                  unfold rightD; rw [HZ.out, hr1, hr2, Nat.add_sub_cancel, HY.out]; simp; omega
                · exact AL.out m (by omega)
              case measure => simp [intOf]; omega
    · obtain rfl : j = c.length := by omega
      obtain rfl : r = true := hr.out.symm.trans (rights_yes AL.out)
      go_wp2_with fail
      go_ret
      exact ⟨rfl, BB.out⟩
theorem drop_eq {l m : List Int} {j : Nat} (h1 : j < l.length) (h2 : j < m.length) : (l.drop j = m.drop j) ↔ (l.getD j 0 = m.getD j 0 ∧ l.drop (j + 1) = m.drop (j + 1)) := by
  rw [List.drop_eq_getElem_cons h1, List.drop_eq_getElem_cons h2, getD_at h1, getD_at h2, List.cons.injEq]
set_option maxRecDepth 100000 in
set_option maxHeartbeats 2000000 in
theorem equal_is (l m : List Int) (A1 A2 : Option Addr) (c1 c2 : Nat) (r : Bool) (w : World) (h1 : NumsAt w (.slice A1 l.length c1) l) (h2 : NumsAt w (.slice A2 m.length c2) m) (hn : l.length ≤ 5000) (hr : Hid (decide (l = m) = r)) :
    Calls Try.prog 35 #[.slice A1 l.length c1, .slice A2 m.length c2] w fun e w' => e = .returned (.bool r) ∧ Below w.heap.size w w' := by
  have H := Lib.hid h1
  have J := Lib.hid h2
  clear h1 h2
  by_cases hlen : l.length = m.length
  · have hbn : ((l.length : Int) == (m.length : Int)) = true := by simp [hlen]
    have HL := Lib.hid hlen
    clear hlen
    go_enter Try.func35, Try.ntmps35
    go_wp2_with fail
    go_loopw [13, 5] (fun i _ wr => ∃ j : Nat, j ≤ l.length ∧ i = .int .i64 j ∧ decide (l.drop j = m.drop j) = r ∧ Below w.heap.size w wr) (fun i _ _ => l.length - (intOf i).toNat)
    case atStart => exact ⟨0, Nat.zero_le _, rfl, hr.out, Below.refl _ _⟩
    case round =>
      obtain ⟨j, hj, rfl, hd, hb⟩ := hrel
      have BB := Lib.hid hb
      have HD := Lib.hid hd
      clear hb hd
      by_cases hlt : j < l.length
      · have hlt2 : j < m.length := HL.out ▸ hlt
        obtain ⟨G, p, hE, hc, hG⟩ := (H.out.below BB.out).elem j hlt
        obtain ⟨G2, p2, hF, hc2, hG2⟩ := (J.out.below BB.out).elem j hlt2
        obtain ⟨x, hx⟩ : ∃ z, l.getD j 0 = z := ⟨_, rfl⟩
        obtain ⟨y, hy⟩ : ∃ z, m.getD j 0 = z := ⟨_, rfl⟩
        rw [hx] at hc
        rw [hy] at hc2
        have E := Lib.hid hE
        have F := Lib.hid hF
        have C1 := Lib.hid hc
        have C2 := Lib.hid hc2
        have BL := Lib.hid hG
        have BL2 := Lib.hid hG2
        have HX := Lib.hid hx
        have HY := Lib.hid hy
        clear hE hF hc hc2 hG hG2 hx hy
        by_cases hxy : x = y
        · have hxy' : (x == y) = true := by simp [hxy]
          go_wp2_with fail
          have S1 := Lib.hid (show Below wr.heap.size wr wr.drew from below_drew (Below.refl _ _))
          refine wp_region_noPanic ?_
          refine wp_region_held_drew (S := fun W => Below wr.heap.size wr W) (by kernel_rfl) S1.out (fun _ => ?_)
          refine wpAnyH_take (i := 0) (oi := { dst := some 16, op := Go.Op.move (Go.Operand.tmp 0), type := 24, pos := _, after := #[], guard := none }) (v := ?_) rfl (by kernel_rfl) (by kernel_rfl) (by kernel_rfl) (fun _ _ _ h => h) (Or.inl ⟨by rfl, ?_⟩) S1.out ?_
          rotate_left
          · intro W hW; (go_simp; try with_reducible rfl)
          try simp only [Act.put, List.setIfInBounds_toArray, List.set_cons_zero, List.set_cons_succ]
          refine wpAnyH_take (i := 1) (oi := { dst := some 17, op := Go.Op.move (Go.Operand.tmp 5), type := 3, pos := _, after := #[], guard := none }) (v := ?_) rfl (by kernel_rfl) (by kernel_rfl) (by kernel_rfl) (fun _ _ _ h => h) (Or.inl ⟨by rfl, ?_⟩) S1.out ?_
          rotate_left
          · intro W hW; (go_simp; try with_reducible rfl)
          try simp only [Act.put, List.setIfInBounds_toArray, List.set_cons_zero, List.set_cons_succ]
          refine wpAnyH_take (i := 2) (oi := { dst := some 18, op := Go.Op.indexAddr 24 (Go.Operand.tmp 16) (Go.Operand.tmp 17), type := 0, pos := _, after := #[{ on := 0, ground := Go.Ground.data }, { on := 1, ground := Go.Ground.data }], guard := none }) (v := .pointer (some ⟨G, p, none⟩)) rfl (by kernel_rfl) (by kernel_rfl) (by kernel_rfl) (fun _ _ _ h => h) (Or.inl ⟨by rfl, fun W hW => exec_indexN u24n (.tmp 16) (.tmp 17) rfl A1 _ _ G p j _ rfl rfl rfl E.out⟩) S1.out ?_
          try simp only [Act.put, List.setIfInBounds_toArray, List.set_cons_zero, List.set_cons_succ]
          refine wpAnyH_take (i := 3) (oi := { dst := some 19, op := Go.Op.load 27 (Go.Operand.tmp 18), type := 27, pos := _, after := #[{ on := 2, ground := Go.Ground.data }], guard := none }) (v := .int .u64 x) rfl (by kernel_rfl) (by kernel_rfl) (by kernel_rfl) (fun _ _ _ h => h) (Or.inl ⟨by rfl, fun W hW => exec_load_num (.tmp 18) rfl G p x rfl ((hW.cell (p := ⟨G, p, none⟩) BL.out).trans C1.out)⟩) S1.out ?_
          try simp only [Act.put, List.setIfInBounds_toArray, List.set_cons_zero, List.set_cons_succ]
          refine wpAnyH_take (i := 4) (oi := { dst := some 20, op := Go.Op.move (Go.Operand.tmp 1), type := 24, pos := _, after := #[], guard := none }) (v := ?_) rfl (by kernel_rfl) (by kernel_rfl) (by kernel_rfl) (fun _ _ _ h => h) (Or.inl ⟨by rfl, ?_⟩) S1.out ?_
          rotate_left
          · intro W hW; (go_simp; try with_reducible rfl)
          try simp only [Act.put, List.setIfInBounds_toArray, List.set_cons_zero, List.set_cons_succ]
          refine wpAnyH_take (i := 5) (oi := { dst := some 21, op := Go.Op.move (Go.Operand.tmp 5), type := 3, pos := _, after := #[], guard := none }) (v := ?_) rfl (by kernel_rfl) (by kernel_rfl) (by kernel_rfl) (fun _ _ _ h => h) (Or.inl ⟨by rfl, ?_⟩) S1.out ?_
          rotate_left
          · intro W hW; (go_simp; try with_reducible rfl)
          try simp only [Act.put, List.setIfInBounds_toArray, List.set_cons_zero, List.set_cons_succ]
          refine wpAnyH_take (i := 6) (oi := { dst := some 22, op := Go.Op.indexAddr 24 (Go.Operand.tmp 20) (Go.Operand.tmp 21), type := 0, pos := _, after := #[{ on := 4, ground := Go.Ground.data }, { on := 5, ground := Go.Ground.data }], guard := none }) (v := .pointer (some ⟨G2, p2, none⟩)) rfl (by kernel_rfl) (by kernel_rfl) (by kernel_rfl) (fun _ _ _ h => h) (Or.inl ⟨by rfl, fun W hW => exec_indexN u24n (.tmp 20) (.tmp 21) rfl A2 _ _ G2 p2 j _ rfl rfl rfl F.out⟩) S1.out ?_
          try simp only [Act.put, List.setIfInBounds_toArray, List.set_cons_zero, List.set_cons_succ]
          refine wpAnyH_take (i := 7) (oi := { dst := some 23, op := Go.Op.load 27 (Go.Operand.tmp 22), type := 27, pos := _, after := #[{ on := 6, ground := Go.Ground.data }], guard := none }) (v := .int .u64 y) rfl (by kernel_rfl) (by kernel_rfl) (by kernel_rfl) (fun _ _ _ h => h) (Or.inl ⟨by rfl, fun W hW => exec_load_num (.tmp 22) rfl G2 p2 y rfl ((hW.cell (p := ⟨G2, p2, none⟩) BL2.out).trans C2.out)⟩) S1.out ?_
          try simp only [Act.put, List.setIfInBounds_toArray, List.set_cons_zero, List.set_cons_succ]
          refine wpAnyH_take (i := 8) (oi := { dst := some 24, op := Go.Op.binOp Go.BinOp.neq 27 (Go.Operand.tmp 19) (Go.Operand.tmp 23) 27, type := 4, pos := _, after := #[{ on := 3, ground := Go.Ground.data }, { on := 7, ground := Go.Ground.data }], guard := none }) (v := ?_) rfl (by kernel_rfl) (by kernel_rfl) (by kernel_rfl) (fun _ _ _ h => h) (Or.inl ⟨by rfl, ?_⟩) S1.out ?_
          rotate_left
          · intro W hW; (go_simp; try with_reducible rfl)
          try simp only [Act.put, List.setIfInBounds_toArray, List.set_cons_zero, List.set_cons_succ]
          refine wpAnyH_done (by kernel_rfl) ?_ _
          refine NoPanic.normal ?_
          go_wp2_with fail
          go_roundw
          case rel =>
            refine ⟨j + 1, by omega, by go_num, ?_, BB.out.trans (S1.out.mono BB.out.size)⟩
            rw [← HD.out, Bool.eq_iff_iff, decide_eq_true_eq, decide_eq_true_eq, drop_eq hlt hlt2, HX.out, HY.out]
            simp [hxy]
          case measure => simp [intOf]; omega
        · have hxy' : (x == y) = false := by simp [hxy]
          obtain rfl : r = false := by rw [← HD.out, decide_eq_false_iff_not, drop_eq hlt hlt2, HX.out, HY.out]; exact fun e => hxy e.1
          go_wp2_with fail
          have S1 := Lib.hid (show Below wr.heap.size wr wr.drew from below_drew (Below.refl _ _))
          refine wp_region_noPanic ?_
          refine wp_region_held_drew (S := fun W => Below wr.heap.size wr W) (by kernel_rfl) S1.out (fun _ => ?_)
          refine wpAnyH_take (i := 0) (oi := { dst := some 16, op := Go.Op.move (Go.Operand.tmp 0), type := 24, pos := _, after := #[], guard := none }) (v := ?_) rfl (by kernel_rfl) (by kernel_rfl) (by kernel_rfl) (fun _ _ _ h => h) (Or.inl ⟨by rfl, ?_⟩) S1.out ?_
          rotate_left
          · intro W hW; (go_simp; try with_reducible rfl)
          try simp only [Act.put, List.setIfInBounds_toArray, List.set_cons_zero, List.set_cons_succ]
          refine wpAnyH_take (i := 1) (oi := { dst := some 17, op := Go.Op.move (Go.Operand.tmp 5), type := 3, pos := _, after := #[], guard := none }) (v := ?_) rfl (by kernel_rfl) (by kernel_rfl) (by kernel_rfl) (fun _ _ _ h => h) (Or.inl ⟨by rfl, ?_⟩) S1.out ?_
          rotate_left
          · intro W hW; (go_simp; try with_reducible rfl)
          try simp only [Act.put, List.setIfInBounds_toArray, List.set_cons_zero, List.set_cons_succ]
          refine wpAnyH_take (i := 2) (oi := { dst := some 18, op := Go.Op.indexAddr 24 (Go.Operand.tmp 16) (Go.Operand.tmp 17), type := 0, pos := _, after := #[{ on := 0, ground := Go.Ground.data }, { on := 1, ground := Go.Ground.data }], guard := none }) (v := .pointer (some ⟨G, p, none⟩)) rfl (by kernel_rfl) (by kernel_rfl) (by kernel_rfl) (fun _ _ _ h => h) (Or.inl ⟨by rfl, fun W hW => exec_indexN u24n (.tmp 16) (.tmp 17) rfl A1 _ _ G p j _ rfl rfl rfl E.out⟩) S1.out ?_
          try simp only [Act.put, List.setIfInBounds_toArray, List.set_cons_zero, List.set_cons_succ]
          refine wpAnyH_take (i := 3) (oi := { dst := some 19, op := Go.Op.load 27 (Go.Operand.tmp 18), type := 27, pos := _, after := #[{ on := 2, ground := Go.Ground.data }], guard := none }) (v := .int .u64 x) rfl (by kernel_rfl) (by kernel_rfl) (by kernel_rfl) (fun _ _ _ h => h) (Or.inl ⟨by rfl, fun W hW => exec_load_num (.tmp 18) rfl G p x rfl ((hW.cell (p := ⟨G, p, none⟩) BL.out).trans C1.out)⟩) S1.out ?_
          try simp only [Act.put, List.setIfInBounds_toArray, List.set_cons_zero, List.set_cons_succ]
          refine wpAnyH_take (i := 4) (oi := { dst := some 20, op := Go.Op.move (Go.Operand.tmp 1), type := 24, pos := _, after := #[], guard := none }) (v := ?_) rfl (by kernel_rfl) (by kernel_rfl) (by kernel_rfl) (fun _ _ _ h => h) (Or.inl ⟨by rfl, ?_⟩) S1.out ?_
          rotate_left
          · intro W hW; (go_simp; try with_reducible rfl)
          try simp only [Act.put, List.setIfInBounds_toArray, List.set_cons_zero, List.set_cons_succ]
          refine wpAnyH_take (i := 5) (oi := { dst := some 21, op := Go.Op.move (Go.Operand.tmp 5), type := 3, pos := _, after := #[], guard := none }) (v := ?_) rfl (by kernel_rfl) (by kernel_rfl) (by kernel_rfl) (fun _ _ _ h => h) (Or.inl ⟨by rfl, ?_⟩) S1.out ?_
          rotate_left
          · intro W hW; (go_simp; try with_reducible rfl)
          try simp only [Act.put, List.setIfInBounds_toArray, List.set_cons_zero, List.set_cons_succ]
          refine wpAnyH_take (i := 6) (oi := { dst := some 22, op := Go.Op.indexAddr 24 (Go.Operand.tmp 20) (Go.Operand.tmp 21), type := 0, pos := _, after := #[{ on := 4, ground := Go.Ground.data }, { on := 5, ground := Go.Ground.data }], guard := none }) (v := .pointer (some ⟨G2, p2, none⟩)) rfl (by kernel_rfl) (by kernel_rfl) (by kernel_rfl) (fun _ _ _ h => h) (Or.inl ⟨by rfl, fun W hW => exec_indexN u24n (.tmp 20) (.tmp 21) rfl A2 _ _ G2 p2 j _ rfl rfl rfl F.out⟩) S1.out ?_
          try simp only [Act.put, List.setIfInBounds_toArray, List.set_cons_zero, List.set_cons_succ]
          refine wpAnyH_take (i := 7) (oi := { dst := some 23, op := Go.Op.load 27 (Go.Operand.tmp 22), type := 27, pos := _, after := #[{ on := 6, ground := Go.Ground.data }], guard := none }) (v := .int .u64 y) rfl (by kernel_rfl) (by kernel_rfl) (by kernel_rfl) (fun _ _ _ h => h) (Or.inl ⟨by rfl, fun W hW => exec_load_num (.tmp 22) rfl G2 p2 y rfl ((hW.cell (p := ⟨G2, p2, none⟩) BL2.out).trans C2.out)⟩) S1.out ?_
          try simp only [Act.put, List.setIfInBounds_toArray, List.set_cons_zero, List.set_cons_succ]
          refine wpAnyH_take (i := 8) (oi := { dst := some 24, op := Go.Op.binOp Go.BinOp.neq 27 (Go.Operand.tmp 19) (Go.Operand.tmp 23) 27, type := 4, pos := _, after := #[{ on := 3, ground := Go.Ground.data }, { on := 7, ground := Go.Ground.data }], guard := none }) (v := ?_) rfl (by kernel_rfl) (by kernel_rfl) (by kernel_rfl) (fun _ _ _ h => h) (Or.inl ⟨by rfl, ?_⟩) S1.out ?_
          rotate_left
          · intro W hW; (go_simp; try with_reducible rfl)
          try simp only [Act.put, List.setIfInBounds_toArray, List.set_cons_zero, List.set_cons_succ]
          refine wpAnyH_done (by kernel_rfl) ?_ _
          refine NoPanic.normal ?_
          go_wp2_with fail
          go_ret
          exact ⟨rfl, BB.out.trans (S1.out.mono BB.out.size)⟩
      · obtain rfl : j = l.length := by omega
        have hrt := HD.out
        rw [List.drop_length, HL.out, List.drop_length] at hrt
        obtain rfl : r = true := hrt.symm.trans (by simp)
        go_wp2_with fail
        go_ret
        exact ⟨rfl, BB.out⟩
  · have hbn : ((l.length : Int) == (m.length : Int)) = false := by simp; omega
    obtain rfl : r = false := by rw [← hr.out, decide_eq_false_iff_not]; intro e; exact hlen (by rw [e])
    go_enter Try.func35, Try.ntmps35
    go_wp2_with fail
    go_ret
    exact ⟨rfl, Below.refl _ _⟩
end Go.Proofs.Ytpgafijeecmgmaa
