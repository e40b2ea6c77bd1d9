/- The contracts of Right of package lat and of the reference. -/
import Derived.Test.YtnpbmihbmilkbaaGreatG11
import Derived.Test.YtnpbmihbmilkbaaGreatG13
import Derived.Test.YtnpbmihbmilkbaaGreatG14
namespace Go.Proofs.YtnpbmihbmilkbaaGreat
open Go.RowKit
set_option maxRecDepth 100000 in
set_option maxHeartbeats 2000000 in
theorem refRightR_is (A : Option Addr) (n cap : Nat) (l : List Am) (b : Bool) (w : World) (h : RowV w A n cap l) (hn : n ≤ 5000) (hb : Hid (rightR l = b)) : Calls Tryz.prog 32 #[.slice A n cap] w fun e w' => e = .returned (.bool b) ∧ Below w.heap.size w w' := by
  have hz := zero32
  have H := Lib.hid h
  clear h
  go_enter Tryz.func32, Tryz.ntmps32
  go_wp2_with fail
  go_loopw [3] (fun i wr => ∃ j : Nat, j ≤ n ∧ i = .int .i64 j ∧ (∀ m, m < j → okAt l m = true) ∧ Below w.heap.size w wr) (fun i _ => n - (intOf i).toNat)
  case atStart => exact ⟨0, Nat.zero_le _, rfl, fun m hm => absurd hm (Nat.not_lt_zero _), Below.refl _ _⟩
  case round =>
    obtain ⟨j, hj, rfl, hf, hbb⟩ := hrel
    have HF := Lib.hid hf
    have BB := Lib.hid hbb
    clear hf hbb
    by_cases hlt : j < n
    · obtain ⟨G, p, hE⟩ := (H.out.below BB.out).elem j hlt
      have E := Lib.hid hE
      have HJ := Lib.hid (show j < l.length by have := H.out.len; omega)
      have OK := Lib.hid (show okAt l j = ((l.getD j azero).right && (decide (j = 0) || (l.getD (j - 1) azero).k.less (l.getD j azero).k)) from rfl)
      obtain ⟨x, hx⟩ : ∃ x, l.getD j azero = x := ⟨_, rfl⟩
      rw [hx] at E OK
      clear hE hx
      have Z := Lib.hid (blk_alloc wr 50 azero.cells)
      cases hr : x.right with
      | false =>
        have HR := Lib.hid hr
        have HO := Lib.hid (show b = false by rw [← hb.out]; exact rightR_false HJ.out (by rw [OK.out, hr]; rfl))
        clear hr
        go_wp2_with fail
        refine region_later (by kernel_rfl) (by kernel_rfl) ?_
        go_big_quiet_step (fail)
        go_big_quiet_step (fail)
        (go_big_quiet_want; refine quiet_index _ _ rfl A n cap G p j x _ rfl rfl (by first | rfl | omega) E.out ?_; go_simp; go_big_quiet_on)
        (go_big_quiet_want; refine quiet_load_amx G p x _ rfl rfl E.out.rg E.out.blk E.out.ok ?_; go_simp; go_big_quiet_on)
        go_big_quiet_step (exact later_call (refAright_is x false _ E.out.ok HR))
        go_big_quiet_step (fail)
        go_big_quiet_step (fail)
        go_big_quiet_step (fail)
        go_big_quiet_step (fail)
        go_big_quiet_step (fail)
        go_big_quiet_step (fail)
        go_big_quiet_step (fail)
        go_big_quiet_step (fail)
        go_big_quiet_step (fail)
        go_big_quiet_step (fail)
        go_big_quiet_step (fail)
        go_big_quiet_step (fail)
        go_big_quiet_step (fail)
        go_big_quiet_step (fail)
        go_big_quiet_step (fail)
        go_big_quiet_step (fail)
        go_big_quiet_step (fail)
        go_big_quiet_step (fail)
        go_big_quiet_step (fail)
        go_big_quiet_step (fail)
        refine wpQuiet_nil ?_
        intro w3 hw3
        have B3 := Lib.hid (step_ BB.out hw3)
        clear hw3
        go_wp2_with fail
        go_ret
        exact ⟨ret_bool HO.out.symm, B3.out⟩
      | true =>
        have HR := Lib.hid hr
        by_cases h0 : j = 0
        · subst h0
          have HO := Lib.hid (show ∀ m, m < 0 + 1 → okAt l m = true from fun m hm => by
            obtain rfl : m = 0 := by omega
            rw [OK.out, hr]; rfl)
          clear hr
          go_wp2_with fail
          refine region_later (by kernel_rfl) (by kernel_rfl) ?_
          go_big_quiet_step (fail)
          go_big_quiet_step (fail)
          (go_big_quiet_want; refine quiet_index _ _ rfl A n cap G p 0 x _ rfl rfl (by first | rfl | omega) E.out ?_; go_simp; go_big_quiet_on)
          (go_big_quiet_want; refine quiet_load_amx G p x _ rfl rfl E.out.rg E.out.blk E.out.ok ?_; go_simp; go_big_quiet_on)
          go_big_quiet_step (exact later_call (refAright_is x true _ E.out.ok HR))
          go_big_quiet_step (fail)
          go_big_quiet_step (fail)
          go_big_quiet_step (fail)
          go_big_quiet_step (fail)
          go_big_quiet_step (fail)
          go_big_quiet_step (fail)
          go_big_quiet_step (fail)
          go_big_quiet_step (fail)
          go_big_quiet_step (fail)
          go_big_quiet_step (fail)
          go_big_quiet_step (fail)
          go_big_quiet_step (fail)
          go_big_quiet_step (fail)
          go_big_quiet_step (fail)
          go_big_quiet_step (fail)
          go_big_quiet_step (fail)
          go_big_quiet_step (fail)
          go_big_quiet_step (fail)
          go_big_quiet_step (fail)
          go_big_quiet_step (fail)
          refine wpQuiet_nil ?_
          intro w3 hw3
          have B3 := Lib.hid (step_ BB.out hw3)
          clear hw3
          go_wp2_with fail
          go_roundw
          case rel => exact ⟨1, by omega, by go_num, HO.out, B3.out⟩
          case measure => simp [intOf]; omega
        · obtain ⟨G1, p1, hE1⟩ := (H.out.below BB.out).elem (j - 1) (by omega)
          have F := Lib.hid hE1
          obtain ⟨y, hy⟩ : ∃ y, l.getD (j - 1) azero = y := ⟨_, rfl⟩
          rw [hy] at F OK
          clear hE1 hy
          have hj0 : 0 < j := by omega
          have hj1 : ¬ j = 0 := h0
          cases hl : y.k.less x.k with
          | false =>
            have HL := Lib.hid hl
            have HO := Lib.hid (show b = false by rw [← hb.out]; exact rightR_false HJ.out (by rw [OK.out, hr, hl]; simp [h0]))
            clear hr hl
            go_wp2_with fail
            refine region_later (by kernel_rfl) (by kernel_rfl) ?_
            go_big_quiet_step (fail)
            go_big_quiet_step (fail)
            (go_big_quiet_want; refine quiet_index _ _ rfl A n cap G p j x _ rfl rfl (by first | rfl | omega) E.out ?_; go_simp; go_big_quiet_on)
            (go_big_quiet_want; refine quiet_load_amx G p x _ rfl rfl E.out.rg E.out.blk E.out.ok ?_; go_simp; go_big_quiet_on)
            go_big_quiet_step (exact later_call (refAright_is x true _ E.out.ok HR))
            go_big_quiet_step (fail)
            go_big_quiet_step (fail)
            go_big_quiet_step (fail)
            go_big_quiet_step (fail)
            go_big_quiet_step (fail)
            go_big_quiet_step (fail)
            go_big_quiet_step (fail)
            go_big_quiet_step (fail)
            (go_big_quiet_want; refine quiet_index _ _ rfl A n cap G1 p1 (j - 1) y _ rfl rfl (by first | rfl | (go_num; omega) | omega) F.out ?_; go_simp; go_big_quiet_on)
            go_big_quiet_step (fail)
            (go_big_quiet_want; refine quiet_load_kyx G1 p1 y.k _ rfl rfl (range_ak F.out.rg) F.out.blk F.out.ok.k.ml ?_; go_simp; go_big_quiet_on)
            go_big_quiet_step (fail)
            go_big_quiet_step (fail)
            (go_big_quiet_want; refine quiet_index _ _ rfl A n cap G p j x _ rfl rfl (by first | rfl | omega) E.out ?_; go_simp; go_big_quiet_on)
            go_big_quiet_step (fail)
            (go_big_quiet_want; refine quiet_load_kyx G p x.k _ rfl rfl (range_ak E.out.rg) E.out.blk E.out.ok.k.ml ?_; go_simp; go_big_quiet_on)
            go_big_quiet_step (exact later_call (refLess_is y.k x.k false _ F.out.ok.k E.out.ok.k HL))
            go_big_quiet_step (fail)
            go_big_quiet_step (fail)
            go_big_quiet_step (fail)
            refine wpQuiet_nil ?_
            intro w3 hw3
            have B3 := Lib.hid (step_ BB.out hw3)
            clear hw3
            go_wp2_with fail
            go_ret
            exact ⟨ret_bool HO.out.symm, B3.out⟩
          | true =>
            have HL := Lib.hid hl
            have HO := Lib.hid (show ∀ m, m < j + 1 → okAt l m = true from fun m hm => by
              by_cases e : m = j
              · subst e; rw [OK.out, hr, hl]; simp
              · exact HF.out m (by omega))
            clear hr hl
            go_wp2_with fail
            refine region_later (by kernel_rfl) (by kernel_rfl) ?_
            go_big_quiet_step (fail)
            go_big_quiet_step (fail)
            (go_big_quiet_want; refine quiet_index _ _ rfl A n cap G p j x _ rfl rfl (by first | rfl | omega) E.out ?_; go_simp; go_big_quiet_on)
            (go_big_quiet_want; refine quiet_load_amx G p x _ rfl rfl E.out.rg E.out.blk E.out.ok ?_; go_simp; go_big_quiet_on)
            go_big_quiet_step (exact later_call (refAright_is x true _ E.out.ok HR))
            go_big_quiet_step (fail)
            go_big_quiet_step (fail)
            go_big_quiet_step (fail)
            go_big_quiet_step (fail)
            go_big_quiet_step (fail)
            go_big_quiet_step (fail)
            go_big_quiet_step (fail)
            go_big_quiet_step (fail)
            (go_big_quiet_want; refine quiet_index _ _ rfl A n cap G1 p1 (j - 1) y _ rfl rfl (by first | rfl | (go_num; omega) | omega) F.out ?_; go_simp; go_big_quiet_on)
            go_big_quiet_step (fail)
            (go_big_quiet_want; refine quiet_load_kyx G1 p1 y.k _ rfl rfl (range_ak F.out.rg) F.out.blk F.out.ok.k.ml ?_; go_simp; go_big_quiet_on)
            go_big_quiet_step (fail)
            go_big_quiet_step (fail)
            (go_big_quiet_want; refine quiet_index _ _ rfl A n cap G p j x _ rfl rfl (by first | rfl | omega) E.out ?_; go_simp; go_big_quiet_on)
            go_big_quiet_step (fail)
            (go_big_quiet_want; refine quiet_load_kyx G p x.k _ rfl rfl (range_ak E.out.rg) E.out.blk E.out.ok.k.ml ?_; go_simp; go_big_quiet_on)
            go_big_quiet_step (exact later_call (refLess_is y.k x.k true _ F.out.ok.k E.out.ok.k HL))
            go_big_quiet_step (fail)
            go_big_quiet_step (fail)
            go_big_quiet_step (fail)
            refine wpQuiet_nil ?_
            intro w3 hw3
            have B3 := Lib.hid (step_ BB.out hw3)
            clear hw3
            go_wp2_with fail
            go_roundw
            case rel => exact ⟨j + 1, by omega, by go_num, HO.out, B3.out⟩
            case measure => simp [intOf]; omega
    · obtain rfl : j = n := by omega
      have HO := Lib.hid (show b = true by rw [← hb.out]; exact rightR_true (fun i hi => HF.out i (by have := H.out.len; omega)))
      go_wp2_with fail
      go_ret
      exact ⟨ret_bool HO.out.symm, BB.out⟩
set_option maxRecDepth 100000 in
set_option maxHeartbeats 2000000 in
theorem rightR_is (A : Option Addr) (n cap : Nat) (l : List Am) (b : Bool) (w : World) (h : RowV w A n cap l) (hn : n ≤ 5000) (hb : Hid (rightR l = b)) : Calls Tryz.prog 67 #[.slice A n cap] w fun e w' => e = .returned (.bool b) ∧ Below w.heap.size w w' := by
  have hz := zero32
  have H := Lib.hid h
  clear h
  go_enter Tryz.func67, Tryz.ntmps67
  go_wp2_with fail
  go_loopw [7] (fun i wr => ∃ j : Nat, j ≤ n ∧ i = .int .i64 j ∧ (∀ m, m < j → okAt l m = true) ∧ Below w.heap.size w wr) (fun i _ => n - (intOf i).toNat)
  case atStart => exact ⟨0, Nat.zero_le _, rfl, fun m hm => absurd hm (Nat.not_lt_zero _), Below.refl _ _⟩
  case round =>
    obtain ⟨j, hj, rfl, hf, hbb⟩ := hrel
    have HF := Lib.hid hf
    have BB := Lib.hid hbb
    clear hf hbb
    by_cases hlt : j < n
    · obtain ⟨G, p, hE⟩ := (H.out.below BB.out).elem j hlt
      have E := Lib.hid hE
      have HJ := Lib.hid (show j < l.length by have := H.out.len; omega)
      have OK := Lib.hid (show okAt l j = ((l.getD j azero).right && (decide (j = 0) || (l.getD (j - 1) azero).k.less (l.getD j azero).k)) from rfl)
      obtain ⟨x, hx⟩ : ∃ x, l.getD j azero = x := ⟨_, rfl⟩
      rw [hx] at E OK
      clear hE hx
      have Z := Lib.hid (blk_alloc wr 50 azero.cells)
      cases hr : x.right with
      | false =>
        have HR := Lib.hid hr
        have HO := Lib.hid (show b = false by rw [← hb.out]; exact rightR_false HJ.out (by rw [OK.out, hr]; rfl))
        clear hr
        go_wp2_with (first
          | go_skip
          | refine wpList_index rfl _ _ rfl A n cap G p j x _ rfl rfl (by first | rfl | omega) E.out ?_
          | refine wpList_load_amx rfl _ rfl G p x rfl E.out.rg E.out.ok ?_
          | (refine wpList_store_am rfl _ _ rfl wr.heap.size azero x rfl rfl Z.out azero_ok E.out.ok ?_; intro w2 N2 O2))
        have B2 := Lib.hid (box_below O2.out)
        replace E := Lib.hid (E.out.below B2.out)
        replace BB := Lib.hid (step_ BB.out B2.out)
        clear B2 O2
        try simp only [Act.put]
        refine region_later (by kernel_rfl) (by kernel_rfl) ?_
        (go_big_quiet_want; refine quiet_load_am wr.heap.size x _ rfl rfl N2.out E.out.ok ?_; go_simp; go_big_quiet_on)
        go_big_quiet_step (exact later_call (aright_is x false _ E.out.ok HR))
        go_big_quiet_step (fail)
        go_big_quiet_step (fail)
        go_big_quiet_step (fail)
        go_big_quiet_step (fail)
        go_big_quiet_step (fail)
        go_big_quiet_step (fail)
        go_big_quiet_step (fail)
        go_big_quiet_step (fail)
        go_big_quiet_step (fail)
        go_big_quiet_step (fail)
        go_big_quiet_step (fail)
        go_big_quiet_step (fail)
        go_big_quiet_step (fail)
        go_big_quiet_step (fail)
        go_big_quiet_step (fail)
        go_big_quiet_step (fail)
        go_big_quiet_step (fail)
        refine wpQuiet_nil ?_
        intro w3 hw3
        have B3 := Lib.hid (step_ BB.out hw3)
        clear hw3
        go_wp2_with fail
        go_ret
        exact ⟨ret_bool HO.out.symm, B3.out⟩
      | true =>
        have HR := Lib.hid hr
        by_cases h0 : j = 0
        · subst h0
          have HO := Lib.hid (show ∀ m, m < 0 + 1 → okAt l m = true from fun m hm => by
            obtain rfl : m = 0 := by omega
            rw [OK.out, hr]; rfl)
          clear hr
          go_wp2_with (first
            | go_skip
            | refine wpList_index rfl _ _ rfl A n cap G p 0 x _ rfl rfl (by first | rfl | omega) E.out ?_
            | refine wpList_load_amx rfl _ rfl G p x rfl E.out.rg E.out.ok ?_
            | (refine wpList_store_am rfl _ _ rfl wr.heap.size azero x rfl rfl Z.out azero_ok E.out.ok ?_; intro w2 N2 O2))
          have B2 := Lib.hid (box_below O2.out)
          replace E := Lib.hid (E.out.below B2.out)
          replace BB := Lib.hid (step_ BB.out B2.out)
          clear B2 O2
          try simp only [Act.put]
          refine region_later (by kernel_rfl) (by kernel_rfl) ?_
          (go_big_quiet_want; refine quiet_load_am wr.heap.size x _ rfl rfl N2.out E.out.ok ?_; go_simp; go_big_quiet_on)
          go_big_quiet_step (exact later_call (aright_is x true _ E.out.ok HR))
          go_big_quiet_step (fail)
          go_big_quiet_step (fail)
          go_big_quiet_step (fail)
          go_big_quiet_step (fail)
          go_big_quiet_step (fail)
          go_big_quiet_step (fail)
          go_big_quiet_step (fail)
          go_big_quiet_step (fail)
          go_big_quiet_step (fail)
          go_big_quiet_step (fail)
          go_big_quiet_step (fail)
          go_big_quiet_step (fail)
          go_big_quiet_step (fail)
          go_big_quiet_step (fail)
          go_big_quiet_step (fail)
          go_big_quiet_step (fail)
          go_big_quiet_step (fail)
          refine wpQuiet_nil ?_
          intro w3 hw3
          have B3 := Lib.hid (step_ BB.out hw3)
          clear hw3
          go_wp2_with fail
          go_roundw
          case rel => exact ⟨1, by omega, by go_num, HO.out, B3.out⟩
          case measure => simp [intOf]; omega
        · obtain ⟨G1, p1, hE1⟩ := (H.out.below BB.out).elem (j - 1) (by omega)
          have F := Lib.hid hE1
          obtain ⟨y, hy⟩ : ∃ y, l.getD (j - 1) azero = y := ⟨_, rfl⟩
          rw [hy] at F OK
          clear hE1 hy
          have hj0 : 0 < j := by omega
          have hj1 : ¬ j = 0 := h0
          cases hl : y.k.less x.k with
          | false =>
            have HL := Lib.hid hl
            have HO := Lib.hid (show b = false by rw [← hb.out]; exact rightR_false HJ.out (by rw [OK.out, hr, hl]; simp [h0]))
            clear hr hl
            go_wp2_with (first
              | go_skip
              | refine wpList_index rfl _ _ rfl A n cap G p j x _ rfl rfl (by first | rfl | omega) E.out ?_
              | refine wpList_load_amx rfl _ rfl G p x rfl E.out.rg E.out.ok ?_
              | (refine wpList_store_am rfl _ _ rfl wr.heap.size azero x rfl rfl Z.out azero_ok E.out.ok ?_; intro w2 N2 O2))
            have B2 := Lib.hid (box_below O2.out)
            replace E := Lib.hid (E.out.below B2.out)
            replace BB := Lib.hid (step_ BB.out B2.out)
            replace F := Lib.hid (F.out.below B2.out)
            clear B2 O2
            try simp only [Act.put]
            refine region_later (by kernel_rfl) (by kernel_rfl) ?_
            (go_big_quiet_want; refine quiet_load_am wr.heap.size x _ rfl rfl N2.out E.out.ok ?_; go_simp; go_big_quiet_on)
            go_big_quiet_step (exact later_call (aright_is x true _ E.out.ok HR))
            go_big_quiet_step (fail)
            go_big_quiet_step (fail)
            go_big_quiet_step (fail)
            go_big_quiet_step (fail)
            go_big_quiet_step (fail)
            go_big_quiet_step (fail)
            go_big_quiet_step (fail)
            go_big_quiet_step (fail)
            (go_big_quiet_want; refine quiet_index _ _ rfl A n cap G1 p1 (j - 1) y _ rfl rfl (by first | rfl | (go_num; omega) | omega) F.out ?_; go_simp; go_big_quiet_on)
            go_big_quiet_step (fail)
            (go_big_quiet_want; refine quiet_load_kyx G1 p1 y.k _ rfl rfl (range_ak F.out.rg) F.out.blk F.out.ok.k.ml ?_; go_simp; go_big_quiet_on)
            go_big_quiet_step (fail)
            (go_big_quiet_want; refine quiet_load_kyx wr.heap.size 0 x.k _ rfl rfl N2.out.ak N2.out.lt E.out.ok.k.ml ?_; go_simp; go_big_quiet_on)
            go_big_quiet_step (exact later_call (less_is y.k x.k false _ F.out.ok.k E.out.ok.k HL))
            go_big_quiet_step (fail)
            go_big_quiet_step (fail)
            go_big_quiet_step (fail)
            refine wpQuiet_nil ?_
            intro w3 hw3
            have B3 := Lib.hid (step_ BB.out hw3)
            clear hw3
            go_wp2_with fail
            go_ret
            exact ⟨ret_bool HO.out.symm, B3.out⟩
          | true =>
            have HL := Lib.hid hl
            have HO := Lib.hid (show ∀ m, m < j + 1 → okAt l m = true from fun m hm => by
              by_cases e : m = j
              · subst e; rw [OK.out, hr, hl]; simp
              · exact HF.out m (by omega))
            clear hr hl
            go_wp2_with (first
              | go_skip
              | refine wpList_index rfl _ _ rfl A n cap G p j x _ rfl rfl (by first | rfl | omega) E.out ?_
              | refine wpList_load_amx rfl _ rfl G p x rfl E.out.rg E.out.ok ?_
              | (refine wpList_store_am rfl _ _ rfl wr.heap.size azero x rfl rfl Z.out azero_ok E.out.ok ?_; intro w2 N2 O2))
            have B2 := Lib.hid (box_below O2.out)
            replace E := Lib.hid (E.out.below B2.out)
            replace BB := Lib.hid (step_ BB.out B2.out)
            replace F := Lib.hid (F.out.below B2.out)
            clear B2 O2
            try simp only [Act.put]
            refine region_later (by kernel_rfl) (by kernel_rfl) ?_
            (go_big_quiet_want; refine quiet_load_am wr.heap.size x _ rfl rfl N2.out E.out.ok ?_; go_simp; go_big_quiet_on)
            go_big_quiet_step (exact later_call (aright_is x true _ E.out.ok HR))
            go_big_quiet_step (fail)
            go_big_quiet_step (fail)
            go_big_quiet_step (fail)
            go_big_quiet_step (fail)
            go_big_quiet_step (fail)
            go_big_quiet_step (fail)
            go_big_quiet_step (fail)
            go_big_quiet_step (fail)
            (go_big_quiet_want; refine quiet_index _ _ rfl A n cap G1 p1 (j - 1) y _ rfl rfl (by first | rfl | (go_num; omega) | omega) F.out ?_; go_simp; go_big_quiet_on)
            go_big_quiet_step (fail)
            (go_big_quiet_want; refine quiet_load_kyx G1 p1 y.k _ rfl rfl (range_ak F.out.rg) F.out.blk F.out.ok.k.ml ?_; go_simp; go_big_quiet_on)
            go_big_quiet_step (fail)
            (go_big_quiet_want; refine quiet_load_kyx wr.heap.size 0 x.k _ rfl rfl N2.out.ak N2.out.lt E.out.ok.k.ml ?_; go_simp; go_big_quiet_on)
            go_big_quiet_step (exact later_call (less_is y.k x.k true _ F.out.ok.k E.out.ok.k HL))
            go_big_quiet_step (fail)
            go_big_quiet_step (fail)
            go_big_quiet_step (fail)
            refine wpQuiet_nil ?_
            intro w3 hw3
            have B3 := Lib.hid (step_ BB.out hw3)
            clear hw3
            go_wp2_with fail
            go_roundw
            case rel => exact ⟨j + 1, by omega, by go_num, HO.out, B3.out⟩
            case measure => simp [intOf]; omega
    · obtain rfl : j = n := by omega
      have HO := Lib.hid (show b = true by rw [← hb.out]; exact rightR_true (fun i hi => HF.out i (by have := H.out.len; omega)))
      go_wp2_with fail
      go_ret
      exact ⟨ret_bool HO.out.symm, BB.out⟩
end Go.Proofs.YtnpbmihbmilkbaaGreat
