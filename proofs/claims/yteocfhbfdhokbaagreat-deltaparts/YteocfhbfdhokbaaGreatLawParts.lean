/- The contract of Irredundant of package delta, and of the law DeltaParts. -/
import Derived.Test.YteocfhbfdhokbaaGreatMathL
import Derived.Test.YteocfhbfdhokbaaGreatNeedless
import Derived.Test.YteocfhbfdhokbaaGreatLife
namespace Go.Proofs.YteocfhbfdhokbaaGreat
open Go.RowKit

set_option maxRecDepth 100000 in
set_option maxHeartbeats 4000000 in
theorem irredundant_is (A : Option Addr) (n cap : Nat) (ls : List (List Am)) (r : Bool) (w : World) (h : RowsV w A n cap ls) (hf : FewR ls) (hr : Hid (decide (needless ls = []) = r)) : Calls Tryz.prog 8 #[.slice A n cap] w fun e w' => e = .returned (.bool r) ∧ Below w.heap.size w w' := by
  have H := Lib.hid h
  have FF := Lib.hid hf
  clear h hf
  go_enter Tryz.func8, Tryz.ntmps8
  go_wp2_with fail
  refine (needless_is _ _ _ ls _ H.out FF.out).mono ?_
  rintro e w1 ⟨⟨A1, n1, c1, rfl, r1, _⟩, b1⟩
  have B1 := Lib.hid b1
  have HM := Lib.hid (show decide ((n1 : Int) = 0) = r by rw [← hr.out, ← r1.len]; exact decide_eq_decide.2 ⟨fun h => List.eq_nil_of_length_eq_zero (by omega), fun h => by rw [h]; rfl⟩)
  clear r1 b1
  go_wp2_with fail
  go_ret
  exact ⟨ret_bool HM.out, B1.out⟩
theorem join_len (a b : List Am) : (join a b).length ≤ a.length + b.length := Nat.le_trans (norm_len _) (by rw [List.length_append]; exact Nat.le_refl _)
set_option maxRecDepth 100000 in
set_option maxHeartbeats 16000000 in
theorem deltaParts_is (A B C : Option Addr) (n m k cap cap2 cap3 : Nat) (a b c : List Am) (w : World) (h : RowV w A n cap a) (h2 : RowV w B m cap2 b) (h3 : RowV w C k cap3 c) : Calls Tryz.prog 4 #[.slice A n cap, .slice B m cap2, .slice C k cap3] w fun e w' => e = .returned (.bool true) ∧ Below w.heap.size w w' := by
  have HA := Lib.hid h
  have HB := Lib.hid h2
  have HC := Lib.hid h3
  have B0 := Lib.hid (Below.refl w.heap.size w)
  clear h h2 h3
  have DD := Lib.hid (show ∀ W, Below w.heap.size w W → Calls Tryz.prog 7 #[] W fun e w' => e = .returned (.bool true) ∧ Below w.heap.size w w' from fun W hW => (life_is W).mono (fun e w' h => ⟨h.1, step_ hW h.2⟩))
  by_cases hn : n ≤ 30
  · have hd1 : decide ((30 : Int) < (n : Int)) = false := decide_eq_false (by omega)
    by_cases hm : m ≤ 30
    · have hd2 : decide ((30 : Int) < (m : Int)) = false := decide_eq_false (by omega)
      by_cases hk : k ≤ 30
      · have hd3 : decide ((30 : Int) < (k : Int)) = false := decide_eq_false (by omega)
        go_enter Tryz.func4, Tryz.ntmps4
        go_wp2_with fail
        refine (parts_is _ _ _ a _ HA.out (by omega)).mono ?_
        rintro e w1 ⟨⟨A1, n1, c1, rfl, r1⟩, b1⟩
        have B1 := Lib.hid b1
        have P1 := Lib.hid r1
        have LP := Lib.hid (show n1 = (norm a).length by have := r1.len; rw [parts_len] at this; omega)
        have LP2 := Lib.hid (show n1 ≤ 30 by have := norm_len a; rw [HA.out.len] at this; have := LP.out; omega)
        have FF := Lib.hid (show FewR (parts a) from ⟨by have := r1.len; have := LP2.out; omega, by unfold parts; rw [flat_ones]; have := LP.out; have := LP2.out; omega⟩)
        clear r1 b1
        go_wp2_with fail
        refine (all_is _ _ _ (parts a) _ P1.out FF.out).mono ?_
        rw [parts_all HA.out.ok]
        rintro e w2 ⟨⟨A2, n2, c2, rfl, r2⟩, b2⟩
        have B2 := Lib.hid (step_ B1.out b2)
        have P2 := Lib.hid (P1.out.below b2)
        have X2 := Lib.hid r2
        have L2 := Lib.hid (show n2 ≤ 1000 by have := norm_len a; rw [r2.len, HA.out.len] at this; omega)
        clear r2 b2
        go_wp2_with fail
        refine (refSame_is _ _ _ _ _ _ (norm a) a true _ X2.out (HA.out.below B2.out) L2.out (by omega) (Lib.hid (norm_self HA.out.ok))).mono ?_
        rintro e w3 ⟨rfl, b3⟩
        have B3 := Lib.hid (step_ B2.out b3)
        have P3 := Lib.hid (P2.out.below b3)
        clear b3
        go_wp2_with fail
        refine (irredundant_is _ _ _ (parts a) true _ P3.out FF.out (Lib.hid (decide_eq_true (parts_needless HA.out.ok)))).mono ?_
        rintro e w4 ⟨rfl, b4⟩
        have B4 := Lib.hid (step_ B3.out b4)
        have P4 := Lib.hid (P3.out.below b4)
        clear b4
        go_wp2_with fail
        refine (needless_is _ _ _ (parts a) _ P4.out FF.out).mono ?_
        rw [parts_needless HA.out.ok]
        rintro e w5 ⟨⟨A5, n5, c5, rfl, r5, _⟩, b5⟩
        obtain rfl : n5 = 0 := r5.len.symm
        have B5 := Lib.hid (step_ B4.out b5)
        have P5 := Lib.hid (P4.out.below b5)
        clear r5 b5
        go_wp2_with fail
        go_loopw [8] (fun i wr => ∃ j : Nat, j ≤ n1 ∧ i = .int .i64 j ∧ Below w.heap.size w wr ∧ RowsV wr A1 n1 c1 (parts a)) (fun i _ => n1 - (intOf i).toNat)
        case atStart => exact ⟨0, Nat.zero_le _, rfl, B5.out, P5.out⟩
        case round =>
          obtain ⟨j, hj, rfl, hb, hp⟩ := hrel
          have BB := Lib.hid hb
          have PP := Lib.hid hp
          clear hb hp
          have hq1 := LP2.out
          by_cases hlt : j < n1
          · obtain ⟨G, p, D2, m2, k2, hE⟩ := PP.out.elem j hlt
            have E := Lib.hid hE
            have cell := hE.cell
            have HJ := Lib.hid (show j < (norm a).length by rw [← LP.out]; exact hlt)
            have PG := Lib.hid (parts_getD HJ.out)
            have P1' := Lib.hid (part_one HA.out.ok (List.getElem_mem HJ.out))
            rw [PG.out] at E
            have LM := Lib.hid (show m2 ≤ 600 by have := E.out.row.len; simp at this; omega)
            clear hE
            go_wp2_with (first
              | go_skip
              | refine wpList_index40 rfl _ _ rfl A1 n1 c1 G p j D2 m2 k2 _ _ rfl rfl (by first | rfl | omega) E.out ?_)
            refine (irreducible_is _ _ _ _ true _ E.out.row LM.out P1').mono ?_
            rintro e w6 ⟨rfl, b6⟩
            have B6 := Lib.hid (step_ BB.out b6)
            have P6 := Lib.hid (PP.out.below b6)
            clear b6
            go_wp2_with fail
            go_roundw
            case rel => exact ⟨j + 1, by omega, by go_num, B6.out, P6.out⟩
            case measure => simp [intOf]; omega
          · obtain rfl : j = n1 := by omega
            go_wp2_with fail
            refine (join_is _ _ _ _ _ _ b c _ (HB.out.below BB.out) (HC.out.below BB.out) (by omega) (by omega)).mono ?_
            rintro e w8 ⟨⟨A8, n8, c8, rfl, r8⟩, b8⟩
            have B8 := Lib.hid (step_ BB.out b8)
            have J8 := Lib.hid r8
            have L8 := Lib.hid (show n8 ≤ 60 by have h9 := join_len b c; rw [r8.len, HB.out.len, HC.out.len] at h9; omega)
            clear r8 b8
            go_wp2_with fail
            by_cases h1 : (norm (join b c)).length = 1
            · have OR := Lib.hid (join_one HB.out.ok HC.out.ok h1)
              refine (irreducible_is _ _ _ _ true _ J8.out (by have := L8.out; omega) (Lib.hid (decide_eq_true h1))).mono ?_
              rintro e w9 ⟨rfl, b9⟩
              have B9 := Lib.hid (step_ B8.out b9)
              have J9 := Lib.hid (J8.out.below b9)
              clear b9
              go_wp2_with fail
              cases hs : same (join b c) b with
              | true =>
                refine (refSame_is _ _ _ _ _ _ (join b c) b true _ J9.out (HB.out.below B9.out) (by have := L8.out; omega) (by omega) (Lib.hid hs)).mono ?_
                rintro e wa ⟨rfl, ba⟩
                have BA := Lib.hid (step_ B9.out ba)
                clear ba
                go_wp2_with (first | go_skip | fail)
                refine (life_is _).mono ?_
                rintro e wl ⟨rfl, bl⟩
                have BL := Lib.hid (step_ BA.out bl)
                clear bl
                go_wp2_with fail
                go_ret
                exact ⟨rfl, BL.out⟩
              | false =>
                have S2 := Lib.hid (show same (join b c) c = true from OR.out.resolve_left (by rw [hs]; decide))
                refine (refSame_is _ _ _ _ _ _ (join b c) b false _ J9.out (HB.out.below B9.out) (by have := L8.out; omega) (by omega) (Lib.hid hs)).mono ?_
                rintro e wa ⟨rfl, ba⟩
                have BA := Lib.hid (step_ B9.out ba)
                have JA := Lib.hid (J9.out.below ba)
                clear ba
                go_wp2_with fail
                refine (refSame_is _ _ _ _ _ _ (join b c) c true _ JA.out (HC.out.below BA.out) (by have := L8.out; omega) (by omega) S2).mono ?_
                rintro e wb ⟨rfl, bb⟩
                have BX := Lib.hid (step_ BA.out bb)
                clear bb
                go_wp2_with fail
                refine (life_is _).mono ?_
                rintro e wl ⟨rfl, bl⟩
                have BL := Lib.hid (step_ BX.out bl)
                clear bl
                go_wp2_with fail
                go_ret
                exact ⟨rfl, BL.out⟩
            · refine (irreducible_is _ _ _ _ false _ J8.out (by have := L8.out; omega) (Lib.hid (decide_eq_false h1))).mono ?_
              rintro e w9 ⟨rfl, b9⟩
              have B9 := Lib.hid (step_ B8.out b9)
              clear b9
              go_wp2_with (first | go_skip | fail)
              refine (life_is _).mono ?_
              rintro e wl ⟨rfl, bl⟩
              have BL := Lib.hid (step_ B9.out bl)
              clear bl
              go_wp2_with fail
              go_ret
              exact ⟨rfl, BL.out⟩
      · have hd3 : decide ((30 : Int) < (k : Int)) = true := decide_eq_true (by omega)
        clear hn hm hk
        go_enter Tryz.func4, Tryz.ntmps4
        go_wp2_with (first | go_skip | fail)
        refine (DD.out _ B0.out).mono ?_
        rintro e w2 ⟨rfl, b2⟩
        have B2 := Lib.hid b2
        clear b2
        go_wp2_with fail
        go_ret
        exact ⟨rfl, B2.out⟩
    · have hd2 : decide ((30 : Int) < (m : Int)) = true := decide_eq_true (by omega)
      clear hn hm
      go_enter Tryz.func4, Tryz.ntmps4
      go_wp2_with (first | go_skip | fail)
      refine (DD.out _ B0.out).mono ?_
      rintro e w2 ⟨rfl, b2⟩
      have B2 := Lib.hid b2
      clear b2
      go_wp2_with fail
      go_ret
      exact ⟨rfl, B2.out⟩
  · have hd1 : decide ((30 : Int) < (n : Int)) = true := decide_eq_true (by omega)
    clear hn
    go_enter Tryz.func4, Tryz.ntmps4
    go_wp2_with (first | go_skip | fail)
    refine (DD.out _ B0.out).mono ?_
    rintro e w2 ⟨rfl, b2⟩
    have B2 := Lib.hid b2
    clear b2
    go_wp2_with fail
    go_ret
    exact ⟨rfl, B2.out⟩
end Go.Proofs.YteocfhbfdhokbaaGreat
