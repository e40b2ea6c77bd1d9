/- The contract of the law LatLeast. -/
import Derived.Test.YtkphpicfgpgkkaaLawJoins
namespace Go.Proofs.Ytkphpicfgpgkkaa
open Go.RowKit

set_option maxRecDepth 100000 in
set_option maxHeartbeats 16000000 in
theorem latLeast_is (A B C : Option Addr) (n m k cap cap2 cap3 : Nat) (a b c : List Am) (w : World) (h : RowV w A n cap a) (h2 : RowV w B m cap2 b) (h3 : RowV w C k cap3 c) : Calls Try.prog 6 #[.slice A n cap, .slice B m cap2, .slice C k cap3] w fun e w' => e = .returned (.bool true) ∧ Below w.heap.size w w' := by
  have HA := Lib.hid h
  have HB := Lib.hid h2
  have HC := Lib.hid h3
  have B0 := Lib.hid (Below.refl w.heap.size w)
  clear h h2 h3
  have DD := Lib.hid (show ∀ W, Below w.heap.size w W → Calls Try.prog 7 #[] W fun e w' => e = .returned (.bool true) ∧ Below w.heap.size w w' from fun W hW => (alive_is W).mono (fun e w' h => ⟨h.1, step_ hW h.2⟩))
  by_cases hn : n ≤ 40
  · have hd1 : decide ((40 : Int) < (n : Int)) = false := decide_eq_false (by omega)
    by_cases hm : m ≤ 40
    · have hd2 : decide ((40 : Int) < (m : Int)) = false := decide_eq_false (by omega)
      by_cases hk : k ≤ 40
      · have hd3 : decide ((40 : Int) < (k : Int)) = false := decide_eq_false (by omega)
        have NA := Lib.hid hn
        have NB := Lib.hid hm
        have NC := Lib.hid hk
        clear hn hm hk
        go_enter Try.func6, Try.ntmps6
        go_wp2_with fail
        refine (join_is _ _ _ _ _ _ a b _ (HA.out.below B0.out) (HB.out.below B0.out) (by have := NA.out; have := NB.out; have := NC.out; omega) (by have := NA.out; have := NB.out; have := NC.out; omega)).mono ?_
        rintro e w1 ⟨⟨A1, n1, c1, rfl, r1⟩, b1⟩
        have B1 := Lib.hid (step_ B0.out b1)
        have Rj_1 := Lib.hid r1
        have Lj := Lib.hid (show n1 ≤ 80 by have h9 := join_len a b; rw [r1.len, HA.out.len, HB.out.len] at h9; have := NA.out; have := NB.out; have := NC.out; omega)
        clear b1 r1
        have Ej := Lib.hid Rj_1.out.len
        go_wp2_with fail
        refine (meet_is _ _ _ _ _ _ a b _ (HA.out.below B1.out) (HB.out.below B1.out) (by have := NA.out; have := NB.out; have := NC.out; omega) (by have := NA.out; have := NB.out; have := NC.out; omega)).mono ?_
        rintro e w2 ⟨⟨A2, n2, c2, rfl, r2⟩, b2⟩
        have B2 := Lib.hid (step_ B1.out b2)
        have Rj_2 := Lib.hid (Rj_1.out.below b2)
        have Rm_2 := Lib.hid r2
        have Lm := Lib.hid (show n2 ≤ 40 by have h9 := meet_len a b; rw [r2.len, HA.out.len] at h9; have := NA.out; have := NB.out; have := NC.out; omega)
        clear b2 r2
        have Em := Lib.hid Rm_2.out.len
        go_wp2_with fail
        refine (rightR_is _ _ _ (join a b) true _ Rj_2.out (by have := NA.out; have := NB.out; have := NC.out; have := Lj.out; omega) (Lib.hid (law_j HA.out.ok HB.out.ok))).mono ?_
        rintro e w3 ⟨rfl, b3⟩
        have B3 := Lib.hid (step_ B2.out b3)
        have Rj_3 := Lib.hid (Rj_2.out.below b3)
        have Rm_3 := Lib.hid (Rm_2.out.below b3)
        clear b3
        go_wp2_with fail
        refine (rightR_is _ _ _ (meet a b) true _ Rm_3.out (by have := NA.out; have := NB.out; have := NC.out; have := Lm.out; omega) (Lib.hid (law_m HA.out.ok HB.out.ok))).mono ?_
        rintro e w4 ⟨rfl, b4⟩
        have B4 := Lib.hid (step_ B3.out b4)
        have Rj_4 := Lib.hid (Rj_3.out.below b4)
        have Rm_4 := Lib.hid (Rm_3.out.below b4)
        clear b4
        go_wp2_with fail
        refine (leq_is _ _ _ _ _ _ a (join a b) true _ (HA.out.below B4.out) Rj_4.out (by have := NA.out; have := NB.out; have := NC.out; omega) (by have := NA.out; have := NB.out; have := NC.out; have := Lj.out; omega) (Lib.hid (law_aj HA.out.ok HB.out.ok))).mono ?_
        rintro e w5 ⟨rfl, b5⟩
        have B5 := Lib.hid (step_ B4.out b5)
        have Rj_5 := Lib.hid (Rj_4.out.below b5)
        have Rm_5 := Lib.hid (Rm_4.out.below b5)
        clear b5
        go_wp2_with fail
        refine (leq_is _ _ _ _ _ _ b (join a b) true _ (HB.out.below B5.out) Rj_5.out (by have := NA.out; have := NB.out; have := NC.out; omega) (by have := NA.out; have := NB.out; have := NC.out; have := Lj.out; omega) (Lib.hid (law_bj HA.out.ok HB.out.ok))).mono ?_
        rintro e w6 ⟨rfl, b6⟩
        have B6 := Lib.hid (step_ B5.out b6)
        have Rj_6 := Lib.hid (Rj_5.out.below b6)
        have Rm_6 := Lib.hid (Rm_5.out.below b6)
        clear b6
        go_wp2_with fail
        refine (leq_is _ _ _ _ _ _ (meet a b) a true _ Rm_6.out (HA.out.below B6.out) (by have := NA.out; have := NB.out; have := NC.out; have := Lm.out; omega) (by have := NA.out; have := NB.out; have := NC.out; omega) (Lib.hid (law_ma HA.out.ok HB.out.ok))).mono ?_
        rintro e w7 ⟨rfl, b7⟩
        have B7 := Lib.hid (step_ B6.out b7)
        have Rj_7 := Lib.hid (Rj_6.out.below b7)
        have Rm_7 := Lib.hid (Rm_6.out.below b7)
        clear b7
        go_wp2_with fail
        refine (leq_is _ _ _ _ _ _ (meet a b) b true _ Rm_7.out (HB.out.below B7.out) (by have := NA.out; have := NB.out; have := NC.out; have := Lm.out; omega) (by have := NA.out; have := NB.out; have := NC.out; omega) (Lib.hid (law_mb HA.out.ok HB.out.ok))).mono ?_
        rintro e w8 ⟨rfl, b8⟩
        have B8 := Lib.hid (step_ B7.out b8)
        have Rj_8 := Lib.hid (Rj_7.out.below b8)
        have Rm_8 := Lib.hid (Rm_7.out.below b8)
        clear b8
        go_wp2_with fail
        rename_i K2 hK2 K1 hK1 K0 hK0
        have tail : ∀ (v61 v62 v63 v64 v65 v66 v67 v68 v69 v70 v71 v72 v73 v74 v75 v76 v77 v78 v79 v80 v81 v82 v83 v84 v85 v86 v87 v88 v89 v90 : Value) (WT : World), Below w.heap.size w WT → RowV WT A1 n1 c1 (join a b) → RowV WT A2 n2 c2 (meet a b) → K2 { tmps := #[.slice A n cap, .slice B m cap2, .slice C k cap3, undef, undef, undef, .bool false, .slice A1 n1 c1, .slice A2 n2 c2, .slice A n cap, .int .i64 (n : Int), .bool false, .bool false, .slice B m cap2, .int .i64 (m : Int), .bool false, .bool false, .bool false, .slice C k cap3, .int .i64 (k : Int), .bool false, .bool false, undef, .slice A n cap, .slice B m cap2, .slice A1 n1 c1, .slice A n cap, .slice B m cap2, .slice A2 n2 c2, .slice A1 n1 c1, .bool true, .bool false, .bool false, .slice A2 n2 c2, .bool true, .bool false, .bool false, .bool false, .slice A n cap, .slice A1 n1 c1, .bool true, .bool false, .bool false, .bool false, .slice B m cap2, .slice A1 n1 c1, .bool true, .bool false, .bool false, .bool false, .slice A2 n2 c2, .slice A n cap, .bool true, .bool false, .bool false, .bool false, .slice A2 n2 c2, .slice B m cap2, .bool true, .bool false, .bool false, v61, v62, v63, v64, v65, v66, v67, v68, v69, v70, v71, v72, v73, v74, v75, v76, v77, v78, v79, v80, v81, v82, v83, v84, v85, v86, v87, v88, v89, v90, undef, undef, undef, undef, undef, undef, undef, undef, undef, undef, undef, undef, undef, undef, undef, undef, undef, undef, undef, undef, undef, undef, undef, undef, undef, undef, undef, undef, undef, undef, undef, undef, undef, undef, undef, undef, undef, undef, undef, undef, undef, undef, undef, undef, undef, undef, undef, undef, undef, undef, undef, undef, undef, undef, undef, undef, undef, undef, undef, undef, undef, undef, undef, undef], defers := [] } WT := by
          clear hK1 hK0 K0 K1
          intro v61 v62 v63 v64 v65 v66 v67 v68 v69 v70 v71 v72 v73 v74 v75 v76 v77 v78 v79 v80 v81 v82 v83 v84 v85 v86 v87 v88 v89 v90 WT bt rj rm
          have BT := Lib.hid bt
          have RTj := Lib.hid rj
          have RTm := Lib.hid rm
          clear bt rj rm Rj_1 Rj_2 Rj_3 Rj_4 Rj_5 Rj_6 Rj_7 Rj_8 Rm_2 Rm_3 Rm_4 Rm_5 Rm_6 Rm_7 Rm_8
          obtain ⟨r2, hr2⟩ : ∃ r2, leq b a = r2 := ⟨_, rfl⟩
          have LR2 := Lib.hid hr2
          obtain ⟨r, hr⟩ : ∃ r, leq a b = r := ⟨_, rfl⟩
          have LR := Lib.hid hr
          refine hK2 _ _ ?_
          clear hK2 K2
          go_wp2_with fail
          refine (join_is _ _ _ _ _ _ b a _ (HB.out.below BT.out) (HA.out.below BT.out) (by have := NA.out; have := NB.out; have := NC.out; omega) (by have := NA.out; have := NB.out; have := NC.out; omega)).mono ?_
          rintro e w101 ⟨⟨A101, n101, c101, rfl, r101⟩, b101⟩
          have B101 := Lib.hid (step_ BT.out b101)
          have Rj_101 := Lib.hid (RTj.out.below b101)
          have Rm_101 := Lib.hid (RTm.out.below b101)
          have Rx_101 := Lib.hid r101
          have Lx := Lib.hid (show n101 ≤ 80 by have h9 := join_len b a; rw [r101.len, HB.out.len, HA.out.len] at h9; have := NA.out; have := NB.out; have := NC.out; omega)
          clear b101 r101
          have Ex := Lib.hid Rx_101.out.len
          go_wp2_with fail
          refine (rows_is _ _ _ _ _ _ _ _ true _ Rj_101.out Rx_101.out (by have := Lj.out; omega) (Lib.hid (decide_eq_true (law_comm HA.out.ok HB.out.ok)))).mono ?_
          rintro e w102 ⟨rfl, b102⟩
          have B102 := Lib.hid (step_ B101.out b102)
          have Rj_102 := Lib.hid (Rj_101.out.below b102)
          clear b102
          go_wp2_with fail
          refine (join_is _ _ _ _ _ _ (join a b) c _ Rj_102.out (HC.out.below B102.out) (by have := NA.out; have := NB.out; have := NC.out; have := Lj.out; omega) (by have := NA.out; have := NB.out; have := NC.out; omega)).mono ?_
          rintro e w103 ⟨⟨A103, n103, c103, rfl, r103⟩, b103⟩
          have B103 := Lib.hid (step_ B102.out b103)
          have Rj_103 := Lib.hid (Rj_102.out.below b103)
          have Ry_103 := Lib.hid r103
          have Ly := Lib.hid (show n103 ≤ 120 by have h9 := join_len (join a b) c; rw [r103.len, Ej.out, HC.out.len] at h9; have := NA.out; have := NB.out; have := NC.out; have := Lj.out; omega)
          clear b103 r103
          have Ey := Lib.hid Ry_103.out.len
          go_wp2_with fail
          refine (join_is _ _ _ _ _ _ b c _ (HB.out.below B103.out) (HC.out.below B103.out) (by have := NA.out; have := NB.out; have := NC.out; omega) (by have := NA.out; have := NB.out; have := NC.out; omega)).mono ?_
          rintro e w104 ⟨⟨A104, n104, c104, rfl, r104⟩, b104⟩
          have B104 := Lib.hid (step_ B103.out b104)
          have Rj_104 := Lib.hid (Rj_103.out.below b104)
          have Ry_104 := Lib.hid (Ry_103.out.below b104)
          have Rz_104 := Lib.hid r104
          have Lz := Lib.hid (show n104 ≤ 80 by have h9 := join_len b c; rw [r104.len, HB.out.len, HC.out.len] at h9; have := NA.out; have := NB.out; have := NC.out; omega)
          clear b104 r104
          have Ez := Lib.hid Rz_104.out.len
          go_wp2_with fail
          refine (join_is _ _ _ _ _ _ a (join b c) _ (HA.out.below B104.out) Rz_104.out (by have := NA.out; have := NB.out; have := NC.out; omega) (by have := NA.out; have := NB.out; have := NC.out; have := Lz.out; omega)).mono ?_
          rintro e w105 ⟨⟨A105, n105, c105, rfl, r105⟩, b105⟩
          have B105 := Lib.hid (step_ B104.out b105)
          have Rj_105 := Lib.hid (Rj_104.out.below b105)
          have Ry_105 := Lib.hid (Ry_104.out.below b105)
          have Rz_105 := Lib.hid (Rz_104.out.below b105)
          have Rz2_105 := Lib.hid r105
          have Lz2 := Lib.hid (show n105 ≤ 120 by have h9 := join_len a (join b c); rw [r105.len, HA.out.len, Ez.out] at h9; have := NA.out; have := NB.out; have := NC.out; have := Lz.out; omega)
          clear b105 r105
          have Ez2 := Lib.hid Rz2_105.out.len
          go_wp2_with fail
          refine (rows_is _ _ _ _ _ _ _ _ true _ Ry_105.out Rz2_105.out (by have := Ly.out; omega) (Lib.hid (decide_eq_true (law_assoc HA.out.ok HB.out.ok HC.out.ok)))).mono ?_
          rintro e w106 ⟨rfl, b106⟩
          have B106 := Lib.hid (step_ B105.out b106)
          have Rj_106 := Lib.hid (Rj_105.out.below b106)
          clear b106
          go_wp2_with fail
          refine (join_is _ _ _ _ _ _ (join a b) a _ Rj_106.out (HA.out.below B106.out) (by have := NA.out; have := NB.out; have := NC.out; have := Lj.out; omega) (by have := NA.out; have := NB.out; have := NC.out; omega)).mono ?_
          rintro e w107 ⟨⟨A107, n107, c107, rfl, r107⟩, b107⟩
          have B107 := Lib.hid (step_ B106.out b107)
          have Rj_107 := Lib.hid (Rj_106.out.below b107)
          have Ru_107 := Lib.hid r107
          have Lu := Lib.hid (show n107 ≤ 120 by have h9 := join_len (join a b) a; rw [r107.len, Ej.out, HA.out.len] at h9; have := NA.out; have := NB.out; have := NC.out; have := Lj.out; omega)
          clear b107 r107
          have Eu := Lib.hid Ru_107.out.len
          go_wp2_with fail
          refine (rows_is _ _ _ _ _ _ _ _ true _ Ru_107.out Rj_107.out (by have := Lu.out; omega) (Lib.hid (decide_eq_true (law_idem HA.out.ok HB.out.ok)))).mono ?_
          rintro e w108 ⟨rfl, b108⟩
          have B108 := Lib.hid (step_ B107.out b108)
          have Rj_108 := Lib.hid (Rj_107.out.below b108)
          clear b108
          go_wp2_with fail
          refine (leq_is _ _ _ _ _ _ a b r _ (HA.out.below B108.out) (HB.out.below B108.out) (by have := NA.out; have := NB.out; have := NC.out; omega) (by have := NA.out; have := NB.out; have := NC.out; omega) LR).mono ?_
          rintro e w109 ⟨rfl, b109⟩
          have B109 := Lib.hid (step_ B108.out b109)
          have Rj_109 := Lib.hid (Rj_108.out.below b109)
          clear b109
          go_wp2_with fail
          refine (norm_is _ _ _ b _ (HB.out.below B109.out) (by have := NA.out; have := NB.out; have := NC.out; omega)).mono ?_
          rintro e w110 ⟨⟨A110, n110, c110, rfl, r110⟩, b110⟩
          have B110 := Lib.hid (step_ B109.out b110)
          have Rj_110 := Lib.hid (Rj_109.out.below b110)
          have Rv_110 := Lib.hid r110
          have Lv := Lib.hid (show n110 ≤ 5000 by have h9 := norm_len b; rw [r110.len, HB.out.len] at h9; have := NB.out; omega)
          clear b110 r110
          go_wp2_with fail
          refine (rows_is _ _ _ _ _ _ _ _ r _ Rj_110.out Rv_110.out (by have := Lj.out; omega) (Lib.hid ((law_leq HA.out.ok HB.out.ok).symm.trans LR.out))).mono ?_
          rintro e w111 ⟨rfl, b111⟩
          have B111 := Lib.hid (step_ B110.out b111)
          clear b111
          have hbn : (r == r) = true := by simp
          go_wp2_with fail
          cases r with
          | true =>
            have LT := Lib.hid (show leq a b = true from hr)
            have SQ := Lib.hid (show same a b = r2 by rw [← law_anti HA.out.ok HB.out.ok, hr, hr2]; cases r2 <;> rfl)
            clear hr hr2
            go_wp2_with fail
            refine (leq_is _ _ _ _ _ _ a b true _ (HA.out.below B111.out) (HB.out.below B111.out) (by have := NA.out; have := NB.out; have := NC.out; omega) (by have := NA.out; have := NB.out; have := NC.out; omega) LT).mono ?_
            rintro e w112 ⟨rfl, b112⟩
            have B112 := Lib.hid (step_ B111.out b112)
            clear b112
            go_wp2_with fail
            refine (leq_is _ _ _ _ _ _ b a r2 _ (HB.out.below B112.out) (HA.out.below B112.out) (by have := NA.out; have := NB.out; have := NC.out; omega) (by have := NA.out; have := NB.out; have := NC.out; omega) LR2).mono ?_
            rintro e w113 ⟨rfl, b113⟩
            have B113 := Lib.hid (step_ B112.out b113)
            clear b113
            have hbn2 : (r2 == r2) = true := by simp
            go_wp2_with fail
            refine (same_is _ _ _ _ _ _ a b r2 _ (HA.out.below B113.out) (HB.out.below B113.out) (by have := NA.out; have := NB.out; have := NC.out; omega) (by have := NA.out; have := NB.out; have := NC.out; omega) SQ).mono ?_
            rintro e w114 ⟨rfl, b114⟩
            have B114 := Lib.hid (step_ B113.out b114)
            clear b114
            go_wp2_with fail
            refine (join_is _ _ _ _ _ _ b c _ (HB.out.below B114.out) (HC.out.below B114.out) (by have := NA.out; have := NB.out; have := NC.out; omega) (by have := NA.out; have := NB.out; have := NC.out; omega)).mono ?_
            rintro e w115 ⟨⟨A115, n115, c115, rfl, r115⟩, b115⟩
            have B115 := Lib.hid (step_ B114.out b115)
            have Rp_115 := Lib.hid r115
            have Lp := Lib.hid (show n115 ≤ 80 by have h9 := join_len b c; rw [r115.len, HB.out.len, HC.out.len] at h9; have := NA.out; have := NB.out; have := NC.out; omega)
            clear b115 r115
            have Ep := Lib.hid Rp_115.out.len
            go_wp2_with fail
            refine (meet_is _ _ _ _ _ _ a (join b c) _ (HA.out.below B115.out) Rp_115.out (by have := NA.out; have := NB.out; have := NC.out; omega) (by have := NA.out; have := NB.out; have := NC.out; have := Lp.out; omega)).mono ?_
            rintro e w116 ⟨⟨A116, n116, c116, rfl, r116⟩, b116⟩
            have B116 := Lib.hid (step_ B115.out b116)
            have Rp_116 := Lib.hid (Rp_115.out.below b116)
            have Rp2_116 := Lib.hid r116
            have Lp2 := Lib.hid (show n116 ≤ 40 by have h9 := meet_len a (join b c); rw [r116.len, HA.out.len] at h9; have := NA.out; have := NB.out; have := NC.out; omega)
            clear b116 r116
            have Ep2 := Lib.hid Rp2_116.out.len
            go_wp2_with fail
            refine (meet_is _ _ _ _ _ _ a b _ (HA.out.below B116.out) (HB.out.below B116.out) (by have := NA.out; have := NB.out; have := NC.out; omega) (by have := NA.out; have := NB.out; have := NC.out; omega)).mono ?_
            rintro e w117 ⟨⟨A117, n117, c117, rfl, r117⟩, b117⟩
            have B117 := Lib.hid (step_ B116.out b117)
            have Rp_117 := Lib.hid (Rp_116.out.below b117)
            have Rp2_117 := Lib.hid (Rp2_116.out.below b117)
            have Rp3_117 := Lib.hid r117
            have Lp3 := Lib.hid (show n117 ≤ 40 by have h9 := meet_len a b; rw [r117.len, HA.out.len] at h9; have := NA.out; have := NB.out; have := NC.out; omega)
            clear b117 r117
            have Ep3 := Lib.hid Rp3_117.out.len
            go_wp2_with fail
            refine (meet_is _ _ _ _ _ _ a c _ (HA.out.below B117.out) (HC.out.below B117.out) (by have := NA.out; have := NB.out; have := NC.out; omega) (by have := NA.out; have := NB.out; have := NC.out; omega)).mono ?_
            rintro e w118 ⟨⟨A118, n118, c118, rfl, r118⟩, b118⟩
            have B118 := Lib.hid (step_ B117.out b118)
            have Rp_118 := Lib.hid (Rp_117.out.below b118)
            have Rp2_118 := Lib.hid (Rp2_117.out.below b118)
            have Rp3_118 := Lib.hid (Rp3_117.out.below b118)
            have Rp4_118 := Lib.hid r118
            have Lp4 := Lib.hid (show n118 ≤ 40 by have h9 := meet_len a c; rw [r118.len, HA.out.len] at h9; have := NA.out; have := NB.out; have := NC.out; omega)
            clear b118 r118
            have Ep4 := Lib.hid Rp4_118.out.len
            go_wp2_with fail
            refine (join_is _ _ _ _ _ _ (meet a b) (meet a c) _ Rp3_118.out Rp4_118.out (by have := NA.out; have := NB.out; have := NC.out; have := Lp3.out; omega) (by have := NA.out; have := NB.out; have := NC.out; have := Lp4.out; omega)).mono ?_
            rintro e w119 ⟨⟨A119, n119, c119, rfl, r119⟩, b119⟩
            have B119 := Lib.hid (step_ B118.out b119)
            have Rp_119 := Lib.hid (Rp_118.out.below b119)
            have Rp2_119 := Lib.hid (Rp2_118.out.below b119)
            have Rp3_119 := Lib.hid (Rp3_118.out.below b119)
            have Rp4_119 := Lib.hid (Rp4_118.out.below b119)
            have Rp5_119 := Lib.hid r119
            have Lp5 := Lib.hid (show n119 ≤ 80 by have h9 := join_len (meet a b) (meet a c); rw [r119.len, Ep3.out, Ep4.out] at h9; have := NA.out; have := NB.out; have := NC.out; have := Lp3.out; have := Lp4.out; omega)
            clear b119 r119
            have Ep5 := Lib.hid Rp5_119.out.len
            go_wp2_with fail
            refine (rows_is _ _ _ _ _ _ _ _ true _ Rp2_119.out Rp5_119.out (by have := Lp2.out; omega) (Lib.hid (decide_eq_true (law_dist HA.out.ok HB.out.ok HC.out.ok)))).mono ?_
            rintro e w120 ⟨rfl, b120⟩
            have B120 := Lib.hid (step_ B119.out b120)
            clear b120
            go_wp2_with fail
            refine (alive_is _).mono ?_
            rintro e w121 ⟨rfl, b121⟩
            have B121 := Lib.hid (step_ B120.out b121)
            clear b121
            go_wp2_with fail
            go_ret
            exact ⟨rfl, B121.out⟩
          | false =>
            have LT := Lib.hid (show leq a b = false from hr)
            have SQ := Lib.hid (show same a b = false by rw [← law_anti HA.out.ok HB.out.ok, hr]; rfl)
            clear hr hr2
            go_wp2_with (first | go_skip | fail)
            refine (leq_is _ _ _ _ _ _ a b false _ (HA.out.below B111.out) (HB.out.below B111.out) (by have := NA.out; have := NB.out; have := NC.out; omega) (by have := NA.out; have := NB.out; have := NC.out; omega) LT).mono ?_
            rintro e w112 ⟨rfl, b112⟩
            have B112 := Lib.hid (step_ B111.out b112)
            clear b112
            go_wp2_with (first | go_skip | fail)
            refine (same_is _ _ _ _ _ _ a b false _ (HA.out.below B112.out) (HB.out.below B112.out) (by have := NA.out; have := NB.out; have := NC.out; omega) (by have := NA.out; have := NB.out; have := NC.out; omega) SQ).mono ?_
            rintro e w113 ⟨rfl, b113⟩
            have B113 := Lib.hid (step_ B112.out b113)
            clear b113
            go_wp2_with (first | go_skip | fail)
            refine (join_is _ _ _ _ _ _ b c _ (HB.out.below B113.out) (HC.out.below B113.out) (by have := NA.out; have := NB.out; have := NC.out; omega) (by have := NA.out; have := NB.out; have := NC.out; omega)).mono ?_
            rintro e w114 ⟨⟨A114, n114, c114, rfl, r114⟩, b114⟩
            have B114 := Lib.hid (step_ B113.out b114)
            have Rp_114 := Lib.hid r114
            have Lp := Lib.hid (show n114 ≤ 80 by have h9 := join_len b c; rw [r114.len, HB.out.len, HC.out.len] at h9; have := NA.out; have := NB.out; have := NC.out; omega)
            clear b114 r114
            have Ep := Lib.hid Rp_114.out.len
            go_wp2_with (first | go_skip | fail)
            refine (meet_is _ _ _ _ _ _ a (join b c) _ (HA.out.below B114.out) Rp_114.out (by have := NA.out; have := NB.out; have := NC.out; omega) (by have := NA.out; have := NB.out; have := NC.out; have := Lp.out; omega)).mono ?_
            rintro e w115 ⟨⟨A115, n115, c115, rfl, r115⟩, b115⟩
            have B115 := Lib.hid (step_ B114.out b115)
            have Rp_115 := Lib.hid (Rp_114.out.below b115)
            have Rp2_115 := Lib.hid r115
            have Lp2 := Lib.hid (show n115 ≤ 40 by have h9 := meet_len a (join b c); rw [r115.len, HA.out.len] at h9; have := NA.out; have := NB.out; have := NC.out; omega)
            clear b115 r115
            have Ep2 := Lib.hid Rp2_115.out.len
            go_wp2_with (first | go_skip | fail)
            refine (meet_is _ _ _ _ _ _ a b _ (HA.out.below B115.out) (HB.out.below B115.out) (by have := NA.out; have := NB.out; have := NC.out; omega) (by have := NA.out; have := NB.out; have := NC.out; omega)).mono ?_
            rintro e w116 ⟨⟨A116, n116, c116, rfl, r116⟩, b116⟩
            have B116 := Lib.hid (step_ B115.out b116)
            have Rp_116 := Lib.hid (Rp_115.out.below b116)
            have Rp2_116 := Lib.hid (Rp2_115.out.below b116)
            have Rp3_116 := Lib.hid r116
            have Lp3 := Lib.hid (show n116 ≤ 40 by have h9 := meet_len a b; rw [r116.len, HA.out.len] at h9; have := NA.out; have := NB.out; have := NC.out; omega)
            clear b116 r116
            have Ep3 := Lib.hid Rp3_116.out.len
            go_wp2_with (first | go_skip | fail)
            refine (meet_is _ _ _ _ _ _ a c _ (HA.out.below B116.out) (HC.out.below B116.out) (by have := NA.out; have := NB.out; have := NC.out; omega) (by have := NA.out; have := NB.out; have := NC.out; omega)).mono ?_
            rintro e w117 ⟨⟨A117, n117, c117, rfl, r117⟩, b117⟩
            have B117 := Lib.hid (step_ B116.out b117)
            have Rp_117 := Lib.hid (Rp_116.out.below b117)
            have Rp2_117 := Lib.hid (Rp2_116.out.below b117)
            have Rp3_117 := Lib.hid (Rp3_116.out.below b117)
            have Rp4_117 := Lib.hid r117
            have Lp4 := Lib.hid (show n117 ≤ 40 by have h9 := meet_len a c; rw [r117.len, HA.out.len] at h9; have := NA.out; have := NB.out; have := NC.out; omega)
            clear b117 r117
            have Ep4 := Lib.hid Rp4_117.out.len
            go_wp2_with (first | go_skip | fail)
            refine (join_is _ _ _ _ _ _ (meet a b) (meet a c) _ Rp3_117.out Rp4_117.out (by have := NA.out; have := NB.out; have := NC.out; have := Lp3.out; omega) (by have := NA.out; have := NB.out; have := NC.out; have := Lp4.out; omega)).mono ?_
            rintro e w118 ⟨⟨A118, n118, c118, rfl, r118⟩, b118⟩
            have B118 := Lib.hid (step_ B117.out b118)
            have Rp_118 := Lib.hid (Rp_117.out.below b118)
            have Rp2_118 := Lib.hid (Rp2_117.out.below b118)
            have Rp3_118 := Lib.hid (Rp3_117.out.below b118)
            have Rp4_118 := Lib.hid (Rp4_117.out.below b118)
            have Rp5_118 := Lib.hid r118
            have Lp5 := Lib.hid (show n118 ≤ 80 by have h9 := join_len (meet a b) (meet a c); rw [r118.len, Ep3.out, Ep4.out] at h9; have := NA.out; have := NB.out; have := NC.out; have := Lp3.out; have := Lp4.out; omega)
            clear b118 r118
            have Ep5 := Lib.hid Rp5_118.out.len
            go_wp2_with (first | go_skip | fail)
            refine (rows_is _ _ _ _ _ _ _ _ true _ Rp2_118.out Rp5_118.out (by have := Lp2.out; omega) (Lib.hid (decide_eq_true (law_dist HA.out.ok HB.out.ok HC.out.ok)))).mono ?_
            rintro e w119 ⟨rfl, b119⟩
            have B119 := Lib.hid (step_ B118.out b119)
            clear b119
            go_wp2_with (first | go_skip | fail)
            refine (alive_is _).mono ?_
            rintro e w120 ⟨rfl, b120⟩
            have B120 := Lib.hid (step_ B119.out b120)
            clear b120
            go_wp2_with (first | go_skip | fail)
            go_ret
            exact ⟨rfl, B120.out⟩
        have TL := Lib.hid tail
        clear tail hK2
        cases ho : leq a c with
        | true =>
          have P1 := Lib.hid ho
          clear ho
          refine (leq_is _ _ _ _ _ _ a c true _ (HA.out.below B8.out) (HC.out.below B8.out) (by have := NA.out; have := NB.out; have := NC.out; omega) (by have := NA.out; have := NB.out; have := NC.out; omega) P1).mono ?_
          rintro e w9 ⟨rfl, b9⟩
          have B9 := Lib.hid (step_ B8.out b9)
          have Rj_9 := Lib.hid (Rj_8.out.below b9)
          have Rm_9 := Lib.hid (Rm_8.out.below b9)
          clear b9
          go_wp2_with (first | go_skip | fail)
          cases hx : leq b c with
          | true =>
            have P2 := Lib.hid hx
            clear hx
            refine (leq_is _ _ _ _ _ _ b c true _ (HB.out.below B9.out) (HC.out.below B9.out) (by have := NA.out; have := NB.out; have := NC.out; omega) (by have := NA.out; have := NB.out; have := NC.out; omega) P2).mono ?_
            rintro e w10 ⟨rfl, b10⟩
            have B10 := Lib.hid (step_ B9.out b10)
            have Rj_10 := Lib.hid (Rj_9.out.below b10)
            have Rm_10 := Lib.hid (Rm_9.out.below b10)
            clear b10
            go_wp2_with (first | go_skip | fail)
            refine (leq_is _ _ _ _ _ _ (join a b) c true _ Rj_10.out (HC.out.below B10.out) (by have := NA.out; have := NB.out; have := NC.out; have := Lj.out; omega) (by have := NA.out; have := NB.out; have := NC.out; omega) (Lib.hid (law_lub HA.out.ok HB.out.ok HC.out.ok P1.out P2.out))).mono ?_
            rintro e w11 ⟨rfl, b11⟩
            have B11 := Lib.hid (step_ B10.out b11)
            have Rj_11 := Lib.hid (Rj_10.out.below b11)
            have Rm_11 := Lib.hid (Rm_10.out.below b11)
            clear b11
            go_wp2_with (first | go_skip | fail)
            cases hp : leq c a with
            | true =>
              have P3 := Lib.hid hp
              clear hp
              refine (leq_is _ _ _ _ _ _ c a true _ (HC.out.below B11.out) (HA.out.below B11.out) (by have := NA.out; have := NB.out; have := NC.out; omega) (by have := NA.out; have := NB.out; have := NC.out; omega) P3).mono ?_
              rintro e w12 ⟨rfl, b12⟩
              have B12 := Lib.hid (step_ B11.out b12)
              have Rj_12 := Lib.hid (Rj_11.out.below b12)
              have Rm_12 := Lib.hid (Rm_11.out.below b12)
              clear b12
              go_wp2_with (first | go_skip | fail)
              cases hq : leq c b with
              | true =>
                have P4 := Lib.hid hq
                clear hq
                refine (leq_is _ _ _ _ _ _ c b true _ (HC.out.below B12.out) (HB.out.below B12.out) (by have := NA.out; have := NB.out; have := NC.out; omega) (by have := NA.out; have := NB.out; have := NC.out; omega) P4).mono ?_
                rintro e w13 ⟨rfl, b13⟩
                have B13 := Lib.hid (step_ B12.out b13)
                have Rj_13 := Lib.hid (Rj_12.out.below b13)
                have Rm_13 := Lib.hid (Rm_12.out.below b13)
                clear b13
                go_wp2_with (first | go_skip | fail)
                refine (leq_is _ _ _ _ _ _ c (meet a b) true _ (HC.out.below B13.out) Rm_13.out (by have := NA.out; have := NB.out; have := NC.out; omega) (by have := NA.out; have := NB.out; have := NC.out; have := Lm.out; omega) (Lib.hid (law_glb HA.out.ok HB.out.ok HC.out.ok P3.out P4.out))).mono ?_
                rintro e w14 ⟨rfl, b14⟩
                have B14 := Lib.hid (step_ B13.out b14)
                have Rj_14 := Lib.hid (Rj_13.out.below b14)
                have Rm_14 := Lib.hid (Rm_13.out.below b14)
                clear b14
                go_wp2_with (first | go_skip | fail)
                exact TL.out _ _ _ _ _ _ _ _ _ _ _ _ _ _ _ _ _ _ _ _ _ _ _ _ _ _ _ _ _ _ _ B14.out Rj_14.out Rm_14.out
              | false =>
                have P4 := Lib.hid hq
                clear hq
                refine (leq_is _ _ _ _ _ _ c b false _ (HC.out.below B12.out) (HB.out.below B12.out) (by have := NA.out; have := NB.out; have := NC.out; omega) (by have := NA.out; have := NB.out; have := NC.out; omega) P4).mono ?_
                rintro e w13 ⟨rfl, b13⟩
                have B13 := Lib.hid (step_ B12.out b13)
                have Rj_13 := Lib.hid (Rj_12.out.below b13)
                have Rm_13 := Lib.hid (Rm_12.out.below b13)
                clear b13
                go_wp2_with (first | go_skip | fail)
                exact TL.out _ _ _ _ _ _ _ _ _ _ _ _ _ _ _ _ _ _ _ _ _ _ _ _ _ _ _ _ _ _ _ B13.out Rj_13.out Rm_13.out
            | false =>
              have P3 := Lib.hid hp
              clear hp
              refine (leq_is _ _ _ _ _ _ c a false _ (HC.out.below B11.out) (HA.out.below B11.out) (by have := NA.out; have := NB.out; have := NC.out; omega) (by have := NA.out; have := NB.out; have := NC.out; omega) P3).mono ?_
              rintro e w12 ⟨rfl, b12⟩
              have B12 := Lib.hid (step_ B11.out b12)
              have Rj_12 := Lib.hid (Rj_11.out.below b12)
              have Rm_12 := Lib.hid (Rm_11.out.below b12)
              clear b12
              go_wp2_with (first | go_skip | fail)
              exact TL.out _ _ _ _ _ _ _ _ _ _ _ _ _ _ _ _ _ _ _ _ _ _ _ _ _ _ _ _ _ _ _ B12.out Rj_12.out Rm_12.out
          | false =>
            have P2 := Lib.hid hx
            clear hx
            refine (leq_is _ _ _ _ _ _ b c false _ (HB.out.below B9.out) (HC.out.below B9.out) (by have := NA.out; have := NB.out; have := NC.out; omega) (by have := NA.out; have := NB.out; have := NC.out; omega) P2).mono ?_
            rintro e w10 ⟨rfl, b10⟩
            have B10 := Lib.hid (step_ B9.out b10)
            have Rj_10 := Lib.hid (Rj_9.out.below b10)
            have Rm_10 := Lib.hid (Rm_9.out.below b10)
            clear b10
            go_wp2_with (first | go_skip | fail)
            cases hp : leq c a with
            | true =>
              have P3 := Lib.hid hp
              clear hp
              refine (leq_is _ _ _ _ _ _ c a true _ (HC.out.below B10.out) (HA.out.below B10.out) (by have := NA.out; have := NB.out; have := NC.out; omega) (by have := NA.out; have := NB.out; have := NC.out; omega) P3).mono ?_
              rintro e w11 ⟨rfl, b11⟩
              have B11 := Lib.hid (step_ B10.out b11)
              have Rj_11 := Lib.hid (Rj_10.out.below b11)
              have Rm_11 := Lib.hid (Rm_10.out.below b11)
              clear b11
              go_wp2_with (first | go_skip | fail)
              cases hq : leq c b with
              | true =>
                have P4 := Lib.hid hq
                clear hq
                refine (leq_is _ _ _ _ _ _ c b true _ (HC.out.below B11.out) (HB.out.below B11.out) (by have := NA.out; have := NB.out; have := NC.out; omega) (by have := NA.out; have := NB.out; have := NC.out; omega) P4).mono ?_
                rintro e w12 ⟨rfl, b12⟩
                have B12 := Lib.hid (step_ B11.out b12)
                have Rj_12 := Lib.hid (Rj_11.out.below b12)
                have Rm_12 := Lib.hid (Rm_11.out.below b12)
                clear b12
                go_wp2_with (first | go_skip | fail)
                refine (leq_is _ _ _ _ _ _ c (meet a b) true _ (HC.out.below B12.out) Rm_12.out (by have := NA.out; have := NB.out; have := NC.out; omega) (by have := NA.out; have := NB.out; have := NC.out; have := Lm.out; omega) (Lib.hid (law_glb HA.out.ok HB.out.ok HC.out.ok P3.out P4.out))).mono ?_
                rintro e w13 ⟨rfl, b13⟩
                have B13 := Lib.hid (step_ B12.out b13)
                have Rj_13 := Lib.hid (Rj_12.out.below b13)
                have Rm_13 := Lib.hid (Rm_12.out.below b13)
                clear b13
                go_wp2_with (first | go_skip | fail)
                exact TL.out _ _ _ _ _ _ _ _ _ _ _ _ _ _ _ _ _ _ _ _ _ _ _ _ _ _ _ _ _ _ _ B13.out Rj_13.out Rm_13.out
              | false =>
                have P4 := Lib.hid hq
                clear hq
                refine (leq_is _ _ _ _ _ _ c b false _ (HC.out.below B11.out) (HB.out.below B11.out) (by have := NA.out; have := NB.out; have := NC.out; omega) (by have := NA.out; have := NB.out; have := NC.out; omega) P4).mono ?_
                rintro e w12 ⟨rfl, b12⟩
                have B12 := Lib.hid (step_ B11.out b12)
                have Rj_12 := Lib.hid (Rj_11.out.below b12)
                have Rm_12 := Lib.hid (Rm_11.out.below b12)
                clear b12
                go_wp2_with (first | go_skip | fail)
                exact TL.out _ _ _ _ _ _ _ _ _ _ _ _ _ _ _ _ _ _ _ _ _ _ _ _ _ _ _ _ _ _ _ B12.out Rj_12.out Rm_12.out
            | false =>
              have P3 := Lib.hid hp
              clear hp
              refine (leq_is _ _ _ _ _ _ c a false _ (HC.out.below B10.out) (HA.out.below B10.out) (by have := NA.out; have := NB.out; have := NC.out; omega) (by have := NA.out; have := NB.out; have := NC.out; omega) P3).mono ?_
              rintro e w11 ⟨rfl, b11⟩
              have B11 := Lib.hid (step_ B10.out b11)
              have Rj_11 := Lib.hid (Rj_10.out.below b11)
              have Rm_11 := Lib.hid (Rm_10.out.below b11)
              clear b11
              go_wp2_with (first | go_skip | fail)
              exact TL.out _ _ _ _ _ _ _ _ _ _ _ _ _ _ _ _ _ _ _ _ _ _ _ _ _ _ _ _ _ _ _ B11.out Rj_11.out Rm_11.out
        | false =>
          have P1 := Lib.hid ho
          clear ho
          refine (leq_is _ _ _ _ _ _ a c false _ (HA.out.below B8.out) (HC.out.below B8.out) (by have := NA.out; have := NB.out; have := NC.out; omega) (by have := NA.out; have := NB.out; have := NC.out; omega) P1).mono ?_
          rintro e w9 ⟨rfl, b9⟩
          have B9 := Lib.hid (step_ B8.out b9)
          have Rj_9 := Lib.hid (Rj_8.out.below b9)
          have Rm_9 := Lib.hid (Rm_8.out.below b9)
          clear b9
          go_wp2_with (first | go_skip | fail)
          cases hp : leq c a with
          | true =>
            have P3 := Lib.hid hp
            clear hp
            refine (leq_is _ _ _ _ _ _ c a true _ (HC.out.below B9.out) (HA.out.below B9.out) (by have := NA.out; have := NB.out; have := NC.out; omega) (by have := NA.out; have := NB.out; have := NC.out; omega) P3).mono ?_
            rintro e w10 ⟨rfl, b10⟩
            have B10 := Lib.hid (step_ B9.out b10)
            have Rj_10 := Lib.hid (Rj_9.out.below b10)
            have Rm_10 := Lib.hid (Rm_9.out.below b10)
            clear b10
            go_wp2_with (first | go_skip | fail)
            cases hq : leq c b with
            | true =>
              have P4 := Lib.hid hq
              clear hq
              refine (leq_is _ _ _ _ _ _ c b true _ (HC.out.below B10.out) (HB.out.below B10.out) (by have := NA.out; have := NB.out; have := NC.out; omega) (by have := NA.out; have := NB.out; have := NC.out; omega) P4).mono ?_
              rintro e w11 ⟨rfl, b11⟩
              have B11 := Lib.hid (step_ B10.out b11)
              have Rj_11 := Lib.hid (Rj_10.out.below b11)
              have Rm_11 := Lib.hid (Rm_10.out.below b11)
              clear b11
              go_wp2_with (first | go_skip | fail)
              refine (leq_is _ _ _ _ _ _ c (meet a b) true _ (HC.out.below B11.out) Rm_11.out (by have := NA.out; have := NB.out; have := NC.out; omega) (by have := NA.out; have := NB.out; have := NC.out; have := Lm.out; omega) (Lib.hid (law_glb HA.out.ok HB.out.ok HC.out.ok P3.out P4.out))).mono ?_
              rintro e w12 ⟨rfl, b12⟩
              have B12 := Lib.hid (step_ B11.out b12)
              have Rj_12 := Lib.hid (Rj_11.out.below b12)
              have Rm_12 := Lib.hid (Rm_11.out.below b12)
              clear b12
              go_wp2_with (first | go_skip | fail)
              exact TL.out _ _ _ _ _ _ _ _ _ _ _ _ _ _ _ _ _ _ _ _ _ _ _ _ _ _ _ _ _ _ _ B12.out Rj_12.out Rm_12.out
            | false =>
              have P4 := Lib.hid hq
              clear hq
              refine (leq_is _ _ _ _ _ _ c b false _ (HC.out.below B10.out) (HB.out.below B10.out) (by have := NA.out; have := NB.out; have := NC.out; omega) (by have := NA.out; have := NB.out; have := NC.out; omega) P4).mono ?_
              rintro e w11 ⟨rfl, b11⟩
              have B11 := Lib.hid (step_ B10.out b11)
              have Rj_11 := Lib.hid (Rj_10.out.below b11)
              have Rm_11 := Lib.hid (Rm_10.out.below b11)
              clear b11
              go_wp2_with (first | go_skip | fail)
              exact TL.out _ _ _ _ _ _ _ _ _ _ _ _ _ _ _ _ _ _ _ _ _ _ _ _ _ _ _ _ _ _ _ B11.out Rj_11.out Rm_11.out
          | false =>
            have P3 := Lib.hid hp
            clear hp
            refine (leq_is _ _ _ _ _ _ c a false _ (HC.out.below B9.out) (HA.out.below B9.out) (by have := NA.out; have := NB.out; have := NC.out; omega) (by have := NA.out; have := NB.out; have := NC.out; omega) P3).mono ?_
            rintro e w10 ⟨rfl, b10⟩
            have B10 := Lib.hid (step_ B9.out b10)
            have Rj_10 := Lib.hid (Rj_9.out.below b10)
            have Rm_10 := Lib.hid (Rm_9.out.below b10)
            clear b10
            go_wp2_with (first | go_skip | fail)
            exact TL.out _ _ _ _ _ _ _ _ _ _ _ _ _ _ _ _ _ _ _ _ _ _ _ _ _ _ _ _ _ _ _ B10.out Rj_10.out Rm_10.out
      · have hd3 : decide ((40 : Int) < (k : Int)) = true := decide_eq_true (by omega)
        clear hn hm hk
        go_enter Try.func6, Try.ntmps6
        go_wp2_with (first | go_skip | fail)
        refine (DD.out _ B0.out).mono ?_
        rintro e w2 ⟨rfl, b2⟩
        have B2 := Lib.hid b2
        clear b2
        go_wp2_with fail
        go_ret
        exact ⟨rfl, B2.out⟩
    · have hd2 : decide ((40 : Int) < (m : Int)) = true := decide_eq_true (by omega)
      clear hn hm
      go_enter Try.func6, Try.ntmps6
      go_wp2_with (first | go_skip | fail)
      refine (DD.out _ B0.out).mono ?_
      rintro e w2 ⟨rfl, b2⟩
      have B2 := Lib.hid b2
      clear b2
      go_wp2_with fail
      go_ret
      exact ⟨rfl, B2.out⟩
  · have hd1 : decide ((40 : Int) < (n : Int)) = true := decide_eq_true (by omega)
    clear hn
    go_enter Try.func6, Try.ntmps6
    go_wp2_with (first | go_skip | fail)
    refine (DD.out _ B0.out).mono ?_
    rintro e w2 ⟨rfl, b2⟩
    have B2 := Lib.hid b2
    clear b2
    go_wp2_with fail
    go_ret
    exact ⟨rfl, B2.out⟩
end Go.Proofs.Ytkphpicfgpgkkaa
