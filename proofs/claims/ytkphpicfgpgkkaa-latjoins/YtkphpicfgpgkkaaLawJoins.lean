/- The contract of the law LatJoins. -/
import Derived.Test.YtkphpicfgpgkkaaAlive
namespace Go.Proofs.Ytkphpicfgpgkkaa
open Go.RowKit

theorem join_len (a b : List Am) : (join a b).length ≤ a.length + b.length := by have := norm_len (a ++ b); rw [List.length_append] at this; exact this
theorem meet_len (a b : List Am) : (meet a b).length ≤ a.length := Nat.le_trans (meetF_len _ _) (norm_len a)
set_option maxRecDepth 100000 in
set_option maxHeartbeats 8000000 in
theorem latJoins_is (A B : Option Addr) (n m cap cap2 : Nat) (a b : List Am) (w : World) (h : RowV w A n cap a) (h2 : RowV w B m cap2 b) : Calls Try.prog 4 #[.slice A n cap, .slice B m cap2] w fun e w' => e = .returned (.bool true) ∧ Below w.heap.size w w' := by
  have H := Lib.hid h
  have J := Lib.hid h2
  have B0 := Lib.hid (Below.refl w.heap.size w)
  obtain ⟨r, hr⟩ : ∃ r, leq a b = r := ⟨_, rfl⟩
  obtain ⟨q, hq⟩ : ∃ q, same a b = q := ⟨_, rfl⟩
  have LR := Lib.hid hr
  have SQ := Lib.hid hq
  clear h h2 hr hq
  have dead : ∀ W, Below w.heap.size w W → Calls Try.prog 7 #[] W fun e w' => e = .returned (.bool true) ∧ Below w.heap.size w w' := fun W hW => (alive_is W).mono (fun e w' h => ⟨h.1, step_ hW h.2⟩)
  have DD := Lib.hid dead
  clear dead
  by_cases hn : n ≤ 60
  · have hd : decide ((60 : Int) < (n : Int)) = false := decide_eq_false (by omega)
    by_cases hm : m ≤ 60
    · have hd2 : decide ((60 : Int) < (m : Int)) = false := decide_eq_false (by omega)
      have HN := Lib.hid hn
      have HM := Lib.hid hm
      clear hn hm
      go_enter Try.func4, Try.ntmps4
      go_wp2_with fail
      refine (join_is _ _ _ _ _ _ a b _ (H.out.below B0.out) (J.out.below B0.out) (by have := HN.out; omega) (by have := HM.out; omega)).mono ?_
      rintro e w1 ⟨⟨A1, n1, c1, rfl, r1⟩, b1⟩
      have B1 := Lib.hid (step_ B0.out b1)
      have Rj_1 := Lib.hid r1
      have Lj := Lib.hid (show n1 ≤ 5000 by have := norm_len (a ++ b); unfold join at r1; rw [r1.len, List.length_append, H.out.len, J.out.len] at this; have := HN.out; have := HM.out; omega)
      clear b1 r1
      go_wp2_with fail
      refine (refJoin_is _ _ _ _ _ _ a b _ (H.out.below B1.out) (J.out.below B1.out) (by have := HN.out; omega) (by have := HM.out; omega)).mono ?_
      rintro e w2 ⟨⟨A2, n2, c2, rfl, r2⟩, b2⟩
      have B2 := Lib.hid (step_ B1.out b2)
      have Rj_2 := Lib.hid (Rj_1.out.below b2)
      have Rk_2 := Lib.hid r2
      have Lk := Lib.hid (show n2 ≤ 5000 by have := norm_len (a ++ b); unfold join at r2; rw [r2.len, List.length_append, H.out.len, J.out.len] at this; have := HN.out; have := HM.out; omega)
      clear b2 r2
      go_wp2_with fail
      refine (rows_is _ _ _ _ _ _ _ _ true _ Rj_2.out Rk_2.out Lj.out (Lib.hid (decide_eq_true rfl))).mono ?_
      rintro e w3 ⟨rfl, b3⟩
      have B3 := Lib.hid (step_ B2.out b3)
      clear b3
      go_wp2_with fail
      refine (meet_is _ _ _ _ _ _ a b _ (H.out.below B3.out) (J.out.below B3.out) (by have := HN.out; omega) (by have := HM.out; omega)).mono ?_
      rintro e w4 ⟨⟨A4, n4, c4, rfl, r4⟩, b4⟩
      have B4 := Lib.hid (step_ B3.out b4)
      have Rm_4 := Lib.hid r4
      have Lm := Lib.hid (show n4 ≤ 5000 by have h9 := meet_len a b; rw [r4.len, H.out.len] at h9; have := HN.out; omega)
      clear b4 r4
      go_wp2_with fail
      refine (refMeet_is _ _ _ _ _ _ a b _ (H.out.below B4.out) (J.out.below B4.out) (by have := HN.out; omega) (by have := HM.out; omega)).mono ?_
      rintro e w5 ⟨⟨A5, n5, c5, rfl, r5⟩, b5⟩
      have B5 := Lib.hid (step_ B4.out b5)
      have Rm_5 := Lib.hid (Rm_4.out.below b5)
      have Rq_5 := Lib.hid r5
      have Lq := Lib.hid (show n5 ≤ 5000 by have h9 := meet_len a b; rw [r5.len, H.out.len] at h9; have := HN.out; omega)
      clear b5 r5
      go_wp2_with fail
      refine (rows_is _ _ _ _ _ _ _ _ true _ Rm_5.out Rq_5.out Lm.out (Lib.hid (decide_eq_true rfl))).mono ?_
      rintro e w6 ⟨rfl, b6⟩
      have B6 := Lib.hid (step_ B5.out b6)
      clear b6
      go_wp2_with fail
      refine (leq_is _ _ _ _ _ _ a b r _ (H.out.below B6.out) (J.out.below B6.out) (by have := HN.out; omega) (by have := HM.out; omega) LR).mono ?_
      rintro e w7 ⟨rfl, b7⟩
      have B7 := Lib.hid (step_ B6.out b7)
      clear b7
      go_wp2_with fail
      refine (refLeq_is _ _ _ _ _ _ a b r _ (H.out.below B7.out) (J.out.below B7.out) (by have := HN.out; omega) (by have := HM.out; omega) LR).mono ?_
      rintro e w8 ⟨rfl, b8⟩
      have B8 := Lib.hid (step_ B7.out b8)
      clear b8
      have hbb : (r == r) = true := by simp
      go_wp2_with fail
      refine (same_is _ _ _ _ _ _ a b q _ (H.out.below B8.out) (J.out.below B8.out) (by have := HN.out; omega) (by have := HM.out; omega) SQ).mono ?_
      rintro e w9 ⟨rfl, b9⟩
      have B9 := Lib.hid (step_ B8.out b9)
      clear b9
      go_wp2_with fail
      refine (refSame_is _ _ _ _ _ _ a b q _ (H.out.below B9.out) (J.out.below B9.out) (by have := HN.out; omega) (by have := HM.out; omega) SQ).mono ?_
      rintro e w10 ⟨rfl, b10⟩
      have B10 := Lib.hid (step_ B9.out b10)
      clear b10
      have hbq : (q == q) = true := by simp
      go_wp2_with fail
      refine (alive_is _).mono ?_
      rintro e w11 ⟨rfl, b11⟩
      have B11 := Lib.hid (step_ B10.out b11)
      clear b11
      go_wp2_with fail
      go_ret
      exact ⟨rfl, B11.out⟩
    · have hd2 : decide ((60 : Int) < (m : Int)) = true := decide_eq_true (by omega)
      clear hn hm
      go_enter Try.func4, Try.ntmps4
      go_wp2_with fail
      refine (DD.out _ B0.out).mono ?_
      rintro e w2 ⟨rfl, b2⟩
      have B2 := Lib.hid b2
      clear b2
      go_wp2_with fail
      go_ret
      exact ⟨rfl, B2.out⟩
  · have hd : decide ((60 : Int) < (n : Int)) = true := decide_eq_true (by omega)
    clear hn
    go_enter Try.func4, Try.ntmps4
    go_wp2_with (first | go_skip | fail)
    refine (DD.out _ B0.out).mono ?_
    rintro e w2 ⟨rfl, b2⟩
    have B2 := Lib.hid b2
    clear b2
    go_wp2_with fail
    go_ret
    exact ⟨rfl, B2.out⟩
end Go.Proofs.Ytkphpicfgpgkkaa
