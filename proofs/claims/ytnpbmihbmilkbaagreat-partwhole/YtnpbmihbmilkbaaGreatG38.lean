/- slices.choosePivotOrdered at uint16. Written by wip/tools/srtQ_r17.py. -/
import Derived.Test.YtnpbmihbmilkbaaGreatG37
namespace Go.Proofs.YtnpbmihbmilkbaaGreat
open Go.RowKit
/-- What it answers: a place in the range. -/
def GivesP (B g n cap a b : Nat) (l : List Int) (w : World) (e : Ending) (w' : World) : Prop :=
  (∃ (p : Nat) (h : Int), e = .returned (.tuple #[.int .i64 (p : Int), .int .i64 h]) ∧ a ≤ p ∧ p < b) ∧ OwnN w' B (.slice (some ⟨g, 0, none⟩) n cap) l ∧ Below w.heap.size w w'
set_option maxRecDepth 100000 in
set_option maxHeartbeats 8000000 in
theorem choose_is (B g n cap a b : Nat) (l : List Int) (w : World) (h : OwnN w B (.slice (some ⟨g, 0, none⟩) n cap) l) (hb : b ≤ n) (hn : n ≤ 10000) (hab : a + 12 < b) (hg : g < w.heap.size) :
    Calls Tryz.prog 77 #[(.slice (some ⟨g, 0, none⟩) n cap), .int .i64 (a : Int), .int .i64 (b : Int)] w (GivesP B g n cap a b l w) := by
  obtain ⟨L, hL⟩ : ∃ z, z = b - a := ⟨_, rfl⟩
  obtain ⟨q, hq⟩ : ∃ z, z = L / 4 := ⟨_, rfl⟩
  have HL := Lib.hid hL
  have HQ := Lib.hid hq
  have hb1 : 12 < L ∧ L ≤ 10000 ∧ a + L ≤ b ∧ 3 ≤ q ∧ 4 * q ≤ L := by omega
  obtain ⟨w1, ew1⟩ : ∃ z, z = w.alloc (.cells #[.int .i64 0] 3) := ⟨_, rfl⟩
  obtain ⟨s, es⟩ : ∃ z, z = w.heap.size := ⟨_, rfl⟩
  have B1 := Lib.hid (show Below w.heap.size w w1 by rw [ew1]; exact new_below w (.cells #[.int .i64 0] 3))
  have C1 := Lib.hid (show Cnt w1 s 0 by rw [ew1, es]; exact ⟨0, blk_alloc w 3 [.int .i64 0], by omega, by omega⟩)
  have D1 := Lib.hid (h.below B1.out)
  have GS := Lib.hid (show g ≠ s by omega)
  have SS := Lib.hid es
  clear hL hq h
  have hz8 : decide ((8 : Int) ≤ (L : Int)) = true := decide_eq_true (by omega)
  have OB : ∀ W, Only s w1 W → Below w.heap.size w W := fun W o => B1.out.trans (o.below (by have := SS.out; omega) B1.out.size)
  go_enter Tryz.func77, Tryz.ntmps77
  have EW := Lib.hid ew1
  clear ew1 es
  by_cases h50 : 50 ≤ L
  · have hz50 : decide ((50 : Int) ≤ (L : Int)) = true := decide_eq_true (by omega)
    go_wp2_with (first
      | (refine wpList_val rfl _ (exec_subn _ _ rfl (b : Int) (a : Int) (L : Int) rfl rfl (by have := HL.out; omega) (by omega)) ?_)
      | (refine wpList_val rfl _ (exec_quo4 _ rfl L q rfl HQ.out (by omega)) ?_)
      | (refine wpList_val rfl _ (exec_muln _ _ rfl (q : Int) 1 (q : Int) rfl rfl (by omega) (by omega)) ?_)
      | (refine wpList_val rfl _ (exec_muln _ _ rfl (q : Int) 2 ((2 * q : Nat) : Int) rfl rfl (by omega) (by omega)) ?_)
      | (refine wpList_val rfl _ (exec_muln _ _ rfl (q : Int) 3 ((3 * q : Nat) : Int) rfl rfl (by omega) (by omega)) ?_)
      | (refine wpList_val rfl _ (exec_addn _ _ rfl (a : Int) (q : Int) ((a + q : Nat) : Int) rfl rfl (by omega) (by omega)) ?_)
      | (refine wpList_val rfl _ (exec_addn _ _ rfl (a : Int) ((2 * q : Nat) : Int) ((a + 2 * q : Nat) : Int) rfl rfl (by omega) (by omega)) ?_)
      | (refine wpList_val rfl _ (exec_addn _ _ rfl (a : Int) ((3 * q : Nat) : Int) ((a + 3 * q : Nat) : Int) rfl rfl (by omega) (by omega)) ?_)
      | (refine wpList_val rfl _ (exec_ge _ _ rfl (L : Int) 8 true rfl rfl hz8) ?_)
      | (refine wpList_val rfl _ (exec_ge _ _ rfl (L : Int) 50 _ rfl rfl hz50) ?_))
    rw [← EW.out, ← SS.out]
    refine (adjacent_is B g n cap (a + q) s 0 l w1 D1.out (by omega) (by omega) (by omega) C1.out (by omega) GS.out).mono ?_
    rintro e w2 ⟨⟨x1, rfl, e1⟩, ⟨s2, d2⟩, o2⟩
    have X1 := Lib.hid e1
    clear e1
    go_wp2_with fail
    refine (adjacent_is B g n cap (a + 2 * q) s 3 l w2 d2 (by omega) (by omega) (by omega) s2 (by omega) GS.out).mono ?_
    rintro e w3 ⟨⟨x2, rfl, e2⟩, ⟨s3, d3⟩, o3⟩
    have X2 := Lib.hid e2
    clear e2
    go_wp2_with fail
    refine (adjacent_is B g n cap (a + 3 * q) s 6 l w3 d3 (by omega) (by omega) (by omega) s3 (by omega) GS.out).mono ?_
    rintro e w4 ⟨⟨x3, rfl, e3⟩, ⟨s4, d4⟩, o4⟩
    have X3 := Lib.hid e3
    clear e3
    go_wp2_with fail
    refine (median_is B g n cap x1 x2 x3 s 9 l w4 d4 (by have := X1.out; omega) (by have := X2.out; omega) (by have := X3.out; omega) s4 (by omega) GS.out).mono ?_
    rintro e w5 ⟨⟨x5, rfl, e5⟩, ⟨s5, d5⟩, o5⟩
    have R5 := Lib.hid (show a ≤ x5 ∧ x5 < b by have := X1.out; have := X2.out; have := X3.out; omega)
    have BB := Lib.hid (OB _ (((o2.trans o3).trans o4).trans o5))
    have D5 := Lib.hid d5
    clear e5 X1 X2 X3 s2 d2 o2 s3 d3 o3 s4 d4 o4 d5 o5
    obtain ⟨v, hv, v0, v1⟩ := s5
    have cv := hv.cell (i := 0) rfl
    clear hv
    by_cases hv0 : v = 0
    · subst hv0
      go_wp2_with go_skip
      refine bodyPost_ret (results_tmp2 rfl _ _ _) rfl ?_
      exact ⟨⟨x5, 1, rfl, R5.out⟩, D5.out, BB.out⟩
    · have hn0 : (v == 0) = false := by simpa using hv0
      by_cases hv12 : v = 12
      · subst hv12
        go_wp2_with go_skip
        refine bodyPost_ret (results_tmp2 rfl _ _ _) rfl ?_
        exact ⟨⟨x5, 2, rfl, R5.out⟩, D5.out, BB.out⟩
      · have hn12 : (v == 12) = false := by simpa using hv12
        go_wp2_with go_skip
        refine bodyPost_ret (results_tmp2 rfl _ _ _) rfl ?_
        exact ⟨⟨x5, 0, rfl, R5.out⟩, D5.out, BB.out⟩
  · have hz50 : decide ((50 : Int) ≤ (L : Int)) = false := decide_eq_false (by omega)
    go_wp2_with (first
      | (refine wpList_val rfl _ (exec_subn _ _ rfl (b : Int) (a : Int) (L : Int) rfl rfl (by have := HL.out; omega) (by omega)) ?_)
      | (refine wpList_val rfl _ (exec_quo4 _ rfl L q rfl HQ.out (by omega)) ?_)
      | (refine wpList_val rfl _ (exec_muln _ _ rfl (q : Int) 1 (q : Int) rfl rfl (by omega) (by omega)) ?_)
      | (refine wpList_val rfl _ (exec_muln _ _ rfl (q : Int) 2 ((2 * q : Nat) : Int) rfl rfl (by omega) (by omega)) ?_)
      | (refine wpList_val rfl _ (exec_muln _ _ rfl (q : Int) 3 ((3 * q : Nat) : Int) rfl rfl (by omega) (by omega)) ?_)
      | (refine wpList_val rfl _ (exec_addn _ _ rfl (a : Int) (q : Int) ((a + q : Nat) : Int) rfl rfl (by omega) (by omega)) ?_)
      | (refine wpList_val rfl _ (exec_addn _ _ rfl (a : Int) ((2 * q : Nat) : Int) ((a + 2 * q : Nat) : Int) rfl rfl (by omega) (by omega)) ?_)
      | (refine wpList_val rfl _ (exec_addn _ _ rfl (a : Int) ((3 * q : Nat) : Int) ((a + 3 * q : Nat) : Int) rfl rfl (by omega) (by omega)) ?_)
      | (refine wpList_val rfl _ (exec_ge _ _ rfl (L : Int) 8 true rfl rfl hz8) ?_)
      | (refine wpList_val rfl _ (exec_ge _ _ rfl (L : Int) 50 _ rfl rfl hz50) ?_))
    rw [← EW.out, ← SS.out]
    refine (median_is B g n cap (a + q) (a + 2 * q) (a + 3 * q) s 0 l w1 D1.out (by omega) (by omega) (by omega) C1.out (by omega) GS.out).mono ?_
    rintro e w5 ⟨⟨x5, rfl, e5⟩, ⟨s5, d5⟩, o5⟩
    have R5 := Lib.hid (show a ≤ x5 ∧ x5 < b by omega)
    have BB := Lib.hid (OB _ o5)
    have D5 := Lib.hid d5
    clear e5 d5 o5
    obtain ⟨v, hv, v0, v1⟩ := s5
    have cv := hv.cell (i := 0) rfl
    clear hv
    by_cases hv0 : v = 0
    · subst hv0
      go_wp2_with go_skip
      refine bodyPost_ret (results_tmp2 rfl _ _ _) rfl ?_
      exact ⟨⟨x5, 1, rfl, R5.out⟩, D5.out, BB.out⟩
    · have hn0 : (v == 0) = false := by simpa using hv0
      by_cases hv12 : v = 12
      · subst hv12
        go_wp2_with go_skip
        refine bodyPost_ret (results_tmp2 rfl _ _ _) rfl ?_
        exact ⟨⟨x5, 2, rfl, R5.out⟩, D5.out, BB.out⟩
      · have hn12 : (v == 12) = false := by simpa using hv12
        go_wp2_with go_skip
        refine bodyPost_ret (results_tmp2 rfl _ _ _) rfl ?_
        exact ⟨⟨x5, 0, rfl, R5.out⟩, D5.out, BB.out⟩
end Go.Proofs.YtnpbmihbmilkbaaGreat
