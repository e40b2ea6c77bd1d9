/- The contracts of Over and More of package atom and of the reference. -/
import Derived.Test.YtgggjhbijnndhaaARight
namespace Go.Proofs.Ytgggjhbijnndhaa
open Go.RowKit

set_option maxRecDepth 100000 in
theorem over_is (x y : Vl) (b : Bool) (w : World) (hx : x.Ok) (hy : y.Ok) (hb : Hid (over x y = b)) : Calls Try.prog 28 #[.agg x.cells.toArray, .agg y.cells.toArray] w fun e w' => e = .returned (.bool b) ∧ Below w.heap.size w w' := by
  have q1 := (blk_alloc w 38 x.cells).alloc (.cells y.cells.toArray 38)
  have q2 := blk2 w (.cells x.cells.toArray 38) 38 y.cells
  have c1 := q1.cell (vc0 x)
  have c2 := q2.cell (vc0 y)
  have B0 := Lib.hid (step_ (new_below w (.cells x.cells.toArray 38)) (new_below _ (.cells y.cells.toArray 38)))
  have Q1 := Lib.hid q1
  have Q2 := Lib.hid q2
  have HX := Lib.hid hx
  have HY := Lib.hid hy
  have h := hb.out
  unfold over at h
  clear q1 q2 hx hy hb
  by_cases hn : x.n = y.n
  · rw [if_pos hn] at h
    subst h
    have e : (x.n == y.n) = true := by rw [hn]; exact beq_self_eq_true _
    clear hn
    go_enter Try.func28, Try.ntmps28
    go_wp2_with fail
    refine region_later (by kernel_rfl) (by kernel_rfl) ?_
    go_big_quiet_step (fail)
    (go_big_quiet_want; refine quiet_load_nmo w.heap.size 1 x.t _ rfl rfl Q1.out.vnm Q1.out.lt HX.out.tl ?_; go_simp; go_big_quiet_on)
    go_big_quiet_step (exact later_call (number_is x.t _ _ HX.out.tl (Lib.hid HX.out.tb) (Lib.hid rfl)))
    go_big_quiet_step (fail)
    (go_big_quiet_want; refine quiet_load_nmo (w.heap.size + 1) 1 y.t _ rfl rfl Q2.out.vnm Q2.out.lt HY.out.tl ?_; go_simp; go_big_quiet_on)
    go_big_quiet_step (exact later_call (number_is y.t _ _ HY.out.tl (Lib.hid HY.out.tb) (Lib.hid rfl)))
    repeat go_big_quiet_step (fail)
    refine wpQuiet_nil ?_
    intro w5 hw5
    have B5 := Lib.hid (step_ B0.out hw5)
    clear hw5
    go_wp2_with fail
    go_ret
    exact ⟨rfl, B5.out⟩
  · rw [if_neg hn] at h
    subst h
    have e : (x.n == y.n) = false := beq_eq_false_iff_ne.2 hn
    clear hn
    go_enter Try.func28, Try.ntmps28
    go_wp2_with fail
    go_ret
    exact ⟨rfl, B0.out⟩
set_option maxRecDepth 100000 in
theorem refOver_is (x y : Vl) (b : Bool) (w : World) (hx : x.Ok) (hy : y.Ok) (hb : Hid (over x y = b)) : Calls Try.prog 29 #[.agg x.cells.toArray, .agg y.cells.toArray] w fun e w' => e = .returned (.bool b) ∧ Below w.heap.size w w' := by
  have q1 := (blk_alloc w 38 x.cells).alloc (.cells y.cells.toArray 38)
  have q2 := blk2 w (.cells x.cells.toArray 38) 38 y.cells
  have c1 := q1.cell (vc0 x)
  have c2 := q2.cell (vc0 y)
  have B0 := Lib.hid (step_ (new_below w (.cells x.cells.toArray 38)) (new_below _ (.cells y.cells.toArray 38)))
  have Q1 := Lib.hid q1
  have Q2 := Lib.hid q2
  have HX := Lib.hid hx
  have HY := Lib.hid hy
  have h := hb.out
  unfold over at h
  clear q1 q2 hx hy hb
  by_cases hn : x.n = y.n
  · rw [if_pos hn] at h
    subst h
    have e : (x.n == y.n) = true := by rw [hn]; exact beq_self_eq_true _
    clear hn
    go_enter Try.func29, Try.ntmps29
    go_wp2_with fail
    refine region_later (by kernel_rfl) (by kernel_rfl) ?_
    go_big_quiet_step (fail)
    (go_big_quiet_want; refine quiet_load_nmo w.heap.size 1 x.t _ rfl rfl Q1.out.vnm Q1.out.lt HX.out.tl ?_; go_simp; go_big_quiet_on)
    go_big_quiet_step (exact later_call (refNumber_is x.t _ _ HX.out.tl (Lib.hid HX.out.tb) (Lib.hid rfl)))
    go_big_quiet_step (fail)
    (go_big_quiet_want; refine quiet_load_nmo (w.heap.size + 1) 1 y.t _ rfl rfl Q2.out.vnm Q2.out.lt HY.out.tl ?_; go_simp; go_big_quiet_on)
    go_big_quiet_step (exact later_call (refNumber_is y.t _ _ HY.out.tl (Lib.hid HY.out.tb) (Lib.hid rfl)))
    repeat go_big_quiet_step (fail)
    refine wpQuiet_nil ?_
    intro w5 hw5
    have B5 := Lib.hid (step_ B0.out hw5)
    clear hw5
    go_wp2_with fail
    go_ret
    exact ⟨rfl, B5.out⟩
  · rw [if_neg hn] at h
    subst h
    have e : (x.n == y.n) = false := beq_eq_false_iff_ne.2 hn
    clear hn
    go_enter Try.func29, Try.ntmps29
    go_wp2_with fail
    go_ret
    exact ⟨rfl, B0.out⟩
set_option maxRecDepth 100000 in
theorem amore_is (x y : Vl) (w : World) (hx : x.Ok) (hy : y.Ok) : Calls Try.prog 72 #[.agg x.cells.toArray, .agg y.cells.toArray] w fun e w' => e = .returned (.agg (more x y).cells.toArray) ∧ Below w.heap.size w w' := by
  have hz := zero30
  have Q1 := Lib.hid (((blk_alloc w 38 x.cells).alloc (.cells y.cells.toArray 38)).alloc (.cells vzero.cells.toArray 38))
  have Q2 := Lib.hid ((blk2 w (.cells x.cells.toArray 38) 38 y.cells).alloc (.cells vzero.cells.toArray 38))
  have Q3 := Lib.hid (blk3 w (.cells x.cells.toArray 38) (.cells y.cells.toArray 38) 38 vzero.cells)
  have B0 := Lib.hid (step_ (step_ (new_below w (.cells x.cells.toArray 38)) (new_below _ (.cells y.cells.toArray 38))) (new_below _ (.cells vzero.cells.toArray 38)))
  have HX := Lib.hid hx
  have HY := Lib.hid hy
  clear hx hy
  cases hb : over x y with
  | true =>
    have HB := Lib.hid hb
    have E := Lib.hid (show more x y = x by unfold more; rw [if_pos hb])
    clear hb
    go_enter Try.func72, Try.ntmps72
    go_wp2_with (first
      | refine wpList_load_vl rfl _ rfl w.heap.size 0 x rfl Q1.out.range HX.out.tl ?_
      | refine wpList_load_vl rfl _ rfl (w.heap.size + 1) 0 y rfl Q2.out.range HY.out.tl ?_)
    refine (over_is x y true _ HX.out HY.out HB).mono ?_
    rintro e w1 ⟨rfl, b1⟩
    have P1 := Lib.hid (Q1.out.below b1)
    have P3 := Lib.hid (Q3.out.below b1)
    have B1 := Lib.hid (step_ B0.out b1)
    clear b1
    go_wp2_with (first
      | refine wpList_load_vl rfl _ rfl w.heap.size 0 x rfl P1.out.range HX.out.tl ?_
      | (refine wpList_store_vl rfl _ _ rfl (w.heap.size + 1 + 1) vzero x rfl rfl P3.out rfl HX.out.tl ?_; intro w2 N2 O2))
    refine bodyPost_ret (results_vl rfl _ _ (w.heap.size + 1 + 1) x rfl N2.out HX.out.tl) rfl ?_
    exact ⟨by rw [E.out], B1.out.trans (O2.out.below (by omega) B1.out.size)⟩
  | false =>
    have HB := Lib.hid hb
    have E := Lib.hid (show more x y = y by unfold more; rw [if_neg (by rw [hb]; decide)])
    clear hb
    go_enter Try.func72, Try.ntmps72
    go_wp2_with (first
      | refine wpList_load_vl rfl _ rfl w.heap.size 0 x rfl Q1.out.range HX.out.tl ?_
      | refine wpList_load_vl rfl _ rfl (w.heap.size + 1) 0 y rfl Q2.out.range HY.out.tl ?_)
    refine (over_is x y false _ HX.out HY.out HB).mono ?_
    rintro e w1 ⟨rfl, b1⟩
    have P2 := Lib.hid (Q2.out.below b1)
    have P3 := Lib.hid (Q3.out.below b1)
    have B1 := Lib.hid (step_ B0.out b1)
    clear b1
    go_wp2_with (first
      | refine wpList_load_vl rfl _ rfl (w.heap.size + 1) 0 y rfl P2.out.range HY.out.tl ?_
      | (refine wpList_store_vl rfl _ _ rfl (w.heap.size + 1 + 1) vzero y rfl rfl P3.out rfl HY.out.tl ?_; intro w2 N2 O2))
    refine bodyPost_ret (results_vl rfl _ _ (w.heap.size + 1 + 1) y rfl N2.out HY.out.tl) rfl ?_
    exact ⟨by rw [E.out], B1.out.trans (O2.out.below (by omega) B1.out.size)⟩
set_option maxRecDepth 100000 in
theorem refMore_is (x y : Vl) (w : World) (hx : x.Ok) (hy : y.Ok) : Calls Try.prog 31 #[.agg x.cells.toArray, .agg y.cells.toArray] w fun e w' => e = .returned (.agg (more x y).cells.toArray) ∧ Below w.heap.size w w' := by
  have hz := zero30
  have Q1 := Lib.hid (((blk_alloc w 38 x.cells).alloc (.cells y.cells.toArray 38)).alloc (.cells vzero.cells.toArray 38))
  have Q2 := Lib.hid ((blk2 w (.cells x.cells.toArray 38) 38 y.cells).alloc (.cells vzero.cells.toArray 38))
  have Q3 := Lib.hid (blk3 w (.cells x.cells.toArray 38) (.cells y.cells.toArray 38) 38 vzero.cells)
  have B0 := Lib.hid (step_ (step_ (new_below w (.cells x.cells.toArray 38)) (new_below _ (.cells y.cells.toArray 38))) (new_below _ (.cells vzero.cells.toArray 38)))
  have HX := Lib.hid hx
  have HY := Lib.hid hy
  clear hx hy
  cases hb : over x y with
  | true =>
    have HB := Lib.hid hb
    have E := Lib.hid (show more x y = x by unfold more; rw [if_pos hb])
    clear hb
    go_enter Try.func31, Try.ntmps31
    go_wp2_with (first
      | refine wpList_load_vl rfl _ rfl w.heap.size 0 x rfl Q1.out.range HX.out.tl ?_
      | refine wpList_load_vl rfl _ rfl (w.heap.size + 1) 0 y rfl Q2.out.range HY.out.tl ?_)
    refine (refOver_is x y true _ HX.out HY.out HB).mono ?_
    rintro e w1 ⟨rfl, b1⟩
    have P1 := Lib.hid (Q1.out.below b1)
    have P3 := Lib.hid (Q3.out.below b1)
    have B1 := Lib.hid (step_ B0.out b1)
    clear b1
    go_wp2_with (first
      | refine wpList_load_vl rfl _ rfl w.heap.size 0 x rfl P1.out.range HX.out.tl ?_
      | (refine wpList_store_vl rfl _ _ rfl (w.heap.size + 1 + 1) vzero x rfl rfl P3.out rfl HX.out.tl ?_; intro w2 N2 O2))
    refine bodyPost_ret (results_vl rfl _ _ (w.heap.size + 1 + 1) x rfl N2.out HX.out.tl) rfl ?_
    exact ⟨by rw [E.out], B1.out.trans (O2.out.below (by omega) B1.out.size)⟩
  | false =>
    have HB := Lib.hid hb
    have E := Lib.hid (show more x y = y by unfold more; rw [if_neg (by rw [hb]; decide)])
    clear hb
    go_enter Try.func31, Try.ntmps31
    go_wp2_with (first
      | refine wpList_load_vl rfl _ rfl w.heap.size 0 x rfl Q1.out.range HX.out.tl ?_
      | refine wpList_load_vl rfl _ rfl (w.heap.size + 1) 0 y rfl Q2.out.range HY.out.tl ?_)
    refine (refOver_is x y false _ HX.out HY.out HB).mono ?_
    rintro e w1 ⟨rfl, b1⟩
    have P2 := Lib.hid (Q2.out.below b1)
    have P3 := Lib.hid (Q3.out.below b1)
    have B1 := Lib.hid (step_ B0.out b1)
    clear b1
    go_wp2_with (first
      | refine wpList_load_vl rfl _ rfl (w.heap.size + 1) 0 y rfl P2.out.range HY.out.tl ?_
      | (refine wpList_store_vl rfl _ _ rfl (w.heap.size + 1 + 1) vzero y rfl rfl P3.out rfl HY.out.tl ?_; intro w2 N2 O2))
    refine bodyPost_ret (results_vl rfl _ _ (w.heap.size + 1 + 1) y rfl N2.out HY.out.tl) rfl ?_
    exact ⟨by rw [E.out], B1.out.trans (O2.out.below (by omega) B1.out.size)⟩
end Go.Proofs.Ytgggjhbijnndhaa
