/- The walk of PackBack. -/
import Derived.Test.YtejbplcmicnfaaaLaws
import Derived.Deep.RegionHeld3
import Derived.StillTailTactics
namespace Go.Proofs.Ytejbplcmicnfaaa
open Go.RowKit

theorem get_back (x n : Int) (h0 : 0 ≤ x) (h1 : x < 18446744073709551616) (h : fitsB x n = true) : getOf (putOf x n) = (x, 0) := by
  unfold fitsB at h
  simp only [Bool.and_eq_true, decide_eq_true_eq] at h
  obtain ⟨hw, hlo⟩ := h
  have hn : 1 ≤ n ∧ n ≤ 8 := by unfold widthOk at hw; simpa using hw
  have hp : putOf x n = M.put x n.toNat := by unfold putOf; rw [hw]; rfl
  rw [hp, getOf_ok _ (by rw [M.put_len]; omega) (by rw [M.put_len]; omega), M.get_put x h0]
  have e : (8 * n).toNat = 8 * n.toNat := by omega
  by_cases h8 : n = 8
  · subst h8
    rw [show x % 2 ^ (8 * (8 : Int).toNat) = x from Int.emod_eq_of_lt h0 h1]
  · unfold lo at hlo
    rw [if_neg (by omega), if_neg (by omega), e] at hlo
    rw [hlo]
theorem unv_back (x : Int) (h0 : 0 ≤ x) (h1 : x < 18446744073709551616) (more : List Int) (m : Nat) (hm : (M.var x).length = m) : M.unv (M.var x ++ more) 0 0 = (x, (m : Int), 0) := by
  rw [M.unv_var more x h0 0 0 (by omega) (by omega) (by simpa using h1), hm]
  simp
theorem var_back (l : List Int) (z m : Int) (hb : M.Bytes l) (h : M.unv l 0 0 = (z, m, 0)) : ∃ j : Nat, m = j ∧ 1 ≤ j ∧ j ≤ l.length ∧ M.var z = l.take j := by
  obtain ⟨y, j, hy, hz, hm, hj, hv, _⟩ := M.var_unv l 0 0 z m hb h
  have e : z = y := by rw [hz]; simp
  subst e
  have hp := M.var_pos z hy
  rw [hv, List.length_take] at hp
  exact ⟨j, by omega, by omega, hj, hv⟩
theorem bytes_take {w : World} {g off cap : Nat} {l : List Int} (j : Nat) (hj : j ≤ l.length) (h : BytesAt w (.slice (some ⟨g, off, none⟩) l.length cap) l) : BytesAt w (.slice (some ⟨g, off, none⟩) j cap) (l.take j) := by
  obtain ⟨a, cap', hv, hcap, hb, hc⟩ := h
  injection hv with h1 h2 h3
  subst h1; subst h3
  have hl : (l.take j).length = j := by rw [List.length_take]; omega
  refine ⟨_, _, by rw [hl], ⟨by rw [hl]; omega, fun h => by cases h⟩, hb.take j, fun h0 => ?_⟩
  rw [hl] at h0
  obtain ⟨g', off', ha, hg, hcell⟩ := hc (by omega)
  refine ⟨g', off', ha, hg, fun i hi => ?_⟩
  rw [hl] at hi
  rw [hcell i (by omega), List.getElem_take]
theorem st_skip {P : Program} {ops : Array Oper} {w : World} {Q : Act → Prop} {a : Act} {o : Oper} {rest : List Oper} (hw : Region.wanted o (yielded ops a.tmps) = false) (h : wpStill P ops w Q rest (a.put o.dst undef)) : wpStill P ops w Q (o :: rest) a := by
  unfold wpStill; rw [hw]; exact h
theorem st_val {P : Program} {ops : Array Oper} {w : World} {Q : Act → Prop} {a : Act} {o : Oper} {rest : List Oper} (v : Value) (hw : Region.wanted o (yielded ops a.tmps) = true) (hr : (execOp a.eval o).run P w = .ok (.value v) w) (h : wpStill P ops w Q rest (a.put o.dst v)) : wpStill P ops w Q (o :: rest) a := by
  unfold wpStill; rw [hw]
  show Oper.still P o a w _
  unfold Oper.still
  rw [hr, Oper.stillUpon_value]; exact h
theorem bytes_drew {w : World} {v : Value} {l : List Int} (h : BytesAt w v l) : BytesAt w.drew v l := h
theorem below_drew {B : Nat} {a w : World} (h : Below B a w) : Below B a w.drew := ⟨h.os, h.tape, h.output, h.size, h.block⟩
set_option maxRecDepth 100000 in
set_option maxHeartbeats 2000000 in
theorem packBack_bad (x n : Int) (a : Option Addr) (cap : Nat) (l : List Int) (z m2 f : Int) (w : World) (h0 : 0 ≤ x) (h1 : x < 18446744073709551616) (HV : Hid (BytesAt w (.slice a l.length cap) l)) (HBS : Hid (M.Bytes l)) (hl60 : l.length ≤ 60)
    (HU2 : Hid (M.unv l 0 0 = (z, m2, f))) (hf : f ≠ 0) :
    Calls Try.prog 5 #[.int .u64 x, .int .i64 n, .slice a l.length cap] w fun e w' => e = .returned (.bool true) ∧ Below w.heap.size w w' := by
  obtain ⟨m, hm⟩ : ∃ m, (M.var x).length = m := ⟨_, rfl⟩
  have hm10 : m ≤ 10 := by rw [← hm]; exact M.var_ten x h0 h1
  have HM := Lib.hid hm
  have HU := Lib.hid (unv_back x h0 h1 l m hm)
  have HVB := Lib.hid (M.var_bytes x h0)
  have HB0 := Lib.hid (Below.refl w.heap.size w)
  clear hm
  have ef : (f != 0) = true := by simpa using hf
  cases hfit : fitsB x n
  · have HF := Lib.hid hfit
    clear hfit
    go_enter Try.func5, Try.ntmps5
    go_wp2_with fail
    refine (fits_is x n false _ h0 h1 HF).mono ?_
    rintro e w1 ⟨rfl, rfl⟩
    go_wp2_with fail
    refine (var_is x _ h0 h1).mono ?_
    rintro e w3 ⟨v3, rfl, hv3, hb3⟩
    have HO3 := Lib.hid (owns_below (World.ownsRow_lit (base := w.heap.size) (e := 5) (size := 1) w #[] 0 (Nat.le_refl _) (by decide) rfl) hb3)
    have V3 := Lib.hid hv3
    have C3 := Lib.hid (((Below.refl w.heap.size w).alloc (Nat.le_refl _) (.cells #[] 5)).trans (hb3.mono (by simp)))
    clear hv3 hb3
    go_wp2_with (first
      | (at_builtin; refine app_bytes w3 rfl (.tmp 37) (.tmp 39) rfl w.heap.size _ _ [] (M.var x) rfl HO3.out rfl V3.out (by have := HM.out; simp; omega) C3.out.size ?_; intro v4 w4 hown4 hbel4; have HO4 := Lib.hid hown4; have C4 := Lib.hid (C3.out.trans hbel4); clear hown4 hbel4)
      | (at_builtin; refine app_bytes w4 rfl (.tmp 40) (.tmp 41) rfl w.heap.size _ _ (M.var x) l rfl HO4.out rfl (HV.out.below C4.out) (by have := HM.out; omega) C4.out.size ?_; intro v5 w5 hown5 hbel5; have HO5 := Lib.hid hown5; have C5 := Lib.hid (C4.out.trans hbel5); clear hown5 hbel5))
    refine (unvar_is _ (M.var x ++ l) x m 0 _ (bytes_of_owns HO5.out (HVB.out.app HBS.out)) (by have := HM.out; simp; omega) HU).mono ?_
    rintro e w6 ⟨rfl, rfl⟩
    have V5 := Lib.hid (HV.out.below C5.out)
    have B5 := Lib.hid (step_ HB0.out C5.out)
    clear HO3 HO4 HO5 C3 C4 C5 V3
    go_wp2_with fail
    refine (size_is x m _ h0 h1 HM hm10).mono ?_
    rintro e w6 ⟨rfl, rfl⟩
    go_wp2_with fail
    refine (unvar_is _ l z m2 f _ V5.out (by omega) HU2).mono ?_
    rintro e w6 ⟨rfl, rfl⟩
    go_wp2_with fail
    refine wp_region_still_tail 11 (by kernel_rfl) (by kernel_rfl) ?_
    simp only [List.take_succ_cons, List.take_zero, List.drop_succ_cons, List.drop_zero]
    with_reducible refine st_val (.int .i64 f) ?va1 ?vb1 ?_
    case va1 => kernel_rfl
    case vb1 => kernel_rfl
    with_reducible refine st_val (.bool true) ?va2 ?vb2 ?_
    case va2 => kernel_rfl
    case vb2 => rw [← ef]; kernel_rfl
    with_reducible refine st_val (.bool true) ?va3 ?vb3 ?_
    case va3 => kernel_rfl
    case vb3 => kernel_rfl
    with_reducible refine st_skip ?hw0 ?_
    case hw0 => kernel_rfl
    with_reducible refine st_skip ?hw1 ?_
    case hw1 => kernel_rfl
    with_reducible refine st_skip ?hw2 ?_
    case hw2 => kernel_rfl
    with_reducible refine st_skip ?hw3 ?_
    case hw3 => kernel_rfl
    with_reducible refine st_skip ?hw4 ?_
    case hw4 => kernel_rfl
    with_reducible refine st_skip ?hw5 ?_
    case hw5 => kernel_rfl
    with_reducible refine st_val (.bool true) ?va4 ?vb4 ?_
    case va4 => kernel_rfl
    case vb4 => kernel_rfl
    with_reducible refine st_val (.bool true) ?va5 ?vb5 ?_
    case va5 => kernel_rfl
    case vb5 => kernel_rfl
    with_reducible refine wpStill_nil ?_
    change wpList _ _ _ _ _ w5.drew
    go_wp2_with fail
    refine (alive_is _).mono ?_
    rintro e w7 ⟨rfl, hb7⟩
    have B7 := Lib.hid (step_ (below_drew B5.out) hb7)
    clear hb7
    go_wp2_with fail
    go_ret
    exact ⟨rfl, B7.out⟩
  · have HF := Lib.hid hfit
    have HG := Lib.hid (get_back x n h0 h1 hfit)
    clear hfit
    go_enter Try.func5, Try.ntmps5
    go_wp2_with fail
    refine (fits_is x n true _ h0 h1 HF).mono ?_
    rintro e w1 ⟨rfl, rfl⟩
    go_wp2_with fail
    refine (put_is x n _).mono ?_
    rintro e w2 ⟨v2, rfl, hv2, hb2⟩
    have V2 := Lib.hid hv2
    have B2 := Lib.hid hb2
    have HV2 := Lib.hid (HV.out.below hb2)
    clear hv2 hb2
    go_wp2_with fail
    refine (get_is _ (putOf x n) x 0 _ V2.out (by have := putOf_len x n; omega) HG).mono ?_
    rintro e w1 ⟨rfl, rfl⟩
    go_wp2_with fail
    refine (var_is x _ h0 h1).mono ?_
    rintro e w3 ⟨v3, rfl, hv3, hb3⟩
    have HO3 := Lib.hid (owns_below (World.ownsRow_lit (base := w2.heap.size) (e := 5) (size := 1) w2 #[] 0 (Nat.le_refl _) (by decide) rfl) hb3)
    have V3 := Lib.hid hv3
    have C3 := Lib.hid (((Below.refl w2.heap.size w2).alloc (Nat.le_refl _) (.cells #[] 5)).trans (hb3.mono (by simp)))
    clear hv3 hb3
    go_wp2_with (first
      | (at_builtin; refine app_bytes w3 rfl (.tmp 37) (.tmp 39) rfl w2.heap.size _ _ [] (M.var x) rfl HO3.out rfl V3.out (by have := HM.out; simp; omega) C3.out.size ?_; intro v4 w4 hown4 hbel4; have HO4 := Lib.hid hown4; have C4 := Lib.hid (C3.out.trans hbel4); clear hown4 hbel4)
      | (at_builtin; refine app_bytes w4 rfl (.tmp 40) (.tmp 41) rfl w2.heap.size _ _ (M.var x) l rfl HO4.out rfl (HV2.out.below C4.out) (by have := HM.out; omega) C4.out.size ?_; intro v5 w5 hown5 hbel5; have HO5 := Lib.hid hown5; have C5 := Lib.hid (C4.out.trans hbel5); clear hown5 hbel5))
    refine (unvar_is _ (M.var x ++ l) x m 0 _ (bytes_of_owns HO5.out (HVB.out.app HBS.out)) (by have := HM.out; simp; omega) HU).mono ?_
    rintro e w6 ⟨rfl, rfl⟩
    have V5 := Lib.hid (HV2.out.below C5.out)
    have B5 := Lib.hid (step_ B2.out C5.out)
    clear HO3 HO4 HO5 C3 C4 C5 V3
    go_wp2_with fail
    refine (size_is x m _ h0 h1 HM hm10).mono ?_
    rintro e w6 ⟨rfl, rfl⟩
    go_wp2_with fail
    refine (unvar_is _ l z m2 f _ V5.out (by omega) HU2).mono ?_
    rintro e w6 ⟨rfl, rfl⟩
    go_wp2_with fail
    refine wp_region_still_tail 11 (by kernel_rfl) (by kernel_rfl) ?_
    simp only [List.take_succ_cons, List.take_zero, List.drop_succ_cons, List.drop_zero]
    with_reducible refine st_val (.int .i64 f) ?va1 ?vb1 ?_
    case va1 => kernel_rfl
    case vb1 => kernel_rfl
    with_reducible refine st_val (.bool true) ?va2 ?vb2 ?_
    case va2 => kernel_rfl
    case vb2 => rw [← ef]; kernel_rfl
    with_reducible refine st_val (.bool true) ?va3 ?vb3 ?_
    case va3 => kernel_rfl
    case vb3 => kernel_rfl
    with_reducible refine st_skip ?hw0 ?_
    case hw0 => kernel_rfl
    with_reducible refine st_skip ?hw1 ?_
    case hw1 => kernel_rfl
    with_reducible refine st_skip ?hw2 ?_
    case hw2 => kernel_rfl
    with_reducible refine st_skip ?hw3 ?_
    case hw3 => kernel_rfl
    with_reducible refine st_skip ?hw4 ?_
    case hw4 => kernel_rfl
    with_reducible refine st_skip ?hw5 ?_
    case hw5 => kernel_rfl
    with_reducible refine st_val (.bool true) ?va4 ?vb4 ?_
    case va4 => kernel_rfl
    case vb4 => kernel_rfl
    with_reducible refine st_val (.bool true) ?va5 ?vb5 ?_
    case va5 => kernel_rfl
    case vb5 => kernel_rfl
    with_reducible refine wpStill_nil ?_
    change wpList _ _ _ _ _ w5.drew
    go_wp2_with fail
    refine (alive_is _).mono ?_
    rintro e w7 ⟨rfl, hb7⟩
    have B7 := Lib.hid (step_ (below_drew B5.out) hb7)
    clear hb7
    go_wp2_with fail
    go_ret
    exact ⟨rfl, B7.out⟩
set_option maxRecDepth 100000 in
set_option maxHeartbeats 2000000 in
theorem packBack_good (x n : Int) (g off cap : Nat) (l : List Int) (z : Int) (j : Nat) (w : World) (h0 : 0 ≤ x) (h1 : x < 18446744073709551616) (HV : Hid (BytesAt w (.slice (some ⟨g, off, none⟩) l.length cap) l)) (HBS : Hid (M.Bytes l)) (hl60 : l.length ≤ 60)
    (HU2 : Hid (M.unv l 0 0 = (z, (j : Int), 0))) (hz0 : 0 ≤ z) (hz1 : z < 18446744073709551616) (hj : j ≤ l.length) (hja : (0 : Int) ≤ (j : Int)) (hjb : (j : Int) ≤ (cap : Int)) (HZ : Hid (M.var z = l.take j)) :
    Calls Try.prog 5 #[.int .u64 x, .int .i64 n, .slice (some ⟨g, off, none⟩) l.length cap] w fun e w' => e = .returned (.bool true) ∧ Below w.heap.size w w' := by
  obtain ⟨m, hm⟩ : ∃ m, (M.var x).length = m := ⟨_, rfl⟩
  have hm10 : m ≤ 10 := by rw [← hm]; exact M.var_ten x h0 h1
  have HM := Lib.hid hm
  have HU := Lib.hid (unv_back x h0 h1 l m hm)
  have HVB := Lib.hid (M.var_bytes x h0)
  have HB0 := Lib.hid (Below.refl w.heap.size w)
  clear hm
  cases hfit : fitsB x n
  · have HF := Lib.hid hfit
    clear hfit
    go_enter Try.func5, Try.ntmps5
    go_wp2_with fail
    refine (fits_is x n false _ h0 h1 HF).mono ?_
    rintro e w1 ⟨rfl, rfl⟩
    go_wp2_with fail
    refine (var_is x _ h0 h1).mono ?_
    rintro e w3 ⟨v3, rfl, hv3, hb3⟩
    have HO3 := Lib.hid (owns_below (World.ownsRow_lit (base := w.heap.size) (e := 5) (size := 1) w #[] 0 (Nat.le_refl _) (by decide) rfl) hb3)
    have V3 := Lib.hid hv3
    have C3 := Lib.hid (((Below.refl w.heap.size w).alloc (Nat.le_refl _) (.cells #[] 5)).trans (hb3.mono (by simp)))
    clear hv3 hb3
    go_wp2_with (first
      | (at_builtin; refine app_bytes w3 rfl (.tmp 37) (.tmp 39) rfl w.heap.size _ _ [] (M.var x) rfl HO3.out rfl V3.out (by have := HM.out; simp; omega) C3.out.size ?_; intro v4 w4 hown4 hbel4; have HO4 := Lib.hid hown4; have C4 := Lib.hid (C3.out.trans hbel4); clear hown4 hbel4)
      | (at_builtin; refine app_bytes w4 rfl (.tmp 40) (.tmp 41) rfl w.heap.size _ _ (M.var x) l rfl HO4.out rfl (HV.out.below C4.out) (by have := HM.out; omega) C4.out.size ?_; intro v5 w5 hown5 hbel5; have HO5 := Lib.hid hown5; have C5 := Lib.hid (C4.out.trans hbel5); clear hown5 hbel5))
    refine (unvar_is _ (M.var x ++ l) x m 0 _ (bytes_of_owns HO5.out (HVB.out.app HBS.out)) (by have := HM.out; simp; omega) HU).mono ?_
    rintro e w6 ⟨rfl, rfl⟩
    have V5 := Lib.hid (HV.out.below C5.out)
    have B5 := Lib.hid (step_ HB0.out C5.out)
    clear HO3 HO4 HO5 C3 C4 C5 V3
    go_wp2_with fail
    refine (size_is x m _ h0 h1 HM hm10).mono ?_
    rintro e w6 ⟨rfl, rfl⟩
    go_wp2_with fail
    refine (unvar_is _ l z j 0 _ V5.out (by omega) HU2).mono ?_
    rintro e w6 ⟨rfl, rfl⟩
    go_wp2_with fail
    go_region_held3 (fun _ => True) (trivial) (first
      | (go_at_call 16; refine (var_is z _ hz0 hz1).mono ?_; rintro e w7 ⟨v7, rfl, hv7, hb7⟩; rw [HZ.out] at hv7; have V7 := Lib.hid hv7; have V8 := Lib.hid (bytes_take j hj (BytesAt.below (bytes_drew V5.out) hb7)); have B7 := Lib.hid (step_ (below_drew B5.out) hb7); clear hv7 hb7)
      | (go_at_call 9; refine (same_any _ _ (l.take j) _ (by rw [List.length_take]; omega) V7.out V8.out).mono ?_; rintro e w8 ⟨rfl, hb8⟩; have B8 := Lib.hid (step_ B7.out hb8); clear hb8)
      | (go_at_call 6; refine (alive_is _).mono ?_; rintro e w9 ⟨rfl, hb9⟩; have B9 := Lib.hid (step_ B8.out hb9); clear hb9))
    all_goals
      go_wp2_with fail
      go_ret
      exact ⟨rfl, B9.out⟩
  · have HF := Lib.hid hfit
    have HG := Lib.hid (get_back x n h0 h1 hfit)
    clear hfit
    go_enter Try.func5, Try.ntmps5
    go_wp2_with fail
    refine (fits_is x n true _ h0 h1 HF).mono ?_
    rintro e w1 ⟨rfl, rfl⟩
    go_wp2_with fail
    refine (put_is x n _).mono ?_
    rintro e w2 ⟨v2, rfl, hv2, hb2⟩
    have V2 := Lib.hid hv2
    have B2 := Lib.hid hb2
    have HV2 := Lib.hid (HV.out.below hb2)
    clear hv2 hb2
    go_wp2_with fail
    refine (get_is _ (putOf x n) x 0 _ V2.out (by have := putOf_len x n; omega) HG).mono ?_
    rintro e w1 ⟨rfl, rfl⟩
    go_wp2_with fail
    refine (var_is x _ h0 h1).mono ?_
    rintro e w3 ⟨v3, rfl, hv3, hb3⟩
    have HO3 := Lib.hid (owns_below (World.ownsRow_lit (base := w2.heap.size) (e := 5) (size := 1) w2 #[] 0 (Nat.le_refl _) (by decide) rfl) hb3)
    have V3 := Lib.hid hv3
    have C3 := Lib.hid (((Below.refl w2.heap.size w2).alloc (Nat.le_refl _) (.cells #[] 5)).trans (hb3.mono (by simp)))
    clear hv3 hb3
    go_wp2_with (first
      | (at_builtin; refine app_bytes w3 rfl (.tmp 37) (.tmp 39) rfl w2.heap.size _ _ [] (M.var x) rfl HO3.out rfl V3.out (by have := HM.out; simp; omega) C3.out.size ?_; intro v4 w4 hown4 hbel4; have HO4 := Lib.hid hown4; have C4 := Lib.hid (C3.out.trans hbel4); clear hown4 hbel4)
      | (at_builtin; refine app_bytes w4 rfl (.tmp 40) (.tmp 41) rfl w2.heap.size _ _ (M.var x) l rfl HO4.out rfl (HV2.out.below C4.out) (by have := HM.out; omega) C4.out.size ?_; intro v5 w5 hown5 hbel5; have HO5 := Lib.hid hown5; have C5 := Lib.hid (C4.out.trans hbel5); clear hown5 hbel5))
    refine (unvar_is _ (M.var x ++ l) x m 0 _ (bytes_of_owns HO5.out (HVB.out.app HBS.out)) (by have := HM.out; simp; omega) HU).mono ?_
    rintro e w6 ⟨rfl, rfl⟩
    have V5 := Lib.hid (HV2.out.below C5.out)
    have B5 := Lib.hid (step_ B2.out C5.out)
    clear HO3 HO4 HO5 C3 C4 C5 V3
    go_wp2_with fail
    refine (size_is x m _ h0 h1 HM hm10).mono ?_
    rintro e w6 ⟨rfl, rfl⟩
    go_wp2_with fail
    refine (unvar_is _ l z j 0 _ V5.out (by omega) HU2).mono ?_
    rintro e w6 ⟨rfl, rfl⟩
    go_wp2_with fail
    go_region_held3 (fun _ => True) (trivial) (first
      | (go_at_call 16; refine (var_is z _ hz0 hz1).mono ?_; rintro e w7 ⟨v7, rfl, hv7, hb7⟩; rw [HZ.out] at hv7; have V7 := Lib.hid hv7; have V8 := Lib.hid (bytes_take j hj (BytesAt.below (bytes_drew V5.out) hb7)); have B7 := Lib.hid (step_ (below_drew B5.out) hb7); clear hv7 hb7)
      | (go_at_call 9; refine (same_any _ _ (l.take j) _ (by rw [List.length_take]; omega) V7.out V8.out).mono ?_; rintro e w8 ⟨rfl, hb8⟩; have B8 := Lib.hid (step_ B7.out hb8); clear hb8)
      | (go_at_call 6; refine (alive_is _).mono ?_; rintro e w9 ⟨rfl, hb9⟩; have B9 := Lib.hid (step_ B8.out hb9); clear hb9))
    all_goals
      go_wp2_with fail
      go_ret
      exact ⟨rfl, B9.out⟩
theorem packBack_any (x n : Int) (v : Value) (l : List Int) (w : World) (h0 : 0 ≤ x) (h1 : x < 18446744073709551616) (hv : BytesAt w v l) :
    Calls Try.prog 5 #[.int .u64 x, .int .i64 n, v] w fun e w' => e = .returned (.bool true) ∧ Below w.heap.size w w' := by
  have HV := Lib.hid hv
  obtain ⟨a, cap, rfl, hcap, hbs, hcell⟩ := hv
  by_cases hl : 60 < l.length
  · clear HV hcap hcell hbs
    go_enter Try.func5, Try.ntmps5
    go_wp2_with fail
    refine (alive_is _).mono ?_
    rintro e w' ⟨rfl, hb⟩
    have HB := Lib.hid hb
    clear hb
    go_wp2_with fail
    go_ret
    exact ⟨rfl, HB.out⟩
  · obtain ⟨z, m2, f, hu⟩ : ∃ z m2 f, M.unv l 0 0 = (z, m2, f) := ⟨_, _, _, rfl⟩
    by_cases hf : f = 0
    · subst hf
      obtain ⟨j, rfl, hj1, hj, hz⟩ := var_back l z m2 hbs hu
      obtain ⟨g, off, rfl, _, _⟩ := hcell (by omega)
      have hr := M.unv_range l 0 0 hbs (by omega) (by omega) (by simp)
      rw [hu] at hr
      exact packBack_good x n g off cap l z j w h0 h1 HV (Lib.hid hbs) (by omega) (Lib.hid hu) hr.1 hr.2 hj (by omega) (by have := hcap.1; omega) (Lib.hid hz)
    · exact packBack_bad x n a cap l z m2 f w h0 h1 HV (Lib.hid hbs) (by omega) (Lib.hid hu) hf
end Go.Proofs.Ytejbplcmicnfaaa
