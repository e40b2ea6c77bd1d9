/- The contracts of Right of package key and of the reference. -/
import Derived.Test.YtgggjhbijnndhaaSmallK
namespace Go.Proofs.Ytgggjhbijnndhaa
open Go.RowKit

theorem right1 {k : Ky} (h : k.s = 1) : k.right = (M.rightB k.m && decide (k.r < 16) && decide (0 < k.q)) := by unfold Ky.right; rw [if_pos h]
theorem right2 {k : Ky} (h : k.s = 2 ∨ k.s = 3) : k.right = (M.rightB k.m && decide (k.r < 16) && decide (k.q = 0)) := by unfold Ky.right; rw [if_neg (by omega), if_pos h]
theorem right4 {k : Ky} (h : k.s = 4) : k.right = decide (k = ⟨4, k.c, M.zero8, 0, 0⟩) := by unfold Ky.right; rw [if_neg (by omega), if_neg (by omega), if_pos h]
theorem right5 {k : Ky} (h1 : ¬ k.s = 1) (h2 : ¬ k.s = 2) (h3 : ¬ k.s = 3) (h4 : ¬ k.s = 4) : k.right = false := by unfold Ky.right; rw [if_neg h1, if_neg (by omega), if_neg h4]
theorem kr1 (k : Ky) (b : Bool) (w : World) (hk : k.Ok) (hs : k.s = 1) (hb : Hid ((M.rightB k.m && decide (k.r < 16) && decide (0 < k.q)) = b)) : Calls Try.prog 66 #[.agg k.cells.toArray] w fun e w' => e = .returned (.bool b) ∧ Below w.heap.size w w' := by
  have q := blk_alloc w 55 k.cells
  have c0 := q.cell (kc0 k)
  have HQ := Lib.hid q
  have B0 := Lib.hid (new_below w (.cells k.cells.toArray 55))
  have HK := Lib.hid hk
  have h := hb.out
  clear hb
  obtain ⟨p, hp⟩ : ∃ p, (M.rightB k.m && decide (k.r < 16)) = p := ⟨_, rfl⟩
  have HP := Lib.hid hp
  rw [hp] at h
  clear q hk hp
  go_enter Try.func66, Try.ntmps66
  go_wp2_with (refine wpList_load_ky rfl _ rfl w.heap.size 0 k rfl HQ.out.range HK.out.ml ?_)
  refine (hasOwner_is k p _ HK.out HP).mono ?_
  rintro e w1 ⟨rfl, c1⟩
  have d4 := (HQ.out.below c1).cell (kc11 HK.out.ml)
  have B1 := Lib.hid (step_ B0.out c1)
  clear c1
  cases p with
  | false =>
    rw [Bool.false_and] at h
    subst h
    go_wp2_with fail
    go_ret
    exact ⟨rfl, B1.out⟩
  | true =>
    rw [Bool.true_and] at h
    subst h
    go_wp2_with fail
    go_ret
    exact ⟨rfl, B1.out⟩
theorem kr2 (k : Ky) (b : Bool) (w : World) (hk : k.Ok) (hs : k.s = 2) (hb : Hid ((M.rightB k.m && decide (k.r < 16) && decide (k.q = 0)) = b)) : Calls Try.prog 66 #[.agg k.cells.toArray] w fun e w' => e = .returned (.bool b) ∧ Below w.heap.size w w' := by
  have q := blk_alloc w 55 k.cells
  have c0 := q.cell (kc0 k)
  have HQ := Lib.hid q
  have B0 := Lib.hid (new_below w (.cells k.cells.toArray 55))
  have HK := Lib.hid hk
  have h := hb.out
  clear hb
  obtain ⟨p, hp⟩ : ∃ p, (M.rightB k.m && decide (k.r < 16)) = p := ⟨_, rfl⟩
  have HP := Lib.hid hp
  rw [hp] at h
  clear q hk hp
  go_enter Try.func66, Try.ntmps66
  go_wp2_with (refine wpList_load_ky rfl _ rfl w.heap.size 0 k rfl HQ.out.range HK.out.ml ?_)
  refine (hasOwner_is k p _ HK.out HP).mono ?_
  rintro e w1 ⟨rfl, c1⟩
  have d4 := (HQ.out.below c1).cell (kc11 HK.out.ml)
  have B1 := Lib.hid (step_ B0.out c1)
  clear c1
  cases p with
  | false =>
    rw [Bool.false_and] at h
    subst h
    go_wp2_with fail
    go_ret
    exact ⟨rfl, B1.out⟩
  | true =>
    rw [Bool.true_and] at h
    subst h
    go_wp2_with fail
    go_ret
    exact ⟨rfl, B1.out⟩
theorem kr3 (k : Ky) (b : Bool) (w : World) (hk : k.Ok) (hs : k.s = 3) (hb : Hid ((M.rightB k.m && decide (k.r < 16) && decide (k.q = 0)) = b)) : Calls Try.prog 66 #[.agg k.cells.toArray] w fun e w' => e = .returned (.bool b) ∧ Below w.heap.size w w' := by
  have q := blk_alloc w 55 k.cells
  have c0 := q.cell (kc0 k)
  have HQ := Lib.hid q
  have B0 := Lib.hid (new_below w (.cells k.cells.toArray 55))
  have HK := Lib.hid hk
  have h := hb.out
  clear hb
  obtain ⟨p, hp⟩ : ∃ p, (M.rightB k.m && decide (k.r < 16)) = p := ⟨_, rfl⟩
  have HP := Lib.hid hp
  rw [hp] at h
  clear q hk hp
  go_enter Try.func66, Try.ntmps66
  go_wp2_with (refine wpList_load_ky rfl _ rfl w.heap.size 0 k rfl HQ.out.range HK.out.ml ?_)
  refine (hasOwner_is k p _ HK.out HP).mono ?_
  rintro e w1 ⟨rfl, c1⟩
  have d4 := (HQ.out.below c1).cell (kc11 HK.out.ml)
  have B1 := Lib.hid (step_ B0.out c1)
  clear c1
  cases p with
  | false =>
    rw [Bool.false_and] at h
    subst h
    go_wp2_with fail
    go_ret
    exact ⟨rfl, B1.out⟩
  | true =>
    rw [Bool.true_and] at h
    subst h
    go_wp2_with fail
    go_ret
    exact ⟨rfl, B1.out⟩
theorem kr4 (k : Ky) (b : Bool) (w : World) (hk : k.Ok) (hs : k.s = 4) (hb : Hid (decide (k = ⟨4, k.c, M.zero8, 0, 0⟩) = b)) : Calls Try.prog 66 #[.agg k.cells.toArray] w fun e w' => e = .returned (.bool b) ∧ Below w.heap.size w w' := by
  have q := blk_alloc w 55 k.cells
  have c0 := q.cell (kc0 k)
  have HQ := Lib.hid q
  have B0 := Lib.hid (new_below w (.cells k.cells.toArray 55))
  have HK := Lib.hid hk
  have h := hb.out
  clear hb
  have c1 := q.cell (kc1 k)
  clear q hk
  go_enter Try.func66, Try.ntmps66
  go_wp2_with (first
    | refine wpList_load_ky rfl _ rfl w.heap.size 0 k rfl HQ.out.range HK.out.ml ?_
    | refine wpList_build rfl 55 _ rfl [(0, .int .u8 4), (1, .int .u16 k.c)] rfl _ (built27_2 4 k.c) ?_
    | refine wpList_val rfl _ (exec_eq_ky _ _ _ rfl k ⟨4, k.c, M.zero8, 0, 0⟩ rfl rfl HK.out.ml rfl) ?_)
  go_ret
  exact ⟨by rw [← h]; rfl, B0.out⟩
theorem kr5 (k : Ky) (b : Bool) (w : World) (hk : k.Ok) (h1 : ¬ k.s = 1) (h2 : ¬ k.s = 2) (h3 : ¬ k.s = 3) (h4 : ¬ k.s = 4) (hb : Hid (false = b)) : Calls Try.prog 66 #[.agg k.cells.toArray] w fun e w' => e = .returned (.bool b) ∧ Below w.heap.size w w' := by
  have q := blk_alloc w 55 k.cells
  have c0 := q.cell (kc0 k)
  have HQ := Lib.hid q
  have B0 := Lib.hid (new_below w (.cells k.cells.toArray 55))
  have HK := Lib.hid hk
  have h := hb.out
  clear hb
  clear q hk
  subst h
  go_enter Try.func66, Try.ntmps66
  go_wp2_with fail
  go_ret
  exact ⟨rfl, B0.out⟩
theorem kright_is (k : Ky) (b : Bool) (w : World) (hk : k.Ok) (hb : Hid (k.right = b)) : Calls Try.prog 66 #[.agg k.cells.toArray] w fun e w' => e = .returned (.bool b) ∧ Below w.heap.size w w' := by
  have h := hb.out
  by_cases h1 : k.s = 1
  · rw [right1 h1] at h; exact kr1 k b w hk h1 (Lib.hid h)
  · by_cases h2 : k.s = 2
    · rw [right2 (.inl h2)] at h; exact kr2 k b w hk h2 (Lib.hid h)
    · by_cases h3 : k.s = 3
      · rw [right2 (.inr h3)] at h; exact kr3 k b w hk h3 (Lib.hid h)
      · by_cases h4 : k.s = 4
        · rw [right4 h4] at h; exact kr4 k b w hk h4 (Lib.hid h)
        · rw [right5 h1 h2 h3 h4] at h; exact kr5 k b w hk h1 h2 h3 h4 (Lib.hid h)
theorem rr1 (k : Ky) (b : Bool) (w : World) (hk : k.Ok) (hs : k.s = 1) (hb : Hid ((M.rightB k.m && decide (k.r < 16) && decide (0 < k.q)) = b)) : Calls Try.prog 50 #[.agg k.cells.toArray] w fun e w' => e = .returned (.bool b) ∧ Below w.heap.size w w' := by
  have q := blk_alloc w 55 k.cells
  have c0 := q.cell (kc0 k)
  have HQ := Lib.hid q
  have B0 := Lib.hid (new_below w (.cells k.cells.toArray 55))
  have HK := Lib.hid hk
  have h := hb.out
  clear hb
  have HN := Lib.hid (q.knm hk.ml)
  obtain ⟨p, hp⟩ : ∃ p, M.rightB k.m = p := ⟨_, rfl⟩
  have HP := Lib.hid hp
  rw [hp] at h
  clear q hk hp
  go_enter Try.func50, Try.ntmps50
  go_wp2_with (refine wpList_load_nm rfl _ rfl w.heap.size 2 k.m rfl HN.out HK.out.ml ?_)
  refine (refRight_is k.m p _ HK.out.ml (Lib.hid HK.out.mb) HP).mono ?_
  rintro e w1 ⟨rfl, c1⟩
  have d3 := (HQ.out.below c1).cell (kc10 HK.out.ml)
  have d4 := (HQ.out.below c1).cell (kc11 HK.out.ml)
  have B1 := Lib.hid (step_ B0.out c1)
  clear c1
  cases p with
  | false =>
    rw [Bool.false_and, Bool.false_and] at h
    subst h
    go_wp2_with fail
    go_ret
    exact ⟨rfl, B1.out⟩
  | true =>
    rw [Bool.true_and] at h
    by_cases hr : k.r < 16
    · rw [decide_eq_true hr, Bool.true_and] at h
      subst h
      go_wp2_with fail
      go_ret
      exact ⟨rfl, B1.out⟩
    · rw [decide_eq_false hr, Bool.false_and] at h
      subst h
      go_wp2_with fail
      go_ret
      exact ⟨rfl, B1.out⟩
theorem rr2 (k : Ky) (b : Bool) (w : World) (hk : k.Ok) (hs : k.s = 2) (hb : Hid ((M.rightB k.m && decide (k.r < 16) && decide (k.q = 0)) = b)) : Calls Try.prog 50 #[.agg k.cells.toArray] w fun e w' => e = .returned (.bool b) ∧ Below w.heap.size w w' := by
  have q := blk_alloc w 55 k.cells
  have c0 := q.cell (kc0 k)
  have HQ := Lib.hid q
  have B0 := Lib.hid (new_below w (.cells k.cells.toArray 55))
  have HK := Lib.hid hk
  have h := hb.out
  clear hb
  have HN := Lib.hid (q.knm hk.ml)
  obtain ⟨p, hp⟩ : ∃ p, M.rightB k.m = p := ⟨_, rfl⟩
  have HP := Lib.hid hp
  rw [hp] at h
  clear q hk hp
  go_enter Try.func50, Try.ntmps50
  go_wp2_with (refine wpList_load_nm rfl _ rfl w.heap.size 2 k.m rfl HN.out HK.out.ml ?_)
  refine (refRight_is k.m p _ HK.out.ml (Lib.hid HK.out.mb) HP).mono ?_
  rintro e w1 ⟨rfl, c1⟩
  have d3 := (HQ.out.below c1).cell (kc10 HK.out.ml)
  have d4 := (HQ.out.below c1).cell (kc11 HK.out.ml)
  have B1 := Lib.hid (step_ B0.out c1)
  clear c1
  cases p with
  | false =>
    rw [Bool.false_and, Bool.false_and] at h
    subst h
    go_wp2_with fail
    go_ret
    exact ⟨rfl, B1.out⟩
  | true =>
    rw [Bool.true_and] at h
    by_cases hr : k.r < 16
    · rw [decide_eq_true hr, Bool.true_and] at h
      subst h
      go_wp2_with fail
      go_ret
      exact ⟨rfl, B1.out⟩
    · rw [decide_eq_false hr, Bool.false_and] at h
      subst h
      go_wp2_with fail
      go_ret
      exact ⟨rfl, B1.out⟩
theorem rr3 (k : Ky) (b : Bool) (w : World) (hk : k.Ok) (hs : k.s = 3) (hb : Hid ((M.rightB k.m && decide (k.r < 16) && decide (k.q = 0)) = b)) : Calls Try.prog 50 #[.agg k.cells.toArray] w fun e w' => e = .returned (.bool b) ∧ Below w.heap.size w w' := by
  have q := blk_alloc w 55 k.cells
  have c0 := q.cell (kc0 k)
  have HQ := Lib.hid q
  have B0 := Lib.hid (new_below w (.cells k.cells.toArray 55))
  have HK := Lib.hid hk
  have h := hb.out
  clear hb
  have HN := Lib.hid (q.knm hk.ml)
  obtain ⟨p, hp⟩ : ∃ p, M.rightB k.m = p := ⟨_, rfl⟩
  have HP := Lib.hid hp
  rw [hp] at h
  clear q hk hp
  go_enter Try.func50, Try.ntmps50
  go_wp2_with (refine wpList_load_nm rfl _ rfl w.heap.size 2 k.m rfl HN.out HK.out.ml ?_)
  refine (refRight_is k.m p _ HK.out.ml (Lib.hid HK.out.mb) HP).mono ?_
  rintro e w1 ⟨rfl, c1⟩
  have d3 := (HQ.out.below c1).cell (kc10 HK.out.ml)
  have d4 := (HQ.out.below c1).cell (kc11 HK.out.ml)
  have B1 := Lib.hid (step_ B0.out c1)
  clear c1
  cases p with
  | false =>
    rw [Bool.false_and, Bool.false_and] at h
    subst h
    go_wp2_with fail
    go_ret
    exact ⟨rfl, B1.out⟩
  | true =>
    rw [Bool.true_and] at h
    by_cases hr : k.r < 16
    · rw [decide_eq_true hr, Bool.true_and] at h
      subst h
      go_wp2_with fail
      go_ret
      exact ⟨rfl, B1.out⟩
    · rw [decide_eq_false hr, Bool.false_and] at h
      subst h
      go_wp2_with fail
      go_ret
      exact ⟨rfl, B1.out⟩
theorem rr4 (k : Ky) (b : Bool) (w : World) (hk : k.Ok) (hs : k.s = 4) (hb : Hid (decide (k = ⟨4, k.c, M.zero8, 0, 0⟩) = b)) : Calls Try.prog 50 #[.agg k.cells.toArray] w fun e w' => e = .returned (.bool b) ∧ Below w.heap.size w w' := by
  have q := blk_alloc w 55 k.cells
  have c0 := q.cell (kc0 k)
  have HQ := Lib.hid q
  have B0 := Lib.hid (new_below w (.cells k.cells.toArray 55))
  have HK := Lib.hid hk
  have h := hb.out
  clear hb
  have c1 := q.cell (kc1 k)
  clear q hk
  go_enter Try.func50, Try.ntmps50
  go_wp2_with (first
    | refine wpList_load_ky rfl _ rfl w.heap.size 0 k rfl HQ.out.range HK.out.ml ?_
    | refine wpList_build rfl 55 _ rfl [(0, .int .u8 4), (1, .int .u16 k.c)] rfl _ (built27_2 4 k.c) ?_
    | refine wpList_val rfl _ (exec_eq_ky _ _ _ rfl k ⟨4, k.c, M.zero8, 0, 0⟩ rfl rfl HK.out.ml rfl) ?_)
  go_ret
  exact ⟨by rw [← h]; rfl, B0.out⟩
theorem rr5 (k : Ky) (b : Bool) (w : World) (hk : k.Ok) (h1 : ¬ k.s = 1) (h2 : ¬ k.s = 2) (h3 : ¬ k.s = 3) (h4 : ¬ k.s = 4) (hb : Hid (false = b)) : Calls Try.prog 50 #[.agg k.cells.toArray] w fun e w' => e = .returned (.bool b) ∧ Below w.heap.size w w' := by
  have q := blk_alloc w 55 k.cells
  have c0 := q.cell (kc0 k)
  have HQ := Lib.hid q
  have B0 := Lib.hid (new_below w (.cells k.cells.toArray 55))
  have HK := Lib.hid hk
  have h := hb.out
  clear hb
  clear q hk
  subst h
  go_enter Try.func50, Try.ntmps50
  go_wp2_with fail
  go_ret
  exact ⟨rfl, B0.out⟩
theorem refKright_is (k : Ky) (b : Bool) (w : World) (hk : k.Ok) (hb : Hid (k.right = b)) : Calls Try.prog 50 #[.agg k.cells.toArray] w fun e w' => e = .returned (.bool b) ∧ Below w.heap.size w w' := by
  have h := hb.out
  by_cases h1 : k.s = 1
  · rw [right1 h1] at h; exact rr1 k b w hk h1 (Lib.hid h)
  · by_cases h2 : k.s = 2
    · rw [right2 (.inl h2)] at h; exact rr2 k b w hk h2 (Lib.hid h)
    · by_cases h3 : k.s = 3
      · rw [right2 (.inr h3)] at h; exact rr3 k b w hk h3 (Lib.hid h)
      · by_cases h4 : k.s = 4
        · rw [right4 h4] at h; exact rr4 k b w hk h4 (Lib.hid h)
        · rw [right5 h1 h2 h3 h4] at h; exact rr5 k b w hk h1 h2 h3 h4 (Lib.hid h)
end Go.Proofs.Ytgggjhbijnndhaa
