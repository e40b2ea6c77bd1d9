/- The contracts of Right of package key and of the reference. The contracts of Words of package key and of the reference. The contracts of slices.Compare at three words, and of Less of package key and of the reference. -/
import Derived.Test.YteggjihhjdeieaaGreatKeys
namespace Go.Proofs.YteggjihhjdeieaaGreat
open Go.RowKit

theorem right1 {k : Ky} (h : k.s = 1) : k.right = (M.rightB k.m && decide (k.r < 16) && decide (0 < k.q)) := by unfold Ky.right; rw [if_pos h]
theorem right2 {k : Ky} (h : k.s = 2 ∨ k.s = 3) : k.right = (M.rightB k.m && decide (k.r < 16) && decide (k.q = 0)) := by unfold Ky.right; rw [if_neg (by omega), if_pos h]
theorem right4 {k : Ky} (h : k.s = 4) : k.right = decide (k = ⟨4, k.c, M.zero8, 0, 0⟩) := by unfold Ky.right; rw [if_neg (by omega), if_neg (by omega), if_pos h]
theorem right5 {k : Ky} (h1 : ¬ k.s = 1) (h2 : ¬ k.s = 2) (h3 : ¬ k.s = 3) (h4 : ¬ k.s = 4) : k.right = false := by unfold Ky.right; rw [if_neg h1, if_neg (by omega), if_neg h4]
theorem kr1 (k : Ky) (b : Bool) (w : World) (hk : k.Ok) (hs : k.s = 1) (hb : Hid ((M.rightB k.m && decide (k.r < 16) && decide (0 < k.q)) = b)) : Calls Tryz.prog 31 #[.agg k.cells.toArray] w fun e w' => e = .returned (.bool b) ∧ Below w.heap.size w w' := by
  have q := blk_alloc w 27 k.cells
  have c0 := q.cell (kc0 k)
  have HQ := Lib.hid q
  have B0 := Lib.hid (new_below w (.cells k.cells.toArray 27))
  have HK := Lib.hid hk
  have h := hb.out
  clear hb
  obtain ⟨p, hp⟩ : ∃ p, (M.rightB k.m && decide (k.r < 16)) = p := ⟨_, rfl⟩
  have HP := Lib.hid hp
  rw [hp] at h
  clear q hk hp
  go_enter Tryz.func31, Tryz.ntmps31
  go_wp2_with (refine wpList_load_ky rfl _ rfl w.heap.size 0 k rfl HQ.out.range HK.out.ml ?_)
  refine (hasOwner_is k p _ HK.out HP).mono ?_
  rintro e w1 ⟨rfl, c1⟩
  have d4 := (HQ.out.below c1).cell (kc11 HK.out.ml)
  have B1 := Lib.hid (step_ B0.out c1)
  clear c1
  cases p with
  | false =>
    rw [Bool.false_and] at h
    subst h
    go_wp2_with fail
    go_ret
    exact ⟨rfl, B1.out⟩
  | true =>
    rw [Bool.true_and] at h
    subst h
    go_wp2_with fail
    go_ret
    exact ⟨rfl, B1.out⟩
theorem kr2 (k : Ky) (b : Bool) (w : World) (hk : k.Ok) (hs : k.s = 2) (hb : Hid ((M.rightB k.m && decide (k.r < 16) && decide (k.q = 0)) = b)) : Calls Tryz.prog 31 #[.agg k.cells.toArray] w fun e w' => e = .returned (.bool b) ∧ Below w.heap.size w w' := by
  have q := blk_alloc w 27 k.cells
  have c0 := q.cell (kc0 k)
  have HQ := Lib.hid q
  have B0 := Lib.hid (new_below w (.cells k.cells.toArray 27))
  have HK := Lib.hid hk
  have h := hb.out
  clear hb
  obtain ⟨p, hp⟩ : ∃ p, (M.rightB k.m && decide (k.r < 16)) = p := ⟨_, rfl⟩
  have HP := Lib.hid hp
  rw [hp] at h
  clear q hk hp
  go_enter Tryz.func31, Tryz.ntmps31
  go_wp2_with (refine wpList_load_ky rfl _ rfl w.heap.size 0 k rfl HQ.out.range HK.out.ml ?_)
  refine (hasOwner_is k p _ HK.out HP).mono ?_
  rintro e w1 ⟨rfl, c1⟩
  have d4 := (HQ.out.below c1).cell (kc11 HK.out.ml)
  have B1 := Lib.hid (step_ B0.out c1)
  clear c1
  cases p with
  | false =>
    rw [Bool.false_and] at h
    subst h
    go_wp2_with fail
    go_ret
    exact ⟨rfl, B1.out⟩
  | true =>
    rw [Bool.true_and] at h
    subst h
    go_wp2_with fail
    go_ret
    exact ⟨rfl, B1.out⟩
theorem kr3 (k : Ky) (b : Bool) (w : World) (hk : k.Ok) (hs : k.s = 3) (hb : Hid ((M.rightB k.m && decide (k.r < 16) && decide (k.q = 0)) = b)) : Calls Tryz.prog 31 #[.agg k.cells.toArray] w fun e w' => e = .returned (.bool b) ∧ Below w.heap.size w w' := by
  have q := blk_alloc w 27 k.cells
  have c0 := q.cell (kc0 k)
  have HQ := Lib.hid q
  have B0 := Lib.hid (new_below w (.cells k.cells.toArray 27))
  have HK := Lib.hid hk
  have h := hb.out
  clear hb
  obtain ⟨p, hp⟩ : ∃ p, (M.rightB k.m && decide (k.r < 16)) = p := ⟨_, rfl⟩
  have HP := Lib.hid hp
  rw [hp] at h
  clear q hk hp
  go_enter Tryz.func31, Tryz.ntmps31
  go_wp2_with (refine wpList_load_ky rfl _ rfl w.heap.size 0 k rfl HQ.out.range HK.out.ml ?_)
  refine (hasOwner_is k p _ HK.out HP).mono ?_
  rintro e w1 ⟨rfl, c1⟩
  have d4 := (HQ.out.below c1).cell (kc11 HK.out.ml)
  have B1 := Lib.hid (step_ B0.out c1)
  clear c1
  cases p with
  | false =>
    rw [Bool.false_and] at h
    subst h
    go_wp2_with fail
    go_ret
    exact ⟨rfl, B1.out⟩
  | true =>
    rw [Bool.true_and] at h
    subst h
    go_wp2_with fail
    go_ret
    exact ⟨rfl, B1.out⟩
theorem kr4 (k : Ky) (b : Bool) (w : World) (hk : k.Ok) (hs : k.s = 4) (hb : Hid (decide (k = ⟨4, k.c, M.zero8, 0, 0⟩) = b)) : Calls Tryz.prog 31 #[.agg k.cells.toArray] w fun e w' => e = .returned (.bool b) ∧ Below w.heap.size w w' := by
  have q := blk_alloc w 27 k.cells
  have c0 := q.cell (kc0 k)
  have HQ := Lib.hid q
  have B0 := Lib.hid (new_below w (.cells k.cells.toArray 27))
  have HK := Lib.hid hk
  have h := hb.out
  clear hb
  have c1 := q.cell (kc1 k)
  clear q hk
  go_enter Tryz.func31, Tryz.ntmps31
  go_wp2_with (first
    | refine wpList_load_ky rfl _ rfl w.heap.size 0 k rfl HQ.out.range HK.out.ml ?_
    | refine wpList_build rfl 27 _ rfl [(0, .int .u8 4), (1, .int .u16 k.c)] rfl _ (built27_2 4 k.c) ?_
    | refine wpList_val rfl _ (exec_eq_ky _ _ _ rfl k ⟨4, k.c, M.zero8, 0, 0⟩ rfl rfl HK.out.ml rfl) ?_)
  go_ret
  exact ⟨by rw [← h]; rfl, B0.out⟩
theorem kr5 (k : Ky) (b : Bool) (w : World) (hk : k.Ok) (h1 : ¬ k.s = 1) (h2 : ¬ k.s = 2) (h3 : ¬ k.s = 3) (h4 : ¬ k.s = 4) (hb : Hid (false = b)) : Calls Tryz.prog 31 #[.agg k.cells.toArray] w fun e w' => e = .returned (.bool b) ∧ Below w.heap.size w w' := by
  have q := blk_alloc w 27 k.cells
  have c0 := q.cell (kc0 k)
  have HQ := Lib.hid q
  have B0 := Lib.hid (new_below w (.cells k.cells.toArray 27))
  have HK := Lib.hid hk
  have h := hb.out
  clear hb
  clear q hk
  subst h
  go_enter Tryz.func31, Tryz.ntmps31
  go_wp2_with fail
  go_ret
  exact ⟨rfl, B0.out⟩
theorem kright_is (k : Ky) (b : Bool) (w : World) (hk : k.Ok) (hb : Hid (k.right = b)) : Calls Tryz.prog 31 #[.agg k.cells.toArray] w fun e w' => e = .returned (.bool b) ∧ Below w.heap.size w w' := by
  have h := hb.out
  by_cases h1 : k.s = 1
  · rw [right1 h1] at h; exact kr1 k b w hk h1 (Lib.hid h)
  · by_cases h2 : k.s = 2
    · rw [right2 (.inl h2)] at h; exact kr2 k b w hk h2 (Lib.hid h)
    · by_cases h3 : k.s = 3
      · rw [right2 (.inr h3)] at h; exact kr3 k b w hk h3 (Lib.hid h)
      · by_cases h4 : k.s = 4
        · rw [right4 h4] at h; exact kr4 k b w hk h4 (Lib.hid h)
        · rw [right5 h1 h2 h3 h4] at h; exact kr5 k b w hk h1 h2 h3 h4 (Lib.hid h)
theorem rr1 (k : Ky) (b : Bool) (w : World) (hk : k.Ok) (hs : k.s = 1) (hb : Hid ((M.rightB k.m && decide (k.r < 16) && decide (0 < k.q)) = b)) : Calls Tryz.prog 36 #[.agg k.cells.toArray] w fun e w' => e = .returned (.bool b) ∧ Below w.heap.size w w' := by
  have q := blk_alloc w 27 k.cells
  have c0 := q.cell (kc0 k)
  have HQ := Lib.hid q
  have B0 := Lib.hid (new_below w (.cells k.cells.toArray 27))
  have HK := Lib.hid hk
  have h := hb.out
  clear hb
  have HN := Lib.hid (q.knm hk.ml)
  obtain ⟨p, hp⟩ : ∃ p, M.rightB k.m = p := ⟨_, rfl⟩
  have HP := Lib.hid hp
  rw [hp] at h
  clear q hk hp
  go_enter Tryz.func36, Tryz.ntmps36
  go_wp2_with (refine wpList_load_nm rfl _ rfl w.heap.size 2 k.m rfl HN.out HK.out.ml ?_)
  refine (refRight_is k.m p _ HK.out.ml (Lib.hid HK.out.mb) HP).mono ?_
  rintro e w1 ⟨rfl, c1⟩
  have d3 := (HQ.out.below c1).cell (kc10 HK.out.ml)
  have d4 := (HQ.out.below c1).cell (kc11 HK.out.ml)
  have B1 := Lib.hid (step_ B0.out c1)
  clear c1
  cases p with
  | false =>
    rw [Bool.false_and, Bool.false_and] at h
    subst h
    go_wp2_with fail
    go_ret
    exact ⟨rfl, B1.out⟩
  | true =>
    rw [Bool.true_and] at h
    by_cases hr : k.r < 16
    · rw [decide_eq_true hr, Bool.true_and] at h
      subst h
      go_wp2_with fail
      go_ret
      exact ⟨rfl, B1.out⟩
    · rw [decide_eq_false hr, Bool.false_and] at h
      subst h
      go_wp2_with fail
      go_ret
      exact ⟨rfl, B1.out⟩
theorem rr2 (k : Ky) (b : Bool) (w : World) (hk : k.Ok) (hs : k.s = 2) (hb : Hid ((M.rightB k.m && decide (k.r < 16) && decide (k.q = 0)) = b)) : Calls Tryz.prog 36 #[.agg k.cells.toArray] w fun e w' => e = .returned (.bool b) ∧ Below w.heap.size w w' := by
  have q := blk_alloc w 27 k.cells
  have c0 := q.cell (kc0 k)
  have HQ := Lib.hid q
  have B0 := Lib.hid (new_below w (.cells k.cells.toArray 27))
  have HK := Lib.hid hk
  have h := hb.out
  clear hb
  have HN := Lib.hid (q.knm hk.ml)
  obtain ⟨p, hp⟩ : ∃ p, M.rightB k.m = p := ⟨_, rfl⟩
  have HP := Lib.hid hp
  rw [hp] at h
  clear q hk hp
  go_enter Tryz.func36, Tryz.ntmps36
  go_wp2_with (refine wpList_load_nm rfl _ rfl w.heap.size 2 k.m rfl HN.out HK.out.ml ?_)
  refine (refRight_is k.m p _ HK.out.ml (Lib.hid HK.out.mb) HP).mono ?_
  rintro e w1 ⟨rfl, c1⟩
  have d3 := (HQ.out.below c1).cell (kc10 HK.out.ml)
  have d4 := (HQ.out.below c1).cell (kc11 HK.out.ml)
  have B1 := Lib.hid (step_ B0.out c1)
  clear c1
  cases p with
  | false =>
    rw [Bool.false_and, Bool.false_and] at h
    subst h
    go_wp2_with fail
    go_ret
    exact ⟨rfl, B1.out⟩
  | true =>
    rw [Bool.true_and] at h
    by_cases hr : k.r < 16
    · rw [decide_eq_true hr, Bool.true_and] at h
      subst h
      go_wp2_with fail
      go_ret
      exact ⟨rfl, B1.out⟩
    · rw [decide_eq_false hr, Bool.false_and] at h
      subst h
      go_wp2_with fail
      go_ret
      exact ⟨rfl, B1.out⟩
theorem rr3 (k : Ky) (b : Bool) (w : World) (hk : k.Ok) (hs : k.s = 3) (hb : Hid ((M.rightB k.m && decide (k.r < 16) && decide (k.q = 0)) = b)) : Calls Tryz.prog 36 #[.agg k.cells.toArray] w fun e w' => e = .returned (.bool b) ∧ Below w.heap.size w w' := by
  have q := blk_alloc w 27 k.cells
  have c0 := q.cell (kc0 k)
  have HQ := Lib.hid q
  have B0 := Lib.hid (new_below w (.cells k.cells.toArray 27))
  have HK := Lib.hid hk
  have h := hb.out
  clear hb
  have HN := Lib.hid (q.knm hk.ml)
  obtain ⟨p, hp⟩ : ∃ p, M.rightB k.m = p := ⟨_, rfl⟩
  have HP := Lib.hid hp
  rw [hp] at h
  clear q hk hp
  go_enter Tryz.func36, Tryz.ntmps36
  go_wp2_with (refine wpList_load_nm rfl _ rfl w.heap.size 2 k.m rfl HN.out HK.out.ml ?_)
  refine (refRight_is k.m p _ HK.out.ml (Lib.hid HK.out.mb) HP).mono ?_
  rintro e w1 ⟨rfl, c1⟩
  have d3 := (HQ.out.below c1).cell (kc10 HK.out.ml)
  have d4 := (HQ.out.below c1).cell (kc11 HK.out.ml)
  have B1 := Lib.hid (step_ B0.out c1)
  clear c1
  cases p with
  | false =>
    rw [Bool.false_and, Bool.false_and] at h
    subst h
    go_wp2_with fail
    go_ret
    exact ⟨rfl, B1.out⟩
  | true =>
    rw [Bool.true_and] at h
    by_cases hr : k.r < 16
    · rw [decide_eq_true hr, Bool.true_and] at h
      subst h
      go_wp2_with fail
      go_ret
      exact ⟨rfl, B1.out⟩
    · rw [decide_eq_false hr, Bool.false_and] at h
      subst h
      go_wp2_with fail
      go_ret
      exact ⟨rfl, B1.out⟩
theorem rr4 (k : Ky) (b : Bool) (w : World) (hk : k.Ok) (hs : k.s = 4) (hb : Hid (decide (k = ⟨4, k.c, M.zero8, 0, 0⟩) = b)) : Calls Tryz.prog 36 #[.agg k.cells.toArray] w fun e w' => e = .returned (.bool b) ∧ Below w.heap.size w w' := by
  have q := blk_alloc w 27 k.cells
  have c0 := q.cell (kc0 k)
  have HQ := Lib.hid q
  have B0 := Lib.hid (new_below w (.cells k.cells.toArray 27))
  have HK := Lib.hid hk
  have h := hb.out
  clear hb
  have c1 := q.cell (kc1 k)
  clear q hk
  go_enter Tryz.func36, Tryz.ntmps36
  go_wp2_with (first
    | refine wpList_load_ky rfl _ rfl w.heap.size 0 k rfl HQ.out.range HK.out.ml ?_
    | refine wpList_build rfl 27 _ rfl [(0, .int .u8 4), (1, .int .u16 k.c)] rfl _ (built27_2 4 k.c) ?_
    | refine wpList_val rfl _ (exec_eq_ky _ _ _ rfl k ⟨4, k.c, M.zero8, 0, 0⟩ rfl rfl HK.out.ml rfl) ?_)
  go_ret
  exact ⟨by rw [← h]; rfl, B0.out⟩
theorem rr5 (k : Ky) (b : Bool) (w : World) (hk : k.Ok) (h1 : ¬ k.s = 1) (h2 : ¬ k.s = 2) (h3 : ¬ k.s = 3) (h4 : ¬ k.s = 4) (hb : Hid (false = b)) : Calls Tryz.prog 36 #[.agg k.cells.toArray] w fun e w' => e = .returned (.bool b) ∧ Below w.heap.size w w' := by
  have q := blk_alloc w 27 k.cells
  have c0 := q.cell (kc0 k)
  have HQ := Lib.hid q
  have B0 := Lib.hid (new_below w (.cells k.cells.toArray 27))
  have HK := Lib.hid hk
  have h := hb.out
  clear hb
  clear q hk
  subst h
  go_enter Tryz.func36, Tryz.ntmps36
  go_wp2_with fail
  go_ret
  exact ⟨rfl, B0.out⟩
theorem refKright_is (k : Ky) (b : Bool) (w : World) (hk : k.Ok) (hb : Hid (k.right = b)) : Calls Tryz.prog 36 #[.agg k.cells.toArray] w fun e w' => e = .returned (.bool b) ∧ Below w.heap.size w w' := by
  have h := hb.out
  by_cases h1 : k.s = 1
  · rw [right1 h1] at h; exact rr1 k b w hk h1 (Lib.hid h)
  · by_cases h2 : k.s = 2
    · rw [right2 (.inl h2)] at h; exact rr2 k b w hk h2 (Lib.hid h)
    · by_cases h3 : k.s = 3
      · rw [right2 (.inr h3)] at h; exact rr3 k b w hk h3 (Lib.hid h)
      · by_cases h4 : k.s = 4
        · rw [right4 h4] at h; exact rr4 k b w hk h4 (Lib.hid h)
        · rw [right5 h1 h2 h3 h4] at h; exact rr5 k b w hk h1 h2 h3 h4 (Lib.hid h)
end Go.Proofs.YteggjihhjdeieaaGreat
namespace Go.Proofs.YteggjihhjdeieaaGreat
open Go.RowKit

theorem wpAnyH_narrow {P : Program} {ops : Array Oper} {Q : Exit → Act → World → Prop} {md : Region.Mode} {S S' : World → Prop} (h : ∀ W, S' W → S W) : ∀ (fuel : Nat) (listed : Array Bool) (a : Act) (w : World), wpAnyH P md ops Q S' fuel listed a w → wpAnyH P md ops Q S fuel listed a w
  | 0, _, _, _, hh => hh
  | fuel + 1, _, _, _, hh => ⟨hh.1, fun i hi => wpOp_mono (fun a' w' h' => ⟨h w' h'.1, wpAnyH_narrow h fuel _ a' w' h'.2⟩) (hh.2 i hi)⟩
/-- What holds of every world of the region. -/
structure WS (w : World) (k : Ky) (W : World) : Prop where
  bel : Below w.heap.size w W
  blk : Blk W w.heap.size 27 k.cells
theorem WS.drew {w : World} {k : Ky} {W : World} (h : WS w k W) : WS w k W.drew := ⟨below_drew h.bel, h.blk.drew⟩
theorem WS.below {w : World} {k : Ky} {W W' : World} (h : WS w k W) (hb : Below W.heap.size W W') : WS w k W' := ⟨step_ h.bel hb, h.blk.below hb⟩
theorem WS.only {w : World} {k : Ky} {W W' : World} {g : Nat} (h : WS w k W) (hb : Only g W W') (hg : w.heap.size < g) : WS w k W' := ⟨h.bel.trans (hb.below (Nat.le_of_lt hg) h.bel.size), h.blk.only hb (Nat.ne_of_lt hg)⟩
theorem ws_new (w : World) (k : Ky) (o : Obj) : WS w k ((w.alloc (.cells k.cells.toArray 27)).alloc o) := ⟨step_ (new_below w _) (new_below _ _), (blk_alloc w 27 k.cells).alloc o⟩
theorem spell0 {k : Ky} (h : k.Ok) : bits .or .u64 (IntKind.u64.wrap (IntKind.u64.wrap k.s * 65536)) (IntKind.u64.wrap k.c) = k.w0 := by
  have := h.s0; have := h.s1; have := h.c0; have := h.c1
  have e1 : IntKind.u64.wrap k.s = k.s := by rw [IntKind.wrap_u64]; omega
  have e2 : IntKind.u64.wrap (k.s * 65536) = k.s * 65536 := by rw [IntKind.wrap_u64]; omega
  have e3 : IntKind.u64.wrap k.c = k.c := by rw [IntKind.wrap_u64]; omega
  rw [e1, e2, e3]
  exact or16 _ _ h.s0 h.s1 h.c0 h.c1
theorem spell1 {k : Ky} (h : k.Ok) : IntKind.u64.wrap (IntKind.u64.wrap (IntKind.u64.wrap k.s * 65536) + IntKind.u64.wrap k.c) = k.w0 := by
  have := h.s0; have := h.s1; have := h.c0; have := h.c1
  unfold Ky.w0
  rw [IntKind.wrap_u64, IntKind.wrap_u64, IntKind.wrap_u64, IntKind.wrap_u64]; omega
theorem spell2 {k : Ky} (h : k.Ok) : IntKind.u64.wrap (IntKind.u64.wrap (IntKind.u64.wrap k.r * 4294967296) + IntKind.u64.wrap k.q) = k.w2 := by
  have := h.r0; have := h.r1; have := h.q0; have := h.q1
  unfold Ky.w2
  rw [IntKind.wrap_u64, IntKind.wrap_u64, IntKind.wrap_u64, IntKind.wrap_u64]; omega
end Go.Proofs.YteggjihhjdeieaaGreat
namespace Go.Proofs.YteggjihhjdeieaaGreat
open Go.RowKit

def cmp3 (a b c x y z : Int) : Int := if cmp2 a x ≠ 0 then cmp2 a x else if cmp2 b y ≠ 0 then cmp2 b y else cmp2 c z
theorem cmp2_zero {x y : Int} : cmp2 x y = 0 ↔ x = y := by
  unfold cmp2
  constructor
  · intro h
    split at h
    · omega
    · split at h <;> omega
  · intro h; rw [if_neg (by omega), if_neg (by omega)]
theorem cmp2_neg {x y : Int} : decide (cmp2 x y < 0) = decide (x < y) := by
  unfold cmp2
  split
  · rename_i h; simp [h]
  · rename_i h
    split
    · simp [h]
    · simp [h]
theorem cmp3_less (a b c x y z : Int) : decide (cmp3 a b c x y z < 0) = less3 a b c x y z := by
  unfold cmp3 less3
  by_cases e : a = x
  · rw [if_neg (show ¬ (cmp2 a x ≠ 0) from fun h => h (cmp2_zero.2 e)), if_neg (show ¬ (a ≠ x) from fun h => h e)]
    by_cases e1 : b = y
    · rw [if_neg (show ¬ (cmp2 b y ≠ 0) from fun h => h (cmp2_zero.2 e1)), if_neg (show ¬ (b ≠ y) from fun h => h e1)]
      exact cmp2_neg
    · rw [if_pos (show cmp2 b y ≠ 0 from fun h => e1 (cmp2_zero.1 h)), if_pos (show b ≠ y from e1)]
      exact cmp2_neg
  · rw [if_pos (show cmp2 a x ≠ 0 from fun h => e (cmp2_zero.1 h)), if_pos (show a ≠ x from e)]
    exact cmp2_neg
theorem Blk.drewN {w : World} {g t : Nat} {cs : List Value} (h : Blk w g t cs) (n : Nat) : Blk (w.drewN n) g t cs := h
/-- What holds of every world of the region of two keys. -/
structure LS (w : World) (A B : Ky) (W : World) : Prop where
  bel : Below w.heap.size w W
  one : Blk W w.heap.size 27 A.cells
  two : Blk W (w.heap.size + 1) 27 B.cells
theorem LS.drew {w : World} {A B : Ky} {W : World} (h : LS w A B W) : LS w A B W.drew := ⟨below_drew h.bel, h.one.drew, h.two.drew⟩
theorem LS.below {w : World} {A B : Ky} {W W' : World} (h : LS w A B W) (hb : Below W.heap.size W W') : LS w A B W' := ⟨step_ h.bel hb, h.one.below hb, h.two.below hb⟩
theorem LS.only {w : World} {A B : Ky} {W W' : World} {g : Nat} (h : LS w A B W) (hb : Only g W W') (hg : w.heap.size + 1 < g) : LS w A B W' := ⟨h.bel.trans (hb.below (by omega) h.bel.size), h.one.only hb (by omega), h.two.only hb (by omega)⟩
theorem ls_new (w : World) (A B : Ky) : LS w A B ((w.alloc (.cells A.cells.toArray 27)).alloc (.cells B.cells.toArray 27)) := ⟨step_ (new_below w _) (new_below _ _), (blk_alloc w 27 A.cells).alloc _, blk2 w _ 27 B.cells⟩
theorem LS.size {w : World} {A B : Ky} {W : World} (h : LS w A B W) : w.heap.size + 1 < W.heap.size := h.two.lt
end Go.Proofs.YteggjihhjdeieaaGreat
