/- The contracts of Right of package key and of the reference. The contracts of Words of package key and of the reference. -/
import Derived.Test.YtnpbmihbmilkbaaGreatG07
import Derived.Test.YtnpbmihbmilkbaaGreatG01
namespace Go.Proofs.YtnpbmihbmilkbaaGreat
open Go.RowKit
theorem right1 {k : Ky} (h : k.s = 1) : k.right = (M.rightB k.m && decide (k.r < 16) && decide (0 < k.q)) := by unfold Ky.right; rw [if_pos h]
theorem right2 {k : Ky} (h : k.s = 2 ∨ k.s = 3) : k.right = (M.rightB k.m && decide (k.r < 16) && decide (k.q = 0)) := by unfold Ky.right; rw [if_neg (by omega), if_pos h]
theorem right4 {k : Ky} (h : k.s = 4) : k.right = decide (k = ⟨4, k.c, M.zero8, 0, 0⟩) := by unfold Ky.right; rw [if_neg (by omega), if_neg (by omega), if_pos h]
theorem right5 {k : Ky} (h1 : ¬ k.s = 1) (h2 : ¬ k.s = 2) (h3 : ¬ k.s = 3) (h4 : ¬ k.s = 4) : k.right = false := by unfold Ky.right; rw [if_neg h1, if_neg (by omega), if_neg h4]
theorem kr1 (k : Ky) (b : Bool) (w : World) (hk : k.Ok) (hs : k.s = 1) (hb : Hid ((M.rightB k.m && decide (k.r < 16) && decide (0 < k.q)) = b)) : Calls Tryz.prog 113 #[.agg k.cells.toArray] w fun e w' => e = .returned (.bool b) ∧ Below w.heap.size w w' := by
  have q := blk_alloc w 48 k.cells
  have c0 := q.cell (kc0 k)
  have HQ := Lib.hid q
  have B0 := Lib.hid (new_below w (.cells k.cells.toArray 48))
  have HK := Lib.hid hk
  have h := hb.out
  clear hb
  obtain ⟨p, hp⟩ : ∃ p, (M.rightB k.m && decide (k.r < 16)) = p := ⟨_, rfl⟩
  have HP := Lib.hid hp
  rw [hp] at h
  clear q hk hp
  go_enter Tryz.func113, Tryz.ntmps113
  go_wp2_with (refine wpList_load_ky rfl _ rfl w.heap.size 0 k rfl HQ.out.range HK.out.ml ?_)
  refine (hasOwner_is k p _ HK.out HP).mono ?_
  rintro e w1 ⟨rfl, c1⟩
  have d4 := (HQ.out.below c1).cell (kc11 HK.out.ml)
  have B1 := Lib.hid (step_ B0.out c1)
  clear c1
  cases p with
  | false =>
    rw [Bool.false_and] at h
    subst h
    go_wp2_with fail
    go_ret
    exact ⟨rfl, B1.out⟩
  | true =>
    rw [Bool.true_and] at h
    subst h
    go_wp2_with fail
    go_ret
    exact ⟨rfl, B1.out⟩
theorem kr2 (k : Ky) (b : Bool) (w : World) (hk : k.Ok) (hs : k.s = 2) (hb : Hid ((M.rightB k.m && decide (k.r < 16) && decide (k.q = 0)) = b)) : Calls Tryz.prog 113 #[.agg k.cells.toArray] w fun e w' => e = .returned (.bool b) ∧ Below w.heap.size w w' := by
  have q := blk_alloc w 48 k.cells
  have c0 := q.cell (kc0 k)
  have HQ := Lib.hid q
  have B0 := Lib.hid (new_below w (.cells k.cells.toArray 48))
  have HK := Lib.hid hk
  have h := hb.out
  clear hb
  obtain ⟨p, hp⟩ : ∃ p, (M.rightB k.m && decide (k.r < 16)) = p := ⟨_, rfl⟩
  have HP := Lib.hid hp
  rw [hp] at h
  clear q hk hp
  go_enter Tryz.func113, Tryz.ntmps113
  go_wp2_with (refine wpList_load_ky rfl _ rfl w.heap.size 0 k rfl HQ.out.range HK.out.ml ?_)
  refine (hasOwner_is k p _ HK.out HP).mono ?_
  rintro e w1 ⟨rfl, c1⟩
  have d4 := (HQ.out.below c1).cell (kc11 HK.out.ml)
  have B1 := Lib.hid (step_ B0.out c1)
  clear c1
  cases p with
  | false =>
    rw [Bool.false_and] at h
    subst h
    go_wp2_with fail
    go_ret
    exact ⟨rfl, B1.out⟩
  | true =>
    rw [Bool.true_and] at h
    subst h
    go_wp2_with fail
    go_ret
    exact ⟨rfl, B1.out⟩
theorem kr3 (k : Ky) (b : Bool) (w : World) (hk : k.Ok) (hs : k.s = 3) (hb : Hid ((M.rightB k.m && decide (k.r < 16) && decide (k.q = 0)) = b)) : Calls Tryz.prog 113 #[.agg k.cells.toArray] w fun e w' => e = .returned (.bool b) ∧ Below w.heap.size w w' := by
  have q := blk_alloc w 48 k.cells
  have c0 := q.cell (kc0 k)
  have HQ := Lib.hid q
  have B0 := Lib.hid (new_below w (.cells k.cells.toArray 48))
  have HK := Lib.hid hk
  have h := hb.out
  clear hb
  obtain ⟨p, hp⟩ : ∃ p, (M.rightB k.m && decide (k.r < 16)) = p := ⟨_, rfl⟩
  have HP := Lib.hid hp
  rw [hp] at h
  clear q hk hp
  go_enter Tryz.func113, Tryz.ntmps113
  go_wp2_with (refine wpList_load_ky rfl _ rfl w.heap.size 0 k rfl HQ.out.range HK.out.ml ?_)
  refine (hasOwner_is k p _ HK.out HP).mono ?_
  rintro e w1 ⟨rfl, c1⟩
  have d4 := (HQ.out.below c1).cell (kc11 HK.out.ml)
  have B1 := Lib.hid (step_ B0.out c1)
  clear c1
  cases p with
  | false =>
    rw [Bool.false_and] at h
    subst h
    go_wp2_with fail
    go_ret
    exact ⟨rfl, B1.out⟩
  | true =>
    rw [Bool.true_and] at h
    subst h
    go_wp2_with fail
    go_ret
    exact ⟨rfl, B1.out⟩
theorem kr4 (k : Ky) (b : Bool) (w : World) (hk : k.Ok) (hs : k.s = 4) (hb : Hid (decide (k = ⟨4, k.c, M.zero8, 0, 0⟩) = b)) : Calls Tryz.prog 113 #[.agg k.cells.toArray] w fun e w' => e = .returned (.bool b) ∧ Below w.heap.size w w' := by
  have q := blk_alloc w 48 k.cells
  have c0 := q.cell (kc0 k)
  have HQ := Lib.hid q
  have B0 := Lib.hid (new_below w (.cells k.cells.toArray 48))
  have HK := Lib.hid hk
  have h := hb.out
  clear hb
  have c1 := q.cell (kc1 k)
  clear q hk
  go_enter Tryz.func113, Tryz.ntmps113
  go_wp2_with (first
    | refine wpList_load_ky rfl _ rfl w.heap.size 0 k rfl HQ.out.range HK.out.ml ?_
    | refine wpList_build rfl 48 _ rfl [(0, .int .u8 4), (1, .int .u16 k.c)] rfl _ (built27_2 4 k.c) ?_
    | refine wpList_val rfl _ (exec_eq_ky _ _ _ rfl k ⟨4, k.c, M.zero8, 0, 0⟩ rfl rfl HK.out.ml rfl) ?_)
  go_ret
  exact ⟨by rw [← h]; rfl, B0.out⟩
theorem kr5 (k : Ky) (b : Bool) (w : World) (hk : k.Ok) (h1 : ¬ k.s = 1) (h2 : ¬ k.s = 2) (h3 : ¬ k.s = 3) (h4 : ¬ k.s = 4) (hb : Hid (false = b)) : Calls Tryz.prog 113 #[.agg k.cells.toArray] w fun e w' => e = .returned (.bool b) ∧ Below w.heap.size w w' := by
  have q := blk_alloc w 48 k.cells
  have c0 := q.cell (kc0 k)
  have HQ := Lib.hid q
  have B0 := Lib.hid (new_below w (.cells k.cells.toArray 48))
  have HK := Lib.hid hk
  have h := hb.out
  clear hb
  clear q hk
  subst h
  go_enter Tryz.func113, Tryz.ntmps113
  go_wp2_with fail
  go_ret
  exact ⟨rfl, B0.out⟩
theorem kright_is (k : Ky) (b : Bool) (w : World) (hk : k.Ok) (hb : Hid (k.right = b)) : Calls Tryz.prog 113 #[.agg k.cells.toArray] w fun e w' => e = .returned (.bool b) ∧ Below w.heap.size w w' := by
  have h := hb.out
  by_cases h1 : k.s = 1
  · rw [right1 h1] at h; exact kr1 k b w hk h1 (Lib.hid h)
  · by_cases h2 : k.s = 2
    · rw [right2 (.inl h2)] at h; exact kr2 k b w hk h2 (Lib.hid h)
    · by_cases h3 : k.s = 3
      · rw [right2 (.inr h3)] at h; exact kr3 k b w hk h3 (Lib.hid h)
      · by_cases h4 : k.s = 4
        · rw [right4 h4] at h; exact kr4 k b w hk h4 (Lib.hid h)
        · rw [right5 h1 h2 h3 h4] at h; exact kr5 k b w hk h1 h2 h3 h4 (Lib.hid h)
theorem rr1 (k : Ky) (b : Bool) (w : World) (hk : k.Ok) (hs : k.s = 1) (hb : Hid ((M.rightB k.m && decide (k.r < 16) && decide (0 < k.q)) = b)) : Calls Tryz.prog 47 #[.agg k.cells.toArray] w fun e w' => e = .returned (.bool b) ∧ Below w.heap.size w w' := by
  have q := blk_alloc w 48 k.cells
  have c0 := q.cell (kc0 k)
  have HQ := Lib.hid q
  have B0 := Lib.hid (new_below w (.cells k.cells.toArray 48))
  have HK := Lib.hid hk
  have h := hb.out
  clear hb
  have HN := Lib.hid (q.knm hk.ml)
  obtain ⟨p, hp⟩ : ∃ p, M.rightB k.m = p := ⟨_, rfl⟩
  have HP := Lib.hid hp
  rw [hp] at h
  clear q hk hp
  go_enter Tryz.func47, Tryz.ntmps47
  go_wp2_with (refine wpList_load_nm rfl _ rfl w.heap.size 2 k.m rfl HN.out HK.out.ml ?_)
  refine (refRight_is k.m p _ HK.out.ml (Lib.hid HK.out.mb) HP).mono ?_
  rintro e w1 ⟨rfl, c1⟩
  have d3 := (HQ.out.below c1).cell (kc10 HK.out.ml)
  have d4 := (HQ.out.below c1).cell (kc11 HK.out.ml)
  have B1 := Lib.hid (step_ B0.out c1)
  clear c1
  cases p with
  | false =>
    rw [Bool.false_and, Bool.false_and] at h
    subst h
    go_wp2_with fail
    go_ret
    exact ⟨rfl, B1.out⟩
  | true =>
    rw [Bool.true_and] at h
    by_cases hr : k.r < 16
    · rw [decide_eq_true hr, Bool.true_and] at h
      subst h
      go_wp2_with fail
      go_ret
      exact ⟨rfl, B1.out⟩
    · rw [decide_eq_false hr, Bool.false_and] at h
      subst h
      go_wp2_with fail
      go_ret
      exact ⟨rfl, B1.out⟩
theorem rr2 (k : Ky) (b : Bool) (w : World) (hk : k.Ok) (hs : k.s = 2) (hb : Hid ((M.rightB k.m && decide (k.r < 16) && decide (k.q = 0)) = b)) : Calls Tryz.prog 47 #[.agg k.cells.toArray] w fun e w' => e = .returned (.bool b) ∧ Below w.heap.size w w' := by
  have q := blk_alloc w 48 k.cells
  have c0 := q.cell (kc0 k)
  have HQ := Lib.hid q
  have B0 := Lib.hid (new_below w (.cells k.cells.toArray 48))
  have HK := Lib.hid hk
  have h := hb.out
  clear hb
  have HN := Lib.hid (q.knm hk.ml)
  obtain ⟨p, hp⟩ : ∃ p, M.rightB k.m = p := ⟨_, rfl⟩
  have HP := Lib.hid hp
  rw [hp] at h
  clear q hk hp
  go_enter Tryz.func47, Tryz.ntmps47
  go_wp2_with (refine wpList_load_nm rfl _ rfl w.heap.size 2 k.m rfl HN.out HK.out.ml ?_)
  refine (refRight_is k.m p _ HK.out.ml (Lib.hid HK.out.mb) HP).mono ?_
  rintro e w1 ⟨rfl, c1⟩
  have d3 := (HQ.out.below c1).cell (kc10 HK.out.ml)
  have d4 := (HQ.out.below c1).cell (kc11 HK.out.ml)
  have B1 := Lib.hid (step_ B0.out c1)
  clear c1
  cases p with
  | false =>
    rw [Bool.false_and, Bool.false_and] at h
    subst h
    go_wp2_with fail
    go_ret
    exact ⟨rfl, B1.out⟩
  | true =>
    rw [Bool.true_and] at h
    by_cases hr : k.r < 16
    · rw [decide_eq_true hr, Bool.true_and] at h
      subst h
      go_wp2_with fail
      go_ret
      exact ⟨rfl, B1.out⟩
    · rw [decide_eq_false hr, Bool.false_and] at h
      subst h
      go_wp2_with fail
      go_ret
      exact ⟨rfl, B1.out⟩
theorem rr3 (k : Ky) (b : Bool) (w : World) (hk : k.Ok) (hs : k.s = 3) (hb : Hid ((M.rightB k.m && decide (k.r < 16) && decide (k.q = 0)) = b)) : Calls Tryz.prog 47 #[.agg k.cells.toArray] w fun e w' => e = .returned (.bool b) ∧ Below w.heap.size w w' := by
  have q := blk_alloc w 48 k.cells
  have c0 := q.cell (kc0 k)
  have HQ := Lib.hid q
  have B0 := Lib.hid (new_below w (.cells k.cells.toArray 48))
  have HK := Lib.hid hk
  have h := hb.out
  clear hb
  have HN := Lib.hid (q.knm hk.ml)
  obtain ⟨p, hp⟩ : ∃ p, M.rightB k.m = p := ⟨_, rfl⟩
  have HP := Lib.hid hp
  rw [hp] at h
  clear q hk hp
  go_enter Tryz.func47, Tryz.ntmps47
  go_wp2_with (refine wpList_load_nm rfl _ rfl w.heap.size 2 k.m rfl HN.out HK.out.ml ?_)
  refine (refRight_is k.m p _ HK.out.ml (Lib.hid HK.out.mb) HP).mono ?_
  rintro e w1 ⟨rfl, c1⟩
  have d3 := (HQ.out.below c1).cell (kc10 HK.out.ml)
  have d4 := (HQ.out.below c1).cell (kc11 HK.out.ml)
  have B1 := Lib.hid (step_ B0.out c1)
  clear c1
  cases p with
  | false =>
    rw [Bool.false_and, Bool.false_and] at h
    subst h
    go_wp2_with fail
    go_ret
    exact ⟨rfl, B1.out⟩
  | true =>
    rw [Bool.true_and] at h
    by_cases hr : k.r < 16
    · rw [decide_eq_true hr, Bool.true_and] at h
      subst h
      go_wp2_with fail
      go_ret
      exact ⟨rfl, B1.out⟩
    · rw [decide_eq_false hr, Bool.false_and] at h
      subst h
      go_wp2_with fail
      go_ret
      exact ⟨rfl, B1.out⟩
theorem rr4 (k : Ky) (b : Bool) (w : World) (hk : k.Ok) (hs : k.s = 4) (hb : Hid (decide (k = ⟨4, k.c, M.zero8, 0, 0⟩) = b)) : Calls Tryz.prog 47 #[.agg k.cells.toArray] w fun e w' => e = .returned (.bool b) ∧ Below w.heap.size w w' := by
  have q := blk_alloc w 48 k.cells
  have c0 := q.cell (kc0 k)
  have HQ := Lib.hid q
  have B0 := Lib.hid (new_below w (.cells k.cells.toArray 48))
  have HK := Lib.hid hk
  have h := hb.out
  clear hb
  have c1 := q.cell (kc1 k)
  clear q hk
  go_enter Tryz.func47, Tryz.ntmps47
  go_wp2_with (first
    | refine wpList_load_ky rfl _ rfl w.heap.size 0 k rfl HQ.out.range HK.out.ml ?_
    | refine wpList_build rfl 48 _ rfl [(0, .int .u8 4), (1, .int .u16 k.c)] rfl _ (built27_2 4 k.c) ?_
    | refine wpList_val rfl _ (exec_eq_ky _ _ _ rfl k ⟨4, k.c, M.zero8, 0, 0⟩ rfl rfl HK.out.ml rfl) ?_)
  go_ret
  exact ⟨by rw [← h]; rfl, B0.out⟩
theorem rr5 (k : Ky) (b : Bool) (w : World) (hk : k.Ok) (h1 : ¬ k.s = 1) (h2 : ¬ k.s = 2) (h3 : ¬ k.s = 3) (h4 : ¬ k.s = 4) (hb : Hid (false = b)) : Calls Tryz.prog 47 #[.agg k.cells.toArray] w fun e w' => e = .returned (.bool b) ∧ Below w.heap.size w w' := by
  have q := blk_alloc w 48 k.cells
  have c0 := q.cell (kc0 k)
  have HQ := Lib.hid q
  have B0 := Lib.hid (new_below w (.cells k.cells.toArray 48))
  have HK := Lib.hid hk
  have h := hb.out
  clear hb
  clear q hk
  subst h
  go_enter Tryz.func47, Tryz.ntmps47
  go_wp2_with fail
  go_ret
  exact ⟨rfl, B0.out⟩
theorem refKright_is (k : Ky) (b : Bool) (w : World) (hk : k.Ok) (hb : Hid (k.right = b)) : Calls Tryz.prog 47 #[.agg k.cells.toArray] w fun e w' => e = .returned (.bool b) ∧ Below w.heap.size w w' := by
  have h := hb.out
  by_cases h1 : k.s = 1
  · rw [right1 h1] at h; exact rr1 k b w hk h1 (Lib.hid h)
  · by_cases h2 : k.s = 2
    · rw [right2 (.inl h2)] at h; exact rr2 k b w hk h2 (Lib.hid h)
    · by_cases h3 : k.s = 3
      · rw [right2 (.inr h3)] at h; exact rr3 k b w hk h3 (Lib.hid h)
      · by_cases h4 : k.s = 4
        · rw [right4 h4] at h; exact rr4 k b w hk h4 (Lib.hid h)
        · rw [right5 h1 h2 h3 h4] at h; exact rr5 k b w hk h1 h2 h3 h4 (Lib.hid h)
end Go.Proofs.YtnpbmihbmilkbaaGreat
namespace Go.Proofs.YtnpbmihbmilkbaaGreat
open Go.RowKit
theorem wpAnyH_narrow {P : Program} {ops : Array Oper} {Q : Exit → Act → World → Prop} {md : Region.Mode} {S S' : World → Prop} (h : ∀ W, S' W → S W) : ∀ (fuel : Nat) (listed : Array Bool) (a : Act) (w : World), wpAnyH P md ops Q S' fuel listed a w → wpAnyH P md ops Q S fuel listed a w
  | 0, _, _, _, hh => hh
  | fuel + 1, _, _, _, hh => ⟨hh.1, fun i hi => wpOp_mono (fun a' w' h' => ⟨h w' h'.1, wpAnyH_narrow h fuel _ a' w' h'.2⟩) (hh.2 i hi)⟩
structure WS (w : World) (k : Ky) (W : World) : Prop where
  bel : Below w.heap.size w W
  blk : Blk W w.heap.size 48 k.cells
theorem WS.drew {w : World} {k : Ky} {W : World} (h : WS w k W) : WS w k W.drew := ⟨below_drew h.bel, h.blk.drew⟩
theorem WS.below {w : World} {k : Ky} {W W' : World} (h : WS w k W) (hb : Below W.heap.size W W') : WS w k W' := ⟨step_ h.bel hb, h.blk.below hb⟩
theorem WS.only {w : World} {k : Ky} {W W' : World} {g : Nat} (h : WS w k W) (hb : Only g W W') (hg : w.heap.size < g) : WS w k W' := ⟨h.bel.trans (hb.below (Nat.le_of_lt hg) h.bel.size), h.blk.only hb (Nat.ne_of_lt hg)⟩
theorem ws_new (w : World) (k : Ky) (o : Obj) : WS w k ((w.alloc (.cells k.cells.toArray 48)).alloc o) := ⟨step_ (new_below w _) (new_below _ _), (blk_alloc w 48 k.cells).alloc o⟩
theorem setCells_wd {w : World} {g : Nat} {p q r : Int} (x y z : Int) (h : Blk w g 95 (wd p q r)) : Blk (w.setCells g 0 (wd x y z)) g 95 (wd x y z) := by
  have hB := Blk.setCells (wd x y z) 0 w (wd p q r) h
  rwa [setL_all _ _ (by rfl)] at hB
theorem spell0 {k : Ky} (h : k.Ok) : bits .or .u64 (IntKind.u64.wrap (IntKind.u64.wrap k.s * 65536)) (IntKind.u64.wrap k.c) = k.w0 := by
  have := h.s0; have := h.s1; have := h.c0; have := h.c1
  have e1 : IntKind.u64.wrap k.s = k.s := by rw [IntKind.wrap_u64]; omega
  have e2 : IntKind.u64.wrap (k.s * 65536) = k.s * 65536 := by rw [IntKind.wrap_u64]; omega
  have e3 : IntKind.u64.wrap k.c = k.c := by rw [IntKind.wrap_u64]; omega
  rw [e1, e2, e3]
  exact or16 _ _ h.s0 h.s1 h.c0 h.c1
theorem spell1 {k : Ky} (h : k.Ok) : IntKind.u64.wrap (IntKind.u64.wrap (IntKind.u64.wrap k.s * 65536) + IntKind.u64.wrap k.c) = k.w0 := by
  have := h.s0; have := h.s1; have := h.c0; have := h.c1
  unfold Ky.w0
  rw [IntKind.wrap_u64, IntKind.wrap_u64, IntKind.wrap_u64, IntKind.wrap_u64]; omega
theorem spell2 {k : Ky} (h : k.Ok) : IntKind.u64.wrap (IntKind.u64.wrap (IntKind.u64.wrap k.r * 4294967296) + IntKind.u64.wrap k.q) = k.w2 := by
  have := h.r0; have := h.r1; have := h.q0; have := h.q1
  unfold Ky.w2
  rw [IntKind.wrap_u64, IntKind.wrap_u64, IntKind.wrap_u64, IntKind.wrap_u64]; omega
set_option maxRecDepth 100000 in
set_option maxHeartbeats 2000000 in
theorem words_is (k : Ky) (w : World) (hk : k.Ok) : Calls Tryz.prog 115 #[.agg k.cells.toArray] w fun e w' => e = .returned (.agg (wd k.w0 k.w1 k.w2).toArray) ∧ Below w.heap.size w w' := by
  have hz := zero29
  have S0 := Lib.hid (ws_new w k (.cells (wd 0 0 0).toArray 95))
  have Z0 := Lib.hid (blk2 w (.cells k.cells.toArray 48) 95 (wd 0 0 0))
  have HK := Lib.hid hk
  clear hk
  go_enter Tryz.func115, Tryz.ntmps115
  go_wp2_with fail
  have S1 := Lib.hid S0.out.drew
  have Z1 := Lib.hid Z0.out.drew
  refine wp_region_noPanic ?_
  refine wp_region_held_drew (S := WS w k) (by kernel_rfl) S1.out (fun _ => ?_)
  refine tkm 0 rfl S1.out ?_; try simp only [Act.put, stA, stZ, stS]
  refine tkv 1 _ rfl (fun W hW => by have c := hW.blk.cell (kc0 k); (go_simp; try with_reducible rfl)) S1.out ?_; try simp only [Act.put, stA, stZ, stS]
  refine tkm 2 rfl S1.out ?_; try simp only [Act.put, stA, stZ, stS]
  refine tkm 3 rfl S1.out ?_; try simp only [Act.put, stA, stZ, stS]
  refine tkm 4 rfl S1.out ?_; try simp only [Act.put, stA, stZ, stS]
  refine tkv 5 _ rfl (fun W hW => by have c := hW.blk.cell (kc1 k); (go_simp; try with_reducible rfl)) S1.out ?_; try simp only [Act.put, stA, stZ, stS]
  refine tkm 6 rfl S1.out ?_; try simp only [Act.put, stA, stZ, stS]
  refine tkv 7 (.int .u64 k.w0) rfl (fun W hW => (by (go_simp; exact spell0 HK.out))) S1.out ?_; try simp only [Act.put, stA, stZ, stS]
  refine tkm 8 rfl S1.out ?_; try simp only [Act.put, stA, stZ, stS]
  refine tky 9 (.agg (k.m.map (Value.int .u8)).toArray) rfl (yieldsIf_load_mid (by rfl) 40 (.tmp 11) rfl w.heap.size 2 rfl (k.m.map (Value.int .u8)) _ (fun W hW => hW.blk.knm HK.out.ml) Tryz.underlying40 rfl (by rw [List.length_map, HK.out.ml]; exact size23)) S1.out ?_; try simp only [Act.put, stA, stZ, stS]
  refine tky 11 (.agg k.cells.toArray) rfl (yieldsIf_load_mid (by rfl) 48 (.tmp 1) rfl w.heap.size 0 rfl k.cells _ (fun W hW => hW.blk.range) Tryz.underlying48 rfl (size27 HK.out.ml)) S1.out ?_; try simp only [Act.put, stA, stZ, stS]
  refine rdy [10] ?_
  refine AllReadyH.cons (arR rfl) (fun K hK => ?_) AllReadyH.nil
  go_simp
  refine (number_is k.m k.w1 _ HK.out.ml (Lib.hid HK.out.mb) (Lib.hid rfl)).mono ?_
  rintro e w1 ⟨rfl, b1⟩
  have S2 := Lib.hid (S1.out.below b1)
  have Z2 := Lib.hid (Z1.out.below b1)
  clear b1
  go_wp2_with fail
  refine hK.out _ _ ?_ (fun _ => ?_)
  · exact S2.out
  clear hK K
  try simp only [Act.put, stA, stZ, stS]
  refine rdy [12] ?_
  refine AllReadyH.cons (arR rfl) (fun K hK => ?_) AllReadyH.nil
  go_simp
  refine (dot_is k _ HK.out).mono ?_
  rintro e w2 ⟨rfl, b2⟩
  have S3 := Lib.hid (S2.out.below b2)
  have Z3 := Lib.hid (Z2.out.below b2)
  clear b2
  go_wp2_with fail
  refine hK.out _ _ ?_ (fun _ => ?_)
  · exact S3.out
  clear hK K
  try simp only [Act.put, stA, stZ, stS]
  refine tkv 13 (.agg (wd k.w0 k.w1 k.w2).toArray) rfl (fun W hW => exec_build 95 _ rfl [(0, .int .u64 k.w0), (1, .int .u64 k.w1), (2, .int .u64 k.w2)] rfl _ (built29 _ _ _)) S3.out ?_; try simp only [Act.put, stA, stZ, stS]
  refine rdy [14] ?_
  refine AllReadyH.cons (arR rfl) (fun K hK => ?_) AllReadyH.nil
  rw [if_pos (by rfl)]
  refine wp_store_mid 95 (.tmp 2) (.tmp 16) rfl (w.heap.size + 1) 0 (wd k.w0 k.w1 k.w2).toArray rfl rfl (Z3.out.there 0 _ (by simp [wd])) (by rw [List.size_toArray]; exact size29 _ _ _) (one29 _ _ _) ?_
  have ON := Lib.hid (Only.setCells (g := w.heap.size + 1) (wd k.w0 k.w1 k.w2) 0 _ |> fun h => (S3.out).only h (Nat.lt_succ_self _))
  have ZN := Lib.hid (setCells_wd k.w0 k.w1 k.w2 Z3.out)
  refine hK.out _ _ ON.out (fun _ => ?_)
  clear hK K
  simp only [Act.put]
  refine wpAnyH_done (by kernel_rfl) ?_ _
  refine NoPanic.normal ?_
  go_wp2_with fail
  refine bodyPost_ret (results_wd rfl _ _ (w.heap.size + 1) _ _ _ rfl ZN.out) rfl ?_
  exact ⟨rfl, ON.out.bel⟩
set_option maxRecDepth 100000 in
set_option maxHeartbeats 2000000 in
theorem refWords_is (k : Ky) (w : World) (hk : k.Ok) : Calls Tryz.prog 62 #[.agg k.cells.toArray] w fun e w' => e = .returned (.agg (wd k.w0 k.w1 k.w2).toArray) ∧ Below w.heap.size w w' := by
  have hz := zero29
  have S0 := Lib.hid (ws_new w k (.cells (wd 0 0 0).toArray 95))
  have Z0 := Lib.hid (blk2 w (.cells k.cells.toArray 48) 95 (wd 0 0 0))
  have HK := Lib.hid hk
  clear hk
  go_enter Tryz.func62, Tryz.ntmps62
  go_wp2_with fail
  have S1 := Lib.hid S0.out.drew
  have Z1 := Lib.hid Z0.out.drew
  refine wp_region_noPanic ?_
  refine wp_region_held_drew (S := WS w k) (by kernel_rfl) S1.out (fun _ => ?_)
  refine tkm 0 rfl S1.out ?_; try simp only [Act.put, stA, stZ, stS]
  refine tkv 1 _ rfl (fun W hW => by have c := hW.blk.cell (kc0 k); (go_simp; try with_reducible rfl)) S1.out ?_; try simp only [Act.put, stA, stZ, stS]
  refine tkm 2 rfl S1.out ?_; try simp only [Act.put, stA, stZ, stS]
  refine tkm 3 rfl S1.out ?_; try simp only [Act.put, stA, stZ, stS]
  refine tkm 4 rfl S1.out ?_; try simp only [Act.put, stA, stZ, stS]
  refine tkv 5 _ rfl (fun W hW => by have c := hW.blk.cell (kc1 k); (go_simp; try with_reducible rfl)) S1.out ?_; try simp only [Act.put, stA, stZ, stS]
  refine tkm 6 rfl S1.out ?_; try simp only [Act.put, stA, stZ, stS]
  refine tkv 7 (.int .u64 k.w0) rfl (fun W hW => (by (go_simp; exact spell1 HK.out))) S1.out ?_; try simp only [Act.put, stA, stZ, stS]
  refine tkm 8 rfl S1.out ?_; try simp only [Act.put, stA, stZ, stS]
  refine tky 9 (.agg (k.m.map (Value.int .u8)).toArray) rfl (yieldsIf_load_mid (by rfl) 40 (.tmp 11) rfl w.heap.size 2 rfl (k.m.map (Value.int .u8)) _ (fun W hW => hW.blk.knm HK.out.ml) Tryz.underlying40 rfl (by rw [List.length_map, HK.out.ml]; exact size23)) S1.out ?_; try simp only [Act.put, stA, stZ, stS]
  refine tkm 11 rfl S1.out ?_; try simp only [Act.put, stA, stZ, stS]
  refine tkv 12 _ rfl (fun W hW => by have c := hW.blk.cell (kc10 HK.out.ml); (go_simp; try with_reducible rfl)) S1.out ?_; try simp only [Act.put, stA, stZ, stS]
  refine tkm 13 rfl S1.out ?_; try simp only [Act.put, stA, stZ, stS]
  refine tkm 14 rfl S1.out ?_; try simp only [Act.put, stA, stZ, stS]
  refine tkm 15 rfl S1.out ?_; try simp only [Act.put, stA, stZ, stS]
  refine tkv 16 _ rfl (fun W hW => by have c := hW.blk.cell (kc11 HK.out.ml); (go_simp; try with_reducible rfl)) S1.out ?_; try simp only [Act.put, stA, stZ, stS]
  refine tkm 17 rfl S1.out ?_; try simp only [Act.put, stA, stZ, stS]
  refine tkv 18 (.int .u64 k.w2) rfl (fun W hW => (by (go_simp; exact spell2 HK.out))) S1.out ?_; try simp only [Act.put, stA, stZ, stS]
  refine rdy [10] ?_
  refine AllReadyH.cons (arR rfl) (fun K hK => ?_) AllReadyH.nil
  go_simp
  refine (refNumber_is k.m k.w1 _ HK.out.ml (Lib.hid HK.out.mb) (Lib.hid rfl)).mono ?_
  rintro e w1 ⟨rfl, b1⟩
  have S2 := Lib.hid (S1.out.below b1)
  have Z2 := Lib.hid (Z1.out.below b1)
  clear b1
  go_wp2_with fail
  refine hK.out _ _ ?_ (fun _ => ?_)
  · exact S2.out
  clear hK K
  try simp only [Act.put, stA, stZ, stS]
  refine tkv 19 (.agg (wd k.w0 k.w1 k.w2).toArray) rfl (fun W hW => exec_build 95 _ rfl [(0, .int .u64 k.w0), (1, .int .u64 k.w1), (2, .int .u64 k.w2)] rfl _ (built29 _ _ _)) S2.out ?_; try simp only [Act.put, stA, stZ, stS]
  refine rdy [20] ?_
  refine AllReadyH.cons (arR rfl) (fun K hK => ?_) AllReadyH.nil
  rw [if_pos (by rfl)]
  refine wp_store_mid 95 (.tmp 2) (.tmp 22) rfl (w.heap.size + 1) 0 (wd k.w0 k.w1 k.w2).toArray rfl rfl (Z2.out.there 0 _ (by simp [wd])) (by rw [List.size_toArray]; exact size29 _ _ _) (one29 _ _ _) ?_
  have ON := Lib.hid (Only.setCells (g := w.heap.size + 1) (wd k.w0 k.w1 k.w2) 0 _ |> fun h => (S2.out).only h (Nat.lt_succ_self _))
  have ZN := Lib.hid (setCells_wd k.w0 k.w1 k.w2 Z2.out)
  refine hK.out _ _ ON.out (fun _ => ?_)
  clear hK K
  simp only [Act.put]
  refine wpAnyH_done (by kernel_rfl) ?_ _
  refine NoPanic.normal ?_
  go_wp2_with fail
  refine bodyPost_ret (results_wd rfl _ _ (w.heap.size + 1) _ _ _ rfl ZN.out) rfl ?_
  exact ⟨rfl, ON.out.bel⟩
end Go.Proofs.YtnpbmihbmilkbaaGreat
