/- The contracts of slices.Compare at three words, and of Less of package key and of the reference. -/
import Derived.Test.YtnpbmihbmilkbaaGreatG01
import Derived.Test.YtnpbmihbmilkbaaGreatG09
namespace Go.Proofs.YtnpbmihbmilkbaaGreat
open Go.RowKit
def cmp3 (a b c x y z : Int) : Int := if cmp2 a x ≠ 0 then cmp2 a x else if cmp2 b y ≠ 0 then cmp2 b y else cmp2 c z
theorem cmp2_zero {x y : Int} : cmp2 x y = 0 ↔ x = y := by
  unfold cmp2
  constructor
  · intro h
    split at h
    · omega
    · split at h <;> omega
  · intro h; rw [if_neg (by omega), if_neg (by omega)]
theorem cmp2_neg {x y : Int} : decide (cmp2 x y < 0) = decide (x < y) := by
  unfold cmp2
  split
  · rename_i h; simp [h]
  · rename_i h
    split
    · simp [h]
    · simp [h]
theorem cmp3_less (a b c x y z : Int) : decide (cmp3 a b c x y z < 0) = less3 a b c x y z := by
  unfold cmp3 less3
  by_cases e : a = x
  · rw [if_neg (show ¬ (cmp2 a x ≠ 0) from fun h => h (cmp2_zero.2 e)), if_neg (show ¬ (a ≠ x) from fun h => h e)]
    by_cases e1 : b = y
    · rw [if_neg (show ¬ (cmp2 b y ≠ 0) from fun h => h (cmp2_zero.2 e1)), if_neg (show ¬ (b ≠ y) from fun h => h e1)]
      exact cmp2_neg
    · rw [if_pos (show cmp2 b y ≠ 0 from fun h => e1 (cmp2_zero.1 h)), if_pos (show b ≠ y from e1)]
      exact cmp2_neg
  · rw [if_pos (show cmp2 a x ≠ 0 from fun h => e (cmp2_zero.1 h)), if_pos (show a ≠ x from e)]
    exact cmp2_neg
theorem Blk.drewN {w : World} {g t : Nat} {cs : List Value} (h : Blk w g t cs) (n : Nat) : Blk (w.drewN n) g t cs := h
theorem cmpA (g h : Nat) (a b c x y z : Int) (w : World) (h1 : Blk w g 95 (wd a b c)) (h2 : Blk w h 95 (wd x y z)) (d : Int) (e0 : cmp2 a x = d) (hd : ¬ d = 0) :
    Calls Tryz.prog 116 #[.slice (some ⟨g, 0, none⟩) 3 3, .slice (some ⟨h, 0, none⟩) 3 3] w fun e w' => e = .returned (.int .i64 (d)) ∧ w = w' := by
  have a0 := h1.cell (wd0 a b c)
  have a1 := h1.cell (wd1 a b c)
  have a2 := h1.cell (wd2 a b c)
  have b0 := h2.cell (wd0 x y z)
  have b1 := h2.cell (wd1 x y z)
  have b2 := h2.cell (wd2 x y z)
  clear h1 h2
  go_enter Tryz.func116, Tryz.ntmps116
  go_wp2_with fail
  refine wp_loop_rounds 4 ?_
  rw [rounds_succ]
  go_wp2_with fail
  refine (compare_is a x _).mono ?_
  rintro e w1 ⟨rfl, rfl⟩
  rw [e0]
  go_wp2_with fail
  go_ret
  exact ⟨rfl, rfl⟩
theorem cmpB (g h : Nat) (a b c x y z : Int) (w : World) (h1 : Blk w g 95 (wd a b c)) (h2 : Blk w h 95 (wd x y z)) (d : Int) (e0 : cmp2 a x = 0) (e1 : cmp2 b y = d) (hd : ¬ d = 0) :
    Calls Tryz.prog 116 #[.slice (some ⟨g, 0, none⟩) 3 3, .slice (some ⟨h, 0, none⟩) 3 3] w fun e w' => e = .returned (.int .i64 (d)) ∧ w = w' := by
  have a0 := h1.cell (wd0 a b c)
  have a1 := h1.cell (wd1 a b c)
  have a2 := h1.cell (wd2 a b c)
  have b0 := h2.cell (wd0 x y z)
  have b1 := h2.cell (wd1 x y z)
  have b2 := h2.cell (wd2 x y z)
  clear h1 h2
  go_enter Tryz.func116, Tryz.ntmps116
  go_wp2_with fail
  refine wp_loop_rounds 4 ?_
  rw [rounds_succ]
  go_wp2_with fail
  refine (compare_is a x _).mono ?_
  rintro e w1 ⟨rfl, rfl⟩
  rw [e0]
  go_wp2_with fail
  rw [rounds_succ]
  go_wp2_with fail
  refine (compare_is b y _).mono ?_
  rintro e w1 ⟨rfl, rfl⟩
  rw [e1]
  go_wp2_with fail
  go_ret
  exact ⟨rfl, rfl⟩
theorem cmpC (g h : Nat) (a b c x y z : Int) (w : World) (h1 : Blk w g 95 (wd a b c)) (h2 : Blk w h 95 (wd x y z)) (d : Int) (e0 : cmp2 a x = 0) (e1 : cmp2 b y = 0) (e2 : cmp2 c z = d) (hd : ¬ d = 0) :
    Calls Tryz.prog 116 #[.slice (some ⟨g, 0, none⟩) 3 3, .slice (some ⟨h, 0, none⟩) 3 3] w fun e w' => e = .returned (.int .i64 (d)) ∧ w = w' := by
  have a0 := h1.cell (wd0 a b c)
  have a1 := h1.cell (wd1 a b c)
  have a2 := h1.cell (wd2 a b c)
  have b0 := h2.cell (wd0 x y z)
  have b1 := h2.cell (wd1 x y z)
  have b2 := h2.cell (wd2 x y z)
  clear h1 h2
  go_enter Tryz.func116, Tryz.ntmps116
  go_wp2_with fail
  refine wp_loop_rounds 4 ?_
  rw [rounds_succ]
  go_wp2_with fail
  refine (compare_is a x _).mono ?_
  rintro e w1 ⟨rfl, rfl⟩
  rw [e0]
  go_wp2_with fail
  rw [rounds_succ]
  go_wp2_with fail
  refine (compare_is b y _).mono ?_
  rintro e w1 ⟨rfl, rfl⟩
  rw [e1]
  go_wp2_with fail
  rw [rounds_succ]
  go_wp2_with fail
  refine (compare_is c z _).mono ?_
  rintro e w1 ⟨rfl, rfl⟩
  rw [e2]
  go_wp2_with fail
  go_ret
  exact ⟨rfl, rfl⟩
theorem cmpD (g h : Nat) (a b c x y z : Int) (w : World) (h1 : Blk w g 95 (wd a b c)) (h2 : Blk w h 95 (wd x y z)) (e0 : cmp2 a x = 0) (e1 : cmp2 b y = 0) (e2 : cmp2 c z = 0) :
    Calls Tryz.prog 116 #[.slice (some ⟨g, 0, none⟩) 3 3, .slice (some ⟨h, 0, none⟩) 3 3] w fun e w' => e = .returned (.int .i64 (0)) ∧ w = w' := by
  have a0 := h1.cell (wd0 a b c)
  have a1 := h1.cell (wd1 a b c)
  have a2 := h1.cell (wd2 a b c)
  have b0 := h2.cell (wd0 x y z)
  have b1 := h2.cell (wd1 x y z)
  have b2 := h2.cell (wd2 x y z)
  clear h1 h2
  go_enter Tryz.func116, Tryz.ntmps116
  go_wp2_with fail
  refine wp_loop_rounds 4 ?_
  rw [rounds_succ]
  go_wp2_with fail
  refine (compare_is a x _).mono ?_
  rintro e w1 ⟨rfl, rfl⟩
  rw [e0]
  go_wp2_with fail
  rw [rounds_succ]
  go_wp2_with fail
  refine (compare_is b y _).mono ?_
  rintro e w1 ⟨rfl, rfl⟩
  rw [e1]
  go_wp2_with fail
  rw [rounds_succ]
  go_wp2_with fail
  refine (compare_is c z _).mono ?_
  rintro e w1 ⟨rfl, rfl⟩
  rw [e2]
  go_wp2_with fail
  rw [rounds_succ]
  go_wp2_with fail
  go_ret
  exact ⟨rfl, rfl⟩
theorem slicesCompare_is (g h : Nat) (a b c x y z : Int) (w : World) (h1 : Blk w g 95 (wd a b c)) (h2 : Blk w h 95 (wd x y z)) :
    Calls Tryz.prog 116 #[.slice (some ⟨g, 0, none⟩) 3 3, .slice (some ⟨h, 0, none⟩) 3 3] w fun e w' => e = .returned (.int .i64 (cmp3 a b c x y z)) ∧ w = w' := by
  by_cases e0 : cmp2 a x = 0
  · by_cases e1 : cmp2 b y = 0
    · have hv : cmp3 a b c x y z = cmp2 c z := by unfold cmp3; rw [if_neg (fun h => h e0), if_neg (fun h => h e1)]
      rw [hv]
      by_cases e2 : cmp2 c z = 0
      · rw [e2]; exact cmpD g h a b c x y z w h1 h2 e0 e1 e2
      · exact cmpC g h a b c x y z w h1 h2 _ e0 e1 rfl e2
    · have hv : cmp3 a b c x y z = cmp2 b y := by unfold cmp3; rw [if_neg (fun h => h e0), if_pos e1]
      rw [hv]
      exact cmpB g h a b c x y z w h1 h2 _ e0 rfl e1
  · have hv : cmp3 a b c x y z = cmp2 a x := by unfold cmp3; rw [if_pos e0]
    rw [hv]
    exact cmpA g h a b c x y z w h1 h2 _ rfl e0
structure LS (w : World) (A B : Ky) (W : World) : Prop where
  bel : Below w.heap.size w W
  one : Blk W w.heap.size 48 A.cells
  two : Blk W (w.heap.size + 1) 48 B.cells
theorem LS.drew {w : World} {A B : Ky} {W : World} (h : LS w A B W) : LS w A B W.drew := ⟨below_drew h.bel, h.one.drew, h.two.drew⟩
theorem LS.below {w : World} {A B : Ky} {W W' : World} (h : LS w A B W) (hb : Below W.heap.size W W') : LS w A B W' := ⟨step_ h.bel hb, h.one.below hb, h.two.below hb⟩
theorem LS.only {w : World} {A B : Ky} {W W' : World} {g : Nat} (h : LS w A B W) (hb : Only g W W') (hg : w.heap.size + 1 < g) : LS w A B W' := ⟨h.bel.trans (hb.below (by omega) h.bel.size), h.one.only hb (by omega), h.two.only hb (by omega)⟩
theorem ls_new (w : World) (A B : Ky) : LS w A B ((w.alloc (.cells A.cells.toArray 48)).alloc (.cells B.cells.toArray 48)) := ⟨step_ (new_below w _) (new_below _ _), (blk_alloc w 48 A.cells).alloc _, blk2 w _ 48 B.cells⟩
theorem LS.size {w : World} {A B : Ky} {W : World} (h : LS w A B W) : w.heap.size + 1 < W.heap.size := h.two.lt
theorem ready_alloc {ops : Array Oper} {Q : Exit → Act → World → Prop} {md : Region.Mode} {S : World → Prop} {fuel : Nat} {listed : Array Bool} {a : Act} {w : World} {i : Nat} {o : Oper} {rs : List Nat} (ho : ops[i]? = some o) (hg : o.guard = none) (hop : o.op = .alloc 95)
    (h : ∀ g w', g = w.heap.size → Blk w' g 95 (wd 0 0 0) → Below w.heap.size w w' → S w' ∧ wpAnyH Tryz.prog md ops Q S fuel (listed.setIfInBounds i true) (a.put o.dst (.pointer (some ⟨g, 0, none⟩))) w')
    (hs : AllReadyH Tryz.prog md ops Q S fuel listed a w rs) : AllReadyH Tryz.prog md ops Q S fuel listed a w (i :: rs) := by
  refine AllReadyH.cons ho (fun K hK => ?_) hs
  have hw : Region.wanted o (yielded ops a.tmps) = true := by simp [Region.wanted, hg]
  rw [if_pos hw]
  have hz := zero29
  have H := h w.heap.size (w.alloc (.cells (wd 0 0 0).toArray 95)) rfl (blk_alloc w 95 (wd 0 0 0)) (new_below w _)
  unfold Oper.wp execOp
  simp [hop, Instr.alloc, hz]
  exact hK.out _ _ H.1 (fun _ => H.2)
set_option maxRecDepth 100000 in
set_option maxHeartbeats 4000000 in
theorem less_is (A B : Ky) (b : Bool) (w : World) (hA : A.Ok) (hB : B.Ok) (hb : Hid (A.less B = b)) : Calls Tryz.prog 93 #[.agg A.cells.toArray, .agg B.cells.toArray] w fun e w' => e = .returned (.bool b) ∧ Below w.heap.size w w' := by
  have S0 := Lib.hid (ls_new w A B)
  have HA := Lib.hid hA
  have HB := Lib.hid hB
  clear hA hB
  go_enter Tryz.func93, Tryz.ntmps93
  go_wp2_with fail
  have S1 := Lib.hid S0.out.drew
  clear S0
  refine Code.wp_mono (Q := fun e a W => e = .normal ∧ ∃ g h, a = (⟨#[.agg A.cells.toArray, .agg B.cells.toArray, .pointer (some ⟨w.heap.size, 0, none⟩), .pointer (some ⟨w.heap.size + 1, 0, none⟩), .bool false, .pointer (some ⟨g, 0, none⟩), .pointer (some ⟨h, 0, none⟩), .agg A.cells.toArray, .agg (wd A.w0 A.w1 A.w2).toArray, .agg B.cells.toArray, .agg (wd B.w0 B.w1 B.w2).toArray, undef, undef, undef, undef], []⟩ : Act) ∧ g ≠ h ∧ w.heap.size ≤ g ∧ w.heap.size ≤ h ∧ Blk W g 95 (wd A.w0 A.w1 A.w2) ∧ Blk W h 95 (wd B.w0 B.w1 B.w2) ∧ Below w.heap.size w W) ?_ ?_
  rotate_left
  ·
    refine wp_region_noPanic ?_
    refine wp_region_held_drew (S := LS w A B) (by kernel_rfl) S1.out (fun _ => ?_)
    refine tky 0 (.agg A.cells.toArray) rfl (yieldsIf_load_mid (by rfl) 48 (.tmp 2) rfl w.heap.size 0 rfl A.cells _ (fun W hW => hW.one.range) Tryz.underlying48 rfl (size27 HA.out.ml)) S1.out ?_; try simp only [Act.put, stA, stZ, stS]
    refine tky 2 (.agg B.cells.toArray) rfl (yieldsIf_load_mid (by rfl) 48 (.tmp 3) rfl (w.heap.size + 1) 0 rfl B.cells _ (fun W hW => hW.two.range) Tryz.underlying48 rfl (size27 HB.out.ml)) S1.out ?_; try simp only [Act.put, stA, stZ, stS]
    refine rdy [1, 4, 5] ?_
    refine AllReadyH.cons (arR rfl) (fun K hK => ?_) ?_
    ·
      go_simp
      refine (words_is A _ HA.out).mono ?_
      rintro e W1 ⟨rfl, b1⟩
      have S1 := Lib.hid (S1.out.below b1)
      clear b1
      go_wp2_with fail
      refine hK.out _ _ S1.out (fun _ => ?_)
      clear hK K
      try simp only [Act.put, stA, stZ, stS]
      refine rdy [3, 4, 5] ?_
      refine AllReadyH.cons (arR rfl) (fun K hK => ?_) ?_
      ·
        go_simp
        refine (words_is B _ HB.out).mono ?_
        rintro e W2 ⟨rfl, b2⟩
        have S2 := Lib.hid (S1.out.below b2)
        clear b2
        go_wp2_with fail
        refine hK.out _ _ S2.out (fun _ => ?_)
        clear hK K
        try simp only [Act.put, stA, stZ, stS]
        refine rdy [4, 5] ?_
        refine ready_alloc (arR rfl) rfl rfl (fun g3 W3 e3 z3 b3 => ⟨S2.out.below b3, ?_⟩) ?_
        ·
          have S3 := Lib.hid (S2.out.below b3)
          have Z3 := Lib.hid z3
          have Lg3 := Lib.hid (show w.heap.size + 1 < g3 from e3 ▸ S2.out.size)
          clear e3 z3 b3
          try simp only [Act.put, stA, stZ, stS]
          refine rdy [5] ?_
          refine ready_alloc (arR rfl) rfl rfl (fun g4 W4 e4 z4 b4 => ⟨S3.out.below b4, ?_⟩) ?_
          ·
            have S4 := Lib.hid (S3.out.below b4)
            have Z4 := Lib.hid z4
            have Lg4 := Lib.hid (show w.heap.size + 1 < g4 from e4 ▸ S3.out.size)
            have Z44x := Lib.hid (Z3.out.below b4)
            have NE := Lib.hid (show g3 ≠ g4 by have := Z3.out.lt; omega)
            clear e4 z4 b4
            try simp only [Act.put, stA, stZ, stS]
            refine rdy [6] ?_
            refine AllReadyH.cons (arR rfl) (fun K hK => ?_) AllReadyH.nil
            rw [if_pos (by rfl)]
            refine wp_store_mid 95 (.tmp 5) (.tmp 8) rfl g3 0 (wd A.w0 A.w1 A.w2).toArray rfl rfl (Z44x.out.there 0 _ (by simp [wd])) (by rw [List.size_toArray]; exact size29 _ _ _) (one29 _ _ _) ?_
            have O5 := Lib.hid (Only.setCells (g := g3) (wd A.w0 A.w1 A.w2) 0 W4)
            have P5 := Lib.hid (S4.out.only (O5.out) Lg3.out)
            have Y5 := Lib.hid (setCells_wd A.w0 A.w1 A.w2 Z44x.out)
            have X5 := Lib.hid (Z4.out.only (O5.out) (fun e => NE.out e.symm))
            refine hK.out _ _ P5.out (fun _ => ?_)
            clear hK K
            simp only [Act.put]
            refine rdy [7] ?_
            refine AllReadyH.cons (arR rfl) (fun K hK => ?_) AllReadyH.nil
            rw [if_pos (by rfl)]
            refine wp_store_mid 95 (.tmp 6) (.tmp 10) rfl g4 0 (wd B.w0 B.w1 B.w2).toArray rfl rfl (X5.out.there 0 _ (by simp [wd])) (by rw [List.size_toArray]; exact size29 _ _ _) (one29 _ _ _) ?_
            have O5' := Lib.hid (Only.setCells (g := g4) (wd B.w0 B.w1 B.w2) 0 (W4.setCells g3 0 (wd A.w0 A.w1 A.w2)))
            have P5' := Lib.hid (P5.out.only (O5'.out) Lg4.out)
            have Y5' := Lib.hid (Y5.out.only (O5'.out) NE.out)
            have X5' := Lib.hid (setCells_wd B.w0 B.w1 B.w2 X5.out)
            refine hK.out _ _ P5'.out (fun _ => ?_)
            clear hK K
            simp only [Act.put]
            refine wpAnyH_done (by kernel_rfl) ?_ _
            exact ⟨rfl, g3, g4, rfl, NE.out, by have := Lg3.out; omega, by have := Lg4.out; omega, Y5'.out, X5'.out, P5'.out.bel⟩
          exact AllReadyH.nil
        refine ready_alloc (arR rfl) rfl rfl (fun g6 W6 e6 z6 b6 => ⟨S2.out.below b6, ?_⟩) ?_
        ·
          have S6 := Lib.hid (S2.out.below b6)
          have Z6 := Lib.hid z6
          have Lg6 := Lib.hid (show w.heap.size + 1 < g6 from e6 ▸ S2.out.size)
          clear e6 z6 b6
          try simp only [Act.put, stA, stZ, stS]
          refine rdy [4] ?_
          refine ready_alloc (arR rfl) rfl rfl (fun g7 W7 e7 z7 b7 => ⟨S6.out.below b7, ?_⟩) ?_
          ·
            have S7 := Lib.hid (S6.out.below b7)
            have Z7 := Lib.hid z7
            have Lg7 := Lib.hid (show w.heap.size + 1 < g7 from e7 ▸ S6.out.size)
            have Z75x := Lib.hid (Z6.out.below b7)
            have NE := Lib.hid (show g7 ≠ g6 by have := Z6.out.lt; omega)
            clear e7 z7 b7
            try simp only [Act.put, stA, stZ, stS]
            refine rdy [6] ?_
            refine AllReadyH.cons (arR rfl) (fun K hK => ?_) AllReadyH.nil
            rw [if_pos (by rfl)]
            refine wp_store_mid 95 (.tmp 5) (.tmp 8) rfl g7 0 (wd A.w0 A.w1 A.w2).toArray rfl rfl (Z7.out.there 0 _ (by simp [wd])) (by rw [List.size_toArray]; exact size29 _ _ _) (one29 _ _ _) ?_
            have O8 := Lib.hid (Only.setCells (g := g7) (wd A.w0 A.w1 A.w2) 0 W7)
            have P8 := Lib.hid (S7.out.only (O8.out) Lg7.out)
            have Y8 := Lib.hid (setCells_wd A.w0 A.w1 A.w2 Z7.out)
            have X8 := Lib.hid (Z75x.out.only (O8.out) (fun e => NE.out e.symm))
            refine hK.out _ _ P8.out (fun _ => ?_)
            clear hK K
            simp only [Act.put]
            refine rdy [7] ?_
            refine AllReadyH.cons (arR rfl) (fun K hK => ?_) AllReadyH.nil
            rw [if_pos (by rfl)]
            refine wp_store_mid 95 (.tmp 6) (.tmp 10) rfl g6 0 (wd B.w0 B.w1 B.w2).toArray rfl rfl (X8.out.there 0 _ (by simp [wd])) (by rw [List.size_toArray]; exact size29 _ _ _) (one29 _ _ _) ?_
            have O8' := Lib.hid (Only.setCells (g := g6) (wd B.w0 B.w1 B.w2) 0 (W7.setCells g7 0 (wd A.w0 A.w1 A.w2)))
            have P8' := Lib.hid (P8.out.only (O8'.out) Lg6.out)
            have Y8' := Lib.hid (Y8.out.only (O8'.out) NE.out)
            have X8' := Lib.hid (setCells_wd B.w0 B.w1 B.w2 X8.out)
            refine hK.out _ _ P8'.out (fun _ => ?_)
            clear hK K
            simp only [Act.put]
            refine wpAnyH_done (by kernel_rfl) ?_ _
            exact ⟨rfl, g7, g6, rfl, NE.out, by have := Lg7.out; omega, by have := Lg6.out; omega, Y8'.out, X8'.out, P8'.out.bel⟩
          exact AllReadyH.nil
        exact AllReadyH.nil
      refine ready_alloc (arR rfl) rfl rfl (fun g9 W9 e9 z9 b9 => ⟨S1.out.below b9, ?_⟩) ?_
      ·
        have S9 := Lib.hid (S1.out.below b9)
        have Z9 := Lib.hid z9
        have Lg9 := Lib.hid (show w.heap.size + 1 < g9 from e9 ▸ S1.out.size)
        clear e9 z9 b9
        try simp only [Act.put, stA, stZ, stS]
        refine rdy [3, 5] ?_
        refine AllReadyH.cons (arR rfl) (fun K hK => ?_) ?_
        ·
          go_simp
          refine (words_is B _ HB.out).mono ?_
          rintro e W10 ⟨rfl, b10⟩
          have S10 := Lib.hid (S9.out.below b10)
          have Z104x := Lib.hid (Z9.out.below b10)
          clear b10
          go_wp2_with fail
          refine hK.out _ _ S10.out (fun _ => ?_)
          clear hK K
          try simp only [Act.put, stA, stZ, stS]
          refine rdy [5] ?_
          refine ready_alloc (arR rfl) rfl rfl (fun g11 W11 e11 z11 b11 => ⟨S10.out.below b11, ?_⟩) ?_
          ·
            have S11 := Lib.hid (S10.out.below b11)
            have Z11 := Lib.hid z11
            have Lg11 := Lib.hid (show w.heap.size + 1 < g11 from e11 ▸ S10.out.size)
            have Z114x := Lib.hid (Z104x.out.below b11)
            have NE := Lib.hid (show g9 ≠ g11 by have := Z104x.out.lt; omega)
            clear e11 z11 b11
            try simp only [Act.put, stA, stZ, stS]
            refine rdy [6] ?_
            refine AllReadyH.cons (arR rfl) (fun K hK => ?_) AllReadyH.nil
            rw [if_pos (by rfl)]
            refine wp_store_mid 95 (.tmp 5) (.tmp 8) rfl g9 0 (wd A.w0 A.w1 A.w2).toArray rfl rfl (Z114x.out.there 0 _ (by simp [wd])) (by rw [List.size_toArray]; exact size29 _ _ _) (one29 _ _ _) ?_
            have O12 := Lib.hid (Only.setCells (g := g9) (wd A.w0 A.w1 A.w2) 0 W11)
            have P12 := Lib.hid (S11.out.only (O12.out) Lg9.out)
            have Y12 := Lib.hid (setCells_wd A.w0 A.w1 A.w2 Z114x.out)
            have X12 := Lib.hid (Z11.out.only (O12.out) (fun e => NE.out e.symm))
            refine hK.out _ _ P12.out (fun _ => ?_)
            clear hK K
            simp only [Act.put]
            refine rdy [7] ?_
            refine AllReadyH.cons (arR rfl) (fun K hK => ?_) AllReadyH.nil
            rw [if_pos (by rfl)]
            refine wp_store_mid 95 (.tmp 6) (.tmp 10) rfl g11 0 (wd B.w0 B.w1 B.w2).toArray rfl rfl (X12.out.there 0 _ (by simp [wd])) (by rw [List.size_toArray]; exact size29 _ _ _) (one29 _ _ _) ?_
            have O12' := Lib.hid (Only.setCells (g := g11) (wd B.w0 B.w1 B.w2) 0 (W11.setCells g9 0 (wd A.w0 A.w1 A.w2)))
            have P12' := Lib.hid (P12.out.only (O12'.out) Lg11.out)
            have Y12' := Lib.hid (Y12.out.only (O12'.out) NE.out)
            have X12' := Lib.hid (setCells_wd B.w0 B.w1 B.w2 X12.out)
            refine hK.out _ _ P12'.out (fun _ => ?_)
            clear hK K
            simp only [Act.put]
            refine wpAnyH_done (by kernel_rfl) ?_ _
            exact ⟨rfl, g9, g11, rfl, NE.out, by have := Lg9.out; omega, by have := Lg11.out; omega, Y12'.out, X12'.out, P12'.out.bel⟩
          exact AllReadyH.nil
        refine ready_alloc (arR rfl) rfl rfl (fun g13 W13 e13 z13 b13 => ⟨S9.out.below b13, ?_⟩) ?_
        ·
          have S13 := Lib.hid (S9.out.below b13)
          have Z13 := Lib.hid z13
          have Lg13 := Lib.hid (show w.heap.size + 1 < g13 from e13 ▸ S9.out.size)
          have Z134x := Lib.hid (Z9.out.below b13)
          have NE := Lib.hid (show g9 ≠ g13 by have := Z9.out.lt; omega)
          clear e13 z13 b13
          try simp only [Act.put, stA, stZ, stS]
          refine rdy [3] ?_
          refine AllReadyH.cons (arR rfl) (fun K hK => ?_) ?_
          ·
            go_simp
            refine (words_is B _ HB.out).mono ?_
            rintro e W14 ⟨rfl, b14⟩
            have S14 := Lib.hid (S13.out.below b14)
            have Z144x := Lib.hid (Z134x.out.below b14)
            have Z145x := Lib.hid (Z13.out.below b14)
            clear b14
            go_wp2_with fail
            refine hK.out _ _ S14.out (fun _ => ?_)
            clear hK K
            try simp only [Act.put, stA, stZ, stS]
            refine rdy [6] ?_
            refine AllReadyH.cons (arR rfl) (fun K hK => ?_) AllReadyH.nil
            rw [if_pos (by rfl)]
            refine wp_store_mid 95 (.tmp 5) (.tmp 8) rfl g9 0 (wd A.w0 A.w1 A.w2).toArray rfl rfl (Z144x.out.there 0 _ (by simp [wd])) (by rw [List.size_toArray]; exact size29 _ _ _) (one29 _ _ _) ?_
            have O15 := Lib.hid (Only.setCells (g := g9) (wd A.w0 A.w1 A.w2) 0 W14)
            have P15 := Lib.hid (S14.out.only (O15.out) Lg9.out)
            have Y15 := Lib.hid (setCells_wd A.w0 A.w1 A.w2 Z144x.out)
            have X15 := Lib.hid (Z145x.out.only (O15.out) (fun e => NE.out e.symm))
            refine hK.out _ _ P15.out (fun _ => ?_)
            clear hK K
            simp only [Act.put]
            refine rdy [7] ?_
            refine AllReadyH.cons (arR rfl) (fun K hK => ?_) AllReadyH.nil
            rw [if_pos (by rfl)]
            refine wp_store_mid 95 (.tmp 6) (.tmp 10) rfl g13 0 (wd B.w0 B.w1 B.w2).toArray rfl rfl (X15.out.there 0 _ (by simp [wd])) (by rw [List.size_toArray]; exact size29 _ _ _) (one29 _ _ _) ?_
            have O15' := Lib.hid (Only.setCells (g := g13) (wd B.w0 B.w1 B.w2) 0 (W14.setCells g9 0 (wd A.w0 A.w1 A.w2)))
            have P15' := Lib.hid (P15.out.only (O15'.out) Lg13.out)
            have Y15' := Lib.hid (Y15.out.only (O15'.out) NE.out)
            have X15' := Lib.hid (setCells_wd B.w0 B.w1 B.w2 X15.out)
            refine hK.out _ _ P15'.out (fun _ => ?_)
            clear hK K
            simp only [Act.put]
            refine wpAnyH_done (by kernel_rfl) ?_ _
            exact ⟨rfl, g9, g13, rfl, NE.out, by have := Lg9.out; omega, by have := Lg13.out; omega, Y15'.out, X15'.out, P15'.out.bel⟩
          exact AllReadyH.nil
        exact AllReadyH.nil
      refine ready_alloc (arR rfl) rfl rfl (fun g16 W16 e16 z16 b16 => ⟨S1.out.below b16, ?_⟩) ?_
      ·
        have S16 := Lib.hid (S1.out.below b16)
        have Z16 := Lib.hid z16
        have Lg16 := Lib.hid (show w.heap.size + 1 < g16 from e16 ▸ S1.out.size)
        clear e16 z16 b16
        try simp only [Act.put, stA, stZ, stS]
        refine rdy [3, 4] ?_
        refine AllReadyH.cons (arR rfl) (fun K hK => ?_) ?_
        ·
          go_simp
          refine (words_is B _ HB.out).mono ?_
          rintro e W17 ⟨rfl, b17⟩
          have S17 := Lib.hid (S16.out.below b17)
          have Z175x := Lib.hid (Z16.out.below b17)
          clear b17
          go_wp2_with fail
          refine hK.out _ _ S17.out (fun _ => ?_)
          clear hK K
          try simp only [Act.put, stA, stZ, stS]
          refine rdy [4] ?_
          refine ready_alloc (arR rfl) rfl rfl (fun g18 W18 e18 z18 b18 => ⟨S17.out.below b18, ?_⟩) ?_
          ·
            have S18 := Lib.hid (S17.out.below b18)
            have Z18 := Lib.hid z18
            have Lg18 := Lib.hid (show w.heap.size + 1 < g18 from e18 ▸ S17.out.size)
            have Z185x := Lib.hid (Z175x.out.below b18)
            have NE := Lib.hid (show g18 ≠ g16 by have := Z175x.out.lt; omega)
            clear e18 z18 b18
            try simp only [Act.put, stA, stZ, stS]
            refine rdy [6] ?_
            refine AllReadyH.cons (arR rfl) (fun K hK => ?_) AllReadyH.nil
            rw [if_pos (by rfl)]
            refine wp_store_mid 95 (.tmp 5) (.tmp 8) rfl g18 0 (wd A.w0 A.w1 A.w2).toArray rfl rfl (Z18.out.there 0 _ (by simp [wd])) (by rw [List.size_toArray]; exact size29 _ _ _) (one29 _ _ _) ?_
            have O19 := Lib.hid (Only.setCells (g := g18) (wd A.w0 A.w1 A.w2) 0 W18)
            have P19 := Lib.hid (S18.out.only (O19.out) Lg18.out)
            have Y19 := Lib.hid (setCells_wd A.w0 A.w1 A.w2 Z18.out)
            have X19 := Lib.hid (Z185x.out.only (O19.out) (fun e => NE.out e.symm))
            refine hK.out _ _ P19.out (fun _ => ?_)
            clear hK K
            simp only [Act.put]
            refine rdy [7] ?_
            refine AllReadyH.cons (arR rfl) (fun K hK => ?_) AllReadyH.nil
            rw [if_pos (by rfl)]
            refine wp_store_mid 95 (.tmp 6) (.tmp 10) rfl g16 0 (wd B.w0 B.w1 B.w2).toArray rfl rfl (X19.out.there 0 _ (by simp [wd])) (by rw [List.size_toArray]; exact size29 _ _ _) (one29 _ _ _) ?_
            have O19' := Lib.hid (Only.setCells (g := g16) (wd B.w0 B.w1 B.w2) 0 (W18.setCells g18 0 (wd A.w0 A.w1 A.w2)))
            have P19' := Lib.hid (P19.out.only (O19'.out) Lg16.out)
            have Y19' := Lib.hid (Y19.out.only (O19'.out) NE.out)
            have X19' := Lib.hid (setCells_wd B.w0 B.w1 B.w2 X19.out)
            refine hK.out _ _ P19'.out (fun _ => ?_)
            clear hK K
            simp only [Act.put]
            refine wpAnyH_done (by kernel_rfl) ?_ _
            exact ⟨rfl, g18, g16, rfl, NE.out, by have := Lg18.out; omega, by have := Lg16.out; omega, Y19'.out, X19'.out, P19'.out.bel⟩
          exact AllReadyH.nil
        refine ready_alloc (arR rfl) rfl rfl (fun g20 W20 e20 z20 b20 => ⟨S16.out.below b20, ?_⟩) ?_
        ·
          have S20 := Lib.hid (S16.out.below b20)
          have Z20 := Lib.hid z20
          have Lg20 := Lib.hid (show w.heap.size + 1 < g20 from e20 ▸ S16.out.size)
          have Z205x := Lib.hid (Z16.out.below b20)
          have NE := Lib.hid (show g20 ≠ g16 by have := Z16.out.lt; omega)
          clear e20 z20 b20
          try simp only [Act.put, stA, stZ, stS]
          refine rdy [3] ?_
          refine AllReadyH.cons (arR rfl) (fun K hK => ?_) ?_
          ·
            go_simp
            refine (words_is B _ HB.out).mono ?_
            rintro e W21 ⟨rfl, b21⟩
            have S21 := Lib.hid (S20.out.below b21)
            have Z215x := Lib.hid (Z205x.out.below b21)
            have Z214x := Lib.hid (Z20.out.below b21)
            clear b21
            go_wp2_with fail
            refine hK.out _ _ S21.out (fun _ => ?_)
            clear hK K
            try simp only [Act.put, stA, stZ, stS]
            refine rdy [6] ?_
            refine AllReadyH.cons (arR rfl) (fun K hK => ?_) AllReadyH.nil
            rw [if_pos (by rfl)]
            refine wp_store_mid 95 (.tmp 5) (.tmp 8) rfl g20 0 (wd A.w0 A.w1 A.w2).toArray rfl rfl (Z214x.out.there 0 _ (by simp [wd])) (by rw [List.size_toArray]; exact size29 _ _ _) (one29 _ _ _) ?_
            have O22 := Lib.hid (Only.setCells (g := g20) (wd A.w0 A.w1 A.w2) 0 W21)
            have P22 := Lib.hid (S21.out.only (O22.out) Lg20.out)
            have Y22 := Lib.hid (setCells_wd A.w0 A.w1 A.w2 Z214x.out)
            have X22 := Lib.hid (Z215x.out.only (O22.out) (fun e => NE.out e.symm))
            refine hK.out _ _ P22.out (fun _ => ?_)
            clear hK K
            simp only [Act.put]
            refine rdy [7] ?_
            refine AllReadyH.cons (arR rfl) (fun K hK => ?_) AllReadyH.nil
            rw [if_pos (by rfl)]
            refine wp_store_mid 95 (.tmp 6) (.tmp 10) rfl g16 0 (wd B.w0 B.w1 B.w2).toArray rfl rfl (X22.out.there 0 _ (by simp [wd])) (by rw [List.size_toArray]; exact size29 _ _ _) (one29 _ _ _) ?_
            have O22' := Lib.hid (Only.setCells (g := g16) (wd B.w0 B.w1 B.w2) 0 (W21.setCells g20 0 (wd A.w0 A.w1 A.w2)))
            have P22' := Lib.hid (P22.out.only (O22'.out) Lg16.out)
            have Y22' := Lib.hid (Y22.out.only (O22'.out) NE.out)
            have X22' := Lib.hid (setCells_wd B.w0 B.w1 B.w2 X22.out)
            refine hK.out _ _ P22'.out (fun _ => ?_)
            clear hK K
            simp only [Act.put]
            refine wpAnyH_done (by kernel_rfl) ?_ _
            exact ⟨rfl, g20, g16, rfl, NE.out, by have := Lg20.out; omega, by have := Lg16.out; omega, Y22'.out, X22'.out, P22'.out.bel⟩
          exact AllReadyH.nil
        exact AllReadyH.nil
      exact AllReadyH.nil
    refine ready_alloc (arR rfl) rfl rfl (fun g23 W23 e23 z23 b23 => ⟨S1.out.below b23, ?_⟩) ?_
    ·
      have S23 := Lib.hid (S1.out.below b23)
      have Z23 := Lib.hid z23
      have Lg23 := Lib.hid (show w.heap.size + 1 < g23 from e23 ▸ S1.out.size)
      clear e23 z23 b23
      try simp only [Act.put, stA, stZ, stS]
      refine rdy [1, 5] ?_
      refine AllReadyH.cons (arR rfl) (fun K hK => ?_) ?_
      ·
        go_simp
        refine (words_is A _ HA.out).mono ?_
        rintro e W24 ⟨rfl, b24⟩
        have S24 := Lib.hid (S23.out.below b24)
        have Z244x := Lib.hid (Z23.out.below b24)
        clear b24
        go_wp2_with fail
        refine hK.out _ _ S24.out (fun _ => ?_)
        clear hK K
        try simp only [Act.put, stA, stZ, stS]
        refine rdy [3, 5] ?_
        refine AllReadyH.cons (arR rfl) (fun K hK => ?_) ?_
        ·
          go_simp
          refine (words_is B _ HB.out).mono ?_
          rintro e W25 ⟨rfl, b25⟩
          have S25 := Lib.hid (S24.out.below b25)
          have Z254x := Lib.hid (Z244x.out.below b25)
          clear b25
          go_wp2_with fail
          refine hK.out _ _ S25.out (fun _ => ?_)
          clear hK K
          try simp only [Act.put, stA, stZ, stS]
          refine rdy [5] ?_
          refine ready_alloc (arR rfl) rfl rfl (fun g26 W26 e26 z26 b26 => ⟨S25.out.below b26, ?_⟩) ?_
          ·
            have S26 := Lib.hid (S25.out.below b26)
            have Z26 := Lib.hid z26
            have Lg26 := Lib.hid (show w.heap.size + 1 < g26 from e26 ▸ S25.out.size)
            have Z264x := Lib.hid (Z254x.out.below b26)
            have NE := Lib.hid (show g23 ≠ g26 by have := Z254x.out.lt; omega)
            clear e26 z26 b26
            try simp only [Act.put, stA, stZ, stS]
            refine rdy [6] ?_
            refine AllReadyH.cons (arR rfl) (fun K hK => ?_) AllReadyH.nil
            rw [if_pos (by rfl)]
            refine wp_store_mid 95 (.tmp 5) (.tmp 8) rfl g23 0 (wd A.w0 A.w1 A.w2).toArray rfl rfl (Z264x.out.there 0 _ (by simp [wd])) (by rw [List.size_toArray]; exact size29 _ _ _) (one29 _ _ _) ?_
            have O27 := Lib.hid (Only.setCells (g := g23) (wd A.w0 A.w1 A.w2) 0 W26)
            have P27 := Lib.hid (S26.out.only (O27.out) Lg23.out)
            have Y27 := Lib.hid (setCells_wd A.w0 A.w1 A.w2 Z264x.out)
            have X27 := Lib.hid (Z26.out.only (O27.out) (fun e => NE.out e.symm))
            refine hK.out _ _ P27.out (fun _ => ?_)
            clear hK K
            simp only [Act.put]
            refine rdy [7] ?_
            refine AllReadyH.cons (arR rfl) (fun K hK => ?_) AllReadyH.nil
            rw [if_pos (by rfl)]
            refine wp_store_mid 95 (.tmp 6) (.tmp 10) rfl g26 0 (wd B.w0 B.w1 B.w2).toArray rfl rfl (X27.out.there 0 _ (by simp [wd])) (by rw [List.size_toArray]; exact size29 _ _ _) (one29 _ _ _) ?_
            have O27' := Lib.hid (Only.setCells (g := g26) (wd B.w0 B.w1 B.w2) 0 (W26.setCells g23 0 (wd A.w0 A.w1 A.w2)))
            have P27' := Lib.hid (P27.out.only (O27'.out) Lg26.out)
            have Y27' := Lib.hid (Y27.out.only (O27'.out) NE.out)
            have X27' := Lib.hid (setCells_wd B.w0 B.w1 B.w2 X27.out)
            refine hK.out _ _ P27'.out (fun _ => ?_)
            clear hK K
            simp only [Act.put]
            refine wpAnyH_done (by kernel_rfl) ?_ _
            exact ⟨rfl, g23, g26, rfl, NE.out, by have := Lg23.out; omega, by have := Lg26.out; omega, Y27'.out, X27'.out, P27'.out.bel⟩
          exact AllReadyH.nil
        refine ready_alloc (arR rfl) rfl rfl (fun g28 W28 e28 z28 b28 => ⟨S24.out.below b28, ?_⟩) ?_
        ·
          have S28 := Lib.hid (S24.out.below b28)
          have Z28 := Lib.hid z28
          have Lg28 := Lib.hid (show w.heap.size + 1 < g28 from e28 ▸ S24.out.size)
          have Z284x := Lib.hid (Z244x.out.below b28)
          have NE := Lib.hid (show g23 ≠ g28 by have := Z244x.out.lt; omega)
          clear e28 z28 b28
          try simp only [Act.put, stA, stZ, stS]
          refine rdy [3] ?_
          refine AllReadyH.cons (arR rfl) (fun K hK => ?_) ?_
          ·
            go_simp
            refine (words_is B _ HB.out).mono ?_
            rintro e W29 ⟨rfl, b29⟩
            have S29 := Lib.hid (S28.out.below b29)
            have Z294x := Lib.hid (Z284x.out.below b29)
            have Z295x := Lib.hid (Z28.out.below b29)
            clear b29
            go_wp2_with fail
            refine hK.out _ _ S29.out (fun _ => ?_)
            clear hK K
            try simp only [Act.put, stA, stZ, stS]
            refine rdy [6] ?_
            refine AllReadyH.cons (arR rfl) (fun K hK => ?_) AllReadyH.nil
            rw [if_pos (by rfl)]
            refine wp_store_mid 95 (.tmp 5) (.tmp 8) rfl g23 0 (wd A.w0 A.w1 A.w2).toArray rfl rfl (Z294x.out.there 0 _ (by simp [wd])) (by rw [List.size_toArray]; exact size29 _ _ _) (one29 _ _ _) ?_
            have O30 := Lib.hid (Only.setCells (g := g23) (wd A.w0 A.w1 A.w2) 0 W29)
            have P30 := Lib.hid (S29.out.only (O30.out) Lg23.out)
            have Y30 := Lib.hid (setCells_wd A.w0 A.w1 A.w2 Z294x.out)
            have X30 := Lib.hid (Z295x.out.only (O30.out) (fun e => NE.out e.symm))
            refine hK.out _ _ P30.out (fun _ => ?_)
            clear hK K
            simp only [Act.put]
            refine rdy [7] ?_
            refine AllReadyH.cons (arR rfl) (fun K hK => ?_) AllReadyH.nil
            rw [if_pos (by rfl)]
            refine wp_store_mid 95 (.tmp 6) (.tmp 10) rfl g28 0 (wd B.w0 B.w1 B.w2).toArray rfl rfl (X30.out.there 0 _ (by simp [wd])) (by rw [List.size_toArray]; exact size29 _ _ _) (one29 _ _ _) ?_
            have O30' := Lib.hid (Only.setCells (g := g28) (wd B.w0 B.w1 B.w2) 0 (W29.setCells g23 0 (wd A.w0 A.w1 A.w2)))
            have P30' := Lib.hid (P30.out.only (O30'.out) Lg28.out)
            have Y30' := Lib.hid (Y30.out.only (O30'.out) NE.out)
            have X30' := Lib.hid (setCells_wd B.w0 B.w1 B.w2 X30.out)
            refine hK.out _ _ P30'.out (fun _ => ?_)
            clear hK K
            simp only [Act.put]
            refine wpAnyH_done (by kernel_rfl) ?_ _
            exact ⟨rfl, g23, g28, rfl, NE.out, by have := Lg23.out; omega, by have := Lg28.out; omega, Y30'.out, X30'.out, P30'.out.bel⟩
          exact AllReadyH.nil
        exact AllReadyH.nil
      refine ready_alloc (arR rfl) rfl rfl (fun g31 W31 e31 z31 b31 => ⟨S23.out.below b31, ?_⟩) ?_
      ·
        have S31 := Lib.hid (S23.out.below b31)
        have Z31 := Lib.hid z31
        have Lg31 := Lib.hid (show w.heap.size + 1 < g31 from e31 ▸ S23.out.size)
        have Z314x := Lib.hid (Z23.out.below b31)
        have NE := Lib.hid (show g23 ≠ g31 by have := Z23.out.lt; omega)
        clear e31 z31 b31
        try simp only [Act.put, stA, stZ, stS]
        refine rdy [1] ?_
        refine AllReadyH.cons (arR rfl) (fun K hK => ?_) ?_
        ·
          go_simp
          refine (words_is A _ HA.out).mono ?_
          rintro e W32 ⟨rfl, b32⟩
          have S32 := Lib.hid (S31.out.below b32)
          have Z324x := Lib.hid (Z314x.out.below b32)
          have Z325x := Lib.hid (Z31.out.below b32)
          clear b32
          go_wp2_with fail
          refine hK.out _ _ S32.out (fun _ => ?_)
          clear hK K
          try simp only [Act.put, stA, stZ, stS]
          refine rdy [3] ?_
          refine AllReadyH.cons (arR rfl) (fun K hK => ?_) ?_
          ·
            go_simp
            refine (words_is B _ HB.out).mono ?_
            rintro e W33 ⟨rfl, b33⟩
            have S33 := Lib.hid (S32.out.below b33)
            have Z334x := Lib.hid (Z324x.out.below b33)
            have Z335x := Lib.hid (Z325x.out.below b33)
            clear b33
            go_wp2_with fail
            refine hK.out _ _ S33.out (fun _ => ?_)
            clear hK K
            try simp only [Act.put, stA, stZ, stS]
            refine rdy [6] ?_
            refine AllReadyH.cons (arR rfl) (fun K hK => ?_) AllReadyH.nil
            rw [if_pos (by rfl)]
            refine wp_store_mid 95 (.tmp 5) (.tmp 8) rfl g23 0 (wd A.w0 A.w1 A.w2).toArray rfl rfl (Z334x.out.there 0 _ (by simp [wd])) (by rw [List.size_toArray]; exact size29 _ _ _) (one29 _ _ _) ?_
            have O34 := Lib.hid (Only.setCells (g := g23) (wd A.w0 A.w1 A.w2) 0 W33)
            have P34 := Lib.hid (S33.out.only (O34.out) Lg23.out)
            have Y34 := Lib.hid (setCells_wd A.w0 A.w1 A.w2 Z334x.out)
            have X34 := Lib.hid (Z335x.out.only (O34.out) (fun e => NE.out e.symm))
            refine hK.out _ _ P34.out (fun _ => ?_)
            clear hK K
            simp only [Act.put]
            refine rdy [7] ?_
            refine AllReadyH.cons (arR rfl) (fun K hK => ?_) AllReadyH.nil
            rw [if_pos (by rfl)]
            refine wp_store_mid 95 (.tmp 6) (.tmp 10) rfl g31 0 (wd B.w0 B.w1 B.w2).toArray rfl rfl (X34.out.there 0 _ (by simp [wd])) (by rw [List.size_toArray]; exact size29 _ _ _) (one29 _ _ _) ?_
            have O34' := Lib.hid (Only.setCells (g := g31) (wd B.w0 B.w1 B.w2) 0 (W33.setCells g23 0 (wd A.w0 A.w1 A.w2)))
            have P34' := Lib.hid (P34.out.only (O34'.out) Lg31.out)
            have Y34' := Lib.hid (Y34.out.only (O34'.out) NE.out)
            have X34' := Lib.hid (setCells_wd B.w0 B.w1 B.w2 X34.out)
            refine hK.out _ _ P34'.out (fun _ => ?_)
            clear hK K
            simp only [Act.put]
            refine wpAnyH_done (by kernel_rfl) ?_ _
            exact ⟨rfl, g23, g31, rfl, NE.out, by have := Lg23.out; omega, by have := Lg31.out; omega, Y34'.out, X34'.out, P34'.out.bel⟩
          exact AllReadyH.nil
        exact AllReadyH.nil
      exact AllReadyH.nil
    refine ready_alloc (arR rfl) rfl rfl (fun g35 W35 e35 z35 b35 => ⟨S1.out.below b35, ?_⟩) ?_
    ·
      have S35 := Lib.hid (S1.out.below b35)
      have Z35 := Lib.hid z35
      have Lg35 := Lib.hid (show w.heap.size + 1 < g35 from e35 ▸ S1.out.size)
      clear e35 z35 b35
      try simp only [Act.put, stA, stZ, stS]
      refine rdy [1, 4] ?_
      refine AllReadyH.cons (arR rfl) (fun K hK => ?_) ?_
      ·
        go_simp
        refine (words_is A _ HA.out).mono ?_
        rintro e W36 ⟨rfl, b36⟩
        have S36 := Lib.hid (S35.out.below b36)
        have Z365x := Lib.hid (Z35.out.below b36)
        clear b36
        go_wp2_with fail
        refine hK.out _ _ S36.out (fun _ => ?_)
        clear hK K
        try simp only [Act.put, stA, stZ, stS]
        refine rdy [3, 4] ?_
        refine AllReadyH.cons (arR rfl) (fun K hK => ?_) ?_
        ·
          go_simp
          refine (words_is B _ HB.out).mono ?_
          rintro e W37 ⟨rfl, b37⟩
          have S37 := Lib.hid (S36.out.below b37)
          have Z375x := Lib.hid (Z365x.out.below b37)
          clear b37
          go_wp2_with fail
          refine hK.out _ _ S37.out (fun _ => ?_)
          clear hK K
          try simp only [Act.put, stA, stZ, stS]
          refine rdy [4] ?_
          refine ready_alloc (arR rfl) rfl rfl (fun g38 W38 e38 z38 b38 => ⟨S37.out.below b38, ?_⟩) ?_
          ·
            have S38 := Lib.hid (S37.out.below b38)
            have Z38 := Lib.hid z38
            have Lg38 := Lib.hid (show w.heap.size + 1 < g38 from e38 ▸ S37.out.size)
            have Z385x := Lib.hid (Z375x.out.below b38)
            have NE := Lib.hid (show g38 ≠ g35 by have := Z375x.out.lt; omega)
            clear e38 z38 b38
            try simp only [Act.put, stA, stZ, stS]
            refine rdy [6] ?_
            refine AllReadyH.cons (arR rfl) (fun K hK => ?_) AllReadyH.nil
            rw [if_pos (by rfl)]
            refine wp_store_mid 95 (.tmp 5) (.tmp 8) rfl g38 0 (wd A.w0 A.w1 A.w2).toArray rfl rfl (Z38.out.there 0 _ (by simp [wd])) (by rw [List.size_toArray]; exact size29 _ _ _) (one29 _ _ _) ?_
            have O39 := Lib.hid (Only.setCells (g := g38) (wd A.w0 A.w1 A.w2) 0 W38)
            have P39 := Lib.hid (S38.out.only (O39.out) Lg38.out)
            have Y39 := Lib.hid (setCells_wd A.w0 A.w1 A.w2 Z38.out)
            have X39 := Lib.hid (Z385x.out.only (O39.out) (fun e => NE.out e.symm))
            refine hK.out _ _ P39.out (fun _ => ?_)
            clear hK K
            simp only [Act.put]
            refine rdy [7] ?_
            refine AllReadyH.cons (arR rfl) (fun K hK => ?_) AllReadyH.nil
            rw [if_pos (by rfl)]
            refine wp_store_mid 95 (.tmp 6) (.tmp 10) rfl g35 0 (wd B.w0 B.w1 B.w2).toArray rfl rfl (X39.out.there 0 _ (by simp [wd])) (by rw [List.size_toArray]; exact size29 _ _ _) (one29 _ _ _) ?_
            have O39' := Lib.hid (Only.setCells (g := g35) (wd B.w0 B.w1 B.w2) 0 (W38.setCells g38 0 (wd A.w0 A.w1 A.w2)))
            have P39' := Lib.hid (P39.out.only (O39'.out) Lg35.out)
            have Y39' := Lib.hid (Y39.out.only (O39'.out) NE.out)
            have X39' := Lib.hid (setCells_wd B.w0 B.w1 B.w2 X39.out)
            refine hK.out _ _ P39'.out (fun _ => ?_)
            clear hK K
            simp only [Act.put]
            refine wpAnyH_done (by kernel_rfl) ?_ _
            exact ⟨rfl, g38, g35, rfl, NE.out, by have := Lg38.out; omega, by have := Lg35.out; omega, Y39'.out, X39'.out, P39'.out.bel⟩
          exact AllReadyH.nil
        refine ready_alloc (arR rfl) rfl rfl (fun g40 W40 e40 z40 b40 => ⟨S36.out.below b40, ?_⟩) ?_
        ·
          have S40 := Lib.hid (S36.out.below b40)
          have Z40 := Lib.hid z40
          have Lg40 := Lib.hid (show w.heap.size + 1 < g40 from e40 ▸ S36.out.size)
          have Z405x := Lib.hid (Z365x.out.below b40)
          have NE := Lib.hid (show g40 ≠ g35 by have := Z365x.out.lt; omega)
          clear e40 z40 b40
          try simp only [Act.put, stA, stZ, stS]
          refine rdy [3] ?_
          refine AllReadyH.cons (arR rfl) (fun K hK => ?_) ?_
          ·
            go_simp
            refine (words_is B _ HB.out).mono ?_
            rintro e W41 ⟨rfl, b41⟩
            have S41 := Lib.hid (S40.out.below b41)
            have Z415x := Lib.hid (Z405x.out.below b41)
            have Z414x := Lib.hid (Z40.out.below b41)
            clear b41
            go_wp2_with fail
            refine hK.out _ _ S41.out (fun _ => ?_)
            clear hK K
            try simp only [Act.put, stA, stZ, stS]
            refine rdy [6] ?_
            refine AllReadyH.cons (arR rfl) (fun K hK => ?_) AllReadyH.nil
            rw [if_pos (by rfl)]
            refine wp_store_mid 95 (.tmp 5) (.tmp 8) rfl g40 0 (wd A.w0 A.w1 A.w2).toArray rfl rfl (Z414x.out.there 0 _ (by simp [wd])) (by rw [List.size_toArray]; exact size29 _ _ _) (one29 _ _ _) ?_
            have O42 := Lib.hid (Only.setCells (g := g40) (wd A.w0 A.w1 A.w2) 0 W41)
            have P42 := Lib.hid (S41.out.only (O42.out) Lg40.out)
            have Y42 := Lib.hid (setCells_wd A.w0 A.w1 A.w2 Z414x.out)
            have X42 := Lib.hid (Z415x.out.only (O42.out) (fun e => NE.out e.symm))
            refine hK.out _ _ P42.out (fun _ => ?_)
            clear hK K
            simp only [Act.put]
            refine rdy [7] ?_
            refine AllReadyH.cons (arR rfl) (fun K hK => ?_) AllReadyH.nil
            rw [if_pos (by rfl)]
            refine wp_store_mid 95 (.tmp 6) (.tmp 10) rfl g35 0 (wd B.w0 B.w1 B.w2).toArray rfl rfl (X42.out.there 0 _ (by simp [wd])) (by rw [List.size_toArray]; exact size29 _ _ _) (one29 _ _ _) ?_
            have O42' := Lib.hid (Only.setCells (g := g35) (wd B.w0 B.w1 B.w2) 0 (W41.setCells g40 0 (wd A.w0 A.w1 A.w2)))
            have P42' := Lib.hid (P42.out.only (O42'.out) Lg35.out)
            have Y42' := Lib.hid (Y42.out.only (O42'.out) NE.out)
            have X42' := Lib.hid (setCells_wd B.w0 B.w1 B.w2 X42.out)
            refine hK.out _ _ P42'.out (fun _ => ?_)
            clear hK K
            simp only [Act.put]
            refine wpAnyH_done (by kernel_rfl) ?_ _
            exact ⟨rfl, g40, g35, rfl, NE.out, by have := Lg40.out; omega, by have := Lg35.out; omega, Y42'.out, X42'.out, P42'.out.bel⟩
          exact AllReadyH.nil
        exact AllReadyH.nil
      refine ready_alloc (arR rfl) rfl rfl (fun g43 W43 e43 z43 b43 => ⟨S35.out.below b43, ?_⟩) ?_
      ·
        have S43 := Lib.hid (S35.out.below b43)
        have Z43 := Lib.hid z43
        have Lg43 := Lib.hid (show w.heap.size + 1 < g43 from e43 ▸ S35.out.size)
        have Z435x := Lib.hid (Z35.out.below b43)
        have NE := Lib.hid (show g43 ≠ g35 by have := Z35.out.lt; omega)
        clear e43 z43 b43
        try simp only [Act.put, stA, stZ, stS]
        refine rdy [1] ?_
        refine AllReadyH.cons (arR rfl) (fun K hK => ?_) ?_
        ·
          go_simp
          refine (words_is A _ HA.out).mono ?_
          rintro e W44 ⟨rfl, b44⟩
          have S44 := Lib.hid (S43.out.below b44)
          have Z445x := Lib.hid (Z435x.out.below b44)
          have Z444x := Lib.hid (Z43.out.below b44)
          clear b44
          go_wp2_with fail
          refine hK.out _ _ S44.out (fun _ => ?_)
          clear hK K
          try simp only [Act.put, stA, stZ, stS]
          refine rdy [3] ?_
          refine AllReadyH.cons (arR rfl) (fun K hK => ?_) ?_
          ·
            go_simp
            refine (words_is B _ HB.out).mono ?_
            rintro e W45 ⟨rfl, b45⟩
            have S45 := Lib.hid (S44.out.below b45)
            have Z455x := Lib.hid (Z445x.out.below b45)
            have Z454x := Lib.hid (Z444x.out.below b45)
            clear b45
            go_wp2_with fail
            refine hK.out _ _ S45.out (fun _ => ?_)
            clear hK K
            try simp only [Act.put, stA, stZ, stS]
            refine rdy [6] ?_
            refine AllReadyH.cons (arR rfl) (fun K hK => ?_) AllReadyH.nil
            rw [if_pos (by rfl)]
            refine wp_store_mid 95 (.tmp 5) (.tmp 8) rfl g43 0 (wd A.w0 A.w1 A.w2).toArray rfl rfl (Z454x.out.there 0 _ (by simp [wd])) (by rw [List.size_toArray]; exact size29 _ _ _) (one29 _ _ _) ?_
            have O46 := Lib.hid (Only.setCells (g := g43) (wd A.w0 A.w1 A.w2) 0 W45)
            have P46 := Lib.hid (S45.out.only (O46.out) Lg43.out)
            have Y46 := Lib.hid (setCells_wd A.w0 A.w1 A.w2 Z454x.out)
            have X46 := Lib.hid (Z455x.out.only (O46.out) (fun e => NE.out e.symm))
            refine hK.out _ _ P46.out (fun _ => ?_)
            clear hK K
            simp only [Act.put]
            refine rdy [7] ?_
            refine AllReadyH.cons (arR rfl) (fun K hK => ?_) AllReadyH.nil
            rw [if_pos (by rfl)]
            refine wp_store_mid 95 (.tmp 6) (.tmp 10) rfl g35 0 (wd B.w0 B.w1 B.w2).toArray rfl rfl (X46.out.there 0 _ (by simp [wd])) (by rw [List.size_toArray]; exact size29 _ _ _) (one29 _ _ _) ?_
            have O46' := Lib.hid (Only.setCells (g := g35) (wd B.w0 B.w1 B.w2) 0 (W45.setCells g43 0 (wd A.w0 A.w1 A.w2)))
            have P46' := Lib.hid (P46.out.only (O46'.out) Lg35.out)
            have Y46' := Lib.hid (Y46.out.only (O46'.out) NE.out)
            have X46' := Lib.hid (setCells_wd B.w0 B.w1 B.w2 X46.out)
            refine hK.out _ _ P46'.out (fun _ => ?_)
            clear hK K
            simp only [Act.put]
            refine wpAnyH_done (by kernel_rfl) ?_ _
            exact ⟨rfl, g43, g35, rfl, NE.out, by have := Lg43.out; omega, by have := Lg35.out; omega, Y46'.out, X46'.out, P46'.out.bel⟩
          exact AllReadyH.nil
        exact AllReadyH.nil
      exact AllReadyH.nil
    exact AllReadyH.nil
  · rintro e a W ⟨rfl, g, h, rfl, hne, hg, hh, hbA, hbB, hbel⟩
    have BA := Lib.hid hbA
    have BB := Lib.hid hbB
    have BL := Lib.hid hbel
    clear hne hg hh hbA hbB hbel
    go_wp2_with fail
    go_quiet (refine Calls.quiet_of_same ((slicesCompare_is g h A.w0 A.w1 A.w2 B.w0 B.w1 B.w2 _ (BA.out.drewN _) (BB.out.drewN _)).mono fun _ _ hh => ⟨hh.1, hh.2.symm⟩))
    go_wp2
    go_ret
    refine ⟨?_, below_drewN BL.out _⟩
    rw [← hb.out]
    exact congrArg (fun x => Ending.returned (Value.bool x)) (cmp3_less _ _ _ _ _ _)
end Go.Proofs.YtnpbmihbmilkbaaGreat
