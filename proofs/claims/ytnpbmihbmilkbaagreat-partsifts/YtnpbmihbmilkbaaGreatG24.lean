/- The contract of compare of package lat, with all that it leaves: nothing but new blocks and draws. -/
import Derived.Test.YtnpbmihbmilkbaaGreatG01
import Derived.Test.YtnpbmihbmilkbaaGreatG12
import Derived.Test.YtnpbmihbmilkbaaGreatG11
import Derived.Test.YtnpbmihbmilkbaaGreatG23
namespace Go.Proofs.YtnpbmihbmilkbaaGreat
open Go.RowKit
theorem setCells_drawn : ∀ (cs : List Value) (w : World) (g o : Nat), (w.setCells g o cs).drawn = w.drawn
  | [], _, _, _ => rfl
  | _ :: cs, _, g, o => (setCells_drawn cs _ g (o + 1)).trans rfl
structure Gr (w w' : World) : Prop where
  bel : Below w.heap.size w w'
  drw : w.drawn ≤ w'.drawn
set_option maxRecDepth 100000 in
theorem numberG_is (l : List Int) (r : Int) (w : World) (hl : l.length = 8) (hb : Hid (M.Bytes l)) (hr : Hid (M.num l = r)) :
    Calls Tryz.prog 134 #[.agg (nm l)] w fun e w' => e = .returned (.int .u64 r) ∧ Gr w w' := by
  have HA := Lib.hid (at_alloc w l)
  have HS := Lib.hid (size23n hl)
  have HL := Lib.hid hl
  clear hl
  go_enter Tryz.func134, Tryz.ntmps134
  go_wp2_with (refine wpList_load_row rfl 40 _ rfl w.heap.size rfl 40 (nm l) (0, 0) _ HA.out Tryz.underlying40 rfl HS.out ?_)
  go_loopw [3, 7] (fun x i wr => ∃ k : Nat, k ≤ 8 ∧ i = .int .i64 k ∧ x = .int .u64 (M.num (l.take k)) ∧ wr = w.alloc (.cells (nm l) 40)) (fun _ i _ => 8 - (intOf i).toNat)
  case atStart => exact ⟨0, Nat.zero_le _, rfl, rfl, rfl⟩
  case round =>
    obtain ⟨k, hk, rfl, rfl, rfl⟩ := hrel
    by_cases hlt : k < 8
    · have hix := index_nm l HL.out k hlt
      have hrg := num_small HL.out hb.out k hlt
      have HN := Lib.hid (num_take k (by have := HL.out; omega : k < l.length))
      have hbk := hb.out.at_ k (by have := HL.out; omega)
      obtain ⟨x, hx⟩ : ∃ x, M.num (l.take k) = x := ⟨_, rfl⟩
      rw [hx] at hrg HN ⊢
      generalize l[k]'(by have := HL.out; omega) = c at hix HN hbk
      have H := Lib.hid (or_join x c hrg.1 hrg.2 hbk)
      obtain ⟨hb0, hb1⟩ := hbk
      have hx0 := hrg.1
      clear hrg hx
      go_wp2_with fail
      go_roundw
      case rel => exact ⟨k + 1, by omega, by go_num, by rw [HN.out]; exact congrArg (Value.int .u64) H.out, trivial⟩
      case measure => simp [intOf]; omega
    · obtain rfl : k = 8 := by omega
      rw [List.take_of_length_le (by have := HL.out; omega)]
      go_wp2_with fail
      go_ret
      exact ⟨ret_int hr.out, (Below.refl _ _).alloc (Nat.le_refl _) _, Nat.le_refl _⟩
set_option maxRecDepth 100000 in
set_option maxHeartbeats 2000000 in
theorem dotG_is (k : Ky) (w : World) (hk : k.Ok) : Calls Tryz.prog 135 #[.agg k.cells.toArray] w fun e w' => e = .returned (.int .u64 k.w2) ∧ Gr w w' := by
  have q := blk_alloc w 48 k.cells
  have c3 := q.cell (kc10 hk.ml)
  have c4 := q.cell (kc11 hk.ml)
  have B0 := Lib.hid (new_below w (.cells k.cells.toArray 48))
  have r0 := hk.r0
  have r1 := hk.r1
  have HK := Lib.hid hk
  clear q hk
  go_enter Tryz.func135, Tryz.ntmps135
  go_wp2_with fail
  refine (whole_is k.r k.q k.w2 _ r0 (by omega) HK.out.q0 HK.out.q1 (Lib.hid (or32 _ _ r0 (by omega) HK.out.q0 HK.out.q1))).mono ?_
  rintro e w1 ⟨rfl, rfl⟩
  go_wp2_with fail
  go_ret
  exact ⟨rfl, B0.out, Nat.le_refl _⟩
structure WSg (w : World) (k : Ky) (W : World) : Prop where
  bel : Below w.heap.size w W
  blk : Blk W w.heap.size 48 k.cells
  drw : w.drawn ≤ W.drawn
theorem WSg.drew {w : World} {k : Ky} {W : World} (h : WSg w k W) : WSg w k W.drew := ⟨below_drew h.bel, h.blk.drew, Nat.le_succ_of_le h.drw⟩
theorem WSg.below {w : World} {k : Ky} {W W' : World} (h : WSg w k W) (hb : Gr W W') : WSg w k W' := ⟨step_ h.bel hb.bel, h.blk.below hb.bel, Nat.le_trans h.drw hb.drw⟩
theorem WSg.only {w : World} {k : Ky} {W W' : World} {g : Nat} (h : WSg w k W) (hb : Only g W W') (hg : w.heap.size < g) (hd : W.drawn ≤ W'.drawn) : WSg w k W' := ⟨h.bel.trans (hb.below (Nat.le_of_lt hg) h.bel.size), h.blk.only hb (Nat.ne_of_lt hg), Nat.le_trans h.drw hd⟩
theorem wsg_new (w : World) (k : Ky) (o : Obj) : WSg w k ((w.alloc (.cells k.cells.toArray 48)).alloc o) := ⟨step_ (new_below w _) (new_below _ _), (blk_alloc w 48 k.cells).alloc o, Nat.le_refl _⟩
set_option maxRecDepth 100000 in
set_option maxHeartbeats 2000000 in
theorem wordsG_is (k : Ky) (w : World) (hk : k.Ok) : Calls Tryz.prog 115 #[.agg k.cells.toArray] w fun e w' => e = .returned (.agg (wd k.w0 k.w1 k.w2).toArray) ∧ Gr w w' := by
  have hz := zero29
  have S0 := Lib.hid (wsg_new w k (.cells (wd 0 0 0).toArray 95))
  have Z0 := Lib.hid (blk2 w (.cells k.cells.toArray 48) 95 (wd 0 0 0))
  have HK := Lib.hid hk
  clear hk
  go_enter Tryz.func115, Tryz.ntmps115
  go_wp2_with fail
  have S1 := Lib.hid S0.out.drew
  have Z1 := Lib.hid Z0.out.drew
  refine wp_region_noPanic ?_
  refine wp_region_held_drew (S := WSg w k) (by kernel_rfl) S1.out (fun _ => ?_)
  refine tkm 0 rfl S1.out ?_; try simp only [Act.put, stA, stZ, stS]
  refine tkv 1 _ rfl (fun W hW => by have c := hW.blk.cell (kc0 k); (go_simp; try with_reducible rfl)) S1.out ?_; try simp only [Act.put, stA, stZ, stS]
  refine tkm 2 rfl S1.out ?_; try simp only [Act.put, stA, stZ, stS]
  refine tkm 3 rfl S1.out ?_; try simp only [Act.put, stA, stZ, stS]
  refine tkm 4 rfl S1.out ?_; try simp only [Act.put, stA, stZ, stS]
  refine tkv 5 _ rfl (fun W hW => by have c := hW.blk.cell (kc1 k); (go_simp; try with_reducible rfl)) S1.out ?_; try simp only [Act.put, stA, stZ, stS]
  refine tkm 6 rfl S1.out ?_; try simp only [Act.put, stA, stZ, stS]
  refine tkv 7 (.int .u64 k.w0) rfl (fun W hW => (by (go_simp; exact spell0 HK.out))) S1.out ?_; try simp only [Act.put, stA, stZ, stS]
  refine tkm 8 rfl S1.out ?_; try simp only [Act.put, stA, stZ, stS]
  refine tky 9 (.agg (k.m.map (Value.int .u8)).toArray) rfl (yieldsIf_load_mid (by rfl) 40 (.tmp 11) rfl w.heap.size 2 rfl (k.m.map (Value.int .u8)) _ (fun W hW => hW.blk.knm HK.out.ml) Tryz.underlying40 rfl (by rw [List.length_map, HK.out.ml]; exact size23)) S1.out ?_; try simp only [Act.put, stA, stZ, stS]
  refine tky 11 (.agg k.cells.toArray) rfl (yieldsIf_load_mid (by rfl) 48 (.tmp 1) rfl w.heap.size 0 rfl k.cells _ (fun W hW => hW.blk.range) Tryz.underlying48 rfl (size27 HK.out.ml)) S1.out ?_; try simp only [Act.put, stA, stZ, stS]
  refine rdy [10] ?_
  refine AllReadyH.cons (arR rfl) (fun K hK => ?_) AllReadyH.nil
  go_simp
  refine (numberG_is k.m k.w1 _ HK.out.ml (Lib.hid HK.out.mb) (Lib.hid rfl)).mono ?_
  rintro e w1 ⟨rfl, b1⟩
  have S2 := Lib.hid (S1.out.below b1)
  have Z2 := Lib.hid (Z1.out.below b1.bel)
  clear b1
  go_wp2_with fail
  refine hK.out _ _ ?_ (fun _ => ?_)
  · exact S2.out
  clear hK K
  try simp only [Act.put, stA, stZ, stS]
  refine rdy [12] ?_
  refine AllReadyH.cons (arR rfl) (fun K hK => ?_) AllReadyH.nil
  go_simp
  refine (dotG_is k _ HK.out).mono ?_
  rintro e w2 ⟨rfl, b2⟩
  have S3 := Lib.hid (S2.out.below b2)
  have Z3 := Lib.hid (Z2.out.below b2.bel)
  clear b2
  go_wp2_with fail
  refine hK.out _ _ ?_ (fun _ => ?_)
  · exact S3.out
  clear hK K
  try simp only [Act.put, stA, stZ, stS]
  refine tkv 13 (.agg (wd k.w0 k.w1 k.w2).toArray) rfl (fun W hW => exec_build 95 _ rfl [(0, .int .u64 k.w0), (1, .int .u64 k.w1), (2, .int .u64 k.w2)] rfl _ (built29 _ _ _)) S3.out ?_; try simp only [Act.put, stA, stZ, stS]
  refine rdy [14] ?_
  refine AllReadyH.cons (arR rfl) (fun K hK => ?_) AllReadyH.nil
  rw [if_pos (by rfl)]
  refine wp_store_mid 95 (.tmp 2) (.tmp 16) rfl (w.heap.size + 1) 0 (wd k.w0 k.w1 k.w2).toArray rfl rfl (Z3.out.there 0 _ (by simp [wd])) (by rw [List.size_toArray]; exact size29 _ _ _) (one29 _ _ _) ?_
  have ON := Lib.hid (Only.setCells (g := w.heap.size + 1) (wd k.w0 k.w1 k.w2) 0 _ |> fun h => (S3.out).only h (Nat.lt_succ_self _) (Nat.le_of_eq (setCells_drawn _ _ _ _).symm))
  have ZN := Lib.hid (setCells_wd k.w0 k.w1 k.w2 Z3.out)
  refine hK.out _ _ ON.out (fun _ => ?_)
  clear hK K
  simp only [Act.put]
  refine wpAnyH_done (by kernel_rfl) ?_ _
  refine NoPanic.normal ?_
  go_wp2_with fail
  refine bodyPost_ret (results_wd rfl _ _ (w.heap.size + 1) _ _ _ rfl ZN.out) rfl ?_
  exact ⟨rfl, ON.out.bel, ON.out.drw⟩
structure LSg (w : World) (A B : Am) (W : World) : Prop where
  bel : Gr w W
  one : Blk W w.heap.size 50 A.cells
  two : Blk W (w.heap.size + 1) 50 B.cells
theorem LSg.drew {w : World} {A B : Am} {W : World} (h : LSg w A B W) : LSg w A B W.drew := ⟨⟨below_drew h.bel.bel, Nat.le_succ_of_le h.bel.drw⟩, h.one.drew, h.two.drew⟩
theorem LSg.below {w : World} {A B : Am} {W W' : World} (h : LSg w A B W) (hb : Gr W W') : LSg w A B W' := ⟨⟨step_ h.bel.bel hb.bel, Nat.le_trans h.bel.drw hb.drw⟩, h.one.below hb.bel, h.two.below hb.bel⟩
theorem LSg.only {w : World} {A B : Am} {W W' : World} {g : Nat} (h : LSg w A B W) (hb : Only g W W') (hg : w.heap.size + 1 < g) (hd : W.drawn ≤ W'.drawn) : LSg w A B W' := ⟨⟨h.bel.bel.trans (hb.below (by omega) h.bel.bel.size), Nat.le_trans h.bel.drw hd⟩, h.one.only hb (by omega), h.two.only hb (by omega)⟩
theorem lsg_new (w : World) (A B : Am) : LSg w A B ((w.alloc (.cells A.cells.toArray 50)).alloc (.cells B.cells.toArray 50)) := ⟨⟨step_ (new_below w _) (new_below _ _), Nat.le_refl _⟩, (blk_alloc w 50 A.cells).alloc _, blk2 w _ 50 B.cells⟩
theorem LSg.size {w : World} {A B : Am} {W : World} (h : LSg w A B W) : w.heap.size + 1 < W.heap.size := h.two.lt
theorem ready_allocG {ops : Array Oper} {Q : Exit → Act → World → Prop} {md : Region.Mode} {S : World → Prop} {fuel : Nat} {listed : Array Bool} {a : Act} {w : World} {i : Nat} {o : Oper} {rs : List Nat} (ho : ops[i]? = some o) (hg : o.guard = none) (hop : o.op = .alloc 95)
    (h : ∀ g w', g = w.heap.size → Blk w' g 95 (wd 0 0 0) → Gr w w' → S w' ∧ wpAnyH Tryz.prog md ops Q S fuel (listed.setIfInBounds i true) (a.put o.dst (.pointer (some ⟨g, 0, none⟩))) w')
    (hs : AllReadyH Tryz.prog md ops Q S fuel listed a w rs) : AllReadyH Tryz.prog md ops Q S fuel listed a w (i :: rs) := by
  refine AllReadyH.cons ho (fun K hK => ?_) hs
  have hw : Region.wanted o (yielded ops a.tmps) = true := by simp [Region.wanted, hg]
  rw [if_pos hw]
  have hz := zero29
  have H := h w.heap.size (w.alloc (.cells (wd 0 0 0).toArray 95)) rfl (blk_alloc w 95 (wd 0 0 0)) ⟨new_below w _, Nat.le_refl _⟩
  unfold Oper.wp execOp
  simp [hop, Instr.alloc, hz]
  exact hK.out _ _ H.1 (fun _ => H.2)
def cmpAm (A B : Am) : Int := cmp3 A.k.w0 A.k.w1 A.k.w2 B.k.w0 B.k.w1 B.k.w2
set_option maxRecDepth 100000 in
set_option maxHeartbeats 4000000 in
theorem cmpAm_is (A B : Am) (w : World) (hA : A.Ok) (hB : B.Ok) : Calls Tryz.prog 118 #[.agg A.cells.toArray, .agg B.cells.toArray] w fun e w' => e = .returned (.int .i64 (cmpAm A B)) ∧ Gr w w' := by
  have S0 := Lib.hid (lsg_new w A B)
  have HA := Lib.hid hA
  have HB := Lib.hid hB
  clear hA hB
  go_enter Tryz.func118, Tryz.ntmps118
  go_wp2_with fail
  have S1 := Lib.hid S0.out.drew
  clear S0
  refine Code.wp_mono (Q := fun e a W => e = .normal ∧ ∃ g h, a = (⟨#[.agg A.cells.toArray, .agg B.cells.toArray, .pointer (some ⟨w.heap.size, 0, none⟩), .pointer (some ⟨w.heap.size + 1, 0, none⟩), .int .i64 0, .pointer (some ⟨g, 0, none⟩), .pointer (some ⟨h, 0, none⟩), .pointer (some ⟨w.heap.size, 0, none⟩), .agg A.k.cells.toArray, .agg (wd A.k.w0 A.k.w1 A.k.w2).toArray, .pointer (some ⟨w.heap.size + 1, 0, none⟩), .agg B.k.cells.toArray, .agg (wd B.k.w0 B.k.w1 B.k.w2).toArray, undef, undef, undef], []⟩ : Act) ∧ g ≠ h ∧ w.heap.size ≤ g ∧ w.heap.size ≤ h ∧ Blk W g 95 (wd A.k.w0 A.k.w1 A.k.w2) ∧ Blk W h 95 (wd B.k.w0 B.k.w1 B.k.w2) ∧ Gr w W) ?_ ?_
  rotate_left
  ·
    refine wp_region_noPanic ?_
    refine wp_region_held_drew (S := LSg w A B) (by kernel_rfl) S1.out (fun _ => ?_)
    refine tkm 0 rfl S1.out ?_; try simp only [Act.put, stA, stZ, stS]
    refine tky 1 (.agg A.k.cells.toArray) rfl (yieldsIf_load_mid (by rfl) 48 (.tmp 7) rfl w.heap.size 0 rfl A.k.cells _ (fun W hW => hW.one.ak) Tryz.underlying48 rfl (size27 HA.out.k.ml)) S1.out ?_; try simp only [Act.put, stA, stZ, stS]
    refine tkm 3 rfl S1.out ?_; try simp only [Act.put, stA, stZ, stS]
    refine tky 4 (.agg B.k.cells.toArray) rfl (yieldsIf_load_mid (by rfl) 48 (.tmp 10) rfl (w.heap.size + 1) 0 rfl B.k.cells _ (fun W hW => hW.two.ak) Tryz.underlying48 rfl (size27 HB.out.k.ml)) S1.out ?_; try simp only [Act.put, stA, stZ, stS]
    refine rdy [2, 6, 7] ?_
    refine AllReadyH.cons (arR rfl) (fun K hK => ?_) ?_
    ·
      go_simp
      refine (wordsG_is A.k _ HA.out.k).mono ?_
      rintro e W1 ⟨rfl, b1⟩
      have S1 := Lib.hid (S1.out.below b1)
      clear b1
      go_wp2_with fail
      refine hK.out _ _ S1.out (fun _ => ?_)
      clear hK K
      try simp only [Act.put, stA, stZ, stS]
      refine rdy [5, 6, 7] ?_
      refine AllReadyH.cons (arR rfl) (fun K hK => ?_) ?_
      ·
        go_simp
        refine (wordsG_is B.k _ HB.out.k).mono ?_
        rintro e W2 ⟨rfl, b2⟩
        have S2 := Lib.hid (S1.out.below b2)
        clear b2
        go_wp2_with fail
        refine hK.out _ _ S2.out (fun _ => ?_)
        clear hK K
        try simp only [Act.put, stA, stZ, stS]
        refine rdy [6, 7] ?_
        refine ready_allocG (arR rfl) rfl rfl (fun g3 W3 e3 z3 b3 => ⟨S2.out.below b3, ?_⟩) ?_
        ·
          have S3 := Lib.hid (S2.out.below b3)
          have Z3 := Lib.hid z3
          have Lg3 := Lib.hid (show w.heap.size + 1 < g3 from e3 ▸ S2.out.size)
          clear e3 z3 b3
          try simp only [Act.put, stA, stZ, stS]
          refine rdy [7] ?_
          refine ready_allocG (arR rfl) rfl rfl (fun g4 W4 e4 z4 b4 => ⟨S3.out.below b4, ?_⟩) ?_
          ·
            have S4 := Lib.hid (S3.out.below b4)
            have Z4 := Lib.hid z4
            have Lg4 := Lib.hid (show w.heap.size + 1 < g4 from e4 ▸ S3.out.size)
            have Z46x := Lib.hid (Z3.out.below b4.bel)
            have NE := Lib.hid (show g3 ≠ g4 by have := Z3.out.lt; omega)
            clear e4 z4 b4
            try simp only [Act.put, stA, stZ, stS]
            refine rdy [8] ?_
            refine AllReadyH.cons (arR rfl) (fun K hK => ?_) AllReadyH.nil
            rw [if_pos (by rfl)]
            refine wp_store_mid 95 (.tmp 5) (.tmp 9) rfl g3 0 (wd A.k.w0 A.k.w1 A.k.w2).toArray rfl rfl (Z46x.out.there 0 _ (by simp [wd])) (by rw [List.size_toArray]; exact size29 _ _ _) (one29 _ _ _) ?_
            have O5 := Lib.hid (Only.setCells (g := g3) (wd A.k.w0 A.k.w1 A.k.w2) 0 W4)
            have P5 := Lib.hid (S4.out.only (O5.out) Lg3.out (Nat.le_of_eq (setCells_drawn (wd A.k.w0 A.k.w1 A.k.w2) _ g3 0).symm))
            have Y5 := Lib.hid (setCells_wd A.k.w0 A.k.w1 A.k.w2 Z46x.out)
            have X5 := Lib.hid (Z4.out.only (O5.out) (fun e => NE.out e.symm))
            refine hK.out _ _ P5.out (fun _ => ?_)
            clear hK K
            simp only [Act.put]
            refine rdy [9] ?_
            refine AllReadyH.cons (arR rfl) (fun K hK => ?_) AllReadyH.nil
            rw [if_pos (by rfl)]
            refine wp_store_mid 95 (.tmp 6) (.tmp 12) rfl g4 0 (wd B.k.w0 B.k.w1 B.k.w2).toArray rfl rfl (X5.out.there 0 _ (by simp [wd])) (by rw [List.size_toArray]; exact size29 _ _ _) (one29 _ _ _) ?_
            have O5' := Lib.hid (Only.setCells (g := g4) (wd B.k.w0 B.k.w1 B.k.w2) 0 (W4.setCells g3 0 (wd A.k.w0 A.k.w1 A.k.w2)))
            have P5' := Lib.hid (P5.out.only (O5'.out) Lg4.out (Nat.le_of_eq (setCells_drawn _ _ _ _).symm))
            have Y5' := Lib.hid (Y5.out.only (O5'.out) NE.out)
            have X5' := Lib.hid (setCells_wd B.k.w0 B.k.w1 B.k.w2 X5.out)
            refine hK.out _ _ P5'.out (fun _ => ?_)
            clear hK K
            simp only [Act.put]
            refine wpAnyH_done (by kernel_rfl) ?_ _
            exact ⟨rfl, g3, g4, rfl, NE.out, by have := Lg3.out; omega, by have := Lg4.out; omega, Y5'.out, X5'.out, P5'.out.bel⟩
          exact AllReadyH.nil
        refine ready_allocG (arR rfl) rfl rfl (fun g6 W6 e6 z6 b6 => ⟨S2.out.below b6, ?_⟩) ?_
        ·
          have S6 := Lib.hid (S2.out.below b6)
          have Z6 := Lib.hid z6
          have Lg6 := Lib.hid (show w.heap.size + 1 < g6 from e6 ▸ S2.out.size)
          clear e6 z6 b6
          try simp only [Act.put, stA, stZ, stS]
          refine rdy [6] ?_
          refine ready_allocG (arR rfl) rfl rfl (fun g7 W7 e7 z7 b7 => ⟨S6.out.below b7, ?_⟩) ?_
          ·
            have S7 := Lib.hid (S6.out.below b7)
            have Z7 := Lib.hid z7
            have Lg7 := Lib.hid (show w.heap.size + 1 < g7 from e7 ▸ S6.out.size)
            have Z77x := Lib.hid (Z6.out.below b7.bel)
            have NE := Lib.hid (show g7 ≠ g6 by have := Z6.out.lt; omega)
            clear e7 z7 b7
            try simp only [Act.put, stA, stZ, stS]
            refine rdy [8] ?_
            refine AllReadyH.cons (arR rfl) (fun K hK => ?_) AllReadyH.nil
            rw [if_pos (by rfl)]
            refine wp_store_mid 95 (.tmp 5) (.tmp 9) rfl g7 0 (wd A.k.w0 A.k.w1 A.k.w2).toArray rfl rfl (Z7.out.there 0 _ (by simp [wd])) (by rw [List.size_toArray]; exact size29 _ _ _) (one29 _ _ _) ?_
            have O8 := Lib.hid (Only.setCells (g := g7) (wd A.k.w0 A.k.w1 A.k.w2) 0 W7)
            have P8 := Lib.hid (S7.out.only (O8.out) Lg7.out (Nat.le_of_eq (setCells_drawn (wd A.k.w0 A.k.w1 A.k.w2) _ g7 0).symm))
            have Y8 := Lib.hid (setCells_wd A.k.w0 A.k.w1 A.k.w2 Z7.out)
            have X8 := Lib.hid (Z77x.out.only (O8.out) (fun e => NE.out e.symm))
            refine hK.out _ _ P8.out (fun _ => ?_)
            clear hK K
            simp only [Act.put]
            refine rdy [9] ?_
            refine AllReadyH.cons (arR rfl) (fun K hK => ?_) AllReadyH.nil
            rw [if_pos (by rfl)]
            refine wp_store_mid 95 (.tmp 6) (.tmp 12) rfl g6 0 (wd B.k.w0 B.k.w1 B.k.w2).toArray rfl rfl (X8.out.there 0 _ (by simp [wd])) (by rw [List.size_toArray]; exact size29 _ _ _) (one29 _ _ _) ?_
            have O8' := Lib.hid (Only.setCells (g := g6) (wd B.k.w0 B.k.w1 B.k.w2) 0 (W7.setCells g7 0 (wd A.k.w0 A.k.w1 A.k.w2)))
            have P8' := Lib.hid (P8.out.only (O8'.out) Lg6.out (Nat.le_of_eq (setCells_drawn _ _ _ _).symm))
            have Y8' := Lib.hid (Y8.out.only (O8'.out) NE.out)
            have X8' := Lib.hid (setCells_wd B.k.w0 B.k.w1 B.k.w2 X8.out)
            refine hK.out _ _ P8'.out (fun _ => ?_)
            clear hK K
            simp only [Act.put]
            refine wpAnyH_done (by kernel_rfl) ?_ _
            exact ⟨rfl, g7, g6, rfl, NE.out, by have := Lg7.out; omega, by have := Lg6.out; omega, Y8'.out, X8'.out, P8'.out.bel⟩
          exact AllReadyH.nil
        exact AllReadyH.nil
      refine ready_allocG (arR rfl) rfl rfl (fun g9 W9 e9 z9 b9 => ⟨S1.out.below b9, ?_⟩) ?_
      ·
        have S9 := Lib.hid (S1.out.below b9)
        have Z9 := Lib.hid z9
        have Lg9 := Lib.hid (show w.heap.size + 1 < g9 from e9 ▸ S1.out.size)
        clear e9 z9 b9
        try simp only [Act.put, stA, stZ, stS]
        refine rdy [5, 7] ?_
        refine AllReadyH.cons (arR rfl) (fun K hK => ?_) ?_
        ·
          go_simp
          refine (wordsG_is B.k _ HB.out.k).mono ?_
          rintro e W10 ⟨rfl, b10⟩
          have S10 := Lib.hid (S9.out.below b10)
          have Z106x := Lib.hid (Z9.out.below b10.bel)
          clear b10
          go_wp2_with fail
          refine hK.out _ _ S10.out (fun _ => ?_)
          clear hK K
          try simp only [Act.put, stA, stZ, stS]
          refine rdy [7] ?_
          refine ready_allocG (arR rfl) rfl rfl (fun g11 W11 e11 z11 b11 => ⟨S10.out.below b11, ?_⟩) ?_
          ·
            have S11 := Lib.hid (S10.out.below b11)
            have Z11 := Lib.hid z11
            have Lg11 := Lib.hid (show w.heap.size + 1 < g11 from e11 ▸ S10.out.size)
            have Z116x := Lib.hid (Z106x.out.below b11.bel)
            have NE := Lib.hid (show g9 ≠ g11 by have := Z106x.out.lt; omega)
            clear e11 z11 b11
            try simp only [Act.put, stA, stZ, stS]
            refine rdy [8] ?_
            refine AllReadyH.cons (arR rfl) (fun K hK => ?_) AllReadyH.nil
            rw [if_pos (by rfl)]
            refine wp_store_mid 95 (.tmp 5) (.tmp 9) rfl g9 0 (wd A.k.w0 A.k.w1 A.k.w2).toArray rfl rfl (Z116x.out.there 0 _ (by simp [wd])) (by rw [List.size_toArray]; exact size29 _ _ _) (one29 _ _ _) ?_
            have O12 := Lib.hid (Only.setCells (g := g9) (wd A.k.w0 A.k.w1 A.k.w2) 0 W11)
            have P12 := Lib.hid (S11.out.only (O12.out) Lg9.out (Nat.le_of_eq (setCells_drawn (wd A.k.w0 A.k.w1 A.k.w2) _ g9 0).symm))
            have Y12 := Lib.hid (setCells_wd A.k.w0 A.k.w1 A.k.w2 Z116x.out)
            have X12 := Lib.hid (Z11.out.only (O12.out) (fun e => NE.out e.symm))
            refine hK.out _ _ P12.out (fun _ => ?_)
            clear hK K
            simp only [Act.put]
            refine rdy [9] ?_
            refine AllReadyH.cons (arR rfl) (fun K hK => ?_) AllReadyH.nil
            rw [if_pos (by rfl)]
            refine wp_store_mid 95 (.tmp 6) (.tmp 12) rfl g11 0 (wd B.k.w0 B.k.w1 B.k.w2).toArray rfl rfl (X12.out.there 0 _ (by simp [wd])) (by rw [List.size_toArray]; exact size29 _ _ _) (one29 _ _ _) ?_
            have O12' := Lib.hid (Only.setCells (g := g11) (wd B.k.w0 B.k.w1 B.k.w2) 0 (W11.setCells g9 0 (wd A.k.w0 A.k.w1 A.k.w2)))
            have P12' := Lib.hid (P12.out.only (O12'.out) Lg11.out (Nat.le_of_eq (setCells_drawn _ _ _ _).symm))
            have Y12' := Lib.hid (Y12.out.only (O12'.out) NE.out)
            have X12' := Lib.hid (setCells_wd B.k.w0 B.k.w1 B.k.w2 X12.out)
            refine hK.out _ _ P12'.out (fun _ => ?_)
            clear hK K
            simp only [Act.put]
            refine wpAnyH_done (by kernel_rfl) ?_ _
            exact ⟨rfl, g9, g11, rfl, NE.out, by have := Lg9.out; omega, by have := Lg11.out; omega, Y12'.out, X12'.out, P12'.out.bel⟩
          exact AllReadyH.nil
        refine ready_allocG (arR rfl) rfl rfl (fun g13 W13 e13 z13 b13 => ⟨S9.out.below b13, ?_⟩) ?_
        ·
          have S13 := Lib.hid (S9.out.below b13)
          have Z13 := Lib.hid z13
          have Lg13 := Lib.hid (show w.heap.size + 1 < g13 from e13 ▸ S9.out.size)
          have Z136x := Lib.hid (Z9.out.below b13.bel)
          have NE := Lib.hid (show g9 ≠ g13 by have := Z9.out.lt; omega)
          clear e13 z13 b13
          try simp only [Act.put, stA, stZ, stS]
          refine rdy [5] ?_
          refine AllReadyH.cons (arR rfl) (fun K hK => ?_) ?_
          ·
            go_simp
            refine (wordsG_is B.k _ HB.out.k).mono ?_
            rintro e W14 ⟨rfl, b14⟩
            have S14 := Lib.hid (S13.out.below b14)
            have Z146x := Lib.hid (Z136x.out.below b14.bel)
            have Z147x := Lib.hid (Z13.out.below b14.bel)
            clear b14
            go_wp2_with fail
            refine hK.out _ _ S14.out (fun _ => ?_)
            clear hK K
            try simp only [Act.put, stA, stZ, stS]
            refine rdy [8] ?_
            refine AllReadyH.cons (arR rfl) (fun K hK => ?_) AllReadyH.nil
            rw [if_pos (by rfl)]
            refine wp_store_mid 95 (.tmp 5) (.tmp 9) rfl g9 0 (wd A.k.w0 A.k.w1 A.k.w2).toArray rfl rfl (Z146x.out.there 0 _ (by simp [wd])) (by rw [List.size_toArray]; exact size29 _ _ _) (one29 _ _ _) ?_
            have O15 := Lib.hid (Only.setCells (g := g9) (wd A.k.w0 A.k.w1 A.k.w2) 0 W14)
            have P15 := Lib.hid (S14.out.only (O15.out) Lg9.out (Nat.le_of_eq (setCells_drawn (wd A.k.w0 A.k.w1 A.k.w2) _ g9 0).symm))
            have Y15 := Lib.hid (setCells_wd A.k.w0 A.k.w1 A.k.w2 Z146x.out)
            have X15 := Lib.hid (Z147x.out.only (O15.out) (fun e => NE.out e.symm))
            refine hK.out _ _ P15.out (fun _ => ?_)
            clear hK K
            simp only [Act.put]
            refine rdy [9] ?_
            refine AllReadyH.cons (arR rfl) (fun K hK => ?_) AllReadyH.nil
            rw [if_pos (by rfl)]
            refine wp_store_mid 95 (.tmp 6) (.tmp 12) rfl g13 0 (wd B.k.w0 B.k.w1 B.k.w2).toArray rfl rfl (X15.out.there 0 _ (by simp [wd])) (by rw [List.size_toArray]; exact size29 _ _ _) (one29 _ _ _) ?_
            have O15' := Lib.hid (Only.setCells (g := g13) (wd B.k.w0 B.k.w1 B.k.w2) 0 (W14.setCells g9 0 (wd A.k.w0 A.k.w1 A.k.w2)))
            have P15' := Lib.hid (P15.out.only (O15'.out) Lg13.out (Nat.le_of_eq (setCells_drawn _ _ _ _).symm))
            have Y15' := Lib.hid (Y15.out.only (O15'.out) NE.out)
            have X15' := Lib.hid (setCells_wd B.k.w0 B.k.w1 B.k.w2 X15.out)
            refine hK.out _ _ P15'.out (fun _ => ?_)
            clear hK K
            simp only [Act.put]
            refine wpAnyH_done (by kernel_rfl) ?_ _
            exact ⟨rfl, g9, g13, rfl, NE.out, by have := Lg9.out; omega, by have := Lg13.out; omega, Y15'.out, X15'.out, P15'.out.bel⟩
          exact AllReadyH.nil
        exact AllReadyH.nil
      refine ready_allocG (arR rfl) rfl rfl (fun g16 W16 e16 z16 b16 => ⟨S1.out.below b16, ?_⟩) ?_
      ·
        have S16 := Lib.hid (S1.out.below b16)
        have Z16 := Lib.hid z16
        have Lg16 := Lib.hid (show w.heap.size + 1 < g16 from e16 ▸ S1.out.size)
        clear e16 z16 b16
        try simp only [Act.put, stA, stZ, stS]
        refine rdy [5, 6] ?_
        refine AllReadyH.cons (arR rfl) (fun K hK => ?_) ?_
        ·
          go_simp
          refine (wordsG_is B.k _ HB.out.k).mono ?_
          rintro e W17 ⟨rfl, b17⟩
          have S17 := Lib.hid (S16.out.below b17)
          have Z177x := Lib.hid (Z16.out.below b17.bel)
          clear b17
          go_wp2_with fail
          refine hK.out _ _ S17.out (fun _ => ?_)
          clear hK K
          try simp only [Act.put, stA, stZ, stS]
          refine rdy [6] ?_
          refine ready_allocG (arR rfl) rfl rfl (fun g18 W18 e18 z18 b18 => ⟨S17.out.below b18, ?_⟩) ?_
          ·
            have S18 := Lib.hid (S17.out.below b18)
            have Z18 := Lib.hid z18
            have Lg18 := Lib.hid (show w.heap.size + 1 < g18 from e18 ▸ S17.out.size)
            have Z187x := Lib.hid (Z177x.out.below b18.bel)
            have NE := Lib.hid (show g18 ≠ g16 by have := Z177x.out.lt; omega)
            clear e18 z18 b18
            try simp only [Act.put, stA, stZ, stS]
            refine rdy [8] ?_
            refine AllReadyH.cons (arR rfl) (fun K hK => ?_) AllReadyH.nil
            rw [if_pos (by rfl)]
            refine wp_store_mid 95 (.tmp 5) (.tmp 9) rfl g18 0 (wd A.k.w0 A.k.w1 A.k.w2).toArray rfl rfl (Z18.out.there 0 _ (by simp [wd])) (by rw [List.size_toArray]; exact size29 _ _ _) (one29 _ _ _) ?_
            have O19 := Lib.hid (Only.setCells (g := g18) (wd A.k.w0 A.k.w1 A.k.w2) 0 W18)
            have P19 := Lib.hid (S18.out.only (O19.out) Lg18.out (Nat.le_of_eq (setCells_drawn (wd A.k.w0 A.k.w1 A.k.w2) _ g18 0).symm))
            have Y19 := Lib.hid (setCells_wd A.k.w0 A.k.w1 A.k.w2 Z18.out)
            have X19 := Lib.hid (Z187x.out.only (O19.out) (fun e => NE.out e.symm))
            refine hK.out _ _ P19.out (fun _ => ?_)
            clear hK K
            simp only [Act.put]
            refine rdy [9] ?_
            refine AllReadyH.cons (arR rfl) (fun K hK => ?_) AllReadyH.nil
            rw [if_pos (by rfl)]
            refine wp_store_mid 95 (.tmp 6) (.tmp 12) rfl g16 0 (wd B.k.w0 B.k.w1 B.k.w2).toArray rfl rfl (X19.out.there 0 _ (by simp [wd])) (by rw [List.size_toArray]; exact size29 _ _ _) (one29 _ _ _) ?_
            have O19' := Lib.hid (Only.setCells (g := g16) (wd B.k.w0 B.k.w1 B.k.w2) 0 (W18.setCells g18 0 (wd A.k.w0 A.k.w1 A.k.w2)))
            have P19' := Lib.hid (P19.out.only (O19'.out) Lg16.out (Nat.le_of_eq (setCells_drawn _ _ _ _).symm))
            have Y19' := Lib.hid (Y19.out.only (O19'.out) NE.out)
            have X19' := Lib.hid (setCells_wd B.k.w0 B.k.w1 B.k.w2 X19.out)
            refine hK.out _ _ P19'.out (fun _ => ?_)
            clear hK K
            simp only [Act.put]
            refine wpAnyH_done (by kernel_rfl) ?_ _
            exact ⟨rfl, g18, g16, rfl, NE.out, by have := Lg18.out; omega, by have := Lg16.out; omega, Y19'.out, X19'.out, P19'.out.bel⟩
          exact AllReadyH.nil
        refine ready_allocG (arR rfl) rfl rfl (fun g20 W20 e20 z20 b20 => ⟨S16.out.below b20, ?_⟩) ?_
        ·
          have S20 := Lib.hid (S16.out.below b20)
          have Z20 := Lib.hid z20
          have Lg20 := Lib.hid (show w.heap.size + 1 < g20 from e20 ▸ S16.out.size)
          have Z207x := Lib.hid (Z16.out.below b20.bel)
          have NE := Lib.hid (show g20 ≠ g16 by have := Z16.out.lt; omega)
          clear e20 z20 b20
          try simp only [Act.put, stA, stZ, stS]
          refine rdy [5] ?_
          refine AllReadyH.cons (arR rfl) (fun K hK => ?_) ?_
          ·
            go_simp
            refine (wordsG_is B.k _ HB.out.k).mono ?_
            rintro e W21 ⟨rfl, b21⟩
            have S21 := Lib.hid (S20.out.below b21)
            have Z217x := Lib.hid (Z207x.out.below b21.bel)
            have Z216x := Lib.hid (Z20.out.below b21.bel)
            clear b21
            go_wp2_with fail
            refine hK.out _ _ S21.out (fun _ => ?_)
            clear hK K
            try simp only [Act.put, stA, stZ, stS]
            refine rdy [8] ?_
            refine AllReadyH.cons (arR rfl) (fun K hK => ?_) AllReadyH.nil
            rw [if_pos (by rfl)]
            refine wp_store_mid 95 (.tmp 5) (.tmp 9) rfl g20 0 (wd A.k.w0 A.k.w1 A.k.w2).toArray rfl rfl (Z216x.out.there 0 _ (by simp [wd])) (by rw [List.size_toArray]; exact size29 _ _ _) (one29 _ _ _) ?_
            have O22 := Lib.hid (Only.setCells (g := g20) (wd A.k.w0 A.k.w1 A.k.w2) 0 W21)
            have P22 := Lib.hid (S21.out.only (O22.out) Lg20.out (Nat.le_of_eq (setCells_drawn (wd A.k.w0 A.k.w1 A.k.w2) _ g20 0).symm))
            have Y22 := Lib.hid (setCells_wd A.k.w0 A.k.w1 A.k.w2 Z216x.out)
            have X22 := Lib.hid (Z217x.out.only (O22.out) (fun e => NE.out e.symm))
            refine hK.out _ _ P22.out (fun _ => ?_)
            clear hK K
            simp only [Act.put]
            refine rdy [9] ?_
            refine AllReadyH.cons (arR rfl) (fun K hK => ?_) AllReadyH.nil
            rw [if_pos (by rfl)]
            refine wp_store_mid 95 (.tmp 6) (.tmp 12) rfl g16 0 (wd B.k.w0 B.k.w1 B.k.w2).toArray rfl rfl (X22.out.there 0 _ (by simp [wd])) (by rw [List.size_toArray]; exact size29 _ _ _) (one29 _ _ _) ?_
            have O22' := Lib.hid (Only.setCells (g := g16) (wd B.k.w0 B.k.w1 B.k.w2) 0 (W21.setCells g20 0 (wd A.k.w0 A.k.w1 A.k.w2)))
            have P22' := Lib.hid (P22.out.only (O22'.out) Lg16.out (Nat.le_of_eq (setCells_drawn _ _ _ _).symm))
            have Y22' := Lib.hid (Y22.out.only (O22'.out) NE.out)
            have X22' := Lib.hid (setCells_wd B.k.w0 B.k.w1 B.k.w2 X22.out)
            refine hK.out _ _ P22'.out (fun _ => ?_)
            clear hK K
            simp only [Act.put]
            refine wpAnyH_done (by kernel_rfl) ?_ _
            exact ⟨rfl, g20, g16, rfl, NE.out, by have := Lg20.out; omega, by have := Lg16.out; omega, Y22'.out, X22'.out, P22'.out.bel⟩
          exact AllReadyH.nil
        exact AllReadyH.nil
      exact AllReadyH.nil
    refine ready_allocG (arR rfl) rfl rfl (fun g23 W23 e23 z23 b23 => ⟨S1.out.below b23, ?_⟩) ?_
    ·
      have S23 := Lib.hid (S1.out.below b23)
      have Z23 := Lib.hid z23
      have Lg23 := Lib.hid (show w.heap.size + 1 < g23 from e23 ▸ S1.out.size)
      clear e23 z23 b23
      try simp only [Act.put, stA, stZ, stS]
      refine rdy [2, 7] ?_
      refine AllReadyH.cons (arR rfl) (fun K hK => ?_) ?_
      ·
        go_simp
        refine (wordsG_is A.k _ HA.out.k).mono ?_
        rintro e W24 ⟨rfl, b24⟩
        have S24 := Lib.hid (S23.out.below b24)
        have Z246x := Lib.hid (Z23.out.below b24.bel)
        clear b24
        go_wp2_with fail
        refine hK.out _ _ S24.out (fun _ => ?_)
        clear hK K
        try simp only [Act.put, stA, stZ, stS]
        refine rdy [5, 7] ?_
        refine AllReadyH.cons (arR rfl) (fun K hK => ?_) ?_
        ·
          go_simp
          refine (wordsG_is B.k _ HB.out.k).mono ?_
          rintro e W25 ⟨rfl, b25⟩
          have S25 := Lib.hid (S24.out.below b25)
          have Z256x := Lib.hid (Z246x.out.below b25.bel)
          clear b25
          go_wp2_with fail
          refine hK.out _ _ S25.out (fun _ => ?_)
          clear hK K
          try simp only [Act.put, stA, stZ, stS]
          refine rdy [7] ?_
          refine ready_allocG (arR rfl) rfl rfl (fun g26 W26 e26 z26 b26 => ⟨S25.out.below b26, ?_⟩) ?_
          ·
            have S26 := Lib.hid (S25.out.below b26)
            have Z26 := Lib.hid z26
            have Lg26 := Lib.hid (show w.heap.size + 1 < g26 from e26 ▸ S25.out.size)
            have Z266x := Lib.hid (Z256x.out.below b26.bel)
            have NE := Lib.hid (show g23 ≠ g26 by have := Z256x.out.lt; omega)
            clear e26 z26 b26
            try simp only [Act.put, stA, stZ, stS]
            refine rdy [8] ?_
            refine AllReadyH.cons (arR rfl) (fun K hK => ?_) AllReadyH.nil
            rw [if_pos (by rfl)]
            refine wp_store_mid 95 (.tmp 5) (.tmp 9) rfl g23 0 (wd A.k.w0 A.k.w1 A.k.w2).toArray rfl rfl (Z266x.out.there 0 _ (by simp [wd])) (by rw [List.size_toArray]; exact size29 _ _ _) (one29 _ _ _) ?_
            have O27 := Lib.hid (Only.setCells (g := g23) (wd A.k.w0 A.k.w1 A.k.w2) 0 W26)
            have P27 := Lib.hid (S26.out.only (O27.out) Lg23.out (Nat.le_of_eq (setCells_drawn (wd A.k.w0 A.k.w1 A.k.w2) _ g23 0).symm))
            have Y27 := Lib.hid (setCells_wd A.k.w0 A.k.w1 A.k.w2 Z266x.out)
            have X27 := Lib.hid (Z26.out.only (O27.out) (fun e => NE.out e.symm))
            refine hK.out _ _ P27.out (fun _ => ?_)
            clear hK K
            simp only [Act.put]
            refine rdy [9] ?_
            refine AllReadyH.cons (arR rfl) (fun K hK => ?_) AllReadyH.nil
            rw [if_pos (by rfl)]
            refine wp_store_mid 95 (.tmp 6) (.tmp 12) rfl g26 0 (wd B.k.w0 B.k.w1 B.k.w2).toArray rfl rfl (X27.out.there 0 _ (by simp [wd])) (by rw [List.size_toArray]; exact size29 _ _ _) (one29 _ _ _) ?_
            have O27' := Lib.hid (Only.setCells (g := g26) (wd B.k.w0 B.k.w1 B.k.w2) 0 (W26.setCells g23 0 (wd A.k.w0 A.k.w1 A.k.w2)))
            have P27' := Lib.hid (P27.out.only (O27'.out) Lg26.out (Nat.le_of_eq (setCells_drawn _ _ _ _).symm))
            have Y27' := Lib.hid (Y27.out.only (O27'.out) NE.out)
            have X27' := Lib.hid (setCells_wd B.k.w0 B.k.w1 B.k.w2 X27.out)
            refine hK.out _ _ P27'.out (fun _ => ?_)
            clear hK K
            simp only [Act.put]
            refine wpAnyH_done (by kernel_rfl) ?_ _
            exact ⟨rfl, g23, g26, rfl, NE.out, by have := Lg23.out; omega, by have := Lg26.out; omega, Y27'.out, X27'.out, P27'.out.bel⟩
          exact AllReadyH.nil
        refine ready_allocG (arR rfl) rfl rfl (fun g28 W28 e28 z28 b28 => ⟨S24.out.below b28, ?_⟩) ?_
        ·
          have S28 := Lib.hid (S24.out.below b28)
          have Z28 := Lib.hid z28
          have Lg28 := Lib.hid (show w.heap.size + 1 < g28 from e28 ▸ S24.out.size)
          have Z286x := Lib.hid (Z246x.out.below b28.bel)
          have NE := Lib.hid (show g23 ≠ g28 by have := Z246x.out.lt; omega)
          clear e28 z28 b28
          try simp only [Act.put, stA, stZ, stS]
          refine rdy [5] ?_
          refine AllReadyH.cons (arR rfl) (fun K hK => ?_) ?_
          ·
            go_simp
            refine (wordsG_is B.k _ HB.out.k).mono ?_
            rintro e W29 ⟨rfl, b29⟩
            have S29 := Lib.hid (S28.out.below b29)
            have Z296x := Lib.hid (Z286x.out.below b29.bel)
            have Z297x := Lib.hid (Z28.out.below b29.bel)
            clear b29
            go_wp2_with fail
            refine hK.out _ _ S29.out (fun _ => ?_)
            clear hK K
            try simp only [Act.put, stA, stZ, stS]
            refine rdy [8] ?_
            refine AllReadyH.cons (arR rfl) (fun K hK => ?_) AllReadyH.nil
            rw [if_pos (by rfl)]
            refine wp_store_mid 95 (.tmp 5) (.tmp 9) rfl g23 0 (wd A.k.w0 A.k.w1 A.k.w2).toArray rfl rfl (Z296x.out.there 0 _ (by simp [wd])) (by rw [List.size_toArray]; exact size29 _ _ _) (one29 _ _ _) ?_
            have O30 := Lib.hid (Only.setCells (g := g23) (wd A.k.w0 A.k.w1 A.k.w2) 0 W29)
            have P30 := Lib.hid (S29.out.only (O30.out) Lg23.out (Nat.le_of_eq (setCells_drawn (wd A.k.w0 A.k.w1 A.k.w2) _ g23 0).symm))
            have Y30 := Lib.hid (setCells_wd A.k.w0 A.k.w1 A.k.w2 Z296x.out)
            have X30 := Lib.hid (Z297x.out.only (O30.out) (fun e => NE.out e.symm))
            refine hK.out _ _ P30.out (fun _ => ?_)
            clear hK K
            simp only [Act.put]
            refine rdy [9] ?_
            refine AllReadyH.cons (arR rfl) (fun K hK => ?_) AllReadyH.nil
            rw [if_pos (by rfl)]
            refine wp_store_mid 95 (.tmp 6) (.tmp 12) rfl g28 0 (wd B.k.w0 B.k.w1 B.k.w2).toArray rfl rfl (X30.out.there 0 _ (by simp [wd])) (by rw [List.size_toArray]; exact size29 _ _ _) (one29 _ _ _) ?_
            have O30' := Lib.hid (Only.setCells (g := g28) (wd B.k.w0 B.k.w1 B.k.w2) 0 (W29.setCells g23 0 (wd A.k.w0 A.k.w1 A.k.w2)))
            have P30' := Lib.hid (P30.out.only (O30'.out) Lg28.out (Nat.le_of_eq (setCells_drawn _ _ _ _).symm))
            have Y30' := Lib.hid (Y30.out.only (O30'.out) NE.out)
            have X30' := Lib.hid (setCells_wd B.k.w0 B.k.w1 B.k.w2 X30.out)
            refine hK.out _ _ P30'.out (fun _ => ?_)
            clear hK K
            simp only [Act.put]
            refine wpAnyH_done (by kernel_rfl) ?_ _
            exact ⟨rfl, g23, g28, rfl, NE.out, by have := Lg23.out; omega, by have := Lg28.out; omega, Y30'.out, X30'.out, P30'.out.bel⟩
          exact AllReadyH.nil
        exact AllReadyH.nil
      refine ready_allocG (arR rfl) rfl rfl (fun g31 W31 e31 z31 b31 => ⟨S23.out.below b31, ?_⟩) ?_
      ·
        have S31 := Lib.hid (S23.out.below b31)
        have Z31 := Lib.hid z31
        have Lg31 := Lib.hid (show w.heap.size + 1 < g31 from e31 ▸ S23.out.size)
        have Z316x := Lib.hid (Z23.out.below b31.bel)
        have NE := Lib.hid (show g23 ≠ g31 by have := Z23.out.lt; omega)
        clear e31 z31 b31
        try simp only [Act.put, stA, stZ, stS]
        refine rdy [2] ?_
        refine AllReadyH.cons (arR rfl) (fun K hK => ?_) ?_
        ·
          go_simp
          refine (wordsG_is A.k _ HA.out.k).mono ?_
          rintro e W32 ⟨rfl, b32⟩
          have S32 := Lib.hid (S31.out.below b32)
          have Z326x := Lib.hid (Z316x.out.below b32.bel)
          have Z327x := Lib.hid (Z31.out.below b32.bel)
          clear b32
          go_wp2_with fail
          refine hK.out _ _ S32.out (fun _ => ?_)
          clear hK K
          try simp only [Act.put, stA, stZ, stS]
          refine rdy [5] ?_
          refine AllReadyH.cons (arR rfl) (fun K hK => ?_) ?_
          ·
            go_simp
            refine (wordsG_is B.k _ HB.out.k).mono ?_
            rintro e W33 ⟨rfl, b33⟩
            have S33 := Lib.hid (S32.out.below b33)
            have Z336x := Lib.hid (Z326x.out.below b33.bel)
            have Z337x := Lib.hid (Z327x.out.below b33.bel)
            clear b33
            go_wp2_with fail
            refine hK.out _ _ S33.out (fun _ => ?_)
            clear hK K
            try simp only [Act.put, stA, stZ, stS]
            refine rdy [8] ?_
            refine AllReadyH.cons (arR rfl) (fun K hK => ?_) AllReadyH.nil
            rw [if_pos (by rfl)]
            refine wp_store_mid 95 (.tmp 5) (.tmp 9) rfl g23 0 (wd A.k.w0 A.k.w1 A.k.w2).toArray rfl rfl (Z336x.out.there 0 _ (by simp [wd])) (by rw [List.size_toArray]; exact size29 _ _ _) (one29 _ _ _) ?_
            have O34 := Lib.hid (Only.setCells (g := g23) (wd A.k.w0 A.k.w1 A.k.w2) 0 W33)
            have P34 := Lib.hid (S33.out.only (O34.out) Lg23.out (Nat.le_of_eq (setCells_drawn (wd A.k.w0 A.k.w1 A.k.w2) _ g23 0).symm))
            have Y34 := Lib.hid (setCells_wd A.k.w0 A.k.w1 A.k.w2 Z336x.out)
            have X34 := Lib.hid (Z337x.out.only (O34.out) (fun e => NE.out e.symm))
            refine hK.out _ _ P34.out (fun _ => ?_)
            clear hK K
            simp only [Act.put]
            refine rdy [9] ?_
            refine AllReadyH.cons (arR rfl) (fun K hK => ?_) AllReadyH.nil
            rw [if_pos (by rfl)]
            refine wp_store_mid 95 (.tmp 6) (.tmp 12) rfl g31 0 (wd B.k.w0 B.k.w1 B.k.w2).toArray rfl rfl (X34.out.there 0 _ (by simp [wd])) (by rw [List.size_toArray]; exact size29 _ _ _) (one29 _ _ _) ?_
            have O34' := Lib.hid (Only.setCells (g := g31) (wd B.k.w0 B.k.w1 B.k.w2) 0 (W33.setCells g23 0 (wd A.k.w0 A.k.w1 A.k.w2)))
            have P34' := Lib.hid (P34.out.only (O34'.out) Lg31.out (Nat.le_of_eq (setCells_drawn _ _ _ _).symm))
            have Y34' := Lib.hid (Y34.out.only (O34'.out) NE.out)
            have X34' := Lib.hid (setCells_wd B.k.w0 B.k.w1 B.k.w2 X34.out)
            refine hK.out _ _ P34'.out (fun _ => ?_)
            clear hK K
            simp only [Act.put]
            refine wpAnyH_done (by kernel_rfl) ?_ _
            exact ⟨rfl, g23, g31, rfl, NE.out, by have := Lg23.out; omega, by have := Lg31.out; omega, Y34'.out, X34'.out, P34'.out.bel⟩
          exact AllReadyH.nil
        exact AllReadyH.nil
      exact AllReadyH.nil
    refine ready_allocG (arR rfl) rfl rfl (fun g35 W35 e35 z35 b35 => ⟨S1.out.below b35, ?_⟩) ?_
    ·
      have S35 := Lib.hid (S1.out.below b35)
      have Z35 := Lib.hid z35
      have Lg35 := Lib.hid (show w.heap.size + 1 < g35 from e35 ▸ S1.out.size)
      clear e35 z35 b35
      try simp only [Act.put, stA, stZ, stS]
      refine rdy [2, 6] ?_
      refine AllReadyH.cons (arR rfl) (fun K hK => ?_) ?_
      ·
        go_simp
        refine (wordsG_is A.k _ HA.out.k).mono ?_
        rintro e W36 ⟨rfl, b36⟩
        have S36 := Lib.hid (S35.out.below b36)
        have Z367x := Lib.hid (Z35.out.below b36.bel)
        clear b36
        go_wp2_with fail
        refine hK.out _ _ S36.out (fun _ => ?_)
        clear hK K
        try simp only [Act.put, stA, stZ, stS]
        refine rdy [5, 6] ?_
        refine AllReadyH.cons (arR rfl) (fun K hK => ?_) ?_
        ·
          go_simp
          refine (wordsG_is B.k _ HB.out.k).mono ?_
          rintro e W37 ⟨rfl, b37⟩
          have S37 := Lib.hid (S36.out.below b37)
          have Z377x := Lib.hid (Z367x.out.below b37.bel)
          clear b37
          go_wp2_with fail
          refine hK.out _ _ S37.out (fun _ => ?_)
          clear hK K
          try simp only [Act.put, stA, stZ, stS]
          refine rdy [6] ?_
          refine ready_allocG (arR rfl) rfl rfl (fun g38 W38 e38 z38 b38 => ⟨S37.out.below b38, ?_⟩) ?_
          ·
            have S38 := Lib.hid (S37.out.below b38)
            have Z38 := Lib.hid z38
            have Lg38 := Lib.hid (show w.heap.size + 1 < g38 from e38 ▸ S37.out.size)
            have Z387x := Lib.hid (Z377x.out.below b38.bel)
            have NE := Lib.hid (show g38 ≠ g35 by have := Z377x.out.lt; omega)
            clear e38 z38 b38
            try simp only [Act.put, stA, stZ, stS]
            refine rdy [8] ?_
            refine AllReadyH.cons (arR rfl) (fun K hK => ?_) AllReadyH.nil
            rw [if_pos (by rfl)]
            refine wp_store_mid 95 (.tmp 5) (.tmp 9) rfl g38 0 (wd A.k.w0 A.k.w1 A.k.w2).toArray rfl rfl (Z38.out.there 0 _ (by simp [wd])) (by rw [List.size_toArray]; exact size29 _ _ _) (one29 _ _ _) ?_
            have O39 := Lib.hid (Only.setCells (g := g38) (wd A.k.w0 A.k.w1 A.k.w2) 0 W38)
            have P39 := Lib.hid (S38.out.only (O39.out) Lg38.out (Nat.le_of_eq (setCells_drawn (wd A.k.w0 A.k.w1 A.k.w2) _ g38 0).symm))
            have Y39 := Lib.hid (setCells_wd A.k.w0 A.k.w1 A.k.w2 Z38.out)
            have X39 := Lib.hid (Z387x.out.only (O39.out) (fun e => NE.out e.symm))
            refine hK.out _ _ P39.out (fun _ => ?_)
            clear hK K
            simp only [Act.put]
            refine rdy [9] ?_
            refine AllReadyH.cons (arR rfl) (fun K hK => ?_) AllReadyH.nil
            rw [if_pos (by rfl)]
            refine wp_store_mid 95 (.tmp 6) (.tmp 12) rfl g35 0 (wd B.k.w0 B.k.w1 B.k.w2).toArray rfl rfl (X39.out.there 0 _ (by simp [wd])) (by rw [List.size_toArray]; exact size29 _ _ _) (one29 _ _ _) ?_
            have O39' := Lib.hid (Only.setCells (g := g35) (wd B.k.w0 B.k.w1 B.k.w2) 0 (W38.setCells g38 0 (wd A.k.w0 A.k.w1 A.k.w2)))
            have P39' := Lib.hid (P39.out.only (O39'.out) Lg35.out (Nat.le_of_eq (setCells_drawn _ _ _ _).symm))
            have Y39' := Lib.hid (Y39.out.only (O39'.out) NE.out)
            have X39' := Lib.hid (setCells_wd B.k.w0 B.k.w1 B.k.w2 X39.out)
            refine hK.out _ _ P39'.out (fun _ => ?_)
            clear hK K
            simp only [Act.put]
            refine wpAnyH_done (by kernel_rfl) ?_ _
            exact ⟨rfl, g38, g35, rfl, NE.out, by have := Lg38.out; omega, by have := Lg35.out; omega, Y39'.out, X39'.out, P39'.out.bel⟩
          exact AllReadyH.nil
        refine ready_allocG (arR rfl) rfl rfl (fun g40 W40 e40 z40 b40 => ⟨S36.out.below b40, ?_⟩) ?_
        ·
          have S40 := Lib.hid (S36.out.below b40)
          have Z40 := Lib.hid z40
          have Lg40 := Lib.hid (show w.heap.size + 1 < g40 from e40 ▸ S36.out.size)
          have Z407x := Lib.hid (Z367x.out.below b40.bel)
          have NE := Lib.hid (show g40 ≠ g35 by have := Z367x.out.lt; omega)
          clear e40 z40 b40
          try simp only [Act.put, stA, stZ, stS]
          refine rdy [5] ?_
          refine AllReadyH.cons (arR rfl) (fun K hK => ?_) ?_
          ·
            go_simp
            refine (wordsG_is B.k _ HB.out.k).mono ?_
            rintro e W41 ⟨rfl, b41⟩
            have S41 := Lib.hid (S40.out.below b41)
            have Z417x := Lib.hid (Z407x.out.below b41.bel)
            have Z416x := Lib.hid (Z40.out.below b41.bel)
            clear b41
            go_wp2_with fail
            refine hK.out _ _ S41.out (fun _ => ?_)
            clear hK K
            try simp only [Act.put, stA, stZ, stS]
            refine rdy [8] ?_
            refine AllReadyH.cons (arR rfl) (fun K hK => ?_) AllReadyH.nil
            rw [if_pos (by rfl)]
            refine wp_store_mid 95 (.tmp 5) (.tmp 9) rfl g40 0 (wd A.k.w0 A.k.w1 A.k.w2).toArray rfl rfl (Z416x.out.there 0 _ (by simp [wd])) (by rw [List.size_toArray]; exact size29 _ _ _) (one29 _ _ _) ?_
            have O42 := Lib.hid (Only.setCells (g := g40) (wd A.k.w0 A.k.w1 A.k.w2) 0 W41)
            have P42 := Lib.hid (S41.out.only (O42.out) Lg40.out (Nat.le_of_eq (setCells_drawn (wd A.k.w0 A.k.w1 A.k.w2) _ g40 0).symm))
            have Y42 := Lib.hid (setCells_wd A.k.w0 A.k.w1 A.k.w2 Z416x.out)
            have X42 := Lib.hid (Z417x.out.only (O42.out) (fun e => NE.out e.symm))
            refine hK.out _ _ P42.out (fun _ => ?_)
            clear hK K
            simp only [Act.put]
            refine rdy [9] ?_
            refine AllReadyH.cons (arR rfl) (fun K hK => ?_) AllReadyH.nil
            rw [if_pos (by rfl)]
            refine wp_store_mid 95 (.tmp 6) (.tmp 12) rfl g35 0 (wd B.k.w0 B.k.w1 B.k.w2).toArray rfl rfl (X42.out.there 0 _ (by simp [wd])) (by rw [List.size_toArray]; exact size29 _ _ _) (one29 _ _ _) ?_
            have O42' := Lib.hid (Only.setCells (g := g35) (wd B.k.w0 B.k.w1 B.k.w2) 0 (W41.setCells g40 0 (wd A.k.w0 A.k.w1 A.k.w2)))
            have P42' := Lib.hid (P42.out.only (O42'.out) Lg35.out (Nat.le_of_eq (setCells_drawn _ _ _ _).symm))
            have Y42' := Lib.hid (Y42.out.only (O42'.out) NE.out)
            have X42' := Lib.hid (setCells_wd B.k.w0 B.k.w1 B.k.w2 X42.out)
            refine hK.out _ _ P42'.out (fun _ => ?_)
            clear hK K
            simp only [Act.put]
            refine wpAnyH_done (by kernel_rfl) ?_ _
            exact ⟨rfl, g40, g35, rfl, NE.out, by have := Lg40.out; omega, by have := Lg35.out; omega, Y42'.out, X42'.out, P42'.out.bel⟩
          exact AllReadyH.nil
        exact AllReadyH.nil
      refine ready_allocG (arR rfl) rfl rfl (fun g43 W43 e43 z43 b43 => ⟨S35.out.below b43, ?_⟩) ?_
      ·
        have S43 := Lib.hid (S35.out.below b43)
        have Z43 := Lib.hid z43
        have Lg43 := Lib.hid (show w.heap.size + 1 < g43 from e43 ▸ S35.out.size)
        have Z437x := Lib.hid (Z35.out.below b43.bel)
        have NE := Lib.hid (show g43 ≠ g35 by have := Z35.out.lt; omega)
        clear e43 z43 b43
        try simp only [Act.put, stA, stZ, stS]
        refine rdy [2] ?_
        refine AllReadyH.cons (arR rfl) (fun K hK => ?_) ?_
        ·
          go_simp
          refine (wordsG_is A.k _ HA.out.k).mono ?_
          rintro e W44 ⟨rfl, b44⟩
          have S44 := Lib.hid (S43.out.below b44)
          have Z447x := Lib.hid (Z437x.out.below b44.bel)
          have Z446x := Lib.hid (Z43.out.below b44.bel)
          clear b44
          go_wp2_with fail
          refine hK.out _ _ S44.out (fun _ => ?_)
          clear hK K
          try simp only [Act.put, stA, stZ, stS]
          refine rdy [5] ?_
          refine AllReadyH.cons (arR rfl) (fun K hK => ?_) ?_
          ·
            go_simp
            refine (wordsG_is B.k _ HB.out.k).mono ?_
            rintro e W45 ⟨rfl, b45⟩
            have S45 := Lib.hid (S44.out.below b45)
            have Z457x := Lib.hid (Z447x.out.below b45.bel)
            have Z456x := Lib.hid (Z446x.out.below b45.bel)
            clear b45
            go_wp2_with fail
            refine hK.out _ _ S45.out (fun _ => ?_)
            clear hK K
            try simp only [Act.put, stA, stZ, stS]
            refine rdy [8] ?_
            refine AllReadyH.cons (arR rfl) (fun K hK => ?_) AllReadyH.nil
            rw [if_pos (by rfl)]
            refine wp_store_mid 95 (.tmp 5) (.tmp 9) rfl g43 0 (wd A.k.w0 A.k.w1 A.k.w2).toArray rfl rfl (Z456x.out.there 0 _ (by simp [wd])) (by rw [List.size_toArray]; exact size29 _ _ _) (one29 _ _ _) ?_
            have O46 := Lib.hid (Only.setCells (g := g43) (wd A.k.w0 A.k.w1 A.k.w2) 0 W45)
            have P46 := Lib.hid (S45.out.only (O46.out) Lg43.out (Nat.le_of_eq (setCells_drawn (wd A.k.w0 A.k.w1 A.k.w2) _ g43 0).symm))
            have Y46 := Lib.hid (setCells_wd A.k.w0 A.k.w1 A.k.w2 Z456x.out)
            have X46 := Lib.hid (Z457x.out.only (O46.out) (fun e => NE.out e.symm))
            refine hK.out _ _ P46.out (fun _ => ?_)
            clear hK K
            simp only [Act.put]
            refine rdy [9] ?_
            refine AllReadyH.cons (arR rfl) (fun K hK => ?_) AllReadyH.nil
            rw [if_pos (by rfl)]
            refine wp_store_mid 95 (.tmp 6) (.tmp 12) rfl g35 0 (wd B.k.w0 B.k.w1 B.k.w2).toArray rfl rfl (X46.out.there 0 _ (by simp [wd])) (by rw [List.size_toArray]; exact size29 _ _ _) (one29 _ _ _) ?_
            have O46' := Lib.hid (Only.setCells (g := g35) (wd B.k.w0 B.k.w1 B.k.w2) 0 (W45.setCells g43 0 (wd A.k.w0 A.k.w1 A.k.w2)))
            have P46' := Lib.hid (P46.out.only (O46'.out) Lg35.out (Nat.le_of_eq (setCells_drawn _ _ _ _).symm))
            have Y46' := Lib.hid (Y46.out.only (O46'.out) NE.out)
            have X46' := Lib.hid (setCells_wd B.k.w0 B.k.w1 B.k.w2 X46.out)
            refine hK.out _ _ P46'.out (fun _ => ?_)
            clear hK K
            simp only [Act.put]
            refine wpAnyH_done (by kernel_rfl) ?_ _
            exact ⟨rfl, g43, g35, rfl, NE.out, by have := Lg43.out; omega, by have := Lg35.out; omega, Y46'.out, X46'.out, P46'.out.bel⟩
          exact AllReadyH.nil
        exact AllReadyH.nil
      exact AllReadyH.nil
    exact AllReadyH.nil
  · rintro e a W ⟨rfl, g, h, rfl, hne, hg, hh, hbA, hbB, hbel⟩
    have BA := Lib.hid hbA
    have BB := Lib.hid hbB
    have BL := Lib.hid hbel
    clear hne hg hh hbA hbB hbel
    go_wp2_with fail
    go_quiet (refine Calls.quiet_of_same ((slicesCompare_is g h A.k.w0 A.k.w1 A.k.w2 B.k.w0 B.k.w1 B.k.w2 _ (BA.out.drewN _) (BB.out.drewN _)).mono fun _ _ hh => ⟨hh.1, hh.2.symm⟩))
    go_wp2
    go_ret
    exact ⟨rfl, below_drewN BL.out.bel _, Nat.le_trans BL.out.drw (Nat.le_add_right _ _)⟩
theorem Gr.grow {w w' : World} (h : Gr w w') : ∃ q os, w' = Go.Sort.grow (w.drewN q) os := by
  refine ⟨w'.drawn - w.drawn, w'.heap.extract w.heap.size w'.heap.size, ?_⟩
  obtain ⟨heap, tape, drawn, os, output⟩ := w'
  have h1 := h.bel.os; have h2 := h.bel.tape; have h3 := h.bel.output; have h4 := h.drw; have h5 := h.bel.size; have h6 := h.bel.block
  simp only at h1 h2 h3 h4 h5 h6
  unfold Go.Sort.grow World.drewN
  simp only [World.mk.injEq]
  refine ⟨?_, h2, by omega, h1, h3⟩
  apply Array.ext_getElem?
  intro i
  by_cases hi : i < w.heap.size
  · rw [Array.getElem?_append_left hi]; exact h6 i hi
  · rw [Array.getElem?_append_right (by omega), Array.getElem?_extract]
    by_cases h7 : i < heap.size
    · rw [if_pos (by omega)]; congr 1; omega
    · rw [if_neg (by omega)]; exact Array.getElem?_eq_none (by omega)
end Go.Proofs.YtnpbmihbmilkbaaGreat
