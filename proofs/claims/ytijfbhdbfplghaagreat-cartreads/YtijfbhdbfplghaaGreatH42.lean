/- The groups of a row of atoms: by the cart, by the item. Written by wip/tools/cgrp_r17.py. -/
import Derived.Test.YtijfbhdbfplghaaGreatH01
import Derived.Test.YtijfbhdbfplghaaGreatH28
import Derived.Test.YtijfbhdbfplghaaGreatH41
namespace Go.Proofs.YtijfbhdbfplghaaGreat
open Go.RowKit Go.Shelf Go.Maps
attribute [local go_sem] Oper.semAt_some
section
variable {K : Type} [DecidableEq K] [Inhabited (MKd K)]
theorem Grps.lookB {w W : World} {B b n : Nat} {ky : Am → K} {s : List Am} (h : Grps w B b n ky s) (hb : Below w.heap.size w W) {k : K} (hk : MK.ok k) :
    ∃ v, (Instr.lookup (MK.mt K) (.map (some b)) (MK.kv k) false).run Tryz.prog W = .ok v W ∧ GotG W B b n ky s k v ∧ ∀ g, v.ownBlock = some g → g < w.heap.size := by
  obtain ⟨f, h1, h2⟩ := h.ex
  obtain ⟨v, r, g⟩ := h.look hk
  rw [run_lookupG h1 hk] at r
  injection r with r1 r2
  subst r1
  exact ⟨_, run_lookupG (h1.below hb) hk, g.below hb, fun k e => (g.own.row.lt k e).2⟩
theorem ready_lookG {ops : Array Oper} {Q : Exit → Act → World → Prop} {md : Region.Mode} {S : World → Prop} {fuel : Nat} {listed : Array Bool} {a : Act} {w : World} {i : Nat} {o : Oper} {rs : List Nat} (ho : ops[i]? = some o) (hg : o.guard = none) (x y : Operand) (hop : o.op = .lookup (MK.mt K) x y false) {W0 : World} (B b n : Nat) (ky : Am → K) (s : List Am) (k : K) (hx : a.eval x = .map (some b)) (hy : a.eval y = MK.kv k) (hm : Grps W0 B b n ky s) (hW : Below W0.heap.size W0 w) (hk : MK.ok k)
    (h : ∀ v, GotG w B b n ky s k v → (∀ g, v.ownBlock = some g → g < W0.heap.size) → S w ∧ wpAnyH Tryz.prog md ops Q S fuel (listed.setIfInBounds i true) (a.put o.dst v) w)
    (hs : AllReadyH Tryz.prog md ops Q S fuel listed a w rs) : AllReadyH Tryz.prog md ops Q S fuel listed a w (i :: rs) := by
  refine AllReadyH.cons ho (fun K hK => ?_) hs
  have hw : Region.wanted o (yielded ops a.tmps) = true := by simp [Region.wanted, hg]
  rw [if_pos hw]
  obtain ⟨v, hr, h1, h2⟩ := hm.lookB hW hk
  have H := h v h1 h2
  unfold Oper.wp execOp
  simp only [hop, hx, hy, Sem.run_bind, hr, Result.andThen_ok, Sem.run_pure]
  exact hK.out _ _ H.1 (fun _ => H.2)
theorem ready_appM {ops : Array Oper} {Q : Exit → Act → World → Prop} {md : Region.Mode} {S : World → Prop} {fuel : Nat} {listed : Array Bool} {a : Act} {w : World} {i : Nat} {o : Oper} {rs : List Nat} (ho : ops[i]? = some o) (hg : o.guard = none) (p x : Operand) (hop : o.op = .call { callee := .builtin .append, args := #[p, x], argTypes := #[22, 22] })
    (B b n : Nat) (ky : Am → K) (s : List Am) (k : K) (v : Value) (A : Am) (g : Nat) (hs' : a.eval p = v) (hx : a.eval x = .slice (some ⟨g, 0, none⟩) 1 1) (hgot : GotG w B b n ky s k v) (hA : A.Ok) (hgb : Blk w g 58 A.cells) (hn : s.length ≤ 5000) (hB : B ≤ w.heap.size)
    (h : ∀ u w', PutG w' B b n ky s k u (onK ky k s ++ [A]) → Below B w w' → w.grownBy w' v.ownBlock → S w' ∧ wpAnyH Tryz.prog md ops Q S fuel (listed.setIfInBounds i true) (a.put o.dst u) w')
    (hs : AllReadyH Tryz.prog md ops Q S fuel listed a w rs) : AllReadyH Tryz.prog md ops Q S fuel listed a w (i :: rs) := by
  refine AllReadyH.cons ho (fun K hK => ?_) hs
  have hw : Region.wanted o (yielded ops a.tmps) = true := by simp [Region.wanted, hg]
  rw [if_pos hw]
  obtain ⟨D, cap, w', hr, h1, h2, h3⟩ := run_appM w B v _ A g o.type hgot.own hA hgb (Nat.le_trans (onK_len ky k s) hn) hB
  have H := h _ w' (hgot.app h1 h2 h3) ((Below.refl B w).grown h2 hB (fun k hk => (hgot.own.row.lt k hk).1)) h2
  unfold Oper.wp execOp
  simp only [hop, resolve, invoke, builtin, Sem.run_bind, Sem.run_pure, Result.andThen_ok, List.map_toArray, List.map_cons, List.map_nil, hs', hx, hr]
  exact hK.out _ _ H.1 (fun _ => H.2)
theorem ready_putG {ops : Array Oper} {Q : Exit → Act → World → Prop} {md : Region.Mode} {S : World → Prop} {fuel : Nat} {listed : Array Bool} {a : Act} {w : World} {i : Nat} {o : Oper} {rs : List Nat} (ho : ops[i]? = some o) (hg : o.guard = none) (x y z : Operand) (hop : o.op = .mapUpdate (MK.mt K) x y z) (B b n : Nat) (ky : Am → K) (s : List Am) (k : K) (v : Value) (A : Am) (hx : a.eval x = .map (some b)) (hy : a.eval y = MK.kv k) (hz : a.eval z = v) (hp : PutG w B b n ky s k v (onK ky k s ++ [A])) (hA : ky A = k) (hk : MK.ok k) (hn : n ≤ 5000)
    (h : ∀ w', Grps w' B b (n + 1) ky (s ++ [A]) → Only b w w' → S w' ∧ wpAnyH Tryz.prog md ops Q S fuel (listed.setIfInBounds i true) (a.put o.dst undef) w')
    (hs : AllReadyH Tryz.prog md ops Q S fuel listed a w rs) : AllReadyH Tryz.prog md ops Q S fuel listed a w (i :: rs) := by
  refine AllReadyH.cons ho (fun K hK => ?_) hs
  have hw : Region.wanted o (yielded ops a.tmps) = true := by simp [Region.wanted, hg]
  rw [if_pos hw]
  obtain ⟨w', hr, h1, h2⟩ := hp.put hA hk hn
  have H := h w' h1 (only_of_grown h2)
  unfold Oper.wp execOp
  simp only [hop, hx, hy, hz, Sem.run_bind, hr, Result.andThen_ok, Sem.run_pure]
  exact hK.out _ _ H.1 (fun _ => H.2)
end
instance kItem : Inhabited (MKd (List Int)) := ⟨{
  tk := 25,
  mt := 99,
  kv := fun m => .agg (nm m),
  ok := NOk,
  keyed := lawN,
  lit := fun _ h => keyN h,
  inj := fun _ _ _ _ h => nm_inj h,
  under := Tryz.underlying99 }⟩
set_option maxRecDepth 100000 in
set_option maxHeartbeats 4000000 in
theorem groupC_is (A : Option Addr) (n cap : Nat) (a : List Am) (w : World) (h : RowV w A n cap a) (hl : n ≤ 1000) : Calls Tryz.prog 34 #[.slice A n cap, .func (.func 35) #[] #[]] w fun e w' => ∃ b, e = .returned (.map (some b)) ∧ Grps w' w.heap.size b n (fun x : Am => x.k.c) a ∧ Below w.heap.size w w' := by
  have H0 := Lib.hid h
  clear h
  have hz := zero32
  go_enter Tryz.func34, Tryz.ntmps34
  go_wp2_with (refine wpList_makeG (fun x : Am => x.k.c) rfl rfl w.heap.size (Nat.le_refl _) ?_; intro b w1 eb M1 B1)
  have LO := Lib.hid M1.out.lo
  have H := Lib.hid (H0.out.below B1.out)
  clear eb
  go_loopw [11] (fun i wr => ∃ j : Nat, j ≤ n ∧ i = .int .i64 (j : Int) ∧ Grps wr w.heap.size b j (fun x : Am => x.k.c) (a.take j) ∧ Below w.heap.size w wr) (fun i _ => n - (intOf i).toNat)
  case atStart => exact ⟨0, Nat.zero_le _, rfl, M1.out, B1.out⟩
  case round =>
    obtain ⟨j, hj, rfl, hm, hb⟩ := hrel
    have MM := Lib.hid hm
    have BB := Lib.hid hb
    clear hm hb
    by_cases hlt : j < n
    · obtain ⟨G, p, hE⟩ := (H0.out.below BB.out).elem j hlt
      have TK := Lib.hid (take_getD (l := a) (j := j) (by have := H0.out.len; omega))
      obtain ⟨x, hx⟩ : ∃ x, a.getD j azero = x := ⟨_, rfl⟩
      rw [hx] at hE TK
      have E := Lib.hid hE
      have XO := Lib.hid hE.ok
      have Z := Lib.hid (blk_alloc wr 58 azero.cells)
      have DL := Lib.hid (show (a.take j).length ≤ 5000 by have h2 := List.length_take_le j a; omega)
      clear hE hx
      go_wp2_with (first
        | go_skip
        | (refine wpList_val rfl _ (exec_lt _ _ rfl (j : Int) (n : Int) true rfl rfl (decide_eq_true (by omega))) ?_)
        | refine wpList_index rfl _ _ rfl A n cap G p j x _ rfl rfl (by first | rfl | omega) E.out ?_
        | refine wpList_load_amx rfl _ rfl G p x rfl E.out.rg XO.out ?_
        | (refine wpList_store_am rfl _ _ rfl wr.heap.size azero x rfl rfl Z.out azero_ok XO.out ?_; intro w2 N2 O2; have B2 := Lib.hid (box_below O2.out)))
      obtain ⟨g7, hg7⟩ : ∃ g7, wr.heap.size = g7 := ⟨_, rfl⟩
      have G7 := Lib.hid hg7
      have BL := Lib.hid (show b < wr.heap.size from MM.out.lt)
      rw [hg7] at N2
      have S1 := Lib.hid (show Below w.heap.size w w2.drew ∧ Blk w2.drew g7 58 x.cells from ⟨below_drew (step_ BB.out B2.out), N2.out.drew⟩)
      have BW1 := Lib.hid (show Below wr.heap.size wr w2.drew from below_drew B2.out)
      try simp only [hg7]
      clear hg7 N2 B2 O2 Z E
      refine wp_region_noPanic ?_
      refine wp_region_held_drew (S := fun W => Below w.heap.size w W ∧ Blk W g7 58 x.cells) (by kernel_rfl) S1.out (fun _ => ?_)
      refine tkm 0 rfl S1.out ?_; try simp only [Act.put, stA, stZ, stS]
      refine tkm 1 rfl S1.out ?_; try simp only [Act.put, stA, stZ, stS]
      refine tkm 2 rfl S1.out ?_; try simp only [Act.put, stA, stZ, stS]
      refine tky 3 (.agg (x.k.cells).toArray) rfl (yieldsIf_load_mid (by rfl) 53 (.tmp 17) rfl g7 0 rfl (x.k.cells) _ (fun W hW => hW.2.ak) Tryz.underlying53 rfl (size27 XO.out.k.ml)) S1.out ?_; try simp only [Act.put, stA, stZ, stS]
      refine tkm 5 rfl S1.out ?_; try simp only [Act.put, stA, stZ, stS]
      refine tkm 6 rfl S1.out ?_; try simp only [Act.put, stA, stZ, stS]
      refine tkm 7 rfl S1.out ?_; try simp only [Act.put, stA, stZ, stS]
      refine tky 8 (.agg (x.k.cells).toArray) rfl (yieldsIf_load_mid (by rfl) 53 (.tmp 22) rfl g7 0 rfl (x.k.cells) _ (fun W hW => hW.2.ak) Tryz.underlying53 rfl (size27 XO.out.k.ml)) S1.out ?_; try simp only [Act.put, stA, stZ, stS]
      refine tky 11 (.agg (x.cells).toArray) rfl (yieldsIf_load_mid (by rfl) 58 (.tmp 7) rfl g7 0 rfl (x.cells) _ (fun W hW => hW.2.range) Tryz.underlying58 rfl (size32 XO.out)) S1.out ?_; try simp only [Act.put, stA, stZ, stS]
      refine rdy [4, 12] ?_
      refine AllReadyH.cons (arR rfl) (fun K hK => ?_) ?_
      · go_simp
        refine (cartKey_is x.k _).mono ?_
        rintro e w1 ⟨rfl, b1⟩
        have S1 := Lib.hid (show Below w.heap.size w w1 ∧ Blk w1 g7 58 x.cells from ⟨step_ S1.out.1 b1, S1.out.2.below b1⟩)
        have BW1 := Lib.hid (step_ BW1.out b1)
        clear b1
        go_wp2_with fail
        refine hK.out _ _ S1.out (fun _ => ?_)
        clear hK K
        try simp only [Act.put, stA, stZ, stS]
        refine rdy [9, 12] ?_
        refine AllReadyH.cons (arR rfl) (fun K hK => ?_) ?_
        · go_simp
          refine (cartKey_is x.k _).mono ?_
          rintro e w2 ⟨rfl, b2⟩
          have S2 := Lib.hid (show Below w.heap.size w w2 ∧ Blk w2 g7 58 x.cells from ⟨step_ S1.out.1 b2, S1.out.2.below b2⟩)
          have BW2 := Lib.hid (step_ BW1.out b2)
          clear b2
          go_wp2_with fail
          refine hK.out _ _ S2.out (fun _ => ?_)
          clear hK K
          try simp only [Act.put, stA, stZ, stS]
          refine rdy [10, 12] ?_
          refine ready_lookG (arR rfl) rfl _ _ rfl w.heap.size b j (fun x : Am => x.k.c) (a.take j) x.k.c rfl rfl MM.out BW2.out ⟨XO.out.k.c0, XO.out.k.c1⟩ (fun v3 gt3 l3 => ?_) ?_
          · have GT_3 := Lib.hid gt3
            have LT := Lib.hid l3
            clear gt3 l3
            refine ⟨S2.out, ?_⟩
            try simp only [Act.put, stA, stZ, stS]
            refine rdy [12] ?_
            refine ready_one46 (arR rfl) rfl _ rfl x rfl XO.out (fun gg4 w4 e4 n4 b4 => ?_) AllReadyH.nil
            have S4 := Lib.hid (show Below w.heap.size w w4 ∧ Blk w4 g7 58 x.cells from ⟨step_ S2.out.1 b4, S2.out.2.below b4⟩)
            have BW4 := Lib.hid (step_ BW2.out b4)
            have GT_4 := Lib.hid (GT_3.out.below b4)
            have N4_4 := Lib.hid n4
            clear e4 n4 b4
            refine ⟨S4.out, ?_⟩
            try simp only [Act.put, stA, stZ, stS]
            refine rdy [13] ?_
            refine ready_appM (arR rfl) rfl _ _ rfl w.heap.size b j (fun x : Am => x.k.c) (a.take j) x.k.c v3 x gg4 rfl rfl GT_4.out XO.out N4_4.out DL.out S4.out.1.size (fun u5 w5 p5 b5 q5 => ?_) AllReadyH.nil
            have P5 := Lib.hid p5
            have S5 := Lib.hid (show Below w.heap.size w w5 ∧ Blk w5 g7 58 x.cells from ⟨S4.out.1.trans b5, grown_blk S4.out.2 q5 (fun e => by have := LT.out g7 e; have := G7.out; omega)⟩)
            clear p5 b5 q5
            refine ⟨S5.out, ?_⟩
            try simp only [Act.put, stA, stZ, stS]
            refine rdy [14] ?_
            refine ready_putG (arR rfl) rfl _ _ _ rfl w.heap.size b j (fun x : Am => x.k.c) (a.take j) x.k.c u5 x rfl rfl rfl P5.out rfl ⟨XO.out.k.c0, XO.out.k.c1⟩ (by omega) (fun w6 m6 o6 => ?_) AllReadyH.nil
            have M6 := Lib.hid m6
            have S6 := Lib.hid (show Below w.heap.size w w6 ∧ Blk w6 g7 58 x.cells from ⟨S5.out.1.trans (o6.below LO.out S5.out.1.size), S5.out.2.only o6 (by have := G7.out; have := BL.out; omega)⟩)
            clear m6 o6
            refine ⟨S6.out, ?_⟩
            try simp only [Act.put]
            refine wpAnyH_done (by kernel_rfl) ?_ _
            refine NoPanic.normal ?_
            go_wp2_with fail
            go_roundw
            case rel => exact ⟨j + 1, by omega, by go_num, by rw [TK.out]; exact M6.out, S6.out.1⟩
            case measure => simp [intOf]; omega
          refine ready_one46 (arR rfl) rfl _ rfl x rfl XO.out (fun gg7 w7 e7 n7 b7 => ?_) AllReadyH.nil
          have S7 := Lib.hid (show Below w.heap.size w w7 ∧ Blk w7 g7 58 x.cells from ⟨step_ S2.out.1 b7, S2.out.2.below b7⟩)
          have BW7 := Lib.hid (step_ BW2.out b7)
          have N4_7 := Lib.hid n7
          clear e7 n7 b7
          refine ⟨S7.out, ?_⟩
          try simp only [Act.put, stA, stZ, stS]
          refine rdy [10] ?_
          refine ready_lookG (arR rfl) rfl _ _ rfl w.heap.size b j (fun x : Am => x.k.c) (a.take j) x.k.c rfl rfl MM.out BW7.out ⟨XO.out.k.c0, XO.out.k.c1⟩ (fun v8 gt8 l8 => ?_) AllReadyH.nil
          have GT_8 := Lib.hid gt8
          have LT := Lib.hid l8
          clear gt8 l8
          refine ⟨S7.out, ?_⟩
          try simp only [Act.put, stA, stZ, stS]
          refine rdy [13] ?_
          refine ready_appM (arR rfl) rfl _ _ rfl w.heap.size b j (fun x : Am => x.k.c) (a.take j) x.k.c v8 x gg7 rfl rfl GT_8.out XO.out N4_7.out DL.out S7.out.1.size (fun u9 w9 p9 b9 q9 => ?_) AllReadyH.nil
          have P9 := Lib.hid p9
          have S9 := Lib.hid (show Below w.heap.size w w9 ∧ Blk w9 g7 58 x.cells from ⟨S7.out.1.trans b9, grown_blk S7.out.2 q9 (fun e => by have := LT.out g7 e; have := G7.out; omega)⟩)
          clear p9 b9 q9
          refine ⟨S9.out, ?_⟩
          try simp only [Act.put, stA, stZ, stS]
          refine rdy [14] ?_
          refine ready_putG (arR rfl) rfl _ _ _ rfl w.heap.size b j (fun x : Am => x.k.c) (a.take j) x.k.c u9 x rfl rfl rfl P9.out rfl ⟨XO.out.k.c0, XO.out.k.c1⟩ (by omega) (fun w10 m10 o10 => ?_) AllReadyH.nil
          have M10 := Lib.hid m10
          have S10 := Lib.hid (show Below w.heap.size w w10 ∧ Blk w10 g7 58 x.cells from ⟨S9.out.1.trans (o10.below LO.out S9.out.1.size), S9.out.2.only o10 (by have := G7.out; have := BL.out; omega)⟩)
          clear m10 o10
          refine ⟨S10.out, ?_⟩
          try simp only [Act.put]
          refine wpAnyH_done (by kernel_rfl) ?_ _
          refine NoPanic.normal ?_
          go_wp2_with fail
          go_roundw
          case rel => exact ⟨j + 1, by omega, by go_num, by rw [TK.out]; exact M10.out, S10.out.1⟩
          case measure => simp [intOf]; omega
        refine ready_one46 (arR rfl) rfl _ rfl x rfl XO.out (fun gg11 w11 e11 n11 b11 => ?_) AllReadyH.nil
        have S11 := Lib.hid (show Below w.heap.size w w11 ∧ Blk w11 g7 58 x.cells from ⟨step_ S1.out.1 b11, S1.out.2.below b11⟩)
        have BW11 := Lib.hid (step_ BW1.out b11)
        have N4_11 := Lib.hid n11
        clear e11 n11 b11
        refine ⟨S11.out, ?_⟩
        try simp only [Act.put, stA, stZ, stS]
        refine rdy [9] ?_
        refine AllReadyH.cons (arR rfl) (fun K hK => ?_) AllReadyH.nil
        go_simp
        refine (cartKey_is x.k _).mono ?_
        rintro e w12 ⟨rfl, b12⟩
        have S12 := Lib.hid (show Below w.heap.size w w12 ∧ Blk w12 g7 58 x.cells from ⟨step_ S11.out.1 b12, S11.out.2.below b12⟩)
        have BW12 := Lib.hid (step_ BW11.out b12)
        have N4_12 := Lib.hid (N4_11.out.below b12)
        clear b12
        go_wp2_with fail
        refine hK.out _ _ S12.out (fun _ => ?_)
        clear hK K
        try simp only [Act.put, stA, stZ, stS]
        refine rdy [10] ?_
        refine ready_lookG (arR rfl) rfl _ _ rfl w.heap.size b j (fun x : Am => x.k.c) (a.take j) x.k.c rfl rfl MM.out BW12.out ⟨XO.out.k.c0, XO.out.k.c1⟩ (fun v13 gt13 l13 => ?_) AllReadyH.nil
        have GT_13 := Lib.hid gt13
        have LT := Lib.hid l13
        clear gt13 l13
        refine ⟨S12.out, ?_⟩
        try simp only [Act.put, stA, stZ, stS]
        refine rdy [13] ?_
        refine ready_appM (arR rfl) rfl _ _ rfl w.heap.size b j (fun x : Am => x.k.c) (a.take j) x.k.c v13 x gg11 rfl rfl GT_13.out XO.out N4_12.out DL.out S12.out.1.size (fun u14 w14 p14 b14 q14 => ?_) AllReadyH.nil
        have P14 := Lib.hid p14
        have S14 := Lib.hid (show Below w.heap.size w w14 ∧ Blk w14 g7 58 x.cells from ⟨S12.out.1.trans b14, grown_blk S12.out.2 q14 (fun e => by have := LT.out g7 e; have := G7.out; omega)⟩)
        clear p14 b14 q14
        refine ⟨S14.out, ?_⟩
        try simp only [Act.put, stA, stZ, stS]
        refine rdy [14] ?_
        refine ready_putG (arR rfl) rfl _ _ _ rfl w.heap.size b j (fun x : Am => x.k.c) (a.take j) x.k.c u14 x rfl rfl rfl P14.out rfl ⟨XO.out.k.c0, XO.out.k.c1⟩ (by omega) (fun w15 m15 o15 => ?_) AllReadyH.nil
        have M15 := Lib.hid m15
        have S15 := Lib.hid (show Below w.heap.size w w15 ∧ Blk w15 g7 58 x.cells from ⟨S14.out.1.trans (o15.below LO.out S14.out.1.size), S14.out.2.only o15 (by have := G7.out; have := BL.out; omega)⟩)
        clear m15 o15
        refine ⟨S15.out, ?_⟩
        try simp only [Act.put]
        refine wpAnyH_done (by kernel_rfl) ?_ _
        refine NoPanic.normal ?_
        go_wp2_with fail
        go_roundw
        case rel => exact ⟨j + 1, by omega, by go_num, by rw [TK.out]; exact M15.out, S15.out.1⟩
        case measure => simp [intOf]; omega
      refine ready_one46 (arR rfl) rfl _ rfl x rfl XO.out (fun gg16 w16 e16 n16 b16 => ?_) AllReadyH.nil
      have S16 := Lib.hid (show Below w.heap.size w w16 ∧ Blk w16 g7 58 x.cells from ⟨step_ S1.out.1 b16, S1.out.2.below b16⟩)
      have BW16 := Lib.hid (step_ BW1.out b16)
      have N4_16 := Lib.hid n16
      clear e16 n16 b16
      refine ⟨S16.out, ?_⟩
      try simp only [Act.put, stA, stZ, stS]
      refine rdy [4] ?_
      refine AllReadyH.cons (arR rfl) (fun K hK => ?_) AllReadyH.nil
      go_simp
      refine (cartKey_is x.k _).mono ?_
      rintro e w17 ⟨rfl, b17⟩
      have S17 := Lib.hid (show Below w.heap.size w w17 ∧ Blk w17 g7 58 x.cells from ⟨step_ S16.out.1 b17, S16.out.2.below b17⟩)
      have BW17 := Lib.hid (step_ BW16.out b17)
      have N4_17 := Lib.hid (N4_16.out.below b17)
      clear b17
      go_wp2_with fail
      refine hK.out _ _ S17.out (fun _ => ?_)
      clear hK K
      try simp only [Act.put, stA, stZ, stS]
      refine rdy [9] ?_
      refine AllReadyH.cons (arR rfl) (fun K hK => ?_) AllReadyH.nil
      go_simp
      refine (cartKey_is x.k _).mono ?_
      rintro e w18 ⟨rfl, b18⟩
      have S18 := Lib.hid (show Below w.heap.size w w18 ∧ Blk w18 g7 58 x.cells from ⟨step_ S17.out.1 b18, S17.out.2.below b18⟩)
      have BW18 := Lib.hid (step_ BW17.out b18)
      have N4_18 := Lib.hid (N4_17.out.below b18)
      clear b18
      go_wp2_with fail
      refine hK.out _ _ S18.out (fun _ => ?_)
      clear hK K
      try simp only [Act.put, stA, stZ, stS]
      refine rdy [10] ?_
      refine ready_lookG (arR rfl) rfl _ _ rfl w.heap.size b j (fun x : Am => x.k.c) (a.take j) x.k.c rfl rfl MM.out BW18.out ⟨XO.out.k.c0, XO.out.k.c1⟩ (fun v19 gt19 l19 => ?_) AllReadyH.nil
      have GT_19 := Lib.hid gt19
      have LT := Lib.hid l19
      clear gt19 l19
      refine ⟨S18.out, ?_⟩
      try simp only [Act.put, stA, stZ, stS]
      refine rdy [13] ?_
      refine ready_appM (arR rfl) rfl _ _ rfl w.heap.size b j (fun x : Am => x.k.c) (a.take j) x.k.c v19 x gg16 rfl rfl GT_19.out XO.out N4_18.out DL.out S18.out.1.size (fun u20 w20 p20 b20 q20 => ?_) AllReadyH.nil
      have P20 := Lib.hid p20
      have S20 := Lib.hid (show Below w.heap.size w w20 ∧ Blk w20 g7 58 x.cells from ⟨S18.out.1.trans b20, grown_blk S18.out.2 q20 (fun e => by have := LT.out g7 e; have := G7.out; omega)⟩)
      clear p20 b20 q20
      refine ⟨S20.out, ?_⟩
      try simp only [Act.put, stA, stZ, stS]
      refine rdy [14] ?_
      refine ready_putG (arR rfl) rfl _ _ _ rfl w.heap.size b j (fun x : Am => x.k.c) (a.take j) x.k.c u20 x rfl rfl rfl P20.out rfl ⟨XO.out.k.c0, XO.out.k.c1⟩ (by omega) (fun w21 m21 o21 => ?_) AllReadyH.nil
      have M21 := Lib.hid m21
      have S21 := Lib.hid (show Below w.heap.size w w21 ∧ Blk w21 g7 58 x.cells from ⟨S20.out.1.trans (o21.below LO.out S20.out.1.size), S20.out.2.only o21 (by have := G7.out; have := BL.out; omega)⟩)
      clear m21 o21
      refine ⟨S21.out, ?_⟩
      try simp only [Act.put]
      refine wpAnyH_done (by kernel_rfl) ?_ _
      refine NoPanic.normal ?_
      go_wp2_with fail
      go_roundw
      case rel => exact ⟨j + 1, by omega, by go_num, by rw [TK.out]; exact M21.out, S21.out.1⟩
      case measure => simp [intOf]; omega
    · obtain rfl : j = n := by omega
      have HS := Lib.hid (show a.take j = a from List.take_of_length_le (by have := H0.out.len; omega))
      go_wp2_with fail
      go_ret
      exact ⟨b, rfl, by have h := MM.out; rw [HS.out] at h; exact h, BB.out⟩
set_option maxRecDepth 100000 in
set_option maxHeartbeats 4000000 in
theorem groupI_is (A : Option Addr) (n cap : Nat) (a : List Am) (w : World) (h : RowV w A n cap a) (hl : n ≤ 1000) : Calls Tryz.prog 56 #[.slice A n cap, .func (.func 57) #[] #[]] w fun e w' => ∃ b, e = .returned (.map (some b)) ∧ Grps w' w.heap.size b n (fun x : Am => x.k.m) a ∧ Below w.heap.size w w' := by
  have H0 := Lib.hid h
  clear h
  have hz := zero32
  go_enter Tryz.func56, Tryz.ntmps56
  go_wp2_with (refine wpList_makeG (fun x : Am => x.k.m) rfl rfl w.heap.size (Nat.le_refl _) ?_; intro b w1 eb M1 B1)
  have LO := Lib.hid M1.out.lo
  have H := Lib.hid (H0.out.below B1.out)
  clear eb
  go_loopw [11] (fun i wr => ∃ j : Nat, j ≤ n ∧ i = .int .i64 (j : Int) ∧ Grps wr w.heap.size b j (fun x : Am => x.k.m) (a.take j) ∧ Below w.heap.size w wr) (fun i _ => n - (intOf i).toNat)
  case atStart => exact ⟨0, Nat.zero_le _, rfl, M1.out, B1.out⟩
  case round =>
    obtain ⟨j, hj, rfl, hm, hb⟩ := hrel
    have MM := Lib.hid hm
    have BB := Lib.hid hb
    clear hm hb
    by_cases hlt : j < n
    · obtain ⟨G, p, hE⟩ := (H0.out.below BB.out).elem j hlt
      have TK := Lib.hid (take_getD (l := a) (j := j) (by have := H0.out.len; omega))
      obtain ⟨x, hx⟩ : ∃ x, a.getD j azero = x := ⟨_, rfl⟩
      rw [hx] at hE TK
      have E := Lib.hid hE
      have XO := Lib.hid hE.ok
      have Z := Lib.hid (blk_alloc wr 58 azero.cells)
      have DL := Lib.hid (show (a.take j).length ≤ 5000 by have h2 := List.length_take_le j a; omega)
      clear hE hx
      go_wp2_with (first
        | go_skip
        | (refine wpList_val rfl _ (exec_lt _ _ rfl (j : Int) (n : Int) true rfl rfl (decide_eq_true (by omega))) ?_)
        | refine wpList_index rfl _ _ rfl A n cap G p j x _ rfl rfl (by first | rfl | omega) E.out ?_
        | refine wpList_load_amx rfl _ rfl G p x rfl E.out.rg XO.out ?_
        | (refine wpList_store_am rfl _ _ rfl wr.heap.size azero x rfl rfl Z.out azero_ok XO.out ?_; intro w2 N2 O2; have B2 := Lib.hid (box_below O2.out)))
      obtain ⟨g7, hg7⟩ : ∃ g7, wr.heap.size = g7 := ⟨_, rfl⟩
      have G7 := Lib.hid hg7
      have BL := Lib.hid (show b < wr.heap.size from MM.out.lt)
      rw [hg7] at N2
      have S1 := Lib.hid (show Below w.heap.size w w2.drew ∧ Blk w2.drew g7 58 x.cells from ⟨below_drew (step_ BB.out B2.out), N2.out.drew⟩)
      have BW1 := Lib.hid (show Below wr.heap.size wr w2.drew from below_drew B2.out)
      try simp only [hg7]
      clear hg7 N2 B2 O2 Z E
      refine wp_region_noPanic ?_
      refine wp_region_held_drew (S := fun W => Below w.heap.size w W ∧ Blk W g7 58 x.cells) (by kernel_rfl) S1.out (fun _ => ?_)
      refine tkm 0 rfl S1.out ?_; try simp only [Act.put, stA, stZ, stS]
      refine tkm 1 rfl S1.out ?_; try simp only [Act.put, stA, stZ, stS]
      refine tkm 2 rfl S1.out ?_; try simp only [Act.put, stA, stZ, stS]
      refine tky 3 (.agg (x.k.cells).toArray) rfl (yieldsIf_load_mid (by rfl) 53 (.tmp 17) rfl g7 0 rfl (x.k.cells) _ (fun W hW => hW.2.ak) Tryz.underlying53 rfl (size27 XO.out.k.ml)) S1.out ?_; try simp only [Act.put, stA, stZ, stS]
      refine tkm 5 rfl S1.out ?_; try simp only [Act.put, stA, stZ, stS]
      refine tkm 6 rfl S1.out ?_; try simp only [Act.put, stA, stZ, stS]
      refine tkm 7 rfl S1.out ?_; try simp only [Act.put, stA, stZ, stS]
      refine tky 8 (.agg (x.k.cells).toArray) rfl (yieldsIf_load_mid (by rfl) 53 (.tmp 22) rfl g7 0 rfl (x.k.cells) _ (fun W hW => hW.2.ak) Tryz.underlying53 rfl (size27 XO.out.k.ml)) S1.out ?_; try simp only [Act.put, stA, stZ, stS]
      refine tky 11 (.agg (x.cells).toArray) rfl (yieldsIf_load_mid (by rfl) 58 (.tmp 7) rfl g7 0 rfl (x.cells) _ (fun W hW => hW.2.range) Tryz.underlying58 rfl (size32 XO.out)) S1.out ?_; try simp only [Act.put, stA, stZ, stS]
      refine rdy [4, 12] ?_
      refine AllReadyH.cons (arR rfl) (fun K hK => ?_) ?_
      · go_simp
        refine (itemKey_is x.k _ XO.out.k.ml).mono ?_
        rintro e w1 ⟨rfl, b1⟩
        have S1 := Lib.hid (show Below w.heap.size w w1 ∧ Blk w1 g7 58 x.cells from ⟨step_ S1.out.1 b1, S1.out.2.below b1⟩)
        have BW1 := Lib.hid (step_ BW1.out b1)
        clear b1
        go_wp2_with fail
        refine hK.out _ _ S1.out (fun _ => ?_)
        clear hK K
        try simp only [Act.put, stA, stZ, stS]
        refine rdy [9, 12] ?_
        refine AllReadyH.cons (arR rfl) (fun K hK => ?_) ?_
        · go_simp
          refine (itemKey_is x.k _ XO.out.k.ml).mono ?_
          rintro e w2 ⟨rfl, b2⟩
          have S2 := Lib.hid (show Below w.heap.size w w2 ∧ Blk w2 g7 58 x.cells from ⟨step_ S1.out.1 b2, S1.out.2.below b2⟩)
          have BW2 := Lib.hid (step_ BW1.out b2)
          clear b2
          go_wp2_with fail
          refine hK.out _ _ S2.out (fun _ => ?_)
          clear hK K
          try simp only [Act.put, stA, stZ, stS]
          refine rdy [10, 12] ?_
          refine ready_lookG (arR rfl) rfl _ _ rfl w.heap.size b j (fun x : Am => x.k.m) (a.take j) x.k.m rfl rfl MM.out BW2.out ⟨XO.out.k.ml, XO.out.k.mb⟩ (fun v3 gt3 l3 => ?_) ?_
          · have GT_3 := Lib.hid gt3
            have LT := Lib.hid l3
            clear gt3 l3
            refine ⟨S2.out, ?_⟩
            try simp only [Act.put, stA, stZ, stS]
            refine rdy [12] ?_
            refine ready_one46 (arR rfl) rfl _ rfl x rfl XO.out (fun gg4 w4 e4 n4 b4 => ?_) AllReadyH.nil
            have S4 := Lib.hid (show Below w.heap.size w w4 ∧ Blk w4 g7 58 x.cells from ⟨step_ S2.out.1 b4, S2.out.2.below b4⟩)
            have BW4 := Lib.hid (step_ BW2.out b4)
            have GT_4 := Lib.hid (GT_3.out.below b4)
            have N4_4 := Lib.hid n4
            clear e4 n4 b4
            refine ⟨S4.out, ?_⟩
            try simp only [Act.put, stA, stZ, stS]
            refine rdy [13] ?_
            refine ready_appM (arR rfl) rfl _ _ rfl w.heap.size b j (fun x : Am => x.k.m) (a.take j) x.k.m v3 x gg4 rfl rfl GT_4.out XO.out N4_4.out DL.out S4.out.1.size (fun u5 w5 p5 b5 q5 => ?_) AllReadyH.nil
            have P5 := Lib.hid p5
            have S5 := Lib.hid (show Below w.heap.size w w5 ∧ Blk w5 g7 58 x.cells from ⟨S4.out.1.trans b5, grown_blk S4.out.2 q5 (fun e => by have := LT.out g7 e; have := G7.out; omega)⟩)
            clear p5 b5 q5
            refine ⟨S5.out, ?_⟩
            try simp only [Act.put, stA, stZ, stS]
            refine rdy [14] ?_
            refine ready_putG (arR rfl) rfl _ _ _ rfl w.heap.size b j (fun x : Am => x.k.m) (a.take j) x.k.m u5 x rfl rfl rfl P5.out rfl ⟨XO.out.k.ml, XO.out.k.mb⟩ (by omega) (fun w6 m6 o6 => ?_) AllReadyH.nil
            have M6 := Lib.hid m6
            have S6 := Lib.hid (show Below w.heap.size w w6 ∧ Blk w6 g7 58 x.cells from ⟨S5.out.1.trans (o6.below LO.out S5.out.1.size), S5.out.2.only o6 (by have := G7.out; have := BL.out; omega)⟩)
            clear m6 o6
            refine ⟨S6.out, ?_⟩
            try simp only [Act.put]
            refine wpAnyH_done (by kernel_rfl) ?_ _
            refine NoPanic.normal ?_
            go_wp2_with fail
            go_roundw
            case rel => exact ⟨j + 1, by omega, by go_num, by rw [TK.out]; exact M6.out, S6.out.1⟩
            case measure => simp [intOf]; omega
          refine ready_one46 (arR rfl) rfl _ rfl x rfl XO.out (fun gg7 w7 e7 n7 b7 => ?_) AllReadyH.nil
          have S7 := Lib.hid (show Below w.heap.size w w7 ∧ Blk w7 g7 58 x.cells from ⟨step_ S2.out.1 b7, S2.out.2.below b7⟩)
          have BW7 := Lib.hid (step_ BW2.out b7)
          have N4_7 := Lib.hid n7
          clear e7 n7 b7
          refine ⟨S7.out, ?_⟩
          try simp only [Act.put, stA, stZ, stS]
          refine rdy [10] ?_
          refine ready_lookG (arR rfl) rfl _ _ rfl w.heap.size b j (fun x : Am => x.k.m) (a.take j) x.k.m rfl rfl MM.out BW7.out ⟨XO.out.k.ml, XO.out.k.mb⟩ (fun v8 gt8 l8 => ?_) AllReadyH.nil
          have GT_8 := Lib.hid gt8
          have LT := Lib.hid l8
          clear gt8 l8
          refine ⟨S7.out, ?_⟩
          try simp only [Act.put, stA, stZ, stS]
          refine rdy [13] ?_
          refine ready_appM (arR rfl) rfl _ _ rfl w.heap.size b j (fun x : Am => x.k.m) (a.take j) x.k.m v8 x gg7 rfl rfl GT_8.out XO.out N4_7.out DL.out S7.out.1.size (fun u9 w9 p9 b9 q9 => ?_) AllReadyH.nil
          have P9 := Lib.hid p9
          have S9 := Lib.hid (show Below w.heap.size w w9 ∧ Blk w9 g7 58 x.cells from ⟨S7.out.1.trans b9, grown_blk S7.out.2 q9 (fun e => by have := LT.out g7 e; have := G7.out; omega)⟩)
          clear p9 b9 q9
          refine ⟨S9.out, ?_⟩
          try simp only [Act.put, stA, stZ, stS]
          refine rdy [14] ?_
          refine ready_putG (arR rfl) rfl _ _ _ rfl w.heap.size b j (fun x : Am => x.k.m) (a.take j) x.k.m u9 x rfl rfl rfl P9.out rfl ⟨XO.out.k.ml, XO.out.k.mb⟩ (by omega) (fun w10 m10 o10 => ?_) AllReadyH.nil
          have M10 := Lib.hid m10
          have S10 := Lib.hid (show Below w.heap.size w w10 ∧ Blk w10 g7 58 x.cells from ⟨S9.out.1.trans (o10.below LO.out S9.out.1.size), S9.out.2.only o10 (by have := G7.out; have := BL.out; omega)⟩)
          clear m10 o10
          refine ⟨S10.out, ?_⟩
          try simp only [Act.put]
          refine wpAnyH_done (by kernel_rfl) ?_ _
          refine NoPanic.normal ?_
          go_wp2_with fail
          go_roundw
          case rel => exact ⟨j + 1, by omega, by go_num, by rw [TK.out]; exact M10.out, S10.out.1⟩
          case measure => simp [intOf]; omega
        refine ready_one46 (arR rfl) rfl _ rfl x rfl XO.out (fun gg11 w11 e11 n11 b11 => ?_) AllReadyH.nil
        have S11 := Lib.hid (show Below w.heap.size w w11 ∧ Blk w11 g7 58 x.cells from ⟨step_ S1.out.1 b11, S1.out.2.below b11⟩)
        have BW11 := Lib.hid (step_ BW1.out b11)
        have N4_11 := Lib.hid n11
        clear e11 n11 b11
        refine ⟨S11.out, ?_⟩
        try simp only [Act.put, stA, stZ, stS]
        refine rdy [9] ?_
        refine AllReadyH.cons (arR rfl) (fun K hK => ?_) AllReadyH.nil
        go_simp
        refine (itemKey_is x.k _ XO.out.k.ml).mono ?_
        rintro e w12 ⟨rfl, b12⟩
        have S12 := Lib.hid (show Below w.heap.size w w12 ∧ Blk w12 g7 58 x.cells from ⟨step_ S11.out.1 b12, S11.out.2.below b12⟩)
        have BW12 := Lib.hid (step_ BW11.out b12)
        have N4_12 := Lib.hid (N4_11.out.below b12)
        clear b12
        go_wp2_with fail
        refine hK.out _ _ S12.out (fun _ => ?_)
        clear hK K
        try simp only [Act.put, stA, stZ, stS]
        refine rdy [10] ?_
        refine ready_lookG (arR rfl) rfl _ _ rfl w.heap.size b j (fun x : Am => x.k.m) (a.take j) x.k.m rfl rfl MM.out BW12.out ⟨XO.out.k.ml, XO.out.k.mb⟩ (fun v13 gt13 l13 => ?_) AllReadyH.nil
        have GT_13 := Lib.hid gt13
        have LT := Lib.hid l13
        clear gt13 l13
        refine ⟨S12.out, ?_⟩
        try simp only [Act.put, stA, stZ, stS]
        refine rdy [13] ?_
        refine ready_appM (arR rfl) rfl _ _ rfl w.heap.size b j (fun x : Am => x.k.m) (a.take j) x.k.m v13 x gg11 rfl rfl GT_13.out XO.out N4_12.out DL.out S12.out.1.size (fun u14 w14 p14 b14 q14 => ?_) AllReadyH.nil
        have P14 := Lib.hid p14
        have S14 := Lib.hid (show Below w.heap.size w w14 ∧ Blk w14 g7 58 x.cells from ⟨S12.out.1.trans b14, grown_blk S12.out.2 q14 (fun e => by have := LT.out g7 e; have := G7.out; omega)⟩)
        clear p14 b14 q14
        refine ⟨S14.out, ?_⟩
        try simp only [Act.put, stA, stZ, stS]
        refine rdy [14] ?_
        refine ready_putG (arR rfl) rfl _ _ _ rfl w.heap.size b j (fun x : Am => x.k.m) (a.take j) x.k.m u14 x rfl rfl rfl P14.out rfl ⟨XO.out.k.ml, XO.out.k.mb⟩ (by omega) (fun w15 m15 o15 => ?_) AllReadyH.nil
        have M15 := Lib.hid m15
        have S15 := Lib.hid (show Below w.heap.size w w15 ∧ Blk w15 g7 58 x.cells from ⟨S14.out.1.trans (o15.below LO.out S14.out.1.size), S14.out.2.only o15 (by have := G7.out; have := BL.out; omega)⟩)
        clear m15 o15
        refine ⟨S15.out, ?_⟩
        try simp only [Act.put]
        refine wpAnyH_done (by kernel_rfl) ?_ _
        refine NoPanic.normal ?_
        go_wp2_with fail
        go_roundw
        case rel => exact ⟨j + 1, by omega, by go_num, by rw [TK.out]; exact M15.out, S15.out.1⟩
        case measure => simp [intOf]; omega
      refine ready_one46 (arR rfl) rfl _ rfl x rfl XO.out (fun gg16 w16 e16 n16 b16 => ?_) AllReadyH.nil
      have S16 := Lib.hid (show Below w.heap.size w w16 ∧ Blk w16 g7 58 x.cells from ⟨step_ S1.out.1 b16, S1.out.2.below b16⟩)
      have BW16 := Lib.hid (step_ BW1.out b16)
      have N4_16 := Lib.hid n16
      clear e16 n16 b16
      refine ⟨S16.out, ?_⟩
      try simp only [Act.put, stA, stZ, stS]
      refine rdy [4] ?_
      refine AllReadyH.cons (arR rfl) (fun K hK => ?_) AllReadyH.nil
      go_simp
      refine (itemKey_is x.k _ XO.out.k.ml).mono ?_
      rintro e w17 ⟨rfl, b17⟩
      have S17 := Lib.hid (show Below w.heap.size w w17 ∧ Blk w17 g7 58 x.cells from ⟨step_ S16.out.1 b17, S16.out.2.below b17⟩)
      have BW17 := Lib.hid (step_ BW16.out b17)
      have N4_17 := Lib.hid (N4_16.out.below b17)
      clear b17
      go_wp2_with fail
      refine hK.out _ _ S17.out (fun _ => ?_)
      clear hK K
      try simp only [Act.put, stA, stZ, stS]
      refine rdy [9] ?_
      refine AllReadyH.cons (arR rfl) (fun K hK => ?_) AllReadyH.nil
      go_simp
      refine (itemKey_is x.k _ XO.out.k.ml).mono ?_
      rintro e w18 ⟨rfl, b18⟩
      have S18 := Lib.hid (show Below w.heap.size w w18 ∧ Blk w18 g7 58 x.cells from ⟨step_ S17.out.1 b18, S17.out.2.below b18⟩)
      have BW18 := Lib.hid (step_ BW17.out b18)
      have N4_18 := Lib.hid (N4_17.out.below b18)
      clear b18
      go_wp2_with fail
      refine hK.out _ _ S18.out (fun _ => ?_)
      clear hK K
      try simp only [Act.put, stA, stZ, stS]
      refine rdy [10] ?_
      refine ready_lookG (arR rfl) rfl _ _ rfl w.heap.size b j (fun x : Am => x.k.m) (a.take j) x.k.m rfl rfl MM.out BW18.out ⟨XO.out.k.ml, XO.out.k.mb⟩ (fun v19 gt19 l19 => ?_) AllReadyH.nil
      have GT_19 := Lib.hid gt19
      have LT := Lib.hid l19
      clear gt19 l19
      refine ⟨S18.out, ?_⟩
      try simp only [Act.put, stA, stZ, stS]
      refine rdy [13] ?_
      refine ready_appM (arR rfl) rfl _ _ rfl w.heap.size b j (fun x : Am => x.k.m) (a.take j) x.k.m v19 x gg16 rfl rfl GT_19.out XO.out N4_18.out DL.out S18.out.1.size (fun u20 w20 p20 b20 q20 => ?_) AllReadyH.nil
      have P20 := Lib.hid p20
      have S20 := Lib.hid (show Below w.heap.size w w20 ∧ Blk w20 g7 58 x.cells from ⟨S18.out.1.trans b20, grown_blk S18.out.2 q20 (fun e => by have := LT.out g7 e; have := G7.out; omega)⟩)
      clear p20 b20 q20
      refine ⟨S20.out, ?_⟩
      try simp only [Act.put, stA, stZ, stS]
      refine rdy [14] ?_
      refine ready_putG (arR rfl) rfl _ _ _ rfl w.heap.size b j (fun x : Am => x.k.m) (a.take j) x.k.m u20 x rfl rfl rfl P20.out rfl ⟨XO.out.k.ml, XO.out.k.mb⟩ (by omega) (fun w21 m21 o21 => ?_) AllReadyH.nil
      have M21 := Lib.hid m21
      have S21 := Lib.hid (show Below w.heap.size w w21 ∧ Blk w21 g7 58 x.cells from ⟨S20.out.1.trans (o21.below LO.out S20.out.1.size), S20.out.2.only o21 (by have := G7.out; have := BL.out; omega)⟩)
      clear m21 o21
      refine ⟨S21.out, ?_⟩
      try simp only [Act.put]
      refine wpAnyH_done (by kernel_rfl) ?_ _
      refine NoPanic.normal ?_
      go_wp2_with fail
      go_roundw
      case rel => exact ⟨j + 1, by omega, by go_num, by rw [TK.out]; exact M21.out, S21.out.1⟩
      case measure => simp [intOf]; omega
    · obtain rfl : j = n := by omega
      have HS := Lib.hid (show a.take j = a from List.take_of_length_le (by have := H0.out.len; omega))
      go_wp2_with fail
      go_ret
      exact ⟨b, rfl, by have h := MM.out; rw [HS.out] at h; exact h, BB.out⟩
end Go.Proofs.YtijfbhdbfplghaaGreat
