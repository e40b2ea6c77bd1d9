/- hashed: the atoms of a state with their sums, as an iterator. No program in it: rows of numbers that are sorted in place: exchanges, rows that are exchanges of each other in a range, insertion, heaps, partitions. Rows of uint16 in place: cells, stores, index addresses, small arithmetic; cmp.Less. -/
import Derived.Test.YtnpbmihbmilkbaaGreatG30
import Derived.Test.YtnpbmihbmilkbaaGreatProg
import Derived.Shelf.SlicesE.Compact
import Derived.Test.YtnpbmihbmilkbaaGreatG23
import Derived.Test.YtnpbmihbmilkbaaGreatG29
import Derived.Test.YtnpbmihbmilkbaaGreatG28
namespace Go.Proofs.YtnpbmihbmilkbaaGreat
open Go.RowKit Go.Shelf
attribute [local go_sem] Oper.semAt_some
theorem any_last {F : Fence} (hF : Wide F) {n : Nat} {P : Program} {ops : Array Oper} {Q : Exit → Act → World → Prop} (i : Nat) {listed : Array Bool} {a : Act} {w : World} {o : Oper} (hR : Region.ready .any ops listed = [i]) (ho : ops[i]? = some o) (hg : o.guard = none) (hd : ∀ c, o.op ≠ .defer c) (v : Value) (w1 : World)
    (hr : (execOp a.eval o).run P w = .ok (.value v) w1) (hE : Region.ready .any ops (listed.setIfInBounds i true) = []) (hk : Q .normal (a.put o.dst v) w1) : wpAnyIn F n P .any ops Q 1 listed a w := by
  refine ⟨fun e => (by rw [hR] at e; cases e), fun j hj => ?_⟩
  rw [hR] at hj
  obtain rfl := List.mem_singleton.1 hj
  exact opIn_val hF ho hg hd v w1 hr ⟨hE, hk⟩
def hsum (seed : Int) (x : Am) : Int := Mx.sumI seed (abytes x)
abbrev encH (seed : Int) (x : Am) : Array Value := #[.int .u64 (hsum seed x), .agg x.cells.toArray]
theorem hashed_is (seed : Int) (A : Option Addr) (n cap : Nat) (w : World) : Calls Tryz.prog 25 #[.int .u64 seed, .slice A n cap] w fun e w' => (∃ g h, e = .returned (.func (.func 36) #[] #[.pointer (some ⟨g, 0, none⟩), .pointer (some ⟨h, 0, none⟩)]) ∧ Blk w' g 23 [.slice A n cap] ∧ Blk w' h 22 [.int .u64 seed] ∧ w.heap.size ≤ g ∧ w.heap.size ≤ h) ∧ Below w.heap.size w w' := by
  go_enter Tryz.func25, Tryz.ntmps25
  go_wp2_with fail
  go_ret
  exact ⟨⟨w.heap.size + 1, w.heap.size, by simp, blk2 w (.cells #[.int .u64 seed] 22) 23 [.slice A n cap], (blk_alloc w 22 [.int .u64 seed]).alloc _, Nat.le_add_right _ _, Nat.le_refl _⟩, step_ (new_below w _) (new_below _ _)⟩
set_option maxRecDepth 100000 in
set_option maxHeartbeats 8000000 in
theorem hashed_seq (seed : Int) (hU : Mx.U64 seed) (gA gS : Nat) (A : Option Addr) (n cap : Nat) (a : List Am) (hn : n ≤ 600) :
    SeqGen 36 #[.pointer (some ⟨gA, 0, none⟩), .pointer (some ⟨gS, 0, none⟩)] (fun V => (Blk V gA 23 [.slice A n cap] ∧ RowV V A n cap a) ∧ Blk V gS 22 [.int .u64 seed]) (encH seed) (NxA (norm a)) (fun t => t = norm a) := by
  intro l J X W hJb hJo hJn hXo hY hN0 h0
  have c0 := (hN0.1.1.alloc (.cells #[.func (.yield l) #[] #[]] 65)).cell (i := 0) rfl
  have R0 := Lib.hid (hN0.1.2.below (new_below W (.cells #[.func (.yield l) #[] #[]] 65)))
  have Q0 := Lib.hid (blk_alloc W 65 [.func (.yield l) #[] #[]])
  have B0 := Lib.hid (new_below W (.cells #[.func (.yield l) #[] #[]] 65))
  have JB := Lib.hid hJb
  have JO := Lib.hid hJo
  have XO' := Lib.hid hXo
  have JN := Lib.hid hJn
  have HY := Lib.hid hY
  have H0 := Lib.hid h0
  have HU := Lib.hid hU
  clear hJb hJo hJn hXo hY hN0 h0 hU
  refine (callsIn_wide (n := 10)).1 ?_
  refine callsIn_of_wp_marks Tryz.func36 rfl trivial ?_ rfl
  simp only [Tryz.ntmps36, List.size_toArray, List.length_cons, List.length_nil, Nat.reduceAdd, Nat.reduceSub, Array.replicate_succ, Array.replicate_zero, List.push_toArray, List.append_toArray, List.nil_append, List.cons_append]
  gi_wp2_with fail
  refine ⟨trivial, (callsIn_wide.2 (each_isO A n cap a _ R0.out hn)).mono ?_⟩
  rintro e w2 ⟨⟨Bs, D, m1, c1, rfl, lbs, k1, r1, f1⟩, b1⟩
  have K1 := Lib.hid k1
  have R1 := Lib.hid r1
  have F1 := Lib.hid (show ∀ G off, D = some ⟨G, off, none⟩ → W.heap.size ≤ G from fun G off e => Nat.le_trans B0.out.size (f1 G off e))
  have Q1 := Lib.hid (Q0.out.below b1)
  have B1 := Lib.hid (step_ B0.out b1)
  have LBS := Lib.hid (show W.heap.size ≤ Bs by have := B0.out.size; omega)
  have hm1 : m1 ≤ 1000 := by have := norm_len a; rw [r1.len, R0.out.len] at this; omega
  have ST := Lib.hid (norm_st R0.out.ok)
  clear k1 r1 b1 lbs f1 R0 Q0 B0 c0
  gi_wp2_with fail
  rename_i K0
  obtain ⟨s, hs⟩ : ∃ s, norm a = s := ⟨_, rfl⟩
  rw [hs] at R1 ST HY
  have NE := Lib.hid hs
  clear hs
  refine range_gen (gf := 51) (lb := #[.pointer (some ⟨Bs, 0, none⟩)]) rfl (fun _ _ => rfl) (each_gen Bs D m1 c1 s hm1) (fun _ => rfl)
    (fun B pre V => J B pre V ∧ Own2 W.heap.size w2 V ∧ B ≤ V.heap.size)
    (fun V => X V)
    (fun B pre V V' h hb => ⟨JB.out _ _ _ _ h.1 hb, h.2.1.below hb, Nat.le_trans h.2.2 hb.size⟩)
    (fun B pre V V' h9 h ho hg hB => ⟨JO.out _ _ _ _ _ h.1 ho (by have := B1.out.size; omega) hB, h.2.1.only ho (by omega), Nat.le_trans h.2.2 ho.size⟩)
    (fun B pre V o hB h => ⟨JO.out _ _ _ _ _ h.1 (only_putObj _ _ _) (by have := B1.out.size; omega) (by omega), h.2.1.put (by omega), by simpa using h.2.2⟩)
    (fun V o h => XO'.out _ _ _ h (only_putObj _ _ _) (by have := B1.out.size; omega))
    (fun V V' g h ho hg => XO'.out _ _ _ h ho (by have := B1.out.size; omega))
    (fun B pre V h => ⟨h.2.1.blk K1.out LBS.out, rowV_seg R1.out F1.out h.2.1.same h.2.1.size⟩)
    (fun V hb => ⟨K1.out.below hb, R1.out.below hb⟩)
    (fun B V hB hV hb => ⟨H0.out _ _ (by have := B1.out.size; omega) hV (step_ B1.out hb), ⟨fun k _ h2 => hb.block k h2, hb.size⟩, hV⟩)
    (fun B pre x a' V => ∃ g4 g5, a' = { tmps := #[.func (.yield l) #[] #[], .pointer (some ⟨gA, 0, none⟩), .pointer (some ⟨gS, 0, none⟩), .pointer (some ⟨W.heap.size, 0, none⟩), .pointer (some ⟨g4, 0, none⟩), .pointer (some ⟨g5, 0, none⟩), undef, .slice A n cap, .func (.func 51) #[] #[.pointer (some ⟨Bs, 0, none⟩)], .agg x.k.cells.toArray, .agg x.v.cells.toArray, undef, undef, undef, undef, undef, undef, undef, undef, undef, undef], defers := [] } ∧ B ≤ g4 ∧ B ≤ g5 ∧ Blk V g4 48 x.k.cells ∧ Blk V g5 42 x.v.cells ∧ J B pre V ∧ Own2 W.heap.size w2 V ∧ B ≤ V.heap.size)
    (fun B pre x a' V o hB h => by
      obtain ⟨g4, g5, e, l4, l5, k4, k5, hj, ho, hv⟩ := h
      exact ⟨g4, g5, e, l4, l5, blk_put k4 (by omega), blk_put k5 (by omega), JO.out _ _ _ _ _ hj (only_putObj _ _ _) (by have := B1.out.size; omega) (by omega), ho.put (by omega), by simpa using hv⟩)
    ?assign ?body ?done ?stop
  case assign =>
    intro l2 B pre x V K hnx hi hB hB2 hlt hK
    have XO := Lib.hid (ST.out.ok x (by obtain ⟨rest, e⟩ := hnx; rw [e]; simp))
    have HI := Lib.hid hi
    have Z1 := Lib.hid (blk_alloc V 48 kzero.cells)
    have hz := zero27
    have hz2 := zero30
    clear hi hnx
    simp only [encP, List.zip_toArray, List.zip_cons_cons, List.zip_nil_right, List.foldl_toArray', List.foldl_cons, List.foldl_nil, List.size_toArray, List.length_cons, List.length_nil, List.setIfInBounds_toArray, List.set_cons_zero, List.set_cons_succ]
    gi_wp2_with (first
      | (refine in_plain (wide_in l2) rfl (by intro c h; cases h) ?_; refine wpList_store_ky rfl _ _ rfl V.heap.size kzero x.k rfl rfl Z1.out kzero_ok.ml XO.out.k.ml ?_; intro V1 N1 O1; have Z2 := Lib.hid (blk_alloc V1 42 vzero.cells); have BV := Lib.hid (box_below O1.out); refine in_done ?_)
      | (refine in_plain (wide_in l2) rfl (by intro c h; cases h) ?_; refine wpList_store_vl rfl _ _ rfl V1.heap.size vzero x.v rfl rfl Z2.out rfl XO.out.v.tl ?_; intro V2 N2 O2; refine in_done ?_))
    have QQ := box_below O2.out
    have Q3 := step_ BV.out QQ
    obtain ⟨h1, h2, h3⟩ := HI.out
    exact hK _ _ Q3 ⟨_, _, rfl, hB2, Nat.le_trans hB2 BV.out.size, N1.out.below QQ, N2.out, JB.out _ _ _ _ h1 Q3, h2.below Q3, Nat.le_trans h3 Q3.size⟩
  case body =>
    intro l2 B pre x a' V hnx hax hB hB2 hlt
    obtain ⟨g4, g5, rfl, l4, l5, k4, k5, hj, ho, hv⟩ := hax
    have XO := Lib.hid (ST.out.ok x (by obtain ⟨rest, e⟩ := hnx; rw [e]; simp))
    have NX := Lib.hid hnx
    have G4 := Lib.hid k4
    have G5 := Lib.hid k5
    have JJ := Lib.hid hj
    have OW := Lib.hid ho
    have HB := Lib.hid hB2
    have HBB := Lib.hid hB
    have B1S := Lib.hid B1.out.size
    have L4 := Lib.hid l4
    have L5 := Lib.hid l5
    have Y3 := Lib.hid (ho.blk Q1.out (Nat.le_refl _))
    have NN := Lib.hid (JN.out _ _ _ hj).2
    have Z := Lib.hid (blk_alloc V 50 azero.cells)
    have hz := zero32
    clear k4 k5 hj ho hnx hv hB hB2 l4 l5
    gi_wp2_with (first
      | (refine in_plain (wide_in l2) rfl (by intro c h; cases h) ?_; refine wpList_load_ky rfl _ rfl g4 0 x.k rfl G4.out.range XO.out.k.ml ?_; refine in_done ?_)
      | (refine in_plain (wide_in l2) rfl (by intro c h; cases h) ?_; refine wpList_load_vl rfl _ rfl g5 0 x.v rfl G5.out.range XO.out.v.tl ?_; refine in_done ?_)
      | (refine in_plain (wide_in l2) rfl (by intro c h; cases h) ?_; refine wpList_build rfl 50 _ rfl [(0, .agg x.k.cells.toArray), (1, .agg x.v.cells.toArray)] rfl _ (built32_2 x XO.out) ?_; refine in_done ?_)
      | (refine in_plain (wide_in l2) rfl (by intro c h; cases h) ?_; refine wpList_store_am rfl _ _ rfl V.heap.size azero x rfl rfl Z.out azero_ok XO.out ?_; intro V1 N1 O1; have BV := Lib.hid (box_below O1.out); refine in_done ?_))
    have P3 := Lib.hid (Y3.out.below BV.out)
    have P2 := Lib.hid (NN.out.below BV.out)
    rename_i hKK
    refine wpIn_region_any (by kernel_rfl) ?_
    refine yreg (wide_in l2) (C := fun V2 => Below V1.heap.size V1 V2) W.heap.size gS V.heap.size (.func (.yield l) #[] #[]) seed (hsum seed x) x XO.out (fun V2 hV => P3.out.below hV) (fun V2 hV => P2.out.below hV) (fun V2 hV => N1.out.below hV)
      (fun V2 hV => (asum_is seed (hsum seed x) x V2 XO.out (Lib.hid HU.out) (Lib.hid rfl)).mono fun e V3 h => ⟨h.1, step_ hV h.2⟩) _ _ _ _ _ _ _ _ _ _ _ _ _ _ _ _ _ _ ?_ _ ?_
    · intro V2 hV
      obtain ⟨fn, tmps, assign, body, hy, hR⟩ := yield_any (HY.out B pre x V2 NX.out (JB.out _ _ _ _ JJ.out (step_ BV.out hV)) (Nat.le_trans (Nat.le_trans B1S.out (Nat.le_add_right _ 2)) HBB.out) (Nat.le_trans HB.out (Nat.le_trans BV.out.size hV.size))) 8 (some l2)
      have HV := Lib.hid (step_ BV.out hV)
      clear hV
      refine opIn_round (wide_in l2) rfl rfl l fn tmps assign body V2 (by
        unfold opsY
        simp only [Fence.inRound]
        simp [go_sem, resolve, invoke]
        exact hy) (RoundIn.mono hR ?_)
      rintro e W4 ⟨hs4, hk4, h4⟩
      have S4 := Lib.hid hs4
      have K4 := Lib.hid hk4
      clear hs4 hk4 hR hy
      rcases h4 with ⟨rfl, hJ4⟩ | ⟨rfl, hX4⟩
      · refine ⟨_, rfl, ?_⟩
        have J4 := Lib.hid hJ4
        clear hJ4
        refine any_last (wide_in l2) 6 (by kernel_rfl) rfl rfl (by intro c h; cases h) (.bool false) W4 rfl (by kernel_rfl) ?_
        refine hKK _ _ ?_
        simp only [opsY, Act.put, List.getElem_toArray, List.getElem_cons_succ, List.getElem_cons_zero, List.setIfInBounds_toArray, List.set_cons_zero, List.set_cons_succ]
        gi_wp2_with (refine in_skip (wide_in l2) rfl ?_)
        have hB0 := HBB.out
        have hB1 := B1S.out
        have hz3 := HV.out.size
        have hz4 := S4.out
        have hz5 := HB.out
        refine ⟨⟨by omega, ?_, ?_⟩, fun k h1 h2 => (K4.out k (by omega) h2).trans (HV.out.block k (by omega)), J4.out, ⟨fun k h1 h2 => ?_, ?_⟩, by omega⟩
        · exact (K4.out _ (by omega) (by omega)).trans (HV.out.block _ (by omega))
        · exact (K4.out _ (by omega) (by omega)).trans (HV.out.block _ (by omega))
        · exact (K4.out _ h1 (by omega)).trans ((HV.out.block _ (by omega)).trans (OW.out.same k h1 h2))
        · omega
      · refine ⟨_, rfl, ?_⟩
        have X4 := Lib.hid hX4
        clear hX4
        refine any_last (wide_in l2) 6 (by kernel_rfl) rfl rfl (by intro c h; cases h) (.bool true) W4 rfl (by kernel_rfl) ?_
        refine hKK _ _ ?_
        simp only [opsY, Act.put, List.getElem_toArray, List.getElem_cons_succ, List.getElem_cons_zero, List.setIfInBounds_toArray, List.set_cons_zero, List.set_cons_succ]
        gi_wp2_with (refine in_skip (wide_in l2) rfl ?_)
        have hB0 := HBB.out
        have hB1 := B1S.out
        have hz3 := HV.out.size
        have hz4 := S4.out
        have hz5 := HB.out
        refine ⟨⟨by omega, ?_, ?_⟩, fun k h1 h2 => (K4.out k (by omega) h2).trans (HV.out.block k (by omega)), X4.out⟩
        · exact (K4.out _ (by omega) (by omega)).trans (HV.out.block _ (by omega))
        · exact (K4.out _ (by omega) (by omega)).trans (HV.out.block _ (by omega))
    · exact below_drew (Below.refl _ _)
  case done =>
    intro D9 B t V hD hD2 hB hf hi hd
    subst hf
    have JJ := Lib.hid hi.1
    have HD := Lib.hid hd
    have LD := Lib.hid (show W.heap.size ≤ D9 ∧ D9 < B by have := B1.out.size; omega)
    clear hi hd HY
    show bodyPostM Fence.wide 10 Tryz.prog Tryz.f36 _ .ret _ V
    refine marks_ret D9 rfl HD.out (results_none rfl _ _ _) ?_
    exact ⟨⟨_, rfl⟩, .inl ⟨_, B, by rw [NE.out], JO.out _ _ _ _ _ JJ.out (only_putObj _ _ _) LD.out.1 LD.out.2⟩⟩
  case stop =>
    intro D9 V hD hx hd
    have HX := Lib.hid hx
    have HD := Lib.hid hd
    clear hx hd HY
    gi_wp2_with fail
    refine marks_ret D9 rfl HD.out (results_none rfl _ _ _) ?_
    exact ⟨⟨_, rfl⟩, .inr (XO'.out _ _ _ HX.out (only_putObj _ _ _) (by have := B1.out.size; omega))⟩
end Go.Proofs.YtnpbmihbmilkbaaGreat
/-
-/
namespace Go.Proofs
open Go.Shelf
def Tryz.cmpU_ren : Go.Shelf.Ren := ⟨fun | 43 => 40 | n => n, fun | 22 => 24 | 23 => 22 | 3 => 3 | 4 => 4 | 0 => 0 | n => n, fun | n => n⟩
theorem Tryz.cmpU : Go.Proofs.SlLaysE.n43 Tryz.prog Tryz.cmpU_ren := {
  mixed := by kernel_rfl
  f43 := ⟨Tryz.f40.name, by decide, Tryz.func40.trans (congrArg some (by kernel_rfl))⟩
  t0 := Tryz.underlying0
  a0 := Tryz.isAgg0
  z0 := Tryz.sizeOf0
  v0 := Tryz.zeroValue0
  t3 := Tryz.underlying3
  a3 := Tryz.isAgg3
  z3 := Tryz.sizeOf3
  v3 := Tryz.zeroValue3
  t4 := Tryz.underlying4
  a4 := Tryz.isAgg4
  z4 := Tryz.sizeOf4
  v4 := Tryz.zeroValue4
  t22 := Tryz.underlying24
  a22 := Tryz.isAgg24
  z22 := Tryz.sizeOf24
  v22 := Tryz.zeroValue24
  a23 := Tryz.isAgg22
  z23 := Tryz.sizeOf22 }
end Go.Proofs
namespace Go.Proofs.YtnpbmihbmilkbaaGreat
def swp (l : List Int) (i j : Nat) : List Int := (l.set i (l.getD j 0)).set j (l.getD i 0)
theorem swp_len (l : List Int) (i j : Nat) : (swp l i j).length = l.length := by unfold swp; rw [List.length_set, List.length_set]
theorem getD_set0 (l : List Int) (i k : Nat) (x : Int) (hi : i < l.length) : (l.set i x).getD k 0 = if k = i then x else l.getD k 0 := by
  simp only [List.getD_eq_getElem?_getD, List.getElem?_set]
  by_cases e : i = k
  · subst e; simp [hi]
  · rw [if_neg e, if_neg (fun h => e h.symm)]
theorem swp_get {l : List Int} {i j : Nat} (hi : i < l.length) (hj : j < l.length) (k : Nat) : (swp l i j).getD k 0 = if k = j then l.getD i 0 else if k = i then l.getD j 0 else l.getD k 0 := by
  unfold swp
  rw [getD_set0 _ _ _ _ (by rw [List.length_set]; exact hj), getD_set0 _ _ _ _ hi]
theorem swp_perm {l : List Int} {i j : Nat} (hi : i < l.length) (hj : j < l.length) : (swp l i j).Perm l := by
  unfold swp
  rw [List.getD_eq_getElem?_getD, List.getD_eq_getElem?_getD, List.getElem?_eq_getElem hi, List.getElem?_eq_getElem hj, Option.getD_some, Option.getD_some]
  exact List.set_set_perm hi hj
/-- m is l after exchanges in the range from a to b. -/
inductive Per (a b : Nat) : List Int → List Int → Prop
  | refl (l : List Int) : Per a b l l
  | swap {l m : List Int} {i j : Nat} : Per a b l m → a ≤ i → i < b → a ≤ j → j < b → b ≤ m.length → Per a b l (swp m i j)
theorem Per.len {a b : Nat} {l m : List Int} (h : Per a b l m) : m.length = l.length := by
  induction h with
  | refl => rfl
  | swap _ _ _ _ _ _ ih => rw [swp_len, ih]
theorem Per.trans {a b : Nat} {l m k : List Int} (h : Per a b l m) (g : Per a b m k) : Per a b l k := by
  induction g with
  | refl => exact h
  | swap _ h1 h2 h3 h4 h5 ih => exact .swap ih h1 h2 h3 h4 h5
theorem Per.mono {a b c d : Nat} {l m : List Int} (h : Per a b l m) (h1 : c ≤ a) (h2 : b ≤ d) (h3 : d ≤ l.length) : Per c d l m := by
  induction h with
  | refl => exact .refl _
  | swap g h4 h5 h6 h7 h8 ih => exact .swap ih (by omega) (by omega) (by omega) (by omega) (by have := g.len; omega)
theorem Per.perm {a b : Nat} {l m : List Int} (h : Per a b l m) : m.Perm l := by
  induction h with
  | refl => exact List.Perm.refl _
  | swap _ h1 h2 h3 h4 h5 ih => exact (swp_perm (by omega) (by omega)).trans ih
theorem Per.out {a b : Nat} {l m : List Int} (h : Per a b l m) {k : Nat} (hk : k < a ∨ b ≤ k) : m.getD k 0 = l.getD k 0 := by
  induction h with
  | refl => rfl
  | swap _ h1 h2 h3 h4 h5 ih => rw [swp_get (by omega) (by omega), if_neg (by omega), if_neg (by omega), ih]
theorem Per.all {a b : Nat} {l m : List Int} (h : Per a b l m) {Q : Int → Prop} (hq : ∀ k, a ≤ k → k < b → Q (l.getD k 0)) : ∀ k, a ≤ k → k < b → Q (m.getD k 0) := by
  induction h with
  | refl => exact hq
  | @swap m i j _ h1 h2 h3 h4 h5 ih =>
    intro k hk hk2
    rw [swp_get (by omega) (by omega)]
    split
    · exact ih i h1 h2
    · split
      · exact ih j h3 h4
      · exact ih k hk hk2
theorem Per.one {a b i j : Nat} {l : List Int} (h1 : a ≤ i) (h2 : i < b) (h3 : a ≤ j) (h4 : j < b) (h5 : b ≤ l.length) : Per a b l (swp l i j) := .swap (.refl l) h1 h2 h3 h4 h5
/-- Sorted from a up to b. -/
def Sd (l : List Int) (a b : Nat) : Prop := ∀ p q, a ≤ p → p < q → q < b → l.getD p 0 ≤ l.getD q 0
theorem sd_small {l : List Int} {a b : Nat} (h : b ≤ a + 1) : Sd l a b := fun p q h1 h2 h3 => by omega
theorem Sd.snoc {l : List Int} {a b : Nat} (h : Sd l a b) (hab : a < b) (h2 : l.getD (b - 1) 0 ≤ l.getD b 0) : Sd l a (b + 1) := fun p q h3 h4 h5 => by
  by_cases e : q = b
  · subst e
    by_cases e2 : p = q - 1
    · subst e2; exact h2
    · exact Int.le_trans (h p (q - 1) h3 (by omega) (by omega)) h2
  · exact h p q h3 h4 (by omega)
theorem Sd.mono {l : List Int} {a b c d : Nat} (h : Sd l a b) (h1 : a ≤ c) (h2 : d ≤ b) : Sd l c d := fun p q h3 h4 h5 => h p q (by omega) h4 (by omega)
theorem Sd.eqv {l m : List Int} {a b : Nat} (h : Sd l a b) (he : ∀ k, a ≤ k → k < b → m.getD k 0 = l.getD k 0) : Sd m a b := fun p q h3 h4 h5 => by rw [he p h3 (by omega), he q (by omega) h5]; exact h p q h3 h4 h5
/-! Insertion. -/
def InsI (l : List Int) (a i j : Nat) : Prop := ∀ p q, a ≤ p → p < q → q ≤ i → q ≠ j → l.getD p 0 ≤ l.getD q 0
theorem ins_start {l : List Int} {a i : Nat} (h : Sd l a i) : InsI l a i i := fun p q h1 h2 h3 h4 => h p q h1 h2 (by omega)
theorem ins_step {l : List Int} {a i j : Nat} (h : InsI l a i j) (h1 : a < j) (h2 : j ≤ i) (h3 : i < l.length) (hl : l.getD j 0 < l.getD (j - 1) 0) : InsI (swp l j (j - 1)) a i (j - 1) := by
  intro p q g1 g2 g3 g4
  rw [swp_get (by omega) (by omega), swp_get (by omega) (by omega)]
  rw [if_neg g4]
  by_cases e : q = j
  · subst e
    rw [if_pos rfl]
    by_cases e2 : p = q - 1
    · rw [if_pos e2]; omega
    · rw [if_neg e2, if_neg (by omega)]; exact h p (q - 1) g1 (by omega) (by omega) (by omega)
  · rw [if_neg e]
    by_cases e2 : p = j - 1
    · rw [if_pos e2]
      by_cases e3 : q < j
      · omega
      · exact h j q (by omega) (by omega) g3 e
    · rw [if_neg e2]
      by_cases e3 : p = j
      · rw [if_pos e3]; exact h (j - 1) q (by omega) (by omega) g3 e
      · rw [if_neg e3]; exact h p q g1 g2 g3 e
theorem ins_end {l : List Int} {a i j : Nat} (h : InsI l a i j) (h1 : a ≤ j) (h2 : j ≤ i) (hl : j = a ∨ l.getD (j - 1) 0 ≤ l.getD j 0) : Sd l a (i + 1) := by
  intro p q g1 g2 g3
  by_cases e : q = j
  · subst e
    rcases hl with hl | hl
    · omega
    · by_cases e2 : p = q - 1
      · subst e2; exact hl
      · exact Int.le_trans (h p (q - 1) g1 (by omega) (by omega) (by omega)) hl
  · exact h p q g1 g2 (by omega) e
/-! Heaps: the greatest first, in the range behind f. -/
def HpF (l : List Int) (f lo hi : Nat) : Prop := ∀ p c, lo ≤ p → c = 2 * p + 1 ∨ c = 2 * p + 2 → c < hi → l.getD (f + c) 0 ≤ l.getD (f + p) 0
structure SiftI (l : List Int) (f lo hi r : Nat) : Prop where
  out : ∀ p c, lo ≤ p → p ≠ r → c = 2 * p + 1 ∨ c = 2 * p + 2 → c < hi → l.getD (f + c) 0 ≤ l.getD (f + p) 0
  up : ∀ p c, lo ≤ p → r = 2 * p + 1 ∨ r = 2 * p + 2 → c = 2 * r + 1 ∨ c = 2 * r + 2 → c < hi → l.getD (f + c) 0 ≤ l.getD (f + p) 0
theorem sift_start {l : List Int} {f lo hi : Nat} (h : HpF l f (lo + 1) hi) : SiftI l f lo hi lo :=
  ⟨fun p c h1 h2 h3 h4 => h p c (by omega) h3 h4, fun p c h1 h2 _ _ => by omega⟩
theorem sift_end {l : List Int} {f lo hi r : Nat} (h : SiftI l f lo hi r) (hr : ∀ c, c = 2 * r + 1 ∨ c = 2 * r + 2 → c < hi → l.getD (f + c) 0 ≤ l.getD (f + r) 0) : HpF l f lo hi := fun p c h1 h2 h3 => by
  by_cases e : p = r
  · subst e; exact hr c h2 h3
  · exact h.out p c h1 e h2 h3
theorem sift_step {l : List Int} {f lo hi r c : Nat} (h : SiftI l f lo hi r) (hlo : lo ≤ r) (hc : c = 2 * r + 1 ∨ c = 2 * r + 2) (hch : c < hi) (hlen : f + hi ≤ l.length)
    (hb : ∀ d, d = 2 * r + 1 ∨ d = 2 * r + 2 → d < hi → l.getD (f + d) 0 ≤ l.getD (f + c) 0) (hl : l.getD (f + r) 0 < l.getD (f + c) 0) : SiftI (swp l (f + r) (f + c)) f lo hi c := by
  refine ⟨fun p d h1 h2 h3 h4 => ?_, fun p d h1 h2 h3 h4 => ?_⟩
  · rw [swp_get (by omega) (by omega), swp_get (by omega) (by omega)]
    by_cases e : p = r
    · subst e
      rw [if_neg (show ¬ f + p = f + c by omega), if_pos rfl]
      by_cases e2 : d = c
      · rw [if_pos (by omega)]; omega
      · rw [if_neg (by omega), if_neg (by omega)]; exact hb d h3 h4
    · rw [if_neg (show ¬ f + p = f + c by omega), if_neg (show ¬ f + p = f + r by omega)]
      by_cases e2 : d = r
      · subst e2
        rw [if_neg (by omega), if_pos rfl]
        exact h.up p c h1 h3 hc hch
      · by_cases e3 : d = c
        · omega
        · rw [if_neg (by omega), if_neg (by omega)]; exact h.out p d h1 e h3 h4
  · have e : p = r := by omega
    subst e
    rw [swp_get (by omega) (by omega), swp_get (by omega) (by omega), if_neg (by omega), if_neg (by omega), if_neg (show ¬ f + p = f + c by omega), if_pos rfl]
    exact h.out c d (by omega) (by omega) h3 h4
theorem hp_max {l : List Int} {f hi : Nat} (h : HpF l f 0 hi) : ∀ k, k < hi → l.getD (f + k) 0 ≤ l.getD f 0 := by
  intro k
  induction k using Nat.strongRecOn with
  | _ k ih =>
    intro hk
    by_cases e : k = 0
    · subst e; exact Int.le_refl _
    · have h1 := h ((k - 1) / 2) k (Nat.zero_le _) (by omega) hk
      exact Int.le_trans h1 (ih ((k - 1) / 2) (by omega) (by omega))
theorem hp_none {l : List Int} {f lo hi : Nat} (h : hi ≤ 2 * lo + 1) : HpF l f lo hi := fun p c h1 h2 h3 => by omega
/-- The end of the heap's row: sorted, and over what stands ahead of it. -/
structure HsI (l : List Int) (f hi n : Nat) : Prop where
  hp : HpF l f 0 hi
  sd : Sd l (f + hi) (f + n)
  top : ∀ p q, p < hi → hi ≤ q → q < n → l.getD (f + p) 0 ≤ l.getD (f + q) 0
theorem hs_start {l : List Int} {f n : Nat} (h : HpF l f 0 n) : HsI l f n n := ⟨h, fun p q h1 h2 h3 => by omega, fun p q h1 h2 h3 => by omega⟩
theorem hs_mid {l : List Int} {f k n : Nat} (h : HsI l f (k + 1) n) (hl : f + n ≤ l.length) (hk : k < n) : HpF (swp l f (f + k)) f 1 k := fun p c h1 h2 h3 => by
  rw [swp_get (by omega) (by omega), swp_get (by omega) (by omega), if_neg (by omega), if_neg (by omega), if_neg (by omega), if_neg (by omega)]
  exact h.hp p c (Nat.zero_le _) h2 (by omega)
theorem hs_step {l m : List Int} {f k n : Nat} (h : HsI l f (k + 1) n) (hl : f + n ≤ l.length) (hk : k < n) (hp : Per f (f + k) (swp l f (f + k)) m) (hh : HpF m f 0 k) : HsI m f k n := by
  have hm : ∀ q, q < k + 1 → l.getD (f + q) 0 ≤ l.getD f 0 := fun q hq => hp_max h.hp q hq
  have e0 : m.getD (f + k) 0 = l.getD f 0 := by rw [hp.out (.inr (Nat.le_refl _)), swp_get (by omega) (by omega), if_pos rfl]
  have e1 : ∀ q, k < q → m.getD (f + q) 0 = l.getD (f + q) 0 := fun q hq => by rw [hp.out (.inr (by omega)), swp_get (by omega) (by omega), if_neg (by omega), if_neg (by omega)]
  have all : ∀ x, (∀ q, q < k + 1 → l.getD (f + q) 0 ≤ x) → ∀ p, p < k → m.getD (f + p) 0 ≤ x := fun x hx p hpk => by
    refine hp.all (Q := fun y => y ≤ x) (fun j h1 h2 => ?_) (f + p) (by omega) (by omega)
    rw [swp_get (by omega) (by omega), if_neg (by omega)]
    split
    · exact hx k (by omega)
    · have := hx (j - f) (by omega)
      rwa [show f + (j - f) = j by omega] at this
  refine ⟨hh, fun p q h1 h2 h3 => ?_, fun p q h1 h2 h3 => ?_⟩
  · have eq : m.getD q 0 = l.getD q 0 := by have := e1 (q - f) (by omega); rwa [show f + (q - f) = q by omega] at this
    rw [eq]
    by_cases e : p = f + k
    · rw [e, e0]
      have := h.top 0 (q - f) (by omega) (by omega) (by omega)
      rwa [Nat.add_zero, show f + (q - f) = q by omega] at this
    · have ep : m.getD p 0 = l.getD p 0 := by have := e1 (p - f) (by omega); rwa [show f + (p - f) = p by omega] at this
      rw [ep]; exact h.sd p q (by omega) h2 h3
  · by_cases e : q = k
    · rw [e, e0]; exact all _ hm p h1
    · rw [e1 q (by omega)]
      exact all _ (fun j hj => h.top j q hj (by omega) h3) p h1
end Go.Proofs.YtnpbmihbmilkbaaGreat
namespace Go.Proofs.YtnpbmihbmilkbaaGreat
open Go.RowKit
theorem OwnN.set {w : World} {B g n cap : Nat} {l : List Int} (h : OwnN w B (.slice (some ⟨g, 0, none⟩) n cap) l) (i : Nat) (x : Int) (hx : 0 ≤ x ∧ x < 18446744073709551616) :
    OwnN (w.setCell ⟨g, i, none⟩ (.int .u64 x)) B (.slice (some ⟨g, 0, none⟩) n cap) (l.set i x) := by
  obtain ⟨_, _, e⟩ := h.shape
  simp only [Value.slice.injEq] at e
  obtain ⟨_, rfl, _⟩ := e
  refine ⟨fun y hy => ?_, ?_⟩
  · rcases List.mem_or_eq_of_mem_set hy with h1 | h1
    · exact h.ok y h1
    · subst h1; exact hx
  · rw [List.length_set, nc_set]; exact (h.row.stored i _).1
theorem OwnN.cell {w : World} {B g n cap : Nat} {l : List Int} (h : OwnN w B (.slice (some ⟨g, 0, none⟩) n cap) l) {i : Nat} (hi : i < l.length) : w.cell? ⟨g, i, none⟩ = some (.int .u64 (l.getD i 0)) := by
  obtain ⟨A, c, e2⟩ := h.shape
  simp only [Value.slice.injEq] at e2
  obtain ⟨_, rfl, _⟩ := e2
  rw [h.row.cellAt i (by omega)]; exact nc_get hi
theorem OwnN.fz {w : World} {B g n cap : Nat} {l : List Int} (h : OwnN w B (.slice (some ⟨g, 0, none⟩) n cap) l) (i : Nat) : w.frozen? ⟨g, i, none⟩ = false := by
  obtain ⟨A, c, e2⟩ := h.shape
  simp only [Value.slice.injEq] at e2
  obtain ⟨_, rfl, _⟩ := e2
  exact h.row.frozenAt i
theorem OwnN.len {w : World} {B g n cap : Nat} {l : List Int} (h : OwnN w B (.slice (some ⟨g, 0, none⟩) n cap) l) : n = l.length := by
  obtain ⟨A, c, e2⟩ := h.shape
  simp only [Value.slice.injEq] at e2
  exact e2.2.1
section
variable {o : Oper} {a : Act} {w : World}
theorem exec_ixg {t : TypeId} (hu : Tryz.prog.underlying t = some (.slice 22)) (x y : Operand) (ho : o.op = .indexAddr t x y) (g n cap i : Nat) (z : Int) (hx : a.eval x = .slice (some ⟨g, 0, none⟩) n cap) (hy : a.eval y = .int .i64 z) (hz : z = (i : Int)) (hi : i < n) :
    (execOp a.eval o).run Tryz.prog w = .ok (.value (.pointer (some ⟨g, i, none⟩))) w :=
  exec_indexN hu x y ho (some ⟨g, 0, none⟩) n cap g i i z hx hy hz ⟨⟨0, rfl, by omega⟩, hi⟩
theorem wrap_small {z : Int} (h1 : -4611686018427387904 ≤ z) (h2 : z ≤ 4611686018427387904) : IntKind.i64.wrap z = z := by
  have h : IntKind.i64.wrap z = if 9223372036854775808 ≤ z % 18446744073709551616 then z % 18446744073709551616 - 18446744073709551616 else z % 18446744073709551616 := by
    unfold IntKind.wrap
    simp [IntKind.bits, IntKind.signed]
  rw [h]
  split <;> omega
theorem exec_addn (x y : Operand) (ho : o.op = .binOp .add 3 x y 3) (p q : Int) (r : Int) (hx : a.eval x = .int .i64 p) (hy : a.eval y = .int .i64 q) (hr : p + q = r) (hb : -100000 ≤ r ∧ r ≤ 100000) :
    (execOp a.eval o).run Tryz.prog w = .ok (.value (.int .i64 r)) w := by
  unfold execOp
  simp only [ho, hx, hy]
  go_simp
  exact wrap_small (by omega) (by omega)
theorem exec_subn (x y : Operand) (ho : o.op = .binOp .sub 3 x y 3) (p q : Int) (r : Int) (hx : a.eval x = .int .i64 p) (hy : a.eval y = .int .i64 q) (hr : p - q = r) (hb : -100000 ≤ r ∧ r ≤ 100000) :
    (execOp a.eval o).run Tryz.prog w = .ok (.value (.int .i64 r)) w := by
  unfold execOp
  simp only [ho, hx, hy]
  go_simp
  exact wrap_small (by omega) (by omega)
theorem exec_muln (x y : Operand) (ho : o.op = .binOp .mul 3 x y 3) (p q : Int) (r : Int) (hx : a.eval x = .int .i64 p) (hy : a.eval y = .int .i64 q) (hr : p * q = r) (hb : -100000 ≤ r ∧ r ≤ 100000) :
    (execOp a.eval o).run Tryz.prog w = .ok (.value (.int .i64 r)) w := by
  unfold execOp
  simp only [ho, hx, hy]
  go_simp
  exact wrap_small (by omega) (by omega)
theorem exec_half (x : Operand) (ho : o.op = .binOp .quo 3 x (.const (.int .i64 2)) 3) (p r : Int) (hx : a.eval x = .int .i64 p) (hr : p.tdiv 2 = r) (hb : -100000 ≤ r ∧ r ≤ 100000) :
    (execOp a.eval o).run Tryz.prog w = .ok (.value (.int .i64 r)) w := by
  unfold execOp
  simp only [ho, hx]
  go_simp
  exact wrap_small (by omega) (by omega)
theorem exec_lt (x y : Operand) (ho : o.op = .binOp .lss 3 x y 3) (p q : Int) (b : Bool) (hx : a.eval x = .int .i64 p) (hy : a.eval y = .int .i64 q) (hb : decide (p < q) = b) :
    (execOp a.eval o).run Tryz.prog w = .ok (.value (.bool b)) w := by
  unfold execOp
  simp only [ho, hx, hy]
  subst hb
  go_simp
theorem exec_gt (x y : Operand) (ho : o.op = .binOp .gtr 3 x y 3) (p q : Int) (b : Bool) (hx : a.eval x = .int .i64 p) (hy : a.eval y = .int .i64 q) (hb : decide (q < p) = b) :
    (execOp a.eval o).run Tryz.prog w = .ok (.value (.bool b)) w := by
  unfold execOp
  simp only [ho, hx, hy]
  subst hb
  go_simp
theorem exec_le (x y : Operand) (ho : o.op = .binOp .leq 3 x y 3) (p q : Int) (b : Bool) (hx : a.eval x = .int .i64 p) (hy : a.eval y = .int .i64 q) (hb : decide (p ≤ q) = b) :
    (execOp a.eval o).run Tryz.prog w = .ok (.value (.bool b)) w := by
  unfold execOp
  simp only [ho, hx, hy]
  subst hb
  go_simp
theorem exec_ge (x y : Operand) (ho : o.op = .binOp .geq 3 x y 3) (p q : Int) (b : Bool) (hx : a.eval x = .int .i64 p) (hy : a.eval y = .int .i64 q) (hb : decide (q ≤ p) = b) :
    (execOp a.eval o).run Tryz.prog w = .ok (.value (.bool b)) w := by
  unfold execOp
  simp only [ho, hx, hy]
  subst hb
  go_simp
end
theorem isNaN16_is (x : Int) (w : World) : Calls Tryz.prog 111 #[.int .u64 x] w fun e w' => e = .returned (.bool false) ∧ w = w' := by
  have h : (x != x) = false := by simp
  go_enter Tryz.func111, Tryz.ntmps111
  go_wp2_with fail
  go_ret
  exact ⟨rfl, rfl⟩
theorem less16_is (x y : Int) (b : Bool) (w : World) (hb : Hid (decide (x < y) = b)) : Calls Tryz.prog 80 #[.int .u64 x, .int .u64 y] w fun e w' => e = .returned (.bool b) ∧ w = w' := by
  have h := hb.out
  clear hb
  go_enter Tryz.func80, Tryz.ntmps80
  go_wp2_with go_skip
  refine (isNaN16_is x w).mono ?_
  rintro e w1 ⟨rfl, rfl⟩
  go_wp2_with go_skip
  go_ret
  exact ⟨rfl, rfl⟩
end Go.Proofs.YtnpbmihbmilkbaaGreat
