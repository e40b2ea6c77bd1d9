/- The closure and the walk of the law CartViews. Written by wip/tools/clawv_r17.py. -/
import Derived.Test.YtijfbhdbfplghaaGreatG01
import Derived.Test.YtijfbhdbfplghaaGreatG51
import Derived.Test.YtijfbhdbfplghaaGreatG52
import Derived.Test.YtijfbhdbfplghaaGreatG48
namespace Go.Proofs.YtijfbhdbfplghaaGreat
open Go.RowKit Go.Shelf Go.Maps
attribute [local go_sem] Oper.semAt_some
theorem cell_only {g G p : Nat} {v : Value} {w w' : World} (h : Only g w w') (hc : w.cell? ⟨G, p, none⟩ = some v) (hG : G < w.heap.size) (hn : G ≠ g) : w'.cell? ⟨G, p, none⟩ = some v := by
  unfold World.cell? at hc ⊢
  rw [h.block G hG hn]; exact hc
theorem ready_storeB {ops : Array Oper} {Q : Exit → Act → World → Prop} {md : Region.Mode} {S : World → Prop} {fuel : Nat} {listed : Array Bool} {a : Act} {w : World} {i : Nat} {o : Oper} {rs : List Nat} (ho : ops[i]? = some o) (hg : o.guard = none) (x y : Operand) (hop : o.op = .store 4 x y) (g : Nat) (u : Value) (b : Bool) (hx : a.eval x = .pointer (some ⟨g, 0, none⟩)) (hy : a.eval y = .bool b) (hb : Blk w g 4 [u])
    (h : ∀ w', Blk w' g 4 [.bool b] → Only g w w' → S w' ∧ wpAnyH Tryz.prog md ops Q S fuel (listed.setIfInBounds i true) (a.put o.dst undef) w')
    (hs : AllReadyH Tryz.prog md ops Q S fuel listed a w rs) : AllReadyH Tryz.prog md ops Q S fuel listed a w (i :: rs) := by
  refine AllReadyH.cons ho (fun K hK => ?_) hs
  have hw : Region.wanted o (yielded ops a.tmps) = true := by simp [Region.wanted, hg]
  rw [if_pos hw]
  have H := h (w.setCell ⟨g, 0, none⟩ (.bool b)) (hb.set 0 (.bool b)) (Only.set g 0 w (.bool b))
  unfold Oper.wp
  rw [exec_store_b x y hop g u b hx hy hb]
  exact hK.out _ _ H.1 (fun _ => H.2)
structure Env (W0 : World) (g2 g5 g6 : Nat) (A : Option Addr) (n cap : Nat) (a : List Am) (Aw : Option Addr) (CL cw : Nat) (q : Int) : Prop where
  s : Blk W0 g2 22 [.slice A n cap]
  row : RowV W0 A n cap a
  want : Blk W0 g5 34 [.slice Aw CL cw]
  nums : NumsAt W0 (.slice Aw CL cw) (cartsQ a)
  most : Blk W0 g6 3 [.int .i64 q]
theorem Env.below {W0 V : World} {g2 g5 g6 : Nat} {A : Option Addr} {n cap : Nat} {a : List Am} {Aw : Option Addr} {CL cw : Nat} {q : Int} (h : Env W0 g2 g5 g6 A n cap a Aw CL cw q) (hb : Below W0.heap.size W0 V) : Env V g2 g5 g6 A n cap a Aw CL cw q :=
  ⟨h.s.below hb, h.row.below hb, h.want.below hb, h.nums.below hb, h.most.below hb⟩
def VJ (W0 : World) (gm B0 b n : Nat) (a : List Am) (g8 g7 : Nat) (q : Int) (_B : Nat) (pre : List Int) (V : World) : Prop :=
  Below W0.heap.size W0 V ∧ (Blk V gm 70 [.map (some b)] ∧ Grps V B0 b n (fun x : Am => x.k.c) a) ∧ Blk V g8 4 [.bool true] ∧ Blk V g7 3 [.int .i64 (pre.length : Int)] ∧ (pre.length = 0 ∨ (pre.length : Int) < q)
def VX (W0 : World) (a : List Am) (g8 g7 : Nat) (q : Int) (V : World) : Prop :=
  Below W0.heap.size W0 V ∧ Blk V g8 4 [.bool true] ∧ ∃ m : Nat, Blk V g7 3 [.int .i64 (m : Int)] ∧ (m : Int) = q ∧ m ≤ (cartsQ a).length
set_option maxRecDepth 100000 in
set_option maxHeartbeats 16000000 in
theorem told_is (W0 W : World) (g2 g5 g6 g7 g8 gm B0 b : Nat) (A : Option Addr) (n cap : Nat) (a : List Am) (Aw : Option Addr) (CL cw : Nat) (q : Int) (B : Nat) (pre : List Int) (c : Int) (D : Option Addr) (nn cp : Nat) (V : World)
    (hE : Env W0 g2 g5 g6 A n cap a Aw CL cw q) (hlo : (W0.heap.size ≤ g8 ∧ W0.heap.size ≤ g7 ∧ g7 ≠ g8) ∧ g8 < B0 ∧ g7 < B0 ∧ B0 ≤ gm) (hW : g8 < W.heap.size ∧ g7 < W.heap.size) (hn : n ≤ 600) (hq : 1 ≤ q ∧ q ≤ 5)
    (hlt : pre.length < (cartsQ a).length) (hcv : c = (cartsQ a).getD pre.length 0) (hJ : VJ W0 gm B0 b n a g8 g7 q B pre V) (hrow : RowG EL V D nn cp (linesQ a c)) (hB1 : W.heap.size ≤ B) (hB : B ≤ V.heap.size) :
    Calls Tryz.prog 18 (.int .u16 c :: .agg (vcs D nn cp (noteT a c)).toArray :: [.pointer (some ⟨g8, 0, none⟩), .pointer (some ⟨g7, 0, none⟩), .pointer (some ⟨g5, 0, none⟩), .pointer (some ⟨g2, 0, none⟩), .pointer (some ⟨g6, 0, none⟩)]).toArray V fun e V' => V.heap.size ≤ V'.heap.size ∧ (∀ k, W.heap.size ≤ k → k < B → V'.heap[k]? = V.heap[k]?) ∧ ((e = .returned (.bool true) ∧ VJ W0 gm B0 b n a g8 g7 q B (pre ++ [c]) V') ∨ (e = .returned (.bool false) ∧ VX W0 a g8 g7 q V')) := by
  obtain ⟨j1, j2, j3, j4, j5⟩ := hJ
  obtain ⟨t, ht⟩ : ∃ t, noteT a c = t := ⟨_, rfl⟩
  have HT := Lib.hid ht
  have OA := Lib.hid hE.row.ok
  have TL := Lib.hid (show t.length = 8 by rw [← ht]; exact (noteV_ok OA.out c).tl)
  rw [ht]
  obtain ⟨P, hP⟩ : ∃ P, pre.length = P := ⟨_, rfl⟩
  rw [hP] at j4 j5 hlt hcv
  obtain ⟨P1, hP1⟩ : ∃ P1, P + 1 = P1 := ⟨_, rfl⟩
  obtain ⟨bb, hbb⟩ : ∃ bb, decide ((P1 : Int) < q) = bb := ⟨_, rfl⟩
  have PLN := Lib.hid hP
  have HP1 := Lib.hid hP1
  have BB := Lib.hid hbb
  have CLE := Lib.hid (show CL = (cartsQ a).length from hE.nums.len)
  have CB := Lib.hid (show (cartsQ a).length ≤ 600 by have h1 := cartsQ_len OA.out; have h2 := norm_len a; have h3 := hE.row.len; omega)
  have LTC := Lib.hid hlt
  have PB := Lib.hid (show P ≤ 600 by have := CB.out; omega)
  have LT := Lib.hid (show decide ((P : Int) < (CL : Int)) = true from decide_eq_true (by have := CLE.out; omega))
  have hc : 0 ≤ c ∧ c < 65536 := by
    refine cartsQ_rg OA.out c ?_
    rw [hcv, List.getD_eq_getElem?_getD, List.getElem?_eq_getElem hlt]
    exact List.getElem_mem _
  have hnn6 : nn ≤ 600 := by have h1 := hrow.len; have h2 := linesQ_len a c; have h3 := norm_len a; have h4 := hE.row.len; omega
  have hnn : nn ≤ 5000 := by omega
  obtain ⟨G, p, hNI, hcl0, hG0⟩ := hE.nums.elem P (by omega)
  rw [← hcv] at hcl0
  have NI := Lib.hid hNI
  have NB := Lib.hid (new_below V (.cells (vcs D nn cp t).toArray 41))
  have N0 := Lib.hid (blk_alloc V 41 (vcs D nn cp t))
  have EB := Lib.hid (j1.trans (NB.out.mono j1.size))
  have E := Lib.hid (hE.below EB.out)
  have hcl := Lib.hid ((EB.out.cell (p := ⟨G, p, none⟩) hG0).trans hcl0)
  have hGl := Lib.hid (Nat.lt_of_lt_of_le hG0 EB.out.size)
  have NEG := Lib.hid (show G ≠ g8 by omega)
  have NE7 := Lib.hid hlo.1.2.2
  have NE8 := Lib.hid (show g8 ≠ g7 from fun e => hlo.1.2.2 e.symm)
  have NE5 := Lib.hid (show g5 ≠ g8 by have := hE.want.lt; omega)
  have NE2 := Lib.hid (show g2 ≠ g8 by have := hE.s.lt; omega)
  have NE6 := Lib.hid (show g6 ≠ g8 by have := hE.most.lt; omega)
  have NE67 := Lib.hid (show g6 ≠ g7 by have := hE.most.lt; omega)
  have VL := Lib.hid (And.intro j3.lt j4.lt)
  have NEV := Lib.hid (show V.heap.size ≠ g8 by have := j3.lt; omega)
  have G7 := Lib.hid (j4.below NB.out)
  have GM := Lib.hid j2
  have PQ := Lib.hid (And.intro j5 hq)
  have LO := Lib.hid hlo
  have HW := Lib.hid hW
  have BV := Lib.hid (And.intro hB hB1)
  have H0 := Lib.hid E.out.row.drew
  have RV0 := Lib.hid ((hrow.below NB.out).drew)
  have S0 := Lib.hid (show Only g8 (V.alloc (.cells (vcs D nn cp t).toArray 41)) (V.alloc (.cells (vcs D nn cp t).toArray 41)).drew ∧ Blk (V.alloc (.cells (vcs D nn cp t).toArray 41)).drew g8 4 [.bool true] from ⟨only_drew g8 _, (j3.below NB.out).drew⟩)
  clear j1 j2 j3 j4 j5 ht hP hP1 hbb hlt hcv hNI hcl0 hG0 hE hlo hW hrow hB1 hB hq
  go_enter Tryz.func18, Tryz.ntmps18
  go_wp2_with fail
  refine wp_region_noPanic ?_
  refine wp_region_held_drew (S := fun W => Only g8 (V.alloc (.cells (vcs D nn cp t).toArray 41)) W ∧ Blk W g8 4 [.bool true]) (by kernel_rfl) S0.out (fun _ => ?_)
  refine tkv 0 _ rfl (fun W hW => by have q := (hW.2).cell (i := 0) rfl; (go_simp; try with_reducible rfl)) S0.out ?_; try simp only [Act.put, stA, stZ, stS]
  refine tkm 1 rfl S0.out ?_; try simp only [Act.put, stA, stZ, stS]
  refine tkv 2 _ rfl (fun W hW => by have q := (G7.out.only hW.1 NE7.out).cell (i := 0) rfl; (go_simp; try with_reducible rfl)) S0.out ?_; try simp only [Act.put, stA, stZ, stS]
  refine tkv 3 _ rfl (fun W hW => by have q := (E.out.want.only hW.1 NE5.out).cell (i := 0) rfl; (go_simp; try with_reducible rfl)) S0.out ?_; try simp only [Act.put, stA, stZ, stS]
  refine tkm 4 rfl S0.out ?_; try simp only [Act.put, stA, stZ, stS]
  refine tkv 5 (.bool true) rfl (fun W hW => exec_lt _ _ rfl (P : Int) (CL : Int) true rfl rfl LT.out) S0.out ?_; try simp only [Act.put, stA, stZ, stS]
  refine tkm 6 rfl S0.out ?_; try simp only [Act.put, stA, stZ, stS]
  refine tkm 7 rfl S0.out ?_; try simp only [Act.put, stA, stZ, stS]
  refine tkm 8 rfl S0.out ?_; try simp only [Act.put, stA, stZ, stS]
  refine tkv 9 _ rfl (fun W hW => by have q := (E.out.want.only hW.1 NE5.out).cell (i := 0) rfl; (go_simp; try with_reducible rfl)) S0.out ?_; try simp only [Act.put, stA, stZ, stS]
  refine tkv 10 _ rfl (fun W hW => by have q := (G7.out.only hW.1 NE7.out).cell (i := 0) rfl; (go_simp; try with_reducible rfl)) S0.out ?_; try simp only [Act.put, stA, stZ, stS]
  refine tkv 11 (.pointer (some ⟨G, p, none⟩)) rfl (fun W hW => exec_indexN Tryz.underlying34 _ _ rfl Aw CL cw G p P _ rfl rfl rfl NI.out) S0.out ?_; try simp only [Act.put, stA, stZ, stS]
  refine tkv 12 _ rfl (fun W hW => by have q := cell_only hW.1 hcl.out hGl.out NEG.out; (go_simp; try with_reducible rfl)) S0.out ?_; try simp only [Act.put, stA, stZ, stS]
  refine tkm 13 rfl S0.out ?_; try simp only [Act.put, stA, stZ, stS]
  refine tkm 14 rfl S0.out ?_; try simp only [Act.put, stA, stZ, stS]
  refine tkm 15 rfl S0.out ?_; try simp only [Act.put, stA, stZ, stS]
  refine tky 16 (.agg (vcs D nn cp t).toArray) rfl (yieldsIf_load_mid (by rfl) 41 (.tmp 8) rfl V.heap.size 0 rfl (vcs D nn cp t) _ (fun W hW => (N0.out.only hW.1 NEV.out).range) undW rfl (size_w TL.out)) S0.out ?_; try simp only [Act.put, stA, stZ, stS]
  refine tkv 17 _ rfl (fun W hW => by have q := (E.out.s.only hW.1 NE2.out).cell (i := 0) rfl; (go_simp; try with_reducible rfl)) S0.out ?_; try simp only [Act.put, stA, stZ, stS]
  refine tkm 18 rfl S0.out ?_; try simp only [Act.put, stA, stZ, stS]
  refine rdy [19] ?_
  refine AllReadyH.cons (arR rfl) (fun K hK => ?_) AllReadyH.nil
  go_simp
  refine (refOf_is A n cap a c t _ H0.out hn hc HT).mono ?_
  rintro e w1 ⟨⟨D1, n1, c1, rfl, o1⟩, b1⟩
  have S1 := Lib.hid (show Only g8 (V.alloc (.cells (vcs D nn cp t).toArray 41)) w1 ∧ Blk w1 g8 4 [.bool true] from ⟨only_later S0.out.1 b1, S0.out.2.below b1⟩)
  have H_1 := Lib.hid ((H0.out).below b1)
  have RV_1 := Lib.hid ((RV0.out).below b1)
  have O2_1 := Lib.hid (o1.rowS)
  clear b1
  go_wp2_with fail
  refine hK.out _ _ S1.out (fun _ => ?_)
  clear hK K
  try simp only [Act.put, stA, stZ, stS]
  refine rdy [20] ?_
  refine AllReadyH.cons (arR rfl) (fun K hK => ?_) AllReadyH.nil
  go_simp
  refine (refSame_is D D1 nn n1 cp c1 t t (linesQ a c) (linesQ a c) true _ RV_1.out O2_1.out hnn TL.out TL.out (Lib.hid (by simp))).mono ?_
  rintro e w2 ⟨rfl, b2⟩
  have S2 := Lib.hid (show Only g8 (V.alloc (.cells (vcs D nn cp t).toArray 41)) w2 ∧ Blk w2 g8 4 [.bool true] from ⟨only_later S1.out.1 b2, S1.out.2.below b2⟩)
  have H_2 := Lib.hid ((H_1.out).below b2)
  have RV_2 := Lib.hid ((RV_1.out).below b2)
  have O2_2 := Lib.hid ((O2_1.out).below b2)
  clear b2
  go_wp2_with fail
  refine hK.out _ _ S2.out (fun _ => ?_)
  clear hK K
  try simp only [Act.put, stA, stZ, stS]
  refine tkm 21 rfl S2.out ?_; try simp only [Act.put, stA, stZ, stS]
  refine tkm 22 rfl S2.out ?_; try simp only [Act.put, stA, stZ, stS]
  refine tky 23 (.agg (vcs D nn cp t).toArray) rfl (yieldsIf_load_mid (by rfl) 41 (.tmp 8) rfl V.heap.size 0 rfl (vcs D nn cp t) _ (fun W hW => (N0.out.only hW.1 NEV.out).range) undW rfl (size_w TL.out)) S2.out ?_; try simp only [Act.put, stA, stZ, stS]
  refine tkv 24 _ rfl (fun W hW => by have q := (E.out.s.only hW.1 NE2.out).cell (i := 0) rfl; (go_simp; try with_reducible rfl)) S2.out ?_; try simp only [Act.put, stA, stZ, stS]
  refine tkm 25 rfl S2.out ?_; try simp only [Act.put, stA, stZ, stS]
  refine rdy [26] ?_
  refine AllReadyH.cons (arR rfl) (fun K hK => ?_) AllReadyH.nil
  go_simp
  refine (ofR_is A n cap a c t (linesQ a c) _ H_2.out hn hc HT (Lib.hid rfl)).mono ?_
  rintro e w3 ⟨⟨D3, n3, c3, rfl, r3, l3⟩, b3⟩
  have S3 := Lib.hid (show Only g8 (V.alloc (.cells (vcs D nn cp t).toArray 41)) w3 ∧ Blk w3 g8 4 [.bool true] from ⟨only_later S2.out.1 b3, S2.out.2.below b3⟩)
  have H_3 := Lib.hid ((H_2.out).below b3)
  have RV_3 := Lib.hid ((RV_2.out).below b3)
  have O2_3 := Lib.hid ((O2_2.out).below b3)
  have R3_3 := Lib.hid (r3)
  clear b3
  go_wp2_with fail
  refine hK.out _ _ S3.out (fun _ => ?_)
  clear hK K
  try simp only [Act.put, stA, stZ, stS]
  refine rdy [27] ?_
  refine AllReadyH.cons (arR rfl) (fun K hK => ?_) AllReadyH.nil
  go_simp
  refine (sameR_is D D3 nn n3 cp c3 t (linesQ a c) _ RV_3.out R3_3.out hnn6 TL.out).mono ?_
  rintro e w4 ⟨rfl, b4⟩
  have S4 := Lib.hid (show Only g8 (V.alloc (.cells (vcs D nn cp t).toArray 41)) w4 ∧ Blk w4 g8 4 [.bool true] from ⟨only_later S3.out.1 b4, S3.out.2.below b4⟩)
  have H_4 := Lib.hid ((H_3.out).below b4)
  have RV_4 := Lib.hid ((RV_3.out).below b4)
  have O2_4 := Lib.hid ((O2_3.out).below b4)
  have R3_4 := Lib.hid ((R3_3.out).below b4)
  clear b4
  go_wp2_with fail
  refine hK.out _ _ S4.out (fun _ => ?_)
  clear hK K
  try simp only [Act.put, stA, stZ, stS]
  refine tkm 28 rfl S4.out ?_; try simp only [Act.put, stA, stZ, stS]
  refine rdy [29] ?_
  refine ready_storeB (arR rfl) rfl _ _ rfl g8 (.bool true) true rfl rfl S4.out.2 (fun w5 n5 o5 => ?_) AllReadyH.nil
  have S5 := Lib.hid (show Only g8 (V.alloc (.cells (vcs D nn cp t).toArray 41)) w5 ∧ Blk w5 g8 4 [.bool true] from ⟨S4.out.1.trans o5, n5⟩)
  clear n5 o5
  refine ⟨S5.out, ?_⟩
  try simp only [Act.put]
  refine wpAnyH_done (by kernel_rfl) ?_ _
  refine NoPanic.normal ?_
  have G7a := Lib.hid (G7.out.only S5.out.1 NE7.out)
  have G6a := Lib.hid (E.out.most.only S5.out.1 NE6.out)
  have c7 := G7a.out.cell (i := 0) rfl
  go_wp2_with (first
    | (refine wpList_val rfl _ (exec_addp _ _ rfl (P : Int) 1 (P1 : Int) rfl rfl (by have := HP1.out; omega) (by have := HP1.out; have := PB.out; omega)) ?_)
    | (refine wpList_store_i Tryz.sizeOf3 rfl _ _ rfl g7 (.int .i64 (P : Int)) (P1 : Int) rfl rfl G7a.out ?_; intro w30 N30 O30; have c7b := N30.out.cell (i := 0) rfl; have c6b := (G6a.out.only O30.out NE67.out).cell (i := 0) rfl)
    | (refine wpList_val rfl _ (exec_lt _ _ rfl (P1 : Int) q bb rfl rfl BB.out) ?_))
  go_ret
  have SB := Lib.hid (S5.out.2.only O30.out NE8.out)
  have O29 := Lib.hid S5.out.1
  have LO := LO.out
  have HW := HW.out
  have BV2 := BV.out
  have BV := BV2.1
  have VL := VL.out
  have BW0 := Lib.hid ((EB.out.trans (O29.out.below (by omega) EB.out.size)).trans (O30.out.below (by omega) (Nat.le_trans EB.out.size O29.out.size)))
  refine ⟨Nat.le_trans NB.out.size (Nat.le_trans O29.out.size O30.out.size), fun k hk1 hk2 => ?_, ?_⟩
  · have l1 : k < (V.alloc (.cells (vcs D nn cp t).toArray 41)).heap.size := Nat.lt_of_lt_of_le (Nat.lt_of_lt_of_le hk2 BV) NB.out.size
    exact (O30.out.block k (Nat.lt_of_lt_of_le l1 O29.out.size) (by omega)).trans ((O29.out.block k l1 (by omega)).trans (NB.out.block k (Nat.lt_of_lt_of_le hk2 BV)))
  · cases bb with
    | false =>
      refine .inr ⟨rfl, BW0.out, SB.out, P1, N30.out, ?_, ?_⟩
      · have h1 := of_decide_eq_false BB.out
        have h2 := PQ.out
        have h3 := HP1.out
        omega
      · have h2 := LTC.out
        have h3 := HP1.out
        omega
    | true =>
      have KM := Lib.hid (((GM.out.1.below NB.out).only O29.out (by omega)).only O30.out (by omega))
      have GG := Lib.hid (((GM.out.2.below NB.out).only O29.out (by omega)).only O30.out (by omega))
      refine .inl ⟨rfl, BW0.out, ⟨KM.out, GG.out⟩, SB.out, ?_, .inr ?_⟩
      · have e : (pre ++ [c]).length = P1 := by rw [List.length_append, PLN.out, List.length_singleton]; exact HP1.out
        rw [e]; exact N30.out
      · have e : (pre ++ [c]).length = P1 := by rw [List.length_append, PLN.out, List.length_singleton]; exact HP1.out
        rw [e]; exact of_decide_eq_true BB.out
theorem eq_nil38 (f : Fn) (ts caps : Array Value) (w : World) : (binOp .eql 38 (.func f ts caps) .nilFunc).run Tryz.prog w = .ok (.bool false) w := by
  have h : (Op.equalIn (9999 + 1) 38 (.func f ts caps) .nilFunc).run Tryz.prog w = .ok false w := by
    unfold Op.equalIn
    simp only [Sem.run_bind, run_underlying Tryz.underlying38, Result.andThen_ok, Sem.run_pure]
  show ((Op.equalIn (9999 + 1) 38 (.func f ts caps) .nilFunc) >>= fun b => pure (Value.bool b)).run Tryz.prog w = _
  simp only [Sem.run_bind, h, Result.andThen_ok, Sem.run_pure]
theorem exec_conv53 {o : Oper} {a : Act} {w : World} (x : Operand) (ho : o.op = .convert 5 3 x) (r : Int) (hx : a.eval x = .int .u8 r) (h0 : 0 ≤ r ∧ r < 256) :
    (execOp a.eval o).run Tryz.prog w = .ok (.value (.int .i64 r)) w := by
  have H := Lib.hid (show IntKind.i64.wrap r = r from wrap_small (by omega) (by omega))
  unfold execOp
  simp only [ho, hx]
  go_simp
  try exact H.out
theorem exec_rem5 {o : Oper} {a : Act} {w : World} (x : Operand) (ho : o.op = .binOp .rem 3 x (.const (.int .i64 5)) 3) (n : Int) (hx : a.eval x = .int .i64 n) (h0 : 0 ≤ n) :
    (execOp a.eval o).run Tryz.prog w = .ok (.value (.int .i64 (n % 5))) w := by
  unfold execOp
  simp only [ho, hx]
  go_simp
  exact Int.tmod_eq_emod_of_nonneg h0
theorem exec_eqm {o : Oper} {a : Act} {w : World} (x y : Operand) (ho : o.op = .binOp .eql 3 x y 3) (p q : Int) (b : Bool) (hx : a.eval x = .int .i64 p) (hy : a.eval y = .int .i64 q) (hb : (p == q) = b) : (execOp a.eval o).run Tryz.prog w = .ok (.value (.bool b)) w := by
  subst hb
  unfold execOp
  simp only [ho, hx, hy]
  go_simp
set_option maxRecDepth 100000 in
set_option maxHeartbeats 16000000 in
theorem cartViews_is (A : Option Addr) (n cap : Nat) (a : List Am) (n8 : Int) (w : World) (h : RowV w A n cap a) (h8 : 0 ≤ n8 ∧ n8 < 256) :
    Calls Tryz.prog 4 #[.slice A n cap, .int .u8 n8] w fun e w' => e = .returned (.bool true) ∧ Below w.heap.size w w' := by
  have N2 := Lib.hid (blk_alloc w 22 [.slice A n cap])
  have B0 := Lib.hid (new_below w (.cells #[.slice A n cap] 22))
  have H := Lib.hid (h.below B0.out)
  have OA := Lib.hid h.ok
  have AL := Lib.hid h.len
  have c2 := N2.out.cell (i := 0) rfl
  clear h
  by_cases hcn : 60 < n
  · have hc' : decide ((60 : Int) < (n : Int)) = true := decide_eq_true (by omega)
    go_enter Tryz.func4, Tryz.ntmps4
    go_wp2_with go_skip
    refine (alive_is _).mono ?_
    rintro e wz ⟨rfl, bz⟩
    have WZ := Lib.hid (step_ B0.out bz)
    clear bz
    go_wp2_with go_skip
    go_ret
    exact ⟨rfl, WZ.out⟩
  have hc' : decide ((60 : Int) < (n : Int)) = false := decide_eq_false (by omega)
  have hn : n ≤ 600 := by omega
  obtain ⟨q, hq⟩ : ∃ q, n8 % 5 + 1 = q := ⟨_, rfl⟩
  have HQ := Lib.hid hq
  have QR := Lib.hid (show 1 ≤ q ∧ q ≤ 5 by omega)
  clear hq
  go_enter Tryz.func4, Tryz.ntmps4
  go_wp2_with go_skip
  refine (refCarts_is A n cap a _ H.out hn).mono ?_
  rintro e w1 ⟨⟨v1, rfl, o1⟩, b1⟩
  obtain ⟨Aw, cw, rfl⟩ := o1.shape
  obtain ⟨CL, hCL⟩ : ∃ CL, (cartsQ a).length = CL := ⟨_, rfl⟩
  have CE := Lib.hid hCL
  have CB := Lib.hid (show (cartsQ a).length ≤ 600 by have h1 := cartsQ_len OA.out; have h2 := norm_len a; have h3 := AL.out; omega)
  rw [hCL] at o1 ⊢
  have O1 := Lib.hid o1
  have B1 := Lib.hid (step_ B0.out b1)
  have N21 := Lib.hid (N2.out.below b1)
  have H1 := Lib.hid (H.out.below b1)
  have Z1 := Lib.hid (blk_alloc w1 34 [.slice none 0 0])
  clear o1 b1 hCL
  go_wp2_with (refine wpList_storeS rfl _ _ rfl w1.heap.size (.slice none 0 0) Aw CL cw rfl rfl Z1.out ?_; intro w2 N5 O5)
  have B2 := Lib.hid (box_below O5.out)
  have B3 := Lib.hid (step_ B1.out B2.out)
  have N23 := Lib.hid (N21.out.below B2.out)
  have H3 := Lib.hid (H1.out.below B2.out)
  have NW := Lib.hid ((O1.out.below B2.out).at_)
  have S0 := Lib.hid (below_drew (Below.refl w2.heap.size w2))
  refine wp_region_noPanic ?_
  refine wp_region_held_drew (S := fun W => Below w2.heap.size w2 W) (by kernel_rfl) S0.out (fun _ => ?_)
  refine tkv 0 _ rfl (fun W hW => by have q := (N23.out.below hW).cell (i := 0) rfl; (go_simp; try with_reducible rfl)) S0.out ?_; try simp only [Act.put, stA, stZ, stS]
  refine tkv 2 _ rfl (fun W hW => by have q := (N5.out.below hW).cell (i := 0) rfl; (go_simp; try with_reducible rfl)) S0.out ?_; try simp only [Act.put, stA, stZ, stS]
  refine rdy [1] ?_
  refine AllReadyH.cons (arR rfl) (fun K hK => ?_) AllReadyH.nil
  go_simp
  refine (carts17_is A n cap a _ (H3.out.below S0.out) hn).mono ?_
  rintro e wq1 ⟨⟨v1, rfl, o1⟩, b1⟩
  have S1 := Lib.hid (step_ S0.out b1)
  have O1 := Lib.hid o1
  clear o1 b1
  go_wp2_with fail
  refine hK.out _ _ S1.out (fun _ => ?_)
  clear hK K
  try simp only [Act.put, stA, stZ, stS]
  refine rdy [3] ?_
  refine AllReadyH.cons (arR rfl) (fun K hK => ?_) AllReadyH.nil
  go_simp
  refine (same16_is v1 (.slice Aw CL cw) (cartsQ a) (cartsQ a) true _ O1.out.at_ (NW.out.below S1.out) (by have := CB.out; omega) (Lib.hid (by simp))).mono ?_
  rintro e wq2 ⟨rfl, b2⟩
  have S2 := Lib.hid (step_ S1.out b2)
  clear b2
  go_wp2_with fail
  refine hK.out _ _ S2.out (fun _ => ?_)
  clear hK K
  try simp only [Act.put, stA, stZ, stS]
  refine tkm 4 rfl S2.out ?_; try simp only [Act.put, stA, stZ, stS]
  refine wpAnyH_done (by kernel_rfl) ?_ _
  refine NoPanic.normal ?_
  have B4 := Lib.hid (step_ B3.out S2.out)
  have N24 := Lib.hid (N23.out.below S2.out)
  have N54 := Lib.hid (N5.out.below S2.out)
  have NW4 := Lib.hid (NW.out.below S2.out)
  have H4 := Lib.hid (H3.out.below S2.out)
  have Z6 := Lib.hid (blk_alloc wq2 3 [.int .i64 0])
  go_wp2_with (first
    | (refine wpList_val rfl _ (exec_conv53 _ rfl n8 rfl h8) ?_)
    | (refine wpList_val rfl _ (exec_rem5 _ rfl n8 rfl h8.1) ?_)
    | (refine wpList_val rfl _ (exec_addp _ _ rfl (n8 % 5) 1 q rfl rfl HQ.out (by have := QR.out; omega)) ?_)
    | (refine wpList_store_i Tryz.sizeOf3 rfl _ _ rfl wq2.heap.size (.int .i64 0) q rfl rfl Z6.out ?_; intro w6 N6 O6; have Z7 := Lib.hid ((blk_alloc w6 3 [.int .i64 0]).alloc (.cells #[.bool false] 4)); have Z8 := Lib.hid (blk2 w6 (.cells #[.int .i64 0] 3) 4 [.bool false]); have B6 := Lib.hid (box_below O6.out))
    | (refine wpList_store_i Tryz.sizeOf3 rfl _ _ rfl w6.heap.size (.int .i64 0) 0 rfl rfl Z7.out ?_; intro w7 N7 O7; have X7 := Lib.hid (step_ (new_below w6 (.cells #[.int .i64 0] 3)) (new_below _ (.cells #[.bool false] 4))); have B7 := Lib.hid (X7.out.trans (O7.out.below (Nat.le_refl _) X7.out.size)); have Z87 := Lib.hid (Z8.out.only O7.out (by omega)))
    | (refine wpList_store_b rfl _ _ rfl (w6.heap.size + 1) (.bool false) true rfl rfl Z87.out ?_; intro w8 N8 O8; have B8 := Lib.hid (B7.out.trans (O8.out.below (by omega) B7.out.size)); have N78 := Lib.hid (N7.out.only O8.out (by omega)); have N28 := Lib.hid ((N24.out.below B6.out).below B8.out); have c28 := N28.out.cell (i := 0) rfl))
  have hn38 := fun c w => eq_nil38 (.func 36) #[] c w
  have E6 := Lib.hid (show Env w6 w.heap.size w1.heap.size wq2.heap.size A n cap a Aw CL cw q from ⟨N24.out.below B6.out, H4.out.below B6.out, N54.out.below B6.out, NW4.out.below B6.out, N6.out⟩)
  have S8 := Lib.hid (show w6.heap.size + 2 ≤ w8.heap.size by have := X7.out.size; have h1 := Z87.out.lt; have h2 := O8.out.size; omega)
  refine (each17_is A n cap a _ ((E6.out.below B8.out).row) hn).mono ?_
  rintro e w9 ⟨⟨gm, b, rfl, lgm, kM, gM⟩, b9⟩
  have LG := Lib.hid lgm
  have KM := Lib.hid kM
  have GM := Lib.hid gM
  have B9 := Lib.hid (step_ B8.out b9)
  have N79 := Lib.hid (N78.out.below b9)
  have N89 := Lib.hid (N8.out.below b9)
  have S9 := Lib.hid b9.size
  clear lgm kM gM b9
  go_wp2_with fail
  have S8' := S8.out
  have S9' := S9.out
  have LG' := LG.out
  refine (each_callC [.pointer (some ⟨w6.heap.size + 1, 0, none⟩), .pointer (some ⟨w6.heap.size, 0, none⟩), .pointer (some ⟨w1.heap.size, 0, none⟩), .pointer (some ⟨w.heap.size, 0, none⟩), .pointer (some ⟨wq2.heap.size, 0, none⟩)] gm w8.heap.size b n a OA.out hn (by have := AL.out; omega)
    (VJ w6 gm w8.heap.size b n a (w6.heap.size + 1) w6.heap.size q) (VX w6 a (w6.heap.size + 1) w6.heap.size q) w9
    (fun B pre V V' h hb => ⟨h.1.trans (hb.mono h.1.size), ⟨h.2.1.1.below hb, h.2.1.2.below hb⟩, h.2.2.1.below hb, h.2.2.2.1.below hb, h.2.2.2.2⟩)
    (fun B pre V h => h.2.1)
    (fun B pre c D nn cp V hlt hcv hJ hrow hB1 hB => told_is w6 w9 w.heap.size w1.heap.size wq2.heap.size w6.heap.size (w6.heap.size + 1) gm w8.heap.size b A n cap a Aw CL cw q B pre c D nn cp V E6.out (by omega) (by omega) hn QR.out hlt hcv hJ hrow hB1 hB)
    ⟨KM.out, GM.out⟩
    (fun B V hB hV hb => ⟨B9.out.trans (hb.mono B9.out.size), ⟨KM.out.below hb, GM.out.below hb⟩, N89.out.below hb, N79.out.below hb, .inl rfl⟩)).mono ?_
  rintro e w10 ⟨⟨v10, rfl⟩, hX⟩
  have XX := Lib.hid (show Below w6.heap.size w6 w10 ∧ Blk w10 (w6.heap.size + 1) 4 [.bool true] ∧ ∃ m : Nat, Blk w10 w6.heap.size 3 [.int .i64 (m : Int)] ∧ (m : Int) = min q (CL : Int) by
    have e1 := CE.out
    rcases hX with ⟨B, h⟩ | h
    · refine ⟨h.1, h.2.2.1, _, h.2.2.2.1, ?_⟩
      rcases h.2.2.2.2 with h0 | h0
      · rw [← e1, h0]; have := QR.out; omega
      · rw [← e1]; omega
    · obtain ⟨m, h1, h2, h3⟩ := h.2.2
      refine ⟨h.1, h.2.1, m, h1, ?_⟩
      rw [← e1, ← h2]; omega)
  clear hX
  obtain ⟨x1, x2, m, x3, x4⟩ := XX.out
  have B10 := Lib.hid x1
  have X4 := Lib.hid x4
  have c8 := x2.cell (i := 0) rfl
  have c7 := x3.cell (i := 0) rfl
  have c6 := (N6.out.below x1).cell (i := 0) rfl
  have c5 := ((N54.out.below B6.out).below x1).cell (i := 0) rfl
  clear XX x1 x2 x3 x4
  have EM : ((m : Int) == min q (CL : Int)) = true := by rw [X4.out]; simp
  go_wp2_with (first
    | (refine wanted_on rfl ?_; refine wpList_val rfl _ (exec_eqm _ _ rfl (m : Int) (min q (CL : Int)) true rfl rfl EM) ?_))
  refine (alive_is _).mono ?_
  rintro e w11 ⟨rfl, b11⟩
  have B11 := Lib.hid (step_ (step_ (step_ B4.out B6.out) B10.out) b11)
  clear b11
  go_wp2_with fail
  go_ret
  exact ⟨rfl, B11.out⟩
end Go.Proofs.YtijfbhdbfplghaaGreat
