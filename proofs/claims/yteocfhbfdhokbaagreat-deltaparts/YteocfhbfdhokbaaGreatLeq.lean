/- The contracts of Leq and Meet of the reference. The contract of Leq of package lat. The contract of Meet of package lat. -/
import Derived.Test.YteocfhbfdhokbaaGreatRefNorm
import Derived.Test.YteocfhbfdhokbaaGreatEach
import Derived.BigFrameIn
namespace Go.Proofs.YteocfhbfdhokbaaGreat
open Go.RowKit

theorem leA_none {f : Ky → Option Vl} {x : Am} (h : f x.k = none) : leA f x = false := by unfold leA; rw [h]
theorem leA_some {f : Ky → Option Vl} {x : Am} {u : Vl} (h : f x.k = some u) : leA f x = over u x.v := by unfold leA; rw [h]
theorem fnd_norm' {b : List Am} (h : OkR b) : fnd (norm b) = gt b := funext fun k => fnd_norm h k
set_option maxRecDepth 100000 in
set_option maxHeartbeats 4000000 in
theorem refLeq_is (A B : Option Addr) (n m cap cap2 : Nat) (a b : List Am) (r : Bool) (w : World) (h : RowV w A n cap a) (h2 : RowV w B m cap2 b) (hn : n ≤ 1000) (hm : m ≤ 1000) (hr : Hid (leq a b = r)) : Calls Tryz.prog 26 #[.slice A n cap, .slice B m cap2] w fun e w' => e = .returned (.bool r) ∧ Below w.heap.size w w' := by
  have hz := zero30
  have HJ := Lib.hid (show (norm a).all (leA (fnd (norm b))) = r by rw [fnd_norm' h2.ok]; exact hr.out)
  have H := Lib.hid h
  have J := Lib.hid h2
  clear h h2
  go_enter Tryz.func26, Tryz.ntmps26
  go_wp2_with fail
  refine (refNorm_is A n cap a _ H.out hn).mono ?_
  rintro e w1 ⟨⟨A1, n1, c1, rfl, r1⟩, b1⟩
  have B1 := Lib.hid b1
  have R1' := Lib.hid r1
  clear b1 r1
  go_wp2_with fail
  refine (refNorm_is B m cap2 b _ (J.out.below B1.out) hm).mono ?_
  rintro e w2 ⟨⟨A2, n2, c2, rfl, r2⟩, b2⟩
  have B2 := Lib.hid (step_ B1.out b2)
  have R1 := Lib.hid (R1'.out.below b2)
  have R2 := Lib.hid r2
  have hn1 : n1 ≤ 1000 := by have := norm_len a; rw [R1.out.len, H.out.len] at this; omega
  have hn2 : n2 ≤ 1000 := by have := norm_len b; rw [R2.out.len, J.out.len] at this; omega
  clear b2 r2 R1'
  obtain ⟨X, hX⟩ : ∃ X, norm a = X := ⟨_, rfl⟩
  obtain ⟨Y, hY⟩ : ∃ Y, norm b = Y := ⟨_, rfl⟩
  rw [hX] at R1 HJ
  rw [hY] at R2 HJ
  clear hX hY H J hr
  go_wp2_with fail
  go_loopw [5] (fun i wr => ∃ j : Nat, j ≤ n1 ∧ i = .int .i64 j ∧ (X.drop j).all (leA (fnd Y)) = r ∧ Below w2.heap.size w2 wr) (fun i _ => n1 - (intOf i).toNat)
  case atStart => exact ⟨0, Nat.zero_le _, rfl, HJ.out, Below.refl _ _⟩
  case round =>
    obtain ⟨j, hj, rfl, hf, hb⟩ := hrel
    have II := Lib.hid hf
    have BB := Lib.hid hb
    clear hf hb
    by_cases hlt : j < n1
    · obtain ⟨G, p, hE⟩ := R1.out.elem j hlt
      have E0 := Lib.hid hE
      have T := Lib.hid (drop_getD (l := X) (j := j) (by have := R1.out.len; omega))
      obtain ⟨x, hx⟩ : ∃ x, X.getD j azero = x := ⟨_, rfl⟩
      rw [hx] at E0 T
      clear hE hx
      have E := Lib.hid (E0.out.below BB.out)
      cases hf : fnd Y x.k with
      | none =>
        have HF := Lib.hid hf
        have HO := Lib.hid (show r = false by rw [← II.out, T.out, List.all_cons, leA_none hf]; rfl)
        clear hf
        go_wp2_with (first
          | go_skip
          | refine wpList_index rfl _ _ rfl A1 n1 c1 G p j x _ rfl rfl (by first | rfl | omega) E.out ?_
          | refine wpList_load_ky rfl _ rfl G p x.k rfl (range_ak E.out.rg) E.out.ok.k.ml ?_)
        refine (find_is A2 n2 c2 Y x.k none _ (R2.out.below BB.out) E.out.ok.k (by omega) HF).mono ?_
        rintro e w4 ⟨rfl, b4⟩
        replace E := Lib.hid (E.out.below b4)
        replace BB := Lib.hid (BB.out.trans (b4.mono BB.out.size))
        have Z := Lib.hid (blk_alloc w4 44 vzero.cells)
        clear b4
        simp only [Option.getD_none, Option.isSome_none]
        go_wp2_with (first
          | go_skip
          | (refine wpList_store_vl rfl _ _ rfl w4.heap.size vzero vzero rfl rfl Z.out rfl rfl ?_; intro w5 N5 O5))
        have B5 := Lib.hid (box_below O5.out)
        obtain ⟨g5, hg5⟩ : ∃ g5, g5 = w4.heap.size := ⟨_, rfl⟩
        have HG5 := Lib.hid hg5
        rw [← hg5] at N5 ⊢
        clear hg5
        replace E := Lib.hid (E.out.below B5.out)
        replace BB := Lib.hid (BB.out.trans (B5.out.mono BB.out.size))
        clear O5 Z
        go_wp2_with fail
        refine region_later (by kernel_rfl) (by kernel_rfl) ?_
        go_big_quiet_step (fail)
        go_big_quiet_step (fail)
        go_big_quiet_step (fail)
        go_big_quiet_step (fail)
        go_big_quiet_step (fail)
        go_big_quiet_step (fail)
        go_big_quiet_step (fail)
        go_big_quiet_step (fail)
        go_big_quiet_step (fail)
        go_big_quiet_step (fail)
        go_big_quiet_step (fail)
        go_big_quiet_step (fail)
        refine wpQuiet_nil ?_
        intro w6 hw6
        have B6 := Lib.hid (BB.out.trans (hw6.mono BB.out.size))
        clear hw6
        go_wp2_with fail
        go_ret
        exact ⟨ret_bool HO.out.symm, step_ B2.out B6.out⟩
      | some u =>
        have HF := Lib.hid hf
        have UO := Lib.hid (show u.Ok from fnd_ok R2.out.ok _ _ hf)
        cases ho : over u x.v with
        | false =>
          have HV := Lib.hid ho
          have HO := Lib.hid (show r = false by rw [← II.out, T.out, List.all_cons, leA_some hf, ho]; rfl)
          clear hf ho
          go_wp2_with (first
            | go_skip
            | refine wpList_index rfl _ _ rfl A1 n1 c1 G p j x _ rfl rfl (by first | rfl | omega) E.out ?_
            | refine wpList_load_ky rfl _ rfl G p x.k rfl (range_ak E.out.rg) E.out.ok.k.ml ?_)
          refine (find_is A2 n2 c2 Y x.k (some u) _ (R2.out.below BB.out) E.out.ok.k (by omega) HF).mono ?_
          rintro e w4 ⟨rfl, b4⟩
          replace E := Lib.hid (E.out.below b4)
          replace BB := Lib.hid (BB.out.trans (b4.mono BB.out.size))
          have Z := Lib.hid (blk_alloc w4 44 vzero.cells)
          clear b4
          simp only [Option.getD_some, Option.isSome_some]
          go_wp2_with (first
            | go_skip
            | (refine wpList_store_vl rfl _ _ rfl w4.heap.size vzero u rfl rfl Z.out rfl UO.out.tl ?_; intro w5 N5 O5))
          have B5 := Lib.hid (box_below O5.out)
          obtain ⟨g5, hg5⟩ : ∃ g5, g5 = w4.heap.size := ⟨_, rfl⟩
          have HG5 := Lib.hid hg5
          rw [← hg5] at N5 ⊢
          clear hg5
          replace E := Lib.hid (E.out.below B5.out)
          replace BB := Lib.hid (BB.out.trans (B5.out.mono BB.out.size))
          clear O5 Z
          go_wp2_with fail
          refine region_later (by kernel_rfl) (by kernel_rfl) ?_
          go_big_quiet_step (fail)
          go_big_quiet_step (fail)
          go_big_quiet_step (fail)
          (go_big_quiet_want; refine quiet_load_vl g5 0 u _ rfl rfl N5.out.range N5.out.lt UO.out.tl ?_; go_simp; go_big_quiet_on)
          go_big_quiet_step (fail)
          go_big_quiet_step (fail)
          (go_big_quiet_want; refine quiet_index _ _ rfl A1 n1 c1 G p j x _ rfl rfl (by first | rfl | omega) E.out ?_; go_simp; go_big_quiet_on)
          go_big_quiet_step (fail)
          (go_big_quiet_want; refine quiet_load_vl G (p + 12) x.v _ rfl rfl (range_av E.out.rg E.out.ok) E.out.blk E.out.ok.v.tl ?_; go_simp; go_big_quiet_on)
          go_big_quiet_step (exact later_call (refOver_is u x.v false _ UO.out E.out.ok.v HV))
          go_big_quiet_step (fail)
          go_big_quiet_step (fail)
          refine wpQuiet_nil ?_
          intro w6 hw6
          have B6 := Lib.hid (BB.out.trans (hw6.mono BB.out.size))
          clear hw6
          go_wp2_with fail
          go_ret
          exact ⟨ret_bool HO.out.symm, step_ B2.out B6.out⟩
        | true =>
          have HV := Lib.hid ho
          have HO := Lib.hid (show (X.drop (j + 1)).all (leA (fnd Y)) = r by rw [← II.out, T.out, List.all_cons, leA_some hf, ho, Bool.true_and])
          clear hf ho
          go_wp2_with (first
            | go_skip
            | refine wpList_index rfl _ _ rfl A1 n1 c1 G p j x _ rfl rfl (by first | rfl | omega) E.out ?_
            | refine wpList_load_ky rfl _ rfl G p x.k rfl (range_ak E.out.rg) E.out.ok.k.ml ?_)
          refine (find_is A2 n2 c2 Y x.k (some u) _ (R2.out.below BB.out) E.out.ok.k (by omega) HF).mono ?_
          rintro e w4 ⟨rfl, b4⟩
          replace E := Lib.hid (E.out.below b4)
          replace BB := Lib.hid (BB.out.trans (b4.mono BB.out.size))
          have Z := Lib.hid (blk_alloc w4 44 vzero.cells)
          clear b4
          simp only [Option.getD_some, Option.isSome_some]
          go_wp2_with (first
            | go_skip
            | (refine wpList_store_vl rfl _ _ rfl w4.heap.size vzero u rfl rfl Z.out rfl UO.out.tl ?_; intro w5 N5 O5))
          have B5 := Lib.hid (box_below O5.out)
          obtain ⟨g5, hg5⟩ : ∃ g5, g5 = w4.heap.size := ⟨_, rfl⟩
          have HG5 := Lib.hid hg5
          rw [← hg5] at N5 ⊢
          clear hg5
          replace E := Lib.hid (E.out.below B5.out)
          replace BB := Lib.hid (BB.out.trans (B5.out.mono BB.out.size))
          clear O5 Z
          go_wp2_with fail
          refine region_later (by kernel_rfl) (by kernel_rfl) ?_
          go_big_quiet_step (fail)
          go_big_quiet_step (fail)
          go_big_quiet_step (fail)
          (go_big_quiet_want; refine quiet_load_vl g5 0 u _ rfl rfl N5.out.range N5.out.lt UO.out.tl ?_; go_simp; go_big_quiet_on)
          go_big_quiet_step (fail)
          go_big_quiet_step (fail)
          (go_big_quiet_want; refine quiet_index _ _ rfl A1 n1 c1 G p j x _ rfl rfl (by first | rfl | omega) E.out ?_; go_simp; go_big_quiet_on)
          go_big_quiet_step (fail)
          (go_big_quiet_want; refine quiet_load_vl G (p + 12) x.v _ rfl rfl (range_av E.out.rg E.out.ok) E.out.blk E.out.ok.v.tl ?_; go_simp; go_big_quiet_on)
          go_big_quiet_step (exact later_call (refOver_is u x.v true _ UO.out E.out.ok.v HV))
          go_big_quiet_step (fail)
          go_big_quiet_step (fail)
          refine wpQuiet_nil ?_
          intro w6 hw6
          have B6 := Lib.hid (BB.out.trans (hw6.mono BB.out.size))
          clear hw6
          go_wp2_with fail
          go_roundw
          case rel => exact ⟨j + 1, by omega, by go_num, HO.out, B6.out⟩
          case measure => simp [intOf]; omega
    · obtain rfl : j = n1 := by omega
      have HO := Lib.hid (show r = true by rw [← II.out, List.drop_of_length_le (by have := R1.out.len; omega)]; rfl)
      go_wp2_with fail
      go_ret
      exact ⟨ret_bool HO.out.symm, step_ B2.out BB.out⟩
def MI (X : List Am) (f : Ky → Option Vl) (j : Nat) (out : List Am) : Prop := out ++ meetF (X.drop j) f = meetF X f
theorem meetF_len (X : List Am) (f : Ky → Option Vl) : (meetF X f).length ≤ X.length := List.length_filterMap_le ..
section
variable {X : List Am} {f : Ky → Option Vl} {j : Nat} {out : List Am} {x : Am}
theorem MI.len (h : MI X f j out) : out.length ≤ X.length := by
  have := meetF_len X f
  rw [← h, List.length_append] at this; omega
theorem MI.no (h : MI X f j out) (hd : X.drop j = x :: X.drop (j + 1)) (hf : f x.k = none) : MI X f (j + 1) out := by
  unfold MI at *; rw [← h, hd, meetF_cons, hf]
theorem MI.yes (h : MI X f j out) {u : Vl} (hd : X.drop j = x :: X.drop (j + 1)) (hf : f x.k = some u) : MI X f (j + 1) (out ++ [⟨x.k, under x.v u⟩]) := by
  unfold MI at *; rw [← h, hd, meetF_cons, hf]; simp
theorem MI.done (h : MI X f X.length out) : out = meetF X f := by
  unfold MI at *; rw [← h, List.drop_length]; simp [meetF]
end
end Go.Proofs.YteocfhbfdhokbaaGreat
namespace Go.Proofs.YteocfhbfdhokbaaGreat
open Go.RowKit Go.Shelf
attribute [local go_sem] Oper.semAt_some

theorem in_want {F : Fence} {n : Nat} {P : Program} {ops : Array Oper} {Q : Exit → Act → World → Prop} {a : Act} {w : World} {rest : List Oper} {o : Oper}
    (hw : Region.wanted o (yielded ops a.tmps) = true) (h : wpListIn F n P ops Q ({ o with guard := none } :: rest) a w) : wpListIn F n P ops Q (o :: rest) a w := by
  have hw2 : Region.wanted { o with guard := none } (yielded ops a.tmps) = true := by simp [Region.wanted]
  unfold wpListIn at h ⊢
  rw [if_pos hw2] at h
  rw [if_pos hw]
  exact h
theorem in_skip {F : Fence} (hF : Wide F) {n : Nat} {P : Program} {ops : Array Oper} {Q : Exit → Act → World → Prop} {a : Act} {w : World} {rest : List Oper} {o : Oper}
    (hw : Region.wanted o (yielded ops a.tmps) = false) (h : wpListIn F n P ops Q rest (a.put o.dst undef) w) : wpListIn F n P ops Q (o :: rest) a w := by
  unfold wpListIn
  rw [if_neg (by rw [hw]; decide)]
  exact ⟨fun f _ => wide_fn hF f, h⟩
theorem below_put {B i : Nat} {w w' : World} {o : Obj} (h : Below B w w') (hi : B ≤ i) : Below B w (w'.putObj i o) :=
  ⟨h.os, h.tape, h.output, by simpa using h.size, fun k hk => (World.putObj_heap_other (by omega)).trans (h.block k hk)⟩
theorem only_put {g i : Nat} {w w' : World} {o : Obj} (h : Only g w w') (hi : w.heap.size ≤ i) : Only g w (w'.putObj i o) :=
  ⟨h.os, h.tape, h.output, by simpa using h.size, fun k hk hn => (World.putObj_heap_other (by omega)).trans (h.block k hk hn)⟩
theorem blk_put {g t i : Nat} {w : World} {cs : List Value} {o : Obj} (h : Blk w g t cs) (hi : g ≠ i) : Blk (w.putObj i o) g t cs := (World.putObj_heap_other (by omega)).trans h
theorem exec_store_b {o : Oper} {a : Act} {w : World} (x y : Operand) (ho : o.op = .store 4 x y) (g : Nat) (u : Value) (b : Bool) (hx : a.eval x = .pointer (some ⟨g, 0, none⟩)) (hy : a.eval y = .bool b) (hb : Blk w g 4 [u]) :
    (execOp a.eval o).run Tryz.prog w = .ok .skip (w.setCell ⟨g, 0, none⟩ (.bool b)) := by
  have hc := hb.cell (i := 0) rfl
  have hf := hb.frozen 0
  unfold execOp
  simp only [ho, hx, hy]
  simp [go_sem, hc, hf]
theorem wpList_store_b {ops : Array Oper} {rest : List Oper} {op : Oper} {a : Act} {w : World} {Q : Exit → Act → World → Prop} (hgd : op.guard = none) (x y : Operand) (ho : op.op = .store 4 x y) (g : Nat) (u : Value) (b : Bool) (hx : a.eval x = .pointer (some ⟨g, 0, none⟩)) (hy : a.eval y = .bool b) (hb : Blk w g 4 [u])
    (h : ∀ w', Hid (Blk w' g 4 [.bool b]) → Hid (Only g w w') → wpList Tryz.prog ops Q rest (a.put op.dst undef) w') : wpList Tryz.prog ops Q (op :: rest) a w := by
  refine wpList_plain hgd fun K hK => ?_
  unfold Oper.wp
  rw [exec_store_b x y ho g u b hx hy hb]
  exact hK _ _ (h _ (Lib.hid (hb.set 0 (.bool b))) (Lib.hid (Only.set g 0 w (.bool b))))
theorem marks_ret {F : Fence} {n : Nat} {P : Program} {fn : Func} {R : Ending → World → Prop} {a : Act} {w : World} {v : Value} (D : Nat) (hd : a.defers = [{ target := .collected D, args := #[] }]) (hk : w.heap[D]? = some (.deferred (some [])))
    (hr : (results fn a.tmps).run P (w.putObj D (.deferred none)) = .ok v (w.putObj D (.deferred none))) (hR : R (.returned v) (w.putObj D (.deferred none))) : bodyPostM F n P fn R .ret a w := by
  show LeavesInM F n P fn a.tmps R a.defers .returning w
  rw [hd]
  exact ⟨by simp, .inl ⟨D, _, rfl, run_takeDeferred hk, v, hr, hR⟩⟩
theorem results_bool {fn : Func} {t : Tmp} (h : fn.results = #[.cell t 4]) (tmps : Array Value) (w : World) (g : Nat) (b : Bool) (hp : tmps.getD t undef = .pointer (some ⟨g, 0, none⟩)) (hb : Blk w g 4 [.bool b]) :
    (results fn tmps).run Tryz.prog w = .ok (.bool b) w := by
  have hc := hb.cell (i := 0) rfl
  have hq : tmps[t]?.getD undef = .pointer (some ⟨g, 0, none⟩) := by simpa using hp
  simp [results, h, hq, go_sem, hc]
set_option maxRecDepth 100000 in
set_option maxHeartbeats 4000000 in
theorem leq_is (A B : Option Addr) (n m cap cap2 : Nat) (a b : List Am) (r : Bool) (w : World) (h : RowV w A n cap a) (h2 : RowV w B m cap2 b) (hn : n ≤ 600) (hm : m ≤ 600) (hr : Hid (leq a b = r)) : Calls Tryz.prog 37 #[.slice A n cap, .slice B m cap2] w fun e w' => e = .returned (.bool r) ∧ Below w.heap.size w w' := by
  have W1 := Lib.hid (blk_alloc w 4 [.bool false])
  have B1 := Lib.hid (new_below w (.cells #[.bool false] 4))
  have RR := Lib.hid (show RowsV ((w.alloc (.cells #[.bool false] 4)).alloc (.cells #[.slice B m cap2] 28)) (some ⟨w.heap.size + 1, 0, none⟩) 1 1 [b] by have := rows_one (h2.below B1.out); rw [World.size_alloc] at this; exact this)
  have FF := Lib.hid (show FewR [b] from ⟨by simp, by simp; have := h2.len; omega⟩)
  have H := Lib.hid h
  have J := Lib.hid h2
  clear h h2
  refine (callsIn_wide (n := 10)).1 ?_
  refine callsIn_of_wp_marks Tryz.func37 rfl trivial ?_ rfl
  simp only [Tryz.ntmps37, List.size_toArray, List.length_cons, List.length_nil, Nat.reduceAdd, Nat.reduceSub, Array.replicate_succ, Array.replicate_zero, List.push_toArray, List.append_toArray, List.nil_append, List.cons_append]
  gi_wp2_with fail
  refine ⟨trivial, (callsIn_wide.2 (collect_is _ _ _ [b] _ RR.out FF.out)).mono ?_⟩
  rintro e w1 ⟨⟨bm, rfl, _, m1⟩, b1⟩
  have M1 := Lib.hid m1
  have B2 := Lib.hid ((step_ B1.out (new_below _ (.cells #[.slice B m cap2] 28))).trans (b1.mono (by simp; omega)))
  have W2 := Lib.hid ((W1.out.alloc (.cells #[.slice B m cap2] 28)).below b1)
  clear m1 b1 RR W1 B1
  gi_wp2_with fail
  have W3 := Lib.hid (W2.out.alloc (.cells #[.map (some bm)] 57))
  have W4 := Lib.hid (blk_alloc w1 57 [.map (some bm)])
  have B3 := Lib.hid (step_ B2.out (new_below w1 (.cells #[.map (some bm)] 57)))
  have M2 := Lib.hid (M1.out.below (new_below w1 (.cells #[.map (some bm)] 57)))
  refine ⟨trivial, (callsIn_wide.2 (each_is A n cap a _ (H.out.below B3.out) hn)).mono ?_⟩
  rintro e w2 ⟨⟨Bs, D, m1, c1, rfl, _, k1, r1⟩, b1⟩
  have K1 := Lib.hid k1
  have R1 := Lib.hid r1
  have W5 := Lib.hid (W3.out.below b1)
  have W6 := Lib.hid (W4.out.below b1)
  have M3 := Lib.hid (M2.out.below b1)
  have B4 := Lib.hid (step_ B3.out b1)
  have hm1 : m1 ≤ 1000 := by have := norm_len a; rw [r1.len, H.out.len] at this; omega
  clear k1 r1 b1 W2 W3 W4 B2 B3 M1 M2 FF J
  gi_wp2_with fail
  rename_i q0 _ K0 hK0 _
  have LT := Lib.hid (show w.heap.size < w2.heap.size from W5.out.lt)
  obtain ⟨f, hf⟩ : ∃ f, gt [b].flatten = f := ⟨_, rfl⟩
  have HR := Lib.hid (show (norm a).all (leA f) = r by rw [← hr.out, ← hf, List.flatten_singleton]; rfl)
  rw [hf] at M3
  clear hr hf
  obtain ⟨s, hs⟩ : ∃ s, norm a = s := ⟨_, rfl⟩
  rw [hs] at R1 HR
  clear hs H
  refine range_row (gf := 50) (lb := #[.pointer (some ⟨Bs, 0, none⟩)]) rfl (fun _ _ => rfl) (each_seq Bs D m1 c1 s hm1) rfl
    (fun pre V => Below w2.heap.size w2 V ∧ pre.all (leA f) = true)
    (fun V => Only w.heap.size w2 V ∧ Blk V w.heap.size 4 [.bool false] ∧ r = false)
    (fun pre V V' h hb => ⟨h.1.trans (hb.mono h.1.size), h.2⟩)
    (fun pre V o h => ⟨below_put h.1 (Nat.le_succ _), h.2⟩)
    (fun V o h => ⟨only_put h.1 (Nat.le_succ _), blk_put h.2.1 (by have := LT.out; omega), h.2.2⟩)
    (fun pre V h => ⟨K1.out.below h.1, R1.out.below h.1⟩)
    ⟨Below.refl _ _, rfl⟩
    (fun pre x a' V => ∃ g6 g7, a' = { tmps := #[.slice A n cap, .slice B m cap2, undef, undef, .pointer (some ⟨w.heap.size, 0, none⟩), .pointer (some ⟨w1.heap.size, 0, none⟩), .pointer (some ⟨g6, 0, none⟩), .pointer (some ⟨g7, 0, none⟩), undef, undef, .slice B m cap2, .slice (some ⟨w.heap.size + 1, 0, none⟩) 1 1, .map (some bm), .slice A n cap, .func (.func 50) #[] #[.pointer (some ⟨Bs, 0, none⟩)], .agg x.k.cells.toArray, .agg x.v.cells.toArray, undef, undef, undef, undef, undef, undef, undef, undef, undef, undef, undef, undef, undef, undef], defers := [] } ∧ w2.heap.size + 1 < g6 ∧ w2.heap.size + 1 < g7 ∧ Blk V g6 41 x.k.cells ∧ Blk V g7 44 x.v.cells ∧ Below w2.heap.size w2 V ∧ pre.all (leA f) = true)
    (fun pre x a' V o h => by
      obtain ⟨g6, g7, e, l6, l7, k6, k7, b, p⟩ := h
      exact ⟨g6, g7, e, l6, l7, blk_put k6 (by omega), blk_put k7 (by omega), below_put b (Nat.le_succ _), p⟩)
    ?assign ?body ?done ?stop
  case assign =>
    intro l pre x rest W K hsx hi hlt hK
    have XO := Lib.hid (R1.out.ok x (by rw [hsx]; simp))
    have HI := Lib.hid hi
    have Z1 := Lib.hid (blk_alloc W 41 kzero.cells)
    have hk0 := zero27
    have hv0 := zero30
    clear hi hsx
    simp only [encP, List.zip_toArray, List.zip_cons_cons, List.zip_nil_right, List.foldl_toArray', List.foldl_cons, List.foldl_nil, List.size_toArray, List.length_cons, List.length_nil, List.setIfInBounds_toArray, List.set_cons_zero, List.set_cons_succ]
    gi_wp2_with (first
      | (refine in_plain (wide_in l) rfl (by intro c h; cases h) ?_; refine wpList_store_ky rfl _ _ rfl W.heap.size kzero x.k rfl rfl Z1.out kzero_ok.ml XO.out.k.ml ?_; intro V1 N1 O1; refine in_done ?_; have Z2 := Lib.hid (blk_alloc V1 44 vzero.cells))
      | (refine in_plain (wide_in l) rfl (by intro c h; cases h) ?_; refine wpList_store_vl rfl _ _ rfl V1.heap.size vzero x.v rfl rfl Z2.out rfl XO.out.v.tl ?_; intro V2 N2 O2; refine in_done ?_))
    exact hK _ _ (KeepL.below (step_ (box_below O1.out) (box_below O2.out)) hlt) ⟨_, _, rfl, hlt, by have := (box_below O1.out).size; omega, N1.out.below (box_below O2.out), N2.out, HI.out.1.trans ((step_ (box_below O1.out) (box_below O2.out)).mono HI.out.1.size), HI.out.2⟩
  case body =>
    intro l pre x rest a' W hsx hax hlt
    obtain ⟨g6, g7, rfl, l6, l7, k6, k7, b, p⟩ := hax
    have XO := Lib.hid (R1.out.ok x (by rw [hsx]; simp))
    have K6 := Lib.hid k6
    have K7 := Lib.hid k7
    have BB := Lib.hid b
    have PP := Lib.hid p
    have SX := Lib.hid hsx
    have Z1 := Lib.hid (blk_alloc W 44 vzero.cells)
    have hv0 := zero30
    have c0 := (W6.out.below b).cell (i := 0) rfl
    have c4 := (W5.out.below b).cell (i := 0) rfl
    have HLT := Lib.hid hlt
    clear b p k6 k7 hsx hlt
    cases hf : f x.k with
    | none =>
      have HF := Lib.hid hf
      have RF := Lib.hid (show r = false by rw [← HR.out, SX.out, List.all_append, List.all_cons, leA_none hf]; simp)
      clear hf
      gi_wp2_with (first
        | (refine in_skip (wide_in l) rfl ?_)
        | (refine in_plain (wide_in l) rfl (by intro c h; cases h) ?_; refine wpList_load_ky rfl _ rfl g6 0 x.k rfl K6.out.range XO.out.k.ml ?_; refine in_done ?_)
        | (refine in_plain (wide_in l) rfl (by intro c h; cases h) ?_; refine wpList_lookup_okF rfl _ _ rfl bm 1000 f x.k (none) rfl rfl (M3.out.below BB.out) XO.out.k HF.out ?_; refine in_done ?_)
        | (refine in_plain (wide_in l) rfl (by intro c h; cases h) ?_; refine wpList_store_vl rfl _ _ rfl W.heap.size vzero vzero rfl rfl Z1.out rfl rfl ?_; intro V1 N1 O1; refine in_done ?_; have Q1 := Lib.hid (box_below O1.out))
        | (refine in_plain (wide_in l) rfl (by intro c h; cases h) ?_; refine wpList_store_b rfl _ _ rfl w.heap.size (.bool false) false rfl rfl ((W5.out.below BB.out).below Q1.out) ?_; intro V3 N3 O3; refine in_done ?_))
      exact ⟨(KeepL.below Q1.out HLT.out).trans (KeepL.only O3.out (by have := LT.out; omega) (by have := LT.out; omega) (by have := Q1.out.size; have := HLT.out; omega)), ((Only.of_below BB.out).trans (Only.of_below Q1.out)).trans O3.out, N3.out, RF.out⟩
    | some u =>
      have HF := Lib.hid hf
      have UO := Lib.hid (M3.out.ok.v _ _ hf)
      have LA := Lib.hid (leA_some hf)
      clear hf
      cases ho : over u x.v with
      | false =>
        have HO := Lib.hid ho
        have RF := Lib.hid (show r = false by rw [← HR.out, SX.out, List.all_append, List.all_cons, LA.out, ho]; simp)
        clear ho
        gi_wp2_with (first
          | (refine in_plain (wide_in l) rfl (by intro c h; cases h) ?_; refine wpList_load_ky rfl _ rfl g6 0 x.k rfl K6.out.range XO.out.k.ml ?_; refine in_done ?_)
          | (refine in_plain (wide_in l) rfl (by intro c h; cases h) ?_; refine wpList_lookup_okF rfl _ _ rfl bm 1000 f x.k (some u) rfl rfl (M3.out.below BB.out) XO.out.k HF.out ?_; refine in_done ?_)
          | (refine in_plain (wide_in l) rfl (by intro c h; cases h) ?_; refine wpList_store_vl rfl _ _ rfl W.heap.size vzero u rfl rfl Z1.out rfl UO.out.tl ?_; intro V1 N1 O1; refine in_done ?_; have Q1 := Lib.hid (box_below O1.out))
          | (refine in_want rfl ?_; refine in_plain (wide_in l) rfl (by intro c h; cases h) ?_; refine wpList_load_vl rfl _ rfl W.heap.size 0 u rfl N1.out.range UO.out.tl ?_; refine in_done ?_)
          | (refine in_want rfl ?_; refine in_plain (wide_in l) rfl (by intro c h; cases h) ?_; refine wpList_load_vl rfl _ rfl g7 0 x.v rfl (K7.out.below Q1.out).range XO.out.v.tl ?_; refine in_done ?_))
        refine ⟨trivial, (CallsIn.inRound l (callsIn_wide.2 (over_is u x.v false _ UO.out XO.out.v HO))).mono ?_⟩
        rintro e V2 ⟨rfl, b2⟩
        have Q2 := Lib.hid (step_ Q1.out b2)
        clear b2
        gi_wp2_with (first
          | (refine in_plain (wide_in l) rfl (by intro c h; cases h) ?_; refine wpList_store_b rfl _ _ rfl w.heap.size (.bool false) false rfl rfl ((W5.out.below BB.out).below Q2.out) ?_; intro V3 N3 O3; refine in_done ?_))
        exact ⟨(KeepL.below Q2.out HLT.out).trans (KeepL.only O3.out (by have := LT.out; omega) (by have := LT.out; omega) (by have := Q2.out.size; have := HLT.out; omega)), ((Only.of_below BB.out).trans (Only.of_below Q2.out)).trans O3.out, N3.out, RF.out⟩
      | true =>
        have HO := Lib.hid ho
        have RT := Lib.hid (show (pre ++ [x]).all (leA f) = true by rw [List.all_append, List.all_cons, LA.out, ho, PP.out]; rfl)
        clear ho
        gi_wp2_with (first
          | (refine in_plain (wide_in l) rfl (by intro c h; cases h) ?_; refine wpList_load_ky rfl _ rfl g6 0 x.k rfl K6.out.range XO.out.k.ml ?_; refine in_done ?_)
          | (refine in_plain (wide_in l) rfl (by intro c h; cases h) ?_; refine wpList_lookup_okF rfl _ _ rfl bm 1000 f x.k (some u) rfl rfl (M3.out.below BB.out) XO.out.k HF.out ?_; refine in_done ?_)
          | (refine in_plain (wide_in l) rfl (by intro c h; cases h) ?_; refine wpList_store_vl rfl _ _ rfl W.heap.size vzero u rfl rfl Z1.out rfl UO.out.tl ?_; intro V1 N1 O1; refine in_done ?_; have Q1 := Lib.hid (box_below O1.out))
          | (refine in_want rfl ?_; refine in_plain (wide_in l) rfl (by intro c h; cases h) ?_; refine wpList_load_vl rfl _ rfl W.heap.size 0 u rfl N1.out.range UO.out.tl ?_; refine in_done ?_)
          | (refine in_want rfl ?_; refine in_plain (wide_in l) rfl (by intro c h; cases h) ?_; refine wpList_load_vl rfl _ rfl g7 0 x.v rfl (K7.out.below Q1.out).range XO.out.v.tl ?_; refine in_done ?_))
        refine ⟨trivial, (CallsIn.inRound l (callsIn_wide.2 (over_is u x.v true _ UO.out XO.out.v HO))).mono ?_⟩
        rintro e V2 ⟨rfl, b2⟩
        have Q2 := Lib.hid (step_ Q1.out b2)
        clear b2
        gi_wp2_with fail
        exact ⟨KeepL.below Q2.out HLT.out, BB.out.trans (Q2.out.mono BB.out.size), by simpa using RT.out⟩
  case done =>
    intro D W hD hi hd
    have RT := Lib.hid (show r = true by rw [← HR.out]; exact hi.2)
    have BB := Lib.hid hi.1
    have HD := Lib.hid hd
    clear hi hd
    show K0 _ _
    refine hK0 _ _ ?_
    gi_wp2_with (refine in_plain wide_no rfl (by intro c h; cases h) ?_; refine wpList_store_b rfl _ _ rfl w.heap.size (.bool false) true rfl rfl (W5.out.below BB.out) ?_; intro V3 N3 O3; refine in_done ?_)
    have B5 := Lib.hid (show Below w.heap.size w V3 from (B4.out.trans (BB.out.mono (Nat.le_of_lt LT.out))).trans (O3.out.below (Nat.le_refl _) (Nat.le_trans (Nat.le_of_lt LT.out) BB.out.size)))
    refine marks_ret D rfl ((O3.out.block D (Array.getElem?_eq_some_iff.1 HD.out).1 (by have := LT.out; omega)).trans HD.out) (results_bool rfl _ _ w.heap.size true rfl (blk_put N3.out (by have := LT.out; omega))) ?_
    exact ⟨by rw [RT.out], below_put B5.out (by have := LT.out; omega)⟩
  case stop =>
    intro D W hD hx hd
    have XX := Lib.hid hx
    have HD := Lib.hid hd
    clear hx hd
    gi_wp2_with fail
    have B5 := Lib.hid (show Below w.heap.size w W from B4.out.trans (XX.out.1.below (Nat.le_refl _) (Nat.le_of_lt LT.out)))
    refine marks_ret D rfl HD.out (results_bool rfl _ _ w.heap.size false rfl (blk_put XX.out.2.1 (by have := LT.out; omega))) ?_
    exact ⟨by rw [XX.out.2.2], below_put B5.out (by have := LT.out; omega)⟩
end Go.Proofs.YteocfhbfdhokbaaGreat
namespace Go.Proofs.YteocfhbfdhokbaaGreat
open Go.RowKit Go.Shelf
attribute [local go_sem] Oper.semAt_some

theorem only_below {g B : Nat} {w a b : World} (h : Only g w a) (hb : Below B a b) (hB : w.heap.size ≤ B) : Only g w b :=
  ⟨hb.os.trans h.os, hb.tape.trans h.tape, hb.output.trans h.output, Nat.le_trans h.size hb.size, fun k hk hn => (hb.block k (by omega)).trans (h.block k hk hn)⟩
theorem grown_blk {w w' : World} {row : Option Nat} {g t : Nat} {cs : List Value} (h : Blk w g t cs) (hg : w.grownBy w' row) (hn : row ≠ some g) : Blk w' g t cs := (hg.block g h.lt (fun e => hn e.symm)).trans h
theorem OwnR.ne {w : World} {B : Nat} {v : Value} {l : List Am} {g t : Nat} {cs : List Value} (h : OwnR w B v l) (hb : Blk w g t cs) (ht : t ≠ 46) : v.ownBlock ≠ some g := by
  rcases h.row.2 with ⟨rfl, _⟩ | ⟨g', cap, cur, rfl, _, hg, _⟩
  · simp [Value.ownBlock]
  · intro e
    obtain rfl : g' = g := by simpa [Value.ownBlock] using e
    unfold Blk at hb
    rw [hg] at hb
    simp only [Option.some.injEq, Obj.cells.injEq] at hb
    exact ht hb.2.1.symm
theorem OwnR.ned {w : World} {B : Nat} {v : Value} {l : List Am} {i : Nat} {d : Option (List Deferred)} (h : OwnR w B v l) (hb : w.heap[i]? = some (.deferred d)) : v.ownBlock ≠ some i := by
  rcases h.row.2 with ⟨rfl, _⟩ | ⟨g', cap, cur, rfl, _, hg, _⟩
  · simp [Value.ownBlock]
  · intro e
    obtain rfl : g' = i := by simpa [Value.ownBlock] using e
    rw [hg] at hb
    cases hb
theorem OwnR.put {w : World} {B : Nat} {v : Value} {l : List Am} {i : Nat} {o : Obj} (h : OwnR w B v l) (hn : v.ownBlock ≠ some i) : OwnR (w.putObj i o) B v l :=
  ⟨h.ok, h.row.kept (row := some i) ⟨rfl, rfl, rfl, by simp, fun k _ hn => World.putObj_heap_other (fun e => hn (by rw [e]))⟩ (.inr hn)⟩
theorem OwnR.ge {w : World} {B : Nat} {v : Value} {l : List Am} {i : Nat} (h : OwnR w B v l) (hi : i < B) : v.ownBlock ≠ some i := fun e => by have := (h.row.lt i e).1; omega
theorem RowV.only {w w' : World} {A D : Option Addr} {n cap g m c : Nat} {l : List Am} (h : RowV w A n cap l) (ho : Only g w w') (hb : Blk w g 28 [.slice D m c]) : RowV w' A n cap l :=
  ⟨h.ok, h.len, h.le, h.most, fun h0 => by
    obtain ⟨G, off, ha, hG, hr⟩ := h.at_ h0
    have hne : G ≠ g := by
      rintro rfl
      have h1 := hr 0 (by rw [h.len]; exact h0) 0 _ (by rw [Am.cells, List.getElem?_append_left (by rw [kcells_len (h.ok _ (List.getElem_mem _)).k.ml]; omega)]; exact kc0 _)
      rw [cell_of_row _ G _ _ 28 (0, 0) hb] at h1
      obtain ⟨hi, e⟩ := Array.getElem?_eq_some_iff.1 h1
      simp only [List.size_toArray, List.length_singleton] at hi
      obtain rfl : off = 0 := by omega
      simp at e
    refine ⟨G, off, ha, Nat.lt_of_lt_of_le hG ho.size, fun i hi j v hv => ?_⟩
    have h1 := hr i hi j v hv
    unfold World.cell? at *
    rw [show w'.heap[(⟨G, off + i * 21 + j, none⟩ : Addr).block]? = w.heap[(⟨G, off + i * 21 + j, none⟩ : Addr).block]? from ho.block G hG hne]
    exact h1⟩
theorem meetF_snoc (pre : List Am) (x : Am) (f : Ky → Option Vl) : meetF (pre ++ [x]) f = meetF pre f ++ (match f x.k with | none => [] | some u => [⟨x.k, under x.v u⟩]) := by
  unfold meetF
  rw [List.filterMap_append]
  congr 1
  rw [List.filterMap_cons, List.filterMap_nil]
  unfold meetA
  cases f x.k <;> rfl
theorem exec_load22 {o : Oper} {a : Act} {w : World} (x : Operand) (ho : o.op = .load 28 x) (g : Nat) (D : Option Addr) (m c : Nat) (hx : a.eval x = .pointer (some ⟨g, 0, none⟩)) (hb : Blk w g 28 [.slice D m c]) :
    (execOp a.eval o).run Tryz.prog w = .ok (.value (.slice D m c)) w := by
  have hc := hb.cell (i := 0) rfl
  unfold execOp
  simp only [ho, hx]
  simp [go_sem, hc]
theorem exec_store22 {o : Oper} {a : Act} {w : World} (x y : Operand) (ho : o.op = .store 28 x y) (g : Nat) (u : Value) (D : Option Addr) (m c : Nat) (hx : a.eval x = .pointer (some ⟨g, 0, none⟩)) (hy : a.eval y = .slice D m c) (hb : Blk w g 28 [u]) :
    (execOp a.eval o).run Tryz.prog w = .ok .skip (w.setCell ⟨g, 0, none⟩ (.slice D m c)) := by
  have hc := hb.cell (i := 0) rfl
  have hf := hb.frozen 0
  unfold execOp
  simp only [ho, hx, hy]
  simp [go_sem, hc, hf]
section
variable {ops : Array Oper} {Q : Exit → Act → World → Prop} {md : Region.Mode} {S : World → Prop} {fuel : Nat} {listed : Array Bool} {a : Act} {w : World} {i : Nat} {o : Oper} {rs : List Nat}
theorem ready_load22 (ho : ops[i]? = some o) (hg : o.guard = none) (x : Operand) (hop : o.op = .load 28 x) (g : Nat) (D : Option Addr) (m c : Nat) (hx : a.eval x = .pointer (some ⟨g, 0, none⟩)) (hb : Blk w g 28 [.slice D m c])
    (h : S w ∧ wpAnyH Tryz.prog md ops Q S fuel (listed.setIfInBounds i true) (a.put o.dst (.slice D m c)) w)
    (hs : AllReadyH Tryz.prog md ops Q S fuel listed a w rs) : AllReadyH Tryz.prog md ops Q S fuel listed a w (i :: rs) := by
  refine AllReadyH.cons ho (fun K hK => ?_) hs
  have hw : Region.wanted o (yielded ops a.tmps) = true := by simp [Region.wanted, hg]
  rw [if_pos hw]
  unfold Oper.wp
  rw [exec_load22 x hop g D m c hx hb]
  exact hK.out _ _ h.1 (fun _ => h.2)
theorem ready_store22 (ho : ops[i]? = some o) (hg : o.guard = none) (x y : Operand) (hop : o.op = .store 28 x y) (g : Nat) (u : Value) (D : Option Addr) (m c : Nat) (hx : a.eval x = .pointer (some ⟨g, 0, none⟩)) (hy : a.eval y = .slice D m c) (hb : Blk w g 28 [u])
    (h : ∀ w', Blk w' g 28 [.slice D m c] → Only g w w' → S w' ∧ wpAnyH Tryz.prog md ops Q S fuel (listed.setIfInBounds i true) (a.put o.dst undef) w')
    (hs : AllReadyH Tryz.prog md ops Q S fuel listed a w rs) : AllReadyH Tryz.prog md ops Q S fuel listed a w (i :: rs) := by
  refine AllReadyH.cons ho (fun K hK => ?_) hs
  have hw : Region.wanted o (yielded ops a.tmps) = true := by simp [Region.wanted, hg]
  rw [if_pos hw]
  have H := h _ (hb.set 0 (.slice D m c)) (Only.set g 0 w (.slice D m c))
  unfold Oper.wp
  rw [exec_store22 x y hop g u D m c hx hy hb]
  exact hK.out _ _ H.1 (fun _ => H.2)
end
/-- What the region of an append holds all along. -/
structure MS (g7 g8 g9 : Nat) (k : Ky) (v u : Vl) (W : World) : Prop where
  k : Blk W g7 41 k.cells
  v : Blk W g8 44 v.cells
  u : Blk W g9 44 u.cells
theorem MS.below {g7 g8 g9 : Nat} {k : Ky} {v u : Vl} {W W' : World} (h : MS g7 g8 g9 k v u W) (hb : Below W.heap.size W W') : MS g7 g8 g9 k v u W' := ⟨h.k.below hb, h.v.below hb, h.u.below hb⟩
theorem MS.only {g7 g8 g9 g : Nat} {k : Ky} {v u : Vl} {W W' : World} (h : MS g7 g8 g9 k v u W) (hb : Only g W W') (h7 : g < g7) (h8 : g < g8) (h9 : g < g9) : MS g7 g8 g9 k v u W' := ⟨h.k.only hb (by omega), h.v.only hb (by omega), h.u.only hb (by omega)⟩
theorem MS.app {g7 g8 g9 B : Nat} {k : Ky} {v u : Vl} {W W' : World} {s : Value} {l : List Am} (h : MS g7 g8 g9 k v u W) (ho : OwnR W B s l) (hg : W.grownBy W' s.ownBlock) : MS g7 g8 g9 k v u W' :=
  ⟨grown_blk h.k hg (ho.ne h.k (by decide)), grown_blk h.v hg (ho.ne h.v (by decide)), grown_blk h.u hg (ho.ne h.u (by decide))⟩
/-- What a round of Meet finds and leaves. -/
def MM (g B : Nat) (w0 : World) (l : List Am) (V : World) : Prop := ∃ D m c, Blk V g 28 [.slice D m c] ∧ OwnR V B (.slice D m c) l ∧ Only g w0 V
end Go.Proofs.YteocfhbfdhokbaaGreat
