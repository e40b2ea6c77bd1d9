/- Each of package cart, and Carts: the carts that have a line or a text, increasing. -/
import Derived.Test.YtijfbhdbfplghaaGreatH48
namespace Go.Proofs.YtijfbhdbfplghaaGreat
open Go.RowKit Go.Shelf Go.Maps
attribute [local go_sem] Oper.semAt_some
theorem exec_storeM {o : Oper} {a : Act} {w : World} (x y : Operand) (ho : o.op = .store 70 x y) (g : Nat) (u : Value) (b : Nat) (hx : a.eval x = .pointer (some ⟨g, 0, none⟩)) (hy : a.eval y = .map (some b)) (hb : Blk w g 70 [u]) :
    (execOp a.eval o).run Tryz.prog w = .ok .skip (w.setCell ⟨g, 0, none⟩ (.map (some b))) := by
  have hc := hb.cell (i := 0) rfl
  have hf := hb.frozen 0
  unfold execOp
  simp only [ho, hx, hy]
  simp [go_sem, hc, hf]
theorem wpList_storeM {ops : Array Oper} {rest : List Oper} {op : Oper} {a : Act} {w : World} {Q : Exit → Act → World → Prop} (hgd : op.guard = none) (x y : Operand) (ho : op.op = .store 70 x y) (g : Nat) (u : Value) (b : Nat) (hx : a.eval x = .pointer (some ⟨g, 0, none⟩)) (hy : a.eval y = .map (some b)) (hb : Blk w g 70 [u])
    (h : ∀ w', Hid (Blk w' g 70 [.map (some b)]) → Hid (Only g w w') → wpList Tryz.prog ops Q rest (a.put op.dst undef) w') : wpList Tryz.prog ops Q (op :: rest) a w := by
  refine wpList_plain hgd fun K hK => ?_
  unfold Oper.wp
  rw [exec_storeM x y ho g u b hx hy hb]
  exact hK _ _ (h _ (Lib.hid (hb.set 0 (.map (some b)))) (Lib.hid (Only.set g 0 w (.map (some b)))))
set_option maxRecDepth 100000 in
theorem each17_is (A : Option Addr) (n cap : Nat) (a : List Am) (w : World) (h : RowV w A n cap a) (hl : n ≤ 600) : Calls Tryz.prog 17 #[.slice A n cap] w fun e w' => (∃ gm b, e = .returned (.func (.func 36) #[] #[.pointer (some ⟨gm, 0, none⟩)]) ∧ w.heap.size ≤ gm ∧ Blk w' gm 70 [.map (some b)] ∧ Grps w' w.heap.size b n (fun x : Am => x.k.c) a) ∧ Below w.heap.size w w' := by
  have H := Lib.hid h
  clear h
  go_enter Tryz.func17, Tryz.ntmps17
  go_wp2_with fail
  refine (groupC_is A n cap a _ H.out (by omega)).mono ?_
  rintro e w1 ⟨b, rfl, g1, b1⟩
  have G1 := Lib.hid g1
  have B1 := Lib.hid b1
  have Z1 := Lib.hid (blk_alloc w1 70 [.map none])
  clear g1 b1
  go_wp2_with (refine wpList_storeM rfl _ _ rfl w1.heap.size (.map none) b rfl rfl Z1.out ?_; intro w2 N2 O2)
  have B2 := Lib.hid (box_below O2.out)
  go_ret
  exact ⟨⟨w1.heap.size, b, rfl, B1.out.size, N2.out, G1.out.below B2.out⟩, step_ B1.out B2.out⟩
theorem only_off {g h : Nat} {w a b : World} (h1 : Only g w a) (h2 : Only h a b) (hh : w.heap.size ≤ h) : Only g w b :=
  ⟨h2.os.trans h1.os, h2.tape.trans h1.tape, h2.output.trans h1.output, Nat.le_trans h1.size h2.size, fun k hk hn => (h2.block k (Nat.lt_of_lt_of_le hk h1.size) (by omega)).trans (h1.block k hk hn)⟩
/-- What a round of Carts finds and leaves. -/
def CarI (g3 : Nat) (w1 : World) (M B : Nat) (pre : List (Int × Value)) (V : World) : Prop := ∃ D m c, Blk V g3 34 [.slice D m c] ∧ OwnN V B (.slice D m c) (pre.map (·.1)) ∧ Only g3 w1 V ∧ pre.length ≤ M
set_option maxRecDepth 100000 in
set_option maxHeartbeats 8000000 in
theorem carts17_is (A : Option Addr) (n cap : Nat) (a : List Am) (w : World) (h : RowV w A n cap a) (hl : n ≤ 600) : Calls Tryz.prog 16 #[.slice A n cap] w fun e w' => (∃ v, e = .returned v ∧ OwnN w' w.heap.size v (cartsQ a)) ∧ Below w.heap.size w w' := by
  obtain ⟨g3, hg3⟩ : ∃ g3, w.heap.size = g3 := ⟨_, rfl⟩
  have Q0 := Lib.hid (blk_alloc w 34 [.slice none 0 0])
  have B0 := Lib.hid (new_below w (.cells #[.slice none 0 0] 34))
  have H0 := Lib.hid (h.below B0.out)
  have OA := Lib.hid h.ok
  have AL := Lib.hid h.len
  clear h
  refine (callsIn_wide (n := 10)).1 ?_
  refine callsIn_of_wp_marks Tryz.func16 rfl trivial ?_ rfl
  simp only [Tryz.ntmps16, List.size_toArray, List.length_cons, List.length_nil, Nat.reduceAdd, Nat.reduceSub, Array.replicate_succ, Array.replicate_zero, List.push_toArray, List.append_toArray, List.nil_append, List.cons_append]
  gi_wp2_with fail
  refine ⟨trivial, (callsIn_wide.2 (each17_is A n cap a _ H0.out hl)).mono ?_⟩
  rintro e w1 ⟨⟨gm, b, rfl, lgm, kM, gM⟩, b1⟩
  have Q1 := Lib.hid (show Blk w1 g3 34 [.slice none 0 0] by rw [← hg3]; exact Q0.out.below b1)
  have B1 := Lib.hid (step_ B0.out b1)
  have HE : (w.alloc (.cells #[.slice none 0 0] 34)).heap.size = g3 + 1 := by rw [← hg3]; simp
  rw [HE] at lgm gM
  have LM := Lib.hid lgm
  have KM := Lib.hid kM
  have GM := Lib.hid gM
  have G3 := Lib.hid (show g3 < w1.heap.size from Q1.out.lt)
  have HW := Lib.hid hg3
  clear b1 lgm kM gM HE Q0 B0 H0 hg3
  gi_wp2_with fail
  rename_i K0 hK0
  have HN := Lib.hid (show ∀ V, Only g3 w1 V → Blk V gm 70 [.map (some b)] ∧ Grps V (g3 + 1) b n (fun x : Am => x.k.c) a from fun V ho => ⟨KM.out.only ho (by have := LM.out; omega), GM.out.only ho (by omega)⟩)
  refine range_gen (gf := 36) (lb := #[.pointer (some ⟨gm, 0, none⟩)]) rfl (fun _ _ => rfl) (each_seqY gm (g3 + 1) b n a OA.out (fun V => Only g3 w1 V) hl (by have := AL.out; omega) HN.out) (fun _ => rfl)
    (fun B pre V => CarI g3 w1 n B pre V)
    (fun V => False)
    (fun B pre V V' h hb => by obtain ⟨D, m, c, h1, h2, h3, h4⟩ := h; exact ⟨D, m, c, h1.below hb, h2.below hb, only_later h3 hb, h4⟩)
    (fun B pre V V' h9 h ho hg hB => by
      obtain ⟨D, m, c, h1, h2, h3, h4⟩ := h
      have := G3.out
      exact ⟨D, m, c, h1.only ho (by omega), h2.only ho (h2.geS hB), only_off h3 ho (by omega), h4⟩)
    (fun B pre V o hB h => by
      obtain ⟨D, m, c, h1, h2, h3, h4⟩ := h
      have := G3.out
      exact ⟨D, m, c, blk_put h1 (by omega), h2.putS (h2.geS (by omega)), only_put h3 (by omega), h4⟩)
    (fun V o h => h.elim)
    (fun V V' g h _ _ => h.elim)
    (fun B pre V h => by obtain ⟨D, m, c, h1, h2, h3, h4⟩ := h; exact h3)
    (fun V hb => only_later (only_refl g3 w1) hb)
    (fun B V hB hV hb => ⟨none, 0, 0, Q1.out.below hb, ownN_nil _ _, only_later (only_refl g3 w1) hb, Nat.zero_le _⟩)
    (fun B pre x a' V => ((0 ≤ x.1 ∧ x.1 < 65536) ∧ pre.length < n) ∧ a' = { tmps := #[.slice A n cap, undef, .slice none 0 0, .pointer (some ⟨g3, 0, none⟩), .int .u16 x.1, .slice A n cap, .func (.func 36) #[] #[.pointer (some ⟨gm, 0, none⟩)], .int .u16 x.1, x.2, undef, undef, undef, undef, undef], defers := [] } ∧ CarI g3 w1 n B pre V)
    (fun B pre x a' V o hB h => by
      obtain ⟨hx, e, D, m, c, h1, h2, h3, h4⟩ := h
      have := G3.out
      exact ⟨hx, e, D, m, c, blk_put h1 (by omega), h2.putS (h2.geS (by omega)), only_put h3 (by omega), h4⟩)
    ?assign ?body ?done ?stop
  case assign =>
    intro l B pre x W K hnx hi hB hB2 hlt hK
    have XO := Lib.hid hnx
    have HI := Lib.hid hi
    clear hi hnx
    simp only [encCV, List.zip_toArray, List.zip_cons_cons, List.zip_nil_right, List.foldl_toArray', List.foldl_cons, List.foldl_nil, List.size_toArray, List.length_cons, List.length_nil, List.setIfInBounds_toArray, List.set_cons_zero, List.set_cons_succ]
    gi_wp2_with fail
    obtain ⟨D, m, c, h1, h2, h3, h4⟩ := HI.out
    exact hK _ _ (Below.refl _ _) ⟨XO.out, by first | rfl | (trace_state; rfl), D, m, c, h1, h2, h3, h4⟩
  case body =>
    intro l B pre x a' W hnx hax hB hB2 hlt
    obtain ⟨hx, rfl, D, m, c, h1, h2, h3, h4⟩ := hax
    have XO := Lib.hid hx
    have H1 := Lib.hid h1
    have H2 := Lib.hid h2
    have H3 := Lib.hid h3
    have LB := Lib.hid hB
    have LB2 := Lib.hid hB2
    have PL := Lib.hid (show (pre.map (·.1)).length + [x.1].length ≤ 30000 by rw [List.length_map]; simp; omega)
    have c0 := h1.cell (i := 0) rfl
    clear hx h1 h2 h3 hB hB2 h4
    gi_wp2_with (first
      | (refine in_plain (wide_in l) rfl (by intro c h; cases h) ?_; refine wpList_num1 Tryz.underlying34 rfl _ rfl x.1 rfl XO.out.1 ?_; intro g6 w6 e6 N6 B6; refine in_done ?_)
      | (refine in_plain (wide_in l) rfl (by intro c h; cases h) ?_; refine wpList_app_n Tryz.underlying34 rfl _ _ rfl B (.slice D m c) (.slice (some ⟨g6, 0, none⟩) 1 1) (pre.map (·.1)) [x.1] rfl rfl (H2.out.below B6.out) N6.out PL.out (Nat.le_trans LB2.out B6.out.size) ?_; intro D7 m7 c7 w7 e7 O7 B7 G7; refine in_done ?_)
      | (refine in_plain (wide_in l) rfl (by intro c h; cases h) ?_; refine wpList_storeS rfl _ _ rfl g3 (.slice D m c) D7 m7 c7 rfl rfl ((H1.out.below B6.out).upto B7.out (by have := LB.out; have := G3.out; omega)) ?_; intro w8 N8 O8; refine in_done ?_))
    have BW := Lib.hid (show Below B W w7 from (B6.out.mono LB2.out).trans B7.out)
    have G3' := G3.out
    have LB' := LB.out
    refine ⟨?_, fun k hk1 hk2 => ?_, D7, m7, c7, N8.out, ?_, ?_, ?_⟩
    · exact (KeepL.below BW.out (by omega)).trans (KeepL.only O8.out (by omega) (by omega) (by have := BW.out.size; have := LB2.out; omega))
    · exact (O8.out.block k (by have := BW.out.size; have := LB2.out; omega) (by omega)).trans (BW.out.block k hk2)
    · rw [List.map_append]; exact O7.out.only O8.out (O7.out.geS (by omega))
    · exact (only_below H3.out BW.out (by omega)).trans O8.out
    · rw [List.length_append, List.length_singleton]; have := XO.out.2; omega
  case done =>
    intro D B s W hD hD2 hB hf hi hd
    obtain ⟨D1, m1, c1, h1, h2, h3, h4⟩ := hi
    have F := Lib.hid (show s.map (·.1) = cartsQ a from hf)
    have OW := Lib.hid h2
    have H3 := Lib.hid h3
    have c0 := h1.cell (i := 0) rfl
    have HD := Lib.hid hd
    have LB := Lib.hid hB
    have LD := Lib.hid (And.intro hD hD2)
    clear hd h1 h2 h3 hf h4 hB hD hD2
    show K0 _ _
    refine hK0 _ _ ?_
    gi_wp2_with fail
    refine marks_ret D rfl HD.out (results_tmp rfl _ _ _) ?_
    have LB' := LB.out
    have LD' := LD.out
    have G3' := G3.out
    have HW' := HW.out
    refine ⟨⟨_, rfl, ?_⟩, below_put (B1.out.trans (H3.out.below (by have := HW.out; omega) B1.out.size)) (by have := HW.out; omega)⟩
    rw [← F.out]
    exact (OW.out.down (by omega)).putS (OW.out.geS (by omega))
  case stop =>
    intro D W hD hx hd
    exact hx.elim
end Go.Proofs.YtijfbhdbfplghaaGreat
