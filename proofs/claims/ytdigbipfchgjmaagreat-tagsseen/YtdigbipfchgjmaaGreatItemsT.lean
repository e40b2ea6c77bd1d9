/- The contract of Items of package tags. -/
import Derived.Test.YtdigbipfchgjmaaGreatPicksT
import Derived.Test.YtdigbipfchgjmaaGreatNameM
namespace Go.Proofs.YtdigbipfchgjmaaGreat
open Go.RowKit Go.Shelf
attribute [local go_sem] Oper.semAt_some

/-- The call answers a row of names of its own. -/
def GivesNs (w : World) (L : List (List Int)) (e : Ending) (w' : World) : Prop := (∃ v, e = .returned v ∧ OwnG EN w' w.heap.size v L) ∧ Below w.heap.size w w'
theorem exec_store34 {o : Oper} {a : Act} {w : World} (x y : Operand) (ho : o.op = .store 34 x y) (g : Nat) (u : Value) (D : Option Addr) (m c : Nat) (hx : a.eval x = .pointer (some ⟨g, 0, none⟩)) (hy : a.eval y = .slice D m c) (hb : Blk w g 34 [u]) :
    (execOp a.eval o).run Tryz.prog w = .ok .skip (w.setCell ⟨g, 0, none⟩ (.slice D m c)) := by
  have hc := hb.cell (i := 0) rfl
  have hf := hb.frozen 0
  unfold execOp
  simp only [ho, hx, hy]
  simp [go_sem, hc, hf]
theorem wpList_store34 {ops : Array Oper} {rest : List Oper} {op : Oper} {a : Act} {w : World} {Q : Exit → Act → World → Prop} (hgd : op.guard = none) (x y : Operand) (ho : op.op = .store 34 x y) (g : Nat) (u : Value) (D : Option Addr) (m c : Nat) (hx : a.eval x = .pointer (some ⟨g, 0, none⟩)) (hy : a.eval y = .slice D m c) (hb : Blk w g 34 [u])
    (h : ∀ w', Hid (Blk w' g 34 [.slice D m c]) → Hid (Only g w w') → wpList Tryz.prog ops Q rest (a.put op.dst undef) w') : wpList Tryz.prog ops Q (op :: rest) a w := by
  refine wpList_plain hgd fun K hK => ?_
  unfold Oper.wp
  rw [exec_store34 x y ho g u D m c hx hy hb]
  exact hK _ _ (h _ (Lib.hid (hb.set 0 (.slice D m c))) (Lib.hid (Only.set g 0 w (.slice D m c))))
/-- What a round of Items finds and leaves. -/
structure IT (b g6 M B : Nat) (w4 : World) (pre : List Ky) (V : World) : Prop where
  row : ∃ D m c, Blk V g6 34 [.slice D m c] ∧ OwnG EN V B (.slice D m c) (nub pre)
  set : SetNm V b pre.length (nub pre)
  off : Off2 b g6 w4 V
  len : pre.length ≤ M
theorem OwnG.keep {α : Type} {E : ElT α} {w w' : World} {B : Nat} {v : Value} {l : List α} (h : OwnG E w B v l) {g : Nat} (ho : Only g w w') (hg : g < B) : OwnG E w' B v l :=
  h.only ho (.inr (fun _ e e2 => h.ge (i := g) hg (e2 ▸ e)))
theorem SetNm.mono {w : World} {b n n' : Nat} {l : List (List Int)} (h : SetNm w b n l) (hn : n ≤ n') : SetNm w b n' l := by
  obtain ⟨D, h1, h2⟩ := h.own; exact ⟨D, h1.mono hn, h2⟩
theorem nub_step (pre : List Ky) (x : Ky) : nub (pre ++ [x]) = if (nub pre).contains x.m = true then nub pre else nub pre ++ [x.m] := by
  rw [nub_snoc]; rfl
set_option maxRecDepth 100000 in
set_option maxHeartbeats 8000000 in
theorem items_is (A : Option Addr) (n cap : Nat) (a : List Am) (c : Int) (w : World) (h : RowV w A n cap a) (hn : n ≤ 600) : Calls Tryz.prog 14 #[.slice A n cap, .int .u16 c] w (GivesNs w (itemsT a c)) := by
  have OKL := Lib.hid (pick_ok (p := pth (pin c)) (norm_st h.ok).ok)
  have LEN := Lib.hid (show (pick (pth (pin c)) (norm a)).length ≤ 600 by
    have := pick_len (pth (pin c)) (norm a)
    have := norm_len a
    have := h.len
    omega)
  have H := Lib.hid h
  have hz := Tryz.zeroValue68
  clear h
  refine (callsIn_wide (n := 10)).1 ?_
  refine callsIn_of_wp_marks Tryz.func14 rfl trivial ?_ rfl
  simp only [Tryz.ntmps14, List.size_toArray, List.length_cons, List.length_nil, Nat.reduceAdd, Nat.reduceSub, Array.replicate_succ, Array.replicate_zero, List.push_toArray, List.append_toArray, List.nil_append, List.cons_append]
  gi_wp2_with (first
    | (refine in_plain wide_no rfl (by intro c h; cases h) ?_; refine wpList_makeNm rfl rfl ?_; intro b w0 eb S0 B0; refine in_done ?_))
  have K5 := Lib.hid ((blk_alloc w0 68 [.map (some b)]).alloc (.cells #[.slice none 0 0] 34))
  have K6 := Lib.hid (blk2 w0 (.cells #[.map (some b)] 68) 34 [.slice none 0 0])
  have B9 := Lib.hid (step_ B0.out (step_ (new_below w0 (.cells #[.map (some b)] 68)) (new_below _ (.cells #[.slice none 0 0] 34))))
  have S9 := Lib.hid ((S0.out.below (new_below w0 (.cells #[.map (some b)] 68))).below (new_below _ (.cells #[.slice none 0 0] 34)))
  have LB := Lib.hid (show b < w0.heap.size from S0.out.lt)
  have LW := Lib.hid (show w.heap.size ≤ b by rw [eb.out]; exact Nat.le_refl _)
  clear S0 B0 eb hz
  refine ⟨trivial, (callsIn_wide.2 (in_is c _)).mono ?_⟩
  rintro e w1 ⟨⟨ga, rfl, k1, l1⟩, b1⟩
  have LA := Lib.hid (show w0.heap.size + 2 ≤ ga by simpa using l1)
  have K1 := Lib.hid k1
  have B1 := Lib.hid (step_ B9.out b1)
  have K51 := Lib.hid (K5.out.below b1)
  have K61 := Lib.hid (K6.out.below b1)
  have S1 := Lib.hid (S9.out.below b1)
  have Z1 := Lib.hid (show w0.heap.size + 2 ≤ w1.heap.size by have := b1.size; simpa using this)
  clear k1 l1 b1 K5 K6 S9 B9
  gi_wp2_with fail
  refine ⟨trivial, (callsIn_wide.2 (there_is _ _ _)).mono ?_⟩
  rintro e w2 ⟨⟨gc, rfl, k2, l2⟩, b2⟩
  have LC := Lib.hid (show w0.heap.size + 2 ≤ gc by have := Z1.out; omega)
  have K2 := Lib.hid k2
  have K12 := Lib.hid (K1.out.below b2)
  have B2 := Lib.hid (step_ B1.out b2)
  have K52 := Lib.hid (K51.out.below b2)
  have K62 := Lib.hid (K61.out.below b2)
  have S2 := Lib.hid (S1.out.below b2)
  have Z2 := Lib.hid (show w0.heap.size + 2 ≤ w2.heap.size by have := b2.size; have := Z1.out; omega)
  clear k2 l2 b2 K51 K61 S1 B1 K1 Z1
  gi_wp2_with fail
  refine ⟨trivial, (callsIn_wide.2 (picks_is A n cap _ _ _)).mono ?_⟩
  rintro e w4 ⟨⟨gd, ge, rfl, k3, k4, l3, l4⟩, b4⟩
  have LD := Lib.hid (show w0.heap.size + 2 ≤ gd by have := Z2.out; omega)
  have LE := Lib.hid (show w0.heap.size + 2 ≤ ge by have := Z2.out; omega)
  have KD := Lib.hid k3
  have KE := Lib.hid k4
  have KA := Lib.hid (K12.out.below b4)
  have KC := Lib.hid (K2.out.below b4)
  have B4 := Lib.hid (step_ B2.out b4)
  have K5 := Lib.hid (K52.out.below b4)
  have K6 := Lib.hid (K62.out.below b4)
  have S4 := Lib.hid (S2.out.below b4)
  have Z4 := Lib.hid (show w0.heap.size + 2 ≤ w4.heap.size by have := b4.size; have := Z2.out; omega)
  clear k3 k4 l3 l4 b4 K52 K62 S2 B2 K12 K2 Z2
  gi_wp2_with fail
  rename_i K0 hK0
  have NN := Lib.hid (show ∀ V, Off2 b (w0.heap.size + 1) w4 V → (Blk V gd 22 [.slice A n cap] ∧ RowV V A n cap a) ∧ Blk V ge 65 [.func (.func 48) #[] #[.pointer (some ⟨gc, 0, none⟩)]] ∧ (Blk V gc 65 [.func (.func 49) #[] #[.pointer (some ⟨ga, 0, none⟩)]] ∧ Blk V ga 23 [.int .u16 c]) from fun V h => by
    have h1 := LA.out; have h2 := LB.out; have h3 := LC.out; have h4 := LD.out; have h5 := LE.out; have h6 := LW.out
    exact ⟨⟨h.blk KD.out (by omega) (by omega), H.out.below (B4.out.trans (h.down (by omega) (by omega) B4.out.size))⟩, h.blk KE.out (by omega) (by omega), h.blk KC.out (by omega) (by omega), h.blk KA.out (by omega) (by omega)⟩)
  refine range_gen (gf := 45) rfl (fun _ _ => rfl) (pick_seq 48 _ (fun _ _ => rfl) _ _ (there_cond (fun _ _ => rfl) (in_cond c ga) (fun V V' h hb => h.below hb) gc) (fun V V' h hb => ⟨h.1.below hb, h.2.below hb⟩) _ _ A n cap a hn) (fun _ => rfl)
    (fun B pre V => IT b (w0.heap.size + 1) 600 B w4 pre V)
    (fun V => False)
    (fun B pre V V' h hb => by
      obtain ⟨D, m, cc, h1, h2⟩ := h.row
      exact ⟨⟨D, m, cc, h1.below hb, h2.below hb⟩, h.set.below hb, h.off.below hb h.off.size, h.len⟩)
    (fun B pre V V' h9 h ho hg hB => by
      obtain ⟨D, m, cc, h1, h2⟩ := h.row
      have hz := Z4.out
      have hlb := LB.out
      exact ⟨⟨D, m, cc, h1.only ho (by omega), h2.keep ho hB⟩, h.set.same (ho.block b h.set.lt (by omega)), h.off.only ho (.inr (.inr (by omega))), h.len⟩)
    (fun B pre V o hB h => by
      obtain ⟨D, m, cc, h1, h2⟩ := h.row
      have hz := Z4.out
      have hlb := LB.out
      exact ⟨⟨D, m, cc, blk_put h1 (by omega), h2.put (h2.ge (by omega))⟩, h.set.same (World.putObj_heap_other (by omega)), h.off.only (only_putObj _ _ _) (.inr (.inr (by omega))), h.len⟩)
    (fun V o h => h.elim)
    (fun V V' g h _ _ => h.elim)
    (fun B pre V h => NN.out V h.off)
    (fun V hb => NN.out V (Off2.of_below hb))
    (fun B V hB hV hb => ⟨⟨none, 0, 0, K6.out.below hb, ownG_nil _ _⟩, S4.out.below hb, Off2.of_below hb, Nat.zero_le _⟩)
    (fun B pre x a' V => x.Ok ∧ pre.length < 600 ∧ ∃ g7, a' = { tmps := #[.slice A n cap, .int .u16 c, undef, undef, .slice none 0 0, .pointer (some ⟨w0.heap.size, 0, none⟩), .pointer (some ⟨w0.heap.size + 1, 0, none⟩), .pointer (some ⟨g7, 0, none⟩), undef, undef, .map (some b), .slice A n cap, .int .u16 c, .func (.func 49) #[] #[.pointer (some ⟨ga, 0, none⟩)], .func (.func 48) #[] #[.pointer (some ⟨gc, 0, none⟩)], .func (.func 45) #[] #[.pointer (some ⟨gd, 0, none⟩), .pointer (some ⟨ge, 0, none⟩)], .agg x.cells.toArray, undef, undef, undef, undef, undef, undef, undef, undef, undef, undef, undef, undef, undef, undef, undef, undef, undef, undef, undef], defers := [] } ∧ B ≤ g7 ∧ Blk V g7 48 x.cells ∧ IT b (w0.heap.size + 1) 600 B w4 pre V)
    (fun B pre x a' V o hB h => by
      obtain ⟨hx, hm, g7, e, l7, k7, h⟩ := h
      obtain ⟨D, m, cc, h1, h2⟩ := h.row
      have hz := Z4.out
      have hlb := LB.out
      exact ⟨hx, hm, g7, e, l7, blk_put k7 (by omega), ⟨D, m, cc, blk_put h1 (by omega), h2.put (h2.ge (by omega))⟩, h.set.same (World.putObj_heap_other (by omega)), h.off.only (only_putObj _ _ _) (.inr (.inr (by omega))), h.len⟩)
    ?assign ?body ?done ?stop
  case assign =>
    intro l B pre x V K hnx hi hB hB2 hlt hK
    have XO := Lib.hid (nx_len hnx OKL.out LEN.out)
    have HI := Lib.hid hi
    have Z1 := Lib.hid (blk_alloc V 48 kzero.cells)
    have hz := zero27
    clear hi hnx
    simp only [encK, List.zip_toArray, List.zip_cons_cons, List.zip_nil_right, List.foldl_toArray', List.foldl_cons, List.foldl_nil, List.size_toArray, List.length_cons, List.length_nil, List.setIfInBounds_toArray, List.set_cons_zero, List.set_cons_succ]
    gi_wp2_with (refine in_plain (wide_in l) rfl (by intro c h; cases h) ?_; refine wpList_store_ky rfl _ _ rfl V.heap.size kzero x rfl rfl Z1.out kzero_ok.ml XO.out.1.ml ?_; intro V1 N1 O1; refine in_done ?_)
    have QQ := box_below O1.out
    obtain ⟨D, m, cc, h1, h2⟩ := HI.out.row
    exact hK _ _ QQ ⟨XO.out.1, XO.out.2, _, rfl, hB2, N1.out, ⟨D, m, cc, h1.below QQ, h2.below QQ⟩, HI.out.set.below QQ, HI.out.off.below QQ HI.out.off.size, HI.out.len⟩
  case body =>
    intro l B pre x a' V hnx hax hB hB2 hlt
    obtain ⟨hx, hm, g7, rfl, l7, k7, hi⟩ := hax
    obtain ⟨D, m, cc, h1, h2⟩ := hi.row
    have XO := Lib.hid hx
    have G7 := Lib.hid k7
    have H1 := Lib.hid h1
    have H2 := Lib.hid h2
    have SM := Lib.hid hi.set
    have OF := Lib.hid hi.off
    have PM := Lib.hid hm
    have LB2 := Lib.hid hB
    have LB3 := Lib.hid hB2
    have PL := Lib.hid (show (nub pre).length ≤ 5000 by have := nub_len pre; omega)
    have NO := Lib.hid (show NOk x.m from ⟨hx.ml, hx.mb⟩)
    have NS := Lib.hid (nub_step pre x)
    have V5 := Lib.hid (hi.off.blk K5.out (by have := LB.out; omega) (by omega))
    have c5 := V5.out.cell (i := 0) rfl
    have c6 := h1.cell (i := 0) rfl
    clear hx k7 h1 h2 hi hm hnx hB hB2 l7
    cases hc : (nub pre).contains x.m with
    | true =>
      have HC := Lib.hid hc
      rw [hc, if_pos rfl] at NS
      clear hc
      gi_wp2_with (first
        | (refine in_plain (wide_in l) rfl (by intro c h; cases h) ?_; refine wpList_load_nm rfl _ rfl g7 2 x.m rfl (G7.out.knm XO.out.ml) XO.out.ml ?_; refine in_done ?_)
        | (refine in_plain (wide_in l) rfl (by intro c h; cases h) ?_; refine wpList_lookNm rfl _ _ rfl b pre.length (nub pre) x.m true rfl rfl SM.out NO.out HC.out ?_; refine in_done ?_)
        | (refine in_plain (wide_in l) rfl (by intro c h; cases h) ?_; refine wpList_alloc0 rfl rfl ?_; intro g8 V1 e8 N8 Q8; refine in_done ?_))
      have OB := Lib.hid (OF.out.below Q8.out OF.out.size)
      refine ⟨KeepL.below Q8.out hlt, fun k h1 h2 => Q8.out.block k (by have := LB3.out; omega), ⟨⟨D, m, cc, H1.out.below Q8.out, ?_⟩, ?_, OB.out, ?_⟩⟩
      · rw [NS.out]; exact H2.out.below Q8.out
      · rw [NS.out]; exact (SM.out.below Q8.out).mono (by simp)
      · rw [List.length_append, List.length_singleton]; have := PM.out; omega
    | false =>
      have HC := Lib.hid hc
      rw [hc, if_neg (by decide)] at NS
      clear hc
      gi_wp2_with (first
        | (refine in_plain (wide_in l) rfl (by intro c h; cases h) ?_; refine wpList_load_nm rfl _ rfl g7 2 x.m rfl (G7.out.knm XO.out.ml) XO.out.ml ?_; refine in_done ?_)
        | (refine in_plain (wide_in l) rfl (by intro c h; cases h) ?_; refine wpList_lookNm rfl _ _ rfl b pre.length (nub pre) x.m false rfl rfl SM.out NO.out HC.out ?_; refine in_done ?_)
        | (refine in_plain (wide_in l) rfl (by intro c h; cases h) ?_; refine wpList_alloc0 rfl rfl ?_; intro g8 V1 e8 N8 Q8; have V51 := Lib.hid (V5.out.below Q8.out); have c51 := V51.out.cell (i := 0) rfl; have G71 := Lib.hid (G7.out.below Q8.out); refine in_done ?_)
        | (refine in_plain (wide_in l) rfl (by intro c h; cases h) ?_; refine wpList_load_nm rfl _ rfl g7 2 x.m rfl (G71.out.knm XO.out.ml) XO.out.ml ?_; refine in_done ?_)
        | (refine in_plain (wide_in l) rfl (by intro c h; cases h) ?_; refine wpList_putNm rfl _ _ _ rfl b pre.length (nub pre) x.m rfl rfl rfl (SM.out.below Q8.out) (by have := PM.out; omega) NO.out ?_; intro V2 S2 O2; have G72 := Lib.hid (G71.out.only O2.out (fun e => (SM.out.below Q8.out).neq G71.out e.symm)); have H12 := Lib.hid ((H1.out.below Q8.out).only O2.out (by have := LB.out; omega)); have c62 := H12.out.cell (i := 0) rfl; have H22 := Lib.hid ((H2.out.below Q8.out).keep O2.out (by have := LB.out; have := LB2.out; have := Z4.out; omega)); refine in_done ?_)
        | (refine in_plain (wide_in l) rfl (by intro c h; cases h) ?_; refine wpList_load_nm rfl _ rfl g7 2 x.m rfl (G72.out.knm XO.out.ml) XO.out.ml ?_; refine in_done ?_)
        | (refine in_plain (wide_in l) rfl (by intro c h; cases h) ?_; refine wpList_oneG LN rfl _ rfl x.m rfl NO.out ?_; intro g3 V3 e3 N3 Q3; refine in_done ?_)
        | (refine in_plain (wide_in l) rfl (by intro c h; cases h) ?_; refine wpList_appG LN rfl _ _ rfl B _ (nub pre) x.m g3 rfl rfl (H22.out.below Q3.out) NO.out N3.out PL.out (Nat.le_trans LB3.out (Nat.le_trans Q8.out.size (Nat.le_trans O2.out.size Q3.out.size))) ?_; intro D7 m7 c7 V4 e7 O7 Q7 R7; refine in_done ?_)
        | (refine in_plain (wide_in l) rfl (by intro c h; cases h) ?_; refine wpList_store34 rfl _ _ rfl (w0.heap.size + 1) (.slice D m cc) D7 m7 c7 rfl rfl (((H12.out.below Q3.out).upto Q7.out (by have := LB2.out; have := Z4.out; omega))) ?_; intro V5' N5 O5; refine in_done ?_))
      have z1 := Q8.out.size
      have z2 := O2.out.size
      have z3 := Q3.out.size
      have z4 := Q7.out.size
      have z5 := O5.out.size
      have zb := LB.out
      have zw := Z4.out
      have zB := LB2.out
      have zV := LB3.out
      have same : ∀ k, k < B → k ≠ b → k ≠ w0.heap.size + 1 → V5'.heap[k]? = V.heap[k]? := fun k h1 h2 h3 => by
        rw [O5.out.block k (by omega) h3, Q7.out.block k h1, Q3.out.block k (by omega), O2.out.block k (by omega) h2, Q8.out.block k (by omega)]
      refine ⟨⟨by omega, same _ (by omega) (by omega) (by omega), same _ (by omega) (by omega) (by omega)⟩, fun k h1 h2 => same k h2 (by omega) (by omega), ⟨⟨D7, m7, c7, N5.out, ?_⟩, ?_, ?_, ?_⟩⟩
      · rw [NS.out]; exact O7.out.keep O5.out (by omega)
      · rw [NS.out, List.length_append, List.length_singleton]
        refine S2.out.same ?_
        rw [O5.out.block b (by omega) (by omega), Q7.out.block b (by omega), Q3.out.block b (by omega)]
      · exact (((OF.out.below Q8.out OF.out.size).only O2.out (.inl rfl)).below Q3.out (by omega)).below Q7.out (by omega) |>.only O5.out (.inr (.inl rfl))
      · rw [List.length_append, List.length_singleton]; have := PM.out; omega
  case done =>
    intro D9 B t V hD hD2 hB hf hi hd
    subst hf
    obtain ⟨D1, m1, c1, h1, h2⟩ := hi.row
    have OW := Lib.hid h2
    have OF := Lib.hid hi.off
    have c0 := h1.cell (i := 0) rfl
    have HD := Lib.hid hd
    have LB9 := Lib.hid hB
    have L9 := Lib.hid hD
    have L99 := Lib.hid hD2
    clear hd h1 h2 hi
    refine hK0 _ _ ?_
    gi_wp2_with fail
    have zb := LB.out
    have zw := LW.out
    have z4 := Z4.out
    have zB := LB9.out
    have zD := L9.out
    have zDD := L99.out
    refine marks_ret D9 rfl HD.out (results_tmp rfl _ _ _) ?_
    exact ⟨⟨_, rfl, (OW.out.down (show w.heap.size ≤ B by omega)).put (OW.out.ge (by omega))⟩, below_put (B4.out.trans (OF.out.down (by omega) (by omega) B4.out.size)) (by omega)⟩
  case stop =>
    intro D9 V hD hx hd
    exact hx.elim
end Go.Proofs.YtdigbipfchgjmaaGreat
