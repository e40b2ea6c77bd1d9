/- A map of names to nothing: which names it holds. The contract of Items of package tags. -/
import Derived.Test.YtijfbhdbfplghaaGreatH40
namespace Go.Proofs.YtijfbhdbfplghaaGreat
open Go.RowKit Go.Maps
theorem keyType25n : Tryz.prog.keyType 25 = true := by kernel_rfl
theorem row25n : (25 : TypeId) < Tryz.prog.types.size := of_decide_eq_true (by kernel_rfl)
theorem keyAt25n : Tryz.prog.keyTypeAt 2 25 = true := by kernel_rfl
theorem cells25n : Tryz.prog.cellsOf 25 = 8 := by kernel_rfl
set_option maxRecDepth 100000 in
theorem lawN0 : WideMaps.KeyLaw Tryz.prog 25 := deep_law_laid laidOut (m := 2) (by omega) row25n keyAt25n (by rw [Tryz.underlying25])
theorem lawN : Keyed Tryz.prog 25 := Keyed.of_law lawN0
theorem keyOf_array {P : Program} {t n e : Nat} {v : Value} (hu : P.underlying t = some (.array n e)) (hk : P.keyType t = true) (hf : v.formed P t = true) : keyOf P t v = (P.keyLits (P.types.size + 1) t v.cells.toList).map fun ls => .string (keyBytes ls) := by
  simp [keyOf, hu, hk, hf]
theorem litsName (d : Nat) {m : List Int} (h : NOk m) : ∃ ls, Tryz.prog.keyLits (d + 2) 25 (nmL m) = some ls := by
  have hl : (nmL m).length = 8 := by unfold nmL; rw [List.length_map]; exact h.1
  rw [keyLits_array Tryz.underlying25 (by rw [hl, cells25n])]
  obtain ⟨ys, hy⟩ := mapM_some (f := fun i => Tryz.prog.keyLits (d + 1) 5 (((nmL m).drop (i * Tryz.prog.cellsOf 5)).take (Tryz.prog.cellsOf 5))) (List.range 8) (fun i hi => by
    have hi : i < 8 := List.mem_range.1 hi
    have h8 := h.1
    rw [cells5, Nat.mul_one, List.drop_eq_getElem_cons (by rw [hl]; omega)]
    simp only [List.take_succ_cons, List.take_zero, nmL, List.getElem_map]
    have := h.2 m[i] (List.getElem_mem _)
    exact ⟨_, litW d Tryz.underlying5 (WalkArith.wf_u8 (by omega))⟩)
  rw [hy]
  exact ⟨_, rfl⟩
theorem keyN {k : List Int} (h : NOk k) : ∃ l, keyOf Tryz.prog 25 (.agg (nm k)) = some l := by
  obtain ⟨ls, hl⟩ := litsName 202 h
  have hs : Tryz.prog.types.size + 1 = 202 + 2 := by rw [types_]
  rw [keyOf_array Tryz.underlying25 keyType25n (by simp [Value.formed, cells25n, nm_size, h.1]), hs]
  have e : (Value.agg (nm k)).cells.toList = nmL k := rfl
  rw [e, hl]
  exact ⟨_, rfl⟩
theorem nm_inj {a b : List Int} (h : Value.agg (nm a) = .agg (nm b)) : a = b := by
  have e : nm a = nm b := by injection h
  have e2 := congrArg Array.toList e
  simp only [nm] at e2
  exact (List.map_inj_right (fun x y h => by injection h)).1 e2
theorem key_sameN {a b : List Int} {l : Lit} (h1 : keyOf Tryz.prog 25 (.agg (nm a)) = some l) (h2 : keyOf Tryz.prog 25 (.agg (nm b)) = some l) : a = b := nm_inj (lawN.inj h1 h2)
theorem zero70 (w : World) : (zeroValue 118).run Tryz.prog w = .ok (.agg #[]) w := by kernel_rfl
/-- The map in block b holds the names of l, and no other. -/
structure SetNm (w : World) (b n : Nat) (l : List (List Int)) : Prop where
  own : ∃ D : DataW Value, w.ownsMap Tryz.prog 25 unitElem b n D ∧ ∀ k t, NOk k → keyOf Tryz.prog 25 (.agg (nm k)) = some t → Maps.has D t = l.contains k
theorem SetNm.lt {w : World} {b n : Nat} {l : List (List Int)} (h : SetNm w b n l) : b < w.heap.size := by obtain ⟨D, h1, _⟩ := h.own; exact h1.lt
theorem SetNm.map {w : World} {b n : Nat} {l : List (List Int)} (h : SetNm w b n l) : ∃ es c, w.heap[b]? = some (.map es c) := by obtain ⟨D, ⟨es, c, e, _⟩, _⟩ := h.own; exact ⟨es, c, e⟩
theorem SetNm.same {w w' : World} {b n : Nat} {l : List (List Int)} (h : SetNm w b n l) (hb : w'.heap[b]? = w.heap[b]?) : SetNm w' b n l := by
  obtain ⟨D, ⟨es, c, e, r⟩, h2⟩ := h.own; exact ⟨D, ⟨es, c, hb.trans e, r⟩, h2⟩
theorem SetNm.below {w w' : World} {b n : Nat} {l : List (List Int)} (h : SetNm w b n l) (hb : Below w.heap.size w w') : SetNm w' b n l := h.same (hb.block b h.lt)
theorem SetNm.neq {w : World} {b n g t : Nat} {l : List (List Int)} {cs : List Value} (h : SetNm w b n l) (hg : Blk w g t cs) : b ≠ g := by
  intro e
  subst e
  obtain ⟨es, c, e⟩ := h.map
  unfold Blk at hg
  rw [hg] at e; cases e
theorem run_putN {w : World} {b n : Nat} {l : List (List Int)} (h : SetNm w b n l) (hn : n ≤ 50000) {m : List Int} (hm : NOk m) :
    ∃ w', (Instr.mapUpdate 116 (.map (some b)) (.agg (nm m)) (.agg #[])).run Tryz.prog w = .ok () w' ∧ SetNm w' b (n + 1) (l ++ [m]) ∧ w.grownBy w' (some b) := by
  obtain ⟨D, h1, h2⟩ := h.own
  obtain ⟨t, ht⟩ := keyN hm
  obtain ⟨w', hr, h3, h4⟩ := h1.update lawN Tryz.underlying116 (by unfold maxLen; omega) (val := .agg #[]) (d := .agg []) (ps := []) ht unitElem_mk
  refine ⟨w', hr, ⟨_, h3, fun x t' hx hx' => ?_⟩, h4⟩
  by_cases e : x = m
  · subst e
    obtain rfl : t' = t := Option.some.inj (hx'.symm.trans ht)
    rw [has_put_same h1.isMap (lawN.key ht)]
    simp
  · rw [has_put_other (fun e2 => e (key_sameN hx' (show keyOf Tryz.prog 25 (.agg (nm m)) = some t' by rw [e2]; exact ht))), h2 x t' hx hx']
    simp [e]
section
variable {ops : Array Oper} {rest : List Oper} {op : Oper} {a : Act} {w : World} {Q : Exit → Act → World → Prop}
theorem wpList_lookNm (hgd : op.guard = none) (x y : Operand) (ho : op.op = .lookup 116 x y true) (b n : Nat) (l : List (List Int)) (m : List Int) (r : Bool) (hx : a.eval x = .map (some b)) (hy : a.eval y = .agg (nm m)) (hs : SetNm w b n l) (hm : NOk m) (hr : l.contains m = r)
    (h : wpList Tryz.prog ops Q rest (a.put op.dst (.tuple #[.agg #[], .bool r])) w) : wpList Tryz.prog ops Q (op :: rest) a w := by
  obtain ⟨D, h1, h2⟩ := hs.own
  obtain ⟨t, ht⟩ := keyN hm
  refine wpList_lookup_own_unit w hgd x y 116 ho 25 118 lawN Tryz.underlying116 (zero70 w) b n D hx h1 _ _ hy ht ?_
  rw [h2 m t hm ht, hr]; exact h
theorem wpList_putNm (hgd : op.guard = none) (x y z : Operand) (ho : op.op = .mapUpdate 116 x y z) (b n : Nat) (l : List (List Int)) (m : List Int) (hx : a.eval x = .map (some b)) (hy : a.eval y = .agg (nm m)) (hz : a.eval z = .agg #[]) (hs : SetNm w b n l) (hn : n ≤ 50000) (hm : NOk m)
    (h : ∀ w', Hid (SetNm w' b (n + 1) (l ++ [m])) → Hid (Only b w w') → wpList Tryz.prog ops Q rest (a.put op.dst undef) w') : wpList Tryz.prog ops Q (op :: rest) a w := by
  refine wpList_plain hgd fun K hK => ?_
  obtain ⟨w', hr, h1, h2⟩ := run_putN hs hn hm
  unfold Oper.wp execOp
  simp only [ho, hx, hy, hz, Sem.run_bind, hr, Result.andThen_ok, Sem.run_pure]
  exact hK _ _ (h _ (Lib.hid h1) (Lib.hid ⟨h2.os, h2.tape, h2.output, h2.size, fun k hk hn => h2.block k hk (fun e => hn (Option.some.inj e))⟩))
theorem wpList_makeNm (hgd : op.guard = none) (ho : op.op = .makeMap 116 none)
    (h : ∀ b w', Hid (b = w.heap.size) → Hid (SetNm w' b 0 []) → Hid (Below w.heap.size w w') → wpList Tryz.prog ops Q rest (a.put op.dst (.map (some b))) w') : wpList Tryz.prog ops Q (op :: rest) a w := by
  refine wpList_plain hgd fun K hK => ?_
  have H := h w.heap.size (w.alloc (.map #[] 0)) (Lib.hid rfl) (Lib.hid ⟨.map [], World.ownsMap_made w Tryz.prog 25 unitElem, fun k t _ _ => rfl⟩) (Lib.hid (new_below w _))
  unfold Oper.wp execOp
  simp [ho, Instr.makeMap, go_sem]
  exact hK _ _ H
theorem wpList_alloc0 (hgd : op.guard = none) (ho : op.op = .alloc 118)
    (h : ∀ g w', Hid (g = w.heap.size) → Hid (Blk w' g 118 []) → Hid (Below w.heap.size w w') → wpList Tryz.prog ops Q rest (a.put op.dst (.pointer (some ⟨g, 0, none⟩))) w') : wpList Tryz.prog ops Q (op :: rest) a w := by
  refine wpList_plain hgd fun K hK => ?_
  have hz := zero70
  have H := h w.heap.size (w.alloc (.cells #[] 118)) (Lib.hid rfl) (Lib.hid (blk_alloc w 118 [])) (Lib.hid (new_below w _))
  unfold Oper.wp execOp
  simp [ho, Instr.alloc, hz]
  exact hK _ _ H
end
/-- Of w's blocks only b and g may have turned. -/
structure Off2 (b g : Nat) (w V : World) : Prop where
  os : V.os = w.os
  tape : V.tape = w.tape
  output : V.output = w.output
  size : w.heap.size ≤ V.heap.size
  block : ∀ k, k < w.heap.size → k ≠ b → k ≠ g → V.heap[k]? = w.heap[k]?
theorem Off2.of_below {b g : Nat} {w V : World} (h : Below w.heap.size w V) : Off2 b g w V := ⟨h.os, h.tape, h.output, h.size, fun k hk _ _ => h.block k hk⟩
theorem Off2.below {b g B : Nat} {w V V' : World} (h : Off2 b g w V) (hb : Below B V V') (hB : w.heap.size ≤ B) : Off2 b g w V' :=
  ⟨hb.os.trans h.os, hb.tape.trans h.tape, hb.output.trans h.output, Nat.le_trans h.size hb.size, fun k hk h1 h2 => (hb.block k (by omega)).trans (h.block k hk h1 h2)⟩
theorem Off2.only {b g i : Nat} {w V V' : World} (h : Off2 b g w V) (hb : Only i V V') (hi : i = b ∨ i = g ∨ w.heap.size ≤ i) : Off2 b g w V' :=
  ⟨hb.os.trans h.os, hb.tape.trans h.tape, hb.output.trans h.output, Nat.le_trans h.size hb.size, fun k hk h1 h2 => (hb.block k (by have := h.size; omega) (by omega)).trans (h.block k hk h1 h2)⟩
theorem Off2.blk {b g k t : Nat} {w V : World} {cs : List Value} (h : Off2 b g w V) (hb : Blk w k t cs) (h1 : k ≠ b) (h2 : k ≠ g) : Blk V k t cs := (h.block k hb.lt h1 h2).trans hb
theorem Off2.down {b g B : Nat} {w V : World} (h : Off2 b g w V) (h1 : B ≤ b) (h2 : B ≤ g) (h3 : B ≤ w.heap.size) : Below B w V :=
  ⟨h.os, h.tape, h.output, h.size, fun k hk => h.block k (by omega) (by omega) (by omega)⟩
end Go.Proofs.YtijfbhdbfplghaaGreat
namespace Go.Proofs.YtijfbhdbfplghaaGreat
open Go.RowKit Go.Shelf
attribute [local go_sem] Oper.semAt_some
/-- The call answers a row of names of its own. -/
def GivesNs (w : World) (L : List (List Int)) (e : Ending) (w' : World) : Prop := (∃ v, e = .returned v ∧ OwnG EN w' w.heap.size v L) ∧ Below w.heap.size w w'
theorem exec_store34 {o : Oper} {a : Act} {w : World} (x y : Operand) (ho : o.op = .store 68 x y) (g : Nat) (u : Value) (D : Option Addr) (m c : Nat) (hx : a.eval x = .pointer (some ⟨g, 0, none⟩)) (hy : a.eval y = .slice D m c) (hb : Blk w g 68 [u]) :
    (execOp a.eval o).run Tryz.prog w = .ok .skip (w.setCell ⟨g, 0, none⟩ (.slice D m c)) := by
  have hc := hb.cell (i := 0) rfl
  have hf := hb.frozen 0
  unfold execOp
  simp only [ho, hx, hy]
  simp [go_sem, hc, hf]
theorem wpList_store34 {ops : Array Oper} {rest : List Oper} {op : Oper} {a : Act} {w : World} {Q : Exit → Act → World → Prop} (hgd : op.guard = none) (x y : Operand) (ho : op.op = .store 68 x y) (g : Nat) (u : Value) (D : Option Addr) (m c : Nat) (hx : a.eval x = .pointer (some ⟨g, 0, none⟩)) (hy : a.eval y = .slice D m c) (hb : Blk w g 68 [u])
    (h : ∀ w', Hid (Blk w' g 68 [.slice D m c]) → Hid (Only g w w') → wpList Tryz.prog ops Q rest (a.put op.dst undef) w') : wpList Tryz.prog ops Q (op :: rest) a w := by
  refine wpList_plain hgd fun K hK => ?_
  unfold Oper.wp
  rw [exec_store34 x y ho g u D m c hx hy hb]
  exact hK _ _ (h _ (Lib.hid (hb.set 0 (.slice D m c))) (Lib.hid (Only.set g 0 w (.slice D m c))))
/-- What a round of Items finds and leaves. -/
structure IT (b g6 M B : Nat) (w4 : World) (pre : List Ky) (V : World) : Prop where
  row : ∃ D m c, Blk V g6 68 [.slice D m c] ∧ OwnG EN V B (.slice D m c) (nub pre)
  set : SetNm V b pre.length (nub pre)
  off : Off2 b g6 w4 V
  len : pre.length ≤ M
theorem OwnG.keep {α : Type} {E : ElT α} {w w' : World} {B : Nat} {v : Value} {l : List α} (h : OwnG E w B v l) {g : Nat} (ho : Only g w w') (hg : g < B) : OwnG E w' B v l :=
  h.only ho (.inr (fun _ e e2 => h.ge (i := g) hg (e2 ▸ e)))
theorem SetNm.mono {w : World} {b n n' : Nat} {l : List (List Int)} (h : SetNm w b n l) (hn : n ≤ n') : SetNm w b n' l := by
  obtain ⟨D, h1, h2⟩ := h.own; exact ⟨D, h1.mono hn, h2⟩
theorem nub_step (pre : List Ky) (x : Ky) : nub (pre ++ [x]) = if (nub pre).contains x.m = true then nub pre else nub pre ++ [x.m] := by
  rw [nub_snoc]; rfl
set_option maxRecDepth 100000 in
set_option maxHeartbeats 8000000 in
theorem items_is (A : Option Addr) (n cap : Nat) (a : List Am) (c : Int) (w : World) (h : RowV w A n cap a) (hn : n ≤ 600) : Calls Tryz.prog 58 #[.slice A n cap, .int .u16 c] w (GivesNs w (itemsT a c)) := by
  have OKL := Lib.hid (pick_ok (p := pth (pin c)) (norm_st h.ok).ok)
  have LEN := Lib.hid (show (pick (pth (pin c)) (norm a)).length ≤ 600 by
    have := pick_len (pth (pin c)) (norm a)
    have := norm_len a
    have := h.len
    omega)
  have H := Lib.hid h
  have hz := Tryz.zeroValue116
  clear h
  refine (callsIn_wide (n := 10)).1 ?_
  refine callsIn_of_wp_marks Tryz.func58 rfl trivial ?_ rfl
  simp only [Tryz.ntmps58, List.size_toArray, List.length_cons, List.length_nil, Nat.reduceAdd, Nat.reduceSub, Array.replicate_succ, Array.replicate_zero, List.push_toArray, List.append_toArray, List.nil_append, List.cons_append]
  gi_wp2_with (first
    | (refine in_plain wide_no rfl (by intro c h; cases h) ?_; refine wpList_makeNm rfl rfl ?_; intro b w0 eb S0 B0; refine in_done ?_))
  have K5 := Lib.hid ((blk_alloc w0 116 [.map (some b)]).alloc (.cells #[.slice none 0 0] 68))
  have K6 := Lib.hid (blk2 w0 (.cells #[.map (some b)] 116) 68 [.slice none 0 0])
  have B9 := Lib.hid (step_ B0.out (step_ (new_below w0 (.cells #[.map (some b)] 116)) (new_below _ (.cells #[.slice none 0 0] 68))))
  have S9 := Lib.hid ((S0.out.below (new_below w0 (.cells #[.map (some b)] 116))).below (new_below _ (.cells #[.slice none 0 0] 68)))
  have LB := Lib.hid (show b < w0.heap.size from S0.out.lt)
  have LW := Lib.hid (show w.heap.size ≤ b by rw [eb.out]; exact Nat.le_refl _)
  clear S0 B0 eb hz
  refine ⟨trivial, (callsIn_wide.2 (in_is c _)).mono ?_⟩
  rintro e w1 ⟨⟨ga, rfl, k1, l1⟩, b1⟩
  have LA := Lib.hid (show w0.heap.size + 2 ≤ ga by simpa using l1)
  have K1 := Lib.hid k1
  have B1 := Lib.hid (step_ B9.out b1)
  have K51 := Lib.hid (K5.out.below b1)
  have K61 := Lib.hid (K6.out.below b1)
  have S1 := Lib.hid (S9.out.below b1)
  have Z1 := Lib.hid (show w0.heap.size + 2 ≤ w1.heap.size by have := b1.size; simpa using this)
  clear k1 l1 b1 K5 K6 S9 B9
  gi_wp2_with fail
  refine ⟨trivial, (callsIn_wide.2 (there_is _ _ _)).mono ?_⟩
  rintro e w2 ⟨⟨gc, rfl, k2, l2⟩, b2⟩
  have LC := Lib.hid (show w0.heap.size + 2 ≤ gc by have := Z1.out; omega)
  have K2 := Lib.hid k2
  have K12 := Lib.hid (K1.out.below b2)
  have B2 := Lib.hid (step_ B1.out b2)
  have K52 := Lib.hid (K51.out.below b2)
  have K62 := Lib.hid (K61.out.below b2)
  have S2 := Lib.hid (S1.out.below b2)
  have Z2 := Lib.hid (show w0.heap.size + 2 ≤ w2.heap.size by have := b2.size; have := Z1.out; omega)
  clear k2 l2 b2 K51 K61 S1 B1 K1 Z1
  gi_wp2_with fail
  refine ⟨trivial, (callsIn_wide.2 (picks_is A n cap _ _ _)).mono ?_⟩
  rintro e w4 ⟨⟨gd, ge, rfl, k3, k4, l3, l4⟩, b4⟩
  have LD := Lib.hid (show w0.heap.size + 2 ≤ gd by have := Z2.out; omega)
  have LE := Lib.hid (show w0.heap.size + 2 ≤ ge by have := Z2.out; omega)
  have KD := Lib.hid k3
  have KE := Lib.hid k4
  have KA := Lib.hid (K12.out.below b4)
  have KC := Lib.hid (K2.out.below b4)
  have B4 := Lib.hid (step_ B2.out b4)
  have K5 := Lib.hid (K52.out.below b4)
  have K6 := Lib.hid (K62.out.below b4)
  have S4 := Lib.hid (S2.out.below b4)
  have Z4 := Lib.hid (show w0.heap.size + 2 ≤ w4.heap.size by have := b4.size; have := Z2.out; omega)
  clear k3 k4 l3 l4 b4 K52 K62 S2 B2 K12 K2 Z2
  gi_wp2_with fail
  rename_i K0 hK0
  have NN := Lib.hid (show ∀ V, Off2 b (w0.heap.size + 1) w4 V → (Blk V gd 22 [.slice A n cap] ∧ RowV V A n cap a) ∧ Blk V ge 89 [.func (.func 72) #[] #[.pointer (some ⟨gc, 0, none⟩)]] ∧ (Blk V gc 89 [.func (.func 91) #[] #[.pointer (some ⟨ga, 0, none⟩)]] ∧ Blk V ga 23 [.int .u16 c]) from fun V h => by
    have h1 := LA.out; have h2 := LB.out; have h3 := LC.out; have h4 := LD.out; have h5 := LE.out; have h6 := LW.out
    exact ⟨⟨h.blk KD.out (by omega) (by omega), H.out.below (B4.out.trans (h.down (by omega) (by omega) B4.out.size))⟩, h.blk KE.out (by omega) (by omega), h.blk KC.out (by omega) (by omega), h.blk KA.out (by omega) (by omega)⟩)
  refine range_gen (gf := 71) rfl (fun _ _ => rfl) (pick_seq 72 _ (fun _ _ => rfl) _ _ (there_cond (fun _ _ => rfl) (in_cond c ga) (fun V V' h hb => h.below hb) gc) (fun V V' h hb => ⟨h.1.below hb, h.2.below hb⟩) _ _ A n cap a hn) (fun _ => rfl)
    (fun B pre V => IT b (w0.heap.size + 1) 600 B w4 pre V)
    (fun V => False)
    (fun B pre V V' h hb => by
      obtain ⟨D, m, cc, h1, h2⟩ := h.row
      exact ⟨⟨D, m, cc, h1.below hb, h2.below hb⟩, h.set.below hb, h.off.below hb h.off.size, h.len⟩)
    (fun B pre V V' h9 h ho hg hB => by
      obtain ⟨D, m, cc, h1, h2⟩ := h.row
      have hz := Z4.out
      have hlb := LB.out
      exact ⟨⟨D, m, cc, h1.only ho (by omega), h2.keep ho hB⟩, h.set.same (ho.block b h.set.lt (by omega)), h.off.only ho (.inr (.inr (by omega))), h.len⟩)
    (fun B pre V o hB h => by
      obtain ⟨D, m, cc, h1, h2⟩ := h.row
      have hz := Z4.out
      have hlb := LB.out
      exact ⟨⟨D, m, cc, blk_put h1 (by omega), h2.put (h2.ge (by omega))⟩, h.set.same (World.putObj_heap_other (by omega)), h.off.only (only_putObj _ _ _) (.inr (.inr (by omega))), h.len⟩)
    (fun V o h => h.elim)
    (fun V V' g h _ _ => h.elim)
    (fun B pre V h => NN.out V h.off)
    (fun V hb => NN.out V (Off2.of_below hb))
    (fun B V hB hV hb => ⟨⟨none, 0, 0, K6.out.below hb, ownG_nil _ _⟩, S4.out.below hb, Off2.of_below hb, Nat.zero_le _⟩)
    (fun B pre x a' V => x.Ok ∧ pre.length < 600 ∧ ∃ g7, a' = { tmps := #[.slice A n cap, .int .u16 c, undef, undef, .slice none 0 0, .pointer (some ⟨w0.heap.size, 0, none⟩), .pointer (some ⟨w0.heap.size + 1, 0, none⟩), .pointer (some ⟨g7, 0, none⟩), undef, undef, .map (some b), .slice A n cap, .int .u16 c, .func (.func 91) #[] #[.pointer (some ⟨ga, 0, none⟩)], .func (.func 72) #[] #[.pointer (some ⟨gc, 0, none⟩)], .func (.func 71) #[] #[.pointer (some ⟨gd, 0, none⟩), .pointer (some ⟨ge, 0, none⟩)], .agg x.cells.toArray, undef, undef, undef, undef, undef, undef, undef, undef, undef, undef, undef, undef, undef, undef, undef, undef, undef, undef, undef], defers := [] } ∧ B ≤ g7 ∧ Blk V g7 53 x.cells ∧ IT b (w0.heap.size + 1) 600 B w4 pre V)
    (fun B pre x a' V o hB h => by
      obtain ⟨hx, hm, g7, e, l7, k7, h⟩ := h
      obtain ⟨D, m, cc, h1, h2⟩ := h.row
      have hz := Z4.out
      have hlb := LB.out
      exact ⟨hx, hm, g7, e, l7, blk_put k7 (by omega), ⟨D, m, cc, blk_put h1 (by omega), h2.put (h2.ge (by omega))⟩, h.set.same (World.putObj_heap_other (by omega)), h.off.only (only_putObj _ _ _) (.inr (.inr (by omega))), h.len⟩)
    ?assign ?body ?done ?stop
  case assign =>
    intro l B pre x V K hnx hi hB hB2 hlt hK
    have XO := Lib.hid (nx_len hnx OKL.out LEN.out)
    have HI := Lib.hid hi
    have Z1 := Lib.hid (blk_alloc V 53 kzero.cells)
    have hz := zero27
    clear hi hnx
    simp only [encK, List.zip_toArray, List.zip_cons_cons, List.zip_nil_right, List.foldl_toArray', List.foldl_cons, List.foldl_nil, List.size_toArray, List.length_cons, List.length_nil, List.setIfInBounds_toArray, List.set_cons_zero, List.set_cons_succ]
    gi_wp2_with (refine in_plain (wide_in l) rfl (by intro c h; cases h) ?_; refine wpList_store_ky rfl _ _ rfl V.heap.size kzero x rfl rfl Z1.out kzero_ok.ml XO.out.1.ml ?_; intro V1 N1 O1; refine in_done ?_)
    have QQ := box_below O1.out
    obtain ⟨D, m, cc, h1, h2⟩ := HI.out.row
    exact hK _ _ QQ ⟨XO.out.1, XO.out.2, _, rfl, hB2, N1.out, ⟨D, m, cc, h1.below QQ, h2.below QQ⟩, HI.out.set.below QQ, HI.out.off.below QQ HI.out.off.size, HI.out.len⟩
  case body =>
    intro l B pre x a' V hnx hax hB hB2 hlt
    obtain ⟨hx, hm, g7, rfl, l7, k7, hi⟩ := hax
    obtain ⟨D, m, cc, h1, h2⟩ := hi.row
    have XO := Lib.hid hx
    have G7 := Lib.hid k7
    have H1 := Lib.hid h1
    have H2 := Lib.hid h2
    have SM := Lib.hid hi.set
    have OF := Lib.hid hi.off
    have PM := Lib.hid hm
    have LB2 := Lib.hid hB
    have LB3 := Lib.hid hB2
    have PL := Lib.hid (show (nub pre).length ≤ 5000 by have := nub_len pre; omega)
    have NO := Lib.hid (show NOk x.m from ⟨hx.ml, hx.mb⟩)
    have NS := Lib.hid (nub_step pre x)
    have V5 := Lib.hid (hi.off.blk K5.out (by have := LB.out; omega) (by omega))
    have c5 := V5.out.cell (i := 0) rfl
    have c6 := h1.cell (i := 0) rfl
    clear hx k7 h1 h2 hi hm hnx hB hB2 l7
    cases hc : (nub pre).contains x.m with
    | true =>
      have HC := Lib.hid hc
      rw [hc, if_pos rfl] at NS
      clear hc
      gi_wp2_with (first
        | (refine in_plain (wide_in l) rfl (by intro c h; cases h) ?_; refine wpList_load_nm rfl _ rfl g7 2 x.m rfl (G7.out.knm XO.out.ml) XO.out.ml ?_; refine in_done ?_)
        | (refine in_plain (wide_in l) rfl (by intro c h; cases h) ?_; refine wpList_lookNm rfl _ _ rfl b pre.length (nub pre) x.m true rfl rfl SM.out NO.out HC.out ?_; refine in_done ?_)
        | (refine in_plain (wide_in l) rfl (by intro c h; cases h) ?_; refine wpList_alloc0 rfl rfl ?_; intro g8 V1 e8 N8 Q8; refine in_done ?_))
      have OB := Lib.hid (OF.out.below Q8.out OF.out.size)
      refine ⟨KeepL.below Q8.out hlt, fun k h1 h2 => Q8.out.block k (by have := LB3.out; omega), ⟨⟨D, m, cc, H1.out.below Q8.out, ?_⟩, ?_, OB.out, ?_⟩⟩
      · rw [NS.out]; exact H2.out.below Q8.out
      · rw [NS.out]; exact (SM.out.below Q8.out).mono (by simp)
      · rw [List.length_append, List.length_singleton]; have := PM.out; omega
    | false =>
      have HC := Lib.hid hc
      rw [hc, if_neg (by decide)] at NS
      clear hc
      gi_wp2_with (first
        | (refine in_plain (wide_in l) rfl (by intro c h; cases h) ?_; refine wpList_load_nm rfl _ rfl g7 2 x.m rfl (G7.out.knm XO.out.ml) XO.out.ml ?_; refine in_done ?_)
        | (refine in_plain (wide_in l) rfl (by intro c h; cases h) ?_; refine wpList_lookNm rfl _ _ rfl b pre.length (nub pre) x.m false rfl rfl SM.out NO.out HC.out ?_; refine in_done ?_)
        | (refine in_plain (wide_in l) rfl (by intro c h; cases h) ?_; refine wpList_alloc0 rfl rfl ?_; intro g8 V1 e8 N8 Q8; have V51 := Lib.hid (V5.out.below Q8.out); have c51 := V51.out.cell (i := 0) rfl; have G71 := Lib.hid (G7.out.below Q8.out); refine in_done ?_)
        | (refine in_plain (wide_in l) rfl (by intro c h; cases h) ?_; refine wpList_load_nm rfl _ rfl g7 2 x.m rfl (G71.out.knm XO.out.ml) XO.out.ml ?_; refine in_done ?_)
        | (refine in_plain (wide_in l) rfl (by intro c h; cases h) ?_; refine wpList_putNm rfl _ _ _ rfl b pre.length (nub pre) x.m rfl rfl rfl (SM.out.below Q8.out) (by have := PM.out; omega) NO.out ?_; intro V2 S2 O2; have G72 := Lib.hid (G71.out.only O2.out (fun e => (SM.out.below Q8.out).neq G71.out e.symm)); have H12 := Lib.hid ((H1.out.below Q8.out).only O2.out (by have := LB.out; omega)); have c62 := H12.out.cell (i := 0) rfl; have H22 := Lib.hid ((H2.out.below Q8.out).keep O2.out (by have := LB.out; have := LB2.out; have := Z4.out; omega)); refine in_done ?_)
        | (refine in_plain (wide_in l) rfl (by intro c h; cases h) ?_; refine wpList_load_nm rfl _ rfl g7 2 x.m rfl (G72.out.knm XO.out.ml) XO.out.ml ?_; refine in_done ?_)
        | (refine in_plain (wide_in l) rfl (by intro c h; cases h) ?_; refine wpList_oneG LN rfl _ rfl x.m rfl NO.out ?_; intro g3 V3 e3 N3 Q3; refine in_done ?_)
        | (refine in_plain (wide_in l) rfl (by intro c h; cases h) ?_; refine wpList_appG LN rfl _ _ rfl B _ (nub pre) x.m g3 rfl rfl (H22.out.below Q3.out) NO.out N3.out PL.out (Nat.le_trans LB3.out (Nat.le_trans Q8.out.size (Nat.le_trans O2.out.size Q3.out.size))) ?_; intro D7 m7 c7 V4 e7 O7 Q7 R7; refine in_done ?_)
        | (refine in_plain (wide_in l) rfl (by intro c h; cases h) ?_; refine wpList_store34 rfl _ _ rfl (w0.heap.size + 1) (.slice D m cc) D7 m7 c7 rfl rfl (((H12.out.below Q3.out).upto Q7.out (by have := LB2.out; have := Z4.out; omega))) ?_; intro V5' N5 O5; refine in_done ?_))
      have z1 := Q8.out.size
      have z2 := O2.out.size
      have z3 := Q3.out.size
      have z4 := Q7.out.size
      have z5 := O5.out.size
      have zb := LB.out
      have zw := Z4.out
      have zB := LB2.out
      have zV := LB3.out
      have same : ∀ k, k < B → k ≠ b → k ≠ w0.heap.size + 1 → V5'.heap[k]? = V.heap[k]? := fun k h1 h2 h3 => by
        rw [O5.out.block k (by omega) h3, Q7.out.block k h1, Q3.out.block k (by omega), O2.out.block k (by omega) h2, Q8.out.block k (by omega)]
      refine ⟨⟨by omega, same _ (by omega) (by omega) (by omega), same _ (by omega) (by omega) (by omega)⟩, fun k h1 h2 => same k h2 (by omega) (by omega), ⟨⟨D7, m7, c7, N5.out, ?_⟩, ?_, ?_, ?_⟩⟩
      · rw [NS.out]; exact O7.out.keep O5.out (by omega)
      · rw [NS.out, List.length_append, List.length_singleton]
        refine S2.out.same ?_
        rw [O5.out.block b (by omega) (by omega), Q7.out.block b (by omega), Q3.out.block b (by omega)]
      · exact (((OF.out.below Q8.out OF.out.size).only O2.out (.inl rfl)).below Q3.out (by omega)).below Q7.out (by omega) |>.only O5.out (.inr (.inl rfl))
      · rw [List.length_append, List.length_singleton]; have := PM.out; omega
  case done =>
    intro D9 B t V hD hD2 hB hf hi hd
    subst hf
    obtain ⟨D1, m1, c1, h1, h2⟩ := hi.row
    have OW := Lib.hid h2
    have OF := Lib.hid hi.off
    have c0 := h1.cell (i := 0) rfl
    have HD := Lib.hid hd
    have LB9 := Lib.hid hB
    have L9 := Lib.hid hD
    have L99 := Lib.hid hD2
    clear hd h1 h2 hi
    refine hK0 _ _ ?_
    gi_wp2_with fail
    have zb := LB.out
    have zw := LW.out
    have z4 := Z4.out
    have zB := LB9.out
    have zD := L9.out
    have zDD := L99.out
    refine marks_ret D9 rfl HD.out (results_tmp rfl _ _ _) ?_
    exact ⟨⟨_, rfl, (OW.out.down (show w.heap.size ≤ B by omega)).put (OW.out.ge (by omega))⟩, below_put (B4.out.trans (OF.out.down (by omega) (by omega) B4.out.size)) (by omega)⟩
  case stop =>
    intro D9 V hD hx hd
    exact hx.elim
end Go.Proofs.YtijfbhdbfplghaaGreat
