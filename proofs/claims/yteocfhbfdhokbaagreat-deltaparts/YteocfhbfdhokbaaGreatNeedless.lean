/- The contract of Needless of package delta. -/
import Derived.Test.YteocfhbfdhokbaaGreatSpares
namespace Go.Proofs.YteocfhbfdhokbaaGreat
open Go.RowKit

section
variable {o : Oper} {a : Act} {w : World}
theorem exec_lookC (x y : Operand) (ho : o.op = .lookup 49 x y false) (b n : Nat) (f : Am → Int) (k : Am) (hx : a.eval x = .map (some b)) (hy : a.eval y = .agg k.cells.toArray) (hm : MapC w b n f) (hk : k.Ok) :
    (execOp a.eval o).run Tryz.prog w = .ok (.value (.int .i64 (f k))) w := by
  have hr := run_lookC hm hk
  unfold execOp
  simp only [ho, hx, hy, Sem.run_bind, hr, Result.andThen_ok, Sem.run_pure]
theorem exec_add1 (x : Operand) (ho : o.op = .binOp .add 3 x (.const (.int .i64 1)) 3) (z : Int) (hx : a.eval x = .int .i64 z) (hz : -100000 ≤ z ∧ z ≤ 100000) :
    (execOp a.eval o).run Tryz.prog w = .ok (.value (.int .i64 (z + 1))) w := by
  have hc : a.eval (.const (.int .i64 1)) = .int .i64 1 := rfl
  unfold execOp
  simp only [ho]
  rw [hx, hc]
  simp [go_sem]
  rw [IntKind.wrap_i64]; omega
theorem exec_sub1 (x : Operand) (ho : o.op = .binOp .sub 3 x (.const (.int .i64 1)) 3) (z : Int) (hx : a.eval x = .int .i64 z) (hz : -100000 ≤ z ∧ z ≤ 100000) :
    (execOp a.eval o).run Tryz.prog w = .ok (.value (.int .i64 (z - 1))) w := by
  have hc : a.eval (.const (.int .i64 1)) = .int .i64 1 := rfl
  unfold execOp
  simp only [ho]
  rw [hx, hc]
  simp [go_sem]
  rw [IntKind.wrap_i64]; omega
end
section
variable {ops : Array Oper} {Q : Exit → Act → World → Prop} {md : Region.Mode} {S : World → Prop} {fuel : Nat} {listed : Array Bool} {a : Act} {w : World} {i : Nat} {o : Oper} {rs : List Nat}
theorem ready_lookC (ho : ops[i]? = some o) (hg : o.guard = none) (x y : Operand) (hop : o.op = .lookup 49 x y false) (b n : Nat) (f : Am → Int) (k : Am) (hx : a.eval x = .map (some b)) (hy : a.eval y = .agg k.cells.toArray) (hm : MapC w b n f) (hk : k.Ok)
    (h : S w ∧ wpAnyH Tryz.prog md ops Q S fuel (listed.setIfInBounds i true) (a.put o.dst (.int .i64 (f k))) w)
    (hs : AllReadyH Tryz.prog md ops Q S fuel listed a w rs) : AllReadyH Tryz.prog md ops Q S fuel listed a w (i :: rs) := by
  refine AllReadyH.cons ho (fun K hK => ?_) hs
  have hw : Region.wanted o (yielded ops a.tmps) = true := by simp [Region.wanted, hg]
  rw [if_pos hw]
  unfold Oper.wp
  rw [exec_lookC x y hop b n f k hx hy hm hk]
  exact hK.out _ _ h.1 (fun _ => h.2)
theorem ready_entry (ho : ops[i]? = some o) (hg : o.guard = none) (x y : Operand) (hop : o.op = .mapEntry 49 x y) (b n : Nat) (f : Am → Int) (k : Am) (hx : a.eval x = .map (some b)) (hy : a.eval y = .agg k.cells.toArray) (hm : MapC w b n f) (hn : n ≤ 50000) (hk : k.Ok)
    (h : ∀ (v0 : Value) (st : Nat) (w1 : World), MapC w1 b (n + 1) f → Only b w w1 → Pend w1 b st k n f → S w1 ∧ wpAnyH Tryz.prog md ops Q S fuel (listed.setIfInBounds i true) (a.put o.dst (.tuple #[v0, goInt st])) w1)
    (hs : AllReadyH Tryz.prog md ops Q S fuel listed a w rs) : AllReadyH Tryz.prog md ops Q S fuel listed a w (i :: rs) := by
  refine AllReadyH.cons ho (fun K hK => ?_) hs
  have hw : Region.wanted o (yielded ops a.tmps) = true := by simp [Region.wanted, hg]
  rw [if_pos hw]
  obtain ⟨v0, st, w1, hr, h1, h2, h3⟩ := run_entryC hm hn hk
  have H := h v0 st w1 h1 (only_of_grown h2) h3
  unfold Oper.wp execOp
  simp only [hop, hx, hy, Sem.run_bind, hr, Result.andThen_ok, Sem.run_pure]
  exact hK.out _ _ H.1 (fun _ => H.2)
theorem ready_estore (ho : ops[i]? = some o) (hg : o.guard = none) (x y z : Operand) (hop : o.op = .entryStore 49 x y z) (b st : Nat) (k : Am) (n : Nat) (f : Am → Int) (v : Int) (hx : a.eval x = .map (some b)) (hy : a.eval y = goInt st) (hz : a.eval z = .int .i64 v) {w1 : World} (hp : Pend w1 b st k n f) (hb : w.heap[b]? = w1.heap[b]?)
    (h : ∀ w3, MapC w3 b (n + 1) (updC f k v) → Only b w w3 → S w3 ∧ wpAnyH Tryz.prog md ops Q S fuel (listed.setIfInBounds i true) (a.put o.dst undef) w3)
    (hs : AllReadyH Tryz.prog md ops Q S fuel listed a w rs) : AllReadyH Tryz.prog md ops Q S fuel listed a w (i :: rs) := by
  refine AllReadyH.cons ho (fun K hK => ?_) hs
  have hw : Region.wanted o (yielded ops a.tmps) = true := by simp [Region.wanted, hg]
  rw [if_pos hw]
  obtain ⟨w3, hr, h1, h2⟩ := hp w v hb
  have H := h w3 h1 (only_of_grown h2)
  unfold Oper.wp execOp
  simp only [hop, hx, hy, hz, Sem.run_bind, hr, Result.andThen_ok, Sem.run_pure]
  exact hK.out _ _ H.1 (fun _ => H.2)
end
theorem info3s : (Tryz.prog.info? 3).map (·.size) = some 1 := by kernel_rfl
theorem fill3 (v : Value) : (Array.map (fun x => [Value.int IntKind.i64 0][x % 1]?.getD default) (Array.range 1)).setIfInBounds 0 v = #[v] := by kernel_rfl
theorem run_ints1 (i : Int) (w : World) : (Instr.buildSlice 26 1 #[(0, .int .i64 i)]).run Tryz.prog w = .ok (.slice (some ⟨w.heap.size, 0, none⟩) 1 1) (w.alloc (.cells #[.int .i64 i] 3)) := by
  have hz := Tryz.zeroValue3
  have hsz := Tryz.sizeOf3
  simp only [Instr.buildSlice, Sem.run_bind, run_underlying Tryz.underlying26, Result.andThen_ok, hsz]
  rw [if_neg (by decide), if_neg (by decide)]
  simp [hz, Instr.fill, Value.cells]
  rw [fill3]
  rfl
theorem wpList_ints1 {ops : Array Oper} {rest : List Oper} {op : Oper} {a : Act} {w : World} {Q : Exit → Act → World → Prop} (hgd : op.guard = none) (x : Operand) (ho : op.op = .buildSlice 26 1 #[(0, x)]) (i : Int) (hx : a.eval x = .int .i64 i)
    (h : ∀ g w', Hid (g = w.heap.size) → Hid (Blk w' g 3 [.int .i64 i]) → Hid (Below w.heap.size w w') → wpList Tryz.prog ops Q rest (a.put op.dst (.slice (some ⟨g, 0, none⟩) 1 1)) w') : wpList Tryz.prog ops Q (op :: rest) a w := by
  refine wpList_plain hgd fun K hK => ?_
  have hrun := run_ints1 i w
  unfold Oper.wp execOp
  simp only [ho, List.map_toArray, List.map_cons, List.map_nil, hx, Sem.run_bind, hrun, Result.andThen_ok, Sem.run_pure]
  exact hK _ _ (h _ _ (Lib.hid rfl) (Lib.hid (blk_alloc w 3 [.int .i64 i])) (Lib.hid (new_below w _)))
theorem OwnI.only {w w' : World} {B g : Nat} {v : Value} {l : List Nat} (h : OwnI w B v l) (ho : Only g w w') (hg : g < B) : OwnI w' B v l :=
  h.kept (o := some g) ⟨ho.os, ho.tape, ho.output, ho.size, fun k hk hn => ho.block k hk (fun e => hn (by rw [e]))⟩ (.inr (fun e => by have := (h.lt e).1; omega))
/-- A slice that reads as numbers. -/
structure IntsV (w : World) (A : Option Addr) (n cap : Nat) (l : List Nat) : Prop where
  len : l.length = n
  at_ : ∀ i, i < n → ∃ G off, A = some ⟨G, off, none⟩ ∧ G < w.heap.size ∧ w.cell? ⟨G, off + i, none⟩ = some (.int .i64 (l.getD i 0 : Nat))
theorem IntsV.below {w w' : World} {A : Option Addr} {n cap : Nat} {l : List Nat} (h : IntsV w A n cap l) (hb : Below w.heap.size w w') : IntsV w' A n cap l :=
  ⟨h.len, fun i hi => by obtain ⟨G, off, e, hG, hc⟩ := h.at_ i hi; exact ⟨G, off, e, Nat.lt_of_lt_of_le hG hb.size, (hb.cell (p := ⟨G, off + i, none⟩) hG).trans hc⟩⟩
theorem OwnI.ints {w : World} {B : Nat} {A : Option Addr} {n cap : Nat} {l : List Nat} (h : OwnI w B (.slice A n cap) l) : IntsV w A n cap l := by
  rcases h.row.2 with ⟨e, h0⟩ | ⟨g, cap', cur, e, hb, hg, hn, hcm, hs, ht⟩
  · simp only [Value.slice.injEq] at e
    obtain ⟨rfl, rfl, rfl⟩ := e
    exact ⟨h0, fun i hi => absurd hi (Nat.not_lt_zero _)⟩
  · simp only [Value.slice.injEq] at e
    obtain ⟨rfl, rfl, rfl⟩ := e
    refine ⟨rfl, fun i hi => ⟨g, 0, rfl, (Array.getElem?_eq_some_iff.1 hg).1, ?_⟩⟩
    rw [cell_of_row _ g _ cur 3 (0, 0) hg, Nat.zero_add]
    have e : (l.map fun (n : Nat) => Value.int .i64 (n : Int))[i]? = some (.int .i64 (l.getD i 0 : Nat)) := by rw [List.getElem?_map, List.getD_eq_getElem?_getD, List.getElem?_eq_getElem hi]; rfl
    rw [← ht, List.getElem?_take_of_lt (by omega)] at e
    simpa using e
theorem OwnI.fresh {w : World} {B : Nat} {A : Option Addr} {n cap : Nat} {l : List Nat} (h : OwnI w B (.slice A n cap) l) : ∀ a, A = some a → B ≤ a.block := fun a ha => by
  rcases h.row.2 with ⟨e, _⟩ | ⟨g, c, cur, e, hb, _⟩
  · simp only [Value.slice.injEq] at e; rw [e.1] at ha; cases ha
  · simp only [Value.slice.injEq] at e; rw [e.1] at ha; obtain rfl := Option.some.inj ha; exact hb
/-- The call answers numbers. -/
def GivesI (w : World) (l : List Nat) (e : Ending) (w' : World) : Prop := (∃ A n cap, e = .returned (.slice A n cap) ∧ IntsV w' A n cap l ∧ ∀ a, A = some a → w.heap.size ≤ a.block) ∧ Below w.heap.size w w'
theorem up_count {l : List Am} {x : Am} {f : Am → Int} (hf : (fun a => ((l.count a : Nat) : Int)) = f) : (fun a => (((l ++ [x]).count a : Nat) : Int)) = updC f x (f x + 1) := by
  subst hf
  funext a
  unfold updC
  rw [List.count_append]
  by_cases e : a = x
  · subst e; rw [if_pos rfl]; simp
  · rw [if_neg e, List.count_singleton, if_neg (by simpa using fun h : x = a => e h.symm)]; simp
theorem down_count {l : List Am} {x : Am} {C f : Am → Int} (hf : (fun a => C a - ((l.count a : Nat) : Int)) = f) : (fun a => C a - (((l ++ [x]).count a : Nat) : Int)) = updC f x (f x - 1) := by
  subst hf
  funext a
  unfold updC
  rw [List.count_append]
  by_cases e : a = x
  · subst e; rw [if_pos rfl]; simp; omega
  · rw [if_neg e, List.count_singleton, if_neg (by simpa using fun h : x = a => e h.symm)]; simp
theorem tops_len {S : Ky → Option Vl} {ls : List (List Am)} : (ls.map (top S)).flatten.length ≤ ls.flatten.length := by
  induction ls with
  | nil => exact Nat.le_refl _
  | cons l ls ih =>
    simp only [List.map_cons, List.flatten_cons, List.length_append]
    have h1 : (top S l).length ≤ l.length := Nat.le_trans (List.length_filter_le ..) (norm_len l)
    omega
theorem flat_take_len {R : List (List Am)} {j : Nat} (h : j < R.length) : (R.take (j + 1)).flatten.length = (R.take j).flatten.length + (R.getD j []).length := by
  rw [takeL_getD h, List.flatten_append, List.flatten_singleton, List.length_append]
theorem flat_take_le {R : List (List Am)} (j : Nat) : (R.take j).flatten.length ≤ R.flatten.length := by
  conv => rhs; rw [← List.take_append_drop j R, List.flatten_append, List.length_append]
  omega
theorem spare_any {S : Ky → Option Vl} {m : List (List Am)} {r : List Am} : (!(top S r).any fun x => decide ((((cnt S m x : Nat) : Int)) = 1)) = spare S m r := by
  unfold spare
  congr 2
  funext x
  exact decide_eq_decide.2 (by omega)
theorem map_getD {S : Ky → Option Vl} {ls : List (List Am)} {j : Nat} (h : j < ls.length) : (ls.map (top S)).getD j [] = top S (ls.getD j []) := by
  rw [List.getD_eq_getElem?_getD, List.getElem?_map, List.getD_eq_getElem?_getD, List.getElem?_eq_getElem h]; rfl
theorem cnt_le {S : Ky → Option Vl} : ∀ {m : List (List Am)}, OkM m → ∀ a, cnt S m a ≤ m.length
  | [], _, _ => Nat.le_refl _
  | r :: m, h, a => by
    have h1 := cnt_le (S := S) (fun x hx => h x (List.mem_cons_of_mem _ hx)) a
    have h2 := top_one (S := S) (h r (List.mem_cons_self ..)) a
    unfold cnt at *
    rw [List.map_cons, List.flatten_cons, List.count_append, List.length_cons]
    omega
set_option maxRecDepth 100000 in
set_option maxHeartbeats 16000000 in
theorem needless_is (A : Option Addr) (n cap : Nat) (ls : List (List Am)) (w : World) (h : RowsV w A n cap ls) (hf : FewR ls) : Calls Tryz.prog 11 #[.slice A n cap] w (GivesI w (needless ls)) := by
  have hmf : ∀ (fn : Fn) (first cap : Array Value) (w : World), (Instr.makeFunc fn first cap).run Tryz.prog w = .ok (.func fn first cap) w := fun _ _ _ _ => rfl
  have hmm := @run_makeMap Tryz.prog
  have hz := zero32
  have OKM := Lib.hid (show OkM ls from h.ok)
  have LEN := Lib.hid h.len
  have hn : n ≤ 100 := by have := h.len; have := hf.1; omega
  obtain ⟨S, hS⟩ : ∃ S, gt ls.flatten = S := ⟨_, rfl⟩
  have HS := Lib.hid hS
  obtain ⟨RR, hR⟩ : ∃ RR, ls.map (top S) = RR := ⟨_, rfl⟩
  have HR := Lib.hid hR
  have TL := Lib.hid (show RR.flatten.length ≤ 600 by rw [← hR]; exact Nat.le_trans tops_len hf.2)
  have RL := Lib.hid (show RR.length = n by rw [← hR, List.length_map]; exact h.len)
  have H := Lib.hid h
  have FF := Lib.hid hf
  clear h hf hS hR
  go_enter Tryz.func11, Tryz.ntmps11
  go_wp2_with fail
  refine (peaks_is A n cap ls _ H.out FF.out).mono ?_
  rw [HS.out, HR.out]
  rintro e w1 ⟨⟨D1, n1, c1, rfl, r1⟩, b1⟩
  have R1 := Lib.hid r1
  have B1 := Lib.hid b1
  obtain rfl : n1 = n := by have := r1.len; have := RL.out; omega
  have Q1 := Lib.hid (step_ (new_below w1 (.map #[] 0)) (new_below _ (.cells #[.map (some w1.heap.size)] 49)))
  have K1 := Lib.hid (blk2 w1 (.map #[] 0) 49 [.map (some w1.heap.size)])
  have M1 := Lib.hid ((mapC_made w1).below (new_below _ (.cells #[.map (some w1.heap.size)] 49)))
  clear r1 b1 H FF
  go_wp2_with fail
  go_loopw [20] (fun i wr => ∃ j : Nat, j ≤ n1 ∧ i = .int .i64 j ∧ MapC wr w1.heap.size (RR.take j).flatten.length (fun a => (((RR.take j).flatten.count a : Nat) : Int)) ∧ Below w1.heap.size w1 wr ∧ Blk wr (w1.heap.size + 1) 49 [.map (some w1.heap.size)]) (fun i _ => n1 - (intOf i).toNat)
  case atStart => exact ⟨0, Nat.zero_le _, rfl, M1.out, Q1.out, K1.out⟩
  case round =>
    obtain ⟨j, hj, rfl, hm, hb, hk⟩ := hrel
    have MM := Lib.hid hm
    have BB := Lib.hid hb
    have KK := Lib.hid hk
    clear hm hb hk
    by_cases hlt : j < n1
    · obtain ⟨G, p, D2, m2, c2, hE⟩ := (R1.out.below BB.out).elem j hlt
      have E := Lib.hid hE
      have cell := E.out.cell
      have FT := Lib.hid (show (RR.take (j + 1)).flatten = (RR.take j).flatten ++ RR.getD j [] by rw [takeL_getD (by rw [RL.out]; exact hlt), List.flatten_append, List.flatten_singleton])
      have FL := Lib.hid (show (RR.take j).flatten.length + (RR.getD j []).length ≤ 600 by have := flat_take_le (R := RR) (j + 1); rw [flat_take_len (by rw [RL.out]; exact hlt)] at this; have := TL.out; omega)
      have hm2 : (RR.getD j []).length = m2 := hE.row.len
      obtain ⟨P, hP⟩ : ∃ P, (RR.take j).flatten = P := ⟨_, rfl⟩
      obtain ⟨L, hL⟩ : ∃ L, RR.getD j [] = L := ⟨_, rfl⟩
      rw [hP] at MM FT FL
      rw [hL] at E FT FL hm2
      clear hE hP hL
      have hm2' : m2 ≤ 600 := by have := FL.out; omega
      have E2 := Lib.hid E.out.row
      go_wp2_with (first
        | go_skip
        | refine wpList_index40 rfl _ _ rfl D1 n1 c1 G p j D2 m2 c2 _ _ rfl rfl (by first | rfl | omega) E.out ?_)
      go_loopw [26] (fun i wr => ∃ q : Nat, q ≤ m2 ∧ i = .int .i64 q ∧ MapC wr w1.heap.size (P.length + q) (fun a => (((P ++ L.take q).count a : Nat) : Int)) ∧ Below w1.heap.size w1 wr ∧ Blk wr (w1.heap.size + 1) 49 [.map (some w1.heap.size)] ∧ RowV wr D2 m2 c2 L) (fun i _ => m2 - (intOf i).toNat)
      case atStart => exact ⟨0, Nat.zero_le _, rfl, by simpa using MM.out, BB.out, KK.out, E2.out⟩
      case round =>
        obtain ⟨q, hq, rfl, hm, hb, hk, hr⟩ := hrel
        have MM := Lib.hid hm
        have BB := Lib.hid hb
        have KK := Lib.hid hk
        have R2 := Lib.hid hr
        clear hm hb hk hr
        by_cases hlq : q < m2
        · obtain ⟨G1, p1, hE1⟩ := R2.out.elem q hlq
          have E1 := Lib.hid hE1
          have T1 := Lib.hid (take_getD (l := L) (j := q) (by omega))
          obtain ⟨x, hx⟩ : ∃ x, L.getD q azero = x := ⟨_, rfl⟩
          rw [hx] at E1 T1
          clear hE1 hx
          have XO := Lib.hid E1.out.ok
          have Z := Lib.hid (blk_alloc wr 46 azero.cells)
          have CT := Lib.hid (show (P ++ L.take q).count x ≤ 600 from Nat.le_trans (List.count_le_length) (by rw [List.length_append, List.length_take]; have := FL.out; omega))
          obtain ⟨f, hf⟩ : ∃ f, (fun a => (((P ++ L.take q).count a : Nat) : Int)) = f := ⟨_, rfl⟩
          have UC := Lib.hid (show (fun a => (((P ++ L.take (q + 1)).count a : Nat) : Int)) = updC f x (f x + 1) by rw [T1.out, ← List.append_assoc]; exact up_count hf)
          have FX := Lib.hid (show -100000 ≤ f x ∧ f x ≤ 100000 by rw [← hf]; have := CT.out; simp only; omega)
          rw [hf] at MM
          clear hf
          obtain ⟨M0, hM0⟩ : ∃ M0, P.length + q = M0 := ⟨_, rfl⟩
          have MB := Lib.hid (show M0 ≤ 50000 by have := FL.out; omega)
          have ME := Lib.hid hM0
          rw [hM0] at MM
          clear hM0
          go_wp2_with (first
            | go_skip
            | refine wpList_index rfl _ _ rfl D2 m2 c2 G1 p1 q x _ rfl rfl (by first | rfl | omega) E1.out ?_
            | refine wpList_load_amx rfl _ rfl G1 p1 x rfl E1.out.rg XO.out ?_
            | (refine wpList_store_am rfl _ _ rfl wr.heap.size azero x rfl rfl Z.out azero_ok XO.out ?_; intro w3 N3 O3; have B3 := Lib.hid (box_below O3.out)))
          have MM3 := Lib.hid (MM.out.below B3.out)
          have BB3 := Lib.hid (BB.out.trans (B3.out.mono BB.out.size))
          have KK3 := Lib.hid (KK.out.below B3.out)
          have G7 := Lib.hid (show w1.heap.size + 1 < wr.heap.size from KK.out.lt)
          obtain ⟨g7, hg7⟩ : ∃ g7, wr.heap.size = g7 := ⟨_, rfl⟩
          have R3 := Lib.hid (R2.out.below B3.out)
          rw [hg7] at G7 N3 ⊢
          have OR := Lib.hid (show ∀ W', Only w1.heap.size w3.drew W' → RowV W' D2 m2 c2 L from fun W' ho => (R3.out.below (below_drew (Below.refl _ _))).nomap ho (MM3.out.below (below_drew (Below.refl _ _))))
          clear hg7
          have M1 := Lib.hid (show MapC w3.drew w1.heap.size M0 f from MM3.out.below (below_drew (Below.refl _ _)))
          have S1 := Lib.hid (show Below w1.heap.size w1 w3.drew ∧ Blk w3.drew (w1.heap.size + 1) 49 [.map (some w1.heap.size)] ∧ Blk w3.drew g7 46 x.cells from ⟨below_drew BB3.out, KK3.out.drew, N3.out.drew⟩)
          refine wp_region_noPanic ?_
          refine wp_region_held_drew (S := fun W => Below w1.heap.size w1 W ∧ Blk W (w1.heap.size + 1) 49 [.map (some w1.heap.size)] ∧ Blk W g7 46 x.cells) (by kernel_rfl) S1.out (fun _ => ?_)
          refine wpAnyH_take (i := 0) (oi := { dst := some 30, op := Go.Op.load 49 (Go.Operand.tmp 4), type := 49, pos := _, after := #[], guard := none }) (v := ?_) rfl (by kernel_rfl) (by kernel_rfl) (by kernel_rfl) (fun _ _ _ h => h) (Or.inl ⟨by rfl, ?_⟩) S1.out ?_
          rotate_left
          · intro W hW; have c0 := hW.2.1.cell (i := 0) rfl; (go_simp; try with_reducible rfl)
          try simp only [Act.put, List.setIfInBounds_toArray, List.set_cons_zero, List.set_cons_succ]
          refine wpAnyH_take (i := 1) (oi := { dst := some 31, op := Go.Op.load 46 (Go.Operand.tmp 8), type := 46, pos := _, after := #[], guard := none }) (v := .agg x.cells.toArray) rfl (by kernel_rfl) (by kernel_rfl) (by kernel_rfl) (fun _ _ _ h => h) (yieldsIf_load_mid (by rfl) 46 (.tmp 8) rfl g7 0 rfl x.cells _ (fun W hW => hW.2.2.range) Tryz.underlying46 rfl (size32 XO.out)) S1.out ?_
          try simp only [Act.put, List.setIfInBounds_toArray, List.set_cons_zero, List.set_cons_succ]
          refine wpAnyH_ready (rs := [2, 4]) (by kernel_rfl) (by simp) ?_
          refine ready_lookC (o := { dst := some 32, op := Go.Op.lookup 49 (Go.Operand.tmp 30) (Go.Operand.tmp 31) false, type := 3, pos := _, after := #[{ on := 0, ground := Go.Ground.data }, { on := 1, ground := Go.Ground.data }], guard := none }) rfl rfl _ _ rfl w1.heap.size M0 f x rfl rfl M1.out XO.out ⟨S1.out, ?_⟩ ?_
          · skip
            try simp only [Act.put, List.setIfInBounds_toArray, List.set_cons_zero, List.set_cons_succ]
            refine wpAnyH_take (i := 3) (oi := { dst := some 33, op := Go.Op.binOp Go.BinOp.add 3 (Go.Operand.tmp 32) (Go.Operand.const (Go.Value.int Go.IntKind.i64 1)) 3, type := 3, pos := _, after := #[{ on := 2, ground := Go.Ground.data }], guard := none }) (v := .int .i64 (f x + 1)) rfl (by kernel_rfl) (by kernel_rfl) (by kernel_rfl) (fun _ _ _ h => h) (Or.inl ⟨by rfl, fun W hW => exec_add1 _ rfl (f x) rfl FX.out⟩) S1.out ?_
            try simp only [Act.put, List.setIfInBounds_toArray, List.set_cons_zero, List.set_cons_succ]
            refine wpAnyH_ready (rs := [4]) (by kernel_rfl) (by simp) ?_
            refine ready_entry (o := { dst := some 34, op := Go.Op.mapEntry 49 (Go.Operand.tmp 30) (Go.Operand.tmp 31), type := 0, pos := _, after := #[{ on := 0, ground := Go.Ground.data }, { on := 1, ground := Go.Ground.data }, { on := 0, ground := Go.Ground.phase }, { on := 1, ground := Go.Ground.phase }, { on := 2, ground := Go.Ground.textOnly Go.Departure.mapOpAssignEntry }, { on := 3, ground := Go.Ground.textOnly Go.Departure.mapOpAssignEntry }], guard := none }) rfl rfl _ _ rfl w1.heap.size M0 f x rfl rfl M1.out MB.out XO.out (fun v0 st w4 m4 o4 p4 => ?_) AllReadyH.nil
            have S4 := Lib.hid (show Below w1.heap.size w1 w4 ∧ Blk w4 (w1.heap.size + 1) 49 [.map (some w1.heap.size)] ∧ Blk w4 g7 46 x.cells from ⟨S1.out.1.trans (o4.below (Nat.le_refl _) S1.out.1.size), S1.out.2.1.only o4 (by omega), S1.out.2.2.only o4 (by have := G7.out; omega)⟩)
            have P4 := Lib.hid p4
            have M4 := Lib.hid m4
            have O4 := Lib.hid o4
            clear m4 o4 p4
            refine ⟨S4.out, ?_⟩
            try simp only [Act.put, List.setIfInBounds_toArray, List.set_cons_zero, List.set_cons_succ]
            refine wpAnyH_take (i := 5) (oi := { dst := some 35, op := Go.Op.extract (Go.Operand.tmp 34) 1, type := 3, pos := _, after := #[{ on := 4, ground := Go.Ground.data }], guard := none }) (v := ?_) rfl (by kernel_rfl) (by kernel_rfl) (by kernel_rfl) (fun _ _ _ h => h) (Or.inl ⟨by rfl, ?_⟩) S4.out ?_
            rotate_left
            · intro W hW; (go_simp; try with_reducible rfl)
            try simp only [Act.put, List.setIfInBounds_toArray, List.set_cons_zero, List.set_cons_succ]
            refine wpAnyH_ready (rs := [6]) (by kernel_rfl) (by simp) ?_
            refine ready_estore (o := { dst := none, op := Go.Op.entryStore 49 (Go.Operand.tmp 30) (Go.Operand.tmp 35) (Go.Operand.tmp 33), type := 0, pos := _, after := #[{ on := 0, ground := Go.Ground.data }, { on := 5, ground := Go.Ground.data }, { on := 3, ground := Go.Ground.data }, { on := 4, ground := Go.Ground.chain }, { on := 0, ground := Go.Ground.phase }, { on := 1, ground := Go.Ground.phase }, { on := 2, ground := Go.Ground.phase }, { on := 3, ground := Go.Ground.phase }, { on := 4, ground := Go.Ground.phase }, { on := 5, ground := Go.Ground.phase }], guard := none }) rfl rfl _ _ _ rfl w1.heap.size st x M0 f (f x + 1) rfl rfl rfl P4.out rfl (fun w5 m5 o5 => ?_) AllReadyH.nil
            have S5 := Lib.hid (show Below w1.heap.size w1 w5 ∧ Blk w5 (w1.heap.size + 1) 49 [.map (some w1.heap.size)] ∧ Blk w5 g7 46 x.cells from ⟨S4.out.1.trans (o5.below (Nat.le_refl _) S4.out.1.size), S4.out.2.1.only o5 (by omega), S4.out.2.2.only o5 (by have := G7.out; omega)⟩)
            have M5 := Lib.hid m5
            have O5 := Lib.hid (O4.out.trans o5)
            clear m5 o5
            refine ⟨S5.out, ?_⟩
            simp only [Act.put]
            refine wpAnyH_done (by kernel_rfl) ?_ _
            refine NoPanic.normal ?_
            go_wp2_with fail
            go_roundw
            case rel => exact ⟨q + 1, by omega, by go_num, by rw [UC.out]; exact M5.out.mono (by have := ME.out; omega), S5.out.1, S5.out.2.1, OR.out _ O5.out⟩
            case measure => simp [intOf]; omega
          · skip
            refine ready_entry (o := { dst := some 34, op := Go.Op.mapEntry 49 (Go.Operand.tmp 30) (Go.Operand.tmp 31), type := 0, pos := _, after := #[{ on := 0, ground := Go.Ground.data }, { on := 1, ground := Go.Ground.data }, { on := 0, ground := Go.Ground.phase }, { on := 1, ground := Go.Ground.phase }, { on := 2, ground := Go.Ground.textOnly Go.Departure.mapOpAssignEntry }, { on := 3, ground := Go.Ground.textOnly Go.Departure.mapOpAssignEntry }], guard := none }) rfl rfl _ _ rfl w1.heap.size M0 f x rfl rfl M1.out MB.out XO.out (fun v0 st w4 m4 o4 p4 => ?_) AllReadyH.nil
            have S4 := Lib.hid (show Below w1.heap.size w1 w4 ∧ Blk w4 (w1.heap.size + 1) 49 [.map (some w1.heap.size)] ∧ Blk w4 g7 46 x.cells from ⟨S1.out.1.trans (o4.below (Nat.le_refl _) S1.out.1.size), S1.out.2.1.only o4 (by omega), S1.out.2.2.only o4 (by have := G7.out; omega)⟩)
            have P4 := Lib.hid p4
            have M4 := Lib.hid m4
            have O4 := Lib.hid o4
            clear m4 o4 p4
            refine ⟨S4.out, ?_⟩
            try simp only [Act.put, List.setIfInBounds_toArray, List.set_cons_zero, List.set_cons_succ]
            refine wpAnyH_take (i := 5) (oi := { dst := some 35, op := Go.Op.extract (Go.Operand.tmp 34) 1, type := 3, pos := _, after := #[{ on := 4, ground := Go.Ground.data }], guard := none }) (v := ?_) rfl (by kernel_rfl) (by kernel_rfl) (by kernel_rfl) (fun _ _ _ h => h) (Or.inl ⟨by rfl, ?_⟩) S4.out ?_
            rotate_left
            · intro W hW; (go_simp; try with_reducible rfl)
            try simp only [Act.put, List.setIfInBounds_toArray, List.set_cons_zero, List.set_cons_succ]
            refine wpAnyH_ready (rs := [2]) (by kernel_rfl) (by simp) ?_
            refine ready_lookC (o := { dst := some 32, op := Go.Op.lookup 49 (Go.Operand.tmp 30) (Go.Operand.tmp 31) false, type := 3, pos := _, after := #[{ on := 0, ground := Go.Ground.data }, { on := 1, ground := Go.Ground.data }], guard := none }) rfl rfl _ _ rfl w1.heap.size (M0 + 1) f x rfl rfl M4.out XO.out ⟨S4.out, ?_⟩ AllReadyH.nil
            try simp only [Act.put, List.setIfInBounds_toArray, List.set_cons_zero, List.set_cons_succ]
            refine wpAnyH_take (i := 3) (oi := { dst := some 33, op := Go.Op.binOp Go.BinOp.add 3 (Go.Operand.tmp 32) (Go.Operand.const (Go.Value.int Go.IntKind.i64 1)) 3, type := 3, pos := _, after := #[{ on := 2, ground := Go.Ground.data }], guard := none }) (v := .int .i64 (f x + 1)) rfl (by kernel_rfl) (by kernel_rfl) (by kernel_rfl) (fun _ _ _ h => h) (Or.inl ⟨by rfl, fun W hW => exec_add1 _ rfl (f x) rfl FX.out⟩) S4.out ?_
            try simp only [Act.put, List.setIfInBounds_toArray, List.set_cons_zero, List.set_cons_succ]
            refine wpAnyH_ready (rs := [6]) (by kernel_rfl) (by simp) ?_
            refine ready_estore (o := { dst := none, op := Go.Op.entryStore 49 (Go.Operand.tmp 30) (Go.Operand.tmp 35) (Go.Operand.tmp 33), type := 0, pos := _, after := #[{ on := 0, ground := Go.Ground.data }, { on := 5, ground := Go.Ground.data }, { on := 3, ground := Go.Ground.data }, { on := 4, ground := Go.Ground.chain }, { on := 0, ground := Go.Ground.phase }, { on := 1, ground := Go.Ground.phase }, { on := 2, ground := Go.Ground.phase }, { on := 3, ground := Go.Ground.phase }, { on := 4, ground := Go.Ground.phase }, { on := 5, ground := Go.Ground.phase }], guard := none }) rfl rfl _ _ _ rfl w1.heap.size st x M0 f (f x + 1) rfl rfl rfl P4.out rfl (fun w5 m5 o5 => ?_) AllReadyH.nil
            have S5 := Lib.hid (show Below w1.heap.size w1 w5 ∧ Blk w5 (w1.heap.size + 1) 49 [.map (some w1.heap.size)] ∧ Blk w5 g7 46 x.cells from ⟨S4.out.1.trans (o5.below (Nat.le_refl _) S4.out.1.size), S4.out.2.1.only o5 (by omega), S4.out.2.2.only o5 (by have := G7.out; omega)⟩)
            have M5 := Lib.hid m5
            have O5 := Lib.hid (O4.out.trans o5)
            clear m5 o5
            refine ⟨S5.out, ?_⟩
            simp only [Act.put]
            refine wpAnyH_done (by kernel_rfl) ?_ _
            refine NoPanic.normal ?_
            go_wp2_with fail
            go_roundw
            case rel => exact ⟨q + 1, by omega, by go_num, by rw [UC.out]; exact M5.out.mono (by have := ME.out; omega), S5.out.1, S5.out.2.1, OR.out _ O5.out⟩
            case measure => simp [intOf]; omega
        · obtain rfl : q = m2 := by omega
          have HT := Lib.hid (show L.take q = L from List.take_of_length_le (by omega))
          go_wp2_with fail
          go_roundw
          case rel => exact ⟨j + 1, by omega, by go_num, by rw [FT.out]; rw [HT.out] at MM; exact MM.out.mono (by rw [List.length_append]; omega), BB.out, KK.out⟩
          case measure => simp [intOf]; omega
    · obtain rfl : j = n1 := by omega
      have HT := Lib.hid (show RR.take j = RR from List.take_of_length_le (by have := RL.out; omega))
      rw [HT.out] at MM
      have C0 := Lib.hid (show (fun a => ((RR.flatten.count a : Nat) : Int)) = (fun a => ((cnt S (nst ls 0).1 a : Nat) : Int)) by rw [← HR.out]; rfl)
      rw [C0.out] at MM
      go_wp2_with fail
      go_loopw [10, 41] (fun v i wr2 => ∃ k : Nat, k ≤ j ∧ i = .int .i64 k ∧ OwnI wr2 (w1.heap.size + 2) v (nst ls k).2 ∧ MapC wr2 w1.heap.size (600 + (RR.take k).flatten.length) (fun a => ((cnt S (nst ls k).1 a : Nat) : Int)) ∧ Below w1.heap.size w1 wr2 ∧ Blk wr2 (w1.heap.size + 1) 49 [.map (some w1.heap.size)]) (fun _ i _ => j - (intOf i).toNat)
      case atStart => exact ⟨0, Nat.zero_le _, rfl, ownI_nil _ _, MM.out.mono (by have := TL.out; omega), BB.out, KK.out⟩
      case round =>
        obtain ⟨k, hk, rfl, ho, hm, hb, hq⟩ := hrel
        have OI := Lib.hid ho
        have MM := Lib.hid hm
        have BB := Lib.hid hb
        have KK := Lib.hid hq
        clear ho hm hb hq
        by_cases hlt : k < j
        · obtain ⟨G, p, D2, m2, c2, hE0⟩ := R1.out.elem k hlt
          have E0 := Lib.hid hE0
          have hE := hE0.below BB.out
          clear hE0
          have E := Lib.hid hE
          have cell := E.out.cell
          have HKL := Lib.hid (show k < ls.length by have := LEN.out; omega)
          have FL := Lib.hid (show (RR.take (k + 1)).flatten.length = (RR.take k).flatten.length + (RR.getD k []).length from flat_take_len (by rw [RL.out]; exact hlt))
          have FB := Lib.hid (show (RR.take (k + 1)).flatten.length ≤ 600 from Nat.le_trans (flat_take_le _) TL.out)
          have hm2 : (RR.getD k []).length = m2 := hE.row.len
          have HL := Lib.hid (show RR.getD k [] = top S (ls.getD k []) by rw [← HR.out, map_getD HKL.out])
          have SP := Lib.hid (show spare S (nst ls k).1 (ls.getD k []) = leq (ls.getD k []) (wo (nst ls k).1 k) by rw [← HS.out]; exact nst_spare OKM.out HKL.out)
          have NI := Lib.hid (nst_ni OKM.out k (by have := HKL.out; omega))
          have NS := Lib.hid (nst_succ ls k)
          have CW := Lib.hid (show ∀ a, cnt S (nst ls k).1 a = (top S (ls.getD k [])).count a + cnt S ((nst ls k).1.set k []) a from fun a => by have := cnt_wo S (m := (nst ls k).1) (i := k) (by rw [NI.out.len]; exact HKL.out) a; rw [NI.out.rest k (Nat.le_refl _)] at this; exact this)
          obtain ⟨L, hL⟩ : ∃ L, RR.getD k [] = L := ⟨_, rfl⟩
          rw [hL] at E FL hm2 HL E0
          clear hE hL
          have hm2' : m2 ≤ 600 := by have := FL.out; have := FB.out; omega
          have E2 := Lib.hid E.out.row
          have CK := Lib.hid (show k ≤ 5000 by omega)
          go_wp2_with (first
            | go_skip
            | refine wpList_index40 rfl _ _ rfl D1 j c1 G p k D2 m2 c2 _ _ rfl rfl (by first | rfl | omega) E.out ?_)
          refine (spares_is (w1.heap.size + 1) w1.heap.size _ _ D2 m2 c2 L _ E2.out hm2' MM.out KK.out).mono ?_
          rw [HL.out, spare_any, SP.out]
          cases hle : leq (ls.getD k []) (wo (nst ls k).1 k) with
          | false =>
            have NX := Lib.hid (show nst ls (k + 1) = nst ls k by rw [NS.out]; unfold nstep; rw [if_neg (by rw [hle]; decide)])
            clear hle
            rintro e w3 ⟨rfl, b3⟩
            have B3 := Lib.hid b3
            clear b3
            go_wp2_with fail
            go_roundw
            case rel => exact ⟨k + 1, by omega, by go_num, by rw [NX.out]; exact OI.out.below B3.out, by rw [NX.out]; exact (MM.out.below B3.out).mono (by have := FL.out; omega), BB.out.trans (B3.out.mono BB.out.size), KK.out.below B3.out⟩
            case measure => simp [intOf]; omega
          | true =>
            have NX := Lib.hid (show nst ls (k + 1) = ((nst ls k).1.set k [], (nst ls k).2 ++ [k]) by rw [NS.out]; unfold nstep; rw [if_pos hle])
            clear hle
            rintro e w3 ⟨rfl, b3⟩
            have B3 := Lib.hid b3
            have M3 := Lib.hid (MM.out.below b3)
            have E3 := Lib.hid (E2.out.below b3)
            have O3 := Lib.hid (OI.out.below b3)
            have K3 := Lib.hid (KK.out.below b3)
            have BB3 := Lib.hid (BB.out.trans (b3.mono BB.out.size))
            clear b3
            have LN := Lib.hid (show (nst ls k).2.length ≤ 5000 by have := NI.out.few; omega)
            go_wp2_with (first
              | go_skip
              | (refine wpList_ints1 rfl _ rfl k rfl ?_; intro g4 w4 e4 N4 B4)
              | (refine wpList_app_i rfl _ _ rfl (w1.heap.size + 2) _ (nst ls k).2 k g4 rfl rfl (O3.out.below B4.out) N4.out LN.out (Nat.le_trans K3.out.lt B4.out.size) ?_; intro D5 m5 c5 w5 e5 O5 B5 G5))
            have C1 := Lib.hid (show MapC w5 w1.heap.size (600 + (RR.take k).flatten.length + 0) (fun a => ((cnt S (nst ls k).1 a : Nat) : Int) - (((L.take 0).count a : Nat) : Int)) by
              have := (M3.out.below B4.out).upto B5.out (by omega)
              simpa using this)
            have K5 := Lib.hid ((K3.out.below B4.out).upto B5.out (by omega))
            have BB5 := Lib.hid ((BB3.out.trans (B4.out.mono BB3.out.size)).trans (B5.out.mono (by omega)))
            have E5 := Lib.hid (E0.out.row.below BB5.out)
            go_loopw [56] (fun i wr3 => ∃ q : Nat, q ≤ m2 ∧ i = .int .i64 q ∧ OwnI wr3 (w1.heap.size + 2) (.slice D5 m5 c5) ((nst ls k).2 ++ [k]) ∧ MapC wr3 w1.heap.size (600 + (RR.take k).flatten.length + q) (fun a => ((cnt S (nst ls k).1 a : Nat) : Int) - (((L.take q).count a : Nat) : Int)) ∧ Below w1.heap.size w1 wr3 ∧ Blk wr3 (w1.heap.size + 1) 49 [.map (some w1.heap.size)] ∧ RowV wr3 D2 m2 c2 L) (fun i _ => m2 - (intOf i).toNat)
            case atStart => exact ⟨0, Nat.zero_le _, rfl, O5.out, C1.out, BB5.out, K5.out, E5.out⟩
            case round =>
              obtain ⟨q, hq, rfl, ho, hm, hb, hk5, hr⟩ := hrel
              have OO := Lib.hid ho
              have MM := Lib.hid hm
              have BB := Lib.hid hb
              have KK := Lib.hid hk5
              have R2 := Lib.hid hr
              clear ho hm hb hk5 hr
              by_cases hlq : q < m2
              · obtain ⟨G1, p1, hE1⟩ := R2.out.elem q hlq
                have E1 := Lib.hid hE1
                have T1 := Lib.hid (take_getD (l := L) (j := q) (by omega))
                obtain ⟨x, hx⟩ : ∃ x, L.getD q azero = x := ⟨_, rfl⟩
                rw [hx] at E1 T1
                clear hE1 hx
                have XO := Lib.hid E1.out.ok
                have Z := Lib.hid (blk_alloc wr 46 azero.cells)
                have CT := Lib.hid (show (L.take q).count x ≤ 600 from Nat.le_trans (List.count_le_length) (by rw [List.length_take]; omega))
                have CN := Lib.hid (show cnt S (nst ls k).1 x ≤ 600 from Nat.le_trans (cnt_le NI.out.ok x) (by rw [NI.out.len, LEN.out]; omega))
                obtain ⟨f, hf⟩ : ∃ f, (fun a => ((cnt S (nst ls k).1 a : Nat) : Int) - (((L.take q).count a : Nat) : Int)) = f := ⟨_, rfl⟩
                have UC := Lib.hid (show (fun a => ((cnt S (nst ls k).1 a : Nat) : Int) - (((L.take (q + 1)).count a : Nat) : Int)) = updC f x (f x - 1) by rw [T1.out]; exact down_count (C := fun a => ((cnt S (nst ls k).1 a : Nat) : Int)) hf)
                have FX := Lib.hid (show -100000 ≤ f x ∧ f x ≤ 100000 by rw [← hf]; have := CT.out; have := CN.out; simp only; omega)
                rw [hf] at MM
                clear hf
                obtain ⟨M0, hM0⟩ : ∃ M0, 600 + (RR.take k).flatten.length + q = M0 := ⟨_, rfl⟩
                have MB := Lib.hid (show M0 ≤ 50000 by have := FL.out; have := FB.out; omega)
                have ME := Lib.hid hM0
                rw [hM0] at MM
                clear hM0
                go_wp2_with (first
                  | go_skip
                  | refine wpList_index rfl _ _ rfl D2 m2 c2 G1 p1 q x _ rfl rfl (by first | rfl | omega) E1.out ?_
                  | refine wpList_load_amx rfl _ rfl G1 p1 x rfl E1.out.rg XO.out ?_
                  | (refine wpList_store_am rfl _ _ rfl wr.heap.size azero x rfl rfl Z.out azero_ok XO.out ?_; intro w3 N3 O3; have B3 := Lib.hid (box_below O3.out)))
                have MM3 := Lib.hid (MM.out.below B3.out)
                have BB3 := Lib.hid (BB.out.trans (B3.out.mono BB.out.size))
                have KK3 := Lib.hid (KK.out.below B3.out)
                have G7 := Lib.hid (show w1.heap.size + 1 < wr.heap.size from KK.out.lt)
                obtain ⟨g7, hg7⟩ : ∃ g7, wr.heap.size = g7 := ⟨_, rfl⟩
                have OO3 := Lib.hid ((OO.out.below B3.out).below (below_drew (Below.refl _ _)))
                rw [hg7] at G7 N3 ⊢
                clear hg7
                have M1 := Lib.hid (show MapC w3.drew w1.heap.size M0 f from MM3.out.below (below_drew (Below.refl _ _)))
                have S1 := Lib.hid (show Below w1.heap.size w1 w3.drew ∧ Blk w3.drew (w1.heap.size + 1) 49 [.map (some w1.heap.size)] ∧ Blk w3.drew g7 46 x.cells from ⟨below_drew BB3.out, KK3.out.drew, N3.out.drew⟩)
                refine wp_region_noPanic ?_
                refine wp_region_held_drew (S := fun W => Below w1.heap.size w1 W ∧ Blk W (w1.heap.size + 1) 49 [.map (some w1.heap.size)] ∧ Blk W g7 46 x.cells) (by kernel_rfl) S1.out (fun _ => ?_)
                refine wpAnyH_take (i := 0) (oi := { dst := some 60, op := Go.Op.load 49 (Go.Operand.tmp 4), type := 49, pos := _, after := #[], guard := none }) (v := ?_) rfl (by kernel_rfl) (by kernel_rfl) (by kernel_rfl) (fun _ _ _ h => h) (Or.inl ⟨by rfl, ?_⟩) S1.out ?_
                rotate_left
                · intro W hW; have c0 := hW.2.1.cell (i := 0) rfl; (go_simp; try with_reducible rfl)
                try simp only [Act.put, List.setIfInBounds_toArray, List.set_cons_zero, List.set_cons_succ]
                refine wpAnyH_take (i := 1) (oi := { dst := some 61, op := Go.Op.load 46 (Go.Operand.tmp 14), type := 46, pos := _, after := #[], guard := none }) (v := .agg x.cells.toArray) rfl (by kernel_rfl) (by kernel_rfl) (by kernel_rfl) (fun _ _ _ h => h) (yieldsIf_load_mid (by rfl) 46 (.tmp 14) rfl g7 0 rfl x.cells _ (fun W hW => hW.2.2.range) Tryz.underlying46 rfl (size32 XO.out)) S1.out ?_
                try simp only [Act.put, List.setIfInBounds_toArray, List.set_cons_zero, List.set_cons_succ]
                refine wpAnyH_ready (rs := [2, 4]) (by kernel_rfl) (by simp) ?_
                refine ready_lookC (o := { dst := some 62, op := Go.Op.lookup 49 (Go.Operand.tmp 60) (Go.Operand.tmp 61) false, type := 3, pos := _, after := #[{ on := 0, ground := Go.Ground.data }, { on := 1, ground := Go.Ground.data }], guard := none }) rfl rfl _ _ rfl w1.heap.size M0 f x rfl rfl M1.out XO.out ⟨S1.out, ?_⟩ ?_
                · skip
                  try simp only [Act.put, List.setIfInBounds_toArray, List.set_cons_zero, List.set_cons_succ]
                  refine wpAnyH_take (i := 3) (oi := { dst := some 63, op := Go.Op.binOp Go.BinOp.sub 3 (Go.Operand.tmp 62) (Go.Operand.const (Go.Value.int Go.IntKind.i64 1)) 3, type := 3, pos := _, after := #[{ on := 2, ground := Go.Ground.data }], guard := none }) (v := .int .i64 (f x - 1)) rfl (by kernel_rfl) (by kernel_rfl) (by kernel_rfl) (fun _ _ _ h => h) (Or.inl ⟨by rfl, fun W hW => exec_sub1 _ rfl (f x) rfl FX.out⟩) S1.out ?_
                  try simp only [Act.put, List.setIfInBounds_toArray, List.set_cons_zero, List.set_cons_succ]
                  refine wpAnyH_ready (rs := [4]) (by kernel_rfl) (by simp) ?_
                  refine ready_entry (o := { dst := some 64, op := Go.Op.mapEntry 49 (Go.Operand.tmp 60) (Go.Operand.tmp 61), type := 0, pos := _, after := #[{ on := 0, ground := Go.Ground.data }, { on := 1, ground := Go.Ground.data }, { on := 0, ground := Go.Ground.phase }, { on := 1, ground := Go.Ground.phase }, { on := 2, ground := Go.Ground.textOnly Go.Departure.mapOpAssignEntry }, { on := 3, ground := Go.Ground.textOnly Go.Departure.mapOpAssignEntry }], guard := none }) rfl rfl _ _ rfl w1.heap.size M0 f x rfl rfl M1.out MB.out XO.out (fun v0 st w4 m4 o4 p4 => ?_) AllReadyH.nil
                  have S4 := Lib.hid (show Below w1.heap.size w1 w4 ∧ Blk w4 (w1.heap.size + 1) 49 [.map (some w1.heap.size)] ∧ Blk w4 g7 46 x.cells from ⟨S1.out.1.trans (o4.below (Nat.le_refl _) S1.out.1.size), S1.out.2.1.only o4 (by omega), S1.out.2.2.only o4 (by have := G7.out; omega)⟩)
                  have P4 := Lib.hid p4
                  have M4 := Lib.hid m4
                  have O4 := Lib.hid o4
                  clear m4 o4 p4
                  refine ⟨S4.out, ?_⟩
                  try simp only [Act.put, List.setIfInBounds_toArray, List.set_cons_zero, List.set_cons_succ]
                  refine wpAnyH_take (i := 5) (oi := { dst := some 65, op := Go.Op.extract (Go.Operand.tmp 64) 1, type := 3, pos := _, after := #[{ on := 4, ground := Go.Ground.data }], guard := none }) (v := ?_) rfl (by kernel_rfl) (by kernel_rfl) (by kernel_rfl) (fun _ _ _ h => h) (Or.inl ⟨by rfl, ?_⟩) S4.out ?_
                  rotate_left
                  · intro W hW; (go_simp; try with_reducible rfl)
                  try simp only [Act.put, List.setIfInBounds_toArray, List.set_cons_zero, List.set_cons_succ]
                  refine wpAnyH_ready (rs := [6]) (by kernel_rfl) (by simp) ?_
                  refine ready_estore (o := { dst := none, op := Go.Op.entryStore 49 (Go.Operand.tmp 60) (Go.Operand.tmp 65) (Go.Operand.tmp 63), type := 0, pos := _, after := #[{ on := 0, ground := Go.Ground.data }, { on := 5, ground := Go.Ground.data }, { on := 3, ground := Go.Ground.data }, { on := 4, ground := Go.Ground.chain }, { on := 0, ground := Go.Ground.phase }, { on := 1, ground := Go.Ground.phase }, { on := 2, ground := Go.Ground.phase }, { on := 3, ground := Go.Ground.phase }, { on := 4, ground := Go.Ground.phase }, { on := 5, ground := Go.Ground.phase }], guard := none }) rfl rfl _ _ _ rfl w1.heap.size st x M0 f (f x - 1) rfl rfl rfl P4.out rfl (fun w5 m5 o5 => ?_) AllReadyH.nil
                  have S5 := Lib.hid (show Below w1.heap.size w1 w5 ∧ Blk w5 (w1.heap.size + 1) 49 [.map (some w1.heap.size)] ∧ Blk w5 g7 46 x.cells from ⟨S4.out.1.trans (o5.below (Nat.le_refl _) S4.out.1.size), S4.out.2.1.only o5 (by omega), S4.out.2.2.only o5 (by have := G7.out; omega)⟩)
                  have M5 := Lib.hid m5
                  have O5 := Lib.hid (O4.out.trans o5)
                  clear m5 o5
                  refine ⟨S5.out, ?_⟩
                  simp only [Act.put]
                  refine wpAnyH_done (by kernel_rfl) ?_ _
                  refine NoPanic.normal ?_
                  go_wp2_with fail
                  go_roundw
                  case rel => exact ⟨q + 1, by omega, by go_num, OO3.out.only O5.out (by omega), by rw [UC.out]; exact M5.out.mono (by have := ME.out; omega), S5.out.1, S5.out.2.1, E0.out.row.below S5.out.1⟩
                  case measure => simp [intOf]; omega
                · skip
                  refine ready_entry (o := { dst := some 64, op := Go.Op.mapEntry 49 (Go.Operand.tmp 60) (Go.Operand.tmp 61), type := 0, pos := _, after := #[{ on := 0, ground := Go.Ground.data }, { on := 1, ground := Go.Ground.data }, { on := 0, ground := Go.Ground.phase }, { on := 1, ground := Go.Ground.phase }, { on := 2, ground := Go.Ground.textOnly Go.Departure.mapOpAssignEntry }, { on := 3, ground := Go.Ground.textOnly Go.Departure.mapOpAssignEntry }], guard := none }) rfl rfl _ _ rfl w1.heap.size M0 f x rfl rfl M1.out MB.out XO.out (fun v0 st w4 m4 o4 p4 => ?_) AllReadyH.nil
                  have S4 := Lib.hid (show Below w1.heap.size w1 w4 ∧ Blk w4 (w1.heap.size + 1) 49 [.map (some w1.heap.size)] ∧ Blk w4 g7 46 x.cells from ⟨S1.out.1.trans (o4.below (Nat.le_refl _) S1.out.1.size), S1.out.2.1.only o4 (by omega), S1.out.2.2.only o4 (by have := G7.out; omega)⟩)
                  have P4 := Lib.hid p4
                  have M4 := Lib.hid m4
                  have O4 := Lib.hid o4
                  clear m4 o4 p4
                  refine ⟨S4.out, ?_⟩
                  try simp only [Act.put, List.setIfInBounds_toArray, List.set_cons_zero, List.set_cons_succ]
                  refine wpAnyH_take (i := 5) (oi := { dst := some 65, op := Go.Op.extract (Go.Operand.tmp 64) 1, type := 3, pos := _, after := #[{ on := 4, ground := Go.Ground.data }], guard := none }) (v := ?_) rfl (by kernel_rfl) (by kernel_rfl) (by kernel_rfl) (fun _ _ _ h => h) (Or.inl ⟨by rfl, ?_⟩) S4.out ?_
                  rotate_left
                  · intro W hW; (go_simp; try with_reducible rfl)
                  try simp only [Act.put, List.setIfInBounds_toArray, List.set_cons_zero, List.set_cons_succ]
                  refine wpAnyH_ready (rs := [2]) (by kernel_rfl) (by simp) ?_
                  refine ready_lookC (o := { dst := some 62, op := Go.Op.lookup 49 (Go.Operand.tmp 60) (Go.Operand.tmp 61) false, type := 3, pos := _, after := #[{ on := 0, ground := Go.Ground.data }, { on := 1, ground := Go.Ground.data }], guard := none }) rfl rfl _ _ rfl w1.heap.size (M0 + 1) f x rfl rfl M4.out XO.out ⟨S4.out, ?_⟩ AllReadyH.nil
                  try simp only [Act.put, List.setIfInBounds_toArray, List.set_cons_zero, List.set_cons_succ]
                  refine wpAnyH_take (i := 3) (oi := { dst := some 63, op := Go.Op.binOp Go.BinOp.sub 3 (Go.Operand.tmp 62) (Go.Operand.const (Go.Value.int Go.IntKind.i64 1)) 3, type := 3, pos := _, after := #[{ on := 2, ground := Go.Ground.data }], guard := none }) (v := .int .i64 (f x - 1)) rfl (by kernel_rfl) (by kernel_rfl) (by kernel_rfl) (fun _ _ _ h => h) (Or.inl ⟨by rfl, fun W hW => exec_sub1 _ rfl (f x) rfl FX.out⟩) S4.out ?_
                  try simp only [Act.put, List.setIfInBounds_toArray, List.set_cons_zero, List.set_cons_succ]
                  refine wpAnyH_ready (rs := [6]) (by kernel_rfl) (by simp) ?_
                  refine ready_estore (o := { dst := none, op := Go.Op.entryStore 49 (Go.Operand.tmp 60) (Go.Operand.tmp 65) (Go.Operand.tmp 63), type := 0, pos := _, after := #[{ on := 0, ground := Go.Ground.data }, { on := 5, ground := Go.Ground.data }, { on := 3, ground := Go.Ground.data }, { on := 4, ground := Go.Ground.chain }, { on := 0, ground := Go.Ground.phase }, { on := 1, ground := Go.Ground.phase }, { on := 2, ground := Go.Ground.phase }, { on := 3, ground := Go.Ground.phase }, { on := 4, ground := Go.Ground.phase }, { on := 5, ground := Go.Ground.phase }], guard := none }) rfl rfl _ _ _ rfl w1.heap.size st x M0 f (f x - 1) rfl rfl rfl P4.out rfl (fun w5 m5 o5 => ?_) AllReadyH.nil
                  have S5 := Lib.hid (show Below w1.heap.size w1 w5 ∧ Blk w5 (w1.heap.size + 1) 49 [.map (some w1.heap.size)] ∧ Blk w5 g7 46 x.cells from ⟨S4.out.1.trans (o5.below (Nat.le_refl _) S4.out.1.size), S4.out.2.1.only o5 (by omega), S4.out.2.2.only o5 (by have := G7.out; omega)⟩)
                  have M5 := Lib.hid m5
                  have O5 := Lib.hid (O4.out.trans o5)
                  clear m5 o5
                  refine ⟨S5.out, ?_⟩
                  simp only [Act.put]
                  refine wpAnyH_done (by kernel_rfl) ?_ _
                  refine NoPanic.normal ?_
                  go_wp2_with fail
                  go_roundw
                  case rel => exact ⟨q + 1, by omega, by go_num, OO3.out.only O5.out (by omega), by rw [UC.out]; exact M5.out.mono (by have := ME.out; omega), S5.out.1, S5.out.2.1, E0.out.row.below S5.out.1⟩
                  case measure => simp [intOf]; omega
              · obtain rfl : q = m2 := by omega
                have HT := Lib.hid (show L.take q = L from List.take_of_length_le (by omega))
                have CE := Lib.hid (show (fun a => ((cnt S (nst ls k).1 a : Nat) : Int) - (((L.take q).count a : Nat) : Int)) = (fun a => ((cnt S ((nst ls k).1.set k []) a : Nat) : Int)) by
                  funext a
                  have h9 := CW.out a
                  rw [← HL.out] at h9
                  rw [HT.out]
                  omega)
                rw [CE.out] at MM
                go_wp2_with fail
                go_roundw
                case rel => exact ⟨k + 1, by omega, by go_num, by rw [NX.out]; exact OO.out, by rw [NX.out]; exact MM.out.mono (by have := FL.out; omega), BB.out, KK.out⟩
                case measure => simp [intOf]; omega
        · obtain rfl : k = j := by omega
          go_wp2_with fail
          go_ret
          obtain ⟨E, cp, e9⟩ := OI.out.shape
          have O9 := OI.out
          rw [e9] at O9
          exact ⟨⟨E, _, cp, by rw [← e9]; rfl, by unfold needless; rw [LEN.out]; exact O9.ints, fun a ha => by have := O9.fresh a ha; have := B1.out.size; omega⟩, B1.out.trans (BB.out.mono B1.out.size)⟩
end Go.Proofs.YteocfhbfdhokbaaGreat
