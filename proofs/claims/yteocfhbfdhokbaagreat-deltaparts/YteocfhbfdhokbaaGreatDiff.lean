/- The contracts of Insert and Collect of maps at an iterator over a row, and of values of package delta. The contracts of Diff, Irreducible and Parts of package delta. -/
import Derived.Test.YteocfhbfdhokbaaGreatLeq
import Derived.Test.YteocfhbfdhokbaaGreatSplit
namespace Go.Proofs.YteocfhbfdhokbaaGreat
open Go.RowKit
attribute [local go_sem] Oper.semAt_some

theorem gt_next {pre rest : List Am} {x : Am} (h : St (pre ++ x :: rest)) : upd (gt pre) x.k x.v = gt (pre ++ [x]) := by
  have hp : St pre := ⟨fun a ha => h.ok a (List.mem_append_left _ ha), fun a ha => h.rt a (List.mem_append_left _ ha), (List.pairwise_append.1 h.so).1⟩
  have hm : x ∈ pre ++ x :: rest := by simp
  have hn : gt pre x.k = none := by
    rw [gt_st hp]
    cases e : fnd pre x.k with
    | none => rfl
    | some v =>
      have := (List.pairwise_append.1 h.so).2.2 _ (fnd_mem e) x (by simp)
      simp only at this
      omega
  show _ = col none_ (pre ++ [x])
  rw [col_snoc, step_yes (h.rt x hm)]
  show upd (gt pre) x.k x.v = upd (gt pre) x.k (more x.v ((gt pre x.k).getD vzero))
  rw [hn, Option.getD_none]
  have : more x.v vzero = x.v := by
    unfold more
    rw [if_pos]
    rw [over_rn (h.ok x hm).v vzero_ok, rn_zero]
    exact decide_eq_true (rn_pos (h.ok x hm).v)
  rw [this]
theorem wpList_updateF {ops : Array Oper} {rest : List Oper} {op : Oper} {a : Act} {w : World} {Q : Exit → Act → World → Prop} (hgd : op.guard = none) (x y z : Operand) (hop : op.op = .mapUpdate 57 x y z) (b n : Nat) (f : Ky → Option Vl) (k : Ky) (v : Vl) (hx : a.eval x = .map (some b)) (hy : a.eval y = .agg k.cells.toArray) (hz : a.eval z = .agg v.cells.toArray) (hm : MapF w b n f) (hn : n ≤ 5000) (hk : k.Ok) (hf : OkF (upd f k v))
    (h : ∀ w', Hid (MapF w' b (n + 1) (upd f k v)) → Hid (Only b w w') → wpList Tryz.prog ops Q rest (a.put op.dst undef) w') : wpList Tryz.prog ops Q (op :: rest) a w := by
  refine wpList_plain hgd fun K hK => ?_
  obtain ⟨w', hr, h1, h2⟩ := run_update hm hn hk v hf
  unfold Oper.wp execOp
  simp only [hop, hx, hy, hz, Sem.run_bind, hr, Result.andThen_ok, Sem.run_pure]
  exact hK _ _ (h _ (Lib.hid h1) (Lib.hid (only_of_grown h2)))
theorem MapF.put {w : World} {b n i : Nat} {f : Ky → Option Vl} (h : MapF w b n f) (o : Obj) (hi : b ≠ i) : MapF (w.putObj i o) b n f := by
  obtain ⟨D, ⟨es, clock, e, r⟩, h2⟩ := h.own
  exact ⟨h.ok, D, ⟨es, clock, (World.putObj_heap_other (by omega)).trans e, r⟩, h2⟩
set_option maxRecDepth 100000 in
set_option maxHeartbeats 4000000 in
theorem insert_is (b Bs : Nat) (D : Option Addr) (m c : Nat) (s : List Am) (w0 w : World) (hB : Blk w0 Bs 28 [.slice D m c]) (hR : RowV w0 D m c s) (h0 : Below w0.heap.size w0 w) (hb : w0.heap.size ≤ b) (hm : MapF w b 0 none_) (hs : St s) (hl : m ≤ 600) :
    Calls Tryz.prog 77 #[.map (some b), .func (.func 50) #[] #[.pointer (some ⟨Bs, 0, none⟩)]] w fun e w' => (∃ v, e = .returned v) ∧ MapF w' b 1000 (gt s) ∧ Only b w w' := by
  have K2 := Lib.hid (blk_alloc w 57 [.map (some b)])
  have QB := Lib.hid (new_below w (.cells #[.map (some b)] 57))
  have HM := Lib.hid (hm.below QB.out)
  have LB := Lib.hid hm.lt
  have H0 := Lib.hid (step_ h0 QB.out)
  have HB := Lib.hid hB
  have HR := Lib.hid hR
  have HS := Lib.hid hs
  have HL := Lib.hid hb
  have LB0 := Lib.hid hB.lt
  clear hB hR hm hs h0 hb
  refine (callsIn_wide (n := 10)).1 ?_
  refine callsIn_of_wp_marks Tryz.func77 rfl trivial ?_ rfl
  simp only [Tryz.ntmps77, List.size_toArray, List.length_cons, List.length_nil, Nat.reduceAdd, Nat.reduceSub, Array.replicate_succ, Array.replicate_zero, List.push_toArray, List.append_toArray, List.nil_append, List.cons_append]
  gi_wp2_with fail
  have SW := Lib.hid (show w.heap.size < (w.alloc (.cells #[.map (some b)] 57)).heap.size by simp)
  obtain ⟨w2, hw2⟩ : ∃ w2, w.alloc (.cells #[.map (some b)] 57) = w2 := ⟨_, rfl⟩
  rw [hw2] at K2 QB HM H0 SW ⊢
  clear hw2
  refine range_row (gf := 50) (lb := #[.pointer (some ⟨Bs, 0, none⟩)]) rfl (fun _ _ => rfl) (each_seq Bs D m c s (by omega)) rfl
    (fun pre V => MapF V b pre.length (gt pre) ∧ Only b w2 V)
    (fun V => False)
    (fun pre V V' h hb => ⟨h.1.below hb, h.2.trans (Only.of_below hb)⟩)
    (fun pre V o h => ⟨h.1.put _ (by have := LB.out; have := SW.out; omega), only_put h.2 (Nat.le_succ _)⟩)
    (fun V o h => h.elim)
    (fun pre V h => by have q := H0.out.trans (h.2.below HL.out (by have := H0.out.size; omega)); exact ⟨HB.out.below q, HR.out.below q⟩)
    ⟨HM.out, Only.refl _ _⟩
    (fun pre x a' V => ∃ g4 g5, a' = { tmps := #[.map (some b), .func (.func 50) #[] #[.pointer (some ⟨Bs, 0, none⟩)], .pointer (some ⟨w.heap.size, 0, none⟩), undef, .pointer (some ⟨g4, 0, none⟩), .pointer (some ⟨g5, 0, none⟩), .func (.func 50) #[] #[.pointer (some ⟨Bs, 0, none⟩)], .agg x.k.cells.toArray, .agg x.v.cells.toArray, undef, undef, undef], defers := [] } ∧ w2.heap.size + 1 < g4 ∧ w2.heap.size + 1 < g5 ∧ Blk V g4 41 x.k.cells ∧ Blk V g5 44 x.v.cells ∧ MapF V b pre.length (gt pre) ∧ Only b w2 V)
    (fun pre x a' V o h => by
      obtain ⟨g4, g5, e, l4, l5, k4, k5, m1, o1⟩ := h
      exact ⟨g4, g5, e, l4, l5, blk_put k4 (by omega), blk_put k5 (by omega), m1.put _ (by have := LB.out; have := SW.out; omega), only_put o1 (Nat.le_succ _)⟩)
    ?assign ?body ?done ?stop
  case assign =>
    intro l pre x rest W K hsx hi hlt hK
    have XO := Lib.hid (HR.out.ok x (by rw [hsx]; simp))
    have HI := Lib.hid hi
    have Z1 := Lib.hid (blk_alloc W 41 kzero.cells)
    have hk0 := zero27
    have hv0 := zero30
    clear hi hsx
    simp only [encP, List.zip_toArray, List.zip_cons_cons, List.zip_nil_right, List.foldl_toArray', List.foldl_cons, List.foldl_nil, List.size_toArray, List.length_cons, List.length_nil, List.setIfInBounds_toArray, List.set_cons_zero, List.set_cons_succ]
    gi_wp2_with (first
      | (refine in_plain (wide_in l) rfl (by intro c h; cases h) ?_; refine wpList_store_ky rfl _ _ rfl W.heap.size kzero x.k rfl rfl Z1.out kzero_ok.ml XO.out.k.ml ?_; intro V1 N1 O1; refine in_done ?_; have Z2 := Lib.hid (blk_alloc V1 44 vzero.cells))
      | (refine in_plain (wide_in l) rfl (by intro c h; cases h) ?_; refine wpList_store_vl rfl _ _ rfl V1.heap.size vzero x.v rfl rfl Z2.out rfl XO.out.v.tl ?_; intro V2 N2 O2; refine in_done ?_))
    have QQ := step_ (box_below O1.out) (box_below O2.out)
    exact hK _ _ (KeepL.below QQ hlt) ⟨_, _, rfl, hlt, by have := (box_below O1.out).size; omega, N1.out.below (box_below O2.out), N2.out, HI.out.1.below QQ, HI.out.2.trans (Only.of_below QQ)⟩
  case body =>
    intro l pre x rest a' W hsx hax hlt
    obtain ⟨g4, g5, rfl, l4, l5, k4, k5, m1, o1⟩ := hax
    have XO := Lib.hid (HR.out.ok x (by rw [hsx]; simp))
    have K4 := Lib.hid k4
    have K5 := Lib.hid k5
    have MW := Lib.hid m1
    have ON := Lib.hid o1
    have GN := Lib.hid (gt_next (by rw [← hsx]; exact HS.out))
    have FO := Lib.hid (show OkF (upd (gt pre) x.k x.v) by rw [GN.out]; exact gt_ok (fun a ha => HR.out.ok a (by rw [hsx]; rcases List.mem_append.1 ha with h | h; exact List.mem_append_left _ h; rw [List.mem_singleton.1 h]; simp)))
    have LEN := Lib.hid (show pre.length ≤ 5000 by have h9 := HR.out.len; rw [hsx, List.length_append] at h9; omega)
    have c0 := (K2.out.only o1 (by have := LB.out; omega)).cell (i := 0) rfl
    have HLT := Lib.hid hlt
    clear m1 o1 k4 k5 hsx hlt
    gi_wp2_with (first
      | (refine in_plain (wide_in l) rfl (by intro c h; cases h) ?_; refine wpList_load_ky rfl _ rfl g4 0 x.k rfl K4.out.range XO.out.k.ml ?_; refine in_done ?_)
      | (refine in_plain (wide_in l) rfl (by intro c h; cases h) ?_; refine wpList_load_vl rfl _ rfl g5 0 x.v rfl K5.out.range XO.out.v.tl ?_; refine in_done ?_)
      | (refine in_plain (wide_in l) rfl (by intro c h; cases h) ?_; refine wpList_updateF rfl _ _ _ rfl b _ (gt pre) x.k x.v rfl rfl rfl MW.out LEN.out XO.out.k FO.out ?_; intro V1 M1 O1; refine in_done ?_))
    exact ⟨KeepL.only O1.out (by have := LB.out; have := SW.out; omega) (by have := LB.out; have := SW.out; omega) HLT.out, by rw [← GN.out]; exact M1.out, ON.out.trans O1.out⟩
  case done =>
    intro E W hE hi hd
    refine marks_ret E rfl hd (results_none rfl _ _ _) ?_
    have o1 := (Only.of_below QB.out).trans hi.2
    exact ⟨⟨_, rfl⟩, (hi.1.put _ (by have := LB.out; have := SW.out; omega)).mono (by have := HR.out.len; omega), only_put o1 (by have := SW.out; omega)⟩
  case stop => intro E W hE hx hd; exact hx.elim
set_option maxRecDepth 100000 in
set_option maxHeartbeats 4000000 in
theorem mcollect_is (Bs : Nat) (D : Option Addr) (m c : Nat) (s : List Am) (w : World) (hB : Blk w Bs 28 [.slice D m c]) (hR : RowV w D m c s) (hs : St s) (hl : m ≤ 600) :
    Calls Tryz.prog 61 #[.func (.func 50) #[] #[.pointer (some ⟨Bs, 0, none⟩)]] w (GivesM w (gt s)) := by
  have hmm := @run_makeMap Tryz.prog
  have M0 := Lib.hid (mapF_made w)
  have B0 := Lib.hid (new_below w (.map #[] 0))
  have HB := Lib.hid hB
  have HR := Lib.hid hR
  have HS := Lib.hid hs
  clear hB hR hs
  go_enter Tryz.func61, Tryz.ntmps61
  go_wp2_with fail
  refine (insert_is w.heap.size Bs D m c s w _ HB.out HR.out B0.out (Nat.le_refl _) M0.out HS.out hl).mono ?_
  rintro e w1 ⟨⟨v, rfl⟩, m1, o1⟩
  have M1 := Lib.hid m1
  have O1 := Lib.hid o1
  clear m1 o1
  go_wp2_with fail
  go_ret
  exact ⟨⟨w.heap.size, rfl, Nat.le_refl _, M1.out⟩, B0.out.trans (O1.out.below (Nat.le_refl _) B0.out.size)⟩
set_option maxRecDepth 100000 in
set_option maxHeartbeats 4000000 in
theorem dvalues_is (A : Option Addr) (n cap : Nat) (l : List Am) (w : World) (h : RowV w A n cap l) (hn : n ≤ 600) : Calls Tryz.prog 38 #[.slice A n cap] w (GivesM w (gt l)) := by
  have H := Lib.hid h
  clear h
  go_enter Tryz.func38, Tryz.ntmps38
  go_wp2_with fail
  refine (each_is A n cap l _ H.out hn).mono ?_
  rintro e w1 ⟨⟨Bs, D, m1, c1, rfl, _, k1, r1⟩, b1⟩
  have K1 := Lib.hid k1
  have R1 := Lib.hid r1
  have B1 := Lib.hid b1
  have hm1 : m1 ≤ 600 := by have := norm_len l; rw [r1.len, H.out.len] at this; omega
  clear k1 r1 b1
  go_wp2_with fail
  refine (mcollect_is Bs D m1 c1 (norm l) _ K1.out R1.out (norm_st H.out.ok) hm1).mono ?_
  rintro e w2 ⟨⟨b, rfl, hb, m2⟩, b2⟩
  have M2 := Lib.hid m2
  have B2 := Lib.hid b2
  have HB := Lib.hid hb
  clear m2 b2 hb
  go_wp2_with fail
  go_ret
  exact ⟨⟨b, rfl, Nat.le_trans B1.out.size HB.out, by rw [show gt l = gt (norm l) from (funext (gt_norm H.out.ok)).symm]; exact M2.out⟩, step_ B1.out B2.out⟩
end Go.Proofs.YteocfhbfdhokbaaGreat
namespace Go.Proofs.YteocfhbfdhokbaaGreat
open Go.RowKit
attribute [local go_sem] Oper.semAt_some

set_option maxRecDepth 100000 in
set_option maxHeartbeats 4000000 in
theorem diff_is (A B : Option Addr) (n m cap cap2 : Nat) (a b : List Am) (w : World) (h : RowV w A n cap a) (h2 : RowV w B m cap2 b) (hn : n ≤ 600) (hm : m ≤ 600) : Calls Tryz.prog 25 #[.slice A n cap, .slice B m cap2] w (GivesR w (diff a b)) := by
  have hmf : ∀ (fn : Fn) (first cap : Array Value) (w : World), (Instr.makeFunc fn first cap).run Tryz.prog w = .ok (.func fn first cap) w := fun _ _ _ _ => rfl
  have H := Lib.hid h
  have J := Lib.hid h2
  clear h h2
  go_enter Tryz.func25, Tryz.ntmps25
  go_wp2_with fail
  refine (dvalues_is B m cap2 b _ J.out hm).mono ?_
  rintro e w1 ⟨⟨bm, rfl, _, m1⟩, b1⟩
  have M1 := Lib.hid (m1.below (new_below w1 (.cells #[.map (some bm)] 57)))
  have K1 := Lib.hid (blk_alloc w1 57 [.map (some bm)])
  have B1 := Lib.hid (step_ b1 (new_below w1 (.cells #[.map (some bm)] 57)))
  clear m1 b1
  go_wp2_with fail
  refine (split_is 43 #[.pointer (some ⟨w1.heap.size, 0, none⟩)] (fun _ _ => rfl) (fun x => !cov (gt b) x) A n cap a _ (H.out.below B1.out) hn (fun x W hx hW => lacks_is w1.heap.size bm (gt b) x W (M1.out.below hW) (K1.out.below hW) hx)).mono ?_
  rintro e w2 ⟨⟨D1, n1, c1, D2, n2, c2, rfl, r1, _, _, _⟩, b2⟩
  have R1 := Lib.hid r1
  have B2 := Lib.hid (step_ B1.out b2)
  clear r1 b2
  go_wp2_with fail
  go_ret
  exact ⟨⟨D1, n1, c1, rfl, R1.out⟩, B2.out⟩
set_option maxRecDepth 100000 in
set_option maxHeartbeats 4000000 in
theorem irreducible_is (A : Option Addr) (n cap : Nat) (l : List Am) (r : Bool) (w : World) (h : RowV w A n cap l) (hn : n ≤ 600) (hr : Hid (decide ((norm l).length = 1) = r)) : Calls Tryz.prog 16 #[.slice A n cap] w fun e w' => e = .returned (.bool r) ∧ Below w.heap.size w w' := by
  have H := Lib.hid h
  clear h
  go_enter Tryz.func16, Tryz.ntmps16
  go_wp2_with fail
  refine (norm_is A n cap l _ H.out hn).mono ?_
  rintro e w1 ⟨⟨D1, m1, c1, rfl, r1⟩, b1⟩
  have B1 := Lib.hid b1
  have HM := Lib.hid (show decide ((m1 : Int) = 1) = r by rw [← hr.out, r1.len]; exact decide_eq_decide.2 (by omega))
  clear r1 b1
  go_wp2_with fail
  go_ret
  exact ⟨ret_bool HM.out, B1.out⟩
theorem exec_load24 {o : Oper} {a : Act} {w : World} (x : Operand) (ho : o.op = .load 22 x) (g : Nat) (D : Option Addr) (m c : Nat) (hx : a.eval x = .pointer (some ⟨g, 0, none⟩)) (hb : Blk w g 22 [.slice D m c]) :
    (execOp a.eval o).run Tryz.prog w = .ok (.value (.slice D m c)) w := by
  have hc := hb.cell (i := 0) rfl
  unfold execOp
  simp only [ho, hx]
  simp [go_sem, hc]
theorem exec_store24 {o : Oper} {a : Act} {w : World} (x y : Operand) (ho : o.op = .store 22 x y) (g : Nat) (u : Value) (D : Option Addr) (m c : Nat) (hx : a.eval x = .pointer (some ⟨g, 0, none⟩)) (hy : a.eval y = .slice D m c) (hb : Blk w g 22 [u]) :
    (execOp a.eval o).run Tryz.prog w = .ok .skip (w.setCell ⟨g, 0, none⟩ (.slice D m c)) := by
  have hc := hb.cell (i := 0) rfl
  have hf := hb.frozen 0
  unfold execOp
  simp only [ho, hx, hy]
  simp [go_sem, hc, hf]
theorem wpList_load24 {ops : Array Oper} {rest : List Oper} {op : Oper} {a : Act} {w : World} {Q : Exit → Act → World → Prop} (hgd : op.guard = none) (x : Operand) (ho : op.op = .load 22 x) (g : Nat) (D : Option Addr) (m c : Nat) (hx : a.eval x = .pointer (some ⟨g, 0, none⟩)) (hb : Blk w g 22 [.slice D m c])
    (h : wpList Tryz.prog ops Q rest (a.put op.dst (.slice D m c)) w) : wpList Tryz.prog ops Q (op :: rest) a w := wpList_val hgd _ (exec_load24 x ho g D m c hx hb) h
theorem wpList_store24 {ops : Array Oper} {rest : List Oper} {op : Oper} {a : Act} {w : World} {Q : Exit → Act → World → Prop} (hgd : op.guard = none) (x y : Operand) (ho : op.op = .store 22 x y) (g : Nat) (u : Value) (D : Option Addr) (m c : Nat) (hx : a.eval x = .pointer (some ⟨g, 0, none⟩)) (hy : a.eval y = .slice D m c) (hb : Blk w g 22 [u])
    (h : ∀ w', Hid (Blk w' g 22 [.slice D m c]) → Hid (Only g w w') → wpList Tryz.prog ops Q rest (a.put op.dst undef) w') : wpList Tryz.prog ops Q (op :: rest) a w := by
  refine wpList_plain hgd fun K hK => ?_
  unfold Oper.wp
  rw [exec_store24 x y ho g u D m c hx hy hb]
  exact hK _ _ (h _ (Lib.hid (hb.set 0 (.slice D m c))) (Lib.hid (Only.set g 0 w (.slice D m c))))
theorem wpList_rows1 {ops : Array Oper} {rest : List Oper} {op : Oper} {a : Act} {w : World} {Q : Exit → Act → World → Prop} (hgd : op.guard = none) (x : Operand) (ho : op.op = .buildSlice 22 1 #[(0, x)]) (D : Option Addr) (m c : Nat) (hx : a.eval x = .slice D m c)
    (h : ∀ g w', Hid (g = w.heap.size) → Hid (Blk w' g 28 [.slice D m c]) → Hid (Below w.heap.size w w') → wpList Tryz.prog ops Q rest (a.put op.dst (.slice (some ⟨g, 0, none⟩) 1 1)) w') : wpList Tryz.prog ops Q (op :: rest) a w := by
  refine wpList_plain hgd fun K hK => ?_
  have hrun := run_rows1 D m c w
  unfold Oper.wp execOp
  simp only [ho, List.map_toArray, List.map_cons, List.map_nil, hx, Sem.run_bind, hrun, Result.andThen_ok, Sem.run_pure]
  exact hK _ _ (h _ _ (Lib.hid rfl) (Lib.hid (blk_alloc w 28 [.slice D m c])) (Lib.hid (new_below w _)))
/-- The call answers rows. -/
def GivesRs (w : World) (ls : List (List Am)) (e : Ending) (w' : World) : Prop := (∃ A n cap, e = .returned (.slice A n cap) ∧ RowsV w' A n cap ls) ∧ Below w.heap.size w w'
/-- The rows that a cell holds. -/
def MMs (g B : Nat) (w0 : World) (ls : List (List Am)) (V : World) : Prop := ∃ D m c, Blk V g 22 [.slice D m c] ∧ OwnRs V B B (.slice D m c) ls ∧ Only g w0 V
theorem row_single {w : World} {g : Nat} {x : Am} (h : Blk w g 46 x.cells) (hx : x.Ok) : RowV w (some ⟨g, 0, none⟩) 1 1 [x] :=
  ⟨okR_nil.cons hx, rfl, Nat.le_refl _, by unfold maxLen; omega, fun _ => ⟨g, 0, rfl, h.lt, fun i hi => by
    have : i = 0 := by simp at hi; omega
    subst this
    exact h.range⟩⟩
theorem row_not24 {w : World} {A D : Option Addr} {n cap g m c : Nat} {l : List Am} {a : Addr} (h : RowV w A n cap l) (h0 : 0 < n) (hb : Blk w g 22 [.slice D m c]) (ha : A = some a) (e : a.block = g) : False := by
  obtain ⟨G, off, ha', hG, hr⟩ := h.at_ h0
  rw [ha] at ha'
  obtain rfl := Option.some.inj ha'
  simp only at e
  subst e
  have h1 := hr 0 (by rw [h.len]; exact h0) 0 _ (by rw [Am.cells, List.getElem?_append_left (by rw [kcells_len (h.ok _ (List.getElem_mem _)).k.ml]; omega)]; exact kc0 _)
  rw [cell_of_row _ G _ _ 22 (0, 0) hb] at h1
  obtain ⟨hi, e⟩ := Array.getElem?_eq_some_iff.1 h1
  simp only [List.size_toArray, List.length_singleton] at hi
  obtain rfl : off = 0 := by omega
  simp at e
theorem OwnRs.putd {w : World} {B C i : Nat} {v : Value} {ls : List (List Am)} {d : Option (List Deferred)} (h : OwnRs w B C v ls) (o : Obj) (hd : w.heap[i]? = some (.deferred d)) : OwnRs (w.putObj i o) B C v ls := by
  have gr : w.grownBy (w.putObj i o) (some i) := ⟨rfl, rfl, rfl, by simp, fun k _ hn => World.putObj_heap_other (fun e => hn (by rw [e]))⟩
  refine h.kept gr (.inr ?_) (fun _ _ D m c r _ => r.grown gr (fun h0 a ha e => ?_))
  · obtain ⟨cs, hc, _⟩ := h.row
    rcases hc.2 with ⟨rfl, _⟩ | ⟨g', cap, cur, rfl, _, hg, _⟩
    · simp [Value.ownBlock]
    · intro e
      obtain rfl : g' = i := by simpa [Value.ownBlock] using e
      rw [hg] at hd
      cases hd
  · obtain ⟨G, off, ha', hG, hr⟩ := r.at_ h0
    rw [ha] at ha'
    obtain rfl := Option.some.inj ha'
    have e := Option.some.inj e
    simp only at e
    subst e
    have h1 := hr 0 (by rw [r.len]; exact h0) 0 _ (by rw [Am.cells, List.getElem?_append_left (by rw [kcells_len (r.ok _ (List.getElem_mem _)).k.ml]; omega)]; exact kc0 _)
    unfold World.cell? at h1
    simp only [hd] at h1
    cases h1
theorem part_facts {B g7 : Nat} {v : Value} {ls : List (List Am)} {x : Am} {W w4 w5 : World} (h : OwnRs W (B + 2) (B + 2) v ls) (n4 : Blk w4 g7 46 x.cells) (b5 : Below W.heap.size W w4) (b6 : Below w4.heap.size w4 w5) (e4 : g7 = W.heap.size) (hx : x.Ok) (hB : B + 1 < W.heap.size) :
    Hid (Below W.heap.size W w5) ∧ Hid (OwnRs w5 (B + 2) (B + 2) v ls) ∧ Hid (RowV w5 (some ⟨g7, 0, none⟩) 1 1 [x]) ∧ Hid (0 < 1 → ∀ a : Addr, (some ⟨g7, 0, none⟩ : Option Addr) = some a → some a.block ≠ v.ownBlock ∧ B + 2 ≤ a.block) ∧ Hid (B + 2 ≤ w5.heap.size) := by
  refine ⟨Lib.hid (step_ b5 b6), Lib.hid (h.below (step_ b5 b6)), Lib.hid (row_single (n4.below b6) hx), Lib.hid ?_, Lib.hid (Nat.le_trans hB (step_ b5 b6).size)⟩
  intro _ a ha
  obtain rfl := Option.some.inj ha
  refine ⟨fun e => ?_, by simp only; omega⟩
  have h9 := (h.lt e.symm).2
  simp only at h9
  omega
set_option maxRecDepth 100000 in
set_option maxHeartbeats 8000000 in
theorem parts_is (A : Option Addr) (n cap : Nat) (l : List Am) (w : World) (h : RowV w A n cap l) (hn : n ≤ 600) : Calls Tryz.prog 13 #[.slice A n cap] w (GivesRs w (parts l)) := by
  have hz := Tryz.zeroValue22
  have H := Lib.hid h
  have K0 := Lib.hid (blk_alloc w 22 [.slice none 0 0])
  have Q0 := Lib.hid (new_below w (.cells #[.slice none 0 0] 22))
  obtain ⟨s, hs⟩ : ∃ s, norm l = s := ⟨_, rfl⟩
  have HS := Lib.hid hs
  have HP := Lib.hid (show parts l = s.map fun x => [x] by rw [← hs]; rfl)
  rw [HP.out]
  clear h hs HP
  refine (callsIn_wide (n := 10)).1 ?_
  refine callsIn_of_wp_marks Tryz.func13 rfl trivial ?_ rfl
  simp only [Tryz.ntmps13, List.size_toArray, List.length_cons, List.length_nil, Nat.reduceAdd, Nat.reduceSub, Array.replicate_succ, Array.replicate_zero, List.push_toArray, List.append_toArray, List.nil_append, List.cons_append]
  gi_wp2_with fail
  refine ⟨trivial, (callsIn_wide.2 (each_is A n cap l _ (H.out.below Q0.out) hn)).mono ?_⟩
  rintro e w2 ⟨⟨Bs, D, m1, c1, rfl, lbs, k1, r1⟩, b1⟩
  have K1 := Lib.hid k1
  have R1 := Lib.hid (show RowV w2 D m1 c1 s by rw [← HS.out]; exact r1)
  have K3 := Lib.hid (K0.out.below b1)
  have B4 := Lib.hid (step_ Q0.out b1)
  have LBS := Lib.hid (show w.heap.size + 1 ≤ Bs by simpa using lbs)
  have hm1 : m1 ≤ 600 := by have := norm_len l; rw [r1.len, H.out.len] at this; omega
  clear k1 r1 b1 lbs H K0 Q0 HS
  gi_wp2_with fail
  rename_i _ K0 hK0
  have LT := Lib.hid (show w.heap.size < w2.heap.size from K3.out.lt)
  refine range_row (gf := 50) (lb := #[.pointer (some ⟨Bs, 0, none⟩)]) rfl (fun _ _ => rfl) (each_seq Bs D m1 c1 s (by omega)) rfl
    (fun pre V => MMs w.heap.size (w2.heap.size + 2) w2 (pre.map fun x => [x]) V)
    (fun V => False)
    (fun pre V V' h hb => by obtain ⟨D, m, c, h1, h2, h3⟩ := h; exact ⟨D, m, c, h1.below hb, h2.below hb, h3.trans (Only.of_below hb)⟩)
    (fun pre V o h => by obtain ⟨D, m, c, h1, h2, h3⟩ := h; exact ⟨D, m, c, blk_put h1 (by have := LT.out; omega), h2.put _ (h2.ge (by omega)) (by omega), only_put h3 (Nat.le_succ _)⟩)
    (fun V o h => h.elim)
    (fun pre V h => by obtain ⟨D, m, c, h1, h2, h3⟩ := h; exact ⟨K1.out.only h3 (by have := LBS.out; omega), R1.out.off h3 (fun h0 a ha e => row_not24 R1.out h0 K3.out ha e)⟩)
    ⟨none, 0, 0, K3.out, ownRs_nil _ _ _, Only.refl _ _⟩
    (fun pre x a' V => ∃ g4 g5, a' = { tmps := #[.slice A n cap, undef, .slice none 0 0, .pointer (some ⟨w.heap.size, 0, none⟩), .pointer (some ⟨g4, 0, none⟩), .pointer (some ⟨g5, 0, none⟩), .slice A n cap, .func (.func 50) #[] #[.pointer (some ⟨Bs, 0, none⟩)], .agg x.k.cells.toArray, .agg x.v.cells.toArray, undef, undef, undef, undef, undef, undef, undef, undef], defers := [] } ∧ w2.heap.size + 1 < g4 ∧ w2.heap.size + 1 < g5 ∧ Blk V g4 41 x.k.cells ∧ Blk V g5 44 x.v.cells ∧ MMs w.heap.size (w2.heap.size + 2) w2 (pre.map fun x => [x]) V)
    (fun pre x a' V o h => by
      obtain ⟨g4, g5, e, l4, l5, k4, k5, D, m, c, h1, h2, h3⟩ := h
      exact ⟨g4, g5, e, l4, l5, blk_put k4 (by omega), blk_put k5 (by omega), D, m, c, blk_put h1 (by have := LT.out; omega), h2.put _ (h2.ge (by omega)) (by omega), only_put h3 (Nat.le_succ _)⟩)
    ?assign ?body ?done ?stop
  case assign =>
    intro l pre x rest W K hsx hi hlt hK
    have XO := Lib.hid (R1.out.ok x (by rw [hsx]; simp))
    have HI := Lib.hid hi
    have Z1 := Lib.hid (blk_alloc W 41 kzero.cells)
    have hk0 := zero27
    have hv0 := zero30
    clear hi hsx
    simp only [encP, List.zip_toArray, List.zip_cons_cons, List.zip_nil_right, List.foldl_toArray', List.foldl_cons, List.foldl_nil, List.size_toArray, List.length_cons, List.length_nil, List.setIfInBounds_toArray, List.set_cons_zero, List.set_cons_succ]
    gi_wp2_with (first
      | (refine in_plain (wide_in l) rfl (by intro c h; cases h) ?_; refine wpList_store_ky rfl _ _ rfl W.heap.size kzero x.k rfl rfl Z1.out kzero_ok.ml XO.out.k.ml ?_; intro V1 N1 O1; refine in_done ?_; have Z2 := Lib.hid (blk_alloc V1 44 vzero.cells))
      | (refine in_plain (wide_in l) rfl (by intro c h; cases h) ?_; refine wpList_store_vl rfl _ _ rfl V1.heap.size vzero x.v rfl rfl Z2.out rfl XO.out.v.tl ?_; intro V2 N2 O2; refine in_done ?_))
    have QQ := step_ (box_below O1.out) (box_below O2.out)
    obtain ⟨D, m, c, h1, h2, h3⟩ := HI.out
    exact hK _ _ (KeepL.below QQ hlt) ⟨_, _, rfl, hlt, by have := (box_below O1.out).size; omega, N1.out.below (box_below O2.out), N2.out, D, m, c, h1.below QQ, h2.below QQ, h3.trans (Only.of_below QQ)⟩
  case body =>
    intro l pre x rest a' W hsx hax hlt
    obtain ⟨g4, g5, rfl, l4, l5, k4, k5, D0, m0, c0, h1, h2, h3⟩ := hax
    have XO := Lib.hid (R1.out.ok x (by rw [hsx]; simp))
    have K4 := Lib.hid k4
    have K5 := Lib.hid k5
    have G6 := Lib.hid h1
    have OW := Lib.hid h2
    have ON := Lib.hid h3
    have LEN := Lib.hid (show (pre.map fun x => [x]).length ≤ 5000 by have h9 := R1.out.len; rw [hsx, List.length_append] at h9; rw [List.length_map]; omega)
    have HLT := Lib.hid hlt
    clear h1 h2 h3 k4 k5 hsx hlt
    gi_wp2_with (first
      | (refine in_plain (wide_in l) rfl (by intro c h; cases h) ?_; refine wpList_load24 rfl _ rfl w.heap.size D0 m0 c0 rfl G6.out ?_; refine in_done ?_)
      | (refine in_plain (wide_in l) rfl (by intro c h; cases h) ?_; refine wpList_load_ky rfl _ rfl g4 0 x.k rfl K4.out.range XO.out.k.ml ?_; refine in_done ?_)
      | (refine in_plain (wide_in l) rfl (by intro c h; cases h) ?_; refine wpList_load_vl rfl _ rfl g5 0 x.v rfl K5.out.range XO.out.v.tl ?_; refine in_done ?_)
      | (refine in_plain (wide_in l) rfl (by intro c h; cases h) ?_; refine wpList_val rfl _ (exec_build 46 _ rfl [(0, .agg x.k.cells.toArray), (1, .agg x.v.cells.toArray)] rfl _ (built46 x.k x.v XO.out.k.ml XO.out.v.tl)) ?_; refine in_done ?_)
      | (refine in_plain (wide_in l) rfl (by intro c h; cases h) ?_; refine wpList_one46 rfl _ rfl x rfl XO.out ?_; intro g7 w4 e4 N4 B5; refine in_done ?_)
      | (refine in_plain (wide_in l) rfl (by intro c h; cases h) ?_; refine wpList_rows1 rfl _ rfl (some ⟨g7, 0, none⟩) 1 1 rfl ?_; intro g8 w5 e5 N5 B6; have PF := part_facts OW.out N4.out B5.out B6.out e4.out XO.out HLT.out; have G7 := Lib.hid (G6.out.below PF.1.out); refine in_done ?_)
      | (refine in_plain (wide_in l) rfl (by intro c h; cases h) ?_; refine wpList_app_rs rfl _ _ rfl (w2.heap.size + 2) (w2.heap.size + 2) (.slice D0 m0 c0) (pre.map fun x => [x]) (some ⟨g7, 0, none⟩) 1 1 [x] g8 rfl rfl PF.2.1.out PF.2.2.1.out PF.2.2.2.1.out N5.out LEN.out PF.2.2.2.2.out ?_; intro D7 m7 c7 w7 e7 O7 B7 GG7 L7; refine in_done ?_; have G8 := Lib.hid (G7.out.upto B7.out (by have := LT.out; omega)))
      | (refine in_plain (wide_in l) rfl (by intro c h; cases h) ?_; refine wpList_store24 rfl _ _ rfl w.heap.size _ D7 m7 c7 rfl rfl G8.out ?_; intro w8 N8 O8; refine in_done ?_))
    have QQ := PF.1
    have P7 := only_below (ON.out.trans (Only.of_below QQ.out)) B7.out (by omega)
    exact ⟨((KeepL.below QQ.out HLT.out).trans (KeepL.below B7.out (Nat.le_refl _))).trans (KeepL.only O8.out (by have := LT.out; omega) (by have := LT.out; omega) (by have := B7.out.size; have := QQ.out.size; have := HLT.out; omega)), D7, m7, c7, N8.out, O7.out.only O8.out (O7.out.ge (by have := LT.out; omega)) (by have := LT.out; omega), P7.trans O8.out⟩
  case done =>
    intro E W hE hi hd
    obtain ⟨D0, m0, c0, h1, h2, h3⟩ := hi
    have G6 := Lib.hid h1
    have OW := Lib.hid h2
    have ON := Lib.hid h3
    have HD := Lib.hid hd
    clear h1 h2 h3 hd
    show K0 _ _
    refine hK0 _ _ ?_
    gi_wp2_with (refine in_plain wide_no rfl (by intro c h; cases h) ?_; refine wpList_load24 rfl _ rfl w.heap.size D0 m0 c0 rfl G6.out ?_; refine in_done ?_)
    refine marks_ret E rfl HD.out (results_tmp rfl _ _ _) ?_
    exact ⟨⟨D0, m0, c0, rfl, (OW.out.putd _ HD.out).rows⟩, below_put (B4.out.trans (ON.out.below (Nat.le_refl _) (Nat.le_of_lt LT.out))) (by have := LT.out; omega)⟩
  case stop => intro E W hE hx hd; exact hx.elim
end Go.Proofs.YteocfhbfdhokbaaGreat
