/- The contract of Meet of package lat. -/
import Derived.Test.YtkphpicfgpgkkaaLeq
namespace Go.Proofs.Ytkphpicfgpgkkaa
open Go.RowKit Go.Shelf
attribute [local go_sem] Oper.semAt_some

theorem only_below {g B : Nat} {w a b : World} (h : Only g w a) (hb : Below B a b) (hB : w.heap.size ≤ B) : Only g w b :=
  ⟨hb.os.trans h.os, hb.tape.trans h.tape, hb.output.trans h.output, Nat.le_trans h.size hb.size, fun k hk hn => (hb.block k (by omega)).trans (h.block k hk hn)⟩
theorem grown_blk {w w' : World} {row : Option Nat} {g t : Nat} {cs : List Value} (h : Blk w g t cs) (hg : w.grownBy w' row) (hn : row ≠ some g) : Blk w' g t cs := (hg.block g h.lt (fun e => hn e.symm)).trans h
theorem OwnR.ne {w : World} {B : Nat} {v : Value} {l : List Am} {g t : Nat} {cs : List Value} (h : OwnR w B v l) (hb : Blk w g t cs) (ht : t ≠ 46) : v.ownBlock ≠ some g := by
  rcases h.row.2 with ⟨rfl, _⟩ | ⟨g', cap, cur, rfl, _, hg, _⟩
  · simp [Value.ownBlock]
  · intro e
    obtain rfl : g' = g := by simpa [Value.ownBlock] using e
    unfold Blk at hb
    rw [hg] at hb
    simp only [Option.some.injEq, Obj.cells.injEq] at hb
    exact ht hb.2.1.symm
theorem OwnR.ned {w : World} {B : Nat} {v : Value} {l : List Am} {i : Nat} {d : Option (List Deferred)} (h : OwnR w B v l) (hb : w.heap[i]? = some (.deferred d)) : v.ownBlock ≠ some i := by
  rcases h.row.2 with ⟨rfl, _⟩ | ⟨g', cap, cur, rfl, _, hg, _⟩
  · simp [Value.ownBlock]
  · intro e
    obtain rfl : g' = i := by simpa [Value.ownBlock] using e
    rw [hg] at hb
    cases hb
theorem OwnR.put {w : World} {B : Nat} {v : Value} {l : List Am} {i : Nat} {o : Obj} (h : OwnR w B v l) (hn : v.ownBlock ≠ some i) : OwnR (w.putObj i o) B v l :=
  ⟨h.ok, h.row.kept (row := some i) ⟨rfl, rfl, rfl, by simp, fun k _ hn => World.putObj_heap_other (fun e => hn (by rw [e]))⟩ (.inr hn)⟩
theorem OwnR.ge {w : World} {B : Nat} {v : Value} {l : List Am} {i : Nat} (h : OwnR w B v l) (hi : i < B) : v.ownBlock ≠ some i := fun e => by have := (h.row.lt i e).1; omega
theorem RowV.only {w w' : World} {A D : Option Addr} {n cap g m c : Nat} {l : List Am} (h : RowV w A n cap l) (ho : Only g w w') (hb : Blk w g 22 [.slice D m c]) : RowV w' A n cap l :=
  ⟨h.ok, h.len, h.le, h.most, fun h0 => by
    obtain ⟨G, off, ha, hG, hr⟩ := h.at_ h0
    have hne : G ≠ g := by
      rintro rfl
      have h1 := hr 0 (by rw [h.len]; exact h0) 0 _ (by rw [Am.cells, List.getElem?_append_left (by rw [kcells_len (h.ok _ (List.getElem_mem _)).k.ml]; omega)]; exact kc0 _)
      rw [cell_of_row _ G _ _ 22 (0, 0) hb] at h1
      obtain ⟨hi, e⟩ := Array.getElem?_eq_some_iff.1 h1
      simp only [List.size_toArray, List.length_singleton] at hi
      obtain rfl : off = 0 := by omega
      simp at e
    refine ⟨G, off, ha, Nat.lt_of_lt_of_le hG ho.size, fun i hi j v hv => ?_⟩
    have h1 := hr i hi j v hv
    unfold World.cell? at *
    rw [show w'.heap[(⟨G, off + i * 21 + j, none⟩ : Addr).block]? = w.heap[(⟨G, off + i * 21 + j, none⟩ : Addr).block]? from ho.block G hG hne]
    exact h1⟩
theorem meetF_snoc (pre : List Am) (x : Am) (f : Ky → Option Vl) : meetF (pre ++ [x]) f = meetF pre f ++ (match f x.k with | none => [] | some u => [⟨x.k, under x.v u⟩]) := by
  unfold meetF
  rw [List.filterMap_append]
  congr 1
  rw [List.filterMap_cons, List.filterMap_nil]
  unfold meetA
  cases f x.k <;> rfl
theorem exec_load22 {o : Oper} {a : Act} {w : World} (x : Operand) (ho : o.op = .load 22 x) (g : Nat) (D : Option Addr) (m c : Nat) (hx : a.eval x = .pointer (some ⟨g, 0, none⟩)) (hb : Blk w g 22 [.slice D m c]) :
    (execOp a.eval o).run Try.prog w = .ok (.value (.slice D m c)) w := by
  have hc := hb.cell (i := 0) rfl
  unfold execOp
  simp only [ho, hx]
  simp [go_sem, hc]
theorem exec_store22 {o : Oper} {a : Act} {w : World} (x y : Operand) (ho : o.op = .store 22 x y) (g : Nat) (u : Value) (D : Option Addr) (m c : Nat) (hx : a.eval x = .pointer (some ⟨g, 0, none⟩)) (hy : a.eval y = .slice D m c) (hb : Blk w g 22 [u]) :
    (execOp a.eval o).run Try.prog w = .ok .skip (w.setCell ⟨g, 0, none⟩ (.slice D m c)) := by
  have hc := hb.cell (i := 0) rfl
  have hf := hb.frozen 0
  unfold execOp
  simp only [ho, hx, hy]
  simp [go_sem, hc, hf]
section
variable {ops : Array Oper} {Q : Exit → Act → World → Prop} {md : Region.Mode} {S : World → Prop} {fuel : Nat} {listed : Array Bool} {a : Act} {w : World} {i : Nat} {o : Oper} {rs : List Nat}
theorem ready_load22 (ho : ops[i]? = some o) (hg : o.guard = none) (x : Operand) (hop : o.op = .load 22 x) (g : Nat) (D : Option Addr) (m c : Nat) (hx : a.eval x = .pointer (some ⟨g, 0, none⟩)) (hb : Blk w g 22 [.slice D m c])
    (h : S w ∧ wpAnyH Try.prog md ops Q S fuel (listed.setIfInBounds i true) (a.put o.dst (.slice D m c)) w)
    (hs : AllReadyH Try.prog md ops Q S fuel listed a w rs) : AllReadyH Try.prog md ops Q S fuel listed a w (i :: rs) := by
  refine AllReadyH.cons ho (fun K hK => ?_) hs
  have hw : Region.wanted o (yielded ops a.tmps) = true := by simp [Region.wanted, hg]
  rw [if_pos hw]
  unfold Oper.wp
  rw [exec_load22 x hop g D m c hx hb]
  exact hK.out _ _ h.1 (fun _ => h.2)
theorem ready_store22 (ho : ops[i]? = some o) (hg : o.guard = none) (x y : Operand) (hop : o.op = .store 22 x y) (g : Nat) (u : Value) (D : Option Addr) (m c : Nat) (hx : a.eval x = .pointer (some ⟨g, 0, none⟩)) (hy : a.eval y = .slice D m c) (hb : Blk w g 22 [u])
    (h : ∀ w', Blk w' g 22 [.slice D m c] → Only g w w' → S w' ∧ wpAnyH Try.prog md ops Q S fuel (listed.setIfInBounds i true) (a.put o.dst undef) w')
    (hs : AllReadyH Try.prog md ops Q S fuel listed a w rs) : AllReadyH Try.prog md ops Q S fuel listed a w (i :: rs) := by
  refine AllReadyH.cons ho (fun K hK => ?_) hs
  have hw : Region.wanted o (yielded ops a.tmps) = true := by simp [Region.wanted, hg]
  rw [if_pos hw]
  have H := h _ (hb.set 0 (.slice D m c)) (Only.set g 0 w (.slice D m c))
  unfold Oper.wp
  rw [exec_store22 x y hop g u D m c hx hy hb]
  exact hK.out _ _ H.1 (fun _ => H.2)
end
/-- What the region of an append holds all along. -/
structure MS (g7 g8 g9 : Nat) (k : Ky) (v u : Vl) (W : World) : Prop where
  k : Blk W g7 28 k.cells
  v : Blk W g8 32 v.cells
  u : Blk W g9 32 u.cells
theorem MS.below {g7 g8 g9 : Nat} {k : Ky} {v u : Vl} {W W' : World} (h : MS g7 g8 g9 k v u W) (hb : Below W.heap.size W W') : MS g7 g8 g9 k v u W' := ⟨h.k.below hb, h.v.below hb, h.u.below hb⟩
theorem MS.only {g7 g8 g9 g : Nat} {k : Ky} {v u : Vl} {W W' : World} (h : MS g7 g8 g9 k v u W) (hb : Only g W W') (h7 : g < g7) (h8 : g < g8) (h9 : g < g9) : MS g7 g8 g9 k v u W' := ⟨h.k.only hb (by omega), h.v.only hb (by omega), h.u.only hb (by omega)⟩
theorem MS.app {g7 g8 g9 B : Nat} {k : Ky} {v u : Vl} {W W' : World} {s : Value} {l : List Am} (h : MS g7 g8 g9 k v u W) (ho : OwnR W B s l) (hg : W.grownBy W' s.ownBlock) : MS g7 g8 g9 k v u W' :=
  ⟨grown_blk h.k hg (ho.ne h.k (by decide)), grown_blk h.v hg (ho.ne h.v (by decide)), grown_blk h.u hg (ho.ne h.u (by decide))⟩
/-- What a round of Meet finds and leaves. -/
def MM (g B : Nat) (w0 : World) (l : List Am) (V : World) : Prop := ∃ D m c, Blk V g 22 [.slice D m c] ∧ OwnR V B (.slice D m c) l ∧ Only g w0 V
set_option maxRecDepth 100000 in
set_option maxHeartbeats 8000000 in
theorem meet_is (A B : Option Addr) (n m cap cap2 : Nat) (a b : List Am) (w : World) (h : RowV w A n cap a) (h2 : RowV w B m cap2 b) (hn : n ≤ 600) (hm : m ≤ 600) : Calls Try.prog 17 #[.slice A n cap, .slice B m cap2] w (GivesR w (meet a b)) := by
  have B1 := Lib.hid (new_below w (.cells #[.slice B m cap2] 22))
  have RR := Lib.hid (rows_one h2)
  have FF := Lib.hid (show FewR [b] from ⟨by simp, by simp; have := h2.len; omega⟩)
  have H := Lib.hid h
  clear h h2
  refine (callsIn_wide (n := 10)).1 ?_
  refine callsIn_of_wp_marks Try.func17 rfl trivial ?_ rfl
  simp only [Try.ntmps17, List.size_toArray, List.length_cons, List.length_nil, Nat.reduceAdd, Nat.reduceSub, Array.replicate_succ, Array.replicate_zero, List.push_toArray, List.append_toArray, List.nil_append, List.cons_append]
  gi_wp2_with fail
  refine ⟨trivial, (callsIn_wide.2 (collect_is _ _ _ [b] _ RR.out FF.out)).mono ?_⟩
  rintro e w1 ⟨⟨bm, rfl, _, m1⟩, b1⟩
  have M1 := Lib.hid m1
  have LB := Lib.hid m1.lt
  have B2 := Lib.hid (step_ B1.out b1)
  have LW := Lib.hid (show w.heap.size ≤ w1.heap.size from B2.out.size)
  clear m1 b1 RR B1
  gi_wp2_with fail
  have W3 := Lib.hid ((blk_alloc w1 51 [.map (some bm)]).alloc (.cells #[.slice none 0 0] 22))
  have W4 := Lib.hid (blk2 w1 (.cells #[.map (some bm)] 51) 22 [.slice none 0 0])
  have Q3 := Lib.hid (step_ (new_below w1 (.cells #[.map (some bm)] 51)) (new_below _ (.cells #[.slice none 0 0] 22)))
  have B3 := Lib.hid (step_ B2.out Q3.out)
  have M2 := Lib.hid (M1.out.below Q3.out)
  refine ⟨trivial, (callsIn_wide.2 (each_is A n cap a _ (H.out.below B3.out) hn)).mono ?_⟩
  rintro e w2 ⟨⟨Bs, D, m1, c1, rfl, lbs, k1, r1⟩, b1⟩
  have K1 := Lib.hid k1
  have R1 := Lib.hid r1
  have W5 := Lib.hid (W3.out.below b1)
  have W6 := Lib.hid (W4.out.below b1)
  have M3 := Lib.hid (M2.out.below b1)
  have B4 := Lib.hid (step_ B3.out b1)
  have LBS := Lib.hid (show w1.heap.size + 2 ≤ Bs by simpa using lbs)
  have hm1 : m1 ≤ 1000 := by have := norm_len a; rw [r1.len, H.out.len] at this; omega
  clear k1 r1 b1 W3 W4 B2 B3 M1 M2 Q3 FF lbs
  gi_wp2_with fail
  rename_i _ K0 hK0
  have LT := Lib.hid (show w1.heap.size + 1 < w2.heap.size from W6.out.lt)
  obtain ⟨f, hf⟩ : ∃ f, gt [b].flatten = f := ⟨_, rfl⟩
  obtain ⟨s, hs⟩ : ∃ s, norm a = s := ⟨_, rfl⟩
  have HR := Lib.hid (show meetF s f = meet a b by rw [← hf, ← hs, List.flatten_singleton]; rfl)
  rw [hf] at M3
  rw [hs] at R1
  clear hf hs H
  refine range_row (gf := 41) (lb := #[.pointer (some ⟨Bs, 0, none⟩)]) rfl (fun _ _ => rfl) (each_seq Bs D m1 c1 s hm1) rfl
    (fun pre V => MM (w1.heap.size + 1) (w2.heap.size + 2) w2 (meetF pre f) V)
    (fun V => False)
    (fun pre V V' h hb => by obtain ⟨D, m, c, h1, h2, h3⟩ := h; exact ⟨D, m, c, h1.below hb, h2.below hb, h3.trans (Only.of_below hb)⟩)
    (fun pre V o h => by obtain ⟨D, m, c, h1, h2, h3⟩ := h; exact ⟨D, m, c, blk_put h1 (by have := LT.out; omega), h2.put (h2.ge (by omega)), only_put h3 (Nat.le_succ _)⟩)
    (fun V o h => h.elim)
    (fun pre V h => by obtain ⟨D, m, c, h1, h2, h3⟩ := h; exact ⟨K1.out.only h3 (by have := LBS.out; omega), R1.out.only h3 W6.out⟩)
    ⟨none, 0, 0, W6.out, ownR_nil _ _, Only.refl _ _⟩
    (fun pre x a' V => ∃ g7 g8, a' = { tmps := #[.slice A n cap, .slice B m cap2, undef, undef, .slice none 0 0, .pointer (some ⟨w1.heap.size, 0, none⟩), .pointer (some ⟨w1.heap.size + 1, 0, none⟩), .pointer (some ⟨g7, 0, none⟩), .pointer (some ⟨g8, 0, none⟩), undef, undef, .slice B m cap2, .slice (some ⟨w.heap.size, 0, none⟩) 1 1, .map (some bm), .slice A n cap, .func (.func 41) #[] #[.pointer (some ⟨Bs, 0, none⟩)], .agg x.k.cells.toArray, .agg x.v.cells.toArray, undef, undef, undef, undef, undef, undef, undef, undef, undef, undef, undef, undef, undef, undef, undef, undef], defers := [] } ∧ w2.heap.size + 1 < g7 ∧ w2.heap.size + 1 < g8 ∧ Blk V g7 28 x.k.cells ∧ Blk V g8 32 x.v.cells ∧ MM (w1.heap.size + 1) (w2.heap.size + 2) w2 (meetF pre f) V)
    (fun pre x a' V o h => by
      obtain ⟨g7, g8, e, l7, l8, k7, k8, D, m, c, h1, h2, h3⟩ := h
      exact ⟨g7, g8, e, l7, l8, blk_put k7 (by omega), blk_put k8 (by omega), D, m, c, blk_put h1 (by have := LT.out; omega), h2.put (h2.ge (by omega)), only_put h3 (Nat.le_succ _)⟩)
    ?assign ?body ?done ?stop
  case assign =>
    intro l pre x rest W K hsx hi hlt hK
    have XO := Lib.hid (R1.out.ok x (by rw [hsx]; simp))
    have HI := Lib.hid hi
    have Z1 := Lib.hid (blk_alloc W 28 kzero.cells)
    have hk0 := zero27
    have hv0 := zero30
    clear hi hsx
    simp only [encP, List.zip_toArray, List.zip_cons_cons, List.zip_nil_right, List.foldl_toArray', List.foldl_cons, List.foldl_nil, List.size_toArray, List.length_cons, List.length_nil, List.setIfInBounds_toArray, List.set_cons_zero, List.set_cons_succ]
    gi_wp2_with (first
      | (refine in_plain (wide_in l) rfl (by intro c h; cases h) ?_; refine wpList_store_ky rfl _ _ rfl W.heap.size kzero x.k rfl rfl Z1.out kzero_ok.ml XO.out.k.ml ?_; intro V1 N1 O1; refine in_done ?_; have Z2 := Lib.hid (blk_alloc V1 32 vzero.cells))
      | (refine in_plain (wide_in l) rfl (by intro c h; cases h) ?_; refine wpList_store_vl rfl _ _ rfl V1.heap.size vzero x.v rfl rfl Z2.out rfl XO.out.v.tl ?_; intro V2 N2 O2; refine in_done ?_))
    have QQ := step_ (box_below O1.out) (box_below O2.out)
    obtain ⟨D, m, c, h1, h2, h3⟩ := HI.out
    exact hK _ _ (KeepL.below QQ hlt) ⟨_, _, rfl, hlt, by have := (box_below O1.out).size; omega, N1.out.below (box_below O2.out), N2.out, D, m, c, h1.below QQ, h2.below QQ, h3.trans (Only.of_below QQ)⟩
  case body =>
    intro l pre x rest a' W hsx hax hlt
    obtain ⟨g7, g8, rfl, l7, l8, k7, k8, D0, m0, c0, h1, h2, h3⟩ := hax
    have XO := Lib.hid (R1.out.ok x (by rw [hsx]; simp))
    have K7 := Lib.hid k7
    have K8 := Lib.hid k8
    have G6 := Lib.hid h1
    have OW := Lib.hid h2
    have ON := Lib.hid h3
    have MW := Lib.hid (M3.out.only h3 (by have := LB.out; omega))
    have LEN := Lib.hid (show (meetF pre f).length ≤ 5000 by have := meetF_len pre f; have h9 := R1.out.len; rw [hsx, List.length_append] at h9; omega)
    have Z1 := Lib.hid (blk_alloc W 32 vzero.cells)
    have hv0 := zero30
    have e0 := (W5.out.only h3 (by omega)).cell (i := 0) rfl
    have HLT := Lib.hid hlt
    clear h1 h2 h3 k7 k8 hsx hlt
    cases hf : f x.k with
    | none =>
      have HF := Lib.hid hf
      have RF := Lib.hid (show meetF (pre ++ [x]) f = meetF pre f by rw [meetF_snoc, hf]; simp)
      clear hf
      gi_wp2_with (first
        | (refine in_plain (wide_in l) rfl (by intro c h; cases h) ?_; refine wpList_load_ky rfl _ rfl g7 0 x.k rfl K7.out.range XO.out.k.ml ?_; refine in_done ?_)
        | (refine in_plain (wide_in l) rfl (by intro c h; cases h) ?_; refine wpList_lookup_okF rfl _ _ rfl bm 1000 f x.k (none) rfl rfl MW.out XO.out.k HF.out ?_; refine in_done ?_)
        | (refine in_plain (wide_in l) rfl (by intro c h; cases h) ?_; refine wpList_store_vl rfl _ _ rfl W.heap.size vzero vzero rfl rfl Z1.out rfl rfl ?_; intro V1 N1 O1; refine in_done ?_; have Q1 := Lib.hid (box_below O1.out)))
      exact ⟨KeepL.below Q1.out HLT.out, D0, m0, c0, G6.out.below Q1.out, by rw [RF.out]; exact OW.out.below Q1.out, ON.out.trans (Only.of_below Q1.out)⟩
    | some u =>
      have HF := Lib.hid hf
      have UO := Lib.hid (MW.out.ok.v _ _ hf)
      have RF := Lib.hid (show meetF (pre ++ [x]) f = meetF pre f ++ [⟨x.k, under x.v u⟩] by rw [meetF_snoc, hf])
      clear hf
      gi_wp2_with (first
        | (refine in_plain (wide_in l) rfl (by intro c h; cases h) ?_; refine wpList_load_ky rfl _ rfl g7 0 x.k rfl K7.out.range XO.out.k.ml ?_; refine in_done ?_)
        | (refine in_plain (wide_in l) rfl (by intro c h; cases h) ?_; refine wpList_lookup_okF rfl _ _ rfl bm 1000 f x.k (some u) rfl rfl MW.out XO.out.k HF.out ?_; refine in_done ?_)
        | (refine in_plain (wide_in l) rfl (by intro c h; cases h) ?_; refine wpList_store_vl rfl _ _ rfl W.heap.size vzero u rfl rfl Z1.out rfl UO.out.tl ?_; intro V1 N1 O1; refine in_done ?_; have Q1 := Lib.hid (box_below O1.out)))
      have S0 := Lib.hid (show MS g7 g8 W.heap.size x.k x.v u V1.drew from ⟨(K7.out.below Q1.out).drew, (K8.out.below Q1.out).drew, N1.out.drew⟩)
      have OD := Lib.hid (OW.out.below Q1.out).drew
      have GD := Lib.hid (G6.out.below Q1.out).drew
      have PD := Lib.hid (show Below W.heap.size W V1.drew from below_drew Q1.out)
      refine region_in (wide_in l) (S := MS g7 g8 W.heap.size x.k x.v u) (by kernel_rfl) (by kernel_rfl) S0.out (fun _ => ?_)
      refine wpAnyH_take (i := 1) (oi := { dst := some 26, op := Go.Op.load 28 (Go.Operand.tmp 7), type := 28, pos := _, after := #[], guard := none }) (v := .agg x.k.cells.toArray) rfl (by kernel_rfl) (by kernel_rfl) (by kernel_rfl) (fun _ _ _ h => h) (yieldsIf_load_mid (by rfl) 28 (.tmp 7) rfl g7 0 rfl x.k.cells _ (fun W hW => hW.k.range) Try.underlying28 rfl (size27 XO.out.k.ml)) S0.out ?_
      try simp only [Act.put, List.setIfInBounds_toArray, List.set_cons_zero, List.set_cons_succ]
      refine wpAnyH_take (i := 2) (oi := { dst := some 27, op := Go.Op.load 32 (Go.Operand.tmp 8), type := 32, pos := _, after := #[], guard := none }) (v := .agg x.v.cells.toArray) rfl (by kernel_rfl) (by kernel_rfl) (by kernel_rfl) (fun _ _ _ h => h) (yieldsIf_load_mid (by rfl) 32 (.tmp 8) rfl g8 0 rfl x.v.cells _ (fun W hW => hW.v.range) Try.underlying32 rfl (size30 XO.out.v.tl)) S0.out ?_
      try simp only [Act.put, List.setIfInBounds_toArray, List.set_cons_zero, List.set_cons_succ]
      refine wpAnyH_take (i := 3) (oi := { dst := some 28, op := Go.Op.load 32 (Go.Operand.tmp 9), type := 32, pos := _, after := #[], guard := none }) (v := .agg u.cells.toArray) rfl (by kernel_rfl) (by kernel_rfl) (by kernel_rfl) (fun _ _ _ h => h) (yieldsIf_load_mid (by rfl) 32 (.tmp 9) rfl W.heap.size 0 rfl u.cells _ (fun W hW => hW.u.range) Try.underlying32 rfl (size30 UO.out.tl)) S0.out ?_
      try simp only [Act.put, List.setIfInBounds_toArray, List.set_cons_zero, List.set_cons_succ]
      refine wpAnyH_ready (rs := [0, 4]) (by kernel_rfl) (by simp) ?_
      refine ready_load22 (o := { dst := some 25, op := Go.Op.load 22 (Go.Operand.tmp 6), type := 22, pos := _, after := #[], guard := none }) rfl rfl _ rfl (w1.heap.size + 1) D0 m0 c0 rfl GD.out ⟨S0.out, ?_⟩ ?_
      · try simp only [Act.put, List.setIfInBounds_toArray, List.set_cons_zero, List.set_cons_succ]
        refine wpAnyH_ready (rs := [4]) (by kernel_rfl) (by simp) ?_
        refine AllReadyH.cons (o := { dst := some 29, op := Go.Op.call { callee := Go.Callee.value (Go.Operand.func 37), args := #[Go.Operand.tmp 27, Go.Operand.tmp 28], argTypes := #[32, 32] }, type := 32, pos := _, after := #[{ on := 2, ground := Go.Ground.data }, { on := 3, ground := Go.Ground.data }], guard := none }) rfl (fun K hK => ?_) AllReadyH.nil
        go_simp
        refine (under_is x.v u _ XO.out.v UO.out).mono ?_
        rintro e w3 ⟨rfl, b3⟩
        have S3 := Lib.hid (S0.out.below b3)
        have O3 := Lib.hid (OD.out.below b3)
        have G3 := Lib.hid (GD.out.below b3)
        have P3 := Lib.hid (step_ PD.out b3)
        clear b3
        go_wp2_with fail
        refine hK.out _ _ ?_ (fun _ => ?_)
        · exact S3.out
        clear hK K
        try simp only [Act.put, List.setIfInBounds_toArray, List.set_cons_zero, List.set_cons_succ]
        refine wpAnyH_take (i := 5) (oi := { dst := some 30, op := Go.Op.build 46 #[(0, Go.Operand.tmp 26), (1, Go.Operand.tmp 29)], type := 46, pos := _, after := #[{ on := 1, ground := Go.Ground.data }, { on := 4, ground := Go.Ground.data }], guard := none }) (v := .agg (⟨x.k, under x.v u⟩ : Am).cells.toArray) rfl (by kernel_rfl) (by kernel_rfl) (by kernel_rfl) (fun _ _ _ h => h) (Or.inl ⟨by rfl, fun W hW => exec_build 46 _ rfl [(0, .agg x.k.cells.toArray), (1, .agg (under x.v u).cells.toArray)] rfl _ (built46 x.k (under x.v u) XO.out.k.ml (under_ok XO.out.v UO.out).tl)⟩) S3.out ?_
        try simp only [Act.put, List.setIfInBounds_toArray, List.set_cons_zero, List.set_cons_succ]
        refine wpAnyH_ready (rs := [6]) (by kernel_rfl) (by simp) ?_
        refine ready_one46 (o := { dst := some 31, op := Go.Op.buildSlice 22 1 #[(0, Go.Operand.tmp 30)], type := 22, pos := _, after := #[{ on := 5, ground := Go.Ground.data }], guard := none }) rfl rfl _ rfl ⟨x.k, under x.v u⟩ rfl ⟨XO.out.k, under_ok XO.out.v UO.out⟩ (fun g4 w4 e4 N4 b4 => ?_) AllReadyH.nil
        have S4 := Lib.hid (S3.out.below b4)
        have O4 := Lib.hid (O3.out.below b4)
        have G4 := Lib.hid (G3.out.below b4)
        have P4 := Lib.hid (step_ P3.out b4)
        clear b4
        refine ⟨S4.out, ?_⟩
        try simp only [Act.put, List.setIfInBounds_toArray, List.set_cons_zero, List.set_cons_succ]
        refine wpAnyH_ready (rs := [7]) (by kernel_rfl) (by simp) ?_
        refine ready_app46 (o := { dst := some 32, op := Go.Op.call { callee := Go.Callee.builtin Go.Builtin.append, args := #[Go.Operand.tmp 25, Go.Operand.tmp 31], argTypes := #[22, 22] }, type := 22, pos := _, after := #[{ on := 0, ground := Go.Ground.data }, { on := 6, ground := Go.Ground.data }, { on := 4, ground := Go.Ground.chain }], guard := none }) rfl rfl _ _ rfl (w2.heap.size + 2) _ (meetF pre f) ⟨x.k, under x.v u⟩ g4 rfl rfl O4.out ⟨XO.out.k, under_ok XO.out.v UO.out⟩ N4 LEN.out (Nat.le_trans HLT.out P4.out.size) (fun D5 m5 c5 w5 e5 O5 b5 G5 => ?_) AllReadyH.nil
        have S5 := Lib.hid (S4.out.app O4.out G5)
        have G6' := Lib.hid (G4.out.upto b5 (by have := LT.out; omega))
        have O5' := Lib.hid O5
        have B5 := Lib.hid b5
        clear b5 O5 G5
        refine ⟨S5.out, ?_⟩
        try simp only [Act.put, List.setIfInBounds_toArray, List.set_cons_zero, List.set_cons_succ]
        refine wpAnyH_ready (rs := [8]) (by kernel_rfl) (by simp) ?_
        refine ready_store22 (o := { dst := none, op := Go.Op.store 22 (Go.Operand.tmp 6) (Go.Operand.tmp 32), type := 0, pos := _, after := #[{ on := 7, ground := Go.Ground.data }, { on := 7, ground := Go.Ground.chain }, { on := 0, ground := Go.Ground.phase }, { on := 1, ground := Go.Ground.phase }, { on := 2, ground := Go.Ground.phase }, { on := 3, ground := Go.Ground.phase }, { on := 4, ground := Go.Ground.phase }, { on := 5, ground := Go.Ground.phase }, { on := 6, ground := Go.Ground.phase }, { on := 7, ground := Go.Ground.phase }], guard := none }) rfl rfl _ _ rfl (w1.heap.size + 1) _ D5 m5 c5 rfl rfl G6'.out (fun w6 N6 o6 => ?_) AllReadyH.nil
        refine ⟨S5.out.only o6 (by have := LT.out; omega) (by have := LT.out; omega) (by have := LT.out; have := HLT.out; omega), ?_⟩
        refine wpAnyH_done (by kernel_rfl) ?_ _
        refine ⟨rfl, ?_⟩
        exact ⟨(KeepL.below P4.out HLT.out).trans ((KeepL.below B5.out (Nat.le_refl _)).trans (KeepL.only o6 (by have := LT.out; omega) (by have := LT.out; omega) (by have := B5.out.size; have := P4.out.size; have := HLT.out; omega))), .inl ⟨rfl, D5, m5, c5, N6, by rw [RF.out]; exact O5'.out.only o6 (.inr (fun k e h9 => (O5'.out.ge (i := w1.heap.size + 1) (by have := LT.out; omega)) (h9 ▸ e))), (only_below (ON.out.trans (Only.of_below P4.out)) B5.out (by omega)).trans o6⟩⟩
      refine AllReadyH.cons (o := { dst := some 29, op := Go.Op.call { callee := Go.Callee.value (Go.Operand.func 37), args := #[Go.Operand.tmp 27, Go.Operand.tmp 28], argTypes := #[32, 32] }, type := 32, pos := _, after := #[{ on := 2, ground := Go.Ground.data }, { on := 3, ground := Go.Ground.data }], guard := none }) rfl (fun K hK => ?_) AllReadyH.nil
      go_simp
      refine (under_is x.v u _ XO.out.v UO.out).mono ?_
      rintro e w3 ⟨rfl, b3⟩
      have S3 := Lib.hid (S0.out.below b3)
      have O3 := Lib.hid (OD.out.below b3)
      have G3 := Lib.hid (GD.out.below b3)
      have P3 := Lib.hid (step_ PD.out b3)
      clear b3
      go_wp2_with fail
      refine hK.out _ _ ?_ (fun _ => ?_)
      · exact S3.out
      clear hK K
      try simp only [Act.put, List.setIfInBounds_toArray, List.set_cons_zero, List.set_cons_succ]
      refine wpAnyH_take (i := 5) (oi := { dst := some 30, op := Go.Op.build 46 #[(0, Go.Operand.tmp 26), (1, Go.Operand.tmp 29)], type := 46, pos := _, after := #[{ on := 1, ground := Go.Ground.data }, { on := 4, ground := Go.Ground.data }], guard := none }) (v := .agg (⟨x.k, under x.v u⟩ : Am).cells.toArray) rfl (by kernel_rfl) (by kernel_rfl) (by kernel_rfl) (fun _ _ _ h => h) (Or.inl ⟨by rfl, fun W hW => exec_build 46 _ rfl [(0, .agg x.k.cells.toArray), (1, .agg (under x.v u).cells.toArray)] rfl _ (built46 x.k (under x.v u) XO.out.k.ml (under_ok XO.out.v UO.out).tl)⟩) S3.out ?_
      try simp only [Act.put, List.setIfInBounds_toArray, List.set_cons_zero, List.set_cons_succ]
      refine wpAnyH_ready (rs := [0, 6]) (by kernel_rfl) (by simp) ?_
      refine ready_load22 (o := { dst := some 25, op := Go.Op.load 22 (Go.Operand.tmp 6), type := 22, pos := _, after := #[], guard := none }) rfl rfl _ rfl (w1.heap.size + 1) D0 m0 c0 rfl G3.out ⟨S3.out, ?_⟩ ?_
      · try simp only [Act.put, List.setIfInBounds_toArray, List.set_cons_zero, List.set_cons_succ]
        refine wpAnyH_ready (rs := [6]) (by kernel_rfl) (by simp) ?_
        refine ready_one46 (o := { dst := some 31, op := Go.Op.buildSlice 22 1 #[(0, Go.Operand.tmp 30)], type := 22, pos := _, after := #[{ on := 5, ground := Go.Ground.data }], guard := none }) rfl rfl _ rfl ⟨x.k, under x.v u⟩ rfl ⟨XO.out.k, under_ok XO.out.v UO.out⟩ (fun g4 w4 e4 N4 b4 => ?_) AllReadyH.nil
        have S4 := Lib.hid (S3.out.below b4)
        have O4 := Lib.hid (O3.out.below b4)
        have G4 := Lib.hid (G3.out.below b4)
        have P4 := Lib.hid (step_ P3.out b4)
        clear b4
        refine ⟨S4.out, ?_⟩
        try simp only [Act.put, List.setIfInBounds_toArray, List.set_cons_zero, List.set_cons_succ]
        refine wpAnyH_ready (rs := [7]) (by kernel_rfl) (by simp) ?_
        refine ready_app46 (o := { dst := some 32, op := Go.Op.call { callee := Go.Callee.builtin Go.Builtin.append, args := #[Go.Operand.tmp 25, Go.Operand.tmp 31], argTypes := #[22, 22] }, type := 22, pos := _, after := #[{ on := 0, ground := Go.Ground.data }, { on := 6, ground := Go.Ground.data }, { on := 4, ground := Go.Ground.chain }], guard := none }) rfl rfl _ _ rfl (w2.heap.size + 2) _ (meetF pre f) ⟨x.k, under x.v u⟩ g4 rfl rfl O4.out ⟨XO.out.k, under_ok XO.out.v UO.out⟩ N4 LEN.out (Nat.le_trans HLT.out P4.out.size) (fun D5 m5 c5 w5 e5 O5 b5 G5 => ?_) AllReadyH.nil
        have S5 := Lib.hid (S4.out.app O4.out G5)
        have G6' := Lib.hid (G4.out.upto b5 (by have := LT.out; omega))
        have O5' := Lib.hid O5
        have B5 := Lib.hid b5
        clear b5 O5 G5
        refine ⟨S5.out, ?_⟩
        try simp only [Act.put, List.setIfInBounds_toArray, List.set_cons_zero, List.set_cons_succ]
        refine wpAnyH_ready (rs := [8]) (by kernel_rfl) (by simp) ?_
        refine ready_store22 (o := { dst := none, op := Go.Op.store 22 (Go.Operand.tmp 6) (Go.Operand.tmp 32), type := 0, pos := _, after := #[{ on := 7, ground := Go.Ground.data }, { on := 7, ground := Go.Ground.chain }, { on := 0, ground := Go.Ground.phase }, { on := 1, ground := Go.Ground.phase }, { on := 2, ground := Go.Ground.phase }, { on := 3, ground := Go.Ground.phase }, { on := 4, ground := Go.Ground.phase }, { on := 5, ground := Go.Ground.phase }, { on := 6, ground := Go.Ground.phase }, { on := 7, ground := Go.Ground.phase }], guard := none }) rfl rfl _ _ rfl (w1.heap.size + 1) _ D5 m5 c5 rfl rfl G6'.out (fun w6 N6 o6 => ?_) AllReadyH.nil
        refine ⟨S5.out.only o6 (by have := LT.out; omega) (by have := LT.out; omega) (by have := LT.out; have := HLT.out; omega), ?_⟩
        refine wpAnyH_done (by kernel_rfl) ?_ _
        refine ⟨rfl, ?_⟩
        exact ⟨(KeepL.below P4.out HLT.out).trans ((KeepL.below B5.out (Nat.le_refl _)).trans (KeepL.only o6 (by have := LT.out; omega) (by have := LT.out; omega) (by have := B5.out.size; have := P4.out.size; have := HLT.out; omega))), .inl ⟨rfl, D5, m5, c5, N6, by rw [RF.out]; exact O5'.out.only o6 (.inr (fun k e h9 => (O5'.out.ge (i := w1.heap.size + 1) (by have := LT.out; omega)) (h9 ▸ e))), (only_below (ON.out.trans (Only.of_below P4.out)) B5.out (by omega)).trans o6⟩⟩
      refine ready_one46 (o := { dst := some 31, op := Go.Op.buildSlice 22 1 #[(0, Go.Operand.tmp 30)], type := 22, pos := _, after := #[{ on := 5, ground := Go.Ground.data }], guard := none }) rfl rfl _ rfl ⟨x.k, under x.v u⟩ rfl ⟨XO.out.k, under_ok XO.out.v UO.out⟩ (fun g4 w4 e4 N4 b4 => ?_) AllReadyH.nil
      have S4 := Lib.hid (S3.out.below b4)
      have O4 := Lib.hid (O3.out.below b4)
      have G4 := Lib.hid (G3.out.below b4)
      have P4 := Lib.hid (step_ P3.out b4)
      clear b4
      refine ⟨S4.out, ?_⟩
      try simp only [Act.put, List.setIfInBounds_toArray, List.set_cons_zero, List.set_cons_succ]
      refine wpAnyH_ready (rs := [0]) (by kernel_rfl) (by simp) ?_
      refine ready_load22 (o := { dst := some 25, op := Go.Op.load 22 (Go.Operand.tmp 6), type := 22, pos := _, after := #[], guard := none }) rfl rfl _ rfl (w1.heap.size + 1) D0 m0 c0 rfl G4.out ⟨S4.out, ?_⟩ AllReadyH.nil
      try simp only [Act.put, List.setIfInBounds_toArray, List.set_cons_zero, List.set_cons_succ]
      refine wpAnyH_ready (rs := [7]) (by kernel_rfl) (by simp) ?_
      refine ready_app46 (o := { dst := some 32, op := Go.Op.call { callee := Go.Callee.builtin Go.Builtin.append, args := #[Go.Operand.tmp 25, Go.Operand.tmp 31], argTypes := #[22, 22] }, type := 22, pos := _, after := #[{ on := 0, ground := Go.Ground.data }, { on := 6, ground := Go.Ground.data }, { on := 4, ground := Go.Ground.chain }], guard := none }) rfl rfl _ _ rfl (w2.heap.size + 2) _ (meetF pre f) ⟨x.k, under x.v u⟩ g4 rfl rfl O4.out ⟨XO.out.k, under_ok XO.out.v UO.out⟩ N4 LEN.out (Nat.le_trans HLT.out P4.out.size) (fun D5 m5 c5 w5 e5 O5 b5 G5 => ?_) AllReadyH.nil
      have S5 := Lib.hid (S4.out.app O4.out G5)
      have G6' := Lib.hid (G4.out.upto b5 (by have := LT.out; omega))
      have O5' := Lib.hid O5
      have B5 := Lib.hid b5
      clear b5 O5 G5
      refine ⟨S5.out, ?_⟩
      try simp only [Act.put, List.setIfInBounds_toArray, List.set_cons_zero, List.set_cons_succ]
      refine wpAnyH_ready (rs := [8]) (by kernel_rfl) (by simp) ?_
      refine ready_store22 (o := { dst := none, op := Go.Op.store 22 (Go.Operand.tmp 6) (Go.Operand.tmp 32), type := 0, pos := _, after := #[{ on := 7, ground := Go.Ground.data }, { on := 7, ground := Go.Ground.chain }, { on := 0, ground := Go.Ground.phase }, { on := 1, ground := Go.Ground.phase }, { on := 2, ground := Go.Ground.phase }, { on := 3, ground := Go.Ground.phase }, { on := 4, ground := Go.Ground.phase }, { on := 5, ground := Go.Ground.phase }, { on := 6, ground := Go.Ground.phase }, { on := 7, ground := Go.Ground.phase }], guard := none }) rfl rfl _ _ rfl (w1.heap.size + 1) _ D5 m5 c5 rfl rfl G6'.out (fun w6 N6 o6 => ?_) AllReadyH.nil
      refine ⟨S5.out.only o6 (by have := LT.out; omega) (by have := LT.out; omega) (by have := LT.out; have := HLT.out; omega), ?_⟩
      refine wpAnyH_done (by kernel_rfl) ?_ _
      refine ⟨rfl, ?_⟩
      exact ⟨(KeepL.below P4.out HLT.out).trans ((KeepL.below B5.out (Nat.le_refl _)).trans (KeepL.only o6 (by have := LT.out; omega) (by have := LT.out; omega) (by have := B5.out.size; have := P4.out.size; have := HLT.out; omega))), .inl ⟨rfl, D5, m5, c5, N6, by rw [RF.out]; exact O5'.out.only o6 (.inr (fun k e h9 => (O5'.out.ge (i := w1.heap.size + 1) (by have := LT.out; omega)) (h9 ▸ e))), (only_below (ON.out.trans (Only.of_below P4.out)) B5.out (by omega)).trans o6⟩⟩
  case done =>
    intro D W hD hi hd
    obtain ⟨D1, m1, c1, h1, h2, h3⟩ := hi
    have OW := Lib.hid h2
    have ON := Lib.hid h3
    have e6 := h1.cell (i := 0) rfl
    have HD := Lib.hid hd
    clear hd h1 h2 h3
    show K0 _ _
    refine hK0 _ _ ?_
    gi_wp2_with fail
    refine marks_ret D rfl HD.out (results_tmp rfl _ _ _) ?_
    exact GivesR.own (by rw [← HR.out]; exact OW.out.put (OW.out.ned HD.out)) (below_put (B4.out.trans (ON.out.below (by have := LW.out; omega) (by have := LT.out; have := LW.out; omega))) (by have := LT.out; have := LW.out; omega))
  case stop =>
    intro D W hD hx hd
    exact hx.elim
end Go.Proofs.Ytkphpicfgpgkkaa
