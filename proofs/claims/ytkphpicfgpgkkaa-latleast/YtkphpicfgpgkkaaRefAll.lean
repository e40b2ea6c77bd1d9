/- The contracts of Find and All of the reference; rows of rows. -/
import Derived.Test.YtkphpicfgpgkkaaRefJoin
namespace Go.Proofs.Ytkphpicfgpgkkaa
open Go.RowKit

theorem ready_store_vl {ops : Array Oper} {Q : Exit → Act → World → Prop} {md : Region.Mode} {S : World → Prop} {fuel : Nat} {listed : Array Bool} {a : Act} {w : World} {i : Nat} {o : Oper} {rs : List Nat} (ho : ops[i]? = some o) (hg : o.guard = none) (x y : Operand) (hop : o.op = .store 32 x y) (g : Nat) (j k : Vl) (hx : a.eval x = .pointer (some ⟨g, 0, none⟩)) (hy : a.eval y = .agg k.cells.toArray) (hb : Blk w g 32 j.cells) (hj : j.t.length = 8) (hm : k.t.length = 8)
    (h : ∀ w', Blk w' g 32 k.cells → Only g w w' → S w' ∧ wpAnyH Try.prog md ops Q S fuel (listed.setIfInBounds i true) (a.put o.dst undef) w')
    (hs : AllReadyH Try.prog md ops Q S fuel listed a w rs) : AllReadyH Try.prog md ops Q S fuel listed a w (i :: rs) := by
  refine AllReadyH.cons ho (fun K hK => ?_) hs
  have hw : Region.wanted o (yielded ops a.tmps) = true := by simp [Region.wanted, hg]
  rw [if_pos hw]
  have hl : j.cells.length = k.cells.length := by rw [vcells_len hj, vcells_len hm]
  have hB := Blk.setCells k.cells 0 w j.cells hb
  rw [setL_all _ _ hl] at hB
  have H := h _ hB (Only.setCells k.cells 0 w)
  refine wp_store_mid 32 x y hop g 0 k.cells.toArray hx hy (hb.there 0 _ (by rw [List.size_toArray, hl]; omega)) (by rw [List.size_toArray]; exact size30 hm) (one30 k) ?_
  exact hK.out _ _ H.1 (fun _ => H.2)
set_option maxRecDepth 100000 in
set_option maxHeartbeats 2000000 in
theorem refFind_is (A : Option Addr) (n cap : Nat) (l : List Am) (k : Ky) (o : Option Vl) (w : World) (h : RowV w A n cap l) (hk : k.Ok) (hn : n ≤ 1000) (ho : Hid (gt l k = o)) : Calls Try.prog 9 #[.slice A n cap, .agg k.cells.toArray] w (GivesV w o) := by
  have hz := zero30
  have HO := Lib.hid (show fnd (norm l) k = o by rw [fnd_norm h.ok]; exact ho.out)
  have OV := Lib.hid (show (o.getD vzero).Ok from getD_ok (ho.out ▸ (gt_ok h.ok).o k))
  have H := Lib.hid h
  have HK := Lib.hid hk
  have Q0 := Lib.hid ((blk_alloc w 28 k.cells).alloc (.cells vzero.cells.toArray 32))
  have Z0 := Lib.hid (blk2 w (.cells k.cells.toArray 28) 32 vzero.cells)
  have B0 := Lib.hid (step_ (new_below w (.cells k.cells.toArray 28)) (new_below _ (.cells vzero.cells.toArray 32)))
  clear h hk ho
  go_enter Try.func9, Try.ntmps9
  go_wp2_with fail
  obtain ⟨V, hV⟩ : ∃ V, (w.alloc (.cells k.cells.toArray 28)).alloc (.cells vzero.cells.toArray 32) = V := ⟨_, rfl⟩
  rw [hV] at Q0 Z0 B0 ⊢
  clear hV
  have S1 := Lib.hid (show Below w.heap.size w V.drew ∧ Blk V.drew w.heap.size 28 k.cells from ⟨below_drew B0.out, Q0.out.drew⟩)
  have Z1 := Lib.hid Z0.out.drew
  refine wp_region_noPanic ?_
  refine wp_region_held_drew (S := fun W => Below w.heap.size w W ∧ Blk W w.heap.size 28 k.cells) (by kernel_rfl) S1.out (fun _ => ?_)
  refine wpAnyH_take (i := 0) (oi := { dst := some 6, op := Go.Op.move (Go.Operand.tmp 0), type := 22, pos := _, after := #[], guard := none }) (v := ?_) rfl (by kernel_rfl) (by kernel_rfl) (by kernel_rfl) (fun _ _ _ h => h) (Or.inl ⟨by rfl, ?_⟩) S1.out ?_
  rotate_left
  · intro W hW; (go_simp; try with_reducible rfl)
  try simp only [Act.put, List.setIfInBounds_toArray, List.set_cons_zero, List.set_cons_succ]
  refine wpAnyH_take (i := 2) (oi := { dst := some 8, op := Go.Op.load 28 (Go.Operand.tmp 3), type := 28, pos := _, after := #[], guard := none }) (v := .agg k.cells.toArray) rfl (by kernel_rfl) (by kernel_rfl) (by kernel_rfl) (fun _ _ _ h => h) (yieldsIf_load_mid (by rfl) 28 (.tmp 3) rfl w.heap.size 0 rfl k.cells _ (fun W hW => hW.2.range) Try.underlying28 rfl (size27 HK.out.ml)) S1.out ?_
  try simp only [Act.put, List.setIfInBounds_toArray, List.set_cons_zero, List.set_cons_succ]
  refine wpAnyH_ready (rs := [1]) (by kernel_rfl) (by simp) ?_
  refine AllReadyH.cons (o := { dst := some 7, op := Go.Op.call { callee := Go.Callee.value (Go.Operand.func 14), args := #[Go.Operand.tmp 6], argTypes := #[22] }, type := 22, pos := _, after := #[{ on := 0, ground := Go.Ground.data }], guard := none }) rfl (fun K hK => ?_) AllReadyH.nil
  go_simp
  refine (refNorm_is A n cap l _ (H.out.below S1.out.1) hn).mono ?_
  rintro e w1 ⟨⟨A1, n1, c1, rfl, r1⟩, b1⟩
  have S2 := Lib.hid (show Below w.heap.size w w1 ∧ Blk w1 w.heap.size 28 k.cells from ⟨step_ S1.out.1 b1, S1.out.2.below b1⟩)
  have Z2 := Lib.hid (Z1.out.below b1)
  have R1 := Lib.hid r1
  have N1 := Lib.hid (show n1 ≤ 5000 by have := norm_len l; rw [R1.out.len, H.out.len] at this; omega)
  clear b1 r1
  go_wp2_with fail
  refine hK.out _ _ ?_ (fun _ => ?_)
  · exact S2.out
  clear hK K
  try simp only [Act.put, List.setIfInBounds_toArray, List.set_cons_zero, List.set_cons_succ]
  refine wpAnyH_ready (rs := [3]) (by kernel_rfl) (by simp) ?_
  refine AllReadyH.cons (o := { dst := some 9, op := Go.Op.call { callee := Go.Callee.value (Go.Operand.func 29), args := #[Go.Operand.tmp 7, Go.Operand.tmp 8], argTypes := #[22, 28] }, type := 33, pos := _, after := #[{ on := 1, ground := Go.Ground.data }, { on := 2, ground := Go.Ground.data }, { on := 1, ground := Go.Ground.chain }], guard := none }) rfl (fun K hK => ?_) AllReadyH.nil
  go_simp
  refine (find_is A1 n1 c1 (norm l) k o _ R1.out HK.out N1.out HO).mono ?_
  rintro e w2 ⟨rfl, b2⟩
  have S3 := Lib.hid (show Below w.heap.size w w2 ∧ Blk w2 w.heap.size 28 k.cells from ⟨step_ S2.out.1 b2, S2.out.2.below b2⟩)
  have Z3 := Lib.hid (Z2.out.below b2)
  clear b2
  go_wp2_with fail
  refine hK.out _ _ ?_ (fun _ => ?_)
  · exact S3.out
  clear hK K
  try simp only [Act.put, List.setIfInBounds_toArray, List.set_cons_zero, List.set_cons_succ]
  refine wpAnyH_take (i := 4) (oi := { dst := some 10, op := Go.Op.extract (Go.Operand.tmp 9) 0, type := 32, pos := _, after := #[{ on := 3, ground := Go.Ground.data }], guard := none }) (v := ?_) rfl (by kernel_rfl) (by kernel_rfl) (by kernel_rfl) (fun _ _ _ h => h) (Or.inl ⟨by rfl, ?_⟩) S3.out ?_
  rotate_left
  · intro W hW; (go_simp; try with_reducible rfl)
  try simp only [Act.put, List.setIfInBounds_toArray, List.set_cons_zero, List.set_cons_succ]
  refine wpAnyH_take (i := 5) (oi := { dst := some 11, op := Go.Op.extract (Go.Operand.tmp 9) 1, type := 4, pos := _, after := #[{ on := 3, ground := Go.Ground.data }], guard := none }) (v := ?_) rfl (by kernel_rfl) (by kernel_rfl) (by kernel_rfl) (fun _ _ _ h => h) (Or.inl ⟨by rfl, ?_⟩) S3.out ?_
  rotate_left
  · intro W hW; (go_simp; try with_reducible rfl)
  try simp only [Act.put, List.setIfInBounds_toArray, List.set_cons_zero, List.set_cons_succ]
  refine wpAnyH_ready (rs := [6]) (by kernel_rfl) (by simp) ?_
  refine ready_store_vl (o := { dst := none, op := Go.Op.store 32 (Go.Operand.tmp 4) (Go.Operand.tmp 10), type := 0, pos := _, after := #[{ on := 4, ground := Go.Ground.data }, { on := 3, ground := Go.Ground.chain }, { on := 0, ground := Go.Ground.phase }, { on := 1, ground := Go.Ground.phase }, { on := 2, ground := Go.Ground.phase }, { on := 3, ground := Go.Ground.phase }, { on := 4, ground := Go.Ground.phase }, { on := 5, ground := Go.Ground.phase }], guard := none }) rfl rfl _ _ rfl (w.heap.size + 1) vzero (o.getD vzero) rfl rfl Z3.out rfl OV.out.tl (fun w3 N3 O3 => ?_) AllReadyH.nil
  have S4 := Lib.hid (show Below w.heap.size w w3 ∧ Blk w3 w.heap.size 28 k.cells from ⟨S3.out.1.trans (O3.below (Nat.le_succ _) S3.out.1.size), S3.out.2.only O3 (by omega)⟩)
  refine ⟨S4.out, ?_⟩
  simp only [Act.put]
  refine wpAnyH_take (i := 7) (oi := { dst := some 5, op := Go.Op.assign (Go.Operand.tmp 11), type := 4, pos := _, after := #[{ on := 5, ground := Go.Ground.data }, { on := 6, ground := Go.Ground.chain }, { on := 0, ground := Go.Ground.phase }, { on := 1, ground := Go.Ground.phase }, { on := 2, ground := Go.Ground.phase }, { on := 3, ground := Go.Ground.phase }, { on := 4, ground := Go.Ground.phase }, { on := 5, ground := Go.Ground.phase }, { on := 6, ground := Go.Ground.phase }], guard := none }) (v := ?_) rfl (by kernel_rfl) (by kernel_rfl) (by kernel_rfl) (fun _ _ _ h => h) (Or.inl ⟨by rfl, ?_⟩) S4.out ?_
  rotate_left
  · intro W hW; (go_simp; try with_reducible rfl)
  try simp only [Act.put, List.setIfInBounds_toArray, List.set_cons_zero, List.set_cons_succ]
  refine wpAnyH_done (by kernel_rfl) ?_ _
  refine NoPanic.normal ?_
  go_wp2_with fail
  refine bodyPost_ret (results_vlB rfl _ _ (w.heap.size + 1) (o.getD vzero) rfl N3 OV.out.tl) rfl ?_
  exact ⟨rfl, S4.out.1⟩

/-- A slice of rows. -/
structure RowsV (w : World) (A : Option Addr) (n cap : Nat) (ls : List (List Am)) : Prop where
  len : ls.length = n
  le : n ≤ cap
  most : cap ≤ maxLen
  at_ : 0 < n → ∃ G off, A = some ⟨G, off, none⟩ ∧ G < w.heap.size ∧ ∀ i, i < n → ∃ D m c, w.cell? ⟨G, off + i, none⟩ = some (.slice D m c) ∧ RowV w D m c (ls.getD i [])
theorem RowsV.below {w w' : World} {A : Option Addr} {n cap : Nat} {ls : List (List Am)} (h : RowsV w A n cap ls) (hb : Below w.heap.size w w') : RowsV w' A n cap ls :=
  ⟨h.len, h.le, h.most, fun h0 => by
    obtain ⟨G, off, ha, hG, hr⟩ := h.at_ h0
    refine ⟨G, off, ha, Nat.lt_of_lt_of_le hG hb.size, fun i hi => ?_⟩
    obtain ⟨D, m, c, h1, h2⟩ := hr i hi
    exact ⟨D, m, c, (hb.cell (p := ⟨G, off + i, none⟩) hG).trans h1, h2.below hb⟩⟩
theorem RowsV.ok {w : World} {A : Option Addr} {n cap : Nat} {ls : List (List Am)} (h : RowsV w A n cap ls) : ∀ x ∈ ls, OkR x := fun x hx => by
  obtain ⟨i, hi, rfl⟩ := List.getElem_of_mem hx
  obtain ⟨G, off, _, _, hr⟩ := h.at_ (by have := h.len; omega)
  obtain ⟨D, m, c, _, h2⟩ := hr i (by have := h.len; omega)
  have e : ls.getD i [] = ls[i] := by simp [List.getD, List.getElem?_eq_getElem hi]
  rw [e] at h2
  exact h2.ok
/-- Where the row i of the rows lies. -/
structure RElem (w : World) (A : Option Addr) (n G p i : Nat) (D : Option Addr) (m c : Nat) (l : List Am) : Prop where
  ad : ∃ off, A = some ⟨G, off, none⟩ ∧ p = off + i
  lt : i < n
  blk : G < w.heap.size
  cell : w.cell? ⟨G, p, none⟩ = some (.slice D m c)
  row : RowV w D m c l
theorem RowsV.elem {w : World} {A : Option Addr} {n cap : Nat} {ls : List (List Am)} (h : RowsV w A n cap ls) (i : Nat) (hi : i < n) : ∃ G p D m c, RElem w A n G p i D m c (ls.getD i []) := by
  obtain ⟨G, off, ha, hG, hr⟩ := h.at_ (by omega)
  obtain ⟨D, m, c, h1, h2⟩ := hr i hi
  exact ⟨G, off + i, D, m, c, ⟨off, ha, rfl⟩, hi, hG, h1, h2⟩
theorem RElem.below {w w' : World} {A : Option Addr} {n G p i : Nat} {D : Option Addr} {m c : Nat} {l : List Am} (h : RElem w A n G p i D m c l) (hb : Below w.heap.size w w') : RElem w' A n G p i D m c l :=
  ⟨h.ad, h.lt, Nat.lt_of_lt_of_le h.blk hb.size, (hb.cell (p := ⟨G, p, none⟩) h.blk).trans h.cell, h.row.below hb⟩
theorem info22 : (Try.prog.info? 22).map (·.size) = some 1 := by kernel_rfl
theorem sizeOf22 (w : World) : (sizeOf 22).run Try.prog w = .ok 1 w := by
  cases hq : Try.prog.info? 22 with
  | none => have := info22; simp [hq] at this
  | some i =>
    have hi : i.size = 1 := by have := info22; simpa [hq] using this
    simp [sizeOf, typeInfo, hq, hi]
theorem exec_index40 {o : Oper} {a : Act} {w : World} (x y : Operand) (ho : o.op = .indexAddr 40 x y) (A : Option Addr) (n cap G p i : Nat) (D : Option Addr) (m c : Nat) (l : List Am) (z : Int) (hx : a.eval x = .slice A n cap) (hy : a.eval y = .int .i64 z) (hz : z = (i : Int)) {W : World} (h : RElem W A n G p i D m c l) :
    (execOp a.eval o).run Try.prog w = .ok (.value (.pointer (some ⟨G, p, none⟩))) w := by
  obtain ⟨off, hA, rfl⟩ := h.ad
  have hi := h.lt
  have hr : (Instr.indexAt 40 (.slice (some ⟨G, off, none⟩) n cap) (.int .i64 (i : Int))).run Try.prog w = .ok (.pointer (some ⟨G, off + i, none⟩)) w := by
    simp only [Instr.indexAt, asIntOf, Sem.run_bind, Sem.run_pure, Result.andThen_ok, run_underlying Try.underlying40]
    rw [if_pos ⟨by omega, by omega⟩]
    simp [Addr.add]
  unfold execOp
  simp only [ho, hx, hy, hz, hA, Sem.run_bind, hr, Result.andThen_ok, Sem.run_pure]
theorem wpList_index40 {ops : Array Oper} {rest : List Oper} {op : Oper} {a : Act} {w : World} {Q : Exit → Act → World → Prop} (hgd : op.guard = none) (x y : Operand) (ho : op.op = .indexAddr 40 x y) (A : Option Addr) (n cap G p i : Nat) (D : Option Addr) (m c : Nat) (l : List Am) (z : Int) (hx : a.eval x = .slice A n cap) (hy : a.eval y = .int .i64 z) (hz : z = (i : Int)) {W : World} (h : RElem W A n G p i D m c l)
    (hk : wpList Try.prog ops Q rest (a.put op.dst (.pointer (some ⟨G, p, none⟩))) w) : wpList Try.prog ops Q (op :: rest) a w :=
  wpList_val hgd _ (exec_index40 x y ho A n cap G p i D m c l z hx hy hz h) hk
theorem takeL_getD {ls : List (List Am)} {j : Nat} (h : j < ls.length) : ls.take (j + 1) = ls.take j ++ [ls.getD j []] := by
  rw [List.take_add_one]
  simp [List.getD, List.getElem?_eq_getElem h]
/-- Rows are few, and short. -/
def FewR (ls : List (List Am)) : Prop := ls.length ≤ 10 ∧ ls.flatten.length ≤ 600
theorem FewR.take {ls : List (List Am)} (h : FewR ls) (j : Nat) : (ls.take j).flatten.length ≤ 600 := by
  have e : ls.flatten = (ls.take j).flatten ++ (ls.drop j).flatten := by rw [← List.flatten_append, List.take_append_drop]
  have := h.2
  rw [e, List.length_append] at this
  omega
theorem FewR.at_ {ls : List (List Am)} (h : FewR ls) (j : Nat) : (ls.getD j []).length ≤ 600 := by
  by_cases hj : j < ls.length
  · have e := h.take (j + 1)
    rw [takeL_getD hj, List.flatten_append, List.flatten_singleton, List.length_append] at e
    omega
  · simp only [List.getD, List.getElem?_eq_none (by omega : ls.length ≤ j), Option.getD_none]
    simp
set_option maxRecDepth 100000 in
set_option maxHeartbeats 2000000 in
theorem refAll_is (A : Option Addr) (n cap : Nat) (ls : List (List Am)) (w : World) (h : RowsV w A n cap ls) (hf : FewR ls) : Calls Try.prog 23 #[.slice A n cap] w (GivesR w (norm ls.flatten)) := by
  have hn : n ≤ 10 := by have := h.len; have := hf.1; omega
  have H := Lib.hid h
  have FF := Lib.hid hf
  clear h hf
  go_enter Try.func23, Try.ntmps23
  go_wp2_with fail
  go_loopw [3, 4] (fun v i wr => ∃ (j : Nat) (D : Option Addr) (m c : Nat), j ≤ n ∧ i = .int .i64 j ∧ v = .slice D m c ∧ RowV wr D m c (norm (ls.take j).flatten) ∧ Below w.heap.size w wr) (fun _ i _ => n - (intOf i).toNat)
  case atStart => exact ⟨0, none, 0, 0, Nat.zero_le _, rfl, rfl, rowV_nil _, Below.refl _ _⟩
  case round =>
    obtain ⟨j, D, m, c, hj, rfl, rfl, hv, hb⟩ := hrel
    have V := Lib.hid hv
    have BB := Lib.hid hb
    clear hv hb
    by_cases hlt : j < n
    · obtain ⟨G, p, D1, m1, c1, hE⟩ := (H.out.below BB.out).elem j hlt
      have E := Lib.hid hE
      have T := Lib.hid (takeL_getD (ls := ls) (j := j) (by have := H.out.len; omega))
      have M1 := Lib.hid (show m1 ≤ 1000 by have := FF.out.at_ j; have := hE.row.len; omega)
      have M0 := Lib.hid (show m ≤ 1000 by have := norm_len (ls.take j).flatten; have := FF.out.take j; have := V.out.len; omega)
      have O1 := Lib.hid (show OkR (ls.take j).flatten from okR_flat (fun x hx => H.out.ok x (List.mem_of_mem_take hx)))
      have cell := hE.cell
      clear hE
      have HS := Lib.hid (show norm (ls.take (j + 1)).flatten = join (norm (ls.take j).flatten) (ls.getD j []) by
        rw [T.out, List.flatten_append, List.flatten_singleton, join_norm O1.out E.out.row.ok])
      go_wp2_with (first
        | go_skip
        | refine wpList_index40 rfl _ _ rfl A n cap G p j D1 m1 c1 _ _ rfl rfl (by first | rfl | omega) E.out ?_)
      refine (refJoin_is D D1 m m1 c c1 _ _ _ V.out E.out.row M0.out M1.out).mono ?_
      rintro e w3 ⟨⟨D3, m3, c3, rfl, r3⟩, b3⟩
      have B3 := Lib.hid b3
      have R3 := Lib.hid r3
      clear b3 r3
      go_wp2_with fail
      go_roundw
      case rel => exact ⟨j + 1, D3, m3, c3, by omega, by go_num, rfl, by rw [HS.out]; exact R3.out, step_ BB.out B3.out⟩
      case measure => simp [intOf]; omega
    · obtain rfl : j = n := by omega
      have HS := Lib.hid (show ls.take j = ls from List.take_of_length_le (by have := H.out.len; omega))
      go_wp2_with fail
      go_ret
      exact ⟨⟨D, m, c, rfl, by have := V.out; rw [HS.out] at this; exact this⟩, BB.out⟩
end Go.Proofs.Ytkphpicfgpgkkaa
