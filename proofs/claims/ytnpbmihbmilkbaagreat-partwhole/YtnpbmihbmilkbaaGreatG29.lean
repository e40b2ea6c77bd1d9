/- Rows of numbers (uint64), at any slice type: laid, built, appended to, indexed, stored into. -/
import Derived.Test.YtnpbmihbmilkbaaGreatG23
import Derived.Test.YtnpbmihbmilkbaaGreatG11
import Derived.Laws.AppendOwnNone
import Derived.Lib.AppendZerosOnto
namespace Go.Proofs.YtnpbmihbmilkbaaGreat
open Go.RowKit
def Nums (l : List Int) : Prop := ∀ x ∈ l, 0 ≤ x ∧ x < 18446744073709551616
theorem nums_nil : Nums [] := fun x h => by cases h
theorem Nums.app {a b : List Int} (h : Nums a) (k : Nums b) : Nums (a ++ b) := fun x hx => by
  rcases List.mem_append.1 hx with e | e
  · exact h x e
  · exact k x e
theorem Nums.snoc {a : List Int} {x : Int} (h : Nums a) (hx : 0 ≤ x ∧ x < 18446744073709551616) : Nums (a ++ [x]) := h.app fun y hy => by obtain rfl := List.mem_singleton.1 hy; exact hx
theorem Nums.at_ {a : List Int} (h : Nums a) (i : Nat) : 0 ≤ a.getD i 0 ∧ a.getD i 0 < 18446744073709551616 := by
  by_cases hi : i < a.length
  · rw [getD_at hi]; exact h _ (List.getElem_mem hi)
  · rw [List.getD_eq_getElem?_getD, List.getElem?_eq_none (by omega), Option.getD_none]; omega
theorem Nums.sub {a b : List Int} (h : Nums a) (hs : ∀ x ∈ b, x ∈ a) : Nums b := fun x hx => h x (hs x hx)
def nc (l : List Int) : List Value := l.map (Value.int .u64)
theorem nc_len (l : List Int) : (nc l).length = l.length := List.length_map ..
theorem nc_app (a b : List Int) : nc (a ++ b) = nc a ++ nc b := List.map_append
theorem nc_set (l : List Int) (i : Nat) (x : Int) : nc (l.set i x) = (nc l).set i (.int .u64 x) := by unfold nc; rw [List.map_set]
theorem nc_get {l : List Int} {i : Nat} (h : i < l.length) : (nc l)[i]? = some (.int .u64 (l.getD i 0)) := by unfold nc; rw [List.getElem?_map, getD_at h, List.getElem?_eq_getElem h]; rfl
def NumsAt (w : World) (v : Value) (l : List Int) : Prop :=
  ∃ a cap, v = .slice a l.length cap ∧ (l.length ≤ cap ∧ (a = none → cap = 0)) ∧ Nums l ∧ (0 < l.length → ∃ g off, a = some ⟨g, off, none⟩ ∧ g < w.heap.size ∧ ∀ i, i < l.length → w.cell? ⟨g, off + i, none⟩ = some (.int .u64 (l.getD i 0)))
theorem NumsAt.keep {w w' : World} {B : Nat} {v : Value} {l : List Int} (h : NumsAt w v l) (hB : w.heap.size ≤ B) (hb : Below B w w') : NumsAt w' v l := by
  obtain ⟨a, cap, hv, hcap, hr, hc⟩ := h
  refine ⟨a, cap, hv, hcap, hr, fun h0 => ?_⟩
  obtain ⟨g, off, ha, hg, hcell⟩ := hc h0
  exact ⟨g, off, ha, Nat.lt_of_lt_of_le hg hb.size, fun i hi => (hb.cell (p := ⟨g, off + i, none⟩) (Nat.lt_of_lt_of_le hg hB)).trans (hcell i hi)⟩
theorem NumsAt.below {w w' : World} {v : Value} {l : List Int} (h : NumsAt w v l) (hb : Below w.heap.size w w') : NumsAt w' v l := h.keep (Nat.le_refl _) hb
theorem NumsAt.nums {w : World} {v : Value} {l : List Int} (h : NumsAt w v l) : Nums l := by obtain ⟨_, _, _, _, h, _⟩ := h; exact h
theorem NumsAt.shape {w : World} {v : Value} {l : List Int} (h : NumsAt w v l) : ∃ A cap, v = .slice A l.length cap := by obtain ⟨a, c, h, _⟩ := h; exact ⟨a, c, h⟩
theorem nums_at_nil (w : World) : NumsAt w (.slice none 0 0) [] := ⟨none, 0, rfl, ⟨Nat.le_refl _, fun _ => rfl⟩, nums_nil, (fun h => by simp at h)⟩
structure OwnN (w : World) (B : Nat) (v : Value) (l : List Int) : Prop where
  ok : Nums l
  row : w.ownsRow B 22 1 v l.length (nc l)
theorem ownN_nil (w : World) (B : Nat) : OwnN w B (.slice none 0 0) [] := ⟨nums_nil, World.ownsRow_nil w B 22 1⟩
theorem OwnN.at_ {w : World} {B : Nat} {v : Value} {l : List Int} (h : OwnN w B v l) : NumsAt w v l := by
  rcases h.row.2 with ⟨hv, h0⟩ | ⟨g, cap, cur, hv, hg, hh, hc, _⟩
  · exact ⟨none, 0, by rw [hv, h0], ⟨by omega, fun _ => rfl⟩, h.ok, fun hl => by omega⟩
  · subst hv
    refine ⟨_, cap, rfl, ⟨hc, fun h => by cases h⟩, h.ok, fun _ => ⟨g, 0, rfl, (Array.getElem?_eq_some_iff.1 hh).1, fun i hi => ?_⟩⟩
    rw [Nat.zero_add, h.row.cellAt i (by omega)]; exact nc_get hi
theorem OwnN.kept {w w' : World} {B : Nat} {v : Value} {l : List Int} {o : Option Nat} (h : OwnN w B v l) (hg : w.grownBy w' o) (h1 : v.ownBlock = none ∨ v.ownBlock ≠ o) : OwnN w' B v l := ⟨h.ok, h.row.kept hg h1⟩
theorem OwnN.below {w w' : World} {B : Nat} {v : Value} {l : List Int} (h : OwnN w B v l) (hb : Below w.heap.size w w') : OwnN w' B v l :=
  h.kept (o := none) ⟨hb.os, hb.tape, hb.output, hb.size, fun k hk _ => hb.block k hk⟩ (by cases v.ownBlock <;> simp)
theorem OwnN.drew {w : World} {B : Nat} {v : Value} {l : List Int} (h : OwnN w B v l) : OwnN w.drew B v l := h.below (below_drew (Below.refl _ _))
theorem OwnN.shape {w : World} {B : Nat} {v : Value} {l : List Int} (h : OwnN w B v l) : ∃ A cap, v = .slice A l.length cap := h.at_.shape
theorem OwnN.lt {w : World} {B : Nat} {v : Value} {l : List Int} (h : OwnN w B v l) {k : Nat} (hk : v.ownBlock = some k) : B ≤ k ∧ k < w.heap.size := h.row.lt k hk
theorem OwnN.down {w : World} {B C : Nat} {v : Value} {l : List Int} (h : OwnN w B v l) (hC : C ≤ B) : OwnN w C v l := by
  refine ⟨h.ok, h.row.1, ?_⟩
  rcases h.row.2 with e | ⟨g, cap, cur, e, hb, r⟩
  · exact .inl e
  · exact .inr ⟨g, cap, cur, e, by omega, r⟩
theorem OwnN.only {w w' : World} {B g : Nat} {v : Value} {l : List Int} (h : OwnN w B v l) (ho : Only g w w') (hg : ∀ k, v.ownBlock = some k → k ≠ g) : OwnN w' B v l :=
  h.kept (o := some g) ⟨ho.os, ho.tape, ho.output, ho.size, fun k hk hn => ho.block k hk (fun e => hn (by rw [e]))⟩ (by
    cases e : v.ownBlock with
    | none => exact .inl rfl
    | some k => exact .inr fun e2 => hg k e (Option.some.inj e2))
theorem info27n : (Tryz.prog.info? 22).map (fun i => (i.zero, i.size, i.bytes)) = some (some (.int .u64 0), 1, 8) := by kernel_rfl
theorem numAdd (g off j : Nat) : (⟨g, off, none⟩ : Addr).add j = ⟨g, off + j, none⟩ := by
  unfold Addr.add
  by_cases h : j = 0 <;> simp [h]
theorem run_app_nums (w : World) {t : TypeId} (hu : Tryz.prog.underlying t = some (.slice 22)) (ty : TypeId) (base : Nat) (v u : Value) (acc l : List Int)
    (hown : OwnN w base v acc) (hx : NumsAt w u l) (hn : acc.length + l.length ≤ 30000) (hbase : base ≤ w.heap.size) :
    ∃ v' w', (Builtin.append_ #[t, t] ty #[v, u]).run Tryz.prog w = .ok v' w' ∧ OwnN w' base v' (acc ++ l) ∧ w.grownBy w' v.ownBlock ∧ Below base w w' ∧ (v'.ownBlock = v.ownBlock ∨ v'.ownBlock = some w.heap.size) := by
  obtain ⟨i0, hi, hz0, hz1, hz2⟩ := info_parts info27n
  obtain ⟨ad, cap, rfl, hcap, hok, hc⟩ := hx
  rcases ad with _ | ad
  · have h0 : l = [] := by
      cases l with
      | nil => rfl
      | cons c r => obtain ⟨g, off, ha, _⟩ := hc (by simp); cases ha
    subst h0
    have hc0 := hcap.2 rfl
    subst hc0
    have he := run_append_owned_none (P := Tryz.prog) (w := w) base t ty 22 i0 1 hu hi v _ _ hown.row
    exact ⟨v, w, he, by simpa using hown, ⟨rfl, rfl, rfl, Nat.le_refl _, fun _ _ _ => rfl⟩, Below.refl _ _, .inl rfl⟩
  · obtain ⟨v', w', he, h1, h2, _, h5⟩ := run_append_own_at (P := Tryz.prog) w base t ty 22 i0 (.int .u64 0) 1 8 hu hi hz0 hz1 hz2 rfl (by decide) v _ _ hown.row ad l.length cap (nc l) (by rw [nc_len, Nat.mul_one])
      (fun j y hy => by
        have hj : j < l.length := by
          rcases Nat.lt_or_ge j l.length with h | h
          · exact h
          · rw [List.getElem?_eq_none (by rw [nc_len]; exact h)] at hy; cases hy
        obtain ⟨g, off, ha, _, hcell⟩ := hc (by omega)
        obtain rfl := Option.some.inj ha
        rw [numAdd, hcell j hj]
        rw [nc_get hj] at hy; exact hy)
      (fun y hy => by obtain ⟨c, _, rfl⟩ := List.mem_map.1 hy; rfl) (by unfold maxLen; omega) (by omega) hbase
    exact ⟨v', w', he, ⟨hown.ok.app hok, by simpa [nc_app] using h1⟩, h2, (Below.refl base w).grown h2 hbase (fun k hk => (hown.lt hk).1), h5⟩
/-! Elements. -/
structure NElem (A : Option Addr) (n G p i : Nat) : Prop where
  ad : ∃ off, A = some ⟨G, off, none⟩ ∧ p = off + i
  lt : i < n
theorem NumsAt.elem {w : World} {A : Option Addr} {n cap : Nat} {l : List Int} (h : NumsAt w (.slice A n cap) l) (i : Nat) (hi : i < l.length) : ∃ G p, NElem A n G p i ∧ w.cell? ⟨G, p, none⟩ = some (.int .u64 (l.getD i 0)) ∧ G < w.heap.size := by
  obtain ⟨a, c, e, _, _, hc⟩ := h
  simp only [Value.slice.injEq] at e
  obtain ⟨rfl, rfl, rfl⟩ := e
  obtain ⟨G, off, rfl, hG, hx⟩ := hc (by omega)
  exact ⟨G, off + i, ⟨⟨off, rfl, rfl⟩, hi⟩, hx i hi, hG⟩
theorem NumsAt.len {w : World} {A : Option Addr} {n cap : Nat} {l : List Int} (h : NumsAt w (.slice A n cap) l) : n = l.length := by
  obtain ⟨a, c, e, _⟩ := h
  simp only [Value.slice.injEq] at e
  exact e.2.1
section
variable {t : TypeId}
theorem exec_indexN (hu : Tryz.prog.underlying t = some (.slice 22)) {op : Oper} {a : Act} {w : World} (x y : Operand) (ho : op.op = .indexAddr t x y) (A : Option Addr) (n cap G p i : Nat) (z : Int) (hx : a.eval x = .slice A n cap) (hy : a.eval y = .int .i64 z) (hz : z = (i : Int)) (h : NElem A n G p i) :
    (execOp a.eval op).run Tryz.prog w = .ok (.value (.pointer (some ⟨G, p, none⟩))) w := by
  obtain ⟨off, hA, rfl⟩ := h.ad
  have hi := h.lt
  have hr : (Instr.indexAt t (.slice (some ⟨G, off, none⟩) n cap) (.int .i64 (i : Int))).run Tryz.prog w = .ok (.pointer (some ⟨G, off + i, none⟩)) w := by
    simp only [Instr.indexAt, asIntOf, Sem.run_bind, Sem.run_pure, Result.andThen_ok, run_underlying hu]
    rw [if_pos ⟨by omega, by omega⟩]
    simp [Addr.add]
  unfold execOp
  simp only [ho, hx, hy, hz, hA, Sem.run_bind, hr, Result.andThen_ok, Sem.run_pure]
theorem wpList_indexN (hu : Tryz.prog.underlying t = some (.slice 22)) {ops : Array Oper} {rest : List Oper} {op : Oper} {a : Act} {w : World} {Q : Exit → Act → World → Prop} (hgd : op.guard = none) (x y : Operand) (ho : op.op = .indexAddr t x y) (A : Option Addr) (n cap G p i : Nat) (z : Int) (hx : a.eval x = .slice A n cap) (hy : a.eval y = .int .i64 z) (hz : z = (i : Int)) (h : NElem A n G p i)
    (hq : wpList Tryz.prog ops Q rest (a.put op.dst (.pointer (some ⟨G, p, none⟩))) w) : wpList Tryz.prog ops Q (op :: rest) a w := by
  refine wpList_plain hgd fun K hK => ?_
  unfold Oper.wp
  rw [exec_indexN hu x y ho A n cap G p i z hx hy hz h]
  exact hK _ _ hq
theorem fill27 (v : Value) : (Array.map (fun x => [Value.int IntKind.u64 0][x % 1]?.getD default) (Array.range 1)).setIfInBounds 0 v = #[v] := by kernel_rfl
theorem run_num1 (hu : Tryz.prog.underlying t = some (.slice 22)) (i : Int) (w : World) : (Instr.buildSlice t 1 #[(0, .int .u64 i)]).run Tryz.prog w = .ok (.slice (some ⟨w.heap.size, 0, none⟩) 1 1) (w.alloc (.cells #[.int .u64 i] 22)) := by
  have hz := Tryz.zeroValue22
  have hsz := Tryz.sizeOf22
  simp only [Instr.buildSlice, Sem.run_bind, run_underlying hu, Result.andThen_ok, hsz]
  rw [if_neg (by decide), if_neg (by decide)]
  simp [hz, Instr.fill, Value.cells]
  rw [fill27]
  rfl
theorem own_num1 (w : World) (c : Int) (hc : 0 ≤ c ∧ c < 18446744073709551616) (base : Nat) (hb : base ≤ w.heap.size) : OwnN (w.alloc (.cells #[.int .u64 c] 22)) base (.slice (some ⟨w.heap.size, 0, none⟩) 1 1) [c] :=
  ⟨fun y hy => by obtain rfl := List.mem_singleton.1 hy; exact hc, World.ownsRow_lit w #[.int .u64 c] 1 hb (by decide) rfl⟩
theorem wpList_num1 (hu : Tryz.prog.underlying t = some (.slice 22)) {ops : Array Oper} {rest : List Oper} {op : Oper} {a : Act} {w : World} {Q : Exit → Act → World → Prop} (hgd : op.guard = none) (x : Operand) (ho : op.op = .buildSlice t 1 #[(0, x)]) (i : Int) (hx : a.eval x = .int .u64 i) (hi : 0 ≤ i ∧ i < 18446744073709551616)
    (h : ∀ g w', Hid (g = w.heap.size) → Hid (NumsAt w' (.slice (some ⟨g, 0, none⟩) 1 1) [i]) → Hid (Below w.heap.size w w') → wpList Tryz.prog ops Q rest (a.put op.dst (.slice (some ⟨g, 0, none⟩) 1 1)) w') : wpList Tryz.prog ops Q (op :: rest) a w := by
  refine wpList_plain hgd fun K hK => ?_
  have hrun := run_num1 hu i w
  unfold Oper.wp execOp
  simp only [ho, List.map_toArray, List.map_cons, List.map_nil, hx, Sem.run_bind, hrun, Result.andThen_ok, Sem.run_pure]
  exact hK _ _ (h _ _ (Lib.hid rfl) (Lib.hid (own_num1 w i hi w.heap.size (Nat.le_refl _)).at_) (Lib.hid (new_below w _)))
theorem wpList_app_n (hu : Tryz.prog.underlying t = some (.slice 22)) {ops : Array Oper} {rest : List Oper} {op : Oper} {a : Act} {w : World} {Q : Exit → Act → World → Prop} (hgd : op.guard = none) (s x : Operand) (ho : op.op = .call { callee := .builtin .append, args := #[s, x], argTypes := #[t, t] })
    (B : Nat) (v u : Value) (l m : List Int) (hs : a.eval s = v) (hx : a.eval x = u) (hown : OwnN w B v l) (hm : NumsAt w u m) (hn : l.length + m.length ≤ 30000) (hB : B ≤ w.heap.size)
    (h : ∀ E k cap w', Hid (k = (l ++ m).length) → Hid (OwnN w' B (.slice E k cap) (l ++ m)) → Hid (Below B w w') → Hid (w.grownBy w' v.ownBlock) → wpList Tryz.prog ops Q rest (a.put op.dst (.slice E k cap)) w') : wpList Tryz.prog ops Q (op :: rest) a w := by
  refine wpList_plain hgd fun K hK => ?_
  obtain ⟨v', w', he, h1, h2, h3, _⟩ := run_app_nums w hu op.type B v u l m hown hm hn hB
  obtain ⟨E, cap, e⟩ := h1.shape
  subst e
  unfold Oper.wp execOp
  simp only [ho, resolve, invoke, builtin, Sem.run_bind, Sem.run_pure, Result.andThen_ok, List.map_toArray, List.map_cons, List.map_nil, hs, hx, he]
  exact hK _ _ (h E _ cap w' (Lib.hid rfl) (Lib.hid h1) (Lib.hid h3) (Lib.hid h2))
end
theorem exec_load_num {o : Oper} {a : Act} {w : World} (x : Operand) (ho : o.op = .load 22 x) (G p : Nat) (z : Int) (hx : a.eval x = .pointer (some ⟨G, p, none⟩)) (hc : w.cell? ⟨G, p, none⟩ = some (.int .u64 z)) :
    (execOp a.eval o).run Tryz.prog w = .ok (.value (.int .u64 z)) w := by
  unfold execOp
  simp only [ho, hx]
  simp [go_sem, hc]
theorem exec_store_num {o : Oper} {a : Act} {w : World} (x y : Operand) (ho : o.op = .store 22 x y) (G p : Nat) (z : Int) (u : Value) (hx : a.eval x = .pointer (some ⟨G, p, none⟩)) (hy : a.eval y = .int .u64 z) (hc : w.cell? ⟨G, p, none⟩ = some u) (hf : w.frozen? ⟨G, p, none⟩ = false) :
    (execOp a.eval o).run Tryz.prog w = .ok .skip (w.setCell ⟨G, p, none⟩ (.int .u64 z)) := by
  unfold execOp
  simp only [ho, hx, hy]
  simp [go_sem, hc, hf]
theorem exec_num1 {t : TypeId} (hu : Tryz.prog.underlying t = some (.slice 22)) {o : Oper} {a : Act} {w : World} (x : Operand) (ho : o.op = .buildSlice t 1 #[(0, x)]) (i : Int) (hx : a.eval x = .int .u64 i) :
    (execOp a.eval o).run Tryz.prog w = .ok (.value (.slice (some ⟨w.heap.size, 0, none⟩) 1 1)) (w.alloc (.cells #[.int .u64 i] 22)) := by
  unfold execOp
  simp only [ho, List.map_toArray, List.map_cons, List.map_nil, hx, Sem.run_bind, run_num1 hu i w, Result.andThen_ok, Sem.run_pure]
theorem OwnN.cut {w : World} {B g cap : Nat} {l : List Int} (h : OwnN w B (.slice (some ⟨g, 0, none⟩) l.length cap) l) (k : Nat) (hk : k ≤ l.length) : OwnN w B (.slice (some ⟨g, 0, none⟩) k cap) (l.take k) := by
  refine ⟨h.ok.sub fun x hx => List.mem_of_mem_take hx, ?_⟩
  have hl : (l.take k).length = k := by rw [List.length_take]; omega
  refine ⟨by rw [nc_len, Nat.mul_one], ?_⟩
  rcases h.row.2 with ⟨e, _⟩ | ⟨g', cap', cur, e, hb, hg, hn, hcm, hs, ht⟩
  · simp at e
  · simp only [Value.slice.injEq, Option.some.injEq, Addr.mk.injEq, and_true, true_and] at e
    obtain ⟨rfl, rfl⟩ := e
    refine .inr ⟨g, cap, cur, by rw [hl], hb, hg, by omega, hcm, hs, ?_⟩
    rw [hl, Nat.mul_one]
    rw [Nat.mul_one] at ht
    have : (nc l).take k = nc (l.take k) := by unfold nc; rw [List.map_take]
    rw [← this, ← ht, List.take_take, Nat.min_eq_left hk]
section
variable {o : Oper} {a : Act} {w : World}
end
section
variable {ops : Array Oper} {Q : Exit → Act → World → Prop} {md : Region.Mode} {S : World → Prop} {fuel : Nat} {listed : Array Bool} {a : Act} {w : World} {i : Nat} {o : Oper} {rs : List Nat}
theorem ready_val (ho : ops[i]? = some o) (hg : o.guard = none) (v : Value) (w' : World) (hr : (execOp a.eval o).run Tryz.prog w = .ok (.value v) w')
    (h : S w' ∧ wpAnyH Tryz.prog md ops Q S fuel (listed.setIfInBounds i true) (a.put o.dst v) w')
    (hs : AllReadyH Tryz.prog md ops Q S fuel listed a w rs) : AllReadyH Tryz.prog md ops Q S fuel listed a w (i :: rs) := by
  refine AllReadyH.cons ho (fun K hK => ?_) hs
  have hw : Region.wanted o (yielded ops a.tmps) = true := by simp [Region.wanted, hg]
  rw [if_pos hw]
  unfold Oper.wp
  rw [hr]
  exact hK.out _ _ h.1 (fun _ => h.2)
theorem ready_skip (ho : ops[i]? = some o) (hg : o.guard = none) (w' : World) (hr : (execOp a.eval o).run Tryz.prog w = .ok .skip w')
    (h : S w' ∧ wpAnyH Tryz.prog md ops Q S fuel (listed.setIfInBounds i true) (a.put o.dst undef) w')
    (hs : AllReadyH Tryz.prog md ops Q S fuel listed a w rs) : AllReadyH Tryz.prog md ops Q S fuel listed a w (i :: rs) := by
  refine AllReadyH.cons ho (fun K hK => ?_) hs
  have hw : Region.wanted o (yielded ops a.tmps) = true := by simp [Region.wanted, hg]
  rw [if_pos hw]
  unfold Oper.wp
  rw [hr]
  exact hK.out _ _ h.1 (fun _ => h.2)
end
end Go.Proofs.YtnpbmihbmilkbaaGreat
