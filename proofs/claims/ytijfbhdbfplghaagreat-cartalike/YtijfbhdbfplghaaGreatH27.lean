/- Rows of numbers (uint16), at any slice type: laid, built, appended to, indexed, stored into. The contract of Get of package note. The condition that a key is that of the note of any cart. Written by wip/tools/nany_r16.py. The contract of Carts of package note. -/
import Derived.Test.YtijfbhdbfplghaaGreatH11
import Derived.Test.YtijfbhdbfplghaaGreatH17
import Derived.Laws.AppendOwnNone
import Derived.Lib.AppendZerosOnto
import Derived.Test.YtijfbhdbfplghaaGreatH26
namespace Go.Proofs.YtijfbhdbfplghaaGreat
open Go.RowKit
def Nums (l : List Int) : Prop := ∀ x ∈ l, 0 ≤ x ∧ x < 65536
theorem nums_nil : Nums [] := fun x h => by cases h
theorem Nums.app {a b : List Int} (h : Nums a) (k : Nums b) : Nums (a ++ b) := fun x hx => by
  rcases List.mem_append.1 hx with e | e
  · exact h x e
  · exact k x e
theorem Nums.snoc {a : List Int} {x : Int} (h : Nums a) (hx : 0 ≤ x ∧ x < 65536) : Nums (a ++ [x]) := h.app fun y hy => by obtain rfl := List.mem_singleton.1 hy; exact hx
theorem Nums.at_ {a : List Int} (h : Nums a) (i : Nat) : 0 ≤ a.getD i 0 ∧ a.getD i 0 < 65536 := by
  by_cases hi : i < a.length
  · rw [getD_at hi]; exact h _ (List.getElem_mem hi)
  · rw [List.getD_eq_getElem?_getD, List.getElem?_eq_none (by omega), Option.getD_none]; omega
theorem Nums.sub {a b : List Int} (h : Nums a) (hs : ∀ x ∈ b, x ∈ a) : Nums b := fun x hx => h x (hs x hx)
def nc (l : List Int) : List Value := l.map (Value.int .u16)
theorem nc_len (l : List Int) : (nc l).length = l.length := List.length_map ..
theorem nc_app (a b : List Int) : nc (a ++ b) = nc a ++ nc b := List.map_append
theorem nc_set (l : List Int) (i : Nat) (x : Int) : nc (l.set i x) = (nc l).set i (.int .u16 x) := by unfold nc; rw [List.map_set]
theorem nc_get {l : List Int} {i : Nat} (h : i < l.length) : (nc l)[i]? = some (.int .u16 (l.getD i 0)) := by unfold nc; rw [List.getElem?_map, getD_at h, List.getElem?_eq_getElem h]; rfl
def NumsAt (w : World) (v : Value) (l : List Int) : Prop :=
  ∃ a cap, v = .slice a l.length cap ∧ (l.length ≤ cap ∧ (a = none → cap = 0)) ∧ Nums l ∧ (0 < l.length → ∃ g off, a = some ⟨g, off, none⟩ ∧ g < w.heap.size ∧ ∀ i, i < l.length → w.cell? ⟨g, off + i, none⟩ = some (.int .u16 (l.getD i 0)))
theorem NumsAt.keep {w w' : World} {B : Nat} {v : Value} {l : List Int} (h : NumsAt w v l) (hB : w.heap.size ≤ B) (hb : Below B w w') : NumsAt w' v l := by
  obtain ⟨a, cap, hv, hcap, hr, hc⟩ := h
  refine ⟨a, cap, hv, hcap, hr, fun h0 => ?_⟩
  obtain ⟨g, off, ha, hg, hcell⟩ := hc h0
  exact ⟨g, off, ha, Nat.lt_of_lt_of_le hg hb.size, fun i hi => (hb.cell (p := ⟨g, off + i, none⟩) (Nat.lt_of_lt_of_le hg hB)).trans (hcell i hi)⟩
theorem NumsAt.below {w w' : World} {v : Value} {l : List Int} (h : NumsAt w v l) (hb : Below w.heap.size w w') : NumsAt w' v l := h.keep (Nat.le_refl _) hb
theorem NumsAt.shape {w : World} {v : Value} {l : List Int} (h : NumsAt w v l) : ∃ A cap, v = .slice A l.length cap := by obtain ⟨a, c, h, _⟩ := h; exact ⟨a, c, h⟩
structure OwnN (w : World) (B : Nat) (v : Value) (l : List Int) : Prop where
  ok : Nums l
  row : w.ownsRow B 23 1 v l.length (nc l)
theorem ownN_nil (w : World) (B : Nat) : OwnN w B (.slice none 0 0) [] := ⟨nums_nil, World.ownsRow_nil w B 23 1⟩
theorem OwnN.at_ {w : World} {B : Nat} {v : Value} {l : List Int} (h : OwnN w B v l) : NumsAt w v l := by
  rcases h.row.2 with ⟨hv, h0⟩ | ⟨g, cap, cur, hv, hg, hh, hc, _⟩
  · exact ⟨none, 0, by rw [hv, h0], ⟨by omega, fun _ => rfl⟩, h.ok, fun hl => by omega⟩
  · subst hv
    refine ⟨_, cap, rfl, ⟨hc, fun h => by cases h⟩, h.ok, fun _ => ⟨g, 0, rfl, (Array.getElem?_eq_some_iff.1 hh).1, fun i hi => ?_⟩⟩
    rw [Nat.zero_add, h.row.cellAt i (by omega)]; exact nc_get hi
theorem OwnN.kept {w w' : World} {B : Nat} {v : Value} {l : List Int} {o : Option Nat} (h : OwnN w B v l) (hg : w.grownBy w' o) (h1 : v.ownBlock = none ∨ v.ownBlock ≠ o) : OwnN w' B v l := ⟨h.ok, h.row.kept hg h1⟩
theorem OwnN.below {w w' : World} {B : Nat} {v : Value} {l : List Int} (h : OwnN w B v l) (hb : Below w.heap.size w w') : OwnN w' B v l :=
  h.kept (o := none) ⟨hb.os, hb.tape, hb.output, hb.size, fun k hk _ => hb.block k hk⟩ (by cases v.ownBlock <;> simp)
theorem OwnN.drew {w : World} {B : Nat} {v : Value} {l : List Int} (h : OwnN w B v l) : OwnN w.drew B v l := h.below (below_drew (Below.refl _ _))
theorem OwnN.shape {w : World} {B : Nat} {v : Value} {l : List Int} (h : OwnN w B v l) : ∃ A cap, v = .slice A l.length cap := h.at_.shape
theorem OwnN.lt {w : World} {B : Nat} {v : Value} {l : List Int} (h : OwnN w B v l) {k : Nat} (hk : v.ownBlock = some k) : B ≤ k ∧ k < w.heap.size := h.row.lt k hk
theorem OwnN.down {w : World} {B C : Nat} {v : Value} {l : List Int} (h : OwnN w B v l) (hC : C ≤ B) : OwnN w C v l := by
  refine ⟨h.ok, h.row.1, ?_⟩
  rcases h.row.2 with e | ⟨g, cap, cur, e, hb, r⟩
  · exact .inl e
  · exact .inr ⟨g, cap, cur, e, by omega, r⟩
theorem OwnN.only {w w' : World} {B g : Nat} {v : Value} {l : List Int} (h : OwnN w B v l) (ho : Only g w w') (hg : ∀ k, v.ownBlock = some k → k ≠ g) : OwnN w' B v l :=
  h.kept (o := some g) ⟨ho.os, ho.tape, ho.output, ho.size, fun k hk hn => ho.block k hk (fun e => hn (by rw [e]))⟩ (by
    cases e : v.ownBlock with
    | none => exact .inl rfl
    | some k => exact .inr fun e2 => hg k e (Option.some.inj e2))
theorem info23n : (Tryz.prog.info? 23).map (fun i => (i.zero, i.size, i.bytes)) = some (some (.int .u16 0), 1, 2) := by kernel_rfl
theorem numAdd (g off j : Nat) : (⟨g, off, none⟩ : Addr).add j = ⟨g, off + j, none⟩ := by
  unfold Addr.add
  by_cases h : j = 0 <;> simp [h]
theorem run_app_nums (w : World) {t : TypeId} (hu : Tryz.prog.underlying t = some (.slice 23)) (ty : TypeId) (base : Nat) (v u : Value) (acc l : List Int)
    (hown : OwnN w base v acc) (hx : NumsAt w u l) (hn : acc.length + l.length ≤ 30000) (hbase : base ≤ w.heap.size) :
    ∃ v' w', (Builtin.append_ #[t, t] ty #[v, u]).run Tryz.prog w = .ok v' w' ∧ OwnN w' base v' (acc ++ l) ∧ w.grownBy w' v.ownBlock ∧ Below base w w' ∧ (v'.ownBlock = v.ownBlock ∨ v'.ownBlock = some w.heap.size) := by
  obtain ⟨i0, hi, hz0, hz1, hz2⟩ := info_parts info23n
  obtain ⟨ad, cap, rfl, hcap, hok, hc⟩ := hx
  rcases ad with _ | ad
  · have h0 : l = [] := by
      cases l with
      | nil => rfl
      | cons c r => obtain ⟨g, off, ha, _⟩ := hc (by simp); cases ha
    subst h0
    have hc0 := hcap.2 rfl
    subst hc0
    have he := run_append_owned_none (P := Tryz.prog) (w := w) base t ty 23 i0 1 hu hi v _ _ hown.row
    exact ⟨v, w, he, by simpa using hown, ⟨rfl, rfl, rfl, Nat.le_refl _, fun _ _ _ => rfl⟩, Below.refl _ _, .inl rfl⟩
  · obtain ⟨v', w', he, h1, h2, _, h5⟩ := run_append_own_at (P := Tryz.prog) w base t ty 23 i0 (.int .u16 0) 1 2 hu hi hz0 hz1 hz2 rfl (by decide) v _ _ hown.row ad l.length cap (nc l) (by rw [nc_len, Nat.mul_one])
      (fun j y hy => by
        have hj : j < l.length := by
          rcases Nat.lt_or_ge j l.length with h | h
          · exact h
          · rw [List.getElem?_eq_none (by rw [nc_len]; exact h)] at hy; cases hy
        obtain ⟨g, off, ha, _, hcell⟩ := hc (by omega)
        obtain rfl := Option.some.inj ha
        rw [numAdd, hcell j hj]
        rw [nc_get hj] at hy; exact hy)
      (fun y hy => by obtain ⟨c, _, rfl⟩ := List.mem_map.1 hy; rfl) (by unfold maxLen; omega) (by omega) hbase
    exact ⟨v', w', he, ⟨hown.ok.app hok, by simpa [nc_app] using h1⟩, h2, (Below.refl base w).grown h2 hbase (fun k hk => (hown.lt hk).1), h5⟩
/-! Elements. -/
structure NElem (A : Option Addr) (n G p i : Nat) : Prop where
  ad : ∃ off, A = some ⟨G, off, none⟩ ∧ p = off + i
  lt : i < n
theorem NumsAt.elem {w : World} {A : Option Addr} {n cap : Nat} {l : List Int} (h : NumsAt w (.slice A n cap) l) (i : Nat) (hi : i < l.length) : ∃ G p, NElem A n G p i ∧ w.cell? ⟨G, p, none⟩ = some (.int .u16 (l.getD i 0)) ∧ G < w.heap.size := by
  obtain ⟨a, c, e, _, _, hc⟩ := h
  simp only [Value.slice.injEq] at e
  obtain ⟨rfl, rfl, rfl⟩ := e
  obtain ⟨G, off, rfl, hG, hx⟩ := hc (by omega)
  exact ⟨G, off + i, ⟨⟨off, rfl, rfl⟩, hi⟩, hx i hi, hG⟩
theorem NumsAt.len {w : World} {A : Option Addr} {n cap : Nat} {l : List Int} (h : NumsAt w (.slice A n cap) l) : n = l.length := by
  obtain ⟨a, c, e, _⟩ := h
  simp only [Value.slice.injEq] at e
  exact e.2.1
section
variable {t : TypeId}
theorem exec_indexN (hu : Tryz.prog.underlying t = some (.slice 23)) {op : Oper} {a : Act} {w : World} (x y : Operand) (ho : op.op = .indexAddr t x y) (A : Option Addr) (n cap G p i : Nat) (z : Int) (hx : a.eval x = .slice A n cap) (hy : a.eval y = .int .i64 z) (hz : z = (i : Int)) (h : NElem A n G p i) :
    (execOp a.eval op).run Tryz.prog w = .ok (.value (.pointer (some ⟨G, p, none⟩))) w := by
  obtain ⟨off, hA, rfl⟩ := h.ad
  have hi := h.lt
  have hr : (Instr.indexAt t (.slice (some ⟨G, off, none⟩) n cap) (.int .i64 (i : Int))).run Tryz.prog w = .ok (.pointer (some ⟨G, off + i, none⟩)) w := by
    simp only [Instr.indexAt, asIntOf, Sem.run_bind, Sem.run_pure, Result.andThen_ok, run_underlying hu]
    rw [if_pos ⟨by omega, by omega⟩]
    simp [Addr.add]
  unfold execOp
  simp only [ho, hx, hy, hz, hA, Sem.run_bind, hr, Result.andThen_ok, Sem.run_pure]
theorem wpList_indexN (hu : Tryz.prog.underlying t = some (.slice 23)) {ops : Array Oper} {rest : List Oper} {op : Oper} {a : Act} {w : World} {Q : Exit → Act → World → Prop} (hgd : op.guard = none) (x y : Operand) (ho : op.op = .indexAddr t x y) (A : Option Addr) (n cap G p i : Nat) (z : Int) (hx : a.eval x = .slice A n cap) (hy : a.eval y = .int .i64 z) (hz : z = (i : Int)) (h : NElem A n G p i)
    (hq : wpList Tryz.prog ops Q rest (a.put op.dst (.pointer (some ⟨G, p, none⟩))) w) : wpList Tryz.prog ops Q (op :: rest) a w := by
  refine wpList_plain hgd fun K hK => ?_
  unfold Oper.wp
  rw [exec_indexN hu x y ho A n cap G p i z hx hy hz h]
  exact hK _ _ hq
theorem fill23 (v : Value) : (Array.map (fun x => [Value.int IntKind.u16 0][x % 1]?.getD default) (Array.range 1)).setIfInBounds 0 v = #[v] := by kernel_rfl
theorem run_num1 (hu : Tryz.prog.underlying t = some (.slice 23)) (i : Int) (w : World) : (Instr.buildSlice t 1 #[(0, .int .u16 i)]).run Tryz.prog w = .ok (.slice (some ⟨w.heap.size, 0, none⟩) 1 1) (w.alloc (.cells #[.int .u16 i] 23)) := by
  have hz := Tryz.zeroValue23
  have hsz := Tryz.sizeOf23
  simp only [Instr.buildSlice, Sem.run_bind, run_underlying hu, Result.andThen_ok, hsz]
  rw [if_neg (by decide), if_neg (by decide)]
  simp [hz, Instr.fill, Value.cells]
  rw [fill23]
  rfl
theorem own_num1 (w : World) (c : Int) (hc : 0 ≤ c ∧ c < 65536) (base : Nat) (hb : base ≤ w.heap.size) : OwnN (w.alloc (.cells #[.int .u16 c] 23)) base (.slice (some ⟨w.heap.size, 0, none⟩) 1 1) [c] :=
  ⟨fun y hy => by obtain rfl := List.mem_singleton.1 hy; exact hc, World.ownsRow_lit w #[.int .u16 c] 1 hb (by decide) rfl⟩
theorem wpList_num1 (hu : Tryz.prog.underlying t = some (.slice 23)) {ops : Array Oper} {rest : List Oper} {op : Oper} {a : Act} {w : World} {Q : Exit → Act → World → Prop} (hgd : op.guard = none) (x : Operand) (ho : op.op = .buildSlice t 1 #[(0, x)]) (i : Int) (hx : a.eval x = .int .u16 i) (hi : 0 ≤ i ∧ i < 65536)
    (h : ∀ g w', Hid (g = w.heap.size) → Hid (NumsAt w' (.slice (some ⟨g, 0, none⟩) 1 1) [i]) → Hid (Below w.heap.size w w') → wpList Tryz.prog ops Q rest (a.put op.dst (.slice (some ⟨g, 0, none⟩) 1 1)) w') : wpList Tryz.prog ops Q (op :: rest) a w := by
  refine wpList_plain hgd fun K hK => ?_
  have hrun := run_num1 hu i w
  unfold Oper.wp execOp
  simp only [ho, List.map_toArray, List.map_cons, List.map_nil, hx, Sem.run_bind, hrun, Result.andThen_ok, Sem.run_pure]
  exact hK _ _ (h _ _ (Lib.hid rfl) (Lib.hid (own_num1 w i hi w.heap.size (Nat.le_refl _)).at_) (Lib.hid (new_below w _)))
theorem wpList_app_n (hu : Tryz.prog.underlying t = some (.slice 23)) {ops : Array Oper} {rest : List Oper} {op : Oper} {a : Act} {w : World} {Q : Exit → Act → World → Prop} (hgd : op.guard = none) (s x : Operand) (ho : op.op = .call { callee := .builtin .append, args := #[s, x], argTypes := #[t, t] })
    (B : Nat) (v u : Value) (l m : List Int) (hs : a.eval s = v) (hx : a.eval x = u) (hown : OwnN w B v l) (hm : NumsAt w u m) (hn : l.length + m.length ≤ 30000) (hB : B ≤ w.heap.size)
    (h : ∀ E k cap w', Hid (k = (l ++ m).length) → Hid (OwnN w' B (.slice E k cap) (l ++ m)) → Hid (Below B w w') → Hid (w.grownBy w' v.ownBlock) → wpList Tryz.prog ops Q rest (a.put op.dst (.slice E k cap)) w') : wpList Tryz.prog ops Q (op :: rest) a w := by
  refine wpList_plain hgd fun K hK => ?_
  obtain ⟨v', w', he, h1, h2, h3, _⟩ := run_app_nums w hu op.type B v u l m hown hm hn hB
  obtain ⟨E, cap, e⟩ := h1.shape
  subst e
  unfold Oper.wp execOp
  simp only [ho, resolve, invoke, builtin, Sem.run_bind, Sem.run_pure, Result.andThen_ok, List.map_toArray, List.map_cons, List.map_nil, hs, hx, he]
  exact hK _ _ (h E _ cap w' (Lib.hid rfl) (Lib.hid h1) (Lib.hid h3) (Lib.hid h2))
end
theorem exec_load_num {o : Oper} {a : Act} {w : World} (x : Operand) (ho : o.op = .load 23 x) (G p : Nat) (z : Int) (hx : a.eval x = .pointer (some ⟨G, p, none⟩)) (hc : w.cell? ⟨G, p, none⟩ = some (.int .u16 z)) :
    (execOp a.eval o).run Tryz.prog w = .ok (.value (.int .u16 z)) w := by
  unfold execOp
  simp only [ho, hx]
  simp [go_sem, hc]
theorem exec_store_num {o : Oper} {a : Act} {w : World} (x y : Operand) (ho : o.op = .store 23 x y) (G p : Nat) (z : Int) (u : Value) (hx : a.eval x = .pointer (some ⟨G, p, none⟩)) (hy : a.eval y = .int .u16 z) (hc : w.cell? ⟨G, p, none⟩ = some u) (hf : w.frozen? ⟨G, p, none⟩ = false) :
    (execOp a.eval o).run Tryz.prog w = .ok .skip (w.setCell ⟨G, p, none⟩ (.int .u16 z)) := by
  unfold execOp
  simp only [ho, hx, hy]
  simp [go_sem, hc, hf]
section
variable {ops : Array Oper} {Q : Exit → Act → World → Prop} {md : Region.Mode} {S : World → Prop} {fuel : Nat} {listed : Array Bool} {a : Act} {w : World} {i : Nat} {o : Oper} {rs : List Nat}
theorem ready_val (ho : ops[i]? = some o) (hg : o.guard = none) (v : Value) (w' : World) (hr : (execOp a.eval o).run Tryz.prog w = .ok (.value v) w')
    (h : S w' ∧ wpAnyH Tryz.prog md ops Q S fuel (listed.setIfInBounds i true) (a.put o.dst v) w')
    (hs : AllReadyH Tryz.prog md ops Q S fuel listed a w rs) : AllReadyH Tryz.prog md ops Q S fuel listed a w (i :: rs) := by
  refine AllReadyH.cons ho (fun K hK => ?_) hs
  have hw : Region.wanted o (yielded ops a.tmps) = true := by simp [Region.wanted, hg]
  rw [if_pos hw]
  unfold Oper.wp
  rw [hr]
  exact hK.out _ _ h.1 (fun _ => h.2)
theorem ready_skip (ho : ops[i]? = some o) (hg : o.guard = none) (w' : World) (hr : (execOp a.eval o).run Tryz.prog w = .ok .skip w')
    (h : S w' ∧ wpAnyH Tryz.prog md ops Q S fuel (listed.setIfInBounds i true) (a.put o.dst undef) w')
    (hs : AllReadyH Tryz.prog md ops Q S fuel listed a w rs) : AllReadyH Tryz.prog md ops Q S fuel listed a w (i :: rs) := by
  refine AllReadyH.cons ho (fun K hK => ?_) hs
  have hw : Region.wanted o (yielded ops a.tmps) = true := by simp [Region.wanted, hg]
  rw [if_pos hw]
  unfold Oper.wp
  rw [hr]
  exact hK.out _ _ h.1 (fun _ => h.2)
end
end Go.Proofs.YtijfbhdbfplghaaGreat
namespace Go.Proofs.YtijfbhdbfplghaaGreat
open Go.RowKit Go.Shelf
attribute [local go_sem] Oper.semAt_some
theorem sel_some {s : List Am} (h : St s) {c : Int} {x : Am} (hx : x ∈ selK (ofK c) s) : fnd s (noteK c) = some x.v := by
  obtain ⟨h1, h2⟩ := List.mem_filter.1 hx
  have e : x.k = noteK c := of_decide_eq_true h2
  rw [← e]; exact fnd_of_mem h h1
theorem sel_none {s : List Am} {c : Int} (hx : selK (ofK c) s = []) : fnd s (noteK c) = none := by
  cases e : fnd s (noteK c) with
  | none => rfl
  | some v =>
    have hm : (⟨noteK c, v⟩ : Am) ∈ selK (ofK c) s := List.mem_filter.2 ⟨fnd_mem e, decide_eq_true rfl⟩
    rw [hx] at hm; cases hm
theorem noteV_some {a : List Am} (h : OkR a) {c : Int} {x : Am} (hx : x ∈ selK (ofK c) (norm a)) : noteV a c = x.v := by
  have := sel_some (norm_st h) hx
  unfold noteV
  rw [← fnd_norm h, this]; rfl
theorem noteV_none {a : List Am} (h : OkR a) {c : Int} (hx : selK (ofK c) (norm a) = []) : noteV a c = vzero := by
  have := sel_none hx
  unfold noteV
  rw [← fnd_norm h, this]; rfl
/-- The call answers a note. -/
def GivesN (w : World) (v : Vl) (e : Ending) (w' : World) : Prop := e = .returned (.tuple #[.agg (nm v.t), .int .u32 (vnum v), .int .u8 (vrep v)]) ∧ Below w.heap.size w w'
set_option maxRecDepth 100000 in
set_option maxHeartbeats 8000000 in
theorem get_is (A : Option Addr) (n cap : Nat) (a : List Am) (c : Int) (v : Vl) (w : World) (h : RowV w A n cap a) (hn : n ≤ 600) (hc : 0 ≤ c ∧ c < 65536) (hv : Hid (noteV a c = v)) : Calls Tryz.prog 42 #[.slice A n cap, .int .u16 c] w (GivesN w v) := by
  have OK := Lib.hid h.ok
  have ST := Lib.hid (norm_st h.ok)
  have HC := Lib.hid hc
  have hz := zero23
  have hz2 := zero30
  obtain ⟨w3, ew3⟩ : ∃ w3, w3 = ((w.alloc (.cells (nm M.zero8) 25)).alloc (.cells #[.int .u32 0] 51)).alloc (.cells #[.int .u8 0] 5) := ⟨_, rfl⟩
  have N4 := Lib.hid (show Blk w3 w.heap.size 25 (nmL M.zero8) by rw [ew3]; exact ((blk_alloc w 25 (nmL M.zero8)).alloc (.cells #[.int .u32 0] 51)).alloc (.cells #[.int .u8 0] 5))
  have N5 := Lib.hid (show Blk w3 (w.heap.size + 1) 51 [.int .u32 0] by rw [ew3]; exact (blk2 w (.cells (nm M.zero8) 25) 51 [.int .u32 0]).alloc (.cells #[.int .u8 0] 5))
  have N6 := Lib.hid (show Blk w3 (w.heap.size + 1 + 1) 5 [.int .u8 0] by rw [ew3]; have := blk2 (w.alloc (.cells (nm M.zero8) 25)) (.cells #[.int .u32 0] 51) 5 [.int .u8 0]; rw [show (w.alloc (.cells (nm M.zero8) 25)).heap.size = w.heap.size + 1 by unfold World.alloc; exact Array.size_push _] at this; exact this)
  have B3 := Lib.hid (show Below w.heap.size w w3 by rw [ew3]; exact step_ (step_ (new_below w (.cells (nm M.zero8) 25)) (new_below _ (.cells #[.int .u32 0] 51))) (new_below _ (.cells #[.int .u8 0] 5)))
  have H3 := Lib.hid (h.below B3.out)
  clear h hc
  refine (callsIn_wide (n := 10)).1 ?_
  refine callsIn_of_wp_marks Tryz.func42 rfl trivial ?_ rfl
  simp only [Tryz.ntmps42, List.size_toArray, List.length_cons, List.length_nil, Nat.reduceAdd, Nat.reduceSub, Array.replicate_succ, Array.replicate_zero, List.push_toArray, List.append_toArray, List.nil_append, List.cons_append]
  gi_wp2_with fail
  rw [← ew3]
  clear ew3
  refine ⟨trivial, (callsIn_wide.2 (of_is c _)).mono ?_⟩
  rintro e w1 ⟨⟨ga, rfl, k1, -⟩, b1⟩
  have K1 := Lib.hid k1
  have B1 := Lib.hid (step_ B3.out b1)
  have P4 := Lib.hid (N4.out.below b1)
  have P5 := Lib.hid (N5.out.below b1)
  have P6 := Lib.hid (N6.out.below b1)
  have H1 := Lib.hid (H3.out.below b1)
  clear k1 b1 N4 N5 N6 H3 B3
  gi_wp2_with fail
  refine ⟨trivial, (callsIn_wide.2 (pickN_is A n cap _ _ _)).mono ?_⟩
  rintro e w4 ⟨⟨gd, ge, rfl, k5, k6, -, -⟩, b4⟩
  have K5 := Lib.hid k5
  have K6 := Lib.hid k6
  have K4 := Lib.hid (K1.out.below b4)
  have B4 := Lib.hid (step_ B1.out b4)
  have Q4 := Lib.hid (P4.out.below b4)
  have Q5 := Lib.hid (P5.out.below b4)
  have Q6 := Lib.hid (P6.out.below b4)
  have H4 := Lib.hid (H1.out.below b4)
  have LT := Lib.hid (show w.heap.size + 1 + 1 < w4.heap.size from Q6.out.lt)
  clear k5 k6 b4 P4 P5 P6 H1 K1 B1
  gi_wp2_with fail
  rename_i K0 hK0
  refine range_gen (gf := 81) rfl (fun _ _ => rfl) (pickN_seq 83 _ (fun _ _ => rfl) _ _ (of_cond c HC.out ga) (fun V V' h hb => h.below hb) _ _ A n cap a hn) (fun _ => rfl)
    (fun B pre V => pre = [] ∧ Below w4.heap.size w4 V)
    (fun V => (Blk V w.heap.size 25 (nmL v.t) ∧ Blk V (w.heap.size + 1) 51 [.int .u32 (vnum v)] ∧ Blk V (w.heap.size + 1 + 1) 5 [.int .u8 (vrep v)]) ∧ Below w.heap.size w V ∧ v.t.length = 8)
    (fun B pre V V' h hb => ⟨h.1, h.2.trans (hb.mono h.2.size)⟩)
    (fun B pre V V' h9 h ho hg hB => ⟨h.1, h.2.trans (ho.below (by omega) h.2.size)⟩)
    (fun B pre V o hB h => ⟨h.1, below_put h.2 (by omega)⟩)
    (fun V o h => by
      have := LT.out
      exact ⟨⟨blk_put h.1.1 (by omega), blk_put h.1.2.1 (by omega), blk_put h.1.2.2 (by omega)⟩, below_put h.2.1 (by omega), h.2.2⟩)
    (fun V V' g h ho hg => by
      have := LT.out
      exact ⟨⟨h.1.1.only ho (by omega), h.1.2.1.only ho (by omega), h.1.2.2.only ho (by omega)⟩, h.2.1.trans (ho.below (by omega) h.2.1.size), h.2.2⟩)
    (fun B pre V h => ⟨⟨K5.out.below h.2, H4.out.below h.2⟩, K6.out.below h.2, K4.out.below h.2⟩)
    (fun V hb => ⟨⟨K5.out.below hb, H4.out.below hb⟩, K6.out.below hb, K4.out.below hb⟩)
    (fun B V hB hV hb => ⟨rfl, hb⟩)
    (fun B pre x a' V => ∃ g8, a' = { tmps := #[.slice A n cap, .int .u16 c, undef, undef, .pointer (some ⟨w.heap.size, 0, none⟩), .pointer (some ⟨w.heap.size + 1, 0, none⟩), .pointer (some ⟨w.heap.size + 1 + 1, 0, none⟩), undef, .pointer (some ⟨g8, 0, none⟩), undef, undef, .slice A n cap, .int .u16 c, .func (.func 83) #[] #[.pointer (some ⟨ga, 0, none⟩)], .func (.func 81) #[] #[.pointer (some ⟨gd, 0, none⟩), .pointer (some ⟨ge, 0, none⟩)], .agg x.k.cells.toArray, .agg x.v.cells.toArray, undef, undef, undef, undef, undef, undef, undef, undef, undef, undef, undef], defers := [] } ∧ B ≤ g8 ∧ Blk V g8 56 x.v.cells ∧ pre = [] ∧ Below w4.heap.size w4 V)
    (fun B pre x a' V o hB h => by
      obtain ⟨g8, e, h1, h2, h3, h4⟩ := h
      exact ⟨g8, e, h1, blk_put h2 (by omega), h3, below_put h4 (by omega)⟩)
    ?assign ?body ?done ?stop
  case assign =>
    intro l B pre x V K hnx hi hB hB2 hlt hK
    have XO := Lib.hid (show x.Ok by obtain ⟨rest, e⟩ := hnx; exact ST.out.ok x (List.mem_filter.1 (show x ∈ selK (ofK c) (norm a) by rw [e]; simp)).1)
    have Z1 := Lib.hid (blk_alloc V 56 vzero.cells)
    have HI := Lib.hid hi
    clear hi hnx
    simp only [encP, List.zip_toArray, List.zip_cons_cons, List.zip_nil_right, List.foldl_toArray', List.foldl_cons, List.foldl_nil, List.size_toArray, List.length_cons, List.length_nil, List.setIfInBounds_toArray, List.set_cons_zero, List.set_cons_succ]
    gi_wp2_with (refine in_plain (wide_in l) rfl (by intro c h; cases h) ?_; refine wpList_store_vl rfl _ _ rfl V.heap.size vzero x.v rfl rfl Z1.out rfl XO.out.v.tl ?_; intro V1 N1 O1; refine in_done ?_)
    have QQ := box_below O1.out
    exact hK _ _ QQ ⟨_, rfl, hB2, N1.out, HI.out.1, HI.out.2.trans (QQ.mono HI.out.2.size)⟩
  case body =>
    intro l B pre x a' V hnx hax hB hB2 hlt
    obtain ⟨g8, rfl, l8, k8, hp, hb⟩ := hax
    have XM := Lib.hid (show x ∈ selK (ofK c) (norm a) by obtain ⟨rest, e⟩ := hnx; rw [e]; simp)
    have XO := Lib.hid (ST.out.ok x (List.mem_filter.1 XM.out).1)
    obtain rfl : x.v = v := (noteV_some OK.out XM.out).symm.trans hv.out
    have K8 := Lib.hid k8
    have HB := Lib.hid hb
    have HLT := Lib.hid hlt
    have L8 := Lib.hid l8
    have c8 := k8.cell (vc0 x.v)
    have V4 := Lib.hid (Q4.out.below hb)
    have V5 := Lib.hid (Q5.out.below hb)
    have V6 := Lib.hid (Q6.out.below hb)
    have LW := Lib.hid (show w4.heap.size ≤ V.heap.size ∧ w4.heap.size < B by omega)
    clear hp hb hnx k8 l8
    gi_wp2_with fail
    refine ⟨trivial, (calls_in (wide_in l) (unstamp_is x.v.n (vnum x.v) (vrep x.v) _ (Lib.hid rfl) (Lib.hid rfl))).mono ?_⟩
    rintro e w5 ⟨rfl, rfl⟩
    gi_wp2_with (first
      | (refine in_plain (wide_in l) rfl (by intro c h; cases h) ?_; refine wpList_load_nm rfl _ rfl g8 1 x.v.t rfl K8.out.vnm XO.out.v.tl ?_; refine in_done ?_)
      | (refine in_plain (wide_in l) rfl (by intro c h; cases h) ?_; refine wpList_store_cs rfl 25 _ _ rfl w.heap.size (nmL M.zero8) (nmL x.v.t) rfl rfl V4.out (by unfold nmL; rw [List.length_map, List.length_map, XO.out.v.tl]; rfl) (size_nmL XO.out.v.tl) (nm_one x.v.t) ?_; intro W1 N1 O1; have LT0 := LT.out; have U5 := Lib.hid (V5.out.only O1.out (by omega)); have U6 := Lib.hid (V6.out.only O1.out (by omega)); clear LT0; refine in_done ?_)
      | (refine in_plain (wide_in l) rfl (by intro c h; cases h) ?_; refine wpList_store_i Tryz.sizeOf51 rfl _ _ rfl (w.heap.size + 1) (.int .u32 0) (vnum x.v) rfl rfl U5.out ?_; intro W2 N2 O2; have LT0 := LT.out; have T4 := Lib.hid (N1.out.only O2.out (by omega)); have T6 := Lib.hid (U6.out.only O2.out (by omega)); clear LT0; refine in_done ?_)
      | (refine in_plain (wide_in l) rfl (by intro c h; cases h) ?_; refine wpList_store_i Tryz.sizeOf5 rfl _ _ rfl (w.heap.size + 1 + 1) (.int .u8 0) (vrep x.v) rfl rfl T6.out ?_; intro W3 N3 O3; refine in_done ?_))
    have hlt0 := LT.out
    have h1 := O1.out.size
    have h2 := O2.out.size
    have h3 := O3.out.size
    have h4 := B4.out.size
    have h5 := LW.out
    have hl := HLT.out
    refine ⟨((KeepL.only O1.out (by omega) (by omega) hl).trans (KeepL.only O2.out (by omega) (by omega) (by omega))).trans (KeepL.only O3.out (by omega) (by omega) (by omega)), fun k q1 q2 => (O3.out.block k (by omega) (by omega)).trans ((O2.out.block k (by omega) (by omega)).trans (O1.out.block k (by omega) (by omega))), ?_⟩
    refine ⟨⟨T4.out.only O3.out (by omega), N2.out.only O3.out (by omega), N3.out⟩, ?_, XO.out.v.tl⟩
    exact (((B4.out.trans (HB.out.mono B4.out.size)).trans (O1.out.below (by omega) (by omega))).trans (O2.out.below (by omega) (by omega))).trans (O3.out.below (by omega) (by omega))
  case done =>
    intro D9 B t V hD hD2 hB hf hi hd
    obtain ⟨hi1, hi2⟩ := hi
    obtain rfl : vzero = v := (noteV_none OK.out (hf.symm.trans hi1)).symm.trans hv.out
    have HB := Lib.hid hi2
    have V4 := Lib.hid (Q4.out.below hi2)
    have V5 := Lib.hid (Q5.out.below hi2)
    have V6 := Lib.hid (Q6.out.below hi2)
    have HD := Lib.hid hd
    have LD := Lib.hid hD
    clear hi1 hi2 hf hd
    refine hK0 _ _ ?_
    gi_wp2_with (first
      | (refine in_plain wide_no rfl (by intro c h; cases h) ?_; refine wpList_build rfl 25 _ rfl [] rfl _ built24z ?_; refine in_done ?_)
      | (refine in_plain wide_no rfl (by intro c h; cases h) ?_; refine wpList_store_cs rfl 25 _ _ rfl w.heap.size (nmL M.zero8) (nmL M.zero8) rfl rfl V4.out rfl (size_nmL rfl) (nm_one M.zero8) ?_; intro W1 N1 O1; have LT0 := LT.out; have U5 := Lib.hid (V5.out.only O1.out (by omega)); have U6 := Lib.hid (V6.out.only O1.out (by omega)); clear LT0; refine in_done ?_)
      | (refine in_plain wide_no rfl (by intro c h; cases h) ?_; refine wpList_store_i Tryz.sizeOf51 rfl _ _ rfl (w.heap.size + 1) (.int .u32 0) 0 rfl rfl U5.out ?_; intro W2 N2 O2; have LT0 := LT.out; have T4 := Lib.hid (N1.out.only O2.out (by omega)); have T6 := Lib.hid (U6.out.only O2.out (by omega)); clear LT0; refine in_done ?_)
      | (refine in_plain wide_no rfl (by intro c h; cases h) ?_; refine wpList_store_i Tryz.sizeOf5 rfl _ _ rfl (w.heap.size + 1 + 1) (.int .u8 0) 0 rfl rfl T6.out ?_; intro W3 N3 O3; refine in_done ?_))
    have hlt0 := LT.out
    have h1 := O1.out.size
    have h2 := O2.out.size
    have h3 := O3.out.size
    have h4 := B4.out.size
    have h5 := LD.out
    have h6 := HB.out.size
    have M4 := Lib.hid (blk_put (o := .deferred none) (i := D9) (T4.out.only O3.out (by omega)) (by omega))
    have M5 := Lib.hid (blk_put (o := .deferred none) (i := D9) (N2.out.only O3.out (by omega)) (by omega))
    have M6 := Lib.hid (blk_put (o := .deferred none) (i := D9) N3.out (by omega))
    have hDl := (Array.getElem?_eq_some_iff.1 HD.out).1
    refine marks_ret D9 rfl ((O3.out.block D9 (by omega) (by omega)).trans ((O2.out.block D9 (by omega) (by omega)).trans ((O1.out.block D9 hDl (by omega)).trans HD.out))) (results_note rfl _ _ w.heap.size (w.heap.size + 1) (w.heap.size + 1 + 1) M.zero8 0 0 rfl rfl rfl M4.out rfl M5.out M6.out) ?_
    refine ⟨rfl, below_put ((((B4.out.trans (HB.out.mono B4.out.size)).trans (O1.out.below (by omega) (by omega))).trans (O2.out.below (by omega) (by omega))).trans (O3.out.below (by omega) (by omega))) (by omega)⟩
  case stop =>
    intro D9 V hD hx hd
    have HX := Lib.hid hx
    have HD := Lib.hid hd
    have LD := Lib.hid hD
    clear hx hd
    gi_wp2_with fail
    have hlt0 := LT.out
    have h5 := LD.out
    have M4 := Lib.hid (blk_put (o := .deferred none) (i := D9) HX.out.1.1 (by omega))
    have M5 := Lib.hid (blk_put (o := .deferred none) (i := D9) HX.out.1.2.1 (by omega))
    have M6 := Lib.hid (blk_put (o := .deferred none) (i := D9) HX.out.1.2.2 (by omega))
    refine marks_ret D9 rfl HD.out (results_note rfl _ _ w.heap.size (w.heap.size + 1) (w.heap.size + 1 + 1) v.t (vnum v) (vrep v) rfl rfl rfl M4.out HX.out.2.2 M5.out M6.out) ?_
    refine ⟨rfl, below_put HX.out.2.1 (by omega)⟩
end Go.Proofs.YtijfbhdbfplghaaGreat
namespace Go.Proofs.YtijfbhdbfplghaaGreat
open Go.RowKit
end Go.Proofs.YtijfbhdbfplghaaGreat
namespace Go.Proofs.YtijfbhdbfplghaaGreat
open Go.RowKit Go.Shelf
attribute [local go_sem] Oper.semAt_some
theorem OwnN.ge {w : World} {B : Nat} {v : Value} {l : List Int} {i : Nat} (h : OwnN w B v l) (hi : i < B) : ∀ k, v.ownBlock = some k → k ≠ i := fun k e => by have := (h.row.lt k e).1; omega
theorem OwnN.put {w : World} {B : Nat} {v : Value} {l : List Int} {i : Nat} {o : Obj} (h : OwnN w B v l) (hn : ∀ k, v.ownBlock = some k → k ≠ i) : OwnN (w.putObj i o) B v l := h.only (only_putObj w i o) hn
end Go.Proofs.YtijfbhdbfplghaaGreat
