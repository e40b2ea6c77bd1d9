/- Pieces as values and in memory; the contracts of Large of the reference and of write of the law. Loads and stores of whole pieces and of the names in them; the contract of write of the law. The contracts of Out of a piece and of All of the reference. The contract of read of the law. What was written of a piece is read as it was. The contract of num of the reference. The contract of Read of the reference's cursor. Read of the reference's cursor, at a name: where it fails. The contracts of Read and Done of the reference's cursor. -/
import Derived.Test.YteggjihhjdeieaaWriterB
namespace Go.Proofs.Yteggjihhjdeieaa
open Go.RowKit

/-- A piece: what its fields hold. -/
structure Pc where
  d : Int
  x : Int
  c : Int
  m : List Int
  v : Value
  n : Int
  b : List Int
def Pc.cells (p : Pc) : List Value := .int .i64 p.d :: .int .u64 p.x :: .int .u8 p.c :: (p.m.map (Value.int .u8) ++ [p.v, .int .i64 p.n])
structure Pc.Ok (p : Pc) (w : World) : Prop where
  ml : p.m.length = 8
  mb : M.Bytes p.m
  x0 : 0 ≤ p.x
  x1 : p.x < 18446744073709551616
  c0 : 0 ≤ p.c
  c1 : p.c < 256
  n1 : p.n < 9223372036854775808
  vb : BytesAt w p.v p.b
theorem Pc.Ok.below {p : Pc} {w w' : World} (h : p.Ok w) (hb : Below w.heap.size w w') : p.Ok w' := ⟨h.ml, h.mb, h.x0, h.x1, h.c0, h.c1, h.n1, h.vb.below hb⟩
theorem cells_len {p : Pc} (h : p.m.length = 8) : p.cells.length = 13 := by simp [Pc.cells, h]
theorem cells0 (p : Pc) : p.cells[0]? = some (.int .i64 p.d) := rfl
theorem cells1 (p : Pc) : p.cells[1]? = some (.int .u64 p.x) := rfl
theorem cells2 (p : Pc) : p.cells[2]? = some (.int .u8 p.c) := rfl
theorem cells11 {p : Pc} (h : p.m.length = 8) : p.cells[11]? = some p.v := by simp [Pc.cells, h]
theorem cells12 {p : Pc} (h : p.m.length = 8) : p.cells[12]? = some (.int .i64 p.n) := by simp [Pc.cells, h]
theorem cells_name {p : Pc} (h : p.m.length = 8) (j : Nat) (hj : j < 8) : p.cells[3 + j]? = some (.int .u8 (p.m[j]'(by omega))) := by
  rw [show 3 + j = j + 3 by omega]
  simp only [Pc.cells, List.getElem?_cons_succ]
  rw [List.getElem?_append_left (by simp; omega), List.getElem?_map, List.getElem?_eq_getElem (by omega)]
  rfl
theorem range_name {w : World} {g o : Nat} {p : Pc} (hr : w.rangeAt g o p.cells) (h : p.m.length = 8) : w.rangeAt g (o + 3) (p.m.map (Value.int .u8)) := fun j v hv => by
  have hj : j < 8 := by
    have := (List.getElem?_eq_some_iff.1 hv).1
    simpa [h] using this
  rw [Nat.add_assoc, hr (3 + j) _ (cells_name h j hj)]
  rw [List.getElem?_map, List.getElem?_eq_getElem (by omega)] at hv
  exact hv
theorem one33 {p : Pc} (hv : p.v.oneCell' = true) : p.cells.toArray.all (·.oneCell') = true := by
  refine all_oneCell_toArray fun v hm => ?_
  unfold Pc.cells at hm
  rcases List.mem_cons.1 hm with rfl | hm
  · rfl
  · rcases List.mem_cons.1 hm with rfl | hm
    · rfl
    · rcases List.mem_cons.1 hm with rfl | hm
      · rfl
      · rcases List.mem_append.1 hm with hm | hm
        · obtain ⟨y, _, rfl⟩ := List.mem_map.1 hm; rfl
        · rcases List.mem_cons.1 hm with rfl | hm
          · exact hv
          · obtain rfl := List.mem_singleton.1 hm; rfl
theorem range_below {w w' : World} {g o : Nat} {cs : List Value} (h : w.rangeAt g o cs) (hg : g < w.heap.size) (hb : Below w.heap.size w w') : w'.rangeAt g o cs := fun j v hv => (hb.cell (p := ⟨g, o + j, none⟩) hg).trans (h j v hv)
end Go.Proofs.Yteggjihhjdeieaa
namespace Go.Proofs.Yteggjihhjdeieaa
open Go.RowKit

theorem wpList_load_nm {ops : Array Oper} {rest : List Oper} {op : Oper} {a : Act} {w : World} {Q : Exit → Act → World → Prop} (hgd : op.guard = none) (x : Operand) (ho : op.op = .load 24 x) (g o : Nat) (m : List Int)
    (hx : a.eval x = .pointer (some ⟨g, o, none⟩)) (hr : w.rangeAt g o (m.map (Value.int .u8))) (hm : m.length = 8) (h : wpList Try.prog ops Q rest (a.put op.dst (.agg (nm m))) w) : wpList Try.prog ops Q (op :: rest) a w :=
  wpList_load_mid hgd 24 x ho g o hx (m.map (Value.int .u8)) _ hr Try.underlying24 rfl (by rw [List.length_map, hm]; exact size23) h
/-- Cells stored one behind the other. -/
def setL : List Value → Nat → List Value → List Value
  | cs, _, [] => cs
  | cs, o, v :: r => setL (cs.set o v) (o + 1) r
theorem setL_get : ∀ (vs cs : List Value) (o i : Nat), o + vs.length ≤ cs.length → (setL cs o vs)[i]? = if o ≤ i ∧ i < o + vs.length then vs[i - o]? else cs[i]?
  | [], cs, o, i, _ => by rw [if_neg (by rw [List.length_nil]; omega)]; rfl
  | v :: r, cs, o, i, h => by
    rw [List.length_cons] at h
    rw [setL, setL_get r (cs.set o v) (o + 1) i (by rw [List.length_set]; omega), List.length_cons]
    by_cases h1 : o + 1 ≤ i ∧ i < o + 1 + r.length
    · rw [if_pos h1, if_pos (by omega), show i - o = (i - (o + 1)) + 1 by omega, List.getElem?_cons_succ]
    · rw [if_neg h1]
      by_cases h2 : i = o
      · subst h2
        rw [if_pos (by omega), List.getElem?_set_self (by omega), Nat.sub_self]
        rfl
      · rw [if_neg (by omega), List.getElem?_set_ne (by omega)]
theorem Blk.setCells {g t : Nat} : ∀ (vs : List Value) (o : Nat) (w : World) (cs : List Value), Blk w g t cs → Blk (w.setCells g o vs) g t (setL cs o vs)
  | [], _, _, _, h => h
  | v :: r, o, w, cs, h => by
    rw [World.setCells, setL]
    exact Blk.setCells r (o + 1) _ _ (h.set o v)
theorem Only.setCells {g : Nat} : ∀ (vs : List Value) (o : Nat) (w : World), Only g w (w.setCells g o vs)
  | [], _, w => Only.refl g w
  | v :: r, o, w => by
    rw [World.setCells]
    exact (Only.set g o w v).trans (Only.setCells r (o + 1) _)
theorem setL_all (cs vs : List Value) (h : cs.length = vs.length) : setL cs 0 vs = vs := by
  apply List.ext_getElem?
  intro i
  rw [setL_get vs cs 0 i (by omega)]
  by_cases hi : i < vs.length
  · rw [if_pos (by omega)]; rfl
  · rw [if_neg (by omega), List.getElem?_eq_none (by omega), List.getElem?_eq_none (by omega)]
theorem setL_name {q : Pc} (hq : q.m.length = 8) (m : List Int) (hm : m.length = 8) : setL q.cells 3 (m.map (Value.int .u8)) = ({ q with m := m } : Pc).cells := by
  apply List.ext_getElem?
  intro i
  have hl := cells_len hq
  rw [setL_get _ _ 3 i (by rw [List.length_map]; omega), List.length_map, hm]
  by_cases h1 : 3 ≤ i ∧ i < 3 + 8
  · rw [if_pos h1]
    obtain ⟨j, rfl⟩ : ∃ j, i = 3 + j := ⟨i - 3, by omega⟩
    rw [cells_name (p := { q with m := m }) hm j (by omega), show 3 + j - 3 = j by omega, List.getElem?_map, List.getElem?_eq_getElem (by omega)]
    rfl
  · rw [if_neg h1]
    by_cases h2 : i < 3
    · have : i = 0 ∨ i = 1 ∨ i = 2 := by omega
      rcases this with rfl | rfl | rfl <;> rfl
    · by_cases h3 : i = 11
      · subst h3; rw [cells11 hq, cells11 (p := { q with m := m }) hm]
      · by_cases h4 : i = 12
        · subst h4; rw [cells12 hq, cells12 (p := { q with m := m }) hm]
        · rw [List.getElem?_eq_none (by omega), List.getElem?_eq_none (by rw [cells_len (p := { q with m := m }) hm]; omega)]
theorem BytesAt.one {w : World} {v : Value} {l : List Int} (h : BytesAt w v l) : v.oneCell' = true := by
  obtain ⟨a, cap, rfl, _⟩ := h
  rfl
def Pc.enc (p : Pc) : List Int := M.enc p.d p.x p.c p.m p.b
end Go.Proofs.Yteggjihhjdeieaa
namespace Go.Proofs.Yteggjihhjdeieaa
open Go.RowKit

/-- append of bytes, as a step of a region that draws its order. -/
theorem step_app_bytes {ops : Array Oper} {o : Oper} {a : Act} {K : Act → World → Prop} {Q : Exit → Act → World → Prop} {E : Prop} (w : World) (hgd : o.guard = none) (s x : Operand)
    (ho : o.op = .call { callee := .builtin .append, args := #[s, x], argTypes := #[42, 42] }) (base : Nat) (v u : Value) (acc l : List Int)
    (hs : a.eval s = v) (hown : w.ownsRow base 5 1 v acc.length (acc.map (Value.int .u8))) (hx : a.eval x = u) (hu : BytesAt w u l) (hn : acc.length + l.length ≤ 30000) (hbase : base ≤ w.heap.size)
    (h : ∀ v' w', w'.ownsRow base 5 1 v' (acc ++ l).length ((acc ++ l).map (Value.int .u8)) → Below base w w' → K (a.put o.dst v') w') :
    if Region.wanted o (yielded ops a.tmps) = true then Oper.wp Try.prog o a w K Q else E := by
  have hw : Region.wanted o (yielded ops a.tmps) = true := by simp [Region.wanted, hgd]
  rw [if_pos hw]
  obtain ⟨i0, hi, hz0, hz1, hz2⟩ := info_parts info5
  obtain ⟨ad, cap, rfl, hcap, _, hc⟩ := hu
  rcases ad with _ | ad
  · have h0 : l = [] := by
      cases l with
      | nil => rfl
      | cons c r => obtain ⟨g, off, ha, _⟩ := hc (by simp); cases ha
    subst h0
    have hc0 := hcap.2 rfl
    subst hc0
    have hrun := run_append_owned_none (P := Try.prog) (w := w) base 42 o.type 5 i0 1 Try.underlying42 hi v _ _ hown
    have hx' : a.eval x = .slice none 0 0 := hx
    unfold Oper.wp
    simp [execOp, ho, resolve, invoke, builtin, hs, hx', hrun, Result.andThen]
    exact h v w (by simpa using hown) (Below.refl _ _)
  · refine wp_append_own w s x 42 ho base 5 i0 (.int .u8 0) 1 1 Try.underlying42 hi hz0 hz1 hz2 rfl (by decide) v _ _ hs hown ad l.length cap (l.map (Value.int .u8)) hx (by simp) ?_ ?_ ?_ ?_ hbase ?_
    · intro j y hy
      have hj : j < l.length := by
        rcases Nat.lt_or_ge j l.length with h | h
        · exact h
        · rw [List.getElem?_eq_none (by simpa using h)] at hy; cases hy
      obtain ⟨g, off, ha, _, hcell⟩ := hc (by omega)
      obtain rfl := Option.some.inj ha
      rw [add_at, hcell j hj]
      simp [hj] at hy
      rw [← hy]
    · intro y hy
      obtain ⟨c, _, rfl⟩ := List.mem_map.1 hy
      rfl
    · unfold maxLen; omega
    · omega
    · intro v' w' h1 h2 _
      refine h v' w' (by simpa using h1) ?_
      exact (Below.refl base w).grown h2 hbase (fun k hk => (hown.lt k hk).1)
theorem strCells_is (t : List Int) (hb : M.Bytes t) : Lib.strCells (strOfNums t) = t.map (Value.int .u8) := by
  have h := M.nums_str hb
  unfold M.nums at h
  have h2 := congrArg (List.map (Value.int .u8)) h
  rw [List.map_map] at h2
  exact h2
/-- append of a string's bytes. -/
theorem app_text {ops : Array Oper} {rest : List Oper} {o : Oper} {a : Act} {Q : Exit → Act → World → Prop} (w : World) (hgd : o.guard = none) (s x : Operand)
    (ho : o.op = .call { callee := .builtin .append, args := #[s, x], argTypes := #[42, 9] }) (base : Nat) (v : Value) (str : ByteArray) (acc t : List Int)
    (hs : a.eval s = v) (hown : w.ownsRow base 5 1 v acc.length (acc.map (Value.int .u8))) (hx : a.eval x = .string str) (hstr : str = strOfNums t) (hb : M.Bytes t) (hn : acc.length + t.length ≤ 30000) (hbase : base ≤ w.heap.size)
    (h : ∀ v' w', w'.ownsRow base 5 1 v' (acc ++ t).length ((acc ++ t).map (Value.int .u8)) → Below base w w' → wpList Try.prog ops Q rest (a.put o.dst v') w') :
    wpList Try.prog ops Q (o :: rest) a w := by
  subst hstr
  have hsz : (strOfNums t).size = t.length := strOfNums_size t
  obtain ⟨i0, hi, hz0, hz1, hz2⟩ := info_parts info5
  refine Lib.wpList_append_own_string (w := w) hgd s x 42 9 ho base 5 i0 Try.underlying42 Try.underlying9 hi hz0 hz1 hz2 v _ _ hs hown _ hx ?_ ?_ hbase ?_
  · rw [hsz]; unfold maxLen; omega
  · rw [hsz]; omega
  · intro v' w' h1 h2 _
    rw [hsz, strCells_is t hb] at h1
    exact h v' w' (by simpa using h1) ((Below.refl base w).grown h2 hbase (fun k hk => (hown.lt k hk).1))
theorem undrew {w w' : World} (h : Below w.drew.heap.size w.drew w') : Below w.heap.size w w' := ⟨h.os, h.tape, h.output, h.size, h.block⟩
end Go.Proofs.Yteggjihhjdeieaa
namespace Go.Proofs.Yteggjihhjdeieaa
open Go.RowKit

/-- A piece with nothing but its kind. -/
def blank (d : Int) : Pc := ⟨d, 0, 0, M.zero8, .slice none 0 0, 0, []⟩
theorem blank_ml (d : Int) : (blank d).m.length = 8 := rfl
/- CASES -/
namespace M
theorem Got.map_err {α β : Type} (f : α → β) (r : Got α) : (r.map f).err = r.err := by cases r <;> rfl
theorem Got.map_rst {α β : Type} (f : α → β) (r : Got α) : (r.map f).rst = r.rst := by cases r <;> rfl
theorem Got.map_val {α β : Type} (f : α → β) (r : Got α) (z : α) : (r.map f).val (f z) = f (r.val z) := by cases r <;> rfl
theorem gate_map {α β : Type} (f : α → β) (e : Int) (r : Got α) : gate e (r.map f) = (gate e r).map f := by
  unfold gate
  split <;> rfl
end M
/-- A piece as it was read. -/
def gotP (d : Int) (a : M.Val) (v : Value) : Pc := ⟨d, a.x, a.c, a.nm, v, 0, a.b⟩
theorem blk2 (w : World) (o : Obj) (t : Nat) (cs : List Value) : Blk ((w.alloc o).alloc (.cells cs.toArray t)) (w.heap.size + 1) t cs := by
  have := blk_alloc (w.alloc o) t cs
  rwa [alloc_size] at this
theorem blk3 (w : World) (o o' : Obj) (t : Nat) (cs : List Value) : Blk (((w.alloc o).alloc o').alloc (.cells cs.toArray t)) (w.heap.size + 2) t cs := by
  have := blk2 (w.alloc o) o' t cs
  rwa [alloc_size] at this
theorem name_len {e : Int} {l : List Int} : (((M.gate e (M.rName l)).val M.zero8)).length = 8 := by
  unfold M.gate
  split
  · cases h : M.rName l with
    | bad e => rfl
    | got m r => exact (rName_got h).1
  · rfl
end Go.Proofs.Yteggjihhjdeieaa
namespace Go.Proofs.Yteggjihhjdeieaa
open Go.RowKit

theorem rd_nm {d x n : Int} {l rest : List Int} {a : M.Val} (h : M.rd d x n l = .got a rest) : a.nm.length = 8 := by
  unfold M.rd at h
  split at h
  · cases hr : M.rNum x l with
    | bad e => rw [hr] at h; injection h
    | got y r =>
      rw [hr] at h
      injection h with h1 h2
      rw [← h1]; rfl
  · split at h
    · cases hr : M.rByte l with
      | bad e => rw [hr] at h; injection h
      | got y r =>
        rw [hr] at h
        injection h with h1 h2
        rw [← h1]; rfl
    · split at h
      · cases hr : M.rName l with
        | bad e => rw [hr] at h; injection h
        | got m r =>
          rw [hr] at h
          injection h with h1 h2
          rw [← h1]
          exact (rName_got hr).1
      · cases hr : M.rBytes n l with
        | bad e => rw [hr] at h; injection h
        | got y r =>
          rw [hr] at h
          injection h with h1 h2
          rw [← h1]; rfl
theorem set12 (p : Pc) (hm : p.m.length = 8) (k : Int) : p.cells.set 12 (.int .i64 k) = ({ p with n := k } : Pc).cells := by
  obtain ⟨d, x, c, m, v, n, b⟩ := p
  simp only [Pc.cells]
  have hm' : m.length = 8 := hm
  rw [List.set_cons_succ, List.set_cons_succ, List.set_cons_succ, List.set_append_right _ _ (by rw [List.length_map]; omega), List.length_map, hm']
  rfl
theorem run_load_int (w : World) (g off : Nat) (d : Int) (h : w.cell? ⟨g, off, none⟩ = some (.int .i64 d)) : (Instr.loadAt 3 (.pointer (some ⟨g, off, none⟩))).run Try.prog w = .ok (.int .i64 d) w := by
  simp [Instr.loadAt, Instr.sureAddr, loadVar, isAgg, run_underlying Try.underlying3, h]
/-- A piece's kind is loaded, in a region that draws its order. -/
theorem quiet_load_int {o : Oper} {a : Act} {W : World} {K : Act → Prop} (G off : Nat) (d : Int) (x : Operand) (ho : o.op = .load 3 x) (hx : a.eval x = .pointer (some ⟨G, off, none⟩)) (hat : W.cell? ⟨G, off, none⟩ = some (.int .i64 d))
    (hk : K (a.put o.dst (.int .i64 d))) : o.quiet Try.prog a (Cls W) K := by
  refine ⟨.int .i64 d, fun w hw => ?_, hk⟩
  obtain ⟨t, rfl⟩ := hw
  have h := run_load_int t.1 G off d ((t.2.cell (p := ⟨G, off, none⟩) (World.block_lt_of_cell? W _ hat)).trans hat)
  unfold Oper.quietAt
  have e : (execOp a.eval o).run Try.prog t.1 = .ok (.value (.int .i64 d)) t.1 := by
    simp [execOp, ho, hx, h]
  rw [e]
  exact ⟨rfl, rfl⟩
end Go.Proofs.Yteggjihhjdeieaa
namespace Go.Proofs.Yteggjihhjdeieaa
open Go.RowKit

/-- x[lo:], in a region that draws its order. -/
theorem quiet_from {o : Oper} {ac : Act} {W : World} {K : Act → Prop} (R : Option Nat) (x lo : Operand) (ho : o.op = .slice 42 x (some lo) none none)
    (kl : IntKind) (a : Option Addr) (cap k : Nat) (l : List Int) (hx : ac.eval x = .slice a l.length cap) (hlo : ac.eval lo = .int kl k) (hv : BytesIn R W (.slice a l.length cap) l) (hk : k ≤ l.length)
    (h : ∀ a' cap', Hid (BytesIn R W (.slice a' (l.length - k) cap') (l.drop k)) → K (ac.put o.dst (.slice a' (l.length - k) cap'))) : o.quiet Try.prog ac (Cls W) K := by
  obtain ⟨a', cap', e⟩ := (bytes_from hv k hk).shape
  rw [List.length_drop] at e
  refine ⟨.slice a' (l.length - k) cap', fun w hw => ?_, h _ _ (Lib.hid (e ▸ bytes_from hv k hk))⟩
  obtain ⟨t, rfl⟩ := hw
  unfold Oper.quietAt
  have e1 : (execOp ac.eval o).run Try.prog t.1 = .ok (.value (.slice a' (l.length - k) cap')) t.1 := by
    simp only [execOp, ho, hx, hlo, Option.map_some, Option.map_none, Sem.run_bind, run_from t.1 a l.length cap k kl hk, Result.andThen_ok, Sem.run_pure, e]
  rw [e1]
  exact ⟨rfl, rfl⟩
def NumBad (w : World) (e : Int) (r : Ending) (w' : World) : Prop := ∃ x a n cap, r = .returned (.tuple #[.int .u64 x, .slice a n cap, .int .i64 e]) ∧ Below w.heap.size w w'
def NumGot (w : World) (R : Option Nat) (x : Int) (rest : List Int) (r : Ending) (w' : World) : Prop := ∃ a cap, r = .returned (.tuple #[.int .u64 x, .slice a rest.length cap, .int .i64 0]) ∧ BytesIn R w' (.slice a rest.length cap) rest ∧ Below w.heap.size w w'
end Go.Proofs.Yteggjihhjdeieaa
namespace Go.Proofs.Yteggjihhjdeieaa
open Go.RowKit

theorem bytes_upto {R : Option Nat} {w : World} {a : Option Addr} {cap : Nat} {l : List Int} (h : BytesIn R w (.slice a l.length cap) l) (k : Nat) (hk : k ≤ l.length) : BytesIn R w (.slice a k cap) (l.take k) := by
  obtain ⟨⟨a', cap', hv, hcap, hb, hc⟩, hn⟩ := h
  injection hv with h1 h2 h3
  subst h1; subst h3
  have hl : (l.take k).length = k := by rw [List.length_take]; omega
  refine ⟨⟨_, _, by rw [hl], ⟨by rw [hl]; exact Nat.le_trans hk hcap.1, hcap.2⟩, hb.take k, fun h0 => ?_⟩, fun g off n cap' hv hn' => ?_⟩
  · rw [hl] at h0
    obtain ⟨g, off, ha, hg, hcell⟩ := hc (by omega)
    refine ⟨g, off, ha, hg, fun i hi => ?_⟩
    rw [hl] at hi
    rw [hcell i (by omega), List.getElem_take]
  · injection hv with h1 h2 h3
    subst h1
    exact hn g off _ _ rfl (by omega)
theorem BytesIn.cons_shape {R : Option Nat} {w : World} {v : Value} {c : Int} {r : List Int} (h : BytesIn R w v (c :: r)) : ∃ gR off cap, v = .slice (some ⟨gR, off, none⟩) (r.length + 1) cap ∧ R = some gR ∧ r.length + 1 ≤ cap := by
  obtain ⟨⟨a, cap, rfl, hcap, _, hc⟩, hR⟩ := h
  obtain ⟨gR, off, rfl, _, _⟩ := hc (by simp)
  exact ⟨gR, off, cap, rfl, hR gR off _ _ rfl (by simp), hcap.1⟩
theorem BytesIn.head_cell {R : Option Nat} {w : World} {gR off n cap : Nat} {c : Int} {r : List Int} (h : BytesIn R w (.slice (some ⟨gR, off, none⟩) n cap) (c :: r)) : w.cell? ⟨gR, off, none⟩ = some (.int .u8 c) := by
  obtain ⟨⟨a, cap', hv, hcap, _, hc⟩, hR⟩ := h
  obtain ⟨g', off', rfl, _, hcell⟩ := hc (by simp)
  injection hv with h1 h2 h3
  injection h1 with h1
  injection h1 with h1 h4
  subst h1; subst h4
  exact hcell 0 (by simp)
end Go.Proofs.Yteggjihhjdeieaa
namespace Go.Proofs.Yteggjihhjdeieaa
open Go.RowKit

theorem bytes_mid {R : Option Nat} {w : World} {gR off cap : Nat} {c : Int} {r : List Int} (h : BytesIn R w (.slice (some ⟨gR, off, none⟩) (r.length + 1) cap) (c :: r)) (k : Nat) (hk : k ≤ r.length) : BytesIn R w (sliced (some ⟨gR, off, none⟩) 1 (1 + k) cap 1) (r.take k) := by
  have h2 := bytes_from (l := c :: r) h 1 (by simp)
  have hs : sliced (some ⟨gR, off, none⟩) 1 (c :: r).length cap 1 = .slice (if cap = 1 then some (⟨gR, off, none⟩ : Addr) else Option.map (fun x : Addr => x.add (1 * 1)) (some (⟨gR, off, none⟩ : Addr))) r.length (cap - 1) := by
    unfold sliced
    rw [List.length_cons, Nat.add_sub_cancel]
  rw [hs] at h2
  have h3 := bytes_upto (l := r) h2 k hk
  have e : sliced (some ⟨gR, off, none⟩) 1 (1 + k) cap 1 = .slice (if cap = 1 then some (⟨gR, off, none⟩ : Addr) else Option.map (fun x : Addr => x.add (1 * 1)) (some (⟨gR, off, none⟩ : Addr))) k (cap - 1) := by
    unfold sliced
    rw [Nat.add_sub_cancel_left]
  rw [e]
  exact h3
/-- x[1:hi] -/
theorem wpList_mid {ops : Array Oper} {rest : List Oper} {o : Oper} {ac : Act} {w : World} {Q : Exit → Act → World → Prop} (R : Option Nat) (hgd : o.guard = none) (x lo hi : Operand) (ho : o.op = .slice 42 x (some lo) (some hi) none)
    (gR off cap k : Nat) (c : Int) (r : List Int) (hx : ac.eval x = .slice (some ⟨gR, off, none⟩) (r.length + 1) cap) (hlo : ac.eval lo = .int .i64 1) (hhi : ac.eval hi = .int .i64 (1 + (k : Int))) (hv : BytesIn R w (.slice (some ⟨gR, off, none⟩) (r.length + 1) cap) (c :: r)) (hk : k ≤ r.length) (hcap : r.length + 1 ≤ cap)
    (h : ∀ a' cap', Hid (BytesIn R w (.slice a' k cap') (r.take k)) → wpList Try.prog ops Q rest (ac.put o.dst (.slice a' k cap')) w) : wpList Try.prog ops Q (o :: rest) ac w := by
  have hr : (Instr.sliceAt 42 (.slice (some ⟨gR, off, none⟩) (r.length + 1) cap) (some (.int .i64 1)) (some (.int .i64 (1 + (k : Int)))) none).run Try.prog w = .ok (sliced (some ⟨gR, off, none⟩) 1 (1 + k) cap 1) w := by
    have h1 : (1 : Int) ≤ 1 + (k : Int) := by omega
    have h2 : 1 + (k : Int) ≤ (cap : Int) := by omega
    have h3 : (1 + (k : Int)).toNat = 1 + k := by omega
    have h4 : (0 : Int) ≤ 1 + (k : Int) := by omega
    simp [Instr.sliceAt, Instr.slice, run_underlying elem31, Instr.sliceBounds, run_sliceBound, sliced, h1, h2, h3, h4]
  have hb := bytes_mid hv k hk
  obtain ⟨a', cap', e⟩ := hb.shape
  rw [List.length_take, Nat.min_eq_left hk] at e
  rw [e] at hb hr
  exact wpList_plain hgd fun _ hK => by
    unfold Oper.wp execOp
    simp only [ho, hx, hlo, hhi, Option.map_some, Option.map_none, Sem.run_bind, hr, Result.andThen_ok, Sem.run_pure]
    exact hK _ _ (h _ _ (Lib.hid hb))
/-- string(x) -/
theorem wpList_str {ops : Array Oper} {rest : List Oper} {o : Oper} {ac : Act} {w : World} {Q : Exit → Act → World → Prop} (hgd : o.guard = none) (x : Operand) (ho : o.op = .convert 42 9 x) (a : Option Addr) (n cap : Nat) (t : List Int) (s : ByteArray) (hx : ac.eval x = .slice a n cap) (hv : BytesAt w (.slice a n cap) t) (hs : s = strOfNums t)
    (h : wpList Try.prog ops Q rest (ac.put o.dst (.string s)) w) : wpList Try.prog ops Q (o :: rest) ac w := by
  have hr := str_of hv
  rw [← hs] at hr
  exact wpList_plain hgd fun _ hK => by
    unfold Oper.wp execOp
    simp only [ho, hx, Sem.run_bind, hr, Result.andThen_ok, Sem.run_pure]
    exact hK _ _ h
end Go.Proofs.Yteggjihhjdeieaa
namespace Go.Proofs.Yteggjihhjdeieaa
open Go.RowKit

theorem curErr_is (g : Nat) (R : Option Nat) (e : Int) (l : List Int) (w : World) (h : CurAt w g R e l) :
    Calls Try.prog 23 #[.pointer (some ⟨g, 0, none⟩)] w fun r w' => r = .returned (.int .i64 e) ∧ w = w' := by
  obtain ⟨v, lv, hc, _⟩ := h
  exact err_is g e v w hc.1
theorem curLeft_is (g : Nat) (R : Option Nat) (e : Int) (l : List Int) (w : World) (h : CurAt w g R e l) :
    Calls Try.prog 24 #[.pointer (some ⟨g, 0, none⟩)] w fun r w' => r = .returned (.int .i64 l.length) ∧ w = w' := by
  obtain ⟨v, lv, hc, hl, h1, h2⟩ := h
  by_cases he : e = 0
  · subst he
    obtain rfl := h1 rfl
    exact left_ok g R v lv w hc
  · obtain rfl := h2 he
    exact left_bad g e v w hc.1 he
end Go.Proofs.Yteggjihhjdeieaa
