/- The contracts of Leq and Meet of the reference. The contract of Leq of package lat. The contract of Meet of package lat. -/
import Derived.Test.YtihkncnhkljgpaaRefNorm
import Derived.Test.YtihkncnhkljgpaaEach
import Derived.BigFrameIn
namespace Go.Proofs.Ytihkncnhkljgpaa
open Go.RowKit

theorem leA_none {f : Ky → Option Vl} {x : Am} (h : f x.k = none) : leA f x = false := by unfold leA; rw [h]
theorem leA_some {f : Ky → Option Vl} {x : Am} {u : Vl} (h : f x.k = some u) : leA f x = over u x.v := by unfold leA; rw [h]
theorem fnd_norm' {b : List Am} (h : OkR b) : fnd (norm b) = gt b := funext fun k => fnd_norm h k
def MI (X : List Am) (f : Ky → Option Vl) (j : Nat) (out : List Am) : Prop := out ++ meetF (X.drop j) f = meetF X f
theorem meetF_len (X : List Am) (f : Ky → Option Vl) : (meetF X f).length ≤ X.length := List.length_filterMap_le ..
section
variable {X : List Am} {f : Ky → Option Vl} {j : Nat} {out : List Am} {x : Am}
theorem MI.len (h : MI X f j out) : out.length ≤ X.length := by
  have := meetF_len X f
  rw [← h, List.length_append] at this; omega
theorem MI.no (h : MI X f j out) (hd : X.drop j = x :: X.drop (j + 1)) (hf : f x.k = none) : MI X f (j + 1) out := by
  unfold MI at *; rw [← h, hd, meetF_cons, hf]
theorem MI.yes (h : MI X f j out) {u : Vl} (hd : X.drop j = x :: X.drop (j + 1)) (hf : f x.k = some u) : MI X f (j + 1) (out ++ [⟨x.k, under x.v u⟩]) := by
  unfold MI at *; rw [← h, hd, meetF_cons, hf]; simp
theorem MI.done (h : MI X f X.length out) : out = meetF X f := by
  unfold MI at *; rw [← h, List.drop_length]; simp [meetF]
end
end Go.Proofs.Ytihkncnhkljgpaa
namespace Go.Proofs.Ytihkncnhkljgpaa
open Go.RowKit Go.Shelf
attribute [local go_sem] Oper.semAt_some

theorem in_want {F : Fence} {n : Nat} {P : Program} {ops : Array Oper} {Q : Exit → Act → World → Prop} {a : Act} {w : World} {rest : List Oper} {o : Oper}
    (hw : Region.wanted o (yielded ops a.tmps) = true) (h : wpListIn F n P ops Q ({ o with guard := none } :: rest) a w) : wpListIn F n P ops Q (o :: rest) a w := by
  have hw2 : Region.wanted { o with guard := none } (yielded ops a.tmps) = true := by simp [Region.wanted]
  unfold wpListIn at h ⊢
  rw [if_pos hw2] at h
  rw [if_pos hw]
  exact h
theorem in_skip {F : Fence} (hF : Wide F) {n : Nat} {P : Program} {ops : Array Oper} {Q : Exit → Act → World → Prop} {a : Act} {w : World} {rest : List Oper} {o : Oper}
    (hw : Region.wanted o (yielded ops a.tmps) = false) (h : wpListIn F n P ops Q rest (a.put o.dst undef) w) : wpListIn F n P ops Q (o :: rest) a w := by
  unfold wpListIn
  rw [if_neg (by rw [hw]; decide)]
  exact ⟨fun f _ => wide_fn hF f, h⟩
theorem below_put {B i : Nat} {w w' : World} {o : Obj} (h : Below B w w') (hi : B ≤ i) : Below B w (w'.putObj i o) :=
  ⟨h.os, h.tape, h.output, by simpa using h.size, fun k hk => (World.putObj_heap_other (by omega)).trans (h.block k hk)⟩
theorem only_put {g i : Nat} {w w' : World} {o : Obj} (h : Only g w w') (hi : w.heap.size ≤ i) : Only g w (w'.putObj i o) :=
  ⟨h.os, h.tape, h.output, by simpa using h.size, fun k hk hn => (World.putObj_heap_other (by omega)).trans (h.block k hk hn)⟩
theorem blk_put {g t i : Nat} {w : World} {cs : List Value} {o : Obj} (h : Blk w g t cs) (hi : g ≠ i) : Blk (w.putObj i o) g t cs := (World.putObj_heap_other (by omega)).trans h
theorem exec_store_b {o : Oper} {a : Act} {w : World} (x y : Operand) (ho : o.op = .store 4 x y) (g : Nat) (u : Value) (b : Bool) (hx : a.eval x = .pointer (some ⟨g, 0, none⟩)) (hy : a.eval y = .bool b) (hb : Blk w g 4 [u]) :
    (execOp a.eval o).run Try.prog w = .ok .skip (w.setCell ⟨g, 0, none⟩ (.bool b)) := by
  have hc := hb.cell (i := 0) rfl
  have hf := hb.frozen 0
  unfold execOp
  simp only [ho, hx, hy]
  simp [go_sem, hc, hf]
theorem wpList_store_b {ops : Array Oper} {rest : List Oper} {op : Oper} {a : Act} {w : World} {Q : Exit → Act → World → Prop} (hgd : op.guard = none) (x y : Operand) (ho : op.op = .store 4 x y) (g : Nat) (u : Value) (b : Bool) (hx : a.eval x = .pointer (some ⟨g, 0, none⟩)) (hy : a.eval y = .bool b) (hb : Blk w g 4 [u])
    (h : ∀ w', Hid (Blk w' g 4 [.bool b]) → Hid (Only g w w') → wpList Try.prog ops Q rest (a.put op.dst undef) w') : wpList Try.prog ops Q (op :: rest) a w := by
  refine wpList_plain hgd fun K hK => ?_
  unfold Oper.wp
  rw [exec_store_b x y ho g u b hx hy hb]
  exact hK _ _ (h _ (Lib.hid (hb.set 0 (.bool b))) (Lib.hid (Only.set g 0 w (.bool b))))
theorem marks_ret {F : Fence} {n : Nat} {P : Program} {fn : Func} {R : Ending → World → Prop} {a : Act} {w : World} {v : Value} (D : Nat) (hd : a.defers = [{ target := .collected D, args := #[] }]) (hk : w.heap[D]? = some (.deferred (some [])))
    (hr : (results fn a.tmps).run P (w.putObj D (.deferred none)) = .ok v (w.putObj D (.deferred none))) (hR : R (.returned v) (w.putObj D (.deferred none))) : bodyPostM F n P fn R .ret a w := by
  show LeavesInM F n P fn a.tmps R a.defers .returning w
  rw [hd]
  exact ⟨by simp, .inl ⟨D, _, rfl, run_takeDeferred hk, v, hr, hR⟩⟩
theorem results_bool {fn : Func} {t : Tmp} (h : fn.results = #[.cell t 4]) (tmps : Array Value) (w : World) (g : Nat) (b : Bool) (hp : tmps.getD t undef = .pointer (some ⟨g, 0, none⟩)) (hb : Blk w g 4 [.bool b]) :
    (results fn tmps).run Try.prog w = .ok (.bool b) w := by
  have hc := hb.cell (i := 0) rfl
  have hq : tmps[t]?.getD undef = .pointer (some ⟨g, 0, none⟩) := by simpa using hp
  simp [results, h, hq, go_sem, hc]
end Go.Proofs.Ytihkncnhkljgpaa
namespace Go.Proofs.Ytihkncnhkljgpaa
open Go.RowKit Go.Shelf
attribute [local go_sem] Oper.semAt_some

theorem only_below {g B : Nat} {w a b : World} (h : Only g w a) (hb : Below B a b) (hB : w.heap.size ≤ B) : Only g w b :=
  ⟨hb.os.trans h.os, hb.tape.trans h.tape, hb.output.trans h.output, Nat.le_trans h.size hb.size, fun k hk hn => (hb.block k (by omega)).trans (h.block k hk hn)⟩
theorem grown_blk {w w' : World} {row : Option Nat} {g t : Nat} {cs : List Value} (h : Blk w g t cs) (hg : w.grownBy w' row) (hn : row ≠ some g) : Blk w' g t cs := (hg.block g h.lt (fun e => hn e.symm)).trans h
theorem OwnR.ne {w : World} {B : Nat} {v : Value} {l : List Am} {g t : Nat} {cs : List Value} (h : OwnR w B v l) (hb : Blk w g t cs) (ht : t ≠ 67) : v.ownBlock ≠ some g := by
  rcases h.row.2 with ⟨rfl, _⟩ | ⟨g', cap, cur, rfl, _, hg, _⟩
  · simp [Value.ownBlock]
  · intro e
    obtain rfl : g' = g := by simpa [Value.ownBlock] using e
    unfold Blk at hb
    rw [hg] at hb
    simp only [Option.some.injEq, Obj.cells.injEq] at hb
    exact ht hb.2.1.symm
theorem OwnR.ned {w : World} {B : Nat} {v : Value} {l : List Am} {i : Nat} {d : Option (List Deferred)} (h : OwnR w B v l) (hb : w.heap[i]? = some (.deferred d)) : v.ownBlock ≠ some i := by
  rcases h.row.2 with ⟨rfl, _⟩ | ⟨g', cap, cur, rfl, _, hg, _⟩
  · simp [Value.ownBlock]
  · intro e
    obtain rfl : g' = i := by simpa [Value.ownBlock] using e
    rw [hg] at hb
    cases hb
theorem OwnR.put {w : World} {B : Nat} {v : Value} {l : List Am} {i : Nat} {o : Obj} (h : OwnR w B v l) (hn : v.ownBlock ≠ some i) : OwnR (w.putObj i o) B v l :=
  ⟨h.ok, h.row.kept (row := some i) ⟨rfl, rfl, rfl, by simp, fun k _ hn => World.putObj_heap_other (fun e => hn (by rw [e]))⟩ (.inr hn)⟩
theorem OwnR.ge {w : World} {B : Nat} {v : Value} {l : List Am} {i : Nat} (h : OwnR w B v l) (hi : i < B) : v.ownBlock ≠ some i := fun e => by have := (h.row.lt i e).1; omega
theorem RowV.only {w w' : World} {A D : Option Addr} {n cap g m c : Nat} {l : List Am} (h : RowV w A n cap l) (ho : Only g w w') (hb : Blk w g 32 [.slice D m c]) : RowV w' A n cap l :=
  ⟨h.ok, h.len, h.le, h.most, fun h0 => by
    obtain ⟨G, off, ha, hG, hr⟩ := h.at_ h0
    have hne : G ≠ g := by
      rintro rfl
      have h1 := hr 0 (by rw [h.len]; exact h0) 0 _ (by rw [Am.cells, List.getElem?_append_left (by rw [kcells_len (h.ok _ (List.getElem_mem _)).k.ml]; omega)]; exact kc0 _)
      rw [cell_of_row _ G _ _ 32 (0, 0) hb] at h1
      obtain ⟨hi, e⟩ := Array.getElem?_eq_some_iff.1 h1
      simp only [List.size_toArray, List.length_singleton] at hi
      obtain rfl : off = 0 := by omega
      simp at e
    refine ⟨G, off, ha, Nat.lt_of_lt_of_le hG ho.size, fun i hi j v hv => ?_⟩
    have h1 := hr i hi j v hv
    unfold World.cell? at *
    rw [show w'.heap[(⟨G, off + i * 21 + j, none⟩ : Addr).block]? = w.heap[(⟨G, off + i * 21 + j, none⟩ : Addr).block]? from ho.block G hG hne]
    exact h1⟩
theorem meetF_snoc (pre : List Am) (x : Am) (f : Ky → Option Vl) : meetF (pre ++ [x]) f = meetF pre f ++ (match f x.k with | none => [] | some u => [⟨x.k, under x.v u⟩]) := by
  unfold meetF
  rw [List.filterMap_append]
  congr 1
  rw [List.filterMap_cons, List.filterMap_nil]
  unfold meetA
  cases f x.k <;> rfl
theorem exec_load22 {o : Oper} {a : Act} {w : World} (x : Operand) (ho : o.op = .load 32 x) (g : Nat) (D : Option Addr) (m c : Nat) (hx : a.eval x = .pointer (some ⟨g, 0, none⟩)) (hb : Blk w g 32 [.slice D m c]) :
    (execOp a.eval o).run Try.prog w = .ok (.value (.slice D m c)) w := by
  have hc := hb.cell (i := 0) rfl
  unfold execOp
  simp only [ho, hx]
  simp [go_sem, hc]
theorem exec_store22 {o : Oper} {a : Act} {w : World} (x y : Operand) (ho : o.op = .store 32 x y) (g : Nat) (u : Value) (D : Option Addr) (m c : Nat) (hx : a.eval x = .pointer (some ⟨g, 0, none⟩)) (hy : a.eval y = .slice D m c) (hb : Blk w g 32 [u]) :
    (execOp a.eval o).run Try.prog w = .ok .skip (w.setCell ⟨g, 0, none⟩ (.slice D m c)) := by
  have hc := hb.cell (i := 0) rfl
  have hf := hb.frozen 0
  unfold execOp
  simp only [ho, hx, hy]
  simp [go_sem, hc, hf]
section
variable {ops : Array Oper} {Q : Exit → Act → World → Prop} {md : Region.Mode} {S : World → Prop} {fuel : Nat} {listed : Array Bool} {a : Act} {w : World} {i : Nat} {o : Oper} {rs : List Nat}
theorem ready_load22 (ho : ops[i]? = some o) (hg : o.guard = none) (x : Operand) (hop : o.op = .load 32 x) (g : Nat) (D : Option Addr) (m c : Nat) (hx : a.eval x = .pointer (some ⟨g, 0, none⟩)) (hb : Blk w g 32 [.slice D m c])
    (h : S w ∧ wpAnyH Try.prog md ops Q S fuel (listed.setIfInBounds i true) (a.put o.dst (.slice D m c)) w)
    (hs : AllReadyH Try.prog md ops Q S fuel listed a w rs) : AllReadyH Try.prog md ops Q S fuel listed a w (i :: rs) := by
  refine AllReadyH.cons ho (fun K hK => ?_) hs
  have hw : Region.wanted o (yielded ops a.tmps) = true := by simp [Region.wanted, hg]
  rw [if_pos hw]
  unfold Oper.wp
  rw [exec_load22 x hop g D m c hx hb]
  exact hK.out _ _ h.1 (fun _ => h.2)
theorem ready_store22 (ho : ops[i]? = some o) (hg : o.guard = none) (x y : Operand) (hop : o.op = .store 32 x y) (g : Nat) (u : Value) (D : Option Addr) (m c : Nat) (hx : a.eval x = .pointer (some ⟨g, 0, none⟩)) (hy : a.eval y = .slice D m c) (hb : Blk w g 32 [u])
    (h : ∀ w', Blk w' g 32 [.slice D m c] → Only g w w' → S w' ∧ wpAnyH Try.prog md ops Q S fuel (listed.setIfInBounds i true) (a.put o.dst undef) w')
    (hs : AllReadyH Try.prog md ops Q S fuel listed a w rs) : AllReadyH Try.prog md ops Q S fuel listed a w (i :: rs) := by
  refine AllReadyH.cons ho (fun K hK => ?_) hs
  have hw : Region.wanted o (yielded ops a.tmps) = true := by simp [Region.wanted, hg]
  rw [if_pos hw]
  have H := h _ (hb.set 0 (.slice D m c)) (Only.set g 0 w (.slice D m c))
  unfold Oper.wp
  rw [exec_store22 x y hop g u D m c hx hy hb]
  exact hK.out _ _ H.1 (fun _ => H.2)
end
/-- What the region of an append holds all along. -/
structure MS (g7 g8 g9 : Nat) (k : Ky) (v u : Vl) (W : World) : Prop where
  k : Blk W g7 61 k.cells
  v : Blk W g8 65 v.cells
  u : Blk W g9 65 u.cells
theorem MS.below {g7 g8 g9 : Nat} {k : Ky} {v u : Vl} {W W' : World} (h : MS g7 g8 g9 k v u W) (hb : Below W.heap.size W W') : MS g7 g8 g9 k v u W' := ⟨h.k.below hb, h.v.below hb, h.u.below hb⟩
theorem MS.only {g7 g8 g9 g : Nat} {k : Ky} {v u : Vl} {W W' : World} (h : MS g7 g8 g9 k v u W) (hb : Only g W W') (h7 : g < g7) (h8 : g < g8) (h9 : g < g9) : MS g7 g8 g9 k v u W' := ⟨h.k.only hb (by omega), h.v.only hb (by omega), h.u.only hb (by omega)⟩
theorem MS.app {g7 g8 g9 B : Nat} {k : Ky} {v u : Vl} {W W' : World} {s : Value} {l : List Am} (h : MS g7 g8 g9 k v u W) (ho : OwnR W B s l) (hg : W.grownBy W' s.ownBlock) : MS g7 g8 g9 k v u W' :=
  ⟨grown_blk h.k hg (ho.ne h.k (by decide)), grown_blk h.v hg (ho.ne h.v (by decide)), grown_blk h.u hg (ho.ne h.u (by decide))⟩
/-- What a round of Meet finds and leaves. -/
def MM (g B : Nat) (w0 : World) (l : List Am) (V : World) : Prop := ∃ D m c, Blk V g 32 [.slice D m c] ∧ OwnR V B (.slice D m c) l ∧ Only g w0 V
end Go.Proofs.Ytihkncnhkljgpaa
