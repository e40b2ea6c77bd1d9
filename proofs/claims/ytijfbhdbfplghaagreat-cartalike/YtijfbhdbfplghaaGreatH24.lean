/- Laws of plain walks, carried over to the frames of rounds of a range over a function. The contracts of Each of package lat, of the iterator that it returns, and of under. The contracts of Leq and Meet of the reference. The contract of Leq of package lat. The contract of Meet of package lat. Vectors as values and in memory: loads, stores, builds and comparisons of whole ones. -/
import Derived.Test.YtijfbhdbfplghaaGreatH23
import Derived.Test.YtijfbhdbfplghaaGreatH21
import Derived.RangeFuncNested
import Derived.RangeFuncBound
import Derived.RangeFuncCalls
import Derived.RangeFuncLeaves
import Derived.Below
import Derived.OwnWalkIn
import Derived.TacticsInMore
import Derived.LoopNIn
import Derived.LoopIn
import Derived.Shelf.Abstract
import Derived.Shelf.RegionOpen
import Derived.WalkKit
import Derived.BigFrameIn
import Derived.Test.YtijfbhdbfplghaaGreatH11
import Derived.Test.YtijfbhdbfplghaaGreatH05
namespace Go.Proofs.YtijfbhdbfplghaaGreat
open Go.RowKit
/-- The fence that lets all in, in a round or not. -/
def Wide (F : Fence) : Prop := F = Fence.wide ∨ ∃ l, F = Fence.wide.inRound l
theorem wide_no : Wide Fence.wide := .inl rfl
theorem wide_in (l : Nat) : Wide (Fence.wide.inRound l) := .inr ⟨l, rfl⟩
theorem calls_in {F : Fence} (hF : Wide F) {n : Nat} {P : Program} {f : FuncId} {args : Array Value} {w : World} {R : Ending → World → Prop} (h : Calls P f args w R) : CallsIn F n P f args w R := by
  rcases hF with rfl | ⟨l, rfl⟩
  · exact callsIn_wide.2 h
  · exact CallsIn.inRound l (callsIn_wide.2 h)
theorem rows_in {F : Fence} (hF : Wide F) {n : Nat} {P : Program} {row : String} {args : Array Value} {w : World} {R : Value → World → Prop} (h : Rows P row args w R) : RowsIn F n P row args w R := by
  have h0 : RowsIn Fence.wide n P row args w R := fun c cs _ => let ⟨v, w', r, s⟩ := h c cs; ⟨v, w', r, stepsIn_wide.2 s⟩
  rcases hF with rfl | ⟨l, rfl⟩
  · exact h0
  · exact h0
theorem wide_fn {F : Fence} (hF : Wide F) (f : FuncId) : F.fn f := by
  rcases hF with rfl | ⟨l, rfl⟩ <;> trivial
theorem wide_depth {F : Fence} (hF : Wide F) : F.depth = none := by
  rcases hF with rfl | ⟨l, rfl⟩ <;> rfl
theorem op_in {F : Fence} (hF : Wide F) {n : Nat} {P : Program} {o : Oper} {a : Act} {w : World} {K K' : Act → World → Prop} {Q Q' : Exit → Act → World → Prop} (hd : ∀ c, o.op ≠ .defer c) (hK : ∀ a w, K a w → K' a w) (hQ : ∀ e a w, e ≠ .normal → Q e a w → Q' e a w) (h : o.wp P a w K Q) : o.wpIn F n P a w K' Q' := by
  refine ⟨fun f _ => wide_fn hF f, ?_⟩
  rw [Oper.semAt_plain F _ _ hd]
  unfold Oper.wp at h
  have hdep : F.depth.isSome = true → 1 ≤ n := fun e => by rw [wide_depth hF] at e; cases e
  revert h
  generalize (execOp a.eval o).run P w = r
  intro h
  match r, h with
  | .ok (.value v) w', h => exact hK _ _ h
  | .ok .skip w', h => exact hK _ _ h
  | .ok (.defer d) w', h => exact hK _ _ h
  | .ok (.enter f args) w', h =>
    refine ⟨hdep, calls_in hF (Calls.mono h ?_)⟩
    intro e w'' he
    cases e with
    | returned v => exact hK _ _ he
    | panicked chain => exact hQ _ _ _ (by simp) he
    | outgrown => obtain ⟨a1, w1, h1⟩ := he; exact ⟨a1, w1, hQ _ _ _ (by simp) h1⟩
  | .ok (.row row args) w', h => exact ⟨hdep, rows_in hF (Rows.mono h (fun v w'' => hK _ _))⟩
  | .halt (.panic v) w', h => exact hQ _ _ _ (by simp) h
/-- A law of a plain walk, as an arm of a fenced one. -/
theorem in_plain {F : Fence} (hF : Wide F) {n : Nat} {P : Program} {ops : Array Oper} {rest : List Oper} {o : Oper} {a : Act} {w : World} {Q : Exit → Act → World → Prop} (hgd : o.guard = none) (hd : ∀ c, o.op ≠ .defer c)
    (h : wpList P ops (fun e a' w' => e = .normal ∧ wpListIn F n P ops Q rest a' w') [o] a w) : wpListIn F n P ops Q (o :: rest) a w := by
  have hw : Region.wanted o (yielded ops a.tmps) = true := by simp [Region.wanted, hgd]
  refine wpListIn_plain hgd fun K hK => ?_
  unfold wpList at h
  rw [if_pos hw] at h
  rcases h with h | ⟨_, a1, w1, h1, _⟩
  · refine op_in hF hd (fun a' w' h' => ?_) (fun e a' w' hn h' => absurd h'.1 hn) h
    unfold wpList at h'; exact hK _ _ h'.2
  · cases h1
/-! A range over the iterator of a row. -/
abbrev encP (x : Am) : Array Value := #[.agg x.k.cells.toArray, .agg x.v.cells.toArray]
/-- The iterator hands over the atoms of s one behind the other, till one asks no more. -/
def EachSeq (gf : Nat) (lb : Array Value) (N : World → Prop) (s : List Am) : Prop :=
  ∀ (l : Nat) (J : List Am → World → Prop) (X : World → Prop) (W : World), (∀ pre V V', J pre V → Below V.heap.size V V' → J pre V') → (∀ pre V, J pre V → N V) →
    (∀ pre x rest V, s = pre ++ x :: rest → J pre V → YieldAt Fence.wide 9 Tryz.prog l (encP x) V fun e V' => (e = .returned (.bool true) ∧ J (pre ++ [x]) V') ∨ (e = .returned (.bool false) ∧ X V')) →
    J [] W → Calls Tryz.prog gf (#[.func (.yield l) #[] #[]] ++ lb) W fun e V' => (∃ v, e = .returned v) ∧ (J s V' ∨ X V')
/-- What the loop's own two blocks hold stays. -/
structure KeepL (B : Nat) (W W' : World) : Prop where
  size : W.heap.size ≤ W'.heap.size
  one : W'.heap[B]? = W.heap[B]?
  two : W'.heap[B + 1]? = W.heap[B + 1]?
theorem KeepL.refl (B : Nat) (W : World) : KeepL B W W := ⟨Nat.le_refl _, rfl, rfl⟩
theorem KeepL.trans {B : Nat} {a b c : World} (h : KeepL B a b) (k : KeepL B b c) : KeepL B a c := ⟨Nat.le_trans h.size k.size, k.one.trans h.one, k.two.trans h.two⟩
theorem KeepL.below {B C : Nat} {a b : World} (h : Below C a b) (hC : B + 1 < C) : KeepL B a b := ⟨h.size, h.block B (by omega), h.block (B + 1) hC⟩
theorem KeepL.only {B g : Nat} {a b : World} (h : Only g a b) (h1 : g ≠ B) (h2 : g ≠ B + 1) (hs : B + 1 < a.heap.size) : KeepL B a b := ⟨h.size, h.block B (by omega) (fun e => h1 e.symm), h.block (B + 1) hs (fun e => h2 e.symm)⟩
end Go.Proofs.YtijfbhdbfplghaaGreat
namespace Go.Proofs.YtijfbhdbfplghaaGreat
open Go.RowKit Go.Shelf
attribute [local go_sem] Oper.semAt_some
theorem yield_any {P : Program} {l : Nat} {args : Array Value} {W : World} {R : Ending → World → Prop} (h : YieldAt Fence.wide 9 P l args W R) (m : Nat) (r : Option Nat) :
    ∃ fn tmps assign body, (Instr.yield l args).run P W = .ok (.round l fn tmps assign body) W ∧ RoundIn { Fence.wide with round := r } m P l fn tmps assign body W R := by
  obtain ⟨fn, tmps, assign, body, hy, h1, h2⟩ := h
  exact ⟨fn, tmps, assign, body, hy, h1, fun c cs _ => h2 c cs (fun _ hd => by cases hd)⟩
theorem in_done {F : Fence} {n : Nat} {P : Program} {ops : Array Oper} {rest : List Oper} {a : Act} {w : World} {Q : Exit → Act → World → Prop} (h : wpListIn F n P ops Q rest a w) : wpList P ops (fun e a' w' => e = .normal ∧ wpListIn F n P ops Q rest a' w') [] a w := ⟨rfl, h⟩
def GivesF (w : World) (s : List Am) (e : Ending) (w' : World) : Prop := (∃ Bs D m c, e = .returned (.func (.func 75) #[] #[.pointer (some ⟨Bs, 0, none⟩)]) ∧ w.heap.size ≤ Bs ∧ Blk w' Bs 22 [.slice D m c] ∧ RowV w' D m c s ∧ ∀ G off, D = some ⟨G, off, none⟩ → w.heap.size ≤ G) ∧ Below w.heap.size w w'
set_option maxRecDepth 100000 in
set_option maxHeartbeats 2000000 in
theorem each_isO (A : Option Addr) (n cap : Nat) (l : List Am) (w : World) (h : RowV w A n cap l) (hn : n ≤ 600) : Calls Tryz.prog 51 #[.slice A n cap] w (GivesF w (norm l)) := by
  have H := Lib.hid h
  clear h
  go_enter Tryz.func51, Tryz.ntmps51
  go_wp2_with fail
  refine (norm_isO A n cap l _ H.out hn).mono ?_
  rintro e w1 ⟨⟨D, m, c, rfl, r1, f1⟩, b1⟩
  have F1 := Lib.hid f1
  have R1 := Lib.hid r1
  have B1 := Lib.hid b1
  clear r1 b1 f1
  go_wp2_with fail
  go_ret
  have B2 := new_below w1 (.cells #[.slice D m c] 22)
  exact ⟨⟨w1.heap.size, D, m, c, rfl, B1.out.size, blk_alloc w1 22 [.slice D m c], R1.out.below B2, F1.out⟩, step_ B1.out B2⟩
theorem split_at {s : List Am} {j : Nat} (h : j < s.length) : s = s.take j ++ s.getD j azero :: s.drop (j + 1) := by
  rw [← drop_getD h, List.take_append_drop]
set_option maxRecDepth 100000 in
set_option maxHeartbeats 2000000 in
theorem each_seq (Bs : Nat) (D : Option Addr) (m c : Nat) (s : List Am) (hm : m ≤ 1000) : EachSeq 75 #[.pointer (some ⟨Bs, 0, none⟩)] (fun V => Blk V Bs 22 [.slice D m c] ∧ RowV V D m c s) s := by
  intro l J X W hJb hJn hY h0
  have hz := zero32
  have c0 := (hJn _ _ h0).1.cell (i := 0) rfl
  have HB := Lib.hid hJb
  have HN := Lib.hid hJn
  have HY := Lib.hid hY
  have H0 := Lib.hid h0
  clear hJb hJn hY h0
  refine (callsIn_wide (n := 10)).1 ?_
  refine callsIn_of_wp Tryz.func75 rfl trivial ?_ rfl
  simp only [Tryz.ntmps75, List.size_toArray, List.length_cons, List.length_nil, Nat.reduceAdd, Nat.reduceSub, Array.replicate_succ, Array.replicate_zero, List.push_toArray, List.append_toArray, List.nil_append, List.cons_append]
  gi_wp2
  gi_loopw [7] (fun i wr => ∃ (j : Nat), j ≤ m ∧ i = .int .i64 j ∧ J (s.take j) wr) (fun i _ => (m - (intOf i).toNat))
  case atStart => exact ⟨0, Nat.zero_le _, rfl, H0.out⟩
  case round =>
    obtain ⟨j, hj, rfl, hJ⟩ := hrel
    have JJ := Lib.hid hJ
    clear hJ
    by_cases hlt : j < m
    · obtain ⟨G, p, hE⟩ := (HN.out _ _ JJ.out).2.elem j hlt
      have E := Lib.hid hE
      have SP := Lib.hid (split_at (s := s) (j := j) (by have := (HN.out _ _ JJ.out).2.len; omega))
      have TK := Lib.hid (take_getD (l := s) (j := j) (by have := (HN.out _ _ JJ.out).2.len; omega))
      obtain ⟨x, hx⟩ : ∃ x, s.getD j azero = x := ⟨_, rfl⟩
      rw [hx] at E SP TK
      clear hE hx
      have Z := Lib.hid (blk_alloc wr 58 azero.cells)
      gi_wp2_with (first
        | (refine in_plain wide_no rfl (by intro c h; cases h) ?_; refine wpList_index rfl _ _ rfl D m c G p j x _ rfl rfl (by first | rfl | omega) E.out ?_; refine in_done ?_)
        | (refine in_plain wide_no rfl (by intro c h; cases h) ?_; refine wpList_load_amx rfl _ rfl G p x rfl E.out.rg E.out.ok ?_; refine in_done ?_)
        | (refine in_plain wide_no rfl (by intro c h; cases h) ?_; refine wpList_store_am rfl _ _ rfl wr.heap.size azero x rfl rfl Z.out azero_ok E.out.ok ?_; intro w2 N2 O2; refine in_done ?_)
        | (refine in_plain wide_no rfl (by intro c h; cases h) ?_; refine wpList_load_ky rfl _ rfl wr.heap.size 0 x.k rfl N2.out.ak E.out.ok.k.ml ?_; refine in_done ?_)
        | (refine in_plain wide_no rfl (by intro c h; cases h) ?_; refine wpList_load_vl rfl _ rfl wr.heap.size 12 x.v rfl (N2.out.av E.out.ok) E.out.ok.v.tl ?_; refine in_done ?_; obtain ⟨fn, tmps, assign, body, hy, hR⟩ := yield_any (HY.out (s.take j) x _ w2 SP.out (HB.out _ _ _ JJ.out (box_below O2.out))) 9 none))
      refine hR.mono ?_
      rintro e W3 (⟨rfl, hJ3⟩ | ⟨rfl, hX3⟩)
      · have J3 := Lib.hid hJ3
        clear hJ3 hR hy
        gi_wp2
        go_roundw
        case rel => exact ⟨j + 1, by omega, by go_num, by rw [TK.out]; exact J3.out⟩
        case measure => simp [intOf]; omega
      · have X3 := Lib.hid hX3
        clear hX3 hR hy
        gi_wp2
        refine bodyPost_ret (results_none rfl _ _ _) rfl ?_
        exact ⟨⟨_, rfl⟩, .inr X3.out⟩
    · obtain rfl : j = m := by omega
      have TK := Lib.hid (show s.take j = s from List.take_of_length_le (by have := (HN.out _ _ JJ.out).2.len; omega))
      gi_wp2
      go_end0
      exact ⟨⟨_, rfl⟩, .inl (by have := JJ.out; rw [TK.out] at this; exact this)⟩
end Go.Proofs.YtijfbhdbfplghaaGreat
namespace Go.Proofs.YtijfbhdbfplghaaGreat
open Go.RowKit
def MI (X : List Am) (f : Ky → Option Vl) (j : Nat) (out : List Am) : Prop := out ++ meetF (X.drop j) f = meetF X f
theorem meetF_len (X : List Am) (f : Ky → Option Vl) : (meetF X f).length ≤ X.length := List.length_filterMap_le ..
section
variable {X : List Am} {f : Ky → Option Vl} {j : Nat} {out : List Am} {x : Am}
theorem MI.len (h : MI X f j out) : out.length ≤ X.length := by
  have := meetF_len X f
  rw [← h, List.length_append] at this; omega
theorem MI.no (h : MI X f j out) (hd : X.drop j = x :: X.drop (j + 1)) (hf : f x.k = none) : MI X f (j + 1) out := by
  unfold MI at *; rw [← h, hd, meetF_cons, hf]
theorem MI.yes (h : MI X f j out) {u : Vl} (hd : X.drop j = x :: X.drop (j + 1)) (hf : f x.k = some u) : MI X f (j + 1) (out ++ [⟨x.k, under x.v u⟩]) := by
  unfold MI at *; rw [← h, hd, meetF_cons, hf]; simp
theorem MI.done (h : MI X f X.length out) : out = meetF X f := by
  unfold MI at *; rw [← h, List.drop_length]; simp [meetF]
end
end Go.Proofs.YtijfbhdbfplghaaGreat
namespace Go.Proofs.YtijfbhdbfplghaaGreat
open Go.RowKit Go.Shelf
attribute [local go_sem] Oper.semAt_some
theorem in_want {F : Fence} {n : Nat} {P : Program} {ops : Array Oper} {Q : Exit → Act → World → Prop} {a : Act} {w : World} {rest : List Oper} {o : Oper}
    (hw : Region.wanted o (yielded ops a.tmps) = true) (h : wpListIn F n P ops Q ({ o with guard := none } :: rest) a w) : wpListIn F n P ops Q (o :: rest) a w := by
  have hw2 : Region.wanted { o with guard := none } (yielded ops a.tmps) = true := by simp [Region.wanted]
  unfold wpListIn at h ⊢
  rw [if_pos hw2] at h
  rw [if_pos hw]
  exact h
theorem in_skip {F : Fence} (hF : Wide F) {n : Nat} {P : Program} {ops : Array Oper} {Q : Exit → Act → World → Prop} {a : Act} {w : World} {rest : List Oper} {o : Oper}
    (hw : Region.wanted o (yielded ops a.tmps) = false) (h : wpListIn F n P ops Q rest (a.put o.dst undef) w) : wpListIn F n P ops Q (o :: rest) a w := by
  unfold wpListIn
  rw [if_neg (by rw [hw]; decide)]
  exact ⟨fun f _ => wide_fn hF f, h⟩
theorem below_put {B i : Nat} {w w' : World} {o : Obj} (h : Below B w w') (hi : B ≤ i) : Below B w (w'.putObj i o) :=
  ⟨h.os, h.tape, h.output, by simpa using h.size, fun k hk => (World.putObj_heap_other (by omega)).trans (h.block k hk)⟩
theorem only_put {g i : Nat} {w w' : World} {o : Obj} (h : Only g w w') (hi : w.heap.size ≤ i) : Only g w (w'.putObj i o) :=
  ⟨h.os, h.tape, h.output, by simpa using h.size, fun k hk hn => (World.putObj_heap_other (by omega)).trans (h.block k hk hn)⟩
theorem blk_put {g t i : Nat} {w : World} {cs : List Value} {o : Obj} (h : Blk w g t cs) (hi : g ≠ i) : Blk (w.putObj i o) g t cs := (World.putObj_heap_other (by omega)).trans h
theorem exec_store_b {o : Oper} {a : Act} {w : World} (x y : Operand) (ho : o.op = .store 4 x y) (g : Nat) (u : Value) (b : Bool) (hx : a.eval x = .pointer (some ⟨g, 0, none⟩)) (hy : a.eval y = .bool b) (hb : Blk w g 4 [u]) :
    (execOp a.eval o).run Tryz.prog w = .ok .skip (w.setCell ⟨g, 0, none⟩ (.bool b)) := by
  have hc := hb.cell (i := 0) rfl
  have hf := hb.frozen 0
  unfold execOp
  simp only [ho, hx, hy]
  simp [go_sem, hc, hf]
theorem wpList_store_b {ops : Array Oper} {rest : List Oper} {op : Oper} {a : Act} {w : World} {Q : Exit → Act → World → Prop} (hgd : op.guard = none) (x y : Operand) (ho : op.op = .store 4 x y) (g : Nat) (u : Value) (b : Bool) (hx : a.eval x = .pointer (some ⟨g, 0, none⟩)) (hy : a.eval y = .bool b) (hb : Blk w g 4 [u])
    (h : ∀ w', Hid (Blk w' g 4 [.bool b]) → Hid (Only g w w') → wpList Tryz.prog ops Q rest (a.put op.dst undef) w') : wpList Tryz.prog ops Q (op :: rest) a w := by
  refine wpList_plain hgd fun K hK => ?_
  unfold Oper.wp
  rw [exec_store_b x y ho g u b hx hy hb]
  exact hK _ _ (h _ (Lib.hid (hb.set 0 (.bool b))) (Lib.hid (Only.set g 0 w (.bool b))))
theorem marks_ret {F : Fence} {n : Nat} {P : Program} {fn : Func} {R : Ending → World → Prop} {a : Act} {w : World} {v : Value} (D : Nat) (hd : a.defers = [{ target := .collected D, args := #[] }]) (hk : w.heap[D]? = some (.deferred (some [])))
    (hr : (results fn a.tmps).run P (w.putObj D (.deferred none)) = .ok v (w.putObj D (.deferred none))) (hR : R (.returned v) (w.putObj D (.deferred none))) : bodyPostM F n P fn R .ret a w := by
  show LeavesInM F n P fn a.tmps R a.defers .returning w
  rw [hd]
  exact ⟨by simp, .inl ⟨D, _, rfl, run_takeDeferred hk, v, hr, hR⟩⟩
theorem results_bool {fn : Func} {t : Tmp} (h : fn.results = #[.cell t 4]) (tmps : Array Value) (w : World) (g : Nat) (b : Bool) (hp : tmps.getD t undef = .pointer (some ⟨g, 0, none⟩)) (hb : Blk w g 4 [.bool b]) :
    (results fn tmps).run Tryz.prog w = .ok (.bool b) w := by
  have hc := hb.cell (i := 0) rfl
  have hq : tmps[t]?.getD undef = .pointer (some ⟨g, 0, none⟩) := by simpa using hp
  simp [results, h, hq, go_sem, hc]
end Go.Proofs.YtijfbhdbfplghaaGreat
namespace Go.Proofs.YtijfbhdbfplghaaGreat
open Go.RowKit Go.Shelf
attribute [local go_sem] Oper.semAt_some
theorem only_below {g B : Nat} {w a b : World} (h : Only g w a) (hb : Below B a b) (hB : w.heap.size ≤ B) : Only g w b :=
  ⟨hb.os.trans h.os, hb.tape.trans h.tape, hb.output.trans h.output, Nat.le_trans h.size hb.size, fun k hk hn => (hb.block k (by omega)).trans (h.block k hk hn)⟩
theorem grown_blk {w w' : World} {row : Option Nat} {g t : Nat} {cs : List Value} (h : Blk w g t cs) (hg : w.grownBy w' row) (hn : row ≠ some g) : Blk w' g t cs := (hg.block g h.lt (fun e => hn e.symm)).trans h
theorem OwnR.ne {w : World} {B : Nat} {v : Value} {l : List Am} {g t : Nat} {cs : List Value} (h : OwnR w B v l) (hb : Blk w g t cs) (ht : t ≠ 58) : v.ownBlock ≠ some g := by
  rcases h.row.2 with ⟨rfl, _⟩ | ⟨g', cap, cur, rfl, _, hg, _⟩
  · simp [Value.ownBlock]
  · intro e
    obtain rfl : g' = g := by simpa [Value.ownBlock] using e
    unfold Blk at hb
    rw [hg] at hb
    simp only [Option.some.injEq, Obj.cells.injEq] at hb
    exact ht hb.2.1.symm
theorem OwnR.put {w : World} {B : Nat} {v : Value} {l : List Am} {i : Nat} {o : Obj} (h : OwnR w B v l) (hn : v.ownBlock ≠ some i) : OwnR (w.putObj i o) B v l :=
  ⟨h.ok, h.row.kept (row := some i) ⟨rfl, rfl, rfl, by simp, fun k _ hn => World.putObj_heap_other (fun e => hn (by rw [e]))⟩ (.inr hn)⟩
theorem OwnR.ge {w : World} {B : Nat} {v : Value} {l : List Am} {i : Nat} (h : OwnR w B v l) (hi : i < B) : v.ownBlock ≠ some i := fun e => by have := (h.row.lt i e).1; omega
theorem RowV.only {w w' : World} {A D : Option Addr} {n cap g m c : Nat} {l : List Am} (h : RowV w A n cap l) (ho : Only g w w') (hb : Blk w g 22 [.slice D m c]) : RowV w' A n cap l :=
  ⟨h.ok, h.len, h.le, h.most, fun h0 => by
    obtain ⟨G, off, ha, hG, hr⟩ := h.at_ h0
    have hne : G ≠ g := by
      rintro rfl
      have h1 := hr 0 (by rw [h.len]; exact h0) 0 _ (by rw [Am.cells, List.getElem?_append_left (by rw [kcells_len (h.ok _ (List.getElem_mem _)).k.ml]; omega)]; exact kc0 _)
      rw [cell_of_row _ G _ _ 22 (0, 0) hb] at h1
      obtain ⟨hi, e⟩ := Array.getElem?_eq_some_iff.1 h1
      simp only [List.size_toArray, List.length_singleton] at hi
      obtain rfl : off = 0 := by omega
      simp at e
    refine ⟨G, off, ha, Nat.lt_of_lt_of_le hG ho.size, fun i hi j v hv => ?_⟩
    have h1 := hr i hi j v hv
    unfold World.cell? at *
    rw [show w'.heap[(⟨G, off + i * 21 + j, none⟩ : Addr).block]? = w.heap[(⟨G, off + i * 21 + j, none⟩ : Addr).block]? from ho.block G hG hne]
    exact h1⟩
section
variable {ops : Array Oper} {Q : Exit → Act → World → Prop} {md : Region.Mode} {S : World → Prop} {fuel : Nat} {listed : Array Bool} {a : Act} {w : World} {i : Nat} {o : Oper} {rs : List Nat}
end
/-- What the region of an append holds all along. -/
structure MS (g7 g8 g9 : Nat) (k : Ky) (v u : Vl) (W : World) : Prop where
  k : Blk W g7 53 k.cells
  v : Blk W g8 56 v.cells
  u : Blk W g9 56 u.cells
theorem MS.below {g7 g8 g9 : Nat} {k : Ky} {v u : Vl} {W W' : World} (h : MS g7 g8 g9 k v u W) (hb : Below W.heap.size W W') : MS g7 g8 g9 k v u W' := ⟨h.k.below hb, h.v.below hb, h.u.below hb⟩
theorem MS.only {g7 g8 g9 g : Nat} {k : Ky} {v u : Vl} {W W' : World} (h : MS g7 g8 g9 k v u W) (hb : Only g W W') (h7 : g < g7) (h8 : g < g8) (h9 : g < g9) : MS g7 g8 g9 k v u W' := ⟨h.k.only hb (by omega), h.v.only hb (by omega), h.u.only hb (by omega)⟩
theorem MS.app {g7 g8 g9 B : Nat} {k : Ky} {v u : Vl} {W W' : World} {s : Value} {l : List Am} (h : MS g7 g8 g9 k v u W) (ho : OwnR W B s l) (hg : W.grownBy W' s.ownBlock) : MS g7 g8 g9 k v u W' :=
  ⟨grown_blk h.k hg (ho.ne h.k (by decide)), grown_blk h.v hg (ho.ne h.v (by decide)), grown_blk h.u hg (ho.ne h.u (by decide))⟩
/-- What a round of Meet finds and leaves. -/
def MM (g B : Nat) (w0 : World) (l : List Am) (V : World) : Prop := ∃ D m c, Blk V g 22 [.slice D m c] ∧ OwnR V B (.slice D m c) l ∧ Only g w0 V
end Go.Proofs.YtijfbhdbfplghaaGreat
namespace Go.Proofs.YtijfbhdbfplghaaGreat
open Go.RowKit
def vc (l : List Int) : List Value := l.map (Value.int .u32)
theorem vc_len (l : List Int) : (vc l).length = l.length := List.length_map ..
/-- The two types of vectors. -/
structure VTy (t : TypeId) : Prop where
  und : Tryz.prog.underlying t = some (.array 16 51)
  info : (Tryz.prog.info? t).map (fun i => (i.zero, i.size)) = some (some (.agg (vc vz).toArray), 16)
  eqg : Tryz.prog.eqGuardType Tryz.prog.depth t = false
theorem VTy.size {t : TypeId} (h : VTy t) {l : List Int} (hl : l.length = 16) : (Tryz.prog.info? t).map (·.size) = some (vc l).length := by rw [vc_len, hl]; exact (zero_of_info h.info).2
theorem VTy.zero {t : TypeId} (h : VTy t) (w : World) : (zeroValue t).run Tryz.prog w = .ok (.agg (vc vz).toArray) w := (zero_of_info h.info).1 w
end Go.Proofs.YtijfbhdbfplghaaGreat
