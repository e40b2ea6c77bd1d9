/- Laws of plain walks, carried over to the frames of rounds of a range over a function. -/
import Derived.Test.YtihkncnhkljgpaaEqual
import Derived.RangeFuncNested
import Derived.RangeFuncBound
import Derived.RangeFuncCalls
import Derived.RangeFuncLeaves
import Derived.Below
import Derived.OwnWalkIn
import Derived.TacticsInMore
import Derived.LoopNIn
import Derived.LoopIn
namespace Go.Proofs.Ytihkncnhkljgpaa
open Go.RowKit

/-- The fence that lets all in, in a round or not. -/
def Wide (F : Fence) : Prop := F = Fence.wide ∨ ∃ l, F = Fence.wide.inRound l
theorem wide_no : Wide Fence.wide := .inl rfl
theorem wide_in (l : Nat) : Wide (Fence.wide.inRound l) := .inr ⟨l, rfl⟩
theorem calls_in {F : Fence} (hF : Wide F) {n : Nat} {P : Program} {f : FuncId} {args : Array Value} {w : World} {R : Ending → World → Prop} (h : Calls P f args w R) : CallsIn F n P f args w R := by
  rcases hF with rfl | ⟨l, rfl⟩
  · exact callsIn_wide.2 h
  · exact CallsIn.inRound l (callsIn_wide.2 h)
theorem rows_in {F : Fence} (hF : Wide F) {n : Nat} {P : Program} {row : String} {args : Array Value} {w : World} {R : Value → World → Prop} (h : Rows P row args w R) : RowsIn F n P row args w R := by
  have h0 : RowsIn Fence.wide n P row args w R := fun c cs _ => let ⟨v, w', r, s⟩ := h c cs; ⟨v, w', r, stepsIn_wide.2 s⟩
  rcases hF with rfl | ⟨l, rfl⟩
  · exact h0
  · exact h0
theorem wide_fn {F : Fence} (hF : Wide F) (f : FuncId) : F.fn f := by
  rcases hF with rfl | ⟨l, rfl⟩ <;> trivial
theorem wide_depth {F : Fence} (hF : Wide F) : F.depth = none := by
  rcases hF with rfl | ⟨l, rfl⟩ <;> rfl
theorem op_in {F : Fence} (hF : Wide F) {n : Nat} {P : Program} {o : Oper} {a : Act} {w : World} {K K' : Act → World → Prop} {Q Q' : Exit → Act → World → Prop} (hd : ∀ c, o.op ≠ .defer c) (hK : ∀ a w, K a w → K' a w) (hQ : ∀ e a w, e ≠ .normal → Q e a w → Q' e a w) (h : o.wp P a w K Q) : o.wpIn F n P a w K' Q' := by
  refine ⟨fun f _ => wide_fn hF f, ?_⟩
  rw [Oper.semAt_plain F _ _ hd]
  unfold Oper.wp at h
  have hdep : F.depth.isSome = true → 1 ≤ n := fun e => by rw [wide_depth hF] at e; cases e
  revert h
  generalize (execOp a.eval o).run P w = r
  intro h
  match r, h with
  | .ok (.value v) w', h => exact hK _ _ h
  | .ok .skip w', h => exact hK _ _ h
  | .ok (.defer d) w', h => exact hK _ _ h
  | .ok (.enter f args) w', h =>
    refine ⟨hdep, calls_in hF (Calls.mono h ?_)⟩
    intro e w'' he
    cases e with
    | returned v => exact hK _ _ he
    | panicked chain => exact hQ _ _ _ (by simp) he
    | outgrown => obtain ⟨a1, w1, h1⟩ := he; exact ⟨a1, w1, hQ _ _ _ (by simp) h1⟩
  | .ok (.row row args) w', h => exact ⟨hdep, rows_in hF (Rows.mono h (fun v w'' => hK _ _))⟩
  | .halt (.panic v) w', h => exact hQ _ _ _ (by simp) h
/-- A law of a plain walk, as an arm of a fenced one. -/
theorem in_plain {F : Fence} (hF : Wide F) {n : Nat} {P : Program} {ops : Array Oper} {rest : List Oper} {o : Oper} {a : Act} {w : World} {Q : Exit → Act → World → Prop} (hgd : o.guard = none) (hd : ∀ c, o.op ≠ .defer c)
    (h : wpList P ops (fun e a' w' => e = .normal ∧ wpListIn F n P ops Q rest a' w') [o] a w) : wpListIn F n P ops Q (o :: rest) a w := by
  have hw : Region.wanted o (yielded ops a.tmps) = true := by simp [Region.wanted, hgd]
  refine wpListIn_plain hgd fun K hK => ?_
  unfold wpList at h
  rw [if_pos hw] at h
  rcases h with h | ⟨_, a1, w1, h1, _⟩
  · refine op_in hF hd (fun a' w' h' => ?_) (fun e a' w' hn h' => absurd h'.1 hn) h
    unfold wpList at h'; exact hK _ _ h'.2
  · cases h1
theorem any_in {F : Fence} (hF : Wide F) {n : Nat} {P : Program} {md : Region.Mode} {ops : Array Oper} {Q : Exit → Act → World → Prop} (hd : ∀ (i : Nat) (o : Oper), ops[i]? = some o → ∀ c : Call, o.op ≠ Op.defer c) :
    ∀ (fuel : Nat) (listed : Array Bool) (a : Act) (w : World), wpAny P md ops (fun e a' w' => e = .normal ∧ Q .normal a' w') fuel listed a w → wpAnyIn F n P md ops Q fuel listed a w
  | 0, _, _, _, h => ⟨h.1, h.2.2⟩
  | fuel + 1, listed, a, w, h => by
    refine ⟨fun e => (h.1 e).2, fun i hi => ?_⟩
    have h1 := h.2 i hi
    unfold wpOp at h1
    unfold wpOpIn
    cases ho : ops[i]? with
    | none => rw [ho] at h1; exact any_in hF hd fuel _ a w h1
    | some o =>
      rw [ho] at h1
      simp only at h1 ⊢
      split at h1
      · rename_i hw
        rw [if_pos hw]
        rcases h1 with h1 | ⟨_, a1, w1, h2, _⟩
        · exact op_in hF (hd i o ho) (fun a' w' h' => any_in hF hd fuel _ a' w' h') (fun e a' w' hn h' => absurd h'.1 hn) h1
        · cases h2
      · rename_i hw
        rw [if_neg hw]
        exact ⟨fun f _ => wide_fn hF f, any_in hF hd fuel _ _ w h1⟩
/-- A region that draws its order, in a round. -/
theorem region_in {F : Fence} (hF : Wide F) {n : Nat} {P : Program} {id : Nat} {ops : Array Oper} {Q : Exit → Act → World → Prop} {S : World → Prop} {a : Act} {w : World} (hm : P.follows .mixedOrders = true) (hd : ops.all (fun (o : Oper) => match o.op with | Op.defer _ => false | _ => true) = true) (hS : S w.drew)
    (h : S w.drew → wpAnyH P .any ops (fun e a' w' => e = .normal ∧ Q .normal a' w') S ops.size (Array.replicate ops.size false) a w.drew) : (Code.region id ops true).wpIn F n P Q a w := by
  refine wpIn_region_any hm (any_in hF (fun i o ho c e => ?_) _ _ _ _ (wpAny_of_held _ _ _ _ (h hS)))
  rw [Array.all_eq_true] at hd
  obtain ⟨hi, e1⟩ := Array.getElem?_eq_some_iff.1 ho
  have := hd i hi
  rw [e1, e] at this
  cases this

/-! A range over the iterator of a row. -/
abbrev encP (x : Am) : Array Value := #[.agg x.k.cells.toArray, .agg x.v.cells.toArray]
/-- The iterator hands over the atoms of s one behind the other, till one asks no more. -/
def EachSeq (gf : Nat) (lb : Array Value) (N : World → Prop) (s : List Am) : Prop :=
  ∀ (l : Nat) (J : List Am → World → Prop) (X : World → Prop) (W : World), (∀ pre V V', J pre V → Below V.heap.size V V' → J pre V') → (∀ pre V, J pre V → N V) →
    (∀ pre x rest V, s = pre ++ x :: rest → J pre V → YieldAt Fence.wide 9 Try.prog l (encP x) V fun e V' => (e = .returned (.bool true) ∧ J (pre ++ [x]) V') ∨ (e = .returned (.bool false) ∧ X V')) →
    J [] W → Calls Try.prog gf (#[.func (.yield l) #[] #[]] ++ lb) W fun e V' => (∃ v, e = .returned v) ∧ (J s V' ∨ X V')
/-- What the loop's own two blocks hold stays. -/
structure KeepL (B : Nat) (W W' : World) : Prop where
  size : W.heap.size ≤ W'.heap.size
  one : W'.heap[B]? = W.heap[B]?
  two : W'.heap[B + 1]? = W.heap[B + 1]?
theorem KeepL.refl (B : Nat) (W : World) : KeepL B W W := ⟨Nat.le_refl _, rfl, rfl⟩
theorem KeepL.trans {B : Nat} {a b c : World} (h : KeepL B a b) (k : KeepL B b c) : KeepL B a c := ⟨Nat.le_trans h.size k.size, k.one.trans h.one, k.two.trans h.two⟩
theorem KeepL.below {B C : Nat} {a b : World} (h : Below C a b) (hC : B + 1 < C) : KeepL B a b := ⟨h.size, h.block B (by omega), h.block (B + 1) hC⟩
theorem KeepL.only {B g : Nat} {a b : World} (h : Only g a b) (h1 : g ≠ B) (h2 : g ≠ B + 1) (hs : B + 1 < a.heap.size) : KeepL B a b := ⟨h.size, h.block B (by omega) (fun e => h1 e.symm), h.block (B + 1) hs (fun e => h2 e.symm)⟩
theorem range_row {n : Nat} {g : Operand} {ps : Array Tmp} {assign body : Code} {Q : Exit → Act → World → Prop} {a : Act} {w : World} {gf : Nat} {lb : Array Value}
    (hg : a.eval g = .func (.func gf) #[] lb) (eg : ∀ args w, (callFunc gf args).run Try.prog w = .ok (.enter gf args) w) {N : World → Prop} {s : List Am} (hseq : EachSeq gf lb N s) (hps : ps.size = 2)
    (I : List Am → World → Prop) (X : World → Prop) (hIb : ∀ pre W W', I pre W → Below W.heap.size W W' → I pre W') (hIp : ∀ pre W o, I pre W → I pre (W.putObj (w.heap.size + 1) o)) (hXp : ∀ W o, X W → X (W.putObj (w.heap.size + 1) o)) (hIn : ∀ pre W, I pre W → N W) (h0 : I [] w)
    (Ax : List Am → Am → Act → World → Prop) (hAp : ∀ pre x a' W o, Ax pre x a' W → Ax pre x a' (W.putObj (w.heap.size + 1) o))
    (hassign : ∀ (l : Nat) (pre : List Am) (x : Am) (rest : List Am) (W : World) (K : Act → World → Prop), s = pre ++ x :: rest → I pre W → w.heap.size + 1 < W.heap.size → (∀ a' W', KeepL w.heap.size W W' → Ax pre x a' W' → K a' W') →
      assign.wpIn (Fence.wide.inRound l) 9 Try.prog (Exit.then K (fun _ _ _ => False)) { tmps := (ps.zip (encP x)).foldl (fun t (q, v) => t.setIfInBounds q v) a.tmps, defers := [] } W)
    (hbody : ∀ (l : Nat) (pre : List Am) (x : Am) (rest : List Am) (a' : Act) (W : World), s = pre ++ x :: rest → Ax pre x a' W → w.heap.size + 1 < W.heap.size →
      body.wpIn (Fence.wide.inRound l) 9 Try.prog (fun e _ W' => KeepL w.heap.size W W' ∧ ((e = .normal ∧ I (pre ++ [x]) W') ∨ (e = .ret ∧ X W'))) a' W)
    (hdone : ∀ (D : Nat) (W : World), w.heap.size ≤ D → I s W → W.heap[D]? = some (.deferred (some [])) → Q .normal { a with defers := { target := .collected D, args := #[] } :: a.defers } W)
    (hstop : ∀ (D : Nat) (W : World), w.heap.size ≤ D → X W → W.heap[D]? = some (.deferred (some [])) → Code.ret.wpIn Fence.wide n Try.prog Q { a with defers := { target := .collected D, args := #[] } :: a.defers } W) :
    (Code.rangeFunc g ps assign body).wpIn Fence.wide n Try.prog Q a w := by
  refine wpIn_rangeFunc fun fn _ => ?_
  obtain ⟨rc, hR⟩ : ∃ rc : LoopState → Option Code → Loop, rc = fun st pe => { state := st, pending := pe, fn, tmps := a.tmps, params := ps, assign, body, defers := w.heap.size } := ⟨_, rfl⟩
  obtain ⟨V, hV⟩ : ∃ V, (w.alloc (.deferred (some []))).alloc (.loop (rc .ready none)) = V := ⟨_, rfl⟩
  have hVl : V.heap[w.heap.size + 1]? = some (.loop (rc .ready none)) := by
    have h := World.alloc_heap_new (w.alloc (.deferred (some []))) (.loop (rc .ready none))
    rw [hV, World.size_alloc] at h; exact h
  have hVd : V.heap[w.heap.size]? = some (.deferred (some [])) := by
    rw [← hV]; exact (Below.heap_alloc _ _ _ (by simp)).trans (World.alloc_heap_new w _)
  have hVI : I [] V := by rw [← hV]; exact hIb _ _ _ (hIb _ _ _ h0 (new_below w _)) (new_below _ _)
  have busyD : ∀ (W : World) (o : Obj), W.heap[w.heap.size]? = some (.deferred (some [])) → (W.putObj (w.heap.size + 1) o).heap[w.heap.size]? = some (.deferred (some [])) := fun W o h => (World.putObj_heap_other (by omega)).trans h
  refine ⟨w.heap.size + 1, [{ target := .collected w.heap.size, args := #[] }], V, { target := .fn (.func gf) lb, args := #[.func (.yield (w.heap.size + 1)) #[] #[]] }, V, gf,
    #[.func (.yield (w.heap.size + 1)) #[] #[]] ++ lb, V, ?_, ?_, fun _ _ => trivial, ?_, (fun h => by cases h), ?_⟩
  · rw [← hV, hR]; exact run_enterLoop_outer _ _ _ _ _
  · simp only [resolve, hg]; simp [go_sem]
  · simp [invoke, go_sem, eg]
  refine callsIn_wide.2 ((hseq (w.heap.size + 1)
    (fun pre W => I pre W ∧ (W.heap[w.heap.size + 1]? = some (.loop (rc .ready none)) ∧ W.heap[w.heap.size]? = some (.deferred (some []))))
    (fun W => X W ∧ (W.heap[w.heap.size + 1]? = some (.loop (rc .done (some .ret))) ∧ W.heap[w.heap.size]? = some (.deferred (some [])))) V
    (fun pre A B h hb => ⟨hIb _ _ _ h.1 hb, (hb.block _ (Array.getElem?_eq_some_iff.1 h.2.1).1).trans h.2.1, (hb.block _ (Array.getElem?_eq_some_iff.1 h.2.2).1).trans h.2.2⟩)
    (fun pre A h => hIn _ _ h.1) ?round ⟨hVI, hVl, hVd⟩).mono ?done)
  case done =>
    rintro e W ⟨⟨v, rfl⟩, (⟨hi, hl, hd⟩ | ⟨hx, hl, hd⟩)⟩
    · refine ⟨none, _, by have := run_endLoop (P := Try.prog) hl (by rw [hR]; simp); rw [hR] at this; exact this, ?_⟩
      exact hdone _ _ (Nat.le_refl _) (hIp _ _ _ hi) (busyD W _ hd)
    · refine ⟨some .ret, _, by have := run_endLoop (P := Try.prog) hl (by rw [hR]; simp); rw [hR] at this; exact this, ?_⟩
      exact hstop _ _ (Nat.le_refl _) (hXp _ _ hx) (busyD W _ hd)
  case round =>
    rintro pre x rest W hxs ⟨hi, hl, hd⟩
    have hy := run_yield (P := Try.prog) (args := encP x) hl (by rw [hR]; exact hps.symm)
    rw [hR] at hy
    refine ⟨fn, _, assign, body, hy, roundIn_of_wpIn trivial ?_⟩
    have hlt0 := (Array.getElem?_eq_some_iff.1 hl).1
    refine hassign (w.heap.size + 1) pre x rest W _ hxs hi hlt0 fun a' W' hs hax => ?_
    have hl' := hs.two.trans hl
    have hd' := hs.one.trans hd
    have hlt := (Array.getElem?_eq_some_iff.1 hl').1
    refine ⟨_, run_beginRound hl' (by rw [hR]), ?_⟩
    have hl2 : (W'.putObj (w.heap.size + 1) (.loop { rc .ready none with state := .busy })).heap[w.heap.size + 1]? = some (.loop { rc .ready none with state := .busy }) := World.putObj_heap_same hlt
    refine wpIn_mono (hbody (w.heap.size + 1) pre x rest a' _ hxs (hAp _ _ _ _ _ hax) (by simpa using hlt)) ?_
    rintro e a3 W3 ⟨hk3, hp⟩
    have hl3 := hk3.two.trans hl2
    have hd3 := hk3.one.trans (busyD W' _ hd')
    rcases hp with ⟨rfl, hi3⟩ | ⟨rfl, hx3⟩
    · refine ⟨_, _, run_endRound none hl3, .inl ⟨rfl, hIp _ _ _ hi3, ?_, busyD W3 _ hd3⟩⟩
      rw [World.putObj_heap_same (Array.getElem?_eq_some_iff.1 hl3).1, hR]; rfl
    · refine ⟨_, _, run_endRound (some .ret) hl3, .inr ⟨rfl, hXp _ _ hx3, ?_, busyD W3 _ hd3⟩⟩
      rw [World.putObj_heap_same (Array.getElem?_eq_some_iff.1 hl3).1, hR]; rfl
end Go.Proofs.Ytihkncnhkljgpaa
