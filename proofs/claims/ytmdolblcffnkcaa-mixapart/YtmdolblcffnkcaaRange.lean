/- A range over a function whose body never leaves it, and an iterator's contract that lets the iterator itself range over another one. -/
import Derived.RangeFuncNested
import Derived.RangeFuncBound
import Derived.RangeFuncCalls
import Derived.RangeFuncLeaves
import Derived.Below
namespace Go.Proofs.Ytmdolblcffnkcaa
open Go.RowKit

/-- What is marked by p, and what lies from c on, lies as it lay. -/
structure Stays (p : Nat → Prop) (c : Nat) (W W' : World) : Prop where
  size : W.heap.size ≤ W'.heap.size
  same : ∀ k, k < W.heap.size → (p k ∨ c ≤ k) → W'.heap[k]? = W.heap[k]?
theorem Stays.refl (p : Nat → Prop) (c : Nat) (W : World) : Stays p c W W := ⟨Nat.le_refl _, fun _ _ _ => rfl⟩
theorem Stays.trans {p : Nat → Prop} {c : Nat} {A B C : World} (h : Stays p c A B) (k : Stays p c B C) : Stays p c A C :=
  ⟨Nat.le_trans h.size k.size, fun i hi hp => (k.same i (Nat.lt_of_lt_of_le hi h.size) hp).trans (h.same i hi hp)⟩
theorem Stays.mono {p q : Nat → Prop} {c d : Nat} {A B : World} (h : Stays p c A B) (hq : ∀ k, (q k ∨ d ≤ k) → p k ∨ c ≤ k) : Stays q d A B := ⟨h.size, fun k hk hp => h.same k hk (hq k hp)⟩
theorem Stays.of_below {p : Nat → Prop} {c : Nat} {A B : World} (h : Below A.heap.size A B) : Stays p c A B := ⟨h.size, fun k hk _ => h.block k hk⟩
theorem Stays.cell {p : Nat → Prop} {c : Nat} {A B : World} (h : Stays p c A B) (a : Addr) (hk : a.block < A.heap.size) (hp : p a.block ∨ c ≤ a.block) : B.cell? a = A.cell? a := World.cell?_of_block (h.same _ hk hp)
theorem Stays.putObj {p : Nat → Prop} {c l : Nat} (W : World) (o : Obj) (hp : ¬ p l) (hc : l < c) : Stays p c W (W.putObj l o) :=
  ⟨by simp, fun k _ hk => World.putObj_heap_other (fun e => by subst e; rcases hk with h | h; exact hp h; omega)⟩
theorem Stays.setCell {p : Nat → Prop} {c : Nat} (W : World) (a : Addr) (v : Value) (hp : ¬ p a.block) (hc : a.block < c) : Stays p c W (W.setCell a v) :=
  ⟨(KeepsWalks.setCell W a v).size, fun k _ hk => Below.heap_setCell W a v k (fun e => by subst e; rcases hk with h | h; exact hp h; omega)⟩
theorem Stays.alloc {p : Nat → Prop} {c : Nat} (W : World) (o : Obj) : Stays p c W (W.alloc o) := ⟨by simp, fun k hk _ => Below.heap_alloc W o k hk⟩

theorem yield_any {P : Program} {l : Nat} {args : Array Value} {W : World} {R : Ending → World → Prop} (h : YieldAt Fence.wide 9 P l args W R) (m : Nat) (r : Option Nat) :
    ∃ fn tmps assign body, (Instr.yield l args).run P W = .ok (.round l fn tmps assign body) W ∧ RoundIn { Fence.wide with round := r } m P l fn tmps assign body W R := by
  obtain ⟨fn, tmps, assign, body, hy, h1, h2⟩ := h
  exact ⟨fn, tmps, assign, body, hy, h1, fun c cs _ => h2 c cs (fun _ hd => by cases hd)⟩

/-- The iterator g hands over xs, one behind the other, to whatever round keeps what p marks and what was laid since the call began. -/
def SeqAll {α : Type} (P : Program) (g : Nat) (lb : Array Value) (encs : α → Array Value) (p : Nat → Prop) (xs : List α) (w : World) : Prop :=
  ∀ (l : Nat) (J : List α → World → Prop) (W : World), Below w.heap.size w W → OwnFrom W.heap.size J →
    (∀ pre x rest W1, xs = pre ++ x :: rest → J pre W1 → YieldAt Fence.wide 9 P l (encs x) W1 fun e W' => e = .returned (.bool true) ∧ J (pre ++ [x]) W' ∧ Stays p W.heap.size W1 W') →
    J [] W → Calls P g (#[.func (.yield l) #[] #[]] ++ lb) W fun e W' => (∃ v, e = .returned v) ∧ J xs W'

theorem own_up {β : Type} {B C : Nat} {I : β → World → Prop} (h : OwnFrom B I) (hB : B ≤ C) : OwnFrom C I := fun s W W' row hs hg hr => h s W W' row hs hg (fun r e => ⟨Nat.le_trans hB (hr r e).1, (hr r e).2⟩)
theorem ownFrom_block {β : Type} {k B : Nat} (o : Obj) (hk : k < B) : OwnFrom B (fun (_ : β) W => W.heap[k]? = some o) := fun _ _ _ _ hs hg hr =>
  (hg.block k (Array.getElem?_eq_some_iff.1 hs).1 (fun e => by have := (hr k e.symm).1; omega)).trans hs

/-- The loop: the rounds are walked once. -/
theorem range_all {α : Type} {P : Program} {n : Nat} {g : Operand} {ps : Array Tmp} {assign body : Code} {Q : Exit → Act → World → Prop} {a : Act} {w : World} {gf : Nat} {lb : Array Value}
    (hg : a.eval g = .func (.func gf) #[] lb) (eg : ∀ args w, (callFunc gf args).run P w = .ok (.enter gf args) w)
    {encs : α → Array Value} {p : Nat → Prop} {xs : List α} (hseq : SeqAll P gf lb encs p xs w) (hp : ∀ k, p k → k < w.heap.size) (hps : ∀ x, (encs x).size = ps.size)
    (I : List α → World → Prop) (hI : OwnFrom w.heap.size I) (h0 : I [] w) (Ax : List α → α → Act → World → Prop) (hAx : ∀ pre x a', OwnFrom w.heap.size (fun (_ : Unit) W => Ax pre x a' W))
    (hassign : ∀ (l : Nat) (pre : List α) (x : α) (rest : List α) (W : World) (K : Act → World → Prop), xs = pre ++ x :: rest → I pre W → (∀ a' W', Stays p w.heap.size W W' → Ax pre x a' W' → K a' W') →
      assign.wpIn (Fence.wide.inRound l) 9 P (Exit.then K (fun _ _ _ => False)) { tmps := (ps.zip (encs x)).foldl (fun t (q, v) => t.setIfInBounds q v) a.tmps, defers := [] } W)
    (hbody : ∀ (l : Nat) (pre : List α) (x : α) (rest : List α) (a' : Act) (W : World), xs = pre ++ x :: rest → Ax pre x a' W →
      body.wpIn (Fence.wide.inRound l) 9 P (fun e _ W' => e = .normal ∧ Stays p w.heap.size W W' ∧ I (pre ++ [x]) W') a' W)
    (hdone : ∀ (D : Nat) (W : World), w.heap.size ≤ D → I xs W → W.heap[D]? = some (.deferred (some [])) → Q .normal { a with defers := { target := .collected D, args := #[] } :: a.defers } W) :
    (Code.rangeFunc g ps assign body).wpIn Fence.wide n P Q a w := by
  refine wpIn_rangeFunc fun fn _ => ?_
  obtain ⟨R, hR⟩ : ∃ R : Loop, R = { state := .ready, pending := none, fn, tmps := a.tmps, params := ps, assign, body, defers := w.heap.size } := ⟨_, rfl⟩
  have hst : R.state = .ready := by rw [hR]
  obtain ⟨V, hV⟩ : ∃ V, (w.alloc (.deferred (some []))).alloc (.loop R) = V := ⟨_, rfl⟩
  have hsz : V.heap.size = w.heap.size + 2 := by rw [← hV]; simp
  have hVl : V.heap[w.heap.size + 1]? = some (.loop R) := by
    have h := World.alloc_heap_new (w.alloc (.deferred (some []))) (.loop R)
    rw [hV, World.size_alloc] at h; exact h
  have hVd : V.heap[w.heap.size]? = some (.deferred (some [])) := by
    rw [← hV]; exact (Below.heap_alloc _ _ _ (by simp)).trans (World.alloc_heap_new w _)
  have hVb : Below w.heap.size w V := by rw [← hV]; exact ((Below.refl _ w).alloc (Nat.le_refl _) _).alloc (by simp) _
  have hVI : I [] V := by rw [← hV]; exact hI.alloc _ (hI.alloc _ h0)
  refine ⟨w.heap.size + 1, [{ target := .collected w.heap.size, args := #[] }], V, { target := .fn (.func gf) lb, args := #[.func (.yield (w.heap.size + 1)) #[] #[]] }, V, gf,
    #[.func (.yield (w.heap.size + 1)) #[] #[]] ++ lb, V, ?_, ?_, fun _ _ => trivial, ?_, (fun h => by cases h), ?_⟩
  · rw [← hV, hR]; exact run_enterLoop_outer _ _ _ _ _
  · simp only [resolve, hg]; simp [go_sem]
  · simp [invoke, go_sem, eg]
  have busyD : ∀ (W : World) (o : Obj), W.heap[w.heap.size]? = some (.deferred (some [])) → (W.putObj (w.heap.size + 1) o).heap[w.heap.size]? = some (.deferred (some [])) := fun W o h => (World.putObj_heap_other (by omega)).trans h
  refine callsIn_wide.2 ((hseq (w.heap.size + 1)
    (fun pre W => I pre W ∧ (W.heap[w.heap.size + 1]? = some (.loop R) ∧ W.heap[w.heap.size]? = some (.deferred (some [])))) V hVb
    (OwnFrom.and (own_up hI (by omega)) (OwnFrom.and (ownFrom_block _ (by omega)) (ownFrom_block _ (by omega)))) ?round ⟨hVI, hVl, hVd⟩).mono ?done)
  case done =>
    rintro e W ⟨⟨v, rfl⟩, hi, hl, hd⟩
    refine ⟨none, _, by rw [run_endLoop hl (by rw [hst]; simp), hR], ?_⟩
    exact hdone _ _ (Nat.le_refl _) (hI.putObj _ hi (by omega) hl rfl) (busyD W _ hd)
  case round =>
    rintro pre x rest W hxs ⟨hi, hl, hd⟩
    have hy := run_yield (P := P) (args := encs x) hl (by rw [hR]; exact hps x)
    rw [hR] at hy
    refine ⟨fn, _, assign, body, hy, roundIn_of_wpIn trivial ?_⟩
    refine hassign (w.heap.size + 1) pre x rest W _ hxs hi fun a' W' hs hax => ?_
    have hl' := (hs.same _ (Array.getElem?_eq_some_iff.1 hl).1 (.inr (by omega))).trans hl
    have hd' := (hs.same _ (Array.getElem?_eq_some_iff.1 hd).1 (.inr (Nat.le_refl _))).trans hd
    have hlt := (Array.getElem?_eq_some_iff.1 hl').1
    refine ⟨_, run_beginRound hl' hst, ?_⟩
    have hl2 : (W'.putObj (w.heap.size + 1) (.loop { R with state := .busy })).heap[w.heap.size + 1]? = some (.loop { R with state := .busy }) := World.putObj_heap_same hlt
    refine wpIn_mono (hbody (w.heap.size + 1) pre x rest a' _ hxs ((hAx pre x a').putObj (s := ()) _ hax (by omega) hl' rfl)) ?_
    rintro e a3 W3 ⟨rfl, hs3, hi3⟩
    have hl3 := (hs3.same _ (Array.getElem?_eq_some_iff.1 hl2).1 (.inr (by omega))).trans hl2
    have hd3 := (hs3.same _ (by simp; omega) (.inr (Nat.le_refl _))).trans (busyD W' _ hd')
    have hnp : ¬ p (w.heap.size + 1) := fun h => by have := hp _ h; omega
    refine ⟨_, _, run_endRound none hl3, rfl, ⟨hI.putObj _ hi3 (by omega) hl3 rfl, ?_, busyD W3 _ hd3⟩, ?_⟩
    · rw [World.putObj_heap_same (Array.getElem?_eq_some_iff.1 hl3).1, hR]; rfl
    · have up : ∀ {A B : World}, Stays p w.heap.size A B → Stays p V.heap.size A B := fun h => h.mono (fun k hk => hk.imp id (fun h => by omega))
      exact ((up hs).trans (Stays.putObj W' _ hnp (by omega))).trans ((up hs3).trans (Stays.putObj W3 _ hnp (by omega)))
end Go.Proofs.Ytmdolblcffnkcaa
