/- Ranges over iterators that hand over any values and may hold memory of their own between the rounds. Ranges over iterators that hand over any values and may hold memory of their own between the rounds. Rows of keys and of names: what they hold, rows of one's own; the contracts of AppendSeq and Collect of slices at keys. -/
import Derived.Test.YtgggjhbijnndhaaGRows
import Derived.Test.YtgggjhbijnndhaaMathV
namespace Go.Proofs.Ytgggjhbijnndhaa
open Go.RowKit Go.Shelf
attribute [local go_sem] Oper.semAt_some

/-- The iterator hands over one value behind the other, each as Nx allows, till one asks no more; what it was to hand over, Fin says. Its own memory lies from its start up to B: the rounds leave it alone, and stand what it does there. -/
def SeqGen {α : Type} (gf : Nat) (lb : Array Value) (N : World → Prop) (enc : α → Array Value) (Nx : List α → α → Prop) (Fin : List α → Prop) : Prop :=
  ∀ (l : Nat) (J : Nat → List α → World → Prop) (X : World → Prop) (W : World),
    (∀ B pre V V', J B pre V → Below V.heap.size V V' → J B pre V') → (∀ B pre V V' g, J B pre V → Only g V V' → W.heap.size ≤ g → g < B → J B pre V') → (∀ B pre V, J B pre V → N V) → (∀ V V' g, X V → Only g V V' → W.heap.size ≤ g → X V') →
    (∀ B pre x V, Nx pre x → J B pre V → W.heap.size ≤ B → B ≤ V.heap.size → YieldAt Fence.wide 9 Try.prog l (enc x) V fun e V' => V.heap.size ≤ V'.heap.size ∧ (∀ k, W.heap.size ≤ k → k < B → V'.heap[k]? = V.heap[k]?) ∧ ((e = .returned (.bool true) ∧ J B (pre ++ [x]) V') ∨ (e = .returned (.bool false) ∧ X V'))) →
    N W → (∀ B V, W.heap.size ≤ B → B ≤ V.heap.size → Below W.heap.size W V → J B [] V) → Calls Try.prog gf (#[.func (.yield l) #[] #[]] ++ lb) W fun e V' => (∃ v, e = .returned v) ∧ ((∃ s B, Fin s ∧ J B s V') ∨ X V')
theorem range_gen {α : Type} {n : Nat} {g : Operand} {ps : Array Tmp} {assign body : Code} {Q : Exit → Act → World → Prop} {a : Act} {w : World} {gf : Nat} {lb : Array Value} {enc : α → Array Value} {Nx : List α → α → Prop} {Fin : List α → Prop}
    (hg : a.eval g = .func (.func gf) #[] lb) (eg : ∀ args w, (callFunc gf args).run Try.prog w = .ok (.enter gf args) w) {N : World → Prop} (hseq : SeqGen gf lb N enc Nx Fin) (hps : ∀ x, ps.size = (enc x).size)
    (I : Nat → List α → World → Prop) (X : World → Prop) (hIb : ∀ B pre W W', I B pre W → Below W.heap.size W W' → I B pre W') (hIo : ∀ B pre W W' h, I B pre W → Only h W W' → w.heap.size + 2 ≤ h → h < B → I B pre W') (hIp : ∀ B pre W o, w.heap.size + 2 ≤ B → I B pre W → I B pre (W.putObj (w.heap.size + 1) o)) (hXp : ∀ W o, X W → X (W.putObj (w.heap.size + 1) o)) (hXo : ∀ W W' h, X W → Only h W W' → w.heap.size + 2 ≤ h → X W') (hIn : ∀ B pre W, I B pre W → N W) (hN0 : ∀ W, Below w.heap.size w W → N W)
    (h0 : ∀ B V, w.heap.size + 2 ≤ B → B ≤ V.heap.size → Below w.heap.size w V → I B [] V)
    (Ax : Nat → List α → α → Act → World → Prop) (hAp : ∀ B pre x a' W o, w.heap.size + 2 ≤ B → Ax B pre x a' W → Ax B pre x a' (W.putObj (w.heap.size + 1) o))
    (hassign : ∀ (l B : Nat) (pre : List α) (x : α) (W : World) (K : Act → World → Prop), Nx pre x → I B pre W → w.heap.size + 2 ≤ B → B ≤ W.heap.size → w.heap.size + 1 < W.heap.size → (∀ a' W', Below W.heap.size W W' → Ax B pre x a' W' → K a' W') →
      assign.wpIn (Fence.wide.inRound l) 9 Try.prog (Exit.then K (fun _ _ _ => False)) { tmps := (ps.zip (enc x)).foldl (fun t (q, v) => t.setIfInBounds q v) a.tmps, defers := [] } W)
    (hbody : ∀ (l B : Nat) (pre : List α) (x : α) (a' : Act) (W : World), Nx pre x → Ax B pre x a' W → w.heap.size + 2 ≤ B → B ≤ W.heap.size → w.heap.size + 1 < W.heap.size →
      body.wpIn (Fence.wide.inRound l) 9 Try.prog (fun e _ W' => KeepL w.heap.size W W' ∧ (∀ k, w.heap.size + 2 ≤ k → k < B → W'.heap[k]? = W.heap[k]?) ∧ ((e = .normal ∧ I B (pre ++ [x]) W') ∨ (e = .ret ∧ X W'))) a' W)
    (hdone : ∀ (D B : Nat) (s : List α) (W : World), w.heap.size ≤ D → D < w.heap.size + 2 → w.heap.size + 2 ≤ B → Fin s → I B s W → W.heap[D]? = some (.deferred (some [])) → Q .normal { a with defers := { target := .collected D, args := #[] } :: a.defers } W)
    (hstop : ∀ (D : Nat) (W : World), w.heap.size ≤ D → X W → W.heap[D]? = some (.deferred (some [])) → Code.ret.wpIn Fence.wide n Try.prog Q { a with defers := { target := .collected D, args := #[] } :: a.defers } W) :
    (Code.rangeFunc g ps assign body).wpIn Fence.wide n Try.prog Q a w := by
  refine wpIn_rangeFunc fun fn _ => ?_
  obtain ⟨rc, hR⟩ : ∃ rc : LoopState → Option Code → Loop, rc = fun st pe => { state := st, pending := pe, fn, tmps := a.tmps, params := ps, assign, body, defers := w.heap.size } := ⟨_, rfl⟩
  obtain ⟨V, hV⟩ : ∃ V, (w.alloc (.deferred (some []))).alloc (.loop (rc .ready none)) = V := ⟨_, rfl⟩
  have hVl : V.heap[w.heap.size + 1]? = some (.loop (rc .ready none)) := by
    have h := World.alloc_heap_new (w.alloc (.deferred (some []))) (.loop (rc .ready none))
    rw [hV, World.size_alloc] at h; exact h
  have hVd : V.heap[w.heap.size]? = some (.deferred (some [])) := by
    rw [← hV]; exact (Below.heap_alloc _ _ _ (by simp)).trans (World.alloc_heap_new w _)
  have hVs : V.heap.size = w.heap.size + 2 := by rw [← hV]; simp
  have hVb : Below w.heap.size w V := by rw [← hV]; exact step_ (new_below w _) (new_below _ _)
  have busyD : ∀ (W : World) (o : Obj), W.heap[w.heap.size]? = some (.deferred (some [])) → (W.putObj (w.heap.size + 1) o).heap[w.heap.size]? = some (.deferred (some [])) := fun W o h => (World.putObj_heap_other (by omega)).trans h
  refine ⟨w.heap.size + 1, [{ target := .collected w.heap.size, args := #[] }], V, { target := .fn (.func gf) lb, args := #[.func (.yield (w.heap.size + 1)) #[] #[]] }, V, gf,
    #[.func (.yield (w.heap.size + 1)) #[] #[]] ++ lb, V, ?_, ?_, fun _ _ => trivial, ?_, (fun h => by cases h), ?_⟩
  · rw [← hV, hR]; exact run_enterLoop_outer _ _ _ _ _
  · simp only [resolve, hg]; simp [go_sem]
  · simp [invoke, go_sem, eg]
  refine callsIn_wide.2 ((hseq (w.heap.size + 1)
    (fun B pre W => w.heap.size + 2 ≤ B ∧ I B pre W ∧ (W.heap[w.heap.size + 1]? = some (.loop (rc .ready none)) ∧ W.heap[w.heap.size]? = some (.deferred (some []))))
    (fun W => X W ∧ (W.heap[w.heap.size + 1]? = some (.loop (rc .done (some .ret))) ∧ W.heap[w.heap.size]? = some (.deferred (some [])))) V
    (fun B pre A C h hb => ⟨h.1, hIb _ _ _ _ h.2.1 hb, (hb.block _ (Array.getElem?_eq_some_iff.1 h.2.2.1).1).trans h.2.2.1, (hb.block _ (Array.getElem?_eq_some_iff.1 h.2.2.2).1).trans h.2.2.2⟩)
    (fun B pre A C h hi ho h1 h2 => ⟨hi.1, hIo _ _ _ _ _ hi.2.1 ho (by omega) h2, (ho.block _ (Array.getElem?_eq_some_iff.1 hi.2.2.1).1 (by omega)).trans hi.2.2.1, (ho.block _ (Array.getElem?_eq_some_iff.1 hi.2.2.2).1 (by omega)).trans hi.2.2.2⟩)
    (fun B pre A h => hIn _ _ _ h.2.1) (fun A C h hx ho h1 => ⟨hXo _ _ _ hx.1 ho (by omega), (ho.block _ (Array.getElem?_eq_some_iff.1 hx.2.1).1 (by omega)).trans hx.2.1, (ho.block _ (Array.getElem?_eq_some_iff.1 hx.2.2).1 (by omega)).trans hx.2.2⟩) ?round (hN0 _ hVb) (fun B V' h1 h2 hb => ⟨by omega, h0 _ _ (by omega) h2 (hVb.trans (hb.mono (by omega))), (hb.block _ (by omega)).trans hVl, (hb.block _ (by omega)).trans hVd⟩)).mono ?done)
  case done =>
    rintro e W ⟨⟨v, rfl⟩, (⟨s, B, hf, hB, hi, hl, hd⟩ | ⟨hx, hl, hd⟩)⟩
    · refine ⟨none, _, by have := run_endLoop (P := Try.prog) hl (by rw [hR]; simp); rw [hR] at this; exact this, ?_⟩
      exact hdone _ _ _ _ (Nat.le_refl _) (by omega) hB hf (hIp _ _ _ _ hB hi) (busyD W _ hd)
    · refine ⟨some .ret, _, by have := run_endLoop (P := Try.prog) hl (by rw [hR]; simp); rw [hR] at this; exact this, ?_⟩
      exact hstop _ _ (Nat.le_refl _) (hXp _ _ hx) (busyD W _ hd)
  case round =>
    rintro B pre x W hnx ⟨hB, hi, hl, hd⟩ hB1 hB2
    have hy := run_yield (P := Try.prog) (args := enc x) hl (by rw [hR]; exact (hps x).symm)
    rw [hR] at hy
    refine ⟨fn, _, assign, body, hy, roundIn_of_wpIn trivial ?_⟩
    have hlt0 := (Array.getElem?_eq_some_iff.1 hl).1
    refine hassign (w.heap.size + 1) B pre x W _ hnx hi hB hB2 hlt0 fun a' W' hs hax => ?_
    have hl' := (hs.block _ hlt0).trans hl
    have hd' := (hs.block _ (Array.getElem?_eq_some_iff.1 hd).1).trans hd
    have hlt := (Array.getElem?_eq_some_iff.1 hl').1
    refine ⟨_, run_beginRound hl' (by rw [hR]), ?_⟩
    have hl2 : (W'.putObj (w.heap.size + 1) (.loop { rc .ready none with state := .busy })).heap[w.heap.size + 1]? = some (.loop { rc .ready none with state := .busy }) := World.putObj_heap_same hlt
    have hsz' := hs.size
    refine wpIn_mono (hbody (w.heap.size + 1) B pre x a' _ hnx (hAp _ _ _ _ _ _ hB hax) hB (by simp; omega) (by simpa using hlt)) ?_
    rintro e a3 W3 ⟨hk3, hkb, hp⟩
    have hl3 := hk3.two.trans hl2
    have hd3 := hk3.one.trans (busyD W' _ hd')
    have hsz3 : W.heap.size ≤ W3.heap.size := by have h1 := hk3.size; simp at h1; omega
    have hkeep : ∀ (o : Obj) (k : Nat), V.heap.size ≤ k → k < B → (W3.putObj (w.heap.size + 1) o).heap[k]? = W.heap[k]? := fun o k h1 h2 => by
      rw [World.putObj_heap_other (by omega), hkb k (by omega) h2, World.putObj_heap_other (by omega)]
      exact hs.block k (by omega)
    rcases hp with ⟨rfl, hi3⟩ | ⟨rfl, hx3⟩
    · refine ⟨_, _, run_endRound none hl3, by simp; omega, hkeep _, .inl ⟨rfl, hB, hIp _ _ _ _ hB hi3, ?_, busyD W3 _ hd3⟩⟩
      rw [World.putObj_heap_same (Array.getElem?_eq_some_iff.1 hl3).1, hR]; rfl
    · refine ⟨_, _, run_endRound (some .ret) hl3, by simp; omega, hkeep _, .inr ⟨rfl, hXp _ _ hx3, ?_, busyD W3 _ hd3⟩⟩
      rw [World.putObj_heap_same (Array.getElem?_eq_some_iff.1 hl3).1, hR]; rfl
end Go.Proofs.Ytgggjhbijnndhaa
namespace Go.Proofs.Ytgggjhbijnndhaa
open Go.RowKit Go.Shelf
attribute [local go_sem] Oper.semAt_some

end Go.Proofs.Ytgggjhbijnndhaa
namespace Go.Proofs.Ytgggjhbijnndhaa
open Go.RowKit Go.Shelf
attribute [local go_sem] Oper.semAt_some

end Go.Proofs.Ytgggjhbijnndhaa
namespace Go.Proofs.Ytgggjhbijnndhaa
open Go.RowKit Go.Shelf
attribute [local go_sem] Oper.semAt_some

end Go.Proofs.Ytgggjhbijnndhaa
namespace Go.Proofs.Ytgggjhbijnndhaa
open Go.RowKit Go.Shelf
attribute [local go_sem] Oper.semAt_some

end Go.Proofs.Ytgggjhbijnndhaa
namespace Go.Proofs.Ytgggjhbijnndhaa
open Go.RowKit Go.Shelf
attribute [local go_sem] Oper.semAt_some

end Go.Proofs.Ytgggjhbijnndhaa
namespace Go.Proofs.Ytgggjhbijnndhaa
open Go.RowKit Go.Shelf
attribute [local go_sem] Oper.semAt_some

theorem kcells_ones (k : Ky) : ∀ u ∈ k.cells, u.oneCell' = true := all_list (one27 k)
theorem fillKv (c0 c1 c2 c3 c4 c5 c6 c7 c8 c9 c10 c11 : Value) : Instr.fill (fun i => some (i * 12, 12)) ((Array.range (1 * 12)).map (kzero.cells.toArray[· % kzero.cells.toArray.size]!)) [(0, .agg #[c0, c1, c2, c3, c4, c5, c6, c7, c8, c9, c10, c11])] = some #[c0, c1, c2, c3, c4, c5, c6, c7, c8, c9, c10, c11] := by kernel_rfl
theorem fillK (cs : List Value) (h : cs.length = 12) : Instr.fill (fun i => some (i * 12, 12)) ((Array.range (1 * 12)).map (kzero.cells.toArray[· % kzero.cells.toArray.size]!)) [(0, .agg cs.toArray)] = some cs.toArray := by
  match cs, h with
  | [c0, c1, c2, c3, c4, c5, c6, c7, c8, c9, c10, c11], _ => exact fillKv c0 c1 c2 c3 c4 c5 c6 c7 c8 c9 c10 c11
def nmL (l : List Int) : List Value := l.map (Value.int .u8)
theorem nmL_nm (l : List Int) : (nmL l).toArray = nm l := rfl
theorem nmL_ones (l : List Int) : ∀ u ∈ nmL l, u.oneCell' = true := fun u hu => by
  obtain ⟨j, _, rfl⟩ := List.mem_map.1 hu
  rfl
theorem fillNv (c0 c1 c2 c3 c4 c5 c6 c7 : Value) : Instr.fill (fun i => some (i * 8, 8)) ((Array.range (1 * 8)).map ((nmL M.zero8).toArray[· % (nmL M.zero8).toArray.size]!)) [(0, .agg #[c0, c1, c2, c3, c4, c5, c6, c7])] = some #[c0, c1, c2, c3, c4, c5, c6, c7] := by kernel_rfl
theorem fillN (cs : List Value) (h : cs.length = 8) : Instr.fill (fun i => some (i * 8, 8)) ((Array.range (1 * 8)).map ((nmL M.zero8).toArray[· % (nmL M.zero8).toArray.size]!)) [(0, .agg cs.toArray)] = some cs.toArray := by
  match cs, h with
  | [c0, c1, c2, c3, c4, c5, c6, c7], _ => exact fillNv c0 c1 c2 c3 c4 c5 c6 c7
theorem zero8_nok : NOk M.zero8 := ⟨rfl, zero8_bytes⟩
abbrev encK (x : Ky) : Array Value := #[.agg x.cells.toArray]
end Go.Proofs.Ytgggjhbijnndhaa
