/- Ranges over iterators that hand over any values and may hold memory of their own between the rounds. Rows of keys and of names: what they hold, rows of one's own; the contracts of AppendSeq and Collect of slices at keys. -/
import Derived.Test.YtdigbipfchgjmaaGreatGRows
import Derived.Test.YtdigbipfchgjmaaGreatMathV
namespace Go.Proofs.YtdigbipfchgjmaaGreat
open Go.RowKit Go.Shelf
attribute [local go_sem] Oper.semAt_some

/-- The iterator hands over one value behind the other, each as Nx allows, till one asks no more; what it was to hand over, Fin says. Its own memory lies from its start up to B: the rounds leave it alone, and stand what it does there. -/
def SeqGen {α : Type} (gf : Nat) (lb : Array Value) (N : World → Prop) (enc : α → Array Value) (Nx : List α → α → Prop) (Fin : List α → Prop) : Prop :=
  ∀ (l : Nat) (J : Nat → List α → World → Prop) (X : World → Prop) (W : World),
    (∀ B pre V V', J B pre V → Below V.heap.size V V' → J B pre V') → (∀ B pre V V' g, J B pre V → Only g V V' → W.heap.size ≤ g → g < B → J B pre V') → (∀ B pre V, J B pre V → N V) → (∀ V V' g, X V → Only g V V' → W.heap.size ≤ g → X V') →
    (∀ B pre x V, Nx pre x → J B pre V → W.heap.size ≤ B → B ≤ V.heap.size → YieldAt Fence.wide 9 Tryz.prog l (enc x) V fun e V' => V.heap.size ≤ V'.heap.size ∧ (∀ k, W.heap.size ≤ k → k < B → V'.heap[k]? = V.heap[k]?) ∧ ((e = .returned (.bool true) ∧ J B (pre ++ [x]) V') ∨ (e = .returned (.bool false) ∧ X V'))) →
    N W → (∀ B V, W.heap.size ≤ B → B ≤ V.heap.size → Below W.heap.size W V → J B [] V) → Calls Tryz.prog gf (#[.func (.yield l) #[] #[]] ++ lb) W fun e V' => (∃ v, e = .returned v) ∧ ((∃ s B, Fin s ∧ J B s V') ∨ X V')
theorem range_gen {α : Type} {n : Nat} {g : Operand} {ps : Array Tmp} {assign body : Code} {Q : Exit → Act → World → Prop} {a : Act} {w : World} {gf : Nat} {lb : Array Value} {enc : α → Array Value} {Nx : List α → α → Prop} {Fin : List α → Prop}
    (hg : a.eval g = .func (.func gf) #[] lb) (eg : ∀ args w, (callFunc gf args).run Tryz.prog w = .ok (.enter gf args) w) {N : World → Prop} (hseq : SeqGen gf lb N enc Nx Fin) (hps : ∀ x, ps.size = (enc x).size)
    (I : Nat → List α → World → Prop) (X : World → Prop) (hIb : ∀ B pre W W', I B pre W → Below W.heap.size W W' → I B pre W') (hIo : ∀ B pre W W' h, I B pre W → Only h W W' → w.heap.size + 2 ≤ h → h < B → I B pre W') (hIp : ∀ B pre W o, w.heap.size + 2 ≤ B → I B pre W → I B pre (W.putObj (w.heap.size + 1) o)) (hXp : ∀ W o, X W → X (W.putObj (w.heap.size + 1) o)) (hXo : ∀ W W' h, X W → Only h W W' → w.heap.size + 2 ≤ h → X W') (hIn : ∀ B pre W, I B pre W → N W) (hN0 : ∀ W, Below w.heap.size w W → N W)
    (h0 : ∀ B V, w.heap.size + 2 ≤ B → B ≤ V.heap.size → Below w.heap.size w V → I B [] V)
    (Ax : Nat → List α → α → Act → World → Prop) (hAp : ∀ B pre x a' W o, w.heap.size + 2 ≤ B → Ax B pre x a' W → Ax B pre x a' (W.putObj (w.heap.size + 1) o))
    (hassign : ∀ (l B : Nat) (pre : List α) (x : α) (W : World) (K : Act → World → Prop), Nx pre x → I B pre W → w.heap.size + 2 ≤ B → B ≤ W.heap.size → w.heap.size + 1 < W.heap.size → (∀ a' W', Below W.heap.size W W' → Ax B pre x a' W' → K a' W') →
      assign.wpIn (Fence.wide.inRound l) 9 Tryz.prog (Exit.then K (fun _ _ _ => False)) { tmps := (ps.zip (enc x)).foldl (fun t (q, v) => t.setIfInBounds q v) a.tmps, defers := [] } W)
    (hbody : ∀ (l B : Nat) (pre : List α) (x : α) (a' : Act) (W : World), Nx pre x → Ax B pre x a' W → w.heap.size + 2 ≤ B → B ≤ W.heap.size → w.heap.size + 1 < W.heap.size →
      body.wpIn (Fence.wide.inRound l) 9 Tryz.prog (fun e _ W' => KeepL w.heap.size W W' ∧ (∀ k, w.heap.size + 2 ≤ k → k < B → W'.heap[k]? = W.heap[k]?) ∧ ((e = .normal ∧ I B (pre ++ [x]) W') ∨ (e = .ret ∧ X W'))) a' W)
    (hdone : ∀ (D B : Nat) (s : List α) (W : World), w.heap.size ≤ D → D < w.heap.size + 2 → w.heap.size + 2 ≤ B → Fin s → I B s W → W.heap[D]? = some (.deferred (some [])) → Q .normal { a with defers := { target := .collected D, args := #[] } :: a.defers } W)
    (hstop : ∀ (D : Nat) (W : World), w.heap.size ≤ D → X W → W.heap[D]? = some (.deferred (some [])) → Code.ret.wpIn Fence.wide n Tryz.prog Q { a with defers := { target := .collected D, args := #[] } :: a.defers } W) :
    (Code.rangeFunc g ps assign body).wpIn Fence.wide n Tryz.prog Q a w := by
  refine wpIn_rangeFunc fun fn _ => ?_
  obtain ⟨rc, hR⟩ : ∃ rc : LoopState → Option Code → Loop, rc = fun st pe => { state := st, pending := pe, fn, tmps := a.tmps, params := ps, assign, body, defers := w.heap.size } := ⟨_, rfl⟩
  obtain ⟨V, hV⟩ : ∃ V, (w.alloc (.deferred (some []))).alloc (.loop (rc .ready none)) = V := ⟨_, rfl⟩
  have hVl : V.heap[w.heap.size + 1]? = some (.loop (rc .ready none)) := by
    have h := World.alloc_heap_new (w.alloc (.deferred (some []))) (.loop (rc .ready none))
    rw [hV, World.size_alloc] at h; exact h
  have hVd : V.heap[w.heap.size]? = some (.deferred (some [])) := by
    rw [← hV]; exact (Below.heap_alloc _ _ _ (by simp)).trans (World.alloc_heap_new w _)
  have hVs : V.heap.size = w.heap.size + 2 := by rw [← hV]; simp
  have hVb : Below w.heap.size w V := by rw [← hV]; exact step_ (new_below w _) (new_below _ _)
  have busyD : ∀ (W : World) (o : Obj), W.heap[w.heap.size]? = some (.deferred (some [])) → (W.putObj (w.heap.size + 1) o).heap[w.heap.size]? = some (.deferred (some [])) := fun W o h => (World.putObj_heap_other (by omega)).trans h
  refine ⟨w.heap.size + 1, [{ target := .collected w.heap.size, args := #[] }], V, { target := .fn (.func gf) lb, args := #[.func (.yield (w.heap.size + 1)) #[] #[]] }, V, gf,
    #[.func (.yield (w.heap.size + 1)) #[] #[]] ++ lb, V, ?_, ?_, fun _ _ => trivial, ?_, (fun h => by cases h), ?_⟩
  · rw [← hV, hR]; exact run_enterLoop_outer _ _ _ _ _
  · simp only [resolve, hg]; simp [go_sem]
  · simp [invoke, go_sem, eg]
  refine callsIn_wide.2 ((hseq (w.heap.size + 1)
    (fun B pre W => w.heap.size + 2 ≤ B ∧ I B pre W ∧ (W.heap[w.heap.size + 1]? = some (.loop (rc .ready none)) ∧ W.heap[w.heap.size]? = some (.deferred (some []))))
    (fun W => X W ∧ (W.heap[w.heap.size + 1]? = some (.loop (rc .done (some .ret))) ∧ W.heap[w.heap.size]? = some (.deferred (some [])))) V
    (fun B pre A C h hb => ⟨h.1, hIb _ _ _ _ h.2.1 hb, (hb.block _ (Array.getElem?_eq_some_iff.1 h.2.2.1).1).trans h.2.2.1, (hb.block _ (Array.getElem?_eq_some_iff.1 h.2.2.2).1).trans h.2.2.2⟩)
    (fun B pre A C h hi ho h1 h2 => ⟨hi.1, hIo _ _ _ _ _ hi.2.1 ho (by omega) h2, (ho.block _ (Array.getElem?_eq_some_iff.1 hi.2.2.1).1 (by omega)).trans hi.2.2.1, (ho.block _ (Array.getElem?_eq_some_iff.1 hi.2.2.2).1 (by omega)).trans hi.2.2.2⟩)
    (fun B pre A h => hIn _ _ _ h.2.1) (fun A C h hx ho h1 => ⟨hXo _ _ _ hx.1 ho (by omega), (ho.block _ (Array.getElem?_eq_some_iff.1 hx.2.1).1 (by omega)).trans hx.2.1, (ho.block _ (Array.getElem?_eq_some_iff.1 hx.2.2).1 (by omega)).trans hx.2.2⟩) ?round (hN0 _ hVb) (fun B V' h1 h2 hb => ⟨by omega, h0 _ _ (by omega) h2 (hVb.trans (hb.mono (by omega))), (hb.block _ (by omega)).trans hVl, (hb.block _ (by omega)).trans hVd⟩)).mono ?done)
  case done =>
    rintro e W ⟨⟨v, rfl⟩, (⟨s, B, hf, hB, hi, hl, hd⟩ | ⟨hx, hl, hd⟩)⟩
    · refine ⟨none, _, by have := run_endLoop (P := Tryz.prog) hl (by rw [hR]; simp); rw [hR] at this; exact this, ?_⟩
      exact hdone _ _ _ _ (Nat.le_refl _) (by omega) hB hf (hIp _ _ _ _ hB hi) (busyD W _ hd)
    · refine ⟨some .ret, _, by have := run_endLoop (P := Tryz.prog) hl (by rw [hR]; simp); rw [hR] at this; exact this, ?_⟩
      exact hstop _ _ (Nat.le_refl _) (hXp _ _ hx) (busyD W _ hd)
  case round =>
    rintro B pre x W hnx ⟨hB, hi, hl, hd⟩ hB1 hB2
    have hy := run_yield (P := Tryz.prog) (args := enc x) hl (by rw [hR]; exact (hps x).symm)
    rw [hR] at hy
    refine ⟨fn, _, assign, body, hy, roundIn_of_wpIn trivial ?_⟩
    have hlt0 := (Array.getElem?_eq_some_iff.1 hl).1
    refine hassign (w.heap.size + 1) B pre x W _ hnx hi hB hB2 hlt0 fun a' W' hs hax => ?_
    have hl' := (hs.block _ hlt0).trans hl
    have hd' := (hs.block _ (Array.getElem?_eq_some_iff.1 hd).1).trans hd
    have hlt := (Array.getElem?_eq_some_iff.1 hl').1
    refine ⟨_, run_beginRound hl' (by rw [hR]), ?_⟩
    have hl2 : (W'.putObj (w.heap.size + 1) (.loop { rc .ready none with state := .busy })).heap[w.heap.size + 1]? = some (.loop { rc .ready none with state := .busy }) := World.putObj_heap_same hlt
    have hsz' := hs.size
    refine wpIn_mono (hbody (w.heap.size + 1) B pre x a' _ hnx (hAp _ _ _ _ _ _ hB hax) hB (by simp; omega) (by simpa using hlt)) ?_
    rintro e a3 W3 ⟨hk3, hkb, hp⟩
    have hl3 := hk3.two.trans hl2
    have hd3 := hk3.one.trans (busyD W' _ hd')
    have hsz3 : W.heap.size ≤ W3.heap.size := by have h1 := hk3.size; simp at h1; omega
    have hkeep : ∀ (o : Obj) (k : Nat), V.heap.size ≤ k → k < B → (W3.putObj (w.heap.size + 1) o).heap[k]? = W.heap[k]? := fun o k h1 h2 => by
      rw [World.putObj_heap_other (by omega), hkb k (by omega) h2, World.putObj_heap_other (by omega)]
      exact hs.block k (by omega)
    rcases hp with ⟨rfl, hi3⟩ | ⟨rfl, hx3⟩
    · refine ⟨_, _, run_endRound none hl3, by simp; omega, hkeep _, .inl ⟨rfl, hB, hIp _ _ _ _ hB hi3, ?_, busyD W3 _ hd3⟩⟩
      rw [World.putObj_heap_same (Array.getElem?_eq_some_iff.1 hl3).1, hR]; rfl
    · refine ⟨_, _, run_endRound (some .ret) hl3, by simp; omega, hkeep _, .inr ⟨rfl, hXp _ _ hx3, ?_, busyD W3 _ hd3⟩⟩
      rw [World.putObj_heap_same (Array.getElem?_eq_some_iff.1 hl3).1, hR]; rfl
end Go.Proofs.YtdigbipfchgjmaaGreat
namespace Go.Proofs.YtdigbipfchgjmaaGreat
open Go.RowKit Go.Shelf
attribute [local go_sem] Oper.semAt_some

end Go.Proofs.YtdigbipfchgjmaaGreat
namespace Go.Proofs.YtdigbipfchgjmaaGreat
open Go.RowKit Go.Shelf
attribute [local go_sem] Oper.semAt_some

end Go.Proofs.YtdigbipfchgjmaaGreat
namespace Go.Proofs.YtdigbipfchgjmaaGreat
open Go.RowKit Go.Shelf
attribute [local go_sem] Oper.semAt_some

theorem kcells_ones (k : Ky) : ∀ u ∈ k.cells, u.oneCell' = true := all_list (one27 k)
def EK : ElT Ky := ⟨Ky.cells, Ky.Ok, 48, 29, 12, 20, kzero⟩
theorem fillKv (c0 c1 c2 c3 c4 c5 c6 c7 c8 c9 c10 c11 : Value) : Instr.fill (fun i => some (i * 12, 12)) ((Array.range (1 * 12)).map (kzero.cells.toArray[· % kzero.cells.toArray.size]!)) [(0, .agg #[c0, c1, c2, c3, c4, c5, c6, c7, c8, c9, c10, c11])] = some #[c0, c1, c2, c3, c4, c5, c6, c7, c8, c9, c10, c11] := by kernel_rfl
theorem fillK (cs : List Value) (h : cs.length = 12) : Instr.fill (fun i => some (i * 12, 12)) ((Array.range (1 * 12)).map (kzero.cells.toArray[· % kzero.cells.toArray.size]!)) [(0, .agg cs.toArray)] = some cs.toArray := by
  match cs, h with
  | [c0, c1, c2, c3, c4, c5, c6, c7, c8, c9, c10, c11], _ => exact fillKv c0 c1 c2 c3 c4 c5 c6 c7 c8 c9 c10 c11
theorem LK : EK.Laws := ⟨Tryz.underlying29, by kernel_rfl, kzero_ok, fun a h => kcells_len h.ml, kcells_ones, by decide, by decide, by decide, by decide, fillK⟩
def nmL (l : List Int) : List Value := l.map (Value.int .u8)
theorem nmL_nm (l : List Int) : (nmL l).toArray = nm l := rfl
theorem nmL_ones (l : List Int) : ∀ u ∈ nmL l, u.oneCell' = true := fun u hu => by
  obtain ⟨j, _, rfl⟩ := List.mem_map.1 hu
  rfl
def EN : ElT (List Int) := ⟨nmL, NOk, 25, 34, 8, 8, M.zero8⟩
theorem fillNv (c0 c1 c2 c3 c4 c5 c6 c7 : Value) : Instr.fill (fun i => some (i * 8, 8)) ((Array.range (1 * 8)).map ((nmL M.zero8).toArray[· % (nmL M.zero8).toArray.size]!)) [(0, .agg #[c0, c1, c2, c3, c4, c5, c6, c7])] = some #[c0, c1, c2, c3, c4, c5, c6, c7] := by kernel_rfl
theorem fillN (cs : List Value) (h : cs.length = 8) : Instr.fill (fun i => some (i * 8, 8)) ((Array.range (1 * 8)).map ((nmL M.zero8).toArray[· % (nmL M.zero8).toArray.size]!)) [(0, .agg cs.toArray)] = some cs.toArray := by
  match cs, h with
  | [c0, c1, c2, c3, c4, c5, c6, c7], _ => exact fillNv c0 c1 c2 c3 c4 c5 c6 c7
theorem zero8_nok : NOk M.zero8 := ⟨rfl, zero8_bytes⟩
theorem LN : EN.Laws := ⟨Tryz.underlying34, by kernel_rfl, zero8_nok, fun a h => by show (nmL a).length = 8; unfold nmL; rw [List.length_map]; exact h.1, nmL_ones, by decide, by decide, by decide, by decide, fillN⟩
abbrev encK (x : Ky) : Array Value := #[.agg x.cells.toArray]
theorem exec_store29 {o : Oper} {a : Act} {w : World} (x y : Operand) (ho : o.op = .store 29 x y) (g : Nat) (u : Value) (D : Option Addr) (m c : Nat) (hx : a.eval x = .pointer (some ⟨g, 0, none⟩)) (hy : a.eval y = .slice D m c) (hb : Blk w g 29 [u]) :
    (execOp a.eval o).run Tryz.prog w = .ok .skip (w.setCell ⟨g, 0, none⟩ (.slice D m c)) := by
  have hc := hb.cell (i := 0) rfl
  have hf := hb.frozen 0
  unfold execOp
  simp only [ho, hx, hy]
  simp [go_sem, hc, hf]
theorem wpList_store29 {ops : Array Oper} {rest : List Oper} {op : Oper} {a : Act} {w : World} {Q : Exit → Act → World → Prop} (hgd : op.guard = none) (x y : Operand) (ho : op.op = .store 29 x y) (g : Nat) (u : Value) (D : Option Addr) (m c : Nat) (hx : a.eval x = .pointer (some ⟨g, 0, none⟩)) (hy : a.eval y = .slice D m c) (hb : Blk w g 29 [u])
    (h : ∀ w', Hid (Blk w' g 29 [.slice D m c]) → Hid (Only g w w') → wpList Tryz.prog ops Q rest (a.put op.dst undef) w') : wpList Tryz.prog ops Q (op :: rest) a w := by
  refine wpList_plain hgd fun K hK => ?_
  unfold Oper.wp
  rw [exec_store29 x y ho g u D m c hx hy hb]
  exact hK _ _ (h _ (Lib.hid (hb.set 0 (.slice D m c))) (Lib.hid (Only.set g 0 w (.slice D m c))))
/-- What a round of AppendSeq finds and leaves. -/
def AK2 (g2 : Nat) (w0 : World) (M B : Nat) (pre : List Ky) (V : World) : Prop := ∃ D m c, Blk V g2 29 [.slice D m c] ∧ OwnG EK V B (.slice D m c) pre ∧ Below g2 w0 V ∧ pre.length ≤ M
/-- The call answers a list of its own, as Fin says. -/
def GivesK (w : World) (Fin : List Ky → Prop) (e : Ending) (w' : World) : Prop := (∃ v s, e = .returned v ∧ Fin s ∧ OwnG EK w' w.heap.size v s) ∧ Below w.heap.size w w'
set_option maxRecDepth 100000 in
set_option maxHeartbeats 4000000 in
theorem appendK_is (gf : Nat) (lb : Array Value) (N : World → Prop) (Nx : List Ky → Ky → Prop) (Fin : List Ky → Prop) (M : Nat) (w : World) (eg : ∀ args w, (callFunc gf args).run Tryz.prog w = .ok (.enter gf args) w)
    (hseq : SeqGen gf lb N encK Nx Fin) (hN : ∀ V, Below w.heap.size w V → N V) (hM : M ≤ 4000) (hNx : ∀ pre x, Nx pre x → x.Ok ∧ pre.length < M) :
    Calls Tryz.prog 44 #[.slice none 0 0, .func (.func gf) #[] lb] w (GivesK w Fin) := by
  have Q1 := Lib.hid (blk_alloc w 29 [.slice none 0 0])
  have B0 := Lib.hid (new_below w (.cells #[.slice none 0 0] 29))
  refine (callsIn_wide (n := 10)).1 ?_
  refine callsIn_of_wp_marks Tryz.func44 rfl trivial ?_ rfl
  simp only [Tryz.ntmps44, List.size_toArray, List.length_cons, List.length_nil, Nat.reduceAdd, Nat.reduceSub, Array.replicate_succ, Array.replicate_zero, List.push_toArray, List.append_toArray, List.nil_append, List.cons_append]
  gi_wp2_with fail
  rename_i K0 hK0
  have HS := Lib.hid hseq
  have HN := Lib.hid hN
  have HX := Lib.hid hNx
  clear hseq hN hNx
  refine range_gen (gf := gf) (lb := lb) rfl eg HS.out (fun _ => rfl)
    (fun B pre V => AK2 w.heap.size w M B pre V)
    (fun V => False)
    (fun B pre V V' h hb => by obtain ⟨D, m, c, h1, h2, h3, h4⟩ := h; exact ⟨D, m, c, h1.below hb, h2.below hb, h3.trans (hb.mono h3.size), h4⟩)
    (fun B pre V V' h9 h ho hg hB => by
      obtain ⟨D, m, c, h1, h2, h3, h4⟩ := h
      simp at hg
      exact ⟨D, m, c, h1.only ho (by omega), h2.only ho (.inr (fun k e e2 => h2.ge (i := h9) hB (e2 ▸ e))), h3.trans (ho.below (by omega) h3.size), h4⟩)
    (fun B pre V o hB h => by
      obtain ⟨D, m, c, h1, h2, h3, h4⟩ := h
      simp at hB ⊢
      exact ⟨D, m, c, blk_put h1 (by omega), h2.put (h2.ge (by omega)), below_put h3 (by omega), h4⟩)
    (fun V o h => h.elim)
    (fun V V' g h _ _ => h.elim)
    (fun B pre V h => by obtain ⟨D, m, c, h1, h2, h3, h4⟩ := h; exact HN.out V h3)
    (fun V hb => HN.out V (step_ B0.out hb))
    (fun B V hB hV hb => ⟨none, 0, 0, Q1.out.below hb, ownG_nil _ _, step_ B0.out hb, Nat.zero_le _⟩)
    (fun B pre x a' V => x.Ok ∧ pre.length < M ∧ ∃ g5, a' = { tmps := #[.slice none 0 0, .func (.func gf) #[] lb, .pointer (some ⟨w.heap.size, 0, none⟩), undef, .slice none 0 0, .pointer (some ⟨g5, 0, none⟩), .func (.func gf) #[] lb, .agg x.cells.toArray, undef, undef, undef, undef, undef], defers := [] } ∧ B ≤ g5 ∧ Blk V g5 48 x.cells ∧ AK2 w.heap.size w M B pre V)
    (fun B pre x a' V o hB h => by
      obtain ⟨hx, hm, g5, e, l5, k5, D, m, c, h1, h2, h3, h4⟩ := h
      simp at hB ⊢
      exact ⟨hx, hm, g5, e, l5, blk_put k5 (by omega), D, m, c, blk_put h1 (by omega), h2.put (h2.ge (by omega)), below_put h3 (by omega), h4⟩)
    ?assign ?body ?done ?stop
  case assign =>
    intro l B pre x W K hnx hi hB hB2 hlt hK
    have XO := Lib.hid (HX.out _ _ hnx)
    have HI := Lib.hid hi
    have Z1 := Lib.hid (blk_alloc W 48 kzero.cells)
    have hz := zero27
    clear hi hnx
    simp only [encK, List.zip_toArray, List.zip_cons_cons, List.zip_nil_right, List.foldl_toArray', List.foldl_cons, List.foldl_nil, List.size_toArray, List.length_cons, List.length_nil, List.setIfInBounds_toArray, List.set_cons_zero, List.set_cons_succ]
    gi_wp2_with (first
      | (refine in_plain (wide_in l) rfl (by intro c h; cases h) ?_; refine wpList_store_ky rfl _ _ rfl W.heap.size kzero x rfl rfl Z1.out kzero_ok.ml XO.out.1.ml ?_; intro V1 N1 O1; refine in_done ?_))
    have QQ := box_below O1.out
    obtain ⟨D, m, c, h1, h2, h3, h4⟩ := HI.out
    exact hK _ _ QQ ⟨XO.out.1, XO.out.2, _, rfl, hB2, N1.out, D, m, c, h1.below QQ, h2.below QQ, h3.trans (QQ.mono h3.size), h4⟩
  case body =>
    intro l B pre x a' W hnx hax hB hB2 hlt
    obtain ⟨hx, hm, g5, rfl, l5, k5, D, m, c, h1, h2, h3, h4⟩ := hax
    have XO := Lib.hid hx
    have G5 := Lib.hid k5
    have H1 := Lib.hid h1
    have H2 := Lib.hid h2
    have H3 := Lib.hid h3
    have PM := Lib.hid hm
    have LB := Lib.hid (show w.heap.size + 3 ≤ B by simpa using hB)
    have LB2 := Lib.hid hB2
    have PL := Lib.hid (show pre.length ≤ 5000 by omega)
    have c0 := h1.cell (i := 0) rfl
    clear hx k5 h1 h2 h3 hB hB2 hm h4
    gi_wp2_with (first
      | (refine in_plain (wide_in l) rfl (by intro c h; cases h) ?_; refine wpList_load_ky rfl _ rfl g5 0 x rfl G5.out.range XO.out.ml ?_; refine in_done ?_)
      | (refine in_plain (wide_in l) rfl (by intro c h; cases h) ?_; refine wpList_oneG LK rfl _ rfl x rfl XO.out ?_; intro g6 w6 e6 N6 B6; refine in_done ?_)
      | (refine in_plain (wide_in l) rfl (by intro c h; cases h) ?_; refine wpList_appG LK rfl _ _ rfl B _ pre x g6 rfl rfl (H2.out.below B6.out) XO.out N6.out PL.out (Nat.le_trans LB2.out B6.out.size) ?_; intro D7 m7 c7 w7 e7 O7 B7 G7; refine in_done ?_)
      | (refine in_plain (wide_in l) rfl (by intro c h; cases h) ?_; refine wpList_store29 rfl _ _ rfl w.heap.size (.slice D m c) D7 m7 c7 rfl rfl ((H1.out.below B6.out).upto B7.out (by have := LB.out; omega)) ?_; intro w8 N8 O8; refine in_done ?_))
    have BW := Lib.hid (show Below B W w7 from (B6.out.mono LB2.out).trans B7.out)
    refine ⟨?_, fun k hk1 hk2 => ?_, D7, m7, c7, N8.out, ?_, ?_, ?_⟩
    · exact (KeepL.below BW.out (by have := LB.out; omega)).trans (KeepL.only O8.out (by omega) (by omega) (by have := BW.out.size; have := LB2.out; have := LB.out; omega))
    · exact (O8.out.block k (by have := BW.out.size; have := LB2.out; omega) (by omega)).trans (BW.out.block k hk2)
    · exact O7.out.only O8.out (.inr (fun k e e2 => O7.out.ge (i := w.heap.size) (by have := LB.out; omega) (e2 ▸ e)))
    · exact (H3.out.trans (BW.out.mono (by have := LB.out; omega))).trans (O8.out.below (Nat.le_refl _) (by have := BW.out.size; have := LB2.out; have := LB.out; omega))
    · rw [List.length_append, List.length_singleton]; have := PM.out; omega
  case done =>
    intro D B s W hD hD2 hB hf hi hd
    obtain ⟨D1, m1, c1, h1, h2, h3, h4⟩ := hi
    have F := Lib.hid hf
    have OW := Lib.hid h2
    have H3 := Lib.hid h3
    have c0 := h1.cell (i := 0) rfl
    have HD := Lib.hid hd
    have LB := Lib.hid (show w.heap.size + 3 ≤ B by simpa using hB)
    have LD := Lib.hid (show w.heap.size + 1 ≤ D ∧ D < w.heap.size + 3 by simpa using And.intro hD hD2)
    clear hd h1 h2 h3 hf
    show K0 _ _
    refine hK0 _ _ ?_
    gi_wp2_with fail
    refine marks_ret D rfl HD.out (results_tmp rfl _ _ _) ?_
    exact ⟨⟨_, s, rfl, F.out, (OW.out.down (by have := LB.out; omega)).put (OW.out.ge (by have := LB.out; have := LD.out; omega))⟩, below_put H3.out (by have := LD.out; omega)⟩
  case stop =>
    intro D W hD hx hd
    exact hx.elim
set_option maxRecDepth 100000 in
theorem collectK_is (gf : Nat) (lb : Array Value) (N : World → Prop) (Nx : List Ky → Ky → Prop) (Fin : List Ky → Prop) (M : Nat) (w : World) (eg : ∀ args w, (callFunc gf args).run Tryz.prog w = .ok (.enter gf args) w)
    (hseq : SeqGen gf lb N encK Nx Fin) (hN : ∀ V, Below w.heap.size w V → N V) (hM : M ≤ 4000) (hNx : ∀ pre x, Nx pre x → x.Ok ∧ pre.length < M) :
    Calls Tryz.prog 28 #[.func (.func gf) #[] lb] w (GivesK w Fin) := by
  have HC := Lib.hid (appendK_is gf lb N Nx Fin M w eg hseq hN hM hNx)
  clear hseq hN hNx
  go_enter Tryz.func28, Tryz.ntmps28
  go_wp2_with fail
  refine HC.out.mono ?_
  rintro e w1 ⟨⟨v, s, rfl, hf, ho⟩, b1⟩
  have F := Lib.hid hf
  have O := Lib.hid ho
  have B := Lib.hid b1
  clear hf ho b1
  go_wp2_with fail
  go_ret
  exact ⟨⟨_, s, rfl, F.out, O.out⟩, B.out⟩
end Go.Proofs.YtdigbipfchgjmaaGreat
