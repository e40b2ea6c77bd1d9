/- Ranges over iterators that hand over any values and may hold memory of their own between the rounds. The contracts of Keys of package maps, of its iterator, of AppendSeq and Collect of slices, at vectors. The contracts of AppendSeq and Collect of slices and of Keys of package maps, at vectors. -/
import Derived.Test.YtihkncnhkljgpaaGRows
import Derived.Test.YtihkncnhkljgpaaMapsV
namespace Go.Proofs.Ytihkncnhkljgpaa
open Go.RowKit Go.Shelf
attribute [local go_sem] Oper.semAt_some

/-- The iterator hands over one value behind the other, each as Nx allows, till one asks no more; what it was to hand over, Fin says. Its own memory lies from its start up to B: the rounds leave it alone, and stand what it does there. -/
def SeqGen {α : Type} (gf : Nat) (lb : Array Value) (N : World → Prop) (enc : α → Array Value) (Nx : List α → α → Prop) (Fin : List α → Prop) : Prop :=
  ∀ (l : Nat) (J : Nat → List α → World → Prop) (X : World → Prop) (W : World),
    (∀ B pre V V', J B pre V → Below V.heap.size V V' → J B pre V') → (∀ B pre V V' g, J B pre V → Only g V V' → W.heap.size ≤ g → g < B → J B pre V') → (∀ B pre V, J B pre V → N V) →
    (∀ B pre x V, Nx pre x → J B pre V → W.heap.size ≤ B → B ≤ V.heap.size → YieldAt Fence.wide 9 Try.prog l (enc x) V fun e V' => V.heap.size ≤ V'.heap.size ∧ (∀ k, W.heap.size ≤ k → k < B → V'.heap[k]? = V.heap[k]?) ∧ ((e = .returned (.bool true) ∧ J B (pre ++ [x]) V') ∨ (e = .returned (.bool false) ∧ X V'))) →
    N W → (∀ B V, W.heap.size ≤ B → B ≤ V.heap.size → Below W.heap.size W V → J B [] V) → Calls Try.prog gf (#[.func (.yield l) #[] #[]] ++ lb) W fun e V' => (∃ v, e = .returned v) ∧ ((∃ s B, Fin s ∧ J B s V') ∨ X V')
theorem range_gen {α : Type} {n : Nat} {g : Operand} {ps : Array Tmp} {assign body : Code} {Q : Exit → Act → World → Prop} {a : Act} {w : World} {gf : Nat} {lb : Array Value} {enc : α → Array Value} {Nx : List α → α → Prop} {Fin : List α → Prop}
    (hg : a.eval g = .func (.func gf) #[] lb) (eg : ∀ args w, (callFunc gf args).run Try.prog w = .ok (.enter gf args) w) {N : World → Prop} (hseq : SeqGen gf lb N enc Nx Fin) (hps : ∀ x, ps.size = (enc x).size)
    (I : Nat → List α → World → Prop) (X : World → Prop) (hIb : ∀ B pre W W', I B pre W → Below W.heap.size W W' → I B pre W') (hIo : ∀ B pre W W' h, I B pre W → Only h W W' → w.heap.size + 2 ≤ h → h < B → I B pre W') (hIp : ∀ B pre W o, w.heap.size + 2 ≤ B → I B pre W → I B pre (W.putObj (w.heap.size + 1) o)) (hXp : ∀ W o, X W → X (W.putObj (w.heap.size + 1) o)) (hIn : ∀ B pre W, I B pre W → N W) (hN0 : ∀ W, Below w.heap.size w W → N W)
    (h0 : ∀ B V, w.heap.size + 2 ≤ B → B ≤ V.heap.size → Below w.heap.size w V → I B [] V)
    (Ax : Nat → List α → α → Act → World → Prop) (hAp : ∀ B pre x a' W o, w.heap.size + 2 ≤ B → Ax B pre x a' W → Ax B pre x a' (W.putObj (w.heap.size + 1) o))
    (hassign : ∀ (l B : Nat) (pre : List α) (x : α) (W : World) (K : Act → World → Prop), Nx pre x → I B pre W → w.heap.size + 2 ≤ B → B ≤ W.heap.size → w.heap.size + 1 < W.heap.size → (∀ a' W', Below W.heap.size W W' → Ax B pre x a' W' → K a' W') →
      assign.wpIn (Fence.wide.inRound l) 9 Try.prog (Exit.then K (fun _ _ _ => False)) { tmps := (ps.zip (enc x)).foldl (fun t (q, v) => t.setIfInBounds q v) a.tmps, defers := [] } W)
    (hbody : ∀ (l B : Nat) (pre : List α) (x : α) (a' : Act) (W : World), Nx pre x → Ax B pre x a' W → w.heap.size + 2 ≤ B → B ≤ W.heap.size → w.heap.size + 1 < W.heap.size →
      body.wpIn (Fence.wide.inRound l) 9 Try.prog (fun e _ W' => KeepL w.heap.size W W' ∧ (∀ k, w.heap.size + 2 ≤ k → k < B → W'.heap[k]? = W.heap[k]?) ∧ ((e = .normal ∧ I B (pre ++ [x]) W') ∨ (e = .ret ∧ X W'))) a' W)
    (hdone : ∀ (D B : Nat) (s : List α) (W : World), w.heap.size ≤ D → D < w.heap.size + 2 → w.heap.size + 2 ≤ B → Fin s → I B s W → W.heap[D]? = some (.deferred (some [])) → Q .normal { a with defers := { target := .collected D, args := #[] } :: a.defers } W)
    (hstop : ∀ (D : Nat) (W : World), w.heap.size ≤ D → X W → W.heap[D]? = some (.deferred (some [])) → Code.ret.wpIn Fence.wide n Try.prog Q { a with defers := { target := .collected D, args := #[] } :: a.defers } W) :
    (Code.rangeFunc g ps assign body).wpIn Fence.wide n Try.prog Q a w := by
  refine wpIn_rangeFunc fun fn _ => ?_
  obtain ⟨rc, hR⟩ : ∃ rc : LoopState → Option Code → Loop, rc = fun st pe => { state := st, pending := pe, fn, tmps := a.tmps, params := ps, assign, body, defers := w.heap.size } := ⟨_, rfl⟩
  obtain ⟨V, hV⟩ : ∃ V, (w.alloc (.deferred (some []))).alloc (.loop (rc .ready none)) = V := ⟨_, rfl⟩
  have hVl : V.heap[w.heap.size + 1]? = some (.loop (rc .ready none)) := by
    have h := World.alloc_heap_new (w.alloc (.deferred (some []))) (.loop (rc .ready none))
    rw [hV, World.size_alloc] at h; exact h
  have hVd : V.heap[w.heap.size]? = some (.deferred (some [])) := by
    rw [← hV]; exact (Below.heap_alloc _ _ _ (by simp)).trans (World.alloc_heap_new w _)
  have hVs : V.heap.size = w.heap.size + 2 := by rw [← hV]; simp
  have hVb : Below w.heap.size w V := by rw [← hV]; exact step_ (new_below w _) (new_below _ _)
  have busyD : ∀ (W : World) (o : Obj), W.heap[w.heap.size]? = some (.deferred (some [])) → (W.putObj (w.heap.size + 1) o).heap[w.heap.size]? = some (.deferred (some [])) := fun W o h => (World.putObj_heap_other (by omega)).trans h
  refine ⟨w.heap.size + 1, [{ target := .collected w.heap.size, args := #[] }], V, { target := .fn (.func gf) lb, args := #[.func (.yield (w.heap.size + 1)) #[] #[]] }, V, gf,
    #[.func (.yield (w.heap.size + 1)) #[] #[]] ++ lb, V, ?_, ?_, fun _ _ => trivial, ?_, (fun h => by cases h), ?_⟩
  · rw [← hV, hR]; exact run_enterLoop_outer _ _ _ _ _
  · simp only [resolve, hg]; simp [go_sem]
  · simp [invoke, go_sem, eg]
  refine callsIn_wide.2 ((hseq (w.heap.size + 1)
    (fun B pre W => w.heap.size + 2 ≤ B ∧ I B pre W ∧ (W.heap[w.heap.size + 1]? = some (.loop (rc .ready none)) ∧ W.heap[w.heap.size]? = some (.deferred (some []))))
    (fun W => X W ∧ (W.heap[w.heap.size + 1]? = some (.loop (rc .done (some .ret))) ∧ W.heap[w.heap.size]? = some (.deferred (some [])))) V
    (fun B pre A C h hb => ⟨h.1, hIb _ _ _ _ h.2.1 hb, (hb.block _ (Array.getElem?_eq_some_iff.1 h.2.2.1).1).trans h.2.2.1, (hb.block _ (Array.getElem?_eq_some_iff.1 h.2.2.2).1).trans h.2.2.2⟩)
    (fun B pre A C h hi ho h1 h2 => ⟨hi.1, hIo _ _ _ _ _ hi.2.1 ho (by omega) h2, (ho.block _ (Array.getElem?_eq_some_iff.1 hi.2.2.1).1 (by omega)).trans hi.2.2.1, (ho.block _ (Array.getElem?_eq_some_iff.1 hi.2.2.2).1 (by omega)).trans hi.2.2.2⟩)
    (fun B pre A h => hIn _ _ _ h.2.1) ?round (hN0 _ hVb) (fun B V' h1 h2 hb => ⟨by omega, h0 _ _ (by omega) h2 (hVb.trans (hb.mono (by omega))), (hb.block _ (by omega)).trans hVl, (hb.block _ (by omega)).trans hVd⟩)).mono ?done)
  case done =>
    rintro e W ⟨⟨v, rfl⟩, (⟨s, B, hf, hB, hi, hl, hd⟩ | ⟨hx, hl, hd⟩)⟩
    · refine ⟨none, _, by have := run_endLoop (P := Try.prog) hl (by rw [hR]; simp); rw [hR] at this; exact this, ?_⟩
      exact hdone _ _ _ _ (Nat.le_refl _) (by omega) hB hf (hIp _ _ _ _ hB hi) (busyD W _ hd)
    · refine ⟨some .ret, _, by have := run_endLoop (P := Try.prog) hl (by rw [hR]; simp); rw [hR] at this; exact this, ?_⟩
      exact hstop _ _ (Nat.le_refl _) (hXp _ _ hx) (busyD W _ hd)
  case round =>
    rintro B pre x W hnx ⟨hB, hi, hl, hd⟩ hB1 hB2
    have hy := run_yield (P := Try.prog) (args := enc x) hl (by rw [hR]; exact (hps x).symm)
    rw [hR] at hy
    refine ⟨fn, _, assign, body, hy, roundIn_of_wpIn trivial ?_⟩
    have hlt0 := (Array.getElem?_eq_some_iff.1 hl).1
    refine hassign (w.heap.size + 1) B pre x W _ hnx hi hB hB2 hlt0 fun a' W' hs hax => ?_
    have hl' := (hs.block _ hlt0).trans hl
    have hd' := (hs.block _ (Array.getElem?_eq_some_iff.1 hd).1).trans hd
    have hlt := (Array.getElem?_eq_some_iff.1 hl').1
    refine ⟨_, run_beginRound hl' (by rw [hR]), ?_⟩
    have hl2 : (W'.putObj (w.heap.size + 1) (.loop { rc .ready none with state := .busy })).heap[w.heap.size + 1]? = some (.loop { rc .ready none with state := .busy }) := World.putObj_heap_same hlt
    have hsz' := hs.size
    refine wpIn_mono (hbody (w.heap.size + 1) B pre x a' _ hnx (hAp _ _ _ _ _ _ hB hax) hB (by simp; omega) (by simpa using hlt)) ?_
    rintro e a3 W3 ⟨hk3, hkb, hp⟩
    have hl3 := hk3.two.trans hl2
    have hd3 := hk3.one.trans (busyD W' _ hd')
    have hsz3 : W.heap.size ≤ W3.heap.size := by have h1 := hk3.size; simp at h1; omega
    have hkeep : ∀ (o : Obj) (k : Nat), V.heap.size ≤ k → k < B → (W3.putObj (w.heap.size + 1) o).heap[k]? = W.heap[k]? := fun o k h1 h2 => by
      rw [World.putObj_heap_other (by omega), hkb k (by omega) h2, World.putObj_heap_other (by omega)]
      exact hs.block k (by omega)
    rcases hp with ⟨rfl, hi3⟩ | ⟨rfl, hx3⟩
    · refine ⟨_, _, run_endRound none hl3, by simp; omega, hkeep _, .inl ⟨rfl, hB, hIp _ _ _ _ hB hi3, ?_, busyD W3 _ hd3⟩⟩
      rw [World.putObj_heap_same (Array.getElem?_eq_some_iff.1 hl3).1, hR]; rfl
    · refine ⟨_, _, run_endRound (some .ret) hl3, by simp; omega, hkeep _, .inr ⟨rfl, hXp _ _ hx3, ?_, busyD W3 _ hd3⟩⟩
      rw [World.putObj_heap_same (Array.getElem?_eq_some_iff.1 hl3).1, hR]; rfl
end Go.Proofs.Ytihkncnhkljgpaa
namespace Go.Proofs.Ytihkncnhkljgpaa
open Go.RowKit Go.Shelf
attribute [local go_sem] Oper.semAt_some

theorem RangeN.same {w w' : World} {b r n : Nat} {f g : List Int → Option Int} {cnt : Nat} (h : RangeN w b r n f g cnt) (hb : w'.heap[b]? = w.heap[b]?) (hr : w'.heap[r]? = w.heap[r]?) : RangeN w' b r n f g cnt := by
  obtain ⟨D, left, ⟨es, clock, since, seen, c0, e1, e2, e3, e4, e5, e6⟩, h2⟩ := h.own
  exact ⟨h.ok, h.sub, D, left, ⟨es, clock, since, seen, c0, hb.trans e1, e2, e3, e4, hr.trans e5, e6⟩, h2⟩
/-- What has been handed over, and what is still to come. -/
structure KI (f g : List Int → Option Int) (out : List (List Int)) : Prop where
  all : ∀ k, f k ≠ none ↔ (g k ≠ none ∨ k ∈ out)
  gone : ∀ k ∈ out, g k = none
  dist : out.Nodup
theorem KI.start (f : List Int → Option Int) : KI f f [] := ⟨fun _ => by simp, fun _ h => (by cases h), List.nodup_nil⟩
theorem KI.step {f g : List Int → Option Int} {out : List (List Int)} (h : KI f g out) {k : List Int} {v : Int} (hg : g k = some v) : KI f (delV g k) (out ++ [k]) := by
  refine ⟨fun x => ?_, fun x hx => ?_, ?_⟩
  · rw [h.all]
    unfold delV
    by_cases e : x = k
    · subst e; simp [hg]
    · simp [e]
  · unfold delV
    by_cases e : x = k
    · rw [if_pos e]
    · rw [if_neg e]
      rcases List.mem_append.1 hx with h1 | h1
      · exact h.gone x h1
      · exact absurd (List.mem_singleton.1 h1) e
  · rw [List.nodup_append]
    refine ⟨h.dist, by simp, fun a ha b hb => ?_⟩
    rw [List.mem_singleton] at hb
    subst hb
    intro e
    subst e
    rw [h.gone _ ha] at hg
    cases hg
def NxK (f : List Int → Option Int) (n : Nat) (pre : List (List Int)) (x : List Int) : Prop := VOk x ∧ f x ≠ none ∧ pre.length < n
def FinK (f : List Int → Option Int) (n : Nat) (s : List (List Int)) : Prop := s.Nodup ∧ (∀ k, k ∈ s ↔ f k ≠ none) ∧ s.length ≤ n
abbrev encV (x : List Int) : Array Value := #[.agg (vc x).toArray]
set_option maxRecDepth 100000 in
set_option maxHeartbeats 4000000 in
theorem keys_seq (g b n : Nat) (f : List Int → Option Int) (W0 : World) (hm : MapN W0 b n f) : SeqGen 46 #[.pointer (some ⟨g, 0, none⟩)] (fun V => Blk V g 41 [.map (some b)] ∧ V.heap[b]? = W0.heap[b]?) encV (NxK f n) (FinK f n) := by
  intro l J X W hJb hJo hJn hY hN0 h0
  have hz := zero24
  have c0 := hN0.1.cell (i := 0) rfl
  have HM := Lib.hid (hm.same hN0.2)
  have JB := Lib.hid hJb
  have JO := Lib.hid hJo
  have JN := Lib.hid hJn
  have HY := Lib.hid hY
  have H0 := Lib.hid h0
  have BW := Lib.hid (show W.heap[b]? = W0.heap[b]? from hN0.2)
  clear hJb hJo hJn hY hN0 h0 hm
  refine (callsIn_wide (n := 10)).1 ?_
  refine callsIn_of_wp Try.func46 rfl trivial ?_ rfl
  simp only [Try.ntmps46, List.size_toArray, List.length_cons, List.length_nil, Nat.reduceAdd, Nat.reduceSub, Array.replicate_succ, Array.replicate_zero, List.push_toArray, List.append_toArray, List.nil_append, List.cons_append]
  gi_wp2_with (first
    | (refine in_plain wide_no rfl (by intro c h; cases h) ?_; refine wpList_rangeN rfl _ rfl b n f rfl HM.out ?_; intro r W1 cnt er R1 ec B1; refine in_done ?_))
  have CN := Lib.hid (show cnt ≤ n by rw [ec.out]; exact HM.out.msize_le)
  have RS := Lib.hid (show r < W1.heap.size from R1.out.lt)
  have RG := Lib.hid (show W.heap.size ≤ r from Nat.le_of_eq er.out.symm)
  have BB := Lib.hid (show W.heap.size ≤ W1.heap.size from B1.out.size)
  have BM := Lib.hid (show W1.heap[b]? = W0.heap[b]? from (B1.out.block b HM.out.lt).trans BW.out)
  have J0 := Lib.hid (show J W1.heap.size [] W1 from H0.out _ _ BB.out (Nat.le_refl _) B1.out)
  clear er ec
  gi_loopw [] (fun wr => ∃ (gg : List Int → Option Int) (cnt : Nat) (out : List (List Int)), RangeN wr b r n f gg cnt ∧ KI f gg out ∧ out.length + cnt ≤ n ∧ J W1.heap.size out wr ∧ W1.heap.size ≤ wr.heap.size) (fun wr => wr.rangeLeft b r)
  case atStart => exact ⟨f, cnt, [], R1.out, KI.start f, by have := CN.out; simpa using this, J0.out, Nat.le_refl _⟩
  case round =>
    obtain ⟨gg, cnt, out, hr, hc, hle, hj, hsz⟩ := hrel
    have RR := Lib.hid hr
    have CC := Lib.hid hc
    have LE := Lib.hid hle
    have JJ := Lib.hid hj
    have SZ := Lib.hid hsz
    clear hr hc hle hj hsz
    gi_wp2_with (first
      | (refine in_plain wide_no rfl (by intro c h; cases h) ?_; refine wpList_nextN rfl _ rfl b r n f gg cnt rfl RR.out ?_ ?_))
    · intro h0
      refine in_done ?_
      gi_wp2
      go_end0
      refine ⟨⟨_, rfl⟩, .inl ⟨out, _, ⟨CC.out.dist, fun k => ?_, by have := LE.out; omega⟩, JJ.out⟩⟩
      rw [CC.out.all k, h0.out k]; simp
    · intro k v w5 cnt5 hg R5 hlt O5 S5 hent
      refine in_done ?_
      have KO := Lib.hid (show VOk k from RR.out.ok.k k v (RR.out.sub k v hg.out))
      have FK := Lib.hid (show f k ≠ none by rw [RR.out.sub k v hg.out]; simp)
      have Z := Lib.hid (blk_alloc w5 24 (vc vz))
      have J5 := Lib.hid (JO.out _ _ _ _ _ JJ.out O5.out RG.out RS.out)
      have SZ5 := Lib.hid (show W1.heap.size ≤ w5.heap.size by rw [S5.out]; exact SZ.out)
      gi_wp2_with (first
        | (refine in_plain wide_no rfl (by intro c h; cases h) ?_; refine wpList_store_v t24 rfl _ _ rfl w5.heap.size vz k rfl rfl Z.out rfl KO.out.len ?_; intro w6 N6 O6; refine in_done ?_; have B6 := Lib.hid (box_below O6.out); have J6 := Lib.hid (JB.out _ _ _ _ J5.out B6.out))
        | (refine in_plain wide_no rfl (by intro c h; cases h) ?_; refine wpList_load_v t24 rfl _ rfl w5.heap.size 0 k rfl N6.out.range KO.out.len ?_; refine in_done ?_; obtain ⟨fn, tmps, assign, body, hy, hR⟩ := yield_any (HY.out _ out k w6 ⟨KO.out, FK.out, by have := LE.out; have := hlt.out; omega⟩ J6.out BB.out (Nat.le_trans SZ5.out B6.out.size)) 9 none))
      refine hR.mono ?_
      rintro e W3 ⟨hs3, hk3, (⟨rfl, hJ3⟩ | ⟨rfl, hX3⟩)⟩
      · have J3 := Lib.hid hJ3
        have R3 := Lib.hid (show RangeN W3 b r n f (delV gg k) cnt5 from (R5.out.below B6.out).same ((JN.out _ _ _ hJ3).2.trans (JN.out _ _ _ J6.out).2.symm) (hk3 r RG.out RS.out))
        have S3 := Lib.hid (Nat.le_trans (Nat.le_trans SZ5.out B6.out.size) hs3)
        have RL := Lib.hid (show W3.rangeLeft b r < wr.rangeLeft b r by rw [R3.out.left_eq, RR.out.left_eq]; exact hlt.out)
        clear hJ3 hR hy hk3 hs3
        gi_wp2
        go_roundw
        case rel => exact ⟨delV gg k, cnt5, out ++ [k], R3.out, CC.out.step hg.out, by have := LE.out; have := hlt.out; rw [List.length_append, List.length_singleton]; omega, J3.out, S3.out⟩
        case measure => exact RL.out
      · have X3 := Lib.hid hX3
        clear hX3 hR hy hk3 hs3
        gi_wp2
        refine bodyPost_ret (results_none rfl _ _ _) rfl ?_
        exact ⟨⟨_, rfl⟩, .inr X3.out⟩
end Go.Proofs.Ytihkncnhkljgpaa
namespace Go.Proofs.Ytihkncnhkljgpaa
open Go.RowKit Go.Shelf
attribute [local go_sem] Oper.semAt_some

theorem exec_store40 {o : Oper} {a : Act} {w : World} (x y : Operand) (ho : o.op = .store 40 x y) (g : Nat) (u : Value) (D : Option Addr) (m c : Nat) (hx : a.eval x = .pointer (some ⟨g, 0, none⟩)) (hy : a.eval y = .slice D m c) (hb : Blk w g 40 [u]) :
    (execOp a.eval o).run Try.prog w = .ok .skip (w.setCell ⟨g, 0, none⟩ (.slice D m c)) := by
  have hc := hb.cell (i := 0) rfl
  have hf := hb.frozen 0
  unfold execOp
  simp only [ho, hx, hy]
  simp [go_sem, hc, hf]
theorem wpList_store40 {ops : Array Oper} {rest : List Oper} {op : Oper} {a : Act} {w : World} {Q : Exit → Act → World → Prop} (hgd : op.guard = none) (x y : Operand) (ho : op.op = .store 40 x y) (g : Nat) (u : Value) (D : Option Addr) (m c : Nat) (hx : a.eval x = .pointer (some ⟨g, 0, none⟩)) (hy : a.eval y = .slice D m c) (hb : Blk w g 40 [u])
    (h : ∀ w', Hid (Blk w' g 40 [.slice D m c]) → Hid (Only g w w') → wpList Try.prog ops Q rest (a.put op.dst undef) w') : wpList Try.prog ops Q (op :: rest) a w := by
  refine wpList_plain hgd fun K hK => ?_
  unfold Oper.wp
  rw [exec_store40 x y ho g u D m c hx hy hb]
  exact hK _ _ (h _ (Lib.hid (hb.set 0 (.slice D m c))) (Lib.hid (Only.set g 0 w (.slice D m c))))
/-- What a round of AppendSeq finds and leaves. -/
def AS2 (g2 : Nat) (w0 : World) (M B : Nat) (pre : List (List Int)) (V : World) : Prop := ∃ D m c, Blk V g2 40 [.slice D m c] ∧ OwnG E24 V B (.slice D m c) pre ∧ Below g2 w0 V ∧ pre.length ≤ M
/-- The call answers a list of its own, as Fin says. -/
def GivesG (w : World) (Fin : List (List Int) → Prop) (e : Ending) (w' : World) : Prop := (∃ v s, e = .returned v ∧ Fin s ∧ OwnG E24 w' w.heap.size v s) ∧ Below w.heap.size w w'
set_option maxRecDepth 100000 in
set_option maxHeartbeats 4000000 in
theorem appendSeq_is (gf : Nat) (lb : Array Value) (N : World → Prop) (Nx : List (List Int) → List Int → Prop) (Fin : List (List Int) → Prop) (M : Nat) (w : World) (eg : ∀ args w, (callFunc gf args).run Try.prog w = .ok (.enter gf args) w)
    (hseq : SeqGen gf lb N encV Nx Fin) (hN : ∀ V, Below w.heap.size w V → N V) (hM : M ≤ 4000) (hNx : ∀ pre x, Nx pre x → VOk x ∧ pre.length < M) :
    Calls Try.prog 45 #[.slice none 0 0, .func (.func gf) #[] lb] w (GivesG w Fin) := by
  have Q1 := Lib.hid (blk_alloc w 40 [.slice none 0 0])
  have B0 := Lib.hid (new_below w (.cells #[.slice none 0 0] 40))
  refine (callsIn_wide (n := 10)).1 ?_
  refine callsIn_of_wp_marks Try.func45 rfl trivial ?_ rfl
  simp only [Try.ntmps45, List.size_toArray, List.length_cons, List.length_nil, Nat.reduceAdd, Nat.reduceSub, Array.replicate_succ, Array.replicate_zero, List.push_toArray, List.append_toArray, List.nil_append, List.cons_append]
  gi_wp2_with fail
  rename_i K0 hK0
  have HS := Lib.hid hseq
  have HN := Lib.hid hN
  have HX := Lib.hid hNx
  clear hseq hN hNx
  refine range_gen (gf := gf) (lb := lb) rfl eg HS.out (fun _ => rfl)
    (fun B pre V => AS2 w.heap.size w M B pre V)
    (fun V => False)
    (fun B pre V V' h hb => by obtain ⟨D, m, c, h1, h2, h3, h4⟩ := h; exact ⟨D, m, c, h1.below hb, h2.below hb, h3.trans (hb.mono h3.size), h4⟩)
    (fun B pre V V' h9 h ho hg hB => by
      obtain ⟨D, m, c, h1, h2, h3, h4⟩ := h
      simp at hg
      exact ⟨D, m, c, h1.only ho (by omega), h2.only ho (.inr (fun k e e2 => h2.ge (i := h9) hB (e2 ▸ e))), h3.trans (ho.below (by omega) h3.size), h4⟩)
    (fun B pre V o hB h => by
      obtain ⟨D, m, c, h1, h2, h3, h4⟩ := h
      simp at hB ⊢
      exact ⟨D, m, c, blk_put h1 (by omega), h2.put (h2.ge (by omega)), below_put h3 (by omega), h4⟩)
    (fun V o h => h.elim)
    (fun B pre V h => by obtain ⟨D, m, c, h1, h2, h3, h4⟩ := h; exact HN.out V h3)
    (fun V hb => HN.out V (step_ B0.out hb))
    (fun B V hB hV hb => ⟨none, 0, 0, Q1.out.below hb, ownG_nil _ _, step_ B0.out hb, Nat.zero_le _⟩)
    (fun B pre x a' V => VOk x ∧ pre.length < M ∧ ∃ g5, a' = { tmps := #[.slice none 0 0, .func (.func gf) #[] lb, .pointer (some ⟨w.heap.size, 0, none⟩), undef, .slice none 0 0, .pointer (some ⟨g5, 0, none⟩), .func (.func gf) #[] lb, .agg (vc x).toArray, undef, undef, undef, undef, undef], defers := [] } ∧ B ≤ g5 ∧ Blk V g5 24 (vc x) ∧ AS2 w.heap.size w M B pre V)
    (fun B pre x a' V o hB h => by
      obtain ⟨hx, hm, g5, e, l5, k5, D, m, c, h1, h2, h3, h4⟩ := h
      simp at hB ⊢
      exact ⟨hx, hm, g5, e, l5, blk_put k5 (by omega), D, m, c, blk_put h1 (by omega), h2.put (h2.ge (by omega)), below_put h3 (by omega), h4⟩)
    ?assign ?body ?done ?stop
  case assign =>
    intro l B pre x W K hnx hi hB hB2 hlt hK
    have XO := Lib.hid (HX.out _ _ hnx)
    have HI := Lib.hid hi
    have Z1 := Lib.hid (blk_alloc W 24 (vc vz))
    have hz := zero24
    clear hi hnx
    simp only [encV, List.zip_toArray, List.zip_cons_cons, List.zip_nil_right, List.foldl_toArray', List.foldl_cons, List.foldl_nil, List.size_toArray, List.length_cons, List.length_nil, List.setIfInBounds_toArray, List.set_cons_zero, List.set_cons_succ]
    gi_wp2_with (first
      | (refine in_plain (wide_in l) rfl (by intro c h; cases h) ?_; refine wpList_store_v t24 rfl _ _ rfl W.heap.size vz x rfl rfl Z1.out rfl XO.out.1.len ?_; intro V1 N1 O1; refine in_done ?_))
    have QQ := box_below O1.out
    obtain ⟨D, m, c, h1, h2, h3, h4⟩ := HI.out
    exact hK _ _ QQ ⟨XO.out.1, XO.out.2, _, rfl, hB2, N1.out, D, m, c, h1.below QQ, h2.below QQ, h3.trans (QQ.mono h3.size), h4⟩
  case body =>
    intro l B pre x a' W hnx hax hB hB2 hlt
    obtain ⟨hx, hm, g5, rfl, l5, k5, D, m, c, h1, h2, h3, h4⟩ := hax
    have XO := Lib.hid hx
    have G5 := Lib.hid k5
    have H1 := Lib.hid h1
    have H2 := Lib.hid h2
    have H3 := Lib.hid h3
    have PM := Lib.hid hm
    have LB := Lib.hid (show w.heap.size + 3 ≤ B by simpa using hB)
    have LB2 := Lib.hid hB2
    have PL := Lib.hid (show pre.length ≤ 5000 by omega)
    have c0 := h1.cell (i := 0) rfl
    clear hx k5 h1 h2 h3 hB hB2 hm h4
    gi_wp2_with (first
      | (refine in_plain (wide_in l) rfl (by intro c h; cases h) ?_; refine wpList_load_v t24 rfl _ rfl g5 0 x rfl G5.out.range XO.out.len ?_; refine in_done ?_)
      | (refine in_plain (wide_in l) rfl (by intro c h; cases h) ?_; refine wpList_oneG L24 rfl _ rfl x rfl XO.out ?_; intro g6 w6 e6 N6 B6; refine in_done ?_)
      | (refine in_plain (wide_in l) rfl (by intro c h; cases h) ?_; refine wpList_appG L24 rfl _ _ rfl B _ pre x g6 rfl rfl (H2.out.below B6.out) XO.out N6.out PL.out (Nat.le_trans LB2.out B6.out.size) ?_; intro D7 m7 c7 w7 e7 O7 B7 G7; refine in_done ?_)
      | (refine in_plain (wide_in l) rfl (by intro c h; cases h) ?_; refine wpList_store40 rfl _ _ rfl w.heap.size (.slice D m c) D7 m7 c7 rfl rfl ((H1.out.below B6.out).upto B7.out (by have := LB.out; omega)) ?_; intro w8 N8 O8; refine in_done ?_))
    have BW := Lib.hid (show Below B W w7 from (B6.out.mono LB2.out).trans B7.out)
    refine ⟨?_, fun k hk1 hk2 => ?_, D7, m7, c7, N8.out, ?_, ?_, ?_⟩
    · exact (KeepL.below BW.out (by have := LB.out; omega)).trans (KeepL.only O8.out (by omega) (by omega) (by have := BW.out.size; have := LB2.out; have := LB.out; omega))
    · exact (O8.out.block k (by have := BW.out.size; have := LB2.out; omega) (by omega)).trans (BW.out.block k hk2)
    · exact O7.out.only O8.out (.inr (fun k e e2 => O7.out.ge (i := w.heap.size) (by have := LB.out; omega) (e2 ▸ e)))
    · exact (H3.out.trans (BW.out.mono (by have := LB.out; omega))).trans (O8.out.below (Nat.le_refl _) (by have := BW.out.size; have := LB2.out; have := LB.out; omega))
    · rw [List.length_append, List.length_singleton]; have := PM.out; omega
  case done =>
    intro D B s W hD hD2 hB hf hi hd
    obtain ⟨D1, m1, c1, h1, h2, h3, h4⟩ := hi
    have F := Lib.hid hf
    have OW := Lib.hid h2
    have H3 := Lib.hid h3
    have c0 := h1.cell (i := 0) rfl
    have HD := Lib.hid hd
    have LB := Lib.hid (show w.heap.size + 3 ≤ B by simpa using hB)
    have LD := Lib.hid (show w.heap.size + 1 ≤ D ∧ D < w.heap.size + 3 by simpa using And.intro hD hD2)
    clear hd h1 h2 h3 hf
    show K0 _ _
    refine hK0 _ _ ?_
    gi_wp2_with fail
    refine marks_ret D rfl HD.out (results_tmp rfl _ _ _) ?_
    exact ⟨⟨_, s, rfl, F.out, (OW.out.down (by have := LB.out; omega)).put (OW.out.ge (by have := LB.out; have := LD.out; omega))⟩, below_put H3.out (by have := LD.out; omega)⟩
  case stop =>
    intro D W hD hx hd
    exact hx.elim
set_option maxRecDepth 100000 in
theorem collectV_is (gf : Nat) (lb : Array Value) (N : World → Prop) (Nx : List (List Int) → List Int → Prop) (Fin : List (List Int) → Prop) (M : Nat) (w : World) (eg : ∀ args w, (callFunc gf args).run Try.prog w = .ok (.enter gf args) w)
    (hseq : SeqGen gf lb N encV Nx Fin) (hN : ∀ V, Below w.heap.size w V → N V) (hM : M ≤ 4000) (hNx : ∀ pre x, Nx pre x → VOk x ∧ pre.length < M) :
    Calls Try.prog 31 #[.func (.func gf) #[] lb] w (GivesG w Fin) := by
  have HC := Lib.hid (appendSeq_is gf lb N Nx Fin M w eg hseq hN hM hNx)
  clear hseq hN hNx
  go_enter Try.func31, Try.ntmps31
  go_wp2_with fail
  refine HC.out.mono ?_
  rintro e w1 ⟨⟨v, s, rfl, hf, ho⟩, b1⟩
  have F := Lib.hid hf
  have O := Lib.hid ho
  have B := Lib.hid b1
  clear hf ho b1
  go_wp2_with fail
  go_ret
  exact ⟨⟨_, s, rfl, F.out, O.out⟩, B.out⟩
set_option maxRecDepth 100000 in
theorem keysV_is (b : Nat) (w : World) : Calls Try.prog 32 #[.map (some b)] w fun e w' => e = .returned (.func (.func 46) #[] #[.pointer (some ⟨w.heap.size, 0, none⟩)]) ∧ Blk w' w.heap.size 41 [.map (some b)] ∧ Below w.heap.size w w' := by
  go_enter Try.func32, Try.ntmps32
  go_wp2_with fail
  go_ret
  exact ⟨rfl, blk_alloc w 41 [.map (some b)], new_below w _⟩
end Go.Proofs.Ytihkncnhkljgpaa
