/- Slices of vectors in memory. Slices of structs or arrays of any one type: what they hold, elements, slices of one's own, appends. Ranges over iterators that hand over any values and may hold memory of their own between the rounds. Ranges over iterators that hand over any values and may hold memory of their own between the rounds. Rows of keys and of names: what they hold, rows of one's own; the contracts of AppendSeq and Collect of slices at keys. The conditions of package tags as function values; the iterator over the tags of a row that meet one. The iterator over the tags of a row that meet a condition: what it hands over. The contracts of Seen, Live and Present of package tags. Loads of whole numbers out of any cell, boxes of rows of cells. Steps of the reference's regions: quotients, conversions, whole rows of cells stored in a region that draws its order. -/
import Derived.Test.YtnpbmihbmilkbaaGreatG23
import Derived.Test.YtnpbmihbmilkbaaGreatG11
import Derived.Test.YtnpbmihbmilkbaaGreatG27
import Derived.Test.YtnpbmihbmilkbaaGreatG14
import Derived.Test.YtnpbmihbmilkbaaGreatG12
namespace Go.Proofs.YtnpbmihbmilkbaaGreat
open Go.RowKit
/-- The slice of n vectors at A holds the list ls. -/
structure VsV (w : World) (A : Option Addr) (n cap : Nat) (ls : List (List Int)) : Prop where
  ok : ∀ l ∈ ls, VOk l
  len : ls.length = n
  le : n ≤ cap
  most : cap ≤ maxLen
  at_ : 0 < n → ∃ G off, A = some ⟨G, off, none⟩ ∧ G < w.heap.size ∧ ∀ i (h : i < ls.length), w.rangeAt G (off + i * 16) (vc ls[i])
theorem VsV.below {w w' : World} {A : Option Addr} {n cap : Nat} {l : List (List Int)} (h : VsV w A n cap l) (hb : Below w.heap.size w w') : VsV w' A n cap l :=
  ⟨h.ok, h.len, h.le, h.most, fun h0 => by
    obtain ⟨G, off, ha, hG, hr⟩ := h.at_ h0
    exact ⟨G, off, ha, Nat.lt_of_lt_of_le hG hb.size, fun i hi j v hv => (hb.cell (p := ⟨G, off + i * 16 + j, none⟩) hG).trans (hr i hi j v hv)⟩⟩
theorem VsV.drew {w : World} {A : Option Addr} {n cap : Nat} {l : List (List Int)} (h : VsV w A n cap l) : VsV w.drew A n cap l := h.below (below_drew (Below.refl _ _))
/-- Where the vector i of the list lies. -/
structure VElem (w : World) (A : Option Addr) (n G o i : Nat) (a : List Int) : Prop where
  ok : VOk a
  ad : ∃ off, A = some ⟨G, off, none⟩ ∧ o = off + i * 16
  lt : i < n
  blk : G < w.heap.size
  rg : w.rangeAt G o (vc a)
theorem VsV.elem {w : World} {A : Option Addr} {n cap : Nat} {l : List (List Int)} (h : VsV w A n cap l) (i : Nat) (hi : i < n) : ∃ G o, VElem w A n G o i (l.getD i vz) := by
  obtain ⟨G, off, ha, hG, hr⟩ := h.at_ (by omega)
  have hi' : i < l.length := by rw [h.len]; exact hi
  have e : l.getD i vz = l[i] := by simp [List.getD, List.getElem?_eq_getElem hi']
  rw [e]
  exact ⟨G, off + i * 16, h.ok _ (List.getElem_mem _), ⟨off, ha, rfl⟩, hi, hG, hr i hi'⟩
theorem VElem.below {w w' : World} {A : Option Addr} {n G o i : Nat} {a : List Int} (h : VElem w A n G o i a) (hb : Below w.heap.size w w') : VElem w' A n G o i a :=
  ⟨h.ok, h.ad, h.lt, Nat.lt_of_lt_of_le h.blk hb.size, fun j v hv => (hb.cell (p := ⟨G, o + j, none⟩) h.blk).trans (h.rg j v hv)⟩
end Go.Proofs.YtnpbmihbmilkbaaGreat
namespace Go.Proofs.YtnpbmihbmilkbaaGreat
open Go.RowKit
/-- A type of elements: their cells, what fits, the type, the slice's type, cells and bytes, the zero. -/
structure ElT (α : Type) where
  enc : α → List Value
  ok : α → Prop
  t : TypeId
  s : TypeId
  sz : Nat
  by_ : Nat
  z : α
structure ElT.Laws {α : Type} (E : ElT α) : Prop where
  und : Tryz.prog.underlying E.s = some (.slice E.t)
  info : (Tryz.prog.info? E.t).map (fun i => (i.zero, i.size, i.bytes)) = some (some (.agg (E.enc E.z).toArray), E.sz, E.by_)
  zok : E.ok E.z
  len : ∀ a, E.ok a → (E.enc a).length = E.sz
  ones : ∀ a, ∀ u ∈ E.enc a, u.oneCell' = true
  pos : 0 < E.sz
  bpos : 0 < E.by_
  bmax : E.by_ ≤ 1000
  smax : E.sz ≤ 1000
  fill : ∀ cs : List Value, cs.length = E.sz → Instr.fill (fun i => some (i * E.sz, E.sz)) ((Array.range (1 * E.sz)).map ((E.enc E.z).toArray[· % (E.enc E.z).toArray.size]!)) [(0, .agg cs.toArray)] = some cs.toArray
section
variable {α : Type} {E : ElT α}
def acsG (E : ElT α) (l : List α) : List Value := l.flatMap E.enc
/-- The slice of n elements at A holds the list l. -/
structure RowG (E : ElT α) (w : World) (A : Option Addr) (n cap : Nat) (l : List α) : Prop where
  ok : ∀ a ∈ l, E.ok a
  len : l.length = n
  le : n ≤ cap
  most : cap ≤ maxLen
  at_ : 0 < n → ∃ G off, A = some ⟨G, off, none⟩ ∧ G < w.heap.size ∧ ∀ i (h : i < l.length), w.rangeAt G (off + i * E.sz) (E.enc l[i])
theorem RowG.below {w w' : World} {A : Option Addr} {n cap : Nat} {l : List α} (h : RowG E w A n cap l) (hb : Below w.heap.size w w') : RowG E w' A n cap l :=
  ⟨h.ok, h.len, h.le, h.most, fun h0 => by
    obtain ⟨G, off, ha, hG, hr⟩ := h.at_ h0
    exact ⟨G, off, ha, Nat.lt_of_lt_of_le hG hb.size, fun i hi j v hv => (hb.cell (p := ⟨G, off + i * E.sz + j, none⟩) hG).trans (hr i hi j v hv)⟩⟩
theorem RowG.drew {w : World} {A : Option Addr} {n cap : Nat} {l : List α} (h : RowG E w A n cap l) : RowG E w.drew A n cap l := h.below (below_drew (Below.refl _ _))
/-- Where the element i of the list lies. -/
structure GElem (E : ElT α) (w : World) (A : Option Addr) (n G o i : Nat) (a : α) : Prop where
  ok : E.ok a
  ad : ∃ off, A = some ⟨G, off, none⟩ ∧ o = off + i * E.sz
  lt : i < n
  blk : G < w.heap.size
  rg : w.rangeAt G o (E.enc a)
theorem RowG.elem {w : World} {A : Option Addr} {n cap : Nat} {l : List α} (h : RowG E w A n cap l) (d : α) (i : Nat) (hi : i < n) : ∃ G o, GElem E w A n G o i (l.getD i d) := by
  obtain ⟨G, off, ha, hG, hr⟩ := h.at_ (by omega)
  have hi' : i < l.length := by rw [h.len]; exact hi
  have e : l.getD i d = l[i] := by simp [List.getD, List.getElem?_eq_getElem hi']
  rw [e]
  exact ⟨G, off + i * E.sz, h.ok _ (List.getElem_mem _), ⟨off, ha, rfl⟩, hi, hG, hr i hi'⟩
theorem GElem.below {w w' : World} {A : Option Addr} {n G o i : Nat} {a : α} (h : GElem E w A n G o i a) (hb : Below w.heap.size w w') : GElem E w' A n G o i a :=
  ⟨h.ok, h.ad, h.lt, Nat.lt_of_lt_of_le h.blk hb.size, fun j v hv => (hb.cell (p := ⟨G, o + j, none⟩) h.blk).trans (h.rg j v hv)⟩
/-- A list that the call owns. -/
structure OwnG (E : ElT α) (w : World) (B : Nat) (v : Value) (l : List α) : Prop where
  ok : ∀ a ∈ l, E.ok a
  row : w.ownsRow B E.t E.sz v l.length (acsG E l)
theorem OwnG.below {w w' : World} {B : Nat} {v : Value} {l : List α} (h : OwnG E w B v l) (hb : Below w.heap.size w w') : OwnG E w' B v l :=
  ⟨h.ok, h.row.kept (row := none) ⟨hb.os, hb.tape, hb.output, hb.size, fun k hk _ => hb.block k hk⟩ (by cases v.ownBlock <;> simp)⟩
theorem OwnG.drew {w : World} {B : Nat} {v : Value} {l : List α} (h : OwnG E w B v l) : OwnG E w.drew B v l := h.below (below_drew (Below.refl _ _))
theorem OwnG.alloc {w : World} {B : Nat} {v : Value} {l : List α} (h : OwnG E w B v l) (o : Obj) : OwnG E (w.alloc o) B v l := h.below (new_below w o)
theorem OwnG.down {w : World} {B C : Nat} {v : Value} {l : List α} (h : OwnG E w B v l) (hC : C ≤ B) : OwnG E w C v l := by
  refine ⟨h.ok, h.row.1, ?_⟩
  rcases h.row.2 with h0 | ⟨g, cap, cur, e, hb, r⟩
  · exact .inl h0
  · exact .inr ⟨g, cap, cur, e, Nat.le_trans hC hb, r⟩
theorem OwnG.shape {w : World} {B : Nat} {v : Value} {l : List α} (h : OwnG E w B v l) : ∃ A cap, v = .slice A l.length cap := by
  rcases h.row.2 with ⟨rfl, h0⟩ | ⟨g, cap, cur, rfl, _⟩
  · exact ⟨none, 0, by rw [h0]⟩
  · exact ⟨_, _, rfl⟩
theorem OwnG.ge {w : World} {B : Nat} {v : Value} {l : List α} {i : Nat} (h : OwnG E w B v l) (hi : i < B) : v.ownBlock ≠ some i := fun e => by have := (h.row.lt i e).1; omega
theorem OwnG.put {w : World} {B : Nat} {v : Value} {l : List α} {i : Nat} {o : Obj} (h : OwnG E w B v l) (hn : v.ownBlock ≠ some i) : OwnG E (w.putObj i o) B v l :=
  ⟨h.ok, h.row.kept (row := some i) ⟨rfl, rfl, rfl, by simp, fun k _ hn => World.putObj_heap_other (fun e => hn (by rw [e]))⟩ (.inr hn)⟩
theorem OwnG.ne {w : World} {B : Nat} {v : Value} {l : List α} {g t : Nat} {cs : List Value} (h : OwnG E w B v l) (hb : Blk w g t cs) (ht : t ≠ E.t) : v.ownBlock ≠ some g := by
  rcases h.row.2 with ⟨rfl, _⟩ | ⟨g', cap, cur, rfl, _, hg, _⟩
  · simp [Value.ownBlock]
  · intro e
    obtain rfl : g' = g := by simpa [Value.ownBlock] using e
    unfold Blk at hb
    rw [hg] at hb
    simp only [Option.some.injEq, Obj.cells.injEq] at hb
    exact ht hb.2.1.symm
theorem OwnG.only {w w' : World} {B g : Nat} {v : Value} {l : List α} (h : OwnG E w B v l) (ho : Only g w w') (hg : w.heap.size ≤ g ∨ ∀ k, v.ownBlock = some k → k ≠ g) : OwnG E w' B v l :=
  ⟨h.ok, h.row.kept (row := some g) ⟨ho.os, ho.tape, ho.output, ho.size, fun k hk hn => ho.block k hk (fun e => hn (by rw [e]))⟩ (by
    rcases hg with hg | hg
    · cases e : v.ownBlock with
      | none => exact .inl rfl
      | some k => right; intro e2; have := (h.row.lt k e).2; have := Option.some.inj e2; omega
    · cases e : v.ownBlock with
      | none => exact .inl rfl
      | some k => right; intro e2; exact hg k e (Option.some.inj e2))⟩
end
theorem take_getDG {α : Type} (d : α) {l : List α} {j : Nat} (h : j < l.length) : l.take (j + 1) = l.take j ++ [l.getD j d] := by
  rw [List.take_add_one]
  simp [List.getD, List.getElem?_eq_getElem h]
/-! Vectors. -/
end Go.Proofs.YtnpbmihbmilkbaaGreat
namespace Go.Proofs.YtnpbmihbmilkbaaGreat
open Go.RowKit Go.Shelf
attribute [local go_sem] Oper.semAt_some
/-- The iterator hands over one value behind the other, each as Nx allows, till one asks no more; what it was to hand over, Fin says. Its own memory lies from its start up to B: the rounds leave it alone, and stand what it does there. -/
def SeqGen {α : Type} (gf : Nat) (lb : Array Value) (N : World → Prop) (enc : α → Array Value) (Nx : List α → α → Prop) (Fin : List α → Prop) : Prop :=
  ∀ (l : Nat) (J : Nat → List α → World → Prop) (X : World → Prop) (W : World),
    (∀ B pre V V', J B pre V → Below V.heap.size V V' → J B pre V') → (∀ B pre V V' g, J B pre V → Only g V V' → W.heap.size ≤ g → g < B → J B pre V') → (∀ B pre V, J B pre V → N V) → (∀ V V' g, X V → Only g V V' → W.heap.size ≤ g → X V') →
    (∀ B pre x V, Nx pre x → J B pre V → W.heap.size ≤ B → B ≤ V.heap.size → YieldAt Fence.wide 9 Tryz.prog l (enc x) V fun e V' => V.heap.size ≤ V'.heap.size ∧ (∀ k, W.heap.size ≤ k → k < B → V'.heap[k]? = V.heap[k]?) ∧ ((e = .returned (.bool true) ∧ J B (pre ++ [x]) V') ∨ (e = .returned (.bool false) ∧ X V'))) →
    N W → (∀ B V, W.heap.size ≤ B → B ≤ V.heap.size → Below W.heap.size W V → J B [] V) → Calls Tryz.prog gf (#[.func (.yield l) #[] #[]] ++ lb) W fun e V' => (∃ v, e = .returned v) ∧ ((∃ s B, Fin s ∧ J B s V') ∨ X V')
theorem range_gen {α : Type} {n : Nat} {g : Operand} {ps : Array Tmp} {assign body : Code} {Q : Exit → Act → World → Prop} {a : Act} {w : World} {gf : Nat} {lb : Array Value} {enc : α → Array Value} {Nx : List α → α → Prop} {Fin : List α → Prop}
    (hg : a.eval g = .func (.func gf) #[] lb) (eg : ∀ args w, (callFunc gf args).run Tryz.prog w = .ok (.enter gf args) w) {N : World → Prop} (hseq : SeqGen gf lb N enc Nx Fin) (hps : ∀ x, ps.size = (enc x).size)
    (I : Nat → List α → World → Prop) (X : World → Prop) (hIb : ∀ B pre W W', I B pre W → Below W.heap.size W W' → I B pre W') (hIo : ∀ B pre W W' h, I B pre W → Only h W W' → w.heap.size + 2 ≤ h → h < B → I B pre W') (hIp : ∀ B pre W o, w.heap.size + 2 ≤ B → I B pre W → I B pre (W.putObj (w.heap.size + 1) o)) (hXp : ∀ W o, X W → X (W.putObj (w.heap.size + 1) o)) (hXo : ∀ W W' h, X W → Only h W W' → w.heap.size + 2 ≤ h → X W') (hIn : ∀ B pre W, I B pre W → N W) (hN0 : ∀ W, Below w.heap.size w W → N W)
    (h0 : ∀ B V, w.heap.size + 2 ≤ B → B ≤ V.heap.size → Below w.heap.size w V → I B [] V)
    (Ax : Nat → List α → α → Act → World → Prop) (hAp : ∀ B pre x a' W o, w.heap.size + 2 ≤ B → Ax B pre x a' W → Ax B pre x a' (W.putObj (w.heap.size + 1) o))
    (hassign : ∀ (l B : Nat) (pre : List α) (x : α) (W : World) (K : Act → World → Prop), Nx pre x → I B pre W → w.heap.size + 2 ≤ B → B ≤ W.heap.size → w.heap.size + 1 < W.heap.size → (∀ a' W', Below W.heap.size W W' → Ax B pre x a' W' → K a' W') →
      assign.wpIn (Fence.wide.inRound l) 9 Tryz.prog (Exit.then K (fun _ _ _ => False)) { tmps := (ps.zip (enc x)).foldl (fun t (q, v) => t.setIfInBounds q v) a.tmps, defers := [] } W)
    (hbody : ∀ (l B : Nat) (pre : List α) (x : α) (a' : Act) (W : World), Nx pre x → Ax B pre x a' W → w.heap.size + 2 ≤ B → B ≤ W.heap.size → w.heap.size + 1 < W.heap.size →
      body.wpIn (Fence.wide.inRound l) 9 Tryz.prog (fun e _ W' => KeepL w.heap.size W W' ∧ (∀ k, w.heap.size + 2 ≤ k → k < B → W'.heap[k]? = W.heap[k]?) ∧ ((e = .normal ∧ I B (pre ++ [x]) W') ∨ (e = .ret ∧ X W'))) a' W)
    (hdone : ∀ (D B : Nat) (s : List α) (W : World), w.heap.size ≤ D → D < w.heap.size + 2 → w.heap.size + 2 ≤ B → Fin s → I B s W → W.heap[D]? = some (.deferred (some [])) → Q .normal { a with defers := { target := .collected D, args := #[] } :: a.defers } W)
    (hstop : ∀ (D : Nat) (W : World), w.heap.size ≤ D → X W → W.heap[D]? = some (.deferred (some [])) → Code.ret.wpIn Fence.wide n Tryz.prog Q { a with defers := { target := .collected D, args := #[] } :: a.defers } W) :
    (Code.rangeFunc g ps assign body).wpIn Fence.wide n Tryz.prog Q a w := by
  refine wpIn_rangeFunc fun fn _ => ?_
  obtain ⟨rc, hR⟩ : ∃ rc : LoopState → Option Code → Loop, rc = fun st pe => { state := st, pending := pe, fn, tmps := a.tmps, params := ps, assign, body, defers := w.heap.size } := ⟨_, rfl⟩
  obtain ⟨V, hV⟩ : ∃ V, (w.alloc (.deferred (some []))).alloc (.loop (rc .ready none)) = V := ⟨_, rfl⟩
  have hVl : V.heap[w.heap.size + 1]? = some (.loop (rc .ready none)) := by
    have h := World.alloc_heap_new (w.alloc (.deferred (some []))) (.loop (rc .ready none))
    rw [hV, World.size_alloc] at h; exact h
  have hVd : V.heap[w.heap.size]? = some (.deferred (some [])) := by
    rw [← hV]; exact (Below.heap_alloc _ _ _ (by simp)).trans (World.alloc_heap_new w _)
  have hVs : V.heap.size = w.heap.size + 2 := by rw [← hV]; simp
  have hVb : Below w.heap.size w V := by rw [← hV]; exact step_ (new_below w _) (new_below _ _)
  have busyD : ∀ (W : World) (o : Obj), W.heap[w.heap.size]? = some (.deferred (some [])) → (W.putObj (w.heap.size + 1) o).heap[w.heap.size]? = some (.deferred (some [])) := fun W o h => (World.putObj_heap_other (by omega)).trans h
  refine ⟨w.heap.size + 1, [{ target := .collected w.heap.size, args := #[] }], V, { target := .fn (.func gf) lb, args := #[.func (.yield (w.heap.size + 1)) #[] #[]] }, V, gf,
    #[.func (.yield (w.heap.size + 1)) #[] #[]] ++ lb, V, ?_, ?_, fun _ _ => trivial, ?_, (fun h => by cases h), ?_⟩
  · rw [← hV, hR]; exact run_enterLoop_outer _ _ _ _ _
  · simp only [resolve, hg]; simp [go_sem]
  · simp [invoke, go_sem, eg]
  refine callsIn_wide.2 ((hseq (w.heap.size + 1)
    (fun B pre W => w.heap.size + 2 ≤ B ∧ I B pre W ∧ (W.heap[w.heap.size + 1]? = some (.loop (rc .ready none)) ∧ W.heap[w.heap.size]? = some (.deferred (some []))))
    (fun W => X W ∧ (W.heap[w.heap.size + 1]? = some (.loop (rc .done (some .ret))) ∧ W.heap[w.heap.size]? = some (.deferred (some [])))) V
    (fun B pre A C h hb => ⟨h.1, hIb _ _ _ _ h.2.1 hb, (hb.block _ (Array.getElem?_eq_some_iff.1 h.2.2.1).1).trans h.2.2.1, (hb.block _ (Array.getElem?_eq_some_iff.1 h.2.2.2).1).trans h.2.2.2⟩)
    (fun B pre A C h hi ho h1 h2 => ⟨hi.1, hIo _ _ _ _ _ hi.2.1 ho (by omega) h2, (ho.block _ (Array.getElem?_eq_some_iff.1 hi.2.2.1).1 (by omega)).trans hi.2.2.1, (ho.block _ (Array.getElem?_eq_some_iff.1 hi.2.2.2).1 (by omega)).trans hi.2.2.2⟩)
    (fun B pre A h => hIn _ _ _ h.2.1) (fun A C h hx ho h1 => ⟨hXo _ _ _ hx.1 ho (by omega), (ho.block _ (Array.getElem?_eq_some_iff.1 hx.2.1).1 (by omega)).trans hx.2.1, (ho.block _ (Array.getElem?_eq_some_iff.1 hx.2.2).1 (by omega)).trans hx.2.2⟩) ?round (hN0 _ hVb) (fun B V' h1 h2 hb => ⟨by omega, h0 _ _ (by omega) h2 (hVb.trans (hb.mono (by omega))), (hb.block _ (by omega)).trans hVl, (hb.block _ (by omega)).trans hVd⟩)).mono ?done)
  case done =>
    rintro e W ⟨⟨v, rfl⟩, (⟨s, B, hf, hB, hi, hl, hd⟩ | ⟨hx, hl, hd⟩)⟩
    · refine ⟨none, _, by have := run_endLoop (P := Tryz.prog) hl (by rw [hR]; simp); rw [hR] at this; exact this, ?_⟩
      exact hdone _ _ _ _ (Nat.le_refl _) (by omega) hB hf (hIp _ _ _ _ hB hi) (busyD W _ hd)
    · refine ⟨some .ret, _, by have := run_endLoop (P := Tryz.prog) hl (by rw [hR]; simp); rw [hR] at this; exact this, ?_⟩
      exact hstop _ _ (Nat.le_refl _) (hXp _ _ hx) (busyD W _ hd)
  case round =>
    rintro B pre x W hnx ⟨hB, hi, hl, hd⟩ hB1 hB2
    have hy := run_yield (P := Tryz.prog) (args := enc x) hl (by rw [hR]; exact (hps x).symm)
    rw [hR] at hy
    refine ⟨fn, _, assign, body, hy, roundIn_of_wpIn trivial ?_⟩
    have hlt0 := (Array.getElem?_eq_some_iff.1 hl).1
    refine hassign (w.heap.size + 1) B pre x W _ hnx hi hB hB2 hlt0 fun a' W' hs hax => ?_
    have hl' := (hs.block _ hlt0).trans hl
    have hd' := (hs.block _ (Array.getElem?_eq_some_iff.1 hd).1).trans hd
    have hlt := (Array.getElem?_eq_some_iff.1 hl').1
    refine ⟨_, run_beginRound hl' (by rw [hR]), ?_⟩
    have hl2 : (W'.putObj (w.heap.size + 1) (.loop { rc .ready none with state := .busy })).heap[w.heap.size + 1]? = some (.loop { rc .ready none with state := .busy }) := World.putObj_heap_same hlt
    have hsz' := hs.size
    refine wpIn_mono (hbody (w.heap.size + 1) B pre x a' _ hnx (hAp _ _ _ _ _ _ hB hax) hB (by simp; omega) (by simpa using hlt)) ?_
    rintro e a3 W3 ⟨hk3, hkb, hp⟩
    have hl3 := hk3.two.trans hl2
    have hd3 := hk3.one.trans (busyD W' _ hd')
    have hsz3 : W.heap.size ≤ W3.heap.size := by have h1 := hk3.size; simp at h1; omega
    have hkeep : ∀ (o : Obj) (k : Nat), V.heap.size ≤ k → k < B → (W3.putObj (w.heap.size + 1) o).heap[k]? = W.heap[k]? := fun o k h1 h2 => by
      rw [World.putObj_heap_other (by omega), hkb k (by omega) h2, World.putObj_heap_other (by omega)]
      exact hs.block k (by omega)
    rcases hp with ⟨rfl, hi3⟩ | ⟨rfl, hx3⟩
    · refine ⟨_, _, run_endRound none hl3, by simp; omega, hkeep _, .inl ⟨rfl, hB, hIp _ _ _ _ hB hi3, ?_, busyD W3 _ hd3⟩⟩
      rw [World.putObj_heap_same (Array.getElem?_eq_some_iff.1 hl3).1, hR]; rfl
    · refine ⟨_, _, run_endRound (some .ret) hl3, by simp; omega, hkeep _, .inr ⟨rfl, hXp _ _ hx3, ?_, busyD W3 _ hd3⟩⟩
      rw [World.putObj_heap_same (Array.getElem?_eq_some_iff.1 hl3).1, hR]; rfl
end Go.Proofs.YtnpbmihbmilkbaaGreat
namespace Go.Proofs.YtnpbmihbmilkbaaGreat
open Go.RowKit Go.Shelf
attribute [local go_sem] Oper.semAt_some
end Go.Proofs.YtnpbmihbmilkbaaGreat
namespace Go.Proofs.YtnpbmihbmilkbaaGreat
open Go.RowKit Go.Shelf
attribute [local go_sem] Oper.semAt_some
end Go.Proofs.YtnpbmihbmilkbaaGreat
namespace Go.Proofs.YtnpbmihbmilkbaaGreat
open Go.RowKit Go.Shelf
attribute [local go_sem] Oper.semAt_some
end Go.Proofs.YtnpbmihbmilkbaaGreat
namespace Go.Proofs.YtnpbmihbmilkbaaGreat
open Go.RowKit Go.Shelf
attribute [local go_sem] Oper.semAt_some
end Go.Proofs.YtnpbmihbmilkbaaGreat
namespace Go.Proofs.YtnpbmihbmilkbaaGreat
open Go.RowKit Go.Shelf
attribute [local go_sem] Oper.semAt_some
end Go.Proofs.YtnpbmihbmilkbaaGreat
namespace Go.Proofs.YtnpbmihbmilkbaaGreat
open Go.RowKit Go.Shelf
attribute [local go_sem] Oper.semAt_some
end Go.Proofs.YtnpbmihbmilkbaaGreat
namespace Go.Proofs.YtnpbmihbmilkbaaGreat
open Go.RowKit
end Go.Proofs.YtnpbmihbmilkbaaGreat
namespace Go.Proofs.YtnpbmihbmilkbaaGreat
open Go.RowKit Go.Shelf
attribute [local go_sem] Oper.semAt_some
def NxA (s : List Am) (pre : List Am) (x : Am) : Prop := ∃ rest, s = pre ++ x :: rest
theorem each_gen (Bs : Nat) (D : Option Addr) (m c : Nat) (s : List Am) (hm : m ≤ 1000) : SeqGen 51 #[.pointer (some ⟨Bs, 0, none⟩)] (fun V => Blk V Bs 23 [.slice D m c] ∧ RowV V D m c s) encP (NxA s) (fun t => t = s) := by
  intro l J X W hJb _ hJn _ hY _ h0
  refine ((each_seq Bs D m c s hm) l (fun pre V => W.heap.size ≤ V.heap.size ∧ J W.heap.size pre V) X W (fun pre V V' h hb => ⟨Nat.le_trans h.1 hb.size, hJb _ _ _ _ h.2 hb⟩) (fun pre V h => hJn _ _ _ h.2) ?_ ⟨Nat.le_refl _, h0 _ _ (Nat.le_refl _) (Nat.le_refl _) (Below.refl _ _)⟩).mono ?_
  · rintro pre x rest V hs ⟨h1, h2⟩
    refine (hY W.heap.size pre x V ⟨rest, hs⟩ h2 (Nat.le_refl _) h1).mono ?_
    rintro e V' ⟨h3, _, (⟨he, h4⟩ | ⟨he, h4⟩)⟩
    · exact .inl ⟨he, Nat.le_trans h1 h3, h4⟩
    · exact .inr ⟨he, h4⟩
  · rintro e V ⟨h1, (⟨_, h2⟩ | h2)⟩
    · exact ⟨h1, .inl ⟨s, _, rfl, h2⟩⟩
    · exact ⟨h1, .inr h2⟩
theorem rowV_seg {lo : Nat} {w w' : World} {A : Option Addr} {n cap : Nat} {l : List Am} (h : RowV w A n cap l) (hf : ∀ G off, A = some ⟨G, off, none⟩ → lo ≤ G) (hs : ∀ k, lo ≤ k → k < w.heap.size → w'.heap[k]? = w.heap[k]?) (hz : w.heap.size ≤ w'.heap.size) : RowV w' A n cap l :=
  ⟨h.ok, h.len, h.le, h.most, fun h0 => by
    obtain ⟨G, off, ha, hG, hr⟩ := h.at_ h0
    refine ⟨G, off, ha, Nat.lt_of_lt_of_le hG hz, fun i hi j v hv => ?_⟩
    have h1 := hr i hi j v hv
    unfold World.cell? at *
    rw [show w'.heap[(⟨G, off + i * 21 + j, none⟩ : Addr).block]? = w.heap[(⟨G, off + i * 21 + j, none⟩ : Addr).block]? from hs G (hf G off ha) hG]
    exact h1⟩
/-- What the iterator keeps: its own blocks stand as they stood in w2. -/
structure Own2 (lo : Nat) (w2 V : World) : Prop where
  same : ∀ k, lo ≤ k → k < w2.heap.size → V.heap[k]? = w2.heap[k]?
  size : w2.heap.size ≤ V.heap.size
theorem Own2.below {lo : Nat} {w2 V V' : World} (h : Own2 lo w2 V) (hb : Below V.heap.size V V') : Own2 lo w2 V' :=
  ⟨fun k h1 h2 => (hb.block k (by have := h.size; omega)).trans (h.same k h1 h2), Nat.le_trans h.size hb.size⟩
theorem Own2.only {lo g : Nat} {w2 V V' : World} (h : Own2 lo w2 V) (hb : Only g V V') (hg : w2.heap.size ≤ g) : Own2 lo w2 V' :=
  ⟨fun k h1 h2 => (hb.block k (by have := h.size; omega) (by omega)).trans (h.same k h1 h2), Nat.le_trans h.size hb.size⟩
theorem Own2.put {lo i : Nat} {w2 V : World} {o : Obj} (h : Own2 lo w2 V) (hg : w2.heap.size ≤ i) : Own2 lo w2 (V.putObj i o) :=
  ⟨fun k h1 h2 => (World.putObj_heap_other (by omega)).trans (h.same k h1 h2), by simpa using h.size⟩
theorem Own2.blk {lo g t : Nat} {w2 V : World} {cs : List Value} (h : Own2 lo w2 V) (hb : Blk w2 g t cs) (hl : lo ≤ g) : Blk V g t cs := (h.same g hl hb.lt).trans hb
theorem only_putObj (w : World) (i : Nat) (o : Obj) : Only i w (w.putObj i o) :=
  ⟨rfl, rfl, rfl, by simp, fun k _ hn => World.putObj_heap_other hn⟩
end Go.Proofs.YtnpbmihbmilkbaaGreat
namespace Go.Proofs.YtnpbmihbmilkbaaGreat
open Go.RowKit Go.Shelf
attribute [local go_sem] Oper.semAt_some
end Go.Proofs.YtnpbmihbmilkbaaGreat
namespace Go.Proofs.YtnpbmihbmilkbaaGreat
open Go.RowKit
theorem run_load_i {t : TypeId} {ik : IntKind} (hu : Tryz.prog.underlying t = some (.int ik)) (w : World) (G off : Nat) (d : Int) (h : w.cell? ⟨G, off, none⟩ = some (.int ik d)) : (Instr.loadAt t (.pointer (some ⟨G, off, none⟩))).run Tryz.prog w = .ok (.int ik d) w := by
  simp [Instr.loadAt, Instr.sureAddr, loadVar, isAgg, run_underlying hu, h]
theorem quiet_load_i {o : Oper} {a : Act} {W : World} {K : Act → Prop} {t : TypeId} {ik : IntKind} (hu : Tryz.prog.underlying t = some (.int ik)) (G off : Nat) (d : Int) (x : Operand) (ho : o.op = .load t x) (hx : a.eval x = .pointer (some ⟨G, off, none⟩)) (hat : W.cell? ⟨G, off, none⟩ = some (.int ik d))
    (hk : K (a.put o.dst (.int ik d))) : o.quiet Tryz.prog a (Cls W) K := by
  refine ⟨.int ik d, fun w hw => ?_, hk⟩
  obtain ⟨t, rfl⟩ := hw
  have h := run_load_i hu t.1 G off d ((t.2.cell (p := ⟨G, off, none⟩) (World.block_lt_of_cell? W _ hat)).trans hat)
  unfold Oper.quietAt
  have e : (execOp a.eval o).run Tryz.prog t.1 = .ok (.value (.int ik d)) t.1 := by
    simp [execOp, ho, hx, h]
  rw [e]
  exact ⟨rfl, rfl⟩
section
variable {ops : Array Oper} {rest : List Oper} {op : Oper} {a : Act} {w : World} {Q : Exit → Act → World → Prop}
end
theorem exec_store_i {t : TypeId} {ik : IntKind} (hz : ∀ w, (sizeOf t).run Tryz.prog w = .ok 1 w) {o : Oper} {a : Act} {w : World} (x y : Operand) (ho : o.op = .store t x y) (g : Nat) (u : Value) (d : Int) (hx : a.eval x = .pointer (some ⟨g, 0, none⟩)) (hy : a.eval y = .int ik d) (hb : Blk w g t [u]) :
    (execOp a.eval o).run Tryz.prog w = .ok .skip (w.setCell ⟨g, 0, none⟩ (.int ik d)) := by
  have hc := hb.cell (i := 0) rfl
  have hf := hb.frozen 0
  unfold execOp
  simp only [ho, hx, hy]
  simp [go_sem, hz, hc, hf]
theorem wpList_store_i {t : TypeId} {ik : IntKind} (hz : ∀ w, (sizeOf t).run Tryz.prog w = .ok 1 w) {ops : Array Oper} {rest : List Oper} {op : Oper} {a : Act} {w : World} {Q : Exit → Act → World → Prop} (hgd : op.guard = none) (x y : Operand) (ho : op.op = .store t x y) (g : Nat) (u : Value) (d : Int) (hx : a.eval x = .pointer (some ⟨g, 0, none⟩)) (hy : a.eval y = .int ik d) (hb : Blk w g t [u])
    (h : ∀ w', Hid (Blk w' g t [.int ik d]) → Hid (Only g w w') → wpList Tryz.prog ops Q rest (a.put op.dst undef) w') : wpList Tryz.prog ops Q (op :: rest) a w := by
  refine wpList_plain hgd fun K hK => ?_
  unfold Oper.wp
  rw [exec_store_i hz x y ho g u d hx hy hb]
  exact hK _ _ (h _ (Lib.hid (hb.set 0 (.int ik d))) (Lib.hid (Only.set g 0 w (.int ik d))))
end Go.Proofs.YtnpbmihbmilkbaaGreat
namespace Go.Proofs.YtnpbmihbmilkbaaGreat
open Go.RowKit
theorem only_drew (g : Nat) (w : World) : Only g w w.drew := by
  have b := below_drew (Below.refl w.heap.size w)
  exact ⟨b.os, b.tape, b.output, b.size, fun k hk _ => b.block k hk⟩
end Go.Proofs.YtnpbmihbmilkbaaGreat
