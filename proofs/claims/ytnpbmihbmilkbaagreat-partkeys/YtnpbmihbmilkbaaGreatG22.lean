/- A range over a function whose body never leaves it, and an iterator's contract that lets the iterator itself range over another one. The contracts of slices.Chunk over bytes and of the iterator that it returns. The contracts of words of package mix and of the iterator that it returns. The contract of Sum of package mix. The contract of Sum of the reference. -/
import Derived.Test.YtnpbmihbmilkbaaGreatG16
import Derived.Test.YtnpbmihbmilkbaaGreatG21
import Derived.RangeFuncNested
import Derived.RangeFuncBound
import Derived.RangeFuncCalls
import Derived.RangeFuncLeaves
import Derived.Below
import Derived.Shelf.Abstract
import Derived.Shelf.RegionOpen
import Derived.WalkKit
import Derived.OwnWalkIn
import Derived.TacticsInMore
import Derived.LoopNIn
import Derived.LoopIn
namespace Go.Proofs.YtnpbmihbmilkbaaGreat.Mx
open Go.RowKit
/-- What is marked by p, and what lies from c on, lies as it lay. -/
structure Stays (p : Nat → Prop) (c : Nat) (W W' : World) : Prop where
  size : W.heap.size ≤ W'.heap.size
  same : ∀ k, k < W.heap.size → (p k ∨ c ≤ k) → W'.heap[k]? = W.heap[k]?
theorem Stays.refl (p : Nat → Prop) (c : Nat) (W : World) : Stays p c W W := ⟨Nat.le_refl _, fun _ _ _ => rfl⟩
theorem Stays.trans {p : Nat → Prop} {c : Nat} {A B C : World} (h : Stays p c A B) (k : Stays p c B C) : Stays p c A C :=
  ⟨Nat.le_trans h.size k.size, fun i hi hp => (k.same i (Nat.lt_of_lt_of_le hi h.size) hp).trans (h.same i hi hp)⟩
theorem Stays.mono {p q : Nat → Prop} {c d : Nat} {A B : World} (h : Stays p c A B) (hq : ∀ k, (q k ∨ d ≤ k) → p k ∨ c ≤ k) : Stays q d A B := ⟨h.size, fun k hk hp => h.same k hk (hq k hp)⟩
theorem Stays.of_below {p : Nat → Prop} {c : Nat} {A B : World} (h : Below A.heap.size A B) : Stays p c A B := ⟨h.size, fun k hk _ => h.block k hk⟩
theorem Stays.cell {p : Nat → Prop} {c : Nat} {A B : World} (h : Stays p c A B) (a : Addr) (hk : a.block < A.heap.size) (hp : p a.block ∨ c ≤ a.block) : B.cell? a = A.cell? a := World.cell?_of_block (h.same _ hk hp)
theorem Stays.putObj {p : Nat → Prop} {c l : Nat} (W : World) (o : Obj) (hp : ¬ p l) (hc : l < c) : Stays p c W (W.putObj l o) :=
  ⟨by simp, fun k _ hk => World.putObj_heap_other (fun e => by subst e; rcases hk with h | h; exact hp h; omega)⟩
theorem Stays.setCell {p : Nat → Prop} {c : Nat} (W : World) (a : Addr) (v : Value) (hp : ¬ p a.block) (hc : a.block < c) : Stays p c W (W.setCell a v) :=
  ⟨(KeepsWalks.setCell W a v).size, fun k _ hk => Below.heap_setCell W a v k (fun e => by subst e; rcases hk with h | h; exact hp h; omega)⟩
theorem Stays.alloc {p : Nat → Prop} {c : Nat} (W : World) (o : Obj) : Stays p c W (W.alloc o) := ⟨by simp, fun k hk _ => Below.heap_alloc W o k hk⟩
theorem yield_any {P : Program} {l : Nat} {args : Array Value} {W : World} {R : Ending → World → Prop} (h : YieldAt Fence.wide 9 P l args W R) (m : Nat) (r : Option Nat) :
    ∃ fn tmps assign body, (Instr.yield l args).run P W = .ok (.round l fn tmps assign body) W ∧ RoundIn { Fence.wide with round := r } m P l fn tmps assign body W R := by
  obtain ⟨fn, tmps, assign, body, hy, h1, h2⟩ := h
  exact ⟨fn, tmps, assign, body, hy, h1, fun c cs _ => h2 c cs (fun _ hd => by cases hd)⟩
/-- The iterator g hands over xs, one behind the other, to whatever round keeps what p marks and what was laid since the call began. -/
def SeqAll {α : Type} (P : Program) (g : Nat) (lb : Array Value) (encs : α → Array Value) (p : Nat → Prop) (xs : List α) (w : World) : Prop :=
  ∀ (l : Nat) (J : List α → World → Prop) (W : World), Below w.heap.size w W → OwnFrom W.heap.size J →
    (∀ pre x rest W1, xs = pre ++ x :: rest → J pre W1 → YieldAt Fence.wide 9 P l (encs x) W1 fun e W' => e = .returned (.bool true) ∧ J (pre ++ [x]) W' ∧ Stays p W.heap.size W1 W') →
    J [] W → Calls P g (#[.func (.yield l) #[] #[]] ++ lb) W fun e W' => (∃ v, e = .returned v) ∧ J xs W'
theorem own_up {β : Type} {B C : Nat} {I : β → World → Prop} (h : OwnFrom B I) (hB : B ≤ C) : OwnFrom C I := fun s W W' row hs hg hr => h s W W' row hs hg (fun r e => ⟨Nat.le_trans hB (hr r e).1, (hr r e).2⟩)
theorem ownFrom_block {β : Type} {k B : Nat} (o : Obj) (hk : k < B) : OwnFrom B (fun (_ : β) W => W.heap[k]? = some o) := fun _ _ _ _ hs hg hr =>
  (hg.block k (Array.getElem?_eq_some_iff.1 hs).1 (fun e => by have := (hr k e.symm).1; omega)).trans hs
/-- The loop: the rounds are walked once. -/
theorem range_all {α : Type} {P : Program} {n : Nat} {g : Operand} {ps : Array Tmp} {assign body : Code} {Q : Exit → Act → World → Prop} {a : Act} {w : World} {gf : Nat} {lb : Array Value}
    (hg : a.eval g = .func (.func gf) #[] lb) (eg : ∀ args w, (callFunc gf args).run P w = .ok (.enter gf args) w)
    {encs : α → Array Value} {p : Nat → Prop} {xs : List α} (hseq : SeqAll P gf lb encs p xs w) (hp : ∀ k, p k → k < w.heap.size) (hps : ∀ x, (encs x).size = ps.size)
    (I : List α → World → Prop) (hI : OwnFrom w.heap.size I) (h0 : I [] w) (Ax : List α → α → Act → World → Prop) (hAx : ∀ pre x a', OwnFrom w.heap.size (fun (_ : Unit) W => Ax pre x a' W))
    (hassign : ∀ (l : Nat) (pre : List α) (x : α) (rest : List α) (W : World) (K : Act → World → Prop), xs = pre ++ x :: rest → I pre W → (∀ a' W', Stays p w.heap.size W W' → Ax pre x a' W' → K a' W') →
      assign.wpIn (Fence.wide.inRound l) 9 P (Exit.then K (fun _ _ _ => False)) { tmps := (ps.zip (encs x)).foldl (fun t (q, v) => t.setIfInBounds q v) a.tmps, defers := [] } W)
    (hbody : ∀ (l : Nat) (pre : List α) (x : α) (rest : List α) (a' : Act) (W : World), xs = pre ++ x :: rest → Ax pre x a' W →
      body.wpIn (Fence.wide.inRound l) 9 P (fun e _ W' => e = .normal ∧ Stays p w.heap.size W W' ∧ I (pre ++ [x]) W') a' W)
    (hdone : ∀ (D : Nat) (W : World), w.heap.size ≤ D → I xs W → W.heap[D]? = some (.deferred (some [])) → Q .normal { a with defers := { target := .collected D, args := #[] } :: a.defers } W) :
    (Code.rangeFunc g ps assign body).wpIn Fence.wide n P Q a w := by
  refine wpIn_rangeFunc fun fn _ => ?_
  obtain ⟨R, hR⟩ : ∃ R : Loop, R = { state := .ready, pending := none, fn, tmps := a.tmps, params := ps, assign, body, defers := w.heap.size } := ⟨_, rfl⟩
  have hst : R.state = .ready := by rw [hR]
  obtain ⟨V, hV⟩ : ∃ V, (w.alloc (.deferred (some []))).alloc (.loop R) = V := ⟨_, rfl⟩
  have hsz : V.heap.size = w.heap.size + 2 := by rw [← hV]; simp
  have hVl : V.heap[w.heap.size + 1]? = some (.loop R) := by
    have h := World.alloc_heap_new (w.alloc (.deferred (some []))) (.loop R)
    rw [hV, World.size_alloc] at h; exact h
  have hVd : V.heap[w.heap.size]? = some (.deferred (some [])) := by
    rw [← hV]; exact (Below.heap_alloc _ _ _ (by simp)).trans (World.alloc_heap_new w _)
  have hVb : Below w.heap.size w V := by rw [← hV]; exact ((Below.refl _ w).alloc (Nat.le_refl _) _).alloc (by simp) _
  have hVI : I [] V := by rw [← hV]; exact hI.alloc _ (hI.alloc _ h0)
  refine ⟨w.heap.size + 1, [{ target := .collected w.heap.size, args := #[] }], V, { target := .fn (.func gf) lb, args := #[.func (.yield (w.heap.size + 1)) #[] #[]] }, V, gf,
    #[.func (.yield (w.heap.size + 1)) #[] #[]] ++ lb, V, ?_, ?_, fun _ _ => trivial, ?_, (fun h => by cases h), ?_⟩
  · rw [← hV, hR]; exact run_enterLoop_outer _ _ _ _ _
  · simp only [resolve, hg]; simp [go_sem]
  · simp [invoke, go_sem, eg]
  have busyD : ∀ (W : World) (o : Obj), W.heap[w.heap.size]? = some (.deferred (some [])) → (W.putObj (w.heap.size + 1) o).heap[w.heap.size]? = some (.deferred (some [])) := fun W o h => (World.putObj_heap_other (by omega)).trans h
  refine callsIn_wide.2 ((hseq (w.heap.size + 1)
    (fun pre W => I pre W ∧ (W.heap[w.heap.size + 1]? = some (.loop R) ∧ W.heap[w.heap.size]? = some (.deferred (some [])))) V hVb
    (OwnFrom.and (own_up hI (by omega)) (OwnFrom.and (ownFrom_block _ (by omega)) (ownFrom_block _ (by omega)))) ?round ⟨hVI, hVl, hVd⟩).mono ?done)
  case done =>
    rintro e W ⟨⟨v, rfl⟩, hi, hl, hd⟩
    refine ⟨none, _, by rw [run_endLoop hl (by rw [hst]; simp), hR], ?_⟩
    exact hdone _ _ (Nat.le_refl _) (hI.putObj _ hi (by omega) hl rfl) (busyD W _ hd)
  case round =>
    rintro pre x rest W hxs ⟨hi, hl, hd⟩
    have hy := run_yield (P := P) (args := encs x) hl (by rw [hR]; exact hps x)
    rw [hR] at hy
    refine ⟨fn, _, assign, body, hy, roundIn_of_wpIn trivial ?_⟩
    refine hassign (w.heap.size + 1) pre x rest W _ hxs hi fun a' W' hs hax => ?_
    have hl' := (hs.same _ (Array.getElem?_eq_some_iff.1 hl).1 (.inr (by omega))).trans hl
    have hd' := (hs.same _ (Array.getElem?_eq_some_iff.1 hd).1 (.inr (Nat.le_refl _))).trans hd
    have hlt := (Array.getElem?_eq_some_iff.1 hl').1
    refine ⟨_, run_beginRound hl' hst, ?_⟩
    have hl2 : (W'.putObj (w.heap.size + 1) (.loop { R with state := .busy })).heap[w.heap.size + 1]? = some (.loop { R with state := .busy }) := World.putObj_heap_same hlt
    refine wpIn_mono (hbody (w.heap.size + 1) pre x rest a' _ hxs ((hAx pre x a').putObj (s := ()) _ hax (by omega) hl' rfl)) ?_
    rintro e a3 W3 ⟨rfl, hs3, hi3⟩
    have hl3 := (hs3.same _ (Array.getElem?_eq_some_iff.1 hl2).1 (.inr (by omega))).trans hl2
    have hd3 := (hs3.same _ (by simp; omega) (.inr (Nat.le_refl _))).trans (busyD W' _ hd')
    have hnp : ¬ p (w.heap.size + 1) := fun h => by have := hp _ h; omega
    refine ⟨_, _, run_endRound none hl3, rfl, ⟨hI.putObj _ hi3 (by omega) hl3 rfl, ?_, busyD W3 _ hd3⟩, ?_⟩
    · rw [World.putObj_heap_same (Array.getElem?_eq_some_iff.1 hl3).1, hR]; rfl
    · have up : ∀ {A B : World}, Stays p w.heap.size A B → Stays p V.heap.size A B := fun h => h.mono (fun k hk => hk.imp id (fun h => by omega))
      exact ((up hs).trans (Stays.putObj W' _ hnp (by omega))).trans ((up hs3).trans (Stays.putObj W3 _ hnp (by omega)))
end Go.Proofs.YtnpbmihbmilkbaaGreat.Mx
namespace Go.Proofs.YtnpbmihbmilkbaaGreat.Mx
open Go.RowKit Go.Shelf
attribute [local go_sem] Oper.semAt_some
theorem chunk_is (a : Option Addr) (n c : Nat) (w : World) :
    Calls Tryz.prog 99 #[.slice a n c, .int .i64 8] w fun e w' => e = .returned (.func (.func 120) #[] #[.pointer (some ⟨w.heap.size, 0, none⟩), .pointer (some ⟨w.heap.size + 1, 0, none⟩)]) ∧ w' = (w.alloc (.cells #[.slice a n c] 74)).alloc (.cells #[.int .i64 8] 3) := by
  go_enter Tryz.func99, Tryz.ntmps99
  go_wp2_with fail
  go_ret
  exact ⟨rfl, rfl⟩
theorem grown_drew (W : World) : W.grownBy W.drew none := ⟨rfl, rfl, rfl, Nat.le_refl _, fun _ _ _ => rfl⟩
theorem stays_self_drew (p : Nat → Prop) (c : Nat) (W : World) : Stays p c W W.drew := ⟨Nat.le_refl _, fun _ _ _ => rfl⟩
/-- The group number i of a slice. -/
abbrev chunkV (g off len i : Nat) : Value := .slice (some ⟨g, off + 8 * i, none⟩) (min 8 (len - 8 * i)) (min 8 (len - 8 * i))
set_option maxRecDepth 100000 in
set_option maxHeartbeats 1000000 in
theorem chunk_all (Bs Bn g off len cap : Nat) (p : Nat → Prop) (w : World) (hm : len ≤ 1000) (hc : len ≤ cap) (hBs : Boxed w Bs 74 (.slice (some ⟨g, off, none⟩) len cap)) (hBn : Boxed w Bn 3 (.int .i64 8)) (pS : p Bs) (pN : p Bn) :
    SeqAll Tryz.prog 120 #[.pointer (some ⟨Bs, 0, none⟩), .pointer (some ⟨Bn, 0, none⟩)] (fun i : Nat => #[chunkV g off len i]) p (List.range (M.count len)) w := by
  intro l J W hW hJ hY h0
  have hBs' : Boxed W Bs 74 (.slice (some ⟨g, off, none⟩) len cap) := (hW.block Bs hBs.lt).trans hBs
  have hBn' : Boxed W Bn 3 (.int .i64 8) := (hW.block Bn hBn.lt).trans hBn
  refine (callsIn_wide (n := 10)).1 ?_
  refine callsIn_of_wp Tryz.func120 rfl trivial ?_ rfl
  simp only [Tryz.ntmps120, List.size_toArray, List.length_cons, List.length_nil, Nat.reduceAdd, Nat.reduceSub, Array.replicate_succ, Array.replicate_zero, List.push_toArray, List.append_toArray, List.nil_append, List.cons_append]
  gi_wp2
  gi_loopw [4] (fun i wr => ∃ (k : Nat), k ≤ M.count len ∧ i = .int .i64 (8 * (k : Int)) ∧ J (List.range k) wr ∧ Stays p W.heap.size W wr) (fun i _ => (len + 8 - (intOf i).toNat))
  case atStart => exact ⟨0, Nat.zero_le _, rfl, h0, Stays.refl ..⟩
  case round =>
    obtain ⟨k, hk, rfl, hJk, hst⟩ := hrel
    have c0 := (hst.cell ⟨Bs, 0, none⟩ hBs'.lt (.inl pS)).trans hBs'.cell
    have c1 := (hst.cell ⟨Bn, 0, none⟩ hBn'.lt (.inl pN)).trans hBn'.cell
    by_cases hlt : k < M.count len
    · have hlt2 : 8 * k < len := by unfold M.count at hlt; omega
      have e1 : List.range (M.count len) = List.range k ++ k :: (List.range' (k + 1) (M.count len - k - 1)) := by
        exact M.range_cut k (M.count len) hlt
      have hmx : Tryz.prog.follows .mixedOrders = true := by kernel_rfl
      have b0 : 0 ≤ 8 * (k : Int) := by omega
      have b1 : 8 * (k : Int) < len := by omega
      have b2 : 8 * (k : Int) ≤ len := by omega
      have b3 : 8 * (k : Int) ≤ cap := by omega
      have hJd : J (List.range k) wr.drew := hJ _ wr _ none hJk (grown_drew wr) (fun r e => by cases e)
      by_cases h8 : ((len - 8 * k : Nat) : Int) < 8
      ·
        obtain ⟨fn, tmps, assign, body, hy0, hR⟩ := yield_any (hY (List.range k) k _ wr.drew e1 hJd) 9 none
        have hy : (Instr.yield l #[.slice (some ⟨g, off + 8 * k, none⟩) (len - 8 * k) (len - 8 * k)]).run Tryz.prog wr.drew = .ok (.round l fn tmps assign body) wr.drew := by
          rw [show len - 8 * k = min 8 (len - 8 * k) by omega]; exact hy0
        clear hy0
        gi_wp2
        gi_region
        all_goals gi_wp2
        all_goals refine hR.mono ?_
        all_goals rintro e W3 ⟨rfl, hJ3, hk3⟩
        all_goals have d1 := (hk3.cell ⟨Bn, 0, none⟩ (Nat.lt_of_lt_of_le hBn'.lt hst.size) (.inl pN)).trans c1
        all_goals gi_wp2
        all_goals go_roundw
        case rel => exact ⟨k + 1, hlt, by go_num, by rw [List.range_succ]; exact hJ3, (hst.trans (stays_self_drew ..)).trans hk3⟩
        case measure => simp [intOf]; omega
      ·
        obtain ⟨fn, tmps, assign, body, hy0, hR⟩ := yield_any (hY (List.range k) k _ wr.drew e1 hJd) 9 none
        have hy : (Instr.yield l #[.slice (some ⟨g, off + 8 * k, none⟩) 8 8]).run Tryz.prog wr.drew = .ok (.round l fn tmps assign body) wr.drew := by
          have h88 : 8 = min 8 (len - 8 * k) := by omega
          have hy1 := hy0
          simp only [chunkV, ← h88] at hy1; exact hy1
        clear hy0
        gi_wp2
        gi_region
        all_goals gi_wp2
        all_goals refine hR.mono ?_
        all_goals rintro e W3 ⟨rfl, hJ3, hk3⟩
        all_goals have d1 := (hk3.cell ⟨Bn, 0, none⟩ (Nat.lt_of_lt_of_le hBn'.lt hst.size) (.inl pN)).trans c1
        all_goals gi_wp2
        all_goals go_roundw
        case rel => exact ⟨k + 1, hlt, by go_num, by rw [List.range_succ]; exact hJ3, (hst.trans (stays_self_drew ..)).trans hk3⟩
        case measure => simp [intOf]; omega
    · have hlt2 : len ≤ 8 * k := by unfold M.count at hlt; omega
      have b1 : ¬ 8 * (k : Int) < len := by omega
      obtain rfl : k = M.count len := by omega
      gi_wp2
      go_end0
      exact ⟨⟨_, rfl⟩, hJk⟩
end Go.Proofs.YtnpbmihbmilkbaaGreat.Mx
namespace Go.Proofs.YtnpbmihbmilkbaaGreat.Mx
open Go.RowKit Go.Shelf
attribute [local go_sem] Oper.semAt_some
/-- What lay in w0 lies in W as it lay. -/
def Agrees (w0 W : World) : Prop := w0.heap.size ≤ W.heap.size ∧ ∀ k, k < w0.heap.size → W.heap[k]? = w0.heap[k]?
theorem Agrees.of_below {w0 W : World} (h : Below w0.heap.size w0 W) : Agrees w0 W := ⟨h.size, h.block⟩
theorem Agrees.stays {w0 W V : World} {p : Nat → Prop} {c : Nat} (h : Agrees w0 W) (hp : ∀ k, k < w0.heap.size → p k) (hs : Stays p c W V) : Agrees w0 V :=
  ⟨Nat.le_trans h.1 hs.size, fun k hk => (hs.same k (Nat.lt_of_lt_of_le hk h.1) (.inl (hp k hk))).trans (h.2 k hk)⟩
theorem agrees_own {β : Type} {w0 : World} {B : Nat} (hB : w0.heap.size ≤ B) : OwnFrom (β := β) B (fun _ W => Agrees w0 W) := fun _ X _ row hs hg hr =>
  ⟨Nat.le_trans hs.1 hg.size, fun k hk => (hg.block k (Nat.lt_of_lt_of_le hk hs.1) (fun e => by have := (hr k e.symm).1; omega)).trans (hs.2 k hk)⟩
theorem BytesAt.agrees {w0 W : World} {v : Value} {l : List Int} (h : BytesAt w0 v l) (ha : Agrees w0 W) : BytesAt W v l := by
  obtain ⟨a, cap, hv, hcap, hr, hc⟩ := h
  refine ⟨a, cap, hv, hcap, hr, fun h0 => ?_⟩
  obtain ⟨g, off, hA, hg, hcell⟩ := hc h0
  exact ⟨g, off, hA, Nat.lt_of_lt_of_le hg ha.1, fun i hi => (World.cell?_of_block (ha.2 g hg)).trans (hcell i hi)⟩
theorem group_at {w : World} {g off len cap : Nat} {l : List Int} (h : BytesAt w (.slice (some ⟨g, off, none⟩) len cap) l) (i : Nat) (hi : i < M.count l.length) : BytesAt w (chunkV g off len i) (M.group l i) := by
  obtain ⟨a, cap', hv, hcap, hr, hc⟩ := h
  have hi2 : 8 * i < l.length := by unfold M.count at hi; omega
  obtain ⟨g', off', rfl, hg, hcell⟩ := hc (by omega)
  injection hv with e1 e2 e3
  injection e1 with e1
  injection e1 with e4 e5
  subst e4 e5 e2
  have hlen := M.group_len l i
  refine ⟨_, _, by rw [hlen], ⟨by rw [hlen]; omega, fun h => by cases h⟩, M.group_bytes hr i, fun _ => ⟨g, _, rfl, hg, fun j hj => ?_⟩⟩
  rw [hlen] at hj
  have h2 := hcell (8 * i + j) (by omega)
  rw [Nat.add_assoc, h2]
  simp [M.group]
theorem group_get {l : List Int} (hb : M.Bytes l) (i : Nat) (hi : i < M.count l.length) : getOf (M.group l i) = (((M.wordAt l i : Nat) : Int), 0) := by
  have hi2 : 8 * i < l.length := by unfold M.count at hi; omega
  rw [getOf_ok _ (by rw [M.group_len]; omega) (by rw [M.group_len]; omega), M.wordAt_int hb]
set_option maxRecDepth 100000 in
set_option maxHeartbeats 1000000 in
theorem chunk_none {α : Type} (Bs Bn c : Nat) (a : Option Addr) (p : Nat → Prop) (encs : α → Array Value) (w : World) (hBs : Boxed w Bs 74 (.slice a 0 c)) :
    SeqAll Tryz.prog 120 #[.pointer (some ⟨Bs, 0, none⟩), .pointer (some ⟨Bn, 0, none⟩)] encs p [] w := by
  intro l J W hW hJ hY h0
  have c0 := Boxed.cell (show Boxed W Bs 74 (.slice a 0 c) from (hW.block Bs hBs.lt).trans hBs)
  clear hY hJ
  refine (callsIn_wide (n := 10)).1 ?_
  refine callsIn_of_wp Tryz.func120 rfl trivial ?_ rfl
  simp only [Tryz.ntmps120, List.size_toArray, List.length_cons, List.length_nil, Nat.reduceAdd, Nat.reduceSub, Array.replicate_succ, Array.replicate_zero, List.push_toArray, List.append_toArray, List.nil_append, List.cons_append]
  gi_wp2
  gi_loopw [4] (fun i wr => i = .int .i64 0 ∧ wr = W) (fun _ _ => 0)
  case atStart => exact ⟨rfl, rfl⟩
  case round =>
    obtain ⟨rfl, rfl⟩ := hrel
    gi_wp2
    go_end0
    exact ⟨⟨_, rfl⟩, h0⟩
theorem words_is (a : Option Addr) (n c : Nat) (w : World) :
    Calls Tryz.prog 71 #[.slice a n c] w fun e w' => e = .returned (.func (.func 98) #[] #[.pointer (some ⟨w.heap.size, 0, none⟩)]) ∧ w' = w.alloc (.cells #[.slice a n c] 74) := by
  go_enter Tryz.func71, Tryz.ntmps71
  go_wp2_with fail
  go_ret
  exact ⟨rfl, rfl⟩
/-- The groups, as the iterator of slices.Chunk hands them over. -/
theorem chunk_any (Bs Bn : Nat) (v : Value) (l : List Int) (p : Nat → Prop) (w0 w : World) (hm : l.length ≤ 1000) (hb : BytesAt w0 v l) (hBs : Boxed w Bs 74 v) (hBn : Boxed w Bn 3 (.int .i64 8)) (pS : p Bs) (pN : p Bn) :
    ∃ g off, SeqAll Tryz.prog 120 #[.pointer (some ⟨Bs, 0, none⟩), .pointer (some ⟨Bn, 0, none⟩)] (fun i : Nat => #[chunkV g off l.length i]) p (List.range (M.count l.length)) w ∧
      ∀ i, i < M.count l.length → ∀ W, Agrees w0 W → BytesAt W (chunkV g off l.length i) (M.group l i) := by
  have hb2 := hb
  obtain ⟨a, cap, rfl, hcap, hr, hc⟩ := hb
  by_cases h0 : 0 < l.length
  · obtain ⟨g, off, rfl, hg, hcell⟩ := hc h0
    exact ⟨g, off, chunk_all Bs Bn g off l.length cap p w hm hcap.1 hBs hBn pS pN, fun i hi W hW => group_at (hb2.agrees hW) i hi⟩
  · have e : l.length = 0 := by omega
    rw [e] at hBs ⊢
    exact ⟨0, 0, chunk_none Bs Bn cap a p _ w hBs, fun i hi => absurd hi (by unfold M.count; omega)⟩
set_option maxRecDepth 100000 in
set_option maxHeartbeats 1000000 in
theorem words_all (Bb : Nat) (v : Value) (l : List Int) (p : Nat → Prop) (w0 w : World) (hm : l.length ≤ 1000) (hb : BytesAt w0 v l) (hBb : Boxed w Bb 74 v) (ha : Agrees w0 w) (pn : ∀ k, k < w0.heap.size → p k) :
    SeqAll Tryz.prog 98 #[.pointer (some ⟨Bb, 0, none⟩)] (fun x : Nat => #[.int .u64 x]) p (M.words l (M.count l.length)) w := by
  intro l1 J W hW hJ hY h0
  have hBb' : Boxed W Bb 74 v := (hW.block Bb hBb.lt).trans hBb
  have haW : Agrees w0 W := ⟨Nat.le_trans ha.1 hW.size, fun k hk => (hW.block k (Nat.lt_of_lt_of_le hk ha.1)).trans (ha.2 k hk)⟩
  have hbb := hb
  obtain ⟨a, cap, hv, _, hbytes, _⟩ := hbb
  subst hv
  refine (callsIn_wide (n := 10)).1 ?_
  refine callsIn_of_wp_marks Tryz.func98 rfl trivial ?_ rfl
  simp only [Tryz.ntmps98, List.size_toArray, List.length_cons, List.length_nil, Nat.reduceAdd, Nat.reduceSub, Array.replicate_succ, Array.replicate_zero, List.push_toArray, List.append_toArray, List.nil_append, List.cons_append]
  have c0 := (hBb'.alloc (.cells #[.func (.yield l1) #[] #[]] 56)).cell
  gi_wp2_with (refine ⟨trivial, ?_⟩; gi_at_call 99; refine (callsIn_wide.2 (chunk_is _ _ _ _)).mono ?_; rintro e w2 ⟨rfl, rfl⟩)
  clear c0
  obtain ⟨W0, hW0⟩ : ∃ W0, ((W.alloc (.cells #[.func (.yield l1) #[] #[]] 56)).alloc (.cells #[.slice a l.length cap] 74)).alloc (.cells #[.int .i64 8] 3) = W0 := ⟨_, rfl⟩
  have hY0 : Boxed W0 W.heap.size 56 (.func (.yield l1) #[] #[]) := by rw [← hW0]; exact ((Boxed.new W 56 _).alloc _).alloc _
  have hS0 : Boxed W0 (W.heap.size + 1) 74 (.slice a l.length cap) := by
    have h := (Boxed.new (W.alloc (.cells #[.func (.yield l1) #[] #[]] 56)) 74 (.slice a l.length cap)).alloc (.cells #[.int .i64 8] 3)
    rw [hW0, World.size_alloc] at h; exact h
  have hN0 : Boxed W0 (W.heap.size + 1 + 1) 3 (.int .i64 8) := by
    have h := Boxed.new ((W.alloc (.cells #[.func (.yield l1) #[] #[]] 56)).alloc (.cells #[.slice a l.length cap] 74)) 3 (.int .i64 8)
    rw [hW0, World.size_alloc, World.size_alloc] at h; exact h
  have hsz : W0.heap.size = W.heap.size + 3 := by rw [← hW0]; simp
  have hBW : Below W.heap.size W W0 := by rw [← hW0]; exact (((Below.refl _ W).alloc (Nat.le_refl _) _).alloc (by simp) _).alloc (by simp; omega) _
  have hJ0 : J [] W0 := by rw [← hW0]; exact hJ.alloc _ (hJ.alloc _ (hJ.alloc _ h0))
  have ha0 : Agrees w0 W0 := ⟨Nat.le_trans haW.1 hBW.size, fun k hk => (hBW.block k (Nat.lt_of_lt_of_le hk haW.1)).trans (haW.2 k hk)⟩
  rw [hW0]
  clear hW0
  have hle := haW.1
  obtain ⟨g, off, hseq, hgr⟩ := chunk_any (W.heap.size + 1) (W.heap.size + 1 + 1) _ l (fun k => (p k ∨ W.heap.size ≤ k) ∧ k < W0.heap.size) w0 W0 hm hb hS0 hN0 ⟨.inr (by omega), by omega⟩ ⟨.inr (by omega), by omega⟩
  refine range_all (gf := 120) (lb := #[.pointer (some ⟨W.heap.size + 1, 0, none⟩), .pointer (some ⟨W.heap.size + 1 + 1, 0, none⟩)]) rfl (enters_of Tryz.func120 (by kernel_rfl) rfl)
    hseq (fun k hk => hk.2) (fun _ => rfl)
    (fun pre V => J (pre.map (M.wordAt l)) V ∧ (Boxed V W.heap.size 56 (.func (.yield l1) #[] #[]) ∧ Agrees w0 V))
    (OwnFrom.and (fun s X Y row hs hg hr => own_up hJ (show W.heap.size ≤ W0.heap.size by omega) _ X Y row hs hg hr) (OwnFrom.and (Own.from (boxed_own _ _ _) _) (agrees_own (by omega))))
    ⟨hJ0, hY0, ha0⟩
    (fun pre i a' V => (J (pre.map (M.wordAt l)) V ∧ (Boxed V W.heap.size 56 (.func (.yield l1) #[] #[]) ∧ Agrees w0 V)) ∧
      a' = { tmps := #[.func (.yield l1) #[] #[], .pointer (some ⟨Bb, 0, none⟩), .pointer (some ⟨W.heap.size, 0, none⟩), chunkV g off l.length i, undef, undef, .slice a l.length cap, .func (.func 120) #[] #[.pointer (some ⟨W.heap.size + 1, 0, none⟩), .pointer (some ⟨W.heap.size + 1 + 1, 0, none⟩)], chunkV g off l.length i, undef, undef, undef, undef, undef, undef, undef, undef, undef], defers := [] })
    ?hAx ?assign ?body ?done
  case hAx =>
    intro pre i a' _ X Y row ⟨⟨h1, h2, h3⟩, h4⟩ hg hr
    exact ⟨⟨own_up hJ (show W.heap.size ≤ W0.heap.size by omega) _ X Y row h1 hg hr, Own.from (boxed_own W.heap.size 56 (fun (_ : Unit) => .func (.yield l1) #[] #[])) W0.heap.size () X Y row h2 hg hr, agrees_own (β := Unit) (show w0.heap.size ≤ W0.heap.size by omega) () X Y row h3 hg hr⟩, h4⟩
  case assign =>
    rintro l2 pre i rest V K hxs hI hK
    gi_wp2
    exact hK _ _ (Stays.refl ..) ⟨hI, rfl⟩
  case body =>
    rintro l2 pre i rest a' V hxs ⟨⟨hJV, hYV, hAV⟩, rfl⟩
    have hi : i < M.count l.length := List.mem_range.1 (by rw [hxs]; simp)
    have hbi := hgr i hi V hAV
    have hw : M.words l (M.count l.length) = pre.map (M.wordAt l) ++ M.wordAt l i :: rest.map (M.wordAt l) := by unfold M.words; rw [hxs, List.map_append, List.map_cons]
    obtain ⟨fn, tmps, assign, body, hy0, hR⟩ := yield_any (hY _ _ _ V hw hJV) 8 (some l2)
    obtain ⟨x, hx⟩ : ∃ x : Int, ((M.wordAt l i : Nat) : Int) = x := ⟨_, rfl⟩
    have hget := group_get hbytes i hi
    rw [hx] at hget
    have hget2 := Lib.hid hget
    have hy : (Instr.yield l1 #[.int .u64 x]).run Tryz.prog V = .ok (.round l1 fn tmps assign body) V := by rw [← hx]; exact hy0
    have c1 := hYV.cell
    have hlen : (M.group l i).length ≤ 1000 := by rw [M.group_len]; omega
    clear hy0 hget
    gi_wp2_with (refine ⟨trivial, ?_⟩; gi_at_call 100; refine (CallsIn.inRound l2 (callsIn_wide.2 (get_is _ (M.group l i) x 0 _ hbi hlen hget2))).mono ?_; rintro e w3 ⟨rfl, rfl⟩)
    refine hR.mono ?_
    rintro e V3 ⟨rfl, hJ3, hk3⟩
    gi_wp2
    have hs3 : Stays (fun k => (p k ∨ W.heap.size ≤ k) ∧ k < W.heap.size + 3) (W.heap.size + 3) V V3 := hk3.mono (fun k hk => by rcases hk with ⟨h, _⟩ | h; exact h; exact .inr (by omega))
    exact ⟨hs3, hJ3, (hk3.same _ hYV.lt (.inr (Nat.le_refl _))).trans hYV, hAV.stays pn hk3⟩
  case done =>
    rintro D V hD ⟨hJV, _, _⟩ hK
    gi_wp2
    refine ⟨by simp, .inl ⟨_, _, rfl, run_takeDeferred hK, ?_⟩⟩
    exact ⟨_, results_none rfl _ _ _, ⟨_, rfl⟩, hJ.putObj _ hJV (by omega) hK rfl⟩
end Go.Proofs.YtnpbmihbmilkbaaGreat.Mx
namespace Go.Proofs.YtnpbmihbmilkbaaGreat.Mx
open Go.RowKit Go.Shelf
attribute [local go_sem] Oper.semAt_some
theorem sumI_is (seed : Int) (l : List Int) (h0 : Int) (hh : wordI seed l.length = h0) : sumI seed l = ((M.chain h0.toNat (M.words l (M.count l.length)) : Nat) : Int) := by
  rw [← hh, wordI, Int.toNat_natCast, Int.toNat_natCast, sumI, M.sum]
set_option maxRecDepth 100000 in
set_option maxHeartbeats 1000000 in
theorem sum_is (seed r : Int) (v : Value) (l : List Int) (w : World) (hs : U64 seed) (hm : l.length ≤ 1000) (hb : BytesAt w v l) (hr : Hid (sumI seed l = r)) :
    Calls Tryz.prog 52 #[.int .u64 seed, v] w fun e w' => e = .returned (.int .u64 r) ∧ Below w.heap.size w w' := by
  obtain ⟨h0, hh0⟩ : ∃ h, wordI seed l.length = h := ⟨_, rfl⟩
  have hh0U : U64 h0 := by rw [← hh0]; exact wordI_U64 ..
  have kh := Lib.hid hh0
  have hlU : U64 (l.length : Int) := by unfold U64; omega
  have hfin := Lib.hid ((sumI_is seed l h0 hh0).symm.trans hr.out)
  have hbb := hb
  obtain ⟨a, cap, hv, _, hbytes, _⟩ := hbb
  subst hv
  clear hh0 hr
  refine (callsIn_wide (n := 10)).1 ?_
  refine callsIn_of_wp_marks Tryz.func52 rfl trivial ?_ rfl
  simp only [Tryz.ntmps52, List.size_toArray, List.length_cons, List.length_nil, Nat.reduceAdd, Nat.reduceSub, Array.replicate_succ, Array.replicate_zero, List.push_toArray, List.append_toArray, List.nil_append, List.cons_append]
  gi_wp2_with first
    | (refine ⟨trivial, ?_⟩; gi_at_call 70; refine (callsIn_wide.2 (word_is seed l.length h0 _ hs hlU kh)).mono ?_; rintro e w1 ⟨rfl, b1⟩)
    | (refine ⟨trivial, ?_⟩; gi_at_call 71; refine (callsIn_wide.2 (words_is _ _ _ _)).mono ?_; rintro e w2 ⟨rfl, rfl⟩)
  obtain ⟨W0, hW0⟩ : ∃ W0, (w1.alloc (.cells #[.int .u64 h0] 22)).alloc (.cells #[.slice a l.length cap] 74) = W0 := ⟨_, rfl⟩
  have hH0 : Boxed W0 w1.heap.size 22 (.int .u64 h0) := by rw [← hW0]; exact (Boxed.new w1 22 _).alloc _
  have hB0 : Boxed W0 (w1.heap.size + 1) 74 (.slice a l.length cap) := by
    have h := Boxed.new (w1.alloc (.cells #[.int .u64 h0] 22)) 74 (.slice a l.length cap)
    rw [hW0, World.size_alloc] at h; exact h
  have hle := b1.size
  have hbe0 : Below w.heap.size w W0 := by rw [← hW0]; exact (b1.alloc hle _).alloc (by simp; omega) _
  have hsz : W0.heap.size = w1.heap.size + 2 := by rw [← hW0]; simp
  rw [hW0]
  clear hW0
  refine range_all (gf := 98) (lb := #[.pointer (some ⟨w1.heap.size + 1, 0, none⟩)]) rfl (enters_of Tryz.func98 (by kernel_rfl) rfl)
    (words_all (w1.heap.size + 1) _ l (fun k => k < w.heap.size) w W0 hm hb hB0 (Agrees.of_below hbe0) (fun _ h => h)) (fun k hk => by omega) (fun _ => rfl)
    (fun pre V => Boxed V w1.heap.size 22 (.int .u64 ((M.chain h0.toNat pre : Nat) : Int)) ∧ Below w.heap.size w V)
    (OwnFrom.and (Own.from (boxed_own _ _ _) _) (ownFrom_below (Nat.le_refl _) (by omega)))
    ⟨by rw [M.chain_nil, Int.toNat_of_nonneg hh0U.1]; exact hH0, hbe0⟩
    (fun pre x a' V => (Boxed V w1.heap.size 22 (.int .u64 ((M.chain h0.toNat pre : Nat) : Int)) ∧ Below w.heap.size w V) ∧
      a' = { tmps := #[.int .u64 seed, .slice a l.length cap, undef, undef, .int .u64 0, .pointer (some ⟨w1.heap.size, 0, none⟩), .int .u64 x, .int .u64 seed, .slice a l.length cap, .int .i64 l.length, .int .u64 l.length, .int .u64 h0, .slice a l.length cap, .func (.func 98) #[] #[.pointer (some ⟨w1.heap.size + 1, 0, none⟩)], .int .u64 x, undef, undef, undef, undef, undef], defers := [] })
    ?hAx ?assign ?body ?done
  case hAx =>
    intro pre x a' _ X Y row ⟨h1, h2⟩ hg hr
    exact ⟨OwnFrom.and (Own.from (boxed_own w1.heap.size 22 (fun (_ : Unit) => .int .u64 ((M.chain h0.toNat pre : Nat) : Int))) _) (ownFrom_below (Nat.le_refl _) (by omega)) () X Y row h1 hg hr, h2⟩
  case assign =>
    rintro l2 pre x rest V K hxs hI hK
    gi_wp2
    exact hK _ _ (Stays.refl ..) ⟨hI, rfl⟩
  case body =>
    rintro l2 pre x rest a' V hxs ⟨⟨hH, hB⟩, rfl⟩
    have hxU : U64 (x : Int) := of_lt (by
      have : x ∈ M.words l (M.count l.length) := by rw [hxs]; simp
      obtain ⟨i, _, rfl⟩ := List.mem_map.1 this
      exact M.wordAt_lt hbytes i)
    obtain ⟨h, hh⟩ : ∃ h : Int, ((M.chain h0.toNat pre : Nat) : Int) = h := ⟨_, rfl⟩
    have hU : U64 h := by rw [← hh]; exact of_lt (M.chain_lt _ _ (toNat_lt hh0U))
    obtain ⟨q, hq⟩ : ∃ q, rotI h 23 = q := ⟨_, rfl⟩
    have hqU : U64 q := by rw [← hq]; exact rotI_U64 ..
    obtain ⟨z, hz⟩ : ∃ z, wordI q x = z := ⟨_, rfl⟩
    have hnext : ((M.chain h0.toNat (pre ++ [x]) : Nat) : Int) = z := by
      rw [← hz, ← hq, sumI_step, M.chain_snoc, ← hh, Int.toNat_natCast, Int.toNat_natCast]
    rw [hh] at hH
    have kq := Lib.hid hq
    have kz := Lib.hid hz
    have c1 := hH.cell
    clear hq hz hh
    gi_wp2_with first
      | (refine ⟨trivial, ?_⟩; gi_at_call 72; refine (CallsIn.inRound l2 (callsIn_wide.2 (rot_is h 23 q _ hU.1 hU.2 (by omega) (by omega) kq))).mono ?_; rintro e w3 ⟨rfl, rfl⟩)
      | (refine ⟨trivial, ?_⟩; gi_at_call 70; refine (CallsIn.inRound l2 (callsIn_wide.2 (word_is q x z _ hqU hxU kz))).mono ?_; rintro e w3 ⟨rfl, b3⟩; have b5 : Boxed w3 w1.heap.size 22 (.int .u64 h) := (b3.block w1.heap.size hH.lt).trans hH; have c5 := b5.cell; have f5 := b5.frozen)
    exact ⟨(Stays.of_below b3).trans (Stays.setCell w3 ⟨w1.heap.size, 0, none⟩ _ (by show ¬ w1.heap.size < w.heap.size; omega) (by show w1.heap.size < w1.heap.size + 2; omega)), b5.set _, (hB.trans (b3.mono hB.size)).setCell (p := ⟨w1.heap.size, 0, none⟩) hle _⟩
  case done =>
    rintro D V hD ⟨hH, hB⟩ hK
    have c1 := hH.cell
    rw [hfin.out] at c1
    gi_wp2
    refine ⟨by simp, .inl ⟨_, _, rfl, run_takeDeferred hK, ?_⟩⟩
    refine ⟨_, results_tmp rfl _ _ _, ?_, ?_⟩
    · exact rfl
    · exact hB.trans (belowK_b (w := w) (Nat.le_refl _) V D _ _ (by omega) hK rfl rfl)
end Go.Proofs.YtnpbmihbmilkbaaGreat.Mx
namespace Go.Proofs.YtnpbmihbmilkbaaGreat.Mx
open Go.RowKit
/-- A group, filled up with zeros. -/
def full (l : List Int) (k : Nat) : List Int := M.group l k ++ List.replicate (8 - (M.group l k).length) 0
theorem full_len (l : List Int) (k : Nat) : (full l k).length = 8 := by
  unfold full; have := M.group_len l k; simp; omega
theorem full_bytes {l : List Int} (h : M.Bytes l) (k : Nat) : M.Bytes (full l k) := (M.group_bytes h k).app (fun x hx => by obtain ⟨_, rfl⟩ := List.mem_replicate.1 hx; omega)
theorem full_at (l : List Int) (k j : Nat) (hj : j < 8) (h : 8 * k + j < l.length) : (full l k).getD j 0 = l[8 * k + j] := by
  have h1 := M.group_len l k
  unfold full
  rw [List.getD_eq_getElem?_getD, List.getElem?_append_left (by omega)]
  unfold M.group
  rw [List.getElem?_take, if_pos hj, List.getElem?_drop, List.getElem?_eq_getElem h]; rfl
theorem full_zero (l : List Int) (k j : Nat) (h : l.length ≤ 8 * k + j) : (full l k).getD j 0 = 0 := by
  have h1 := M.group_len l k
  unfold full
  rw [List.getD_eq_getElem?_getD, List.getElem?_append_right (by omega), List.getElem?_replicate]
  split <;> rfl
theorem full_get {l : List Int} (hb : M.Bytes l) (k : Nat) : getOf (full l k) = (((M.wordAt l k : Nat) : Int), 0) := by
  rw [getOf_ok _ (by rw [full_len]; omega) (by rw [full_len]; omega), M.wordAt_int hb, full, M.get_zeros]
theorem full_row {w wr : World} {l : List Int} {k m : Nat} (h : wr.rowIs w.heap.size 39 8 (fun j => .int .u8 (if j < m then (full l k).getD j 0 else 0))) (hb : M.Bytes l) (hm : ∀ j, j < 8 → m ≤ j → l.length ≤ 8 * k + j) : BytesAt wr (.slice (some ⟨w.heap.size, 0, none⟩) 8 8) (full l k) := by
  refine ⟨_, _, by rw [full_len], ⟨by rw [full_len]; omega, fun h => by cases h⟩, full_bytes hb k, fun _ => ⟨w.heap.size, 0, rfl, h.lt, fun i hi => ?_⟩⟩
  rw [full_len] at hi
  rw [Nat.zero_add, h.cell hi]
  have e : (full l k)[i]'(by rw [full_len]; exact hi) = (full l k).getD i 0 := by rw [List.getD_eq_getElem?_getD, List.getElem?_eq_getElem]; rfl
  rw [e]
  by_cases h1 : i < m
  · rw [if_pos h1]
  · rw [if_neg h1, full_zero l k i (hm i hi (by omega))]
theorem zeros_row (w : World) : (w.alloc (.cells #[.int .u8 0, .int .u8 0, .int .u8 0, .int .u8 0, .int .u8 0, .int .u8 0, .int .u8 0, .int .u8 0] 39)).rowIs w.heap.size 39 8 (fun _ => .int .u8 0) := by
  refine ⟨_, World.alloc_heap_new w _, rfl, fun i hi => ?_⟩
  rw [show #[Value.int .u8 0, .int .u8 0, .int .u8 0, .int .u8 0, .int .u8 0, .int .u8 0, .int .u8 0, .int .u8 0] = Array.replicate 8 (.int .u8 0) from rfl]
  simp [hi]
theorem full_step {w wr : World} {l : List Int} {k m : Nat} {c : Int} (h : wr.rowIs w.heap.size 39 8 (fun j => .int .u8 (if j < m then (full l k).getD j 0 else 0))) (hc : (full l k).getD m 0 = c) :
    (wr.setCell ⟨w.heap.size, m, none⟩ (.int .u8 c)).rowIs w.heap.size 39 8 (fun j => .int .u8 (if j < m + 1 then (full l k).getD j 0 else 0)) := by
  refine (h.set m (.int .u8 c)).congr fun j _ => ?_
  by_cases e : j = m
  · subst e; rw [if_pos rfl, if_pos (by omega), hc]
  · rw [if_neg e]
    by_cases hl : j < m
    · rw [if_pos hl, if_pos (by omega)]
    · rw [if_neg hl, if_neg (by omega)]
set_option maxRecDepth 100000 in
set_option maxHeartbeats 1000000 in
theorem refSum_some (seed r h0 : Int) (g off cap : Nat) (l : List Int) (w : World) (hs : U64 seed) (hm : l.length ≤ 1000) (hh0U : U64 h0) (kh : Hid (wordI seed l.length = h0)) (hb : Hid (M.Bytes l)) (hg : g < w.heap.size)
    (hc : Hid (∀ i (h : i < l.length), w.cell? ⟨g, off + i, none⟩ = some (.int .u8 l[i]))) (hfin : Hid (((M.chain h0.toNat (M.words l (M.count l.length)) : Nat) : Int) = r)) :
    Calls Tryz.prog 42 #[.int .u64 seed, .slice (some ⟨g, off, none⟩) l.length cap] w fun e w' => e = .returned (.int .u64 r) ∧ Below w.heap.size w w' := by
  have hlU : U64 (l.length : Int) := by unfold U64; omega
  go_enter Tryz.func42, Tryz.ntmps42
  go_wp2_with fail
  refine (refWord_is seed l.length h0 _ hs hlU kh).mono ?_
  rintro e w' ⟨rfl, rfl⟩
  go_wp2_with fail
  go_loopw [5, 6] (fun t i wr => ∃ (k : Nat) (h : Int), k ≤ M.count l.length ∧ i = .int .i64 (8 * (k : Int)) ∧ t = .int .u64 h ∧ Hid (((M.chain h0.toNat (M.words l k) : Nat) : Int) = h) ∧ Below w.heap.size w wr) (fun _ i _ => l.length + 8 - (intOf i).toNat)
  case atStart => exact ⟨0, h0, Nat.zero_le _, rfl, rfl, Lib.hid (by rw [show M.words l 0 = [] from rfl, M.chain_nil, Int.toNat_of_nonneg hh0U.1]), Below.refl _ _⟩
  case round =>
    obtain ⟨k, h, hk, rfl, rfl, hh, hbel⟩ := hrel
    by_cases hlt : k < M.count l.length
    · have hlt2 : 8 * k < l.length := by unfold M.count at hlt; omega
      have b1 : 8 * (k : Int) < l.length := by omega
      obtain ⟨V0, rfl⟩ : ∃ V0, V0 = wr := ⟨_, rfl⟩
      have hU : U64 h := by rw [← hh.out]; exact of_lt (M.chain_lt _ _ (toNat_lt hh0U))
      obtain ⟨x, hx⟩ : ∃ x : Int, ((M.wordAt l k : Nat) : Int) = x := ⟨_, rfl⟩
      have hxU : U64 x := by rw [← hx]; exact of_lt (M.wordAt_lt hb.out k)
      obtain ⟨q, hq⟩ : ∃ q, rotI h 23 = q := ⟨_, rfl⟩
      have hqU : U64 q := by rw [← hq]; exact rotI_U64 ..
      obtain ⟨z, hz⟩ : ∃ z, wordI q x = z := ⟨_, rfl⟩
      have hnext : ((M.chain h0.toNat (M.words l (k + 1)) : Nat) : Int) = z := by
        rw [← hz, ← hq, sumI_step, M.words_succ, M.chain_snoc, ← hh.out, ← hx, Int.toNat_natCast, Int.toNat_natCast]
      have kx := Lib.hid (show getOf (full l k) = (x, 0) by rw [← hx]; exact full_get hb.out k)
      have kq := Lib.hid hq
      have kz := Lib.hid hz
      have kn := Lib.hid hnext
      clear hx hq hz hnext
      go_wp2_with fail
      go_loopw [8] (fun i V => ∃ (j : Nat), j ≤ 8 ∧ 8 * k + j ≤ l.length ∧ i = .int .i64 j ∧ V.rowIs V0.heap.size 39 8 (fun i => .int .u8 (if i < j then (full l k).getD i 0 else 0)) ∧ Below V0.heap.size V0 V) (fun i _ => 8 - (intOf i).toNat)
      case atStart => exact ⟨0, Nat.zero_le _, by omega, rfl, (zeros_row V0).congr (fun i _ => by rw [if_neg (Nat.not_lt_zero i)]), (Below.refl _ _).alloc (Nat.le_refl _) _⟩
      case round =>
        obtain ⟨j, hj, hjl, rfl, hrow, hb2⟩ := hrel
        by_cases hin : j < 8 ∧ 8 * k + j < l.length
        · obtain ⟨hj8, hjl2⟩ := hin
          have q1 : (j : Int) < 8 := by omega
          have q2 : 8 * (k : Int) + (j : Int) < l.length := by omega
          have q3 : 0 ≤ 8 * (k : Int) + (j : Int) := by omega
          obtain ⟨c, hcv⟩ : ∃ c, l[8 * k + j] = c := ⟨_, rfl⟩
          have hck : wr.cell? ⟨g, off + (8 * k + j), none⟩ = some (.int .u8 c) := by
            rw [← hcv]; exact (hb2.cell (p := ⟨g, off + (8 * k + j), none⟩) (Nat.lt_of_lt_of_le hg hbel.size)).trans ((hbel.cell (p := ⟨g, off + (8 * k + j), none⟩) hg).trans (hc.out (8 * k + j) hjl2))
          have hcd := Lib.hid (show (full l k).getD j 0 = c by rw [full_at l k j hj8 hjl2, hcv])
          have hcell := hrow.cell hj8
          have hfro := hrow.frozen j
          have HR := Lib.hid hrow
          clear hrow hcv
          go_wp2_with fail
          go_roundw
          case rel => exact ⟨j + 1, by omega, by omega, by go_num, full_step HR.out hcd.out, hb2.setCell (Nat.le_refl _) _⟩
          case measure => simp [intOf]; omega
        · have hB8 := full_row hrow hb.out (m := j) (fun i hi hij => by omega)
          clear hrow
          by_cases hj8 : j < 8
          · have q1 : (j : Int) < 8 := by omega
            have q2 : ¬ 8 * (k : Int) + (j : Int) < l.length := by omega
            have q3 : (8 * (k : Int) + (j : Int) < l.length) = False := by simpa using q2
            go_wp2_with fail
            refine (refGet_is _ (full l k) x 0 _ hB8 (by rw [full_len]; omega) kx).mono ?_
            rintro e w' ⟨rfl, rfl⟩
            go_wp2_with fail
            refine (refRot_is h 23 q _ hU.1 hU.2 kq).mono ?_
            rintro e w' ⟨rfl, rfl⟩
            go_wp2_with fail
            refine (refWord_is q x z _ hqU hxU kz).mono ?_
            rintro e w' ⟨rfl, rfl⟩
            go_wp2_with fail
            go_roundw
            case rel => exact ⟨k + 1, z, hlt, by go_num, rfl, kn, hbel.trans (hb2.mono hbel.size)⟩
            case measure => simp [intOf]; omega
          · obtain rfl : j = 8 := by omega
            go_wp2_with fail
            refine (refGet_is _ (full l k) x 0 _ hB8 (by rw [full_len]; omega) kx).mono ?_
            rintro e w' ⟨rfl, rfl⟩
            go_wp2_with fail
            refine (refRot_is h 23 q _ hU.1 hU.2 kq).mono ?_
            rintro e w' ⟨rfl, rfl⟩
            go_wp2_with fail
            refine (refWord_is q x z _ hqU hxU kz).mono ?_
            rintro e w' ⟨rfl, rfl⟩
            go_wp2_with fail
            go_roundw
            case rel => exact ⟨k + 1, z, hlt, by go_num, rfl, kn, hbel.trans (hb2.mono hbel.size)⟩
            case measure => simp [intOf]; omega
    · have b1 : ¬ 8 * (k : Int) < l.length := by unfold M.count at hlt; omega
      obtain rfl : k = M.count l.length := by omega
      go_wp2_with fail
      go_ret
      exact ⟨ret_int (hh.out.symm.trans hfin.out), hbel⟩
theorem refSum_nil (seed h0 : Int) (a : Option Addr) (cap : Nat) (w : World) (hs : U64 seed) (kh : Hid (wordI seed 0 = h0)) :
    Calls Tryz.prog 42 #[.int .u64 seed, .slice a 0 cap] w fun e w' => e = .returned (.int .u64 h0) ∧ Below w.heap.size w w' := by
  go_enter Tryz.func42, Tryz.ntmps42
  go_wp2_with fail
  refine (refWord_is seed 0 h0 _ hs (by unfold U64; omega) kh).mono ?_
  rintro e w' ⟨rfl, rfl⟩
  go_wp2
  refine wp_loop_rounds 1 ?_
  rw [rounds_succ]
  go_wp2_with fail
  go_ret
  exact ⟨rfl, Below.refl _ _⟩
theorem refSum_is (seed r : Int) (v : Value) (l : List Int) (w : World) (hs : U64 seed) (hm : l.length ≤ 1000) (hb : BytesAt w v l) (hr : Hid (sumI seed l = r)) :
    Calls Tryz.prog 42 #[.int .u64 seed, v] w fun e w' => e = .returned (.int .u64 r) ∧ Below w.heap.size w w' := by
  obtain ⟨h0, hh0⟩ : ∃ h, wordI seed l.length = h := ⟨_, rfl⟩
  have hh0U : U64 h0 := by rw [← hh0]; exact wordI_U64 ..
  have hfin := (sumI_is seed l h0 hh0).symm.trans hr.out
  obtain ⟨a, cap, rfl, _, hbytes, hc⟩ := hb
  by_cases hpos : 0 < l.length
  · obtain ⟨g, off, rfl, hg, hcell⟩ := hc hpos
    exact refSum_some seed r h0 g off cap l w hs hm hh0U (Lib.hid hh0) (Lib.hid hbytes) hg (Lib.hid hcell) (Lib.hid hfin)
  · have e : l = [] := List.eq_nil_of_length_eq_zero (by omega)
    subst e
    have e2 : h0 = r := by
      rw [← hfin, show M.words [] (M.count ([] : List Int).length) = [] from rfl, M.chain_nil, Int.toNat_of_nonneg hh0U.1]
    rw [← e2]
    exact refSum_nil seed h0 a cap w hs (Lib.hid hh0)
end Go.Proofs.YtnpbmihbmilkbaaGreat.Mx
