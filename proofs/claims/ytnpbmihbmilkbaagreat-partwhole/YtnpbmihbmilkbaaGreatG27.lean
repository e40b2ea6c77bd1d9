/- The contracts of Clone of slices at atoms, and of All, Join and Norm of package lat. The contract of only of package lat. The contract of Find of package lat. The contracts of Equal of maps, and of Same of package lat. Laws of plain walks, carried over to the frames of rounds of a range over a function. The contracts of Each of package lat, of the iterator that it returns, and of under. The contracts of Leq and Meet of the reference. The contract of Leq of package lat. The contract of Meet of package lat. -/
import Derived.Test.YtnpbmihbmilkbaaGreatG26
import Derived.Test.YtnpbmihbmilkbaaGreatG11
import Derived.Test.YtnpbmihbmilkbaaGreatG16
import Derived.RangeFuncNested
import Derived.RangeFuncBound
import Derived.RangeFuncCalls
import Derived.RangeFuncLeaves
import Derived.Below
import Derived.OwnWalkIn
import Derived.TacticsInMore
import Derived.LoopNIn
import Derived.LoopIn
import Derived.Shelf.Abstract
import Derived.Shelf.RegionOpen
import Derived.WalkKit
import Derived.BigFrameIn
namespace Go.Proofs.YtnpbmihbmilkbaaGreat
open Go.RowKit
theorem acs_cells {w : World} {G off : Nat} {l : List Am} (hl : OkR l) (h : ∀ i (hi : i < l.length), w.rangeAt G (off + i * 21) l[i].cells) : ∀ j u, (acs l)[j]? = some u → w.cell? ⟨G, off + j, none⟩ = some u := by
  intro j u hj
  have hlt : j < l.length * 21 := by rw [← acs_len hl]; exact (List.getElem?_eq_some_iff.1 hj).1
  have hi : j / 21 < l.length := by omega
  have hlen := acells_len (hl _ (List.getElem_mem hi))
  have hv : l[j / 21].cells[j % 21]? = some (l[j / 21].cells[j % 21]'(by omega)) := List.getElem?_eq_getElem (by omega)
  have h1 := acs_get hl _ hi (j % 21) _ hv
  rw [show j / 21 * 21 + j % 21 = j by omega, hj] at h1
  have h2 := h _ hi (j % 21) _ hv
  rw [← h1, Nat.add_assoc, show j / 21 * 21 + j % 21 = j by omega] at h2
  exact h2
theorem run_none46 (w : World) : (Instr.buildSlice 23 0 #[]).run Tryz.prog w = .ok (.slice (some ⟨w.heap.size, 0, none⟩) 0 0) (w.alloc (.cells #[] 50)) := by
  simp only [Instr.buildSlice, Sem.run_bind, run_underlying Tryz.underlying23, Result.andThen_ok, sizeQf46]
  rw [if_neg (by decide), if_pos (by decide)]
  have e : ∀ g : Nat → Value, Array.map g (Array.range (0 * 21)) = #[] := fun g => by simp
  simp only [e, Instr.fill, Sem.run_bind, Sem.run_pure, Result.andThen_ok]
  rfl
set_option maxRecDepth 100000 in
set_option maxHeartbeats 2000000 in
theorem clone_isO (A : Option Addr) (n cap : Nat) (l : List Am) (w : World) (h : RowV w A n cap l) (hn : n ≤ 1000) : Calls Tryz.prog 68 #[.slice A n cap] w (GivesO w l) := by
  have hb := run_none46
  have hq : ∀ (W : World) (a : Option Addr) (n c : Nat), (binOp .eql 23 (.slice a n c) (.slice none 0 0)).run Tryz.prog W = .ok (.bool a.isNone) W := fun W a n c => Lib.run_eql_slice_nil W _ _ _ _ _ _ _ Tryz.underlying23
  cases A with
  | none =>
    have h0 : n = 0 := by
      by_cases e : n = 0
      · exact e
      · obtain ⟨G, off, e2, _⟩ := h.at_ (by omega)
        cases e2
    have hl : l = [] := List.eq_nil_of_length_eq_zero (by rw [h.len, h0])
    have HL := Lib.hid hl
    clear h h0 hl
    go_enter Tryz.func68, Tryz.ntmps68
    go_wp2_with fail
    go_ret
    exact ⟨⟨none, 0, 0, rfl, by rw [HL.out]; exact ⟨okR_nil, rfl, Nat.le_refl _, Nat.zero_le _, fun h => absurd h (Nat.lt_irrefl _)⟩, fun G off e => by cases e⟩, Below.refl _ _⟩
  | some ad =>
    obtain ⟨i0, hi, hz0, hz1, hz2⟩ := info_parts info46z
    have H := Lib.hid h
    have O0 := Lib.hid (World.ownsRow_made (base := w.heap.size) (e := 50) (size := 21) w #[] 0 (Nat.le_refl _) (Nat.zero_le _) (by rfl))
    have B0 := Lib.hid (new_below w (.cells #[] 50))
    have HC := Lib.hid (show ∀ j u, (acs l)[j]? = some u → (w.alloc (.cells #[] 50)).cell? (ad.add j) = some u from fun j u hj => by
      have hlt : j < l.length * 21 := by rw [← acs_len h.ok]; exact (List.getElem?_eq_some_iff.1 hj).1
      obtain ⟨G, off, e, hG, hr⟩ := h.at_ (by have := h.len; omega)
      cases e
      have h1 := acs_cells h.ok hr j u hj
      have h2 := ((new_below w (.cells #[] 50)).cell (p := ⟨G, off + j, none⟩) hG).trans h1
      unfold Addr.add
      split
      · rename_i h0; rw [h0] at h2; exact h2
      · exact h2)
    clear h
    go_enter Tryz.func68, Tryz.ntmps68
    go_wp2_with (first
      | go_skip
      | (refine wpList_append_own _ rfl _ _ 23 rfl w.heap.size 50 i0 (.agg azero.cells.toArray) 21 40 Tryz.underlying23 hi hz0 hz1 hz2 (by rfl) (by decide) _ 0 [] rfl O0.out ad n cap (acs l) rfl (by rw [acs_len H.out.ok, H.out.len]) HC.out (acs_ones l) (by unfold maxLen; omega) (by omega) (by simp) ?_; intro v1 w1 o1 g1 _))
    have O1 := Lib.hid (show OwnR w1 w.heap.size v1 l from ⟨H.out.ok, by have := o1; rw [Nat.zero_add, List.nil_append, ← H.out.len] at this; exact this⟩)
    have B1 := Lib.hid (B0.out.trans ((Below.refl w.heap.size _).grown g1 (by simp) (fun k hk => (O0.out.lt k hk).1)))
    clear o1 g1
    go_wp2_with fail
    go_ret
    exact GivesO.own O1.out B1.out
set_option maxRecDepth 100000 in
set_option maxHeartbeats 2000000 in
theorem all_isO (A : Option Addr) (n cap : Nat) (ls : List (List Am)) (w : World) (h : RowsV w A n cap ls) (hf : FewR ls) : Calls Tryz.prog 69 #[.slice A n cap] w (GivesO w (norm ls.flatten)) := by
  have H := Lib.hid h
  have FF := Lib.hid hf
  clear h hf
  go_enter Tryz.func69, Tryz.ntmps69
  go_wp2_with fail
  refine (collect_is A n cap ls _ H.out FF.out).mono ?_
  rintro e w1 ⟨⟨b, rfl, _, m1⟩, b1⟩
  have M1 := Lib.hid m1
  have B1 := Lib.hid b1
  clear m1 b1
  go_wp2_with fail
  refine (sorted_isO b ls.flatten _ M1.out (okR_flat H.out.ok)).mono ?_
  rintro e w2 ⟨⟨D, m, c, rfl, r2, f2⟩, b2⟩
  have F2 := Lib.hid f2
  have R2 := Lib.hid r2
  have B2 := Lib.hid b2
  clear r2 b2 f2
  go_wp2_with fail
  go_ret
  exact ⟨⟨D, m, c, rfl, R2.out, fun G off e => Nat.le_trans B1.out.size (F2.out G off e)⟩, step_ B1.out B2.out⟩
/-- Rows that the call lays itself. -/
theorem rows_one {w : World} {A : Option Addr} {n c : Nat} {a : List Am} (h : RowV w A n c a) : RowsV (w.alloc (.cells #[.slice A n c] 23)) (some ⟨w.heap.size, 0, none⟩) 1 1 [a] := by
  refine ⟨rfl, Nat.le_refl _, by decide, fun _ => ⟨w.heap.size, 0, rfl, by simp, fun i hi => ?_⟩⟩
  obtain rfl : i = 0 := by omega
  have hb := blk_alloc w 23 [.slice A n c]
  exact ⟨A, n, c, hb.cell rfl, h.below (new_below w _)⟩
set_option maxRecDepth 100000 in
set_option maxHeartbeats 2000000 in
theorem norm_isO (A : Option Addr) (n cap : Nat) (l : List Am) (w : World) (h : RowV w A n cap l) (hn : n ≤ 600) : Calls Tryz.prog 50 #[.slice A n cap] w (GivesO w (norm l)) := by
  have H := Lib.hid h
  clear h
  cases hr : rightR l with
  | true =>
    have HR := Lib.hid hr
    clear hr
    go_enter Tryz.func50, Tryz.ntmps50
    go_wp2_with fail
    refine (rightR_is A n cap l true _ H.out (by omega) HR).mono ?_
    rintro e w1 ⟨rfl, b1⟩
    have B1 := Lib.hid b1
    clear b1
    go_wp2_with fail
    refine (clone_isO A n cap l _ (H.out.below B1.out) (by omega)).mono ?_
    rintro e w2 ⟨⟨D, m, c, rfl, r2, f2⟩, b2⟩
    have F2 := Lib.hid f2
    have R2 := Lib.hid r2
    have B2 := Lib.hid b2
    clear r2 b2 f2
    go_wp2_with fail
    go_ret
    exact ⟨⟨D, m, c, rfl, by rw [norm_right H.out.ok HR.out]; exact R2.out, fun G off e => Nat.le_trans B1.out.size (F2.out G off e)⟩, step_ B1.out B2.out⟩
  | false =>
    have HR := Lib.hid hr
    clear hr
    go_enter Tryz.func50, Tryz.ntmps50
    go_wp2_with fail
    refine (rightR_is A n cap l false _ H.out (by omega) HR).mono ?_
    rintro e w1 ⟨rfl, b1⟩
    have B1 := Lib.hid b1
    have RR := Lib.hid (rows_one (H.out.below b1))
    have FF := Lib.hid (show FewR [l] from ⟨by simp, by simp; have := H.out.len; omega⟩)
    have HJ := Lib.hid (show norm [l].flatten = norm l by simp)
    have B0 := Lib.hid (new_below w1 (.cells #[.slice A n cap] 23))
    clear b1
    go_wp2_with fail
    refine (all_isO _ _ _ [l] _ RR.out FF.out).mono ?_
    rintro e w2 ⟨⟨D, m, c, rfl, r2, f2⟩, b2⟩
    have F2 := Lib.hid f2
    have R2 := Lib.hid r2
    have B2 := Lib.hid b2
    clear r2 b2 f2
    go_wp2_with fail
    go_ret
    exact ⟨⟨D, m, c, rfl, by rw [← HJ.out]; exact R2.out, fun G off e => Nat.le_trans (Nat.le_trans B1.out.size B0.out.size) (F2.out G off e)⟩, step_ B1.out (step_ B0.out B2.out)⟩
end Go.Proofs.YtnpbmihbmilkbaaGreat
namespace Go.Proofs.YtnpbmihbmilkbaaGreat
open Go.RowKit
end Go.Proofs.YtnpbmihbmilkbaaGreat
namespace Go.Proofs.YtnpbmihbmilkbaaGreat
open Go.RowKit
structure FS (w : World) (k : Ky) (W : World) : Prop where
  bel : Below w.heap.size w W
  key : Blk W w.heap.size 48 k.cells
  res : Blk W (w.heap.size + 1) 42 vzero.cells
theorem FS.below {w : World} {k : Ky} {W W' : World} (h : FS w k W) (hb : Below W.heap.size W W') : FS w k W' := ⟨step_ h.bel hb, h.key.below hb, h.res.below hb⟩
theorem FS.only {w : World} {k : Ky} {W W' : World} {g : Nat} (h : FS w k W) (hb : Only g W W') (hg : w.heap.size + 1 < g) : FS w k W' := ⟨h.bel.trans (hb.below (by omega) h.bel.size), h.key.only hb (by omega), h.res.only hb (by omega)⟩
end Go.Proofs.YtnpbmihbmilkbaaGreat
namespace Go.Proofs.YtnpbmihbmilkbaaGreat
open Go.RowKit Go.Maps
end Go.Proofs.YtnpbmihbmilkbaaGreat
namespace Go.Proofs.YtnpbmihbmilkbaaGreat
open Go.RowKit
def Wide (F : Fence) : Prop := F = Fence.wide ∨ ∃ l, F = Fence.wide.inRound l
theorem wide_no : Wide Fence.wide := .inl rfl
theorem wide_in (l : Nat) : Wide (Fence.wide.inRound l) := .inr ⟨l, rfl⟩
theorem calls_in {F : Fence} (hF : Wide F) {n : Nat} {P : Program} {f : FuncId} {args : Array Value} {w : World} {R : Ending → World → Prop} (h : Calls P f args w R) : CallsIn F n P f args w R := by
  rcases hF with rfl | ⟨l, rfl⟩
  · exact callsIn_wide.2 h
  · exact CallsIn.inRound l (callsIn_wide.2 h)
theorem rows_in {F : Fence} (hF : Wide F) {n : Nat} {P : Program} {row : String} {args : Array Value} {w : World} {R : Value → World → Prop} (h : Rows P row args w R) : RowsIn F n P row args w R := by
  have h0 : RowsIn Fence.wide n P row args w R := fun c cs _ => let ⟨v, w', r, s⟩ := h c cs; ⟨v, w', r, stepsIn_wide.2 s⟩
  rcases hF with rfl | ⟨l, rfl⟩
  · exact h0
  · exact h0
theorem wide_fn {F : Fence} (hF : Wide F) (f : FuncId) : F.fn f := by
  rcases hF with rfl | ⟨l, rfl⟩ <;> trivial
theorem wide_depth {F : Fence} (hF : Wide F) : F.depth = none := by
  rcases hF with rfl | ⟨l, rfl⟩ <;> rfl
theorem op_in {F : Fence} (hF : Wide F) {n : Nat} {P : Program} {o : Oper} {a : Act} {w : World} {K K' : Act → World → Prop} {Q Q' : Exit → Act → World → Prop} (hd : ∀ c, o.op ≠ .defer c) (hK : ∀ a w, K a w → K' a w) (hQ : ∀ e a w, e ≠ .normal → Q e a w → Q' e a w) (h : o.wp P a w K Q) : o.wpIn F n P a w K' Q' := by
  refine ⟨fun f _ => wide_fn hF f, ?_⟩
  rw [Oper.semAt_plain F _ _ hd]
  unfold Oper.wp at h
  have hdep : F.depth.isSome = true → 1 ≤ n := fun e => by rw [wide_depth hF] at e; cases e
  revert h
  generalize (execOp a.eval o).run P w = r
  intro h
  match r, h with
  | .ok (.value v) w', h => exact hK _ _ h
  | .ok .skip w', h => exact hK _ _ h
  | .ok (.defer d) w', h => exact hK _ _ h
  | .ok (.enter f args) w', h =>
    refine ⟨hdep, calls_in hF (Calls.mono h ?_)⟩
    intro e w'' he
    cases e with
    | returned v => exact hK _ _ he
    | panicked chain => exact hQ _ _ _ (by simp) he
    | outgrown => obtain ⟨a1, w1, h1⟩ := he; exact ⟨a1, w1, hQ _ _ _ (by simp) h1⟩
  | .ok (.row row args) w', h => exact ⟨hdep, rows_in hF (Rows.mono h (fun v w'' => hK _ _))⟩
  | .halt (.panic v) w', h => exact hQ _ _ _ (by simp) h
theorem in_plain {F : Fence} (hF : Wide F) {n : Nat} {P : Program} {ops : Array Oper} {rest : List Oper} {o : Oper} {a : Act} {w : World} {Q : Exit → Act → World → Prop} (hgd : o.guard = none) (hd : ∀ c, o.op ≠ .defer c)
    (h : wpList P ops (fun e a' w' => e = .normal ∧ wpListIn F n P ops Q rest a' w') [o] a w) : wpListIn F n P ops Q (o :: rest) a w := by
  have hw : Region.wanted o (yielded ops a.tmps) = true := by simp [Region.wanted, hgd]
  refine wpListIn_plain hgd fun K hK => ?_
  unfold wpList at h
  rw [if_pos hw] at h
  rcases h with h | ⟨_, a1, w1, h1, _⟩
  · refine op_in hF hd (fun a' w' h' => ?_) (fun e a' w' hn h' => absurd h'.1 hn) h
    unfold wpList at h'; exact hK _ _ h'.2
  · cases h1
theorem any_in {F : Fence} (hF : Wide F) {n : Nat} {P : Program} {md : Region.Mode} {ops : Array Oper} {Q : Exit → Act → World → Prop} (hd : ∀ (i : Nat) (o : Oper), ops[i]? = some o → ∀ c : Call, o.op ≠ Op.defer c) :
    ∀ (fuel : Nat) (listed : Array Bool) (a : Act) (w : World), wpAny P md ops (fun e a' w' => e = .normal ∧ Q .normal a' w') fuel listed a w → wpAnyIn F n P md ops Q fuel listed a w
  | 0, _, _, _, h => ⟨h.1, h.2.2⟩
  | fuel + 1, listed, a, w, h => by
    refine ⟨fun e => (h.1 e).2, fun i hi => ?_⟩
    have h1 := h.2 i hi
    unfold wpOp at h1
    unfold wpOpIn
    cases ho : ops[i]? with
    | none => rw [ho] at h1; exact any_in hF hd fuel _ a w h1
    | some o =>
      rw [ho] at h1
      simp only at h1 ⊢
      split at h1
      · rename_i hw
        rw [if_pos hw]
        rcases h1 with h1 | ⟨_, a1, w1, h2, _⟩
        · exact op_in hF (hd i o ho) (fun a' w' h' => any_in hF hd fuel _ a' w' h') (fun e a' w' hn h' => absurd h'.1 hn) h1
        · cases h2
      · rename_i hw
        rw [if_neg hw]
        exact ⟨fun f _ => wide_fn hF f, any_in hF hd fuel _ _ w h1⟩
theorem region_in {F : Fence} (hF : Wide F) {n : Nat} {P : Program} {id : Nat} {ops : Array Oper} {Q : Exit → Act → World → Prop} {S : World → Prop} {a : Act} {w : World} (hm : P.follows .mixedOrders = true) (hd : ops.all (fun (o : Oper) => match o.op with | Op.defer _ => false | _ => true) = true) (hS : S w.drew)
    (h : S w.drew → wpAnyH P .any ops (fun e a' w' => e = .normal ∧ Q .normal a' w') S ops.size (Array.replicate ops.size false) a w.drew) : (Code.region id ops true).wpIn F n P Q a w := by
  refine wpIn_region_any hm (any_in hF (fun i o ho c e => ?_) _ _ _ _ (wpAny_of_held _ _ _ _ (h hS)))
  rw [Array.all_eq_true] at hd
  obtain ⟨hi, e1⟩ := Array.getElem?_eq_some_iff.1 ho
  have := hd i hi
  rw [e1, e] at this
  cases this
/-! A range over the iterator of a row. -/
abbrev encP (x : Am) : Array Value := #[.agg x.k.cells.toArray, .agg x.v.cells.toArray]
def EachSeq (gf : Nat) (lb : Array Value) (N : World → Prop) (s : List Am) : Prop :=
  ∀ (l : Nat) (J : List Am → World → Prop) (X : World → Prop) (W : World), (∀ pre V V', J pre V → Below V.heap.size V V' → J pre V') → (∀ pre V, J pre V → N V) →
    (∀ pre x rest V, s = pre ++ x :: rest → J pre V → YieldAt Fence.wide 9 Tryz.prog l (encP x) V fun e V' => (e = .returned (.bool true) ∧ J (pre ++ [x]) V') ∨ (e = .returned (.bool false) ∧ X V')) →
    J [] W → Calls Tryz.prog gf (#[.func (.yield l) #[] #[]] ++ lb) W fun e V' => (∃ v, e = .returned v) ∧ (J s V' ∨ X V')
structure KeepL (B : Nat) (W W' : World) : Prop where
  size : W.heap.size ≤ W'.heap.size
  one : W'.heap[B]? = W.heap[B]?
  two : W'.heap[B + 1]? = W.heap[B + 1]?
theorem KeepL.refl (B : Nat) (W : World) : KeepL B W W := ⟨Nat.le_refl _, rfl, rfl⟩
theorem KeepL.trans {B : Nat} {a b c : World} (h : KeepL B a b) (k : KeepL B b c) : KeepL B a c := ⟨Nat.le_trans h.size k.size, k.one.trans h.one, k.two.trans h.two⟩
theorem KeepL.below {B C : Nat} {a b : World} (h : Below C a b) (hC : B + 1 < C) : KeepL B a b := ⟨h.size, h.block B (by omega), h.block (B + 1) hC⟩
theorem KeepL.only {B g : Nat} {a b : World} (h : Only g a b) (h1 : g ≠ B) (h2 : g ≠ B + 1) (hs : B + 1 < a.heap.size) : KeepL B a b := ⟨h.size, h.block B (by omega) (fun e => h1 e.symm), h.block (B + 1) hs (fun e => h2 e.symm)⟩
end Go.Proofs.YtnpbmihbmilkbaaGreat
namespace Go.Proofs.YtnpbmihbmilkbaaGreat
open Go.RowKit Go.Shelf
attribute [local go_sem] Oper.semAt_some
theorem yield_any {P : Program} {l : Nat} {args : Array Value} {W : World} {R : Ending → World → Prop} (h : YieldAt Fence.wide 9 P l args W R) (m : Nat) (r : Option Nat) :
    ∃ fn tmps assign body, (Instr.yield l args).run P W = .ok (.round l fn tmps assign body) W ∧ RoundIn { Fence.wide with round := r } m P l fn tmps assign body W R := by
  obtain ⟨fn, tmps, assign, body, hy, h1, h2⟩ := h
  exact ⟨fn, tmps, assign, body, hy, h1, fun c cs _ => h2 c cs (fun _ hd => by cases hd)⟩
theorem in_done {F : Fence} {n : Nat} {P : Program} {ops : Array Oper} {rest : List Oper} {a : Act} {w : World} {Q : Exit → Act → World → Prop} (h : wpListIn F n P ops Q rest a w) : wpList P ops (fun e a' w' => e = .normal ∧ wpListIn F n P ops Q rest a' w') [] a w := ⟨rfl, h⟩
def GivesF (w : World) (s : List Am) (e : Ending) (w' : World) : Prop := (∃ Bs D m c, e = .returned (.func (.func 51) #[] #[.pointer (some ⟨Bs, 0, none⟩)]) ∧ w.heap.size ≤ Bs ∧ Blk w' Bs 23 [.slice D m c] ∧ RowV w' D m c s ∧ ∀ G off, D = some ⟨G, off, none⟩ → w.heap.size ≤ G) ∧ Below w.heap.size w w'
set_option maxRecDepth 100000 in
set_option maxHeartbeats 2000000 in
theorem each_isO (A : Option Addr) (n cap : Nat) (l : List Am) (w : World) (h : RowV w A n cap l) (hn : n ≤ 600) : Calls Tryz.prog 37 #[.slice A n cap] w (GivesF w (norm l)) := by
  have H := Lib.hid h
  clear h
  go_enter Tryz.func37, Tryz.ntmps37
  go_wp2_with fail
  refine (norm_isO A n cap l _ H.out hn).mono ?_
  rintro e w1 ⟨⟨D, m, c, rfl, r1, f1⟩, b1⟩
  have F1 := Lib.hid f1
  have R1 := Lib.hid r1
  have B1 := Lib.hid b1
  clear r1 b1 f1
  go_wp2_with fail
  go_ret
  have B2 := new_below w1 (.cells #[.slice D m c] 23)
  exact ⟨⟨w1.heap.size, D, m, c, rfl, B1.out.size, blk_alloc w1 23 [.slice D m c], R1.out.below B2, F1.out⟩, step_ B1.out B2⟩
theorem split_at {s : List Am} {j : Nat} (h : j < s.length) : s = s.take j ++ s.getD j azero :: s.drop (j + 1) := by
  rw [← drop_getD h, List.take_append_drop]
set_option maxRecDepth 100000 in
set_option maxHeartbeats 2000000 in
theorem each_seq (Bs : Nat) (D : Option Addr) (m c : Nat) (s : List Am) (hm : m ≤ 1000) : EachSeq 51 #[.pointer (some ⟨Bs, 0, none⟩)] (fun V => Blk V Bs 23 [.slice D m c] ∧ RowV V D m c s) s := by
  intro l J X W hJb hJn hY h0
  have hz := zero32
  have c0 := (hJn _ _ h0).1.cell (i := 0) rfl
  have HB := Lib.hid hJb
  have HN := Lib.hid hJn
  have HY := Lib.hid hY
  have H0 := Lib.hid h0
  clear hJb hJn hY h0
  refine (callsIn_wide (n := 10)).1 ?_
  refine callsIn_of_wp Tryz.func51 rfl trivial ?_ rfl
  simp only [Tryz.ntmps51, List.size_toArray, List.length_cons, List.length_nil, Nat.reduceAdd, Nat.reduceSub, Array.replicate_succ, Array.replicate_zero, List.push_toArray, List.append_toArray, List.nil_append, List.cons_append]
  gi_wp2
  gi_loopw [7] (fun i wr => ∃ (j : Nat), j ≤ m ∧ i = .int .i64 j ∧ J (s.take j) wr) (fun i _ => (m - (intOf i).toNat))
  case atStart => exact ⟨0, Nat.zero_le _, rfl, H0.out⟩
  case round =>
    obtain ⟨j, hj, rfl, hJ⟩ := hrel
    have JJ := Lib.hid hJ
    clear hJ
    by_cases hlt : j < m
    · obtain ⟨G, p, hE⟩ := (HN.out _ _ JJ.out).2.elem j hlt
      have E := Lib.hid hE
      have SP := Lib.hid (split_at (s := s) (j := j) (by have := (HN.out _ _ JJ.out).2.len; omega))
      have TK := Lib.hid (take_getD (l := s) (j := j) (by have := (HN.out _ _ JJ.out).2.len; omega))
      obtain ⟨x, hx⟩ : ∃ x, s.getD j azero = x := ⟨_, rfl⟩
      rw [hx] at E SP TK
      clear hE hx
      have Z := Lib.hid (blk_alloc wr 50 azero.cells)
      gi_wp2_with (first
        | (refine in_plain wide_no rfl (by intro c h; cases h) ?_; refine wpList_index rfl _ _ rfl D m c G p j x _ rfl rfl (by first | rfl | omega) E.out ?_; refine in_done ?_)
        | (refine in_plain wide_no rfl (by intro c h; cases h) ?_; refine wpList_load_amx rfl _ rfl G p x rfl E.out.rg E.out.ok ?_; refine in_done ?_)
        | (refine in_plain wide_no rfl (by intro c h; cases h) ?_; refine wpList_store_am rfl _ _ rfl wr.heap.size azero x rfl rfl Z.out azero_ok E.out.ok ?_; intro w2 N2 O2; refine in_done ?_)
        | (refine in_plain wide_no rfl (by intro c h; cases h) ?_; refine wpList_load_ky rfl _ rfl wr.heap.size 0 x.k rfl N2.out.ak E.out.ok.k.ml ?_; refine in_done ?_)
        | (refine in_plain wide_no rfl (by intro c h; cases h) ?_; refine wpList_load_vl rfl _ rfl wr.heap.size 12 x.v rfl (N2.out.av E.out.ok) E.out.ok.v.tl ?_; refine in_done ?_; obtain ⟨fn, tmps, assign, body, hy, hR⟩ := yield_any (HY.out (s.take j) x _ w2 SP.out (HB.out _ _ _ JJ.out (box_below O2.out))) 9 none))
      refine hR.mono ?_
      rintro e W3 (⟨rfl, hJ3⟩ | ⟨rfl, hX3⟩)
      · have J3 := Lib.hid hJ3
        clear hJ3 hR hy
        gi_wp2
        go_roundw
        case rel => exact ⟨j + 1, by omega, by go_num, by rw [TK.out]; exact J3.out⟩
        case measure => simp [intOf]; omega
      · have X3 := Lib.hid hX3
        clear hX3 hR hy
        gi_wp2
        refine bodyPost_ret (results_none rfl _ _ _) rfl ?_
        exact ⟨⟨_, rfl⟩, .inr X3.out⟩
    · obtain rfl : j = m := by omega
      have TK := Lib.hid (show s.take j = s from List.take_of_length_le (by have := (HN.out _ _ JJ.out).2.len; omega))
      gi_wp2
      go_end0
      exact ⟨⟨_, rfl⟩, .inl (by have := JJ.out; rw [TK.out] at this; exact this)⟩
end Go.Proofs.YtnpbmihbmilkbaaGreat
namespace Go.Proofs.YtnpbmihbmilkbaaGreat
open Go.RowKit
def MI (X : List Am) (f : Ky → Option Vl) (j : Nat) (out : List Am) : Prop := out ++ meetF (X.drop j) f = meetF X f
theorem meetF_len (X : List Am) (f : Ky → Option Vl) : (meetF X f).length ≤ X.length := List.length_filterMap_le ..
section
variable {X : List Am} {f : Ky → Option Vl} {j : Nat} {out : List Am} {x : Am}
theorem MI.len (h : MI X f j out) : out.length ≤ X.length := by
  have := meetF_len X f
  rw [← h, List.length_append] at this; omega
theorem MI.no (h : MI X f j out) (hd : X.drop j = x :: X.drop (j + 1)) (hf : f x.k = none) : MI X f (j + 1) out := by
  unfold MI at *; rw [← h, hd, meetF_cons, hf]
theorem MI.yes (h : MI X f j out) {u : Vl} (hd : X.drop j = x :: X.drop (j + 1)) (hf : f x.k = some u) : MI X f (j + 1) (out ++ [⟨x.k, under x.v u⟩]) := by
  unfold MI at *; rw [← h, hd, meetF_cons, hf]; simp
theorem MI.done (h : MI X f X.length out) : out = meetF X f := by
  unfold MI at *; rw [← h, List.drop_length]; simp [meetF]
end
end Go.Proofs.YtnpbmihbmilkbaaGreat
namespace Go.Proofs.YtnpbmihbmilkbaaGreat
open Go.RowKit Go.Shelf
attribute [local go_sem] Oper.semAt_some
theorem in_skip {F : Fence} (hF : Wide F) {n : Nat} {P : Program} {ops : Array Oper} {Q : Exit → Act → World → Prop} {a : Act} {w : World} {rest : List Oper} {o : Oper}
    (hw : Region.wanted o (yielded ops a.tmps) = false) (h : wpListIn F n P ops Q rest (a.put o.dst undef) w) : wpListIn F n P ops Q (o :: rest) a w := by
  unfold wpListIn
  rw [if_neg (by rw [hw]; decide)]
  exact ⟨fun f _ => wide_fn hF f, h⟩
theorem below_put {B i : Nat} {w w' : World} {o : Obj} (h : Below B w w') (hi : B ≤ i) : Below B w (w'.putObj i o) :=
  ⟨h.os, h.tape, h.output, by simpa using h.size, fun k hk => (World.putObj_heap_other (by omega)).trans (h.block k hk)⟩
theorem blk_put {g t i : Nat} {w : World} {cs : List Value} {o : Obj} (h : Blk w g t cs) (hi : g ≠ i) : Blk (w.putObj i o) g t cs := (World.putObj_heap_other (by omega)).trans h
theorem marks_ret {F : Fence} {n : Nat} {P : Program} {fn : Func} {R : Ending → World → Prop} {a : Act} {w : World} {v : Value} (D : Nat) (hd : a.defers = [{ target := .collected D, args := #[] }]) (hk : w.heap[D]? = some (.deferred (some [])))
    (hr : (results fn a.tmps).run P (w.putObj D (.deferred none)) = .ok v (w.putObj D (.deferred none))) (hR : R (.returned v) (w.putObj D (.deferred none))) : bodyPostM F n P fn R .ret a w := by
  show LeavesInM F n P fn a.tmps R a.defers .returning w
  rw [hd]
  exact ⟨by simp, .inl ⟨D, _, rfl, run_takeDeferred hk, v, hr, hR⟩⟩
end Go.Proofs.YtnpbmihbmilkbaaGreat
namespace Go.Proofs.YtnpbmihbmilkbaaGreat
open Go.RowKit Go.Shelf
attribute [local go_sem] Oper.semAt_some
theorem grown_blk {w w' : World} {row : Option Nat} {g t : Nat} {cs : List Value} (h : Blk w g t cs) (hg : w.grownBy w' row) (hn : row ≠ some g) : Blk w' g t cs := (hg.block g h.lt (fun e => hn e.symm)).trans h
theorem OwnR.ne {w : World} {B : Nat} {v : Value} {l : List Am} {g t : Nat} {cs : List Value} (h : OwnR w B v l) (hb : Blk w g t cs) (ht : t ≠ 50) : v.ownBlock ≠ some g := by
  rcases h.row.2 with ⟨rfl, _⟩ | ⟨g', cap, cur, rfl, _, hg, _⟩
  · simp [Value.ownBlock]
  · intro e
    obtain rfl : g' = g := by simpa [Value.ownBlock] using e
    unfold Blk at hb
    rw [hg] at hb
    simp only [Option.some.injEq, Obj.cells.injEq] at hb
    exact ht hb.2.1.symm
theorem OwnR.put {w : World} {B : Nat} {v : Value} {l : List Am} {i : Nat} {o : Obj} (h : OwnR w B v l) (hn : v.ownBlock ≠ some i) : OwnR (w.putObj i o) B v l :=
  ⟨h.ok, h.row.kept (row := some i) ⟨rfl, rfl, rfl, by simp, fun k _ hn => World.putObj_heap_other (fun e => hn (by rw [e]))⟩ (.inr hn)⟩
theorem OwnR.ge {w : World} {B : Nat} {v : Value} {l : List Am} {i : Nat} (h : OwnR w B v l) (hi : i < B) : v.ownBlock ≠ some i := fun e => by have := (h.row.lt i e).1; omega
theorem RowV.only {w w' : World} {A D : Option Addr} {n cap g m c : Nat} {l : List Am} (h : RowV w A n cap l) (ho : Only g w w') (hb : Blk w g 23 [.slice D m c]) : RowV w' A n cap l :=
  ⟨h.ok, h.len, h.le, h.most, fun h0 => by
    obtain ⟨G, off, ha, hG, hr⟩ := h.at_ h0
    have hne : G ≠ g := by
      rintro rfl
      have h1 := hr 0 (by rw [h.len]; exact h0) 0 _ (by rw [Am.cells, List.getElem?_append_left (by rw [kcells_len (h.ok _ (List.getElem_mem _)).k.ml]; omega)]; exact kc0 _)
      rw [cell_of_row _ G _ _ 23 (0, 0) hb] at h1
      obtain ⟨hi, e⟩ := Array.getElem?_eq_some_iff.1 h1
      simp only [List.size_toArray, List.length_singleton] at hi
      obtain rfl : off = 0 := by omega
      simp at e
    refine ⟨G, off, ha, Nat.lt_of_lt_of_le hG ho.size, fun i hi j v hv => ?_⟩
    have h1 := hr i hi j v hv
    unfold World.cell? at *
    rw [show w'.heap[(⟨G, off + i * 21 + j, none⟩ : Addr).block]? = w.heap[(⟨G, off + i * 21 + j, none⟩ : Addr).block]? from ho.block G hG hne]
    exact h1⟩
theorem exec_store22 {o : Oper} {a : Act} {w : World} (x y : Operand) (ho : o.op = .store 23 x y) (g : Nat) (u : Value) (D : Option Addr) (m c : Nat) (hx : a.eval x = .pointer (some ⟨g, 0, none⟩)) (hy : a.eval y = .slice D m c) (hb : Blk w g 23 [u]) :
    (execOp a.eval o).run Tryz.prog w = .ok .skip (w.setCell ⟨g, 0, none⟩ (.slice D m c)) := by
  have hc := hb.cell (i := 0) rfl
  have hf := hb.frozen 0
  unfold execOp
  simp only [ho, hx, hy]
  simp [go_sem, hc, hf]
section
variable {ops : Array Oper} {Q : Exit → Act → World → Prop} {md : Region.Mode} {S : World → Prop} {fuel : Nat} {listed : Array Bool} {a : Act} {w : World} {i : Nat} {o : Oper} {rs : List Nat}
end
structure MS (g7 g8 g9 : Nat) (k : Ky) (v u : Vl) (W : World) : Prop where
  k : Blk W g7 48 k.cells
  v : Blk W g8 42 v.cells
  u : Blk W g9 42 u.cells
theorem MS.below {g7 g8 g9 : Nat} {k : Ky} {v u : Vl} {W W' : World} (h : MS g7 g8 g9 k v u W) (hb : Below W.heap.size W W') : MS g7 g8 g9 k v u W' := ⟨h.k.below hb, h.v.below hb, h.u.below hb⟩
theorem MS.only {g7 g8 g9 g : Nat} {k : Ky} {v u : Vl} {W W' : World} (h : MS g7 g8 g9 k v u W) (hb : Only g W W') (h7 : g < g7) (h8 : g < g8) (h9 : g < g9) : MS g7 g8 g9 k v u W' := ⟨h.k.only hb (by omega), h.v.only hb (by omega), h.u.only hb (by omega)⟩
theorem MS.app {g7 g8 g9 B : Nat} {k : Ky} {v u : Vl} {W W' : World} {s : Value} {l : List Am} (h : MS g7 g8 g9 k v u W) (ho : OwnR W B s l) (hg : W.grownBy W' s.ownBlock) : MS g7 g8 g9 k v u W' :=
  ⟨grown_blk h.k hg (ho.ne h.k (by decide)), grown_blk h.v hg (ho.ne h.v (by decide)), grown_blk h.u hg (ho.ne h.u (by decide))⟩
def MM (g B : Nat) (w0 : World) (l : List Am) (V : World) : Prop := ∃ D m c, Blk V g 23 [.slice D m c] ∧ OwnR V B (.slice D m c) l ∧ Only g w0 V
end Go.Proofs.YtnpbmihbmilkbaaGreat
