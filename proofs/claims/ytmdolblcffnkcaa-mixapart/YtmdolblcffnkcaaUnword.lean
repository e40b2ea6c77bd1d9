/- The contracts of the iterator of slices.Backward over the steps, and of Unword of package mix. -/
import Derived.Test.YtmdolblcffnkcaaUndo
import Derived.Test.YtmdolblcffnkcaaRange
import Derived.Shelf.Abstract
import Derived.Shelf.RegionOpen
import Derived.WalkKit
import Derived.OwnWalkIn
import Derived.TacticsInMore
import Derived.LoopNIn
import Derived.LoopIn
namespace Go.Proofs.Ytmdolblcffnkcaa
open Go.RowKit Go.Shelf
attribute [local go_sem] Oper.semAt_some

def sh : Nat → Nat
  | 0 => 30
  | 1 => 27
  | _ => 31
def fc : Nat → Int
  | 0 => 13787848793156543929
  | 1 => 10723151780598845931
  | _ => 1
/-- The array of the steps, as it lies in memory. -/
abbrev stepsO : Obj := .cells #[.int .u64 30, .int .u64 13787848793156543929, .int .u64 27, .int .u64 10723151780598845931, .int .u64 31, .int .u64 1] 38
theorem steps_cells {W : World} {b : Nat} (h : W.heap[b]? = some stepsO) : W.cell? ⟨b, 0, none⟩ = some (.int .u64 30) ∧ W.cell? ⟨b, 1, none⟩ = some (.int .u64 13787848793156543929) ∧ W.cell? ⟨b, 2, none⟩ = some (.int .u64 27) ∧
    W.cell? ⟨b, 3, none⟩ = some (.int .u64 10723151780598845931) ∧ W.cell? ⟨b, 4, none⟩ = some (.int .u64 31) ∧ W.cell? ⟨b, 5, none⟩ = some (.int .u64 1) := by
  simp [World.cell?, h]
set_option maxRecDepth 100000 in
set_option maxHeartbeats 1000000 in
theorem back_all (Bs Ba : Nat) (p : Nat → Prop) (w : World) (hBs : Boxed w Bs 44 (.slice (some ⟨Ba, 0, none⟩) 3 3)) (hA : w.heap[Ba]? = some stepsO) (pS : p Bs) (pA : p Ba) :
    SeqAll Try.prog 27 #[.pointer (some ⟨Bs, 0, none⟩)] (fun k : Nat => #[.int .i64 k, stepV (sh k) (fc k)]) p [2, 1, 0] w := by
  intro l J W hW hJ hY h0
  have hBs' : Boxed W Bs 44 (.slice (some ⟨Ba, 0, none⟩) 3 3) := (hW.block Bs hBs.lt).trans hBs
  have hA' : W.heap[Ba]? = some stepsO := (hW.block Ba (Array.getElem?_eq_some_iff.1 hA).1).trans hA
  have hAlt := (Array.getElem?_eq_some_iff.1 hA').1
  refine (callsIn_wide (n := 10)).1 ?_
  refine callsIn_of_wp Try.func27 rfl trivial ?_ rfl
  simp only [Try.ntmps27, List.size_toArray, List.length_cons, List.length_nil, Nat.reduceAdd, Nat.reduceSub, Array.replicate_succ, Array.replicate_zero, List.push_toArray, List.append_toArray, List.nil_append, List.cons_append]
  have c0 := hBs'.cell
  gi_wp2
  clear c0
  gi_loopw [3] (fun i wr => ∃ (m : Nat), m ≤ 3 ∧ i = .int .i64 ((m : Int) - 1) ∧ J ([2, 1, 0].take (3 - m)) wr ∧ Stays p W.heap.size W wr) (fun i _ => (intOf i + 1).toNat)
  case atStart => exact ⟨3, Nat.le_refl _, rfl, h0, Stays.refl ..⟩
  case round =>
    obtain ⟨m, hm, rfl, hJm, hst⟩ := hrel
    have c0 := (hst.cell ⟨Bs, 0, none⟩ hBs'.lt (.inl pS)).trans hBs'.cell
    have cA := (hst.same Ba hAlt (.inl pA)).trans hA'
    obtain ⟨a0, a1, a2, a3, a4, a5⟩ := steps_cells cA
    match m, hm with
    | 3, _ =>
      obtain ⟨fn, tmps, assign, body, hy0, hR⟩ := yield_any (hY [] 2 [1, 0] wr rfl hJm) 9 none
      have hy : (Instr.yield l #[.int .i64 2, .agg #[.int .u64 31, .int .u64 1]]).run Try.prog wr = .ok (.round l fn tmps assign body) wr := hy0
      clear hy0
      gi_wp2
      refine hR.mono ?_
      rintro e W3 ⟨rfl, hJ3, hk3⟩
      gi_wp2
      go_roundw
      case rel => exact ⟨2, by omega, rfl, hJ3, hst.trans hk3⟩
      case measure => simp [intOf]
    | 2, _ =>
      obtain ⟨fn, tmps, assign, body, hy0, hR⟩ := yield_any (hY [2] 1 [0] wr rfl hJm) 9 none
      have hy : (Instr.yield l #[.int .i64 1, .agg #[.int .u64 27, .int .u64 10723151780598845931]]).run Try.prog wr = .ok (.round l fn tmps assign body) wr := hy0
      clear hy0
      gi_wp2
      refine hR.mono ?_
      rintro e W3 ⟨rfl, hJ3, hk3⟩
      gi_wp2
      go_roundw
      case rel => exact ⟨1, by omega, rfl, hJ3, hst.trans hk3⟩
      case measure => simp [intOf]
    | 1, _ =>
      obtain ⟨fn, tmps, assign, body, hy0, hR⟩ := yield_any (hY [2, 1] 0 [] wr rfl hJm) 9 none
      have hy : (Instr.yield l #[.int .i64 0, .agg #[.int .u64 30, .int .u64 13787848793156543929]]).run Try.prog wr = .ok (.round l fn tmps assign body) wr := hy0
      clear hy0
      gi_wp2
      refine hR.mono ?_
      rintro e W3 ⟨rfl, hJ3, hk3⟩
      gi_wp2
      go_roundw
      case rel => exact ⟨0, by omega, rfl, hJ3, hst.trans hk3⟩
      case measure => simp [intOf]
    | 0, _ =>
      gi_wp2
      go_end0
      exact ⟨⟨_, rfl⟩, hJm⟩

def back (y : Int) (pre : List Nat) : Int := pre.foldl (fun y k => unstepI (sh k) (fc k) y) y
theorem back_snoc (y : Int) (pre : List Nat) (k : Nat) : back y (pre ++ [k]) = unstepI (sh k) (fc k) (back y pre) := by simp [back]
theorem fB_nat : (13787848793156543929 : Int).toNat = M.fB := by decide
theorem fC_nat : (10723151780598845931 : Int).toNat = M.fC := by decide
theorem one_nat : (1 : Int).toNat = 1 := by decide
theorem back_all3 (y : Int) : back y [2, 1, 0] = ((M.unmix y.toNat : Nat) : Int) := by
  have e : back y [2, 1, 0] = unstepI 30 13787848793156543929 (unstepI 27 10723151780598845931 (unstepI 31 1 y)) := rfl
  rw [e, unstepI, unstepI, unstepI, Int.toNat_natCast, Int.toNat_natCast, fB_nat, fC_nat, one_nat, M.unmix]
theorem unword_spell (seed y : Int) (hs : U64 seed) : bits .xor .u64 (IntKind.u64.wrap (back y [2, 1, 0] - 11400714819323198485)) seed = unwordI seed y := by
  rw [xor_spell _ _ (wrap_U64 _) hs, back_all3, xorI, unwordI, M.unword]
  have h := M.unmix_lt y.toNat
  rw [show (IntKind.u64.wrap (((M.unmix y.toNat : Nat) : Int) - 11400714819323198485)).toNat = (M.unmix y.toNat + (2 ^ 64 - M.fA)) % 2 ^ 64 by
    rw [IntKind.wrap_u64, show 2 ^ 64 - M.fA = 7046029254386353131 by decide]; generalize M.unmix y.toNat = u; omega]
theorem own_new {β : Type} (B k : Nat) (cs : Array Value) (t : TypeId) : OwnFrom (β := β) B (fun _ W => W.heap[k]? = some (.cells cs t)) := fun _ X Y row hs hg hr =>
  (hg.block k (Array.getElem?_eq_some_iff.1 hs).1 (fun e => by obtain ⟨_, o, ho, hc⟩ := hr k e.symm; rw [hs] at ho; cases ho; cases hc)).trans hs
theorem stays_drew {p : Nat → Prop} {c : Nat} {W V : World} (h : Below W.drew.heap.size W.drew V) : Stays p c W V := ⟨h.size, fun k hk _ => h.block k hk⟩
theorem undo_cells (W : World) (a b g : Value) : ((W.alloc (.cells #[a, b] 37)).alloc (.cells #[g] 22)).cell? ⟨W.heap.size + 1, 0, none⟩ = some g ∧ ((W.alloc (.cells #[a, b] 37)).alloc (.cells #[g] 22)).cell? ⟨W.heap.size, 0, none⟩ = some a := by
  refine ⟨?_, ?_⟩
  · have h := (Boxed.new (W.alloc (.cells #[a, b] 37)) 22 g).cell
    rw [World.size_alloc] at h; exact h
  · have h : ((W.alloc (.cells #[a, b] 37)).alloc (.cells #[g] 22)).heap[W.heap.size]? = some (.cells #[a, b] 37) := (Below.heap_alloc _ _ _ (by simp)).trans (World.alloc_heap_new W _)
    simp [World.cell?, h]
theorem undo_more (s : Nat) (f g : Int) (w : World) (hf : 0 ≤ f) (hg : Hid (recipI f = g)) :
    Calls Try.prog 19 #[stepV s f] w fun e w' => ∃ B C, e = .returned (.func (.func 29) #[] #[.pointer (some ⟨B, 0, none⟩), .pointer (some ⟨C, 0, none⟩)]) ∧ w'.cell? ⟨B, 0, none⟩ = some (.int .u64 g) ∧ w'.cell? ⟨C, 0, none⟩ = some (.int .u64 s) ∧ Below w.heap.size w w' := by
  refine (undo_is s f g w hf hg).mono ?_
  rintro e w' ⟨rfl, rfl⟩
  exact ⟨_, _, rfl, (undo_cells _ _ _ _).1, (undo_cells _ _ _ _).2, ((Below.refl _ w).alloc (Nat.le_refl _) _).alloc (by simp) _⟩
theorem sh_lt (k : Nat) : 2 * sh k < 64 := by unfold sh; split <;> omega
theorem sh_ge (k : Nat) : 64 ≤ 3 * sh k := by unfold sh; split <;> omega
theorem fc_ge (k : Nat) : 0 ≤ fc k := by unfold fc; split <;> omega
theorem back_U64 (y : Int) (hy : U64 y) (pre : List Nat) : U64 (back y pre) := by
  unfold back
  induction pre generalizing y with
  | nil => exact hy
  | cons k l ih => rw [List.foldl_cons]; exact ih _ (unstepI_U64 ..)
set_option maxRecDepth 100000 in
set_option maxHeartbeats 1000000 in
theorem unword_is (seed y r : Int) (w : World) (hs : U64 seed) (hy : U64 y) (hr : Hid (unwordI seed y = r)) :
    Calls Try.prog 8 #[.int .u64 seed, .int .u64 y] w fun e w' => e = .returned (.int .u64 r) ∧ Below w.heap.size w w' := by
  refine (callsIn_wide (n := 10)).1 ?_
  refine callsIn_of_wp_marks Try.func8 rfl trivial ?_ rfl
  simp only [Try.ntmps8, List.size_toArray, List.length_cons, List.length_nil, Nat.reduceAdd, Nat.reduceSub, Array.replicate_succ, Array.replicate_zero, List.push_toArray, List.append_toArray, List.nil_append, List.cons_append]
  gi_wp2_with first
    | (refine ⟨trivial, ?_⟩; gi_at_call 14; refine (callsIn_wide.2 (steps_is _)).mono ?_; rintro e w1 ⟨rfl, b1⟩)
    | (refine ⟨trivial, ?_⟩; gi_at_call 18; refine (callsIn_wide.2 (backward_is _ _ _ _)).mono ?_; rintro e w2 ⟨rfl, rfl⟩)
  have hsz : (w.alloc (Obj.cells #[Value.int IntKind.u64 y] 22)).heap.size = w.heap.size + 1 := by simp
  have b0 : Below w.heap.size w w1 := ((Below.refl _ w).alloc (Nat.le_refl _) _).trans (b1.mono (by omega))
  have bY1 : Boxed w1 w.heap.size 22 (.int .u64 y) := (b1.block w.heap.size (by omega)).trans (Boxed.new w 22 _)
  have hlt1 : w.heap.size < w1.heap.size := bY1.lt
  obtain ⟨W0, hW0⟩ : ∃ W0, (w1.alloc stepsO).alloc (.cells #[.slice (some ⟨w1.heap.size, 0, none⟩) 3 3] 44) = W0 := ⟨_, rfl⟩
  have bY : Boxed W0 w.heap.size 22 (.int .u64 y) := by rw [← hW0]; exact (bY1.alloc _).alloc _
  have hA : W0.heap[w1.heap.size]? = some stepsO := by rw [← hW0]; exact (Below.heap_alloc _ _ _ (by simp)).trans (World.alloc_heap_new w1 _)
  have hS : Boxed W0 (w1.heap.size + 1) 44 (.slice (some ⟨w1.heap.size, 0, none⟩) 3 3) := by
    have h := Boxed.new (w1.alloc stepsO) 44 (.slice (some ⟨w1.heap.size, 0, none⟩) 3 3)
    rw [hW0, World.size_alloc] at h; exact h
  have hB0 : Below w.heap.size w W0 := by rw [← hW0]; exact (b0.alloc (by omega) _).alloc (by simp; omega) _
  have hsz0 : W0.heap.size = w1.heap.size + 2 := by rw [← hW0]; simp
  rw [hW0]
  clear hW0 b1 b0 bY1 hsz
  have hmx : Try.prog.follows .mixedOrders = true := by kernel_rfl
  refine range_all (gf := 27) (lb := #[.pointer (some ⟨w1.heap.size + 1, 0, none⟩)]) rfl (enters_of Try.func27 (by kernel_rfl) rfl)
    (back_all (w1.heap.size + 1) w1.heap.size (fun k => k = w1.heap.size ∨ k = w1.heap.size + 1) W0 hS hA (.inr rfl) (.inl rfl)) (fun k hk => by omega) (fun _ => rfl)
    (fun pre W => Boxed W w.heap.size 22 (.int .u64 (back y pre)) ∧ Below w.heap.size w W)
    (OwnFrom.and (Own.from (boxed_own _ _ _) _) (ownFrom_below (Nat.le_refl _) (by omega)))
    ⟨bY, hB0⟩
    (fun pre x a' W => (Boxed W w.heap.size 22 (.int .u64 (back y pre)) ∧ Below w.heap.size w W) ∧ ∃ Bx, W.heap[Bx]? = some (.cells #[.int .u64 (sh x), .int .u64 (fc x)] 37) ∧
      a' = { tmps := #[.int .u64 seed, .int .u64 y, undef, .pointer (some ⟨w.heap.size, 0, none⟩), .int .u64 0, .pointer (some ⟨w1.heap.size, 0, none⟩), undef, .pointer (some ⟨Bx, 0, none⟩), stepsV, .slice (some ⟨w1.heap.size, 0, none⟩) 3 3, .func (.func 27) #[] #[.pointer (some ⟨w1.heap.size + 1, 0, none⟩)], .int .i64 x, stepV (sh x) (fc x), undef, undef, undef, undef, undef, undef, undef, undef], defers := [] })
    ?hAx ?assign ?body ?done
  case hAx =>
    intro pre x a' _ X Y row ⟨h1, Bx, h2, h3⟩ hg hr
    exact ⟨OwnFrom.and (Own.from (boxed_own w.heap.size 22 (fun (_ : Unit) => .int .u64 (back y pre))) _) (ownFrom_below (Nat.le_refl _) (by omega)) () X Y row h1 hg hr, Bx, own_new W0.heap.size Bx _ 37 () X Y row h2 hg hr, h3⟩
  case assign =>
    rintro l pre x rest W K hxs ⟨bY1, hB1⟩ hK
    gi_wp2
    refine hK _ _ (Stays.alloc _ _) ⟨⟨bY1.alloc _, hB1.alloc hB1.size _⟩, W.heap.size, World.alloc_heap_new W _, rfl⟩
  case body =>
    rintro l pre x rest a' W hxs ⟨⟨bY1, hB1⟩, Bx, hx, rfl⟩
    have c1 := bY1.cell
    have c2 : W.cell? ⟨Bx, 0, none⟩ = some (.int .u64 (sh x)) := by simp [World.cell?, hx]
    have c3 : W.cell? ⟨Bx, 1, none⟩ = some (.int .u64 (fc x)) := by simp [World.cell?, hx]
    obtain ⟨g, hg0⟩ : ∃ g, recipI (fc x) = g := ⟨_, rfl⟩
    have hg := Lib.hid hg0
    obtain ⟨z, hz0⟩ : ∃ z, unstepI (sh x) (fc x) (back y pre) = z := ⟨_, rfl⟩
    have hz := Lib.hid hz0
    have hbU := back_U64 y hy pre
    gi_wp2
    gi_region_with_o first
      | (refine ⟨trivial, ?_⟩; gi_at_call 19; refine (CallsIn.inRound l (callsIn_wide.2 (undo_more (sh x) (fc x) g _ (fc_ge x) hg))).mono ?_; rintro e w3 ⟨B, C, rfl, cB, cC, hb3⟩; have b5 : Boxed w3 w.heap.size 22 (.int .u64 (back y pre)) := (hb3.block w.heap.size bY1.lt).trans bY1; have c5 := b5.cell; have f5 := b5.frozen)
      | (refine ⟨trivial, ?_⟩; gi_at_call 29; refine (CallsIn.inRound l (callsIn_wide.2 (undo1_is (sh x) (fc x) g (back y pre) z _ _ _ (sh_lt x) (sh_ge x) hbU hg hz (by assumption) (by assumption)))).mono ?_; rintro e w4 ⟨rfl, rfl⟩)
    all_goals gi_wp2
    all_goals exact ⟨(stays_drew hb3).trans (Stays.setCell w3 ⟨w.heap.size, 0, none⟩ _ (by show ¬ (w.heap.size = w1.heap.size ∨ w.heap.size = w1.heap.size + 1); omega) (by show w.heap.size < w1.heap.size + 2; omega)), by rw [back_snoc, hz0]; exact b5.set _, (hB1.drew.trans (hb3.mono hB1.size)).setCell (p := ⟨w.heap.size, 0, none⟩) (Nat.le_refl _) _⟩
  case done =>
    rintro D W hD ⟨bY1, hB1⟩ hK
    have c1 := bY1.cell
    gi_wp2
    refine ⟨by simp, .inl ⟨_, _, rfl, run_takeDeferred hK, ?_⟩⟩
    refine ⟨_, results_tmp rfl _ _ _, ?_, ?_⟩
    · exact ret_int ((unword_spell seed y hs).trans hr.out)
    · exact hB1.trans (belowK_b (w := w) (Nat.le_refl _) W D _ _ (by omega) hK rfl rfl)
end Go.Proofs.Ytmdolblcffnkcaa
