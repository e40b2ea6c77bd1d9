/- Maps from vectors to numbers in memory: what they hold, look-ups, entries, ranges. Numbers in slices: slices of one, of one's own, what they read as; the contract of Same of the reference. The contract of Count of package vec. -/
import Derived.Test.YtihkncnhkljgpaaMaps
import Derived.Test.YtihkncnhkljgpaaGRows
import Derived.WideKeyEntry
import Derived.Maps.Ext
import Derived.Test.YtihkncnhkljgpaaSplit
namespace Go.Proofs.Ytihkncnhkljgpaa
open Go.RowKit Go.Maps Go.WideElems

theorem keyType24 : Try.prog.keyType 24 = true := by kernel_rfl
theorem row24v : (24 : TypeId) < Try.prog.types.size := of_decide_eq_true (by kernel_rfl)
theorem keyAt24 : Try.prog.keyTypeAt 2 24 = true := by kernel_rfl
theorem cells24v : Try.prog.cellsOf 24 = 16 := by kernel_rfl
set_option maxRecDepth 100000 in
theorem lawV0 : WideMaps.KeyLaw Try.prog 24 := deep_law_laid laidOut (m := 2) (by omega) row24v keyAt24 (by rw [Try.underlying24])
theorem lawV : Keyed Try.prog 24 := Keyed.of_law lawV0
theorem keyOf_array {P : Program} {t n e : Nat} {v : Value} (hu : P.underlying t = some (.array n e)) (hk : P.keyType t = true) (hf : v.formed P t = true) : keyOf P t v = (P.keyLits (P.types.size + 1) t v.cells.toList).map fun ls => .string (keyBytes ls) := by
  simp [keyOf, hu, hk, hf]
theorem litsVec (d : Nat) {m : List Int} (h : VOk m) : ∃ ls, Try.prog.keyLits (d + 2) 24 (vc m) = some ls := by
  rw [keyLits_array Try.underlying24 (by rw [vc_len, h.len, cells24v])]
  obtain ⟨ys, hy⟩ := mapM_some (f := fun i => Try.prog.keyLits (d + 1) 22 (((vc m).drop (i * Try.prog.cellsOf 22)).take (Try.prog.cellsOf 22))) (List.range 16) (fun i hi => by
    have hi : i < 16 := List.mem_range.1 hi
    have hl := h.len
    rw [cells26, Nat.mul_one, List.drop_eq_getElem_cons (by rw [vc_len]; omega)]
    simp only [List.take_succ_cons, List.take_zero, vc, List.getElem_map]
    have := h.rg m[i] (List.getElem_mem _)
    exact ⟨_, litW d Try.underlying22 (WalkArith.wf_u32 (by omega))⟩)
  rw [hy]
  exact ⟨_, rfl⟩
theorem keyV {k : List Int} (h : VOk k) : ∃ l, keyOf Try.prog 24 (.agg (vc k).toArray) = some l := by
  obtain ⟨ls, hl⟩ := litsVec 175 h
  have hs : Try.prog.types.size + 1 = 175 + 2 := by rw [types_]
  rw [keyOf_array Try.underlying24 keyType24 (by simp [Value.formed, cells24v, vc_len, h.len]), hs]
  have e : (Value.agg (vc k).toArray).cells.toList = vc k := rfl
  rw [e, hl]
  exact ⟨_, rfl⟩
theorem vec_inj {a b : List Int} (h : Value.agg (vc a).toArray = .agg (vc b).toArray) : a = b := by
  have e : (vc a).toArray = (vc b).toArray := by injection h
  exact vc_inj (by have := congrArg Array.toList e; simpa using this)
theorem key_sameV {a b : List Int} (_ : VOk a) (_ : VOk b) {l : Lit} (h1 : keyOf Try.prog 24 (.agg (vc a).toArray) = some l) (h2 : keyOf Try.prog 24 (.agg (vc b).toArray) = some l) : a = b := vec_inj (lawV.inj h1 h2)
structure OkN (f : List Int → Option Int) : Prop where
  k : ∀ k v, f k = some v → VOk k
def noneV : List Int → Option Int := fun _ => none
theorem okN_none : OkN noneV := ⟨fun _ _ h => by cases h⟩
def updV (f : List Int → Option Int) (k : List Int) (v : Int) : List Int → Option Int := fun x => if x = k then some v else f x
theorem OkN.upd {f : List Int → Option Int} (h : OkN f) {k : List Int} (hk : VOk k) (v : Int) : OkN (updV f k v) := ⟨fun x z e => by
  unfold updV at e
  split at e
  · rename_i e2; rw [e2]; exact hk
  · exact h.k x z e⟩

structure RepV (D : DataW Value) (f : List Int → Option Int) : Prop where
  only : ∀ l, Maps.has D l = true → ∃ k v, f k = some v ∧ keyOf Try.prog 24 (.agg (vc k).toArray) = some l
  at_ : ∀ k v l, f k = some v → keyOf Try.prog 24 (.agg (vc k).toArray) = some l → Maps.has D l = true ∧ ∀ z, D.atKey l z = .held (.int .i64 v)
structure MapN (w : World) (b n : Nat) (f : List Int → Option Int) : Prop where
  ok : OkN f
  own : ∃ D, w.ownsMap Try.prog 24 heldE b n D ∧ RepV D f
theorem RepV.no {D : DataW Value} {f : List Int → Option Int} (h : RepV D f) (hf : OkN f) {k : List Int} (hk : VOk k) {l : Lit} (hl : keyOf Try.prog 24 (.agg (vc k).toArray) = some l) (hn : f k = none) : Maps.has D l = false := by
  cases e : Maps.has D l with
  | false => rfl
  | true =>
    obtain ⟨k', v', h1, h2⟩ := h.only l e
    rw [key_sameV hk (hf.k _ _ h1) hl h2] at hn
    rw [hn] at h1; cases h1
theorem RepV.has {D : DataW Value} {f : List Int → Option Int} (h : RepV D f) (hf : OkN f) {k : List Int} (hk : VOk k) {l : Lit} (hl : keyOf Try.prog 24 (.agg (vc k).toArray) = some l) : Maps.has D l = (f k).isSome := by
  cases e : f k with
  | none => exact h.no hf hk hl e
  | some v => exact (h.at_ k v l e hl).1
theorem mapN_made (w : World) : MapN (w.alloc (.map #[] 0)) w.heap.size 0 noneV :=
  ⟨okN_none, .map [], World.ownsMap_made w Try.prog 24 heldE, fun _ h => (by cases h), fun _ _ _ h => (by cases h)⟩
theorem MapN.lt {w : World} {b n : Nat} {f : List Int → Option Int} (h : MapN w b n f) : b < w.heap.size := by obtain ⟨D, h1, _⟩ := h.own; exact h1.lt
theorem MapN.kept {w w' : World} {b n : Nat} {f : List Int → Option Int} {row : Option Nat} (h : MapN w b n f) (hg : w.grownBy w' row) (hne : some b ≠ row) : MapN w' b n f := by
  obtain ⟨D, h1, h2⟩ := h.own; exact ⟨h.ok, D, h1.kept hg hne, h2⟩
theorem MapN.below {w w' : World} {b n : Nat} {f : List Int → Option Int} (h : MapN w b n f) (hb : Below w.heap.size w w') : MapN w' b n f := h.kept (grown_of hb) (by simp)
theorem MapN.upto {w w' : World} {B b n : Nat} {f : List Int → Option Int} (h : MapN w b n f) (hb : Below B w w') (hB : b < B) : MapN w' b n f := by
  obtain ⟨D, ⟨es, clock, e, r⟩, h2⟩ := h.own
  exact ⟨h.ok, D, ⟨es, clock, (hb.block b hB).trans e, r⟩, h2⟩
theorem MapN.only {w w' : World} {g b n : Nat} {f : List Int → Option Int} (h : MapN w b n f) (ho : Only g w w') (hg : b ≠ g) : MapN w' b n f :=
  h.kept (row := some g) ⟨ho.os, ho.tape, ho.output, ho.size, fun k hk hn => ho.block k hk (fun e => hn (by rw [e]))⟩ (fun e => hg (Option.some.inj e))
theorem MapN.mono {w : World} {b n n' : Nat} {f : List Int → Option Int} (h : MapN w b n f) (hn : n ≤ n') : MapN w b n' f := by
  obtain ⟨D, h1, h2⟩ := h.own; exact ⟨h.ok, D, h1.mono hn, h2⟩
theorem run_lookN {w : World} {b n : Nat} {f : List Int → Option Int} (h : MapN w b n f) {k : List Int} (hk : VOk k) : (Instr.lookup 41 (.map (some b)) (.agg (vc k).toArray) false).run Try.prog w = .ok (.int .i64 ((f k).getD 0)) w := by
  obtain ⟨D, h1, h2⟩ := h.own
  obtain ⟨l, hl⟩ := keyV hk
  obtain ⟨v, ps, hr, hv⟩ := h1.lookup lawV Try.underlying41 (Try.zeroValue3 w) (zd := .held (.int .i64 0)) (zp := []) rfl hl
  rw [hr]
  unfold heldE at hv
  simp only [Option.some.injEq, Prod.mk.injEq] at hv
  cases e : f k with
  | none =>
    rw [Maps.atKey_of_not_has (h2.no h.ok hk hl e)] at hv
    have hv := DataW.held.inj hv.1
    rw [hv]; simp only [Option.getD_none]
  | some u =>
    rw [(h2.at_ k u l e hl).2] at hv
    have hv := DataW.held.inj hv.1
    rw [hv]; simp only [Option.getD_some]
theorem RepV.upd {D : DataW Value} {f : List Int → Option Int} (h : RepV D f) (hf : OkN f) (hm : IsMap D) {k : List Int} (hk : VOk k) (v : Int) {l : Lit} (hl : keyOf Try.prog 24 (.agg (vc k).toArray) = some l) : RepV (D.put l (.held (.int .i64 v))) (updV f k v) := by
  constructor
  · intro l' h'
    by_cases e : l' = l
    · subst e; exact ⟨k, v, by simp [Ytihkncnhkljgpaa.updV], hl⟩
    · rw [Maps.has_put_other e] at h'
      obtain ⟨k', v', h1, h2⟩ := h.only l' h'
      refine ⟨k', v', ?_, h2⟩
      unfold Ytihkncnhkljgpaa.updV
      rw [if_neg (fun e2 => by rw [e2, hl] at h2; exact e (Option.some.inj h2).symm)]
      exact h1
  · intro k' v' l' h1 h2
    unfold Ytihkncnhkljgpaa.updV at h1
    split at h1
    · rename_i e2
      cases h1
      rw [e2, hl] at h2
      obtain rfl := Option.some.inj h2
      exact ⟨Maps.has_put_same hm (lawV.key hl) _, fun z => Maps.atKey_put_same hm (lawV.key hl) _ z⟩
    · rename_i e2
      have e : l' ≠ l := fun e => e2 (key_sameV (hf.k _ _ h1) hk h2 (e ▸ hl))
      rw [Maps.has_put_other e]
      obtain ⟨h3, h4⟩ := h.at_ k' v' l' h1 h2
      exact ⟨h3, fun z => by rw [Maps.atKey_put_other e]; exact h4 z⟩
theorem run_updN {w : World} {b n : Nat} {f : List Int → Option Int} (h : MapN w b n f) (hn : n ≤ 5000) {k : List Int} (hk : VOk k) (v : Int) (hf : OkN (updV f k v)) :
    ∃ w', (Instr.mapUpdate 41 (.map (some b)) (.agg (vc k).toArray) (.int .i64 v)).run Try.prog w = .ok () w' ∧ MapN w' b (n + 1) (updV f k v) ∧ w.grownBy w' (some b) := by
  obtain ⟨D, h1, h2⟩ := h.own
  obtain ⟨l, hl⟩ := keyV hk
  obtain ⟨w', hr, h3, h4⟩ := h1.update lawV Try.underlying41 (by unfold maxLen; omega) (val := .int .i64 v) (d := .held (.int .i64 v)) (ps := []) hl rfl
  exact ⟨w', hr, ⟨hf, _, h3, h2.upd h.ok h1.isMap hk v hl⟩, h4⟩

/-! Ranges. -/
/-- A range over the map f is under way; g: what is still to come. -/
structure RangeN (w : World) (b r n : Nat) (f g : List Int → Option Int) (cnt : Nat) : Prop where
  ok : OkN f
  sub : ∀ k v, g k = some v → f k = some v
  own : ∃ D left, w.ranges Try.prog 24 heldE b r n D left cnt ∧ RepV D f ∧ (∀ k l, VOk k → keyOf Try.prog 24 (.agg (vc k).toArray) = some l → (left l = true ↔ g k ≠ none)) ∧ ∀ l, left l = true → Maps.has D l = true
def delV (g : List Int → Option Int) (k : List Int) : List Int → Option Int := fun x => if x = k then none else g x
theorem RangeN.left_eq {w : World} {b r n : Nat} {f g : List Int → Option Int} {cnt : Nat} (h : RangeN w b r n f g cnt) : w.rangeLeft b r = cnt := by obtain ⟨D, left, h1, _⟩ := h.own; exact h1.left_eq
theorem RangeN.lt {w : World} {b r n : Nat} {f g : List Int → Option Int} {cnt : Nat} (h : RangeN w b r n f g cnt) : r < w.heap.size := by obtain ⟨D, left, h1, _⟩ := h.own; exact h1.lt
theorem RangeN.map {w : World} {b r n : Nat} {f g : List Int → Option Int} {cnt : Nat} (h : RangeN w b r n f g cnt) : MapN w b n f := by obtain ⟨D, left, h1, h2, _⟩ := h.own; exact ⟨h.ok, D, h1.owns, h2⟩
theorem RangeN.kept {w w' : World} {b r n : Nat} {f g : List Int → Option Int} {cnt : Nat} {row : Option Nat} (h : RangeN w b r n f g cnt) (hg : w.grownBy w' row) (h1 : some b ≠ row) (h2 : some r ≠ row) : RangeN w' b r n f g cnt := by
  obtain ⟨D, left, a1, a2⟩ := h.own; exact ⟨h.ok, h.sub, D, left, a1.kept hg h1 h2, a2⟩
theorem RangeN.below {w w' : World} {b r n : Nat} {f g : List Int → Option Int} {cnt : Nat} (h : RangeN w b r n f g cnt) (hb : Below w.heap.size w w') : RangeN w' b r n f g cnt := h.kept (grown_of hb) (by simp) (by simp)
theorem RangeN.upto {w w' : World} {B b r n : Nat} {f g : List Int → Option Int} {cnt : Nat} (h : RangeN w b r n f g cnt) (hb : Below B w w') (hB : b < B) (hr : r < B) : RangeN w' b r n f g cnt := by
  obtain ⟨D, left, ⟨es, clock, since, seen, c0, e1, e2, e3, e4, e5, e6⟩, h2⟩ := h.own
  exact ⟨h.ok, h.sub, D, left, ⟨es, clock, since, seen, c0, (hb.block b hB).trans e1, e2, e3, e4, (hb.block r hr).trans e5, e6⟩, h2⟩
/-- How many entries a map has. -/
theorem msize_isV {w : World} {b n : Nat} {D : DataW Value} (h : w.ownsMap Try.prog 24 heldE b n D) : Maps.size D = msize w b ∧ msize w b ≤ n := by
  obtain ⟨es, clock, e1, _, e3, rfl⟩ := h
  unfold msize
  rw [e1]
  exact ⟨by simp [Maps.size, length_sorted], e3⟩
theorem run_lenN {w : World} {b n : Nat} {f : List Int → Option Int} (h : MapN w b n f) (ty : TypeId) : (Builtin.len_ #[41] ty #[.map (some b)]).run Try.prog w = .ok (.int .i64 (msize w b : Nat)) w := by
  obtain ⟨D, h1, h2⟩ := h.own
  rw [h1.len Try.underlying41 ty, (msize_isV h1).1]
theorem MapN.msize_le {w : World} {b n : Nat} {f : List Int → Option Int} (h : MapN w b n f) : msize w b ≤ n := by
  obtain ⟨D, h1, h2⟩ := h.own
  exact (msize_isV h1).2
theorem run_rangeN {w : World} {b n : Nat} {f : List Int → Option Int} (h : MapN w b n f) : ∃ w' cnt, (Instr.range 41 (.map (some b))).run Try.prog w = .ok (.pointer (some ⟨w.heap.size, 0, none⟩)) w' ∧ RangeN w' b w.heap.size n f f cnt ∧ Below w.heap.size w w' ∧ cnt = msize w b := by
  obtain ⟨D, h1, h2⟩ := h.own
  obtain ⟨w', hr, h3, h4, _⟩ := h1.range lawV Try.underlying41
  refine ⟨w', _, hr, ⟨h.ok, fun _ _ e => e, D, _, h3, h2, fun k l hk hl => ?_, fun _ e => e⟩, ⟨h4.os, h4.tape, h4.output, h4.size, fun k hk => h4.block k hk (by simp)⟩, (msize_isV h1).1⟩
  rw [h2.has h.ok hk hl]
  cases f k <;> simp
theorem run_nextN {w : World} {b r n : Nat} {f g : List Int → Option Int} {cnt : Nat} (h : RangeN w b r n f g cnt) (ty : TypeId) :
    ((∀ k, g k = none) ∧ (Instr.next (.pointer (some ⟨r, 0, none⟩)) false ty).run Try.prog w = .ok (.tuple #[.bool false]) w) ∨
    ∃ k v w' cnt', g k = some v ∧ (Instr.next (.pointer (some ⟨r, 0, none⟩)) false ty).run Try.prog w = .ok (.tuple #[.bool true, .agg (vc k).toArray, .int .i64 v]) w' ∧ RangeN w' b r n f (delV g k) cnt' ∧ cnt' < cnt ∧ w.grownBy w' (some r) ∧ w'.heap.size = w.heap.size ∧ (Instr.entry (.pointer (some ⟨r, 0, none⟩))).run Try.prog w' = .ok (.tuple #[.agg (vc k).toArray, .int .i64 v]) w' := by
  obtain ⟨D, left, h1, h2, h3, h4⟩ := h.own
  rcases h1.next lawV ty with ⟨_, hl, hrun⟩ | ⟨key, v, l, y, w', cnt', hkey, hlk, hv, hat, hrun, hrg, hlt, hgr, hsz, hen⟩
  · refine .inl ⟨fun k => ?_, hrun⟩
    cases e : g k with
    | none => rfl
    | some u =>
      have hk := h.ok.k _ _ (h.sub k u e)
      obtain ⟨l, hl'⟩ := keyV hk
      have := (h3 k l hk hl').2 (by rw [e]; simp)
      rw [hl] at this; cases this
  · right
    obtain ⟨k, u, e1, e2⟩ := h2.only l (h4 l hlk)
    have hk := h.ok.k _ _ e1
    obtain rfl := lawV.inj hkey e2
    have e3 := (h2.at_ k u l e1 e2).2 .nil
    rw [hat] at e3
    unfold heldE at hv
    have e4 : y.1 = .held v := by rw [← Option.some.inj hv]
    rw [e4] at e3
    have e3 := DataW.held.inj e3
    subst e3
    have hg : g k = some u := by
      have := (h3 k l hk e2).1 hlk
      cases e : g k with
      | none => exact absurd e this
      | some z => rw [h.sub k z e] at e1; exact e1
    refine ⟨k, u, w', cnt', hg, hrun, ⟨h.ok, fun x z e => ?_, D, _, hrg, h2, fun x l' hx hl' => ?_, fun l' e => ?_⟩, hlt, hgr, hsz, hen⟩
    · unfold delV at e
      split at e
      · cases e
      · exact h.sub x z e
    · have hs : l'.sameKey l = decide (x = k) := by
        by_cases e : x = k
        · subst e
          rw [hl'] at e2
          obtain rfl := Option.some.inj e2
          rw [WideAt.sameKey_self (lawV.key hl')]; simp
        · rw [Maps.sameKey_ne (fun e' => e (key_sameV hx hk hl' (by rw [e']; exact e2)))]; simp [e]
      show (left l' && !l'.sameKey l) = true ↔ _
      rw [hs]
      unfold delV
      by_cases e : x = k
      · simp [e]
      · simp only [e, decide_false, Bool.not_false, Bool.and_true, if_false]
        exact h3 x l' hx hl'
    · have e' : (left l' && !l'.sameKey l) = true := e
      simp only [Bool.and_eq_true] at e'
      exact h4 l' e'.1
theorem wpList_rangeN {ops : Array Oper} {rest : List Oper} {op : Oper} {a : Act} {w : World} {Q : Exit → Act → World → Prop} (hgd : op.guard = none) (m : Operand) (ho : op.op = .range 41 m) (b n : Nat) (f : List Int → Option Int) (hm : a.eval m = .map (some b)) (h : MapN w b n f)
    (hk : ∀ r w' cnt, Hid (r = w.heap.size) → Hid (RangeN w' b r n f f cnt) → Hid (cnt = msize w b) → Hid (Below w.heap.size w w') → wpList Try.prog ops Q rest (a.put op.dst (.pointer (some ⟨r, 0, none⟩))) w') : wpList Try.prog ops Q (op :: rest) a w := by
  refine wpList_plain hgd fun K hK => ?_
  obtain ⟨w', cnt, hr, h1, h2, h3⟩ := run_rangeN h
  unfold Oper.wp
  simp [execOp, ho, hm, hr, Result.andThen]
  exact hK _ _ (hk _ w' cnt (Lib.hid rfl) (Lib.hid h1) (Lib.hid h3) (Lib.hid h2))
theorem wpList_nextN {ops : Array Oper} {rest : List Oper} {op : Oper} {a : Act} {w : World} {Q : Exit → Act → World → Prop} (hgd : op.guard = none) (it : Operand) (ho : op.op = .next it false) (b r n : Nat) (f g : List Int → Option Int) (cnt : Nat) (hit : a.eval it = .pointer (some ⟨r, 0, none⟩)) (h : RangeN w b r n f g cnt)
    (hDone : Hid (∀ k, g k = none) → wpList Try.prog ops Q rest (a.put op.dst (.tuple #[.bool false])) w)
    (hMore : ∀ k v w' cnt', Hid (g k = some v) → Hid (RangeN w' b r n f (delV g k) cnt') → Hid (cnt' < cnt) → Hid (Only r w w') → Hid (w'.heap.size = w.heap.size) → (Instr.entry (.pointer (some ⟨r, 0, none⟩))).run Try.prog w' = .ok (.tuple #[.agg (vc k).toArray, .int .i64 v]) w' →
      wpList Try.prog ops Q rest (a.put op.dst (.tuple #[.bool true, .agg (vc k).toArray, .int .i64 v])) w') : wpList Try.prog ops Q (op :: rest) a w := by
  refine wpList_plain hgd fun K hK => ?_
  unfold Oper.wp
  rcases run_nextN h op.type with ⟨h0, hr⟩ | ⟨k, v, w', cnt', hg, hr, h1, h2, h3, h4, h5⟩
  · simp [execOp, ho, hit, hr, Result.andThen]
    exact hK _ _ (hDone (Lib.hid h0))
  · simp [execOp, ho, hit, hr, Result.andThen]
    exact hK _ _ (hMore k v w' cnt' (Lib.hid hg) (Lib.hid h1) (Lib.hid h2) (Lib.hid ⟨h3.os, h3.tape, h3.output, h3.size, fun j hj hn => h3.block j hj (fun e => hn (Option.some.inj e))⟩) (Lib.hid h4) h5)
theorem MapN.same {w w' : World} {b n : Nat} {f : List Int → Option Int} (h : MapN w b n f) (hb : w'.heap[b]? = w.heap[b]?) : MapN w' b n f := by
  obtain ⟨D, ⟨es, clock, e, r⟩, h2⟩ := h.own; exact ⟨h.ok, D, ⟨es, clock, hb.trans e, r⟩, h2⟩
/-- What an entry leaves: whatever is stored behind it. -/
def PendN (w1 : World) (b st : Nat) (a : List Int) (n : Nat) (f : List Int → Option Int) (m : Nat) : Prop :=
  ∀ (w2 : World) (x : Int), w2.heap[b]? = w1.heap[b]? → ∃ w3, (Instr.entryStore 41 (.map (some b)) (goInt st) (.int .i64 x)).run Try.prog w2 = .ok () w3 ∧ MapN w3 b (n + 1) (updV f a x) ∧ msize w3 b = m ∧ w2.grownBy w3 (some b)
/-- How many entries there are with one more key. -/
def more1 (f : List Int → Option Int) (a : List Int) (m : Nat) : Nat := if (f a).isSome = true then m else m + 1
theorem run_entryN {w : World} {b n : Nat} {f : List Int → Option Int} (h : MapN w b n f) (hn : n ≤ 50000) {a : List Int} (ha : VOk a) :
    ∃ (v0 : Value) (st : Nat) (w1 : World), (Instr.mapEntry 41 (.map (some b)) (.agg (vc a).toArray)).run Try.prog w = .ok (.tuple #[v0, goInt st]) w1 ∧ MapN w1 b (n + 1) (updV f a ((f a).getD 0)) ∧ w.grownBy w1 (some b) ∧ PendN w1 b st a n f (more1 f a (msize w b)) := by
  have hok := h.ok
  obtain ⟨D, h1, h2⟩ := h.own
  obtain ⟨l, hl⟩ := keyV ha
  have h1' := h1
  obtain ⟨es, clock, hb, F, hs, hD⟩ := h1
  obtain ⟨v0, st, es1, clock1, hrun, _, hst⟩ := WideElems.entry_then_store lawV0 Try.underlying41 (z := .int .i64 0) Try.zeroValue3 hb F hl
  have grow : ∀ (w2 : World) (o : Obj) {es2 : Array MapEntry} {c2 : Nat}, w2.heap[b]? = some (.map es2 c2) → w2.grownBy (ChangeMaps.setBlock w2 b o) (some b) := fun w2 o es2 c2 hb2 => ⟨rfl, rfl, rfl, by simp [ChangeMaps.setBlock], fun i _ hi => ChangeMaps.heap_setBlock_other hb2 _ (fun e => hi (by rw [e]))⟩
  have hlt : n < maxLen := by unfold maxLen; omega
  refine ⟨v0, st, _, hrun, ?_, grow w _ hb, ?_⟩
  · rcases Maps.fit_look (R := heldE) false lawV Try.underlying41 (Try.zeroValue3 w) hb F hl with ⟨_, hno, hat⟩ | ⟨e0, y, he0, hk0, _, _, hat, _⟩
    · -- the key is new
      have hfn : f a = none := by
        cases hf : f a with
        | none => rfl
        | some v =>
          have e1 := (h2.at_ a v l hf hl).1
          rw [hD, Maps.has_false_of_atKey hat] at e1
          cases e1
      rw [hfn]
      rcases lawV0.find w hl es.toList F.keys with ⟨q1, _⟩ | ⟨j, e0, _, q2, q3⟩
      · have hrun2 : (Instr.mapEntry 41 (.map (some b)) (.agg (vc a).toArray)).run Try.prog w = .ok (.tuple #[.int .i64 0, goInt clock]) (ChangeMaps.setBlock w b (.map (es.push ⟨.agg (vc a).toArray, .int .i64 0, clock⟩) (clock + 1))) := by
          simp [Instr.mapEntry, run_underlying Try.underlying41, MapKept.run_getObj_map hb, lawV0.check w false hl, q1, Try.zeroValue3, MapKept.run_setObj_map _ hb, Result.andThen, ChangeMaps.setBlock]
        have hup2 : (Instr.mapUpdate 41 (.map (some b)) (.agg (vc a).toArray) (.int .i64 0)).run Try.prog w = .ok () (ChangeMaps.setBlock w b (.map (es.push ⟨.agg (vc a).toArray, .int .i64 0, clock⟩) (clock + 1))) := by
          simp [Instr.mapUpdate, run_underlying Try.underlying41, MapKept.run_getObj_map hb, lawV0.check w false hl, q1, MapKept.run_setObj_map _ hb, Result.andThen, ChangeMaps.setBlock]
        have e1 : ChangeMaps.setBlock w b (.map es1 clock1) = ChangeMaps.setBlock w b (.map (es.push ⟨.agg (vc a).toArray, .int .i64 0, clock⟩) (clock + 1)) := by
          have := hrun.symm.trans hrun2
          simp only [Result.ok.injEq] at this
          exact this.2
        obtain ⟨w', hr', h3, _⟩ := h1'.update lawV Try.underlying41 hlt (val := .int .i64 0) (d := .held (.int .i64 0)) (ps := []) hl rfl
        have e2 : w' = ChangeMaps.setBlock w b (.map es1 clock1) := by
          have := hr'.symm.trans hup2
          simp only [Result.ok.injEq] at this
          rw [this.2, e1]
        rw [e2] at h3
        exact ⟨hok.upd ha _, _, h3, h2.upd hok h1'.isMap ha 0 hl⟩
      · exact absurd q3 (hno e0 (List.mem_of_getElem? q2))
    · -- the key is there
      have hfs : ∃ v, f a = some v := by
        cases hf : f a with
        | some v => exact ⟨v, rfl⟩
        | none =>
          have e1 := h2.no hok ha hl hf
          rw [hD, Maps.has_true_of_atKey hat] at e1
          cases e1
      obtain ⟨v, hv⟩ := hfs
      have hfe : updV f a ((f a).getD 0) = f := by
        funext x
        unfold updV
        split
        · rename_i e; rw [hv, Option.getD_some, e, hv]
        · rfl
      rw [hfe]
      rcases lawV0.find w hl es.toList F.keys with ⟨_, q2⟩ | ⟨j, e1, q1, q2, q3⟩
      · exact absurd hk0 (q2 e0 he0)
      · have hj : es[j]? = some e1 := by simpa using q2
        have hsame : es.modify j (fun e => { e with key := .agg (vc a).toArray }) = es := by
          apply Array.ext'
          rw [Array.toList_modify, ChangeMaps.modify_eq_set _ _ _ _ q2]
          have : ({ e1 with key := .agg (vc a).toArray } : MapEntry) = e1 := by rw [← q3]
          rw [this]
          exact WideElems.set_self _ _ _ q2
        have hrun2 : (Instr.mapEntry 41 (.map (some b)) (.agg (vc a).toArray)).run Try.prog w = .ok (.tuple #[e1.val, goInt e1.born]) (ChangeMaps.setBlock w b (.map es clock)) := by
          simp [Instr.mapEntry, run_underlying Try.underlying41, MapKept.run_getObj_map hb, lawV0.check w false hl, q1, hj, q3, lawV0.stays w hl, hsame, MapKept.run_setObj_map _ hb, Result.andThen, ChangeMaps.setBlock]
        have e2 : ChangeMaps.setBlock w b (.map es1 clock1) = ChangeMaps.setBlock w b (.map es clock) := by
          have := hrun.symm.trans hrun2
          simp only [Result.ok.injEq] at this
          exact this.2
        rw [e2]
        exact MapN.mono (MapN.same (w := w) ⟨hok, D, h1', h2⟩ ((ChangeMaps.heap_setBlock_same hb _).trans hb.symm)) (Nat.le_succ _)
  · intro w2 x hw2
    have hb1 := ChangeMaps.heap_setBlock_same hb (.map es1 clock1)
    obtain ⟨es', clock', r1, r2⟩ := hst w2 (.int .i64 x) (hw2.trans hb1)
    obtain ⟨w', hr', h3, _⟩ := h1'.update lawV Try.underlying41 hlt (val := .int .i64 x) (d := .held (.int .i64 x)) (ps := []) hl rfl
    have e2 : w' = ChangeMaps.setBlock w b (.map es' clock') := by
      have := hr'.symm.trans r2
      simp only [Result.ok.injEq] at this
      exact this.2
    rw [e2] at h3
    refine ⟨_, r1, MapN.same (w := ChangeMaps.setBlock w b (.map es' clock')) ⟨hok.upd ha x, _, h3, h2.upd hok h1'.isMap ha x hl⟩ ?_, ?_, grow w2 _ (hw2.trans hb1)⟩
    · rw [ChangeMaps.heap_setBlock_same hb, ChangeMaps.heap_setBlock_same (hw2.trans hb1)]
    · have e3 := (msize_isV h3).1
      rw [Maps.size_put (h1'.tidy lawV), h2.has hok ha hl, (msize_isV h1').1] at e3
      unfold more1
      rw [e3]
      unfold msize
      rw [ChangeMaps.heap_setBlock_same hb, ChangeMaps.heap_setBlock_same (hw2.trans hb1)]
theorem wpList_lookN {ops : Array Oper} {rest : List Oper} {op : Oper} {a : Act} {w : World} {Q : Exit → Act → World → Prop} (hgd : op.guard = none) (x y : Operand) (ho : op.op = .lookup 41 x y false) (b n : Nat) (f : List Int → Option Int) (k : List Int) (hx : a.eval x = .map (some b)) (hy : a.eval y = .agg (vc k).toArray) (hm : MapN w b n f) (hk : VOk k)
    (h : wpList Try.prog ops Q rest (a.put op.dst (.int .i64 ((f k).getD 0))) w) : wpList Try.prog ops Q (op :: rest) a w := by
  refine wpList_val hgd _ ?_ h
  have hr := run_lookN hm hk
  unfold execOp
  simp only [ho, hx, hy, Sem.run_bind, hr, Result.andThen_ok, Sem.run_pure]

/-! Counts. -/
def cnts (ls : List (List Int)) : List Int → Option Int := fun v => if v ∈ ls then some (ls.count v : Int) else none
theorem cnts_nil : cnts [] = noneV := by funext v; simp [cnts, noneV]
theorem cnts_getD (ls : List (List Int)) (v : List Int) : (cnts ls v).getD 0 = (ls.count v : Int) := by
  unfold cnts
  by_cases h : v ∈ ls
  · rw [if_pos h]; rfl
  · rw [if_neg h, List.count_eq_zero_of_not_mem h]; rfl
theorem cnts_snoc (ls : List (List Int)) (v : List Int) : updV (cnts ls) v ((ls.count v : Int) + 1) = cnts (ls ++ [v]) := by
  funext x
  unfold updV cnts
  by_cases h : x = v
  · subst h; simp [List.count_append]
  · rw [if_neg h]
    have hb : (v == x) = false := beq_eq_false_iff_ne.2 (fun e => h e.symm)
    by_cases hm : x ∈ ls
    · simp [hm, h, List.count_append, List.count_cons, hb]
    · simp [hm, h]
def unl : List (List Int) → Nat := fun ls => ((List.range ls.length).filter (fun i => !(ls.take i).contains (ls.getD i vz))).length
theorem unl_nil : unl [] = 0 := rfl
theorem unl_snoc (ls : List (List Int)) (v : List Int) : unl (ls ++ [v]) = more1 (cnts ls) v (unl ls) := by
  unfold unl more1
  rw [List.length_append, List.length_singleton, List.range_succ, List.filter_append, List.length_append]
  have e1 : (List.range ls.length).filter (fun i => !((ls ++ [v]).take i).contains ((ls ++ [v]).getD i vz)) = (List.range ls.length).filter (fun i => !(ls.take i).contains (ls.getD i vz)) := by
    refine List.filter_congr fun i hi => ?_
    have hi := List.mem_range.1 hi
    rw [List.take_append_of_le_length (by omega), List.getD_eq_getElem?_getD, List.getElem?_append_left hi, ← List.getD_eq_getElem?_getD]
  rw [e1]
  have e3 : (ls ++ [v]).take ls.length = ls := by rw [List.take_append_of_le_length (Nat.le_refl _), List.take_length]
  unfold cnts
  by_cases h : v ∈ ls
  · simp [e3, h]
  · simp [e3, h]
end Go.Proofs.Ytihkncnhkljgpaa
namespace Go.Proofs.Ytihkncnhkljgpaa
open Go.RowKit

section
variable {o : Oper} {a : Act} {w : World}
theorem exec_add1 (x : Operand) (ho : o.op = .binOp .add 3 x (.const (.int .i64 1)) 3) (z : Int) (hx : a.eval x = .int .i64 z) (hz : -100000 ≤ z ∧ z ≤ 100000) :
    (execOp a.eval o).run Try.prog w = .ok (.value (.int .i64 (z + 1))) w := by
  have hc : a.eval (.const (.int .i64 1)) = .int .i64 1 := rfl
  unfold execOp
  simp only [ho]
  rw [hx, hc]
  simp [go_sem]
  rw [IntKind.wrap_i64]; omega
end
theorem info3s : (Try.prog.info? 3).map (·.size) = some 1 := by kernel_rfl
theorem fill3 (v : Value) : (Array.map (fun x => [Value.int IntKind.i64 0][x % 1]?.getD default) (Array.range 1)).setIfInBounds 0 v = #[v] := by kernel_rfl
theorem run_ints1 (i : Int) (w : World) : (Instr.buildSlice 45 1 #[(0, .int .i64 i)]).run Try.prog w = .ok (.slice (some ⟨w.heap.size, 0, none⟩) 1 1) (w.alloc (.cells #[.int .i64 i] 3)) := by
  have hz := Try.zeroValue3
  have hsz := Try.sizeOf3
  simp only [Instr.buildSlice, Sem.run_bind, run_underlying Try.underlying45, Result.andThen_ok, hsz]
  rw [if_neg (by decide), if_neg (by decide)]
  simp [hz, Instr.fill, Value.cells]
  rw [fill3]
  rfl
theorem wpList_ints1 {ops : Array Oper} {rest : List Oper} {op : Oper} {a : Act} {w : World} {Q : Exit → Act → World → Prop} (hgd : op.guard = none) (x : Operand) (ho : op.op = .buildSlice 45 1 #[(0, x)]) (i : Int) (hx : a.eval x = .int .i64 i)
    (h : ∀ g w', Hid (g = w.heap.size) → Hid (Blk w' g 3 [.int .i64 i]) → Hid (Below w.heap.size w w') → wpList Try.prog ops Q rest (a.put op.dst (.slice (some ⟨g, 0, none⟩) 1 1)) w') : wpList Try.prog ops Q (op :: rest) a w := by
  refine wpList_plain hgd fun K hK => ?_
  have hrun := run_ints1 i w
  unfold Oper.wp execOp
  simp only [ho, List.map_toArray, List.map_cons, List.map_nil, hx, Sem.run_bind, hrun, Result.andThen_ok, Sem.run_pure]
  exact hK _ _ (h _ _ (Lib.hid rfl) (Lib.hid (blk_alloc w 3 [.int .i64 i])) (Lib.hid (new_below w _)))
theorem OwnI.only {w w' : World} {B g : Nat} {v : Value} {l : List Nat} (h : OwnI w B v l) (ho : Only g w w') (hg : g < B) : OwnI w' B v l :=
  h.kept (o := some g) ⟨ho.os, ho.tape, ho.output, ho.size, fun k hk hn => ho.block k hk (fun e => hn (by rw [e]))⟩ (.inr (fun e => by have := (h.lt e).1; omega))
/-- A slice that reads as numbers. -/
structure IntsV (w : World) (A : Option Addr) (n cap : Nat) (l : List Nat) : Prop where
  len : l.length = n
  at_ : ∀ i, i < n → ∃ G off, A = some ⟨G, off, none⟩ ∧ G < w.heap.size ∧ w.cell? ⟨G, off + i, none⟩ = some (.int .i64 (l.getD i 0 : Nat))
theorem IntsV.below {w w' : World} {A : Option Addr} {n cap : Nat} {l : List Nat} (h : IntsV w A n cap l) (hb : Below w.heap.size w w') : IntsV w' A n cap l :=
  ⟨h.len, fun i hi => by obtain ⟨G, off, e, hG, hc⟩ := h.at_ i hi; exact ⟨G, off, e, Nat.lt_of_lt_of_le hG hb.size, (hb.cell (p := ⟨G, off + i, none⟩) hG).trans hc⟩⟩
theorem OwnI.ints {w : World} {B : Nat} {A : Option Addr} {n cap : Nat} {l : List Nat} (h : OwnI w B (.slice A n cap) l) : IntsV w A n cap l := by
  rcases h.row.2 with ⟨e, h0⟩ | ⟨g, cap', cur, e, hb, hg, hn, hcm, hs, ht⟩
  · simp only [Value.slice.injEq] at e
    obtain ⟨rfl, rfl, rfl⟩ := e
    exact ⟨h0, fun i hi => absurd hi (Nat.not_lt_zero _)⟩
  · simp only [Value.slice.injEq] at e
    obtain ⟨rfl, rfl, rfl⟩ := e
    refine ⟨rfl, fun i hi => ⟨g, 0, rfl, (Array.getElem?_eq_some_iff.1 hg).1, ?_⟩⟩
    rw [cell_of_row _ g _ cur 3 (0, 0) hg, Nat.zero_add]
    have e : (l.map fun (n : Nat) => Value.int .i64 (n : Int))[i]? = some (.int .i64 (l.getD i 0 : Nat)) := by rw [List.getElem?_map, List.getD_eq_getElem?_getD, List.getElem?_eq_getElem hi]; rfl
    rw [← ht, List.getElem?_take_of_lt (by omega)] at e
    simpa using e
/-- The call answers numbers. -/
def GivesI (w : World) (l : List Nat) (e : Ending) (w' : World) : Prop := (∃ A n cap, e = .returned (.slice A n cap) ∧ IntsV w' A n cap l ∧ ∀ a, A = some a → w.heap.size ≤ a.block) ∧ Below w.heap.size w w'
/-- Where a number lies. -/
structure IElem (w : World) (A : Option Addr) (n G p i z : Nat) : Prop where
  ad : ∃ off, A = some ⟨G, off, none⟩ ∧ p = off + i
  lt : i < n
  cell : w.cell? ⟨G, p, none⟩ = some (.int .i64 z)
theorem IntsV.elem {w : World} {A : Option Addr} {n cap : Nat} {l : List Nat} (h : IntsV w A n cap l) (i : Nat) (hi : i < n) : ∃ G p, IElem w A n G p i (l.getD i 0) ∧ G < w.heap.size := by
  obtain ⟨G, off, e, hG, hc⟩ := h.at_ i hi
  exact ⟨G, off + i, ⟨⟨off, e, rfl⟩, hi, hc⟩, hG⟩
theorem IElem.below {w w' : World} {A : Option Addr} {n G p i z : Nat} (h : IElem w A n G p i z) (hb : Below w.heap.size w w') (hG : G < w.heap.size) : IElem w' A n G p i z := ⟨h.ad, h.lt, (hb.cell (p := ⟨G, p, none⟩) hG).trans h.cell⟩
theorem exec_indexI {op : Oper} {a : Act} {w : World} (x y : Operand) (ho : op.op = .indexAddr 45 x y) (A : Option Addr) (n cap G p i v : Nat) (z : Int) (hx : a.eval x = .slice A n cap) (hy : a.eval y = .int .i64 z) (hz : z = (i : Int)) {W : World} (h : IElem W A n G p i v) :
    (execOp a.eval op).run Try.prog w = .ok (.value (.pointer (some ⟨G, p, none⟩))) w := by
  obtain ⟨off, hA, rfl⟩ := h.ad
  have hi := h.lt
  have hr : (Instr.indexAt 45 (.slice (some ⟨G, off, none⟩) n cap) (.int .i64 (i : Int))).run Try.prog w = .ok (.pointer (some ⟨G, off + i, none⟩)) w := by
    simp only [Instr.indexAt, asIntOf, Sem.run_bind, Sem.run_pure, Result.andThen_ok, run_underlying Try.underlying45]
    rw [if_pos ⟨by omega, by omega⟩]
    simp [Addr.add]
  unfold execOp
  simp only [ho, hx, hy, hz, hA, Sem.run_bind, hr, Result.andThen_ok, Sem.run_pure]
set_option maxRecDepth 100000 in
set_option maxHeartbeats 4000000 in
theorem sameI_is (A B : Option Addr) (n cap cap2 : Nat) (l : List Nat) (w : World) (h : IntsV w A n cap l) (h2 : IntsV w B n cap2 l) (hn : n ≤ 5000) : Calls Try.prog 21 #[.slice A n cap, .slice B n cap2] w fun e w' => e = .returned (.bool true) ∧ Below w.heap.size w w' := by
  have hbn : ((n : Int) == (n : Int)) = true := by simp
  have H := Lib.hid h
  have J := Lib.hid h2
  clear h h2
  go_enter Try.func21, Try.ntmps21
  go_wp2_with fail
  go_loopw [5] (fun i wr => ∃ j : Nat, j ≤ n ∧ i = .int .i64 j ∧ Below w.heap.size w wr) (fun i _ => n - (intOf i).toNat)
  case atStart => exact ⟨0, Nat.zero_le _, rfl, Below.refl _ _⟩
  case round =>
    obtain ⟨j, hj, rfl, hb⟩ := hrel
    have BB := Lib.hid hb
    clear hb
    by_cases hlt : j < n
    · obtain ⟨G, p, hE, hG⟩ := (H.out.below BB.out).elem j hlt
      obtain ⟨G2, p2, hF, hG2⟩ := (J.out.below BB.out).elem j hlt
      obtain ⟨z, hz⟩ : ∃ z, l.getD j 0 = z := ⟨_, rfl⟩
      rw [hz] at hE hF
      have E := Lib.hid hE
      have F := Lib.hid hF
      have BL := Lib.hid hG
      have BL2 := Lib.hid hG2
      have hzz : ((z : Int) == (z : Int)) = true := by simp
      clear hE hF hG hG2 hz
      go_wp2_with fail
      have S1 := Lib.hid (show Below wr.heap.size wr wr.drew from below_drew (Below.refl _ _))
      refine wp_region_noPanic ?_
      refine wp_region_held_drew (S := fun W => Below wr.heap.size wr W) (by kernel_rfl) S1.out (fun _ => ?_)
      refine wpAnyH_take (i := 0) (oi := { dst := some 17, op := Go.Op.move (Go.Operand.tmp 0), type := 45, pos := _, after := #[], guard := none }) (v := ?_) rfl (by kernel_rfl) (by kernel_rfl) (by kernel_rfl) (fun _ _ _ h => h) (Or.inl ⟨by rfl, ?_⟩) S1.out ?_
      rotate_left
      · intro W hW; (go_simp; try with_reducible rfl)
      try simp only [Act.put, List.setIfInBounds_toArray, List.set_cons_zero, List.set_cons_succ]
      refine wpAnyH_take (i := 1) (oi := { dst := some 18, op := Go.Op.move (Go.Operand.tmp 5), type := 3, pos := _, after := #[], guard := none }) (v := ?_) rfl (by kernel_rfl) (by kernel_rfl) (by kernel_rfl) (fun _ _ _ h => h) (Or.inl ⟨by rfl, ?_⟩) S1.out ?_
      rotate_left
      · intro W hW; (go_simp; try with_reducible rfl)
      try simp only [Act.put, List.setIfInBounds_toArray, List.set_cons_zero, List.set_cons_succ]
      refine wpAnyH_take (i := 2) (oi := { dst := some 19, op := Go.Op.indexAddr 45 (Go.Operand.tmp 17) (Go.Operand.tmp 18), type := 0, pos := _, after := #[{ on := 0, ground := Go.Ground.data }, { on := 1, ground := Go.Ground.data }], guard := none }) (v := .pointer (some ⟨G, p, none⟩)) rfl (by kernel_rfl) (by kernel_rfl) (by kernel_rfl) (fun _ _ _ h => h) (Or.inl ⟨by rfl, fun W hW => exec_indexI _ _ rfl A n cap G p j z _ rfl rfl (by first | rfl | omega) E.out⟩) S1.out ?_
      try simp only [Act.put, List.setIfInBounds_toArray, List.set_cons_zero, List.set_cons_succ]
      refine wpAnyH_take (i := 3) (oi := { dst := some 20, op := Go.Op.load 3 (Go.Operand.tmp 19), type := 3, pos := _, after := #[{ on := 2, ground := Go.Ground.data }], guard := none }) (v := ?_) rfl (by kernel_rfl) (by kernel_rfl) (by kernel_rfl) (fun _ _ _ h => h) (Or.inl ⟨by rfl, ?_⟩) S1.out ?_
      rotate_left
      · intro W hW; have c0 := (E.out.below hW BL.out).cell; (go_simp; try with_reducible rfl)
      try simp only [Act.put, List.setIfInBounds_toArray, List.set_cons_zero, List.set_cons_succ]
      refine wpAnyH_take (i := 4) (oi := { dst := some 21, op := Go.Op.move (Go.Operand.tmp 1), type := 45, pos := _, after := #[], guard := none }) (v := ?_) rfl (by kernel_rfl) (by kernel_rfl) (by kernel_rfl) (fun _ _ _ h => h) (Or.inl ⟨by rfl, ?_⟩) S1.out ?_
      rotate_left
      · intro W hW; (go_simp; try with_reducible rfl)
      try simp only [Act.put, List.setIfInBounds_toArray, List.set_cons_zero, List.set_cons_succ]
      refine wpAnyH_take (i := 5) (oi := { dst := some 22, op := Go.Op.move (Go.Operand.tmp 5), type := 3, pos := _, after := #[], guard := none }) (v := ?_) rfl (by kernel_rfl) (by kernel_rfl) (by kernel_rfl) (fun _ _ _ h => h) (Or.inl ⟨by rfl, ?_⟩) S1.out ?_
      rotate_left
      · intro W hW; (go_simp; try with_reducible rfl)
      try simp only [Act.put, List.setIfInBounds_toArray, List.set_cons_zero, List.set_cons_succ]
      refine wpAnyH_take (i := 6) (oi := { dst := some 23, op := Go.Op.indexAddr 45 (Go.Operand.tmp 21) (Go.Operand.tmp 22), type := 0, pos := _, after := #[{ on := 4, ground := Go.Ground.data }, { on := 5, ground := Go.Ground.data }], guard := none }) (v := .pointer (some ⟨G2, p2, none⟩)) rfl (by kernel_rfl) (by kernel_rfl) (by kernel_rfl) (fun _ _ _ h => h) (Or.inl ⟨by rfl, fun W hW => exec_indexI _ _ rfl B n cap2 G2 p2 j z _ rfl rfl (by first | rfl | omega) F.out⟩) S1.out ?_
      try simp only [Act.put, List.setIfInBounds_toArray, List.set_cons_zero, List.set_cons_succ]
      refine wpAnyH_take (i := 7) (oi := { dst := some 24, op := Go.Op.load 3 (Go.Operand.tmp 23), type := 3, pos := _, after := #[{ on := 6, ground := Go.Ground.data }], guard := none }) (v := ?_) rfl (by kernel_rfl) (by kernel_rfl) (by kernel_rfl) (fun _ _ _ h => h) (Or.inl ⟨by rfl, ?_⟩) S1.out ?_
      rotate_left
      · intro W hW; have c0 := (F.out.below hW BL2.out).cell; (go_simp; try with_reducible rfl)
      try simp only [Act.put, List.setIfInBounds_toArray, List.set_cons_zero, List.set_cons_succ]
      refine wpAnyH_take (i := 8) (oi := { dst := some 25, op := Go.Op.binOp Go.BinOp.neq 3 (Go.Operand.tmp 20) (Go.Operand.tmp 24) 3, type := 4, pos := _, after := #[{ on := 3, ground := Go.Ground.data }, { on := 7, ground := Go.Ground.data }], guard := none }) (v := ?_) rfl (by kernel_rfl) (by kernel_rfl) (by kernel_rfl) (fun _ _ _ h => h) (Or.inl ⟨by rfl, ?_⟩) S1.out ?_
      rotate_left
      · intro W hW; (go_simp; try with_reducible rfl)
      try simp only [Act.put, List.setIfInBounds_toArray, List.set_cons_zero, List.set_cons_succ]
      refine wpAnyH_done (by kernel_rfl) ?_ _
      refine NoPanic.normal ?_
      go_wp2_with fail
      go_roundw
      case rel => exact ⟨j + 1, by omega, by go_num, BB.out.trans (S1.out.mono BB.out.size)⟩
      case measure => simp [intOf]; omega
    · obtain rfl : n = j := by omega
      go_wp2_with fail
      go_ret
      exact ⟨rfl, BB.out⟩
end Go.Proofs.Ytihkncnhkljgpaa
namespace Go.Proofs.Ytihkncnhkljgpaa
open Go.RowKit

section
variable {ops : Array Oper} {Q : Exit → Act → World → Prop} {md : Region.Mode} {S : World → Prop} {fuel : Nat} {listed : Array Bool} {a : Act} {w : World} {i : Nat} {o : Oper} {rs : List Nat}
theorem ready_lookN (ho : ops[i]? = some o) (hg : o.guard = none) (x y : Operand) (hop : o.op = .lookup 41 x y false) (b n : Nat) (f : List Int → Option Int) (k : List Int) (hx : a.eval x = .map (some b)) (hy : a.eval y = .agg (vc k).toArray) (hm : MapN w b n f) (hk : VOk k)
    (h : S w ∧ wpAnyH Try.prog md ops Q S fuel (listed.setIfInBounds i true) (a.put o.dst (.int .i64 ((f k).getD 0))) w)
    (hs : AllReadyH Try.prog md ops Q S fuel listed a w rs) : AllReadyH Try.prog md ops Q S fuel listed a w (i :: rs) := by
  refine AllReadyH.cons ho (fun K hK => ?_) hs
  have hw : Region.wanted o (yielded ops a.tmps) = true := by simp [Region.wanted, hg]
  rw [if_pos hw]
  have hr := run_lookN hm hk
  unfold Oper.wp execOp
  simp only [hop, hx, hy, Sem.run_bind, hr, Result.andThen_ok, Sem.run_pure]
  exact hK.out _ _ h.1 (fun _ => h.2)
theorem ready_entryN (ho : ops[i]? = some o) (hg : o.guard = none) (x y : Operand) (hop : o.op = .mapEntry 41 x y) (b n : Nat) (f : List Int → Option Int) (k : List Int) (hx : a.eval x = .map (some b)) (hy : a.eval y = .agg (vc k).toArray) (hm : MapN w b n f) (hn : n ≤ 50000) (hk : VOk k)
    (h : ∀ (v0 : Value) (st : Nat) (w1 : World), MapN w1 b (n + 1) (updV f k ((f k).getD 0)) → Only b w w1 → PendN w1 b st k n f (more1 f k (msize w b)) → S w1 ∧ wpAnyH Try.prog md ops Q S fuel (listed.setIfInBounds i true) (a.put o.dst (.tuple #[v0, goInt st])) w1)
    (hs : AllReadyH Try.prog md ops Q S fuel listed a w rs) : AllReadyH Try.prog md ops Q S fuel listed a w (i :: rs) := by
  refine AllReadyH.cons ho (fun K hK => ?_) hs
  have hw : Region.wanted o (yielded ops a.tmps) = true := by simp [Region.wanted, hg]
  rw [if_pos hw]
  obtain ⟨v0, st, w1, hr, h1, h2, h3⟩ := run_entryN hm hn hk
  have H := h v0 st w1 h1 (only_of_grown h2) h3
  unfold Oper.wp execOp
  simp only [hop, hx, hy, Sem.run_bind, hr, Result.andThen_ok, Sem.run_pure]
  exact hK.out _ _ H.1 (fun _ => H.2)
theorem ready_estoreN (ho : ops[i]? = some o) (hg : o.guard = none) (x y z : Operand) (hop : o.op = .entryStore 41 x y z) (b st : Nat) (k : List Int) (n : Nat) (f : List Int → Option Int) (m : Nat) (v : Int) (hx : a.eval x = .map (some b)) (hy : a.eval y = goInt st) (hz : a.eval z = .int .i64 v) {w1 : World} (hp : PendN w1 b st k n f m) (hb : w.heap[b]? = w1.heap[b]?)
    (h : ∀ w3, MapN w3 b (n + 1) (updV f k v) → msize w3 b = m → Only b w w3 → S w3 ∧ wpAnyH Try.prog md ops Q S fuel (listed.setIfInBounds i true) (a.put o.dst undef) w3)
    (hs : AllReadyH Try.prog md ops Q S fuel listed a w rs) : AllReadyH Try.prog md ops Q S fuel listed a w (i :: rs) := by
  refine AllReadyH.cons ho (fun K hK => ?_) hs
  have hw : Region.wanted o (yielded ops a.tmps) = true := by simp [Region.wanted, hg]
  rw [if_pos hw]
  obtain ⟨w3, hr, h1, h4, h2⟩ := hp w v hb
  have H := h w3 h1 h4 (only_of_grown h2)
  unfold Oper.wp execOp
  simp only [hop, hx, hy, hz, Sem.run_bind, hr, Result.andThen_ok, Sem.run_pure]
  exact hK.out _ _ H.1 (fun _ => H.2)
end
theorem upd_getD (f : List Int → Option Int) (k : List Int) : (updV f k ((f k).getD 0) k).getD 0 = (f k).getD 0 := by unfold updV; rw [if_pos rfl]; rfl
/-- The call answers a map that counts the list. -/
def GivesC (w : World) (ls : List (List Int)) (e : Ending) (w' : World) : Prop := (∃ b, e = .returned (.map (some b)) ∧ w.heap.size ≤ b ∧ MapN w' b ls.length (cnts ls) ∧ msize w' b = unl ls) ∧ Below w.heap.size w w'
set_option maxRecDepth 100000 in
set_option maxHeartbeats 4000000 in
theorem countV_is (A : Option Addr) (n cap : Nat) (ls : List (List Int)) (w : World) (h : RowG E24 w A n cap ls) (hn : n ≤ 5000) : Calls Try.prog 19 #[.slice A n cap] w (GivesC w ls) := by
  have H := Lib.hid h
  have LN := Lib.hid h.len
  have hz := zero24
  have hmm := @run_makeMap Try.prog
  clear h
  go_enter Try.func19, Try.ntmps19
  go_wp2_with fail
  clear hmm
  go_loopw [9] (fun ii wr => ∃ i : Nat, i ≤ n ∧ ii = .int .i64 i ∧ MapN wr w.heap.size i (cnts (ls.take i)) ∧ msize wr w.heap.size = unl (ls.take i) ∧ Below w.heap.size w wr) (fun ii _ => n - (intOf ii).toNat)
  case atStart => exact ⟨0, Nat.zero_le _, rfl, by rw [List.take_zero, cnts_nil]; exact mapN_made w, by unfold msize; rw [World.alloc_heap_new]; rfl, new_below w _⟩
  case round =>
    obtain ⟨i, hi, rfl, hm, hs, hb⟩ := hrel
    have MM := Lib.hid hm
    have SZ := Lib.hid hs
    have BB := Lib.hid hb
    clear hm hs hb
    by_cases hlt : i < n
    · obtain ⟨G, p, hE⟩ := (H.out.below BB.out).elem vz i hlt
      have E := Lib.hid hE
      have TK := Lib.hid (take_getDG vz (l := ls) (j := i) (by have := LN.out; omega))
      obtain ⟨x, hx⟩ : ∃ x, ls.getD i vz = x := ⟨_, rfl⟩
      rw [hx] at E TK
      clear hE hx
      have XO := Lib.hid (show VOk x from E.out.ok)
      have Z0 := Lib.hid (blk_alloc wr 24 (vc vz))
      obtain ⟨L, hL⟩ : ∃ L, ls.take i = L := ⟨_, rfl⟩
      have LL := Lib.hid (show L.length ≤ i by rw [← hL, List.length_take]; omega)
      rw [hL] at MM SZ TK
      clear hL
      have FX := Lib.hid (show (-100000 : Int) ≤ (L.count x : Int) ∧ (L.count x : Int) ≤ 100000 by have := List.count_le_length (l := L) (a := x); have := LL.out; omega)
      have MB := Lib.hid (show i ≤ 50000 by omega)
      go_wp2_with (first
        | refine wpList_indexG L24 rfl _ _ rfl A n cap G p i x _ rfl rfl (by first | rfl | omega) E.out ?_
        | refine wpList_load_v t24 rfl _ rfl G p x rfl E.out.rg XO.out.len ?_
        | (refine wpList_store_v t24 rfl _ _ rfl wr.heap.size vz x rfl rfl Z0.out rfl XO.out.len ?_; intro w3 N3 O3; have B3 := Lib.hid (box_below O3.out)))
      have MM3 := Lib.hid (MM.out.below B3.out)
      have BB3 := Lib.hid (step_ BB.out B3.out)
      have SZ3 := Lib.hid (show msize w3 w.heap.size = unl L from (msize_below B3.out MM.out.lt).trans SZ.out)
      have G5 := Lib.hid (show w.heap.size < wr.heap.size from MM.out.lt)
      obtain ⟨g5, hg5⟩ : ∃ g5, wr.heap.size = g5 := ⟨_, rfl⟩
      rw [hg5] at G5 N3 ⊢
      clear hg5 Z0 O3
      have S1 := Lib.hid (show Below w.heap.size w w3.drew ∧ Blk w3.drew g5 24 (vc x) from ⟨below_drew BB3.out, N3.out.drew⟩)
      have M1 := Lib.hid (show MapN w3.drew w.heap.size i (cnts L) from MM3.out.below (below_drew (Below.refl _ _)))
      have Z1 := Lib.hid (show msize w3.drew w.heap.size = unl L from SZ3.out)
      refine wp_region_noPanic ?_
      refine wp_region_held_drew (S := fun W => Below w.heap.size w W ∧ Blk W g5 24 (vc x)) (by kernel_rfl) S1.out (fun _ => ?_)
      refine wpAnyH_take (i := 0) (oi := { dst := some 13, op := Go.Op.move (Go.Operand.tmp 3), type := 41, pos := _, after := #[], guard := none }) (v := ?_) rfl (by kernel_rfl) (by kernel_rfl) (by kernel_rfl) (fun _ _ _ h => h) (Or.inl ⟨by rfl, ?_⟩) S1.out ?_
      rotate_left
      · intro W hW; (go_simp; try with_reducible rfl)
      try simp only [Act.put, List.setIfInBounds_toArray, List.set_cons_zero, List.set_cons_succ]
      refine wpAnyH_take (i := 1) (oi := { dst := some 14, op := Go.Op.load 24 (Go.Operand.tmp 5), type := 24, pos := _, after := #[], guard := none }) (v := .agg (vc x).toArray) rfl (by kernel_rfl) (by kernel_rfl) (by kernel_rfl) (fun _ _ _ h => h) (yieldsIf_load_mid (by rfl) 24 (.tmp 5) rfl g5 0 rfl (vc x) _ (fun W hW => hW.2.range) t24.und rfl (t24.size XO.out.len)) S1.out ?_
      try simp only [Act.put, List.setIfInBounds_toArray, List.set_cons_zero, List.set_cons_succ]
      refine wpAnyH_ready (rs := [2, 4]) (by kernel_rfl) (by simp) ?_
      refine ready_lookN (o := { dst := some 15, op := Go.Op.lookup 41 (Go.Operand.tmp 13) (Go.Operand.tmp 14) false, type := 3, pos := _, after := #[{ on := 0, ground := Go.Ground.data }, { on := 1, ground := Go.Ground.data }], guard := none }) rfl rfl _ _ rfl w.heap.size i (cnts L) x rfl rfl M1.out XO.out ⟨S1.out, ?_⟩ ?_
      · skip
        try simp only [Act.put, List.setIfInBounds_toArray, List.set_cons_zero, List.set_cons_succ]
        rw [cnts_getD]
        refine wpAnyH_take (i := 3) (oi := { dst := some 16, op := Go.Op.binOp Go.BinOp.add 3 (Go.Operand.tmp 15) (Go.Operand.const (Go.Value.int Go.IntKind.i64 1)) 3, type := 3, pos := _, after := #[{ on := 2, ground := Go.Ground.data }], guard := none }) (v := .int .i64 ((L.count x : Int) + 1)) rfl (by kernel_rfl) (by kernel_rfl) (by kernel_rfl) (fun _ _ _ h => h) (Or.inl ⟨by rfl, fun W hW => exec_add1 _ rfl (L.count x : Int) rfl FX.out⟩) S1.out ?_
        try simp only [Act.put, List.setIfInBounds_toArray, List.set_cons_zero, List.set_cons_succ]
        refine wpAnyH_ready (rs := [4]) (by kernel_rfl) (by simp) ?_
        refine ready_entryN (o := { dst := some 17, op := Go.Op.mapEntry 41 (Go.Operand.tmp 13) (Go.Operand.tmp 14), type := 0, pos := _, after := #[{ on := 0, ground := Go.Ground.data }, { on := 1, ground := Go.Ground.data }, { on := 0, ground := Go.Ground.phase }, { on := 1, ground := Go.Ground.phase }, { on := 2, ground := Go.Ground.textOnly Go.Departure.mapOpAssignEntry }, { on := 3, ground := Go.Ground.textOnly Go.Departure.mapOpAssignEntry }], guard := none }) rfl rfl _ _ rfl w.heap.size i (cnts L) x rfl rfl M1.out MB.out XO.out (fun v0 st w4 m4 o4 p4 => ?_) AllReadyH.nil
        have S4 := Lib.hid (show Below w.heap.size w w4 ∧ Blk w4 g5 24 (vc x) from ⟨S1.out.1.trans (o4.below (Nat.le_refl _) S1.out.1.size), S1.out.2.only o4 (by have := G5.out; omega)⟩)
        have P4 := Lib.hid p4
        have M4 := Lib.hid m4
        clear m4 o4 p4
        refine ⟨S4.out, ?_⟩
        try simp only [Act.put, List.setIfInBounds_toArray, List.set_cons_zero, List.set_cons_succ]
        refine wpAnyH_take (i := 5) (oi := { dst := some 18, op := Go.Op.extract (Go.Operand.tmp 17) 1, type := 3, pos := _, after := #[{ on := 4, ground := Go.Ground.data }], guard := none }) (v := ?_) rfl (by kernel_rfl) (by kernel_rfl) (by kernel_rfl) (fun _ _ _ h => h) (Or.inl ⟨by rfl, ?_⟩) S4.out ?_
        rotate_left
        · intro W hW; (go_simp; try with_reducible rfl)
        try simp only [Act.put, List.setIfInBounds_toArray, List.set_cons_zero, List.set_cons_succ]
        refine wpAnyH_ready (rs := [6]) (by kernel_rfl) (by simp) ?_
        refine ready_estoreN (o := { dst := none, op := Go.Op.entryStore 41 (Go.Operand.tmp 13) (Go.Operand.tmp 18) (Go.Operand.tmp 16), type := 0, pos := _, after := #[{ on := 0, ground := Go.Ground.data }, { on := 5, ground := Go.Ground.data }, { on := 3, ground := Go.Ground.data }, { on := 4, ground := Go.Ground.chain }, { on := 0, ground := Go.Ground.phase }, { on := 1, ground := Go.Ground.phase }, { on := 2, ground := Go.Ground.phase }, { on := 3, ground := Go.Ground.phase }, { on := 4, ground := Go.Ground.phase }, { on := 5, ground := Go.Ground.phase }], guard := none }) rfl rfl _ _ _ rfl w.heap.size st x i (cnts L) _ ((L.count x : Int) + 1) rfl rfl rfl P4.out rfl (fun w5 m5 s5 o5 => ?_) AllReadyH.nil
        have S5 := Lib.hid (show Below w.heap.size w w5 ∧ Blk w5 g5 24 (vc x) from ⟨S4.out.1.trans (o5.below (Nat.le_refl _) S4.out.1.size), S4.out.2.only o5 (by have := G5.out; omega)⟩)
        refine ⟨S5.out, ?_⟩
        simp only [Act.put]
        refine wpAnyH_done (by kernel_rfl) ?_ _
        refine NoPanic.normal ?_
        have M5 := Lib.hid m5
        have Z5 := Lib.hid s5
        clear m5 s5 o5
        go_wp2_with fail
        go_roundw
        case rel => exact ⟨i + 1, by omega, by go_num, by rw [TK.out, ← cnts_snoc]; exact M5.out, by rw [TK.out, unl_snoc, Z5.out, Z1.out], S5.out.1⟩
        case measure => simp [intOf]; omega
      · skip
        refine ready_entryN (o := { dst := some 17, op := Go.Op.mapEntry 41 (Go.Operand.tmp 13) (Go.Operand.tmp 14), type := 0, pos := _, after := #[{ on := 0, ground := Go.Ground.data }, { on := 1, ground := Go.Ground.data }, { on := 0, ground := Go.Ground.phase }, { on := 1, ground := Go.Ground.phase }, { on := 2, ground := Go.Ground.textOnly Go.Departure.mapOpAssignEntry }, { on := 3, ground := Go.Ground.textOnly Go.Departure.mapOpAssignEntry }], guard := none }) rfl rfl _ _ rfl w.heap.size i (cnts L) x rfl rfl M1.out MB.out XO.out (fun v0 st w4 m4 o4 p4 => ?_) AllReadyH.nil
        have S4 := Lib.hid (show Below w.heap.size w w4 ∧ Blk w4 g5 24 (vc x) from ⟨S1.out.1.trans (o4.below (Nat.le_refl _) S1.out.1.size), S1.out.2.only o4 (by have := G5.out; omega)⟩)
        have P4 := Lib.hid p4
        have M4 := Lib.hid m4
        clear m4 o4 p4
        refine ⟨S4.out, ?_⟩
        try simp only [Act.put, List.setIfInBounds_toArray, List.set_cons_zero, List.set_cons_succ]
        refine wpAnyH_take (i := 5) (oi := { dst := some 18, op := Go.Op.extract (Go.Operand.tmp 17) 1, type := 3, pos := _, after := #[{ on := 4, ground := Go.Ground.data }], guard := none }) (v := ?_) rfl (by kernel_rfl) (by kernel_rfl) (by kernel_rfl) (fun _ _ _ h => h) (Or.inl ⟨by rfl, ?_⟩) S4.out ?_
        rotate_left
        · intro W hW; (go_simp; try with_reducible rfl)
        try simp only [Act.put, List.setIfInBounds_toArray, List.set_cons_zero, List.set_cons_succ]
        refine wpAnyH_ready (rs := [2]) (by kernel_rfl) (by simp) ?_
        refine ready_lookN (o := { dst := some 15, op := Go.Op.lookup 41 (Go.Operand.tmp 13) (Go.Operand.tmp 14) false, type := 3, pos := _, after := #[{ on := 0, ground := Go.Ground.data }, { on := 1, ground := Go.Ground.data }], guard := none }) rfl rfl _ _ rfl w.heap.size (i + 1) (updV (cnts L) x (((cnts L) x).getD 0)) x rfl rfl M4.out XO.out ⟨S4.out, ?_⟩ AllReadyH.nil
        try simp only [Act.put, List.setIfInBounds_toArray, List.set_cons_zero, List.set_cons_succ]
        rw [upd_getD, cnts_getD]
        refine wpAnyH_take (i := 3) (oi := { dst := some 16, op := Go.Op.binOp Go.BinOp.add 3 (Go.Operand.tmp 15) (Go.Operand.const (Go.Value.int Go.IntKind.i64 1)) 3, type := 3, pos := _, after := #[{ on := 2, ground := Go.Ground.data }], guard := none }) (v := .int .i64 ((L.count x : Int) + 1)) rfl (by kernel_rfl) (by kernel_rfl) (by kernel_rfl) (fun _ _ _ h => h) (Or.inl ⟨by rfl, fun W hW => exec_add1 _ rfl (L.count x : Int) rfl FX.out⟩) S4.out ?_
        try simp only [Act.put, List.setIfInBounds_toArray, List.set_cons_zero, List.set_cons_succ]
        refine wpAnyH_ready (rs := [6]) (by kernel_rfl) (by simp) ?_
        refine ready_estoreN (o := { dst := none, op := Go.Op.entryStore 41 (Go.Operand.tmp 13) (Go.Operand.tmp 18) (Go.Operand.tmp 16), type := 0, pos := _, after := #[{ on := 0, ground := Go.Ground.data }, { on := 5, ground := Go.Ground.data }, { on := 3, ground := Go.Ground.data }, { on := 4, ground := Go.Ground.chain }, { on := 0, ground := Go.Ground.phase }, { on := 1, ground := Go.Ground.phase }, { on := 2, ground := Go.Ground.phase }, { on := 3, ground := Go.Ground.phase }, { on := 4, ground := Go.Ground.phase }, { on := 5, ground := Go.Ground.phase }], guard := none }) rfl rfl _ _ _ rfl w.heap.size st x i (cnts L) _ ((L.count x : Int) + 1) rfl rfl rfl P4.out rfl (fun w5 m5 s5 o5 => ?_) AllReadyH.nil
        have S5 := Lib.hid (show Below w.heap.size w w5 ∧ Blk w5 g5 24 (vc x) from ⟨S4.out.1.trans (o5.below (Nat.le_refl _) S4.out.1.size), S4.out.2.only o5 (by have := G5.out; omega)⟩)
        refine ⟨S5.out, ?_⟩
        simp only [Act.put]
        refine wpAnyH_done (by kernel_rfl) ?_ _
        refine NoPanic.normal ?_
        have M5 := Lib.hid m5
        have Z5 := Lib.hid s5
        clear m5 s5 o5
        go_wp2_with fail
        go_roundw
        case rel => exact ⟨i + 1, by omega, by go_num, by rw [TK.out, ← cnts_snoc]; exact M5.out, by rw [TK.out, unl_snoc, Z5.out, Z1.out], S5.out.1⟩
        case measure => simp [intOf]; omega
    · obtain rfl : n = i := by omega
      have TK := Lib.hid (show ls.take n = ls from List.take_of_length_le (by have := LN.out; omega))
      rw [TK.out] at MM SZ
      go_wp2_with fail
      go_ret
      exact ⟨⟨w.heap.size, rfl, Nat.le_refl _, by rw [LN.out]; exact MM.out, SZ.out⟩, BB.out⟩
end Go.Proofs.Ytihkncnhkljgpaa
