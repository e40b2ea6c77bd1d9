/- Maps from vectors to numbers in memory: what they hold, look-ups, entries, ranges. -/
import Derived.Test.YtihkncnhkljgpaaMaps
import Derived.Test.YtihkncnhkljgpaaVRows
import Derived.WideKeyEntry
import Derived.Maps.Ext
namespace Go.Proofs.Ytihkncnhkljgpaa
open Go.RowKit Go.Maps Go.WideElems

theorem keyType24 : Try.prog.keyType 24 = true := by kernel_rfl
theorem row24v : (24 : TypeId) < Try.prog.types.size := of_decide_eq_true (by kernel_rfl)
theorem keyAt24 : Try.prog.keyTypeAt 2 24 = true := by kernel_rfl
theorem cells24v : Try.prog.cellsOf 24 = 16 := by kernel_rfl
set_option maxRecDepth 100000 in
theorem lawV0 : WideMaps.KeyLaw Try.prog 24 := deep_law_laid laidOut (m := 2) (by omega) row24v keyAt24 (by rw [Try.underlying24])
theorem lawV : Keyed Try.prog 24 := Keyed.of_law lawV0
theorem keyOf_array {P : Program} {t n e : Nat} {v : Value} (hu : P.underlying t = some (.array n e)) (hk : P.keyType t = true) (hf : v.formed P t = true) : keyOf P t v = (P.keyLits (P.types.size + 1) t v.cells.toList).map fun ls => .string (keyBytes ls) := by
  simp [keyOf, hu, hk, hf]
theorem litsVec (d : Nat) {m : List Int} (h : VOk m) : ∃ ls, Try.prog.keyLits (d + 2) 24 (vc m) = some ls := by
  rw [keyLits_array Try.underlying24 (by rw [vc_len, h.len, cells24v])]
  obtain ⟨ys, hy⟩ := mapM_some (f := fun i => Try.prog.keyLits (d + 1) 22 (((vc m).drop (i * Try.prog.cellsOf 22)).take (Try.prog.cellsOf 22))) (List.range 16) (fun i hi => by
    have hi : i < 16 := List.mem_range.1 hi
    have hl := h.len
    rw [cells26, Nat.mul_one, List.drop_eq_getElem_cons (by rw [vc_len]; omega)]
    simp only [List.take_succ_cons, List.take_zero, vc, List.getElem_map]
    have := h.rg m[i] (List.getElem_mem _)
    exact ⟨_, litW d Try.underlying22 (WalkArith.wf_u32 (by omega))⟩)
  rw [hy]
  exact ⟨_, rfl⟩
theorem keyV {k : List Int} (h : VOk k) : ∃ l, keyOf Try.prog 24 (.agg (vc k).toArray) = some l := by
  obtain ⟨ls, hl⟩ := litsVec 175 h
  have hs : Try.prog.types.size + 1 = 175 + 2 := by rw [types_]
  rw [keyOf_array Try.underlying24 keyType24 (by simp [Value.formed, cells24v, vc_len, h.len]), hs]
  have e : (Value.agg (vc k).toArray).cells.toList = vc k := rfl
  rw [e, hl]
  exact ⟨_, rfl⟩
theorem vec_inj {a b : List Int} (h : Value.agg (vc a).toArray = .agg (vc b).toArray) : a = b := by
  have e : (vc a).toArray = (vc b).toArray := by injection h
  exact vc_inj (by have := congrArg Array.toList e; simpa using this)
theorem key_sameV {a b : List Int} (_ : VOk a) (_ : VOk b) {l : Lit} (h1 : keyOf Try.prog 24 (.agg (vc a).toArray) = some l) (h2 : keyOf Try.prog 24 (.agg (vc b).toArray) = some l) : a = b := vec_inj (lawV.inj h1 h2)
structure OkN (f : List Int → Option Int) : Prop where
  k : ∀ k v, f k = some v → VOk k
def noneV : List Int → Option Int := fun _ => none
theorem okN_none : OkN noneV := ⟨fun _ _ h => by cases h⟩
def updV (f : List Int → Option Int) (k : List Int) (v : Int) : List Int → Option Int := fun x => if x = k then some v else f x
theorem OkN.upd {f : List Int → Option Int} (h : OkN f) {k : List Int} (hk : VOk k) (v : Int) : OkN (updV f k v) := ⟨fun x z e => by
  unfold updV at e
  split at e
  · rename_i e2; rw [e2]; exact hk
  · exact h.k x z e⟩

structure RepV (D : DataW Value) (f : List Int → Option Int) : Prop where
  only : ∀ l, Maps.has D l = true → ∃ k v, f k = some v ∧ keyOf Try.prog 24 (.agg (vc k).toArray) = some l
  at_ : ∀ k v l, f k = some v → keyOf Try.prog 24 (.agg (vc k).toArray) = some l → Maps.has D l = true ∧ ∀ z, D.atKey l z = .held (.int .i64 v)
structure MapN (w : World) (b n : Nat) (f : List Int → Option Int) : Prop where
  ok : OkN f
  own : ∃ D, w.ownsMap Try.prog 24 heldE b n D ∧ RepV D f
theorem RepV.no {D : DataW Value} {f : List Int → Option Int} (h : RepV D f) (hf : OkN f) {k : List Int} (hk : VOk k) {l : Lit} (hl : keyOf Try.prog 24 (.agg (vc k).toArray) = some l) (hn : f k = none) : Maps.has D l = false := by
  cases e : Maps.has D l with
  | false => rfl
  | true =>
    obtain ⟨k', v', h1, h2⟩ := h.only l e
    rw [key_sameV hk (hf.k _ _ h1) hl h2] at hn
    rw [hn] at h1; cases h1
theorem RepV.has {D : DataW Value} {f : List Int → Option Int} (h : RepV D f) (hf : OkN f) {k : List Int} (hk : VOk k) {l : Lit} (hl : keyOf Try.prog 24 (.agg (vc k).toArray) = some l) : Maps.has D l = (f k).isSome := by
  cases e : f k with
  | none => exact h.no hf hk hl e
  | some v => exact (h.at_ k v l e hl).1
theorem mapN_made (w : World) : MapN (w.alloc (.map #[] 0)) w.heap.size 0 noneV :=
  ⟨okN_none, .map [], World.ownsMap_made w Try.prog 24 heldE, fun _ h => (by cases h), fun _ _ _ h => (by cases h)⟩
theorem MapN.lt {w : World} {b n : Nat} {f : List Int → Option Int} (h : MapN w b n f) : b < w.heap.size := by obtain ⟨D, h1, _⟩ := h.own; exact h1.lt
theorem MapN.kept {w w' : World} {b n : Nat} {f : List Int → Option Int} {row : Option Nat} (h : MapN w b n f) (hg : w.grownBy w' row) (hne : some b ≠ row) : MapN w' b n f := by
  obtain ⟨D, h1, h2⟩ := h.own; exact ⟨h.ok, D, h1.kept hg hne, h2⟩
theorem MapN.below {w w' : World} {b n : Nat} {f : List Int → Option Int} (h : MapN w b n f) (hb : Below w.heap.size w w') : MapN w' b n f := h.kept (grown_of hb) (by simp)
theorem MapN.upto {w w' : World} {B b n : Nat} {f : List Int → Option Int} (h : MapN w b n f) (hb : Below B w w') (hB : b < B) : MapN w' b n f := by
  obtain ⟨D, ⟨es, clock, e, r⟩, h2⟩ := h.own
  exact ⟨h.ok, D, ⟨es, clock, (hb.block b hB).trans e, r⟩, h2⟩
theorem MapN.only {w w' : World} {g b n : Nat} {f : List Int → Option Int} (h : MapN w b n f) (ho : Only g w w') (hg : b ≠ g) : MapN w' b n f :=
  h.kept (row := some g) ⟨ho.os, ho.tape, ho.output, ho.size, fun k hk hn => ho.block k hk (fun e => hn (by rw [e]))⟩ (fun e => hg (Option.some.inj e))
theorem MapN.mono {w : World} {b n n' : Nat} {f : List Int → Option Int} (h : MapN w b n f) (hn : n ≤ n') : MapN w b n' f := by
  obtain ⟨D, h1, h2⟩ := h.own; exact ⟨h.ok, D, h1.mono hn, h2⟩
theorem run_lookN {w : World} {b n : Nat} {f : List Int → Option Int} (h : MapN w b n f) {k : List Int} (hk : VOk k) : (Instr.lookup 41 (.map (some b)) (.agg (vc k).toArray) false).run Try.prog w = .ok (.int .i64 ((f k).getD 0)) w := by
  obtain ⟨D, h1, h2⟩ := h.own
  obtain ⟨l, hl⟩ := keyV hk
  obtain ⟨v, ps, hr, hv⟩ := h1.lookup lawV Try.underlying41 (Try.zeroValue3 w) (zd := .held (.int .i64 0)) (zp := []) rfl hl
  rw [hr]
  unfold heldE at hv
  simp only [Option.some.injEq, Prod.mk.injEq] at hv
  cases e : f k with
  | none =>
    rw [Maps.atKey_of_not_has (h2.no h.ok hk hl e)] at hv
    have hv := DataW.held.inj hv.1
    rw [hv]; simp only [Option.getD_none]
  | some u =>
    rw [(h2.at_ k u l e hl).2] at hv
    have hv := DataW.held.inj hv.1
    rw [hv]; simp only [Option.getD_some]
theorem RepV.upd {D : DataW Value} {f : List Int → Option Int} (h : RepV D f) (hf : OkN f) (hm : IsMap D) {k : List Int} (hk : VOk k) (v : Int) {l : Lit} (hl : keyOf Try.prog 24 (.agg (vc k).toArray) = some l) : RepV (D.put l (.held (.int .i64 v))) (updV f k v) := by
  constructor
  · intro l' h'
    by_cases e : l' = l
    · subst e; exact ⟨k, v, by simp [Ytihkncnhkljgpaa.updV], hl⟩
    · rw [Maps.has_put_other e] at h'
      obtain ⟨k', v', h1, h2⟩ := h.only l' h'
      refine ⟨k', v', ?_, h2⟩
      unfold Ytihkncnhkljgpaa.updV
      rw [if_neg (fun e2 => by rw [e2, hl] at h2; exact e (Option.some.inj h2).symm)]
      exact h1
  · intro k' v' l' h1 h2
    unfold Ytihkncnhkljgpaa.updV at h1
    split at h1
    · rename_i e2
      cases h1
      rw [e2, hl] at h2
      obtain rfl := Option.some.inj h2
      exact ⟨Maps.has_put_same hm (lawV.key hl) _, fun z => Maps.atKey_put_same hm (lawV.key hl) _ z⟩
    · rename_i e2
      have e : l' ≠ l := fun e => e2 (key_sameV (hf.k _ _ h1) hk h2 (e ▸ hl))
      rw [Maps.has_put_other e]
      obtain ⟨h3, h4⟩ := h.at_ k' v' l' h1 h2
      exact ⟨h3, fun z => by rw [Maps.atKey_put_other e]; exact h4 z⟩
theorem run_updN {w : World} {b n : Nat} {f : List Int → Option Int} (h : MapN w b n f) (hn : n ≤ 5000) {k : List Int} (hk : VOk k) (v : Int) (hf : OkN (updV f k v)) :
    ∃ w', (Instr.mapUpdate 41 (.map (some b)) (.agg (vc k).toArray) (.int .i64 v)).run Try.prog w = .ok () w' ∧ MapN w' b (n + 1) (updV f k v) ∧ w.grownBy w' (some b) := by
  obtain ⟨D, h1, h2⟩ := h.own
  obtain ⟨l, hl⟩ := keyV hk
  obtain ⟨w', hr, h3, h4⟩ := h1.update lawV Try.underlying41 (by unfold maxLen; omega) (val := .int .i64 v) (d := .held (.int .i64 v)) (ps := []) hl rfl
  exact ⟨w', hr, ⟨hf, _, h3, h2.upd h.ok h1.isMap hk v hl⟩, h4⟩

/-! Ranges. -/
/-- A range over the map f is under way; g: what is still to come. -/
structure RangeN (w : World) (b r n : Nat) (f g : List Int → Option Int) (cnt : Nat) : Prop where
  ok : OkN f
  sub : ∀ k v, g k = some v → f k = some v
  own : ∃ D left, w.ranges Try.prog 24 heldE b r n D left cnt ∧ RepV D f ∧ (∀ k l, VOk k → keyOf Try.prog 24 (.agg (vc k).toArray) = some l → (left l = true ↔ g k ≠ none)) ∧ ∀ l, left l = true → Maps.has D l = true
def delV (g : List Int → Option Int) (k : List Int) : List Int → Option Int := fun x => if x = k then none else g x
theorem RangeN.left_eq {w : World} {b r n : Nat} {f g : List Int → Option Int} {cnt : Nat} (h : RangeN w b r n f g cnt) : w.rangeLeft b r = cnt := by obtain ⟨D, left, h1, _⟩ := h.own; exact h1.left_eq
theorem RangeN.lt {w : World} {b r n : Nat} {f g : List Int → Option Int} {cnt : Nat} (h : RangeN w b r n f g cnt) : r < w.heap.size := by obtain ⟨D, left, h1, _⟩ := h.own; exact h1.lt
theorem RangeN.map {w : World} {b r n : Nat} {f g : List Int → Option Int} {cnt : Nat} (h : RangeN w b r n f g cnt) : MapN w b n f := by obtain ⟨D, left, h1, h2, _⟩ := h.own; exact ⟨h.ok, D, h1.owns, h2⟩
theorem RangeN.kept {w w' : World} {b r n : Nat} {f g : List Int → Option Int} {cnt : Nat} {row : Option Nat} (h : RangeN w b r n f g cnt) (hg : w.grownBy w' row) (h1 : some b ≠ row) (h2 : some r ≠ row) : RangeN w' b r n f g cnt := by
  obtain ⟨D, left, a1, a2⟩ := h.own; exact ⟨h.ok, h.sub, D, left, a1.kept hg h1 h2, a2⟩
theorem RangeN.below {w w' : World} {b r n : Nat} {f g : List Int → Option Int} {cnt : Nat} (h : RangeN w b r n f g cnt) (hb : Below w.heap.size w w') : RangeN w' b r n f g cnt := h.kept (grown_of hb) (by simp) (by simp)
theorem RangeN.upto {w w' : World} {B b r n : Nat} {f g : List Int → Option Int} {cnt : Nat} (h : RangeN w b r n f g cnt) (hb : Below B w w') (hB : b < B) (hr : r < B) : RangeN w' b r n f g cnt := by
  obtain ⟨D, left, ⟨es, clock, since, seen, c0, e1, e2, e3, e4, e5, e6⟩, h2⟩ := h.own
  exact ⟨h.ok, h.sub, D, left, ⟨es, clock, since, seen, c0, (hb.block b hB).trans e1, e2, e3, e4, (hb.block r hr).trans e5, e6⟩, h2⟩
/-- How many entries a map has. -/
theorem msize_isV {w : World} {b n : Nat} {D : DataW Value} (h : w.ownsMap Try.prog 24 heldE b n D) : Maps.size D = msize w b ∧ msize w b ≤ n := by
  obtain ⟨es, clock, e1, _, e3, rfl⟩ := h
  unfold msize
  rw [e1]
  exact ⟨by simp [Maps.size, length_sorted], e3⟩
theorem run_lenN {w : World} {b n : Nat} {f : List Int → Option Int} (h : MapN w b n f) (ty : TypeId) : (Builtin.len_ #[41] ty #[.map (some b)]).run Try.prog w = .ok (.int .i64 (msize w b : Nat)) w := by
  obtain ⟨D, h1, h2⟩ := h.own
  rw [h1.len Try.underlying41 ty, (msize_isV h1).1]
theorem MapN.msize_le {w : World} {b n : Nat} {f : List Int → Option Int} (h : MapN w b n f) : msize w b ≤ n := by
  obtain ⟨D, h1, h2⟩ := h.own
  exact (msize_isV h1).2
theorem run_rangeN {w : World} {b n : Nat} {f : List Int → Option Int} (h : MapN w b n f) : ∃ w' cnt, (Instr.range 41 (.map (some b))).run Try.prog w = .ok (.pointer (some ⟨w.heap.size, 0, none⟩)) w' ∧ RangeN w' b w.heap.size n f f cnt ∧ Below w.heap.size w w' ∧ cnt = msize w b := by
  obtain ⟨D, h1, h2⟩ := h.own
  obtain ⟨w', hr, h3, h4, _⟩ := h1.range lawV Try.underlying41
  refine ⟨w', _, hr, ⟨h.ok, fun _ _ e => e, D, _, h3, h2, fun k l hk hl => ?_, fun _ e => e⟩, ⟨h4.os, h4.tape, h4.output, h4.size, fun k hk => h4.block k hk (by simp)⟩, (msize_isV h1).1⟩
  rw [h2.has h.ok hk hl]
  cases f k <;> simp
theorem run_nextN {w : World} {b r n : Nat} {f g : List Int → Option Int} {cnt : Nat} (h : RangeN w b r n f g cnt) (ty : TypeId) :
    ((∀ k, g k = none) ∧ (Instr.next (.pointer (some ⟨r, 0, none⟩)) false ty).run Try.prog w = .ok (.tuple #[.bool false]) w) ∨
    ∃ k v w' cnt', g k = some v ∧ (Instr.next (.pointer (some ⟨r, 0, none⟩)) false ty).run Try.prog w = .ok (.tuple #[.bool true, .agg (vc k).toArray, .int .i64 v]) w' ∧ RangeN w' b r n f (delV g k) cnt' ∧ cnt' < cnt ∧ w.grownBy w' (some r) ∧ w'.heap.size = w.heap.size ∧ (Instr.entry (.pointer (some ⟨r, 0, none⟩))).run Try.prog w' = .ok (.tuple #[.agg (vc k).toArray, .int .i64 v]) w' := by
  obtain ⟨D, left, h1, h2, h3, h4⟩ := h.own
  rcases h1.next lawV ty with ⟨_, hl, hrun⟩ | ⟨key, v, l, y, w', cnt', hkey, hlk, hv, hat, hrun, hrg, hlt, hgr, hsz, hen⟩
  · refine .inl ⟨fun k => ?_, hrun⟩
    cases e : g k with
    | none => rfl
    | some u =>
      have hk := h.ok.k _ _ (h.sub k u e)
      obtain ⟨l, hl'⟩ := keyV hk
      have := (h3 k l hk hl').2 (by rw [e]; simp)
      rw [hl] at this; cases this
  · right
    obtain ⟨k, u, e1, e2⟩ := h2.only l (h4 l hlk)
    have hk := h.ok.k _ _ e1
    obtain rfl := lawV.inj hkey e2
    have e3 := (h2.at_ k u l e1 e2).2 .nil
    rw [hat] at e3
    unfold heldE at hv
    have e4 : y.1 = .held v := by rw [← Option.some.inj hv]
    rw [e4] at e3
    have e3 := DataW.held.inj e3
    subst e3
    have hg : g k = some u := by
      have := (h3 k l hk e2).1 hlk
      cases e : g k with
      | none => exact absurd e this
      | some z => rw [h.sub k z e] at e1; exact e1
    refine ⟨k, u, w', cnt', hg, hrun, ⟨h.ok, fun x z e => ?_, D, _, hrg, h2, fun x l' hx hl' => ?_, fun l' e => ?_⟩, hlt, hgr, hsz, hen⟩
    · unfold delV at e
      split at e
      · cases e
      · exact h.sub x z e
    · have hs : l'.sameKey l = decide (x = k) := by
        by_cases e : x = k
        · subst e
          rw [hl'] at e2
          obtain rfl := Option.some.inj e2
          rw [WideAt.sameKey_self (lawV.key hl')]; simp
        · rw [Maps.sameKey_ne (fun e' => e (key_sameV hx hk hl' (by rw [e']; exact e2)))]; simp [e]
      show (left l' && !l'.sameKey l) = true ↔ _
      rw [hs]
      unfold delV
      by_cases e : x = k
      · simp [e]
      · simp only [e, decide_false, Bool.not_false, Bool.and_true, if_false]
        exact h3 x l' hx hl'
    · have e' : (left l' && !l'.sameKey l) = true := e
      simp only [Bool.and_eq_true] at e'
      exact h4 l' e'.1
theorem wpList_rangeN {ops : Array Oper} {rest : List Oper} {op : Oper} {a : Act} {w : World} {Q : Exit → Act → World → Prop} (hgd : op.guard = none) (m : Operand) (ho : op.op = .range 41 m) (b n : Nat) (f : List Int → Option Int) (hm : a.eval m = .map (some b)) (h : MapN w b n f)
    (hk : ∀ r w' cnt, Hid (r = w.heap.size) → Hid (RangeN w' b r n f f cnt) → Hid (cnt = msize w b) → Hid (Below w.heap.size w w') → wpList Try.prog ops Q rest (a.put op.dst (.pointer (some ⟨r, 0, none⟩))) w') : wpList Try.prog ops Q (op :: rest) a w := by
  refine wpList_plain hgd fun K hK => ?_
  obtain ⟨w', cnt, hr, h1, h2, h3⟩ := run_rangeN h
  unfold Oper.wp
  simp [execOp, ho, hm, hr, Result.andThen]
  exact hK _ _ (hk _ w' cnt (Lib.hid rfl) (Lib.hid h1) (Lib.hid h3) (Lib.hid h2))
theorem wpList_nextN {ops : Array Oper} {rest : List Oper} {op : Oper} {a : Act} {w : World} {Q : Exit → Act → World → Prop} (hgd : op.guard = none) (it : Operand) (ho : op.op = .next it false) (b r n : Nat) (f g : List Int → Option Int) (cnt : Nat) (hit : a.eval it = .pointer (some ⟨r, 0, none⟩)) (h : RangeN w b r n f g cnt)
    (hDone : Hid (∀ k, g k = none) → wpList Try.prog ops Q rest (a.put op.dst (.tuple #[.bool false])) w)
    (hMore : ∀ k v w' cnt', Hid (g k = some v) → Hid (RangeN w' b r n f (delV g k) cnt') → Hid (cnt' < cnt) → Hid (Only r w w') → Hid (w'.heap.size = w.heap.size) → (Instr.entry (.pointer (some ⟨r, 0, none⟩))).run Try.prog w' = .ok (.tuple #[.agg (vc k).toArray, .int .i64 v]) w' →
      wpList Try.prog ops Q rest (a.put op.dst (.tuple #[.bool true, .agg (vc k).toArray, .int .i64 v])) w') : wpList Try.prog ops Q (op :: rest) a w := by
  refine wpList_plain hgd fun K hK => ?_
  unfold Oper.wp
  rcases run_nextN h op.type with ⟨h0, hr⟩ | ⟨k, v, w', cnt', hg, hr, h1, h2, h3, h4, h5⟩
  · simp [execOp, ho, hit, hr, Result.andThen]
    exact hK _ _ (hDone (Lib.hid h0))
  · simp [execOp, ho, hit, hr, Result.andThen]
    exact hK _ _ (hMore k v w' cnt' (Lib.hid hg) (Lib.hid h1) (Lib.hid h2) (Lib.hid ⟨h3.os, h3.tape, h3.output, h3.size, fun j hj hn => h3.block j hj (fun e => hn (Option.some.inj e))⟩) (Lib.hid h4) h5)
theorem MapN.same {w w' : World} {b n : Nat} {f : List Int → Option Int} (h : MapN w b n f) (hb : w'.heap[b]? = w.heap[b]?) : MapN w' b n f := by
  obtain ⟨D, ⟨es, clock, e, r⟩, h2⟩ := h.own; exact ⟨h.ok, D, ⟨es, clock, hb.trans e, r⟩, h2⟩
/-- What an entry leaves: whatever is stored behind it. -/
def PendN (w1 : World) (b st : Nat) (a : List Int) (n : Nat) (f : List Int → Option Int) (m : Nat) : Prop :=
  ∀ (w2 : World) (x : Int), w2.heap[b]? = w1.heap[b]? → ∃ w3, (Instr.entryStore 41 (.map (some b)) (goInt st) (.int .i64 x)).run Try.prog w2 = .ok () w3 ∧ MapN w3 b (n + 1) (updV f a x) ∧ msize w3 b = m ∧ w2.grownBy w3 (some b)
/-- How many entries there are with one more key. -/
def more1 (f : List Int → Option Int) (a : List Int) (m : Nat) : Nat := if (f a).isSome = true then m else m + 1
theorem run_entryN {w : World} {b n : Nat} {f : List Int → Option Int} (h : MapN w b n f) (hn : n ≤ 50000) {a : List Int} (ha : VOk a) :
    ∃ (v0 : Value) (st : Nat) (w1 : World), (Instr.mapEntry 41 (.map (some b)) (.agg (vc a).toArray)).run Try.prog w = .ok (.tuple #[v0, goInt st]) w1 ∧ MapN w1 b (n + 1) (updV f a ((f a).getD 0)) ∧ w.grownBy w1 (some b) ∧ PendN w1 b st a n f (more1 f a (msize w b)) := by
  have hok := h.ok
  obtain ⟨D, h1, h2⟩ := h.own
  obtain ⟨l, hl⟩ := keyV ha
  have h1' := h1
  obtain ⟨es, clock, hb, F, hs, hD⟩ := h1
  obtain ⟨v0, st, es1, clock1, hrun, _, hst⟩ := WideElems.entry_then_store lawV0 Try.underlying41 (z := .int .i64 0) Try.zeroValue3 hb F hl
  have grow : ∀ (w2 : World) (o : Obj) {es2 : Array MapEntry} {c2 : Nat}, w2.heap[b]? = some (.map es2 c2) → w2.grownBy (ChangeMaps.setBlock w2 b o) (some b) := fun w2 o es2 c2 hb2 => ⟨rfl, rfl, rfl, by simp [ChangeMaps.setBlock], fun i _ hi => ChangeMaps.heap_setBlock_other hb2 _ (fun e => hi (by rw [e]))⟩
  have hlt : n < maxLen := by unfold maxLen; omega
  refine ⟨v0, st, _, hrun, ?_, grow w _ hb, ?_⟩
  · rcases Maps.fit_look (R := heldE) false lawV Try.underlying41 (Try.zeroValue3 w) hb F hl with ⟨_, hno, hat⟩ | ⟨e0, y, he0, hk0, _, _, hat, _⟩
    · -- the key is new
      have hfn : f a = none := by
        cases hf : f a with
        | none => rfl
        | some v =>
          have e1 := (h2.at_ a v l hf hl).1
          rw [hD, Maps.has_false_of_atKey hat] at e1
          cases e1
      rw [hfn]
      rcases lawV0.find w hl es.toList F.keys with ⟨q1, _⟩ | ⟨j, e0, _, q2, q3⟩
      · have hrun2 : (Instr.mapEntry 41 (.map (some b)) (.agg (vc a).toArray)).run Try.prog w = .ok (.tuple #[.int .i64 0, goInt clock]) (ChangeMaps.setBlock w b (.map (es.push ⟨.agg (vc a).toArray, .int .i64 0, clock⟩) (clock + 1))) := by
          simp [Instr.mapEntry, run_underlying Try.underlying41, MapKept.run_getObj_map hb, lawV0.check w false hl, q1, Try.zeroValue3, MapKept.run_setObj_map _ hb, Result.andThen, ChangeMaps.setBlock]
        have hup2 : (Instr.mapUpdate 41 (.map (some b)) (.agg (vc a).toArray) (.int .i64 0)).run Try.prog w = .ok () (ChangeMaps.setBlock w b (.map (es.push ⟨.agg (vc a).toArray, .int .i64 0, clock⟩) (clock + 1))) := by
          simp [Instr.mapUpdate, run_underlying Try.underlying41, MapKept.run_getObj_map hb, lawV0.check w false hl, q1, MapKept.run_setObj_map _ hb, Result.andThen, ChangeMaps.setBlock]
        have e1 : ChangeMaps.setBlock w b (.map es1 clock1) = ChangeMaps.setBlock w b (.map (es.push ⟨.agg (vc a).toArray, .int .i64 0, clock⟩) (clock + 1)) := by
          have := hrun.symm.trans hrun2
          simp only [Result.ok.injEq] at this
          exact this.2
        obtain ⟨w', hr', h3, _⟩ := h1'.update lawV Try.underlying41 hlt (val := .int .i64 0) (d := .held (.int .i64 0)) (ps := []) hl rfl
        have e2 : w' = ChangeMaps.setBlock w b (.map es1 clock1) := by
          have := hr'.symm.trans hup2
          simp only [Result.ok.injEq] at this
          rw [this.2, e1]
        rw [e2] at h3
        exact ⟨hok.upd ha _, _, h3, h2.upd hok h1'.isMap ha 0 hl⟩
      · exact absurd q3 (hno e0 (List.mem_of_getElem? q2))
    · -- the key is there
      have hfs : ∃ v, f a = some v := by
        cases hf : f a with
        | some v => exact ⟨v, rfl⟩
        | none =>
          have e1 := h2.no hok ha hl hf
          rw [hD, Maps.has_true_of_atKey hat] at e1
          cases e1
      obtain ⟨v, hv⟩ := hfs
      have hfe : updV f a ((f a).getD 0) = f := by
        funext x
        unfold updV
        split
        · rename_i e; rw [hv, Option.getD_some, e, hv]
        · rfl
      rw [hfe]
      rcases lawV0.find w hl es.toList F.keys with ⟨_, q2⟩ | ⟨j, e1, q1, q2, q3⟩
      · exact absurd hk0 (q2 e0 he0)
      · have hj : es[j]? = some e1 := by simpa using q2
        have hsame : es.modify j (fun e => { e with key := .agg (vc a).toArray }) = es := by
          apply Array.ext'
          rw [Array.toList_modify, ChangeMaps.modify_eq_set _ _ _ _ q2]
          have : ({ e1 with key := .agg (vc a).toArray } : MapEntry) = e1 := by rw [← q3]
          rw [this]
          exact WideElems.set_self _ _ _ q2
        have hrun2 : (Instr.mapEntry 41 (.map (some b)) (.agg (vc a).toArray)).run Try.prog w = .ok (.tuple #[e1.val, goInt e1.born]) (ChangeMaps.setBlock w b (.map es clock)) := by
          simp [Instr.mapEntry, run_underlying Try.underlying41, MapKept.run_getObj_map hb, lawV0.check w false hl, q1, hj, q3, lawV0.stays w hl, hsame, MapKept.run_setObj_map _ hb, Result.andThen, ChangeMaps.setBlock]
        have e2 : ChangeMaps.setBlock w b (.map es1 clock1) = ChangeMaps.setBlock w b (.map es clock) := by
          have := hrun.symm.trans hrun2
          simp only [Result.ok.injEq] at this
          exact this.2
        rw [e2]
        exact MapN.mono (MapN.same (w := w) ⟨hok, D, h1', h2⟩ ((ChangeMaps.heap_setBlock_same hb _).trans hb.symm)) (Nat.le_succ _)
  · intro w2 x hw2
    have hb1 := ChangeMaps.heap_setBlock_same hb (.map es1 clock1)
    obtain ⟨es', clock', r1, r2⟩ := hst w2 (.int .i64 x) (hw2.trans hb1)
    obtain ⟨w', hr', h3, _⟩ := h1'.update lawV Try.underlying41 hlt (val := .int .i64 x) (d := .held (.int .i64 x)) (ps := []) hl rfl
    have e2 : w' = ChangeMaps.setBlock w b (.map es' clock') := by
      have := hr'.symm.trans r2
      simp only [Result.ok.injEq] at this
      exact this.2
    rw [e2] at h3
    refine ⟨_, r1, MapN.same (w := ChangeMaps.setBlock w b (.map es' clock')) ⟨hok.upd ha x, _, h3, h2.upd hok h1'.isMap ha x hl⟩ ?_, ?_, grow w2 _ (hw2.trans hb1)⟩
    · rw [ChangeMaps.heap_setBlock_same hb, ChangeMaps.heap_setBlock_same (hw2.trans hb1)]
    · have e3 := (msize_isV h3).1
      rw [Maps.size_put (h1'.tidy lawV), h2.has hok ha hl, (msize_isV h1').1] at e3
      unfold more1
      rw [e3]
      unfold msize
      rw [ChangeMaps.heap_setBlock_same hb, ChangeMaps.heap_setBlock_same (hw2.trans hb1)]
theorem wpList_lookN {ops : Array Oper} {rest : List Oper} {op : Oper} {a : Act} {w : World} {Q : Exit → Act → World → Prop} (hgd : op.guard = none) (x y : Operand) (ho : op.op = .lookup 41 x y false) (b n : Nat) (f : List Int → Option Int) (k : List Int) (hx : a.eval x = .map (some b)) (hy : a.eval y = .agg (vc k).toArray) (hm : MapN w b n f) (hk : VOk k)
    (h : wpList Try.prog ops Q rest (a.put op.dst (.int .i64 ((f k).getD 0))) w) : wpList Try.prog ops Q (op :: rest) a w := by
  refine wpList_val hgd _ ?_ h
  have hr := run_lookN hm hk
  unfold execOp
  simp only [ho, hx, hy, Sem.run_bind, hr, Result.andThen_ok, Sem.run_pure]

/-! Counts. -/
def cnts (ls : List (List Int)) : List Int → Option Int := fun v => if v ∈ ls then some (ls.count v : Int) else none
theorem cnts_nil : cnts [] = noneV := by funext v; simp [cnts, noneV]
theorem cnts_getD (ls : List (List Int)) (v : List Int) : (cnts ls v).getD 0 = (ls.count v : Int) := by
  unfold cnts
  by_cases h : v ∈ ls
  · rw [if_pos h]; rfl
  · rw [if_neg h, List.count_eq_zero_of_not_mem h]; rfl
theorem cnts_snoc (ls : List (List Int)) (v : List Int) : updV (cnts ls) v ((ls.count v : Int) + 1) = cnts (ls ++ [v]) := by
  funext x
  unfold updV cnts
  by_cases h : x = v
  · subst h; simp [List.count_append]
  · rw [if_neg h]
    have hb : (v == x) = false := beq_eq_false_iff_ne.2 (fun e => h e.symm)
    by_cases hm : x ∈ ls
    · simp [hm, h, List.count_append, List.count_cons, hb]
    · simp [hm, h]
def unl : List (List Int) → Nat := fun ls => ((List.range ls.length).filter (fun i => !(ls.take i).contains (ls.getD i vz))).length
theorem unl_nil : unl [] = 0 := rfl
theorem unl_snoc (ls : List (List Int)) (v : List Int) : unl (ls ++ [v]) = more1 (cnts ls) v (unl ls) := by
  unfold unl more1
  rw [List.length_append, List.length_singleton, List.range_succ, List.filter_append, List.length_append]
  have e1 : (List.range ls.length).filter (fun i => !((ls ++ [v]).take i).contains ((ls ++ [v]).getD i vz)) = (List.range ls.length).filter (fun i => !(ls.take i).contains (ls.getD i vz)) := by
    refine List.filter_congr fun i hi => ?_
    have hi := List.mem_range.1 hi
    rw [List.take_append_of_le_length (by omega), List.getD_eq_getElem?_getD, List.getElem?_append_left hi, ← List.getD_eq_getElem?_getD]
  rw [e1]
  have e3 : (ls ++ [v]).take ls.length = ls := by rw [List.take_append_of_le_length (Nat.le_refl _), List.take_length]
  unfold cnts
  by_cases h : v ∈ ls
  · simp [e3, h]
  · simp [e3, h]
end Go.Proofs.Ytihkncnhkljgpaa
