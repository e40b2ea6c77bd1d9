/- Maps from carts, or from items, to rows in memory: what they hold, look-ups, stores, ranges. A map of groups: for each key the call's own row of the atoms that have it; how a group grows; what lies there afterwards. The groups of a row of atoms: by the cart, by the item. Written by wip/tools/cgrp_r17.py. -/
import Derived.Test.YtnpbmihbmilkbaaGreatG25
import Derived.Maps.AppendAt
import Derived.Test.YtnpbmihbmilkbaaGreatG15
import Derived.Test.YtnpbmihbmilkbaaGreatG28
import Derived.Test.YtnpbmihbmilkbaaGreatG11
import Derived.Test.YtnpbmihbmilkbaaGreatG44
namespace Go.Proofs.YtnpbmihbmilkbaaGreat
open Go.RowKit Go.Maps
/-- A kind of keys of maps whose elements are rows of atoms. -/
structure MKd (K : Type) where
  tk : TypeId
  mt : TypeId
  kv : K → Value
  ok : K → Prop
  keyed : Keyed Tryz.prog tk
  lit : ∀ k, ok k → ∃ l, keyOf Tryz.prog tk (kv k) = some l
  inj : ∀ a b, ok a → ok b → kv a = kv b → a = b
  under : Tryz.prog.underlying mt = some (.map tk 23)
section
variable {K : Type} [Inhabited (MKd K)]
abbrev MK.tk (K : Type) [Inhabited (MKd K)] : TypeId := (default : MKd K).tk
abbrev MK.mt (K : Type) [Inhabited (MKd K)] : TypeId := (default : MKd K).mt
abbrev MK.kv (k : K) : Value := (default : MKd K).kv k
abbrev MK.ok (k : K) : Prop := (default : MKd K).ok k
theorem MK.keyed : Keyed Tryz.prog (MK.tk K) := (default : MKd K).keyed
theorem MK.lit (k : K) (h : MK.ok k) : ∃ l, keyOf Tryz.prog (MK.tk K) (MK.kv k) = some l := (default : MKd K).lit k h
theorem MK.inj (a b : K) (ha : MK.ok a) (hb : MK.ok b) (h : MK.kv a = MK.kv b) : a = b := (default : MKd K).inj a b ha hb h
theorem MK.under : Tryz.prog.underlying (MK.mt K) = some (.map (MK.tk K) 23) := (default : MKd K).under
end
theorem zeroRow (w : World) : (zeroValue 23).run Tryz.prog w = .ok (.slice none 0 0) w := by kernel_rfl
section
variable {K : Type} [Inhabited (MKd K)]
def noneG : K → Option Value := fun _ => none
def updG [DecidableEq K] (f : K → Option Value) (k : K) (v : Value) : K → Option Value := fun x => if x = k then some v else f x
def OkG (f : K → Option Value) : Prop := ∀ k v, f k = some v → MK.ok k
theorem okG_none : OkG (K := K) noneG := fun _ _ h => by cases h
theorem OkG.upd [DecidableEq K] {f : K → Option Value} (h : OkG f) {k : K} (hk : MK.ok k) (v : Value) : OkG (updG f k v) := fun x u e => by
  unfold updG at e
  split at e
  · rename_i e2; rw [e2]; exact hk
  · exact h x u e
theorem key_sameG {a b : K} (ha : MK.ok a) (hb : MK.ok b) {l : Lit} (h1 : keyOf Tryz.prog (MK.tk K) (MK.kv a) = some l) (h2 : keyOf Tryz.prog (MK.tk K) (MK.kv b) = some l) : a = b := MK.inj a b ha hb ((MK.keyed (K := K)).inj h1 h2)
/-! What a map holds. -/
structure RepG (D : DataW Value) (f : K → Option Value) : Prop where
  only : ∀ l, Maps.has D l = true → ∃ k v, f k = some v ∧ keyOf Tryz.prog (MK.tk K) (MK.kv k) = some l
  at_ : ∀ k v l, f k = some v → keyOf Tryz.prog (MK.tk K) (MK.kv k) = some l → Maps.has D l = true ∧ ∀ z, D.atKey l z = .held v
structure MapG (w : World) (b n : Nat) (f : K → Option Value) : Prop where
  ok : OkG f
  own : ∃ D, w.ownsMap Tryz.prog (MK.tk K) heldE b n D ∧ RepG D f
theorem RepG.no {D : DataW Value} {f : K → Option Value} (h : RepG D f) (hf : OkG f) {k : K} (hk : MK.ok k) {l : Lit} (hl : keyOf Tryz.prog (MK.tk K) (MK.kv k) = some l) (hn : f k = none) : Maps.has D l = false := by
  cases e : Maps.has D l with
  | false => rfl
  | true =>
    obtain ⟨k', v', h1, h2⟩ := h.only l e
    rw [key_sameG hk (hf _ _ h1) hl h2] at hn
    rw [hn] at h1; cases h1
theorem RepG.has {D : DataW Value} {f : K → Option Value} (h : RepG D f) (hf : OkG f) {k : K} (hk : MK.ok k) {l : Lit} (hl : keyOf Tryz.prog (MK.tk K) (MK.kv k) = some l) : Maps.has D l = (f k).isSome := by
  cases e : f k with
  | none => exact h.no hf hk hl e
  | some v => exact (h.at_ k v l e hl).1
theorem mapG_made (w : World) : MapG (w.alloc (.map #[] 0)) w.heap.size 0 (noneG (K := K)) :=
  ⟨okG_none, .map [], World.ownsMap_made w Tryz.prog (MK.tk K) heldE, fun _ h => (by cases h), fun _ _ _ h => (by cases h)⟩
theorem MapG.lt {w : World} {b n : Nat} {f : K → Option Value} (h : MapG w b n f) : b < w.heap.size := by obtain ⟨D, h1, _⟩ := h.own; exact h1.lt
theorem MapG.kept {w w' : World} {b n : Nat} {f : K → Option Value} {row : Option Nat} (h : MapG w b n f) (hg : w.grownBy w' row) (hne : some b ≠ row) : MapG w' b n f := by
  obtain ⟨D, h1, h2⟩ := h.own; exact ⟨h.ok, D, h1.kept hg hne, h2⟩
theorem MapG.below {w w' : World} {b n : Nat} {f : K → Option Value} (h : MapG w b n f) (hb : Below w.heap.size w w') : MapG w' b n f := h.kept (grown_of hb) (by simp)
theorem MapG.upto {w w' : World} {B b n : Nat} {f : K → Option Value} (h : MapG w b n f) (hb : Below B w w') (hB : b < B) : MapG w' b n f := by
  obtain ⟨D, ⟨es, clock, e, r⟩, h2⟩ := h.own
  exact ⟨h.ok, D, ⟨es, clock, (hb.block b hB).trans e, r⟩, h2⟩
theorem MapG.only {w w' : World} {g b n : Nat} {f : K → Option Value} (h : MapG w b n f) (ho : Only g w w') (hg : b ≠ g) : MapG w' b n f :=
  h.kept (row := some g) ⟨ho.os, ho.tape, ho.output, ho.size, fun k hk hn => ho.block k hk (fun e => hn (by rw [e]))⟩ (fun e => hg (Option.some.inj e))
theorem MapG.mono {w : World} {b n n' : Nat} {f : K → Option Value} (h : MapG w b n f) (hn : n ≤ n') : MapG w b n' f := by
  obtain ⟨D, h1, h2⟩ := h.own; exact ⟨h.ok, D, h1.mono hn, h2⟩
theorem run_lookupG {w : World} {b n : Nat} {f : K → Option Value} (h : MapG w b n f) {k : K} (hk : MK.ok k) : (Instr.lookup (MK.mt K) (.map (some b)) (MK.kv k) false).run Tryz.prog w = .ok ((f k).getD (.slice none 0 0)) w := by
  obtain ⟨D, h1, h2⟩ := h.own
  obtain ⟨l, hl⟩ := MK.lit k hk
  obtain ⟨v, ps, hr, hv⟩ := h1.lookup (MK.keyed (K := K)) MK.under (zeroRow w) (zd := .held (Value.slice none 0 0)) (zp := []) rfl hl
  rw [hr]
  unfold heldE at hv
  simp only [Option.some.injEq, Prod.mk.injEq] at hv
  cases e : f k with
  | none =>
    rw [Maps.atKey_of_not_has (h2.no h.ok hk hl e)] at hv
    have hv := DataW.held.inj hv.1
    rw [hv]; simp only [Option.getD_none]
  | some u =>
    rw [(h2.at_ k u l e hl).2] at hv
    have hv := DataW.held.inj hv.1
    rw [hv]; simp only [Option.getD_some]
theorem RepG.upd [DecidableEq K] {D : DataW Value} {f : K → Option Value} (h : RepG D f) (hf : OkG f) (hm : IsMap D) {k : K} (hk : MK.ok k) (v : Value) {l : Lit} (hl : keyOf Tryz.prog (MK.tk K) (MK.kv k) = some l) : RepG (D.put l (.held v)) (updG f k v) := by
  constructor
  · intro l' h'
    by_cases e : l' = l
    · subst e; exact ⟨k, v, by simp [updG], hl⟩
    · rw [Maps.has_put_other e] at h'
      obtain ⟨k', v', h1, h2⟩ := h.only l' h'
      refine ⟨k', v', ?_, h2⟩
      unfold updG
      rw [if_neg (fun e2 => by rw [e2, hl] at h2; exact e (Option.some.inj h2).symm)]
      exact h1
  · intro k' v' l' h1 h2
    unfold updG at h1
    split at h1
    · rename_i e2
      cases h1
      rw [e2, hl] at h2
      obtain rfl := Option.some.inj h2
      exact ⟨Maps.has_put_same hm ((MK.keyed (K := K)).key hl) _, fun z => Maps.atKey_put_same hm ((MK.keyed (K := K)).key hl) _ z⟩
    · rename_i e2
      have e : l' ≠ l := fun e => e2 (key_sameG (hf _ _ h1) hk h2 (e ▸ hl))
      rw [Maps.has_put_other e]
      obtain ⟨h3, h4⟩ := h.at_ k' v' l' h1 h2
      exact ⟨h3, fun z => by rw [Maps.atKey_put_other e]; exact h4 z⟩
theorem run_updateG [DecidableEq K] {w : World} {b n : Nat} {f : K → Option Value} (h : MapG w b n f) (hn : n ≤ 5000) {k : K} (hk : MK.ok k) (v : Value) (hf : OkG (updG f k v)) :
    ∃ w', (Instr.mapUpdate (MK.mt K) (.map (some b)) (MK.kv k) v).run Tryz.prog w = .ok () w' ∧ MapG w' b (n + 1) (updG f k v) ∧ w.grownBy w' (some b) := by
  obtain ⟨D, h1, h2⟩ := h.own
  obtain ⟨l, hl⟩ := MK.lit k hk
  obtain ⟨w', hr, h3, h4⟩ := h1.update (MK.keyed (K := K)) MK.under (by unfold maxLen; omega) (val := v) (d := .held v) (ps := []) hl rfl
  exact ⟨w', hr, ⟨hf, _, h3, h2.upd h.ok h1.isMap hk v hl⟩, h4⟩
/-! Ranges. -/
/-- A range over the map f is under way; g: what is still to come. -/
structure RangeG (w : World) (b r n : Nat) (f g : K → Option Value) (cnt : Nat) : Prop where
  ok : OkG f
  sub : ∀ k v, g k = some v → f k = some v
  own : ∃ D left, w.ranges Tryz.prog (MK.tk K) heldE b r n D left cnt ∧ RepG D f ∧ (∀ k l, MK.ok k → keyOf Tryz.prog (MK.tk K) (MK.kv k) = some l → (left l = true ↔ g k ≠ none)) ∧ ∀ l, left l = true → Maps.has D l = true
def delG [DecidableEq K] (g : K → Option Value) (k : K) : K → Option Value := fun x => if x = k then none else g x
theorem RangeG.left_eq {w : World} {b r n : Nat} {f g : K → Option Value} {cnt : Nat} (h : RangeG w b r n f g cnt) : w.rangeLeft b r = cnt := by obtain ⟨D, left, h1, _⟩ := h.own; exact h1.left_eq
theorem RangeG.lt {w : World} {b r n : Nat} {f g : K → Option Value} {cnt : Nat} (h : RangeG w b r n f g cnt) : r < w.heap.size := by obtain ⟨D, left, h1, _⟩ := h.own; exact h1.lt
theorem RangeG.map {w : World} {b r n : Nat} {f g : K → Option Value} {cnt : Nat} (h : RangeG w b r n f g cnt) : MapG w b n f := by obtain ⟨D, left, h1, h2, _⟩ := h.own; exact ⟨h.ok, D, h1.owns, h2⟩
theorem RangeG.kept {w w' : World} {b r n : Nat} {f g : K → Option Value} {cnt : Nat} {row : Option Nat} (h : RangeG w b r n f g cnt) (hg : w.grownBy w' row) (h1 : some b ≠ row) (h2 : some r ≠ row) : RangeG w' b r n f g cnt := by
  obtain ⟨D, left, a1, a2⟩ := h.own; exact ⟨h.ok, h.sub, D, left, a1.kept hg h1 h2, a2⟩
theorem RangeG.below {w w' : World} {b r n : Nat} {f g : K → Option Value} {cnt : Nat} (h : RangeG w b r n f g cnt) (hb : Below w.heap.size w w') : RangeG w' b r n f g cnt := h.kept (grown_of hb) (by simp) (by simp)
theorem RangeG.upto {w w' : World} {B b r n : Nat} {f g : K → Option Value} {cnt : Nat} (h : RangeG w b r n f g cnt) (hb : Below B w w') (hB : b < B) (hr : r < B) : RangeG w' b r n f g cnt := by
  obtain ⟨D, left, ⟨es, clock, since, seen, c0, e1, e2, e3, e4, e5, e6⟩, h2⟩ := h.own
  exact ⟨h.ok, h.sub, D, left, ⟨es, clock, since, seen, c0, (hb.block b hB).trans e1, e2, e3, e4, (hb.block r hr).trans e5, e6⟩, h2⟩
theorem msize_isG {w : World} {b n : Nat} {D : DataW Value} (h : w.ownsMap Tryz.prog (MK.tk K) heldE b n D) : Maps.size D = msize w b ∧ msize w b ≤ n := by
  obtain ⟨es, clock, e1, _, e3, rfl⟩ := h
  unfold msize
  rw [e1]
  exact ⟨by simp [Maps.size, length_sorted], e3⟩
theorem run_lenG {w : World} {b n : Nat} {f : K → Option Value} (h : MapG w b n f) (ty : TypeId) : (Builtin.len_ #[MK.mt K] ty #[.map (some b)]).run Tryz.prog w = .ok (.int .i64 (msize w b : Nat)) w := by
  obtain ⟨D, h1, h2⟩ := h.own
  rw [h1.len MK.under ty, (msize_isG h1).1]
theorem MapG.msize_le {w : World} {b n : Nat} {f : K → Option Value} (h : MapG w b n f) : msize w b ≤ n := by
  obtain ⟨D, h1, h2⟩ := h.own
  exact (msize_isG h1).2
theorem run_rangeG {w : World} {b n : Nat} {f : K → Option Value} (h : MapG w b n f) : ∃ w' cnt, (Instr.range (MK.mt K) (.map (some b))).run Tryz.prog w = .ok (.pointer (some ⟨w.heap.size, 0, none⟩)) w' ∧ RangeG w' b w.heap.size n f f cnt ∧ Below w.heap.size w w' ∧ cnt = msize w b := by
  obtain ⟨D, h1, h2⟩ := h.own
  obtain ⟨w', hr, h3, h4, _⟩ := h1.range (MK.keyed (K := K)) MK.under
  refine ⟨w', _, hr, ⟨h.ok, fun _ _ e => e, D, _, h3, h2, fun k l hk hl => ?_, fun _ e => e⟩, ⟨h4.os, h4.tape, h4.output, h4.size, fun k hk => h4.block k hk (by simp)⟩, (msize_isG h1).1⟩
  rw [h2.has h.ok hk hl]
  cases f k <;> simp
theorem run_nextG [DecidableEq K] {w : World} {b r n : Nat} {f g : K → Option Value} {cnt : Nat} (h : RangeG w b r n f g cnt) (ty : TypeId) :
    ((∀ k, g k = none) ∧ (Instr.next (.pointer (some ⟨r, 0, none⟩)) false ty).run Tryz.prog w = .ok (.tuple #[.bool false]) w) ∨
    ∃ k v w' cnt', g k = some v ∧ (Instr.next (.pointer (some ⟨r, 0, none⟩)) false ty).run Tryz.prog w = .ok (.tuple #[.bool true, MK.kv k, v]) w' ∧ RangeG w' b r n f (delG g k) cnt' ∧ cnt' < cnt ∧ w.grownBy w' (some r) ∧ w'.heap.size = w.heap.size ∧ (Instr.entry (.pointer (some ⟨r, 0, none⟩))).run Tryz.prog w' = .ok (.tuple #[MK.kv k, v]) w' := by
  obtain ⟨D, left, h1, h2, h3, h4⟩ := h.own
  rcases h1.next (MK.keyed (K := K)) ty with ⟨_, hl, hrun⟩ | ⟨key, v, l, y, w', cnt', hkey, hlk, hv, hat, hrun, hrg, hlt, hgr, hsz, hen⟩
  · refine .inl ⟨fun k => ?_, hrun⟩
    cases e : g k with
    | none => rfl
    | some u =>
      have hk := h.ok _ _ (h.sub k u e)
      obtain ⟨l, hl'⟩ := MK.lit k hk
      have := (h3 k l hk hl').2 (by rw [e]; simp)
      rw [hl] at this; cases this
  · right
    obtain ⟨k, u, e1, e2⟩ := h2.only l (h4 l hlk)
    have hk := h.ok _ _ e1
    obtain rfl := (MK.keyed (K := K)).inj hkey e2
    have e3 := (h2.at_ k u l e1 e2).2 .nil
    rw [hat] at e3
    unfold heldE at hv
    have e4 : y.1 = .held v := by rw [← Option.some.inj hv]
    rw [e4] at e3
    have e3 := DataW.held.inj e3
    subst e3
    have hg : g k = some v := by
      have := (h3 k l hk e2).1 hlk
      cases e : g k with
      | none => exact absurd e this
      | some z => rw [h.sub k z e] at e1; exact e1
    refine ⟨k, v, w', cnt', hg, hrun, ⟨h.ok, fun x z e => ?_, D, _, hrg, h2, fun x l' hx hl' => ?_, fun l' e => ?_⟩, hlt, hgr, hsz, hen⟩
    · unfold delG at e
      split at e
      · cases e
      · exact h.sub x z e
    · have hs : l'.sameKey l = decide (x = k) := by
        by_cases e : x = k
        · subst e
          rw [hl'] at e2
          obtain rfl := Option.some.inj e2
          rw [WideAt.sameKey_self ((MK.keyed (K := K)).key hl')]; simp
        · rw [Maps.sameKey_ne (fun e' => e (key_sameG hx hk hl' (by rw [e']; exact e2)))]; simp [e]
      show (left l' && !l'.sameKey l) = true ↔ _
      rw [hs]
      unfold delG
      by_cases e : x = k
      · simp [e]
      · simp only [e, decide_false, Bool.not_false, Bool.and_true, if_false]
        exact h3 x l' hx hl'
    · have e' : (left l' && !l'.sameKey l) = true := e
      simp only [Bool.and_eq_true] at e'
      exact h4 l' e'.1
theorem wpList_rangeG {ops : Array Oper} {rest : List Oper} {op : Oper} {a : Act} {w : World} {Q : Exit → Act → World → Prop} (hgd : op.guard = none) (m : Operand) (ho : op.op = .range (MK.mt K) m) (b n : Nat) (f : K → Option Value) (hm : a.eval m = .map (some b)) (h : MapG w b n f)
    (hk : ∀ r w' cnt, Hid (r = w.heap.size) → Hid (RangeG w' b r n f f cnt) → Hid (cnt = msize w b) → Hid (Below w.heap.size w w') → wpList Tryz.prog ops Q rest (a.put op.dst (.pointer (some ⟨r, 0, none⟩))) w') : wpList Tryz.prog ops Q (op :: rest) a w := by
  refine wpList_plain hgd fun K hK => ?_
  obtain ⟨w', cnt, hr, h1, h2, h3⟩ := run_rangeG h
  unfold Oper.wp
  simp [execOp, ho, hm, hr, Result.andThen]
  exact hK _ _ (hk _ w' cnt (Lib.hid rfl) (Lib.hid h1) (Lib.hid h3) (Lib.hid h2))
theorem wpList_nextG [DecidableEq K] {ops : Array Oper} {rest : List Oper} {op : Oper} {a : Act} {w : World} {Q : Exit → Act → World → Prop} (hgd : op.guard = none) (it : Operand) (ho : op.op = .next it false) (b r n : Nat) (f g : K → Option Value) (cnt : Nat) (hit : a.eval it = .pointer (some ⟨r, 0, none⟩)) (h : RangeG w b r n f g cnt)
    (hDone : Hid (∀ k, g k = none) → wpList Tryz.prog ops Q rest (a.put op.dst (.tuple #[.bool false])) w)
    (hMore : ∀ k v w' cnt', Hid (g k = some v) → Hid (RangeG w' b r n f (delG g k) cnt') → Hid (cnt' < cnt) → Hid (Only r w w') → Hid (w'.heap.size = w.heap.size) → (Instr.entry (.pointer (some ⟨r, 0, none⟩))).run Tryz.prog w' = .ok (.tuple #[MK.kv k, v]) w' →
      wpList Tryz.prog ops Q rest (a.put op.dst (.tuple #[.bool true, MK.kv k, v])) w') : wpList Tryz.prog ops Q (op :: rest) a w := by
  refine wpList_plain hgd fun K hK => ?_
  unfold Oper.wp
  rcases run_nextG h op.type with ⟨h0, hr⟩ | ⟨k, v, w', cnt', hg, hr, h1, h2, h3, h4, h5⟩
  · simp [execOp, ho, hit, hr, Result.andThen]
    exact hK _ _ (hDone (Lib.hid h0))
  · simp [execOp, ho, hit, hr, Result.andThen]
    exact hK _ _ (hMore k v w' cnt' (Lib.hid hg) (Lib.hid h1) (Lib.hid h2) (Lib.hid ⟨h3.os, h3.tape, h3.output, h3.size, fun j hj hn => h3.block j hj (fun e => hn (Option.some.inj e))⟩) (Lib.hid h4) h5)
end
end Go.Proofs.YtnpbmihbmilkbaaGreat
namespace Go.Proofs.YtnpbmihbmilkbaaGreat
open Go.RowKit Go.Maps
section
variable {K : Type} [Inhabited (MKd K)]
theorem row_not_map {w : World} {B b n : Nat} {v : Value} {l : List Am} {f : K → Option Value} (h : OwnR w B v l) (hm : MapG w b n f) : v.ownBlock = none ∨ v.ownBlock ≠ some b := by
  obtain ⟨D, ⟨es, c, e, _⟩, _⟩ := hm.own
  rcases h.row.2 with ⟨rfl, _⟩ | ⟨g, cap, cur, rfl, _, hg, _⟩
  · exact .inl rfl
  · right
    intro e2
    have : g = b := by simpa [Value.ownBlock] using e2
    subst this
    rw [hg] at e; cases e
end
section
variable {K : Type} [DecidableEq K]
def onK (ky : Am → K) (k : K) (s : List Am) : List Am := s.filter fun x => decide (ky x = k)
theorem onK_snoc (ky : Am → K) (k : K) (s : List Am) (x : Am) : onK ky k (s ++ [x]) = if ky x = k then onK ky k s ++ [x] else onK ky k s := by
  unfold onK
  rw [List.filter_append]
  by_cases h : ky x = k
  · rw [if_pos h, List.filter_cons_of_pos (by simp [h])]; rfl
  · rw [if_neg h, List.filter_cons_of_neg (by simp [h])]; simp
theorem onK_len (ky : Am → K) (k : K) (s : List Am) : (onK ky k s).length ≤ s.length := List.length_filter_le ..
theorem onK_none {ky : Am → K} {k : K} {s : List Am} (h : ∀ x ∈ s, ky x ≠ k) : onK ky k s = [] := List.filter_eq_nil_iff.2 fun x hx => by simpa using h x hx
/-- What the map f and its rows say of the atoms s, for the keys of which q holds. -/
structure GrpF (w : World) (B : Nat) (f : K → Option Value) (ky : Am → K) (s : List Am) (q : K → Prop) : Prop where
  row : ∀ k v, q k → f k = some v → OwnR w B v (onK ky k s) ∧ ∃ x ∈ s, ky x = k
  no : ∀ k, q k → f k = none → ∀ x ∈ s, ky x ≠ k
  off : ∀ k k' v v' g, q k → q k' → f k = some v → f k' = some v' → v.ownBlock = some g → v'.ownBlock = some g → k = k'
theorem GrpF.kept {w w' : World} {B : Nat} {f : K → Option Value} {ky : Am → K} {s : List Am} {q q' : K → Prop} {row : Option Nat} (h : GrpF w B f ky s q) (hq : ∀ k, q' k → q k) (hg : w.grownBy w' row)
    (hr : ∀ k v, q' k → f k = some v → v.ownBlock = none ∨ v.ownBlock ≠ row) : GrpF w' B f ky s q' :=
  ⟨fun k v hk e => ⟨⟨(h.row k v (hq k hk) e).1.ok, (h.row k v (hq k hk) e).1.row.kept hg (hr k v hk e)⟩, (h.row k v (hq k hk) e).2⟩, fun k hk => h.no k (hq k hk), fun k k' v v' g h1 h2 => h.off k k' v v' g (hq k h1) (hq k' h2)⟩
theorem GrpF.below {w w' : World} {B : Nat} {f : K → Option Value} {ky : Am → K} {s : List Am} {q : K → Prop} (h : GrpF w B f ky s q) (hb : Below w.heap.size w w') : GrpF w' B f ky s q :=
  h.kept (fun _ h => h) (grown_of hb) fun k v hk e => by
    cases e2 : v.ownBlock with
    | none => exact .inl rfl
    | some g => exact .inr (by simp)
end
section
variable {K : Type} [DecidableEq K] [Inhabited (MKd K)]
/-- The map in block b holds, for each key that an atom of s has, a row of the call's own with the atoms of s that have it. -/
structure Grps (w : World) (B b n : Nat) (ky : Am → K) (s : List Am) : Prop where
  ex : ∃ f, MapG w b n f ∧ GrpF w B f ky s fun _ => True
theorem Grps.made (w : World) (B : Nat) (ky : Am → K) (_hB : B ≤ w.heap.size) : Grps (w.alloc (.map #[] 0)) B w.heap.size 0 ky [] :=
  ⟨noneG, mapG_made w, fun _ _ _ h => (by cases h), fun _ _ _ _ h => (by cases h), fun _ _ _ _ _ _ _ h => (by cases h)⟩
theorem Grps.lt {w : World} {B b n : Nat} {ky : Am → K} {s : List Am} (h : Grps w B b n ky s) : b < w.heap.size := by obtain ⟨f, h1, _⟩ := h.ex; exact h1.lt
theorem Grps.below {w w' : World} {B b n : Nat} {ky : Am → K} {s : List Am} (h : Grps w B b n ky s) (hb : Below w.heap.size w w') : Grps w' B b n ky s := by
  obtain ⟨f, h1, h2⟩ := h.ex
  exact ⟨f, h1.below hb, h2.below hb⟩
theorem Grps.mono {w : World} {B b n n' : Nat} {ky : Am → K} {s : List Am} (h : Grps w B b n ky s) (hn : n ≤ n') : Grps w B b n' ky s := by
  obtain ⟨f, h1, h2⟩ := h.ex
  exact ⟨f, h1.mono hn, h2⟩
/-- What the look-up at k handed over: the row of k, and all that is needed to store its successor. -/
structure GotG (w : World) (B b n : Nat) (ky : Am → K) (s : List Am) (k : K) (v : Value) : Prop where
  own : OwnR w B v (onK ky k s)
  ex : ∃ f, MapG w b n f ∧ GrpF w B f ky s (fun x => x ≠ k) ∧ ∀ k' u, k' ≠ k → f k' = some u → v.ownBlock = none ∨ u.ownBlock = none ∨ u.ownBlock ≠ v.ownBlock
theorem GotG.below {w w' : World} {B b n : Nat} {ky : Am → K} {s : List Am} {k : K} {v : Value} (h : GotG w B b n ky s k v) (hb : Below w.heap.size w w') : GotG w' B b n ky s k v := by
  obtain ⟨f, h1, h2, h3⟩ := h.ex
  exact ⟨h.own.below hb, f, h1.below hb, h2.below hb, h3⟩
/-- .. and all that is needed to store v at k. -/
structure PutG (w : World) (B b n : Nat) (ky : Am → K) (s : List Am) (k : K) (v : Value) (l : List Am) : Prop where
  own : OwnR w B v l
  ex : ∃ f, MapG w b n f ∧ GrpF w B f ky s (fun x => x ≠ k) ∧ ∀ k' u, k' ≠ k → f k' = some u → v.ownBlock = none ∨ u.ownBlock = none ∨ u.ownBlock ≠ v.ownBlock
theorem PutG.below {w w' : World} {B b n : Nat} {ky : Am → K} {s : List Am} {k : K} {v : Value} {l : List Am} (h : PutG w B b n ky s k v l) (hb : Below w.heap.size w w') : PutG w' B b n ky s k v l := by
  obtain ⟨f, h1, h2, h3⟩ := h.ex
  exact ⟨h.own.below hb, f, h1.below hb, h2.below hb, h3⟩
theorem Grps.look {w : World} {B b n : Nat} {ky : Am → K} {s : List Am} (h : Grps w B b n ky s) {k : K} (hk : MK.ok k) : ∃ v, (Instr.lookup (MK.mt K) (.map (some b)) (MK.kv k) false).run Tryz.prog w = .ok v w ∧ GotG w B b n ky s k v := by
  obtain ⟨f, h1, h2⟩ := h.ex
  refine ⟨_, run_lookupG h1 hk, ?_, f, h1, h2.kept (fun _ _ => trivial) (grown_of (Below.refl _ _)) (fun k v hk e => ?_), ?_⟩
  · cases e : f k with
    | none => rw [onK_none (h2.no k trivial e)]; exact ownR_nil w B
    | some v => exact (h2.row k v trivial e).1
  · cases e2 : v.ownBlock with
    | none => exact .inl rfl
    | some g => exact .inr (by simp)
  · intro k' u hk' e
    cases e1 : f k with
    | none => exact .inl rfl
    | some v =>
      cases e2 : u.ownBlock with
      | none => exact .inr (.inl rfl)
      | some g => exact .inr (.inr fun e3 => hk' (h2.off k' k u v g trivial trivial e e1 e2 e3.symm))
theorem GotG.app {w w' : World} {B b n : Nat} {ky : Am → K} {s : List Am} {k : K} {v v' : Value} {l : List Am} (h : GotG w B b n ky s k v) (ho : OwnR w' B v' l) (hg : w.grownBy w' v.ownBlock) (hv : v'.ownBlock = v.ownBlock ∨ v'.ownBlock = some w.heap.size) : PutG w' B b n ky s k v' l := by
  obtain ⟨f, h1, h2, h3⟩ := h.ex
  have hmv : some b ≠ v.ownBlock := fun e => by
    rcases row_not_map h.own h1 with e2 | e2
    · rw [e2] at e; cases e
    · exact e2 e.symm
  refine ⟨ho, f, h1.kept hg hmv, h2.kept (fun _ h => h) hg fun k' u hk' e => ?_, fun k' u hk' e => ?_⟩
  · cases e2 : u.ownBlock with
    | none => exact .inl rfl
    | some g =>
      right
      rcases h3 k' u hk' e with e3 | e3 | e3
      · rw [e3]; simp
      · rw [e2] at e3; cases e3
      · rw [← e2]; exact e3
  · cases e2 : u.ownBlock with
    | none => exact .inr (.inl rfl)
    | some g =>
      have hlt := ((h2.row k' u hk' e).1.row.lt g e2).2
      rcases hv with e3 | e3
      · rcases h3 k' u hk' e with e4 | e4 | e4
        · exact .inl (e3.trans e4)
        · rw [e2] at e4; cases e4
        · exact .inr (.inr (by rw [e3, ← e2]; exact e4))
      · exact .inr (.inr (by rw [e3]; intro e5; have := Option.some.inj e5; omega))
theorem PutG.put {w : World} {B b n : Nat} {ky : Am → K} {s : List Am} {k : K} {v : Value} {x : Am} (h : PutG w B b n ky s k v (onK ky k s ++ [x])) (hx : ky x = k) (hk : MK.ok k) (hn : n ≤ 5000) :
    ∃ w', (Instr.mapUpdate (MK.mt K) (.map (some b)) (MK.kv k) v).run Tryz.prog w = .ok () w' ∧ Grps w' B b (n + 1) ky (s ++ [x]) ∧ w.grownBy w' (some b) := by
  obtain ⟨f, h1, h2, h3⟩ := h.ex
  obtain ⟨w', hr, h4, h5⟩ := run_updateG h1 hn hk v (h1.ok.upd hk v)
  have hoth : ∀ k', k' ≠ k → onK ky k' (s ++ [x]) = onK ky k' s := fun k' hk' => by rw [onK_snoc, if_neg (fun e => hk' (by rw [← e, hx]))]
  have hupd : ∀ k' u, k' ≠ k → updG f k v k' = some u → f k' = some u := fun k' u hk' e => by unfold updG at e; rwa [if_neg hk'] at e
  have hat : ∀ u, updG f k v k = some u → u = v := fun u e => by unfold updG at e; rw [if_pos rfl] at e; exact (Option.some.inj e).symm
  have hown : OwnR w' B v (onK ky k (s ++ [x])) := by
    rw [onK_snoc, if_pos hx]
    exact ⟨h.own.ok, h.own.row.kept h5 (row_not_map h.own h1)⟩
  refine ⟨w', hr, ⟨_, h4, fun k' u _ e => ?_, fun k' _ e y hy => ?_, fun k' k'' u u' g _ _ e e' g1 g2 => ?_⟩, h5⟩
  · by_cases ek : k' = k
    · subst ek
      rw [hat u e]
      exact ⟨hown, x, by simp, hx⟩
    · obtain ⟨o, y, hy, ey⟩ := h2.row k' u ek (hupd k' u ek e)
      rw [hoth k' ek]
      exact ⟨⟨o.ok, o.row.kept h5 (row_not_map o h1)⟩, y, by simp [hy], ey⟩
  · by_cases ek : k' = k
    · subst ek
      simp [updG] at e
    · have e2 : f k' = none := by unfold updG at e; rwa [if_neg ek] at e
      rcases List.mem_append.1 hy with hy | hy
      · exact h2.no k' ek e2 y hy
      · rw [List.mem_singleton.1 hy, hx]; exact fun e => ek e.symm
  · by_cases ek : k' = k
    · subst ek
      rw [hat u e] at g1
      by_cases ek2 : k'' = k'
      · exact ek2.symm
      · exfalso
        rcases h3 k'' u' ek2 (hupd k'' u' ek2 e') with e5 | e5 | e5
        · rw [g1] at e5; cases e5
        · rw [g2] at e5; cases e5
        · exact e5 (g2.trans g1.symm)
    · by_cases ek2 : k'' = k
      · subst ek2
        rw [hat u' e'] at g2
        exfalso
        rcases h3 k' u ek (hupd k' u ek e) with e5 | e5 | e5
        · rw [g2] at e5; cases e5
        · rw [g1] at e5; cases e5
        · exact e5 (g1.trans g2.symm)
      · exact h2.off k' k'' u u' g ek ek2 (hupd k' u ek e) (hupd k'' u' ek2 e') g1 g2
/-- An atom is appended, and where the new row lies. -/
theorem run_appM (w : World) (B : Nat) (v : Value) (l : List Am) (A : Am) (g : Nat) (ty : TypeId) (hown : OwnR w B v l) (hA : A.Ok) (hg : Blk w g 50 A.cells) (hn : l.length ≤ 5000) (hB : B ≤ w.heap.size) :
    ∃ D cap w', (Builtin.append_ #[23, 23] ty #[v, .slice (some ⟨g, 0, none⟩) 1 1]).run Tryz.prog w = .ok (.slice D (l.length + 1) cap) w' ∧ OwnR w' B (.slice D (l.length + 1) cap) (l ++ [A]) ∧ w.grownBy w' v.ownBlock ∧
      (Value.ownBlock (.slice D (l.length + 1) cap) = v.ownBlock ∨ Value.ownBlock (.slice D (l.length + 1) cap) = some w.heap.size) := by
  obtain ⟨i0, hi, hz0, hz1, hz2⟩ := info_parts info46z
  obtain ⟨v', w', hr, h1, h2, _, h3⟩ := run_append_own_at (P := Tryz.prog) w B 23 ty 50 i0 (.agg azero.cells.toArray) 21 40 Tryz.underlying23 hi hz0 hz1 hz2 (by rfl) (by decide) v _ _ hown.row ⟨g, 0, none⟩ 1 1 A.cells (by rw [acells_len hA])
    (fun j u hj => by
      have h := hg.range j u hj
      rw [Nat.zero_add] at h
      unfold Addr.add
      split
      · rename_i h0; rw [h0] at h; exact h
      · simpa using h) (all_list (one32 A)) (by unfold maxLen; omega) (by omega) hB
  have own : OwnR w' B v' (l ++ [A]) := ⟨hown.ok.app (okR_nil.cons hA), by rw [acs_app, acs_one, List.length_append, List.length_singleton]; exact h1⟩
  obtain ⟨D, cap, e⟩ := own.shape
  rw [List.length_append, List.length_singleton] at e
  subst e
  exact ⟨D, cap, w', hr, own, h2, h3⟩
/-- What a look-up shows later: the row of a key, as it lies there. -/
theorem Grps.at_ {w : World} {B b n : Nat} {ky : Am → K} {s : List Am} (h : Grps w B b n ky s) {k : K} (hk : MK.ok k) : ∃ v, (Instr.lookup (MK.mt K) (.map (some b)) (MK.kv k) false).run Tryz.prog w = .ok v w ∧ RowAt w v (onK ky k s) := by
  obtain ⟨v, h1, h2⟩ := h.look hk
  exact ⟨v, h1, h2.own.rowAt⟩
end
section
variable {K : Type} [DecidableEq K] [Inhabited (MKd K)] {ops : Array Oper} {rest : List Oper} {op : Oper} {a : Act} {w : World} {Q : Exit → Act → World → Prop}
theorem wpList_makeG (ky : Am → K) (hgd : op.guard = none) (ho : op.op = .makeMap (MK.mt K) none) (B : Nat) (hB : B ≤ w.heap.size)
    (h : ∀ b w', Hid (b = w.heap.size) → Hid (Grps w' B b 0 ky []) → Hid (Below w.heap.size w w') → wpList Tryz.prog ops Q rest (a.put op.dst (.map (some b))) w') : wpList Tryz.prog ops Q (op :: rest) a w := by
  refine wpList_plain hgd fun K' hK => ?_
  have H := h w.heap.size (w.alloc (.map #[] 0)) (Lib.hid rfl) (Lib.hid (Grps.made w B ky hB)) (Lib.hid (new_below w _))
  unfold Oper.wp execOp
  simp [ho, Instr.makeMap, go_sem]
  exact hK _ _ H
end
end Go.Proofs.YtnpbmihbmilkbaaGreat
namespace Go.Proofs.YtnpbmihbmilkbaaGreat
open Go.RowKit Go.Shelf Go.Maps
attribute [local go_sem] Oper.semAt_some
section
variable {K : Type} [DecidableEq K] [Inhabited (MKd K)]
theorem ready_appM {ops : Array Oper} {Q : Exit → Act → World → Prop} {md : Region.Mode} {S : World → Prop} {fuel : Nat} {listed : Array Bool} {a : Act} {w : World} {i : Nat} {o : Oper} {rs : List Nat} (ho : ops[i]? = some o) (hg : o.guard = none) (p x : Operand) (hop : o.op = .call { callee := .builtin .append, args := #[p, x], argTypes := #[23, 23] })
    (B b n : Nat) (ky : Am → K) (s : List Am) (k : K) (v : Value) (A : Am) (g : Nat) (hs' : a.eval p = v) (hx : a.eval x = .slice (some ⟨g, 0, none⟩) 1 1) (hgot : GotG w B b n ky s k v) (hA : A.Ok) (hgb : Blk w g 50 A.cells) (hn : s.length ≤ 5000) (hB : B ≤ w.heap.size)
    (h : ∀ u w', PutG w' B b n ky s k u (onK ky k s ++ [A]) → Below B w w' → w.grownBy w' v.ownBlock → S w' ∧ wpAnyH Tryz.prog md ops Q S fuel (listed.setIfInBounds i true) (a.put o.dst u) w')
    (hs : AllReadyH Tryz.prog md ops Q S fuel listed a w rs) : AllReadyH Tryz.prog md ops Q S fuel listed a w (i :: rs) := by
  refine AllReadyH.cons ho (fun K hK => ?_) hs
  have hw : Region.wanted o (yielded ops a.tmps) = true := by simp [Region.wanted, hg]
  rw [if_pos hw]
  obtain ⟨D, cap, w', hr, h1, h2, h3⟩ := run_appM w B v _ A g o.type hgot.own hA hgb (Nat.le_trans (onK_len ky k s) hn) hB
  have H := h _ w' (hgot.app h1 h2 h3) ((Below.refl B w).grown h2 hB (fun k hk => (hgot.own.row.lt k hk).1)) h2
  unfold Oper.wp execOp
  simp only [hop, resolve, invoke, builtin, Sem.run_bind, Sem.run_pure, Result.andThen_ok, List.map_toArray, List.map_cons, List.map_nil, hs', hx, hr]
  exact hK.out _ _ H.1 (fun _ => H.2)
theorem ready_putG {ops : Array Oper} {Q : Exit → Act → World → Prop} {md : Region.Mode} {S : World → Prop} {fuel : Nat} {listed : Array Bool} {a : Act} {w : World} {i : Nat} {o : Oper} {rs : List Nat} (ho : ops[i]? = some o) (hg : o.guard = none) (x y z : Operand) (hop : o.op = .mapUpdate (MK.mt K) x y z) (B b n : Nat) (ky : Am → K) (s : List Am) (k : K) (v : Value) (A : Am) (hx : a.eval x = .map (some b)) (hy : a.eval y = MK.kv k) (hz : a.eval z = v) (hp : PutG w B b n ky s k v (onK ky k s ++ [A])) (hA : ky A = k) (hk : MK.ok k) (hn : n ≤ 5000)
    (h : ∀ w', Grps w' B b (n + 1) ky (s ++ [A]) → Only b w w' → S w' ∧ wpAnyH Tryz.prog md ops Q S fuel (listed.setIfInBounds i true) (a.put o.dst undef) w')
    (hs : AllReadyH Tryz.prog md ops Q S fuel listed a w rs) : AllReadyH Tryz.prog md ops Q S fuel listed a w (i :: rs) := by
  refine AllReadyH.cons ho (fun K hK => ?_) hs
  have hw : Region.wanted o (yielded ops a.tmps) = true := by simp [Region.wanted, hg]
  rw [if_pos hw]
  obtain ⟨w', hr, h1, h2⟩ := hp.put hA hk hn
  have H := h w' h1 (only_of_grown h2)
  unfold Oper.wp execOp
  simp only [hop, hx, hy, hz, Sem.run_bind, hr, Result.andThen_ok, Sem.run_pure]
  exact hK.out _ _ H.1 (fun _ => H.2)
theorem Grps.only {w w' : World} {B b n g : Nat} {ky : Am → K} {s : List Am} (h : Grps w B b n ky s) (ho : Only g w w') (hb : g ≠ b) (hg : g < B) : Grps w' B b n ky s := by
  obtain ⟨f, h1, h2⟩ := h.ex
  have hgr : w.grownBy w' (some g) := ⟨ho.os, ho.tape, ho.output, ho.size, fun k hk hn => ho.block k hk fun e => hn (by rw [e])⟩
  exact ⟨f, h1.only ho (fun e => hb e.symm), h2.kept (fun _ h => h) hgr fun k v hk e => by
    cases e2 : v.ownBlock with
    | none => exact .inl rfl
    | some i => right; intro e3; have := ((h2.row k v hk e).1.row.lt i e2).1; have := Option.some.inj e3; omega⟩
theorem Grps.base {w : World} {B C b n : Nat} {ky : Am → K} (h : Grps w B b n ky []) : Grps w C b n ky [] := by
  obtain ⟨f, h1, h2⟩ := h.ex
  have h0 : ∀ k v, f k = some v → False := fun k v e => by
    obtain ⟨_, x, hx, _⟩ := h2.row k v trivial e
    cases hx
  exact ⟨f, h1, fun k v _ e => (h0 k v e).elim, fun k _ _ x hx => (by cases hx), fun k k' v v' g _ _ e => (h0 k v e).elim⟩
theorem Grps.down {w : World} {B C b n : Nat} {ky : Am → K} {s : List Am} (h : Grps w B b n ky s) (hC : C ≤ B) : Grps w C b n ky s := by
  obtain ⟨f, h1, h2⟩ := h.ex
  exact ⟨f, h1, fun k v q e => ⟨(h2.row k v q e).1.down hC, (h2.row k v q e).2⟩, h2.no, h2.off⟩
end
theorem int_injU (a b : Int) (h : Value.int .u64 a = .int .u64 b) : a = b := by cases h; rfl
instance kU : Inhabited (MKd Int) := ⟨{
  tk := 22,
  mt := 31,
  kv := fun k => .int .u64 k,
  ok := fun k => 0 ≤ k ∧ k < 18446744073709551616,
  keyed := keyedD,
  lit := fun _ h => ⟨_, keyD h⟩,
  inj := fun a b _ _ h => int_injU a b h,
  under := Tryz.underlying31 }⟩
end Go.Proofs.YtnpbmihbmilkbaaGreat
