/- Maps of keys and values in memory: what they hold, look-ups, stores, ranges. -/
import Derived.Test.YtnpbmihbmilkbaaGreatG11
import Derived.Maps.RangeWalk
import Derived.Maps.OwnSet
import Derived.Maps.Ext
import Derived.DeepKeys4
namespace Go.Proofs.YtnpbmihbmilkbaaGreat
open Go.RowKit Go.Maps
/-! Keys of maps. -/
theorem litW (d : Nat) {t : TypeId} {q : IntKind} {n : Int} (hu : Tryz.prog.underlying t = some (.int q)) (hw : (Lit.int q n).wf = true) : Tryz.prog.keyLits (d + 1) t [.int q n] = some [.int q n] := by
  simp [Program.keyLits, hu, hw]
theorem mapM_some {α β : Type} {f : α → Option β} : ∀ (l : List α), (∀ x ∈ l, ∃ y, f x = some y) → ∃ ys, l.mapM f = some ys
  | [], _ => ⟨[], rfl⟩
  | x :: l, h => by
    obtain ⟨y, hy⟩ := h x (List.mem_cons_self ..)
    obtain ⟨ys, hys⟩ := mapM_some l (fun z hz => h z (List.mem_cons_of_mem _ hz))
    exact ⟨y :: ys, by simp [List.mapM_cons, hy, hys]⟩
theorem cells25 : Tryz.prog.cellsOf 40 = 8 := by kernel_rfl
theorem cells5_ : Tryz.prog.cellsOf 5 = 1 := by kernel_rfl
theorem cells23 : Tryz.prog.cellsOf 45 = 1 := by kernel_rfl
theorem cells26 : Tryz.prog.cellsOf 46 = 1 := by kernel_rfl
theorem cells28_ : Tryz.prog.cellsOf 48 = 12 := by kernel_rfl
theorem types_ : Tryz.prog.types.size = 205 := by kernel_rfl
theorem keyType28 : Tryz.prog.keyType 48 = true := by kernel_rfl
theorem row28 : (48 : TypeId) < Tryz.prog.types.size := of_decide_eq_true (by kernel_rfl)
theorem laidOut : laidOutB Tryz.prog = true := by kernel_rfl
theorem keyAt28 : Tryz.prog.keyTypeAt 3 48 = true := by kernel_rfl
set_option maxRecDepth 100000 in
theorem law28 : Keyed Tryz.prog 48 := Keyed.of_law (deep_law_laid laidOut (m := 3) (by omega) row28 keyAt28 (by rw [under27]))
theorem keyLits_array {P : Program} {d t n e : Nat} {cs : List Value} (hu : P.underlying t = some (.array n e)) (hc : cs.length = P.cellsOf t) : P.keyLits (d + 1) t cs = ((List.range n).mapM fun i => P.keyLits d e ((cs.drop (i * P.cellsOf e)).take (P.cellsOf e))).map List.flatten := by
  simp [Program.keyLits, hu, hc]
theorem keyLits_struct {P : Program} {d t : Nat} {fs : Array Field} {cs : List Value} (hu : P.underlying t = some (.struct fs)) (hc : cs.length = P.cellsOf t) (hn : fs.all (·.name != "_") = true) : P.keyLits (d + 1) t cs = (fs.toList.mapM fun f => P.keyLits d f.type ((cs.drop f.offset).take (P.cellsOf f.type))).map List.flatten := by
  rw [Program.keyLits.eq_def]
  simp only [hu]
  rw [if_pos ⟨hc, hn⟩]
theorem keyOf_struct {P : Program} {t : Nat} {fs : Array Field} {v : Value} (hu : P.underlying t = some (.struct fs)) (hk : P.keyType t = true) (hf : v.formed P t = true) : keyOf P t v = (P.keyLits (P.types.size + 1) t v.cells.toList).map fun ls => .string (keyBytes ls) := by
  simp [keyOf, hu, hk, hf]
theorem lits25 (d : Nat) {m : List Int} (h : m.length = 8) (hb : M.Bytes m) : ∃ ls, Tryz.prog.keyLits (d + 2) 40 (m.map (Value.int .u8)) = some ls := by
  rw [keyLits_array Tryz.underlying40 (by rw [List.length_map, h, cells25])]
  obtain ⟨ys, hy⟩ := mapM_some (f := fun i => Tryz.prog.keyLits (d + 1) 5 (((m.map (Value.int .u8)).drop (i * Tryz.prog.cellsOf 5)).take (Tryz.prog.cellsOf 5))) (List.range 8) (fun i hi => by
    have hi : i < 8 := List.mem_range.1 hi
    rw [cells5_, Nat.mul_one, List.drop_eq_getElem_cons (by rw [List.length_map]; omega)]
    simp only [List.take_succ_cons, List.take_zero, List.getElem_map]
    have := hb m[i] (List.getElem_mem _)
    exact ⟨_, litW d Tryz.underlying5 (WalkArith.wf_u8 (by omega))⟩)
  rw [hy]
  exact ⟨_, rfl⟩
theorem names27 : (Tryz.prog.fieldsOf 48).all (·.name != "_") = true := by kernel_rfl
theorem lits28 (d : Nat) {k : Ky} (h : k.Ok) : ∃ ls, Tryz.prog.keyLits (d + 3) 48 k.cells = some ls := by
  rw [keyLits_struct under27 (by rw [kcells_len h.ml, cells28_]) names27, fields27]
  have key : ∃ ys, List.mapM (fun f : Field => Tryz.prog.keyLits (d + 2) f.type ((k.cells.drop f.offset).take (Tryz.prog.cellsOf f.type))) [⟨ "Sort", 5, 0, false, "", "", 0⟩, ⟨ "Cart", 45, 1, false, "", "", 2⟩, ⟨ "Item", 40, 2, false, "", "", 4⟩, ⟨ "Rep", 5, 10, false, "", "", 12⟩, ⟨ "Seq", 46, 11, false, "", "", 16⟩] = some ys := by
    refine mapM_some _ (fun f hf => ?_)
    have one : ∀ (i : Nat) (v : Value), k.cells[i]? = some v → (k.cells.drop i).take 1 = [v] := fun i v hv => by
      obtain ⟨hi, rfl⟩ := List.getElem?_eq_some_iff.1 hv
      rw [List.drop_eq_getElem_cons hi]; rfl
    simp only [List.mem_cons, List.not_mem_nil, or_false] at hf
    rcases hf with rfl | rfl | rfl | rfl | rfl
    · simp only [cells5_, one 0 _ (kc0 k)]
      exact ⟨_, litW (d + 1) Tryz.underlying5 (WalkArith.wf_u8 (by have := h.s0; have := h.s1; omega))⟩
    · simp only [cells23, one 1 _ (kc1 k)]
      exact ⟨_, litW (d + 1) Tryz.underlying45 (WalkArith.wf_u16 (by have := h.c0; have := h.c1; omega))⟩
    · have e : (k.cells.drop 2).take 8 = k.m.map (Value.int .u8) := by
        simp only [Ky.cells, List.drop_succ_cons, List.drop_zero]
        exact List.take_left' (by rw [List.length_map, h.ml])
      simp only [cells25, e]
      exact lits25 d h.ml h.mb
    · simp only [cells5_, one 10 _ (kc10 h.ml)]
      exact ⟨_, litW (d + 1) Tryz.underlying5 (WalkArith.wf_u8 (by have := h.r0; have := h.r1; omega))⟩
    · simp only [cells26, one 11 _ (kc11 h.ml)]
      exact ⟨_, litW (d + 1) Tryz.underlying46 (WalkArith.wf_u32 (by have := h.q0; have := h.q1; omega))⟩
  obtain ⟨ys, hy⟩ := key
  rw [hy]
  exact ⟨_, rfl⟩
theorem key28 {k : Ky} (h : k.Ok) : ∃ l, keyOf Tryz.prog 48 (.agg k.cells.toArray) = some l := by
  obtain ⟨ls, hl⟩ := lits28 203 h
  have hs : Tryz.prog.types.size + 1 = 203 + 3 := by rw [types_]
  rw [keyOf_struct under27 keyType28 (by simp [Value.formed, cells28_, kcells_len h.ml]), hs]
  have e : (Value.agg k.cells.toArray).cells.toList = k.cells := rfl
  rw [e, hl]
  exact ⟨_, rfl⟩
theorem ky_inj {a b : Ky} (ha : a.m.length = 8) (hb : b.m.length = 8) (h : Value.agg a.cells.toArray = .agg b.cells.toArray) : a = b := by
  have e : a.cells = b.cells := by
    have := congrArg (fun v => match v with | Value.agg cs => cs.toList | _ => []) h
    simpa using this
  have e0 := congrArg (·[0]?) e
  have e1 := congrArg (·[1]?) e
  have e10 := congrArg (·[10]?) e
  have e11 := congrArg (·[11]?) e
  simp only [kc0, kc1, kc10 ha, kc10 hb, kc11 ha, kc11 hb, Option.some.injEq, Value.int.injEq, true_and] at e0 e1 e10 e11
  have em : a.m.map (Value.int .u8) = b.m.map (Value.int .u8) := by
    have l : ∀ k : Ky, k.m.length = 8 → (k.cells.drop 2).take 8 = k.m.map (Value.int .u8) := fun k hk => by
      simp only [Ky.cells, List.drop_succ_cons, List.drop_zero]
      exact List.take_left' (by rw [List.length_map, hk])
    rw [← l a ha, ← l b hb, e]
  have em' : a.m = b.m := List.map_inj_right (fun x y h => by simpa using h) |>.1 em
  obtain ⟨s, c, m, r, q⟩ := a
  obtain ⟨s', c', m', r', q'⟩ := b
  simp only at e0 e1 e10 e11 em'
  rw [e0, e1, e10, e11, em']
theorem key_same {a b : Ky} (ha : a.Ok) (hb : b.Ok) {l : Lit} (h1 : keyOf Tryz.prog 48 (.agg a.cells.toArray) = some l) (h2 : keyOf Tryz.prog 48 (.agg b.cells.toArray) = some l) : a = b := ky_inj ha.ml hb.ml (law28.inj h1 h2)
/-! What a map holds. -/
def heldE (v : Value) : Option (DataW Value × List MemPlace) := some (.held v, [])
structure Rep (D : DataW Value) (f : Ky → Option Vl) : Prop where
  only : ∀ l, Maps.has D l = true → ∃ k v, f k = some v ∧ keyOf Tryz.prog 48 (.agg k.cells.toArray) = some l
  at_ : ∀ k v l, f k = some v → keyOf Tryz.prog 48 (.agg k.cells.toArray) = some l → Maps.has D l = true ∧ ∀ z, D.atKey l z = .held (.agg v.cells.toArray)
structure MapF (w : World) (b n : Nat) (f : Ky → Option Vl) : Prop where
  ok : OkF f
  own : ∃ D, w.ownsMap Tryz.prog 48 heldE b n D ∧ Rep D f
theorem Rep.no {D : DataW Value} {f : Ky → Option Vl} (h : Rep D f) (hf : OkF f) {k : Ky} (hk : k.Ok) {l : Lit} (hl : keyOf Tryz.prog 48 (.agg k.cells.toArray) = some l) (hn : f k = none) : Maps.has D l = false := by
  cases e : Maps.has D l with
  | false => rfl
  | true =>
    obtain ⟨k', v', h1, h2⟩ := h.only l e
    rw [key_same hk (hf.k _ _ h1) hl h2] at hn
    rw [hn] at h1; cases h1
theorem Rep.has {D : DataW Value} {f : Ky → Option Vl} (h : Rep D f) (hf : OkF f) {k : Ky} (hk : k.Ok) {l : Lit} (hl : keyOf Tryz.prog 48 (.agg k.cells.toArray) = some l) : Maps.has D l = (f k).isSome := by
  cases e : f k with
  | none => exact h.no hf hk hl e
  | some v => exact (h.at_ k v l e hl).1
theorem mapF_made (w : World) : MapF (w.alloc (.map #[] 0)) w.heap.size 0 none_ :=
  ⟨okF_none, .map [], World.ownsMap_made w Tryz.prog 48 heldE, fun _ h => (by cases h), fun _ _ _ h => (by cases h)⟩
theorem MapF.lt {w : World} {b n : Nat} {f : Ky → Option Vl} (h : MapF w b n f) : b < w.heap.size := by obtain ⟨D, h1, _⟩ := h.own; exact h1.lt
theorem MapF.kept {w w' : World} {b n : Nat} {f : Ky → Option Vl} {row : Option Nat} (h : MapF w b n f) (hg : w.grownBy w' row) (hne : some b ≠ row) : MapF w' b n f := by
  obtain ⟨D, h1, h2⟩ := h.own; exact ⟨h.ok, D, h1.kept hg hne, h2⟩
theorem grown_of {w w' : World} (h : Below w.heap.size w w') : w.grownBy w' none := ⟨h.os, h.tape, h.output, h.size, fun k hk _ => h.block k hk⟩
theorem MapF.below {w w' : World} {b n : Nat} {f : Ky → Option Vl} (h : MapF w b n f) (hb : Below w.heap.size w w') : MapF w' b n f := h.kept (grown_of hb) (by simp)
theorem MapF.upto {w w' : World} {B b n : Nat} {f : Ky → Option Vl} (h : MapF w b n f) (hb : Below B w w') (hB : b < B) : MapF w' b n f := by
  obtain ⟨D, ⟨es, clock, e, r⟩, h2⟩ := h.own
  exact ⟨h.ok, D, ⟨es, clock, (hb.block b hB).trans e, r⟩, h2⟩
theorem MapF.only {w w' : World} {g b n : Nat} {f : Ky → Option Vl} (h : MapF w b n f) (ho : Only g w w') (hg : b ≠ g) : MapF w' b n f :=
  h.kept (row := some g) ⟨ho.os, ho.tape, ho.output, ho.size, fun k hk hn => ho.block k hk (fun e => hn (by rw [e]))⟩ (fun e => hg (Option.some.inj e))
theorem MapF.mono {w : World} {b n n' : Nat} {f : Ky → Option Vl} (h : MapF w b n f) (hn : n ≤ n') : MapF w b n' f := by
  obtain ⟨D, h1, h2⟩ := h.own; exact ⟨h.ok, D, h1.mono hn, h2⟩
theorem run_lookup {w : World} {b n : Nat} {f : Ky → Option Vl} (h : MapF w b n f) {k : Ky} (hk : k.Ok) : (Instr.lookup 123 (.map (some b)) (.agg k.cells.toArray) false).run Tryz.prog w = .ok (.agg ((f k).getD vzero).cells.toArray) w := by
  obtain ⟨D, h1, h2⟩ := h.own
  obtain ⟨l, hl⟩ := key28 hk
  obtain ⟨v, ps, hr, hv⟩ := h1.lookup law28 Tryz.underlying123 (zero30 w) (zd := .held (.agg vzero.cells.toArray)) (zp := []) rfl hl
  rw [hr]
  unfold heldE at hv
  simp only [Option.some.injEq, Prod.mk.injEq] at hv
  cases e : f k with
  | none =>
    rw [Maps.atKey_of_not_has (h2.no h.ok hk hl e)] at hv
    have hv := DataW.held.inj hv.1
    rw [hv]; simp only [Option.getD_none]
  | some u =>
    rw [(h2.at_ k u l e hl).2] at hv
    have hv := DataW.held.inj hv.1
    rw [hv]; simp only [Option.getD_some]
theorem Rep.upd {D : DataW Value} {f : Ky → Option Vl} (h : Rep D f) (hf : OkF f) (hm : IsMap D) {k : Ky} (hk : k.Ok) (v : Vl) {l : Lit} (hl : keyOf Tryz.prog 48 (.agg k.cells.toArray) = some l) : Rep (D.put l (.held (.agg v.cells.toArray))) (upd f k v) := by
  constructor
  · intro l' h'
    by_cases e : l' = l
    · subst e; exact ⟨k, v, by simp [YtnpbmihbmilkbaaGreat.upd], hl⟩
    · rw [Maps.has_put_other e] at h'
      obtain ⟨k', v', h1, h2⟩ := h.only l' h'
      refine ⟨k', v', ?_, h2⟩
      unfold YtnpbmihbmilkbaaGreat.upd
      rw [if_neg (fun e2 => by rw [e2, hl] at h2; exact e (Option.some.inj h2).symm)]
      exact h1
  · intro k' v' l' h1 h2
    unfold YtnpbmihbmilkbaaGreat.upd at h1
    split at h1
    · rename_i e2
      cases h1
      rw [e2, hl] at h2
      obtain rfl := Option.some.inj h2
      exact ⟨Maps.has_put_same hm (law28.key hl) _, fun z => Maps.atKey_put_same hm (law28.key hl) _ z⟩
    · rename_i e2
      have e : l' ≠ l := fun e => e2 (key_same (hf.k _ _ h1) hk h2 (e ▸ hl))
      rw [Maps.has_put_other e]
      obtain ⟨h3, h4⟩ := h.at_ k' v' l' h1 h2
      exact ⟨h3, fun z => by rw [Maps.atKey_put_other e]; exact h4 z⟩
theorem run_update {w : World} {b n : Nat} {f : Ky → Option Vl} (h : MapF w b n f) (hn : n ≤ 5000) {k : Ky} (hk : k.Ok) (v : Vl) (hf : OkF (upd f k v)) :
    ∃ w', (Instr.mapUpdate 123 (.map (some b)) (.agg k.cells.toArray) (.agg v.cells.toArray)).run Tryz.prog w = .ok () w' ∧ MapF w' b (n + 1) (upd f k v) ∧ w.grownBy w' (some b) := by
  obtain ⟨D, h1, h2⟩ := h.own
  obtain ⟨l, hl⟩ := key28 hk
  obtain ⟨w', hr, h3, h4⟩ := h1.update law28 Tryz.underlying123 (by unfold maxLen; omega) (val := .agg v.cells.toArray) (d := .held (.agg v.cells.toArray)) (ps := []) hl rfl
  exact ⟨w', hr, ⟨hf, _, h3, h2.upd h.ok h1.isMap hk v hl⟩, h4⟩
/-! Ranges. -/
/-- A range over the map f is under way; g: what is still to come. -/
structure RangeF (w : World) (b r n : Nat) (f g : Ky → Option Vl) (cnt : Nat) : Prop where
  ok : OkF f
  sub : ∀ k v, g k = some v → f k = some v
  own : ∃ D left, w.ranges Tryz.prog 48 heldE b r n D left cnt ∧ Rep D f ∧ (∀ k l, k.Ok → keyOf Tryz.prog 48 (.agg k.cells.toArray) = some l → (left l = true ↔ g k ≠ none)) ∧ ∀ l, left l = true → Maps.has D l = true
def del (g : Ky → Option Vl) (k : Ky) : Ky → Option Vl := fun x => if x = k then none else g x
theorem RangeF.left_eq {w : World} {b r n : Nat} {f g : Ky → Option Vl} {cnt : Nat} (h : RangeF w b r n f g cnt) : w.rangeLeft b r = cnt := by obtain ⟨D, left, h1, _⟩ := h.own; exact h1.left_eq
theorem RangeF.lt {w : World} {b r n : Nat} {f g : Ky → Option Vl} {cnt : Nat} (h : RangeF w b r n f g cnt) : r < w.heap.size := by obtain ⟨D, left, h1, _⟩ := h.own; exact h1.lt
theorem RangeF.map {w : World} {b r n : Nat} {f g : Ky → Option Vl} {cnt : Nat} (h : RangeF w b r n f g cnt) : MapF w b n f := by obtain ⟨D, left, h1, h2, _⟩ := h.own; exact ⟨h.ok, D, h1.owns, h2⟩
theorem RangeF.kept {w w' : World} {b r n : Nat} {f g : Ky → Option Vl} {cnt : Nat} {row : Option Nat} (h : RangeF w b r n f g cnt) (hg : w.grownBy w' row) (h1 : some b ≠ row) (h2 : some r ≠ row) : RangeF w' b r n f g cnt := by
  obtain ⟨D, left, a1, a2⟩ := h.own; exact ⟨h.ok, h.sub, D, left, a1.kept hg h1 h2, a2⟩
theorem RangeF.below {w w' : World} {b r n : Nat} {f g : Ky → Option Vl} {cnt : Nat} (h : RangeF w b r n f g cnt) (hb : Below w.heap.size w w') : RangeF w' b r n f g cnt := h.kept (grown_of hb) (by simp) (by simp)
theorem RangeF.upto {w w' : World} {B b r n : Nat} {f g : Ky → Option Vl} {cnt : Nat} (h : RangeF w b r n f g cnt) (hb : Below B w w') (hB : b < B) (hr : r < B) : RangeF w' b r n f g cnt := by
  obtain ⟨D, left, ⟨es, clock, since, seen, c0, e1, e2, e3, e4, e5, e6⟩, h2⟩ := h.own
  exact ⟨h.ok, h.sub, D, left, ⟨es, clock, since, seen, c0, (hb.block b hB).trans e1, e2, e3, e4, (hb.block r hr).trans e5, e6⟩, h2⟩
/-- How many entries a map has. -/
def msize (w : World) (b : Nat) : Nat := match w.heap[b]? with | some (.map es _) => es.size | _ => 0
theorem msize_is {w : World} {b n : Nat} {D : DataW Value} (h : w.ownsMap Tryz.prog 48 heldE b n D) : Maps.size D = msize w b ∧ msize w b ≤ n := by
  obtain ⟨es, clock, e1, _, e3, rfl⟩ := h
  unfold msize
  rw [e1]
  exact ⟨by simp [Maps.size, length_sorted], e3⟩
theorem run_lenF {w : World} {b n : Nat} {f : Ky → Option Vl} (h : MapF w b n f) (ty : TypeId) : (Builtin.len_ #[123] ty #[.map (some b)]).run Tryz.prog w = .ok (.int .i64 (msize w b : Nat)) w := by
  obtain ⟨D, h1, h2⟩ := h.own
  rw [h1.len Tryz.underlying123 ty, (msize_is h1).1]
theorem MapF.msize_le {w : World} {b n : Nat} {f : Ky → Option Vl} (h : MapF w b n f) : msize w b ≤ n := by
  obtain ⟨D, h1, h2⟩ := h.own
  exact (msize_is h1).2
theorem msize_below {w w' : World} {b B : Nat} (hb : Below B w w') (h : b < B) : msize w' b = msize w b := by
  unfold msize; rw [hb.block b h]
theorem run_rangeF {w : World} {b n : Nat} {f : Ky → Option Vl} (h : MapF w b n f) : ∃ w' cnt, (Instr.range 123 (.map (some b))).run Tryz.prog w = .ok (.pointer (some ⟨w.heap.size, 0, none⟩)) w' ∧ RangeF w' b w.heap.size n f f cnt ∧ Below w.heap.size w w' ∧ cnt = msize w b := by
  obtain ⟨D, h1, h2⟩ := h.own
  obtain ⟨w', hr, h3, h4, _⟩ := h1.range law28 Tryz.underlying123
  refine ⟨w', _, hr, ⟨h.ok, fun _ _ e => e, D, _, h3, h2, fun k l hk hl => ?_, fun _ e => e⟩, ⟨h4.os, h4.tape, h4.output, h4.size, fun k hk => h4.block k hk (by simp)⟩, (msize_is h1).1⟩
  rw [h2.has h.ok hk hl]
  cases f k <;> simp
theorem run_nextF {w : World} {b r n : Nat} {f g : Ky → Option Vl} {cnt : Nat} (h : RangeF w b r n f g cnt) (ty : TypeId) :
    ((∀ k, g k = none) ∧ (Instr.next (.pointer (some ⟨r, 0, none⟩)) false ty).run Tryz.prog w = .ok (.tuple #[.bool false]) w) ∨
    ∃ k v w' cnt', g k = some v ∧ (Instr.next (.pointer (some ⟨r, 0, none⟩)) false ty).run Tryz.prog w = .ok (.tuple #[.bool true, .agg k.cells.toArray, .agg v.cells.toArray]) w' ∧ RangeF w' b r n f (del g k) cnt' ∧ cnt' < cnt ∧ w.grownBy w' (some r) ∧ w'.heap.size = w.heap.size ∧ (Instr.entry (.pointer (some ⟨r, 0, none⟩))).run Tryz.prog w' = .ok (.tuple #[.agg k.cells.toArray, .agg v.cells.toArray]) w' := by
  obtain ⟨D, left, h1, h2, h3, h4⟩ := h.own
  rcases h1.next law28 ty with ⟨_, hl, hrun⟩ | ⟨key, v, l, y, w', cnt', hkey, hlk, hv, hat, hrun, hrg, hlt, hgr, hsz, hen⟩
  · refine .inl ⟨fun k => ?_, hrun⟩
    cases e : g k with
    | none => rfl
    | some u =>
      have hk := h.ok.k _ _ (h.sub k u e)
      obtain ⟨l, hl'⟩ := key28 hk
      have := (h3 k l hk hl').2 (by rw [e]; simp)
      rw [hl] at this; cases this
  · right
    obtain ⟨k, u, e1, e2⟩ := h2.only l (h4 l hlk)
    have hk := h.ok.k _ _ e1
    obtain rfl := law28.inj hkey e2
    have e3 := (h2.at_ k u l e1 e2).2 .nil
    rw [hat] at e3
    unfold heldE at hv
    have e4 : y.1 = .held v := by rw [← Option.some.inj hv]
    rw [e4] at e3
    have e3 := DataW.held.inj e3
    subst e3
    have hg : g k = some u := by
      have := (h3 k l hk e2).1 hlk
      cases e : g k with
      | none => exact absurd e this
      | some z => rw [h.sub k z e] at e1; exact e1
    refine ⟨k, u, w', cnt', hg, hrun, ⟨h.ok, fun x z e => ?_, D, _, hrg, h2, fun x l' hx hl' => ?_, fun l' e => ?_⟩, hlt, hgr, hsz, hen⟩
    · unfold del at e
      split at e
      · cases e
      · exact h.sub x z e
    · have hs : l'.sameKey l = decide (x = k) := by
        by_cases e : x = k
        · subst e
          rw [hl'] at e2
          obtain rfl := Option.some.inj e2
          rw [WideAt.sameKey_self (law28.key hl')]; simp
        · rw [Maps.sameKey_ne (fun e' => e (key_same hx hk hl' (by rw [e']; exact e2)))]; simp [e]
      show (left l' && !l'.sameKey l) = true ↔ _
      rw [hs]
      unfold del
      by_cases e : x = k
      · simp [e]
      · simp only [e, decide_false, Bool.not_false, Bool.and_true, if_false]
        exact h3 x l' hx hl'
    · have e' : (left l' && !l'.sameKey l) = true := e
      simp only [Bool.and_eq_true] at e'
      exact h4 l' e'.1
theorem wpList_rangeF {ops : Array Oper} {rest : List Oper} {op : Oper} {a : Act} {w : World} {Q : Exit → Act → World → Prop} (hgd : op.guard = none) (m : Operand) (ho : op.op = .range 123 m) (b n : Nat) (f : Ky → Option Vl) (hm : a.eval m = .map (some b)) (h : MapF w b n f)
    (hk : ∀ r w' cnt, Hid (r = w.heap.size) → Hid (RangeF w' b r n f f cnt) → Hid (cnt = msize w b) → Hid (Below w.heap.size w w') → wpList Tryz.prog ops Q rest (a.put op.dst (.pointer (some ⟨r, 0, none⟩))) w') : wpList Tryz.prog ops Q (op :: rest) a w := by
  refine wpList_plain hgd fun K hK => ?_
  obtain ⟨w', cnt, hr, h1, h2, h3⟩ := run_rangeF h
  unfold Oper.wp
  simp [execOp, ho, hm, hr, Result.andThen]
  exact hK _ _ (hk _ w' cnt (Lib.hid rfl) (Lib.hid h1) (Lib.hid h3) (Lib.hid h2))
theorem wpList_nextF {ops : Array Oper} {rest : List Oper} {op : Oper} {a : Act} {w : World} {Q : Exit → Act → World → Prop} (hgd : op.guard = none) (it : Operand) (ho : op.op = .next it false) (b r n : Nat) (f g : Ky → Option Vl) (cnt : Nat) (hit : a.eval it = .pointer (some ⟨r, 0, none⟩)) (h : RangeF w b r n f g cnt)
    (hDone : Hid (∀ k, g k = none) → wpList Tryz.prog ops Q rest (a.put op.dst (.tuple #[.bool false])) w)
    (hMore : ∀ k v w' cnt', Hid (g k = some v) → Hid (RangeF w' b r n f (del g k) cnt') → Hid (cnt' < cnt) → Hid (Only r w w') → Hid (w'.heap.size = w.heap.size) → (Instr.entry (.pointer (some ⟨r, 0, none⟩))).run Tryz.prog w' = .ok (.tuple #[.agg k.cells.toArray, .agg v.cells.toArray]) w' →
      wpList Tryz.prog ops Q rest (a.put op.dst (.tuple #[.bool true, .agg k.cells.toArray, .agg v.cells.toArray])) w') : wpList Tryz.prog ops Q (op :: rest) a w := by
  refine wpList_plain hgd fun K hK => ?_
  unfold Oper.wp
  rcases run_nextF h op.type with ⟨h0, hr⟩ | ⟨k, v, w', cnt', hg, hr, h1, h2, h3, h4, h5⟩
  · simp [execOp, ho, hit, hr, Result.andThen]
    exact hK _ _ (hDone (Lib.hid h0))
  · simp [execOp, ho, hit, hr, Result.andThen]
    exact hK _ _ (hMore k v w' cnt' (Lib.hid hg) (Lib.hid h1) (Lib.hid h2) (Lib.hid ⟨h3.os, h3.tape, h3.output, h3.size, fun j hj hn => h3.block j hj (fun e => hn (Option.some.inj e))⟩) (Lib.hid h4) h5)
end Go.Proofs.YtnpbmihbmilkbaaGreat
