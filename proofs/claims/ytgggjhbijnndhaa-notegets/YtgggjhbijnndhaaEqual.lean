/- The contract of only of package lat. The contract of Find of package lat. The contracts of Equal of maps, and of Same of package lat. -/
import Derived.Test.YtgggjhbijnndhaaLists
import Derived.Test.YtgggjhbijnndhaaNorms
namespace Go.Proofs.Ytgggjhbijnndhaa
open Go.RowKit

theorem only_snoc (l : List Am) (a : Am) (k : Ky) : only (l ++ [a]) k = if a.k = k then only l k ++ [a] else only l k := by
  unfold only
  rw [List.filter_append]
  by_cases h : a.k = k <;> simp [h]
theorem only_len (l : List Am) (k : Ky) : (only l k).length ≤ l.length := List.length_filter_le ..
end Go.Proofs.Ytgggjhbijnndhaa
namespace Go.Proofs.Ytgggjhbijnndhaa
open Go.RowKit

structure FS (w : World) (k : Ky) (W : World) : Prop where
  bel : Below w.heap.size w W
  key : Blk W w.heap.size 55 k.cells
  res : Blk W (w.heap.size + 1) 38 vzero.cells
theorem FS.below {w : World} {k : Ky} {W W' : World} (h : FS w k W) (hb : Below W.heap.size W W') : FS w k W' := ⟨step_ h.bel hb, h.key.below hb, h.res.below hb⟩
theorem FS.only {w : World} {k : Ky} {W W' : World} {g : Nat} (h : FS w k W) (hb : Only g W W') (hg : w.heap.size + 1 < g) : FS w k W' := ⟨h.bel.trans (hb.below (by omega) h.bel.size), h.key.only hb (by omega), h.res.only hb (by omega)⟩
theorem ready_alloc32 {ops : Array Oper} {Q : Exit → Act → World → Prop} {md : Region.Mode} {S : World → Prop} {fuel : Nat} {listed : Array Bool} {a : Act} {w : World} {i : Nat} {o : Oper} {rs : List Nat} (ho : ops[i]? = some o) (hg : o.guard = none) (hop : o.op = .alloc 38)
    (h : ∀ g w', g = w.heap.size → Blk w' g 38 vzero.cells → Below w.heap.size w w' → S w' ∧ wpAnyH Try.prog md ops Q S fuel (listed.setIfInBounds i true) (a.put o.dst (.pointer (some ⟨g, 0, none⟩))) w')
    (hs : AllReadyH Try.prog md ops Q S fuel listed a w rs) : AllReadyH Try.prog md ops Q S fuel listed a w (i :: rs) := by
  refine AllReadyH.cons ho (fun K hK => ?_) hs
  have hw : Region.wanted o (yielded ops a.tmps) = true := by simp [Region.wanted, hg]
  rw [if_pos hw]
  have hz := zero30
  have H := h w.heap.size (w.alloc (.cells vzero.cells.toArray 38)) rfl (blk_alloc w 38 vzero.cells) (new_below w _)
  unfold Oper.wp execOp
  simp [hop, Instr.alloc, hz]
  exact hK.out _ _ H.1 (fun _ => H.2)
theorem fill22 (v : Value) : (Array.map (fun x => [Value.slice none 0 0][x % 1]?.getD default) (Array.range 1)).setIfInBounds 0 v = #[v] := by kernel_rfl
theorem run_rows1 (D : Option Addr) (m c : Nat) (w : World) : (Instr.buildSlice 89 1 #[(0, .slice D m c)]).run Try.prog w = .ok (.slice (some ⟨w.heap.size, 0, none⟩) 1 1) (w.alloc (.cells #[.slice D m c] 22)) := by
  have hz := Try.zeroValue22
  simp only [Instr.buildSlice, Sem.run_bind, run_underlying Try.underlying89, Result.andThen_ok, sizeOf22]
  rw [if_neg (by decide), if_neg (by decide)]
  simp [hz, Instr.fill, Value.cells]
  rw [fill22]
  rfl
theorem ready_rows1 {ops : Array Oper} {Q : Exit → Act → World → Prop} {md : Region.Mode} {S : World → Prop} {fuel : Nat} {listed : Array Bool} {a : Act} {w : World} {i : Nat} {o : Oper} {rs : List Nat} (ho : ops[i]? = some o) (hg : o.guard = none) (x : Operand) (hop : o.op = .buildSlice 89 1 #[(0, x)]) (D : Option Addr) (m c : Nat) (l : List Am) (hx : a.eval x = .slice D m c) (hr : RowV w D m c l)
    (h : ∀ g w', RowsV w' (some ⟨g, 0, none⟩) 1 1 [l] → Below w.heap.size w w' → S w' ∧ wpAnyH Try.prog md ops Q S fuel (listed.setIfInBounds i true) (a.put o.dst (.slice (some ⟨g, 0, none⟩) 1 1)) w')
    (hs : AllReadyH Try.prog md ops Q S fuel listed a w rs) : AllReadyH Try.prog md ops Q S fuel listed a w (i :: rs) := by
  refine AllReadyH.cons ho (fun K hK => ?_) hs
  have hw : Region.wanted o (yielded ops a.tmps) = true := by simp [Region.wanted, hg]
  rw [if_pos hw]
  have H := h w.heap.size _ (rows_one hr) (new_below w _)
  have hrun := run_rows1 D m c w
  unfold Oper.wp execOp
  simp only [hop, List.map_toArray, List.map_cons, List.map_nil, hx, Sem.run_bind, hrun, Result.andThen_ok, Sem.run_pure]
  exact hK.out _ _ H.1 (fun _ => H.2)
theorem ready_lookup_ok {ops : Array Oper} {Q : Exit → Act → World → Prop} {md : Region.Mode} {S : World → Prop} {fuel : Nat} {listed : Array Bool} {a : Act} {w : World} {i : Nat} {o : Oper} {rs : List Nat} (ho : ops[i]? = some o) (hg : o.guard = none) (x y : Operand) (hop : o.op = .lookup 91 x y true) (b n : Nat) (f : Ky → Option Vl) (k : Ky) (r : Option Vl) (hx : a.eval x = .map (some b)) (hy : a.eval y = .agg k.cells.toArray) (hm : MapF w b n f) (hk : k.Ok) (hf : f k = r)
    (h : S w ∧ wpAnyH Try.prog md ops Q S fuel (listed.setIfInBounds i true) (a.put o.dst (.tuple #[.agg (r.getD vzero).cells.toArray, .bool r.isSome])) w)
    (hs : AllReadyH Try.prog md ops Q S fuel listed a w rs) : AllReadyH Try.prog md ops Q S fuel listed a w (i :: rs) := by
  refine AllReadyH.cons ho (fun K hK => ?_) hs
  have hw : Region.wanted o (yielded ops a.tmps) = true := by simp [Region.wanted, hg]
  rw [if_pos hw]
  have hr := run_lookup_ok hm hk
  rw [hf] at hr
  unfold Oper.wp execOp
  simp only [hop, hx, hy, Sem.run_bind, hr, Result.andThen_ok, Sem.run_pure]
  exact hK.out _ _ h.1 (fun _ => h.2)
end Go.Proofs.Ytgggjhbijnndhaa
namespace Go.Proofs.Ytgggjhbijnndhaa
open Go.RowKit Go.Maps

theorem nodup_len {α : Type} : ∀ (l m : List α), l.Nodup → (∀ x ∈ l, x ∈ m) → l.length ≤ m.length
  | [], _, _, _ => Nat.zero_le _
  | x :: l, m, hn, hs => by
    classical
    obtain ⟨h1, h2⟩ := List.nodup_cons.1 hn
    have hx := hs x (List.mem_cons_self ..)
    have h3 := nodup_len l (m.erase x) h2 (fun y hy => (List.mem_erase_of_ne (fun e => h1 (by rw [← e]; exact hy))).2 (hs y (List.mem_cons_of_mem _ hy)))
    rw [List.length_erase_of_mem hx] at h3
    have := List.length_pos_of_mem hx
    simp only [List.length_cons]
    omega
theorem nodup_all {α : Type} {l m : List α} (hn : l.Nodup) (hs : ∀ x ∈ l, x ∈ m) (hl : m.length ≤ l.length) : ∀ x ∈ m, x ∈ l := by
  classical
  intro x hx
  by_cases h : x ∈ l
  · exact h
  · have := nodup_len (x :: l) m (List.nodup_cons.2 ⟨h, hn⟩) (fun y hy => by
      rcases List.mem_cons.1 hy with rfl | hy
      · exact hx
      · exact hs y hy)
    simp only [List.length_cons] at this
    omega
theorem has_iff {es : List (Lit × DataW Value)} (hk : ∀ p ∈ es, WideAt.IsKeyLit p.1) (l : Lit) : Maps.has (.map es) l = true ↔ l ∈ es.map (·.1) := by
  rw [Maps.has_eq, List.any_eq_true, List.mem_map]
  constructor
  · rintro ⟨p, hp, hs⟩; exact ⟨p, hp, WideAt.sameKey_eq hs⟩
  · rintro ⟨p, hp, rfl⟩; exact ⟨p, hp, WideAt.sameKey_self (hk p hp)⟩
theorem map_size {w : World} {a b n m : Nat} {f : Ky → Option Vl} (h1 : MapF w a n f) (h2 : MapF w b m f) : msize w a = msize w b := by
  obtain ⟨D1, o1, r1⟩ := h1.own
  obtain ⟨D2, o2, r2⟩ := h2.own
  have hh : ∀ {D D' : DataW Value}, Rep D f → Rep D' f → ∀ l, Maps.has D l = true → Maps.has D' l = true ∧ ∀ z, D.atKey l z = D'.atKey l z := fun r r' l e => by
    obtain ⟨k, v, e1, e2⟩ := r.only l e
    obtain ⟨a1, a2⟩ := r'.at_ k v l e1 e2
    exact ⟨a1, fun z => by rw [a2, (r.at_ k v l e1 e2).2]⟩
  have e : D1 = D2 := Maps.ext (o1.canon law28) (o2.canon law28) (fun l => by
    rw [Bool.eq_iff_iff]
    exact ⟨fun e => (hh r1 r2 l e).1, fun e => (hh r2 r1 l e).1⟩) (fun l z e => (hh r1 r2 l e).2 z)
  rw [← (msize_is o1).1, ← (msize_is o2).1, e]
theorem map_sub {w : World} {a b n m : Nat} {f g : Ky → Option Vl} (h1 : MapF w a n f) (h2 : MapF w b m g) (hs : msize w a = msize w b) (hsub : ∀ k v, f k = some v → g k = some v) : f = g := by
  obtain ⟨D1, o1, r1⟩ := h1.own
  obtain ⟨D2, o2, r2⟩ := h2.own
  obtain ⟨es1, rfl, p1, k1⟩ := o1.entries law28
  obtain ⟨es2, rfl, p2, k2⟩ := o2.entries law28
  have hl : es2.length ≤ es1.length := by
    have e1 := (msize_is o1).1; have e2 := (msize_is o2).1
    rw [Maps.size_eq] at e1 e2
    omega
  have key : ∀ l, l ∈ es2.map (·.1) → l ∈ es1.map (·.1) := nodup_all (l := es1.map (·.1)) (m := es2.map (·.1)) (List.pairwise_map.2 p1) (fun l hl => by
    rw [← has_iff k1] at hl
    rw [← has_iff k2]
    obtain ⟨k, v, e1, e2⟩ := r1.only l hl
    exact (r2.at_ k v l (hsub k v e1) e2).1) (by simp; exact hl)
  funext k
  cases e : g k with
  | none =>
    cases e2 : f k with
    | none => rfl
    | some v => rw [hsub k v e2] at e; cases e
  | some v =>
    have hk := h2.ok.k k v e
    obtain ⟨l, hl⟩ := key28 hk
    have h3 := (has_iff k1 l).2 (key l ((has_iff k2 l).1 (r2.at_ k v l e hl).1))
    obtain ⟨k', v', e1, e2⟩ := r1.only l h3
    obtain rfl := key_same hk (h1.ok.k _ _ e1) hl e2
    rw [hsub k v' e1] at e
    rw [e1, e]
theorem wpList_lookup_okF {ops : Array Oper} {rest : List Oper} {op : Oper} {a : Act} {w : World} {Q : Exit → Act → World → Prop} (hgd : op.guard = none) (x y : Operand) (ho : op.op = .lookup 91 x y true) (b n : Nat) (f : Ky → Option Vl) (k : Ky) (r : Option Vl) (hx : a.eval x = .map (some b)) (hy : a.eval y = .agg k.cells.toArray) (hm : MapF w b n f) (hk : k.Ok) (hf : f k = r)
    (h : wpList Try.prog ops Q rest (a.put op.dst (.tuple #[.agg (r.getD vzero).cells.toArray, .bool r.isSome])) w) : wpList Try.prog ops Q (op :: rest) a w := by
  have hr := run_lookup_ok hm hk
  rw [hf] at hr
  refine wpList_val hgd _ ?_ h
  unfold execOp
  simp only [ho, hx, hy, Sem.run_bind, hr, Result.andThen_ok, Sem.run_pure]
theorem wpList_neq_vl {ops : Array Oper} {rest : List Oper} {op : Oper} {a : Act} {w : World} {Q : Exit → Act → World → Prop} (hgd : op.guard = none) (x y : Operand) (t : TypeId) (ho : op.op = .binOp .neq 38 x y t) (A B : Vl) (b : Bool) (hx : a.eval x = .agg A.cells.toArray) (hy : a.eval y = .agg B.cells.toArray) (hA : A.Ok) (hB : B.Ok) (hb : (!decide (A = B)) = b)
    (hk : wpList Try.prog ops Q rest (a.put op.dst (.bool b)) w) : wpList Try.prog ops Q (op :: rest) a w :=
  wpList_val hgd _ (by rw [exec_neq_vl x y t ho A B hx hy hA.tl hB.tl, hb]) hk
end Go.Proofs.Ytgggjhbijnndhaa
