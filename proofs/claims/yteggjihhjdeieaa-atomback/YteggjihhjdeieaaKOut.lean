/- The contract of Out of the reference: a key as bytes. -/
import Derived.Test.YteggjihhjdeieaaKWords
import Derived.Test.YteggjihhjdeieaaWriterK
import Derived.Test.YteggjihhjdeieaaPieces
namespace Go.Proofs.Yteggjihhjdeieaa
open Go.RowKit

theorem WS.grown {w : World} {k : Ky} {W W' : World} {n : Nat} {v : Value} {xs : List Value} (h : WS w k W) (hown : W.ownsRow (w.heap.size + 1) 5 1 v n xs) (hg : W.grownBy W' v.ownBlock) : WS w k W' :=
  ⟨h.bel.grown hg h.bel.size (fun k hk => Nat.le_of_succ_le (hown.lt k hk).1), keepA_grown hown hg _ _ _ (by decide) h.blk⟩
theorem ws_one (w : World) (k : Ky) : WS w k (w.alloc (.cells k.cells.toArray 27)) := ⟨new_below w _, blk_alloc w 27 k.cells⟩
theorem WS.lt {w : World} {k : Ky} {W : World} (h : WS w k W) : w.heap.size + 1 ≤ W.heap.size := h.blk.lt
theorem BytesIn.grown {r : Nat} {w w' : World} {v : Value} {l : List Int} {row : Option Nat} (h : BytesIn (some r) w v l) (hg : w.grownBy w' row) (hn : row ≠ some r) : BytesIn (some r) w' v l := by
  obtain ⟨⟨a, cap, rfl, hcap, hb, hc⟩, hR⟩ := h
  refine ⟨⟨a, cap, rfl, hcap, hb, fun h0 => ?_⟩, hR⟩
  obtain ⟨g, off, rfl, hgl, hcell⟩ := hc h0
  have hx : r = g := by have := hR g off _ _ rfl h0; simpa using this
  refine ⟨g, off, rfl, Nat.lt_of_lt_of_le hgl hg.size, fun i hi => ?_⟩
  rw [← hcell i hi]
  simp only [World.cell?, hg.block g hgl (fun e => hn (by rw [← e, hx]))]
theorem one_in (w : World) (c : Int) (h0 : 0 ≤ c) (h1 : c < 256) : BytesIn (some w.heap.size) (w.alloc (.cells #[.int .u8 c] 5)) (.slice (some ⟨w.heap.size, 0, none⟩) 1 1) [c] :=
  ⟨bytes_one w c h0 h1, fun g off n cap hv _ => by simp only [Value.slice.injEq, Option.some.injEq, Addr.mk.injEq] at hv; rw [hv.1.1]⟩
/-- A slice of one byte is made, in a region that draws its order. -/
theorem ready_one {ops : Array Oper} {Q : Exit → Act → World → Prop} {md : Region.Mode} {S : World → Prop} {fuel : Nat} {listed : Array Bool} {a : Act} {w : World} {i : Nat} {o : Oper} {rs : List Nat} (ho : ops[i]? = some o) (hg : o.guard = none) (x : Operand) (hop : o.op = .buildSlice 42 1 #[(0, x)]) (c : Int) (hx : a.eval x = .int .u8 c)
    (h : ∀ g w', g = w.heap.size → w' = w.alloc (.cells #[.int .u8 c] 5) → S w' ∧ wpAnyH Try.prog md ops Q S fuel (listed.setIfInBounds i true) (a.put o.dst (.slice (some ⟨g, 0, none⟩) 1 1)) w')
    (hs : AllReadyH Try.prog md ops Q S fuel listed a w rs) : AllReadyH Try.prog md ops Q S fuel listed a w (i :: rs) := by
  refine AllReadyH.cons ho (fun K hK => ?_) hs
  have hw : Region.wanted o (yielded ops a.tmps) = true := by simp [Region.wanted, hg]
  rw [if_pos hw]
  have H := h w.heap.size (w.alloc (.cells #[.int .u8 c] 5)) rfl rfl
  have hr : (execOp a.eval o).run Try.prog w = .ok (.value (.slice (some ⟨w.heap.size, 0, none⟩) 1 1)) (w.alloc (.cells #[.int .u8 c] 5)) := by
    unfold execOp
    simp only [hop, List.map_toArray, List.map_cons, List.map_nil, hx]
    go_simp
  unfold Oper.wp
  rw [hr]
  exact hK.out _ _ H.1 (fun _ => H.2)
/-- append of bytes, in a region that draws its order. -/
theorem ready_app {ops : Array Oper} {Q : Exit → Act → World → Prop} {md : Region.Mode} {S : World → Prop} {fuel : Nat} {listed : Array Bool} {a : Act} {w : World} {i : Nat} {o : Oper} {rs : List Nat} (ho : ops[i]? = some o) (hg : o.guard = none) (s x : Operand)
    (hop : o.op = .call { callee := .builtin .append, args := #[s, x], argTypes := #[42, 42] }) (base : Nat) (v u : Value) (acc l : List Int)
    (hs' : a.eval s = v) (hown : w.ownsRow base 5 1 v acc.length (acc.map (Value.int .u8))) (hx : a.eval x = u) (hu : BytesAt w u l) (hn : acc.length + l.length ≤ 30000) (hbase : base ≤ w.heap.size)
    (h : ∀ v' w', w'.ownsRow base 5 1 v' (acc ++ l).length ((acc ++ l).map (Value.int .u8)) → w.grownBy w' v.ownBlock → S w' ∧ wpAnyH Try.prog md ops Q S fuel (listed.setIfInBounds i true) (a.put o.dst v') w')
    (hs : AllReadyH Try.prog md ops Q S fuel listed a w rs) : AllReadyH Try.prog md ops Q S fuel listed a w (i :: rs) := by
  refine AllReadyH.cons ho (fun K hK => ?_) hs
  have hw : Region.wanted o (yielded ops a.tmps) = true := by simp [Region.wanted, hg]
  rw [if_pos hw]
  obtain ⟨i0, hi, hz0, hz1, hz2⟩ := info_parts info5
  obtain ⟨ad, cap, rfl, hcap, _, hc⟩ := hu
  rcases ad with _ | ad
  · have h0 : l = [] := by
      cases l with
      | nil => rfl
      | cons c r => obtain ⟨g, off, ha, _⟩ := hc (by simp); cases ha
    subst h0
    have hc0 := hcap.2 rfl
    subst hc0
    have hrun := run_append_owned_none (P := Try.prog) (w := w) base 42 o.type 5 i0 1 Try.underlying42 hi v _ _ hown
    have hx' : a.eval x = .slice none 0 0 := hx
    have H := h v w (by simpa using hown) ⟨rfl, rfl, rfl, Nat.le_refl _, fun _ _ _ => rfl⟩
    unfold Oper.wp
    simp [execOp, hop, resolve, invoke, builtin, hs', hx', hrun, Result.andThen]
    exact hK.out _ _ H.1 (fun _ => H.2)
  · refine wp_append_own w s x 42 hop base 5 i0 (.int .u8 0) 1 1 Try.underlying42 hi hz0 hz1 hz2 rfl (by decide) v _ _ hs' hown ad l.length cap (l.map (Value.int .u8)) hx (by simp) ?_ ?_ ?_ ?_ hbase ?_
    · intro j y hy
      have hj : j < l.length := by
        rcases Nat.lt_or_ge j l.length with h | h
        · exact h
        · rw [List.getElem?_eq_none (by simpa using h)] at hy; cases hy
      obtain ⟨g, off, ha, _, hcell⟩ := hc (by omega)
      obtain rfl := Option.some.inj ha
      rw [add_at, hcell j hj]
      simp [hj] at hy
      rw [← hy]
    · intro y hy
      obtain ⟨c, _, rfl⟩ := List.mem_map.1 hy
      rfl
    · unfold maxLen; omega
    · omega
    · intro v' w' h1 h2 _
      have H := h v' w' (by simpa using h1) h2
      exact hK.out _ _ H.1 (fun _ => H.2)
/-- The piece of an item. -/
def pcOf (m : List Int) : Pc := ⟨2, 0, 0, m, .slice none 0 0, 0, []⟩
theorem pcOf_ok {m : List Int} (w : World) (h : m.length = 8) (hb : M.Bytes m) : (pcOf m).Ok w := ⟨h, hb, by show (0 : Int) ≤ 0; decide, by show (0 : Int) < _; decide, by show (0 : Int) ≤ 0; decide, by show (0 : Int) < _; decide, by show (0 : Int) < _; decide, bytes_nil w⟩
theorem pcOf_enc (m : List Int) : (pcOf m).enc = ((M.text m).length : Int) :: M.text m := rfl
end Go.Proofs.Yteggjihhjdeieaa
