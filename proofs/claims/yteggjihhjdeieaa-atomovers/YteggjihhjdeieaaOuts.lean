/- The contracts of Out of a piece and of All of the reference. -/
import Derived.Test.YteggjihhjdeieaaPieceLaws
namespace Go.Proofs.Yteggjihhjdeieaa
open Go.RowKit

/-- append of bytes, as a step of a region that draws its order. -/
theorem step_app_bytes {ops : Array Oper} {o : Oper} {a : Act} {K : Act → World → Prop} {Q : Exit → Act → World → Prop} {E : Prop} (w : World) (hgd : o.guard = none) (s x : Operand)
    (ho : o.op = .call { callee := .builtin .append, args := #[s, x], argTypes := #[42, 42] }) (base : Nat) (v u : Value) (acc l : List Int)
    (hs : a.eval s = v) (hown : w.ownsRow base 5 1 v acc.length (acc.map (Value.int .u8))) (hx : a.eval x = u) (hu : BytesAt w u l) (hn : acc.length + l.length ≤ 30000) (hbase : base ≤ w.heap.size)
    (h : ∀ v' w', w'.ownsRow base 5 1 v' (acc ++ l).length ((acc ++ l).map (Value.int .u8)) → Below base w w' → K (a.put o.dst v') w') :
    if Region.wanted o (yielded ops a.tmps) = true then Oper.wp Try.prog o a w K Q else E := by
  have hw : Region.wanted o (yielded ops a.tmps) = true := by simp [Region.wanted, hgd]
  rw [if_pos hw]
  obtain ⟨i0, hi, hz0, hz1, hz2⟩ := info_parts info5
  obtain ⟨ad, cap, rfl, hcap, _, hc⟩ := hu
  rcases ad with _ | ad
  · have h0 : l = [] := by
      cases l with
      | nil => rfl
      | cons c r => obtain ⟨g, off, ha, _⟩ := hc (by simp); cases ha
    subst h0
    have hc0 := hcap.2 rfl
    subst hc0
    have hrun := run_append_owned_none (P := Try.prog) (w := w) base 42 o.type 5 i0 1 Try.underlying42 hi v _ _ hown
    have hx' : a.eval x = .slice none 0 0 := hx
    unfold Oper.wp
    simp [execOp, ho, resolve, invoke, builtin, hs, hx', hrun, Result.andThen]
    exact h v w (by simpa using hown) (Below.refl _ _)
  · refine wp_append_own w s x 42 ho base 5 i0 (.int .u8 0) 1 1 Try.underlying42 hi hz0 hz1 hz2 rfl (by decide) v _ _ hs hown ad l.length cap (l.map (Value.int .u8)) hx (by simp) ?_ ?_ ?_ ?_ hbase ?_
    · intro j y hy
      have hj : j < l.length := by
        rcases Nat.lt_or_ge j l.length with h | h
        · exact h
        · rw [List.getElem?_eq_none (by simpa using h)] at hy; cases hy
      obtain ⟨g, off, ha, _, hcell⟩ := hc (by omega)
      obtain rfl := Option.some.inj ha
      rw [add_at, hcell j hj]
      simp [hj] at hy
      rw [← hy]
    · intro y hy
      obtain ⟨c, _, rfl⟩ := List.mem_map.1 hy
      rfl
    · unfold maxLen; omega
    · omega
    · intro v' w' h1 h2 _
      refine h v' w' (by simpa using h1) ?_
      exact (Below.refl base w).grown h2 hbase (fun k hk => (hown.lt k hk).1)
theorem strCells_is (t : List Int) (hb : M.Bytes t) : Lib.strCells (strOfNums t) = t.map (Value.int .u8) := by
  have h := M.nums_str hb
  unfold M.nums at h
  have h2 := congrArg (List.map (Value.int .u8)) h
  rw [List.map_map] at h2
  exact h2
/-- append of a string's bytes. -/
theorem app_text {ops : Array Oper} {rest : List Oper} {o : Oper} {a : Act} {Q : Exit → Act → World → Prop} (w : World) (hgd : o.guard = none) (s x : Operand)
    (ho : o.op = .call { callee := .builtin .append, args := #[s, x], argTypes := #[42, 9] }) (base : Nat) (v : Value) (str : ByteArray) (acc t : List Int)
    (hs : a.eval s = v) (hown : w.ownsRow base 5 1 v acc.length (acc.map (Value.int .u8))) (hx : a.eval x = .string str) (hstr : str = strOfNums t) (hb : M.Bytes t) (hn : acc.length + t.length ≤ 30000) (hbase : base ≤ w.heap.size)
    (h : ∀ v' w', w'.ownsRow base 5 1 v' (acc ++ t).length ((acc ++ t).map (Value.int .u8)) → Below base w w' → wpList Try.prog ops Q rest (a.put o.dst v') w') :
    wpList Try.prog ops Q (o :: rest) a w := by
  subst hstr
  have hsz : (strOfNums t).size = t.length := strOfNums_size t
  obtain ⟨i0, hi, hz0, hz1, hz2⟩ := info_parts info5
  refine Lib.wpList_append_own_string (w := w) hgd s x 42 9 ho base 5 i0 Try.underlying42 Try.underlying9 hi hz0 hz1 hz2 v _ _ hs hown _ hx ?_ ?_ hbase ?_
  · rw [hsz]; unfold maxLen; omega
  · rw [hsz]; omega
  · intro v' w' h1 h2 _
    rw [hsz, strCells_is t hb] at h1
    exact h v' w' (by simpa using h1) ((Below.refl base w).grown h2 hbase (fun k hk => (hown.lt k hk).1))
theorem undrew {w w' : World} (h : Below w.drew.heap.size w.drew w') : Below w.heap.size w w' := ⟨h.os, h.tape, h.output, h.size, h.block⟩
end Go.Proofs.Yteggjihhjdeieaa
