/- append onto a row of bytes of the call's own; the contract of Var of the reference. -/
import Derived.Test.YteggjihhjdeieaaGreatVars
import Derived.Laws.AppendOwn
import Derived.Laws.AppendOwnNone
import Derived.OwnWalk
namespace Go.Proofs.YteggjihhjdeieaaGreat
open Go.RowKit

theorem add_at (g off j : Nat) : (⟨g, off, none⟩ : Addr).add j = ⟨g, off + j, none⟩ := by
  unfold Addr.add
  by_cases h : j = 0 <;> simp [h]
theorem owns_below {w w' : World} {B e n : Nat} {v : Value} {xs : List Value} (h : w.ownsRow B e 1 v n xs) (hb : Below w.heap.size w w') : w'.ownsRow B e 1 v n xs :=
  h.kept (row := none) ⟨hb.os, hb.tape, hb.output, hb.size, fun k hk _ => hb.block k hk⟩ (by cases hv : v.ownBlock <;> simp)
/-- append of bytes to a row of bytes of the call's own. -/
theorem app_bytes {ops : Array Oper} {rest : List Oper} {o : Oper} {a : Act} {Q : Exit → Act → World → Prop} (w : World) (hgd : o.guard = none) (s x : Operand)
    (ho : o.op = .call { callee := .builtin .append, args := #[s, x], argTypes := #[33, 33] }) (base : Nat) (v u : Value) (acc l : List Int)
    (hs : a.eval s = v) (hown : w.ownsRow base 5 1 v acc.length (acc.map (Value.int .u8))) (hx : a.eval x = u) (hu : BytesAt w u l) (hn : acc.length + l.length ≤ 30000) (hbase : base ≤ w.heap.size)
    (h : ∀ v' w', w'.ownsRow base 5 1 v' (acc ++ l).length ((acc ++ l).map (Value.int .u8)) → Below base w w' → wpList Tryz.prog ops Q rest (a.put o.dst v') w') :
    wpList Tryz.prog ops Q (o :: rest) a w := by
  obtain ⟨i0, hi, hz0, hz1, hz2⟩ := info_parts info5
  obtain ⟨ad, cap, rfl, hcap, _, hc⟩ := hu
  rcases ad with _ | ad
  · have h0 : l = [] := by
      cases l with
      | nil => rfl
      | cons c r => obtain ⟨g, off, ha, _⟩ := hc (by simp); cases ha
    subst h0
    have hc0 := hcap.2 rfl
    subst hc0
    refine wpList_append_own_none hgd s x 33 ho base 5 i0 1 Tryz.underlying33 hi v _ _ hs hown hx ?_
    exact h v w (by simpa using hown) (Below.refl _ _)
  · refine wpList_append_own _ hgd s x 33 ho base 5 i0 (.int .u8 0) 1 1 Tryz.underlying33 hi hz0 hz1 hz2 rfl (by decide) v _ _ hs hown ad l.length cap (l.map (Value.int .u8)) hx (by simp) ?_ ?_ ?_ ?_ hbase ?_
    · intro j y hy
      have hj : j < l.length := by
        rcases Nat.lt_or_ge j l.length with h | h
        · exact h
        · rw [List.getElem?_eq_none (by simpa using h)] at hy; cases hy
      obtain ⟨g, off, ha, _, hcell⟩ := hc (by omega)
      obtain rfl := Option.some.inj ha
      rw [add_at, hcell j hj]
      simp [hj] at hy
      rw [← hy]
    · intro y hy
      obtain ⟨c, _, rfl⟩ := List.mem_map.1 hy
      rfl
    · unfold maxLen; omega
    · omega
    · intro v' w' h1 h2 _
      refine h v' w' (by simpa using h1) ?_
      exact (Below.refl base w).grown h2 hbase (fun k hk => (hown.lt k hk).1)
theorem owns_one (w : World) (c : Int) (base : Nat) (hb : base ≤ w.heap.size) : (w.alloc (.cells #[.int .u8 c] 5)).ownsRow base 5 1 (.slice (some ⟨w.heap.size, 0, none⟩) 1 1) [c].length ([c].map (Value.int .u8)) :=
  World.ownsRow_lit w #[.int .u8 c] 1 hb (by decide) rfl
theorem bytes_one (w : World) (c : Int) (h0 : 0 ≤ c) (h1 : c < 256) : BytesAt (w.alloc (.cells #[.int .u8 c] 5)) (.slice (some ⟨w.heap.size, 0, none⟩) 1 1) [c] :=
  bytes_of_owns (owns_one w c w.heap.size (Nat.le_refl _)) (fun y hy => by obtain rfl := List.mem_singleton.1 hy; exact ⟨h0, h1⟩)
def GivesOwn (w : World) (l : List Int) (e : Ending) (w' : World) : Prop := ∃ v, e = .returned v ∧ w'.ownsRow w.heap.size 5 1 v l.length (l.map (Value.int .u8)) ∧ Below w.heap.size w w'
set_option maxRecDepth 100000 in
theorem refVar_own (x : Int) (h0 : 0 ≤ x) : ∀ w : World, x < 18446744073709551616 → Calls Tryz.prog 20 #[.int .u64 x] w (GivesOwn w (M.var x)) := by
  refine M.var_ind (P := fun x => ∀ w : World, x < 18446744073709551616 → Calls Tryz.prog 20 #[.int .u64 x] w (GivesOwn w (M.var x))) ?_ ?_ x h0
  · intro x h0 hlt w h1
    rw [M.var_lt x h0 hlt]
    have ho := Lib.hid (owns_one w x w.heap.size (Nat.le_refl _))
    go_enter Tryz.func20, Tryz.ntmps20
    go_wp2_with fail
    go_ret
    exact ⟨_, rfl, ho.out, (Below.refl _ _).alloc (Nat.le_refl _) _⟩
  · intro x hge ih w h1
    have hlen := M.var_ten (x / 128) (by omega) (by omega)
    have hbs := Lib.hid (M.var_bytes (x / 128) (by omega))
    have ih' := Lib.hid ih
    clear ih
    rw [M.var_ge x hge]
    generalize M.var (x / 128) = l at *
    have ho := Lib.hid (owns_one w (128 + x % 128) w.heap.size (Nat.le_refl _))
    go_enter Tryz.func20, Tryz.ntmps20
    go_wp2_with fail
    refine (ih'.out _ (by omega)).mono ?_
    rintro e w2 ⟨v2, rfl, hown2, hb2⟩
    have HO := Lib.hid (owns_below ho.out hb2)
    have HB := Lib.hid (bytes_of_owns hown2 hbs.out)
    have hsz := hb2.size
    simp at hsz
    have HB2 := Lib.hid hb2
    clear hown2 hb2
    go_wp2_with ((at_builtin; refine app_bytes _ rfl (.tmp 12) (.tmp 15) rfl w.heap.size _ _ [128 + x % 128] l rfl HO.out rfl HB.out (by simp; omega) (by omega) ?_; intro v' w1 hown1 hbel1; have HO1 := Lib.hid hown1; clear hown1))
    go_ret
    exact ⟨_, rfl, HO1.out, (((Below.refl w.heap.size w).alloc (Nat.le_refl _) _).trans (HB2.out.mono (by simp))).trans hbel1⟩
theorem refVar_is (x : Int) (w : World) (h0 : 0 ≤ x) (h1 : x < 18446744073709551616) : Calls Tryz.prog 20 #[.int .u64 x] w (GivesBytes w (M.var x)) :=
  (refVar_own x h0 w h1).mono fun _ _ ⟨v, he, ho, hb⟩ => ⟨v, he, bytes_of_owns ho (M.var_bytes x h0), hb⟩
end Go.Proofs.YteggjihhjdeieaaGreat
