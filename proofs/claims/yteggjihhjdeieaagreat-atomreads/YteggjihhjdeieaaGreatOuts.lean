/- The contracts of Out of a piece and of All of the reference. -/
import Derived.Test.YteggjihhjdeieaaGreatPieceLaws
namespace Go.Proofs.YteggjihhjdeieaaGreat
open Go.RowKit

/-- append of bytes, as a step of a region that draws its order. -/
theorem step_app_bytes {ops : Array Oper} {o : Oper} {a : Act} {K : Act → World → Prop} {Q : Exit → Act → World → Prop} {E : Prop} (w : World) (hgd : o.guard = none) (s x : Operand)
    (ho : o.op = .call { callee := .builtin .append, args := #[s, x], argTypes := #[33, 33] }) (base : Nat) (v u : Value) (acc l : List Int)
    (hs : a.eval s = v) (hown : w.ownsRow base 5 1 v acc.length (acc.map (Value.int .u8))) (hx : a.eval x = u) (hu : BytesAt w u l) (hn : acc.length + l.length ≤ 30000) (hbase : base ≤ w.heap.size)
    (h : ∀ v' w', w'.ownsRow base 5 1 v' (acc ++ l).length ((acc ++ l).map (Value.int .u8)) → Below base w w' → K (a.put o.dst v') w') :
    if Region.wanted o (yielded ops a.tmps) = true then Oper.wp Tryz.prog o a w K Q else E := by
  have hw : Region.wanted o (yielded ops a.tmps) = true := by simp [Region.wanted, hgd]
  rw [if_pos hw]
  obtain ⟨i0, hi, hz0, hz1, hz2⟩ := info_parts info5
  obtain ⟨ad, cap, rfl, hcap, _, hc⟩ := hu
  rcases ad with _ | ad
  · have h0 : l = [] := by
      cases l with
      | nil => rfl
      | cons c r => obtain ⟨g, off, ha, _⟩ := hc (by simp); cases ha
    subst h0
    have hc0 := hcap.2 rfl
    subst hc0
    have hrun := run_append_owned_none (P := Tryz.prog) (w := w) base 33 o.type 5 i0 1 Tryz.underlying33 hi v _ _ hown
    have hx' : a.eval x = .slice none 0 0 := hx
    unfold Oper.wp
    simp [execOp, ho, resolve, invoke, builtin, hs, hx', hrun, Result.andThen]
    exact h v w (by simpa using hown) (Below.refl _ _)
  · refine wp_append_own w s x 33 ho base 5 i0 (.int .u8 0) 1 1 Tryz.underlying33 hi hz0 hz1 hz2 rfl (by decide) v _ _ hs hown ad l.length cap (l.map (Value.int .u8)) hx (by simp) ?_ ?_ ?_ ?_ hbase ?_
    · intro j y hy
      have hj : j < l.length := by
        rcases Nat.lt_or_ge j l.length with h | h
        · exact h
        · rw [List.getElem?_eq_none (by simpa using h)] at hy; cases hy
      obtain ⟨g, off, ha, _, hcell⟩ := hc (by omega)
      obtain rfl := Option.some.inj ha
      rw [add_at, hcell j hj]
      simp [hj] at hy
      rw [← hy]
    · intro y hy
      obtain ⟨c, _, rfl⟩ := List.mem_map.1 hy
      rfl
    · unfold maxLen; omega
    · omega
    · intro v' w' h1 h2 _
      refine h v' w' (by simpa using h1) ?_
      exact (Below.refl base w).grown h2 hbase (fun k hk => (hown.lt k hk).1)
theorem strCells_is (t : List Int) (hb : M.Bytes t) : Lib.strCells (strOfNums t) = t.map (Value.int .u8) := by
  have h := M.nums_str hb
  unfold M.nums at h
  have h2 := congrArg (List.map (Value.int .u8)) h
  rw [List.map_map] at h2
  exact h2
/-- append of a string's bytes. -/
theorem app_text {ops : Array Oper} {rest : List Oper} {o : Oper} {a : Act} {Q : Exit → Act → World → Prop} (w : World) (hgd : o.guard = none) (s x : Operand)
    (ho : o.op = .call { callee := .builtin .append, args := #[s, x], argTypes := #[33, 9] }) (base : Nat) (v : Value) (str : ByteArray) (acc t : List Int)
    (hs : a.eval s = v) (hown : w.ownsRow base 5 1 v acc.length (acc.map (Value.int .u8))) (hx : a.eval x = .string str) (hstr : str = strOfNums t) (hb : M.Bytes t) (hn : acc.length + t.length ≤ 30000) (hbase : base ≤ w.heap.size)
    (h : ∀ v' w', w'.ownsRow base 5 1 v' (acc ++ t).length ((acc ++ t).map (Value.int .u8)) → Below base w w' → wpList Tryz.prog ops Q rest (a.put o.dst v') w') :
    wpList Tryz.prog ops Q (o :: rest) a w := by
  subst hstr
  have hsz : (strOfNums t).size = t.length := strOfNums_size t
  obtain ⟨i0, hi, hz0, hz1, hz2⟩ := info_parts info5
  refine Lib.wpList_append_own_string (w := w) hgd s x 33 9 ho base 5 i0 Tryz.underlying33 Tryz.underlying9 hi hz0 hz1 hz2 v _ _ hs hown _ hx ?_ ?_ hbase ?_
  · rw [hsz]; unfold maxLen; omega
  · rw [hsz]; omega
  · intro v' w' h1 h2 _
    rw [hsz, strCells_is t hb] at h1
    exact h v' w' (by simpa using h1) ((Below.refl base w).grown h2 hbase (fun k hk => (hown.lt k hk).1))
theorem out0 (p : Pc) (w : World) (hp : p.Ok w) (hd : p.d = 0) : Calls Tryz.prog 21 #[.agg p.cells.toArray] w (GivesBytes w p.enc) := by
  have q := blk_alloc w 56 p.cells
  have c0 := q.cell (cells0 p)
  have c1 := q.cell (cells1 p)
  have B0 := Lib.hid (new_below w (.cells p.cells.toArray 56))
  have HP := Lib.hid hp
  have HE := Lib.hid (show M.var p.x = p.enc by unfold Pc.enc M.enc; rw [if_pos hd])
  clear q hp
  go_enter Tryz.func21, Tryz.ntmps21
  go_wp2_with fail
  refine (refVar_is p.x _ HP.out.x0 HP.out.x1).mono ?_
  rintro r w1 ⟨v, rfl, hv, hb1⟩
  rw [HE.out] at hv
  have V1 := Lib.hid hv
  have B1 := Lib.hid (step_ B0.out hb1)
  clear hv hb1
  go_wp2_with fail
  go_ret
  exact ⟨_, rfl, V1.out, B1.out⟩
theorem out1 (p : Pc) (w : World) (hp : p.Ok w) (hd : p.d = 1) : Calls Tryz.prog 21 #[.agg p.cells.toArray] w (GivesBytes w p.enc) := by
  have q := blk_alloc w 56 p.cells
  have c0 := q.cell (cells0 p)
  have c1 := q.cell (cells2 p)
  have B0 := Lib.hid (new_below w (.cells p.cells.toArray 56))
  have HP := Lib.hid hp
  have HE := Lib.hid (show [p.c] = p.enc by unfold Pc.enc M.enc; rw [if_neg (by omega), if_pos hd])
  have V1 := Lib.hid (bytes_one (w.alloc (.cells p.cells.toArray 56)) p.c hp.c0 hp.c1)
  clear q hp
  go_enter Tryz.func21, Tryz.ntmps21
  go_wp2_with fail
  go_ret
  refine ⟨_, rfl, HE.out ▸ ?_, step_ B0.out (new_below _ _)⟩
  simpa using V1.out
set_option maxRecDepth 100000 in
theorem out2 (p : Pc) (w : World) (hp : p.Ok w) (hd : p.d = 2) : Calls Tryz.prog 21 #[.agg p.cells.toArray] w (GivesBytes w p.enc) := by
  have q := blk_alloc w 56 p.cells
  have c0 := q.cell (cells0 p)
  have HQ := Lib.hid (q.nm hp.ml)
  have B0 := Lib.hid (new_below w (.cells p.cells.toArray 56))
  have HP := Lib.hid hp
  have HE := Lib.hid (show ((M.text p.m).length : Int) :: M.text p.m = p.enc by unfold Pc.enc M.enc; rw [if_neg (by omega), if_neg (by omega), if_pos hd])
  obtain ⟨s, hs⟩ : ∃ s, s = strOfNums (M.text p.m) := ⟨_, rfl⟩
  have hsz : s.size = (M.text p.m).length := by rw [hs, strOfNums_size]
  have ht : (M.text p.m).length ≤ 8 := hp.ml ▸ M.text_len p.m
  have HS := Lib.hid hs
  have HT := Lib.hid (M.text_bytes hp.mb)
  have HY := Lib.hid (show M.Bytes (((M.text p.m).length : Int) :: M.text p.m) from fun y hy => by
    rcases List.mem_cons.1 hy with rfl | hy
    · omega
    · exact HT.out y hy)
  clear q hp hs
  go_enter Tryz.func21, Tryz.ntmps21
  go_wp2_with (refine wpList_load_nm rfl _ rfl w.heap.size 3 p.m rfl HQ.out HP.out.ml ?_)
  refine (refText_is p.m s _ HP.out.ml HS).mono ?_
  rintro r w1 ⟨rfl, c1⟩
  have B1 := Lib.hid (step_ B0.out c1)
  have W1 := Lib.hid (owns_one w1 ((M.text p.m).length : Int) w1.heap.size (Nat.le_refl _))
  clear c1
  go_wp2_with ((at_builtin; refine app_text _ rfl (.tmp 24) (.tmp 25) rfl w1.heap.size _ s [((M.text p.m).length : Int)] (M.text p.m) rfl W1.out rfl HS.out HT.out (by simp; omega) (by simp) ?_; intro v2 w2 hown2 hbel2; have V2 := Lib.hid (bytes_of_owns hown2 HY.out); have B2 := Lib.hid (step_ B1.out ((new_below w1 _).trans hbel2)); clear hown2 hbel2))
  go_ret
  exact ⟨_, rfl, HE.out ▸ V2.out, B2.out⟩
theorem undrew {w w' : World} (h : Below w.drew.heap.size w.drew w') : Below w.heap.size w w' := ⟨h.os, h.tape, h.output, h.size, h.block⟩
end Go.Proofs.YteggjihhjdeieaaGreat
