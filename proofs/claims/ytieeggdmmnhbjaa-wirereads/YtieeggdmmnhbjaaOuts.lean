/- The contracts of Out of a piece and of All of the reference. -/
import Derived.Test.YtieeggdmmnhbjaaPieceLaws
namespace Go.Proofs.Ytieeggdmmnhbjaa
open Go.RowKit

/-- append of bytes, as a step of a region that draws its order. -/
theorem step_app_bytes {ops : Array Oper} {o : Oper} {a : Act} {K : Act → World → Prop} {Q : Exit → Act → World → Prop} {E : Prop} (w : World) (hgd : o.guard = none) (s x : Operand)
    (ho : o.op = .call { callee := .builtin .append, args := #[s, x], argTypes := #[31, 31] }) (base : Nat) (v u : Value) (acc l : List Int)
    (hs : a.eval s = v) (hown : w.ownsRow base 5 1 v acc.length (acc.map (Value.int .u8))) (hx : a.eval x = u) (hu : BytesAt w u l) (hn : acc.length + l.length ≤ 30000) (hbase : base ≤ w.heap.size)
    (h : ∀ v' w', w'.ownsRow base 5 1 v' (acc ++ l).length ((acc ++ l).map (Value.int .u8)) → Below base w w' → K (a.put o.dst v') w') :
    if Region.wanted o (yielded ops a.tmps) = true then Oper.wp Try.prog o a w K Q else E := by
  have hw : Region.wanted o (yielded ops a.tmps) = true := by simp [Region.wanted, hgd]
  rw [if_pos hw]
  obtain ⟨i0, hi, hz0, hz1, hz2⟩ := info_parts info5
  obtain ⟨ad, cap, rfl, hcap, _, hc⟩ := hu
  rcases ad with _ | ad
  · have h0 : l = [] := by
      cases l with
      | nil => rfl
      | cons c r => obtain ⟨g, off, ha, _⟩ := hc (by simp); cases ha
    subst h0
    have hc0 := hcap.2 rfl
    subst hc0
    have hrun := run_append_owned_none (P := Try.prog) (w := w) base 31 o.type 5 i0 1 Try.underlying31 hi v _ _ hown
    have hx' : a.eval x = .slice none 0 0 := hx
    unfold Oper.wp
    simp [execOp, ho, resolve, invoke, builtin, hs, hx', hrun, Result.andThen]
    exact h v w (by simpa using hown) (Below.refl _ _)
  · refine wp_append_own w s x 31 ho base 5 i0 (.int .u8 0) 1 1 Try.underlying31 hi hz0 hz1 hz2 rfl (by decide) v _ _ hs hown ad l.length cap (l.map (Value.int .u8)) hx (by simp) ?_ ?_ ?_ ?_ hbase ?_
    · intro j y hy
      have hj : j < l.length := by
        rcases Nat.lt_or_ge j l.length with h | h
        · exact h
        · rw [List.getElem?_eq_none (by simpa using h)] at hy; cases hy
      obtain ⟨g, off, ha, _, hcell⟩ := hc (by omega)
      obtain rfl := Option.some.inj ha
      rw [add_at, hcell j hj]
      simp [hj] at hy
      rw [← hy]
    · intro y hy
      obtain ⟨c, _, rfl⟩ := List.mem_map.1 hy
      rfl
    · unfold maxLen; omega
    · omega
    · intro v' w' h1 h2 _
      refine h v' w' (by simpa using h1) ?_
      exact (Below.refl base w).grown h2 hbase (fun k hk => (hown.lt k hk).1)
theorem strCells_is (t : List Int) (hb : M.Bytes t) : Lib.strCells (strOfNums t) = t.map (Value.int .u8) := by
  have h := M.nums_str hb
  unfold M.nums at h
  have h2 := congrArg (List.map (Value.int .u8)) h
  rw [List.map_map] at h2
  exact h2
/-- append of a string's bytes. -/
theorem app_text {ops : Array Oper} {rest : List Oper} {o : Oper} {a : Act} {Q : Exit → Act → World → Prop} (w : World) (hgd : o.guard = none) (s x : Operand)
    (ho : o.op = .call { callee := .builtin .append, args := #[s, x], argTypes := #[31, 9] }) (base : Nat) (v : Value) (str : ByteArray) (acc t : List Int)
    (hs : a.eval s = v) (hown : w.ownsRow base 5 1 v acc.length (acc.map (Value.int .u8))) (hx : a.eval x = .string str) (hstr : str = strOfNums t) (hb : M.Bytes t) (hn : acc.length + t.length ≤ 30000) (hbase : base ≤ w.heap.size)
    (h : ∀ v' w', w'.ownsRow base 5 1 v' (acc ++ t).length ((acc ++ t).map (Value.int .u8)) → Below base w w' → wpList Try.prog ops Q rest (a.put o.dst v') w') :
    wpList Try.prog ops Q (o :: rest) a w := by
  subst hstr
  have hsz : (strOfNums t).size = t.length := strOfNums_size t
  obtain ⟨i0, hi, hz0, hz1, hz2⟩ := info_parts info5
  refine Lib.wpList_append_own_string (w := w) hgd s x 31 9 ho base 5 i0 Try.underlying31 Try.underlying9 hi hz0 hz1 hz2 v _ _ hs hown _ hx ?_ ?_ hbase ?_
  · rw [hsz]; unfold maxLen; omega
  · rw [hsz]; omega
  · intro v' w' h1 h2 _
    rw [hsz, strCells_is t hb] at h1
    exact h v' w' (by simpa using h1) ((Below.refl base w).grown h2 hbase (fun k hk => (hown.lt k hk).1))
theorem out0 (p : Pc) (w : World) (hp : p.Ok w) (hd : p.d = 0) : Calls Try.prog 28 #[.agg p.cells.toArray] w (GivesBytes w p.enc) := by
  have q := blk_alloc w 33 p.cells
  have c0 := q.cell (cells0 p)
  have c1 := q.cell (cells1 p)
  have B0 := Lib.hid (new_below w (.cells p.cells.toArray 33))
  have HP := Lib.hid hp
  have HE := Lib.hid (show M.var p.x = p.enc by unfold Pc.enc M.enc; rw [if_pos hd])
  clear q hp
  go_enter Try.func28, Try.ntmps28
  go_wp2_with fail
  refine (refVar_is p.x _ HP.out.x0 HP.out.x1).mono ?_
  rintro r w1 ⟨v, rfl, hv, hb1⟩
  rw [HE.out] at hv
  have V1 := Lib.hid hv
  have B1 := Lib.hid (step_ B0.out hb1)
  clear hv hb1
  go_wp2_with fail
  go_ret
  exact ⟨_, rfl, V1.out, B1.out⟩
theorem out1 (p : Pc) (w : World) (hp : p.Ok w) (hd : p.d = 1) : Calls Try.prog 28 #[.agg p.cells.toArray] w (GivesBytes w p.enc) := by
  have q := blk_alloc w 33 p.cells
  have c0 := q.cell (cells0 p)
  have c1 := q.cell (cells2 p)
  have B0 := Lib.hid (new_below w (.cells p.cells.toArray 33))
  have HP := Lib.hid hp
  have HE := Lib.hid (show [p.c] = p.enc by unfold Pc.enc M.enc; rw [if_neg (by omega), if_pos hd])
  have V1 := Lib.hid (bytes_one (w.alloc (.cells p.cells.toArray 33)) p.c hp.c0 hp.c1)
  clear q hp
  go_enter Try.func28, Try.ntmps28
  go_wp2_with fail
  go_ret
  refine ⟨_, rfl, HE.out ▸ ?_, step_ B0.out (new_below _ _)⟩
  simpa using V1.out
set_option maxRecDepth 100000 in
theorem out2 (p : Pc) (w : World) (hp : p.Ok w) (hd : p.d = 2) : Calls Try.prog 28 #[.agg p.cells.toArray] w (GivesBytes w p.enc) := by
  have q := blk_alloc w 33 p.cells
  have c0 := q.cell (cells0 p)
  have HQ := Lib.hid (q.nm hp.ml)
  have B0 := Lib.hid (new_below w (.cells p.cells.toArray 33))
  have HP := Lib.hid hp
  have HE := Lib.hid (show ((M.text p.m).length : Int) :: M.text p.m = p.enc by unfold Pc.enc M.enc; rw [if_neg (by omega), if_neg (by omega), if_pos hd])
  obtain ⟨s, hs⟩ : ∃ s, s = strOfNums (M.text p.m) := ⟨_, rfl⟩
  have hsz : s.size = (M.text p.m).length := by rw [hs, strOfNums_size]
  have ht : (M.text p.m).length ≤ 8 := hp.ml ▸ M.text_len p.m
  have HS := Lib.hid hs
  have HT := Lib.hid (M.text_bytes hp.mb)
  have HY := Lib.hid (show M.Bytes (((M.text p.m).length : Int) :: M.text p.m) from fun y hy => by
    rcases List.mem_cons.1 hy with rfl | hy
    · omega
    · exact HT.out y hy)
  clear q hp hs
  go_enter Try.func28, Try.ntmps28
  go_wp2_with (refine wpList_load_nm rfl _ rfl w.heap.size 3 p.m rfl HQ.out HP.out.ml ?_)
  refine (refText_is p.m s _ HP.out.ml HS).mono ?_
  rintro r w1 ⟨rfl, c1⟩
  have B1 := Lib.hid (step_ B0.out c1)
  have W1 := Lib.hid (owns_one w1 ((M.text p.m).length : Int) w1.heap.size (Nat.le_refl _))
  clear c1
  go_wp2_with ((at_builtin; refine app_text _ rfl (.tmp 24) (.tmp 25) rfl w1.heap.size _ s [((M.text p.m).length : Int)] (M.text p.m) rfl W1.out rfl HS.out HT.out (by simp; omega) (by simp) ?_; intro v2 w2 hown2 hbel2; have V2 := Lib.hid (bytes_of_owns hown2 HY.out); have B2 := Lib.hid (step_ B1.out ((new_below w1 _).trans hbel2)); clear hown2 hbel2))
  go_ret
  exact ⟨_, rfl, HE.out ▸ V2.out, B2.out⟩
theorem undrew {w w' : World} (h : Below w.drew.heap.size w.drew w') : Below w.heap.size w w' := ⟨h.os, h.tape, h.output, h.size, h.block⟩
set_option maxRecDepth 100000 in
theorem out3 (p : Pc) (w : World) (hp : p.Ok w) (hb : p.b.length ≤ 1000) (hd0 : ¬ p.d = 0) (hd1 : ¬ p.d = 1) (hd2 : ¬ p.d = 2) : Calls Try.prog 28 #[.agg p.cells.toArray] w (GivesBytes w p.enc) := by
  obtain ⟨a, cap, hv⟩ : ∃ a cap, p.v = .slice a p.b.length cap := by obtain ⟨a, cap, e, _⟩ := hp.vb; exact ⟨a, cap, e⟩
  have q := blk_alloc w 33 p.cells
  have c0 := q.cell (cells0 p)
  have c1 := q.cell (cells11 hp.ml)
  rw [hv] at c1
  have B0 := Lib.hid (new_below w (.cells p.cells.toArray 33))
  have HE := Lib.hid (show M.var p.b.length ++ p.b = p.enc by unfold Pc.enc M.enc; rw [if_neg hd0, if_neg hd1, if_neg hd2])
  have HU := Lib.hid (hv ▸ hp.vb.below B0.out)
  have HY := Lib.hid ((M.var_bytes (p.b.length : Int) (by omega)).app hp.vb.bytes)
  have HV := Lib.hid (M.var_ten (p.b.length : Int) (by omega) (by omega))
  have g0 : (0 : Int) ≤ (p.b.length : Int) := by omega
  have g1 : (p.b.length : Int) ≤ 1000 := by omega
  have g2 : IntKind.u64.wrap (p.b.length : Int) = (p.b.length : Int) := by rw [IntKind.wrap_u64]; omega
  clear q hp
  go_enter Try.func28, Try.ntmps28
  go_wp2_with fail
  go_region_held3 (fun w' => w'.cell? ⟨w.heap.size, 11, none⟩ = some (.slice a p.b.length cap)) (first | assumption | exact S1) (first
    | (go_at_call 41; refine (refVar_own (p.b.length : Int) g0 _ (by omega)).mono ?_; rintro r w1 ⟨v1, rfl, hown1, hb0⟩; have hb1 := undrew hb0; have W1 := Lib.hid hown1; have B1 := Lib.hid hb1; have S1 : w1.cell? ⟨w.heap.size, 11, none⟩ = some (.slice a p.b.length cap) := (hb1.cell (p := ⟨w.heap.size, 11, none⟩) (by simp)).trans c1; have U1 := Lib.hid (HU.out.below hb1); clear hown1 hb0 hb1)
    | (refine step_app_bytes _ rfl (.tmp 31) (.tmp 33) rfl _ _ _ (M.var p.b.length) p.b rfl W1.out rfl U1.out (by have := HV.out; omega) B1.out.size ?_; intro v2 w2 hown2 hbel2; have V2 := Lib.hid (bytes_of_owns hown2 HY.out); have B2 := Lib.hid hbel2; have S1 : w2.cell? ⟨w.heap.size, 11, none⟩ = some (.slice a p.b.length cap) := (hbel2.cell (p := ⟨w.heap.size, 11, none⟩) (by simp)).trans S1; clear hown2 hbel2))
  go_wp2
  go_ret
  exact ⟨_, rfl, HE.out ▸ V2.out, step_ B0.out (B1.out.trans B2.out)⟩
theorem outP_is (p : Pc) (w : World) (hp : p.Ok w) (hb : p.b.length ≤ 1000) : Calls Try.prog 28 #[.agg p.cells.toArray] w (GivesBytes w p.enc) := by
  by_cases h0 : p.d = 0
  · exact out0 p w hp h0
  · by_cases h1 : p.d = 1
    · exact out1 p w hp h1
    · by_cases h2 : p.d = 2
      · exact out2 p w hp h2
      · exact out3 p w hp hb h0 h1 h2
/-- All that pieces are written as. -/
def encs (ps : List Pc) : List Int := (ps.map Pc.enc).flatten
theorem encs_take (ps : List Pc) (k : Nat) (h : k < ps.length) : encs (ps.take (k + 1)) = encs (ps.take k) ++ ps[k].enc := by
  unfold encs
  rw [List.take_succ_eq_append_getElem h, List.map_append, List.flatten_append]
  simp only [List.map_cons, List.map_nil, List.flatten_cons, List.flatten_nil, List.append_nil]
theorem encs_len {ps : List Pc} {w : World} (hok : ∀ p ∈ ps, p.Ok w) (hf : Few ps) : (encs ps).length ≤ 70 * ps.length := by
  have h : ∀ (l : List Pc), (∀ p ∈ l, p ∈ ps) → (encs l).length ≤ 70 * l.length := by
    intro l
    induction l with
    | nil => intro _; simp [encs]
    | cons p r ih =>
      intro hm
      have hp := hm p (List.mem_cons_self ..)
      have h1 := ih (fun q hq => hm q (List.mem_cons_of_mem _ hq))
      have h2 : p.enc.length ≤ 70 := M.enc_len (hok p hp).x0 (hok p hp).x1 (hok p hp).ml (hf.2 p hp)
      have h3 : encs (p :: r) = p.enc ++ encs r := by simp [encs]
      rw [h3, List.length_append, List.length_cons]
      omega
  exact h ps (fun _ h => h)
theorem encs_bytes {ps : List Pc} {w : World} (hok : ∀ p ∈ ps, p.Ok w) : M.Bytes (encs ps) := by
  intro x hx
  obtain ⟨l, hl, hx⟩ := List.mem_flatten.1 hx
  obtain ⟨p, hp, rfl⟩ := List.mem_map.1 hl
  exact M.enc_bytes (hok p hp).x0 ⟨(hok p hp).c0, (hok p hp).c1⟩ (hok p hp).ml (hok p hp).mb (hok p hp).vb.bytes x hx
theorem few_take {ps : List Pc} (h : Few ps) (k : Nat) : Few (ps.take k) := ⟨by have := h.1; rw [List.length_take]; omega, fun p hp => h.2 p (List.mem_of_mem_take hp)⟩
def AR (ps : List Pc) (w : World) (v i : Value) (wr : World) : Prop :=
  ∃ k : Nat, k ≤ ps.length ∧ i = .int .i64 k ∧ wr.ownsRow w.heap.size 5 1 v (encs (ps.take k)).length ((encs (ps.take k)).map (Value.int .u8)) ∧ Below w.heap.size w wr
theorem all_nil (a : Option Addr) (cap : Nat) (w : World) : Calls Try.prog 12 #[.slice a 0 cap] w fun e w' => e = .returned (.slice none 0 0) ∧ w = w' := by
  go_enter Try.func12, Try.ntmps12
  go_wp2
  refine wp_loop_rounds 1 ?_
  rw [rounds_succ]
  go_wp2_with fail
  go_ret
  exact ⟨rfl, rfl⟩
set_option maxRecDepth 100000 in
theorem all_some (G off cap : Nat) (ps : List Pc) (w : World) (hG : G < w.heap.size) (hr : Hid (∀ i (h : i < ps.length), w.rangeAt G (off + i * 13) ps[i].cells)) (hok : Hid (∀ p ∈ ps, p.Ok w)) (hf : Few ps) :
    Calls Try.prog 12 #[.slice (some ⟨G, off, none⟩) ps.length cap] w (GivesBytes w (encs ps)) := by
  have HF := Lib.hid hf
  clear hf
  go_enter Try.func12, Try.ntmps12
  go_wp2_with fail
  go_loopw [3, 4] (fun v i wr => AR ps w v i wr) (fun _ i _ => ps.length - (intOf i).toNat)
  case atStart => exact ⟨0, Nat.zero_le _, rfl, World.ownsRow_nil _ _ _ _, Below.refl _ _⟩
  case round =>
    obtain ⟨k, hk, rfl, hown, hbel⟩ := hrel
    by_cases hlt : k < ps.length
    · have hp := (hok.out _ (List.getElem_mem hlt)).below hbel
      have HQ := Lib.hid (range_below (hr.out k hlt) hG hbel)
      have HP := Lib.hid hp
      have HB := Lib.hid (HF.out.2 _ (List.getElem_mem hlt))
      have HO := Lib.hid hown
      have HBel := Lib.hid hbel
      have HS := Lib.hid (encs_take ps k hlt)
      have HL := Lib.hid (encs_len (fun q hq => hok.out q (List.mem_of_mem_take hq)) (few_take HF.out k))
      have HL2 := Lib.hid (M.enc_len (d := ps[k].d) (c := ps[k].c) hp.x0 hp.x1 hp.ml HB.out)
      have HT := Lib.hid (few_take HF.out k).1
      have b0 : (0 : Int) ≤ (k : Int) := by omega
      have b1 : (k : Int) < (ps.length : Int) := by omega
      have b2 : (k : Int) < 40 := by have := HF.out.1; omega
      clear hown hbel hp
      go_wp2_with (refine wpList_load_pc rfl _ rfl G (off + k * 13) ps[k] rfl HQ.out HP.out.ml ?_)
      refine (outP_is _ _ HP.out (Nat.le_trans HB.out (by omega))).mono ?_
      rintro e w1 ⟨v1, rfl, hv1, hb1⟩
      have V1 := Lib.hid hv1
      have B1 := Lib.hid hb1
      have O1 := Lib.hid (owns_below HO.out hb1)
      clear hv1 hb1
      go_wp2_with ((at_builtin; refine app_bytes _ rfl (.tmp 11) (.tmp 16) rfl w.heap.size _ _ (encs (ps.take k)) ps[k].enc rfl O1.out rfl V1.out (by have h1 := HL.out; have h2 : ps[k].enc.length ≤ 70 := HL2.out; have h3 := HT.out; omega) (Nat.le_trans HBel.out.size B1.out.size) ?_; intro v2 w2 hown2 hbel2; rw [← HS.out] at hown2; have O2 := Lib.hid hown2; have B2 := Lib.hid hbel2; clear hown2 hbel2))
      go_roundw
      case rel => exact ⟨k + 1, by omega, by go_num, O2.out, (step_ HBel.out B1.out).trans B2.out⟩
      case measure => simp [intOf]; omega
    · obtain rfl : k = ps.length := by omega
      rw [List.take_length] at hown
      have V := Lib.hid (bytes_of_owns hown (encs_bytes hok.out))
      have HBel := Lib.hid hbel
      clear hown hbel
      go_wp2_with fail
      go_ret
      exact ⟨_, rfl, V.out, HBel.out⟩
theorem all_is (v : Value) (ps : List Pc) (w : World) (h : PsAt w v ps) (hf : Few ps) : Calls Try.prog 12 #[v] w (GivesBytes w (encs ps)) := by
  obtain ⟨⟨a, cap, rfl, hc, h0⟩, hok⟩ := h
  by_cases hl : 0 < ps.length
  · obtain ⟨G, off, rfl, hG, hr⟩ := h0 hl
    exact all_some G off cap ps w hG (Lib.hid hr) (Lib.hid hok) hf
  · obtain rfl : ps = [] := List.eq_nil_of_length_eq_zero (by omega)
    exact (all_nil a cap w).mono fun e w' ⟨he, hw⟩ => ⟨_, he, bytes_nil _, hw ▸ Below.refl _ _⟩
end Go.Proofs.Ytieeggdmmnhbjaa
