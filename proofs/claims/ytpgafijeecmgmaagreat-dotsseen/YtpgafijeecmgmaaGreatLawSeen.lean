/- The laws' small functions: from, to, alive. The walk of the law DotsSeen, and rows of atoms that came in. Written by wip/tools/lawseen_r13.py. -/
import Derived.Test.YtpgafijeecmgmaaGreatUses
import Derived.Test.YtpgafijeecmgmaaGreatSeens
import Derived.Test.YtpgafijeecmgmaaGreatCommon
namespace Go.Proofs.YtpgafijeecmgmaaGreat
open Go.RowKit

/-- The chapter's example, in numbers. -/
def v2d : List Int := [2, 0, 0, 0, 0, 0, 0, 0, 0, 0, 0, 0, 0, 0, 0, 0]
def v4d : List Int := [4, 0, 0, 0, 0, 0, 0, 0, 0, 0, 0, 0, 0, 0, 0, 0]
theorem v2d_ok : VOk v2d := ⟨rfl, fun x hx => by simp only [v2d, List.mem_cons, List.not_mem_nil, or_false, or_self] at hx; omega⟩
theorem v4d_ok : VOk v4d := ⟨rfl, fun x hx => by simp only [v4d, List.mem_cons, List.not_mem_nil, or_false, or_self] at hx; omega⟩
theorem v2d_at (i : Nat) (h : i < 16) : v2d.getD i 0 = if i = 0 then 2 else 0 := by
  have : ∀ i : Fin 16, v2d.getD i.val 0 = if i.val = 0 then 2 else 0 := by decide
  exact this ⟨i, h⟩
theorem v4d_at (i : Nat) (h : i < 16) : v4d.getD i 0 = if i = 0 then 4 else 0 := by
  have : ∀ i : Fin 16, v4d.getD i.val 0 = if i.val = 0 then 4 else 0 := by decide
  exact this ⟨i, h⟩
theorem nf_d4 : Nf v2d [4] := ⟨List.pairwise_singleton _ _, fun d hd => by rw [List.mem_singleton] at hd; subst hd; decide⟩
theorem nrm_124 : nrm vz [1, 2, 4] = (v2d, [4]) := by
  have := nrm_eq vz_ok v2d_ok nf_d4 (l := [1, 2, 4]) (fun d => by
    rw [has_vz, hasd_iff]
    refine and_congr_right fun hm => ?_
    have m := may_iff.1 hm
    rw [und_iff, v2d_at _ (by omega)]
    simp only [List.mem_cons, List.not_mem_nil, or_false]
    split <;> omega)
  exact (Prod.ext this.1 this.2).symm
theorem nrm_4_3 : nrm v2d ([4] ++ [3]) = (v4d, []) := by
  have := nrm_eq v2d_ok v4d_ok (Nf.nil _) (l := [4] ++ [3]) (fun d => by
    rw [hasd_iff, hasd_iff]
    refine and_congr_right fun hm => ?_
    have m := may_iff.1 hm
    rw [und_iff, und_iff, v2d_at _ (by omega), v4d_at _ (by omega)]
    simp only [List.mem_append, List.mem_singleton, List.not_mem_nil, or_false]
    split <;> omega)
  exact (Prod.ext this.1 this.2).symm
theorem cnt_d4 : cntD (nrm v2d [4]) = 3 := by rw [nrm_self v2d_ok nf_d4]; decide
theorem built_v2 : Tryz.prog.built 26 [(0, .int .u32 2)] = some (vc v2d).toArray := by kernel_rfl
theorem built_v4 : Tryz.prog.built 26 [(0, .int .u32 4)] = some (vc v4d).toArray := by kernel_rfl
theorem run_field_f' (c0 c1 c2 c3 c4 c5 c6 c7 c8 c9 c10 c11 c12 c13 c14 c15 : Value) (v : Value) (w : World) : (Instr.field 29 (.agg #[c0, c1, c2, c3, c4, c5, c6, c7, c8, c9, c10, c11, c12, c13, c14, c15, v]) 0).run Tryz.prog w = .ok (.agg #[c0, c1, c2, c3, c4, c5, c6, c7, c8, c9, c10, c11, c12, c13, c14, c15]) w := by kernel_rfl
theorem run_field_f (f : List Int) (hf : f.length = 16) (v : Value) (w : World) : (Instr.field 29 (.agg (sc f v).toArray) 0).run Tryz.prog w = .ok (.agg (vc f).toArray) w := by
  match f, hf with
  | [_, _, _, _, _, _, _, _, _, _, _, _, _, _, _, _], _ => exact run_field_f' ..
theorem exec_field_f {o : Oper} {a : Act} {w : World} (x : Operand) (ho : o.op = .field 29 x 0) (f : List Int) (v : Value) (hx : a.eval x = .agg (sc f v).toArray) (hf : f.length = 16) :
    (execOp a.eval o).run Tryz.prog w = .ok (.value (.agg (vc f).toArray)) w := by
  unfold execOp
  simp only [ho, hx, Sem.run_bind, run_field_f f hf v w, Result.andThen_ok, Sem.run_pure]
theorem fill3n (u v x : Value) : (((Array.map (fun x => [Value.int IntKind.u64 0][x % 1]?.getD default) (Array.range 3)).setIfInBounds 0 u).setIfInBounds 1 v).setIfInBounds 2 x = #[u, v, x] := by kernel_rfl
theorem run_num3 (a b c : Int) (w : World) : (Instr.buildSlice 27 3 #[(0, .int .u64 a), (1, .int .u64 b), (2, .int .u64 c)]).run Tryz.prog w = .ok (.slice (some ⟨w.heap.size, 0, none⟩) 3 3) (w.alloc (.cells #[.int .u64 a, .int .u64 b, .int .u64 c] 40)) := by
  have hz := Tryz.zeroValue40
  have hsz := Tryz.sizeOf40
  simp only [Instr.buildSlice, Sem.run_bind, run_underlying u24n, Result.andThen_ok, hsz]
  rw [if_neg (by decide), if_neg (by decide)]
  simp [hz, Instr.fill, Value.cells]
  rw [fill3n]
  rfl
theorem wpList_num3 {ops : Array Oper} {rest : List Oper} {op : Oper} {a : Act} {w : World} {Q : Exit → Act → World → Prop} (hgd : op.guard = none) (x y z : Operand) (ho : op.op = .buildSlice 27 3 #[(0, x), (1, y), (2, z)]) (i j k : Int) (hx : a.eval x = .int .u64 i) (hy : a.eval y = .int .u64 j) (hz : a.eval z = .int .u64 k) (hi : Nums [i, j, k])
    (h : ∀ g w', Hid (NumsAt w' (.slice (some ⟨g, 0, none⟩) 3 3) [i, j, k]) → Hid (Below w.heap.size w w') → wpList Tryz.prog ops Q rest (a.put op.dst (.slice (some ⟨g, 0, none⟩) 3 3)) w') : wpList Tryz.prog ops Q (op :: rest) a w := by
  refine wpList_plain hgd fun K hK => ?_
  have hrun := run_num3 i j k w
  have hown : OwnN (w.alloc (.cells #[.int .u64 i, .int .u64 j, .int .u64 k] 40)) w.heap.size (.slice (some ⟨w.heap.size, 0, none⟩) 3 3) [i, j, k] := ⟨hi, World.ownsRow_lit w #[.int .u64 i, .int .u64 j, .int .u64 k] 3 (Nat.le_refl _) (by decide) rfl⟩
  unfold Oper.wp execOp
  simp only [ho, List.map_toArray, List.map_cons, List.map_nil, hx, hy, hz, Sem.run_bind, hrun, Result.andThen_ok, Sem.run_pure]
  exact hK _ _ (h _ _ (Lib.hid hown.at_) (Lib.hid (new_below w _)))
theorem from_is (f : List Int) (A : Option Addr) (n c : Nat) (w : World) (hf : f.length = 16) :
    Calls Tryz.prog 7 #[.agg (sc f (.slice A n c)).toArray] w fun e w' => e = .returned (.agg (sc f (.slice A n c)).toArray) ∧ Below w.heap.size w w' := by
  go_enter Tryz.func7, Tryz.ntmps7
  go_wp2_with (first
    | (refine wpList_box_cs rfl _ rfl (sc f (.slice A n c)) rfl ?_; intro g0 w1 eg0 G1 b1)
    | (refine wpList_alloc_s t26 rfl rfl ?_; intro gr w2 egr R2 b2; have G2 := Lib.hid (G1.out.below b2.out); have c16 := G2.out.cell (sc_cloud (.slice A n c) hf))
    | refine wpList_load_v t24 rfl _ rfl g0 0 f rfl (range_floor G2.out.range) hf ?_
    | refine wpList_build rfl 33 _ rfl [(0, .agg (vc f).toArray), (1, .slice A n c)] rfl _ (built_s26 f hf A n c) ?_
    | (refine wpList_store_s t26 rfl _ _ rfl gr vz f _ A n c rfl rfl R2.out vz_len hf ?_; intro w5 R5 o5))
  refine bodyPost_ret (results_s t26 rfl _ _ gr f _ rfl R5.out hf) rfl ?_
  have c2 := b1.out.trans (b2.out.mono b1.out.size)
  have := egr.out
  exact ⟨rfl, c2.trans (o5.out.below (by have := b1.out.size; omega) c2.size)⟩
set_option maxRecDepth 100000 in
set_option maxHeartbeats 2000000 in
theorem aliveD_is (w : World) : Calls Tryz.prog 4 #[] w fun e w' => e = .returned (.bool true) ∧ Below w.heap.size w w' := by
  have n124 : Nums [1, 2, 4] := fun x hx => by simp only [List.mem_cons, List.not_mem_nil, or_false] at hx; omega
  go_enter Tryz.func4, Tryz.ntmps4
  go_wp2_with (refine wpList_num3 rfl _ _ _ rfl 1 2 4 rfl rfl rfl n124 ?_; intro g0 w1 N1 b1)
  refine (of_is [1, 2, 4] (some ⟨g0, 0, none⟩) 3 w1 N1.out (by simp) (v2d, [4]) (Lib.hid nrm_124)).mono ?_
  rintro e w2 ⟨A2, c2, rfl, o2, b2⟩
  have O2 := Lib.hid o2
  have B2 := Lib.hid (step_ b1.out b2)
  clear o2 b2
  go_wp2_with (first
    | go_skip
    | (refine wpList_alloc_s t33 rfl rfl ?_; intro g1 w3 eg1 S3 b3)
    | (refine wpList_store_s t33 rfl _ _ rfl g1 vz v2d _ A2 1 c2 rfl rfl S3.out vz_len rfl ?_; intro w4 S4 o4; have c16 := S4.out.cell (sc_cloud (.slice A2 1 c2) rfl))
    | refine wpList_load_v t24 rfl _ rfl g1 0 v2d rfl (range_floor S4.out.range) rfl ?_
    | refine wpList_build rfl 26 _ rfl [(0, .int .u32 2)] rfl _ built_v2 ?_
    | refine wpList_val rfl _ (exec_eq_vr t24 _ _ _ rfl v2d v2d rfl rfl rfl rfl (by decide : (v2d == v2d) = true)) ?_
    | (refine wanted_on rfl ?_; refine wpList_load_s t33 rfl _ rfl g1 v2d _ rfl S4.out rfl ?_)
    | (refine wanted_on rfl ?_; refine wpList_num1 u24n rfl _ rfl 3 rfl (by decide) ?_; intro g5 w5 eg5 N5 b5; clear c16))
  have B4 := Lib.hid ((step_ B2.out b3.out).trans (o4.out.below (by have := eg1.out; have := B2.out.size; omega) (step_ B2.out b3.out).size))
  have B5 := Lib.hid (step_ B4.out b5.out)
  have O4 := Lib.hid ((O2.out.below b3.out).only o4.out (fun k hk e => by have := (O2.out.lt hk).2; have := eg1.out; omega))
  have O5 := Lib.hid (O4.out.below b5.out)
  have S5 := Lib.hid (S4.out.below b5.out)
  refine (add_is v2d [4] [3] A2 (some ⟨g5, 0, none⟩) c2 1 w5 v2d_ok O5.out.at_ N5.out (by simp) (by simp) (v4d, []) (Lib.hid nrm_4_3)).mono ?_
  rintro e w6 ⟨A6, c6, rfl, o6, b6⟩
  have B6 := Lib.hid (step_ B5.out b6)
  have S6 := Lib.hid (S5.out.below b6)
  have O6 := Lib.hid (O5.out.below b6)
  clear o6 b6
  go_wp2_with (first
    | go_skip
    | (refine wanted_on rfl ?_; refine wpList_val rfl _ (exec_field_f _ rfl v4d _ rfl rfl) ?_)
    | (refine wanted_on rfl ?_; refine wpList_build rfl 26 _ rfl [(0, .int .u32 4)] rfl _ built_v4 ?_)
    | (refine wanted_on rfl ?_; refine wpList_val rfl _ (exec_eq_vr t24 _ _ _ rfl v4d v4d rfl rfl rfl rfl (by decide : (v4d == v4d) = true)) ?_)
    | (refine wanted_on rfl ?_; refine wpList_load_s t33 rfl _ rfl g1 v2d _ rfl S6.out rfl ?_))
  refine (count_is v2d [4] A2 c2 3 w6 v2d_ok O6.out.at_ (by simp) (Lib.hid cnt_d4)).mono ?_
  rintro e w7 ⟨rfl, b7⟩
  have B7 := Lib.hid (step_ B6.out b7)
  clear b7
  go_wp2_with fail
  go_ret
  exact ⟨rfl, B7.out⟩
end Go.Proofs.YtpgafijeecmgmaaGreat
namespace Go.Proofs.YtpgafijeecmgmaaGreat
open Go.ChangeShapes Go.WideShapes Go.ChangeAt Go.RowKit

set_option maxRecDepth 100000 in
theorem open_atoms2 {H : Type} {enc : TypeId × Value → H} {W : World} {base : Nat} {v : Value} {d : DataW H} {p : List MemPlace} (hv : Value.okWide Tryz.prog W .any base 22 v) (h : DataW.Trod enc Tryz.prog W 0 (fun _ => true) true 22 v d p) :
    ∃ A n cap l, v = .slice A n cap ∧ RowV W A n cap l ∧ (A = none → cap = 0) := by
  obtain ⟨a0, len0, cap0, rfl⟩ := okWide_slice Tryz.underlying22 hv
  have h0 := h
  obtain ⟨fuel, hf⟩ := h
  obtain ⟨A, n, cap, l, e, hr⟩ := open_atoms hv h0
  refine ⟨A, n, cap, l, e, hr, fun hA => ?_⟩
  simp only [Value.slice.injEq] at e
  obtain ⟨rfl, rfl, rfl⟩ := e
  rcases Go.Deep.open_slice Tryz.underlying22 hf with ⟨hcs, _⟩ | ⟨a, len, c, m, k, D, Pl, hcs, _⟩
  · simp [Value.cells] at hcs
    exact hcs.2.2
  · simp [Value.cells] at hcs
    rw [hA] at hcs
    cases hcs.1
theorem run_app_row (w : World) (B : Nat) (v : Value) (l m : List Am) (A : Option Addr) (n cap : Nat) (ty : TypeId) (hown : OwnR w B v l) (hm : RowV w A n cap m) (hnil : A = none → cap = 0) (hn : l.length + n ≤ 5000) (hB : B ≤ w.heap.size) :
    ∃ v' w', (Builtin.append_ #[22, 22] ty #[v, .slice A n cap]).run Tryz.prog w = .ok v' w' ∧ OwnR w' B v' (l ++ m) ∧ Below B w w' := by
  obtain ⟨i0, hi, hz0, hz1, hz2⟩ := info_parts info46z
  have hl := hm.len
  have hlt : ∀ k, v.ownBlock = some k → B ≤ k := fun k hk => (hown.row.lt k hk).1
  cases A with
  | none =>
    obtain rfl := hnil rfl
    have h0 : n = 0 := by have := hm.le; omega
    subst h0
    have e : m = [] := List.length_eq_zero_iff.1 hl
    subst e
    have he := run_append_owned_none (P := Tryz.prog) (w := w) B 22 ty 56 i0 21 Tryz.underlying22 hi v _ _ hown.row
    exact ⟨v, w, he, by simpa using hown, Below.refl _ _⟩
  | some ad =>
    obtain ⟨v', w', hr, h1, h2, _⟩ := run_append_own_at (P := Tryz.prog) w B 22 ty 56 i0 (.agg azero.cells.toArray) 21 40 Tryz.underlying22 hi hz0 hz1 hz2 (by rfl) (by decide) v _ _ hown.row ad n cap (acs m) (by rw [acs_len hm.ok, hl])
      (fun t u ht => by
        have htl : t < m.length * 21 := by rw [← acs_len hm.ok]; exact (List.getElem?_eq_some_iff.1 ht).1
        obtain ⟨G, off, ha, _, hr⟩ := hm.at_ (by omega)
        obtain rfl := Option.some.inj ha
        have hi21 : t / 21 < m.length := by omega
        have hc := acells_len (hm.ok _ (List.getElem_mem hi21))
        have hj : (m[t / 21].cells)[t % 21]? = some ((m[t / 21].cells)[t % 21]'(by rw [hc]; omega)) := List.getElem?_eq_getElem _
        have h3 := acs_get hm.ok (t / 21) hi21 (t % 21) _ hj
        rw [show t / 21 * 21 + t % 21 = t by omega, ht] at h3
        rw [numAdd, show off + t = off + t / 21 * 21 + t % 21 by omega, hr (t / 21) hi21 (t % 21) _ hj, h3])
      (acs_ones m) (by unfold maxLen; omega) (by omega) hB
    refine ⟨v', w', hr, ⟨hown.ok.app hm.ok, by rw [acs_app, List.length_append, hl]; exact h1⟩, (Below.refl B w).grown h2 hB hlt⟩
section
variable {ops : Array Oper} {rest : List Oper} {op : Oper} {a : Act} {w : World} {Q : Exit → Act → World → Prop}
theorem wpList_app_row (hgd : op.guard = none) (s x : Operand) (ho : op.op = .call { callee := .builtin .append, args := #[s, x], argTypes := #[22, 22] })
    (B : Nat) (v : Value) (l m : List Am) (A : Option Addr) (n cap : Nat) (hs : a.eval s = v) (hx : a.eval x = .slice A n cap) (hown : OwnR w B v l) (hm : RowV w A n cap m) (hnil : A = none → cap = 0) (hn : l.length + n ≤ 5000) (hB : B ≤ w.heap.size)
    (h : ∀ E k c w', Hid (k = (l ++ m).length) → Hid (OwnR w' B (.slice E k c) (l ++ m)) → Hid (Below B w w') → wpList Tryz.prog ops Q rest (a.put op.dst (.slice E k c)) w') : wpList Tryz.prog ops Q (op :: rest) a w := by
  refine wpList_plain hgd fun K hK => ?_
  obtain ⟨v', w', he, h1, h2⟩ := run_app_row w B v l m A n cap op.type hown hm hnil hn hB
  obtain ⟨E, c, e⟩ := h1.shape
  subst e
  unfold Oper.wp execOp
  simp only [ho, resolve, invoke, builtin, Sem.run_bind, Sem.run_pure, Result.andThen_ok, List.map_toArray, List.map_cons, List.map_nil, hs, hx, he]
  exact hK _ _ (h E _ c w' (Lib.hid rfl) (Lib.hid h1) (Lib.hid h2))
theorem run_row0 (w : World) : (Instr.buildSlice 22 0 #[]).run Tryz.prog w = .ok (.slice (some ⟨w.heap.size, 0, none⟩) 0 0) (w.alloc (.cells #[] 56)) := by
  have hsz := sizeOf46
  simp [Instr.buildSlice, run_underlying Tryz.underlying22, hsz, Instr.fill, newRow]
  congr 2
  kernel_rfl
theorem wpList_row0 (hgd : op.guard = none) (ho : op.op = .buildSlice 22 0 #[])
    (h : ∀ g w', Hid (OwnR w' w.heap.size (.slice (some ⟨g, 0, none⟩) 0 0) []) → Hid (Below w.heap.size w w') → wpList Tryz.prog ops Q rest (a.put op.dst (.slice (some ⟨g, 0, none⟩) 0 0)) w') : wpList Tryz.prog ops Q (op :: rest) a w := by
  refine wpList_plain hgd fun K hK => ?_
  have H := h w.heap.size (w.alloc (.cells #[] 56)) (Lib.hid ⟨okR_nil, World.ownsRow_lit w #[] 0 (Nat.le_refl _) (by decide) rfl⟩) (Lib.hid (new_below w _))
  unfold Oper.wp execOp
  simp [ho, run_row0]
  exact hK _ _ H
end
set_option maxRecDepth 100000 in
set_option maxHeartbeats 8000000 in
theorem dotsSeen_is (A A2 : Option Addr) (n cap n2 cap2 : Nat) (a b : List Am) (w : World) (h1 : RowV w A n cap a) (h2 : RowV w A2 n2 cap2 b) (hnil : A = none → cap = 0) (hnil2 : A2 = none → cap2 = 0) :
    Calls Tryz.prog 3 #[.slice A n cap, .slice A2 n2 cap2] w fun e w' => e = .returned (.bool true) ∧ Below w.heap.size w w' := by
  have H1 := Lib.hid h1
  have H2 := Lib.hid h2
  clear h1 h2
  go_enter Tryz.func3, Tryz.ntmps3
  by_cases hc : 40 < n
  · have hc' : decide ((40 : Int) < (n : Int)) = true := decide_eq_true (by omega)
    go_wp2_with fail
    refine (aliveD_is w).mono ?_
    rintro e wz ⟨rfl, bz⟩
    have WZ := Lib.hid bz
    clear bz
    go_wp2_with fail
    go_ret
    exact ⟨rfl, WZ.out⟩
  have hc' : decide ((40 : Int) < (n : Int)) = false := decide_eq_false (by omega)
  by_cases hl : 40 < n2
  · have hl' : decide ((40 : Int) < (n2 : Int)) = true := decide_eq_true (by omega)
    go_wp2_with fail
    refine (aliveD_is w).mono ?_
    rintro e wz ⟨rfl, bz⟩
    have WZ := Lib.hid bz
    clear bz
    go_wp2_with fail
    go_ret
    exact ⟨rfl, WZ.out⟩
  have hl' : decide ((40 : Int) < (n2 : Int)) = false := decide_eq_false (by omega)
  obtain ⟨pa, hpa0⟩ : ∃ p, nrm vz (tg (norm a)) = p := ⟨_, rfl⟩
  obtain ⟨pb, hpb0⟩ : ∃ p, nrm vz (tg (norm b)) = p := ⟨_, rfl⟩
  obtain ⟨pc, hpc0⟩ : ∃ p, nrm vz (tg (norm (a ++ b))) = p := ⟨_, rfl⟩
  have HPA := Lib.hid hpa0
  have HPB := Lib.hid hpb0
  have HPC := Lib.hid hpc0
  have HPJ := Lib.hid (show nrm (vj pa.1 pb.1) (pa.2 ++ pb.2) = pc by rw [← hpa0, ← hpb0, nrm_two, ← seen_join H1.out.ok H2.out.ok]; exact hpc0)
  have NPA := Lib.hid (hpa0 ▸ nrm_of vz_ok (tg (norm a)))
  have NPB := Lib.hid (hpb0 ▸ nrm_of vz_ok (tg (norm b)))
  have NPC := Lib.hid (hpc0 ▸ nrm_of vz_ok (tg (norm (a ++ b))))
  have hna := norm_len a
  have hnb := norm_len b
  have hnc := norm_len (a ++ b)
  rw [H1.out.len] at hna
  rw [H2.out.len] at hnb
  rw [List.length_append, H1.out.len, H2.out.len] at hnc
  have hlA : pa.2.length ≤ 2000 := by have := NPA.out.len; have := tg_len (norm a); omega
  have hlB : pb.2.length ≤ 2000 := by have := NPB.out.len; have := tg_len (norm b); omega
  have hlC : pc.2.length ≤ 2000 := by have := NPC.out.len; have := tg_len (norm (a ++ b)); omega
  have HRR := Lib.hid (show rightsD pa.1 pa.2 pa.2.length = true from rights_iff.2 NPA.out.nf)
  clear hpa0 hpb0 hpc0 hna hnb hnc
  go_wp2_with fail
  refine (seen_is A n cap a w H1.out (by omega) pa HPA).mono ?_
  rintro e w1 ⟨AA, cA, rfl, v1, b1⟩
  have VA1 := Lib.hid v1.at_
  have B1 := Lib.hid b1
  clear v1 b1
  go_wp2_with fail
  refine (seen_is A2 n2 cap2 b w1 (H2.out.below B1.out) (by omega) pb HPB).mono ?_
  rintro e w2 ⟨AB, cB, rfl, v2, b2⟩
  have VB2 := Lib.hid v2.at_
  have VA2 := Lib.hid (VA1.out.below b2)
  have B2 := Lib.hid (step_ B1.out b2)
  clear v2 b2 VA1
  go_wp2_with (first
    | (have _ := GA3.out; refine wpList_alloc_s t33 rfl rfl ?_; intro gb w4 egb GB4 b4; have GA4 := Lib.hid (GA3.out.below b4.out))
    | (refine wpList_alloc_s t33 rfl rfl ?_; intro ga w3 ega GA3 b3)
    | (refine wpList_store_s t33 rfl _ _ rfl ga vz pa.1 _ AA pa.2.length cA rfl rfl GA4.out vz_len NPA.out.v.len ?_; intro w5 GA5 o5; have GB5 := Lib.hid (GB4.out.only o5.out (by have := egb.out; have := GA3.out.lt; omega)))
    | (refine wpList_store_s t33 rfl _ _ rfl gb vz pb.1 _ AB pb.2.length cB rfl rfl GB5.out vz_len NPB.out.v.len ?_; intro w6 GB6 o6; have GA6 := Lib.hid (GA5.out.only o6.out (by have := egb.out; have := GA3.out.lt; omega)); have X4 := Lib.hid (step_ b3.out b4.out); have B4 := Lib.hid (B2.out.trans (X4.out.mono B2.out.size)); have hga := Lib.hid (show w.heap.size ≤ ga by have := ega.out; have := B2.out.size; omega); have hgb := Lib.hid (show w.heap.size ≤ gb by have := egb.out; have := b3.out.size; have := B2.out.size; omega); have B6 := Lib.hid ((B4.out.trans (o5.out.below hga.out B4.out.size)).trans (o6.out.below hgb.out (Nat.le_trans B4.out.size o5.out.size))))
    | (refine wpList_row0 rfl rfl ?_; intro g7 w7 O7 b7; have B7 := Lib.hid (step_ B6.out b7.out))
    | (refine wpList_app_row rfl _ _ rfl w6.heap.size _ [] a A n cap rfl rfl O7.out (H1.out.below B7.out) hnil (by simp; omega) b7.out.size ?_; intro E8 k8 c8 w8 hk8 O8 b8; have B8 := Lib.hid (B7.out.trans (b8.out.mono B6.out.size)); have Z8 := Lib.hid (Nat.le_trans b7.out.size b8.out.size))
    | (refine wpList_app_row rfl _ _ rfl w6.heap.size _ ([] ++ a) b A2 n2 cap2 rfl rfl O8.out (H2.out.below B8.out) hnil2 (by rw [List.nil_append, H1.out.len]; omega) Z8.out ?_; intro E9 k9 c9 w9 hk9 O9 b9; have B9 := Lib.hid (B8.out.trans (b9.out.mono B6.out.size)); have X9 := Lib.hid ((b7.out.trans b8.out).trans b9.out)))
  have VA6 := Lib.hid (((VA2.out.below X4.out).only_s GA4.out (fun x => by intro h; cases h) o5.out).only_s GB5.out (fun x => by intro h; cases h) o6.out)
  have VB6 := Lib.hid (((VB2.out.below X4.out).only_s GA4.out (fun x => by intro h; cases h) o5.out).only_s GB5.out (fun x => by intro h; cases h) o6.out)
  have RW9 : RowV w9 E9 k9 c9 (a ++ b) := by
    obtain ⟨A', n', c', e, hr⟩ := O9.out.rowAt
    simp only [Value.slice.injEq] at e
    obtain ⟨rfl, rfl, rfl⟩ := e
    simpa using hr
  have R9 := Lib.hid RW9
  have hk80 : k9 ≤ 600 := by have := RW9.len; rw [List.length_append, H1.out.len, H2.out.len] at this; omega
  have VA9 := Lib.hid (VA6.out.below X9.out)
  have VB9 := Lib.hid (VB6.out.below X9.out)
  have GA9 := Lib.hid (GA6.out.below X9.out)
  have GB9 := Lib.hid (GB6.out.below X9.out)
  clear RW9 VA2 VB2 B2 B1 B4 X4 GA3 GA4 GB4 GA5 GB5 b3 b4 o5 o6 ega egb VA6 VB6 GA6 GB6 B6 B7 B8 O7 O8 O9 b7 b8 b9 Z8 X9
  refine (seen_is E9 k9 c9 (a ++ b) w9 R9.out hk80 pc HPC).mono ?_
  rintro e wa ⟨AC, cC, rfl, v3, b3⟩
  have VC3 := Lib.hid v3.at_
  have VA3 := Lib.hid (VA9.out.below b3)
  have VB3 := Lib.hid (VB9.out.below b3)
  have GA3 := Lib.hid (GA9.out.below b3)
  have GB3 := Lib.hid (GB9.out.below b3)
  have B3 := Lib.hid (step_ B9.out b3)
  clear v3 b3 VA9 VB9 GA9 GB9 B9 R9
  go_wp2_with (first
    | (refine wpList_alloc_s t33 rfl rfl ?_; intro gc wb egc GC4 b4)
    | (refine wpList_store_s t33 rfl _ _ rfl gc vz pc.1 _ AC pc.2.length cC rfl rfl GC4.out vz_len NPC.out.v.len ?_; intro wc GC o5))
  have lA := GA3.out.lt
  have lB := GB3.out.lt
  have eC := egc.out
  have VA := Lib.hid ((VA3.out.below b4.out).only_s GC4.out (fun x => by intro h; cases h) o5.out)
  have VB := Lib.hid ((VB3.out.below b4.out).only_s GC4.out (fun x => by intro h; cases h) o5.out)
  have VC := Lib.hid ((VC3.out.below b4.out).only_s GC4.out (fun x => by intro h; cases h) o5.out)
  have GA := Lib.hid ((GA3.out.below b4.out).only o5.out (by omega))
  have GB := Lib.hid ((GB3.out.below b4.out).only o5.out (by omega))
  have BC := Lib.hid ((step_ B3.out b4.out).trans (o5.out.below (by have := B3.out.size; omega) (step_ B3.out b4.out).size))
  have S0 := Lib.hid (show Below wc.heap.size wc wc.drew from below_drew (Below.refl _ _))
  have W0 := Lib.hid (step_ BC.out S0.out)
  clear VA3 VB3 VC3 GA3 GB3 B3 GC4 b4 o5 lA lB eC egc BC
  refine wp_region_noPanic ?_
  refine wp_region_held_drew (S := fun W => Below wc.heap.size wc W) (by kernel_rfl) S0.out (fun _ => ?_)
  refine wpAnyH_take (i := 0) (oi := { dst := some 27, op := Go.Op.load 29 (Go.Operand.tmp 5), type := 29, pos := _, after := #[], guard := none }) (v := .agg (sc pa.1 (.slice AA pa.2.length cA)).toArray) rfl (by kernel_rfl) (by kernel_rfl) (by kernel_rfl) (fun _ _ _ h => h) (yieldsIf_load_mid (by rfl) 29 (.tmp 5) rfl ga 0 rfl (sc pa.1 (.slice AA pa.2.length cA)) _ (fun W hW => (GA.out.below hW).range) Tryz.underlying29 rfl (t33.size NPA.out.v.len)) S0.out ?_
  try simp only [Act.put, List.setIfInBounds_toArray, List.set_cons_zero, List.set_cons_succ]
  refine wpAnyH_take (i := 2) (oi := { dst := some 29, op := Go.Op.move (Go.Operand.tmp 0), type := 22, pos := _, after := #[], guard := none }) (v := ?_) rfl (by kernel_rfl) (by kernel_rfl) (by kernel_rfl) (fun _ _ _ h => h) (Or.inl ⟨by rfl, ?_⟩) S0.out ?_
  rotate_left
  · intro W hW; (go_simp; try with_reducible rfl)
  try simp only [Act.put, List.setIfInBounds_toArray, List.set_cons_zero, List.set_cons_succ]
  refine wpAnyH_ready (rs := [1]) (by kernel_rfl) (by simp) ?_
  refine AllReadyH.cons (o := { dst := some 28, op := Go.Op.call { callee := Go.Callee.value (Go.Operand.func 7), args := #[Go.Operand.tmp 27], argTypes := #[29] }, type := 33, pos := _, after := #[{ on := 0, ground := Go.Ground.data }], guard := none }) rfl (fun K hK => ?_) AllReadyH.nil
  go_simp
  refine (from_is pa.1 AA pa.2.length cA _ NPA.out.v.len).mono ?_
  rintro e w1 ⟨rfl, b1⟩
  have S1 := Lib.hid (step_ S0.out b1)
  have W1 := Lib.hid (step_ W0.out b1)
  clear b1
  go_wp2_with fail
  refine hK.out _ _ S1.out (fun _ => ?_)
  clear hK K
  try simp only [Act.put, List.setIfInBounds_toArray, List.set_cons_zero, List.set_cons_succ]
  refine wpAnyH_ready (rs := [3]) (by kernel_rfl) (by simp) ?_
  refine AllReadyH.cons (o := { dst := some 30, op := Go.Op.call { callee := Go.Callee.value (Go.Operand.func 8), args := #[Go.Operand.tmp 29], argTypes := #[22] }, type := 33, pos := _, after := #[{ on := 2, ground := Go.Ground.data }, { on := 1, ground := Go.Ground.chain }], guard := none }) rfl (fun K hK => ?_) AllReadyH.nil
  go_simp
  refine (rseen_is A n cap a _ (H1.out.below W1.out) (by omega) pa HPA).mono ?_
  rintro e w2 ⟨Ax2, cx2, rfl, v2, b2⟩
  have S2 := Lib.hid (step_ S1.out b2)
  have W2 := Lib.hid (step_ W1.out b2)
  have Vqa_2 := Lib.hid v2
  clear v2
  clear b2
  go_wp2_with fail
  refine hK.out _ _ S2.out (fun _ => ?_)
  clear hK K
  try simp only [Act.put, List.setIfInBounds_toArray, List.set_cons_zero, List.set_cons_succ]
  refine wpAnyH_ready (rs := [4]) (by kernel_rfl) (by simp) ?_
  refine AllReadyH.cons (o := { dst := some 31, op := Go.Op.call { callee := Go.Callee.value (Go.Operand.func 6), args := #[Go.Operand.tmp 28, Go.Operand.tmp 30], argTypes := #[33, 33] }, type := 4, pos := _, after := #[{ on := 1, ground := Go.Ground.data }, { on := 3, ground := Go.Ground.data }, { on := 3, ground := Go.Ground.chain }], guard := none }) rfl (fun K hK => ?_) AllReadyH.nil
  go_simp
  refine (rsame_is pa.1 pa.2 pa.1 pa.2 AA Ax2 cA cx2 true _ NPA.out.v NPA.out.v (VA.out.below S2.out) Vqa_2.out (by omega) (Lib.hid (by simp))).mono ?_
  rintro e w3 ⟨rfl, b3⟩
  have S3 := Lib.hid (step_ S2.out b3)
  have W3 := Lib.hid (step_ W2.out b3)
  clear b3
  go_wp2_with fail
  refine hK.out _ _ S3.out (fun _ => ?_)
  clear hK K
  try simp only [Act.put, List.setIfInBounds_toArray, List.set_cons_zero, List.set_cons_succ]
  refine wpAnyH_take (i := 5) (oi := { dst := some 32, op := Go.Op.move (Go.Operand.tmp 31), type := 4, pos := _, after := #[{ on := 4, ground := Go.Ground.data }, { on := 4, ground := Go.Ground.chain }], guard := none }) (v := ?_) rfl (by kernel_rfl) (by kernel_rfl) (by kernel_rfl) (fun _ _ _ h => h) (Or.inl ⟨by rfl, ?_⟩) S3.out ?_
  rotate_left
  · intro W hW; (go_simp; try with_reducible rfl)
  try simp only [Act.put, List.setIfInBounds_toArray, List.set_cons_zero, List.set_cons_succ]
  refine wpAnyH_take (i := 6) (oi := { dst := some 33, op := Go.Op.load 29 (Go.Operand.tmp 5), type := 29, pos := _, after := #[{ on := 5, ground := Go.Ground.guard }], guard := some (5, true) }) (v := .agg (sc pa.1 (.slice AA pa.2.length cA)).toArray) rfl (by kernel_rfl) (by kernel_rfl) (by kernel_rfl) (fun _ _ _ h => h) (yieldsIf_load_mid (by rfl) 29 (.tmp 5) rfl ga 0 rfl (sc pa.1 (.slice AA pa.2.length cA)) _ (fun W hW => (GA.out.below hW).range) Tryz.underlying29 rfl (t33.size NPA.out.v.len)) S3.out ?_
  try simp only [Act.put, List.setIfInBounds_toArray, List.set_cons_zero, List.set_cons_succ]
  refine wpAnyH_ready (rs := [7]) (by kernel_rfl) (by simp) ?_
  refine AllReadyH.cons (o := { dst := some 34, op := Go.Op.call { callee := Go.Callee.value (Go.Operand.func 9), args := #[Go.Operand.tmp 33], argTypes := #[29] }, type := 4, pos := _, after := #[{ on := 6, ground := Go.Ground.data }, { on := 5, ground := Go.Ground.chain }, { on := 5, ground := Go.Ground.guard }], guard := some (5, true) }) rfl (fun K hK => ?_) AllReadyH.nil
  go_simp
  refine (dright_is pa.1 pa.2 AA cA true _ NPA.out.v (VA.out.below S3.out) hlA HRR).mono ?_
  rintro e w4 ⟨rfl, b4⟩
  have S4 := Lib.hid (step_ S3.out b4)
  have W4 := Lib.hid (step_ W3.out b4)
  clear b4
  go_wp2_with fail
  refine hK.out _ _ S4.out (fun _ => ?_)
  clear hK K
  try simp only [Act.put, List.setIfInBounds_toArray, List.set_cons_zero, List.set_cons_succ]
  refine wpAnyH_take (i := 8) (oi := { dst := some 35, op := Go.Op.pick (Go.Operand.tmp 32) (Go.Operand.tmp 34) (Go.Operand.const (Go.Value.bool false)), type := 4, pos := _, after := #[{ on := 5, ground := Go.Ground.data }, { on := 7, ground := Go.Ground.data }], guard := none }) (v := ?_) rfl (by kernel_rfl) (by kernel_rfl) (by kernel_rfl) (fun _ _ _ h => h) (Or.inl ⟨by rfl, ?_⟩) S4.out ?_
  rotate_left
  · intro W hW; (go_simp; try with_reducible rfl)
  try simp only [Act.put, List.setIfInBounds_toArray, List.set_cons_zero, List.set_cons_succ]
  refine wpAnyH_take (i := 9) (oi := { dst := some 36, op := Go.Op.move (Go.Operand.tmp 35), type := 4, pos := _, after := #[{ on := 8, ground := Go.Ground.data }, { on := 7, ground := Go.Ground.chain }], guard := none }) (v := ?_) rfl (by kernel_rfl) (by kernel_rfl) (by kernel_rfl) (fun _ _ _ h => h) (Or.inl ⟨by rfl, ?_⟩) S4.out ?_
  rotate_left
  · intro W hW; (go_simp; try with_reducible rfl)
  try simp only [Act.put, List.setIfInBounds_toArray, List.set_cons_zero, List.set_cons_succ]
  refine wpAnyH_take (i := 10) (oi := { dst := some 37, op := Go.Op.load 29 (Go.Operand.tmp 7), type := 29, pos := _, after := #[{ on := 9, ground := Go.Ground.guard }], guard := some (9, true) }) (v := .agg (sc pc.1 (.slice AC pc.2.length cC)).toArray) rfl (by kernel_rfl) (by kernel_rfl) (by kernel_rfl) (fun _ _ _ h => h) (yieldsIf_load_mid (by rfl) 29 (.tmp 7) rfl gc 0 rfl (sc pc.1 (.slice AC pc.2.length cC)) _ (fun W hW => (GC.out.below hW).range) Tryz.underlying29 rfl (t33.size NPC.out.v.len)) S4.out ?_
  try simp only [Act.put, List.setIfInBounds_toArray, List.set_cons_zero, List.set_cons_succ]
  refine wpAnyH_take (i := 12) (oi := { dst := some 39, op := Go.Op.load 29 (Go.Operand.tmp 5), type := 29, pos := _, after := #[{ on := 9, ground := Go.Ground.guard }], guard := some (9, true) }) (v := .agg (sc pa.1 (.slice AA pa.2.length cA)).toArray) rfl (by kernel_rfl) (by kernel_rfl) (by kernel_rfl) (fun _ _ _ h => h) (yieldsIf_load_mid (by rfl) 29 (.tmp 5) rfl ga 0 rfl (sc pa.1 (.slice AA pa.2.length cA)) _ (fun W hW => (GA.out.below hW).range) Tryz.underlying29 rfl (t33.size NPA.out.v.len)) S4.out ?_
  try simp only [Act.put, List.setIfInBounds_toArray, List.set_cons_zero, List.set_cons_succ]
  refine wpAnyH_take (i := 13) (oi := { dst := some 40, op := Go.Op.load 29 (Go.Operand.tmp 6), type := 29, pos := _, after := #[{ on := 9, ground := Go.Ground.guard }], guard := some (9, true) }) (v := .agg (sc pb.1 (.slice AB pb.2.length cB)).toArray) rfl (by kernel_rfl) (by kernel_rfl) (by kernel_rfl) (fun _ _ _ h => h) (yieldsIf_load_mid (by rfl) 29 (.tmp 6) rfl gb 0 rfl (sc pb.1 (.slice AB pb.2.length cB)) _ (fun W hW => (GB.out.below hW).range) Tryz.underlying29 rfl (t33.size NPB.out.v.len)) S4.out ?_
  try simp only [Act.put, List.setIfInBounds_toArray, List.set_cons_zero, List.set_cons_succ]
  refine wpAnyH_ready (rs := [11]) (by kernel_rfl) (by simp) ?_
  refine AllReadyH.cons (o := { dst := some 38, op := Go.Op.call { callee := Go.Callee.value (Go.Operand.func 7), args := #[Go.Operand.tmp 37], argTypes := #[29] }, type := 33, pos := _, after := #[{ on := 10, ground := Go.Ground.data }, { on := 9, ground := Go.Ground.chain }, { on := 9, ground := Go.Ground.guard }], guard := some (9, true) }) rfl (fun K hK => ?_) AllReadyH.nil
  go_simp
  refine (from_is pc.1 AC pc.2.length cC _ NPC.out.v.len).mono ?_
  rintro e w5 ⟨rfl, b5⟩
  have S5 := Lib.hid (step_ S4.out b5)
  have W5 := Lib.hid (step_ W4.out b5)
  clear b5
  go_wp2_with fail
  refine hK.out _ _ S5.out (fun _ => ?_)
  clear hK K
  try simp only [Act.put, List.setIfInBounds_toArray, List.set_cons_zero, List.set_cons_succ]
  refine wpAnyH_ready (rs := [14]) (by kernel_rfl) (by simp) ?_
  refine AllReadyH.cons (o := { dst := some 41, op := Go.Op.call { callee := Go.Callee.value (Go.Operand.func 10), args := #[Go.Operand.tmp 39, Go.Operand.tmp 40], argTypes := #[29, 29] }, type := 29, pos := _, after := #[{ on := 12, ground := Go.Ground.data }, { on := 13, ground := Go.Ground.data }, { on := 11, ground := Go.Ground.chain }, { on := 9, ground := Go.Ground.guard }], guard := some (9, true) }) rfl (fun K hK => ?_) AllReadyH.nil
  go_simp
  refine (join_is pa.1 pa.2 pb.1 pb.2 AA AB cA cB _ NPA.out.v NPB.out.v (VA.out.below S5.out) (VB.out.below S5.out) hlA hlB pc HPJ).mono ?_
  rintro e w6 ⟨Ax6, cx6, rfl, v6, b6⟩
  have S6 := Lib.hid (step_ S5.out b6)
  have W6 := Lib.hid (step_ W5.out b6)
  have Vpj_6 := Lib.hid v6.at_
  clear v6
  clear b6
  go_wp2_with fail
  refine hK.out _ _ S6.out (fun _ => ?_)
  clear hK K
  try simp only [Act.put, List.setIfInBounds_toArray, List.set_cons_zero, List.set_cons_succ]
  refine wpAnyH_ready (rs := [15]) (by kernel_rfl) (by simp) ?_
  refine AllReadyH.cons (o := { dst := some 42, op := Go.Op.call { callee := Go.Callee.value (Go.Operand.func 7), args := #[Go.Operand.tmp 41], argTypes := #[29] }, type := 33, pos := _, after := #[{ on := 14, ground := Go.Ground.data }, { on := 14, ground := Go.Ground.chain }, { on := 9, ground := Go.Ground.guard }], guard := some (9, true) }) rfl (fun K hK => ?_) AllReadyH.nil
  go_simp
  refine (from_is pc.1 Ax6 pc.2.length cx6 _ NPC.out.v.len).mono ?_
  rintro e w7 ⟨rfl, b7⟩
  have S7 := Lib.hid (step_ S6.out b7)
  have W7 := Lib.hid (step_ W6.out b7)
  have Vpj_7 := Lib.hid (Vpj_6.out.below b7)
  clear b7
  go_wp2_with fail
  refine hK.out _ _ S7.out (fun _ => ?_)
  clear hK K
  try simp only [Act.put, List.setIfInBounds_toArray, List.set_cons_zero, List.set_cons_succ]
  refine wpAnyH_ready (rs := [16]) (by kernel_rfl) (by simp) ?_
  refine AllReadyH.cons (o := { dst := some 43, op := Go.Op.call { callee := Go.Callee.value (Go.Operand.func 6), args := #[Go.Operand.tmp 38, Go.Operand.tmp 42], argTypes := #[33, 33] }, type := 4, pos := _, after := #[{ on := 11, ground := Go.Ground.data }, { on := 15, ground := Go.Ground.data }, { on := 15, ground := Go.Ground.chain }, { on := 9, ground := Go.Ground.guard }], guard := some (9, true) }) rfl (fun K hK => ?_) AllReadyH.nil
  go_simp
  refine (rsame_is pc.1 pc.2 pc.1 pc.2 AC Ax6 cC cx6 true _ NPC.out.v NPC.out.v (VC.out.below S7.out) Vpj_7.out (by omega) (Lib.hid (by simp))).mono ?_
  rintro e w8 ⟨rfl, b8⟩
  have S8 := Lib.hid (step_ S7.out b8)
  have W8 := Lib.hid (step_ W7.out b8)
  clear b8
  go_wp2_with fail
  refine hK.out _ _ S8.out (fun _ => ?_)
  clear hK K
  try simp only [Act.put, List.setIfInBounds_toArray, List.set_cons_zero, List.set_cons_succ]
  refine wpAnyH_take (i := 17) (oi := { dst := some 44, op := Go.Op.pick (Go.Operand.tmp 36) (Go.Operand.tmp 43) (Go.Operand.const (Go.Value.bool false)), type := 4, pos := _, after := #[{ on := 9, ground := Go.Ground.data }, { on := 16, ground := Go.Ground.data }], guard := none }) (v := ?_) rfl (by kernel_rfl) (by kernel_rfl) (by kernel_rfl) (fun _ _ _ h => h) (Or.inl ⟨by rfl, ?_⟩) S8.out ?_
  rotate_left
  · intro W hW; (go_simp; try with_reducible rfl)
  try simp only [Act.put, List.setIfInBounds_toArray, List.set_cons_zero, List.set_cons_succ]
  refine wpAnyH_take (i := 18) (oi := { dst := some 45, op := Go.Op.move (Go.Operand.tmp 44), type := 4, pos := _, after := #[{ on := 17, ground := Go.Ground.data }, { on := 16, ground := Go.Ground.chain }], guard := none }) (v := ?_) rfl (by kernel_rfl) (by kernel_rfl) (by kernel_rfl) (fun _ _ _ h => h) (Or.inl ⟨by rfl, ?_⟩) S8.out ?_
  rotate_left
  · intro W hW; (go_simp; try with_reducible rfl)
  try simp only [Act.put, List.setIfInBounds_toArray, List.set_cons_zero, List.set_cons_succ]
  refine wpAnyH_ready (rs := [19]) (by kernel_rfl) (by simp) ?_
  refine AllReadyH.cons (o := { dst := some 46, op := Go.Op.call { callee := Go.Callee.value (Go.Operand.func 4), args := #[], argTypes := #[] }, type := 4, pos := _, after := #[{ on := 18, ground := Go.Ground.chain }, { on := 18, ground := Go.Ground.guard }], guard := some (18, true) }) rfl (fun K hK => ?_) AllReadyH.nil
  go_simp
  refine (aliveD_is _).mono ?_
  rintro e w9 ⟨rfl, b9⟩
  have S9 := Lib.hid (step_ S8.out b9)
  have W9 := Lib.hid (step_ W8.out b9)
  clear b9
  go_wp2_with fail
  refine hK.out _ _ S9.out (fun _ => ?_)
  clear hK K
  try simp only [Act.put, List.setIfInBounds_toArray, List.set_cons_zero, List.set_cons_succ]
  refine wpAnyH_take (i := 20) (oi := { dst := some 47, op := Go.Op.pick (Go.Operand.tmp 45) (Go.Operand.tmp 46) (Go.Operand.const (Go.Value.bool false)), type := 4, pos := _, after := #[{ on := 18, ground := Go.Ground.data }, { on := 19, ground := Go.Ground.data }], guard := none }) (v := ?_) rfl (by kernel_rfl) (by kernel_rfl) (by kernel_rfl) (fun _ _ _ h => h) (Or.inl ⟨by rfl, ?_⟩) S9.out ?_
  rotate_left
  · intro W hW; (go_simp; try with_reducible rfl)
  try simp only [Act.put, List.setIfInBounds_toArray, List.set_cons_zero, List.set_cons_succ]
  refine wpAnyH_take (i := 21) (oi := { dst := some 4, op := Go.Op.assign (Go.Operand.tmp 47), type := 4, pos := _, after := #[{ on := 20, ground := Go.Ground.data }, { on := 19, ground := Go.Ground.chain }, { on := 0, ground := Go.Ground.phase }, { on := 1, ground := Go.Ground.phase }, { on := 2, ground := Go.Ground.phase }, { on := 3, ground := Go.Ground.phase }, { on := 4, ground := Go.Ground.phase }, { on := 5, ground := Go.Ground.phase }, { on := 6, ground := Go.Ground.phase }, { on := 7, ground := Go.Ground.phase }, { on := 8, ground := Go.Ground.phase }, { on := 9, ground := Go.Ground.phase }, { on := 10, ground := Go.Ground.phase }, { on := 11, ground := Go.Ground.phase }, { on := 12, ground := Go.Ground.phase }, { on := 13, ground := Go.Ground.phase }, { on := 14, ground := Go.Ground.phase }, { on := 15, ground := Go.Ground.phase }, { on := 16, ground := Go.Ground.phase }, { on := 17, ground := Go.Ground.phase }, { on := 18, ground := Go.Ground.phase }, { on := 19, ground := Go.Ground.phase }, { on := 20, ground := Go.Ground.phase }], guard := none }) (v := ?_) rfl (by kernel_rfl) (by kernel_rfl) (by kernel_rfl) (fun _ _ _ h => h) (Or.inl ⟨by rfl, ?_⟩) S9.out ?_
  rotate_left
  · intro W hW; (go_simp; try with_reducible rfl)
  try simp only [Act.put, List.setIfInBounds_toArray, List.set_cons_zero, List.set_cons_succ]
  refine wpAnyH_done (by kernel_rfl) ?_ _
  refine NoPanic.normal ?_
  go_wp2_with fail
  go_ret
  exact ⟨rfl, W9.out⟩
end Go.Proofs.YtpgafijeecmgmaaGreat
