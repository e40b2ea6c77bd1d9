/- The laws' small functions: from, to, alive. -/
import Derived.Test.YtpgafijeecmgmaaUses2
namespace Go.Proofs.Ytpgafijeecmgmaa
open Go.RowKit

/-- The chapter's example, in numbers. -/
def v2d : List Int := [2, 0, 0, 0, 0, 0, 0, 0, 0, 0, 0, 0, 0, 0, 0, 0]
def v4d : List Int := [4, 0, 0, 0, 0, 0, 0, 0, 0, 0, 0, 0, 0, 0, 0, 0]
theorem v2d_ok : VOk v2d := ⟨rfl, fun x hx => by simp only [v2d, List.mem_cons, List.not_mem_nil, or_false, or_self] at hx; omega⟩
theorem v4d_ok : VOk v4d := ⟨rfl, fun x hx => by simp only [v4d, List.mem_cons, List.not_mem_nil, or_false, or_self] at hx; omega⟩
theorem v2d_at (i : Nat) (h : i < 16) : v2d.getD i 0 = if i = 0 then 2 else 0 := by
  have : ∀ i : Fin 16, v2d.getD i.val 0 = if i.val = 0 then 2 else 0 := by decide
  exact this ⟨i, h⟩
theorem v4d_at (i : Nat) (h : i < 16) : v4d.getD i 0 = if i = 0 then 4 else 0 := by
  have : ∀ i : Fin 16, v4d.getD i.val 0 = if i.val = 0 then 4 else 0 := by decide
  exact this ⟨i, h⟩
theorem nf_d4 : Nf v2d [4] := ⟨List.pairwise_singleton _ _, fun d hd => by rw [List.mem_singleton] at hd; subst hd; decide⟩
theorem nrm_124 : nrm vz [1, 2, 4] = (v2d, [4]) := by
  have := nrm_eq vz_ok v2d_ok nf_d4 (l := [1, 2, 4]) (fun d => by
    rw [has_vz, has_iff]
    refine and_congr_right fun hm => ?_
    have m := may_iff.1 hm
    rw [und_iff, v2d_at _ (by omega)]
    simp only [List.mem_cons, List.not_mem_nil, or_false]
    split <;> omega)
  exact (Prod.ext this.1 this.2).symm
theorem nrm_4_3 : nrm v2d ([4] ++ [3]) = (v4d, []) := by
  have := nrm_eq v2d_ok v4d_ok (Nf.nil _) (l := [4] ++ [3]) (fun d => by
    rw [has_iff, has_iff]
    refine and_congr_right fun hm => ?_
    have m := may_iff.1 hm
    rw [und_iff, und_iff, v2d_at _ (by omega), v4d_at _ (by omega)]
    simp only [List.mem_append, List.mem_singleton, List.not_mem_nil, or_false]
    split <;> omega)
  exact (Prod.ext this.1 this.2).symm
theorem cnt_d4 : cntD (nrm v2d [4]) = 3 := by rw [nrm_self v2d_ok nf_d4]; decide
theorem built_v2 : Try.prog.built 31 [(0, .int .u32 2)] = some (vc v2d).toArray := by kernel_rfl
theorem built_v4 : Try.prog.built 31 [(0, .int .u32 4)] = some (vc v4d).toArray := by kernel_rfl
theorem run_field_f' (c0 c1 c2 c3 c4 c5 c6 c7 c8 c9 c10 c11 c12 c13 c14 c15 : Value) (v : Value) (w : World) : (Instr.field 33 (.agg #[c0, c1, c2, c3, c4, c5, c6, c7, c8, c9, c10, c11, c12, c13, c14, c15, v]) 0).run Try.prog w = .ok (.agg #[c0, c1, c2, c3, c4, c5, c6, c7, c8, c9, c10, c11, c12, c13, c14, c15]) w := by kernel_rfl
theorem run_field_f (f : List Int) (hf : f.length = 16) (v : Value) (w : World) : (Instr.field 33 (.agg (sc f v).toArray) 0).run Try.prog w = .ok (.agg (vc f).toArray) w := by
  match f, hf with
  | [_, _, _, _, _, _, _, _, _, _, _, _, _, _, _, _], _ => exact run_field_f' ..
theorem exec_field_f {o : Oper} {a : Act} {w : World} (x : Operand) (ho : o.op = .field 33 x 0) (f : List Int) (v : Value) (hx : a.eval x = .agg (sc f v).toArray) (hf : f.length = 16) :
    (execOp a.eval o).run Try.prog w = .ok (.value (.agg (vc f).toArray)) w := by
  unfold execOp
  simp only [ho, hx, Sem.run_bind, run_field_f f hf v w, Result.andThen_ok, Sem.run_pure]
theorem fill3n (u v x : Value) : (((Array.map (fun x => [Value.int IntKind.u64 0][x % 1]?.getD default) (Array.range 3)).setIfInBounds 0 u).setIfInBounds 1 v).setIfInBounds 2 x = #[u, v, x] := by kernel_rfl
theorem run_num3 (a b c : Int) (w : World) : (Instr.buildSlice 24 3 #[(0, .int .u64 a), (1, .int .u64 b), (2, .int .u64 c)]).run Try.prog w = .ok (.slice (some ⟨w.heap.size, 0, none⟩) 3 3) (w.alloc (.cells #[.int .u64 a, .int .u64 b, .int .u64 c] 27)) := by
  have hz := Try.zeroValue27
  have hsz := Try.sizeOf27
  simp only [Instr.buildSlice, Sem.run_bind, run_underlying u24n, Result.andThen_ok, hsz]
  rw [if_neg (by decide), if_neg (by decide)]
  simp [hz, Instr.fill, Value.cells]
  rw [fill3n]
  rfl
theorem wpList_num3 {ops : Array Oper} {rest : List Oper} {op : Oper} {a : Act} {w : World} {Q : Exit → Act → World → Prop} (hgd : op.guard = none) (x y z : Operand) (ho : op.op = .buildSlice 24 3 #[(0, x), (1, y), (2, z)]) (i j k : Int) (hx : a.eval x = .int .u64 i) (hy : a.eval y = .int .u64 j) (hz : a.eval z = .int .u64 k) (hi : Nums [i, j, k])
    (h : ∀ g w', Hid (NumsAt w' (.slice (some ⟨g, 0, none⟩) 3 3) [i, j, k]) → Hid (Below w.heap.size w w') → wpList Try.prog ops Q rest (a.put op.dst (.slice (some ⟨g, 0, none⟩) 3 3)) w') : wpList Try.prog ops Q (op :: rest) a w := by
  refine wpList_plain hgd fun K hK => ?_
  have hrun := run_num3 i j k w
  have hown : OwnN (w.alloc (.cells #[.int .u64 i, .int .u64 j, .int .u64 k] 27)) w.heap.size (.slice (some ⟨w.heap.size, 0, none⟩) 3 3) [i, j, k] := ⟨hi, World.ownsRow_lit w #[.int .u64 i, .int .u64 j, .int .u64 k] 3 (Nat.le_refl _) (by decide) rfl⟩
  unfold Oper.wp execOp
  simp only [ho, List.map_toArray, List.map_cons, List.map_nil, hx, hy, hz, Sem.run_bind, hrun, Result.andThen_ok, Sem.run_pure]
  exact hK _ _ (h _ _ (Lib.hid hown.at_) (Lib.hid (new_below w _)))
theorem from_is (f : List Int) (A : Option Addr) (n c : Nat) (w : World) (hf : f.length = 16) :
    Calls Try.prog 8 #[.agg (sc f (.slice A n c)).toArray] w fun e w' => e = .returned (.agg (sc f (.slice A n c)).toArray) ∧ Below w.heap.size w w' := by
  go_enter Try.func8, Try.ntmps8
  go_wp2_with (first
    | (refine wpList_box_cs rfl _ rfl (sc f (.slice A n c)) rfl ?_; intro g0 w1 eg0 G1 b1)
    | (refine wpList_alloc_s t26 rfl rfl ?_; intro gr w2 egr R2 b2; have G2 := Lib.hid (G1.out.below b2.out); have c16 := G2.out.cell (sc_cloud (.slice A n c) hf))
    | refine wpList_load_v t24 rfl _ rfl g0 0 f rfl (range_floor G2.out.range) hf ?_
    | refine wpList_build rfl 26 _ rfl [(0, .agg (vc f).toArray), (1, .slice A n c)] rfl _ (built_s26 f hf A n c) ?_
    | (refine wpList_store_s t26 rfl _ _ rfl gr vz f _ A n c rfl rfl R2.out vz_len hf ?_; intro w5 R5 o5))
  refine bodyPost_ret (results_s t26 rfl _ _ gr f _ rfl R5.out hf) rfl ?_
  have c2 := b1.out.trans (b2.out.mono b1.out.size)
  have := egr.out
  exact ⟨rfl, c2.trans (o5.out.below (by have := b1.out.size; omega) c2.size)⟩
theorem to_is (f : List Int) (A : Option Addr) (n c : Nat) (w : World) (hf : f.length = 16) :
    Calls Try.prog 12 #[.agg (sc f (.slice A n c)).toArray] w fun e w' => e = .returned (.agg (sc f (.slice A n c)).toArray) ∧ Below w.heap.size w w' := by
  go_enter Try.func12, Try.ntmps12
  go_wp2_with (first
    | (refine wpList_box_cs rfl _ rfl (sc f (.slice A n c)) rfl ?_; intro g0 w1 eg0 G1 b1)
    | (refine wpList_alloc_s t33 rfl rfl ?_; intro gr w2 egr R2 b2; have G2 := Lib.hid (G1.out.below b2.out); have c16 := G2.out.cell (sc_cloud (.slice A n c) hf))
    | refine wpList_load_v t23 rfl _ rfl g0 0 f rfl (range_floor G2.out.range) hf ?_
    | refine wpList_build rfl 33 _ rfl [(0, .agg (vc f).toArray), (1, .slice A n c)] rfl _ (built_s33 f hf A n c) ?_
    | (refine wpList_store_s t33 rfl _ _ rfl gr vz f _ A n c rfl rfl R2.out vz_len hf ?_; intro w5 R5 o5))
  refine bodyPost_ret (results_s t33 rfl _ _ gr f _ rfl R5.out hf) rfl ?_
  have c2 := b1.out.trans (b2.out.mono b1.out.size)
  have := egr.out
  exact ⟨rfl, c2.trans (o5.out.below (by have := b1.out.size; omega) c2.size)⟩
set_option maxRecDepth 100000 in
set_option maxHeartbeats 2000000 in
theorem aliveD_is (w : World) : Calls Try.prog 6 #[] w fun e w' => e = .returned (.bool true) ∧ Below w.heap.size w w' := by
  have n124 : Nums [1, 2, 4] := fun x hx => by simp only [List.mem_cons, List.not_mem_nil, or_false] at hx; omega
  go_enter Try.func6, Try.ntmps6
  go_wp2_with (refine wpList_num3 rfl _ _ _ rfl 1 2 4 rfl rfl rfl n124 ?_; intro g0 w1 N1 b1)
  refine (of_is [1, 2, 4] (some ⟨g0, 0, none⟩) 3 w1 N1.out (by simp) (v2d, [4]) (Lib.hid nrm_124)).mono ?_
  rintro e w2 ⟨A2, c2, rfl, o2, b2⟩
  have O2 := Lib.hid o2
  have B2 := Lib.hid (step_ b1.out b2)
  clear o2 b2
  go_wp2_with (first
    | go_skip
    | (refine wpList_alloc_s t33 rfl rfl ?_; intro g1 w3 eg1 S3 b3)
    | (refine wpList_store_s t33 rfl _ _ rfl g1 vz v2d _ A2 1 c2 rfl rfl S3.out vz_len rfl ?_; intro w4 S4 o4; have c16 := S4.out.cell (sc_cloud (.slice A2 1 c2) rfl))
    | refine wpList_load_v t24 rfl _ rfl g1 0 v2d rfl (range_floor S4.out.range) rfl ?_
    | refine wpList_build rfl 31 _ rfl [(0, .int .u32 2)] rfl _ built_v2 ?_
    | refine wpList_val rfl _ (exec_eq_vr t24 _ _ _ rfl v2d v2d rfl rfl rfl rfl (by decide : (v2d == v2d) = true)) ?_
    | (refine wanted_on rfl ?_; refine wpList_load_s t33 rfl _ rfl g1 v2d _ rfl S4.out rfl ?_)
    | (refine wanted_on rfl ?_; refine wpList_num1 u24n rfl _ rfl 3 rfl (by decide) ?_; intro g5 w5 eg5 N5 b5; clear c16))
  have B4 := Lib.hid ((step_ B2.out b3.out).trans (o4.out.below (by have := eg1.out; have := B2.out.size; omega) (step_ B2.out b3.out).size))
  have B5 := Lib.hid (step_ B4.out b5.out)
  have O4 := Lib.hid ((O2.out.below b3.out).only o4.out (fun k hk e => by have := (O2.out.lt hk).2; have := eg1.out; omega))
  have O5 := Lib.hid (O4.out.below b5.out)
  have S5 := Lib.hid (S4.out.below b5.out)
  refine (add_is v2d [4] [3] A2 (some ⟨g5, 0, none⟩) c2 1 w5 v2d_ok O5.out.at_ N5.out (by simp) (by simp) (v4d, []) (Lib.hid nrm_4_3)).mono ?_
  rintro e w6 ⟨A6, c6, rfl, o6, b6⟩
  have B6 := Lib.hid (step_ B5.out b6)
  have S6 := Lib.hid (S5.out.below b6)
  have O6 := Lib.hid (O5.out.below b6)
  clear o6 b6
  go_wp2_with (first
    | go_skip
    | (refine wanted_on rfl ?_; refine wpList_val rfl _ (exec_field_f _ rfl v4d _ rfl rfl) ?_)
    | (refine wanted_on rfl ?_; refine wpList_build rfl 31 _ rfl [(0, .int .u32 4)] rfl _ built_v4 ?_)
    | (refine wanted_on rfl ?_; refine wpList_val rfl _ (exec_eq_vr t24 _ _ _ rfl v4d v4d rfl rfl rfl rfl (by decide : (v4d == v4d) = true)) ?_)
    | (refine wanted_on rfl ?_; refine wpList_load_s t33 rfl _ rfl g1 v2d _ rfl S6.out rfl ?_))
  refine (count_is v2d [4] A2 c2 3 w6 v2d_ok O6.out.at_ (by simp) (Lib.hid cnt_d4)).mono ?_
  rintro e w7 ⟨rfl, b7⟩
  have B7 := Lib.hid (step_ B6.out b7)
  clear b7
  go_wp2_with fail
  go_ret
  exact ⟨rfl, B7.out⟩
end Go.Proofs.Ytpgafijeecmgmaa
