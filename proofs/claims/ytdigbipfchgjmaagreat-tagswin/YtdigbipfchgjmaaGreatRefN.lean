/- The contracts of Next and Add of the reference. -/
import Derived.Test.YtdigbipfchgjmaaGreatAddsT
namespace Go.Proofs.YtdigbipfchgjmaaGreat
open Go.RowKit

theorem sizeof37 (w : World) : (sizeOf 37).run Tryz.prog w = .ok 1 w := by
  have h : (Tryz.prog.info? 37).map (·.size) = some 1 := by kernel_rfl
  cases hq : Tryz.prog.info? 37 with
  | none => simp [hq] at h
  | some i =>
    have hi : i.size = 1 := by simpa [hq] using h
    simp [sizeOf, typeInfo, hq, hi]
theorem index_v (l : List Int) (hl : l.length = 16) (k : Nat) (h : k < 16) (w : World) : (Instr.index 73 (.agg (vc l).toArray) (.int .u8 k)).run Tryz.prog w = .ok (.int .u32 (l[k]'(by omega))) w := by
  have h1 : (0 : Int) ≤ (k : Int) ∧ (k : Int) < 16 := by omega
  have h2 := part_v l k (by omega) w
  simp only [Instr.index, asIntOf, Sem.run_bind, Sem.run_pure, Result.andThen_ok, run_underlying Tryz.underlying73]
  simp only [Int.natCast_nonneg, true_and]
  rw [if_pos (by omega)]
  simp only [Sem.run_bind, sizeof37, Result.andThen_ok, Nat.mul_one, Int.toNat_natCast]
  exact h2
theorem exec_index_v {o : Oper} {a : Act} {w : World} (x y : Operand) (ho : o.op = .index 73 x y) (l : List Int) (k : Nat) (v : Int) (hx : a.eval x = .agg (vc l).toArray) (hy : a.eval y = .int .u8 (k : Int)) (hl : l.length = 16) (h : k < 16) (hv : l.getD k 0 = v) :
    (execOp a.eval o).run Tryz.prog w = .ok (.value (.int .u32 v)) w := by
  have e : l[k]'(by omega) = v := by rw [← hv]; simp [List.getD, List.getElem?_eq_getElem (show k < l.length by omega)]
  unfold execOp
  simp only [ho, hx, hy, Sem.run_bind, index_v l hl k h w, Result.andThen_ok, Sem.run_pure, e]
set_option maxRecDepth 100000 in
theorem refNext_is (A : Option Addr) (n cap : Nat) (a : List Am) (k : Nat) (e0 n0 : Int) (w : World) (h : RowV w A n cap a) (hn : n ≤ 600) (he : Hid (nextE a k = e0)) (hN : Hid (nextN a k = n0)) : Calls Tryz.prog 17 #[.slice A n cap, .int .u8 (k : Int)] w fun e w' => e = .returned (.tuple #[.int .u32 n0, .int .i64 e0]) ∧ Below w.heap.size w w' := by
  have VO := Lib.hid (vof_vok (norm_st h.ok).ok)
  have H := Lib.hid h
  clear h
  obtain ⟨l, hl⟩ : ∃ l, vof (norm a) = l := ⟨_, rfl⟩
  have NL := Lib.hid hl
  rw [hl] at VO
  by_cases hk : 16 ≤ k
  · obtain rfl : (1 : Int) = e0 := by rw [← he.out]; exact (nextE_big hk).symm
    obtain rfl : (0 : Int) = n0 := by rw [← hN.out]; unfold nextN; rw [if_neg (by rw [nextE_big hk]; decide)]
    have hk' : (16 : Int) ≤ (k : Int) := by omega
    clear he hN hl
    go_enter Tryz.func17, Tryz.ntmps17
    go_wp2_with fail
    refine bodyPost_ret (results_tmp2 rfl _ _ _) rfl ?_
    exact ⟨rfl, Below.refl _ _⟩
  · have hk' : ¬ (16 : Int) ≤ (k : Int) := by omega
    have hk2 : k < 16 := by omega
    obtain ⟨x, hx⟩ : ∃ x, l.getD k 0 = x := ⟨_, rfl⟩
    have HX := Lib.hid hx
    by_cases hs : x = 4294967295
    · have hb : (x == 4294967295) = true := by simpa using hs
      have hs2 : (vof (norm a)).getD k 0 = 4294967295 := by rw [hl, hx, hs]
      obtain rfl : (8 : Int) = e0 := by rw [← he.out]; exact (nextE_full hk hs2).symm
      obtain rfl : (0 : Int) = n0 := by rw [← hN.out]; unfold nextN; rw [if_neg (by rw [nextE_full hk hs2]; decide)]
      clear he hN hl hs hs2 hx
      go_enter Tryz.func17, Tryz.ntmps17
      go_wp2_with fail
      refine (refOfs_is A n cap a _ H.out hn).mono ?_
      rintro e w1 ⟨rfl, b1⟩
      have B1 := Lib.hid b1
      rw [NL.out]
      clear b1
      go_wp2_with (refine wpList_val rfl _ (exec_index_v _ _ rfl l k x rfl rfl VO.out.len hk2 HX.out) ?_)
      refine bodyPost_ret (results_tmp2 rfl _ _ _) rfl ?_
      exact ⟨rfl, B1.out⟩
    · have hb : (x == 4294967295) = false := by simpa using hs
      have hs2 : ¬ (vof (norm a)).getD k 0 = 4294967295 := by rw [hl, hx]; exact hs
      have hrg : 0 ≤ x ∧ x < 4294967296 := VO.out.rg x (by
        rw [← hx]; simp only [List.getD, List.getElem?_eq_getElem (show k < l.length by rw [VO.out.len]; exact hk2), Option.getD_some]; exact List.getElem_mem _)
      have hw : IntKind.u32.wrap (x + 1) = x + 1 := wrap_u32 (by omega) (by omega)
      obtain rfl : (0 : Int) = e0 := by rw [← he.out]; exact (nextE_ok hk hs2).symm
      obtain rfl : x + 1 = n0 := by rw [← hN.out]; unfold nextN; rw [if_pos (nextE_ok hk hs2), hl, hx]
      clear he hN hl hs hs2 hx hrg
      go_enter Tryz.func17, Tryz.ntmps17
      go_wp2_with fail
      refine (refOfs_is A n cap a _ H.out hn).mono ?_
      rintro e w1 ⟨rfl, b1⟩
      have B1 := Lib.hid b1
      rw [NL.out]
      clear b1
      go_wp2_with (refine wpList_val rfl _ (exec_index_v _ _ rfl l k x rfl rfl VO.out.len hk2 HX.out) ?_)
      refine bodyPost_ret (results_tmp2 rfl _ _ _) rfl ?_
      exact ⟨rfl, B1.out⟩
set_option maxRecDepth 100000 in
theorem refAdd_is (A : Option Addr) (n cap : Nat) (a : List Am) (k : Nat) (c : Int) (m : List Int) (e0 : Int) (l : List Am) (w : World) (h : RowV w A n cap a) (hn : n ≤ 600) (hm : NOk m) (hc : 0 ≤ c ∧ c < 65536) (he : Hid (addE a k m = e0)) (hl : Hid (addL a k c m = l)) :
    Calls Tryz.prog 19 #[.slice A n cap, .int .u8 (k : Int), .int .u16 c, .agg (nm m)] w (GivesRE w l e0) := by
  have H := Lib.hid h
  have HM := Lib.hid hm
  have R0 := Lib.hid (blk_alloc w 25 (nmL m)).range
  have B0 := Lib.hid (new_below w (.cells (nm m) 25))
  clear hm
  by_cases hk : 16 ≤ k
  · have he' : e0 = 1 := by rw [← he.out]; unfold addE; rw [nextE_big hk]; split <;> rfl
    subst he'
    obtain rfl : [] = l := by rw [← hl.out]; unfold addL; rw [he.out]; rfl
    have hk' : (16 : Int) ≤ (k : Int) := by omega
    clear he hl h
    go_enter Tryz.func19, Tryz.ntmps19
    go_wp2_with go_skip
    refine bodyPost_ret (results_tmp2 rfl _ _ _) rfl ?_
    exact ⟨⟨none, 0, 0, rfl, rowV_nil _⟩, B0.out⟩
  have hk' : ¬ (16 : Int) ≤ (k : Int) := by omega
  cases hr : M.rightB m with
  | false =>
    have HR := Lib.hid hr
    have he' : e0 = 1 := by rw [← he.out]; unfold addE; rw [hr]; rfl
    subst he'
    obtain rfl : [] = l := by rw [← hl.out]; unfold addL; rw [he.out]; rfl
    clear hr he hl h
    go_enter Tryz.func19, Tryz.ntmps19
    go_wp2_with (refine wanted_on rfl ?_; refine wpList_load_nm rfl _ rfl w.heap.size 0 m rfl R0.out HM.out.1 ?_)
    refine (refRight_is m false _ HM.out.1 (Lib.hid HM.out.2) HR).mono ?_
    rintro e w1 ⟨rfl, b1⟩
    have B1 := Lib.hid (step_ B0.out b1)
    clear b1
    go_wp2_with fail
    refine bodyPost_ret (results_tmp2 rfl _ _ _) rfl ?_
    exact ⟨⟨none, 0, 0, rfl, rowV_nil _⟩, B1.out⟩
  | true =>
    have HR := Lib.hid hr
    have he1 : nextE a k = e0 := by rw [← he.out]; unfold addE; rw [hr]; rfl
    have HE := Lib.hid he1
    by_cases h0 : e0 = 0
    · subst h0
      have RG := Lib.hid (nextN_rg h.ok he1)
      have KO := Lib.hid (show (addK c m k (nextN a k)).Ok from addK_ok HM.out hc (by have := RG.out.2.2; omega) (by have := RG.out.1; have := RG.out.2.1; omega))
      obtain ⟨q, hq⟩ : ∃ q, nextN a k = q := ⟨_, rfl⟩
      have HQ := Lib.hid hq
      have HL := Lib.hid (show addR (addK c m k q) = l by rw [← hl.out, ← hq]; unfold addL; rw [if_pos he.out])
      rw [hq] at KO
      clear hr he hl h he1 hq hc RG
      go_enter Tryz.func19, Tryz.ntmps19
      go_wp2_with (refine wanted_on rfl ?_; refine wpList_load_nm rfl _ rfl w.heap.size 0 m rfl R0.out HM.out.1 ?_)
      refine (refRight_is m true _ HM.out.1 (Lib.hid HM.out.2) HR).mono ?_
      rintro e w1 ⟨rfl, b1⟩
      have B1 := Lib.hid (step_ B0.out b1)
      have R1 := Lib.hid (((blk_alloc w 25 (nmL m)).below b1))
      clear b1
      go_wp2_with fail
      refine (refNext_is A n cap a k 0 q _ (H.out.below B1.out) hn HE HQ).mono ?_
      rintro e w2 ⟨rfl, b2⟩
      have B2 := Lib.hid (step_ B1.out b2)
      have R2 := Lib.hid (R1.out.below b2)
      clear b2 R1
      go_wp2_with (first
        | refine wpList_load_nm rfl _ rfl w.heap.size 0 m rfl R2.out.range HM.out.1 ?_
        | refine wpList_build rfl 48 _ rfl [(0, .int .u8 1), (1, .int .u16 c), (2, .agg (nm m)), (3, .int .u8 (k : Int)), (4, .int .u32 q)] rfl _ (built27_5 (addK c m k q) KO.out.ml) ?_
        | refine wpList_build rfl 52 _ rfl [(0, .int .u64 1)] rfl _ (built30_1 1) ?_
        | refine wpList_build rfl 56 _ rfl [(0, .agg (addK c m k q).cells.toArray), (1, .agg there_.cells.toArray)] rfl _ (built46 (addK c m k q) there_ KO.out.ml rfl) ?_
        | (refine wpList_one46 rfl _ rfl ⟨addK c m k q, there_⟩ rfl ⟨KO.out, there_ok⟩ ?_; intro g4 w4 e4 N4 B4))
      refine bodyPost_ret (results_tmp2 rfl _ _ _) rfl ?_
      exact ⟨⟨_, 1, 1, rfl, by rw [← HL.out]; exact rowV_own1 N4.out ⟨KO.out, there_ok⟩⟩, step_ B2.out B4.out⟩
    · have hb : (e0 != 0) = true := by simpa using h0
      obtain ⟨q, hq⟩ : ∃ q, nextN a k = q := ⟨_, rfl⟩
      have HQ := Lib.hid hq
      obtain rfl : [] = l := by rw [← hl.out]; unfold addL; rw [if_neg (by rw [he.out]; exact h0)]
      clear hr he hl h he1 hq hc h0
      go_enter Tryz.func19, Tryz.ntmps19
      go_wp2_with (refine wanted_on rfl ?_; refine wpList_load_nm rfl _ rfl w.heap.size 0 m rfl R0.out HM.out.1 ?_)
      refine (refRight_is m true _ HM.out.1 (Lib.hid HM.out.2) HR).mono ?_
      rintro e w1 ⟨rfl, b1⟩
      have B1 := Lib.hid (step_ B0.out b1)
      clear b1
      go_wp2_with fail
      refine (refNext_is A n cap a k e0 q _ (H.out.below B1.out) hn HE HQ).mono ?_
      rintro e w2 ⟨rfl, b2⟩
      have B2 := Lib.hid (step_ B1.out b2)
      clear b2
      go_wp2_with fail
      refine bodyPost_ret (results_tmp2 rfl _ _ _) rfl ?_
      exact ⟨⟨none, 0, 0, rfl, rowV_nil _⟩, B2.out⟩
end Go.Proofs.YtdigbipfchgjmaaGreat
