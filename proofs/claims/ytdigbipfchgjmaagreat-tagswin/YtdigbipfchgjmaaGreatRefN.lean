/- The contracts of Next, Add and Drop of package tags. The contracts of Next and Add of the reference. -/
import Derived.Test.YtdigbipfchgjmaaGreatPicksT
import Derived.Test.YtdigbipfchgjmaaGreatOfs
namespace Go.Proofs.YtdigbipfchgjmaaGreat
open Go.RowKit

theorem vof_vok {s : List Am} (h : OkR s) : VOk (vof s) := by
  refine ⟨vof_len s, fun x hx => ?_⟩
  obtain ⟨i, hi, e⟩ := List.getElem_of_mem hx
  have hl := vof_len s
  have eg : (vof s).getD i 0 = x := by simp [List.getD, List.getElem?_eq_getElem hi, e]
  have h1 := (vof_ge s i (by omega) 0).2 (.inl (Int.le_refl _))
  rw [eg] at h1
  refine ⟨h1, ?_⟩
  by_cases hlt : x < 4294967296
  · exact hlt
  · rcases (vof_ge s i (by omega) 4294967296).1 (by rw [eg]; omega) with h2 | ⟨y, hy, _, _, hq⟩
    · omega
    · have := (h y hy).k.q1
      omega
def nextE (a : List Am) (k : Nat) : Int := bumpE (vof (norm a)) k
def nextN (a : List Am) (k : Nat) : Int := if nextE a k = 0 then (vof (norm a)).getD k 0 + 1 else 0
theorem nextE_big {a : List Am} {k : Nat} (h : 16 ≤ k) : nextE a k = 1 := by unfold nextE bumpE; rw [if_pos h]
theorem nextE_full {a : List Am} {k : Nat} (h : ¬ 16 ≤ k) (hs : (vof (norm a)).getD k 0 = 4294967295) : nextE a k = 8 := by unfold nextE bumpE; rw [if_neg h, if_pos hs]
theorem nextE_ok {a : List Am} {k : Nat} (h : ¬ 16 ≤ k) (hs : ¬ (vof (norm a)).getD k 0 = 4294967295) : nextE a k = 0 := by unfold nextE bumpE; rw [if_neg h, if_neg hs]
set_option maxRecDepth 100000 in
theorem next_is (A : Option Addr) (n cap : Nat) (a : List Am) (k : Nat) (e0 n0 : Int) (w : World) (h : RowV w A n cap a) (hn : n ≤ 600) (he : Hid (nextE a k = e0)) (hN : Hid (nextN a k = n0)) : Calls Tryz.prog 16 #[.slice A n cap, .int .u8 (k : Int)] w fun e w' => e = .returned (.tuple #[.int .u32 n0, .int .i64 e0]) ∧ Below w.heap.size w w' := by
  have hz := zero24
  have VO := Lib.hid (vof_vok (norm_st h.ok).ok)
  have H := Lib.hid h
  clear h
  obtain ⟨l, hl⟩ : ∃ l, vof (norm a) = l := ⟨_, rfl⟩
  have NL := Lib.hid hl
  obtain ⟨m, hm⟩ : ∃ m, bumpV l k = m := ⟨_, rfl⟩
  have ML := Lib.hid (show m.length = 16 by rw [← hm]; exact bumpV_len (by rw [← hl]; exact vof_len _) k)
  have HE := Lib.hid (show bumpE l k = e0 by rw [← hl]; exact he.out)
  rw [hl] at VO
  have HM := Lib.hid hm
  by_cases h0 : e0 = 0
  · subst h0
    have hN0 : l.getD k 0 + 1 = n0 := by rw [← hN.out, ← hl]; unfold nextN; rw [if_pos he.out]
    have hk2 : k < 16 := by
      by_cases hk : 16 ≤ k
      · have := HE.out; unfold bumpE at this; rw [if_pos hk] at this; cases this
      · omega
    have hk3 : (k : Int) < 16 := by omega
    have MK := Lib.hid (show m[k]? = some n0 by
      rw [← hm]; unfold bumpV
      rw [if_neg (by omega)]
      have hs : ¬ l.getD k 0 = 4294967295 := fun e => by have := HE.out; unfold bumpE at this; rw [if_neg (by omega), if_pos e] at this; cases this
      rw [if_neg hs, hN0]
      rw [List.getElem?_set_self (by rw [← hl, vof_len]; exact hk2)])
    clear hl hm he hN hN0 hk2
    go_enter Tryz.func16, Tryz.ntmps16
    go_wp2_with fail
    refine (vecOfs_is A n cap a _ H.out hn).mono ?_
    rintro e w1 ⟨rfl, b1⟩
    have B1 := Lib.hid b1
    rw [NL.out]
    clear b1
    go_wp2_with fail
    refine (bump_is l m k 0 _ VO.out HE HM).mono ?_
    rintro e w2 ⟨rfl, b2⟩
    have B2 := Lib.hid (step_ B1.out b2)
    have Z := Lib.hid (blk_alloc w2 74 (vc vz))
    clear b2
    go_wp2_with (first
      | (refine wpList_store_v t24 rfl _ _ rfl w2.heap.size vz m rfl rfl Z.out rfl ML.out ?_; intro w3 N3 O3; have ca := N3.out.cell (vc_at MK.out)))
    refine bodyPost_ret (results_tmp2 rfl _ _ _) rfl ?_
    exact ⟨rfl, step_ B2.out (box_below O3.out)⟩
  · have hb : (e0 != 0) = true := by simpa using h0
    obtain rfl : (0 : Int) = n0 := by rw [← hN.out]; unfold nextN; rw [if_neg (by rw [he.out]; exact h0)]
    clear hl hm he hN h0
    go_enter Tryz.func16, Tryz.ntmps16
    go_wp2_with fail
    refine (vecOfs_is A n cap a _ H.out hn).mono ?_
    rintro e w1 ⟨rfl, b1⟩
    have B1 := Lib.hid b1
    rw [NL.out]
    clear b1
    go_wp2_with fail
    refine (bump_is l m k e0 _ VO.out HE HM).mono ?_
    rintro e w2 ⟨rfl, b2⟩
    have B2 := Lib.hid (step_ B1.out b2)
    have Z := Lib.hid (blk_alloc w2 74 (vc vz))
    clear b2
    go_wp2_with (first
      | (refine wpList_store_v t24 rfl _ _ rfl w2.heap.size vz m rfl rfl Z.out rfl ML.out ?_; intro w3 N3 O3))
    refine bodyPost_ret (results_tmp2 rfl _ _ _) rfl ?_
    exact ⟨rfl, step_ B2.out (box_below O3.out)⟩
def addE (a : List Am) (k : Nat) (m : List Int) : Int := if M.rightB m = true then nextE a k else 1
def addL (a : List Am) (k : Nat) (c : Int) (m : List Int) : List Am := if addE a k m = 0 then addR (addK c m k (nextN a k)) else []
/-- The call answers a row and an error. -/
def GivesRE (w : World) (l : List Am) (e0 : Int) (e : Ending) (w' : World) : Prop := (∃ A n cap, e = .returned (.tuple #[.slice A n cap, .int .i64 e0]) ∧ RowV w' A n cap l) ∧ Below w.heap.size w w'
theorem rowV_own1 {w : World} {g : Nat} {x : Am} (h : Blk w g 56 x.cells) (hx : x.Ok) : RowV w (some ⟨g, 0, none⟩) 1 1 [x] :=
  ⟨fun y hy => by rw [List.mem_singleton.1 hy]; exact hx, rfl, Nat.le_refl _, by unfold maxLen; decide, fun _ => ⟨g, 0, rfl, h.lt, fun i hi j v hv => by
    obtain rfl : i = 0 := by simpa using hi
    have := h.range j v hv
    simpa using this⟩⟩
theorem nextN_rg {a : List Am} (h : OkR a) {k : Nat} (he : nextE a k = 0) : 0 < nextN a k ∧ nextN a k < 4294967296 ∧ k < 16 := by
  have hk : k < 16 := by
    by_cases hk : 16 ≤ k
    · rw [nextE_big hk] at he; cases he
    · omega
  have hs : ¬ (vof (norm a)).getD k 0 = 4294967295 := fun e => by rw [nextE_full (by omega) e] at he; cases he
  unfold nextN
  rw [if_pos he]
  have hv := vof_vok (norm_st h).ok
  have hl := hv.len
  have hm : (vof (norm a)).getD k 0 ∈ vof (norm a) := by
    simp only [List.getD, List.getElem?_eq_getElem (show k < (vof (norm a)).length by omega), Option.getD_some]; exact List.getElem_mem _
  have := hv.rg _ hm
  exact ⟨by omega, by omega, hk⟩
set_option maxRecDepth 100000 in
theorem add_is (A : Option Addr) (n cap : Nat) (a : List Am) (k : Nat) (c : Int) (m : List Int) (e0 : Int) (l : List Am) (w : World) (h : RowV w A n cap a) (hn : n ≤ 600) (hm : NOk m) (hc : 0 ≤ c ∧ c < 65536) (he : Hid (addE a k m = e0)) (hl : Hid (addL a k c m = l)) :
    Calls Tryz.prog 18 #[.slice A n cap, .int .u8 (k : Int), .int .u16 c, .agg (nm m)] w (GivesRE w l e0) := by
  have H := Lib.hid h
  have HM := Lib.hid hm
  have R0 := Lib.hid (blk_alloc w 25 (nmL m)).range
  have B0 := Lib.hid (new_below w (.cells (nm m) 25))
  clear hm
  cases hr : M.rightB m with
  | false =>
    have HR := Lib.hid hr
    have he' : e0 = 1 := by rw [← he.out]; unfold addE; rw [hr]; rfl
    subst he'
    obtain rfl : [] = l := by rw [← hl.out]; unfold addL; rw [he.out]; rfl
    clear hr he hl h
    go_enter Tryz.func18, Tryz.ntmps18
    go_wp2_with (refine wpList_load_nm rfl _ rfl w.heap.size 0 m rfl R0.out HM.out.1 ?_)
    refine (right_is m false _ HM.out.1 (Lib.hid HM.out.2) HR).mono ?_
    rintro e w1 ⟨rfl, b1⟩
    have B1 := Lib.hid (step_ B0.out b1)
    clear b1
    go_wp2_with fail
    refine bodyPost_ret (results_tmp2 rfl _ _ _) rfl ?_
    exact ⟨⟨none, 0, 0, rfl, rowV_nil _⟩, B1.out⟩
  | true =>
    have HR := Lib.hid hr
    have he1 : nextE a k = e0 := by rw [← he.out]; unfold addE; rw [hr]; rfl
    have HE := Lib.hid he1
    by_cases h0 : e0 = 0
    · subst h0
      have RG := Lib.hid (nextN_rg h.ok he1)
      have KO := Lib.hid (show (addK c m k (nextN a k)).Ok from addK_ok HM.out hc (by have := RG.out.2.2; omega) (by have := RG.out.1; have := RG.out.2.1; omega))
      obtain ⟨q, hq⟩ : ∃ q, nextN a k = q := ⟨_, rfl⟩
      have HQ := Lib.hid hq
      have HL := Lib.hid (show addR (addK c m k q) = l by rw [← hl.out, ← hq]; unfold addL; rw [if_pos he.out])
      rw [hq] at KO
      clear hr he hl h he1 hq hc RG
      go_enter Tryz.func18, Tryz.ntmps18
      go_wp2_with (refine wpList_load_nm rfl _ rfl w.heap.size 0 m rfl R0.out HM.out.1 ?_)
      refine (right_is m true _ HM.out.1 (Lib.hid HM.out.2) HR).mono ?_
      rintro e w1 ⟨rfl, b1⟩
      have B1 := Lib.hid (step_ B0.out b1)
      have R1 := Lib.hid (((blk_alloc w 25 (nmL m)).below b1))
      clear b1
      go_wp2_with fail
      refine (next_is A n cap a k 0 q _ (H.out.below B1.out) hn HE HQ).mono ?_
      rintro e w2 ⟨rfl, b2⟩
      have B2 := Lib.hid (step_ B1.out b2)
      have R2 := Lib.hid (R1.out.below b2)
      have Z := Lib.hid (blk_alloc w2 48 kzero.cells)
      have hz := zero27
      clear b2 R1
      go_wp2_with (first
        | refine wpList_load_nm rfl _ rfl w.heap.size 0 m rfl R2.out.range HM.out.1 ?_
        | refine wpList_build rfl 48 _ rfl [(0, .int .u8 1), (1, .int .u16 c), (2, .agg (nm m)), (3, .int .u8 (k : Int)), (4, .int .u32 q)] rfl _ (built27_5 (addK c m k q) KO.out.ml) ?_
        | (refine wpList_store_ky rfl _ _ rfl w2.heap.size kzero (addK c m k q) rfl rfl Z.out kzero_ok.ml KO.out.ml ?_; intro w3 N3 O3)
        | refine wpList_load_ky rfl _ rfl w2.heap.size 0 (addK c m k q) rfl N3.out.range KO.out.ml ?_
        | refine wpList_build rfl 52 _ rfl [(0, .int .u64 1)] rfl _ (built30_1 1) ?_
        | refine wpList_build rfl 56 _ rfl [(0, .agg (addK c m k q).cells.toArray), (1, .agg there_.cells.toArray)] rfl _ (built46 (addK c m k q) there_ KO.out.ml rfl) ?_
        | (refine wpList_one46 rfl _ rfl ⟨addK c m k q, there_⟩ rfl ⟨KO.out, there_ok⟩ ?_; intro g4 w4 e4 N4 B4))
      refine bodyPost_ret (results_tmp2 rfl _ _ _) rfl ?_
      exact ⟨⟨_, 1, 1, rfl, by rw [← HL.out]; exact rowV_own1 N4.out ⟨KO.out, there_ok⟩⟩, step_ (step_ B2.out (box_below O3.out)) B4.out⟩
    · have hb : (e0 != 0) = true := by simpa using h0
      obtain ⟨q, hq⟩ : ∃ q, nextN a k = q := ⟨_, rfl⟩
      have HQ := Lib.hid hq
      obtain rfl : [] = l := by rw [← hl.out]; unfold addL; rw [if_neg (by rw [he.out]; exact h0)]
      clear hr he hl h he1 hq hc h0
      go_enter Tryz.func18, Tryz.ntmps18
      go_wp2_with (refine wpList_load_nm rfl _ rfl w.heap.size 0 m rfl R0.out HM.out.1 ?_)
      refine (right_is m true _ HM.out.1 (Lib.hid HM.out.2) HR).mono ?_
      rintro e w1 ⟨rfl, b1⟩
      have B1 := Lib.hid (step_ B0.out b1)
      clear b1
      go_wp2_with fail
      refine (next_is A n cap a k e0 q _ (H.out.below B1.out) hn HE HQ).mono ?_
      rintro e w2 ⟨rfl, b2⟩
      have B2 := Lib.hid (step_ B1.out b2)
      clear b2
      go_wp2_with fail
      refine bodyPost_ret (results_tmp2 rfl _ _ _) rfl ?_
      exact ⟨⟨none, 0, 0, rfl, rowV_nil _⟩, B2.out⟩
theorem take_getK {l : List Ky} {j : Nat} (h : j < l.length) : l.take (j + 1) = l.take j ++ [l.getD j kzero] := take_getDG kzero h
set_option maxRecDepth 100000 in
set_option maxHeartbeats 2000000 in
theorem drop_is (A : Option Addr) (n cap : Nat) (a : List Am) (c : Int) (m : List Int) (w : World) (h : RowV w A n cap a) (hn : n ≤ 600) (hm : m.length = 8) : Calls Tryz.prog 21 #[.slice A n cap, .int .u16 c, .agg (nm m)] w (GivesR w (dropT a c m)) := by
  have OKL := Lib.hid (show ∀ k ∈ liveT a c m, k.Ok from pick_ok (norm_st h.ok).ok)
  have LEN := Lib.hid (show (liveT a c m).length ≤ 600 by
    have := pick_len (pth (pof c m)) (norm a)
    have := norm_len a
    have := h.len
    unfold liveT
    omega)
  have H := Lib.hid h
  have HM := Lib.hid hm
  have R0 := Lib.hid (blk_alloc w 25 (nmL m)).range
  have B0 := Lib.hid (new_below w (.cells (nm m) 25))
  clear h hm
  go_enter Tryz.func21, Tryz.ntmps21
  go_wp2_with (refine wpList_load_nm rfl _ rfl w.heap.size 0 m rfl R0.out HM.out ?_)
  refine (live_is A n cap a c m _ (H.out.below B0.out) hn HM.out).mono ?_
  rintro e w1 ⟨⟨v, rfl, o1⟩, b1⟩
  obtain ⟨D, n1, cp, rfl, r1⟩ := o1.rowG LK
  have R1 := Lib.hid r1
  have B1 := Lib.hid (step_ B0.out b1)
  obtain ⟨L, hL⟩ : ∃ L, liveT a c m = L := ⟨_, rfl⟩
  rw [hL] at R1 OKL LEN
  have LN1 := Lib.hid (show n1 ≤ 600 by have := LEN.out; have := R1.out.len; omega)
  have LD := Lib.hid (show dropT a c m = dropR L by unfold dropT; rw [hL])
  clear o1 b1 r1 hL
  have hz := zero27
  have ln1 := LN1.out
  go_wp2_with fail
  go_loopw [7, 15] (fun s i wr => ∃ j : Nat, j ≤ n1 ∧ i = .int .i64 j ∧ OwnR wr w1.heap.size s (dropR (L.take j)) ∧ Below w1.heap.size w1 wr) (fun _ i _ => n1 - (intOf i).toNat)
  case atStart => exact ⟨0, Nat.zero_le _, rfl, ownR_nil _ _, Below.refl _ _⟩
  case round =>
    obtain ⟨j, hj, rfl, ho, hb⟩ := hrel
    have OO := Lib.hid ho
    have BB := Lib.hid hb
    clear ho hb
    by_cases hlt : j < n1
    · obtain ⟨G, p0, hE⟩ := (R1.out.below BB.out).elem kzero j hlt
      have E := Lib.hid hE
      have TK := Lib.hid (take_getK (l := L) (j := j) (by have := R1.out.len; omega))
      obtain ⟨x, hx⟩ : ∃ x, L.getD j kzero = x := ⟨_, rfl⟩
      rw [hx] at E TK
      have DL := Lib.hid (show (dropR (L.take j)).length ≤ 5000 by unfold dropR; rw [List.length_map, List.length_take]; have := LEN.out; omega)
      have Z1 := Lib.hid (blk_alloc wr 48 kzero.cells)
      have XO := Lib.hid (show x.Ok from E.out.ok)
      clear hE hx
      go_wp2_with (first
        | go_skip
        | refine wpList_indexG LK rfl _ _ rfl D n1 cp G p0 j x _ rfl rfl (by first | rfl | omega) E.out ?_
        | refine wpList_load_ky rfl _ rfl G p0 x rfl E.out.rg XO.out.ml ?_
        | (refine wpList_store_ky rfl _ _ rfl wr.heap.size kzero x rfl rfl Z1.out kzero_ok.ml XO.out.ml ?_; intro w3 N3 O3; have Q3 := Lib.hid (box_below O3.out))
        | refine wpList_load_ky rfl _ rfl wr.heap.size 0 x rfl N3.out.range XO.out.ml ?_
        | refine wpList_build rfl 52 _ rfl [(0, .int .u64 2)] rfl _ (built30_1 2) ?_
        | refine wpList_build rfl 56 _ rfl [(0, .agg x.cells.toArray), (1, .agg gone_.cells.toArray)] rfl _ (built46 x gone_ XO.out.ml rfl) ?_
        | (refine wpList_one46 rfl _ rfl ⟨x, gone_⟩ rfl ⟨XO.out, gone_ok⟩ ?_; intro g4 w4 e4 N4 Q4)
        | (refine wpList_app rfl _ _ rfl w1.heap.size _ (dropR (L.take j)) ⟨x, gone_⟩ g4 rfl rfl ((OO.out.below Q3.out).below Q4.out) ⟨XO.out, gone_ok⟩ N4.out DL.out (Nat.le_trans BB.out.size (Nat.le_trans Q3.out.size Q4.out.size)) ?_; intro D5 m5 c5 w5 e5 O5 Q5 G5))
      go_roundw
      case rel => exact ⟨j + 1, by omega, by go_num, by rw [TK.out, dropR_snoc]; exact O5.out, ((BB.out.trans (Q3.out.mono BB.out.size)).trans (Q4.out.mono (Nat.le_trans BB.out.size Q3.out.size))).trans Q5.out⟩
      case measure => simp [intOf]; omega
    · obtain rfl : n1 = j := by omega
      have HS := Lib.hid (show L.take n1 = L from List.take_of_length_le (by have := R1.out.len; omega))
      go_wp2_with fail
      go_ret
      rw [HS.out] at OO
      rw [LD.out]
      exact GivesR.own OO.out (step_ B1.out BB.out)
end Go.Proofs.YtdigbipfchgjmaaGreat
namespace Go.Proofs.YtdigbipfchgjmaaGreat
open Go.RowKit

theorem sizeof37 (w : World) : (sizeOf 37).run Tryz.prog w = .ok 1 w := by
  have h : (Tryz.prog.info? 37).map (·.size) = some 1 := by kernel_rfl
  cases hq : Tryz.prog.info? 37 with
  | none => simp [hq] at h
  | some i =>
    have hi : i.size = 1 := by simpa [hq] using h
    simp [sizeOf, typeInfo, hq, hi]
theorem index_v (l : List Int) (hl : l.length = 16) (k : Nat) (h : k < 16) (w : World) : (Instr.index 73 (.agg (vc l).toArray) (.int .u8 k)).run Tryz.prog w = .ok (.int .u32 (l[k]'(by omega))) w := by
  have h1 : (0 : Int) ≤ (k : Int) ∧ (k : Int) < 16 := by omega
  have h2 := part_v l k (by omega) w
  simp only [Instr.index, asIntOf, Sem.run_bind, Sem.run_pure, Result.andThen_ok, run_underlying Tryz.underlying73]
  simp only [Int.natCast_nonneg, true_and]
  rw [if_pos (by omega)]
  simp only [Sem.run_bind, sizeof37, Result.andThen_ok, Nat.mul_one, Int.toNat_natCast]
  exact h2
theorem exec_index_v {o : Oper} {a : Act} {w : World} (x y : Operand) (ho : o.op = .index 73 x y) (l : List Int) (k : Nat) (v : Int) (hx : a.eval x = .agg (vc l).toArray) (hy : a.eval y = .int .u8 (k : Int)) (hl : l.length = 16) (h : k < 16) (hv : l.getD k 0 = v) :
    (execOp a.eval o).run Tryz.prog w = .ok (.value (.int .u32 v)) w := by
  have e : l[k]'(by omega) = v := by rw [← hv]; simp [List.getD, List.getElem?_eq_getElem (show k < l.length by omega)]
  unfold execOp
  simp only [ho, hx, hy, Sem.run_bind, index_v l hl k h w, Result.andThen_ok, Sem.run_pure, e]
set_option maxRecDepth 100000 in
theorem refNext_is (A : Option Addr) (n cap : Nat) (a : List Am) (k : Nat) (e0 n0 : Int) (w : World) (h : RowV w A n cap a) (hn : n ≤ 600) (he : Hid (nextE a k = e0)) (hN : Hid (nextN a k = n0)) : Calls Tryz.prog 17 #[.slice A n cap, .int .u8 (k : Int)] w fun e w' => e = .returned (.tuple #[.int .u32 n0, .int .i64 e0]) ∧ Below w.heap.size w w' := by
  have VO := Lib.hid (vof_vok (norm_st h.ok).ok)
  have H := Lib.hid h
  clear h
  obtain ⟨l, hl⟩ : ∃ l, vof (norm a) = l := ⟨_, rfl⟩
  have NL := Lib.hid hl
  rw [hl] at VO
  by_cases hk : 16 ≤ k
  · obtain rfl : (1 : Int) = e0 := by rw [← he.out]; exact (nextE_big hk).symm
    obtain rfl : (0 : Int) = n0 := by rw [← hN.out]; unfold nextN; rw [if_neg (by rw [nextE_big hk]; decide)]
    have hk' : (16 : Int) ≤ (k : Int) := by omega
    clear he hN hl
    go_enter Tryz.func17, Tryz.ntmps17
    go_wp2_with fail
    refine bodyPost_ret (results_tmp2 rfl _ _ _) rfl ?_
    exact ⟨rfl, Below.refl _ _⟩
  · have hk' : ¬ (16 : Int) ≤ (k : Int) := by omega
    have hk2 : k < 16 := by omega
    obtain ⟨x, hx⟩ : ∃ x, l.getD k 0 = x := ⟨_, rfl⟩
    have HX := Lib.hid hx
    by_cases hs : x = 4294967295
    · have hb : (x == 4294967295) = true := by simpa using hs
      have hs2 : (vof (norm a)).getD k 0 = 4294967295 := by rw [hl, hx, hs]
      obtain rfl : (8 : Int) = e0 := by rw [← he.out]; exact (nextE_full hk hs2).symm
      obtain rfl : (0 : Int) = n0 := by rw [← hN.out]; unfold nextN; rw [if_neg (by rw [nextE_full hk hs2]; decide)]
      clear he hN hl hs hs2 hx
      go_enter Tryz.func17, Tryz.ntmps17
      go_wp2_with fail
      refine (refOfs_is A n cap a _ H.out hn).mono ?_
      rintro e w1 ⟨rfl, b1⟩
      have B1 := Lib.hid b1
      rw [NL.out]
      clear b1
      go_wp2_with (refine wpList_val rfl _ (exec_index_v _ _ rfl l k x rfl rfl VO.out.len hk2 HX.out) ?_)
      refine bodyPost_ret (results_tmp2 rfl _ _ _) rfl ?_
      exact ⟨rfl, B1.out⟩
    · have hb : (x == 4294967295) = false := by simpa using hs
      have hs2 : ¬ (vof (norm a)).getD k 0 = 4294967295 := by rw [hl, hx]; exact hs
      have hrg : 0 ≤ x ∧ x < 4294967296 := VO.out.rg x (by
        rw [← hx]; simp only [List.getD, List.getElem?_eq_getElem (show k < l.length by rw [VO.out.len]; exact hk2), Option.getD_some]; exact List.getElem_mem _)
      have hw : IntKind.u32.wrap (x + 1) = x + 1 := wrap_u32 (by omega) (by omega)
      obtain rfl : (0 : Int) = e0 := by rw [← he.out]; exact (nextE_ok hk hs2).symm
      obtain rfl : x + 1 = n0 := by rw [← hN.out]; unfold nextN; rw [if_pos (nextE_ok hk hs2), hl, hx]
      clear he hN hl hs hs2 hx hrg
      go_enter Tryz.func17, Tryz.ntmps17
      go_wp2_with fail
      refine (refOfs_is A n cap a _ H.out hn).mono ?_
      rintro e w1 ⟨rfl, b1⟩
      have B1 := Lib.hid b1
      rw [NL.out]
      clear b1
      go_wp2_with (refine wpList_val rfl _ (exec_index_v _ _ rfl l k x rfl rfl VO.out.len hk2 HX.out) ?_)
      refine bodyPost_ret (results_tmp2 rfl _ _ _) rfl ?_
      exact ⟨rfl, B1.out⟩
set_option maxRecDepth 100000 in
theorem refAdd_is (A : Option Addr) (n cap : Nat) (a : List Am) (k : Nat) (c : Int) (m : List Int) (e0 : Int) (l : List Am) (w : World) (h : RowV w A n cap a) (hn : n ≤ 600) (hm : NOk m) (hc : 0 ≤ c ∧ c < 65536) (he : Hid (addE a k m = e0)) (hl : Hid (addL a k c m = l)) :
    Calls Tryz.prog 19 #[.slice A n cap, .int .u8 (k : Int), .int .u16 c, .agg (nm m)] w (GivesRE w l e0) := by
  have H := Lib.hid h
  have HM := Lib.hid hm
  have R0 := Lib.hid (blk_alloc w 25 (nmL m)).range
  have B0 := Lib.hid (new_below w (.cells (nm m) 25))
  clear hm
  by_cases hk : 16 ≤ k
  · have he' : e0 = 1 := by rw [← he.out]; unfold addE; rw [nextE_big hk]; split <;> rfl
    subst he'
    obtain rfl : [] = l := by rw [← hl.out]; unfold addL; rw [he.out]; rfl
    have hk' : (16 : Int) ≤ (k : Int) := by omega
    clear he hl h
    go_enter Tryz.func19, Tryz.ntmps19
    go_wp2_with go_skip
    refine bodyPost_ret (results_tmp2 rfl _ _ _) rfl ?_
    exact ⟨⟨none, 0, 0, rfl, rowV_nil _⟩, B0.out⟩
  have hk' : ¬ (16 : Int) ≤ (k : Int) := by omega
  cases hr : M.rightB m with
  | false =>
    have HR := Lib.hid hr
    have he' : e0 = 1 := by rw [← he.out]; unfold addE; rw [hr]; rfl
    subst he'
    obtain rfl : [] = l := by rw [← hl.out]; unfold addL; rw [he.out]; rfl
    clear hr he hl h
    go_enter Tryz.func19, Tryz.ntmps19
    go_wp2_with (refine wanted_on rfl ?_; refine wpList_load_nm rfl _ rfl w.heap.size 0 m rfl R0.out HM.out.1 ?_)
    refine (refRight_is m false _ HM.out.1 (Lib.hid HM.out.2) HR).mono ?_
    rintro e w1 ⟨rfl, b1⟩
    have B1 := Lib.hid (step_ B0.out b1)
    clear b1
    go_wp2_with fail
    refine bodyPost_ret (results_tmp2 rfl _ _ _) rfl ?_
    exact ⟨⟨none, 0, 0, rfl, rowV_nil _⟩, B1.out⟩
  | true =>
    have HR := Lib.hid hr
    have he1 : nextE a k = e0 := by rw [← he.out]; unfold addE; rw [hr]; rfl
    have HE := Lib.hid he1
    by_cases h0 : e0 = 0
    · subst h0
      have RG := Lib.hid (nextN_rg h.ok he1)
      have KO := Lib.hid (show (addK c m k (nextN a k)).Ok from addK_ok HM.out hc (by have := RG.out.2.2; omega) (by have := RG.out.1; have := RG.out.2.1; omega))
      obtain ⟨q, hq⟩ : ∃ q, nextN a k = q := ⟨_, rfl⟩
      have HQ := Lib.hid hq
      have HL := Lib.hid (show addR (addK c m k q) = l by rw [← hl.out, ← hq]; unfold addL; rw [if_pos he.out])
      rw [hq] at KO
      clear hr he hl h he1 hq hc RG
      go_enter Tryz.func19, Tryz.ntmps19
      go_wp2_with (refine wanted_on rfl ?_; refine wpList_load_nm rfl _ rfl w.heap.size 0 m rfl R0.out HM.out.1 ?_)
      refine (refRight_is m true _ HM.out.1 (Lib.hid HM.out.2) HR).mono ?_
      rintro e w1 ⟨rfl, b1⟩
      have B1 := Lib.hid (step_ B0.out b1)
      have R1 := Lib.hid (((blk_alloc w 25 (nmL m)).below b1))
      clear b1
      go_wp2_with fail
      refine (refNext_is A n cap a k 0 q _ (H.out.below B1.out) hn HE HQ).mono ?_
      rintro e w2 ⟨rfl, b2⟩
      have B2 := Lib.hid (step_ B1.out b2)
      have R2 := Lib.hid (R1.out.below b2)
      clear b2 R1
      go_wp2_with (first
        | refine wpList_load_nm rfl _ rfl w.heap.size 0 m rfl R2.out.range HM.out.1 ?_
        | refine wpList_build rfl 48 _ rfl [(0, .int .u8 1), (1, .int .u16 c), (2, .agg (nm m)), (3, .int .u8 (k : Int)), (4, .int .u32 q)] rfl _ (built27_5 (addK c m k q) KO.out.ml) ?_
        | refine wpList_build rfl 52 _ rfl [(0, .int .u64 1)] rfl _ (built30_1 1) ?_
        | refine wpList_build rfl 56 _ rfl [(0, .agg (addK c m k q).cells.toArray), (1, .agg there_.cells.toArray)] rfl _ (built46 (addK c m k q) there_ KO.out.ml rfl) ?_
        | (refine wpList_one46 rfl _ rfl ⟨addK c m k q, there_⟩ rfl ⟨KO.out, there_ok⟩ ?_; intro g4 w4 e4 N4 B4))
      refine bodyPost_ret (results_tmp2 rfl _ _ _) rfl ?_
      exact ⟨⟨_, 1, 1, rfl, by rw [← HL.out]; exact rowV_own1 N4.out ⟨KO.out, there_ok⟩⟩, step_ B2.out B4.out⟩
    · have hb : (e0 != 0) = true := by simpa using h0
      obtain ⟨q, hq⟩ : ∃ q, nextN a k = q := ⟨_, rfl⟩
      have HQ := Lib.hid hq
      obtain rfl : [] = l := by rw [← hl.out]; unfold addL; rw [if_neg (by rw [he.out]; exact h0)]
      clear hr he hl h he1 hq hc h0
      go_enter Tryz.func19, Tryz.ntmps19
      go_wp2_with (refine wanted_on rfl ?_; refine wpList_load_nm rfl _ rfl w.heap.size 0 m rfl R0.out HM.out.1 ?_)
      refine (refRight_is m true _ HM.out.1 (Lib.hid HM.out.2) HR).mono ?_
      rintro e w1 ⟨rfl, b1⟩
      have B1 := Lib.hid (step_ B0.out b1)
      clear b1
      go_wp2_with fail
      refine (refNext_is A n cap a k e0 q _ (H.out.below B1.out) hn HE HQ).mono ?_
      rintro e w2 ⟨rfl, b2⟩
      have B2 := Lib.hid (step_ B1.out b2)
      clear b2
      go_wp2_with fail
      refine bodyPost_ret (results_tmp2 rfl _ _ _) rfl ?_
      exact ⟨⟨none, 0, 0, rfl, rowV_nil _⟩, B2.out⟩
end Go.Proofs.YtdigbipfchgjmaaGreat
