/- The contracts of find and of Rows of the reference. The contracts of Find and All of the reference; rows of rows. The contracts of find and of Rows of the reference. The contracts of Keys and Names of the reference. Written by wip/tools/same_r14.py. Get, Carts and Same of the reference. Written by wip/tools/nref_r16.py. fault, Put and Newer of package note. Written by wip/tools/nput_r16.py. Put of the reference. Written by wip/tools/nrput_r16.py. The atoms of a cart in a row: package cart's filter; the keys of its groups. -/
import Derived.Test.YtijfbhdbfplghaaGreatG01
import Derived.Test.YtijfbhdbfplghaaGreatG22
import Derived.Test.YtijfbhdbfplghaaGreatG25
import Derived.Test.YtijfbhdbfplghaaGreatG19
import Derived.Test.YtijfbhdbfplghaaGreatG27
import Derived.Test.YtijfbhdbfplghaaGreatG26
import Derived.Test.YtijfbhdbfplghaaGreatG08
import Derived.Test.YtijfbhdbfplghaaGreatG06
import Derived.Test.YtijfbhdbfplghaaGreatG04
import Derived.Test.YtijfbhdbfplghaaGreatG13
import Derived.Test.YtijfbhdbfplghaaGreatG24
import Derived.WalkArith
namespace Go.Proofs.YtijfbhdbfplghaaGreat
open Go.RowKit
set_option maxRecDepth 100000 in
set_option maxHeartbeats 2000000 in
theorem find_is (A : Option Addr) (n cap : Nat) (l : List Am) (k : Ky) (o : Option Vl) (w : World) (h : RowV w A n cap l) (hk : k.Ok) (hn : n ≤ 5000) (ho : Hid (fnd l k = o)) : Calls Tryz.prog 80 #[.slice A n cap, .agg k.cells.toArray] w (GivesV w o) := by
  have hz := zero30
  have H := Lib.hid h
  have HK := Lib.hid hk
  have Q0 := Lib.hid ((blk_alloc w 53 k.cells).alloc (.cells vzero.cells.toArray 56))
  have R0 := Lib.hid (blk2 w (.cells k.cells.toArray 53) 56 vzero.cells)
  have B0 := Lib.hid (step_ (new_below w (.cells k.cells.toArray 53)) (new_below _ (.cells vzero.cells.toArray 56)))
  clear h hk
  go_enter Tryz.func80, Tryz.ntmps80
  go_wp2_with fail
  go_loopw [6] (fun i wr => ∃ j : Nat, j ≤ n ∧ i = .int .i64 j ∧ fnd (l.drop j) k = o ∧ Below w.heap.size w wr ∧ Blk wr w.heap.size 53 k.cells ∧ Blk wr (w.heap.size + 1) 56 vzero.cells) (fun i _ => n - (intOf i).toNat)
  case atStart => exact ⟨0, Nat.zero_le _, rfl, ho.out, B0.out, Q0.out, R0.out⟩
  case round =>
    obtain ⟨j, hj, rfl, hf, hb, hq, hr⟩ := hrel
    have HF := Lib.hid hf
    have BB := Lib.hid hb
    have QQ := Lib.hid hq
    have RR := Lib.hid hr
    clear hf hb hq hr
    by_cases hlt : j < n
    · obtain ⟨G, p, hE⟩ := (H.out.below BB.out).elem j hlt
      have E := Lib.hid hE
      have T := Lib.hid (drop_getD (l := l) (j := j) (by have := H.out.len; omega))
      obtain ⟨x, hx⟩ : ∃ x, l.getD j azero = x := ⟨_, rfl⟩
      rw [hx] at E T
      clear hE hx
      by_cases hkk : x.k = k
      · have HE := Lib.hid (show decide (x.k = k) = true from decide_eq_true hkk)
        have HO := Lib.hid (show o = some x.v by rw [← HF.out, T.out, fnd, if_pos hkk])
        clear hkk
        go_wp2_with fail
        refine region_later (by kernel_rfl) (by kernel_rfl) ?_
        go_big_quiet_step (fail)
        go_big_quiet_step (fail)
        (go_big_quiet_want; refine quiet_index _ _ rfl A n cap G p j x _ rfl rfl (by first | rfl | omega) E.out ?_; go_simp; go_big_quiet_on)
        go_big_quiet_step (fail)
        (go_big_quiet_want; refine quiet_load_kyx G p x.k _ rfl rfl (range_ak E.out.rg) E.out.blk E.out.ok.k.ml ?_; go_simp; go_big_quiet_on)
        (go_big_quiet_want; refine quiet_load_kyx w.heap.size 0 k _ rfl rfl QQ.out.range QQ.out.lt HK.out.ml ?_; go_simp; go_big_quiet_on)
        (go_big_quiet_want; refine quiet_eq_ky _ _ _ rfl x.k k true rfl rfl E.out.ok.k HK.out HE.out ?_; go_simp; go_big_quiet_on)
        refine wpQuiet_nil ?_
        intro w2 hw2
        have E2 := Lib.hid (E.out.below hw2)
        have R2 := Lib.hid (RR.out.below hw2)
        have B2 := Lib.hid (step_ BB.out hw2)
        clear hw2
        go_wp2_with (first
          | go_skip
          | refine wpList_index rfl _ _ rfl A n cap G p j x _ rfl rfl (by first | rfl | omega) E2.out ?_
          | refine wpList_load_vl rfl _ rfl G (p + 12) x.v rfl (range_av E2.out.rg E2.out.ok) E2.out.ok.v.tl ?_
          | (refine wpList_store_vl rfl _ _ rfl (w.heap.size + 1) vzero x.v rfl rfl R2.out rfl E2.out.ok.v.tl ?_; intro w3 N3 O3))
        refine bodyPost_ret (results_vlB rfl _ _ (w.heap.size + 1) x.v rfl N3.out E2.out.ok.v.tl) rfl ?_
        exact ⟨by rw [HO.out]; rfl, B2.out.trans (O3.out.below (Nat.le_succ _) B2.out.size)⟩
      · have HE := Lib.hid (show decide (x.k = k) = false from decide_eq_false hkk)
        have HO := Lib.hid (show fnd (l.drop (j + 1)) k = o by rw [← HF.out, T.out]; unfold fnd; rw [if_neg hkk]; cases l.drop (j + 1) <;> rfl)
        clear hkk
        go_wp2_with fail
        refine region_later (by kernel_rfl) (by kernel_rfl) ?_
        go_big_quiet_step (fail)
        go_big_quiet_step (fail)
        (go_big_quiet_want; refine quiet_index _ _ rfl A n cap G p j x _ rfl rfl (by first | rfl | omega) E.out ?_; go_simp; go_big_quiet_on)
        go_big_quiet_step (fail)
        (go_big_quiet_want; refine quiet_load_kyx G p x.k _ rfl rfl (range_ak E.out.rg) E.out.blk E.out.ok.k.ml ?_; go_simp; go_big_quiet_on)
        (go_big_quiet_want; refine quiet_load_kyx w.heap.size 0 k _ rfl rfl QQ.out.range QQ.out.lt HK.out.ml ?_; go_simp; go_big_quiet_on)
        (go_big_quiet_want; refine quiet_eq_ky _ _ _ rfl x.k k false rfl rfl E.out.ok.k HK.out HE.out ?_; go_simp; go_big_quiet_on)
        refine wpQuiet_nil ?_
        intro w2 hw2
        have Q2 := Lib.hid (QQ.out.below hw2)
        have R2 := Lib.hid (RR.out.below hw2)
        have B2 := Lib.hid (step_ BB.out hw2)
        clear hw2
        go_wp2_with fail
        go_roundw
        case rel => exact ⟨j + 1, by omega, by go_num, HO.out, B2.out, Q2.out, R2.out⟩
        case measure => simp [intOf]; omega
    · obtain rfl : j = n := by omega
      have HO := Lib.hid (show o = none by rw [← HF.out, List.drop_of_length_le (by have := H.out.len; omega)]; rfl)
      go_wp2_with (first
          | go_skip
          | refine wpList_build rfl 56 _ rfl [] rfl _ built30_0 ?_
          | (refine wpList_store_vl rfl _ _ rfl (w.heap.size + 1) vzero vzero rfl rfl RR.out rfl rfl ?_; intro w3 N3 O3))
      refine bodyPost_ret (results_vlB rfl _ _ (w.heap.size + 1) vzero rfl N3.out rfl) rfl ?_
      exact ⟨by rw [HO.out]; rfl, BB.out.trans (O3.out.below (Nat.le_succ _) BB.out.size)⟩
end Go.Proofs.YtijfbhdbfplghaaGreat
namespace Go.Proofs.YtijfbhdbfplghaaGreat
open Go.RowKit
set_option maxRecDepth 100000 in
set_option maxHeartbeats 2000000 in
theorem refFind_is (A : Option Addr) (n cap : Nat) (l : List Am) (k : Ky) (o : Option Vl) (w : World) (h : RowV w A n cap l) (hk : k.Ok) (hn : n ≤ 1000) (ho : Hid (gt l k = o)) : Calls Tryz.prog 63 #[.slice A n cap, .agg k.cells.toArray] w (GivesV w o) := by
  have hz := zero30
  have HO := Lib.hid (show fnd (norm l) k = o by rw [fnd_norm h.ok]; exact ho.out)
  have OV := Lib.hid (show (o.getD vzero).Ok from getD_ok (ho.out ▸ (gt_ok h.ok).o k))
  have H := Lib.hid h
  have HK := Lib.hid hk
  have Q0 := Lib.hid ((blk_alloc w 53 k.cells).alloc (.cells vzero.cells.toArray 56))
  have Z0 := Lib.hid (blk2 w (.cells k.cells.toArray 53) 56 vzero.cells)
  have B0 := Lib.hid (step_ (new_below w (.cells k.cells.toArray 53)) (new_below _ (.cells vzero.cells.toArray 56)))
  clear h hk ho
  go_enter Tryz.func63, Tryz.ntmps63
  go_wp2_with fail
  obtain ⟨V, hV⟩ : ∃ V, (w.alloc (.cells k.cells.toArray 53)).alloc (.cells vzero.cells.toArray 56) = V := ⟨_, rfl⟩
  rw [hV] at Q0 Z0 B0 ⊢
  clear hV
  have S1 := Lib.hid (show Below w.heap.size w V.drew ∧ Blk V.drew w.heap.size 53 k.cells from ⟨below_drew B0.out, Q0.out.drew⟩)
  have Z1 := Lib.hid Z0.out.drew
  refine wp_region_noPanic ?_
  refine wp_region_held_drew (S := fun W => Below w.heap.size w W ∧ Blk W w.heap.size 53 k.cells) (by kernel_rfl) S1.out (fun _ => ?_)
  refine tkm 0 rfl S1.out ?_; try simp only [Act.put, stA, stZ, stS]
  refine tky 2 (.agg k.cells.toArray) rfl (yieldsIf_load_mid (by rfl) 53 (.tmp 3) rfl w.heap.size 0 rfl k.cells _ (fun W hW => hW.2.range) Tryz.underlying53 rfl (size27 HK.out.ml)) S1.out ?_; try simp only [Act.put, stA, stZ, stS]
  refine rdy [1] ?_
  refine AllReadyH.cons (arR rfl) (fun K hK => ?_) AllReadyH.nil
  go_simp
  refine (refNorm_is A n cap l _ (H.out.below S1.out.1) hn).mono ?_
  rintro e w1 ⟨⟨A1, n1, c1, rfl, r1⟩, b1⟩
  have S2 := Lib.hid (show Below w.heap.size w w1 ∧ Blk w1 w.heap.size 53 k.cells from ⟨step_ S1.out.1 b1, S1.out.2.below b1⟩)
  have Z2 := Lib.hid (Z1.out.below b1)
  have R1 := Lib.hid r1
  have N1 := Lib.hid (show n1 ≤ 5000 by have := norm_len l; rw [R1.out.len, H.out.len] at this; omega)
  clear b1 r1
  go_wp2_with fail
  refine hK.out _ _ ?_ (fun _ => ?_)
  · exact S2.out
  clear hK K
  try simp only [Act.put, stA, stZ, stS]
  refine rdy [3] ?_
  refine AllReadyH.cons (arR rfl) (fun K hK => ?_) AllReadyH.nil
  go_simp
  refine (find_is A1 n1 c1 (norm l) k o _ R1.out HK.out N1.out HO).mono ?_
  rintro e w2 ⟨rfl, b2⟩
  have S3 := Lib.hid (show Below w.heap.size w w2 ∧ Blk w2 w.heap.size 53 k.cells from ⟨step_ S2.out.1 b2, S2.out.2.below b2⟩)
  have Z3 := Lib.hid (Z2.out.below b2)
  clear b2
  go_wp2_with fail
  refine hK.out _ _ ?_ (fun _ => ?_)
  · exact S3.out
  clear hK K
  try simp only [Act.put, stA, stZ, stS]
  refine tkm 4 rfl S3.out ?_; try simp only [Act.put, stA, stZ, stS]
  refine tkm 5 rfl S3.out ?_; try simp only [Act.put, stA, stZ, stS]
  refine rdy [6] ?_
  refine ready_store_vl (arR rfl) rfl _ _ rfl (w.heap.size + 1) vzero (o.getD vzero) rfl rfl Z3.out rfl OV.out.tl (fun w3 N3 O3 => ?_) AllReadyH.nil
  have S4 := Lib.hid (show Below w.heap.size w w3 ∧ Blk w3 w.heap.size 53 k.cells from ⟨S3.out.1.trans (O3.below (Nat.le_succ _) S3.out.1.size), S3.out.2.only O3 (by omega)⟩)
  refine ⟨S4.out, ?_⟩
  simp only [Act.put]
  refine tkm 7 rfl S4.out ?_; try simp only [Act.put, stA, stZ, stS]
  refine wpAnyH_done (by kernel_rfl) ?_ _
  refine NoPanic.normal ?_
  go_wp2_with fail
  refine bodyPost_ret (results_vlB rfl _ _ (w.heap.size + 1) (o.getD vzero) rfl N3 OV.out.tl) rfl ?_
  exact ⟨rfl, S4.out.1⟩
end Go.Proofs.YtijfbhdbfplghaaGreat
namespace Go.Proofs.YtijfbhdbfplghaaGreat
open Go.RowKit
end Go.Proofs.YtijfbhdbfplghaaGreat
namespace Go.Proofs.YtijfbhdbfplghaaGreat
open Go.RowKit
theorem drop_getDG {α : Type} (z : α) {l : List α} {j : Nat} (h : j < l.length) : l.drop j = l.getD j z :: l.drop (j + 1) := by
  rw [List.drop_eq_getElem_cons h]; simp [List.getD, List.getElem?_eq_getElem h]
theorem exec_neq_nm {o : Oper} {a : Act} {w : World} (x y : Operand) (ty : TypeId) (ho : o.op = .binOp .neq 25 x y ty) (m n : List Int) (hx : a.eval x = .agg (nm m)) (hy : a.eval y = .agg (nm n)) (hm : m.length = 8) (hn : n.length = 8) :
    (execOp a.eval o).run Tryz.prog w = .ok (.value (.bool (!(m == n)))) w := by
  unfold execOp
  simp only [ho, hx, hy, Sem.run_bind, run_eqGuard_agg w .neq 25 x y _ _ eqg24, Result.andThen_ok, run_neq_struct, eql23 m n hm hn 9998 w, Sem.run_pure]
theorem quiet_neq_nm {o : Oper} {a : Act} {W : World} {K : Act → Prop} (x y : Operand) (t : TypeId) (ho : o.op = .binOp .neq 25 x y t) (m n : List Int) (b : Bool) (hx : a.eval x = .agg (nm m)) (hy : a.eval y = .agg (nm n)) (hm : m.length = 8) (hn : n.length = 8) (hb : (!decide (m = n)) = b)
    (hk : K (a.put o.dst (.bool b))) : o.quiet Tryz.prog a (Cls W) K := quiet_val _ (fun _ => by
      have e : (!(m == n)) = b := by rw [← hb]; by_cases h : m = n <;> simp [h]
      rw [exec_neq_nm x y t ho m n hx hy hm hn, e]) hk
theorem quiet_load_nmx {o : Oper} {a : Act} {W : World} {K : Act → Prop} (G off : Nat) (m : List Int) (x : Operand) (ho : o.op = .load 25 x) (hx : a.eval x = .pointer (some ⟨G, off, none⟩)) (hat : W.rangeAt G off (nmL m)) (hG : G < W.heap.size) (hm : m.length = 8)
    (hk : K (a.put o.dst (.agg (nm m)))) : o.quiet Tryz.prog a (Cls W) K := quiet_load_cs 25 G off (nmL m) _ x ho hx hat hG Tryz.underlying25 rfl (by rw [show (nmL m).length = 8 by unfold nmL; rw [List.length_map]; exact hm]; exact size23) hk
end Go.Proofs.YtijfbhdbfplghaaGreat
namespace Go.Proofs.YtijfbhdbfplghaaGreat
open Go.RowKit
set_option maxRecDepth 100000 in
set_option maxHeartbeats 4000000 in
theorem refGet_is (A : Option Addr) (n cap : Nat) (a : List Am) (c : Int) (v : Vl) (w : World) (h : RowV w A n cap a) (hn : n ≤ 1000) (hc : 0 ≤ c ∧ c < 65536) (hv : Hid (noteV a c = v)) : Calls Tryz.prog 40 #[.slice A n cap, .int .u16 c] w (GivesN w v) := by
  have VO := Lib.hid (show v.Ok by rw [← hv.out]; exact noteV_ok h.ok c)
  have HV := Lib.hid (show (gt a (noteK c)).getD vzero = v from hv.out)
  have N0 := Lib.hid (blk_alloc w 25 (nmL M.zero8))
  have B0 := Lib.hid (new_below w (.cells (nm M.zero8) 25))
  have H0 := Lib.hid (h.below B0.out)
  have hz := zero23
  have hz2 := zero30
  clear h hv
  go_enter Tryz.func40, Tryz.ntmps40
  go_wp2_with (refine wpList_build rfl 53 _ rfl [(0, .int .u8 4), (1, .int .u16 c)] rfl _ (built_nk c) ?_)
  refine (refFind_is A n cap a (noteK c) (gt a (noteK c)) _ H0.out (noteK_ok hc) hn (Lib.hid rfl)).mono ?_
  rintro e w1 ⟨he, b1⟩
  rw [HV.out] at he
  subst he
  have B1 := Lib.hid (step_ B0.out b1)
  have N1 := Lib.hid (N0.out.below b1)
  have LT := Lib.hid N1.out.lt
  have Z1 := Lib.hid (blk_alloc w1 56 vzero.cells)
  clear b1 N0 H0
  go_wp2_with (refine wpList_store_vl rfl _ _ rfl w1.heap.size vzero v rfl rfl Z1.out rfl VO.out.tl ?_; intro w2 N2 O2)
  have NE := Lib.hid (show w1.heap.size ≠ w.heap.size by have := LT.out; omega)
  have BX := Lib.hid (box_below O2.out)
  have B2 := Lib.hid (B1.out.trans (BX.out.mono B1.out.size))
  have N4 := Lib.hid (N1.out.below BX.out)
  have S0 := Lib.hid (only_drew w.heap.size w2)
  refine wp_region_noPanic ?_
  refine wp_region_held_drew (S := fun W => Only w.heap.size w2 W) (by kernel_rfl) S0.out (fun _ => ?_)
  refine tkm 0 rfl S0.out ?_; try simp only [Act.put, stA, stZ, stS]
  refine tky 1 (.agg (nmL v.t).toArray) rfl (yieldsIf_load_mid (by rfl) 25 (.tmp 16) rfl w1.heap.size 1 rfl (nmL v.t) _ (fun W hW => (N2.out.only hW NE.out).vnm) Tryz.underlying25 rfl (size_nmL VO.out.tl)) S0.out ?_; try simp only [Act.put, stA, stZ, stS]
  refine tkm 2 rfl S0.out ?_; try simp only [Act.put, stA, stZ, stS]
  refine tkv 3 (.int .u64 v.n) rfl (fun W hW => exec_load_i Tryz.underlying54 (.tmp 18) rfl w1.heap.size 0 v.n rfl ((N2.out.only hW NE.out).cell (vc0 v))) S0.out ?_; try simp only [Act.put, stA, stZ, stS]
  refine tkv 4 (.int .u64 (v.n / 256)) rfl (fun W hW => exec_quo256 (.tmp 19) rfl v.n rfl VO.out.n0 VO.out.n1) S0.out ?_; try simp only [Act.put, stA, stZ, stS]
  refine tkv 5 (.int .u32 (v.n / 256 % 4294967296)) rfl (fun W hW => exec_conv32 (.tmp 20) rfl (v.n / 256) rfl) S0.out ?_; try simp only [Act.put, stA, stZ, stS]
  refine tkm 6 rfl S0.out ?_; try simp only [Act.put, stA, stZ, stS]
  refine tkv 7 (.int .u64 v.n) rfl (fun W hW => exec_load_i Tryz.underlying54 (.tmp 22) rfl w1.heap.size 0 v.n rfl ((N2.out.only hW NE.out).cell (vc0 v))) S0.out ?_; try simp only [Act.put, stA, stZ, stS]
  refine tkv 8 (.int .u64 (v.n % 256)) rfl (fun W hW => exec_rem256 (.tmp 23) rfl v.n rfl VO.out.n0) S0.out ?_; try simp only [Act.put, stA, stZ, stS]
  refine tkv 9 (.int .u8 (v.n % 256 % 256)) rfl (fun W hW => exec_conv8 (.tmp 24) rfl (v.n % 256) rfl) S0.out ?_; try simp only [Act.put, stA, stZ, stS]
  refine rdy [10] ?_
  refine ready_store_cs (arR rfl) rfl 25 (.tmp 4) (.tmp 17) rfl w.heap.size (nmL M.zero8) (nmL v.t) rfl rfl (N4.out.below (below_drew (Below.refl _ _))) (by unfold nmL; rw [List.length_map, List.length_map, VO.out.tl]; rfl) (size_nmL VO.out.tl) (nm_one v.t) (fun W5 N5 O5 => ?_) AllReadyH.nil
  have M5 := Lib.hid N5
  have S5 := Lib.hid (S0.out.trans O5)
  clear N5 O5
  refine ⟨S5.out, ?_⟩
  try simp only [Act.put]
  refine tkm 11 rfl S5.out ?_; try simp only [Act.put, stA, stZ, stS]
  refine tkm 12 rfl S5.out ?_; try simp only [Act.put, stA, stZ, stS]
  refine wpAnyH_done (by kernel_rfl) ?_ _
  refine NoPanic.normal ?_
  go_wp2_with fail
  refine bodyPost_ret (results_note2 rfl _ _ w.heap.size v.t rfl M5.out VO.out.tl) rfl ?_
  have e8 : v.n % 256 % 256 = v.n % 256 := by omega
  refine ⟨by rw [e8]; rfl, B2.out.trans (S5.out.below (Nat.le_refl _) B2.out.size)⟩
theorem ac1 (a : Am) : a.cells[1]? = some (.int .u16 a.k.c) := rfl
set_option maxRecDepth 100000 in
theorem same16_other (A A2 : Option Addr) (n m cap cap2 : Nat) (w : World) (hnm : (n : Int) ≠ (m : Int)) : Calls Tryz.prog 15 #[.slice A n cap, .slice A2 m cap2] w fun e w' => e = .returned (.bool false) ∧ Below w.heap.size w w' := by
  have hd : (((n : Int)) == (m : Int)) = false := beq_eq_false_iff_ne.2 hnm
  clear hnm
  go_enter Tryz.func15, Tryz.ntmps15
  go_wp2_with fail
  go_ret
  exact ⟨rfl, Below.refl _ _⟩
set_option maxRecDepth 100000 in
set_option maxHeartbeats 2000000 in
theorem same16_len (A A2 : Option Addr) (n cap cap2 : Nat) (l m : List Int) (b : Bool) (w : World) (h : NumsAt w (.slice A n cap) l) (h2 : NumsAt w (.slice A2 n cap2) m) (hn : n ≤ 5000) (hb : Hid (decide (l = m) = b)) : Calls Tryz.prog 15 #[.slice A n cap, .slice A2 n cap2] w fun e w' => e = .returned (.bool b) ∧ Below w.heap.size w w' := by
  have H := Lib.hid h
  have J := Lib.hid h2
  have HL := Lib.hid h.len
  have JL := Lib.hid h2.len
  clear h h2
  go_enter Tryz.func15, Tryz.ntmps15
  go_wp2_with fail
  go_loopw [5] (fun i wr => ∃ j : Nat, j ≤ n ∧ i = .int .i64 j ∧ decide (l.drop j = m.drop j) = b ∧ Below w.heap.size w wr) (fun i _ => n - (intOf i).toNat)
  case atStart => exact ⟨0, Nat.zero_le _, rfl, hb.out, Below.refl _ _⟩
  case round =>
    obtain ⟨j, hj, rfl, hf, hb⟩ := hrel
    have HF := Lib.hid hf
    have BB := Lib.hid hb
    clear hf hb
    by_cases hlt : j < n
    · obtain ⟨G, p, hE, hEc, -⟩ := (H.out.below BB.out).elem j (by have := HL.out; omega)
      obtain ⟨G2, p2, hE2, hEc2, -⟩ := (J.out.below BB.out).elem j (by have := JL.out; omega)
      have E := Lib.hid hE
      have F := Lib.hid hE2
      have EC := Lib.hid hEc
      have FC := Lib.hid hEc2
      have T := Lib.hid (drop_getDG 0 (l := l) (j := j) (by have := HL.out; omega))
      have U := Lib.hid (drop_getDG 0 (l := m) (j := j) (by have := JL.out; omega))
      obtain ⟨x, hx⟩ : ∃ x, l.getD j 0 = x := ⟨_, rfl⟩
      obtain ⟨y, hy⟩ : ∃ y, m.getD j 0 = y := ⟨_, rfl⟩
      rw [hx] at EC T
      rw [hy] at FC U
      clear hE hx hE2 hy hEc hEc2
      by_cases hkk : x = y
      · have bE : (x != y) = false := by simp [hkk]
        have HO := Lib.hid (show decide (l.drop (j + 1) = m.drop (j + 1)) = b by rw [← HF.out, T.out, U.out, hkk]; simp)
        go_wp2_with fail
        refine region_later (by kernel_rfl) (by kernel_rfl) ?_
        go_big_quiet_step (fail)
        go_big_quiet_step (fail)
        (go_big_quiet_want; refine quiet_val _ (fun _ => exec_indexN Tryz.underlying34 _ _ rfl A n cap G p j _ rfl rfl (by first | rfl | omega) E.out) ?_; go_simp; go_big_quiet_on)
        (go_big_quiet_want; refine quiet_load_i Tryz.underlying23 G p x _ rfl rfl EC.out ?_; go_simp; go_big_quiet_on)
        go_big_quiet_step (fail)
        go_big_quiet_step (fail)
        (go_big_quiet_want; refine quiet_val _ (fun _ => exec_indexN Tryz.underlying34 _ _ rfl A2 n cap2 G2 p2 j _ rfl rfl (by first | rfl | omega) F.out) ?_; go_simp; go_big_quiet_on)
        (go_big_quiet_want; refine quiet_load_i Tryz.underlying23 G2 p2 y _ rfl rfl FC.out ?_; go_simp; go_big_quiet_on)
        go_big_quiet_step (fail)
        refine wpQuiet_nil ?_
        intro w2 hw2
        have B2 := Lib.hid (step_ BB.out hw2)
        clear hw2
        go_wp2_with fail
        go_roundw
        case rel => exact ⟨j + 1, by omega, by go_num, HO.out, B2.out⟩
        case measure => simp [intOf]; omega
      · have bE : (x != y) = true := by simp [hkk]
        have HO := Lib.hid (show b = false by rw [← HF.out, T.out, U.out]; simp [hkk])
        go_wp2_with fail
        refine region_later (by kernel_rfl) (by kernel_rfl) ?_
        go_big_quiet_step (fail)
        go_big_quiet_step (fail)
        (go_big_quiet_want; refine quiet_val _ (fun _ => exec_indexN Tryz.underlying34 _ _ rfl A n cap G p j _ rfl rfl (by first | rfl | omega) E.out) ?_; go_simp; go_big_quiet_on)
        (go_big_quiet_want; refine quiet_load_i Tryz.underlying23 G p x _ rfl rfl EC.out ?_; go_simp; go_big_quiet_on)
        go_big_quiet_step (fail)
        go_big_quiet_step (fail)
        (go_big_quiet_want; refine quiet_val _ (fun _ => exec_indexN Tryz.underlying34 _ _ rfl A2 n cap2 G2 p2 j _ rfl rfl (by first | rfl | omega) F.out) ?_; go_simp; go_big_quiet_on)
        (go_big_quiet_want; refine quiet_load_i Tryz.underlying23 G2 p2 y _ rfl rfl FC.out ?_; go_simp; go_big_quiet_on)
        go_big_quiet_step (fail)
        refine wpQuiet_nil ?_
        intro w2 hw2
        have B2 := Lib.hid (step_ BB.out hw2)
        clear hw2
        go_wp2_with fail
        go_ret
        exact ⟨ret_bool HO.out.symm, B2.out⟩
    · obtain rfl : j = n := by omega
      have HO := Lib.hid (show b = true by rw [← HF.out, List.drop_of_length_le (by have := HL.out; omega), List.drop_of_length_le (by have := JL.out; omega)]; rfl)
      go_wp2_with fail
      go_ret
      exact ⟨ret_bool HO.out.symm, BB.out⟩
theorem same16_is (v u : Value) (l k : List Int) (b : Bool) (w : World) (h : NumsAt w v l) (h2 : NumsAt w u k) (hn : l.length ≤ 5000) (hb : Hid (decide (l = k) = b)) : Calls Tryz.prog 15 #[v, u] w fun e w' => e = .returned (.bool b) ∧ Below w.heap.size w w' := by
  obtain ⟨A, cap, rfl⟩ := h.shape
  obtain ⟨A2, cap2, rfl⟩ := h2.shape
  by_cases e : l.length = k.length
  · rw [← e]
    rw [← e] at h2
    exact same16_len A A2 l.length cap cap2 l k b w h h2 hn hb
  · have hf : b = false := by
      rw [← hb.out]
      exact decide_eq_false (fun e2 => e (by rw [e2]))
    rw [hf]
    exact same16_other A A2 l.length k.length cap cap2 w (by omega)
end Go.Proofs.YtijfbhdbfplghaaGreat
namespace Go.Proofs.YtijfbhdbfplghaaGreat
open Go.RowKit
end Go.Proofs.YtijfbhdbfplghaaGreat
namespace Go.Proofs.YtijfbhdbfplghaaGreat
open Go.RowKit
end Go.Proofs.YtijfbhdbfplghaaGreat
namespace Go.Proofs.YtijfbhdbfplghaaGreat
open Go.RowKit Go.Shelf Go.Maps
attribute [local go_sem] Oper.semAt_some
set_option maxRecDepth 100000 in
set_option maxHeartbeats 2000000 in
theorem only_is (A : Option Addr) (n cap : Nat) (a : List Am) (c : Int) (w : World) (h : RowV w A n cap a) (hl : n ≤ 5000) : Calls Tryz.prog 25 #[.slice A n cap, .int .u16 c] w (GivesO w (onC c a)) := by
  have H := Lib.hid h
  clear h
  have hz := zero32
  go_enter Tryz.func25, Tryz.ntmps25
  go_wp2_with fail
  go_loopw [5, 10] (fun o i wr => ∃ j : Nat, j ≤ n ∧ i = .int .i64 (j : Int) ∧ OwnR wr w.heap.size o (onC c (a.take j)) ∧ Below w.heap.size w wr) (fun _ i _ => n - (intOf i).toNat)
  case atStart => exact ⟨0, Nat.zero_le _, rfl, ownR_nil _ _, Below.refl _ _⟩
  case round =>
    obtain ⟨j, hj, rfl, ho, hb⟩ := hrel
    have OO := Lib.hid ho
    have BB := Lib.hid hb
    clear ho hb
    by_cases hlt : j < n
    · obtain ⟨G, p, hE⟩ := (H.out.below BB.out).elem j hlt
      have TK := Lib.hid (take_getD (l := a) (j := j) (by have := H.out.len; omega))
      obtain ⟨x, hx⟩ : ∃ x, a.getD j azero = x := ⟨_, rfl⟩
      rw [hx] at hE TK
      have E := Lib.hid hE
      have XO := Lib.hid hE.ok
      have Z := Lib.hid (blk_alloc wr 58 azero.cells)
      have SN := Lib.hid (onC_snoc c (a.take j) x)
      have DL := Lib.hid (show (onC c (a.take j)).length ≤ 5000 by have h1 := onC_len c (a.take j); have h2 := List.length_take_le j a; have := H.out.len; omega)
      clear hE hx
      by_cases hc : x.k.c = c
      · have CE : (x.k.c == c) = true := by simp [hc]
        rw [if_pos hc, ← TK.out] at SN
        clear hc
        go_wp2_with (first
          | go_skip
          | (refine wpList_val rfl _ (exec_lt _ _ rfl (j : Int) (n : Int) true rfl rfl (decide_eq_true (by omega))) ?_)
          | refine wpList_index rfl _ _ rfl A n cap G p j x _ rfl rfl (by first | rfl | omega) E.out ?_
          | refine wpList_load_amx rfl _ rfl G p x rfl E.out.rg XO.out ?_
          | (refine wpList_store_am rfl _ _ rfl wr.heap.size azero x rfl rfl Z.out azero_ok XO.out ?_; intro w2 N2 O2; have B2 := Lib.hid (box_below O2.out); have c1 := N2.out.cell (i := 1) (ac1 x))
          | refine wpList_load_am rfl _ rfl wr.heap.size x rfl N2.out XO.out ?_
          | (refine wpList_one46 rfl _ rfl x rfl XO.out ?_; intro g4 w4 e4 N4 Q4)
          | (refine wpList_app rfl _ _ rfl w.heap.size _ (onC c (a.take j)) x g4 rfl rfl ((OO.out.below B2.out).below Q4.out) XO.out N4.out DL.out (Nat.le_trans BB.out.size (Nat.le_trans B2.out.size Q4.out.size)) ?_; intro D5 m5 c5 w5 e5 O5 Q5 G5))
        go_roundw
        case rel => exact ⟨j + 1, by omega, by go_num, by rw [SN.out]; exact O5.out, ((BB.out.trans (B2.out.mono BB.out.size)).trans (Q4.out.mono (Nat.le_trans BB.out.size B2.out.size))).trans Q5.out⟩
        case measure => simp [intOf]; omega
      · have CE : (x.k.c == c) = false := by simp [hc]
        rw [if_neg hc, ← TK.out] at SN
        clear hc
        go_wp2_with (first
          | go_skip
          | (refine wpList_val rfl _ (exec_lt _ _ rfl (j : Int) (n : Int) true rfl rfl (decide_eq_true (by omega))) ?_)
          | refine wpList_index rfl _ _ rfl A n cap G p j x _ rfl rfl (by first | rfl | omega) E.out ?_
          | refine wpList_load_amx rfl _ rfl G p x rfl E.out.rg XO.out ?_
          | (refine wpList_store_am rfl _ _ rfl wr.heap.size azero x rfl rfl Z.out azero_ok XO.out ?_; intro w2 N2 O2; have B2 := Lib.hid (box_below O2.out); have c1 := N2.out.cell (i := 1) (ac1 x)))
        go_roundw
        case rel => exact ⟨j + 1, by omega, by go_num, by rw [SN.out]; exact OO.out.below B2.out, step_ BB.out B2.out⟩
        case measure => simp [intOf]; omega
    · obtain rfl : j = n := by omega
      have HS := Lib.hid (show a.take j = a from List.take_of_length_le (by have := H.out.len; omega))
      go_wp2_with fail
      go_ret
      rw [HS.out] at OO
      exact GivesO.own OO.out BB.out
/-! The keys of the groups: the cart, or the item. -/
theorem keyedC : Keyed Tryz.prog 23 := int_keyed Tryz.underlying23
instance kCart : Inhabited (MKd Int) := ⟨{
  tk := 23,
  mt := 70,
  kv := fun c => .int .u16 c,
  ok := fun c => 0 ≤ c ∧ c < 65536,
  keyed := keyedC,
  lit := fun c h => ⟨_, keyOf_int_mk Tryz.underlying23 (WalkArith.wf_u16 (by omega))⟩,
  inj := fun a b _ _ h => by injection h,
  under := Tryz.underlying70 }⟩
theorem cartKey_is (k : Ky) (w : World) : Calls Tryz.prog 35 #[.agg k.cells.toArray] w fun e w' => e = .returned (.int .u16 k.c) ∧ Below w.heap.size w w' := by
  have K0 := Lib.hid (blk_alloc w 53 k.cells)
  have B0 := Lib.hid (new_below w (.cells k.cells.toArray 53))
  have c1 := K0.out.cell (i := 1) (kc1 k)
  go_enter Tryz.func35, Tryz.ntmps35
  go_wp2_with fail
  go_ret
  exact ⟨rfl, B0.out⟩
theorem itemKey_is (k : Ky) (w : World) (hm : k.m.length = 8) : Calls Tryz.prog 57 #[.agg k.cells.toArray] w fun e w' => e = .returned (.agg (nm k.m)) ∧ Below w.heap.size w w' := by
  have K0 := Lib.hid (blk_alloc w 53 k.cells)
  have B0 := Lib.hid (new_below w (.cells k.cells.toArray 53))
  have HM := Lib.hid hm
  have hz := zero23
  have K1 := Lib.hid (K0.out.below (new_below _ (.cells (nm M.zero8) 25)))
  have Z1 := Lib.hid (blk_alloc (w.alloc (.cells k.cells.toArray 53)) 25 (nmL M.zero8))
  have GZ : (w.alloc (.cells k.cells.toArray 53)).heap.size = w.heap.size + 1 := by simp
  rw [GZ] at Z1
  clear hm GZ
  go_enter Tryz.func57, Tryz.ntmps57
  go_wp2_with (first
    | refine wpList_load_nm rfl _ rfl w.heap.size 2 k.m rfl (range_knm K1.out.range HM.out) HM.out ?_
    | (refine wpList_store_cs rfl 25 _ _ rfl (w.heap.size + 1) (nmL M.zero8) (nmL k.m) rfl rfl Z1.out (by unfold nmL; rw [List.length_map, List.length_map, HM.out]; rfl) (size_nmL HM.out) (nm_one k.m) ?_; intro w2 N2 O2))
  refine bodyPost_ret (results_one rfl _ _ (w.heap.size + 1) k.m rfl N2.out HM.out) rfl ?_
  exact ⟨rfl, B0.out.trans (((new_below _ (.cells (nm M.zero8) 25)).trans (O2.out.below (by simp) (by simp))).mono (by simp))⟩
end Go.Proofs.YtijfbhdbfplghaaGreat
