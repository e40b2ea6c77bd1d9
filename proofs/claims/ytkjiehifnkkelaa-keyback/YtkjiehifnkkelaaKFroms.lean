/- The contracts of From of package key and of the reference, whole. -/
import Derived.Test.YtkjiehifnkkelaaKFrom
namespace Go.Proofs.Ytkjiehifnkkelaa
open Go.RowKit

theorem built24_0 : Try.prog.built 24 [] = some (nm M.zero8) := by kernel_rfl
/-- A key is made, in a region that keeps its order. -/
theorem wpList_alloc_ky {ops : Array Oper} {rest : List Oper} {o : Oper} {a : Act} {w : World} {Q : Exit → Act → World → Prop} (hgd : o.guard = none) (hop : o.op = .alloc 27)
    (h : ∀ g w', g = w.heap.size → Hid (Blk w' g 27 kzero.cells) → Hid (Below w.heap.size w w') → wpList Try.prog ops Q rest (a.put o.dst (.pointer (some ⟨g, 0, none⟩))) w') : wpList Try.prog ops Q (o :: rest) a w :=
  wpList_plain hgd fun _ hK => by
    have hz := zero27
    have H := h w.heap.size (w.alloc (.cells kzero.cells.toArray 27)) rfl (Lib.hid (blk_alloc w 27 kzero.cells)) (Lib.hid (new_below w _))
    unfold Oper.wp execOp
    simp [hop, Instr.alloc, hz]
    exact hK _ _ H
set_option maxRecDepth 100000 in
set_option maxHeartbeats 1000000 in
theorem rfrom_no (x y z : Int) (k : Ky) (w : World) (x0 : 0 ≤ x) (x1 : Hid (x < 18446744073709551616)) (y0 : 0 ≤ y) (y1 : Hid (y < 18446744073709551616)) (z0 : 0 ≤ z) (z1 : Hid (z < 18446744073709551616)) (hk : Hid (kcut x y z = k)) (he : M.rightB (M.digits 8 y) = true) (ht : Hid (same3 k.w0 k.w1 k.w2 x y z = false))  :
    Calls Try.prog 8 #[.agg (wd x y z).toArray] w (Froms w false k) := by
  have hz := zero23
  have hz2 := zero27
  have KO := Lib.hid (show k.Ok from hk.out ▸ kcut_ok x y z)
  have KL := Lib.hid KO.out.ml
  obtain ⟨m, hm⟩ : ∃ m, nameOf y = m := ⟨_, rfl⟩
  have HM := Lib.hid hm
  have ML := Lib.hid (show m.length = 8 from hm ▸ nameOf_len y)
  have HK := Lib.hid (show (⟨x / 65536 % 256, x % 65536, m, z / 4294967296 % 256, z % 4294967296⟩ : Ky) = k by rw [← hm]; exact hk.out)
  have HZ := Lib.hid (show True from trivial)
  have e1 : x.tdiv 65536 = x / 65536 := Int.tdiv_eq_ediv_of_nonneg x0
  have e2 : IntKind.u64.wrap (x / 65536) = x / 65536 := by have := x1.out; rw [IntKind.wrap_u64]; omega
  have e3 : z.tdiv 4294967296 = z / 4294967296 := Int.tdiv_eq_ediv_of_nonneg z0
  have e4 : IntKind.u64.wrap (z / 4294967296) = z / 4294967296 := by have := z1.out; rw [IntKind.wrap_u64]; omega
  have f1 : 0 ≤ x / 65536 := by omega
  have f2 : 0 ≤ z / 4294967296 := by omega
  have g1 : (x / 65536).tmod 256 = x / 65536 % 256 := Int.tmod_eq_emod_of_nonneg f1
  have g2 : (z / 4294967296).tmod 256 = z / 4294967296 % 256 := Int.tmod_eq_emod_of_nonneg f2
  have g3 : x.tmod 65536 = x % 65536 := Int.tmod_eq_emod_of_nonneg x0
  have g4 : z.tmod 4294967296 = z % 4294967296 := Int.tmod_eq_emod_of_nonneg z0
  have Q0 := Lib.hid ((blk_alloc w 29 (wd x y z)).alloc (.cells kzero.cells.toArray 27))
  have K0 := Lib.hid (blk2 w (.cells (wd x y z).toArray 29) 27 kzero.cells)
  have B0 := Lib.hid (step_ (new_below w (.cells (wd x y z).toArray 29)) (new_below _ (.cells kzero.cells.toArray 27)))
  have c1 := Q0.out.cell (wd1 x y z)
  clear hm hk
  go_enter Try.func8, Try.ntmps8
  go_wp2_with fail
  refine (nameRefFrom_any y m _ y0 y1 HM).mono ?_
  rintro e w1 ⟨rfl, b1⟩
  rw [he]
  have N1 := Lib.hid (at_alloc w1 M.zero8)
  have Q1 := Lib.hid ((Q0.out.below b1).alloc (.cells (nm M.zero8) 24))
  have K1 := Lib.hid ((K0.out.below b1).alloc (.cells (nm M.zero8) 24))
  have G1 := Lib.hid (K0.out.below b1).lt
  have B1 := Lib.hid (step_ (step_ B0.out b1) (new_below w1 (.cells (nm M.zero8) 24)))
  clear b1 c1 he
  go_wp2_with (first
    | (refine wpList_put_name rfl _ _ rfl w1.heap.size M.zero8 m rfl rfl N1.out rfl ML.out ?_; intro w2 N2 O2; have Q2 := Lib.hid (Q1.out.only O2.out (by have := G1.out; omega)); have K2 := Lib.hid (K1.out.only O2.out (by have := G1.out; omega)); have B2 := Lib.hid (B1.out.trans (O2.out.below (by have := G1.out; omega) B1.out.size)); have d0 := Q2.out.cell (wd0 x y z); have d2 := Q2.out.cell (wd2 x y z))
    | refine wpList_load_name rfl _ rfl w1.heap.size m rfl N2.out ML.out ?_
    | (refine wpList_build rfl 27 _ rfl [(0, .int .u8 (x / 65536 % 256)), (1, .int .u16 (x % 65536)), (2, .agg (nm m)), (3, .int .u8 (z / 4294967296 % 256)), (4, .int .u32 (z % 4294967296))] rfl _ (built27_5 ⟨x / 65536 % 256, x % 65536, m, z / 4294967296 % 256, z % 4294967296⟩ ML.out) ?_; rw [HK.out])
    | (refine wpList_alloc_ky rfl rfl ?_; intro g5 w5 hg5 N5 b5; have Q5 := Lib.hid (Q2.out.below b5.out); have K5 := Lib.hid (K2.out.below b5.out); have B5 := Lib.hid (step_ B2.out b5.out); have G5 := Lib.hid (show w.heap.size + 1 < g5 from hg5 ▸ K2.out.lt); clear hg5 b5)
    | (refine wpList_store_ky rfl _ _ rfl g5 kzero k rfl rfl N5.out rfl KL.out ?_; intro w6 N6 O6; have Q6 := Lib.hid (Q5.out.only O6.out (by have := G5.out; omega)); have K6 := Lib.hid (K5.out.only O6.out (by have := G5.out; omega)); have B6 := Lib.hid (B5.out.trans (O6.out.below (by have := G5.out; omega) B5.out.size))))
  simp only [Act.put, List.setIfInBounds_toArray, List.set_cons_zero, List.set_cons_succ]
  refine region_later (by kernel_rfl) (by kernel_rfl) ?_
  (go_big_quiet_want; refine quiet_load_ky g5 k _ rfl rfl N6.out KL.out ?_; go_simp; go_big_quiet_on)
  go_big_quiet_step (exact later_call (refWords_is k _ KO.out))
  (go_big_quiet_want; refine quiet_load_wd w.heap.size x y z _ rfl rfl Q6.out ?_; go_simp; go_big_quiet_on)
  (go_big_quiet_want; refine quiet_val (.bool (!false)) (fun W => ht.out ▸ exec_neq_wd _ _ _ rfl k.w0 k.w1 k.w2 x y z rfl rfl) ?_; go_simp; go_big_quiet_on)
  go_big_quiet_step (fail)
  repeat go_big_quiet_step (fail)
  refine wpQuiet_nil ?_
  intro w7 b7
  have N7 := Lib.hid (N6.out.below b7)
  have K7 := Lib.hid (K6.out.below b7)
  have B7 := Lib.hid (step_ B6.out b7)
  clear b7
  go_wp2_with (first
    | refine wpList_build rfl 27 _ rfl [] rfl _ built27_0 ?_
    | (refine wpList_store_ky rfl _ _ rfl (w.heap.size + 1) kzero kzero rfl rfl K7.out rfl rfl ?_; intro w8 K8 O8))
  refine bodyPost_ret (results_kyE rfl _ _ (w.heap.size + 1) kzero rfl K8.out rfl) rfl ?_
  exact ⟨rfl, B7.out.trans (O8.out.below (by omega) B7.out.size)⟩
set_option maxRecDepth 100000 in
set_option maxHeartbeats 1000000 in
theorem rfrom_bad (x y z : Int) (k : Ky) (w : World) (x0 : 0 ≤ x) (x1 : Hid (x < 18446744073709551616)) (y0 : 0 ≤ y) (y1 : Hid (y < 18446744073709551616)) (z0 : 0 ≤ z) (z1 : Hid (z < 18446744073709551616)) (hk : Hid (kcut x y z = k)) (he : M.rightB (M.digits 8 y) = true) (ht : Hid (same3 k.w0 k.w1 k.w2 x y z = true)) (hr : Hid (k.right = false)) :
    Calls Try.prog 8 #[.agg (wd x y z).toArray] w (Froms w false k) := by
  have hz := zero23
  have hz2 := zero27
  have KO := Lib.hid (show k.Ok from hk.out ▸ kcut_ok x y z)
  have KL := Lib.hid KO.out.ml
  obtain ⟨m, hm⟩ : ∃ m, nameOf y = m := ⟨_, rfl⟩
  have HM := Lib.hid hm
  have ML := Lib.hid (show m.length = 8 from hm ▸ nameOf_len y)
  have HK := Lib.hid (show (⟨x / 65536 % 256, x % 65536, m, z / 4294967296 % 256, z % 4294967296⟩ : Ky) = k by rw [← hm]; exact hk.out)
  have HZ := Lib.hid (show True from trivial)
  have e1 : x.tdiv 65536 = x / 65536 := Int.tdiv_eq_ediv_of_nonneg x0
  have e2 : IntKind.u64.wrap (x / 65536) = x / 65536 := by have := x1.out; rw [IntKind.wrap_u64]; omega
  have e3 : z.tdiv 4294967296 = z / 4294967296 := Int.tdiv_eq_ediv_of_nonneg z0
  have e4 : IntKind.u64.wrap (z / 4294967296) = z / 4294967296 := by have := z1.out; rw [IntKind.wrap_u64]; omega
  have f1 : 0 ≤ x / 65536 := by omega
  have f2 : 0 ≤ z / 4294967296 := by omega
  have g1 : (x / 65536).tmod 256 = x / 65536 % 256 := Int.tmod_eq_emod_of_nonneg f1
  have g2 : (z / 4294967296).tmod 256 = z / 4294967296 % 256 := Int.tmod_eq_emod_of_nonneg f2
  have g3 : x.tmod 65536 = x % 65536 := Int.tmod_eq_emod_of_nonneg x0
  have g4 : z.tmod 4294967296 = z % 4294967296 := Int.tmod_eq_emod_of_nonneg z0
  have Q0 := Lib.hid ((blk_alloc w 29 (wd x y z)).alloc (.cells kzero.cells.toArray 27))
  have K0 := Lib.hid (blk2 w (.cells (wd x y z).toArray 29) 27 kzero.cells)
  have B0 := Lib.hid (step_ (new_below w (.cells (wd x y z).toArray 29)) (new_below _ (.cells kzero.cells.toArray 27)))
  have c1 := Q0.out.cell (wd1 x y z)
  clear hm hk
  go_enter Try.func8, Try.ntmps8
  go_wp2_with fail
  refine (nameRefFrom_any y m _ y0 y1 HM).mono ?_
  rintro e w1 ⟨rfl, b1⟩
  rw [he]
  have N1 := Lib.hid (at_alloc w1 M.zero8)
  have Q1 := Lib.hid ((Q0.out.below b1).alloc (.cells (nm M.zero8) 24))
  have K1 := Lib.hid ((K0.out.below b1).alloc (.cells (nm M.zero8) 24))
  have G1 := Lib.hid (K0.out.below b1).lt
  have B1 := Lib.hid (step_ (step_ B0.out b1) (new_below w1 (.cells (nm M.zero8) 24)))
  clear b1 c1 he
  go_wp2_with (first
    | (refine wpList_put_name rfl _ _ rfl w1.heap.size M.zero8 m rfl rfl N1.out rfl ML.out ?_; intro w2 N2 O2; have Q2 := Lib.hid (Q1.out.only O2.out (by have := G1.out; omega)); have K2 := Lib.hid (K1.out.only O2.out (by have := G1.out; omega)); have B2 := Lib.hid (B1.out.trans (O2.out.below (by have := G1.out; omega) B1.out.size)); have d0 := Q2.out.cell (wd0 x y z); have d2 := Q2.out.cell (wd2 x y z))
    | refine wpList_load_name rfl _ rfl w1.heap.size m rfl N2.out ML.out ?_
    | (refine wpList_build rfl 27 _ rfl [(0, .int .u8 (x / 65536 % 256)), (1, .int .u16 (x % 65536)), (2, .agg (nm m)), (3, .int .u8 (z / 4294967296 % 256)), (4, .int .u32 (z % 4294967296))] rfl _ (built27_5 ⟨x / 65536 % 256, x % 65536, m, z / 4294967296 % 256, z % 4294967296⟩ ML.out) ?_; rw [HK.out])
    | (refine wpList_alloc_ky rfl rfl ?_; intro g5 w5 hg5 N5 b5; have Q5 := Lib.hid (Q2.out.below b5.out); have K5 := Lib.hid (K2.out.below b5.out); have B5 := Lib.hid (step_ B2.out b5.out); have G5 := Lib.hid (show w.heap.size + 1 < g5 from hg5 ▸ K2.out.lt); clear hg5 b5)
    | (refine wpList_store_ky rfl _ _ rfl g5 kzero k rfl rfl N5.out rfl KL.out ?_; intro w6 N6 O6; have Q6 := Lib.hid (Q5.out.only O6.out (by have := G5.out; omega)); have K6 := Lib.hid (K5.out.only O6.out (by have := G5.out; omega)); have B6 := Lib.hid (B5.out.trans (O6.out.below (by have := G5.out; omega) B5.out.size))))
  simp only [Act.put, List.setIfInBounds_toArray, List.set_cons_zero, List.set_cons_succ]
  refine region_later (by kernel_rfl) (by kernel_rfl) ?_
  (go_big_quiet_want; refine quiet_load_ky g5 k _ rfl rfl N6.out KL.out ?_; go_simp; go_big_quiet_on)
  go_big_quiet_step (exact later_call (refWords_is k _ KO.out))
  (go_big_quiet_want; refine quiet_load_wd w.heap.size x y z _ rfl rfl Q6.out ?_; go_simp; go_big_quiet_on)
  (go_big_quiet_want; refine quiet_val (.bool (!true)) (fun W => ht.out ▸ exec_neq_wd _ _ _ rfl k.w0 k.w1 k.w2 x y z rfl rfl) ?_; go_simp; go_big_quiet_on)
  go_big_quiet_step (fail)
  (go_big_quiet_want; refine quiet_load_ky g5 k _ rfl rfl N6.out KL.out ?_; go_simp; go_big_quiet_on)
  go_big_quiet_step (exact later_call (refKright_is k false _ KO.out hr))
  repeat go_big_quiet_step (fail)
  refine wpQuiet_nil ?_
  intro w7 b7
  have N7 := Lib.hid (N6.out.below b7)
  have K7 := Lib.hid (K6.out.below b7)
  have B7 := Lib.hid (step_ B6.out b7)
  clear b7
  go_wp2_with (first
    | refine wpList_build rfl 27 _ rfl [] rfl _ built27_0 ?_
    | (refine wpList_store_ky rfl _ _ rfl (w.heap.size + 1) kzero kzero rfl rfl K7.out rfl rfl ?_; intro w8 K8 O8))
  refine bodyPost_ret (results_kyE rfl _ _ (w.heap.size + 1) kzero rfl K8.out rfl) rfl ?_
  exact ⟨rfl, B7.out.trans (O8.out.below (by omega) B7.out.size)⟩
set_option maxRecDepth 100000 in
set_option maxHeartbeats 1000000 in
theorem rfrom_yes (x y z : Int) (k : Ky) (w : World) (x0 : 0 ≤ x) (x1 : Hid (x < 18446744073709551616)) (y0 : 0 ≤ y) (y1 : Hid (y < 18446744073709551616)) (z0 : 0 ≤ z) (z1 : Hid (z < 18446744073709551616)) (hk : Hid (kcut x y z = k)) (he : M.rightB (M.digits 8 y) = true) (ht : Hid (same3 k.w0 k.w1 k.w2 x y z = true)) (hr : Hid (k.right = true)) :
    Calls Try.prog 8 #[.agg (wd x y z).toArray] w (Froms w true k) := by
  have hz := zero23
  have hz2 := zero27
  have KO := Lib.hid (show k.Ok from hk.out ▸ kcut_ok x y z)
  have KL := Lib.hid KO.out.ml
  obtain ⟨m, hm⟩ : ∃ m, nameOf y = m := ⟨_, rfl⟩
  have HM := Lib.hid hm
  have ML := Lib.hid (show m.length = 8 from hm ▸ nameOf_len y)
  have HK := Lib.hid (show (⟨x / 65536 % 256, x % 65536, m, z / 4294967296 % 256, z % 4294967296⟩ : Ky) = k by rw [← hm]; exact hk.out)
  have HZ := Lib.hid (show True from trivial)
  have e1 : x.tdiv 65536 = x / 65536 := Int.tdiv_eq_ediv_of_nonneg x0
  have e2 : IntKind.u64.wrap (x / 65536) = x / 65536 := by have := x1.out; rw [IntKind.wrap_u64]; omega
  have e3 : z.tdiv 4294967296 = z / 4294967296 := Int.tdiv_eq_ediv_of_nonneg z0
  have e4 : IntKind.u64.wrap (z / 4294967296) = z / 4294967296 := by have := z1.out; rw [IntKind.wrap_u64]; omega
  have f1 : 0 ≤ x / 65536 := by omega
  have f2 : 0 ≤ z / 4294967296 := by omega
  have g1 : (x / 65536).tmod 256 = x / 65536 % 256 := Int.tmod_eq_emod_of_nonneg f1
  have g2 : (z / 4294967296).tmod 256 = z / 4294967296 % 256 := Int.tmod_eq_emod_of_nonneg f2
  have g3 : x.tmod 65536 = x % 65536 := Int.tmod_eq_emod_of_nonneg x0
  have g4 : z.tmod 4294967296 = z % 4294967296 := Int.tmod_eq_emod_of_nonneg z0
  have Q0 := Lib.hid ((blk_alloc w 29 (wd x y z)).alloc (.cells kzero.cells.toArray 27))
  have K0 := Lib.hid (blk2 w (.cells (wd x y z).toArray 29) 27 kzero.cells)
  have B0 := Lib.hid (step_ (new_below w (.cells (wd x y z).toArray 29)) (new_below _ (.cells kzero.cells.toArray 27)))
  have c1 := Q0.out.cell (wd1 x y z)
  clear hm hk
  go_enter Try.func8, Try.ntmps8
  go_wp2_with fail
  refine (nameRefFrom_any y m _ y0 y1 HM).mono ?_
  rintro e w1 ⟨rfl, b1⟩
  rw [he]
  have N1 := Lib.hid (at_alloc w1 M.zero8)
  have Q1 := Lib.hid ((Q0.out.below b1).alloc (.cells (nm M.zero8) 24))
  have K1 := Lib.hid ((K0.out.below b1).alloc (.cells (nm M.zero8) 24))
  have G1 := Lib.hid (K0.out.below b1).lt
  have B1 := Lib.hid (step_ (step_ B0.out b1) (new_below w1 (.cells (nm M.zero8) 24)))
  clear b1 c1 he
  go_wp2_with (first
    | (refine wpList_put_name rfl _ _ rfl w1.heap.size M.zero8 m rfl rfl N1.out rfl ML.out ?_; intro w2 N2 O2; have Q2 := Lib.hid (Q1.out.only O2.out (by have := G1.out; omega)); have K2 := Lib.hid (K1.out.only O2.out (by have := G1.out; omega)); have B2 := Lib.hid (B1.out.trans (O2.out.below (by have := G1.out; omega) B1.out.size)); have d0 := Q2.out.cell (wd0 x y z); have d2 := Q2.out.cell (wd2 x y z))
    | refine wpList_load_name rfl _ rfl w1.heap.size m rfl N2.out ML.out ?_
    | (refine wpList_build rfl 27 _ rfl [(0, .int .u8 (x / 65536 % 256)), (1, .int .u16 (x % 65536)), (2, .agg (nm m)), (3, .int .u8 (z / 4294967296 % 256)), (4, .int .u32 (z % 4294967296))] rfl _ (built27_5 ⟨x / 65536 % 256, x % 65536, m, z / 4294967296 % 256, z % 4294967296⟩ ML.out) ?_; rw [HK.out])
    | (refine wpList_alloc_ky rfl rfl ?_; intro g5 w5 hg5 N5 b5; have Q5 := Lib.hid (Q2.out.below b5.out); have K5 := Lib.hid (K2.out.below b5.out); have B5 := Lib.hid (step_ B2.out b5.out); have G5 := Lib.hid (show w.heap.size + 1 < g5 from hg5 ▸ K2.out.lt); clear hg5 b5)
    | (refine wpList_store_ky rfl _ _ rfl g5 kzero k rfl rfl N5.out rfl KL.out ?_; intro w6 N6 O6; have Q6 := Lib.hid (Q5.out.only O6.out (by have := G5.out; omega)); have K6 := Lib.hid (K5.out.only O6.out (by have := G5.out; omega)); have B6 := Lib.hid (B5.out.trans (O6.out.below (by have := G5.out; omega) B5.out.size))))
  simp only [Act.put, List.setIfInBounds_toArray, List.set_cons_zero, List.set_cons_succ]
  refine region_later (by kernel_rfl) (by kernel_rfl) ?_
  (go_big_quiet_want; refine quiet_load_ky g5 k _ rfl rfl N6.out KL.out ?_; go_simp; go_big_quiet_on)
  go_big_quiet_step (exact later_call (refWords_is k _ KO.out))
  (go_big_quiet_want; refine quiet_load_wd w.heap.size x y z _ rfl rfl Q6.out ?_; go_simp; go_big_quiet_on)
  (go_big_quiet_want; refine quiet_val (.bool (!true)) (fun W => ht.out ▸ exec_neq_wd _ _ _ rfl k.w0 k.w1 k.w2 x y z rfl rfl) ?_; go_simp; go_big_quiet_on)
  go_big_quiet_step (fail)
  (go_big_quiet_want; refine quiet_load_ky g5 k _ rfl rfl N6.out KL.out ?_; go_simp; go_big_quiet_on)
  go_big_quiet_step (exact later_call (refKright_is k true _ KO.out hr))
  repeat go_big_quiet_step (fail)
  refine wpQuiet_nil ?_
  intro w7 b7
  have N7 := Lib.hid (N6.out.below b7)
  have K7 := Lib.hid (K6.out.below b7)
  have B7 := Lib.hid (step_ B6.out b7)
  clear b7
  go_wp2_with (first
    | refine wpList_load_ky rfl _ rfl g5 0 k rfl N7.out.range KL.out ?_
    | (refine wpList_store_ky rfl _ _ rfl (w.heap.size + 1) kzero k rfl rfl K7.out rfl KL.out ?_; intro w8 K8 O8))
  refine bodyPost_ret (results_kyE rfl _ _ (w.heap.size + 1) k rfl K8.out KL.out) rfl ?_
  exact ⟨rfl, B7.out.trans (O8.out.below (by omega) B7.out.size)⟩
set_option maxRecDepth 100000 in
set_option maxHeartbeats 1000000 in
theorem rfrom_noz (x y z : Int) (k : Ky) (w : World) (x0 : 0 ≤ x) (x1 : Hid (x < 18446744073709551616)) (y0 : 0 ≤ y) (y1 : Hid (y < 18446744073709551616)) (z0 : 0 ≤ z) (z1 : Hid (z < 18446744073709551616)) (hk : Hid (kcut x y z = k)) (he : M.rightB (M.digits 8 y) = false) (ht : Hid (same3 k.w0 k.w1 k.w2 x y z = false))  :
    Calls Try.prog 8 #[.agg (wd x y z).toArray] w (Froms w false k) := by
  have hz := zero23
  have hz2 := zero27
  have KO := Lib.hid (show k.Ok from hk.out ▸ kcut_ok x y z)
  have KL := Lib.hid KO.out.ml
  obtain ⟨m, hm⟩ : ∃ m, nameOf y = m := ⟨_, rfl⟩
  have HM := Lib.hid hm
  have ML := Lib.hid (show m.length = 8 from hm ▸ nameOf_len y)
  have HK := Lib.hid (show (⟨x / 65536 % 256, x % 65536, m, z / 4294967296 % 256, z % 4294967296⟩ : Ky) = k by rw [← hm]; exact hk.out)
  have HZ := Lib.hid (show m = M.zero8 from by rw [← hm]; unfold nameOf; rw [if_neg (by rw [he]; decide)])
  have e1 : x.tdiv 65536 = x / 65536 := Int.tdiv_eq_ediv_of_nonneg x0
  have e2 : IntKind.u64.wrap (x / 65536) = x / 65536 := by have := x1.out; rw [IntKind.wrap_u64]; omega
  have e3 : z.tdiv 4294967296 = z / 4294967296 := Int.tdiv_eq_ediv_of_nonneg z0
  have e4 : IntKind.u64.wrap (z / 4294967296) = z / 4294967296 := by have := z1.out; rw [IntKind.wrap_u64]; omega
  have f1 : 0 ≤ x / 65536 := by omega
  have f2 : 0 ≤ z / 4294967296 := by omega
  have g1 : (x / 65536).tmod 256 = x / 65536 % 256 := Int.tmod_eq_emod_of_nonneg f1
  have g2 : (z / 4294967296).tmod 256 = z / 4294967296 % 256 := Int.tmod_eq_emod_of_nonneg f2
  have g3 : x.tmod 65536 = x % 65536 := Int.tmod_eq_emod_of_nonneg x0
  have g4 : z.tmod 4294967296 = z % 4294967296 := Int.tmod_eq_emod_of_nonneg z0
  have Q0 := Lib.hid ((blk_alloc w 29 (wd x y z)).alloc (.cells kzero.cells.toArray 27))
  have K0 := Lib.hid (blk2 w (.cells (wd x y z).toArray 29) 27 kzero.cells)
  have B0 := Lib.hid (step_ (new_below w (.cells (wd x y z).toArray 29)) (new_below _ (.cells kzero.cells.toArray 27)))
  have c1 := Q0.out.cell (wd1 x y z)
  clear hm hk
  go_enter Try.func8, Try.ntmps8
  go_wp2_with fail
  refine (nameRefFrom_any y m _ y0 y1 HM).mono ?_
  rintro e w1 ⟨rfl, b1⟩
  rw [he]
  have N1 := Lib.hid (at_alloc w1 M.zero8)
  have Q1 := Lib.hid ((Q0.out.below b1).alloc (.cells (nm M.zero8) 24))
  have K1 := Lib.hid ((K0.out.below b1).alloc (.cells (nm M.zero8) 24))
  have G1 := Lib.hid (K0.out.below b1).lt
  have B1 := Lib.hid (step_ (step_ B0.out b1) (new_below w1 (.cells (nm M.zero8) 24)))
  clear b1 c1 he
  go_wp2_with (first
    | (refine wpList_put_name rfl _ _ rfl w1.heap.size M.zero8 m rfl rfl N1.out rfl ML.out ?_; intro w2 N2 O2; have Q2 := Lib.hid (Q1.out.only O2.out (by have := G1.out; omega)); have K2 := Lib.hid (K1.out.only O2.out (by have := G1.out; omega)); have B2 := Lib.hid (B1.out.trans (O2.out.below (by have := G1.out; omega) B1.out.size)); have d0 := Q2.out.cell (wd0 x y z); have d2 := Q2.out.cell (wd2 x y z))
    | refine wpList_build rfl 24 _ rfl [] rfl _ built24_0 ?_
    | (refine wpList_put_name rfl _ _ rfl w1.heap.size m M.zero8 rfl rfl N2.out ML.out rfl ?_; intro w3 N3 O3; have NM := Lib.hid (show At w3 w1.heap.size m from HZ.out.symm ▸ N3.out); have Q3 := Lib.hid (Q2.out.only O3.out (by have := G1.out; omega)); have K3 := Lib.hid (K2.out.only O3.out (by have := G1.out; omega)); have B3 := Lib.hid (B2.out.trans (O3.out.below (by have := G1.out; omega) B2.out.size)); have d0 := Q3.out.cell (wd0 x y z); have d2 := Q3.out.cell (wd2 x y z))
    | refine wpList_load_name rfl _ rfl w1.heap.size m rfl NM.out ML.out ?_
    | (refine wpList_build rfl 27 _ rfl [(0, .int .u8 (x / 65536 % 256)), (1, .int .u16 (x % 65536)), (2, .agg (nm m)), (3, .int .u8 (z / 4294967296 % 256)), (4, .int .u32 (z % 4294967296))] rfl _ (built27_5 ⟨x / 65536 % 256, x % 65536, m, z / 4294967296 % 256, z % 4294967296⟩ ML.out) ?_; rw [HK.out])
    | (refine wpList_alloc_ky rfl rfl ?_; intro g5 w5 hg5 N5 b5; have Q5 := Lib.hid (Q3.out.below b5.out); have K5 := Lib.hid (K3.out.below b5.out); have B5 := Lib.hid (step_ B3.out b5.out); have G5 := Lib.hid (show w.heap.size + 1 < g5 from hg5 ▸ K3.out.lt); clear hg5 b5)
    | (refine wpList_store_ky rfl _ _ rfl g5 kzero k rfl rfl N5.out rfl KL.out ?_; intro w6 N6 O6; have Q6 := Lib.hid (Q5.out.only O6.out (by have := G5.out; omega)); have K6 := Lib.hid (K5.out.only O6.out (by have := G5.out; omega)); have B6 := Lib.hid (B5.out.trans (O6.out.below (by have := G5.out; omega) B5.out.size))))
  simp only [Act.put, List.setIfInBounds_toArray, List.set_cons_zero, List.set_cons_succ]
  refine region_later (by kernel_rfl) (by kernel_rfl) ?_
  (go_big_quiet_want; refine quiet_load_ky g5 k _ rfl rfl N6.out KL.out ?_; go_simp; go_big_quiet_on)
  go_big_quiet_step (exact later_call (refWords_is k _ KO.out))
  (go_big_quiet_want; refine quiet_load_wd w.heap.size x y z _ rfl rfl Q6.out ?_; go_simp; go_big_quiet_on)
  (go_big_quiet_want; refine quiet_val (.bool (!false)) (fun W => ht.out ▸ exec_neq_wd _ _ _ rfl k.w0 k.w1 k.w2 x y z rfl rfl) ?_; go_simp; go_big_quiet_on)
  go_big_quiet_step (fail)
  repeat go_big_quiet_step (fail)
  refine wpQuiet_nil ?_
  intro w7 b7
  have N7 := Lib.hid (N6.out.below b7)
  have K7 := Lib.hid (K6.out.below b7)
  have B7 := Lib.hid (step_ B6.out b7)
  clear b7
  go_wp2_with (first
    | refine wpList_build rfl 27 _ rfl [] rfl _ built27_0 ?_
    | (refine wpList_store_ky rfl _ _ rfl (w.heap.size + 1) kzero kzero rfl rfl K7.out rfl rfl ?_; intro w8 K8 O8))
  refine bodyPost_ret (results_kyE rfl _ _ (w.heap.size + 1) kzero rfl K8.out rfl) rfl ?_
  exact ⟨rfl, B7.out.trans (O8.out.below (by omega) B7.out.size)⟩
set_option maxRecDepth 100000 in
set_option maxHeartbeats 1000000 in
theorem rfrom_badz (x y z : Int) (k : Ky) (w : World) (x0 : 0 ≤ x) (x1 : Hid (x < 18446744073709551616)) (y0 : 0 ≤ y) (y1 : Hid (y < 18446744073709551616)) (z0 : 0 ≤ z) (z1 : Hid (z < 18446744073709551616)) (hk : Hid (kcut x y z = k)) (he : M.rightB (M.digits 8 y) = false) (ht : Hid (same3 k.w0 k.w1 k.w2 x y z = true)) (hr : Hid (k.right = false)) :
    Calls Try.prog 8 #[.agg (wd x y z).toArray] w (Froms w false k) := by
  have hz := zero23
  have hz2 := zero27
  have KO := Lib.hid (show k.Ok from hk.out ▸ kcut_ok x y z)
  have KL := Lib.hid KO.out.ml
  obtain ⟨m, hm⟩ : ∃ m, nameOf y = m := ⟨_, rfl⟩
  have HM := Lib.hid hm
  have ML := Lib.hid (show m.length = 8 from hm ▸ nameOf_len y)
  have HK := Lib.hid (show (⟨x / 65536 % 256, x % 65536, m, z / 4294967296 % 256, z % 4294967296⟩ : Ky) = k by rw [← hm]; exact hk.out)
  have HZ := Lib.hid (show m = M.zero8 from by rw [← hm]; unfold nameOf; rw [if_neg (by rw [he]; decide)])
  have e1 : x.tdiv 65536 = x / 65536 := Int.tdiv_eq_ediv_of_nonneg x0
  have e2 : IntKind.u64.wrap (x / 65536) = x / 65536 := by have := x1.out; rw [IntKind.wrap_u64]; omega
  have e3 : z.tdiv 4294967296 = z / 4294967296 := Int.tdiv_eq_ediv_of_nonneg z0
  have e4 : IntKind.u64.wrap (z / 4294967296) = z / 4294967296 := by have := z1.out; rw [IntKind.wrap_u64]; omega
  have f1 : 0 ≤ x / 65536 := by omega
  have f2 : 0 ≤ z / 4294967296 := by omega
  have g1 : (x / 65536).tmod 256 = x / 65536 % 256 := Int.tmod_eq_emod_of_nonneg f1
  have g2 : (z / 4294967296).tmod 256 = z / 4294967296 % 256 := Int.tmod_eq_emod_of_nonneg f2
  have g3 : x.tmod 65536 = x % 65536 := Int.tmod_eq_emod_of_nonneg x0
  have g4 : z.tmod 4294967296 = z % 4294967296 := Int.tmod_eq_emod_of_nonneg z0
  have Q0 := Lib.hid ((blk_alloc w 29 (wd x y z)).alloc (.cells kzero.cells.toArray 27))
  have K0 := Lib.hid (blk2 w (.cells (wd x y z).toArray 29) 27 kzero.cells)
  have B0 := Lib.hid (step_ (new_below w (.cells (wd x y z).toArray 29)) (new_below _ (.cells kzero.cells.toArray 27)))
  have c1 := Q0.out.cell (wd1 x y z)
  clear hm hk
  go_enter Try.func8, Try.ntmps8
  go_wp2_with fail
  refine (nameRefFrom_any y m _ y0 y1 HM).mono ?_
  rintro e w1 ⟨rfl, b1⟩
  rw [he]
  have N1 := Lib.hid (at_alloc w1 M.zero8)
  have Q1 := Lib.hid ((Q0.out.below b1).alloc (.cells (nm M.zero8) 24))
  have K1 := Lib.hid ((K0.out.below b1).alloc (.cells (nm M.zero8) 24))
  have G1 := Lib.hid (K0.out.below b1).lt
  have B1 := Lib.hid (step_ (step_ B0.out b1) (new_below w1 (.cells (nm M.zero8) 24)))
  clear b1 c1 he
  go_wp2_with (first
    | (refine wpList_put_name rfl _ _ rfl w1.heap.size M.zero8 m rfl rfl N1.out rfl ML.out ?_; intro w2 N2 O2; have Q2 := Lib.hid (Q1.out.only O2.out (by have := G1.out; omega)); have K2 := Lib.hid (K1.out.only O2.out (by have := G1.out; omega)); have B2 := Lib.hid (B1.out.trans (O2.out.below (by have := G1.out; omega) B1.out.size)); have d0 := Q2.out.cell (wd0 x y z); have d2 := Q2.out.cell (wd2 x y z))
    | refine wpList_build rfl 24 _ rfl [] rfl _ built24_0 ?_
    | (refine wpList_put_name rfl _ _ rfl w1.heap.size m M.zero8 rfl rfl N2.out ML.out rfl ?_; intro w3 N3 O3; have NM := Lib.hid (show At w3 w1.heap.size m from HZ.out.symm ▸ N3.out); have Q3 := Lib.hid (Q2.out.only O3.out (by have := G1.out; omega)); have K3 := Lib.hid (K2.out.only O3.out (by have := G1.out; omega)); have B3 := Lib.hid (B2.out.trans (O3.out.below (by have := G1.out; omega) B2.out.size)); have d0 := Q3.out.cell (wd0 x y z); have d2 := Q3.out.cell (wd2 x y z))
    | refine wpList_load_name rfl _ rfl w1.heap.size m rfl NM.out ML.out ?_
    | (refine wpList_build rfl 27 _ rfl [(0, .int .u8 (x / 65536 % 256)), (1, .int .u16 (x % 65536)), (2, .agg (nm m)), (3, .int .u8 (z / 4294967296 % 256)), (4, .int .u32 (z % 4294967296))] rfl _ (built27_5 ⟨x / 65536 % 256, x % 65536, m, z / 4294967296 % 256, z % 4294967296⟩ ML.out) ?_; rw [HK.out])
    | (refine wpList_alloc_ky rfl rfl ?_; intro g5 w5 hg5 N5 b5; have Q5 := Lib.hid (Q3.out.below b5.out); have K5 := Lib.hid (K3.out.below b5.out); have B5 := Lib.hid (step_ B3.out b5.out); have G5 := Lib.hid (show w.heap.size + 1 < g5 from hg5 ▸ K3.out.lt); clear hg5 b5)
    | (refine wpList_store_ky rfl _ _ rfl g5 kzero k rfl rfl N5.out rfl KL.out ?_; intro w6 N6 O6; have Q6 := Lib.hid (Q5.out.only O6.out (by have := G5.out; omega)); have K6 := Lib.hid (K5.out.only O6.out (by have := G5.out; omega)); have B6 := Lib.hid (B5.out.trans (O6.out.below (by have := G5.out; omega) B5.out.size))))
  simp only [Act.put, List.setIfInBounds_toArray, List.set_cons_zero, List.set_cons_succ]
  refine region_later (by kernel_rfl) (by kernel_rfl) ?_
  (go_big_quiet_want; refine quiet_load_ky g5 k _ rfl rfl N6.out KL.out ?_; go_simp; go_big_quiet_on)
  go_big_quiet_step (exact later_call (refWords_is k _ KO.out))
  (go_big_quiet_want; refine quiet_load_wd w.heap.size x y z _ rfl rfl Q6.out ?_; go_simp; go_big_quiet_on)
  (go_big_quiet_want; refine quiet_val (.bool (!true)) (fun W => ht.out ▸ exec_neq_wd _ _ _ rfl k.w0 k.w1 k.w2 x y z rfl rfl) ?_; go_simp; go_big_quiet_on)
  go_big_quiet_step (fail)
  (go_big_quiet_want; refine quiet_load_ky g5 k _ rfl rfl N6.out KL.out ?_; go_simp; go_big_quiet_on)
  go_big_quiet_step (exact later_call (refKright_is k false _ KO.out hr))
  repeat go_big_quiet_step (fail)
  refine wpQuiet_nil ?_
  intro w7 b7
  have N7 := Lib.hid (N6.out.below b7)
  have K7 := Lib.hid (K6.out.below b7)
  have B7 := Lib.hid (step_ B6.out b7)
  clear b7
  go_wp2_with (first
    | refine wpList_build rfl 27 _ rfl [] rfl _ built27_0 ?_
    | (refine wpList_store_ky rfl _ _ rfl (w.heap.size + 1) kzero kzero rfl rfl K7.out rfl rfl ?_; intro w8 K8 O8))
  refine bodyPost_ret (results_kyE rfl _ _ (w.heap.size + 1) kzero rfl K8.out rfl) rfl ?_
  exact ⟨rfl, B7.out.trans (O8.out.below (by omega) B7.out.size)⟩
set_option maxRecDepth 100000 in
set_option maxHeartbeats 1000000 in
theorem rfrom_yesz (x y z : Int) (k : Ky) (w : World) (x0 : 0 ≤ x) (x1 : Hid (x < 18446744073709551616)) (y0 : 0 ≤ y) (y1 : Hid (y < 18446744073709551616)) (z0 : 0 ≤ z) (z1 : Hid (z < 18446744073709551616)) (hk : Hid (kcut x y z = k)) (he : M.rightB (M.digits 8 y) = false) (ht : Hid (same3 k.w0 k.w1 k.w2 x y z = true)) (hr : Hid (k.right = true)) :
    Calls Try.prog 8 #[.agg (wd x y z).toArray] w (Froms w true k) := by
  have hz := zero23
  have hz2 := zero27
  have KO := Lib.hid (show k.Ok from hk.out ▸ kcut_ok x y z)
  have KL := Lib.hid KO.out.ml
  obtain ⟨m, hm⟩ : ∃ m, nameOf y = m := ⟨_, rfl⟩
  have HM := Lib.hid hm
  have ML := Lib.hid (show m.length = 8 from hm ▸ nameOf_len y)
  have HK := Lib.hid (show (⟨x / 65536 % 256, x % 65536, m, z / 4294967296 % 256, z % 4294967296⟩ : Ky) = k by rw [← hm]; exact hk.out)
  have HZ := Lib.hid (show m = M.zero8 from by rw [← hm]; unfold nameOf; rw [if_neg (by rw [he]; decide)])
  have e1 : x.tdiv 65536 = x / 65536 := Int.tdiv_eq_ediv_of_nonneg x0
  have e2 : IntKind.u64.wrap (x / 65536) = x / 65536 := by have := x1.out; rw [IntKind.wrap_u64]; omega
  have e3 : z.tdiv 4294967296 = z / 4294967296 := Int.tdiv_eq_ediv_of_nonneg z0
  have e4 : IntKind.u64.wrap (z / 4294967296) = z / 4294967296 := by have := z1.out; rw [IntKind.wrap_u64]; omega
  have f1 : 0 ≤ x / 65536 := by omega
  have f2 : 0 ≤ z / 4294967296 := by omega
  have g1 : (x / 65536).tmod 256 = x / 65536 % 256 := Int.tmod_eq_emod_of_nonneg f1
  have g2 : (z / 4294967296).tmod 256 = z / 4294967296 % 256 := Int.tmod_eq_emod_of_nonneg f2
  have g3 : x.tmod 65536 = x % 65536 := Int.tmod_eq_emod_of_nonneg x0
  have g4 : z.tmod 4294967296 = z % 4294967296 := Int.tmod_eq_emod_of_nonneg z0
  have Q0 := Lib.hid ((blk_alloc w 29 (wd x y z)).alloc (.cells kzero.cells.toArray 27))
  have K0 := Lib.hid (blk2 w (.cells (wd x y z).toArray 29) 27 kzero.cells)
  have B0 := Lib.hid (step_ (new_below w (.cells (wd x y z).toArray 29)) (new_below _ (.cells kzero.cells.toArray 27)))
  have c1 := Q0.out.cell (wd1 x y z)
  clear hm hk
  go_enter Try.func8, Try.ntmps8
  go_wp2_with fail
  refine (nameRefFrom_any y m _ y0 y1 HM).mono ?_
  rintro e w1 ⟨rfl, b1⟩
  rw [he]
  have N1 := Lib.hid (at_alloc w1 M.zero8)
  have Q1 := Lib.hid ((Q0.out.below b1).alloc (.cells (nm M.zero8) 24))
  have K1 := Lib.hid ((K0.out.below b1).alloc (.cells (nm M.zero8) 24))
  have G1 := Lib.hid (K0.out.below b1).lt
  have B1 := Lib.hid (step_ (step_ B0.out b1) (new_below w1 (.cells (nm M.zero8) 24)))
  clear b1 c1 he
  go_wp2_with (first
    | (refine wpList_put_name rfl _ _ rfl w1.heap.size M.zero8 m rfl rfl N1.out rfl ML.out ?_; intro w2 N2 O2; have Q2 := Lib.hid (Q1.out.only O2.out (by have := G1.out; omega)); have K2 := Lib.hid (K1.out.only O2.out (by have := G1.out; omega)); have B2 := Lib.hid (B1.out.trans (O2.out.below (by have := G1.out; omega) B1.out.size)); have d0 := Q2.out.cell (wd0 x y z); have d2 := Q2.out.cell (wd2 x y z))
    | refine wpList_build rfl 24 _ rfl [] rfl _ built24_0 ?_
    | (refine wpList_put_name rfl _ _ rfl w1.heap.size m M.zero8 rfl rfl N2.out ML.out rfl ?_; intro w3 N3 O3; have NM := Lib.hid (show At w3 w1.heap.size m from HZ.out.symm ▸ N3.out); have Q3 := Lib.hid (Q2.out.only O3.out (by have := G1.out; omega)); have K3 := Lib.hid (K2.out.only O3.out (by have := G1.out; omega)); have B3 := Lib.hid (B2.out.trans (O3.out.below (by have := G1.out; omega) B2.out.size)); have d0 := Q3.out.cell (wd0 x y z); have d2 := Q3.out.cell (wd2 x y z))
    | refine wpList_load_name rfl _ rfl w1.heap.size m rfl NM.out ML.out ?_
    | (refine wpList_build rfl 27 _ rfl [(0, .int .u8 (x / 65536 % 256)), (1, .int .u16 (x % 65536)), (2, .agg (nm m)), (3, .int .u8 (z / 4294967296 % 256)), (4, .int .u32 (z % 4294967296))] rfl _ (built27_5 ⟨x / 65536 % 256, x % 65536, m, z / 4294967296 % 256, z % 4294967296⟩ ML.out) ?_; rw [HK.out])
    | (refine wpList_alloc_ky rfl rfl ?_; intro g5 w5 hg5 N5 b5; have Q5 := Lib.hid (Q3.out.below b5.out); have K5 := Lib.hid (K3.out.below b5.out); have B5 := Lib.hid (step_ B3.out b5.out); have G5 := Lib.hid (show w.heap.size + 1 < g5 from hg5 ▸ K3.out.lt); clear hg5 b5)
    | (refine wpList_store_ky rfl _ _ rfl g5 kzero k rfl rfl N5.out rfl KL.out ?_; intro w6 N6 O6; have Q6 := Lib.hid (Q5.out.only O6.out (by have := G5.out; omega)); have K6 := Lib.hid (K5.out.only O6.out (by have := G5.out; omega)); have B6 := Lib.hid (B5.out.trans (O6.out.below (by have := G5.out; omega) B5.out.size))))
  simp only [Act.put, List.setIfInBounds_toArray, List.set_cons_zero, List.set_cons_succ]
  refine region_later (by kernel_rfl) (by kernel_rfl) ?_
  (go_big_quiet_want; refine quiet_load_ky g5 k _ rfl rfl N6.out KL.out ?_; go_simp; go_big_quiet_on)
  go_big_quiet_step (exact later_call (refWords_is k _ KO.out))
  (go_big_quiet_want; refine quiet_load_wd w.heap.size x y z _ rfl rfl Q6.out ?_; go_simp; go_big_quiet_on)
  (go_big_quiet_want; refine quiet_val (.bool (!true)) (fun W => ht.out ▸ exec_neq_wd _ _ _ rfl k.w0 k.w1 k.w2 x y z rfl rfl) ?_; go_simp; go_big_quiet_on)
  go_big_quiet_step (fail)
  (go_big_quiet_want; refine quiet_load_ky g5 k _ rfl rfl N6.out KL.out ?_; go_simp; go_big_quiet_on)
  go_big_quiet_step (exact later_call (refKright_is k true _ KO.out hr))
  repeat go_big_quiet_step (fail)
  refine wpQuiet_nil ?_
  intro w7 b7
  have N7 := Lib.hid (N6.out.below b7)
  have K7 := Lib.hid (K6.out.below b7)
  have B7 := Lib.hid (step_ B6.out b7)
  clear b7
  go_wp2_with (first
    | refine wpList_load_ky rfl _ rfl g5 0 k rfl N7.out.range KL.out ?_
    | (refine wpList_store_ky rfl _ _ rfl (w.heap.size + 1) kzero k rfl rfl K7.out rfl KL.out ?_; intro w8 K8 O8))
  refine bodyPost_ret (results_kyE rfl _ _ (w.heap.size + 1) k rfl K8.out KL.out) rfl ?_
  exact ⟨rfl, B7.out.trans (O8.out.below (by omega) B7.out.size)⟩
theorem from_any (x y z : Int) (w : World) (z0 : 0 ≤ z) (z1 : z < 18446744073709551616) :
    Calls Try.prog 7 #[.agg (wd x y z).toArray] w (Froms w (fromB x y z) (kcut x y z)) := by
  unfold fromB
  cases ht : same3 (kcut x y z).w0 (kcut x y z).w1 (kcut x y z).w2 x y z with
  | false => exact from_no x y z _ w z0 (Lib.hid z1) (Lib.hid rfl) (Lib.hid ht)
  | true =>
    cases hr : (kcut x y z).right with
    | false => exact from_bad x y z _ w z0 (Lib.hid z1) (Lib.hid rfl) (Lib.hid ht) (Lib.hid hr)
    | true => exact from_yes x y z _ w z0 (Lib.hid z1) (Lib.hid rfl) (Lib.hid ht) (Lib.hid hr)
theorem refFrom_any (x y z : Int) (w : World) (x0 : 0 ≤ x) (x1 : x < 18446744073709551616) (y0 : 0 ≤ y) (y1 : y < 18446744073709551616) (z0 : 0 ≤ z) (z1 : z < 18446744073709551616) :
    Calls Try.prog 8 #[.agg (wd x y z).toArray] w (Froms w (fromB x y z) (kcut x y z)) := by
  unfold fromB
  cases he : M.rightB (M.digits 8 y) with
  | true =>
    cases ht : same3 (kcut x y z).w0 (kcut x y z).w1 (kcut x y z).w2 x y z with
    | false => exact rfrom_no x y z _ w x0 (Lib.hid x1) y0 (Lib.hid y1) z0 (Lib.hid z1) (Lib.hid rfl) he (Lib.hid ht)
    | true =>
      cases hr : (kcut x y z).right with
      | false => exact rfrom_bad x y z _ w x0 (Lib.hid x1) y0 (Lib.hid y1) z0 (Lib.hid z1) (Lib.hid rfl) he (Lib.hid ht) (Lib.hid hr)
      | true => exact rfrom_yes x y z _ w x0 (Lib.hid x1) y0 (Lib.hid y1) z0 (Lib.hid z1) (Lib.hid rfl) he (Lib.hid ht) (Lib.hid hr)
  | false =>
    cases ht : same3 (kcut x y z).w0 (kcut x y z).w1 (kcut x y z).w2 x y z with
    | false => exact rfrom_noz x y z _ w x0 (Lib.hid x1) y0 (Lib.hid y1) z0 (Lib.hid z1) (Lib.hid rfl) he (Lib.hid ht)
    | true =>
      cases hr : (kcut x y z).right with
      | false => exact rfrom_badz x y z _ w x0 (Lib.hid x1) y0 (Lib.hid y1) z0 (Lib.hid z1) (Lib.hid rfl) he (Lib.hid ht) (Lib.hid hr)
      | true => exact rfrom_yesz x y z _ w x0 (Lib.hid x1) y0 (Lib.hid y1) z0 (Lib.hid z1) (Lib.hid rfl) he (Lib.hid ht) (Lib.hid hr)
end Go.Proofs.Ytkjiehifnkkelaa
