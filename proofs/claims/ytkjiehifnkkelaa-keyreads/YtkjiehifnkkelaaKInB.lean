/- The contract of In of the reference, more paths. -/
import Derived.Test.YtkjiehifnkkelaaKIn
namespace Go.Proofs.Ytkjiehifnkkelaa
open Go.RowKit

set_option maxRecDepth 100000 in
set_option maxHeartbeats 1000000 in
theorem inF3 (g : Nat) (R : Option Nat) (l l1 : List Int) (s : Int) (l2 : List Int) (c : Int) (e2 : Int) (l3 m : List Int) (w : World) (h : RefAt w g R 0 l) (H1 : Hid (RdP g R (blank 1) 0 l (pByte s) 0 l1)) (a1 : ¬ s < 1) (a2 : ¬ 4 < s) (H2 : Hid (RdP g R (pNum 65535 (.slice none 0 0)) 0 l1 (pNum c) e2 l2)) (cw : IntKind.u16.wrap c = c) (h4 : ¬ s = 4) (H3 : Hid (RdP g R (blank 2) e2 l2 (pName m) 0 l3)) (ML : Hid (m.length = 8)) (MZ : Hid ((m == M.zero8) = true)) :
    Calls Try.prog 23 #[.pointer (some ⟨g, 0, none⟩)] w (Ins w g R kzero 3 []) := by
  have hz := zero27
  have GZ := Lib.hid (h.far (Nat.le_refl w.heap.size)).1
  have RZ := Lib.hid (h.far (Nat.le_refl w.heap.size)).2
  have ZG := Lib.hid GZ.out.symm
  have R0 := Lib.hid (blk_alloc w 27 kzero.cells)
  have C0 := Lib.hid (h.alloc (.cells kzero.cells.toArray 27))
  have O0 := Lib.hid ((Only.refl g w).alloc (.cells kzero.cells.toArray 27))
  clear h
  go_enter Try.func23, Try.ntmps23
  go_wp2_with (refine wpList_blank rfl _ rfl 1 rfl ?_)
  refine (H1.out _ C0.out).mono ?_
  rintro rr w1 ⟨v1, rfl, hc, ho⟩
  have GN := Lib.hid (hc.far (Nat.le_refl w1.heap.size)).1
  have RN := Lib.hid (hc.far (Nat.le_refl w1.heap.size)).2
  have NG := Lib.hid GN.out.symm
  have ZN := Lib.hid (Nat.ne_of_lt (R0.out.only ho ZG.out).lt)
  have LN := Lib.hid (Nat.le_of_lt (R0.out.only ho ZG.out).lt)
  have C1 := Lib.hid (hc.alloc (.cells kzero.cells.toArray 27))
  have K1 := Lib.hid (blk_alloc w1 27 kzero.cells)
  have R1 := Lib.hid ((R0.out.only ho ZG.out).alloc (.cells kzero.cells.toArray 27))
  have O1 := Lib.hid ((O0.out.trans ho).alloc (.cells kzero.cells.toArray 27))
  clear hc ho
  go_wp2_with (first
    | refine wpList_val rfl (.int .u8 s) (exec_fieldC _ rfl (pByte s v1) rfl) ?_
    | refine wpList_build rfl 27 _ rfl [(0, .int .u8 s)] rfl _ (built27_1 s) ?_
    | (refine wpList_store_ky rfl _ _ rfl w1.heap.size kzero (⟨s, 0, M.zero8, 0, 0⟩ : Ky) rfl rfl K1.out rfl rfl ?_; intro w2 K2 OS; have C2 := Lib.hid (C1.out.only OS.out GN.out RN.out); have R2 := Lib.hid (R1.out.only OS.out ZN.out); have O2 := Lib.hid (O1.out.new OS.out LN.out); have eE := refE C2.out; have cS := K2.out.cell (kc0 (⟨s, 0, M.zero8, 0, 0⟩ : Ky)); clear OS)
    | refine wpList_build rfl 76 _ rfl [(1, .int .u64 65535)] rfl _ (built76_1 65535) ?_)
  refine (H2.out _ C2.out).mono ?_
  rintro rr w3 ⟨v3, rfl, hc, ho⟩
  have C3 := Lib.hid hc
  have K3 := Lib.hid (K2.out.only ho NG.out)
  have R3 := Lib.hid (R2.out.only ho ZG.out)
  have O3 := Lib.hid (O2.out.trans ho)
  clear hc ho eE cS
  go_wp2_with (first
    | refine wpList_val rfl (.int .u64 c) (exec_fieldX _ rfl (pNum c v3) rfl) ?_
    | (refine wpList_store_k22 rfl _ _ rfl w1.heap.size 1 (⟨s, 0, M.zero8, 0, 0⟩ : Ky) c rfl rfl K3.out _ (kc1 (⟨s, 0, M.zero8, 0, 0⟩ : Ky)) (⟨s, c, M.zero8, 0, 0⟩ : Ky) rfl ?_; intro w4 K4 OS; have C4 := Lib.hid (C3.out.only OS.out GN.out RN.out); have R4 := Lib.hid (R3.out.only OS.out ZN.out); have O4 := Lib.hid (O3.out.new OS.out LN.out); have eE := refE C4.out; have cS := K4.out.cell (kc0 (⟨s, c, M.zero8, 0, 0⟩ : Ky)); clear OS)
    | refine wpList_blank rfl _ rfl 2 rfl ?_)
  refine (H3.out _ C4.out).mono ?_
  rintro rr w5 ⟨v5, rfl, hc, ho⟩
  have C5 := Lib.hid hc
  have K5 := Lib.hid (K4.out.only ho NG.out)
  have R5 := Lib.hid (R4.out.only ho ZG.out)
  have O5 := Lib.hid (O4.out.trans ho)
  clear hc ho eE cS
  go_wp2_with (first
    | refine wpList_val rfl (.agg (nm m)) (exec_fieldN _ rfl (pName m v5) rfl ML.out) ?_
    | (refine wpList_store_knm rfl _ _ rfl w1.heap.size (⟨s, c, M.zero8, 0, 0⟩ : Ky) m rfl rfl K5.out rfl ML.out ?_; intro w6 K6 OS; have C6 := Lib.hid (C5.out.only OS.out GN.out RN.out); have R6 := Lib.hid (R5.out.only OS.out ZN.out); have O6 := Lib.hid (O5.out.new OS.out LN.out); have eE := refE C6.out; have cS := K6.out.cell (kc0 (⟨s, c, m, 0, 0⟩ : Ky)); clear OS)
    | (refine wanted_on rfl ?_; refine wpList_load_nm rfl _ rfl w1.heap.size 2 m rfl (Blk.knm (k := (⟨s, c, m, 0, 0⟩ : Ky)) K6.out ML.out) ML.out ?_)
    | (refine wanted_on rfl ?_; refine wpList_build rfl 24 _ rfl [] rfl _ built24z ?_)
    | (refine wanted_on rfl ?_; refine wpList_val rfl (.bool true) (MZ.out ▸ exec_eq_nm _ _ _ rfl m M.zero8 rfl rfl ML.out rfl) ?_))
  refine (refFail_is g R 3 _ _ C6.out).mono ?_
  rintro rr w7 ⟨rfl, hc, ho⟩
  have C7 := Lib.hid hc
  have R7 := Lib.hid (R6.out.only ho ZG.out)
  have O7 := Lib.hid (O6.out.trans ho)
  clear hc ho
  go_wp2_with (refine wpList_store_ky rfl _ _ rfl w.heap.size kzero kzero rfl rfl R7.out rfl rfl ?_; intro wz KZ OZ)
  refine bodyPost_ret (results_ky rfl _ _ w.heap.size kzero rfl KZ.out rfl) rfl ?_
  exact ⟨rfl, C7.out.only OZ.out GZ.out RZ.out, O7.out.new OZ.out (Nat.le_refl _)⟩
set_option maxRecDepth 100000 in
set_option maxHeartbeats 1000000 in
theorem in2c (g : Nat) (R : Option Nat) (l l1 : List Int) (s : Int) (l2 : List Int) (c : Int) (e2 : Int) (l3 m : List Int) (e4 : Int) (l4 : List Int) (r : Int) (w : World) (h : RefAt w g R 0 l) (H1 : Hid (RdP g R (blank 1) 0 l (pByte s) 0 l1)) (a1 : ¬ s < 1) (a2 : ¬ 4 < s) (H2 : Hid (RdP g R (pNum 65535 (.slice none 0 0)) 0 l1 (pNum c) e2 l2)) (cw : IntKind.u16.wrap c = c) (h4 : ¬ s = 4) (H3 : Hid (RdP g R (blank 2) e2 l2 (pName m) 0 l3)) (ML : Hid (m.length = 8)) (MZ : Hid ((m == M.zero8) = false)) (z4 : ¬ e4 = 0) (H4 : Hid (RdP g R (blank 1) 0 l3 (pByte r) e4 l4)) (h1 : ¬ s = 1) :
    Calls Try.prog 23 #[.pointer (some ⟨g, 0, none⟩)] w (Ins w g R kzero e4 l4) := by
  have hz := zero27
  have GZ := Lib.hid (h.far (Nat.le_refl w.heap.size)).1
  have RZ := Lib.hid (h.far (Nat.le_refl w.heap.size)).2
  have ZG := Lib.hid GZ.out.symm
  have R0 := Lib.hid (blk_alloc w 27 kzero.cells)
  have C0 := Lib.hid (h.alloc (.cells kzero.cells.toArray 27))
  have O0 := Lib.hid ((Only.refl g w).alloc (.cells kzero.cells.toArray 27))
  clear h
  go_enter Try.func23, Try.ntmps23
  go_wp2_with (refine wpList_blank rfl _ rfl 1 rfl ?_)
  refine (H1.out _ C0.out).mono ?_
  rintro rr w1 ⟨v1, rfl, hc, ho⟩
  have GN := Lib.hid (hc.far (Nat.le_refl w1.heap.size)).1
  have RN := Lib.hid (hc.far (Nat.le_refl w1.heap.size)).2
  have NG := Lib.hid GN.out.symm
  have ZN := Lib.hid (Nat.ne_of_lt (R0.out.only ho ZG.out).lt)
  have LN := Lib.hid (Nat.le_of_lt (R0.out.only ho ZG.out).lt)
  have C1 := Lib.hid (hc.alloc (.cells kzero.cells.toArray 27))
  have K1 := Lib.hid (blk_alloc w1 27 kzero.cells)
  have R1 := Lib.hid ((R0.out.only ho ZG.out).alloc (.cells kzero.cells.toArray 27))
  have O1 := Lib.hid ((O0.out.trans ho).alloc (.cells kzero.cells.toArray 27))
  clear hc ho
  go_wp2_with (first
    | refine wpList_val rfl (.int .u8 s) (exec_fieldC _ rfl (pByte s v1) rfl) ?_
    | refine wpList_build rfl 27 _ rfl [(0, .int .u8 s)] rfl _ (built27_1 s) ?_
    | (refine wpList_store_ky rfl _ _ rfl w1.heap.size kzero (⟨s, 0, M.zero8, 0, 0⟩ : Ky) rfl rfl K1.out rfl rfl ?_; intro w2 K2 OS; have C2 := Lib.hid (C1.out.only OS.out GN.out RN.out); have R2 := Lib.hid (R1.out.only OS.out ZN.out); have O2 := Lib.hid (O1.out.new OS.out LN.out); have eE := refE C2.out; have cS := K2.out.cell (kc0 (⟨s, 0, M.zero8, 0, 0⟩ : Ky)); clear OS)
    | refine wpList_build rfl 76 _ rfl [(1, .int .u64 65535)] rfl _ (built76_1 65535) ?_)
  refine (H2.out _ C2.out).mono ?_
  rintro rr w3 ⟨v3, rfl, hc, ho⟩
  have C3 := Lib.hid hc
  have K3 := Lib.hid (K2.out.only ho NG.out)
  have R3 := Lib.hid (R2.out.only ho ZG.out)
  have O3 := Lib.hid (O2.out.trans ho)
  clear hc ho eE cS
  go_wp2_with (first
    | refine wpList_val rfl (.int .u64 c) (exec_fieldX _ rfl (pNum c v3) rfl) ?_
    | (refine wpList_store_k22 rfl _ _ rfl w1.heap.size 1 (⟨s, 0, M.zero8, 0, 0⟩ : Ky) c rfl rfl K3.out _ (kc1 (⟨s, 0, M.zero8, 0, 0⟩ : Ky)) (⟨s, c, M.zero8, 0, 0⟩ : Ky) rfl ?_; intro w4 K4 OS; have C4 := Lib.hid (C3.out.only OS.out GN.out RN.out); have R4 := Lib.hid (R3.out.only OS.out ZN.out); have O4 := Lib.hid (O3.out.new OS.out LN.out); have eE := refE C4.out; have cS := K4.out.cell (kc0 (⟨s, c, M.zero8, 0, 0⟩ : Ky)); clear OS)
    | refine wpList_blank rfl _ rfl 2 rfl ?_)
  refine (H3.out _ C4.out).mono ?_
  rintro rr w5 ⟨v5, rfl, hc, ho⟩
  have C5 := Lib.hid hc
  have K5 := Lib.hid (K4.out.only ho NG.out)
  have R5 := Lib.hid (R4.out.only ho ZG.out)
  have O5 := Lib.hid (O4.out.trans ho)
  clear hc ho eE cS
  go_wp2_with (first
    | refine wpList_val rfl (.agg (nm m)) (exec_fieldN _ rfl (pName m v5) rfl ML.out) ?_
    | (refine wpList_store_knm rfl _ _ rfl w1.heap.size (⟨s, c, M.zero8, 0, 0⟩ : Ky) m rfl rfl K5.out rfl ML.out ?_; intro w6 K6 OS; have C6 := Lib.hid (C5.out.only OS.out GN.out RN.out); have R6 := Lib.hid (R5.out.only OS.out ZN.out); have O6 := Lib.hid (O5.out.new OS.out LN.out); have eE := refE C6.out; have cS := K6.out.cell (kc0 (⟨s, c, m, 0, 0⟩ : Ky)); clear OS)
    | (refine wanted_on rfl ?_; refine wpList_load_nm rfl _ rfl w1.heap.size 2 m rfl (Blk.knm (k := (⟨s, c, m, 0, 0⟩ : Ky)) K6.out ML.out) ML.out ?_)
    | (refine wanted_on rfl ?_; refine wpList_build rfl 24 _ rfl [] rfl _ built24z ?_)
    | (refine wanted_on rfl ?_; refine wpList_val rfl (.bool false) (MZ.out ▸ exec_eq_nm _ _ _ rfl m M.zero8 rfl rfl ML.out rfl) ?_)
    | refine wpList_blank rfl _ rfl 1 rfl ?_)
  refine (H4.out _ C6.out).mono ?_
  rintro rr w7 ⟨v7, rfl, hc, ho⟩
  have C7 := Lib.hid hc
  have K7 := Lib.hid (K6.out.only ho NG.out)
  have R7 := Lib.hid (R6.out.only ho ZG.out)
  have O7 := Lib.hid (O6.out.trans ho)
  clear hc ho eE cS
  go_wp2_with (first
    | refine wpList_val rfl (.int .u8 r) (exec_fieldC _ rfl (pByte r v7) rfl) ?_
    | (refine wpList_store_k5 rfl _ _ rfl w1.heap.size 10 (⟨s, c, m, 0, 0⟩ : Ky) r rfl rfl K7.out _ (kc10 (k := (⟨s, c, m, 0, 0⟩ : Ky)) ML.out) (⟨s, c, m, r, 0⟩ : Ky) (kset10 (⟨s, c, m, 0, 0⟩ : Ky) ML.out r) ?_; intro w8 K8 OS; have C8 := Lib.hid (C7.out.only OS.out GN.out RN.out); have R8 := Lib.hid (R7.out.only OS.out ZN.out); have O8 := Lib.hid (O7.out.new OS.out LN.out); have eE := refE C8.out; have cS := K8.out.cell (kc0 (⟨s, c, m, r, 0⟩ : Ky)); clear OS; have cR := K8.out.cell (kc10 (k := (⟨s, c, m, r, 0⟩ : Ky)) ML.out))
    | refine wpList_build rfl 27 _ rfl [] rfl _ built27_0 ?_
    | (refine wpList_store_ky rfl _ _ rfl w.heap.size kzero kzero rfl rfl R8.out rfl rfl ?_; intro wz KZ OZ))
  refine bodyPost_ret (results_ky rfl _ _ w.heap.size kzero rfl KZ.out rfl) rfl ?_
  exact ⟨rfl, C8.out.only OZ.out GZ.out RZ.out, O8.out.new OZ.out (Nat.le_refl _)⟩
set_option maxRecDepth 100000 in
set_option maxHeartbeats 1000000 in
theorem inF4 (g : Nat) (R : Option Nat) (l l1 : List Int) (s : Int) (l2 : List Int) (c : Int) (e2 : Int) (l3 m : List Int) (l4 : List Int) (r : Int) (w : World) (h : RefAt w g R 0 l) (H1 : Hid (RdP g R (blank 1) 0 l (pByte s) 0 l1)) (a1 : ¬ s < 1) (a2 : ¬ 4 < s) (H2 : Hid (RdP g R (pNum 65535 (.slice none 0 0)) 0 l1 (pNum c) e2 l2)) (cw : IntKind.u16.wrap c = c) (h4 : ¬ s = 4) (H3 : Hid (RdP g R (blank 2) e2 l2 (pName m) 0 l3)) (ML : Hid (m.length = 8)) (MZ : Hid ((m == M.zero8) = false)) (H4 : Hid (RdP g R (blank 1) 0 l3 (pByte r) 0 l4)) (r16 : 16 ≤ r) :
    Calls Try.prog 23 #[.pointer (some ⟨g, 0, none⟩)] w (Ins w g R kzero 2 []) := by
  have hz := zero27
  have GZ := Lib.hid (h.far (Nat.le_refl w.heap.size)).1
  have RZ := Lib.hid (h.far (Nat.le_refl w.heap.size)).2
  have ZG := Lib.hid GZ.out.symm
  have R0 := Lib.hid (blk_alloc w 27 kzero.cells)
  have C0 := Lib.hid (h.alloc (.cells kzero.cells.toArray 27))
  have O0 := Lib.hid ((Only.refl g w).alloc (.cells kzero.cells.toArray 27))
  clear h
  go_enter Try.func23, Try.ntmps23
  go_wp2_with (refine wpList_blank rfl _ rfl 1 rfl ?_)
  refine (H1.out _ C0.out).mono ?_
  rintro rr w1 ⟨v1, rfl, hc, ho⟩
  have GN := Lib.hid (hc.far (Nat.le_refl w1.heap.size)).1
  have RN := Lib.hid (hc.far (Nat.le_refl w1.heap.size)).2
  have NG := Lib.hid GN.out.symm
  have ZN := Lib.hid (Nat.ne_of_lt (R0.out.only ho ZG.out).lt)
  have LN := Lib.hid (Nat.le_of_lt (R0.out.only ho ZG.out).lt)
  have C1 := Lib.hid (hc.alloc (.cells kzero.cells.toArray 27))
  have K1 := Lib.hid (blk_alloc w1 27 kzero.cells)
  have R1 := Lib.hid ((R0.out.only ho ZG.out).alloc (.cells kzero.cells.toArray 27))
  have O1 := Lib.hid ((O0.out.trans ho).alloc (.cells kzero.cells.toArray 27))
  clear hc ho
  go_wp2_with (first
    | refine wpList_val rfl (.int .u8 s) (exec_fieldC _ rfl (pByte s v1) rfl) ?_
    | refine wpList_build rfl 27 _ rfl [(0, .int .u8 s)] rfl _ (built27_1 s) ?_
    | (refine wpList_store_ky rfl _ _ rfl w1.heap.size kzero (⟨s, 0, M.zero8, 0, 0⟩ : Ky) rfl rfl K1.out rfl rfl ?_; intro w2 K2 OS; have C2 := Lib.hid (C1.out.only OS.out GN.out RN.out); have R2 := Lib.hid (R1.out.only OS.out ZN.out); have O2 := Lib.hid (O1.out.new OS.out LN.out); have eE := refE C2.out; have cS := K2.out.cell (kc0 (⟨s, 0, M.zero8, 0, 0⟩ : Ky)); clear OS)
    | refine wpList_build rfl 76 _ rfl [(1, .int .u64 65535)] rfl _ (built76_1 65535) ?_)
  refine (H2.out _ C2.out).mono ?_
  rintro rr w3 ⟨v3, rfl, hc, ho⟩
  have C3 := Lib.hid hc
  have K3 := Lib.hid (K2.out.only ho NG.out)
  have R3 := Lib.hid (R2.out.only ho ZG.out)
  have O3 := Lib.hid (O2.out.trans ho)
  clear hc ho eE cS
  go_wp2_with (first
    | refine wpList_val rfl (.int .u64 c) (exec_fieldX _ rfl (pNum c v3) rfl) ?_
    | (refine wpList_store_k22 rfl _ _ rfl w1.heap.size 1 (⟨s, 0, M.zero8, 0, 0⟩ : Ky) c rfl rfl K3.out _ (kc1 (⟨s, 0, M.zero8, 0, 0⟩ : Ky)) (⟨s, c, M.zero8, 0, 0⟩ : Ky) rfl ?_; intro w4 K4 OS; have C4 := Lib.hid (C3.out.only OS.out GN.out RN.out); have R4 := Lib.hid (R3.out.only OS.out ZN.out); have O4 := Lib.hid (O3.out.new OS.out LN.out); have eE := refE C4.out; have cS := K4.out.cell (kc0 (⟨s, c, M.zero8, 0, 0⟩ : Ky)); clear OS)
    | refine wpList_blank rfl _ rfl 2 rfl ?_)
  refine (H3.out _ C4.out).mono ?_
  rintro rr w5 ⟨v5, rfl, hc, ho⟩
  have C5 := Lib.hid hc
  have K5 := Lib.hid (K4.out.only ho NG.out)
  have R5 := Lib.hid (R4.out.only ho ZG.out)
  have O5 := Lib.hid (O4.out.trans ho)
  clear hc ho eE cS
  go_wp2_with (first
    | refine wpList_val rfl (.agg (nm m)) (exec_fieldN _ rfl (pName m v5) rfl ML.out) ?_
    | (refine wpList_store_knm rfl _ _ rfl w1.heap.size (⟨s, c, M.zero8, 0, 0⟩ : Ky) m rfl rfl K5.out rfl ML.out ?_; intro w6 K6 OS; have C6 := Lib.hid (C5.out.only OS.out GN.out RN.out); have R6 := Lib.hid (R5.out.only OS.out ZN.out); have O6 := Lib.hid (O5.out.new OS.out LN.out); have eE := refE C6.out; have cS := K6.out.cell (kc0 (⟨s, c, m, 0, 0⟩ : Ky)); clear OS)
    | (refine wanted_on rfl ?_; refine wpList_load_nm rfl _ rfl w1.heap.size 2 m rfl (Blk.knm (k := (⟨s, c, m, 0, 0⟩ : Ky)) K6.out ML.out) ML.out ?_)
    | (refine wanted_on rfl ?_; refine wpList_build rfl 24 _ rfl [] rfl _ built24z ?_)
    | (refine wanted_on rfl ?_; refine wpList_val rfl (.bool false) (MZ.out ▸ exec_eq_nm _ _ _ rfl m M.zero8 rfl rfl ML.out rfl) ?_)
    | refine wpList_blank rfl _ rfl 1 rfl ?_)
  refine (H4.out _ C6.out).mono ?_
  rintro rr w7 ⟨v7, rfl, hc, ho⟩
  have C7 := Lib.hid hc
  have K7 := Lib.hid (K6.out.only ho NG.out)
  have R7 := Lib.hid (R6.out.only ho ZG.out)
  have O7 := Lib.hid (O6.out.trans ho)
  clear hc ho eE cS
  go_wp2_with (first
    | refine wpList_val rfl (.int .u8 r) (exec_fieldC _ rfl (pByte r v7) rfl) ?_
    | (refine wpList_store_k5 rfl _ _ rfl w1.heap.size 10 (⟨s, c, m, 0, 0⟩ : Ky) r rfl rfl K7.out _ (kc10 (k := (⟨s, c, m, 0, 0⟩ : Ky)) ML.out) (⟨s, c, m, r, 0⟩ : Ky) (kset10 (⟨s, c, m, 0, 0⟩ : Ky) ML.out r) ?_; intro w8 K8 OS; have C8 := Lib.hid (C7.out.only OS.out GN.out RN.out); have R8 := Lib.hid (R7.out.only OS.out ZN.out); have O8 := Lib.hid (O7.out.new OS.out LN.out); have eE := refE C8.out; have cS := K8.out.cell (kc0 (⟨s, c, m, r, 0⟩ : Ky)); clear OS; have cR := K8.out.cell (kc10 (k := (⟨s, c, m, r, 0⟩ : Ky)) ML.out)))
  refine (refFail_is g R 2 _ _ C8.out).mono ?_
  rintro rr w9 ⟨rfl, hc, ho⟩
  have C9 := Lib.hid hc
  have R9 := Lib.hid (R8.out.only ho ZG.out)
  have O9 := Lib.hid (O8.out.trans ho)
  clear hc ho
  go_wp2_with (refine wpList_store_ky rfl _ _ rfl w.heap.size kzero kzero rfl rfl R9.out rfl rfl ?_; intro wz KZ OZ)
  refine bodyPost_ret (results_ky rfl _ _ w.heap.size kzero rfl KZ.out rfl) rfl ?_
  exact ⟨rfl, C9.out.only OZ.out GZ.out RZ.out, O9.out.new OZ.out (Nat.le_refl _)⟩
set_option maxRecDepth 100000 in
set_option maxHeartbeats 1000000 in
theorem in2o (g : Nat) (R : Option Nat) (l l1 : List Int) (s : Int) (l2 : List Int) (c : Int) (e2 : Int) (l3 m : List Int) (l4 : List Int) (r : Int) (w : World) (h : RefAt w g R 0 l) (H1 : Hid (RdP g R (blank 1) 0 l (pByte s) 0 l1)) (a1 : ¬ s < 1) (a2 : ¬ 4 < s) (H2 : Hid (RdP g R (pNum 65535 (.slice none 0 0)) 0 l1 (pNum c) e2 l2)) (cw : IntKind.u16.wrap c = c) (h4 : ¬ s = 4) (H3 : Hid (RdP g R (blank 2) e2 l2 (pName m) 0 l3)) (ML : Hid (m.length = 8)) (MZ : Hid ((m == M.zero8) = false)) (H4 : Hid (RdP g R (blank 1) 0 l3 (pByte r) 0 l4)) (r16 : ¬ 16 ≤ r) (h1 : ¬ s = 1) :
    Calls Try.prog 23 #[.pointer (some ⟨g, 0, none⟩)] w (Ins w g R (⟨s, c, m, r, 0⟩ : Ky) 0 l4) := by
  have hz := zero27
  have GZ := Lib.hid (h.far (Nat.le_refl w.heap.size)).1
  have RZ := Lib.hid (h.far (Nat.le_refl w.heap.size)).2
  have ZG := Lib.hid GZ.out.symm
  have R0 := Lib.hid (blk_alloc w 27 kzero.cells)
  have C0 := Lib.hid (h.alloc (.cells kzero.cells.toArray 27))
  have O0 := Lib.hid ((Only.refl g w).alloc (.cells kzero.cells.toArray 27))
  clear h
  go_enter Try.func23, Try.ntmps23
  go_wp2_with (refine wpList_blank rfl _ rfl 1 rfl ?_)
  refine (H1.out _ C0.out).mono ?_
  rintro rr w1 ⟨v1, rfl, hc, ho⟩
  have GN := Lib.hid (hc.far (Nat.le_refl w1.heap.size)).1
  have RN := Lib.hid (hc.far (Nat.le_refl w1.heap.size)).2
  have NG := Lib.hid GN.out.symm
  have ZN := Lib.hid (Nat.ne_of_lt (R0.out.only ho ZG.out).lt)
  have LN := Lib.hid (Nat.le_of_lt (R0.out.only ho ZG.out).lt)
  have C1 := Lib.hid (hc.alloc (.cells kzero.cells.toArray 27))
  have K1 := Lib.hid (blk_alloc w1 27 kzero.cells)
  have R1 := Lib.hid ((R0.out.only ho ZG.out).alloc (.cells kzero.cells.toArray 27))
  have O1 := Lib.hid ((O0.out.trans ho).alloc (.cells kzero.cells.toArray 27))
  clear hc ho
  go_wp2_with (first
    | refine wpList_val rfl (.int .u8 s) (exec_fieldC _ rfl (pByte s v1) rfl) ?_
    | refine wpList_build rfl 27 _ rfl [(0, .int .u8 s)] rfl _ (built27_1 s) ?_
    | (refine wpList_store_ky rfl _ _ rfl w1.heap.size kzero (⟨s, 0, M.zero8, 0, 0⟩ : Ky) rfl rfl K1.out rfl rfl ?_; intro w2 K2 OS; have C2 := Lib.hid (C1.out.only OS.out GN.out RN.out); have R2 := Lib.hid (R1.out.only OS.out ZN.out); have O2 := Lib.hid (O1.out.new OS.out LN.out); have eE := refE C2.out; have cS := K2.out.cell (kc0 (⟨s, 0, M.zero8, 0, 0⟩ : Ky)); clear OS)
    | refine wpList_build rfl 76 _ rfl [(1, .int .u64 65535)] rfl _ (built76_1 65535) ?_)
  refine (H2.out _ C2.out).mono ?_
  rintro rr w3 ⟨v3, rfl, hc, ho⟩
  have C3 := Lib.hid hc
  have K3 := Lib.hid (K2.out.only ho NG.out)
  have R3 := Lib.hid (R2.out.only ho ZG.out)
  have O3 := Lib.hid (O2.out.trans ho)
  clear hc ho eE cS
  go_wp2_with (first
    | refine wpList_val rfl (.int .u64 c) (exec_fieldX _ rfl (pNum c v3) rfl) ?_
    | (refine wpList_store_k22 rfl _ _ rfl w1.heap.size 1 (⟨s, 0, M.zero8, 0, 0⟩ : Ky) c rfl rfl K3.out _ (kc1 (⟨s, 0, M.zero8, 0, 0⟩ : Ky)) (⟨s, c, M.zero8, 0, 0⟩ : Ky) rfl ?_; intro w4 K4 OS; have C4 := Lib.hid (C3.out.only OS.out GN.out RN.out); have R4 := Lib.hid (R3.out.only OS.out ZN.out); have O4 := Lib.hid (O3.out.new OS.out LN.out); have eE := refE C4.out; have cS := K4.out.cell (kc0 (⟨s, c, M.zero8, 0, 0⟩ : Ky)); clear OS)
    | refine wpList_blank rfl _ rfl 2 rfl ?_)
  refine (H3.out _ C4.out).mono ?_
  rintro rr w5 ⟨v5, rfl, hc, ho⟩
  have C5 := Lib.hid hc
  have K5 := Lib.hid (K4.out.only ho NG.out)
  have R5 := Lib.hid (R4.out.only ho ZG.out)
  have O5 := Lib.hid (O4.out.trans ho)
  clear hc ho eE cS
  go_wp2_with (first
    | refine wpList_val rfl (.agg (nm m)) (exec_fieldN _ rfl (pName m v5) rfl ML.out) ?_
    | (refine wpList_store_knm rfl _ _ rfl w1.heap.size (⟨s, c, M.zero8, 0, 0⟩ : Ky) m rfl rfl K5.out rfl ML.out ?_; intro w6 K6 OS; have C6 := Lib.hid (C5.out.only OS.out GN.out RN.out); have R6 := Lib.hid (R5.out.only OS.out ZN.out); have O6 := Lib.hid (O5.out.new OS.out LN.out); have eE := refE C6.out; have cS := K6.out.cell (kc0 (⟨s, c, m, 0, 0⟩ : Ky)); clear OS)
    | (refine wanted_on rfl ?_; refine wpList_load_nm rfl _ rfl w1.heap.size 2 m rfl (Blk.knm (k := (⟨s, c, m, 0, 0⟩ : Ky)) K6.out ML.out) ML.out ?_)
    | (refine wanted_on rfl ?_; refine wpList_build rfl 24 _ rfl [] rfl _ built24z ?_)
    | (refine wanted_on rfl ?_; refine wpList_val rfl (.bool false) (MZ.out ▸ exec_eq_nm _ _ _ rfl m M.zero8 rfl rfl ML.out rfl) ?_)
    | refine wpList_blank rfl _ rfl 1 rfl ?_)
  refine (H4.out _ C6.out).mono ?_
  rintro rr w7 ⟨v7, rfl, hc, ho⟩
  have C7 := Lib.hid hc
  have K7 := Lib.hid (K6.out.only ho NG.out)
  have R7 := Lib.hid (R6.out.only ho ZG.out)
  have O7 := Lib.hid (O6.out.trans ho)
  clear hc ho eE cS
  go_wp2_with (first
    | refine wpList_val rfl (.int .u8 r) (exec_fieldC _ rfl (pByte r v7) rfl) ?_
    | (refine wpList_store_k5 rfl _ _ rfl w1.heap.size 10 (⟨s, c, m, 0, 0⟩ : Ky) r rfl rfl K7.out _ (kc10 (k := (⟨s, c, m, 0, 0⟩ : Ky)) ML.out) (⟨s, c, m, r, 0⟩ : Ky) (kset10 (⟨s, c, m, 0, 0⟩ : Ky) ML.out r) ?_; intro w8 K8 OS; have C8 := Lib.hid (C7.out.only OS.out GN.out RN.out); have R8 := Lib.hid (R7.out.only OS.out ZN.out); have O8 := Lib.hid (O7.out.new OS.out LN.out); have eE := refE C8.out; have cS := K8.out.cell (kc0 (⟨s, c, m, r, 0⟩ : Ky)); clear OS; have cR := K8.out.cell (kc10 (k := (⟨s, c, m, r, 0⟩ : Ky)) ML.out))
    | refine wpList_load_ky rfl _ rfl w1.heap.size 0 (⟨s, c, m, r, 0⟩ : Ky) rfl K8.out.range ML.out ?_
    | (refine wpList_store_ky rfl _ _ rfl w.heap.size kzero (⟨s, c, m, r, 0⟩ : Ky) rfl rfl R8.out rfl ML.out ?_; intro wz KZ OZ))
  refine bodyPost_ret (results_ky rfl _ _ w.heap.size (⟨s, c, m, r, 0⟩ : Ky) rfl KZ.out ML.out) rfl ?_
  exact ⟨rfl, C8.out.only OZ.out GZ.out RZ.out, O8.out.new OZ.out (Nat.le_refl _)⟩
set_option maxRecDepth 100000 in
set_option maxHeartbeats 1000000 in
theorem in1b (g : Nat) (R : Option Nat) (l l1 : List Int) (s : Int) (l2 : List Int) (c : Int) (e2 : Int) (e3 : Int) (l3 m : List Int) (e4 : Int) (l4 : List Int) (r : Int) (e5 : Int) (l5 : List Int) (q : Int) (w : World) (h : RefAt w g R 0 l) (H1 : Hid (RdP g R (blank 1) 0 l (pByte s) 0 l1)) (a1 : ¬ s < 1) (a2 : ¬ 4 < s) (H2 : Hid (RdP g R (pNum 65535 (.slice none 0 0)) 0 l1 (pNum c) e2 l2)) (cw : IntKind.u16.wrap c = c) (h4 : ¬ s = 4) (z3 : ¬ e3 = 0) (H3 : Hid (RdP g R (blank 2) e2 l2 (pName m) e3 l3)) (ML : Hid (m.length = 8)) (z4 : ¬ e4 = 0) (H4 : Hid (RdP g R (blank 1) e3 l3 (pByte r) e4 l4)) (Z1 : Hid (s = 1)) (z5 : ¬ e5 = 0) (H5 : Hid (RdP g R (pNum 4294967295 (.slice none 0 0)) e4 l4 (pNum q) e5 l5)) (qw : IntKind.u32.wrap q = q) :
    Calls Try.prog 23 #[.pointer (some ⟨g, 0, none⟩)] w (Ins w g R kzero e5 l5) := by
  have hz := zero27
  have GZ := Lib.hid (h.far (Nat.le_refl w.heap.size)).1
  have RZ := Lib.hid (h.far (Nat.le_refl w.heap.size)).2
  have ZG := Lib.hid GZ.out.symm
  have R0 := Lib.hid (blk_alloc w 27 kzero.cells)
  have C0 := Lib.hid (h.alloc (.cells kzero.cells.toArray 27))
  have O0 := Lib.hid ((Only.refl g w).alloc (.cells kzero.cells.toArray 27))
  clear h
  go_enter Try.func23, Try.ntmps23
  go_wp2_with (refine wpList_blank rfl _ rfl 1 rfl ?_)
  refine (H1.out _ C0.out).mono ?_
  rintro rr w1 ⟨v1, rfl, hc, ho⟩
  have GN := Lib.hid (hc.far (Nat.le_refl w1.heap.size)).1
  have RN := Lib.hid (hc.far (Nat.le_refl w1.heap.size)).2
  have NG := Lib.hid GN.out.symm
  have ZN := Lib.hid (Nat.ne_of_lt (R0.out.only ho ZG.out).lt)
  have LN := Lib.hid (Nat.le_of_lt (R0.out.only ho ZG.out).lt)
  have C1 := Lib.hid (hc.alloc (.cells kzero.cells.toArray 27))
  have K1 := Lib.hid (blk_alloc w1 27 kzero.cells)
  have R1 := Lib.hid ((R0.out.only ho ZG.out).alloc (.cells kzero.cells.toArray 27))
  have O1 := Lib.hid ((O0.out.trans ho).alloc (.cells kzero.cells.toArray 27))
  clear hc ho
  go_wp2_with (first
    | refine wpList_val rfl (.int .u8 s) (exec_fieldC _ rfl (pByte s v1) rfl) ?_
    | refine wpList_build rfl 27 _ rfl [(0, .int .u8 s)] rfl _ (built27_1 s) ?_
    | (refine wpList_store_ky rfl _ _ rfl w1.heap.size kzero (⟨s, 0, M.zero8, 0, 0⟩ : Ky) rfl rfl K1.out rfl rfl ?_; intro w2 K2 OS; have C2 := Lib.hid (C1.out.only OS.out GN.out RN.out); have R2 := Lib.hid (R1.out.only OS.out ZN.out); have O2 := Lib.hid (O1.out.new OS.out LN.out); have eE := refE C2.out; have cS := K2.out.cell (kc0 (⟨s, 0, M.zero8, 0, 0⟩ : Ky)); clear OS)
    | refine wpList_build rfl 76 _ rfl [(1, .int .u64 65535)] rfl _ (built76_1 65535) ?_)
  refine (H2.out _ C2.out).mono ?_
  rintro rr w3 ⟨v3, rfl, hc, ho⟩
  have C3 := Lib.hid hc
  have K3 := Lib.hid (K2.out.only ho NG.out)
  have R3 := Lib.hid (R2.out.only ho ZG.out)
  have O3 := Lib.hid (O2.out.trans ho)
  clear hc ho eE cS
  go_wp2_with (first
    | refine wpList_val rfl (.int .u64 c) (exec_fieldX _ rfl (pNum c v3) rfl) ?_
    | (refine wpList_store_k22 rfl _ _ rfl w1.heap.size 1 (⟨s, 0, M.zero8, 0, 0⟩ : Ky) c rfl rfl K3.out _ (kc1 (⟨s, 0, M.zero8, 0, 0⟩ : Ky)) (⟨s, c, M.zero8, 0, 0⟩ : Ky) rfl ?_; intro w4 K4 OS; have C4 := Lib.hid (C3.out.only OS.out GN.out RN.out); have R4 := Lib.hid (R3.out.only OS.out ZN.out); have O4 := Lib.hid (O3.out.new OS.out LN.out); have eE := refE C4.out; have cS := K4.out.cell (kc0 (⟨s, c, M.zero8, 0, 0⟩ : Ky)); clear OS)
    | refine wpList_blank rfl _ rfl 2 rfl ?_)
  refine (H3.out _ C4.out).mono ?_
  rintro rr w5 ⟨v5, rfl, hc, ho⟩
  have C5 := Lib.hid hc
  have K5 := Lib.hid (K4.out.only ho NG.out)
  have R5 := Lib.hid (R4.out.only ho ZG.out)
  have O5 := Lib.hid (O4.out.trans ho)
  clear hc ho eE cS
  go_wp2_with (first
    | refine wpList_val rfl (.agg (nm m)) (exec_fieldN _ rfl (pName m v5) rfl ML.out) ?_
    | (refine wpList_store_knm rfl _ _ rfl w1.heap.size (⟨s, c, M.zero8, 0, 0⟩ : Ky) m rfl rfl K5.out rfl ML.out ?_; intro w6 K6 OS; have C6 := Lib.hid (C5.out.only OS.out GN.out RN.out); have R6 := Lib.hid (R5.out.only OS.out ZN.out); have O6 := Lib.hid (O5.out.new OS.out LN.out); have eE := refE C6.out; have cS := K6.out.cell (kc0 (⟨s, c, m, 0, 0⟩ : Ky)); clear OS)
    | refine wpList_blank rfl _ rfl 1 rfl ?_)
  refine (H4.out _ C6.out).mono ?_
  rintro rr w7 ⟨v7, rfl, hc, ho⟩
  have C7 := Lib.hid hc
  have K7 := Lib.hid (K6.out.only ho NG.out)
  have R7 := Lib.hid (R6.out.only ho ZG.out)
  have O7 := Lib.hid (O6.out.trans ho)
  clear hc ho eE cS
  have h1 := Z1.out
  go_wp2_with (first
    | refine wpList_val rfl (.int .u8 r) (exec_fieldC _ rfl (pByte r v7) rfl) ?_
    | (refine wpList_store_k5 rfl _ _ rfl w1.heap.size 10 (⟨s, c, m, 0, 0⟩ : Ky) r rfl rfl K7.out _ (kc10 (k := (⟨s, c, m, 0, 0⟩ : Ky)) ML.out) (⟨s, c, m, r, 0⟩ : Ky) (kset10 (⟨s, c, m, 0, 0⟩ : Ky) ML.out r) ?_; intro w8 K8 OS; have C8 := Lib.hid (C7.out.only OS.out GN.out RN.out); have R8 := Lib.hid (R7.out.only OS.out ZN.out); have O8 := Lib.hid (O7.out.new OS.out LN.out); have eE := refE C8.out; have cS := K8.out.cell (kc0 (⟨s, c, m, r, 0⟩ : Ky)); clear OS; have cR := K8.out.cell (kc10 (k := (⟨s, c, m, r, 0⟩ : Ky)) ML.out))
    | refine wpList_build rfl 76 _ rfl [(1, .int .u64 4294967295)] rfl _ (built76_1 4294967295) ?_)
  clear h1 cR
  refine (H5.out _ C8.out).mono ?_
  rintro rr w9 ⟨v9, rfl, hc, ho⟩
  have C9 := Lib.hid hc
  have K9 := Lib.hid (K8.out.only ho NG.out)
  have R9 := Lib.hid (R8.out.only ho ZG.out)
  have O9 := Lib.hid (O8.out.trans ho)
  clear hc ho eE cS
  go_wp2_with (first
    | refine wpList_val rfl (.int .u64 q) (exec_fieldX _ rfl (pNum q v9) rfl) ?_
    | (refine wpList_store_k25 rfl _ _ rfl w1.heap.size 11 (⟨s, c, m, r, 0⟩ : Ky) q rfl rfl K9.out _ (kc11 (k := (⟨s, c, m, r, 0⟩ : Ky)) ML.out) (⟨s, c, m, r, q⟩ : Ky) (kset11 (⟨s, c, m, r, 0⟩ : Ky) ML.out q) ?_; intro w10 K10 OS; have C10 := Lib.hid (C9.out.only OS.out GN.out RN.out); have R10 := Lib.hid (R9.out.only OS.out ZN.out); have O10 := Lib.hid (O9.out.new OS.out LN.out); have eE := refE C10.out; have cS := K10.out.cell (kc0 (⟨s, c, m, r, q⟩ : Ky)); clear OS; have cQ := K10.out.cell (kc11 (k := (⟨s, c, m, r, q⟩ : Ky)) ML.out))
    | refine wpList_build rfl 27 _ rfl [] rfl _ built27_0 ?_
    | (refine wpList_store_ky rfl _ _ rfl w.heap.size kzero kzero rfl rfl R10.out rfl rfl ?_; intro wz KZ OZ))
  refine bodyPost_ret (results_ky rfl _ _ w.heap.size kzero rfl KZ.out rfl) rfl ?_
  exact ⟨rfl, C10.out.only OZ.out GZ.out RZ.out, O10.out.new OZ.out (Nat.le_refl _)⟩
set_option maxRecDepth 100000 in
set_option maxHeartbeats 1000000 in
theorem in1c (g : Nat) (R : Option Nat) (l l1 : List Int) (s : Int) (l2 : List Int) (c : Int) (e2 : Int) (l3 m : List Int) (e4 : Int) (l4 : List Int) (r : Int) (e5 : Int) (l5 : List Int) (q : Int) (w : World) (h : RefAt w g R 0 l) (H1 : Hid (RdP g R (blank 1) 0 l (pByte s) 0 l1)) (a1 : ¬ s < 1) (a2 : ¬ 4 < s) (H2 : Hid (RdP g R (pNum 65535 (.slice none 0 0)) 0 l1 (pNum c) e2 l2)) (cw : IntKind.u16.wrap c = c) (h4 : ¬ s = 4) (H3 : Hid (RdP g R (blank 2) e2 l2 (pName m) 0 l3)) (ML : Hid (m.length = 8)) (MZ : Hid ((m == M.zero8) = false)) (z4 : ¬ e4 = 0) (H4 : Hid (RdP g R (blank 1) 0 l3 (pByte r) e4 l4)) (Z1 : Hid (s = 1)) (z5 : ¬ e5 = 0) (H5 : Hid (RdP g R (pNum 4294967295 (.slice none 0 0)) e4 l4 (pNum q) e5 l5)) (qw : IntKind.u32.wrap q = q) :
    Calls Try.prog 23 #[.pointer (some ⟨g, 0, none⟩)] w (Ins w g R kzero e5 l5) := by
  have hz := zero27
  have GZ := Lib.hid (h.far (Nat.le_refl w.heap.size)).1
  have RZ := Lib.hid (h.far (Nat.le_refl w.heap.size)).2
  have ZG := Lib.hid GZ.out.symm
  have R0 := Lib.hid (blk_alloc w 27 kzero.cells)
  have C0 := Lib.hid (h.alloc (.cells kzero.cells.toArray 27))
  have O0 := Lib.hid ((Only.refl g w).alloc (.cells kzero.cells.toArray 27))
  clear h
  go_enter Try.func23, Try.ntmps23
  go_wp2_with (refine wpList_blank rfl _ rfl 1 rfl ?_)
  refine (H1.out _ C0.out).mono ?_
  rintro rr w1 ⟨v1, rfl, hc, ho⟩
  have GN := Lib.hid (hc.far (Nat.le_refl w1.heap.size)).1
  have RN := Lib.hid (hc.far (Nat.le_refl w1.heap.size)).2
  have NG := Lib.hid GN.out.symm
  have ZN := Lib.hid (Nat.ne_of_lt (R0.out.only ho ZG.out).lt)
  have LN := Lib.hid (Nat.le_of_lt (R0.out.only ho ZG.out).lt)
  have C1 := Lib.hid (hc.alloc (.cells kzero.cells.toArray 27))
  have K1 := Lib.hid (blk_alloc w1 27 kzero.cells)
  have R1 := Lib.hid ((R0.out.only ho ZG.out).alloc (.cells kzero.cells.toArray 27))
  have O1 := Lib.hid ((O0.out.trans ho).alloc (.cells kzero.cells.toArray 27))
  clear hc ho
  go_wp2_with (first
    | refine wpList_val rfl (.int .u8 s) (exec_fieldC _ rfl (pByte s v1) rfl) ?_
    | refine wpList_build rfl 27 _ rfl [(0, .int .u8 s)] rfl _ (built27_1 s) ?_
    | (refine wpList_store_ky rfl _ _ rfl w1.heap.size kzero (⟨s, 0, M.zero8, 0, 0⟩ : Ky) rfl rfl K1.out rfl rfl ?_; intro w2 K2 OS; have C2 := Lib.hid (C1.out.only OS.out GN.out RN.out); have R2 := Lib.hid (R1.out.only OS.out ZN.out); have O2 := Lib.hid (O1.out.new OS.out LN.out); have eE := refE C2.out; have cS := K2.out.cell (kc0 (⟨s, 0, M.zero8, 0, 0⟩ : Ky)); clear OS)
    | refine wpList_build rfl 76 _ rfl [(1, .int .u64 65535)] rfl _ (built76_1 65535) ?_)
  refine (H2.out _ C2.out).mono ?_
  rintro rr w3 ⟨v3, rfl, hc, ho⟩
  have C3 := Lib.hid hc
  have K3 := Lib.hid (K2.out.only ho NG.out)
  have R3 := Lib.hid (R2.out.only ho ZG.out)
  have O3 := Lib.hid (O2.out.trans ho)
  clear hc ho eE cS
  go_wp2_with (first
    | refine wpList_val rfl (.int .u64 c) (exec_fieldX _ rfl (pNum c v3) rfl) ?_
    | (refine wpList_store_k22 rfl _ _ rfl w1.heap.size 1 (⟨s, 0, M.zero8, 0, 0⟩ : Ky) c rfl rfl K3.out _ (kc1 (⟨s, 0, M.zero8, 0, 0⟩ : Ky)) (⟨s, c, M.zero8, 0, 0⟩ : Ky) rfl ?_; intro w4 K4 OS; have C4 := Lib.hid (C3.out.only OS.out GN.out RN.out); have R4 := Lib.hid (R3.out.only OS.out ZN.out); have O4 := Lib.hid (O3.out.new OS.out LN.out); have eE := refE C4.out; have cS := K4.out.cell (kc0 (⟨s, c, M.zero8, 0, 0⟩ : Ky)); clear OS)
    | refine wpList_blank rfl _ rfl 2 rfl ?_)
  refine (H3.out _ C4.out).mono ?_
  rintro rr w5 ⟨v5, rfl, hc, ho⟩
  have C5 := Lib.hid hc
  have K5 := Lib.hid (K4.out.only ho NG.out)
  have R5 := Lib.hid (R4.out.only ho ZG.out)
  have O5 := Lib.hid (O4.out.trans ho)
  clear hc ho eE cS
  go_wp2_with (first
    | refine wpList_val rfl (.agg (nm m)) (exec_fieldN _ rfl (pName m v5) rfl ML.out) ?_
    | (refine wpList_store_knm rfl _ _ rfl w1.heap.size (⟨s, c, M.zero8, 0, 0⟩ : Ky) m rfl rfl K5.out rfl ML.out ?_; intro w6 K6 OS; have C6 := Lib.hid (C5.out.only OS.out GN.out RN.out); have R6 := Lib.hid (R5.out.only OS.out ZN.out); have O6 := Lib.hid (O5.out.new OS.out LN.out); have eE := refE C6.out; have cS := K6.out.cell (kc0 (⟨s, c, m, 0, 0⟩ : Ky)); clear OS)
    | (refine wanted_on rfl ?_; refine wpList_load_nm rfl _ rfl w1.heap.size 2 m rfl (Blk.knm (k := (⟨s, c, m, 0, 0⟩ : Ky)) K6.out ML.out) ML.out ?_)
    | (refine wanted_on rfl ?_; refine wpList_build rfl 24 _ rfl [] rfl _ built24z ?_)
    | (refine wanted_on rfl ?_; refine wpList_val rfl (.bool false) (MZ.out ▸ exec_eq_nm _ _ _ rfl m M.zero8 rfl rfl ML.out rfl) ?_)
    | refine wpList_blank rfl _ rfl 1 rfl ?_)
  refine (H4.out _ C6.out).mono ?_
  rintro rr w7 ⟨v7, rfl, hc, ho⟩
  have C7 := Lib.hid hc
  have K7 := Lib.hid (K6.out.only ho NG.out)
  have R7 := Lib.hid (R6.out.only ho ZG.out)
  have O7 := Lib.hid (O6.out.trans ho)
  clear hc ho eE cS
  have h1 := Z1.out
  go_wp2_with (first
    | refine wpList_val rfl (.int .u8 r) (exec_fieldC _ rfl (pByte r v7) rfl) ?_
    | (refine wpList_store_k5 rfl _ _ rfl w1.heap.size 10 (⟨s, c, m, 0, 0⟩ : Ky) r rfl rfl K7.out _ (kc10 (k := (⟨s, c, m, 0, 0⟩ : Ky)) ML.out) (⟨s, c, m, r, 0⟩ : Ky) (kset10 (⟨s, c, m, 0, 0⟩ : Ky) ML.out r) ?_; intro w8 K8 OS; have C8 := Lib.hid (C7.out.only OS.out GN.out RN.out); have R8 := Lib.hid (R7.out.only OS.out ZN.out); have O8 := Lib.hid (O7.out.new OS.out LN.out); have eE := refE C8.out; have cS := K8.out.cell (kc0 (⟨s, c, m, r, 0⟩ : Ky)); clear OS; have cR := K8.out.cell (kc10 (k := (⟨s, c, m, r, 0⟩ : Ky)) ML.out))
    | refine wpList_build rfl 76 _ rfl [(1, .int .u64 4294967295)] rfl _ (built76_1 4294967295) ?_)
  clear h1 cR
  refine (H5.out _ C8.out).mono ?_
  rintro rr w9 ⟨v9, rfl, hc, ho⟩
  have C9 := Lib.hid hc
  have K9 := Lib.hid (K8.out.only ho NG.out)
  have R9 := Lib.hid (R8.out.only ho ZG.out)
  have O9 := Lib.hid (O8.out.trans ho)
  clear hc ho eE cS
  go_wp2_with (first
    | refine wpList_val rfl (.int .u64 q) (exec_fieldX _ rfl (pNum q v9) rfl) ?_
    | (refine wpList_store_k25 rfl _ _ rfl w1.heap.size 11 (⟨s, c, m, r, 0⟩ : Ky) q rfl rfl K9.out _ (kc11 (k := (⟨s, c, m, r, 0⟩ : Ky)) ML.out) (⟨s, c, m, r, q⟩ : Ky) (kset11 (⟨s, c, m, r, 0⟩ : Ky) ML.out q) ?_; intro w10 K10 OS; have C10 := Lib.hid (C9.out.only OS.out GN.out RN.out); have R10 := Lib.hid (R9.out.only OS.out ZN.out); have O10 := Lib.hid (O9.out.new OS.out LN.out); have eE := refE C10.out; have cS := K10.out.cell (kc0 (⟨s, c, m, r, q⟩ : Ky)); clear OS; have cQ := K10.out.cell (kc11 (k := (⟨s, c, m, r, q⟩ : Ky)) ML.out))
    | refine wpList_build rfl 27 _ rfl [] rfl _ built27_0 ?_
    | (refine wpList_store_ky rfl _ _ rfl w.heap.size kzero kzero rfl rfl R10.out rfl rfl ?_; intro wz KZ OZ))
  refine bodyPost_ret (results_ky rfl _ _ w.heap.size kzero rfl KZ.out rfl) rfl ?_
  exact ⟨rfl, C10.out.only OZ.out GZ.out RZ.out, O10.out.new OZ.out (Nat.le_refl _)⟩
set_option maxRecDepth 100000 in
set_option maxHeartbeats 1000000 in
theorem in1d (g : Nat) (R : Option Nat) (l l1 : List Int) (s : Int) (l2 : List Int) (c : Int) (e2 : Int) (l3 m : List Int) (l4 : List Int) (r : Int) (e5 : Int) (l5 : List Int) (q : Int) (w : World) (h : RefAt w g R 0 l) (H1 : Hid (RdP g R (blank 1) 0 l (pByte s) 0 l1)) (a1 : ¬ s < 1) (a2 : ¬ 4 < s) (H2 : Hid (RdP g R (pNum 65535 (.slice none 0 0)) 0 l1 (pNum c) e2 l2)) (cw : IntKind.u16.wrap c = c) (h4 : ¬ s = 4) (H3 : Hid (RdP g R (blank 2) e2 l2 (pName m) 0 l3)) (ML : Hid (m.length = 8)) (MZ : Hid ((m == M.zero8) = false)) (H4 : Hid (RdP g R (blank 1) 0 l3 (pByte r) 0 l4)) (r16 : ¬ 16 ≤ r) (Z1 : Hid (s = 1)) (z5 : ¬ e5 = 0) (H5 : Hid (RdP g R (pNum 4294967295 (.slice none 0 0)) 0 l4 (pNum q) e5 l5)) (qw : IntKind.u32.wrap q = q) :
    Calls Try.prog 23 #[.pointer (some ⟨g, 0, none⟩)] w (Ins w g R kzero e5 l5) := by
  have hz := zero27
  have GZ := Lib.hid (h.far (Nat.le_refl w.heap.size)).1
  have RZ := Lib.hid (h.far (Nat.le_refl w.heap.size)).2
  have ZG := Lib.hid GZ.out.symm
  have R0 := Lib.hid (blk_alloc w 27 kzero.cells)
  have C0 := Lib.hid (h.alloc (.cells kzero.cells.toArray 27))
  have O0 := Lib.hid ((Only.refl g w).alloc (.cells kzero.cells.toArray 27))
  clear h
  go_enter Try.func23, Try.ntmps23
  go_wp2_with (refine wpList_blank rfl _ rfl 1 rfl ?_)
  refine (H1.out _ C0.out).mono ?_
  rintro rr w1 ⟨v1, rfl, hc, ho⟩
  have GN := Lib.hid (hc.far (Nat.le_refl w1.heap.size)).1
  have RN := Lib.hid (hc.far (Nat.le_refl w1.heap.size)).2
  have NG := Lib.hid GN.out.symm
  have ZN := Lib.hid (Nat.ne_of_lt (R0.out.only ho ZG.out).lt)
  have LN := Lib.hid (Nat.le_of_lt (R0.out.only ho ZG.out).lt)
  have C1 := Lib.hid (hc.alloc (.cells kzero.cells.toArray 27))
  have K1 := Lib.hid (blk_alloc w1 27 kzero.cells)
  have R1 := Lib.hid ((R0.out.only ho ZG.out).alloc (.cells kzero.cells.toArray 27))
  have O1 := Lib.hid ((O0.out.trans ho).alloc (.cells kzero.cells.toArray 27))
  clear hc ho
  go_wp2_with (first
    | refine wpList_val rfl (.int .u8 s) (exec_fieldC _ rfl (pByte s v1) rfl) ?_
    | refine wpList_build rfl 27 _ rfl [(0, .int .u8 s)] rfl _ (built27_1 s) ?_
    | (refine wpList_store_ky rfl _ _ rfl w1.heap.size kzero (⟨s, 0, M.zero8, 0, 0⟩ : Ky) rfl rfl K1.out rfl rfl ?_; intro w2 K2 OS; have C2 := Lib.hid (C1.out.only OS.out GN.out RN.out); have R2 := Lib.hid (R1.out.only OS.out ZN.out); have O2 := Lib.hid (O1.out.new OS.out LN.out); have eE := refE C2.out; have cS := K2.out.cell (kc0 (⟨s, 0, M.zero8, 0, 0⟩ : Ky)); clear OS)
    | refine wpList_build rfl 76 _ rfl [(1, .int .u64 65535)] rfl _ (built76_1 65535) ?_)
  refine (H2.out _ C2.out).mono ?_
  rintro rr w3 ⟨v3, rfl, hc, ho⟩
  have C3 := Lib.hid hc
  have K3 := Lib.hid (K2.out.only ho NG.out)
  have R3 := Lib.hid (R2.out.only ho ZG.out)
  have O3 := Lib.hid (O2.out.trans ho)
  clear hc ho eE cS
  go_wp2_with (first
    | refine wpList_val rfl (.int .u64 c) (exec_fieldX _ rfl (pNum c v3) rfl) ?_
    | (refine wpList_store_k22 rfl _ _ rfl w1.heap.size 1 (⟨s, 0, M.zero8, 0, 0⟩ : Ky) c rfl rfl K3.out _ (kc1 (⟨s, 0, M.zero8, 0, 0⟩ : Ky)) (⟨s, c, M.zero8, 0, 0⟩ : Ky) rfl ?_; intro w4 K4 OS; have C4 := Lib.hid (C3.out.only OS.out GN.out RN.out); have R4 := Lib.hid (R3.out.only OS.out ZN.out); have O4 := Lib.hid (O3.out.new OS.out LN.out); have eE := refE C4.out; have cS := K4.out.cell (kc0 (⟨s, c, M.zero8, 0, 0⟩ : Ky)); clear OS)
    | refine wpList_blank rfl _ rfl 2 rfl ?_)
  refine (H3.out _ C4.out).mono ?_
  rintro rr w5 ⟨v5, rfl, hc, ho⟩
  have C5 := Lib.hid hc
  have K5 := Lib.hid (K4.out.only ho NG.out)
  have R5 := Lib.hid (R4.out.only ho ZG.out)
  have O5 := Lib.hid (O4.out.trans ho)
  clear hc ho eE cS
  go_wp2_with (first
    | refine wpList_val rfl (.agg (nm m)) (exec_fieldN _ rfl (pName m v5) rfl ML.out) ?_
    | (refine wpList_store_knm rfl _ _ rfl w1.heap.size (⟨s, c, M.zero8, 0, 0⟩ : Ky) m rfl rfl K5.out rfl ML.out ?_; intro w6 K6 OS; have C6 := Lib.hid (C5.out.only OS.out GN.out RN.out); have R6 := Lib.hid (R5.out.only OS.out ZN.out); have O6 := Lib.hid (O5.out.new OS.out LN.out); have eE := refE C6.out; have cS := K6.out.cell (kc0 (⟨s, c, m, 0, 0⟩ : Ky)); clear OS)
    | (refine wanted_on rfl ?_; refine wpList_load_nm rfl _ rfl w1.heap.size 2 m rfl (Blk.knm (k := (⟨s, c, m, 0, 0⟩ : Ky)) K6.out ML.out) ML.out ?_)
    | (refine wanted_on rfl ?_; refine wpList_build rfl 24 _ rfl [] rfl _ built24z ?_)
    | (refine wanted_on rfl ?_; refine wpList_val rfl (.bool false) (MZ.out ▸ exec_eq_nm _ _ _ rfl m M.zero8 rfl rfl ML.out rfl) ?_)
    | refine wpList_blank rfl _ rfl 1 rfl ?_)
  refine (H4.out _ C6.out).mono ?_
  rintro rr w7 ⟨v7, rfl, hc, ho⟩
  have C7 := Lib.hid hc
  have K7 := Lib.hid (K6.out.only ho NG.out)
  have R7 := Lib.hid (R6.out.only ho ZG.out)
  have O7 := Lib.hid (O6.out.trans ho)
  clear hc ho eE cS
  have h1 := Z1.out
  go_wp2_with (first
    | refine wpList_val rfl (.int .u8 r) (exec_fieldC _ rfl (pByte r v7) rfl) ?_
    | (refine wpList_store_k5 rfl _ _ rfl w1.heap.size 10 (⟨s, c, m, 0, 0⟩ : Ky) r rfl rfl K7.out _ (kc10 (k := (⟨s, c, m, 0, 0⟩ : Ky)) ML.out) (⟨s, c, m, r, 0⟩ : Ky) (kset10 (⟨s, c, m, 0, 0⟩ : Ky) ML.out r) ?_; intro w8 K8 OS; have C8 := Lib.hid (C7.out.only OS.out GN.out RN.out); have R8 := Lib.hid (R7.out.only OS.out ZN.out); have O8 := Lib.hid (O7.out.new OS.out LN.out); have eE := refE C8.out; have cS := K8.out.cell (kc0 (⟨s, c, m, r, 0⟩ : Ky)); clear OS; have cR := K8.out.cell (kc10 (k := (⟨s, c, m, r, 0⟩ : Ky)) ML.out))
    | refine wpList_build rfl 76 _ rfl [(1, .int .u64 4294967295)] rfl _ (built76_1 4294967295) ?_)
  clear h1 cR
  refine (H5.out _ C8.out).mono ?_
  rintro rr w9 ⟨v9, rfl, hc, ho⟩
  have C9 := Lib.hid hc
  have K9 := Lib.hid (K8.out.only ho NG.out)
  have R9 := Lib.hid (R8.out.only ho ZG.out)
  have O9 := Lib.hid (O8.out.trans ho)
  clear hc ho eE cS
  go_wp2_with (first
    | refine wpList_val rfl (.int .u64 q) (exec_fieldX _ rfl (pNum q v9) rfl) ?_
    | (refine wpList_store_k25 rfl _ _ rfl w1.heap.size 11 (⟨s, c, m, r, 0⟩ : Ky) q rfl rfl K9.out _ (kc11 (k := (⟨s, c, m, r, 0⟩ : Ky)) ML.out) (⟨s, c, m, r, q⟩ : Ky) (kset11 (⟨s, c, m, r, 0⟩ : Ky) ML.out q) ?_; intro w10 K10 OS; have C10 := Lib.hid (C9.out.only OS.out GN.out RN.out); have R10 := Lib.hid (R9.out.only OS.out ZN.out); have O10 := Lib.hid (O9.out.new OS.out LN.out); have eE := refE C10.out; have cS := K10.out.cell (kc0 (⟨s, c, m, r, q⟩ : Ky)); clear OS; have cQ := K10.out.cell (kc11 (k := (⟨s, c, m, r, q⟩ : Ky)) ML.out))
    | refine wpList_build rfl 27 _ rfl [] rfl _ built27_0 ?_
    | (refine wpList_store_ky rfl _ _ rfl w.heap.size kzero kzero rfl rfl R10.out rfl rfl ?_; intro wz KZ OZ))
  refine bodyPost_ret (results_ky rfl _ _ w.heap.size kzero rfl KZ.out rfl) rfl ?_
  exact ⟨rfl, C10.out.only OZ.out GZ.out RZ.out, O10.out.new OZ.out (Nat.le_refl _)⟩
set_option maxRecDepth 100000 in
set_option maxHeartbeats 1000000 in
theorem inF5 (g : Nat) (R : Option Nat) (l l1 : List Int) (s : Int) (l2 : List Int) (c : Int) (e2 : Int) (l3 m : List Int) (l4 : List Int) (r : Int) (l5 : List Int) (q : Int) (w : World) (h : RefAt w g R 0 l) (H1 : Hid (RdP g R (blank 1) 0 l (pByte s) 0 l1)) (a1 : ¬ s < 1) (a2 : ¬ 4 < s) (H2 : Hid (RdP g R (pNum 65535 (.slice none 0 0)) 0 l1 (pNum c) e2 l2)) (cw : IntKind.u16.wrap c = c) (h4 : ¬ s = 4) (H3 : Hid (RdP g R (blank 2) e2 l2 (pName m) 0 l3)) (ML : Hid (m.length = 8)) (MZ : Hid ((m == M.zero8) = false)) (H4 : Hid (RdP g R (blank 1) 0 l3 (pByte r) 0 l4)) (r16 : ¬ 16 ≤ r) (Z1 : Hid (s = 1)) (H5 : Hid (RdP g R (pNum 4294967295 (.slice none 0 0)) 0 l4 (pNum q) 0 l5)) (qw : IntKind.u32.wrap q = q) (Q0 : Hid (q = 0)) :
    Calls Try.prog 23 #[.pointer (some ⟨g, 0, none⟩)] w (Ins w g R kzero 3 []) := by
  have hz := zero27
  have GZ := Lib.hid (h.far (Nat.le_refl w.heap.size)).1
  have RZ := Lib.hid (h.far (Nat.le_refl w.heap.size)).2
  have ZG := Lib.hid GZ.out.symm
  have R0 := Lib.hid (blk_alloc w 27 kzero.cells)
  have C0 := Lib.hid (h.alloc (.cells kzero.cells.toArray 27))
  have O0 := Lib.hid ((Only.refl g w).alloc (.cells kzero.cells.toArray 27))
  clear h
  go_enter Try.func23, Try.ntmps23
  go_wp2_with (refine wpList_blank rfl _ rfl 1 rfl ?_)
  refine (H1.out _ C0.out).mono ?_
  rintro rr w1 ⟨v1, rfl, hc, ho⟩
  have GN := Lib.hid (hc.far (Nat.le_refl w1.heap.size)).1
  have RN := Lib.hid (hc.far (Nat.le_refl w1.heap.size)).2
  have NG := Lib.hid GN.out.symm
  have ZN := Lib.hid (Nat.ne_of_lt (R0.out.only ho ZG.out).lt)
  have LN := Lib.hid (Nat.le_of_lt (R0.out.only ho ZG.out).lt)
  have C1 := Lib.hid (hc.alloc (.cells kzero.cells.toArray 27))
  have K1 := Lib.hid (blk_alloc w1 27 kzero.cells)
  have R1 := Lib.hid ((R0.out.only ho ZG.out).alloc (.cells kzero.cells.toArray 27))
  have O1 := Lib.hid ((O0.out.trans ho).alloc (.cells kzero.cells.toArray 27))
  clear hc ho
  go_wp2_with (first
    | refine wpList_val rfl (.int .u8 s) (exec_fieldC _ rfl (pByte s v1) rfl) ?_
    | refine wpList_build rfl 27 _ rfl [(0, .int .u8 s)] rfl _ (built27_1 s) ?_
    | (refine wpList_store_ky rfl _ _ rfl w1.heap.size kzero (⟨s, 0, M.zero8, 0, 0⟩ : Ky) rfl rfl K1.out rfl rfl ?_; intro w2 K2 OS; have C2 := Lib.hid (C1.out.only OS.out GN.out RN.out); have R2 := Lib.hid (R1.out.only OS.out ZN.out); have O2 := Lib.hid (O1.out.new OS.out LN.out); have eE := refE C2.out; have cS := K2.out.cell (kc0 (⟨s, 0, M.zero8, 0, 0⟩ : Ky)); clear OS)
    | refine wpList_build rfl 76 _ rfl [(1, .int .u64 65535)] rfl _ (built76_1 65535) ?_)
  refine (H2.out _ C2.out).mono ?_
  rintro rr w3 ⟨v3, rfl, hc, ho⟩
  have C3 := Lib.hid hc
  have K3 := Lib.hid (K2.out.only ho NG.out)
  have R3 := Lib.hid (R2.out.only ho ZG.out)
  have O3 := Lib.hid (O2.out.trans ho)
  clear hc ho eE cS
  go_wp2_with (first
    | refine wpList_val rfl (.int .u64 c) (exec_fieldX _ rfl (pNum c v3) rfl) ?_
    | (refine wpList_store_k22 rfl _ _ rfl w1.heap.size 1 (⟨s, 0, M.zero8, 0, 0⟩ : Ky) c rfl rfl K3.out _ (kc1 (⟨s, 0, M.zero8, 0, 0⟩ : Ky)) (⟨s, c, M.zero8, 0, 0⟩ : Ky) rfl ?_; intro w4 K4 OS; have C4 := Lib.hid (C3.out.only OS.out GN.out RN.out); have R4 := Lib.hid (R3.out.only OS.out ZN.out); have O4 := Lib.hid (O3.out.new OS.out LN.out); have eE := refE C4.out; have cS := K4.out.cell (kc0 (⟨s, c, M.zero8, 0, 0⟩ : Ky)); clear OS)
    | refine wpList_blank rfl _ rfl 2 rfl ?_)
  refine (H3.out _ C4.out).mono ?_
  rintro rr w5 ⟨v5, rfl, hc, ho⟩
  have C5 := Lib.hid hc
  have K5 := Lib.hid (K4.out.only ho NG.out)
  have R5 := Lib.hid (R4.out.only ho ZG.out)
  have O5 := Lib.hid (O4.out.trans ho)
  clear hc ho eE cS
  go_wp2_with (first
    | refine wpList_val rfl (.agg (nm m)) (exec_fieldN _ rfl (pName m v5) rfl ML.out) ?_
    | (refine wpList_store_knm rfl _ _ rfl w1.heap.size (⟨s, c, M.zero8, 0, 0⟩ : Ky) m rfl rfl K5.out rfl ML.out ?_; intro w6 K6 OS; have C6 := Lib.hid (C5.out.only OS.out GN.out RN.out); have R6 := Lib.hid (R5.out.only OS.out ZN.out); have O6 := Lib.hid (O5.out.new OS.out LN.out); have eE := refE C6.out; have cS := K6.out.cell (kc0 (⟨s, c, m, 0, 0⟩ : Ky)); clear OS)
    | (refine wanted_on rfl ?_; refine wpList_load_nm rfl _ rfl w1.heap.size 2 m rfl (Blk.knm (k := (⟨s, c, m, 0, 0⟩ : Ky)) K6.out ML.out) ML.out ?_)
    | (refine wanted_on rfl ?_; refine wpList_build rfl 24 _ rfl [] rfl _ built24z ?_)
    | (refine wanted_on rfl ?_; refine wpList_val rfl (.bool false) (MZ.out ▸ exec_eq_nm _ _ _ rfl m M.zero8 rfl rfl ML.out rfl) ?_)
    | refine wpList_blank rfl _ rfl 1 rfl ?_)
  refine (H4.out _ C6.out).mono ?_
  rintro rr w7 ⟨v7, rfl, hc, ho⟩
  have C7 := Lib.hid hc
  have K7 := Lib.hid (K6.out.only ho NG.out)
  have R7 := Lib.hid (R6.out.only ho ZG.out)
  have O7 := Lib.hid (O6.out.trans ho)
  clear hc ho eE cS
  have h1 := Z1.out
  go_wp2_with (first
    | refine wpList_val rfl (.int .u8 r) (exec_fieldC _ rfl (pByte r v7) rfl) ?_
    | (refine wpList_store_k5 rfl _ _ rfl w1.heap.size 10 (⟨s, c, m, 0, 0⟩ : Ky) r rfl rfl K7.out _ (kc10 (k := (⟨s, c, m, 0, 0⟩ : Ky)) ML.out) (⟨s, c, m, r, 0⟩ : Ky) (kset10 (⟨s, c, m, 0, 0⟩ : Ky) ML.out r) ?_; intro w8 K8 OS; have C8 := Lib.hid (C7.out.only OS.out GN.out RN.out); have R8 := Lib.hid (R7.out.only OS.out ZN.out); have O8 := Lib.hid (O7.out.new OS.out LN.out); have eE := refE C8.out; have cS := K8.out.cell (kc0 (⟨s, c, m, r, 0⟩ : Ky)); clear OS; have cR := K8.out.cell (kc10 (k := (⟨s, c, m, r, 0⟩ : Ky)) ML.out))
    | refine wpList_build rfl 76 _ rfl [(1, .int .u64 4294967295)] rfl _ (built76_1 4294967295) ?_)
  clear h1 cR
  refine (H5.out _ C8.out).mono ?_
  rintro rr w9 ⟨v9, rfl, hc, ho⟩
  have C9 := Lib.hid hc
  have K9 := Lib.hid (K8.out.only ho NG.out)
  have R9 := Lib.hid (R8.out.only ho ZG.out)
  have O9 := Lib.hid (O8.out.trans ho)
  clear hc ho eE cS
  go_wp2_with (first
    | refine wpList_val rfl (.int .u64 q) (exec_fieldX _ rfl (pNum q v9) rfl) ?_
    | (refine wpList_store_k25 rfl _ _ rfl w1.heap.size 11 (⟨s, c, m, r, 0⟩ : Ky) q rfl rfl K9.out _ (kc11 (k := (⟨s, c, m, r, 0⟩ : Ky)) ML.out) (⟨s, c, m, r, q⟩ : Ky) (kset11 (⟨s, c, m, r, 0⟩ : Ky) ML.out q) ?_; intro w10 K10 OS; have C10 := Lib.hid (C9.out.only OS.out GN.out RN.out); have R10 := Lib.hid (R9.out.only OS.out ZN.out); have O10 := Lib.hid (O9.out.new OS.out LN.out); have eE := refE C10.out; have cS := K10.out.cell (kc0 (⟨s, c, m, r, q⟩ : Ky)); clear OS; have cQ := K10.out.cell (kc11 (k := (⟨s, c, m, r, q⟩ : Ky)) ML.out); have q0 := Q0.out))
  refine (refFail_is g R 3 _ _ C10.out).mono ?_
  rintro rr w11 ⟨rfl, hc, ho⟩
  have C11 := Lib.hid hc
  have R11 := Lib.hid (R10.out.only ho ZG.out)
  have O11 := Lib.hid (O10.out.trans ho)
  clear hc ho
  go_wp2_with (refine wpList_store_ky rfl _ _ rfl w.heap.size kzero kzero rfl rfl R11.out rfl rfl ?_; intro wz KZ OZ)
  refine bodyPost_ret (results_ky rfl _ _ w.heap.size kzero rfl KZ.out rfl) rfl ?_
  exact ⟨rfl, C11.out.only OZ.out GZ.out RZ.out, O11.out.new OZ.out (Nat.le_refl _)⟩
set_option maxRecDepth 100000 in
set_option maxHeartbeats 1000000 in
theorem in1o (g : Nat) (R : Option Nat) (l l1 : List Int) (s : Int) (l2 : List Int) (c : Int) (e2 : Int) (l3 m : List Int) (l4 : List Int) (r : Int) (l5 : List Int) (q : Int) (w : World) (h : RefAt w g R 0 l) (H1 : Hid (RdP g R (blank 1) 0 l (pByte s) 0 l1)) (a1 : ¬ s < 1) (a2 : ¬ 4 < s) (H2 : Hid (RdP g R (pNum 65535 (.slice none 0 0)) 0 l1 (pNum c) e2 l2)) (cw : IntKind.u16.wrap c = c) (h4 : ¬ s = 4) (H3 : Hid (RdP g R (blank 2) e2 l2 (pName m) 0 l3)) (ML : Hid (m.length = 8)) (MZ : Hid ((m == M.zero8) = false)) (H4 : Hid (RdP g R (blank 1) 0 l3 (pByte r) 0 l4)) (r16 : ¬ 16 ≤ r) (Z1 : Hid (s = 1)) (H5 : Hid (RdP g R (pNum 4294967295 (.slice none 0 0)) 0 l4 (pNum q) 0 l5)) (qw : IntKind.u32.wrap q = q) (q0 : ¬ q = 0) :
    Calls Try.prog 23 #[.pointer (some ⟨g, 0, none⟩)] w (Ins w g R (⟨s, c, m, r, q⟩ : Ky) 0 l5) := by
  have hz := zero27
  have GZ := Lib.hid (h.far (Nat.le_refl w.heap.size)).1
  have RZ := Lib.hid (h.far (Nat.le_refl w.heap.size)).2
  have ZG := Lib.hid GZ.out.symm
  have R0 := Lib.hid (blk_alloc w 27 kzero.cells)
  have C0 := Lib.hid (h.alloc (.cells kzero.cells.toArray 27))
  have O0 := Lib.hid ((Only.refl g w).alloc (.cells kzero.cells.toArray 27))
  clear h
  go_enter Try.func23, Try.ntmps23
  go_wp2_with (refine wpList_blank rfl _ rfl 1 rfl ?_)
  refine (H1.out _ C0.out).mono ?_
  rintro rr w1 ⟨v1, rfl, hc, ho⟩
  have GN := Lib.hid (hc.far (Nat.le_refl w1.heap.size)).1
  have RN := Lib.hid (hc.far (Nat.le_refl w1.heap.size)).2
  have NG := Lib.hid GN.out.symm
  have ZN := Lib.hid (Nat.ne_of_lt (R0.out.only ho ZG.out).lt)
  have LN := Lib.hid (Nat.le_of_lt (R0.out.only ho ZG.out).lt)
  have C1 := Lib.hid (hc.alloc (.cells kzero.cells.toArray 27))
  have K1 := Lib.hid (blk_alloc w1 27 kzero.cells)
  have R1 := Lib.hid ((R0.out.only ho ZG.out).alloc (.cells kzero.cells.toArray 27))
  have O1 := Lib.hid ((O0.out.trans ho).alloc (.cells kzero.cells.toArray 27))
  clear hc ho
  go_wp2_with (first
    | refine wpList_val rfl (.int .u8 s) (exec_fieldC _ rfl (pByte s v1) rfl) ?_
    | refine wpList_build rfl 27 _ rfl [(0, .int .u8 s)] rfl _ (built27_1 s) ?_
    | (refine wpList_store_ky rfl _ _ rfl w1.heap.size kzero (⟨s, 0, M.zero8, 0, 0⟩ : Ky) rfl rfl K1.out rfl rfl ?_; intro w2 K2 OS; have C2 := Lib.hid (C1.out.only OS.out GN.out RN.out); have R2 := Lib.hid (R1.out.only OS.out ZN.out); have O2 := Lib.hid (O1.out.new OS.out LN.out); have eE := refE C2.out; have cS := K2.out.cell (kc0 (⟨s, 0, M.zero8, 0, 0⟩ : Ky)); clear OS)
    | refine wpList_build rfl 76 _ rfl [(1, .int .u64 65535)] rfl _ (built76_1 65535) ?_)
  refine (H2.out _ C2.out).mono ?_
  rintro rr w3 ⟨v3, rfl, hc, ho⟩
  have C3 := Lib.hid hc
  have K3 := Lib.hid (K2.out.only ho NG.out)
  have R3 := Lib.hid (R2.out.only ho ZG.out)
  have O3 := Lib.hid (O2.out.trans ho)
  clear hc ho eE cS
  go_wp2_with (first
    | refine wpList_val rfl (.int .u64 c) (exec_fieldX _ rfl (pNum c v3) rfl) ?_
    | (refine wpList_store_k22 rfl _ _ rfl w1.heap.size 1 (⟨s, 0, M.zero8, 0, 0⟩ : Ky) c rfl rfl K3.out _ (kc1 (⟨s, 0, M.zero8, 0, 0⟩ : Ky)) (⟨s, c, M.zero8, 0, 0⟩ : Ky) rfl ?_; intro w4 K4 OS; have C4 := Lib.hid (C3.out.only OS.out GN.out RN.out); have R4 := Lib.hid (R3.out.only OS.out ZN.out); have O4 := Lib.hid (O3.out.new OS.out LN.out); have eE := refE C4.out; have cS := K4.out.cell (kc0 (⟨s, c, M.zero8, 0, 0⟩ : Ky)); clear OS)
    | refine wpList_blank rfl _ rfl 2 rfl ?_)
  refine (H3.out _ C4.out).mono ?_
  rintro rr w5 ⟨v5, rfl, hc, ho⟩
  have C5 := Lib.hid hc
  have K5 := Lib.hid (K4.out.only ho NG.out)
  have R5 := Lib.hid (R4.out.only ho ZG.out)
  have O5 := Lib.hid (O4.out.trans ho)
  clear hc ho eE cS
  go_wp2_with (first
    | refine wpList_val rfl (.agg (nm m)) (exec_fieldN _ rfl (pName m v5) rfl ML.out) ?_
    | (refine wpList_store_knm rfl _ _ rfl w1.heap.size (⟨s, c, M.zero8, 0, 0⟩ : Ky) m rfl rfl K5.out rfl ML.out ?_; intro w6 K6 OS; have C6 := Lib.hid (C5.out.only OS.out GN.out RN.out); have R6 := Lib.hid (R5.out.only OS.out ZN.out); have O6 := Lib.hid (O5.out.new OS.out LN.out); have eE := refE C6.out; have cS := K6.out.cell (kc0 (⟨s, c, m, 0, 0⟩ : Ky)); clear OS)
    | (refine wanted_on rfl ?_; refine wpList_load_nm rfl _ rfl w1.heap.size 2 m rfl (Blk.knm (k := (⟨s, c, m, 0, 0⟩ : Ky)) K6.out ML.out) ML.out ?_)
    | (refine wanted_on rfl ?_; refine wpList_build rfl 24 _ rfl [] rfl _ built24z ?_)
    | (refine wanted_on rfl ?_; refine wpList_val rfl (.bool false) (MZ.out ▸ exec_eq_nm _ _ _ rfl m M.zero8 rfl rfl ML.out rfl) ?_)
    | refine wpList_blank rfl _ rfl 1 rfl ?_)
  refine (H4.out _ C6.out).mono ?_
  rintro rr w7 ⟨v7, rfl, hc, ho⟩
  have C7 := Lib.hid hc
  have K7 := Lib.hid (K6.out.only ho NG.out)
  have R7 := Lib.hid (R6.out.only ho ZG.out)
  have O7 := Lib.hid (O6.out.trans ho)
  clear hc ho eE cS
  have h1 := Z1.out
  go_wp2_with (first
    | refine wpList_val rfl (.int .u8 r) (exec_fieldC _ rfl (pByte r v7) rfl) ?_
    | (refine wpList_store_k5 rfl _ _ rfl w1.heap.size 10 (⟨s, c, m, 0, 0⟩ : Ky) r rfl rfl K7.out _ (kc10 (k := (⟨s, c, m, 0, 0⟩ : Ky)) ML.out) (⟨s, c, m, r, 0⟩ : Ky) (kset10 (⟨s, c, m, 0, 0⟩ : Ky) ML.out r) ?_; intro w8 K8 OS; have C8 := Lib.hid (C7.out.only OS.out GN.out RN.out); have R8 := Lib.hid (R7.out.only OS.out ZN.out); have O8 := Lib.hid (O7.out.new OS.out LN.out); have eE := refE C8.out; have cS := K8.out.cell (kc0 (⟨s, c, m, r, 0⟩ : Ky)); clear OS; have cR := K8.out.cell (kc10 (k := (⟨s, c, m, r, 0⟩ : Ky)) ML.out))
    | refine wpList_build rfl 76 _ rfl [(1, .int .u64 4294967295)] rfl _ (built76_1 4294967295) ?_)
  clear h1 cR
  refine (H5.out _ C8.out).mono ?_
  rintro rr w9 ⟨v9, rfl, hc, ho⟩
  have C9 := Lib.hid hc
  have K9 := Lib.hid (K8.out.only ho NG.out)
  have R9 := Lib.hid (R8.out.only ho ZG.out)
  have O9 := Lib.hid (O8.out.trans ho)
  clear hc ho eE cS
  go_wp2_with (first
    | refine wpList_val rfl (.int .u64 q) (exec_fieldX _ rfl (pNum q v9) rfl) ?_
    | (refine wpList_store_k25 rfl _ _ rfl w1.heap.size 11 (⟨s, c, m, r, 0⟩ : Ky) q rfl rfl K9.out _ (kc11 (k := (⟨s, c, m, r, 0⟩ : Ky)) ML.out) (⟨s, c, m, r, q⟩ : Ky) (kset11 (⟨s, c, m, r, 0⟩ : Ky) ML.out q) ?_; intro w10 K10 OS; have C10 := Lib.hid (C9.out.only OS.out GN.out RN.out); have R10 := Lib.hid (R9.out.only OS.out ZN.out); have O10 := Lib.hid (O9.out.new OS.out LN.out); have eE := refE C10.out; have cS := K10.out.cell (kc0 (⟨s, c, m, r, q⟩ : Ky)); clear OS; have cQ := K10.out.cell (kc11 (k := (⟨s, c, m, r, q⟩ : Ky)) ML.out))
    | refine wpList_load_ky rfl _ rfl w1.heap.size 0 (⟨s, c, m, r, q⟩ : Ky) rfl K10.out.range ML.out ?_
    | (refine wpList_store_ky rfl _ _ rfl w.heap.size kzero (⟨s, c, m, r, q⟩ : Ky) rfl rfl R10.out rfl ML.out ?_; intro wz KZ OZ))
  refine bodyPost_ret (results_ky rfl _ _ w.heap.size (⟨s, c, m, r, q⟩ : Ky) rfl KZ.out ML.out) rfl ?_
  exact ⟨rfl, C10.out.only OZ.out GZ.out RZ.out, O10.out.new OZ.out (Nat.le_refl _)⟩
end Go.Proofs.Ytkjiehifnkkelaa
