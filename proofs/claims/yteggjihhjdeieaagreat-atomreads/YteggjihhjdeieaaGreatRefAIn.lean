/- The contracts of fail and In of the reference, path by path. -/
import Derived.Test.YteggjihhjdeieaaGreatRefIn
import Derived.Test.YteggjihhjdeieaaGreatABytes
namespace Go.Proofs.YteggjihhjdeieaaGreat
open Go.RowKit

/-- What In comes to. -/
def InsA (w : World) (g : Nat) (R : Option Nat) (a : Am) (e : Int) (l : List Int) (r : Ending) (w' : World) : Prop := r = .returned (.agg a.cells.toArray) ∧ RefAt w' g R e l ∧ Only g w w'
theorem aset12 {A : Am} (h : A.Ok) (x : Int) : A.cells.set 12 (.int .u64 x) = (⟨A.k, ⟨x, A.v.t⟩⟩ : Am).cells := by
  unfold Am.cells
  rw [List.set_append_right _ _ (by rw [kcells_len h.k.ml]; omega), kcells_len h.k.ml]
  rfl
theorem setL_avt {A : Am} (h : A.Ok) (m : List Int) (hm : m.length = 8) : setL A.cells 13 (m.map (Value.int .u8)) = (⟨A.k, ⟨A.v.n, m⟩⟩ : Am).cells := by
  apply List.ext_getElem?
  intro i
  have hl := acells_len h
  have hk := kcells_len h.k.ml
  rw [setL_get _ _ 13 i (by rw [List.length_map]; omega), List.length_map, hm]
  unfold Am.cells
  by_cases h1 : 13 ≤ i ∧ i < 13 + 8
  · rw [if_pos h1, List.getElem?_append_right (by show A.k.cells.length ≤ i; omega), hk]
    obtain ⟨j, rfl⟩ : ∃ j, i = j + 13 := ⟨i - 13, by omega⟩
    rw [show j + 13 - 13 = j by omega, show j + 13 - 12 = j + 1 by omega]
    rfl
  · rw [if_neg h1]
    by_cases h2 : i < 12
    · rw [List.getElem?_append_left (by omega), List.getElem?_append_left (by show i < A.k.cells.length; omega)]
    · rw [List.getElem?_append_right (by omega), List.getElem?_append_right (by show A.k.cells.length ≤ i; omega), hk]
      by_cases h3 : i = 12
      · subst h3; rfl
      · rw [List.getElem?_eq_none (by rw [vcells_len h.v.tl]; omega), List.getElem?_eq_none (by rw [vcells_len (v := ⟨A.v.n, m⟩) hm]; omega)]
/-- A number is stored into an atom. -/
theorem wpList_store_an {ops : Array Oper} {rest : List Oper} {o : Oper} {a : Act} {w : World} {Q : Exit → Act → World → Prop} (hgd : o.guard = none) (x y : Operand) (ho : o.op = .store 28 x y) (g : Nat) (A : Am) (v : Int)
    (hx : a.eval x = .pointer (some ⟨g, 12, none⟩)) (hy : a.eval y = .int .u64 v) (hb : Blk w g 32 A.cells) (hA : A.Ok)
    (h : ∀ w', Hid (Blk w' g 32 (⟨A.k, ⟨v, A.v.t⟩⟩ : Am).cells) → Hid (Only g w w') → wpList Tryz.prog ops Q rest (a.put o.dst undef) w') : wpList Tryz.prog ops Q (o :: rest) a w :=
  wpList_plain hgd fun _ hK => by
    have c := hb.cell (ac12 hA)
    have f := hb.frozen 12
    have H := Lib.hid (h _ (Lib.hid (aset12 hA v ▸ hb.set 12 (.int .u64 v))) (Lib.hid (Only.set g 12 w (.int .u64 v))))
    clear h hb hA
    unfold Oper.wp execOp
    simp only [ho, hx, hy]
    go_simp
    exact hK _ _ H.out
/-- A text is stored into an atom. -/
theorem wpList_store_avt {ops : Array Oper} {rest : List Oper} {op : Oper} {a : Act} {w : World} {Q : Exit → Act → World → Prop} (hgd : op.guard = none) (x y : Operand) (ho : op.op = .store 24 x y) (g : Nat) (A : Am) (m : List Int)
    (hx : a.eval x = .pointer (some ⟨g, 13, none⟩)) (hy : a.eval y = .agg (nm m)) (hb : Blk w g 32 A.cells) (hA : A.Ok) (hm : m.length = 8)
    (h : ∀ w', Hid (Blk w' g 32 (⟨A.k, ⟨A.v.n, m⟩⟩ : Am).cells) → Hid (Only g w w') → wpList Tryz.prog ops Q rest (a.put op.dst undef) w') : wpList Tryz.prog ops Q (op :: rest) a w := by
  refine wpList_store_mid hgd 24 x y ho g 13 (nm m) hx hy (hb.there 13 _ (by rw [nm_size, acells_len hA]; omega)) (by rw [nm_size, hm]; exact size23) (nm_one m) ?_
  have hB := Blk.setCells (m.map (Value.int .u8)) 13 w A.cells hb
  rw [setL_avt hA m hm] at hB
  exact h _ (Lib.hid hB) (Lib.hid (Only.setCells _ 13 w))
set_option maxRecDepth 100000 in
theorem refAfail_is (g : Nat) (R : Option Nat) (x : Int) (l : List Int) (w : World) (h : RefAt w g R 0 l) :
    Calls Tryz.prog 30 #[.pointer (some ⟨g, 0, none⟩), .int .i64 x] w (InsA w g R azero x []) := by
  have hz := zero32
  have GZ := Lib.hid (h.far (Nat.le_refl w.heap.size)).1
  have RZ := Lib.hid (h.far (Nat.le_refl w.heap.size)).2
  have ZG := Lib.hid GZ.out.symm
  have C0 := Lib.hid (h.alloc (.cells azero.cells.toArray 32))
  have R0 := Lib.hid (blk_alloc w 32 azero.cells)
  have O0 := Lib.hid ((Only.refl g w).alloc (.cells azero.cells.toArray 32))
  clear h
  go_enter Tryz.func30, Tryz.ntmps30
  go_wp2_with fail
  refine (refFail_is g R x l _ C0.out).mono ?_
  rintro rr w1 ⟨rfl, hc, ho⟩
  have C1 := Lib.hid hc
  have R1 := Lib.hid (R0.out.only ho ZG.out)
  have O1 := Lib.hid (O0.out.trans ho)
  clear hc ho
  go_wp2_with (first
    | refine wpList_build rfl 32 _ rfl [] rfl _ built32_0 ?_
    | (refine wpList_store_am rfl _ _ rfl w.heap.size azero azero rfl rfl R1.out azero_ok azero_ok ?_; intro wz KZ OZ))
  refine bodyPost_ret (results_am rfl _ _ w.heap.size azero rfl KZ.out azero_ok) rfl ?_
  exact ⟨rfl, C1.out.only OZ.out GZ.out RZ.out, O1.out.new OZ.out (Nat.le_refl _)⟩
set_option maxRecDepth 100000 in
set_option maxHeartbeats 1000000 in
theorem ia_key (g : Nat) (R : Option Nat) (l l1 : List Int) (e1 : Int) (w : World) (h : RefAt w g R 0 l) (HK : Hid (∀ W, RefAt W g R 0 l → Calls Tryz.prog 28 #[.pointer (some ⟨g, 0, none⟩)] W (Ins W g R kzero e1 l1))) (z1 : ¬ e1 = 0) :
    Calls Tryz.prog 13 #[.pointer (some ⟨g, 0, none⟩)] w (InsA w g R azero e1 l1) := by
  have hz := zero32
  have AO := Lib.hid (show (⟨kzero, vzero⟩ : Am).Ok from ⟨kzero_ok, vzero_ok⟩)
  have GZ := Lib.hid (h.far (Nat.le_refl w.heap.size)).1
  have RZ := Lib.hid (h.far (Nat.le_refl w.heap.size)).2
  have ZG := Lib.hid GZ.out.symm
  have R0 := Lib.hid (blk_alloc w 32 azero.cells)
  have C0 := Lib.hid (h.alloc (.cells azero.cells.toArray 32))
  have O0 := Lib.hid ((Only.refl g w).alloc (.cells azero.cells.toArray 32))
  clear h
  go_enter Tryz.func13, Tryz.ntmps13
  go_wp2_with fail
  refine (HK.out _ C0.out).mono ?_
  rintro rr w1 ⟨rfl, hc, ho⟩
  have GN := Lib.hid (hc.far (Nat.le_refl w1.heap.size)).1
  have RN := Lib.hid (hc.far (Nat.le_refl w1.heap.size)).2
  have ZN := Lib.hid (Nat.ne_of_lt (R0.out.only ho ZG.out).lt)
  have LN := Lib.hid (Nat.le_of_lt (R0.out.only ho ZG.out).lt)
  have C1 := Lib.hid (hc.alloc (.cells azero.cells.toArray 32))
  have K1 := Lib.hid (blk_alloc w1 32 azero.cells)
  have R1 := Lib.hid ((R0.out.only ho ZG.out).alloc (.cells azero.cells.toArray 32))
  have O1 := Lib.hid ((O0.out.trans ho).alloc (.cells azero.cells.toArray 32))
  clear hc ho
  go_wp2_with (first
    | go_skip
    | refine wpList_build rfl 32 _ rfl [(0, .agg kzero.cells.toArray)] rfl _ (built32_1 kzero rfl) ?_
    | (refine wpList_store_am rfl _ _ rfl w1.heap.size azero (⟨kzero, vzero⟩ : Am) rfl rfl K1.out azero_ok AO.out ?_; intro w2 K2 OS; have C2 := Lib.hid (C1.out.only OS.out GN.out RN.out); have R2 := Lib.hid (R1.out.only OS.out ZN.out); have O2 := Lib.hid (O1.out.new OS.out LN.out); have eE := refE C2.out; have s2 := K2.out.cell (ac0 (⟨kzero, vzero⟩ : Am)); clear OS)
    | refine wpList_build rfl 32 _ rfl [] rfl _ built32_0 ?_
    | (refine wpList_store_am rfl _ _ rfl w.heap.size azero azero rfl rfl R2.out azero_ok azero_ok ?_; intro wz KZ OZ))
  refine bodyPost_ret (results_am rfl _ _ w.heap.size azero rfl KZ.out azero_ok) rfl ?_
  exact ⟨rfl, C2.out.only OZ.out GZ.out RZ.out, O2.out.new OZ.out (Nat.le_refl _)⟩
set_option maxRecDepth 100000 in
set_option maxHeartbeats 1000000 in
theorem ia_1a (g : Nat) (R : Option Nat) (l l1 : List Int) (l2 : List Int) (k : Ky) (c : Int) (w : World) (h : RefAt w g R 0 l) (HK : Hid (∀ W, RefAt W g R 0 l → Calls Tryz.prog 28 #[.pointer (some ⟨g, 0, none⟩)] W (Ins W g R k 0 l1))) (KO : Hid k.Ok) (HS : Hid (k.s = 1)) (H1 : Hid (RdP g R (blank 1) 0 l1 (pByte c) 0 l2)) (VO : Hid (⟨c, M.zero8⟩ : Vl).Ok) (cw : IntKind.u64.wrap c = c) (t1 : (c != 1) = false) :
    Calls Tryz.prog 13 #[.pointer (some ⟨g, 0, none⟩)] w (InsA w g R (⟨k, ⟨c, M.zero8⟩⟩ : Am) 0 l2) := by
  have hz := zero32
  have AO := Lib.hid (show (⟨k, vzero⟩ : Am).Ok from ⟨KO.out, vzero_ok⟩)
  have GZ := Lib.hid (h.far (Nat.le_refl w.heap.size)).1
  have RZ := Lib.hid (h.far (Nat.le_refl w.heap.size)).2
  have ZG := Lib.hid GZ.out.symm
  have R0 := Lib.hid (blk_alloc w 32 azero.cells)
  have C0 := Lib.hid (h.alloc (.cells azero.cells.toArray 32))
  have O0 := Lib.hid ((Only.refl g w).alloc (.cells azero.cells.toArray 32))
  clear h
  go_enter Tryz.func13, Tryz.ntmps13
  go_wp2_with fail
  refine (HK.out _ C0.out).mono ?_
  rintro rr w1 ⟨rfl, hc, ho⟩
  have GN := Lib.hid (hc.far (Nat.le_refl w1.heap.size)).1
  have RN := Lib.hid (hc.far (Nat.le_refl w1.heap.size)).2
  have NG := Lib.hid GN.out.symm
  have ZN := Lib.hid (Nat.ne_of_lt (R0.out.only ho ZG.out).lt)
  have LN := Lib.hid (Nat.le_of_lt (R0.out.only ho ZG.out).lt)
  have C1 := Lib.hid (hc.alloc (.cells azero.cells.toArray 32))
  have K1 := Lib.hid (blk_alloc w1 32 azero.cells)
  have R1 := Lib.hid ((R0.out.only ho ZG.out).alloc (.cells azero.cells.toArray 32))
  have O1 := Lib.hid ((O0.out.trans ho).alloc (.cells azero.cells.toArray 32))
  clear hc ho
  go_wp2_with (first
    | go_skip
    | refine wpList_build rfl 32 _ rfl [(0, .agg k.cells.toArray)] rfl _ (built32_1 k KO.out.ml) ?_
    | (refine wpList_store_am rfl _ _ rfl w1.heap.size azero (⟨k, vzero⟩ : Am) rfl rfl K1.out azero_ok AO.out ?_; intro w2 K2 OS; have C2 := Lib.hid (C1.out.only OS.out GN.out RN.out); have R2 := Lib.hid (R1.out.only OS.out ZN.out); have O2 := Lib.hid (O1.out.new OS.out LN.out); have s2 := K2.out.cell (ac0 (⟨k, vzero⟩ : Am)); rw [show (⟨k, vzero⟩ : Am).k.s = 1 from HS.out] at s2; clear OS)
    | refine wpList_blank rfl _ rfl 1 rfl ?_)
  refine (H1.out _ C2.out).mono ?_
  rintro rr w3 ⟨v3, rfl, hc, ho⟩
  have C3 := Lib.hid hc
  have K3 := Lib.hid (K2.out.only ho NG.out)
  have R3 := Lib.hid (R2.out.only ho ZG.out)
  have O3 := Lib.hid (O2.out.trans ho)
  clear hc ho
  have AV := Lib.hid (show (⟨k, ⟨c, M.zero8⟩⟩ : Am).Ok from ⟨KO.out, VO.out⟩)
  clear s2
  go_wp2_with (first
    | go_skip
    | refine wpList_val rfl (.int .u8 c) (exec_fieldC _ rfl (pByte c v3) rfl) ?_
    | (refine wpList_store_an rfl _ _ rfl w1.heap.size (⟨k, vzero⟩ : Am) c rfl rfl K3.out AO.out ?_; intro w4 K4 OS; have C4 := Lib.hid (C3.out.only OS.out GN.out RN.out); have R4 := Lib.hid (R3.out.only OS.out ZN.out); have O4 := Lib.hid (O3.out.new OS.out LN.out); have eE := refE C4.out; have cN := K4.out.cell (ac12 AV.out); clear OS)
    | refine wpList_load_am rfl _ rfl w1.heap.size (⟨k, ⟨c, M.zero8⟩⟩ : Am) rfl K4.out AV.out ?_
    | (refine wpList_store_am rfl _ _ rfl w.heap.size azero (⟨k, ⟨c, M.zero8⟩⟩ : Am) rfl rfl R4.out azero_ok AV.out ?_; intro wz KZ OZ))
  refine bodyPost_ret (results_am rfl _ _ w.heap.size (⟨k, ⟨c, M.zero8⟩⟩ : Am) rfl KZ.out AV.out) rfl ?_
  exact ⟨rfl, C4.out.only OZ.out GZ.out RZ.out, O4.out.new OZ.out (Nat.le_refl _)⟩
set_option maxRecDepth 100000 in
set_option maxHeartbeats 1000000 in
theorem ia_1b (g : Nat) (R : Option Nat) (l l1 : List Int) (l2 : List Int) (k : Ky) (c : Int) (w : World) (h : RefAt w g R 0 l) (HK : Hid (∀ W, RefAt W g R 0 l → Calls Tryz.prog 28 #[.pointer (some ⟨g, 0, none⟩)] W (Ins W g R k 0 l1))) (KO : Hid k.Ok) (HS : Hid (k.s = 1)) (H1 : Hid (RdP g R (blank 1) 0 l1 (pByte c) 0 l2)) (VO : Hid (⟨c, M.zero8⟩ : Vl).Ok) (cw : IntKind.u64.wrap c = c) (t1 : (c != 1) = true) (t2 : (c != 2) = false) :
    Calls Tryz.prog 13 #[.pointer (some ⟨g, 0, none⟩)] w (InsA w g R (⟨k, ⟨c, M.zero8⟩⟩ : Am) 0 l2) := by
  have hz := zero32
  have AO := Lib.hid (show (⟨k, vzero⟩ : Am).Ok from ⟨KO.out, vzero_ok⟩)
  have GZ := Lib.hid (h.far (Nat.le_refl w.heap.size)).1
  have RZ := Lib.hid (h.far (Nat.le_refl w.heap.size)).2
  have ZG := Lib.hid GZ.out.symm
  have R0 := Lib.hid (blk_alloc w 32 azero.cells)
  have C0 := Lib.hid (h.alloc (.cells azero.cells.toArray 32))
  have O0 := Lib.hid ((Only.refl g w).alloc (.cells azero.cells.toArray 32))
  clear h
  go_enter Tryz.func13, Tryz.ntmps13
  go_wp2_with fail
  refine (HK.out _ C0.out).mono ?_
  rintro rr w1 ⟨rfl, hc, ho⟩
  have GN := Lib.hid (hc.far (Nat.le_refl w1.heap.size)).1
  have RN := Lib.hid (hc.far (Nat.le_refl w1.heap.size)).2
  have NG := Lib.hid GN.out.symm
  have ZN := Lib.hid (Nat.ne_of_lt (R0.out.only ho ZG.out).lt)
  have LN := Lib.hid (Nat.le_of_lt (R0.out.only ho ZG.out).lt)
  have C1 := Lib.hid (hc.alloc (.cells azero.cells.toArray 32))
  have K1 := Lib.hid (blk_alloc w1 32 azero.cells)
  have R1 := Lib.hid ((R0.out.only ho ZG.out).alloc (.cells azero.cells.toArray 32))
  have O1 := Lib.hid ((O0.out.trans ho).alloc (.cells azero.cells.toArray 32))
  clear hc ho
  go_wp2_with (first
    | go_skip
    | refine wpList_build rfl 32 _ rfl [(0, .agg k.cells.toArray)] rfl _ (built32_1 k KO.out.ml) ?_
    | (refine wpList_store_am rfl _ _ rfl w1.heap.size azero (⟨k, vzero⟩ : Am) rfl rfl K1.out azero_ok AO.out ?_; intro w2 K2 OS; have C2 := Lib.hid (C1.out.only OS.out GN.out RN.out); have R2 := Lib.hid (R1.out.only OS.out ZN.out); have O2 := Lib.hid (O1.out.new OS.out LN.out); have s2 := K2.out.cell (ac0 (⟨k, vzero⟩ : Am)); rw [show (⟨k, vzero⟩ : Am).k.s = 1 from HS.out] at s2; clear OS)
    | refine wpList_blank rfl _ rfl 1 rfl ?_)
  refine (H1.out _ C2.out).mono ?_
  rintro rr w3 ⟨v3, rfl, hc, ho⟩
  have C3 := Lib.hid hc
  have K3 := Lib.hid (K2.out.only ho NG.out)
  have R3 := Lib.hid (R2.out.only ho ZG.out)
  have O3 := Lib.hid (O2.out.trans ho)
  clear hc ho
  have AV := Lib.hid (show (⟨k, ⟨c, M.zero8⟩⟩ : Am).Ok from ⟨KO.out, VO.out⟩)
  clear s2
  go_wp2_with (first
    | go_skip
    | refine wpList_val rfl (.int .u8 c) (exec_fieldC _ rfl (pByte c v3) rfl) ?_
    | (refine wpList_store_an rfl _ _ rfl w1.heap.size (⟨k, vzero⟩ : Am) c rfl rfl K3.out AO.out ?_; intro w4 K4 OS; have C4 := Lib.hid (C3.out.only OS.out GN.out RN.out); have R4 := Lib.hid (R3.out.only OS.out ZN.out); have O4 := Lib.hid (O3.out.new OS.out LN.out); have eE := refE C4.out; have cN := K4.out.cell (ac12 AV.out); clear OS)
    | refine wpList_load_am rfl _ rfl w1.heap.size (⟨k, ⟨c, M.zero8⟩⟩ : Am) rfl K4.out AV.out ?_
    | (refine wpList_store_am rfl _ _ rfl w.heap.size azero (⟨k, ⟨c, M.zero8⟩⟩ : Am) rfl rfl R4.out azero_ok AV.out ?_; intro wz KZ OZ))
  refine bodyPost_ret (results_am rfl _ _ w.heap.size (⟨k, ⟨c, M.zero8⟩⟩ : Am) rfl KZ.out AV.out) rfl ?_
  exact ⟨rfl, C4.out.only OZ.out GZ.out RZ.out, O4.out.new OZ.out (Nat.le_refl _)⟩
set_option maxRecDepth 100000 in
set_option maxHeartbeats 1000000 in
theorem ia_1f (g : Nat) (R : Option Nat) (l l1 : List Int) (l2 : List Int) (k : Ky) (c : Int) (w : World) (h : RefAt w g R 0 l) (HK : Hid (∀ W, RefAt W g R 0 l → Calls Tryz.prog 28 #[.pointer (some ⟨g, 0, none⟩)] W (Ins W g R k 0 l1))) (KO : Hid k.Ok) (HS : Hid (k.s = 1)) (H1 : Hid (RdP g R (blank 1) 0 l1 (pByte c) 0 l2)) (VO : Hid (⟨c, M.zero8⟩ : Vl).Ok) (cw : IntKind.u64.wrap c = c) (t1 : (c != 1) = true) (t2 : (c != 2) = true) :
    Calls Tryz.prog 13 #[.pointer (some ⟨g, 0, none⟩)] w (InsA w g R azero 3 []) := by
  have hz := zero32
  have AO := Lib.hid (show (⟨k, vzero⟩ : Am).Ok from ⟨KO.out, vzero_ok⟩)
  have GZ := Lib.hid (h.far (Nat.le_refl w.heap.size)).1
  have RZ := Lib.hid (h.far (Nat.le_refl w.heap.size)).2
  have ZG := Lib.hid GZ.out.symm
  have R0 := Lib.hid (blk_alloc w 32 azero.cells)
  have C0 := Lib.hid (h.alloc (.cells azero.cells.toArray 32))
  have O0 := Lib.hid ((Only.refl g w).alloc (.cells azero.cells.toArray 32))
  clear h
  go_enter Tryz.func13, Tryz.ntmps13
  go_wp2_with fail
  refine (HK.out _ C0.out).mono ?_
  rintro rr w1 ⟨rfl, hc, ho⟩
  have GN := Lib.hid (hc.far (Nat.le_refl w1.heap.size)).1
  have RN := Lib.hid (hc.far (Nat.le_refl w1.heap.size)).2
  have NG := Lib.hid GN.out.symm
  have ZN := Lib.hid (Nat.ne_of_lt (R0.out.only ho ZG.out).lt)
  have LN := Lib.hid (Nat.le_of_lt (R0.out.only ho ZG.out).lt)
  have C1 := Lib.hid (hc.alloc (.cells azero.cells.toArray 32))
  have K1 := Lib.hid (blk_alloc w1 32 azero.cells)
  have R1 := Lib.hid ((R0.out.only ho ZG.out).alloc (.cells azero.cells.toArray 32))
  have O1 := Lib.hid ((O0.out.trans ho).alloc (.cells azero.cells.toArray 32))
  clear hc ho
  go_wp2_with (first
    | go_skip
    | refine wpList_build rfl 32 _ rfl [(0, .agg k.cells.toArray)] rfl _ (built32_1 k KO.out.ml) ?_
    | (refine wpList_store_am rfl _ _ rfl w1.heap.size azero (⟨k, vzero⟩ : Am) rfl rfl K1.out azero_ok AO.out ?_; intro w2 K2 OS; have C2 := Lib.hid (C1.out.only OS.out GN.out RN.out); have R2 := Lib.hid (R1.out.only OS.out ZN.out); have O2 := Lib.hid (O1.out.new OS.out LN.out); have s2 := K2.out.cell (ac0 (⟨k, vzero⟩ : Am)); rw [show (⟨k, vzero⟩ : Am).k.s = 1 from HS.out] at s2; clear OS)
    | refine wpList_blank rfl _ rfl 1 rfl ?_)
  refine (H1.out _ C2.out).mono ?_
  rintro rr w3 ⟨v3, rfl, hc, ho⟩
  have C3 := Lib.hid hc
  have K3 := Lib.hid (K2.out.only ho NG.out)
  have R3 := Lib.hid (R2.out.only ho ZG.out)
  have O3 := Lib.hid (O2.out.trans ho)
  clear hc ho
  have AV := Lib.hid (show (⟨k, ⟨c, M.zero8⟩⟩ : Am).Ok from ⟨KO.out, VO.out⟩)
  clear s2
  go_wp2_with (first
    | go_skip
    | refine wpList_val rfl (.int .u8 c) (exec_fieldC _ rfl (pByte c v3) rfl) ?_
    | (refine wpList_store_an rfl _ _ rfl w1.heap.size (⟨k, vzero⟩ : Am) c rfl rfl K3.out AO.out ?_; intro w4 K4 OS; have C4 := Lib.hid (C3.out.only OS.out GN.out RN.out); have R4 := Lib.hid (R3.out.only OS.out ZN.out); have O4 := Lib.hid (O3.out.new OS.out LN.out); have eE := refE C4.out; have cN := K4.out.cell (ac12 AV.out); clear OS))
  refine (refAfail_is g R 3 l2 _ C4.out).mono ?_
  rintro rr w9 ⟨rfl, hc, ho⟩
  have C9 := Lib.hid hc
  have R9 := Lib.hid (R4.out.only ho ZG.out)
  have O9 := Lib.hid (O4.out.trans ho)
  clear hc ho
  go_wp2_with (refine wpList_store_am rfl _ _ rfl w.heap.size azero azero rfl rfl R9.out azero_ok azero_ok ?_; intro wz KZ OZ)
  refine bodyPost_ret (results_am rfl _ _ w.heap.size azero rfl KZ.out azero_ok) rfl ?_
  exact ⟨rfl, C9.out.only OZ.out GZ.out RZ.out, O9.out.new OZ.out (Nat.le_refl _)⟩
set_option maxRecDepth 100000 in
set_option maxHeartbeats 1000000 in
theorem ia_1z (g : Nat) (R : Option Nat) (l l1 : List Int) (l2 : List Int) (k : Ky) (c e2 : Int) (w : World) (h : RefAt w g R 0 l) (HK : Hid (∀ W, RefAt W g R 0 l → Calls Tryz.prog 28 #[.pointer (some ⟨g, 0, none⟩)] W (Ins W g R k 0 l1))) (KO : Hid k.Ok) (HS : Hid (k.s = 1)) (H1 : Hid (RdP g R (blank 1) 0 l1 (pByte c) e2 l2)) (VO : Hid (⟨c, M.zero8⟩ : Vl).Ok) (cw : IntKind.u64.wrap c = c) (z2 : ¬ e2 = 0) :
    Calls Tryz.prog 13 #[.pointer (some ⟨g, 0, none⟩)] w (InsA w g R azero e2 l2) := by
  have hz := zero32
  have AO := Lib.hid (show (⟨k, vzero⟩ : Am).Ok from ⟨KO.out, vzero_ok⟩)
  have GZ := Lib.hid (h.far (Nat.le_refl w.heap.size)).1
  have RZ := Lib.hid (h.far (Nat.le_refl w.heap.size)).2
  have ZG := Lib.hid GZ.out.symm
  have R0 := Lib.hid (blk_alloc w 32 azero.cells)
  have C0 := Lib.hid (h.alloc (.cells azero.cells.toArray 32))
  have O0 := Lib.hid ((Only.refl g w).alloc (.cells azero.cells.toArray 32))
  clear h
  go_enter Tryz.func13, Tryz.ntmps13
  go_wp2_with fail
  refine (HK.out _ C0.out).mono ?_
  rintro rr w1 ⟨rfl, hc, ho⟩
  have GN := Lib.hid (hc.far (Nat.le_refl w1.heap.size)).1
  have RN := Lib.hid (hc.far (Nat.le_refl w1.heap.size)).2
  have NG := Lib.hid GN.out.symm
  have ZN := Lib.hid (Nat.ne_of_lt (R0.out.only ho ZG.out).lt)
  have LN := Lib.hid (Nat.le_of_lt (R0.out.only ho ZG.out).lt)
  have C1 := Lib.hid (hc.alloc (.cells azero.cells.toArray 32))
  have K1 := Lib.hid (blk_alloc w1 32 azero.cells)
  have R1 := Lib.hid ((R0.out.only ho ZG.out).alloc (.cells azero.cells.toArray 32))
  have O1 := Lib.hid ((O0.out.trans ho).alloc (.cells azero.cells.toArray 32))
  clear hc ho
  go_wp2_with (first
    | go_skip
    | refine wpList_build rfl 32 _ rfl [(0, .agg k.cells.toArray)] rfl _ (built32_1 k KO.out.ml) ?_
    | (refine wpList_store_am rfl _ _ rfl w1.heap.size azero (⟨k, vzero⟩ : Am) rfl rfl K1.out azero_ok AO.out ?_; intro w2 K2 OS; have C2 := Lib.hid (C1.out.only OS.out GN.out RN.out); have R2 := Lib.hid (R1.out.only OS.out ZN.out); have O2 := Lib.hid (O1.out.new OS.out LN.out); have s2 := K2.out.cell (ac0 (⟨k, vzero⟩ : Am)); rw [show (⟨k, vzero⟩ : Am).k.s = 1 from HS.out] at s2; clear OS)
    | refine wpList_blank rfl _ rfl 1 rfl ?_)
  refine (H1.out _ C2.out).mono ?_
  rintro rr w3 ⟨v3, rfl, hc, ho⟩
  have C3 := Lib.hid hc
  have K3 := Lib.hid (K2.out.only ho NG.out)
  have R3 := Lib.hid (R2.out.only ho ZG.out)
  have O3 := Lib.hid (O2.out.trans ho)
  clear hc ho
  have AV := Lib.hid (show (⟨k, ⟨c, M.zero8⟩⟩ : Am).Ok from ⟨KO.out, VO.out⟩)
  clear s2
  go_wp2_with (first
    | go_skip
    | refine wpList_val rfl (.int .u8 c) (exec_fieldC _ rfl (pByte c v3) rfl) ?_
    | (refine wpList_store_an rfl _ _ rfl w1.heap.size (⟨k, vzero⟩ : Am) c rfl rfl K3.out AO.out ?_; intro w4 K4 OS; have C4 := Lib.hid (C3.out.only OS.out GN.out RN.out); have R4 := Lib.hid (R3.out.only OS.out ZN.out); have O4 := Lib.hid (O3.out.new OS.out LN.out); have eE := refE C4.out; have cN := K4.out.cell (ac12 AV.out); clear OS)
    | refine wpList_build rfl 32 _ rfl [] rfl _ built32_0 ?_
    | (refine wpList_store_am rfl _ _ rfl w.heap.size azero azero rfl rfl R4.out azero_ok azero_ok ?_; intro wz KZ OZ))
  refine bodyPost_ret (results_am rfl _ _ w.heap.size azero rfl KZ.out azero_ok) rfl ?_
  exact ⟨rfl, C4.out.only OZ.out GZ.out RZ.out, O4.out.new OZ.out (Nat.le_refl _)⟩
set_option maxRecDepth 100000 in
set_option maxHeartbeats 1000000 in
theorem ia_2o (g : Nat) (R : Option Nat) (l l1 : List Int) (l2 : List Int) (k : Ky) (x : Int) (w : World) (h : RefAt w g R 0 l) (HK : Hid (∀ W, RefAt W g R 0 l → Calls Tryz.prog 28 #[.pointer (some ⟨g, 0, none⟩)] W (Ins W g R k 0 l1))) (KO : Hid k.Ok) (HS : Hid (k.s = 2)) (H1 : Hid (RdP g R (pNum 4294967295 (.slice none 0 0)) 0 l1 (pNum x) 0 l2)) (VO : Hid (⟨x, M.zero8⟩ : Vl).Ok) (t1 : (x == 0) = false) :
    Calls Tryz.prog 13 #[.pointer (some ⟨g, 0, none⟩)] w (InsA w g R (⟨k, ⟨x, M.zero8⟩⟩ : Am) 0 l2) := by
  have hz := zero32
  have AO := Lib.hid (show (⟨k, vzero⟩ : Am).Ok from ⟨KO.out, vzero_ok⟩)
  have GZ := Lib.hid (h.far (Nat.le_refl w.heap.size)).1
  have RZ := Lib.hid (h.far (Nat.le_refl w.heap.size)).2
  have ZG := Lib.hid GZ.out.symm
  have R0 := Lib.hid (blk_alloc w 32 azero.cells)
  have C0 := Lib.hid (h.alloc (.cells azero.cells.toArray 32))
  have O0 := Lib.hid ((Only.refl g w).alloc (.cells azero.cells.toArray 32))
  clear h
  go_enter Tryz.func13, Tryz.ntmps13
  go_wp2_with fail
  refine (HK.out _ C0.out).mono ?_
  rintro rr w1 ⟨rfl, hc, ho⟩
  have GN := Lib.hid (hc.far (Nat.le_refl w1.heap.size)).1
  have RN := Lib.hid (hc.far (Nat.le_refl w1.heap.size)).2
  have NG := Lib.hid GN.out.symm
  have ZN := Lib.hid (Nat.ne_of_lt (R0.out.only ho ZG.out).lt)
  have LN := Lib.hid (Nat.le_of_lt (R0.out.only ho ZG.out).lt)
  have C1 := Lib.hid (hc.alloc (.cells azero.cells.toArray 32))
  have K1 := Lib.hid (blk_alloc w1 32 azero.cells)
  have R1 := Lib.hid ((R0.out.only ho ZG.out).alloc (.cells azero.cells.toArray 32))
  have O1 := Lib.hid ((O0.out.trans ho).alloc (.cells azero.cells.toArray 32))
  clear hc ho
  go_wp2_with (first
    | go_skip
    | refine wpList_build rfl 32 _ rfl [(0, .agg k.cells.toArray)] rfl _ (built32_1 k KO.out.ml) ?_
    | (refine wpList_store_am rfl _ _ rfl w1.heap.size azero (⟨k, vzero⟩ : Am) rfl rfl K1.out azero_ok AO.out ?_; intro w2 K2 OS; have C2 := Lib.hid (C1.out.only OS.out GN.out RN.out); have R2 := Lib.hid (R1.out.only OS.out ZN.out); have O2 := Lib.hid (O1.out.new OS.out LN.out); have s2 := K2.out.cell (ac0 (⟨k, vzero⟩ : Am)); rw [show (⟨k, vzero⟩ : Am).k.s = 2 from HS.out] at s2; clear OS)
    | refine wpList_build rfl 56 _ rfl [(1, .int .u64 4294967295)] rfl _ (built76_1 4294967295) ?_)
  refine (H1.out _ C2.out).mono ?_
  rintro rr w3 ⟨v3, rfl, hc, ho⟩
  have C3 := Lib.hid hc
  have K3 := Lib.hid (K2.out.only ho NG.out)
  have R3 := Lib.hid (R2.out.only ho ZG.out)
  have O3 := Lib.hid (O2.out.trans ho)
  clear hc ho
  have AV := Lib.hid (show (⟨k, ⟨x, M.zero8⟩⟩ : Am).Ok from ⟨KO.out, VO.out⟩)
  clear s2
  go_wp2_with (first
    | go_skip
    | refine wpList_val rfl (.int .u64 x) (exec_fieldX _ rfl (pNum x v3) rfl) ?_
    | (refine wpList_store_an rfl _ _ rfl w1.heap.size (⟨k, vzero⟩ : Am) x rfl rfl K3.out AO.out ?_; intro w4 K4 OS; have C4 := Lib.hid (C3.out.only OS.out GN.out RN.out); have R4 := Lib.hid (R3.out.only OS.out ZN.out); have O4 := Lib.hid (O3.out.new OS.out LN.out); have eE := refE C4.out; have cN := K4.out.cell (ac12 AV.out); clear OS)
    | refine wpList_load_am rfl _ rfl w1.heap.size (⟨k, ⟨x, M.zero8⟩⟩ : Am) rfl K4.out AV.out ?_
    | (refine wpList_store_am rfl _ _ rfl w.heap.size azero (⟨k, ⟨x, M.zero8⟩⟩ : Am) rfl rfl R4.out azero_ok AV.out ?_; intro wz KZ OZ))
  refine bodyPost_ret (results_am rfl _ _ w.heap.size (⟨k, ⟨x, M.zero8⟩⟩ : Am) rfl KZ.out AV.out) rfl ?_
  exact ⟨rfl, C4.out.only OZ.out GZ.out RZ.out, O4.out.new OZ.out (Nat.le_refl _)⟩
set_option maxRecDepth 100000 in
set_option maxHeartbeats 1000000 in
theorem ia_2f (g : Nat) (R : Option Nat) (l l1 : List Int) (l2 : List Int) (k : Ky) (x : Int) (w : World) (h : RefAt w g R 0 l) (HK : Hid (∀ W, RefAt W g R 0 l → Calls Tryz.prog 28 #[.pointer (some ⟨g, 0, none⟩)] W (Ins W g R k 0 l1))) (KO : Hid k.Ok) (HS : Hid (k.s = 2)) (H1 : Hid (RdP g R (pNum 4294967295 (.slice none 0 0)) 0 l1 (pNum x) 0 l2)) (VO : Hid (⟨x, M.zero8⟩ : Vl).Ok) (t1 : (x == 0) = true) :
    Calls Tryz.prog 13 #[.pointer (some ⟨g, 0, none⟩)] w (InsA w g R azero 3 []) := by
  have hz := zero32
  have AO := Lib.hid (show (⟨k, vzero⟩ : Am).Ok from ⟨KO.out, vzero_ok⟩)
  have GZ := Lib.hid (h.far (Nat.le_refl w.heap.size)).1
  have RZ := Lib.hid (h.far (Nat.le_refl w.heap.size)).2
  have ZG := Lib.hid GZ.out.symm
  have R0 := Lib.hid (blk_alloc w 32 azero.cells)
  have C0 := Lib.hid (h.alloc (.cells azero.cells.toArray 32))
  have O0 := Lib.hid ((Only.refl g w).alloc (.cells azero.cells.toArray 32))
  clear h
  go_enter Tryz.func13, Tryz.ntmps13
  go_wp2_with fail
  refine (HK.out _ C0.out).mono ?_
  rintro rr w1 ⟨rfl, hc, ho⟩
  have GN := Lib.hid (hc.far (Nat.le_refl w1.heap.size)).1
  have RN := Lib.hid (hc.far (Nat.le_refl w1.heap.size)).2
  have NG := Lib.hid GN.out.symm
  have ZN := Lib.hid (Nat.ne_of_lt (R0.out.only ho ZG.out).lt)
  have LN := Lib.hid (Nat.le_of_lt (R0.out.only ho ZG.out).lt)
  have C1 := Lib.hid (hc.alloc (.cells azero.cells.toArray 32))
  have K1 := Lib.hid (blk_alloc w1 32 azero.cells)
  have R1 := Lib.hid ((R0.out.only ho ZG.out).alloc (.cells azero.cells.toArray 32))
  have O1 := Lib.hid ((O0.out.trans ho).alloc (.cells azero.cells.toArray 32))
  clear hc ho
  go_wp2_with (first
    | go_skip
    | refine wpList_build rfl 32 _ rfl [(0, .agg k.cells.toArray)] rfl _ (built32_1 k KO.out.ml) ?_
    | (refine wpList_store_am rfl _ _ rfl w1.heap.size azero (⟨k, vzero⟩ : Am) rfl rfl K1.out azero_ok AO.out ?_; intro w2 K2 OS; have C2 := Lib.hid (C1.out.only OS.out GN.out RN.out); have R2 := Lib.hid (R1.out.only OS.out ZN.out); have O2 := Lib.hid (O1.out.new OS.out LN.out); have s2 := K2.out.cell (ac0 (⟨k, vzero⟩ : Am)); rw [show (⟨k, vzero⟩ : Am).k.s = 2 from HS.out] at s2; clear OS)
    | refine wpList_build rfl 56 _ rfl [(1, .int .u64 4294967295)] rfl _ (built76_1 4294967295) ?_)
  refine (H1.out _ C2.out).mono ?_
  rintro rr w3 ⟨v3, rfl, hc, ho⟩
  have C3 := Lib.hid hc
  have K3 := Lib.hid (K2.out.only ho NG.out)
  have R3 := Lib.hid (R2.out.only ho ZG.out)
  have O3 := Lib.hid (O2.out.trans ho)
  clear hc ho
  have AV := Lib.hid (show (⟨k, ⟨x, M.zero8⟩⟩ : Am).Ok from ⟨KO.out, VO.out⟩)
  clear s2
  go_wp2_with (first
    | go_skip
    | refine wpList_val rfl (.int .u64 x) (exec_fieldX _ rfl (pNum x v3) rfl) ?_
    | (refine wpList_store_an rfl _ _ rfl w1.heap.size (⟨k, vzero⟩ : Am) x rfl rfl K3.out AO.out ?_; intro w4 K4 OS; have C4 := Lib.hid (C3.out.only OS.out GN.out RN.out); have R4 := Lib.hid (R3.out.only OS.out ZN.out); have O4 := Lib.hid (O3.out.new OS.out LN.out); have eE := refE C4.out; have cN := K4.out.cell (ac12 AV.out); clear OS))
  refine (refAfail_is g R 3 l2 _ C4.out).mono ?_
  rintro rr w9 ⟨rfl, hc, ho⟩
  have C9 := Lib.hid hc
  have R9 := Lib.hid (R4.out.only ho ZG.out)
  have O9 := Lib.hid (O4.out.trans ho)
  clear hc ho
  go_wp2_with (refine wpList_store_am rfl _ _ rfl w.heap.size azero azero rfl rfl R9.out azero_ok azero_ok ?_; intro wz KZ OZ)
  refine bodyPost_ret (results_am rfl _ _ w.heap.size azero rfl KZ.out azero_ok) rfl ?_
  exact ⟨rfl, C9.out.only OZ.out GZ.out RZ.out, O9.out.new OZ.out (Nat.le_refl _)⟩
set_option maxRecDepth 100000 in
set_option maxHeartbeats 1000000 in
theorem ia_2z (g : Nat) (R : Option Nat) (l l1 : List Int) (l2 : List Int) (k : Ky) (x e2 : Int) (w : World) (h : RefAt w g R 0 l) (HK : Hid (∀ W, RefAt W g R 0 l → Calls Tryz.prog 28 #[.pointer (some ⟨g, 0, none⟩)] W (Ins W g R k 0 l1))) (KO : Hid k.Ok) (HS : Hid (k.s = 2)) (H1 : Hid (RdP g R (pNum 4294967295 (.slice none 0 0)) 0 l1 (pNum x) e2 l2)) (VO : Hid (⟨x, M.zero8⟩ : Vl).Ok) (z2 : ¬ e2 = 0) :
    Calls Tryz.prog 13 #[.pointer (some ⟨g, 0, none⟩)] w (InsA w g R azero e2 l2) := by
  have hz := zero32
  have AO := Lib.hid (show (⟨k, vzero⟩ : Am).Ok from ⟨KO.out, vzero_ok⟩)
  have GZ := Lib.hid (h.far (Nat.le_refl w.heap.size)).1
  have RZ := Lib.hid (h.far (Nat.le_refl w.heap.size)).2
  have ZG := Lib.hid GZ.out.symm
  have R0 := Lib.hid (blk_alloc w 32 azero.cells)
  have C0 := Lib.hid (h.alloc (.cells azero.cells.toArray 32))
  have O0 := Lib.hid ((Only.refl g w).alloc (.cells azero.cells.toArray 32))
  clear h
  go_enter Tryz.func13, Tryz.ntmps13
  go_wp2_with fail
  refine (HK.out _ C0.out).mono ?_
  rintro rr w1 ⟨rfl, hc, ho⟩
  have GN := Lib.hid (hc.far (Nat.le_refl w1.heap.size)).1
  have RN := Lib.hid (hc.far (Nat.le_refl w1.heap.size)).2
  have NG := Lib.hid GN.out.symm
  have ZN := Lib.hid (Nat.ne_of_lt (R0.out.only ho ZG.out).lt)
  have LN := Lib.hid (Nat.le_of_lt (R0.out.only ho ZG.out).lt)
  have C1 := Lib.hid (hc.alloc (.cells azero.cells.toArray 32))
  have K1 := Lib.hid (blk_alloc w1 32 azero.cells)
  have R1 := Lib.hid ((R0.out.only ho ZG.out).alloc (.cells azero.cells.toArray 32))
  have O1 := Lib.hid ((O0.out.trans ho).alloc (.cells azero.cells.toArray 32))
  clear hc ho
  go_wp2_with (first
    | go_skip
    | refine wpList_build rfl 32 _ rfl [(0, .agg k.cells.toArray)] rfl _ (built32_1 k KO.out.ml) ?_
    | (refine wpList_store_am rfl _ _ rfl w1.heap.size azero (⟨k, vzero⟩ : Am) rfl rfl K1.out azero_ok AO.out ?_; intro w2 K2 OS; have C2 := Lib.hid (C1.out.only OS.out GN.out RN.out); have R2 := Lib.hid (R1.out.only OS.out ZN.out); have O2 := Lib.hid (O1.out.new OS.out LN.out); have s2 := K2.out.cell (ac0 (⟨k, vzero⟩ : Am)); rw [show (⟨k, vzero⟩ : Am).k.s = 2 from HS.out] at s2; clear OS)
    | refine wpList_build rfl 56 _ rfl [(1, .int .u64 4294967295)] rfl _ (built76_1 4294967295) ?_)
  refine (H1.out _ C2.out).mono ?_
  rintro rr w3 ⟨v3, rfl, hc, ho⟩
  have C3 := Lib.hid hc
  have K3 := Lib.hid (K2.out.only ho NG.out)
  have R3 := Lib.hid (R2.out.only ho ZG.out)
  have O3 := Lib.hid (O2.out.trans ho)
  clear hc ho
  have AV := Lib.hid (show (⟨k, ⟨x, M.zero8⟩⟩ : Am).Ok from ⟨KO.out, VO.out⟩)
  clear s2
  go_wp2_with (first
    | go_skip
    | refine wpList_val rfl (.int .u64 x) (exec_fieldX _ rfl (pNum x v3) rfl) ?_
    | (refine wpList_store_an rfl _ _ rfl w1.heap.size (⟨k, vzero⟩ : Am) x rfl rfl K3.out AO.out ?_; intro w4 K4 OS; have C4 := Lib.hid (C3.out.only OS.out GN.out RN.out); have R4 := Lib.hid (R3.out.only OS.out ZN.out); have O4 := Lib.hid (O3.out.new OS.out LN.out); have eE := refE C4.out; have cN := K4.out.cell (ac12 AV.out); clear OS)
    | refine wpList_build rfl 32 _ rfl [] rfl _ built32_0 ?_
    | (refine wpList_store_am rfl _ _ rfl w.heap.size azero azero rfl rfl R4.out azero_ok azero_ok ?_; intro wz KZ OZ))
  refine bodyPost_ret (results_am rfl _ _ w.heap.size azero rfl KZ.out azero_ok) rfl ?_
  exact ⟨rfl, C4.out.only OZ.out GZ.out RZ.out, O4.out.new OZ.out (Nat.le_refl _)⟩
set_option maxRecDepth 100000 in
set_option maxHeartbeats 1000000 in
theorem ia_3o (g : Nat) (R : Option Nat) (l l1 : List Int) (l2 : List Int) (k : Ky) (x : Int) (w : World) (h : RefAt w g R 0 l) (HK : Hid (∀ W, RefAt W g R 0 l → Calls Tryz.prog 28 #[.pointer (some ⟨g, 0, none⟩)] W (Ins W g R k 0 l1))) (KO : Hid k.Ok) (HS : Hid (k.s = 3)) (H1 : Hid (RdP g R (pNum 4294967295 (.slice none 0 0)) 0 l1 (pNum x) 0 l2)) (VO : Hid (⟨x, M.zero8⟩ : Vl).Ok) (t1 : (x == 0) = false) :
    Calls Tryz.prog 13 #[.pointer (some ⟨g, 0, none⟩)] w (InsA w g R (⟨k, ⟨x, M.zero8⟩⟩ : Am) 0 l2) := by
  have hz := zero32
  have AO := Lib.hid (show (⟨k, vzero⟩ : Am).Ok from ⟨KO.out, vzero_ok⟩)
  have GZ := Lib.hid (h.far (Nat.le_refl w.heap.size)).1
  have RZ := Lib.hid (h.far (Nat.le_refl w.heap.size)).2
  have ZG := Lib.hid GZ.out.symm
  have R0 := Lib.hid (blk_alloc w 32 azero.cells)
  have C0 := Lib.hid (h.alloc (.cells azero.cells.toArray 32))
  have O0 := Lib.hid ((Only.refl g w).alloc (.cells azero.cells.toArray 32))
  clear h
  go_enter Tryz.func13, Tryz.ntmps13
  go_wp2_with fail
  refine (HK.out _ C0.out).mono ?_
  rintro rr w1 ⟨rfl, hc, ho⟩
  have GN := Lib.hid (hc.far (Nat.le_refl w1.heap.size)).1
  have RN := Lib.hid (hc.far (Nat.le_refl w1.heap.size)).2
  have NG := Lib.hid GN.out.symm
  have ZN := Lib.hid (Nat.ne_of_lt (R0.out.only ho ZG.out).lt)
  have LN := Lib.hid (Nat.le_of_lt (R0.out.only ho ZG.out).lt)
  have C1 := Lib.hid (hc.alloc (.cells azero.cells.toArray 32))
  have K1 := Lib.hid (blk_alloc w1 32 azero.cells)
  have R1 := Lib.hid ((R0.out.only ho ZG.out).alloc (.cells azero.cells.toArray 32))
  have O1 := Lib.hid ((O0.out.trans ho).alloc (.cells azero.cells.toArray 32))
  clear hc ho
  go_wp2_with (first
    | go_skip
    | refine wpList_build rfl 32 _ rfl [(0, .agg k.cells.toArray)] rfl _ (built32_1 k KO.out.ml) ?_
    | (refine wpList_store_am rfl _ _ rfl w1.heap.size azero (⟨k, vzero⟩ : Am) rfl rfl K1.out azero_ok AO.out ?_; intro w2 K2 OS; have C2 := Lib.hid (C1.out.only OS.out GN.out RN.out); have R2 := Lib.hid (R1.out.only OS.out ZN.out); have O2 := Lib.hid (O1.out.new OS.out LN.out); have s2 := K2.out.cell (ac0 (⟨k, vzero⟩ : Am)); rw [show (⟨k, vzero⟩ : Am).k.s = 3 from HS.out] at s2; clear OS)
    | refine wpList_build rfl 56 _ rfl [(1, .int .u64 4294967295)] rfl _ (built76_1 4294967295) ?_)
  refine (H1.out _ C2.out).mono ?_
  rintro rr w3 ⟨v3, rfl, hc, ho⟩
  have C3 := Lib.hid hc
  have K3 := Lib.hid (K2.out.only ho NG.out)
  have R3 := Lib.hid (R2.out.only ho ZG.out)
  have O3 := Lib.hid (O2.out.trans ho)
  clear hc ho
  have AV := Lib.hid (show (⟨k, ⟨x, M.zero8⟩⟩ : Am).Ok from ⟨KO.out, VO.out⟩)
  clear s2
  go_wp2_with (first
    | go_skip
    | refine wpList_val rfl (.int .u64 x) (exec_fieldX _ rfl (pNum x v3) rfl) ?_
    | (refine wpList_store_an rfl _ _ rfl w1.heap.size (⟨k, vzero⟩ : Am) x rfl rfl K3.out AO.out ?_; intro w4 K4 OS; have C4 := Lib.hid (C3.out.only OS.out GN.out RN.out); have R4 := Lib.hid (R3.out.only OS.out ZN.out); have O4 := Lib.hid (O3.out.new OS.out LN.out); have eE := refE C4.out; have cN := K4.out.cell (ac12 AV.out); clear OS)
    | refine wpList_load_am rfl _ rfl w1.heap.size (⟨k, ⟨x, M.zero8⟩⟩ : Am) rfl K4.out AV.out ?_
    | (refine wpList_store_am rfl _ _ rfl w.heap.size azero (⟨k, ⟨x, M.zero8⟩⟩ : Am) rfl rfl R4.out azero_ok AV.out ?_; intro wz KZ OZ))
  refine bodyPost_ret (results_am rfl _ _ w.heap.size (⟨k, ⟨x, M.zero8⟩⟩ : Am) rfl KZ.out AV.out) rfl ?_
  exact ⟨rfl, C4.out.only OZ.out GZ.out RZ.out, O4.out.new OZ.out (Nat.le_refl _)⟩
set_option maxRecDepth 100000 in
set_option maxHeartbeats 1000000 in
theorem ia_3f (g : Nat) (R : Option Nat) (l l1 : List Int) (l2 : List Int) (k : Ky) (x : Int) (w : World) (h : RefAt w g R 0 l) (HK : Hid (∀ W, RefAt W g R 0 l → Calls Tryz.prog 28 #[.pointer (some ⟨g, 0, none⟩)] W (Ins W g R k 0 l1))) (KO : Hid k.Ok) (HS : Hid (k.s = 3)) (H1 : Hid (RdP g R (pNum 4294967295 (.slice none 0 0)) 0 l1 (pNum x) 0 l2)) (VO : Hid (⟨x, M.zero8⟩ : Vl).Ok) (t1 : (x == 0) = true) :
    Calls Tryz.prog 13 #[.pointer (some ⟨g, 0, none⟩)] w (InsA w g R azero 3 []) := by
  have hz := zero32
  have AO := Lib.hid (show (⟨k, vzero⟩ : Am).Ok from ⟨KO.out, vzero_ok⟩)
  have GZ := Lib.hid (h.far (Nat.le_refl w.heap.size)).1
  have RZ := Lib.hid (h.far (Nat.le_refl w.heap.size)).2
  have ZG := Lib.hid GZ.out.symm
  have R0 := Lib.hid (blk_alloc w 32 azero.cells)
  have C0 := Lib.hid (h.alloc (.cells azero.cells.toArray 32))
  have O0 := Lib.hid ((Only.refl g w).alloc (.cells azero.cells.toArray 32))
  clear h
  go_enter Tryz.func13, Tryz.ntmps13
  go_wp2_with fail
  refine (HK.out _ C0.out).mono ?_
  rintro rr w1 ⟨rfl, hc, ho⟩
  have GN := Lib.hid (hc.far (Nat.le_refl w1.heap.size)).1
  have RN := Lib.hid (hc.far (Nat.le_refl w1.heap.size)).2
  have NG := Lib.hid GN.out.symm
  have ZN := Lib.hid (Nat.ne_of_lt (R0.out.only ho ZG.out).lt)
  have LN := Lib.hid (Nat.le_of_lt (R0.out.only ho ZG.out).lt)
  have C1 := Lib.hid (hc.alloc (.cells azero.cells.toArray 32))
  have K1 := Lib.hid (blk_alloc w1 32 azero.cells)
  have R1 := Lib.hid ((R0.out.only ho ZG.out).alloc (.cells azero.cells.toArray 32))
  have O1 := Lib.hid ((O0.out.trans ho).alloc (.cells azero.cells.toArray 32))
  clear hc ho
  go_wp2_with (first
    | go_skip
    | refine wpList_build rfl 32 _ rfl [(0, .agg k.cells.toArray)] rfl _ (built32_1 k KO.out.ml) ?_
    | (refine wpList_store_am rfl _ _ rfl w1.heap.size azero (⟨k, vzero⟩ : Am) rfl rfl K1.out azero_ok AO.out ?_; intro w2 K2 OS; have C2 := Lib.hid (C1.out.only OS.out GN.out RN.out); have R2 := Lib.hid (R1.out.only OS.out ZN.out); have O2 := Lib.hid (O1.out.new OS.out LN.out); have s2 := K2.out.cell (ac0 (⟨k, vzero⟩ : Am)); rw [show (⟨k, vzero⟩ : Am).k.s = 3 from HS.out] at s2; clear OS)
    | refine wpList_build rfl 56 _ rfl [(1, .int .u64 4294967295)] rfl _ (built76_1 4294967295) ?_)
  refine (H1.out _ C2.out).mono ?_
  rintro rr w3 ⟨v3, rfl, hc, ho⟩
  have C3 := Lib.hid hc
  have K3 := Lib.hid (K2.out.only ho NG.out)
  have R3 := Lib.hid (R2.out.only ho ZG.out)
  have O3 := Lib.hid (O2.out.trans ho)
  clear hc ho
  have AV := Lib.hid (show (⟨k, ⟨x, M.zero8⟩⟩ : Am).Ok from ⟨KO.out, VO.out⟩)
  clear s2
  go_wp2_with (first
    | go_skip
    | refine wpList_val rfl (.int .u64 x) (exec_fieldX _ rfl (pNum x v3) rfl) ?_
    | (refine wpList_store_an rfl _ _ rfl w1.heap.size (⟨k, vzero⟩ : Am) x rfl rfl K3.out AO.out ?_; intro w4 K4 OS; have C4 := Lib.hid (C3.out.only OS.out GN.out RN.out); have R4 := Lib.hid (R3.out.only OS.out ZN.out); have O4 := Lib.hid (O3.out.new OS.out LN.out); have eE := refE C4.out; have cN := K4.out.cell (ac12 AV.out); clear OS))
  refine (refAfail_is g R 3 l2 _ C4.out).mono ?_
  rintro rr w9 ⟨rfl, hc, ho⟩
  have C9 := Lib.hid hc
  have R9 := Lib.hid (R4.out.only ho ZG.out)
  have O9 := Lib.hid (O4.out.trans ho)
  clear hc ho
  go_wp2_with (refine wpList_store_am rfl _ _ rfl w.heap.size azero azero rfl rfl R9.out azero_ok azero_ok ?_; intro wz KZ OZ)
  refine bodyPost_ret (results_am rfl _ _ w.heap.size azero rfl KZ.out azero_ok) rfl ?_
  exact ⟨rfl, C9.out.only OZ.out GZ.out RZ.out, O9.out.new OZ.out (Nat.le_refl _)⟩
set_option maxRecDepth 100000 in
set_option maxHeartbeats 1000000 in
theorem ia_3z (g : Nat) (R : Option Nat) (l l1 : List Int) (l2 : List Int) (k : Ky) (x e2 : Int) (w : World) (h : RefAt w g R 0 l) (HK : Hid (∀ W, RefAt W g R 0 l → Calls Tryz.prog 28 #[.pointer (some ⟨g, 0, none⟩)] W (Ins W g R k 0 l1))) (KO : Hid k.Ok) (HS : Hid (k.s = 3)) (H1 : Hid (RdP g R (pNum 4294967295 (.slice none 0 0)) 0 l1 (pNum x) e2 l2)) (VO : Hid (⟨x, M.zero8⟩ : Vl).Ok) (z2 : ¬ e2 = 0) :
    Calls Tryz.prog 13 #[.pointer (some ⟨g, 0, none⟩)] w (InsA w g R azero e2 l2) := by
  have hz := zero32
  have AO := Lib.hid (show (⟨k, vzero⟩ : Am).Ok from ⟨KO.out, vzero_ok⟩)
  have GZ := Lib.hid (h.far (Nat.le_refl w.heap.size)).1
  have RZ := Lib.hid (h.far (Nat.le_refl w.heap.size)).2
  have ZG := Lib.hid GZ.out.symm
  have R0 := Lib.hid (blk_alloc w 32 azero.cells)
  have C0 := Lib.hid (h.alloc (.cells azero.cells.toArray 32))
  have O0 := Lib.hid ((Only.refl g w).alloc (.cells azero.cells.toArray 32))
  clear h
  go_enter Tryz.func13, Tryz.ntmps13
  go_wp2_with fail
  refine (HK.out _ C0.out).mono ?_
  rintro rr w1 ⟨rfl, hc, ho⟩
  have GN := Lib.hid (hc.far (Nat.le_refl w1.heap.size)).1
  have RN := Lib.hid (hc.far (Nat.le_refl w1.heap.size)).2
  have NG := Lib.hid GN.out.symm
  have ZN := Lib.hid (Nat.ne_of_lt (R0.out.only ho ZG.out).lt)
  have LN := Lib.hid (Nat.le_of_lt (R0.out.only ho ZG.out).lt)
  have C1 := Lib.hid (hc.alloc (.cells azero.cells.toArray 32))
  have K1 := Lib.hid (blk_alloc w1 32 azero.cells)
  have R1 := Lib.hid ((R0.out.only ho ZG.out).alloc (.cells azero.cells.toArray 32))
  have O1 := Lib.hid ((O0.out.trans ho).alloc (.cells azero.cells.toArray 32))
  clear hc ho
  go_wp2_with (first
    | go_skip
    | refine wpList_build rfl 32 _ rfl [(0, .agg k.cells.toArray)] rfl _ (built32_1 k KO.out.ml) ?_
    | (refine wpList_store_am rfl _ _ rfl w1.heap.size azero (⟨k, vzero⟩ : Am) rfl rfl K1.out azero_ok AO.out ?_; intro w2 K2 OS; have C2 := Lib.hid (C1.out.only OS.out GN.out RN.out); have R2 := Lib.hid (R1.out.only OS.out ZN.out); have O2 := Lib.hid (O1.out.new OS.out LN.out); have s2 := K2.out.cell (ac0 (⟨k, vzero⟩ : Am)); rw [show (⟨k, vzero⟩ : Am).k.s = 3 from HS.out] at s2; clear OS)
    | refine wpList_build rfl 56 _ rfl [(1, .int .u64 4294967295)] rfl _ (built76_1 4294967295) ?_)
  refine (H1.out _ C2.out).mono ?_
  rintro rr w3 ⟨v3, rfl, hc, ho⟩
  have C3 := Lib.hid hc
  have K3 := Lib.hid (K2.out.only ho NG.out)
  have R3 := Lib.hid (R2.out.only ho ZG.out)
  have O3 := Lib.hid (O2.out.trans ho)
  clear hc ho
  have AV := Lib.hid (show (⟨k, ⟨x, M.zero8⟩⟩ : Am).Ok from ⟨KO.out, VO.out⟩)
  clear s2
  go_wp2_with (first
    | go_skip
    | refine wpList_val rfl (.int .u64 x) (exec_fieldX _ rfl (pNum x v3) rfl) ?_
    | (refine wpList_store_an rfl _ _ rfl w1.heap.size (⟨k, vzero⟩ : Am) x rfl rfl K3.out AO.out ?_; intro w4 K4 OS; have C4 := Lib.hid (C3.out.only OS.out GN.out RN.out); have R4 := Lib.hid (R3.out.only OS.out ZN.out); have O4 := Lib.hid (O3.out.new OS.out LN.out); have eE := refE C4.out; have cN := K4.out.cell (ac12 AV.out); clear OS)
    | refine wpList_build rfl 32 _ rfl [] rfl _ built32_0 ?_
    | (refine wpList_store_am rfl _ _ rfl w.heap.size azero azero rfl rfl R4.out azero_ok azero_ok ?_; intro wz KZ OZ))
  refine bodyPost_ret (results_am rfl _ _ w.heap.size azero rfl KZ.out azero_ok) rfl ?_
  exact ⟨rfl, C4.out.only OZ.out GZ.out RZ.out, O4.out.new OZ.out (Nat.le_refl _)⟩
set_option maxRecDepth 100000 in
set_option maxHeartbeats 1000000 in
theorem ia_4f (g : Nat) (R : Option Nat) (l l1 : List Int) (l2 : List Int) (k : Ky) (x : Int) (w : World) (h : RefAt w g R 0 l) (HK : Hid (∀ W, RefAt W g R 0 l → Calls Tryz.prog 28 #[.pointer (some ⟨g, 0, none⟩)] W (Ins W g R k 0 l1))) (KO : Hid k.Ok) (HS : Hid (k.s = 4)) (H1 : Hid (RdP g R (pNum 1099511627775 (.slice none 0 0)) 0 l1 (pNum x) 0 l2)) (VO : Hid (⟨x, M.zero8⟩ : Vl).Ok) (t1 : decide (16 ≤ x % 256) = true) :
    Calls Tryz.prog 13 #[.pointer (some ⟨g, 0, none⟩)] w (InsA w g R azero 2 []) := by
  have hz := zero32
  have AO := Lib.hid (show (⟨k, vzero⟩ : Am).Ok from ⟨KO.out, vzero_ok⟩)
  have GZ := Lib.hid (h.far (Nat.le_refl w.heap.size)).1
  have RZ := Lib.hid (h.far (Nat.le_refl w.heap.size)).2
  have ZG := Lib.hid GZ.out.symm
  have R0 := Lib.hid (blk_alloc w 32 azero.cells)
  have C0 := Lib.hid (h.alloc (.cells azero.cells.toArray 32))
  have O0 := Lib.hid ((Only.refl g w).alloc (.cells azero.cells.toArray 32))
  clear h
  go_enter Tryz.func13, Tryz.ntmps13
  go_wp2_with fail
  refine (HK.out _ C0.out).mono ?_
  rintro rr w1 ⟨rfl, hc, ho⟩
  have GN := Lib.hid (hc.far (Nat.le_refl w1.heap.size)).1
  have RN := Lib.hid (hc.far (Nat.le_refl w1.heap.size)).2
  have NG := Lib.hid GN.out.symm
  have ZN := Lib.hid (Nat.ne_of_lt (R0.out.only ho ZG.out).lt)
  have LN := Lib.hid (Nat.le_of_lt (R0.out.only ho ZG.out).lt)
  have C1 := Lib.hid (hc.alloc (.cells azero.cells.toArray 32))
  have K1 := Lib.hid (blk_alloc w1 32 azero.cells)
  have R1 := Lib.hid ((R0.out.only ho ZG.out).alloc (.cells azero.cells.toArray 32))
  have O1 := Lib.hid ((O0.out.trans ho).alloc (.cells azero.cells.toArray 32))
  clear hc ho
  go_wp2_with (first
    | go_skip
    | refine wpList_build rfl 32 _ rfl [(0, .agg k.cells.toArray)] rfl _ (built32_1 k KO.out.ml) ?_
    | (refine wpList_store_am rfl _ _ rfl w1.heap.size azero (⟨k, vzero⟩ : Am) rfl rfl K1.out azero_ok AO.out ?_; intro w2 K2 OS; have C2 := Lib.hid (C1.out.only OS.out GN.out RN.out); have R2 := Lib.hid (R1.out.only OS.out ZN.out); have O2 := Lib.hid (O1.out.new OS.out LN.out); have s2 := K2.out.cell (ac0 (⟨k, vzero⟩ : Am)); rw [show (⟨k, vzero⟩ : Am).k.s = 4 from HS.out] at s2; clear OS)
    | refine wpList_build rfl 56 _ rfl [(1, .int .u64 1099511627775)] rfl _ (built76_1 1099511627775) ?_)
  refine (H1.out _ C2.out).mono ?_
  rintro rr w3 ⟨v3, rfl, hc, ho⟩
  have C3 := Lib.hid hc
  have K3 := Lib.hid (K2.out.only ho NG.out)
  have R3 := Lib.hid (R2.out.only ho ZG.out)
  have O3 := Lib.hid (O2.out.trans ho)
  clear hc ho
  have AV := Lib.hid (show (⟨k, ⟨x, M.zero8⟩⟩ : Am).Ok from ⟨KO.out, VO.out⟩)
  clear s2
  have n0 := VO.out.n0
  have d1 : x.tdiv 256 = x / 256 := Int.tdiv_eq_ediv_of_nonneg n0
  have d2 : IntKind.u64.wrap (x / 256) = x / 256 := by have h0 : 0 ≤ x := n0; have h1 : x < 18446744073709551616 := VO.out.n1; rw [IntKind.wrap_u64]; omega
  have d3 : x.tmod 256 = x % 256 := Int.tmod_eq_emod_of_nonneg n0
  go_wp2_with (first
    | go_skip
    | refine wpList_val rfl (.int .u64 x) (exec_fieldX _ rfl (pNum x v3) rfl) ?_
    | (refine wpList_store_an rfl _ _ rfl w1.heap.size (⟨k, vzero⟩ : Am) x rfl rfl K3.out AO.out ?_; intro w4 K4 OS; have C4 := Lib.hid (C3.out.only OS.out GN.out RN.out); have R4 := Lib.hid (R3.out.only OS.out ZN.out); have O4 := Lib.hid (O3.out.new OS.out LN.out); have eE := refE C4.out; have cN := K4.out.cell (ac12 AV.out); clear OS))
  refine (refAfail_is g R 2 l2 _ C4.out).mono ?_
  rintro rr w9 ⟨rfl, hc, ho⟩
  have C9 := Lib.hid hc
  have R9 := Lib.hid (R4.out.only ho ZG.out)
  have O9 := Lib.hid (O4.out.trans ho)
  clear hc ho
  go_wp2_with (refine wpList_store_am rfl _ _ rfl w.heap.size azero azero rfl rfl R9.out azero_ok azero_ok ?_; intro wz KZ OZ)
  refine bodyPost_ret (results_am rfl _ _ w.heap.size azero rfl KZ.out azero_ok) rfl ?_
  exact ⟨rfl, C9.out.only OZ.out GZ.out RZ.out, O9.out.new OZ.out (Nat.le_refl _)⟩
set_option maxRecDepth 100000 in
set_option maxHeartbeats 1000000 in
theorem ia_4g (g : Nat) (R : Option Nat) (l l1 : List Int) (l2 : List Int) (k : Ky) (x : Int) (w : World) (h : RefAt w g R 0 l) (HK : Hid (∀ W, RefAt W g R 0 l → Calls Tryz.prog 28 #[.pointer (some ⟨g, 0, none⟩)] W (Ins W g R k 0 l1))) (KO : Hid k.Ok) (HS : Hid (k.s = 4)) (H1 : Hid (RdP g R (pNum 1099511627775 (.slice none 0 0)) 0 l1 (pNum x) 0 l2)) (VO : Hid (⟨x, M.zero8⟩ : Vl).Ok) (t1 : decide (16 ≤ x % 256) = false) (t2 : (x / 256 == 0) = true) :
    Calls Tryz.prog 13 #[.pointer (some ⟨g, 0, none⟩)] w (InsA w g R azero 3 []) := by
  have hz := zero32
  have AO := Lib.hid (show (⟨k, vzero⟩ : Am).Ok from ⟨KO.out, vzero_ok⟩)
  have GZ := Lib.hid (h.far (Nat.le_refl w.heap.size)).1
  have RZ := Lib.hid (h.far (Nat.le_refl w.heap.size)).2
  have ZG := Lib.hid GZ.out.symm
  have R0 := Lib.hid (blk_alloc w 32 azero.cells)
  have C0 := Lib.hid (h.alloc (.cells azero.cells.toArray 32))
  have O0 := Lib.hid ((Only.refl g w).alloc (.cells azero.cells.toArray 32))
  clear h
  go_enter Tryz.func13, Tryz.ntmps13
  go_wp2_with fail
  refine (HK.out _ C0.out).mono ?_
  rintro rr w1 ⟨rfl, hc, ho⟩
  have GN := Lib.hid (hc.far (Nat.le_refl w1.heap.size)).1
  have RN := Lib.hid (hc.far (Nat.le_refl w1.heap.size)).2
  have NG := Lib.hid GN.out.symm
  have ZN := Lib.hid (Nat.ne_of_lt (R0.out.only ho ZG.out).lt)
  have LN := Lib.hid (Nat.le_of_lt (R0.out.only ho ZG.out).lt)
  have C1 := Lib.hid (hc.alloc (.cells azero.cells.toArray 32))
  have K1 := Lib.hid (blk_alloc w1 32 azero.cells)
  have R1 := Lib.hid ((R0.out.only ho ZG.out).alloc (.cells azero.cells.toArray 32))
  have O1 := Lib.hid ((O0.out.trans ho).alloc (.cells azero.cells.toArray 32))
  clear hc ho
  go_wp2_with (first
    | go_skip
    | refine wpList_build rfl 32 _ rfl [(0, .agg k.cells.toArray)] rfl _ (built32_1 k KO.out.ml) ?_
    | (refine wpList_store_am rfl _ _ rfl w1.heap.size azero (⟨k, vzero⟩ : Am) rfl rfl K1.out azero_ok AO.out ?_; intro w2 K2 OS; have C2 := Lib.hid (C1.out.only OS.out GN.out RN.out); have R2 := Lib.hid (R1.out.only OS.out ZN.out); have O2 := Lib.hid (O1.out.new OS.out LN.out); have s2 := K2.out.cell (ac0 (⟨k, vzero⟩ : Am)); rw [show (⟨k, vzero⟩ : Am).k.s = 4 from HS.out] at s2; clear OS)
    | refine wpList_build rfl 56 _ rfl [(1, .int .u64 1099511627775)] rfl _ (built76_1 1099511627775) ?_)
  refine (H1.out _ C2.out).mono ?_
  rintro rr w3 ⟨v3, rfl, hc, ho⟩
  have C3 := Lib.hid hc
  have K3 := Lib.hid (K2.out.only ho NG.out)
  have R3 := Lib.hid (R2.out.only ho ZG.out)
  have O3 := Lib.hid (O2.out.trans ho)
  clear hc ho
  have AV := Lib.hid (show (⟨k, ⟨x, M.zero8⟩⟩ : Am).Ok from ⟨KO.out, VO.out⟩)
  clear s2
  have n0 := VO.out.n0
  have d1 : x.tdiv 256 = x / 256 := Int.tdiv_eq_ediv_of_nonneg n0
  have d2 : IntKind.u64.wrap (x / 256) = x / 256 := by have h0 : 0 ≤ x := n0; have h1 : x < 18446744073709551616 := VO.out.n1; rw [IntKind.wrap_u64]; omega
  have d3 : x.tmod 256 = x % 256 := Int.tmod_eq_emod_of_nonneg n0
  go_wp2_with (first
    | go_skip
    | refine wpList_val rfl (.int .u64 x) (exec_fieldX _ rfl (pNum x v3) rfl) ?_
    | (refine wpList_store_an rfl _ _ rfl w1.heap.size (⟨k, vzero⟩ : Am) x rfl rfl K3.out AO.out ?_; intro w4 K4 OS; have C4 := Lib.hid (C3.out.only OS.out GN.out RN.out); have R4 := Lib.hid (R3.out.only OS.out ZN.out); have O4 := Lib.hid (O3.out.new OS.out LN.out); have eE := refE C4.out; have cN := K4.out.cell (ac12 AV.out); clear OS))
  refine (refAfail_is g R 3 l2 _ C4.out).mono ?_
  rintro rr w9 ⟨rfl, hc, ho⟩
  have C9 := Lib.hid hc
  have R9 := Lib.hid (R4.out.only ho ZG.out)
  have O9 := Lib.hid (O4.out.trans ho)
  clear hc ho
  go_wp2_with (refine wpList_store_am rfl _ _ rfl w.heap.size azero azero rfl rfl R9.out azero_ok azero_ok ?_; intro wz KZ OZ)
  refine bodyPost_ret (results_am rfl _ _ w.heap.size azero rfl KZ.out azero_ok) rfl ?_
  exact ⟨rfl, C9.out.only OZ.out GZ.out RZ.out, O9.out.new OZ.out (Nat.le_refl _)⟩
set_option maxRecDepth 100000 in
set_option maxHeartbeats 1000000 in
theorem ia_4o (g : Nat) (R : Option Nat) (l l1 : List Int) (l2 : List Int) (k : Ky) (x : Int) (l3 m : List Int) (w : World) (h : RefAt w g R 0 l) (HK : Hid (∀ W, RefAt W g R 0 l → Calls Tryz.prog 28 #[.pointer (some ⟨g, 0, none⟩)] W (Ins W g R k 0 l1))) (KO : Hid k.Ok) (HS : Hid (k.s = 4)) (H1 : Hid (RdP g R (pNum 1099511627775 (.slice none 0 0)) 0 l1 (pNum x) 0 l2)) (VO : Hid (⟨x, M.zero8⟩ : Vl).Ok) (t1 : decide (16 ≤ x % 256) = false) (t2 : (x / 256 == 0) = false) (H2 : Hid (RdP g R (blank 2) 0 l2 (pName m) 0 l3)) (MO : Hid (⟨x, m⟩ : Vl).Ok) :
    Calls Tryz.prog 13 #[.pointer (some ⟨g, 0, none⟩)] w (InsA w g R (⟨k, ⟨x, m⟩⟩ : Am) 0 l3) := by
  have hz := zero32
  have AO := Lib.hid (show (⟨k, vzero⟩ : Am).Ok from ⟨KO.out, vzero_ok⟩)
  have GZ := Lib.hid (h.far (Nat.le_refl w.heap.size)).1
  have RZ := Lib.hid (h.far (Nat.le_refl w.heap.size)).2
  have ZG := Lib.hid GZ.out.symm
  have R0 := Lib.hid (blk_alloc w 32 azero.cells)
  have C0 := Lib.hid (h.alloc (.cells azero.cells.toArray 32))
  have O0 := Lib.hid ((Only.refl g w).alloc (.cells azero.cells.toArray 32))
  clear h
  go_enter Tryz.func13, Tryz.ntmps13
  go_wp2_with fail
  refine (HK.out _ C0.out).mono ?_
  rintro rr w1 ⟨rfl, hc, ho⟩
  have GN := Lib.hid (hc.far (Nat.le_refl w1.heap.size)).1
  have RN := Lib.hid (hc.far (Nat.le_refl w1.heap.size)).2
  have NG := Lib.hid GN.out.symm
  have ZN := Lib.hid (Nat.ne_of_lt (R0.out.only ho ZG.out).lt)
  have LN := Lib.hid (Nat.le_of_lt (R0.out.only ho ZG.out).lt)
  have C1 := Lib.hid (hc.alloc (.cells azero.cells.toArray 32))
  have K1 := Lib.hid (blk_alloc w1 32 azero.cells)
  have R1 := Lib.hid ((R0.out.only ho ZG.out).alloc (.cells azero.cells.toArray 32))
  have O1 := Lib.hid ((O0.out.trans ho).alloc (.cells azero.cells.toArray 32))
  clear hc ho
  go_wp2_with (first
    | go_skip
    | refine wpList_build rfl 32 _ rfl [(0, .agg k.cells.toArray)] rfl _ (built32_1 k KO.out.ml) ?_
    | (refine wpList_store_am rfl _ _ rfl w1.heap.size azero (⟨k, vzero⟩ : Am) rfl rfl K1.out azero_ok AO.out ?_; intro w2 K2 OS; have C2 := Lib.hid (C1.out.only OS.out GN.out RN.out); have R2 := Lib.hid (R1.out.only OS.out ZN.out); have O2 := Lib.hid (O1.out.new OS.out LN.out); have s2 := K2.out.cell (ac0 (⟨k, vzero⟩ : Am)); rw [show (⟨k, vzero⟩ : Am).k.s = 4 from HS.out] at s2; clear OS)
    | refine wpList_build rfl 56 _ rfl [(1, .int .u64 1099511627775)] rfl _ (built76_1 1099511627775) ?_)
  refine (H1.out _ C2.out).mono ?_
  rintro rr w3 ⟨v3, rfl, hc, ho⟩
  have C3 := Lib.hid hc
  have K3 := Lib.hid (K2.out.only ho NG.out)
  have R3 := Lib.hid (R2.out.only ho ZG.out)
  have O3 := Lib.hid (O2.out.trans ho)
  clear hc ho
  have AV := Lib.hid (show (⟨k, ⟨x, M.zero8⟩⟩ : Am).Ok from ⟨KO.out, VO.out⟩)
  clear s2
  have n0 := VO.out.n0
  have d1 : x.tdiv 256 = x / 256 := Int.tdiv_eq_ediv_of_nonneg n0
  have d2 : IntKind.u64.wrap (x / 256) = x / 256 := by have h0 : 0 ≤ x := n0; have h1 : x < 18446744073709551616 := VO.out.n1; rw [IntKind.wrap_u64]; omega
  have d3 : x.tmod 256 = x % 256 := Int.tmod_eq_emod_of_nonneg n0
  go_wp2_with (first
    | go_skip
    | refine wpList_val rfl (.int .u64 x) (exec_fieldX _ rfl (pNum x v3) rfl) ?_
    | (refine wpList_store_an rfl _ _ rfl w1.heap.size (⟨k, vzero⟩ : Am) x rfl rfl K3.out AO.out ?_; intro w4 K4 OS; have C4 := Lib.hid (C3.out.only OS.out GN.out RN.out); have R4 := Lib.hid (R3.out.only OS.out ZN.out); have O4 := Lib.hid (O3.out.new OS.out LN.out); have eE := refE C4.out; have cN := K4.out.cell (ac12 AV.out); clear OS)
    | refine wpList_blank rfl _ rfl 2 rfl ?_)
  refine (H2.out _ C4.out).mono ?_
  rintro rr w5 ⟨v5, rfl, hc, ho⟩
  have C5 := Lib.hid hc
  have K5 := Lib.hid (K4.out.only ho NG.out)
  have R5 := Lib.hid (R4.out.only ho ZG.out)
  have O5 := Lib.hid (O4.out.trans ho)
  clear hc ho
  have AM := Lib.hid (show (⟨k, ⟨x, m⟩⟩ : Am).Ok from ⟨KO.out, MO.out⟩)
  clear eE cN
  go_wp2_with (first
    | go_skip
    | refine wpList_val rfl (.agg (nm m)) (exec_fieldN _ rfl (pName m v5) rfl MO.out.tl) ?_
    | (refine wpList_store_avt rfl _ _ rfl w1.heap.size (⟨k, ⟨x, M.zero8⟩⟩ : Am) m rfl rfl K5.out AV.out MO.out.tl ?_; intro w6 K6 OS; have C6 := Lib.hid (C5.out.only OS.out GN.out RN.out); have R6 := Lib.hid (R5.out.only OS.out ZN.out); have O6 := Lib.hid (O5.out.new OS.out LN.out); have eF := refE C6.out; clear OS)
    | refine wpList_load_am rfl _ rfl w1.heap.size (⟨k, ⟨x, m⟩⟩ : Am) rfl K6.out AM.out ?_
    | (refine wpList_store_am rfl _ _ rfl w.heap.size azero (⟨k, ⟨x, m⟩⟩ : Am) rfl rfl R6.out azero_ok AM.out ?_; intro wz KZ OZ))
  refine bodyPost_ret (results_am rfl _ _ w.heap.size (⟨k, ⟨x, m⟩⟩ : Am) rfl KZ.out AM.out) rfl ?_
  exact ⟨rfl, C6.out.only OZ.out GZ.out RZ.out, O6.out.new OZ.out (Nat.le_refl _)⟩
set_option maxRecDepth 100000 in
set_option maxHeartbeats 1000000 in
theorem ia_4n (g : Nat) (R : Option Nat) (l l1 : List Int) (l2 : List Int) (k : Ky) (x : Int) (l3 m : List Int) (e3 : Int) (w : World) (h : RefAt w g R 0 l) (HK : Hid (∀ W, RefAt W g R 0 l → Calls Tryz.prog 28 #[.pointer (some ⟨g, 0, none⟩)] W (Ins W g R k 0 l1))) (KO : Hid k.Ok) (HS : Hid (k.s = 4)) (H1 : Hid (RdP g R (pNum 1099511627775 (.slice none 0 0)) 0 l1 (pNum x) 0 l2)) (VO : Hid (⟨x, M.zero8⟩ : Vl).Ok) (t1 : decide (16 ≤ x % 256) = false) (t2 : (x / 256 == 0) = false) (H2 : Hid (RdP g R (blank 2) 0 l2 (pName m) e3 l3)) (MO : Hid (⟨x, m⟩ : Vl).Ok) (z3 : ¬ e3 = 0) :
    Calls Tryz.prog 13 #[.pointer (some ⟨g, 0, none⟩)] w (InsA w g R azero e3 l3) := by
  have hz := zero32
  have AO := Lib.hid (show (⟨k, vzero⟩ : Am).Ok from ⟨KO.out, vzero_ok⟩)
  have GZ := Lib.hid (h.far (Nat.le_refl w.heap.size)).1
  have RZ := Lib.hid (h.far (Nat.le_refl w.heap.size)).2
  have ZG := Lib.hid GZ.out.symm
  have R0 := Lib.hid (blk_alloc w 32 azero.cells)
  have C0 := Lib.hid (h.alloc (.cells azero.cells.toArray 32))
  have O0 := Lib.hid ((Only.refl g w).alloc (.cells azero.cells.toArray 32))
  clear h
  go_enter Tryz.func13, Tryz.ntmps13
  go_wp2_with fail
  refine (HK.out _ C0.out).mono ?_
  rintro rr w1 ⟨rfl, hc, ho⟩
  have GN := Lib.hid (hc.far (Nat.le_refl w1.heap.size)).1
  have RN := Lib.hid (hc.far (Nat.le_refl w1.heap.size)).2
  have NG := Lib.hid GN.out.symm
  have ZN := Lib.hid (Nat.ne_of_lt (R0.out.only ho ZG.out).lt)
  have LN := Lib.hid (Nat.le_of_lt (R0.out.only ho ZG.out).lt)
  have C1 := Lib.hid (hc.alloc (.cells azero.cells.toArray 32))
  have K1 := Lib.hid (blk_alloc w1 32 azero.cells)
  have R1 := Lib.hid ((R0.out.only ho ZG.out).alloc (.cells azero.cells.toArray 32))
  have O1 := Lib.hid ((O0.out.trans ho).alloc (.cells azero.cells.toArray 32))
  clear hc ho
  go_wp2_with (first
    | go_skip
    | refine wpList_build rfl 32 _ rfl [(0, .agg k.cells.toArray)] rfl _ (built32_1 k KO.out.ml) ?_
    | (refine wpList_store_am rfl _ _ rfl w1.heap.size azero (⟨k, vzero⟩ : Am) rfl rfl K1.out azero_ok AO.out ?_; intro w2 K2 OS; have C2 := Lib.hid (C1.out.only OS.out GN.out RN.out); have R2 := Lib.hid (R1.out.only OS.out ZN.out); have O2 := Lib.hid (O1.out.new OS.out LN.out); have s2 := K2.out.cell (ac0 (⟨k, vzero⟩ : Am)); rw [show (⟨k, vzero⟩ : Am).k.s = 4 from HS.out] at s2; clear OS)
    | refine wpList_build rfl 56 _ rfl [(1, .int .u64 1099511627775)] rfl _ (built76_1 1099511627775) ?_)
  refine (H1.out _ C2.out).mono ?_
  rintro rr w3 ⟨v3, rfl, hc, ho⟩
  have C3 := Lib.hid hc
  have K3 := Lib.hid (K2.out.only ho NG.out)
  have R3 := Lib.hid (R2.out.only ho ZG.out)
  have O3 := Lib.hid (O2.out.trans ho)
  clear hc ho
  have AV := Lib.hid (show (⟨k, ⟨x, M.zero8⟩⟩ : Am).Ok from ⟨KO.out, VO.out⟩)
  clear s2
  have n0 := VO.out.n0
  have d1 : x.tdiv 256 = x / 256 := Int.tdiv_eq_ediv_of_nonneg n0
  have d2 : IntKind.u64.wrap (x / 256) = x / 256 := by have h0 : 0 ≤ x := n0; have h1 : x < 18446744073709551616 := VO.out.n1; rw [IntKind.wrap_u64]; omega
  have d3 : x.tmod 256 = x % 256 := Int.tmod_eq_emod_of_nonneg n0
  go_wp2_with (first
    | go_skip
    | refine wpList_val rfl (.int .u64 x) (exec_fieldX _ rfl (pNum x v3) rfl) ?_
    | (refine wpList_store_an rfl _ _ rfl w1.heap.size (⟨k, vzero⟩ : Am) x rfl rfl K3.out AO.out ?_; intro w4 K4 OS; have C4 := Lib.hid (C3.out.only OS.out GN.out RN.out); have R4 := Lib.hid (R3.out.only OS.out ZN.out); have O4 := Lib.hid (O3.out.new OS.out LN.out); have eE := refE C4.out; have cN := K4.out.cell (ac12 AV.out); clear OS)
    | refine wpList_blank rfl _ rfl 2 rfl ?_)
  refine (H2.out _ C4.out).mono ?_
  rintro rr w5 ⟨v5, rfl, hc, ho⟩
  have C5 := Lib.hid hc
  have K5 := Lib.hid (K4.out.only ho NG.out)
  have R5 := Lib.hid (R4.out.only ho ZG.out)
  have O5 := Lib.hid (O4.out.trans ho)
  clear hc ho
  have AM := Lib.hid (show (⟨k, ⟨x, m⟩⟩ : Am).Ok from ⟨KO.out, MO.out⟩)
  clear eE cN
  go_wp2_with (first
    | go_skip
    | refine wpList_val rfl (.agg (nm m)) (exec_fieldN _ rfl (pName m v5) rfl MO.out.tl) ?_
    | (refine wpList_store_avt rfl _ _ rfl w1.heap.size (⟨k, ⟨x, M.zero8⟩⟩ : Am) m rfl rfl K5.out AV.out MO.out.tl ?_; intro w6 K6 OS; have C6 := Lib.hid (C5.out.only OS.out GN.out RN.out); have R6 := Lib.hid (R5.out.only OS.out ZN.out); have O6 := Lib.hid (O5.out.new OS.out LN.out); have eF := refE C6.out; clear OS)
    | refine wpList_build rfl 32 _ rfl [] rfl _ built32_0 ?_
    | (refine wpList_store_am rfl _ _ rfl w.heap.size azero azero rfl rfl R6.out azero_ok azero_ok ?_; intro wz KZ OZ))
  refine bodyPost_ret (results_am rfl _ _ w.heap.size azero rfl KZ.out azero_ok) rfl ?_
  exact ⟨rfl, C6.out.only OZ.out GZ.out RZ.out, O6.out.new OZ.out (Nat.le_refl _)⟩
set_option maxRecDepth 100000 in
set_option maxHeartbeats 1000000 in
theorem ia_4z (g : Nat) (R : Option Nat) (l l1 : List Int) (l2 : List Int) (k : Ky) (x e2 : Int) (l3 m : List Int) (e3 : Int) (w : World) (h : RefAt w g R 0 l) (HK : Hid (∀ W, RefAt W g R 0 l → Calls Tryz.prog 28 #[.pointer (some ⟨g, 0, none⟩)] W (Ins W g R k 0 l1))) (KO : Hid k.Ok) (HS : Hid (k.s = 4)) (H1 : Hid (RdP g R (pNum 1099511627775 (.slice none 0 0)) 0 l1 (pNum x) e2 l2)) (VO : Hid (⟨x, M.zero8⟩ : Vl).Ok) (z2 : ¬ e2 = 0) (H2 : Hid (RdP g R (blank 2) e2 l2 (pName m) e3 l3)) (MO : Hid (⟨x, m⟩ : Vl).Ok) (z3 : ¬ e3 = 0) :
    Calls Tryz.prog 13 #[.pointer (some ⟨g, 0, none⟩)] w (InsA w g R azero e3 l3) := by
  have hz := zero32
  have AO := Lib.hid (show (⟨k, vzero⟩ : Am).Ok from ⟨KO.out, vzero_ok⟩)
  have GZ := Lib.hid (h.far (Nat.le_refl w.heap.size)).1
  have RZ := Lib.hid (h.far (Nat.le_refl w.heap.size)).2
  have ZG := Lib.hid GZ.out.symm
  have R0 := Lib.hid (blk_alloc w 32 azero.cells)
  have C0 := Lib.hid (h.alloc (.cells azero.cells.toArray 32))
  have O0 := Lib.hid ((Only.refl g w).alloc (.cells azero.cells.toArray 32))
  clear h
  go_enter Tryz.func13, Tryz.ntmps13
  go_wp2_with fail
  refine (HK.out _ C0.out).mono ?_
  rintro rr w1 ⟨rfl, hc, ho⟩
  have GN := Lib.hid (hc.far (Nat.le_refl w1.heap.size)).1
  have RN := Lib.hid (hc.far (Nat.le_refl w1.heap.size)).2
  have NG := Lib.hid GN.out.symm
  have ZN := Lib.hid (Nat.ne_of_lt (R0.out.only ho ZG.out).lt)
  have LN := Lib.hid (Nat.le_of_lt (R0.out.only ho ZG.out).lt)
  have C1 := Lib.hid (hc.alloc (.cells azero.cells.toArray 32))
  have K1 := Lib.hid (blk_alloc w1 32 azero.cells)
  have R1 := Lib.hid ((R0.out.only ho ZG.out).alloc (.cells azero.cells.toArray 32))
  have O1 := Lib.hid ((O0.out.trans ho).alloc (.cells azero.cells.toArray 32))
  clear hc ho
  go_wp2_with (first
    | go_skip
    | refine wpList_build rfl 32 _ rfl [(0, .agg k.cells.toArray)] rfl _ (built32_1 k KO.out.ml) ?_
    | (refine wpList_store_am rfl _ _ rfl w1.heap.size azero (⟨k, vzero⟩ : Am) rfl rfl K1.out azero_ok AO.out ?_; intro w2 K2 OS; have C2 := Lib.hid (C1.out.only OS.out GN.out RN.out); have R2 := Lib.hid (R1.out.only OS.out ZN.out); have O2 := Lib.hid (O1.out.new OS.out LN.out); have s2 := K2.out.cell (ac0 (⟨k, vzero⟩ : Am)); rw [show (⟨k, vzero⟩ : Am).k.s = 4 from HS.out] at s2; clear OS)
    | refine wpList_build rfl 56 _ rfl [(1, .int .u64 1099511627775)] rfl _ (built76_1 1099511627775) ?_)
  refine (H1.out _ C2.out).mono ?_
  rintro rr w3 ⟨v3, rfl, hc, ho⟩
  have C3 := Lib.hid hc
  have K3 := Lib.hid (K2.out.only ho NG.out)
  have R3 := Lib.hid (R2.out.only ho ZG.out)
  have O3 := Lib.hid (O2.out.trans ho)
  clear hc ho
  have AV := Lib.hid (show (⟨k, ⟨x, M.zero8⟩⟩ : Am).Ok from ⟨KO.out, VO.out⟩)
  clear s2
  have n0 := VO.out.n0
  have d1 : x.tdiv 256 = x / 256 := Int.tdiv_eq_ediv_of_nonneg n0
  have d2 : IntKind.u64.wrap (x / 256) = x / 256 := by have h0 : 0 ≤ x := n0; have h1 : x < 18446744073709551616 := VO.out.n1; rw [IntKind.wrap_u64]; omega
  have d3 : x.tmod 256 = x % 256 := Int.tmod_eq_emod_of_nonneg n0
  go_wp2_with (first
    | go_skip
    | refine wpList_val rfl (.int .u64 x) (exec_fieldX _ rfl (pNum x v3) rfl) ?_
    | (refine wpList_store_an rfl _ _ rfl w1.heap.size (⟨k, vzero⟩ : Am) x rfl rfl K3.out AO.out ?_; intro w4 K4 OS; have C4 := Lib.hid (C3.out.only OS.out GN.out RN.out); have R4 := Lib.hid (R3.out.only OS.out ZN.out); have O4 := Lib.hid (O3.out.new OS.out LN.out); have eE := refE C4.out; have cN := K4.out.cell (ac12 AV.out); clear OS)
    | refine wpList_blank rfl _ rfl 2 rfl ?_)
  refine (H2.out _ C4.out).mono ?_
  rintro rr w5 ⟨v5, rfl, hc, ho⟩
  have C5 := Lib.hid hc
  have K5 := Lib.hid (K4.out.only ho NG.out)
  have R5 := Lib.hid (R4.out.only ho ZG.out)
  have O5 := Lib.hid (O4.out.trans ho)
  clear hc ho
  have AM := Lib.hid (show (⟨k, ⟨x, m⟩⟩ : Am).Ok from ⟨KO.out, MO.out⟩)
  clear eE cN
  go_wp2_with (first
    | go_skip
    | refine wpList_val rfl (.agg (nm m)) (exec_fieldN _ rfl (pName m v5) rfl MO.out.tl) ?_
    | (refine wpList_store_avt rfl _ _ rfl w1.heap.size (⟨k, ⟨x, M.zero8⟩⟩ : Am) m rfl rfl K5.out AV.out MO.out.tl ?_; intro w6 K6 OS; have C6 := Lib.hid (C5.out.only OS.out GN.out RN.out); have R6 := Lib.hid (R5.out.only OS.out ZN.out); have O6 := Lib.hid (O5.out.new OS.out LN.out); have eF := refE C6.out; clear OS)
    | refine wpList_build rfl 32 _ rfl [] rfl _ built32_0 ?_
    | (refine wpList_store_am rfl _ _ rfl w.heap.size azero azero rfl rfl R6.out azero_ok azero_ok ?_; intro wz KZ OZ))
  refine bodyPost_ret (results_am rfl _ _ w.heap.size azero rfl KZ.out azero_ok) rfl ?_
  exact ⟨rfl, C6.out.only OZ.out GZ.out RZ.out, O6.out.new OZ.out (Nat.le_refl _)⟩
end Go.Proofs.YteggjihhjdeieaaGreat
