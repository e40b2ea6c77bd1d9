/- Read of the reference's cursor, at bytes. -/
import Derived.Test.YteggjihhjdeieaaGreatRefRead
namespace Go.Proofs.YteggjihhjdeieaaGreat
open Go.RowKit

set_option maxRecDepth 100000 in
set_option maxHeartbeats 2000000 in
theorem ref3_num (g : Nat) (R : Option Nat) (p : Pc) (v : Value) (l : List Int) (e t : Int) (w : World) (h : RefC w g R 0 v l) (hp : p.Ok w) (hd0 : ¬ p.d = 0) (hd1 : ¬ p.d = 1) (hd2 : ¬ p.d = 2) (hm : (0 ≤ p.n ∧ t = p.n) ∨ (p.n < 0 ∧ t = 0)) (hr : Hid (M.rNum t l = .bad e)) (he : e ≠ 0) :
    Calls Tryz.prog 29 #[.pointer (some ⟨g, 0, none⟩), .agg p.cells.toArray] w (RefsP w g R p.d (.bad e)) := by
  have hn1 := hp.n1
  have hz := zero33
  have c00 := ((blk_alloc w 56 p.cells).alloc (.cells (blank 0).cells.toArray 56)).cell (cells0 p)
  have Q3 := Lib.hid (((blk_alloc w 56 p.cells).alloc (.cells (blank 0).cells.toArray 56)).alloc (.cells (blank 0).cells.toArray 56))
  have Q4 := Lib.hid ((blk2 w (.cells p.cells.toArray 56) 56 (blank 0).cells).alloc (.cells (blank 0).cells.toArray 56))
  have Q5 := Lib.hid (blk3 w (.cells p.cells.toArray 56) (.cells (blank 0).cells.toArray 56) 56 (blank 0).cells)
  have HO := Lib.hid ((((Only.refl w.heap.size w).alloc (.cells p.cells.toArray 56)).alloc (.cells (blank 0).cells.toArray 56)).alloc (.cells (blank 0).cells.toArray 56))
  have HF3 := Lib.hid (h.far (Nat.le_refl _))
  have HF4 := Lib.hid (h.far (Nat.le_add_right _ 1))
  have HF5 := Lib.hid (h.far (Nat.le_add_right _ 2))
  have HC := Lib.hid (((h.alloc (.cells p.cells.toArray 56)).alloc (.cells (blank 0).cells.toArray 56)).alloc (.cells (blank 0).cells.toArray 56))
  have HP := Lib.hid hp
  obtain ⟨a, cap, rfl⟩ := h.2.1.shape
  clear h hp
  have n35 : w.heap.size ≠ w.heap.size + 2 := by omega
  have n45 : w.heap.size + 1 ≠ w.heap.size + 2 := by omega
  have N35 := Lib.hid n35
  have N45 := Lib.hid n45
  clear n35 n45
  go_enter Tryz.func29, Tryz.ntmps29
  rcases hm with ⟨hm0, rfl⟩ | ⟨hm0, rfl⟩
  · have HWN := Lib.hid (show IntKind.u64.wrap (if p.n < 0 then 0 else p.n) = p.n by rw [if_neg (by omega), IntKind.wrap_u64]; omega)
    go_wp2_with (first
      | refine wpList_blank rfl _ rfl p.d rfl ?_
      | (refine wpList_store_pc rfl _ _ rfl (w.heap.size + 2) (blank 0) (blank p.d) rfl rfl Q5.out rfl rfl rfl ?_; intro w1 N1 O1; have C1 := Lib.hid (HC.out.only O1.out HF5.out.1 HF5.out.2); have K3 := Lib.hid (Q3.out.only O1.out N35.out); have K4 := Lib.hid (Q4.out.only O1.out N45.out); have c0 := K3.out.cell (cells0 p); have cB := C1.out.1.cell (i := 0) rfl; have cE := C1.out.1.cell (i := 1) rfl; have fB := C1.out.1.frozen 0; have fE := C1.out.1.frozen 1; have OO1 := Lib.hid (Only.new (Only.new (Only.refl g w) HO.out (Nat.le_refl _)) O1.out (Nat.le_add_right _ 2)); have cN := K3.out.cell (cells12 HP.out.ml)))
    go_region_held3 (fun W => W.cell? ⟨g, 0, none⟩ = some (.slice a l.length cap) ∧ W.cell? ⟨w.heap.size, 12, none⟩ = some (.int .i64 p.n)) (first | exact ⟨cB, cN⟩ | exact ⟨s1, s2⟩) (first
      | (go_at_call 55; rw [HWN.out]; refine (numR_bad R p.n e _ l _ C1.out.drew.2.1 hr).mono ?_; rintro r w2 ⟨xq, aq, nq, capq, rfl, hb0⟩; have C2 := Lib.hid (C1.out.below (undrew hb0)); have N2 := Lib.hid (N1.out.below (undrew hb0)); have K32 := Lib.hid (K3.out.below (undrew hb0)); have K42 := Lib.hid (K4.out.below (undrew hb0)); have OO2 := Lib.hid (OO1.out.trans (Only.of_below (undrew hb0))); have s1 := C2.out.1.cell (i := 0) rfl; have s2 := K32.out.cell (cells12 HP.out.ml); clear hb0))
    clear s1 s2 cB cN cE fB fE c0 c00
    have cBz := C2.out.1.cell (i := 0) rfl
    have fBz := C2.out.1.frozen 0
    have eB := (C2.out.1.set 0 (.slice none 0 0)).cell (i := 1) rfl
    have fB2 := (C2.out.1.set 0 (.slice none 0 0)).frozen 1
    have CZ := Lib.hid (ref_drop C2.out e)
    have OZ := Lib.hid ((Only.set g 0 w2 (.slice none 0 0)).trans (Only.set g 1 _ (.int .i64 e)))
    have K3Z := Lib.hid (K32.out.only OZ.out HF3.out.1.symm)
    have K4Z := Lib.hid (K42.out.only OZ.out HF4.out.1.symm)
    have z0 := K3Z.out.cell (cells0 p)
    go_wp2_with (first
      | refine wpList_blank rfl _ rfl p.d rfl ?_
      | (refine wpList_store_pc rfl _ _ rfl (w.heap.size + 1) (blank 0) (blank p.d) rfl rfl K4Z.out rfl rfl rfl ?_; intro w9 N9 O9))
    refine bodyPost_ret (results_pc rfl _ _ (w.heap.size + 1) _ rfl N9.out rfl) rfl ?_
    exact refs_bad (by rfl) (CZ.out.only O9.out HF4.out.1 HF4.out.2) ((OO2.out.trans OZ.out).new O9.out (Nat.le_add_right _ 1))
  · have HWN := Lib.hid (show IntKind.u64.wrap 0 = 0 from rfl)
    go_wp2_with (first
      | refine wpList_blank rfl _ rfl p.d rfl ?_
      | (refine wpList_store_pc rfl _ _ rfl (w.heap.size + 2) (blank 0) (blank p.d) rfl rfl Q5.out rfl rfl rfl ?_; intro w1 N1 O1; have C1 := Lib.hid (HC.out.only O1.out HF5.out.1 HF5.out.2); have K3 := Lib.hid (Q3.out.only O1.out N35.out); have K4 := Lib.hid (Q4.out.only O1.out N45.out); have c0 := K3.out.cell (cells0 p); have cB := C1.out.1.cell (i := 0) rfl; have cE := C1.out.1.cell (i := 1) rfl; have fB := C1.out.1.frozen 0; have fE := C1.out.1.frozen 1; have OO1 := Lib.hid (Only.new (Only.new (Only.refl g w) HO.out (Nat.le_refl _)) O1.out (Nat.le_add_right _ 2)); have cN := K3.out.cell (cells12 HP.out.ml)))
    go_region_held3 (fun W => W.cell? ⟨g, 0, none⟩ = some (.slice a l.length cap) ∧ W.cell? ⟨w.heap.size, 12, none⟩ = some (.int .i64 p.n)) (first | exact ⟨cB, cN⟩ | exact ⟨s1, s2⟩) (first
      | (go_at_call 55; rw [HWN.out]; refine (numR_bad R 0 e _ l _ C1.out.drew.2.1 hr).mono ?_; rintro r w2 ⟨xq, aq, nq, capq, rfl, hb0⟩; have C2 := Lib.hid (C1.out.below (undrew hb0)); have N2 := Lib.hid (N1.out.below (undrew hb0)); have K32 := Lib.hid (K3.out.below (undrew hb0)); have K42 := Lib.hid (K4.out.below (undrew hb0)); have OO2 := Lib.hid (OO1.out.trans (Only.of_below (undrew hb0))); have s1 := C2.out.1.cell (i := 0) rfl; have s2 := K32.out.cell (cells12 HP.out.ml); clear hb0))
    clear s1 s2 cB cN cE fB fE c0 c00
    have cBz := C2.out.1.cell (i := 0) rfl
    have fBz := C2.out.1.frozen 0
    have eB := (C2.out.1.set 0 (.slice none 0 0)).cell (i := 1) rfl
    have fB2 := (C2.out.1.set 0 (.slice none 0 0)).frozen 1
    have CZ := Lib.hid (ref_drop C2.out e)
    have OZ := Lib.hid ((Only.set g 0 w2 (.slice none 0 0)).trans (Only.set g 1 _ (.int .i64 e)))
    have K3Z := Lib.hid (K32.out.only OZ.out HF3.out.1.symm)
    have K4Z := Lib.hid (K42.out.only OZ.out HF4.out.1.symm)
    have z0 := K3Z.out.cell (cells0 p)
    go_wp2_with (first
      | refine wpList_blank rfl _ rfl p.d rfl ?_
      | (refine wpList_store_pc rfl _ _ rfl (w.heap.size + 1) (blank 0) (blank p.d) rfl rfl K4Z.out rfl rfl rfl ?_; intro w9 N9 O9))
    refine bodyPost_ret (results_pc rfl _ _ (w.heap.size + 1) _ rfl N9.out rfl) rfl ?_
    exact refs_bad (by rfl) (CZ.out.only O9.out HF4.out.1 HF4.out.2) ((OO2.out.trans OZ.out).new O9.out (Nat.le_add_right _ 1))
set_option maxRecDepth 100000 in
set_option maxHeartbeats 2000000 in
theorem ref3_short (g : Nat) (R : Option Nat) (p : Pc) (v : Value) (l : List Int) (x t : Int) (rest : List Int) (w : World) (h : RefC w g R 0 v l) (hp : p.Ok w) (hd0 : ¬ p.d = 0) (hd1 : ¬ p.d = 1) (hd2 : ¬ p.d = 2) (hm : (0 ≤ p.n ∧ t = p.n) ∨ (p.n < 0 ∧ t = 0)) (hr : Hid (M.rNum t l = .got x rest)) (hrl : rest.length ≤ 30000) (hx : (rest.length : Int) < x) :
    Calls Tryz.prog 29 #[.pointer (some ⟨g, 0, none⟩), .agg p.cells.toArray] w (RefsP w g R p.d (.bad 4)) := by
  have hwl : IntKind.u64.wrap (rest.length : Int) = (rest.length : Int) := by rw [IntKind.wrap_u64]; omega
  have hn1 := hp.n1
  have hz := zero33
  have c00 := ((blk_alloc w 56 p.cells).alloc (.cells (blank 0).cells.toArray 56)).cell (cells0 p)
  have Q3 := Lib.hid (((blk_alloc w 56 p.cells).alloc (.cells (blank 0).cells.toArray 56)).alloc (.cells (blank 0).cells.toArray 56))
  have Q4 := Lib.hid ((blk2 w (.cells p.cells.toArray 56) 56 (blank 0).cells).alloc (.cells (blank 0).cells.toArray 56))
  have Q5 := Lib.hid (blk3 w (.cells p.cells.toArray 56) (.cells (blank 0).cells.toArray 56) 56 (blank 0).cells)
  have HO := Lib.hid ((((Only.refl w.heap.size w).alloc (.cells p.cells.toArray 56)).alloc (.cells (blank 0).cells.toArray 56)).alloc (.cells (blank 0).cells.toArray 56))
  have HF3 := Lib.hid (h.far (Nat.le_refl _))
  have HF4 := Lib.hid (h.far (Nat.le_add_right _ 1))
  have HF5 := Lib.hid (h.far (Nat.le_add_right _ 2))
  have HC := Lib.hid (((h.alloc (.cells p.cells.toArray 56)).alloc (.cells (blank 0).cells.toArray 56)).alloc (.cells (blank 0).cells.toArray 56))
  have HP := Lib.hid hp
  obtain ⟨a, cap, rfl⟩ := h.2.1.shape
  clear h hp
  have n35 : w.heap.size ≠ w.heap.size + 2 := by omega
  have n45 : w.heap.size + 1 ≠ w.heap.size + 2 := by omega
  have N35 := Lib.hid n35
  have N45 := Lib.hid n45
  clear n35 n45
  go_enter Tryz.func29, Tryz.ntmps29
  rcases hm with ⟨hm0, rfl⟩ | ⟨hm0, rfl⟩
  · have HWN := Lib.hid (show IntKind.u64.wrap (if p.n < 0 then 0 else p.n) = p.n by rw [if_neg (by omega), IntKind.wrap_u64]; omega)
    go_wp2_with (first
      | refine wpList_blank rfl _ rfl p.d rfl ?_
      | (refine wpList_store_pc rfl _ _ rfl (w.heap.size + 2) (blank 0) (blank p.d) rfl rfl Q5.out rfl rfl rfl ?_; intro w1 N1 O1; have C1 := Lib.hid (HC.out.only O1.out HF5.out.1 HF5.out.2); have K3 := Lib.hid (Q3.out.only O1.out N35.out); have K4 := Lib.hid (Q4.out.only O1.out N45.out); have c0 := K3.out.cell (cells0 p); have cB := C1.out.1.cell (i := 0) rfl; have cE := C1.out.1.cell (i := 1) rfl; have fB := C1.out.1.frozen 0; have fE := C1.out.1.frozen 1; have OO1 := Lib.hid (Only.new (Only.new (Only.refl g w) HO.out (Nat.le_refl _)) O1.out (Nat.le_add_right _ 2)); have cN := K3.out.cell (cells12 HP.out.ml)))
    go_region_held3 (fun W => W.cell? ⟨g, 0, none⟩ = some (.slice a l.length cap) ∧ W.cell? ⟨w.heap.size, 12, none⟩ = some (.int .i64 p.n)) (first | exact ⟨cB, cN⟩ | exact ⟨s1, s2⟩) (first
      | (go_at_call 55; rw [HWN.out]; refine (numR_got R p.n x _ l rest _ C1.out.drew.2.1 hr).mono ?_; rintro r w2 ⟨aq, capq, rfl, hvq, hb0⟩; have VQ := Lib.hid hvq; clear hvq; have C2 := Lib.hid (C1.out.below (undrew hb0)); have N2 := Lib.hid (N1.out.below (undrew hb0)); have K32 := Lib.hid (K3.out.below (undrew hb0)); have K42 := Lib.hid (K4.out.below (undrew hb0)); have OO2 := Lib.hid (OO1.out.trans (Only.of_below (undrew hb0))); have s1 := C2.out.1.cell (i := 0) rfl; have s2 := K32.out.cell (cells12 HP.out.ml); clear hb0))
    clear s1 s2 cB cN cE fB fE c0 c00
    have cBz := C2.out.1.cell (i := 0) rfl
    have fBz := C2.out.1.frozen 0
    have eB := (C2.out.1.set 0 (.slice none 0 0)).cell (i := 1) rfl
    have fB2 := (C2.out.1.set 0 (.slice none 0 0)).frozen 1
    have CZ := Lib.hid (ref_drop C2.out 4)
    have OZ := Lib.hid ((Only.set g 0 w2 (.slice none 0 0)).trans (Only.set g 1 _ (.int .i64 4)))
    have K3Z := Lib.hid (K32.out.only OZ.out HF3.out.1.symm)
    have K4Z := Lib.hid (K42.out.only OZ.out HF4.out.1.symm)
    have z0 := K3Z.out.cell (cells0 p)
    go_wp2_with (first
      | refine wpList_blank rfl _ rfl p.d rfl ?_
      | (refine wpList_store_pc rfl _ _ rfl (w.heap.size + 1) (blank 0) (blank p.d) rfl rfl K4Z.out rfl rfl rfl ?_; intro w9 N9 O9))
    refine bodyPost_ret (results_pc rfl _ _ (w.heap.size + 1) _ rfl N9.out rfl) rfl ?_
    exact refs_bad (by rfl) (CZ.out.only O9.out HF4.out.1 HF4.out.2) ((OO2.out.trans OZ.out).new O9.out (Nat.le_add_right _ 1))
  · have HWN := Lib.hid (show IntKind.u64.wrap 0 = 0 from rfl)
    go_wp2_with (first
      | refine wpList_blank rfl _ rfl p.d rfl ?_
      | (refine wpList_store_pc rfl _ _ rfl (w.heap.size + 2) (blank 0) (blank p.d) rfl rfl Q5.out rfl rfl rfl ?_; intro w1 N1 O1; have C1 := Lib.hid (HC.out.only O1.out HF5.out.1 HF5.out.2); have K3 := Lib.hid (Q3.out.only O1.out N35.out); have K4 := Lib.hid (Q4.out.only O1.out N45.out); have c0 := K3.out.cell (cells0 p); have cB := C1.out.1.cell (i := 0) rfl; have cE := C1.out.1.cell (i := 1) rfl; have fB := C1.out.1.frozen 0; have fE := C1.out.1.frozen 1; have OO1 := Lib.hid (Only.new (Only.new (Only.refl g w) HO.out (Nat.le_refl _)) O1.out (Nat.le_add_right _ 2)); have cN := K3.out.cell (cells12 HP.out.ml)))
    go_region_held3 (fun W => W.cell? ⟨g, 0, none⟩ = some (.slice a l.length cap) ∧ W.cell? ⟨w.heap.size, 12, none⟩ = some (.int .i64 p.n)) (first | exact ⟨cB, cN⟩ | exact ⟨s1, s2⟩) (first
      | (go_at_call 55; rw [HWN.out]; refine (numR_got R 0 x _ l rest _ C1.out.drew.2.1 hr).mono ?_; rintro r w2 ⟨aq, capq, rfl, hvq, hb0⟩; have VQ := Lib.hid hvq; clear hvq; have C2 := Lib.hid (C1.out.below (undrew hb0)); have N2 := Lib.hid (N1.out.below (undrew hb0)); have K32 := Lib.hid (K3.out.below (undrew hb0)); have K42 := Lib.hid (K4.out.below (undrew hb0)); have OO2 := Lib.hid (OO1.out.trans (Only.of_below (undrew hb0))); have s1 := C2.out.1.cell (i := 0) rfl; have s2 := K32.out.cell (cells12 HP.out.ml); clear hb0))
    clear s1 s2 cB cN cE fB fE c0 c00
    have cBz := C2.out.1.cell (i := 0) rfl
    have fBz := C2.out.1.frozen 0
    have eB := (C2.out.1.set 0 (.slice none 0 0)).cell (i := 1) rfl
    have fB2 := (C2.out.1.set 0 (.slice none 0 0)).frozen 1
    have CZ := Lib.hid (ref_drop C2.out 4)
    have OZ := Lib.hid ((Only.set g 0 w2 (.slice none 0 0)).trans (Only.set g 1 _ (.int .i64 4)))
    have K3Z := Lib.hid (K32.out.only OZ.out HF3.out.1.symm)
    have K4Z := Lib.hid (K42.out.only OZ.out HF4.out.1.symm)
    have z0 := K3Z.out.cell (cells0 p)
    go_wp2_with (first
      | refine wpList_blank rfl _ rfl p.d rfl ?_
      | (refine wpList_store_pc rfl _ _ rfl (w.heap.size + 1) (blank 0) (blank p.d) rfl rfl K4Z.out rfl rfl rfl ?_; intro w9 N9 O9))
    refine bodyPost_ret (results_pc rfl _ _ (w.heap.size + 1) _ rfl N9.out rfl) rfl ?_
    exact refs_bad (by rfl) (CZ.out.only O9.out HF4.out.1 HF4.out.2) ((OO2.out.trans OZ.out).new O9.out (Nat.le_add_right _ 1))
set_option maxRecDepth 100000 in
set_option maxHeartbeats 2000000 in
theorem ref3_got (g : Nat) (R : Option Nat) (p : Pc) (v : Value) (l : List Int) (k : Nat) (t : Int) (rest : List Int) (w : World) (h : RefC w g R 0 v l) (hp : p.Ok w) (hd0 : ¬ p.d = 0) (hd1 : ¬ p.d = 1) (hd2 : ¬ p.d = 2) (hm : (0 ≤ p.n ∧ t = p.n) ∨ (p.n < 0 ∧ t = 0)) (hr : Hid (M.rNum t l = .got k rest)) (hrl : rest.length ≤ 30000) (hk : k ≤ rest.length) :
    Calls Tryz.prog 29 #[.pointer (some ⟨g, 0, none⟩), .agg p.cells.toArray] w (RefsP w g R p.d (.got ⟨0, 0, M.zero8, rest.take k⟩ (rest.drop k))) := by
  have hwl : IntKind.u64.wrap (rest.length : Int) = (rest.length : Int) := by rw [IntKind.wrap_u64]; omega
  have hki : ¬ (rest.length : Int) < (k : Int) := by omega
  have hk0 : (0 : Int) ≤ (k : Int) := by omega
  have hk1 : (k : Int) ≤ (rest.length : Int) := by omega
  have hn1 := hp.n1
  have hz := zero33
  have c00 := ((blk_alloc w 56 p.cells).alloc (.cells (blank 0).cells.toArray 56)).cell (cells0 p)
  have Q3 := Lib.hid (((blk_alloc w 56 p.cells).alloc (.cells (blank 0).cells.toArray 56)).alloc (.cells (blank 0).cells.toArray 56))
  have Q4 := Lib.hid ((blk2 w (.cells p.cells.toArray 56) 56 (blank 0).cells).alloc (.cells (blank 0).cells.toArray 56))
  have Q5 := Lib.hid (blk3 w (.cells p.cells.toArray 56) (.cells (blank 0).cells.toArray 56) 56 (blank 0).cells)
  have HO := Lib.hid ((((Only.refl w.heap.size w).alloc (.cells p.cells.toArray 56)).alloc (.cells (blank 0).cells.toArray 56)).alloc (.cells (blank 0).cells.toArray 56))
  have HF3 := Lib.hid (h.far (Nat.le_refl _))
  have HF4 := Lib.hid (h.far (Nat.le_add_right _ 1))
  have HF5 := Lib.hid (h.far (Nat.le_add_right _ 2))
  have HC := Lib.hid (((h.alloc (.cells p.cells.toArray 56)).alloc (.cells (blank 0).cells.toArray 56)).alloc (.cells (blank 0).cells.toArray 56))
  have HP := Lib.hid hp
  obtain ⟨a, cap, rfl⟩ := h.2.1.shape
  clear h hp
  have n35 : w.heap.size ≠ w.heap.size + 2 := by omega
  have n45 : w.heap.size + 1 ≠ w.heap.size + 2 := by omega
  have N35 := Lib.hid n35
  have N45 := Lib.hid n45
  clear n35 n45
  go_enter Tryz.func29, Tryz.ntmps29
  rcases hm with ⟨hm0, rfl⟩ | ⟨hm0, rfl⟩
  · have HWN := Lib.hid (show IntKind.u64.wrap (if p.n < 0 then 0 else p.n) = p.n by rw [if_neg (by omega), IntKind.wrap_u64]; omega)
    go_wp2_with (first
      | refine wpList_blank rfl _ rfl p.d rfl ?_
      | (refine wpList_store_pc rfl _ _ rfl (w.heap.size + 2) (blank 0) (blank p.d) rfl rfl Q5.out rfl rfl rfl ?_; intro w1 N1 O1; have C1 := Lib.hid (HC.out.only O1.out HF5.out.1 HF5.out.2); have K3 := Lib.hid (Q3.out.only O1.out N35.out); have K4 := Lib.hid (Q4.out.only O1.out N45.out); have c0 := K3.out.cell (cells0 p); have cB := C1.out.1.cell (i := 0) rfl; have cE := C1.out.1.cell (i := 1) rfl; have fB := C1.out.1.frozen 0; have fE := C1.out.1.frozen 1; have OO1 := Lib.hid (Only.new (Only.new (Only.refl g w) HO.out (Nat.le_refl _)) O1.out (Nat.le_add_right _ 2)); have cN := K3.out.cell (cells12 HP.out.ml)))
    go_region_held3 (fun W => W.cell? ⟨g, 0, none⟩ = some (.slice a l.length cap) ∧ W.cell? ⟨w.heap.size, 12, none⟩ = some (.int .i64 p.n)) (first | exact ⟨cB, cN⟩ | exact ⟨s1, s2⟩) (first
      | (go_at_call 55; rw [HWN.out]; refine (numR_got R p.n k _ l rest _ C1.out.drew.2.1 hr).mono ?_; rintro r w2 ⟨aq, capq, rfl, hvq, hb0⟩; have VQ := Lib.hid hvq; clear hvq; have C2 := Lib.hid (C1.out.below (undrew hb0)); have N2 := Lib.hid (N1.out.below (undrew hb0)); have K32 := Lib.hid (K3.out.below (undrew hb0)); have K42 := Lib.hid (K4.out.below (undrew hb0)); have OO2 := Lib.hid (OO1.out.trans (Only.of_below (undrew hb0))); have s1 := C2.out.1.cell (i := 0) rfl; have s2 := K32.out.cell (cells12 HP.out.ml); clear hb0; have hcq : rest.length ≤ capq := by { obtain ⟨⟨_, cc, hv, hc, _⟩, _⟩ := VQ.out; simp only [Value.slice.injEq] at hv; have := hc.1; omega }; have hk2 : (k : Int) ≤ (capq : Int) := by omega))
    clear s1 s2 cB cN cE fB fE c0 c00
    have gB := N2.out.cell (cells11 (p := blank p.d) rfl)
    have gF := N2.out.frozen 11
    go_wp2_with fail
    go_region_held3 (fun _ => True) (trivial) (fail)
    have D2 := Lib.hid (Only.set (w.heap.size + 1 + 1) 11 w2 (.slice aq k capq)).drew
    have CX := Lib.hid (C2.out.only D2.out HF5.out.1 HF5.out.2)
    have K4X := Lib.hid (K42.out.only D2.out N45.out)
    have OO3 := Lib.hid (OO2.out.new D2.out (Nat.le_add_right _ 2))
    have NX := Lib.hid (show Blk (w2.setCell ⟨w.heap.size + 1 + 1, 11, none⟩ (.slice aq k capq)).drew (w.heap.size + 2) 56 (⟨p.d, 0, 0, M.zero8, .slice aq k capq, 0, rest.take k⟩ : Pc).cells from N2.out.set 11 (.slice aq k capq))
    have hb := bytes_from VQ.out k hk
    simp only [sliced, Nat.mul_one] at hb
    have HV2 := Lib.hid (hb.only D2.out HF5.out.2)
    have HVB := Lib.hid ((bytes_upto VQ.out k hk).only D2.out HF5.out.2)
    clear hb gB gF
    generalize (w2.setCell ⟨w.heap.size + 1 + 1, 11, none⟩ (.slice aq k capq)).drew = w2x at CX HV2 HVB K4X OO3 NX ⊢
    generalize (if capq = k then aq else Option.map (fun x => x.add k) aq) = aX at HV2 ⊢
    have cB2 := CX.out.1.cell (i := 0) rfl
    have fB2 := CX.out.1.frozen 0
    have C3 := Lib.hid (ref_set CX.out HV2.out)
    have O3 := Lib.hid (Only.set g 0 w2x (.slice aX (rest.length - k) (capq - k)))
    have M3 := Lib.hid (NX.out.only O3.out HF5.out.1.symm)
    have K43 := Lib.hid (K4X.out.only O3.out HF4.out.1.symm)
    go_wp2_with (first
      | refine wpList_load_pc rfl _ rfl (w.heap.size + 2) 0 (⟨p.d, 0, 0, M.zero8, .slice aq k capq, 0, rest.take k⟩ : Pc) rfl M3.out.range rfl ?_
      | (refine wpList_store_pc rfl _ _ rfl (w.heap.size + 1) (blank 0) (⟨p.d, 0, 0, M.zero8, .slice aq k capq, 0, rest.take k⟩ : Pc) rfl rfl K43.out rfl rfl rfl ?_; intro w9 N9 O9))
    refine bodyPost_ret (results_pc rfl _ _ (w.heap.size + 1) _ rfl N9.out rfl) rfl ?_
    exact ⟨.slice aq k capq, (by rfl), ((HVB.out.only O3.out CX.out.2.2.1).only O9.out HF4.out.2), ⟨_, C3.out.only O9.out HF4.out.1 HF4.out.2, fun h => absurd rfl h, (show (rest.drop k).length ≤ 30000 by rw [List.length_drop]; omega)⟩, (OO3.out.trans O3.out).new O9.out (Nat.le_add_right _ 1)⟩
  · have HWN := Lib.hid (show IntKind.u64.wrap 0 = 0 from rfl)
    go_wp2_with (first
      | refine wpList_blank rfl _ rfl p.d rfl ?_
      | (refine wpList_store_pc rfl _ _ rfl (w.heap.size + 2) (blank 0) (blank p.d) rfl rfl Q5.out rfl rfl rfl ?_; intro w1 N1 O1; have C1 := Lib.hid (HC.out.only O1.out HF5.out.1 HF5.out.2); have K3 := Lib.hid (Q3.out.only O1.out N35.out); have K4 := Lib.hid (Q4.out.only O1.out N45.out); have c0 := K3.out.cell (cells0 p); have cB := C1.out.1.cell (i := 0) rfl; have cE := C1.out.1.cell (i := 1) rfl; have fB := C1.out.1.frozen 0; have fE := C1.out.1.frozen 1; have OO1 := Lib.hid (Only.new (Only.new (Only.refl g w) HO.out (Nat.le_refl _)) O1.out (Nat.le_add_right _ 2)); have cN := K3.out.cell (cells12 HP.out.ml)))
    go_region_held3 (fun W => W.cell? ⟨g, 0, none⟩ = some (.slice a l.length cap) ∧ W.cell? ⟨w.heap.size, 12, none⟩ = some (.int .i64 p.n)) (first | exact ⟨cB, cN⟩ | exact ⟨s1, s2⟩) (first
      | (go_at_call 55; rw [HWN.out]; refine (numR_got R 0 k _ l rest _ C1.out.drew.2.1 hr).mono ?_; rintro r w2 ⟨aq, capq, rfl, hvq, hb0⟩; have VQ := Lib.hid hvq; clear hvq; have C2 := Lib.hid (C1.out.below (undrew hb0)); have N2 := Lib.hid (N1.out.below (undrew hb0)); have K32 := Lib.hid (K3.out.below (undrew hb0)); have K42 := Lib.hid (K4.out.below (undrew hb0)); have OO2 := Lib.hid (OO1.out.trans (Only.of_below (undrew hb0))); have s1 := C2.out.1.cell (i := 0) rfl; have s2 := K32.out.cell (cells12 HP.out.ml); clear hb0; have hcq : rest.length ≤ capq := by { obtain ⟨⟨_, cc, hv, hc, _⟩, _⟩ := VQ.out; simp only [Value.slice.injEq] at hv; have := hc.1; omega }; have hk2 : (k : Int) ≤ (capq : Int) := by omega))
    clear s1 s2 cB cN cE fB fE c0 c00
    have gB := N2.out.cell (cells11 (p := blank p.d) rfl)
    have gF := N2.out.frozen 11
    go_wp2_with fail
    go_region_held3 (fun _ => True) (trivial) (fail)
    have D2 := Lib.hid (Only.set (w.heap.size + 1 + 1) 11 w2 (.slice aq k capq)).drew
    have CX := Lib.hid (C2.out.only D2.out HF5.out.1 HF5.out.2)
    have K4X := Lib.hid (K42.out.only D2.out N45.out)
    have OO3 := Lib.hid (OO2.out.new D2.out (Nat.le_add_right _ 2))
    have NX := Lib.hid (show Blk (w2.setCell ⟨w.heap.size + 1 + 1, 11, none⟩ (.slice aq k capq)).drew (w.heap.size + 2) 56 (⟨p.d, 0, 0, M.zero8, .slice aq k capq, 0, rest.take k⟩ : Pc).cells from N2.out.set 11 (.slice aq k capq))
    have hb := bytes_from VQ.out k hk
    simp only [sliced, Nat.mul_one] at hb
    have HV2 := Lib.hid (hb.only D2.out HF5.out.2)
    have HVB := Lib.hid ((bytes_upto VQ.out k hk).only D2.out HF5.out.2)
    clear hb gB gF
    generalize (w2.setCell ⟨w.heap.size + 1 + 1, 11, none⟩ (.slice aq k capq)).drew = w2x at CX HV2 HVB K4X OO3 NX ⊢
    generalize (if capq = k then aq else Option.map (fun x => x.add k) aq) = aX at HV2 ⊢
    have cB2 := CX.out.1.cell (i := 0) rfl
    have fB2 := CX.out.1.frozen 0
    have C3 := Lib.hid (ref_set CX.out HV2.out)
    have O3 := Lib.hid (Only.set g 0 w2x (.slice aX (rest.length - k) (capq - k)))
    have M3 := Lib.hid (NX.out.only O3.out HF5.out.1.symm)
    have K43 := Lib.hid (K4X.out.only O3.out HF4.out.1.symm)
    go_wp2_with (first
      | refine wpList_load_pc rfl _ rfl (w.heap.size + 2) 0 (⟨p.d, 0, 0, M.zero8, .slice aq k capq, 0, rest.take k⟩ : Pc) rfl M3.out.range rfl ?_
      | (refine wpList_store_pc rfl _ _ rfl (w.heap.size + 1) (blank 0) (⟨p.d, 0, 0, M.zero8, .slice aq k capq, 0, rest.take k⟩ : Pc) rfl rfl K43.out rfl rfl rfl ?_; intro w9 N9 O9))
    refine bodyPost_ret (results_pc rfl _ _ (w.heap.size + 1) _ rfl N9.out rfl) rfl ?_
    exact ⟨.slice aq k capq, (by rfl), ((HVB.out.only O3.out CX.out.2.2.1).only O9.out HF4.out.2), ⟨_, C3.out.only O9.out HF4.out.1 HF4.out.2, fun h => absurd rfl h, (show (rest.drop k).length ≤ 30000 by rw [List.length_drop]; omega)⟩, (OO3.out.trans O3.out).new O9.out (Nat.le_add_right _ 1)⟩
end Go.Proofs.YteggjihhjdeieaaGreat
