/- Read of the reference's cursor, at a name: where it fails. -/
import Derived.Test.YteggjihhjdeieaaGreatRefRead
namespace Go.Proofs.YteggjihhjdeieaaGreat
open Go.RowKit

theorem bytes_mid {R : Option Nat} {w : World} {gR off cap : Nat} {c : Int} {r : List Int} (h : BytesIn R w (.slice (some ⟨gR, off, none⟩) (r.length + 1) cap) (c :: r)) (k : Nat) (hk : k ≤ r.length) : BytesIn R w (sliced (some ⟨gR, off, none⟩) 1 (1 + k) cap 1) (r.take k) := by
  have h2 := bytes_from (l := c :: r) h 1 (by simp)
  have hs : sliced (some ⟨gR, off, none⟩) 1 (c :: r).length cap 1 = .slice (if cap = 1 then some (⟨gR, off, none⟩ : Addr) else Option.map (fun x : Addr => x.add (1 * 1)) (some (⟨gR, off, none⟩ : Addr))) r.length (cap - 1) := by
    unfold sliced
    rw [List.length_cons, Nat.add_sub_cancel]
  rw [hs] at h2
  have h3 := bytes_upto (l := r) h2 k hk
  have e : sliced (some ⟨gR, off, none⟩) 1 (1 + k) cap 1 = .slice (if cap = 1 then some (⟨gR, off, none⟩ : Addr) else Option.map (fun x : Addr => x.add (1 * 1)) (some (⟨gR, off, none⟩ : Addr))) k (cap - 1) := by
    unfold sliced
    rw [Nat.add_sub_cancel_left]
  rw [e]
  exact h3
/-- x[1:hi] -/
theorem wpList_mid {ops : Array Oper} {rest : List Oper} {o : Oper} {ac : Act} {w : World} {Q : Exit → Act → World → Prop} (R : Option Nat) (hgd : o.guard = none) (x lo hi : Operand) (ho : o.op = .slice 33 x (some lo) (some hi) none)
    (gR off cap k : Nat) (c : Int) (r : List Int) (hx : ac.eval x = .slice (some ⟨gR, off, none⟩) (r.length + 1) cap) (hlo : ac.eval lo = .int .i64 1) (hhi : ac.eval hi = .int .i64 (1 + (k : Int))) (hv : BytesIn R w (.slice (some ⟨gR, off, none⟩) (r.length + 1) cap) (c :: r)) (hk : k ≤ r.length) (hcap : r.length + 1 ≤ cap)
    (h : ∀ a' cap', Hid (BytesIn R w (.slice a' k cap') (r.take k)) → wpList Tryz.prog ops Q rest (ac.put o.dst (.slice a' k cap')) w) : wpList Tryz.prog ops Q (o :: rest) ac w := by
  have hr : (Instr.sliceAt 33 (.slice (some ⟨gR, off, none⟩) (r.length + 1) cap) (some (.int .i64 1)) (some (.int .i64 (1 + (k : Int)))) none).run Tryz.prog w = .ok (sliced (some ⟨gR, off, none⟩) 1 (1 + k) cap 1) w := by
    have h1 : (1 : Int) ≤ 1 + (k : Int) := by omega
    have h2 : 1 + (k : Int) ≤ (cap : Int) := by omega
    have h3 : (1 + (k : Int)).toNat = 1 + k := by omega
    have h4 : (0 : Int) ≤ 1 + (k : Int) := by omega
    simp [Instr.sliceAt, Instr.slice, run_underlying elem31, Instr.sliceBounds, run_sliceBound, sliced, h1, h2, h3, h4]
  have hb := bytes_mid hv k hk
  obtain ⟨a', cap', e⟩ := hb.shape
  rw [List.length_take, Nat.min_eq_left hk] at e
  rw [e] at hb hr
  exact wpList_plain hgd fun _ hK => by
    unfold Oper.wp execOp
    simp only [ho, hx, hlo, hhi, Option.map_some, Option.map_none, Sem.run_bind, hr, Result.andThen_ok, Sem.run_pure]
    exact hK _ _ (h _ _ (Lib.hid hb))
/-- string(x) -/
theorem wpList_str {ops : Array Oper} {rest : List Oper} {o : Oper} {ac : Act} {w : World} {Q : Exit → Act → World → Prop} (hgd : o.guard = none) (x : Operand) (ho : o.op = .convert 33 9 x) (a : Option Addr) (n cap : Nat) (t : List Int) (s : ByteArray) (hx : ac.eval x = .slice a n cap) (hv : BytesAt w (.slice a n cap) t) (hs : s = strOfNums t)
    (h : wpList Tryz.prog ops Q rest (ac.put o.dst (.string s)) w) : wpList Tryz.prog ops Q (o :: rest) ac w := by
  have hr := str_of hv
  rw [← hs] at hr
  exact wpList_plain hgd fun _ hK => by
    unfold Oper.wp execOp
    simp only [ho, hx, Sem.run_bind, hr, Result.andThen_ok, Sem.run_pure]
    exact hK _ _ h
set_option maxRecDepth 100000 in
set_option maxHeartbeats 2000000 in
theorem ref2_empty (g : Nat) (R : Option Nat) (p : Pc) (v : Value) (w : World) (h : RefC w g R 0 v []) (hp : p.Ok w) (hd : p.d = 2) :
    Calls Tryz.prog 29 #[.pointer (some ⟨g, 0, none⟩), .agg p.cells.toArray] w (RefsP w g R p.d (.bad 4)) := by
  have hz := zero33
  have c00 := ((blk_alloc w 56 p.cells).alloc (.cells (blank 0).cells.toArray 56)).cell (cells0 p)
  have Q3 := Lib.hid (((blk_alloc w 56 p.cells).alloc (.cells (blank 0).cells.toArray 56)).alloc (.cells (blank 0).cells.toArray 56))
  have Q4 := Lib.hid ((blk2 w (.cells p.cells.toArray 56) 56 (blank 0).cells).alloc (.cells (blank 0).cells.toArray 56))
  have Q5 := Lib.hid (blk3 w (.cells p.cells.toArray 56) (.cells (blank 0).cells.toArray 56) 56 (blank 0).cells)
  have HO := Lib.hid ((((Only.refl w.heap.size w).alloc (.cells p.cells.toArray 56)).alloc (.cells (blank 0).cells.toArray 56)).alloc (.cells (blank 0).cells.toArray 56))
  have HF3 := Lib.hid (h.far (Nat.le_refl _))
  have HF4 := Lib.hid (h.far (Nat.le_add_right _ 1))
  have HF5 := Lib.hid (h.far (Nat.le_add_right _ 2))
  have HC := Lib.hid (((h.alloc (.cells p.cells.toArray 56)).alloc (.cells (blank 0).cells.toArray 56)).alloc (.cells (blank 0).cells.toArray 56))
  have HP := Lib.hid hp
  obtain ⟨a, cap, rfl⟩ := h.2.1.shape
  clear h hp
  have n35 : w.heap.size ≠ w.heap.size + 2 := by omega
  have n45 : w.heap.size + 1 ≠ w.heap.size + 2 := by omega
  have N35 := Lib.hid n35
  have N45 := Lib.hid n45
  clear n35 n45
  go_enter Tryz.func29, Tryz.ntmps29
  go_wp2_with (first
    | refine wpList_blank rfl _ rfl 2 rfl ?_
    | (refine wpList_store_pc rfl _ _ rfl (w.heap.size + 2) (blank 0) (blank 2) rfl rfl Q5.out rfl rfl rfl ?_; intro w1 N1 O1; have C1 := Lib.hid (HC.out.only O1.out HF5.out.1 HF5.out.2); have K3 := Lib.hid (Q3.out.only O1.out N35.out); have K4 := Lib.hid (Q4.out.only O1.out N45.out); have c0 := K3.out.cell (cells0 p); have cB := C1.out.1.cell (i := 0) rfl; have cE := C1.out.1.cell (i := 1) rfl; have fB := C1.out.1.frozen 0; have fE := C1.out.1.frozen 1; have OO1 := Lib.hid (Only.new (Only.new (Only.refl g w) HO.out (Nat.le_refl _)) O1.out (Nat.le_add_right _ 2)); have eB := ((C1).out.1.set 0 (.slice none 0 0)).cell (i := 1) rfl; have fB2 := ((C1).out.1.set 0 (.slice none 0 0)).frozen 1; have CZ := Lib.hid (ref_drop C1.out 4); have OZ := Lib.hid ((Only.set g 0 w1 (.slice none 0 0)).trans (Only.set g 1 _ (.int .i64 4))); have K3Z := Lib.hid (K3.out.only OZ.out HF3.out.1.symm); have K4Z := Lib.hid (K4.out.only OZ.out HF4.out.1.symm); have z0 := K3Z.out.cell (cells0 p))
    | (refine wpList_store_pc rfl _ _ rfl (w.heap.size + 1) (blank 0) (blank 2) rfl rfl K4Z.out rfl rfl rfl ?_; intro w9 N9 O9))
  refine bodyPost_ret (results_pc rfl _ _ (w.heap.size + 1) _ rfl N9.out rfl) rfl ?_
  exact refs_bad (by first | rfl | rw [hd]) (CZ.out.only O9.out HF4.out.1 HF4.out.2) ((OO1.out.trans OZ.out).new O9.out (Nat.le_add_right _ 1))
set_option maxRecDepth 100000 in
set_option maxHeartbeats 2000000 in
theorem ref2_big (g : Nat) (R : Option Nat) (p : Pc) (v : Value) (c : Int) (r : List Int) (w : World) (h : RefC w g R 0 v (c :: r)) (hp : p.Ok w) (hd : p.d = 2) (h0 : 0 ≤ c) (h255 : c < 256) (h8 : 8 < c) :
    Calls Tryz.prog 29 #[.pointer (some ⟨g, 0, none⟩), .agg p.cells.toArray] w (RefsP w g R p.d (.bad 3)) := by
  have hz := zero33
  have c00 := ((blk_alloc w 56 p.cells).alloc (.cells (blank 0).cells.toArray 56)).cell (cells0 p)
  have Q3 := Lib.hid (((blk_alloc w 56 p.cells).alloc (.cells (blank 0).cells.toArray 56)).alloc (.cells (blank 0).cells.toArray 56))
  have Q4 := Lib.hid ((blk2 w (.cells p.cells.toArray 56) 56 (blank 0).cells).alloc (.cells (blank 0).cells.toArray 56))
  have Q5 := Lib.hid (blk3 w (.cells p.cells.toArray 56) (.cells (blank 0).cells.toArray 56) 56 (blank 0).cells)
  have HO := Lib.hid ((((Only.refl w.heap.size w).alloc (.cells p.cells.toArray 56)).alloc (.cells (blank 0).cells.toArray 56)).alloc (.cells (blank 0).cells.toArray 56))
  have HF3 := Lib.hid (h.far (Nat.le_refl _))
  have HF4 := Lib.hid (h.far (Nat.le_add_right _ 1))
  have HF5 := Lib.hid (h.far (Nat.le_add_right _ 2))
  have HC := Lib.hid (((h.alloc (.cells p.cells.toArray 56)).alloc (.cells (blank 0).cells.toArray 56)).alloc (.cells (blank 0).cells.toArray 56))
  have HP := Lib.hid hp
  obtain ⟨gR, off, cap, rfl, rfl, hcap⟩ := h.2.1.cons_shape
  clear h hp
  have n35 : w.heap.size ≠ w.heap.size + 2 := by omega
  have n45 : w.heap.size + 1 ≠ w.heap.size + 2 := by omega
  have N35 := Lib.hid n35
  have N45 := Lib.hid n45
  clear n35 n45
  go_enter Tryz.func29, Tryz.ntmps29
  have k0 : ¬ ((r.length : Int) + 1) = 0 := by omega
  have k1 : (0 : Int) ≤ 0 := by omega
  have k2 : (0 : Int) < (r.length : Int) + 1 := by omega
  go_wp2_with (first
    | refine wpList_blank rfl _ rfl 2 rfl ?_
    | (refine wpList_store_pc rfl _ _ rfl (w.heap.size + 2) (blank 0) (blank 2) rfl rfl Q5.out rfl rfl rfl ?_; intro w1 N1 O1; have C1 := Lib.hid (HC.out.only O1.out HF5.out.1 HF5.out.2); have K3 := Lib.hid (Q3.out.only O1.out N35.out); have K4 := Lib.hid (Q4.out.only O1.out N45.out); have c0 := K3.out.cell (cells0 p); have cB := C1.out.1.cell (i := 0) rfl; have cE := C1.out.1.cell (i := 1) rfl; have fB := C1.out.1.frozen 0; have fE := C1.out.1.frozen 1; have OO1 := Lib.hid (Only.new (Only.new (Only.refl g w) HO.out (Nat.le_refl _)) O1.out (Nat.le_add_right _ 2)); have cR := C1.out.2.1.head_cell; have eB := ((C1).out.1.set 0 (.slice none 0 0)).cell (i := 1) rfl; have fB2 := ((C1).out.1.set 0 (.slice none 0 0)).frozen 1; have CZ := Lib.hid (ref_drop C1.out 3); have OZ := Lib.hid ((Only.set g 0 w1 (.slice none 0 0)).trans (Only.set g 1 _ (.int .i64 3))); have K3Z := Lib.hid (K3.out.only OZ.out HF3.out.1.symm); have K4Z := Lib.hid (K4.out.only OZ.out HF4.out.1.symm); have z0 := K3Z.out.cell (cells0 p))
    | (refine wpList_store_pc rfl _ _ rfl (w.heap.size + 1) (blank 0) (blank 2) rfl rfl K4Z.out rfl rfl rfl ?_; intro w9 N9 O9))
  refine bodyPost_ret (results_pc rfl _ _ (w.heap.size + 1) _ rfl N9.out rfl) rfl ?_
  exact refs_bad (by first | rfl | rw [hd]) (CZ.out.only O9.out HF4.out.1 HF4.out.2) ((OO1.out.trans OZ.out).new O9.out (Nat.le_add_right _ 1))
set_option maxRecDepth 100000 in
set_option maxHeartbeats 2000000 in
theorem ref2_short (g : Nat) (R : Option Nat) (p : Pc) (v : Value) (c : Int) (r : List Int) (w : World) (h : RefC w g R 0 v (c :: r)) (hp : p.Ok w) (hd : p.d = 2) (h0 : 0 ≤ c) (h8 : ¬ 8 < c) (hs : (r.length : Int) < c) :
    Calls Tryz.prog 29 #[.pointer (some ⟨g, 0, none⟩), .agg p.cells.toArray] w (RefsP w g R p.d (.bad 4)) := by
  have hz := zero33
  have c00 := ((blk_alloc w 56 p.cells).alloc (.cells (blank 0).cells.toArray 56)).cell (cells0 p)
  have Q3 := Lib.hid (((blk_alloc w 56 p.cells).alloc (.cells (blank 0).cells.toArray 56)).alloc (.cells (blank 0).cells.toArray 56))
  have Q4 := Lib.hid ((blk2 w (.cells p.cells.toArray 56) 56 (blank 0).cells).alloc (.cells (blank 0).cells.toArray 56))
  have Q5 := Lib.hid (blk3 w (.cells p.cells.toArray 56) (.cells (blank 0).cells.toArray 56) 56 (blank 0).cells)
  have HO := Lib.hid ((((Only.refl w.heap.size w).alloc (.cells p.cells.toArray 56)).alloc (.cells (blank 0).cells.toArray 56)).alloc (.cells (blank 0).cells.toArray 56))
  have HF3 := Lib.hid (h.far (Nat.le_refl _))
  have HF4 := Lib.hid (h.far (Nat.le_add_right _ 1))
  have HF5 := Lib.hid (h.far (Nat.le_add_right _ 2))
  have HC := Lib.hid (((h.alloc (.cells p.cells.toArray 56)).alloc (.cells (blank 0).cells.toArray 56)).alloc (.cells (blank 0).cells.toArray 56))
  have HP := Lib.hid hp
  obtain ⟨gR, off, cap, rfl, rfl, hcap⟩ := h.2.1.cons_shape
  clear h hp
  have n35 : w.heap.size ≠ w.heap.size + 2 := by omega
  have n45 : w.heap.size + 1 ≠ w.heap.size + 2 := by omega
  have N35 := Lib.hid n35
  have N45 := Lib.hid n45
  clear n35 n45
  go_enter Tryz.func29, Tryz.ntmps29
  have k0 : ¬ ((r.length : Int) + 1) = 0 := by omega
  have k1 : (0 : Int) ≤ 0 := by omega
  have k2 : (0 : Int) < (r.length : Int) + 1 := by omega
  have k3 : (r.length : Int) + 1 < 1 + c := by omega
  have k4 : IntKind.i64.wrap (1 + c) = 1 + c := by rw [IntKind.wrap_i64]; omega
  go_wp2_with (first
    | refine wpList_blank rfl _ rfl 2 rfl ?_
    | (refine wpList_store_pc rfl _ _ rfl (w.heap.size + 2) (blank 0) (blank 2) rfl rfl Q5.out rfl rfl rfl ?_; intro w1 N1 O1; have C1 := Lib.hid (HC.out.only O1.out HF5.out.1 HF5.out.2); have K3 := Lib.hid (Q3.out.only O1.out N35.out); have K4 := Lib.hid (Q4.out.only O1.out N45.out); have c0 := K3.out.cell (cells0 p); have cB := C1.out.1.cell (i := 0) rfl; have cE := C1.out.1.cell (i := 1) rfl; have fB := C1.out.1.frozen 0; have fE := C1.out.1.frozen 1; have OO1 := Lib.hid (Only.new (Only.new (Only.refl g w) HO.out (Nat.le_refl _)) O1.out (Nat.le_add_right _ 2)); have cR := C1.out.2.1.head_cell; have eB := ((C1).out.1.set 0 (.slice none 0 0)).cell (i := 1) rfl; have fB2 := ((C1).out.1.set 0 (.slice none 0 0)).frozen 1; have CZ := Lib.hid (ref_drop C1.out 4); have OZ := Lib.hid ((Only.set g 0 w1 (.slice none 0 0)).trans (Only.set g 1 _ (.int .i64 4))); have K3Z := Lib.hid (K3.out.only OZ.out HF3.out.1.symm); have K4Z := Lib.hid (K4.out.only OZ.out HF4.out.1.symm); have z0 := K3Z.out.cell (cells0 p))
    | (refine wpList_store_pc rfl _ _ rfl (w.heap.size + 1) (blank 0) (blank 2) rfl rfl K4Z.out rfl rfl rfl ?_; intro w9 N9 O9))
  refine bodyPost_ret (results_pc rfl _ _ (w.heap.size + 1) _ rfl N9.out rfl) rfl ?_
  exact refs_bad (by first | rfl | rw [hd]) (CZ.out.only O9.out HF4.out.1 HF4.out.2) ((OO1.out.trans OZ.out).new O9.out (Nat.le_add_right _ 1))
set_option maxRecDepth 100000 in
set_option maxHeartbeats 2000000 in
theorem ref2_wrong (g : Nat) (R : Option Nat) (p : Pc) (v : Value) (k : Nat) (r : List Int) (w : World) (h : RefC w g R 0 v (((k : Nat) : Int) :: r)) (hp : p.Ok w) (hd : p.d = 2) (hk0 : 0 < k) (hk8 : k ≤ 8) (hk : k ≤ r.length) (hb : Hid (M.isN (r.take k) = false)) :
    Calls Tryz.prog 29 #[.pointer (some ⟨g, 0, none⟩), .agg p.cells.toArray] w (RefsP w g R p.d (.bad 3)) := by
  have hz := zero33
  have c00 := ((blk_alloc w 56 p.cells).alloc (.cells (blank 0).cells.toArray 56)).cell (cells0 p)
  have Q3 := Lib.hid (((blk_alloc w 56 p.cells).alloc (.cells (blank 0).cells.toArray 56)).alloc (.cells (blank 0).cells.toArray 56))
  have Q4 := Lib.hid ((blk2 w (.cells p.cells.toArray 56) 56 (blank 0).cells).alloc (.cells (blank 0).cells.toArray 56))
  have Q5 := Lib.hid (blk3 w (.cells p.cells.toArray 56) (.cells (blank 0).cells.toArray 56) 56 (blank 0).cells)
  have HO := Lib.hid ((((Only.refl w.heap.size w).alloc (.cells p.cells.toArray 56)).alloc (.cells (blank 0).cells.toArray 56)).alloc (.cells (blank 0).cells.toArray 56))
  have HF3 := Lib.hid (h.far (Nat.le_refl _))
  have HF4 := Lib.hid (h.far (Nat.le_add_right _ 1))
  have HF5 := Lib.hid (h.far (Nat.le_add_right _ 2))
  have HC := Lib.hid (((h.alloc (.cells p.cells.toArray 56)).alloc (.cells (blank 0).cells.toArray 56)).alloc (.cells (blank 0).cells.toArray 56))
  have HP := Lib.hid hp
  obtain ⟨gR, off, cap, rfl, rfl, hcap⟩ := h.2.1.cons_shape
  clear h hp
  have n35 : w.heap.size ≠ w.heap.size + 2 := by omega
  have n45 : w.heap.size + 1 ≠ w.heap.size + 2 := by omega
  have N35 := Lib.hid n35
  have N45 := Lib.hid n45
  clear n35 n45
  go_enter Tryz.func29, Tryz.ntmps29
  have k0 : ¬ ((r.length : Int) + 1) = 0 := by omega
  have k1 : (0 : Int) ≤ 0 := by omega
  have k2 : (0 : Int) < (r.length : Int) + 1 := by omega
  have k3 : ¬ (r.length : Int) + 1 < 1 + (k : Int) := by omega
  have k4 : IntKind.i64.wrap (1 + (k : Int)) = 1 + (k : Int) := by rw [IntKind.wrap_i64]; omega
  have k5 : ¬ (8 : Int) < (k : Int) := by omega
  obtain ⟨s, hs⟩ : ∃ s, s = strOfNums (r.take k) := ⟨_, rfl⟩
  have HS := Lib.hid hs
  clear hs
  have k6 : (0 : Int) < (k : Int) := by omega
  go_wp2_with (first
    | refine wpList_blank rfl _ rfl 2 rfl ?_
    | (refine wpList_store_pc rfl _ _ rfl (w.heap.size + 2) (blank 0) (blank 2) rfl rfl Q5.out rfl rfl rfl ?_; intro w1 N1 O1; have C1 := Lib.hid (HC.out.only O1.out HF5.out.1 HF5.out.2); have K3 := Lib.hid (Q3.out.only O1.out N35.out); have K4 := Lib.hid (Q4.out.only O1.out N45.out); have c0 := K3.out.cell (cells0 p); have cB := C1.out.1.cell (i := 0) rfl; have cE := C1.out.1.cell (i := 1) rfl; have fB := C1.out.1.frozen 0; have fE := C1.out.1.frozen 1; have OO1 := Lib.hid (Only.new (Only.new (Only.refl g w) HO.out (Nat.le_refl _)) O1.out (Nat.le_add_right _ 2)); have cR := C1.out.2.1.head_cell; have eB := ((C1).out.1.set 0 (.slice none 0 0)).cell (i := 1) rfl; have fB2 := ((C1).out.1.set 0 (.slice none 0 0)).frozen 1; have CZ := Lib.hid (ref_drop C1.out 3); have OZ := Lib.hid ((Only.set g 0 w1 (.slice none 0 0)).trans (Only.set g 1 _ (.int .i64 3))); have K3Z := Lib.hid (K3.out.only OZ.out HF3.out.1.symm); have K4Z := Lib.hid (K4.out.only OZ.out HF4.out.1.symm); have z0 := K3Z.out.cell (cells0 p))
    | (refine wpList_mid (some gR) rfl _ _ _ rfl gR off cap k _ r rfl rfl rfl C1.out.2.1 hk hcap ?_; intro a2 cap2 HB2)
    | refine wpList_str rfl _ rfl a2 k cap2 (r.take k) s rfl HB2.out.1 HS.out ?_)
  refine (isN_is s (r.take k) false _ (by rw [List.length_take]; omega) HS (Lib.hid HB2.out.1.bytes) hb).mono ?_
  rintro e w2 ⟨rfl, rfl⟩
  go_wp2_with (first
    | refine wpList_blank rfl _ rfl 2 rfl ?_
    | (refine wpList_store_pc rfl _ _ rfl (w.heap.size + 1) (blank 0) (blank 2) rfl rfl K4Z.out rfl rfl rfl ?_; intro w9 N9 O9))
  refine bodyPost_ret (results_pc rfl _ _ (w.heap.size + 1) _ rfl N9.out rfl) rfl ?_
  exact refs_bad (by first | rfl | rw [hd]) (CZ.out.only O9.out HF4.out.1 HF4.out.2) ((OO1.out.trans OZ.out).new O9.out (Nat.le_add_right _ 1))
end Go.Proofs.YteggjihhjdeieaaGreat
