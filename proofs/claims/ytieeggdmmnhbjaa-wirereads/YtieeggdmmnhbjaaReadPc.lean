/- The contract of read of the law. -/
import Derived.Test.YtieeggdmmnhbjaaPieceLaws
namespace Go.Proofs.Ytieeggdmmnhbjaa
open Go.RowKit

/-- A piece with nothing but its kind. -/
def blank (d : Int) : Pc := ⟨d, 0, 0, M.zero8, .slice none 0 0, 0, []⟩
theorem blank_ml (d : Int) : (blank d).m.length = 8 := rfl
theorem info33z : (Try.prog.info? 33).map (fun i => (i.zero, i.size)) = some (some (.agg (blank 0).cells.toArray), 13) := by kernel_rfl
theorem zero33 (w : World) : (zeroValue 33).run Try.prog w = .ok (.agg (blank 0).cells.toArray) w := (zero_of_info info33z).1 w
theorem built33 (d : Int) : Try.prog.built 33 [(0, .int .i64 d)] = some (blank d).cells.toArray := by kernel_rfl
theorem wpList_blank {ops : Array Oper} {rest : List Oper} {o : Oper} {a : Act} {w : World} {Q : Exit → Act → World → Prop} (hgd : o.guard = none) (x : Operand) (ho : o.op = .build 33 #[(0, x)]) (d : Int) (hx : a.eval x = .int .i64 d)
    (h : wpList Try.prog ops Q rest (a.put o.dst (.agg (blank d).cells.toArray)) w) : wpList Try.prog ops Q (o :: rest) a w :=
  wpList_plain hgd fun _ hK => by
    have hr : (Instr.build 33 #[(0, .int .i64 d)]).run Try.prog w = .ok (.agg (blank d).cells.toArray) w := run_build w 33 _ _ (built33 d)
    unfold Oper.wp execOp
    simp only [ho, List.map_toArray, List.map_cons, List.map_nil, hx, Sem.run_bind, hr, Result.andThen_ok, Sem.run_pure]
    exact hK _ _ h
theorem results_pc {fn : Func} {q : Tmp} (h : fn.results = #[.cell q 33]) (tmps : Array Value) (w : World) (g : Nat) (p : Pc) (hp : tmps.getD q undef = .pointer (some ⟨g, 0, none⟩)) (hb : Blk w g 33 p.cells) (hm : p.m.length = 8) :
    (results fn tmps).run Try.prog w = .ok (.agg p.cells.toArray) w := results_cell_row h _ _ g 33 p.cells.toArray (0, 0) _ hp hb Try.underlying33 rfl (by rw [List.size_toArray]; exact size33 hm)
/- CASES -/
namespace M
theorem Got.map_err {α β : Type} (f : α → β) (r : Got α) : (r.map f).err = r.err := by cases r <;> rfl
theorem Got.map_rst {α β : Type} (f : α → β) (r : Got α) : (r.map f).rst = r.rst := by cases r <;> rfl
theorem Got.map_val {α β : Type} (f : α → β) (r : Got α) (z : α) : (r.map f).val (f z) = f (r.val z) := by cases r <;> rfl
theorem gate_map {α β : Type} (f : α → β) (e : Int) (r : Got α) : gate e (r.map f) = (gate e r).map f := by
  unfold gate
  split <;> rfl
end M
/-- A piece as it was read. -/
def gotP (d : Int) (a : M.Val) (v : Value) : Pc := ⟨d, a.x, a.c, a.nm, v, 0, a.b⟩
/-- What a read of a piece comes to. -/
def ReadsP (w : World) (g : Nat) (R : Option Nat) (d : Int) (res : M.Got M.Val) (r : Ending) (w' : World) : Prop :=
  ∃ v, r = .returned (.agg (gotP d (res.val M.zeroV) v).cells.toArray) ∧ BytesIn R w' v (res.val M.zeroV).b ∧ CurAt w' g R res.err res.rst ∧ Only g w w'
theorem blk2 (w : World) (o : Obj) (t : Nat) (cs : List Value) : Blk ((w.alloc o).alloc (.cells cs.toArray t)) (w.heap.size + 1) t cs := by
  have := blk_alloc (w.alloc o) t cs
  rwa [alloc_size] at this
theorem blk3 (w : World) (o o' : Obj) (t : Nat) (cs : List Value) : Blk (((w.alloc o).alloc o').alloc (.cells cs.toArray t)) (w.heap.size + 2) t cs := by
  have := blk2 (w.alloc o) o' t cs
  rwa [alloc_size] at this
theorem name_len {e : Int} {l : List Int} : (((M.gate e (M.rName l)).val M.zero8)).length = 8 := by
  unfold M.gate
  split
  · cases h : M.rName l with
    | bad e => rfl
    | got m r => exact (rName_got h).1
  · rfl
set_option maxRecDepth 100000 in
theorem readP0 (g : Nat) (R : Option Nat) (e : Int) (p : Pc) (l : List Int) (w : World) (h : CurAt w g R e l) (hp : p.Ok w) (hd : p.d = 0) :
    Calls Try.prog 15 #[.pointer (some ⟨g, 0, none⟩), .agg p.cells.toArray] w (ReadsP w g R p.d (M.gate e (M.rd p.d p.x p.n l))) := by
  have hz := zero33
  have c00 := ((blk_alloc w 33 p.cells).alloc (.cells (blank 0).cells.toArray 33)).cell (cells0 p)
  have Q3 := Lib.hid (((blk_alloc w 33 p.cells).alloc (.cells (blank 0).cells.toArray 33)).alloc (.cells (blank 0).cells.toArray 33))
  have Q4 := Lib.hid ((blk2 w (.cells p.cells.toArray 33) 33 (blank 0).cells).alloc (.cells (blank 0).cells.toArray 33))
  have Q5 := Lib.hid (blk3 w (.cells p.cells.toArray 33) (.cells (blank 0).cells.toArray 33) 33 (blank 0).cells)
  have HO := Lib.hid ((((Only.refl w.heap.size w).alloc (.cells p.cells.toArray 33)).alloc (.cells (blank 0).cells.toArray 33)).alloc (.cells (blank 0).cells.toArray 33))
  have HF3 := Lib.hid (h.far (Nat.le_refl _))
  have HF4 := Lib.hid (h.far (Nat.le_add_right _ 1))
  have HF5 := Lib.hid (h.far (Nat.le_add_right _ 2))
  have HC := Lib.hid (((h.alloc (.cells p.cells.toArray 33)).alloc (.cells (blank 0).cells.toArray 33)).alloc (.cells (blank 0).cells.toArray 33))
  obtain ⟨res, hres⟩ : ∃ res, M.gate e (M.rNum p.x l) = res := ⟨_, rfl⟩
  have HR := Lib.hid hres
  have HE := Lib.hid (show M.gate e (M.rd p.d p.x p.n l) = res.map (fun x => (⟨x, 0, M.zero8, []⟩ : M.Val)) by unfold M.rd; rw [if_pos hd, M.gate_map, hres])
  rw [HE.out]
  have HP := Lib.hid hp
  clear hp h hres
  have n35 : w.heap.size ≠ w.heap.size + 2 := by omega
  have n45 : w.heap.size + 1 ≠ w.heap.size + 2 := by omega
  have N35 := Lib.hid n35
  have N45 := Lib.hid n45
  clear n35 n45
  go_enter Try.func15, Try.ntmps15
  go_wp2_with (first
    | refine wpList_blank rfl _ rfl 0 rfl ?_
    | (refine wpList_store_pc rfl _ _ rfl (w.heap.size + 2) (blank 0) (blank 0) rfl rfl Q5.out rfl rfl rfl ?_; intro w1 N1 O1; have C1 := Lib.hid (HC.out.only O1.out HF5.out.1 HF5.out.2); have K3 := Lib.hid (Q3.out.only O1.out N35.out); have K4 := Lib.hid (Q4.out.only O1.out N45.out); have c0 := K3.out.cell (cells0 p); have c1 := K3.out.cell (cells1 p)))
  refine (num_is g R e p.x l res _ C1.out HR).mono ?_
  rintro r w2 ⟨rfl, hc2, ho2⟩
  have N2 := Lib.hid (N1.out.only ho2 HF5.out.1.symm)
  have K42 := Lib.hid (K4.out.only ho2 HF4.out.1.symm)
  have C2 := Lib.hid hc2
  have O2 := Lib.hid ((Only.new (Only.new ((Only.refl g w)) HO.out (Nat.le_refl _)) O1.out (Nat.le_add_right _ 2)).trans ho2)
  have d1 := N2.out.cell (i := 1) rfl
  have f1 := N2.out.frozen 1
  have N3 := Lib.hid (show Blk _ _ 33 (⟨0, res.val 0, 0, M.zero8, .slice none 0 0, 0, []⟩ : Pc).cells from N2.out.set 1 (.int .u64 (res.val 0)))
  have O3 := Lib.hid (Only.set (w.heap.size + 2) 1 w2 (.int .u64 (res.val 0)))
  have K43 := Lib.hid (K42.out.only O3.out N45.out)
  clear hc2 ho2
  go_wp2_with (first
    | refine wpList_load_pc rfl _ rfl (w.heap.size + 2) 0 (⟨0, res.val 0, 0, M.zero8, .slice none 0 0, 0, []⟩ : Pc) rfl N3.out.range rfl ?_
    | (refine wpList_store_pc rfl _ _ rfl (w.heap.size + 1) (blank 0) (⟨0, res.val 0, 0, M.zero8, .slice none 0 0, 0, []⟩ : Pc) rfl rfl K43.out rfl rfl rfl ?_; intro w4 N4 O4))
  refine bodyPost_ret (results_pc rfl _ _ (w.heap.size + 1) _ rfl N4.out rfl) rfl ?_
  unfold ReadsP
  rw [M.Got.map_err, M.Got.map_rst, hd]
  refine ⟨.slice none 0 0, ?_, ?_, ((C2.out.only O3.out HF5.out.1 HF5.out.2).only O4.out HF4.out.1 HF4.out.2), (O2.out.new O3.out (Nat.le_add_right _ 2)).new O4.out (Nat.le_add_right _ 1)⟩
  · cases res <;> rfl
  · cases res <;> exact BytesIn.nil _ _
set_option maxRecDepth 100000 in
theorem readP1 (g : Nat) (R : Option Nat) (e : Int) (p : Pc) (l : List Int) (w : World) (h : CurAt w g R e l) (hp : p.Ok w) (hd : p.d = 1) :
    Calls Try.prog 15 #[.pointer (some ⟨g, 0, none⟩), .agg p.cells.toArray] w (ReadsP w g R p.d (M.gate e (M.rd p.d p.x p.n l))) := by
  have hz := zero33
  have c00 := ((blk_alloc w 33 p.cells).alloc (.cells (blank 0).cells.toArray 33)).cell (cells0 p)
  have Q3 := Lib.hid (((blk_alloc w 33 p.cells).alloc (.cells (blank 0).cells.toArray 33)).alloc (.cells (blank 0).cells.toArray 33))
  have Q4 := Lib.hid ((blk2 w (.cells p.cells.toArray 33) 33 (blank 0).cells).alloc (.cells (blank 0).cells.toArray 33))
  have Q5 := Lib.hid (blk3 w (.cells p.cells.toArray 33) (.cells (blank 0).cells.toArray 33) 33 (blank 0).cells)
  have HO := Lib.hid ((((Only.refl w.heap.size w).alloc (.cells p.cells.toArray 33)).alloc (.cells (blank 0).cells.toArray 33)).alloc (.cells (blank 0).cells.toArray 33))
  have HF3 := Lib.hid (h.far (Nat.le_refl _))
  have HF4 := Lib.hid (h.far (Nat.le_add_right _ 1))
  have HF5 := Lib.hid (h.far (Nat.le_add_right _ 2))
  have HC := Lib.hid (((h.alloc (.cells p.cells.toArray 33)).alloc (.cells (blank 0).cells.toArray 33)).alloc (.cells (blank 0).cells.toArray 33))
  obtain ⟨res, hres⟩ : ∃ res, M.gate e (M.rByte l) = res := ⟨_, rfl⟩
  have HR := Lib.hid hres
  have HE := Lib.hid (show M.gate e (M.rd p.d p.x p.n l) = res.map (fun c => (⟨0, c, M.zero8, []⟩ : M.Val)) by unfold M.rd; rw [if_neg (by omega), if_pos hd, M.gate_map, hres])
  rw [HE.out]
  have HP := Lib.hid hp
  clear hp h hres
  have n35 : w.heap.size ≠ w.heap.size + 2 := by omega
  have n45 : w.heap.size + 1 ≠ w.heap.size + 2 := by omega
  have N35 := Lib.hid n35
  have N45 := Lib.hid n45
  clear n35 n45
  go_enter Try.func15, Try.ntmps15
  go_wp2_with (first
    | refine wpList_blank rfl _ rfl 1 rfl ?_
    | (refine wpList_store_pc rfl _ _ rfl (w.heap.size + 2) (blank 0) (blank 1) rfl rfl Q5.out rfl rfl rfl ?_; intro w1 N1 O1; have C1 := Lib.hid (HC.out.only O1.out HF5.out.1 HF5.out.2); have K3 := Lib.hid (Q3.out.only O1.out N35.out); have K4 := Lib.hid (Q4.out.only O1.out N45.out); have c0 := K3.out.cell (cells0 p)))
  refine (byte_is g R e l res _ C1.out HR).mono ?_
  rintro r w2 ⟨rfl, hc2, ho2⟩
  have N2 := Lib.hid (N1.out.only ho2 HF5.out.1.symm)
  have K42 := Lib.hid (K4.out.only ho2 HF4.out.1.symm)
  have C2 := Lib.hid hc2
  have O2 := Lib.hid ((Only.new (Only.new ((Only.refl g w)) HO.out (Nat.le_refl _)) O1.out (Nat.le_add_right _ 2)).trans ho2)
  have d1 := N2.out.cell (i := 2) rfl
  have f1 := N2.out.frozen 2
  have N3 := Lib.hid (show Blk _ _ 33 (⟨1, 0, res.val 0, M.zero8, .slice none 0 0, 0, []⟩ : Pc).cells from N2.out.set 2 (.int .u8 (res.val 0)))
  have O3 := Lib.hid (Only.set (w.heap.size + 2) 2 w2 (.int .u8 (res.val 0)))
  have K43 := Lib.hid (K42.out.only O3.out N45.out)
  clear hc2 ho2
  go_wp2_with (first
    | refine wpList_load_pc rfl _ rfl (w.heap.size + 2) 0 (⟨1, 0, res.val 0, M.zero8, .slice none 0 0, 0, []⟩ : Pc) rfl N3.out.range rfl ?_
    | (refine wpList_store_pc rfl _ _ rfl (w.heap.size + 1) (blank 0) (⟨1, 0, res.val 0, M.zero8, .slice none 0 0, 0, []⟩ : Pc) rfl rfl K43.out rfl rfl rfl ?_; intro w4 N4 O4))
  refine bodyPost_ret (results_pc rfl _ _ (w.heap.size + 1) _ rfl N4.out rfl) rfl ?_
  unfold ReadsP
  rw [M.Got.map_err, M.Got.map_rst, hd]
  refine ⟨.slice none 0 0, ?_, ?_, ((C2.out.only O3.out HF5.out.1 HF5.out.2).only O4.out HF4.out.1 HF4.out.2), (O2.out.new O3.out (Nat.le_add_right _ 2)).new O4.out (Nat.le_add_right _ 1)⟩
  · cases res <;> rfl
  · cases res <;> exact BytesIn.nil _ _
set_option maxRecDepth 100000 in
theorem readP2 (g : Nat) (R : Option Nat) (e : Int) (p : Pc) (l : List Int) (w : World) (h : CurAt w g R e l) (hp : p.Ok w) (hd : p.d = 2) :
    Calls Try.prog 15 #[.pointer (some ⟨g, 0, none⟩), .agg p.cells.toArray] w (ReadsP w g R p.d (M.gate e (M.rd p.d p.x p.n l))) := by
  have hz := zero33
  have c00 := ((blk_alloc w 33 p.cells).alloc (.cells (blank 0).cells.toArray 33)).cell (cells0 p)
  have Q3 := Lib.hid (((blk_alloc w 33 p.cells).alloc (.cells (blank 0).cells.toArray 33)).alloc (.cells (blank 0).cells.toArray 33))
  have Q4 := Lib.hid ((blk2 w (.cells p.cells.toArray 33) 33 (blank 0).cells).alloc (.cells (blank 0).cells.toArray 33))
  have Q5 := Lib.hid (blk3 w (.cells p.cells.toArray 33) (.cells (blank 0).cells.toArray 33) 33 (blank 0).cells)
  have HO := Lib.hid ((((Only.refl w.heap.size w).alloc (.cells p.cells.toArray 33)).alloc (.cells (blank 0).cells.toArray 33)).alloc (.cells (blank 0).cells.toArray 33))
  have HF3 := Lib.hid (h.far (Nat.le_refl _))
  have HF4 := Lib.hid (h.far (Nat.le_add_right _ 1))
  have HF5 := Lib.hid (h.far (Nat.le_add_right _ 2))
  have HC := Lib.hid (((h.alloc (.cells p.cells.toArray 33)).alloc (.cells (blank 0).cells.toArray 33)).alloc (.cells (blank 0).cells.toArray 33))
  obtain ⟨res, hres⟩ : ∃ res, M.gate e (M.rName l) = res := ⟨_, rfl⟩
  have HR := Lib.hid hres
  have HE := Lib.hid (show M.gate e (M.rd p.d p.x p.n l) = res.map (fun m => (⟨0, 0, m, []⟩ : M.Val)) by unfold M.rd; rw [if_neg (by omega), if_neg (by omega), if_pos hd, M.gate_map, hres])
  rw [HE.out]
  have HP := Lib.hid hp
  clear hp h hres
  have n35 : w.heap.size ≠ w.heap.size + 2 := by omega
  have n45 : w.heap.size + 1 ≠ w.heap.size + 2 := by omega
  have N35 := Lib.hid n35
  have N45 := Lib.hid n45
  clear n35 n45
  go_enter Try.func15, Try.ntmps15
  go_wp2_with (first
    | refine wpList_blank rfl _ rfl 2 rfl ?_
    | (refine wpList_store_pc rfl _ _ rfl (w.heap.size + 2) (blank 0) (blank 2) rfl rfl Q5.out rfl rfl rfl ?_; intro w1 N1 O1; have C1 := Lib.hid (HC.out.only O1.out HF5.out.1 HF5.out.2); have K3 := Lib.hid (Q3.out.only O1.out N35.out); have K4 := Lib.hid (Q4.out.only O1.out N45.out); have c0 := K3.out.cell (cells0 p)))
  refine (name_is g R e l res _ C1.out HR).mono ?_
  rintro r w2 ⟨rfl, hc2, ho2⟩
  have N2 := Lib.hid (N1.out.only ho2 HF5.out.1.symm)
  have K42 := Lib.hid (K4.out.only ho2 HF4.out.1.symm)
  have C2 := Lib.hid hc2
  have O2 := Lib.hid ((Only.new (Only.new ((Only.refl g w)) HO.out (Nat.le_refl _)) O1.out (Nat.le_add_right _ 2)).trans ho2)
  have HM := Lib.hid (show (res.val M.zero8).length = 8 by rw [← HR.out]; exact name_len)
  clear hc2 ho2
  go_wp2_with (first
    | (refine wpList_store_nm rfl _ _ rfl (w.heap.size + 2) (blank 2) (res.val M.zero8) rfl rfl N2.out rfl HM.out ?_; intro w3 N3 O3; have K43 := Lib.hid (K42.out.only O3.out N45.out))
    | refine wpList_load_pc rfl _ rfl (w.heap.size + 2) 0 (⟨2, 0, 0, res.val M.zero8, .slice none 0 0, 0, []⟩ : Pc) rfl N3.out.range HM.out ?_
    | (refine wpList_store_pc rfl _ _ rfl (w.heap.size + 1) (blank 0) (⟨2, 0, 0, res.val M.zero8, .slice none 0 0, 0, []⟩ : Pc) rfl rfl K43.out rfl HM.out rfl ?_; intro w4 N4 O4))
  refine bodyPost_ret (results_pc rfl _ _ (w.heap.size + 1) _ rfl N4.out HM.out) rfl ?_
  unfold ReadsP
  rw [M.Got.map_err, M.Got.map_rst, hd]
  refine ⟨.slice none 0 0, ?_, ?_, ((C2.out.only O3.out HF5.out.1 HF5.out.2).only O4.out HF4.out.1 HF4.out.2), (O2.out.new O3.out (Nat.le_add_right _ 2)).new O4.out (Nat.le_add_right _ 1)⟩
  · cases res <;> rfl
  · cases res <;> exact BytesIn.nil _ _
set_option maxRecDepth 100000 in
theorem readP3 (g : Nat) (R : Option Nat) (e : Int) (p : Pc) (l : List Int) (w : World) (h : CurAt w g R e l) (hp : p.Ok w) (hd0 : ¬ p.d = 0) (hd1 : ¬ p.d = 1) (hd2 : ¬ p.d = 2) :
    Calls Try.prog 15 #[.pointer (some ⟨g, 0, none⟩), .agg p.cells.toArray] w (ReadsP w g R p.d (M.gate e (M.rd p.d p.x p.n l))) := by
  have hz := zero33
  have c00 := ((blk_alloc w 33 p.cells).alloc (.cells (blank 0).cells.toArray 33)).cell (cells0 p)
  have Q3 := Lib.hid (((blk_alloc w 33 p.cells).alloc (.cells (blank 0).cells.toArray 33)).alloc (.cells (blank 0).cells.toArray 33))
  have Q4 := Lib.hid ((blk2 w (.cells p.cells.toArray 33) 33 (blank 0).cells).alloc (.cells (blank 0).cells.toArray 33))
  have Q5 := Lib.hid (blk3 w (.cells p.cells.toArray 33) (.cells (blank 0).cells.toArray 33) 33 (blank 0).cells)
  have HO := Lib.hid ((((Only.refl w.heap.size w).alloc (.cells p.cells.toArray 33)).alloc (.cells (blank 0).cells.toArray 33)).alloc (.cells (blank 0).cells.toArray 33))
  have HF3 := Lib.hid (h.far (Nat.le_refl _))
  have HF4 := Lib.hid (h.far (Nat.le_add_right _ 1))
  have HF5 := Lib.hid (h.far (Nat.le_add_right _ 2))
  have HC := Lib.hid (((h.alloc (.cells p.cells.toArray 33)).alloc (.cells (blank 0).cells.toArray 33)).alloc (.cells (blank 0).cells.toArray 33))
  obtain ⟨res, hres⟩ : ∃ res, M.gate e (M.rBytes p.n l) = res := ⟨_, rfl⟩
  have HR := Lib.hid hres
  have HE := Lib.hid (show M.gate e (M.rd p.d p.x p.n l) = res.map (fun b => (⟨0, 0, M.zero8, b⟩ : M.Val)) by unfold M.rd; rw [if_neg hd0, if_neg hd1, if_neg hd2, M.gate_map, hres])
  rw [HE.out]
  have HP := Lib.hid hp
  clear hp h hres
  have n35 : w.heap.size ≠ w.heap.size + 2 := by omega
  have n45 : w.heap.size + 1 ≠ w.heap.size + 2 := by omega
  have N35 := Lib.hid n35
  have N45 := Lib.hid n45
  clear n35 n45
  go_enter Try.func15, Try.ntmps15
  go_wp2_with (first
    | refine wpList_blank rfl _ rfl p.d rfl ?_
    | (refine wpList_store_pc rfl _ _ rfl (w.heap.size + 2) (blank 0) (blank p.d) rfl rfl Q5.out rfl rfl rfl ?_; intro w1 N1 O1; have C1 := Lib.hid (HC.out.only O1.out HF5.out.1 HF5.out.2); have K3 := Lib.hid (Q3.out.only O1.out N35.out); have K4 := Lib.hid (Q4.out.only O1.out N45.out); have c0 := K3.out.cell (cells0 p); have c1 := K3.out.cell (cells12 HP.out.ml)))
  refine (bytes_is g R e p.n l res _ C1.out HP.out.n1 HR).mono ?_
  rintro r w2 ⟨v2, rfl, hv2, hc2, ho2⟩
  have N2 := Lib.hid (N1.out.only ho2 HF5.out.1.symm)
  have K42 := Lib.hid (K4.out.only ho2 HF4.out.1.symm)
  have C2 := Lib.hid hc2
  have O2 := Lib.hid ((Only.new (Only.new ((Only.refl g w)) HO.out (Nat.le_refl _)) O1.out (Nat.le_add_right _ 2)).trans ho2)
  obtain ⟨a2, n2, cap2, rfl⟩ : ∃ a n cap, v2 = .slice a n cap := by obtain ⟨a, cap, e⟩ := hv2.shape; exact ⟨a, _, cap, e⟩
  have V2 := Lib.hid hv2
  clear hv2
  have d1 := N2.out.cell (i := 11) rfl
  have f1 := N2.out.frozen 11
  have N3 := Lib.hid (show Blk _ _ 33 (⟨p.d, 0, 0, M.zero8, .slice a2 n2 cap2, 0, res.val []⟩ : Pc).cells from N2.out.set 11 (.slice a2 n2 cap2))
  have O3 := Lib.hid (Only.set (w.heap.size + 2) 11 w2 (.slice a2 n2 cap2))
  have K43 := Lib.hid (K42.out.only O3.out N45.out)
  clear hc2 ho2
  go_wp2_with (first
    | refine wpList_load_pc rfl _ rfl (w.heap.size + 2) 0 (⟨p.d, 0, 0, M.zero8, .slice a2 n2 cap2, 0, res.val []⟩ : Pc) rfl N3.out.range rfl ?_
    | (refine wpList_store_pc rfl _ _ rfl (w.heap.size + 1) (blank 0) (⟨p.d, 0, 0, M.zero8, .slice a2 n2 cap2, 0, res.val []⟩ : Pc) rfl rfl K43.out rfl rfl rfl ?_; intro w4 N4 O4))
  refine bodyPost_ret (results_pc rfl _ _ (w.heap.size + 1) _ rfl N4.out rfl) rfl ?_
  unfold ReadsP
  rw [M.Got.map_err, M.Got.map_rst]
  refine ⟨.slice a2 n2 cap2, ?_, ?_, ((C2.out.only O3.out HF5.out.1 HF5.out.2).only O4.out HF4.out.1 HF4.out.2), (O2.out.new O3.out (Nat.le_add_right _ 2)).new O4.out (Nat.le_add_right _ 1)⟩
  · cases res <;> rfl
  · have hb := (V2.out.only O3.out HF5.out.2).only O4.out HF4.out.2
    cases res <;> exact hb
theorem readP_is (g : Nat) (R : Option Nat) (e : Int) (p : Pc) (l : List Int) (w : World) (h : CurAt w g R e l) (hp : p.Ok w) :
    Calls Try.prog 15 #[.pointer (some ⟨g, 0, none⟩), .agg p.cells.toArray] w (ReadsP w g R p.d (M.gate e (M.rd p.d p.x p.n l))) := by
  by_cases h0 : p.d = 0
  · exact readP0 g R e p l w h hp h0
  · by_cases h1 : p.d = 1
    · exact readP1 g R e p l w h hp h1
    · by_cases h2 : p.d = 2
      · exact readP2 g R e p l w h hp h2
      · exact readP3 g R e p l w h hp h0 h1 h2
set_option maxRecDepth 100000 in
theorem readN0 (p : Pc) (w : World) (hp : p.Ok w) (hd : p.d = 0) :
    Calls Try.prog 15 #[.pointer none, .agg p.cells.toArray] w fun r w' => r = .returned (.agg (blank p.d).cells.toArray) ∧ Below w.heap.size w w' := by
  have hz := zero33
  have c00 := ((blk_alloc w 33 p.cells).alloc (.cells (blank 0).cells.toArray 33)).cell (cells0 p)
  have Q3 := Lib.hid (((blk_alloc w 33 p.cells).alloc (.cells (blank 0).cells.toArray 33)).alloc (.cells (blank 0).cells.toArray 33))
  have Q4 := Lib.hid ((blk2 w (.cells p.cells.toArray 33) 33 (blank 0).cells).alloc (.cells (blank 0).cells.toArray 33))
  have Q5 := Lib.hid (blk3 w (.cells p.cells.toArray 33) (.cells (blank 0).cells.toArray 33) 33 (blank 0).cells)
  have HO := Lib.hid ((((Only.refl w.heap.size w).alloc (.cells p.cells.toArray 33)).alloc (.cells (blank 0).cells.toArray 33)).alloc (.cells (blank 0).cells.toArray 33))
  have HP := Lib.hid hp
  clear hp
  have n35 : w.heap.size ≠ w.heap.size + 2 := by omega
  have n45 : w.heap.size + 1 ≠ w.heap.size + 2 := by omega
  have N35 := Lib.hid n35
  have N45 := Lib.hid n45
  clear n35 n45
  go_enter Try.func15, Try.ntmps15
  go_wp2_with (first
    | refine wpList_blank rfl _ rfl 0 rfl ?_
    | (refine wpList_store_pc rfl _ _ rfl (w.heap.size + 2) (blank 0) (blank 0) rfl rfl Q5.out rfl rfl rfl ?_; intro w1 N1 O1; have K3 := Lib.hid (Q3.out.only O1.out N35.out); have K4 := Lib.hid (Q4.out.only O1.out N45.out); have c0 := K3.out.cell (cells0 p); have c1 := K3.out.cell (cells1 p)))
  refine (num_none p.x _).mono ?_
  rintro r w2 ⟨rfl, hb2⟩
  have N2 := Lib.hid (N1.out.below hb2)
  have K42 := Lib.hid (K4.out.below hb2)
  have B2 := Lib.hid (step_ ((HO.out.below (Nat.le_refl _) (Nat.le_refl _)).trans (O1.out.below (Nat.le_add_right _ 2) HO.out.size)) hb2)
  have d1 := N2.out.cell (i := 1) rfl
  have f1 := N2.out.frozen 1
  have N3 := Lib.hid (show Blk _ _ 33 (blank 0).cells from N2.out.set 1 (.int .u64 0))
  have O3 := Lib.hid (Only.set (w.heap.size + 2) 1 w2 (.int .u64 0))
  have K43 := Lib.hid (K42.out.only O3.out N45.out)
  clear hb2
  go_wp2_with (first
    | refine wpList_load_pc rfl _ rfl (w.heap.size + 2) 0 (blank 0) rfl N3.out.range rfl ?_
    | (refine wpList_store_pc rfl _ _ rfl (w.heap.size + 1) (blank 0) (blank 0) rfl rfl K43.out rfl rfl rfl ?_; intro w4 N4 O4))
  refine bodyPost_ret (results_pc rfl _ _ (w.heap.size + 1) _ rfl N4.out rfl) rfl ?_
  rw [hd]
  exact ⟨rfl, B2.out.trans ((O3.out.below (Nat.le_add_right _ 2) B2.out.size).trans (O4.out.below (Nat.le_add_right _ 1) (Nat.le_trans B2.out.size O3.out.size)))⟩
set_option maxRecDepth 100000 in
theorem readN1 (p : Pc) (w : World) (hp : p.Ok w) (hd : p.d = 1) :
    Calls Try.prog 15 #[.pointer none, .agg p.cells.toArray] w fun r w' => r = .returned (.agg (blank p.d).cells.toArray) ∧ Below w.heap.size w w' := by
  have hz := zero33
  have c00 := ((blk_alloc w 33 p.cells).alloc (.cells (blank 0).cells.toArray 33)).cell (cells0 p)
  have Q3 := Lib.hid (((blk_alloc w 33 p.cells).alloc (.cells (blank 0).cells.toArray 33)).alloc (.cells (blank 0).cells.toArray 33))
  have Q4 := Lib.hid ((blk2 w (.cells p.cells.toArray 33) 33 (blank 0).cells).alloc (.cells (blank 0).cells.toArray 33))
  have Q5 := Lib.hid (blk3 w (.cells p.cells.toArray 33) (.cells (blank 0).cells.toArray 33) 33 (blank 0).cells)
  have HO := Lib.hid ((((Only.refl w.heap.size w).alloc (.cells p.cells.toArray 33)).alloc (.cells (blank 0).cells.toArray 33)).alloc (.cells (blank 0).cells.toArray 33))
  have HP := Lib.hid hp
  clear hp
  have n35 : w.heap.size ≠ w.heap.size + 2 := by omega
  have n45 : w.heap.size + 1 ≠ w.heap.size + 2 := by omega
  have N35 := Lib.hid n35
  have N45 := Lib.hid n45
  clear n35 n45
  go_enter Try.func15, Try.ntmps15
  go_wp2_with (first
    | refine wpList_blank rfl _ rfl 1 rfl ?_
    | (refine wpList_store_pc rfl _ _ rfl (w.heap.size + 2) (blank 0) (blank 1) rfl rfl Q5.out rfl rfl rfl ?_; intro w1 N1 O1; have K3 := Lib.hid (Q3.out.only O1.out N35.out); have K4 := Lib.hid (Q4.out.only O1.out N45.out); have c0 := K3.out.cell (cells0 p)))
  refine (byte_none _).mono ?_
  rintro r w2 ⟨rfl, hb2⟩
  have N2 := Lib.hid (N1.out.below hb2)
  have K42 := Lib.hid (K4.out.below hb2)
  have B2 := Lib.hid (step_ ((HO.out.below (Nat.le_refl _) (Nat.le_refl _)).trans (O1.out.below (Nat.le_add_right _ 2) HO.out.size)) hb2)
  have d1 := N2.out.cell (i := 2) rfl
  have f1 := N2.out.frozen 2
  have N3 := Lib.hid (show Blk _ _ 33 (blank 1).cells from N2.out.set 2 (.int .u8 0))
  have O3 := Lib.hid (Only.set (w.heap.size + 2) 2 w2 (.int .u8 0))
  have K43 := Lib.hid (K42.out.only O3.out N45.out)
  clear hb2
  go_wp2_with (first
    | refine wpList_load_pc rfl _ rfl (w.heap.size + 2) 0 (blank 1) rfl N3.out.range rfl ?_
    | (refine wpList_store_pc rfl _ _ rfl (w.heap.size + 1) (blank 0) (blank 1) rfl rfl K43.out rfl rfl rfl ?_; intro w4 N4 O4))
  refine bodyPost_ret (results_pc rfl _ _ (w.heap.size + 1) _ rfl N4.out rfl) rfl ?_
  rw [hd]
  exact ⟨rfl, B2.out.trans ((O3.out.below (Nat.le_add_right _ 2) B2.out.size).trans (O4.out.below (Nat.le_add_right _ 1) (Nat.le_trans B2.out.size O3.out.size)))⟩
set_option maxRecDepth 100000 in
theorem readN2 (p : Pc) (w : World) (hp : p.Ok w) (hd : p.d = 2) :
    Calls Try.prog 15 #[.pointer none, .agg p.cells.toArray] w fun r w' => r = .returned (.agg (blank p.d).cells.toArray) ∧ Below w.heap.size w w' := by
  have hz := zero33
  have c00 := ((blk_alloc w 33 p.cells).alloc (.cells (blank 0).cells.toArray 33)).cell (cells0 p)
  have Q3 := Lib.hid (((blk_alloc w 33 p.cells).alloc (.cells (blank 0).cells.toArray 33)).alloc (.cells (blank 0).cells.toArray 33))
  have Q4 := Lib.hid ((blk2 w (.cells p.cells.toArray 33) 33 (blank 0).cells).alloc (.cells (blank 0).cells.toArray 33))
  have Q5 := Lib.hid (blk3 w (.cells p.cells.toArray 33) (.cells (blank 0).cells.toArray 33) 33 (blank 0).cells)
  have HO := Lib.hid ((((Only.refl w.heap.size w).alloc (.cells p.cells.toArray 33)).alloc (.cells (blank 0).cells.toArray 33)).alloc (.cells (blank 0).cells.toArray 33))
  have HP := Lib.hid hp
  clear hp
  have n35 : w.heap.size ≠ w.heap.size + 2 := by omega
  have n45 : w.heap.size + 1 ≠ w.heap.size + 2 := by omega
  have N35 := Lib.hid n35
  have N45 := Lib.hid n45
  clear n35 n45
  go_enter Try.func15, Try.ntmps15
  go_wp2_with (first
    | refine wpList_blank rfl _ rfl 2 rfl ?_
    | (refine wpList_store_pc rfl _ _ rfl (w.heap.size + 2) (blank 0) (blank 2) rfl rfl Q5.out rfl rfl rfl ?_; intro w1 N1 O1; have K3 := Lib.hid (Q3.out.only O1.out N35.out); have K4 := Lib.hid (Q4.out.only O1.out N45.out); have c0 := K3.out.cell (cells0 p)))
  refine (name_none _).mono ?_
  rintro r w2 ⟨rfl, hb2⟩
  have N2 := Lib.hid (N1.out.below hb2)
  have K42 := Lib.hid (K4.out.below hb2)
  have B2 := Lib.hid (step_ ((HO.out.below (Nat.le_refl _) (Nat.le_refl _)).trans (O1.out.below (Nat.le_add_right _ 2) HO.out.size)) hb2)
  clear hb2
  go_wp2_with (first
    | (refine wpList_store_nm rfl _ _ rfl (w.heap.size + 2) (blank 2) M.zero8 rfl rfl N2.out rfl rfl ?_; intro w3 N3 O3; have K43 := Lib.hid (K42.out.only O3.out N45.out))
    | refine wpList_load_pc rfl _ rfl (w.heap.size + 2) 0 (blank 2) rfl N3.out.range rfl ?_
    | (refine wpList_store_pc rfl _ _ rfl (w.heap.size + 1) (blank 0) (blank 2) rfl rfl K43.out rfl rfl rfl ?_; intro w4 N4 O4))
  refine bodyPost_ret (results_pc rfl _ _ (w.heap.size + 1) _ rfl N4.out rfl) rfl ?_
  rw [hd]
  exact ⟨rfl, B2.out.trans ((O3.out.below (Nat.le_add_right _ 2) B2.out.size).trans (O4.out.below (Nat.le_add_right _ 1) (Nat.le_trans B2.out.size O3.out.size)))⟩
set_option maxRecDepth 100000 in
theorem readN3 (p : Pc) (w : World) (hp : p.Ok w) (hd0 : ¬ p.d = 0) (hd1 : ¬ p.d = 1) (hd2 : ¬ p.d = 2) :
    Calls Try.prog 15 #[.pointer none, .agg p.cells.toArray] w fun r w' => r = .returned (.agg (blank p.d).cells.toArray) ∧ Below w.heap.size w w' := by
  have hz := zero33
  have c00 := ((blk_alloc w 33 p.cells).alloc (.cells (blank 0).cells.toArray 33)).cell (cells0 p)
  have Q3 := Lib.hid (((blk_alloc w 33 p.cells).alloc (.cells (blank 0).cells.toArray 33)).alloc (.cells (blank 0).cells.toArray 33))
  have Q4 := Lib.hid ((blk2 w (.cells p.cells.toArray 33) 33 (blank 0).cells).alloc (.cells (blank 0).cells.toArray 33))
  have Q5 := Lib.hid (blk3 w (.cells p.cells.toArray 33) (.cells (blank 0).cells.toArray 33) 33 (blank 0).cells)
  have HO := Lib.hid ((((Only.refl w.heap.size w).alloc (.cells p.cells.toArray 33)).alloc (.cells (blank 0).cells.toArray 33)).alloc (.cells (blank 0).cells.toArray 33))
  have HP := Lib.hid hp
  clear hp
  have n35 : w.heap.size ≠ w.heap.size + 2 := by omega
  have n45 : w.heap.size + 1 ≠ w.heap.size + 2 := by omega
  have N35 := Lib.hid n35
  have N45 := Lib.hid n45
  clear n35 n45
  go_enter Try.func15, Try.ntmps15
  go_wp2_with (first
    | refine wpList_blank rfl _ rfl p.d rfl ?_
    | (refine wpList_store_pc rfl _ _ rfl (w.heap.size + 2) (blank 0) (blank p.d) rfl rfl Q5.out rfl rfl rfl ?_; intro w1 N1 O1; have K3 := Lib.hid (Q3.out.only O1.out N35.out); have K4 := Lib.hid (Q4.out.only O1.out N45.out); have c0 := K3.out.cell (cells0 p); have c1 := K3.out.cell (cells12 HP.out.ml)))
  refine (bytes_none p.n _ HP.out.n1).mono ?_
  rintro r w2 ⟨rfl, hb2⟩
  have N2 := Lib.hid (N1.out.below hb2)
  have K42 := Lib.hid (K4.out.below hb2)
  have B2 := Lib.hid (step_ ((HO.out.below (Nat.le_refl _) (Nat.le_refl _)).trans (O1.out.below (Nat.le_add_right _ 2) HO.out.size)) hb2)
  have d1 := N2.out.cell (i := 11) rfl
  have f1 := N2.out.frozen 11
  have N3 := Lib.hid (show Blk _ _ 33 (blank p.d).cells from N2.out.set 11 (.slice none 0 0))
  have O3 := Lib.hid (Only.set (w.heap.size + 2) 11 w2 (.slice none 0 0))
  have K43 := Lib.hid (K42.out.only O3.out N45.out)
  clear hb2
  go_wp2_with (first
    | refine wpList_load_pc rfl _ rfl (w.heap.size + 2) 0 (blank p.d) rfl N3.out.range rfl ?_
    | (refine wpList_store_pc rfl _ _ rfl (w.heap.size + 1) (blank 0) (blank p.d) rfl rfl K43.out rfl rfl rfl ?_; intro w4 N4 O4))
  refine bodyPost_ret (results_pc rfl _ _ (w.heap.size + 1) _ rfl N4.out rfl) rfl ?_
  exact ⟨rfl, B2.out.trans ((O3.out.below (Nat.le_add_right _ 2) B2.out.size).trans (O4.out.below (Nat.le_add_right _ 1) (Nat.le_trans B2.out.size O3.out.size)))⟩
theorem readP_none (p : Pc) (w : World) (hp : p.Ok w) : Calls Try.prog 15 #[.pointer none, .agg p.cells.toArray] w fun r w' => r = .returned (.agg (blank p.d).cells.toArray) ∧ Below w.heap.size w w' := by
  by_cases h0 : p.d = 0
  · exact readN0 p w hp h0
  · by_cases h1 : p.d = 1
    · exact readN1 p w hp h1
    · by_cases h2 : p.d = 2
      · exact readN2 p w hp h2
      · exact readN3 p w hp h0 h1 h2
end Go.Proofs.Ytieeggdmmnhbjaa
