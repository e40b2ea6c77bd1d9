/- The contract of Read of the reference's cursor. -/
import Derived.Test.YteggjihhjdeieaaGreatRefNum
namespace Go.Proofs.YteggjihhjdeieaaGreat
open Go.RowKit

/-- The reference's cursor: the cells of its block, and the block that its bytes lie in. -/
def RefC (w : World) (g : Nat) (R : Option Nat) (e : Int) (v : Value) (l : List Int) : Prop := Blk w g 44 [v, .int .i64 e] ∧ BytesIn R w v l ∧ R ≠ some g ∧ ∀ r, R = some r → r < w.heap.size
theorem RefC.below {w w' : World} {g : Nat} {R : Option Nat} {e : Int} {v : Value} {l : List Int} (h : RefC w g R e v l) (hb : Below w.heap.size w w') : RefC w' g R e v l := ⟨h.1.below hb, h.2.1.below hb, h.2.2.1, fun r hr => Nat.lt_of_lt_of_le (h.2.2.2 r hr) hb.size⟩
theorem RefC.only {w w' : World} {g x : Nat} {R : Option Nat} {e : Int} {v : Value} {l : List Int} (h : RefC w g R e v l) (ho : Only x w w') (hg : g ≠ x) (hR : R ≠ some x) : RefC w' g R e v l :=
  ⟨h.1.only ho hg, h.2.1.only ho hR, h.2.2.1, fun r hr => Nat.lt_of_lt_of_le (h.2.2.2 r hr) ho.size⟩
theorem RefC.far {w : World} {g x : Nat} {R : Option Nat} {e : Int} {v : Value} {l : List Int} (h : RefC w g R e v l) (hx : w.heap.size ≤ x) : g ≠ x ∧ R ≠ some x :=
  ⟨Nat.ne_of_lt (Nat.lt_of_lt_of_le h.1.lt hx), fun e => Nat.lt_irrefl _ (Nat.lt_of_lt_of_le (h.2.2.2 x e) hx)⟩
theorem RefC.alloc {w : World} {g : Nat} {R : Option Nat} {e : Int} {v : Value} {l : List Int} (h : RefC w g R e v l) (o : Obj) : RefC (w.alloc o) g R e v l := h.below ((Below.refl _ _).alloc (Nat.le_refl _) _)
/-- The cursor as a caller sees it. -/
def RefAt (w : World) (g : Nat) (R : Option Nat) (e : Int) (l : List Int) : Prop := ∃ v, RefC w g R e v l ∧ (e ≠ 0 → l = []) ∧ l.length ≤ 30000
/-- What a read of a piece comes to. -/
def RefsP (w : World) (g : Nat) (R : Option Nat) (d : Int) (res : M.Got M.Val) (r : Ending) (w' : World) : Prop :=
  ∃ v, r = .returned (.agg (gotP d (res.val M.zeroV) v).cells.toArray) ∧ BytesIn R w' v (res.val M.zeroV).b ∧ RefAt w' g R res.err res.rst ∧ Only g w w'
/-- The error is kept, and the bytes are let go. -/
theorem ref_drop {w : World} {g : Nat} {R : Option Nat} {v : Value} {l : List Int} (h : RefC w g R 0 v l) (e : Int) : RefC ((w.setCell ⟨g, 0, none⟩ (.slice none 0 0)).setCell ⟨g, 1, none⟩ (.int .i64 e)) g R e (.slice none 0 0) [] :=
  ⟨(h.1.set 0 (.slice none 0 0)).set 1 (.int .i64 e), BytesIn.nil _ _, h.2.2.1, fun r hr => Nat.lt_of_lt_of_le (h.2.2.2 r hr) (((Only.set g 0 w (.slice none 0 0)).trans (Only.set g 1 _ (.int .i64 e))).size)⟩
theorem ref_set {w : World} {g : Nat} {R : Option Nat} {v v' : Value} {l l' : List Int} (h : RefC w g R 0 v l) (hv : BytesIn R w v' l') : RefC (w.setCell ⟨g, 0, none⟩ v') g R 0 v' l' :=
  ⟨h.1.set 0 v', hv.only (Only.set g 0 w v') h.2.2.1, h.2.2.1, fun r hr => Nat.lt_of_lt_of_le (h.2.2.2 r hr) (Only.set g 0 w v').size⟩
theorem refs_bad {w w' : World} {g : Nat} {R : Option Nat} {d e : Int} {r : Ending} (hr : r = .returned (.agg (blank d).cells.toArray)) (hc : RefC w' g R e (.slice none 0 0) []) (ho : Only g w w') : RefsP w g R d (.bad e) r w' :=
  ⟨.slice none 0 0, hr, BytesIn.nil _ _, ⟨_, hc, fun _ => rfl, Nat.zero_le _⟩, ho⟩
set_option maxRecDepth 100000 in
theorem ref_spent (g : Nat) (R : Option Nat) (e : Int) (p : Pc) (v : Value) (w : World) (h : RefC w g R e v []) (hp : p.Ok w) (he : e ≠ 0) :
    Calls Tryz.prog 29 #[.pointer (some ⟨g, 0, none⟩), .agg p.cells.toArray] w (RefsP w g R p.d (.bad e)) := by
  have hz := zero33
  have c00 := ((blk_alloc w 56 p.cells).alloc (.cells (blank 0).cells.toArray 56)).cell (cells0 p)
  have Q3 := Lib.hid (((blk_alloc w 56 p.cells).alloc (.cells (blank 0).cells.toArray 56)).alloc (.cells (blank 0).cells.toArray 56))
  have Q4 := Lib.hid ((blk2 w (.cells p.cells.toArray 56) 56 (blank 0).cells).alloc (.cells (blank 0).cells.toArray 56))
  have Q5 := Lib.hid (blk3 w (.cells p.cells.toArray 56) (.cells (blank 0).cells.toArray 56) 56 (blank 0).cells)
  have HO := Lib.hid ((((Only.refl w.heap.size w).alloc (.cells p.cells.toArray 56)).alloc (.cells (blank 0).cells.toArray 56)).alloc (.cells (blank 0).cells.toArray 56))
  have HF3 := Lib.hid (h.far (Nat.le_refl _))
  have HF4 := Lib.hid (h.far (Nat.le_add_right _ 1))
  have HF5 := Lib.hid (h.far (Nat.le_add_right _ 2))
  have HC := Lib.hid (((h.alloc (.cells p.cells.toArray 56)).alloc (.cells (blank 0).cells.toArray 56)).alloc (.cells (blank 0).cells.toArray 56))
  have HP := Lib.hid hp
  obtain ⟨a, cap, rfl⟩ := h.2.1.shape
  clear h hp
  have n35 : w.heap.size ≠ w.heap.size + 2 := by omega
  have n45 : w.heap.size + 1 ≠ w.heap.size + 2 := by omega
  have N35 := Lib.hid n35
  have N45 := Lib.hid n45
  clear n35 n45
  go_enter Tryz.func29, Tryz.ntmps29
  go_wp2_with (first
    | refine wpList_blank rfl _ rfl p.d rfl ?_
    | (refine wpList_store_pc rfl _ _ rfl (w.heap.size + 2) (blank 0) (blank p.d) rfl rfl Q5.out rfl rfl rfl ?_; intro w1 N1 O1; have C1 := Lib.hid (HC.out.only O1.out HF5.out.1 HF5.out.2); have K3 := Lib.hid (Q3.out.only O1.out N35.out); have K4 := Lib.hid (Q4.out.only O1.out N45.out); have c0 := K3.out.cell (cells0 p); have cB := C1.out.1.cell (i := 0) rfl; have cE := C1.out.1.cell (i := 1) rfl; have fB := C1.out.1.frozen 0; have fE := C1.out.1.frozen 1; have OO1 := Lib.hid (Only.new (Only.new (Only.refl g w) HO.out (Nat.le_refl _)) O1.out (Nat.le_add_right _ 2)))
    | refine wpList_load_pc rfl _ rfl (w.heap.size + 2) 0 (blank p.d) rfl N1.out.range rfl ?_
    | (refine wpList_store_pc rfl _ _ rfl (w.heap.size + 1) (blank 0) (blank p.d) rfl rfl K4.out rfl rfl rfl ?_; intro w9 N9 O9))
  refine bodyPost_ret (results_pc rfl _ _ (w.heap.size + 1) _ rfl N9.out rfl) rfl ?_
  exact ⟨.slice none 0 0, rfl, BytesIn.nil _ _, ⟨_, C1.out.only O9.out HF4.out.1 HF4.out.2, fun _ => rfl, Nat.zero_le _⟩, OO1.out.new O9.out (Nat.le_add_right _ 1)⟩
set_option maxRecDepth 100000 in
set_option maxHeartbeats 2000000 in
theorem ref1_bad (g : Nat) (R : Option Nat) (p : Pc) (v : Value) (w : World) (h : RefC w g R 0 v []) (hp : p.Ok w) (hd : p.d = 1) :
    Calls Tryz.prog 29 #[.pointer (some ⟨g, 0, none⟩), .agg p.cells.toArray] w (RefsP w g R p.d (.bad 4)) := by
  have hz := zero33
  have c00 := ((blk_alloc w 56 p.cells).alloc (.cells (blank 0).cells.toArray 56)).cell (cells0 p)
  have Q3 := Lib.hid (((blk_alloc w 56 p.cells).alloc (.cells (blank 0).cells.toArray 56)).alloc (.cells (blank 0).cells.toArray 56))
  have Q4 := Lib.hid ((blk2 w (.cells p.cells.toArray 56) 56 (blank 0).cells).alloc (.cells (blank 0).cells.toArray 56))
  have Q5 := Lib.hid (blk3 w (.cells p.cells.toArray 56) (.cells (blank 0).cells.toArray 56) 56 (blank 0).cells)
  have HO := Lib.hid ((((Only.refl w.heap.size w).alloc (.cells p.cells.toArray 56)).alloc (.cells (blank 0).cells.toArray 56)).alloc (.cells (blank 0).cells.toArray 56))
  have HF3 := Lib.hid (h.far (Nat.le_refl _))
  have HF4 := Lib.hid (h.far (Nat.le_add_right _ 1))
  have HF5 := Lib.hid (h.far (Nat.le_add_right _ 2))
  have HC := Lib.hid (((h.alloc (.cells p.cells.toArray 56)).alloc (.cells (blank 0).cells.toArray 56)).alloc (.cells (blank 0).cells.toArray 56))
  have HP := Lib.hid hp
  obtain ⟨a, cap, rfl⟩ := h.2.1.shape
  clear h hp
  have n35 : w.heap.size ≠ w.heap.size + 2 := by omega
  have n45 : w.heap.size + 1 ≠ w.heap.size + 2 := by omega
  have N35 := Lib.hid n35
  have N45 := Lib.hid n45
  clear n35 n45
  go_enter Tryz.func29, Tryz.ntmps29
  go_wp2_with (first
    | refine wpList_blank rfl _ rfl 1 rfl ?_
    | (refine wpList_store_pc rfl _ _ rfl (w.heap.size + 2) (blank 0) (blank 1) rfl rfl Q5.out rfl rfl rfl ?_; intro w1 N1 O1; have C1 := Lib.hid (HC.out.only O1.out HF5.out.1 HF5.out.2); have K3 := Lib.hid (Q3.out.only O1.out N35.out); have K4 := Lib.hid (Q4.out.only O1.out N45.out); have c0 := K3.out.cell (cells0 p); have cB := C1.out.1.cell (i := 0) rfl; have cE := C1.out.1.cell (i := 1) rfl; have fB := C1.out.1.frozen 0; have fE := C1.out.1.frozen 1; have OO1 := Lib.hid (Only.new (Only.new (Only.refl g w) HO.out (Nat.le_refl _)) O1.out (Nat.le_add_right _ 2)); have eB := ((C1).out.1.set 0 (.slice none 0 0)).cell (i := 1) rfl; have fB2 := ((C1).out.1.set 0 (.slice none 0 0)).frozen 1; have CZ := Lib.hid (ref_drop C1.out 4); have OZ := Lib.hid ((Only.set g 0 w1 (.slice none 0 0)).trans (Only.set g 1 _ (.int .i64 4))); have K3Z := Lib.hid (K3.out.only OZ.out HF3.out.1.symm); have K4Z := Lib.hid (K4.out.only OZ.out HF4.out.1.symm); have z0 := K3Z.out.cell (cells0 p))
    | (refine wpList_store_pc rfl _ _ rfl (w.heap.size + 1) (blank 0) (blank 1) rfl rfl K4Z.out rfl rfl rfl ?_; intro w9 N9 O9))
  refine bodyPost_ret (results_pc rfl _ _ (w.heap.size + 1) _ rfl N9.out rfl) rfl ?_
  exact refs_bad (by first | rfl | rw [hd]) (CZ.out.only O9.out HF4.out.1 HF4.out.2) ((OO1.out.trans OZ.out).new O9.out (Nat.le_add_right _ 1))
theorem RefC.drew {w : World} {g : Nat} {R : Option Nat} {e : Int} {v : Value} {l : List Int} (h : RefC w g R e v l) : RefC w.drew g R e v l := ⟨h.1, h.2.1, h.2.2⟩
theorem bytes_upto {R : Option Nat} {w : World} {a : Option Addr} {cap : Nat} {l : List Int} (h : BytesIn R w (.slice a l.length cap) l) (k : Nat) (hk : k ≤ l.length) : BytesIn R w (.slice a k cap) (l.take k) := by
  obtain ⟨⟨a', cap', hv, hcap, hb, hc⟩, hn⟩ := h
  injection hv with h1 h2 h3
  subst h1; subst h3
  have hl : (l.take k).length = k := by rw [List.length_take]; omega
  refine ⟨⟨_, _, by rw [hl], ⟨by rw [hl]; exact Nat.le_trans hk hcap.1, hcap.2⟩, hb.take k, fun h0 => ?_⟩, fun g off n cap' hv hn' => ?_⟩
  · rw [hl] at h0
    obtain ⟨g, off, ha, hg, hcell⟩ := hc (by omega)
    refine ⟨g, off, ha, hg, fun i hi => ?_⟩
    rw [hl] at hi
    rw [hcell i (by omega), List.getElem_take]
  · injection hv with h1 h2 h3
    subst h1
    exact hn g off _ _ rfl (by omega)
theorem BytesIn.cons_shape {R : Option Nat} {w : World} {v : Value} {c : Int} {r : List Int} (h : BytesIn R w v (c :: r)) : ∃ gR off cap, v = .slice (some ⟨gR, off, none⟩) (r.length + 1) cap ∧ R = some gR ∧ r.length + 1 ≤ cap := by
  obtain ⟨⟨a, cap, rfl, hcap, _, hc⟩, hR⟩ := h
  obtain ⟨gR, off, rfl, _, _⟩ := hc (by simp)
  exact ⟨gR, off, cap, rfl, hR gR off _ _ rfl (by simp), hcap.1⟩
theorem BytesIn.head_cell {R : Option Nat} {w : World} {gR off n cap : Nat} {c : Int} {r : List Int} (h : BytesIn R w (.slice (some ⟨gR, off, none⟩) n cap) (c :: r)) : w.cell? ⟨gR, off, none⟩ = some (.int .u8 c) := by
  obtain ⟨⟨a, cap', hv, hcap, _, hc⟩, hR⟩ := h
  obtain ⟨g', off', rfl, _, hcell⟩ := hc (by simp)
  injection hv with h1 h2 h3
  injection h1 with h1
  injection h1 with h1 h4
  subst h1; subst h4
  exact hcell 0 (by simp)
set_option maxRecDepth 100000 in
set_option maxHeartbeats 2000000 in
theorem ref1_got (g : Nat) (R : Option Nat) (p : Pc) (v : Value) (c : Int) (r : List Int) (w : World) (h : RefC w g R 0 v (c :: r)) (hp : p.Ok w) (hd : p.d = 1) (hl : r.length + 1 ≤ 30000) :
    Calls Tryz.prog 29 #[.pointer (some ⟨g, 0, none⟩), .agg p.cells.toArray] w (RefsP w g R p.d (.got ⟨0, c, M.zero8, []⟩ r)) := by
  have hz := zero33
  have c00 := ((blk_alloc w 56 p.cells).alloc (.cells (blank 0).cells.toArray 56)).cell (cells0 p)
  have Q3 := Lib.hid (((blk_alloc w 56 p.cells).alloc (.cells (blank 0).cells.toArray 56)).alloc (.cells (blank 0).cells.toArray 56))
  have Q4 := Lib.hid ((blk2 w (.cells p.cells.toArray 56) 56 (blank 0).cells).alloc (.cells (blank 0).cells.toArray 56))
  have Q5 := Lib.hid (blk3 w (.cells p.cells.toArray 56) (.cells (blank 0).cells.toArray 56) 56 (blank 0).cells)
  have HO := Lib.hid ((((Only.refl w.heap.size w).alloc (.cells p.cells.toArray 56)).alloc (.cells (blank 0).cells.toArray 56)).alloc (.cells (blank 0).cells.toArray 56))
  have HF3 := Lib.hid (h.far (Nat.le_refl _))
  have HF4 := Lib.hid (h.far (Nat.le_add_right _ 1))
  have HF5 := Lib.hid (h.far (Nat.le_add_right _ 2))
  have HC := Lib.hid (((h.alloc (.cells p.cells.toArray 56)).alloc (.cells (blank 0).cells.toArray 56)).alloc (.cells (blank 0).cells.toArray 56))
  have HP := Lib.hid hp
  obtain ⟨gR, off, cap, rfl, rfl, hcap⟩ := h.2.1.cons_shape
  clear h hp
  have n35 : w.heap.size ≠ w.heap.size + 2 := by omega
  have n45 : w.heap.size + 1 ≠ w.heap.size + 2 := by omega
  have N35 := Lib.hid n35
  have N45 := Lib.hid n45
  clear n35 n45
  go_enter Tryz.func29, Tryz.ntmps29
  have k0 : ¬ ((r.length : Int) + 1) = 0 := by omega
  have k1 : (0 : Int) ≤ 1 := by omega
  have k2 : (1 : Int) ≤ (r.length : Int) + 1 := by omega
  have HL := Lib.hid hl
  clear hl
  go_wp2_with (first
    | refine wpList_blank rfl _ rfl 1 rfl ?_
    | (refine wpList_store_pc rfl _ _ rfl (w.heap.size + 2) (blank 0) (blank 1) rfl rfl Q5.out rfl rfl rfl ?_; intro w1 N1 O1; have C1 := Lib.hid (HC.out.only O1.out HF5.out.1 HF5.out.2); have K3 := Lib.hid (Q3.out.only O1.out N35.out); have K4 := Lib.hid (Q4.out.only O1.out N45.out); have c0 := K3.out.cell (cells0 p); have cB := C1.out.1.cell (i := 0) rfl; have cE := C1.out.1.cell (i := 1) rfl; have fB := C1.out.1.frozen 0; have fE := C1.out.1.frozen 1; have OO1 := Lib.hid (Only.new (Only.new (Only.refl g w) HO.out (Nat.le_refl _)) O1.out (Nat.le_add_right _ 2)); have cR := C1.out.2.1.head_cell; have D1 := Lib.hid (Only.set (w.heap.size + 1 + 1) 2 w1 (.int .u8 c)); have gB := N1.out.cell (cells2 _); have gF := N1.out.frozen 2; have CX := Lib.hid (C1.out.only D1.out HF5.out.1 HF5.out.2); have xB := CX.out.1.cell (i := 0) rfl; have xR := CX.out.2.1.head_cell))
  go_region_held3 (fun W => W.cell? ⟨g, 0, none⟩ = some (.slice (some ⟨gR, off, none⟩) (r.length + 1) cap) ∧ W.cell? ⟨gR, off, none⟩ = some (.int .u8 c)) (first | exact ⟨cB, cR⟩ | exact ⟨xB, xR⟩) (fail)
  have C2 := Lib.hid (show RefC (w1.setCell ⟨w.heap.size + 1 + 1, 2, none⟩ (.int .u8 c)).drew g (some gR) 0 _ (c :: r) from ⟨CX.out.1, CX.out.2.1, CX.out.2.2⟩)
  have M2 := Lib.hid (show Blk (w1.setCell ⟨w.heap.size + 1 + 1, 2, none⟩ (.int .u8 c)).drew (w.heap.size + 2) 56 (⟨1, 0, c, M.zero8, .slice none 0 0, 0, []⟩ : Pc).cells from N1.out.set 2 (.int .u8 c))
  have K42 := Lib.hid (show Blk (w1.setCell ⟨w.heap.size + 1 + 1, 2, none⟩ (.int .u8 c)).drew (w.heap.size + 1) 56 (blank 0).cells from K4.out.only D1.out.drew N45.out)
  have OO2 := Lib.hid (show Only g w (w1.setCell ⟨w.heap.size + 1 + 1, 2, none⟩ (.int .u8 c)).drew from (OO1.out.new D1.out (Nat.le_add_right _ 2)).drew)
  generalize (w1.setCell ⟨w.heap.size + 1 + 1, 2, none⟩ (.int .u8 c)).drew = w2 at C2 M2 K42 OO2 ⊢
  have hb := bytes_from (l := c :: r) C2.out.2.1 1 (by simp)
  simp only [sliced, List.length_cons, Option.map_some, Nat.mul_one, add_at, Nat.add_sub_cancel, List.drop_succ_cons, List.drop_zero] at hb
  clear gB gF xB xR cB cR cE fB fE c0 c00
  generalize (if cap = 1 then (some ⟨gR, off, none⟩ : Option Addr) else some ⟨gR, off + 1, none⟩) = aX at hb ⊢
  have HV2 := Lib.hid hb
  clear hb
  have cB2 := C2.out.1.cell (i := 0) rfl
  have fB2 := C2.out.1.frozen 0
  have C3 := Lib.hid (ref_set C2.out HV2.out)
  have O3 := Lib.hid (Only.set g 0 w2 (.slice aX r.length (cap - 1)))
  have M3 := Lib.hid (M2.out.only O3.out HF5.out.1.symm)
  have K43 := Lib.hid (K42.out.only O3.out HF4.out.1.symm)
  go_wp2_with (first
    | refine wpList_load_pc rfl _ rfl (w.heap.size + 2) 0 (⟨1, 0, c, M.zero8, .slice none 0 0, 0, []⟩ : Pc) rfl M3.out.range rfl ?_
    | (refine wpList_store_pc rfl _ _ rfl (w.heap.size + 1) (blank 0) (⟨1, 0, c, M.zero8, .slice none 0 0, 0, []⟩ : Pc) rfl rfl K43.out rfl rfl rfl ?_; intro w9 N9 O9))
  refine bodyPost_ret (results_pc rfl _ _ (w.heap.size + 1) _ rfl N9.out rfl) rfl ?_
  exact ⟨.slice none 0 0, (by rw [hd]; rfl), BytesIn.nil _ _, ⟨_, C3.out.only O9.out HF4.out.1 HF4.out.2, fun h => absurd rfl h, (Nat.le_trans (Nat.le_succ _) HL.out)⟩, (OO2.out.trans O3.out).new O9.out (Nat.le_add_right _ 1)⟩
set_option maxRecDepth 100000 in
set_option maxHeartbeats 2000000 in
theorem ref0_bad (g : Nat) (R : Option Nat) (p : Pc) (v : Value) (l : List Int) (e : Int) (w : World) (h : RefC w g R 0 v l) (hp : p.Ok w) (hd : p.d = 0) (hr : Hid (M.rNum p.x l = .bad e)) (he : e ≠ 0) :
    Calls Tryz.prog 29 #[.pointer (some ⟨g, 0, none⟩), .agg p.cells.toArray] w (RefsP w g R p.d (.bad e)) := by
  have hz := zero33
  have c00 := ((blk_alloc w 56 p.cells).alloc (.cells (blank 0).cells.toArray 56)).cell (cells0 p)
  have Q3 := Lib.hid (((blk_alloc w 56 p.cells).alloc (.cells (blank 0).cells.toArray 56)).alloc (.cells (blank 0).cells.toArray 56))
  have Q4 := Lib.hid ((blk2 w (.cells p.cells.toArray 56) 56 (blank 0).cells).alloc (.cells (blank 0).cells.toArray 56))
  have Q5 := Lib.hid (blk3 w (.cells p.cells.toArray 56) (.cells (blank 0).cells.toArray 56) 56 (blank 0).cells)
  have HO := Lib.hid ((((Only.refl w.heap.size w).alloc (.cells p.cells.toArray 56)).alloc (.cells (blank 0).cells.toArray 56)).alloc (.cells (blank 0).cells.toArray 56))
  have HF3 := Lib.hid (h.far (Nat.le_refl _))
  have HF4 := Lib.hid (h.far (Nat.le_add_right _ 1))
  have HF5 := Lib.hid (h.far (Nat.le_add_right _ 2))
  have HC := Lib.hid (((h.alloc (.cells p.cells.toArray 56)).alloc (.cells (blank 0).cells.toArray 56)).alloc (.cells (blank 0).cells.toArray 56))
  have HP := Lib.hid hp
  obtain ⟨a, cap, rfl⟩ := h.2.1.shape
  clear h hp
  have n35 : w.heap.size ≠ w.heap.size + 2 := by omega
  have n45 : w.heap.size + 1 ≠ w.heap.size + 2 := by omega
  have N35 := Lib.hid n35
  have N45 := Lib.hid n45
  clear n35 n45
  go_enter Tryz.func29, Tryz.ntmps29
  go_wp2_with (first
    | refine wpList_blank rfl _ rfl 0 rfl ?_
    | (refine wpList_store_pc rfl _ _ rfl (w.heap.size + 2) (blank 0) (blank 0) rfl rfl Q5.out rfl rfl rfl ?_; intro w1 N1 O1; have C1 := Lib.hid (HC.out.only O1.out HF5.out.1 HF5.out.2); have K3 := Lib.hid (Q3.out.only O1.out N35.out); have K4 := Lib.hid (Q4.out.only O1.out N45.out); have c0 := K3.out.cell (cells0 p); have cB := C1.out.1.cell (i := 0) rfl; have cE := C1.out.1.cell (i := 1) rfl; have fB := C1.out.1.frozen 0; have fE := C1.out.1.frozen 1; have OO1 := Lib.hid (Only.new (Only.new (Only.refl g w) HO.out (Nat.le_refl _)) O1.out (Nat.le_add_right _ 2)); have cX := K3.out.cell (cells1 p)))
  go_region_held3 (fun W => W.cell? ⟨g, 0, none⟩ = some (.slice a l.length cap) ∧ W.cell? ⟨w.heap.size, 1, none⟩ = some (.int .u64 p.x)) (first | exact ⟨cB, cX⟩ | exact ⟨s1, s2⟩ | exact ⟨x1, x2'⟩) (first
    | (go_at_call 55; refine (numR_bad R p.x e _ l _ C1.out.drew.2.1 hr).mono ?_; rintro r w2 ⟨xq, aq, nq, capq, rfl, hb0⟩; have C2 := Lib.hid (C1.out.below (undrew hb0)); have N2 := Lib.hid (N1.out.below (undrew hb0)); have K32 := Lib.hid (K3.out.below (undrew hb0)); have K42 := Lib.hid (K4.out.below (undrew hb0)); have OO2 := Lib.hid (OO1.out.trans (Only.of_below (undrew hb0))); have s1 := C2.out.1.cell (i := 0) rfl; have s2 := K32.out.cell (cells1 p); have gB := N2.out.cell (cells1 _); have gF := N2.out.frozen 1; have D2 := Lib.hid (Only.set (w.heap.size + 1 + 1) 1 w2 (.int .u64 xq)); have CX := Lib.hid (C2.out.only D2.out HF5.out.1 HF5.out.2); have K3X := Lib.hid (K32.out.only D2.out N35.out); have K4X := Lib.hid (K42.out.only D2.out N45.out); have x1 := CX.out.1.cell (i := 0) rfl; have x2' := K3X.out.cell (cells1 p); clear hb0))
  have OO3 := Lib.hid (OO2.out.new D2.out (Nat.le_add_right _ 2))
  have NX := Lib.hid (N2.out.set 1 (.int .u64 xq))
  generalize w2.setCell ⟨w.heap.size + 1 + 1, 1, none⟩ (.int .u64 xq) = w3 at CX K3X K4X OO3 NX ⊢
  clear gB gF x1 x2' s1 s2 cB cX cE fB fE c0 c00
  have cBz := CX.out.1.cell (i := 0) rfl
  have fBz := CX.out.1.frozen 0
  have eB := (CX.out.1.set 0 (.slice none 0 0)).cell (i := 1) rfl
  have fB2 := (CX.out.1.set 0 (.slice none 0 0)).frozen 1
  have CZ := Lib.hid (ref_drop CX.out e)
  have OZ := Lib.hid ((Only.set g 0 w3 (.slice none 0 0)).trans (Only.set g 1 _ (.int .i64 e)))
  have K3Z := Lib.hid (K3X.out.only OZ.out HF3.out.1.symm)
  have K4Z := Lib.hid (K4X.out.only OZ.out HF4.out.1.symm)
  have z0 := K3Z.out.cell (cells0 p)
  go_wp2_with (first
    | refine wpList_blank rfl _ rfl 0 rfl ?_
    | (refine wpList_store_pc rfl _ _ rfl (w.heap.size + 1) (blank 0) (blank 0) rfl rfl K4Z.out rfl rfl rfl ?_; intro w9 N9 O9))
  refine bodyPost_ret (results_pc rfl _ _ (w.heap.size + 1) _ rfl N9.out rfl) rfl ?_
  exact refs_bad (by first | rfl | rw [hd]) (CZ.out.only O9.out HF4.out.1 HF4.out.2) ((OO3.out.trans OZ.out).new O9.out (Nat.le_add_right _ 1))
set_option maxRecDepth 100000 in
set_option maxHeartbeats 2000000 in
theorem ref0_got (g : Nat) (R : Option Nat) (p : Pc) (v : Value) (l : List Int) (x : Int) (rest : List Int) (w : World) (h : RefC w g R 0 v l) (hp : p.Ok w) (hd : p.d = 0) (hr : Hid (M.rNum p.x l = .got x rest)) (hl : l.length ≤ 30000) :
    Calls Tryz.prog 29 #[.pointer (some ⟨g, 0, none⟩), .agg p.cells.toArray] w (RefsP w g R p.d (.got ⟨x, 0, M.zero8, []⟩ rest)) := by
  have hz := zero33
  have c00 := ((blk_alloc w 56 p.cells).alloc (.cells (blank 0).cells.toArray 56)).cell (cells0 p)
  have Q3 := Lib.hid (((blk_alloc w 56 p.cells).alloc (.cells (blank 0).cells.toArray 56)).alloc (.cells (blank 0).cells.toArray 56))
  have Q4 := Lib.hid ((blk2 w (.cells p.cells.toArray 56) 56 (blank 0).cells).alloc (.cells (blank 0).cells.toArray 56))
  have Q5 := Lib.hid (blk3 w (.cells p.cells.toArray 56) (.cells (blank 0).cells.toArray 56) 56 (blank 0).cells)
  have HO := Lib.hid ((((Only.refl w.heap.size w).alloc (.cells p.cells.toArray 56)).alloc (.cells (blank 0).cells.toArray 56)).alloc (.cells (blank 0).cells.toArray 56))
  have HF3 := Lib.hid (h.far (Nat.le_refl _))
  have HF4 := Lib.hid (h.far (Nat.le_add_right _ 1))
  have HF5 := Lib.hid (h.far (Nat.le_add_right _ 2))
  have HC := Lib.hid (((h.alloc (.cells p.cells.toArray 56)).alloc (.cells (blank 0).cells.toArray 56)).alloc (.cells (blank 0).cells.toArray 56))
  have HP := Lib.hid hp
  obtain ⟨a, cap, rfl⟩ := h.2.1.shape
  clear h hp
  have n35 : w.heap.size ≠ w.heap.size + 2 := by omega
  have n45 : w.heap.size + 1 ≠ w.heap.size + 2 := by omega
  have N35 := Lib.hid n35
  have N45 := Lib.hid n45
  clear n35 n45
  go_enter Tryz.func29, Tryz.ntmps29
  have HL := Lib.hid (Nat.le_trans (rNum_len hr.out) hl)
  clear hl
  go_wp2_with (first
    | refine wpList_blank rfl _ rfl 0 rfl ?_
    | (refine wpList_store_pc rfl _ _ rfl (w.heap.size + 2) (blank 0) (blank 0) rfl rfl Q5.out rfl rfl rfl ?_; intro w1 N1 O1; have C1 := Lib.hid (HC.out.only O1.out HF5.out.1 HF5.out.2); have K3 := Lib.hid (Q3.out.only O1.out N35.out); have K4 := Lib.hid (Q4.out.only O1.out N45.out); have c0 := K3.out.cell (cells0 p); have cB := C1.out.1.cell (i := 0) rfl; have cE := C1.out.1.cell (i := 1) rfl; have fB := C1.out.1.frozen 0; have fE := C1.out.1.frozen 1; have OO1 := Lib.hid (Only.new (Only.new (Only.refl g w) HO.out (Nat.le_refl _)) O1.out (Nat.le_add_right _ 2)); have cX := K3.out.cell (cells1 p)))
  go_region_held3 (fun W => W.cell? ⟨g, 0, none⟩ = some (.slice a l.length cap) ∧ W.cell? ⟨w.heap.size, 1, none⟩ = some (.int .u64 p.x)) (first | exact ⟨cB, cX⟩ | exact ⟨s1, s2⟩ | exact ⟨x1, x2'⟩) (first
    | (go_at_call 55; refine (numR_got R p.x x _ l rest _ C1.out.drew.2.1 hr).mono ?_; rintro r w2 ⟨aq, capq, rfl, hvq, hb0⟩; have VQ := Lib.hid hvq; clear hvq; have C2 := Lib.hid (C1.out.below (undrew hb0)); have N2 := Lib.hid (N1.out.below (undrew hb0)); have K32 := Lib.hid (K3.out.below (undrew hb0)); have K42 := Lib.hid (K4.out.below (undrew hb0)); have OO2 := Lib.hid (OO1.out.trans (Only.of_below (undrew hb0))); have s1 := C2.out.1.cell (i := 0) rfl; have s2 := K32.out.cell (cells1 p); have gB := N2.out.cell (cells1 _); have gF := N2.out.frozen 1; have D2 := Lib.hid (Only.set (w.heap.size + 1 + 1) 1 w2 (.int .u64 x)); have CX := Lib.hid (C2.out.only D2.out HF5.out.1 HF5.out.2); have K3X := Lib.hid (K32.out.only D2.out N35.out); have K4X := Lib.hid (K42.out.only D2.out N45.out); have x1 := CX.out.1.cell (i := 0) rfl; have x2' := K3X.out.cell (cells1 p); clear hb0))
  have OO3 := Lib.hid (OO2.out.new D2.out (Nat.le_add_right _ 2))
  have NX := Lib.hid (show Blk (w2.setCell ⟨w.heap.size + 1 + 1, 1, none⟩ (.int .u64 x)) (w.heap.size + 2) 56 (⟨0, x, 0, M.zero8, .slice none 0 0, 0, []⟩ : Pc).cells from N2.out.set 1 (.int .u64 x))
  have HV2 := Lib.hid (VQ.out.only D2.out HF5.out.2)
  generalize w2.setCell ⟨w.heap.size + 1 + 1, 1, none⟩ (.int .u64 x) = w2x at CX HV2 K3X K4X OO3 NX ⊢
  clear gB gF x1 x2' s1 s2 cB cX cE fB fE c0 c00
  have cB2 := CX.out.1.cell (i := 0) rfl
  have fB2 := CX.out.1.frozen 0
  have C3 := Lib.hid (ref_set CX.out HV2.out)
  have O3 := Lib.hid (Only.set g 0 w2x (.slice aq rest.length capq))
  have M3 := Lib.hid (NX.out.only O3.out HF5.out.1.symm)
  have K43 := Lib.hid (K4X.out.only O3.out HF4.out.1.symm)
  go_wp2_with (first
    | refine wpList_load_pc rfl _ rfl (w.heap.size + 2) 0 (⟨0, x, 0, M.zero8, .slice none 0 0, 0, []⟩ : Pc) rfl M3.out.range rfl ?_
    | (refine wpList_store_pc rfl _ _ rfl (w.heap.size + 1) (blank 0) (⟨0, x, 0, M.zero8, .slice none 0 0, 0, []⟩ : Pc) rfl rfl K43.out rfl rfl rfl ?_; intro w9 N9 O9))
  refine bodyPost_ret (results_pc rfl _ _ (w.heap.size + 1) _ rfl N9.out rfl) rfl ?_
  exact ⟨.slice none 0 0, (by rw [hd]; rfl), BytesIn.nil _ _, ⟨_, C3.out.only O9.out HF4.out.1 HF4.out.2, fun h => absurd rfl h, HL.out⟩, (OO3.out.trans O3.out).new O9.out (Nat.le_add_right _ 1)⟩
end Go.Proofs.YteggjihhjdeieaaGreat
