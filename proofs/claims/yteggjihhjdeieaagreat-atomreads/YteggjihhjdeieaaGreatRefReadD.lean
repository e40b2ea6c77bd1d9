/- Read of the reference's cursor, at a name: where it does not fail. -/
import Derived.Test.YteggjihhjdeieaaGreatRefReadB
namespace Go.Proofs.YteggjihhjdeieaaGreat
open Go.RowKit
/-- The run of a name's store into a piece. -/
theorem store_name {w : World} {g : Nat} {q : Pc} (hb : Blk w g 56 q.cells) (m : List Int) (hm : m.length = 8) (hq : q.m.length = 8) :
    ∃ w', (storeCells ⟨g, 3, none⟩ (nm m).toList).run Tryz.prog w = .ok () w' ∧ Blk w' g 56 ({ q with m := m } : Pc).cells ∧ Only g w w' := by
  have ht := hb.there 3 8 (by rw [cells_len hq]; omega)
  have hr := run_storeCells_cells (P := Tryz.prog) g 3 (nm m).toList 0 w (fun j hj => by
    have hj8 : j < 8 := by simpa [nm, hm] using hj
    simpa using (ht j hj8).1) (fun j hj => by
    have hj8 : j < 8 := by simpa [nm, hm] using hj
    simpa using (ht j hj8).2) (fun v hv => (Array.all_eq_true_iff_forall_mem.1 (nm_one m)) v (by simpa using hv))
  have hB := Blk.setCells (m.map (Value.int .u8)) 3 w q.cells hb
  rw [setL_name hq m hm] at hB
  refine ⟨_, hr, ?_, ?_⟩
  · simpa [nm] using hB
  · simpa [nm] using Only.setCells (m.map (Value.int .u8)) 3 w
set_option maxRecDepth 100000 in
set_option maxHeartbeats 2000000 in
theorem ref2_word (g : Nat) (R : Option Nat) (p : Pc) (v : Value) (k : Nat) (r : List Int) (w : World) (h : RefC w g R 0 v (((k : Nat) : Int) :: r)) (hp : p.Ok w) (hd : p.d = 2) (hk0 : 0 < k) (hk8 : k ≤ 8) (hk : k ≤ r.length) (hl : r.length + 1 ≤ 30000) (hb : Hid (M.isN (r.take k) = true)) :
    Calls Tryz.prog 29 #[.pointer (some ⟨g, 0, none⟩), .agg p.cells.toArray] w (RefsP w g R p.d (.got ⟨0, 0, M.pad (r.take k), []⟩ (r.drop k))) := by
  have hz := zero33
  have c00 := ((blk_alloc w 56 p.cells).alloc (.cells (blank 0).cells.toArray 56)).cell (cells0 p)
  have Q3 := Lib.hid (((blk_alloc w 56 p.cells).alloc (.cells (blank 0).cells.toArray 56)).alloc (.cells (blank 0).cells.toArray 56))
  have Q4 := Lib.hid ((blk2 w (.cells p.cells.toArray 56) 56 (blank 0).cells).alloc (.cells (blank 0).cells.toArray 56))
  have Q5 := Lib.hid (blk3 w (.cells p.cells.toArray 56) (.cells (blank 0).cells.toArray 56) 56 (blank 0).cells)
  have HO := Lib.hid ((((Only.refl w.heap.size w).alloc (.cells p.cells.toArray 56)).alloc (.cells (blank 0).cells.toArray 56)).alloc (.cells (blank 0).cells.toArray 56))
  have HF3 := Lib.hid (h.far (Nat.le_refl _))
  have HF4 := Lib.hid (h.far (Nat.le_add_right _ 1))
  have HF5 := Lib.hid (h.far (Nat.le_add_right _ 2))
  have HC := Lib.hid (((h.alloc (.cells p.cells.toArray 56)).alloc (.cells (blank 0).cells.toArray 56)).alloc (.cells (blank 0).cells.toArray 56))
  have HP := Lib.hid hp
  obtain ⟨gR, off, cap, rfl, rfl, hcap⟩ := h.2.1.cons_shape
  clear h hp
  have n35 : w.heap.size ≠ w.heap.size + 2 := by omega
  have n45 : w.heap.size + 1 ≠ w.heap.size + 2 := by omega
  have N35 := Lib.hid n35
  have N45 := Lib.hid n45
  clear n35 n45
  go_enter Tryz.func29, Tryz.ntmps29
  have k0 : ¬ ((r.length : Int) + 1) = 0 := by omega
  have k1 : (0 : Int) ≤ 0 := by omega
  have k2 : (0 : Int) < (r.length : Int) + 1 := by omega
  have k3 : ¬ (r.length : Int) + 1 < 1 + (k : Int) := by omega
  have k4 : IntKind.i64.wrap (1 + (k : Int)) = 1 + (k : Int) := by rw [IntKind.wrap_i64]; omega
  have k5 : ¬ (8 : Int) < (k : Int) := by omega
  obtain ⟨s, hs⟩ : ∃ s, s = strOfNums (r.take k) := ⟨_, rfl⟩
  have HS := Lib.hid hs
  clear hs
  have k6 : (0 : Int) < (k : Int) := by omega
  have k7 : (0 : Int) ≤ 1 + (k : Int) := by omega
  have k8 : 1 + (k : Int) ≤ (r.length : Int) + 1 := by omega
  have k9 : (nm (M.pad (r.take k))).size = 8 := by rw [nm_size, M.pad_len]
  have k10 : (1 + (k : Int)).toNat = 1 + k := by omega
  have HL := Lib.hid hl
  clear hl
  by_cases hc1 : cap = 1 + k
  · obtain rfl := hc1
    go_wp2_with (first
      | refine wpList_blank rfl _ rfl 2 rfl ?_
      | (refine wpList_store_pc rfl _ _ rfl (w.heap.size + 2) (blank 0) (blank 2) rfl rfl Q5.out rfl rfl rfl ?_; intro w1 N1 O1; have C1 := Lib.hid (HC.out.only O1.out HF5.out.1 HF5.out.2); have K3 := Lib.hid (Q3.out.only O1.out N35.out); have K4 := Lib.hid (Q4.out.only O1.out N45.out); have c0 := K3.out.cell (cells0 p); have cB := C1.out.1.cell (i := 0) rfl; have cE := C1.out.1.cell (i := 1) rfl; have fB := C1.out.1.frozen 0; have fE := C1.out.1.frozen 1; have OO1 := Lib.hid (Only.new (Only.new (Only.refl g w) HO.out (Nat.le_refl _)) O1.out (Nat.le_add_right _ 2)); have cR := C1.out.2.1.head_cell)
      | (refine wpList_mid (some gR) rfl _ _ _ rfl gR off (1 + k) k _ r rfl rfl rfl C1.out.2.1 hk hcap ?_; intro a2 cap2 HB2)
      | refine wpList_str rfl _ rfl a2 k cap2 (r.take k) s rfl HB2.out.1 HS.out ?_)
    refine (isN_is s (r.take k) true _ (by rw [List.length_take]; omega) HS (Lib.hid HB2.out.1.bytes) hb).mono ?_
    rintro e w2 ⟨rfl, rfl⟩
    go_wp2_with fail
    go_region_held3 (fun W => W.cell? ⟨g, 0, none⟩ = some (.slice (some ⟨gR, off, none⟩) (r.length + 1) (1 + k))) (first | exact cB | exact s1 | exact s3) (first
      | (go_at_call 57; refine (refPad_is s (r.take k) _ HS (Lib.hid HB2.out.1.bytes)).mono ?_; rintro e w2 ⟨rfl, hb0⟩; have C2 := Lib.hid (C1.out.below (undrew hb0)); have N2 := Lib.hid (N1.out.below (undrew hb0)); have K42 := Lib.hid (K4.out.below (undrew hb0)); have OO2 := Lib.hid (OO1.out.trans (Only.of_below (undrew hb0))); have s1 := C2.out.1.cell (i := 0) rfl; obtain ⟨w3, hst, N3, O3⟩ := store_name (g := w.heap.size + 1 + 1) (q := blank 2) N2.out (M.pad (r.take k)) (M.pad_len _) rfl; have NX := Lib.hid N3; have D2 := Lib.hid O3; have C3 := Lib.hid (C2.out.only O3 HF5.out.1 HF5.out.2); have s3 := C3.out.1.cell (i := 0) rfl; clear hb0 N3 O3))
    have K4X := Lib.hid (K42.out.only D2.out N45.out)
    have OO3 := Lib.hid (OO2.out.new D2.out (Nat.le_add_right _ 2))
    have hbf := bytes_from (l := (k : Int) :: r) C3.out.2.1 (1 + k) (by rw [List.length_cons]; omega)
    unfold sliced at hbf
    rw [if_pos rfl] at hbf
    simp only [List.length_cons, Nat.add_comm 1 k, List.drop_succ_cons] at hbf
    have HV2 := Lib.hid hbf
    clear hbf
    rw [Nat.add_comm 1 k] at *
    clear s1 s3 cB cR cE fB fE c0 c00 hst
    have hn0 : r.length + 1 - (k + 1) = 0 := by omega
    rw [hn0, Nat.sub_self] at HV2
    have cB2 := C3.out.1.cell (i := 0) rfl
    have fB2 := C3.out.1.frozen 0
    have C4 := Lib.hid (ref_set C3.out HV2.out)
    have O4 := Lib.hid (Only.set g 0 w3 (.slice (some ⟨gR, off, none⟩) 0 0))
    have M3 := Lib.hid (NX.out.only O4.out HF5.out.1.symm)
    have K43 := Lib.hid (K4X.out.only O4.out HF4.out.1.symm)
    go_wp2_with (first
      | refine wpList_load_pc rfl _ rfl (w.heap.size + 2) 0 (⟨2, 0, 0, M.pad (r.take k), .slice none 0 0, 0, []⟩ : Pc) rfl M3.out.range (M.pad_len _) ?_
      | (refine wpList_store_pc rfl _ _ rfl (w.heap.size + 1) (blank 0) (⟨2, 0, 0, M.pad (r.take k), .slice none 0 0, 0, []⟩ : Pc) rfl rfl K43.out rfl (M.pad_len _) rfl ?_; intro w9 N9 O9))
    refine bodyPost_ret (results_pc rfl _ _ (w.heap.size + 1) _ rfl N9.out (M.pad_len _)) rfl ?_
    exact ⟨.slice none 0 0, (by rw [hd]; rfl), BytesIn.nil _ _, ⟨_, C4.out.only O9.out HF4.out.1 HF4.out.2, fun h => absurd rfl h, (show (r.drop k).length ≤ 30000 by rw [List.length_drop]; have := HL.out; omega)⟩, (OO3.out.trans O4.out).new O9.out (Nat.le_add_right _ 1)⟩
  · have hc2 : ¬ cap = k + 1 := by omega
    go_wp2_with (first
      | refine wpList_blank rfl _ rfl 2 rfl ?_
      | (refine wpList_store_pc rfl _ _ rfl (w.heap.size + 2) (blank 0) (blank 2) rfl rfl Q5.out rfl rfl rfl ?_; intro w1 N1 O1; have C1 := Lib.hid (HC.out.only O1.out HF5.out.1 HF5.out.2); have K3 := Lib.hid (Q3.out.only O1.out N35.out); have K4 := Lib.hid (Q4.out.only O1.out N45.out); have c0 := K3.out.cell (cells0 p); have cB := C1.out.1.cell (i := 0) rfl; have cE := C1.out.1.cell (i := 1) rfl; have fB := C1.out.1.frozen 0; have fE := C1.out.1.frozen 1; have OO1 := Lib.hid (Only.new (Only.new (Only.refl g w) HO.out (Nat.le_refl _)) O1.out (Nat.le_add_right _ 2)); have cR := C1.out.2.1.head_cell)
      | (refine wpList_mid (some gR) rfl _ _ _ rfl gR off cap k _ r rfl rfl rfl C1.out.2.1 hk hcap ?_; intro a2 cap2 HB2)
      | refine wpList_str rfl _ rfl a2 k cap2 (r.take k) s rfl HB2.out.1 HS.out ?_)
    refine (isN_is s (r.take k) true _ (by rw [List.length_take]; omega) HS (Lib.hid HB2.out.1.bytes) hb).mono ?_
    rintro e w2 ⟨rfl, rfl⟩
    go_wp2_with fail
    go_region_held3 (fun W => W.cell? ⟨g, 0, none⟩ = some (.slice (some ⟨gR, off, none⟩) (r.length + 1) cap)) (first | exact cB | exact s1 | exact s3) (first
      | (go_at_call 57; refine (refPad_is s (r.take k) _ HS (Lib.hid HB2.out.1.bytes)).mono ?_; rintro e w2 ⟨rfl, hb0⟩; have C2 := Lib.hid (C1.out.below (undrew hb0)); have N2 := Lib.hid (N1.out.below (undrew hb0)); have K42 := Lib.hid (K4.out.below (undrew hb0)); have OO2 := Lib.hid (OO1.out.trans (Only.of_below (undrew hb0))); have s1 := C2.out.1.cell (i := 0) rfl; obtain ⟨w3, hst, N3, O3⟩ := store_name (g := w.heap.size + 1 + 1) (q := blank 2) N2.out (M.pad (r.take k)) (M.pad_len _) rfl; have NX := Lib.hid N3; have D2 := Lib.hid O3; have C3 := Lib.hid (C2.out.only O3 HF5.out.1 HF5.out.2); have s3 := C3.out.1.cell (i := 0) rfl; clear hb0 N3 O3))
    have K4X := Lib.hid (K42.out.only D2.out N45.out)
    have OO3 := Lib.hid (OO2.out.new D2.out (Nat.le_add_right _ 2))
    have hbf := bytes_from (l := (k : Int) :: r) C3.out.2.1 (1 + k) (by rw [List.length_cons]; omega)
    simp only [sliced, List.length_cons, if_neg hc2, Option.map_some, Nat.mul_one, add_at, Nat.add_comm 1 k, List.drop_succ_cons] at hbf
    have HV2 := Lib.hid hbf
    clear hbf
    rw [Nat.add_comm 1 k] at *
    clear s1 s3 cB cR cE fB fE c0 c00 hst
    generalize r.length + 1 - (k + 1) = nX at HV2 ⊢
    generalize cap - (k + 1) = cX at HV2 ⊢
    have cB2 := C3.out.1.cell (i := 0) rfl
    have fB2 := C3.out.1.frozen 0
    have C4 := Lib.hid (ref_set C3.out HV2.out)
    have O4 := Lib.hid (Only.set g 0 w3 (.slice (some ⟨gR, off + (k + 1), none⟩) nX cX))
    have M3 := Lib.hid (NX.out.only O4.out HF5.out.1.symm)
    have K43 := Lib.hid (K4X.out.only O4.out HF4.out.1.symm)
    go_wp2_with (first
      | refine wpList_load_pc rfl _ rfl (w.heap.size + 2) 0 (⟨2, 0, 0, M.pad (r.take k), .slice none 0 0, 0, []⟩ : Pc) rfl M3.out.range (M.pad_len _) ?_
      | (refine wpList_store_pc rfl _ _ rfl (w.heap.size + 1) (blank 0) (⟨2, 0, 0, M.pad (r.take k), .slice none 0 0, 0, []⟩ : Pc) rfl rfl K43.out rfl (M.pad_len _) rfl ?_; intro w9 N9 O9))
    refine bodyPost_ret (results_pc rfl _ _ (w.heap.size + 1) _ rfl N9.out (M.pad_len _)) rfl ?_
    exact ⟨.slice none 0 0, (by rw [hd]; rfl), BytesIn.nil _ _, ⟨_, C4.out.only O9.out HF4.out.1 HF4.out.2, fun h => absurd rfl h, (show (r.drop k).length ≤ 30000 by rw [List.length_drop]; have := HL.out; omega)⟩, (OO3.out.trans O4.out).new O9.out (Nat.le_add_right _ 1)⟩
set_option maxRecDepth 100000 in
set_option maxHeartbeats 2000000 in
theorem ref2_none (g : Nat) (R : Option Nat) (p : Pc) (v : Value) (k : Nat) (r : List Int) (w : World) (h : RefC w g R 0 v (((k : Nat) : Int) :: r)) (hp : p.Ok w) (hd : p.d = 2) (hk0 : k = 0) (hk8 : k ≤ 8) (hk : k ≤ r.length) (hl : r.length + 1 ≤ 30000) :
    Calls Tryz.prog 29 #[.pointer (some ⟨g, 0, none⟩), .agg p.cells.toArray] w (RefsP w g R p.d (.got ⟨0, 0, M.pad (r.take k), []⟩ (r.drop k))) := by
  have hz := zero33
  have c00 := ((blk_alloc w 56 p.cells).alloc (.cells (blank 0).cells.toArray 56)).cell (cells0 p)
  have Q3 := Lib.hid (((blk_alloc w 56 p.cells).alloc (.cells (blank 0).cells.toArray 56)).alloc (.cells (blank 0).cells.toArray 56))
  have Q4 := Lib.hid ((blk2 w (.cells p.cells.toArray 56) 56 (blank 0).cells).alloc (.cells (blank 0).cells.toArray 56))
  have Q5 := Lib.hid (blk3 w (.cells p.cells.toArray 56) (.cells (blank 0).cells.toArray 56) 56 (blank 0).cells)
  have HO := Lib.hid ((((Only.refl w.heap.size w).alloc (.cells p.cells.toArray 56)).alloc (.cells (blank 0).cells.toArray 56)).alloc (.cells (blank 0).cells.toArray 56))
  have HF3 := Lib.hid (h.far (Nat.le_refl _))
  have HF4 := Lib.hid (h.far (Nat.le_add_right _ 1))
  have HF5 := Lib.hid (h.far (Nat.le_add_right _ 2))
  have HC := Lib.hid (((h.alloc (.cells p.cells.toArray 56)).alloc (.cells (blank 0).cells.toArray 56)).alloc (.cells (blank 0).cells.toArray 56))
  have HP := Lib.hid hp
  obtain ⟨gR, off, cap, rfl, rfl, hcap⟩ := h.2.1.cons_shape
  clear h hp
  have n35 : w.heap.size ≠ w.heap.size + 2 := by omega
  have n45 : w.heap.size + 1 ≠ w.heap.size + 2 := by omega
  have N35 := Lib.hid n35
  have N45 := Lib.hid n45
  clear n35 n45
  go_enter Tryz.func29, Tryz.ntmps29
  have k0 : ¬ ((r.length : Int) + 1) = 0 := by omega
  have k1 : (0 : Int) ≤ 0 := by omega
  have k2 : (0 : Int) < (r.length : Int) + 1 := by omega
  have k3 : ¬ (r.length : Int) + 1 < 1 + (k : Int) := by omega
  have k4 : IntKind.i64.wrap (1 + (k : Int)) = 1 + (k : Int) := by rw [IntKind.wrap_i64]; omega
  have k5 : ¬ (8 : Int) < (k : Int) := by omega
  obtain ⟨s, hs⟩ : ∃ s, s = strOfNums (r.take k) := ⟨_, rfl⟩
  have HS := Lib.hid hs
  clear hs
  have k6 : ¬ (0 : Int) < (k : Int) := by omega
  have hkz := Lib.hid hk0
  clear hk0
  have k7 : (0 : Int) ≤ 1 + (k : Int) := by omega
  have k8 : 1 + (k : Int) ≤ (r.length : Int) + 1 := by omega
  have k9 : (nm (M.pad (r.take k))).size = 8 := by rw [nm_size, M.pad_len]
  have k10 : (1 + (k : Int)).toNat = 1 + k := by omega
  have HL := Lib.hid hl
  clear hl
  by_cases hc1 : cap = 1 + k
  · obtain rfl := hc1
    go_wp2_with (first
      | refine wpList_blank rfl _ rfl 2 rfl ?_
      | (refine wpList_store_pc rfl _ _ rfl (w.heap.size + 2) (blank 0) (blank 2) rfl rfl Q5.out rfl rfl rfl ?_; intro w1 N1 O1; have C1 := Lib.hid (HC.out.only O1.out HF5.out.1 HF5.out.2); have K3 := Lib.hid (Q3.out.only O1.out N35.out); have K4 := Lib.hid (Q4.out.only O1.out N45.out); have c0 := K3.out.cell (cells0 p); have cB := C1.out.1.cell (i := 0) rfl; have cE := C1.out.1.cell (i := 1) rfl; have fB := C1.out.1.frozen 0; have fE := C1.out.1.frozen 1; have OO1 := Lib.hid (Only.new (Only.new (Only.refl g w) HO.out (Nat.le_refl _)) O1.out (Nat.le_add_right _ 2)); have cR := C1.out.2.1.head_cell)
      | (refine wpList_mid (some gR) rfl _ _ _ rfl gR off (1 + k) k _ r rfl rfl rfl C1.out.2.1 hk hcap ?_; intro a2 cap2 HB2)
      | refine wpList_str rfl _ rfl a2 k cap2 (r.take k) s rfl HB2.out.1 HS.out ?_)
    go_region_held3 (fun W => W.cell? ⟨g, 0, none⟩ = some (.slice (some ⟨gR, off, none⟩) (r.length + 1) (1 + k))) (first | exact cB | exact s1 | exact s3) (first
      | (go_at_call 57; refine (refPad_is s (r.take k) _ HS (Lib.hid HB2.out.1.bytes)).mono ?_; rintro e w2 ⟨rfl, hb0⟩; have C2 := Lib.hid (C1.out.below (undrew hb0)); have N2 := Lib.hid (N1.out.below (undrew hb0)); have K42 := Lib.hid (K4.out.below (undrew hb0)); have OO2 := Lib.hid (OO1.out.trans (Only.of_below (undrew hb0))); have s1 := C2.out.1.cell (i := 0) rfl; obtain ⟨w3, hst, N3, O3⟩ := store_name (g := w.heap.size + 1 + 1) (q := blank 2) N2.out (M.pad (r.take k)) (M.pad_len _) rfl; have NX := Lib.hid N3; have D2 := Lib.hid O3; have C3 := Lib.hid (C2.out.only O3 HF5.out.1 HF5.out.2); have s3 := C3.out.1.cell (i := 0) rfl; clear hb0 N3 O3))
    have K4X := Lib.hid (K42.out.only D2.out N45.out)
    have OO3 := Lib.hid (OO2.out.new D2.out (Nat.le_add_right _ 2))
    have hbf := bytes_from (l := (k : Int) :: r) C3.out.2.1 (1 + k) (by rw [List.length_cons]; omega)
    unfold sliced at hbf
    rw [if_pos rfl] at hbf
    simp only [List.length_cons, Nat.add_comm 1 k, List.drop_succ_cons] at hbf
    have HV2 := Lib.hid hbf
    clear hbf
    rw [Nat.add_comm 1 k] at *
    clear s1 s3 cB cR cE fB fE c0 c00 hst
    have hn0 : r.length + 1 - (k + 1) = 0 := by omega
    rw [hn0, Nat.sub_self] at HV2
    have cB2 := C3.out.1.cell (i := 0) rfl
    have fB2 := C3.out.1.frozen 0
    have C4 := Lib.hid (ref_set C3.out HV2.out)
    have O4 := Lib.hid (Only.set g 0 w3 (.slice (some ⟨gR, off, none⟩) 0 0))
    have M3 := Lib.hid (NX.out.only O4.out HF5.out.1.symm)
    have K43 := Lib.hid (K4X.out.only O4.out HF4.out.1.symm)
    go_wp2_with (first
      | refine wpList_load_pc rfl _ rfl (w.heap.size + 2) 0 (⟨2, 0, 0, M.pad (r.take k), .slice none 0 0, 0, []⟩ : Pc) rfl M3.out.range (M.pad_len _) ?_
      | (refine wpList_store_pc rfl _ _ rfl (w.heap.size + 1) (blank 0) (⟨2, 0, 0, M.pad (r.take k), .slice none 0 0, 0, []⟩ : Pc) rfl rfl K43.out rfl (M.pad_len _) rfl ?_; intro w9 N9 O9))
    refine bodyPost_ret (results_pc rfl _ _ (w.heap.size + 1) _ rfl N9.out (M.pad_len _)) rfl ?_
    exact ⟨.slice none 0 0, (by rw [hd]; rfl), BytesIn.nil _ _, ⟨_, C4.out.only O9.out HF4.out.1 HF4.out.2, fun h => absurd rfl h, (show (r.drop k).length ≤ 30000 by rw [List.length_drop]; have := HL.out; omega)⟩, (OO3.out.trans O4.out).new O9.out (Nat.le_add_right _ 1)⟩
  · have hc2 : ¬ cap = k + 1 := by omega
    go_wp2_with (first
      | refine wpList_blank rfl _ rfl 2 rfl ?_
      | (refine wpList_store_pc rfl _ _ rfl (w.heap.size + 2) (blank 0) (blank 2) rfl rfl Q5.out rfl rfl rfl ?_; intro w1 N1 O1; have C1 := Lib.hid (HC.out.only O1.out HF5.out.1 HF5.out.2); have K3 := Lib.hid (Q3.out.only O1.out N35.out); have K4 := Lib.hid (Q4.out.only O1.out N45.out); have c0 := K3.out.cell (cells0 p); have cB := C1.out.1.cell (i := 0) rfl; have cE := C1.out.1.cell (i := 1) rfl; have fB := C1.out.1.frozen 0; have fE := C1.out.1.frozen 1; have OO1 := Lib.hid (Only.new (Only.new (Only.refl g w) HO.out (Nat.le_refl _)) O1.out (Nat.le_add_right _ 2)); have cR := C1.out.2.1.head_cell)
      | (refine wpList_mid (some gR) rfl _ _ _ rfl gR off cap k _ r rfl rfl rfl C1.out.2.1 hk hcap ?_; intro a2 cap2 HB2)
      | refine wpList_str rfl _ rfl a2 k cap2 (r.take k) s rfl HB2.out.1 HS.out ?_)
    go_region_held3 (fun W => W.cell? ⟨g, 0, none⟩ = some (.slice (some ⟨gR, off, none⟩) (r.length + 1) cap)) (first | exact cB | exact s1 | exact s3) (first
      | (go_at_call 57; refine (refPad_is s (r.take k) _ HS (Lib.hid HB2.out.1.bytes)).mono ?_; rintro e w2 ⟨rfl, hb0⟩; have C2 := Lib.hid (C1.out.below (undrew hb0)); have N2 := Lib.hid (N1.out.below (undrew hb0)); have K42 := Lib.hid (K4.out.below (undrew hb0)); have OO2 := Lib.hid (OO1.out.trans (Only.of_below (undrew hb0))); have s1 := C2.out.1.cell (i := 0) rfl; obtain ⟨w3, hst, N3, O3⟩ := store_name (g := w.heap.size + 1 + 1) (q := blank 2) N2.out (M.pad (r.take k)) (M.pad_len _) rfl; have NX := Lib.hid N3; have D2 := Lib.hid O3; have C3 := Lib.hid (C2.out.only O3 HF5.out.1 HF5.out.2); have s3 := C3.out.1.cell (i := 0) rfl; clear hb0 N3 O3))
    have K4X := Lib.hid (K42.out.only D2.out N45.out)
    have OO3 := Lib.hid (OO2.out.new D2.out (Nat.le_add_right _ 2))
    have hbf := bytes_from (l := (k : Int) :: r) C3.out.2.1 (1 + k) (by rw [List.length_cons]; omega)
    simp only [sliced, List.length_cons, if_neg hc2, Option.map_some, Nat.mul_one, add_at, Nat.add_comm 1 k, List.drop_succ_cons] at hbf
    have HV2 := Lib.hid hbf
    clear hbf
    rw [Nat.add_comm 1 k] at *
    clear s1 s3 cB cR cE fB fE c0 c00 hst
    generalize r.length + 1 - (k + 1) = nX at HV2 ⊢
    generalize cap - (k + 1) = cX at HV2 ⊢
    have cB2 := C3.out.1.cell (i := 0) rfl
    have fB2 := C3.out.1.frozen 0
    have C4 := Lib.hid (ref_set C3.out HV2.out)
    have O4 := Lib.hid (Only.set g 0 w3 (.slice (some ⟨gR, off + (k + 1), none⟩) nX cX))
    have M3 := Lib.hid (NX.out.only O4.out HF5.out.1.symm)
    have K43 := Lib.hid (K4X.out.only O4.out HF4.out.1.symm)
    go_wp2_with (first
      | refine wpList_load_pc rfl _ rfl (w.heap.size + 2) 0 (⟨2, 0, 0, M.pad (r.take k), .slice none 0 0, 0, []⟩ : Pc) rfl M3.out.range (M.pad_len _) ?_
      | (refine wpList_store_pc rfl _ _ rfl (w.heap.size + 1) (blank 0) (⟨2, 0, 0, M.pad (r.take k), .slice none 0 0, 0, []⟩ : Pc) rfl rfl K43.out rfl (M.pad_len _) rfl ?_; intro w9 N9 O9))
    refine bodyPost_ret (results_pc rfl _ _ (w.heap.size + 1) _ rfl N9.out (M.pad_len _)) rfl ?_
    exact ⟨.slice none 0 0, (by rw [hd]; rfl), BytesIn.nil _ _, ⟨_, C4.out.only O9.out HF4.out.1 HF4.out.2, fun h => absurd rfl h, (show (r.drop k).length ≤ 30000 by rw [List.length_drop]; have := HL.out; omega)⟩, (OO3.out.trans O4.out).new O9.out (Nat.le_add_right _ 1)⟩
end Go.Proofs.YteggjihhjdeieaaGreat
