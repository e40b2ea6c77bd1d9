/- alive, and the walks of the laws NoteGets, NotePuts and NoteLast. Written by wip/tools/nlaw_r16.py. What the laws of carts always come to: a cart with three cups. Of and Same of package cart, as the laws use them. -/
import Derived.Test.YtijfbhdbfplghaaGreatG28
import Derived.Test.YtijfbhdbfplghaaGreatG50
import Derived.Test.YtijfbhdbfplghaaGreatG49
namespace Go.Proofs.YtijfbhdbfplghaaGreat
open Go.RowKit
theorem wpList_store_nmz {ops : Array Oper} {rest : List Oper} {op : Oper} {a : Act} {w : World} {Q : Exit → Act → World → Prop} (hgd : op.guard = none) (x y : Operand) (ho : op.op = .store 25 x y) (g : Nat) (t : List Int) (hx : a.eval x = .pointer (some ⟨g, 0, none⟩)) (hy : a.eval y = .agg (nm t)) (hb : Blk w g 25 (nmL M.zero8)) (ht : t.length = 8)
    (h : ∀ w', Hid (Blk w' g 25 (nmL t)) → Hid (Only g w w') → wpList Tryz.prog ops Q rest (a.put op.dst undef) w') : wpList Tryz.prog ops Q (op :: rest) a w :=
  wpList_store_cs hgd 25 x y ho g (nmL M.zero8) (nmL t) hx hy hb (by unfold nmL; rw [List.length_map, List.length_map, ht]; rfl) (size_nmL ht) (nm_one t) h
/-! alive: hi. -/
end Go.Proofs.YtijfbhdbfplghaaGreat
namespace Go.Proofs.YtijfbhdbfplghaaGreat
open Go.RowKit Go.Shelf
attribute [local go_sem] Oper.semAt_some
def cup8 : List Int := [99, 117, 112, 0, 0, 0, 0, 0]
def tagA : Am := ⟨⟨1, 1, cup8, 0, 1⟩, ⟨1, M.zero8⟩⟩
def plusA : Am := ⟨⟨2, 1, cup8, 0, 0⟩, ⟨3, M.zero8⟩⟩
def cupS : List Am := [tagA, plusA]
theorem cup_nok : NOk cup8 := ⟨rfl, fun x hx => by simp [cup8] at hx; omega⟩
theorem tagA_ok : tagA.Ok := ⟨⟨rfl, cup_nok.2, by decide, by decide, by decide, by decide, by decide, by decide, by decide, by decide⟩, ⟨rfl, zero8_bytes, by decide, by decide⟩⟩
theorem plusA_ok : plusA.Ok := ⟨⟨rfl, cup_nok.2, by decide, by decide, by decide, by decide, by decide, by decide, by decide, by decide⟩, ⟨rfl, zero8_bytes, by decide, by decide⟩⟩
theorem cup_ok : OkR cupS := (okR_nil.cons plusA_ok).cons tagA_ok
theorem cup_st : St cupS := ⟨cup_ok, fun a ha => by
  rcases List.mem_cons.1 ha with rfl | ha
  · decide
  · rw [List.mem_singleton.1 ha]; decide, List.pairwise_cons.2 ⟨fun b hb => by rw [List.mem_singleton.1 hb]; decide, List.pairwise_singleton _ _⟩⟩
theorem norm_cup : norm cupS = cupS := norm_id cup_st
theorem cup_qua : quaN cupS 1 cup8 = 3 := by unfold quaN presT tot; rw [norm_cup]; decide
theorem cup_pres : presT cupS 1 cup8 = true := by unfold presT; rw [norm_cup]; decide
theorem cup_items : itemsT cupS 1 = [cup8] := by unfold itemsT; rw [norm_cup]; rfl
theorem cup_lines : (linesQ cupS 1).length = 1 := by unfold linesQ; rw [cup_items]; rfl
theorem cup_carts : cartsQ cupS = [1] := (set_carts cup_ok (List.pairwise_singleton _ _) fun c => by
  rw [norm_cup, List.mem_singleton]
  constructor
  · rintro rfl; exact ⟨tagA, List.mem_cons_self .., by decide, rfl⟩
  · rintro ⟨x, hx, -, rfl⟩
    rcases List.mem_cons.1 hx with rfl | hx
    · rfl
    · rw [List.mem_singleton.1 hx]; rfl).symm
theorem nil_carts : cartsQ [] = [] := (set_carts okR_nil List.Pairwise.nil fun c => by
  constructor
  · intro h; cases h
  · rintro ⟨x, hx, -⟩; cases hx).symm
theorem built_cup : Tryz.prog.built 25 [(0, .int .u8 99), (1, .int .u8 117), (2, .int .u8 112)] = some (nm cup8) := by kernel_rfl
theorem built_tk : Tryz.prog.built 53 [(0, .int .u8 1), (1, .int .u16 1), (2, .agg (nm cup8)), (4, .int .u32 1)] = some tagA.k.cells.toArray := by kernel_rfl
theorem built_pk : Tryz.prog.built 53 [(0, .int .u8 2), (1, .int .u16 1), (2, .agg (nm cup8))] = some plusA.k.cells.toArray := by kernel_rfl
theorem built_tv : Tryz.prog.built 56 [(0, .int .u64 1)] = some tagA.v.cells.toArray := by kernel_rfl
theorem built_pv : Tryz.prog.built 56 [(0, .int .u64 3)] = some plusA.v.cells.toArray := by kernel_rfl
theorem built_ta : Tryz.prog.built 58 [(0, .agg tagA.k.cells.toArray), (1, .agg tagA.v.cells.toArray)] = some tagA.cells.toArray := by kernel_rfl
theorem built_pa : Tryz.prog.built 58 [(0, .agg plusA.k.cells.toArray), (1, .agg plusA.v.cells.toArray)] = some plusA.cells.toArray := by kernel_rfl
theorem fill_two : Instr.fill (fun i => some (i * 21, 21)) ((Array.range (2 * 21)).map (azero.cells.toArray[· % azero.cells.toArray.size]!)) [(0, .agg tagA.cells.toArray), (1, .agg plusA.cells.toArray)] = some (acs cupS).toArray := by kernel_rfl
theorem run_two (w : World) : (Instr.buildSlice 22 2 #[(0, .agg tagA.cells.toArray), (1, .agg plusA.cells.toArray)]).run Tryz.prog w = .ok (.slice (some ⟨w.heap.size, 0, none⟩) 2 2) (w.alloc (.cells (acs cupS).toArray 58)) := by
  have hf := fill_two
  simp only [Instr.buildSlice, Sem.run_bind, run_underlying Tryz.underlying22, Result.andThen_ok, sizeOf49]
  rw [if_neg (by decide), if_neg (by decide)]
  simp only [Sem.run_bind, Sem.run_pure, Result.andThen_ok, zero32, Value.cells]
  rw [hf]
  rfl
theorem row_cup {w : World} {g : Nat} (h : Blk w g 58 (acs cupS)) : RowV w (some ⟨g, 0, none⟩) 2 2 cupS :=
  ⟨cup_ok, rfl, Nat.le_refl _, by unfold maxLen; decide, fun _ => ⟨g, 0, rfl, h.lt, fun i hi j v hv => by
    have := h.range (i * 21 + j) v (acs_get cup_ok i hi j v hv)
    simpa [Nat.add_assoc] using this⟩⟩
theorem wpList_two {ops : Array Oper} {rest : List Oper} {op : Oper} {a : Act} {w : World} {Q : Exit → Act → World → Prop} (hgd : op.guard = none) (x y : Operand) (ho : op.op = .buildSlice 22 2 #[(0, x), (1, y)]) (hx : a.eval x = .agg tagA.cells.toArray) (hy : a.eval y = .agg plusA.cells.toArray)
    (h : ∀ g w', Hid (RowV w' (some ⟨g, 0, none⟩) 2 2 cupS) → Hid (Below w.heap.size w w') → wpList Tryz.prog ops Q rest (a.put op.dst (.slice (some ⟨g, 0, none⟩) 2 2)) w') : wpList Tryz.prog ops Q (op :: rest) a w := by
  refine wpList_plain hgd fun K hK => ?_
  unfold Oper.wp execOp
  simp only [ho, List.map_toArray, List.map_cons, List.map_nil, hx, hy, Sem.run_bind, run_two, Result.andThen_ok, Sem.run_pure]
  exact hK _ _ (h _ _ (Lib.hid (row_cup (blk_alloc w 58 (acs cupS)))) (Lib.hid (new_below w _)))
theorem linesN_is (A : Option Addr) (n cap : Nat) (a : List Am) (c : Int) (w : World) (h : RowV w A n cap a) (hl : n ≤ 600) : Calls Tryz.prog 10 #[.slice A n cap, .int .u16 c] w fun e w' => (∃ D cp, e = .returned (.slice D (linesQ a c).length cp)) ∧ Below w.heap.size w w' := by
  refine (lines_is A n cap a c w h hl).mono ?_
  rintro e w1 ⟨⟨v, rfl, o⟩, b⟩
  obtain ⟨D, cp, rfl⟩ := o.shape
  exact ⟨⟨D, cp, rfl⟩, b⟩
theorem cartsN_is (A : Option Addr) (n cap : Nat) (a : List Am) (w : World) (h : RowV w A n cap a) (hl : n ≤ 600) : Calls Tryz.prog 16 #[.slice A n cap] w fun e w' => (∃ D cp, e = .returned (.slice D (cartsQ a).length cp)) ∧ Below w.heap.size w w' := by
  refine (carts17_is A n cap a w h hl).mono ?_
  rintro e w1 ⟨⟨v, rfl, o⟩, b⟩
  obtain ⟨D, cp, rfl⟩ := o.shape
  exact ⟨⟨D, cp, rfl⟩, b⟩
set_option maxRecDepth 100000 in
set_option maxHeartbeats 8000000 in
theorem alive_is (w : World) : Calls Tryz.prog 6 #[] w fun e w' => e = .returned (.bool true) ∧ Below w.heap.size w w' := by
  have Z0 := Lib.hid (blk_alloc w 25 (nmL M.zero8))
  have hz := zero23
  go_enter Tryz.func6, Tryz.ntmps6
  go_wp2_with (first
    | refine wpList_build rfl 25 _ rfl [(0, .int .u8 99), (1, .int .u8 117), (2, .int .u8 112)] rfl _ built_cup ?_
    | (refine wpList_store_nmz rfl _ _ rfl w.heap.size cup8 rfl rfl Z0.out rfl ?_; intro w1 N1 O1; have B1 := Lib.hid (box_below O1.out))
    | refine wpList_load_nm rfl _ rfl w.heap.size 0 cup8 rfl N1.out.range rfl ?_
    | refine wpList_build rfl 53 _ rfl [(0, .int .u8 1), (1, .int .u16 1), (2, .agg (nm cup8)), (4, .int .u32 1)] rfl _ built_tk ?_
    | refine wpList_build rfl 56 _ rfl [(0, .int .u64 1)] rfl _ built_tv ?_
    | refine wpList_build rfl 58 _ rfl [(0, .agg tagA.k.cells.toArray), (1, .agg tagA.v.cells.toArray)] rfl _ built_ta ?_
    | refine wpList_build rfl 53 _ rfl [(0, .int .u8 2), (1, .int .u16 1), (2, .agg (nm cup8))] rfl _ built_pk ?_
    | refine wpList_build rfl 56 _ rfl [(0, .int .u64 3)] rfl _ built_pv ?_
    | refine wpList_build rfl 58 _ rfl [(0, .agg plusA.k.cells.toArray), (1, .agg plusA.v.cells.toArray)] rfl _ built_pa ?_
    | (refine wpList_two rfl _ _ rfl rfl rfl ?_; intro g2 w2 R2 Q2; have N2 := Lib.hid (N1.out.below Q2.out); have B2 := Lib.hid (step_ B1.out Q2.out))
    | refine wpList_load_nm rfl _ rfl w.heap.size 0 cup8 rfl N2.out.range rfl ?_)
  refine (qua_is (some ⟨g2, 0, none⟩) 2 2 cupS 1 cup8 3 true _ R2.out (by omega) cup_nok (Lib.hid cup_qua) (Lib.hid cup_pres)).mono ?_
  rintro e w3 ⟨rfl, b3⟩
  have R3 := Lib.hid (R2.out.below b3)
  have B3 := Lib.hid (step_ B2.out b3)
  clear b3
  go_wp2_with fail
  refine (linesN_is (some ⟨g2, 0, none⟩) 2 2 cupS 1 _ R3.out (by omega)).mono ?_
  rintro e w4 ⟨⟨D4, c4, rfl⟩, b4⟩
  rw [cup_lines]
  have R4 := Lib.hid (R3.out.below b4)
  have B4 := Lib.hid (step_ B3.out b4)
  clear b4
  go_wp2_with fail
  refine (cartsN_is (some ⟨g2, 0, none⟩) 2 2 cupS _ R4.out (by omega)).mono ?_
  rintro e w5 ⟨⟨D5, c5, rfl⟩, b5⟩
  rw [cup_carts]
  have B5 := Lib.hid (step_ B4.out b5)
  clear b5
  go_wp2_with fail
  refine (cartsN_is none 0 0 [] _ (rowV_nil _) (by omega)).mono ?_
  rintro e w6 ⟨⟨D6, c6, rfl⟩, b6⟩
  rw [nil_carts]
  have B6 := Lib.hid (step_ B5.out b6)
  clear b6
  go_wp2_with fail
  go_ret
  exact ⟨rfl, B6.out⟩
end Go.Proofs.YtijfbhdbfplghaaGreat
namespace Go.Proofs.YtijfbhdbfplghaaGreat
open Go.RowKit Go.Shelf
attribute [local go_sem] Oper.semAt_some
theorem OwnG.rowS {w : World} {B : Nat} {D : Option Addr} {n cp : Nat} {L : List (List Int × Int)} (h : OwnG EL w B (.slice D n cp) L) : RowG EL w D n cp L := by
  obtain ⟨A5, n5, cp5, e5, rV⟩ := h.rowG LL
  injection e5 with e51 e52 e53
  subst e51 e52 e53
  exact rV
theorem ofR_is (A : Option Addr) (n cap : Nat) (a : List Am) (c : Int) (t : List Int) (L : List (List Int × Int)) (w : World) (h : RowV w A n cap a) (hl : n ≤ 600) (hc : 0 ≤ c ∧ c < 65536) (ht : Hid (noteT a c = t)) (hL : Hid (linesQ a c = L)) :
    Calls Tryz.prog 22 #[.slice A n cap, .int .u16 c] w fun e w' => (∃ D m cp, e = .returned (.agg (vcs D m cp t).toArray) ∧ RowG EL w' D m cp L ∧ m ≤ 600) ∧ Below w.heap.size w w' := by
  have h0 := h.ok
  have hn := h.len
  refine (of_is_ A n cap a c t w h hl hc ht).mono ?_
  rintro e w1 ⟨⟨D, m, cp, rfl, o⟩, b⟩
  have r := o.rowS
  have h1 := r.len
  have h2 := linesQ_len a c
  have h3 := norm_len a
  exact ⟨⟨D, m, cp, rfl, by rw [← hL.out]; exact r, by omega⟩, b⟩
theorem sameR_is (D D2 : Option Addr) (n n2 cp cp2 : Nat) (t : List Int) (L : List (List Int × Int)) (w : World) (h : RowG EL w D n cp L) (h2 : RowG EL w D2 n2 cp2 L) (hn : n ≤ 600) (ht : t.length = 8) :
    Calls Tryz.prog 21 #[.agg (vcs D n cp t).toArray, .agg (vcs D2 n2 cp2 t).toArray] w fun e w' => e = .returned (.bool true) ∧ Below w.heap.size w w' :=
  same_is_ D D2 n n2 cp cp2 t t L L true w h h2 (by omega) ht ht (Lib.hid (by simp))
end Go.Proofs.YtijfbhdbfplghaaGreat
