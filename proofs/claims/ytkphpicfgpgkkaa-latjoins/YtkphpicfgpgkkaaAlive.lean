/- The contract of the check that each law ends with. -/
import Derived.Test.YtkphpicfgpgkkaaMeet
namespace Go.Proofs.Ytkphpicfgpgkkaa
open Go.RowKit

def lk : Ky := ⟨1, 1, [97, 0, 0, 0, 0, 0, 0, 0], 2, 3⟩
def lv1 : Vl := ⟨1, M.zero8⟩
def lv2 : Vl := ⟨2, M.zero8⟩
theorem lk_ok : lk.Ok := ⟨rfl, fun x hx => by simp [lk] at hx; omega, by decide, by decide, by decide, by decide, by decide, by decide, by decide, by decide⟩
theorem lv1_ok : lv1.Ok := ⟨rfl, zero8_bytes, by decide, by decide⟩
theorem lv2_ok : lv2.Ok := ⟨rfl, zero8_bytes, by decide, by decide⟩
theorem law_one : join [⟨lk, lv1⟩] [⟨lk, lv2⟩] = [⟨lk, lv2⟩] := by decide
theorem law_two : meet [⟨lk, lv1⟩] [⟨lk, lv2⟩] = [⟨lk, lv1⟩] := by decide
theorem law_three : rightR [⟨lk, lv1⟩] = true := by decide
theorem built25_97 : Try.prog.built 25 [(0, .int .u8 97)] = some #[.int .u8 97, .int .u8 0, .int .u8 0, .int .u8 0, .int .u8 0, .int .u8 0, .int .u8 0, .int .u8 0] := by kernel_rfl
theorem built28_lk : Try.prog.built 28 [(0, .int .u8 1), (1, .int .u16 1), (2, .agg #[.int .u8 97, .int .u8 0, .int .u8 0, .int .u8 0, .int .u8 0, .int .u8 0, .int .u8 0, .int .u8 0]), (3, .int .u8 2), (4, .int .u32 3)] = some lk.cells.toArray := by kernel_rfl
theorem built32v_1 : Try.prog.built 32 [(0, .int .u64 1)] = some lv1.cells.toArray := by kernel_rfl
theorem built32v_2 : Try.prog.built 32 [(0, .int .u64 2)] = some lv2.cells.toArray := by kernel_rfl
theorem rowV_one {w : World} {g : Nat} {A : Am} (h : Blk w g 46 A.cells) (hA : A.Ok) : RowV w (some ⟨g, 0, none⟩) 1 1 [A] :=
  ⟨okR_nil.cons hA, rfl, Nat.le_refl _, by decide, fun _ => ⟨g, 0, rfl, h.lt, fun i hi => by
    obtain rfl : i = 0 := by simpa using hi
    exact h.range⟩⟩
set_option maxRecDepth 100000 in
set_option maxHeartbeats 8000000 in
theorem alive_is (w : World) : Calls Try.prog 7 #[] w fun e w' => e = .returned (.bool true) ∧ Below w.heap.size w w' := by
  have hk0 := zero27
  have Z1 := Lib.hid (blk_alloc w 28 kzero.cells)
  go_enter Try.func7, Try.ntmps7
  go_wp2_with (first
    | refine wpList_val rfl _ (exec_build 25 _ rfl [(0, .int .u8 97)] rfl _ built25_97) ?_
    | refine wpList_val rfl _ (exec_build 28 _ rfl [(0, .int .u8 1), (1, .int .u16 1), (2, .agg #[.int .u8 97, .int .u8 0, .int .u8 0, .int .u8 0, .int .u8 0, .int .u8 0, .int .u8 0, .int .u8 0]), (3, .int .u8 2), (4, .int .u32 3)] rfl _ built28_lk) ?_
    | (refine wpList_store_ky rfl _ _ rfl w.heap.size kzero lk rfl rfl Z1.out kzero_ok.ml lk_ok.ml ?_; intro w1 N1 O1))
  have B1 := Lib.hid (box_below O1.out)
  have S1 := Lib.hid (show Below (w.heap.size + 1) w1 w1.drew from below_drew (Below.refl _ _))
  have HS := Lib.hid (show w.heap.size + 1 ≤ w1.drew.heap.size from N1.out.lt)
  refine wp_region_noPanic ?_
  refine wp_region_held_drew (S := fun W => Below (w.heap.size + 1) w1 W) (by kernel_rfl) S1.out (fun _ => ?_)
  refine wpAnyH_take (i := 0) (oi := { dst := some 6, op := Go.Op.load 28 (Go.Operand.tmp 1), type := 28, pos := _, after := #[], guard := none }) (v := .agg lk.cells.toArray) rfl (by kernel_rfl) (by kernel_rfl) (by kernel_rfl) (fun _ _ _ h => h) (yieldsIf_load_mid (by rfl) 28 (.tmp 1) rfl w.heap.size 0 rfl lk.cells _ (fun W hW => (N1.out.upto hW (Nat.lt_succ_self _)).range) Try.underlying28 rfl (size27 lk_ok.ml)) S1.out ?_
  try simp only [Act.put, List.setIfInBounds_toArray, List.set_cons_zero, List.set_cons_succ]
  refine wpAnyH_take (i := 1) (oi := { dst := some 7, op := Go.Op.build 32 #[(0, Go.Operand.const (Go.Value.int Go.IntKind.u64 1))], type := 32, pos := _, after := #[], guard := none }) (v := .agg lv1.cells.toArray) rfl (by kernel_rfl) (by kernel_rfl) (by kernel_rfl) (fun _ _ _ h => h) (Or.inl ⟨by rfl, fun W hW => exec_build 32 _ rfl [(0, .int .u64 1)] rfl _ built32v_1⟩) S1.out ?_
  try simp only [Act.put, List.setIfInBounds_toArray, List.set_cons_zero, List.set_cons_succ]
  refine wpAnyH_take (i := 2) (oi := { dst := some 8, op := Go.Op.build 46 #[(0, Go.Operand.tmp 6), (1, Go.Operand.tmp 7)], type := 46, pos := _, after := #[{ on := 0, ground := Go.Ground.data }, { on := 1, ground := Go.Ground.data }], guard := none }) (v := .agg (⟨lk, lv1⟩ : Am).cells.toArray) rfl (by kernel_rfl) (by kernel_rfl) (by kernel_rfl) (fun _ _ _ h => h) (Or.inl ⟨by rfl, fun W hW => exec_build 46 _ rfl [(0, .agg lk.cells.toArray), (1, .agg lv1.cells.toArray)] rfl _ (built46 lk lv1 lk_ok.ml lv1_ok.tl)⟩) S1.out ?_
  try simp only [Act.put, List.setIfInBounds_toArray, List.set_cons_zero, List.set_cons_succ]
  refine wpAnyH_take (i := 4) (oi := { dst := some 10, op := Go.Op.load 28 (Go.Operand.tmp 1), type := 28, pos := _, after := #[{ on := 8, ground := Go.Ground.gcOnly Go.Departure.lateStores }], guard := none }) (v := .agg lk.cells.toArray) rfl (by kernel_rfl) (by kernel_rfl) (by kernel_rfl) (fun _ _ _ h => h) (yieldsIf_load_mid (by rfl) 28 (.tmp 1) rfl w.heap.size 0 rfl lk.cells _ (fun W hW => (N1.out.upto hW (Nat.lt_succ_self _)).range) Try.underlying28 rfl (size27 lk_ok.ml)) S1.out ?_
  try simp only [Act.put, List.setIfInBounds_toArray, List.set_cons_zero, List.set_cons_succ]
  refine wpAnyH_take (i := 5) (oi := { dst := some 11, op := Go.Op.build 32 #[(0, Go.Operand.const (Go.Value.int Go.IntKind.u64 2))], type := 32, pos := _, after := #[{ on := 8, ground := Go.Ground.gcOnly Go.Departure.lateStores }], guard := none }) (v := .agg lv2.cells.toArray) rfl (by kernel_rfl) (by kernel_rfl) (by kernel_rfl) (fun _ _ _ h => h) (Or.inl ⟨by rfl, fun W hW => exec_build 32 _ rfl [(0, .int .u64 2)] rfl _ built32v_2⟩) S1.out ?_
  try simp only [Act.put, List.setIfInBounds_toArray, List.set_cons_zero, List.set_cons_succ]
  refine wpAnyH_take (i := 6) (oi := { dst := some 12, op := Go.Op.build 46 #[(0, Go.Operand.tmp 10), (1, Go.Operand.tmp 11)], type := 46, pos := _, after := #[{ on := 4, ground := Go.Ground.data }, { on := 5, ground := Go.Ground.data }, { on := 8, ground := Go.Ground.gcOnly Go.Departure.lateStores }], guard := none }) (v := .agg (⟨lk, lv2⟩ : Am).cells.toArray) rfl (by kernel_rfl) (by kernel_rfl) (by kernel_rfl) (fun _ _ _ h => h) (Or.inl ⟨by rfl, fun W hW => exec_build 46 _ rfl [(0, .agg lk.cells.toArray), (1, .agg lv2.cells.toArray)] rfl _ (built46 lk lv2 lk_ok.ml lv2_ok.tl)⟩) S1.out ?_
  try simp only [Act.put, List.setIfInBounds_toArray, List.set_cons_zero, List.set_cons_succ]
  refine wpAnyH_ready (rs := [3, 7]) (by kernel_rfl) (by simp) ?_
  refine ready_one46 (o := { dst := some 9, op := Go.Op.buildSlice 22 1 #[(0, Go.Operand.tmp 8)], type := 22, pos := _, after := #[{ on := 2, ground := Go.Ground.data }], guard := none }) rfl rfl _ rfl ⟨lk, lv1⟩ rfl ⟨lk_ok, lv1_ok⟩ (fun h1 wa eh1 Nh1 bh1 => ?_) ?_
  · try simp only [Act.put, List.setIfInBounds_toArray, List.set_cons_zero, List.set_cons_succ]
    clear eh1
    have SX := Lib.hid (S1.out.trans (bh1.mono HS.out))
    have HX := Lib.hid (Nat.le_trans HS.out bh1.size)
    refine ⟨SX.out, ?_⟩
    try simp only [Act.put, List.setIfInBounds_toArray, List.set_cons_zero, List.set_cons_succ]
    refine wpAnyH_take (i := 8) (oi := { dst := some 2, op := Go.Op.assign (Go.Operand.tmp 9), type := 22, pos := _, after := #[{ on := 3, ground := Go.Ground.data }, { on := 0, ground := Go.Ground.phase }, { on := 1, ground := Go.Ground.phase }, { on := 2, ground := Go.Ground.phase }, { on := 3, ground := Go.Ground.phase }, { on := 4, ground := Go.Ground.textOnly Go.Departure.lateStores }, { on := 5, ground := Go.Ground.textOnly Go.Departure.lateStores }, { on := 6, ground := Go.Ground.textOnly Go.Departure.lateStores }, { on := 7, ground := Go.Ground.textOnly Go.Departure.lateStores }], guard := none }) (v := ?_) rfl (by kernel_rfl) (by kernel_rfl) (by kernel_rfl) (fun _ _ _ h => h) (Or.inl ⟨by rfl, ?_⟩) SX.out ?_
    rotate_left
    · intro W hW; (go_simp; try with_reducible rfl)
    try simp only [Act.put, List.setIfInBounds_toArray, List.set_cons_zero, List.set_cons_succ]
    refine wpAnyH_ready (rs := [7]) (by kernel_rfl) (by simp) ?_
    refine ready_one46 (o := { dst := some 13, op := Go.Op.buildSlice 22 1 #[(0, Go.Operand.tmp 12)], type := 22, pos := _, after := #[{ on := 6, ground := Go.Ground.data }, { on := 8, ground := Go.Ground.gcOnly Go.Departure.lateStores }], guard := none }) rfl rfl _ rfl ⟨lk, lv2⟩ rfl ⟨lk_ok, lv2_ok⟩ (fun h2 wb eh2 Nh2 bh2 => ?_) AllReadyH.nil
    have SY := Lib.hid (SX.out.trans (bh2.mono HX.out))
    refine ⟨SY.out, ?_⟩
    try simp only [Act.put, List.setIfInBounds_toArray, List.set_cons_zero, List.set_cons_succ]
    have R1 := Lib.hid (rowV_one (Nh1.below bh2) ⟨lk_ok, lv1_ok⟩)
    have R2 := Lib.hid (rowV_one Nh2 ⟨lk_ok, lv2_ok⟩)
    have B4 := Lib.hid (show Below w.heap.size w wb from B1.out.trans (SY.out.mono (Nat.le_succ _)))
    clear bh1 bh2 Nh1 Nh2 SX HX eh2
    refine wpAnyH_take (i := 9) (oi := { dst := some 3, op := Go.Op.assign (Go.Operand.tmp 13), type := 22, pos := _, after := #[{ on := 7, ground := Go.Ground.data }, { on := 8, ground := Go.Ground.chain }, { on := 0, ground := Go.Ground.phase }, { on := 1, ground := Go.Ground.phase }, { on := 2, ground := Go.Ground.phase }, { on := 3, ground := Go.Ground.phase }, { on := 4, ground := Go.Ground.phase }, { on := 5, ground := Go.Ground.phase }, { on := 6, ground := Go.Ground.phase }, { on := 7, ground := Go.Ground.phase }, { on := 8, ground := Go.Ground.phase }], guard := none }) (v := ?_) rfl (by kernel_rfl) (by kernel_rfl) (by kernel_rfl) (fun _ _ _ h => h) (Or.inl ⟨by rfl, ?_⟩) SY.out ?_
    rotate_left
    · intro W hW; (go_simp; try with_reducible rfl)
    try simp only [Act.put, List.setIfInBounds_toArray, List.set_cons_zero, List.set_cons_succ]
    refine wpAnyH_done (by kernel_rfl) ?_ _
    refine NoPanic.normal ?_
    go_wp2_with fail
    refine (join_is _ _ _ _ _ _ _ _ _ R1.out R2.out (by omega) (by omega)).mono ?_
    rintro e w5 ⟨⟨A5, n5, c5, rfl, r5⟩, b5⟩
    have R5 := Lib.hid (law_one ▸ r5)
    have R1' := Lib.hid (R1.out.below b5)
    have R2' := Lib.hid (R2.out.below b5)
    have B5 := Lib.hid (step_ B4.out b5)
    clear r5 b5
    have L5 := Lib.hid (show n5 ≤ 5000 by have := R5.out.len; simp at this; omega)
    go_wp2_with fail
    refine (rows_is _ _ _ _ _ _ _ _ true _ R5.out R2'.out L5.out (Lib.hid (decide_eq_true rfl))).mono ?_
    rintro e w6 ⟨rfl, b6⟩
    have R1'' := Lib.hid (R1'.out.below b6)
    have R2'' := Lib.hid (R2'.out.below b6)
    have B6 := Lib.hid (step_ B5.out b6)
    clear b6
    go_wp2_with fail
    refine (meet_is _ _ _ _ _ _ _ _ _ R1''.out R2''.out (by omega) (by omega)).mono ?_
    rintro e w7 ⟨⟨A7, n7, c7, rfl, r7⟩, b7⟩
    have R7 := Lib.hid (law_two ▸ r7)
    have R1a := Lib.hid (R1''.out.below b7)
    have B7 := Lib.hid (step_ B6.out b7)
    clear r7 b7
    have L7 := Lib.hid (show n7 ≤ 5000 by have := R7.out.len; simp at this; omega)
    go_wp2_with fail
    refine (rows_is _ _ _ _ _ _ _ _ true _ R7.out R1a.out L7.out (Lib.hid (decide_eq_true rfl))).mono ?_
    rintro e w8 ⟨rfl, b8⟩
    have R1b := Lib.hid (R1a.out.below b8)
    have B8 := Lib.hid (step_ B7.out b8)
    clear b8
    go_wp2_with fail
    refine (rightR_is _ _ _ _ true _ R1b.out (by omega) (Lib.hid law_three)).mono ?_
    rintro e w9 ⟨rfl, b9⟩
    have B9 := Lib.hid (step_ B8.out b9)
    clear b9
    go_wp2_with fail
    go_ret
    exact ⟨rfl, B9.out⟩
  refine ready_one46 (o := { dst := some 13, op := Go.Op.buildSlice 22 1 #[(0, Go.Operand.tmp 12)], type := 22, pos := _, after := #[{ on := 6, ground := Go.Ground.data }, { on := 8, ground := Go.Ground.gcOnly Go.Departure.lateStores }], guard := none }) rfl rfl _ rfl ⟨lk, lv2⟩ rfl ⟨lk_ok, lv2_ok⟩ (fun h2 wa eh2 Nh2 bh2 => ?_) AllReadyH.nil
  try simp only [Act.put, List.setIfInBounds_toArray, List.set_cons_zero, List.set_cons_succ]
  clear eh2
  have SX := Lib.hid (S1.out.trans (bh2.mono HS.out))
  have HX := Lib.hid (Nat.le_trans HS.out bh2.size)
  refine ⟨SX.out, ?_⟩
  refine wpAnyH_ready (rs := [3]) (by kernel_rfl) (by simp) ?_
  refine ready_one46 (o := { dst := some 9, op := Go.Op.buildSlice 22 1 #[(0, Go.Operand.tmp 8)], type := 22, pos := _, after := #[{ on := 2, ground := Go.Ground.data }], guard := none }) rfl rfl _ rfl ⟨lk, lv1⟩ rfl ⟨lk_ok, lv1_ok⟩ (fun h1 wb eh1 Nh1 bh1 => ?_) AllReadyH.nil
  have SY := Lib.hid (SX.out.trans (bh1.mono HX.out))
  refine ⟨SY.out, ?_⟩
  try simp only [Act.put, List.setIfInBounds_toArray, List.set_cons_zero, List.set_cons_succ]
  have R1 := Lib.hid (rowV_one Nh1 ⟨lk_ok, lv1_ok⟩)
  have R2 := Lib.hid (rowV_one (Nh2.below bh1) ⟨lk_ok, lv2_ok⟩)
  have B4 := Lib.hid (show Below w.heap.size w wb from B1.out.trans (SY.out.mono (Nat.le_succ _)))
  clear bh1 bh2 Nh1 Nh2 SX HX eh1
  refine wpAnyH_take (i := 8) (oi := { dst := some 2, op := Go.Op.assign (Go.Operand.tmp 9), type := 22, pos := _, after := #[{ on := 3, ground := Go.Ground.data }, { on := 0, ground := Go.Ground.phase }, { on := 1, ground := Go.Ground.phase }, { on := 2, ground := Go.Ground.phase }, { on := 3, ground := Go.Ground.phase }, { on := 4, ground := Go.Ground.textOnly Go.Departure.lateStores }, { on := 5, ground := Go.Ground.textOnly Go.Departure.lateStores }, { on := 6, ground := Go.Ground.textOnly Go.Departure.lateStores }, { on := 7, ground := Go.Ground.textOnly Go.Departure.lateStores }], guard := none }) (v := ?_) rfl (by kernel_rfl) (by kernel_rfl) (by kernel_rfl) (fun _ _ _ h => h) (Or.inl ⟨by rfl, ?_⟩) SY.out ?_
  rotate_left
  · intro W hW; (go_simp; try with_reducible rfl)
  try simp only [Act.put, List.setIfInBounds_toArray, List.set_cons_zero, List.set_cons_succ]
  refine wpAnyH_take (i := 9) (oi := { dst := some 3, op := Go.Op.assign (Go.Operand.tmp 13), type := 22, pos := _, after := #[{ on := 7, ground := Go.Ground.data }, { on := 8, ground := Go.Ground.chain }, { on := 0, ground := Go.Ground.phase }, { on := 1, ground := Go.Ground.phase }, { on := 2, ground := Go.Ground.phase }, { on := 3, ground := Go.Ground.phase }, { on := 4, ground := Go.Ground.phase }, { on := 5, ground := Go.Ground.phase }, { on := 6, ground := Go.Ground.phase }, { on := 7, ground := Go.Ground.phase }, { on := 8, ground := Go.Ground.phase }], guard := none }) (v := ?_) rfl (by kernel_rfl) (by kernel_rfl) (by kernel_rfl) (fun _ _ _ h => h) (Or.inl ⟨by rfl, ?_⟩) SY.out ?_
  rotate_left
  · intro W hW; (go_simp; try with_reducible rfl)
  try simp only [Act.put, List.setIfInBounds_toArray, List.set_cons_zero, List.set_cons_succ]
  refine wpAnyH_done (by kernel_rfl) ?_ _
  refine NoPanic.normal ?_
  go_wp2_with fail
  refine (join_is _ _ _ _ _ _ _ _ _ R1.out R2.out (by omega) (by omega)).mono ?_
  rintro e w5 ⟨⟨A5, n5, c5, rfl, r5⟩, b5⟩
  have R5 := Lib.hid (law_one ▸ r5)
  have R1' := Lib.hid (R1.out.below b5)
  have R2' := Lib.hid (R2.out.below b5)
  have B5 := Lib.hid (step_ B4.out b5)
  clear r5 b5
  have L5 := Lib.hid (show n5 ≤ 5000 by have := R5.out.len; simp at this; omega)
  go_wp2_with fail
  refine (rows_is _ _ _ _ _ _ _ _ true _ R5.out R2'.out L5.out (Lib.hid (decide_eq_true rfl))).mono ?_
  rintro e w6 ⟨rfl, b6⟩
  have R1'' := Lib.hid (R1'.out.below b6)
  have R2'' := Lib.hid (R2'.out.below b6)
  have B6 := Lib.hid (step_ B5.out b6)
  clear b6
  go_wp2_with fail
  refine (meet_is _ _ _ _ _ _ _ _ _ R1''.out R2''.out (by omega) (by omega)).mono ?_
  rintro e w7 ⟨⟨A7, n7, c7, rfl, r7⟩, b7⟩
  have R7 := Lib.hid (law_two ▸ r7)
  have R1a := Lib.hid (R1''.out.below b7)
  have B7 := Lib.hid (step_ B6.out b7)
  clear r7 b7
  have L7 := Lib.hid (show n7 ≤ 5000 by have := R7.out.len; simp at this; omega)
  go_wp2_with fail
  refine (rows_is _ _ _ _ _ _ _ _ true _ R7.out R1a.out L7.out (Lib.hid (decide_eq_true rfl))).mono ?_
  rintro e w8 ⟨rfl, b8⟩
  have R1b := Lib.hid (R1a.out.below b8)
  have B8 := Lib.hid (step_ B7.out b8)
  clear b8
  go_wp2_with fail
  refine (rightR_is _ _ _ _ true _ R1b.out (by omega) (Lib.hid law_three)).mono ?_
  rintro e w9 ⟨rfl, b9⟩
  have B9 := Lib.hid (step_ B8.out b9)
  clear b9
  go_wp2_with fail
  go_ret
  exact ⟨rfl, B9.out⟩
end Go.Proofs.Ytkphpicfgpgkkaa
