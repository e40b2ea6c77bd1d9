/- Sets of dots in memory: a floor and a slice. Single dots: Halves, Undot, valid, isUnder, isNear, and the reference's May. -/
import Derived.Test.YtpgafijeecmgmaaGreatNums
import Derived.Test.YtpgafijeecmgmaaGreatVecs
import Derived.Test.YtpgafijeecmgmaaGreatSmallK
namespace Go.Proofs.YtpgafijeecmgmaaGreat
open Go.RowKit

/-- A set's cells: its floor, its slice. -/
def sc (f : List Int) (v : Value) : List Value := vc f ++ [v]
theorem sc_len {f : List Int} (v : Value) (h : f.length = 16) : (sc f v).length = 17 := by unfold sc; rw [List.length_append, vc_len, h]; rfl
theorem sc_one (f : List Int) (A : Option Addr) (n c : Nat) : (sc f (.slice A n c)).toArray.all (·.oneCell') = true := by
  rw [Array.all_eq_true_iff_forall_mem]
  intro x hx
  simp only [sc, vc, List.mem_toArray, List.mem_append, List.mem_map, List.mem_singleton] at hx
  rcases hx with ⟨j, _, rfl⟩ | rfl <;> rfl
theorem sc_cloud {f : List Int} (v : Value) (h : f.length = 16) : (sc f v)[16]? = some v := by
  unfold sc; rw [List.getElem?_append_right (by rw [vc_len]; omega), vc_len, h]; rfl
theorem sc_floor {f : List Int} (v : Value) (h : f.length = 16) (i : Nat) (hi : i < 16) : (sc f v)[i]? = some (.int .u32 (f.getD i 0)) := by
  unfold sc; rw [List.getElem?_append_left (by rw [vc_len]; omega)]
  exact vc_at (by rw [getD_at (by omega), List.getElem?_eq_getElem (by omega)])
theorem sc_set {f : List Int} (v : Value) (h : f.length = 16) (i : Nat) (hi : i < 16) (x : Int) : (sc f v).set i (.int .u32 x) = sc (f.set i x) v := by
  unfold sc; rw [List.set_append_left _ _ (by rw [vc_len]; omega), vc_set]
theorem sc_put {f : List Int} (u v : Value) (h : f.length = 16) : (sc f u).set 16 v = sc f v := by
  unfold sc; rw [List.set_append_right _ _ (by rw [vc_len]; omega), vc_len, h]; rfl
theorem range_floor {w : World} {g : Nat} {f : List Int} {v : Value} (h : w.rangeAt g 0 (sc f v)) : w.rangeAt g 0 (vc f) := fun j x hx => by
  refine h j x ?_
  unfold sc
  have hj : j < (vc f).length := by
    rcases Nat.lt_or_ge j (vc f).length with h | h
    · exact h
    · rw [List.getElem?_eq_none h] at hx; cases hx
  rw [List.getElem?_append_left hj]; exact hx
/-- The two types of sets. -/
structure STy (t : TypeId) : Prop where
  und : ∃ fs, Tryz.prog.underlying t = some (.struct fs)
  info : (Tryz.prog.info? t).map (fun i => (i.zero, i.size)) = some (some (.agg (sc vz (.slice none 0 0)).toArray), 17)
theorem t33 : STy 29 := ⟨⟨_, Tryz.underlying29⟩, by kernel_rfl⟩
theorem t26 : STy 33 := ⟨⟨_, Tryz.underlying33⟩, by kernel_rfl⟩
theorem STy.size {t : TypeId} (h : STy t) {f : List Int} {v : Value} (hf : f.length = 16) : (Tryz.prog.info? t).map (·.size) = some (sc f v).length := by rw [sc_len v hf]; exact (zero_of_info h.info).2
theorem STy.zero {t : TypeId} (h : STy t) (w : World) : (zeroValue t).run Tryz.prog w = .ok (.agg (sc vz (.slice none 0 0)).toArray) w := (zero_of_info h.info).1 w
section
variable {ops : Array Oper} {rest : List Oper} {op : Oper} {a : Act} {w : World} {Q : Exit → Act → World → Prop} {t : TypeId}
theorem wpList_load_s (T : STy t) (hgd : op.guard = none) (x : Operand) (ho : op.op = .load t x) (g : Nat) (f : List Int) (v : Value)
    (hx : a.eval x = .pointer (some ⟨g, 0, none⟩)) (hr : Blk w g t (sc f v)) (hf : f.length = 16) (h : wpList Tryz.prog ops Q rest (a.put op.dst (.agg (sc f v).toArray)) w) : wpList Tryz.prog ops Q (op :: rest) a w := by
  obtain ⟨d, hd⟩ := T.und
  exact wpList_load_mid hgd t x ho g 0 hx (sc f v) _ hr.range hd rfl (T.size hf) h
theorem wpList_store_s (T : STy t) (hgd : op.guard = none) (x y : Operand) (ho : op.op = .store t x y) (g : Nat) (f m : List Int) (u : Value) (A : Option Addr) (n c : Nat)
    (hx : a.eval x = .pointer (some ⟨g, 0, none⟩)) (hy : a.eval y = .agg (sc m (.slice A n c)).toArray) (hb : Blk w g t (sc f u)) (hf : f.length = 16) (hm : m.length = 16)
    (h : ∀ w', Hid (Blk w' g t (sc m (.slice A n c))) → Hid (Only g w w') → wpList Tryz.prog ops Q rest (a.put op.dst undef) w') : wpList Tryz.prog ops Q (op :: rest) a w :=
  wpList_store_cs hgd t x y ho g (sc f u) (sc m (.slice A n c)) hx hy hb (by rw [sc_len _ hf, sc_len _ hm]) (T.size hm) (sc_one m A n c) h
theorem wpList_alloc_s (T : STy t) (hgd : op.guard = none) (ho : op.op = .alloc t)
    (h : ∀ g w', Hid (g = w.heap.size) → Hid (Blk w' g t (sc vz (.slice none 0 0))) → Hid (Below w.heap.size w w') → wpList Tryz.prog ops Q rest (a.put op.dst (.pointer (some ⟨g, 0, none⟩))) w') : wpList Tryz.prog ops Q (op :: rest) a w := by
  refine wpList_plain hgd fun K hK => ?_
  have hz := T.zero
  have H := h w.heap.size (w.alloc (.cells (sc vz (.slice none 0 0)).toArray t)) (Lib.hid rfl) (Lib.hid (blk_alloc w t _)) (Lib.hid (new_below w _))
  unfold Oper.wp execOp
  simp [ho, Instr.alloc, hz]
  exact hK _ _ H
/-- A value of cells is boxed. -/
theorem wpList_box_cs (hgd : op.guard = none) (x : Operand) (ho : op.op = .box t x) (cs : List Value) (hx : a.eval x = .agg cs.toArray)
    (h : ∀ g w', Hid (g = w.heap.size) → Hid (Blk w' g t cs) → Hid (Below w.heap.size w w') → wpList Tryz.prog ops Q rest (a.put op.dst (.pointer (some ⟨g, 0, none⟩))) w') : wpList Tryz.prog ops Q (op :: rest) a w := by
  refine wpList_plain hgd fun K hK => ?_
  have H := h w.heap.size (w.alloc (.cells cs.toArray t)) (Lib.hid rfl) (Lib.hid (blk_alloc w t cs)) (Lib.hid (new_below w _))
  unfold Oper.wp execOp
  simp only [ho, hx, Sem.run_bind, Instr.box, newVar, newRow, run_newObj_alloc, Sem.run_pure, Result.andThen_ok]
  exact hK _ _ H
end
theorem results_s {t : TypeId} (T : STy t) {fn : Func} {r : Tmp} (h : fn.results = #[.cell r t]) (tmps : Array Value) (w : World) (g : Nat) (f : List Int) (v : Value) (hp : tmps.getD r undef = .pointer (some ⟨g, 0, none⟩)) (hb : Blk w g t (sc f v)) (hf : f.length = 16) :
    (results fn tmps).run Tryz.prog w = .ok (.agg (sc f v).toArray) w := by
  obtain ⟨d, hd⟩ := T.und
  exact results_cell_row h _ _ g t (sc f v).toArray (0, 0) _ hp hb hd rfl (by rw [List.size_toArray]; exact T.size hf)
theorem built_s33v (c0 c1 c2 c3 c4 c5 c6 c7 c8 c9 c10 c11 c12 c13 c14 c15 : Value) (A : Option Addr) (n c : Nat) : Tryz.prog.built 29 [(0, .agg #[c0, c1, c2, c3, c4, c5, c6, c7, c8, c9, c10, c11, c12, c13, c14, c15]), (1, .slice A n c)] = some #[c0, c1, c2, c3, c4, c5, c6, c7, c8, c9, c10, c11, c12, c13, c14, c15, .slice A n c] := by kernel_rfl
theorem built_s33f (c0 c1 c2 c3 c4 c5 c6 c7 c8 c9 c10 c11 c12 c13 c14 c15 : Value) : Tryz.prog.built 29 [(0, .agg #[c0, c1, c2, c3, c4, c5, c6, c7, c8, c9, c10, c11, c12, c13, c14, c15])] = some #[c0, c1, c2, c3, c4, c5, c6, c7, c8, c9, c10, c11, c12, c13, c14, c15, .slice none 0 0] := by kernel_rfl
theorem built_s33z : Tryz.prog.built 29 [] = some (sc vz (.slice none 0 0)).toArray := by kernel_rfl
theorem built_s33 (f : List Int) (hf : f.length = 16) (A : Option Addr) (n c : Nat) : Tryz.prog.built 29 [(0, .agg (vc f).toArray), (1, .slice A n c)] = some (sc f (.slice A n c)).toArray := by
  match f, hf with
  | [_, _, _, _, _, _, _, _, _, _, _, _, _, _, _, _], _ => exact built_s33v ..
theorem built_s33o (f : List Int) (hf : f.length = 16) : Tryz.prog.built 29 [(0, .agg (vc f).toArray)] = some (sc f (.slice none 0 0)).toArray := by
  match f, hf with
  | [_, _, _, _, _, _, _, _, _, _, _, _, _, _, _, _], _ => exact built_s33f ..
theorem built_s26v (c0 c1 c2 c3 c4 c5 c6 c7 c8 c9 c10 c11 c12 c13 c14 c15 : Value) (A : Option Addr) (n c : Nat) : Tryz.prog.built 33 [(0, .agg #[c0, c1, c2, c3, c4, c5, c6, c7, c8, c9, c10, c11, c12, c13, c14, c15]), (1, .slice A n c)] = some #[c0, c1, c2, c3, c4, c5, c6, c7, c8, c9, c10, c11, c12, c13, c14, c15, .slice A n c] := by kernel_rfl
theorem built_s26f (c0 c1 c2 c3 c4 c5 c6 c7 c8 c9 c10 c11 c12 c13 c14 c15 : Value) : Tryz.prog.built 33 [(0, .agg #[c0, c1, c2, c3, c4, c5, c6, c7, c8, c9, c10, c11, c12, c13, c14, c15])] = some #[c0, c1, c2, c3, c4, c5, c6, c7, c8, c9, c10, c11, c12, c13, c14, c15, .slice none 0 0] := by kernel_rfl
theorem built_s26z : Tryz.prog.built 33 [] = some (sc vz (.slice none 0 0)).toArray := by kernel_rfl
theorem built_s26 (f : List Int) (hf : f.length = 16) (A : Option Addr) (n c : Nat) : Tryz.prog.built 33 [(0, .agg (vc f).toArray), (1, .slice A n c)] = some (sc f (.slice A n c)).toArray := by
  match f, hf with
  | [_, _, _, _, _, _, _, _, _, _, _, _, _, _, _, _], _ => exact built_s26v ..
theorem built_s26o (f : List Int) (hf : f.length = 16) : Tryz.prog.built 33 [(0, .agg (vc f).toArray)] = some (sc f (.slice none 0 0)).toArray := by
  match f, hf with
  | [_, _, _, _, _, _, _, _, _, _, _, _, _, _, _, _], _ => exact built_s26f ..
end Go.Proofs.YtpgafijeecmgmaaGreat
namespace Go.Proofs.YtpgafijeecmgmaaGreat
open Go.RowKit

theorem halves_is (x a b : Int) (w : World) (h0 : 0 ≤ x) (h1 : x < 18446744073709551616) (ha : Hid (x / 4294967296 = a)) (hb : Hid (x % 4294967296 = b)) :
    Calls Tryz.prog 46 #[.int .u64 x] w fun e w' => e = .returned (.tuple #[.int .u32 a, .int .u32 b]) ∧ w = w' := by
  go_enter Tryz.func46, Tryz.ntmps46
  go_wp2
  go_ret2
  exact ⟨ret_ints ha.out hb.out, rfl⟩
theorem undot_is (x a b : Int) (w : World) (h0 : 0 ≤ x) (h1 : Hid (x < 18446744073709551616)) (ha : Hid (x / 4294967296 % 256 = a)) (hb : Hid (x % 4294967296 = b)) :
    Calls Tryz.prog 33 #[.int .u64 x] w fun e w' => e = .returned (.tuple #[.int .u8 a, .int .u32 b]) ∧ w = w' := by
  go_enter Tryz.func33, Tryz.ntmps33
  go_wp2_with fail
  refine (halves_is x (x / 4294967296) b _ h0 h1.out (Lib.hid rfl) hb).mono ?_
  rintro e w1 ⟨rfl, rfl⟩
  go_wp2_with fail
  go_ret2
  refine ⟨?_, rfl⟩
  rw [← ha.out]
  rfl
/-- The key of a dot. -/
def kdot (a b : Int) : Ky := ⟨0, 0, M.zero8, a, b⟩
theorem built_kdot (a b : Int) : Tryz.prog.built 50 [(3, .int .u8 a), (4, .int .u32 b)] = some (kdot a b).cells.toArray := by kernel_rfl
theorem kdot_ok {a b : Int} (h0 : 0 ≤ a) (h1 : a < 256) (h2 : 0 ≤ b) (h3 : b < 4294967296) : (kdot a b).Ok := ⟨rfl, zero8_bytes, (by decide : (0 : Int) ≤ 0), (by decide : (0 : Int) < 256), (by decide : (0 : Int) ≤ 0), (by decide : (0 : Int) < 65536), h0, h1, h2, h3⟩
set_option maxRecDepth 100000 in
theorem valid_is (x : Int) (r : Bool) (w : World) (h : 0 ≤ x ∧ x < 18446744073709551616) (hr : Hid (may x = r)) :
    Calls Tryz.prog 20 #[.int .u64 x] w fun e w' => e = .returned (.bool r) ∧ Below w.heap.size w w' := by
  obtain ⟨a, ha⟩ : ∃ a, x / 4294967296 % 256 = a := ⟨_, rfl⟩
  obtain ⟨b, hb⟩ : ∃ b, x % 4294967296 = b := ⟨_, rfl⟩
  have HX := Lib.hid h
  have h0 := h.1
  have HA := Lib.hid ha
  have HB := Lib.hid hb
  have a0 : 0 ≤ a := by omega
  have a1 : a < 256 := by omega
  have b0 : 0 ≤ b := by omega
  have b1 : b < 4294967296 := by omega
  clear h ha hb
  by_cases c1 : a < 16
  · have c1' : decide (a < 16) = true := by simp [c1]
    by_cases c2 : 0 < b
    · have c2' : decide (0 < b) = true := by simp [c2]
      have KO := Lib.hid (kdot_ok a0 a1 b0 b1)
      have e3 : (a * 4294967296 + b == x) = r := by
        have := HX.out; have := HA.out; have := HB.out
        rw [← hr.out, Bool.eq_iff_iff, beq_iff_eq, may_iff]; omega
      go_enter Tryz.func20, Tryz.ntmps20
      go_wp2_with fail
      refine (undot_is x a b w h0 (Lib.hid HX.out.2) HA HB).mono ?_
      rintro e w1 ⟨rfl, rfl⟩
      go_wp2_with (refine wpList_build rfl 50 _ rfl [(3, .int .u8 a), (4, .int .u32 b)] rfl _ (built_kdot a b) ?_)
      refine (dot_is (kdot a b) w KO.out).mono ?_
      rintro e w1 ⟨rfl, hb1⟩
      have B1 := Lib.hid hb1
      have ew : (kdot a b).w2 = a * 4294967296 + b := rfl
      rw [ew]
      clear hb1
      go_wp2_with fail
      go_ret
      exact ⟨rfl, B1.out⟩
    · have e3 := Lib.hid (show false = r from by
        have := HX.out; have := HA.out; have := HB.out
        rw [← hr.out, Bool.eq_iff_iff, may_iff]; simp; omega)
      have c2' : decide (0 < b) = false := by simp [c2]
      go_enter Tryz.func20, Tryz.ntmps20
      go_wp2_with fail
      refine (undot_is x a b w h0 (Lib.hid HX.out.2) HA HB).mono ?_
      rintro e w1 ⟨rfl, rfl⟩
      go_wp2_with fail
      go_ret
      exact ⟨ret_bool e3.out, Below.refl _ _⟩
  · have e3 := Lib.hid (show false = r from by
      have := HX.out; have := HA.out; have := HB.out
      rw [← hr.out, Bool.eq_iff_iff, may_iff]; simp; omega)
    have c1' : decide (a < 16) = false := by simp [c1]
    go_enter Tryz.func20, Tryz.ntmps20
    go_wp2_with fail
    refine (undot_is x a b w h0 (Lib.hid HX.out.2) HA HB).mono ?_
    rintro e w1 ⟨rfl, rfl⟩
    go_wp2_with fail
    go_ret
    exact ⟨ret_bool e3.out, Below.refl _ _⟩
set_option maxRecDepth 100000 in
theorem under_is (f : List Int) (x : Int) (r : Bool) (w : World) (hf : VOk f) (h : 0 ≤ x ∧ x < 18446744073709551616) (hm : may x = true) (hr : Hid (und f x = r)) :
    Calls Tryz.prog 48 #[.agg (vc f).toArray, .int .u64 x] w fun e w' => e = .returned (.bool r) ∧ Below w.heap.size w w' := by
  have hm := may_iff.1 hm
  obtain ⟨k, hk⟩ : ∃ k : Nat, (x / 4294967296).toNat = k := ⟨_, rfl⟩
  obtain ⟨b, hb⟩ : ∃ b, x % 4294967296 = b := ⟨_, rfl⟩
  obtain ⟨y, hy⟩ : ∃ y, f.getD k 0 = y := ⟨_, rfl⟩
  have HX := Lib.hid h
  have h0 := h.1
  have HA := Lib.hid (show x / 4294967296 % 256 = (k : Int) by omega)
  have HB := Lib.hid hb
  have hk16 : k < 16 := by omega
  have hx' : f[k]? = some y := by rw [← hy, getD_at (by rw [hf.len]; exact hk16)]; exact List.getElem?_eq_getElem _
  have ca := (blk_alloc w 26 (vc f)).cell (vc_at hx')
  have B0 := Lib.hid (new_below w (.cells (vc f).toArray 26))
  have e3 : decide (b ≤ y) = r := by rw [← hr.out]; unfold und; rw [hb, hk, hy]
  clear h hm hk hb hy hx' hf
  go_enter Tryz.func48, Tryz.ntmps48
  go_wp2_with fail
  refine (undot_is x k b _ h0 (Lib.hid HX.out.2) HA HB).mono ?_
  rintro e w1 ⟨rfl, rfl⟩
  go_wp2_with fail
  go_ret
  exact ⟨rfl, B0.out⟩
set_option maxRecDepth 100000 in
theorem near_is (f : List Int) (x : Int) (r : Bool) (w : World) (hf : VOk f) (h : 0 ≤ x ∧ x < 18446744073709551616) (hm : may x = true) (hr : Hid (near f x = r)) :
    Calls Tryz.prog 21 #[.agg (vc f).toArray, .int .u64 x] w fun e w' => e = .returned (.bool r) ∧ Below w.heap.size w w' := by
  have hm := may_iff.1 hm
  obtain ⟨k, hk⟩ : ∃ k : Nat, (x / 4294967296).toNat = k := ⟨_, rfl⟩
  obtain ⟨b, hb⟩ : ∃ b, x % 4294967296 = b := ⟨_, rfl⟩
  obtain ⟨y, hy⟩ : ∃ y, f.getD k 0 = y := ⟨_, rfl⟩
  have HX := Lib.hid h
  have h0 := h.1
  have HA := Lib.hid (show x / 4294967296 % 256 = (k : Int) by omega)
  have HB := Lib.hid hb
  have hk16 : k < 16 := by omega
  have hyr := hf.at k
  rw [hy] at hyr
  have hx' : f[k]? = some y := by rw [← hy, getD_at (by rw [hf.len]; exact hk16)]; exact List.getElem?_eq_getElem _
  have ca := (blk_alloc w 26 (vc f)).cell (vc_at hx')
  have B0 := Lib.hid (new_below w (.cells (vc f).toArray 26))
  have e3 : (decide (b ≤ y) || decide (b - y = 1)) = r := by rw [← hr.out]; unfold near und; rw [hb, hk, hy]
  have hb1 : b < 4294967296 := by omega
  have hb0 : 0 ≤ b := by omega
  clear h hm hk hb hy hx' hf
  by_cases c : b ≤ y
  · have e4 := Lib.hid (show true = r from by rw [← e3]; simp [c])
    have c' : decide (b ≤ y) = true := by simp [c]
    clear e3
    go_enter Tryz.func21, Tryz.ntmps21
    go_wp2_with fail
    refine (undot_is x k b _ h0 (Lib.hid HX.out.2) HA HB).mono ?_
    rintro e w1 ⟨rfl, rfl⟩
    go_wp2_with fail
    go_ret
    exact ⟨ret_bool e4.out, B0.out⟩
  · have hw : IntKind.u32.wrap (b - y) = b - y := by rw [IntKind.wrap_u32]; omega
    have e4 := Lib.hid (show (b - y == 1) = r from by rw [← e3, Bool.eq_iff_iff]; simp [c])
    have c' : decide (b ≤ y) = false := by simp [c]
    clear e3
    go_enter Tryz.func21, Tryz.ntmps21
    go_wp2_with fail
    refine (undot_is x k b _ h0 (Lib.hid HX.out.2) HA HB).mono ?_
    rintro e w1 ⟨rfl, rfl⟩
    go_wp2_with fail
    go_ret
    exact ⟨ret_bool e4.out, B0.out⟩
theorem may_is (x : Int) (r : Bool) (w : World) (h : 0 ≤ x ∧ x < 18446744073709551616) (hr : Hid (may x = r)) :
    Calls Tryz.prog 30 #[.int .u64 x] w fun e w' => e = .returned (.bool r) ∧ w = w' := by
  have h0 := h.1
  have hq : Int.tdiv x 4294967296 = x / 4294967296 := Int.tdiv_eq_ediv_of_nonneg h0
  have hm : Int.tmod x 4294967296 = x % 4294967296 := Int.tmod_eq_emod_of_nonneg h0
  obtain ⟨a, ha⟩ : ∃ a, x / 4294967296 = a := ⟨_, rfl⟩
  obtain ⟨b, hb⟩ : ∃ b, x % 4294967296 = b := ⟨_, rfl⟩
  have a0 : IntKind.u64.wrap a = a := by rw [IntKind.wrap_u64]; omega
  have b0 : IntKind.u64.wrap b = b := by rw [IntKind.wrap_u64]; omega
  have e3 : (decide (a < 16) && decide (0 < b)) = r := by rw [← hr.out]; unfold may; rw [ha, hb, decide_eq_true h0, Bool.true_and]
  rw [ha] at hq
  rw [hb] at hm
  clear ha hb h
  by_cases c1 : a < 16
  · have e4 := Lib.hid (show decide (0 < b) = r from by rw [← e3]; simp [c1])
    clear e3
    go_enter Tryz.func30, Tryz.ntmps30
    go_wp2_with fail
    go_ret
    exact ⟨ret_bool e4.out, rfl⟩
  · have e4 := Lib.hid (show false = r from by rw [← e3]; simp [c1])
    have c1' : decide (a < 16) = false := by simp [c1]
    clear e3
    go_enter Tryz.func30, Tryz.ntmps30
    go_wp2_with fail
    go_ret
    exact ⟨ret_bool e4.out, rfl⟩
end Go.Proofs.YtpgafijeecmgmaaGreat
