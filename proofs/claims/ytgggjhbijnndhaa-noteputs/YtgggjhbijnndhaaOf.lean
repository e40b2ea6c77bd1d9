/- The contracts of Right of package name and of the reference. The contract of Of of package name. -/
import Derived.Test.YtgggjhbijnndhaaEvery
import Derived.Laws.ResultCell
import Derived.Lib.Bytes
namespace Go.Proofs.Ytgggjhbijnndhaa
open Go.RowKit

theorem later_same {W : World} {t : Later W} {f : FuncId} {args : Array Value} {v : Value} (h : Calls Try.prog f args t.1 fun e w' => e = .returned v ∧ t.1 = w') :
    Calls Try.prog f args t.1 fun e w' => e = .returned v ∧ ∃ t' : Later W, w' = t'.1 :=
  h.mono fun _ _ ⟨he, hb⟩ => ⟨he, t, hb.symm⟩
theorem at_drewN {w : World} {g : Nat} {l : List Int} (h : At w g l) (n : Nat) : At (w.drewN n) g l := h
set_option maxRecDepth 100000 in
theorem right_is (l : List Int) (r : Bool) (w : World) (hl : l.length = 8) (hb : Hid (M.Bytes l)) (hr : Hid (M.rightB l = r)) :
    Calls Try.prog 41 #[.agg (nm l)] w fun e w' => e = .returned (.bool r) ∧ Below w.heap.size w w' := by
  obtain ⟨s, hs⟩ : ∃ s, s = strOfNums (M.text l) := ⟨_, rfl⟩
  have HS := Lib.hid hs
  obtain ⟨b1, hb1⟩ : ∃ b, (l != M.zero8) = b := ⟨_, rfl⟩
  obtain ⟨b2, hb2⟩ : ∃ b, (M.pad (M.text l) == l) = b := ⟨_, rfl⟩
  obtain ⟨b3, hb3⟩ : ∃ b, M.every (M.text l) = b := ⟨_, rfl⟩
  have HR := Lib.hid (show (b1 && (b2 && b3)) = r by rw [← hb1, ← hb2, ← hb3]; exact hr.out)
  have H1 := Lib.hid hb1
  have H3 := Lib.hid hb3
  have HL := Lib.hid hl
  have HA := Lib.hid (at_alloc w l)
  have HB := Lib.hid ((Below.refl w.heap.size w).alloc (Nat.le_refl _) (.cells (nm l) 26))
  have hq : ∀ w d, (Op.equalIn (d + 2) 26 (.agg (nm (M.pad (M.text l)))) (.agg (nm l))).run Try.prog w = .ok b2 w := fun w d => by rw [← hb2]; exact eql23 _ _ (M.pad_len _) hl d w
  have TB := Lib.hid (M.text_bytes hb.out)
  have TL := Lib.hid (show (M.text l).length ≤ 8 by have := M.text_len l; omega)
  clear hs hb1 hb2 hb3 hl
  cases b1 with
  | false =>
    go_enter Try.func41, Try.ntmps41
    go_wp2_with (refine wpList_load_row rfl 26 _ rfl w.heap.size rfl 26 (nm l) (0, 0) _ HA.out Try.underlying26 rfl (size23n HL.out) ?_)
    refine (text_is l s _ HL.out hb HS).mono ?_
    rintro e w1 ⟨rfl, c1⟩
    have A1 := Lib.hid (HA.out.below c1)
    have B1 := Lib.hid (HB.out.trans (c1.mono (by simp)))
    clear c1 HA HB
    go_wp2_with fail
    refine region_later (by kernel_rfl) (by kernel_rfl) ?_
    (go_big_quiet_want; refine quiet_load w.heap.size l _ rfl rfl A1.out HL.out ?_; go_simp; go_big_quiet_on)
    go_big_quiet_step (exact later_call (some_is l false _ HL.out H1))
    repeat go_big_quiet_step (fail)
    refine wpQuiet_nil ?_
    intro w2 hw2
    have B2 := Lib.hid (B1.out.trans (hw2.mono B1.out.size))
    clear hw2
    go_wp2_with fail
    go_ret
    exact ⟨ret_bool HR.out, B2.out⟩
  | true =>
    cases b2 with
    | false =>
      go_enter Try.func41, Try.ntmps41
      go_wp2_with (refine wpList_load_row rfl 26 _ rfl w.heap.size rfl 26 (nm l) (0, 0) _ HA.out Try.underlying26 rfl (size23n HL.out) ?_)
      refine (text_is l s _ HL.out hb HS).mono ?_
      rintro e w1 ⟨rfl, c1⟩
      have A1 := Lib.hid (HA.out.below c1)
      have B1 := Lib.hid (HB.out.trans (c1.mono (by simp)))
      clear c1 HA HB
      go_wp2_with fail
      refine region_later (by kernel_rfl) (by kernel_rfl) ?_
      (go_big_quiet_want; refine quiet_load w.heap.size l _ rfl rfl A1.out HL.out ?_; go_simp; go_big_quiet_on)
      go_big_quiet_step (exact later_call (some_is l true _ HL.out H1))
      go_big_quiet_step (fail)
      go_big_quiet_step (fail)
      go_big_quiet_step (fail)
      go_big_quiet_step (exact later_call (pad_is s (M.text l) _ HS TB))
      (go_big_quiet_want; refine quiet_load w.heap.size l _ rfl rfl A1.out HL.out ?_; go_simp; go_big_quiet_on)
      repeat go_big_quiet_step (fail)
      refine wpQuiet_nil ?_
      intro w2 hw2
      have B2 := Lib.hid (B1.out.trans (hw2.mono B1.out.size))
      clear hw2
      go_wp2_with fail
      go_ret
      exact ⟨ret_bool HR.out, B2.out⟩
    | true =>
      go_enter Try.func41, Try.ntmps41
      go_wp2_with (refine wpList_load_row rfl 26 _ rfl w.heap.size rfl 26 (nm l) (0, 0) _ HA.out Try.underlying26 rfl (size23n HL.out) ?_)
      refine (text_is l s _ HL.out hb HS).mono ?_
      rintro e w1 ⟨rfl, c1⟩
      have A1 := Lib.hid (HA.out.below c1)
      have B1 := Lib.hid (HB.out.trans (c1.mono (by simp)))
      clear c1 HA HB
      go_wp2_with fail
      refine region_later (by kernel_rfl) (by kernel_rfl) ?_
      (go_big_quiet_want; refine quiet_load w.heap.size l _ rfl rfl A1.out HL.out ?_; go_simp; go_big_quiet_on)
      go_big_quiet_step (exact later_call (some_is l true _ HL.out H1))
      go_big_quiet_step (fail)
      go_big_quiet_step (fail)
      go_big_quiet_step (fail)
      go_big_quiet_step (exact later_call (pad_is s (M.text l) _ HS TB))
      (go_big_quiet_want; refine quiet_load w.heap.size l _ rfl rfl A1.out HL.out ?_; go_simp; go_big_quiet_on)
      repeat go_big_quiet_step (fail)
      refine wpQuiet_nil ?_
      intro w2 hw2
      have B2 := Lib.hid (B1.out.trans (hw2.mono B1.out.size))
      clear hw2
      go_wp2_with fail
      refine (every_is s (M.text l) b3 _ TL.out HS TB H3).mono ?_
      rintro e w' ⟨rfl, rfl⟩
      go_wp2_with fail
      go_ret
      exact ⟨ret_bool HR.out, B2.out⟩
set_option maxRecDepth 100000 in
theorem refRight_is (l : List Int) (r : Bool) (w : World) (hl : l.length = 8) (hb : Hid (M.Bytes l)) (hr : Hid (M.rightB l = r)) :
    Calls Try.prog 27 #[.agg (nm l)] w fun e w' => e = .returned (.bool r) ∧ Below w.heap.size w w' := by
  obtain ⟨s, hs⟩ : ∃ s, s = strOfNums (M.text l) := ⟨_, rfl⟩
  have HS := Lib.hid hs
  obtain ⟨b1, hb1⟩ : ∃ b, M.isN (M.text l) = b := ⟨_, rfl⟩
  obtain ⟨b2, hb2⟩ : ∃ b, (M.pad (M.text l) == l) = b := ⟨_, rfl⟩
  have HR := Lib.hid (show (b1 && b2) = r by rw [← hb1, ← hb2, ← hr.out, M.right_eq l hl]; rfl)
  have H1 := Lib.hid hb1
  have HL := Lib.hid hl
  have HA := Lib.hid (at_alloc w l)
  have HB := Lib.hid ((Below.refl w.heap.size w).alloc (Nat.le_refl _) (.cells (nm l) 26))
  have hq : ∀ w d, (Op.equalIn (d + 2) 26 (.agg (nm (M.pad (M.text l)))) (.agg (nm l))).run Try.prog w = .ok b2 w := fun w d => by rw [← hb2]; exact eql23 _ _ (M.pad_len _) hl d w
  have TB := Lib.hid (M.text_bytes hb.out)
  have TL := Lib.hid (show (M.text l).length ≤ 100 by have := M.text_len l; omega)
  clear hs hb1 hb2 hl
  cases b1 with
  | false =>
    go_enter Try.func27, Try.ntmps27
    go_wp2_with fail
    generalize w.alloc (.cells (nm l) 26) = W at HA HB
    refine region_later (by kernel_rfl) (by kernel_rfl) ?_
    (go_big_quiet_want; refine quiet_load w.heap.size l _ rfl rfl HA.out HL.out ?_; go_simp; go_big_quiet_on)
    go_big_quiet_step (exact later_call (refText_is l s _ HL.out HS))
    go_big_quiet_step (exact later_same (isN_is s (M.text l) false _ TL.out HS TB H1))
    repeat go_big_quiet_step (fail)
    refine wpQuiet_nil ?_
    intro w2 hw2
    have B2 := Lib.hid (HB.out.trans (hw2.mono HB.out.size))
    clear hw2
    go_wp2_with fail
    go_ret
    exact ⟨ret_bool HR.out, B2.out⟩
  | true =>
    go_enter Try.func27, Try.ntmps27
    go_wp2_with fail
    generalize w.alloc (.cells (nm l) 26) = W at HA HB
    refine region_later (by kernel_rfl) (by kernel_rfl) ?_
    (go_big_quiet_want; refine quiet_load w.heap.size l _ rfl rfl HA.out HL.out ?_; go_simp; go_big_quiet_on)
    go_big_quiet_step (exact later_call (refText_is l s _ HL.out HS))
    go_big_quiet_step (exact later_same (isN_is s (M.text l) true _ TL.out HS TB H1))
    go_big_quiet_step (fail)
    (go_big_quiet_want; refine quiet_load w.heap.size l _ rfl rfl HA.out HL.out ?_; go_simp; go_big_quiet_on)
    go_big_quiet_step (exact later_call (refText_is l s _ HL.out HS))
    go_big_quiet_step (exact later_call (refPad_is s (M.text l) _ HS TB))
    (go_big_quiet_want; refine quiet_load w.heap.size l _ rfl rfl HA.out HL.out ?_; go_simp; go_big_quiet_on)
    repeat go_big_quiet_step (fail)
    refine wpQuiet_nil ?_
    intro w2 hw2
    have B2 := Lib.hid (HB.out.trans (hw2.mono HB.out.size))
    clear hw2
    go_wp2_with fail
    go_ret
    exact ⟨ret_bool HR.out, B2.out⟩
end Go.Proofs.Ytgggjhbijnndhaa
namespace Go.Proofs.Ytgggjhbijnndhaa
open Go.RowKit

def okL (b : Bool) (l : List Int) : List Int := if b = true then l else M.zero8
def okE (b : Bool) : Int := if b = true then 0 else 3
theorem results_name {fn : Func} {p u : Tmp} (h : fn.results = #[.cell p 26, .tmp u]) (tmps : Array Value) (w : World) (g : Nat) (l : List Int) (hp : tmps.getD p undef = .pointer (some ⟨g, 0, none⟩)) (hat : At w g l) (hl : l.length = 8) :
    (results fn tmps).run Try.prog w = .ok (.tuple #[.agg (nm l), tmps.getD u undef]) w := by
  rw [results_cell_tmp h, hp]
  have := run_loadVar_row (P := Try.prog) w g 26 26 (nm l) (0, 0) _ hat Try.underlying26 rfl (size23n hl)
  simp [asAddr, this]
theorem str_eq {l m : List Int} (hl : M.Bytes l) (hm : M.Bytes m) : ((strOfNums l).toList == (strOfNums m).toList) = (l == m) := by
  rw [Lib.strOfNums_toList, Lib.strOfNums_toList, Bool.eq_iff_iff, beq_iff_eq, beq_iff_eq]
  refine ⟨fun h => ?_, fun h => by rw [h]⟩
  rw [← M.nums_str hl, ← M.nums_str hm]
  unfold M.nums
  rw [strOfNums_data, strOfNums_data]
  exact congrArg (List.map fun b : UInt8 => (b.toNat : Int)) h
/-- An operation behind a guard that says yes. -/
theorem wanted_on {P : Program} {ops : Array Oper} {Q : Exit → Act → World → Prop} {a : Act} {w : World} {rest : List Oper} {o : Oper}
    (hw : Region.wanted o (yielded ops a.tmps) = true) (h : wpList P ops Q ({ o with guard := none } :: rest) a w) : wpList P ops Q (o :: rest) a w := by
  have hw2 : Region.wanted { o with guard := none } (yielded ops a.tmps) = true := by simp [Region.wanted]
  unfold wpList at h ⊢
  rw [if_pos hw2] at h
  rw [if_pos hw]
  exact h
theorem below_at {w w' : World} {g : Nat} {l : List Int} {B : Nat} (h : At w g l) (hb : Below B w w') (hg : g < B) : At w' g l := by
  unfold At at *
  rw [hb.block g hg]
  exact h
/-- A whole name is stored, in a region that keeps its order. -/
theorem wpList_store_name {ops : Array Oper} {rest : List Oper} {o : Oper} {a : Act} {w : World} {Q : Exit → Act → World → Prop} (hgd : o.guard = none) (x y : Operand) (ho : o.op = .store 26 x y) (g : Nat) (l m : List Int)
    (hx : a.eval x = .pointer (some ⟨g, 0, none⟩)) (hy : a.eval y = .agg (nm m)) (hat : At w g l) (hl : l.length = 8) (hm : m.length = 8)
    (h : ∀ w', Hid (At w' g m) → Hid (∀ k q, k ≠ g → At w k q → At w' k q) → Hid (∀ B w0, B ≤ g → Below B w0 w → Below B w0 w') → wpList Try.prog ops Q rest (a.put o.dst undef) w') : wpList Try.prog ops Q (o :: rest) a w :=
  wpList_store_row hgd 26 x y ho g (nm m) hx hy 26 (nm l) hat (size23n hm) (by rw [nm_size, nm_size, hl, hm]) (nm_one m)
    (h _ (Lib.hid (at_setRow_same hat)) (Lib.hid fun _ _ hk hq => at_setRow _ hq hk) (Lib.hid fun _ _ hB hb => below_setRow hb hB _))
theorem wpList_load_name {ops : Array Oper} {rest : List Oper} {o : Oper} {a : Act} {w : World} {Q : Exit → Act → World → Prop} (hgd : o.guard = none) (x : Operand) (ho : o.op = .load 26 x) (g : Nat) (l : List Int)
    (hx : a.eval x = .pointer (some ⟨g, 0, none⟩)) (hat : At w g l) (hl : l.length = 8) (h : wpList Try.prog ops Q rest (a.put o.dst (.agg (nm l))) w) : wpList Try.prog ops Q (o :: rest) a w :=
  wpList_load_row hgd 26 x ho g hx 26 (nm l) (0, 0) _ hat Try.underlying26 rfl (size23n hl) h
end Go.Proofs.Ytgggjhbijnndhaa
