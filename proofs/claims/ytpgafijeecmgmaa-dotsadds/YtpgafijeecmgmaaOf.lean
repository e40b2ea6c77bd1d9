/- The contracts of Right of package name and of the reference. The contract of Of of package name. -/
import Derived.Test.YtpgafijeecmgmaaEvery
import Derived.Laws.ResultCell
import Derived.Lib.Bytes
namespace Go.Proofs.Ytpgafijeecmgmaa
open Go.RowKit

theorem later_same {W : World} {t : Later W} {f : FuncId} {args : Array Value} {v : Value} (h : Calls Try.prog f args t.1 fun e w' => e = .returned v ∧ t.1 = w') :
    Calls Try.prog f args t.1 fun e w' => e = .returned v ∧ ∃ t' : Later W, w' = t'.1 :=
  h.mono fun _ _ ⟨he, hb⟩ => ⟨he, t, hb.symm⟩
theorem at_drewN {w : World} {g : Nat} {l : List Int} (h : At w g l) (n : Nat) : At (w.drewN n) g l := h
end Go.Proofs.Ytpgafijeecmgmaa
namespace Go.Proofs.Ytpgafijeecmgmaa
open Go.RowKit

def okL (b : Bool) (l : List Int) : List Int := if b = true then l else M.zero8
def okE (b : Bool) : Int := if b = true then 0 else 3
theorem results_name {fn : Func} {p u : Tmp} (h : fn.results = #[.cell p 73, .tmp u]) (tmps : Array Value) (w : World) (g : Nat) (l : List Int) (hp : tmps.getD p undef = .pointer (some ⟨g, 0, none⟩)) (hat : At w g l) (hl : l.length = 8) :
    (results fn tmps).run Try.prog w = .ok (.tuple #[.agg (nm l), tmps.getD u undef]) w := by
  rw [results_cell_tmp h, hp]
  have := run_loadVar_row (P := Try.prog) w g 73 73 (nm l) (0, 0) _ hat Try.underlying73 rfl (size23n hl)
  simp [asAddr, this]
theorem str_eq {l m : List Int} (hl : M.Bytes l) (hm : M.Bytes m) : ((strOfNums l).toList == (strOfNums m).toList) = (l == m) := by
  rw [Lib.strOfNums_toList, Lib.strOfNums_toList, Bool.eq_iff_iff, beq_iff_eq, beq_iff_eq]
  refine ⟨fun h => ?_, fun h => by rw [h]⟩
  rw [← M.nums_str hl, ← M.nums_str hm]
  unfold M.nums
  rw [strOfNums_data, strOfNums_data]
  exact congrArg (List.map fun b : UInt8 => (b.toNat : Int)) h
/-- An operation behind a guard that says yes. -/
theorem wanted_on {P : Program} {ops : Array Oper} {Q : Exit → Act → World → Prop} {a : Act} {w : World} {rest : List Oper} {o : Oper}
    (hw : Region.wanted o (yielded ops a.tmps) = true) (h : wpList P ops Q ({ o with guard := none } :: rest) a w) : wpList P ops Q (o :: rest) a w := by
  have hw2 : Region.wanted { o with guard := none } (yielded ops a.tmps) = true := by simp [Region.wanted]
  unfold wpList at h ⊢
  rw [if_pos hw2] at h
  rw [if_pos hw]
  exact h
theorem below_at {w w' : World} {g : Nat} {l : List Int} {B : Nat} (h : At w g l) (hb : Below B w w') (hg : g < B) : At w' g l := by
  unfold At at *
  rw [hb.block g hg]
  exact h
/-- A whole name is stored, in a region that keeps its order. -/
theorem wpList_store_name {ops : Array Oper} {rest : List Oper} {o : Oper} {a : Act} {w : World} {Q : Exit → Act → World → Prop} (hgd : o.guard = none) (x y : Operand) (ho : o.op = .store 73 x y) (g : Nat) (l m : List Int)
    (hx : a.eval x = .pointer (some ⟨g, 0, none⟩)) (hy : a.eval y = .agg (nm m)) (hat : At w g l) (hl : l.length = 8) (hm : m.length = 8)
    (h : ∀ w', Hid (At w' g m) → Hid (∀ k q, k ≠ g → At w k q → At w' k q) → Hid (∀ B w0, B ≤ g → Below B w0 w → Below B w0 w') → wpList Try.prog ops Q rest (a.put o.dst undef) w') : wpList Try.prog ops Q (o :: rest) a w :=
  wpList_store_row hgd 73 x y ho g (nm m) hx hy 73 (nm l) hat (size23n hm) (by rw [nm_size, nm_size, hl, hm]) (nm_one m)
    (h _ (Lib.hid (at_setRow_same hat)) (Lib.hid fun _ _ hk hq => at_setRow _ hq hk) (Lib.hid fun _ _ hB hb => below_setRow hb hB _))
theorem wpList_load_name {ops : Array Oper} {rest : List Oper} {o : Oper} {a : Act} {w : World} {Q : Exit → Act → World → Prop} (hgd : o.guard = none) (x : Operand) (ho : o.op = .load 73 x) (g : Nat) (l : List Int)
    (hx : a.eval x = .pointer (some ⟨g, 0, none⟩)) (hat : At w g l) (hl : l.length = 8) (h : wpList Try.prog ops Q rest (a.put o.dst (.agg (nm l))) w) : wpList Try.prog ops Q (o :: rest) a w :=
  wpList_load_row hgd 73 x ho g hx 73 (nm l) (0, 0) _ hat Try.underlying73 rfl (size23n hl) h
end Go.Proofs.Ytpgafijeecmgmaa
