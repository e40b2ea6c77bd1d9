/- The contracts of Fail and In of the reference, path by path. -/
import Derived.Test.YteggjihhjdeieaaMathR
import Derived.Test.YteggjihhjdeieaaPieces
namespace Go.Proofs.Yteggjihhjdeieaa
open Go.RowKit

theorem part_pc (p : Pc) (h : p.m.length = 8) (w : World) : (Go.part 24 p.cells.toArray 3).run Try.prog w = .ok (.agg (nm p.m)) w := by
  have hsz : (sizeOf 24).run Try.prog w = .ok 8 w := by
    have h8 := size23
    cases hq : Try.prog.info? 24 with
    | none => simp [hq] at h8
    | some i =>
      have hi : i.size = 8 := by simpa [hq] using h8
      simp [sizeOf, typeInfo, hq, hi]
  have hx : p.cells.toArray.extract 3 (3 + 8) = nm p.m := by
    apply Array.ext'
    rw [Array.toList_extract]
    simp only [Pc.cells, nm]
    rw [List.extract_eq_take_drop]
    simp only [List.drop_succ_cons, List.drop_zero]
    rw [show 3 + 8 - 3 = (p.m.map (Value.int .u8)).length by rw [List.length_map, h]]
    exact List.take_left' rfl
  simp only [Go.part, Sem.run_bind, isAgg, run_underlying Try.underlying24, Result.andThen_ok, Sem.run_pure, if_true, hsz, hx]
theorem eqg24 : Try.prog.eqGuardType Try.prog.depth 24 = false := by kernel_rfl
theorem built24z : Try.prog.built 24 [] = some (nm M.zero8) := by kernel_rfl
theorem exec_eq_nm {o : Oper} {a : Act} {w : World} (x y : Operand) (ty : TypeId) (ho : o.op = .binOp .eql 24 x y ty) (m n : List Int) (hx : a.eval x = .agg (nm m)) (hy : a.eval y = .agg (nm n)) (hm : m.length = 8) (hn : n.length = 8) :
    (execOp a.eval o).run Try.prog w = .ok (.value (.bool (m == n))) w := by
  unfold execOp
  simp only [ho, hx, hy, Sem.run_bind, run_eqGuard_agg w .eql 24 x y _ _ eqg24, Result.andThen_ok, run_eql_struct, eql23 m n hm hn 9998 w, Sem.run_pure]
/-- A number is stored into a key. -/
theorem wpList_store_k22 {ops : Array Oper} {rest : List Oper} {o : Oper} {a : Act} {w : World} {Q : Exit → Act → World → Prop} (hgd : o.guard = none) (x y : Operand) (ho : o.op = .store 22 x y) (g off : Nat) (k : Ky) (v : Int)
    (hx : a.eval x = .pointer (some ⟨g, off, none⟩)) (hy : a.eval y = .int .u16 v) (hb : Blk w g 27 k.cells) (old : Value) (hc : k.cells[off]? = some old) (k' : Ky) (hk : k.cells.set off (.int .u16 v) = k'.cells)
    (h : ∀ w', Hid (Blk w' g 27 k'.cells) → Hid (Only g w w') → wpList Try.prog ops Q rest (a.put o.dst undef) w') : wpList Try.prog ops Q (o :: rest) a w :=
  wpList_plain hgd fun _ hK => by
    have c := hb.cell hc
    have f := hb.frozen off
    have H := Lib.hid (h _ (Lib.hid (hk ▸ hb.set off (.int .u16 v))) (Lib.hid (Only.set g off w (.int .u16 v))))
    clear h hk hb hc
    unfold Oper.wp execOp
    simp only [ho, hx, hy]
    go_simp
    exact hK _ _ H.out
/-- A number is stored into a key. -/
theorem wpList_store_k5 {ops : Array Oper} {rest : List Oper} {o : Oper} {a : Act} {w : World} {Q : Exit → Act → World → Prop} (hgd : o.guard = none) (x y : Operand) (ho : o.op = .store 5 x y) (g off : Nat) (k : Ky) (v : Int)
    (hx : a.eval x = .pointer (some ⟨g, off, none⟩)) (hy : a.eval y = .int .u8 v) (hb : Blk w g 27 k.cells) (old : Value) (hc : k.cells[off]? = some old) (k' : Ky) (hk : k.cells.set off (.int .u8 v) = k'.cells)
    (h : ∀ w', Hid (Blk w' g 27 k'.cells) → Hid (Only g w w') → wpList Try.prog ops Q rest (a.put o.dst undef) w') : wpList Try.prog ops Q (o :: rest) a w :=
  wpList_plain hgd fun _ hK => by
    have c := hb.cell hc
    have f := hb.frozen off
    have H := Lib.hid (h _ (Lib.hid (hk ▸ hb.set off (.int .u8 v))) (Lib.hid (Only.set g off w (.int .u8 v))))
    clear h hk hb hc
    unfold Oper.wp execOp
    simp only [ho, hx, hy]
    go_simp
    exact hK _ _ H.out
/-- A number is stored into a key. -/
theorem wpList_store_k25 {ops : Array Oper} {rest : List Oper} {o : Oper} {a : Act} {w : World} {Q : Exit → Act → World → Prop} (hgd : o.guard = none) (x y : Operand) (ho : o.op = .store 25 x y) (g off : Nat) (k : Ky) (v : Int)
    (hx : a.eval x = .pointer (some ⟨g, off, none⟩)) (hy : a.eval y = .int .u32 v) (hb : Blk w g 27 k.cells) (old : Value) (hc : k.cells[off]? = some old) (k' : Ky) (hk : k.cells.set off (.int .u32 v) = k'.cells)
    (h : ∀ w', Hid (Blk w' g 27 k'.cells) → Hid (Only g w w') → wpList Try.prog ops Q rest (a.put o.dst undef) w') : wpList Try.prog ops Q (o :: rest) a w :=
  wpList_plain hgd fun _ hK => by
    have c := hb.cell hc
    have f := hb.frozen off
    have H := Lib.hid (h _ (Lib.hid (hk ▸ hb.set off (.int .u32 v))) (Lib.hid (Only.set g off w (.int .u32 v))))
    clear h hk hb hc
    unfold Oper.wp execOp
    simp only [ho, hx, hy]
    go_simp
    exact hK _ _ H.out
def pByte (s : Int) (v : Value) : Pc := ⟨1, 0, s, M.zero8, v, 0, []⟩
def pNum (x : Int) (v : Value) : Pc := ⟨0, x, 0, M.zero8, v, 0, []⟩
def pName (m : List Int) (v : Value) : Pc := ⟨2, 0, 0, m, v, 0, []⟩
/- PATHS -/
end Go.Proofs.Yteggjihhjdeieaa
