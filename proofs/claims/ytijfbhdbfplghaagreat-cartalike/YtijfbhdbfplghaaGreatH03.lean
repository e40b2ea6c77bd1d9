/- What Low and Part of package bit answer, and how the model's words for shifts and masks come to it. The contracts of Low, Part and Size, and of Power of the reference: they only compute. Slices of bytes that read as lists; the contract of Same of the reference. The contracts of Var of package pack and of what it calls. append onto a row of bytes of the call's own; the contract of Var of the reference. Names as values; the worlds later than a world; the laws of a region that draws its order and whose calls make memory. The contracts of the functions on the bytes of names. The contracts of pad of package name and of Pad of the reference. -/
import Derived.Test.YtijfbhdbfplghaaGreatH01
import Derived.Test.YtijfbhdbfplghaaGreatProg
import Derived.WalkKit
import Derived.Laws.BitsAllLaws
import Derived.Lib.Hide
import Derived.WalkSpells
import Derived.WalkLawsBesides
import Derived.Deep.QuietTactic
import Derived.BigQuiet
import Derived.Below
import Derived.Laws.OwnMore
import Derived.Deep.Draws
import Derived.Deep.OwnRows
import Derived.Deep.AppendLies
import Derived.Laws.AppendOwn
import Derived.Laws.AppendOwnNone
import Derived.OwnWalk
import Derived.Deep.WholeRow
import Derived.ChangeKeysEq
import Derived.Laws.CopyOwn
import Derived.Laws.Rows
namespace Go.Proofs.YtijfbhdbfplghaaGreat
open Go.RowKit
def lo (x n : Int) : Int := if n < 1 then 0 else if 63 < n then x else x % 2 ^ n.toNat
def part (x f n : Int) : Int := if 63 < f then 0 else lo (x / 2 ^ (max f 0).toNat) n
theorem pow_pos (k : Nat) : (0 : Int) < 2 ^ k := by have := Int.pow_pos (n := (2 : Int)) (m := k) (by omega); exact this
theorem pow_lt (k : Nat) (h : k < 64) : (2 : Int) ^ k < 18446744073709551616 := by
  have : (2 : Nat) ^ k < 2 ^ 64 := Nat.pow_lt_pow_right (by omega) h
  have e : ((2 ^ k : Nat) : Int) = (2 : Int) ^ k := by rw [Int.natCast_pow]; rfl
  rw [← e]; omega
theorem pow_nat (k : Nat) : ((2 ^ k : Nat) : Int) = (2 : Int) ^ k := by rw [Int.natCast_pow]; rfl
end Go.Proofs.YtijfbhdbfplghaaGreat
namespace Go.Proofs.YtijfbhdbfplghaaGreat
open Go.RowKit
theorem ret_int {k : IntKind} {a b : Int} (h : a = b) : Ending.returned (.int k a) = .returned (.int k b) := by rw [h]
theorem ret_bool {a b : Bool} (h : a = b) : Ending.returned (.bool a) = .returned (.bool b) := by rw [h]
end Go.Proofs.YtijfbhdbfplghaaGreat
namespace Go.Proofs.YtijfbhdbfplghaaGreat
open Go.RowKit
theorem below_drewN {B : Nat} {a w : World} (h : Below B a w) (n : Nat) : Below B a (w.drewN n) := ⟨h.os, h.tape, h.output, h.size, h.block⟩
/-- The value v is a slice that holds the bytes l. -/
def BytesAt (w : World) (v : Value) (l : List Int) : Prop :=
  ∃ a cap, v = .slice a l.length cap ∧ (l.length ≤ cap ∧ (a = none → cap = 0)) ∧ M.Bytes l ∧ (0 < l.length → ∃ g off, a = some ⟨g, off, none⟩ ∧ g < w.heap.size ∧ ∀ i (h : i < l.length), w.cell? ⟨g, off + i, none⟩ = some (.int .u8 l[i]))
theorem BytesAt.keep {w w' : World} {B : Nat} {v : Value} {l : List Int} (h : BytesAt w v l) (hB : w.heap.size ≤ B) (hb : Below B w w') : BytesAt w' v l := by
  obtain ⟨a, cap, hv, hcap, hr, hc⟩ := h
  refine ⟨a, cap, hv, hcap, hr, fun h0 => ?_⟩
  obtain ⟨g, off, ha, hg, hcell⟩ := hc h0
  exact ⟨g, off, ha, Nat.lt_of_lt_of_le hg hb.size, fun i hi => (hb.cell (p := ⟨g, off + i, none⟩) (Nat.lt_of_lt_of_le hg hB)).trans (hcell i hi)⟩
theorem BytesAt.below {w w' : World} {v : Value} {l : List Int} (h : BytesAt w v l) (hb : Below w.heap.size w w') : BytesAt w' v l := h.keep (Nat.le_refl _) hb
theorem bytes_nil (w : World) : BytesAt w (.slice none 0 0) [] := ⟨none, 0, rfl, ⟨Nat.le_refl _, fun _ => rfl⟩, (fun x hx => by cases hx), (fun h => by simp at h)⟩
end Go.Proofs.YtijfbhdbfplghaaGreat
namespace Go.Proofs.YtijfbhdbfplghaaGreat
open Go.RowKit
end Go.Proofs.YtijfbhdbfplghaaGreat
namespace Go.Proofs.YtijfbhdbfplghaaGreat
open Go.RowKit
theorem add_at (g off j : Nat) : (⟨g, off, none⟩ : Addr).add j = ⟨g, off + j, none⟩ := by
  unfold Addr.add
  by_cases h : j = 0 <;> simp [h]
end Go.Proofs.YtijfbhdbfplghaaGreat
namespace Go.Proofs.YtijfbhdbfplghaaGreat
open Go.RowKit
theorem step_ {w a b : World} (h : Below w.heap.size w a) (k : Below a.heap.size a b) : Below w.heap.size w b := h.trans (k.mono h.size)
/-- A name's cells. -/
def nm (l : List Int) : Array Value := (l.map (Value.int .u8)).toArray
theorem nm_size (l : List Int) : (nm l).size = l.length := by simp [nm]
theorem nm_at (l : List Int) (i : Nat) (h : i < l.length) : (nm l)[i]? = some (.int .u8 l[i]) := by simp [nm, h]
theorem nm_one (l : List Int) : (nm l).all (·.oneCell') = true := by
  rw [Array.all_eq_true_iff_forall_mem]
  intro x hx
  simp only [nm, List.mem_toArray, List.mem_map] at hx
  obtain ⟨j, _, rfl⟩ := hx
  rfl
theorem nm_of {cs : Array Value} {l : List Int} (hs : cs.size = l.length) (h : ∀ i (hi : i < l.length), cs[i]? = some (.int .u8 l[i])) : cs = nm l := by
  apply Array.ext_getElem?
  intro i
  by_cases hi : i < l.length
  · rw [h i hi, nm_at l i hi]
  · rw [Array.getElem?_eq_none (by omega), Array.getElem?_eq_none (by rw [nm_size]; omega)]
theorem info23 : (Tryz.prog.info? 25).map (fun i => (i.zero, i.size)) = some (some (.agg (nm M.zero8)), 8) := by kernel_rfl
theorem size23 : (Tryz.prog.info? 25).map (·.size) = some 8 := (zero_of_info info23).2
theorem zero23 (w : World) : (zeroValue 25).run Tryz.prog w = .ok (.agg (nm M.zero8)) w := (zero_of_info info23).1 w
theorem size23n {l : List Int} (h : l.length = 8) : (Tryz.prog.info? 25).map (·.size) = some (nm l).size := by rw [nm_size, h]; exact size23
theorem cells5 : Tryz.prog.cellsOf 5 = 1 := by kernel_rfl
theorem info5e : ∃ i, Tryz.prog.info? 5 = some i := by
  have h : (Tryz.prog.info? 5).isSome = true := by kernel_rfl
  exact Option.isSome_iff_exists.1 h
theorem part_nm (l : List Int) (i : Nat) (h : i < l.length) (w : World) : (Go.part 5 (nm l) i).run Tryz.prog w = .ok (.int .u8 l[i]) w := by
  simp [Go.part, nm_at l i h]
theorem eq_items (a b : List Int) (ha : a.length = 8) (hb : b.length = 8) (d : Nat) (w : World) : ∀ (k i : Nat), i + k = 8 → (Op.eqItems (d + 1) 5 1 (nm a) (nm b) (List.range' i k)).run Tryz.prog w = .ok (a.drop i == b.drop i) w
  | 0, i, h => by
    have e1 : a.drop i = [] := List.drop_eq_nil_of_le (by omega)
    have e2 : b.drop i = [] := List.drop_eq_nil_of_le (by omega)
    rw [e1, e2]
    rfl
  | k + 1, i, h => by
    rw [List.range'_succ, Op.eqItems]
    simp only [Sem.run_bind, Nat.mul_one, part_nm a i (by omega), part_nm b i (by omega), Result.andThen_ok, run_equalIn_int w d 5 .u8 .u8 _ _ Tryz.underlying5]
    rw [List.drop_eq_getElem_cons (by omega : i < a.length), List.drop_eq_getElem_cons (by omega : i < b.length), List.cons_beq_cons]
    cases hq : (a[i] == b[i])
    · simp
    · simp [eq_items a b ha hb d w k (i + 1) (by omega)]
theorem eql23 (a b : List Int) (ha : a.length = 8) (hb : b.length = 8) (d : Nat) (w : World) : (Op.equalIn (d + 2) 25 (.agg (nm a)) (.agg (nm b))).run Tryz.prog w = .ok (a == b) w := by
  obtain ⟨j, hj⟩   := info5e
  rw [run_equalIn_array w (d + 1) _ _ Tryz.underlying25 hj, cells5, List.range_eq_range', eq_items a b ha hb d w 8 0 rfl]
  rfl
/-- The worlds later than W: what lay in W lies there. -/
def Later (W : World) : Type := { w : World // Below W.heap.size W w }
instance (W : World) : Nonempty (Later W) := ⟨⟨W, Below.refl _ _⟩⟩
abbrev Cls (W : World) : World → Prop := fun w => ∃ t : Later W, w = t.1
theorem later_call {W : World} {t : Later W} {f : FuncId} {args : Array Value} {v : Value} (h : Calls Tryz.prog f args t.1 fun e w' => e = .returned v ∧ Below t.1.heap.size t.1 w') :
    Calls Tryz.prog f args t.1 fun e w' => e = .returned v ∧ ∃ t' : Later W, w' = t'.1 :=
  h.mono fun _ w' ⟨he, hb⟩ => ⟨he, ⟨w', step_ t.2 hb⟩, rfl⟩
theorem below_drew {B : Nat} {a w : World} (h : Below B a w) : Below B a w.drew := ⟨h.os, h.tape, h.output, h.size, h.block⟩
theorem region_later {ops : List Oper} {id : Nat} {Q : Exit → Act → World → Prop} {a : Act} {W : World} (hm : Tryz.prog.follows .mixedOrders = true) (hB : Region.lexB .any ops.toArray = true)
    (h : wpQuiet Tryz.prog ops.toArray (Cls W) (fun a' => ∀ w', Below W.heap.size W w' → Q .normal a' w') ops a) : (Code.region id ops.toArray true).wp Tryz.prog Q a W := by
  refine wp_region_quiet (C := Cls W) hm hB ⟨⟨W.drew, below_drew (Below.refl _ _)⟩, rfl⟩ ?_
  have : wpQuiet Tryz.prog ops.toArray (Cls W) (fun a' => ∀ w', Below W.heap.size W w' → Q .normal a' w') ops.toArray.toList a := h
  have e : (fun a' => ∀ w', Below W.heap.size W w' → Q .normal a' w') = (fun a' => ∀ w', Cls W w' → Q .normal a' w') := by
    funext a'
    apply propext
    exact ⟨fun h w' ⟨t, ht⟩ => by rw [ht]; exact h _ t.2, fun h w' hw => h w' ⟨⟨w', hw⟩, rfl⟩⟩
  rw [e] at this
  exact this
/-- A name that lies in a block of its own. -/
def At (w : World) (g : Nat) (l : List Int) : Prop := w.heap[g]? = some (.cells (nm l) 25)
theorem At.lt {w : World} {g : Nat} {l : List Int} (h : At w g l) : g < w.heap.size := (Array.getElem?_eq_some_iff.1 h).1
theorem At.below {w w' : World} {g : Nat} {l : List Int} (h : At w g l) (hb : Below w.heap.size w w') : At w' g l := by
  have hl := h.lt
  unfold At at *
  rw [hb.block g hl]
  exact h
theorem At.load {w : World} {g : Nat} {l : List Int} (h : At w g l) (hl : l.length = 8) : (Instr.loadAt 25 (.pointer (some ⟨g, 0, none⟩))).run Tryz.prog w = .ok (.agg (nm l)) w := by
  simp only [Instr.loadAt, Instr.sureAddr, Sem.run_bind, Sem.run_pure, Result.andThen]
  exact run_loadVar_row _ _ 25 25 (nm l) (0, 0) _ h Tryz.underlying25 rfl (size23n hl)
theorem At.cell {w : World} {g : Nat} {l : List Int} (h : At w g l) (i : Nat) (hi : i < l.length) : w.cell? ⟨g, i, none⟩ = some (.int .u8 l[i]) := by
  rw [cell_of_row _ g i (nm l) 25 (0, 0) h]
  exact nm_at l i hi
theorem at_alloc (w : World) (l : List Int) : At (w.alloc (.cells (nm l) 25)) w.heap.size l := heap_alloc_last w _
/-- A whole name is loaded, in a region that draws its order. -/
theorem quiet_load {o : Oper} {a : Act} {W : World} {K : Act → Prop} (g : Nat) (l : List Int) (x : Operand) (ho : o.op = .load 25 x) (hx : a.eval x = .pointer (some ⟨g, 0, none⟩)) (hat : At W g l) (hl : l.length = 8)
    (hk : K (a.put o.dst (.agg (nm l)))) : o.quiet Tryz.prog a (Cls W) K := by
  refine ⟨.agg (nm l), fun w hw => ?_, hk⟩
  obtain ⟨t, rfl⟩ := hw
  have h := (hat.below t.2).load hl
  unfold Oper.quietAt
  have e : (execOp a.eval o).run Tryz.prog t.1 = .ok (.value (.agg (nm l))) t.1 := by
    simp [execOp, ho, hx, h]
  rw [e]
  exact ⟨rfl, rfl⟩
end Go.Proofs.YtijfbhdbfplghaaGreat
namespace Go.Proofs.YtijfbhdbfplghaaGreat
open Go.RowKit
theorem letter_is (c : Int) (b : Bool) (w : World) (hb : Hid (M.letter c = b)) :
    Calls Tryz.prog 103 #[.int .u8 c] w fun e w' => e = .returned (.bool b) ∧ w = w' := by
  by_cases h1 : 97 ≤ c
  · have H := Lib.hid (show M.letter c = decide (c ≤ 122) by unfold M.letter; simp [h1])
    go_enter Tryz.func103, Tryz.ntmps103
    go_wp2_with fail
    go_ret
    exact ⟨ret_bool (H.out.symm.trans hb.out), rfl⟩
  · have H := Lib.hid (show M.letter c = false by unfold M.letter; simp [h1])
    go_enter Tryz.func103, Tryz.ntmps103
    go_wp2_with fail
    go_ret
    exact ⟨ret_bool (H.out.symm.trans hb.out), rfl⟩
theorem other_is (c : Int) (b : Bool) (w : World) (hb : Hid (M.other c = b)) :
    Calls Tryz.prog 104 #[.int .u8 c] w fun e w' => e = .returned (.bool b) ∧ w = w' := by
  cases hl : M.letter c with
  | true =>
    have H := Lib.hid (show M.other c = true by unfold M.other; simp [hl])
    have HL := Lib.hid hl
    clear hl
    go_enter Tryz.func104, Tryz.ntmps104
    go_wp2_with fail
    refine (letter_is c true _ HL).mono ?_
    rintro e w' ⟨rfl, rfl⟩
    go_wp2_with fail
    go_ret
    exact ⟨ret_bool (H.out.symm.trans hb.out), rfl⟩
  | false =>
    have HL := Lib.hid hl
    have H := Lib.hid (show M.other c = (M.digit c || c == 45) by unfold M.other; simp [hl])
    clear hl
    by_cases h1 : 48 ≤ c
    · by_cases h2 : c ≤ 57
      · have H2 := Lib.hid (show M.digit c = true by unfold M.digit; simp [h1, h2])
        go_enter Tryz.func104, Tryz.ntmps104
        go_wp2_with fail
        refine (letter_is c false _ HL).mono ?_
        rintro e w' ⟨rfl, rfl⟩
        go_wp2_with fail
        go_ret
        exact ⟨ret_bool (by rw [← hb.out, H.out, H2.out]; rfl), rfl⟩
      · have H2 := Lib.hid (show M.digit c = decide (c ≤ 57) by unfold M.digit; simp [h1])
        go_enter Tryz.func104, Tryz.ntmps104
        go_wp2_with fail
        refine (letter_is c false _ HL).mono ?_
        rintro e w' ⟨rfl, rfl⟩
        go_wp2_with fail
        go_ret
        exact ⟨ret_bool (by rw [← hb.out, H.out, H2.out]), rfl⟩
    · have H2 := Lib.hid (show M.digit c = false by unfold M.digit; simp [h1])
      go_enter Tryz.func104, Tryz.ntmps104
      go_wp2_with fail
      refine (letter_is c false _ HL).mono ?_
      rintro e w' ⟨rfl, rfl⟩
      go_wp2_with fail
      go_ret
      exact ⟨ret_bool (by rw [← hb.out, H.out, H2.out]; rfl), rfl⟩
theorem good_is (i : Nat) (c : Int) (b : Bool) (w : World) (hb : Hid (M.good i c = b)) :
    Calls Tryz.prog 140 #[.int .i64 i, .int .u8 c] w fun e w' => e = .returned (.bool b) ∧ w = w' := by
  by_cases h1 : 97 ≤ c
  · by_cases h2 : c ≤ 122
    · have H := Lib.hid (show M.good i c = true by unfold M.good M.letter; simp [h1, h2])
      go_enter Tryz.func140, Tryz.ntmps140
      go_wp2_with fail
      go_ret
      exact ⟨ret_bool (H.out.symm.trans hb.out), rfl⟩
    · have h3 : 48 ≤ c := by omega
      have h4 : ¬ c ≤ 57 := by omega
      have h5 : (c == 45) = false := by simp; omega
      have H := Lib.hid (show M.good i c = false by unfold M.good M.letter M.digit; simp [h2, h4, h5])
      go_enter Tryz.func140, Tryz.ntmps140
      go_wp2_with fail
      go_ret
      exact ⟨ret_bool (H.out.symm.trans hb.out), rfl⟩
  · by_cases h3 : 48 ≤ c
    · by_cases h4 : c ≤ 57
      · have H := Lib.hid (show M.good i c = decide (0 < i) by unfold M.good M.letter M.digit; simp [h1, h3, h4])
        go_enter Tryz.func140, Tryz.ntmps140
        go_wp2_with fail
        go_ret
        exact ⟨ret_bool (H.out.symm.trans hb.out), rfl⟩
      · have h5 : (c == 45) = false := by simp; omega
        have H := Lib.hid (show M.good i c = false by unfold M.good M.letter M.digit; simp [h1, h4, h5])
        go_enter Tryz.func140, Tryz.ntmps140
        go_wp2_with fail
        go_ret
        exact ⟨ret_bool (H.out.symm.trans hb.out), rfl⟩
    · by_cases h5 : c = 45
      · subst h5
        have H := Lib.hid (show M.good i 45 = decide (0 < i) by unfold M.good M.letter M.digit; simp)
        go_enter Tryz.func140, Tryz.ntmps140
        go_wp2_with fail
        go_ret
        exact ⟨ret_bool (H.out.symm.trans hb.out), rfl⟩
      · have h5 : (c == 45) = false := by simpa using h5
        have H := Lib.hid (show M.good i c = false by unfold M.good M.letter M.digit; simp [h1, h3, h5])
        go_enter Tryz.func140, Tryz.ntmps140
        go_wp2_with fail
        go_ret
        exact ⟨ret_bool (H.out.symm.trans hb.out), rfl⟩
theorem some_is (l : List Int) (b : Bool) (w : World) (hl : l.length = 8) (hb : Hid ((l != M.zero8) = b)) :
    Calls Tryz.prog 62 #[.agg (nm l)] w fun e w' => e = .returned (.bool b) ∧ Below w.heap.size w w' := by
  have h0 := zero23
  have HA := Lib.hid (at_alloc w l)
  have hq := fun w d => eql23 l M.zero8 hl rfl d w
  have hs := size23n hl
  have HS := Lib.hid hs
  clear hs
  go_enter Tryz.func62, Tryz.ntmps62
  go_wp2_with (refine wpList_load_row rfl 25 _ rfl w.heap.size rfl 25 (nm l) (0, 0) _ HA.out Tryz.underlying25 rfl HS.out ?_)
  go_ret
  exact ⟨ret_bool (by rw [← hb.out]; rfl), (Below.refl _ _).alloc (Nat.le_refl _) _⟩
end Go.Proofs.YtijfbhdbfplghaaGreat
namespace Go.Proofs.YtijfbhdbfplghaaGreat
open Go.RowKit
theorem sizeof5 (w : World) : (sizeOf 5).run Tryz.prog w = .ok 1 w := by
  have h : (Tryz.prog.info? 5).map (·.size) = some 1 := by kernel_rfl
  cases hq : Tryz.prog.info? 5 with
  | none => simp [hq] at h
  | some i =>
    have hi : i.size = 1 := by simpa [hq] using h
    simp [sizeOf, typeInfo, hq, hi]
theorem index_nm (l : List Int) (hl : l.length = 8) (k : Nat) (h : k < 8) (w : World) : (Instr.index 25 (.agg (nm l)) (.int .i64 k)).run Tryz.prog w = .ok (.int .u8 (l[k]'(by omega))) w := by
  have h1 : (0 : Int) ≤ (k : Int) ∧ (k : Int) < 8 := by omega
  have h2 := part_nm l k (by omega) w
  simp only [Instr.index, asIntOf, Sem.run_bind, Sem.run_pure, Result.andThen_ok, run_underlying Tryz.underlying25]
  simp only [Int.natCast_nonneg, true_and]
  rw [if_pos (by omega)]
  simp only [Sem.run_bind, sizeof5, Result.andThen_ok, Nat.mul_one, Int.toNat_natCast]
  exact h2
theorem take_bytes {l : List Int} (h : M.Bytes l) (k : Nat) : M.Bytes (l.take k) := fun x hx => h x (List.mem_of_mem_take hx)
/-- A row of a name being filled. -/
abbrev rowN (f : Nat → Int) : Nat → Value := fun j => .int .u8 (f j)
theorem row_all {w : World} {g : Nat} {l : List Int} (hl : l.length = 8) {f : Nat → Int} (h : w.rowIs g 25 8 (rowN f)) (hf : ∀ i (hi : i < l.length), f i = l[i]) : At w g l := by
  obtain ⟨c, h1, h2, h3⟩ := h
  have e : c = nm l := nm_of (by omega) (fun i hi => by rw [h3 i (by omega)]; show some (Value.int .u8 (f i)) = _; rw [hf i hi])
  unfold At
  rw [← e]
  exact h1
theorem row_zero (w : World) : (w.alloc (.cells (nm M.zero8) 25)).rowIs w.heap.size 25 8 (rowN fun _ => 0) := by
  have h := World.rowIs_alloc w (nm M.zero8) 25 (rowN fun _ => 0) (fun i hi => by
    rw [nm_size] at hi
    have : i = 0 ∨ i = 1 ∨ i = 2 ∨ i = 3 ∨ i = 4 ∨ i = 5 ∨ i = 6 ∨ i = 7 := by simp [M.zero8] at hi; omega
    rcases this with rfl | rfl | rfl | rfl | rfl | rfl | rfl | rfl <;> rfl)
  rwa [nm_size] at h
theorem at_setCell {w : World} {g b o : Nat} {l : List Int} (v : Value) (h : At w g l) (hne : b ≠ g) : At (w.setCell ⟨b, o, none⟩ v) g l := by
  unfold At at *
  rw [← h]
  simp [World.setCell, Array.getElem?_modify, hne]
theorem two_at (w : World) (o : Obj) : At ((w.alloc (.cells (nm M.zero8) 25)).alloc o) w.heap.size M.zero8 := (at_alloc w M.zero8).below ((Below.refl _ _).alloc (Nat.le_refl _) _)
theorem two_row (w : World) (o : Obj) : ((w.alloc o).alloc (.cells (nm M.zero8) 25)).rowIs (w.heap.size + 1) 25 8 (rowN fun _ => 0) := by
  have := row_zero (w.alloc o)
  simpa using this
theorem two_below (w : World) (o o' : Obj) : Below w.heap.size w ((w.alloc o).alloc o') := ((Below.refl _ _).alloc (Nat.le_refl _) _).alloc (by simp) _
theorem str_cells (t : List Int) (hb : M.Bytes t) (n : Nat) : (((strOfNums t).extract 0 n).data.map fun b => Value.int .u8 b.toNat).toList = (t.take n).map (Value.int .u8) := by
  rw [Array.toList_map, ByteArray.data_extract]
  have e : ((strOfNums t).data.extract 0 n).toList = (t.take n).map fun x => UInt8.ofNat x.toNat := by
    rw [Array.toList_extract, strOfNums_data, List.extract_eq_take_drop, List.drop_zero, ← List.map_take]
    simp
  rw [e, List.map_map]
  apply List.map_congr_left
  intro x hx
  show Value.int .u8 ((UInt8.ofNat x.toNat).toNat : Int) = Value.int .u8 x
  rw [M.byte_back (hb x (List.mem_of_mem_take hx))]
theorem pad_cells (t : List Int) : ((t.take (Nat.min t.length 8)).map (Value.int .u8) ++ (nm M.zero8).toList.drop (Nat.min t.length 8)).toArray = nm (M.pad t) := by
  refine nm_of ?_ fun i hi => ?_
  · rw [M.pad_len]
    have : (nm M.zero8).toList.length = 8 := rfl
    have hm : (Nat.min t.length 8) = min t.length 8 := rfl
    simp only [List.size_toArray, List.length_append, List.length_map, List.length_take, List.length_drop, this]
    omega
  · rw [M.pad_len] at hi
    have hp := M.pad_get t i hi
    rw [List.getElem?_eq_getElem (by rw [M.pad_len]; omega)] at hp
    injection hp with hp
    rw [hp, List.getElem?_toArray]
    have hm : (Nat.min t.length 8) = min t.length 8 := rfl
    by_cases h : i < t.length
    · rw [List.getElem?_append_left (by simp; omega), List.getElem?_map, List.getElem?_take, if_pos (by omega), List.getElem?_eq_getElem h, List.getD_eq_getElem?_getD, List.getElem?_eq_getElem h]
      rfl
    · rw [List.getElem?_append_right (by simp; omega), List.getElem?_drop, List.getD_eq_getElem?_getD, List.getElem?_eq_none (by omega : t.length ≤ i)]
      have e : (List.map (Value.int IntKind.u8) (List.take (Nat.min t.length 8) t)).length = min t.length 8 := by simp
      rw [e, show Nat.min t.length 8 + (i - min t.length 8) = i by omega]
      have : i = 0 ∨ i = 1 ∨ i = 2 ∨ i = 3 ∨ i = 4 ∨ i = 5 ∨ i = 6 ∨ i = 7 := by omega
      rcases this with rfl | rfl | rfl | rfl | rfl | rfl | rfl | rfl <;> rfl
theorem run_copy_str (w : World) (g : Nat) (ty : TypeId) (t : List Int) (hb : M.Bytes t) (hat : At w g M.zero8) :
    (Builtin.copy_ #[141, 9] ty #[.slice (some ⟨g, 0, none⟩) 8 8, .string (strOfNums t)]).run Tryz.prog w = .ok (goInt (Nat.min t.length 8)) (w.setRow g (nm (M.pad t))) := by
  have hst := run_storeCells_at Tryz.prog g 0 25 ((t.take (Nat.min t.length 8)).map (Value.int .u8)) 0 (nm M.zero8) w hat (by rw [nm_size]; simp [M.zero8]; omega) (fun v hv => by obtain ⟨x, _, rfl⟩ := List.mem_map.1 hv; rfl)
  have e : ((t.take (Nat.min t.length 8)).map (Value.int .u8)).length = Nat.min t.length 8 := by simp
  rw [e] at hst
  simp only [Nat.zero_add, List.take_zero, List.nil_append] at hst
  rw [pad_cells] at hst
  simp only [Builtin.copy_, Builtin.lenOf, Builtin.firstCells]
  simp only [List.getElem?_toArray, List.getElem?_cons_zero, List.getElem?_cons_succ, Sem.run_bind, run_underlying Tryz.underlying141, Result.andThen_ok, Sem.run_pure, strOfNums_size, sizeof5, str_cells t hb, hst]
theorem at_setRow {w : World} {g b : Nat} {l : List Int} (cs : Array Value) (h : At w g l) (hne : g ≠ b) : At (w.setRow b cs) g l := by
  unfold At at *
  rw [setRow_other w b g cs hne]
  exact h
theorem at_setRow_same {w : World} {g : Nat} {l m : List Int} (h : At w g l) : At (w.setRow g (nm m)) g m := setRow_heap _ _ _ _ _ _ h
theorem two_last (w : World) (o : Obj) (l : List Int) : At ((w.alloc o).alloc (.cells (nm l) 25)) (w.heap.size + 1) l := by
  have := at_alloc (w.alloc o) l
  simpa using this
theorem copy_fact (s : ByteArray) (t : List Int) (w : World) (hs : s = strOfNums t) (hb : M.Bytes t) : ∃ (n : Int) (V : World),
    (Builtin.copy_ #[141, 9] 3 #[.slice (some ⟨w.heap.size + 1, 0, none⟩) 8 8, .string s]).run Tryz.prog ((w.alloc (.cells (nm M.zero8) 25)).alloc (.cells (nm M.zero8) 25)) = .ok (.int .i64 n) V ∧
    At V (w.heap.size + 1) (M.pad t) ∧ At V w.heap.size M.zero8 ∧ Below w.heap.size w V := by
  rw [hs]
  exact ⟨_, _, run_copy_str _ (w.heap.size + 1) 3 t hb (two_last w _ _), at_setRow_same (two_last w _ _), at_setRow _ (two_at w _) (by omega), below_setRow (two_below w _ _) (by omega) _⟩
set_option maxRecDepth 100000 in
theorem pad_is (s : ByteArray) (t : List Int) (w : World) (hs : Hid (s = strOfNums t)) (hb : Hid (M.Bytes t)) :
    Calls Tryz.prog 138 #[.string s] w fun e w' => e = .returned (.agg (nm (M.pad t))) ∧ Below w.heap.size w w' := by
  have hz := zero23
  have HL := Lib.hid (M.pad_len t)
  obtain ⟨n, V, hcopy, h1, h2, h3⟩ := copy_fact s t w hs.out hb.out
  have HV := Lib.hid h1
  have HV0 := Lib.hid h2
  have HB := Lib.hid h3
  clear h1 h2 h3
  go_enter Tryz.func138, Tryz.ntmps138
  go_wp2_with (first
    | refine wpList_load_row rfl 25 _ rfl (w.heap.size + 1) rfl 25 (nm (M.pad t)) (0, 0) _ HV.out Tryz.underlying25 rfl (size23n HL.out) ?_
    | refine wpList_store_row rfl 25 _ _ rfl w.heap.size (nm (M.pad t)) rfl rfl 25 (nm M.zero8) HV0.out (size23n HL.out) (by rw [nm_size, nm_size, HL.out]; rfl) (nm_one _) ?_)
  refine bodyPost_ret (results_cell_row rfl _ _ w.heap.size 25 (nm (M.pad t)) (0, 0) _ rfl (setRow_heap _ _ _ _ _ _ HV0.out) Tryz.underlying25 rfl (size23n HL.out)) rfl ?_
  exact ⟨rfl, below_setRow HB.out (Nat.le_refl _) _⟩
theorem index_str (t : List Int) (hb : M.Bytes t) (k : Nat) (h : k < t.length) (w : World) : (Instr.index 9 (.string (strOfNums t)) (.int .i64 k)).run Tryz.prog w = .ok (.int .u8 t[k]) w := by
  have e : (strOfNums t)[k]? = some (UInt8.ofNat (t[k]).toNat) := by
    have hk : k < (strOfNums t).size := by rw [strOfNums_size]; exact h
    rw [getElem?_pos (strOfNums t) k hk]
    congr 1
    show (strOfNums t).data[k] = _
    rw [← Array.getElem_toList]
    simp [strOfNums_data]
  simp only [Instr.index, asIntOf, Sem.run_bind, Sem.run_pure, Result.andThen_ok, run_underlying Tryz.underlying9, Int.natCast_nonneg, if_true, Int.toNat_natCast, e]
  rw [M.byte_back (hb.at_ k h)]
def padF (t : List Int) (k : Nat) : Nat → Int := fun j => if j < k then t.getD j 0 else 0
theorem padF_step {w : World} {g : Nat} {t : List Int} {k : Nat} {c : Int} (h : w.rowIs g 25 8 (rowN (padF t k))) (hc : t.getD k 0 = c) : (w.setCell ⟨g, k, none⟩ (.int .u8 c)).rowIs g 25 8 (rowN (padF t (k + 1))) := by
  refine (h.set k (.int .u8 c)).congr fun j _ => ?_
  show (if j = k then _ else Value.int .u8 (padF t k j)) = Value.int .u8 (padF t (k + 1) j)
  unfold padF
  by_cases e : j = k
  · rw [if_pos e, if_pos (by omega), e, hc]
  · rw [if_neg e]
    by_cases hl : j < k
    · rw [if_pos hl, if_pos (by omega)]
    · rw [if_neg hl, if_neg (by omega)]
theorem padF_all (t : List Int) (k : Nat) (hk : 8 ≤ k ∨ t.length ≤ k) (i : Nat) (hi : i < (M.pad t).length) : padF t k i = (M.pad t)[i] := by
  have h8 := hi
  rw [M.pad_len] at h8
  have hp := M.pad_get t i h8
  rw [List.getElem?_eq_getElem hi] at hp
  injection hp with hp
  rw [hp]
  unfold padF
  by_cases h : i < k
  · rw [if_pos h]
  · rw [if_neg h, List.getD_eq_getElem?_getD, List.getElem?_eq_none (by omega)]
    rfl
set_option maxRecDepth 100000 in
theorem refPad_is (s : ByteArray) (t : List Int) (w : World) (hs : Hid (s = strOfNums t)) (hb : Hid (M.Bytes t)) :
    Calls Tryz.prog 87 #[.string s] w fun e w' => e = .returned (.agg (nm (M.pad t))) ∧ Below w.heap.size w w' := by
  have hz := zero23
  have HL := Lib.hid (M.pad_len t)
  have hsz : s.size = t.length := by rw [hs.out, strOfNums_size]
  go_enter Tryz.func87, Tryz.ntmps87
  go_wp2_with fail
  go_loopw [4] (fun i wr => ∃ k : Nat, k ≤ 8 ∧ i = .int .i64 k ∧ wr.rowIs (w.heap.size + 1) 25 8 (rowN (padF t k)) ∧ At wr w.heap.size M.zero8 ∧ Below w.heap.size w wr) (fun i _ => 8 - (intOf i).toNat)
  case atStart => exact ⟨0, Nat.zero_le _, rfl, (two_row w _).congr (fun j hj => by show _ = Value.int .u8 (padF t 0 j); unfold padF; rw [if_neg (by omega)]), two_at w _, two_below w _ _⟩
  case round =>
    obtain ⟨k, hk, rfl, hrow, hat, hbel⟩ := hrel
    by_cases hlt : k < t.length ∧ k < 8
    · obtain ⟨hlt1, hlt2⟩ := hlt
      have hix : ∀ w, (Instr.index 9 (.string s) (.int .i64 k)).run Tryz.prog w = .ok (.int .u8 t[k]) w := by rw [hs.out]; exact index_str t hb.out k hlt1
      have hcell := hrow.cell hlt2
      have hfro := hrow.frozen k
      have HC := Lib.hid (show t.getD k 0 = t[k] by rw [List.getD_eq_getElem?_getD, List.getElem?_eq_getElem hlt1]; rfl)
      generalize t[k] = c at hix HC
      have HR := Lib.hid hrow
      have HAT := Lib.hid hat
      clear hrow hat hz
      go_wp2_with fail
      go_roundw
      case rel => exact ⟨k + 1, by omega, by go_num, padF_step HR.out HC.out, at_setCell _ HAT.out (by omega), hbel.setCell (by simp) _⟩
      case measure => simp [intOf]; omega
    · have hh := row_all (M.pad_len t) hrow (padF_all t k (by omega))
      have HH := Lib.hid hh
      have HAT := Lib.hid hat
      clear hh hat hrow hz
      by_cases hl : k < t.length
      · obtain rfl : k = 8 := by omega
        go_wp2_with (first | refine wpList_load_row rfl 25 _ rfl (w.heap.size + 1) rfl 25 (nm (M.pad t)) (0, 0) _ HH.out Tryz.underlying25 rfl (size23n HL.out) ?_ | refine wpList_store_row rfl 25 _ _ rfl w.heap.size (nm (M.pad t)) rfl rfl 25 (nm M.zero8) HAT.out (size23n HL.out) (by rw [nm_size, nm_size, HL.out]; rfl) (nm_one _) ?_)
        refine bodyPost_ret (results_cell_row rfl _ _ w.heap.size 25 (nm (M.pad t)) (0, 0) _ rfl (setRow_heap _ _ _ _ _ _ HAT.out) Tryz.underlying25 rfl (size23n HL.out)) rfl ?_
        exact ⟨rfl, below_setRow hbel (Nat.le_refl _) _⟩
      · have hl2 : ¬ (k : Int) < (t.length : Int) := by omega
        go_wp2_with (first | refine wpList_load_row rfl 25 _ rfl (w.heap.size + 1) rfl 25 (nm (M.pad t)) (0, 0) _ HH.out Tryz.underlying25 rfl (size23n HL.out) ?_ | refine wpList_store_row rfl 25 _ _ rfl w.heap.size (nm (M.pad t)) rfl rfl 25 (nm M.zero8) HAT.out (size23n HL.out) (by rw [nm_size, nm_size, HL.out]; rfl) (nm_one _) ?_)
        refine bodyPost_ret (results_cell_row rfl _ _ w.heap.size 25 (nm (M.pad t)) (0, 0) _ rfl (setRow_heap _ _ _ _ _ _ HAT.out) Tryz.underlying25 rfl (size23n HL.out)) rfl ?_
        exact ⟨rfl, below_setRow hbel (Nat.le_refl _) _⟩
end Go.Proofs.YtijfbhdbfplghaaGreat
