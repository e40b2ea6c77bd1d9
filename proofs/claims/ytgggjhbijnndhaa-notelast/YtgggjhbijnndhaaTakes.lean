/- The contract of Unvar of package pack. What is cut off a slice of bytes; the contracts of takeNum, cut, takeByte, takeName and takeBytes of a cursor. The contract of takeName of a cursor. The contracts of read of package wire at a number, a byte and bytes, and of Num, Byte and Bytes of a cursor. The contract of read of package wire at a name; the contracts of Num, Byte, Name and Bytes of a cursor. The contracts of Num, Byte, Name and Bytes of a cursor. The contracts of New, add, Num, Byte, Name, Bytes and Out of a writer, of Clone at bytes, and of From. The contracts of Name and Out of a writer, of Clone at bytes, and of From. Pieces as values and in memory; the contracts of Large of the reference and of write of the law. Loads and stores of whole pieces and of the names in them; the contract of write of the law. The contract of read of the law. The contracts of Out of a piece and of All of the reference. What was written of a piece is read as it was. -/
import Derived.Test.YtgggjhbijnndhaaSmall
import Derived.Test.YtgggjhbijnndhaaWires
import Derived.Test.YtgggjhbijnndhaaMathN
import Derived.ScopeJumps
import Derived.Lib.ConvBytes
import Derived.Lib.AppendStr
import Derived.Lib.SliceRun
namespace Go.Proofs.Ytgggjhbijnndhaa
open Go.RowKit

theorem ret_three {a b c a' b' c' : Int} (h : (a, b, c) = (a', b', c')) : Ending.returned (.tuple #[.int .u64 a, .int .i64 b, .int .i64 c]) = .returned (.tuple #[.int .u64 a', .int .i64 b', .int .i64 c']) := by
  injection h with h1 h2; injection h2 with h2 h3; rw [h1, h2, h3]
theorem lo7 (c q : Int) (h : c % 128 = q) : lo c 7 = q := by
  unfold lo; rw [if_neg (by omega), if_neg (by omega)]; exact h
/-- What holds at each round's head of Unvar. -/
def UR (l : List Int) (r : Int × Int × Int) (k : Nat) (x : Int) : Prop :=
  0 ≤ x ∧ x < 2 ^ (7 * k) ∧ M.unv (l.drop k) k x = r
theorem or_next (k : Nat) (x c : Int) (hk : k ≤ 8) (h0 : 0 ≤ x) (h1 : x < 2 ^ (7 * k)) (hc0 : 0 ≤ c) (hc1 : c < 128) : bits .or .u64 x (IntKind.u64.wrap (c * 2 ^ (7 * k))) = x + c * 2 ^ (7 * k) := by
  have h := M.step_fits k x c h0 h1 hc0 hc1
  have h2 := M.pow_le (show 7 * (k + 1) ≤ 63 by omega)
  have h63 : (2 : Int) ^ 63 = 9223372036854775808 := by decide
  have hp := M.pow_pos (7 * k)
  have hm := Int.mul_nonneg hc0 (show (0 : Int) ≤ 2 ^ (7 * k) by omega)
  exact or_add _ _ _ h0 h1 hc0 (by omega) (by omega)
theorem or_last (k : Nat) (x c : Int) (hk : k ≤ 9) (h0 : 0 ≤ x) (h1 : x < 2 ^ (7 * k)) (hc0 : 0 ≤ c) (hc1 : c < 128) (h9 : ¬ (k = 9 ∧ 1 < c)) : bits .or .u64 x (IntKind.u64.wrap (c * 2 ^ (7 * k))) = x + c * 2 ^ (7 * k) := by
  have h := M.last_fits k x c hk h0 h1 hc0 hc1 h9
  have hp := M.pow_pos (7 * k)
  have hm := Int.mul_nonneg hc0 (show (0 : Int) ≤ 2 ^ (7 * k) by omega)
  exact or_add _ _ _ h0 h1 hc0 (by omega) (by omega)
end Go.Proofs.Ytgggjhbijnndhaa
namespace Go.Proofs.Ytgggjhbijnndhaa
open Go.RowKit

theorem BytesAt.bytes {w : World} {v : Value} {l : List Int} (h : BytesAt w v l) : M.Bytes l := by
  obtain ⟨_, _, _, _, hb, _⟩ := h
  exact hb
theorem BytesIn.shape {R : Option Nat} {w : World} {v : Value} {l : List Int} (h : BytesIn R w v l) : ∃ a cap, v = .slice a l.length cap := by
  obtain ⟨⟨a, cap, hv, _⟩, _⟩ := h
  exact ⟨a, cap, hv⟩
theorem elem31 : Try.prog.underlying 85 = some (.slice 5) := Try.underlying85
/-- The bytes from k on, with what is said of them. -/
theorem bytes_from {R : Option Nat} {w : World} {a : Option Addr} {cap : Nat} {l : List Int} (h : BytesIn R w (.slice a l.length cap) l) (k : Nat) (hk : k ≤ l.length) : BytesIn R w (sliced a k l.length cap 1) (l.drop k) := by
  obtain ⟨⟨a', cap', hv, hcap, hb, hc⟩, hn⟩ := h
  injection hv with h1 h2 h3
  subst h1; subst h3
  have hl : (l.drop k).length = l.length - k := List.length_drop
  have hle : l.length - k ≤ cap - k := Nat.sub_le_sub_right hcap.1 k
  unfold sliced
  by_cases h0 : 0 < l.length
  · obtain ⟨g, off, rfl, hg, hcell⟩ := hc h0
    have hX := hn g off _ _ rfl h0
    by_cases e : cap = k
    · rw [if_pos e]
      have hz : ¬ 0 < l.length - k := by have := hcap.1; clear hc hcell hn; omega
      exact ⟨⟨_, _, by rw [hl], ⟨by rw [hl]; exact hle, fun h => by cases h⟩, hb.drop k, fun h => absurd (hl ▸ h) hz⟩, fun g' off' n' cap'' hv hn' => by injection hv with h1 h2 h3; omega⟩
    · rw [if_neg e, Option.map_some, Nat.mul_one, add_at]
      refine ⟨⟨_, _, by rw [hl], ⟨by rw [hl]; exact hle, fun h => by cases h⟩, hb.drop k, fun h => ⟨g, off + k, rfl, hg, fun i hi => ?_⟩⟩, fun g' off' n' cap'' hv hn' => ?_⟩
      · have hi2 : k + i < l.length := by rw [hl] at hi; clear hc hn hcell hle hl; omega
        rw [Nat.add_assoc, hcell (k + i) hi2, List.getElem_drop]
      · injection hv with h1 h2 h3
        injection h1 with h1
        injection h1 with h1
        rw [hX, h1]
  · obtain rfl : k = 0 := by omega
    obtain rfl : l = [] := List.eq_nil_of_length_eq_zero (by omega)
    refine ⟨⟨_, cap - 0, rfl, ⟨Nat.zero_le _, fun h => ?_⟩, hb, fun h => absurd h (by simp)⟩, fun g' off' n' cap'' hv hn' => ?_⟩
    · cases a with
      | none => have := hcap.2 rfl; omega
      | some ad => split at h <;> cases h
    · injection hv with h1 h2 h3
      simp at h2
      omega
/-- The first k bytes, without the capacity behind them. -/
theorem bytes_head {R : Option Nat} {w : World} {a : Option Addr} {cap : Nat} {l : List Int} (h : BytesIn R w (.slice a l.length cap) l) (k m : Nat) (hk : k ≤ l.length) (hm : k ≤ m) (hm2 : m ≤ cap) : BytesIn R w (sliced a 0 k m 1) (l.take k) := by
  obtain ⟨⟨a', cap', hv, hcap, hb, hc⟩, hn⟩ := h
  injection hv with h1 h2 h3
  subst h1; subst h3
  have hl : (l.take k).length = k := by rw [List.length_take]; omega
  unfold sliced
  by_cases h0 : 0 < k
  · obtain ⟨g, off, rfl, hg, hcell⟩ := hc (by omega)
    have hX := hn g off _ _ rfl (by omega)
    rw [if_neg (by omega), Option.map_some, Nat.mul_one, add_at, Nat.sub_zero, Nat.sub_zero]
    refine ⟨⟨_, _, by rw [hl], ⟨by rw [hl]; exact hm, fun h => by cases h⟩, hb.take k, fun _ => ⟨g, off + 0, rfl, hg, fun i hi => ?_⟩⟩, fun g' off' n' cap'' hv hn' => ?_⟩
    · rw [hl] at hi
      rw [Nat.add_zero, hcell i (by omega), List.getElem_take]
    · injection hv with h1 h2 h3
      injection h1 with h1
      injection h1 with h1
      rw [hX, h1]
  · obtain rfl : k = 0 := by omega
    refine ⟨⟨_, m - 0, rfl, ⟨Nat.zero_le _, fun h => ?_⟩, hb.take 0, fun h => absurd h (by simp)⟩, fun g' off' n' cap'' hv hn' => ?_⟩
    · cases a with
      | none => have := hcap.2 rfl; omega
      | some ad => split at h <;> cases h
    · injection hv with h1 h2 h3
      simp at h2
      omega
theorem run_from (w : World) (a : Option Addr) (n cap k : Nat) (kl : IntKind) (hk : k ≤ n) : (Instr.sliceAt 85 (.slice a n cap) (some (.int kl k)) none none).run Try.prog w = .ok (sliced a k n cap 1) w := by
  simp [Instr.sliceAt, Instr.slice, run_underlying elem31, Instr.sliceBounds, run_sliceBound, sliced, hk]
theorem run_head (w : World) (a : Option Addr) (n cap k : Nat) (kl km : IntKind) (hk : k ≤ cap) : (Instr.sliceAt 85 (.slice a n cap) none (some (.int kl k)) (some (.int km k))).run Try.prog w = .ok (sliced a 0 k k 1) w := by
  simp [Instr.sliceAt, Instr.slice, run_underlying elem31, Instr.sliceBounds, run_sliceBound, sliced, hk]
/-- x[lo:] -/
theorem wpList_from {ops : Array Oper} {rest : List Oper} {o : Oper} {ac : Act} {w : World} {Q : Exit → Act → World → Prop} (R : Option Nat) (hgd : o.guard = none) (x lo : Operand) (ho : o.op = .slice 85 x (some lo) none none)
    (kl : IntKind) (a : Option Addr) (cap k : Nat) (l : List Int) (hx : ac.eval x = .slice a l.length cap) (hlo : ac.eval lo = .int kl k) (hv : BytesIn R w (.slice a l.length cap) l) (hk : k ≤ l.length)
    (h : ∀ a' cap', Hid (BytesIn R w (.slice a' (l.length - k) cap') (l.drop k)) → wpList Try.prog ops Q rest (ac.put o.dst (.slice a' (l.length - k) cap')) w) : wpList Try.prog ops Q (o :: rest) ac w :=
  wpList_plain hgd fun _ hK => by
    unfold Oper.wp execOp
    simp only [ho, hx, hlo, Option.map_some, Option.map_none, Sem.run_bind, run_from w a l.length cap k kl hk, Result.andThen_ok, Sem.run_pure]
    obtain ⟨a', cap', e⟩ := (bytes_from hv k hk).shape
    rw [List.length_drop] at e
    rw [e]
    exact hK _ _ (h _ _ (Lib.hid (e ▸ bytes_from hv k hk)))
/-- x[:hi:hi] -/
theorem wpList_head {ops : Array Oper} {rest : List Oper} {o : Oper} {ac : Act} {w : World} {Q : Exit → Act → World → Prop} (R : Option Nat) (hgd : o.guard = none) (x hi mx : Operand) (ho : o.op = .slice 85 x none (some hi) (some mx))
    (kl km : IntKind) (a : Option Addr) (cap k : Nat) (l : List Int) (hx : ac.eval x = .slice a l.length cap) (hhi : ac.eval hi = .int kl k) (hmx : ac.eval mx = .int km k) (hv : BytesIn R w (.slice a l.length cap) l) (hk : k ≤ l.length)
    (h : ∀ a' cap', Hid (BytesIn R w (.slice a' k cap') (l.take k)) → wpList Try.prog ops Q rest (ac.put o.dst (.slice a' k cap')) w) : wpList Try.prog ops Q (o :: rest) ac w := by
  have hcap : l.length ≤ cap := by
    obtain ⟨⟨a', cap', hv, hcap, _⟩, _⟩ := hv
    injection hv with h1 h2 h3
    omega
  exact wpList_plain hgd fun _ hK => by
    unfold Oper.wp execOp
    simp only [ho, hx, hhi, hmx, Option.map_some, Option.map_none, Sem.run_bind, run_head w a l.length cap k kl km (by omega), Result.andThen_ok, Sem.run_pure]
    have hB := bytes_head hv k k hk (Nat.le_refl _) (by omega)
    obtain ⟨a', cap', e⟩ := hB.shape
    rw [List.length_take, Nat.min_eq_left hk] at e
    rw [e] at hB ⊢
    exact hK _ _ (h _ _ (Lib.hid hB))

end Go.Proofs.Ytgggjhbijnndhaa
namespace Go.Proofs.Ytgggjhbijnndhaa
open Go.RowKit

theorem At.only {w w' : World} {g x : Nat} {l : List Int} (h : At w g l) (ho : Only x w w') (hn : g ≠ x) : At w' g l := (ho.block g h.lt hn).trans h
theorem str_of {w : World} {a : Option Addr} {n cap : Nat} {l : List Int} (h : BytesAt w (.slice a n cap) l) : (convert 85 9 (.slice a n cap)).run Try.prog w = .ok (.string (strOfNums l)) w := by
  obtain ⟨a', cap', hv, hcap, hb, hc⟩ := h
  simp only [Value.slice.injEq] at hv
  obtain ⟨rfl, rfl, rfl⟩ := hv
  by_cases h0 : 0 < l.length
  · obtain ⟨g, off, rfl, _, hcell⟩ := hc h0
    exact run_convert_bytes_arg (P := Try.prog) w 85 5 Try.underlying85 Try.underlying5 g off l.length cap l rfl (fun i hi => by rw [hcell i hi, List.getD_eq_getElem?_getD, List.getElem?_eq_getElem hi]; rfl) 9 Try.underlying9
  · obtain rfl : l = [] := List.eq_nil_of_length_eq_zero (by omega)
    show (convert 85 9 (.slice a 0 cap)).run Try.prog w = .ok (.string ByteArray.empty) w
    rw [run_convert_bytes_string w 85 9 5 _ 0 cap Try.underlying85 Try.underlying5 Try.underlying9]
    cases a <;> simp [Conv.bytesToString, loadCells]
    all_goals rfl
theorem okL_len {b : Bool} {l : List Int} (h : l.length = 8) : (okL b l).length = 8 := by
  unfold okL
  split
  · exact h
  · rfl
theorem at_new (w : World) : At (w.alloc (.cells (nm M.zero8) 26)) w.heap.size M.zero8 := at_alloc w M.zero8
/-- What is stored into a block that the call made leaves what the caller knows. -/
theorem Only.new {g n : Nat} {w a b : World} (h : Only g w a) (hb : Only n a b) (hn : w.heap.size ≤ n) : Only g w b := ⟨hb.os.trans h.os, hb.tape.trans h.tape, hb.output.trans h.output, Nat.le_trans h.size hb.size, fun k hk hne => (hb.block k (Nat.lt_of_lt_of_le hk h.size) (by omega)).trans (h.block k hk hne)⟩

/-- A whole name is stored, and of the old blocks that one alone turns. -/
theorem wpList_put_name {ops : Array Oper} {rest : List Oper} {o : Oper} {a : Act} {w : World} {Q : Exit → Act → World → Prop} (hgd : o.guard = none) (x y : Operand) (ho : o.op = .store 26 x y) (g : Nat) (l m : List Int)
    (hx : a.eval x = .pointer (some ⟨g, 0, none⟩)) (hy : a.eval y = .agg (nm m)) (hat : At w g l) (hl : l.length = 8) (hm : m.length = 8)
    (h : ∀ w', Hid (At w' g m) → Hid (Only g w w') → wpList Try.prog ops Q rest (a.put o.dst undef) w') : wpList Try.prog ops Q (o :: rest) a w :=
  wpList_store_row hgd 26 x y ho g (nm m) hx hy 26 (nm l) hat (size23n hm) (by rw [nm_size, nm_size, hl, hm]) (nm_one m)
    (h _ (Lib.hid (at_setRow_same hat)) (Lib.hid ⟨rfl, rfl, rfl, by simp [World.setRow], fun k _ hk => by simp only [World.setRow, Array.getElem?_modify]; rw [if_neg (fun e => hk e.symm)]⟩))
theorem results_nameE {fn : Func} {p u : Tmp} (h : fn.results = #[.cell p 26, .tmp u]) (tmps : Array Value) (w : World) (g : Nat) (l : List Int) (hp : tmps.getD p undef = .pointer (some ⟨g, 0, none⟩)) (hat : At w g l) (hl : l.length = 8) :
    (results fn tmps).run Try.prog w = .ok (.tuple #[.agg (nm l), tmps.getD u undef]) w := results_name h tmps w g l hp hat hl
end Go.Proofs.Ytgggjhbijnndhaa
namespace Go.Proofs.Ytgggjhbijnndhaa
open Go.RowKit

theorem rNum_len {most x : Int} {l rest : List Int} (h : M.rNum most l = .got x rest) : rest.length ≤ l.length := by
  unfold M.rNum at h
  split at h
  · split at h
    · cases h
    · injection h with h1 h2
      rw [← h2]; simp
  · cases h
theorem rNum_err {most e : Int} {l : List Int} (h : M.rNum most l = .bad e) : e ≠ 0 := by
  unfold M.rNum at h
  split at h
  · split at h
    · injection h with h1; omega
    · cases h
  · injection h with h1
    rename_i hne
    rw [← h1]; exact hne
theorem rNum_range {most x : Int} {l rest : List Int} (hb : M.Bytes l) (h : M.rNum most l = .got x rest) : 0 ≤ x ∧ x < 18446744073709551616 := by
  unfold M.rNum at h
  split at h
  · split at h
    · cases h
    · injection h with h1 h2
      have := M.unv_range l 0 0 hb (by omega) (by omega) (by omega)
      rw [h1] at this
      exact this
  · cases h
end Go.Proofs.Ytgggjhbijnndhaa
namespace Go.Proofs.Ytgggjhbijnndhaa
open Go.RowKit

theorem At.alloc {w : World} {g : Nat} {l : List Int} (h : At w g l) (o : Obj) : At (w.alloc o) g l := h.below ((Below.refl _ _).alloc (Nat.le_refl _) _)
theorem At.set {w : World} {g x i : Nat} {l : List Int} (h : At w g l) (v : Value) (hn : g ≠ x) : At (w.setCell ⟨x, i, none⟩ v) g l := h.only (Only.set x i w v) hn
theorem results_one {fn : Func} {p : Tmp} (h : fn.results = #[.cell p 26]) (tmps : Array Value) (w : World) (g : Nat) (l : List Int) (hp : tmps.getD p undef = .pointer (some ⟨g, 0, none⟩)) (hat : At w g l) (hl : l.length = 8) :
    (results fn tmps).run Try.prog w = .ok (.agg (nm l)) w := results_cell_row h _ _ g 26 (nm l) (0, 0) _ hp hat Try.underlying26 rfl (size23n hl)
theorem BytesIn.alloc {R : Option Nat} {w : World} {v : Value} {l : List Int} (h : BytesIn R w v l) (o : Obj) : BytesIn R (w.alloc o) v l := h.below ((Below.refl _ _).alloc (Nat.le_refl _) _)
theorem two_new (w : World) (o : Obj) : At ((w.alloc o).alloc (.cells (nm M.zero8) 26)) (w.heap.size + 1) M.zero8 := two_last w o M.zero8
theorem alloc_size (w : World) (o : Obj) : (w.alloc o).heap.size = w.heap.size + 1 := by simp

end Go.Proofs.Ytgggjhbijnndhaa
namespace Go.Proofs.Ytgggjhbijnndhaa
namespace M
def Got.err {α : Type} : Got α → Int
  | .bad e => e
  | .got _ _ => 0
def Got.rst {α : Type} : Got α → List Int
  | .bad _ => []
  | .got _ r => r
def Got.val {α : Type} (z : α) : Got α → α
  | .bad _ => z
  | .got a _ => a
/-- A cursor with an error reads nothing more. -/
def gate {α : Type} (e : Int) (r : Got α) : Got α := if e = 0 then r else .bad e
theorem gate_ok {α : Type} (r : Got α) : gate 0 r = r := rfl
theorem gate_bad {α : Type} {e : Int} (he : e ≠ 0) (r : Got α) : gate e r = .bad e := if_neg he
end M
open Go.RowKit

theorem box_cell (w : World) (t : Nat) (v : Value) : (w.alloc (.cells #[v] t)).cell? ⟨w.heap.size, 0, none⟩ = some v := by simp
theorem new_below (w : World) (o : Obj) : Below w.heap.size w (w.alloc o) := (Below.refl _ _).alloc (Nat.le_refl _) _

theorem rName_bad {l : List Int} {e : Int} (h : M.rName l = .bad e) : e ≠ 0 := by
  cases l with
  | nil => injection h with h; omega
  | cons c r =>
    rw [M.rName_cons] at h
    split at h
    · injection h with h; omega
    · split at h
      · injection h with h; omega
      · split at h
        · injection h with h; omega
        · cases h
theorem rName_got {l m rest : List Int} (h : M.rName l = .got m rest) : m.length = 8 ∧ rest.length ≤ l.length := by
  cases l with
  | nil => cases h
  | cons c r =>
    rw [M.rName_cons] at h
    split at h
    · cases h
    · split at h
      · cases h
      · split at h
        · cases h
        · injection h with h1 h2
          rw [← h1, ← h2]
          exact ⟨M.pad_len _, by simp; omega⟩
end Go.Proofs.Ytgggjhbijnndhaa
namespace Go.Proofs.Ytgggjhbijnndhaa
open Go.RowKit

theorem owns_only {w w' : World} {B x e n : Nat} {v : Value} {xs : List Value} (h : w.ownsRow B e 1 v n xs) (ho : Only x w w') (hx : x < B) : w'.ownsRow B e 1 v n xs := by
  refine ⟨h.1, ?_⟩
  rcases h.2 with hn | ⟨g, cap, cur, rfl, hb, hgg, rest⟩
  · exact .inl hn
  · refine .inr ⟨g, cap, cur, rfl, hb, ?_, rest⟩
    rw [ho.block g (Array.getElem?_eq_some_iff.1 hgg).1 (by omega)]
    exact hgg
theorem owns_shape {w : World} {B e n : Nat} {v : Value} {xs : List Value} (h : w.ownsRow B e 1 v n xs) : ∃ a cap, v = .slice a n cap := by
  rcases h.2 with ⟨hv, hn⟩ | ⟨g, cap, cur, hv, _⟩
  · exact ⟨none, 0, by rw [hv, hn]⟩
  · exact ⟨_, _, hv⟩
theorem owns_empty (w : World) (base : Nat) (hb : base ≤ w.heap.size) : (w.alloc (.cells #[] 5)).ownsRow base 5 1 (.slice (some ⟨w.heap.size, 0, none⟩) 0 0) ([] : List Int).length (([] : List Int).map (Value.int .u8)) :=
  World.ownsRow_lit w #[] 0 hb (by decide) rfl
theorem owns_none (w : World) (base : Nat) : w.ownsRow base 5 1 (.slice none 0 0) ([] : List Int).length (([] : List Int).map (Value.int .u8)) := ⟨rfl, .inl ⟨rfl, rfl⟩⟩
theorem below_step {g : Nat} {w a b : World} (h : Below w.heap.size w a) (hb : Below g a b) (hg : g ≤ w.heap.size) : Below g w b := (h.mono hg).trans hb
end Go.Proofs.Ytgggjhbijnndhaa
namespace Go.Proofs.Ytgggjhbijnndhaa
open Go.RowKit

theorem bytesWorld_below (w : World) (e : TypeId) (s : ByteArray) : Below w.heap.size w (Lib.bytesWorld w e s) :=
  ⟨by unfold Lib.bytesWorld World.freeze; split <;> rfl, by unfold Lib.bytesWorld World.freeze; split <;> rfl, by unfold Lib.bytesWorld World.freeze; split <;> rfl, by rw [Lib.bytesWorld_size]; omega, fun k hk => Lib.bytesWorld_at_old w e s k hk⟩
theorem bytesWorld_bytes (w : World) (t : List Int) (cap : Nat) (hb : M.Bytes t) (hc : t.length ≤ cap) : BytesAt (Lib.bytesWorld w 5 (strOfNums t)) (.slice (some ⟨w.heap.size, 0, none⟩) t.length cap) t := by
  refine ⟨_, _, rfl, ⟨hc, fun h => by cases h⟩, hb, fun _ => ⟨w.heap.size, 0, rfl, by rw [Lib.bytesWorld_size]; omega, fun i hi => ?_⟩⟩
  have hsz : (strOfNums t).size = t.length := strOfNums_size t
  rw [Nat.zero_add, Lib.bytesWorld_cell w 5 _ i (by rw [hsz]; exact hi)]
  have hn := M.nums_str hb
  unfold M.nums at hn
  have hl : i < (strOfNums t).data.toList.length := by
    have := congrArg List.length hn
    rw [List.length_map] at this
    omega
  have h2 : ((strOfNums t).data.toList.map fun b => (b.toNat : Int))[i]? = t[i]? := by rw [hn]
  rw [List.getElem?_map, List.getElem?_eq_getElem hl, List.getElem?_eq_getElem hi] at h2
  simp only [Option.map_some, Option.some.injEq] at h2
  rw [List.getD_eq_getElem?_getD, List.getElem?_eq_getElem hl, ← h2]
  rfl
/-- A string's bytes, in a row of their own. -/
theorem wpList_bytesOf {ops : Array Oper} {rest : List Oper} {o : Oper} {a : Act} {w : World} {Q : Exit → Act → World → Prop} (hgd : o.guard = none) (x : Operand) (ho : o.op = .convert 9 85 x) (s : ByteArray) (t : List Int)
    (hx : a.eval x = .string s) (hs : s = strOfNums t) (hb : M.Bytes t)
    (h : ∀ cap w', Hid (BytesAt w' (.slice (some ⟨w.heap.size, 0, none⟩) t.length cap) t) → Hid (Below w.heap.size w w') → wpList Try.prog ops Q rest (a.put o.dst (.slice (some ⟨w.heap.size, 0, none⟩) t.length cap)) w') : wpList Try.prog ops Q (o :: rest) a w := by
  subst hs
  have hsz : (strOfNums t).size = t.length := strOfNums_size t
  have hr := Lib.run_convert_string_bytes (P := Try.prog) w 9 85 5 (strOfNums t) Try.underlying9 Try.underlying85 Try.underlying5
  rw [hsz] at hr
  exact wpList_plain hgd fun _ hK => by
    unfold Oper.wp execOp
    simp only [ho, hx, Sem.run_bind, hr, Result.andThen_ok, Sem.run_pure]
    exact hK _ _ (h _ _ (Lib.hid (bytesWorld_bytes w t _ hb (grownCap_ge w t.length 0 5))) (Lib.hid (bytesWorld_below w 5 _)))
end Go.Proofs.Ytgggjhbijnndhaa
namespace Go.Proofs.Ytgggjhbijnndhaa
open Go.RowKit

/-- A piece: what its fields hold. -/
structure Pc where
  d : Int
  x : Int
  c : Int
  m : List Int
  v : Value
  n : Int
  b : List Int
def Pc.cells (p : Pc) : List Value := .int .i64 p.d :: .int .u64 p.x :: .int .u8 p.c :: (p.m.map (Value.int .u8) ++ [p.v, .int .i64 p.n])
structure Pc.Ok (p : Pc) (w : World) : Prop where
  ml : p.m.length = 8
  mb : M.Bytes p.m
  x0 : 0 ≤ p.x
  x1 : p.x < 18446744073709551616
  c0 : 0 ≤ p.c
  c1 : p.c < 256
  n1 : p.n < 9223372036854775808
  vb : BytesAt w p.v p.b
theorem Pc.Ok.below {p : Pc} {w w' : World} (h : p.Ok w) (hb : Below w.heap.size w w') : p.Ok w' := ⟨h.ml, h.mb, h.x0, h.x1, h.c0, h.c1, h.n1, h.vb.below hb⟩
theorem cells_len {p : Pc} (h : p.m.length = 8) : p.cells.length = 13 := by simp [Pc.cells, h]
theorem cells0 (p : Pc) : p.cells[0]? = some (.int .i64 p.d) := rfl
theorem cells1 (p : Pc) : p.cells[1]? = some (.int .u64 p.x) := rfl
theorem cells2 (p : Pc) : p.cells[2]? = some (.int .u8 p.c) := rfl
theorem cells11 {p : Pc} (h : p.m.length = 8) : p.cells[11]? = some p.v := by simp [Pc.cells, h]
theorem cells12 {p : Pc} (h : p.m.length = 8) : p.cells[12]? = some (.int .i64 p.n) := by simp [Pc.cells, h]
theorem cells_name {p : Pc} (h : p.m.length = 8) (j : Nat) (hj : j < 8) : p.cells[3 + j]? = some (.int .u8 (p.m[j]'(by omega))) := by
  rw [show 3 + j = j + 3 by omega]
  simp only [Pc.cells, List.getElem?_cons_succ]
  rw [List.getElem?_append_left (by simp; omega), List.getElem?_map, List.getElem?_eq_getElem (by omega)]
  rfl
theorem range_name {w : World} {g o : Nat} {p : Pc} (hr : w.rangeAt g o p.cells) (h : p.m.length = 8) : w.rangeAt g (o + 3) (p.m.map (Value.int .u8)) := fun j v hv => by
  have hj : j < 8 := by
    have := (List.getElem?_eq_some_iff.1 hv).1
    simpa [h] using this
  rw [Nat.add_assoc, hr (3 + j) _ (cells_name h j hj)]
  rw [List.getElem?_map, List.getElem?_eq_getElem (by omega)] at hv
  exact hv
theorem one33 {p : Pc} (hv : p.v.oneCell' = true) : p.cells.toArray.all (·.oneCell') = true := by
  refine all_oneCell_toArray fun v hm => ?_
  unfold Pc.cells at hm
  rcases List.mem_cons.1 hm with rfl | hm
  · rfl
  · rcases List.mem_cons.1 hm with rfl | hm
    · rfl
    · rcases List.mem_cons.1 hm with rfl | hm
      · rfl
      · rcases List.mem_append.1 hm with hm | hm
        · obtain ⟨y, _, rfl⟩ := List.mem_map.1 hm; rfl
        · rcases List.mem_cons.1 hm with rfl | hm
          · exact hv
          · obtain rfl := List.mem_singleton.1 hm; rfl
theorem range_below {w w' : World} {g o : Nat} {cs : List Value} (h : w.rangeAt g o cs) (hg : g < w.heap.size) (hb : Below w.heap.size w w') : w'.rangeAt g o cs := fun j v hv => (hb.cell (p := ⟨g, o + j, none⟩) hg).trans (h j v hv)
end Go.Proofs.Ytgggjhbijnndhaa
namespace Go.Proofs.Ytgggjhbijnndhaa
open Go.RowKit

theorem wpList_load_nm {ops : Array Oper} {rest : List Oper} {op : Oper} {a : Act} {w : World} {Q : Exit → Act → World → Prop} (hgd : op.guard = none) (x : Operand) (ho : op.op = .load 26 x) (g o : Nat) (m : List Int)
    (hx : a.eval x = .pointer (some ⟨g, o, none⟩)) (hr : w.rangeAt g o (m.map (Value.int .u8))) (hm : m.length = 8) (h : wpList Try.prog ops Q rest (a.put op.dst (.agg (nm m))) w) : wpList Try.prog ops Q (op :: rest) a w :=
  wpList_load_mid hgd 26 x ho g o hx (m.map (Value.int .u8)) _ hr Try.underlying26 rfl (by rw [List.length_map, hm]; exact size23) h
/-- Cells stored one behind the other. -/
def setL : List Value → Nat → List Value → List Value
  | cs, _, [] => cs
  | cs, o, v :: r => setL (cs.set o v) (o + 1) r
theorem setL_get : ∀ (vs cs : List Value) (o i : Nat), o + vs.length ≤ cs.length → (setL cs o vs)[i]? = if o ≤ i ∧ i < o + vs.length then vs[i - o]? else cs[i]?
  | [], cs, o, i, _ => by rw [if_neg (by rw [List.length_nil]; omega)]; rfl
  | v :: r, cs, o, i, h => by
    rw [List.length_cons] at h
    rw [setL, setL_get r (cs.set o v) (o + 1) i (by rw [List.length_set]; omega), List.length_cons]
    by_cases h1 : o + 1 ≤ i ∧ i < o + 1 + r.length
    · rw [if_pos h1, if_pos (by omega), show i - o = (i - (o + 1)) + 1 by omega, List.getElem?_cons_succ]
    · rw [if_neg h1]
      by_cases h2 : i = o
      · subst h2
        rw [if_pos (by omega), List.getElem?_set_self (by omega), Nat.sub_self]
        rfl
      · rw [if_neg (by omega), List.getElem?_set_ne (by omega)]
theorem Blk.setCells {g t : Nat} : ∀ (vs : List Value) (o : Nat) (w : World) (cs : List Value), Blk w g t cs → Blk (w.setCells g o vs) g t (setL cs o vs)
  | [], _, _, _, h => h
  | v :: r, o, w, cs, h => by
    rw [World.setCells, setL]
    exact Blk.setCells r (o + 1) _ _ (h.set o v)
theorem Only.setCells {g : Nat} : ∀ (vs : List Value) (o : Nat) (w : World), Only g w (w.setCells g o vs)
  | [], _, w => Only.refl g w
  | v :: r, o, w => by
    rw [World.setCells]
    exact (Only.set g o w v).trans (Only.setCells r (o + 1) _)
theorem setL_all (cs vs : List Value) (h : cs.length = vs.length) : setL cs 0 vs = vs := by
  apply List.ext_getElem?
  intro i
  rw [setL_get vs cs 0 i (by omega)]
  by_cases hi : i < vs.length
  · rw [if_pos (by omega)]; rfl
  · rw [if_neg (by omega), List.getElem?_eq_none (by omega), List.getElem?_eq_none (by omega)]
theorem setL_name {q : Pc} (hq : q.m.length = 8) (m : List Int) (hm : m.length = 8) : setL q.cells 3 (m.map (Value.int .u8)) = ({ q with m := m } : Pc).cells := by
  apply List.ext_getElem?
  intro i
  have hl := cells_len hq
  rw [setL_get _ _ 3 i (by rw [List.length_map]; omega), List.length_map, hm]
  by_cases h1 : 3 ≤ i ∧ i < 3 + 8
  · rw [if_pos h1]
    obtain ⟨j, rfl⟩ : ∃ j, i = 3 + j := ⟨i - 3, by omega⟩
    rw [cells_name (p := { q with m := m }) hm j (by omega), show 3 + j - 3 = j by omega, List.getElem?_map, List.getElem?_eq_getElem (by omega)]
    rfl
  · rw [if_neg h1]
    by_cases h2 : i < 3
    · have : i = 0 ∨ i = 1 ∨ i = 2 := by omega
      rcases this with rfl | rfl | rfl <;> rfl
    · by_cases h3 : i = 11
      · subst h3; rw [cells11 hq, cells11 (p := { q with m := m }) hm]
      · by_cases h4 : i = 12
        · subst h4; rw [cells12 hq, cells12 (p := { q with m := m }) hm]
        · rw [List.getElem?_eq_none (by omega), List.getElem?_eq_none (by rw [cells_len (p := { q with m := m }) hm]; omega)]
theorem BytesAt.one {w : World} {v : Value} {l : List Int} (h : BytesAt w v l) : v.oneCell' = true := by
  obtain ⟨a, cap, rfl, _⟩ := h
  rfl
def Pc.enc (p : Pc) : List Int := M.enc p.d p.x p.c p.m p.b
end Go.Proofs.Ytgggjhbijnndhaa
namespace Go.Proofs.Ytgggjhbijnndhaa
open Go.RowKit

/-- A piece with nothing but its kind. -/
def blank (d : Int) : Pc := ⟨d, 0, 0, M.zero8, .slice none 0 0, 0, []⟩
theorem blank_ml (d : Int) : (blank d).m.length = 8 := rfl
/- CASES -/
namespace M
theorem Got.map_err {α β : Type} (f : α → β) (r : Got α) : (r.map f).err = r.err := by cases r <;> rfl
theorem Got.map_rst {α β : Type} (f : α → β) (r : Got α) : (r.map f).rst = r.rst := by cases r <;> rfl
theorem Got.map_val {α β : Type} (f : α → β) (r : Got α) (z : α) : (r.map f).val (f z) = f (r.val z) := by cases r <;> rfl
theorem gate_map {α β : Type} (f : α → β) (e : Int) (r : Got α) : gate e (r.map f) = (gate e r).map f := by
  unfold gate
  split <;> rfl
end M
/-- A piece as it was read. -/
def gotP (d : Int) (a : M.Val) (v : Value) : Pc := ⟨d, a.x, a.c, a.nm, v, 0, a.b⟩
theorem blk2 (w : World) (o : Obj) (t : Nat) (cs : List Value) : Blk ((w.alloc o).alloc (.cells cs.toArray t)) (w.heap.size + 1) t cs := by
  have := blk_alloc (w.alloc o) t cs
  rwa [alloc_size] at this
theorem blk3 (w : World) (o o' : Obj) (t : Nat) (cs : List Value) : Blk (((w.alloc o).alloc o').alloc (.cells cs.toArray t)) (w.heap.size + 2) t cs := by
  have := blk2 (w.alloc o) o' t cs
  rwa [alloc_size] at this
theorem name_len {e : Int} {l : List Int} : (((M.gate e (M.rName l)).val M.zero8)).length = 8 := by
  unfold M.gate
  split
  · cases h : M.rName l with
    | bad e => rfl
    | got m r => exact (rName_got h).1
  · rfl
end Go.Proofs.Ytgggjhbijnndhaa
namespace Go.Proofs.Ytgggjhbijnndhaa
open Go.RowKit

/-- append of bytes, as a step of a region that draws its order. -/
theorem step_app_bytes {ops : Array Oper} {o : Oper} {a : Act} {K : Act → World → Prop} {Q : Exit → Act → World → Prop} {E : Prop} (w : World) (hgd : o.guard = none) (s x : Operand)
    (ho : o.op = .call { callee := .builtin .append, args := #[s, x], argTypes := #[85, 85] }) (base : Nat) (v u : Value) (acc l : List Int)
    (hs : a.eval s = v) (hown : w.ownsRow base 5 1 v acc.length (acc.map (Value.int .u8))) (hx : a.eval x = u) (hu : BytesAt w u l) (hn : acc.length + l.length ≤ 30000) (hbase : base ≤ w.heap.size)
    (h : ∀ v' w', w'.ownsRow base 5 1 v' (acc ++ l).length ((acc ++ l).map (Value.int .u8)) → Below base w w' → K (a.put o.dst v') w') :
    if Region.wanted o (yielded ops a.tmps) = true then Oper.wp Try.prog o a w K Q else E := by
  have hw : Region.wanted o (yielded ops a.tmps) = true := by simp [Region.wanted, hgd]
  rw [if_pos hw]
  obtain ⟨i0, hi, hz0, hz1, hz2⟩ := info_parts info5
  obtain ⟨ad, cap, rfl, hcap, _, hc⟩ := hu
  rcases ad with _ | ad
  · have h0 : l = [] := by
      cases l with
      | nil => rfl
      | cons c r => obtain ⟨g, off, ha, _⟩ := hc (by simp); cases ha
    subst h0
    have hc0 := hcap.2 rfl
    subst hc0
    have hrun := run_append_owned_none (P := Try.prog) (w := w) base 85 o.type 5 i0 1 Try.underlying85 hi v _ _ hown
    have hx' : a.eval x = .slice none 0 0 := hx
    unfold Oper.wp
    simp [execOp, ho, resolve, invoke, builtin, hs, hx', hrun, Result.andThen]
    exact h v w (by simpa using hown) (Below.refl _ _)
  · refine wp_append_own w s x 85 ho base 5 i0 (.int .u8 0) 1 1 Try.underlying85 hi hz0 hz1 hz2 rfl (by decide) v _ _ hs hown ad l.length cap (l.map (Value.int .u8)) hx (by simp) ?_ ?_ ?_ ?_ hbase ?_
    · intro j y hy
      have hj : j < l.length := by
        rcases Nat.lt_or_ge j l.length with h | h
        · exact h
        · rw [List.getElem?_eq_none (by simpa using h)] at hy; cases hy
      obtain ⟨g, off, ha, _, hcell⟩ := hc (by omega)
      obtain rfl := Option.some.inj ha
      rw [add_at, hcell j hj]
      simp [hj] at hy
      rw [← hy]
    · intro y hy
      obtain ⟨c, _, rfl⟩ := List.mem_map.1 hy
      rfl
    · unfold maxLen; omega
    · omega
    · intro v' w' h1 h2 _
      refine h v' w' (by simpa using h1) ?_
      exact (Below.refl base w).grown h2 hbase (fun k hk => (hown.lt k hk).1)
theorem strCells_is (t : List Int) (hb : M.Bytes t) : Lib.strCells (strOfNums t) = t.map (Value.int .u8) := by
  have h := M.nums_str hb
  unfold M.nums at h
  have h2 := congrArg (List.map (Value.int .u8)) h
  rw [List.map_map] at h2
  exact h2
/-- append of a string's bytes. -/
theorem app_text {ops : Array Oper} {rest : List Oper} {o : Oper} {a : Act} {Q : Exit → Act → World → Prop} (w : World) (hgd : o.guard = none) (s x : Operand)
    (ho : o.op = .call { callee := .builtin .append, args := #[s, x], argTypes := #[85, 9] }) (base : Nat) (v : Value) (str : ByteArray) (acc t : List Int)
    (hs : a.eval s = v) (hown : w.ownsRow base 5 1 v acc.length (acc.map (Value.int .u8))) (hx : a.eval x = .string str) (hstr : str = strOfNums t) (hb : M.Bytes t) (hn : acc.length + t.length ≤ 30000) (hbase : base ≤ w.heap.size)
    (h : ∀ v' w', w'.ownsRow base 5 1 v' (acc ++ t).length ((acc ++ t).map (Value.int .u8)) → Below base w w' → wpList Try.prog ops Q rest (a.put o.dst v') w') :
    wpList Try.prog ops Q (o :: rest) a w := by
  subst hstr
  have hsz : (strOfNums t).size = t.length := strOfNums_size t
  obtain ⟨i0, hi, hz0, hz1, hz2⟩ := info_parts info5
  refine Lib.wpList_append_own_string (w := w) hgd s x 85 9 ho base 5 i0 Try.underlying85 Try.underlying9 hi hz0 hz1 hz2 v _ _ hs hown _ hx ?_ ?_ hbase ?_
  · rw [hsz]; unfold maxLen; omega
  · rw [hsz]; omega
  · intro v' w' h1 h2 _
    rw [hsz, strCells_is t hb] at h1
    exact h v' w' (by simpa using h1) ((Below.refl base w).grown h2 hbase (fun k hk => (hown.lt k hk).1))
theorem undrew {w w' : World} (h : Below w.drew.heap.size w.drew w') : Below w.heap.size w w' := ⟨h.os, h.tape, h.output, h.size, h.block⟩
end Go.Proofs.Ytgggjhbijnndhaa
namespace Go.Proofs.Ytgggjhbijnndhaa
open Go.RowKit

theorem rd_nm {d x n : Int} {l rest : List Int} {a : M.Val} (h : M.rd d x n l = .got a rest) : a.nm.length = 8 := by
  unfold M.rd at h
  split at h
  · cases hr : M.rNum x l with
    | bad e => rw [hr] at h; injection h
    | got y r =>
      rw [hr] at h
      injection h with h1 h2
      rw [← h1]; rfl
  · split at h
    · cases hr : M.rByte l with
      | bad e => rw [hr] at h; injection h
      | got y r =>
        rw [hr] at h
        injection h with h1 h2
        rw [← h1]; rfl
    · split at h
      · cases hr : M.rName l with
        | bad e => rw [hr] at h; injection h
        | got m r =>
          rw [hr] at h
          injection h with h1 h2
          rw [← h1]
          exact (rName_got hr).1
      · cases hr : M.rBytes n l with
        | bad e => rw [hr] at h; injection h
        | got y r =>
          rw [hr] at h
          injection h with h1 h2
          rw [← h1]; rfl
theorem set12 (p : Pc) (hm : p.m.length = 8) (k : Int) : p.cells.set 12 (.int .i64 k) = ({ p with n := k } : Pc).cells := by
  obtain ⟨d, x, c, m, v, n, b⟩ := p
  simp only [Pc.cells]
  have hm' : m.length = 8 := hm
  rw [List.set_cons_succ, List.set_cons_succ, List.set_cons_succ, List.set_append_right _ _ (by rw [List.length_map]; omega), List.length_map, hm']
  rfl
theorem run_load_int (w : World) (g off : Nat) (d : Int) (h : w.cell? ⟨g, off, none⟩ = some (.int .i64 d)) : (Instr.loadAt 3 (.pointer (some ⟨g, off, none⟩))).run Try.prog w = .ok (.int .i64 d) w := by
  simp [Instr.loadAt, Instr.sureAddr, loadVar, isAgg, run_underlying Try.underlying3, h]
/-- A piece's kind is loaded, in a region that draws its order. -/
theorem quiet_load_int {o : Oper} {a : Act} {W : World} {K : Act → Prop} (G off : Nat) (d : Int) (x : Operand) (ho : o.op = .load 3 x) (hx : a.eval x = .pointer (some ⟨G, off, none⟩)) (hat : W.cell? ⟨G, off, none⟩ = some (.int .i64 d))
    (hk : K (a.put o.dst (.int .i64 d))) : o.quiet Try.prog a (Cls W) K := by
  refine ⟨.int .i64 d, fun w hw => ?_, hk⟩
  obtain ⟨t, rfl⟩ := hw
  have h := run_load_int t.1 G off d ((t.2.cell (p := ⟨G, off, none⟩) (World.block_lt_of_cell? W _ hat)).trans hat)
  unfold Oper.quietAt
  have e : (execOp a.eval o).run Try.prog t.1 = .ok (.value (.int .i64 d)) t.1 := by
    simp [execOp, ho, hx, h]
  rw [e]
  exact ⟨rfl, rfl⟩
end Go.Proofs.Ytgggjhbijnndhaa
