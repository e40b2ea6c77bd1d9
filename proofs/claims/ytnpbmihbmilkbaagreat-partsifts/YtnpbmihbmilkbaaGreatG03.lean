/- What Low and Part of package bit answer, and how the model's words for shifts and masks come to it. The contracts of Low, Part and Size, and of Power of the reference: they only compute. Slices of bytes that read as lists; the contract of Same of the reference. The contracts of Var of package pack and of what it calls. append onto a row of bytes of the call's own; the contract of Var of the reference. Names as values; the worlds later than a world; the laws of a region that draws its order and whose calls make memory. -/
import Derived.Test.YtnpbmihbmilkbaaGreatG01
import Derived.Test.YtnpbmihbmilkbaaGreatProg
import Derived.WalkKit
import Derived.Laws.BitsAllLaws
import Derived.Lib.Hide
import Derived.WalkSpells
import Derived.WalkLawsBesides
import Derived.Deep.QuietTactic
import Derived.BigQuiet
import Derived.Below
import Derived.Laws.OwnMore
import Derived.Deep.Draws
import Derived.Deep.OwnRows
import Derived.Deep.AppendLies
import Derived.Laws.AppendOwn
import Derived.Laws.AppendOwnNone
import Derived.OwnWalk
import Derived.Deep.WholeRow
import Derived.ChangeKeysEq
import Derived.Laws.CopyOwn
import Derived.Laws.Rows
namespace Go.Proofs.YtnpbmihbmilkbaaGreat
open Go.RowKit
def lo (x n : Int) : Int := if n < 1 then 0 else if 63 < n then x else x % 2 ^ n.toNat
def part (x f n : Int) : Int := if 63 < f then 0 else lo (x / 2 ^ (max f 0).toNat) n
def U64 (x : Int) : Prop := 0 ≤ x ∧ x < 18446744073709551616
theorem nat64 {x : Int} (h0 : 0 ≤ x) (h1 : x < 18446744073709551616) : x.toNat < 2 ^ 64 := by omega
theorem pow_pos (k : Nat) : (0 : Int) < 2 ^ k := by have := Int.pow_pos (n := (2 : Int)) (m := k) (by omega); exact this
theorem pow_lt (k : Nat) (h : k < 64) : (2 : Int) ^ k < 18446744073709551616 := by
  have : (2 : Nat) ^ k < 2 ^ 64 := Nat.pow_lt_pow_right (by omega) h
  have e : ((2 ^ k : Nat) : Int) = (2 : Int) ^ k := by rw [Int.natCast_pow]; rfl
  rw [← e]; omega
theorem pow_nat (k : Nat) : ((2 ^ k : Nat) : Int) = (2 : Int) ^ k := by rw [Int.natCast_pow]; rfl
theorem div_U64 (x : Int) (k : Nat) (h0 : 0 ≤ x) (h1 : x < 18446744073709551616) : U64 (x / 2 ^ k) := by
  have hp := pow_pos k
  have h2 := Int.ediv_nonneg h0 (show 0 ≤ (2 : Int) ^ k by omega)
  have h3 : x / 2 ^ k ≤ x := Int.ediv_le_self _ h0
  unfold U64; omega
theorem low_spell (x n : Int) (h0 : 0 ≤ x) (h1 : x < 18446744073709551616) (hn : 1 ≤ n) (hn2 : n < 64) :
    bits .and .u64 x (IntKind.u64.wrap (IntKind.u64.wrap (2 ^ n.toNat) - 1)) = lo x n := by
  have hp := pow_pos n.toNat
  have hl := pow_lt n.toNat (by omega)
  have e : IntKind.u64.wrap (IntKind.u64.wrap (2 ^ n.toNat) - 1) = 2 ^ n.toNat - 1 := by
    rw [IntKind.wrap_u64, IntKind.wrap_u64]; omega
  rw [e, u64_and x _ h0 h1 (by omega) (by omega)]
  have e2 : ((2 : Int) ^ n.toNat - 1).toNat = 2 ^ n.toNat - 1 := by
    have := pow_nat n.toNat; have h2 := Nat.two_pow_pos n.toNat; omega
  rw [e2, Nat.and_two_pow_sub_one_eq_mod]
  unfold lo; rw [if_neg (by omega), if_neg (by omega), ← pow_nat, Int.natCast_emod, Int.toNat_of_nonneg h0]
theorem lo_zero (n : Int) : lo 0 n = 0 := by unfold lo; split; rfl; split; rfl; simp
theorem part_big (x f n : Int) (h : 63 < f) : part x f n = 0 := by unfold part; rw [if_pos h]
theorem part_small (x f n : Int) (h : f ≤ 63) : part x f n = lo (x / 2 ^ (max f 0).toNat) n := by unfold part; rw [if_neg (by omega)]
theorem big_div (x : Int) (h0 : 0 ≤ x) (h1 : x < 18446744073709551616) : x / 18446744073709551616 = 0 := by omega
theorem mul_nat (x : Int) (k : Nat) (h0 : 0 ≤ x) : IntKind.u64.wrap (x * 2 ^ k) = ((x.toNat * 2 ^ k % 2 ^ 64 : Nat) : Int) := by
  rw [IntKind.wrap_u64, Int.natCast_emod, Int.natCast_mul, pow_nat, Int.toNat_of_nonneg h0]; rfl
theorem div_nat (x : Int) (k : Nat) (h0 : 0 ≤ x) : x / 2 ^ k = ((x.toNat / 2 ^ k : Nat) : Int) := by
  rw [Int.natCast_ediv, pow_nat, Int.toNat_of_nonneg h0]
theorem or_add (x c : Int) (k : Nat) (h0 : 0 ≤ x) (h1 : x < 2 ^ k) (hc : 0 ≤ c) (hx : x < 18446744073709551616) (hm : c * 2 ^ k < 18446744073709551616) : bits .or .u64 x (IntKind.u64.wrap (c * 2 ^ k)) = x + c * 2 ^ k := by
  have hp := pow_pos k
  have h2 := Int.mul_nonneg hc (show (0 : Int) ≤ 2 ^ k by omega)
  have e : IntKind.u64.wrap (c * 2 ^ k) = c * 2 ^ k := by rw [IntKind.wrap_u64]; omega
  rw [e, u64_or _ _ h0 hx h2 hm, Nat.or_comm]
  obtain ⟨d, rfl⟩ := Int.eq_ofNat_of_zero_le hc
  have e2 : ((d : Int) * 2 ^ k).toNat = d * 2 ^ k := by rw [← pow_nat, ← Int.natCast_mul, Int.toNat_natCast]
  have h3 : x.toNat < 2 ^ k := by have := pow_nat k; omega
  rw [e2, nat_join k _ _ (Nat.mul_mod_left ..) h3, Int.natCast_add, Int.natCast_mul, pow_nat]
  omega
theorem or_more (g : Int) (h0 : 0 ≤ g) (h1 : g < 128) : bits .or .u8 g 128 = g + 128 := by
  rw [u8_or _ _ h0 (by omega) (by omega) (by omega), Nat.or_comm, nat_join 7 _ _ (by decide) (show g.toNat < 2 ^ 7 by omega)]
  omega
end Go.Proofs.YtnpbmihbmilkbaaGreat
namespace Go.Proofs.YtnpbmihbmilkbaaGreat
open Go.RowKit
theorem ret_int {k : IntKind} {a b : Int} (h : a = b) : Ending.returned (.int k a) = .returned (.int k b) := by rw [h]
theorem ret_bool {a b : Bool} (h : a = b) : Ending.returned (.bool a) = .returned (.bool b) := by rw [h]
theorem max_low (f : Int) (h : f ≤ 0) : max f 0 = 0 := Int.max_eq_right h
theorem max_up (f : Int) (h : 0 ≤ f) : max f 0 = f := Int.max_eq_left h
end Go.Proofs.YtnpbmihbmilkbaaGreat
namespace Go.Proofs.YtnpbmihbmilkbaaGreat
open Go.RowKit
theorem below_drewN {B : Nat} {a w : World} (h : Below B a w) (n : Nat) : Below B a (w.drewN n) := ⟨h.os, h.tape, h.output, h.size, h.block⟩
/-- The value v is a slice that holds the bytes l. -/
def BytesAt (w : World) (v : Value) (l : List Int) : Prop :=
  ∃ a cap, v = .slice a l.length cap ∧ (l.length ≤ cap ∧ (a = none → cap = 0)) ∧ M.Bytes l ∧ (0 < l.length → ∃ g off, a = some ⟨g, off, none⟩ ∧ g < w.heap.size ∧ ∀ i (h : i < l.length), w.cell? ⟨g, off + i, none⟩ = some (.int .u8 l[i]))
theorem BytesAt.keep {w w' : World} {B : Nat} {v : Value} {l : List Int} (h : BytesAt w v l) (hB : w.heap.size ≤ B) (hb : Below B w w') : BytesAt w' v l := by
  obtain ⟨a, cap, hv, hcap, hr, hc⟩ := h
  refine ⟨a, cap, hv, hcap, hr, fun h0 => ?_⟩
  obtain ⟨g, off, ha, hg, hcell⟩ := hc h0
  exact ⟨g, off, ha, Nat.lt_of_lt_of_le hg hb.size, fun i hi => (hb.cell (p := ⟨g, off + i, none⟩) (Nat.lt_of_lt_of_le hg hB)).trans (hcell i hi)⟩
theorem BytesAt.below {w w' : World} {v : Value} {l : List Int} (h : BytesAt w v l) (hb : Below w.heap.size w w') : BytesAt w' v l := h.keep (Nat.le_refl _) hb
theorem bytes_nil (w : World) : BytesAt w (.slice none 0 0) [] := ⟨none, 0, rfl, ⟨Nat.le_refl _, fun _ => rfl⟩, (fun x hx => by cases hx), (fun h => by simp at h)⟩
theorem bytes_of_owns {w : World} {B : Nat} {v : Value} {l : List Int} (h : w.ownsRow B 5 1 v l.length (l.map (Value.int .u8))) (hr : M.Bytes l) : BytesAt w v l := by
  have h' := h
  obtain ⟨_, h2⟩ := h
  rcases h2 with ⟨hv, h0⟩ | ⟨g, cap, cur, hv, hg, hh, hc, _⟩
  · exact ⟨none, 0, by rw [hv, h0], ⟨by omega, fun _ => rfl⟩, hr, fun hl => by omega⟩
  · subst hv
    refine ⟨_, cap, rfl, ⟨hc, fun h => by cases h⟩, hr, fun _ => ⟨g, 0, rfl, (Array.getElem?_eq_some_iff.1 hh).1, fun i hi => ?_⟩⟩
    rw [Nat.zero_add, h'.cellAt i (by omega)]; simp [hi]
end Go.Proofs.YtnpbmihbmilkbaaGreat
namespace Go.Proofs.YtnpbmihbmilkbaaGreat
open Go.RowKit
theorem info5 : (Tryz.prog.info? 5).map (fun i => (i.zero, i.size, i.bytes)) = some (some (.int .u8 0), 1, 1) := by kernel_rfl
/-- What holds at each round's head of fill: the first k bytes of l lie in the row, the others are 0. -/
def FR (l : List Int) (w : World) (i : Value) (wr : World) : Prop :=
  ∃ k : Nat, k ≤ l.length ∧ i = .int .i64 k ∧ wr.rowIs w.heap.size 5 l.length (fun j => .int .u8 (if j < k then l.getD j 0 else 0)) ∧ Below w.heap.size w wr
theorem row_bytes {w wr : World} {l : List Int} {f : Nat → Value} (h : wr.rowIs w.heap.size 5 l.length f) (hb : M.Bytes l) (hf : ∀ j, j < l.length → f j = .int .u8 (l.getD j 0)) : BytesAt wr (.slice (some ⟨w.heap.size, 0, none⟩) l.length l.length) l :=
  ⟨_, _, rfl, ⟨Nat.le_refl _, fun h => by cases h⟩, hb, fun _ => ⟨w.heap.size, 0, rfl, h.lt, fun i hi => by
    rw [Nat.zero_add, h.cell hi, hf i hi, List.getD_eq_getElem?_getD, List.getElem?_eq_getElem hi]; rfl⟩⟩
theorem row_step {w wr : World} {l : List Int} {k : Nat} {c : Int} (h : wr.rowIs w.heap.size 5 l.length (fun j => .int .u8 (if j < k then l.getD j 0 else 0))) (hc : l.getD k 0 = c) :
    (wr.setCell ⟨w.heap.size, k, none⟩ (.int .u8 c)).rowIs w.heap.size 5 l.length (fun j => .int .u8 (if j < k + 1 then l.getD j 0 else 0)) := by
  refine (h.set k (.int .u8 c)).congr fun j _ => ?_
  by_cases e : j = k
  · subst e; rw [if_pos rfl, if_pos (by omega), hc]
  · rw [if_neg e]
    by_cases hl : j < k
    · rw [if_pos hl, if_pos (by omega)]
    · rw [if_neg hl, if_neg (by omega)]
theorem part7 (x : Int) (i : Nat) (hi : i ≤ 9) : part x (7 * (i : Int)) 7 = x / 2 ^ (7 * i) % 128 := by
  rw [part_small _ _ _ (by omega), max_up _ (by omega), show (7 * (i : Int)).toNat = 7 * i by omega]
  unfold lo
  rw [if_neg (by omega), if_neg (by omega)]; rfl
def GivesBytes (w : World) (l : List Int) (e : Ending) (w' : World) : Prop := ∃ v, e = .returned v ∧ BytesAt w' v l ∧ Below w.heap.size w w'
end Go.Proofs.YtnpbmihbmilkbaaGreat
namespace Go.Proofs.YtnpbmihbmilkbaaGreat
open Go.RowKit
theorem add_at (g off j : Nat) : (⟨g, off, none⟩ : Addr).add j = ⟨g, off + j, none⟩ := by
  unfold Addr.add
  by_cases h : j = 0 <;> simp [h]
theorem owns_below {w w' : World} {B e n : Nat} {v : Value} {xs : List Value} (h : w.ownsRow B e 1 v n xs) (hb : Below w.heap.size w w') : w'.ownsRow B e 1 v n xs :=
  h.kept (row := none) ⟨hb.os, hb.tape, hb.output, hb.size, fun k hk _ => hb.block k hk⟩ (by cases hv : v.ownBlock <;> simp)
/-- append of bytes to a row of bytes of the call's own. -/
theorem app_bytes {ops : Array Oper} {rest : List Oper} {o : Oper} {a : Act} {Q : Exit → Act → World → Prop} (w : World) (hgd : o.guard = none) (s x : Operand)
    (ho : o.op = .call { callee := .builtin .append, args := #[s, x], argTypes := #[74, 74] }) (base : Nat) (v u : Value) (acc l : List Int)
    (hs : a.eval s = v) (hown : w.ownsRow base 5 1 v acc.length (acc.map (Value.int .u8))) (hx : a.eval x = u) (hu : BytesAt w u l) (hn : acc.length + l.length ≤ 30000) (hbase : base ≤ w.heap.size)
    (h : ∀ v' w', w'.ownsRow base 5 1 v' (acc ++ l).length ((acc ++ l).map (Value.int .u8)) → Below base w w' → wpList Tryz.prog ops Q rest (a.put o.dst v') w') :
    wpList Tryz.prog ops Q (o :: rest) a w := by
  obtain ⟨i0, hi, hz0, hz1, hz2⟩ := info_parts info5
  obtain ⟨ad, cap, rfl, hcap, _, hc⟩ := hu
  rcases ad with _ | ad
  · have h0 : l = [] := by
      cases l with
      | nil => rfl
      | cons c r => obtain ⟨g, off, ha, _⟩ := hc (by simp); cases ha
    subst h0
    have hc0 := hcap.2 rfl
    subst hc0
    refine wpList_append_own_none hgd s x 74 ho base 5 i0 1 Tryz.underlying74 hi v _ _ hs hown hx ?_
    exact h v w (by simpa using hown) (Below.refl _ _)
  · refine wpList_append_own _ hgd s x 74 ho base 5 i0 (.int .u8 0) 1 1 Tryz.underlying74 hi hz0 hz1 hz2 rfl (by decide) v _ _ hs hown ad l.length cap (l.map (Value.int .u8)) hx (by simp) ?_ ?_ ?_ ?_ hbase ?_
    · intro j y hy
      have hj : j < l.length := by
        rcases Nat.lt_or_ge j l.length with h | h
        · exact h
        · rw [List.getElem?_eq_none (by simpa using h)] at hy; cases hy
      obtain ⟨g, off, ha, _, hcell⟩ := hc (by omega)
      obtain rfl := Option.some.inj ha
      rw [add_at, hcell j hj]
      simp [hj] at hy
      rw [← hy]
    · intro y hy
      obtain ⟨c, _, rfl⟩ := List.mem_map.1 hy
      rfl
    · unfold maxLen; omega
    · omega
    · intro v' w' h1 h2 _
      refine h v' w' (by simpa using h1) ?_
      exact (Below.refl base w).grown h2 hbase (fun k hk => (hown.lt k hk).1)
theorem owns_one (w : World) (c : Int) (base : Nat) (hb : base ≤ w.heap.size) : (w.alloc (.cells #[.int .u8 c] 5)).ownsRow base 5 1 (.slice (some ⟨w.heap.size, 0, none⟩) 1 1) [c].length ([c].map (Value.int .u8)) :=
  World.ownsRow_lit w #[.int .u8 c] 1 hb (by decide) rfl
theorem bytes_one (w : World) (c : Int) (h0 : 0 ≤ c) (h1 : c < 256) : BytesAt (w.alloc (.cells #[.int .u8 c] 5)) (.slice (some ⟨w.heap.size, 0, none⟩) 1 1) [c] :=
  bytes_of_owns (owns_one w c w.heap.size (Nat.le_refl _)) (fun y hy => by obtain rfl := List.mem_singleton.1 hy; exact ⟨h0, h1⟩)
def GivesOwn (w : World) (l : List Int) (e : Ending) (w' : World) : Prop := ∃ v, e = .returned v ∧ w'.ownsRow w.heap.size 5 1 v l.length (l.map (Value.int .u8)) ∧ Below w.heap.size w w'
end Go.Proofs.YtnpbmihbmilkbaaGreat
namespace Go.Proofs.YtnpbmihbmilkbaaGreat
open Go.RowKit
theorem step_ {w a b : World} (h : Below w.heap.size w a) (k : Below a.heap.size a b) : Below w.heap.size w b := h.trans (k.mono h.size)
/-- A name's cells. -/
def nm (l : List Int) : Array Value := (l.map (Value.int .u8)).toArray
theorem nm_size (l : List Int) : (nm l).size = l.length := by simp [nm]
theorem nm_at (l : List Int) (i : Nat) (h : i < l.length) : (nm l)[i]? = some (.int .u8 l[i]) := by simp [nm, h]
theorem nm_one (l : List Int) : (nm l).all (·.oneCell') = true := by
  rw [Array.all_eq_true_iff_forall_mem]
  intro x hx
  simp only [nm, List.mem_toArray, List.mem_map] at hx
  obtain ⟨j, _, rfl⟩ := hx
  rfl
theorem nm_of {cs : Array Value} {l : List Int} (hs : cs.size = l.length) (h : ∀ i (hi : i < l.length), cs[i]? = some (.int .u8 l[i])) : cs = nm l := by
  apply Array.ext_getElem?
  intro i
  by_cases hi : i < l.length
  · rw [h i hi, nm_at l i hi]
  · rw [Array.getElem?_eq_none (by omega), Array.getElem?_eq_none (by rw [nm_size]; omega)]
theorem info23 : (Tryz.prog.info? 40).map (fun i => (i.zero, i.size)) = some (some (.agg (nm M.zero8)), 8) := by kernel_rfl
theorem size23 : (Tryz.prog.info? 40).map (·.size) = some 8 := (zero_of_info info23).2
theorem zero23 (w : World) : (zeroValue 40).run Tryz.prog w = .ok (.agg (nm M.zero8)) w := (zero_of_info info23).1 w
theorem size23n {l : List Int} (h : l.length = 8) : (Tryz.prog.info? 40).map (·.size) = some (nm l).size := by rw [nm_size, h]; exact size23
theorem cells5 : Tryz.prog.cellsOf 5 = 1 := by kernel_rfl
theorem info5e : ∃ i, Tryz.prog.info? 5 = some i := by
  have h : (Tryz.prog.info? 5).isSome = true := by kernel_rfl
  exact Option.isSome_iff_exists.1 h
theorem part_nm (l : List Int) (i : Nat) (h : i < l.length) (w : World) : (Go.part 5 (nm l) i).run Tryz.prog w = .ok (.int .u8 l[i]) w := by
  simp [Go.part, nm_at l i h]
theorem eq_items (a b : List Int) (ha : a.length = 8) (hb : b.length = 8) (d : Nat) (w : World) : ∀ (k i : Nat), i + k = 8 → (Op.eqItems (d + 1) 5 1 (nm a) (nm b) (List.range' i k)).run Tryz.prog w = .ok (a.drop i == b.drop i) w
  | 0, i, h => by
    have e1 : a.drop i = [] := List.drop_eq_nil_of_le (by omega)
    have e2 : b.drop i = [] := List.drop_eq_nil_of_le (by omega)
    rw [e1, e2]
    rfl
  | k + 1, i, h => by
    rw [List.range'_succ, Op.eqItems]
    simp only [Sem.run_bind, Nat.mul_one, part_nm a i (by omega), part_nm b i (by omega), Result.andThen_ok, run_equalIn_int w d 5 .u8 .u8 _ _ Tryz.underlying5]
    rw [List.drop_eq_getElem_cons (by omega : i < a.length), List.drop_eq_getElem_cons (by omega : i < b.length), List.cons_beq_cons]
    cases hq : (a[i] == b[i])
    · simp
    · simp [eq_items a b ha hb d w k (i + 1) (by omega)]
theorem eql23 (a b : List Int) (ha : a.length = 8) (hb : b.length = 8) (d : Nat) (w : World) : (Op.equalIn (d + 2) 40 (.agg (nm a)) (.agg (nm b))).run Tryz.prog w = .ok (a == b) w := by
  obtain ⟨j, hj⟩   := info5e
  rw [run_equalIn_array w (d + 1) _ _ Tryz.underlying40 hj, cells5, List.range_eq_range', eq_items a b ha hb d w 8 0 rfl]
  rfl
/-- The worlds later than W: what lay in W lies there. -/
def Later (W : World) : Type := { w : World // Below W.heap.size W w }
instance (W : World) : Nonempty (Later W) := ⟨⟨W, Below.refl _ _⟩⟩
abbrev Cls (W : World) : World → Prop := fun w => ∃ t : Later W, w = t.1
theorem later_call {W : World} {t : Later W} {f : FuncId} {args : Array Value} {v : Value} (h : Calls Tryz.prog f args t.1 fun e w' => e = .returned v ∧ Below t.1.heap.size t.1 w') :
    Calls Tryz.prog f args t.1 fun e w' => e = .returned v ∧ ∃ t' : Later W, w' = t'.1 :=
  h.mono fun _ w' ⟨he, hb⟩ => ⟨he, ⟨w', step_ t.2 hb⟩, rfl⟩
theorem below_drew {B : Nat} {a w : World} (h : Below B a w) : Below B a w.drew := ⟨h.os, h.tape, h.output, h.size, h.block⟩
theorem region_later {ops : List Oper} {id : Nat} {Q : Exit → Act → World → Prop} {a : Act} {W : World} (hm : Tryz.prog.follows .mixedOrders = true) (hB : Region.lexB .any ops.toArray = true)
    (h : wpQuiet Tryz.prog ops.toArray (Cls W) (fun a' => ∀ w', Below W.heap.size W w' → Q .normal a' w') ops a) : (Code.region id ops.toArray true).wp Tryz.prog Q a W := by
  refine wp_region_quiet (C := Cls W) hm hB ⟨⟨W.drew, below_drew (Below.refl _ _)⟩, rfl⟩ ?_
  have : wpQuiet Tryz.prog ops.toArray (Cls W) (fun a' => ∀ w', Below W.heap.size W w' → Q .normal a' w') ops.toArray.toList a := h
  have e : (fun a' => ∀ w', Below W.heap.size W w' → Q .normal a' w') = (fun a' => ∀ w', Cls W w' → Q .normal a' w') := by
    funext a'
    apply propext
    exact ⟨fun h w' ⟨t, ht⟩ => by rw [ht]; exact h _ t.2, fun h w' hw => h w' ⟨⟨w', hw⟩, rfl⟩⟩
  rw [e] at this
  exact this
/-- A name that lies in a block of its own. -/
def At (w : World) (g : Nat) (l : List Int) : Prop := w.heap[g]? = some (.cells (nm l) 40)
theorem At.lt {w : World} {g : Nat} {l : List Int} (h : At w g l) : g < w.heap.size := (Array.getElem?_eq_some_iff.1 h).1
theorem At.below {w w' : World} {g : Nat} {l : List Int} (h : At w g l) (hb : Below w.heap.size w w') : At w' g l := by
  have hl := h.lt
  unfold At at *
  rw [hb.block g hl]
  exact h
theorem At.load {w : World} {g : Nat} {l : List Int} (h : At w g l) (hl : l.length = 8) : (Instr.loadAt 40 (.pointer (some ⟨g, 0, none⟩))).run Tryz.prog w = .ok (.agg (nm l)) w := by
  simp only [Instr.loadAt, Instr.sureAddr, Sem.run_bind, Sem.run_pure, Result.andThen]
  exact run_loadVar_row _ _ 40 40 (nm l) (0, 0) _ h Tryz.underlying40 rfl (size23n hl)
theorem At.cell {w : World} {g : Nat} {l : List Int} (h : At w g l) (i : Nat) (hi : i < l.length) : w.cell? ⟨g, i, none⟩ = some (.int .u8 l[i]) := by
  rw [cell_of_row _ g i (nm l) 40 (0, 0) h]
  exact nm_at l i hi
theorem at_alloc (w : World) (l : List Int) : At (w.alloc (.cells (nm l) 40)) w.heap.size l := heap_alloc_last w _
/-- A whole name is loaded, in a region that draws its order. -/
theorem quiet_load {o : Oper} {a : Act} {W : World} {K : Act → Prop} (g : Nat) (l : List Int) (x : Operand) (ho : o.op = .load 40 x) (hx : a.eval x = .pointer (some ⟨g, 0, none⟩)) (hat : At W g l) (hl : l.length = 8)
    (hk : K (a.put o.dst (.agg (nm l)))) : o.quiet Tryz.prog a (Cls W) K := by
  refine ⟨.agg (nm l), fun w hw => ?_, hk⟩
  obtain ⟨t, rfl⟩ := hw
  have h := (hat.below t.2).load hl
  unfold Oper.quietAt
  have e : (execOp a.eval o).run Tryz.prog t.1 = .ok (.value (.agg (nm l))) t.1 := by
    simp [execOp, ho, hx, h]
  rw [e]
  exact ⟨rfl, rfl⟩
end Go.Proofs.YtnpbmihbmilkbaaGreat
