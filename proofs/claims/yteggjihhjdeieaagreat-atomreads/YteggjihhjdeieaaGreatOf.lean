/- The contract of Of of package name. -/
import Derived.Test.YteggjihhjdeieaaGreatRight
import Derived.Laws.ResultCell
import Derived.Lib.Bytes
namespace Go.Proofs.YteggjihhjdeieaaGreat
open Go.RowKit

def okL (b : Bool) (l : List Int) : List Int := if b = true then l else M.zero8
def okE (b : Bool) : Int := if b = true then 0 else 3
theorem results_name {fn : Func} {p u : Tmp} (h : fn.results = #[.cell p 24, .tmp u]) (tmps : Array Value) (w : World) (g : Nat) (l : List Int) (hp : tmps.getD p undef = .pointer (some ⟨g, 0, none⟩)) (hat : At w g l) (hl : l.length = 8) :
    (results fn tmps).run Tryz.prog w = .ok (.tuple #[.agg (nm l), tmps.getD u undef]) w := by
  rw [results_cell_tmp h, hp]
  have := run_loadVar_row (P := Tryz.prog) w g 24 24 (nm l) (0, 0) _ hat Tryz.underlying24 rfl (size23n hl)
  simp [asAddr, this]
theorem str_eq {l m : List Int} (hl : M.Bytes l) (hm : M.Bytes m) : ((strOfNums l).toList == (strOfNums m).toList) = (l == m) := by
  rw [Lib.strOfNums_toList, Lib.strOfNums_toList, Bool.eq_iff_iff, beq_iff_eq, beq_iff_eq]
  refine ⟨fun h => ?_, fun h => by rw [h]⟩
  rw [← M.nums_str hl, ← M.nums_str hm]
  unfold M.nums
  rw [strOfNums_data, strOfNums_data]
  exact congrArg (List.map fun b : UInt8 => (b.toNat : Int)) h
/-- An operation behind a guard that says yes. -/
theorem wanted_on {P : Program} {ops : Array Oper} {Q : Exit → Act → World → Prop} {a : Act} {w : World} {rest : List Oper} {o : Oper}
    (hw : Region.wanted o (yielded ops a.tmps) = true) (h : wpList P ops Q ({ o with guard := none } :: rest) a w) : wpList P ops Q (o :: rest) a w := by
  have hw2 : Region.wanted { o with guard := none } (yielded ops a.tmps) = true := by simp [Region.wanted]
  unfold wpList at h ⊢
  rw [if_pos hw2] at h
  rw [if_pos hw]
  exact h
theorem below_at {w w' : World} {g : Nat} {l : List Int} {B : Nat} (h : At w g l) (hb : Below B w w') (hg : g < B) : At w' g l := by
  unfold At at *
  rw [hb.block g hg]
  exact h
/-- A whole name is stored, in a region that keeps its order. -/
theorem wpList_store_name {ops : Array Oper} {rest : List Oper} {o : Oper} {a : Act} {w : World} {Q : Exit → Act → World → Prop} (hgd : o.guard = none) (x y : Operand) (ho : o.op = .store 24 x y) (g : Nat) (l m : List Int)
    (hx : a.eval x = .pointer (some ⟨g, 0, none⟩)) (hy : a.eval y = .agg (nm m)) (hat : At w g l) (hl : l.length = 8) (hm : m.length = 8)
    (h : ∀ w', Hid (At w' g m) → Hid (∀ k q, k ≠ g → At w k q → At w' k q) → Hid (∀ B w0, B ≤ g → Below B w0 w → Below B w0 w') → wpList Tryz.prog ops Q rest (a.put o.dst undef) w') : wpList Tryz.prog ops Q (o :: rest) a w :=
  wpList_store_row hgd 24 x y ho g (nm m) hx hy 24 (nm l) hat (size23n hm) (by rw [nm_size, nm_size, hl, hm]) (nm_one m)
    (h _ (Lib.hid (at_setRow_same hat)) (Lib.hid fun _ _ hk hq => at_setRow _ hq hk) (Lib.hid fun _ _ hB hb => below_setRow hb hB _))
theorem wpList_load_name {ops : Array Oper} {rest : List Oper} {o : Oper} {a : Act} {w : World} {Q : Exit → Act → World → Prop} (hgd : o.guard = none) (x : Operand) (ho : o.op = .load 24 x) (g : Nat) (l : List Int)
    (hx : a.eval x = .pointer (some ⟨g, 0, none⟩)) (hat : At w g l) (hl : l.length = 8) (h : wpList Tryz.prog ops Q rest (a.put o.dst (.agg (nm l))) w) : wpList Tryz.prog ops Q (o :: rest) a w :=
  wpList_load_row hgd 24 x ho g hx 24 (nm l) (0, 0) _ hat Tryz.underlying24 rfl (size23n hl) h
set_option maxRecDepth 100000 in
theorem of_is (s : ByteArray) (t : List Int) (b : Bool) (w : World) (hs : Hid (s = strOfNums t)) (hb : Hid (M.Bytes t)) (hr : Hid (M.ofB t = b)) :
    Calls Tryz.prog 105 #[.string s] w fun e w' => e = .returned (.tuple #[.agg (nm (okL b (M.pad t))), .int .i64 (okE b)]) ∧ Below w.heap.size w w' := by
  obtain ⟨s2, hs2⟩ : ∃ s2, s2 = strOfNums (M.text (M.pad t)) := ⟨_, rfl⟩
  obtain ⟨b1, hb1⟩ : ∃ b, (M.text (M.pad t) == t) = b := ⟨_, rfl⟩
  obtain ⟨b2, hb2⟩ : ∃ b, M.rightB (M.pad t) = b := ⟨_, rfl⟩
  have HR := Lib.hid (show (b1 && b2) = b by rw [← hb1, ← hb2]; exact hr.out)
  have H2 := Lib.hid hb2
  have HS2 := Lib.hid hs2
  have hst : (s2.toList == s.toList) = b1 := by rw [hs2, hs.out, str_eq (M.text_bytes (M.pad_bytes hb.out)) hb.out, hb1]
  have PL := Lib.hid (M.pad_len t)
  have PB := Lib.hid (M.pad_bytes hb.out)
  have hz := zero23
  have HA := Lib.hid (at_alloc w M.zero8)
  have HB := Lib.hid ((Below.refl w.heap.size w).alloc (Nat.le_refl _) (.cells (nm M.zero8) 24))
  have ZL := Lib.hid (show M.zero8.length = 8 from rfl)
  clear hs2 hb1 hb2
  cases b1 with
  | false =>
    obtain rfl : b = false := HR.out.symm
    go_enter Tryz.func105, Tryz.ntmps105
    go_wp2_with fail
    refine (pad_is s t _ hs hb).mono ?_
    rintro e w1 ⟨rfl, c1⟩
    have A1 := Lib.hid (below_at (HA.out.below c1) ((Below.refl w1.heap.size w1).alloc (Nat.le_refl _) (.cells (nm M.zero8) 24)) (HA.out.below c1).lt)
    have G1 := Lib.hid (HA.out.below c1).lt
    have B1 := Lib.hid (step_ (HB.out.trans (c1.mono (by simp))) ((Below.refl w1.heap.size w1).alloc (Nat.le_refl _) (.cells (nm M.zero8) 24)))
    have N1 := Lib.hid (at_alloc w1 M.zero8)
    clear c1 HA HB
    go_wp2_with (first
      | (refine wpList_store_name rfl _ _ rfl w1.heap.size M.zero8 (M.pad t) rfl rfl N1.out rfl PL.out ?_; intro w2 N2 F2 L2)
      | refine wpList_load_name rfl _ rfl w1.heap.size (M.pad t) rfl N2.out PL.out ?_)
    refine (text_is (M.pad t) s2 _ PL.out PB HS2).mono ?_
    rintro e w3 ⟨rfl, c3⟩
    have B2 := L2.out w.heap.size w (Nat.le_of_lt G1.out) B1.out
    have A3 := Lib.hid ((F2.out w.heap.size M.zero8 (Nat.ne_of_lt G1.out) A1.out).below c3)
    have B3 := Lib.hid (step_ B2 c3)
    clear c3 B2 F2 L2 N1 B1 A1 N2 G1
    go_wp2_with (first
      | (refine wpList_store_name rfl _ _ rfl w.heap.size M.zero8 M.zero8 rfl rfl A3.out rfl rfl ?_; intro w4 A4 F4 L4))
    refine bodyPost_ret (results_name rfl _ _ w.heap.size M.zero8 rfl A4.out rfl) rfl ?_
    exact ⟨rfl, L4.out w.heap.size w (Nat.le_refl _) B3.out⟩
  | true =>
    cases b2 with
    | false =>
      obtain rfl : b = false := HR.out.symm
      go_enter Tryz.func105, Tryz.ntmps105
      go_wp2_with fail
      refine (pad_is s t _ hs hb).mono ?_
      rintro e w1 ⟨rfl, c1⟩
      have A1 := Lib.hid (below_at (HA.out.below c1) ((Below.refl w1.heap.size w1).alloc (Nat.le_refl _) (.cells (nm M.zero8) 24)) (HA.out.below c1).lt)
      have G1 := Lib.hid (HA.out.below c1).lt
      have B1 := Lib.hid (step_ (HB.out.trans (c1.mono (by simp))) ((Below.refl w1.heap.size w1).alloc (Nat.le_refl _) (.cells (nm M.zero8) 24)))
      have N1 := Lib.hid (at_alloc w1 M.zero8)
      clear c1 HA HB
      go_wp2_with (first
        | (refine wpList_store_name rfl _ _ rfl w1.heap.size M.zero8 (M.pad t) rfl rfl N1.out rfl PL.out ?_; intro w2 N2 F2 L2)
        | refine wpList_load_name rfl _ rfl w1.heap.size (M.pad t) rfl N2.out PL.out ?_)
      refine (text_is (M.pad t) s2 _ PL.out PB HS2).mono ?_
      rintro e w3 ⟨rfl, c3⟩
      have B2 := L2.out w.heap.size w (Nat.le_of_lt G1.out) B1.out
      have A3 := Lib.hid ((F2.out w.heap.size M.zero8 (Nat.ne_of_lt G1.out) A1.out).below c3)
      have N3 := Lib.hid (N2.out.below c3)
      have B3 := Lib.hid (step_ B2 c3)
      clear c3 B2 F2 L2 N1 B1 A1 N2
      go_wp2_with (refine wanted_on rfl ?_; refine wpList_load_name rfl _ rfl w1.heap.size (M.pad t) rfl N3.out PL.out ?_)
      refine (right_is (M.pad t) false _ PL.out PB H2).mono ?_
      rintro e w4 ⟨rfl, c4⟩
      have A4 := Lib.hid (A3.out.below c4)
      have B4 := Lib.hid (step_ B3.out c4)
      clear c4
      go_wp2_with (first
        | (refine wpList_store_name rfl _ _ rfl w.heap.size M.zero8 M.zero8 rfl rfl A4.out rfl rfl ?_; intro w5 A5 F5 L5))
      refine bodyPost_ret (results_name rfl _ _ w.heap.size M.zero8 rfl A5.out rfl) rfl ?_
      exact ⟨rfl, L5.out w.heap.size w (Nat.le_refl _) B4.out⟩
    | true =>
      obtain rfl : b = true := HR.out.symm
      go_enter Tryz.func105, Tryz.ntmps105
      go_wp2_with fail
      refine (pad_is s t _ hs hb).mono ?_
      rintro e w1 ⟨rfl, c1⟩
      have A1 := Lib.hid (below_at (HA.out.below c1) ((Below.refl w1.heap.size w1).alloc (Nat.le_refl _) (.cells (nm M.zero8) 24)) (HA.out.below c1).lt)
      have G1 := Lib.hid (HA.out.below c1).lt
      have B1 := Lib.hid (step_ (HB.out.trans (c1.mono (by simp))) ((Below.refl w1.heap.size w1).alloc (Nat.le_refl _) (.cells (nm M.zero8) 24)))
      have N1 := Lib.hid (at_alloc w1 M.zero8)
      clear c1 HA HB
      go_wp2_with (first
        | (refine wpList_store_name rfl _ _ rfl w1.heap.size M.zero8 (M.pad t) rfl rfl N1.out rfl PL.out ?_; intro w2 N2 F2 L2)
        | refine wpList_load_name rfl _ rfl w1.heap.size (M.pad t) rfl N2.out PL.out ?_)
      refine (text_is (M.pad t) s2 _ PL.out PB HS2).mono ?_
      rintro e w3 ⟨rfl, c3⟩
      have B2 := L2.out w.heap.size w (Nat.le_of_lt G1.out) B1.out
      have A3 := Lib.hid ((F2.out w.heap.size M.zero8 (Nat.ne_of_lt G1.out) A1.out).below c3)
      have N3 := Lib.hid (N2.out.below c3)
      have B3 := Lib.hid (step_ B2 c3)
      clear c3 B2 F2 L2 N1 B1 A1 N2
      go_wp2_with (refine wanted_on rfl ?_; refine wpList_load_name rfl _ rfl w1.heap.size (M.pad t) rfl N3.out PL.out ?_)
      refine (right_is (M.pad t) true _ PL.out PB H2).mono ?_
      rintro e w4 ⟨rfl, c4⟩
      have A4 := Lib.hid (A3.out.below c4)
      have N4 := Lib.hid (N3.out.below c4)
      have B4 := Lib.hid (step_ B3.out c4)
      clear c4
      go_wp2_with (first
        | refine wpList_load_name rfl _ rfl w1.heap.size (M.pad t) rfl N4.out PL.out ?_
        | (refine wpList_store_name rfl _ _ rfl w.heap.size M.zero8 (M.pad t) rfl rfl A4.out rfl PL.out ?_; intro w5 A5 F5 L5))
      refine bodyPost_ret (results_name rfl _ _ w.heap.size (M.pad t) rfl A5.out PL.out) rfl ?_
      exact ⟨rfl, L5.out w.heap.size w (Nat.le_refl _) B4.out⟩
end Go.Proofs.YteggjihhjdeieaaGreat
