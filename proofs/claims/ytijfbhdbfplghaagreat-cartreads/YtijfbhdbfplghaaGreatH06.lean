/- The contracts of Halves and Whole of package bit, of isRep, isSort, Dot, Undot and hasOwner of package key, and of cmp.Compare. Values and atoms as values and in memory: loads, stores, builds and comparisons of whole ones. The contracts of Stamp, Unstamp, isRep, isStamp, and of the conditions on values. -/
import Derived.Test.YtijfbhdbfplghaaGreatH05
import Derived.Test.YtijfbhdbfplghaaGreatH01
namespace Go.Proofs.YtijfbhdbfplghaaGreat
open Go.RowKit
theorem or_up (a b : Int) (k : Nat) (h0 : 0 ≤ a) (hm : a * 2 ^ k < 18446744073709551616) (h2 : 0 ≤ b) (h3 : b < 2 ^ k) (hk : k < 64) : bits .or .u64 (a * 2 ^ k) b = a * 2 ^ k + b := by
  have hl := pow_lt k hk
  have hp := pow_pos k
  have hn := Int.mul_nonneg h0 (show (0 : Int) ≤ 2 ^ k by omega)
  rw [u64_or _ _ hn hm h2 (by omega)]
  obtain ⟨c, rfl⟩ := Int.eq_ofNat_of_zero_le h0
  have e2 : ((c : Int) * 2 ^ k).toNat = 2 ^ k * c := by rw [← pow_nat, ← Int.natCast_mul, Int.toNat_natCast, Nat.mul_comm]
  have h4 : b.toNat < 2 ^ k := by have := pow_nat k; omega
  rw [e2, ← Nat.two_pow_add_eq_or_of_lt h4, Int.natCast_add, Int.natCast_mul, pow_nat, Int.mul_comm, Int.toNat_of_nonneg h2]
theorem or32 (a b : Int) (h0 : 0 ≤ a) (h1 : a < 4294967296) (h2 : 0 ≤ b) (h3 : b < 4294967296) : bits .or .u64 (a * 4294967296) b = a * 4294967296 + b := or_up a b 32 h0 (by omega) h2 h3 (by omega)
theorem or16 (a b : Int) (h0 : 0 ≤ a) (h1 : a < 256) (h2 : 0 ≤ b) (h3 : b < 65536) : bits .or .u64 (a * 65536) b = a * 65536 + b := or_up a b 16 h0 (by omega) h2 h3 (by omega)
theorem whole_is (a b r : Int) (w : World) (h0 : 0 ≤ a) (h1 : a < 4294967296) (h2 : 0 ≤ b) (h3 : b < 4294967296) (hr : Hid (bits .or .u64 (a * 4294967296) b = r)) :
    Calls Tryz.prog 141 #[.int .u32 a, .int .u32 b] w fun e w' => e = .returned (.int .u64 r) ∧ w = w' := by
  go_enter Tryz.func141, Tryz.ntmps141
  go_wp2
  go_ret
  exact ⟨ret_int hr.out, rfl⟩
theorem isRep_is (x : Int) (w : World) : Calls Tryz.prog 133 #[.int .u8 x] w fun e w' => e = .returned (.bool (decide (x < 16))) ∧ w = w' := by
  go_enter Tryz.func133, Tryz.ntmps133
  go_wp2
  go_ret
  exact ⟨rfl, rfl⟩
theorem dot_is (k : Ky) (w : World) (hk : k.Ok) : Calls Tryz.prog 129 #[.agg k.cells.toArray] w fun e w' => e = .returned (.int .u64 k.w2) ∧ Below w.heap.size w w' := by
  have q := blk_alloc w 53 k.cells
  have c3 := q.cell (kc10 hk.ml)
  have c4 := q.cell (kc11 hk.ml)
  have B0 := Lib.hid (new_below w (.cells k.cells.toArray 53))
  have r0 := hk.r0
  have r1 := hk.r1
  have HK := Lib.hid hk
  clear q hk
  go_enter Tryz.func129, Tryz.ntmps129
  go_wp2_with fail
  refine (whole_is k.r k.q k.w2 _ r0 (by omega) HK.out.q0 HK.out.q1 (Lib.hid (or32 _ _ r0 (by omega) HK.out.q0 HK.out.q1))).mono ?_
  rintro e w1 ⟨rfl, rfl⟩
  go_wp2_with fail
  go_ret
  exact ⟨rfl, B0.out⟩
theorem hasOwner_is (k : Ky) (b : Bool) (w : World) (hk : k.Ok) (hb : Hid ((M.rightB k.m && decide (k.r < 16)) = b)) : Calls Tryz.prog 123 #[.agg k.cells.toArray] w fun e w' => e = .returned (.bool b) ∧ Below w.heap.size w w' := by
  have q := blk_alloc w 53 k.cells
  have HQ := Lib.hid q
  have B0 := Lib.hid (new_below w (.cells k.cells.toArray 53))
  have HN := Lib.hid (q.knm hk.ml)
  have HK := Lib.hid hk
  obtain ⟨p, hp⟩ : ∃ p, M.rightB k.m = p := ⟨_, rfl⟩
  have HP := Lib.hid hp
  have h := hb.out
  rw [hp] at h
  clear q hk hb hp
  go_enter Tryz.func123, Tryz.ntmps123
  go_wp2_with (refine wpList_load_nm rfl _ rfl w.heap.size 2 k.m rfl HN.out HK.out.ml ?_)
  refine (right_is k.m p _ HK.out.ml (Lib.hid HK.out.mb) HP).mono ?_
  rintro e w1 ⟨rfl, c1⟩
  have d3 := (HQ.out.below c1).cell (kc10 HK.out.ml)
  have B1 := Lib.hid (step_ B0.out c1)
  clear c1
  cases p with
  | false =>
    rw [Bool.false_and] at h
    subst h
    go_wp2_with fail
    go_ret
    exact ⟨rfl, B1.out⟩
  | true =>
    rw [Bool.true_and] at h
    subst h
    go_wp2_with fail
    refine (isRep_is k.r _).mono ?_
    rintro e w2 ⟨rfl, rfl⟩
    go_wp2_with fail
    go_ret
    exact ⟨rfl, B1.out⟩
theorem isNaN_is (x : Int) (w : World) : Calls Tryz.prog 142 #[.int .u64 x] w fun e w' => e = .returned (.bool false) ∧ w = w' := by
  go_enter Tryz.func142, Tryz.ntmps142
  go_wp2
  go_ret
  exact ⟨rfl, rfl⟩
/-- What cmp.Compare says. -/
def cmp2 (x y : Int) : Int := if x < y then -1 else if y < x then 1 else 0
theorem compare_is (x y : Int) (w : World) : Calls Tryz.prog 130 #[.int .u64 x, .int .u64 y] w fun e w' => e = .returned (.int .i64 (cmp2 x y)) ∧ w = w' := by
  by_cases h1 : x < y
  · have e1 : cmp2 x y = -1 := if_pos h1
    rw [e1]
    clear e1
    go_enter Tryz.func130, Tryz.ntmps130
    go_wp2_with fail
    refine (isNaN_is x _).mono ?_
    rintro e w1 ⟨rfl, rfl⟩
    go_wp2_with fail
    refine (isNaN_is y _).mono ?_
    rintro e w1 ⟨rfl, rfl⟩
    go_wp2_with fail
    go_ret
    exact ⟨rfl, rfl⟩
  · by_cases h2 : y < x
    · have e1 : cmp2 x y = 1 := by unfold cmp2; rw [if_neg h1, if_pos h2]
      rw [e1]
      clear e1
      go_enter Tryz.func130, Tryz.ntmps130
      go_wp2_with fail
      refine (isNaN_is x _).mono ?_
      rintro e w1 ⟨rfl, rfl⟩
      go_wp2_with fail
      refine (isNaN_is y _).mono ?_
      rintro e w1 ⟨rfl, rfl⟩
      go_wp2_with fail
      go_ret
      exact ⟨rfl, rfl⟩
    · have e1 : cmp2 x y = 0 := by unfold cmp2; rw [if_neg h1, if_neg h2]
      rw [e1]
      clear e1
      go_enter Tryz.func130, Tryz.ntmps130
      go_wp2_with fail
      refine (isNaN_is x _).mono ?_
      rintro e w1 ⟨rfl, rfl⟩
      go_wp2_with fail
      refine (isNaN_is y _).mono ?_
      rintro e w1 ⟨rfl, rfl⟩
      go_wp2_with fail
      go_ret
      exact ⟨rfl, rfl⟩
end Go.Proofs.YtijfbhdbfplghaaGreat
namespace Go.Proofs.YtijfbhdbfplghaaGreat
open Go.RowKit
def Vl.cells (v : Vl) : List Value := .int .u64 v.n :: v.t.map (Value.int .u8)
def Am.cells (a : Am) : List Value := a.k.cells ++ a.v.cells
theorem vcells_len {v : Vl} (h : v.t.length = 8) : v.cells.length = 9 := by simp [Vl.cells, h]
theorem acells_len {a : Am} (h : a.Ok) : a.cells.length = 21 := by rw [Am.cells, List.length_append, kcells_len h.k.ml, vcells_len h.v.tl]
theorem vc0 (v : Vl) : v.cells[0]? = some (.int .u64 v.n) := rfl
theorem ac0 (a : Am) : a.cells[0]? = some (.int .u8 a.k.s) := rfl
theorem ac12 {a : Am} (h : a.Ok) : a.cells[12]? = some (.int .u64 a.v.n) := by
  rw [Am.cells, List.getElem?_append_right (by rw [kcells_len h.k.ml]; omega), kcells_len h.k.ml]
  rfl
theorem range_vnm {w : World} {g o : Nat} {v : Vl} (hr : w.rangeAt g o v.cells) : w.rangeAt g (o + 1) (v.t.map (Value.int .u8)) := fun j x hx => by
  rw [Nat.add_assoc, Nat.add_comm 1 j, hr (j + 1) x hx]
theorem Blk.vnm {w : World} {g : Nat} {v : Vl} (h : Blk w g 56 v.cells) : w.rangeAt g 1 (v.t.map (Value.int .u8)) := by
  have := range_vnm h.range
  rwa [Nat.zero_add] at this
theorem Blk.ak {w : World} {g : Nat} {a : Am} (h : Blk w g 58 a.cells) : w.rangeAt g 0 a.k.cells := fun j x hx => by
  have hj := (List.getElem?_eq_some_iff.1 hx).1
  exact h.range j x (by rw [Am.cells, List.getElem?_append_left hj]; exact hx)
theorem Blk.av {w : World} {g : Nat} {a : Am} (h : Blk w g 58 a.cells) (ha : a.Ok) : w.rangeAt g 12 a.v.cells := fun j x hx => by
  have := h.range (12 + j) x (by rw [Am.cells, List.getElem?_append_right (by rw [kcells_len ha.k.ml]; omega), kcells_len ha.k.ml, show 12 + j - 12 = j by omega]; exact hx)
  rwa [Nat.zero_add] at this
theorem Blk.avt {w : World} {g : Nat} {a : Am} (h : Blk w g 58 a.cells) (ha : a.Ok) : w.rangeAt g 13 (a.v.t.map (Value.int .u8)) := range_vnm (h.av ha)
theorem info30z : (Tryz.prog.info? 56).map (fun i => (i.zero, i.size)) = some (some (.agg vzero.cells.toArray), 9) := by kernel_rfl
theorem zero30 (w : World) : (zeroValue 56).run Tryz.prog w = .ok (.agg vzero.cells.toArray) w := (zero_of_info info30z).1 w
theorem size30 {v : Vl} (h : v.t.length = 8) : (Tryz.prog.info? 56).map (·.size) = some v.cells.length := by rw [vcells_len h]; exact (zero_of_info info30z).2
theorem info32z : (Tryz.prog.info? 58).map (fun i => (i.zero, i.size)) = some (some (.agg azero.cells.toArray), 21) := by kernel_rfl
theorem zero32 (w : World) : (zeroValue 58).run Tryz.prog w = .ok (.agg azero.cells.toArray) w := (zero_of_info info32z).1 w
theorem size32 {a : Am} (h : a.Ok) : (Tryz.prog.info? 58).map (·.size) = some a.cells.length := by rw [acells_len h]; exact (zero_of_info info32z).2
theorem one30 (v : Vl) : v.cells.toArray.all (·.oneCell') = true := by
  refine all_oneCell_toArray fun x hm => ?_
  unfold Vl.cells at hm
  rcases List.mem_cons.1 hm with rfl | hm
  · rfl
  · obtain ⟨y, _, rfl⟩ := List.mem_map.1 hm; rfl
theorem all_list {cs : List Value} (h : cs.toArray.all (·.oneCell') = true) (v : Value) (hv : v ∈ cs) : v.oneCell' = true := by
  rw [List.all_toArray, List.all_eq_true] at h
  exact h v hv
theorem one32 (a : Am) : a.cells.toArray.all (·.oneCell') = true := by
  refine all_oneCell_toArray fun x hm => ?_
  unfold Am.cells at hm
  rcases List.mem_append.1 hm with hm | hm
  · exact all_list (one27 _) _ hm
  · exact all_list (one30 _) _ hm
theorem wpList_load_vl {ops : Array Oper} {rest : List Oper} {op : Oper} {a : Act} {w : World} {Q : Exit → Act → World → Prop} (hgd : op.guard = none) (x : Operand) (ho : op.op = .load 56 x) (g o : Nat) (v : Vl)
    (hx : a.eval x = .pointer (some ⟨g, o, none⟩)) (hr : w.rangeAt g o v.cells) (hm : v.t.length = 8) (h : wpList Tryz.prog ops Q rest (a.put op.dst (.agg v.cells.toArray)) w) : wpList Tryz.prog ops Q (op :: rest) a w :=
  wpList_load_mid hgd 56 x ho g o hx v.cells _ hr Tryz.underlying56 rfl (size30 hm) h
theorem wpList_load_am {ops : Array Oper} {rest : List Oper} {op : Oper} {a : Act} {w : World} {Q : Exit → Act → World → Prop} (hgd : op.guard = none) (x : Operand) (ho : op.op = .load 58 x) (g : Nat) (A : Am)
    (hx : a.eval x = .pointer (some ⟨g, 0, none⟩)) (hb : Blk w g 58 A.cells) (hm : A.Ok) (h : wpList Tryz.prog ops Q rest (a.put op.dst (.agg A.cells.toArray)) w) : wpList Tryz.prog ops Q (op :: rest) a w :=
  wpList_load_mid hgd 58 x ho g 0 hx A.cells _ hb.range Tryz.underlying58 rfl (size32 hm) h
theorem wpList_store_vl {ops : Array Oper} {rest : List Oper} {op : Oper} {a : Act} {w : World} {Q : Exit → Act → World → Prop} (hgd : op.guard = none) (x y : Operand) (ho : op.op = .store 56 x y) (g : Nat) (j k : Vl)
    (hx : a.eval x = .pointer (some ⟨g, 0, none⟩)) (hy : a.eval y = .agg k.cells.toArray) (hb : Blk w g 56 j.cells) (hj : j.t.length = 8) (hm : k.t.length = 8)
    (h : ∀ w', Hid (Blk w' g 56 k.cells) → Hid (Only g w w') → wpList Tryz.prog ops Q rest (a.put op.dst undef) w') : wpList Tryz.prog ops Q (op :: rest) a w :=
  wpList_store_cs hgd 56 x y ho g j.cells k.cells hx hy hb (by rw [vcells_len hj, vcells_len hm]) (size30 hm) (one30 k) h
theorem wpList_store_am {ops : Array Oper} {rest : List Oper} {op : Oper} {a : Act} {w : World} {Q : Exit → Act → World → Prop} (hgd : op.guard = none) (x y : Operand) (ho : op.op = .store 58 x y) (g : Nat) (j k : Am)
    (hx : a.eval x = .pointer (some ⟨g, 0, none⟩)) (hy : a.eval y = .agg k.cells.toArray) (hb : Blk w g 58 j.cells) (hj : j.Ok) (hm : k.Ok)
    (h : ∀ w', Hid (Blk w' g 58 k.cells) → Hid (Only g w w') → wpList Tryz.prog ops Q rest (a.put op.dst undef) w') : wpList Tryz.prog ops Q (op :: rest) a w :=
  wpList_store_cs hgd 58 x y ho g j.cells k.cells hx hy hb (by rw [acells_len hj, acells_len hm]) (size32 hm) (one32 k) h
theorem built30_0 : Tryz.prog.built 56 [] = some vzero.cells.toArray := by kernel_rfl
theorem part_row {t n : Nat} {d : TypeDesc} (cs : Array Value) (o : Nat) (ds : List Value) (hu : Tryz.prog.underlying t = some d) (hd : d.isRow = true) (hs : (Tryz.prog.info? t).map (·.size) = some n) (hx : cs.extract o (o + n) = ds.toArray) (w : World) :
    (Go.part t cs o).run Tryz.prog w = .ok (.agg ds.toArray) w := by
  have hsz : (sizeOf t).run Tryz.prog w = .ok n w := by
    cases hq : Tryz.prog.info? t with
    | none => simp [hq] at hs
    | some i =>
      have hi : i.size = n := by simpa [hq] using hs
      simp [sizeOf, typeInfo, hq, hi]
  have ha : (isAgg t).run Tryz.prog w = .ok true w := by
    simp only [isAgg, Sem.run_bind, run_underlying hu, Result.andThen_ok]
    cases d <;> simp_all [TypeDesc.isRow]
  simp only [Go.part, Sem.run_bind, ha, Result.andThen_ok, Sem.run_pure, if_true, hsz, hx]
theorem quiet_load_am {o : Oper} {a : Act} {W : World} {K : Act → Prop} (G : Nat) (A : Am) (x : Operand) (ho : o.op = .load 58 x) (hx : a.eval x = .pointer (some ⟨G, 0, none⟩)) (hat : Blk W G 58 A.cells) (hm : A.Ok)
    (hk : K (a.put o.dst (.agg A.cells.toArray))) : o.quiet Tryz.prog a (Cls W) K := quiet_load_cs 58 G 0 A.cells _ x ho hx hat.range hat.lt Tryz.underlying58 rfl (size32 hm) hk
theorem quiet_load_nmo {o : Oper} {a : Act} {W : World} {K : Act → Prop} (G off : Nat) (t : List Int) (x : Operand) (ho : o.op = .load 25 x) (hx : a.eval x = .pointer (some ⟨G, off, none⟩)) (hat : W.rangeAt G off (t.map (Value.int .u8))) (hG : G < W.heap.size) (hm : t.length = 8)
    (hk : K (a.put o.dst (.agg (nm t)))) : o.quiet Tryz.prog a (Cls W) K := quiet_load_cs 25 G off (t.map (Value.int .u8)) _ x ho hx hat hG Tryz.underlying25 rfl (by rw [List.length_map, hm]; exact size23) hk
theorem results_vl {fn : Func} {t : Tmp} (h : fn.results = #[.cell t 56]) (tmps : Array Value) (w : World) (g : Nat) (v : Vl) (hp : tmps.getD t undef = .pointer (some ⟨g, 0, none⟩)) (hb : Blk w g 56 v.cells) (hm : v.t.length = 8) :
    (results fn tmps).run Tryz.prog w = .ok (.agg v.cells.toArray) w := results_cell_row h _ _ g 56 v.cells.toArray (0, 0) _ hp hb Tryz.underlying56 rfl (by rw [List.size_toArray]; exact size30 hm)
end Go.Proofs.YtijfbhdbfplghaaGreat
namespace Go.Proofs.YtijfbhdbfplghaaGreat
open Go.RowKit
theorem or8 (a b : Int) (h0 : 0 ≤ a) (h1 : a < 4294967296) (h2 : 0 ≤ b) (h3 : b < 256) : bits .or .u64 (a * 256) b = a * 256 + b := or_up a b 8 h0 (by omega) h2 h3 (by omega)
theorem stamp_is (n r x : Int) (w : World) (h0 : 0 ≤ n) (h1 : n < 4294967296) (h2 : 0 ≤ r) (h3 : r < 256) (hx : Hid (stamp n r = x)) :
    Calls Tryz.prog 135 #[.int .u32 n, .int .u8 r] w fun e w' => e = .returned (.int .u64 x) ∧ w = w' := by
  have H := Lib.hid (show bits .or .u64 (n * 256) r = x from (or8 n r h0 h1 h2 h3).trans hx.out)
  go_enter Tryz.func135, Tryz.ntmps135
  go_wp2
  go_ret
  exact ⟨ret_int H.out, rfl⟩
theorem unstamp_is (x a b : Int) (w : World) (ha : Hid (x / 256 % 4294967296 = a)) (hb : Hid (x % 256 = b)) :
    Calls Tryz.prog 66 #[.int .u64 x] w fun e w' => e = .returned (.tuple #[.int .u32 a, .int .u8 b]) ∧ w = w' := by
  go_enter Tryz.func66, Tryz.ntmps66
  go_wp2
  go_ret2
  refine ⟨?_, rfl⟩
  rw [← ha.out, ← hb.out]
  rfl
theorem aisRep_is (x : Int) (w : World) : Calls Tryz.prog 136 #[.int .u8 x] w fun e w' => e = .returned (.bool (decide (x < 16))) ∧ w = w' := by
  go_enter Tryz.func136, Tryz.ntmps136
  go_wp2
  go_ret
  exact ⟨rfl, rfl⟩
theorem isStamp_is (x : Int) (b : Bool) (w : World) (h0 : 0 ≤ x) (hb : Hid (stampB x = b)) :
    Calls Tryz.prog 126 #[.int .u64 x] w fun e w' => e = .returned (.bool b) ∧ w = w' := by
  have hh := hb.out
  unfold stampB at hh
  have hS := stamp_back h0
  obtain ⟨n, hn⟩ : ∃ n, x / 256 % 4294967296 = n := ⟨_, rfl⟩
  obtain ⟨r, hr⟩ : ∃ r, x % 256 = r := ⟨_, rfl⟩
  rw [hn, hr] at hh hS
  have n0 : 0 ≤ n := by omega
  have n1 : n < 4294967296 := by omega
  have r0 : 0 ≤ r := by omega
  have r1 : r < 256 := by omega
  have HN := Lib.hid hn
  have HR := Lib.hid hr
  clear hn hr hb
  by_cases h : x < 1099511627776
  · have e : stamp n r = x := hS.2 h
    have E := Lib.hid e
    rw [decide_eq_true h, Bool.true_and] at hh
    clear hS e h
    by_cases hn : 0 < n
    · rw [decide_eq_true hn, Bool.true_and] at hh
      subst hh
      go_enter Tryz.func126, Tryz.ntmps126
      go_wp2_with fail
      refine (unstamp_is x n r _ HN HR).mono ?_
      rintro e w1 ⟨rfl, rfl⟩
      go_wp2_with fail
      refine (stamp_is n r x _ n0 n1 r0 r1 E).mono ?_
      rintro e w1 ⟨rfl, rfl⟩
      go_wp2_with fail
      refine (aisRep_is r _).mono ?_
      rintro e w1 ⟨rfl, rfl⟩
      go_wp2_with fail
      go_ret
      exact ⟨rfl, rfl⟩
    · rw [decide_eq_false hn, Bool.false_and] at hh
      subst hh
      go_enter Tryz.func126, Tryz.ntmps126
      go_wp2_with fail
      refine (unstamp_is x n r _ HN HR).mono ?_
      rintro e w1 ⟨rfl, rfl⟩
      go_wp2_with fail
      refine (stamp_is n r x _ n0 n1 r0 r1 E).mono ?_
      rintro e w1 ⟨rfl, rfl⟩
      go_wp2_with fail
      go_ret
      exact ⟨rfl, rfl⟩
  · obtain ⟨y, hy⟩ : ∃ y, stamp n r = y := ⟨_, rfl⟩
    have hne : (y == x) = false := by
      rw [← hy]; exact beq_eq_false_iff_ne.2 fun q => h (hS.1 q)
    have E := Lib.hid hy
    rw [decide_eq_false h, Bool.false_and] at hh
    subst hh
    clear hS hy h
    go_enter Tryz.func126, Tryz.ntmps126
    go_wp2_with fail
    refine (unstamp_is x n r _ HN HR).mono ?_
    rintro e w1 ⟨rfl, rfl⟩
    go_wp2_with fail
    refine (stamp_is n r y _ n0 n1 r0 r1 E).mono ?_
    rintro e w1 ⟨rfl, rfl⟩
    go_wp2_with fail
    go_ret
    exact ⟨rfl, rfl⟩
theorem between1_is (lo hi : Int) (g h : Nat) (v : Vl) (b : Bool) (w : World) (hv : v.Ok) (hg : Blk w g 54 [.int .u64 lo]) (hh : Blk w h 54 [.int .u64 hi]) (hb : Hid (betweenB lo hi v = b)) :
    Calls Tryz.prog 134 #[.agg v.cells.toArray, .pointer (some ⟨g, 0, none⟩), .pointer (some ⟨h, 0, none⟩)] w fun e w' => e = .returned (.bool b) ∧ Below w.heap.size w w' := by
  have c1 := (hg.alloc (.cells v.cells.toArray 56)).cell (i := 0) rfl
  have c2 := (hh.alloc (.cells v.cells.toArray 56)).cell (i := 0) rfl
  have q := blk_alloc w 56 v.cells
  have c0 := q.cell (vc0 v)
  have R1 := Lib.hid q.vnm
  have B0 := Lib.hid (new_below w (.cells v.cells.toArray 56))
  have HV := Lib.hid hv
  have hh' := hb.out
  unfold betweenB at hh'
  clear q hv hg hh hb
  by_cases k1 : lo ≤ v.n
  · rw [decide_eq_true k1, Bool.true_and] at hh'
    by_cases k2 : v.n ≤ hi
    · rw [decide_eq_true k2, Bool.true_and] at hh'
      subst hh'
      go_enter Tryz.func134, Tryz.ntmps134
      go_wp2_with (refine wanted_on rfl ?_; refine wpList_load_nm rfl _ rfl w.heap.size 1 v.t rfl R1.out HV.out.tl ?_)
      refine (some_is v.t _ _ HV.out.tl (Lib.hid rfl)).mono ?_
      rintro e w1 ⟨rfl, b1⟩
      have B1 := Lib.hid (step_ B0.out b1)
      clear b1
      go_wp2_with fail
      go_ret
      exact ⟨rfl, B1.out⟩
    · rw [decide_eq_false k2, Bool.false_and] at hh'
      subst hh'
      go_enter Tryz.func134, Tryz.ntmps134
      go_wp2_with fail
      go_ret
      exact ⟨rfl, B0.out⟩
  · rw [decide_eq_false k1, Bool.false_and, Bool.false_and] at hh'
    subst hh'
    go_enter Tryz.func134, Tryz.ntmps134
    go_wp2_with fail
    go_ret
    exact ⟨rfl, B0.out⟩
theorem line_is (v : Vl) (b : Bool) (w : World) (hv : v.Ok) (hb : Hid (lineB v = b)) :
    Calls Tryz.prog 125 #[.agg v.cells.toArray] w fun e w' => e = .returned (.bool b) ∧ Below w.heap.size w w' := by
  have q := blk_alloc w 56 v.cells
  have c0 := q.cell (vc0 v)
  have Q0 := Lib.hid q
  have R1 := Lib.hid q.vnm
  have B0 := Lib.hid (new_below w (.cells v.cells.toArray 56))
  have HV := Lib.hid hv
  have hh := hb.out
  unfold lineB at hh
  clear q hv hb
  cases k1 : stampB v.n with
  | false =>
    have K1 := Lib.hid k1
    rw [k1, Bool.false_and] at hh
    subst hh
    clear k1
    go_enter Tryz.func125, Tryz.ntmps125
    go_wp2_with fail
    refine (isStamp_is v.n false _ HV.out.n0 K1).mono ?_
    rintro e w1 ⟨rfl, rfl⟩
    go_wp2_with fail
    go_ret
    exact ⟨rfl, B0.out⟩
  | true =>
    have K1 := Lib.hid k1
    rw [k1, Bool.true_and] at hh
    clear k1
    cases k2 : M.rightB v.t with
    | true =>
      have K2 := Lib.hid k2
      rw [k2, Bool.true_or] at hh
      subst hh
      clear k2
      go_enter Tryz.func125, Tryz.ntmps125
      go_wp2_with fail
      refine (isStamp_is v.n true _ HV.out.n0 K1).mono ?_
      rintro e w1 ⟨rfl, rfl⟩
      go_wp2_with (refine wanted_on rfl ?_; refine wpList_load_nm rfl _ rfl w.heap.size 1 v.t rfl R1.out HV.out.tl ?_)
      refine (right_is v.t true _ HV.out.tl (Lib.hid HV.out.tb) K2).mono ?_
      rintro e w1 ⟨rfl, b1⟩
      have B1 := Lib.hid (step_ B0.out b1)
      clear b1
      go_wp2_with fail
      go_ret
      exact ⟨rfl, B1.out⟩
    | false =>
      have K2 := Lib.hid k2
      rw [k2, Bool.false_or] at hh
      subst hh
      clear k2
      go_enter Tryz.func125, Tryz.ntmps125
      go_wp2_with fail
      refine (isStamp_is v.n true _ HV.out.n0 K1).mono ?_
      rintro e w1 ⟨rfl, rfl⟩
      go_wp2_with (refine wanted_on rfl ?_; refine wpList_load_nm rfl _ rfl w.heap.size 1 v.t rfl R1.out HV.out.tl ?_)
      refine (right_is v.t false _ HV.out.tl (Lib.hid HV.out.tb) K2).mono ?_
      rintro e w1 ⟨rfl, b1⟩
      have B1 := Lib.hid (step_ B0.out b1)
      have R2 := Lib.hid (Q0.out.below b1).vnm
      clear b1
      go_wp2_with (refine wanted_on rfl ?_; refine wpList_load_nm rfl _ rfl w.heap.size 1 v.t rfl R2.out HV.out.tl ?_)
      refine (some_is v.t _ _ HV.out.tl (Lib.hid rfl)).mono ?_
      rintro e w2 ⟨rfl, b2⟩
      have B2 := Lib.hid (step_ B1.out b2)
      clear b2
      go_wp2_with fail
      go_ret
      exact ⟨rfl, B2.out⟩
abbrev betweenF (g h : Nat) : Value := .func (.func 134) #[] #[.pointer (some ⟨g, 0, none⟩), .pointer (some ⟨h, 0, none⟩)]
theorem between_is (lo hi : Int) (w : World) : Calls Tryz.prog 124 #[.int .u64 lo, .int .u64 hi] w fun e w' => ∃ g h, e = .returned (betweenF g h) ∧ Blk w' g 54 [.int .u64 lo] ∧ Blk w' h 54 [.int .u64 hi] ∧ Below w.heap.size w w' := by
  have A := Lib.hid ((blk_alloc w 54 [.int .u64 lo]).alloc (.cells #[.int .u64 hi] 54))
  have B := Lib.hid (blk2 w (.cells #[.int .u64 lo] 54) 54 [.int .u64 hi])
  have C := Lib.hid (step_ (new_below w (.cells #[.int .u64 lo] 54)) (new_below _ (.cells #[.int .u64 hi] 54)))
  go_enter Tryz.func124, Tryz.ntmps124
  go_wp2_with fail
  go_ret
  exact ⟨_, _, rfl, A.out, B.out, C.out⟩
/-- The table of conditions. -/
structure Table (w : World) (g a b c d : Nat) : Prop where
  t : Blk w g 152 [.nilFunc, betweenF a b, betweenF c d, betweenF c d, .func (.func 125) #[] #[]]
  a : Blk w a 54 [.int .u64 1]
  b : Blk w b 54 [.int .u64 2]
  c : Blk w c 54 [.int .u64 1]
  d : Blk w d 54 [.int .u64 4294967295]
theorem Table.below {w w' : World} {g a b c d : Nat} (h : Table w g a b c d) (hb : Below w.heap.size w w') : Table w' g a b c d := ⟨h.t.below hb, h.a.below hb, h.b.below hb, h.c.below hb, h.d.below hb⟩
theorem values_is (w : World) : Calls Tryz.prog 116 #[] w fun e w' => ∃ g a b c d, e = .returned (.slice (some ⟨g, 0, none⟩) 5 5) ∧ Table w' g a b c d ∧ Below w.heap.size w w' := by
  go_enter Tryz.func116, Tryz.ntmps116
  go_wp2_with fail
  refine (between_is 1 2 _).mono ?_
  rintro e w1 ⟨a, b, rfl, ha, hb, h1⟩
  have A := Lib.hid ha
  have B := Lib.hid hb
  have B1 := Lib.hid h1
  clear ha hb h1
  go_wp2_with fail
  refine (between_is 1 4294967295 _).mono ?_
  rintro e w2 ⟨c, d, rfl, hc, hd, h2⟩
  have A2 := Lib.hid (A.out.below h2)
  have B2 := Lib.hid (B.out.below h2)
  have C2 := Lib.hid hc
  have D2 := Lib.hid hd
  have B3 := Lib.hid (step_ B1.out h2)
  clear hc hd h2
  go_wp2_with fail
  go_ret
  exact ⟨_, a, b, c, d, rfl, ⟨blk_alloc w2 152 _, A2.out.alloc _, B2.out.alloc _, C2.out.alloc _, D2.out.alloc _⟩, step_ B3.out (new_below _ _)⟩
end Go.Proofs.YtijfbhdbfplghaaGreat
