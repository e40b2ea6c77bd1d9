/- A map of numbers to nothing: which numbers it holds. Rise and Sift of the reference, buckets, among, Sift. Keys: the sums of a state's atoms, sorted, each once. -/
import Derived.Test.YtnpbmihbmilkbaaGreatG29
import Derived.Test.YtnpbmihbmilkbaaGreatG28
import Derived.Test.YtnpbmihbmilkbaaGreatG25
import Derived.WalkArith
import Derived.Test.YtnpbmihbmilkbaaGreatG43
import Derived.Test.YtnpbmihbmilkbaaGreatG31
namespace Go.Proofs.YtnpbmihbmilkbaaGreat
open Go.RowKit Go.Maps
theorem keyedD : Keyed Tryz.prog 22 := int_keyed Tryz.underlying22
theorem keyD {d : Int} (h : 0 ≤ d ∧ d < 18446744073709551616) : keyOf Tryz.prog 22 (.int .u64 d) = some (.int .u64 d) :=
  keyOf_int_mk Tryz.underlying22 (WalkArith.wf_u64 (by omega))
theorem zero61 (w : World) : (zeroValue 71).run Tryz.prog w = .ok (.agg #[]) w := by kernel_rfl
/-- The map in block b holds the numbers of l, and no other. -/
structure SetM (w : World) (b n : Nat) (l : List Int) : Prop where
  own : ∃ D : DataW Value, w.ownsMap Tryz.prog 22 unitElem b n D ∧ ∀ d, 0 ≤ d ∧ d < 18446744073709551616 → Maps.has D (.int .u64 d) = l.contains d
theorem SetM.lt {w : World} {b n : Nat} {l : List Int} (h : SetM w b n l) : b < w.heap.size := by obtain ⟨D, h1, _⟩ := h.own; exact h1.lt
theorem SetM.map {w : World} {b n : Nat} {l : List Int} (h : SetM w b n l) : ∃ es c, w.heap[b]? = some (.map es c) := by obtain ⟨D, ⟨es, c, e, _⟩, _⟩ := h.own; exact ⟨es, c, e⟩
theorem SetM.same {w w' : World} {b n : Nat} {l : List Int} (h : SetM w b n l) (hb : w'.heap[b]? = w.heap[b]?) : SetM w' b n l := by
  obtain ⟨D, ⟨es, c, e, r⟩, h2⟩ := h.own; exact ⟨D, ⟨es, c, hb.trans e, r⟩, h2⟩
theorem SetM.below {w w' : World} {b n : Nat} {l : List Int} (h : SetM w b n l) (hb : Below w.heap.size w w') : SetM w' b n l := h.same (hb.block b h.lt)
theorem SetM.mono {w : World} {b n n' : Nat} {l : List Int} (h : SetM w b n l) (hn : n ≤ n') : SetM w b n' l := by
  obtain ⟨D, h1, h2⟩ := h.own; exact ⟨D, h1.mono hn, h2⟩
theorem SetM.neq {w : World} {b n g t : Nat} {l : List Int} {cs : List Value} (h : SetM w b n l) (hg : Blk w g t cs) : b ≠ g := by
  intro e
  subst e
  obtain ⟨es, c, e⟩ := h.map
  unfold Blk at hg
  rw [hg] at e; cases e
theorem run_putD {w : World} {b n : Nat} {l : List Int} (h : SetM w b n l) (hn : n ≤ 50000) {d : Int} (hd : 0 ≤ d ∧ d < 18446744073709551616) :
    ∃ w', (Instr.mapUpdate 70 (.map (some b)) (.int .u64 d) (.agg #[])).run Tryz.prog w = .ok () w' ∧ SetM w' b (n + 1) (d :: l) ∧ w.grownBy w' (some b) := by
  obtain ⟨D, h1, h2⟩ := h.own
  obtain ⟨w', hr, h3, h4⟩ := h1.update keyedD Tryz.underlying70 (by unfold maxLen; omega) (val := .agg #[]) (d := .agg []) (ps := []) (keyD hd) unitElem_mk
  refine ⟨w', hr, ⟨_, h3, fun x hx => ?_⟩, h4⟩
  by_cases e : x = d
  · subst e
    rw [has_put_same h1.isMap (keyedD.key (keyD hd))]
    simp
  · rw [has_put_other (fun e2 => e (by injection e2)), h2 x hx]
    simp [e]
section
variable {ops : Array Oper} {rest : List Oper} {op : Oper} {a : Act} {w : World} {Q : Exit → Act → World → Prop}
theorem wpList_lookD (hgd : op.guard = none) (x y : Operand) (ho : op.op = .lookup 70 x y true) (b n : Nat) (l : List Int) (d : Int) (r : Bool) (hx : a.eval x = .map (some b)) (hy : a.eval y = .int .u64 d) (hm : SetM w b n l) (hd : 0 ≤ d ∧ d < 18446744073709551616) (hr : l.contains d = r)
    (h : wpList Tryz.prog ops Q rest (a.put op.dst (.tuple #[.agg #[], .bool r])) w) : wpList Tryz.prog ops Q (op :: rest) a w := by
  obtain ⟨D, h1, h2⟩ := hm.own
  refine wpList_lookup_own_unit w hgd x y 70 ho 22 71 keyedD Tryz.underlying70 (zero61 w) b n D hx h1 _ _ hy (keyD hd) ?_
  rw [h2 d hd, hr]; exact h
theorem wpList_putD (hgd : op.guard = none) (x y z : Operand) (ho : op.op = .mapUpdate 70 x y z) (b n : Nat) (l : List Int) (d : Int) (hx : a.eval x = .map (some b)) (hy : a.eval y = .int .u64 d) (hz : a.eval z = .agg #[]) (hm : SetM w b n l) (hn : n ≤ 50000) (hd : 0 ≤ d ∧ d < 18446744073709551616)
    (h : ∀ w', Hid (SetM w' b (n + 1) (d :: l)) → Hid (Only b w w') → wpList Tryz.prog ops Q rest (a.put op.dst undef) w') : wpList Tryz.prog ops Q (op :: rest) a w := by
  refine wpList_plain hgd fun K hK => ?_
  obtain ⟨w', hr, h1, h2⟩ := run_putD hm hn hd
  unfold Oper.wp execOp
  simp only [ho, hx, hy, hz, Sem.run_bind, hr, Result.andThen_ok, Sem.run_pure]
  exact hK _ _ (h _ (Lib.hid h1) (Lib.hid ⟨h2.os, h2.tape, h2.output, h2.size, fun k hk hn => h2.block k hk (fun e => hn (Option.some.inj e))⟩))
theorem wpList_alloc0 (hgd : op.guard = none) (ho : op.op = .alloc 71)
    (h : ∀ g w', Hid (g = w.heap.size) → Hid (Blk w' g 71 []) → Hid (Below w.heap.size w w') → wpList Tryz.prog ops Q rest (a.put op.dst (.pointer (some ⟨g, 0, none⟩))) w') : wpList Tryz.prog ops Q (op :: rest) a w := by
  refine wpList_plain hgd fun K hK => ?_
  have hz := zero61
  have H := h w.heap.size (w.alloc (.cells #[] 71)) (Lib.hid rfl) (Lib.hid (blk_alloc w 71 [])) (Lib.hid (new_below w _))
  unfold Oper.wp execOp
  simp [ho, Instr.alloc, hz]
  exact hK _ _ H
end
end Go.Proofs.YtnpbmihbmilkbaaGreat
namespace Go.Proofs.YtnpbmihbmilkbaaGreat
open Go.RowKit Go.Shelf
attribute [local go_sem] Oper.semAt_some
theorem GivesU.shape {w w' : World} {l : List Int} {e : Ending} (h : GivesU w l e w') : ∃ A cap, e = .returned (.slice A l.length cap) ∧ NumsAt w' (.slice A l.length cap) l ∧ Below w.heap.size w w' := by
  obtain ⟨⟨A, c, h1, h2⟩, h3⟩ := h
  exact ⟨A, c, h1, h2, h3⟩
theorem refRise_is (A : Option Addr) (n cap : Nat) (l L : List Int) (w : World) (h : NumsAt w (.slice A n cap) l) (hn : n ≤ 1000) (hL : Hid (rise l = L)) : Calls Tryz.prog 23 #[.slice A n cap] w (GivesU w L) := by
  have H := Lib.hid h
  have HL := Lib.hid h.len
  have NL := Lib.hid h.nums
  clear h
  go_enter Tryz.func23, Tryz.ntmps23
  go_wp2_with fail
  go_loopw [3, 4] (fun o i wr => ∃ (j : Nat), j ≤ n ∧ i = .int .i64 j ∧ NumsAt wr o (rise (l.take j)) ∧ Below w.heap.size w wr) (fun _ i _ => n - (intOf i).toNat)
  case atStart => exact ⟨0, Nat.zero_le _, rfl, nums_at_nil _, Below.refl _ _⟩
  case round =>
    obtain ⟨j, hj, rfl, ho, hb⟩ := hrel
    have OO := Lib.hid ho
    have BB := Lib.hid hb
    clear ho hb
    by_cases hlt : j < n
    · obtain ⟨G, p, hE, hEc, -⟩ := (H.out.below BB.out).elem j (by have := HL.out; omega)
      have E := Lib.hid hE
      have T := Lib.hid (take_getDG 0 (l := l) (j := j) (by have := HL.out; omega))
      have NY := Lib.hid (NL.out.at_ j)
      obtain ⟨y, hy⟩ : ∃ y, l.getD j 0 = y := ⟨_, rfl⟩
      rw [hy] at hEc T NY
      clear hE hy
      obtain ⟨A0, c0, rfl⟩ := OO.out.shape
      have LN := Lib.hid (show (rise (l.take j)).length ≤ 5000 by have := rise_len (l.take j); have := List.length_take_le j l; omega)
      go_wp2_with (refine wpList_indexN Tryz.underlying24 rfl _ _ rfl A n cap G p j _ rfl rfl (by first | rfl | omega) E.out ?_)
      refine (nput_is A0 _ c0 (rise (l.take j)) y _ OO.out (asc_rise _) NY.out LN.out).mono ?_
      rintro e w5 h5
      obtain ⟨A1, c1, rfl, h6, h7⟩ := h5.shape
      have N6 := Lib.hid (show NumsAt w5 (.slice A1 (put1 y (rise (l.take j))).length c1) (rise (l.take (j + 1))) by rw [T.out, rise_snoc]; exact h6)
      have B6 := Lib.hid h7
      clear h5 h6 h7
      go_wp2_with fail
      go_roundw
      case rel => exact ⟨j + 1, by omega, by go_num, N6.out, step_ BB.out B6.out⟩
      case measure => simp [intOf]; omega
    · obtain rfl : n = j := by omega
      have HS := Lib.hid (show l.take n = l from List.take_of_length_le (by have := HL.out; omega))
      go_wp2_with fail
      go_ret
      rw [HS.out, hL.out] at OO
      obtain ⟨A0, c0, rfl⟩ := OO.out.shape
      exact ⟨⟨A0, c0, rfl, OO.out⟩, BB.out⟩
/-- The numbers of l that are in m, and the others. -/
def inn (l m : List Int) : List Int := l.filter fun x => m.contains x
def out_ (l m : List Int) : List Int := l.filter fun x => !m.contains x
theorem inn_snoc (l m : List Int) (x : Int) : inn (l ++ [x]) m = if m.contains x = true then inn l m ++ [x] else inn l m := by
  unfold inn
  rw [List.filter_append]
  cases h : m.contains x
  · rw [List.filter_cons_of_neg (by rw [h]; exact Bool.false_ne_true), List.filter_nil, List.append_nil]; rfl
  · rw [List.filter_cons_of_pos (by exact h), List.filter_nil]; rfl
theorem out_snoc (l m : List Int) (x : Int) : out_ (l ++ [x]) m = if m.contains x = true then out_ l m else out_ l m ++ [x] := by
  unfold out_
  rw [List.filter_append]
  cases h : m.contains x
  · rw [List.filter_cons_of_pos (by rw [h]; rfl), List.filter_nil]; rfl
  · rw [List.filter_cons_of_neg (by rw [h]; decide), List.filter_nil, List.append_nil]; rfl
theorem inn_len (l m : List Int) : (inn l m).length ≤ l.length := List.length_filter_le ..
theorem out_len (l m : List Int) : (out_ l m).length ≤ l.length := List.length_filter_le ..
def Gives2 (w : World) (p q : List Int) (e : Ending) (w' : World) : Prop := (∃ A c B d, e = .returned (.tuple #[.slice A p.length c, .slice B q.length d]) ∧ NumsAt w' (.slice A p.length c) p ∧ NumsAt w' (.slice B q.length d) q) ∧ Below w.heap.size w w'
set_option maxRecDepth 100000 in
set_option maxHeartbeats 4000000 in
theorem refSift_is (A : Option Addr) (n cap : Nat) (l : List Int) (A2 : Option Addr) (n2 cap2 : Nat) (m : List Int) (P Q : List Int) (w : World) (h : NumsAt w (.slice A n cap) l) (h2 : NumsAt w (.slice A2 n2 cap2) m) (hn : n ≤ 1000) (hn2 : n2 ≤ 1000) (hP : Hid (rise (inn l m) = P)) (hQ : Hid (rise (out_ l m) = Q)) :
    Calls Tryz.prog 17 #[.slice A n cap, .slice A2 n2 cap2] w (Gives2 w P Q) := by
  have H := Lib.hid h
  have HL := Lib.hid h.len
  have NL := Lib.hid h.nums
  have H2 := Lib.hid h2
  clear h h2
  go_enter Tryz.func17, Tryz.ntmps17
  go_wp2_with fail
  go_loopw [6, 7, 8] (fun o1 o2 i wr => ∃ (j : Nat), j ≤ n ∧ i = .int .i64 j ∧ NumsAt wr o1 (rise (inn (l.take j) m)) ∧ NumsAt wr o2 (rise (out_ (l.take j) m)) ∧ Below w.heap.size w wr) (fun _ _ i _ => n - (intOf i).toNat)
  case atStart => exact ⟨0, Nat.zero_le _, rfl, nums_at_nil _, nums_at_nil _, Below.refl _ _⟩
  case round =>
    obtain ⟨j, hj, rfl, ho, ho2, hb⟩ := hrel
    have OO := Lib.hid ho
    have O2 := Lib.hid ho2
    have BB := Lib.hid hb
    clear ho ho2 hb
    obtain ⟨A0, c0, rfl⟩ := OO.out.shape
    obtain ⟨A1, c1, rfl⟩ := O2.out.shape
    by_cases hlt : j < n
    · obtain ⟨G, p, hE, hEc, -⟩ := (H.out.below BB.out).elem j (by have := HL.out; omega)
      have E := Lib.hid hE
      have T := Lib.hid (take_getDG 0 (l := l) (j := j) (by have := HL.out; omega))
      have NY := Lib.hid (NL.out.at_ j)
      obtain ⟨y, hy⟩ : ∃ y, l.getD j 0 = y := ⟨_, rfl⟩
      rw [hy] at hEc T NY
      clear hE hy
      have L1 := Lib.hid (show (rise (inn (l.take j) m)).length ≤ 5000 by have := rise_len (inn (l.take j) m); have := inn_len (l.take j) m; have := List.length_take_le j l; omega)
      have L2 := Lib.hid (show (rise (out_ (l.take j) m)).length ≤ 5000 by have := rise_len (out_ (l.take j) m); have := out_len (l.take j) m; have := List.length_take_le j l; omega)
      go_wp2_with (refine wpList_indexN Tryz.underlying24 rfl _ _ rfl A n cap G p j _ rfl rfl (by first | rfl | omega) E.out ?_)
      refine (has_is A2 n2 cap2 m y _ _ (H2.out.below BB.out) (by omega) (Lib.hid rfl)).mono ?_
      rintro e w4 ⟨rfl, rfl⟩
      by_cases hm : m.contains y = true
      · rw [hm]
        have I1 := Lib.hid (show rise (inn (l.take (j + 1)) m) = put1 y (rise (inn (l.take j) m)) by rw [T.out, inn_snoc, if_pos hm, rise_snoc])
        have I2 := Lib.hid (show rise (out_ (l.take (j + 1)) m) = rise (out_ (l.take j) m) by rw [T.out, out_snoc, if_pos hm])
        clear hm
        go_wp2_with (refine wpList_indexN Tryz.underlying24 rfl _ _ rfl A n cap G p j _ rfl rfl (by first | rfl | omega) E.out ?_)
        refine (nput_is A0 _ c0 _ y _ OO.out (asc_rise _) NY.out L1.out).mono ?_
        rintro e w5 h5
        obtain ⟨A3, c3, rfl, h6, h7⟩ := h5.shape
        rw [← I1.out] at h6
        have N6 := Lib.hid h6
        have B6 := Lib.hid h7
        clear h5 h6 h7
        go_wp2_with fail
        go_roundw
        case rel => exact ⟨j + 1, by omega, by go_num, by rw [← I1.out]; exact N6.out, by rw [I2.out]; exact O2.out.below B6.out, step_ BB.out B6.out⟩
        case measure => simp [intOf]; omega
      · have hm2 : m.contains y = false := by simpa using hm
        rw [hm2]
        have I1 := Lib.hid (show rise (inn (l.take (j + 1)) m) = rise (inn (l.take j) m) by rw [T.out, inn_snoc, if_neg hm])
        have I2 := Lib.hid (show rise (out_ (l.take (j + 1)) m) = put1 y (rise (out_ (l.take j) m)) by rw [T.out, out_snoc, if_neg hm, rise_snoc])
        clear hm hm2
        go_wp2_with (refine wpList_indexN Tryz.underlying24 rfl _ _ rfl A n cap G p j _ rfl rfl (by first | rfl | omega) E.out ?_)
        refine (nput_is A1 _ c1 _ y _ O2.out (asc_rise _) NY.out L2.out).mono ?_
        rintro e w5 h5
        obtain ⟨A3, c3, rfl, h6, h7⟩ := h5.shape
        rw [← I2.out] at h6
        have N6 := Lib.hid h6
        have B6 := Lib.hid h7
        clear h5 h6 h7
        go_wp2_with fail
        go_roundw
        case rel => exact ⟨j + 1, by omega, by go_num, by rw [I1.out]; exact OO.out.below B6.out, by rw [← I2.out]; exact N6.out, step_ BB.out B6.out⟩
        case measure => simp [intOf]; omega
    · obtain rfl : n = j := by omega
      have HS := Lib.hid (show l.take n = l from List.take_of_length_le (by have := HL.out; omega))
      go_wp2_with fail
      go_ret2
      have e1 : (rise (inn (l.take n) m)).length = P.length := by rw [HS.out, hP.out]
      have e2 : (rise (out_ (l.take n) m)).length = Q.length := by rw [HS.out, hQ.out]
      rw [e1, HS.out, hP.out] at OO
      rw [e2, HS.out, hQ.out] at O2
      refine ⟨⟨A0, c0, A1, c1, ?_, OO.out, O2.out⟩, BB.out⟩
      show Ending.returned (.tuple #[.slice A0 (rise (inn (l.take n) m)).length c0, .slice A1 (rise (out_ (l.take n) m)).length c1]) = _
      rw [e1, e2]
/-- The bucket of x: its upper bits. -/
def bktI (x bits : Int) : Int := x / 2 ^ (64 - min (max bits 0) 30).toNat
theorem shr_lt {x : Int} (h0 : 0 ≤ x) (h1 : x < 18446744073709551616) (k : Nat) (hk : 34 ≤ k) : 0 ≤ x / 2 ^ k ∧ x / 2 ^ k < 1073741824 := by
  have hp : (0 : Int) < 2 ^ k := Int.pow_pos (by decide)
  refine ⟨Int.ediv_nonneg h0 (by omega), Int.ediv_lt_of_lt_mul hp ?_⟩
  obtain ⟨m, rfl⟩ : ∃ m, k = 34 + m := ⟨k - 34, by omega⟩
  have : (1 : Int) ≤ 2 ^ m := Int.add_one_le_of_lt (Int.pow_pos (by decide))
  rw [Int.pow_add]
  have e : (2 : Int) ^ 34 = 17179869184 := by decide
  rw [e]
  omega
theorem bkt_cases (bits : Int) : ∃ k : Nat, 34 ≤ k ∧ k ≤ 64 ∧ (64 : Int) - min (max bits 0) 30 = k ∧ (64 - min (max bits 0) 30).toNat = k := ⟨(64 - min (max bits 0) 30).toNat, by omega, by omega, by omega, rfl⟩
set_option maxHeartbeats 2000000 in
theorem bucket_is (x bits r : Int) (w : World) (hx : 0 ≤ x ∧ x < 18446744073709551616) (hr : Hid (bktI x bits = r)) : Calls Tryz.prog 18 #[.int .u64 x, .int .i64 bits] w fun e w' => e = .returned (.int .i64 r) ∧ w = w' := by
  obtain ⟨k, h1, h2, h3, h4⟩ := bkt_cases bits
  have hq := shr_lt hx.1 hx.2 k h1
  obtain ⟨q, hq2⟩ : ∃ q : Int, x / 2 ^ k = q := ⟨_, rfl⟩
  have R := Lib.hid (show q = r by rw [← hr.out, ← hq2]; unfold bktI; rw [h4])
  rw [hq2] at hq
  have HQ := Lib.hid hq2
  have QB := Lib.hid hq
  have K3 := Lib.hid h3
  clear hq2 hq h4 hx
  go_enter Tryz.func18, Tryz.ntmps18
  go_wp2_with fail
  go_ret
  have h5 := QB.out
  exact ⟨ret_int (by rw [HQ.out, ← R.out]; unfold wrap64; omega), rfl⟩
theorem run_makeMapS (n : Int) (w : World) : (Instr.makeMap 70 (some (.int .i64 n))).run Tryz.prog w = .ok (.map (some w.heap.size)) (w.alloc (.map #[] 0)) := by
  unfold Instr.makeMap
  simp [go_sem]
theorem wpList_makeS {ops : Array Oper} {rest : List Oper} {op : Oper} {a : Act} {w : World} {Q : Exit → Act → World → Prop} (hgd : op.guard = none) (x : Operand) (ho : op.op = .makeMap 70 (some x)) (n : Int) (hx : a.eval x = .int .i64 n)
    (h : ∀ b w', Hid (b = w.heap.size) → Hid (SetM w' b 0 []) → Hid (Below w.heap.size w w') → wpList Tryz.prog ops Q rest (a.put op.dst (.map (some b))) w') : wpList Tryz.prog ops Q (op :: rest) a w := by
  refine wpList_plain hgd fun K hK => ?_
  have H := h w.heap.size (w.alloc (.map #[] 0)) (Lib.hid rfl) (Lib.hid ⟨.map [], World.ownsMap_made w Tryz.prog 22 unitElem, fun d _ => rfl⟩) (Lib.hid (new_below w _))
  unfold Oper.wp execOp
  simp only [ho, Option.map_some, hx, Sem.run_bind, run_makeMapS, Result.andThen_ok, Sem.run_pure]
  exact hK _ _ H
theorem part_bkt {x : Int} (h0 : 0 ≤ x) (h1 : x < 18446744073709551616) (k : Nat) (hk : k ≤ 64) : Mx.part x k 64 = x / 2 ^ k := by
  by_cases h : k = 64
  · subst h
    rw [Mx.part_big x _ _ (by decide)]
    have e : (2 : Int) ^ 64 = 18446744073709551616 := by decide
    rw [e]; omega
  · rw [Mx.part64 x k (by omega)]
set_option maxHeartbeats 2000000 in
theorem refBucket_is (x bits r : Int) (w : World) (hx : 0 ≤ x ∧ x < 18446744073709551616) (hr : Hid (bktI x bits = r)) : Calls Tryz.prog 19 #[.int .u64 x, .int .i64 bits] w fun e w' => e = .returned (.int .i64 r) ∧ w = w' := by
  obtain ⟨k, h1, h2, h3, h4⟩ := bkt_cases bits
  have hq := shr_lt hx.1 hx.2 k h1
  have hp := part_bkt hx.1 hx.2 k h2
  obtain ⟨q, hq2⟩ : ∃ q : Int, x / 2 ^ k = q := ⟨_, rfl⟩
  have R := Lib.hid (show q = r by rw [← hr.out, ← hq2]; unfold bktI; rw [h4])
  rw [hq2] at hq hp
  have HP := Lib.hid hp
  have QB := Lib.hid hq
  have K3 := Lib.hid h3
  have HX := Lib.hid hx
  clear hq2 hq h4 hx hp
  go_enter Tryz.func19, Tryz.ntmps19
  go_wp2_with fail
  refine (Mx.refPart_is x k 64 q _ HX.out.1 HX.out.2 HP).mono ?_
  rintro e w' ⟨rfl, rfl⟩
  go_wp2_with fail
  go_ret
  have h5 := QB.out
  exact ⟨ret_int (by rw [← R.out]; unfold wrap64; omega), rfl⟩
theorem among_is (A : Option Addr) (n cap : Nat) (l : List Int) (w : World) (h : NumsAt w (.slice A n cap) l) (hn : n ≤ 1000) : Calls Tryz.prog 27 #[.slice A n cap] w fun e w' => (∃ g b k s, e = .returned (.func (.func 41) #[] #[.pointer (some ⟨g, 0, none⟩)]) ∧ Blk w' g 70 [.map (some b)] ∧ SetM w' b k s ∧ (∀ x, s.contains x = l.contains x) ∧ w.heap.size ≤ g ∧ w.heap.size ≤ b) ∧ Below w.heap.size w w' := by
  have H := Lib.hid h
  have HL := Lib.hid h.len
  have NL := Lib.hid h.nums
  clear h
  go_enter Tryz.func27, Tryz.ntmps27
  go_wp2_with (refine wpList_makeS rfl _ rfl _ rfl ?_; intro b w1 e1 M1 B1)
  have G0 := Lib.hid (blk_alloc w1 70 [.map (some b)])
  have BA := Lib.hid (new_below w1 (.cells #[.map (some b)] 70))
  have M2 := Lib.hid (M1.out.below BA.out)
  have LB := Lib.hid (show w.heap.size ≤ b from Nat.le_of_eq e1.out.symm)
  have LG := Lib.hid (show w.heap.size ≤ w1.heap.size from B1.out.size)
  have BW := Lib.hid (step_ B1.out BA.out)
  go_loopw [5, 11] (fun x i wr => ∃ (j : Nat) (s : List Int), j ≤ n ∧ i = .int .i64 j ∧ SetM wr b j s ∧ (∀ x, s.contains x = (l.take j).contains x) ∧ Blk wr w1.heap.size 70 [.map (some b)] ∧ Below w.heap.size w wr) (fun _ i _ => n - (intOf i).toNat)
  case atStart => exact ⟨0, [], Nat.zero_le _, rfl, M2.out, fun x => rfl, G0.out, BW.out⟩
  case round =>
    obtain ⟨j, s, hj, rfl, hm, hs, hg, hb⟩ := hrel
    have MM := Lib.hid hm
    have SS := Lib.hid hs
    have GG := Lib.hid hg
    have BB := Lib.hid hb
    clear hm hs hg hb
    by_cases hlt : j < n
    · obtain ⟨G, p, hE, hEc, -⟩ := (H.out.below BB.out).elem j (by have := HL.out; omega)
      have E := Lib.hid hE
      have T := Lib.hid (take_getDG 0 (l := l) (j := j) (by have := HL.out; omega))
      have NY := Lib.hid (NL.out.at_ j)
      obtain ⟨y, hy⟩ : ∃ y, l.getD j 0 = y := ⟨_, rfl⟩
      rw [hy] at hEc T NY
      clear hE hy
      have c3 := GG.out.cell (i := 0) rfl
      have SN := Lib.hid (show ∀ x, (y :: s).contains x = (l.take (j + 1)).contains x from fun x => by
        have e := SS.out x
        rw [T.out, List.contains_cons, e, Bool.eq_iff_iff]
        simp
        exact Or.comm)
      go_wp2_with (first
        | (refine wpList_indexN Tryz.underlying24 rfl _ _ rfl A n cap G p j _ rfl rfl (by first | rfl | omega) E.out ?_)
        | (refine wpList_putD rfl _ _ _ rfl b j s y rfl rfl rfl MM.out (by omega) NY.out ?_; intro w5 M5 O5))
      go_roundw
      case rel =>
        refine ⟨j + 1, y :: s, by omega, by go_num, M5.out, SN.out, ?_, BB.out.trans (O5.out.below LB.out BB.out.size)⟩
        exact (O5.out.block _ GG.out.lt (MM.out.neq GG.out).symm).trans GG.out
      case measure => simp [intOf]; omega
    · obtain rfl : n = j := by omega
      have HS := Lib.hid (show l.take n = l from List.take_of_length_le (by have := HL.out; omega))
      go_wp2_with fail
      go_ret
      exact ⟨⟨_, b, _, s, rfl, GG.out, MM.out, fun x => by rw [SS.out x, HS.out], LG.out, LB.out⟩, BB.out⟩
end Go.Proofs.YtnpbmihbmilkbaaGreat
namespace Go.Proofs.YtnpbmihbmilkbaaGreat
open Go.RowKit Go.Shelf
attribute [local go_sem] Oper.semAt_some
theorem Own2.low {lo g : Nat} {w2 V V' : World} (h : Own2 lo w2 V) (hb : Only g V V') (hg : g < lo) : Own2 lo w2 V' :=
  ⟨fun k h1 h2 => (hb.block k (by have := h.size; omega) (by omega)).trans (h.same k h1 h2), Nat.le_trans h.size hb.size⟩
theorem NumsAt.only {w w' : World} {g n cap : Nat} {A : Option Addr} {l : List Int} (h : NumsAt w (.slice A n cap) l) (ho : Only g w w') (hg : ∀ G off, A = some ⟨G, off, none⟩ → G ≠ g) : NumsAt w' (.slice A n cap) l := by
  obtain ⟨a, c, e, hc, hn, hx⟩ := h
  cases e
  refine ⟨_, _, rfl, hc, hn, fun h0 => ?_⟩
  obtain ⟨G, off, e, hG, hr⟩ := hx h0
  refine ⟨G, off, e, Nat.lt_of_lt_of_le hG ho.size, fun i hi => ?_⟩
  rw [World.cell?_of_block (ho.block G hG (hg G off e))]
  exact hr i hi
theorem hsum_U (seed : Int) (x : Am) : 0 ≤ hsum seed x ∧ hsum seed x < 18446744073709551616 := Mx.sumI_U64 _ _
theorem nxA_ok {s pre : List Am} {x : Am} (h : NxA s pre x) (hs : St s) (hn : s.length ≤ 600) : x.Ok ∧ pre.length < 600 := by
  obtain ⟨rest, e⟩ := h
  refine ⟨hs.ok x (by rw [e]; simp), ?_⟩
  rw [e, List.length_append, List.length_cons] at hn
  omega
set_option maxRecDepth 100000 in
set_option maxHeartbeats 8000000 in
theorem keys_is (seed : Int) (hU : Hid (Mx.U64 seed)) (A : Option Addr) (n cap : Nat) (a : List Am) (L : List Int) (w : World) (h : RowV w A n cap a) (hn : n ≤ 600) (hL : Hid (keysS (hsum seed) (norm a) = L)) :
    Calls Tryz.prog 9 #[.int .u64 seed, .slice A n cap] w (GivesU w L) := by
  have Q1 := Lib.hid (blk_alloc w 24 [.slice none 0 0])
  have B0 := Lib.hid (new_below w (.cells #[.slice none 0 0] 24))
  have R0 := Lib.hid h
  have HA := Lib.hid hn
  clear h
  refine (callsIn_wide (n := 10)).1 ?_
  refine callsIn_of_wp_marks Tryz.func9 rfl trivial ?_ rfl
  simp only [Tryz.ntmps9, List.size_toArray, List.length_cons, List.length_nil, Nat.reduceAdd, Nat.reduceSub, Array.replicate_succ, Array.replicate_zero, List.push_toArray, List.append_toArray, List.nil_append, List.cons_append]
  gi_wp2_with fail
  refine ⟨trivial, (callsIn_wide.2 (hashed_is seed A n cap _)).mono ?_⟩
  rintro e w2 ⟨⟨gA, gS, rfl, kA, kS, la, ls⟩, b1⟩
  have KA := Lib.hid kA
  have KS := Lib.hid kS
  have Q2 := Lib.hid (Q1.out.below b1)
  have B1 := Lib.hid (step_ B0.out b1)
  have LA := Lib.hid (show w.heap.size + 1 ≤ gA by simpa using la)
  have LS := Lib.hid (show w.heap.size + 1 ≤ gS by simpa using ls)
  have SZ := Lib.hid (show w.heap.size + 1 ≤ w2.heap.size by have := b1.size; simpa using this)
  have ST := Lib.hid (norm_st R0.out.ok)
  have hsl : (norm a).length ≤ 600 := by have := norm_len a; have := R0.out.len; omega
  clear kA kS la ls b1 Q1
  gi_wp2_with fail
  rename_i K0 hK0
  obtain ⟨s, hs⟩ : ∃ s, norm a = s := ⟨_, rfl⟩
  have HS := Lib.hid (show SeqGen 36 #[.pointer (some ⟨gA, 0, none⟩), .pointer (some ⟨gS, 0, none⟩)] _ (encH seed) (NxA s) (fun t => t = s) from hs ▸ hashed_seq seed hU.out gA gS A n cap a HA.out)
  rw [hs] at ST hL hsl
  clear hs
  have SL := Lib.hid hsl
  clear hsl
  refine range_gen (gf := 36) (lb := #[.pointer (some ⟨gA, 0, none⟩), .pointer (some ⟨gS, 0, none⟩)]) rfl (fun _ _ => rfl) HS.out (fun _ => rfl)
    (fun B pre V => AI2 w.heap.size w 600 B (pre.map (hsum seed)) V ∧ Own2 (w.heap.size + 1) w2 V)
    (fun V => False)
    (fun B pre V V' h hb => by obtain ⟨⟨D, m, c, h1, h2, h3, h4⟩, h5⟩ := h; exact ⟨⟨D, m, c, h1.below hb, h2.below hb, h3.trans (hb.mono h3.size), h4⟩, h5.below hb⟩)
    (fun B pre V V' h9 h ho hg hB => by
      obtain ⟨⟨D, m, c, h1, h2, h3, h4⟩, h5⟩ := h
      have := SZ.out
      exact ⟨⟨D, m, c, h1.only ho (by omega), h2.only ho (h2.geS hB), h3.trans (ho.below (by omega) h3.size), h4⟩, h5.only ho (by omega)⟩)
    (fun B pre V o hB h => by
      obtain ⟨⟨D, m, c, h1, h2, h3, h4⟩, h5⟩ := h
      have := SZ.out
      exact ⟨⟨D, m, c, blk_put h1 (by omega), h2.putS (h2.geS (by omega)), below_put h3 (by omega), h4⟩, h5.put (by omega)⟩)
    (fun V o h => h.elim)
    (fun V V' g h _ _ => h.elim)
    (fun B pre V h => by obtain ⟨⟨D, m, c, h1, h2, h3, h4⟩, h5⟩ := h; exact ⟨⟨h5.blk KA.out LA.out, R0.out.below h3⟩, h5.blk KS.out LS.out⟩)
    (fun V hb => ⟨⟨KA.out.below hb, R0.out.below (step_ B1.out hb)⟩, KS.out.below hb⟩)
    (fun B V hB hV hb => ⟨⟨none, 0, 0, Q2.out.below hb, ownN_nil _ _, step_ B1.out hb, Nat.zero_le _⟩, ⟨fun k _ h2 => hb.block k h2, hb.size⟩⟩)
    (fun B pre x a' V => (x.Ok ∧ pre.length < 600) ∧ a' = { tmps := #[.int .u64 seed, .slice A n cap, undef, undef, .slice none 0 0, .pointer (some ⟨w.heap.size, 0, none⟩), .int .u64 (hsum seed x), .int .u64 seed, .slice A n cap, .func (.func 36) #[] #[.pointer (some ⟨gA, 0, none⟩), .pointer (some ⟨gS, 0, none⟩)], .int .u64 (hsum seed x), .agg x.cells.toArray, undef, undef, undef, undef, undef, undef], defers := [] } ∧ AI2 w.heap.size w 600 B (pre.map (hsum seed)) V ∧ Own2 (w.heap.size + 1) w2 V)
    (fun B pre x a' V o hB h => by
      obtain ⟨hx, e, ⟨D, m, c, h1, h2, h3, h4⟩, h5⟩ := h
      have := SZ.out
      exact ⟨hx, e, ⟨D, m, c, blk_put h1 (by omega), h2.putS (h2.geS (by omega)), below_put h3 (by omega), h4⟩, h5.put (by omega)⟩)
    ?assign ?body ?done ?stop
  case assign =>
    intro l B pre x W K hnx hi hB hB2 hlt hK
    have XO := Lib.hid (nxA_ok hnx ST.out SL.out)
    have HI := Lib.hid hi
    clear hi hnx
    simp only [encH, List.zip_toArray, List.zip_cons_cons, List.zip_nil_right, List.foldl_toArray', List.foldl_cons, List.foldl_nil, List.size_toArray, List.length_cons, List.length_nil, List.setIfInBounds_toArray, List.set_cons_zero, List.set_cons_succ]
    gi_wp2_with fail
    exact hK _ _ (Below.refl _ _) ⟨XO.out, rfl, HI.out⟩
  case body =>
    intro l B pre x a' W hnx hax hB hB2 hlt
    obtain ⟨hx, rfl, ⟨D, m, c, h1, h2, h3, h4⟩, h5⟩ := hax
    have XO := Lib.hid hx
    have XU := Lib.hid (hsum_U seed x)
    have H1 := Lib.hid h1
    have H2 := Lib.hid h2
    have H3 := Lib.hid h3
    have H5 := Lib.hid h5
    have LB := Lib.hid (show w.heap.size + 3 ≤ B by have := SZ.out; omega)
    have LW := Lib.hid (show w2.heap.size + 2 ≤ B from hB)
    have LB2 := Lib.hid hB2
    have PL := Lib.hid (show (pre.map (hsum seed)).length + [hsum seed x].length ≤ 30000 by simp; omega)
    have c0 := h1.cell (i := 0) rfl
    clear hx h1 h2 h3 h5 hB hB2 h4
    gi_wp2_with (first
      | (refine in_plain (wide_in l) rfl (by intro c h; cases h) ?_; refine wpList_num1 Tryz.underlying24 rfl _ rfl (hsum seed x) rfl XU.out ?_; intro g6 w6 e6 N6 B6; refine in_done ?_)
      | (refine in_plain (wide_in l) rfl (by intro c h; cases h) ?_; refine wpList_app_n Tryz.underlying24 rfl _ _ rfl B (.slice D m c) (.slice (some ⟨g6, 0, none⟩) 1 1) (pre.map (hsum seed)) [hsum seed x] rfl rfl (H2.out.below B6.out) N6.out PL.out (Nat.le_trans LB2.out B6.out.size) ?_; intro D7 m7 c7 w7 e7 O7 B7 G7; refine in_done ?_)
      | (refine in_plain (wide_in l) rfl (by intro c h; cases h) ?_; refine wpList_storeS rfl _ _ rfl w.heap.size (.slice D m c) D7 m7 c7 rfl rfl ((H1.out.below B6.out).upto B7.out (by have := LB.out; omega)) ?_; intro w8 N8 O8; refine in_done ?_))
    have BW := Lib.hid (show Below B W w7 from (B6.out.mono LB2.out).trans B7.out)
    have hz1 := BW.out.size
    have hz2 := LB2.out
    have hz3 := LB.out
    have hz4 := LW.out
    refine ⟨?_, fun k hk1 hk2 => ?_, ⟨D7, m7, c7, N8.out, ?_, ?_, ?_⟩, ?_⟩
    · exact (KeepL.below BW.out (by have := SZ.out; omega)).trans (KeepL.only O8.out (by have := SZ.out; omega) (by have := SZ.out; omega) (by have := SZ.out; omega))
    · exact (O8.out.block k (by omega) (by have := SZ.out; omega)).trans (BW.out.block k hk2)
    · exact O7.out.only O8.out (O7.out.geS (by omega))
    · exact (H3.out.trans (BW.out.mono (by omega))).trans (O8.out.below (Nat.le_refl _) (by omega))
    · have := XO.out.2; simp; omega
    · exact Own2.low ⟨fun k h1 h2 => (BW.out.block k (by omega)).trans (H5.out.same k h1 h2), Nat.le_trans H5.out.size (by have := BW.out.size; omega)⟩ O8.out (by omega)
  case done =>
    intro D B t W hD hD2 hB hf hi hd
    subst hf
    obtain ⟨⟨D1, m1, c1, h1, h2, h3, h4⟩, h5⟩ := hi
    have OW := Lib.hid h2
    have H3 := Lib.hid h3
    have HL4 := Lib.hid h4
    have c0 := h1.cell (i := 0) rfl
    have HD := Lib.hid hd
    have LB := Lib.hid (show w.heap.size + 3 ≤ B by have := SZ.out; omega)
    have LD := Lib.hid (show w.heap.size + 1 ≤ D ∧ D < B by have := SZ.out; omega)
    have BS := Lib.hid (show w.heap.size ≤ W.heap.size from h3.size)
    have NB := Lib.hid (fun (G off : Nat) (e : D1 = some ⟨G, off, none⟩) => (h2.lt (k := G) (by rw [e]; rfl)).1)
    have NK := Lib.hid (fun (k : Nat) (e : (Value.slice D1 m1 c1).ownBlock = some k) => (h2.lt e).1)
    clear hd h1 h2 h3 h4 h5
    show K0 _ _
    refine hK0 _ _ ?_
    gi_wp2_with fail
    refine ⟨trivial, (callsIn_wide.2 (ordered_is w.heap.size _ _ W (OW.out.down (by have := LB.out; omega)) (by have := HL4.out; omega) BS.out)).mono ?_⟩
    rintro e w5 ⟨u, rfl, n5, g5, e5⟩
    obtain ⟨m5, rfl⟩ := e5 D1 m1 c1 rfl
    have N5 := Lib.hid n5
    have G5 := Lib.hid g5
    have HD5 := Lib.hid (show w5.heap[D]? = some (.deferred (some [])) from (g5.block D (Array.getElem?_eq_some_iff.1 HD.out).1 (fun e => by have := NK.out D e.symm; have := LD.out; omega)).trans HD.out)
    have B5 := Lib.hid (show Below w.heap.size w w5 from H3.out.trans ⟨g5.os, g5.tape, g5.output, g5.size, fun k hk => g5.block k (by have := BS.out; omega) (fun e => by have := NK.out k e.symm; have := LB.out; omega)⟩)
    clear n5 g5 e5
    gi_wp2_with fail
    refine marks_ret D rfl HD5.out (results_tmp rfl _ _ _) ?_
    have hlen := N5.out.len
    subst hlen
    rw [← hL.out]
    exact ⟨⟨D1, c1, rfl, N5.out.only (only_putObj _ _ _) (fun G off e => by have := NB.out G off e; have := LD.out; omega)⟩, below_put B5.out (by have := LD.out; omega)⟩
  case stop =>
    intro D W hD hx hd
    exact hx.elim
end Go.Proofs.YtnpbmihbmilkbaaGreat
